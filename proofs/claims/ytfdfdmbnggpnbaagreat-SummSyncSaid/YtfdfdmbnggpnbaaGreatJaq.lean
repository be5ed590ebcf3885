/- The bodies of the library's stable sort, over any program and any struct, and what it is to hold them. No conditions. -/
import Derived.Shelf.SlSortCmp.KitK
import Derived.Test.YtfdfdmbnggpnbaaGreatChecked
import Derived.Test.YtfdfdmbnggpnbaaGreatJap
namespace Go.Proofs.YtfdfdmbnggpnbaaGreat
open Go.Shelf Go.RowKit Go.Lib Go.Sort
def bSwap (nm : String) (ts te tc ti tb t0 : Nat) : Func :=
  { name := nm, origin := "slices.swapRangeCmpFunc", targs := #[te], params := #[ts, ti, ti, ti, tc], resultTypes := #[], nfree := 0, ntmps := 38, results := #[], body := some ((Code.region 0 #[
    { dst := some 10, op := Op.assign (Operand.const (Value.int IntKind.i64 0)), type := ti, pos := "zsortanyfunc.go:330", after := #[], guard := none }] false).seq 
    (Code.block 0 (((Code.region 1 #[
    { dst := some 11, op := Op.move (Operand.tmp 10), type := ti, pos := "zsortanyfunc.go:330", after := #[], guard := none }, 
    { dst := some 12, op := Op.move (Operand.tmp 3), type := ti, pos := "zsortanyfunc.go:330", after := #[], guard := none }, 
    { dst := some 13, op := Op.binOp BinOp.lss ti (Operand.tmp 11) (Operand.tmp 12) ti, type := tb, pos := "zsortanyfunc.go:330", after := #[{ on := 0, ground := Ground.data }, { on := 1, ground := Ground.data }], guard := none }] false).seq (Code.cond (Operand.tmp 13) Code.skip (Code.exit 0))).seq (
    (Code.block 1 (Code.region 3 #[
    { dst := some 16, op := Op.move (Operand.tmp 0), type := ts, pos := "zsortanyfunc.go:331", after := #[], guard := none }, 
    { dst := some 17, op := Op.move (Operand.tmp 1), type := ti, pos := "zsortanyfunc.go:331", after := #[], guard := none }, 
    { dst := some 18, op := Op.move (Operand.tmp 10), type := ti, pos := "zsortanyfunc.go:331", after := #[], guard := none }, 
    { dst := some 19, op := Op.binOp BinOp.add ti (Operand.tmp 17) (Operand.tmp 18) ti, type := ti, pos := "zsortanyfunc.go:331", after := #[{ on := 1, ground := Ground.data }, { on := 2, ground := Ground.data }], guard := none }, 
    { dst := some 20, op := Op.move (Operand.tmp 0), type := ts, pos := "zsortanyfunc.go:331", after := #[{ on := 21, ground := Ground.gcOnly Departure.lateStores }], guard := none }, 
    { dst := some 21, op := Op.move (Operand.tmp 2), type := ti, pos := "zsortanyfunc.go:331", after := #[{ on := 21, ground := Ground.gcOnly Departure.lateStores }], guard := none }, 
    { dst := some 22, op := Op.move (Operand.tmp 10), type := ti, pos := "zsortanyfunc.go:331", after := #[{ on := 21, ground := Ground.gcOnly Departure.lateStores }], guard := none }, 
    { dst := some 23, op := Op.binOp BinOp.add ti (Operand.tmp 21) (Operand.tmp 22) ti, type := ti, pos := "zsortanyfunc.go:331", after := #[{ on := 5, ground := Ground.data }, { on := 6, ground := Ground.data }, { on := 21, ground := Ground.gcOnly Departure.lateStores }], guard := none }, 
    { dst := some 24, op := Op.move (Operand.tmp 0), type := ts, pos := "zsortanyfunc.go:331", after := #[], guard := none }, 
    { dst := some 25, op := Op.move (Operand.tmp 2), type := ti, pos := "zsortanyfunc.go:331", after := #[], guard := none }, 
    { dst := some 26, op := Op.move (Operand.tmp 10), type := ti, pos := "zsortanyfunc.go:331", after := #[], guard := none }, 
    { dst := some 27, op := Op.binOp BinOp.add ti (Operand.tmp 25) (Operand.tmp 26) ti, type := ti, pos := "zsortanyfunc.go:331", after := #[{ on := 9, ground := Ground.data }, { on := 10, ground := Ground.data }], guard := none }, 
    { dst := some 28, op := Op.indexAddr ts (Operand.tmp 24) (Operand.tmp 27), type := t0, pos := "zsortanyfunc.go:331", after := #[{ on := 8, ground := Ground.data }, { on := 11, ground := Ground.data }], guard := none }, 
    { dst := some 29, op := Op.load te (Operand.tmp 28), type := te, pos := "zsortanyfunc.go:331", after := #[{ on := 12, ground := Ground.data }], guard := none }, 
    { dst := some 30, op := Op.move (Operand.tmp 0), type := ts, pos := "zsortanyfunc.go:331", after := #[], guard := none }, 
    { dst := some 31, op := Op.move (Operand.tmp 1), type := ti, pos := "zsortanyfunc.go:331", after := #[], guard := none }, 
    { dst := some 32, op := Op.move (Operand.tmp 10), type := ti, pos := "zsortanyfunc.go:331", after := #[], guard := none }, 
    { dst := some 33, op := Op.binOp BinOp.add ti (Operand.tmp 31) (Operand.tmp 32) ti, type := ti, pos := "zsortanyfunc.go:331", after := #[{ on := 15, ground := Ground.data }, { on := 16, ground := Ground.data }], guard := none }, 
    { dst := some 34, op := Op.indexAddr ts (Operand.tmp 30) (Operand.tmp 33), type := t0, pos := "zsortanyfunc.go:331", after := #[{ on := 14, ground := Ground.data }, { on := 17, ground := Ground.data }], guard := none }, 
    { dst := some 35, op := Op.load te (Operand.tmp 34), type := te, pos := "zsortanyfunc.go:331", after := #[{ on := 18, ground := Ground.data }], guard := none }, 
    { dst := some 36, op := Op.indexAddr ts (Operand.tmp 16) (Operand.tmp 19), type := t0, pos := "zsortanyfunc.go:331", after := #[{ on := 0, ground := Ground.data }, { on := 3, ground := Ground.data }, { on := 0, ground := Ground.phase }, { on := 1, ground := Ground.phase }, { on := 2, ground := Ground.phase }, { on := 3, ground := Ground.phase }, { on := 4, ground := Ground.textOnly Departure.lateStores }, { on := 5, ground := Ground.textOnly Departure.lateStores }, { on := 6, ground := Ground.textOnly Departure.lateStores }, { on := 7, ground := Ground.textOnly Departure.lateStores }, { on := 8, ground := Ground.phase }, { on := 9, ground := Ground.phase }, { on := 10, ground := Ground.phase }, { on := 11, ground := Ground.phase }, { on := 12, ground := Ground.phase }, { on := 13, ground := Ground.phase }, { on := 14, ground := Ground.textOnly Departure.lateStores }, { on := 15, ground := Ground.textOnly Departure.lateStores }, { on := 16, ground := Ground.textOnly Departure.lateStores }, { on := 17, ground := Ground.textOnly Departure.lateStores }, { on := 18, ground := Ground.textOnly Departure.lateStoresUnsure }, { on := 19, ground := Ground.phase }], guard := none }, 
    { dst := none, op := Op.store te (Operand.tmp 36) (Operand.tmp 29), type := t0, pos := "zsortanyfunc.go:331", after := #[{ on := 20, ground := Ground.data }, { on := 13, ground := Ground.data }, { on := 0, ground := Ground.phase }, { on := 1, ground := Ground.phase }, { on := 2, ground := Ground.phase }, { on := 3, ground := Ground.phase }, { on := 4, ground := Ground.textOnly Departure.lateStores }, { on := 5, ground := Ground.textOnly Departure.lateStores }, { on := 6, ground := Ground.textOnly Departure.lateStores }, { on := 7, ground := Ground.textOnly Departure.lateStores }, { on := 8, ground := Ground.phase }, { on := 9, ground := Ground.phase }, { on := 10, ground := Ground.phase }, { on := 11, ground := Ground.phase }, { on := 12, ground := Ground.phase }, { on := 13, ground := Ground.phase }, { on := 14, ground := Ground.textOnly Departure.lateStores }, { on := 15, ground := Ground.textOnly Departure.lateStores }, { on := 16, ground := Ground.textOnly Departure.lateStores }, { on := 17, ground := Ground.textOnly Departure.lateStores }, { on := 18, ground := Ground.textOnly Departure.lateStoresUnsure }, { on := 19, ground := Ground.phase }], guard := none }, 
    { dst := some 37, op := Op.indexAddr ts (Operand.tmp 20) (Operand.tmp 23), type := t0, pos := "zsortanyfunc.go:331", after := #[{ on := 4, ground := Ground.data }, { on := 7, ground := Ground.data }, { on := 0, ground := Ground.phase }, { on := 1, ground := Ground.phase }, { on := 2, ground := Ground.phase }, { on := 3, ground := Ground.phase }, { on := 4, ground := Ground.phase }, { on := 5, ground := Ground.phase }, { on := 6, ground := Ground.phase }, { on := 7, ground := Ground.phase }, { on := 8, ground := Ground.phase }, { on := 9, ground := Ground.phase }, { on := 10, ground := Ground.phase }, { on := 11, ground := Ground.phase }, { on := 12, ground := Ground.phase }, { on := 13, ground := Ground.phase }, { on := 14, ground := Ground.phase }, { on := 15, ground := Ground.phase }, { on := 16, ground := Ground.phase }, { on := 17, ground := Ground.phase }, { on := 18, ground := Ground.phase }, { on := 19, ground := Ground.phase }, { on := 20, ground := Ground.phase }, { on := 21, ground := Ground.phase }], guard := none }, 
    { dst := none, op := Op.store te (Operand.tmp 37) (Operand.tmp 35), type := t0, pos := "zsortanyfunc.go:331", after := #[{ on := 22, ground := Ground.data }, { on := 19, ground := Ground.data }, { on := 21, ground := Ground.chain }, { on := 0, ground := Ground.phase }, { on := 1, ground := Ground.phase }, { on := 2, ground := Ground.phase }, { on := 3, ground := Ground.phase }, { on := 4, ground := Ground.phase }, { on := 5, ground := Ground.phase }, { on := 6, ground := Ground.phase }, { on := 7, ground := Ground.phase }, { on := 8, ground := Ground.phase }, { on := 9, ground := Ground.phase }, { on := 10, ground := Ground.phase }, { on := 11, ground := Ground.phase }, { on := 12, ground := Ground.phase }, { on := 13, ground := Ground.phase }, { on := 14, ground := Ground.phase }, { on := 15, ground := Ground.phase }, { on := 16, ground := Ground.phase }, { on := 17, ground := Ground.phase }, { on := 18, ground := Ground.phase }, { on := 19, ground := Ground.phase }, { on := 20, ground := Ground.phase }, { on := 21, ground := Ground.phase }], guard := none }] true)).seq (Code.region 2 #[
    { dst := some 14, op := Op.move (Operand.tmp 10), type := ti, pos := "zsortanyfunc.go:330", after := #[], guard := none }, 
    { dst := some 15, op := Op.binOp BinOp.add ti (Operand.tmp 14) (Operand.const (Value.int IntKind.i64 1)) ti, type := ti, pos := "zsortanyfunc.go:330", after := #[{ on := 0, ground := Ground.data }], guard := none }, 
    { dst := some 10, op := Op.assign (Operand.tmp 15), type := ti, pos := "zsortanyfunc.go:330", after := #[{ on := 1, ground := Ground.data }, { on := 0, ground := Ground.phase }, { on := 1, ground := Ground.phase }], guard := none }] false))).loop)),
    norace := false, file := "slices/zsortanyfunc.go", endLine := 333, met := [Departure.mixedOrders, Departure.lateStoresUnsure, Departure.lateStores], tmpNames := #["data", "a", "b", "n", "cmp", "data", "a", "b", "n", "cmp", "i", "", "", "", "", "", "", "", "", "", "", "", "", "", "", "", "", "", "", "", "", "", "", "", "", "", "", ""] }
theorem bSwap_n (nm : String) (ts te tc ti tb t0 : Nat) : (bSwap nm ts te tc ti tb t0).ntmps = 38 := rfl

def bRot (nm : String) (fs : Nat) (ts te tc ti tb t0 : Nat) : Func :=
  { name := nm, origin := "slices.rotateCmpFunc", targs := #[te], params := #[ts, ti, ti, ti, tc], resultTypes := #[], nfree := 0, ntmps := 58, results := #[], body := some ((Code.region 0 #[
    { dst := some 12, op := Op.move (Operand.tmp 2), type := ti, pos := "zsortanyfunc.go:465", after := #[], guard := none }, 
    { dst := some 13, op := Op.move (Operand.tmp 1), type := ti, pos := "zsortanyfunc.go:465", after := #[], guard := none }, 
    { dst := some 14, op := Op.binOp BinOp.sub ti (Operand.tmp 12) (Operand.tmp 13) ti, type := ti, pos := "zsortanyfunc.go:465", after := #[{ on := 0, ground := Ground.data }, { on := 1, ground := Ground.data }], guard := none }, 
    { dst := some 10, op := Op.assign (Operand.tmp 14), type := ti, pos := "zsortanyfunc.go:465", after := #[{ on := 2, ground := Ground.data }, { on := 0, ground := Ground.phase }, { on := 1, ground := Ground.phase }, { on := 2, ground := Ground.phase }], guard := none }] false).seq ((Code.region 1 #[
    { dst := some 15, op := Op.move (Operand.tmp 3), type := ti, pos := "zsortanyfunc.go:466", after := #[], guard := none }, 
    { dst := some 16, op := Op.move (Operand.tmp 2), type := ti, pos := "zsortanyfunc.go:466", after := #[], guard := none }, 
    { dst := some 17, op := Op.binOp BinOp.sub ti (Operand.tmp 15) (Operand.tmp 16) ti, type := ti, pos := "zsortanyfunc.go:466", after := #[{ on := 0, ground := Ground.data }, { on := 1, ground := Ground.data }], guard := none }, 
    { dst := some 11, op := Op.assign (Operand.tmp 17), type := ti, pos := "zsortanyfunc.go:466", after := #[{ on := 2, ground := Ground.data }, { on := 0, ground := Ground.phase }, { on := 1, ground := Ground.phase }, { on := 2, ground := Ground.phase }], guard := none }] false).seq (
    (Code.block 0 (((Code.region 2 #[
    { dst := some 18, op := Op.move (Operand.tmp 10), type := ti, pos := "zsortanyfunc.go:468", after := #[], guard := none }, 
    { dst := some 19, op := Op.move (Operand.tmp 11), type := ti, pos := "zsortanyfunc.go:468", after := #[], guard := none }, 
    { dst := some 20, op := Op.binOp BinOp.neq ti (Operand.tmp 18) (Operand.tmp 19) ti, type := tb, pos := "zsortanyfunc.go:468", after := #[{ on := 0, ground := Ground.data }, { on := 1, ground := Ground.data }], guard := none }] false).seq (Code.cond (Operand.tmp 20) Code.skip (Code.exit 0))).seq 
    (Code.block 1 ((Code.region 3 #[
    { dst := some 21, op := Op.move (Operand.tmp 10), type := ti, pos := "zsortanyfunc.go:469", after := #[], guard := none }, 
    { dst := some 22, op := Op.move (Operand.tmp 11), type := ti, pos := "zsortanyfunc.go:469", after := #[], guard := none }, 
    { dst := some 23, op := Op.binOp BinOp.gtr ti (Operand.tmp 21) (Operand.tmp 22) ti, type := tb, pos := "zsortanyfunc.go:469", after := #[{ on := 0, ground := Ground.data }, { on := 1, ground := Ground.data }], guard := none }] false).seq (Code.cond (Operand.tmp 23) ((Code.region 4 #[
    { dst := some 24, op := Op.move (Operand.tmp 0), type := ts, pos := "zsortanyfunc.go:470", after := #[], guard := none }, 
    { dst := some 25, op := Op.move (Operand.tmp 2), type := ti, pos := "zsortanyfunc.go:470", after := #[], guard := none }, 
    { dst := some 26, op := Op.move (Operand.tmp 10), type := ti, pos := "zsortanyfunc.go:470", after := #[], guard := none }, 
    { dst := some 27, op := Op.binOp BinOp.sub ti (Operand.tmp 25) (Operand.tmp 26) ti, type := ti, pos := "zsortanyfunc.go:470", after := #[{ on := 1, ground := Ground.data }, { on := 2, ground := Ground.data }], guard := none }, 
    { dst := some 28, op := Op.move (Operand.tmp 2), type := ti, pos := "zsortanyfunc.go:470", after := #[], guard := none }, 
    { dst := some 29, op := Op.move (Operand.tmp 11), type := ti, pos := "zsortanyfunc.go:470", after := #[], guard := none }, 
    { dst := some 30, op := Op.move (Operand.tmp 4), type := tc, pos := "zsortanyfunc.go:470", after := #[], guard := none }, 
    { dst := some 31, op := Op.call { callee := Callee.value (Operand.func fs), args := #[Operand.tmp 24, Operand.tmp 27, Operand.tmp 28, Operand.tmp 29, Operand.tmp 30], argTypes := #[ts, ti, ti, ti, tc] }, type := t0, pos := "zsortanyfunc.go:470", after := #[{ on := 0, ground := Ground.data }, { on := 3, ground := Ground.data }, { on := 4, ground := Ground.data }, { on := 5, ground := Ground.data }, { on := 6, ground := Ground.data }], guard := none }] false).seq (Code.region 5 #[
    { dst := some 32, op := Op.move (Operand.tmp 10), type := ti, pos := "zsortanyfunc.go:471", after := #[], guard := none }, 
    { dst := some 33, op := Op.move (Operand.tmp 11), type := ti, pos := "zsortanyfunc.go:471", after := #[], guard := none }, 
    { dst := some 34, op := Op.binOp BinOp.sub ti (Operand.tmp 32) (Operand.tmp 33) ti, type := ti, pos := "zsortanyfunc.go:471", after := #[{ on := 0, ground := Ground.data }, { on := 1, ground := Ground.data }], guard := none }, 
    { dst := some 10, op := Op.assign (Operand.tmp 34), type := ti, pos := "zsortanyfunc.go:471", after := #[{ on := 2, ground := Ground.data }, { on := 0, ground := Ground.phase }, { on := 1, ground := Ground.phase }, { on := 2, ground := Ground.phase }], guard := none }] false)) ((Code.region 6 #[
    { dst := some 35, op := Op.move (Operand.tmp 0), type := ts, pos := "zsortanyfunc.go:473", after := #[], guard := none }, 
    { dst := some 36, op := Op.move (Operand.tmp 2), type := ti, pos := "zsortanyfunc.go:473", after := #[], guard := none }, 
    { dst := some 37, op := Op.move (Operand.tmp 10), type := ti, pos := "zsortanyfunc.go:473", after := #[], guard := none }, 
    { dst := some 38, op := Op.binOp BinOp.sub ti (Operand.tmp 36) (Operand.tmp 37) ti, type := ti, pos := "zsortanyfunc.go:473", after := #[{ on := 1, ground := Ground.data }, { on := 2, ground := Ground.data }], guard := none }, 
    { dst := some 39, op := Op.move (Operand.tmp 2), type := ti, pos := "zsortanyfunc.go:473", after := #[], guard := none }, 
    { dst := some 40, op := Op.move (Operand.tmp 11), type := ti, pos := "zsortanyfunc.go:473", after := #[], guard := none }, 
    { dst := some 41, op := Op.binOp BinOp.add ti (Operand.tmp 39) (Operand.tmp 40) ti, type := ti, pos := "zsortanyfunc.go:473", after := #[{ on := 4, ground := Ground.data }, { on := 5, ground := Ground.data }], guard := none }, 
    { dst := some 42, op := Op.move (Operand.tmp 10), type := ti, pos := "zsortanyfunc.go:473", after := #[], guard := none }, 
    { dst := some 43, op := Op.binOp BinOp.sub ti (Operand.tmp 41) (Operand.tmp 42) ti, type := ti, pos := "zsortanyfunc.go:473", after := #[{ on := 6, ground := Ground.data }, { on := 7, ground := Ground.data }], guard := none }, 
    { dst := some 44, op := Op.move (Operand.tmp 10), type := ti, pos := "zsortanyfunc.go:473", after := #[], guard := none }, 
    { dst := some 45, op := Op.move (Operand.tmp 4), type := tc, pos := "zsortanyfunc.go:473", after := #[], guard := none }, 
    { dst := some 46, op := Op.call { callee := Callee.value (Operand.func fs), args := #[Operand.tmp 35, Operand.tmp 38, Operand.tmp 43, Operand.tmp 44, Operand.tmp 45], argTypes := #[ts, ti, ti, ti, tc] }, type := t0, pos := "zsortanyfunc.go:473", after := #[{ on := 0, ground := Ground.data }, { on := 3, ground := Ground.data }, { on := 8, ground := Ground.data }, { on := 9, ground := Ground.data }, { on := 10, ground := Ground.data }], guard := none }] false).seq (Code.region 7 #[
    { dst := some 47, op := Op.move (Operand.tmp 11), type := ti, pos := "zsortanyfunc.go:474", after := #[], guard := none }, 
    { dst := some 48, op := Op.move (Operand.tmp 10), type := ti, pos := "zsortanyfunc.go:474", after := #[], guard := none }, 
    { dst := some 49, op := Op.binOp BinOp.sub ti (Operand.tmp 47) (Operand.tmp 48) ti, type := ti, pos := "zsortanyfunc.go:474", after := #[{ on := 0, ground := Ground.data }, { on := 1, ground := Ground.data }], guard := none }, 
    { dst := some 11, op := Op.assign (Operand.tmp 49), type := ti, pos := "zsortanyfunc.go:474", after := #[{ on := 2, ground := Ground.data }, { on := 0, ground := Ground.phase }, { on := 1, ground := Ground.phase }, { on := 2, ground := Ground.phase }], guard := none }] false)))))).loop).seq (Code.region 8 #[
    { dst := some 50, op := Op.move (Operand.tmp 0), type := ts, pos := "zsortanyfunc.go:478", after := #[], guard := none }, 
    { dst := some 51, op := Op.move (Operand.tmp 2), type := ti, pos := "zsortanyfunc.go:478", after := #[], guard := none }, 
    { dst := some 52, op := Op.move (Operand.tmp 10), type := ti, pos := "zsortanyfunc.go:478", after := #[], guard := none }, 
    { dst := some 53, op := Op.binOp BinOp.sub ti (Operand.tmp 51) (Operand.tmp 52) ti, type := ti, pos := "zsortanyfunc.go:478", after := #[{ on := 1, ground := Ground.data }, { on := 2, ground := Ground.data }], guard := none }, 
    { dst := some 54, op := Op.move (Operand.tmp 2), type := ti, pos := "zsortanyfunc.go:478", after := #[], guard := none }, 
    { dst := some 55, op := Op.move (Operand.tmp 10), type := ti, pos := "zsortanyfunc.go:478", after := #[], guard := none }, 
    { dst := some 56, op := Op.move (Operand.tmp 4), type := tc, pos := "zsortanyfunc.go:478", after := #[], guard := none }, 
    { dst := some 57, op := Op.call { callee := Callee.value (Operand.func fs), args := #[Operand.tmp 50, Operand.tmp 53, Operand.tmp 54, Operand.tmp 55, Operand.tmp 56], argTypes := #[ts, ti, ti, ti, tc] }, type := t0, pos := "zsortanyfunc.go:478", after := #[{ on := 0, ground := Ground.data }, { on := 3, ground := Ground.data }, { on := 4, ground := Ground.data }, { on := 5, ground := Ground.data }, { on := 6, ground := Ground.data }], guard := none }] false)))),
    norace := false, file := "slices/zsortanyfunc.go", endLine := 479, tmpNames := #["data", "a", "m", "b", "cmp", "data", "a", "m", "b", "cmp", "i", "j", "", "", "", "", "", "", "", "", "", "", "", "", "", "", "", "", "", "", "", "", "", "", "", "", "", "", "", "", "", "", "", "", "", "", "", "", "", "", "", "", "", "", "", "", "", ""] }
theorem bRot_n (nm : String) (fs : Nat) (ts te tc ti tb t0 : Nat) : (bRot nm fs ts te tc ti tb t0).ntmps = 58 := rfl

def bMerge (nm : String) (fr fm : Nat) (ts te tc ti tb tu t0 : Nat) : Func :=
  { name := nm, origin := "slices.symMergeCmpFunc", targs := #[te], params := #[ts, ti, ti, ti, tc], resultTypes := #[], nfree := 0, ntmps := 220, results := #[], body := some (((Code.region 0 #[
    { dst := some 25, op := Op.move (Operand.tmp 2), type := ti, pos := "zsortanyfunc.go:382", after := #[], guard := none }, 
    { dst := some 26, op := Op.move (Operand.tmp 1), type := ti, pos := "zsortanyfunc.go:382", after := #[], guard := none }, 
    { dst := some 27, op := Op.binOp BinOp.sub ti (Operand.tmp 25) (Operand.tmp 26) ti, type := ti, pos := "zsortanyfunc.go:382", after := #[{ on := 0, ground := Ground.data }, { on := 1, ground := Ground.data }], guard := none }, 
    { dst := some 28, op := Op.binOp BinOp.eql ti (Operand.tmp 27) (Operand.const (Value.int IntKind.i64 1)) ti, type := tb, pos := "zsortanyfunc.go:382", after := #[{ on := 2, ground := Ground.data }], guard := none }] false).seq (Code.cond (Operand.tmp 28) ((Code.region 1 #[
    { dst := some 29, op := Op.move (Operand.tmp 2), type := ti, pos := "zsortanyfunc.go:386", after := #[], guard := none }, 
    { dst := some 10, op := Op.assign (Operand.tmp 29), type := ti, pos := "zsortanyfunc.go:386", after := #[{ on := 0, ground := Ground.data }, { on := 0, ground := Ground.phase }], guard := none }] false).seq ((Code.region 2 #[
    { dst := some 30, op := Op.move (Operand.tmp 3), type := ti, pos := "zsortanyfunc.go:387", after := #[], guard := none }, 
    { dst := some 11, op := Op.assign (Operand.tmp 30), type := ti, pos := "zsortanyfunc.go:387", after := #[{ on := 0, ground := Ground.data }, { on := 0, ground := Ground.phase }], guard := none }] false).seq (
    (Code.block 0 (((Code.region 3 #[
    { dst := some 31, op := Op.move (Operand.tmp 10), type := ti, pos := "zsortanyfunc.go:388", after := #[], guard := none }, 
    { dst := some 32, op := Op.move (Operand.tmp 11), type := ti, pos := "zsortanyfunc.go:388", after := #[], guard := none }, 
    { dst := some 33, op := Op.binOp BinOp.lss ti (Operand.tmp 31) (Operand.tmp 32) ti, type := tb, pos := "zsortanyfunc.go:388", after := #[{ on := 0, ground := Ground.data }, { on := 1, ground := Ground.data }], guard := none }] false).seq (Code.cond (Operand.tmp 33) Code.skip (Code.exit 0))).seq 
    (Code.block 1 ((Code.region 4 #[
    { dst := some 34, op := Op.move (Operand.tmp 10), type := ti, pos := "zsortanyfunc.go:389", after := #[], guard := none }, 
    { dst := some 35, op := Op.move (Operand.tmp 11), type := ti, pos := "zsortanyfunc.go:389", after := #[], guard := none }, 
    { dst := some 36, op := Op.binOp BinOp.add ti (Operand.tmp 34) (Operand.tmp 35) ti, type := ti, pos := "zsortanyfunc.go:389", after := #[{ on := 0, ground := Ground.data }, { on := 1, ground := Ground.data }], guard := none }, 
    { dst := some 37, op := Op.convert ti tu (Operand.tmp 36), type := tu, pos := "zsortanyfunc.go:389", after := #[{ on := 2, ground := Ground.data }], guard := none }, 
    { dst := some 38, op := Op.binOp BinOp.shr tu (Operand.tmp 37) (Operand.const (Value.int IntKind.u64 1)) tu, type := tu, pos := "zsortanyfunc.go:389", after := #[{ on := 3, ground := Ground.data }], guard := none }, 
    { dst := some 39, op := Op.convert tu ti (Operand.tmp 38), type := ti, pos := "zsortanyfunc.go:389", after := #[{ on := 4, ground := Ground.data }], guard := none }, 
    { dst := some 12, op := Op.assign (Operand.tmp 39), type := ti, pos := "zsortanyfunc.go:389", after := #[{ on := 5, ground := Ground.data }, { on := 0, ground := Ground.phase }, { on := 1, ground := Ground.phase }, { on := 2, ground := Ground.phase }, { on := 3, ground := Ground.phase }, { on := 4, ground := Ground.phase }, { on := 5, ground := Ground.phase }], guard := none }] false).seq ((Code.region 5 #[
    { dst := some 40, op := Op.move (Operand.tmp 4), type := tc, pos := "zsortanyfunc.go:390", after := #[], guard := none }, 
    { dst := some 41, op := Op.move (Operand.tmp 0), type := ts, pos := "zsortanyfunc.go:390", after := #[], guard := none }, 
    { dst := some 42, op := Op.move (Operand.tmp 12), type := ti, pos := "zsortanyfunc.go:390", after := #[], guard := none }, 
    { dst := some 43, op := Op.indexAddr ts (Operand.tmp 41) (Operand.tmp 42), type := t0, pos := "zsortanyfunc.go:390", after := #[{ on := 1, ground := Ground.data }, { on := 2, ground := Ground.data }], guard := none }, 
    { dst := some 44, op := Op.load te (Operand.tmp 43), type := te, pos := "zsortanyfunc.go:390", after := #[{ on := 3, ground := Ground.data }], guard := none }, 
    { dst := some 45, op := Op.move (Operand.tmp 0), type := ts, pos := "zsortanyfunc.go:390", after := #[], guard := none }, 
    { dst := some 46, op := Op.move (Operand.tmp 1), type := ti, pos := "zsortanyfunc.go:390", after := #[], guard := none }, 
    { dst := some 47, op := Op.indexAddr ts (Operand.tmp 45) (Operand.tmp 46), type := t0, pos := "zsortanyfunc.go:390", after := #[{ on := 5, ground := Ground.data }, { on := 6, ground := Ground.data }], guard := none }, 
    { dst := some 48, op := Op.load te (Operand.tmp 47), type := te, pos := "zsortanyfunc.go:390", after := #[{ on := 7, ground := Ground.data }], guard := none }, 
    { dst := some 49, op := Op.call { callee := Callee.value (Operand.tmp 40), args := #[Operand.tmp 44, Operand.tmp 48], argTypes := #[te, te] }, type := ti, pos := "zsortanyfunc.go:390", after := #[{ on := 0, ground := Ground.data }, { on := 4, ground := Ground.data }, { on := 8, ground := Ground.data }], guard := none }, 
    { dst := some 50, op := Op.binOp BinOp.lss ti (Operand.tmp 49) (Operand.const (Value.int IntKind.i64 0)) ti, type := tb, pos := "zsortanyfunc.go:390", after := #[{ on := 9, ground := Ground.data }], guard := none }] true).seq (Code.cond (Operand.tmp 50) (Code.region 6 #[
    { dst := some 51, op := Op.move (Operand.tmp 12), type := ti, pos := "zsortanyfunc.go:391", after := #[], guard := none }, 
    { dst := some 52, op := Op.binOp BinOp.add ti (Operand.tmp 51) (Operand.const (Value.int IntKind.i64 1)) ti, type := ti, pos := "zsortanyfunc.go:391", after := #[{ on := 0, ground := Ground.data }], guard := none }, 
    { dst := some 10, op := Op.assign (Operand.tmp 52), type := ti, pos := "zsortanyfunc.go:391", after := #[{ on := 1, ground := Ground.data }, { on := 0, ground := Ground.phase }, { on := 1, ground := Ground.phase }], guard := none }] false) (Code.region 7 #[
    { dst := some 53, op := Op.move (Operand.tmp 12), type := ti, pos := "zsortanyfunc.go:393", after := #[], guard := none }, 
    { dst := some 11, op := Op.assign (Operand.tmp 53), type := ti, pos := "zsortanyfunc.go:393", after := #[{ on := 0, ground := Ground.data }, { on := 0, ground := Ground.phase }], guard := none }] false)))))).loop).seq (((Code.region 8 #[
    { dst := some 54, op := Op.move (Operand.tmp 1), type := ti, pos := "zsortanyfunc.go:397", after := #[], guard := none }, 
    { dst := some 13, op := Op.assign (Operand.tmp 54), type := ti, pos := "zsortanyfunc.go:397", after := #[{ on := 0, ground := Ground.data }, { on := 0, ground := Ground.phase }], guard := none }] false).seq 
    (Code.block 2 (((Code.region 9 #[
    { dst := some 55, op := Op.move (Operand.tmp 13), type := ti, pos := "zsortanyfunc.go:397", after := #[], guard := none }, 
    { dst := some 56, op := Op.move (Operand.tmp 10), type := ti, pos := "zsortanyfunc.go:397", after := #[], guard := none }, 
    { dst := some 57, op := Op.binOp BinOp.sub ti (Operand.tmp 56) (Operand.const (Value.int IntKind.i64 1)) ti, type := ti, pos := "zsortanyfunc.go:397", after := #[{ on := 1, ground := Ground.data }], guard := none }, 
    { dst := some 58, op := Op.binOp BinOp.lss ti (Operand.tmp 55) (Operand.tmp 57) ti, type := tb, pos := "zsortanyfunc.go:397", after := #[{ on := 0, ground := Ground.data }, { on := 2, ground := Ground.data }], guard := none }] false).seq (Code.cond (Operand.tmp 58) Code.skip (Code.exit 2))).seq (
    (Code.block 3 (Code.region 11 #[
    { dst := some 61, op := Op.move (Operand.tmp 0), type := ts, pos := "zsortanyfunc.go:398", after := #[], guard := none }, 
    { dst := some 62, op := Op.move (Operand.tmp 13), type := ti, pos := "zsortanyfunc.go:398", after := #[], guard := none }, 
    { dst := some 63, op := Op.move (Operand.tmp 0), type := ts, pos := "zsortanyfunc.go:398", after := #[{ on := 15, ground := Ground.gcOnly Departure.lateStores }], guard := none }, 
    { dst := some 64, op := Op.move (Operand.tmp 13), type := ti, pos := "zsortanyfunc.go:398", after := #[{ on := 15, ground := Ground.gcOnly Departure.lateStores }], guard := none }, 
    { dst := some 65, op := Op.binOp BinOp.add ti (Operand.tmp 64) (Operand.const (Value.int IntKind.i64 1)) ti, type := ti, pos := "zsortanyfunc.go:398", after := #[{ on := 3, ground := Ground.data }, { on := 15, ground := Ground.gcOnly Departure.lateStores }], guard := none }, 
    { dst := some 66, op := Op.move (Operand.tmp 0), type := ts, pos := "zsortanyfunc.go:398", after := #[], guard := none }, 
    { dst := some 67, op := Op.move (Operand.tmp 13), type := ti, pos := "zsortanyfunc.go:398", after := #[], guard := none }, 
    { dst := some 68, op := Op.binOp BinOp.add ti (Operand.tmp 67) (Operand.const (Value.int IntKind.i64 1)) ti, type := ti, pos := "zsortanyfunc.go:398", after := #[{ on := 6, ground := Ground.data }], guard := none }, 
    { dst := some 69, op := Op.indexAddr ts (Operand.tmp 66) (Operand.tmp 68), type := t0, pos := "zsortanyfunc.go:398", after := #[{ on := 5, ground := Ground.data }, { on := 7, ground := Ground.data }], guard := none }, 
    { dst := some 70, op := Op.load te (Operand.tmp 69), type := te, pos := "zsortanyfunc.go:398", after := #[{ on := 8, ground := Ground.data }], guard := none }, 
    { dst := some 71, op := Op.move (Operand.tmp 0), type := ts, pos := "zsortanyfunc.go:398", after := #[], guard := none }, 
    { dst := some 72, op := Op.move (Operand.tmp 13), type := ti, pos := "zsortanyfunc.go:398", after := #[], guard := none }, 
    { dst := some 73, op := Op.indexAddr ts (Operand.tmp 71) (Operand.tmp 72), type := t0, pos := "zsortanyfunc.go:398", after := #[{ on := 10, ground := Ground.data }, { on := 11, ground := Ground.data }], guard := none }, 
    { dst := some 74, op := Op.load te (Operand.tmp 73), type := te, pos := "zsortanyfunc.go:398", after := #[{ on := 12, ground := Ground.data }], guard := none }, 
    { dst := some 75, op := Op.indexAddr ts (Operand.tmp 61) (Operand.tmp 62), type := t0, pos := "zsortanyfunc.go:398", after := #[{ on := 0, ground := Ground.data }, { on := 1, ground := Ground.data }, { on := 0, ground := Ground.phase }, { on := 1, ground := Ground.phase }, { on := 2, ground := Ground.textOnly Departure.lateStores }, { on := 3, ground := Ground.textOnly Departure.lateStores }, { on := 4, ground := Ground.textOnly Departure.lateStores }, { on := 5, ground := Ground.phase }, { on := 6, ground := Ground.phase }, { on := 7, ground := Ground.phase }, { on := 8, ground := Ground.phase }, { on := 9, ground := Ground.phase }, { on := 10, ground := Ground.textOnly Departure.lateStores }, { on := 11, ground := Ground.textOnly Departure.lateStores }, { on := 12, ground := Ground.textOnly Departure.lateStoresUnsure }, { on := 13, ground := Ground.phase }], guard := none }, 
    { dst := none, op := Op.store te (Operand.tmp 75) (Operand.tmp 70), type := t0, pos := "zsortanyfunc.go:398", after := #[{ on := 14, ground := Ground.data }, { on := 9, ground := Ground.data }, { on := 0, ground := Ground.phase }, { on := 1, ground := Ground.phase }, { on := 2, ground := Ground.textOnly Departure.lateStores }, { on := 3, ground := Ground.textOnly Departure.lateStores }, { on := 4, ground := Ground.textOnly Departure.lateStores }, { on := 5, ground := Ground.phase }, { on := 6, ground := Ground.phase }, { on := 7, ground := Ground.phase }, { on := 8, ground := Ground.phase }, { on := 9, ground := Ground.phase }, { on := 10, ground := Ground.textOnly Departure.lateStores }, { on := 11, ground := Ground.textOnly Departure.lateStores }, { on := 12, ground := Ground.textOnly Departure.lateStoresUnsure }, { on := 13, ground := Ground.phase }], guard := none }, 
    { dst := some 76, op := Op.indexAddr ts (Operand.tmp 63) (Operand.tmp 65), type := t0, pos := "zsortanyfunc.go:398", after := #[{ on := 2, ground := Ground.data }, { on := 4, ground := Ground.data }, { on := 0, ground := Ground.phase }, { on := 1, ground := Ground.phase }, { on := 2, ground := Ground.phase }, { on := 3, ground := Ground.phase }, { on := 4, ground := Ground.phase }, { on := 5, ground := Ground.phase }, { on := 6, ground := Ground.phase }, { on := 7, ground := Ground.phase }, { on := 8, ground := Ground.phase }, { on := 9, ground := Ground.phase }, { on := 10, ground := Ground.phase }, { on := 11, ground := Ground.phase }, { on := 12, ground := Ground.phase }, { on := 13, ground := Ground.phase }, { on := 14, ground := Ground.phase }, { on := 15, ground := Ground.phase }], guard := none }, 
    { dst := none, op := Op.store te (Operand.tmp 76) (Operand.tmp 74), type := t0, pos := "zsortanyfunc.go:398", after := #[{ on := 16, ground := Ground.data }, { on := 13, ground := Ground.data }, { on := 15, ground := Ground.chain }, { on := 0, ground := Ground.phase }, { on := 1, ground := Ground.phase }, { on := 2, ground := Ground.phase }, { on := 3, ground := Ground.phase }, { on := 4, ground := Ground.phase }, { on := 5, ground := Ground.phase }, { on := 6, ground := Ground.phase }, { on := 7, ground := Ground.phase }, { on := 8, ground := Ground.phase }, { on := 9, ground := Ground.phase }, { on := 10, ground := Ground.phase }, { on := 11, ground := Ground.phase }, { on := 12, ground := Ground.phase }, { on := 13, ground := Ground.phase }, { on := 14, ground := Ground.phase }, { on := 15, ground := Ground.phase }], guard := none }] true)).seq (Code.region 10 #[
    { dst := some 59, op := Op.move (Operand.tmp 13), type := ti, pos := "zsortanyfunc.go:397", after := #[], guard := none }, 
    { dst := some 60, op := Op.binOp BinOp.add ti (Operand.tmp 59) (Operand.const (Value.int IntKind.i64 1)) ti, type := ti, pos := "zsortanyfunc.go:397", after := #[{ on := 0, ground := Ground.data }], guard := none }, 
    { dst := some 13, op := Op.assign (Operand.tmp 60), type := ti, pos := "zsortanyfunc.go:397", after := #[{ on := 1, ground := Ground.data }, { on := 0, ground := Ground.phase }, { on := 1, ground := Ground.phase }], guard := none }] false))).loop)).seq Code.ret)))) Code.skip)).seq (((Code.region 12 #[
    { dst := some 77, op := Op.move (Operand.tmp 3), type := ti, pos := "zsortanyfunc.go:406", after := #[], guard := none }, 
    { dst := some 78, op := Op.move (Operand.tmp 2), type := ti, pos := "zsortanyfunc.go:406", after := #[], guard := none }, 
    { dst := some 79, op := Op.binOp BinOp.sub ti (Operand.tmp 77) (Operand.tmp 78) ti, type := ti, pos := "zsortanyfunc.go:406", after := #[{ on := 0, ground := Ground.data }, { on := 1, ground := Ground.data }], guard := none }, 
    { dst := some 80, op := Op.binOp BinOp.eql ti (Operand.tmp 79) (Operand.const (Value.int IntKind.i64 1)) ti, type := tb, pos := "zsortanyfunc.go:406", after := #[{ on := 2, ground := Ground.data }], guard := none }] false).seq (Code.cond (Operand.tmp 80) ((Code.region 13 #[
    { dst := some 81, op := Op.move (Operand.tmp 1), type := ti, pos := "zsortanyfunc.go:410", after := #[], guard := none }, 
    { dst := some 14, op := Op.assign (Operand.tmp 81), type := ti, pos := "zsortanyfunc.go:410", after := #[{ on := 0, ground := Ground.data }, { on := 0, ground := Ground.phase }], guard := none }] false).seq ((Code.region 14 #[
    { dst := some 82, op := Op.move (Operand.tmp 2), type := ti, pos := "zsortanyfunc.go:411", after := #[], guard := none }, 
    { dst := some 15, op := Op.assign (Operand.tmp 82), type := ti, pos := "zsortanyfunc.go:411", after := #[{ on := 0, ground := Ground.data }, { on := 0, ground := Ground.phase }], guard := none }] false).seq (
    (Code.block 4 (((Code.region 15 #[
    { dst := some 83, op := Op.move (Operand.tmp 14), type := ti, pos := "zsortanyfunc.go:412", after := #[], guard := none }, 
    { dst := some 84, op := Op.move (Operand.tmp 15), type := ti, pos := "zsortanyfunc.go:412", after := #[], guard := none }, 
    { dst := some 85, op := Op.binOp BinOp.lss ti (Operand.tmp 83) (Operand.tmp 84) ti, type := tb, pos := "zsortanyfunc.go:412", after := #[{ on := 0, ground := Ground.data }, { on := 1, ground := Ground.data }], guard := none }] false).seq (Code.cond (Operand.tmp 85) Code.skip (Code.exit 4))).seq 
    (Code.block 5 ((Code.region 16 #[
    { dst := some 86, op := Op.move (Operand.tmp 14), type := ti, pos := "zsortanyfunc.go:413", after := #[], guard := none }, 
    { dst := some 87, op := Op.move (Operand.tmp 15), type := ti, pos := "zsortanyfunc.go:413", after := #[], guard := none }, 
    { dst := some 88, op := Op.binOp BinOp.add ti (Operand.tmp 86) (Operand.tmp 87) ti, type := ti, pos := "zsortanyfunc.go:413", after := #[{ on := 0, ground := Ground.data }, { on := 1, ground := Ground.data }], guard := none }, 
    { dst := some 89, op := Op.convert ti tu (Operand.tmp 88), type := tu, pos := "zsortanyfunc.go:413", after := #[{ on := 2, ground := Ground.data }], guard := none }, 
    { dst := some 90, op := Op.binOp BinOp.shr tu (Operand.tmp 89) (Operand.const (Value.int IntKind.u64 1)) tu, type := tu, pos := "zsortanyfunc.go:413", after := #[{ on := 3, ground := Ground.data }], guard := none }, 
    { dst := some 91, op := Op.convert tu ti (Operand.tmp 90), type := ti, pos := "zsortanyfunc.go:413", after := #[{ on := 4, ground := Ground.data }], guard := none }, 
    { dst := some 16, op := Op.assign (Operand.tmp 91), type := ti, pos := "zsortanyfunc.go:413", after := #[{ on := 5, ground := Ground.data }, { on := 0, ground := Ground.phase }, { on := 1, ground := Ground.phase }, { on := 2, ground := Ground.phase }, { on := 3, ground := Ground.phase }, { on := 4, ground := Ground.phase }, { on := 5, ground := Ground.phase }], guard := none }] false).seq ((Code.region 17 #[
    { dst := some 92, op := Op.move (Operand.tmp 4), type := tc, pos := "zsortanyfunc.go:414", after := #[], guard := none }, 
    { dst := some 93, op := Op.move (Operand.tmp 0), type := ts, pos := "zsortanyfunc.go:414", after := #[], guard := none }, 
    { dst := some 94, op := Op.move (Operand.tmp 2), type := ti, pos := "zsortanyfunc.go:414", after := #[], guard := none }, 
    { dst := some 95, op := Op.indexAddr ts (Operand.tmp 93) (Operand.tmp 94), type := t0, pos := "zsortanyfunc.go:414", after := #[{ on := 1, ground := Ground.data }, { on := 2, ground := Ground.data }], guard := none }, 
    { dst := some 96, op := Op.load te (Operand.tmp 95), type := te, pos := "zsortanyfunc.go:414", after := #[{ on := 3, ground := Ground.data }], guard := none }, 
    { dst := some 97, op := Op.move (Operand.tmp 0), type := ts, pos := "zsortanyfunc.go:414", after := #[], guard := none }, 
    { dst := some 98, op := Op.move (Operand.tmp 16), type := ti, pos := "zsortanyfunc.go:414", after := #[], guard := none }, 
    { dst := some 99, op := Op.indexAddr ts (Operand.tmp 97) (Operand.tmp 98), type := t0, pos := "zsortanyfunc.go:414", after := #[{ on := 5, ground := Ground.data }, { on := 6, ground := Ground.data }], guard := none }, 
    { dst := some 100, op := Op.load te (Operand.tmp 99), type := te, pos := "zsortanyfunc.go:414", after := #[{ on := 7, ground := Ground.data }], guard := none }, 
    { dst := some 101, op := Op.call { callee := Callee.value (Operand.tmp 92), args := #[Operand.tmp 96, Operand.tmp 100], argTypes := #[te, te] }, type := ti, pos := "zsortanyfunc.go:414", after := #[{ on := 0, ground := Ground.data }, { on := 4, ground := Ground.data }, { on := 8, ground := Ground.data }], guard := none }, 
    { dst := some 102, op := Op.binOp BinOp.lss ti (Operand.tmp 101) (Operand.const (Value.int IntKind.i64 0)) ti, type := tb, pos := "zsortanyfunc.go:414", after := #[{ on := 9, ground := Ground.data }], guard := none }, 
    { dst := some 103, op := Op.unOp UnOp.not tb (Operand.tmp 102), type := tb, pos := "zsortanyfunc.go:414", after := #[{ on := 10, ground := Ground.data }], guard := none }] true).seq (Code.cond (Operand.tmp 103) (Code.region 18 #[
    { dst := some 104, op := Op.move (Operand.tmp 16), type := ti, pos := "zsortanyfunc.go:415", after := #[], guard := none }, 
    { dst := some 105, op := Op.binOp BinOp.add ti (Operand.tmp 104) (Operand.const (Value.int IntKind.i64 1)) ti, type := ti, pos := "zsortanyfunc.go:415", after := #[{ on := 0, ground := Ground.data }], guard := none }, 
    { dst := some 14, op := Op.assign (Operand.tmp 105), type := ti, pos := "zsortanyfunc.go:415", after := #[{ on := 1, ground := Ground.data }, { on := 0, ground := Ground.phase }, { on := 1, ground := Ground.phase }], guard := none }] false) (Code.region 19 #[
    { dst := some 106, op := Op.move (Operand.tmp 16), type := ti, pos := "zsortanyfunc.go:417", after := #[], guard := none }, 
    { dst := some 15, op := Op.assign (Operand.tmp 106), type := ti, pos := "zsortanyfunc.go:417", after := #[{ on := 0, ground := Ground.data }, { on := 0, ground := Ground.phase }], guard := none }] false)))))).loop).seq (((Code.region 20 #[
    { dst := some 107, op := Op.move (Operand.tmp 2), type := ti, pos := "zsortanyfunc.go:421", after := #[], guard := none }, 
    { dst := some 17, op := Op.assign (Operand.tmp 107), type := ti, pos := "zsortanyfunc.go:421", after := #[{ on := 0, ground := Ground.data }, { on := 0, ground := Ground.phase }], guard := none }] false).seq 
    (Code.block 6 (((Code.region 21 #[
    { dst := some 108, op := Op.move (Operand.tmp 17), type := ti, pos := "zsortanyfunc.go:421", after := #[], guard := none }, 
    { dst := some 109, op := Op.move (Operand.tmp 14), type := ti, pos := "zsortanyfunc.go:421", after := #[], guard := none }, 
    { dst := some 110, op := Op.binOp BinOp.gtr ti (Operand.tmp 108) (Operand.tmp 109) ti, type := tb, pos := "zsortanyfunc.go:421", after := #[{ on := 0, ground := Ground.data }, { on := 1, ground := Ground.data }], guard := none }] false).seq (Code.cond (Operand.tmp 110) Code.skip (Code.exit 6))).seq (
    (Code.block 7 (Code.region 23 #[
    { dst := some 113, op := Op.move (Operand.tmp 0), type := ts, pos := "zsortanyfunc.go:422", after := #[], guard := none }, 
    { dst := some 114, op := Op.move (Operand.tmp 17), type := ti, pos := "zsortanyfunc.go:422", after := #[], guard := none }, 
    { dst := some 115, op := Op.move (Operand.tmp 0), type := ts, pos := "zsortanyfunc.go:422", after := #[{ on := 15, ground := Ground.gcOnly Departure.lateStores }], guard := none }, 
    { dst := some 116, op := Op.move (Operand.tmp 17), type := ti, pos := "zsortanyfunc.go:422", after := #[{ on := 15, ground := Ground.gcOnly Departure.lateStores }], guard := none }, 
    { dst := some 117, op := Op.binOp BinOp.sub ti (Operand.tmp 116) (Operand.const (Value.int IntKind.i64 1)) ti, type := ti, pos := "zsortanyfunc.go:422", after := #[{ on := 3, ground := Ground.data }, { on := 15, ground := Ground.gcOnly Departure.lateStores }], guard := none }, 
    { dst := some 118, op := Op.move (Operand.tmp 0), type := ts, pos := "zsortanyfunc.go:422", after := #[], guard := none }, 
    { dst := some 119, op := Op.move (Operand.tmp 17), type := ti, pos := "zsortanyfunc.go:422", after := #[], guard := none }, 
    { dst := some 120, op := Op.binOp BinOp.sub ti (Operand.tmp 119) (Operand.const (Value.int IntKind.i64 1)) ti, type := ti, pos := "zsortanyfunc.go:422", after := #[{ on := 6, ground := Ground.data }], guard := none }, 
    { dst := some 121, op := Op.indexAddr ts (Operand.tmp 118) (Operand.tmp 120), type := t0, pos := "zsortanyfunc.go:422", after := #[{ on := 5, ground := Ground.data }, { on := 7, ground := Ground.data }], guard := none }, 
    { dst := some 122, op := Op.load te (Operand.tmp 121), type := te, pos := "zsortanyfunc.go:422", after := #[{ on := 8, ground := Ground.data }], guard := none }, 
    { dst := some 123, op := Op.move (Operand.tmp 0), type := ts, pos := "zsortanyfunc.go:422", after := #[], guard := none }, 
    { dst := some 124, op := Op.move (Operand.tmp 17), type := ti, pos := "zsortanyfunc.go:422", after := #[], guard := none }, 
    { dst := some 125, op := Op.indexAddr ts (Operand.tmp 123) (Operand.tmp 124), type := t0, pos := "zsortanyfunc.go:422", after := #[{ on := 10, ground := Ground.data }, { on := 11, ground := Ground.data }], guard := none }, 
    { dst := some 126, op := Op.load te (Operand.tmp 125), type := te, pos := "zsortanyfunc.go:422", after := #[{ on := 12, ground := Ground.data }], guard := none }, 
    { dst := some 127, op := Op.indexAddr ts (Operand.tmp 113) (Operand.tmp 114), type := t0, pos := "zsortanyfunc.go:422", after := #[{ on := 0, ground := Ground.data }, { on := 1, ground := Ground.data }, { on := 0, ground := Ground.phase }, { on := 1, ground := Ground.phase }, { on := 2, ground := Ground.textOnly Departure.lateStores }, { on := 3, ground := Ground.textOnly Departure.lateStores }, { on := 4, ground := Ground.textOnly Departure.lateStores }, { on := 5, ground := Ground.phase }, { on := 6, ground := Ground.phase }, { on := 7, ground := Ground.phase }, { on := 8, ground := Ground.phase }, { on := 9, ground := Ground.phase }, { on := 10, ground := Ground.textOnly Departure.lateStores }, { on := 11, ground := Ground.textOnly Departure.lateStores }, { on := 12, ground := Ground.textOnly Departure.lateStoresUnsure }, { on := 13, ground := Ground.phase }], guard := none }, 
    { dst := none, op := Op.store te (Operand.tmp 127) (Operand.tmp 122), type := t0, pos := "zsortanyfunc.go:422", after := #[{ on := 14, ground := Ground.data }, { on := 9, ground := Ground.data }, { on := 0, ground := Ground.phase }, { on := 1, ground := Ground.phase }, { on := 2, ground := Ground.textOnly Departure.lateStores }, { on := 3, ground := Ground.textOnly Departure.lateStores }, { on := 4, ground := Ground.textOnly Departure.lateStores }, { on := 5, ground := Ground.phase }, { on := 6, ground := Ground.phase }, { on := 7, ground := Ground.phase }, { on := 8, ground := Ground.phase }, { on := 9, ground := Ground.phase }, { on := 10, ground := Ground.textOnly Departure.lateStores }, { on := 11, ground := Ground.textOnly Departure.lateStores }, { on := 12, ground := Ground.textOnly Departure.lateStoresUnsure }, { on := 13, ground := Ground.phase }], guard := none }, 
    { dst := some 128, op := Op.indexAddr ts (Operand.tmp 115) (Operand.tmp 117), type := t0, pos := "zsortanyfunc.go:422", after := #[{ on := 2, ground := Ground.data }, { on := 4, ground := Ground.data }, { on := 0, ground := Ground.phase }, { on := 1, ground := Ground.phase }, { on := 2, ground := Ground.phase }, { on := 3, ground := Ground.phase }, { on := 4, ground := Ground.phase }, { on := 5, ground := Ground.phase }, { on := 6, ground := Ground.phase }, { on := 7, ground := Ground.phase }, { on := 8, ground := Ground.phase }, { on := 9, ground := Ground.phase }, { on := 10, ground := Ground.phase }, { on := 11, ground := Ground.phase }, { on := 12, ground := Ground.phase }, { on := 13, ground := Ground.phase }, { on := 14, ground := Ground.phase }, { on := 15, ground := Ground.phase }], guard := none }, 
    { dst := none, op := Op.store te (Operand.tmp 128) (Operand.tmp 126), type := t0, pos := "zsortanyfunc.go:422", after := #[{ on := 16, ground := Ground.data }, { on := 13, ground := Ground.data }, { on := 15, ground := Ground.chain }, { on := 0, ground := Ground.phase }, { on := 1, ground := Ground.phase }, { on := 2, ground := Ground.phase }, { on := 3, ground := Ground.phase }, { on := 4, ground := Ground.phase }, { on := 5, ground := Ground.phase }, { on := 6, ground := Ground.phase }, { on := 7, ground := Ground.phase }, { on := 8, ground := Ground.phase }, { on := 9, ground := Ground.phase }, { on := 10, ground := Ground.phase }, { on := 11, ground := Ground.phase }, { on := 12, ground := Ground.phase }, { on := 13, ground := Ground.phase }, { on := 14, ground := Ground.phase }, { on := 15, ground := Ground.phase }], guard := none }] true)).seq (Code.region 22 #[
    { dst := some 111, op := Op.move (Operand.tmp 17), type := ti, pos := "zsortanyfunc.go:421", after := #[], guard := none }, 
    { dst := some 112, op := Op.binOp BinOp.sub ti (Operand.tmp 111) (Operand.const (Value.int IntKind.i64 1)) ti, type := ti, pos := "zsortanyfunc.go:421", after := #[{ on := 0, ground := Ground.data }], guard := none }, 
    { dst := some 17, op := Op.assign (Operand.tmp 112), type := ti, pos := "zsortanyfunc.go:421", after := #[{ on := 1, ground := Ground.data }, { on := 0, ground := Ground.phase }, { on := 1, ground := Ground.phase }], guard := none }] false))).loop)).seq Code.ret)))) Code.skip)).seq ((Code.region 24 #[
    { dst := some 129, op := Op.move (Operand.tmp 1), type := ti, pos := "zsortanyfunc.go:427", after := #[], guard := none }, 
    { dst := some 130, op := Op.move (Operand.tmp 3), type := ti, pos := "zsortanyfunc.go:427", after := #[], guard := none }, 
    { dst := some 131, op := Op.binOp BinOp.add ti (Operand.tmp 129) (Operand.tmp 130) ti, type := ti, pos := "zsortanyfunc.go:427", after := #[{ on := 0, ground := Ground.data }, { on := 1, ground := Ground.data }], guard := none }, 
    { dst := some 132, op := Op.convert ti tu (Operand.tmp 131), type := tu, pos := "zsortanyfunc.go:427", after := #[{ on := 2, ground := Ground.data }], guard := none }, 
    { dst := some 133, op := Op.binOp BinOp.shr tu (Operand.tmp 132) (Operand.const (Value.int IntKind.u64 1)) tu, type := tu, pos := "zsortanyfunc.go:427", after := #[{ on := 3, ground := Ground.data }], guard := none }, 
    { dst := some 134, op := Op.convert tu ti (Operand.tmp 133), type := ti, pos := "zsortanyfunc.go:427", after := #[{ on := 4, ground := Ground.data }], guard := none }, 
    { dst := some 18, op := Op.assign (Operand.tmp 134), type := ti, pos := "zsortanyfunc.go:427", after := #[{ on := 5, ground := Ground.data }, { on := 0, ground := Ground.phase }, { on := 1, ground := Ground.phase }, { on := 2, ground := Ground.phase }, { on := 3, ground := Ground.phase }, { on := 4, ground := Ground.phase }, { on := 5, ground := Ground.phase }], guard := none }] false).seq ((Code.region 25 #[
    { dst := some 135, op := Op.move (Operand.tmp 18), type := ti, pos := "zsortanyfunc.go:428", after := #[], guard := none }, 
    { dst := some 136, op := Op.move (Operand.tmp 2), type := ti, pos := "zsortanyfunc.go:428", after := #[], guard := none }, 
    { dst := some 137, op := Op.binOp BinOp.add ti (Operand.tmp 135) (Operand.tmp 136) ti, type := ti, pos := "zsortanyfunc.go:428", after := #[{ on := 0, ground := Ground.data }, { on := 1, ground := Ground.data }], guard := none }, 
    { dst := some 19, op := Op.assign (Operand.tmp 137), type := ti, pos := "zsortanyfunc.go:428", after := #[{ on := 2, ground := Ground.data }, { on := 0, ground := Ground.phase }, { on := 1, ground := Ground.phase }, { on := 2, ground := Ground.phase }], guard := none }] false).seq ((Code.region 26 #[
    { dst := some 20, op := Op.assign (Operand.const (Value.int IntKind.i64 0)), type := ti, pos := "zsortanyfunc.go:429", after := #[], guard := none }, 
    { dst := some 21, op := Op.assign (Operand.const (Value.int IntKind.i64 0)), type := ti, pos := "zsortanyfunc.go:429", after := #[{ on := 0, ground := Ground.chain }], guard := none }] false).seq (((Code.region 27 #[
    { dst := some 138, op := Op.move (Operand.tmp 2), type := ti, pos := "zsortanyfunc.go:430", after := #[], guard := none }, 
    { dst := some 139, op := Op.move (Operand.tmp 18), type := ti, pos := "zsortanyfunc.go:430", after := #[], guard := none }, 
    { dst := some 140, op := Op.binOp BinOp.gtr ti (Operand.tmp 138) (Operand.tmp 139) ti, type := tb, pos := "zsortanyfunc.go:430", after := #[{ on := 0, ground := Ground.data }, { on := 1, ground := Ground.data }], guard := none }] false).seq (Code.cond (Operand.tmp 140) ((Code.region 28 #[
    { dst := some 141, op := Op.move (Operand.tmp 19), type := ti, pos := "zsortanyfunc.go:431", after := #[], guard := none }, 
    { dst := some 142, op := Op.move (Operand.tmp 3), type := ti, pos := "zsortanyfunc.go:431", after := #[], guard := none }, 
    { dst := some 143, op := Op.binOp BinOp.sub ti (Operand.tmp 141) (Operand.tmp 142) ti, type := ti, pos := "zsortanyfunc.go:431", after := #[{ on := 0, ground := Ground.data }, { on := 1, ground := Ground.data }], guard := none }, 
    { dst := some 20, op := Op.assign (Operand.tmp 143), type := ti, pos := "zsortanyfunc.go:431", after := #[{ on := 2, ground := Ground.data }, { on := 0, ground := Ground.phase }, { on := 1, ground := Ground.phase }, { on := 2, ground := Ground.phase }], guard := none }] false).seq (Code.region 29 #[
    { dst := some 144, op := Op.move (Operand.tmp 18), type := ti, pos := "zsortanyfunc.go:432", after := #[], guard := none }, 
    { dst := some 21, op := Op.assign (Operand.tmp 144), type := ti, pos := "zsortanyfunc.go:432", after := #[{ on := 0, ground := Ground.data }, { on := 0, ground := Ground.phase }], guard := none }] false)) ((Code.region 30 #[
    { dst := some 145, op := Op.move (Operand.tmp 1), type := ti, pos := "zsortanyfunc.go:434", after := #[], guard := none }, 
    { dst := some 20, op := Op.assign (Operand.tmp 145), type := ti, pos := "zsortanyfunc.go:434", after := #[{ on := 0, ground := Ground.data }, { on := 0, ground := Ground.phase }], guard := none }] false).seq (Code.region 31 #[
    { dst := some 146, op := Op.move (Operand.tmp 2), type := ti, pos := "zsortanyfunc.go:435", after := #[], guard := none }, 
    { dst := some 21, op := Op.assign (Operand.tmp 146), type := ti, pos := "zsortanyfunc.go:435", after := #[{ on := 0, ground := Ground.data }, { on := 0, ground := Ground.phase }], guard := none }] false)))).seq ((Code.region 32 #[
    { dst := some 147, op := Op.move (Operand.tmp 19), type := ti, pos := "zsortanyfunc.go:437", after := #[], guard := none }, 
    { dst := some 148, op := Op.binOp BinOp.sub ti (Operand.tmp 147) (Operand.const (Value.int IntKind.i64 1)) ti, type := ti, pos := "zsortanyfunc.go:437", after := #[{ on := 0, ground := Ground.data }], guard := none }, 
    { dst := some 22, op := Op.assign (Operand.tmp 148), type := ti, pos := "zsortanyfunc.go:437", after := #[{ on := 1, ground := Ground.data }, { on := 0, ground := Ground.phase }, { on := 1, ground := Ground.phase }], guard := none }] false).seq (
    (Code.block 8 (((Code.region 33 #[
    { dst := some 149, op := Op.move (Operand.tmp 20), type := ti, pos := "zsortanyfunc.go:439", after := #[], guard := none }, 
    { dst := some 150, op := Op.move (Operand.tmp 21), type := ti, pos := "zsortanyfunc.go:439", after := #[], guard := none }, 
    { dst := some 151, op := Op.binOp BinOp.lss ti (Operand.tmp 149) (Operand.tmp 150) ti, type := tb, pos := "zsortanyfunc.go:439", after := #[{ on := 0, ground := Ground.data }, { on := 1, ground := Ground.data }], guard := none }] false).seq (Code.cond (Operand.tmp 151) Code.skip (Code.exit 8))).seq 
    (Code.block 9 ((Code.region 34 #[
    { dst := some 152, op := Op.move (Operand.tmp 20), type := ti, pos := "zsortanyfunc.go:440", after := #[], guard := none }, 
    { dst := some 153, op := Op.move (Operand.tmp 21), type := ti, pos := "zsortanyfunc.go:440", after := #[], guard := none }, 
    { dst := some 154, op := Op.binOp BinOp.add ti (Operand.tmp 152) (Operand.tmp 153) ti, type := ti, pos := "zsortanyfunc.go:440", after := #[{ on := 0, ground := Ground.data }, { on := 1, ground := Ground.data }], guard := none }, 
    { dst := some 155, op := Op.convert ti tu (Operand.tmp 154), type := tu, pos := "zsortanyfunc.go:440", after := #[{ on := 2, ground := Ground.data }], guard := none }, 
    { dst := some 156, op := Op.binOp BinOp.shr tu (Operand.tmp 155) (Operand.const (Value.int IntKind.u64 1)) tu, type := tu, pos := "zsortanyfunc.go:440", after := #[{ on := 3, ground := Ground.data }], guard := none }, 
    { dst := some 157, op := Op.convert tu ti (Operand.tmp 156), type := ti, pos := "zsortanyfunc.go:440", after := #[{ on := 4, ground := Ground.data }], guard := none }, 
    { dst := some 23, op := Op.assign (Operand.tmp 157), type := ti, pos := "zsortanyfunc.go:440", after := #[{ on := 5, ground := Ground.data }, { on := 0, ground := Ground.phase }, { on := 1, ground := Ground.phase }, { on := 2, ground := Ground.phase }, { on := 3, ground := Ground.phase }, { on := 4, ground := Ground.phase }, { on := 5, ground := Ground.phase }], guard := none }] false).seq ((Code.region 35 #[
    { dst := some 158, op := Op.move (Operand.tmp 4), type := tc, pos := "zsortanyfunc.go:441", after := #[], guard := none }, 
    { dst := some 159, op := Op.move (Operand.tmp 0), type := ts, pos := "zsortanyfunc.go:441", after := #[], guard := none }, 
    { dst := some 160, op := Op.move (Operand.tmp 22), type := ti, pos := "zsortanyfunc.go:441", after := #[], guard := none }, 
    { dst := some 161, op := Op.move (Operand.tmp 23), type := ti, pos := "zsortanyfunc.go:441", after := #[], guard := none }, 
    { dst := some 162, op := Op.binOp BinOp.sub ti (Operand.tmp 160) (Operand.tmp 161) ti, type := ti, pos := "zsortanyfunc.go:441", after := #[{ on := 2, ground := Ground.data }, { on := 3, ground := Ground.data }], guard := none }, 
    { dst := some 163, op := Op.indexAddr ts (Operand.tmp 159) (Operand.tmp 162), type := t0, pos := "zsortanyfunc.go:441", after := #[{ on := 1, ground := Ground.data }, { on := 4, ground := Ground.data }], guard := none }, 
    { dst := some 164, op := Op.load te (Operand.tmp 163), type := te, pos := "zsortanyfunc.go:441", after := #[{ on := 5, ground := Ground.data }], guard := none }, 
    { dst := some 165, op := Op.move (Operand.tmp 0), type := ts, pos := "zsortanyfunc.go:441", after := #[], guard := none }, 
    { dst := some 166, op := Op.move (Operand.tmp 23), type := ti, pos := "zsortanyfunc.go:441", after := #[], guard := none }, 
    { dst := some 167, op := Op.indexAddr ts (Operand.tmp 165) (Operand.tmp 166), type := t0, pos := "zsortanyfunc.go:441", after := #[{ on := 7, ground := Ground.data }, { on := 8, ground := Ground.data }], guard := none }, 
    { dst := some 168, op := Op.load te (Operand.tmp 167), type := te, pos := "zsortanyfunc.go:441", after := #[{ on := 9, ground := Ground.data }], guard := none }, 
    { dst := some 169, op := Op.call { callee := Callee.value (Operand.tmp 158), args := #[Operand.tmp 164, Operand.tmp 168], argTypes := #[te, te] }, type := ti, pos := "zsortanyfunc.go:441", after := #[{ on := 0, ground := Ground.data }, { on := 6, ground := Ground.data }, { on := 10, ground := Ground.data }], guard := none }, 
    { dst := some 170, op := Op.binOp BinOp.lss ti (Operand.tmp 169) (Operand.const (Value.int IntKind.i64 0)) ti, type := tb, pos := "zsortanyfunc.go:441", after := #[{ on := 11, ground := Ground.data }], guard := none }, 
    { dst := some 171, op := Op.unOp UnOp.not tb (Operand.tmp 170), type := tb, pos := "zsortanyfunc.go:441", after := #[{ on := 12, ground := Ground.data }], guard := none }] true).seq (Code.cond (Operand.tmp 171) (Code.region 36 #[
    { dst := some 172, op := Op.move (Operand.tmp 23), type := ti, pos := "zsortanyfunc.go:442", after := #[], guard := none }, 
    { dst := some 173, op := Op.binOp BinOp.add ti (Operand.tmp 172) (Operand.const (Value.int IntKind.i64 1)) ti, type := ti, pos := "zsortanyfunc.go:442", after := #[{ on := 0, ground := Ground.data }], guard := none }, 
    { dst := some 20, op := Op.assign (Operand.tmp 173), type := ti, pos := "zsortanyfunc.go:442", after := #[{ on := 1, ground := Ground.data }, { on := 0, ground := Ground.phase }, { on := 1, ground := Ground.phase }], guard := none }] false) (Code.region 37 #[
    { dst := some 174, op := Op.move (Operand.tmp 23), type := ti, pos := "zsortanyfunc.go:444", after := #[], guard := none }, 
    { dst := some 21, op := Op.assign (Operand.tmp 174), type := ti, pos := "zsortanyfunc.go:444", after := #[{ on := 0, ground := Ground.data }, { on := 0, ground := Ground.phase }], guard := none }] false)))))).loop).seq ((Code.region 38 #[
    { dst := some 175, op := Op.move (Operand.tmp 19), type := ti, pos := "zsortanyfunc.go:448", after := #[], guard := none }, 
    { dst := some 176, op := Op.move (Operand.tmp 20), type := ti, pos := "zsortanyfunc.go:448", after := #[], guard := none }, 
    { dst := some 177, op := Op.binOp BinOp.sub ti (Operand.tmp 175) (Operand.tmp 176) ti, type := ti, pos := "zsortanyfunc.go:448", after := #[{ on := 0, ground := Ground.data }, { on := 1, ground := Ground.data }], guard := none }, 
    { dst := some 24, op := Op.assign (Operand.tmp 177), type := ti, pos := "zsortanyfunc.go:448", after := #[{ on := 2, ground := Ground.data }, { on := 0, ground := Ground.phase }, { on := 1, ground := Ground.phase }, { on := 2, ground := Ground.phase }], guard := none }] false).seq (((Code.region 39 #[
    { dst := some 178, op := Op.move (Operand.tmp 20), type := ti, pos := "zsortanyfunc.go:449", after := #[], guard := none }, 
    { dst := some 179, op := Op.move (Operand.tmp 2), type := ti, pos := "zsortanyfunc.go:449", after := #[], guard := none }, 
    { dst := some 180, op := Op.binOp BinOp.lss ti (Operand.tmp 178) (Operand.tmp 179) ti, type := tb, pos := "zsortanyfunc.go:449", after := #[{ on := 0, ground := Ground.data }, { on := 1, ground := Ground.data }], guard := none }, 
    { dst := some 181, op := Op.move (Operand.tmp 180), type := tb, pos := "zsortanyfunc.go:449", after := #[{ on := 2, ground := Ground.data }], guard := none }, 
    { dst := some 182, op := Op.move (Operand.tmp 2), type := ti, pos := "zsortanyfunc.go:449", after := #[{ on := 3, ground := Ground.guard }], guard := some (3, true) }, 
    { dst := some 183, op := Op.move (Operand.tmp 24), type := ti, pos := "zsortanyfunc.go:449", after := #[{ on := 3, ground := Ground.guard }], guard := some (3, true) }, 
    { dst := some 184, op := Op.binOp BinOp.lss ti (Operand.tmp 182) (Operand.tmp 183) ti, type := tb, pos := "zsortanyfunc.go:449", after := #[{ on := 4, ground := Ground.data }, { on := 5, ground := Ground.data }, { on := 3, ground := Ground.guard }], guard := some (3, true) }, 
    { dst := some 185, op := Op.pick (Operand.tmp 181) (Operand.tmp 184) (Operand.const (Value.bool false)), type := tb, pos := "zsortanyfunc.go:449", after := #[{ on := 3, ground := Ground.data }, { on := 6, ground := Ground.data }], guard := none }] false).seq (Code.cond (Operand.tmp 185) (Code.region 40 #[
    { dst := some 186, op := Op.move (Operand.tmp 0), type := ts, pos := "zsortanyfunc.go:450", after := #[], guard := none }, 
    { dst := some 187, op := Op.move (Operand.tmp 20), type := ti, pos := "zsortanyfunc.go:450", after := #[], guard := none }, 
    { dst := some 188, op := Op.move (Operand.tmp 2), type := ti, pos := "zsortanyfunc.go:450", after := #[], guard := none }, 
    { dst := some 189, op := Op.move (Operand.tmp 24), type := ti, pos := "zsortanyfunc.go:450", after := #[], guard := none }, 
    { dst := some 190, op := Op.move (Operand.tmp 4), type := tc, pos := "zsortanyfunc.go:450", after := #[], guard := none }, 
    { dst := some 191, op := Op.call { callee := Callee.value (Operand.func fr), args := #[Operand.tmp 186, Operand.tmp 187, Operand.tmp 188, Operand.tmp 189, Operand.tmp 190], argTypes := #[ts, ti, ti, ti, tc] }, type := t0, pos := "zsortanyfunc.go:450", after := #[{ on := 0, ground := Ground.data }, { on := 1, ground := Ground.data }, { on := 2, ground := Ground.data }, { on := 3, ground := Ground.data }, { on := 4, ground := Ground.data }], guard := none }] false) Code.skip)).seq (((Code.region 41 #[
    { dst := some 192, op := Op.move (Operand.tmp 1), type := ti, pos := "zsortanyfunc.go:452", after := #[], guard := none }, 
    { dst := some 193, op := Op.move (Operand.tmp 20), type := ti, pos := "zsortanyfunc.go:452", after := #[], guard := none }, 
    { dst := some 194, op := Op.binOp BinOp.lss ti (Operand.tmp 192) (Operand.tmp 193) ti, type := tb, pos := "zsortanyfunc.go:452", after := #[{ on := 0, ground := Ground.data }, { on := 1, ground := Ground.data }], guard := none }, 
    { dst := some 195, op := Op.move (Operand.tmp 194), type := tb, pos := "zsortanyfunc.go:452", after := #[{ on := 2, ground := Ground.data }], guard := none }, 
    { dst := some 196, op := Op.move (Operand.tmp 20), type := ti, pos := "zsortanyfunc.go:452", after := #[{ on := 3, ground := Ground.guard }], guard := some (3, true) }, 
    { dst := some 197, op := Op.move (Operand.tmp 18), type := ti, pos := "zsortanyfunc.go:452", after := #[{ on := 3, ground := Ground.guard }], guard := some (3, true) }, 
    { dst := some 198, op := Op.binOp BinOp.lss ti (Operand.tmp 196) (Operand.tmp 197) ti, type := tb, pos := "zsortanyfunc.go:452", after := #[{ on := 4, ground := Ground.data }, { on := 5, ground := Ground.data }, { on := 3, ground := Ground.guard }], guard := some (3, true) }, 
    { dst := some 199, op := Op.pick (Operand.tmp 195) (Operand.tmp 198) (Operand.const (Value.bool false)), type := tb, pos := "zsortanyfunc.go:452", after := #[{ on := 3, ground := Ground.data }, { on := 6, ground := Ground.data }], guard := none }] false).seq (Code.cond (Operand.tmp 199) (Code.region 42 #[
    { dst := some 200, op := Op.move (Operand.tmp 0), type := ts, pos := "zsortanyfunc.go:453", after := #[], guard := none }, 
    { dst := some 201, op := Op.move (Operand.tmp 1), type := ti, pos := "zsortanyfunc.go:453", after := #[], guard := none }, 
    { dst := some 202, op := Op.move (Operand.tmp 20), type := ti, pos := "zsortanyfunc.go:453", after := #[], guard := none }, 
    { dst := some 203, op := Op.move (Operand.tmp 18), type := ti, pos := "zsortanyfunc.go:453", after := #[], guard := none }, 
    { dst := some 204, op := Op.move (Operand.tmp 4), type := tc, pos := "zsortanyfunc.go:453", after := #[], guard := none }, 
    { dst := some 205, op := Op.call { callee := Callee.value (Operand.func fm), args := #[Operand.tmp 200, Operand.tmp 201, Operand.tmp 202, Operand.tmp 203, Operand.tmp 204], argTypes := #[ts, ti, ti, ti, tc] }, type := t0, pos := "zsortanyfunc.go:453", after := #[{ on := 0, ground := Ground.data }, { on := 1, ground := Ground.data }, { on := 2, ground := Ground.data }, { on := 3, ground := Ground.data }, { on := 4, ground := Ground.data }], guard := none }] false) Code.skip)).seq ((Code.region 43 #[
    { dst := some 206, op := Op.move (Operand.tmp 18), type := ti, pos := "zsortanyfunc.go:455", after := #[], guard := none }, 
    { dst := some 207, op := Op.move (Operand.tmp 24), type := ti, pos := "zsortanyfunc.go:455", after := #[], guard := none }, 
    { dst := some 208, op := Op.binOp BinOp.lss ti (Operand.tmp 206) (Operand.tmp 207) ti, type := tb, pos := "zsortanyfunc.go:455", after := #[{ on := 0, ground := Ground.data }, { on := 1, ground := Ground.data }], guard := none }, 
    { dst := some 209, op := Op.move (Operand.tmp 208), type := tb, pos := "zsortanyfunc.go:455", after := #[{ on := 2, ground := Ground.data }], guard := none }, 
    { dst := some 210, op := Op.move (Operand.tmp 24), type := ti, pos := "zsortanyfunc.go:455", after := #[{ on := 3, ground := Ground.guard }], guard := some (3, true) }, 
    { dst := some 211, op := Op.move (Operand.tmp 3), type := ti, pos := "zsortanyfunc.go:455", after := #[{ on := 3, ground := Ground.guard }], guard := some (3, true) }, 
    { dst := some 212, op := Op.binOp BinOp.lss ti (Operand.tmp 210) (Operand.tmp 211) ti, type := tb, pos := "zsortanyfunc.go:455", after := #[{ on := 4, ground := Ground.data }, { on := 5, ground := Ground.data }, { on := 3, ground := Ground.guard }], guard := some (3, true) }, 
    { dst := some 213, op := Op.pick (Operand.tmp 209) (Operand.tmp 212) (Operand.const (Value.bool false)), type := tb, pos := "zsortanyfunc.go:455", after := #[{ on := 3, ground := Ground.data }, { on := 6, ground := Ground.data }], guard := none }] false).seq (Code.cond (Operand.tmp 213) (Code.region 44 #[
    { dst := some 214, op := Op.move (Operand.tmp 0), type := ts, pos := "zsortanyfunc.go:456", after := #[], guard := none }, 
    { dst := some 215, op := Op.move (Operand.tmp 18), type := ti, pos := "zsortanyfunc.go:456", after := #[], guard := none }, 
    { dst := some 216, op := Op.move (Operand.tmp 24), type := ti, pos := "zsortanyfunc.go:456", after := #[], guard := none }, 
    { dst := some 217, op := Op.move (Operand.tmp 3), type := ti, pos := "zsortanyfunc.go:456", after := #[], guard := none }, 
    { dst := some 218, op := Op.move (Operand.tmp 4), type := tc, pos := "zsortanyfunc.go:456", after := #[], guard := none }, 
    { dst := some 219, op := Op.call { callee := Callee.value (Operand.func fm), args := #[Operand.tmp 214, Operand.tmp 215, Operand.tmp 216, Operand.tmp 217, Operand.tmp 218], argTypes := #[ts, ti, ti, ti, tc] }, type := t0, pos := "zsortanyfunc.go:456", after := #[{ on := 0, ground := Ground.data }, { on := 1, ground := Ground.data }, { on := 2, ground := Ground.data }, { on := 3, ground := Ground.data }, { on := 4, ground := Ground.data }], guard := none }] false) Code.skip))))))))))))),
    norace := false, file := "slices/zsortanyfunc.go", endLine := 458, met := [Departure.mixedOrders, Departure.lateStoresUnsure, Departure.lateStores], tmpNames := ((["data", "a", "m", "b", "cmp", "data", "a", "m", "b", "cmp", "i", "j", "h", "k", "i", "j", "h", "k", "mid", "n", "start", "r", "p", "c", "end", "", "", "", "", "", "", "", "", "", "", "", "", "", "", "", "", "", "", "", "", "", "", "", "", "", "", "", "", "", ""].append ["", "", "", "", "", "", "", "", "", "", "", "", "", "", "", "", "", "", "", "", "", "", "", "", "", "", "", "", "", "", "", "", "", "", "", "", "", "", "", "", "", "", "", "", "", "", "", "", "", "", "", "", "", "", ""]).append (["", "", "", "", "", "", "", "", "", "", "", "", "", "", "", "", "", "", "", "", "", "", "", "", "", "", "", "", "", "", "", "", "", "", "", "", "", "", "", "", "", "", "", "", "", "", "", "", "", "", "", "", "", "", ""].append ["", "", "", "", "", "", "", "", "", "", "", "", "", "", "", "", "", "", "", "", "", "", "", "", "", "", "", "", "", "", "", "", "", "", "", "", "", "", "", "", "", "", "", "", "", "", "", "", "", "", "", "", "", "", ""])).toArray }
theorem bMerge_n (nm : String) (fr fm : Nat) (ts te tc ti tb tu t0 : Nat) : (bMerge nm fr fm ts te tc ti tb tu t0).ntmps = 220 := rfl

def bStab (nm : String) (fi fm : Nat) (ts te tc ti tb t0 : Nat) : Func :=
  { name := nm, origin := "slices.stableCmpFunc", targs := #[te], params := #[ts, ti, tc], resultTypes := #[], nfree := 0, ntmps := 63, results := #[], body := some ((Code.region 0 #[
    { dst := some 6, op := Op.assign (Operand.const (Value.int IntKind.i64 20)), type := ti, pos := "zsortanyfunc.go:336", after := #[], guard := none }] false).seq ((Code.region 1 #[
    { dst := some 10, op := Op.move (Operand.tmp 6), type := ti, pos := "zsortanyfunc.go:337", after := #[{ on := 1, ground := Ground.gcOnly Departure.lateStores }], guard := none }, 
    { dst := some 7, op := Op.assign (Operand.const (Value.int IntKind.i64 0)), type := ti, pos := "zsortanyfunc.go:337", after := #[{ on := 0, ground := Ground.textOnly Departure.lateStores }], guard := none }, 
    { dst := some 8, op := Op.assign (Operand.tmp 10), type := ti, pos := "zsortanyfunc.go:337", after := #[{ on := 0, ground := Ground.data }, { on := 1, ground := Ground.chain }, { on := 0, ground := Ground.phase }, { on := 1, ground := Ground.phase }], guard := none }] false).seq (
    (Code.block 0 (((Code.region 2 #[
    { dst := some 11, op := Op.move (Operand.tmp 8), type := ti, pos := "zsortanyfunc.go:338", after := #[], guard := none }, 
    { dst := some 12, op := Op.move (Operand.tmp 1), type := ti, pos := "zsortanyfunc.go:338", after := #[], guard := none }, 
    { dst := some 13, op := Op.binOp BinOp.leq ti (Operand.tmp 11) (Operand.tmp 12) ti, type := tb, pos := "zsortanyfunc.go:338", after := #[{ on := 0, ground := Ground.data }, { on := 1, ground := Ground.data }], guard := none }] false).seq (Code.cond (Operand.tmp 13) Code.skip (Code.exit 0))).seq 
    (Code.block 1 ((Code.region 3 #[
    { dst := some 14, op := Op.move (Operand.tmp 0), type := ts, pos := "zsortanyfunc.go:339", after := #[], guard := none }, 
    { dst := some 15, op := Op.move (Operand.tmp 7), type := ti, pos := "zsortanyfunc.go:339", after := #[], guard := none }, 
    { dst := some 16, op := Op.move (Operand.tmp 8), type := ti, pos := "zsortanyfunc.go:339", after := #[], guard := none }, 
    { dst := some 17, op := Op.move (Operand.tmp 2), type := tc, pos := "zsortanyfunc.go:339", after := #[], guard := none }, 
    { dst := some 18, op := Op.call { callee := Callee.value (Operand.func fi), args := #[Operand.tmp 14, Operand.tmp 15, Operand.tmp 16, Operand.tmp 17], argTypes := #[ts, ti, ti, tc] }, type := t0, pos := "zsortanyfunc.go:339", after := #[{ on := 0, ground := Ground.data }, { on := 1, ground := Ground.data }, { on := 2, ground := Ground.data }, { on := 3, ground := Ground.data }], guard := none }] false).seq ((Code.region 4 #[
    { dst := some 19, op := Op.move (Operand.tmp 8), type := ti, pos := "zsortanyfunc.go:340", after := #[], guard := none }, 
    { dst := some 7, op := Op.assign (Operand.tmp 19), type := ti, pos := "zsortanyfunc.go:340", after := #[{ on := 0, ground := Ground.data }, { on := 0, ground := Ground.phase }], guard := none }] false).seq (Code.region 5 #[
    { dst := some 20, op := Op.move (Operand.tmp 8), type := ti, pos := "zsortanyfunc.go:341", after := #[], guard := none }, 
    { dst := some 21, op := Op.move (Operand.tmp 6), type := ti, pos := "zsortanyfunc.go:341", after := #[], guard := none }, 
    { dst := some 22, op := Op.binOp BinOp.add ti (Operand.tmp 20) (Operand.tmp 21) ti, type := ti, pos := "zsortanyfunc.go:341", after := #[{ on := 0, ground := Ground.data }, { on := 1, ground := Ground.data }], guard := none }, 
    { dst := some 8, op := Op.assign (Operand.tmp 22), type := ti, pos := "zsortanyfunc.go:341", after := #[{ on := 2, ground := Ground.data }, { on := 0, ground := Ground.phase }, { on := 1, ground := Ground.phase }, { on := 2, ground := Ground.phase }], guard := none }] false))))).loop).seq ((Code.region 6 #[
    { dst := some 23, op := Op.move (Operand.tmp 0), type := ts, pos := "zsortanyfunc.go:343", after := #[], guard := none }, 
    { dst := some 24, op := Op.move (Operand.tmp 7), type := ti, pos := "zsortanyfunc.go:343", after := #[], guard := none }, 
    { dst := some 25, op := Op.move (Operand.tmp 1), type := ti, pos := "zsortanyfunc.go:343", after := #[], guard := none }, 
    { dst := some 26, op := Op.move (Operand.tmp 2), type := tc, pos := "zsortanyfunc.go:343", after := #[], guard := none }, 
    { dst := some 27, op := Op.call { callee := Callee.value (Operand.func fi), args := #[Operand.tmp 23, Operand.tmp 24, Operand.tmp 25, Operand.tmp 26], argTypes := #[ts, ti, ti, tc] }, type := t0, pos := "zsortanyfunc.go:343", after := #[{ on := 0, ground := Ground.data }, { on := 1, ground := Ground.data }, { on := 2, ground := Ground.data }, { on := 3, ground := Ground.data }], guard := none }] false).seq 
    (Code.block 2 (((Code.region 7 #[
    { dst := some 28, op := Op.move (Operand.tmp 6), type := ti, pos := "zsortanyfunc.go:345", after := #[], guard := none }, 
    { dst := some 29, op := Op.move (Operand.tmp 1), type := ti, pos := "zsortanyfunc.go:345", after := #[], guard := none }, 
    { dst := some 30, op := Op.binOp BinOp.lss ti (Operand.tmp 28) (Operand.tmp 29) ti, type := tb, pos := "zsortanyfunc.go:345", after := #[{ on := 0, ground := Ground.data }, { on := 1, ground := Ground.data }], guard := none }] false).seq (Code.cond (Operand.tmp 30) Code.skip (Code.exit 2))).seq 
    (Code.block 3 ((Code.region 8 #[
    { dst := some 31, op := Op.move (Operand.tmp 6), type := ti, pos := "zsortanyfunc.go:346", after := #[{ on := 2, ground := Ground.gcOnly Departure.lateStores }], guard := none }, 
    { dst := some 32, op := Op.binOp BinOp.mul ti (Operand.const (Value.int IntKind.i64 2)) (Operand.tmp 31) ti, type := ti, pos := "zsortanyfunc.go:346", after := #[{ on := 0, ground := Ground.data }, { on := 2, ground := Ground.gcOnly Departure.lateStores }], guard := none }, 
    { dst := some 7, op := Op.assign (Operand.const (Value.int IntKind.i64 0)), type := ti, pos := "zsortanyfunc.go:346", after := #[{ on := 0, ground := Ground.textOnly Departure.lateStores }, { on := 1, ground := Ground.textOnly Departure.lateStores }], guard := none }, 
    { dst := some 8, op := Op.assign (Operand.tmp 32), type := ti, pos := "zsortanyfunc.go:346", after := #[{ on := 1, ground := Ground.data }, { on := 2, ground := Ground.chain }, { on := 0, ground := Ground.phase }, { on := 1, ground := Ground.phase }, { on := 2, ground := Ground.phase }], guard := none }] false).seq (
    (Code.block 4 (((Code.region 9 #[
    { dst := some 33, op := Op.move (Operand.tmp 8), type := ti, pos := "zsortanyfunc.go:347", after := #[], guard := none }, 
    { dst := some 34, op := Op.move (Operand.tmp 1), type := ti, pos := "zsortanyfunc.go:347", after := #[], guard := none }, 
    { dst := some 35, op := Op.binOp BinOp.leq ti (Operand.tmp 33) (Operand.tmp 34) ti, type := tb, pos := "zsortanyfunc.go:347", after := #[{ on := 0, ground := Ground.data }, { on := 1, ground := Ground.data }], guard := none }] false).seq (Code.cond (Operand.tmp 35) Code.skip (Code.exit 4))).seq 
    (Code.block 5 ((Code.region 10 #[
    { dst := some 36, op := Op.move (Operand.tmp 0), type := ts, pos := "zsortanyfunc.go:348", after := #[], guard := none }, 
    { dst := some 37, op := Op.move (Operand.tmp 7), type := ti, pos := "zsortanyfunc.go:348", after := #[], guard := none }, 
    { dst := some 38, op := Op.move (Operand.tmp 7), type := ti, pos := "zsortanyfunc.go:348", after := #[], guard := none }, 
    { dst := some 39, op := Op.move (Operand.tmp 6), type := ti, pos := "zsortanyfunc.go:348", after := #[], guard := none }, 
    { dst := some 40, op := Op.binOp BinOp.add ti (Operand.tmp 38) (Operand.tmp 39) ti, type := ti, pos := "zsortanyfunc.go:348", after := #[{ on := 2, ground := Ground.data }, { on := 3, ground := Ground.data }], guard := none }, 
    { dst := some 41, op := Op.move (Operand.tmp 8), type := ti, pos := "zsortanyfunc.go:348", after := #[], guard := none }, 
    { dst := some 42, op := Op.move (Operand.tmp 2), type := tc, pos := "zsortanyfunc.go:348", after := #[], guard := none }, 
    { dst := some 43, op := Op.call { callee := Callee.value (Operand.func fm), args := #[Operand.tmp 36, Operand.tmp 37, Operand.tmp 40, Operand.tmp 41, Operand.tmp 42], argTypes := #[ts, ti, ti, ti, tc] }, type := t0, pos := "zsortanyfunc.go:348", after := #[{ on := 0, ground := Ground.data }, { on := 1, ground := Ground.data }, { on := 4, ground := Ground.data }, { on := 5, ground := Ground.data }, { on := 6, ground := Ground.data }], guard := none }] false).seq ((Code.region 11 #[
    { dst := some 44, op := Op.move (Operand.tmp 8), type := ti, pos := "zsortanyfunc.go:349", after := #[], guard := none }, 
    { dst := some 7, op := Op.assign (Operand.tmp 44), type := ti, pos := "zsortanyfunc.go:349", after := #[{ on := 0, ground := Ground.data }, { on := 0, ground := Ground.phase }], guard := none }] false).seq (Code.region 12 #[
    { dst := some 45, op := Op.move (Operand.tmp 8), type := ti, pos := "zsortanyfunc.go:350", after := #[], guard := none }, 
    { dst := some 46, op := Op.move (Operand.tmp 6), type := ti, pos := "zsortanyfunc.go:350", after := #[], guard := none }, 
    { dst := some 47, op := Op.binOp BinOp.mul ti (Operand.const (Value.int IntKind.i64 2)) (Operand.tmp 46) ti, type := ti, pos := "zsortanyfunc.go:350", after := #[{ on := 1, ground := Ground.data }], guard := none }, 
    { dst := some 48, op := Op.binOp BinOp.add ti (Operand.tmp 45) (Operand.tmp 47) ti, type := ti, pos := "zsortanyfunc.go:350", after := #[{ on := 0, ground := Ground.data }, { on := 2, ground := Ground.data }], guard := none }, 
    { dst := some 8, op := Op.assign (Operand.tmp 48), type := ti, pos := "zsortanyfunc.go:350", after := #[{ on := 3, ground := Ground.data }, { on := 0, ground := Ground.phase }, { on := 1, ground := Ground.phase }, { on := 2, ground := Ground.phase }, { on := 3, ground := Ground.phase }], guard := none }] false))))).loop).seq (((Code.region 13 #[
    { dst := some 49, op := Op.move (Operand.tmp 7), type := ti, pos := "zsortanyfunc.go:352", after := #[], guard := none }, 
    { dst := some 50, op := Op.move (Operand.tmp 6), type := ti, pos := "zsortanyfunc.go:352", after := #[], guard := none }, 
    { dst := some 51, op := Op.binOp BinOp.add ti (Operand.tmp 49) (Operand.tmp 50) ti, type := ti, pos := "zsortanyfunc.go:352", after := #[{ on := 0, ground := Ground.data }, { on := 1, ground := Ground.data }], guard := none }, 
    { dst := some 9, op := Op.assign (Operand.tmp 51), type := ti, pos := "zsortanyfunc.go:352", after := #[{ on := 2, ground := Ground.data }, { on := 0, ground := Ground.phase }, { on := 1, ground := Ground.phase }, { on := 2, ground := Ground.phase }], guard := none }] false).seq ((Code.region 14 #[
    { dst := some 52, op := Op.move (Operand.tmp 9), type := ti, pos := "zsortanyfunc.go:352", after := #[], guard := none }, 
    { dst := some 53, op := Op.move (Operand.tmp 1), type := ti, pos := "zsortanyfunc.go:352", after := #[], guard := none }, 
    { dst := some 54, op := Op.binOp BinOp.lss ti (Operand.tmp 52) (Operand.tmp 53) ti, type := tb, pos := "zsortanyfunc.go:352", after := #[{ on := 0, ground := Ground.data }, { on := 1, ground := Ground.data }], guard := none }] false).seq (Code.cond (Operand.tmp 54) (Code.region 15 #[
    { dst := some 55, op := Op.move (Operand.tmp 0), type := ts, pos := "zsortanyfunc.go:353", after := #[], guard := none }, 
    { dst := some 56, op := Op.move (Operand.tmp 7), type := ti, pos := "zsortanyfunc.go:353", after := #[], guard := none }, 
    { dst := some 57, op := Op.move (Operand.tmp 9), type := ti, pos := "zsortanyfunc.go:353", after := #[], guard := none }, 
    { dst := some 58, op := Op.move (Operand.tmp 1), type := ti, pos := "zsortanyfunc.go:353", after := #[], guard := none }, 
    { dst := some 59, op := Op.move (Operand.tmp 2), type := tc, pos := "zsortanyfunc.go:353", after := #[], guard := none }, 
    { dst := some 60, op := Op.call { callee := Callee.value (Operand.func fm), args := #[Operand.tmp 55, Operand.tmp 56, Operand.tmp 57, Operand.tmp 58, Operand.tmp 59], argTypes := #[ts, ti, ti, ti, tc] }, type := t0, pos := "zsortanyfunc.go:353", after := #[{ on := 0, ground := Ground.data }, { on := 1, ground := Ground.data }, { on := 2, ground := Ground.data }, { on := 3, ground := Ground.data }, { on := 4, ground := Ground.data }], guard := none }] false) Code.skip))).seq (Code.region 16 #[
    { dst := some 61, op := Op.move (Operand.tmp 6), type := ti, pos := "zsortanyfunc.go:355", after := #[], guard := none }, 
    { dst := some 62, op := Op.binOp BinOp.mul ti (Operand.tmp 61) (Operand.const (Value.int IntKind.i64 2)) ti, type := ti, pos := "zsortanyfunc.go:355", after := #[{ on := 0, ground := Ground.data }], guard := none }, 
    { dst := some 6, op := Op.assign (Operand.tmp 62), type := ti, pos := "zsortanyfunc.go:355", after := #[{ on := 1, ground := Ground.data }, { on := 0, ground := Ground.phase }, { on := 1, ground := Ground.phase }], guard := none }] false)))))).loop))))),
    norace := false, file := "slices/zsortanyfunc.go", endLine := 357, met := [Departure.mixedOrders, Departure.lateStores], tmpNames := #["data", "n", "cmp", "data", "n", "cmp", "blockSize", "a", "b", "m", "", "", "", "", "", "", "", "", "", "", "", "", "", "", "", "", "", "", "", "", "", "", "", "", "", "", "", "", "", "", "", "", "", "", "", "", "", "", "", "", "", "", "", "", "", "", "", "", "", "", "", "", ""] }
theorem bStab_n (nm : String) (fi fm : Nat) (ts te tc ti tb t0 : Nat) : (bStab nm fi fm ts te tc ti tb t0).ntmps = 63 := rfl

def bTop (nm : String) (fb : Nat) (ts te tc ti t0 : Nat) : Func :=
  { name := nm, origin := "slices.SortStableFunc", targs := #[ts, te], params := #[ts, tc], resultTypes := #[], nfree := 0, ntmps := 9, results := #[], body := some (Code.region 0 #[
    { dst := some 4, op := Op.move (Operand.tmp 0), type := ts, pos := "sort.go:38", after := #[], guard := none }, 
    { dst := some 5, op := Op.move (Operand.tmp 0), type := ts, pos := "sort.go:38", after := #[], guard := none }, 
    { dst := some 6, op := Op.call { callee := Callee.builtin Builtin.len, args := #[Operand.tmp 5], argTypes := #[ts] }, type := ti, pos := "sort.go:38", after := #[{ on := 1, ground := Ground.data }], guard := none }, 
    { dst := some 7, op := Op.move (Operand.tmp 1), type := tc, pos := "sort.go:38", after := #[], guard := none }, 
    { dst := some 8, op := Op.call { callee := Callee.value (Operand.func fb), args := #[Operand.tmp 4, Operand.tmp 6, Operand.tmp 7], argTypes := #[ts, ti, tc] }, type := t0, pos := "sort.go:38", after := #[{ on := 0, ground := Ground.data }, { on := 2, ground := Ground.data }, { on := 3, ground := Ground.data }], guard := none }] false),
    norace := false, file := "slices/sort.go", endLine := 39, tmpNames := #["x", "cmp", "x", "cmp", "", "", "", "", ""] }
/-- A program that holds the stable sort of one element type: functions and types by number. -/
structure StabLays (P : Program) (fs fr fm fi fb ft ts te tc ti tb tu t0 : Nat) : Prop where
  mixed : P.follows .mixedOrders = true
  fsw : ∃ nm, P.funcs[fs]? = some (bSwap nm ts te tc ti tb t0)
  fro : ∃ nm, P.funcs[fr]? = some (bRot nm fs ts te tc ti tb t0)
  fme : ∃ nm, P.funcs[fm]? = some (bMerge nm fr fm ts te tc ti tb tu t0)
  fst : ∃ nm, P.funcs[fb]? = some (bStab nm fi fm ts te tc ti tb t0)
  fto : ∃ nm, P.funcs[ft]? = some (bTop nm fb ts te tc ti t0)
  es : ∀ args w, (callFunc fs args).run P w = .ok (.enter fs args) w
  er : ∀ args w, (callFunc fr args).run P w = .ok (.enter fr args) w
  em : ∀ args w, (callFunc fm args).run P w = .ok (.enter fm args) w
  ei : ∀ args w, (callFunc fi args).run P w = .ok (.enter fi args) w
  eb : ∀ args w, (callFunc fb args).run P w = .ok (.enter fb args) w
  u0 : P.underlying t0 = some (TypeDesc.tuple #[])
  a0 : ∀ w, (isAgg t0).run P w = .ok false w
  z0 : ∀ w, (Go.sizeOf t0).run P w = .ok 1 w
  v0 : ∀ w, (zeroValue t0).run P w = .ok (Value.tuple #[]) w
  ui : P.underlying ti = some (TypeDesc.int IntKind.i64)
  ai : ∀ w, (isAgg ti).run P w = .ok false w
  zi : ∀ w, (Go.sizeOf ti).run P w = .ok 1 w
  vi : ∀ w, (zeroValue ti).run P w = .ok (Value.int IntKind.i64 0) w
  ub : P.underlying tb = some (TypeDesc.bool)
  ab : ∀ w, (isAgg tb).run P w = .ok false w
  zb : ∀ w, (Go.sizeOf tb).run P w = .ok 1 w
  vb : ∀ w, (zeroValue tb).run P w = .ok (Value.bool false) w
  uu : P.underlying tu = some (TypeDesc.int IntKind.u64)
  au : ∀ w, (isAgg tu).run P w = .ok false w
  zu : ∀ w, (Go.sizeOf tu).run P w = .ok 1 w
  vu : ∀ w, (zeroValue tu).run P w = .ok (Value.int IntKind.u64 0) w
  us : P.underlying ts = some (TypeDesc.slice te)
  aS : ∀ w, (isAgg ts).run P w = .ok false w
  zs : ∀ w, (Go.sizeOf ts).run P w = .ok 1 w
  vs : ∀ w, (zeroValue ts).run P w = .ok (Value.slice none 0 0) w
  uc : P.underlying tc = some (TypeDesc.func #[te, te] #[ti] false)
  ac : ∀ w, (isAgg tc).run P w = .ok false w
  zc : ∀ w, (Go.sizeOf tc).run P w = .ok 1 w
  vc : ∀ w, (zeroValue tc).run P w = .ok (Value.nilFunc) w

theorem stabLays : StabLays Tryz.prog 104 90 69 68 49 30 23 40 62 3 4 95 0 where
  mixed := by kernel_rfl
  fsw := ⟨Tryz.f104.name, Tryz.func104.trans (congrArg some (by kernel_rfl))⟩
  fro := ⟨Tryz.f90.name, Tryz.func90.trans (congrArg some (by kernel_rfl))⟩
  fme := ⟨Tryz.f69.name, Tryz.func69.trans (congrArg some (by kernel_rfl))⟩
  fst := ⟨Tryz.f49.name, Tryz.func49.trans (congrArg some (by kernel_rfl))⟩
  fto := ⟨Tryz.f30.name, Tryz.func30.trans (congrArg some (by kernel_rfl))⟩
  es := enters_of Tryz.func104 (by kernel_rfl) rfl
  er := enters_of Tryz.func90 (by kernel_rfl) rfl
  em := enters_of Tryz.func69 (by kernel_rfl) rfl
  ei := enters_of Tryz.func68 (by kernel_rfl) rfl
  eb := enters_of Tryz.func49 (by kernel_rfl) rfl
  u0 := Tryz.underlying0
  a0 := Tryz.isAgg0
  z0 := Tryz.sizeOf0
  v0 := Tryz.zeroValue0
  ui := Tryz.underlying3
  ai := Tryz.isAgg3
  zi := Tryz.sizeOf3
  vi := Tryz.zeroValue3
  ub := Tryz.underlying4
  ab := Tryz.isAgg4
  zb := Tryz.sizeOf4
  vb := Tryz.zeroValue4
  uu := Tryz.underlying95
  au := Tryz.isAgg95
  zu := Tryz.sizeOf95
  vu := Tryz.zeroValue95
  us := Tryz.underlying23
  aS := Tryz.isAgg23
  zs := Tryz.sizeOf23
  vs := Tryz.zeroValue23
  uc := Tryz.underlying62
  ac := Tryz.isAgg62
  zc := Tryz.sizeOf62
  vc := Tryz.zeroValue62
end Go.Proofs.YtfdfdmbnggpnbaaGreat
