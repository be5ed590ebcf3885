/- The program's database does what a database must do. No conditions. -/
import Derived.Test.YtlcaaoflbldocaaGp
import Derived.Test.YtlcaaoflbldocaaGk
namespace Go.Proofs.Ytlcaaoflbldocaa
open Go.RowKit

theorem dev_ok : DevOk PDb where
  foot h := fun hq => h.foot hq
  chg h hc hd := h.chg hc hd
  new r w := new_db r w
  put h hs hlo := fun hd L M A A' n c n' c' B hL hM hB hn hn' => put_db h hs hlo hd L M A A' n c n' c' B hL hM hB hn hn'
  drop h hs _ := fun k hk => drop_db h hs k hk
  tick h hs _ _ := tick_db h hs
  get h hs := fun k hk => get_db h hs k hk
  all h hs := all_db h hs
  len h := len_db h
end Go.Proofs.Ytlcaaoflbldocaa
