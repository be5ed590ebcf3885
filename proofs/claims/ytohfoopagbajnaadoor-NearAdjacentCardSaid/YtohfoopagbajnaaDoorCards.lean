/-
  DERIVED. GIVEN WITH THE SEED: THE CARDS: each row of YtohfoopagbajnaaDoorRows.lean that lists a variable, with what it lists TIED to the program's text (the seventh form; the later family's looks); each row that meets fmt, with fmt's text TOLD by the authors' own Lean function (tested against real Go, not proved from fmt's source: count such statements apart). THE CARD IS WHAT COUNTS. Prove the row's statement (the work); the ties are given (YtohfoopagbajnaaDoorTie.lean); close each card by the builder's one call (the guide's Derived/Test/ToyasCard.lean, 'card_holds'). Laid BY PROGRAM, IN A SANDBOX (cutbox-door.mjs). By AI agents, Wed Nov 11 2026. No macro, syntax, notation, axiom, sorry.
-/
import Derived.Test.YtohfoopagbajnaaDoorRows
import GoSem.ClaimSeven
namespace Go.Proofs.YtohfoopagbajnaaDoor
namespace Rows

/-- THE TIED CARD OF 'syndiclaw11.NearSteps'. -/
def nearStepsCard : Claim7 := { stood := { row := nearStepsRow, standIns := [], harness := (true, "e4eabdfb16a5bd7b5ddf229584678dcb69edbdb9475300b5e2cc8b68cd78f8e1"), looks := false }, kinds := [], alts := [], laidByText := true, laidKinds := [.data], laidTests := true, laidLooks := .later }
def NearStepsCardSaid : Prop := Claim7.holds Tryd.pinned (.plain (OpenSpec.ofChange nearStepsSpec)) nearStepsCard

/-- THE TIED CARD OF 'syndiclaw11.NearPaths'. -/
def nearPathsCard : Claim7 := { stood := { row := nearPathsRow, standIns := [], harness := (true, "e4eabdfb16a5bd7b5ddf229584678dcb69edbdb9475300b5e2cc8b68cd78f8e1"), looks := false }, kinds := [], alts := [], laidByText := true, laidKinds := [.data], laidTests := true, laidLooks := .later }
def NearPathsCardSaid : Prop := Claim7.holds Tryd.pinned (.plain (OpenSpec.ofChange nearPathsSpec)) nearPathsCard

/-- THE TIED CARD OF 'syndiclaw11.NearAdjacent'. -/
def nearAdjacentCard : Claim7 := { stood := { row := nearAdjacentRow, standIns := [], harness := (true, "e4eabdfb16a5bd7b5ddf229584678dcb69edbdb9475300b5e2cc8b68cd78f8e1"), looks := false }, kinds := [], alts := [], laidByText := true, laidKinds := [.data], laidTests := true, laidLooks := .later }
def NearAdjacentCardSaid : Prop := Claim7.holds Tryd.pinned (.plain (OpenSpec.ofChange nearAdjacentSpec)) nearAdjacentCard

/-- THE TIED CARD OF 'syndiclaw11.NearOthers'. -/
def nearOthersCard : Claim7 := { stood := { row := nearOthersRow, standIns := [], harness := (true, "e4eabdfb16a5bd7b5ddf229584678dcb69edbdb9475300b5e2cc8b68cd78f8e1"), looks := false }, kinds := [], alts := [], laidByText := true, laidKinds := [.data], laidTests := true, laidLooks := .later }
def NearOthersCardSaid : Prop := Claim7.holds Tryd.pinned (.plain (OpenSpec.ofChange nearOthersSpec)) nearOthersCard

/-- THE SECOND FORM's CARD OF 'syndiclaw11.NearSteps'. -/
def nearStepsUptoCard : Claim7 := { stood := { row := nearStepsUptoRow, standIns := [], harness := (true, "e4eabdfb16a5bd7b5ddf229584678dcb69edbdb9475300b5e2cc8b68cd78f8e1"), looks := false }, kinds := [], alts := [], laidByText := true, laidKinds := [.data], laidTests := true, laidLooks := .later }
def NearStepsUptoCardSaid : Prop := Claim7.holds Tryd.pinned (.plain (OpenSpec.upto nearStepsSpec)) nearStepsUptoCard

/-- THE SECOND FORM's CARD OF 'syndiclaw11.NearPaths'. -/
def nearPathsUptoCard : Claim7 := { stood := { row := nearPathsUptoRow, standIns := [], harness := (true, "e4eabdfb16a5bd7b5ddf229584678dcb69edbdb9475300b5e2cc8b68cd78f8e1"), looks := false }, kinds := [], alts := [], laidByText := true, laidKinds := [.data], laidTests := true, laidLooks := .later }
def NearPathsUptoCardSaid : Prop := Claim7.holds Tryd.pinned (.plain (OpenSpec.upto nearPathsSpec)) nearPathsUptoCard

/-- THE SECOND FORM's CARD OF 'syndiclaw11.NearAdjacent'. -/
def nearAdjacentUptoCard : Claim7 := { stood := { row := nearAdjacentUptoRow, standIns := [], harness := (true, "e4eabdfb16a5bd7b5ddf229584678dcb69edbdb9475300b5e2cc8b68cd78f8e1"), looks := false }, kinds := [], alts := [], laidByText := true, laidKinds := [.data], laidTests := true, laidLooks := .later }
def NearAdjacentUptoCardSaid : Prop := Claim7.holds Tryd.pinned (.plain (OpenSpec.upto nearAdjacentSpec)) nearAdjacentUptoCard

/-- THE SECOND FORM's CARD OF 'syndiclaw11.NearOthers'. -/
def nearOthersUptoCard : Claim7 := { stood := { row := nearOthersUptoRow, standIns := [], harness := (true, "e4eabdfb16a5bd7b5ddf229584678dcb69edbdb9475300b5e2cc8b68cd78f8e1"), looks := false }, kinds := [], alts := [], laidByText := true, laidKinds := [.data], laidTests := true, laidLooks := .later }
def NearOthersUptoCardSaid : Prop := Claim7.holds Tryd.pinned (.plain (OpenSpec.upto nearOthersSpec)) nearOthersUptoCard
end Rows
end Go.Proofs.YtohfoopagbajnaaDoor
