/-
  DERIVED. GIVEN WITH THE SEED: THE CARDS: each row of YtipdnkkkigmkdaaDoorRows.lean that lists a variable, with what it lists TIED to the program's text (the seventh form; the later family's looks); each row that meets fmt, with fmt's text TOLD by the authors' own Lean function (tested against real Go, not proved from fmt's source: count such statements apart). THE CARD IS WHAT COUNTS. Prove the row's statement (the work); the ties are given (YtipdnkkkigmkdaaDoorTie.lean); close each card by the builder's one call (the guide's Derived/Test/ToyasCard.lean, 'card_holds'). Laid BY PROGRAM, IN A SANDBOX (cutbox-door.mjs). By AI agents, Wed Nov 11 2026. No macro, syntax, notation, axiom, sorry.
-/
import Derived.Test.YtipdnkkkigmkdaaDoorRows
import GoSem.ClaimSeven
namespace Go.Proofs.YtipdnkkkigmkdaaDoor
namespace Rows

/-- THE TIED CARD OF 'farlaw.MaskWrites'. -/
def maskWritesCard : Claim7 := { stood := { row := maskWritesRow, standIns := [], harness := (true, "4401d062883d520efa37596499ce99a0ff33ee649e5355c0c4adcd65d47d3151"), looks := false }, kinds := [], alts := [], laidByText := true, laidKinds := [.data, .pinned], laidTests := true, laidLooks := .later }
def MaskWritesCardSaid : Prop := Claim7.holds Tryd.pinned (.plain (OpenSpec.ofChange maskWritesSpec)) maskWritesCard

/-- THE TIED CARD OF 'farkeep.MaskBack'. -/
def maskBackCard : Claim7 := { stood := { row := maskBackRow, standIns := [], harness := (true, "4401d062883d520efa37596499ce99a0ff33ee649e5355c0c4adcd65d47d3151"), looks := false }, kinds := [], alts := [], laidByText := true, laidKinds := [.data, .pinned], laidTests := true, laidLooks := .later }
def MaskBackCardSaid : Prop := Claim7.holds Tryd.pinned (.plain (OpenSpec.ofChange maskBackSpec)) maskBackCard

/-- THE SECOND FORM's CARD OF 'farlaw.MaskWrites'. -/
def maskWritesUptoCard : Claim7 := { stood := { row := maskWritesUptoRow, standIns := [], harness := (true, "4401d062883d520efa37596499ce99a0ff33ee649e5355c0c4adcd65d47d3151"), looks := false }, kinds := [], alts := [], laidByText := true, laidKinds := [.data, .pinned], laidTests := true, laidLooks := .later }
def MaskWritesUptoCardSaid : Prop := Claim7.holds Tryd.pinned (.plain (OpenSpec.upto maskWritesSpec)) maskWritesUptoCard

/-- THE SECOND FORM's CARD OF 'farkeep.MaskBack'. -/
def maskBackUptoCard : Claim7 := { stood := { row := maskBackUptoRow, standIns := [], harness := (true, "4401d062883d520efa37596499ce99a0ff33ee649e5355c0c4adcd65d47d3151"), looks := false }, kinds := [], alts := [], laidByText := true, laidKinds := [.data, .pinned], laidTests := true, laidLooks := .later }
def MaskBackUptoCardSaid : Prop := Claim7.holds Tryd.pinned (.plain (OpenSpec.upto maskBackSpec)) maskBackUptoCard
end Rows
end Go.Proofs.YtipdnkkkigmkdaaDoor
