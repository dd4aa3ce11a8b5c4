/-
  DERIVED. GIVEN WITH THE SEED: THE CARDS: each row of YtbfiompbngpjoaaDoorRows.lean that lists a variable, with what it lists TIED to the program's text (the seventh form; the later family's looks); each row that meets fmt, with fmt's text TOLD by the authors' own Lean function (tested against real Go, not proved from fmt's source: count such statements apart). THE CARD IS WHAT COUNTS. Prove the row's statement (the work); the ties are given (YtbfiompbngpjoaaDoorTie.lean); close each card by the builder's one call (the guide's Derived/Test/ToyasCard.lean, 'card_holds'). Laid BY PROGRAM, IN A SANDBOX (cutbox-door.mjs). By AI agents, Wed Nov 11 2026. No macro, syntax, notation, axiom, sorry.
-/
import Derived.Test.YtbfiompbngpjoaaDoorRows
import GoSem.ClaimSeven
namespace Go.Proofs.YtbfiompbngpjoaaDoor
namespace Rows

/-- THE TIED CARD OF 'farlaw.EnvironWrites'. -/
def environWritesCard : Claim7 := { stood := { row := environWritesRow, standIns := [], harness := (true, "e4eb93f6fd179380dc2ac6ba0a157734186219bc1c77a7452e9d1d3735a6e924"), looks := false }, kinds := [], alts := [], laidByText := true, laidKinds := [.data, .pinned], laidTests := true, laidLooks := .later }
def EnvironWritesCardSaid : Prop := Claim7.holds Tryd.pinned (.plain (OpenSpec.ofChange environWritesSpec)) environWritesCard

/-- THE TIED CARD OF 'farlaw.EnvironAnswers'. -/
def environAnswersCard : Claim7 := { stood := { row := environAnswersRow, standIns := [], harness := (true, "e4eb93f6fd179380dc2ac6ba0a157734186219bc1c77a7452e9d1d3735a6e924"), looks := false }, kinds := [], alts := [], laidByText := true, laidKinds := [.data, .pinned], laidTests := true, laidLooks := .later }
def EnvironAnswersCardSaid : Prop := Claim7.holds Tryd.pinned (.plain (OpenSpec.ofChange environAnswersSpec)) environAnswersCard

/-- THE SECOND FORM's CARD OF 'farlaw.EnvironWrites'. -/
def environWritesUptoCard : Claim7 := { stood := { row := environWritesUptoRow, standIns := [], harness := (true, "e4eb93f6fd179380dc2ac6ba0a157734186219bc1c77a7452e9d1d3735a6e924"), looks := false }, kinds := [], alts := [], laidByText := true, laidKinds := [.data, .pinned], laidTests := true, laidLooks := .later }
def EnvironWritesUptoCardSaid : Prop := Claim7.holds Tryd.pinned (.plain (OpenSpec.upto environWritesSpec)) environWritesUptoCard

/-- THE SECOND FORM's CARD OF 'farlaw.EnvironAnswers'. -/
def environAnswersUptoCard : Claim7 := { stood := { row := environAnswersUptoRow, standIns := [], harness := (true, "e4eb93f6fd179380dc2ac6ba0a157734186219bc1c77a7452e9d1d3735a6e924"), looks := false }, kinds := [], alts := [], laidByText := true, laidKinds := [.data, .pinned], laidTests := true, laidLooks := .later }
def EnvironAnswersUptoCardSaid : Prop := Claim7.holds Tryd.pinned (.plain (OpenSpec.upto environAnswersSpec)) environAnswersUptoCard
end Rows
end Go.Proofs.YtbfiompbngpjoaaDoor
