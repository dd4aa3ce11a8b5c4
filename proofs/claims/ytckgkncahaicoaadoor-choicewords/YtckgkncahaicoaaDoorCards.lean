/-
  DERIVED. GIVEN WITH THE SEED: THE CARDS: each row of YtckgkncahaicoaaDoorRows.lean that lists a variable, with what it lists TIED to the program's text (the seventh form; the later family's looks); each row that meets fmt, with fmt's text TOLD by the authors' own Lean function (tested against real Go, not proved from fmt's source: count such statements apart). THE CARD IS WHAT COUNTS. Prove the row's statement (the work); the ties are given (YtckgkncahaicoaaDoorTie.lean); close each card by the builder's one call (the guide's Derived/Test/ToyasCard.lean, 'card_holds'). Laid BY PROGRAM, IN A SANDBOX (cutbox-door.mjs). By AI agents, Wed Nov 11 2026. No macro, syntax, notation, axiom, sorry.
-/
import Derived.Test.YtckgkncahaicoaaDoorRows
import GoSem.ClaimSeven
namespace Go.Proofs.YtckgkncahaicoaaDoor
namespace Rows

/-- THE TIED CARD OF 'farkeep.ChoiceWords'. -/
def choiceWordsCard : Claim7 := { stood := { row := choiceWordsRow, standIns := [], harness := (true, "d3dd64ee04f127e03bbffa3a28dbe830ac54f4233dd27a3de452ff8b02f96596"), looks := false }, kinds := [], alts := [], laidByText := true, laidKinds := [.data, .pinned], laidTests := true, laidLooks := .later }
def ChoiceWordsCardSaid : Prop := Claim7.holds Tryd.pinned (.plain (OpenSpec.ofChange choiceWordsSpec)) choiceWordsCard

/-- THE SECOND FORM's CARD OF 'farkeep.ChoiceWords'. -/
def choiceWordsUptoCard : Claim7 := { stood := { row := choiceWordsUptoRow, standIns := [], harness := (true, "d3dd64ee04f127e03bbffa3a28dbe830ac54f4233dd27a3de452ff8b02f96596"), looks := false }, kinds := [], alts := [], laidByText := true, laidKinds := [.data, .pinned], laidTests := true, laidLooks := .later }
def ChoiceWordsUptoCardSaid : Prop := Claim7.holds Tryd.pinned (.plain (OpenSpec.upto choiceWordsSpec)) choiceWordsUptoCard
end Rows
end Go.Proofs.YtckgkncahaicoaaDoor
