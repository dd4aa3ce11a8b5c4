/-
  DERIVED. GIVEN WITH THE SEED: THE CARDS: each row of YtjnopjjbndknfabDoorRows.lean that lists a variable, with what it lists TIED to the program's text (the seventh form; the later family's looks); each row that meets fmt, with fmt's text TOLD by the authors' own Lean function (tested against real Go, not proved from fmt's source: count such statements apart). THE CARD IS WHAT COUNTS. Prove the row's statement (the work); the ties are given (YtjnopjjbndknfabDoorTie.lean); close each card by the builder's one call (the guide's Derived/Test/ToyasCard.lean, 'card_holds'). Laid BY PROGRAM, IN A SANDBOX (cutbox-door.mjs). By AI agents, Wed Nov 11 2026. No macro, syntax, notation, axiom, sorry.
-/
import Derived.Test.YtjnopjjbndknfabDoorRows
import GoSem.ClaimSeven
namespace Go.Proofs.YtjnopjjbndknfabDoor
namespace Rows

/-- THE TIED CARD OF 'farkeep.UtfLeft'. -/
def utfLeftCard : Claim7 := { stood := { row := utfLeftRow, standIns := [], harness := (true, "389e9b1a4a54f622177e4a3ba572a85b104470431f95dbb9b9f18180ce418410"), looks := false }, kinds := [], alts := [], laidByText := true, laidKinds := [.data, .pinned], laidTests := true, laidLooks := .later }
def UtfLeftCardSaid : Prop := Claim7.holds Tryd.pinned (.plain (OpenSpec.ofChange utfLeftSpec)) utfLeftCard

/-- THE SECOND FORM's CARD OF 'farkeep.UtfLeft'. -/
def utfLeftUptoCard : Claim7 := { stood := { row := utfLeftUptoRow, standIns := [], harness := (true, "389e9b1a4a54f622177e4a3ba572a85b104470431f95dbb9b9f18180ce418410"), looks := false }, kinds := [], alts := [], laidByText := true, laidKinds := [.data, .pinned], laidTests := true, laidLooks := .later }
def UtfLeftUptoCardSaid : Prop := Claim7.holds Tryd.pinned (.plain (OpenSpec.upto utfLeftSpec)) utfLeftUptoCard
end Rows
end Go.Proofs.YtjnopjjbndknfabDoor
