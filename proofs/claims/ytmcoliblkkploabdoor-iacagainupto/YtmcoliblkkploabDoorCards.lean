/-
  DERIVED. GIVEN WITH THE SEED: THE CARDS: each row of YtmcoliblkkploabDoorRows.lean that lists a variable, with what it lists TIED to the program's text (the seventh form; the later family's looks); each row that meets fmt, with fmt's text TOLD by the authors' own Lean function (tested against real Go, not proved from fmt's source: count such statements apart). THE CARD IS WHAT COUNTS. Prove the row's statement (the work); the ties are given (YtmcoliblkkploabDoorTie.lean); close each card by the builder's one call (the guide's Derived/Test/ToyasCard.lean, 'card_holds'). Laid BY PROGRAM, IN A SANDBOX (cutbox-door.mjs). By AI agents, Wed Nov 11 2026. No macro, syntax, notation, axiom, sorry.
-/
import Derived.Test.YtmcoliblkkploabDoorRows
import GoSem.ClaimSeven
namespace Go.Proofs.YtmcoliblkkploabDoor
namespace Rows

/-- THE TIED CARD OF 'farkeep.IacAgain'. -/
def iacAgainCard : Claim7 := { stood := { row := iacAgainRow, standIns := [], harness := (true, "7a64ec13fdf5def3f831a35571597c497c93ac3c9d9f0aa741eef2202e27ee6e"), looks := false }, kinds := [], alts := [], laidByText := true, laidKinds := [.data, .pinned], laidTests := true, laidLooks := .later }
def IacAgainCardSaid : Prop := Claim7.holds Tryd.pinned (.plain (OpenSpec.ofChange iacAgainSpec)) iacAgainCard

/-- THE TIED CARD OF 'farkeep.IacRight'. -/
def iacRightCard : Claim7 := { stood := { row := iacRightRow, standIns := [], harness := (true, "7a64ec13fdf5def3f831a35571597c497c93ac3c9d9f0aa741eef2202e27ee6e"), looks := false }, kinds := [], alts := [], laidByText := true, laidKinds := [.data, .pinned], laidTests := true, laidLooks := .later }
def IacRightCardSaid : Prop := Claim7.holds Tryd.pinned (.plain (OpenSpec.ofChange iacRightSpec)) iacRightCard

/-- THE SECOND FORM's CARD OF 'farkeep.IacAgain'. -/
def iacAgainUptoCard : Claim7 := { stood := { row := iacAgainUptoRow, standIns := [], harness := (true, "7a64ec13fdf5def3f831a35571597c497c93ac3c9d9f0aa741eef2202e27ee6e"), looks := false }, kinds := [], alts := [], laidByText := true, laidKinds := [.data, .pinned], laidTests := true, laidLooks := .later }
def IacAgainUptoCardSaid : Prop := Claim7.holds Tryd.pinned (.plain (OpenSpec.upto iacAgainSpec)) iacAgainUptoCard

/-- THE SECOND FORM's CARD OF 'farkeep.IacRight'. -/
def iacRightUptoCard : Claim7 := { stood := { row := iacRightUptoRow, standIns := [], harness := (true, "7a64ec13fdf5def3f831a35571597c497c93ac3c9d9f0aa741eef2202e27ee6e"), looks := false }, kinds := [], alts := [], laidByText := true, laidKinds := [.data, .pinned], laidTests := true, laidLooks := .later }
def IacRightUptoCardSaid : Prop := Claim7.holds Tryd.pinned (.plain (OpenSpec.upto iacRightSpec)) iacRightUptoCard
end Rows
end Go.Proofs.YtmcoliblkkploabDoor
