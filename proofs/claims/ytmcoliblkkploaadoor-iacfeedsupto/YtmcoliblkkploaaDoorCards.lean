/-
  DERIVED. GIVEN WITH THE SEED: THE CARDS: each row of YtmcoliblkkploaaDoorRows.lean that lists a variable, with what it lists TIED to the program's text (the seventh form; the later family's looks); each row that meets fmt, with fmt's text TOLD by the authors' own Lean function (tested against real Go, not proved from fmt's source: count such statements apart). THE CARD IS WHAT COUNTS. Prove the row's statement (the work); the ties are given (YtmcoliblkkploaaDoorTie.lean); close each card by the builder's one call (the guide's Derived/Test/ToyasCard.lean, 'card_holds'). Laid BY PROGRAM, IN A SANDBOX (cutbox-door.mjs). By AI agents, Wed Nov 11 2026. No macro, syntax, notation, axiom, sorry.
-/
import Derived.Test.YtmcoliblkkploaaDoorRows
import GoSem.ClaimSeven
namespace Go.Proofs.YtmcoliblkkploaaDoor
namespace Rows

/-- THE TIED CARD OF 'farlaw.IacFeeds'. -/
def iacFeedsCard : Claim7 := { stood := { row := iacFeedsRow, standIns := [], harness := (true, "6555094e4c32b73b9980e40a7f34b535ba64c48f0711b14745ba9d890007fcdb"), looks := false }, kinds := [], alts := [], laidByText := true, laidKinds := [.data, .pinned], laidTests := true, laidLooks := .later }
def IacFeedsCardSaid : Prop := Claim7.holds Tryd.pinned (.plain (OpenSpec.ofChange iacFeedsSpec)) iacFeedsCard

/-- THE TIED CARD OF 'farlaw.IacWrites'. -/
def iacWritesCard : Claim7 := { stood := { row := iacWritesRow, standIns := [], harness := (true, "6555094e4c32b73b9980e40a7f34b535ba64c48f0711b14745ba9d890007fcdb"), looks := false }, kinds := [], alts := [], laidByText := true, laidKinds := [.data, .pinned], laidTests := true, laidLooks := .later }
def IacWritesCardSaid : Prop := Claim7.holds Tryd.pinned (.plain (OpenSpec.ofChange iacWritesSpec)) iacWritesCard

/-- THE TIED CARD OF 'farkeep.IacCuts'. -/
def iacCutsCard : Claim7 := { stood := { row := iacCutsRow, standIns := [], harness := (true, "6555094e4c32b73b9980e40a7f34b535ba64c48f0711b14745ba9d890007fcdb"), looks := false }, kinds := [], alts := [], laidByText := true, laidKinds := [.data, .pinned], laidTests := true, laidLooks := .later }
def IacCutsCardSaid : Prop := Claim7.holds Tryd.pinned (.plain (OpenSpec.ofChange iacCutsSpec)) iacCutsCard

/-- THE TIED CARD OF 'farkeep.IacBack'. -/
def iacBackCard : Claim7 := { stood := { row := iacBackRow, standIns := [], harness := (true, "6555094e4c32b73b9980e40a7f34b535ba64c48f0711b14745ba9d890007fcdb"), looks := false }, kinds := [], alts := [], laidByText := true, laidKinds := [.data, .pinned], laidTests := true, laidLooks := .later }
def IacBackCardSaid : Prop := Claim7.holds Tryd.pinned (.plain (OpenSpec.ofChange iacBackSpec)) iacBackCard

/-- THE TIED CARD OF 'farkeep.IacPlain'. -/
def iacPlainCard : Claim7 := { stood := { row := iacPlainRow, standIns := [], harness := (true, "6555094e4c32b73b9980e40a7f34b535ba64c48f0711b14745ba9d890007fcdb"), looks := false }, kinds := [], alts := [], laidByText := true, laidKinds := [.data, .pinned], laidTests := true, laidLooks := .later }
def IacPlainCardSaid : Prop := Claim7.holds Tryd.pinned (.plain (OpenSpec.ofChange iacPlainSpec)) iacPlainCard

/-- THE SECOND FORM's CARD OF 'farlaw.IacFeeds'. -/
def iacFeedsUptoCard : Claim7 := { stood := { row := iacFeedsUptoRow, standIns := [], harness := (true, "6555094e4c32b73b9980e40a7f34b535ba64c48f0711b14745ba9d890007fcdb"), looks := false }, kinds := [], alts := [], laidByText := true, laidKinds := [.data, .pinned], laidTests := true, laidLooks := .later }
def IacFeedsUptoCardSaid : Prop := Claim7.holds Tryd.pinned (.plain (OpenSpec.upto iacFeedsSpec)) iacFeedsUptoCard

/-- THE SECOND FORM's CARD OF 'farlaw.IacWrites'. -/
def iacWritesUptoCard : Claim7 := { stood := { row := iacWritesUptoRow, standIns := [], harness := (true, "6555094e4c32b73b9980e40a7f34b535ba64c48f0711b14745ba9d890007fcdb"), looks := false }, kinds := [], alts := [], laidByText := true, laidKinds := [.data, .pinned], laidTests := true, laidLooks := .later }
def IacWritesUptoCardSaid : Prop := Claim7.holds Tryd.pinned (.plain (OpenSpec.upto iacWritesSpec)) iacWritesUptoCard

/-- THE SECOND FORM's CARD OF 'farkeep.IacCuts'. -/
def iacCutsUptoCard : Claim7 := { stood := { row := iacCutsUptoRow, standIns := [], harness := (true, "6555094e4c32b73b9980e40a7f34b535ba64c48f0711b14745ba9d890007fcdb"), looks := false }, kinds := [], alts := [], laidByText := true, laidKinds := [.data, .pinned], laidTests := true, laidLooks := .later }
def IacCutsUptoCardSaid : Prop := Claim7.holds Tryd.pinned (.plain (OpenSpec.upto iacCutsSpec)) iacCutsUptoCard

/-- THE SECOND FORM's CARD OF 'farkeep.IacBack'. -/
def iacBackUptoCard : Claim7 := { stood := { row := iacBackUptoRow, standIns := [], harness := (true, "6555094e4c32b73b9980e40a7f34b535ba64c48f0711b14745ba9d890007fcdb"), looks := false }, kinds := [], alts := [], laidByText := true, laidKinds := [.data, .pinned], laidTests := true, laidLooks := .later }
def IacBackUptoCardSaid : Prop := Claim7.holds Tryd.pinned (.plain (OpenSpec.upto iacBackSpec)) iacBackUptoCard

/-- THE SECOND FORM's CARD OF 'farkeep.IacPlain'. -/
def iacPlainUptoCard : Claim7 := { stood := { row := iacPlainUptoRow, standIns := [], harness := (true, "6555094e4c32b73b9980e40a7f34b535ba64c48f0711b14745ba9d890007fcdb"), looks := false }, kinds := [], alts := [], laidByText := true, laidKinds := [.data, .pinned], laidTests := true, laidLooks := .later }
def IacPlainUptoCardSaid : Prop := Claim7.holds Tryd.pinned (.plain (OpenSpec.upto iacPlainSpec)) iacPlainUptoCard
end Rows
end Go.Proofs.YtmcoliblkkploaaDoor
