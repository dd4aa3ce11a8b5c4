/-
  DERIVED. GIVEN WITH THE SEED: THE CARDS: each row of YtmniifmgliklnaaDoorRows.lean that lists a variable, with what it lists TIED to the program's text (the seventh form; the later family's looks); each row that meets fmt, with fmt's text TOLD by the authors' own Lean function (tested against real Go, not proved from fmt's source: count such statements apart). THE CARD IS WHAT COUNTS. Prove the row's statement (the work); the ties are given (YtmniifmgliklnaaDoorTie.lean); close each card by the builder's one call (the guide's Derived/Test/ToyasCard.lean, 'card_holds'). Laid BY PROGRAM, IN A SANDBOX (cutbox-door.mjs). By AI agents, Wed Nov 11 2026. No macro, syntax, notation, axiom, sorry.
-/
import Derived.Test.YtmniifmgliklnaaDoorRows
import GoSem.ClaimSeven
namespace Go.Proofs.YtmniifmgliklnaaDoor
namespace Rows

/-- THE TIED CARD OF 'farlaw.PageSays'. -/
def pageSaysCard : Claim7 := { stood := { row := pageSaysRow, standIns := [], harness := (true, "abe707f381b0514d98f0068e6a54e11c27532876e5620a78107e0beb8160ea59"), looks := false }, kinds := [], alts := [], laidByText := true, laidKinds := [.data], laidTests := true, laidLooks := .later }
def PageSaysCardSaid : Prop := Claim7.holds Tryd.pinned (.plain (OpenSpec.ofChange pageSaysSpec)) pageSaysCard

/-- THE TIED CARD OF 'farlaw.PageReads'. -/
def pageReadsCard : Claim7 := { stood := { row := pageReadsRow, standIns := [], harness := (true, "abe707f381b0514d98f0068e6a54e11c27532876e5620a78107e0beb8160ea59"), looks := false }, kinds := [], alts := [], laidByText := true, laidKinds := [.data], laidTests := true, laidLooks := .later }
def PageReadsCardSaid : Prop := Claim7.holds Tryd.pinned (.plain (OpenSpec.ofChange pageReadsSpec)) pageReadsCard

/-- THE TIED CARD OF 'farkeep.PageBack'. -/
def pageBackCard : Claim7 := { stood := { row := pageBackRow, standIns := [], harness := (true, "abe707f381b0514d98f0068e6a54e11c27532876e5620a78107e0beb8160ea59"), looks := false }, kinds := [], alts := [], laidByText := true, laidKinds := [.data], laidTests := true, laidLooks := .later }
def PageBackCardSaid : Prop := Claim7.holds Tryd.pinned (.plain (OpenSpec.ofChange pageBackSpec)) pageBackCard

/-- THE TIED CARD OF 'farkeep.PageRunes'. -/
def pageRunesCard : Claim7 := { stood := { row := pageRunesRow, standIns := [], harness := (true, "abe707f381b0514d98f0068e6a54e11c27532876e5620a78107e0beb8160ea59"), looks := false }, kinds := [], alts := [], laidByText := true, laidKinds := [.data], laidTests := true, laidLooks := .later }
def PageRunesCardSaid : Prop := Claim7.holds Tryd.pinned (.plain (OpenSpec.ofChange pageRunesSpec)) pageRunesCard

/-- THE TIED CARD OF 'farkeep.PageSame'. -/
def pageSameCard : Claim7 := { stood := { row := pageSameRow, standIns := [], harness := (true, "abe707f381b0514d98f0068e6a54e11c27532876e5620a78107e0beb8160ea59"), looks := false }, kinds := [], alts := [], laidByText := true, laidKinds := [.data], laidTests := true, laidLooks := .later }
def PageSameCardSaid : Prop := Claim7.holds Tryd.pinned (.plain (OpenSpec.ofChange pageSameSpec)) pageSameCard

/-- THE SECOND FORM's CARD OF 'farlaw.PageSays'. -/
def pageSaysUptoCard : Claim7 := { stood := { row := pageSaysUptoRow, standIns := [], harness := (true, "abe707f381b0514d98f0068e6a54e11c27532876e5620a78107e0beb8160ea59"), looks := false }, kinds := [], alts := [], laidByText := true, laidKinds := [.data], laidTests := true, laidLooks := .later }
def PageSaysUptoCardSaid : Prop := Claim7.holds Tryd.pinned (.plain (OpenSpec.upto pageSaysSpec)) pageSaysUptoCard

/-- THE SECOND FORM's CARD OF 'farlaw.PageReads'. -/
def pageReadsUptoCard : Claim7 := { stood := { row := pageReadsUptoRow, standIns := [], harness := (true, "abe707f381b0514d98f0068e6a54e11c27532876e5620a78107e0beb8160ea59"), looks := false }, kinds := [], alts := [], laidByText := true, laidKinds := [.data], laidTests := true, laidLooks := .later }
def PageReadsUptoCardSaid : Prop := Claim7.holds Tryd.pinned (.plain (OpenSpec.upto pageReadsSpec)) pageReadsUptoCard

/-- THE SECOND FORM's CARD OF 'farkeep.PageBack'. -/
def pageBackUptoCard : Claim7 := { stood := { row := pageBackUptoRow, standIns := [], harness := (true, "abe707f381b0514d98f0068e6a54e11c27532876e5620a78107e0beb8160ea59"), looks := false }, kinds := [], alts := [], laidByText := true, laidKinds := [.data], laidTests := true, laidLooks := .later }
def PageBackUptoCardSaid : Prop := Claim7.holds Tryd.pinned (.plain (OpenSpec.upto pageBackSpec)) pageBackUptoCard

/-- THE SECOND FORM's CARD OF 'farkeep.PageRunes'. -/
def pageRunesUptoCard : Claim7 := { stood := { row := pageRunesUptoRow, standIns := [], harness := (true, "abe707f381b0514d98f0068e6a54e11c27532876e5620a78107e0beb8160ea59"), looks := false }, kinds := [], alts := [], laidByText := true, laidKinds := [.data], laidTests := true, laidLooks := .later }
def PageRunesUptoCardSaid : Prop := Claim7.holds Tryd.pinned (.plain (OpenSpec.upto pageRunesSpec)) pageRunesUptoCard

/-- THE SECOND FORM's CARD OF 'farkeep.PageSame'. -/
def pageSameUptoCard : Claim7 := { stood := { row := pageSameUptoRow, standIns := [], harness := (true, "abe707f381b0514d98f0068e6a54e11c27532876e5620a78107e0beb8160ea59"), looks := false }, kinds := [], alts := [], laidByText := true, laidKinds := [.data], laidTests := true, laidLooks := .later }
def PageSameUptoCardSaid : Prop := Claim7.holds Tryd.pinned (.plain (OpenSpec.upto pageSameSpec)) pageSameUptoCard
end Rows
end Go.Proofs.YtmniifmgliklnaaDoor
