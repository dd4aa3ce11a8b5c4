/-
  DERIVED. GIVEN WITH THE SEED: THE CARDS: each row of YtjkhebmemfdijaaDoorRows.lean that lists a variable, with what it lists TIED to the program's text (the seventh form; the later family's looks); each row that meets fmt, with fmt's text TOLD by the authors' own Lean function (tested against real Go, not proved from fmt's source: count such statements apart). THE CARD IS WHAT COUNTS. Prove the row's statement (the work); the ties are given (YtjkhebmemfdijaaDoorTie.lean); close each card by the builder's one call (the guide's Derived/Test/ToyasCard.lean, 'card_holds'). Laid BY PROGRAM, IN A SANDBOX (cutbox-door.mjs). By AI agents, Wed Nov 11 2026. No macro, syntax, notation, axiom, sorry.
-/
import Derived.Test.YtjkhebmemfdijaaDoorRows
import GoSem.ClaimSeven
namespace Go.Proofs.YtjkhebmemfdijaaDoor
namespace Rows

/-- THE TIED CARD OF 'farlaw.ArgsSays'. -/
def argsSaysCard : Claim7 := { stood := { row := argsSaysRow, standIns := [], harness := (true, "1aa2108c59536b483dbdce3615cf5725275e2827828ec2be1baa78a7ab3134e0"), looks := false }, kinds := [], alts := [], laidByText := true, laidKinds := [.data, .data, .data, .data, .pinned], laidTests := true, laidLooks := .later }
def ArgsSaysCardSaid : Prop := Claim7.holds Tryd.pinned (.plain (OpenSpec.ofChange argsSaysSpec)) argsSaysCard

/-- THE TIED CARD OF 'farkeep.ArgsBack'. -/
def argsBackCard : Claim7 := { stood := { row := argsBackRow, standIns := [], harness := (true, "1aa2108c59536b483dbdce3615cf5725275e2827828ec2be1baa78a7ab3134e0"), looks := false }, kinds := [], alts := [], laidByText := true, laidKinds := [.data, .data, .data], laidTests := true, laidLooks := .later }
def ArgsBackCardSaid : Prop := Claim7.holds Tryd.pinned (.plain (OpenSpec.ofChange argsBackSpec)) argsBackCard

/-- THE SECOND FORM's CARD OF 'farlaw.ArgsSays'. -/
def argsSaysUptoCard : Claim7 := { stood := { row := argsSaysUptoRow, standIns := [], harness := (true, "1aa2108c59536b483dbdce3615cf5725275e2827828ec2be1baa78a7ab3134e0"), looks := false }, kinds := [], alts := [], laidByText := true, laidKinds := [.data, .data, .data, .data, .pinned], laidTests := true, laidLooks := .later }
def ArgsSaysUptoCardSaid : Prop := Claim7.holds Tryd.pinned (.plain (OpenSpec.upto argsSaysSpec)) argsSaysUptoCard

/-- THE SECOND FORM's CARD OF 'farkeep.ArgsBack'. -/
def argsBackUptoCard : Claim7 := { stood := { row := argsBackUptoRow, standIns := [], harness := (true, "1aa2108c59536b483dbdce3615cf5725275e2827828ec2be1baa78a7ab3134e0"), looks := false }, kinds := [], alts := [], laidByText := true, laidKinds := [.data, .data, .data], laidTests := true, laidLooks := .later }
def ArgsBackUptoCardSaid : Prop := Claim7.holds Tryd.pinned (.plain (OpenSpec.upto argsBackSpec)) argsBackUptoCard
end Rows
end Go.Proofs.YtjkhebmemfdijaaDoor
