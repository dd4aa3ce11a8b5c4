/-
  No cell of these rows narrows 'for every input' (looked for: loops, veiled, ifaces, maps, wideKeys, modest, calm, conditions, laid).
  DERIVED. THE GIVEN ROWS OF THIS SEAT. 6 by the template 'for every input the law returns true; each argument reads behind the call as it read before'; 0 by the template 'total and deterministic' (their statements: YtfehlfjondelnaaTotals.lean).
  GIVEN WITH THE SEED: the statements are not yours to turn. If you find one false, say at which input.
  Laid BY PROGRAM, IN A SANDBOX (cutbox-rows.mjs): the forced cells as the released guide's own fill.sh prints them over the translation f6103199c7a60842… (all of the seat's roots in one cut). By AI agents, Wed Nov 11 2026. No macro, syntax, notation, axiom, sorry.
-/
import Derived.Test.YtfehlfjondelnaaChecked
import GoSem.Claim
import GoSem.ClaimJoined
import GoSem.ClaimMapViews
import Derived.JoinedTies
import Derived.KernelRfl
namespace Go.Proofs.Ytfehlfjondelnaa
/- THE CELL 'sum', in the pinned program and in every row, IS THE sha256 OF THE DUMP (.gsa) THAT YtfehlfjondelnaaProg.lean LOADS. Nothing in Lean hashes anything: it is a label: what it is worth is what the hold of that sum in a sandbox is worth. -/
noncomputable def Try.pinned : Pinned := { name := "ytfehlfjondelnaa", sum := "f6103199c7a60842ecc635e0e0d7800719a03d6008aa7f1e275df117c46d8415", checked := Try.checked }
namespace Rows
def none {H : Type} : Left H := { results := [], args := [] }

/-- 'farlaw.QnegTables': WHATEVER THE INPUT: true; the input reads as it did. -/
def qnegTablesSpec : ChangeSpec := { name := "qnegTables", fn := fun _ => fun
  | [d1, d2, d3] => { results := [.lit (.bool true)], args := [d1, d2, d3] }
  | _ => none }
def qnegTablesRow : OpenClaim := { program := "ytfehlfjondelnaa", sum := "f6103199c7a60842ecc635e0e0d7800719a03d6008aa7f1e275df117c46d8415", func := "farwriter/farlaw.QnegTables", spec := "qnegTables", apart := false }
def QnegTablesSaid : Prop := qnegTablesRow.holds Try.pinned (OpenSpec.ofChange qnegTablesSpec)

/-- ITS FALSE NEIGHBOUR: 'it returns false'. Refute it at one input. -/
def qnegTablesWrong : ChangeSpec := { name := "qnegTables", fn := fun _ => fun
  | [d1, d2, d3] => { results := [.lit (.bool false)], args := [d1, d2, d3] }
  | _ => none }
def QnegTablesWrongFalsely : Prop := qnegTablesRow.holds Try.pinned (OpenSpec.ofChange qnegTablesWrong)

/-- 'farlaw.QnegTakes': WHATEVER THE INPUT: true; the input reads as it did. -/
def qnegTakesSpec : ChangeSpec := { name := "qnegTakes", fn := fun _ => fun
  | [d1, d2] => { results := [.lit (.bool true)], args := [d1, d2] }
  | _ => none }
def qnegTakesRow : OpenClaim := { program := "ytfehlfjondelnaa", sum := "f6103199c7a60842ecc635e0e0d7800719a03d6008aa7f1e275df117c46d8415", func := "farwriter/farlaw.QnegTakes", spec := "qnegTakes", apart := false }
def QnegTakesSaid : Prop := qnegTakesRow.holds Try.pinned (OpenSpec.ofChange qnegTakesSpec)

/-- ITS FALSE NEIGHBOUR: 'it returns false'. Refute it at one input. -/
def qnegTakesWrong : ChangeSpec := { name := "qnegTakes", fn := fun _ => fun
  | [d1, d2] => { results := [.lit (.bool false)], args := [d1, d2] }
  | _ => none }
def QnegTakesWrongFalsely : Prop := qnegTakesRow.holds Try.pinned (OpenSpec.ofChange qnegTakesWrong)

/-- 'farlaw.QnegWants': WHATEVER THE INPUT: true; the input reads as it did. -/
def qnegWantsSpec : ChangeSpec := { name := "qnegWants", fn := fun _ => fun
  | [d1, d2, d3, d4] => { results := [.lit (.bool true)], args := [d1, d2, d3, d4] }
  | _ => none }
def qnegWantsRow : OpenClaim := { program := "ytfehlfjondelnaa", sum := "f6103199c7a60842ecc635e0e0d7800719a03d6008aa7f1e275df117c46d8415", func := "farwriter/farlaw.QnegWants", spec := "qnegWants", apart := false }
def QnegWantsSaid : Prop := qnegWantsRow.holds Try.pinned (OpenSpec.ofChange qnegWantsSpec)

/-- ITS FALSE NEIGHBOUR: 'it returns false'. Refute it at one input. -/
def qnegWantsWrong : ChangeSpec := { name := "qnegWants", fn := fun _ => fun
  | [d1, d2, d3, d4] => { results := [.lit (.bool false)], args := [d1, d2, d3, d4] }
  | _ => none }
def QnegWantsWrongFalsely : Prop := qnegWantsRow.holds Try.pinned (OpenSpec.ofChange qnegWantsWrong)

/-- 'farkeep.QnegQuiet': WHATEVER THE INPUT: true; the input reads as it did. -/
def qnegQuietSpec : ChangeSpec := { name := "qnegQuiet", fn := fun _ => fun
  | [d1, d2] => { results := [.lit (.bool true)], args := [d1, d2] }
  | _ => none }
def qnegQuietRow : OpenClaim := { program := "ytfehlfjondelnaa", sum := "f6103199c7a60842ecc635e0e0d7800719a03d6008aa7f1e275df117c46d8415", func := "farwriter/farkeep.QnegQuiet", spec := "qnegQuiet", apart := false }
def QnegQuietSaid : Prop := qnegQuietRow.holds Try.pinned (OpenSpec.ofChange qnegQuietSpec)

/-- ITS FALSE NEIGHBOUR: 'it returns false'. Refute it at one input. -/
def qnegQuietWrong : ChangeSpec := { name := "qnegQuiet", fn := fun _ => fun
  | [d1, d2] => { results := [.lit (.bool false)], args := [d1, d2] }
  | _ => none }
def QnegQuietWrongFalsely : Prop := qnegQuietRow.holds Try.pinned (OpenSpec.ofChange qnegQuietWrong)

/-- 'farkeep.QnegLast': WHATEVER THE INPUT: true; the input reads as it did. -/
def qnegLastSpec : ChangeSpec := { name := "qnegLast", fn := fun _ => fun
  | [d1, d2] => { results := [.lit (.bool true)], args := [d1, d2] }
  | _ => none }
def qnegLastRow : OpenClaim := { program := "ytfehlfjondelnaa", sum := "f6103199c7a60842ecc635e0e0d7800719a03d6008aa7f1e275df117c46d8415", func := "farwriter/farkeep.QnegLast", spec := "qnegLast", apart := false }
def QnegLastSaid : Prop := qnegLastRow.holds Try.pinned (OpenSpec.ofChange qnegLastSpec)

/-- ITS FALSE NEIGHBOUR: 'it returns false'. Refute it at one input. -/
def qnegLastWrong : ChangeSpec := { name := "qnegLast", fn := fun _ => fun
  | [d1, d2] => { results := [.lit (.bool false)], args := [d1, d2] }
  | _ => none }
def QnegLastWrongFalsely : Prop := qnegLastRow.holds Try.pinned (OpenSpec.ofChange qnegLastWrong)

/-- 'farkeep.QnegAnswered': WHATEVER THE INPUT: true; the input reads as it did. -/
def qnegAnsweredSpec : ChangeSpec := { name := "qnegAnswered", fn := fun _ => fun
  | [d] => { results := [.lit (.bool true)], args := [d] }
  | _ => none }
def qnegAnsweredRow : OpenClaim := { program := "ytfehlfjondelnaa", sum := "f6103199c7a60842ecc635e0e0d7800719a03d6008aa7f1e275df117c46d8415", func := "farwriter/farkeep.QnegAnswered", spec := "qnegAnswered", apart := false }
def QnegAnsweredSaid : Prop := qnegAnsweredRow.holds Try.pinned (OpenSpec.ofChange qnegAnsweredSpec)

/-- ITS FALSE NEIGHBOUR: 'it returns false'. Refute it at one input. -/
def qnegAnsweredWrong : ChangeSpec := { name := "qnegAnswered", fn := fun _ => fun
  | [d] => { results := [.lit (.bool false)], args := [d] }
  | _ => none }
def QnegAnsweredWrongFalsely : Prop := qnegAnsweredRow.holds Try.pinned (OpenSpec.ofChange qnegAnsweredWrong)

/- THE SECOND FORM. 'bulk': how many values and letters a reading holds, each counted each time it is reached (what is shared counts as often as it is met; a slice's spare places count too). A statement '..UptoSaid' is the law's where the arguments, and the package variables that the reading takes, are together of bulk at most 1048576: NARROWER than '..Said'. Prove '..Said' where nothing that the law and all that it calls make is longer than what came in: it says more and counts as full. Else prove '..UptoSaid'. A law counts once. -/
mutual
def uptoBulk {H : Type} : DataW H → Nat
  | .lit (.string bytes) => bytes.length + 1
  | .lit _ => 1
  | .nil => 1
  | .ptr d => uptoBulk d + 1
  | .slice elems spare => uptoBulkAll elems + uptoBulkAll spare + 1
  | .agg parts => uptoBulkAll parts + 1
  | .iface _ d => uptoBulk d + 1
  | .map entries => uptoBulkEntries entries + 1
  | .held _ => 1
def uptoBulkAll {H : Type} : List (DataW H) → Nat
  | [] => 0
  | d :: r => uptoBulk d + uptoBulkAll r
def uptoBulkEntries {H : Type} : List (Lit × DataW H) → Nat
  | [] => 0
  | x :: r => uptoBulkEntry x + uptoBulkEntries r
def uptoBulkEntry {H : Type} : Lit × DataW H → Nat
  | (.string bytes, d) => bytes.length + uptoBulk d + 1
  | (_, d) => uptoBulk d + 1
 end
def uptoSmall : (H : Type) → List (DataW H) → Bool := fun _ ds => decide (uptoBulkAll ds ≤ 1048576)
def OpenSpec.upto (s : _root_.Go.ChangeSpec) : _root_.Go.OpenSpec := { _root_.Go.OpenSpec.ofChange s with cond := some uptoSmall }

/-- 'farlaw.QnegTables', WHERE WHAT IT READS IS OF BULK AT MOST 1048576: true; the input reads as it did. -/
def qnegTablesUptoRow : OpenClaim := { program := "ytfehlfjondelnaa", sum := "f6103199c7a60842ecc635e0e0d7800719a03d6008aa7f1e275df117c46d8415", func := "farwriter/farlaw.QnegTables", spec := "qnegTables", apart := false, narrowed := true }
def QnegTablesUptoSaid : Prop := qnegTablesUptoRow.holds Try.pinned (OpenSpec.upto qnegTablesSpec)

/-- 'farlaw.QnegTakes', WHERE WHAT IT READS IS OF BULK AT MOST 1048576: true; the input reads as it did. -/
def qnegTakesUptoRow : OpenClaim := { program := "ytfehlfjondelnaa", sum := "f6103199c7a60842ecc635e0e0d7800719a03d6008aa7f1e275df117c46d8415", func := "farwriter/farlaw.QnegTakes", spec := "qnegTakes", apart := false, narrowed := true }
def QnegTakesUptoSaid : Prop := qnegTakesUptoRow.holds Try.pinned (OpenSpec.upto qnegTakesSpec)

/-- 'farlaw.QnegWants', WHERE WHAT IT READS IS OF BULK AT MOST 1048576: true; the input reads as it did. -/
def qnegWantsUptoRow : OpenClaim := { program := "ytfehlfjondelnaa", sum := "f6103199c7a60842ecc635e0e0d7800719a03d6008aa7f1e275df117c46d8415", func := "farwriter/farlaw.QnegWants", spec := "qnegWants", apart := false, narrowed := true }
def QnegWantsUptoSaid : Prop := qnegWantsUptoRow.holds Try.pinned (OpenSpec.upto qnegWantsSpec)

/-- 'farkeep.QnegQuiet', WHERE WHAT IT READS IS OF BULK AT MOST 1048576: true; the input reads as it did. -/
def qnegQuietUptoRow : OpenClaim := { program := "ytfehlfjondelnaa", sum := "f6103199c7a60842ecc635e0e0d7800719a03d6008aa7f1e275df117c46d8415", func := "farwriter/farkeep.QnegQuiet", spec := "qnegQuiet", apart := false, narrowed := true }
def QnegQuietUptoSaid : Prop := qnegQuietUptoRow.holds Try.pinned (OpenSpec.upto qnegQuietSpec)

/-- 'farkeep.QnegLast', WHERE WHAT IT READS IS OF BULK AT MOST 1048576: true; the input reads as it did. -/
def qnegLastUptoRow : OpenClaim := { program := "ytfehlfjondelnaa", sum := "f6103199c7a60842ecc635e0e0d7800719a03d6008aa7f1e275df117c46d8415", func := "farwriter/farkeep.QnegLast", spec := "qnegLast", apart := false, narrowed := true }
def QnegLastUptoSaid : Prop := qnegLastUptoRow.holds Try.pinned (OpenSpec.upto qnegLastSpec)

/-- 'farkeep.QnegAnswered', WHERE WHAT IT READS IS OF BULK AT MOST 1048576: true; the input reads as it did. -/
def qnegAnsweredUptoRow : OpenClaim := { program := "ytfehlfjondelnaa", sum := "f6103199c7a60842ecc635e0e0d7800719a03d6008aa7f1e275df117c46d8415", func := "farwriter/farkeep.QnegAnswered", spec := "qnegAnswered", apart := false, narrowed := true }
def QnegAnsweredUptoSaid : Prop := qnegAnsweredUptoRow.holds Try.pinned (OpenSpec.upto qnegAnsweredSpec)

end Rows
end Go.Proofs.Ytfehlfjondelnaa
