/-
  No cell of these rows narrows 'for every input' (looked for: loops, veiled, ifaces, maps, wideKeys, modest, calm, conditions, laid).
  DERIVED. THE GIVEN ROWS OF THIS SEAT. 4 by the template 'for every input the law returns true; each argument reads behind the call as it read before'; 0 by the template 'total and deterministic' (their statements: YtbfiompbngpjoaaTotals.lean).
  GIVEN WITH THE SEED: the statements are not yours to turn. If you find one false, say at which input.
  Laid BY PROGRAM, IN A SANDBOX (cutbox-rows.mjs): the forced cells as the released guide's own fill.sh prints them over the translation e636f9ffdfef3771… (all of the seat's roots in one cut). By AI agents, Wed Nov 11 2026. No macro, syntax, notation, axiom, sorry.
-/
import Derived.Test.YtbfiompbngpjoaaChecked
import GoSem.Claim
import GoSem.ClaimJoined
import GoSem.ClaimMapViews
import Derived.JoinedTies
import Derived.KernelRfl
namespace Go.Proofs.Ytbfiompbngpjoaa
/- THE CELL 'sum', in the pinned program and in every row, IS THE sha256 OF THE DUMP (.gsa) THAT YtbfiompbngpjoaaProg.lean LOADS. Nothing in Lean hashes anything: it is a label: what it is worth is what the hold of that sum in a sandbox is worth. -/
noncomputable def Try.pinned : Pinned := { name := "ytbfiompbngpjoaa", sum := "e636f9ffdfef37710c5875cc9a9a5ddb961c143fd908b835b15d8ed9a62a21fe", checked := Try.checked }
namespace Rows
def none {H : Type} : Left H := { results := [], args := [] }

/-- 'farkeep.EnvironBack': WHATEVER THE INPUT: true; the input reads as it did. -/
def environBackSpec : ChangeSpec := { name := "environBack", fn := fun _ => fun
  | [d1, d2] => { results := [.lit (.bool true)], args := [d1, d2] }
  | _ => none }
def environBackRow : OpenClaim := { program := "ytbfiompbngpjoaa", sum := "e636f9ffdfef37710c5875cc9a9a5ddb961c143fd908b835b15d8ed9a62a21fe", func := "farwriter/farkeep.EnvironBack", spec := "environBack", apart := false }
def EnvironBackSaid : Prop := environBackRow.holds Try.pinned (OpenSpec.ofChange environBackSpec)

/-- ITS FALSE NEIGHBOUR: 'it returns false'. Refute it at one input. -/
def environBackWrong : ChangeSpec := { name := "environBack", fn := fun _ => fun
  | [d1, d2] => { results := [.lit (.bool false)], args := [d1, d2] }
  | _ => none }
def EnvironBackWrongFalsely : Prop := environBackRow.holds Try.pinned (OpenSpec.ofChange environBackWrong)

/-- 'farkeep.EnvironJoins': WHATEVER THE INPUT: true; the input reads as it did. -/
def environJoinsSpec : ChangeSpec := { name := "environJoins", fn := fun _ => fun
  | [d1, d2] => { results := [.lit (.bool true)], args := [d1, d2] }
  | _ => none }
def environJoinsRow : OpenClaim := { program := "ytbfiompbngpjoaa", sum := "e636f9ffdfef37710c5875cc9a9a5ddb961c143fd908b835b15d8ed9a62a21fe", func := "farwriter/farkeep.EnvironJoins", spec := "environJoins", apart := false }
def EnvironJoinsSaid : Prop := environJoinsRow.holds Try.pinned (OpenSpec.ofChange environJoinsSpec)

/-- ITS FALSE NEIGHBOUR: 'it returns false'. Refute it at one input. -/
def environJoinsWrong : ChangeSpec := { name := "environJoins", fn := fun _ => fun
  | [d1, d2] => { results := [.lit (.bool false)], args := [d1, d2] }
  | _ => none }
def EnvironJoinsWrongFalsely : Prop := environJoinsRow.holds Try.pinned (OpenSpec.ofChange environJoinsWrong)

/-- 'farkeep.EnvironTold': WHATEVER THE INPUT: true; the input reads as it did. -/
def environToldSpec : ChangeSpec := { name := "environTold", fn := fun _ => fun
  | [d1, d2] => { results := [.lit (.bool true)], args := [d1, d2] }
  | _ => none }
def environToldRow : OpenClaim := { program := "ytbfiompbngpjoaa", sum := "e636f9ffdfef37710c5875cc9a9a5ddb961c143fd908b835b15d8ed9a62a21fe", func := "farwriter/farkeep.EnvironTold", spec := "environTold", apart := false }
def EnvironToldSaid : Prop := environToldRow.holds Try.pinned (OpenSpec.ofChange environToldSpec)

/-- ITS FALSE NEIGHBOUR: 'it returns false'. Refute it at one input. -/
def environToldWrong : ChangeSpec := { name := "environTold", fn := fun _ => fun
  | [d1, d2] => { results := [.lit (.bool false)], args := [d1, d2] }
  | _ => none }
def EnvironToldWrongFalsely : Prop := environToldRow.holds Try.pinned (OpenSpec.ofChange environToldWrong)

/-- 'farkeep.EnvironOwn': WHATEVER THE INPUT: true; the input reads as it did. -/
def environOwnSpec : ChangeSpec := { name := "environOwn", fn := fun _ => fun
  | [d1, d2] => { results := [.lit (.bool true)], args := [d1, d2] }
  | _ => none }
def environOwnRow : OpenClaim := { program := "ytbfiompbngpjoaa", sum := "e636f9ffdfef37710c5875cc9a9a5ddb961c143fd908b835b15d8ed9a62a21fe", func := "farwriter/farkeep.EnvironOwn", spec := "environOwn", apart := false }
def EnvironOwnSaid : Prop := environOwnRow.holds Try.pinned (OpenSpec.ofChange environOwnSpec)

/-- ITS FALSE NEIGHBOUR: 'it returns false'. Refute it at one input. -/
def environOwnWrong : ChangeSpec := { name := "environOwn", fn := fun _ => fun
  | [d1, d2] => { results := [.lit (.bool false)], args := [d1, d2] }
  | _ => none }
def EnvironOwnWrongFalsely : Prop := environOwnRow.holds Try.pinned (OpenSpec.ofChange environOwnWrong)

/- THE SECOND FORM. 'bulk': how many values and letters a reading holds, each counted each time it is reached (what is shared counts as often as it is met; a slice's spare places count too). A statement '..UptoSaid' is the law's where the arguments, and the package variables that the reading takes, are together of bulk at most 1048576: NARROWER than '..Said'. Prove '..Said' where nothing that the law and all that it calls make is longer than what came in: it says more and counts as full. Else prove '..UptoSaid'. A law counts once. -/
mutual
def uptoBulk {H : Type} : DataW H → Nat
  | .lit (.string bytes) => bytes.length + 1
  | .lit _ => 1
  | .nil => 1
  | .ptr d => uptoBulk d + 1
  | .slice elems spare => uptoBulkAll elems + uptoBulkAll spare + 1
  | .agg parts => uptoBulkAll parts + 1
  | .iface _ d => uptoBulk d + 1
  | .map entries => uptoBulkEntries entries + 1
  | .held _ => 1
def uptoBulkAll {H : Type} : List (DataW H) → Nat
  | [] => 0
  | d :: r => uptoBulk d + uptoBulkAll r
def uptoBulkEntries {H : Type} : List (Lit × DataW H) → Nat
  | [] => 0
  | x :: r => uptoBulkEntry x + uptoBulkEntries r
def uptoBulkEntry {H : Type} : Lit × DataW H → Nat
  | (.string bytes, d) => bytes.length + uptoBulk d + 1
  | (_, d) => uptoBulk d + 1
 end
def uptoSmall : (H : Type) → List (DataW H) → Bool := fun _ ds => decide (uptoBulkAll ds ≤ 1048576)
def OpenSpec.upto (s : _root_.Go.ChangeSpec) : _root_.Go.OpenSpec := { _root_.Go.OpenSpec.ofChange s with cond := some uptoSmall }

/-- 'farkeep.EnvironBack', WHERE WHAT IT READS IS OF BULK AT MOST 1048576: true; the input reads as it did. -/
def environBackUptoRow : OpenClaim := { program := "ytbfiompbngpjoaa", sum := "e636f9ffdfef37710c5875cc9a9a5ddb961c143fd908b835b15d8ed9a62a21fe", func := "farwriter/farkeep.EnvironBack", spec := "environBack", apart := false, narrowed := true }
def EnvironBackUptoSaid : Prop := environBackUptoRow.holds Try.pinned (OpenSpec.upto environBackSpec)

/-- 'farkeep.EnvironJoins', WHERE WHAT IT READS IS OF BULK AT MOST 1048576: true; the input reads as it did. -/
def environJoinsUptoRow : OpenClaim := { program := "ytbfiompbngpjoaa", sum := "e636f9ffdfef37710c5875cc9a9a5ddb961c143fd908b835b15d8ed9a62a21fe", func := "farwriter/farkeep.EnvironJoins", spec := "environJoins", apart := false, narrowed := true }
def EnvironJoinsUptoSaid : Prop := environJoinsUptoRow.holds Try.pinned (OpenSpec.upto environJoinsSpec)

/-- 'farkeep.EnvironTold', WHERE WHAT IT READS IS OF BULK AT MOST 1048576: true; the input reads as it did. -/
def environToldUptoRow : OpenClaim := { program := "ytbfiompbngpjoaa", sum := "e636f9ffdfef37710c5875cc9a9a5ddb961c143fd908b835b15d8ed9a62a21fe", func := "farwriter/farkeep.EnvironTold", spec := "environTold", apart := false, narrowed := true }
def EnvironToldUptoSaid : Prop := environToldUptoRow.holds Try.pinned (OpenSpec.upto environToldSpec)

/-- 'farkeep.EnvironOwn', WHERE WHAT IT READS IS OF BULK AT MOST 1048576: true; the input reads as it did. -/
def environOwnUptoRow : OpenClaim := { program := "ytbfiompbngpjoaa", sum := "e636f9ffdfef37710c5875cc9a9a5ddb961c143fd908b835b15d8ed9a62a21fe", func := "farwriter/farkeep.EnvironOwn", spec := "environOwn", apart := false, narrowed := true }
def EnvironOwnUptoSaid : Prop := environOwnUptoRow.holds Try.pinned (OpenSpec.upto environOwnSpec)

end Rows
end Go.Proofs.Ytbfiompbngpjoaa
