/-
  No cell of these rows narrows 'for every input' (looked for: loops, veiled, ifaces, maps, wideKeys, modest, calm, conditions, laid).
  DERIVED. THE GIVEN ROWS OF THIS SEAT. 4 by the template 'for every input the law returns true; each argument reads behind the call as it read before'; 0 by the template 'total and deterministic' (their statements: YtckgkncahaicoaaTotals.lean).
  GIVEN WITH THE SEED: the statements are not yours to turn. If you find one false, say at which input.
  Laid BY PROGRAM, IN A SANDBOX (cutbox-rows.mjs): the forced cells as the released guide's own fill.sh prints them over the translation a0083eda869932a6… (all of the seat's roots in one cut). By AI agents, Wed Nov 11 2026. No macro, syntax, notation, axiom, sorry.
-/
import Derived.Test.YtckgkncahaicoaaChecked
import GoSem.Claim
import GoSem.ClaimJoined
import GoSem.ClaimMapViews
import Derived.JoinedTies
import Derived.KernelRfl
namespace Go.Proofs.Ytckgkncahaicoaa
/- THE CELL 'sum', in the pinned program and in every row, IS THE sha256 OF THE DUMP (.gsa) THAT YtckgkncahaicoaaProg.lean LOADS. Nothing in Lean hashes anything: it is a label: what it is worth is what the hold of that sum in a sandbox is worth. -/
noncomputable def Try.pinned : Pinned := { name := "ytckgkncahaicoaa", sum := "a0083eda869932a6925a657b8cb56fecb5e1d86de3ecae696c4160749842a60d", checked := Try.checked }
namespace Rows
def none {H : Type} : Left H := { results := [], args := [] }

/-- 'farlaw.ChoiceAsks': WHATEVER THE INPUT: true; the input reads as it did. -/
def choiceAsksSpec : ChangeSpec := { name := "choiceAsks", fn := fun _ => fun
  | [d1, d2] => { results := [.lit (.bool true)], args := [d1, d2] }
  | _ => none }
def choiceAsksRow : OpenClaim := { program := "ytckgkncahaicoaa", sum := "a0083eda869932a6925a657b8cb56fecb5e1d86de3ecae696c4160749842a60d", func := "farwriter/farlaw.ChoiceAsks", spec := "choiceAsks", inPlace := ["internal/bytealg.IndexByteString", "internal/bytealg.IndexString", "internal/abi.NoEscape", "internal/bytealg.MakeNoZero"], unfollowed := true, recurses := true, named := ["internal/bytealg.MaxLen"], apart := false }
def ChoiceAsksSaid : Prop := choiceAsksRow.holds Try.pinned (OpenSpec.ofChange choiceAsksSpec)

/-- ITS FALSE NEIGHBOUR: 'it returns false'. Refute it at one input. -/
def choiceAsksWrong : ChangeSpec := { name := "choiceAsks", fn := fun _ => fun
  | [d1, d2] => { results := [.lit (.bool false)], args := [d1, d2] }
  | _ => none }
def ChoiceAsksWrongFalsely : Prop := choiceAsksRow.holds Try.pinned (OpenSpec.ofChange choiceAsksWrong)

/-- 'farlaw.ChoiceAnswers': WHATEVER THE INPUT: true; the input reads as it did. -/
def choiceAnswersSpec : ChangeSpec := { name := "choiceAnswers", fn := fun _ => fun
  | [d1, d2] => { results := [.lit (.bool true)], args := [d1, d2] }
  | _ => none }
def choiceAnswersRow : OpenClaim := { program := "ytckgkncahaicoaa", sum := "a0083eda869932a6925a657b8cb56fecb5e1d86de3ecae696c4160749842a60d", func := "farwriter/farlaw.ChoiceAnswers", spec := "choiceAnswers", inPlace := ["internal/bytealg.IndexByteString", "internal/bytealg.IndexString"], unfollowed := true, recurses := true, named := ["internal/bytealg.MaxLen"], apart := false }
def ChoiceAnswersSaid : Prop := choiceAnswersRow.holds Try.pinned (OpenSpec.ofChange choiceAnswersSpec)

/-- ITS FALSE NEIGHBOUR: 'it returns false'. Refute it at one input. -/
def choiceAnswersWrong : ChangeSpec := { name := "choiceAnswers", fn := fun _ => fun
  | [d1, d2] => { results := [.lit (.bool false)], args := [d1, d2] }
  | _ => none }
def ChoiceAnswersWrongFalsely : Prop := choiceAnswersRow.holds Try.pinned (OpenSpec.ofChange choiceAnswersWrong)

/-- 'farkeep.ChoiceMeets': WHATEVER THE INPUT: true; the input reads as it did. -/
def choiceMeetsSpec : ChangeSpec := { name := "choiceMeets", fn := fun _ => fun
  | [d1, d2] => { results := [.lit (.bool true)], args := [d1, d2] }
  | _ => none }
def choiceMeetsRow : OpenClaim := { program := "ytckgkncahaicoaa", sum := "a0083eda869932a6925a657b8cb56fecb5e1d86de3ecae696c4160749842a60d", func := "farwriter/farkeep.ChoiceMeets", spec := "choiceMeets", inPlace := ["internal/bytealg.IndexByteString", "internal/bytealg.IndexString", "internal/abi.NoEscape", "internal/bytealg.MakeNoZero"], named := ["internal/bytealg.MaxLen"], apart := false }
def ChoiceMeetsSaid : Prop := choiceMeetsRow.holds Try.pinned (OpenSpec.ofChange choiceMeetsSpec)

/-- ITS FALSE NEIGHBOUR: 'it returns false'. Refute it at one input. -/
def choiceMeetsWrong : ChangeSpec := { name := "choiceMeets", fn := fun _ => fun
  | [d1, d2] => { results := [.lit (.bool false)], args := [d1, d2] }
  | _ => none }
def ChoiceMeetsWrongFalsely : Prop := choiceMeetsRow.holds Try.pinned (OpenSpec.ofChange choiceMeetsWrong)

/-- 'farkeep.ChoiceSame': WHATEVER THE INPUT: true; the input reads as it did. -/
def choiceSameSpec : ChangeSpec := { name := "choiceSame", fn := fun _ => fun
  | [d1, d2, d3] => { results := [.lit (.bool true)], args := [d1, d2, d3] }
  | _ => none }
def choiceSameRow : OpenClaim := { program := "ytckgkncahaicoaa", sum := "a0083eda869932a6925a657b8cb56fecb5e1d86de3ecae696c4160749842a60d", func := "farwriter/farkeep.ChoiceSame", spec := "choiceSame", inPlace := ["internal/bytealg.IndexByteString", "internal/bytealg.IndexString", "internal/abi.NoEscape", "internal/bytealg.MakeNoZero"], named := ["internal/bytealg.MaxLen"], apart := false }
def ChoiceSameSaid : Prop := choiceSameRow.holds Try.pinned (OpenSpec.ofChange choiceSameSpec)

/-- ITS FALSE NEIGHBOUR: 'it returns false'. Refute it at one input. -/
def choiceSameWrong : ChangeSpec := { name := "choiceSame", fn := fun _ => fun
  | [d1, d2, d3] => { results := [.lit (.bool false)], args := [d1, d2, d3] }
  | _ => none }
def ChoiceSameWrongFalsely : Prop := choiceSameRow.holds Try.pinned (OpenSpec.ofChange choiceSameWrong)

/- THE SECOND FORM. 'bulk': how many values and letters a reading holds, each counted each time it is reached (what is shared counts as often as it is met; a slice's spare places count too). A statement '..UptoSaid' is the law's where the arguments, and the package variables that the reading takes, are together of bulk at most 1048576: NARROWER than '..Said'. Prove '..Said' where nothing that the law and all that it calls make is longer than what came in: it says more and counts as full. Else prove '..UptoSaid'. A law counts once. -/
mutual
def uptoBulk {H : Type} : DataW H → Nat
  | .lit (.string bytes) => bytes.length + 1
  | .lit _ => 1
  | .nil => 1
  | .ptr d => uptoBulk d + 1
  | .slice elems spare => uptoBulkAll elems + uptoBulkAll spare + 1
  | .agg parts => uptoBulkAll parts + 1
  | .iface _ d => uptoBulk d + 1
  | .map entries => uptoBulkEntries entries + 1
  | .held _ => 1
def uptoBulkAll {H : Type} : List (DataW H) → Nat
  | [] => 0
  | d :: r => uptoBulk d + uptoBulkAll r
def uptoBulkEntries {H : Type} : List (Lit × DataW H) → Nat
  | [] => 0
  | x :: r => uptoBulkEntry x + uptoBulkEntries r
def uptoBulkEntry {H : Type} : Lit × DataW H → Nat
  | (.string bytes, d) => bytes.length + uptoBulk d + 1
  | (_, d) => uptoBulk d + 1
 end
def uptoSmall : (H : Type) → List (DataW H) → Bool := fun _ ds => decide (uptoBulkAll ds ≤ 1048576)
def OpenSpec.upto (s : _root_.Go.ChangeSpec) : _root_.Go.OpenSpec := { _root_.Go.OpenSpec.ofChange s with cond := some uptoSmall }

/-- 'farlaw.ChoiceAsks', WHERE WHAT IT READS IS OF BULK AT MOST 1048576: true; the input reads as it did. -/
def choiceAsksUptoRow : OpenClaim := { program := "ytckgkncahaicoaa", sum := "a0083eda869932a6925a657b8cb56fecb5e1d86de3ecae696c4160749842a60d", func := "farwriter/farlaw.ChoiceAsks", spec := "choiceAsks", inPlace := ["internal/bytealg.IndexByteString", "internal/bytealg.IndexString", "internal/abi.NoEscape", "internal/bytealg.MakeNoZero"], unfollowed := true, recurses := true, named := ["internal/bytealg.MaxLen"], apart := false, narrowed := true }
def ChoiceAsksUptoSaid : Prop := choiceAsksUptoRow.holds Try.pinned (OpenSpec.upto choiceAsksSpec)

/-- 'farlaw.ChoiceAnswers', WHERE WHAT IT READS IS OF BULK AT MOST 1048576: true; the input reads as it did. -/
def choiceAnswersUptoRow : OpenClaim := { program := "ytckgkncahaicoaa", sum := "a0083eda869932a6925a657b8cb56fecb5e1d86de3ecae696c4160749842a60d", func := "farwriter/farlaw.ChoiceAnswers", spec := "choiceAnswers", inPlace := ["internal/bytealg.IndexByteString", "internal/bytealg.IndexString"], unfollowed := true, recurses := true, named := ["internal/bytealg.MaxLen"], apart := false, narrowed := true }
def ChoiceAnswersUptoSaid : Prop := choiceAnswersUptoRow.holds Try.pinned (OpenSpec.upto choiceAnswersSpec)

/-- 'farkeep.ChoiceMeets', WHERE WHAT IT READS IS OF BULK AT MOST 1048576: true; the input reads as it did. -/
def choiceMeetsUptoRow : OpenClaim := { program := "ytckgkncahaicoaa", sum := "a0083eda869932a6925a657b8cb56fecb5e1d86de3ecae696c4160749842a60d", func := "farwriter/farkeep.ChoiceMeets", spec := "choiceMeets", inPlace := ["internal/bytealg.IndexByteString", "internal/bytealg.IndexString", "internal/abi.NoEscape", "internal/bytealg.MakeNoZero"], named := ["internal/bytealg.MaxLen"], apart := false, narrowed := true }
def ChoiceMeetsUptoSaid : Prop := choiceMeetsUptoRow.holds Try.pinned (OpenSpec.upto choiceMeetsSpec)

/-- 'farkeep.ChoiceSame', WHERE WHAT IT READS IS OF BULK AT MOST 1048576: true; the input reads as it did. -/
def choiceSameUptoRow : OpenClaim := { program := "ytckgkncahaicoaa", sum := "a0083eda869932a6925a657b8cb56fecb5e1d86de3ecae696c4160749842a60d", func := "farwriter/farkeep.ChoiceSame", spec := "choiceSame", inPlace := ["internal/bytealg.IndexByteString", "internal/bytealg.IndexString", "internal/abi.NoEscape", "internal/bytealg.MakeNoZero"], named := ["internal/bytealg.MaxLen"], apart := false, narrowed := true }
def ChoiceSameUptoSaid : Prop := choiceSameUptoRow.holds Try.pinned (OpenSpec.upto choiceSameSpec)

end Rows
end Go.Proofs.Ytckgkncahaicoaa
