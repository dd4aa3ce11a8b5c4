/-
  No cell of these rows narrows 'for every input' (looked for: loops, veiled, ifaces, maps, wideKeys, modest, calm, conditions, laid).
  DERIVED. THE GIVEN ROWS OF THIS SEAT. 6 by the template 'for every input the law returns true; each argument reads behind the call as it read before'; 0 by the template 'total and deterministic' (their statements: YtgghplfcdkedcaaTotals.lean).
  GIVEN WITH THE SEED: the statements are not yours to turn. If you find one false, say at which input.
  Laid BY PROGRAM, IN A SANDBOX (cutbox-rows.mjs): the forced cells as the released guide's own fill.sh prints them over the translation f0cf209563ba165c… (all of the seat's roots in one cut). By AI agents, Wed Nov 11 2026. No macro, syntax, notation, axiom, sorry.
-/
import Derived.Test.YtgghplfcdkedcaaChecked
import GoSem.Claim
import GoSem.ClaimJoined
import GoSem.ClaimMapViews
import Derived.JoinedTies
import Derived.KernelRfl
namespace Go.Proofs.Ytgghplfcdkedcaa
/- THE CELL 'sum', in the pinned program and in every row, IS THE sha256 OF THE DUMP (.gsa) THAT YtgghplfcdkedcaaProg.lean LOADS. Nothing in Lean hashes anything: it is a label: what it is worth is what the hold of that sum in a sandbox is worth. -/
noncomputable def Try.pinned : Pinned := { name := "ytgghplfcdkedcaa", sum := "f0cf209563ba165cf4353ca86aa079d3451d0e980c7108c56fc8dfed75a1a35b", checked := Try.checked }
namespace Rows
def none {H : Type} : Left H := { results := [], args := [] }

/-- 'farlaw.AboutSizes': WHATEVER THE INPUT: true; the input reads as it did. -/
def aboutSizesSpec : ChangeSpec := { name := "aboutSizes", fn := fun _ => fun
  | [d1, d2, d3] => { results := [.lit (.bool true)], args := [d1, d2, d3] }
  | _ => none }
def aboutSizesRow : OpenClaim := { program := "ytgghplfcdkedcaa", sum := "f0cf209563ba165cf4353ca86aa079d3451d0e980c7108c56fc8dfed75a1a35b", func := "farwriter/farlaw.AboutSizes", spec := "aboutSizes", apart := false }
def AboutSizesSaid : Prop := aboutSizesRow.holds Try.pinned (OpenSpec.ofChange aboutSizesSpec)

/-- ITS FALSE NEIGHBOUR: 'it returns false'. Refute it at one input. -/
def aboutSizesWrong : ChangeSpec := { name := "aboutSizes", fn := fun _ => fun
  | [d1, d2, d3] => { results := [.lit (.bool false)], args := [d1, d2, d3] }
  | _ => none }
def AboutSizesWrongFalsely : Prop := aboutSizesRow.holds Try.pinned (OpenSpec.ofChange aboutSizesWrong)

/-- 'farlaw.AboutAnswers': WHATEVER THE INPUT: true; the input reads as it did. -/
def aboutAnswersSpec : ChangeSpec := { name := "aboutAnswers", fn := fun _ => fun
  | [d1, d2] => { results := [.lit (.bool true)], args := [d1, d2] }
  | _ => none }
def aboutAnswersRow : OpenClaim := { program := "ytgghplfcdkedcaa", sum := "f0cf209563ba165cf4353ca86aa079d3451d0e980c7108c56fc8dfed75a1a35b", func := "farwriter/farlaw.AboutAnswers", spec := "aboutAnswers", apart := false }
def AboutAnswersSaid : Prop := aboutAnswersRow.holds Try.pinned (OpenSpec.ofChange aboutAnswersSpec)

/-- ITS FALSE NEIGHBOUR: 'it returns false'. Refute it at one input. -/
def aboutAnswersWrong : ChangeSpec := { name := "aboutAnswers", fn := fun _ => fun
  | [d1, d2] => { results := [.lit (.bool false)], args := [d1, d2] }
  | _ => none }
def AboutAnswersWrongFalsely : Prop := aboutAnswersRow.holds Try.pinned (OpenSpec.ofChange aboutAnswersWrong)

/-- 'farlaw.AboutWalks': WHATEVER THE INPUT: true; the input reads as it did. -/
def aboutWalksSpec : ChangeSpec := { name := "aboutWalks", fn := fun _ => fun
  | [d1, d2] => { results := [.lit (.bool true)], args := [d1, d2] }
  | _ => none }
def aboutWalksRow : OpenClaim := { program := "ytgghplfcdkedcaa", sum := "f0cf209563ba165cf4353ca86aa079d3451d0e980c7108c56fc8dfed75a1a35b", func := "farwriter/farlaw.AboutWalks", spec := "aboutWalks", apart := false }
def AboutWalksSaid : Prop := aboutWalksRow.holds Try.pinned (OpenSpec.ofChange aboutWalksSpec)

/-- ITS FALSE NEIGHBOUR: 'it returns false'. Refute it at one input. -/
def aboutWalksWrong : ChangeSpec := { name := "aboutWalks", fn := fun _ => fun
  | [d1, d2] => { results := [.lit (.bool false)], args := [d1, d2] }
  | _ => none }
def AboutWalksWrongFalsely : Prop := aboutWalksRow.holds Try.pinned (OpenSpec.ofChange aboutWalksWrong)

/-- 'farkeep.AboutBack': WHATEVER THE INPUT: true; the input reads as it did. -/
def aboutBackSpec : ChangeSpec := { name := "aboutBack", fn := fun _ => fun
  | [d1, d2, d3] => { results := [.lit (.bool true)], args := [d1, d2, d3] }
  | _ => none }
def aboutBackRow : OpenClaim := { program := "ytgghplfcdkedcaa", sum := "f0cf209563ba165cf4353ca86aa079d3451d0e980c7108c56fc8dfed75a1a35b", func := "farwriter/farkeep.AboutBack", spec := "aboutBack", apart := false }
def AboutBackSaid : Prop := aboutBackRow.holds Try.pinned (OpenSpec.ofChange aboutBackSpec)

/-- ITS FALSE NEIGHBOUR: 'it returns false'. Refute it at one input. -/
def aboutBackWrong : ChangeSpec := { name := "aboutBack", fn := fun _ => fun
  | [d1, d2, d3] => { results := [.lit (.bool false)], args := [d1, d2, d3] }
  | _ => none }
def AboutBackWrongFalsely : Prop := aboutBackRow.holds Try.pinned (OpenSpec.ofChange aboutBackWrong)

/-- 'farkeep.AboutEnd': WHATEVER THE INPUT: true; the input reads as it did. -/
def aboutEndSpec : ChangeSpec := { name := "aboutEnd", fn := fun _ => fun
  | [d] => { results := [.lit (.bool true)], args := [d] }
  | _ => none }
def aboutEndRow : OpenClaim := { program := "ytgghplfcdkedcaa", sum := "f0cf209563ba165cf4353ca86aa079d3451d0e980c7108c56fc8dfed75a1a35b", func := "farwriter/farkeep.AboutEnd", spec := "aboutEnd", apart := false }
def AboutEndSaid : Prop := aboutEndRow.holds Try.pinned (OpenSpec.ofChange aboutEndSpec)

/-- ITS FALSE NEIGHBOUR: 'it returns false'. Refute it at one input. -/
def aboutEndWrong : ChangeSpec := { name := "aboutEnd", fn := fun _ => fun
  | [d] => { results := [.lit (.bool false)], args := [d] }
  | _ => none }
def AboutEndWrongFalsely : Prop := aboutEndRow.holds Try.pinned (OpenSpec.ofChange aboutEndWrong)

/-- 'farkeep.AboutOwn': WHATEVER THE INPUT: true; the input reads as it did. -/
def aboutOwnSpec : ChangeSpec := { name := "aboutOwn", fn := fun _ => fun
  | [d1, d2] => { results := [.lit (.bool true)], args := [d1, d2] }
  | _ => none }
def aboutOwnRow : OpenClaim := { program := "ytgghplfcdkedcaa", sum := "f0cf209563ba165cf4353ca86aa079d3451d0e980c7108c56fc8dfed75a1a35b", func := "farwriter/farkeep.AboutOwn", spec := "aboutOwn", apart := false }
def AboutOwnSaid : Prop := aboutOwnRow.holds Try.pinned (OpenSpec.ofChange aboutOwnSpec)

/-- ITS FALSE NEIGHBOUR: 'it returns false'. Refute it at one input. -/
def aboutOwnWrong : ChangeSpec := { name := "aboutOwn", fn := fun _ => fun
  | [d1, d2] => { results := [.lit (.bool false)], args := [d1, d2] }
  | _ => none }
def AboutOwnWrongFalsely : Prop := aboutOwnRow.holds Try.pinned (OpenSpec.ofChange aboutOwnWrong)

/- THE SECOND FORM. 'bulk': how many values and letters a reading holds, each counted each time it is reached (what is shared counts as often as it is met; a slice's spare places count too). A statement '..UptoSaid' is the law's where the arguments, and the package variables that the reading takes, are together of bulk at most 1048576: NARROWER than '..Said'. Prove '..Said' where nothing that the law and all that it calls make is longer than what came in: it says more and counts as full. Else prove '..UptoSaid'. A law counts once. -/
mutual
def uptoBulk {H : Type} : DataW H → Nat
  | .lit (.string bytes) => bytes.length + 1
  | .lit _ => 1
  | .nil => 1
  | .ptr d => uptoBulk d + 1
  | .slice elems spare => uptoBulkAll elems + uptoBulkAll spare + 1
  | .agg parts => uptoBulkAll parts + 1
  | .iface _ d => uptoBulk d + 1
  | .map entries => uptoBulkEntries entries + 1
  | .held _ => 1
def uptoBulkAll {H : Type} : List (DataW H) → Nat
  | [] => 0
  | d :: r => uptoBulk d + uptoBulkAll r
def uptoBulkEntries {H : Type} : List (Lit × DataW H) → Nat
  | [] => 0
  | x :: r => uptoBulkEntry x + uptoBulkEntries r
def uptoBulkEntry {H : Type} : Lit × DataW H → Nat
  | (.string bytes, d) => bytes.length + uptoBulk d + 1
  | (_, d) => uptoBulk d + 1
 end
def uptoSmall : (H : Type) → List (DataW H) → Bool := fun _ ds => decide (uptoBulkAll ds ≤ 1048576)
def OpenSpec.upto (s : _root_.Go.ChangeSpec) : _root_.Go.OpenSpec := { _root_.Go.OpenSpec.ofChange s with cond := some uptoSmall }

/-- 'farlaw.AboutSizes', WHERE WHAT IT READS IS OF BULK AT MOST 1048576: true; the input reads as it did. -/
def aboutSizesUptoRow : OpenClaim := { program := "ytgghplfcdkedcaa", sum := "f0cf209563ba165cf4353ca86aa079d3451d0e980c7108c56fc8dfed75a1a35b", func := "farwriter/farlaw.AboutSizes", spec := "aboutSizes", apart := false, narrowed := true }
def AboutSizesUptoSaid : Prop := aboutSizesUptoRow.holds Try.pinned (OpenSpec.upto aboutSizesSpec)

/-- 'farlaw.AboutAnswers', WHERE WHAT IT READS IS OF BULK AT MOST 1048576: true; the input reads as it did. -/
def aboutAnswersUptoRow : OpenClaim := { program := "ytgghplfcdkedcaa", sum := "f0cf209563ba165cf4353ca86aa079d3451d0e980c7108c56fc8dfed75a1a35b", func := "farwriter/farlaw.AboutAnswers", spec := "aboutAnswers", apart := false, narrowed := true }
def AboutAnswersUptoSaid : Prop := aboutAnswersUptoRow.holds Try.pinned (OpenSpec.upto aboutAnswersSpec)

/-- 'farlaw.AboutWalks', WHERE WHAT IT READS IS OF BULK AT MOST 1048576: true; the input reads as it did. -/
def aboutWalksUptoRow : OpenClaim := { program := "ytgghplfcdkedcaa", sum := "f0cf209563ba165cf4353ca86aa079d3451d0e980c7108c56fc8dfed75a1a35b", func := "farwriter/farlaw.AboutWalks", spec := "aboutWalks", apart := false, narrowed := true }
def AboutWalksUptoSaid : Prop := aboutWalksUptoRow.holds Try.pinned (OpenSpec.upto aboutWalksSpec)

/-- 'farkeep.AboutBack', WHERE WHAT IT READS IS OF BULK AT MOST 1048576: true; the input reads as it did. -/
def aboutBackUptoRow : OpenClaim := { program := "ytgghplfcdkedcaa", sum := "f0cf209563ba165cf4353ca86aa079d3451d0e980c7108c56fc8dfed75a1a35b", func := "farwriter/farkeep.AboutBack", spec := "aboutBack", apart := false, narrowed := true }
def AboutBackUptoSaid : Prop := aboutBackUptoRow.holds Try.pinned (OpenSpec.upto aboutBackSpec)

/-- 'farkeep.AboutEnd', WHERE WHAT IT READS IS OF BULK AT MOST 1048576: true; the input reads as it did. -/
def aboutEndUptoRow : OpenClaim := { program := "ytgghplfcdkedcaa", sum := "f0cf209563ba165cf4353ca86aa079d3451d0e980c7108c56fc8dfed75a1a35b", func := "farwriter/farkeep.AboutEnd", spec := "aboutEnd", apart := false, narrowed := true }
def AboutEndUptoSaid : Prop := aboutEndUptoRow.holds Try.pinned (OpenSpec.upto aboutEndSpec)

/-- 'farkeep.AboutOwn', WHERE WHAT IT READS IS OF BULK AT MOST 1048576: true; the input reads as it did. -/
def aboutOwnUptoRow : OpenClaim := { program := "ytgghplfcdkedcaa", sum := "f0cf209563ba165cf4353ca86aa079d3451d0e980c7108c56fc8dfed75a1a35b", func := "farwriter/farkeep.AboutOwn", spec := "aboutOwn", apart := false, narrowed := true }
def AboutOwnUptoSaid : Prop := aboutOwnUptoRow.holds Try.pinned (OpenSpec.upto aboutOwnSpec)

end Rows
end Go.Proofs.Ytgghplfcdkedcaa
