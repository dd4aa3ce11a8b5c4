/-
  No cell of these rows narrows 'for every input' (looked for: loops, veiled, ifaces, maps, wideKeys, modest, calm, conditions, laid).
  DERIVED. THE GIVEN ROWS OF THIS SEAT. 6 by the template 'for every input the law returns true; each argument reads behind the call as it read before'; 0 by the template 'total and deterministic' (their statements: YtfipmggdpigbkaaTotals.lean).
  GIVEN WITH THE SEED: the statements are not yours to turn. If you find one false, say at which input.
  Laid BY PROGRAM, IN A SANDBOX (cutbox-rows.mjs): the forced cells as the released guide's own fill.sh prints them over the translation e4b6ffcf1b23ea27… (all of the seat's roots in one cut). By AI agents, Wed Nov 11 2026. No macro, syntax, notation, axiom, sorry.
-/
import Derived.Test.YtfipmggdpigbkaaChecked
import GoSem.Claim
import GoSem.ClaimJoined
import GoSem.ClaimMapViews
import Derived.JoinedTies
import Derived.KernelRfl
namespace Go.Proofs.Ytfipmggdpigbkaa
/- THE CELL 'sum', in the pinned program and in every row, IS THE sha256 OF THE DUMP (.gsa) THAT YtfipmggdpigbkaaProg.lean LOADS. Nothing in Lean hashes anything: it is a label: what it is worth is what the hold of that sum in a sandbox is worth. -/
noncomputable def Try.pinned : Pinned := { name := "ytfipmggdpigbkaa", sum := "e4b6ffcf1b23ea270709c216193bd735bd15f13b43c058fa4ea52a3cbc7e03d6", checked := Try.checked }
namespace Rows
def none {H : Type} : Left H := { results := [], args := [] }

/-- 'farlaw.SlcTakes': WHATEVER THE INPUT: true; the input reads as it did. -/
def slcTakesSpec : ChangeSpec := { name := "slcTakes", fn := fun _ => fun
  | [d1, d2] => { results := [.lit (.bool true)], args := [d1, d2] }
  | _ => none }
def slcTakesRow : OpenClaim := { program := "ytfipmggdpigbkaa", sum := "e4b6ffcf1b23ea270709c216193bd735bd15f13b43c058fa4ea52a3cbc7e03d6", func := "farwriter/farlaw.SlcTakes", spec := "slcTakes", apart := false }
def SlcTakesSaid : Prop := slcTakesRow.holds Try.pinned (OpenSpec.ofChange slcTakesSpec)

/-- ITS FALSE NEIGHBOUR: 'it returns false'. Refute it at one input. -/
def slcTakesWrong : ChangeSpec := { name := "slcTakes", fn := fun _ => fun
  | [d1, d2] => { results := [.lit (.bool false)], args := [d1, d2] }
  | _ => none }
def SlcTakesWrongFalsely : Prop := slcTakesRow.holds Try.pinned (OpenSpec.ofChange slcTakesWrong)

/-- 'farlaw.SlcMeets': WHATEVER THE INPUT: true; the input reads as it did. -/
def slcMeetsSpec : ChangeSpec := { name := "slcMeets", fn := fun _ => fun
  | [d1, d2] => { results := [.lit (.bool true)], args := [d1, d2] }
  | _ => none }
def slcMeetsRow : OpenClaim := { program := "ytfipmggdpigbkaa", sum := "e4b6ffcf1b23ea270709c216193bd735bd15f13b43c058fa4ea52a3cbc7e03d6", func := "farwriter/farlaw.SlcMeets", spec := "slcMeets", apart := false }
def SlcMeetsSaid : Prop := slcMeetsRow.holds Try.pinned (OpenSpec.ofChange slcMeetsSpec)

/-- ITS FALSE NEIGHBOUR: 'it returns false'. Refute it at one input. -/
def slcMeetsWrong : ChangeSpec := { name := "slcMeets", fn := fun _ => fun
  | [d1, d2] => { results := [.lit (.bool false)], args := [d1, d2] }
  | _ => none }
def SlcMeetsWrongFalsely : Prop := slcMeetsRow.holds Try.pinned (OpenSpec.ofChange slcMeetsWrong)

/-- 'farkeep.SlcAgree': WHATEVER THE INPUT: true; the input reads as it did. -/
def slcAgreeSpec : ChangeSpec := { name := "slcAgree", fn := fun _ => fun
  | [d1, d2] => { results := [.lit (.bool true)], args := [d1, d2] }
  | _ => none }
def slcAgreeRow : OpenClaim := { program := "ytfipmggdpigbkaa", sum := "e4b6ffcf1b23ea270709c216193bd735bd15f13b43c058fa4ea52a3cbc7e03d6", func := "farwriter/farkeep.SlcAgree", spec := "slcAgree", apart := false }
def SlcAgreeSaid : Prop := slcAgreeRow.holds Try.pinned (OpenSpec.ofChange slcAgreeSpec)

/-- ITS FALSE NEIGHBOUR: 'it returns false'. Refute it at one input. -/
def slcAgreeWrong : ChangeSpec := { name := "slcAgree", fn := fun _ => fun
  | [d1, d2] => { results := [.lit (.bool false)], args := [d1, d2] }
  | _ => none }
def SlcAgreeWrongFalsely : Prop := slcAgreeRow.holds Try.pinned (OpenSpec.ofChange slcAgreeWrong)

/-- 'farkeep.SlcQuiet': WHATEVER THE INPUT: true; the input reads as it did. -/
def slcQuietSpec : ChangeSpec := { name := "slcQuiet", fn := fun _ => fun
  | [d1, d2, d3, d4] => { results := [.lit (.bool true)], args := [d1, d2, d3, d4] }
  | _ => none }
def slcQuietRow : OpenClaim := { program := "ytfipmggdpigbkaa", sum := "e4b6ffcf1b23ea270709c216193bd735bd15f13b43c058fa4ea52a3cbc7e03d6", func := "farwriter/farkeep.SlcQuiet", spec := "slcQuiet", apart := false }
def SlcQuietSaid : Prop := slcQuietRow.holds Try.pinned (OpenSpec.ofChange slcQuietSpec)

/-- ITS FALSE NEIGHBOUR: 'it returns false'. Refute it at one input. -/
def slcQuietWrong : ChangeSpec := { name := "slcQuiet", fn := fun _ => fun
  | [d1, d2, d3, d4] => { results := [.lit (.bool false)], args := [d1, d2, d3, d4] }
  | _ => none }
def SlcQuietWrongFalsely : Prop := slcQuietRow.holds Try.pinned (OpenSpec.ofChange slcQuietWrong)

/-- 'farkeep.SlcAlone': WHATEVER THE INPUT: true; the input reads as it did. -/
def slcAloneSpec : ChangeSpec := { name := "slcAlone", fn := fun _ => fun
  | [d1, d2] => { results := [.lit (.bool true)], args := [d1, d2] }
  | _ => none }
def slcAloneRow : OpenClaim := { program := "ytfipmggdpigbkaa", sum := "e4b6ffcf1b23ea270709c216193bd735bd15f13b43c058fa4ea52a3cbc7e03d6", func := "farwriter/farkeep.SlcAlone", spec := "slcAlone", apart := false }
def SlcAloneSaid : Prop := slcAloneRow.holds Try.pinned (OpenSpec.ofChange slcAloneSpec)

/-- ITS FALSE NEIGHBOUR: 'it returns false'. Refute it at one input. -/
def slcAloneWrong : ChangeSpec := { name := "slcAlone", fn := fun _ => fun
  | [d1, d2] => { results := [.lit (.bool false)], args := [d1, d2] }
  | _ => none }
def SlcAloneWrongFalsely : Prop := slcAloneRow.holds Try.pinned (OpenSpec.ofChange slcAloneWrong)

/-- 'farkeep.SlcCuts': WHATEVER THE INPUT: true; the input reads as it did. -/
def slcCutsSpec : ChangeSpec := { name := "slcCuts", fn := fun _ => fun
  | [d1, d2, d3] => { results := [.lit (.bool true)], args := [d1, d2, d3] }
  | _ => none }
def slcCutsRow : OpenClaim := { program := "ytfipmggdpigbkaa", sum := "e4b6ffcf1b23ea270709c216193bd735bd15f13b43c058fa4ea52a3cbc7e03d6", func := "farwriter/farkeep.SlcCuts", spec := "slcCuts", apart := false }
def SlcCutsSaid : Prop := slcCutsRow.holds Try.pinned (OpenSpec.ofChange slcCutsSpec)

/-- ITS FALSE NEIGHBOUR: 'it returns false'. Refute it at one input. -/
def slcCutsWrong : ChangeSpec := { name := "slcCuts", fn := fun _ => fun
  | [d1, d2, d3] => { results := [.lit (.bool false)], args := [d1, d2, d3] }
  | _ => none }
def SlcCutsWrongFalsely : Prop := slcCutsRow.holds Try.pinned (OpenSpec.ofChange slcCutsWrong)

/- THE SECOND FORM. 'bulk': how many values and letters a reading holds, each counted each time it is reached (what is shared counts as often as it is met; a slice's spare places count too). A statement '..UptoSaid' is the law's where the arguments, and the package variables that the reading takes, are together of bulk at most 1048576: NARROWER than '..Said'. Prove '..Said' where nothing that the law and all that it calls make is longer than what came in: it says more and counts as full. Else prove '..UptoSaid'. A law counts once. -/
mutual
def uptoBulk {H : Type} : DataW H → Nat
  | .lit (.string bytes) => bytes.length + 1
  | .lit _ => 1
  | .nil => 1
  | .ptr d => uptoBulk d + 1
  | .slice elems spare => uptoBulkAll elems + uptoBulkAll spare + 1
  | .agg parts => uptoBulkAll parts + 1
  | .iface _ d => uptoBulk d + 1
  | .map entries => uptoBulkEntries entries + 1
  | .held _ => 1
def uptoBulkAll {H : Type} : List (DataW H) → Nat
  | [] => 0
  | d :: r => uptoBulk d + uptoBulkAll r
def uptoBulkEntries {H : Type} : List (Lit × DataW H) → Nat
  | [] => 0
  | x :: r => uptoBulkEntry x + uptoBulkEntries r
def uptoBulkEntry {H : Type} : Lit × DataW H → Nat
  | (.string bytes, d) => bytes.length + uptoBulk d + 1
  | (_, d) => uptoBulk d + 1
 end
def uptoSmall : (H : Type) → List (DataW H) → Bool := fun _ ds => decide (uptoBulkAll ds ≤ 1048576)
def OpenSpec.upto (s : _root_.Go.ChangeSpec) : _root_.Go.OpenSpec := { _root_.Go.OpenSpec.ofChange s with cond := some uptoSmall }

/-- 'farlaw.SlcTakes', WHERE WHAT IT READS IS OF BULK AT MOST 1048576: true; the input reads as it did. -/
def slcTakesUptoRow : OpenClaim := { program := "ytfipmggdpigbkaa", sum := "e4b6ffcf1b23ea270709c216193bd735bd15f13b43c058fa4ea52a3cbc7e03d6", func := "farwriter/farlaw.SlcTakes", spec := "slcTakes", apart := false, narrowed := true }
def SlcTakesUptoSaid : Prop := slcTakesUptoRow.holds Try.pinned (OpenSpec.upto slcTakesSpec)

/-- 'farlaw.SlcMeets', WHERE WHAT IT READS IS OF BULK AT MOST 1048576: true; the input reads as it did. -/
def slcMeetsUptoRow : OpenClaim := { program := "ytfipmggdpigbkaa", sum := "e4b6ffcf1b23ea270709c216193bd735bd15f13b43c058fa4ea52a3cbc7e03d6", func := "farwriter/farlaw.SlcMeets", spec := "slcMeets", apart := false, narrowed := true }
def SlcMeetsUptoSaid : Prop := slcMeetsUptoRow.holds Try.pinned (OpenSpec.upto slcMeetsSpec)

/-- 'farkeep.SlcAgree', WHERE WHAT IT READS IS OF BULK AT MOST 1048576: true; the input reads as it did. -/
def slcAgreeUptoRow : OpenClaim := { program := "ytfipmggdpigbkaa", sum := "e4b6ffcf1b23ea270709c216193bd735bd15f13b43c058fa4ea52a3cbc7e03d6", func := "farwriter/farkeep.SlcAgree", spec := "slcAgree", apart := false, narrowed := true }
def SlcAgreeUptoSaid : Prop := slcAgreeUptoRow.holds Try.pinned (OpenSpec.upto slcAgreeSpec)

/-- 'farkeep.SlcQuiet', WHERE WHAT IT READS IS OF BULK AT MOST 1048576: true; the input reads as it did. -/
def slcQuietUptoRow : OpenClaim := { program := "ytfipmggdpigbkaa", sum := "e4b6ffcf1b23ea270709c216193bd735bd15f13b43c058fa4ea52a3cbc7e03d6", func := "farwriter/farkeep.SlcQuiet", spec := "slcQuiet", apart := false, narrowed := true }
def SlcQuietUptoSaid : Prop := slcQuietUptoRow.holds Try.pinned (OpenSpec.upto slcQuietSpec)

/-- 'farkeep.SlcAlone', WHERE WHAT IT READS IS OF BULK AT MOST 1048576: true; the input reads as it did. -/
def slcAloneUptoRow : OpenClaim := { program := "ytfipmggdpigbkaa", sum := "e4b6ffcf1b23ea270709c216193bd735bd15f13b43c058fa4ea52a3cbc7e03d6", func := "farwriter/farkeep.SlcAlone", spec := "slcAlone", apart := false, narrowed := true }
def SlcAloneUptoSaid : Prop := slcAloneUptoRow.holds Try.pinned (OpenSpec.upto slcAloneSpec)

/-- 'farkeep.SlcCuts', WHERE WHAT IT READS IS OF BULK AT MOST 1048576: true; the input reads as it did. -/
def slcCutsUptoRow : OpenClaim := { program := "ytfipmggdpigbkaa", sum := "e4b6ffcf1b23ea270709c216193bd735bd15f13b43c058fa4ea52a3cbc7e03d6", func := "farwriter/farkeep.SlcCuts", spec := "slcCuts", apart := false, narrowed := true }
def SlcCutsUptoSaid : Prop := slcCutsUptoRow.holds Try.pinned (OpenSpec.upto slcCutsSpec)

end Rows
end Go.Proofs.Ytfipmggdpigbkaa
