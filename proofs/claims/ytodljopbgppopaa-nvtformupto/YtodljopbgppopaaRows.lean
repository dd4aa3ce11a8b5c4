/-
  No cell of these rows narrows 'for every input' (looked for: loops, veiled, ifaces, maps, wideKeys, modest, calm, conditions, laid).
  DERIVED. THE GIVEN ROWS OF THIS SEAT. 3 by the template 'for every input the law returns true; each argument reads behind the call as it read before'; 0 by the template 'total and deterministic' (their statements: YtodljopbgppopaaTotals.lean).
  GIVEN WITH THE SEED: the statements are not yours to turn. If you find one false, say at which input.
  Laid BY PROGRAM, IN A SANDBOX (cutbox-rows.mjs): the forced cells as the released guide's own fill.sh prints them over the translation 78c077979fd737b8… (all of the seat's roots in one cut). By AI agents, Wed Nov 11 2026. No macro, syntax, notation, axiom, sorry.
-/
import Derived.Test.YtodljopbgppopaaChecked
import GoSem.Claim
import GoSem.ClaimJoined
import GoSem.ClaimMapViews
import Derived.JoinedTies
import Derived.KernelRfl
namespace Go.Proofs.Ytodljopbgppopaa
/- THE CELL 'sum', in the pinned program and in every row, IS THE sha256 OF THE DUMP (.gsa) THAT YtodljopbgppopaaProg.lean LOADS. Nothing in Lean hashes anything: it is a label: what it is worth is what the hold of that sum in a sandbox is worth. -/
noncomputable def Try.pinned : Pinned := { name := "ytodljopbgppopaa", sum := "78c077979fd737b8af9f06b581d1a4a6be7f8099c4b1fbffbf32d0aa928f6c30", checked := Try.checked }
namespace Rows
def none {H : Type} : Left H := { results := [], args := [] }

/-- 'farkeep.NvtBack': WHATEVER THE INPUT: true; the input reads as it did. -/
def nvtBackSpec : ChangeSpec := { name := "nvtBack", fn := fun _ => fun
  | [d1, d2] => { results := [.lit (.bool true)], args := [d1, d2] }
  | _ => none }
def nvtBackRow : OpenClaim := { program := "ytodljopbgppopaa", sum := "78c077979fd737b8af9f06b581d1a4a6be7f8099c4b1fbffbf32d0aa928f6c30", func := "farwriter/farkeep.NvtBack", spec := "nvtBack", apart := false }
def NvtBackSaid : Prop := nvtBackRow.holds Try.pinned (OpenSpec.ofChange nvtBackSpec)

/-- ITS FALSE NEIGHBOUR: 'it returns false'. Refute it at one input. -/
def nvtBackWrong : ChangeSpec := { name := "nvtBack", fn := fun _ => fun
  | [d1, d2] => { results := [.lit (.bool false)], args := [d1, d2] }
  | _ => none }
def NvtBackWrongFalsely : Prop := nvtBackRow.holds Try.pinned (OpenSpec.ofChange nvtBackWrong)

/-- 'farkeep.NvtCuts': WHATEVER THE INPUT: true; the input reads as it did. -/
def nvtCutsSpec : ChangeSpec := { name := "nvtCuts", fn := fun _ => fun
  | [d1, d2, d3, d4] => { results := [.lit (.bool true)], args := [d1, d2, d3, d4] }
  | _ => none }
def nvtCutsRow : OpenClaim := { program := "ytodljopbgppopaa", sum := "78c077979fd737b8af9f06b581d1a4a6be7f8099c4b1fbffbf32d0aa928f6c30", func := "farwriter/farkeep.NvtCuts", spec := "nvtCuts", apart := false }
def NvtCutsSaid : Prop := nvtCutsRow.holds Try.pinned (OpenSpec.ofChange nvtCutsSpec)

/-- ITS FALSE NEIGHBOUR: 'it returns false'. Refute it at one input. -/
def nvtCutsWrong : ChangeSpec := { name := "nvtCuts", fn := fun _ => fun
  | [d1, d2, d3, d4] => { results := [.lit (.bool false)], args := [d1, d2, d3, d4] }
  | _ => none }
def NvtCutsWrongFalsely : Prop := nvtCutsRow.holds Try.pinned (OpenSpec.ofChange nvtCutsWrong)

/-- 'farkeep.NvtForm': WHATEVER THE INPUT: true; the input reads as it did. -/
def nvtFormSpec : ChangeSpec := { name := "nvtForm", fn := fun _ => fun
  | [d] => { results := [.lit (.bool true)], args := [d] }
  | _ => none }
def nvtFormRow : OpenClaim := { program := "ytodljopbgppopaa", sum := "78c077979fd737b8af9f06b581d1a4a6be7f8099c4b1fbffbf32d0aa928f6c30", func := "farwriter/farkeep.NvtForm", spec := "nvtForm", inPlace := ["internal/bytealg.CountString", "internal/bytealg.IndexByteString", "internal/bytealg.IndexString"], named := ["internal/bytealg.MaxLen"], apart := false }
def NvtFormSaid : Prop := nvtFormRow.holds Try.pinned (OpenSpec.ofChange nvtFormSpec)

/-- ITS FALSE NEIGHBOUR: 'it returns false'. Refute it at one input. -/
def nvtFormWrong : ChangeSpec := { name := "nvtForm", fn := fun _ => fun
  | [d] => { results := [.lit (.bool false)], args := [d] }
  | _ => none }
def NvtFormWrongFalsely : Prop := nvtFormRow.holds Try.pinned (OpenSpec.ofChange nvtFormWrong)

/- THE SECOND FORM. 'bulk': how many values and letters a reading holds, each counted each time it is reached (what is shared counts as often as it is met; a slice's spare places count too). A statement '..UptoSaid' is the law's where the arguments, and the package variables that the reading takes, are together of bulk at most 1048576: NARROWER than '..Said'. Prove '..Said' where nothing that the law and all that it calls make is longer than what came in: it says more and counts as full. Else prove '..UptoSaid'. A law counts once. -/
mutual
def uptoBulk {H : Type} : DataW H → Nat
  | .lit (.string bytes) => bytes.length + 1
  | .lit _ => 1
  | .nil => 1
  | .ptr d => uptoBulk d + 1
  | .slice elems spare => uptoBulkAll elems + uptoBulkAll spare + 1
  | .agg parts => uptoBulkAll parts + 1
  | .iface _ d => uptoBulk d + 1
  | .map entries => uptoBulkEntries entries + 1
  | .held _ => 1
def uptoBulkAll {H : Type} : List (DataW H) → Nat
  | [] => 0
  | d :: r => uptoBulk d + uptoBulkAll r
def uptoBulkEntries {H : Type} : List (Lit × DataW H) → Nat
  | [] => 0
  | x :: r => uptoBulkEntry x + uptoBulkEntries r
def uptoBulkEntry {H : Type} : Lit × DataW H → Nat
  | (.string bytes, d) => bytes.length + uptoBulk d + 1
  | (_, d) => uptoBulk d + 1
 end
def uptoSmall : (H : Type) → List (DataW H) → Bool := fun _ ds => decide (uptoBulkAll ds ≤ 1048576)
def OpenSpec.upto (s : _root_.Go.ChangeSpec) : _root_.Go.OpenSpec := { _root_.Go.OpenSpec.ofChange s with cond := some uptoSmall }

/-- 'farkeep.NvtBack', WHERE WHAT IT READS IS OF BULK AT MOST 1048576: true; the input reads as it did. -/
def nvtBackUptoRow : OpenClaim := { program := "ytodljopbgppopaa", sum := "78c077979fd737b8af9f06b581d1a4a6be7f8099c4b1fbffbf32d0aa928f6c30", func := "farwriter/farkeep.NvtBack", spec := "nvtBack", apart := false, narrowed := true }
def NvtBackUptoSaid : Prop := nvtBackUptoRow.holds Try.pinned (OpenSpec.upto nvtBackSpec)

/-- 'farkeep.NvtCuts', WHERE WHAT IT READS IS OF BULK AT MOST 1048576: true; the input reads as it did. -/
def nvtCutsUptoRow : OpenClaim := { program := "ytodljopbgppopaa", sum := "78c077979fd737b8af9f06b581d1a4a6be7f8099c4b1fbffbf32d0aa928f6c30", func := "farwriter/farkeep.NvtCuts", spec := "nvtCuts", apart := false, narrowed := true }
def NvtCutsUptoSaid : Prop := nvtCutsUptoRow.holds Try.pinned (OpenSpec.upto nvtCutsSpec)

/-- 'farkeep.NvtForm', WHERE WHAT IT READS IS OF BULK AT MOST 1048576: true; the input reads as it did. -/
def nvtFormUptoRow : OpenClaim := { program := "ytodljopbgppopaa", sum := "78c077979fd737b8af9f06b581d1a4a6be7f8099c4b1fbffbf32d0aa928f6c30", func := "farwriter/farkeep.NvtForm", spec := "nvtForm", inPlace := ["internal/bytealg.CountString", "internal/bytealg.IndexByteString", "internal/bytealg.IndexString"], named := ["internal/bytealg.MaxLen"], apart := false, narrowed := true }
def NvtFormUptoSaid : Prop := nvtFormUptoRow.holds Try.pinned (OpenSpec.upto nvtFormSpec)

end Rows
end Go.Proofs.Ytodljopbgppopaa
