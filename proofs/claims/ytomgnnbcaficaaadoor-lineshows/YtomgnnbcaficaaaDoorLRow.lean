/-
  How an Editor among the arguments is opened; a world in which the listed tables lie; no condition.
-/
import Derived.Test.YtomgnnbcaficaaaDoorKRow
import Derived.Test.YtomgnnbcaficaaaDoorHRow
import Derived.Test.YtomgnnbcaficaaaDoorLMem
import Derived.Test.YtomgnnbcaficaaaDoorCards
import Derived.Test.YtomgnnbcaficaaaDoorTie
import Derived.Deep.DeepHandedRow
import Derived.Deep.DeepLaidRun
import Derived.Lib.LaidTab
import Derived.PinnedBridge
import Derived.MakeChecks
import Derived.Shelf.Vars
namespace Go.Proofs.YtomgnnbcaficaaaDoor.L
open Go.ChangeShapes Go.WideShapes Go.ChangeAt Go.RowKit Go.Lib Go.Proofs.YtomgnnbcaficaaaDoor

section
variable {H : Type} {enc : TypeId × Value → H} {w : World} {base : Nat} {spare : Nat → Bool} {held : Bool}
theorem cellsEd : Tryd.prog.cellsOf 23 = 2 := by kernel_rfl
theorem cellsStr : Tryd.prog.cellsOf 9 = 1 := by kernel_rfl
theorem cellsBo : Tryd.prog.cellsOf 4 = 1 := by kernel_rfl
set_option maxRecDepth 100000 in
theorem open_ed {r : Reach} {b0 : Nat} {v : Value} {d : DataW H} {p : List MemPlace} (hv : Value.okWide Tryd.prog w r b0 23 v) (h : DataW.Trod enc Tryd.prog w base spare held 23 v d p) :
    ∃ (s : ByteArray) (q : Bool), v = .agg #[.string s, .bool q] ∧ p = [] ∧ ((d.weights Tryd.prog 23).all (· ≤ reachBytes) = true → s.data.toList.length ≤ 140737488355328) := by
  obtain ⟨cs, rfl, _⟩ := okWide_struct Tryd.underlying23 hv
  obtain ⟨fuel, hf⟩ := h
  obtain ⟨y0, y1, n, hx, hl, f0, f1⟩ := trod_struct2 Tryd.underlying23 hf
  rw [cellsEd] at hl
  obtain ⟨a0, e0, rfl, _⟩ := DataW.trod_string Tryd.underlying9 f0
  obtain ⟨a1, e1, rfl⟩ := DataW.trod_bool Tryd.underlying4 f1
  rw [cellsStr] at e0
  rw [cellsBo] at e1
  simp only [Value.cells] at e0 e1 hl
  have hcs : cs = #[.string a0, .bool a1] := by
    apply Array.ext'
    match cs.toList, hl, e0, e1 with
    | [x, y], _, e0, e1 =>
      simp at e0 e1
      rw [e0, e1]
  refine ⟨a0, a1, by rw [hcs], ?_, fun hw => ?_⟩
  · have := congrArg Prod.snd hx
    simpa using this
  · have hd : d = .agg [.lit (.string a0.data.toList), .lit (.bool a1)] := congrArg Prod.fst hx
    rw [hd] at hw
    simp [DataW.weights, Tryd.underlying23, reachBytes] at hw
    have := hw a0.data.toList.length (by simp [DataW.weightsEach, DataW.weights])
    have := of_decide_eq_true this
    omega
end
/-- the two tables laid into a world -/
def withTables (w : World) : World :=
  { w with heap := (w.heap.modify 1 (fun o => match o with
      | .cells _ t frozen => .cells ((Pinned.utf8FirstZ.map fun (n : Nat) => Value.int .u8 (n : Int)).toArray) t frozen
      | o => o)).modify 2 (fun o => match o with
      | .cells _ t frozen => .cells (#[.int .u8 128, .int .u8 191, .int .u8 160, .int .u8 191, .int .u8 128, .int .u8 159, .int .u8 144, .int .u8 191, .int .u8 128, .int .u8 143] ++ Array.replicate 22 (.int .u8 0)) t frozen
      | o => o) }
end Go.Proofs.YtomgnnbcaficaaaDoor.L
