/-
  What every row of this seat wants besides its walk: how sets of bytes, and bytes, among the arguments are opened; what a call leaves that writes nothing old; no condition.
-/
import Derived.Test.YtomgnnbcaficaaaDoorRows
import Derived.Test.YtomgnnbcaficaaaDoorHCells
import Derived.WalkKit
import Derived.ProofKit
import Derived.OpenShut
import Derived.ShutString
import Derived.Lib.SmallJoins
import Derived.Deep.Strs
import Derived.ChangeSame
import Derived.HandedShaped
import Derived.Below
namespace Go.Proofs.YtomgnnbcaficaaaDoor.H
open Go.ChangeShapes Go.WideShapes Go.ChangeAt Go.RowKit Go.Proofs.YtomgnnbcaficaaaDoor Go.Proofs.YtomgnnbcaficaaaDoor.W Go.Proofs.YtomgnnbcaficaaaDoor.Q

theorem own : ownKnob Tryd.prog.godebug = none := by kernel_rfl
theorem laidOut : laidOutB Tryd.prog = true := by kernel_rfl

theorem post_below {H : Type} {enc : TypeId × Value → H} {P : Program} {f : Func} {s : ChangeSpec} {apart fresh handsOn : Bool} {W W' : World} {args : Array Value} {v : Value} {ds gs : List (DataW H)} {before pa pv : List MemPlace}
    (hW : DataW.Whole enc P f.params.toList s.vars apart W args.toList ds gs before)
    (hres : ∀ (b : Nat) (sp : Nat → Bool) (hd : Bool), DataW.TrodAll enc P W' b sp hd f.resultTypes.toList (v.resultList f.resultTypes.size) (s.fn H (ds ++ gs)).results [])
    (hargs : DataW.TrodAll enc P W' 0 (fun b => decide (b < W.heap.size)) true f.params.toList args.toList (s.fn H (ds ++ gs)).args pa)
    (hvars : DataW.TrodVars enc P W' (fun b => decide (b < W.heap.size)) s.vars (s.fn H (ds ++ gs)).vars pv)
    (hb : Below W.heap.size W W') :
    s.post enc P f apart fresh handsOn false W args v W' :=
  ⟨ds, gs, before, [], pa, pv, hW, hres _ _ _, hargs, hvars, hb.frame _, fun h => by cases h⟩

section
variable {H : Type} {enc : TypeId × Value → H} {w : World} {base : Nat} {spare : Nat → Bool} {held : Bool}

theorem drop_take_one {l : List Value} {i : Nat} {v : Value} (h : (l.drop i).take 1 = [v]) : l[i]? = some v := by
  have : ((l.drop i).take 1)[0]? = some v := by rw [h]; rfl
  rw [List.getElem?_take, if_pos (by omega), List.getElem?_drop] at this
  simpa using this

/-- an array of integers -/
theorem trod_row {P : Program} {t e : TypeId} {n fuel : Nat} {k : IntKind} {cs : List Value} {x : DataW H × List MemPlace} (ht : P.underlying t = some (.array n e)) (he : P.underlying e = some (.int k)) (hc : P.cellsOf e = 1) (h : DataW.trod enc P w base spare held fuel t cs = some x) :
    x.2 = [] ∧ ∀ i, i < n → ∃ z, cs[i]? = some (.int k z) ∧ (Lit.int k z).wf = true := by
  obtain ⟨xs, m, _, rfl, _, hlen, hi⟩ := DataW.trod_array ht h
  have key : ∀ i, i < n → ∃ z, cs[i]? = some (.int k z) ∧ (Lit.int k z).wf = true ∧ ∃ y, xs[i]? = some y ∧ y.2 = [] := fun i hin => by
    have h1 := hi i hin
    rw [hc, Nat.mul_one, List.getElem?_eq_getElem (show i < xs.length by omega)] at h1
    obtain ⟨z, e1, e2, e3⟩ := DataW.trod_int he h1
    exact ⟨z, drop_take_one e1, e3, xs[i], List.getElem?_eq_getElem (by omega), by rw [e2]⟩
  refine ⟨?_, fun i hin => ?_⟩
  · simp only [List.flatMap_eq_nil_iff]
    intro y hy
    obtain ⟨i, hil, rfl⟩ := List.mem_iff_getElem.1 hy
    obtain ⟨_, _, _, y', hy', e⟩ := key i (by omega)
    rw [List.getElem?_eq_getElem hil] at hy'
    rw [Option.some.inj hy']
    exact e
  · obtain ⟨z, e1, e2, _⟩ := key i hin
    exact ⟨z, e1, e2⟩

theorem cellsU8 : Tryd.prog.cellsOf 5 = 1 := by kernel_rfl
theorem cellsU64 : Tryd.prog.cellsOf 27 = 1 := by kernel_rfl
theorem cellsR : Tryd.prog.cellsOf 28 = 4 := by kernel_rfl
theorem cellsM : Tryd.prog.cellsOf 30 = 4 := by kernel_rfl
theorem wf8 {z : Int} (h : (Lit.int .u8 z).wf = true) : 0 ≤ z ∧ z ≤ 255 := by
  simp only [Lit.wf, Bool.and_eq_true, decide_eq_true_eq] at h
  exact h
theorem wf64 {z : Int} (h : (Lit.int .u64 z).wf = true) : 0 ≤ z ∧ z ≤ 18446744073709551615 := by
  simp only [Lit.wf, Bool.and_eq_true, decide_eq_true_eq] at h
  exact h
/-- words out of their cells -/
theorem of_cells : ∀ (cs : List Value), (∀ i, i < cs.length → ∃ z : Int, cs[i]? = some (.int .u64 z) ∧ 0 ≤ z ∧ z ≤ 18446744073709551615) → ∃ M : List Nat, M.length = cs.length ∧ cs = ucells M ∧ ∀ x ∈ M, x < 18446744073709551616
  | [], _ => ⟨[], rfl, rfl, fun _ h => by cases h⟩
  | c :: cs, h => by
    obtain ⟨M, hM, e, hw⟩ := of_cells cs (fun i hi => by
      have := h (i + 1) (by simp; omega)
      simpa using this)
    obtain ⟨z, hz, z0, z1⟩ := h 0 (by simp)
    simp only [List.getElem?_cons_zero, Option.some.injEq] at hz
    refine ⟨z.toNat :: M, by simp [hM], ?_, ?_⟩
    · have e2 : ((z.toNat : Nat) : Int) = z := by omega
      rw [hz, e]
      unfold ucells
      rw [List.map_cons, e2]
    · intro x hx
      rcases List.mem_cons.1 hx with rfl | h2
      · omega
      · exact hw x h2

theorem trod_mask {fuel : Nat} {cs : List Value} {y : DataW H × List MemPlace} (h : DataW.trod enc Tryd.prog w base spare held fuel 30 cs = some y) : (∃ M : List Nat, okW M ∧ cs = ucells M) ∧ y.2 = [] := by
  obtain ⟨y0, n, rfl, hl, f0⟩ := trod_struct1 Tryd.underlying30 h
  rw [cellsM] at hl
  simp only [cellsR] at f0
  obtain ⟨p0, g0⟩ := trod_row Tryd.underlying28 Tryd.underlying27 cellsU64 f0
  refine ⟨?_, by simp [p0]⟩
  obtain ⟨M, hk, e, hw⟩ := of_cells cs (fun i hi => by
    obtain ⟨z, e, hw⟩ := g0 i (by omega)
    rw [List.drop_zero, List.take_of_length_le (by omega)] at e
    exact ⟨z, e, wf64 hw⟩)
  exact ⟨M, ⟨by omega, hw⟩, e⟩
set_option maxRecDepth 100000 in
theorem open_mask {r : Reach} {b0 : Nat} {v : Value} {d : DataW H} {p : List MemPlace} (hv : Value.okWide Tryd.prog w r b0 30 v) (h : DataW.Trod enc Tryd.prog w base spare held 30 v d p) : ∃ M : List Nat, v = MV M ∧ okW M ∧ p = [] := by
  obtain ⟨cs, rfl, _⟩ := okWide_struct Tryd.underlying30 hv
  obtain ⟨fuel, hf⟩ := h
  obtain ⟨⟨M, hk, e⟩, h2⟩ := trod_mask hf
  simp only [Value.cells] at e
  exact ⟨M, by unfold MV; rw [← e, Array.toArray_toList], hk, h2⟩
set_option maxRecDepth 100000 in
theorem open_byte {r : Reach} {b0 : Nat} {v : Value} {d : DataW H} {p : List MemPlace} (hv : Value.okWide Tryd.prog w r b0 5 v) (h : DataW.Trod enc Tryd.prog w base spare held 5 v d p) : ∃ b : UInt8, v = .int .u8 (b.toNat : Int) ∧ p = [] := by
  obtain ⟨z, h1, h2, h3, hw⟩ := open_int Tryd.underlying5 hv h
  have hz := wf8 hw
  have e : ((z.toNat.toUInt8).toNat : Int) = z := by
    simp only [Nat.toUInt8, UInt8.toNat_ofNat']
    omega
  exact ⟨z.toNat.toUInt8, by rw [e]; exact h1, h3⟩
end
end Go.Proofs.YtomgnnbcaficaaaDoor.H
