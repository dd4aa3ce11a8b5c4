/-
  What every row of this seat wants besides its walk: how a Neg and a token among the arguments are opened; what a call leaves that writes nothing old; no condition.
-/
import Derived.Test.YtfehlfjondelnabRows
import Derived.Test.YtfehlfjondelnabQSay
import Derived.WalkKit
import Derived.ProofKit
import Derived.OpenShut
import Derived.ShutString
import Derived.Lib.SmallJoins
import Derived.Below
namespace Go.Proofs.Ytfehlfjondelnab.Q
open Go.ChangeShapes Go.WideShapes Go.ChangeAt Go.RowKit Go.Proofs.Ytfehlfjondelnab

theorem own : ownKnob Try.prog.godebug = none := by kernel_rfl
theorem laidOut : laidOutB Try.prog = true := by kernel_rfl

theorem post_below {H : Type} {enc : TypeId × Value → H} {P : Program} {f : Func} {s : ChangeSpec} {apart fresh handsOn : Bool} {W W' : World} {args : Array Value} {v : Value} {ds gs : List (DataW H)} {before pa pv : List MemPlace}
    (hW : DataW.Whole enc P f.params.toList s.vars apart W args.toList ds gs before)
    (hres : ∀ (b : Nat) (sp : Nat → Bool) (hd : Bool), DataW.TrodAll enc P W' b sp hd f.resultTypes.toList (v.resultList f.resultTypes.size) (s.fn H (ds ++ gs)).results [])
    (hargs : DataW.TrodAll enc P W' 0 (fun b => decide (b < W.heap.size)) true f.params.toList args.toList (s.fn H (ds ++ gs)).args pa)
    (hvars : DataW.TrodVars enc P W' (fun b => decide (b < W.heap.size)) s.vars (s.fn H (ds ++ gs)).vars pv)
    (hb : Below W.heap.size W W') :
    s.post enc P f apart fresh handsOn false W args v W' :=
  ⟨ds, gs, before, [], pa, pv, hW, hres _ _ _, hargs, hvars, hb.frame _, fun h => by cases h⟩

section
variable {H : Type} {enc : TypeId × Value → H} {w : World} {base : Nat} {spare : Nat → Bool} {held : Bool}

theorem drop_take_one {l : List Value} {i : Nat} {v : Value} (h : (l.drop i).take 1 = [v]) : l[i]? = some v := by
  have : ((l.drop i).take 1)[0]? = some v := by rw [h]; rfl
  rw [List.getElem?_take, if_pos (by omega), List.getElem?_drop] at this
  simpa using this

/-- an array of integers -/
theorem trod_row {P : Program} {t e : TypeId} {n fuel : Nat} {k : IntKind} {cs : List Value} {x : DataW H × List MemPlace} (ht : P.underlying t = some (.array n e)) (he : P.underlying e = some (.int k)) (hc : P.cellsOf e = 1) (h : DataW.trod enc P w base spare held fuel t cs = some x) :
    x.2 = [] ∧ ∀ i, i < n → ∃ z, cs[i]? = some (.int k z) ∧ (Lit.int k z).wf = true := by
  obtain ⟨xs, m, _, rfl, _, hlen, hi⟩ := DataW.trod_array ht h
  have key : ∀ i, i < n → ∃ z, cs[i]? = some (.int k z) ∧ (Lit.int k z).wf = true ∧ ∃ y, xs[i]? = some y ∧ y.2 = [] := fun i hin => by
    have h1 := hi i hin
    rw [hc, Nat.mul_one, List.getElem?_eq_getElem (show i < xs.length by omega)] at h1
    obtain ⟨z, e1, e2, e3⟩ := DataW.trod_int he h1
    exact ⟨z, drop_take_one e1, e3, xs[i], List.getElem?_eq_getElem (by omega), by rw [e2]⟩
  refine ⟨?_, fun i hin => ?_⟩
  · simp only [List.flatMap_eq_nil_iff]
    intro y hy
    obtain ⟨i, hil, rfl⟩ := List.mem_iff_getElem.1 hy
    obtain ⟨_, _, _, y', hy', e⟩ := key i (by omega)
    rw [List.getElem?_eq_getElem hil] at hy'
    rw [Option.some.inj hy']
    exact e
  · obtain ⟨z, e1, e2, _⟩ := key i hin
    exact ⟨z, e1, e2⟩

theorem cells5 : Try.prog.cellsOf 5 = 1 := by kernel_rfl
theorem cells29 : Try.prog.cellsOf 28 = 1 := by kernel_rfl
theorem cells28 : Try.prog.cellsOf 27 = 256 := by kernel_rfl
theorem cells30 : Try.prog.cellsOf 29 = 4 := by kernel_rfl
theorem cells32 : Try.prog.cellsOf 31 = 520 := by kernel_rfl
theorem cells34 : Try.prog.cellsOf 33 = 4 := by kernel_rfl
theorem cells3 : Try.prog.cellsOf 3 = 1 := by kernel_rfl
theorem cells9 : Try.prog.cellsOf 9 = 1 := by kernel_rfl

theorem wf8 {z : Int} (h : (Lit.int .u8 z).wf = true) : 0 ≤ z ∧ z ≤ 255 := by
  simp only [Lit.wf, Bool.and_eq_true, decide_eq_true_eq] at h
  exact h
theorem wf64 {z : Int} (h : (Lit.int .u64 z).wf = true) : 0 ≤ z ∧ z ≤ 18446744073709551615 := by
  simp only [Lit.wf, Bool.and_eq_true, decide_eq_true_eq] at h
  exact h
theorem part_get {l : List Value} {o n i : Nat} {v : Value} (h : ((l.drop o).take n)[i]? = some v) : l[o + i]? = some v := by
  rw [List.getElem?_take] at h
  split at h
  · rwa [List.getElem?_drop] at h
  · cases h

theorem trod_neg {fuel : Nat} {cs : List Value} {y : DataW H × List MemPlace} (h : DataW.trod enc Try.prog w base spare held fuel 31 cs = some y) : NegL cs ∧ y.2 = [] := by
  obtain ⟨y0, y1, y2, y3, n, rfl, hl, f0, f1, f2, f3⟩ := Joins.trod_struct4 Try.underlying31 h
  rw [cells32] at hl
  simp only [cells28, cells30] at f0 f1 f2 f3
  obtain ⟨p0, g0⟩ := trod_row Try.underlying27 Try.underlying5 cells5 f0
  obtain ⟨p1, g1⟩ := trod_row Try.underlying27 Try.underlying5 cells5 f1
  obtain ⟨p2, g2⟩ := trod_row Try.underlying29 Try.underlying28 cells29 f2
  obtain ⟨p3, g3⟩ := trod_row Try.underlying29 Try.underlying28 cells29 f3
  refine ⟨⟨hl, fun j hj => ?_, fun j h1 h2 => ?_⟩, by simp [p0, p1, p2, p3]⟩
  · by_cases hj2 : j < 256
    · obtain ⟨z, e, hw⟩ := g0 j hj2
      have hb := wf8 hw
      have e2 := part_get e
      rw [Nat.zero_add] at e2
      exact ⟨z.toNat, by omega, by rw [e2, Int.toNat_of_nonneg hb.1]⟩
    · obtain ⟨z, e, hw⟩ := g1 (j - 256) (by omega)
      have hb := wf8 hw
      have e2 := part_get e
      rw [show 256 + (j - 256) = j by omega] at e2
      exact ⟨z.toNat, by omega, by rw [e2, Int.toNat_of_nonneg hb.1]⟩
  · by_cases hj2 : j < 516
    · obtain ⟨z, e, hw⟩ := g2 (j - 512) (by omega)
      have hb := wf64 hw
      have e2 := part_get e
      rw [show 512 + (j - 512) = j by omega] at e2
      exact ⟨z.toNat, by omega, by rw [e2, Int.toNat_of_nonneg hb.1]⟩
    · obtain ⟨z, e, hw⟩ := g3 (j - 516) (by omega)
      have hb := wf64 hw
      have e2 := part_get e
      rw [show 516 + (j - 516) = j by omega] at e2
      exact ⟨z.toNat, by omega, by rw [e2, Int.toNat_of_nonneg hb.1]⟩

theorem list4 {α : Type} {l : List α} (h : l.length = 4) : ∃ a b c d, l = [a, b, c, d] := by
  match l, h with
  | [a, b, c, d], _ => exact ⟨a, b, c, d, rfl⟩

theorem trod_tok {fuel : Nat} {cs : List Value} {y : DataW H × List MemPlace} (h : DataW.trod enc Try.prog w base spare held fuel 33 cs = some y) : ∃ kd cm op d, cs = tok kd cm op d ∧ y.2 = [] := by
  obtain ⟨y0, y1, y2, y3, n, rfl, hl, f0, f1, f2, f3⟩ := Joins.trod_struct4 Try.underlying33 h
  rw [cells34] at hl
  obtain ⟨c0, c1, c2, c3, rfl⟩ := list4 hl
  obtain ⟨a0, e0, rfl, _⟩ := DataW.trod_int Try.underlying3 f0
  obtain ⟨a1, e1, rfl, _⟩ := DataW.trod_int Try.underlying3 f1
  obtain ⟨a2, e2, rfl, _⟩ := DataW.trod_int Try.underlying3 f2
  obtain ⟨a3, e3, rfl, _⟩ := DataW.trod_string Try.underlying9 f3
  rw [cells3] at e0 e1 e2
  rw [cells9] at e3
  simp at e0 e1 e2 e3
  subst e0; subst e1; subst e2; subst e3
  exact ⟨a0, a1, a2, a3, rfl, rfl⟩

theorem open_neg {r : Reach} {b0 : Nat} {v : Value} {d : DataW H} {p : List MemPlace} (hv : Value.okWide Try.prog w r b0 31 v) (h : DataW.Trod enc Try.prog w base spare held 31 v d p) : ∃ l : List Value, v = .agg l.toArray ∧ NegL l ∧ p = [] := by
  obtain ⟨cs, rfl, _⟩ := okWide_struct Try.underlying31 hv
  obtain ⟨fuel, hf⟩ := h
  obtain ⟨h1, h2⟩ := trod_neg hf
  exact ⟨cs.toList, by rw [Array.toArray_toList], h1, h2⟩
theorem open_tok {r : Reach} {b0 : Nat} {v : Value} {d : DataW H} {p : List MemPlace} (hv : Value.okWide Try.prog w r b0 33 v) (h : DataW.Trod enc Try.prog w base spare held 33 v d p) : ∃ kd cm op s, v = .agg (tok kd cm op s).toArray ∧ p = [] := by
  obtain ⟨cs, rfl, _⟩ := okWide_struct Try.underlying33 hv
  obtain ⟨fuel, hf⟩ := h
  obtain ⟨kd, cm, op, s, e, h2⟩ := trod_tok hf
  simp only [Value.cells] at e
  exact ⟨kd, cm, op, s, by rw [← e, Array.toArray_toList], h2⟩
end
end Go.Proofs.Ytfehlfjondelnab.Q
