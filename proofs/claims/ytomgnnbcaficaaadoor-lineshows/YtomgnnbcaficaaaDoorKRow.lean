/-
  What every row of this seat wants besides its walk: how Keys and bytes among the arguments are opened; what a call leaves that writes nothing old; no condition.
-/
import Derived.Test.YtomgnnbcaficaaaDoorRows
import Derived.Test.YtomgnnbcaficaaaDoorKCells
import Derived.WalkKit
import Derived.ProofKit
import Derived.OpenShut
import Derived.ShutString
import Derived.Lib.SmallJoins
import Derived.Deep.Strs
import Derived.ChangeSame
import Derived.HandedShaped
import Derived.Below
namespace Go.Proofs.YtomgnnbcaficaaaDoor.K
open Go.ChangeShapes Go.WideShapes Go.ChangeAt Go.RowKit Go.Proofs.YtomgnnbcaficaaaDoor Go.Proofs.YtomgnnbcaficaaaDoor.W Go.Proofs.YtomgnnbcaficaaaDoor.Q

theorem own : ownKnob Tryd.prog.godebug = none := by kernel_rfl
theorem laidOut : laidOutB Tryd.prog = true := by kernel_rfl

theorem post_below {H : Type} {enc : TypeId × Value → H} {P : Program} {f : Func} {s : ChangeSpec} {apart fresh handsOn : Bool} {W W' : World} {args : Array Value} {v : Value} {ds gs : List (DataW H)} {before pa pv : List MemPlace}
    (hW : DataW.Whole enc P f.params.toList s.vars apart W args.toList ds gs before)
    (hres : ∀ (b : Nat) (sp : Nat → Bool) (hd : Bool), DataW.TrodAll enc P W' b sp hd f.resultTypes.toList (v.resultList f.resultTypes.size) (s.fn H (ds ++ gs)).results [])
    (hargs : DataW.TrodAll enc P W' 0 (fun b => decide (b < W.heap.size)) true f.params.toList args.toList (s.fn H (ds ++ gs)).args pa)
    (hvars : DataW.TrodVars enc P W' (fun b => decide (b < W.heap.size)) s.vars (s.fn H (ds ++ gs)).vars pv)
    (hb : Below W.heap.size W W') :
    s.post enc P f apart fresh handsOn false W args v W' :=
  ⟨ds, gs, before, [], pa, pv, hW, hres _ _ _, hargs, hvars, hb.frame _, fun h => by cases h⟩

section
variable {H : Type} {enc : TypeId × Value → H} {w : World} {base : Nat} {spare : Nat → Bool} {held : Bool}

theorem drop_take_one {l : List Value} {i : Nat} {v : Value} (h : (l.drop i).take 1 = [v]) : l[i]? = some v := by
  have : ((l.drop i).take 1)[0]? = some v := by rw [h]; rfl
  rw [List.getElem?_take, if_pos (by omega), List.getElem?_drop] at this
  simpa using this

/-- an array of integers -/
theorem trod_row {P : Program} {t e : TypeId} {n fuel : Nat} {k : IntKind} {cs : List Value} {x : DataW H × List MemPlace} (ht : P.underlying t = some (.array n e)) (he : P.underlying e = some (.int k)) (hc : P.cellsOf e = 1) (h : DataW.trod enc P w base spare held fuel t cs = some x) :
    x.2 = [] ∧ ∀ i, i < n → ∃ z, cs[i]? = some (.int k z) ∧ (Lit.int k z).wf = true := by
  obtain ⟨xs, m, _, rfl, _, hlen, hi⟩ := DataW.trod_array ht h
  have key : ∀ i, i < n → ∃ z, cs[i]? = some (.int k z) ∧ (Lit.int k z).wf = true ∧ ∃ y, xs[i]? = some y ∧ y.2 = [] := fun i hin => by
    have h1 := hi i hin
    rw [hc, Nat.mul_one, List.getElem?_eq_getElem (show i < xs.length by omega)] at h1
    obtain ⟨z, e1, e2, e3⟩ := DataW.trod_int he h1
    exact ⟨z, drop_take_one e1, e3, xs[i], List.getElem?_eq_getElem (by omega), by rw [e2]⟩
  refine ⟨?_, fun i hin => ?_⟩
  · simp only [List.flatMap_eq_nil_iff]
    intro y hy
    obtain ⟨i, hil, rfl⟩ := List.mem_iff_getElem.1 hy
    obtain ⟨_, _, _, y', hy', e⟩ := key i (by omega)
    rw [List.getElem?_eq_getElem hil] at hy'
    rw [Option.some.inj hy']
    exact e
  · obtain ⟨z, e1, e2, _⟩ := key i hin
    exact ⟨z, e1, e2⟩

theorem cellsU8 : Tryd.prog.cellsOf 5 = 1 := by kernel_rfl
theorem cellsL : Tryd.prog.cellsOf 24 = 19 := by kernel_rfl
theorem cellsK : Tryd.prog.cellsOf 26 = 38 := by kernel_rfl
theorem wf8 {z : Int} (h : (Lit.int .u8 z).wf = true) : 0 ≤ z ∧ z ≤ 255 := by
  simp only [Lit.wf, Bool.and_eq_true, decide_eq_true_eq] at h
  exact h
theorem part_get {l : List Value} {o n i : Nat} {v : Value} (h : ((l.drop o).take n)[i]? = some v) : l[o + i]? = some v := by
  rw [List.getElem?_take] at h
  split at h
  · rwa [List.getElem?_drop] at h
  · cases h
/-- bytes out of their cells -/
theorem of_cells : ∀ (cs : List Value), (∀ i, i < cs.length → ∃ z : Int, cs[i]? = some (.int .u8 z) ∧ 0 ≤ z ∧ z ≤ 255) → ∃ k : List UInt8, k.length = cs.length ∧ cs = bcells k
  | [], _ => ⟨[], rfl, rfl⟩
  | c :: cs, h => by
    obtain ⟨k, hk, e⟩ := of_cells cs (fun i hi => by
      have := h (i + 1) (by simp; omega)
      simpa using this)
    obtain ⟨z, hz, z0, z1⟩ := h 0 (by simp)
    simp only [List.getElem?_cons_zero, Option.some.injEq] at hz
    refine ⟨z.toNat.toUInt8 :: k, by simp [hk], ?_⟩
    have e2 : ((z.toNat.toUInt8).toNat : Int) = z := by
      simp only [Nat.toUInt8, UInt8.toNat_ofNat']
      omega
    rw [hz, e]
    unfold bcells
    rw [List.map_cons, e2]

theorem trod_keys {fuel : Nat} {cs : List Value} {y : DataW H × List MemPlace} (h : DataW.trod enc Tryd.prog w base spare held fuel 26 cs = some y) : (∃ k : List UInt8, k.length = 38 ∧ cs = bcells k) ∧ y.2 = [] := by
  obtain ⟨y0, y1, n, rfl, hl, f0, f1⟩ := trod_struct2 Tryd.underlying26 h
  rw [cellsK] at hl
  simp only [cellsL] at f0 f1
  obtain ⟨p0, g0⟩ := trod_row Tryd.underlying24 Tryd.underlying5 cellsU8 f0
  obtain ⟨p1, g1⟩ := trod_row Tryd.underlying24 Tryd.underlying5 cellsU8 f1
  refine ⟨?_, by simp [p0, p1]⟩
  obtain ⟨k, hk, e⟩ := of_cells cs (fun i hi => by
    by_cases hj : i < 19
    · obtain ⟨z, e, hw⟩ := g0 i hj
      have e2 := part_get e
      rw [Nat.zero_add] at e2
      exact ⟨z, e2, wf8 hw⟩
    · obtain ⟨z, e, hw⟩ := g1 (i - 19) (by omega)
      have e2 := part_get e
      rw [show 19 + (i - 19) = i by omega] at e2
      exact ⟨z, e2, wf8 hw⟩)
  exact ⟨k, by omega, e⟩
set_option maxRecDepth 100000 in
theorem open_keys {r : Reach} {b0 : Nat} {v : Value} {d : DataW H} {p : List MemPlace} (hv : Value.okWide Tryd.prog w r b0 26 v) (h : DataW.Trod enc Tryd.prog w base spare held 26 v d p) : ∃ k : List UInt8, v = KV k ∧ k.length = 38 ∧ p = [] := by
  obtain ⟨cs, rfl, _⟩ := okWide_struct Tryd.underlying26 hv
  obtain ⟨fuel, hf⟩ := h
  obtain ⟨⟨k, hk, e⟩, h2⟩ := trod_keys hf
  simp only [Value.cells] at e
  exact ⟨k, by unfold KV; rw [← e, Array.toArray_toList], hk, h2⟩
set_option maxRecDepth 100000 in
theorem open_byte {r : Reach} {b0 : Nat} {v : Value} {d : DataW H} {p : List MemPlace} (hv : Value.okWide Tryd.prog w r b0 5 v) (h : DataW.Trod enc Tryd.prog w base spare held 5 v d p) : ∃ b : UInt8, v = .int .u8 (b.toNat : Int) ∧ p = [] := by
  obtain ⟨z, h1, h2, h3, hw⟩ := open_int Tryd.underlying5 hv h
  have hz := wf8 hw
  have e : ((z.toNat.toUInt8).toNat : Int) = z := by
    simp only [Nat.toUInt8, UInt8.toNat_ofNat']
    omega
  exact ⟨z.toNat.toUInt8, by rw [e]; exact h1, h3⟩
end
end Go.Proofs.YtomgnnbcaficaaaDoor.K
