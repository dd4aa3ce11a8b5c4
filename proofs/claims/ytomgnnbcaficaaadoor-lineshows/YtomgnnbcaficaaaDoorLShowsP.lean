/-
  Paper that is rubbed out, read back: what each step of playing leaves; a row of bytes of the call's own, cut and appended to; no condition but the bounds that each law names.
-/
import Derived.Test.YtomgnnbcaficaaaDoorLAny2
import Derived.Deep.RegionWith
import Derived.BigRegion
namespace Go.Proofs.YtomgnnbcaficaaaDoor.L
open Go.RowKit Go.Lib Go.Proofs.YtomgnnbcaficaaaDoor Go.Proofs.YtomgnnbcaficaaaDoor.W Go.Proofs.YtomgnnbcaficaaaDoor.Q

def Pl (row s r : List UInt8) : Prop := ∃ n, s.length ≤ n ∧ playF n row s = some r
theorem pl_of {row s r : List UInt8} (h : Plays row s r) : Pl row s r := ⟨s.length, Nat.le_refl _, h _ (Nat.le_refl _)⟩
theorem pl_end {row r : List UInt8} (h : Pl row [] r) : row = r := by
  obtain ⟨n, _, h⟩ := h
  cases n <;> exact Option.some.inj h
theorem pl_new {row s r : List UInt8} (h : Pl row (13 :: 10 :: s) r) : Pl [] s r := by
  obtain ⟨n, hn, h⟩ := h
  cases n with
  | zero => simp at hn
  | succ n =>
    rw [playF, if_pos ⟨rfl, rfl⟩] at h
    exact ⟨n, by simp at hn; omega, h⟩
theorem pl_rub {row s r : List UInt8} (h : Pl row (8 :: 32 :: 8 :: s) r) : row ≠ [] ∧ Pl row.dropLast s r := by
  obtain ⟨n, hn, h⟩ := h
  cases n with
  | zero => simp at hn
  | succ n =>
    rw [playF, if_neg (fun e => by have := e.1; revert this; decide), if_pos ⟨rfl, rfl⟩] at h
    by_cases hr : row = []
    · rw [if_pos hr] at h; cases h
    · rw [if_neg hr] at h
      exact ⟨hr, n, by simp only [List.length_cons] at hn; omega, h⟩
theorem pl_put {row s r : List UInt8} {x : UInt8} (h1 : hasPrefix (x :: s) [13, 10] = false) (h2 : hasPrefix (x :: s) [8, 32, 8] = false) (h : Pl row (x :: s) r) : Pl (row ++ [x]) s r := by
  obtain ⟨n, hn, h⟩ := h
  cases n with
  | zero => simp at hn
  | succ n =>
    rw [playF, if_neg, if_neg] at h
    · exact ⟨n, by simp at hn; omega, h⟩
    · rintro ⟨rfl, e⟩
      have : s = 32 :: 8 :: s.drop 2 := by rw [← List.take_append_drop 2 s, e]; rfl
      rw [this] at h2
      simp [hasPrefix, List.isPrefixOf] at h2
    · rintro ⟨rfl, e⟩
      cases s with
      | nil => cases e
      | cons y s =>
        simp only [List.head?_cons, Option.some.injEq] at e
        subst e
        simp [hasPrefix, List.isPrefixOf] at h1
theorem prefix_two {s : List UInt8} (h : hasPrefix s [13, 10] = true) : ∃ r, s = 13 :: 10 :: r := by
  unfold hasPrefix at h
  obtain ⟨r, rfl⟩ := List.isPrefixOf_iff_prefix.1 h
  exact ⟨r, rfl⟩
theorem prefix_three {s : List UInt8} (h : hasPrefix s [8, 32, 8] = true) : ∃ r, s = 8 :: 32 :: 8 :: r := by
  unfold hasPrefix at h
  obtain ⟨r, rfl⟩ := List.isPrefixOf_iff_prefix.1 h
  exact ⟨r, rfl⟩

/-- a row of one's own, cut -/
theorem OwnB_front {w : World} {base : Nat} {ad : Option Addr} {n cap : Nat} {l : List UInt8} (h : OwnB w base (.slice ad n cap) l) (k : Nat) (hk : k ≤ l.length) (hne : l ≠ []) : OwnB w base (.slice ad k cap) (l.take k) := by
  unfold OwnB OwnR at *
  have hl : (l.take k).length = k := by rw [List.length_take]; omega
  refine ⟨by rw [bcells_length, hl, Nat.mul_one], ?_⟩
  rcases h.2 with ⟨_, e⟩ | ⟨g, c, cur, fz, e, hb, hg, hf, hnc, hcm, hcs, ht⟩
  · exact absurd (List.length_eq_zero_iff.1 e) hne
  · simp only [Value.slice.injEq] at e
    obtain ⟨rfl, rfl, rfl⟩ := e
    refine .inr ⟨g, cap, cur, fz, by rw [hl], hb, hg, hf, by omega, hcm, hcs, ?_⟩
    rw [hl, Nat.mul_one]
    rw [Nat.mul_one] at ht
    have e2 : bcells (l.take k) = (bcells l).take k := by unfold bcells; rw [List.map_take]
    rw [e2, ← ht, List.take_take, Nat.min_eq_left hk]
theorem OwnB_form {w : World} {base : Nat} {v : Value} {l : List UInt8} (h : OwnB w base v l) : ∃ ad cap, v = .slice ad l.length cap ∧ l.length ≤ cap := by
  unfold OwnB at h
  rcases h.form with ⟨e, e2⟩ | ⟨g, cap, e, _, _, hc⟩
  · rw [e2]; exact ⟨none, 0, e, Nat.le_refl _⟩
  · exact ⟨_, cap, e, hc⟩
/-- append(row, y), in a region that draws -/
theorem step_append_y {w : World} {o : Oper} {a : Act} {ops : Array Oper} {Q : Exit → Act → World → Prop} {K : Act → World → Prop} {X : Prop} (hgd : o.guard = none) (sl x : Operand)
    (ho : o.op = .call { callee := .builtin .append, args := #[sl, x], argTypes := #[48, 48] }) (base : Nat) (ad : Option Addr) (n cap : Nat) (l : List UInt8) (hsl : a.eval sl = .slice ad n cap) (hown : OwnB w base (.slice ad n cap) l) (hn : n = l.length)
    (b c : Nat) (y : UInt8) (hx : a.eval x = .slice (some ⟨b, 0, none⟩) 1 c) (hc : w.cell? ⟨b, 0, none⟩ = some (.int .u8 (y.toNat : Int))) (hlen : l.length ≤ 1000000000) (hbase : base ≤ w.heap.size)
    (next : ∀ ad' n' cap' w', Hid (n' = l.length + 1) → Hid (OwnB w' base (.slice ad' n' cap') (l ++ [y])) → (∀ B W, B ≤ base → Below B W w → Below B W w') → K (a.put o.dst (.slice ad' n' cap')) w') : if Region.wanted o (yielded ops a.tmps) = true then Oper.wp Tryd.prog o a w K Q else X := by
  subst hn
  have hw : Region.wanted o (yielded ops a.tmps) = true := by simp [Region.wanted, hgd]
  rw [if_pos hw]
  obtain ⟨i0, hi, hz0, hz1, hz2⟩ := info_parts infoByte
  have hS : Src Tryd.prog 1 48 (.slice (some ⟨b, 0, none⟩) 1 c) 1 (bcells [y]) w := Src.ofSlice _ Tryd.underlying48 _ _ _ _ rfl (fun j u hu => by
    cases j with
    | zero =>
      simp only [bcells, List.map_cons, List.map_nil, List.getElem?_cons_zero, Option.some.injEq] at hu
      rw [← hu]
      exact hc
    | succ j => simp [bcells] at hu) (bcells_one [y])
  obtain ⟨al', cl', w', hr, hA⟩ := run_append_1 (P := Tryd.prog) w 48 48 o.type base 5 i0 (.int .u8 0) 1 Tryd.underlying48 hi hz0 hz1 hz2 rfl ad l.length cap (bcells l) hown (.slice (some ⟨b, 0, none⟩) 1 c) 1 (bcells [y]) hS (by unfold maxLen; omega) (by omega) hbase
  rw [← bcells_app] at hA
  unfold Oper.wp execOp
  simp only [ho, resolve, invoke, builtin, Sem.run_bind, Sem.run_pure, Result.andThen_ok, List.map_toArray, List.map_cons, List.map_nil, hsl, hx, hr]
  refine next al' (l.length + 1) cl' w' rfl ?_ fun B W hB hBW => hBW.grown hA.grown (by omega) (fun g hg => ?_)
  · rw [Hid]; unfold OwnB; rw [List.length_append]; exact hA.own
  · have := (hown.lt g (by rw [ownBlock_slice]; exact hg)).1
    omega
end Go.Proofs.YtomgnnbcaficaaaDoor.L
