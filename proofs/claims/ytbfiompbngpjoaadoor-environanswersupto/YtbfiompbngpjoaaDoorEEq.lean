/-
  Contracts of slices.Equal and slices.Clone at []api.Var; conditions: at most 2^47 bytes.
-/
import Derived.Test.YtbfiompbngpjoaaDoorEMem
namespace Go.Proofs.YtbfiompbngpjoaaDoor.E
open Go.RowKit Go.Lib Go.Proofs.YtbfiompbngpjoaaDoor Go.Proofs.YtbfiompbngpjoaaDoor.W Go.Proofs.YtbfiompbngpjoaaDoor.Q Go.Proofs.YtbfiompbngpjoaaDoor.C

theorem bs_list (a : List UInt8) : (bs a).toList = a := by rw [ByteArray.toList_eq, data_bs]
theorem bs_beq (a b : List UInt8) : ((bs a).toList == (bs b).toList) = decide (a = b) := by
  rw [ByteArray.toList_eq, ByteArray.toList_eq, data_bs, data_bs]
  by_cases h : a = b
  · subst h; simp
  · rw [decide_eq_false h]
    exact beq_false_of_ne h
def Vr.eq (x y : Vr) : Bool := decide (x.name = y.name) && (decide (x.value = y.value) && (x.user == y.user && x.set == y.set))
theorem Vr.eq_iff (x y : Vr) : x.eq y = true ↔ x = y := by
  obtain ⟨a, b, c, d⟩ := x
  obtain ⟨a', b', c', d'⟩ := y
  simp [Vr.eq]
theorem Vr.eq_self (x : Vr) : x.eq x = true := (Vr.eq_iff x x).2 rfl
theorem Vr.run_eq (x y : Vr) (w : World) : (Op.equalIn 10000 30 x.val y.val).run Tryd.prog w = .ok (x.eq y) w := by
  have u3 := Tryd.underlying4
  have a3 := Tryd.isAgg4
  have z3 := Tryd.sizeOf4
  have u9 := Tryd.underlying9
  have a9 := Tryd.isAgg9
  have z9 := Tryd.sizeOf9
  have hS : Tryd.prog.underlying 30 = some (.struct (Tryd.prog.fieldsOf 30)) := by kernel_rfl
  have hp : Tryd.prog.stoodInHeld 30 = false := by kernel_rfl
  simp only [Vr.val]
  rw [show (10000 : Nat) = 9999 + 1 from rfl, run_equalIn_agg w 9999 30 _ _ hS hp]
  simp only [Program.fieldsOf, Tryd.underlying30]
  go_simp
  unfold Vr.eq
  by_cases h1 : x.name = y.name <;> by_cases h2 : x.value = y.value <;> by_cases h3 : x.user = y.user <;> by_cases h4 : x.set = y.set <;> simp [h1, h2, h3, h4, bs_list]

/-- where two lists part -/
def eqs (l m : List Vr) : Bool := decide (l.length = m.length) && decide (∀ k (h1 : k < l.length) (h2 : k < m.length), l[k].eq m[k] = true)
theorem eqs_self (l : List Vr) : eqs l l = true := by
  unfold eqs
  rw [decide_eq_true rfl, decide_eq_true (fun k h1 h2 => Vr.eq_self _)]
  rfl
theorem eqs_len {l m : List Vr} (h : l.length ≠ m.length) : eqs l m = false := by unfold eqs; rw [decide_eq_false h]; rfl
theorem eqs_at {l m : List Vr} (k : Nat) (h1 : k < l.length) (h2 : k < m.length) (h : l[k].eq m[k] = false) : eqs l m = false := by
  unfold eqs
  rw [decide_eq_false (p := ∀ k (h1 : k < l.length) (h2 : k < m.length), l[k].eq m[k] = true) (fun hh => by have := hh k h1 h2; rw [h] at this; cases this), Bool.and_false]
theorem eqs_all {l m : List Vr} (h : l.length = m.length) (ha : ∀ k (h1 : k < l.length) (h2 : k < m.length), l[k].eq m[k] = true) : eqs l m = true := by
  unfold eqs
  rw [decide_eq_true h, decide_eq_true ha]
  rfl

set_option maxHeartbeats 2000000 in
set_option maxRecDepth 100000 in
theorem Equal_try (w : World) (g1 o1 cap1 g2 o2 cap2 : Nat) (l m : List Vr) (h1 : ∀ k (h : k < l.length), Lie w g1 (o1 + k * 4) l[k]) (h2 : ∀ k (h : k < m.length), Lie w g2 (o2 + k * 4) m[k]) (hn : l.length ≤ 17592186044416) (he : l.length = m.length) :
    Calls Tryd.prog 11 #[.slice (some ⟨g1, o1, none⟩) l.length cap1, .slice (some ⟨g2, o2, none⟩) m.length cap2] w fun e w' => e = .returned (.bool (eqs l m)) ∧ ∃ q, w' = w.drewN q := by
  rw [← he]
  have HE := Hid.mk' he
  have H1 := Hid.mk' h1
  have H2 := Hid.mk' h2
  have HT : Hid ((∀ k (h1 : k < l.length) (h2 : k < m.length), l[k].eq m[k] = true) → eqs l m = true) := fun h => eqs_all he h
  have HF : Hid (∀ k (h1 : k < l.length) (h2 : k < m.length), l[k].eq m[k] = false → eqs l m = false) := fun k a b h => eqs_at k a b h
  clear he h1 h2
  generalize eqs l m = R at *
  go_enter Tryd.func11, Tryd.ntmps11
  go_wp2
  go_loopg [13] l.length (fun g s13 wr => ∃ k q : Nat, k ≤ l.length ∧ l.length - k ≤ g ∧ s13 = .int .i64 k ∧ wr = w.drewN q ∧ Hid (∀ j (h : j < k) (h1 : j < l.length) (h2 : j < m.length), l[j].eq m[j] = true))
  case atStart => exact ⟨0, 0, Nat.zero_le _, by omega, rfl, rfl, fun j h => absurd h (Nat.not_lt_zero _)⟩
  case round =>
    obtain ⟨k, q, hk, hg, rfl, rfl, HA⟩ := hrel
    by_cases hlt : k < l.length
    · have hlt2 : k < m.length := by have := HE.out; omega
      obtain ⟨a0, a1, a2, a3⟩ := H1.out k hlt
      obtain ⟨b0, b1, b2, b3⟩ := H2.out k hlt2
      have hne := fun W => Vr.run_eq l[k] m[k] W
      have HFk := Hid.mk' (HF.out k hlt hlt2)
      have HA2 : Hid (l[k].eq m[k] = true → ∀ j (h : j < k + 1) (h1 : j < l.length) (h2 : j < m.length), l[j].eq m[j] = true) := fun hh j hj p1 p2 => by
        by_cases e : j = k
        · subst e; exact hh
        · exact HA.out j (by omega) p1 p2
      simp only [Vr.val] at hne
      generalize l[k].eq m[k] = B at *
      generalize hwq : w.drewN q = wq
      have A0 : wq.cell? ⟨g1, o1 + k * 4, none⟩ = some (.string (bs l[k].name)) := by rw [← hwq]; exact a0
      have A1 : wq.cell? ⟨g1, o1 + k * 4 + 1, none⟩ = some (.string (bs l[k].value)) := by rw [← hwq]; exact a1
      have A2 : wq.cell? ⟨g1, o1 + k * 4 + 2, none⟩ = some (.bool l[k].user) := by rw [← hwq]; exact a2
      have A3 : wq.cell? ⟨g1, o1 + k * 4 + 3, none⟩ = some (.bool l[k].set) := by rw [← hwq]; exact a3
      have B0 : wq.cell? ⟨g2, o2 + k * 4, none⟩ = some (.string (bs m[k].name)) := by rw [← hwq]; exact b0
      have B1 : wq.cell? ⟨g2, o2 + k * 4 + 1, none⟩ = some (.string (bs m[k].value)) := by rw [← hwq]; exact b1
      have B2 : wq.cell? ⟨g2, o2 + k * 4 + 2, none⟩ = some (.bool m[k].user) := by rw [← hwq]; exact b2
      have B3 : wq.cell? ⟨g2, o2 + k * 4 + 3, none⟩ = some (.bool m[k].set) := by rw [← hwq]; exact b3
      have HQ := Hid.mk' hwq
      clear hwq a0 a1 a2 a3 b0 b1 b2 b3 H1 H2 HF HT HA
      generalize bs l[k].name = x0 at *
      generalize bs l[k].value = x1 at *
      generalize l[k].user = x2 at *
      generalize l[k].set = x3 at *
      generalize bs m[k].name = y0 at *
      generalize bs m[k].value = y1 at *
      generalize m[k].user = y2 at *
      generalize m[k].set = y3 at *
      cases B with
      | true =>
        have HA3 := Hid.mk' (HA2.out rfl)
        clear HA2 HFk
        go_wp2_with fail
        go_region
        all_goals
          go_wp2
          go_roundg (l.length - (k + 1))
          case measure => omega
          case rel =>
            exact ⟨k + 1, q + 1, by omega, by omega, by go_num, by rw [← HQ.out]; rfl, HA3⟩
      | false =>
        have eR : R = false := HFk.out rfl
        subst eR
        clear HA2 HFk
        go_wp2_with fail
        go_region
        all_goals
          go_wp2
          go_ret
          exact ⟨rfl, q + 1, by rw [← HQ.out]; rfl⟩
    · obtain rfl : k = l.length := by omega
      have eR : R = true := HT.out (fun j p1 p2 => HA.out j p1 p1 p2)
      subst eR
      clear hk hg hlt H1 H2 HF HT HA
      go_wp2
      go_ret
      exact ⟨rfl, q, rfl⟩

set_option maxHeartbeats 800000 in
theorem Equal_len (w : World) (a1 a2 : Option Addr) (n1 n2 c1 c2 : Nat) (hne : n1 ≠ n2) :
    Calls Tryd.prog 11 #[.slice a1 n1 c1, .slice a2 n2 c2] w fun e w' => e = .returned (.bool false) ∧ ∃ q, w' = w.drewN q := by
  have hb : ((n1 : Int) != (n2 : Int)) = true := by rw [bne_iff_ne]; omega
  clear hne
  go_enter Tryd.func11, Tryd.ntmps11
  go_wp2
  go_ret
  exact ⟨rfl, 0, rfl⟩
set_option maxHeartbeats 800000 in
theorem Equal_none (w : World) (a1 a2 : Option Addr) (c1 c2 : Nat) :
    Calls Tryd.prog 11 #[.slice a1 0 c1, .slice a2 0 c2] w fun e w' => e = .returned (.bool true) ∧ ∃ q, w' = w.drewN q := by
  go_enter Tryd.func11, Tryd.ntmps11
  go_wp2
  go_loop [13] (fun i => i = .int .i64 0) (fun _ => 0)
  case atStart => exact rfl
  case round =>
    subst hrel
    go_wp2
    go_ret
    exact ⟨rfl, 0, rfl⟩

theorem Equal_any (w : World) (v1 v2 : Value) (l m : List Vr) (h1 : RdV w v1 l) (h2 : RdV w v2 m) (hn : l.length ≤ 17592186044416) :
    Calls Tryd.prog 11 #[v1, v2] w fun e w' => e = .returned (.bool (eqs l m)) ∧ ∃ q, w' = w.drewN q := by
  obtain ⟨a1, c1, rfl, _, r1⟩ := h1
  obtain ⟨a2, c2, rfl, _, r2⟩ := h2
  by_cases hne : l.length = m.length
  · by_cases h0 : l.length = 0
    · have e1 : l = [] := List.length_eq_zero_iff.1 h0
      have e2 : m = [] := List.length_eq_zero_iff.1 (by omega)
      subst e1; subst e2
      rw [eqs_self]
      exact Equal_none w a1 a2 c1 c2
    · rcases r1 with rfl | ⟨b1, o1, rfl, t1, _⟩
      · exact absurd rfl h0
      rcases r2 with rfl | ⟨b2, o2, rfl, t2, _⟩
      · exact absurd hne h0
      exact Equal_try w b1 o1 _ b2 o2 _ l m t1 t2 hn hne
  · rw [eqs_len hne]
    exact Equal_len w a1 a2 _ _ c1 c2 hne

end Go.Proofs.YtbfiompbngpjoaaDoor.E
