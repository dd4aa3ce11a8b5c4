/-
  Contract of slices.Equal at []api.Tok: over rows that the call owns it tells whether the two lists of tokens are one; conditions: at most 1000000000 tokens each.
-/
import Derived.Test.YtmcoliblkkploaaDoorFeed
import Derived.BigQuiet
import Derived.Deep.LoopGhost
import Derived.Deep.Draws
namespace Go.Proofs.YtmcoliblkkploaaDoor
open Go.RowKit

def Tk.eqs : List Tk → List Tk → Bool
  | [], [] => true
  | x :: l, y :: m => x.eq y && Tk.eqs l m
  | _, _ => false

theorem Tk.eqs_len : ∀ l m : List Tk, l.length ≠ m.length → Tk.eqs l m = false
  | [], [], h => absurd rfl h
  | [], _ :: _, _ => rfl
  | _ :: _, [], _ => rfl
  | x :: l, y :: m, h => by rw [Tk.eqs, Tk.eqs_len l m (fun e => h (by simp [e])), Bool.and_false]
theorem Tk.eqs_at : ∀ (l m : List Tk) (k : Nat) (h1 : k < l.length) (h2 : k < m.length), l[k].eq m[k] = false → Tk.eqs l m = false
  | x :: l, y :: m, 0, _, _, h => by rw [Tk.eqs]; simp only [List.getElem_cons_zero] at h; rw [h, Bool.false_and]
  | x :: l, y :: m, k + 1, h1, h2, h => by
    rw [Tk.eqs, Tk.eqs_at l m k (by simpa using h1) (by simpa using h2) (by simpa using h), Bool.and_false]
theorem Tk.eqs_all : ∀ (l m : List Tk), l.length = m.length → (∀ k (h1 : k < l.length) (h2 : k < m.length), l[k].eq m[k] = true) → Tk.eqs l m = true
  | [], [], _, _ => rfl
  | x :: l, y :: m, e, h => by
    rw [Tk.eqs, Tk.eqs_all l m (by simpa using e) fun k h1 h2 => by have := h (k + 1) (by simpa using h1) (by simpa using h2); simpa using this]
    have := h 0 (by simp) (by simp)
    simpa using this
theorem Tk.eq_iff (x y : Tk) : x.eq y = true ↔ x = y := by
  obtain ⟨a, b, c, d⟩ := x
  obtain ⟨a', b', c', d'⟩ := y
  simp [Tk.eq]
theorem Tk.eqs_iff : ∀ l m : List Tk, Tk.eqs l m = true ↔ l = m
  | [], [] => by simp [Tk.eqs]
  | [], _ :: _ => by simp [Tk.eqs]
  | _ :: _, [] => by simp [Tk.eqs]
  | x :: l, y :: m => by simp [Tk.eqs, Tk.eq_iff, Tk.eqs_iff l m]

theorem tsCells_length (l : List Tk) : (tsCells l).length = l.length * 4 := by
  induction l with
  | nil => rfl
  | cons t l ih =>
    have e : tsCells (t :: l) = tcells t ++ tsCells l := by simp [tsCells]
    rw [e, List.length_append, ih]
    simp [tcells]; omega

theorem tsCells_at : ∀ (l : List Tk) (k : Nat) (hk : k < l.length) (i : Nat), i < 4 → (tsCells l)[k * 4 + i]? = (tcells l[k])[i]?
  | [], k, hk, _, _ => absurd hk (Nat.not_lt_zero _)
  | t :: l, 0, _, i, hi => by
    simp only [tsCells, List.flatMap_cons, Nat.zero_mul, Nat.zero_add, List.getElem_cons_zero]
    rw [List.getElem?_append_left (by simp [tcells]; omega)]
  | t :: l, k + 1, hk, i, hi => by
    have ih := tsCells_at l k (by simpa using hk) i hi
    simp only [tsCells, List.flatMap_cons, List.getElem_cons_succ] at *
    rw [List.getElem?_append_right (by simp [tcells]; omega)]
    rw [show (k + 1) * 4 + i - (tcells t).length = k * 4 + i by simp [tcells]; omega]
    exact ih

theorem OwnR.tok {w : World} {base : Nat} {g n cap : Nat} {l : List Tk} (h : OwnR w base 34 4 (.slice (some ⟨g, 0, none⟩) n cap) l.length (tsCells l)) (k : Nat) (hk : k < l.length) :
    w.cell? ⟨g, k * 4, none⟩ = some (.int .i64 l[k].kind) ∧ w.cell? ⟨g, k * 4 + 1, none⟩ = some (.int .i64 l[k].cmd) ∧ w.cell? ⟨g, k * 4 + 2, none⟩ = some (.int .i64 l[k].opt) ∧ w.cell? ⟨g, k * 4 + 3, none⟩ = some (.string ⟨l[k].data.toArray⟩) := by
  have c := fun i hi => tsCells_at l k hk i hi
  have a := fun j u hu => h.cells (g := g) rfl j u hu
  have hadd : ∀ j, (⟨g, 0, none⟩ : Addr).add j = ⟨g, j, none⟩ := fun j => by unfold Addr.add; split <;> simp_all
  simp only [hadd] at a
  exact ⟨a _ _ ((c 0 (by omega)).trans rfl), a _ _ ((c 1 (by omega)).trans rfl), a _ _ ((c 2 (by omega)).trans rfl), a _ _ ((c 3 (by omega)).trans rfl)⟩

set_option maxHeartbeats 2000000 in
set_option maxRecDepth 100000 in
theorem Equal_try (w : World) (g1 cap1 g2 cap2 : Nat) (l m : List Tk) (base : Nat) (h1 : OwnR w base 34 4 (.slice (some ⟨g1, 0, none⟩) l.length cap1) l.length (tsCells l)) (h2 : OwnR w base 34 4 (.slice (some ⟨g2, 0, none⟩) m.length cap2) m.length (tsCells m)) (hn : l.length ≤ 1000000000) (he : l.length = m.length) :
    Calls Tryd.prog 13 #[.slice (some ⟨g1, 0, none⟩) l.length cap1, .slice (some ⟨g2, 0, none⟩) m.length cap2] w fun e w' => e = .returned (.bool (Tk.eqs l m)) ∧ ∃ q, w' = w.drewN q := by
  rw [← he]
  have HE := Hid.mk' he
  clear he
  go_enter Tryd.func13, Tryd.ntmps13
  go_wp2
  go_loopg [13] l.length (fun g s13 wr => ∃ k q : Nat, k ≤ l.length ∧ l.length - k ≤ g ∧ s13 = .int .i64 k ∧ wr = w.drewN q ∧ Hid (∀ j (h : j < k) (h1 : j < l.length) (h2 : j < m.length), l[j].eq m[j] = true))
  case atStart => exact ⟨0, 0, Nat.zero_le _, by omega, rfl, rfl, fun j h => absurd h (Nat.not_lt_zero _)⟩
  case round =>
    obtain ⟨k, q, hk, hg, rfl, rfl, HA⟩ := hrel
    by_cases hlt : k < l.length
    · have hlt2 : k < m.length := by have := HE.out; omega
      obtain ⟨a0, a1, a2, a3⟩ := h1.tok k hlt
      obtain ⟨b0, b1, b2, b3⟩ := h2.tok k hlt2
      have hne := fun W => Tk.run_eq l[k] m[k] W
      simp only [Tk.val] at hne
      have hcase : ∀ B, B = l[k].eq m[k] → Hid (B = l[k].eq m[k]) := fun B h => h
      generalize hB : l[k].eq m[k] = B at hne
      have HBB := hcase B hB.symm
      clear hcase hB
      generalize hwq : w.drewN q = wq
      have A0 : wq.cell? ⟨g1, k * 4, none⟩ = some (.int .i64 l[k].kind) := by rw [← hwq]; exact a0
      have A1 : wq.cell? ⟨g1, k * 4 + 1, none⟩ = some (.int .i64 l[k].cmd) := by rw [← hwq]; exact a1
      have A2 : wq.cell? ⟨g1, k * 4 + 2, none⟩ = some (.int .i64 l[k].opt) := by rw [← hwq]; exact a2
      have A3 : wq.cell? ⟨g1, k * 4 + 3, none⟩ = some (.string ⟨l[k].data.toArray⟩) := by rw [← hwq]; exact a3
      have B0 : wq.cell? ⟨g2, k * 4, none⟩ = some (.int .i64 m[k].kind) := by rw [← hwq]; exact b0
      have B1 : wq.cell? ⟨g2, k * 4 + 1, none⟩ = some (.int .i64 m[k].cmd) := by rw [← hwq]; exact b1
      have B2 : wq.cell? ⟨g2, k * 4 + 2, none⟩ = some (.int .i64 m[k].opt) := by rw [← hwq]; exact b2
      have B3 : wq.cell? ⟨g2, k * 4 + 3, none⟩ = some (.string ⟨m[k].data.toArray⟩) := by rw [← hwq]; exact b3
      have HQ := Hid.mk' hwq
      clear hwq a0 a1 a2 a3 b0 b1 b2 b3 h1 h2
      generalize l[k].kind = x0 at *
      generalize l[k].cmd = x1 at *
      generalize l[k].opt = x2 at *
      generalize l[k].data = x3 at *
      generalize m[k].kind = y0 at *
      generalize m[k].cmd = y1 at *
      generalize m[k].opt = y2 at *
      generalize m[k].data = y3 at *
      cases B with
      | true =>
        go_wp2_with fail
        go_region
        all_goals
          go_wp2
          go_roundg (l.length - (k + 1))
          case measure => omega
          case rel =>
            refine ⟨k + 1, q + 1, by omega, by omega, by go_num, by rw [← HQ.out]; rfl, fun j hj p1 p2 => ?_⟩
            by_cases e : j = k
            · subst e
              exact HBB.out.symm
            · exact HA.out j (by omega) p1 p2
      | false =>
        go_wp2_with fail
        go_region
        all_goals
          go_wp2
          go_ret
          refine ⟨?_, q + 1, by rw [← HQ.out]; rfl⟩
          rw [Tk.eqs_at l m k hlt hlt2 HBB.out.symm]
          rfl
    · obtain rfl : k = l.length := by omega
      clear hk hg hlt h1 h2
      go_wp2
      go_ret
      refine ⟨?_, q, rfl⟩
      rw [Tk.eqs_all l m HE.out fun j p1 p2 => HA.out j p1 p1 p2]
      rfl

set_option maxHeartbeats 800000 in
theorem Equal_len (w : World) (a1 a2 : Option Addr) (n1 n2 c1 c2 : Nat) (_hn1 : n1 ≤ 1000000000) (_hn2 : n2 ≤ 1000000000) (hne : n1 ≠ n2) :
    Calls Tryd.prog 13 #[.slice a1 n1 c1, .slice a2 n2 c2] w fun e w' => e = .returned (.bool false) ∧ ∃ q, w' = w.drewN q := by
  have hb : ((n1 : Int) != (n2 : Int)) = true := by rw [bne_iff_ne]; omega
  clear hne
  go_enter Tryd.func13, Tryd.ntmps13
  go_wp2
  go_ret
  exact ⟨rfl, 0, rfl⟩
set_option maxHeartbeats 800000 in
theorem Equal_none (w : World) (a1 a2 : Option Addr) (c1 c2 : Nat) :
    Calls Tryd.prog 13 #[.slice a1 0 c1, .slice a2 0 c2] w fun e w' => e = .returned (.bool true) ∧ ∃ q, w' = w.drewN q := by
  go_enter Tryd.func13, Tryd.ntmps13
  go_wp2
  go_loop [13] (fun i => i = .int .i64 0) (fun _ => 0)
  case atStart => exact rfl
  case round =>
    subst hrel
    go_wp2
    go_ret
    exact ⟨rfl, 0, rfl⟩

theorem Equal_any (w : World) (v1 v2 : Value) (l m : List Tk) (base1 base2 : Nat) (h1 : OwnR w base1 34 4 v1 l.length (tsCells l)) (h2 : OwnR w base2 34 4 v2 m.length (tsCells m)) (hn : l.length ≤ 1000000000) (hm : m.length ≤ 1000000000) :
    Calls Tryd.prog 13 #[v1, v2] w fun e w' => e = .returned (.bool (Tk.eqs l m)) ∧ ∃ q, w' = w.drewN q := by
  obtain ⟨a1, c1, rfl⟩ : ∃ a c, v1 = .slice a l.length c := by
    rcases h1.form with ⟨rfl, e⟩ | ⟨g, cap, rfl, _⟩
    · exact ⟨none, 0, by rw [e]⟩
    · exact ⟨_, _, rfl⟩
  obtain ⟨a2, c2, rfl⟩ : ∃ a c, v2 = .slice a m.length c := by
    rcases h2.form with ⟨rfl, e⟩ | ⟨g, cap, rfl, _⟩
    · exact ⟨none, 0, by rw [e]⟩
    · exact ⟨_, _, rfl⟩
  by_cases hne : l.length = m.length
  · by_cases h0 : l.length = 0
    · have e1 : l = [] := List.length_eq_zero_iff.1 h0
      have e2 : m = [] := List.length_eq_zero_iff.1 (by omega)
      subst e1; subst e2
      exact Equal_none w a1 a2 c1 c2
    · rcases h1.form with ⟨_, e⟩ | ⟨g, cap, e1, _⟩
      · exact absurd e h0
      rcases h2.form with ⟨_, e⟩ | ⟨g', cap', e2, _⟩
      · omega
      simp only [Value.slice.injEq, true_and] at e1 e2
      obtain ⟨rfl, rfl⟩ := e1
      obtain ⟨rfl, rfl⟩ := e2
      exact Equal_try w g _ g' _ l m (min base1 base2) (h1.mono (Nat.min_le_left _ _)) (h2.mono (Nat.min_le_right _ _)) hn hne
  · rw [Tk.eqs_len l m hne]
    exact Equal_len w a1 a2 _ _ c1 c2 hn hm hne
end Go.Proofs.YtmcoliblkkploaaDoor
