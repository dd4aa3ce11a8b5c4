/-
  Contracts of slices.Index and slices.Contains at []api.Var, where the variable is among them; condition: at most 2^44 variables.
-/
import Derived.Test.YtbfiompbngpjoaaEAns
namespace Go.Proofs.Ytbfiompbngpjoaa.E
open Go.RowKit Go.Lib Go.Proofs.Ytbfiompbngpjoaa Go.Proofs.Ytbfiompbngpjoaa.W Go.Proofs.Ytbfiompbngpjoaa.Q Go.Proofs.Ytbfiompbngpjoaa.C

set_option maxHeartbeats 4000000 in
set_option maxRecDepth 100000 in
theorem Index_mem (w : World) (v : Value) (l : List Vr) (x : Vr) (hv : RdV w v l) (hn : l.length ≤ 17592186044416) (hx : x ∈ l) :
    Calls Try.prog 20 #[v, .agg #[.string (bs x.name), .string (bs x.value), .bool x.user, .bool x.set]] w fun e w' => ∃ k : Nat, e = .returned (.int .i64 (k : Int)) ∧ Below w.heap.size w w' := by
  have HN : Hid ((∀ a (h : a < l.length), x.eq l[a] = false) → False) := fun h => by
    obtain ⟨k, hk, e⟩ := List.mem_iff_getElem.1 hx
    have := h k hk
    rw [e, Vr.eq_self] at this
    cases this
  have HEQ := Hid.mk' (fun (k : Nat) (h : k < l.length) W => Vr.run_eq x l[k] W)
  simp only [Vr.val] at HEQ
  obtain ⟨a, c, rfl, hc, hr⟩ := hv
  clear hx
  go_enter Try.func20, Try.ntmps20
  go_wp2_with (refine wpList_box [.string (bs x.name), .string (bs x.value), .bool x.user, .bool x.set] 30 rfl _ rfl rfl ?_)
  intro w1 m1
  have hlt1 := m1.lt
  have HB1 := Hid.mk' (m1.below _ _ (Nat.le_refl _) (Below.refl _ w))
  have HX1 := Hid.mk' m1.box
  clear m1
  go_wp2_with fail
  go_loopg [8] l.length (fun g s8 wr => ∃ k q : Nat, k ≤ l.length ∧ l.length - k ≤ g ∧ s8 = .int .i64 k ∧ wr = w1.drewN q ∧ Hid (∀ j (h : j < k) (h1 : j < l.length), x.eq l[j] = false))
  case atStart => exact ⟨0, 0, Nat.zero_le _, by omega, rfl, rfl, fun j h => absurd h (Nat.not_lt_zero _)⟩
  case round =>
    obtain ⟨k, q, hk, hg, rfl, rfl, HA⟩ := hrel
    by_cases hlt : k < l.length
    · rcases hr with h0 | ⟨b, o, rfl, t, hb⟩
      · subst h0; simp at hlt
      obtain ⟨a0, a1, a2, a3⟩ := (t k hlt).below HB1.out hb
      have b0 := HX1.out.cell (j := 0) rfl
      have b1 := HX1.out.cell (j := 1) rfl
      have b2 := HX1.out.cell (j := 2) rfl
      have b3 := HX1.out.cell (j := 3) rfl
      have hne := HEQ.out k hlt
      have HA2 : Hid (x.eq l[k] = false → ∀ j (h : j < k + 1) (h1 : j < l.length), x.eq l[j] = false) := fun hh j hj p1 => by
        by_cases e : j = k
        · subst e; exact hh
        · exact HA.out j (by omega) p1
      generalize x.eq l[k] = B at *
      generalize hwq : w1.drewN q = wq
      have A0 : wq.cell? ⟨b, o + k * 4, none⟩ = some (.string (bs l[k].name)) := by rw [← hwq]; exact a0
      have A1 : wq.cell? ⟨b, o + k * 4 + 1, none⟩ = some (.string (bs l[k].value)) := by rw [← hwq]; exact a1
      have A2 : wq.cell? ⟨b, o + k * 4 + 2, none⟩ = some (.bool l[k].user) := by rw [← hwq]; exact a2
      have A3 : wq.cell? ⟨b, o + k * 4 + 3, none⟩ = some (.bool l[k].set) := by rw [← hwq]; exact a3
      have B0 : wq.cell? ⟨w.heap.size, 0, none⟩ = some (.string (bs x.name)) := by rw [← hwq]; exact b0
      have B1 : wq.cell? ⟨w.heap.size, 1, none⟩ = some (.string (bs x.value)) := by rw [← hwq]; exact b1
      have B2 : wq.cell? ⟨w.heap.size, 2, none⟩ = some (.bool x.user) := by rw [← hwq]; exact b2
      have B3 : wq.cell? ⟨w.heap.size, 3, none⟩ = some (.bool x.set) := by rw [← hwq]; exact b3
      have HQ := Hid.mk' hwq
      have HBQ : Hid (Below w.heap.size w wq.drew) := by rw [← hwq]; exact (below_drewN HB1.out q).drew
      clear hwq a0 a1 a2 a3 b0 b1 b2 b3 HEQ HA t
      generalize bs l[k].name = x0 at *
      generalize bs l[k].value = x1 at *
      generalize l[k].user = x2 at *
      generalize l[k].set = x3 at *
      generalize bs x.name = y0 at *
      generalize bs x.value = y1 at *
      generalize x.user = y2 at *
      generalize x.set = y3 at *
      cases B with
      | true =>
        clear HA2 HN
        go_wp2_with fail
        go_region
        all_goals
          go_wp2
          go_ret
          exact ⟨k, rfl, HBQ.out⟩
      | false =>
        have HA3 := Hid.mk' (HA2.out rfl)
        clear HA2 HN
        go_wp2_with fail
        go_region
        all_goals
          go_wp2
          go_roundg (l.length - (k + 1))
          case measure => omega
          case rel => exact ⟨k + 1, q + 1, by omega, by omega, by go_num, by rw [← HQ.out]; rfl, HA3⟩
    · obtain rfl : k = l.length := by omega
      exact (HN.out (fun j p1 => HA.out j p1 p1)).elim

set_option maxHeartbeats 4000000 in
set_option maxRecDepth 100000 in
theorem Contains_mem (w : World) (v : Value) (l : List Vr) (x : Vr) (hv : RdV w v l) (hn : l.length ≤ 17592186044416) (hx : x ∈ l) :
    Calls Try.prog 13 #[v, .agg #[.string (bs x.name), .string (bs x.value), .bool x.user, .bool x.set]] w fun e w' => e = .returned (.bool true) ∧ Below w.heap.size w w' := by
  have HI : Hid (∀ W, Below w.heap.size w W → Calls Try.prog 20 #[v, .agg #[.string (bs x.name), .string (bs x.value), .bool x.user, .bool x.set]] W fun e w' => ∃ k : Nat, e = .returned (.int .i64 (k : Int)) ∧ Below W.heap.size W w') := fun W h => Index_mem W v l x (hv.below h (Nat.le_refl _)) hn hx
  generalize bs x.name = y0 at *
  generalize bs x.value = y1 at *
  generalize x.user = y2 at *
  generalize x.set = y3 at *
  obtain ⟨a, c, rfl, hc, hr⟩ := hv
  clear hr
  go_enter Try.func13, Try.ntmps13
  go_wp2_with (refine wpList_box [.string y0, .string y1, .bool y2, .bool y3] 30 rfl _ rfl rfl ?_)
  intro w1 m1
  have hlt1 := m1.lt
  have HB1 := Hid.mk' (m1.below _ _ (Nat.le_refl _) (Below.refl _ w))
  have b0 := m1.box.cell (j := 0) rfl
  have b1 := m1.box.cell (j := 1) rfl
  have b2 := m1.box.cell (j := 2) rfl
  have b3 := m1.box.cell (j := 3) rfl
  clear m1
  go_wp2_with fail
  refine (HI.out w1 HB1.out).mono ?_
  rintro e w2 ⟨k, rfl, hb2⟩
  have HB2 := Hid.mk' (HB1.out.trans (hb2.mono HB1.out.size))
  have hk : (0 : Int) ≤ (k : Int) := by omega
  clear hb2 HI
  generalize (k : Int) = ki at *
  go_wp2
  go_ret
  exact ⟨rfl, HB2.out⟩
end Go.Proofs.Ytbfiompbngpjoaa.E
