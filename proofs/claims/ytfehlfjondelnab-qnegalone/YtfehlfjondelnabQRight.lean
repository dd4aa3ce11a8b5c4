/-
  Contracts of the document's side: farref.Between and NegRight: whatever the arguments.
-/
import Derived.Test.YtfehlfjondelnabQCheck
namespace Go.Proofs.Ytfehlfjondelnab.Q
open Go.RowKit Go.Proofs.Ytfehlfjondelnab

def btw (x a b : Int) : Bool := decide (a ≤ x ∧ x ≤ b)
set_option maxHeartbeats 1000000 in
theorem Between_any (x a b : Int) (w : World) : Calls Try.prog 21 #[.int .i64 x, .int .i64 a, .int .i64 b] w fun e w' => e = .returned (.bool (btw x a b)) ∧ w' = w := by
  unfold btw
  by_cases h1 : a ≤ x
  · by_cases h2 : x ≤ b
    · rw [decide_eq_true ⟨h1, h2⟩]
      go_enter Try.func21, Try.ntmps21
      go_wp2
      go_ret
      exact ⟨rfl, rfl⟩
    · rw [decide_eq_false (fun h => h2 h.2)]
      go_enter Try.func21, Try.ntmps21
      go_wp2
      go_ret
      exact ⟨rfl, rfl⟩
  · rw [decide_eq_false (fun h => h1 h.1)]
    go_enter Try.func21, Try.ntmps21
    go_wp2
    go_ret
    exact ⟨rfl, rfl⟩

theorem bt_yes {s : Int} (h0 : 0 ≤ s) (h : s ≤ 5) : btw s 0 5 = true := decide_eq_true ⟨h0, h⟩
theorem bt_no {s : Int} (h : 5 < s) : btw s 0 5 = false := decide_eq_false (by omega)

set_option maxHeartbeats 4000000 in
theorem NegRight_any (l : List Value) (hl : NegL l) (w : World) :
    Calls Try.prog 9 #[.agg l.toArray] w fun e w' => e = .returned (.int .i64 (if right l = true then 0 else 4)) ∧ Below w.heap.size w w' := by
  have HS := Hid.mk' (fun x w => Between_any x 0 5 w)
  have HL := Hid.mk' hl
  have HY : Hid (∀ j, j < 512 → 5 < st l j → (if right l = true then (0 : Int) else 4) = 4) := fun j hj h => by rw [right_no hj h]; rfl
  have HN : Hid ((∀ j, j < 256 → st l j ≤ 5 ∧ st l (256 + j) ≤ 5) → (if right l = true then (0 : Int) else 4) = 0) := fun h => by rw [right_mk h]; rfl
  generalize (if right l = true then (0 : Int) else 4) = R at *
  clear hl
  go_enter Try.func9, Try.ntmps9
  go_wp2_with (refine wpList_box l 31 rfl _ rfl rfl ?_)
  intro w1 m1
  have HM := Hid.mk' m1
  have HL1 := Hid.mk' (m1.below _ _ (Nat.le_refl _) (Below.refl _ w))
  clear m1
  go_wp2_with fail
  go_loopw [4] (fun s4 wr => ∃ k : Nat, k ≤ 256 ∧ s4 = .int .i64 (k : Int) ∧ (∀ j, j < k → st l j ≤ 5 ∧ st l (256 + j) ≤ 5) ∧ wr = w1) (fun i _ => 256 - (RowKit.intOf i).toNat)
  case atStart => exact ⟨0, Nat.zero_le _, rfl, fun a h => absurd h (Nat.not_lt_zero a), rfl⟩
  case round =>
    obtain ⟨k, hk, rfl, hno, rfl⟩ := hrel
    have HO := Hid.mk' hno
    clear hno
    by_cases hlt : k < 256
    · have k0 : (0 : Int) ≤ (k : Int) := by omega
      have k1 : (k : Int) < 256 := by omega
      obtain ⟨c1, a0, a1⟩ := HL.out.byte (show k < 512 by omega)
      obtain ⟨c2, b0, b1⟩ := HL.out.byte (show 256 + k < 512 by omega)
      have e1 := HM.out.box.cell c1
      have e2 := HM.out.box.cell c2
      clear c1 c2
      by_cases h1 : st l k ≤ 5
      · by_cases h2 : st l (256 + k) ≤ 5
        · have H1 := Hid.mk' (HS.out (st l k) wr)
          have H2 := Hid.mk' (HS.out (st l (256 + k)) wr)
          rw [bt_yes a0 h1] at H1
          rw [bt_yes b0 h2] at H2
          have HO2 : Hid (∀ j, j < k + 1 → st l j ≤ 5 ∧ st l (256 + j) ≤ 5) := fun j hj => by
            by_cases e : j = k
            · subst e; exact ⟨h1, h2⟩
            · exact HO.out j (by omega)
          clear HY HN HS HO h1 h2
          generalize st l k = x at *
          generalize st l (256 + k) = y at *
          go_wp2_with fail
          refine H1.out.mono ?_
          rintro e w2 ⟨rfl, rfl⟩
          go_wp2_with fail
          refine H2.out.mono ?_
          rintro e w2 ⟨rfl, rfl⟩
          go_wp2
          go_roundw
          case rel => exact ⟨k + 1, by omega, by go_num, HO2.out, trivial⟩
          case measure => simp [RowKit.intOf]; omega
        · have e : R = 4 := HY.out (256 + k) (by omega) (by omega)
          subst e
          have H1 := Hid.mk' (HS.out (st l k) wr)
          have H2 := Hid.mk' (HS.out (st l (256 + k)) wr)
          rw [bt_yes a0 h1] at H1
          rw [bt_no (by omega)] at H2
          clear HY HN HS HO h1 h2
          generalize st l k = x at *
          generalize st l (256 + k) = y at *
          go_wp2_with fail
          refine H1.out.mono ?_
          rintro e w2 ⟨rfl, rfl⟩
          go_wp2_with fail
          refine H2.out.mono ?_
          rintro e w2 ⟨rfl, rfl⟩
          go_wp2
          go_ret
          exact ⟨rfl, HL1.out⟩
      · have e : R = 4 := HY.out k (by omega) (by omega)
        subst e
        have H1 := Hid.mk' (HS.out (st l k) wr)
        rw [bt_no (by omega)] at H1
        clear HY HN HS HO h1
        generalize st l k = x at *
        go_wp2_with fail
        refine H1.out.mono ?_
        rintro e w2 ⟨rfl, rfl⟩
        go_wp2
        go_ret
        exact ⟨rfl, HL1.out⟩
    · obtain rfl : k = 256 := by omega
      have e : R = 0 := HN.out HO.out
      subst e
      clear HY HN HS HO
      go_wp2
      go_ret
      exact ⟨rfl, HL1.out⟩

end Go.Proofs.Ytfehlfjondelnab.Q
