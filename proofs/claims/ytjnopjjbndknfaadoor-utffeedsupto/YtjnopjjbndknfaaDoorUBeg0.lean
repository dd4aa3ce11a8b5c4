/-
  Plain laws: what may stand behind a beginning, by seven fillings; no condition.
-/
import Derived.Test.YtjnopjjbndknfaaDoorULaw3
import Derived.Lib.Repeat
namespace Go.Proofs.YtjnopjjbndknfaaDoor.U
open Go.Lib

def fills : List (List UInt8) := [[128], [191], [160, 128], [144, 128, 128], [159, 191], [143, 191, 191], [160, 191]]
def fill (j : Nat) : List UInt8 := fills.getD j []
def cand (L f : List UInt8) (n : Nat) : List UInt8 := (L ++ f ++ repeatL (f.drop (f.length - 1)) 4).take n

theorem fill_shape (j : Nat) (h : j < 7) : (fill j).length = 1 ∨ (fill j).length = 2 ∨ (fill j).length = 3 := by
  rcases (by omega : j = 0 ∨ j = 1 ∨ j = 2 ∨ j = 3 ∨ j = 4 ∨ j = 5 ∨ j = 6) with rfl | rfl | rfl | rfl | rfl | rfl | rfl <;> decide

theorem cand_len (L : List UInt8) (j n : Nat) (hj : j < 7) (hn : n ≤ 4) : (cand L (fill j) n).length = n := by
  have := fill_shape j hj
  unfold cand
  rw [List.length_take, List.length_append, List.length_append, repeatL_length, List.length_drop]
  omega

theorem cand_beg (L : List UInt8) (j n : Nat) (h0 : L ≠ []) (hj : j < 7) (hn : L.length < n) (hn4 : n ≤ 4) (h : whole (cand L (fill j) n) = true) : beg L = true := by
  have hl := cand_len L j n hj hn4
  have e : cand L (fill j) n = L ++ (fill j ++ repeatL ((fill j).drop ((fill j).length - 1)) 4).take (n - L.length) := by
    unfold cand
    rw [List.append_assoc, List.take_append, List.take_of_length_le (by omega)]
  rw [e] at h hl
  refine beg_of_whole L _ h0 (fun e2 => ?_) h
  rw [e2, List.append_nil] at hl
  omega

theorem beg_cand (L : List UInt8) (h : beg L = true) : ∃ n j, L.length < n ∧ n ≤ 4 ∧ j < 7 ∧ whole (cand L (fill j) n) = true := by
  match L, h with
  | [a], h =>
    simp only [beg, decide_eq_true_eq] at h
    have hz := sz_cases a.toNat
    by_cases h2 : sz a.toNat = 2
    · refine ⟨2, 0, by simp, by omega, by omega, ?_⟩
      have e : cand [a] (fill 0) 2 = [a, 128] := rfl
      have hr := sz_two h2
      rw [e, whole_more (by simp)]
      have e0 : nth [a, 128] 0 = a.toNat := rfl
      have e1 : nth [a, 128] 1 = 128 := rfl
      rw [e0, e1]
      unfold lo hi
      rw [if_neg (by omega), if_neg (by omega), if_neg (by omega), if_neg (by omega)]
      simp [h2]
    by_cases h3 : sz a.toNat = 3
    · have hr := sz_three h3
      by_cases ha : a.toNat = 224
      · refine ⟨3, 2, by simp, by omega, by omega, ?_⟩
        have e : cand [a] (fill 2) 3 = [a, 160, 128] := rfl
        rw [e, whole_more (by simp)]
        have e0 : nth [a, 160, 128] 0 = a.toNat := rfl
        have e1 : nth [a, 160, 128] 1 = 160 := rfl
        have e2 : nth [a, 160, 128] 2 = 128 := rfl
        rw [e0, e1, e2]
        unfold lo hi
        rw [if_pos (by omega), if_neg (by omega), if_neg (by omega)]
        simp [h3]
      · refine ⟨3, 0, by simp, by omega, by omega, ?_⟩
        have e : cand [a] (fill 0) 3 = [a, 128, 128] := rfl
        rw [e, whole_more (by simp)]
        have e0 : nth [a, 128, 128] 0 = a.toNat := rfl
        have e1 : nth [a, 128, 128] 1 = 128 := rfl
        have e2 : nth [a, 128, 128] 2 = 128 := rfl
        rw [e0, e1, e2]
        have hlo : lo a.toNat = 128 := by unfold lo; rw [if_neg ha, if_neg (by omega)]
        have hhi : 128 ≤ hi a.toNat := by unfold hi; (repeat' split) <;> omega
        simp [h3, hlo, hhi]
    · have h4 : sz a.toNat = 4 := by omega
      have hr := sz_four h4
      by_cases ha : a.toNat = 240
      · refine ⟨4, 3, by simp, by omega, by omega, ?_⟩
        have e : cand [a] (fill 3) 4 = [a, 144, 128, 128] := rfl
        rw [e, whole_more (by simp)]
        have e0 : nth [a, 144, 128, 128] 0 = a.toNat := rfl
        have e1 : nth [a, 144, 128, 128] 1 = 144 := rfl
        have e2 : nth [a, 144, 128, 128] 2 = 128 := rfl
        have e3 : nth [a, 144, 128, 128] 3 = 128 := rfl
        rw [e0, e1, e2, e3]
        unfold lo hi
        rw [if_neg (by omega), if_pos (by omega), if_neg (by omega), if_neg (by omega)]
        simp [h4]
      · refine ⟨4, 0, by simp, by omega, by omega, ?_⟩
        have e : cand [a] (fill 0) 4 = [a, 128, 128, 128] := rfl
        rw [e, whole_more (by simp)]
        have e0 : nth [a, 128, 128, 128] 0 = a.toNat := rfl
        have e1 : nth [a, 128, 128, 128] 1 = 128 := rfl
        have e2 : nth [a, 128, 128, 128] 2 = 128 := rfl
        have e3 : nth [a, 128, 128, 128] 3 = 128 := rfl
        rw [e0, e1, e2, e3]
        have hlo : lo a.toNat = 128 := by unfold lo; rw [if_neg (by omega), if_neg ha]
        have hhi : 128 ≤ hi a.toNat := by unfold hi; (repeat' split) <;> omega
        simp [h4, hlo, hhi]
  | [a, b], h =>
    simp only [beg, decide_eq_true_eq] at h
    by_cases h3 : sz a.toNat = 3
    · refine ⟨3, 0, by simp, by omega, by omega, ?_⟩
      have e : cand [a, b] (fill 0) 3 = [a, b, 128] := rfl
      rw [e, whole_more (by simp)]
      have e0 : nth [a, b, 128] 0 = a.toNat := rfl
      have e1 : nth [a, b, 128] 1 = b.toNat := rfl
      have e2 : nth [a, b, 128] 2 = 128 := rfl
      rw [e0, e1, e2]
      simp [h3, h.2.1, h.2.2]
    · have h4 : sz a.toNat = 4 := by have := sz_cases a.toNat; omega
      refine ⟨4, 0, by simp, by omega, by omega, ?_⟩
      have e : cand [a, b] (fill 0) 4 = [a, b, 128, 128] := rfl
      rw [e, whole_more (by simp)]
      have e0 : nth [a, b, 128, 128] 0 = a.toNat := rfl
      have e1 : nth [a, b, 128, 128] 1 = b.toNat := rfl
      have e2 : nth [a, b, 128, 128] 2 = 128 := rfl
      have e3 : nth [a, b, 128, 128] 3 = 128 := rfl
      rw [e0, e1, e2, e3]
      simp [h4, h.2.1, h.2.2]
  | [a, b, c], h =>
    simp only [beg, decide_eq_true_eq] at h
    have h4 : sz a.toNat = 4 := by have := sz_cases a.toNat; omega
    refine ⟨4, 0, by simp, by omega, by omega, ?_⟩
    have e : cand [a, b, c] (fill 0) 4 = [a, b, c, 128] := rfl
    rw [e, whole_more (by simp)]
    have e0 : nth [a, b, c, 128] 0 = a.toNat := rfl
    have e1 : nth [a, b, c, 128] 1 = b.toNat := rfl
    have e2 : nth [a, b, c, 128] 2 = c.toNat := rfl
    have e3 : nth [a, b, c, 128] 3 = 128 := rfl
    rw [e0, e1, e2, e3]
    simp [h4, h.2.1, h.2.2.1, h.2.2.2.1, h.2.2.2.2]

end Go.Proofs.YtjnopjjbndknfaaDoor.U
