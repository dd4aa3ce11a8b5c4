/-
  Plain laws: what stands at the front, by trying the first bytes, one to four; no condition.
-/
import Derived.Test.YtjnopjjbndknfaaDoorULaw3
namespace Go.Proofs.YtjnopjjbndknfaaDoor.U
open Go.Lib

def wl (s : List UInt8) : Nat :=
  if 1 ≤ s.length ∧ whole (s.take 1) = true then 1 else if 2 ≤ s.length ∧ whole (s.take 2) = true then 2
  else if 3 ≤ s.length ∧ whole (s.take 3) = true then 3 else if 4 ≤ s.length ∧ whole (s.take 4) = true then 4 else 0
def bl (s : List UInt8) : Nat :=
  if 3 ≤ s.length ∧ beg (s.take 3) = true then 3 else if 2 ≤ s.length ∧ beg (s.take 2) = true then 2 else if 1 ≤ s.length ∧ beg (s.take 1) = true then 1 else 0

theorem take_ne (s : List UInt8) (j : Nat) (h1 : 1 ≤ j) (h : j ≤ s.length) : s.take j ≠ [] := fun e => by
  have := congrArg List.length e
  rw [List.length_take, List.length_nil] at this
  omega

theorem whole_once (s : List UInt8) (j k : Nat) (h1 : 1 ≤ j) (hjk : j < k) (hk : k ≤ s.length) (hj : whole (s.take j) = true) : whole (s.take k) = false := by
  cases hw : whole (s.take k) with
  | false => rfl
  | true =>
    exfalso
    have e : s.take k = s.take j ++ (s.take k).drop j := by
      have : s.take j = (s.take k).take j := by rw [List.take_take, Nat.min_eq_left (by omega)]
      rw [this, List.take_append_drop]
    have hl : ((s.take k).drop j).length = k - j := by simp; omega
    rw [e] at hw
    have := beg_of_whole (s.take j) _ (take_ne s j h1 (by omega)) (fun e => by rw [e] at hl; simp at hl; omega) hw
    rw [whole_not_beg hj] at this
    cases this

theorem wl_spec (s : List UInt8) (k : Nat) (h1 : 1 ≤ k) (h4 : k ≤ 4) (hk : k ≤ s.length) : whole (s.take k) = decide (k = wl s) := by
  have o := whole_once s
  unfold wl
  by_cases a1 : 1 ≤ s.length ∧ whole (s.take 1) = true
  · rw [if_pos a1]
    by_cases e : k = 1
    · subst e; simp [a1.2]
    · rw [o 1 k (by omega) (by omega) hk a1.2]; simp [e]
  rw [if_neg a1]
  by_cases a2 : 2 ≤ s.length ∧ whole (s.take 2) = true
  · rw [if_pos a2]
    rcases (by omega : k = 1 ∨ k = 2 ∨ 2 < k) with rfl | rfl | e
    · cases h : whole (s.take 1) with
      | true => exact absurd ⟨hk, h⟩ a1
      | false => rfl
    · simp [a2.2]
    · rw [o 2 k (by omega) e hk a2.2]; simp; omega
  rw [if_neg a2]
  by_cases a3 : 3 ≤ s.length ∧ whole (s.take 3) = true
  · rw [if_pos a3]
    rcases (by omega : k = 1 ∨ k = 2 ∨ k = 3 ∨ 3 < k) with rfl | rfl | rfl | e
    · cases h : whole (s.take 1) with
      | true => exact absurd ⟨hk, h⟩ a1
      | false => rfl
    · cases h : whole (s.take 2) with
      | true => exact absurd ⟨hk, h⟩ a2
      | false => rfl
    · simp [a3.2]
    · rw [o 3 k (by omega) e hk a3.2]; simp; omega
  rw [if_neg a3]
  have key : ∀ j, 1 ≤ j → j ≤ 3 → j ≤ s.length → whole (s.take j) = false := fun j h1 h2 h3 => by
    cases h : whole (s.take j) with
    | false => rfl
    | true =>
      rcases (by omega : j = 1 ∨ j = 2 ∨ j = 3) with rfl | rfl | rfl
      · exact absurd ⟨h3, h⟩ a1
      · exact absurd ⟨h3, h⟩ a2
      · exact absurd ⟨h3, h⟩ a3
  by_cases a4 : 4 ≤ s.length ∧ whole (s.take 4) = true
  · rw [if_pos a4]
    rcases (by omega : k ≤ 3 ∨ k = 4) with e | rfl
    · rw [key k h1 e hk]; simp; omega
    · simp [a4.2]
  · rw [if_neg a4]
    rcases (by omega : k ≤ 3 ∨ k = 4) with e | rfl
    · rw [key k h1 e hk]; simp; omega
    · cases h : whole (s.take 4) with
      | true => exact absurd ⟨hk, h⟩ a4
      | false => rfl

theorem wl_le (s : List UInt8) : wl s ≤ 4 ∧ wl s ≤ s.length ∧ (wl s ≠ 0 → whole (s.take (wl s)) = true) := by
  unfold wl
  by_cases a1 : 1 ≤ s.length ∧ whole (s.take 1) = true
  · rw [if_pos a1]; exact ⟨by omega, a1.1, fun _ => a1.2⟩
  rw [if_neg a1]
  by_cases a2 : 2 ≤ s.length ∧ whole (s.take 2) = true
  · rw [if_pos a2]; exact ⟨by omega, a2.1, fun _ => a2.2⟩
  rw [if_neg a2]
  by_cases a3 : 3 ≤ s.length ∧ whole (s.take 3) = true
  · rw [if_pos a3]; exact ⟨by omega, a3.1, fun _ => a3.2⟩
  rw [if_neg a3]
  by_cases a4 : 4 ≤ s.length ∧ whole (s.take 4) = true
  · rw [if_pos a4]; exact ⟨by omega, a4.1, fun _ => a4.2⟩
  rw [if_neg a4]
  exact ⟨by omega, by omega, fun h => absurd rfl h⟩

theorem whole_first {t : List UInt8} (h : whole t = true) : first t = ((dec t).1, t.length) := by
  unfold whole at h
  rw [decide_eq_true_eq] at h
  unfold first
  rw [if_neg h.2.2, ← h.2.1]

theorem beg_app_false (s t : List UInt8) (h0 : s ≠ []) (h1 : beg s = false) : beg (s ++ t) = false := by
  match s, h0 with
  | [a], _ =>
    simp only [beg, decide_eq_false_iff_not] at h1
    match t with
    | [] => simpa [beg] using h1
    | [b] => simp [beg]; omega
    | [b, c] => simp [beg]; omega
    | b :: c :: d :: t => rfl
  | [a, b], _ =>
    simp only [beg, decide_eq_false_iff_not] at h1
    match t with
    | [] => simpa [beg] using h1
    | [c] => simp [beg]; omega
    | c :: d :: t => rfl
  | [a, b, c], _ =>
    match t with
    | [] => simpa using h1
    | d :: t => rfl
  | a :: b :: c :: d :: s, _ => rfl

theorem wl_first (s : List UInt8) (h : wl s ≠ 0) : first s = ((dec (s.take (wl s))).1, wl s) ∧ beg s = false := by
  obtain ⟨h4, hl, hw⟩ := wl_le s
  have hw := hw h
  have hne : s.take (wl s) ≠ [] := take_ne s _ (by omega) hl
  have hb := whole_not_beg hw
  have e : s.take (wl s) ++ s.drop (wl s) = s := List.take_append_drop _ _
  have hf := first_app (s.take (wl s)) (s.drop (wl s)) hne hb
  have hb2 := beg_app_false (s.take (wl s)) (s.drop (wl s)) hne hb
  rw [e] at hf hb2
  rw [hf, whole_first hw]
  refine ⟨?_, hb2⟩
  have : (s.take (wl s)).length = wl s := by simp; omega
  rw [this]

theorem beg_take (s : List UInt8) (j k : Nat) (h1 : 1 ≤ j) (hjk : j ≤ k) (hk : k ≤ s.length) (h : beg (s.take k) = true) : beg (s.take j) = true := by
  cases hb : beg (s.take j) with
  | true => rfl
  | false =>
    exfalso
    have e : s.take k = s.take j ++ (s.take k).drop j := by
      have : s.take j = (s.take k).take j := by rw [List.take_take, Nat.min_eq_left (by omega)]
      rw [this, List.take_append_drop]
    have := beg_app_false (s.take j) ((s.take k).drop j) (take_ne s j h1 (by omega)) hb
    rw [← e, h] at this
    cases this

theorem bl_spec (s : List UInt8) (k : Nat) (h1 : 1 ≤ k) (h3 : k ≤ 3) (hk : k ≤ s.length) : beg (s.take k) = decide (k ≤ bl s) := by
  have o := beg_take s
  unfold bl
  by_cases a3 : 3 ≤ s.length ∧ beg (s.take 3) = true
  · rw [if_pos a3, o k 3 h1 h3 a3.1 a3.2]; simp; omega
  rw [if_neg a3]
  have k3 : k = 3 → beg (s.take k) = false := fun e => by
    subst e
    cases h : beg (s.take 3) with
    | true => exact absurd ⟨hk, h⟩ a3
    | false => rfl
  by_cases a2 : 2 ≤ s.length ∧ beg (s.take 2) = true
  · rw [if_pos a2]
    rcases (by omega : k ≤ 2 ∨ k = 3) with e | e
    · rw [o k 2 h1 e a2.1 a2.2]; simp; omega
    · rw [k3 e]; simp; omega
  rw [if_neg a2]
  have k2 : 2 ≤ k → beg (s.take k) = false := fun e => by
    cases h : beg (s.take k) with
    | false => rfl
    | true => exact absurd ⟨by omega, o 2 k (by omega) e hk h⟩ a2
  by_cases a1 : 1 ≤ s.length ∧ beg (s.take 1) = true
  · rw [if_pos a1]
    rcases (by omega : k = 1 ∨ 2 ≤ k) with rfl | e
    · rw [a1.2]; rfl
    · rw [k2 e]; simp; omega
  · rw [if_neg a1]
    rcases (by omega : k = 1 ∨ 2 ≤ k) with rfl | e
    · cases h : beg (s.take 1) with
      | true => exact absurd ⟨hk, h⟩ a1
      | false => rfl
    · rw [k2 e]; simp; omega

theorem bl_le (s : List UInt8) : bl s ≤ 3 ∧ bl s ≤ s.length := by
  unfold bl
  repeat' split
  all_goals omega

theorem bl_stop (s : List UInt8) (h0 : s ≠ []) : beg s = decide (bl s = s.length) := by
  have hl : 1 ≤ s.length := Nat.pos_of_ne_zero fun e => h0 (List.eq_nil_of_length_eq_zero e)
  have hb := bl_le s
  by_cases h3 : s.length ≤ 3
  · have := bl_spec s s.length hl h3 (Nat.le_refl _)
    rw [List.take_length] at this
    rw [this]
    congr 1
    apply propext
    omega
  · have hf : beg s = false := by
      cases h : beg s with
      | false => rfl
      | true => exact absurd (beg_len h).2 h3
    rw [hf]; simp; omega

theorem nth_take (s : List UInt8) (n k : Nat) (h : k < n) : nth (s.take n) k = nth s k := by
  simp [nth, List.getD, h]

theorem dec_bad (s : List UInt8) (h0 : s ≠ []) (h : wl s = 0) : dec s = (65533, 1) := by
  have hl : 1 ≤ s.length := Nat.pos_of_ne_zero fun e => h0 (List.eq_nil_of_length_eq_zero e)
  have key : ∀ n, 1 ≤ n → n ≤ 4 → n ≤ s.length → whole (s.take n) = false := fun n h1 h2 h3 => by
    rw [wl_spec s n h1 h2 h3, h]; simp; omega
  have more : ∀ n, 2 ≤ n → n ≤ 4 → n ≤ s.length → ¬ (sz (nth s 0) = n ∧ lo (nth s 0) ≤ nth s 1 ∧ nth s 1 ≤ hi (nth s 0) ∧ (3 ≤ n → 128 ≤ nth s 2 ∧ nth s 2 ≤ 191) ∧ (4 ≤ n → 128 ≤ nth s 3 ∧ nth s 3 ≤ 191)) := by
    intro n h2 h4 hn hc
    have hln : (s.take n).length = n := by simp; omega
    have hw : whole (s.take n) = true := by
      rw [whole_more (by omega), hln, nth_take s n 0 (by omega), nth_take s n 1 (by omega)]
      refine ⟨hc.1, hc.2.1, hc.2.2.1, fun h => ?_, fun h => ?_⟩
      · rw [nth_take s n 2 (by omega)]; exact hc.2.2.2.1 h
      · rw [nth_take s n 3 (by omega)]; exact hc.2.2.2.2 h
    rw [key n (by omega) h4 hn] at hw
    cases hw
  rw [dec_eq' h0]
  by_cases c0 : nth s 0 < 128
  · exfalso
    have h1 := key 1 (by omega) (by omega) hl
    cases s with
    | nil => exact h0 rfl
    | cons a t =>
      have : whole [a] = true := (whole_one a).2 c0
      have e : (a :: t).take 1 = [a] := rfl
      rw [e, this] at h1
      cases h1
  rw [if_neg c0]
  rcases sz_cases (nth s 0) with e | e | e | e
  · rw [if_pos e]
  · rw [if_neg (by omega)]
    have m := more 2 (by omega) (by omega)
    unfold slowN
    repeat' split
    all_goals first | rfl | (exfalso; omega)
  · rw [if_neg (by omega)]
    have m := more 3 (by omega) (by omega)
    unfold slowN
    repeat' split
    all_goals first | rfl | (exfalso; omega)
  · rw [if_neg (by omega)]
    have m := more 4 (by omega) (by omega)
    unfold slowN
    repeat' split
    all_goals first | rfl | (exfalso; omega)

theorem bl_first (s : List UInt8) (h0 : s ≠ []) (h : wl s = 0) : first s = (65533, max (bl s) 1) := by
  have hl : 1 ≤ s.length := Nat.pos_of_ne_zero fun e => h0 (List.eq_nil_of_length_eq_zero e)
  unfold first
  rw [dec_bad s h0 h, if_pos ⟨rfl, rfl⟩]
  congr 1
  have o := beg_take s
  unfold badLen bl
  by_cases a2 : 2 ≤ s.length ∧ beg (s.take 2) = true
  · rw [if_pos ⟨by omega, a2.2⟩]
    by_cases a3 : 3 ≤ s.length ∧ beg (s.take 3) = true
    · rw [if_pos ⟨by omega, a3.2⟩, if_pos a3]; rfl
    · rw [if_neg (fun h => a3 ⟨by omega, h.2⟩), if_neg a3, if_pos a2]; rfl
  · rw [if_neg (fun h => a2 ⟨by omega, h.2⟩)]
    have a3 : ¬ (3 ≤ s.length ∧ beg (s.take 3) = true) := fun h => a2 ⟨by omega, o 2 3 (by omega) (by omega) h.1 h.2⟩
    rw [if_neg a3, if_neg a2]
    split <;> rfl

end Go.Proofs.YtjnopjjbndknfaaDoor.U
