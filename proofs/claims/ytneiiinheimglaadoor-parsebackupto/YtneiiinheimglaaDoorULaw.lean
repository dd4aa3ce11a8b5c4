/-
  Plain laws of the plain reader of runes: what is cut, what is left, which runes come, what becomes of bytes below 128; no condition.
-/
import Derived.Test.YtneiiinheimglaaDoorUPlain
namespace Go.Proofs.YtneiiinheimglaaDoor.U
open Go.Lib

theorem slow_le (n b0 b1 b2 b3 z l h : Nat) (hn : 1 ≤ n) (hz : 2 ≤ z ∧ z ≤ 4) : (slowN n b0 b1 b2 b3 z l h).2 ≤ n := by
  unfold slowN
  repeat' split
  all_goals simp only; omega

theorem slow_len {n k b0 b1 b2 b3 z l h : Nat} (hn : z ≤ n) : slowN (n + k) b0 b1 b2 b3 z l h = slowN n b0 b1 b2 b3 z l h := by
  unfold slowN
  rw [if_neg (by omega : ¬ n < z), if_neg (by omega : ¬ n + k < z)]

set_option maxHeartbeats 1000000 in
theorem first_app (s t : List UInt8) (h0 : s ≠ []) (h1 : beg s = false) : first (s ++ t) = first s := by
  have hd := dec_eq' h0
  have hd2 := dec_eq' (s := s ++ t) (by simp [h0])
  match s, h0 with
  | [a], _ =>
    simp only [beg, decide_eq_false_iff_not] at h1
    have hs : sz a.toNat = 1 := by rcases sz_cases a.toNat with h | h | h | h <;> omega
    have e0 : nth ([a] ++ t) 0 = a.toNat := rfl
    have e1 : nth [a] 0 = a.toNat := rfl
    rw [e0, hs] at hd2; rw [e1, hs] at hd
    have hdd : dec ([a] ++ t) = dec [a] := by rw [hd, hd2]; split <;> simp
    have hb : badLen ([a] ++ t) = badLen [a] := by
      cases t with
      | nil => rfl
      | cons b t => simp [badLen, beg, hs]
    unfold first; rw [hdd, hb]
  | [a, b], _ =>
    simp only [beg, decide_eq_false_iff_not] at h1
    have e0 : nth ([a, b] ++ t) 0 = a.toNat := rfl
    have e1 : nth [a, b] 0 = a.toNat := rfl
    have f0 : nth ([a, b] ++ t) 1 = b.toNat := rfl
    have f1 : nth [a, b] 1 = b.toNat := rfl
    rw [e0, f0] at hd2; rw [e1, f1] at hd
    have hdd : dec ([a, b] ++ t) = dec [a, b] := by
      rw [hd, hd2]
      by_cases c0 : a.toNat < 128
      · rw [if_pos c0, if_pos c0]
      by_cases c1 : sz a.toNat = 1
      · rw [if_neg c0, if_neg c0, if_pos c1, if_pos c1]
      rw [if_neg c0, if_neg c0, if_neg c1, if_neg c1]
      unfold slowN
      simp only [List.length_append, List.length_cons, List.length_nil]
      by_cases c2 : b.toNat < lo a.toNat ∨ hi a.toNat < b.toNat
      · simp only [c2, if_true, ite_self]
      have : sz a.toNat = 2 := by rcases sz_cases a.toNat with h | h | h | h <;> omega
      simp [c2, this]
    have hb : badLen ([a, b] ++ t) = badLen [a, b] := by
      cases t with
      | nil => rfl
      | cons c t =>
        simp only [badLen, beg, List.cons_append, List.nil_append, List.length_cons, List.take_succ_cons, List.take_zero, decide_eq_true_eq]
        simp [h1]
    unfold first; rw [hdd, hb]
  | [a, b, c], _ =>
    simp only [beg, decide_eq_false_iff_not] at h1
    have e0 : nth ([a, b, c] ++ t) 0 = a.toNat := rfl
    have e1 : nth [a, b, c] 0 = a.toNat := rfl
    have f0 : nth ([a, b, c] ++ t) 1 = b.toNat := rfl
    have f1 : nth [a, b, c] 1 = b.toNat := rfl
    have g0 : nth ([a, b, c] ++ t) 2 = c.toNat := rfl
    have g1 : nth [a, b, c] 2 = c.toNat := rfl
    rw [e0, f0, g0] at hd2; rw [e1, f1, g1] at hd
    have hdd : dec ([a, b, c] ++ t) = dec [a, b, c] := by
      rw [hd, hd2]
      by_cases c0 : a.toNat < 128
      · rw [if_pos c0, if_pos c0]
      by_cases c1 : sz a.toNat = 1
      · rw [if_neg c0, if_neg c0, if_pos c1, if_pos c1]
      rw [if_neg c0, if_neg c0, if_neg c1, if_neg c1]
      unfold slowN
      simp only [List.length_append, List.length_cons, List.length_nil]
      by_cases c2 : b.toNat < lo a.toNat ∨ hi a.toNat < b.toNat
      · simp only [c2, if_true, ite_self]
      by_cases c3 : sz a.toNat = 2
      · simp [c2, c3]
        omega
      by_cases c4 : sz a.toNat = 3
      · have n1 : ¬ (0 + 1 + 1 + 1 + t.length < 3) := by omega
        simp [c2, c4, n1]
      have c5 : sz a.toNat = 4 := by rcases sz_cases a.toNat with h | h | h | h <;> omega
      have c6 : c.toNat < 128 ∨ 191 < c.toNat := by omega
      simp [c2, c5, c6]
    have hb : badLen ([a, b, c] ++ t) = badLen [a, b, c] := by
      cases t with
      | nil => rfl
      | cons d t => simp [badLen, beg]
    unfold first; rw [hdd, hb]
  | a :: b :: c :: d :: s, _ =>
    have hdd : dec (a :: b :: c :: d :: s ++ t) = dec (a :: b :: c :: d :: s) := by
      rw [hd, hd2]
      have e0 : nth (a :: b :: c :: d :: s ++ t) 0 = nth (a :: b :: c :: d :: s) 0 := rfl
      have e1 : nth (a :: b :: c :: d :: s ++ t) 1 = nth (a :: b :: c :: d :: s) 1 := rfl
      have e2 : nth (a :: b :: c :: d :: s ++ t) 2 = nth (a :: b :: c :: d :: s) 2 := rfl
      have e3 : nth (a :: b :: c :: d :: s ++ t) 3 = nth (a :: b :: c :: d :: s) 3 := rfl
      rw [e0, e1, e2, e3, List.length_append, slow_len]
      simp only [List.length_cons]
      rcases sz_cases (nth (a :: b :: c :: d :: s) 0) with h | h | h | h <;> omega
    have hb : badLen (a :: b :: c :: d :: s ++ t) = badLen (a :: b :: c :: d :: s) := by simp [badLen]
    unfold first; rw [hdd, hb]

theorem badLen_le {s : List UInt8} (h : s ≠ []) : badLen s ≤ s.length := by
  have : s.length ≠ 0 := fun e => h (List.eq_nil_of_length_eq_zero e)
  unfold badLen; repeat' split
  all_goals omega

theorem first_le {s : List UInt8} (h : s ≠ []) : (first s).2 ≤ s.length := by
  have hl : 1 ≤ s.length := Nat.pos_of_ne_zero fun e => h (List.eq_nil_of_length_eq_zero e)
  unfold first; split
  · exact badLen_le h
  · rw [dec_eq' h]
    split
    · exact hl
    split
    · exact hl
    · exact slow_le _ _ _ _ _ _ _ _ hl (by rcases sz_cases (nth s 0) with h | h | h | h <;> omega)

theorem rd_app (n : Nat) : ∀ (s t : List UInt8), s.length ≤ n → rd (s ++ t) = ((rd ((rd s).1 ++ t)).1, (rd s).2 ++ (rd ((rd s).1 ++ t)).2) := by
  induction n with
  | zero => intro s t h; obtain rfl := List.eq_nil_of_length_eq_zero (Nat.le_zero.mp h); rw [rd_stop (s := []) (Or.inl rfl)]; rfl
  | succ n ih =>
    intro s t h
    by_cases hs : s = [] ∨ beg s = true
    · rw [rd_stop hs]; rfl
    · have h0 : s ≠ [] := fun e => hs (Or.inl e)
      have h1 : beg s = false := by cases e : beg s with | true => exact absurd (Or.inr e) hs | false => rfl
      have hp := first_pos s
      have hl := first_le h0
      have hb : beg (s ++ t) = false := by
        match s, h0 with
        | [a], _ =>
          simp only [beg, decide_eq_false_iff_not] at h1
          match t with
          | [] => simpa [beg] using h1
          | [b] => simp [beg]; omega
          | [b, c] => simp [beg]; omega
          | b :: c :: d :: t => rfl
        | [a, b], _ =>
          simp only [beg, decide_eq_false_iff_not] at h1
          match t with
          | [] => simpa [beg] using h1
          | [c] => simp [beg]; omega
          | c :: d :: t => rfl
        | [a, b, c], _ =>
          match t with
          | [] => simpa using h1
          | d :: t => rfl
        | a :: b :: c :: d :: s, _ => rfl
      rw [rd_step (s := s ++ t) (by simp [h0]) hb, rd_step h0 h1, first_app s t h0 h1, List.drop_append_of_le_length hl]
      have := ih (s.drop (first s).2) t (by simp only [List.length_drop]; omega)
      rw [this]; rfl

theorem rd_left (n : Nat) : ∀ s : List UInt8, s.length ≤ n → ((rd s).1 = [] ∨ beg (rd s).1 = true) ∧ (rd s).2.length + (rd s).1.length ≤ s.length := by
  induction n with
  | zero => intro s h; obtain rfl := List.eq_nil_of_length_eq_zero (Nat.le_zero.mp h); rw [rd_stop (s := []) (Or.inl rfl)]; simp
  | succ n ih =>
    intro s h
    by_cases hs : s = [] ∨ beg s = true
    · rw [rd_stop hs]; simpa using hs
    · have h0 : s ≠ [] := fun e => hs (Or.inl e)
      have h1 : beg s = false := by cases e : beg s with | true => exact absurd (Or.inr e) hs | false => rfl
      have hp := first_pos s
      have hl := first_le h0
      have := ih (s.drop (first s).2) (by simp only [List.length_drop]; omega)
      rw [rd_step h0 h1]
      refine ⟨this.1, ?_⟩
      have := this.2
      simp only [List.length_drop, List.length_cons] at this ⊢
      omega

theorem beg_len {s : List UInt8} (h : beg s = true) : 1 ≤ s.length ∧ s.length ≤ 3 := by
  match s, h with
  | [_], _ => simp
  | [_, _], _ => simp
  | [_, _, _], _ => simp

/-- is it a rune? -/
def isRune (c : Nat) : Prop := c < 55296 ∨ (57344 ≤ c ∧ c ≤ 1114111)

theorem dec_rune (s : List UInt8) : isRune (dec s).1 := by
  have := nth_lt s 0
  unfold dec decodeN isRune
  repeat' split
  all_goals first | (simp only; omega) | (simp only; left; omega)

theorem first_rune (s : List UInt8) : isRune (first s).1 := by
  unfold first; split
  · unfold isRune; simp
  · exact dec_rune s

theorem rd_rune (n : Nat) : ∀ s : List UInt8, s.length ≤ n → ∀ c ∈ (rd s).2, isRune c := by
  induction n with
  | zero => intro s h; obtain rfl := List.eq_nil_of_length_eq_zero (Nat.le_zero.mp h); rw [rd_stop (s := []) (Or.inl rfl)]; simp
  | succ n ih =>
    intro s h
    by_cases hs : s = [] ∨ beg s = true
    · rw [rd_stop hs]; simp
    · have h0 : s ≠ [] := fun e => hs (Or.inl e)
      have h1 : beg s = false := by cases e : beg s with | true => exact absurd (Or.inr e) hs | false => rfl
      have hp := first_pos s
      have := ih (s.drop (first s).2) (by simp only [List.length_drop]; omega)
      rw [rd_step h0 h1]
      intro c hc
      rcases List.mem_cons.mp hc with rfl | hc
      · exact first_rune s
      · exact this c hc

end Go.Proofs.YtneiiinheimglaaDoor.U
