/-
  Plain laws of the plain reader of runes: what becomes of bytes below 128; what is written is read; no condition.
-/
import Derived.Test.YtneiiinheimglaaDoorULaw
import Derived.Lib.RuneBytes
namespace Go.Proofs.YtneiiinheimglaaDoor.U
open Go.Lib

def asc (s : List UInt8) : List Nat := (s.map UInt8.toNat).filter (fun c => decide (c < 128))

theorem asc_app (s t : List UInt8) : asc (s ++ t) = asc s ++ asc t := by simp [asc]
theorem asc_high {s : List UInt8} (h : ∀ b ∈ s, 128 ≤ b.toNat) : asc s = [] := by
  unfold asc
  rw [List.filter_eq_nil_iff]
  intro c hc
  obtain ⟨b, hb, rfl⟩ := List.mem_map.mp hc
  have := h b hb
  simpa using this

theorem lo_ge (a : Nat) : 128 ≤ lo a := by unfold lo; (repeat' split) <;> omega
theorem sz_high {a : Nat} (h : 2 ≤ sz a) : 194 ≤ a := by
  unfold sz at h
  repeat' split at h
  all_goals omega

theorem sz_two {a : Nat} (h : sz a = 2) : 194 ≤ a ∧ a < 224 := by
  unfold sz at h
  repeat' split at h
  all_goals omega
theorem sz_three {a : Nat} (h : sz a = 3) : 224 ≤ a ∧ a < 240 := by
  unfold sz at h
  repeat' split at h
  all_goals omega
theorem sz_four {a : Nat} (h : sz a = 4) : 240 ≤ a ∧ a < 245 := by
  unfold sz at h
  repeat' split at h
  all_goals omega

theorem beg_high {s : List UInt8} (h : beg s = true) : ∀ b ∈ s, 128 ≤ b.toNat := by
  match s, h with
  | [a], h =>
    simp only [beg, decide_eq_true_eq] at h
    have := sz_high h
    simp; omega
  | [a, b], h =>
    simp only [beg, decide_eq_true_eq] at h
    have := sz_high (Nat.le_trans (by decide) h.1)
    have := lo_ge a.toNat
    simp; omega
  | [a, b, c], h =>
    simp only [beg, decide_eq_true_eq] at h
    have := sz_high (Nat.le_trans (by decide) h.1)
    have := lo_ge a.toNat
    simp; omega

theorem bad_high {s : List UInt8} (h0 : s ≠ []) (ha : 128 ≤ nth s 0) : ∀ b ∈ s.take (badLen s), 128 ≤ b.toNat := by
  unfold badLen
  split
  · rename_i h; split
    · rename_i h'; exact beg_high h'.2
    · exact beg_high h.2
  · cases s with
    | nil => exact absurd rfl h0
    | cons a s => simp only [List.take_succ_cons, List.take_zero, List.mem_singleton, forall_eq]; exact ha

set_option maxHeartbeats 1000000 in
theorem first_asc {s : List UInt8} (h0 : s ≠ []) : ([(first s).1].filter fun c => decide (c < 128)) = asc (s.take (first s).2) := by
  have hd := dec_eq' h0
  by_cases c0 : nth s 0 < 128
  · rw [if_pos c0] at hd
    have hf : first s = (nth s 0, 1) := by
      unfold first; rw [hd]; simp only; rw [if_neg (by omega)]
    rw [hf]
    cases s with
    | nil => exact absurd rfl h0
    | cons a s => simp [asc]; rfl
  rw [if_neg c0] at hd
  have high : 128 ≤ (first s).1 ∧ ∀ b ∈ s.take (first s).2, 128 ≤ b.toNat := by
    unfold first
    split
    · exact ⟨by simp, bad_high h0 (by omega)⟩
    · rename_i hb
      by_cases c1 : sz (nth s 0) = 1
      · rw [if_pos c1] at hd; rw [hd] at hb; exact absurd ⟨rfl, rfl⟩ hb
      rw [if_neg c1] at hd
      have hz : 2 ≤ sz (nth s 0) := by rcases sz_cases (nth s 0) with h | h | h | h <;> omega
      have ha := sz_high hz
      have hlo := lo_ge (nth s 0)
      rw [hd] at hb ⊢
      unfold slowN at hb ⊢
      by_cases c2 : s.length < sz (nth s 0)
      · rw [if_pos c2] at hb; exact absurd ⟨rfl, rfl⟩ hb
      rw [if_neg c2] at hb ⊢
      by_cases c3 : nth s 1 < lo (nth s 0) ∨ hi (nth s 0) < nth s 1
      · rw [if_pos c3] at hb; exact absurd ⟨rfl, rfl⟩ hb
      rw [if_neg c3] at hb ⊢
      by_cases c4 : sz (nth s 0) ≤ 2
      · rw [if_pos c4]
        have hsz := sz_two (show sz (nth s 0) = 2 by omega)
        refine ⟨by simp only; omega, ?_⟩
        match s with
        | [] => exact absurd rfl h0
        | [a] => simp at c2; omega
        | a :: b :: s =>
          simp only [nth, List.getD_cons_zero, List.getD_cons_succ] at c3 ha hlo
          simp; omega
      rw [if_neg c4] at hb ⊢
      by_cases c5 : nth s 2 < 128 ∨ 191 < nth s 2
      · rw [if_pos c5] at hb; exact absurd ⟨rfl, rfl⟩ hb
      rw [if_neg c5] at hb ⊢
      have hE0 : nth s 0 = 224 → 160 ≤ nth s 1 := fun h => by
        have : lo (nth s 0) = 160 := by rw [h]; rfl
        omega
      have hF0 : nth s 0 = 240 → 144 ≤ nth s 1 := fun h => by
        have : lo (nth s 0) = 144 := by rw [h]; rfl
        omega
      have hhi : hi (nth s 0) ≤ 191 := by unfold hi; (repeat' split) <;> omega
      by_cases c6 : sz (nth s 0) ≤ 3
      · rw [if_pos c6]
        have hsz := sz_three (show sz (nth s 0) = 3 by omega)
        refine ⟨by simp only; omega, ?_⟩
        clear hd hb hE0 hF0 hhi
        have c2' : 3 ≤ s.length := by omega
        clear c2 c4 c6 hsz hz
        match s with
        | [] => exact absurd rfl h0
        | [a] => simp at c2'
        | [a, b] => simp at c2'
        | a :: b :: c :: s =>
          simp only [nth, List.getD_cons_zero, List.getD_cons_succ] at c3 c5 ha hlo
          simp; omega
      rw [if_neg c6] at hb ⊢
      by_cases c7 : nth s 3 < 128 ∨ 191 < nth s 3
      · rw [if_pos c7] at hb; exact absurd ⟨rfl, rfl⟩ hb
      rw [if_neg c7]
      have hsz := sz_four (show sz (nth s 0) = 4 by rcases sz_cases (nth s 0) with h | h | h | h <;> omega)
      refine ⟨by simp only; omega, ?_⟩
      clear hd hb hE0 hF0 hhi
      have c2' : 4 ≤ s.length := by rcases sz_cases (nth s 0) with h | h | h | h <;> omega
      clear c2 c4 c6 hsz hz
      match s with
      | [] => exact absurd rfl h0
      | [a] => simp at c2'
      | [a, b] => simp at c2'
      | [a, b, c] => simp at c2'
      | a :: b :: c :: d :: s =>
        simp only [nth, List.getD_cons_zero, List.getD_cons_succ] at c3 c5 c7 ha hlo
        simp; omega
  rw [asc_high high.2]
  simp; exact high.1

theorem rd_asc (n : Nat) : ∀ s : List UInt8, s.length ≤ n → ((rd s).2.filter fun c => decide (c < 128)) = asc s := by
  induction n with
  | zero => intro s h; obtain rfl := List.eq_nil_of_length_eq_zero (Nat.le_zero.mp h); rw [rd_stop (s := []) (Or.inl rfl)]; rfl
  | succ n ih =>
    intro s h
    by_cases hs : s = [] ∨ beg s = true
    · rw [rd_stop hs]
      rcases hs with rfl | hs
      · rfl
      · exact (asc_high (beg_high hs)).symm
    · have h0 : s ≠ [] := fun e => hs (Or.inl e)
      have h1 : beg s = false := by cases e : beg s with | true => exact absurd (Or.inr e) hs | false => rfl
      have hp := first_pos s
      have := ih (s.drop (first s).2) (by simp only [List.length_drop]; omega)
      have hsp : asc s = asc (s.take (first s).2) ++ asc (s.drop (first s).2) := by rw [← asc_app, List.take_append_drop]
      rw [rd_step h0 h1, hsp, ← first_asc h0, ← this, ← List.filter_append]
      rfl

/-! what is written is read -/
def fixR (c : Int) : Nat := if (0 ≤ c ∧ c < 55296) ∨ (57344 ≤ c ∧ c ≤ 1114111) then c.toNat else 65533

theorem enc_nat (c : Int) : encodeRune c = encodeRune (fixR c : Int) := by
  unfold fixR
  split
  · rename_i h; rw [Int.toNat_of_nonneg (by omega)]
  · rename_i h
    unfold encodeRune
    rw [encodeRuneZ_bad (by omega)]; rfl

theorem fixR_rune (c : Int) : isRune (fixR c) := by unfold fixR isRune; split <;> omega

def encN (r : Nat) : List Nat :=
  if r < 128 then [r] else if r < 2048 then [192 + r / 64, 128 + r % 64] else if r < 65536 then [224 + r / 4096, 128 + r / 64 % 64, 128 + r % 64]
  else [240 + r / 262144, 128 + r / 4096 % 64, 128 + r / 64 % 64, 128 + r % 64]

theorem encN_eq {r : Nat} (h : isRune r) : encodeRune (r : Int) = (encN r).map Nat.toUInt8 := by
  unfold isRune at h
  unfold encodeRune encN
  by_cases c0 : r < 128
  · rw [encodeRuneZ_one (by omega) (by omega), if_pos c0]; rfl
  rw [if_neg c0]
  by_cases c1 : r < 2048
  · rw [encodeRuneZ_two (by omega) (by omega), if_pos c1]
    simp only [List.map_cons, List.map_nil, List.cons.injEq, and_true]
    exact ⟨congrArg _ (by omega), congrArg _ (by omega)⟩
  rw [if_neg c1]
  by_cases c2 : r < 65536
  · rw [encodeRuneZ_three (by omega), if_pos c2]
    simp only [List.map_cons, List.map_nil, List.cons.injEq, and_true]
    exact ⟨congrArg _ (by omega), congrArg _ (by omega), congrArg _ (by omega)⟩
  rw [encodeRuneZ_four (by omega) (by omega), if_neg c2]
  simp only [List.map_cons, List.map_nil, List.cons.injEq, and_true]
  exact ⟨congrArg _ (by omega), congrArg _ (by omega), congrArg _ (by omega), congrArg _ (by omega)⟩

theorem u8_nat {n : Nat} (h : n < 256) : (Nat.toUInt8 n).toNat = n := by
  simp [Nat.toUInt8, Nat.mod_eq_of_lt h]

theorem rd_enc {r : Nat} (h : isRune r) (t : List UInt8) : rd (encodeRune (r : Int) ++ t) = ((rd t).1, r :: (rd t).2) := by
  rw [encN_eq h]
  unfold isRune at h
  unfold encN
  by_cases c0 : r < 128
  · rw [if_pos c0]
    simp only [List.map_cons, List.map_nil, List.cons_append, List.nil_append]
    have e0 := u8_nat (n := r) (by omega)
    generalize r.toUInt8 = a at e0
    have hd : dec (a :: t) = (r, 1) := by unfold dec nth; simp only [List.getD_cons_zero, e0]; unfold decodeN; rw [if_pos c0]
    have hb : beg (a :: t) = false := by
      have : sz a.toNat = 1 := by rw [e0]; exact sz_low c0
      match t with
      | [] => simp [beg, this]
      | [b] => simp [beg, this]
      | [b, c] => simp [beg, this]
      | b :: c :: d :: t => rfl
    have hf : first (a :: t) = (r, 1) := by unfold first; rw [hd, if_neg (by simp only; omega)]
    rw [rd_step (by simp) hb, hf]; rfl
  rw [if_neg c0]
  by_cases c1 : r < 2048
  · rw [if_pos c1]
    simp only [List.map_cons, List.map_nil, List.cons_append, List.nil_append]
    have e0 := u8_nat (n := 192 + r / 64) (by omega)
    have e1 := u8_nat (n := 128 + r % 64) (by omega)
    generalize (192 + r / 64).toUInt8 = a at e0
    generalize (128 + r % 64).toUInt8 = b at e1
    have hd : dec (a :: b :: t) = (r, 2) := by
      unfold dec nth; simp only [List.getD_cons_zero, List.getD_cons_succ, e0, e1, List.length_cons]; unfold decodeN
      rw [if_neg (by omega), if_pos (by omega), if_pos (by omega)]
      refine Prod.ext ?_ rfl
      simp only; omega
    have hb : beg (a :: b :: t) = false := by
      have : sz a.toNat = 2 := by
        rw [e0]; unfold sz
        rw [if_neg (by omega), if_pos (by omega)]
      match t with
      | [] => simp [beg, this]
      | [c] => simp [beg, this]
      | c :: d :: t => rfl
    have hf : first (a :: b :: t) = (r, 2) := by unfold first; rw [hd, if_neg (by simp only; omega)]
    rw [rd_step (by simp) hb, hf]; rfl
  rw [if_neg c1]
  by_cases c2 : r < 65536
  · rw [if_pos c2]
    simp only [List.map_cons, List.map_nil, List.cons_append, List.nil_append]
    have e0 := u8_nat (n := 224 + r / 4096) (by omega)
    have e1 := u8_nat (n := 128 + r / 64 % 64) (by omega)
    have e2 := u8_nat (n := 128 + r % 64) (by omega)
    generalize (224 + r / 4096).toUInt8 = a at e0
    generalize (128 + r / 64 % 64).toUInt8 = b at e1
    generalize (128 + r % 64).toUInt8 = c at e2
    have hd : dec (a :: b :: c :: t) = (r, 3) := by
      unfold dec nth; simp only [List.getD_cons_zero, List.getD_cons_succ, e0, e1, e2, List.length_cons]; unfold decodeN
      rw [if_neg (by omega), if_neg (by omega), if_pos (by omega), if_pos (by omega)]
      refine Prod.ext ?_ rfl
      simp only; omega
    have hb : beg (a :: b :: c :: t) = false := by
      have : sz a.toNat = 3 := by
        rw [e0]; unfold sz
        rw [if_neg (by omega), if_neg (by omega), if_pos (by omega)]
      match t with
      | [] => simp [beg, this]
      | d :: t => rfl
    have hf : first (a :: b :: c :: t) = (r, 3) := by unfold first; rw [hd, if_neg (by simp only; omega)]
    rw [rd_step (by simp) hb, hf]; rfl
  rw [if_neg c2]
  simp only [List.map_cons, List.map_nil, List.cons_append, List.nil_append]
  have e0 := u8_nat (n := 240 + r / 262144) (by omega)
  have e1 := u8_nat (n := 128 + r / 4096 % 64) (by omega)
  have e2 := u8_nat (n := 128 + r / 64 % 64) (by omega)
  have e3 := u8_nat (n := 128 + r % 64) (by omega)
  generalize (240 + r / 262144).toUInt8 = a at e0
  generalize (128 + r / 4096 % 64).toUInt8 = b at e1
  generalize (128 + r / 64 % 64).toUInt8 = c at e2
  generalize (128 + r % 64).toUInt8 = d at e3
  have hd : dec (a :: b :: c :: d :: t) = (r, 4) := by
    unfold dec nth; simp only [List.getD_cons_zero, List.getD_cons_succ, e0, e1, e2, e3, List.length_cons]; unfold decodeN
    rw [if_neg (by omega), if_neg (by omega), if_neg (by omega), if_pos (by omega), if_pos (by omega)]
    refine Prod.ext ?_ rfl
    simp only; omega
  have hf : first (a :: b :: c :: d :: t) = (r, 4) := by unfold first; rw [hd, if_neg (by simp only; omega)]
  rw [rd_step (by simp) rfl, hf]; rfl

def encAll (l : List Int) : List UInt8 := (l.map encodeRune).flatten

theorem rd_encAll (l : List Int) : rd (encAll l) = ([], l.map fixR) := by
  induction l with
  | nil => exact rd_stop (Or.inl rfl)
  | cons c l ih =>
    have : encAll (c :: l) = encodeRune (fixR c : Int) ++ encAll l := by rw [← enc_nat]; rfl
    rw [this, rd_enc (fixR_rune c), ih]; rfl

theorem encodeRune_len (c : Int) : (encodeRune c).length ≤ 4 := by unfold encodeRune; rw [List.length_map]; exact (encodeRuneZ_length c).2
theorem encAll_len (l : List Int) : (encAll l).length ≤ 4 * l.length := by
  induction l with
  | nil => simp [encAll]
  | cons c l ih =>
    have : encAll (c :: l) = encodeRune c ++ encAll l := rfl
    have := encodeRune_len c
    simp_all only [List.length_append, List.length_cons]; omega

end Go.Proofs.YtneiiinheimglaaDoor.U
