/-
  Plain functions, of no program: what package utf does with bytes, as functions on lists; no condition.
  Plain laws of the plain reader of runes: what is cut, what is left, which runes come, what becomes of bytes below 128; no condition.
  Plain laws of the plain reader of runes: what becomes of bytes below 128; what is written is read; no condition.
-/
import Derived.Lib.DecodeNEq
import Derived.Lib.RuneBytes
namespace Go.Proofs.YtneiiinheimglaaGreatDoor.U
open Go.Lib

def sz (a : Nat) : Nat := if a < 194 then 1 else if a < 224 then 2 else if a < 240 then 3 else if a < 245 then 4 else 1
def lo (a : Nat) : Nat := if a = 224 then 160 else if a = 240 then 144 else 128
def hi (a : Nat) : Nat := if a = 237 then 159 else if a = 244 then 143 else 191

/-- a beginning -/
def beg : List UInt8 → Bool
  | [a] => decide (2 ≤ sz a.toNat)
  | [a, b] => decide (3 ≤ sz a.toNat ∧ lo a.toNat ≤ b.toNat ∧ b.toNat ≤ hi a.toNat)
  | [a, b, c] => decide (4 ≤ sz a.toNat ∧ lo a.toNat ≤ b.toNat ∧ b.toNat ≤ hi a.toNat ∧ 128 ≤ c.toNat ∧ c.toNat ≤ 191)
  | _ => false

def nth (s : List UInt8) (k : Nat) : Nat := (s.getD k 0).toNat

def dec (s : List UInt8) : Nat × Nat := decodeN s.length (nth s 0) (nth s 1) (nth s 2) (nth s 3)

def badLen (s : List UInt8) : Nat :=
  if 1 < s.length ∧ beg (s.take 2) = true then (if 2 < s.length ∧ beg (s.take 3) = true then 3 else 2) else 1

def first (s : List UInt8) : Nat × Nat := if (dec s).2 = 1 ∧ (dec s).1 = 65533 then (65533, badLen s) else dec s

theorem badLen_pos (s : List UInt8) : 1 ≤ badLen s := by unfold badLen; (repeat' split) <;> omega
theorem dec_pos (s : List UInt8) : 1 ≤ (dec s).2 := by
  unfold dec decodeN
  repeat' split
  all_goals simp
theorem first_pos (s : List UInt8) : 1 ≤ (first s).2 := by
  unfold first
  split
  · exact badLen_pos s
  · exact dec_pos s

/-- the reader, with fuel -/
def rdF : Nat → List UInt8 → List UInt8 × List Nat
  | 0, s => (s, [])
  | f + 1, s => if s = [] ∨ beg s = true then (s, []) else ((rdF f (s.drop (first s).2)).1, (first s).1 :: (rdF f (s.drop (first s).2)).2)
def rd (s : List UInt8) : List UInt8 × List Nat := rdF s.length s

theorem rdF_stop (f : Nat) {s : List UInt8} (h : s = [] ∨ beg s = true) : rdF f s = (s, []) := by
  cases f with
  | zero => rfl
  | succ f => rw [rdF, if_pos h]
theorem rdF_eq : ∀ (f g : Nat) (s : List UInt8), s.length ≤ f → s.length ≤ g → rdF f s = rdF g s
  | 0, g, s, hf, _ => by
    obtain rfl := List.eq_nil_of_length_eq_zero (Nat.le_zero.mp hf)
    rw [rdF_stop g (.inl rfl)]; rfl
  | f + 1, 0, s, _, hg => by
    obtain rfl := List.eq_nil_of_length_eq_zero (Nat.le_zero.mp hg)
    rw [rdF_stop (f + 1) (.inl rfl)]; rfl
  | f + 1, g + 1, s, hf, hg => by
    by_cases h : s = [] ∨ beg s = true
    · rw [rdF_stop _ h, rdF_stop _ h]
    · have hp := first_pos s
      have hl : (s.drop (first s).2).length = s.length - (first s).2 := List.length_drop
      rw [rdF, rdF, if_neg h, if_neg h, rdF_eq f g (s.drop (first s).2) (by omega) (by omega)]

theorem rd_stop {s : List UInt8} (h : s = [] ∨ beg s = true) : rd s = (s, []) := rdF_stop _ h
theorem rd_step {s : List UInt8} (h0 : s ≠ []) (h1 : beg s = false) : rd s = ((rd (s.drop (first s).2)).1, (first s).1 :: (rd (s.drop (first s).2)).2) := by
  have hp := first_pos s
  have hl : (s.drop (first s).2).length = s.length - (first s).2 := List.length_drop
  have hn : s.length ≠ 0 := fun e => h0 (List.eq_nil_of_length_eq_zero e)
  obtain ⟨k, hk⟩ : ∃ k, s.length = k + 1 := ⟨s.length - 1, by omega⟩
  have e : rdF k (s.drop (first s).2) = rd (s.drop (first s).2) := rdF_eq _ _ _ (by omega) (Nat.le_refl _)
  unfold rd
  rw [hk, rdF, if_neg (by simp [h0, h1]), e]
  rfl

/-- Go's table way, by sizes -/
theorem dec_eq (n b0 b1 b2 b3 : Nat) (hn : 1 ≤ n) (h0 : b0 < 256) (h1 : b1 < 256) (h2 : b2 < 256) (h3 : b3 < 256) :
    decodeN n b0 b1 b2 b3 = if b0 < 128 then (b0, 1) else if sz b0 = 1 then (65533, 1) else slowN n b0 b1 b2 b3 (sz b0) (lo b0) (hi b0) := by
  by_cases a : b0 < 128
  · simp [decodeN, a]
  rw [if_neg a]
  by_cases b : sz b0 = 1
  · rw [if_pos b]
    refine bad_eq n b0 b1 b2 b3 h0 ?_
    unfold sz at b; unfold firstT
    repeat' split at b
    all_goals repeat' split
    all_goals omega
  rw [if_neg b]
  have hx : firstT b0 < 240 ∧ firstT b0 % 8 = sz b0 ∧ accLo (firstT b0 / 16) = lo b0 ∧ accHi (firstT b0 / 16) = hi b0 := by
    have : 194 ≤ b0 ∧ b0 < 245 := by unfold sz at b; (repeat' split at b) <;> omega
    have key : ∀ k : Fin 256, 194 ≤ k.val ∧ k.val < 245 → firstT k.val < 240 ∧ firstT k.val % 8 = sz k.val ∧ accLo (firstT k.val / 16) = lo k.val ∧ accHi (firstT k.val / 16) = hi k.val := by decide +kernel
    exact key ⟨b0, h0⟩ this
  rw [← slow_eq n b0 b1 b2 b3 hn h1 h2 h3 hx.1, hx.2.1, hx.2.2.1, hx.2.2.2]

theorem nth_lt (s : List UInt8) (k : Nat) : nth s k < 256 := (s.getD k 0).toNat_lt

theorem sz_cases (a : Nat) : sz a = 1 ∨ sz a = 2 ∨ sz a = 3 ∨ sz a = 4 := by unfold sz; (repeat' split) <;> simp
theorem sz_low {a : Nat} (h : a < 128) : sz a = 1 := by unfold sz; rw [if_pos (by omega)]

theorem dec_eq' {s : List UInt8} (h0 : s ≠ []) : dec s = if nth s 0 < 128 then (nth s 0, 1) else if sz (nth s 0) = 1 then (65533, 1) else slowN s.length (nth s 0) (nth s 1) (nth s 2) (nth s 3) (sz (nth s 0)) (lo (nth s 0)) (hi (nth s 0)) :=
  dec_eq _ _ _ _ _ (Nat.pos_of_ne_zero fun e => h0 (List.eq_nil_of_length_eq_zero e)) (nth_lt _ _) (nth_lt _ _) (nth_lt _ _) (nth_lt _ _)

end Go.Proofs.YtneiiinheimglaaGreatDoor.U
namespace Go.Proofs.YtneiiinheimglaaGreatDoor.U
open Go.Lib

theorem slow_le (n b0 b1 b2 b3 z l h : Nat) (hn : 1 ≤ n) (hz : 2 ≤ z ∧ z ≤ 4) : (slowN n b0 b1 b2 b3 z l h).2 ≤ n := by
  unfold slowN
  repeat' split
  all_goals simp only; omega

theorem slow_len {n k b0 b1 b2 b3 z l h : Nat} (hn : z ≤ n) : slowN (n + k) b0 b1 b2 b3 z l h = slowN n b0 b1 b2 b3 z l h := by
  unfold slowN
  rw [if_neg (by omega : ¬ n < z), if_neg (by omega : ¬ n + k < z)]

set_option maxHeartbeats 1000000 in
theorem first_app (s t : List UInt8) (h0 : s ≠ []) (h1 : beg s = false) : first (s ++ t) = first s := by
  have hd := dec_eq' h0
  have hd2 := dec_eq' (s := s ++ t) (by simp [h0])
  match s, h0 with
  | [a], _ =>
    simp only [beg, decide_eq_false_iff_not] at h1
    have hs : sz a.toNat = 1 := by rcases sz_cases a.toNat with h | h | h | h <;> omega
    have e0 : nth ([a] ++ t) 0 = a.toNat := rfl
    have e1 : nth [a] 0 = a.toNat := rfl
    rw [e0, hs] at hd2; rw [e1, hs] at hd
    have hdd : dec ([a] ++ t) = dec [a] := by rw [hd, hd2]; split <;> simp
    have hb : badLen ([a] ++ t) = badLen [a] := by
      cases t with
      | nil => rfl
      | cons b t => simp [badLen, beg, hs]
    unfold first; rw [hdd, hb]
  | [a, b], _ =>
    simp only [beg, decide_eq_false_iff_not] at h1
    have e0 : nth ([a, b] ++ t) 0 = a.toNat := rfl
    have e1 : nth [a, b] 0 = a.toNat := rfl
    have f0 : nth ([a, b] ++ t) 1 = b.toNat := rfl
    have f1 : nth [a, b] 1 = b.toNat := rfl
    rw [e0, f0] at hd2; rw [e1, f1] at hd
    have hdd : dec ([a, b] ++ t) = dec [a, b] := by
      rw [hd, hd2]
      by_cases c0 : a.toNat < 128
      · rw [if_pos c0, if_pos c0]
      by_cases c1 : sz a.toNat = 1
      · rw [if_neg c0, if_neg c0, if_pos c1, if_pos c1]
      rw [if_neg c0, if_neg c0, if_neg c1, if_neg c1]
      unfold slowN
      simp only [List.length_append, List.length_cons, List.length_nil]
      by_cases c2 : b.toNat < lo a.toNat ∨ hi a.toNat < b.toNat
      · simp only [c2, if_true, ite_self]
      have : sz a.toNat = 2 := by rcases sz_cases a.toNat with h | h | h | h <;> omega
      simp [c2, this]
    have hb : badLen ([a, b] ++ t) = badLen [a, b] := by
      cases t with
      | nil => rfl
      | cons c t =>
        simp only [badLen, beg, List.cons_append, List.nil_append, List.length_cons, List.take_succ_cons, List.take_zero, decide_eq_true_eq]
        simp [h1]
    unfold first; rw [hdd, hb]
  | [a, b, c], _ =>
    simp only [beg, decide_eq_false_iff_not] at h1
    have e0 : nth ([a, b, c] ++ t) 0 = a.toNat := rfl
    have e1 : nth [a, b, c] 0 = a.toNat := rfl
    have f0 : nth ([a, b, c] ++ t) 1 = b.toNat := rfl
    have f1 : nth [a, b, c] 1 = b.toNat := rfl
    have g0 : nth ([a, b, c] ++ t) 2 = c.toNat := rfl
    have g1 : nth [a, b, c] 2 = c.toNat := rfl
    rw [e0, f0, g0] at hd2; rw [e1, f1, g1] at hd
    have hdd : dec ([a, b, c] ++ t) = dec [a, b, c] := by
      rw [hd, hd2]
      by_cases c0 : a.toNat < 128
      · rw [if_pos c0, if_pos c0]
      by_cases c1 : sz a.toNat = 1
      · rw [if_neg c0, if_neg c0, if_pos c1, if_pos c1]
      rw [if_neg c0, if_neg c0, if_neg c1, if_neg c1]
      unfold slowN
      simp only [List.length_append, List.length_cons, List.length_nil]
      by_cases c2 : b.toNat < lo a.toNat ∨ hi a.toNat < b.toNat
      · simp only [c2, if_true, ite_self]
      by_cases c3 : sz a.toNat = 2
      · simp [c2, c3]
        omega
      by_cases c4 : sz a.toNat = 3
      · have n1 : ¬ (0 + 1 + 1 + 1 + t.length < 3) := by omega
        simp [c2, c4, n1]
      have c5 : sz a.toNat = 4 := by rcases sz_cases a.toNat with h | h | h | h <;> omega
      have c6 : c.toNat < 128 ∨ 191 < c.toNat := by omega
      simp [c2, c5, c6]
    have hb : badLen ([a, b, c] ++ t) = badLen [a, b, c] := by
      cases t with
      | nil => rfl
      | cons d t => simp [badLen, beg]
    unfold first; rw [hdd, hb]
  | a :: b :: c :: d :: s, _ =>
    have hdd : dec (a :: b :: c :: d :: s ++ t) = dec (a :: b :: c :: d :: s) := by
      rw [hd, hd2]
      have e0 : nth (a :: b :: c :: d :: s ++ t) 0 = nth (a :: b :: c :: d :: s) 0 := rfl
      have e1 : nth (a :: b :: c :: d :: s ++ t) 1 = nth (a :: b :: c :: d :: s) 1 := rfl
      have e2 : nth (a :: b :: c :: d :: s ++ t) 2 = nth (a :: b :: c :: d :: s) 2 := rfl
      have e3 : nth (a :: b :: c :: d :: s ++ t) 3 = nth (a :: b :: c :: d :: s) 3 := rfl
      rw [e0, e1, e2, e3, List.length_append, slow_len]
      simp only [List.length_cons]
      rcases sz_cases (nth (a :: b :: c :: d :: s) 0) with h | h | h | h <;> omega
    have hb : badLen (a :: b :: c :: d :: s ++ t) = badLen (a :: b :: c :: d :: s) := by simp [badLen]
    unfold first; rw [hdd, hb]

theorem badLen_le {s : List UInt8} (h : s ≠ []) : badLen s ≤ s.length := by
  have : s.length ≠ 0 := fun e => h (List.eq_nil_of_length_eq_zero e)
  unfold badLen; repeat' split
  all_goals omega

theorem first_le {s : List UInt8} (h : s ≠ []) : (first s).2 ≤ s.length := by
  have hl : 1 ≤ s.length := Nat.pos_of_ne_zero fun e => h (List.eq_nil_of_length_eq_zero e)
  unfold first; split
  · exact badLen_le h
  · rw [dec_eq' h]
    split
    · exact hl
    split
    · exact hl
    · exact slow_le _ _ _ _ _ _ _ _ hl (by rcases sz_cases (nth s 0) with h | h | h | h <;> omega)

theorem rd_app (n : Nat) : ∀ (s t : List UInt8), s.length ≤ n → rd (s ++ t) = ((rd ((rd s).1 ++ t)).1, (rd s).2 ++ (rd ((rd s).1 ++ t)).2) := by
  induction n with
  | zero => intro s t h; obtain rfl := List.eq_nil_of_length_eq_zero (Nat.le_zero.mp h); rw [rd_stop (s := []) (Or.inl rfl)]; rfl
  | succ n ih =>
    intro s t h
    by_cases hs : s = [] ∨ beg s = true
    · rw [rd_stop hs]; rfl
    · have h0 : s ≠ [] := fun e => hs (Or.inl e)
      have h1 : beg s = false := by cases e : beg s with | true => exact absurd (Or.inr e) hs | false => rfl
      have hp := first_pos s
      have hl := first_le h0
      have hb : beg (s ++ t) = false := by
        match s, h0 with
        | [a], _ =>
          simp only [beg, decide_eq_false_iff_not] at h1
          match t with
          | [] => simpa [beg] using h1
          | [b] => simp [beg]; omega
          | [b, c] => simp [beg]; omega
          | b :: c :: d :: t => rfl
        | [a, b], _ =>
          simp only [beg, decide_eq_false_iff_not] at h1
          match t with
          | [] => simpa [beg] using h1
          | [c] => simp [beg]; omega
          | c :: d :: t => rfl
        | [a, b, c], _ =>
          match t with
          | [] => simpa using h1
          | d :: t => rfl
        | a :: b :: c :: d :: s, _ => rfl
      rw [rd_step (s := s ++ t) (by simp [h0]) hb, rd_step h0 h1, first_app s t h0 h1, List.drop_append_of_le_length hl]
      have := ih (s.drop (first s).2) t (by simp only [List.length_drop]; omega)
      rw [this]; rfl

theorem rd_left (n : Nat) : ∀ s : List UInt8, s.length ≤ n → ((rd s).1 = [] ∨ beg (rd s).1 = true) ∧ (rd s).2.length + (rd s).1.length ≤ s.length := by
  induction n with
  | zero => intro s h; obtain rfl := List.eq_nil_of_length_eq_zero (Nat.le_zero.mp h); rw [rd_stop (s := []) (Or.inl rfl)]; simp
  | succ n ih =>
    intro s h
    by_cases hs : s = [] ∨ beg s = true
    · rw [rd_stop hs]; simpa using hs
    · have h0 : s ≠ [] := fun e => hs (Or.inl e)
      have h1 : beg s = false := by cases e : beg s with | true => exact absurd (Or.inr e) hs | false => rfl
      have hp := first_pos s
      have hl := first_le h0
      have := ih (s.drop (first s).2) (by simp only [List.length_drop]; omega)
      rw [rd_step h0 h1]
      refine ⟨this.1, ?_⟩
      have := this.2
      simp only [List.length_drop, List.length_cons] at this ⊢
      omega

theorem beg_len {s : List UInt8} (h : beg s = true) : 1 ≤ s.length ∧ s.length ≤ 3 := by
  match s, h with
  | [_], _ => simp
  | [_, _], _ => simp
  | [_, _, _], _ => simp

/-- is it a rune? -/
def isRune (c : Nat) : Prop := c < 55296 ∨ (57344 ≤ c ∧ c ≤ 1114111)

theorem dec_rune (s : List UInt8) : isRune (dec s).1 := by
  have := nth_lt s 0
  unfold dec decodeN isRune
  repeat' split
  all_goals first | (simp only; omega) | (simp only; left; omega)

theorem first_rune (s : List UInt8) : isRune (first s).1 := by
  unfold first; split
  · unfold isRune; simp
  · exact dec_rune s

theorem rd_rune (n : Nat) : ∀ s : List UInt8, s.length ≤ n → ∀ c ∈ (rd s).2, isRune c := by
  induction n with
  | zero => intro s h; obtain rfl := List.eq_nil_of_length_eq_zero (Nat.le_zero.mp h); rw [rd_stop (s := []) (Or.inl rfl)]; simp
  | succ n ih =>
    intro s h
    by_cases hs : s = [] ∨ beg s = true
    · rw [rd_stop hs]; simp
    · have h0 : s ≠ [] := fun e => hs (Or.inl e)
      have h1 : beg s = false := by cases e : beg s with | true => exact absurd (Or.inr e) hs | false => rfl
      have hp := first_pos s
      have := ih (s.drop (first s).2) (by simp only [List.length_drop]; omega)
      rw [rd_step h0 h1]
      intro c hc
      rcases List.mem_cons.mp hc with rfl | hc
      · exact first_rune s
      · exact this c hc

end Go.Proofs.YtneiiinheimglaaGreatDoor.U
namespace Go.Proofs.YtneiiinheimglaaGreatDoor.U
open Go.Lib

def asc (s : List UInt8) : List Nat := (s.map UInt8.toNat).filter (fun c => decide (c < 128))

theorem asc_app (s t : List UInt8) : asc (s ++ t) = asc s ++ asc t := by simp [asc]
theorem asc_high {s : List UInt8} (h : ∀ b ∈ s, 128 ≤ b.toNat) : asc s = [] := by
  unfold asc
  rw [List.filter_eq_nil_iff]
  intro c hc
  obtain ⟨b, hb, rfl⟩ := List.mem_map.mp hc
  have := h b hb
  simpa using this

theorem lo_ge (a : Nat) : 128 ≤ lo a := by unfold lo; (repeat' split) <;> omega
theorem sz_high {a : Nat} (h : 2 ≤ sz a) : 194 ≤ a := by
  unfold sz at h
  repeat' split at h
  all_goals omega

theorem sz_two {a : Nat} (h : sz a = 2) : 194 ≤ a ∧ a < 224 := by
  unfold sz at h
  repeat' split at h
  all_goals omega
theorem sz_three {a : Nat} (h : sz a = 3) : 224 ≤ a ∧ a < 240 := by
  unfold sz at h
  repeat' split at h
  all_goals omega
theorem sz_four {a : Nat} (h : sz a = 4) : 240 ≤ a ∧ a < 245 := by
  unfold sz at h
  repeat' split at h
  all_goals omega

theorem beg_high {s : List UInt8} (h : beg s = true) : ∀ b ∈ s, 128 ≤ b.toNat := by
  match s, h with
  | [a], h =>
    simp only [beg, decide_eq_true_eq] at h
    have := sz_high h
    simp; omega
  | [a, b], h =>
    simp only [beg, decide_eq_true_eq] at h
    have := sz_high (Nat.le_trans (by decide) h.1)
    have := lo_ge a.toNat
    simp; omega
  | [a, b, c], h =>
    simp only [beg, decide_eq_true_eq] at h
    have := sz_high (Nat.le_trans (by decide) h.1)
    have := lo_ge a.toNat
    simp; omega

theorem bad_high {s : List UInt8} (h0 : s ≠ []) (ha : 128 ≤ nth s 0) : ∀ b ∈ s.take (badLen s), 128 ≤ b.toNat := by
  unfold badLen
  split
  · rename_i h; split
    · rename_i h'; exact beg_high h'.2
    · exact beg_high h.2
  · cases s with
    | nil => exact absurd rfl h0
    | cons a s => simp only [List.take_succ_cons, List.take_zero, List.mem_singleton, forall_eq]; exact ha

set_option maxHeartbeats 1000000 in
theorem first_asc {s : List UInt8} (h0 : s ≠ []) : ([(first s).1].filter fun c => decide (c < 128)) = asc (s.take (first s).2) := by
  have hd := dec_eq' h0
  by_cases c0 : nth s 0 < 128
  · rw [if_pos c0] at hd
    have hf : first s = (nth s 0, 1) := by
      unfold first; rw [hd]; simp only; rw [if_neg (by omega)]
    rw [hf]
    cases s with
    | nil => exact absurd rfl h0
    | cons a s => simp [asc]; rfl
  rw [if_neg c0] at hd
  have high : 128 ≤ (first s).1 ∧ ∀ b ∈ s.take (first s).2, 128 ≤ b.toNat := by
    unfold first
    split
    · exact ⟨by simp, bad_high h0 (by omega)⟩
    · rename_i hb
      by_cases c1 : sz (nth s 0) = 1
      · rw [if_pos c1] at hd; rw [hd] at hb; exact absurd ⟨rfl, rfl⟩ hb
      rw [if_neg c1] at hd
      have hz : 2 ≤ sz (nth s 0) := by rcases sz_cases (nth s 0) with h | h | h | h <;> omega
      have ha := sz_high hz
      have hlo := lo_ge (nth s 0)
      rw [hd] at hb ⊢
      unfold slowN at hb ⊢
      by_cases c2 : s.length < sz (nth s 0)
      · rw [if_pos c2] at hb; exact absurd ⟨rfl, rfl⟩ hb
      rw [if_neg c2] at hb ⊢
      by_cases c3 : nth s 1 < lo (nth s 0) ∨ hi (nth s 0) < nth s 1
      · rw [if_pos c3] at hb; exact absurd ⟨rfl, rfl⟩ hb
      rw [if_neg c3] at hb ⊢
      by_cases c4 : sz (nth s 0) ≤ 2
      · rw [if_pos c4]
        have hsz := sz_two (show sz (nth s 0) = 2 by omega)
        refine ⟨by simp only; omega, ?_⟩
        match s with
        | [] => exact absurd rfl h0
        | [a] => simp at c2; omega
        | a :: b :: s =>
          simp only [nth, List.getD_cons_zero, List.getD_cons_succ] at c3 ha hlo
          simp; omega
      rw [if_neg c4] at hb ⊢
      by_cases c5 : nth s 2 < 128 ∨ 191 < nth s 2
      · rw [if_pos c5] at hb; exact absurd ⟨rfl, rfl⟩ hb
      rw [if_neg c5] at hb ⊢
      have hE0 : nth s 0 = 224 → 160 ≤ nth s 1 := fun h => by
        have : lo (nth s 0) = 160 := by rw [h]; rfl
        omega
      have hF0 : nth s 0 = 240 → 144 ≤ nth s 1 := fun h => by
        have : lo (nth s 0) = 144 := by rw [h]; rfl
        omega
      have hhi : hi (nth s 0) ≤ 191 := by unfold hi; (repeat' split) <;> omega
      by_cases c6 : sz (nth s 0) ≤ 3
      · rw [if_pos c6]
        have hsz := sz_three (show sz (nth s 0) = 3 by omega)
        refine ⟨by simp only; omega, ?_⟩
        clear hd hb hE0 hF0 hhi
        have c2' : 3 ≤ s.length := by omega
        clear c2 c4 c6 hsz hz
        match s with
        | [] => exact absurd rfl h0
        | [a] => simp at c2'
        | [a, b] => simp at c2'
        | a :: b :: c :: s =>
          simp only [nth, List.getD_cons_zero, List.getD_cons_succ] at c3 c5 ha hlo
          simp; omega
      rw [if_neg c6] at hb ⊢
      by_cases c7 : nth s 3 < 128 ∨ 191 < nth s 3
      · rw [if_pos c7] at hb; exact absurd ⟨rfl, rfl⟩ hb
      rw [if_neg c7]
      have hsz := sz_four (show sz (nth s 0) = 4 by rcases sz_cases (nth s 0) with h | h | h | h <;> omega)
      refine ⟨by simp only; omega, ?_⟩
      clear hd hb hE0 hF0 hhi
      have c2' : 4 ≤ s.length := by rcases sz_cases (nth s 0) with h | h | h | h <;> omega
      clear c2 c4 c6 hsz hz
      match s with
      | [] => exact absurd rfl h0
      | [a] => simp at c2'
      | [a, b] => simp at c2'
      | [a, b, c] => simp at c2'
      | a :: b :: c :: d :: s =>
        simp only [nth, List.getD_cons_zero, List.getD_cons_succ] at c3 c5 c7 ha hlo
        simp; omega
  rw [asc_high high.2]
  simp; exact high.1

theorem rd_asc (n : Nat) : ∀ s : List UInt8, s.length ≤ n → ((rd s).2.filter fun c => decide (c < 128)) = asc s := by
  induction n with
  | zero => intro s h; obtain rfl := List.eq_nil_of_length_eq_zero (Nat.le_zero.mp h); rw [rd_stop (s := []) (Or.inl rfl)]; rfl
  | succ n ih =>
    intro s h
    by_cases hs : s = [] ∨ beg s = true
    · rw [rd_stop hs]
      rcases hs with rfl | hs
      · rfl
      · exact (asc_high (beg_high hs)).symm
    · have h0 : s ≠ [] := fun e => hs (Or.inl e)
      have h1 : beg s = false := by cases e : beg s with | true => exact absurd (Or.inr e) hs | false => rfl
      have hp := first_pos s
      have := ih (s.drop (first s).2) (by simp only [List.length_drop]; omega)
      have hsp : asc s = asc (s.take (first s).2) ++ asc (s.drop (first s).2) := by rw [← asc_app, List.take_append_drop]
      rw [rd_step h0 h1, hsp, ← first_asc h0, ← this, ← List.filter_append]
      rfl

/-! what is written is read -/
def fixR (c : Int) : Nat := if (0 ≤ c ∧ c < 55296) ∨ (57344 ≤ c ∧ c ≤ 1114111) then c.toNat else 65533

theorem enc_nat (c : Int) : encodeRune c = encodeRune (fixR c : Int) := by
  unfold fixR
  split
  · rename_i h; rw [Int.toNat_of_nonneg (by omega)]
  · rename_i h
    unfold encodeRune
    rw [encodeRuneZ_bad (by omega)]; rfl

theorem fixR_rune (c : Int) : isRune (fixR c) := by unfold fixR isRune; split <;> omega

def encN (r : Nat) : List Nat :=
  if r < 128 then [r] else if r < 2048 then [192 + r / 64, 128 + r % 64] else if r < 65536 then [224 + r / 4096, 128 + r / 64 % 64, 128 + r % 64]
  else [240 + r / 262144, 128 + r / 4096 % 64, 128 + r / 64 % 64, 128 + r % 64]

theorem encN_eq {r : Nat} (h : isRune r) : encodeRune (r : Int) = (encN r).map Nat.toUInt8 := by
  unfold isRune at h
  unfold encodeRune encN
  by_cases c0 : r < 128
  · rw [encodeRuneZ_one (by omega) (by omega), if_pos c0]; rfl
  rw [if_neg c0]
  by_cases c1 : r < 2048
  · rw [encodeRuneZ_two (by omega) (by omega), if_pos c1]
    simp only [List.map_cons, List.map_nil, List.cons.injEq, and_true]
    exact ⟨congrArg _ (by omega), congrArg _ (by omega)⟩
  rw [if_neg c1]
  by_cases c2 : r < 65536
  · rw [encodeRuneZ_three (by omega), if_pos c2]
    simp only [List.map_cons, List.map_nil, List.cons.injEq, and_true]
    exact ⟨congrArg _ (by omega), congrArg _ (by omega), congrArg _ (by omega)⟩
  rw [encodeRuneZ_four (by omega) (by omega), if_neg c2]
  simp only [List.map_cons, List.map_nil, List.cons.injEq, and_true]
  exact ⟨congrArg _ (by omega), congrArg _ (by omega), congrArg _ (by omega), congrArg _ (by omega)⟩

theorem u8_nat {n : Nat} (h : n < 256) : (Nat.toUInt8 n).toNat = n := by
  simp [Nat.toUInt8, Nat.mod_eq_of_lt h]

theorem rd_enc {r : Nat} (h : isRune r) (t : List UInt8) : rd (encodeRune (r : Int) ++ t) = ((rd t).1, r :: (rd t).2) := by
  rw [encN_eq h]
  unfold isRune at h
  unfold encN
  by_cases c0 : r < 128
  · rw [if_pos c0]
    simp only [List.map_cons, List.map_nil, List.cons_append, List.nil_append]
    have e0 := u8_nat (n := r) (by omega)
    generalize r.toUInt8 = a at e0
    have hd : dec (a :: t) = (r, 1) := by unfold dec nth; simp only [List.getD_cons_zero, e0]; unfold decodeN; rw [if_pos c0]
    have hb : beg (a :: t) = false := by
      have : sz a.toNat = 1 := by rw [e0]; exact sz_low c0
      match t with
      | [] => simp [beg, this]
      | [b] => simp [beg, this]
      | [b, c] => simp [beg, this]
      | b :: c :: d :: t => rfl
    have hf : first (a :: t) = (r, 1) := by unfold first; rw [hd, if_neg (by simp only; omega)]
    rw [rd_step (by simp) hb, hf]; rfl
  rw [if_neg c0]
  by_cases c1 : r < 2048
  · rw [if_pos c1]
    simp only [List.map_cons, List.map_nil, List.cons_append, List.nil_append]
    have e0 := u8_nat (n := 192 + r / 64) (by omega)
    have e1 := u8_nat (n := 128 + r % 64) (by omega)
    generalize (192 + r / 64).toUInt8 = a at e0
    generalize (128 + r % 64).toUInt8 = b at e1
    have hd : dec (a :: b :: t) = (r, 2) := by
      unfold dec nth; simp only [List.getD_cons_zero, List.getD_cons_succ, e0, e1, List.length_cons]; unfold decodeN
      rw [if_neg (by omega), if_pos (by omega), if_pos (by omega)]
      refine Prod.ext ?_ rfl
      simp only; omega
    have hb : beg (a :: b :: t) = false := by
      have : sz a.toNat = 2 := by
        rw [e0]; unfold sz
        rw [if_neg (by omega), if_pos (by omega)]
      match t with
      | [] => simp [beg, this]
      | [c] => simp [beg, this]
      | c :: d :: t => rfl
    have hf : first (a :: b :: t) = (r, 2) := by unfold first; rw [hd, if_neg (by simp only; omega)]
    rw [rd_step (by simp) hb, hf]; rfl
  rw [if_neg c1]
  by_cases c2 : r < 65536
  · rw [if_pos c2]
    simp only [List.map_cons, List.map_nil, List.cons_append, List.nil_append]
    have e0 := u8_nat (n := 224 + r / 4096) (by omega)
    have e1 := u8_nat (n := 128 + r / 64 % 64) (by omega)
    have e2 := u8_nat (n := 128 + r % 64) (by omega)
    generalize (224 + r / 4096).toUInt8 = a at e0
    generalize (128 + r / 64 % 64).toUInt8 = b at e1
    generalize (128 + r % 64).toUInt8 = c at e2
    have hd : dec (a :: b :: c :: t) = (r, 3) := by
      unfold dec nth; simp only [List.getD_cons_zero, List.getD_cons_succ, e0, e1, e2, List.length_cons]; unfold decodeN
      rw [if_neg (by omega), if_neg (by omega), if_pos (by omega), if_pos (by omega)]
      refine Prod.ext ?_ rfl
      simp only; omega
    have hb : beg (a :: b :: c :: t) = false := by
      have : sz a.toNat = 3 := by
        rw [e0]; unfold sz
        rw [if_neg (by omega), if_neg (by omega), if_pos (by omega)]
      match t with
      | [] => simp [beg, this]
      | d :: t => rfl
    have hf : first (a :: b :: c :: t) = (r, 3) := by unfold first; rw [hd, if_neg (by simp only; omega)]
    rw [rd_step (by simp) hb, hf]; rfl
  rw [if_neg c2]
  simp only [List.map_cons, List.map_nil, List.cons_append, List.nil_append]
  have e0 := u8_nat (n := 240 + r / 262144) (by omega)
  have e1 := u8_nat (n := 128 + r / 4096 % 64) (by omega)
  have e2 := u8_nat (n := 128 + r / 64 % 64) (by omega)
  have e3 := u8_nat (n := 128 + r % 64) (by omega)
  generalize (240 + r / 262144).toUInt8 = a at e0
  generalize (128 + r / 4096 % 64).toUInt8 = b at e1
  generalize (128 + r / 64 % 64).toUInt8 = c at e2
  generalize (128 + r % 64).toUInt8 = d at e3
  have hd : dec (a :: b :: c :: d :: t) = (r, 4) := by
    unfold dec nth; simp only [List.getD_cons_zero, List.getD_cons_succ, e0, e1, e2, e3, List.length_cons]; unfold decodeN
    rw [if_neg (by omega), if_neg (by omega), if_neg (by omega), if_pos (by omega), if_pos (by omega)]
    refine Prod.ext ?_ rfl
    simp only; omega
  have hf : first (a :: b :: c :: d :: t) = (r, 4) := by unfold first; rw [hd, if_neg (by simp only; omega)]
  rw [rd_step (by simp) rfl, hf]; rfl

def encAll (l : List Int) : List UInt8 := (l.map encodeRune).flatten

theorem rd_encAll (l : List Int) : rd (encAll l) = ([], l.map fixR) := by
  induction l with
  | nil => exact rd_stop (Or.inl rfl)
  | cons c l ih =>
    have : encAll (c :: l) = encodeRune (fixR c : Int) ++ encAll l := by rw [← enc_nat]; rfl
    rw [this, rd_enc (fixR_rune c), ih]; rfl

theorem encodeRune_len (c : Int) : (encodeRune c).length ≤ 4 := by unfold encodeRune; rw [List.length_map]; exact (encodeRuneZ_length c).2
theorem encAll_len (l : List Int) : (encAll l).length ≤ 4 * l.length := by
  induction l with
  | nil => simp [encAll]
  | cons c l ih =>
    have : encAll (c :: l) = encodeRune c ++ encAll l := rfl
    have := encodeRune_len c
    simp_all only [List.length_append, List.length_cons]; omega

end Go.Proofs.YtneiiinheimglaaGreatDoor.U
