/-
  Plain laws: which bytes are a rune's, by trying; what a beginning is, by what may stand behind it; no condition.
-/
import Derived.Test.YtjnopjjbndknfaaDoorULaw2
namespace Go.Proofs.YtjnopjjbndknfaaDoor.U
open Go.Lib

def whole (s : List UInt8) : Bool := decide (s ≠ [] ∧ (dec s).2 = s.length ∧ ¬ ((dec s).2 = 1 ∧ (dec s).1 = 65533))

def val (m : Nat) : List UInt8 → Nat
  | [] => 0
  | a :: t => t.foldl (fun c b => 64 * c + b.toNat % 64) (a.toNat % m)

theorem W1 (a : Nat) (ha : a < 256) : (((decodeN 1 a 0 0 0).2 = 1 ∧ ¬ ((decodeN 1 a 0 0 0).2 = 1 ∧ (decodeN 1 a 0 0 0).1 = 65533)) ↔ (isRune (a % 128) ∧ encN (a % 128) = [a])) ∧ ((decodeN 1 a 0 0 0).2 = 1 → (decodeN 1 a 0 0 0).1 ≠ 65533 → (decodeN 1 a 0 0 0).1 = a % 128) := by
  by_cases h : a < 128
  · have hd : decodeN 1 a 0 0 0 = (a, 1) := by unfold decodeN; rw [if_pos h]
    rw [hd]
    have e : a % 128 = a := by omega
    rw [e]
    unfold isRune encN
    rw [if_pos h]
    simp; omega
  · have hd : decodeN 1 a 0 0 0 = (65533, 1) := by
      unfold decodeN
      rw [if_neg h, if_neg (by omega), if_neg (by omega), if_neg (by omega)]
    rw [hd]
    unfold isRune encN
    rw [if_pos (by omega)]
    simp; omega

theorem W2 (a b : Nat) (ha : a < 256) (hb : b / 64 = 2) : ((decodeN 2 a b 0 0).2 = 2 ↔ (isRune (64 * (a % 64) + b % 64) ∧ encN (64 * (a % 64) + b % 64) = [a, b])) ∧ ((decodeN 2 a b 0 0).2 = 2 → (decodeN 2 a b 0 0).1 = 64 * (a % 64) + b % 64) := by
  unfold decodeN encN isRune
  repeat' split
  all_goals simp
  all_goals omega

set_option maxHeartbeats 4000000 in
theorem W3 (a b c : Nat) (ha : a < 256) (hb : b / 64 = 2) (hc : c / 64 = 2) : ((decodeN 3 a b c 0).2 = 3 ↔ (isRune (64 * (64 * (a % 32) + b % 64) + c % 64) ∧ encN (64 * (64 * (a % 32) + b % 64) + c % 64) = [a, b, c])) ∧ ((decodeN 3 a b c 0).2 = 3 → (decodeN 3 a b c 0).1 = 64 * (64 * (a % 32) + b % 64) + c % 64) := by
  unfold decodeN encN isRune
  repeat' split
  all_goals simp
  all_goals omega

set_option maxHeartbeats 4000000 in
theorem W4 (a b c d : Nat) (ha : a < 256) (hb : b / 64 = 2) (hc : c / 64 = 2) (hd : d / 64 = 2) : ((decodeN 4 a b c d).2 = 4 ↔ (isRune (64 * (64 * (64 * (a % 16) + b % 64) + c % 64) + d % 64) ∧ encN (64 * (64 * (64 * (a % 16) + b % 64) + c % 64) + d % 64) = [a, b, c, d])) ∧ ((decodeN 4 a b c d).2 = 4 → (decodeN 4 a b c d).1 = 64 * (64 * (64 * (a % 16) + b % 64) + c % 64) + d % 64) := by
  unfold decodeN encN isRune
  repeat' split
  all_goals simp
  all_goals omega

theorem encN_lt (v : Nat) (h : isRune v) : ∀ x ∈ encN v, x < 256 := by
  unfold isRune at h
  unfold encN
  repeat' split
  all_goals simp
  all_goals omega

theorem enc_iff {v : Nat} (h : isRune v) (s : List UInt8) : encodeRune (v : Int) = s ↔ encN v = s.map UInt8.toNat := by
  rw [encN_eq h]
  constructor
  · rintro rfl
    rw [List.map_map]
    have : ∀ l : List Nat, (∀ x ∈ l, x < 256) → l = l.map (UInt8.toNat ∘ Nat.toUInt8) := by
      intro l hl
      induction l with
      | nil => rfl
      | cons x l ih =>
        rw [List.map_cons, ← ih (fun y hy => hl y (List.mem_cons_of_mem _ hy))]
        simp only [Function.comp, u8_nat (hl x List.mem_cons_self)]
    exact this _ (encN_lt v h)
  · intro e
    rw [e, List.map_map]
    have : (Nat.toUInt8 ∘ UInt8.toNat) = id := by
      funext x
      simp [Function.comp]
    rw [this, List.map_id]

/-- all bytes but the first are of the middle -/
def conts (s : List UInt8) : Prop := ∀ b ∈ s.tail, b.toNat / 64 = 2

def lead (n : Nat) : Nat := if n = 1 then 128 else if n = 2 then 64 else if n = 3 then 32 else 16

theorem whole_val {s : List UInt8} (h1 : 1 ≤ s.length) (h4 : s.length ≤ 4) (hc : conts s) :
    (whole s = true ↔ (isRune (val (lead s.length) s) ∧ encodeRune (val (lead s.length) s : Nat) = s)) ∧ (whole s = true → (dec s).1 = val (lead s.length) s) := by
  have key : ∀ v, (isRune v ∧ encodeRune (v : Nat) = s) ↔ (isRune v ∧ encN v = s.map UInt8.toNat) := fun v =>
    ⟨fun h => ⟨h.1, (enc_iff h.1 s).1 h.2⟩, fun h => ⟨h.1, (enc_iff h.1 s).2 h.2⟩⟩
  rw [key]
  unfold whole
  rw [decide_eq_true_eq]
  match s, h1, h4 with
  | [a], _, _ =>
    have W := W1 a.toNat a.toNat_lt
    have hd : dec [a] = decodeN 1 a.toNat 0 0 0 := rfl
    have hv : val (lead [a].length) [a] = a.toNat % 128 := rfl
    rw [hd, hv]
    simp only [List.length_cons, List.length_nil, List.map_cons, List.map_nil, Nat.zero_add]
    refine ⟨?_, fun h => W.2 h.2.1 (fun e => h.2.2 ⟨h.2.1, e⟩)⟩
    rw [← W.1]
    simp
  | [a, b], _, _ =>
    have W := W2 a.toNat b.toNat a.toNat_lt (hc b (by simp))
    have hd : dec [a, b] = decodeN 2 a.toNat b.toNat 0 0 := rfl
    have hv : val (lead [a, b].length) [a, b] = 64 * (a.toNat % 64) + b.toNat % 64 := rfl
    rw [hd, hv]
    simp only [List.length_cons, List.length_nil, List.map_cons, List.map_nil, Nat.zero_add, Nat.reduceAdd]
    refine ⟨?_, fun h => W.2 h.2.1⟩
    rw [← W.1]
    constructor
    · exact fun h => h.2.1
    · exact fun h => ⟨by simp, h, by omega⟩
  | [a, b, c], _, _ =>
    have W := W3 a.toNat b.toNat c.toNat a.toNat_lt (hc b (by simp)) (hc c (by simp))
    have hd : dec [a, b, c] = decodeN 3 a.toNat b.toNat c.toNat 0 := rfl
    have hv : val (lead [a, b, c].length) [a, b, c] = 64 * (64 * (a.toNat % 32) + b.toNat % 64) + c.toNat % 64 := rfl
    rw [hd, hv]
    simp only [List.length_cons, List.length_nil, List.map_cons, List.map_nil, Nat.zero_add, Nat.reduceAdd]
    refine ⟨?_, fun h => W.2 h.2.1⟩
    rw [← W.1]
    constructor
    · exact fun h => h.2.1
    · exact fun h => ⟨by simp, h, by omega⟩
  | [a, b, c, d], _, _ =>
    have W := W4 a.toNat b.toNat c.toNat d.toNat a.toNat_lt (hc b (by simp)) (hc c (by simp)) (hc d (by simp))
    have hd : dec [a, b, c, d] = decodeN 4 a.toNat b.toNat c.toNat d.toNat := rfl
    have hv : val (lead [a, b, c, d].length) [a, b, c, d] = 64 * (64 * (64 * (a.toNat % 16) + b.toNat % 64) + c.toNat % 64) + d.toNat % 64 := rfl
    rw [hd, hv]
    simp only [List.length_cons, List.length_nil, List.map_cons, List.map_nil, Nat.zero_add, Nat.reduceAdd]
    refine ⟨?_, fun h => W.2 h.2.1⟩
    rw [← W.1]
    constructor
    · exact fun h => h.2.1
    · exact fun h => ⟨by simp, h, by omega⟩

/-! ranges -/
theorem whole_one (a : UInt8) : whole [a] = true ↔ a.toNat < 128 := by
  unfold whole
  rw [decide_eq_true_eq]
  have hd : dec [a] = decodeN 1 a.toNat 0 0 0 := rfl
  by_cases h : a.toNat < 128
  · have : decodeN 1 a.toNat 0 0 0 = (a.toNat, 1) := by unfold decodeN; rw [if_pos h]
    rw [hd, this]; simp [h]; omega
  · have : decodeN 1 a.toNat 0 0 0 = (65533, 1) := by unfold decodeN; rw [if_neg h, if_neg (by omega), if_neg (by omega), if_neg (by omega)]
    rw [hd, this]; simp [h]

theorem whole_more {s : List UInt8} (h2 : 2 ≤ s.length) : whole s = true ↔ (sz (nth s 0) = s.length ∧ lo (nth s 0) ≤ nth s 1 ∧ nth s 1 ≤ hi (nth s 0) ∧ (3 ≤ s.length → 128 ≤ nth s 2 ∧ nth s 2 ≤ 191) ∧ (4 ≤ s.length → 128 ≤ nth s 3 ∧ nth s 3 ≤ 191)) := by
  have h0 : s ≠ [] := fun e => by rw [e] at h2; simp at h2
  unfold whole
  rw [decide_eq_true_eq, dec_eq' h0]
  by_cases c0 : nth s 0 < 128
  · rw [if_pos c0, sz_low c0]
    constructor
    · rintro ⟨_, h, _⟩; simp only at h; omega
    · rintro ⟨h, _⟩; omega
  rw [if_neg c0]
  rcases sz_cases (nth s 0) with h | h | h | h
  · rw [if_pos h, h]
    constructor
    · rintro ⟨_, h, _⟩; simp only at h; omega
    · rintro ⟨h, _⟩; omega
  all_goals
    rw [if_neg (by omega), h]
    unfold slowN
    repeat' split
    all_goals simp only [ne_eq, h0, not_false_eq_true, true_and]
    all_goals omega

theorem whole_not_beg {s : List UInt8} (h : whole s = true) : beg s = false := by
  match s with
  | [] => rfl
  | [a] => rw [whole_one] at h; simp only [beg, sz_low h]; decide
  | [a, b] =>
    rw [whole_more (by simp)] at h
    have : sz a.toNat = 2 := h.1
    simp [beg, this]
  | [a, b, c] =>
    rw [whole_more (by simp)] at h
    have : sz a.toNat = 3 := h.1
    simp [beg, this]
  | a :: b :: c :: d :: t => rfl

theorem whole_len {s : List UInt8} (h : whole s = true) : 1 ≤ s.length ∧ s.length ≤ 4 := by
  match s with
  | [] => simp [whole] at h
  | [a] => simp
  | a :: b :: t =>
    rw [whole_more (by simp)] at h
    refine ⟨by simp, ?_⟩
    rcases sz_cases (nth (a :: b :: t) 0) with e | e | e | e <;> omega

/-- what a rune's bytes begin with -/
theorem beg_of_whole (L X : List UInt8) (h0 : L ≠ []) (hX : X ≠ []) (h : whole (L ++ X) = true) : beg L = true := by
  have hl := whole_len h
  have hL : 1 ≤ L.length := Nat.pos_of_ne_zero fun e => h0 (List.eq_nil_of_length_eq_zero e)
  have hXl : 1 ≤ X.length := Nat.pos_of_ne_zero fun e => hX (List.eq_nil_of_length_eq_zero e)
  rw [List.length_append] at hl
  rw [whole_more (by rw [List.length_append]; omega), List.length_append] at h
  match L, h0 with
  | [a], _ =>
    have e : nth ([a] ++ X) 0 = a.toNat := rfl
    rw [e] at h
    simp only [beg, decide_eq_true_eq]
    simp only [List.length_cons, List.length_nil] at h
    omega
  | [a, b], _ =>
    have e : nth ([a, b] ++ X) 0 = a.toNat := rfl
    have e1 : nth ([a, b] ++ X) 1 = b.toNat := rfl
    rw [e, e1] at h
    simp only [beg, decide_eq_true_eq]
    simp only [List.length_cons, List.length_nil] at h
    omega
  | [a, b, c], _ =>
    have e : nth ([a, b, c] ++ X) 0 = a.toNat := rfl
    have e1 : nth ([a, b, c] ++ X) 1 = b.toNat := rfl
    have e2 : nth ([a, b, c] ++ X) 2 = c.toNat := rfl
    rw [e, e1, e2] at h
    simp only [beg, decide_eq_true_eq]
    simp only [List.length_cons, List.length_nil] at h hl
    omega
  | a :: b :: c :: d :: t, _ => simp only [List.length_cons] at hl; omega

end Go.Proofs.YtjnopjjbndknfaaDoor.U
