/-
  Plain laws: which bytes are a rune's, by trying; what a beginning is, by what may stand behind it; no condition.
  Plain laws: what stands at the front, by trying the first bytes, one to four; no condition.
-/
import Derived.Test.YtneiiinheimglaaGreatDoorJ18
namespace Go.Proofs.YtneiiinheimglaaGreatDoor.U
open Go.Lib

def whole (s : List UInt8) : Bool := decide (s ≠ [] ∧ (dec s).2 = s.length ∧ ¬ ((dec s).2 = 1 ∧ (dec s).1 = 65533))

def val (m : Nat) : List UInt8 → Nat
  | [] => 0
  | a :: t => t.foldl (fun c b => 64 * c + b.toNat % 64) (a.toNat % m)

theorem W1 (a : Nat) (ha : a < 256) : (((decodeN 1 a 0 0 0).2 = 1 ∧ ¬ ((decodeN 1 a 0 0 0).2 = 1 ∧ (decodeN 1 a 0 0 0).1 = 65533)) ↔ (isRune (a % 128) ∧ encN (a % 128) = [a])) ∧ ((decodeN 1 a 0 0 0).2 = 1 → (decodeN 1 a 0 0 0).1 ≠ 65533 → (decodeN 1 a 0 0 0).1 = a % 128) := by
  by_cases h : a < 128
  · have hd : decodeN 1 a 0 0 0 = (a, 1) := by unfold decodeN; rw [if_pos h]
    rw [hd]
    have e : a % 128 = a := by omega
    rw [e]
    unfold isRune encN
    rw [if_pos h]
    simp; omega
  · have hd : decodeN 1 a 0 0 0 = (65533, 1) := by
      unfold decodeN
      rw [if_neg h, if_neg (by omega), if_neg (by omega), if_neg (by omega)]
    rw [hd]
    unfold isRune encN
    rw [if_pos (by omega)]
    simp; omega

theorem W2 (a b : Nat) (ha : a < 256) (hb : b / 64 = 2) : ((decodeN 2 a b 0 0).2 = 2 ↔ (isRune (64 * (a % 64) + b % 64) ∧ encN (64 * (a % 64) + b % 64) = [a, b])) ∧ ((decodeN 2 a b 0 0).2 = 2 → (decodeN 2 a b 0 0).1 = 64 * (a % 64) + b % 64) := by
  unfold decodeN encN isRune
  repeat' split
  all_goals simp
  all_goals omega

set_option maxHeartbeats 4000000 in
theorem W3 (a b c : Nat) (ha : a < 256) (hb : b / 64 = 2) (hc : c / 64 = 2) : ((decodeN 3 a b c 0).2 = 3 ↔ (isRune (64 * (64 * (a % 32) + b % 64) + c % 64) ∧ encN (64 * (64 * (a % 32) + b % 64) + c % 64) = [a, b, c])) ∧ ((decodeN 3 a b c 0).2 = 3 → (decodeN 3 a b c 0).1 = 64 * (64 * (a % 32) + b % 64) + c % 64) := by
  unfold decodeN encN isRune
  repeat' split
  all_goals simp
  all_goals omega

set_option maxHeartbeats 4000000 in
theorem W4 (a b c d : Nat) (ha : a < 256) (hb : b / 64 = 2) (hc : c / 64 = 2) (hd : d / 64 = 2) : ((decodeN 4 a b c d).2 = 4 ↔ (isRune (64 * (64 * (64 * (a % 16) + b % 64) + c % 64) + d % 64) ∧ encN (64 * (64 * (64 * (a % 16) + b % 64) + c % 64) + d % 64) = [a, b, c, d])) ∧ ((decodeN 4 a b c d).2 = 4 → (decodeN 4 a b c d).1 = 64 * (64 * (64 * (a % 16) + b % 64) + c % 64) + d % 64) := by
  unfold decodeN encN isRune
  repeat' split
  all_goals simp
  all_goals omega

theorem encN_lt (v : Nat) (h : isRune v) : ∀ x ∈ encN v, x < 256 := by
  unfold isRune at h
  unfold encN
  repeat' split
  all_goals simp
  all_goals omega

theorem enc_iff {v : Nat} (h : isRune v) (s : List UInt8) : encodeRune (v : Int) = s ↔ encN v = s.map UInt8.toNat := by
  rw [encN_eq h]
  constructor
  · rintro rfl
    rw [List.map_map]
    have : ∀ l : List Nat, (∀ x ∈ l, x < 256) → l = l.map (UInt8.toNat ∘ Nat.toUInt8) := by
      intro l hl
      induction l with
      | nil => rfl
      | cons x l ih =>
        rw [List.map_cons, ← ih (fun y hy => hl y (List.mem_cons_of_mem _ hy))]
        simp only [Function.comp, u8_nat (hl x List.mem_cons_self)]
    exact this _ (encN_lt v h)
  · intro e
    rw [e, List.map_map]
    have : (Nat.toUInt8 ∘ UInt8.toNat) = id := by
      funext x
      simp [Function.comp]
    rw [this, List.map_id]

/-- all bytes but the first are of the middle -/
def conts (s : List UInt8) : Prop := ∀ b ∈ s.tail, b.toNat / 64 = 2

def lead (n : Nat) : Nat := if n = 1 then 128 else if n = 2 then 64 else if n = 3 then 32 else 16

theorem whole_val {s : List UInt8} (h1 : 1 ≤ s.length) (h4 : s.length ≤ 4) (hc : conts s) :
    (whole s = true ↔ (isRune (val (lead s.length) s) ∧ encodeRune (val (lead s.length) s : Nat) = s)) ∧ (whole s = true → (dec s).1 = val (lead s.length) s) := by
  have key : ∀ v, (isRune v ∧ encodeRune (v : Nat) = s) ↔ (isRune v ∧ encN v = s.map UInt8.toNat) := fun v =>
    ⟨fun h => ⟨h.1, (enc_iff h.1 s).1 h.2⟩, fun h => ⟨h.1, (enc_iff h.1 s).2 h.2⟩⟩
  rw [key]
  unfold whole
  rw [decide_eq_true_eq]
  match s, h1, h4 with
  | [a], _, _ =>
    have W := W1 a.toNat a.toNat_lt
    have hd : dec [a] = decodeN 1 a.toNat 0 0 0 := rfl
    have hv : val (lead [a].length) [a] = a.toNat % 128 := rfl
    rw [hd, hv]
    simp only [List.length_cons, List.length_nil, List.map_cons, List.map_nil, Nat.zero_add]
    refine ⟨?_, fun h => W.2 h.2.1 (fun e => h.2.2 ⟨h.2.1, e⟩)⟩
    rw [← W.1]
    simp
  | [a, b], _, _ =>
    have W := W2 a.toNat b.toNat a.toNat_lt (hc b (by simp))
    have hd : dec [a, b] = decodeN 2 a.toNat b.toNat 0 0 := rfl
    have hv : val (lead [a, b].length) [a, b] = 64 * (a.toNat % 64) + b.toNat % 64 := rfl
    rw [hd, hv]
    simp only [List.length_cons, List.length_nil, List.map_cons, List.map_nil, Nat.zero_add, Nat.reduceAdd]
    refine ⟨?_, fun h => W.2 h.2.1⟩
    rw [← W.1]
    constructor
    · exact fun h => h.2.1
    · exact fun h => ⟨by simp, h, by omega⟩
  | [a, b, c], _, _ =>
    have W := W3 a.toNat b.toNat c.toNat a.toNat_lt (hc b (by simp)) (hc c (by simp))
    have hd : dec [a, b, c] = decodeN 3 a.toNat b.toNat c.toNat 0 := rfl
    have hv : val (lead [a, b, c].length) [a, b, c] = 64 * (64 * (a.toNat % 32) + b.toNat % 64) + c.toNat % 64 := rfl
    rw [hd, hv]
    simp only [List.length_cons, List.length_nil, List.map_cons, List.map_nil, Nat.zero_add, Nat.reduceAdd]
    refine ⟨?_, fun h => W.2 h.2.1⟩
    rw [← W.1]
    constructor
    · exact fun h => h.2.1
    · exact fun h => ⟨by simp, h, by omega⟩
  | [a, b, c, d], _, _ =>
    have W := W4 a.toNat b.toNat c.toNat d.toNat a.toNat_lt (hc b (by simp)) (hc c (by simp)) (hc d (by simp))
    have hd : dec [a, b, c, d] = decodeN 4 a.toNat b.toNat c.toNat d.toNat := rfl
    have hv : val (lead [a, b, c, d].length) [a, b, c, d] = 64 * (64 * (64 * (a.toNat % 16) + b.toNat % 64) + c.toNat % 64) + d.toNat % 64 := rfl
    rw [hd, hv]
    simp only [List.length_cons, List.length_nil, List.map_cons, List.map_nil, Nat.zero_add, Nat.reduceAdd]
    refine ⟨?_, fun h => W.2 h.2.1⟩
    rw [← W.1]
    constructor
    · exact fun h => h.2.1
    · exact fun h => ⟨by simp, h, by omega⟩

/-! ranges -/
theorem whole_one (a : UInt8) : whole [a] = true ↔ a.toNat < 128 := by
  unfold whole
  rw [decide_eq_true_eq]
  have hd : dec [a] = decodeN 1 a.toNat 0 0 0 := rfl
  by_cases h : a.toNat < 128
  · have : decodeN 1 a.toNat 0 0 0 = (a.toNat, 1) := by unfold decodeN; rw [if_pos h]
    rw [hd, this]; simp [h]; omega
  · have : decodeN 1 a.toNat 0 0 0 = (65533, 1) := by unfold decodeN; rw [if_neg h, if_neg (by omega), if_neg (by omega), if_neg (by omega)]
    rw [hd, this]; simp [h]

theorem whole_more {s : List UInt8} (h2 : 2 ≤ s.length) : whole s = true ↔ (sz (nth s 0) = s.length ∧ lo (nth s 0) ≤ nth s 1 ∧ nth s 1 ≤ hi (nth s 0) ∧ (3 ≤ s.length → 128 ≤ nth s 2 ∧ nth s 2 ≤ 191) ∧ (4 ≤ s.length → 128 ≤ nth s 3 ∧ nth s 3 ≤ 191)) := by
  have h0 : s ≠ [] := fun e => by rw [e] at h2; simp at h2
  unfold whole
  rw [decide_eq_true_eq, dec_eq' h0]
  by_cases c0 : nth s 0 < 128
  · rw [if_pos c0, sz_low c0]
    constructor
    · rintro ⟨_, h, _⟩; simp only at h; omega
    · rintro ⟨h, _⟩; omega
  rw [if_neg c0]
  rcases sz_cases (nth s 0) with h | h | h | h
  · rw [if_pos h, h]
    constructor
    · rintro ⟨_, h, _⟩; simp only at h; omega
    · rintro ⟨h, _⟩; omega
  all_goals
    rw [if_neg (by omega), h]
    unfold slowN
    repeat' split
    all_goals simp only [ne_eq, h0, not_false_eq_true, true_and]
    all_goals omega

theorem whole_not_beg {s : List UInt8} (h : whole s = true) : beg s = false := by
  match s with
  | [] => rfl
  | [a] => rw [whole_one] at h; simp only [beg, sz_low h]; decide
  | [a, b] =>
    rw [whole_more (by simp)] at h
    have : sz a.toNat = 2 := h.1
    simp [beg, this]
  | [a, b, c] =>
    rw [whole_more (by simp)] at h
    have : sz a.toNat = 3 := h.1
    simp [beg, this]
  | a :: b :: c :: d :: t => rfl

theorem whole_len {s : List UInt8} (h : whole s = true) : 1 ≤ s.length ∧ s.length ≤ 4 := by
  match s with
  | [] => simp [whole] at h
  | [a] => simp
  | a :: b :: t =>
    rw [whole_more (by simp)] at h
    refine ⟨by simp, ?_⟩
    rcases sz_cases (nth (a :: b :: t) 0) with e | e | e | e <;> omega

/-- what a rune's bytes begin with -/
theorem beg_of_whole (L X : List UInt8) (h0 : L ≠ []) (hX : X ≠ []) (h : whole (L ++ X) = true) : beg L = true := by
  have hl := whole_len h
  have hL : 1 ≤ L.length := Nat.pos_of_ne_zero fun e => h0 (List.eq_nil_of_length_eq_zero e)
  have hXl : 1 ≤ X.length := Nat.pos_of_ne_zero fun e => hX (List.eq_nil_of_length_eq_zero e)
  rw [List.length_append] at hl
  rw [whole_more (by rw [List.length_append]; omega), List.length_append] at h
  match L, h0 with
  | [a], _ =>
    have e : nth ([a] ++ X) 0 = a.toNat := rfl
    rw [e] at h
    simp only [beg, decide_eq_true_eq]
    simp only [List.length_cons, List.length_nil] at h
    omega
  | [a, b], _ =>
    have e : nth ([a, b] ++ X) 0 = a.toNat := rfl
    have e1 : nth ([a, b] ++ X) 1 = b.toNat := rfl
    rw [e, e1] at h
    simp only [beg, decide_eq_true_eq]
    simp only [List.length_cons, List.length_nil] at h
    omega
  | [a, b, c], _ =>
    have e : nth ([a, b, c] ++ X) 0 = a.toNat := rfl
    have e1 : nth ([a, b, c] ++ X) 1 = b.toNat := rfl
    have e2 : nth ([a, b, c] ++ X) 2 = c.toNat := rfl
    rw [e, e1, e2] at h
    simp only [beg, decide_eq_true_eq]
    simp only [List.length_cons, List.length_nil] at h hl
    omega
  | a :: b :: c :: d :: t, _ => simp only [List.length_cons] at hl; omega

end Go.Proofs.YtneiiinheimglaaGreatDoor.U
namespace Go.Proofs.YtneiiinheimglaaGreatDoor.U
open Go.Lib

def wl (s : List UInt8) : Nat :=
  if 1 ≤ s.length ∧ whole (s.take 1) = true then 1 else if 2 ≤ s.length ∧ whole (s.take 2) = true then 2
  else if 3 ≤ s.length ∧ whole (s.take 3) = true then 3 else if 4 ≤ s.length ∧ whole (s.take 4) = true then 4 else 0
def bl (s : List UInt8) : Nat :=
  if 3 ≤ s.length ∧ beg (s.take 3) = true then 3 else if 2 ≤ s.length ∧ beg (s.take 2) = true then 2 else if 1 ≤ s.length ∧ beg (s.take 1) = true then 1 else 0

theorem take_ne (s : List UInt8) (j : Nat) (h1 : 1 ≤ j) (h : j ≤ s.length) : s.take j ≠ [] := fun e => by
  have := congrArg List.length e
  rw [List.length_take, List.length_nil] at this
  omega

theorem whole_once (s : List UInt8) (j k : Nat) (h1 : 1 ≤ j) (hjk : j < k) (hk : k ≤ s.length) (hj : whole (s.take j) = true) : whole (s.take k) = false := by
  cases hw : whole (s.take k) with
  | false => rfl
  | true =>
    exfalso
    have e : s.take k = s.take j ++ (s.take k).drop j := by
      have : s.take j = (s.take k).take j := by rw [List.take_take, Nat.min_eq_left (by omega)]
      rw [this, List.take_append_drop]
    have hl : ((s.take k).drop j).length = k - j := by simp; omega
    rw [e] at hw
    have := beg_of_whole (s.take j) _ (take_ne s j h1 (by omega)) (fun e => by rw [e] at hl; simp at hl; omega) hw
    rw [whole_not_beg hj] at this
    cases this

theorem wl_spec (s : List UInt8) (k : Nat) (h1 : 1 ≤ k) (h4 : k ≤ 4) (hk : k ≤ s.length) : whole (s.take k) = decide (k = wl s) := by
  have o := whole_once s
  unfold wl
  by_cases a1 : 1 ≤ s.length ∧ whole (s.take 1) = true
  · rw [if_pos a1]
    by_cases e : k = 1
    · subst e; simp [a1.2]
    · rw [o 1 k (by omega) (by omega) hk a1.2]; simp [e]
  rw [if_neg a1]
  by_cases a2 : 2 ≤ s.length ∧ whole (s.take 2) = true
  · rw [if_pos a2]
    rcases (by omega : k = 1 ∨ k = 2 ∨ 2 < k) with rfl | rfl | e
    · cases h : whole (s.take 1) with
      | true => exact absurd ⟨hk, h⟩ a1
      | false => rfl
    · simp [a2.2]
    · rw [o 2 k (by omega) e hk a2.2]; simp; omega
  rw [if_neg a2]
  by_cases a3 : 3 ≤ s.length ∧ whole (s.take 3) = true
  · rw [if_pos a3]
    rcases (by omega : k = 1 ∨ k = 2 ∨ k = 3 ∨ 3 < k) with rfl | rfl | rfl | e
    · cases h : whole (s.take 1) with
      | true => exact absurd ⟨hk, h⟩ a1
      | false => rfl
    · cases h : whole (s.take 2) with
      | true => exact absurd ⟨hk, h⟩ a2
      | false => rfl
    · simp [a3.2]
    · rw [o 3 k (by omega) e hk a3.2]; simp; omega
  rw [if_neg a3]
  have key : ∀ j, 1 ≤ j → j ≤ 3 → j ≤ s.length → whole (s.take j) = false := fun j h1 h2 h3 => by
    cases h : whole (s.take j) with
    | false => rfl
    | true =>
      rcases (by omega : j = 1 ∨ j = 2 ∨ j = 3) with rfl | rfl | rfl
      · exact absurd ⟨h3, h⟩ a1
      · exact absurd ⟨h3, h⟩ a2
      · exact absurd ⟨h3, h⟩ a3
  by_cases a4 : 4 ≤ s.length ∧ whole (s.take 4) = true
  · rw [if_pos a4]
    rcases (by omega : k ≤ 3 ∨ k = 4) with e | rfl
    · rw [key k h1 e hk]; simp; omega
    · simp [a4.2]
  · rw [if_neg a4]
    rcases (by omega : k ≤ 3 ∨ k = 4) with e | rfl
    · rw [key k h1 e hk]; simp; omega
    · cases h : whole (s.take 4) with
      | true => exact absurd ⟨hk, h⟩ a4
      | false => rfl

theorem wl_le (s : List UInt8) : wl s ≤ 4 ∧ wl s ≤ s.length ∧ (wl s ≠ 0 → whole (s.take (wl s)) = true) := by
  unfold wl
  by_cases a1 : 1 ≤ s.length ∧ whole (s.take 1) = true
  · rw [if_pos a1]; exact ⟨by omega, a1.1, fun _ => a1.2⟩
  rw [if_neg a1]
  by_cases a2 : 2 ≤ s.length ∧ whole (s.take 2) = true
  · rw [if_pos a2]; exact ⟨by omega, a2.1, fun _ => a2.2⟩
  rw [if_neg a2]
  by_cases a3 : 3 ≤ s.length ∧ whole (s.take 3) = true
  · rw [if_pos a3]; exact ⟨by omega, a3.1, fun _ => a3.2⟩
  rw [if_neg a3]
  by_cases a4 : 4 ≤ s.length ∧ whole (s.take 4) = true
  · rw [if_pos a4]; exact ⟨by omega, a4.1, fun _ => a4.2⟩
  rw [if_neg a4]
  exact ⟨by omega, by omega, fun h => absurd rfl h⟩

theorem whole_first {t : List UInt8} (h : whole t = true) : first t = ((dec t).1, t.length) := by
  unfold whole at h
  rw [decide_eq_true_eq] at h
  unfold first
  rw [if_neg h.2.2, ← h.2.1]

theorem beg_app_false (s t : List UInt8) (h0 : s ≠ []) (h1 : beg s = false) : beg (s ++ t) = false := by
  match s, h0 with
  | [a], _ =>
    simp only [beg, decide_eq_false_iff_not] at h1
    match t with
    | [] => simpa [beg] using h1
    | [b] => simp [beg]; omega
    | [b, c] => simp [beg]; omega
    | b :: c :: d :: t => rfl
  | [a, b], _ =>
    simp only [beg, decide_eq_false_iff_not] at h1
    match t with
    | [] => simpa [beg] using h1
    | [c] => simp [beg]; omega
    | c :: d :: t => rfl
  | [a, b, c], _ =>
    match t with
    | [] => simpa using h1
    | d :: t => rfl
  | a :: b :: c :: d :: s, _ => rfl

theorem wl_first (s : List UInt8) (h : wl s ≠ 0) : first s = ((dec (s.take (wl s))).1, wl s) ∧ beg s = false := by
  obtain ⟨h4, hl, hw⟩ := wl_le s
  have hw := hw h
  have hne : s.take (wl s) ≠ [] := take_ne s _ (by omega) hl
  have hb := whole_not_beg hw
  have e : s.take (wl s) ++ s.drop (wl s) = s := List.take_append_drop _ _
  have hf := first_app (s.take (wl s)) (s.drop (wl s)) hne hb
  have hb2 := beg_app_false (s.take (wl s)) (s.drop (wl s)) hne hb
  rw [e] at hf hb2
  rw [hf, whole_first hw]
  refine ⟨?_, hb2⟩
  have : (s.take (wl s)).length = wl s := by simp; omega
  rw [this]

theorem beg_take (s : List UInt8) (j k : Nat) (h1 : 1 ≤ j) (hjk : j ≤ k) (hk : k ≤ s.length) (h : beg (s.take k) = true) : beg (s.take j) = true := by
  cases hb : beg (s.take j) with
  | true => rfl
  | false =>
    exfalso
    have e : s.take k = s.take j ++ (s.take k).drop j := by
      have : s.take j = (s.take k).take j := by rw [List.take_take, Nat.min_eq_left (by omega)]
      rw [this, List.take_append_drop]
    have := beg_app_false (s.take j) ((s.take k).drop j) (take_ne s j h1 (by omega)) hb
    rw [← e, h] at this
    cases this

theorem bl_spec (s : List UInt8) (k : Nat) (h1 : 1 ≤ k) (h3 : k ≤ 3) (hk : k ≤ s.length) : beg (s.take k) = decide (k ≤ bl s) := by
  have o := beg_take s
  unfold bl
  by_cases a3 : 3 ≤ s.length ∧ beg (s.take 3) = true
  · rw [if_pos a3, o k 3 h1 h3 a3.1 a3.2]; simp; omega
  rw [if_neg a3]
  have k3 : k = 3 → beg (s.take k) = false := fun e => by
    subst e
    cases h : beg (s.take 3) with
    | true => exact absurd ⟨hk, h⟩ a3
    | false => rfl
  by_cases a2 : 2 ≤ s.length ∧ beg (s.take 2) = true
  · rw [if_pos a2]
    rcases (by omega : k ≤ 2 ∨ k = 3) with e | e
    · rw [o k 2 h1 e a2.1 a2.2]; simp; omega
    · rw [k3 e]; simp; omega
  rw [if_neg a2]
  have k2 : 2 ≤ k → beg (s.take k) = false := fun e => by
    cases h : beg (s.take k) with
    | false => rfl
    | true => exact absurd ⟨by omega, o 2 k (by omega) e hk h⟩ a2
  by_cases a1 : 1 ≤ s.length ∧ beg (s.take 1) = true
  · rw [if_pos a1]
    rcases (by omega : k = 1 ∨ 2 ≤ k) with rfl | e
    · rw [a1.2]; rfl
    · rw [k2 e]; simp; omega
  · rw [if_neg a1]
    rcases (by omega : k = 1 ∨ 2 ≤ k) with rfl | e
    · cases h : beg (s.take 1) with
      | true => exact absurd ⟨hk, h⟩ a1
      | false => rfl
    · rw [k2 e]; simp; omega

theorem bl_le (s : List UInt8) : bl s ≤ 3 ∧ bl s ≤ s.length := by
  unfold bl
  repeat' split
  all_goals omega

theorem bl_stop (s : List UInt8) (h0 : s ≠ []) : beg s = decide (bl s = s.length) := by
  have hl : 1 ≤ s.length := Nat.pos_of_ne_zero fun e => h0 (List.eq_nil_of_length_eq_zero e)
  have hb := bl_le s
  by_cases h3 : s.length ≤ 3
  · have := bl_spec s s.length hl h3 (Nat.le_refl _)
    rw [List.take_length] at this
    rw [this]
    congr 1
    apply propext
    omega
  · have hf : beg s = false := by
      cases h : beg s with
      | false => rfl
      | true => exact absurd (beg_len h).2 h3
    rw [hf]; simp; omega

theorem nth_take (s : List UInt8) (n k : Nat) (h : k < n) : nth (s.take n) k = nth s k := by
  simp [nth, List.getD, h]

theorem dec_bad (s : List UInt8) (h0 : s ≠ []) (h : wl s = 0) : dec s = (65533, 1) := by
  have hl : 1 ≤ s.length := Nat.pos_of_ne_zero fun e => h0 (List.eq_nil_of_length_eq_zero e)
  have key : ∀ n, 1 ≤ n → n ≤ 4 → n ≤ s.length → whole (s.take n) = false := fun n h1 h2 h3 => by
    rw [wl_spec s n h1 h2 h3, h]; simp; omega
  have more : ∀ n, 2 ≤ n → n ≤ 4 → n ≤ s.length → ¬ (sz (nth s 0) = n ∧ lo (nth s 0) ≤ nth s 1 ∧ nth s 1 ≤ hi (nth s 0) ∧ (3 ≤ n → 128 ≤ nth s 2 ∧ nth s 2 ≤ 191) ∧ (4 ≤ n → 128 ≤ nth s 3 ∧ nth s 3 ≤ 191)) := by
    intro n h2 h4 hn hc
    have hln : (s.take n).length = n := by simp; omega
    have hw : whole (s.take n) = true := by
      rw [whole_more (by omega), hln, nth_take s n 0 (by omega), nth_take s n 1 (by omega)]
      refine ⟨hc.1, hc.2.1, hc.2.2.1, fun h => ?_, fun h => ?_⟩
      · rw [nth_take s n 2 (by omega)]; exact hc.2.2.2.1 h
      · rw [nth_take s n 3 (by omega)]; exact hc.2.2.2.2 h
    rw [key n (by omega) h4 hn] at hw
    cases hw
  rw [dec_eq' h0]
  by_cases c0 : nth s 0 < 128
  · exfalso
    have h1 := key 1 (by omega) (by omega) hl
    cases s with
    | nil => exact h0 rfl
    | cons a t =>
      have : whole [a] = true := (whole_one a).2 c0
      have e : (a :: t).take 1 = [a] := rfl
      rw [e, this] at h1
      cases h1
  rw [if_neg c0]
  rcases sz_cases (nth s 0) with e | e | e | e
  · rw [if_pos e]
  · rw [if_neg (by omega)]
    have m := more 2 (by omega) (by omega)
    unfold slowN
    repeat' split
    all_goals first | rfl | (exfalso; omega)
  · rw [if_neg (by omega)]
    have m := more 3 (by omega) (by omega)
    unfold slowN
    repeat' split
    all_goals first | rfl | (exfalso; omega)
  · rw [if_neg (by omega)]
    have m := more 4 (by omega) (by omega)
    unfold slowN
    repeat' split
    all_goals first | rfl | (exfalso; omega)

theorem bl_first (s : List UInt8) (h0 : s ≠ []) (h : wl s = 0) : first s = (65533, max (bl s) 1) := by
  have hl : 1 ≤ s.length := Nat.pos_of_ne_zero fun e => h0 (List.eq_nil_of_length_eq_zero e)
  unfold first
  rw [dec_bad s h0 h, if_pos ⟨rfl, rfl⟩]
  congr 1
  have o := beg_take s
  unfold badLen bl
  by_cases a2 : 2 ≤ s.length ∧ beg (s.take 2) = true
  · rw [if_pos ⟨by omega, a2.2⟩]
    by_cases a3 : 3 ≤ s.length ∧ beg (s.take 3) = true
    · rw [if_pos ⟨by omega, a3.2⟩, if_pos a3]; rfl
    · rw [if_neg (fun h => a3 ⟨by omega, h.2⟩), if_neg a3, if_pos a2]; rfl
  · rw [if_neg (fun h => a2 ⟨by omega, h.2⟩)]
    have a3 : ¬ (3 ≤ s.length ∧ beg (s.take 3) = true) := fun h => a2 ⟨by omega, o 2 3 (by omega) (by omega) h.1 h.2⟩
    rw [if_neg a3, if_neg a2]
    split <;> rfl

end Go.Proofs.YtneiiinheimglaaGreatDoor.U
