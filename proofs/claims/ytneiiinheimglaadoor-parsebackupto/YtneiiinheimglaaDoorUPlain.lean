/-
  Plain functions, of no program: what package utf does with bytes, as functions on lists; no condition.
-/
import Derived.Lib.DecodeNEq
namespace Go.Proofs.YtneiiinheimglaaDoor.U
open Go.Lib

def sz (a : Nat) : Nat := if a < 194 then 1 else if a < 224 then 2 else if a < 240 then 3 else if a < 245 then 4 else 1
def lo (a : Nat) : Nat := if a = 224 then 160 else if a = 240 then 144 else 128
def hi (a : Nat) : Nat := if a = 237 then 159 else if a = 244 then 143 else 191

/-- a beginning -/
def beg : List UInt8 → Bool
  | [a] => decide (2 ≤ sz a.toNat)
  | [a, b] => decide (3 ≤ sz a.toNat ∧ lo a.toNat ≤ b.toNat ∧ b.toNat ≤ hi a.toNat)
  | [a, b, c] => decide (4 ≤ sz a.toNat ∧ lo a.toNat ≤ b.toNat ∧ b.toNat ≤ hi a.toNat ∧ 128 ≤ c.toNat ∧ c.toNat ≤ 191)
  | _ => false

def nth (s : List UInt8) (k : Nat) : Nat := (s.getD k 0).toNat

def dec (s : List UInt8) : Nat × Nat := decodeN s.length (nth s 0) (nth s 1) (nth s 2) (nth s 3)

def badLen (s : List UInt8) : Nat :=
  if 1 < s.length ∧ beg (s.take 2) = true then (if 2 < s.length ∧ beg (s.take 3) = true then 3 else 2) else 1

def first (s : List UInt8) : Nat × Nat := if (dec s).2 = 1 ∧ (dec s).1 = 65533 then (65533, badLen s) else dec s

theorem badLen_pos (s : List UInt8) : 1 ≤ badLen s := by unfold badLen; (repeat' split) <;> omega
theorem dec_pos (s : List UInt8) : 1 ≤ (dec s).2 := by
  unfold dec decodeN
  repeat' split
  all_goals simp
theorem first_pos (s : List UInt8) : 1 ≤ (first s).2 := by
  unfold first
  split
  · exact badLen_pos s
  · exact dec_pos s

/-- the reader, with fuel -/
def rdF : Nat → List UInt8 → List UInt8 × List Nat
  | 0, s => (s, [])
  | f + 1, s => if s = [] ∨ beg s = true then (s, []) else ((rdF f (s.drop (first s).2)).1, (first s).1 :: (rdF f (s.drop (first s).2)).2)
def rd (s : List UInt8) : List UInt8 × List Nat := rdF s.length s

theorem rdF_stop (f : Nat) {s : List UInt8} (h : s = [] ∨ beg s = true) : rdF f s = (s, []) := by
  cases f with
  | zero => rfl
  | succ f => rw [rdF, if_pos h]
theorem rdF_eq : ∀ (f g : Nat) (s : List UInt8), s.length ≤ f → s.length ≤ g → rdF f s = rdF g s
  | 0, g, s, hf, _ => by
    obtain rfl := List.eq_nil_of_length_eq_zero (Nat.le_zero.mp hf)
    rw [rdF_stop g (.inl rfl)]; rfl
  | f + 1, 0, s, _, hg => by
    obtain rfl := List.eq_nil_of_length_eq_zero (Nat.le_zero.mp hg)
    rw [rdF_stop (f + 1) (.inl rfl)]; rfl
  | f + 1, g + 1, s, hf, hg => by
    by_cases h : s = [] ∨ beg s = true
    · rw [rdF_stop _ h, rdF_stop _ h]
    · have hp := first_pos s
      have hl : (s.drop (first s).2).length = s.length - (first s).2 := List.length_drop
      rw [rdF, rdF, if_neg h, if_neg h, rdF_eq f g (s.drop (first s).2) (by omega) (by omega)]

theorem rd_stop {s : List UInt8} (h : s = [] ∨ beg s = true) : rd s = (s, []) := rdF_stop _ h
theorem rd_step {s : List UInt8} (h0 : s ≠ []) (h1 : beg s = false) : rd s = ((rd (s.drop (first s).2)).1, (first s).1 :: (rd (s.drop (first s).2)).2) := by
  have hp := first_pos s
  have hl : (s.drop (first s).2).length = s.length - (first s).2 := List.length_drop
  have hn : s.length ≠ 0 := fun e => h0 (List.eq_nil_of_length_eq_zero e)
  obtain ⟨k, hk⟩ : ∃ k, s.length = k + 1 := ⟨s.length - 1, by omega⟩
  have e : rdF k (s.drop (first s).2) = rd (s.drop (first s).2) := rdF_eq _ _ _ (by omega) (Nat.le_refl _)
  unfold rd
  rw [hk, rdF, if_neg (by simp [h0, h1]), e]
  rfl

/-- Go's table way, by sizes -/
theorem dec_eq (n b0 b1 b2 b3 : Nat) (hn : 1 ≤ n) (h0 : b0 < 256) (h1 : b1 < 256) (h2 : b2 < 256) (h3 : b3 < 256) :
    decodeN n b0 b1 b2 b3 = if b0 < 128 then (b0, 1) else if sz b0 = 1 then (65533, 1) else slowN n b0 b1 b2 b3 (sz b0) (lo b0) (hi b0) := by
  by_cases a : b0 < 128
  · simp [decodeN, a]
  rw [if_neg a]
  by_cases b : sz b0 = 1
  · rw [if_pos b]
    refine bad_eq n b0 b1 b2 b3 h0 ?_
    unfold sz at b; unfold firstT
    repeat' split at b
    all_goals repeat' split
    all_goals omega
  rw [if_neg b]
  have hx : firstT b0 < 240 ∧ firstT b0 % 8 = sz b0 ∧ accLo (firstT b0 / 16) = lo b0 ∧ accHi (firstT b0 / 16) = hi b0 := by
    have : 194 ≤ b0 ∧ b0 < 245 := by unfold sz at b; (repeat' split at b) <;> omega
    have key : ∀ k : Fin 256, 194 ≤ k.val ∧ k.val < 245 → firstT k.val < 240 ∧ firstT k.val % 8 = sz k.val ∧ accLo (firstT k.val / 16) = lo k.val ∧ accHi (firstT k.val / 16) = hi k.val := by decide +kernel
    exact key ⟨b0, h0⟩ this
  rw [← slow_eq n b0 b1 b2 b3 hn h1 h2 h3 hx.1, hx.2.1, hx.2.2.1, hx.2.2.2]

theorem nth_lt (s : List UInt8) (k : Nat) : nth s k < 256 := (s.getD k 0).toNat_lt

theorem sz_cases (a : Nat) : sz a = 1 ∨ sz a = 2 ∨ sz a = 3 ∨ sz a = 4 := by unfold sz; (repeat' split) <;> simp
theorem sz_low {a : Nat} (h : a < 128) : sz a = 1 := by unfold sz; rw [if_pos (by omega)]

theorem dec_eq' {s : List UInt8} (h0 : s ≠ []) : dec s = if nth s 0 < 128 then (nth s 0, 1) else if sz (nth s 0) = 1 then (65533, 1) else slowN s.length (nth s 0) (nth s 1) (nth s 2) (nth s 3) (sz (nth s 0)) (lo (nth s 0)) (hi (nth s 0)) :=
  dec_eq _ _ _ _ _ (Nat.pos_of_ne_zero fun e => h0 (List.eq_nil_of_length_eq_zero e)) (nth_lt _ _) (nth_lt _ _) (nth_lt _ _) (nth_lt _ _)

end Go.Proofs.YtneiiinheimglaaDoor.U
