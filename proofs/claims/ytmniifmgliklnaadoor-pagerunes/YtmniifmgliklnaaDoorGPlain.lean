/-
  Pages of signs as plain functions: a page's sign at a byte, the least byte of a rune; a page's signs are no two the same. No condition.
-/
import Derived.Test.YtmniifmgliklnaaDoorMem
namespace Go.Proofs.YtmniifmgliklnaaDoor.G

def lineL : List Int := [160, 9670, 9618, 9225, 9228, 9229, 9226, 176, 177, 9252, 9227, 9496, 9488, 9484, 9492, 9532, 9146, 9147, 9472, 9148, 9149, 9500, 9508, 9524, 9516, 9474, 8804, 8805, 960, 8800, 163, 183]
/-- how many bytes of a page have a sign -/
def sz (p : Int) : Nat := if p = 2 then 256 else 128
/-- a byte's sign -/
def sg (p : Int) (b : Nat) : Int :=
  if sz p ≤ b then 65533 else if p = 4 ∧ b = 35 then 163 else if p = 3 ∧ 95 ≤ b ∧ b < 127 then lineL.getD (b - 95) 0 else (b : Int)
def isP (p : Int) : Bool := decide (1 ≤ p ∧ p ≤ 4)
/-- the least byte of a rune -/
def byF (p r : Int) : Option Nat := (List.range (sz p)).find? fun b => sg p b == r

theorem sz_le (p : Int) : sz p ≤ 256 := by unfold sz; split <;> omega
theorem byF_some {p r : Int} {b : Nat} (h : byF p r = some b) : b < sz p ∧ sg p b = r := by
  unfold byF at h
  have h1 := List.mem_of_find?_eq_some h
  have h2 := List.find?_some h
  exact ⟨List.mem_range.1 h1, by simpa using h2⟩
theorem byF_none {p r : Int} (h : ∀ b, b < sz p → sg p b ≠ r) : byF p r = none := by
  unfold byF
  rw [List.find?_eq_none]
  intro b hb
  simpa using h b (List.mem_range.1 hb)
theorem byF_first {p r : Int} {b : Nat} (hb : b < sz p) (h : sg p b = r) (hn : ∀ a, a < b → sg p a ≠ r) : byF p r = some b := by
  unfold byF
  rw [List.find?_range_eq_some]
  exact ⟨by simpa using h, by simpa using hb, fun a ha => by simpa using hn a ha⟩

theorem isP_cases {p : Int} (h : isP p = true) : p = 1 ∨ p = 2 ∨ p = 3 ∨ p = 4 := by
  have := of_decide_eq_true h
  omega

theorem sg_latin (b : Nat) (h : b < 256) : sg 2 b = (b : Int) := by
  unfold sg sz
  rw [if_neg (by simp; omega), if_neg (by simp), if_neg (by simp)]

set_option maxRecDepth 100000 in
theorem inj1 : ∀ a, a < 128 → ∀ b, b < 128 → sg 1 a = sg 1 b → a = b := by decide +kernel
set_option maxRecDepth 100000 in
theorem inj3 : ∀ a, a < 128 → ∀ b, b < 128 → sg 3 a = sg 3 b → a = b := by decide +kernel
set_option maxRecDepth 100000 in
theorem inj4 : ∀ a, a < 128 → ∀ b, b < 128 → sg 4 a = sg 4 b → a = b := by decide +kernel
theorem sg_inj {p : Int} (hp : isP p = true) {a b : Nat} (ha : a < sz p) (hb : b < sz p) (h : sg p a = sg p b) : a = b := by
  rcases isP_cases hp with rfl | rfl | rfl | rfl
  · exact inj1 a ha b hb h
  · rw [sg_latin a ha, sg_latin b hb] at h
    omega
  · exact inj3 a ha b hb h
  · exact inj4 a ha b hb h

theorem byF_sg {p : Int} (hp : isP p = true) {b : Nat} (hb : b < sz p) : byF p (sg p b) = some b :=
  byF_first hb rfl fun a ha e => by
    have := sg_inj hp (by omega) hb e
    omega

set_option maxRecDepth 100000 in
theorem not1 : ∀ a, a < 128 → sg 1 a ≠ 65533 := by decide +kernel
set_option maxRecDepth 100000 in
theorem not3 : ∀ a, a < 128 → sg 3 a ≠ 65533 := by decide +kernel
set_option maxRecDepth 100000 in
theorem not4 : ∀ a, a < 128 → sg 4 a ≠ 65533 := by decide +kernel
theorem byF_bad {p : Int} (hp : isP p = true) : byF p 65533 = none := by
  refine byF_none fun b hb => ?_
  rcases isP_cases hp with rfl | rfl | rfl | rfl
  · exact not1 b hb
  · rw [sg_latin b hb]
    have : b < 256 := hb
    omega
  · exact not3 b hb
  · exact not4 b hb
theorem sg_bad {p : Int} {b : Nat} (h : sz p ≤ b) : sg p b = 65533 := by unfold sg; rw [if_pos h]
theorem sg_q {p : Int} (hp : isP p = true) : sg p 63 = 63 := by
  rcases isP_cases hp with rfl | rfl | rfl | rfl <;> decide
theorem sz_q (p : Int) : 63 < sz p := by unfold sz; split <;> omega

/-- what is written for a rune -/
def wb (p r : Int) : UInt8 := ((byF p r).getD 63).toUInt8
def lost (p : Int) (l : List Int) : Nat := (l.filter fun r => (byF p r).isNone).length
theorem lost_le (p : Int) (l : List Int) : lost p l ≤ l.length := List.length_filter_le _ _
theorem byF_lt {p r : Int} {b : Nat} (h : byF p r = some b) : b < 256 := by
  have := (byF_some h).1
  have := sz_le p
  omega
theorem wb_nat {p r : Int} {b : Nat} (h : byF p r = some b) : (wb p r).toNat = b := by
  have := byF_lt h
  unfold wb
  rw [h]
  simp only [Option.getD_some, Nat.toUInt8, UInt8.toNat_ofNat']
  omega
theorem wb_q {p r : Int} (h : byF p r = none) : wb p r = 63 := by unfold wb; rw [h]; rfl
theorem lost_snoc (p : Int) (l : List Int) (k : Nat) (h : k < l.length) : lost p (l.take (k + 1)) = lost p (l.take k) + (if byF p l[k] = none then 1 else 0) := by
  unfold lost
  rw [List.take_succ_eq_append_getElem h, List.filter_append, List.length_append]
  congr 1
  cases hb : byF p l[k] with
  | none => simp [hb]
  | some b => simp [hb]
theorem map_snoc {α β : Type} (f : α → β) (l : List α) (k : Nat) (h : k < l.length) : (l.take (k + 1)).map f = (l.take k).map f ++ [f l[k]] := by
  rw [List.take_succ_eq_append_getElem h, List.map_append]
  rfl
end Go.Proofs.YtmniifmgliklnaaDoor.G
