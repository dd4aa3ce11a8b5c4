/-
  How an option stands, as plain functions: what is heard, what is asked for; the cells of a Neg. No condition.
-/
import Derived.Below
namespace Go.Proofs.Ytfehlfjondelnab.Q
open Go.RowKit

/-- the state behind what is heard, what is said, whether he was wrong -/
def hear (s : Int) (on ag : Bool) : Int × Int × Bool :=
  if on then
    if s = 0 then (if ag then (1, 1, false) else (0, 2, false))
    else if s = 2 then (0, 0, true) else if s = 3 then (1, 0, true) else if s = 4 then (1, 0, false) else if s = 5 then (2, 2, false) else (s, 0, false)
  else if s = 1 then (0, 2, false) else if s = 3 then (4, 1, false) else if s = 2 then (0, 0, false) else if s = 4 then (0, 0, false) else if s = 5 then (0, 0, false) else (s, 0, false)

/-- the state behind an ask, what is said, the error -/
def ask (s : Int) (on : Bool) : Int × Int × Int :=
  if s < 0 then (s, 0, 1) else if 5 < s then (s, 0, 1)
  else if on then
    if s = 0 then (4, 1, 0) else if s = 2 then (3, 0, 0) else if s = 5 then (4, 0, 0) else (s, 0, 7)
  else if s = 1 then (2, 2, 0) else if s = 3 then (2, 0, 0) else if s = 4 then (5, 0, 0) else (s, 0, 7)

theorem st_cases (s : Int) : s = 0 ∨ s = 1 ∨ s = 2 ∨ s = 3 ∨ s = 4 ∨ s = 5 ∨ (s < 0 ∨ 5 < s) := by omega

/-- a number in a cell -/
def st (l : List Value) (j : Nat) : Int := intOf (l.getD j undef)

/-- the cells of a Neg -/
structure NegL (l : List Value) : Prop where
  len : l.length = 520
  u8 : ∀ j, j < 512 → ∃ x : Nat, x < 256 ∧ l[j]? = some (.int .u8 x)
  u64 : ∀ j, 512 ≤ j → j < 520 → ∃ x : Nat, x < 18446744073709551616 ∧ l[j]? = some (.int .u64 x)

theorem NegL.byte {l : List Value} (h : NegL l) {j : Nat} (hj : j < 512) : l[j]? = some (.int .u8 (st l j)) ∧ 0 ≤ st l j ∧ st l j < 256 := by
  obtain ⟨x, hx, e⟩ := h.u8 j hj
  have : st l j = (x : Int) := by unfold st; rw [List.getD_eq_getElem?_getD, e]; rfl
  rw [this]
  exact ⟨e, by omega, by omega⟩
theorem NegL.word {l : List Value} (h : NegL l) {j : Nat} (h1 : 512 ≤ j) (h2 : j < 520) : l[j]? = some (.int .u64 (st l j)) ∧ 0 ≤ st l j ∧ st l j < 18446744073709551616 := by
  obtain ⟨x, hx, e⟩ := h.u64 j h1 h2
  have : st l j = (x : Int) := by unfold st; rw [List.getD_eq_getElem?_getD, e]; rfl
  rw [this]
  exact ⟨e, by omega, by omega⟩

/-- all states are states -/
def right (l : List Value) : Bool := (List.range 512).all fun j => decide (st l j ≤ 5)
theorem right_iff (l : List Value) : right l = true ↔ ∀ j, j < 512 → st l j ≤ 5 := by
  unfold right
  rw [List.all_eq_true]
  exact ⟨fun h j hj => of_decide_eq_true (h j (List.mem_range.2 hj)), fun h j hj => decide_eq_true (h j (List.mem_range.1 hj))⟩
theorem right_yes {l : List Value} (h : right l = true) : ∀ j, j < 512 → st l j ≤ 5 := (right_iff l).1 h
theorem right_mk {l : List Value} (h : ∀ j, j < 256 → st l j ≤ 5 ∧ st l (256 + j) ≤ 5) : right l = true := (right_iff l).2 fun j hj => by
  by_cases h1 : j < 256
  · exact (h j h1).1
  · have := (h (j - 256) (by omega)).2
    rwa [show 256 + (j - 256) = j by omega] at this
theorem right_no {l : List Value} {j : Nat} (hj : j < 512) (h : 5 < st l j) : right l = false := by
  rw [Bool.eq_false_iff]
  intro hh
  have := right_yes hh j hj
  omega

/-- where an option's state lies -/
def place (us : Bool) (opt : Nat) : Nat := if us then opt else 256 + opt
/-- a state put in its place -/
def putSt (l : List Value) (us : Bool) (opt : Nat) (s : Int) : List Value := l.set (place us opt) (.int .u8 s)
/-- may it be on? -/
def may (l : List Value) (us : Bool) (opt : Nat) : Bool := Nat.testBit (st l ((if us then 512 else 516) + opt / 64)).toNat (opt % 64)

theorem place_lt (us : Bool) {opt : Nat} (h : opt < 256) : place us opt < 512 := by unfold place; split <;> omega

theorem NegL.put {l : List Value} (h : NegL l) (us : Bool) {opt : Nat} (ho : opt < 256) {s : Int} (h0 : 0 ≤ s) (h1 : s < 256) : NegL (putSt l us opt s) := by
  have hp := place_lt us ho
  have hl := h.len
  refine ⟨by simpa [putSt] using h.len, fun j hj => ?_, fun j h2 h3 => ?_⟩
  · by_cases e : place us opt = j
    · subst e
      exact ⟨s.toNat, by omega, by unfold putSt; rw [List.getElem?_set_self (by omega)]; simp [Int.toNat_of_nonneg h0]⟩
    · unfold putSt
      rw [List.getElem?_set_ne e]
      exact h.u8 j hj
  · unfold putSt
    rw [List.getElem?_set_ne (by omega)]
    exact h.u64 j h2 h3
theorem putSt_same {l : List Value} (h : NegL l) (us : Bool) {opt : Nat} (ho : opt < 256) : putSt l us opt (st l (place us opt)) = l := by
  obtain ⟨e, _⟩ := h.byte (place_lt us ho)
  unfold putSt
  rw [List.getElem?_eq_some_iff] at e
  obtain ⟨hlt, e⟩ := e
  rw [← e]
  exact List.set_getElem_self hlt
theorem NegL.one {l : List Value} (h : NegL l) : ∀ v ∈ l, v.oneCell' = true := by
  intro v hv
  obtain ⟨j, hj, rfl⟩ := List.mem_iff_getElem.1 hv
  have hl := h.len
  have e0 := List.getElem?_eq_getElem hj
  by_cases h1 : j < 512
  · obtain ⟨x, _, e⟩ := h.u8 j h1
    rw [e] at e0
    rw [← Option.some.inj e0]
    rfl
  · obtain ⟨x, _, e⟩ := h.u64 j (by omega) (by omega)
    rw [e] at e0
    rw [← Option.some.inj e0]
    rfl
end Go.Proofs.Ytfehlfjondelnab.Q
