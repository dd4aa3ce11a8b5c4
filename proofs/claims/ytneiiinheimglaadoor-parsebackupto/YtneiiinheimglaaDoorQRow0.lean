/-
  Laws, of no program: a load and a store of a row of cells, as one operation of a walk: the row is what the cells hold; and the states that a drawn region keeps. No condition but the bounds that each law names.
-/
import Derived.Test.YtneiiinheimglaaDoorQMem
import Derived.Deep.RegionHeld3
namespace Go.Proofs.YtneiiinheimglaaDoor.Q
open Go.RowKit

/-- n cells lie behind a pointer, and they are l -/
def Lies (w : World) (v : Value) (n : Nat) : Prop := ∃ b o, v = .pointer (some ⟨b, o, none⟩) ∧ ∀ j, j < n → (w.cell? ⟨b, o + j, none⟩).isSome = true ∧ w.frozen? ⟨b, o + j, none⟩ = false
/-- the cells behind a pointer -/
def rowAt (w : World) (v : Value) (n : Nat) : List Value :=
  match v with
  | .pointer (some ad) => (List.range n).map fun j => (w.cell? ⟨ad.block, ad.off + j, none⟩).getD undef
  | _ => []
/-- a value of n cells -/
def Holds (v : Value) (n : Nat) : Prop := ∃ l : List Value, v = .agg l.toArray ∧ l.length = n ∧ ∀ u ∈ l, u.oneCell' = true
/-- a row written behind a pointer -/
def putAt (w : World) (v u : Value) : World :=
  match v, u with
  | .pointer (some ad), .agg cs => w.setCells ad.block ad.off cs.toList
  | _, _ => w

theorem rowAt_length (w : World) (b o n : Nat) : (rowAt w (.pointer (some ⟨b, o, none⟩)) n).length = n := by simp [rowAt]
theorem rowAt_range (w : World) (b o n : Nat) (h : ∀ j, j < n → (w.cell? ⟨b, o + j, none⟩).isSome = true ∧ w.frozen? ⟨b, o + j, none⟩ = false) : w.rangeAt b o (rowAt w (.pointer (some ⟨b, o, none⟩)) n) := fun j v hv => by
  unfold rowAt at hv
  simp only [List.getElem?_map] at hv
  by_cases hj : j < n
  · rw [List.getElem?_range hj] at hv
    obtain ⟨u, hu⟩ := Option.isSome_iff_exists.1 (h j hj).1
    simp only [Option.map_some, hu, Option.getD_some, Option.some.injEq] at hv
    rw [hu, hv]
  · rw [List.getElem?_eq_none (by simp; omega)] at hv
    simp at hv

section
variable {P : Program}
theorem exec_load (ty : TypeId) (n : Nat) (d : TypeDesc) (hu : P.underlying ty = some d) (hd : d.isRow = true) (hi : (P.info? ty).map (·.size) = some n)
    (ρ : Operand → Value) (x : Operand) (dst : Option Tmp) (t : TypeId) (pos : String) (af : Array Edge) (g : Option (Nat × Bool)) (w : World) (h : Lies w (ρ x) n) :
    (execOp ρ { dst := dst, op := .load ty x, type := t, pos := pos, after := af, guard := g }).run P w = .ok (.value (.agg (rowAt w (ρ x) n).toArray)) w := by
  obtain ⟨b, o, e, hc⟩ := h
  unfold execOp
  simp only [e, Instr.loadAt, Instr.sureAddr, Sem.run_bind, Sem.run_pure, Result.andThen_ok]
  rw [run_loadVar_mid w b o ty (rowAt w (.pointer (some ⟨b, o, none⟩)) n) d (rowAt_range w b o n hc) hu hd (by rw [rowAt_length]; exact hi)]
  rfl
theorem exec_store (ty : TypeId) (n : Nat) (hi : (P.info? ty).map (·.size) = some n)
    (ρ : Operand → Value) (x y : Operand) (dst : Option Tmp) (t : TypeId) (pos : String) (af : Array Edge) (g : Option (Nat × Bool)) (w : World) (h : Lies w (ρ x) n) (hy : Holds (ρ y) n) :
    (execOp ρ { dst := dst, op := .store ty x y, type := t, pos := pos, after := af, guard := g }).run P w = .ok .skip (putAt w (ρ x) (ρ y)) := by
  obtain ⟨b, o, e, hc⟩ := h
  obtain ⟨l, e2, hl, h1⟩ := hy
  unfold execOp
  simp only [e, e2, putAt, Instr.storeAt, Instr.sureAddr, Sem.run_bind, Sem.run_pure, Result.andThen_ok]
  rw [run_storeVar_mid w b o ty l.toArray (by rw [List.size_toArray, hl]; exact hc) (by simpa [hl] using hi) (all_oneCell_toArray h1)]
  rfl
end

section
variable {w w' : World} {b : Nat} {t : TypeId} {l : List Value}
theorem Box.lies (h : Box w b t l) {o n : Nat} (hn : o + n ≤ l.length) : Lies w (.pointer (some ⟨b, o, none⟩)) n := ⟨b, o, rfl, h.there hn⟩
theorem Box.lies0 (h : Box w b t l) {n : Nat} (hn : l.length = n) : Lies w (.pointer (some ⟨b, 0, none⟩)) n := h.lies (by omega)
theorem Box.row (h : Box w b t l) {o n : Nat} (hn : o + n ≤ l.length) : rowAt w (.pointer (some ⟨b, o, none⟩)) n = (l.drop o).take n := by
  apply List.ext_getElem?
  intro j
  unfold rowAt
  simp only [List.getElem?_map]
  by_cases hj : j < n
  · have e := h.cell (List.getElem?_eq_getElem (show o + j < l.length by omega))
    rw [List.getElem?_range hj, List.getElem?_take, if_pos hj, List.getElem?_drop, List.getElem?_eq_getElem (show o + j < l.length by omega)]
    simp only [Option.map_some, e, Option.getD_some]
  · rw [List.getElem?_eq_none (by simp; omega), List.getElem?_eq_none (by simp; omega)]
    rfl
theorem Box.row0 (h : Box w b t l) {n : Nat} (hn : l.length = n) : rowAt w (.pointer (some ⟨b, 0, none⟩)) n = l := by
  rw [h.row (by omega), List.drop_zero, List.take_of_length_le (by omega)]
theorem Box.putAt (h : Box w b t l) (cs : List Value) (hn : l.length = cs.length) : Stored w (putAt w (.pointer (some ⟨b, 0, none⟩)) (.agg cs.toArray)) b t cs := by
  have := Stored.cells h 0 cs
  rw [lay_whole _ _ hn] at this
  exact this
end
end Go.Proofs.YtneiiinheimglaaDoor.Q
