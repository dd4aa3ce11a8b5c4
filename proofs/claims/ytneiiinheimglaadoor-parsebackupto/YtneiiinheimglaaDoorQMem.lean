/-
  Laws, of no program: a block that holds a list of cells, none of them frozen; it is read and written whole, in part, and cell by cell. No condition but the bounds that each law names.
-/
import Derived.Deep.MidRow
import Derived.Deep.WholeRow
import Derived.Below
import Derived.WalkKit
namespace Go.Proofs.YtneiiinheimglaaDoor.Q
open Go.RowKit

/-- block b holds the cells l -/
def Box (w : World) (b : Nat) (t : TypeId) (l : List Value) : Prop := w.heap[b]? = some (.cells l.toArray t (0, 0))

section
variable {w w' : World} {b : Nat} {t : TypeId} {l : List Value}
theorem Box.new (w : World) (t : TypeId) (l : List Value) : Box (w.alloc (.cells l.toArray t)) w.heap.size t l := heap_alloc_last w _
theorem Box.lt (h : Box w b t l) : b < w.heap.size := (Array.getElem?_eq_some_iff.1 h).1
theorem Box.alloc (h : Box w b t l) (o : Obj) : Box (w.alloc o) b t l := by
  unfold Box
  rw [Below.heap_alloc _ _ _ h.lt]
  exact h
theorem Box.kept (h : Box w b t l) (hk : w'.heap[b]? = w.heap[b]?) : Box w' b t l := by unfold Box; rw [hk]; exact h
theorem Box.below (h : Box w b t l) {B : Nat} (hb : Below B w w') (hB : b < B) : Box w' b t l := h.kept (hb.block b hB)
theorem Box.later (h : Box w b t l) (hb : Below w.heap.size w w') : Box w' b t l := h.below hb h.lt
theorem Box.drew (h : Box w b t l) : Box w.drew b t l := h
theorem Box.cell (h : Box w b t l) {j : Nat} {v : Value} (hj : l[j]? = some v) : w.cell? ⟨b, j, none⟩ = some v := by
  rw [cell_of_row w b j _ t _ h]
  simpa using hj
theorem Box.frozen (h : Box w b t l) (j : Nat) : w.frozen? ⟨b, j, none⟩ = false := frozen_of_row w b j _ t h
theorem Box.range (h : Box w b t l) (o n : Nat) : w.rangeAt b o ((l.drop o).take n) := fun j v hv => by
  refine h.cell ?_
  rw [List.getElem?_take, List.getElem?_drop] at hv
  split at hv
  · exact hv
  · cases hv
theorem Box.range0 (h : Box w b t l) : w.rangeAt b 0 l := fun j v hv => by
  rw [Nat.zero_add]
  exact h.cell hv
theorem Box.there (h : Box w b t l) {o n : Nat} (hn : o + n ≤ l.length) : w.there b o n := fun j hj =>
  ⟨by rw [h.cell (List.getElem?_eq_getElem (show o + j < l.length by omega))]; rfl, h.frozen _⟩
theorem Box.setCell (h : Box w b t l) (j : Nat) (v : Value) : Box (w.setCell ⟨b, j, none⟩ v) b t (l.set j v) := by
  unfold Box
  rw [heap_setCell_same w b j _ t v h]
  simp
theorem setCell_other (w : World) (b j : Nat) (v : Value) {k : Nat} (hk : k ≠ b) : (w.setCell ⟨b, j, none⟩ v).heap[k]? = w.heap[k]? := heap_setCell_other w ⟨b, j, none⟩ k v hk
end

/-- cells laid over others -/
def lay : List Value → Nat → List Value → List Value
  | l, _, [] => l
  | l, o, v :: r => lay (l.set o v) (o + 1) r
theorem lay_length (cs : List Value) : ∀ (l : List Value) (o : Nat), (lay l o cs).length = l.length := by
  induction cs with
  | nil => intro l o; rfl
  | cons v r ih => intro l o; rw [lay, ih]; simp
theorem lay_out (cs : List Value) : ∀ (l : List Value) (o j : Nat), (j < o ∨ o + cs.length ≤ j) → (lay l o cs)[j]? = l[j]? := by
  induction cs with
  | nil => intro l o j _; rfl
  | cons v r ih =>
    intro l o j h
    simp only [List.length_cons] at h
    rw [lay, ih _ _ _ (by omega), List.getElem?_set_ne (by omega)]
theorem lay_in (cs : List Value) : ∀ (l : List Value) (o j : Nat), o + cs.length ≤ l.length → o ≤ j → j < o + cs.length → (lay l o cs)[j]? = cs[j - o]? := by
  induction cs with
  | nil => intro l o j _ h1 h2; simp at h2; omega
  | cons v r ih =>
    intro l o j h h1 h2
    simp only [List.length_cons] at h h2
    rw [lay]
    by_cases e : j = o
    · subst e
      rw [lay_out _ _ _ _ (by omega), List.getElem?_set_self (by omega)]
      simp
    · rw [ih _ _ _ (by simp; omega) (by omega) (by omega), show j - o = (j - (o + 1)) + 1 by omega, List.getElem?_cons_succ]
theorem lay_whole (l cs : List Value) (h : l.length = cs.length) : lay l 0 cs = cs := by
  apply List.ext_getElem?
  intro j
  by_cases hj : j < cs.length
  · rw [lay_in _ _ _ _ (by omega) (by omega) (by omega)]; simp
  · rw [List.getElem?_eq_none (by rw [lay_length]; omega), List.getElem?_eq_none (by omega)]

theorem setCells_box : ∀ (cs l : List Value) (o : Nat) (w : World) (b : Nat) (t : TypeId), Box w b t l → Box (w.setCells b o cs) b t (lay l o cs)
  | [], _, _, _, _, _, h => h
  | v :: r, l, o, w, b, t, h => by
    rw [World.setCells, lay]
    exact setCells_box r _ _ _ _ _ (h.setCell o v)
theorem setCells_other : ∀ (cs : List Value) (o : Nat) (w : World) (b k : Nat), k ≠ b → (w.setCells b o cs).heap[k]? = w.heap[k]?
  | [], _, _, _, _, _ => rfl
  | v :: r, o, w, b, k, h => by
    rw [World.setCells, setCells_other r _ _ _ _ h]
    exact setCell_other w b o v h
theorem setCells_size : ∀ (cs : List Value) (o : Nat) (w : World) (b : Nat), (w.setCells b o cs).heap.size = w.heap.size
  | [], _, _, _ => rfl
  | v :: r, o, w, b => by
    rw [World.setCells, setCells_size r]
    simp [World.setCell]
theorem setCells_below : ∀ (cs : List Value) (o : Nat) (w W : World) (b B : Nat), Below B W w → B ≤ b → Below B W (w.setCells b o cs)
  | [], _, _, _, _, _, h, _ => h
  | v :: r, o, w, W, b, B, h, hB => by
    rw [World.setCells]
    exact setCells_below r _ _ _ _ _ (h.setCell (p := ⟨b, o, none⟩) hB v) hB

/-- what a store leaves: its block, the others as they were -/
structure Stored (w w' : World) (b : Nat) (t : TypeId) (l : List Value) : Prop where
  box : Box w' b t l
  other : ∀ k, k ≠ b → w'.heap[k]? = w.heap[k]?
  size : w'.heap.size = w.heap.size
  below : ∀ B W, B ≤ b → Below B W w → Below B W w'
theorem Stored.keep {w w' : World} {b : Nat} {t : TypeId} {l : List Value} (h : Stored w w' b t l) {b' : Nat} {t' : TypeId} {l' : List Value} (hB : Box w b' t' l') (hne : b' ≠ b) : Box w' b' t' l' := hB.kept (h.other _ hne)
theorem Stored.cells {w : World} {b : Nat} {t : TypeId} {l : List Value} (h : Box w b t l) (o : Nat) (cs : List Value) : Stored w (w.setCells b o cs) b t (lay l o cs) :=
  ⟨setCells_box _ _ _ _ _ _ h, fun _ hk => setCells_other _ _ _ _ _ hk, setCells_size _ _ _ _, fun _ _ hB h => setCells_below _ _ _ _ _ _ h hB⟩
theorem Stored.cell {w : World} {b : Nat} {t : TypeId} {l : List Value} (h : Box w b t l) (j : Nat) (v : Value) : Stored w (w.setCell ⟨b, j, none⟩ v) b t (l.set j v) :=
  ⟨h.setCell j v, fun _ hk => setCell_other _ _ _ _ hk, by simp [World.setCell], fun _ _ hB h => h.setCell (p := ⟨b, j, none⟩) hB v⟩

/-- what a new block leaves -/
structure Made (w w' : World) (t : TypeId) (l : List Value) : Prop where
  box : Box w' w.heap.size t l
  other : ∀ k, k < w.heap.size → w'.heap[k]? = w.heap[k]?
  size : w'.heap.size = w.heap.size + 1
  below : ∀ B W, B ≤ w.heap.size → Below B W w → Below B W w'
theorem Made.keep {w w' : World} {t : TypeId} {l : List Value} (h : Made w w' t l) {b' : Nat} {t' : TypeId} {l' : List Value} (hB : Box w b' t' l') : Box w' b' t' l' := hB.kept (h.other _ hB.lt)
theorem Made.lt {w w' : World} {t : TypeId} {l : List Value} (h : Made w w' t l) : w.heap.size < w'.heap.size := by rw [h.size]; omega
theorem Made.alloc (w : World) (t : TypeId) (l : List Value) : Made w (w.alloc (.cells l.toArray t)) t l :=
  ⟨Box.new w t l, fun _ hk => Below.heap_alloc _ _ _ hk, World.size_alloc _ _, fun _ _ hB h => h.alloc hB _⟩

section
variable {P : Program} {ops : Array Oper} {rest : List Oper} {op : Oper} {a : Act} {w : World} {Q : Exit → Act → World → Prop}
/-- a value is put into a block of its own -/
theorem wpList_box (l : List Value) (ty : TypeId) (hgd : op.guard = none) (x : Operand) (ho : op.op = .box ty x) (hx : a.eval x = .agg l.toArray)
    (h : ∀ w', Made w w' ty l → wpList P ops Q rest (a.put op.dst (.pointer (some ⟨w.heap.size, 0, none⟩))) w') : wpList P ops Q (op :: rest) a w :=
  wpList_plain hgd fun _ hK => by
    unfold Oper.wp execOp
    simp only [ho, hx, Instr.box, newVar, newRow, Value.cells, Sem.run_bind, Sem.run_pure, Result.andThen_ok, run_newObj_alloc]
    exact hK _ _ (h _ (Made.alloc w ty l))
/-- a new variable -/
theorem wpList_alloc (z : List Value) (ty : TypeId) (hz : ∀ w, (zeroValue ty).run P w = .ok (.agg z.toArray) w) (hgd : op.guard = none) (ho : op.op = .alloc ty)
    (h : ∀ w', Made w w' ty z → wpList P ops Q rest (a.put op.dst (.pointer (some ⟨w.heap.size, 0, none⟩))) w') : wpList P ops Q (op :: rest) a w :=
  wpList_plain hgd fun _ hK => by
    unfold Oper.wp execOp
    simp only [ho, Instr.alloc, hz, newVar, newRow, Value.cells, Sem.run_bind, Sem.run_pure, Result.andThen_ok, run_newObj_alloc]
    exact hK _ _ (h _ (Made.alloc w ty z))
/-- a block is read whole -/
theorem wpList_load_box (ty : TypeId) (t : TypeId) (l : List Value) (b : Nat) (d : TypeDesc) (hu : P.underlying ty = some d) (hd : d.isRow = true) (hi : (P.info? ty).map (·.size) = some l.length) (hB : Box w b t l)
    (hgd : op.guard = none) (x : Operand) (ho : op.op = .load ty x) (hx : a.eval x = .pointer (some ⟨b, 0, none⟩))
    (h : wpList P ops Q rest (a.put op.dst (.agg l.toArray)) w) : wpList P ops Q (op :: rest) a w :=
  wpList_load_mid hgd ty x ho b 0 hx l d hB.range0 hu hd hi h
/-- a part of a block is read -/
theorem wpList_load_part (ty : TypeId) (t : TypeId) (l : List Value) (b o n : Nat) (d : TypeDesc) (hu : P.underlying ty = some d) (hd : d.isRow = true) (hi : (P.info? ty).map (·.size) = some n) (hB : Box w b t l) (hn : o + n ≤ l.length)
    (hgd : op.guard = none) (x : Operand) (ho : op.op = .load ty x) (hx : a.eval x = .pointer (some ⟨b, o, none⟩))
    (h : wpList P ops Q rest (a.put op.dst (.agg ((l.drop o).take n).toArray)) w) : wpList P ops Q (op :: rest) a w :=
  wpList_load_mid hgd ty x ho b o hx _ d (hB.range o n) hu hd (by rw [hi, List.length_take, List.length_drop]; congr 1; omega) h
/-- a block is written whole -/
theorem wpList_store_box (ty : TypeId) (t : TypeId) (l cs : List Value) (b : Nat) (hi : (P.info? ty).map (·.size) = some cs.length) (h1 : ∀ v ∈ cs, v.oneCell' = true) (hB : Box w b t l) (hl : l.length = cs.length)
    (hgd : op.guard = none) (x y : Operand) (ho : op.op = .store ty x y) (hx : a.eval x = .pointer (some ⟨b, 0, none⟩)) (hy : a.eval y = .agg cs.toArray)
    (h : ∀ w', Stored w w' b t cs → wpList P ops Q rest (a.put op.dst undef) w') : wpList P ops Q (op :: rest) a w :=
  wpList_store_mid hgd ty x y ho b 0 cs.toArray hx hy (hB.there (by simp; omega)) (by simpa using hi) (all_oneCell_toArray h1) (h _ (by
    have := Stored.cells hB 0 cs
    rwa [lay_whole _ _ hl] at this))
/-- a part of a block is written -/
theorem wpList_store_part (ty : TypeId) (t : TypeId) (l cs : List Value) (b o : Nat) (hi : (P.info? ty).map (·.size) = some cs.length) (h1 : ∀ v ∈ cs, v.oneCell' = true) (hB : Box w b t l) (hl : o + cs.length ≤ l.length)
    (hgd : op.guard = none) (x y : Operand) (ho : op.op = .store ty x y) (hx : a.eval x = .pointer (some ⟨b, o, none⟩)) (hy : a.eval y = .agg cs.toArray)
    (h : ∀ w', Stored w w' b t (lay l o cs) → wpList P ops Q rest (a.put op.dst undef) w') : wpList P ops Q (op :: rest) a w :=
  wpList_store_mid hgd ty x y ho b o cs.toArray hx hy (hB.there (by simpa using hl)) (by simpa using hi) (all_oneCell_toArray h1) (h _ (Stored.cells hB o cs))
end

section
variable {P : Program}
theorem loadVar_box (w : World) (ty t : TypeId) (l : List Value) (b : Nat) (d : TypeDesc) (hu : P.underlying ty = some d) (hd : d.isRow = true) (hi : (P.info? ty).map (·.size) = some l.length) (hB : Box w b t l) :
    (loadVar ty ⟨b, 0, none⟩).run P w = .ok (.agg l.toArray) w := run_loadVar_mid w b 0 ty l d hB.range0 hu hd hi
/-- a result that lies in a block -/
theorem ret_box {fn : Func} {R : Ending → World → Prop} {p : Tmp} {ty : TypeId} (h : fn.results = #[.cell p ty]) {a : Act} {w : World} (t : TypeId) (l : List Value) (b : Nat) (d : TypeDesc) (hu : P.underlying ty = some d) (hd : d.isRow = true) (hi : (P.info? ty).map (·.size) = some l.length)
    (hp : a.tmps[p]? = some (.pointer (some ⟨b, 0, none⟩))) (hB : Box w b t l) (h0 : a.defers = []) (hR : R (.returned (.agg l.toArray)) w) : bodyPost P fn R .ret a w := by
  refine bodyPost_ret (v := .agg l.toArray) ?_ h0 hR
  simp [results, h, hp, asAddr, loadVar_box w ty t l b d hu hd hi hB]
/-- .. and two more -/
theorem ret_box3 {fn : Func} {R : Ending → World → Prop} {p p1 p2 : Tmp} {ty : TypeId} (h : fn.results = #[.cell p ty, .tmp p1, .tmp p2]) {a : Act} {w : World} (t : TypeId) (l : List Value) (b : Nat) (d : TypeDesc) (hu : P.underlying ty = some d) (hd : d.isRow = true) (hi : (P.info? ty).map (·.size) = some l.length)
    (v1 v2 : Value) (hp : a.tmps[p]? = some (.pointer (some ⟨b, 0, none⟩))) (hp1 : a.tmps[p1]? = some v1) (hp2 : a.tmps[p2]? = some v2) (hB : Box w b t l) (h0 : a.defers = []) (hR : R (.returned (.tuple #[.agg l.toArray, v1, v2])) w) : bodyPost P fn R .ret a w := by
  refine bodyPost_ret (v := .tuple #[.agg l.toArray, v1, v2]) ?_ h0 hR
  simp [results, h, hp, hp1, hp2, asAddr, loadVar_box w ty t l b d hu hd hi hB]
end
end Go.Proofs.YtneiiinheimglaaDoor.Q
