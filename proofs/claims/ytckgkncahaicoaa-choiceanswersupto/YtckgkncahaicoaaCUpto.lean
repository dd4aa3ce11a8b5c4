/-
  How a slice of strings among the arguments is opened, with its bulk; no condition.
-/
import Derived.Test.YtckgkncahaicoaaCRow
namespace Go.Proofs.Ytckgkncahaicoaa.C
open Go.ChangeShapes Go.WideShapes Go.ChangeAt Go.RowKit Go.Proofs.Ytckgkncahaicoaa Go.Proofs.Ytckgkncahaicoaa.W

/-- how many bytes and strings there are -/
def bulkOf : List ByteArray → Nat
  | [] => 0
  | x :: r => x.size + 1 + bulkOf r
theorem bulk_len : ∀ l : List ByteArray, l.length ≤ bulkOf l
  | [] => Nat.le_refl _
  | x :: r => by have := bulk_len r; simp only [List.length_cons, bulkOf]; omega
theorem bulk_size : ∀ (l : List ByteArray) (k : Nat) (h : k < l.length), (l[k]).size ≤ bulkOf l
  | [], k, h => by simp at h
  | x :: r, 0, _ => by simp only [List.getElem_cons_zero, bulkOf]; omega
  | x :: r, k + 1, h => by
    have := bulk_size r k (by simpa using h)
    simp only [List.getElem_cons_succ, bulkOf]; omega
theorem bulk_join : ∀ l : List ByteArray, (Lib.join (l.map fun x => x.data.toList) []).length ≤ bulkOf l
  | [] => by simp [Lib.join_nil]
  | x :: r => by
    have ih := bulk_join r
    have e : (Lib.join ((x :: r).map fun x => x.data.toList) []).length = x.data.toList.length + (Lib.join (r.map fun x => x.data.toList) []).length := by
      rw [List.map_cons, Lib.join_cons]
      cases r with
      | nil => simp [Lib.joinTail, Lib.join_nil]
      | cons y r =>
        rw [List.map_cons, Lib.join_cons, Lib.joinTail]
        simp [Lib.joinTail]
    rw [e, ← size_data]
    simp only [bulkOf]
    omega
section
variable {H : Type} {enc : TypeId × Value → H} {w : World} {base : Nat} {spare : Nat → Bool} {held : Bool}
theorem bulk_lits : ∀ l : List ByteArray, Rows.uptoBulkAll (H := H) (l.map fun x => .lit (.string x.data.toList)) = bulkOf l
  | [] => rfl
  | x :: r => by
    rw [List.map_cons, Rows.uptoBulkAll, bulk_lits r, Rows.uptoBulk, ← size_data]
    rfl
theorem slice_cell {a : Addr} {n : Nat} {S : Nat → ByteArray} (h : ∀ i, i < n → w.cell? (a.add i) = some (.string (S i))) (hn : 0 < n) : ∃ b off, a = ⟨b, off, none⟩ ∧ (∀ j, j < n → w.cell? ⟨b, off + j, none⟩ = some (.string (S j))) ∧ b < w.heap.size := by
  have h00 := h 0 hn
  have hsp : a.spot = none := World.cell?_spot (v := .string (S 0)) (by simpa [Addr.add] using h00)
  have hlt : a.block < w.heap.size := World.block_lt_of_cell? _ _ (show w.cell? a = some (.string (S 0)) by simpa [Addr.add] using h00)
  obtain ⟨b, off, sp⟩ := a
  simp only at hsp hlt
  subst hsp
  refine ⟨b, off, rfl, fun j hj => ?_, hlt⟩
  have hadd : (⟨b, off, none⟩ : Addr).add j = ⟨b, off + j, none⟩ := by
    by_cases hj0 : j = 0
    · simp [Addr.add, hj0]
    · simp [Addr.add, hj0]
  have := h j hj
  rwa [hadd] at this

set_option maxRecDepth 100000 in
theorem open_bulk {r : Reach} {b0 : Nat} {v : Value} {d : DataW H} {p : List MemPlace} (hv : Value.okWide Try.prog w r b0 22 v) (h : DataW.Trod enc Try.prog w base spare held 22 v d p) : ∃ L : List ByteArray, RdS w v L ∧ bulkOf L ≤ Rows.uptoBulk d := by
  obtain ⟨a0, len0, cap0, rfl⟩ := okWide_slice Try.underlying22 hv
  obtain ⟨fuel, hf⟩ := h
  rcases Go.Deep.open_strs Try.underlying22 Try.underlying9 cells_string hf with ⟨e, hx⟩ | ⟨a, len, cap, m, Sx, e, hb, hl, hcm, hmm, hx, hcell⟩
  · simp only [Value.cells, List.cons.injEq, Value.slice.injEq, and_true] at e
    obtain ⟨rfl, rfl, rfl⟩ := e
    exact ⟨[], ⟨none, 0, rfl, by simp, .inl rfl⟩, Nat.zero_le _⟩
  · simp only [Value.cells, List.cons.injEq, Value.slice.injEq, and_true] at e
    obtain ⟨rfl, rfl, rfl⟩ := e
    have hlm : len0 ≤ m := by rw [hmm]; split <;> omega
    have hd : d = .slice ((List.range len0).map fun i => .lit (.string (Sx i).data.toList)) ((List.range (m - len0)).map fun j => .lit (.string (Sx (len0 + j)).data.toList)) := congrArg Prod.fst hx
    refine ⟨(List.range len0).map Sx, ⟨some a, cap0, by simp, by simpa using hl, ?_⟩, ?_⟩
    · by_cases h0 : len0 = 0
      · left; simp [h0]
      · right
        obtain ⟨b, off, rfl, h1, h2⟩ := slice_cell (w := w) (a := a) (n := len0) (S := Sx) (fun i hi => (hcell i (by omega)).1) (by omega)
        exact ⟨b, off, rfl, fun j hj => by simp only [List.length_map, List.length_range] at hj; simpa using h1 j hj, h2⟩
    · rw [hd, Rows.uptoBulk]
      have := bulk_lits (H := H) ((List.range len0).map Sx)
      rw [List.map_map] at this
      have e2 : (List.map (fun i => (DataW.lit (.string (Sx i).data.toList) : DataW H)) (List.range len0)) = List.map ((fun x => .lit (.string x.data.toList)) ∘ Sx) (List.range len0) := rfl
      rw [e2, this]
      omega
end
end Go.Proofs.Ytckgkncahaicoaa.C
