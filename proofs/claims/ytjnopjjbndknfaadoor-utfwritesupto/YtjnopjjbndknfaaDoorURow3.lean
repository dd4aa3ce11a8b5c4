/-
  How an argument is opened that is a slice of ints, or an int, and how its bulk bounds it; no condition.
-/
import Derived.Test.YtjnopjjbndknfaaDoorURow
import Derived.Deep.Slices
namespace Go.Proofs.YtjnopjjbndknfaaDoor.U
open Go.ChangeShapes Go.WideShapes Go.ChangeAt Go.RowKit Go.Proofs.YtjnopjjbndknfaaDoor

theorem bulk_ints {H : Type} : ∀ l : List Int, l.length ≤ Rows.uptoBulkAll (l.map fun z => (DataW.lit (.int .i64 z) : DataW H))
  | [] => by simp
  | t :: l => by
    have ih := bulk_ints (H := H) l
    simp only [List.map_cons, List.length_cons, Rows.uptoBulkAll, Rows.uptoBulk] at *
    omega

theorem cells_int : Tryd.prog.cellsOf 3 = 1 := by kernel_rfl

section
variable {H : Type} {enc : TypeId × Value → H} {w : World} {base : Nat} {spare : Nat → Bool} {held : Bool}

set_option maxRecDepth 100000 in
theorem open_int_arg {r : Reach} {b0 : Nat} {v : Value} {d : DataW H} {p : List MemPlace} (hv : Value.okWide Tryd.prog w r b0 3 v) (h : DataW.Trod enc Tryd.prog w base spare held 3 v d p) : ∃ z : Int, v = .int .i64 z ∧ d = .lit (.int .i64 z) ∧ p = [] := by
  obtain ⟨z, h1, h2, h3, _⟩ := open_int Tryd.underlying3 hv h
  exact ⟨z, h1, h2, h3⟩

set_option maxRecDepth 100000 in
theorem open_ints {r : Reach} {b0 : Nat} {v : Value} {d : DataW H} {p : List MemPlace} (hv : Value.okWide Tryd.prog w r b0 38 v) (h : DataW.Trod enc Tryd.prog w base spare held 38 v d p) : ∃ L : List Int, RdI w v L ∧ L.length ≤ Rows.uptoBulk d := by
  obtain ⟨a0, len0, cap0, rfl⟩ := okWide_slice Tryd.underlying38 hv
  obtain ⟨fuel, hf⟩ := h
  rcases Go.Deep.open_slice Tryd.underlying38 hf with ⟨e, hx⟩ | ⟨a, len, cap, mm, n, D, Pl, e, hb, hl, hcm, hmm, hx, hel⟩
  · simp [Value.cells] at e
    obtain ⟨rfl, rfl, rfl⟩ := e
    exact ⟨[], ⟨none, 0, rfl, by simp, .inl rfl⟩, by simp⟩
  · simp [Value.cells] at e
    obtain ⟨rfl, rfl, rfl⟩ := e
    have hlm : len0 ≤ mm := by rw [hmm]; split <;> omega
    have hel2 : ∀ i, i < len0 → ∃ t : Int, w.cells? base (a.add i) 1 = some [.int .i64 t] ∧ D i = .lit (.int .i64 t) := fun i hi => by
      obtain ⟨cs, h1, h2⟩ := hel i (by omega)
      rw [cells_int, Nat.mul_one] at h1
      obtain ⟨z, rfl, ht, _⟩ := DataW.trod_int Tryd.underlying3 h2
      exact ⟨z, h1, congrArg Prod.fst ht⟩
    obtain ⟨f, hf2⟩ := Go.Deep.choose_lt hel2
    have hcell : ∀ i, i < len0 → w.cell? (a.add i) = some (.int .i64 (f i)) := fun i hi => by
      have := (World.cells?_some (hf2 i hi).1).2.2 0 (by decide)
      rw [Go.Deep.add_add] at this
      simpa using this
    refine ⟨(List.range len0).map f, ⟨some a, cap0, by simp, by simpa using hl, ?_⟩, ?_⟩
    · by_cases h0 : len0 = 0
      · left; simp [h0]
      · right
        have h00 := hcell 0 (by omega)
        have hsp : a.spot = none := World.cell?_spot (v := .int .i64 (f 0)) (by simpa [Addr.add] using h00)
        have hlt : a.block < w.heap.size := World.block_lt_of_cell? _ _ (show w.cell? a = some (.int .i64 (f 0)) by simpa [Addr.add] using h00)
        obtain ⟨b, off, sp⟩ := a
        simp only at hsp hlt
        subst hsp
        have hadd : ∀ j, (⟨b, off, none⟩ : Addr).add j = ⟨b, off + j, none⟩ := fun j => by
          by_cases hj : j = 0
          · simp [Addr.add, hj]
          · simp [Addr.add, hj]
        refine ⟨b, off, rfl, fun k hk => ?_, hlt⟩
        simp only [List.length_map, List.length_range] at hk
        simp only [List.getElem_map, List.getElem_range]
        have c0 := hcell k hk
        rw [hadd] at c0
        exact c0
    · have hd : d = .slice ((List.range len0).map D) ((List.range (mm - len0)).map fun j => D (len0 + j)) := congrArg Prod.fst hx
      have hD : (List.range len0).map D = ((List.range len0).map f).map (fun z => (DataW.lit (.int .i64 z) : DataW H)) := by
        rw [List.map_map]
        exact List.map_congr_left fun i hi => (hf2 i (List.mem_range.1 hi)).2
      rw [hd, hD]
      have := bulk_ints (H := H) ((List.range len0).map f)
      simp only [Rows.uptoBulk]
      omega
end
end Go.Proofs.YtjnopjjbndknfaaDoor.U
