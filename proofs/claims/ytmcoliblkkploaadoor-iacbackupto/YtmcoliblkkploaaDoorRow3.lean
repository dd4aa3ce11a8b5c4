/-
  How an argument is opened that is a slice of tokens, and how its bulk bounds it; no condition.
-/
import Derived.Test.YtmcoliblkkploaaDoorRow2
namespace Go.Proofs.YtmcoliblkkploaaDoor
open Go.ChangeShapes Go.WideShapes Go.ChangeAt Go.RowKit

theorem bulk_toks {H : Type} : ∀ l : List Tk, 5 * l.length + dataSum l ≤ Rows.uptoBulkAll (l.map (Tk.dat (H := H)))
  | [] => by simp [dataSum]
  | t :: l => by
    have ih := bulk_toks (H := H) l
    unfold dataSum at *
    simp only [List.map_cons, List.sum_cons, List.length_cons, Rows.uptoBulkAll, Tk.dat, Rows.uptoBulk] at *
    omega

section
variable {H : Type} {enc : TypeId × Value → H} {w : World} {base : Nat} {spare : Nat → Bool} {held : Bool}

theorem open_toks {r : Reach} {b0 : Nat} {v : Value} {d : DataW H} {p : List MemPlace} (hv : Value.okWide Tryd.prog w r b0 24 v) (h : DataW.Trod enc Tryd.prog w base spare held 24 v d p) : ∃ L : List Tk, RdL w v L ∧ 5 * L.length + dataSum L ≤ Rows.uptoBulk d := by
  obtain ⟨a0, len0, cap0, rfl⟩ := okWide_slice Tryd.underlying24 hv
  obtain ⟨fuel, hf⟩ := h
  rcases Go.Deep.open_slice Tryd.underlying24 hf with ⟨e, hx⟩ | ⟨a, len, cap, mm, n, D, Pl, e, hb, hl, hcm, hmm, hx, hel⟩
  · simp [Value.cells] at e
    obtain ⟨rfl, rfl, rfl⟩ := e
    exact ⟨[], ⟨none, 0, rfl, by simp, .inl rfl⟩, by simp [dataSum]⟩
  · simp [Value.cells] at e
    obtain ⟨rfl, rfl, rfl⟩ := e
    have hlm : len0 ≤ mm := by rw [hmm]; split <;> omega
    have hel2 : ∀ i, i < len0 → ∃ t : Tk, w.cells? base (a.add (i * 4)) 4 = some (tcells t) ∧ D i = t.dat := fun i hi => by
      obtain ⟨cs, h1, h2⟩ := hel i (by omega)
      rw [cells_tok] at h1
      obtain ⟨t, rfl, ht⟩ := trod_tok h2
      exact ⟨t, h1, congrArg Prod.fst ht⟩
    have i0 : Inhabited Tk := ⟨⟨0, 0, 0, []⟩⟩
    obtain ⟨f, hf2⟩ := Go.Deep.choose_lt hel2
    have hcell : ∀ i, i < len0 → ∀ j, j < 4 → w.cell? (a.add (i * 4 + j)) = (tcells (f i))[j]? := fun i hi j hj => by
      have := (World.cells?_some (hf2 i hi).1).2.2 j hj
      rwa [Go.Deep.add_add] at this
    refine ⟨(List.range len0).map f, ⟨some a, cap0, by simp, by simpa using hl, ?_⟩, ?_⟩
    · by_cases h0 : len0 = 0
      · left; simp [h0]
      · right
        have h00 := hcell 0 (by omega) 0 (by omega)
        have hsp : a.spot = none := World.cell?_spot (v := .int .i64 (f 0).kind) (by simpa [Addr.add, tcells] using h00)
        have hlt : a.block < w.heap.size := World.block_lt_of_cell? _ _ (show w.cell? a = some (.int .i64 (f 0).kind) by simpa [Addr.add, tcells] using h00)
        obtain ⟨b, off, sp⟩ := a
        simp only at hsp hlt
        subst hsp
        have hadd : ∀ j, (⟨b, off, none⟩ : Addr).add j = ⟨b, off + j, none⟩ := fun j => by
          by_cases hj : j = 0
          · simp [Addr.add, hj]
          · simp [Addr.add, hj]
        refine ⟨b, off, rfl, fun k hk => ?_, hlt⟩
        simp only [List.length_map, List.length_range] at hk
        simp only [List.getElem_map, List.getElem_range]
        have c0 := hcell k hk 0 (by omega)
        have c1 := hcell k hk 1 (by omega)
        have c2 := hcell k hk 2 (by omega)
        have c3 := hcell k hk 3 (by omega)
        rw [hadd] at c0 c1 c2 c3
        exact ⟨c0, c1, c2, c3⟩
    · have hd : d = .slice ((List.range len0).map D) ((List.range (mm - len0)).map fun j => D (len0 + j)) := congrArg Prod.fst hx
      have hD : (List.range len0).map D = ((List.range len0).map f).map Tk.dat := by
        rw [List.map_map]
        exact List.map_congr_left fun i hi => (hf2 i (List.mem_range.1 hi)).2
      rw [hd, hD]
      have := bulk_toks (H := H) ((List.range len0).map f)
      simp only [Rows.uptoBulk]
      omega
end
end Go.Proofs.YtmcoliblkkploaaDoor
