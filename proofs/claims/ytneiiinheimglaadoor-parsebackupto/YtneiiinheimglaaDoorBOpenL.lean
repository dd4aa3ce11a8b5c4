/-
  How arguments are opened: a slice of acts; how its bulk bounds it; no condition.
-/
import Derived.Test.YtneiiinheimglaaDoorBOpenA
import Derived.Test.YtneiiinheimglaaDoorBFeed
namespace Go.Proofs.YtneiiinheimglaaDoor.B
open Go.ChangeShapes Go.WideShapes Go.ChangeAt Go.RowKit Go.Lib Go.Proofs.YtneiiinheimglaaDoor Go.Proofs.YtneiiinheimglaaDoor.Z Go.Proofs.YtneiiinheimglaaDoor.C

def actSum (l : List Ac) : Nat := (l.map fun a => a.inter.length + a.text.length + a.args.length + 1).sum
theorem actSum_all : ∀ (l : List Ac), l.length ≤ actSum l ∧ ∀ a ∈ l, a.inter.length ≤ actSum l ∧ a.text.length ≤ actSum l ∧ a.args.length ≤ actSum l
  | [] => ⟨Nat.zero_le _, fun _ h => by cases h⟩
  | a :: l => by
    have ih := actSum_all l
    have e : actSum (a :: l) = (a.inter.length + a.text.length + a.args.length + 1) + actSum l := by unfold actSum; rw [List.map_cons, List.sum_cons]
    refine ⟨by rw [List.length_cons]; omega, fun b hb => ?_⟩
    rcases List.mem_cons.1 hb with rfl | hb
    · omega
    · have := ih.2 b hb
      omega
theorem bulk_acts {H : Type} (f : Nat → Ac) (D : Nat → DataW H) : ∀ is : List Nat, (∀ i ∈ is, (f i).inter.length + (f i).text.length + (f i).args.length + 1 ≤ Rows.uptoBulk (D i)) → actSum (is.map f) ≤ Rows.uptoBulkAll (is.map D)
  | [], _ => Nat.zero_le _
  | i :: is, h => by
    have ih := bulk_acts f D is (fun j hj => h j (by simp [hj]))
    have h1 := h i (by simp)
    unfold actSum at *
    simp only [List.map_cons, List.sum_cons, Rows.uptoBulkAll] at *
    omega
theorem asC_range (f : Nat → Ac × Value) : ∀ (n : Nat) (j : Nat) (u : Value), (asC ((List.range n).map f))[j]? = some u → ∃ k i, k < n ∧ i < 6 ∧ j = k * 6 + i ∧ (acells (f k).1 (f k).2)[i]? = some u := fun n j u hj => by
  have hl : j < (asC ((List.range n).map f)).length := (List.getElem?_eq_some_iff.1 hj).1
  rw [asC_length, List.length_map, List.length_range] at hl
  have hk : j / 6 < ((List.range n).map f).length := by rw [List.length_map, List.length_range]; omega
  have e := asC_at ((List.range n).map f) (j / 6) hk (j % 6) (by omega)
  have e2 : j / 6 * 6 + j % 6 = j := by omega
  rw [e2, hj] at e
  simp only [List.getElem_map, List.getElem_range] at e
  exact ⟨j / 6, j % 6, by omega, by omega, e2.symm, e.symm⟩
section
variable {H : Type} {enc : TypeId × Value → H} {w : World} {base : Nat} {spare : Nat → Bool} {held : Bool}
set_option maxRecDepth 100000 in
theorem open_acts {r : Reach} {b0 : Nat} {v : Value} {d : DataW H} {p : List MemPlace} (hv : Value.okWide Tryd.prog w r b0 25 v) (h : DataW.Trod enc Tryd.prog w base spare held 25 v d p) : ∃ L : List Ac, RdA w v L ∧ actSum L ≤ Rows.uptoBulk d := by
  obtain ⟨a0, len0, cap0, rfl⟩ := okWide_slice Tryd.underlying25 hv
  obtain ⟨fuel, hf⟩ := h
  rcases Go.Deep.open_slice Tryd.underlying25 hf with ⟨e, hx⟩ | ⟨a, len, cap, mm, n, D, Pl, e, hb, hl, hcm, hmm, hx, hel⟩
  · simp [Value.cells] at e
    obtain ⟨rfl, rfl, rfl⟩ := e
    exact ⟨[], ⟨none, 0, [], rfl, by simp, rfl, (fun _ h => by cases h), .inl rfl⟩, Nat.zero_le _⟩
  · simp [Value.cells] at e
    obtain ⟨rfl, rfl, rfl⟩ := e
    have hlm : len0 ≤ mm := by rw [hmm]; split <;> omega
    have hel2 : ∀ i, i < len0 → ∃ t : Ac × Value, w.cells? base (a.add (i * 6)) 6 = some (acells t.1 t.2) ∧ RdI w t.2 t.1.args ∧ t.1.inter.length + t.1.text.length + t.1.args.length + 1 ≤ Rows.uptoBulk (D i) := fun i hi => by
      obtain ⟨cs, h1, h2⟩ := hel i (by omega)
      rw [cells_act] at h1
      obtain ⟨t, vt, rfl, hr, hb⟩ := trod_act h2
      exact ⟨(t, vt), h1, hr, hb⟩
    have i0 : Inhabited (Ac × Value) := ⟨(gone, .slice none 0 0)⟩
    obtain ⟨f, hf2⟩ := Go.Deep.choose_lt hel2
    have hcell : ∀ i, i < len0 → ∀ j, j < 6 → w.cell? (a.add (i * 6 + j)) = (acells (f i).1 (f i).2)[j]? := fun i hi j hj => by
      have := (World.cells?_some (hf2 i hi).1).2.2 j hj
      rwa [Go.Deep.add_add] at this
    refine ⟨((List.range len0).map f).map Prod.fst, ⟨some a, cap0, (List.range len0).map f, by simp, by simpa using hl, rfl, fun x hx => ?_, ?_⟩, ?_⟩
    · obtain ⟨i, hi, rfl⟩ := List.mem_map.1 hx
      exact (hf2 i (List.mem_range.1 hi)).2.1
    · by_cases h0 : len0 = 0
      · left; simp [h0]
      · right
        have h00 : w.cell? (a.add 0) = some (.int .i64 (f 0).1.kind) := hcell 0 (by omega) 0 (by omega)
        have ha0 : a.add 0 = a := by simp [Addr.add]
        rw [ha0] at h00
        have hsp : a.spot = none := World.cell?_spot h00
        have hlt : a.block < w.heap.size := World.block_lt_of_cell? _ _ h00
        obtain ⟨b, off, sp⟩ := a
        simp only at hsp hlt
        subst hsp
        have hadd : ∀ j, (⟨b, off, none⟩ : Addr).add j = ⟨b, off + j, none⟩ := fun j => by
          by_cases hj : j = 0
          · simp [Addr.add, hj]
          · simp [Addr.add, hj]
        refine ⟨b, off, rfl, hlt, fun j u hu => ?_⟩
        obtain ⟨k, i, hk, hi, rfl, e⟩ := asC_range f len0 j u hu
        have c := hcell k hk i hi
        rw [hadd, e] at c
        exact c
    · have hd : d = .slice ((List.range len0).map D) ((List.range (mm - len0)).map fun j => D (len0 + j)) := congrArg Prod.fst hx
      rw [hd, List.map_map]
      have := bulk_acts (fun i => (f i).1) D (List.range len0) (fun i hi => (hf2 i (List.mem_range.1 hi)).2.2)
      simp only [Rows.uptoBulk]
      show actSum ((List.range len0).map fun i => (f i).1) ≤ _
      omega
end
end Go.Proofs.YtneiiinheimglaaDoor.B
