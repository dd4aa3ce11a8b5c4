/-
  How arguments are opened: an act; how its bulk bounds it; no condition.
-/
import Derived.Test.YtneiiinheimglaaDoorBOpen
import Derived.Test.YtneiiinheimglaaDoorBMem
namespace Go.Proofs.YtneiiinheimglaaDoor.B
open Go.ChangeShapes Go.WideShapes Go.ChangeAt Go.RowKit Go.Lib Go.Proofs.YtneiiinheimglaaDoor Go.Proofs.YtneiiinheimglaaDoor.Z Go.Proofs.YtneiiinheimglaaDoor.C

theorem cells_act : Tryd.prog.cellsOf 35 = 6 := by kernel_rfl
theorem cells_ints : Tryd.prog.cellsOf 24 = 1 := by kernel_rfl
theorem list6 {α : Type} {l : List α} (h : l.length = 6) : ∃ a b c d e f, l = [a, b, c, d, e, f] := by
  match l, h with
  | [a, b, c, d, e, f], _ => exact ⟨a, b, c, d, e, f, rfl⟩
section
variable {H : Type} {enc : TypeId × Value → H} {w : World} {base : Nat} {spare : Nat → Bool} {held : Bool}

set_option maxRecDepth 100000 in
theorem trod_ints {fuel : Nat} {cs : List Value} {x : DataW H × List MemPlace} (hf : DataW.trod enc Tryd.prog w base spare held fuel 24 cs = some x) : ∃ (v : Value) (L : List Int), cs = [v] ∧ RdI w v L ∧ L.length ≤ Rows.uptoBulk x.1 := by
  rcases Go.Deep.open_slice Tryd.underlying24 hf with ⟨e, hx⟩ | ⟨a, len, cap, mm, n, D, Pl, e, hb, hl, hcm, hmm, hx, hel⟩
  · exact ⟨_, [], e, ⟨none, 0, rfl, by simp, .inl rfl⟩, Nat.zero_le _⟩
  · have hlm : len ≤ mm := by rw [hmm]; split <;> omega
    have hel2 : ∀ i, i < len → ∃ t : Int, w.cells? base (a.add i) 1 = some [.int .i64 t] ∧ D i = .lit (.int .i64 t) := fun i hi => by
      obtain ⟨cs, h1, h2⟩ := hel i (by omega)
      rw [cells_int, Nat.mul_one] at h1
      obtain ⟨z, rfl, ht, _⟩ := DataW.trod_int Tryd.underlying3 h2
      exact ⟨z, h1, congrArg Prod.fst ht⟩
    obtain ⟨f, hf2⟩ := Go.Deep.choose_lt hel2
    have hcell : ∀ i, i < len → w.cell? (a.add i) = some (.int .i64 (f i)) := fun i hi => by
      have := (World.cells?_some (hf2 i hi).1).2.2 0 (by decide)
      rw [Go.Deep.add_add] at this
      simpa using this
    refine ⟨_, (List.range len).map f, e, ⟨some a, cap, by simp, by simpa using hl, ?_⟩, ?_⟩
    · by_cases h0 : len = 0
      · left; simp [h0]
      · right
        have h00 := hcell 0 (by omega)
        have hsp : a.spot = none := World.cell?_spot (v := .int .i64 (f 0)) (by simpa [Addr.add] using h00)
        have hlt : a.block < w.heap.size := World.block_lt_of_cell? _ _ (show w.cell? a = some (.int .i64 (f 0)) by simpa [Addr.add] using h00)
        obtain ⟨b, off, sp⟩ := a
        simp only at hsp hlt
        subst hsp
        have hadd : ∀ j, (⟨b, off, none⟩ : Addr).add j = ⟨b, off + j, none⟩ := fun j => by
          by_cases hj : j = 0
          · simp [Addr.add, hj]
          · simp [Addr.add, hj]
        refine ⟨b, off, rfl, fun k hk => ?_, hlt⟩
        simp only [List.length_map, List.length_range] at hk
        simp only [List.getElem_map, List.getElem_range]
        have c0 := hcell k hk
        rw [hadd] at c0
        exact c0
    · have hD : (List.range len).map D = ((List.range len).map f).map (fun z => (DataW.lit (.int .i64 z) : DataW H)) := by
        rw [List.map_map]
        exact List.map_congr_left fun i hi => (hf2 i (List.mem_range.1 hi)).2
      rw [hx, hD]
      have := bulk_ints (H := H) ((List.range len).map f)
      simp only [Rows.uptoBulk]
      omega
theorem trod6 {P : Program} {t : TypeId} {f0 f1 f2 f3 f4 f5 : Field} {fuel : Nat} {cs : List Value} {x : DataW H × List MemPlace} (ht : P.underlying t = some (.struct #[f0, f1, f2, f3, f4, f5])) (h : DataW.trod enc P w base spare held fuel t cs = some x) :
    ∃ y0 y1 y2 y3 y4 y5 n, x.1 = .agg [y0.1, y1.1, y2.1, y3.1, y4.1, y5.1] ∧ cs.length = P.cellsOf t ∧
      DataW.trod enc P w base spare held n f0.type ((cs.drop f0.offset).take (P.cellsOf f0.type)) = some y0 ∧ DataW.trod enc P w base spare held n f1.type ((cs.drop f1.offset).take (P.cellsOf f1.type)) = some y1 ∧
      DataW.trod enc P w base spare held n f2.type ((cs.drop f2.offset).take (P.cellsOf f2.type)) = some y2 ∧ DataW.trod enc P w base spare held n f3.type ((cs.drop f3.offset).take (P.cellsOf f3.type)) = some y3 ∧
      DataW.trod enc P w base spare held n f4.type ((cs.drop f4.offset).take (P.cellsOf f4.type)) = some y4 ∧ DataW.trod enc P w base spare held n f5.type ((cs.drop f5.offset).take (P.cellsOf f5.type)) = some y5 := by
  obtain ⟨xs, n, _, rfl, hl, hlen, hf⟩ := DataW.trod_struct ht h
  obtain ⟨y0, y1, y2, y3, y4, y5, rfl⟩ := list6 hlen
  exact ⟨y0, y1, y2, y3, y4, y5, n, by simp, hl, by simpa using hf 0 f0 rfl, by simpa using hf 1 f1 rfl, by simpa using hf 2 f2 rfl, by simpa using hf 3 f3 rfl, by simpa using hf 4 f4 rfl, by simpa using hf 5 f5 rfl⟩
set_option maxRecDepth 100000 in
theorem trod_act {fuel : Nat} {cs : List Value} {y : DataW H × List MemPlace} (h : DataW.trod enc Tryd.prog w base spare held fuel 35 cs = some y) :
    ∃ (a : Ac) (va : Value), cs = acells a va ∧ RdI w va a.args ∧ a.inter.length + a.text.length + a.args.length + 1 ≤ Rows.uptoBulk y.1 := by
  obtain ⟨y0, y1, y2, y3, y4, y5, n, hy, hl, f0, f1, f2, f3, f4, f5⟩ := trod6 Tryd.underlying35 h
  rw [cells_act] at hl
  obtain ⟨c0, c1, c2, c3, c4, c5, rfl⟩ := list6 hl
  obtain ⟨a0, e0, rfl, _⟩ := DataW.trod_int Tryd.underlying3 f0
  obtain ⟨a1, e1, rfl, _⟩ := DataW.trod_int Tryd.underlying3 f1
  obtain ⟨a2, e2, rfl, _⟩ := DataW.trod_int Tryd.underlying3 f2
  obtain ⟨a3, e3, rfl, _⟩ := DataW.trod_string Tryd.underlying9 f3
  obtain ⟨v4, L4, e4, hr4, hb4⟩ := trod_ints f4
  obtain ⟨a5, e5, rfl, _⟩ := DataW.trod_string Tryd.underlying9 f5
  rw [cells_int] at e0 e1 e2
  rw [cells_str] at e3 e5
  rw [cells_ints] at e4
  simp at e0 e1 e2 e3 e4 e5
  subst e0; subst e1; subst e2; subst e3; subst e4; subst e5
  refine ⟨⟨a0, a1, a2, a3.data.toList, L4, a5.data.toList⟩, c4, ?_, hr4, ?_⟩
  · unfold acells
    rw [bs_data, bs_data]
  · rw [hy]
    simp only [Rows.uptoBulk, Rows.uptoBulkAll]
    omega
set_option maxRecDepth 100000 in
theorem open_act {r : Reach} {b0 : Nat} {v : Value} {d : DataW H} {p : List MemPlace} (hv : Value.okWide Tryd.prog w r b0 35 v) (h : DataW.Trod enc Tryd.prog w base spare held 35 v d p) :
    ∃ (a : Ac) (va : Value), v = .agg #[.int .i64 a.kind, .int .i64 a.code, .int .i64 a.mark, .string (bs a.inter), va, .string (bs a.text)] ∧ RdI w va a.args ∧ a.inter.length + a.text.length + a.args.length + 1 ≤ Rows.uptoBulk d := by
  obtain ⟨cs, rfl, _⟩ := okWide_struct Tryd.underlying35 hv
  obtain ⟨fuel, hf⟩ := h
  obtain ⟨a, va, e, hr, hb⟩ := trod_act hf
  refine ⟨a, va, ?_, hr, hb⟩
  simp only [Value.cells] at e
  congr 1
  exact Array.toList_inj.1 e
end
end Go.Proofs.YtneiiinheimglaaDoor.B
