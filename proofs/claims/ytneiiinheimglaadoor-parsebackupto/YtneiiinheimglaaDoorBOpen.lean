/-
  How arguments are opened: a slice of ints, a parser; how their bulk bounds them; no condition.
-/
import Derived.Test.YtneiiinheimglaaDoorRows
import Derived.Test.YtneiiinheimglaaDoorZMem
import Derived.WalkKit
import Derived.ProofKit
import Derived.OpenShut
import Derived.ShutString
import Derived.Deep.Strs
import Derived.ChangeSame
import Derived.HandedShaped
import Derived.Below
import Derived.Deep.Slices
import Derived.Lib.SmallJoins
namespace Go.Proofs.YtneiiinheimglaaDoor.B
open Go.ChangeShapes Go.WideShapes Go.ChangeAt Go.RowKit Go.Lib Go.Proofs.YtneiiinheimglaaDoor Go.Proofs.YtneiiinheimglaaDoor.Z Go.Proofs.YtneiiinheimglaaDoor.C

theorem bulk_ints {H : Type} : ∀ l : List Int, l.length ≤ Rows.uptoBulkAll (l.map fun z => (DataW.lit (.int .i64 z) : DataW H))
  | [] => by simp
  | t :: l => by
    have ih := bulk_ints (H := H) l
    simp only [List.map_cons, List.length_cons, Rows.uptoBulkAll, Rows.uptoBulk] at *
    omega

theorem bytes_int : Tryd.prog.bytesOf 3 = 8 := by kernel_rfl
theorem cells_int : Tryd.prog.cellsOf 3 = 1 := by kernel_rfl

theorem cells_str : Tryd.prog.cellsOf 9 = 1 := by kernel_rfl
theorem cells_ps : Tryd.prog.cellsOf 23 = 5 := by kernel_rfl
theorem list5 {α : Type} {l : List α} (h : l.length = 5) : ∃ a b c d e, l = [a, b, c, d, e] := by
  match l, h with
  | [a, b, c, d, e], _ => exact ⟨a, b, c, d, e, rfl⟩

section
variable {H : Type} {enc : TypeId × Value → H} {w : World} {base : Nat} {spare : Nat → Bool} {held : Bool}

set_option maxRecDepth 100000 in
theorem open_ints {r : Reach} {b0 : Nat} {v : Value} {d : DataW H} {p : List MemPlace} (hv : Value.okWide Tryd.prog w r b0 24 v) (h : DataW.Trod enc Tryd.prog w base spare held 24 v d p) : ∃ L : List Int, RdI w v L ∧ L.length ≤ Rows.uptoBulk d ∧ ((d.weights Tryd.prog 24).all (· ≤ reachBytes) = true → L.length ≤ 17592186044416) := by
  obtain ⟨a0, len0, cap0, rfl⟩ := okWide_slice Tryd.underlying24 hv
  obtain ⟨fuel, hf⟩ := h
  rcases Go.Deep.open_slice Tryd.underlying24 hf with ⟨e, hx⟩ | ⟨a, len, cap, mm, n, D, Pl, e, hb, hl, hcm, hmm, hx, hel⟩
  · simp [Value.cells] at e
    obtain ⟨rfl, rfl, rfl⟩ := e
    exact ⟨[], ⟨none, 0, rfl, by simp, .inl rfl⟩, by simp, fun _ => by simp⟩
  · simp [Value.cells] at e
    obtain ⟨rfl, rfl, rfl⟩ := e
    have hlm : len0 ≤ mm := by rw [hmm]; split <;> omega
    have hel2 : ∀ i, i < len0 → ∃ t : Int, w.cells? base (a.add i) 1 = some [.int .i64 t] ∧ D i = .lit (.int .i64 t) := fun i hi => by
      obtain ⟨cs, h1, h2⟩ := hel i (by omega)
      rw [cells_int, Nat.mul_one] at h1
      obtain ⟨z, rfl, ht, _⟩ := DataW.trod_int Tryd.underlying3 h2
      exact ⟨z, h1, congrArg Prod.fst ht⟩
    obtain ⟨f, hf2⟩ := Go.Deep.choose_lt hel2
    have hcell : ∀ i, i < len0 → w.cell? (a.add i) = some (.int .i64 (f i)) := fun i hi => by
      have := (World.cells?_some (hf2 i hi).1).2.2 0 (by decide)
      rw [Go.Deep.add_add] at this
      simpa using this
    refine ⟨(List.range len0).map f, ⟨some a, cap0, by simp, by simpa using hl, ?_⟩, ?_, ?_⟩
    · by_cases h0 : len0 = 0
      · left; simp [h0]
      · right
        have h00 := hcell 0 (by omega)
        have hsp : a.spot = none := World.cell?_spot (v := .int .i64 (f 0)) (by simpa [Addr.add] using h00)
        have hlt : a.block < w.heap.size := World.block_lt_of_cell? _ _ (show w.cell? a = some (.int .i64 (f 0)) by simpa [Addr.add] using h00)
        obtain ⟨b, off, sp⟩ := a
        simp only at hsp hlt
        subst hsp
        have hadd : ∀ j, (⟨b, off, none⟩ : Addr).add j = ⟨b, off + j, none⟩ := fun j => by
          by_cases hj : j = 0
          · simp [Addr.add, hj]
          · simp [Addr.add, hj]
        refine ⟨b, off, rfl, fun k hk => ?_, hlt⟩
        simp only [List.length_map, List.length_range] at hk
        simp only [List.getElem_map, List.getElem_range]
        have c0 := hcell k hk
        rw [hadd] at c0
        exact c0
    · have hd : d = .slice ((List.range len0).map D) ((List.range (mm - len0)).map fun j => D (len0 + j)) := congrArg Prod.fst hx
      have hD : (List.range len0).map D = ((List.range len0).map f).map (fun z => (DataW.lit (.int .i64 z) : DataW H)) := by
        rw [List.map_map]
        exact List.map_congr_left fun i hi => (hf2 i (List.mem_range.1 hi)).2
      rw [hd, hD]
      have := bulk_ints (H := H) ((List.range len0).map f)
      simp only [Rows.uptoBulk]
      omega
    · have hd : d = .slice ((List.range len0).map D) ((List.range (mm - len0)).map fun j => D (len0 + j)) := congrArg Prod.fst hx
      intro hw
      rw [hd] at hw
      simp only [DataW.weights, Tryd.underlying24, List.all_cons, Bool.and_eq_true, List.length_map, List.length_range, bytes_int, reachBytes] at hw
      have hw1 := of_decide_eq_true hw.1
      simp only [List.length_map, List.length_range]
      omega

theorem trod5 {P : Program} {t : TypeId} {f0 f1 f2 f3 f4 : Field} {fuel : Nat} {cs : List Value} {x : DataW H × List MemPlace} (ht : P.underlying t = some (.struct #[f0, f1, f2, f3, f4])) (h : DataW.trod enc P w base spare held fuel t cs = some x) :
    ∃ y0 y1 y2 y3 y4 n, x = (.agg [y0.1, y1.1, y2.1, y3.1, y4.1], y0.2 ++ (y1.2 ++ (y2.2 ++ (y3.2 ++ y4.2)))) ∧ cs.length = P.cellsOf t ∧
      DataW.trod enc P w base spare held n f0.type ((cs.drop f0.offset).take (P.cellsOf f0.type)) = some y0 ∧ DataW.trod enc P w base spare held n f1.type ((cs.drop f1.offset).take (P.cellsOf f1.type)) = some y1 ∧
      DataW.trod enc P w base spare held n f2.type ((cs.drop f2.offset).take (P.cellsOf f2.type)) = some y2 ∧ DataW.trod enc P w base spare held n f3.type ((cs.drop f3.offset).take (P.cellsOf f3.type)) = some y3 ∧
      DataW.trod enc P w base spare held n f4.type ((cs.drop f4.offset).take (P.cellsOf f4.type)) = some y4 := by
  obtain ⟨xs, n, _, rfl, hl, hlen, hf⟩ := DataW.trod_struct ht h
  obtain ⟨y0, y1, y2, y3, y4, rfl⟩ := list5 hlen
  exact ⟨y0, y1, y2, y3, y4, n, by simp, hl, by simpa using hf 0 f0 rfl, by simpa using hf 1 f1 rfl, by simpa using hf 2 f2 rfl, by simpa using hf 3 f3 rfl, by simpa using hf 4 f4 rfl⟩


theorem trod_ps {fuel : Nat} {cs : List Value} {y : DataW H × List MemPlace} (h : DataW.trod enc Tryd.prog w base spare held fuel 23 cs = some y) :
    ∃ (st mk : Int) (im ar tx : ByteArray), cs = [.int .i64 st, .int .i64 mk, .string im, .string ar, .string tx] ∧ y = (.agg [.lit (.int .i64 st), .lit (.int .i64 mk), .lit (.string im.data.toList), .lit (.string ar.data.toList), .lit (.string tx.data.toList)], []) := by
  obtain ⟨y0, y1, y2, y3, y4, n, rfl, hl, f0, f1, f2, f3, f4⟩ := trod5 Tryd.underlying23 h
  rw [cells_ps] at hl
  obtain ⟨c0, c1, c2, c3, c4, rfl⟩ := list5 hl
  obtain ⟨a0, e0, rfl, _⟩ := DataW.trod_int Tryd.underlying3 f0
  obtain ⟨a1, e1, rfl, _⟩ := DataW.trod_int Tryd.underlying3 f1
  obtain ⟨a2, e2, rfl, _⟩ := DataW.trod_string Tryd.underlying9 f2
  obtain ⟨a3, e3, rfl, _⟩ := DataW.trod_string Tryd.underlying9 f3
  obtain ⟨a4, e4, rfl, _⟩ := DataW.trod_string Tryd.underlying9 f4
  rw [cells_int] at e0 e1
  rw [cells_str] at e2 e3 e4
  simp at e0 e1 e2 e3 e4
  subst e0; subst e1; subst e2; subst e3; subst e4
  exact ⟨a0, a1, a2, a3, a4, rfl, rfl⟩
set_option maxRecDepth 100000 in
theorem open_ps {r : Reach} {b0 : Nat} {v : Value} {d : DataW H} {p : List MemPlace} (hv : Value.okWide Tryd.prog w r b0 23 v) (h : DataW.Trod enc Tryd.prog w base spare held 23 v d p) :
    ∃ (st mk : Int) (im ar tx : List UInt8), v = .agg #[.int .i64 st, .int .i64 mk, .string (bs im), .string (bs ar), .string (bs tx)] ∧ p = [] ∧ im.length + ar.length + tx.length ≤ Rows.uptoBulk d := by
  obtain ⟨cs, rfl, _⟩ := okWide_struct Tryd.underlying23 hv
  obtain ⟨fuel, hf⟩ := h
  obtain ⟨st, mk, im, ar, tx, e, hx⟩ := trod_ps hf
  simp only [Prod.mk.injEq] at hx
  obtain ⟨rfl, rfl⟩ := hx
  refine ⟨st, mk, im.data.toList, ar.data.toList, tx.data.toList, ?_, rfl, ?_⟩
  · simp only [Value.cells] at e
    rw [bs_data, bs_data, bs_data]
    congr 1
    exact Array.toList_inj.1 e
  · simp only [Rows.uptoBulk, Rows.uptoBulkAll]
    omega
end
end Go.Proofs.YtneiiinheimglaaDoor.B
