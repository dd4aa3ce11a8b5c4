/-
  How arguments are opened: a slice of ints, a parser; how their bulk bounds them; no condition.
  What every row of this seat wants besides its walk: a world in which the listed tables lie, that internal/bytealg.MaxLen holds an int, what a call leaves that writes nothing old; no condition.
  What a row's list of laid tables gives: that internal/strconv.uint64pow10 and the tables of unicode/utf8 hold what their initialisers lay; no condition.
  How arguments are opened: an act; how its bulk bounds it; no condition.
-/
import Derived.Test.YtneiiinheimglaaGreatDoorRows
import Derived.Test.YtneiiinheimglaaGreatDoorJ12
import Derived.WalkKit
import Derived.ProofKit
import Derived.OpenShut
import Derived.ShutString
import Derived.Deep.Strs
import Derived.ChangeSame
import Derived.HandedShaped
import Derived.Below
import Derived.Deep.Slices
import Derived.Lib.SmallJoins
import Derived.Test.YtneiiinheimglaaGreatDoorCards
import Derived.Test.YtneiiinheimglaaGreatDoorTie
import Derived.Deep.DeepHandedRow
import Derived.Deep.DeepLaidRun
import Derived.Lib.LaidTab
import Derived.MakeChecks
import Derived.Stop.LaidErr
import Derived.PinnedBridge
import Derived.Shelf.Vars
import Derived.Test.YtneiiinheimglaaGreatDoorBWr
import Derived.Test.YtneiiinheimglaaGreatDoorUShelf
import Derived.Test.YtneiiinheimglaaGreatDoorUFull
import Derived.Lib.LaidU8T
import Derived.Test.YtneiiinheimglaaGreatDoorBMem
namespace Go.Proofs.YtneiiinheimglaaGreatDoor.B
open Go.ChangeShapes Go.WideShapes Go.ChangeAt Go.RowKit Go.Lib Go.Proofs.YtneiiinheimglaaGreatDoor Go.Proofs.YtneiiinheimglaaGreatDoor.Z Go.Proofs.YtneiiinheimglaaGreatDoor.C

theorem bulk_ints {H : Type} : ∀ l : List Int, l.length ≤ Rows.uptoBulkAll (l.map fun z => (DataW.lit (.int .i64 z) : DataW H))
  | [] => by simp
  | t :: l => by
    have ih := bulk_ints (H := H) l
    simp only [List.map_cons, List.length_cons, Rows.uptoBulkAll, Rows.uptoBulk] at *
    omega

theorem bytes_int : Tryz.prog.bytesOf 3 = 8 := by kernel_rfl
theorem cells_int : Tryz.prog.cellsOf 3 = 1 := by kernel_rfl

theorem cells_str : Tryz.prog.cellsOf 9 = 1 := by kernel_rfl
theorem cells_ps : Tryz.prog.cellsOf 39 = 5 := by kernel_rfl
theorem list5 {α : Type} {l : List α} (h : l.length = 5) : ∃ a b c d e, l = [a, b, c, d, e] := by
  match l, h with
  | [a, b, c, d, e], _ => exact ⟨a, b, c, d, e, rfl⟩

section
variable {H : Type} {enc : TypeId × Value → H} {w : World} {base : Nat} {spare : Nat → Bool} {held : Bool}

set_option maxRecDepth 100000 in
theorem open_ints {r : Reach} {b0 : Nat} {v : Value} {d : DataW H} {p : List MemPlace} (hv : Value.okWide Tryz.prog w r b0 22 v) (h : DataW.Trod enc Tryz.prog w base spare held 22 v d p) : ∃ L : List Int, RdI w v L ∧ L.length ≤ Rows.uptoBulk d ∧ ((d.weights Tryz.prog 22).all (· ≤ reachBytes) = true → L.length ≤ 17592186044416) := by
  obtain ⟨a0, len0, cap0, rfl⟩ := okWide_slice Tryz.underlying22 hv
  obtain ⟨fuel, hf⟩ := h
  rcases Go.Deep.open_slice Tryz.underlying22 hf with ⟨e, hx⟩ | ⟨a, len, cap, mm, n, D, Pl, e, hb, hl, hcm, hmm, hx, hel⟩
  · simp [Value.cells] at e
    obtain ⟨rfl, rfl, rfl⟩ := e
    exact ⟨[], ⟨none, 0, rfl, by simp, .inl rfl⟩, by simp, fun _ => by simp⟩
  · simp [Value.cells] at e
    obtain ⟨rfl, rfl, rfl⟩ := e
    have hlm : len0 ≤ mm := by rw [hmm]; split <;> omega
    have hel2 : ∀ i, i < len0 → ∃ t : Int, w.cells? base (a.add i) 1 = some [.int .i64 t] ∧ D i = .lit (.int .i64 t) := fun i hi => by
      obtain ⟨cs, h1, h2⟩ := hel i (by omega)
      rw [cells_int, Nat.mul_one] at h1
      obtain ⟨z, rfl, ht, _⟩ := DataW.trod_int Tryz.underlying3 h2
      exact ⟨z, h1, congrArg Prod.fst ht⟩
    obtain ⟨f, hf2⟩ := Go.Deep.choose_lt hel2
    have hcell : ∀ i, i < len0 → w.cell? (a.add i) = some (.int .i64 (f i)) := fun i hi => by
      have := (World.cells?_some (hf2 i hi).1).2.2 0 (by decide)
      rw [Go.Deep.add_add] at this
      simpa using this
    refine ⟨(List.range len0).map f, ⟨some a, cap0, by simp, by simpa using hl, ?_⟩, ?_, ?_⟩
    · by_cases h0 : len0 = 0
      · left; simp [h0]
      · right
        have h00 := hcell 0 (by omega)
        have hsp : a.spot = none := World.cell?_spot (v := .int .i64 (f 0)) (by simpa [Addr.add] using h00)
        have hlt : a.block < w.heap.size := World.block_lt_of_cell? _ _ (show w.cell? a = some (.int .i64 (f 0)) by simpa [Addr.add] using h00)
        obtain ⟨b, off, sp⟩ := a
        simp only at hsp hlt
        subst hsp
        have hadd : ∀ j, (⟨b, off, none⟩ : Addr).add j = ⟨b, off + j, none⟩ := fun j => by
          by_cases hj : j = 0
          · simp [Addr.add, hj]
          · simp [Addr.add, hj]
        refine ⟨b, off, rfl, fun k hk => ?_, hlt⟩
        simp only [List.length_map, List.length_range] at hk
        simp only [List.getElem_map, List.getElem_range]
        have c0 := hcell k hk
        rw [hadd] at c0
        exact c0
    · have hd : d = .slice ((List.range len0).map D) ((List.range (mm - len0)).map fun j => D (len0 + j)) := congrArg Prod.fst hx
      have hD : (List.range len0).map D = ((List.range len0).map f).map (fun z => (DataW.lit (.int .i64 z) : DataW H)) := by
        rw [List.map_map]
        exact List.map_congr_left fun i hi => (hf2 i (List.mem_range.1 hi)).2
      rw [hd, hD]
      have := bulk_ints (H := H) ((List.range len0).map f)
      simp only [Rows.uptoBulk]
      omega
    · have hd : d = .slice ((List.range len0).map D) ((List.range (mm - len0)).map fun j => D (len0 + j)) := congrArg Prod.fst hx
      intro hw
      rw [hd] at hw
      simp only [DataW.weights, Tryz.underlying22, List.all_cons, Bool.and_eq_true, List.length_map, List.length_range, bytes_int, reachBytes] at hw
      have hw1 := of_decide_eq_true hw.1
      simp only [List.length_map, List.length_range]
      omega

theorem trod5 {P : Program} {t : TypeId} {f0 f1 f2 f3 f4 : Field} {fuel : Nat} {cs : List Value} {x : DataW H × List MemPlace} (ht : P.underlying t = some (.struct #[f0, f1, f2, f3, f4])) (h : DataW.trod enc P w base spare held fuel t cs = some x) :
    ∃ y0 y1 y2 y3 y4 n, x = (.agg [y0.1, y1.1, y2.1, y3.1, y4.1], y0.2 ++ (y1.2 ++ (y2.2 ++ (y3.2 ++ y4.2)))) ∧ cs.length = P.cellsOf t ∧
      DataW.trod enc P w base spare held n f0.type ((cs.drop f0.offset).take (P.cellsOf f0.type)) = some y0 ∧ DataW.trod enc P w base spare held n f1.type ((cs.drop f1.offset).take (P.cellsOf f1.type)) = some y1 ∧
      DataW.trod enc P w base spare held n f2.type ((cs.drop f2.offset).take (P.cellsOf f2.type)) = some y2 ∧ DataW.trod enc P w base spare held n f3.type ((cs.drop f3.offset).take (P.cellsOf f3.type)) = some y3 ∧
      DataW.trod enc P w base spare held n f4.type ((cs.drop f4.offset).take (P.cellsOf f4.type)) = some y4 := by
  obtain ⟨xs, n, _, rfl, hl, hlen, hf⟩ := DataW.trod_struct ht h
  obtain ⟨y0, y1, y2, y3, y4, rfl⟩ := list5 hlen
  exact ⟨y0, y1, y2, y3, y4, n, by simp, hl, by simpa using hf 0 f0 rfl, by simpa using hf 1 f1 rfl, by simpa using hf 2 f2 rfl, by simpa using hf 3 f3 rfl, by simpa using hf 4 f4 rfl⟩


theorem trod_ps {fuel : Nat} {cs : List Value} {y : DataW H × List MemPlace} (h : DataW.trod enc Tryz.prog w base spare held fuel 39 cs = some y) :
    ∃ (st mk : Int) (im ar tx : ByteArray), cs = [.int .i64 st, .int .i64 mk, .string im, .string ar, .string tx] ∧ y = (.agg [.lit (.int .i64 st), .lit (.int .i64 mk), .lit (.string im.data.toList), .lit (.string ar.data.toList), .lit (.string tx.data.toList)], []) := by
  obtain ⟨y0, y1, y2, y3, y4, n, rfl, hl, f0, f1, f2, f3, f4⟩ := trod5 Tryz.underlying39 h
  rw [cells_ps] at hl
  obtain ⟨c0, c1, c2, c3, c4, rfl⟩ := list5 hl
  obtain ⟨a0, e0, rfl, _⟩ := DataW.trod_int Tryz.underlying3 f0
  obtain ⟨a1, e1, rfl, _⟩ := DataW.trod_int Tryz.underlying3 f1
  obtain ⟨a2, e2, rfl, _⟩ := DataW.trod_string Tryz.underlying9 f2
  obtain ⟨a3, e3, rfl, _⟩ := DataW.trod_string Tryz.underlying9 f3
  obtain ⟨a4, e4, rfl, _⟩ := DataW.trod_string Tryz.underlying9 f4
  rw [cells_int] at e0 e1
  rw [cells_str] at e2 e3 e4
  simp at e0 e1 e2 e3 e4
  subst e0; subst e1; subst e2; subst e3; subst e4
  exact ⟨a0, a1, a2, a3, a4, rfl, rfl⟩
set_option maxRecDepth 100000 in
theorem open_ps {r : Reach} {b0 : Nat} {v : Value} {d : DataW H} {p : List MemPlace} (hv : Value.okWide Tryz.prog w r b0 39 v) (h : DataW.Trod enc Tryz.prog w base spare held 39 v d p) :
    ∃ (st mk : Int) (im ar tx : List UInt8), v = .agg #[.int .i64 st, .int .i64 mk, .string (bs im), .string (bs ar), .string (bs tx)] ∧ p = [] ∧ im.length + ar.length + tx.length ≤ Rows.uptoBulk d := by
  obtain ⟨cs, rfl, _⟩ := okWide_struct Tryz.underlying39 hv
  obtain ⟨fuel, hf⟩ := h
  obtain ⟨st, mk, im, ar, tx, e, hx⟩ := trod_ps hf
  simp only [Prod.mk.injEq] at hx
  obtain ⟨rfl, rfl⟩ := hx
  refine ⟨st, mk, im.data.toList, ar.data.toList, tx.data.toList, ?_, rfl, ?_⟩
  · simp only [Value.cells] at e
    rw [bs_data, bs_data, bs_data]
    congr 1
    exact Array.toList_inj.1 e
  · simp only [Rows.uptoBulk, Rows.uptoBulkAll]
    omega
end
end Go.Proofs.YtneiiinheimglaaGreatDoor.B
namespace Go.Proofs.YtneiiinheimglaaGreatDoor.B
open Go.ChangeShapes Go.WideShapes Go.ChangeAt Go.RowKit Go.Lib Go.Proofs.YtneiiinheimglaaGreatDoor

theorem own : ownKnob Tryz.prog.godebug = none := by kernel_rfl
theorem laidOut : laidOutB Tryz.prog = true := by kernel_rfl

theorem post_below {H : Type} {enc : TypeId × Value → H} {P : Program} {f : Func} {s : ChangeSpec} {apart fresh handsOn : Bool} {W W' : World} {args : Array Value} {v : Value} {ds gs : List (DataW H)} {before pa pv : List MemPlace}
    (hW : DataW.Whole enc P f.params.toList s.vars apart W args.toList ds gs before)
    (hres : ∀ (b : Nat) (sp : Nat → Bool) (hd : Bool), DataW.TrodAll enc P W' b sp hd f.resultTypes.toList (v.resultList f.resultTypes.size) (s.fn H (ds ++ gs)).results [])
    (hargs : DataW.TrodAll enc P W' 0 (fun b => decide (b < W.heap.size)) true f.params.toList args.toList (s.fn H (ds ++ gs)).args pa)
    (hvars : DataW.TrodVars enc P W' (fun b => decide (b < W.heap.size)) s.vars (s.fn H (ds ++ gs)).vars pv)
    (hb : Below W.heap.size W W') :
    s.post enc P f apart fresh handsOn false W args v W' :=
  ⟨ds, gs, before, [], pa, pv, hW, hres _ _ _, hargs, hvars, hb.frame _, fun h => by cases h⟩

/-- the five tables laid into a world -/
def withTables (w : World) : World :=
  { w with heap := ((((w.heap.modify 0 (fun o => match o with
      | .cells _ t frozen => .cells ((Pinned.utf8FirstZ.map fun (n : Nat) => Value.int .u8 (n : Int)).toArray) t frozen
      | o => o)).modify 1 (fun o => match o with
      | .cells _ t frozen => .cells (#[.int .u8 128, .int .u8 191, .int .u8 160, .int .u8 191, .int .u8 128, .int .u8 159, .int .u8 144, .int .u8 191, .int .u8 128, .int .u8 143] ++ Array.replicate 22 (.int .u8 0)) t frozen
      | o => o)).modify 3 (fun o => match o with
      | .cells _ t frozen => .cells ((Lib.pow10Tab.map fun (n : Int) => Value.int .u64 n).toArray) t frozen
      | o => o)).modify 4 (fun o => match o with
      | .cells _ t frozen => .cells (([0, 1, 28, 2, 29, 14, 24, 3, 30, 22, 20, 15, 25, 17, 4, 8, 31, 27, 13, 23, 21, 19, 16, 7, 26, 12, 18, 6, 11, 5, 10, 9] : List Int).map fun (n : Int) => Value.int .u8 n).toArray t frozen
      | o => o)).modify 5 (fun o => match o with
      | .cells _ t frozen => .cells (([0, 1, 56, 2, 57, 49, 28, 3, 61, 58, 42, 50, 38, 29, 17, 4, 62, 47, 59, 36, 45, 43, 51, 22, 53, 39, 33, 30, 24, 18, 12, 5, 63, 55, 48, 27, 60, 41, 37, 16, 46, 35, 44, 21, 52, 32, 23, 11, 54, 26, 40, 15, 34, 20, 31, 10, 25, 14, 19, 9, 13, 8, 7, 6] : List Int).map fun (n : Int) => Value.int .u8 n).toArray t frozen
      | o => o) }

theorem maxLen_cell {W : World} (h : W.ShapedOpen Tryz.prog) : ∃ m, W.cell? ⟨2, 0, none⟩ = some (.int .i64 m) :=
  cell_of_shapedOpen_int (t := 3) (zero := #[.int .i64 0]) h (of_decide_eq_true (by kernel_rfl)) (by kernel_rfl) rfl (by kernel_rfl) (by kernel_rfl) Tryz.underlying3
end Go.Proofs.YtneiiinheimglaaGreatDoor.B
namespace Go.Proofs.YtneiiinheimglaaGreatDoor.B
open Go.ChangeShapes Go.WideShapes Go.ChangeAt Go.RowKit Go.Lib Go.Proofs.YtneiiinheimglaaGreatDoor Go.Proofs.YtneiiinheimglaaGreatDoor.Z

theorem pow_eq : (Rows.laid_internal_strconv_uint64pow10 : DataW Unit) = Lib.tabData .u64 Lib.pow10Tab := by kernel_rfl
/-- what the rows' lists give -/
theorem tab_of {W : World} {x y : String × DataW Unit} {r : List (String × DataW Unit)} (h : laidMet Tryz.prog (x :: y :: ("internal/strconv.uint64pow10", Rows.laid_internal_strconv_uint64pow10) :: r) W) : Tab W := by
  have h2 := h.tail.tail
  rw [pow_eq] at h2
  exact Lib.tabIs_of_head (g := 3) (t := 119) (e := 92) (n := 20) (by kernel_rfl) (by kernel_rfl) Tryz.underlying119 Tryz.underlying92 (by kernel_rfl) (by kernel_rfl) h2
theorem types : U8Types Tryz.prog Tryz.lays197_ren := { t5 := Tryz.underlying5, t119 := Tryz.underlying71, t138 := Tryz.underlying73, t139 := Tryz.underlying74 }
theorem extra : U8Extra Tryz.prog Tryz.lays197_ren := { n3 := by kernel_rfl, n4 := by kernel_rfl, y3 := by kernel_rfl, y4 := by kernel_rfl, c5 := by kernel_rfl, c119 := by kernel_rfl, c138 := by kernel_rfl }

theorem accept_eq : (Rows.laid_unicode_utf8_acceptRanges : DataW Unit) = acceptData := by kernel_rfl

theorem utabs_of {W : World} {l : List (String × DataW Unit)} (h : laidMet Tryz.prog l W) (h1 : ("unicode/utf8.first", (Rows.laid_unicode_utf8_first : DataW Unit)) ∈ l) (h2 : ("unicode/utf8.acceptRanges", (Rows.laid_unicode_utf8_acceptRanges : DataW Unit)) ∈ l) : U.Tabs W := by
  have h3 := laidMet.reads h (n := "unicode/utf8.first") (d := Rows.laid_unicode_utf8_first) h1
  have h4 := laidMet.reads h (n := "unicode/utf8.acceptRanges") (d := Rows.laid_unicode_utf8_acceptRanges) h2
  rw [show Rows.laid_unicode_utf8_first = firstData from Pinned.utf8First_eq] at h3
  rw [accept_eq] at h4
  exact utf8Tabs_of_readsT types extra h3 h4
end Go.Proofs.YtneiiinheimglaaGreatDoor.B
namespace Go.Proofs.YtneiiinheimglaaGreatDoor.B
open Go.ChangeShapes Go.WideShapes Go.ChangeAt Go.RowKit Go.Lib Go.Proofs.YtneiiinheimglaaGreatDoor Go.Proofs.YtneiiinheimglaaGreatDoor.Z Go.Proofs.YtneiiinheimglaaGreatDoor.C

theorem cells_act : Tryz.prog.cellsOf 24 = 6 := by kernel_rfl
theorem cells_ints : Tryz.prog.cellsOf 22 = 1 := by kernel_rfl
theorem list6 {α : Type} {l : List α} (h : l.length = 6) : ∃ a b c d e f, l = [a, b, c, d, e, f] := by
  match l, h with
  | [a, b, c, d, e, f], _ => exact ⟨a, b, c, d, e, f, rfl⟩
section
variable {H : Type} {enc : TypeId × Value → H} {w : World} {base : Nat} {spare : Nat → Bool} {held : Bool}

set_option maxRecDepth 100000 in
theorem trod_ints {fuel : Nat} {cs : List Value} {x : DataW H × List MemPlace} (hf : DataW.trod enc Tryz.prog w base spare held fuel 22 cs = some x) : ∃ (v : Value) (L : List Int), cs = [v] ∧ RdI w v L ∧ L.length ≤ Rows.uptoBulk x.1 := by
  rcases Go.Deep.open_slice Tryz.underlying22 hf with ⟨e, hx⟩ | ⟨a, len, cap, mm, n, D, Pl, e, hb, hl, hcm, hmm, hx, hel⟩
  · exact ⟨_, [], e, ⟨none, 0, rfl, by simp, .inl rfl⟩, Nat.zero_le _⟩
  · have hlm : len ≤ mm := by rw [hmm]; split <;> omega
    have hel2 : ∀ i, i < len → ∃ t : Int, w.cells? base (a.add i) 1 = some [.int .i64 t] ∧ D i = .lit (.int .i64 t) := fun i hi => by
      obtain ⟨cs, h1, h2⟩ := hel i (by omega)
      rw [cells_int, Nat.mul_one] at h1
      obtain ⟨z, rfl, ht, _⟩ := DataW.trod_int Tryz.underlying3 h2
      exact ⟨z, h1, congrArg Prod.fst ht⟩
    obtain ⟨f, hf2⟩ := Go.Deep.choose_lt hel2
    have hcell : ∀ i, i < len → w.cell? (a.add i) = some (.int .i64 (f i)) := fun i hi => by
      have := (World.cells?_some (hf2 i hi).1).2.2 0 (by decide)
      rw [Go.Deep.add_add] at this
      simpa using this
    refine ⟨_, (List.range len).map f, e, ⟨some a, cap, by simp, by simpa using hl, ?_⟩, ?_⟩
    · by_cases h0 : len = 0
      · left; simp [h0]
      · right
        have h00 := hcell 0 (by omega)
        have hsp : a.spot = none := World.cell?_spot (v := .int .i64 (f 0)) (by simpa [Addr.add] using h00)
        have hlt : a.block < w.heap.size := World.block_lt_of_cell? _ _ (show w.cell? a = some (.int .i64 (f 0)) by simpa [Addr.add] using h00)
        obtain ⟨b, off, sp⟩ := a
        simp only at hsp hlt
        subst hsp
        have hadd : ∀ j, (⟨b, off, none⟩ : Addr).add j = ⟨b, off + j, none⟩ := fun j => by
          by_cases hj : j = 0
          · simp [Addr.add, hj]
          · simp [Addr.add, hj]
        refine ⟨b, off, rfl, fun k hk => ?_, hlt⟩
        simp only [List.length_map, List.length_range] at hk
        simp only [List.getElem_map, List.getElem_range]
        have c0 := hcell k hk
        rw [hadd] at c0
        exact c0
    · have hD : (List.range len).map D = ((List.range len).map f).map (fun z => (DataW.lit (.int .i64 z) : DataW H)) := by
        rw [List.map_map]
        exact List.map_congr_left fun i hi => (hf2 i (List.mem_range.1 hi)).2
      rw [hx, hD]
      have := bulk_ints (H := H) ((List.range len).map f)
      simp only [Rows.uptoBulk]
      omega
theorem trod6 {P : Program} {t : TypeId} {f0 f1 f2 f3 f4 f5 : Field} {fuel : Nat} {cs : List Value} {x : DataW H × List MemPlace} (ht : P.underlying t = some (.struct #[f0, f1, f2, f3, f4, f5])) (h : DataW.trod enc P w base spare held fuel t cs = some x) :
    ∃ y0 y1 y2 y3 y4 y5 n, x.1 = .agg [y0.1, y1.1, y2.1, y3.1, y4.1, y5.1] ∧ cs.length = P.cellsOf t ∧
      DataW.trod enc P w base spare held n f0.type ((cs.drop f0.offset).take (P.cellsOf f0.type)) = some y0 ∧ DataW.trod enc P w base spare held n f1.type ((cs.drop f1.offset).take (P.cellsOf f1.type)) = some y1 ∧
      DataW.trod enc P w base spare held n f2.type ((cs.drop f2.offset).take (P.cellsOf f2.type)) = some y2 ∧ DataW.trod enc P w base spare held n f3.type ((cs.drop f3.offset).take (P.cellsOf f3.type)) = some y3 ∧
      DataW.trod enc P w base spare held n f4.type ((cs.drop f4.offset).take (P.cellsOf f4.type)) = some y4 ∧ DataW.trod enc P w base spare held n f5.type ((cs.drop f5.offset).take (P.cellsOf f5.type)) = some y5 := by
  obtain ⟨xs, n, _, rfl, hl, hlen, hf⟩ := DataW.trod_struct ht h
  obtain ⟨y0, y1, y2, y3, y4, y5, rfl⟩ := list6 hlen
  exact ⟨y0, y1, y2, y3, y4, y5, n, by simp, hl, by simpa using hf 0 f0 rfl, by simpa using hf 1 f1 rfl, by simpa using hf 2 f2 rfl, by simpa using hf 3 f3 rfl, by simpa using hf 4 f4 rfl, by simpa using hf 5 f5 rfl⟩
set_option maxRecDepth 100000 in
theorem trod_act {fuel : Nat} {cs : List Value} {y : DataW H × List MemPlace} (h : DataW.trod enc Tryz.prog w base spare held fuel 24 cs = some y) :
    ∃ (a : Ac) (va : Value), cs = acells a va ∧ RdI w va a.args ∧ a.inter.length + a.text.length + a.args.length + 1 ≤ Rows.uptoBulk y.1 := by
  obtain ⟨y0, y1, y2, y3, y4, y5, n, hy, hl, f0, f1, f2, f3, f4, f5⟩ := trod6 Tryz.underlying24 h
  rw [cells_act] at hl
  obtain ⟨c0, c1, c2, c3, c4, c5, rfl⟩ := list6 hl
  obtain ⟨a0, e0, rfl, _⟩ := DataW.trod_int Tryz.underlying3 f0
  obtain ⟨a1, e1, rfl, _⟩ := DataW.trod_int Tryz.underlying3 f1
  obtain ⟨a2, e2, rfl, _⟩ := DataW.trod_int Tryz.underlying3 f2
  obtain ⟨a3, e3, rfl, _⟩ := DataW.trod_string Tryz.underlying9 f3
  obtain ⟨v4, L4, e4, hr4, hb4⟩ := trod_ints f4
  obtain ⟨a5, e5, rfl, _⟩ := DataW.trod_string Tryz.underlying9 f5
  rw [cells_int] at e0 e1 e2
  rw [cells_str] at e3 e5
  rw [cells_ints] at e4
  simp at e0 e1 e2 e3 e4 e5
  subst e0; subst e1; subst e2; subst e3; subst e4; subst e5
  refine ⟨⟨a0, a1, a2, a3.data.toList, L4, a5.data.toList⟩, c4, ?_, hr4, ?_⟩
  · unfold acells
    rw [bs_data, bs_data]
  · rw [hy]
    simp only [Rows.uptoBulk, Rows.uptoBulkAll]
    omega
set_option maxRecDepth 100000 in
theorem open_act {r : Reach} {b0 : Nat} {v : Value} {d : DataW H} {p : List MemPlace} (hv : Value.okWide Tryz.prog w r b0 24 v) (h : DataW.Trod enc Tryz.prog w base spare held 24 v d p) :
    ∃ (a : Ac) (va : Value), v = .agg #[.int .i64 a.kind, .int .i64 a.code, .int .i64 a.mark, .string (bs a.inter), va, .string (bs a.text)] ∧ RdI w va a.args ∧ a.inter.length + a.text.length + a.args.length + 1 ≤ Rows.uptoBulk d := by
  obtain ⟨cs, rfl, _⟩ := okWide_struct Tryz.underlying24 hv
  obtain ⟨fuel, hf⟩ := h
  obtain ⟨a, va, e, hr, hb⟩ := trod_act hf
  refine ⟨a, va, ?_, hr, hb⟩
  simp only [Value.cells] at e
  congr 1
  exact Array.toList_inj.1 e
end
end Go.Proofs.YtneiiinheimglaaGreatDoor.B
