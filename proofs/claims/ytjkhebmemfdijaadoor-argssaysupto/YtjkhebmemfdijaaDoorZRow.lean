/-
  What every row of this seat wants besides its walk: a world in which the listed tables lie, that internal/strconv.uint64pow10 holds what its initialiser lays, what a call leaves that writes nothing old, how arguments are opened; no condition.
-/
import Derived.Test.YtjkhebmemfdijaaDoorCards
import Derived.Test.YtjkhebmemfdijaaDoorTie
import Derived.Test.YtjkhebmemfdijaaDoorZWrite
import Derived.WalkKit
import Derived.ProofKit
import Derived.OpenShut
import Derived.ShutString
import Derived.Deep.DeepHandedRow
import Derived.Deep.DeepLaidRun
import Derived.Deep.Slices
import Derived.Lib.LaidTab
import Derived.MakeChecks
import Derived.Stop.LaidErr
import Derived.PinnedBridge
import Derived.Shelf.Vars
namespace Go.Proofs.YtjkhebmemfdijaaDoor.Z
open Go.ChangeShapes Go.WideShapes Go.ChangeAt Go.RowKit Go.Lib Go.Proofs.YtjkhebmemfdijaaDoor

theorem own : ownKnob Tryd.prog.godebug = none := by kernel_rfl
theorem laidOut : laidOutB Tryd.prog = true := by kernel_rfl

theorem post_below {H : Type} {enc : TypeId × Value → H} {P : Program} {f : Func} {s : ChangeSpec} {apart fresh handsOn : Bool} {W W' : World} {args : Array Value} {v : Value} {ds gs : List (DataW H)} {before pa pv : List MemPlace}
    (hW : DataW.Whole enc P f.params.toList s.vars apart W args.toList ds gs before)
    (hres : ∀ (b : Nat) (sp : Nat → Bool) (hd : Bool), DataW.TrodAll enc P W' b sp hd f.resultTypes.toList (v.resultList f.resultTypes.size) (s.fn H (ds ++ gs)).results [])
    (hargs : DataW.TrodAll enc P W' 0 (fun b => decide (b < W.heap.size)) true f.params.toList args.toList (s.fn H (ds ++ gs)).args pa)
    (hvars : DataW.TrodVars enc P W' (fun b => decide (b < W.heap.size)) s.vars (s.fn H (ds ++ gs)).vars pv)
    (hb : Below W.heap.size W W') :
    s.post enc P f apart fresh handsOn false W args v W' :=
  ⟨ds, gs, before, [], pa, pv, hW, hres _ _ _, hargs, hvars, hb.frame _, fun h => by cases h⟩

/-- the five tables laid into a world -/
def withTables (w : World) : World :=
  { w with heap := ((((w.heap.modify 1 (fun o => match o with
      | .cells _ t frozen => .cells ((Pinned.utf8FirstZ.map fun (n : Nat) => Value.int .u8 (n : Int)).toArray) t frozen
      | o => o)).modify 2 (fun o => match o with
      | .cells _ t frozen => .cells (#[.int .u8 128, .int .u8 191, .int .u8 160, .int .u8 191, .int .u8 128, .int .u8 159, .int .u8 144, .int .u8 191, .int .u8 128, .int .u8 143] ++ Array.replicate 22 (.int .u8 0)) t frozen
      | o => o)).modify 3 (fun o => match o with
      | .cells _ t frozen => .cells ((Lib.pow10Tab.map fun (n : Int) => Value.int .u64 n).toArray) t frozen
      | o => o)).modify 4 (fun o => match o with
      | .cells _ t frozen => .cells (([0, 1, 28, 2, 29, 14, 24, 3, 30, 22, 20, 15, 25, 17, 4, 8, 31, 27, 13, 23, 21, 19, 16, 7, 26, 12, 18, 6, 11, 5, 10, 9] : List Int).map fun (n : Int) => Value.int .u8 n).toArray t frozen
      | o => o)).modify 5 (fun o => match o with
      | .cells _ t frozen => .cells (([0, 1, 56, 2, 57, 49, 28, 3, 61, 58, 42, 50, 38, 29, 17, 4, 62, 47, 59, 36, 45, 43, 51, 22, 53, 39, 33, 30, 24, 18, 12, 5, 63, 55, 48, 27, 60, 41, 37, 16, 46, 35, 44, 21, 52, 32, 23, 11, 54, 26, 40, 15, 34, 20, 31, 10, 25, 14, 19, 9, 13, 8, 7, 6] : List Int).map fun (n : Int) => Value.int .u8 n).toArray t frozen
      | o => o) }

theorem pow_eq : (Rows.laid_internal_strconv_uint64pow10 : DataW Unit) = Lib.tabData .u64 Lib.pow10Tab := by kernel_rfl
/-- what the rows' lists give -/
theorem tab_of {W : World} {x y : String × DataW Unit} {r : List (String × DataW Unit)} (h : laidMet Tryd.prog (x :: y :: ("internal/strconv.uint64pow10", Rows.laid_internal_strconv_uint64pow10) :: r) W) : Tab W := by
  have h2 := h.tail.tail
  rw [pow_eq] at h2
  exact Lib.tabIs_of_head (g := 3) (t := 87) (e := 71) (n := 20) (by kernel_rfl) (by kernel_rfl) Tryd.underlying87 Tryd.underlying71 (by kernel_rfl) (by kernel_rfl) h2
theorem maxLen_cell {W : World} (h : W.ShapedOpen Tryd.prog) : ∃ m, W.cell? ⟨0, 0, none⟩ = some (.int .i64 m) :=
  cell_of_shapedOpen_int (t := 3) (zero := #[.int .i64 0]) h (of_decide_eq_true (by kernel_rfl)) (by kernel_rfl) rfl (by kernel_rfl) (by kernel_rfl) Tryd.underlying3

theorem bulk_ints {H : Type} : ∀ l : List Int, l.length ≤ Rows.uptoBulkAll (l.map fun z => (DataW.lit (.int .i64 z) : DataW H))
  | [] => by simp
  | t :: l => by
    have ih := bulk_ints (H := H) l
    simp only [List.map_cons, List.length_cons, Rows.uptoBulkAll, Rows.uptoBulk] at *
    omega

theorem bytes_int : Tryd.prog.bytesOf 3 = 8 := by kernel_rfl
theorem cells_int : Tryd.prog.cellsOf 3 = 1 := by kernel_rfl

section
variable {H : Type} {enc : TypeId × Value → H} {w : World} {base : Nat} {spare : Nat → Bool} {held : Bool}

set_option maxRecDepth 100000 in
theorem open_int_arg {r : Reach} {b0 : Nat} {v : Value} {d : DataW H} {p : List MemPlace} (hv : Value.okWide Tryd.prog w r b0 3 v) (h : DataW.Trod enc Tryd.prog w base spare held 3 v d p) : ∃ z : Int, v = .int .i64 z ∧ d = .lit (.int .i64 z) ∧ p = [] := by
  obtain ⟨z, h1, h2, h3, _⟩ := open_int Tryd.underlying3 hv h
  exact ⟨z, h1, h2, h3⟩

set_option maxRecDepth 100000 in
theorem open_ints {r : Reach} {b0 : Nat} {v : Value} {d : DataW H} {p : List MemPlace} (hv : Value.okWide Tryd.prog w r b0 22 v) (h : DataW.Trod enc Tryd.prog w base spare held 22 v d p) : ∃ L : List Int, RdI w v L ∧ L.length ≤ Rows.uptoBulk d ∧ ((d.weights Tryd.prog 22).all (· ≤ reachBytes) = true → L.length ≤ 17592186044416) := by
  obtain ⟨a0, len0, cap0, rfl⟩ := okWide_slice Tryd.underlying22 hv
  obtain ⟨fuel, hf⟩ := h
  rcases Go.Deep.open_slice Tryd.underlying22 hf with ⟨e, hx⟩ | ⟨a, len, cap, mm, n, D, Pl, e, hb, hl, hcm, hmm, hx, hel⟩
  · simp [Value.cells] at e
    obtain ⟨rfl, rfl, rfl⟩ := e
    exact ⟨[], ⟨none, 0, rfl, by simp, .inl rfl⟩, by simp, fun _ => by simp⟩
  · simp [Value.cells] at e
    obtain ⟨rfl, rfl, rfl⟩ := e
    have hlm : len0 ≤ mm := by rw [hmm]; split <;> omega
    have hel2 : ∀ i, i < len0 → ∃ t : Int, w.cells? base (a.add i) 1 = some [.int .i64 t] ∧ D i = .lit (.int .i64 t) := fun i hi => by
      obtain ⟨cs, h1, h2⟩ := hel i (by omega)
      rw [cells_int, Nat.mul_one] at h1
      obtain ⟨z, rfl, ht, _⟩ := DataW.trod_int Tryd.underlying3 h2
      exact ⟨z, h1, congrArg Prod.fst ht⟩
    obtain ⟨f, hf2⟩ := Go.Deep.choose_lt hel2
    have hcell : ∀ i, i < len0 → w.cell? (a.add i) = some (.int .i64 (f i)) := fun i hi => by
      have := (World.cells?_some (hf2 i hi).1).2.2 0 (by decide)
      rw [Go.Deep.add_add] at this
      simpa using this
    refine ⟨(List.range len0).map f, ⟨some a, cap0, by simp, by simpa using hl, ?_⟩, ?_, ?_⟩
    · by_cases h0 : len0 = 0
      · left; simp [h0]
      · right
        have h00 := hcell 0 (by omega)
        have hsp : a.spot = none := World.cell?_spot (v := .int .i64 (f 0)) (by simpa [Addr.add] using h00)
        have hlt : a.block < w.heap.size := World.block_lt_of_cell? _ _ (show w.cell? a = some (.int .i64 (f 0)) by simpa [Addr.add] using h00)
        obtain ⟨b, off, sp⟩ := a
        simp only at hsp hlt
        subst hsp
        have hadd : ∀ j, (⟨b, off, none⟩ : Addr).add j = ⟨b, off + j, none⟩ := fun j => by
          by_cases hj : j = 0
          · simp [Addr.add, hj]
          · simp [Addr.add, hj]
        refine ⟨b, off, rfl, fun k hk => ?_, hlt⟩
        simp only [List.length_map, List.length_range] at hk
        simp only [List.getElem_map, List.getElem_range]
        have c0 := hcell k hk
        rw [hadd] at c0
        exact c0
    · have hd : d = .slice ((List.range len0).map D) ((List.range (mm - len0)).map fun j => D (len0 + j)) := congrArg Prod.fst hx
      have hD : (List.range len0).map D = ((List.range len0).map f).map (fun z => (DataW.lit (.int .i64 z) : DataW H)) := by
        rw [List.map_map]
        exact List.map_congr_left fun i hi => (hf2 i (List.mem_range.1 hi)).2
      rw [hd, hD]
      have := bulk_ints (H := H) ((List.range len0).map f)
      simp only [Rows.uptoBulk]
      omega
    · have hd : d = .slice ((List.range len0).map D) ((List.range (mm - len0)).map fun j => D (len0 + j)) := congrArg Prod.fst hx
      intro hw
      rw [hd] at hw
      simp only [DataW.weights, Tryd.underlying22, List.all_cons, Bool.and_eq_true, List.length_map, List.length_range, bytes_int, reachBytes] at hw
      have hw1 := of_decide_eq_true hw.1
      simp only [List.length_map, List.length_range]
      omega
end
end Go.Proofs.YtjkhebmemfdijaaDoor.Z
