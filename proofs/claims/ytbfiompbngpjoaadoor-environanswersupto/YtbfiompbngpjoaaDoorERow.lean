/-
  What every row of this seat wants besides its walk: how a slice of variables among the arguments is opened; what a call leaves that writes nothing old; no condition.
-/
import Derived.Test.YtbfiompbngpjoaaDoorRows
import Derived.Test.YtbfiompbngpjoaaDoorEMem
import Derived.WalkKit
import Derived.ProofKit
import Derived.OpenShut
import Derived.ShutString
import Derived.Deep.Slices
import Derived.Lib.SmallJoins
import Derived.ChangeSame
import Derived.HandedShaped
import Derived.Below
namespace Go.Proofs.YtbfiompbngpjoaaDoor.E
open Go.ChangeShapes Go.WideShapes Go.ChangeAt Go.RowKit Go.Proofs.YtbfiompbngpjoaaDoor Go.Proofs.YtbfiompbngpjoaaDoor.W Go.Proofs.YtbfiompbngpjoaaDoor.C

theorem own : ownKnob Tryd.prog.godebug = none := by kernel_rfl
theorem laidOut : laidOutB Tryd.prog = true := by kernel_rfl

theorem post_below {H : Type} {enc : TypeId × Value → H} {P : Program} {f : Func} {s : ChangeSpec} {apart fresh handsOn : Bool} {W W' : World} {args : Array Value} {v : Value} {ds gs : List (DataW H)} {before pa pv : List MemPlace}
    (hW : DataW.Whole enc P f.params.toList s.vars apart W args.toList ds gs before)
    (hres : ∀ (b : Nat) (sp : Nat → Bool) (hd : Bool), DataW.TrodAll enc P W' b sp hd f.resultTypes.toList (v.resultList f.resultTypes.size) (s.fn H (ds ++ gs)).results [])
    (hargs : DataW.TrodAll enc P W' 0 (fun b => decide (b < W.heap.size)) true f.params.toList args.toList (s.fn H (ds ++ gs)).args pa)
    (hvars : DataW.TrodVars enc P W' (fun b => decide (b < W.heap.size)) s.vars (s.fn H (ds ++ gs)).vars pv)
    (hb : Below W.heap.size W W') :
    s.post enc P f apart fresh handsOn false W args v W' :=
  ⟨ds, gs, before, [], pa, pv, hW, hres _ _ _, hargs, hvars, hb.frame _, fun h => by cases h⟩

theorem bytes_var : Tryd.prog.bytesOf 30 = 40 := by kernel_rfl
theorem cells_var : Tryd.prog.cellsOf 30 = 4 := by kernel_rfl
theorem cells_string : Tryd.prog.cellsOf 9 = 1 := by kernel_rfl
theorem cells_bool : Tryd.prog.cellsOf 4 = 1 := by kernel_rfl
theorem list4 {α : Type} {l : List α} (h : l.length = 4) : ∃ a b c d, l = [a, b, c, d] := by
  match l, h with
  | [a, b, c, d], _ => exact ⟨a, b, c, d, rfl⟩
def Vr.dat {H : Type} (v : Vr) : DataW H := .agg [.lit (.string v.name), .lit (.string v.value), .lit (.bool v.user), .lit (.bool v.set)]
def bulkOf : List Vr → Nat
  | [] => 0
  | v :: l => v.name.length + v.value.length + 5 + bulkOf l

section
variable {H : Type} {enc : TypeId × Value → H} {w : World} {base : Nat} {spare : Nat → Bool} {held : Bool}

theorem bulk_dat : ∀ l : List Vr, bulkOf l ≤ Rows.uptoBulkAll (l.map (Vr.dat (H := H)))
  | [] => by simp [bulkOf]
  | t :: l => by
    have ih := bulk_dat l
    simp only [List.map_cons, bulkOf, Rows.uptoBulkAll, Vr.dat, Rows.uptoBulk] at *
    omega

theorem trod_var {fuel : Nat} {cs : List Value} {y : DataW H × List MemPlace} (h : DataW.trod enc Tryd.prog w base spare held fuel 30 cs = some y) :
    ∃ t : Vr, cs = vcells t ∧ y = (t.dat, []) := by
  obtain ⟨y0, y1, y2, y3, n, rfl, hl, f0, f1, f2, f3⟩ := Joins.trod_struct4 Tryd.underlying30 h
  rw [cells_var] at hl
  obtain ⟨c0, c1, c2, c3, rfl⟩ := list4 hl
  obtain ⟨a0, e0, rfl, _⟩ := DataW.trod_string Tryd.underlying9 f0
  obtain ⟨a1, e1, rfl, _⟩ := DataW.trod_string Tryd.underlying9 f1
  obtain ⟨a2, e2, rfl⟩ := DataW.trod_bool Tryd.underlying4 f2
  obtain ⟨a3, e3, rfl⟩ := DataW.trod_bool Tryd.underlying4 f3
  rw [cells_string] at e0 e1
  rw [cells_bool] at e2 e3
  simp at e0 e1 e2 e3
  subst e0; subst e1; subst e2; subst e3
  exact ⟨⟨a0.data.toList, a1.data.toList, a2, a3⟩, by simp [vcells, bs_data], rfl⟩

theorem open_vars {r : Reach} {b0 : Nat} {v : Value} {d : DataW H} {p : List MemPlace} (hv : Value.okWide Tryd.prog w r b0 22 v) (h : DataW.Trod enc Tryd.prog w base spare held 22 v d p) : ∃ L : List Vr, RdV w v L ∧ bulkOf L ≤ Rows.uptoBulk d ∧ ((d.weights Tryd.prog 22).all (· ≤ reachBytes) = true → L.length * 40 ≤ 140737488355328) := by
  obtain ⟨a0, len0, cap0, rfl⟩ := okWide_slice Tryd.underlying22 hv
  obtain ⟨fuel, hf⟩ := h
  rcases Go.Deep.open_slice Tryd.underlying22 hf with ⟨e, hx⟩ | ⟨a, len, cap, mm, n, D, Pl, e, hb, hl, hcm, hmm, hx, hel⟩
  · simp [Value.cells] at e
    obtain ⟨rfl, rfl, rfl⟩ := e
    exact ⟨[], ⟨none, 0, rfl, by simp, .inl rfl⟩, Nat.zero_le _, fun _ => by simp⟩
  · simp [Value.cells] at e
    obtain ⟨rfl, rfl, rfl⟩ := e
    have hlm : len0 ≤ mm := by rw [hmm]; split <;> omega
    have hel2 : ∀ i, i < len0 → ∃ t : Vr, w.cells? base (a.add (i * 4)) 4 = some (vcells t) ∧ D i = t.dat := fun i hi => by
      obtain ⟨cs, h1, h2⟩ := hel i (by omega)
      rw [cells_var] at h1
      obtain ⟨t, rfl, ht⟩ := trod_var h2
      exact ⟨t, h1, congrArg Prod.fst ht⟩
    have i0 : Inhabited Vr := ⟨⟨[], [], false, false⟩⟩
    obtain ⟨f, hf2⟩ := Go.Deep.choose_lt hel2
    have hcell : ∀ i, i < len0 → ∀ j, j < 4 → w.cell? (a.add (i * 4 + j)) = (vcells (f i))[j]? := fun i hi j hj => by
      have := (World.cells?_some (hf2 i hi).1).2.2 j hj
      rwa [Go.Deep.add_add] at this
    have hd : d = .slice ((List.range len0).map D) ((List.range (mm - len0)).map fun j => D (len0 + j)) := congrArg Prod.fst hx
    have hD : (List.range len0).map D = ((List.range len0).map f).map Vr.dat := by
      rw [List.map_map]
      exact List.map_congr_left fun i hi => (hf2 i (List.mem_range.1 hi)).2
    refine ⟨(List.range len0).map f, ⟨some a, cap0, by simp, by simpa using hl, ?_⟩, ?_, ?_⟩
    · by_cases h0 : len0 = 0
      · left; simp [h0]
      · right
        have h00 := hcell 0 (by omega) 0 (by omega)
        have hsp : a.spot = none := World.cell?_spot (v := .string (bs (f 0).name)) (by simpa [Addr.add, vcells] using h00)
        have hlt : a.block < w.heap.size := World.block_lt_of_cell? _ _ (show w.cell? a = some (.string (bs (f 0).name)) by simpa [Addr.add, vcells] using h00)
        obtain ⟨b, off, sp⟩ := a
        simp only at hsp hlt
        subst hsp
        have hadd : ∀ j, (⟨b, off, none⟩ : Addr).add j = ⟨b, off + j, none⟩ := fun j => by
          by_cases hj : j = 0
          · simp [Addr.add, hj]
          · simp [Addr.add, hj]
        refine ⟨b, off, rfl, fun k hk => ?_, hlt⟩
        simp only [List.length_map, List.length_range] at hk
        simp only [List.getElem_map, List.getElem_range]
        have c0 := hcell k hk 0 (by omega)
        have c1 := hcell k hk 1 (by omega)
        have c2 := hcell k hk 2 (by omega)
        have c3 := hcell k hk 3 (by omega)
        rw [hadd] at c0 c1 c2 c3
        exact ⟨c0, c1, c2, c3⟩
    · rw [hd, hD]
      have := bulk_dat (H := H) ((List.range len0).map f)
      simp only [Rows.uptoBulk]
      omega
    · intro hw
      rw [hd] at hw
      simp only [DataW.weights, Tryd.underlying22, List.all_cons, Bool.and_eq_true, List.length_map, List.length_range, bytes_var, reachBytes] at hw
      have hw1 := of_decide_eq_true hw.1
      simp only [List.length_map, List.length_range]
      omega
end
end Go.Proofs.YtbfiompbngpjoaaDoor.E
