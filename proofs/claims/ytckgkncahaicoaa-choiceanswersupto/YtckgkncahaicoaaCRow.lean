/-
  What every row of this seat wants besides its walk: how a slice of strings among the arguments is opened; what a call leaves that writes nothing old; no condition.
-/
import Derived.Test.YtckgkncahaicoaaRows
import Derived.Test.YtckgkncahaicoaaCStr
import Derived.WalkKit
import Derived.ProofKit
import Derived.OpenShut
import Derived.ShutString
import Derived.Deep.Strs
import Derived.ChangeSame
import Derived.HandedShaped
import Derived.Below
namespace Go.Proofs.Ytckgkncahaicoaa.C
open Go.ChangeShapes Go.WideShapes Go.ChangeAt Go.RowKit Go.Proofs.Ytckgkncahaicoaa Go.Proofs.Ytckgkncahaicoaa.W

theorem own : ownKnob Try.prog.godebug = none := by kernel_rfl
theorem laidOut : laidOutB Try.prog = true := by kernel_rfl

theorem post_below {H : Type} {enc : TypeId × Value → H} {P : Program} {f : Func} {s : ChangeSpec} {apart fresh handsOn : Bool} {W W' : World} {args : Array Value} {v : Value} {ds gs : List (DataW H)} {before pa pv : List MemPlace}
    (hW : DataW.Whole enc P f.params.toList s.vars apart W args.toList ds gs before)
    (hres : ∀ (b : Nat) (sp : Nat → Bool) (hd : Bool), DataW.TrodAll enc P W' b sp hd f.resultTypes.toList (v.resultList f.resultTypes.size) (s.fn H (ds ++ gs)).results [])
    (hargs : DataW.TrodAll enc P W' 0 (fun b => decide (b < W.heap.size)) true f.params.toList args.toList (s.fn H (ds ++ gs)).args pa)
    (hvars : DataW.TrodVars enc P W' (fun b => decide (b < W.heap.size)) s.vars (s.fn H (ds ++ gs)).vars pv)
    (hb : Below W.heap.size W W') :
    s.post enc P f apart fresh handsOn false W args v W' :=
  ⟨ds, gs, before, [], pa, pv, hW, hres _ _ _, hargs, hvars, hb.frame _, fun h => by cases h⟩

theorem bytes_string : Try.prog.bytesOf 9 = 16 := by kernel_rfl
theorem cells_string : Try.prog.cellsOf 9 = 1 := by kernel_rfl

section
variable {H : Type} {enc : TypeId × Value → H} {w : World} {base : Nat} {spare : Nat → Bool} {held : Bool}

set_option maxRecDepth 100000 in
theorem trod_names {fuel : Nat} {cs : List Value} {y : DataW H × List MemPlace} (h : DataW.trod enc Try.prog w base spare held fuel 22 cs = some y) :
    ∃ (v : Value) (L : List ByteArray), cs = [v] ∧ RdS w v L ∧ (∀ k (h : k < L.length), (L[k]).size ≤ maxLen) ∧ ((y.1.weights Try.prog 22).all (· ≤ reachBytes) = true → L.length ≤ 8796093022208) := by
  rcases Go.Deep.open_strs Try.underlying22 Try.underlying9 cells_string h with ⟨e, hx⟩ | ⟨a, len, cap, m, Sx, e, hb, hl, hcm, hmm, hx, hcell⟩
  · exact ⟨_, [], e, ⟨none, 0, rfl, by simp, .inl rfl⟩, fun k h => by simp at h, fun _ => by simp⟩
  · have hlm : len ≤ m := by rw [hmm]; split <;> omega
    refine ⟨_, (List.range len).map Sx, e, ⟨some a, cap, by simp, by simpa using hl, ?_⟩, fun k hk => ?_, ?_⟩
    · by_cases h0 : len = 0
      · left; simp [h0]
      · right
        have h00 := (hcell 0 (by omega)).1
        have hsp : a.spot = none := World.cell?_spot (v := .string (Sx 0)) (by simpa [Addr.add] using h00)
        have hlt : a.block < w.heap.size := World.block_lt_of_cell? _ _ (show w.cell? a = some (.string (Sx 0)) by simpa [Addr.add] using h00)
        obtain ⟨b, off, sp⟩ := a
        simp only at hsp hlt
        subst hsp
        have hadd : ∀ j, (⟨b, off, none⟩ : Addr).add j = ⟨b, off + j, none⟩ := fun j => by
          by_cases hj : j = 0
          · simp [Addr.add, hj]
          · simp [Addr.add, hj]
        refine ⟨b, off, rfl, fun k hk => ?_, hlt⟩
        simp only [List.length_map, List.length_range] at hk
        simp only [List.getElem_map, List.getElem_range]
        have c0 := (hcell k (by omega)).1
        rw [hadd] at c0
        exact c0
    · simp only [List.length_map, List.length_range] at hk
      simp only [List.getElem_map, List.getElem_range]
      exact (hcell k (by omega)).2
    · intro hw
      rw [hx] at hw
      simp only [DataW.weights, Try.underlying22, List.all_cons, Bool.and_eq_true, List.length_map, List.length_range, bytes_string, reachBytes] at hw
      have hw1 := of_decide_eq_true hw.1
      simp only [List.length_map, List.length_range]
      omega

theorem open_names {r : Reach} {b0 : Nat} {v : Value} {d : DataW H} {p : List MemPlace} (hv : Value.okWide Try.prog w r b0 22 v) (h : DataW.Trod enc Try.prog w base spare held 22 v d p) : ∃ L : List ByteArray, RdS w v L ∧ (∀ k (h : k < L.length), (L[k]).size ≤ maxLen) ∧ ((d.weights Try.prog 22).all (· ≤ reachBytes) = true → L.length ≤ 8796093022208) := by
  obtain ⟨a0, len0, cap0, rfl⟩ := okWide_slice Try.underlying22 hv
  obtain ⟨fuel, hf⟩ := h
  obtain ⟨v, L, e, h1, h2, h3⟩ := trod_names hf
  simp [Value.cells] at e
  subst e
  exact ⟨L, h1, h2, h3⟩

end
end Go.Proofs.Ytckgkncahaicoaa.C
