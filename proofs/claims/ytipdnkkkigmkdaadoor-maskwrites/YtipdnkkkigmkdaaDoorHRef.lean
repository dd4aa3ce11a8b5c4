/-
  Contract of farref.Bytes; condition: at most 100 bytes.
-/
import Derived.Test.YtipdnkkkigmkdaaDoorHCells
import Derived.Laws.MakeOwn
import Derived.BigQuiet
import Derived.Deep.LoopGhost
namespace Go.Proofs.YtipdnkkkigmkdaaDoor.H
open Go.RowKit Go.Lib Go.Proofs.YtipdnkkkigmkdaaDoor Go.Proofs.YtipdnkkkigmkdaaDoor.W Go.Proofs.YtipdnkkkigmkdaaDoor.Q

def icells (l : List UInt8) : List Value := l.map fun b => .int .i64 (b.toNat : Int)
theorem OwnB.box {w : World} {g : Nat} {l : List UInt8} (h : Box w g 5 (bcells l)) (hl : l.length ≤ 1000000) : OwnB w 0 (.slice (some ⟨g, 0, none⟩) l.length l.length) l :=
  ⟨by simp [bcells], .inr ⟨g, l.length, _, (0, 0), rfl, Nat.zero_le _, h, .inl rfl, Nat.le_refl _, by unfold maxLen; omega, by simp [bcells], by simp [bcells, List.take_of_length_le]⟩⟩
theorem take_set (l : List Value) (k : Nat) (v : Value) (h : k < l.length) : (l.set k v).take (k + 1) = l.take k ++ [v] := by
  have e : (l.set k v).take k = l.take k := by
    apply List.ext_getElem?
    intro i
    by_cases hi : i < k
    · simp [hi, show k ≠ i by omega]
    · simp [List.getElem?_take, hi]
  rw [List.take_succ_eq_append_getElem (by simpa using h), e]
  simp

def YState (w : World) (N : List UInt8) (i : Value) (wr : World) : Prop :=
  ∃ (k : Nat) (arr : List Value), k ≤ N.length ∧ i = .int .i64 k ∧ Box wr w.heap.size 5 arr ∧ arr.length = N.length ∧ arr.take k = bcells (N.take k) ∧ Below w.heap.size w wr

set_option maxHeartbeats 8000000 in
set_option maxRecDepth 100000 in
theorem RBytes_any (N : List UInt8) (g c : Nat) (w : World) (hn : N.length ≤ 100) (hc : ∀ k (h : k < N.length), w.cell? ⟨g, k, none⟩ = some (.int .i64 (N[k].toNat : Int))) (hg : g < w.heap.size) :
    Calls Tryd.prog 18 #[.slice (some ⟨g, 0, none⟩) N.length c] w fun e w' => e = .returned (.string ⟨N.toArray⟩) ∧ Below w.heap.size w w' := by
  obtain ⟨i0, hi, hz0, hz1, hz2⟩ := info_parts infoByte
  have hmk := run_makeSlice w 39 5 i0 (.int .u8 0) Tryd.underlying39 hi hz0 .i64 .i64 N.length N.length (by omega) (by omega) (by rw [hz1]; simp; omega) (by rw [hz2]; simp; omega) (by omega)
  rw [hz1] at hmk
  simp only [Int.toNat_natCast, Nat.mul_one] at hmk
  have HC := Hid.mk' hc
  have HS : Hid (YState w N (.int .i64 0) (w.alloc (.cells (madeCells (Value.int .u8 0).cells N.length) 5))) :=
    ⟨0, (madeCells (Value.int .u8 0).cells N.length).toList, Nat.zero_le _, rfl, by have := Box.new w 5 (madeCells (Value.int .u8 0).cells N.length).toList; rwa [Array.toArray_toList] at this, by simpa using size_madeCells _ _, by simp [bcells], (Below.refl _ _).alloc (Nat.le_refl _) _⟩
  generalize madeCells (Value.int .u8 0).cells N.length = arr0 at *
  clear hc
  go_enter Tryd.func18, Tryd.ntmps18
  go_wp2_with fail
  go_loopw [11] (fun i wr => YState w N i wr) (fun i _ => N.length - (RowKit.intOf i).toNat)
  case atStart => exact HS.out
  case round =>
    obtain ⟨k, arr, hk, rfl, hbox, hsz, htk, hbl⟩ := hrel
    clear HS hmk
    have HB := Hid.mk' hbl
    have HK := Hid.mk' hbox
    have HT := Hid.mk' htk
    clear htk
    by_cases hl : k < N.length
    · have h1 : wr.cell? ⟨g, k, none⟩ = some (.int .i64 (N[k].toNat : Int)) := (hbl.cell (p := ⟨g, k, none⟩) hg).trans (HC.out k hl)
      have h2 : ∃ x, wr.cell? ⟨w.heap.size, k, none⟩ = some x := ⟨_, hbox.cell (List.getElem?_eq_getElem (show k < arr.length by omega))⟩
      have h3 := hbox.frozen
      obtain ⟨x, h2⟩ := h2
      have hbn := N[k].toNat_lt
      have q1 : (0 : Int) ≤ (N[k].toNat : Int) := by omega
      have q2 : (N[k].toNat : Int) ≤ 255 := by omega
      have hts : N.take (k + 1) = N.take k ++ [N[k]] := List.take_succ_eq_append_getElem hl
      have HTS := Hid.mk' (show bcells (N.take (k + 1)) = bcells (N.take k) ++ [.int .u8 (N[k].toNat : Int)] by unfold bcells; rw [hts, List.map_append]; rfl)
      clear hbl hbox hbn hts
      generalize (N[k].toNat : Int) = y at *
      go_wp2
      go_roundw
      case rel =>
        refine ⟨k + 1, arr.set k (.int .u8 y), by omega, by go_num, HK.out.setCell _ _, by simpa using hsz, ?_, HB.out.setCell (by simp) _⟩
        rw [HTS.out, ← HT.out]
        exact take_set _ _ _ (by omega)
      case measure => simp [RowKit.intOf]; omega
    · obtain rfl : k = N.length := by omega
      have e : arr = bcells N := by
        have := HT.out
        rwa [List.take_length, List.take_of_length_le (by omega)] at this
      subst e
      have hstr : (convert 39 9 (.slice (some ⟨w.heap.size, 0, none⟩) N.length N.length)).run Tryd.prog wr = .ok (.string ⟨N.toArray⟩) wr := run_str (OwnB.box hbox (by omega))
      clear hbl hbox
      go_wp2
      go_ret
      exact ⟨rfl, HB.out⟩

theorem RBytes_ints (N : List UInt8) (w : World) (hn : N.length ≤ 100) :
    Calls Tryd.prog 18 #[.slice (some ⟨w.heap.size, 0, none⟩) N.length N.length] (w.alloc (.cells (icells N).toArray 3)) fun e w' => e = .returned (.string ⟨N.toArray⟩) ∧ Below w.heap.size w w' := by
  have H := RBytes_any N w.heap.size N.length (w.alloc (.cells (icells N).toArray 3)) hn (fun k h => (Box.new w 3 (icells N)).cell (by simp [icells, h])) (by simp)
  refine H.mono ?_
  rintro e w' ⟨rfl, hb⟩
  exact ⟨rfl, ((Below.refl _ _).alloc (Nat.le_refl _) _).trans (hb.mono (by simp))⟩


end Go.Proofs.YtipdnkkkigmkdaaDoor.H
