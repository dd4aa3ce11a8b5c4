/-
  Contract of farref.Bytes: a string of the bytes that came in, one each; conditions: at most 100 of them.
-/
import Derived.Test.YtmcoliblkkploaaDoorWrite
import Derived.Laws.MakeOwn
namespace Go.Proofs.YtmcoliblkkploaaDoor
open Go.RowKit

theorem take_set (l : List Value) (k : Nat) (v : Value) (h : k < l.length) : (l.set k v).take (k + 1) = l.take k ++ [v] := by
  have e : (l.set k v).take k = l.take k := by
    apply List.ext_getElem?
    intro i
    by_cases hi : i < k
    · simp [hi, show k ≠ i by omega]
    · simp [List.getElem?_take, hi]
  rw [List.take_succ_eq_append_getElem (by simpa using h), e]
  simp

def YState (w : World) (N : List UInt8) (i : Value) (wr : World) : Prop :=
  ∃ (k : Nat) (arr : Array Value), k ≤ N.length ∧ i = .int .i64 k ∧ wr.heap[w.heap.size]? = some (.cells arr 5 (0, 0)) ∧ arr.size = N.length ∧ arr.toList.take k = bcells (N.take k) ∧ Below w.heap.size w wr ∧ w.heap.size < wr.heap.size

set_option maxHeartbeats 8000000 in
set_option maxRecDepth 100000 in
theorem Bytes_any (N : List UInt8) (g c : Nat) (w : World) (hn : N.length ≤ 100) (hc : ∀ k (h : k < N.length), w.cell? ⟨g, k, none⟩ = some (.int .i64 (N[k].toNat : Int))) (hg : g < w.heap.size) :
    Calls Tryd.prog 31 #[.slice (some ⟨g, 0, none⟩) N.length c] w fun e w' => e = .returned (.string ⟨N.toArray⟩) ∧ Below w.heap.size w w' := by
  obtain ⟨i0, hi, hz0, hz1, hz2⟩ := info_parts Tryd.info5
  have hmk := run_makeSlice w 45 5 i0 (.int .u8 0) Tryd.underlying45 hi hz0 .i64 .i64 N.length N.length (by omega) (by omega) (by rw [hz1]; simp; omega) (by rw [hz2]; simp; omega) (by omega)
  rw [hz1] at hmk
  simp only [Int.toNat_natCast, Nat.mul_one] at hmk
  have HC := Hid.mk' hc
  have HS : Hid (YState w N (.int .i64 0) (w.alloc (.cells (madeCells (Value.int .u8 0).cells N.length) 5))) :=
    ⟨0, _, Nat.zero_le _, rfl, (MapKept.heap_alloc w _).1, size_madeCells _ _, by simp [bcells], (Below.refl _ _).alloc (Nat.le_refl _) _, by simp⟩
  generalize madeCells (Value.int .u8 0).cells N.length = arr0 at *
  clear hc
  go_enter Tryd.func31, Tryd.ntmps31
  go_wp2_with fail
  go_loopw [11] (fun i wr => YState w N i wr) (fun i _ => N.length - (intOf i).toNat)
  case atStart => exact HS.out
  case round =>
    obtain ⟨k, arr, hk, rfl, hblk, hsz, htk, hbl, hlt⟩ := hrel
    clear HS hmk
    have HB := Hid.mk' hbl
    have HK := Hid.mk' hblk
    have HT := Hid.mk' htk
    clear htk
    by_cases hl : k < N.length
    · have h1 : wr.cell? ⟨g, k, none⟩ = some (.int .i64 (N[k].toNat : Int)) := (hbl.cell (p := ⟨g, k, none⟩) hg).trans (HC.out k hl)
      have h2 : ∃ x, wr.cell? ⟨w.heap.size, k, none⟩ = some x := ⟨arr[k]'(by omega), by simp [World.cell?, hblk]⟩
      have h3 : ∀ j, wr.frozen? ⟨w.heap.size, j, none⟩ = false := fun j => by simp [World.frozen?, hblk]
      obtain ⟨x, h2⟩ := h2
      have hbn := N[k].toNat_lt
      have q1 : (0 : Int) ≤ (N[k].toNat : Int) := by omega
      have q2 : (N[k].toNat : Int) ≤ 255 := by omega
      have hts : N.take (k + 1) = N.take k ++ [N[k]] := List.take_succ_eq_append_getElem hl
      have HTS := Hid.mk' (show bcells (N.take (k + 1)) = bcells (N.take k) ++ [.int .u8 (N[k].toNat : Int)] by unfold bcells; rw [hts, List.map_append]; rfl)
      clear hbl hblk hbn hts
      generalize (N[k].toNat : Int) = y at *
      go_wp2
      go_roundw
      case rel =>
        refine ⟨k + 1, arr.setIfInBounds k (.int .u8 y), by omega, by go_num, setCell_block HK.out _ _, by simpa using hsz, ?_, HB.out.setCell (by simp) _, by simpa using hlt⟩
        rw [HTS.out, ← HT.out]
        simp only [Array.toList_setIfInBounds]
        exact take_set _ _ _ (by simpa [hsz] using hl)
      case measure => simp [intOf]; omega
    · obtain rfl : k = N.length := by omega
      have hown : OwnR wr 0 5 1 (.slice (some ⟨w.heap.size, 0, none⟩) N.length N.length) N.length (bcells N) := by
        refine ⟨by simp [bcells], .inr ⟨w.heap.size, N.length, arr, (0, 0), rfl, Nat.zero_le _, hblk, .inl rfl, Nat.le_refl _, by unfold maxLen; omega, by simpa using hsz, ?_⟩⟩
        have := HT.out
        rw [List.take_length] at this
        simpa using this
      have hstr : (convert 45 9 (.slice (some ⟨w.heap.size, 0, none⟩) N.length N.length)).run Tryd.prog wr = .ok (.string ⟨N.toArray⟩) wr := run_str hown 0
      clear hown hbl hblk
      go_wp2
      go_ret
      exact ⟨rfl, HB.out⟩
end Go.Proofs.YtmcoliblkkploaaDoor
