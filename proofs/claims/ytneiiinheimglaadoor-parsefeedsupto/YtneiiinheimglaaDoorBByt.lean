/-
  Contracts of farref.Bytes and farref.RuneBytes: a string of the bytes that came in, one each; a rune's bytes; conditions: at most 100 bytes.
-/
import Derived.Test.YtneiiinheimglaaDoorULaw2
import Derived.Test.YtneiiinheimglaaDoorMem
import Derived.Test.YtneiiinheimglaaDoorWMem
import Derived.Laws.MakeOwn
import Derived.Laws.BytesString
import Derived.OwnWalk
namespace Go.Proofs.YtneiiinheimglaaDoor.B.Y
open Go.RowKit Go.Lib Go.Proofs.YtneiiinheimglaaDoor Go.Proofs.YtneiiinheimglaaDoor.U
theorem Hid.mk' {p : Prop} (h : p) : Hid p := h

def icells (l : List Int) : List Value := l.map fun c => .int .i64 c
theorem icells_length (l : List Int) : (icells l).length = l.length := by simp [icells]
theorem icells_one (l : List Int) : ∀ u ∈ icells l, u.oneCell' = true := by
  intro u hu
  obtain ⟨c, _, rfl⟩ := List.mem_map.1 hu
  rfl
theorem infoInt : (Tryd.prog.info? 3).map (fun i => (i.zero, i.size, i.bytes)) = some (some (.int .i64 0), 1, 8) := by kernel_rfl
def ints (l : List Nat) : List Int := l.map fun (c : Nat) => (c : Int)
theorem fold_push (l : List UInt8) : ∀ s : ByteArray, ((l.map fun b => ((b.toNat : Nat) : Int)).foldl (fun r n => r.push (UInt8.ofNat n.toNat)) s) = ⟨(s.data.toList ++ l).toArray⟩ := by
  induction l with
  | nil => intro s; simp
  | cons a l ih =>
    intro s
    rw [List.map_cons, List.foldl_cons, ih]
    congr 1
    simp [ByteArray.push]

theorem run_str {w : World} {base : Nat} {v : Value} {l : List UInt8} (h : OwnR w base 5 1 v l.length (byteCells l)) :
    (convert 44 9 v).run Tryd.prog w = .ok (.string ⟨l.toArray⟩) w := by
  rcases h.form with ⟨rfl, h0⟩ | ⟨g, cap, rfl, _⟩
  · have : l = [] := List.length_eq_zero_iff.1 h0
    subst this
    rw [run_convert_bytes_string _ _ _ _ _ _ _ Tryd.underlying44 Tryd.underlying5 Tryd.underlying9]
    simp [Conv.bytesToString, Sem.run_pure]
    rfl
  · rw [run_convert_bytes_string _ _ _ _ _ _ _ Tryd.underlying44 Tryd.underlying5 Tryd.underlying9]
    have hl := run_loadCells_list (P := Tryd.prog) w ⟨g, 0, none⟩ (byteCells l) (fun j u hu => h.cells (g := g) rfl j u hu)
    have e : (byteCells l).length = l.length := by simp [byteCells]
    rw [e] at hl
    have e2 : byteCells l = (l.map fun b => ((b.toNat : Nat) : Int)).map (Value.int .u8) := by simp [byteCells]
    rw [e2] at hl
    rw [run_bytesToString _ _ _ _ _ hl, fold_push]
    rfl

theorem setCell_block {w : World} {b : Nat} {arr : Array Value} {T : TypeId} {fz : Nat × Nat} (h : w.heap[b]? = some (.cells arr T fz)) (j : Nat) (v : Value) : (w.setCell ⟨b, j, none⟩ v).heap[b]? = some (.cells (arr.setIfInBounds j v) T fz) := by
  rw [setCell_eq_setRow w b j arr T fz v h]
  exact setRow_heap w b arr _ T fz h
theorem infoByte : (Tryd.prog.info? 5).map (fun i => (i.zero, i.size, i.bytes)) = some (some (.int .u8 0), 1, 1) := by kernel_rfl

theorem take_set (l : List Value) (k : Nat) (v : Value) (h : k < l.length) : (l.set k v).take (k + 1) = l.take k ++ [v] := by
  have e : (l.set k v).take k = l.take k := by
    apply List.ext_getElem?
    intro i
    by_cases hi : i < k
    · simp [hi, show k ≠ i by omega]
    · simp [List.getElem?_take, hi]
  rw [List.take_succ_eq_append_getElem (by simpa using h), e]
  simp

def YState (w : World) (N : List UInt8) (i : Value) (wr : World) : Prop :=
  ∃ (k : Nat) (arr : Array Value), k ≤ N.length ∧ i = .int .i64 k ∧ wr.heap[w.heap.size]? = some (.cells arr 5 (0, 0)) ∧ arr.size = N.length ∧ arr.toList.take k = byteCells (N.take k) ∧ Below w.heap.size w wr ∧ w.heap.size < wr.heap.size

set_option maxHeartbeats 8000000 in
set_option maxRecDepth 100000 in
theorem Bytes_any (N : List UInt8) (g c : Nat) (w : World) (hn : N.length ≤ 100) (hc : ∀ k (h : k < N.length), w.cell? ⟨g, k, none⟩ = some (.int .i64 (N[k].toNat : Int))) (hg : g < w.heap.size) :
    Calls Tryd.prog 29 #[.slice (some ⟨g, 0, none⟩) N.length c] w fun e w' => e = .returned (.string ⟨N.toArray⟩) ∧ Below w.heap.size w w' := by
  obtain ⟨i0, hi, hz0, hz1, hz2⟩ := info_parts infoByte
  have hmk := run_makeSlice w 44 5 i0 (.int .u8 0) Tryd.underlying44 hi hz0 .i64 .i64 N.length N.length (by omega) (by omega) (by rw [hz1]; simp; omega) (by rw [hz2]; simp; omega) (by omega)
  rw [hz1] at hmk
  simp only [Int.toNat_natCast, Nat.mul_one] at hmk
  have HC := Hid.mk' hc
  have HS : Hid (YState w N (.int .i64 0) (w.alloc (.cells (madeCells (Value.int .u8 0).cells N.length) 5))) :=
    ⟨0, _, Nat.zero_le _, rfl, (MapKept.heap_alloc w _).1, size_madeCells _ _, by simp [byteCells], (Below.refl _ _).alloc (Nat.le_refl _) _, by simp⟩
  generalize madeCells (Value.int .u8 0).cells N.length = arr0 at *
  clear hc
  go_enter Tryd.func29, Tryd.ntmps29
  go_wp2_with fail
  go_loopw [11] (fun i wr => YState w N i wr) (fun i _ => N.length - (RowKit.intOf i).toNat)
  case atStart => exact HS.out
  case round =>
    obtain ⟨k, arr, hk, rfl, hblk, hsz, htk, hbl, hlt⟩ := hrel
    clear HS hmk
    have HB := Hid.mk' hbl
    have HK := Hid.mk' hblk
    have HT := Hid.mk' htk
    clear htk
    by_cases hl : k < N.length
    · have h1 : wr.cell? ⟨g, k, none⟩ = some (.int .i64 (N[k].toNat : Int)) := (hbl.cell (p := ⟨g, k, none⟩) hg).trans (HC.out k hl)
      have h2 : ∃ x, wr.cell? ⟨w.heap.size, k, none⟩ = some x := ⟨arr[k]'(by omega), by simp [World.cell?, hblk]⟩
      have h3 : ∀ j, wr.frozen? ⟨w.heap.size, j, none⟩ = false := fun j => by simp [World.frozen?, hblk]
      obtain ⟨x, h2⟩ := h2
      have hbn := N[k].toNat_lt
      have q1 : (0 : Int) ≤ (N[k].toNat : Int) := by omega
      have q2 : (N[k].toNat : Int) ≤ 255 := by omega
      have hts : N.take (k + 1) = N.take k ++ [N[k]] := List.take_succ_eq_append_getElem hl
      have HTS := Hid.mk' (show byteCells (N.take (k + 1)) = byteCells (N.take k) ++ [.int .u8 (N[k].toNat : Int)] by unfold byteCells; rw [hts, List.map_append]; rfl)
      clear hbl hblk hbn hts
      generalize (N[k].toNat : Int) = y at *
      go_wp2
      go_roundw
      case rel =>
        refine ⟨k + 1, arr.setIfInBounds k (.int .u8 y), by omega, by go_num, setCell_block HK.out _ _, by simpa using hsz, ?_, HB.out.setCell (by simp) _, by simpa using hlt⟩
        rw [HTS.out, ← HT.out]
        simp only [Array.toList_setIfInBounds]
        exact take_set _ _ _ (by simpa [hsz] using hl)
      case measure => simp [RowKit.intOf]; omega
    · obtain rfl : k = N.length := by omega
      have hown : OwnR wr 0 5 1 (.slice (some ⟨w.heap.size, 0, none⟩) N.length N.length) N.length (byteCells N) := by
        refine ⟨by simp [byteCells], .inr ⟨w.heap.size, N.length, arr, (0, 0), rfl, Nat.zero_le _, hblk, .inl rfl, Nat.le_refl _, by unfold maxLen; omega, by simpa using hsz, ?_⟩⟩
        have := HT.out
        rw [List.take_length] at this
        simpa using this
      have hstr : (convert 44 9 (.slice (some ⟨w.heap.size, 0, none⟩) N.length N.length)).run Tryd.prog wr = .ok (.string ⟨N.toArray⟩) wr := run_str hown
      clear hown hbl hblk
      go_wp2
      go_ret
      exact ⟨rfl, HB.out⟩

theorem Bytes_ints (N : List Nat) (w : World) (hN : ∀ x ∈ N, x < 256) (hn : N.length ≤ 100) :
    Calls Tryd.prog 29 #[.slice (some ⟨w.heap.size, 0, none⟩) N.length N.length] (w.alloc (.cells (icells (ints N)).toArray 3)) fun e w' => e = .returned (.string ⟨(N.map Nat.toUInt8).toArray⟩) ∧ Below w.heap.size w w' := by
  have hl : (N.map Nat.toUInt8).length = N.length := by simp
  have H := Bytes_any (N.map Nat.toUInt8) w.heap.size N.length (w.alloc (.cells (icells (ints N)).toArray 3)) (by omega) (fun k h => by
    rw [cell_of_row _ _ _ _ _ _ (MapKept.heap_alloc w _).1]
    have hk : k < N.length := by omega
    have := hN N[k] (List.getElem_mem hk)
    have e : (Nat.toUInt8 N[k]).toNat = N[k] := u8_nat this
    simp [icells, ints, hk]
    omega) (by simp)
  rw [hl] at H
  refine H.mono ?_
  rintro e w' ⟨rfl, hb⟩
  exact ⟨rfl, ((Below.refl _ _).alloc (Nat.le_refl _) _).trans (hb.mono (by simp))⟩

set_option maxHeartbeats 4000000 in
set_option maxRecDepth 100000 in
theorem RuneBytes_any (r : Nat) (w : World) (hr : isRune r) :
    Calls Tryd.prog 54 #[.int .i64 (r : Int)] w fun e w' => e = .returned (.string ⟨(encodeRune (r : Int)).toArray⟩) ∧ Below w.heap.size w w' := by
  rw [encN_eq hr]
  unfold isRune at hr
  unfold encN
  have hr2 : (r : Int) ≤ 1114111 := by omega
  have k1 : (0 : Int) ≤ (r : Int) := by omega
  by_cases c0 : r < 128
  · rw [if_pos c0]
    have H := Hid.mk' (Bytes_ints [r] w (by simp; omega) (by simp))
    have c0' : (r : Int) < 128 := by omega
    go_enter Tryd.func54, Tryd.ntmps54
    go_wp2_with fail
    refine H.out.mono ?_
    rintro e w1 ⟨rfl, hb1⟩
    have HB := Hid.mk' hb1
    clear hb1
    go_wp2
    go_ret
    exact ⟨rfl, HB.out⟩
  rw [if_neg c0]
  have c0' : ¬ (r : Int) < 128 := by omega
  by_cases c1 : r < 2048
  · rw [if_pos c1]
    have c1' : (r : Int) < 2048 := by omega
    have H := Bytes_ints [192 + r / 64, 128 + r % 64] w (by simp; omega) (by simp)
    have e : icells (ints [192 + r / 64, 128 + r % 64]) = [.int .i64 (192 + (r : Int) / 64), .int .i64 (128 + (r : Int) % 64)] := by simp [icells, ints]
    rw [e] at H
    generalize (⟨(List.map Nat.toUInt8 [192 + r / 64, 128 + r % 64]).toArray⟩ : ByteArray) = RS at *
    simp only [List.length_cons, List.length_nil, Nat.reduceAdd] at H
    have HH := Hid.mk' H
    clear H e
    go_enter Tryd.func54, Tryd.ntmps54
    go_wp2_with fail
    refine HH.out.mono ?_
    rintro e w1 ⟨rfl, hb1⟩
    have HB := Hid.mk' hb1
    clear hb1 HH
    go_wp2
    go_ret
    exact ⟨rfl, HB.out⟩
  rw [if_neg c1]
  have c1' : ¬ (r : Int) < 2048 := by omega
  by_cases c2 : r < 65536
  · rw [if_pos c2]
    have c2' : (r : Int) < 65536 := by omega
    have H := Bytes_ints [224 + r / 4096, 128 + r / 64 % 64, 128 + r % 64] w (by simp; omega) (by simp)
    have e : icells (ints [224 + r / 4096, 128 + r / 64 % 64, 128 + r % 64]) = [.int .i64 (224 + (r : Int) / 4096), .int .i64 (128 + (r : Int) / 64 % 64), .int .i64 (128 + (r : Int) % 64)] := by simp [icells, ints]
    rw [e] at H
    generalize (⟨(List.map Nat.toUInt8 [224 + r / 4096, 128 + r / 64 % 64, 128 + r % 64]).toArray⟩ : ByteArray) = RS at *
    simp only [List.length_cons, List.length_nil, Nat.reduceAdd] at H
    have HH := Hid.mk' H
    clear H e
    go_enter Tryd.func54, Tryd.ntmps54
    go_wp2_with fail
    refine HH.out.mono ?_
    rintro e w1 ⟨rfl, hb1⟩
    have HB := Hid.mk' hb1
    clear hb1 HH
    go_wp2
    go_ret
    exact ⟨rfl, HB.out⟩
  rw [if_neg c2]
  have c2' : ¬ (r : Int) < 65536 := by omega
  have H := Bytes_ints [240 + r / 262144, 128 + r / 4096 % 64, 128 + r / 64 % 64, 128 + r % 64] w (by simp; omega) (by simp)
  have e : icells (ints [240 + r / 262144, 128 + r / 4096 % 64, 128 + r / 64 % 64, 128 + r % 64]) = [.int .i64 (240 + (r : Int) / 262144), .int .i64 (128 + (r : Int) / 4096 % 64), .int .i64 (128 + (r : Int) / 64 % 64), .int .i64 (128 + (r : Int) % 64)] := by simp [icells, ints]
  rw [e] at H
  generalize (⟨(List.map Nat.toUInt8 [240 + r / 262144, 128 + r / 4096 % 64, 128 + r / 64 % 64, 128 + r % 64]).toArray⟩ : ByteArray) = RS at *
  simp only [List.length_cons, List.length_nil, Nat.reduceAdd] at H
  have HH := Hid.mk' H
  clear H e
  go_enter Tryd.func54, Tryd.ntmps54
  go_wp2_with fail
  refine HH.out.mono ?_
  rintro e w1 ⟨rfl, hb1⟩
  have HB := Hid.mk' hb1
  clear hb1 HH
  go_wp2
  go_ret
  exact ⟨rfl, HB.out⟩
end Go.Proofs.YtneiiinheimglaaDoor.B.Y
