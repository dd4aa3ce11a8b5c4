/-
  Contracts of farref.Bytes and farref.RuneBytes: a string of the bytes that came in, one each; a rune's bytes; conditions: at most 100 bytes.
  Contracts of farref.Bytes at one rune, farref.Rune, farref.RuneText and farref.finalAct; conditions: a text of at most 100 bytes; the variable internal/bytealg.MaxLen holds an int.
  Contract of farref.finalAct; conditions: texts of at most 1048576 bytes; the variable internal/bytealg.MaxLen holds an int.
  What each letter of the table does; no program, no condition.
-/
import Derived.Test.YtneiiinheimglaaGreatDoorJ18
import Derived.Test.YtneiiinheimglaaGreatDoorJ2
import Derived.Laws.MakeOwn
import Derived.Laws.BytesString
import Derived.OwnWalk
import Derived.Test.YtneiiinheimglaaGreatDoorJ16
import Derived.Test.YtneiiinheimglaaGreatDoorBOf
import Derived.Test.YtneiiinheimglaaGreatDoorJ1
namespace Go.Proofs.YtneiiinheimglaaGreatDoor.B.Y
open Go.RowKit Go.Lib Go.Proofs.YtneiiinheimglaaGreatDoor Go.Proofs.YtneiiinheimglaaGreatDoor.U
theorem Hid.mk' {p : Prop} (h : p) : Hid p := h

def icells (l : List Int) : List Value := l.map fun c => .int .i64 c
theorem icells_length (l : List Int) : (icells l).length = l.length := by simp [icells]
theorem icells_one (l : List Int) : ∀ u ∈ icells l, u.oneCell' = true := by
  intro u hu
  obtain ⟨c, _, rfl⟩ := List.mem_map.1 hu
  rfl
theorem infoInt : (Tryz.prog.info? 3).map (fun i => (i.zero, i.size, i.bytes)) = some (some (.int .i64 0), 1, 8) := by kernel_rfl
def ints (l : List Nat) : List Int := l.map fun (c : Nat) => (c : Int)
theorem fold_push (l : List UInt8) : ∀ s : ByteArray, ((l.map fun b => ((b.toNat : Nat) : Int)).foldl (fun r n => r.push (UInt8.ofNat n.toNat)) s) = ⟨(s.data.toList ++ l).toArray⟩ := by
  induction l with
  | nil => intro s; simp
  | cons a l ih =>
    intro s
    rw [List.map_cons, List.foldl_cons, ih]
    congr 1
    simp [ByteArray.push]

theorem run_str {w : World} {base : Nat} {v : Value} {l : List UInt8} (h : OwnR w base 5 1 v l.length (byteCells l)) :
    (convert 50 9 v).run Tryz.prog w = .ok (.string ⟨l.toArray⟩) w := by
  rcases h.form with ⟨rfl, h0⟩ | ⟨g, cap, rfl, _⟩
  · have : l = [] := List.length_eq_zero_iff.1 h0
    subst this
    rw [run_convert_bytes_string _ _ _ _ _ _ _ Tryz.underlying50 Tryz.underlying5 Tryz.underlying9]
    simp [Conv.bytesToString, Sem.run_pure]
    rfl
  · rw [run_convert_bytes_string _ _ _ _ _ _ _ Tryz.underlying50 Tryz.underlying5 Tryz.underlying9]
    have hl := run_loadCells_list (P := Tryz.prog) w ⟨g, 0, none⟩ (byteCells l) (fun j u hu => h.cells (g := g) rfl j u hu)
    have e : (byteCells l).length = l.length := by simp [byteCells]
    rw [e] at hl
    have e2 : byteCells l = (l.map fun b => ((b.toNat : Nat) : Int)).map (Value.int .u8) := by simp [byteCells]
    rw [e2] at hl
    rw [run_bytesToString _ _ _ _ _ hl, fold_push]
    rfl

theorem setCell_block {w : World} {b : Nat} {arr : Array Value} {T : TypeId} {fz : Nat × Nat} (h : w.heap[b]? = some (.cells arr T fz)) (j : Nat) (v : Value) : (w.setCell ⟨b, j, none⟩ v).heap[b]? = some (.cells (arr.setIfInBounds j v) T fz) := by
  rw [setCell_eq_setRow w b j arr T fz v h]
  exact setRow_heap w b arr _ T fz h
theorem infoByte : (Tryz.prog.info? 5).map (fun i => (i.zero, i.size, i.bytes)) = some (some (.int .u8 0), 1, 1) := by kernel_rfl

theorem take_set (l : List Value) (k : Nat) (v : Value) (h : k < l.length) : (l.set k v).take (k + 1) = l.take k ++ [v] := by
  have e : (l.set k v).take k = l.take k := by
    apply List.ext_getElem?
    intro i
    by_cases hi : i < k
    · simp [hi, show k ≠ i by omega]
    · simp [List.getElem?_take, hi]
  rw [List.take_succ_eq_append_getElem (by simpa using h), e]
  simp

def YState (w : World) (N : List UInt8) (i : Value) (wr : World) : Prop :=
  ∃ (k : Nat) (arr : Array Value), k ≤ N.length ∧ i = .int .i64 k ∧ wr.heap[w.heap.size]? = some (.cells arr 5 (0, 0)) ∧ arr.size = N.length ∧ arr.toList.take k = byteCells (N.take k) ∧ Below w.heap.size w wr ∧ w.heap.size < wr.heap.size

set_option maxHeartbeats 8000000 in
set_option maxRecDepth 100000 in
theorem Bytes_any (N : List UInt8) (g c : Nat) (w : World) (hn : N.length ≤ 100) (hc : ∀ k (h : k < N.length), w.cell? ⟨g, k, none⟩ = some (.int .i64 (N[k].toNat : Int))) (hg : g < w.heap.size) :
    Calls Tryz.prog 46 #[.slice (some ⟨g, 0, none⟩) N.length c] w fun e w' => e = .returned (.string ⟨N.toArray⟩) ∧ Below w.heap.size w w' := by
  obtain ⟨i0, hi, hz0, hz1, hz2⟩ := info_parts infoByte
  have hmk := run_makeSlice w 50 5 i0 (.int .u8 0) Tryz.underlying50 hi hz0 .i64 .i64 N.length N.length (by omega) (by omega) (by rw [hz1]; simp; omega) (by rw [hz2]; simp; omega) (by omega)
  rw [hz1] at hmk
  simp only [Int.toNat_natCast, Nat.mul_one] at hmk
  have HC := Hid.mk' hc
  have HS : Hid (YState w N (.int .i64 0) (w.alloc (.cells (madeCells (Value.int .u8 0).cells N.length) 5))) :=
    ⟨0, _, Nat.zero_le _, rfl, (MapKept.heap_alloc w _).1, size_madeCells _ _, by simp [byteCells], (Below.refl _ _).alloc (Nat.le_refl _) _, by simp⟩
  generalize madeCells (Value.int .u8 0).cells N.length = arr0 at *
  clear hc
  go_enter Tryz.func46, Tryz.ntmps46
  go_wp2_with fail
  go_loopw [11] (fun i wr => YState w N i wr) (fun i _ => N.length - (RowKit.intOf i).toNat)
  case atStart => exact HS.out
  case round =>
    obtain ⟨k, arr, hk, rfl, hblk, hsz, htk, hbl, hlt⟩ := hrel
    clear HS hmk
    have HB := Hid.mk' hbl
    have HK := Hid.mk' hblk
    have HT := Hid.mk' htk
    clear htk
    by_cases hl : k < N.length
    · have h1 : wr.cell? ⟨g, k, none⟩ = some (.int .i64 (N[k].toNat : Int)) := (hbl.cell (p := ⟨g, k, none⟩) hg).trans (HC.out k hl)
      have h2 : ∃ x, wr.cell? ⟨w.heap.size, k, none⟩ = some x := ⟨arr[k]'(by omega), by simp [World.cell?, hblk]⟩
      have h3 : ∀ j, wr.frozen? ⟨w.heap.size, j, none⟩ = false := fun j => by simp [World.frozen?, hblk]
      obtain ⟨x, h2⟩ := h2
      have hbn := N[k].toNat_lt
      have q1 : (0 : Int) ≤ (N[k].toNat : Int) := by omega
      have q2 : (N[k].toNat : Int) ≤ 255 := by omega
      have hts : N.take (k + 1) = N.take k ++ [N[k]] := List.take_succ_eq_append_getElem hl
      have HTS := Hid.mk' (show byteCells (N.take (k + 1)) = byteCells (N.take k) ++ [.int .u8 (N[k].toNat : Int)] by unfold byteCells; rw [hts, List.map_append]; rfl)
      clear hbl hblk hbn hts
      generalize (N[k].toNat : Int) = y at *
      go_wp2
      go_roundw
      case rel =>
        refine ⟨k + 1, arr.setIfInBounds k (.int .u8 y), by omega, by go_num, setCell_block HK.out _ _, by simpa using hsz, ?_, HB.out.setCell (by simp) _, by simpa using hlt⟩
        rw [HTS.out, ← HT.out]
        simp only [Array.toList_setIfInBounds]
        exact take_set _ _ _ (by simpa [hsz] using hl)
      case measure => simp [RowKit.intOf]; omega
    · obtain rfl : k = N.length := by omega
      have hown : OwnR wr 0 5 1 (.slice (some ⟨w.heap.size, 0, none⟩) N.length N.length) N.length (byteCells N) := by
        refine ⟨by simp [byteCells], .inr ⟨w.heap.size, N.length, arr, (0, 0), rfl, Nat.zero_le _, hblk, .inl rfl, Nat.le_refl _, by unfold maxLen; omega, by simpa using hsz, ?_⟩⟩
        have := HT.out
        rw [List.take_length] at this
        simpa using this
      have hstr : (convert 50 9 (.slice (some ⟨w.heap.size, 0, none⟩) N.length N.length)).run Tryz.prog wr = .ok (.string ⟨N.toArray⟩) wr := run_str hown
      clear hown hbl hblk
      go_wp2
      go_ret
      exact ⟨rfl, HB.out⟩

theorem Bytes_ints (N : List Nat) (w : World) (hN : ∀ x ∈ N, x < 256) (hn : N.length ≤ 100) :
    Calls Tryz.prog 46 #[.slice (some ⟨w.heap.size, 0, none⟩) N.length N.length] (w.alloc (.cells (icells (ints N)).toArray 3)) fun e w' => e = .returned (.string ⟨(N.map Nat.toUInt8).toArray⟩) ∧ Below w.heap.size w w' := by
  have hl : (N.map Nat.toUInt8).length = N.length := by simp
  have H := Bytes_any (N.map Nat.toUInt8) w.heap.size N.length (w.alloc (.cells (icells (ints N)).toArray 3)) (by omega) (fun k h => by
    rw [cell_of_row _ _ _ _ _ _ (MapKept.heap_alloc w _).1]
    have hk : k < N.length := by omega
    have := hN N[k] (List.getElem_mem hk)
    have e : (Nat.toUInt8 N[k]).toNat = N[k] := u8_nat this
    simp [icells, ints, hk]
    omega) (by simp)
  rw [hl] at H
  refine H.mono ?_
  rintro e w' ⟨rfl, hb⟩
  exact ⟨rfl, ((Below.refl _ _).alloc (Nat.le_refl _) _).trans (hb.mono (by simp))⟩

set_option maxHeartbeats 4000000 in
set_option maxRecDepth 100000 in
theorem RuneBytes_any (r : Nat) (w : World) (hr : isRune r) :
    Calls Tryz.prog 44 #[.int .i64 (r : Int)] w fun e w' => e = .returned (.string ⟨(encodeRune (r : Int)).toArray⟩) ∧ Below w.heap.size w w' := by
  rw [encN_eq hr]
  unfold isRune at hr
  unfold encN
  have hr2 : (r : Int) ≤ 1114111 := by omega
  have k1 : (0 : Int) ≤ (r : Int) := by omega
  by_cases c0 : r < 128
  · rw [if_pos c0]
    have H := Hid.mk' (Bytes_ints [r] w (by simp; omega) (by simp))
    have c0' : (r : Int) < 128 := by omega
    go_enter Tryz.func44, Tryz.ntmps44
    go_wp2_with fail
    refine H.out.mono ?_
    rintro e w1 ⟨rfl, hb1⟩
    have HB := Hid.mk' hb1
    clear hb1
    go_wp2
    go_ret
    exact ⟨rfl, HB.out⟩
  rw [if_neg c0]
  have c0' : ¬ (r : Int) < 128 := by omega
  by_cases c1 : r < 2048
  · rw [if_pos c1]
    have c1' : (r : Int) < 2048 := by omega
    have H := Bytes_ints [192 + r / 64, 128 + r % 64] w (by simp; omega) (by simp)
    have e : icells (ints [192 + r / 64, 128 + r % 64]) = [.int .i64 (192 + (r : Int) / 64), .int .i64 (128 + (r : Int) % 64)] := by simp [icells, ints]
    rw [e] at H
    generalize (⟨(List.map Nat.toUInt8 [192 + r / 64, 128 + r % 64]).toArray⟩ : ByteArray) = RS at *
    simp only [List.length_cons, List.length_nil, Nat.reduceAdd] at H
    have HH := Hid.mk' H
    clear H e
    go_enter Tryz.func44, Tryz.ntmps44
    go_wp2_with fail
    refine HH.out.mono ?_
    rintro e w1 ⟨rfl, hb1⟩
    have HB := Hid.mk' hb1
    clear hb1 HH
    go_wp2
    go_ret
    exact ⟨rfl, HB.out⟩
  rw [if_neg c1]
  have c1' : ¬ (r : Int) < 2048 := by omega
  by_cases c2 : r < 65536
  · rw [if_pos c2]
    have c2' : (r : Int) < 65536 := by omega
    have H := Bytes_ints [224 + r / 4096, 128 + r / 64 % 64, 128 + r % 64] w (by simp; omega) (by simp)
    have e : icells (ints [224 + r / 4096, 128 + r / 64 % 64, 128 + r % 64]) = [.int .i64 (224 + (r : Int) / 4096), .int .i64 (128 + (r : Int) / 64 % 64), .int .i64 (128 + (r : Int) % 64)] := by simp [icells, ints]
    rw [e] at H
    generalize (⟨(List.map Nat.toUInt8 [224 + r / 4096, 128 + r / 64 % 64, 128 + r % 64]).toArray⟩ : ByteArray) = RS at *
    simp only [List.length_cons, List.length_nil, Nat.reduceAdd] at H
    have HH := Hid.mk' H
    clear H e
    go_enter Tryz.func44, Tryz.ntmps44
    go_wp2_with fail
    refine HH.out.mono ?_
    rintro e w1 ⟨rfl, hb1⟩
    have HB := Hid.mk' hb1
    clear hb1 HH
    go_wp2
    go_ret
    exact ⟨rfl, HB.out⟩
  rw [if_neg c2]
  have c2' : ¬ (r : Int) < 65536 := by omega
  have H := Bytes_ints [240 + r / 262144, 128 + r / 4096 % 64, 128 + r / 64 % 64, 128 + r % 64] w (by simp; omega) (by simp)
  have e : icells (ints [240 + r / 262144, 128 + r / 4096 % 64, 128 + r / 64 % 64, 128 + r % 64]) = [.int .i64 (240 + (r : Int) / 262144), .int .i64 (128 + (r : Int) / 4096 % 64), .int .i64 (128 + (r : Int) / 64 % 64), .int .i64 (128 + (r : Int) % 64)] := by simp [icells, ints]
  rw [e] at H
  generalize (⟨(List.map Nat.toUInt8 [240 + r / 262144, 128 + r / 4096 % 64, 128 + r / 64 % 64, 128 + r % 64]).toArray⟩ : ByteArray) = RS at *
  simp only [List.length_cons, List.length_nil, Nat.reduceAdd] at H
  have HH := Hid.mk' H
  clear H e
  go_enter Tryz.func44, Tryz.ntmps44
  go_wp2_with fail
  refine HH.out.mono ?_
  rintro e w1 ⟨rfl, hb1⟩
  have HB := Hid.mk' hb1
  clear hb1 HH
  go_wp2
  go_ret
  exact ⟨rfl, HB.out⟩
end Go.Proofs.YtneiiinheimglaaGreatDoor.B.Y
namespace Go.Proofs.YtneiiinheimglaaGreatDoor.B
open Go.RowKit Go.Lib Go.Proofs.YtneiiinheimglaaGreatDoor Go.Proofs.YtneiiinheimglaaGreatDoor.W Go.Proofs.YtneiiinheimglaaGreatDoor.Q Go.Proofs.YtneiiinheimglaaGreatDoor.C Go.Proofs.YtneiiinheimglaaGreatDoor.Z

theorem Bytes_small (c : Int) (h0 : 0 ≤ c) (h1 : c < 128) (w : World) : Calls Tryz.prog 46 #[.slice (some ⟨w.heap.size, 0, none⟩) 1 1] (w.alloc (.cells #[.int .i64 c] 3)) fun e w' => e = .returned (.string (bs [sg c])) ∧ Below w.heap.size w w' := by
  have e := sg_nat (c := c) h0 (by omega)
  refine (Y.Bytes_any [sg c] w.heap.size 1 (w.alloc (.cells #[.int .i64 c] 3)) (by simp) (fun k hk => ?_) (by simp)).mono ?_
  · have hk0 : k = 0 := by simpa using hk
    subst hk0
    show _ = some (Value.int .i64 ((sg c).toNat : Int))
    rw [e]
    exact (Box.new w 3 [.int .i64 c]).cell (j := 0) rfl
  · rintro e w' ⟨he, hb⟩
    exact ⟨he, ((Below.refl _ _).alloc (Nat.le_refl _) _).trans (Below.mono hb (by simp))⟩
def isRb (c : Int) : Bool := decide (0 ≤ c ∧ c < 55296 ∨ 57344 ≤ c ∧ c ≤ 1114111)
set_option maxHeartbeats 1000000 in
theorem Rune_any (c : Int) (w : World) : Calls Tryz.prog 15 #[.int .i64 c] w fun e w' => e = .returned (.bool (isRb c)) ∧ w' = w := by
  have H1 := Hid.mk' (Between_any c 0 55295 w)
  have H2 := Hid.mk' (Between_any c 57344 1114111 w)
  by_cases h1 : 0 ≤ c ∧ c ≤ 55295
  · rw [show btw c 0 55295 = true from decide_eq_true h1] at H1
    rw [show isRb c = true from decide_eq_true (.inl ⟨h1.1, by omega⟩)]
    go_enter Tryz.func15, Tryz.ntmps15
    go_wp2_with fail
    refine H1.out.mono ?_
    rintro e w2 ⟨rfl, rfl⟩
    go_wp2
    go_ret
    exact ⟨rfl, rfl⟩
  · rw [show btw c 0 55295 = false from decide_eq_false h1] at H1
    by_cases h2 : 57344 ≤ c ∧ c ≤ 1114111
    · rw [show btw c 57344 1114111 = true from decide_eq_true h2] at H2
      rw [show isRb c = true from decide_eq_true (.inr h2)]
      go_enter Tryz.func15, Tryz.ntmps15
      go_wp2_with fail
      refine H1.out.mono ?_
      rintro e w2 ⟨rfl, rfl⟩
      go_wp2_with fail
      refine H2.out.mono ?_
      rintro e w2 ⟨rfl, rfl⟩
      go_wp2
      go_ret
      exact ⟨rfl, rfl⟩
    · rw [show btw c 57344 1114111 = false from decide_eq_false h2] at H2
      rw [show isRb c = false from decide_eq_false (fun h => h.elim (fun h => h1 ⟨h.1, by omega⟩) h2)]
      go_enter Tryz.func15, Tryz.ntmps15
      go_wp2_with fail
      refine H1.out.mono ?_
      rintro e w2 ⟨rfl, rfl⟩
      go_wp2_with fail
      refine H2.out.mono ?_
      rintro e w2 ⟨rfl, rfl⟩
      go_wp2
      go_ret
      exact ⟨rfl, rfl⟩
theorem RuneBytes_int (c : Int) (w : World) (h : isR c) : Calls Tryz.prog 44 #[.int .i64 c] w fun e w' => e = .returned (.string (bs (encodeRune c))) ∧ Below w.heap.size w w' := by
  unfold isR at h
  obtain ⟨r, rfl⟩ : ∃ r : Nat, c = (r : Int) := ⟨c.toNat, by omega⟩
  exact Y.RuneBytes_any r w (by unfold U.isRune; omega)
theorem enc_bad {c : Int} (h : ¬ isR c) : encodeRune c = encodeRune 65533 := by
  unfold isR at h
  unfold encodeRune
  rw [encodeRuneZ_bad (r := c) (by omega)]
  rfl
set_option maxHeartbeats 1000000 in
theorem RuneText_any (c : Int) (w : World) : Calls Tryz.prog 50 #[.int .i64 c] w fun e w' => e = .returned (.string (bs (encodeRune c))) ∧ Below w.heap.size w w' := by
  have H1 := Hid.mk' (Rune_any c w)
  by_cases h : isR c
  · rw [show isRb c = true from decide_eq_true h] at H1
    have HB := Hid.mk' (show Calls Tryz.prog 44 #[.int .i64 c] w fun e w' => e = .returned (.string (bs (encodeRune c))) ∧ Below w.heap.size w w' from RuneBytes_int c w h)
    generalize bs (encodeRune c) = S at *
    go_enter Tryz.func50, Tryz.ntmps50
    go_wp2_with fail
    refine H1.out.mono ?_
    rintro e w2 ⟨rfl, rfl⟩
    go_wp2_with fail
    refine HB.out.mono ?_
    rintro e w2 ⟨rfl, hb⟩
    have HF := Hid.mk' hb
    clear hb
    go_wp2
    go_ret
    exact ⟨rfl, HF.out⟩
  · rw [show isRb c = false from decide_eq_false h] at H1
    rw [enc_bad h]
    have HB := Hid.mk' (show Calls Tryz.prog 44 #[.int .i64 65533] w fun e w' => e = .returned (.string (bs (encodeRune 65533))) ∧ Below w.heap.size w w' from RuneBytes_int 65533 w (.inr (by decide)))
    generalize bs (encodeRune 65533) = S at *
    go_enter Tryz.func50, Tryz.ntmps50
    go_wp2_with fail
    refine H1.out.mono ?_
    rintro e w2 ⟨rfl, rfl⟩
    go_wp2_with fail
    refine HB.out.mono ?_
    rintro e w2 ⟨rfl, hb⟩
    have HF := Hid.mk' hb
    clear hb
    go_wp2
    go_ret
    exact ⟨rfl, HF.out⟩
end Go.Proofs.YtneiiinheimglaaGreatDoor.B
namespace Go.Proofs.YtneiiinheimglaaGreatDoor.B
open Go.RowKit Go.Lib Go.Proofs.YtneiiinheimglaaGreatDoor Go.Proofs.YtneiiinheimglaaGreatDoor.W Go.Proofs.YtneiiinheimglaaGreatDoor.Q Go.Proofs.YtneiiinheimglaaGreatDoor.C Go.Proofs.YtneiiinheimglaaGreatDoor.Z

theorem exec_storeA (ρ : Operand → Value) (x y : Operand) (dst : Option Tmp) (t : TypeId) (pos : String) (af : Array Edge) (g : Option (Nat × Bool)) (w : World) (h : Lies w (ρ x) 6) (hy : Holds (ρ y) 6) :
    (execOp ρ { dst := dst, op := .store 24 x y, type := t, pos := pos, after := af, guard := g }).run Tryz.prog w = .ok .skip (Q.putAt w (ρ x) (ρ y)) :=
  exec_store 24 6 sizeAct ρ x y dst t pos af g w h hy
attribute [local go_sem ↓] exec_storeA
theorem fin_made (w : World) (l : List Value) (y : Ac) (v : Value) : Box ((w.alloc (.cells l.toArray 39)).alloc (.cells (acells y v).toArray 24)) (w.heap.size + 1) 24 (acells y v) ∧ Below w.heap.size w ((w.alloc (.cells l.toArray 39)).alloc (.cells (acells y v).toArray 24)) := by
  have h := Box.new (w.alloc (.cells l.toArray 39)) 24 (acells y v)
  rw [World.size_alloc] at h
  exact ⟨h, ((Below.refl _ _).alloc (Nat.le_refl _) _).alloc (by simp) _⟩
set_option maxHeartbeats 16000000 in
set_option maxRecDepth 100000 in
theorem finalAct_any (p : Ps) (c m : Int) (w : World) (hp : p.inter.length ≤ 1048576 ∧ p.args.length ≤ 1048576) (hm : w.cell? ⟨2, 0, none⟩ = some (.int .i64 m)) :
    Calls Tryz.prog 51 #[.agg #[.int .i64 (p.st : Int), .int .i64 p.mark, .string (bs p.inter), .string (bs p.args), .string (bs p.text)], .int .i64 c] w fun e w' => ∃ v, e = .returned (.agg (acells (final p c) v).toArray) ∧ RdT w' v (final p c).args ∧ Below w.heap.size w w' := by
  obtain ⟨hp1, hp2⟩ := hp
  have z1 := C.bs_size p.inter
  have hml := World.block_lt_of_cell? _ _ hm
  unfold final
  by_cases h3 : p.inter.length = 3
  · rw [if_pos h3]
    have q1 : ((bs p.inter).size : Int) = 3 := by omega
    have HF := Hid.mk' (fin_made w [.int .i64 (p.st : Int), .int .i64 p.mark, .string (bs p.inter), .string (bs p.args), .string (bs p.text)] gone (.slice none 0 0))
    unfold acells at HF
    clear hm hml
    generalize bs p.inter = S1 at *
    generalize bs p.args = S2 at *
    generalize bs p.text = S3 at *
    go_enter Tryz.func51, Tryz.ntmps51
    go_wp2
    exact ret_box Tryz.results51 24 (acells gone (.slice none 0 0)) (w.heap.size + 1) _ Tryz.underlying24 rfl sizeAct rfl HF.out.1 rfl ⟨.slice none 0 0, rfl, RdT.nil _, HF.out.2⟩
  · rw [if_neg h3]
    have q1 : (((bs p.inter).size : Int) == 3) = false := beq_false_of_ne (by omega)
    by_cases hs : p.st < 3
    · rw [if_pos hs]
      have q2 : (p.st : Int) < 3 := by omega
      have HF := Hid.mk' (fin_made w [.int .i64 (p.st : Int), .int .i64 p.mark, .string (bs p.inter), .string (bs p.args), .string (bs p.text)] ⟨3, c, 0, p.inter, [], []⟩ (.slice none 0 0))
      unfold acells at HF
      dsimp only at HF
      rw [show bs ([] : List UInt8) = ⟨#[]⟩ from rfl] at HF
      clear hm hml
      generalize bs p.args = S2 at *
      generalize bs p.text = S3 at *
      go_enter Tryz.func51, Tryz.ntmps51
      go_wp2
      exact ret_box Tryz.results51 24 (acells ⟨3, c, 0, p.inter, [], []⟩ (.slice none 0 0)) (w.heap.size + 1) _ Tryz.underlying24 rfl sizeAct rfl HF.out.1 rfl ⟨.slice none 0 0, rfl, RdT.nil _, HF.out.2⟩
    · rw [if_neg hs]
      have q2 : ¬ (p.st : Int) < 3 := by omega
      have b0 := (Box.new w 39 [.int .i64 (p.st : Int), .int .i64 p.mark, .string (bs p.inter), .string (bs p.args), .string (bs p.text)]).alloc (.cells #[.int .i64 0, .int .i64 0, .int .i64 0, .string ⟨#[]⟩, .slice none 0 0, .string ⟨#[]⟩] 24)
      have b1 := Box.new (w.alloc (.cells #[.int .i64 (p.st : Int), .int .i64 p.mark, .string (bs p.inter), .string (bs p.args), .string (bs p.text)] 39)) 24 [.int .i64 0, .int .i64 0, .int .i64 0, .string ⟨#[]⟩, .slice none 0 0, .string ⟨#[]⟩]
      rw [World.size_alloc] at b1
      have hW0 : Below w.heap.size w ((w.alloc (.cells #[.int .i64 (p.st : Int), .int .i64 p.mark, .string (bs p.inter), .string (bs p.args), .string (bs p.text)] 39)).alloc (.cells #[.int .i64 0, .int .i64 0, .int .i64 0, .string ⟨#[]⟩, .slice none 0 0, .string ⟨#[]⟩] 24)) := ((Below.refl _ _).alloc (Nat.le_refl _) _).alloc (by simp) _
      have HOF := Hid.mk' (ArgsOf_any p.args m ((w.alloc (.cells #[.int .i64 (p.st : Int), .int .i64 p.mark, .string (bs p.inter), .string (bs p.args), .string (bs p.text)] 39)).alloc (.cells #[.int .i64 0, .int .i64 0, .int .i64 0, .string ⟨#[]⟩, .slice none 0 0, .string ⟨#[]⟩] 24)) ((hW0.cell (p := ⟨2, 0, none⟩) hml).trans hm) hp2)
      have hsz2 : ((w.alloc (.cells #[.int .i64 (p.st : Int), .int .i64 p.mark, .string (bs p.inter), .string (bs p.args), .string (bs p.text)] 39)).alloc (.cells #[.int .i64 0, .int .i64 0, .int .i64 0, .string ⟨#[]⟩, .slice none 0 0, .string ⟨#[]⟩] 24)).heap.size = w.heap.size + 1 + 1 := by simp
      have HK := Hid.mk' (fun W (h : Below ((w.alloc (.cells #[.int .i64 (p.st : Int), .int .i64 p.mark, .string (bs p.inter), .string (bs p.args), .string (bs p.text)] 39)).alloc (.cells #[.int .i64 0, .int .i64 0, .int .i64 0, .string ⟨#[]⟩, .slice none 0 0, .string ⟨#[]⟩] 24)).heap.size ((w.alloc (.cells #[.int .i64 (p.st : Int), .int .i64 p.mark, .string (bs p.inter), .string (bs p.args), .string (bs p.text)] 39)).alloc (.cells #[.int .i64 0, .int .i64 0, .int .i64 0, .string ⟨#[]⟩, .slice none 0 0, .string ⟨#[]⟩] 24)) W) => show Box W w.heap.size 39 [.int .i64 (p.st : Int), .int .i64 p.mark, .string (bs p.inter), .string (bs p.args), .string (bs p.text)] ∧ Box W (w.heap.size + 1) 24 [.int .i64 0, .int .i64 0, .int .i64 0, .string ⟨#[]⟩, .slice none 0 0, .string ⟨#[]⟩] ∧ Below w.heap.size w W from ⟨b0.later h, b1.later h, hW0.trans (Below.mono h hW0.size)⟩)
      clear b0 b1 hW0 hm hsz2
      generalize readT p.args = Y at *
      obtain ⟨Y1, Y2⟩ := Y
      dsimp only at *
      generalize hS1 : bs p.inter = S1 at *
      generalize bs p.args = S2 at *
      generalize bs p.text = S3 at *
      go_enter Tryz.func51, Tryz.ntmps51
      go_wp2_with fail
      refine HOF.out.mono ?_
      rintro e w2 ⟨v, rfl, ho, hb⟩
      obtain ⟨x0, x1, x2⟩ := HK.out w2 hb
      have hv := RdT.own ho
      obtain ⟨av, cv, ev, _⟩ := RdI.own ho
      subst ev
      have d1 : w2.cell? ⟨w.heap.size, 1, none⟩ = some (.int .i64 p.mark) := x0.cell (j := 1) rfl
      have d2 : w2.cell? ⟨w.heap.size, 2, none⟩ = some (.string S1) := x0.cell (j := 2) rfl
      have hLs : Lies w2 (.pointer (some ⟨w.heap.size + 1, 0, none⟩)) 6 := x1.lies0 rfl
      have hHo : Holds (.agg #[.int .i64 4, .int .i64 c, .int .i64 p.mark, .string S1, .slice av Y1.length cv, .string ⟨#[]⟩]) 6 := ⟨[.int .i64 4, .int .i64 c, .int .i64 p.mark, .string S1, .slice av Y1.length cv, .string ⟨#[]⟩], rfl, rfl, by
        intro u hu
        simp only [List.mem_cons, List.mem_nil_iff, or_false] at hu
        rcases hu with rfl | rfl | rfl | rfl | rfl | rfl <;> rfl⟩
      have hP := x1.putAt [.int .i64 4, .int .i64 c, .int .i64 p.mark, .string S1, .slice av Y1.length cv, .string ⟨#[]⟩] rfl
      have HF := Hid.mk' (show _ ∧ RdT (Q.putAt w2 (.pointer (some ⟨w.heap.size + 1, 0, none⟩)) (.agg #[.int .i64 4, .int .i64 c, .int .i64 p.mark, .string S1, .slice av Y1.length cv, .string ⟨#[]⟩])) (.slice av Y1.length cv) Y1 ∧ Below w.heap.size w (Q.putAt w2 (.pointer (some ⟨w.heap.size + 1, 0, none⟩)) (.agg #[.int .i64 4, .int .i64 c, .int .i64 p.mark, .string S1, .slice av Y1.length cv, .string ⟨#[]⟩])) from ⟨hP.box, hv.keep (KeepI.but x1 ai hP.other), hP.below _ _ (Nat.le_succ _) x2⟩)
      clear HOF HK ho hb x0 x1 x2 hv hP
      go_wp2
      exact ret_box Tryz.results51 24 [.int .i64 4, .int .i64 c, .int .i64 p.mark, .string S1, .slice av Y1.length cv, .string ⟨#[]⟩] (w.heap.size + 1) _ Tryz.underlying24 rfl sizeAct rfl HF.out.1 rfl ⟨.slice av Y1.length cv, by rw [← hS1]; rfl, HF.out.2.1, HF.out.2.2⟩
end Go.Proofs.YtneiiinheimglaaGreatDoor.B
namespace Go.Proofs.YtneiiinheimglaaGreatDoor.B
open Go.Lib Go.Proofs.YtneiiinheimglaaGreatDoor
theorem does_46 (p : Ps) (c : Int) : does p c 46 = (p, []) := rfl
theorem does_88 (p : Ps) (c : Int) : does p c 88 = (p0, [gone]) := rfl
theorem does_68 (p : Ps) (c : Int) : does p c 68 = (p0, [gone]) := rfl
theorem does_69a (p : Ps) (c : Int) (h : p.st = 0) : does p c 69 = (at' 1, []) := by
  show (at' 1, if p.st = 0 then [] else [gone]) = _
  rw [if_pos h]
theorem does_69b (p : Ps) (c : Int) (h : ¬ p.st = 0) : does p c 69 = (at' 1, [gone]) := by
  show (at' 1, if p.st = 0 then [] else [gone]) = _
  rw [if_neg h]
theorem does_67 (p : Ps) (c : Int) : does p c 67 = (p, [⟨2, c, 0, [], [], []⟩]) := rfl
theorem does_80 (p : Ps) (c : Int) : does p c 80 = (p, [⟨1, c, 0, [], [], []⟩]) := rfl
theorem does_73 (p : Ps) (c : Int) : does p c 73 = (⟨if p.st = 1 then 2 else 5, p.mark, [sg c], p.args, p.text⟩, []) := rfl
theorem does_73a (p : Ps) (c : Int) (h : p.st = 1) : does p c 73 = (⟨2, p.mark, [sg c], p.args, p.text⟩, []) := by
  show ((⟨if p.st = 1 then 2 else 5, p.mark, [sg c], p.args, p.text⟩ : Ps), _) = _
  rw [if_pos h]
theorem does_73b (p : Ps) (c : Int) (h : ¬ p.st = 1) : does p c 73 = (⟨5, p.mark, [sg c], p.args, p.text⟩, []) := by
  show ((⟨if p.st = 1 then 2 else 5, p.mark, [sg c], p.args, p.text⟩ : Ps), _) = _
  rw [if_neg h]
theorem does_74a (p : Ps) (c : Int) (h : p.inter.length < 3) : does p c 74 = (⟨p.st, p.mark, p.inter ++ [sg c], p.args, p.text⟩, []) := by
  show (if p.inter.length < 3 then (⟨p.st, p.mark, p.inter ++ [sg c], p.args, p.text⟩ : Ps) else p, _) = _
  rw [if_pos h]
theorem does_74b (p : Ps) (c : Int) (h : ¬ p.inter.length < 3) : does p c 74 = (p, []) := by
  show (if p.inter.length < 3 then (⟨p.st, p.mark, p.inter ++ [sg c], p.args, p.text⟩ : Ps) else p, _) = _
  rw [if_neg h]
theorem does_65a (p : Ps) (c : Int) (h : p.args.length < 100) : does p c 65 = (⟨4, p.mark, p.inter, p.args ++ [sg c], p.text⟩, []) := by
  show ((⟨4, p.mark, p.inter, if p.args.length < 100 then p.args ++ [sg c] else p.args, p.text⟩ : Ps), _) = _
  rw [if_pos h]
theorem does_65b (p : Ps) (c : Int) (h : ¬ p.args.length < 100) : does p c 65 = (⟨4, p.mark, p.inter, p.args, p.text⟩, []) := by
  show ((⟨4, p.mark, p.inter, if p.args.length < 100 then p.args ++ [sg c] else p.args, p.text⟩ : Ps), _) = _
  rw [if_neg h]
theorem does_77 (p : Ps) (c : Int) : does p c 77 = (⟨4, c, [], [], []⟩, []) := rfl
theorem does_71 (p : Ps) (c : Int) : does p c 71 = (at' 6, []) := rfl
theorem does_83 (p : Ps) (c : Int) : does p c 83 = (at' 3, []) := rfl
theorem does_79 (p : Ps) (c : Int) : does p c 79 = (at' 7, []) := rfl
theorem does_84 (p : Ps) (c : Int) : does p c 84 = (at' 9, []) := rfl
theorem does_90 (p : Ps) (c : Int) : does p c 90 = (⟨p.st + 1, p.mark, p.inter, p.args, p.text⟩, []) := rfl
theorem does_87a (p : Ps) (c : Int) (h : p.text.length + (encodeRune c).length ≤ 256) : does p c 87 = (⟨p.st, p.mark, p.inter, p.args, p.text ++ encodeRune c⟩, []) := by
  show (if p.text.length + (encodeRune c).length ≤ 256 then (⟨p.st, p.mark, p.inter, p.args, p.text ++ encodeRune c⟩ : Ps) else p, _) = _
  rw [if_pos h]
theorem does_87b (p : Ps) (c : Int) (h : ¬ p.text.length + (encodeRune c).length ≤ 256) : does p c 87 = (p, []) := by
  show (if p.text.length + (encodeRune c).length ≤ 256 then (⟨p.st, p.mark, p.inter, p.args, p.text ++ encodeRune c⟩ : Ps) else p, _) = _
  rw [if_neg h]
theorem does_89a (p : Ps) (c : Int) (h : 8 < p.st) : does p c 89 = (p0, [gone]) := by
  show (p0, [if 8 < p.st then gone else ⟨5, 0, 0, [], [], p.text⟩]) = _
  rw [if_pos h]
theorem does_89b (p : Ps) (c : Int) (h : ¬ 8 < p.st) : does p c 89 = (p0, [⟨5, 0, 0, [], [], p.text⟩]) := by
  show (p0, [if 8 < p.st then gone else ⟨5, 0, 0, [], [], p.text⟩]) = _
  rw [if_neg h]
theorem does_70 (p : Ps) (c : Int) : does p c 70 = (p0, [final p c]) := rfl
end Go.Proofs.YtneiiinheimglaaGreatDoor.B
