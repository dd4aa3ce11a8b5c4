/-
  Contracts of the document's side: farref.May, Bytes, Spoken; conditions: the option is from 0 to 255; Bytes: at most 100 bytes; Spoken: a word from 0 to 2.
-/
import Derived.Test.YtfehlfjondelnaaQRef
import Derived.Test.YtfehlfjondelnaaQSay
import Derived.BigQuiet
namespace Go.Proofs.Ytfehlfjondelnaa.Q
open Go.RowKit Go.Proofs.Ytfehlfjondelnaa

theorem wrap_nat (y : Nat) (h : y < 18446744073709551616) : IntKind.u64.wrap (y : Int) = (y : Int) := by
  rw [IntKind.wrap_u64]
  omega
theorem pow_bit (x s : Nat) (hx : x < 18446744073709551616) (hs : s < 64) : ∃ p : Nat, IntKind.u64.wrap ((2 : Int) ^ s) = (p : Int) ∧ 0 < p ∧ p < 18446744073709551616 ∧ x.testBit s = ((IntKind.u64.wrap ((x : Int) / (p : Int))).tmod 2 == 1) := by
  have h1 : 2 ^ s < 2 ^ 64 := Nat.pow_lt_pow_right (by omega) hs
  have hd : x / 2 ^ s ≤ x := Nat.div_le_self _ _
  refine ⟨2 ^ s, ?_, Nat.pos_of_ne_zero (by simp), by omega, ?_⟩
  · have e : ((2 : Int) ^ s) = ((2 ^ s : Nat) : Int) := by simp
    rw [e]
    exact wrap_nat _ h1
  · rw [Nat.testBit_eq_decide_div_mod_eq]
    have e : (x : Int) / ((2 ^ s : Nat) : Int) = ((x / 2 ^ s : Nat) : Int) := by rw [Int.natCast_ediv]
    rw [e, wrap_nat _ (by omega)]
    generalize x / 2 ^ s = y
    have e2 : (y : Int).tmod 2 = ((y % 2 : Nat) : Int) := by
      rw [Int.tmod_eq_emod_of_nonneg (by omega)]
      omega
    rw [e2]
    have h2 : y % 2 = 0 ∨ y % 2 = 1 := by omega
    rcases h2 with h2 | h2 <;> simp [h2]
theorem below_drewN {B : Nat} {a w : World} (h : Below B a w) (n : Nat) : Below B a (w.drewN n) := ⟨h.os, h.tape, h.output, h.size, h.block⟩

set_option maxHeartbeats 4000000 in
theorem May_any (X : List Value) (k x : Nat) (hk : k < 256) (hx : x < 18446744073709551616) (hX : X[k / 64]? = some (.int .u64 (x : Int))) (w : World) :
    Calls Try.prog 31 #[.agg X.toArray, .int .i64 (k : Int)] w fun e w' => e = .returned (.bool (x.testBit (k % 64))) ∧ Below w.heap.size w w' := by
  have k0 : (0 : Int) ≤ (k : Int) := by omega
  have k1 : (k : Int) < 256 := by omega
  have HX := Hid.mk' hX
  clear hX
  obtain ⟨p, hp, p0, p1, hb⟩ := pow_bit x (k % 64) hx (by omega)
  rw [hb]
  clear hb
  have q0 : (0 : Int) < (p : Int) := by omega
  have q1 : (p : Int) < 18446744073709551616 := by omega
  have q2 : (0 : Int) ≤ (x : Int) := by omega
  have q3 : (x : Int) < 18446744073709551616 := by omega
  have q4 : (p : Int) ≠ 0 := by omega
  go_enter Try.func31, Try.ntmps31
  go_wp2_with (refine wpList_box X 30 rfl _ rfl rfl ?_)
  intro w1 m1
  have hc := m1.box.cell HX.out
  have HB1 := Hid.mk' (m1.below w.heap.size w (Nat.le_refl _) (Below.refl _ w))
  clear m1
  go_wp2_with fail
  go_quiet (fail)
  go_wp2
  go_ret
  exact ⟨rfl, below_drewN HB1.out _⟩

def icells (l : List UInt8) : List Value := l.map fun b => .int .i64 (b.toNat : Int)
theorem infoByte : (Try.prog.info? 5).map (fun i => (i.zero, i.size, i.bytes)) = some (some (.int .u8 0), 1, 1) := by kernel_rfl
theorem info_parts {P : Program} {t : TypeId} {z : Option Value} {s b : Nat} (h : (P.info? t).map (fun i => (i.zero, i.size, i.bytes)) = some (z, s, b)) : ∃ i, P.info? t = some i ∧ i.zero = z ∧ i.size = s ∧ i.bytes = b := by
  cases hi : P.info? t with
  | none => rw [hi] at h; simp at h
  | some i =>
    rw [hi] at h
    simp only [Option.map_some, Option.some.injEq, Prod.mk.injEq] at h
    exact ⟨i, rfl, h.1, h.2.1, h.2.2⟩
theorem take_set (l : List Value) (k : Nat) (v : Value) (h : k < l.length) : (l.set k v).take (k + 1) = l.take k ++ [v] := by
  have e : (l.set k v).take k = l.take k := by
    apply List.ext_getElem?
    intro i
    by_cases hi : i < k
    · simp [hi, show k ≠ i by omega]
    · simp [List.getElem?_take, hi]
  rw [List.take_succ_eq_append_getElem (by simpa using h), e]
  simp

def YState (w : World) (N : List UInt8) (i : Value) (wr : World) : Prop :=
  ∃ (k : Nat) (arr : List Value), k ≤ N.length ∧ i = .int .i64 k ∧ Box wr w.heap.size 5 arr ∧ arr.length = N.length ∧ arr.take k = bcells (N.take k) ∧ Below w.heap.size w wr

set_option maxHeartbeats 8000000 in
set_option maxRecDepth 100000 in
theorem Bytes_any (N : List UInt8) (g c : Nat) (w : World) (hn : N.length ≤ 100) (hc : ∀ k (h : k < N.length), w.cell? ⟨g, k, none⟩ = some (.int .i64 (N[k].toNat : Int))) (hg : g < w.heap.size) :
    Calls Try.prog 35 #[.slice (some ⟨g, 0, none⟩) N.length c] w fun e w' => e = .returned (.string ⟨N.toArray⟩) ∧ Below w.heap.size w w' := by
  obtain ⟨i0, hi, hz0, hz1, hz2⟩ := info_parts infoByte
  have hmk := run_makeSlice w 59 5 i0 (.int .u8 0) Try.underlying59 hi hz0 .i64 .i64 N.length N.length (by omega) (by omega) (by rw [hz1]; simp; omega) (by rw [hz2]; simp; omega) (by omega)
  rw [hz1] at hmk
  simp only [Int.toNat_natCast, Nat.mul_one] at hmk
  have HC := Hid.mk' hc
  have HS : Hid (YState w N (.int .i64 0) (w.alloc (.cells (madeCells (Value.int .u8 0).cells N.length) 5))) :=
    ⟨0, (madeCells (Value.int .u8 0).cells N.length).toList, Nat.zero_le _, rfl, by have := Box.new w 5 (madeCells (Value.int .u8 0).cells N.length).toList; rwa [Array.toArray_toList] at this, by simpa using size_madeCells _ _, by simp [bcells], (Below.refl _ _).alloc (Nat.le_refl _) _⟩
  generalize madeCells (Value.int .u8 0).cells N.length = arr0 at *
  clear hc
  go_enter Try.func35, Try.ntmps35
  go_wp2_with fail
  go_loopw [11] (fun i wr => YState w N i wr) (fun i _ => N.length - (RowKit.intOf i).toNat)
  case atStart => exact HS.out
  case round =>
    obtain ⟨k, arr, hk, rfl, hbox, hsz, htk, hbl⟩ := hrel
    clear HS hmk
    have HB := Hid.mk' hbl
    have HK := Hid.mk' hbox
    have HT := Hid.mk' htk
    clear htk
    by_cases hl : k < N.length
    · have h1 : wr.cell? ⟨g, k, none⟩ = some (.int .i64 (N[k].toNat : Int)) := (hbl.cell (p := ⟨g, k, none⟩) hg).trans (HC.out k hl)
      have h2 : ∃ x, wr.cell? ⟨w.heap.size, k, none⟩ = some x := ⟨_, hbox.cell (List.getElem?_eq_getElem (show k < arr.length by omega))⟩
      have h3 := hbox.frozen
      obtain ⟨x, h2⟩ := h2
      have hbn := N[k].toNat_lt
      have q1 : (0 : Int) ≤ (N[k].toNat : Int) := by omega
      have q2 : (N[k].toNat : Int) ≤ 255 := by omega
      have hts : N.take (k + 1) = N.take k ++ [N[k]] := List.take_succ_eq_append_getElem hl
      have HTS := Hid.mk' (show bcells (N.take (k + 1)) = bcells (N.take k) ++ [.int .u8 (N[k].toNat : Int)] by unfold bcells; rw [hts, List.map_append]; rfl)
      clear hbl hbox hbn hts
      generalize (N[k].toNat : Int) = y at *
      go_wp2
      go_roundw
      case rel =>
        refine ⟨k + 1, arr.set k (.int .u8 y), by omega, by go_num, HK.out.setCell _ _, by simpa using hsz, ?_, HB.out.setCell (by simp) _⟩
        rw [HTS.out, ← HT.out]
        exact take_set _ _ _ (by omega)
      case measure => simp [RowKit.intOf]; omega
    · obtain rfl : k = N.length := by omega
      have e : arr = bcells N := by
        have := HT.out
        rwa [List.take_length, List.take_of_length_le (by omega)] at this
      subst e
      have hstr := run_str (c := N.length) rfl hbox
      clear hbl hbox
      go_wp2
      go_ret
      exact ⟨rfl, HB.out⟩

theorem Bytes_ints (N : List UInt8) (w : World) (hn : N.length ≤ 100) :
    Calls Try.prog 35 #[.slice (some ⟨w.heap.size, 0, none⟩) N.length N.length] (w.alloc (.cells (icells N).toArray 3)) fun e w' => e = .returned (.string ⟨N.toArray⟩) ∧ Below w.heap.size w w' := by
  have H := Bytes_any N w.heap.size N.length (w.alloc (.cells (icells N).toArray 3)) hn (fun k h => (Box.new w 3 (icells N)).cell (by simp [icells, h])) (by simp)
  refine H.mono ?_
  rintro e w' ⟨rfl, hb⟩
  exact ⟨rfl, ((Below.refl _ _).alloc (Nat.le_refl _) _).trans (hb.mono (by simp))⟩

theorem icells3 (c k : Nat) (hc : c < 256) (hk : k < 256) : icells [255, c.toUInt8, k.toUInt8] = [.int .i64 255, .int .i64 (c : Int), .int .i64 (k : Int)] := by
  simp only [icells, List.map_cons, List.map_nil, u8_of hk, u8_of hc]
  rfl

set_option maxHeartbeats 4000000 in
theorem Spoken_any (us : Bool) (say : Int) (k : Nat) (hs : say = 0 ∨ say = 1 ∨ say = 2) (hk : k < 256) (w : World) :
    Calls Try.prog 32 #[.bool us, .int .i64 say, .int .i64 (k : Int)] w fun e w' => e = .returned (.string ⟨(word us say k).toArray⟩) ∧ Below w.heap.size w w' := by
  rcases hs with rfl | rfl | rfl
  · go_enter Try.func32, Try.ntmps32
    go_wp2
    go_ret
    exact ⟨rfl, Below.refl _ _⟩
  · cases us
    · have H := Bytes_ints [255, (253 : Nat).toUInt8, k.toUInt8] w (by simp)
      rw [icells3 253 k (by omega) hk] at H
      simp only [List.length_cons, List.length_nil, Nat.reduceAdd] at H
      rw [show [255, (253 : Nat).toUInt8, k.toUInt8] = word false 1 k from rfl] at H
      generalize word false 1 k = wd at *
      have HH := Hid.mk' H
      clear H
      go_enter Try.func32, Try.ntmps32
      go_wp2_with fail
      refine HH.out.mono ?_
      rintro e w1 ⟨rfl, hb1⟩
      have HB := Hid.mk' hb1
      clear hb1 HH
      go_wp2
      go_ret
      exact ⟨rfl, HB.out⟩
    · have H := Bytes_ints [255, (251 : Nat).toUInt8, k.toUInt8] w (by simp)
      rw [icells3 251 k (by omega) hk] at H
      simp only [List.length_cons, List.length_nil, Nat.reduceAdd] at H
      rw [show [255, (251 : Nat).toUInt8, k.toUInt8] = word true 1 k from rfl] at H
      generalize word true 1 k = wd at *
      have HH := Hid.mk' H
      clear H
      go_enter Try.func32, Try.ntmps32
      go_wp2_with fail
      refine HH.out.mono ?_
      rintro e w1 ⟨rfl, hb1⟩
      have HB := Hid.mk' hb1
      clear hb1 HH
      go_wp2
      go_ret
      exact ⟨rfl, HB.out⟩
  · cases us
    · have H := Bytes_ints [255, (254 : Nat).toUInt8, k.toUInt8] w (by simp)
      rw [icells3 254 k (by omega) hk] at H
      simp only [List.length_cons, List.length_nil, Nat.reduceAdd] at H
      rw [show [255, (254 : Nat).toUInt8, k.toUInt8] = word false 2 k from rfl] at H
      generalize word false 2 k = wd at *
      have HH := Hid.mk' H
      clear H
      go_enter Try.func32, Try.ntmps32
      go_wp2_with fail
      refine HH.out.mono ?_
      rintro e w1 ⟨rfl, hb1⟩
      have HB := Hid.mk' hb1
      clear hb1 HH
      go_wp2
      go_ret
      exact ⟨rfl, HB.out⟩
    · have H := Bytes_ints [255, (252 : Nat).toUInt8, k.toUInt8] w (by simp)
      rw [icells3 252 k (by omega) hk] at H
      simp only [List.length_cons, List.length_nil, Nat.reduceAdd] at H
      rw [show [255, (252 : Nat).toUInt8, k.toUInt8] = word true 2 k from rfl] at H
      generalize word true 2 k = wd at *
      have HH := Hid.mk' H
      clear H
      go_enter Try.func32, Try.ntmps32
      go_wp2_with fail
      refine HH.out.mono ?_
      rintro e w1 ⟨rfl, hb1⟩
      have HB := Hid.mk' hb1
      clear hb1 HH
      go_wp2
      go_ret
      exact ⟨rfl, HB.out⟩
end Go.Proofs.Ytfehlfjondelnaa.Q
