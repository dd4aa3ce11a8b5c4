/-
  Contract of farref.MaskText; condition: four words of 64 bits.
-/
import Derived.Test.YtipdnkkkigmkdaaDoorHTrim
import Derived.Test.YtipdnkkkigmkdaaDoorHRef
import Derived.Test.YtipdnkkkigmkdaaDoorHHas
import Derived.Deep.LoopGhost
namespace Go.Proofs.YtipdnkkkigmkdaaDoor.H
open Go.RowKit Go.Lib Go.Proofs.YtipdnkkkigmkdaaDoor Go.Proofs.YtipdnkkkigmkdaaDoor.W Go.Proofs.YtipdnkkkigmkdaaDoor.Q

/-- a byte's first k bits, the lowest one first -/
def hN (x k : Nat) : Nat := (List.range k).foldl (fun n k => 2 * n + x / 2 ^ k % 2) 0
theorem hN_zero (x : Nat) : hN x 0 = 0 := rfl
theorem hN_succ (x k : Nat) : hN x (k + 1) = 2 * hN x k + x / 2 ^ k % 2 := by unfold hN; rw [List.range_succ, List.foldl_append]; rfl
theorem hN_all (x : Nat) : hN x 8 = rev8 x := rfl
theorem hN_lt (x : Nat) : ∀ k, hN x k < 2 ^ k
  | 0 => by rw [hN_zero]; decide
  | k + 1 => by
    have h := hN_lt x k
    rw [hN_succ, Nat.pow_succ]
    have : x / 2 ^ k % 2 < 2 := Nat.mod_lt _ (by decide)
    omega
theorem hN_small (x k : Nat) (hk : k ≤ 8) : hN x k < 256 := Nat.lt_of_lt_of_le (hN_lt x k) (Nat.le_trans (Nat.pow_le_pow_right (by decide : 2 > 0) hk) (by decide))
theorem hN_bit (M : List Nat) (i k : Nat) (hk : k < 8) : hN (wordB M i) (k + 1) = 2 * hN (wordB M i) k + (if mem M (8 * i + k) = true then 1 else 0) := by
  rw [hN_succ, ← wordB_bit M i k hk, Nat.testBit_eq_decide_div_mod_eq]
  congr 1
  by_cases h : wordB M i / 2 ^ k % 2 = 1
  · rw [if_pos (decide_eq_true h), h]
  · rw [if_neg (by simpa using h)]
    have : wordB M i / 2 ^ k % 2 < 2 := Nat.mod_lt _ (by decide)
    omega
theorem rowOf_take (M : List Nat) (n : Nat) (h : n < 32) : (rowOf M).take (n + 1) = (rowOf M).take n ++ [UInt8.ofNat (wbyte M n)] := by
  have e2 : (rowOf M)[n]? = some (UInt8.ofNat (wbyte M n)) := by
    unfold rowOf
    rw [List.getElem?_map, List.getElem?_range h]; rfl
  rw [List.take_add_one, e2]
  rfl

def OUT (w : World) (M : List Nat) (g : Nat) (s3 s7 : Value) (wr : World) : Prop :=
  ∃ (n : Nat), n ≤ 32 ∧ 32 - n ≤ g ∧ s7 = .int .i64 (n : Int) ∧ s3 = .string (bs ((rowOf M).take n)) ∧ Hid (Box wr w.heap.size 25 (ucells M)) ∧ Hid (Below w.heap.size w wr)
def INN (w : World) (M : List Nat) (n : Nat) (g : Nat) (s5 s10 : Value) (wr : World) : Prop :=
  ∃ (k : Nat), k ≤ 8 ∧ 8 - k ≤ g ∧ s10 = .int .i64 (k : Int) ∧ s5 = .int .i64 ((hN (wordB M n) k : Nat) : Int) ∧ Hid (Box wr w.heap.size 25 (ucells M)) ∧ Hid (Below w.heap.size w wr)

set_option maxHeartbeats 8000000 in
set_option maxRecDepth 100000 in
theorem MaskText_any (M : List Nat) (hM : okW M) (w : World) :
    Calls Tryd.prog 8 #[MV M] w fun e w' => e = .returned (.string (bs (textOf M))) ∧ Below w.heap.size w w' := by
  have HS := Hid.mk' (sizeMV hM)
  have HI := Hid.mk' (InMask_any M hM)
  have HST : Hid (∀ w1 : World, Box w1 w.heap.size 25 (ucells M) → Below w.heap.size w w1 → OUT w M 32 (.string ⟨#[]⟩) (.int .i64 0) w1) := fun w1 h1 h2 => ⟨0, Nat.zero_le _, by omega, rfl, rfl, h1, h2⟩
  have HTR : Hid (∀ W, Calls Tryd.prog 14 #[.string (bs ((rowOf M).take 32)), .string { data := #[0] }] W fun e w' => e = .returned (.string (bs (textOf M))) ∧ w' = W) := fun W => by
    have h := TrimRight_any (rowOf M) (by rw [rowOf_len]; decide) W
    rw [List.take_of_length_le (by rw [rowOf_len]; omega)]
    exact h
  have HBY : Hid (∀ (n : Nat), n < 32 → ∀ W : World, Calls Tryd.prog 18 #[.slice (some ⟨W.heap.size, 0, none⟩) 1 1] (W.alloc (.cells #[.int .i64 ((hN (wordB M n) 8 : Nat) : Int)] 3)) fun e w' => e = .returned (.string (bs [UInt8.ofNat (wbyte M n)])) ∧ Below W.heap.size W w') := fun n hn W => by
    have h := RBytes_ints [UInt8.ofNat (wbyte M n)] W (by simp)
    have e : icells [UInt8.ofNat (wbyte M n)] = [.int .i64 (((UInt8.ofNat (wbyte M n)).toNat : Nat) : Int)] := rfl
    have hu : (UInt8.ofNat (wbyte M n)).toNat = wbyte M n := by
      have := wbyte_lt M n
      rw [UInt8.toNat_ofNat']; omega
    rw [e, hu] at h
    exact h
  unfold MV at *
  generalize bs (textOf M) = R at *
  go_enter Tryd.func8, Tryd.ntmps8
  go_wp2_with (refine wpList_box (ucells M) 25 rfl _ rfl rfl ?_)
  intro w1 m1
  have HST1 := Hid.mk' (HST.out w1 m1.box (m1.below _ _ (Nat.le_refl _) (Below.refl _ w)))
  clear m1 HST
  go_wp2_with fail
  go_loopg [3, 7] 32 (fun g s3 s7 wr => OUT w M g s3 s7 wr)
  case atStart => exact HST1.out
  case round =>
    obtain ⟨n, hn, hg, rfl, rfl, HB, HBL⟩ := hrel
    clear HST1
    have HG := Hid.mk' hg
    clear hg
    by_cases hlt : n < 32
    · have HIN : Hid (INN w M n 8 (.int .i64 0) (.int .i64 0) wr) := ⟨0, Nat.zero_le _, by omega, rfl, rfl, HB, HBL⟩
      have HBN := Hid.mk' (HBY.out n hlt)
      have HRT := Hid.mk' (rowOf_take M n hlt)
      have HSZ : (bs ((rowOf M).take n)).size ≤ 32 := by rw [bs_size, List.length_take]; omega
      have HS1 : (bs [UInt8.ofNat (wbyte M n)]).size = 1 := bs_size _
      have HAP : Hid (bs ((rowOf M).take n) ++ bs [UInt8.ofNat (wbyte M n)] = bs ((rowOf M).take (n + 1))) := by rw [HRT.out]; exact bs_app _ _
      generalize bs ((rowOf M).take n) = A at *
      generalize bs [UInt8.ofNat (wbyte M n)] = B at *
      clear HB HBL HRT HBY
      have hdn : decide ((n : Int) < 32) = true := decide_eq_true (by omega)
      go_wp2_with fail
      try rw [hdn]
      go_loopg [5, 10] 8 (fun g s5 s10 wr => INN w M n g s5 s10 wr)
      case atStart => exact HIN.out
      case round =>
        obtain ⟨k, hk, hg2, rfl, rfl, HB, HBL⟩ := hrel
        clear HIN
        have HG2 := Hid.mk' hg2
        clear hg2
        by_cases hlt2 : k < 8
        · have HA : Hid (∀ W, Calls Tryd.prog 17 #[.agg (ucells M).toArray, .int .i64 (8 * (n : Int) + (k : Int))] W fun e w' => e = .returned (.bool (mem M (8 * n + k))) ∧ Below W.heap.size W w') := fun W => by
            have h := HI.out (8 * n + k) (by omega) W
            rw [show ((8 * n + k : Nat) : Int) = 8 * (n : Int) + (k : Int) by omega] at h
            exact h
          have HH := Hid.mk' (hN_bit M n k hlt2)
          have hx := hN_small (wordB M n) k hk
          generalize hN (wordB M n) k = x at *
          have b0 := HB.out
          go_wp2_with (with_reducible refine wpList_load_box 25 25 (ucells M) w.heap.size _ Tryd.underlying25 rfl HS.out b0 rfl _ rfl rfl ?_)
          refine (HA.out _).mono ?_
          rintro e w3 ⟨rfl, h3⟩
          have HB3 := Hid.mk' (b0.later h3)
          have HBL3 := Hid.mk' (HBL.out.trans (h3.mono HBL.out.size))
          clear b0 h3 HB HBL HA
          cases hm : mem M (8 * n + k) with
          | true =>
            rw [hm, if_pos rfl] at HH
            go_wp2
            go_roundg (8 - (k + 1))
            case measure => have := HG2.out; omega
            case rel => exact ⟨k + 1, by omega, Nat.le_refl _, by go_num, by rw [HH.out]; congr 1; omega, HB3, HBL3⟩
          | false =>
            rw [hm, if_neg (by simp)] at HH
            go_wp2
            go_roundg (8 - (k + 1))
            case measure => have := HG2.out; omega
            case rel => exact ⟨k + 1, by omega, Nat.le_refl _, by go_num, by rw [HH.out]; congr 1; omega, HB3, HBL3⟩
        · obtain rfl : k = 8 := by omega
          generalize hN (wordB M n) 8 = x at *
          go_wp2_with fail
          refine (HBN.out _).mono ?_
          rintro e w4 ⟨rfl, h4⟩
          have HB4 := Hid.mk' (HB.out.later h4)
          have HBL4 := Hid.mk' (HBL.out.trans (h4.mono HBL.out.size))
          clear h4 HB HBL HBN
          go_wp2
          go_roundg (32 - (n + 1))
          case measure => have := HG.out; omega
          case rel => exact ⟨n + 1, by omega, Nat.le_refl _, by go_num, by rw [HAP.out], HB4, HBL4⟩
    · obtain rfl : n = 32 := by omega
      generalize bs ((rowOf M).take 32) = A at *
      go_wp2_with fail
      refine (HTR.out _).mono ?_
      rintro e w4 ⟨rfl, rfl⟩
      go_wp2
      go_ret
      exact ⟨rfl, HBL.out⟩
end Go.Proofs.YtipdnkkkigmkdaaDoor.H
