/-
  Contract of farref.MaskBytes; condition: four words of 64 bits.
-/
import Derived.Test.YtipdnkkkigmkdaaHBytes
import Derived.Test.YtipdnkkkigmkdaaHRef
namespace Go.Proofs.Ytipdnkkkigmkdaa.H
open Go.RowKit Go.Lib Go.Proofs.Ytipdnkkkigmkdaa Go.Proofs.Ytipdnkkkigmkdaa.W Go.Proofs.Ytipdnkkkigmkdaa.Q

def CS (w : World) (M : List Nat) (g : Nat) (s3 s5 : Value) (wr : World) : Prop :=
  ∃ (n : Nat), n ≤ 256 ∧ 256 - n ≤ g ∧ s5 = .int .i64 (n : Int) ∧ s3 = .string (bs (bytesN M n)) ∧ Hid (Box wr w.heap.size 25 (ucells M)) ∧ Hid (Below w.heap.size w wr)

set_option maxHeartbeats 4000000 in
set_option maxRecDepth 100000 in
theorem MaskBytes_any (M : List Nat) (hM : okW M) (w : World) :
    Calls Try.prog 10 #[MV M] w fun e w' => e = .returned (.string (bs (bytesOf M))) ∧ Below w.heap.size w w' := by
  have HS := Hid.mk' (sizeMV hM)
  have HH := Hid.mk' (InMask_any M hM)
  have HST : Hid (∀ w1 : World, Box w1 w.heap.size 25 (ucells M) → Below w.heap.size w w1 → CS w M 256 (.string ⟨#[]⟩) (.int .i64 0) w1) := fun w1 h1 h2 => ⟨0, Nat.zero_le _, by omega, rfl, rfl, h1, h2⟩
  have HR : Hid (bytesN M 256 = bytesOf M) := rfl
  unfold MV at *
  generalize bytesOf M = R at *
  go_enter Try.func10, Try.ntmps10
  go_wp2_with (refine wpList_box (ucells M) 25 rfl _ rfl rfl ?_)
  intro w1 m1
  have HST1 := Hid.mk' (HST.out w1 m1.box (m1.below _ _ (Nat.le_refl _) (Below.refl _ w)))
  clear m1 HST
  go_wp2_with fail
  go_loopg [3, 5] 256 (fun g s3 s5 wr => CS w M g s3 s5 wr)
  case atStart => exact HST1.out
  case round =>
    obtain ⟨n, hn, hg, rfl, rfl, HB, HBL⟩ := hrel
    clear HST1
    have HG := Hid.mk' hg
    clear hg
    by_cases hlt : n < 256
    · have hu : (UInt8.ofNat n).toNat = n := by rw [UInt8.toNat_ofNat']; omega
      have HH1 := Hid.mk' (HH.out n hlt)
      have HT := Hid.mk' (bytesN_succ M n)
      have HL := bytesN_len M n
      have HBY : Hid (∀ W : World, Calls Try.prog 14 #[.slice (some ⟨W.heap.size, 0, none⟩) 1 1] (W.alloc (.cells #[.int .i64 (n : Int)] 3)) fun e w' => e = .returned (.string (bs [UInt8.ofNat n])) ∧ Below W.heap.size W w') := fun W => by
        have h := RBytes_ints [UInt8.ofNat n] W (by simp)
        have e : icells [UInt8.ofNat n] = [.int .i64 (((UInt8.ofNat n).toNat : Nat) : Int)] := rfl
        rw [e, hu] at h
        exact h
      have hz : (bs (bytesN M n)).size ≤ 256 := by rw [bs_size]; omega
      have hz1 : (bs [UInt8.ofNat n]).size = 1 := bs_size _
      have HAP : Hid (bs (bytesN M n) ++ bs [UInt8.ofNat n] = bs (bytesN M n ++ [UInt8.ofNat n])) := bs_app _ _
      have b0 := HB.out
      clear hu HL
      go_wp2_with (with_reducible refine wpList_load_box 25 25 (ucells M) w.heap.size _ Try.underlying25 rfl HS.out b0 rfl _ rfl rfl ?_)
      refine (HH1.out _).mono ?_
      rintro e w3 ⟨rfl, h3⟩
      have HB3 := Hid.mk' (b0.later h3)
      have HBL3 := Hid.mk' (HBL.out.trans (h3.mono HBL.out.size))
      clear b0 h3 HB HBL HH1
      cases hm : mem M n with
      | true =>
        rw [hm, if_pos rfl] at HT
        rw [← HT.out] at HAP
        generalize bs (bytesN M n) = A at *
        generalize bs [UInt8.ofNat n] = B at *
        go_wp2_with fail
        refine (HBY.out _).mono ?_
        rintro e w4 ⟨rfl, h4⟩
        have HB4 := Hid.mk' (HB3.out.later h4)
        have HBL4 := Hid.mk' (HBL3.out.trans (h4.mono HBL3.out.size))
        clear h4 HB3 HBL3 HT
        go_wp2
        go_roundg (256 - (n + 1))
        case measure => have := HG.out; omega
        case rel => exact ⟨n + 1, by omega, Nat.le_refl _, by go_num, by rw [HAP.out], HB4, HBL4⟩
      | false =>
        rw [hm, if_neg (by simp), List.append_nil] at HT
        go_wp2
        go_roundg (256 - (n + 1))
        case measure => have := HG.out; omega
        case rel => exact ⟨n + 1, by omega, Nat.le_refl _, by go_num, by rw [HT.out], HB3, HBL3⟩
    · obtain rfl : n = 256 := by omega
      rw [HR.out]
      go_wp2
      go_ret
      exact ⟨rfl, HBL.out⟩
end Go.Proofs.Ytipdnkkkigmkdaa.H
