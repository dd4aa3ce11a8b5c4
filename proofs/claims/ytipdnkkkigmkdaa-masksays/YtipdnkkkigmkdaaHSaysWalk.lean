/-
  Walk: farlaw.MaskSays returns true; conditions: four words of 64 bits, a text of at most 2^62 bytes.
-/
import Derived.Test.YtipdnkkkigmkdaaHOf
import Derived.Test.YtipdnkkkigmkdaaHMB
import Derived.Test.YtipdnkkkigmkdaaHIdx
import Derived.Test.YtipdnkkkigmkdaaHReg
namespace Go.Proofs.Ytipdnkkkigmkdaa.H
open Go.RowKit Go.Lib Go.Proofs.Ytipdnkkkigmkdaa Go.Proofs.Ytipdnkkkigmkdaa.W Go.Proofs.Ytipdnkkkigmkdaa.Q

attribute [local go_sem ↓] exec_loadM

theorem mem_index (l : List UInt8) (n : Nat) (hn : n < 256) : mem (ofL l) n = decide (0 ≤ Lib.indexByte l (UInt8.ofNat n)) := by
  rw [mem_ofL]
  refine decide_eq_decide.2 ?_
  rw [index_in, List.mem_map]
  constructor
  · rintro ⟨a, ha, rfl⟩
    rwa [UInt8.ofNat_toNat]
  · intro h
    exact ⟨_, h, by rw [UInt8.toNat_ofNat']; omega⟩

def ZS (w w1 : World) (M X : List Nat) (g : Nat) (s11 : Value) (wr : World) : Prop :=
  ∃ (n : Nat), n ≤ 256 ∧ 256 - n ≤ g ∧ s11 = .int .i64 (n : Int) ∧ Hid (Box wr w.heap.size 25 (ucells M)) ∧ Hid (Box wr w1.heap.size 25 (ucells X)) ∧ Hid (Below w.heap.size w wr)

set_option maxHeartbeats 4000000 in
set_option maxRecDepth 100000 in
theorem MaskSays_any (M : List Nat) (hM : okW M) (b : UInt8) (l : List UInt8) (hl : l.length ≤ 4611686018427387904) (w : World) :
    Calls Try.prog 3 #[MV M, .int .u8 (b.toNat : Int), .string (bs l)] w fun e w' => e = .returned (.bool true) ∧ Below w.heap.size w w' := by
  have H1 := Hid.mk' (Of_any l hl)
  have H2 := Hid.mk' (InMask_any (ofL l) (ok_ofL l))
  have H3 := Hid.mk' (SIndexByte_any (bs l))
  have H4 := Hid.mk' (Has_any M hM b)
  have H5 := Hid.mk' (InMask_any M hM b.toNat b.toNat_lt)
  have H6 := Hid.mk' (Bytes_any M hM)
  have H7 := Hid.mk' (MaskBytes_any M hM)
  have HX := Hid.mk' (mem_index l)
  have HD : Hid ((bs l).data.toList = l) := rfl
  have hok := ok_ofL l
  have HSM := Hid.mk' (sizeMV hM)
  have HSX := Hid.mk' (sizeMV hok)
  have HLM : Hid ((ucells M).length = 4) := by rw [Hid, ucells_length, hM.1]
  have HLX : Hid ((ucells (ofL l)).length = 4) := by rw [Hid, ucells_length, hok.1]
  have HOX := Hid.mk' (ucells_one (ofL l))
  rw [HD.out] at H3
  clear HD hl
  unfold MV at *
  generalize ofL l = X at *
  generalize bs l = S at *
  generalize bs (bytesOf M) = R at *
  generalize mem M b.toNat = q at *
  go_enter Try.func3, Try.ntmps3
  go_wp2_with (refine wpList_box (ucells M) 25 rfl _ rfl rfl ?_)
  intro w1 m1
  have z1 := m1.lt
  have b1 := m1.box
  have HB1 := Hid.mk' (m1.below _ _ (Nat.le_refl _) (Below.refl _ w))
  clear m1
  go_wp2_with fail
  refine (H1.out _).mono ?_
  rintro e w2 ⟨rfl, h2⟩
  have b2 := b1.later h2
  have z2 := h2.size
  have HB2 := Hid.mk' (HB1.out.trans (h2.mono (by omega)))
  clear h2 b1 HB1 H1
  go_wp2_with (refine wpList_alloc (ucells noW) 25 zeroM rfl rfl ?_)
  intro w3 m3
  have z3 := m3.lt
  have b3 := m3.keep b2
  have HB3 := Hid.mk' (m3.below w.heap.size _ (by omega) HB2.out)
  go_wp2_with (refine wpList_store_box 25 25 (ucells noW) (ucells X) w2.heap.size HSX.out HOX.out m3.box (by rw [HLX.out]; rfl) rfl _ _ rfl rfl rfl ?_)
  intro w4 s4
  have b4 := s4.keep b3 (by omega)
  have HST : Hid (ZS w w2 M X 256 (.int .i64 0) w4) := ⟨0, Nat.zero_le _, by omega, rfl, Hid.mk' b4, Hid.mk' s4.box, Hid.mk' (s4.below w.heap.size _ (by omega) HB3.out)⟩
  clear m3 s4 b2 b3 b4 HB2 HB3
  go_wp2_with fail
  go_loopg [11] 256 (fun g s11 wr => ZS w w2 M X g s11 wr)
  case atStart => exact HST.out
  case round =>
    obtain ⟨n, hn, hg, rfl, HM, HXX, HBL⟩ := hrel
    clear HST
    have HG := Hid.mk' hg
    clear hg
    by_cases hlt : n < 256
    · have hu : (UInt8.ofNat n).toNat = n := by rw [UInt8.toNat_ofNat']; omega
      have HI := Hid.mk' (H3.out (UInt8.ofNat n))
      rw [hu] at HI
      have HA := Hid.mk' (H2.out n hlt)
      have hx := HX.out n hlt
      generalize mem X n = p at *
      generalize Lib.indexByte l (UInt8.ofNat n) = r at *
      have b5 := HXX.out
      go_wp2_with (with_reducible refine wpList_load_box 25 25 (ucells X) w2.heap.size _ Try.underlying25 rfl HSX.out b5 rfl _ rfl rfl ?_)
      refine (HA.out _).mono ?_
      rintro e w5 ⟨rfl, h5⟩
      have HX5 := Hid.mk' (b5.later h5)
      have HM5 := Hid.mk' (HM.out.later h5)
      have HB5 := Hid.mk' (HBL.out.trans (h5.mono HBL.out.size))
      clear h5 b5 HXX HM HBL HA
      go_wp2_with fail
      refine (HI.out _).mono ?_
      rintro e w6 ⟨rfl, rfl⟩
      by_cases hr : 0 ≤ r
      · rw [decide_eq_true hr] at hx
        subst hx
        go_wp2
        go_roundg (256 - (n + 1))
        case measure => have := HG.out; omega
        case rel => exact ⟨n + 1, by omega, Nat.le_refl _, by go_num, HM5, HX5, HB5⟩
      · rw [decide_eq_false hr] at hx
        subst hx
        go_wp2
        go_roundg (256 - (n + 1))
        case measure => have := HG.out; omega
        case rel => exact ⟨n + 1, by omega, Nat.le_refl _, by go_num, HM5, HX5, HB5⟩
    · obtain rfl : n = 256 := by omega
      have hE : Ext wr.drew wr.drew := Ext.refl _
      have xk := HM.out.drew
      have l0 : ∀ w', Ext wr.drew w' → Lies w' (.pointer (some ⟨w.heap.size, 0, none⟩)) 4 := fun w' h => (xk.later h).lies0 HLM.out
      have r0 : ∀ w', Ext wr.drew w' → Q.rowAt w' (.pointer (some ⟨w.heap.size, 0, none⟩)) 4 = ucells M := fun w' h => (xk.later h).row0 HLM.out
      clear xk
      have hwr : IntKind.i64.wrap (b.toNat : Int) = (b.toNat : Int) := by have := b.toNat_lt; rw [IntKind.wrap_i64]; omega
      have BL := Hid.mk' HBL.out.drew
      cases q
      all_goals
        go_wp2_with fail
        go_region_held3 (fun w' => Ext wr.drew w') (first | with_reducible assumption) (first | (go_at_call 8; (with_reducible refine (H4.out _).mono ?_); rintro e wy ⟨rfl, hb⟩; have hsy : Ext wr.drew wy := Ext.trans (by with_reducible assumption) hb) | (go_at_call 6; (with_reducible refine (H5.out _).mono ?_); rintro e wy ⟨rfl, hb⟩; have hsy : Ext wr.drew wy := Ext.trans (by with_reducible assumption) hb) | (go_at_call 9; (with_reducible refine (H6.out _).mono ?_); rintro e wy ⟨rfl, hb⟩; have hsy : Ext wr.drew wy := Ext.trans (by with_reducible assumption) hb) | (go_at_call 10; (with_reducible refine (H7.out _).mono ?_); rintro e wy ⟨rfl, hb⟩; have hsy : Ext wr.drew wy := Ext.trans (by with_reducible assumption) hb))
        all_goals
          have HF := Hid.mk' (BL.out.trans (Below.mono hsy BL.out.size))
          go_wp2
          go_ret
          exact ⟨rfl, HF.out⟩
end Go.Proofs.Ytipdnkkkigmkdaa.H
