/-
  Walk: farkeep.MaskBack returns true; conditions: four words of 64 bits, a text of at most 2^60 bytes.
-/
import Derived.Test.YtipdnkkkigmkdaaDoorHRead
import Derived.Test.YtipdnkkkigmkdaaDoorHOf
import Derived.Test.YtipdnkkkigmkdaaDoorHBytes
import Derived.Test.YtipdnkkkigmkdaaDoorHLives
import Derived.Test.YtipdnkkkigmkdaaDoorHEq
import Derived.Test.YtipdnkkkigmkdaaDoorHShelf
namespace Go.Proofs.YtipdnkkkigmkdaaDoor.H
open Go.RowKit Go.Lib Go.Proofs.YtipdnkkkigmkdaaDoor Go.Proofs.YtipdnkkkigmkdaaDoor.W Go.Proofs.YtipdnkkkigmkdaaDoor.Q

attribute [local go_sem ↓] exec_eqlM exec_neqM exec_loadM

theorem rep_zero : ∀ n, Lib.repeatL [0] n = List.replicate n (0 : UInt8)
  | 0 => rfl
  | n + 1 => by
    have h := rep_zero n
    simp only [Lib.repeatL, List.replicate_succ] at *
    simp [h]

set_option maxHeartbeats 16000000 in
set_option maxRecDepth 100000 in
theorem MaskBack_any (M : List Nat) (hM : okW M) (l : List UInt8) (hl : l.length ≤ 1152921504606846976) (w : World) :
    Calls Tryd.prog 4 #[MV M, .string (bs l)] w fun e w' => e = .returned (.bool true) ∧ Below w.heap.size w w' := by
  have hT := textOf_len M
  have HW := Hid.mk' (Write_any M hM)
  have HL := Hid.mk' lives_any
  have H1 : Hid (∀ w, Calls Tryd.prog 5 #[.string (bs (textOf M))] w fun e w' => e = .returned (.tuple #[MV M, .int .i64 0]) ∧ Below w.heap.size w w') := fun w => by
    have h := Read_any (textOf M) (by omega) w
    have e : readT (textOf M) = (M, 0) := by unfold readT; rw [if_pos hT, read_text hM]
    rw [e] at h
    exact h
  have H2 : Hid (∀ w, Calls Tryd.prog 5 #[.string (bs (textOf M ++ List.replicate (32 - (textOf M).length) 0))] w fun e w' => e = .returned (.tuple #[MV M, .int .i64 0]) ∧ Below w.heap.size w w') := fun w => by
    have hlen : (textOf M ++ List.replicate (32 - (textOf M).length) 0).length ≤ 32 := by simp; omega
    have h := Read_any (textOf M ++ List.replicate (32 - (textOf M).length) 0) (by omega) w
    have e : readT (textOf M ++ List.replicate (32 - (textOf M).length) 0) = (M, 0) := by unfold readT; rw [if_pos hlen, read_more hM _ (by omega)]
    rw [e] at h
    exact h
  have HRP : Hid (∀ W, Calls Tryd.prog 13 #[.string { data := #[0] }, .int .i64 (32 - ((textOf M).length : Int))] W fun e w' => e = .returned (.string (bs (List.replicate (32 - (textOf M).length) 0))) ∧ Below W.heap.size W w') := fun W => by
    have h := Tryd.strings_Repeat { data := #[0] } (32 - (textOf M).length) W (by omega) (by show 1 * (32 - (textOf M).length) ≤ 140737488355328; omega)
    rw [show ({ data := #[0] } : ByteArray).data.toList = [0] from rfl, rep_zero] at h
    rw [show ((32 - (textOf M).length : Nat) : Int) = 32 - ((textOf M).length : Int) by omega] at h
    exact h
  have HSU := Hid.mk' (HasSuffix_no (textOf M) (by omega) (fun h => trim_no_end (rowOf M) h))
  have HBY := Hid.mk' (Bytes_any M hM)
  have HOF : Hid (∀ w, Calls Tryd.prog 11 #[.string (bs (bytesOf M))] w fun e w' => e = .returned (MV M) ∧ Below w.heap.size w w') := fun w => by
    have h := Of_any (bytesOf M) (Nat.le_trans (bytesN_len M 256) (by decide)) w
    rw [of_bytes hM] at h
    exact h
  have HSM := Hid.mk' (sizeMV hM)
  have HLM : Hid ((ucells M).length = 4) := by rw [Hid, ucells_length, hM.1]
  have HOM := Hid.mk' (ucells_one M)
  have hmm := sameM hM.1
  have hz : (bs (textOf M)).size = (textOf M).length := bs_size _
  have hz2 : (bs (List.replicate (32 - (textOf M).length) 0)).size = 32 - (textOf M).length := by rw [bs_size]; simp
  have HAP : Hid (bs (textOf M) ++ bs (List.replicate (32 - (textOf M).length) 0) = bs (textOf M ++ List.replicate (32 - (textOf M).length) 0)) := bs_app _ _
  rw [← HAP.out] at H2
  unfold MV at *
  generalize bs (List.replicate (32 - (textOf M).length) 0) = RP at *
  generalize bs (textOf M) = T at *
  generalize bs (bytesOf M) = BY at *
  generalize (textOf M).length = tl at *
  have HRL := Hid.mk' (Read_any l (by omega))
  unfold RT at HRL
  clear HAP
  go_enter Tryd.func4, Tryd.ntmps4
  go_wp2_with (refine wpList_box (ucells M) 25 rfl _ rfl rfl ?_)
  intro w1 m1
  have z1 := m1.lt
  have b1 := m1.box
  have HB1 := Hid.mk' (m1.below _ _ (Nat.le_refl _) (Below.refl _ w))
  clear m1
  go_wp2_with (with_reducible refine wpList_load_box 25 25 (ucells M) w.heap.size _ Tryd.underlying25 rfl HSM.out b1 rfl _ rfl rfl ?_)
  refine (HW.out _).mono ?_
  rintro e w2 ⟨rfl, h2⟩
  have b2 := b1.later h2
  have HB2 := Hid.mk' (HB1.out.trans (h2.mono (by omega)))
  have z2 := HB2.out.size
  clear h2 b1 HB1 HW
  go_wp2_with fail
  refine (H1.out _).mono ?_
  rintro e w3 ⟨rfl, h3⟩
  have b3 := b2.later h3
  have HB3 := Hid.mk' (HB2.out.trans (h3.mono (by omega)))
  have z3 := HB3.out.size
  clear h3 b2 HB2 H1
  go_wp2_with (refine wpList_alloc (ucells noW) 25 zeroM rfl rfl ?_)
  intro w4 m4
  have z4 := m4.lt
  have b4 := m4.keep b3
  have y4 := b4.lt
  have HB4 := Hid.mk' (m4.below w.heap.size _ z3 HB3.out)
  go_wp2_with (refine wpList_store_box 25 25 (ucells noW) (ucells M) w3.heap.size HSM.out HOM.out m4.box (by rw [HLM.out]; rfl) rfl _ _ rfl rfl rfl ?_)
  intro w5 s5
  have b5 := Hid.mk' (s5.keep b4 (by have := b3.lt; omega)).drew
  have c5 := Hid.mk' s5.box.drew
  have BL := Hid.mk' (s5.below w.heap.size _ z3 HB4.out).drew
  clear m4 s5 b3 b4 HB3 HB4
  have hE : Ext w5.drew w5.drew := Ext.refl _
  have l0 : ∀ w', Ext w5.drew w' → Lies w' (.pointer (some ⟨w.heap.size, 0, none⟩)) 4 := fun w' h => (b5.out.later h).lies0 HLM.out
  have r0 : ∀ w', Ext w5.drew w' → Q.rowAt w' (.pointer (some ⟨w.heap.size, 0, none⟩)) 4 = ucells M := fun w' h => (b5.out.later h).row0 HLM.out
  have l1 : ∀ w', Ext w5.drew w' → Lies w' (.pointer (some ⟨w3.heap.size, 0, none⟩)) 4 := fun w' h => (c5.out.later h).lies0 HLM.out
  have r1 : ∀ w', Ext w5.drew w' → Q.rowAt w' (.pointer (some ⟨w3.heap.size, 0, none⟩)) 4 = ucells M := fun w' h => (c5.out.later h).row0 HLM.out
  have hlen : ¬ (32 : Int) < (tl : Int) := by omega
  have hlen2 : decide ((32 : Int) < (tl : Int)) = false := decide_eq_false hlen
  go_wp2_with fail
  go_region_held3 (fun w' => Ext w5.drew w') (first | with_reducible assumption) (first | (go_at_call 9; (with_reducible refine (HL.out _).mono ?_); rintro e wy ⟨rfl, hb⟩; have hsy : Ext w5.drew wy := Ext.trans (by with_reducible assumption) hb) | (go_at_call 10; (with_reducible refine (HSU.out _).mono ?_); rintro e wy ⟨rfl, rfl⟩) | (go_at_call 12; (with_reducible refine (HBY.out _).mono ?_); rintro e wy ⟨rfl, hb⟩; have hsy : Ext w5.drew wy := Ext.trans (by with_reducible assumption) hb) | (go_at_call 11; (with_reducible refine (HOF.out _).mono ?_); rintro e wy ⟨rfl, hb⟩; have hsy : Ext w5.drew wy := Ext.trans (by with_reducible assumption) hb))
  have b6 := b5.out.later hsy
  have HB6 := Hid.mk' (BL.out.trans (Below.mono hsy BL.out.size))
  have z6 := HB6.out.size
  clear hE l0 r0 l1 r1 b5 c5 BL HL HSU HBY HOF hb
  generalize hwy : wy = w6 at *
  clear hwy hsy
  have q1 : (0 : Int) ≤ 32 - (tl : Int) := by omega
  go_wp2_with fail
  refine (HRP.out _).mono ?_
  rintro e w7 ⟨rfl, h7⟩
  have b7 := b6.later h7
  have HB7 := Hid.mk' (HB6.out.trans (h7.mono z6))
  have z7 := HB7.out.size
  clear h7 b6 HB6 HRP
  go_wp2_with fail
  refine (H2.out _).mono ?_
  rintro e w8 ⟨rfl, h8⟩
  have b8 := b7.later h8
  have HB8 := Hid.mk' (HB7.out.trans (h8.mono z7))
  have z8 := HB8.out.size
  clear h8 b7 HB7 H2
  go_wp2_with (refine wpList_alloc (ucells noW) 25 zeroM rfl rfl ?_)
  intro w9 m9
  have z9 := m9.lt
  have b9 := m9.keep b8
  have y9 := b8.lt
  have HB9 := Hid.mk' (m9.below w.heap.size _ z8 HB8.out)
  go_wp2_with (refine wpList_store_box 25 25 (ucells noW) (ucells M) w8.heap.size HSM.out HOM.out m9.box (by rw [HLM.out]; rfl) rfl _ _ rfl rfl rfl ?_)
  intro w10 s10
  have b10 := s10.keep b9 (by omega)
  have c10 := s10.box
  have HB10 := Hid.mk' (s10.below w.heap.size _ z8 HB9.out)
  have z10 := HB10.out.size
  clear m9 s10 b8 b9 HB8 HB9
  have l0 := b10.lies0 HLM.out
  have r0 := b10.row0 HLM.out
  have l1 := c10.lies0 HLM.out
  have r1 := c10.row0 HLM.out
  have HSL := bs_size l
  by_cases hl2 : l.length ≤ 32
  · have e : readT l = (readW l, 0) := by unfold readT; rw [if_pos hl2]
    rw [e] at HRL
    dsimp only at HRL
    clear e
    have hok := ok_readW l
    have HWX := Hid.mk' (Write_any (readW l) hok)
    rw [text_read l hl2] at HWX
    have HTR := Hid.mk' (TrimRight_any l (by omega))
    have HSX := Hid.mk' (sizeMV hok)
    have HLX : Hid ((ucells (readW l)).length = 4) := by rw [Hid, ucells_length, hok.1]
    have HOX := Hid.mk' (ucells_one (readW l))
    unfold MV at *
    generalize bs (trimRightB l 0) = R at *
    generalize ucells (readW l) = x at *
    generalize bs l = S at *
    go_wp2_with fail
    refine (HRL.out _).mono ?_
    rintro e w11 ⟨rfl, h11⟩
    have HB11 := Hid.mk' (HB10.out.trans (h11.mono z10))
    have z11 := HB11.out.size
    clear h11 l0 r0 l1 r1 b10 c10 HB10
    go_wp2_with (refine wpList_alloc (ucells noW) 25 zeroM rfl rfl ?_)
    intro w12 m12
    have HB12 := Hid.mk' (m12.below w.heap.size _ z11 HB11.out)
    go_wp2_with (refine wpList_store_box 25 25 (ucells noW) x w11.heap.size HSX.out HOX.out m12.box (by rw [HLX.out]; rfl) rfl _ _ rfl rfl rfl ?_)
    intro w13 s13
    have b13 := s13.box
    have HB13 := Hid.mk' (s13.below w.heap.size _ z11 HB12.out)
    have z13 := HB13.out.size
    clear m12 s13 HB11 HB12
    have l2 := b13.lies0 HLX.out
    have r2 := b13.row0 HLX.out
    go_wp2_with fail
    refine (HWX.out _).mono ?_
    rintro e w14 ⟨rfl, h14⟩
    have HB14 := Hid.mk' (HB13.out.trans (h14.mono z13))
    clear h14 l2 r2 b13 HB13
    go_wp2_with fail
    refine (HTR.out _).mono ?_
    rintro e w15 ⟨rfl, rfl⟩
    go_wp2
    go_ret
    exact ⟨rfl, HB14.out⟩
  · have e : readT l = (noW, 2) := by unfold readT; rw [if_neg hl2]
    rw [e] at HRL
    dsimp only at HRL
    clear e
    have HSX := Hid.mk' (sizeMV ok_noW)
    have HLX : Hid ((ucells noW).length = 4) := rfl
    have HOX := Hid.mk' (ucells_one noW)
    have HZX := Hid.mk' zeroM
    have h32 : (32 : Int) < (l.length : Int) := by omega
    have h32d : decide ((32 : Int) < (l.length : Int)) = true := decide_eq_true h32
    unfold MV at *
    generalize ucells noW = x at *
    generalize bs l = S at *
    go_wp2_with fail
    refine (HRL.out _).mono ?_
    rintro e w11 ⟨rfl, h11⟩
    have HB11 := Hid.mk' (HB10.out.trans (h11.mono z10))
    have z11 := HB11.out.size
    clear h11 l0 r0 l1 r1 b10 c10 HB10
    go_wp2_with (refine wpList_alloc x 25 HZX.out rfl rfl ?_)
    intro w12 m12
    have HB12 := Hid.mk' (m12.below w.heap.size _ z11 HB11.out)
    go_wp2_with (refine wpList_store_box 25 25 x x w11.heap.size HSX.out HOX.out m12.box rfl rfl _ _ rfl rfl rfl ?_)
    intro w13 s13
    have HB13 := Hid.mk' (s13.below w.heap.size _ z11 HB12.out)
    clear m12 s13 HB11 HB12
    go_wp2
    go_ret
    exact ⟨rfl, HB13.out⟩
end Go.Proofs.YtipdnkkkigmkdaaDoor.H
