/-
  Walk: farlaw.MaskWrites returns true; conditions: four words of 64 bits, a text of at most 2^60 bytes.
-/
import Derived.Test.YtipdnkkkigmkdaaDoorHTM
import Derived.Test.YtipdnkkkigmkdaaDoorHMT
import Derived.Test.YtipdnkkkigmkdaaDoorHReg
import Derived.Test.YtipdnkkkigmkdaaDoorHEq
namespace Go.Proofs.YtipdnkkkigmkdaaDoor.H
open Go.RowKit Go.Lib Go.Proofs.YtipdnkkkigmkdaaDoor Go.Proofs.YtipdnkkkigmkdaaDoor.W Go.Proofs.YtipdnkkkigmkdaaDoor.Q

attribute [local go_sem ↓] exec_eqlM exec_loadM

set_option maxHeartbeats 16000000 in
set_option maxRecDepth 100000 in
theorem MaskWrites_any (M : List Nat) (hM : okW M) (l : List UInt8) (hl : l.length ≤ 1152921504606846976) (w : World) :
    Calls Tryd.prog 3 #[MV M, .string (bs l)] w fun e w' => e = .returned (.bool true) ∧ Below w.heap.size w w' := by
  have H1 := Hid.mk' (Read_any l (by omega))
  have H2 := Hid.mk' (TextMask_any l hl)
  have H3 := Hid.mk' (Write_any M hM)
  have H4 := Hid.mk' (MaskText_any M hM)
  have hok := readT_ok l
  unfold RT at H1 H2
  generalize readT l = X at *
  obtain ⟨x, er⟩ := X
  dsimp only at *
  have HSM := Hid.mk' (sizeMV hM)
  have HSX := Hid.mk' (sizeMV hok)
  have HLM : Hid ((ucells M).length = 4) := by rw [Hid, ucells_length, hM.1]
  have HLX : Hid ((ucells x).length = 4) := by rw [Hid, ucells_length, hok.1]
  have HOX := Hid.mk' (ucells_one x)
  have hxx := sameM hok.1
  unfold MV at *
  generalize bs l = S at *
  generalize bs (textOf M) = R at *
  go_enter Tryd.func3, Tryd.ntmps3
  go_wp2_with (refine wpList_box (ucells M) 25 rfl _ rfl rfl ?_)
  intro w1 m1
  have z1 := m1.lt
  have b1 := m1.box
  have HB1 := Hid.mk' (m1.below _ _ (Nat.le_refl _) (Below.refl _ w))
  clear m1
  go_wp2_with fail
  refine (H1.out _).mono ?_
  rintro e w2 ⟨rfl, h2⟩
  have b2 := b1.later h2
  have z2 := h2.size
  have HB2 := Hid.mk' (HB1.out.trans (h2.mono (by omega)))
  clear h2 b1 HB1 H1
  go_wp2_with (refine wpList_alloc (ucells noW) 25 zeroM rfl rfl ?_)
  intro w3 m3
  have z3 := m3.lt
  have b3 := m3.keep b2
  have HB3 := Hid.mk' (m3.below w.heap.size _ (by omega) HB2.out)
  go_wp2_with (refine wpList_store_box 25 25 (ucells noW) (ucells x) w2.heap.size HSX.out HOX.out m3.box (by rw [HLX.out]; rfl) rfl _ _ rfl rfl rfl ?_)
  intro w4 s4
  have b4 := s4.keep b3 (by omega)
  have c4 := s4.box
  have z4 := s4.size
  have HB4 := Hid.mk' (s4.below w.heap.size _ (by omega) HB3.out)
  clear m3 s4 b2 b3 HB2 HB3
  go_wp2_with fail
  refine (H2.out _).mono ?_
  rintro e w5 ⟨rfl, h5⟩
  have b5 := b4.later h5
  have c5 := c4.later h5
  have z5 := h5.size
  have HB5 := Hid.mk' (HB4.out.trans (h5.mono (by omega)))
  clear h5 b4 c4 HB4 H2
  go_wp2_with (refine wpList_alloc (ucells noW) 25 zeroM rfl rfl ?_)
  intro w6 m6
  have z6 := m6.lt
  have b6 := m6.keep b5
  have c6 := m6.keep c5
  have HB6 := Hid.mk' (m6.below w.heap.size _ (by omega) HB5.out)
  go_wp2_with (refine wpList_store_box 25 25 (ucells noW) (ucells x) w5.heap.size HSX.out HOX.out m6.box (by rw [HLX.out]; rfl) rfl _ _ rfl rfl rfl ?_)
  intro w7 s7
  have b7 := Hid.mk' (s7.keep b6 (by omega)).drew
  have c7 := Hid.mk' (s7.keep c6 (by omega)).drew
  have d7 := Hid.mk' s7.box.drew
  have BL := Hid.mk' (s7.below w.heap.size _ (by omega) HB6.out).drew
  clear m6 s7 b5 b6 c5 c6 HB5 HB6
  have hE : Ext w7.drew w7.drew := Ext.refl _
  have l0 : ∀ w', Ext w7.drew w' → Lies w' (.pointer (some ⟨w.heap.size, 0, none⟩)) 4 := fun w' h => (b7.out.later h).lies0 HLM.out
  have r0 : ∀ w', Ext w7.drew w' → Q.rowAt w' (.pointer (some ⟨w.heap.size, 0, none⟩)) 4 = ucells M := fun w' h => (b7.out.later h).row0 HLM.out
  have l1 : ∀ w', Ext w7.drew w' → Lies w' (.pointer (some ⟨w2.heap.size, 0, none⟩)) 4 := fun w' h => (c7.out.later h).lies0 HLX.out
  have r1 : ∀ w', Ext w7.drew w' → Q.rowAt w' (.pointer (some ⟨w2.heap.size, 0, none⟩)) 4 = ucells x := fun w' h => (c7.out.later h).row0 HLX.out
  have l2 : ∀ w', Ext w7.drew w' → Lies w' (.pointer (some ⟨w5.heap.size, 0, none⟩)) 4 := fun w' h => (d7.out.later h).lies0 HLX.out
  have r2 : ∀ w', Ext w7.drew w' → Q.rowAt w' (.pointer (some ⟨w5.heap.size, 0, none⟩)) 4 = ucells x := fun w' h => (d7.out.later h).row0 HLX.out
  go_wp2_with fail
  go_region_held3 (fun w' => Ext w7.drew w') (first | with_reducible assumption) (first | (go_at_call 7; (with_reducible refine (H3.out _).mono ?_); rintro e wy ⟨rfl, hb⟩; have hsy : Ext w7.drew wy := Ext.trans (by with_reducible assumption) hb) | (go_at_call 8; (with_reducible refine (H4.out _).mono ?_); rintro e wy ⟨rfl, hb⟩; have hsy : Ext w7.drew wy := Ext.trans (by with_reducible assumption) hb))
  all_goals
    have HF := Hid.mk' (BL.out.trans (Below.mono hsy BL.out.size))
    go_wp2
    go_ret
    exact ⟨rfl, HF.out⟩
end Go.Proofs.YtipdnkkkigmkdaaDoor.H
