/-
  Walk: farlaw.SlcTakes returns true; conditions: 38 bytes, no text longer than an int tells.
-/
import Derived.Test.YtfipmggdpigbkaaKTaken
import Derived.Test.YtfipmggdpigbkaaKText
import Derived.Test.YtfipmggdpigbkaaKEq
namespace Go.Proofs.Ytfipmggdpigbkaa.K
open Go.RowKit Go.Lib Go.Proofs.Ytfipmggdpigbkaa Go.Proofs.Ytfipmggdpigbkaa.W Go.Proofs.Ytfipmggdpigbkaa.Q

attribute [local go_sem ↓] exec_eqlK exec_loadK

set_option maxHeartbeats 16000000 in
theorem SlcTakes_any (k : List UInt8) (hk : k.length = 38) (s : List UInt8) (hz : s.length ≤ 9223372036854775807) (w : World) :
    Calls Try.prog 3 #[KV k, .string (bs s)] w fun e w' => e = .returned (.bool true) ∧ Below w.heap.size w w' := by
  have HZK := Hid.mk' zeroK
  have H1 := Hid.mk' (Take_any k hk s hz)
  have H2 := Hid.mk' (Taken_any k hk s hz)
  have H3 := Hid.mk' (All_any k hk)
  have H4 := Hid.mk' (Text_any k hk)
  have H5 := Hid.mk' (Check_any k hk)
  have H6 := Hid.mk' (KeysRight_any k hk)
  have hx : (takeT k s).1.length = 38 := by rw [takeT_len, hk]
  unfold RK at H1 H2
  unfold RA at H3 H4
  generalize takeT k s = X at *
  generalize allT k = Y at *
  generalize chk k = R at *
  obtain ⟨x, u, e1⟩ := X
  obtain ⟨v, e2⟩ := Y
  dsimp only at *
  have HO0 := Hid.mk' (bcells_one noK)
  have HOx := Hid.mk' (bcells_one x)
  have HSk := Hid.mk' (sizeKV k hk)
  have HSx := Hid.mk' (sizeKV x hx)
  have HNx : Hid ((bcells noK).length = (bcells x).length) := by rw [bcells_length, bcells_length, hx]; rfl
  have hxx := sameK hx
  have HLk : Hid ((bcells k).length = 38) := by rw [bcells_length, hk]; rfl
  have HLx : Hid ((bcells x).length = 38) := by rw [bcells_length, hx]; rfl
  unfold KV at *
  generalize bs s = S at *
  generalize bs u = U at *
  generalize bs v = V at *
  go_enter Try.func3, Try.ntmps3
  have hB0 := Hid.mk' (Below.refl w.heap.size w)
  have le0 : w.heap.size ≤ w.heap.size := Nat.le_refl _
  go_wp2_with (refine wpList_box (bcells k) 24 rfl _ rfl rfl ?_)
  intro w1 mw1
  have ltw1 : w.heap.size < w1.heap.size := mw1.lt
  have hBw1 := Hid.mk' (mw1.below w.heap.size w le0 hB0.out)
  have lew1 : w.heap.size ≤ w1.heap.size := by omega
  have b0_w1 := Hid.mk' mw1.box
  clear mw1 
  go_wp2_with (first | (refine wpList_load_box 24 24 (bcells k) w.heap.size _ Try.underlying24 rfl HSk.out b0_w1.out rfl _ rfl rfl ?_))
  refine (H1.out _).mono ?_
  rintro e w2 ⟨rfl, hw2⟩
  have hBw2 := Hid.mk' (hBw1.out.trans (Below.mono hw2 lew1))
  have szw2 : w1.heap.size ≤ w2.heap.size := hw2.size
  have lew2 : w.heap.size ≤ w2.heap.size := by omega
  have b0_w2 := Hid.mk' (b0_w1.out.later hw2)
  have qb0_w2_w2 : w.heap.size < w2.heap.size := b0_w2.out.lt
  clear hw2 szw2 b0_w1
  go_wp2_with (first | (refine wpList_load_box 24 24 (bcells k) w.heap.size _ Try.underlying24 rfl HSk.out b0_w2.out rfl _ rfl rfl ?_) | (refine wpList_alloc (bcells noK) 24 HZK.out rfl rfl ?_))
  intro w3 mw3
  have ltw3 : w2.heap.size < w3.heap.size := mw3.lt
  have hBw3 := Hid.mk' (mw3.below w.heap.size w lew2 hBw2.out)
  have lew3 : w.heap.size ≤ w3.heap.size := by omega
  have b0_w3 := Hid.mk' (mw3.keep b0_w2.out)
  have lbb0_w3 : w.heap.size < w3.heap.size := by omega
  have b1_w3 := Hid.mk' mw3.box
  clear mw3 b0_w2
  go_wp2_with (first | (refine wpList_load_box 24 24 (bcells k) w.heap.size _ Try.underlying24 rfl HSk.out b0_w3.out rfl _ rfl rfl ?_) | (refine wpList_store_box 24 24 (bcells noK) (bcells x) w2.heap.size HSx.out HOx.out b1_w3.out HNx.out rfl _ _ rfl rfl rfl ?_))
  intro w4 sw4
  have hBw4 := Hid.mk' (sw4.below w.heap.size w (by omega) hBw3.out)
  have szw4 : w4.heap.size = w3.heap.size := sw4.size
  have lew4 : w.heap.size ≤ w4.heap.size := by omega
  have b0_w4 := Hid.mk' (sw4.keep b0_w3.out (by omega))
  have b1_w4 := Hid.mk' sw4.box
  have ltw4 : w3.heap.size < w4.heap.size ∨ True := .inr trivial
  clear sw4 b0_w3 b1_w3
  have qw4 : w2.heap.size < w4.heap.size := b1_w4.out.lt
  clear ltw4 szw4
  go_wp2_with (first | (refine wpList_load_box 24 24 (bcells k) w.heap.size _ Try.underlying24 rfl HSk.out b0_w4.out rfl _ rfl rfl ?_) | (refine wpList_load_box 24 24 (bcells x) w2.heap.size _ Try.underlying24 rfl HSx.out b1_w4.out rfl _ rfl rfl ?_))
  refine (H2.out _).mono ?_
  rintro e w5 ⟨rfl, hw5⟩
  have hBw5 := Hid.mk' (hBw4.out.trans (Below.mono hw5 lew4))
  have szw5 : w4.heap.size ≤ w5.heap.size := hw5.size
  have lew5 : w.heap.size ≤ w5.heap.size := by omega
  have b0_w5 := Hid.mk' (b0_w4.out.later hw5)
  have qb0_w5_w5 : w.heap.size < w5.heap.size := b0_w5.out.lt
  have b1_w5 := Hid.mk' (b1_w4.out.later hw5)
  have qb1_w5_w5 : w2.heap.size < w5.heap.size := b1_w5.out.lt
  clear hw5 szw5 b0_w4 b1_w4
  go_wp2_with (first | (refine wpList_load_box 24 24 (bcells k) w.heap.size _ Try.underlying24 rfl HSk.out b0_w5.out rfl _ rfl rfl ?_) | (refine wpList_load_box 24 24 (bcells x) w2.heap.size _ Try.underlying24 rfl HSx.out b1_w5.out rfl _ rfl rfl ?_) | (refine wpList_alloc (bcells noK) 24 HZK.out rfl rfl ?_))
  intro w6 mw6
  have ltw6 : w5.heap.size < w6.heap.size := mw6.lt
  have hBw6 := Hid.mk' (mw6.below w.heap.size w lew5 hBw5.out)
  have lew6 : w.heap.size ≤ w6.heap.size := by omega
  have b0_w6 := Hid.mk' (mw6.keep b0_w5.out)
  have lbb0_w6 : w.heap.size < w6.heap.size := by omega
  have b1_w6 := Hid.mk' (mw6.keep b1_w5.out)
  have lbb1_w6 : w2.heap.size < w6.heap.size := by omega
  have b2_w6 := Hid.mk' mw6.box
  clear mw6 b0_w5 b1_w5
  go_wp2_with (first | (refine wpList_load_box 24 24 (bcells k) w.heap.size _ Try.underlying24 rfl HSk.out b0_w6.out rfl _ rfl rfl ?_) | (refine wpList_load_box 24 24 (bcells x) w2.heap.size _ Try.underlying24 rfl HSx.out b1_w6.out rfl _ rfl rfl ?_) | (refine wpList_store_box 24 24 (bcells noK) (bcells x) w5.heap.size HSx.out HOx.out b2_w6.out HNx.out rfl _ _ rfl rfl rfl ?_))
  intro w7 sw7
  have hBw7 := Hid.mk' (sw7.below w.heap.size w (by omega) hBw6.out)
  have szw7 : w7.heap.size = w6.heap.size := sw7.size
  have lew7 : w.heap.size ≤ w7.heap.size := by omega
  have b0_w7 := Hid.mk' (sw7.keep b0_w6.out (by omega))
  have b1_w7 := Hid.mk' (sw7.keep b1_w6.out (by omega))
  have b2_w7 := Hid.mk' sw7.box
  have ltw7 : w6.heap.size < w7.heap.size ∨ True := .inr trivial
  clear sw7 b0_w6 b1_w6 b2_w6
  have qw7 : w5.heap.size < w7.heap.size := b2_w7.out.lt
  clear ltw7 szw7
  go_wp2_with (first | (refine wpList_load_box 24 24 (bcells k) w.heap.size _ Try.underlying24 rfl HSk.out b0_w7.out rfl _ rfl rfl ?_) | (refine wpList_load_box 24 24 (bcells x) w2.heap.size _ Try.underlying24 rfl HSx.out b1_w7.out rfl _ rfl rfl ?_) | (refine wpList_load_box 24 24 (bcells x) w5.heap.size _ Try.underlying24 rfl HSx.out b2_w7.out rfl _ rfl rfl ?_))
  refine (H3.out _).mono ?_
  rintro e w8 ⟨rfl, hw8⟩
  have hBw8 := Hid.mk' (hBw7.out.trans (Below.mono hw8 lew7))
  have szw8 : w7.heap.size ≤ w8.heap.size := hw8.size
  have lew8 : w.heap.size ≤ w8.heap.size := by omega
  have b0_w8 := Hid.mk' (b0_w7.out.later hw8)
  have qb0_w8_w8 : w.heap.size < w8.heap.size := b0_w8.out.lt
  have b1_w8 := Hid.mk' (b1_w7.out.later hw8)
  have qb1_w8_w8 : w2.heap.size < w8.heap.size := b1_w8.out.lt
  have b2_w8 := Hid.mk' (b2_w7.out.later hw8)
  have qb2_w8_w8 : w5.heap.size < w8.heap.size := b2_w8.out.lt
  clear hw8 szw8 b0_w7 b1_w7 b2_w7
  go_wp2_with (first | (refine wpList_load_box 24 24 (bcells k) w.heap.size _ Try.underlying24 rfl HSk.out b0_w8.out rfl _ rfl rfl ?_) | (refine wpList_load_box 24 24 (bcells x) w2.heap.size _ Try.underlying24 rfl HSx.out b1_w8.out rfl _ rfl rfl ?_) | (refine wpList_load_box 24 24 (bcells x) w5.heap.size _ Try.underlying24 rfl HSx.out b2_w8.out rfl _ rfl rfl ?_))
  refine (H4.out _).mono ?_
  rintro e w9 ⟨rfl, hw9⟩
  have hBw9 := Hid.mk' (hBw8.out.trans (Below.mono hw9 lew8))
  have szw9 : w8.heap.size ≤ w9.heap.size := hw9.size
  have lew9 : w.heap.size ≤ w9.heap.size := by omega
  have b0_w9 := Hid.mk' (b0_w8.out.later hw9)
  have qb0_w9_w9 : w.heap.size < w9.heap.size := b0_w9.out.lt
  have b1_w9 := Hid.mk' (b1_w8.out.later hw9)
  have qb1_w9_w9 : w2.heap.size < w9.heap.size := b1_w9.out.lt
  have b2_w9 := Hid.mk' (b2_w8.out.later hw9)
  have qb2_w9_w9 : w5.heap.size < w9.heap.size := b2_w9.out.lt
  clear hw9 szw9 b0_w8 b1_w8 b2_w8
  have hE : Ext w9.drew w9.drew := Ext.refl _
  have xk := b0_w9.out.drew
  have xx := b1_w9.out.drew
  have xy := b2_w9.out.drew
  have l0 : ∀ w', Ext w9.drew w' → Lies w' (.pointer (some ⟨w.heap.size, 0, none⟩)) 38 := fun w' h => (xk.later h).lies0 HLk.out
  have r0 : ∀ w', Ext w9.drew w' → Q.rowAt w' (.pointer (some ⟨w.heap.size, 0, none⟩)) 38 = bcells k := fun w' h => (xk.later h).row0 HLk.out
  have l1 : ∀ w', Ext w9.drew w' → Lies w' (.pointer (some ⟨w2.heap.size, 0, none⟩)) 38 := fun w' h => (xx.later h).lies0 HLx.out
  have r1 : ∀ w', Ext w9.drew w' → Q.rowAt w' (.pointer (some ⟨w2.heap.size, 0, none⟩)) 38 = bcells x := fun w' h => (xx.later h).row0 HLx.out
  have l2 : ∀ w', Ext w9.drew w' → Lies w' (.pointer (some ⟨w5.heap.size, 0, none⟩)) 38 := fun w' h => (xy.later h).lies0 HLx.out
  have r2 : ∀ w', Ext w9.drew w' → Q.rowAt w' (.pointer (some ⟨w5.heap.size, 0, none⟩)) 38 = bcells x := fun w' h => (xy.later h).row0 HLx.out
  clear xk xx xy
  have BL := Hid.mk' hBw9.out.drew
  go_wp2_with (first | (refine wpList_load_box 24 24 (bcells k) w.heap.size _ Try.underlying24 rfl HSk.out b0_w9.out rfl _ rfl rfl ?_))
  go_region_held3 (fun w' => Ext w9.drew w') (first | with_reducible assumption) (first | (go_at_call 13; (with_reducible refine (H5.out _).mono ?_); rintro e wy ⟨rfl, hb⟩; have hsy : Ext w9.drew wy := Ext.trans (by with_reducible assumption) hb) | (go_at_call 14; (with_reducible refine (H6.out _).mono ?_); rintro e wy ⟨rfl, hb⟩; have hsy : Ext w9.drew wy := Ext.trans (by with_reducible assumption) hb))
  all_goals
    have HF := Hid.mk' (BL.out.trans (Below.mono hsy BL.out.size))
    go_wp2
    go_ret
    exact ⟨rfl, HF.out⟩
end Go.Proofs.Ytfipmggdpigbkaa.K
