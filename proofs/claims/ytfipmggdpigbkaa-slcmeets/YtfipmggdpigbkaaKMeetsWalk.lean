/-
  Walk: farlaw.SlcMeets returns true; condition: 38 bytes each.
-/
import Derived.Test.YtfipmggdpigbkaaKMet
namespace Go.Proofs.Ytfipmggdpigbkaa.K
open Go.RowKit Go.Lib Go.Proofs.Ytfipmggdpigbkaa Go.Proofs.Ytfipmggdpigbkaa.W Go.Proofs.Ytfipmggdpigbkaa.Q

attribute [local go_sem ↓] exec_eqlK exec_loadK

set_option maxHeartbeats 16000000 in
theorem SlcMeets_any (a : List UInt8) (ha : a.length = 38) (b : List UInt8) (hb : b.length = 38) (w : World) :
    Calls Try.prog 4 #[KV a, KV b] w fun e w' => e = .returned (.bool true) ∧ Below w.heap.size w w' := by
  have HZK := Hid.mk' zeroK
  have H1 := Hid.mk' (Meet_any a b ha hb)
  have H2 := Hid.mk' (Met_any a b ha hb)
  obtain ⟨hx, hy⟩ := meetT_len a b ha hb
  unfold RM at H1 H2
  generalize meetT a b = X at *
  obtain ⟨x, y, n, er⟩ := X
  dsimp only at *
  have HOx := Hid.mk' (bcells_one x)
  have HOy := Hid.mk' (bcells_one y)
  have HSa := Hid.mk' (sizeKV a ha)
  have HSb := Hid.mk' (sizeKV b hb)
  have HS0 := Hid.mk' (sizeKV noK rfl)
  have HSx := Hid.mk' (sizeKV x hx)
  have HSy := Hid.mk' (sizeKV y hy)
  have HNx : Hid ((bcells noK).length = (bcells x).length) := by rw [bcells_length, bcells_length, hx]; rfl
  have HNy : Hid ((bcells noK).length = (bcells y).length) := by rw [bcells_length, bcells_length, hy]; rfl
  have hxx := sameK hx
  have hyy := sameK hy
  unfold KV at *
  go_enter Try.func4, Try.ntmps4
  have hB0 := Hid.mk' (Below.refl w.heap.size w)
  have le0 : w.heap.size ≤ w.heap.size := Nat.le_refl _
  go_wp2_with (refine wpList_box (bcells a) 24 rfl _ rfl rfl ?_)
  intro w1 mw1
  have ltw1 : w.heap.size < w1.heap.size := mw1.lt
  have hBw1 := Hid.mk' (mw1.below w.heap.size w le0 hB0.out)
  have lew1 : w.heap.size ≤ w1.heap.size := by omega
  have b0_w1 := Hid.mk' mw1.box
  clear mw1 
  go_wp2_with (refine wpList_box (bcells b) 24 rfl _ rfl rfl ?_)
  intro w2 mw2
  have ltw2 : w1.heap.size < w2.heap.size := mw2.lt
  have hBw2 := Hid.mk' (mw2.below w.heap.size w lew1 hBw1.out)
  have lew2 : w.heap.size ≤ w2.heap.size := by omega
  have b0_w2 := Hid.mk' (mw2.keep b0_w1.out)
  have lbb0_w2 : w.heap.size < w2.heap.size := by omega
  have b1_w2 := Hid.mk' mw2.box
  clear mw2 b0_w1
  go_wp2_with (first | (refine wpList_load_box 24 24 (bcells a) w.heap.size _ Try.underlying24 rfl HSa.out b0_w2.out rfl _ rfl rfl ?_) | (refine wpList_load_box 24 24 (bcells b) w1.heap.size _ Try.underlying24 rfl HSb.out b1_w2.out rfl _ rfl rfl ?_))
  refine (H1.out _).mono ?_
  rintro e w3 ⟨rfl, hw3⟩
  have hBw3 := Hid.mk' (hBw2.out.trans (Below.mono hw3 lew2))
  have szw3 : w2.heap.size ≤ w3.heap.size := hw3.size
  have lew3 : w.heap.size ≤ w3.heap.size := by omega
  have b0_w3 := Hid.mk' (b0_w2.out.later hw3)
  have qb0_w3_w3 : w.heap.size < w3.heap.size := b0_w3.out.lt
  have b1_w3 := Hid.mk' (b1_w2.out.later hw3)
  have qb1_w3_w3 : w1.heap.size < w3.heap.size := b1_w3.out.lt
  clear hw3 szw3 b0_w2 b1_w2
  go_wp2_with (first | (refine wpList_load_box 24 24 (bcells a) w.heap.size _ Try.underlying24 rfl HSa.out b0_w3.out rfl _ rfl rfl ?_) | (refine wpList_load_box 24 24 (bcells b) w1.heap.size _ Try.underlying24 rfl HSb.out b1_w3.out rfl _ rfl rfl ?_) | (refine wpList_alloc (bcells noK) 24 HZK.out rfl rfl ?_))
  intro w4 mw4
  have ltw4 : w3.heap.size < w4.heap.size := mw4.lt
  have hBw4 := Hid.mk' (mw4.below w.heap.size w lew3 hBw3.out)
  have lew4 : w.heap.size ≤ w4.heap.size := by omega
  have b0_w4 := Hid.mk' (mw4.keep b0_w3.out)
  have lbb0_w4 : w.heap.size < w4.heap.size := by omega
  have b1_w4 := Hid.mk' (mw4.keep b1_w3.out)
  have lbb1_w4 : w1.heap.size < w4.heap.size := by omega
  have b2_w4 := Hid.mk' mw4.box
  clear mw4 b0_w3 b1_w3
  go_wp2_with (first | (refine wpList_load_box 24 24 (bcells a) w.heap.size _ Try.underlying24 rfl HSa.out b0_w4.out rfl _ rfl rfl ?_) | (refine wpList_load_box 24 24 (bcells b) w1.heap.size _ Try.underlying24 rfl HSb.out b1_w4.out rfl _ rfl rfl ?_) | (refine wpList_load_box 24 24 (bcells noK) w3.heap.size _ Try.underlying24 rfl HS0.out b2_w4.out rfl _ rfl rfl ?_) | (refine wpList_alloc (bcells noK) 24 HZK.out rfl rfl ?_))
  intro w5 mw5
  have ltw5 : w4.heap.size < w5.heap.size := mw5.lt
  have hBw5 := Hid.mk' (mw5.below w.heap.size w lew4 hBw4.out)
  have lew5 : w.heap.size ≤ w5.heap.size := by omega
  have b0_w5 := Hid.mk' (mw5.keep b0_w4.out)
  have lbb0_w5 : w.heap.size < w5.heap.size := by omega
  have b1_w5 := Hid.mk' (mw5.keep b1_w4.out)
  have lbb1_w5 : w1.heap.size < w5.heap.size := by omega
  have b2_w5 := Hid.mk' (mw5.keep b2_w4.out)
  have lbb2_w5 : w3.heap.size < w5.heap.size := by omega
  have b3_w5 := Hid.mk' mw5.box
  clear mw5 b0_w4 b1_w4 b2_w4
  go_wp2_with (first | (refine wpList_load_box 24 24 (bcells a) w.heap.size _ Try.underlying24 rfl HSa.out b0_w5.out rfl _ rfl rfl ?_) | (refine wpList_load_box 24 24 (bcells b) w1.heap.size _ Try.underlying24 rfl HSb.out b1_w5.out rfl _ rfl rfl ?_) | (refine wpList_store_box 24 24 (bcells noK) (bcells x) w3.heap.size HSx.out HOx.out b2_w5.out HNx.out rfl _ _ rfl rfl rfl ?_))
  intro w6 sw6
  have hBw6 := Hid.mk' (sw6.below w.heap.size w (by omega) hBw5.out)
  have szw6 : w6.heap.size = w5.heap.size := sw6.size
  have lew6 : w.heap.size ≤ w6.heap.size := by omega
  have b0_w6 := Hid.mk' (sw6.keep b0_w5.out (by omega))
  have b1_w6 := Hid.mk' (sw6.keep b1_w5.out (by omega))
  have b2_w6 := Hid.mk' sw6.box
  have b3_w6 := Hid.mk' (sw6.keep b3_w5.out (by omega))
  have qw6 : w4.heap.size < w6.heap.size := b3_w6.out.lt
  clear sw6 b0_w5 b1_w5 b2_w5 b3_w5
  go_wp2_with (first | (refine wpList_load_box 24 24 (bcells a) w.heap.size _ Try.underlying24 rfl HSa.out b0_w6.out rfl _ rfl rfl ?_) | (refine wpList_load_box 24 24 (bcells b) w1.heap.size _ Try.underlying24 rfl HSb.out b1_w6.out rfl _ rfl rfl ?_) | (refine wpList_load_box 24 24 (bcells x) w3.heap.size _ Try.underlying24 rfl HSx.out b2_w6.out rfl _ rfl rfl ?_) | (refine wpList_store_box 24 24 (bcells noK) (bcells y) w4.heap.size HSy.out HOy.out b3_w6.out HNy.out rfl _ _ rfl rfl rfl ?_))
  intro w7 sw7
  have hBw7 := Hid.mk' (sw7.below w.heap.size w (by omega) hBw6.out)
  have szw7 : w7.heap.size = w6.heap.size := sw7.size
  have lew7 : w.heap.size ≤ w7.heap.size := by omega
  have b0_w7 := Hid.mk' (sw7.keep b0_w6.out (by omega))
  have b1_w7 := Hid.mk' (sw7.keep b1_w6.out (by omega))
  have b2_w7 := Hid.mk' (sw7.keep b2_w6.out (by omega))
  have b3_w7 := Hid.mk' sw7.box
  have qw7 : w4.heap.size < w7.heap.size := b3_w7.out.lt
  clear sw7 b0_w6 b1_w6 b2_w6 b3_w6
  go_wp2_with (first | (refine wpList_load_box 24 24 (bcells a) w.heap.size _ Try.underlying24 rfl HSa.out b0_w7.out rfl _ rfl rfl ?_) | (refine wpList_load_box 24 24 (bcells b) w1.heap.size _ Try.underlying24 rfl HSb.out b1_w7.out rfl _ rfl rfl ?_) | (refine wpList_load_box 24 24 (bcells x) w3.heap.size _ Try.underlying24 rfl HSx.out b2_w7.out rfl _ rfl rfl ?_) | (refine wpList_load_box 24 24 (bcells y) w4.heap.size _ Try.underlying24 rfl HSy.out b3_w7.out rfl _ rfl rfl ?_))
  refine (H2.out _).mono ?_
  rintro e w8 ⟨rfl, hw8⟩
  have hBw8 := Hid.mk' (hBw7.out.trans (Below.mono hw8 lew7))
  have szw8 : w7.heap.size ≤ w8.heap.size := hw8.size
  have lew8 : w.heap.size ≤ w8.heap.size := by omega
  have b0_w8 := Hid.mk' (b0_w7.out.later hw8)
  have qb0_w8_w8 : w.heap.size < w8.heap.size := b0_w8.out.lt
  have b1_w8 := Hid.mk' (b1_w7.out.later hw8)
  have qb1_w8_w8 : w1.heap.size < w8.heap.size := b1_w8.out.lt
  have b2_w8 := Hid.mk' (b2_w7.out.later hw8)
  have qb2_w8_w8 : w3.heap.size < w8.heap.size := b2_w8.out.lt
  have b3_w8 := Hid.mk' (b3_w7.out.later hw8)
  have qb3_w8_w8 : w4.heap.size < w8.heap.size := b3_w8.out.lt
  clear hw8 szw8 b0_w7 b1_w7 b2_w7 b3_w7
  go_wp2_with (first | (refine wpList_load_box 24 24 (bcells a) w.heap.size _ Try.underlying24 rfl HSa.out b0_w8.out rfl _ rfl rfl ?_) | (refine wpList_load_box 24 24 (bcells b) w1.heap.size _ Try.underlying24 rfl HSb.out b1_w8.out rfl _ rfl rfl ?_) | (refine wpList_load_box 24 24 (bcells x) w3.heap.size _ Try.underlying24 rfl HSx.out b2_w8.out rfl _ rfl rfl ?_) | (refine wpList_load_box 24 24 (bcells y) w4.heap.size _ Try.underlying24 rfl HSy.out b3_w8.out rfl _ rfl rfl ?_) | (refine wpList_alloc (bcells noK) 24 HZK.out rfl rfl ?_))
  intro w9 mw9
  have ltw9 : w8.heap.size < w9.heap.size := mw9.lt
  have hBw9 := Hid.mk' (mw9.below w.heap.size w lew8 hBw8.out)
  have lew9 : w.heap.size ≤ w9.heap.size := by omega
  have b0_w9 := Hid.mk' (mw9.keep b0_w8.out)
  have lbb0_w9 : w.heap.size < w9.heap.size := by omega
  have b1_w9 := Hid.mk' (mw9.keep b1_w8.out)
  have lbb1_w9 : w1.heap.size < w9.heap.size := by omega
  have b2_w9 := Hid.mk' (mw9.keep b2_w8.out)
  have lbb2_w9 : w3.heap.size < w9.heap.size := by omega
  have b3_w9 := Hid.mk' (mw9.keep b3_w8.out)
  have lbb3_w9 : w4.heap.size < w9.heap.size := by omega
  have b4_w9 := Hid.mk' mw9.box
  clear mw9 b0_w8 b1_w8 b2_w8 b3_w8
  go_wp2_with (first | (refine wpList_load_box 24 24 (bcells a) w.heap.size _ Try.underlying24 rfl HSa.out b0_w9.out rfl _ rfl rfl ?_) | (refine wpList_load_box 24 24 (bcells b) w1.heap.size _ Try.underlying24 rfl HSb.out b1_w9.out rfl _ rfl rfl ?_) | (refine wpList_load_box 24 24 (bcells x) w3.heap.size _ Try.underlying24 rfl HSx.out b2_w9.out rfl _ rfl rfl ?_) | (refine wpList_load_box 24 24 (bcells y) w4.heap.size _ Try.underlying24 rfl HSy.out b3_w9.out rfl _ rfl rfl ?_) | (refine wpList_load_box 24 24 (bcells noK) w8.heap.size _ Try.underlying24 rfl HS0.out b4_w9.out rfl _ rfl rfl ?_) | (refine wpList_alloc (bcells noK) 24 HZK.out rfl rfl ?_))
  intro w10 mw10
  have ltw10 : w9.heap.size < w10.heap.size := mw10.lt
  have hBw10 := Hid.mk' (mw10.below w.heap.size w lew9 hBw9.out)
  have lew10 : w.heap.size ≤ w10.heap.size := by omega
  have b0_w10 := Hid.mk' (mw10.keep b0_w9.out)
  have lbb0_w10 : w.heap.size < w10.heap.size := by omega
  have b1_w10 := Hid.mk' (mw10.keep b1_w9.out)
  have lbb1_w10 : w1.heap.size < w10.heap.size := by omega
  have b2_w10 := Hid.mk' (mw10.keep b2_w9.out)
  have lbb2_w10 : w3.heap.size < w10.heap.size := by omega
  have b3_w10 := Hid.mk' (mw10.keep b3_w9.out)
  have lbb3_w10 : w4.heap.size < w10.heap.size := by omega
  have b4_w10 := Hid.mk' (mw10.keep b4_w9.out)
  have lbb4_w10 : w8.heap.size < w10.heap.size := by omega
  have b5_w10 := Hid.mk' mw10.box
  clear mw10 b0_w9 b1_w9 b2_w9 b3_w9 b4_w9
  go_wp2_with (first | (refine wpList_load_box 24 24 (bcells a) w.heap.size _ Try.underlying24 rfl HSa.out b0_w10.out rfl _ rfl rfl ?_) | (refine wpList_load_box 24 24 (bcells b) w1.heap.size _ Try.underlying24 rfl HSb.out b1_w10.out rfl _ rfl rfl ?_) | (refine wpList_load_box 24 24 (bcells x) w3.heap.size _ Try.underlying24 rfl HSx.out b2_w10.out rfl _ rfl rfl ?_) | (refine wpList_load_box 24 24 (bcells y) w4.heap.size _ Try.underlying24 rfl HSy.out b3_w10.out rfl _ rfl rfl ?_) | (refine wpList_store_box 24 24 (bcells noK) (bcells x) w8.heap.size HSx.out HOx.out b4_w10.out HNx.out rfl _ _ rfl rfl rfl ?_))
  intro w11 sw11
  have hBw11 := Hid.mk' (sw11.below w.heap.size w (by omega) hBw10.out)
  have szw11 : w11.heap.size = w10.heap.size := sw11.size
  have lew11 : w.heap.size ≤ w11.heap.size := by omega
  have b0_w11 := Hid.mk' (sw11.keep b0_w10.out (by omega))
  have b1_w11 := Hid.mk' (sw11.keep b1_w10.out (by omega))
  have b2_w11 := Hid.mk' (sw11.keep b2_w10.out (by omega))
  have b3_w11 := Hid.mk' (sw11.keep b3_w10.out (by omega))
  have b4_w11 := Hid.mk' sw11.box
  have b5_w11 := Hid.mk' (sw11.keep b5_w10.out (by omega))
  have qw11 : w9.heap.size < w11.heap.size := b5_w11.out.lt
  clear sw11 b0_w10 b1_w10 b2_w10 b3_w10 b4_w10 b5_w10
  go_wp2_with (first | (refine wpList_load_box 24 24 (bcells a) w.heap.size _ Try.underlying24 rfl HSa.out b0_w11.out rfl _ rfl rfl ?_) | (refine wpList_load_box 24 24 (bcells b) w1.heap.size _ Try.underlying24 rfl HSb.out b1_w11.out rfl _ rfl rfl ?_) | (refine wpList_load_box 24 24 (bcells x) w3.heap.size _ Try.underlying24 rfl HSx.out b2_w11.out rfl _ rfl rfl ?_) | (refine wpList_load_box 24 24 (bcells y) w4.heap.size _ Try.underlying24 rfl HSy.out b3_w11.out rfl _ rfl rfl ?_) | (refine wpList_load_box 24 24 (bcells x) w8.heap.size _ Try.underlying24 rfl HSx.out b4_w11.out rfl _ rfl rfl ?_) | (refine wpList_store_box 24 24 (bcells noK) (bcells y) w9.heap.size HSy.out HOy.out b5_w11.out HNy.out rfl _ _ rfl rfl rfl ?_))
  intro w12 sw12
  have hBw12 := Hid.mk' (sw12.below w.heap.size w (by omega) hBw11.out)
  have szw12 : w12.heap.size = w11.heap.size := sw12.size
  have lew12 : w.heap.size ≤ w12.heap.size := by omega
  have b0_w12 := Hid.mk' (sw12.keep b0_w11.out (by omega))
  have b1_w12 := Hid.mk' (sw12.keep b1_w11.out (by omega))
  have b2_w12 := Hid.mk' (sw12.keep b2_w11.out (by omega))
  have b3_w12 := Hid.mk' (sw12.keep b3_w11.out (by omega))
  have b4_w12 := Hid.mk' (sw12.keep b4_w11.out (by omega))
  have b5_w12 := Hid.mk' sw12.box
  have qw12 : w9.heap.size < w12.heap.size := b5_w12.out.lt
  clear sw12 b0_w11 b1_w11 b2_w11 b3_w11 b4_w11 b5_w11
  have li0 := b0_w12.out.lies0 (n := 38) (by have h := HSa.out; rw [sizeK] at h; exact (Option.some.inj h).symm)
  have ri0 := b0_w12.out.row0 (n := 38) (by have h := HSa.out; rw [sizeK] at h; exact (Option.some.inj h).symm)
  have li1 := b1_w12.out.lies0 (n := 38) (by have h := HSb.out; rw [sizeK] at h; exact (Option.some.inj h).symm)
  have ri1 := b1_w12.out.row0 (n := 38) (by have h := HSb.out; rw [sizeK] at h; exact (Option.some.inj h).symm)
  have li2 := b2_w12.out.lies0 (n := 38) (by have h := HSx.out; rw [sizeK] at h; exact (Option.some.inj h).symm)
  have ri2 := b2_w12.out.row0 (n := 38) (by have h := HSx.out; rw [sizeK] at h; exact (Option.some.inj h).symm)
  have li3 := b3_w12.out.lies0 (n := 38) (by have h := HSy.out; rw [sizeK] at h; exact (Option.some.inj h).symm)
  have ri3 := b3_w12.out.row0 (n := 38) (by have h := HSy.out; rw [sizeK] at h; exact (Option.some.inj h).symm)
  have li4 := b4_w12.out.lies0 (n := 38) (by have h := HSx.out; rw [sizeK] at h; exact (Option.some.inj h).symm)
  have ri4 := b4_w12.out.row0 (n := 38) (by have h := HSx.out; rw [sizeK] at h; exact (Option.some.inj h).symm)
  have li5 := b5_w12.out.lies0 (n := 38) (by have h := HSy.out; rw [sizeK] at h; exact (Option.some.inj h).symm)
  have ri5 := b5_w12.out.row0 (n := 38) (by have h := HSy.out; rw [sizeK] at h; exact (Option.some.inj h).symm)
  go_wp2_with (first | (refine wpList_load_box 24 24 (bcells a) w.heap.size _ Try.underlying24 rfl HSa.out b0_w12.out rfl _ rfl rfl ?_) | (refine wpList_load_box 24 24 (bcells b) w1.heap.size _ Try.underlying24 rfl HSb.out b1_w12.out rfl _ rfl rfl ?_) | (refine wpList_load_box 24 24 (bcells x) w3.heap.size _ Try.underlying24 rfl HSx.out b2_w12.out rfl _ rfl rfl ?_) | (refine wpList_load_box 24 24 (bcells y) w4.heap.size _ Try.underlying24 rfl HSy.out b3_w12.out rfl _ rfl rfl ?_) | (refine wpList_load_box 24 24 (bcells x) w8.heap.size _ Try.underlying24 rfl HSx.out b4_w12.out rfl _ rfl rfl ?_) | (refine wpList_load_box 24 24 (bcells y) w9.heap.size _ Try.underlying24 rfl HSy.out b5_w12.out rfl _ rfl rfl ?_))
  go_ret
  exact ⟨rfl, hBw12.out⟩
end Go.Proofs.Ytfipmggdpigbkaa.K
