/-
  Walk: farkeep.SlcCuts returns true; conditions: 38 bytes, texts of at most 2^47 bytes.
-/
import Derived.Test.YtfipmggdpigbkaaKLives
namespace Go.Proofs.Ytfipmggdpigbkaa.K
open Go.RowKit Go.Lib Go.Proofs.Ytfipmggdpigbkaa Go.Proofs.Ytfipmggdpigbkaa.W Go.Proofs.Ytfipmggdpigbkaa.Q

theorem takeT_er (k d : List UInt8) : (takeT k d).2.2 = 0 ∨ (takeT k d).2.2 = 4 ∨ (takeT k d).2.2 = 2 := by
  unfold takeT
  repeat' split
  all_goals simp
theorem takeT_zero {k d : List UInt8} (h : (takeT k d).2.2 = 0) : right k = true ∧ d.length % 3 = 0 ∧ d.length ≤ 300 ∧ takeT k d = ((run k d).1, (run k d).2, 0) := by
  unfold takeT at *
  split at h
  · split at h
    · split at h
      · rename_i h1 h2 h3
        exact ⟨h1, h2, h3, by rw [if_pos h1, if_pos h2, if_pos h3]⟩
      · cases h
    · cases h
  · cases h
theorem takeT_two (k a b : List UInt8) (h1 : (takeT k a).2.2 = 0) (h2 : (takeT (takeT k a).1 b).2.2 = 0) (h3 : a.length + b.length ≤ 300) :
    takeT k (a ++ b) = ((takeT (takeT k a).1 b).1, (takeT k a).2.1 ++ (takeT (takeT k a).1 b).2.1, 0) := by
  obtain ⟨r1, l1, _, e1⟩ := takeT_zero h1
  obtain ⟨r2, l2, _, e2⟩ := takeT_zero h2
  rw [e2, e1]
  unfold takeT
  rw [if_pos r1, if_pos (by rw [List.length_append]; omega), if_pos (by rw [List.length_append]; omega), run_two k a b l1]

attribute [local go_sem ↓] exec_eqlK exec_loadK

set_option maxHeartbeats 8000000 in
theorem Cuts_no (k : List UInt8) (hk : k.length = 38) (a b : List UInt8) (ha : a.length ≤ 140737488355328) (hb : b.length ≤ 140737488355328) (er : Int) (her : (er = 4 ∨ er = 2) ∧ ((takeT k a).2.2 = er ∨ ((takeT k a).2.2 = 0 ∧ (takeT (takeT k a).1 b).2.2 = er))) (w : World) :
    Calls Try.prog 8 #[KV k, .string (bs a), .string (bs b)] w fun e w' => e = .returned (.bool true) ∧ Below w.heap.size w w' := by
  have HZK := Hid.mk' zeroK
  have HLV := Hid.mk' lives_any
  have H1 := Hid.mk' (Take_any k hk a (by omega))
  have hx : (takeT k a).1.length = 38 := by rw [takeT_len, hk]
  have H2 := Hid.mk' (Take_any (takeT k a).1 hx b (by omega))
  have hy : (takeT (takeT k a).1 b).1.length = 38 := by rw [takeT_len, hx]
  have H3 := Hid.mk' (Take_any k hk (a ++ b) (by rw [List.length_append]; omega))
  have hz : (takeT k (a ++ b)).1.length = 38 := by rw [takeT_len, hk]
  rw [← bs_app] at H3
  have hsa := bs_size a
  have hsb := bs_size b
  have hc : ¬ (9223372036854775807 < (bs a).size + (bs b).size) := by omega
  have hc1 : (bs a).size ≤ 140737488355328 := by omega
  have hc2 : (bs b).size ≤ 140737488355328 := by omega
  unfold RK at H1 H2 H3
  generalize (takeT k (a ++ b)) = Z at *
  generalize (takeT (takeT k a).1 b) = Y at *
  generalize (takeT k a) = X at *
  obtain ⟨x, s, e1⟩ := X
  obtain ⟨y, u, e2⟩ := Y
  obtain ⟨z, v, e3⟩ := Z
  dsimp only at *
  have HO0 := Hid.mk' (bcells_one noK)
  have HOx := Hid.mk' (bcells_one x)
  have HOy := Hid.mk' (bcells_one y)
  have HOz := Hid.mk' (bcells_one z)
  have HSk := Hid.mk' (sizeKV k hk)
  have HSx := Hid.mk' (sizeKV x hx)
  have HSy := Hid.mk' (sizeKV y hy)
  have HSz := Hid.mk' (sizeKV z hz)
  have HNx : Hid ((bcells noK).length = (bcells x).length) := by rw [bcells_length, bcells_length, hx]; rfl
  have HNy : Hid ((bcells noK).length = (bcells y).length) := by rw [bcells_length, bcells_length, hy]; rfl
  have HNz : Hid ((bcells noK).length = (bcells z).length) := by rw [bcells_length, bcells_length, hz]; rfl
  have hyz := sameK hy
  unfold KV at *
  generalize bs a = A at *
  generalize bs b = B at *
  clear ha hb hsa hsb
  obtain ⟨h4, h5⟩ := her
  rcases h4 with rfl | rfl <;> rcases h5 with rfl | ⟨rfl, rfl⟩
  all_goals
    go_enter Try.func8, Try.ntmps8
    have hB0 := Hid.mk' (Below.refl w.heap.size w)
    have le0 : w.heap.size ≤ w.heap.size := Nat.le_refl _
    go_wp2_with (refine wpList_box (bcells k) 24 rfl _ rfl rfl ?_)
    intro w1 mw1
    have ltw1 : w.heap.size < w1.heap.size := mw1.lt
    have hBw1 := Hid.mk' (mw1.below w.heap.size w le0 hB0.out)
    have lew1 : w.heap.size ≤ w1.heap.size := by omega
    have b0_w1 := Hid.mk' mw1.box
    clear mw1 
    go_wp2_with (first | (refine wpList_load_box 24 24 (bcells k) w.heap.size _ Try.underlying24 rfl HSk.out b0_w1.out rfl _ rfl rfl ?_))
    refine (H1.out _).mono ?_
    rintro e w2 ⟨rfl, hw2⟩
    have hBw2 := Hid.mk' (hBw1.out.trans (Below.mono hw2 lew1))
    have szw2 : w1.heap.size ≤ w2.heap.size := hw2.size
    have lew2 : w.heap.size ≤ w2.heap.size := by omega
    have b0_w2 := Hid.mk' (b0_w1.out.later hw2)
    have qb0_w2_w2 : w.heap.size < w2.heap.size := b0_w2.out.lt
    clear hw2 szw2 b0_w1
    go_wp2_with (first | (refine wpList_load_box 24 24 (bcells k) w.heap.size _ Try.underlying24 rfl HSk.out b0_w2.out rfl _ rfl rfl ?_) | (refine wpList_alloc (bcells noK) 24 HZK.out rfl rfl ?_))
    intro w3 mw3
    have ltw3 : w2.heap.size < w3.heap.size := mw3.lt
    have hBw3 := Hid.mk' (mw3.below w.heap.size w lew2 hBw2.out)
    have lew3 : w.heap.size ≤ w3.heap.size := by omega
    have b0_w3 := Hid.mk' (mw3.keep b0_w2.out)
    have lbb0_w3 : w.heap.size < w3.heap.size := by omega
    have b1_w3 := Hid.mk' mw3.box
    clear mw3 b0_w2
    go_wp2_with (first | (refine wpList_load_box 24 24 (bcells k) w.heap.size _ Try.underlying24 rfl HSk.out b0_w3.out rfl _ rfl rfl ?_) | (refine wpList_store_box 24 24 (bcells noK) (bcells x) w2.heap.size HSx.out HOx.out b1_w3.out HNx.out rfl _ _ rfl rfl rfl ?_))
    intro w4 sw4
    have hBw4 := Hid.mk' (sw4.below w.heap.size w (by omega) hBw3.out)
    have szw4 : w4.heap.size = w3.heap.size := sw4.size
    have lew4 : w.heap.size ≤ w4.heap.size := by omega
    have b0_w4 := Hid.mk' (sw4.keep b0_w3.out (by omega))
    have b1_w4 := Hid.mk' sw4.box
    have ltw4 : w3.heap.size < w4.heap.size ∨ True := .inr trivial
    clear sw4 b0_w3 b1_w3
    have qw4 : w2.heap.size < w4.heap.size := b1_w4.out.lt
    clear ltw4 szw4
    go_wp2_with (first | (refine wpList_load_box 24 24 (bcells k) w.heap.size _ Try.underlying24 rfl HSk.out b0_w4.out rfl _ rfl rfl ?_) | (refine wpList_load_box 24 24 (bcells x) w2.heap.size _ Try.underlying24 rfl HSx.out b1_w4.out rfl _ rfl rfl ?_))
    refine (H2.out _).mono ?_
    rintro e w5 ⟨rfl, hw5⟩
    have hBw5 := Hid.mk' (hBw4.out.trans (Below.mono hw5 lew4))
    have szw5 : w4.heap.size ≤ w5.heap.size := hw5.size
    have lew5 : w.heap.size ≤ w5.heap.size := by omega
    have b0_w5 := Hid.mk' (b0_w4.out.later hw5)
    have qb0_w5_w5 : w.heap.size < w5.heap.size := b0_w5.out.lt
    have b1_w5 := Hid.mk' (b1_w4.out.later hw5)
    have qb1_w5_w5 : w2.heap.size < w5.heap.size := b1_w5.out.lt
    clear hw5 szw5 b0_w4 b1_w4
    go_wp2_with (first | (refine wpList_load_box 24 24 (bcells k) w.heap.size _ Try.underlying24 rfl HSk.out b0_w5.out rfl _ rfl rfl ?_) | (refine wpList_load_box 24 24 (bcells x) w2.heap.size _ Try.underlying24 rfl HSx.out b1_w5.out rfl _ rfl rfl ?_) | (refine wpList_alloc (bcells noK) 24 HZK.out rfl rfl ?_))
    intro w6 mw6
    have ltw6 : w5.heap.size < w6.heap.size := mw6.lt
    have hBw6 := Hid.mk' (mw6.below w.heap.size w lew5 hBw5.out)
    have lew6 : w.heap.size ≤ w6.heap.size := by omega
    have b0_w6 := Hid.mk' (mw6.keep b0_w5.out)
    have lbb0_w6 : w.heap.size < w6.heap.size := by omega
    have b1_w6 := Hid.mk' (mw6.keep b1_w5.out)
    have lbb1_w6 : w2.heap.size < w6.heap.size := by omega
    have b2_w6 := Hid.mk' mw6.box
    clear mw6 b0_w5 b1_w5
    go_wp2_with (first | (refine wpList_load_box 24 24 (bcells k) w.heap.size _ Try.underlying24 rfl HSk.out b0_w6.out rfl _ rfl rfl ?_) | (refine wpList_load_box 24 24 (bcells x) w2.heap.size _ Try.underlying24 rfl HSx.out b1_w6.out rfl _ rfl rfl ?_) | (refine wpList_store_box 24 24 (bcells noK) (bcells y) w5.heap.size HSy.out HOy.out b2_w6.out HNy.out rfl _ _ rfl rfl rfl ?_))
    intro w7 sw7
    have hBw7 := Hid.mk' (sw7.below w.heap.size w (by omega) hBw6.out)
    have szw7 : w7.heap.size = w6.heap.size := sw7.size
    have lew7 : w.heap.size ≤ w7.heap.size := by omega
    have b0_w7 := Hid.mk' (sw7.keep b0_w6.out (by omega))
    have b1_w7 := Hid.mk' (sw7.keep b1_w6.out (by omega))
    have b2_w7 := Hid.mk' sw7.box
    have ltw7 : w6.heap.size < w7.heap.size ∨ True := .inr trivial
    clear sw7 b0_w6 b1_w6 b2_w6
    have qw7 : w5.heap.size < w7.heap.size := b2_w7.out.lt
    clear ltw7 szw7
    go_wp2_with (first | (refine wpList_load_box 24 24 (bcells k) w.heap.size _ Try.underlying24 rfl HSk.out b0_w7.out rfl _ rfl rfl ?_) | (refine wpList_load_box 24 24 (bcells x) w2.heap.size _ Try.underlying24 rfl HSx.out b1_w7.out rfl _ rfl rfl ?_) | (refine wpList_load_box 24 24 (bcells y) w5.heap.size _ Try.underlying24 rfl HSy.out b2_w7.out rfl _ rfl rfl ?_))
    refine (H3.out _).mono ?_
    rintro e w8 ⟨rfl, hw8⟩
    have hBw8 := Hid.mk' (hBw7.out.trans (Below.mono hw8 lew7))
    have szw8 : w7.heap.size ≤ w8.heap.size := hw8.size
    have lew8 : w.heap.size ≤ w8.heap.size := by omega
    have b0_w8 := Hid.mk' (b0_w7.out.later hw8)
    have qb0_w8_w8 : w.heap.size < w8.heap.size := b0_w8.out.lt
    have b1_w8 := Hid.mk' (b1_w7.out.later hw8)
    have qb1_w8_w8 : w2.heap.size < w8.heap.size := b1_w8.out.lt
    have b2_w8 := Hid.mk' (b2_w7.out.later hw8)
    have qb2_w8_w8 : w5.heap.size < w8.heap.size := b2_w8.out.lt
    clear hw8 szw8 b0_w7 b1_w7 b2_w7
    go_wp2_with (first | (refine wpList_load_box 24 24 (bcells k) w.heap.size _ Try.underlying24 rfl HSk.out b0_w8.out rfl _ rfl rfl ?_) | (refine wpList_load_box 24 24 (bcells x) w2.heap.size _ Try.underlying24 rfl HSx.out b1_w8.out rfl _ rfl rfl ?_) | (refine wpList_load_box 24 24 (bcells y) w5.heap.size _ Try.underlying24 rfl HSy.out b2_w8.out rfl _ rfl rfl ?_) | (refine wpList_alloc (bcells noK) 24 HZK.out rfl rfl ?_))
    intro w9 mw9
    have ltw9 : w8.heap.size < w9.heap.size := mw9.lt
    have hBw9 := Hid.mk' (mw9.below w.heap.size w lew8 hBw8.out)
    have lew9 : w.heap.size ≤ w9.heap.size := by omega
    have b0_w9 := Hid.mk' (mw9.keep b0_w8.out)
    have lbb0_w9 : w.heap.size < w9.heap.size := by omega
    have b1_w9 := Hid.mk' (mw9.keep b1_w8.out)
    have lbb1_w9 : w2.heap.size < w9.heap.size := by omega
    have b2_w9 := Hid.mk' (mw9.keep b2_w8.out)
    have lbb2_w9 : w5.heap.size < w9.heap.size := by omega
    have b3_w9 := Hid.mk' mw9.box
    clear mw9 b0_w8 b1_w8 b2_w8
    go_wp2_with (first | (refine wpList_load_box 24 24 (bcells k) w.heap.size _ Try.underlying24 rfl HSk.out b0_w9.out rfl _ rfl rfl ?_) | (refine wpList_load_box 24 24 (bcells x) w2.heap.size _ Try.underlying24 rfl HSx.out b1_w9.out rfl _ rfl rfl ?_) | (refine wpList_load_box 24 24 (bcells y) w5.heap.size _ Try.underlying24 rfl HSy.out b2_w9.out rfl _ rfl rfl ?_) | (refine wpList_store_box 24 24 (bcells noK) (bcells z) w8.heap.size HSz.out HOz.out b3_w9.out HNz.out rfl _ _ rfl rfl rfl ?_))
    intro w10 sw10
    have hBw10 := Hid.mk' (sw10.below w.heap.size w (by omega) hBw9.out)
    have szw10 : w10.heap.size = w9.heap.size := sw10.size
    have lew10 : w.heap.size ≤ w10.heap.size := by omega
    have b0_w10 := Hid.mk' (sw10.keep b0_w9.out (by omega))
    have b1_w10 := Hid.mk' (sw10.keep b1_w9.out (by omega))
    have b2_w10 := Hid.mk' (sw10.keep b2_w9.out (by omega))
    have b3_w10 := Hid.mk' sw10.box
    have ltw10 : w9.heap.size < w10.heap.size ∨ True := .inr trivial
    clear sw10 b0_w9 b1_w9 b2_w9 b3_w9
    have qw10 : w8.heap.size < w10.heap.size := b3_w10.out.lt
    clear ltw10 szw10
    go_wp2_with (first | (refine wpList_load_box 24 24 (bcells k) w.heap.size _ Try.underlying24 rfl HSk.out b0_w10.out rfl _ rfl rfl ?_) | (refine wpList_load_box 24 24 (bcells x) w2.heap.size _ Try.underlying24 rfl HSx.out b1_w10.out rfl _ rfl rfl ?_) | (refine wpList_load_box 24 24 (bcells y) w5.heap.size _ Try.underlying24 rfl HSy.out b2_w10.out rfl _ rfl rfl ?_) | (refine wpList_load_box 24 24 (bcells z) w8.heap.size _ Try.underlying24 rfl HSz.out b3_w10.out rfl _ rfl rfl ?_))
    refine (HLV.out _).mono ?_
    rintro e w11 ⟨rfl, hw11⟩
    have hBw11 := Hid.mk' (hBw10.out.trans (Below.mono hw11 lew10))
    have szw11 : w10.heap.size ≤ w11.heap.size := hw11.size
    have lew11 : w.heap.size ≤ w11.heap.size := by omega
    have b0_w11 := Hid.mk' (b0_w10.out.later hw11)
    have qb0_w11_w11 : w.heap.size < w11.heap.size := b0_w11.out.lt
    have b1_w11 := Hid.mk' (b1_w10.out.later hw11)
    have qb1_w11_w11 : w2.heap.size < w11.heap.size := b1_w11.out.lt
    have b2_w11 := Hid.mk' (b2_w10.out.later hw11)
    have qb2_w11_w11 : w5.heap.size < w11.heap.size := b2_w11.out.lt
    have b3_w11 := Hid.mk' (b3_w10.out.later hw11)
    have qb3_w11_w11 : w8.heap.size < w11.heap.size := b3_w11.out.lt
    clear hw11 szw11 b0_w10 b1_w10 b2_w10 b3_w10
    go_wp2_with (first | (refine wpList_load_box 24 24 (bcells k) w.heap.size _ Try.underlying24 rfl HSk.out b0_w11.out rfl _ rfl rfl ?_) | (refine wpList_load_box 24 24 (bcells x) w2.heap.size _ Try.underlying24 rfl HSx.out b1_w11.out rfl _ rfl rfl ?_) | (refine wpList_load_box 24 24 (bcells y) w5.heap.size _ Try.underlying24 rfl HSy.out b2_w11.out rfl _ rfl rfl ?_) | (refine wpList_load_box 24 24 (bcells z) w8.heap.size _ Try.underlying24 rfl HSz.out b3_w11.out rfl _ rfl rfl ?_))
    refine (HLV.out _).mono ?_
    rintro e w12 ⟨rfl, hw12⟩
    have hBw12 := Hid.mk' (hBw11.out.trans (Below.mono hw12 lew11))
    have szw12 : w11.heap.size ≤ w12.heap.size := hw12.size
    have lew12 : w.heap.size ≤ w12.heap.size := by omega
    have b0_w12 := Hid.mk' (b0_w11.out.later hw12)
    have qb0_w12_w12 : w.heap.size < w12.heap.size := b0_w12.out.lt
    have b1_w12 := Hid.mk' (b1_w11.out.later hw12)
    have qb1_w12_w12 : w2.heap.size < w12.heap.size := b1_w12.out.lt
    have b2_w12 := Hid.mk' (b2_w11.out.later hw12)
    have qb2_w12_w12 : w5.heap.size < w12.heap.size := b2_w12.out.lt
    have b3_w12 := Hid.mk' (b3_w11.out.later hw12)
    have qb3_w12_w12 : w8.heap.size < w12.heap.size := b3_w12.out.lt
    clear hw12 szw12 b0_w11 b1_w11 b2_w11 b3_w11
    go_wp2_with (first | (refine wpList_load_box 24 24 (bcells k) w.heap.size _ Try.underlying24 rfl HSk.out b0_w12.out rfl _ rfl rfl ?_) | (refine wpList_load_box 24 24 (bcells x) w2.heap.size _ Try.underlying24 rfl HSx.out b1_w12.out rfl _ rfl rfl ?_) | (refine wpList_load_box 24 24 (bcells y) w5.heap.size _ Try.underlying24 rfl HSy.out b2_w12.out rfl _ rfl rfl ?_) | (refine wpList_load_box 24 24 (bcells z) w8.heap.size _ Try.underlying24 rfl HSz.out b3_w12.out rfl _ rfl rfl ?_))
    go_ret
    exact ⟨rfl, hBw12.out⟩

set_option maxHeartbeats 8000000 in
theorem Cuts_long (k : List UInt8) (hk : k.length = 38) (a b : List UInt8) (ha : a.length ≤ 140737488355328) (hb : b.length ≤ 140737488355328) (h1 : (takeT k a).2.2 = 0) (h2 : (takeT (takeT k a).1 b).2.2 = 0) (h3 : 300 < a.length + b.length) (w : World) :
    Calls Try.prog 8 #[KV k, .string (bs a), .string (bs b)] w fun e w' => e = .returned (.bool true) ∧ Below w.heap.size w w' := by
  have HZK := Hid.mk' zeroK
  have HLV := Hid.mk' lives_any
  have H1 := Hid.mk' (Take_any k hk a (by omega))
  have hx : (takeT k a).1.length = 38 := by rw [takeT_len, hk]
  have H2 := Hid.mk' (Take_any (takeT k a).1 hx b (by omega))
  have hy : (takeT (takeT k a).1 b).1.length = 38 := by rw [takeT_len, hx]
  have H3 := Hid.mk' (Take_any k hk (a ++ b) (by rw [List.length_append]; omega))
  have hz : (takeT k (a ++ b)).1.length = 38 := by rw [takeT_len, hk]
  rw [← bs_app] at H3
  have hsa := bs_size a
  have hsb := bs_size b
  have hc : ¬ (9223372036854775807 < (bs a).size + (bs b).size) := by omega
  have hc1 : (bs a).size ≤ 140737488355328 := by omega
  have hc2 : (bs b).size ≤ 140737488355328 := by omega
  have hA3 : ((bs a).size : Int) ≤ 300 := by have := (takeT_zero h1).2.2.1; omega
  have hB3 : ((bs b).size : Int) ≤ 300 := by have := (takeT_zero h2).2.2.1; omega
  have hl3 : (300 : Int) < ((bs a).size : Int) + ((bs b).size : Int) := by omega
  unfold RK at H1 H2 H3
  generalize (takeT k (a ++ b)) = Z at *
  generalize (takeT (takeT k a).1 b) = Y at *
  generalize (takeT k a) = X at *
  obtain ⟨x, s, e1⟩ := X
  obtain ⟨y, u, e2⟩ := Y
  obtain ⟨z, v, e3⟩ := Z
  dsimp only at *
  have HO0 := Hid.mk' (bcells_one noK)
  have HOx := Hid.mk' (bcells_one x)
  have HOy := Hid.mk' (bcells_one y)
  have HOz := Hid.mk' (bcells_one z)
  have HSk := Hid.mk' (sizeKV k hk)
  have HSx := Hid.mk' (sizeKV x hx)
  have HSy := Hid.mk' (sizeKV y hy)
  have HSz := Hid.mk' (sizeKV z hz)
  have HNx : Hid ((bcells noK).length = (bcells x).length) := by rw [bcells_length, bcells_length, hx]; rfl
  have HNy : Hid ((bcells noK).length = (bcells y).length) := by rw [bcells_length, bcells_length, hy]; rfl
  have HNz : Hid ((bcells noK).length = (bcells z).length) := by rw [bcells_length, bcells_length, hz]; rfl
  have hyz := sameK hy
  unfold KV at *
  generalize bs a = A at *
  generalize bs b = B at *
  clear ha hb hsa hsb h3
  subst h1 h2
  go_enter Try.func8, Try.ntmps8
  have hB0 := Hid.mk' (Below.refl w.heap.size w)
  have le0 : w.heap.size ≤ w.heap.size := Nat.le_refl _
  go_wp2_with (refine wpList_box (bcells k) 24 rfl _ rfl rfl ?_)
  intro w1 mw1
  have ltw1 : w.heap.size < w1.heap.size := mw1.lt
  have hBw1 := Hid.mk' (mw1.below w.heap.size w le0 hB0.out)
  have lew1 : w.heap.size ≤ w1.heap.size := by omega
  have b0_w1 := Hid.mk' mw1.box
  clear mw1 
  go_wp2_with (first | (refine wpList_load_box 24 24 (bcells k) w.heap.size _ Try.underlying24 rfl HSk.out b0_w1.out rfl _ rfl rfl ?_))
  refine (H1.out _).mono ?_
  rintro e w2 ⟨rfl, hw2⟩
  have hBw2 := Hid.mk' (hBw1.out.trans (Below.mono hw2 lew1))
  have szw2 : w1.heap.size ≤ w2.heap.size := hw2.size
  have lew2 : w.heap.size ≤ w2.heap.size := by omega
  have b0_w2 := Hid.mk' (b0_w1.out.later hw2)
  have qb0_w2_w2 : w.heap.size < w2.heap.size := b0_w2.out.lt
  clear hw2 szw2 b0_w1
  go_wp2_with (first | (refine wpList_load_box 24 24 (bcells k) w.heap.size _ Try.underlying24 rfl HSk.out b0_w2.out rfl _ rfl rfl ?_) | (refine wpList_alloc (bcells noK) 24 HZK.out rfl rfl ?_))
  intro w3 mw3
  have ltw3 : w2.heap.size < w3.heap.size := mw3.lt
  have hBw3 := Hid.mk' (mw3.below w.heap.size w lew2 hBw2.out)
  have lew3 : w.heap.size ≤ w3.heap.size := by omega
  have b0_w3 := Hid.mk' (mw3.keep b0_w2.out)
  have lbb0_w3 : w.heap.size < w3.heap.size := by omega
  have b1_w3 := Hid.mk' mw3.box
  clear mw3 b0_w2
  go_wp2_with (first | (refine wpList_load_box 24 24 (bcells k) w.heap.size _ Try.underlying24 rfl HSk.out b0_w3.out rfl _ rfl rfl ?_) | (refine wpList_store_box 24 24 (bcells noK) (bcells x) w2.heap.size HSx.out HOx.out b1_w3.out HNx.out rfl _ _ rfl rfl rfl ?_))
  intro w4 sw4
  have hBw4 := Hid.mk' (sw4.below w.heap.size w (by omega) hBw3.out)
  have szw4 : w4.heap.size = w3.heap.size := sw4.size
  have lew4 : w.heap.size ≤ w4.heap.size := by omega
  have b0_w4 := Hid.mk' (sw4.keep b0_w3.out (by omega))
  have b1_w4 := Hid.mk' sw4.box
  have ltw4 : w3.heap.size < w4.heap.size ∨ True := .inr trivial
  clear sw4 b0_w3 b1_w3
  have qw4 : w2.heap.size < w4.heap.size := b1_w4.out.lt
  clear ltw4 szw4
  go_wp2_with (first | (refine wpList_load_box 24 24 (bcells k) w.heap.size _ Try.underlying24 rfl HSk.out b0_w4.out rfl _ rfl rfl ?_) | (refine wpList_load_box 24 24 (bcells x) w2.heap.size _ Try.underlying24 rfl HSx.out b1_w4.out rfl _ rfl rfl ?_))
  refine (H2.out _).mono ?_
  rintro e w5 ⟨rfl, hw5⟩
  have hBw5 := Hid.mk' (hBw4.out.trans (Below.mono hw5 lew4))
  have szw5 : w4.heap.size ≤ w5.heap.size := hw5.size
  have lew5 : w.heap.size ≤ w5.heap.size := by omega
  have b0_w5 := Hid.mk' (b0_w4.out.later hw5)
  have qb0_w5_w5 : w.heap.size < w5.heap.size := b0_w5.out.lt
  have b1_w5 := Hid.mk' (b1_w4.out.later hw5)
  have qb1_w5_w5 : w2.heap.size < w5.heap.size := b1_w5.out.lt
  clear hw5 szw5 b0_w4 b1_w4
  go_wp2_with (first | (refine wpList_load_box 24 24 (bcells k) w.heap.size _ Try.underlying24 rfl HSk.out b0_w5.out rfl _ rfl rfl ?_) | (refine wpList_load_box 24 24 (bcells x) w2.heap.size _ Try.underlying24 rfl HSx.out b1_w5.out rfl _ rfl rfl ?_) | (refine wpList_alloc (bcells noK) 24 HZK.out rfl rfl ?_))
  intro w6 mw6
  have ltw6 : w5.heap.size < w6.heap.size := mw6.lt
  have hBw6 := Hid.mk' (mw6.below w.heap.size w lew5 hBw5.out)
  have lew6 : w.heap.size ≤ w6.heap.size := by omega
  have b0_w6 := Hid.mk' (mw6.keep b0_w5.out)
  have lbb0_w6 : w.heap.size < w6.heap.size := by omega
  have b1_w6 := Hid.mk' (mw6.keep b1_w5.out)
  have lbb1_w6 : w2.heap.size < w6.heap.size := by omega
  have b2_w6 := Hid.mk' mw6.box
  clear mw6 b0_w5 b1_w5
  go_wp2_with (first | (refine wpList_load_box 24 24 (bcells k) w.heap.size _ Try.underlying24 rfl HSk.out b0_w6.out rfl _ rfl rfl ?_) | (refine wpList_load_box 24 24 (bcells x) w2.heap.size _ Try.underlying24 rfl HSx.out b1_w6.out rfl _ rfl rfl ?_) | (refine wpList_store_box 24 24 (bcells noK) (bcells y) w5.heap.size HSy.out HOy.out b2_w6.out HNy.out rfl _ _ rfl rfl rfl ?_))
  intro w7 sw7
  have hBw7 := Hid.mk' (sw7.below w.heap.size w (by omega) hBw6.out)
  have szw7 : w7.heap.size = w6.heap.size := sw7.size
  have lew7 : w.heap.size ≤ w7.heap.size := by omega
  have b0_w7 := Hid.mk' (sw7.keep b0_w6.out (by omega))
  have b1_w7 := Hid.mk' (sw7.keep b1_w6.out (by omega))
  have b2_w7 := Hid.mk' sw7.box
  have ltw7 : w6.heap.size < w7.heap.size ∨ True := .inr trivial
  clear sw7 b0_w6 b1_w6 b2_w6
  have qw7 : w5.heap.size < w7.heap.size := b2_w7.out.lt
  clear ltw7 szw7
  go_wp2_with (first | (refine wpList_load_box 24 24 (bcells k) w.heap.size _ Try.underlying24 rfl HSk.out b0_w7.out rfl _ rfl rfl ?_) | (refine wpList_load_box 24 24 (bcells x) w2.heap.size _ Try.underlying24 rfl HSx.out b1_w7.out rfl _ rfl rfl ?_) | (refine wpList_load_box 24 24 (bcells y) w5.heap.size _ Try.underlying24 rfl HSy.out b2_w7.out rfl _ rfl rfl ?_))
  refine (H3.out _).mono ?_
  rintro e w8 ⟨rfl, hw8⟩
  have hBw8 := Hid.mk' (hBw7.out.trans (Below.mono hw8 lew7))
  have szw8 : w7.heap.size ≤ w8.heap.size := hw8.size
  have lew8 : w.heap.size ≤ w8.heap.size := by omega
  have b0_w8 := Hid.mk' (b0_w7.out.later hw8)
  have qb0_w8_w8 : w.heap.size < w8.heap.size := b0_w8.out.lt
  have b1_w8 := Hid.mk' (b1_w7.out.later hw8)
  have qb1_w8_w8 : w2.heap.size < w8.heap.size := b1_w8.out.lt
  have b2_w8 := Hid.mk' (b2_w7.out.later hw8)
  have qb2_w8_w8 : w5.heap.size < w8.heap.size := b2_w8.out.lt
  clear hw8 szw8 b0_w7 b1_w7 b2_w7
  go_wp2_with (first | (refine wpList_load_box 24 24 (bcells k) w.heap.size _ Try.underlying24 rfl HSk.out b0_w8.out rfl _ rfl rfl ?_) | (refine wpList_load_box 24 24 (bcells x) w2.heap.size _ Try.underlying24 rfl HSx.out b1_w8.out rfl _ rfl rfl ?_) | (refine wpList_load_box 24 24 (bcells y) w5.heap.size _ Try.underlying24 rfl HSy.out b2_w8.out rfl _ rfl rfl ?_) | (refine wpList_alloc (bcells noK) 24 HZK.out rfl rfl ?_))
  intro w9 mw9
  have ltw9 : w8.heap.size < w9.heap.size := mw9.lt
  have hBw9 := Hid.mk' (mw9.below w.heap.size w lew8 hBw8.out)
  have lew9 : w.heap.size ≤ w9.heap.size := by omega
  have b0_w9 := Hid.mk' (mw9.keep b0_w8.out)
  have lbb0_w9 : w.heap.size < w9.heap.size := by omega
  have b1_w9 := Hid.mk' (mw9.keep b1_w8.out)
  have lbb1_w9 : w2.heap.size < w9.heap.size := by omega
  have b2_w9 := Hid.mk' (mw9.keep b2_w8.out)
  have lbb2_w9 : w5.heap.size < w9.heap.size := by omega
  have b3_w9 := Hid.mk' mw9.box
  clear mw9 b0_w8 b1_w8 b2_w8
  go_wp2_with (first | (refine wpList_load_box 24 24 (bcells k) w.heap.size _ Try.underlying24 rfl HSk.out b0_w9.out rfl _ rfl rfl ?_) | (refine wpList_load_box 24 24 (bcells x) w2.heap.size _ Try.underlying24 rfl HSx.out b1_w9.out rfl _ rfl rfl ?_) | (refine wpList_load_box 24 24 (bcells y) w5.heap.size _ Try.underlying24 rfl HSy.out b2_w9.out rfl _ rfl rfl ?_) | (refine wpList_store_box 24 24 (bcells noK) (bcells z) w8.heap.size HSz.out HOz.out b3_w9.out HNz.out rfl _ _ rfl rfl rfl ?_))
  intro w10 sw10
  have hBw10 := Hid.mk' (sw10.below w.heap.size w (by omega) hBw9.out)
  have szw10 : w10.heap.size = w9.heap.size := sw10.size
  have lew10 : w.heap.size ≤ w10.heap.size := by omega
  have b0_w10 := Hid.mk' (sw10.keep b0_w9.out (by omega))
  have b1_w10 := Hid.mk' (sw10.keep b1_w9.out (by omega))
  have b2_w10 := Hid.mk' (sw10.keep b2_w9.out (by omega))
  have b3_w10 := Hid.mk' sw10.box
  have ltw10 : w9.heap.size < w10.heap.size ∨ True := .inr trivial
  clear sw10 b0_w9 b1_w9 b2_w9 b3_w9
  have qw10 : w8.heap.size < w10.heap.size := b3_w10.out.lt
  clear ltw10 szw10
  go_wp2_with (first | (refine wpList_load_box 24 24 (bcells k) w.heap.size _ Try.underlying24 rfl HSk.out b0_w10.out rfl _ rfl rfl ?_) | (refine wpList_load_box 24 24 (bcells x) w2.heap.size _ Try.underlying24 rfl HSx.out b1_w10.out rfl _ rfl rfl ?_) | (refine wpList_load_box 24 24 (bcells y) w5.heap.size _ Try.underlying24 rfl HSy.out b2_w10.out rfl _ rfl rfl ?_) | (refine wpList_load_box 24 24 (bcells z) w8.heap.size _ Try.underlying24 rfl HSz.out b3_w10.out rfl _ rfl rfl ?_))
  refine (HLV.out _).mono ?_
  rintro e w11 ⟨rfl, hw11⟩
  have hBw11 := Hid.mk' (hBw10.out.trans (Below.mono hw11 lew10))
  have szw11 : w10.heap.size ≤ w11.heap.size := hw11.size
  have lew11 : w.heap.size ≤ w11.heap.size := by omega
  have b0_w11 := Hid.mk' (b0_w10.out.later hw11)
  have qb0_w11_w11 : w.heap.size < w11.heap.size := b0_w11.out.lt
  have b1_w11 := Hid.mk' (b1_w10.out.later hw11)
  have qb1_w11_w11 : w2.heap.size < w11.heap.size := b1_w11.out.lt
  have b2_w11 := Hid.mk' (b2_w10.out.later hw11)
  have qb2_w11_w11 : w5.heap.size < w11.heap.size := b2_w11.out.lt
  have b3_w11 := Hid.mk' (b3_w10.out.later hw11)
  have qb3_w11_w11 : w8.heap.size < w11.heap.size := b3_w11.out.lt
  clear hw11 szw11 b0_w10 b1_w10 b2_w10 b3_w10
  go_wp2_with (first | (refine wpList_load_box 24 24 (bcells k) w.heap.size _ Try.underlying24 rfl HSk.out b0_w11.out rfl _ rfl rfl ?_) | (refine wpList_load_box 24 24 (bcells x) w2.heap.size _ Try.underlying24 rfl HSx.out b1_w11.out rfl _ rfl rfl ?_) | (refine wpList_load_box 24 24 (bcells y) w5.heap.size _ Try.underlying24 rfl HSy.out b2_w11.out rfl _ rfl rfl ?_) | (refine wpList_load_box 24 24 (bcells z) w8.heap.size _ Try.underlying24 rfl HSz.out b3_w11.out rfl _ rfl rfl ?_))
  refine (HLV.out _).mono ?_
  rintro e w12 ⟨rfl, hw12⟩
  have hBw12 := Hid.mk' (hBw11.out.trans (Below.mono hw12 lew11))
  have szw12 : w11.heap.size ≤ w12.heap.size := hw12.size
  have lew12 : w.heap.size ≤ w12.heap.size := by omega
  have b0_w12 := Hid.mk' (b0_w11.out.later hw12)
  have qb0_w12_w12 : w.heap.size < w12.heap.size := b0_w12.out.lt
  have b1_w12 := Hid.mk' (b1_w11.out.later hw12)
  have qb1_w12_w12 : w2.heap.size < w12.heap.size := b1_w12.out.lt
  have b2_w12 := Hid.mk' (b2_w11.out.later hw12)
  have qb2_w12_w12 : w5.heap.size < w12.heap.size := b2_w12.out.lt
  have b3_w12 := Hid.mk' (b3_w11.out.later hw12)
  have qb3_w12_w12 : w8.heap.size < w12.heap.size := b3_w12.out.lt
  clear hw12 szw12 b0_w11 b1_w11 b2_w11 b3_w11
  go_wp2_with (first | (refine wpList_load_box 24 24 (bcells k) w.heap.size _ Try.underlying24 rfl HSk.out b0_w12.out rfl _ rfl rfl ?_) | (refine wpList_load_box 24 24 (bcells x) w2.heap.size _ Try.underlying24 rfl HSx.out b1_w12.out rfl _ rfl rfl ?_) | (refine wpList_load_box 24 24 (bcells y) w5.heap.size _ Try.underlying24 rfl HSy.out b2_w12.out rfl _ rfl rfl ?_) | (refine wpList_load_box 24 24 (bcells z) w8.heap.size _ Try.underlying24 rfl HSz.out b3_w12.out rfl _ rfl rfl ?_))
  go_ret
  exact ⟨rfl, hBw12.out⟩

set_option maxHeartbeats 8000000 in
theorem Cuts_ok (k : List UInt8) (hk : k.length = 38) (a b : List UInt8) (ha : a.length ≤ 140737488355328) (hb : b.length ≤ 140737488355328) (h1 : (takeT k a).2.2 = 0) (h2 : (takeT (takeT k a).1 b).2.2 = 0) (h3 : a.length + b.length ≤ 300) (w : World) :
    Calls Try.prog 8 #[KV k, .string (bs a), .string (bs b)] w fun e w' => e = .returned (.bool true) ∧ Below w.heap.size w w' := by
  have HZK := Hid.mk' zeroK
  have HLV := Hid.mk' lives_any
  have H1 := Hid.mk' (Take_any k hk a (by omega))
  have hx : (takeT k a).1.length = 38 := by rw [takeT_len, hk]
  have H2 := Hid.mk' (Take_any (takeT k a).1 hx b (by omega))
  have hy : (takeT (takeT k a).1 b).1.length = 38 := by rw [takeT_len, hx]
  have H3 := Hid.mk' (Take_any k hk (a ++ b) (by rw [List.length_append]; omega))
  have hz : (takeT k (a ++ b)).1.length = 38 := by rw [takeT_len, hk]
  rw [← bs_app] at H3
  have hsa := bs_size a
  have hsb := bs_size b
  have hc : ¬ (9223372036854775807 < (bs a).size + (bs b).size) := by omega
  have hc1 : (bs a).size ≤ 140737488355328 := by omega
  have hc2 : (bs b).size ≤ 140737488355328 := by omega
  have hA3 : ((bs a).size : Int) ≤ 300 := by have := (takeT_zero h1).2.2.1; omega
  have hB3 : ((bs b).size : Int) ≤ 300 := by have := (takeT_zero h2).2.2.1; omega
  have hl3 : ¬ (300 : Int) < ((bs a).size : Int) + ((bs b).size : Int) := by omega
  have hT := takeT_two k a b h1 h2 h3
  have hsu : (bs (takeT k a).2.1).size ≤ 300 ∧ (bs (takeT (takeT k a).1 b).2.1).size ≤ 300 := by
    rw [bs_size, bs_size]
    exact ⟨takeT_said _ _, takeT_said _ _⟩
  unfold RK at H1 H2 H3
  generalize (takeT k (a ++ b)) = Z at *
  generalize (takeT (takeT k a).1 b) = Y at *
  generalize (takeT k a) = X at *
  obtain ⟨x, s, e1⟩ := X
  obtain ⟨y, u, e2⟩ := Y
  obtain ⟨z, v, e3⟩ := Z
  dsimp only at *
  have HO0 := Hid.mk' (bcells_one noK)
  have HOx := Hid.mk' (bcells_one x)
  have HOy := Hid.mk' (bcells_one y)
  have HOz := Hid.mk' (bcells_one z)
  have HSk := Hid.mk' (sizeKV k hk)
  have HSx := Hid.mk' (sizeKV x hx)
  have HSy := Hid.mk' (sizeKV y hy)
  have HSz := Hid.mk' (sizeKV z hz)
  have HNx : Hid ((bcells noK).length = (bcells x).length) := by rw [bcells_length, bcells_length, hx]; rfl
  have HNy : Hid ((bcells noK).length = (bcells y).length) := by rw [bcells_length, bcells_length, hy]; rfl
  have HNz : Hid ((bcells noK).length = (bcells z).length) := by rw [bcells_length, bcells_length, hz]; rfl
  have hyz := sameK hy
  simp only [Prod.mk.injEq] at hT
  obtain ⟨rfl, rfl, rfl⟩ := hT
  rw [← bs_app] at H3
  have hd : ¬ (9223372036854775807 < (bs s).size + (bs u).size) := by omega
  unfold KV at *
  generalize bs a = A at *
  generalize bs b = B at *
  clear ha hb hsa hsb h3
  subst h1 h2
  generalize bs s = s' at *
  generalize bs u = u' at *
  generalize hsu' : s' ++ u' = su at *
  go_enter Try.func8, Try.ntmps8
  have hB0 := Hid.mk' (Below.refl w.heap.size w)
  have le0 : w.heap.size ≤ w.heap.size := Nat.le_refl _
  go_wp2_with (refine wpList_box (bcells k) 24 rfl _ rfl rfl ?_)
  intro w1 mw1
  have ltw1 : w.heap.size < w1.heap.size := mw1.lt
  have hBw1 := Hid.mk' (mw1.below w.heap.size w le0 hB0.out)
  have lew1 : w.heap.size ≤ w1.heap.size := by omega
  have b0_w1 := Hid.mk' mw1.box
  clear mw1 
  go_wp2_with (first | (refine wpList_load_box 24 24 (bcells k) w.heap.size _ Try.underlying24 rfl HSk.out b0_w1.out rfl _ rfl rfl ?_))
  refine (H1.out _).mono ?_
  rintro e w2 ⟨rfl, hw2⟩
  have hBw2 := Hid.mk' (hBw1.out.trans (Below.mono hw2 lew1))
  have szw2 : w1.heap.size ≤ w2.heap.size := hw2.size
  have lew2 : w.heap.size ≤ w2.heap.size := by omega
  have b0_w2 := Hid.mk' (b0_w1.out.later hw2)
  have qb0_w2_w2 : w.heap.size < w2.heap.size := b0_w2.out.lt
  clear hw2 szw2 b0_w1
  go_wp2_with (first | (refine wpList_load_box 24 24 (bcells k) w.heap.size _ Try.underlying24 rfl HSk.out b0_w2.out rfl _ rfl rfl ?_) | (refine wpList_alloc (bcells noK) 24 HZK.out rfl rfl ?_))
  intro w3 mw3
  have ltw3 : w2.heap.size < w3.heap.size := mw3.lt
  have hBw3 := Hid.mk' (mw3.below w.heap.size w lew2 hBw2.out)
  have lew3 : w.heap.size ≤ w3.heap.size := by omega
  have b0_w3 := Hid.mk' (mw3.keep b0_w2.out)
  have lbb0_w3 : w.heap.size < w3.heap.size := by omega
  have b1_w3 := Hid.mk' mw3.box
  clear mw3 b0_w2
  go_wp2_with (first | (refine wpList_load_box 24 24 (bcells k) w.heap.size _ Try.underlying24 rfl HSk.out b0_w3.out rfl _ rfl rfl ?_) | (refine wpList_store_box 24 24 (bcells noK) (bcells x) w2.heap.size HSx.out HOx.out b1_w3.out HNx.out rfl _ _ rfl rfl rfl ?_))
  intro w4 sw4
  have hBw4 := Hid.mk' (sw4.below w.heap.size w (by omega) hBw3.out)
  have szw4 : w4.heap.size = w3.heap.size := sw4.size
  have lew4 : w.heap.size ≤ w4.heap.size := by omega
  have b0_w4 := Hid.mk' (sw4.keep b0_w3.out (by omega))
  have b1_w4 := Hid.mk' sw4.box
  have ltw4 : w3.heap.size < w4.heap.size ∨ True := .inr trivial
  clear sw4 b0_w3 b1_w3
  have qw4 : w2.heap.size < w4.heap.size := b1_w4.out.lt
  clear ltw4 szw4
  go_wp2_with (first | (refine wpList_load_box 24 24 (bcells k) w.heap.size _ Try.underlying24 rfl HSk.out b0_w4.out rfl _ rfl rfl ?_) | (refine wpList_load_box 24 24 (bcells x) w2.heap.size _ Try.underlying24 rfl HSx.out b1_w4.out rfl _ rfl rfl ?_))
  refine (H2.out _).mono ?_
  rintro e w5 ⟨rfl, hw5⟩
  have hBw5 := Hid.mk' (hBw4.out.trans (Below.mono hw5 lew4))
  have szw5 : w4.heap.size ≤ w5.heap.size := hw5.size
  have lew5 : w.heap.size ≤ w5.heap.size := by omega
  have b0_w5 := Hid.mk' (b0_w4.out.later hw5)
  have qb0_w5_w5 : w.heap.size < w5.heap.size := b0_w5.out.lt
  have b1_w5 := Hid.mk' (b1_w4.out.later hw5)
  have qb1_w5_w5 : w2.heap.size < w5.heap.size := b1_w5.out.lt
  clear hw5 szw5 b0_w4 b1_w4
  go_wp2_with (first | (refine wpList_load_box 24 24 (bcells k) w.heap.size _ Try.underlying24 rfl HSk.out b0_w5.out rfl _ rfl rfl ?_) | (refine wpList_load_box 24 24 (bcells x) w2.heap.size _ Try.underlying24 rfl HSx.out b1_w5.out rfl _ rfl rfl ?_) | (refine wpList_alloc (bcells noK) 24 HZK.out rfl rfl ?_))
  intro w6 mw6
  have ltw6 : w5.heap.size < w6.heap.size := mw6.lt
  have hBw6 := Hid.mk' (mw6.below w.heap.size w lew5 hBw5.out)
  have lew6 : w.heap.size ≤ w6.heap.size := by omega
  have b0_w6 := Hid.mk' (mw6.keep b0_w5.out)
  have lbb0_w6 : w.heap.size < w6.heap.size := by omega
  have b1_w6 := Hid.mk' (mw6.keep b1_w5.out)
  have lbb1_w6 : w2.heap.size < w6.heap.size := by omega
  have b2_w6 := Hid.mk' mw6.box
  clear mw6 b0_w5 b1_w5
  go_wp2_with (first | (refine wpList_load_box 24 24 (bcells k) w.heap.size _ Try.underlying24 rfl HSk.out b0_w6.out rfl _ rfl rfl ?_) | (refine wpList_load_box 24 24 (bcells x) w2.heap.size _ Try.underlying24 rfl HSx.out b1_w6.out rfl _ rfl rfl ?_) | (refine wpList_store_box 24 24 (bcells noK) (bcells z) w5.heap.size HSy.out HOy.out b2_w6.out HNy.out rfl _ _ rfl rfl rfl ?_))
  intro w7 sw7
  have hBw7 := Hid.mk' (sw7.below w.heap.size w (by omega) hBw6.out)
  have szw7 : w7.heap.size = w6.heap.size := sw7.size
  have lew7 : w.heap.size ≤ w7.heap.size := by omega
  have b0_w7 := Hid.mk' (sw7.keep b0_w6.out (by omega))
  have b1_w7 := Hid.mk' (sw7.keep b1_w6.out (by omega))
  have b2_w7 := Hid.mk' sw7.box
  have ltw7 : w6.heap.size < w7.heap.size ∨ True := .inr trivial
  clear sw7 b0_w6 b1_w6 b2_w6
  have qw7 : w5.heap.size < w7.heap.size := b2_w7.out.lt
  clear ltw7 szw7
  go_wp2_with (first | (refine wpList_load_box 24 24 (bcells k) w.heap.size _ Try.underlying24 rfl HSk.out b0_w7.out rfl _ rfl rfl ?_) | (refine wpList_load_box 24 24 (bcells x) w2.heap.size _ Try.underlying24 rfl HSx.out b1_w7.out rfl _ rfl rfl ?_) | (refine wpList_load_box 24 24 (bcells z) w5.heap.size _ Try.underlying24 rfl HSy.out b2_w7.out rfl _ rfl rfl ?_))
  refine (H3.out _).mono ?_
  rintro e w8 ⟨rfl, hw8⟩
  have hBw8 := Hid.mk' (hBw7.out.trans (Below.mono hw8 lew7))
  have szw8 : w7.heap.size ≤ w8.heap.size := hw8.size
  have lew8 : w.heap.size ≤ w8.heap.size := by omega
  have b0_w8 := Hid.mk' (b0_w7.out.later hw8)
  have qb0_w8_w8 : w.heap.size < w8.heap.size := b0_w8.out.lt
  have b1_w8 := Hid.mk' (b1_w7.out.later hw8)
  have qb1_w8_w8 : w2.heap.size < w8.heap.size := b1_w8.out.lt
  have b2_w8 := Hid.mk' (b2_w7.out.later hw8)
  have qb2_w8_w8 : w5.heap.size < w8.heap.size := b2_w8.out.lt
  clear hw8 szw8 b0_w7 b1_w7 b2_w7
  go_wp2_with (first | (refine wpList_load_box 24 24 (bcells k) w.heap.size _ Try.underlying24 rfl HSk.out b0_w8.out rfl _ rfl rfl ?_) | (refine wpList_load_box 24 24 (bcells x) w2.heap.size _ Try.underlying24 rfl HSx.out b1_w8.out rfl _ rfl rfl ?_) | (refine wpList_load_box 24 24 (bcells z) w5.heap.size _ Try.underlying24 rfl HSy.out b2_w8.out rfl _ rfl rfl ?_) | (refine wpList_alloc (bcells noK) 24 HZK.out rfl rfl ?_))
  intro w9 mw9
  have ltw9 : w8.heap.size < w9.heap.size := mw9.lt
  have hBw9 := Hid.mk' (mw9.below w.heap.size w lew8 hBw8.out)
  have lew9 : w.heap.size ≤ w9.heap.size := by omega
  have b0_w9 := Hid.mk' (mw9.keep b0_w8.out)
  have lbb0_w9 : w.heap.size < w9.heap.size := by omega
  have b1_w9 := Hid.mk' (mw9.keep b1_w8.out)
  have lbb1_w9 : w2.heap.size < w9.heap.size := by omega
  have b2_w9 := Hid.mk' (mw9.keep b2_w8.out)
  have lbb2_w9 : w5.heap.size < w9.heap.size := by omega
  have b3_w9 := Hid.mk' mw9.box
  clear mw9 b0_w8 b1_w8 b2_w8
  go_wp2_with (first | (refine wpList_load_box 24 24 (bcells k) w.heap.size _ Try.underlying24 rfl HSk.out b0_w9.out rfl _ rfl rfl ?_) | (refine wpList_load_box 24 24 (bcells x) w2.heap.size _ Try.underlying24 rfl HSx.out b1_w9.out rfl _ rfl rfl ?_) | (refine wpList_load_box 24 24 (bcells z) w5.heap.size _ Try.underlying24 rfl HSy.out b2_w9.out rfl _ rfl rfl ?_) | (refine wpList_store_box 24 24 (bcells noK) (bcells z) w8.heap.size HSz.out HOz.out b3_w9.out HNz.out rfl _ _ rfl rfl rfl ?_))
  intro w10 sw10
  have hBw10 := Hid.mk' (sw10.below w.heap.size w (by omega) hBw9.out)
  have szw10 : w10.heap.size = w9.heap.size := sw10.size
  have lew10 : w.heap.size ≤ w10.heap.size := by omega
  have b0_w10 := Hid.mk' (sw10.keep b0_w9.out (by omega))
  have b1_w10 := Hid.mk' (sw10.keep b1_w9.out (by omega))
  have b2_w10 := Hid.mk' (sw10.keep b2_w9.out (by omega))
  have b3_w10 := Hid.mk' sw10.box
  have ltw10 : w9.heap.size < w10.heap.size ∨ True := .inr trivial
  clear sw10 b0_w9 b1_w9 b2_w9 b3_w9
  have qw10 : w8.heap.size < w10.heap.size := b3_w10.out.lt
  clear ltw10 szw10
  go_wp2_with (first | (refine wpList_load_box 24 24 (bcells k) w.heap.size _ Try.underlying24 rfl HSk.out b0_w10.out rfl _ rfl rfl ?_) | (refine wpList_load_box 24 24 (bcells x) w2.heap.size _ Try.underlying24 rfl HSx.out b1_w10.out rfl _ rfl rfl ?_) | (refine wpList_load_box 24 24 (bcells z) w5.heap.size _ Try.underlying24 rfl HSy.out b2_w10.out rfl _ rfl rfl ?_) | (refine wpList_load_box 24 24 (bcells z) w8.heap.size _ Try.underlying24 rfl HSz.out b3_w10.out rfl _ rfl rfl ?_))
  refine (HLV.out _).mono ?_
  rintro e w11 ⟨rfl, hw11⟩
  have hBw11 := Hid.mk' (hBw10.out.trans (Below.mono hw11 lew10))
  have szw11 : w10.heap.size ≤ w11.heap.size := hw11.size
  have lew11 : w.heap.size ≤ w11.heap.size := by omega
  have b0_w11 := Hid.mk' (b0_w10.out.later hw11)
  have qb0_w11_w11 : w.heap.size < w11.heap.size := b0_w11.out.lt
  have b1_w11 := Hid.mk' (b1_w10.out.later hw11)
  have qb1_w11_w11 : w2.heap.size < w11.heap.size := b1_w11.out.lt
  have b2_w11 := Hid.mk' (b2_w10.out.later hw11)
  have qb2_w11_w11 : w5.heap.size < w11.heap.size := b2_w11.out.lt
  have b3_w11 := Hid.mk' (b3_w10.out.later hw11)
  have qb3_w11_w11 : w8.heap.size < w11.heap.size := b3_w11.out.lt
  clear hw11 szw11 b0_w10 b1_w10 b2_w10 b3_w10
  have li0 := b0_w11.out.lies0 (n := 38) (by have h := HSk.out; rw [sizeK] at h; exact (Option.some.inj h).symm)
  have ri0 := b0_w11.out.row0 (n := 38) (by have h := HSk.out; rw [sizeK] at h; exact (Option.some.inj h).symm)
  have li1 := b1_w11.out.lies0 (n := 38) (by have h := HSx.out; rw [sizeK] at h; exact (Option.some.inj h).symm)
  have ri1 := b1_w11.out.row0 (n := 38) (by have h := HSx.out; rw [sizeK] at h; exact (Option.some.inj h).symm)
  have li2 := b2_w11.out.lies0 (n := 38) (by have h := HSy.out; rw [sizeK] at h; exact (Option.some.inj h).symm)
  have ri2 := b2_w11.out.row0 (n := 38) (by have h := HSy.out; rw [sizeK] at h; exact (Option.some.inj h).symm)
  have li3 := b3_w11.out.lies0 (n := 38) (by have h := HSz.out; rw [sizeK] at h; exact (Option.some.inj h).symm)
  have ri3 := b3_w11.out.row0 (n := 38) (by have h := HSz.out; rw [sizeK] at h; exact (Option.some.inj h).symm)
  go_wp2_with (first | (refine wpList_load_box 24 24 (bcells k) w.heap.size _ Try.underlying24 rfl HSk.out b0_w11.out rfl _ rfl rfl ?_) | (refine wpList_load_box 24 24 (bcells x) w2.heap.size _ Try.underlying24 rfl HSx.out b1_w11.out rfl _ rfl rfl ?_) | (refine wpList_load_box 24 24 (bcells z) w5.heap.size _ Try.underlying24 rfl HSy.out b2_w11.out rfl _ rfl rfl ?_) | (refine wpList_load_box 24 24 (bcells z) w8.heap.size _ Try.underlying24 rfl HSz.out b3_w11.out rfl _ rfl rfl ?_))
  go_ret
  exact ⟨rfl, hBw11.out⟩

theorem SlcCuts_any (k : List UInt8) (hk : k.length = 38) (a b : List UInt8) (ha : a.length ≤ 140737488355328) (hb : b.length ≤ 140737488355328) (w : World) :
    Calls Try.prog 8 #[KV k, .string (bs a), .string (bs b)] w fun e w' => e = .returned (.bool true) ∧ Below w.heap.size w w' := by
  rcases takeT_er k a with h1 | h1 | h1
  · rcases takeT_er (takeT k a).1 b with h2 | h2 | h2
    · by_cases h3 : a.length + b.length ≤ 300
      · exact Cuts_ok k hk a b ha hb h1 h2 h3 w
      · exact Cuts_long k hk a b ha hb h1 h2 (by omega) w
    · exact Cuts_no k hk a b ha hb 4 ⟨.inl rfl, .inr ⟨h1, h2⟩⟩ w
    · exact Cuts_no k hk a b ha hb 2 ⟨.inr rfl, .inr ⟨h1, h2⟩⟩ w
  · exact Cuts_no k hk a b ha hb 4 ⟨.inl rfl, .inl h1⟩ w
  · exact Cuts_no k hk a b ha hb 2 ⟨.inr rfl, .inl h1⟩ w
end Go.Proofs.Ytfipmggdpigbkaa.K
