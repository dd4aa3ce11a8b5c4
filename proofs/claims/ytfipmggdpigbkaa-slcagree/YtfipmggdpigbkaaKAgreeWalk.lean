/-
  Walk: farkeep.SlcAgree returns true; condition: 38 bytes each.
-/
import Derived.Test.YtfipmggdpigbkaaKLives
import Derived.Test.YtfipmggdpigbkaaKRef
import Derived.Test.YtfipmggdpigbkaaKTwo
import Derived.Deep.LoopGhost
namespace Go.Proofs.Ytfipmggdpigbkaa.K
open Go.RowKit Go.Lib Go.Proofs.Ytfipmggdpigbkaa Go.Proofs.Ytfipmggdpigbkaa.W Go.Proofs.Ytfipmggdpigbkaa.Q

attribute [local go_sem ↓] exec_loadK

set_option maxRecDepth 20000 in
set_option maxHeartbeats 8000000 in
theorem Agree_no (a : List UInt8) (ha : a.length = 38) (b : List UInt8) (hb : b.length = 38) (hX : meetT a b = (noK, noK, 0, 4)) (w : World) :
    Calls Try.prog 5 #[KV a, KV b] w fun e w' => e = .returned (.bool true) ∧ Below w.heap.size w w' := by
  have HZK := Hid.mk' zeroK
  have HLV := Hid.mk' lives_any
  have H1 : Hid (∀ w, Calls Try.prog 15 #[KV a, KV b] w fun e w' => e = .returned (.tuple #[KV noK, KV noK, .int .i64 0, .int .i64 4]) ∧ Below w.heap.size w w') := fun w => by
    have h := Meet_any a b ha hb w
    rw [hX] at h
    exact h
  have HO := Hid.mk' (bcells_one noK)
  have HSa := Hid.mk' (sizeKV a ha)
  have HSb := Hid.mk' (sizeKV b hb)
  have HS := Hid.mk' (sizeKV noK rfl)
  unfold KV at *
  clear hX
  go_enter Try.func5, Try.ntmps5
  have hB0 := Hid.mk' (Below.refl w.heap.size w)
  have le0 : w.heap.size ≤ w.heap.size := Nat.le_refl _
  go_wp2_with (refine wpList_box (bcells a) 24 rfl _ rfl rfl ?_)
  intro w1 mw1
  have ltw1 : w.heap.size < w1.heap.size := mw1.lt
  have hBw1 := Hid.mk' (mw1.below w.heap.size w le0 hB0.out)
  have lew1 : w.heap.size ≤ w1.heap.size := by omega
  have b0_w1 := Hid.mk' mw1.box
  clear mw1 
  go_wp2_with (refine wpList_box (bcells b) 24 rfl _ rfl rfl ?_)
  intro w2 mw2
  have ltw2 : w1.heap.size < w2.heap.size := mw2.lt
  have hBw2 := Hid.mk' (mw2.below w.heap.size w lew1 hBw1.out)
  have lew2 : w.heap.size ≤ w2.heap.size := by omega
  have b0_w2 := Hid.mk' (mw2.keep b0_w1.out)
  have lbb0_w2 : w.heap.size < w2.heap.size := by omega
  have b1_w2 := Hid.mk' mw2.box
  clear mw2 b0_w1
  go_wp2_with (first | (refine wpList_load_box 24 24 (bcells a) w.heap.size _ Try.underlying24 rfl HSa.out b0_w2.out rfl _ rfl rfl ?_) | (refine wpList_load_box 24 24 (bcells b) w1.heap.size _ Try.underlying24 rfl HSb.out b1_w2.out rfl _ rfl rfl ?_))
  refine (H1.out _).mono ?_
  rintro e w3 ⟨rfl, hw3⟩
  have hBw3 := Hid.mk' (hBw2.out.trans (Below.mono hw3 lew2))
  have szw3 : w2.heap.size ≤ w3.heap.size := hw3.size
  have lew3 : w.heap.size ≤ w3.heap.size := by omega
  have b0_w3 := Hid.mk' (b0_w2.out.later hw3)
  have qb0_w3_w3 : w.heap.size < w3.heap.size := b0_w3.out.lt
  have b1_w3 := Hid.mk' (b1_w2.out.later hw3)
  have qb1_w3_w3 : w1.heap.size < w3.heap.size := b1_w3.out.lt
  clear hw3 szw3 b0_w2 b1_w2
  go_wp2_with (first | (refine wpList_load_box 24 24 (bcells a) w.heap.size _ Try.underlying24 rfl HSa.out b0_w3.out rfl _ rfl rfl ?_) | (refine wpList_load_box 24 24 (bcells b) w1.heap.size _ Try.underlying24 rfl HSb.out b1_w3.out rfl _ rfl rfl ?_) | (refine wpList_alloc (bcells noK) 24 HZK.out rfl rfl ?_))
  intro w4 mw4
  have ltw4 : w3.heap.size < w4.heap.size := mw4.lt
  have hBw4 := Hid.mk' (mw4.below w.heap.size w lew3 hBw3.out)
  have lew4 : w.heap.size ≤ w4.heap.size := by omega
  have b0_w4 := Hid.mk' (mw4.keep b0_w3.out)
  have lbb0_w4 : w.heap.size < w4.heap.size := by omega
  have b1_w4 := Hid.mk' (mw4.keep b1_w3.out)
  have lbb1_w4 : w1.heap.size < w4.heap.size := by omega
  have b2_w4 := Hid.mk' mw4.box
  clear mw4 b0_w3 b1_w3
  go_wp2_with (first | (refine wpList_load_box 24 24 (bcells a) w.heap.size _ Try.underlying24 rfl HSa.out b0_w4.out rfl _ rfl rfl ?_) | (refine wpList_load_box 24 24 (bcells b) w1.heap.size _ Try.underlying24 rfl HSb.out b1_w4.out rfl _ rfl rfl ?_) | (refine wpList_load_box 24 24 (bcells noK) w3.heap.size _ Try.underlying24 rfl HS.out b2_w4.out rfl _ rfl rfl ?_) | (refine wpList_alloc (bcells noK) 24 HZK.out rfl rfl ?_))
  intro w5 mw5
  have ltw5 : w4.heap.size < w5.heap.size := mw5.lt
  have hBw5 := Hid.mk' (mw5.below w.heap.size w lew4 hBw4.out)
  have lew5 : w.heap.size ≤ w5.heap.size := by omega
  have b0_w5 := Hid.mk' (mw5.keep b0_w4.out)
  have lbb0_w5 : w.heap.size < w5.heap.size := by omega
  have b1_w5 := Hid.mk' (mw5.keep b1_w4.out)
  have lbb1_w5 : w1.heap.size < w5.heap.size := by omega
  have b2_w5 := Hid.mk' (mw5.keep b2_w4.out)
  have lbb2_w5 : w3.heap.size < w5.heap.size := by omega
  have b3_w5 := Hid.mk' mw5.box
  clear mw5 b0_w4 b1_w4 b2_w4
  go_wp2_with (first | (refine wpList_load_box 24 24 (bcells a) w.heap.size _ Try.underlying24 rfl HSa.out b0_w5.out rfl _ rfl rfl ?_) | (refine wpList_load_box 24 24 (bcells b) w1.heap.size _ Try.underlying24 rfl HSb.out b1_w5.out rfl _ rfl rfl ?_) | (refine wpList_store_box 24 24 (bcells noK) (bcells noK) w3.heap.size HS.out HO.out b2_w5.out rfl rfl _ _ rfl rfl rfl ?_))
  intro w6 sw6
  have hBw6 := Hid.mk' (sw6.below w.heap.size w (by omega) hBw5.out)
  have szw6 : w6.heap.size = w5.heap.size := sw6.size
  have lew6 : w.heap.size ≤ w6.heap.size := by omega
  have b0_w6 := Hid.mk' (sw6.keep b0_w5.out (by omega))
  have b1_w6 := Hid.mk' (sw6.keep b1_w5.out (by omega))
  have b2_w6 := Hid.mk' sw6.box
  have b3_w6 := Hid.mk' (sw6.keep b3_w5.out (by omega))
  have qw6 : w4.heap.size < w6.heap.size := b3_w6.out.lt
  clear sw6 b0_w5 b1_w5 b2_w5 b3_w5
  go_wp2_with (first | (refine wpList_load_box 24 24 (bcells a) w.heap.size _ Try.underlying24 rfl HSa.out b0_w6.out rfl _ rfl rfl ?_) | (refine wpList_load_box 24 24 (bcells b) w1.heap.size _ Try.underlying24 rfl HSb.out b1_w6.out rfl _ rfl rfl ?_) | (refine wpList_load_box 24 24 (bcells noK) w3.heap.size _ Try.underlying24 rfl HS.out b2_w6.out rfl _ rfl rfl ?_) | (refine wpList_store_box 24 24 (bcells noK) (bcells noK) w4.heap.size HS.out HO.out b3_w6.out rfl rfl _ _ rfl rfl rfl ?_))
  intro w7 sw7
  have hBw7 := Hid.mk' (sw7.below w.heap.size w (by omega) hBw6.out)
  have szw7 : w7.heap.size = w6.heap.size := sw7.size
  have lew7 : w.heap.size ≤ w7.heap.size := by omega
  have b0_w7 := Hid.mk' (sw7.keep b0_w6.out (by omega))
  have b1_w7 := Hid.mk' (sw7.keep b1_w6.out (by omega))
  have b2_w7 := Hid.mk' (sw7.keep b2_w6.out (by omega))
  have b3_w7 := Hid.mk' sw7.box
  have qw7 : w4.heap.size < w7.heap.size := b3_w7.out.lt
  clear sw7 b0_w6 b1_w6 b2_w6 b3_w6
  go_wp2_with (first | (refine wpList_load_box 24 24 (bcells a) w.heap.size _ Try.underlying24 rfl HSa.out b0_w7.out rfl _ rfl rfl ?_) | (refine wpList_load_box 24 24 (bcells b) w1.heap.size _ Try.underlying24 rfl HSb.out b1_w7.out rfl _ rfl rfl ?_) | (refine wpList_load_box 24 24 (bcells noK) w3.heap.size _ Try.underlying24 rfl HS.out b2_w7.out rfl _ rfl rfl ?_) | (refine wpList_load_box 24 24 (bcells noK) w4.heap.size _ Try.underlying24 rfl HS.out b3_w7.out rfl _ rfl rfl ?_))
  refine (HLV.out _).mono ?_
  rintro e w8 ⟨rfl, hw8⟩
  have hBw8 := Hid.mk' (hBw7.out.trans (Below.mono hw8 lew7))
  have szw8 : w7.heap.size ≤ w8.heap.size := hw8.size
  have lew8 : w.heap.size ≤ w8.heap.size := by omega
  have b0_w8 := Hid.mk' (b0_w7.out.later hw8)
  have qb0_w8_w8 : w.heap.size < w8.heap.size := b0_w8.out.lt
  have b1_w8 := Hid.mk' (b1_w7.out.later hw8)
  have qb1_w8_w8 : w1.heap.size < w8.heap.size := b1_w8.out.lt
  have b2_w8 := Hid.mk' (b2_w7.out.later hw8)
  have qb2_w8_w8 : w3.heap.size < w8.heap.size := b2_w8.out.lt
  have b3_w8 := Hid.mk' (b3_w7.out.later hw8)
  have qb3_w8_w8 : w4.heap.size < w8.heap.size := b3_w8.out.lt
  clear hw8 szw8 b0_w7 b1_w7 b2_w7 b3_w7
  go_wp2_with (first | (refine wpList_load_box 24 24 (bcells a) w.heap.size _ Try.underlying24 rfl HSa.out b0_w8.out rfl _ rfl rfl ?_) | (refine wpList_load_box 24 24 (bcells b) w1.heap.size _ Try.underlying24 rfl HSb.out b1_w8.out rfl _ rfl rfl ?_) | (refine wpList_load_box 24 24 (bcells noK) w3.heap.size _ Try.underlying24 rfl HS.out b2_w8.out rfl _ rfl rfl ?_) | (refine wpList_load_box 24 24 (bcells noK) w4.heap.size _ Try.underlying24 rfl HS.out b3_w8.out rfl _ rfl rfl ?_))
  refine (HLV.out _).mono ?_
  rintro e w9 ⟨rfl, hw9⟩
  have hBw9 := Hid.mk' (hBw8.out.trans (Below.mono hw9 lew8))
  have szw9 : w8.heap.size ≤ w9.heap.size := hw9.size
  have lew9 : w.heap.size ≤ w9.heap.size := by omega
  have b0_w9 := Hid.mk' (b0_w8.out.later hw9)
  have qb0_w9_w9 : w.heap.size < w9.heap.size := b0_w9.out.lt
  have b1_w9 := Hid.mk' (b1_w8.out.later hw9)
  have qb1_w9_w9 : w1.heap.size < w9.heap.size := b1_w9.out.lt
  have b2_w9 := Hid.mk' (b2_w8.out.later hw9)
  have qb2_w9_w9 : w3.heap.size < w9.heap.size := b2_w9.out.lt
  have b3_w9 := Hid.mk' (b3_w8.out.later hw9)
  have qb3_w9_w9 : w4.heap.size < w9.heap.size := b3_w9.out.lt
  clear hw9 szw9 b0_w8 b1_w8 b2_w8 b3_w8
  go_wp2_with (first | (refine wpList_load_box 24 24 (bcells a) w.heap.size _ Try.underlying24 rfl HSa.out b0_w9.out rfl _ rfl rfl ?_) | (refine wpList_load_box 24 24 (bcells b) w1.heap.size _ Try.underlying24 rfl HSb.out b1_w9.out rfl _ rfl rfl ?_) | (refine wpList_load_box 24 24 (bcells noK) w3.heap.size _ Try.underlying24 rfl HS.out b2_w9.out rfl _ rfl rfl ?_) | (refine wpList_load_box 24 24 (bcells noK) w4.heap.size _ Try.underlying24 rfl HS.out b3_w9.out rfl _ rfl rfl ?_))
  go_ret
  exact ⟨rfl, hBw9.out⟩

/-- what the loop keeps -/
def LA (w : World) (a b x y : List Value) (b1 b2 b3 : Nat) (g : Nat) (s9 : Value) (wr : World) : Prop :=
  ∃ (n : Nat), 1 ≤ n ∧ n ≤ 19 ∧ 19 - n ≤ g ∧ s9 = .int .i64 (n : Int) ∧ Hid (Box wr w.heap.size 24 a) ∧ Hid (Box wr b1 24 b) ∧ Hid (Box wr b2 24 x) ∧ Hid (Box wr b3 24 y) ∧ Hid (Below w.heap.size w wr)
theorem i8_eq {x y : UInt8} (h : x = y) : ((x.toNat : Int) == (y.toNat : Int)) = true := by rw [h]; exact beq_self_eq_true _
theorem i8_one (x : UInt8) : (x = 1 ∧ ((x.toNat : Int) == 1) = true ∧ ((x.toNat : Int) != 1) = false) ∨ (x ≠ 1 ∧ ((x.toNat : Int) == 1) = false ∧ ((x.toNat : Int) != 1) = true) := by
  by_cases h : x = 1
  · subst h; exact .inl ⟨rfl, rfl, rfl⟩
  · have h2 : ((x.toNat : Int) == 1) = false := by
      rw [beq_eq_false_iff_ne]
      exact fun e => h (UInt8.toNat_inj.1 (show x.toNat = 1 by omega))
    exact .inr ⟨h, h2, by rw [bne, h2]; rfl⟩
theorem i8_two (x : UInt8) : (x = 2 ∧ ((x.toNat : Int) == 2) = true) ∨ (x ≠ 2 ∧ ((x.toNat : Int) == 2) = false) := by
  by_cases h : x = 2
  · subst h; exact .inl ⟨rfl, rfl⟩
  · have h2 : ((x.toNat : Int) == 2) = false := by
      rw [beq_eq_false_iff_ne]
      exact fun e => h (UInt8.toNat_inj.1 (show x.toNat = 2 by omega))
    exact .inr ⟨h, h2⟩

set_option maxRecDepth 20000 in
set_option maxHeartbeats 16000000 in
theorem Agree_ok (a : List UInt8) (ha : a.length = 38) (b : List UInt8) (hb : b.length = 38) (hra : right a = true) (hrb : right b = true) (x y : List UInt8) (n : Nat) (hX : meetT a b = (x, y, n, 0)) (hn1 : 1 ≤ n) (hn3 : n ≤ 3) (hxr : right x = true) (hB : Both a b x y) (w : World) :
    Calls Try.prog 5 #[KV a, KV b] w fun e w' => e = .returned (.bool true) ∧ Below w.heap.size w w' := by
  have HZK := Hid.mk' zeroK
  have HLV := Hid.mk' lives_any
  have H1 : Hid (∀ w, Calls Try.prog 15 #[KV a, KV b] w fun e w' => e = .returned (.tuple #[KV x, KV y, .int .i64 (n : Int), .int .i64 0]) ∧ Below w.heap.size w w') := fun w => by
    have h := Meet_any a b ha hb w
    rw [hX] at h
    exact h
  obtain ⟨hx, hy⟩ := meetT_len a b ha hb
  rw [hX] at hx hy
  dsimp only at hx hy
  have hxc : chk x = 0 := by unfold chk; rw [if_pos hxr]
  have H6 := Hid.mk' (KeysRight_any x hx)
  rw [hxc] at H6
  have HOx := Hid.mk' (bcells_one x)
  have HOy := Hid.mk' (bcells_one y)
  have HSa := Hid.mk' (sizeKV a ha)
  have HSb := Hid.mk' (sizeKV b hb)
  have HS0 := Hid.mk' (sizeKV noK rfl)
  have HSx := Hid.mk' (sizeKV x hx)
  have HSy := Hid.mk' (sizeKV y hy)
  have HNx : Hid ((bcells noK).length = (bcells x).length) := by rw [bcells_length, bcells_length, hx]; rfl
  have HNy : Hid ((bcells noK).length = (bcells y).length) := by rw [bcells_length, bcells_length, hy]; rfl
  have HCa : Hid (∀ j, j < 19 → (bcells a)[j]? = some (.int .u8 ((lv a j).toNat : Int)) ∧ (bcells a)[19 + j]? = some (.int .u8 ((ch a j).toNat : Int))) := fun j hj => ⟨bcells_lv a ha j hj, bcells_ch a ha j hj⟩
  have HCb : Hid (∀ j, j < 19 → (bcells b)[j]? = some (.int .u8 ((lv b j).toNat : Int)) ∧ (bcells b)[19 + j]? = some (.int .u8 ((ch b j).toNat : Int))) := fun j hj => ⟨bcells_lv b hb j hj, bcells_ch b hb j hj⟩
  have HCx : Hid (∀ j, j < 19 → (bcells x)[j]? = some (.int .u8 ((lv x j).toNat : Int)) ∧ (bcells x)[19 + j]? = some (.int .u8 ((ch x j).toNat : Int))) := fun j hj => ⟨bcells_lv x hx j hj, bcells_ch x hx j hj⟩
  have HCy : Hid (∀ j, j < 19 → (bcells y)[j]? = some (.int .u8 ((lv y j).toNat : Int)) ∧ (bcells y)[19 + j]? = some (.int .u8 ((ch y j).toNat : Int))) := fun j hj => ⟨bcells_lv y hy j hj, bcells_ch y hy j hj⟩
  have HSY : Hid (∀ j, 1 ≤ j → j ≤ 18 → lv x j = lv y j ∧ ch x j = ch y j ∧ (lv a j = 1 → lv b j ≠ 1 → lv x j = 1 ∧ ch x j = ch a j) ∧ (lv b j = 1 → lv a j = 2 → lv x j = 1 ∧ ch x j = ch b j)) := fun j h1 h2 => both_says hra hrb hB j h1 h2
  have HLx : Hid ((bcells x).length = 38) := by rw [bcells_length, hx]; rfl
  have HSTA : Hid (∀ (b1 b2 b3 : Nat) (wr : World), Box wr w.heap.size 24 (bcells a) → Box wr b1 24 (bcells b) → Box wr b2 24 (bcells x) → Box wr b3 24 (bcells y) → Below w.heap.size w wr → LA w (bcells a) (bcells b) (bcells x) (bcells y) b1 b2 b3 18 (.int .i64 1) wr) := fun b1 b2 b3 wr h1 h2 h3 h4 h5 =>
    ⟨1, Nat.le_refl _, by omega, by omega, rfl, h1, h2, h3, h4, h5⟩
  have HN1 : Hid (1 ≤ (n : Int) ∧ (n : Int) ≤ 3) := by constructor <;> omega
  generalize (n : Int) = NN at *
  clear hX hn1 hn3 hB hra hrb hxr hxc
  unfold KV at *
  go_enter Try.func5, Try.ntmps5
  have hB0 := Hid.mk' (Below.refl w.heap.size w)
  have le0 : w.heap.size ≤ w.heap.size := Nat.le_refl _
  go_wp2_with (refine wpList_box (bcells a) 24 rfl _ rfl rfl ?_)
  intro w1 mw1
  have ltw1 : w.heap.size < w1.heap.size := mw1.lt
  have hBw1 := Hid.mk' (mw1.below w.heap.size w le0 hB0.out)
  have lew1 : w.heap.size ≤ w1.heap.size := by omega
  have b0_w1 := Hid.mk' mw1.box
  clear mw1 
  go_wp2_with (refine wpList_box (bcells b) 24 rfl _ rfl rfl ?_)
  intro w2 mw2
  have ltw2 : w1.heap.size < w2.heap.size := mw2.lt
  have hBw2 := Hid.mk' (mw2.below w.heap.size w lew1 hBw1.out)
  have lew2 : w.heap.size ≤ w2.heap.size := by omega
  have b0_w2 := Hid.mk' (mw2.keep b0_w1.out)
  have lbb0_w2 : w.heap.size < w2.heap.size := by omega
  have b1_w2 := Hid.mk' mw2.box
  clear mw2 b0_w1
  go_wp2_with (first | (refine wpList_load_box 24 24 (bcells a) w.heap.size _ Try.underlying24 rfl HSa.out b0_w2.out rfl _ rfl rfl ?_) | (refine wpList_load_box 24 24 (bcells b) w1.heap.size _ Try.underlying24 rfl HSb.out b1_w2.out rfl _ rfl rfl ?_))
  refine (H1.out _).mono ?_
  rintro e w3 ⟨rfl, hw3⟩
  have hBw3 := Hid.mk' (hBw2.out.trans (Below.mono hw3 lew2))
  have szw3 : w2.heap.size ≤ w3.heap.size := hw3.size
  have lew3 : w.heap.size ≤ w3.heap.size := by omega
  have b0_w3 := Hid.mk' (b0_w2.out.later hw3)
  have qb0_w3_w3 : w.heap.size < w3.heap.size := b0_w3.out.lt
  have b1_w3 := Hid.mk' (b1_w2.out.later hw3)
  have qb1_w3_w3 : w1.heap.size < w3.heap.size := b1_w3.out.lt
  clear hw3 szw3 b0_w2 b1_w2
  go_wp2_with (first | (refine wpList_load_box 24 24 (bcells a) w.heap.size _ Try.underlying24 rfl HSa.out b0_w3.out rfl _ rfl rfl ?_) | (refine wpList_load_box 24 24 (bcells b) w1.heap.size _ Try.underlying24 rfl HSb.out b1_w3.out rfl _ rfl rfl ?_) | (refine wpList_alloc (bcells noK) 24 HZK.out rfl rfl ?_))
  intro w4 mw4
  have ltw4 : w3.heap.size < w4.heap.size := mw4.lt
  have hBw4 := Hid.mk' (mw4.below w.heap.size w lew3 hBw3.out)
  have lew4 : w.heap.size ≤ w4.heap.size := by omega
  have b0_w4 := Hid.mk' (mw4.keep b0_w3.out)
  have lbb0_w4 : w.heap.size < w4.heap.size := by omega
  have b1_w4 := Hid.mk' (mw4.keep b1_w3.out)
  have lbb1_w4 : w1.heap.size < w4.heap.size := by omega
  have b2_w4 := Hid.mk' mw4.box
  clear mw4 b0_w3 b1_w3
  go_wp2_with (first | (refine wpList_load_box 24 24 (bcells a) w.heap.size _ Try.underlying24 rfl HSa.out b0_w4.out rfl _ rfl rfl ?_) | (refine wpList_load_box 24 24 (bcells b) w1.heap.size _ Try.underlying24 rfl HSb.out b1_w4.out rfl _ rfl rfl ?_) | (refine wpList_load_box 24 24 (bcells noK) w3.heap.size _ Try.underlying24 rfl HS0.out b2_w4.out rfl _ rfl rfl ?_) | (refine wpList_alloc (bcells noK) 24 HZK.out rfl rfl ?_))
  intro w5 mw5
  have ltw5 : w4.heap.size < w5.heap.size := mw5.lt
  have hBw5 := Hid.mk' (mw5.below w.heap.size w lew4 hBw4.out)
  have lew5 : w.heap.size ≤ w5.heap.size := by omega
  have b0_w5 := Hid.mk' (mw5.keep b0_w4.out)
  have lbb0_w5 : w.heap.size < w5.heap.size := by omega
  have b1_w5 := Hid.mk' (mw5.keep b1_w4.out)
  have lbb1_w5 : w1.heap.size < w5.heap.size := by omega
  have b2_w5 := Hid.mk' (mw5.keep b2_w4.out)
  have lbb2_w5 : w3.heap.size < w5.heap.size := by omega
  have b3_w5 := Hid.mk' mw5.box
  clear mw5 b0_w4 b1_w4 b2_w4
  go_wp2_with (first | (refine wpList_load_box 24 24 (bcells a) w.heap.size _ Try.underlying24 rfl HSa.out b0_w5.out rfl _ rfl rfl ?_) | (refine wpList_load_box 24 24 (bcells b) w1.heap.size _ Try.underlying24 rfl HSb.out b1_w5.out rfl _ rfl rfl ?_) | (refine wpList_store_box 24 24 (bcells noK) (bcells x) w3.heap.size HSx.out HOx.out b2_w5.out HNx.out rfl _ _ rfl rfl rfl ?_))
  intro w6 sw6
  have hBw6 := Hid.mk' (sw6.below w.heap.size w (by omega) hBw5.out)
  have szw6 : w6.heap.size = w5.heap.size := sw6.size
  have lew6 : w.heap.size ≤ w6.heap.size := by omega
  have b0_w6 := Hid.mk' (sw6.keep b0_w5.out (by omega))
  have b1_w6 := Hid.mk' (sw6.keep b1_w5.out (by omega))
  have b2_w6 := Hid.mk' sw6.box
  have b3_w6 := Hid.mk' (sw6.keep b3_w5.out (by omega))
  have qw6 : w4.heap.size < w6.heap.size := b3_w6.out.lt
  clear sw6 b0_w5 b1_w5 b2_w5 b3_w5
  go_wp2_with (first | (refine wpList_load_box 24 24 (bcells a) w.heap.size _ Try.underlying24 rfl HSa.out b0_w6.out rfl _ rfl rfl ?_) | (refine wpList_load_box 24 24 (bcells b) w1.heap.size _ Try.underlying24 rfl HSb.out b1_w6.out rfl _ rfl rfl ?_) | (refine wpList_load_box 24 24 (bcells x) w3.heap.size _ Try.underlying24 rfl HSx.out b2_w6.out rfl _ rfl rfl ?_) | (refine wpList_store_box 24 24 (bcells noK) (bcells y) w4.heap.size HSy.out HOy.out b3_w6.out HNy.out rfl _ _ rfl rfl rfl ?_))
  intro w7 sw7
  have hBw7 := Hid.mk' (sw7.below w.heap.size w (by omega) hBw6.out)
  have szw7 : w7.heap.size = w6.heap.size := sw7.size
  have lew7 : w.heap.size ≤ w7.heap.size := by omega
  have b0_w7 := Hid.mk' (sw7.keep b0_w6.out (by omega))
  have b1_w7 := Hid.mk' (sw7.keep b1_w6.out (by omega))
  have b2_w7 := Hid.mk' (sw7.keep b2_w6.out (by omega))
  have b3_w7 := Hid.mk' sw7.box
  have qw7 : w4.heap.size < w7.heap.size := b3_w7.out.lt
  clear sw7 b0_w6 b1_w6 b2_w6 b3_w6
  go_wp2_with (first | (refine wpList_load_box 24 24 (bcells a) w.heap.size _ Try.underlying24 rfl HSa.out b0_w7.out rfl _ rfl rfl ?_) | (refine wpList_load_box 24 24 (bcells b) w1.heap.size _ Try.underlying24 rfl HSb.out b1_w7.out rfl _ rfl rfl ?_) | (refine wpList_load_box 24 24 (bcells x) w3.heap.size _ Try.underlying24 rfl HSx.out b2_w7.out rfl _ rfl rfl ?_) | (refine wpList_load_box 24 24 (bcells y) w4.heap.size _ Try.underlying24 rfl HSy.out b3_w7.out rfl _ rfl rfl ?_))
  refine (HLV.out _).mono ?_
  rintro e w8 ⟨rfl, hw8⟩
  have hBw8 := Hid.mk' (hBw7.out.trans (Below.mono hw8 lew7))
  have szw8 : w7.heap.size ≤ w8.heap.size := hw8.size
  have lew8 : w.heap.size ≤ w8.heap.size := by omega
  have b0_w8 := Hid.mk' (b0_w7.out.later hw8)
  have qb0_w8_w8 : w.heap.size < w8.heap.size := b0_w8.out.lt
  have b1_w8 := Hid.mk' (b1_w7.out.later hw8)
  have qb1_w8_w8 : w1.heap.size < w8.heap.size := b1_w8.out.lt
  have b2_w8 := Hid.mk' (b2_w7.out.later hw8)
  have qb2_w8_w8 : w3.heap.size < w8.heap.size := b2_w8.out.lt
  have b3_w8 := Hid.mk' (b3_w7.out.later hw8)
  have qb3_w8_w8 : w4.heap.size < w8.heap.size := b3_w8.out.lt
  clear hw8 szw8 b0_w7 b1_w7 b2_w7 b3_w7
  have HST2 := Hid.mk' (HSTA.out w1.heap.size w3.heap.size w4.heap.size w8 b0_w8.out b1_w8.out b2_w8.out b3_w8.out hBw8.out)
  clear b0_w8 b1_w8 b2_w8 b3_w8 hBw8 HSTA HLV
  go_wp2_with fail
  go_loopg [9] 18 (fun g s9 wr => LA w (bcells a) (bcells b) (bcells x) (bcells y) w1.heap.size w3.heap.size w4.heap.size g s9 wr)
  case atStart => exact HST2.out
  case round =>
    obtain ⟨n, hn1, hn, hg, rfl, B0, B1, B2, B3, BL⟩ := hrel
    clear HST2
    by_cases hlt : n < 19
    · have n0 : (0 : Int) ≤ (n : Int) := by omega
      have n1 : (n : Int) < 19 := by omega
      have n2 : (n : Int) ≤ 18 := by omega
      have a0 := B0.out.cell (HCa.out n hlt).1
      have a1 := B0.out.cell (HCa.out n hlt).2
      have c0 := B1.out.cell (HCb.out n hlt).1
      have c1 := B1.out.cell (HCb.out n hlt).2
      have x0 := B2.out.cell (HCx.out n hlt).1
      have x1 := B2.out.cell (HCx.out n hlt).2
      have y0 := B3.out.cell (HCy.out n hlt).1
      have y1 := B3.out.cell (HCy.out n hlt).2
      obtain ⟨q1, q2, q3, q4⟩ := HSY.out n hn1 (by omega)
      rw [← q1] at y0
      rw [← q2] at y1
      have B0D : ∀ m, Hid (Box (wr.drewN m) w.heap.size 24 (bcells a)) := fun m => B0.out
      have B1D : ∀ m, Hid (Box (wr.drewN m) w1.heap.size 24 (bcells b)) := fun m => B1.out
      have B2D : ∀ m, Hid (Box (wr.drewN m) w3.heap.size 24 (bcells x)) := fun m => B2.out
      have B3D : ∀ m, Hid (Box (wr.drewN m) w4.heap.size 24 (bcells y)) := fun m => B3.out
      have BLD : ∀ m, Hid (Below w.heap.size w (wr.drewN m)) := fun m => below_drewN BL.out m
      clear B0 B1 B2 B3 BL q1 q2
      have hl0 : (((lv x n).toNat : Int) != ((lv x n).toNat : Int)) = false := by simp
      have hc0 : (((ch x n).toNat : Int) != ((ch x n).toNat : Int)) = false := by simp
      rcases i8_one (lv a n) with ⟨e1, f1, f2⟩ | ⟨e1, f1, f2⟩
      · rcases i8_one (lv b n) with ⟨e2, g1, g2⟩ | ⟨e2, g1, g2⟩
        · have k2 : (((lv a n).toNat : Int) == 2) = false := by rw [e1]; rfl
          clear q3 q4 e1 e2 f2
          generalize ((lv a n).toNat : Int) = la at *
          generalize ((ch a n).toNat : Int) = ca at *
          generalize ((lv b n).toNat : Int) = lb at *
          generalize ((ch b n).toNat : Int) = cb at *
          generalize ((lv x n).toNat : Int) = lx at *
          generalize ((ch x n).toNat : Int) = cx at *
          go_wp2_with fail
          go_quiet (fail)
          all_goals go_wp2_with fail
          all_goals go_quiet (fail)
          all_goals go_wp2_with fail
          all_goals go_quiet (fail)
          all_goals go_wp2
          all_goals go_roundg (19 - (n + 1))
          case measure => omega
          case rel => exact ⟨n + 1, by omega, by omega, by omega, by go_num, B0D _, B1D _, B2D _, B3D _, BLD _⟩
        · obtain ⟨r1, r2⟩ := q3 e1 e2
          have k3 : (((lv x n).toNat : Int) != 1) = false := by rw [r1]; rfl
          have k4 : (((ch x n).toNat : Int) != ((ch a n).toNat : Int)) = false := by rw [r2]; simp
          clear q3 q4 e1 e2 f2 r1 r2
          generalize ((lv a n).toNat : Int) = la at *
          generalize ((ch a n).toNat : Int) = ca at *
          generalize ((lv b n).toNat : Int) = lb at *
          generalize ((ch b n).toNat : Int) = cb at *
          generalize ((lv x n).toNat : Int) = lx at *
          generalize ((ch x n).toNat : Int) = cx at *
          go_wp2_with fail
          go_quiet (fail)
          all_goals go_wp2_with fail
          all_goals go_quiet (fail)
          all_goals go_wp2_with fail
          all_goals go_quiet (fail)
          all_goals go_wp2
          all_goals go_roundg (19 - (n + 1))
          case measure => omega
          case rel => exact ⟨n + 1, by omega, by omega, by omega, by go_num, B0D _, B1D _, B2D _, B3D _, BLD _⟩
      · rcases i8_one (lv b n) with ⟨e2, g1, g2⟩ | ⟨e2, g1, g2⟩
        · rcases i8_two (lv a n) with ⟨e3, k2⟩ | ⟨e3, k2⟩
          · obtain ⟨r1, r2⟩ := q4 e2 e3
            have k3 : (((lv x n).toNat : Int) != 1) = false := by rw [r1]; rfl
            have k4 : (((ch x n).toNat : Int) != ((ch b n).toNat : Int)) = false := by rw [r2]; simp
            clear q3 q4 e1 e2 e3 f2 g2 r1 r2
            generalize ((lv a n).toNat : Int) = la at *
            generalize ((ch a n).toNat : Int) = ca at *
            generalize ((lv b n).toNat : Int) = lb at *
            generalize ((ch b n).toNat : Int) = cb at *
            generalize ((lv x n).toNat : Int) = lx at *
            generalize ((ch x n).toNat : Int) = cx at *
            go_wp2_with fail
            go_quiet (fail)
            all_goals go_wp2_with fail
            all_goals go_quiet (fail)
            all_goals go_wp2_with fail
            all_goals go_quiet (fail)
            all_goals go_wp2
            all_goals go_roundg (19 - (n + 1))
            case measure => omega
            case rel => exact ⟨n + 1, by omega, by omega, by omega, by go_num, B0D _, B1D _, B2D _, B3D _, BLD _⟩
          · clear q3 q4 e1 e2 e3 f2 g2
            generalize ((lv a n).toNat : Int) = la at *
            generalize ((ch a n).toNat : Int) = ca at *
            generalize ((lv b n).toNat : Int) = lb at *
            generalize ((ch b n).toNat : Int) = cb at *
            generalize ((lv x n).toNat : Int) = lx at *
            generalize ((ch x n).toNat : Int) = cx at *
            go_wp2_with fail
            go_quiet (fail)
            all_goals go_wp2_with fail
            all_goals go_quiet (fail)
            all_goals go_wp2_with fail
            all_goals go_quiet (fail)
            all_goals go_wp2
            all_goals go_roundg (19 - (n + 1))
            case measure => omega
            case rel => exact ⟨n + 1, by omega, by omega, by omega, by go_num, B0D _, B1D _, B2D _, B3D _, BLD _⟩
        · clear q3 q4 e1 e2 f2 g2
          generalize ((lv a n).toNat : Int) = la at *
          generalize ((ch a n).toNat : Int) = ca at *
          generalize ((lv b n).toNat : Int) = lb at *
          generalize ((ch b n).toNat : Int) = cb at *
          generalize ((lv x n).toNat : Int) = lx at *
          generalize ((ch x n).toNat : Int) = cx at *
          go_wp2_with fail
          go_quiet (fail)
          all_goals go_wp2_with fail
          all_goals go_quiet (fail)
          all_goals go_wp2_with fail
          all_goals go_quiet (fail)
          all_goals go_wp2
          all_goals go_roundg (19 - (n + 1))
          case measure => omega
          case rel => exact ⟨n + 1, by omega, by omega, by omega, by go_num, B0D _, B1D _, B2D _, B3D _, BLD _⟩
    · obtain rfl : n = 19 := by omega
      obtain ⟨hN1, hN3⟩ := HN1.out
      have li := B2.out.lies0 (n := 38) HLx.out
      have ri := B2.out.row0 (n := 38) HLx.out
      have HEND := Hid.mk' (fun (w' : World) (h : Below wr.heap.size wr w') => BL.out.trans (Below.mono h BL.out.size))
      clear B0 B1 B2 B3 BL
      go_wp2_with (go_at_call 14; refine (H6.out _).mono ?_; rintro e wz ⟨rfl, hh⟩)
      go_ret
      exact ⟨rfl, HEND.out _ hh⟩

theorem SlcAgree_any (a : List UInt8) (ha : a.length = 38) (b : List UInt8) (hb : b.length = 38) (w : World) :
    Calls Try.prog 5 #[KV a, KV b] w fun e w' => e = .returned (.bool true) ∧ Below w.heap.size w w' := by
  by_cases hc : chk a = 0 ∧ chk b = 0
  · have hra := right_of hc.1
    have hrb := right_of hc.2
    obtain ⟨x, y, n, hT, h1, h3, hx, hB⟩ := talk_two a b ha hb hra hrb
    exact Agree_ok a ha b hb hra hrb x y n (by unfold meetT; rw [if_pos hc, hT]) h1 h3 hx hB w
  · exact Agree_no a ha b hb (by unfold meetT; rw [if_neg hc]) w
end Go.Proofs.Ytfipmggdpigbkaa.K
