/-
  Walk: farkeep.SlcQuiet returns true; condition: 38 bytes.
-/
import Derived.Test.YtfipmggdpigbkaaKLives
namespace Go.Proofs.Ytfipmggdpigbkaa.K
open Go.RowKit Go.Lib Go.Proofs.Ytfipmggdpigbkaa Go.Proofs.Ytfipmggdpigbkaa.W Go.Proofs.Ytfipmggdpigbkaa.Q

theorem or_all : ∀ n : Fin 256, bits .or .u8 (n.val : Int) 128 = (((UInt8.ofNat n.val) ||| 128).toNat : Int) ∧ 128 ≤ (UInt8.ofNat n.val) ||| 128 := by decide +kernel
theorem or_u8 (g : UInt8) : bits .or .u8 (g.toNat : Int) 128 = ((g ||| 128).toNat : Int) ∧ 128 ≤ g ||| 128 := by
  have h := or_all ⟨g.toNat, g.toNat_lt⟩
  simpa using h
theorem takeT_three {k : List UInt8} (f g c : UInt8) : takeT k [f, g, c] = if right k = true then ((take1 k f g c).1, (take1 k f g c).2, 0) else (k, [], 4) := by
  unfold takeT
  split
  · rw [if_pos (show [f, g, c].length % 3 = 0 by simp), if_pos (by simp), run_one]
  · rfl
theorem sure_quiet (k : List UInt8) (f g c : UInt8) (h : 128 ≤ g) : (takeT k [f, g, c]).2.1 = [] := by
  have h2 : ¬ g < 128 := by
    rw [UInt8.lt_iff_toNat_lt]
    rw [UInt8.le_iff_toNat_le] at h
    omega
  rw [takeT_three]
  unfold take1 say
  simp only [h, h2, if_true, if_false]
  repeat' split
  all_goals rfl
theorem twice_quiet {k : List UInt8} (f g c : UInt8) (h : 1 ≤ f.toNat) (h18 : f.toNat ≤ 18) (hl : lv k f.toNat = g % 4) (hc : ch k f.toNat = c) : (takeT k [f, g, c]).2.1 = [] := by
  rw [takeT_three]
  split
  · unfold take1 say
    rw [if_pos (show isF f = true from decide_eq_true ⟨h, h18⟩)]
    rw [if_pos ⟨hl.symm, hc.symm⟩]
    rfl
  · rfl

attribute [local go_sem ↓] exec_eqlK exec_loadK

set_option maxHeartbeats 8000000 in
theorem Quiet_no (k : List UInt8) (hk : k.length = 38) (f g c : UInt8) (hc : chk k = 4) (w : World) :
    Calls Try.prog 6 #[KV k, .int .u8 (f.toNat : Int), .int .u8 (g.toNat : Int), .int .u8 (c.toNat : Int)] w fun e w' => e = .returned (.bool true) ∧ Below w.heap.size w w' := by
  have HZK := Hid.mk' zeroK
  have HLV := Hid.mk' lives_any
  obtain ⟨hor, h128⟩ := or_u8 g
  have H1 := Hid.mk' (Take_any k hk [f, g ||| 128, c] (by simp))
  have HQ := sure_quiet k f (g ||| 128) c h128
  have hx : (takeT k [f, g ||| 128, c]).1.length = 38 := by rw [takeT_len, hk]
  have hcv1 : Hid (∀ w : World, (convert 36 9 (.slice (some ⟨w.heap.size, 0, none⟩) 3 3)).run Try.prog (w.alloc (.cells #[.int .u8 (f.toNat : Int), .int .u8 ((g ||| 128).toNat : Int), .int .u8 (c.toNat : Int)] 5)) = .ok (.string (bs [f, g ||| 128, c])) (w.alloc (.cells #[.int .u8 (f.toNat : Int), .int .u8 ((g ||| 128).toNat : Int), .int .u8 (c.toNat : Int)] 5))) := fun w => run_str (OwnB.lit w [f, g ||| 128, c] (by simp))
  have hcv2 : Hid (∀ w : World, (convert 36 9 (.slice (some ⟨w.heap.size, 0, none⟩) 3 3)).run Try.prog (w.alloc (.cells #[.int .u8 (f.toNat : Int), .int .u8 (g.toNat : Int), .int .u8 (c.toNat : Int)] 5)) = .ok (.string (bs [f, g, c])) (w.alloc (.cells #[.int .u8 (f.toNat : Int), .int .u8 (g.toNat : Int), .int .u8 (c.toNat : Int)] 5))) := fun w => run_str (OwnB.lit w [f, g, c] (by simp))
  have he : (takeT k [f, g ||| 128, c]).2.2 = 4 := by rw [takeT_form hc]
  unfold RK at H1
  generalize (takeT k [f, g ||| 128, c]) = X at *
  obtain ⟨x, s, e1⟩ := X
  dsimp only at *
  subst HQ he
  have HO0 := Hid.mk' (bcells_one noK)
  have HOx := Hid.mk' (bcells_one x)
  have HSk := Hid.mk' (sizeKV k hk)
  have HSx := Hid.mk' (sizeKV x hx)
  have HNx : Hid ((bcells noK).length = (bcells x).length) := by rw [bcells_length, bcells_length, hx]; rfl
  have HE : Hid ((bs []).toList.isEmpty = true) := by rw [Hid, bs_list]; rfl
  unfold KV at *
  generalize bs [f, g ||| 128, c] = A1 at *
  generalize bs [] = E0 at *
  generalize ((g ||| 128).toNat : Int) = G at *
  go_enter Try.func6, Try.ntmps6
  have hB0 := Hid.mk' (Below.refl w.heap.size w)
  have le0 : w.heap.size ≤ w.heap.size := Nat.le_refl _
  go_wp2_with (refine wpList_box (bcells k) 24 rfl _ rfl rfl ?_)
  intro w1 mw1
  have ltw1 : w.heap.size < w1.heap.size := mw1.lt
  have hBw1 := Hid.mk' (mw1.below w.heap.size w le0 hB0.out)
  have lew1 : w.heap.size ≤ w1.heap.size := by omega
  have b0_w1 := Hid.mk' mw1.box
  clear mw1 
  have hcv := hcv1.out
  go_wp2_with (first | (refine wpList_load_box 24 24 (bcells k) w.heap.size _ Try.underlying24 rfl HSk.out b0_w1.out rfl _ rfl rfl ?_))
  refine (H1.out _).mono ?_
  rintro e w2 ⟨rfl, hw2⟩
  have hw2 : Below w1.heap.size w1 w2 := Below.trans ((Below.refl _ _).alloc (Nat.le_refl _) _) (Below.mono hw2 (by rw [World.size_alloc]; omega))
  have hBw2 := Hid.mk' (hBw1.out.trans (Below.mono hw2 lew1))
  have szw2 : w1.heap.size ≤ w2.heap.size := hw2.size
  have lew2 : w.heap.size ≤ w2.heap.size := by omega
  have b0_w2 := Hid.mk' (b0_w1.out.later hw2)
  have qb0_w2_w2 : w.heap.size < w2.heap.size := b0_w2.out.lt
  clear hw2 szw2 b0_w1
  clear hcv
  go_wp2_with (first | (refine wpList_load_box 24 24 (bcells k) w.heap.size _ Try.underlying24 rfl HSk.out b0_w2.out rfl _ rfl rfl ?_) | (refine wpList_alloc (bcells noK) 24 HZK.out rfl rfl ?_))
  intro w3 mw3
  have ltw3 : w2.heap.size < w3.heap.size := mw3.lt
  have hBw3 := Hid.mk' (mw3.below w.heap.size w lew2 hBw2.out)
  have lew3 : w.heap.size ≤ w3.heap.size := by omega
  have b0_w3 := Hid.mk' (mw3.keep b0_w2.out)
  have lbb0_w3 : w.heap.size < w3.heap.size := by omega
  have b1_w3 := Hid.mk' mw3.box
  clear mw3 b0_w2
  go_wp2_with (first | (refine wpList_load_box 24 24 (bcells k) w.heap.size _ Try.underlying24 rfl HSk.out b0_w3.out rfl _ rfl rfl ?_) | (refine wpList_store_box 24 24 (bcells noK) (bcells x) w2.heap.size HSx.out HOx.out b1_w3.out HNx.out rfl _ _ rfl rfl rfl ?_))
  intro w4 sw4
  have hBw4 := Hid.mk' (sw4.below w.heap.size w (by omega) hBw3.out)
  have szw4 : w4.heap.size = w3.heap.size := sw4.size
  have lew4 : w.heap.size ≤ w4.heap.size := by omega
  have b0_w4 := Hid.mk' (sw4.keep b0_w3.out (by omega))
  have b1_w4 := Hid.mk' sw4.box
  have ltw4 : w3.heap.size < w4.heap.size ∨ True := .inr trivial
  clear sw4 b0_w3 b1_w3
  have qw4 : w2.heap.size < w4.heap.size := b1_w4.out.lt
  clear ltw4 szw4
  go_wp2_with (first | (refine wpList_load_box 24 24 (bcells k) w.heap.size _ Try.underlying24 rfl HSk.out b0_w4.out rfl _ rfl rfl ?_) | (refine wpList_load_box 24 24 (bcells x) w2.heap.size _ Try.underlying24 rfl HSx.out b1_w4.out rfl _ rfl rfl ?_))
  refine (HLV.out _).mono ?_
  rintro e w5 ⟨rfl, hw5⟩
  have hBw5 := Hid.mk' (hBw4.out.trans (Below.mono hw5 lew4))
  have szw5 : w4.heap.size ≤ w5.heap.size := hw5.size
  have lew5 : w.heap.size ≤ w5.heap.size := by omega
  have b0_w5 := Hid.mk' (b0_w4.out.later hw5)
  have qb0_w5_w5 : w.heap.size < w5.heap.size := b0_w5.out.lt
  have b1_w5 := Hid.mk' (b1_w4.out.later hw5)
  have qb1_w5_w5 : w2.heap.size < w5.heap.size := b1_w5.out.lt
  clear hw5 szw5 b0_w4 b1_w4
  go_wp2_with (first | (refine wpList_load_box 24 24 (bcells k) w.heap.size _ Try.underlying24 rfl HSk.out b0_w5.out rfl _ rfl rfl ?_) | (refine wpList_load_box 24 24 (bcells x) w2.heap.size _ Try.underlying24 rfl HSx.out b1_w5.out rfl _ rfl rfl ?_))
  refine (HLV.out _).mono ?_
  rintro e w6 ⟨rfl, hw6⟩
  have hBw6 := Hid.mk' (hBw5.out.trans (Below.mono hw6 lew5))
  have szw6 : w5.heap.size ≤ w6.heap.size := hw6.size
  have lew6 : w.heap.size ≤ w6.heap.size := by omega
  have b0_w6 := Hid.mk' (b0_w5.out.later hw6)
  have qb0_w6_w6 : w.heap.size < w6.heap.size := b0_w6.out.lt
  have b1_w6 := Hid.mk' (b1_w5.out.later hw6)
  have qb1_w6_w6 : w2.heap.size < w6.heap.size := b1_w6.out.lt
  clear hw6 szw6 b0_w5 b1_w5
  have hEE := HE.out
  go_wp2_with (first | (refine wpList_load_box 24 24 (bcells k) w.heap.size _ Try.underlying24 rfl HSk.out b0_w6.out rfl _ rfl rfl ?_) | (refine wpList_load_box 24 24 (bcells x) w2.heap.size _ Try.underlying24 rfl HSx.out b1_w6.out rfl _ rfl rfl ?_))
  go_ret
  exact ⟨rfl, hBw6.out⟩

set_option maxHeartbeats 8000000 in
theorem Quiet_u (k : List UInt8) (hk : k.length = 38) (f g c : UInt8) (hr : right k = true) (hu : (takeT (takeT k [f, g, c]).1 [f, g, c]).2.1 = []) (w : World) :
    Calls Try.prog 6 #[KV k, .int .u8 (f.toNat : Int), .int .u8 (g.toNat : Int), .int .u8 (c.toNat : Int)] w fun e w' => e = .returned (.bool true) ∧ Below w.heap.size w w' := by
  have HZK := Hid.mk' zeroK
  have HLV := Hid.mk' lives_any
  obtain ⟨hor, h128⟩ := or_u8 g
  have H1 := Hid.mk' (Take_any k hk [f, g ||| 128, c] (by simp))
  have HQ := sure_quiet k f (g ||| 128) c h128
  have hx : (takeT k [f, g ||| 128, c]).1.length = 38 := by rw [takeT_len, hk]
  have hcv1 : Hid (∀ w : World, (convert 36 9 (.slice (some ⟨w.heap.size, 0, none⟩) 3 3)).run Try.prog (w.alloc (.cells #[.int .u8 (f.toNat : Int), .int .u8 ((g ||| 128).toNat : Int), .int .u8 (c.toNat : Int)] 5)) = .ok (.string (bs [f, g ||| 128, c])) (w.alloc (.cells #[.int .u8 (f.toNat : Int), .int .u8 ((g ||| 128).toNat : Int), .int .u8 (c.toNat : Int)] 5))) := fun w => run_str (OwnB.lit w [f, g ||| 128, c] (by simp))
  have hcv2 : Hid (∀ w : World, (convert 36 9 (.slice (some ⟨w.heap.size, 0, none⟩) 3 3)).run Try.prog (w.alloc (.cells #[.int .u8 (f.toNat : Int), .int .u8 (g.toNat : Int), .int .u8 (c.toNat : Int)] 5)) = .ok (.string (bs [f, g, c])) (w.alloc (.cells #[.int .u8 (f.toNat : Int), .int .u8 (g.toNat : Int), .int .u8 (c.toNat : Int)] 5))) := fun w => run_str (OwnB.lit w [f, g, c] (by simp))
  have h1 : (takeT k [f, g ||| 128, c]).2.2 = 0 := by rw [takeT_three, if_pos hr]
  have h2 : (takeT k [f, g, c]).2.2 = 0 := by rw [takeT_three, if_pos hr]
  have ha : (takeT k [f, g, c]).1.length = 38 := by rw [takeT_len, hk]
  have hra : right (takeT k [f, g, c]).1 = true := by rw [takeT_three, if_pos hr]; exact take1_right hk hr f g c
  have h3 : (takeT (takeT k [f, g, c]).1 [f, g, c]).2.2 = 0 := by rw [takeT_three, if_pos hra]
  have hb : (takeT (takeT k [f, g, c]).1 [f, g, c]).1.length = 38 := by rw [takeT_len, ha]
  have H2 := Hid.mk' (Take_any k hk [f, g, c] (by simp))
  have H3 := Hid.mk' (Take_any (takeT k [f, g, c]).1 ha [f, g, c] (by simp))
  have hU : (bs (takeT (takeT k [f, g, c]).1 [f, g, c]).2.1).toList.isEmpty = true := by
    rw [bs_list, hu]
    rfl
  clear hu
  unfold RK at H1 H2 H3
  generalize (takeT (takeT k [f, g, c]).1 [f, g, c]) = Z at *
  generalize (takeT k [f, g, c]) = Y at *
  generalize (takeT k [f, g ||| 128, c]) = X at *
  obtain ⟨x, s, e1⟩ := X
  obtain ⟨a, s2, e2⟩ := Y
  obtain ⟨b, u, e3⟩ := Z
  dsimp only at *
  subst HQ h1 h2 h3
  have HO0 := Hid.mk' (bcells_one noK)
  have HOx := Hid.mk' (bcells_one x)
  have HSk := Hid.mk' (sizeKV k hk)
  have HSx := Hid.mk' (sizeKV x hx)
  have HNx : Hid ((bcells noK).length = (bcells x).length) := by rw [bcells_length, bcells_length, hx]; rfl
  have HE : Hid ((bs []).toList.isEmpty = true) := by rw [Hid, bs_list]; rfl
  have HOa := Hid.mk' (bcells_one a)
  have HOb := Hid.mk' (bcells_one b)
  have HSa := Hid.mk' (sizeKV a ha)
  have HSb := Hid.mk' (sizeKV b hb)
  have HNa : Hid ((bcells noK).length = (bcells a).length) := by rw [bcells_length, bcells_length, ha]; rfl
  have HNb : Hid ((bcells noK).length = (bcells b).length) := by rw [bcells_length, bcells_length, hb]; rfl
  unfold KV at *
  clear hr hra
  have hfb := u8_bd f
  have hgb := u8_bd g
  generalize bs [f, g ||| 128, c] = A1 at *
  generalize bs [f, g, c] = A2 at *
  generalize bs u = U at *
  generalize bs [] = E0 at *
  generalize ((g ||| 128).toNat : Int) = G at *
  go_enter Try.func6, Try.ntmps6
  have hB0 := Hid.mk' (Below.refl w.heap.size w)
  have le0 : w.heap.size ≤ w.heap.size := Nat.le_refl _
  go_wp2_with (refine wpList_box (bcells k) 24 rfl _ rfl rfl ?_)
  intro w1 mw1
  have ltw1 : w.heap.size < w1.heap.size := mw1.lt
  have hBw1 := Hid.mk' (mw1.below w.heap.size w le0 hB0.out)
  have lew1 : w.heap.size ≤ w1.heap.size := by omega
  have b0_w1 := Hid.mk' mw1.box
  clear mw1 
  have hcv := hcv1.out
  go_wp2_with (first | (refine wpList_load_box 24 24 (bcells k) w.heap.size _ Try.underlying24 rfl HSk.out b0_w1.out rfl _ rfl rfl ?_))
  refine (H1.out _).mono ?_
  rintro e w2 ⟨rfl, hw2⟩
  have hw2 : Below w1.heap.size w1 w2 := Below.trans ((Below.refl _ _).alloc (Nat.le_refl _) _) (Below.mono hw2 (by rw [World.size_alloc]; omega))
  have hBw2 := Hid.mk' (hBw1.out.trans (Below.mono hw2 lew1))
  have szw2 : w1.heap.size ≤ w2.heap.size := hw2.size
  have lew2 : w.heap.size ≤ w2.heap.size := by omega
  have b0_w2 := Hid.mk' (b0_w1.out.later hw2)
  have qb0_w2_w2 : w.heap.size < w2.heap.size := b0_w2.out.lt
  clear hw2 szw2 b0_w1
  clear hcv
  go_wp2_with (first | (refine wpList_load_box 24 24 (bcells k) w.heap.size _ Try.underlying24 rfl HSk.out b0_w2.out rfl _ rfl rfl ?_) | (refine wpList_alloc (bcells noK) 24 HZK.out rfl rfl ?_))
  intro w3 mw3
  have ltw3 : w2.heap.size < w3.heap.size := mw3.lt
  have hBw3 := Hid.mk' (mw3.below w.heap.size w lew2 hBw2.out)
  have lew3 : w.heap.size ≤ w3.heap.size := by omega
  have b0_w3 := Hid.mk' (mw3.keep b0_w2.out)
  have lbb0_w3 : w.heap.size < w3.heap.size := by omega
  have b1_w3 := Hid.mk' mw3.box
  clear mw3 b0_w2
  go_wp2_with (first | (refine wpList_load_box 24 24 (bcells k) w.heap.size _ Try.underlying24 rfl HSk.out b0_w3.out rfl _ rfl rfl ?_) | (refine wpList_store_box 24 24 (bcells noK) (bcells x) w2.heap.size HSx.out HOx.out b1_w3.out HNx.out rfl _ _ rfl rfl rfl ?_))
  intro w4 sw4
  have hBw4 := Hid.mk' (sw4.below w.heap.size w (by omega) hBw3.out)
  have szw4 : w4.heap.size = w3.heap.size := sw4.size
  have lew4 : w.heap.size ≤ w4.heap.size := by omega
  have b0_w4 := Hid.mk' (sw4.keep b0_w3.out (by omega))
  have b1_w4 := Hid.mk' sw4.box
  have ltw4 : w3.heap.size < w4.heap.size ∨ True := .inr trivial
  clear sw4 b0_w3 b1_w3
  have qw4 : w2.heap.size < w4.heap.size := b1_w4.out.lt
  clear ltw4 szw4
  go_wp2_with (first | (refine wpList_load_box 24 24 (bcells k) w.heap.size _ Try.underlying24 rfl HSk.out b0_w4.out rfl _ rfl rfl ?_) | (refine wpList_load_box 24 24 (bcells x) w2.heap.size _ Try.underlying24 rfl HSx.out b1_w4.out rfl _ rfl rfl ?_))
  refine (HLV.out _).mono ?_
  rintro e w5 ⟨rfl, hw5⟩
  have hBw5 := Hid.mk' (hBw4.out.trans (Below.mono hw5 lew4))
  have szw5 : w4.heap.size ≤ w5.heap.size := hw5.size
  have lew5 : w.heap.size ≤ w5.heap.size := by omega
  have b0_w5 := Hid.mk' (b0_w4.out.later hw5)
  have qb0_w5_w5 : w.heap.size < w5.heap.size := b0_w5.out.lt
  have b1_w5 := Hid.mk' (b1_w4.out.later hw5)
  have qb1_w5_w5 : w2.heap.size < w5.heap.size := b1_w5.out.lt
  clear hw5 szw5 b0_w4 b1_w4
  have hcv := hcv2.out
  go_wp2_with (first | (refine wpList_load_box 24 24 (bcells k) w.heap.size _ Try.underlying24 rfl HSk.out b0_w5.out rfl _ rfl rfl ?_) | (refine wpList_load_box 24 24 (bcells x) w2.heap.size _ Try.underlying24 rfl HSx.out b1_w5.out rfl _ rfl rfl ?_))
  refine (H2.out _).mono ?_
  rintro e w6 ⟨rfl, hw6⟩
  have hw6 : Below w5.heap.size w5 w6 := Below.trans ((Below.refl _ _).alloc (Nat.le_refl _) _) (Below.mono hw6 (by rw [World.size_alloc]; omega))
  have hBw6 := Hid.mk' (hBw5.out.trans (Below.mono hw6 lew5))
  have szw6 : w5.heap.size ≤ w6.heap.size := hw6.size
  have lew6 : w.heap.size ≤ w6.heap.size := by omega
  have b0_w6 := Hid.mk' (b0_w5.out.later hw6)
  have qb0_w6_w6 : w.heap.size < w6.heap.size := b0_w6.out.lt
  have b1_w6 := Hid.mk' (b1_w5.out.later hw6)
  have qb1_w6_w6 : w2.heap.size < w6.heap.size := b1_w6.out.lt
  clear hw6 szw6 b0_w5 b1_w5
  clear hcv
  go_wp2_with (first | (refine wpList_load_box 24 24 (bcells k) w.heap.size _ Try.underlying24 rfl HSk.out b0_w6.out rfl _ rfl rfl ?_) | (refine wpList_load_box 24 24 (bcells x) w2.heap.size _ Try.underlying24 rfl HSx.out b1_w6.out rfl _ rfl rfl ?_) | (refine wpList_alloc (bcells noK) 24 HZK.out rfl rfl ?_))
  intro w7 mw7
  have ltw7 : w6.heap.size < w7.heap.size := mw7.lt
  have hBw7 := Hid.mk' (mw7.below w.heap.size w lew6 hBw6.out)
  have lew7 : w.heap.size ≤ w7.heap.size := by omega
  have b0_w7 := Hid.mk' (mw7.keep b0_w6.out)
  have lbb0_w7 : w.heap.size < w7.heap.size := by omega
  have b1_w7 := Hid.mk' (mw7.keep b1_w6.out)
  have lbb1_w7 : w2.heap.size < w7.heap.size := by omega
  have b2_w7 := Hid.mk' mw7.box
  clear mw7 b0_w6 b1_w6
  go_wp2_with (first | (refine wpList_load_box 24 24 (bcells k) w.heap.size _ Try.underlying24 rfl HSk.out b0_w7.out rfl _ rfl rfl ?_) | (refine wpList_load_box 24 24 (bcells x) w2.heap.size _ Try.underlying24 rfl HSx.out b1_w7.out rfl _ rfl rfl ?_) | (refine wpList_store_box 24 24 (bcells noK) (bcells a) w6.heap.size HSa.out HOa.out b2_w7.out HNa.out rfl _ _ rfl rfl rfl ?_))
  intro w8 sw8
  have hBw8 := Hid.mk' (sw8.below w.heap.size w (by omega) hBw7.out)
  have szw8 : w8.heap.size = w7.heap.size := sw8.size
  have lew8 : w.heap.size ≤ w8.heap.size := by omega
  have b0_w8 := Hid.mk' (sw8.keep b0_w7.out (by omega))
  have b1_w8 := Hid.mk' (sw8.keep b1_w7.out (by omega))
  have b2_w8 := Hid.mk' sw8.box
  have ltw8 : w7.heap.size < w8.heap.size ∨ True := .inr trivial
  clear sw8 b0_w7 b1_w7 b2_w7
  have qw8 : w6.heap.size < w8.heap.size := b2_w8.out.lt
  clear ltw8 szw8
  have hcv := hcv2.out
  go_wp2_with (first | (refine wpList_load_box 24 24 (bcells k) w.heap.size _ Try.underlying24 rfl HSk.out b0_w8.out rfl _ rfl rfl ?_) | (refine wpList_load_box 24 24 (bcells x) w2.heap.size _ Try.underlying24 rfl HSx.out b1_w8.out rfl _ rfl rfl ?_) | (refine wpList_load_box 24 24 (bcells a) w6.heap.size _ Try.underlying24 rfl HSa.out b2_w8.out rfl _ rfl rfl ?_))
  refine (H3.out _).mono ?_
  rintro e w9 ⟨rfl, hw9⟩
  have hw9 : Below w8.heap.size w8 w9 := Below.trans ((Below.refl _ _).alloc (Nat.le_refl _) _) (Below.mono hw9 (by rw [World.size_alloc]; omega))
  have hBw9 := Hid.mk' (hBw8.out.trans (Below.mono hw9 lew8))
  have szw9 : w8.heap.size ≤ w9.heap.size := hw9.size
  have lew9 : w.heap.size ≤ w9.heap.size := by omega
  have b0_w9 := Hid.mk' (b0_w8.out.later hw9)
  have qb0_w9_w9 : w.heap.size < w9.heap.size := b0_w9.out.lt
  have b1_w9 := Hid.mk' (b1_w8.out.later hw9)
  have qb1_w9_w9 : w2.heap.size < w9.heap.size := b1_w9.out.lt
  have b2_w9 := Hid.mk' (b2_w8.out.later hw9)
  have qb2_w9_w9 : w6.heap.size < w9.heap.size := b2_w9.out.lt
  clear hw9 szw9 b0_w8 b1_w8 b2_w8
  clear hcv
  go_wp2_with (first | (refine wpList_load_box 24 24 (bcells k) w.heap.size _ Try.underlying24 rfl HSk.out b0_w9.out rfl _ rfl rfl ?_) | (refine wpList_load_box 24 24 (bcells x) w2.heap.size _ Try.underlying24 rfl HSx.out b1_w9.out rfl _ rfl rfl ?_) | (refine wpList_load_box 24 24 (bcells a) w6.heap.size _ Try.underlying24 rfl HSa.out b2_w9.out rfl _ rfl rfl ?_) | (refine wpList_alloc (bcells noK) 24 HZK.out rfl rfl ?_))
  intro w10 mw10
  have ltw10 : w9.heap.size < w10.heap.size := mw10.lt
  have hBw10 := Hid.mk' (mw10.below w.heap.size w lew9 hBw9.out)
  have lew10 : w.heap.size ≤ w10.heap.size := by omega
  have b0_w10 := Hid.mk' (mw10.keep b0_w9.out)
  have lbb0_w10 : w.heap.size < w10.heap.size := by omega
  have b1_w10 := Hid.mk' (mw10.keep b1_w9.out)
  have lbb1_w10 : w2.heap.size < w10.heap.size := by omega
  have b2_w10 := Hid.mk' (mw10.keep b2_w9.out)
  have lbb2_w10 : w6.heap.size < w10.heap.size := by omega
  have b3_w10 := Hid.mk' mw10.box
  clear mw10 b0_w9 b1_w9 b2_w9
  go_wp2_with (first | (refine wpList_load_box 24 24 (bcells k) w.heap.size _ Try.underlying24 rfl HSk.out b0_w10.out rfl _ rfl rfl ?_) | (refine wpList_load_box 24 24 (bcells x) w2.heap.size _ Try.underlying24 rfl HSx.out b1_w10.out rfl _ rfl rfl ?_) | (refine wpList_load_box 24 24 (bcells a) w6.heap.size _ Try.underlying24 rfl HSa.out b2_w10.out rfl _ rfl rfl ?_) | (refine wpList_store_box 24 24 (bcells noK) (bcells b) w9.heap.size HSb.out HOb.out b3_w10.out HNb.out rfl _ _ rfl rfl rfl ?_))
  intro w11 sw11
  have hBw11 := Hid.mk' (sw11.below w.heap.size w (by omega) hBw10.out)
  have szw11 : w11.heap.size = w10.heap.size := sw11.size
  have lew11 : w.heap.size ≤ w11.heap.size := by omega
  have b0_w11 := Hid.mk' (sw11.keep b0_w10.out (by omega))
  have b1_w11 := Hid.mk' (sw11.keep b1_w10.out (by omega))
  have b2_w11 := Hid.mk' (sw11.keep b2_w10.out (by omega))
  have b3_w11 := Hid.mk' sw11.box
  have ltw11 : w10.heap.size < w11.heap.size ∨ True := .inr trivial
  clear sw11 b0_w10 b1_w10 b2_w10 b3_w10
  have qw11 : w9.heap.size < w11.heap.size := b3_w11.out.lt
  clear ltw11 szw11
  skip
  have hEE := HE.out
  go_wp2_with (first | (refine wpList_load_box 24 24 (bcells k) w.heap.size _ Try.underlying24 rfl HSk.out b0_w11.out rfl _ rfl rfl ?_) | (refine wpList_load_box 24 24 (bcells x) w2.heap.size _ Try.underlying24 rfl HSx.out b1_w11.out rfl _ rfl rfl ?_) | (refine wpList_load_box 24 24 (bcells a) w6.heap.size _ Try.underlying24 rfl HSa.out b2_w11.out rfl _ rfl rfl ?_) | (refine wpList_load_box 24 24 (bcells b) w9.heap.size _ Try.underlying24 rfl HSb.out b3_w11.out rfl _ rfl rfl ?_))
  go_ret
  exact ⟨rfl, hBw11.out⟩

set_option maxHeartbeats 8000000 in
theorem Quiet_asks (k : List UInt8) (hk : k.length = 38) (f g c : UInt8) (hr : right k = true) (hu : (takeT (takeT k [f, g, c]).1 [f, g, c]).2.1 ≠ []) (hg : ((g.toNat : Int) % 4 == 3) = true) (w : World) :
    Calls Try.prog 6 #[KV k, .int .u8 (f.toNat : Int), .int .u8 (g.toNat : Int), .int .u8 (c.toNat : Int)] w fun e w' => e = .returned (.bool true) ∧ Below w.heap.size w w' := by
  have HZK := Hid.mk' zeroK
  have HLV := Hid.mk' lives_any
  obtain ⟨hor, h128⟩ := or_u8 g
  have H1 := Hid.mk' (Take_any k hk [f, g ||| 128, c] (by simp))
  have HQ := sure_quiet k f (g ||| 128) c h128
  have hx : (takeT k [f, g ||| 128, c]).1.length = 38 := by rw [takeT_len, hk]
  have hcv1 : Hid (∀ w : World, (convert 36 9 (.slice (some ⟨w.heap.size, 0, none⟩) 3 3)).run Try.prog (w.alloc (.cells #[.int .u8 (f.toNat : Int), .int .u8 ((g ||| 128).toNat : Int), .int .u8 (c.toNat : Int)] 5)) = .ok (.string (bs [f, g ||| 128, c])) (w.alloc (.cells #[.int .u8 (f.toNat : Int), .int .u8 ((g ||| 128).toNat : Int), .int .u8 (c.toNat : Int)] 5))) := fun w => run_str (OwnB.lit w [f, g ||| 128, c] (by simp))
  have hcv2 : Hid (∀ w : World, (convert 36 9 (.slice (some ⟨w.heap.size, 0, none⟩) 3 3)).run Try.prog (w.alloc (.cells #[.int .u8 (f.toNat : Int), .int .u8 (g.toNat : Int), .int .u8 (c.toNat : Int)] 5)) = .ok (.string (bs [f, g, c])) (w.alloc (.cells #[.int .u8 (f.toNat : Int), .int .u8 (g.toNat : Int), .int .u8 (c.toNat : Int)] 5))) := fun w => run_str (OwnB.lit w [f, g, c] (by simp))
  have h1 : (takeT k [f, g ||| 128, c]).2.2 = 0 := by rw [takeT_three, if_pos hr]
  have h2 : (takeT k [f, g, c]).2.2 = 0 := by rw [takeT_three, if_pos hr]
  have ha : (takeT k [f, g, c]).1.length = 38 := by rw [takeT_len, hk]
  have hra : right (takeT k [f, g, c]).1 = true := by rw [takeT_three, if_pos hr]; exact take1_right hk hr f g c
  have h3 : (takeT (takeT k [f, g, c]).1 [f, g, c]).2.2 = 0 := by rw [takeT_three, if_pos hra]
  have hb : (takeT (takeT k [f, g, c]).1 [f, g, c]).1.length = 38 := by rw [takeT_len, ha]
  have H2 := Hid.mk' (Take_any k hk [f, g, c] (by simp))
  have H3 := Hid.mk' (Take_any (takeT k [f, g, c]).1 ha [f, g, c] (by simp))
  have hU : (bs (takeT (takeT k [f, g, c]).1 [f, g, c]).2.1).toList.isEmpty = false := by
    rw [bs_list]
    exact List.isEmpty_eq_false_iff.2 hu
  clear hu
  unfold RK at H1 H2 H3
  generalize (takeT (takeT k [f, g, c]).1 [f, g, c]) = Z at *
  generalize (takeT k [f, g, c]) = Y at *
  generalize (takeT k [f, g ||| 128, c]) = X at *
  obtain ⟨x, s, e1⟩ := X
  obtain ⟨a, s2, e2⟩ := Y
  obtain ⟨b, u, e3⟩ := Z
  dsimp only at *
  subst HQ h1 h2 h3
  have HO0 := Hid.mk' (bcells_one noK)
  have HOx := Hid.mk' (bcells_one x)
  have HSk := Hid.mk' (sizeKV k hk)
  have HSx := Hid.mk' (sizeKV x hx)
  have HNx : Hid ((bcells noK).length = (bcells x).length) := by rw [bcells_length, bcells_length, hx]; rfl
  have HE : Hid ((bs []).toList.isEmpty = true) := by rw [Hid, bs_list]; rfl
  have HOa := Hid.mk' (bcells_one a)
  have HOb := Hid.mk' (bcells_one b)
  have HSa := Hid.mk' (sizeKV a ha)
  have HSb := Hid.mk' (sizeKV b hb)
  have HNa : Hid ((bcells noK).length = (bcells a).length) := by rw [bcells_length, bcells_length, ha]; rfl
  have HNb : Hid ((bcells noK).length = (bcells b).length) := by rw [bcells_length, bcells_length, hb]; rfl
  unfold KV at *
  clear hr hra
  have hfb := u8_bd f
  have hgb := u8_bd g
  generalize bs [f, g ||| 128, c] = A1 at *
  generalize bs [f, g, c] = A2 at *
  generalize bs u = U at *
  generalize bs [] = E0 at *
  generalize ((g ||| 128).toNat : Int) = G at *
  go_enter Try.func6, Try.ntmps6
  have hB0 := Hid.mk' (Below.refl w.heap.size w)
  have le0 : w.heap.size ≤ w.heap.size := Nat.le_refl _
  go_wp2_with (refine wpList_box (bcells k) 24 rfl _ rfl rfl ?_)
  intro w1 mw1
  have ltw1 : w.heap.size < w1.heap.size := mw1.lt
  have hBw1 := Hid.mk' (mw1.below w.heap.size w le0 hB0.out)
  have lew1 : w.heap.size ≤ w1.heap.size := by omega
  have b0_w1 := Hid.mk' mw1.box
  clear mw1 
  have hcv := hcv1.out
  go_wp2_with (first | (refine wpList_load_box 24 24 (bcells k) w.heap.size _ Try.underlying24 rfl HSk.out b0_w1.out rfl _ rfl rfl ?_))
  refine (H1.out _).mono ?_
  rintro e w2 ⟨rfl, hw2⟩
  have hw2 : Below w1.heap.size w1 w2 := Below.trans ((Below.refl _ _).alloc (Nat.le_refl _) _) (Below.mono hw2 (by rw [World.size_alloc]; omega))
  have hBw2 := Hid.mk' (hBw1.out.trans (Below.mono hw2 lew1))
  have szw2 : w1.heap.size ≤ w2.heap.size := hw2.size
  have lew2 : w.heap.size ≤ w2.heap.size := by omega
  have b0_w2 := Hid.mk' (b0_w1.out.later hw2)
  have qb0_w2_w2 : w.heap.size < w2.heap.size := b0_w2.out.lt
  clear hw2 szw2 b0_w1
  clear hcv
  go_wp2_with (first | (refine wpList_load_box 24 24 (bcells k) w.heap.size _ Try.underlying24 rfl HSk.out b0_w2.out rfl _ rfl rfl ?_) | (refine wpList_alloc (bcells noK) 24 HZK.out rfl rfl ?_))
  intro w3 mw3
  have ltw3 : w2.heap.size < w3.heap.size := mw3.lt
  have hBw3 := Hid.mk' (mw3.below w.heap.size w lew2 hBw2.out)
  have lew3 : w.heap.size ≤ w3.heap.size := by omega
  have b0_w3 := Hid.mk' (mw3.keep b0_w2.out)
  have lbb0_w3 : w.heap.size < w3.heap.size := by omega
  have b1_w3 := Hid.mk' mw3.box
  clear mw3 b0_w2
  go_wp2_with (first | (refine wpList_load_box 24 24 (bcells k) w.heap.size _ Try.underlying24 rfl HSk.out b0_w3.out rfl _ rfl rfl ?_) | (refine wpList_store_box 24 24 (bcells noK) (bcells x) w2.heap.size HSx.out HOx.out b1_w3.out HNx.out rfl _ _ rfl rfl rfl ?_))
  intro w4 sw4
  have hBw4 := Hid.mk' (sw4.below w.heap.size w (by omega) hBw3.out)
  have szw4 : w4.heap.size = w3.heap.size := sw4.size
  have lew4 : w.heap.size ≤ w4.heap.size := by omega
  have b0_w4 := Hid.mk' (sw4.keep b0_w3.out (by omega))
  have b1_w4 := Hid.mk' sw4.box
  have ltw4 : w3.heap.size < w4.heap.size ∨ True := .inr trivial
  clear sw4 b0_w3 b1_w3
  have qw4 : w2.heap.size < w4.heap.size := b1_w4.out.lt
  clear ltw4 szw4
  go_wp2_with (first | (refine wpList_load_box 24 24 (bcells k) w.heap.size _ Try.underlying24 rfl HSk.out b0_w4.out rfl _ rfl rfl ?_) | (refine wpList_load_box 24 24 (bcells x) w2.heap.size _ Try.underlying24 rfl HSx.out b1_w4.out rfl _ rfl rfl ?_))
  refine (HLV.out _).mono ?_
  rintro e w5 ⟨rfl, hw5⟩
  have hBw5 := Hid.mk' (hBw4.out.trans (Below.mono hw5 lew4))
  have szw5 : w4.heap.size ≤ w5.heap.size := hw5.size
  have lew5 : w.heap.size ≤ w5.heap.size := by omega
  have b0_w5 := Hid.mk' (b0_w4.out.later hw5)
  have qb0_w5_w5 : w.heap.size < w5.heap.size := b0_w5.out.lt
  have b1_w5 := Hid.mk' (b1_w4.out.later hw5)
  have qb1_w5_w5 : w2.heap.size < w5.heap.size := b1_w5.out.lt
  clear hw5 szw5 b0_w4 b1_w4
  have hcv := hcv2.out
  go_wp2_with (first | (refine wpList_load_box 24 24 (bcells k) w.heap.size _ Try.underlying24 rfl HSk.out b0_w5.out rfl _ rfl rfl ?_) | (refine wpList_load_box 24 24 (bcells x) w2.heap.size _ Try.underlying24 rfl HSx.out b1_w5.out rfl _ rfl rfl ?_))
  refine (H2.out _).mono ?_
  rintro e w6 ⟨rfl, hw6⟩
  have hw6 : Below w5.heap.size w5 w6 := Below.trans ((Below.refl _ _).alloc (Nat.le_refl _) _) (Below.mono hw6 (by rw [World.size_alloc]; omega))
  have hBw6 := Hid.mk' (hBw5.out.trans (Below.mono hw6 lew5))
  have szw6 : w5.heap.size ≤ w6.heap.size := hw6.size
  have lew6 : w.heap.size ≤ w6.heap.size := by omega
  have b0_w6 := Hid.mk' (b0_w5.out.later hw6)
  have qb0_w6_w6 : w.heap.size < w6.heap.size := b0_w6.out.lt
  have b1_w6 := Hid.mk' (b1_w5.out.later hw6)
  have qb1_w6_w6 : w2.heap.size < w6.heap.size := b1_w6.out.lt
  clear hw6 szw6 b0_w5 b1_w5
  clear hcv
  go_wp2_with (first | (refine wpList_load_box 24 24 (bcells k) w.heap.size _ Try.underlying24 rfl HSk.out b0_w6.out rfl _ rfl rfl ?_) | (refine wpList_load_box 24 24 (bcells x) w2.heap.size _ Try.underlying24 rfl HSx.out b1_w6.out rfl _ rfl rfl ?_) | (refine wpList_alloc (bcells noK) 24 HZK.out rfl rfl ?_))
  intro w7 mw7
  have ltw7 : w6.heap.size < w7.heap.size := mw7.lt
  have hBw7 := Hid.mk' (mw7.below w.heap.size w lew6 hBw6.out)
  have lew7 : w.heap.size ≤ w7.heap.size := by omega
  have b0_w7 := Hid.mk' (mw7.keep b0_w6.out)
  have lbb0_w7 : w.heap.size < w7.heap.size := by omega
  have b1_w7 := Hid.mk' (mw7.keep b1_w6.out)
  have lbb1_w7 : w2.heap.size < w7.heap.size := by omega
  have b2_w7 := Hid.mk' mw7.box
  clear mw7 b0_w6 b1_w6
  go_wp2_with (first | (refine wpList_load_box 24 24 (bcells k) w.heap.size _ Try.underlying24 rfl HSk.out b0_w7.out rfl _ rfl rfl ?_) | (refine wpList_load_box 24 24 (bcells x) w2.heap.size _ Try.underlying24 rfl HSx.out b1_w7.out rfl _ rfl rfl ?_) | (refine wpList_store_box 24 24 (bcells noK) (bcells a) w6.heap.size HSa.out HOa.out b2_w7.out HNa.out rfl _ _ rfl rfl rfl ?_))
  intro w8 sw8
  have hBw8 := Hid.mk' (sw8.below w.heap.size w (by omega) hBw7.out)
  have szw8 : w8.heap.size = w7.heap.size := sw8.size
  have lew8 : w.heap.size ≤ w8.heap.size := by omega
  have b0_w8 := Hid.mk' (sw8.keep b0_w7.out (by omega))
  have b1_w8 := Hid.mk' (sw8.keep b1_w7.out (by omega))
  have b2_w8 := Hid.mk' sw8.box
  have ltw8 : w7.heap.size < w8.heap.size ∨ True := .inr trivial
  clear sw8 b0_w7 b1_w7 b2_w7
  have qw8 : w6.heap.size < w8.heap.size := b2_w8.out.lt
  clear ltw8 szw8
  have hcv := hcv2.out
  go_wp2_with (first | (refine wpList_load_box 24 24 (bcells k) w.heap.size _ Try.underlying24 rfl HSk.out b0_w8.out rfl _ rfl rfl ?_) | (refine wpList_load_box 24 24 (bcells x) w2.heap.size _ Try.underlying24 rfl HSx.out b1_w8.out rfl _ rfl rfl ?_) | (refine wpList_load_box 24 24 (bcells a) w6.heap.size _ Try.underlying24 rfl HSa.out b2_w8.out rfl _ rfl rfl ?_))
  refine (H3.out _).mono ?_
  rintro e w9 ⟨rfl, hw9⟩
  have hw9 : Below w8.heap.size w8 w9 := Below.trans ((Below.refl _ _).alloc (Nat.le_refl _) _) (Below.mono hw9 (by rw [World.size_alloc]; omega))
  have hBw9 := Hid.mk' (hBw8.out.trans (Below.mono hw9 lew8))
  have szw9 : w8.heap.size ≤ w9.heap.size := hw9.size
  have lew9 : w.heap.size ≤ w9.heap.size := by omega
  have b0_w9 := Hid.mk' (b0_w8.out.later hw9)
  have qb0_w9_w9 : w.heap.size < w9.heap.size := b0_w9.out.lt
  have b1_w9 := Hid.mk' (b1_w8.out.later hw9)
  have qb1_w9_w9 : w2.heap.size < w9.heap.size := b1_w9.out.lt
  have b2_w9 := Hid.mk' (b2_w8.out.later hw9)
  have qb2_w9_w9 : w6.heap.size < w9.heap.size := b2_w9.out.lt
  clear hw9 szw9 b0_w8 b1_w8 b2_w8
  clear hcv
  go_wp2_with (first | (refine wpList_load_box 24 24 (bcells k) w.heap.size _ Try.underlying24 rfl HSk.out b0_w9.out rfl _ rfl rfl ?_) | (refine wpList_load_box 24 24 (bcells x) w2.heap.size _ Try.underlying24 rfl HSx.out b1_w9.out rfl _ rfl rfl ?_) | (refine wpList_load_box 24 24 (bcells a) w6.heap.size _ Try.underlying24 rfl HSa.out b2_w9.out rfl _ rfl rfl ?_) | (refine wpList_alloc (bcells noK) 24 HZK.out rfl rfl ?_))
  intro w10 mw10
  have ltw10 : w9.heap.size < w10.heap.size := mw10.lt
  have hBw10 := Hid.mk' (mw10.below w.heap.size w lew9 hBw9.out)
  have lew10 : w.heap.size ≤ w10.heap.size := by omega
  have b0_w10 := Hid.mk' (mw10.keep b0_w9.out)
  have lbb0_w10 : w.heap.size < w10.heap.size := by omega
  have b1_w10 := Hid.mk' (mw10.keep b1_w9.out)
  have lbb1_w10 : w2.heap.size < w10.heap.size := by omega
  have b2_w10 := Hid.mk' (mw10.keep b2_w9.out)
  have lbb2_w10 : w6.heap.size < w10.heap.size := by omega
  have b3_w10 := Hid.mk' mw10.box
  clear mw10 b0_w9 b1_w9 b2_w9
  go_wp2_with (first | (refine wpList_load_box 24 24 (bcells k) w.heap.size _ Try.underlying24 rfl HSk.out b0_w10.out rfl _ rfl rfl ?_) | (refine wpList_load_box 24 24 (bcells x) w2.heap.size _ Try.underlying24 rfl HSx.out b1_w10.out rfl _ rfl rfl ?_) | (refine wpList_load_box 24 24 (bcells a) w6.heap.size _ Try.underlying24 rfl HSa.out b2_w10.out rfl _ rfl rfl ?_) | (refine wpList_store_box 24 24 (bcells noK) (bcells b) w9.heap.size HSb.out HOb.out b3_w10.out HNb.out rfl _ _ rfl rfl rfl ?_))
  intro w11 sw11
  have hBw11 := Hid.mk' (sw11.below w.heap.size w (by omega) hBw10.out)
  have szw11 : w11.heap.size = w10.heap.size := sw11.size
  have lew11 : w.heap.size ≤ w11.heap.size := by omega
  have b0_w11 := Hid.mk' (sw11.keep b0_w10.out (by omega))
  have b1_w11 := Hid.mk' (sw11.keep b1_w10.out (by omega))
  have b2_w11 := Hid.mk' (sw11.keep b2_w10.out (by omega))
  have b3_w11 := Hid.mk' sw11.box
  have ltw11 : w10.heap.size < w11.heap.size ∨ True := .inr trivial
  clear sw11 b0_w10 b1_w10 b2_w10 b3_w10
  have qw11 : w9.heap.size < w11.heap.size := b3_w11.out.lt
  clear ltw11 szw11
  skip
  have hEE := HE.out
  go_wp2_with (first | (refine wpList_load_box 24 24 (bcells k) w.heap.size _ Try.underlying24 rfl HSk.out b0_w11.out rfl _ rfl rfl ?_) | (refine wpList_load_box 24 24 (bcells x) w2.heap.size _ Try.underlying24 rfl HSx.out b1_w11.out rfl _ rfl rfl ?_) | (refine wpList_load_box 24 24 (bcells a) w6.heap.size _ Try.underlying24 rfl HSa.out b2_w11.out rfl _ rfl rfl ?_) | (refine wpList_load_box 24 24 (bcells b) w9.heap.size _ Try.underlying24 rfl HSb.out b3_w11.out rfl _ rfl rfl ?_))
  go_ret
  exact ⟨rfl, hBw11.out⟩

set_option maxHeartbeats 8000000 in
theorem Quiet_low (k : List UInt8) (hk : k.length = 38) (f g c : UInt8) (hr : right k = true) (hu : (takeT (takeT k [f, g, c]).1 [f, g, c]).2.1 ≠ []) (hg : ((g.toNat : Int) % 4 == 3) = false) (hf : (f.toNat : Int) < 1) (w : World) :
    Calls Try.prog 6 #[KV k, .int .u8 (f.toNat : Int), .int .u8 (g.toNat : Int), .int .u8 (c.toNat : Int)] w fun e w' => e = .returned (.bool true) ∧ Below w.heap.size w w' := by
  have HZK := Hid.mk' zeroK
  have HLV := Hid.mk' lives_any
  obtain ⟨hor, h128⟩ := or_u8 g
  have H1 := Hid.mk' (Take_any k hk [f, g ||| 128, c] (by simp))
  have HQ := sure_quiet k f (g ||| 128) c h128
  have hx : (takeT k [f, g ||| 128, c]).1.length = 38 := by rw [takeT_len, hk]
  have hcv1 : Hid (∀ w : World, (convert 36 9 (.slice (some ⟨w.heap.size, 0, none⟩) 3 3)).run Try.prog (w.alloc (.cells #[.int .u8 (f.toNat : Int), .int .u8 ((g ||| 128).toNat : Int), .int .u8 (c.toNat : Int)] 5)) = .ok (.string (bs [f, g ||| 128, c])) (w.alloc (.cells #[.int .u8 (f.toNat : Int), .int .u8 ((g ||| 128).toNat : Int), .int .u8 (c.toNat : Int)] 5))) := fun w => run_str (OwnB.lit w [f, g ||| 128, c] (by simp))
  have hcv2 : Hid (∀ w : World, (convert 36 9 (.slice (some ⟨w.heap.size, 0, none⟩) 3 3)).run Try.prog (w.alloc (.cells #[.int .u8 (f.toNat : Int), .int .u8 (g.toNat : Int), .int .u8 (c.toNat : Int)] 5)) = .ok (.string (bs [f, g, c])) (w.alloc (.cells #[.int .u8 (f.toNat : Int), .int .u8 (g.toNat : Int), .int .u8 (c.toNat : Int)] 5))) := fun w => run_str (OwnB.lit w [f, g, c] (by simp))
  have h1 : (takeT k [f, g ||| 128, c]).2.2 = 0 := by rw [takeT_three, if_pos hr]
  have h2 : (takeT k [f, g, c]).2.2 = 0 := by rw [takeT_three, if_pos hr]
  have ha : (takeT k [f, g, c]).1.length = 38 := by rw [takeT_len, hk]
  have hra : right (takeT k [f, g, c]).1 = true := by rw [takeT_three, if_pos hr]; exact take1_right hk hr f g c
  have h3 : (takeT (takeT k [f, g, c]).1 [f, g, c]).2.2 = 0 := by rw [takeT_three, if_pos hra]
  have hb : (takeT (takeT k [f, g, c]).1 [f, g, c]).1.length = 38 := by rw [takeT_len, ha]
  have H2 := Hid.mk' (Take_any k hk [f, g, c] (by simp))
  have H3 := Hid.mk' (Take_any (takeT k [f, g, c]).1 ha [f, g, c] (by simp))
  have hU : (bs (takeT (takeT k [f, g, c]).1 [f, g, c]).2.1).toList.isEmpty = false := by
    rw [bs_list]
    exact List.isEmpty_eq_false_iff.2 hu
  clear hu
  unfold RK at H1 H2 H3
  generalize (takeT (takeT k [f, g, c]).1 [f, g, c]) = Z at *
  generalize (takeT k [f, g, c]) = Y at *
  generalize (takeT k [f, g ||| 128, c]) = X at *
  obtain ⟨x, s, e1⟩ := X
  obtain ⟨a, s2, e2⟩ := Y
  obtain ⟨b, u, e3⟩ := Z
  dsimp only at *
  subst HQ h1 h2 h3
  have HO0 := Hid.mk' (bcells_one noK)
  have HOx := Hid.mk' (bcells_one x)
  have HSk := Hid.mk' (sizeKV k hk)
  have HSx := Hid.mk' (sizeKV x hx)
  have HNx : Hid ((bcells noK).length = (bcells x).length) := by rw [bcells_length, bcells_length, hx]; rfl
  have HE : Hid ((bs []).toList.isEmpty = true) := by rw [Hid, bs_list]; rfl
  have HOa := Hid.mk' (bcells_one a)
  have HOb := Hid.mk' (bcells_one b)
  have HSa := Hid.mk' (sizeKV a ha)
  have HSb := Hid.mk' (sizeKV b hb)
  have HNa : Hid ((bcells noK).length = (bcells a).length) := by rw [bcells_length, bcells_length, ha]; rfl
  have HNb : Hid ((bcells noK).length = (bcells b).length) := by rw [bcells_length, bcells_length, hb]; rfl
  unfold KV at *
  clear hr hra
  have hfb := u8_bd f
  have hgb := u8_bd g
  generalize bs [f, g ||| 128, c] = A1 at *
  generalize bs [f, g, c] = A2 at *
  generalize bs u = U at *
  generalize bs [] = E0 at *
  generalize ((g ||| 128).toNat : Int) = G at *
  go_enter Try.func6, Try.ntmps6
  have hB0 := Hid.mk' (Below.refl w.heap.size w)
  have le0 : w.heap.size ≤ w.heap.size := Nat.le_refl _
  go_wp2_with (refine wpList_box (bcells k) 24 rfl _ rfl rfl ?_)
  intro w1 mw1
  have ltw1 : w.heap.size < w1.heap.size := mw1.lt
  have hBw1 := Hid.mk' (mw1.below w.heap.size w le0 hB0.out)
  have lew1 : w.heap.size ≤ w1.heap.size := by omega
  have b0_w1 := Hid.mk' mw1.box
  clear mw1 
  have hcv := hcv1.out
  go_wp2_with (first | (refine wpList_load_box 24 24 (bcells k) w.heap.size _ Try.underlying24 rfl HSk.out b0_w1.out rfl _ rfl rfl ?_))
  refine (H1.out _).mono ?_
  rintro e w2 ⟨rfl, hw2⟩
  have hw2 : Below w1.heap.size w1 w2 := Below.trans ((Below.refl _ _).alloc (Nat.le_refl _) _) (Below.mono hw2 (by rw [World.size_alloc]; omega))
  have hBw2 := Hid.mk' (hBw1.out.trans (Below.mono hw2 lew1))
  have szw2 : w1.heap.size ≤ w2.heap.size := hw2.size
  have lew2 : w.heap.size ≤ w2.heap.size := by omega
  have b0_w2 := Hid.mk' (b0_w1.out.later hw2)
  have qb0_w2_w2 : w.heap.size < w2.heap.size := b0_w2.out.lt
  clear hw2 szw2 b0_w1
  clear hcv
  go_wp2_with (first | (refine wpList_load_box 24 24 (bcells k) w.heap.size _ Try.underlying24 rfl HSk.out b0_w2.out rfl _ rfl rfl ?_) | (refine wpList_alloc (bcells noK) 24 HZK.out rfl rfl ?_))
  intro w3 mw3
  have ltw3 : w2.heap.size < w3.heap.size := mw3.lt
  have hBw3 := Hid.mk' (mw3.below w.heap.size w lew2 hBw2.out)
  have lew3 : w.heap.size ≤ w3.heap.size := by omega
  have b0_w3 := Hid.mk' (mw3.keep b0_w2.out)
  have lbb0_w3 : w.heap.size < w3.heap.size := by omega
  have b1_w3 := Hid.mk' mw3.box
  clear mw3 b0_w2
  go_wp2_with (first | (refine wpList_load_box 24 24 (bcells k) w.heap.size _ Try.underlying24 rfl HSk.out b0_w3.out rfl _ rfl rfl ?_) | (refine wpList_store_box 24 24 (bcells noK) (bcells x) w2.heap.size HSx.out HOx.out b1_w3.out HNx.out rfl _ _ rfl rfl rfl ?_))
  intro w4 sw4
  have hBw4 := Hid.mk' (sw4.below w.heap.size w (by omega) hBw3.out)
  have szw4 : w4.heap.size = w3.heap.size := sw4.size
  have lew4 : w.heap.size ≤ w4.heap.size := by omega
  have b0_w4 := Hid.mk' (sw4.keep b0_w3.out (by omega))
  have b1_w4 := Hid.mk' sw4.box
  have ltw4 : w3.heap.size < w4.heap.size ∨ True := .inr trivial
  clear sw4 b0_w3 b1_w3
  have qw4 : w2.heap.size < w4.heap.size := b1_w4.out.lt
  clear ltw4 szw4
  go_wp2_with (first | (refine wpList_load_box 24 24 (bcells k) w.heap.size _ Try.underlying24 rfl HSk.out b0_w4.out rfl _ rfl rfl ?_) | (refine wpList_load_box 24 24 (bcells x) w2.heap.size _ Try.underlying24 rfl HSx.out b1_w4.out rfl _ rfl rfl ?_))
  refine (HLV.out _).mono ?_
  rintro e w5 ⟨rfl, hw5⟩
  have hBw5 := Hid.mk' (hBw4.out.trans (Below.mono hw5 lew4))
  have szw5 : w4.heap.size ≤ w5.heap.size := hw5.size
  have lew5 : w.heap.size ≤ w5.heap.size := by omega
  have b0_w5 := Hid.mk' (b0_w4.out.later hw5)
  have qb0_w5_w5 : w.heap.size < w5.heap.size := b0_w5.out.lt
  have b1_w5 := Hid.mk' (b1_w4.out.later hw5)
  have qb1_w5_w5 : w2.heap.size < w5.heap.size := b1_w5.out.lt
  clear hw5 szw5 b0_w4 b1_w4
  have hcv := hcv2.out
  go_wp2_with (first | (refine wpList_load_box 24 24 (bcells k) w.heap.size _ Try.underlying24 rfl HSk.out b0_w5.out rfl _ rfl rfl ?_) | (refine wpList_load_box 24 24 (bcells x) w2.heap.size _ Try.underlying24 rfl HSx.out b1_w5.out rfl _ rfl rfl ?_))
  refine (H2.out _).mono ?_
  rintro e w6 ⟨rfl, hw6⟩
  have hw6 : Below w5.heap.size w5 w6 := Below.trans ((Below.refl _ _).alloc (Nat.le_refl _) _) (Below.mono hw6 (by rw [World.size_alloc]; omega))
  have hBw6 := Hid.mk' (hBw5.out.trans (Below.mono hw6 lew5))
  have szw6 : w5.heap.size ≤ w6.heap.size := hw6.size
  have lew6 : w.heap.size ≤ w6.heap.size := by omega
  have b0_w6 := Hid.mk' (b0_w5.out.later hw6)
  have qb0_w6_w6 : w.heap.size < w6.heap.size := b0_w6.out.lt
  have b1_w6 := Hid.mk' (b1_w5.out.later hw6)
  have qb1_w6_w6 : w2.heap.size < w6.heap.size := b1_w6.out.lt
  clear hw6 szw6 b0_w5 b1_w5
  clear hcv
  go_wp2_with (first | (refine wpList_load_box 24 24 (bcells k) w.heap.size _ Try.underlying24 rfl HSk.out b0_w6.out rfl _ rfl rfl ?_) | (refine wpList_load_box 24 24 (bcells x) w2.heap.size _ Try.underlying24 rfl HSx.out b1_w6.out rfl _ rfl rfl ?_) | (refine wpList_alloc (bcells noK) 24 HZK.out rfl rfl ?_))
  intro w7 mw7
  have ltw7 : w6.heap.size < w7.heap.size := mw7.lt
  have hBw7 := Hid.mk' (mw7.below w.heap.size w lew6 hBw6.out)
  have lew7 : w.heap.size ≤ w7.heap.size := by omega
  have b0_w7 := Hid.mk' (mw7.keep b0_w6.out)
  have lbb0_w7 : w.heap.size < w7.heap.size := by omega
  have b1_w7 := Hid.mk' (mw7.keep b1_w6.out)
  have lbb1_w7 : w2.heap.size < w7.heap.size := by omega
  have b2_w7 := Hid.mk' mw7.box
  clear mw7 b0_w6 b1_w6
  go_wp2_with (first | (refine wpList_load_box 24 24 (bcells k) w.heap.size _ Try.underlying24 rfl HSk.out b0_w7.out rfl _ rfl rfl ?_) | (refine wpList_load_box 24 24 (bcells x) w2.heap.size _ Try.underlying24 rfl HSx.out b1_w7.out rfl _ rfl rfl ?_) | (refine wpList_store_box 24 24 (bcells noK) (bcells a) w6.heap.size HSa.out HOa.out b2_w7.out HNa.out rfl _ _ rfl rfl rfl ?_))
  intro w8 sw8
  have hBw8 := Hid.mk' (sw8.below w.heap.size w (by omega) hBw7.out)
  have szw8 : w8.heap.size = w7.heap.size := sw8.size
  have lew8 : w.heap.size ≤ w8.heap.size := by omega
  have b0_w8 := Hid.mk' (sw8.keep b0_w7.out (by omega))
  have b1_w8 := Hid.mk' (sw8.keep b1_w7.out (by omega))
  have b2_w8 := Hid.mk' sw8.box
  have ltw8 : w7.heap.size < w8.heap.size ∨ True := .inr trivial
  clear sw8 b0_w7 b1_w7 b2_w7
  have qw8 : w6.heap.size < w8.heap.size := b2_w8.out.lt
  clear ltw8 szw8
  have hcv := hcv2.out
  go_wp2_with (first | (refine wpList_load_box 24 24 (bcells k) w.heap.size _ Try.underlying24 rfl HSk.out b0_w8.out rfl _ rfl rfl ?_) | (refine wpList_load_box 24 24 (bcells x) w2.heap.size _ Try.underlying24 rfl HSx.out b1_w8.out rfl _ rfl rfl ?_) | (refine wpList_load_box 24 24 (bcells a) w6.heap.size _ Try.underlying24 rfl HSa.out b2_w8.out rfl _ rfl rfl ?_))
  refine (H3.out _).mono ?_
  rintro e w9 ⟨rfl, hw9⟩
  have hw9 : Below w8.heap.size w8 w9 := Below.trans ((Below.refl _ _).alloc (Nat.le_refl _) _) (Below.mono hw9 (by rw [World.size_alloc]; omega))
  have hBw9 := Hid.mk' (hBw8.out.trans (Below.mono hw9 lew8))
  have szw9 : w8.heap.size ≤ w9.heap.size := hw9.size
  have lew9 : w.heap.size ≤ w9.heap.size := by omega
  have b0_w9 := Hid.mk' (b0_w8.out.later hw9)
  have qb0_w9_w9 : w.heap.size < w9.heap.size := b0_w9.out.lt
  have b1_w9 := Hid.mk' (b1_w8.out.later hw9)
  have qb1_w9_w9 : w2.heap.size < w9.heap.size := b1_w9.out.lt
  have b2_w9 := Hid.mk' (b2_w8.out.later hw9)
  have qb2_w9_w9 : w6.heap.size < w9.heap.size := b2_w9.out.lt
  clear hw9 szw9 b0_w8 b1_w8 b2_w8
  clear hcv
  go_wp2_with (first | (refine wpList_load_box 24 24 (bcells k) w.heap.size _ Try.underlying24 rfl HSk.out b0_w9.out rfl _ rfl rfl ?_) | (refine wpList_load_box 24 24 (bcells x) w2.heap.size _ Try.underlying24 rfl HSx.out b1_w9.out rfl _ rfl rfl ?_) | (refine wpList_load_box 24 24 (bcells a) w6.heap.size _ Try.underlying24 rfl HSa.out b2_w9.out rfl _ rfl rfl ?_) | (refine wpList_alloc (bcells noK) 24 HZK.out rfl rfl ?_))
  intro w10 mw10
  have ltw10 : w9.heap.size < w10.heap.size := mw10.lt
  have hBw10 := Hid.mk' (mw10.below w.heap.size w lew9 hBw9.out)
  have lew10 : w.heap.size ≤ w10.heap.size := by omega
  have b0_w10 := Hid.mk' (mw10.keep b0_w9.out)
  have lbb0_w10 : w.heap.size < w10.heap.size := by omega
  have b1_w10 := Hid.mk' (mw10.keep b1_w9.out)
  have lbb1_w10 : w2.heap.size < w10.heap.size := by omega
  have b2_w10 := Hid.mk' (mw10.keep b2_w9.out)
  have lbb2_w10 : w6.heap.size < w10.heap.size := by omega
  have b3_w10 := Hid.mk' mw10.box
  clear mw10 b0_w9 b1_w9 b2_w9
  go_wp2_with (first | (refine wpList_load_box 24 24 (bcells k) w.heap.size _ Try.underlying24 rfl HSk.out b0_w10.out rfl _ rfl rfl ?_) | (refine wpList_load_box 24 24 (bcells x) w2.heap.size _ Try.underlying24 rfl HSx.out b1_w10.out rfl _ rfl rfl ?_) | (refine wpList_load_box 24 24 (bcells a) w6.heap.size _ Try.underlying24 rfl HSa.out b2_w10.out rfl _ rfl rfl ?_) | (refine wpList_store_box 24 24 (bcells noK) (bcells b) w9.heap.size HSb.out HOb.out b3_w10.out HNb.out rfl _ _ rfl rfl rfl ?_))
  intro w11 sw11
  have hBw11 := Hid.mk' (sw11.below w.heap.size w (by omega) hBw10.out)
  have szw11 : w11.heap.size = w10.heap.size := sw11.size
  have lew11 : w.heap.size ≤ w11.heap.size := by omega
  have b0_w11 := Hid.mk' (sw11.keep b0_w10.out (by omega))
  have b1_w11 := Hid.mk' (sw11.keep b1_w10.out (by omega))
  have b2_w11 := Hid.mk' (sw11.keep b2_w10.out (by omega))
  have b3_w11 := Hid.mk' sw11.box
  have ltw11 : w10.heap.size < w11.heap.size ∨ True := .inr trivial
  clear sw11 b0_w10 b1_w10 b2_w10 b3_w10
  have qw11 : w9.heap.size < w11.heap.size := b3_w11.out.lt
  clear ltw11 szw11
  skip
  have hEE := HE.out
  go_wp2_with (first | (refine wpList_load_box 24 24 (bcells k) w.heap.size _ Try.underlying24 rfl HSk.out b0_w11.out rfl _ rfl rfl ?_) | (refine wpList_load_box 24 24 (bcells x) w2.heap.size _ Try.underlying24 rfl HSx.out b1_w11.out rfl _ rfl rfl ?_) | (refine wpList_load_box 24 24 (bcells a) w6.heap.size _ Try.underlying24 rfl HSa.out b2_w11.out rfl _ rfl rfl ?_) | (refine wpList_load_box 24 24 (bcells b) w9.heap.size _ Try.underlying24 rfl HSb.out b3_w11.out rfl _ rfl rfl ?_))
  go_ret
  exact ⟨rfl, hBw11.out⟩

set_option maxHeartbeats 8000000 in
theorem Quiet_high (k : List UInt8) (hk : k.length = 38) (f g c : UInt8) (hr : right k = true) (hu : (takeT (takeT k [f, g, c]).1 [f, g, c]).2.1 ≠ []) (hg : ((g.toNat : Int) % 4 == 3) = false) (hf : ¬ (f.toNat : Int) < 1) (hf2 : 18 < (f.toNat : Int)) (w : World) :
    Calls Try.prog 6 #[KV k, .int .u8 (f.toNat : Int), .int .u8 (g.toNat : Int), .int .u8 (c.toNat : Int)] w fun e w' => e = .returned (.bool true) ∧ Below w.heap.size w w' := by
  have HZK := Hid.mk' zeroK
  have HLV := Hid.mk' lives_any
  obtain ⟨hor, h128⟩ := or_u8 g
  have H1 := Hid.mk' (Take_any k hk [f, g ||| 128, c] (by simp))
  have HQ := sure_quiet k f (g ||| 128) c h128
  have hx : (takeT k [f, g ||| 128, c]).1.length = 38 := by rw [takeT_len, hk]
  have hcv1 : Hid (∀ w : World, (convert 36 9 (.slice (some ⟨w.heap.size, 0, none⟩) 3 3)).run Try.prog (w.alloc (.cells #[.int .u8 (f.toNat : Int), .int .u8 ((g ||| 128).toNat : Int), .int .u8 (c.toNat : Int)] 5)) = .ok (.string (bs [f, g ||| 128, c])) (w.alloc (.cells #[.int .u8 (f.toNat : Int), .int .u8 ((g ||| 128).toNat : Int), .int .u8 (c.toNat : Int)] 5))) := fun w => run_str (OwnB.lit w [f, g ||| 128, c] (by simp))
  have hcv2 : Hid (∀ w : World, (convert 36 9 (.slice (some ⟨w.heap.size, 0, none⟩) 3 3)).run Try.prog (w.alloc (.cells #[.int .u8 (f.toNat : Int), .int .u8 (g.toNat : Int), .int .u8 (c.toNat : Int)] 5)) = .ok (.string (bs [f, g, c])) (w.alloc (.cells #[.int .u8 (f.toNat : Int), .int .u8 (g.toNat : Int), .int .u8 (c.toNat : Int)] 5))) := fun w => run_str (OwnB.lit w [f, g, c] (by simp))
  have h1 : (takeT k [f, g ||| 128, c]).2.2 = 0 := by rw [takeT_three, if_pos hr]
  have h2 : (takeT k [f, g, c]).2.2 = 0 := by rw [takeT_three, if_pos hr]
  have ha : (takeT k [f, g, c]).1.length = 38 := by rw [takeT_len, hk]
  have hra : right (takeT k [f, g, c]).1 = true := by rw [takeT_three, if_pos hr]; exact take1_right hk hr f g c
  have h3 : (takeT (takeT k [f, g, c]).1 [f, g, c]).2.2 = 0 := by rw [takeT_three, if_pos hra]
  have hb : (takeT (takeT k [f, g, c]).1 [f, g, c]).1.length = 38 := by rw [takeT_len, ha]
  have H2 := Hid.mk' (Take_any k hk [f, g, c] (by simp))
  have H3 := Hid.mk' (Take_any (takeT k [f, g, c]).1 ha [f, g, c] (by simp))
  have hU : (bs (takeT (takeT k [f, g, c]).1 [f, g, c]).2.1).toList.isEmpty = false := by
    rw [bs_list]
    exact List.isEmpty_eq_false_iff.2 hu
  clear hu
  unfold RK at H1 H2 H3
  generalize (takeT (takeT k [f, g, c]).1 [f, g, c]) = Z at *
  generalize (takeT k [f, g, c]) = Y at *
  generalize (takeT k [f, g ||| 128, c]) = X at *
  obtain ⟨x, s, e1⟩ := X
  obtain ⟨a, s2, e2⟩ := Y
  obtain ⟨b, u, e3⟩ := Z
  dsimp only at *
  subst HQ h1 h2 h3
  have HO0 := Hid.mk' (bcells_one noK)
  have HOx := Hid.mk' (bcells_one x)
  have HSk := Hid.mk' (sizeKV k hk)
  have HSx := Hid.mk' (sizeKV x hx)
  have HNx : Hid ((bcells noK).length = (bcells x).length) := by rw [bcells_length, bcells_length, hx]; rfl
  have HE : Hid ((bs []).toList.isEmpty = true) := by rw [Hid, bs_list]; rfl
  have HOa := Hid.mk' (bcells_one a)
  have HOb := Hid.mk' (bcells_one b)
  have HSa := Hid.mk' (sizeKV a ha)
  have HSb := Hid.mk' (sizeKV b hb)
  have HNa : Hid ((bcells noK).length = (bcells a).length) := by rw [bcells_length, bcells_length, ha]; rfl
  have HNb : Hid ((bcells noK).length = (bcells b).length) := by rw [bcells_length, bcells_length, hb]; rfl
  unfold KV at *
  clear hr hra
  have hfb := u8_bd f
  have hgb := u8_bd g
  generalize bs [f, g ||| 128, c] = A1 at *
  generalize bs [f, g, c] = A2 at *
  generalize bs u = U at *
  generalize bs [] = E0 at *
  generalize ((g ||| 128).toNat : Int) = G at *
  go_enter Try.func6, Try.ntmps6
  have hB0 := Hid.mk' (Below.refl w.heap.size w)
  have le0 : w.heap.size ≤ w.heap.size := Nat.le_refl _
  go_wp2_with (refine wpList_box (bcells k) 24 rfl _ rfl rfl ?_)
  intro w1 mw1
  have ltw1 : w.heap.size < w1.heap.size := mw1.lt
  have hBw1 := Hid.mk' (mw1.below w.heap.size w le0 hB0.out)
  have lew1 : w.heap.size ≤ w1.heap.size := by omega
  have b0_w1 := Hid.mk' mw1.box
  clear mw1 
  have hcv := hcv1.out
  go_wp2_with (first | (refine wpList_load_box 24 24 (bcells k) w.heap.size _ Try.underlying24 rfl HSk.out b0_w1.out rfl _ rfl rfl ?_))
  refine (H1.out _).mono ?_
  rintro e w2 ⟨rfl, hw2⟩
  have hw2 : Below w1.heap.size w1 w2 := Below.trans ((Below.refl _ _).alloc (Nat.le_refl _) _) (Below.mono hw2 (by rw [World.size_alloc]; omega))
  have hBw2 := Hid.mk' (hBw1.out.trans (Below.mono hw2 lew1))
  have szw2 : w1.heap.size ≤ w2.heap.size := hw2.size
  have lew2 : w.heap.size ≤ w2.heap.size := by omega
  have b0_w2 := Hid.mk' (b0_w1.out.later hw2)
  have qb0_w2_w2 : w.heap.size < w2.heap.size := b0_w2.out.lt
  clear hw2 szw2 b0_w1
  clear hcv
  go_wp2_with (first | (refine wpList_load_box 24 24 (bcells k) w.heap.size _ Try.underlying24 rfl HSk.out b0_w2.out rfl _ rfl rfl ?_) | (refine wpList_alloc (bcells noK) 24 HZK.out rfl rfl ?_))
  intro w3 mw3
  have ltw3 : w2.heap.size < w3.heap.size := mw3.lt
  have hBw3 := Hid.mk' (mw3.below w.heap.size w lew2 hBw2.out)
  have lew3 : w.heap.size ≤ w3.heap.size := by omega
  have b0_w3 := Hid.mk' (mw3.keep b0_w2.out)
  have lbb0_w3 : w.heap.size < w3.heap.size := by omega
  have b1_w3 := Hid.mk' mw3.box
  clear mw3 b0_w2
  go_wp2_with (first | (refine wpList_load_box 24 24 (bcells k) w.heap.size _ Try.underlying24 rfl HSk.out b0_w3.out rfl _ rfl rfl ?_) | (refine wpList_store_box 24 24 (bcells noK) (bcells x) w2.heap.size HSx.out HOx.out b1_w3.out HNx.out rfl _ _ rfl rfl rfl ?_))
  intro w4 sw4
  have hBw4 := Hid.mk' (sw4.below w.heap.size w (by omega) hBw3.out)
  have szw4 : w4.heap.size = w3.heap.size := sw4.size
  have lew4 : w.heap.size ≤ w4.heap.size := by omega
  have b0_w4 := Hid.mk' (sw4.keep b0_w3.out (by omega))
  have b1_w4 := Hid.mk' sw4.box
  have ltw4 : w3.heap.size < w4.heap.size ∨ True := .inr trivial
  clear sw4 b0_w3 b1_w3
  have qw4 : w2.heap.size < w4.heap.size := b1_w4.out.lt
  clear ltw4 szw4
  go_wp2_with (first | (refine wpList_load_box 24 24 (bcells k) w.heap.size _ Try.underlying24 rfl HSk.out b0_w4.out rfl _ rfl rfl ?_) | (refine wpList_load_box 24 24 (bcells x) w2.heap.size _ Try.underlying24 rfl HSx.out b1_w4.out rfl _ rfl rfl ?_))
  refine (HLV.out _).mono ?_
  rintro e w5 ⟨rfl, hw5⟩
  have hBw5 := Hid.mk' (hBw4.out.trans (Below.mono hw5 lew4))
  have szw5 : w4.heap.size ≤ w5.heap.size := hw5.size
  have lew5 : w.heap.size ≤ w5.heap.size := by omega
  have b0_w5 := Hid.mk' (b0_w4.out.later hw5)
  have qb0_w5_w5 : w.heap.size < w5.heap.size := b0_w5.out.lt
  have b1_w5 := Hid.mk' (b1_w4.out.later hw5)
  have qb1_w5_w5 : w2.heap.size < w5.heap.size := b1_w5.out.lt
  clear hw5 szw5 b0_w4 b1_w4
  have hcv := hcv2.out
  go_wp2_with (first | (refine wpList_load_box 24 24 (bcells k) w.heap.size _ Try.underlying24 rfl HSk.out b0_w5.out rfl _ rfl rfl ?_) | (refine wpList_load_box 24 24 (bcells x) w2.heap.size _ Try.underlying24 rfl HSx.out b1_w5.out rfl _ rfl rfl ?_))
  refine (H2.out _).mono ?_
  rintro e w6 ⟨rfl, hw6⟩
  have hw6 : Below w5.heap.size w5 w6 := Below.trans ((Below.refl _ _).alloc (Nat.le_refl _) _) (Below.mono hw6 (by rw [World.size_alloc]; omega))
  have hBw6 := Hid.mk' (hBw5.out.trans (Below.mono hw6 lew5))
  have szw6 : w5.heap.size ≤ w6.heap.size := hw6.size
  have lew6 : w.heap.size ≤ w6.heap.size := by omega
  have b0_w6 := Hid.mk' (b0_w5.out.later hw6)
  have qb0_w6_w6 : w.heap.size < w6.heap.size := b0_w6.out.lt
  have b1_w6 := Hid.mk' (b1_w5.out.later hw6)
  have qb1_w6_w6 : w2.heap.size < w6.heap.size := b1_w6.out.lt
  clear hw6 szw6 b0_w5 b1_w5
  clear hcv
  go_wp2_with (first | (refine wpList_load_box 24 24 (bcells k) w.heap.size _ Try.underlying24 rfl HSk.out b0_w6.out rfl _ rfl rfl ?_) | (refine wpList_load_box 24 24 (bcells x) w2.heap.size _ Try.underlying24 rfl HSx.out b1_w6.out rfl _ rfl rfl ?_) | (refine wpList_alloc (bcells noK) 24 HZK.out rfl rfl ?_))
  intro w7 mw7
  have ltw7 : w6.heap.size < w7.heap.size := mw7.lt
  have hBw7 := Hid.mk' (mw7.below w.heap.size w lew6 hBw6.out)
  have lew7 : w.heap.size ≤ w7.heap.size := by omega
  have b0_w7 := Hid.mk' (mw7.keep b0_w6.out)
  have lbb0_w7 : w.heap.size < w7.heap.size := by omega
  have b1_w7 := Hid.mk' (mw7.keep b1_w6.out)
  have lbb1_w7 : w2.heap.size < w7.heap.size := by omega
  have b2_w7 := Hid.mk' mw7.box
  clear mw7 b0_w6 b1_w6
  go_wp2_with (first | (refine wpList_load_box 24 24 (bcells k) w.heap.size _ Try.underlying24 rfl HSk.out b0_w7.out rfl _ rfl rfl ?_) | (refine wpList_load_box 24 24 (bcells x) w2.heap.size _ Try.underlying24 rfl HSx.out b1_w7.out rfl _ rfl rfl ?_) | (refine wpList_store_box 24 24 (bcells noK) (bcells a) w6.heap.size HSa.out HOa.out b2_w7.out HNa.out rfl _ _ rfl rfl rfl ?_))
  intro w8 sw8
  have hBw8 := Hid.mk' (sw8.below w.heap.size w (by omega) hBw7.out)
  have szw8 : w8.heap.size = w7.heap.size := sw8.size
  have lew8 : w.heap.size ≤ w8.heap.size := by omega
  have b0_w8 := Hid.mk' (sw8.keep b0_w7.out (by omega))
  have b1_w8 := Hid.mk' (sw8.keep b1_w7.out (by omega))
  have b2_w8 := Hid.mk' sw8.box
  have ltw8 : w7.heap.size < w8.heap.size ∨ True := .inr trivial
  clear sw8 b0_w7 b1_w7 b2_w7
  have qw8 : w6.heap.size < w8.heap.size := b2_w8.out.lt
  clear ltw8 szw8
  have hcv := hcv2.out
  go_wp2_with (first | (refine wpList_load_box 24 24 (bcells k) w.heap.size _ Try.underlying24 rfl HSk.out b0_w8.out rfl _ rfl rfl ?_) | (refine wpList_load_box 24 24 (bcells x) w2.heap.size _ Try.underlying24 rfl HSx.out b1_w8.out rfl _ rfl rfl ?_) | (refine wpList_load_box 24 24 (bcells a) w6.heap.size _ Try.underlying24 rfl HSa.out b2_w8.out rfl _ rfl rfl ?_))
  refine (H3.out _).mono ?_
  rintro e w9 ⟨rfl, hw9⟩
  have hw9 : Below w8.heap.size w8 w9 := Below.trans ((Below.refl _ _).alloc (Nat.le_refl _) _) (Below.mono hw9 (by rw [World.size_alloc]; omega))
  have hBw9 := Hid.mk' (hBw8.out.trans (Below.mono hw9 lew8))
  have szw9 : w8.heap.size ≤ w9.heap.size := hw9.size
  have lew9 : w.heap.size ≤ w9.heap.size := by omega
  have b0_w9 := Hid.mk' (b0_w8.out.later hw9)
  have qb0_w9_w9 : w.heap.size < w9.heap.size := b0_w9.out.lt
  have b1_w9 := Hid.mk' (b1_w8.out.later hw9)
  have qb1_w9_w9 : w2.heap.size < w9.heap.size := b1_w9.out.lt
  have b2_w9 := Hid.mk' (b2_w8.out.later hw9)
  have qb2_w9_w9 : w6.heap.size < w9.heap.size := b2_w9.out.lt
  clear hw9 szw9 b0_w8 b1_w8 b2_w8
  clear hcv
  go_wp2_with (first | (refine wpList_load_box 24 24 (bcells k) w.heap.size _ Try.underlying24 rfl HSk.out b0_w9.out rfl _ rfl rfl ?_) | (refine wpList_load_box 24 24 (bcells x) w2.heap.size _ Try.underlying24 rfl HSx.out b1_w9.out rfl _ rfl rfl ?_) | (refine wpList_load_box 24 24 (bcells a) w6.heap.size _ Try.underlying24 rfl HSa.out b2_w9.out rfl _ rfl rfl ?_) | (refine wpList_alloc (bcells noK) 24 HZK.out rfl rfl ?_))
  intro w10 mw10
  have ltw10 : w9.heap.size < w10.heap.size := mw10.lt
  have hBw10 := Hid.mk' (mw10.below w.heap.size w lew9 hBw9.out)
  have lew10 : w.heap.size ≤ w10.heap.size := by omega
  have b0_w10 := Hid.mk' (mw10.keep b0_w9.out)
  have lbb0_w10 : w.heap.size < w10.heap.size := by omega
  have b1_w10 := Hid.mk' (mw10.keep b1_w9.out)
  have lbb1_w10 : w2.heap.size < w10.heap.size := by omega
  have b2_w10 := Hid.mk' (mw10.keep b2_w9.out)
  have lbb2_w10 : w6.heap.size < w10.heap.size := by omega
  have b3_w10 := Hid.mk' mw10.box
  clear mw10 b0_w9 b1_w9 b2_w9
  go_wp2_with (first | (refine wpList_load_box 24 24 (bcells k) w.heap.size _ Try.underlying24 rfl HSk.out b0_w10.out rfl _ rfl rfl ?_) | (refine wpList_load_box 24 24 (bcells x) w2.heap.size _ Try.underlying24 rfl HSx.out b1_w10.out rfl _ rfl rfl ?_) | (refine wpList_load_box 24 24 (bcells a) w6.heap.size _ Try.underlying24 rfl HSa.out b2_w10.out rfl _ rfl rfl ?_) | (refine wpList_store_box 24 24 (bcells noK) (bcells b) w9.heap.size HSb.out HOb.out b3_w10.out HNb.out rfl _ _ rfl rfl rfl ?_))
  intro w11 sw11
  have hBw11 := Hid.mk' (sw11.below w.heap.size w (by omega) hBw10.out)
  have szw11 : w11.heap.size = w10.heap.size := sw11.size
  have lew11 : w.heap.size ≤ w11.heap.size := by omega
  have b0_w11 := Hid.mk' (sw11.keep b0_w10.out (by omega))
  have b1_w11 := Hid.mk' (sw11.keep b1_w10.out (by omega))
  have b2_w11 := Hid.mk' (sw11.keep b2_w10.out (by omega))
  have b3_w11 := Hid.mk' sw11.box
  have ltw11 : w10.heap.size < w11.heap.size ∨ True := .inr trivial
  clear sw11 b0_w10 b1_w10 b2_w10 b3_w10
  have qw11 : w9.heap.size < w11.heap.size := b3_w11.out.lt
  clear ltw11 szw11
  skip
  have hEE := HE.out
  go_wp2_with (first | (refine wpList_load_box 24 24 (bcells k) w.heap.size _ Try.underlying24 rfl HSk.out b0_w11.out rfl _ rfl rfl ?_) | (refine wpList_load_box 24 24 (bcells x) w2.heap.size _ Try.underlying24 rfl HSx.out b1_w11.out rfl _ rfl rfl ?_) | (refine wpList_load_box 24 24 (bcells a) w6.heap.size _ Try.underlying24 rfl HSa.out b2_w11.out rfl _ rfl rfl ?_) | (refine wpList_load_box 24 24 (bcells b) w9.heap.size _ Try.underlying24 rfl HSb.out b3_w11.out rfl _ rfl rfl ?_))
  go_ret
  exact ⟨rfl, hBw11.out⟩

set_option maxHeartbeats 8000000 in
theorem Quiet_level (k : List UInt8) (hk : k.length = 38) (f g c : UInt8) (hr : right k = true) (hu : (takeT (takeT k [f, g, c]).1 [f, g, c]).2.1 ≠ []) (hg : ((g.toNat : Int) % 4 == 3) = false) (hf : ¬ (f.toNat : Int) < 1) (hf2 : ¬ 18 < (f.toNat : Int)) (hl : (((lv (takeT k [f, g, c]).1 f.toNat).toNat : Int) != (g.toNat : Int) % 4) = true) (w : World) :
    Calls Try.prog 6 #[KV k, .int .u8 (f.toNat : Int), .int .u8 (g.toNat : Int), .int .u8 (c.toNat : Int)] w fun e w' => e = .returned (.bool true) ∧ Below w.heap.size w w' := by
  have HZK := Hid.mk' zeroK
  have HLV := Hid.mk' lives_any
  obtain ⟨hor, h128⟩ := or_u8 g
  have H1 := Hid.mk' (Take_any k hk [f, g ||| 128, c] (by simp))
  have HQ := sure_quiet k f (g ||| 128) c h128
  have hx : (takeT k [f, g ||| 128, c]).1.length = 38 := by rw [takeT_len, hk]
  have hcv1 : Hid (∀ w : World, (convert 36 9 (.slice (some ⟨w.heap.size, 0, none⟩) 3 3)).run Try.prog (w.alloc (.cells #[.int .u8 (f.toNat : Int), .int .u8 ((g ||| 128).toNat : Int), .int .u8 (c.toNat : Int)] 5)) = .ok (.string (bs [f, g ||| 128, c])) (w.alloc (.cells #[.int .u8 (f.toNat : Int), .int .u8 ((g ||| 128).toNat : Int), .int .u8 (c.toNat : Int)] 5))) := fun w => run_str (OwnB.lit w [f, g ||| 128, c] (by simp))
  have hcv2 : Hid (∀ w : World, (convert 36 9 (.slice (some ⟨w.heap.size, 0, none⟩) 3 3)).run Try.prog (w.alloc (.cells #[.int .u8 (f.toNat : Int), .int .u8 (g.toNat : Int), .int .u8 (c.toNat : Int)] 5)) = .ok (.string (bs [f, g, c])) (w.alloc (.cells #[.int .u8 (f.toNat : Int), .int .u8 (g.toNat : Int), .int .u8 (c.toNat : Int)] 5))) := fun w => run_str (OwnB.lit w [f, g, c] (by simp))
  have h1 : (takeT k [f, g ||| 128, c]).2.2 = 0 := by rw [takeT_three, if_pos hr]
  have h2 : (takeT k [f, g, c]).2.2 = 0 := by rw [takeT_three, if_pos hr]
  have ha : (takeT k [f, g, c]).1.length = 38 := by rw [takeT_len, hk]
  have hra : right (takeT k [f, g, c]).1 = true := by rw [takeT_three, if_pos hr]; exact take1_right hk hr f g c
  have h3 : (takeT (takeT k [f, g, c]).1 [f, g, c]).2.2 = 0 := by rw [takeT_three, if_pos hra]
  have hb : (takeT (takeT k [f, g, c]).1 [f, g, c]).1.length = 38 := by rw [takeT_len, ha]
  have H2 := Hid.mk' (Take_any k hk [f, g, c] (by simp))
  have H3 := Hid.mk' (Take_any (takeT k [f, g, c]).1 ha [f, g, c] (by simp))
  have hU : (bs (takeT (takeT k [f, g, c]).1 [f, g, c]).2.1).toList.isEmpty = false := by
    rw [bs_list]
    exact List.isEmpty_eq_false_iff.2 hu
  clear hu
  have hf3 : f.toNat < 19 := by omega
  have hf4 : (0 : Int) ≤ (f.toNat : Int) := by omega
  have hf5 : (f.toNat : Int) < 19 := by omega
  have HL : Hid ((bcells (takeT k [f, g, c]).1)[f.toNat]? = some (.int .u8 ((lv (takeT k [f, g, c]).1 f.toNat).toNat : Int)) ∧ (bcells (takeT k [f, g, c]).1)[19 + f.toNat]? = some (.int .u8 ((ch (takeT k [f, g, c]).1 f.toNat).toNat : Int))) := ⟨bcells_lv _ ha _ hf3, bcells_ch _ ha _ hf3⟩
  generalize hlx : ((lv (takeT k [f, g, c]).1 f.toNat).toNat : Int) = lx at *
  clear hlx
  generalize hcx : ((ch (takeT k [f, g, c]).1 f.toNat).toNat : Int) = cx at *
  clear hcx
  unfold RK at H1 H2 H3
  generalize (takeT (takeT k [f, g, c]).1 [f, g, c]) = Z at *
  generalize (takeT k [f, g, c]) = Y at *
  generalize (takeT k [f, g ||| 128, c]) = X at *
  obtain ⟨x, s, e1⟩ := X
  obtain ⟨a, s2, e2⟩ := Y
  obtain ⟨b, u, e3⟩ := Z
  dsimp only at *
  subst HQ h1 h2 h3
  have HO0 := Hid.mk' (bcells_one noK)
  have HOx := Hid.mk' (bcells_one x)
  have HSk := Hid.mk' (sizeKV k hk)
  have HSx := Hid.mk' (sizeKV x hx)
  have HNx : Hid ((bcells noK).length = (bcells x).length) := by rw [bcells_length, bcells_length, hx]; rfl
  have HE : Hid ((bs []).toList.isEmpty = true) := by rw [Hid, bs_list]; rfl
  have HOa := Hid.mk' (bcells_one a)
  have HOb := Hid.mk' (bcells_one b)
  have HSa := Hid.mk' (sizeKV a ha)
  have HSb := Hid.mk' (sizeKV b hb)
  have HNa : Hid ((bcells noK).length = (bcells a).length) := by rw [bcells_length, bcells_length, ha]; rfl
  have HNb : Hid ((bcells noK).length = (bcells b).length) := by rw [bcells_length, bcells_length, hb]; rfl
  unfold KV at *
  clear hr hra
  have hfb := u8_bd f
  have hgb := u8_bd g
  generalize bs [f, g ||| 128, c] = A1 at *
  generalize bs [f, g, c] = A2 at *
  generalize bs u = U at *
  generalize bs [] = E0 at *
  generalize ((g ||| 128).toNat : Int) = G at *
  go_enter Try.func6, Try.ntmps6
  have hB0 := Hid.mk' (Below.refl w.heap.size w)
  have le0 : w.heap.size ≤ w.heap.size := Nat.le_refl _
  go_wp2_with (refine wpList_box (bcells k) 24 rfl _ rfl rfl ?_)
  intro w1 mw1
  have ltw1 : w.heap.size < w1.heap.size := mw1.lt
  have hBw1 := Hid.mk' (mw1.below w.heap.size w le0 hB0.out)
  have lew1 : w.heap.size ≤ w1.heap.size := by omega
  have b0_w1 := Hid.mk' mw1.box
  clear mw1 
  have hcv := hcv1.out
  go_wp2_with (first | (refine wpList_load_box 24 24 (bcells k) w.heap.size _ Try.underlying24 rfl HSk.out b0_w1.out rfl _ rfl rfl ?_))
  refine (H1.out _).mono ?_
  rintro e w2 ⟨rfl, hw2⟩
  have hw2 : Below w1.heap.size w1 w2 := Below.trans ((Below.refl _ _).alloc (Nat.le_refl _) _) (Below.mono hw2 (by rw [World.size_alloc]; omega))
  have hBw2 := Hid.mk' (hBw1.out.trans (Below.mono hw2 lew1))
  have szw2 : w1.heap.size ≤ w2.heap.size := hw2.size
  have lew2 : w.heap.size ≤ w2.heap.size := by omega
  have b0_w2 := Hid.mk' (b0_w1.out.later hw2)
  have qb0_w2_w2 : w.heap.size < w2.heap.size := b0_w2.out.lt
  clear hw2 szw2 b0_w1
  clear hcv
  go_wp2_with (first | (refine wpList_load_box 24 24 (bcells k) w.heap.size _ Try.underlying24 rfl HSk.out b0_w2.out rfl _ rfl rfl ?_) | (refine wpList_alloc (bcells noK) 24 HZK.out rfl rfl ?_))
  intro w3 mw3
  have ltw3 : w2.heap.size < w3.heap.size := mw3.lt
  have hBw3 := Hid.mk' (mw3.below w.heap.size w lew2 hBw2.out)
  have lew3 : w.heap.size ≤ w3.heap.size := by omega
  have b0_w3 := Hid.mk' (mw3.keep b0_w2.out)
  have lbb0_w3 : w.heap.size < w3.heap.size := by omega
  have b1_w3 := Hid.mk' mw3.box
  clear mw3 b0_w2
  go_wp2_with (first | (refine wpList_load_box 24 24 (bcells k) w.heap.size _ Try.underlying24 rfl HSk.out b0_w3.out rfl _ rfl rfl ?_) | (refine wpList_store_box 24 24 (bcells noK) (bcells x) w2.heap.size HSx.out HOx.out b1_w3.out HNx.out rfl _ _ rfl rfl rfl ?_))
  intro w4 sw4
  have hBw4 := Hid.mk' (sw4.below w.heap.size w (by omega) hBw3.out)
  have szw4 : w4.heap.size = w3.heap.size := sw4.size
  have lew4 : w.heap.size ≤ w4.heap.size := by omega
  have b0_w4 := Hid.mk' (sw4.keep b0_w3.out (by omega))
  have b1_w4 := Hid.mk' sw4.box
  have ltw4 : w3.heap.size < w4.heap.size ∨ True := .inr trivial
  clear sw4 b0_w3 b1_w3
  have qw4 : w2.heap.size < w4.heap.size := b1_w4.out.lt
  clear ltw4 szw4
  go_wp2_with (first | (refine wpList_load_box 24 24 (bcells k) w.heap.size _ Try.underlying24 rfl HSk.out b0_w4.out rfl _ rfl rfl ?_) | (refine wpList_load_box 24 24 (bcells x) w2.heap.size _ Try.underlying24 rfl HSx.out b1_w4.out rfl _ rfl rfl ?_))
  refine (HLV.out _).mono ?_
  rintro e w5 ⟨rfl, hw5⟩
  have hBw5 := Hid.mk' (hBw4.out.trans (Below.mono hw5 lew4))
  have szw5 : w4.heap.size ≤ w5.heap.size := hw5.size
  have lew5 : w.heap.size ≤ w5.heap.size := by omega
  have b0_w5 := Hid.mk' (b0_w4.out.later hw5)
  have qb0_w5_w5 : w.heap.size < w5.heap.size := b0_w5.out.lt
  have b1_w5 := Hid.mk' (b1_w4.out.later hw5)
  have qb1_w5_w5 : w2.heap.size < w5.heap.size := b1_w5.out.lt
  clear hw5 szw5 b0_w4 b1_w4
  have hcv := hcv2.out
  go_wp2_with (first | (refine wpList_load_box 24 24 (bcells k) w.heap.size _ Try.underlying24 rfl HSk.out b0_w5.out rfl _ rfl rfl ?_) | (refine wpList_load_box 24 24 (bcells x) w2.heap.size _ Try.underlying24 rfl HSx.out b1_w5.out rfl _ rfl rfl ?_))
  refine (H2.out _).mono ?_
  rintro e w6 ⟨rfl, hw6⟩
  have hw6 : Below w5.heap.size w5 w6 := Below.trans ((Below.refl _ _).alloc (Nat.le_refl _) _) (Below.mono hw6 (by rw [World.size_alloc]; omega))
  have hBw6 := Hid.mk' (hBw5.out.trans (Below.mono hw6 lew5))
  have szw6 : w5.heap.size ≤ w6.heap.size := hw6.size
  have lew6 : w.heap.size ≤ w6.heap.size := by omega
  have b0_w6 := Hid.mk' (b0_w5.out.later hw6)
  have qb0_w6_w6 : w.heap.size < w6.heap.size := b0_w6.out.lt
  have b1_w6 := Hid.mk' (b1_w5.out.later hw6)
  have qb1_w6_w6 : w2.heap.size < w6.heap.size := b1_w6.out.lt
  clear hw6 szw6 b0_w5 b1_w5
  clear hcv
  go_wp2_with (first | (refine wpList_load_box 24 24 (bcells k) w.heap.size _ Try.underlying24 rfl HSk.out b0_w6.out rfl _ rfl rfl ?_) | (refine wpList_load_box 24 24 (bcells x) w2.heap.size _ Try.underlying24 rfl HSx.out b1_w6.out rfl _ rfl rfl ?_) | (refine wpList_alloc (bcells noK) 24 HZK.out rfl rfl ?_))
  intro w7 mw7
  have ltw7 : w6.heap.size < w7.heap.size := mw7.lt
  have hBw7 := Hid.mk' (mw7.below w.heap.size w lew6 hBw6.out)
  have lew7 : w.heap.size ≤ w7.heap.size := by omega
  have b0_w7 := Hid.mk' (mw7.keep b0_w6.out)
  have lbb0_w7 : w.heap.size < w7.heap.size := by omega
  have b1_w7 := Hid.mk' (mw7.keep b1_w6.out)
  have lbb1_w7 : w2.heap.size < w7.heap.size := by omega
  have b2_w7 := Hid.mk' mw7.box
  clear mw7 b0_w6 b1_w6
  go_wp2_with (first | (refine wpList_load_box 24 24 (bcells k) w.heap.size _ Try.underlying24 rfl HSk.out b0_w7.out rfl _ rfl rfl ?_) | (refine wpList_load_box 24 24 (bcells x) w2.heap.size _ Try.underlying24 rfl HSx.out b1_w7.out rfl _ rfl rfl ?_) | (refine wpList_store_box 24 24 (bcells noK) (bcells a) w6.heap.size HSa.out HOa.out b2_w7.out HNa.out rfl _ _ rfl rfl rfl ?_))
  intro w8 sw8
  have hBw8 := Hid.mk' (sw8.below w.heap.size w (by omega) hBw7.out)
  have szw8 : w8.heap.size = w7.heap.size := sw8.size
  have lew8 : w.heap.size ≤ w8.heap.size := by omega
  have b0_w8 := Hid.mk' (sw8.keep b0_w7.out (by omega))
  have b1_w8 := Hid.mk' (sw8.keep b1_w7.out (by omega))
  have b2_w8 := Hid.mk' sw8.box
  have ltw8 : w7.heap.size < w8.heap.size ∨ True := .inr trivial
  clear sw8 b0_w7 b1_w7 b2_w7
  have qw8 : w6.heap.size < w8.heap.size := b2_w8.out.lt
  clear ltw8 szw8
  have hcv := hcv2.out
  go_wp2_with (first | (refine wpList_load_box 24 24 (bcells k) w.heap.size _ Try.underlying24 rfl HSk.out b0_w8.out rfl _ rfl rfl ?_) | (refine wpList_load_box 24 24 (bcells x) w2.heap.size _ Try.underlying24 rfl HSx.out b1_w8.out rfl _ rfl rfl ?_) | (refine wpList_load_box 24 24 (bcells a) w6.heap.size _ Try.underlying24 rfl HSa.out b2_w8.out rfl _ rfl rfl ?_))
  refine (H3.out _).mono ?_
  rintro e w9 ⟨rfl, hw9⟩
  have hw9 : Below w8.heap.size w8 w9 := Below.trans ((Below.refl _ _).alloc (Nat.le_refl _) _) (Below.mono hw9 (by rw [World.size_alloc]; omega))
  have hBw9 := Hid.mk' (hBw8.out.trans (Below.mono hw9 lew8))
  have szw9 : w8.heap.size ≤ w9.heap.size := hw9.size
  have lew9 : w.heap.size ≤ w9.heap.size := by omega
  have b0_w9 := Hid.mk' (b0_w8.out.later hw9)
  have qb0_w9_w9 : w.heap.size < w9.heap.size := b0_w9.out.lt
  have b1_w9 := Hid.mk' (b1_w8.out.later hw9)
  have qb1_w9_w9 : w2.heap.size < w9.heap.size := b1_w9.out.lt
  have b2_w9 := Hid.mk' (b2_w8.out.later hw9)
  have qb2_w9_w9 : w6.heap.size < w9.heap.size := b2_w9.out.lt
  clear hw9 szw9 b0_w8 b1_w8 b2_w8
  clear hcv
  go_wp2_with (first | (refine wpList_load_box 24 24 (bcells k) w.heap.size _ Try.underlying24 rfl HSk.out b0_w9.out rfl _ rfl rfl ?_) | (refine wpList_load_box 24 24 (bcells x) w2.heap.size _ Try.underlying24 rfl HSx.out b1_w9.out rfl _ rfl rfl ?_) | (refine wpList_load_box 24 24 (bcells a) w6.heap.size _ Try.underlying24 rfl HSa.out b2_w9.out rfl _ rfl rfl ?_) | (refine wpList_alloc (bcells noK) 24 HZK.out rfl rfl ?_))
  intro w10 mw10
  have ltw10 : w9.heap.size < w10.heap.size := mw10.lt
  have hBw10 := Hid.mk' (mw10.below w.heap.size w lew9 hBw9.out)
  have lew10 : w.heap.size ≤ w10.heap.size := by omega
  have b0_w10 := Hid.mk' (mw10.keep b0_w9.out)
  have lbb0_w10 : w.heap.size < w10.heap.size := by omega
  have b1_w10 := Hid.mk' (mw10.keep b1_w9.out)
  have lbb1_w10 : w2.heap.size < w10.heap.size := by omega
  have b2_w10 := Hid.mk' (mw10.keep b2_w9.out)
  have lbb2_w10 : w6.heap.size < w10.heap.size := by omega
  have b3_w10 := Hid.mk' mw10.box
  clear mw10 b0_w9 b1_w9 b2_w9
  go_wp2_with (first | (refine wpList_load_box 24 24 (bcells k) w.heap.size _ Try.underlying24 rfl HSk.out b0_w10.out rfl _ rfl rfl ?_) | (refine wpList_load_box 24 24 (bcells x) w2.heap.size _ Try.underlying24 rfl HSx.out b1_w10.out rfl _ rfl rfl ?_) | (refine wpList_load_box 24 24 (bcells a) w6.heap.size _ Try.underlying24 rfl HSa.out b2_w10.out rfl _ rfl rfl ?_) | (refine wpList_store_box 24 24 (bcells noK) (bcells b) w9.heap.size HSb.out HOb.out b3_w10.out HNb.out rfl _ _ rfl rfl rfl ?_))
  intro w11 sw11
  have hBw11 := Hid.mk' (sw11.below w.heap.size w (by omega) hBw10.out)
  have szw11 : w11.heap.size = w10.heap.size := sw11.size
  have lew11 : w.heap.size ≤ w11.heap.size := by omega
  have b0_w11 := Hid.mk' (sw11.keep b0_w10.out (by omega))
  have b1_w11 := Hid.mk' (sw11.keep b1_w10.out (by omega))
  have b2_w11 := Hid.mk' (sw11.keep b2_w10.out (by omega))
  have b3_w11 := Hid.mk' sw11.box
  have ltw11 : w10.heap.size < w11.heap.size ∨ True := .inr trivial
  clear sw11 b0_w10 b1_w10 b2_w10 b3_w10
  have qw11 : w9.heap.size < w11.heap.size := b3_w11.out.lt
  clear ltw11 szw11
  have hl1 := b2_w11.out.cell HL.out.1
  have hl2 := b2_w11.out.cell HL.out.2
  have hEE := HE.out
  go_wp2_with (first | (refine wpList_load_box 24 24 (bcells k) w.heap.size _ Try.underlying24 rfl HSk.out b0_w11.out rfl _ rfl rfl ?_) | (refine wpList_load_box 24 24 (bcells x) w2.heap.size _ Try.underlying24 rfl HSx.out b1_w11.out rfl _ rfl rfl ?_) | (refine wpList_load_box 24 24 (bcells a) w6.heap.size _ Try.underlying24 rfl HSa.out b2_w11.out rfl _ rfl rfl ?_) | (refine wpList_load_box 24 24 (bcells b) w9.heap.size _ Try.underlying24 rfl HSb.out b3_w11.out rfl _ rfl rfl ?_))
  go_ret
  exact ⟨rfl, hBw11.out⟩

set_option maxHeartbeats 8000000 in
theorem Quiet_key (k : List UInt8) (hk : k.length = 38) (f g c : UInt8) (hr : right k = true) (hu : (takeT (takeT k [f, g, c]).1 [f, g, c]).2.1 ≠ []) (hg : ((g.toNat : Int) % 4 == 3) = false) (hf : ¬ (f.toNat : Int) < 1) (hf2 : ¬ 18 < (f.toNat : Int)) (hl : (((lv (takeT k [f, g, c]).1 f.toNat).toNat : Int) != (g.toNat : Int) % 4) = false) (hc : (((ch (takeT k [f, g, c]).1 f.toNat).toNat : Int) != (c.toNat : Int)) = true) (w : World) :
    Calls Try.prog 6 #[KV k, .int .u8 (f.toNat : Int), .int .u8 (g.toNat : Int), .int .u8 (c.toNat : Int)] w fun e w' => e = .returned (.bool true) ∧ Below w.heap.size w w' := by
  have HZK := Hid.mk' zeroK
  have HLV := Hid.mk' lives_any
  obtain ⟨hor, h128⟩ := or_u8 g
  have H1 := Hid.mk' (Take_any k hk [f, g ||| 128, c] (by simp))
  have HQ := sure_quiet k f (g ||| 128) c h128
  have hx : (takeT k [f, g ||| 128, c]).1.length = 38 := by rw [takeT_len, hk]
  have hcv1 : Hid (∀ w : World, (convert 36 9 (.slice (some ⟨w.heap.size, 0, none⟩) 3 3)).run Try.prog (w.alloc (.cells #[.int .u8 (f.toNat : Int), .int .u8 ((g ||| 128).toNat : Int), .int .u8 (c.toNat : Int)] 5)) = .ok (.string (bs [f, g ||| 128, c])) (w.alloc (.cells #[.int .u8 (f.toNat : Int), .int .u8 ((g ||| 128).toNat : Int), .int .u8 (c.toNat : Int)] 5))) := fun w => run_str (OwnB.lit w [f, g ||| 128, c] (by simp))
  have hcv2 : Hid (∀ w : World, (convert 36 9 (.slice (some ⟨w.heap.size, 0, none⟩) 3 3)).run Try.prog (w.alloc (.cells #[.int .u8 (f.toNat : Int), .int .u8 (g.toNat : Int), .int .u8 (c.toNat : Int)] 5)) = .ok (.string (bs [f, g, c])) (w.alloc (.cells #[.int .u8 (f.toNat : Int), .int .u8 (g.toNat : Int), .int .u8 (c.toNat : Int)] 5))) := fun w => run_str (OwnB.lit w [f, g, c] (by simp))
  have h1 : (takeT k [f, g ||| 128, c]).2.2 = 0 := by rw [takeT_three, if_pos hr]
  have h2 : (takeT k [f, g, c]).2.2 = 0 := by rw [takeT_three, if_pos hr]
  have ha : (takeT k [f, g, c]).1.length = 38 := by rw [takeT_len, hk]
  have hra : right (takeT k [f, g, c]).1 = true := by rw [takeT_three, if_pos hr]; exact take1_right hk hr f g c
  have h3 : (takeT (takeT k [f, g, c]).1 [f, g, c]).2.2 = 0 := by rw [takeT_three, if_pos hra]
  have hb : (takeT (takeT k [f, g, c]).1 [f, g, c]).1.length = 38 := by rw [takeT_len, ha]
  have H2 := Hid.mk' (Take_any k hk [f, g, c] (by simp))
  have H3 := Hid.mk' (Take_any (takeT k [f, g, c]).1 ha [f, g, c] (by simp))
  have hU : (bs (takeT (takeT k [f, g, c]).1 [f, g, c]).2.1).toList.isEmpty = false := by
    rw [bs_list]
    exact List.isEmpty_eq_false_iff.2 hu
  clear hu
  have hf3 : f.toNat < 19 := by omega
  have hf4 : (0 : Int) ≤ (f.toNat : Int) := by omega
  have hf5 : (f.toNat : Int) < 19 := by omega
  have HL : Hid ((bcells (takeT k [f, g, c]).1)[f.toNat]? = some (.int .u8 ((lv (takeT k [f, g, c]).1 f.toNat).toNat : Int)) ∧ (bcells (takeT k [f, g, c]).1)[19 + f.toNat]? = some (.int .u8 ((ch (takeT k [f, g, c]).1 f.toNat).toNat : Int))) := ⟨bcells_lv _ ha _ hf3, bcells_ch _ ha _ hf3⟩
  generalize hlx : ((lv (takeT k [f, g, c]).1 f.toNat).toNat : Int) = lx at *
  clear hlx
  generalize hcx : ((ch (takeT k [f, g, c]).1 f.toNat).toNat : Int) = cx at *
  clear hcx
  unfold RK at H1 H2 H3
  generalize (takeT (takeT k [f, g, c]).1 [f, g, c]) = Z at *
  generalize (takeT k [f, g, c]) = Y at *
  generalize (takeT k [f, g ||| 128, c]) = X at *
  obtain ⟨x, s, e1⟩ := X
  obtain ⟨a, s2, e2⟩ := Y
  obtain ⟨b, u, e3⟩ := Z
  dsimp only at *
  subst HQ h1 h2 h3
  have HO0 := Hid.mk' (bcells_one noK)
  have HOx := Hid.mk' (bcells_one x)
  have HSk := Hid.mk' (sizeKV k hk)
  have HSx := Hid.mk' (sizeKV x hx)
  have HNx : Hid ((bcells noK).length = (bcells x).length) := by rw [bcells_length, bcells_length, hx]; rfl
  have HE : Hid ((bs []).toList.isEmpty = true) := by rw [Hid, bs_list]; rfl
  have HOa := Hid.mk' (bcells_one a)
  have HOb := Hid.mk' (bcells_one b)
  have HSa := Hid.mk' (sizeKV a ha)
  have HSb := Hid.mk' (sizeKV b hb)
  have HNa : Hid ((bcells noK).length = (bcells a).length) := by rw [bcells_length, bcells_length, ha]; rfl
  have HNb : Hid ((bcells noK).length = (bcells b).length) := by rw [bcells_length, bcells_length, hb]; rfl
  unfold KV at *
  clear hr hra
  have hfb := u8_bd f
  have hgb := u8_bd g
  generalize bs [f, g ||| 128, c] = A1 at *
  generalize bs [f, g, c] = A2 at *
  generalize bs u = U at *
  generalize bs [] = E0 at *
  generalize ((g ||| 128).toNat : Int) = G at *
  go_enter Try.func6, Try.ntmps6
  have hB0 := Hid.mk' (Below.refl w.heap.size w)
  have le0 : w.heap.size ≤ w.heap.size := Nat.le_refl _
  go_wp2_with (refine wpList_box (bcells k) 24 rfl _ rfl rfl ?_)
  intro w1 mw1
  have ltw1 : w.heap.size < w1.heap.size := mw1.lt
  have hBw1 := Hid.mk' (mw1.below w.heap.size w le0 hB0.out)
  have lew1 : w.heap.size ≤ w1.heap.size := by omega
  have b0_w1 := Hid.mk' mw1.box
  clear mw1 
  have hcv := hcv1.out
  go_wp2_with (first | (refine wpList_load_box 24 24 (bcells k) w.heap.size _ Try.underlying24 rfl HSk.out b0_w1.out rfl _ rfl rfl ?_))
  refine (H1.out _).mono ?_
  rintro e w2 ⟨rfl, hw2⟩
  have hw2 : Below w1.heap.size w1 w2 := Below.trans ((Below.refl _ _).alloc (Nat.le_refl _) _) (Below.mono hw2 (by rw [World.size_alloc]; omega))
  have hBw2 := Hid.mk' (hBw1.out.trans (Below.mono hw2 lew1))
  have szw2 : w1.heap.size ≤ w2.heap.size := hw2.size
  have lew2 : w.heap.size ≤ w2.heap.size := by omega
  have b0_w2 := Hid.mk' (b0_w1.out.later hw2)
  have qb0_w2_w2 : w.heap.size < w2.heap.size := b0_w2.out.lt
  clear hw2 szw2 b0_w1
  clear hcv
  go_wp2_with (first | (refine wpList_load_box 24 24 (bcells k) w.heap.size _ Try.underlying24 rfl HSk.out b0_w2.out rfl _ rfl rfl ?_) | (refine wpList_alloc (bcells noK) 24 HZK.out rfl rfl ?_))
  intro w3 mw3
  have ltw3 : w2.heap.size < w3.heap.size := mw3.lt
  have hBw3 := Hid.mk' (mw3.below w.heap.size w lew2 hBw2.out)
  have lew3 : w.heap.size ≤ w3.heap.size := by omega
  have b0_w3 := Hid.mk' (mw3.keep b0_w2.out)
  have lbb0_w3 : w.heap.size < w3.heap.size := by omega
  have b1_w3 := Hid.mk' mw3.box
  clear mw3 b0_w2
  go_wp2_with (first | (refine wpList_load_box 24 24 (bcells k) w.heap.size _ Try.underlying24 rfl HSk.out b0_w3.out rfl _ rfl rfl ?_) | (refine wpList_store_box 24 24 (bcells noK) (bcells x) w2.heap.size HSx.out HOx.out b1_w3.out HNx.out rfl _ _ rfl rfl rfl ?_))
  intro w4 sw4
  have hBw4 := Hid.mk' (sw4.below w.heap.size w (by omega) hBw3.out)
  have szw4 : w4.heap.size = w3.heap.size := sw4.size
  have lew4 : w.heap.size ≤ w4.heap.size := by omega
  have b0_w4 := Hid.mk' (sw4.keep b0_w3.out (by omega))
  have b1_w4 := Hid.mk' sw4.box
  have ltw4 : w3.heap.size < w4.heap.size ∨ True := .inr trivial
  clear sw4 b0_w3 b1_w3
  have qw4 : w2.heap.size < w4.heap.size := b1_w4.out.lt
  clear ltw4 szw4
  go_wp2_with (first | (refine wpList_load_box 24 24 (bcells k) w.heap.size _ Try.underlying24 rfl HSk.out b0_w4.out rfl _ rfl rfl ?_) | (refine wpList_load_box 24 24 (bcells x) w2.heap.size _ Try.underlying24 rfl HSx.out b1_w4.out rfl _ rfl rfl ?_))
  refine (HLV.out _).mono ?_
  rintro e w5 ⟨rfl, hw5⟩
  have hBw5 := Hid.mk' (hBw4.out.trans (Below.mono hw5 lew4))
  have szw5 : w4.heap.size ≤ w5.heap.size := hw5.size
  have lew5 : w.heap.size ≤ w5.heap.size := by omega
  have b0_w5 := Hid.mk' (b0_w4.out.later hw5)
  have qb0_w5_w5 : w.heap.size < w5.heap.size := b0_w5.out.lt
  have b1_w5 := Hid.mk' (b1_w4.out.later hw5)
  have qb1_w5_w5 : w2.heap.size < w5.heap.size := b1_w5.out.lt
  clear hw5 szw5 b0_w4 b1_w4
  have hcv := hcv2.out
  go_wp2_with (first | (refine wpList_load_box 24 24 (bcells k) w.heap.size _ Try.underlying24 rfl HSk.out b0_w5.out rfl _ rfl rfl ?_) | (refine wpList_load_box 24 24 (bcells x) w2.heap.size _ Try.underlying24 rfl HSx.out b1_w5.out rfl _ rfl rfl ?_))
  refine (H2.out _).mono ?_
  rintro e w6 ⟨rfl, hw6⟩
  have hw6 : Below w5.heap.size w5 w6 := Below.trans ((Below.refl _ _).alloc (Nat.le_refl _) _) (Below.mono hw6 (by rw [World.size_alloc]; omega))
  have hBw6 := Hid.mk' (hBw5.out.trans (Below.mono hw6 lew5))
  have szw6 : w5.heap.size ≤ w6.heap.size := hw6.size
  have lew6 : w.heap.size ≤ w6.heap.size := by omega
  have b0_w6 := Hid.mk' (b0_w5.out.later hw6)
  have qb0_w6_w6 : w.heap.size < w6.heap.size := b0_w6.out.lt
  have b1_w6 := Hid.mk' (b1_w5.out.later hw6)
  have qb1_w6_w6 : w2.heap.size < w6.heap.size := b1_w6.out.lt
  clear hw6 szw6 b0_w5 b1_w5
  clear hcv
  go_wp2_with (first | (refine wpList_load_box 24 24 (bcells k) w.heap.size _ Try.underlying24 rfl HSk.out b0_w6.out rfl _ rfl rfl ?_) | (refine wpList_load_box 24 24 (bcells x) w2.heap.size _ Try.underlying24 rfl HSx.out b1_w6.out rfl _ rfl rfl ?_) | (refine wpList_alloc (bcells noK) 24 HZK.out rfl rfl ?_))
  intro w7 mw7
  have ltw7 : w6.heap.size < w7.heap.size := mw7.lt
  have hBw7 := Hid.mk' (mw7.below w.heap.size w lew6 hBw6.out)
  have lew7 : w.heap.size ≤ w7.heap.size := by omega
  have b0_w7 := Hid.mk' (mw7.keep b0_w6.out)
  have lbb0_w7 : w.heap.size < w7.heap.size := by omega
  have b1_w7 := Hid.mk' (mw7.keep b1_w6.out)
  have lbb1_w7 : w2.heap.size < w7.heap.size := by omega
  have b2_w7 := Hid.mk' mw7.box
  clear mw7 b0_w6 b1_w6
  go_wp2_with (first | (refine wpList_load_box 24 24 (bcells k) w.heap.size _ Try.underlying24 rfl HSk.out b0_w7.out rfl _ rfl rfl ?_) | (refine wpList_load_box 24 24 (bcells x) w2.heap.size _ Try.underlying24 rfl HSx.out b1_w7.out rfl _ rfl rfl ?_) | (refine wpList_store_box 24 24 (bcells noK) (bcells a) w6.heap.size HSa.out HOa.out b2_w7.out HNa.out rfl _ _ rfl rfl rfl ?_))
  intro w8 sw8
  have hBw8 := Hid.mk' (sw8.below w.heap.size w (by omega) hBw7.out)
  have szw8 : w8.heap.size = w7.heap.size := sw8.size
  have lew8 : w.heap.size ≤ w8.heap.size := by omega
  have b0_w8 := Hid.mk' (sw8.keep b0_w7.out (by omega))
  have b1_w8 := Hid.mk' (sw8.keep b1_w7.out (by omega))
  have b2_w8 := Hid.mk' sw8.box
  have ltw8 : w7.heap.size < w8.heap.size ∨ True := .inr trivial
  clear sw8 b0_w7 b1_w7 b2_w7
  have qw8 : w6.heap.size < w8.heap.size := b2_w8.out.lt
  clear ltw8 szw8
  have hcv := hcv2.out
  go_wp2_with (first | (refine wpList_load_box 24 24 (bcells k) w.heap.size _ Try.underlying24 rfl HSk.out b0_w8.out rfl _ rfl rfl ?_) | (refine wpList_load_box 24 24 (bcells x) w2.heap.size _ Try.underlying24 rfl HSx.out b1_w8.out rfl _ rfl rfl ?_) | (refine wpList_load_box 24 24 (bcells a) w6.heap.size _ Try.underlying24 rfl HSa.out b2_w8.out rfl _ rfl rfl ?_))
  refine (H3.out _).mono ?_
  rintro e w9 ⟨rfl, hw9⟩
  have hw9 : Below w8.heap.size w8 w9 := Below.trans ((Below.refl _ _).alloc (Nat.le_refl _) _) (Below.mono hw9 (by rw [World.size_alloc]; omega))
  have hBw9 := Hid.mk' (hBw8.out.trans (Below.mono hw9 lew8))
  have szw9 : w8.heap.size ≤ w9.heap.size := hw9.size
  have lew9 : w.heap.size ≤ w9.heap.size := by omega
  have b0_w9 := Hid.mk' (b0_w8.out.later hw9)
  have qb0_w9_w9 : w.heap.size < w9.heap.size := b0_w9.out.lt
  have b1_w9 := Hid.mk' (b1_w8.out.later hw9)
  have qb1_w9_w9 : w2.heap.size < w9.heap.size := b1_w9.out.lt
  have b2_w9 := Hid.mk' (b2_w8.out.later hw9)
  have qb2_w9_w9 : w6.heap.size < w9.heap.size := b2_w9.out.lt
  clear hw9 szw9 b0_w8 b1_w8 b2_w8
  clear hcv
  go_wp2_with (first | (refine wpList_load_box 24 24 (bcells k) w.heap.size _ Try.underlying24 rfl HSk.out b0_w9.out rfl _ rfl rfl ?_) | (refine wpList_load_box 24 24 (bcells x) w2.heap.size _ Try.underlying24 rfl HSx.out b1_w9.out rfl _ rfl rfl ?_) | (refine wpList_load_box 24 24 (bcells a) w6.heap.size _ Try.underlying24 rfl HSa.out b2_w9.out rfl _ rfl rfl ?_) | (refine wpList_alloc (bcells noK) 24 HZK.out rfl rfl ?_))
  intro w10 mw10
  have ltw10 : w9.heap.size < w10.heap.size := mw10.lt
  have hBw10 := Hid.mk' (mw10.below w.heap.size w lew9 hBw9.out)
  have lew10 : w.heap.size ≤ w10.heap.size := by omega
  have b0_w10 := Hid.mk' (mw10.keep b0_w9.out)
  have lbb0_w10 : w.heap.size < w10.heap.size := by omega
  have b1_w10 := Hid.mk' (mw10.keep b1_w9.out)
  have lbb1_w10 : w2.heap.size < w10.heap.size := by omega
  have b2_w10 := Hid.mk' (mw10.keep b2_w9.out)
  have lbb2_w10 : w6.heap.size < w10.heap.size := by omega
  have b3_w10 := Hid.mk' mw10.box
  clear mw10 b0_w9 b1_w9 b2_w9
  go_wp2_with (first | (refine wpList_load_box 24 24 (bcells k) w.heap.size _ Try.underlying24 rfl HSk.out b0_w10.out rfl _ rfl rfl ?_) | (refine wpList_load_box 24 24 (bcells x) w2.heap.size _ Try.underlying24 rfl HSx.out b1_w10.out rfl _ rfl rfl ?_) | (refine wpList_load_box 24 24 (bcells a) w6.heap.size _ Try.underlying24 rfl HSa.out b2_w10.out rfl _ rfl rfl ?_) | (refine wpList_store_box 24 24 (bcells noK) (bcells b) w9.heap.size HSb.out HOb.out b3_w10.out HNb.out rfl _ _ rfl rfl rfl ?_))
  intro w11 sw11
  have hBw11 := Hid.mk' (sw11.below w.heap.size w (by omega) hBw10.out)
  have szw11 : w11.heap.size = w10.heap.size := sw11.size
  have lew11 : w.heap.size ≤ w11.heap.size := by omega
  have b0_w11 := Hid.mk' (sw11.keep b0_w10.out (by omega))
  have b1_w11 := Hid.mk' (sw11.keep b1_w10.out (by omega))
  have b2_w11 := Hid.mk' (sw11.keep b2_w10.out (by omega))
  have b3_w11 := Hid.mk' sw11.box
  have ltw11 : w10.heap.size < w11.heap.size ∨ True := .inr trivial
  clear sw11 b0_w10 b1_w10 b2_w10 b3_w10
  have qw11 : w9.heap.size < w11.heap.size := b3_w11.out.lt
  clear ltw11 szw11
  have hl1 := b2_w11.out.cell HL.out.1
  have hl2 := b2_w11.out.cell HL.out.2
  have hEE := HE.out
  go_wp2_with (first | (refine wpList_load_box 24 24 (bcells k) w.heap.size _ Try.underlying24 rfl HSk.out b0_w11.out rfl _ rfl rfl ?_) | (refine wpList_load_box 24 24 (bcells x) w2.heap.size _ Try.underlying24 rfl HSx.out b1_w11.out rfl _ rfl rfl ?_) | (refine wpList_load_box 24 24 (bcells a) w6.heap.size _ Try.underlying24 rfl HSa.out b2_w11.out rfl _ rfl rfl ?_) | (refine wpList_load_box 24 24 (bcells b) w9.heap.size _ Try.underlying24 rfl HSb.out b3_w11.out rfl _ rfl rfl ?_))
  go_ret
  exact ⟨rfl, hBw11.out⟩

theorem SlcQuiet_any (k : List UInt8) (hk : k.length = 38) (f g c : UInt8) (w : World) :
    Calls Try.prog 6 #[KV k, .int .u8 (f.toNat : Int), .int .u8 (g.toNat : Int), .int .u8 (c.toNat : Int)] w fun e w' => e = .returned (.bool true) ∧ Below w.heap.size w w' := by
  rcases chk_two k with h | h
  · have hr := right_of h
    by_cases hu : (takeT (takeT k [f, g, c]).1 [f, g, c]).2.1 = []
    · exact Quiet_u k hk f g c hr hu w
    cases hg : ((g.toNat : Int) % 4 == 3) with
    | true => exact Quiet_asks k hk f g c hr hu hg w
    | false =>
      by_cases h1 : (f.toNat : Int) < 1
      · exact Quiet_low k hk f g c hr hu hg h1 w
      by_cases h2 : 18 < (f.toNat : Int)
      · exact Quiet_high k hk f g c hr hu hg h1 h2 w
      cases hl : (((lv (takeT k [f, g, c]).1 f.toNat).toNat : Int) != (g.toNat : Int) % 4) with
      | true => exact Quiet_level k hk f g c hr hu hg h1 h2 hl w
      | false =>
        cases hc : (((ch (takeT k [f, g, c]).1 f.toNat).toNat : Int) != (c.toNat : Int)) with
        | true => exact Quiet_key k hk f g c hr hu hg h1 h2 hl hc w
        | false =>
          refine absurd (twice_quiet f g c (by omega) (by omega) ?_ ?_) hu
          · have hm : (g % 4).toNat = g.toNat % 4 := by simp
            have e := bne_eq_false_iff_eq.1 hl
            exact UInt8.toNat_inj.1 (by omega)
          · have e := bne_eq_false_iff_eq.1 hc
            exact UInt8.toNat_inj.1 (by omega)
  · exact Quiet_no k hk f g c h w
end Go.Proofs.Ytfipmggdpigbkaa.K
