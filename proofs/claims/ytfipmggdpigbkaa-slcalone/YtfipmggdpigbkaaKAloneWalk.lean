/-
  Walk: farkeep.SlcAlone returns true; conditions: 38 bytes, no text longer than an int tells.
-/
import Derived.Test.YtfipmggdpigbkaaKLives
import Derived.Test.YtfipmggdpigbkaaKRef
import Derived.Test.YtfipmggdpigbkaaKNamed
import Derived.Deep.LoopGhost
namespace Go.Proofs.Ytfipmggdpigbkaa.K
open Go.RowKit Go.Lib Go.Proofs.Ytfipmggdpigbkaa Go.Proofs.Ytfipmggdpigbkaa.W Go.Proofs.Ytfipmggdpigbkaa.Q

attribute [local go_sem ↓] exec_eqlK exec_loadK exec_index

set_option maxHeartbeats 8000000 in
theorem Alone_no (k : List UInt8) (hk : k.length = 38) (s : List UInt8) (hz : s.length ≤ 9223372036854775807) (er : Int) (her : er = 4 ∨ er = 2) (hX : takeT k s = (k, [], er)) (w : World) :
    Calls Try.prog 7 #[KV k, .string (bs s)] w fun e w' => e = .returned (.bool true) ∧ Below w.heap.size w w' := by
  have HZK := Hid.mk' zeroK
  have HLV := Hid.mk' lives_any
  have H1 := Hid.mk' (Take_any k hk s hz)
  rw [hX] at H1
  have HOk := Hid.mk' (bcells_one k)
  have HSk := Hid.mk' (sizeKV k hk)
  have HNk : Hid ((bcells noK).length = (bcells k).length) := by rw [bcells_length, bcells_length, hk]; rfl
  have hkk := sameK hk
  have hE : (bs []).toList.isEmpty = true := by rw [bs_list]; rfl
  unfold RK at H1
  dsimp only at H1
  unfold KV at *
  generalize bs s = S at *
  generalize bs [] = E0 at *
  clear hX hz
  rcases her with rfl | rfl
  all_goals
    go_enter Try.func7, Try.ntmps7
    have hB0 := Hid.mk' (Below.refl w.heap.size w)
    have le0 : w.heap.size ≤ w.heap.size := Nat.le_refl _
    go_wp2_with (refine wpList_box (bcells k) 24 rfl _ rfl rfl ?_)
    intro w1 mw1
    have ltw1 : w.heap.size < w1.heap.size := mw1.lt
    have hBw1 := Hid.mk' (mw1.below w.heap.size w le0 hB0.out)
    have lew1 : w.heap.size ≤ w1.heap.size := by omega
    have b0_w1 := Hid.mk' mw1.box
    clear mw1 
    go_wp2_with (first | (refine wpList_load_box 24 24 (bcells k) w.heap.size _ Try.underlying24 rfl HSk.out b0_w1.out rfl _ rfl rfl ?_))
    refine (H1.out _).mono ?_
    rintro e w2 ⟨rfl, hw2⟩
    have hBw2 := Hid.mk' (hBw1.out.trans (Below.mono hw2 lew1))
    have szw2 : w1.heap.size ≤ w2.heap.size := hw2.size
    have lew2 : w.heap.size ≤ w2.heap.size := by omega
    have b0_w2 := Hid.mk' (b0_w1.out.later hw2)
    have qb0_w2_w2 : w.heap.size < w2.heap.size := b0_w2.out.lt
    clear hw2 szw2 b0_w1
    go_wp2_with (first | (refine wpList_load_box 24 24 (bcells k) w.heap.size _ Try.underlying24 rfl HSk.out b0_w2.out rfl _ rfl rfl ?_) | (refine wpList_alloc (bcells noK) 24 HZK.out rfl rfl ?_))
    intro w3 mw3
    have ltw3 : w2.heap.size < w3.heap.size := mw3.lt
    have hBw3 := Hid.mk' (mw3.below w.heap.size w lew2 hBw2.out)
    have lew3 : w.heap.size ≤ w3.heap.size := by omega
    have b0_w3 := Hid.mk' (mw3.keep b0_w2.out)
    have lbb0_w3 : w.heap.size < w3.heap.size := by omega
    have b1_w3 := Hid.mk' mw3.box
    clear mw3 b0_w2
    go_wp2_with (first | (refine wpList_load_box 24 24 (bcells k) w.heap.size _ Try.underlying24 rfl HSk.out b0_w3.out rfl _ rfl rfl ?_) | (refine wpList_store_box 24 24 (bcells noK) (bcells k) w2.heap.size HSk.out HOk.out b1_w3.out HNk.out rfl _ _ rfl rfl rfl ?_))
    intro w4 sw4
    have hBw4 := Hid.mk' (sw4.below w.heap.size w (by omega) hBw3.out)
    have szw4 : w4.heap.size = w3.heap.size := sw4.size
    have lew4 : w.heap.size ≤ w4.heap.size := by omega
    have b0_w4 := Hid.mk' (sw4.keep b0_w3.out (by omega))
    have b1_w4 := Hid.mk' sw4.box
    have ltw4 : w3.heap.size < w4.heap.size ∨ True := .inr trivial
    clear sw4 b0_w3 b1_w3
    have qw4 : w2.heap.size < w4.heap.size := b1_w4.out.lt
    clear ltw4 szw4
    go_wp2_with (first | (refine wpList_load_box 24 24 (bcells k) w.heap.size _ Try.underlying24 rfl HSk.out b0_w4.out rfl _ rfl rfl ?_) | (refine wpList_load_box 24 24 (bcells k) w2.heap.size _ Try.underlying24 rfl HSk.out b1_w4.out rfl _ rfl rfl ?_))
    refine (HLV.out _).mono ?_
    rintro e w5 ⟨rfl, hw5⟩
    have hBw5 := Hid.mk' (hBw4.out.trans (Below.mono hw5 lew4))
    have szw5 : w4.heap.size ≤ w5.heap.size := hw5.size
    have lew5 : w.heap.size ≤ w5.heap.size := by omega
    have b0_w5 := Hid.mk' (b0_w4.out.later hw5)
    have qb0_w5_w5 : w.heap.size < w5.heap.size := b0_w5.out.lt
    have b1_w5 := Hid.mk' (b1_w4.out.later hw5)
    have qb1_w5_w5 : w2.heap.size < w5.heap.size := b1_w5.out.lt
    clear hw5 szw5 b0_w4 b1_w4
    go_wp2_with (first | (refine wpList_load_box 24 24 (bcells k) w.heap.size _ Try.underlying24 rfl HSk.out b0_w5.out rfl _ rfl rfl ?_) | (refine wpList_load_box 24 24 (bcells k) w2.heap.size _ Try.underlying24 rfl HSk.out b1_w5.out rfl _ rfl rfl ?_))
    refine (HLV.out _).mono ?_
    rintro e w6 ⟨rfl, hw6⟩
    have hBw6 := Hid.mk' (hBw5.out.trans (Below.mono hw6 lew5))
    have szw6 : w5.heap.size ≤ w6.heap.size := hw6.size
    have lew6 : w.heap.size ≤ w6.heap.size := by omega
    have b0_w6 := Hid.mk' (b0_w5.out.later hw6)
    have qb0_w6_w6 : w.heap.size < w6.heap.size := b0_w6.out.lt
    have b1_w6 := Hid.mk' (b1_w5.out.later hw6)
    have qb1_w6_w6 : w2.heap.size < w6.heap.size := b1_w6.out.lt
    clear hw6 szw6 b0_w5 b1_w5
    have li0 := b0_w6.out.lies0 (n := 38) (by have h := HSk.out; rw [sizeK] at h; exact (Option.some.inj h).symm)
    have ri0 := b0_w6.out.row0 (n := 38) (by have h := HSk.out; rw [sizeK] at h; exact (Option.some.inj h).symm)
    have li1 := b1_w6.out.lies0 (n := 38) (by have h := HSk.out; rw [sizeK] at h; exact (Option.some.inj h).symm)
    have ri1 := b1_w6.out.row0 (n := 38) (by have h := HSk.out; rw [sizeK] at h; exact (Option.some.inj h).symm)
    go_wp2_with (first | (refine wpList_load_box 24 24 (bcells k) w.heap.size _ Try.underlying24 rfl HSk.out b0_w6.out rfl _ rfl rfl ?_) | (refine wpList_load_box 24 24 (bcells k) w2.heap.size _ Try.underlying24 rfl HSk.out b1_w6.out rfl _ rfl rfl ?_))
    go_ret
    exact ⟨rfl, hBw6.out⟩

theorem infoN : (Try.prog.info? 38).map (fun i => (i.zero, i.size)) = some (some (.agg (List.replicate 256 (Value.bool false)).toArray), 256) := by kernel_rfl
theorem zeroN : ∃ N : List Value, N.length = 256 ∧ (∀ j, j < 256 → N[j]? = some (.bool false)) ∧ ∀ w, (zeroValue 38).run Try.prog w = .ok (.agg N.toArray) w :=
  ⟨List.replicate 256 (Value.bool false), List.length_replicate, fun j hj => by rw [List.getElem?_replicate, if_pos hj], (zero_of infoN).1⟩

/-- what the first loop keeps -/
def L1 (w : World) (s : List UInt8) (k x : List Value) (bx b8 : Nat) (g : Nat) (s9 : Value) (wr : World) : Prop :=
  ∃ (i : Nat) (N : List Value), i ≤ s.length ∧ s.length - i ≤ g ∧ i % 3 = 0 ∧ s9 = .int .i64 (i : Int) ∧ Hid (N.length = 256) ∧ Hid (∀ j, j < 256 → N[j]? = some (.bool (nmd (s.take i) j))) ∧ Hid (Box wr w.heap.size 24 k) ∧ Hid (Box wr bx 24 x) ∧ Hid (Box wr b8 38 N) ∧ Hid (Below w.heap.size w wr)
/-- .. and the second -/
def L2 (w : World) (k x N : List Value) (bx b8 : Nat) (g : Nat) (s44 : Value) (wr : World) : Prop :=
  ∃ (n : Nat), n ≤ 19 ∧ 19 - n ≤ g ∧ s44 = .int .i64 (n : Int) ∧ Hid (Box wr w.heap.size 24 k) ∧ Hid (Box wr bx 24 x) ∧ Hid (Box wr b8 38 N) ∧ Hid (Below w.heap.size w wr)

set_option maxHeartbeats 16000000 in
theorem Alone_ok (k : List UInt8) (hk : k.length = 38) (s : List UInt8) (hr : right k = true) (hs3 : s.length % 3 = 0) (hs300 : s.length ≤ 300) (hX : takeT k s = ((run k s).1, (run k s).2, 0)) (w : World) :
    Calls Try.prog 7 #[KV k, .string (bs s)] w fun e w' => e = .returned (.bool true) ∧ Below w.heap.size w w' := by
  have HZK := Hid.mk' zeroK
  have HLV := Hid.mk' lives_any
  obtain ⟨N0, hN0, hN1, hN2⟩ := zeroN
  have HZN := Hid.mk' hN2
  have H1 := Hid.mk' (Take_any k hk s (by omega))
  rw [hX] at H1
  have hx : (run k s).1.length = 38 := by rw [run_len, hk]
  have hxr : chk (run k s).1 = 0 := by unfold chk; rw [if_pos (run_right hk hr s)]
  have H6 := Hid.mk' (KeysRight_any (run k s).1 hx)
  rw [hxr] at H6
  have HKE : Hid (∀ j, j < 19 → nmd s j = false → lv (run k s).1 j = lv k j ∧ ch (run k s).1 j = ch k j) := fun j hj h => run_keep _ k s (Nat.le_refl _) hk j hj h
  have HSD := run_said k s
  unfold RK at H1
  dsimp only at H1
  generalize (run k s).1 = x at *
  generalize (run k s).2 = u at *
  have HOx := Hid.mk' (bcells_one x)
  have HSk := Hid.mk' (sizeKV k hk)
  have HSx := Hid.mk' (sizeKV x hx)
  have HNx : Hid ((bcells noK).length = (bcells x).length) := by rw [bcells_length, bcells_length, hx]; rfl
  have hsz := bs_size s
  have HSZ := Hid.mk' hsz
  have husz := bs_size u
  have hf1 : ((bs u).size : Int) % 3 = 0 := by omega
  have hf1' : (((bs u).size : Int) % 3 == 0) = true := by rw [beq_iff_eq]; exact hf1
  have hf2 : ((bs u).size : Int) ≤ ((bs s).size : Int) := by omega
  have HF := Hid.mk' (And.intro hf1 hf2)
  have HGET : Hid (∀ i (h : i < s.length) (h2 : i < (bs s).size), (bs s)[i]'h2 = s[i]'h) := fun i h h2 => rfl
  have HCk : Hid (∀ j, j < 19 → (bcells k)[j]? = some (.int .u8 ((lv k j).toNat : Int)) ∧ (bcells k)[19 + j]? = some (.int .u8 ((ch k j).toNat : Int))) := fun j hj => ⟨bcells_lv k hk j hj, bcells_ch k hk j hj⟩
  have HCx : Hid (∀ j, j < 19 → (bcells x)[j]? = some (.int .u8 ((lv x j).toNat : Int)) ∧ (bcells x)[19 + j]? = some (.int .u8 ((ch x j).toNat : Int))) := fun j hj => ⟨bcells_lv x hx j hj, bcells_ch x hx j hj⟩
  have HLx : Hid ((bcells x).length = 38) := by rw [bcells_length, hx]; rfl
  have hST : Hid (∀ bx b8 (wr : World), Box wr w.heap.size 24 (bcells k) → Box wr bx 24 (bcells x) → Box wr b8 38 N0 → Below w.heap.size w wr → L1 w s (bcells k) (bcells x) bx b8 s.length (.int .i64 0) wr) := fun bx b8 wr h1 h2 h3 h4 =>
    ⟨0, N0, Nat.zero_le _, by omega, rfl, rfl, hN0, Hid.mk' (fun j hj => by rw [List.take_zero, nmd_nil]; exact hN1 j hj), h1, h2, h3, h4⟩
  clear hsz husz HSD hf1 hf1' hf2 hN1 hN2 hX
  unfold KV at *
  generalize bs s = S at *
  generalize bs u = U at *
  go_enter Try.func7, Try.ntmps7
  have hB0 := Hid.mk' (Below.refl w.heap.size w)
  have le0 : w.heap.size ≤ w.heap.size := Nat.le_refl _
  go_wp2_with (refine wpList_box (bcells k) 24 rfl _ rfl rfl ?_)
  intro w1 mw1
  have ltw1 : w.heap.size < w1.heap.size := mw1.lt
  have hBw1 := Hid.mk' (mw1.below w.heap.size w le0 hB0.out)
  have lew1 : w.heap.size ≤ w1.heap.size := by omega
  have b0_w1 := Hid.mk' mw1.box
  clear mw1 
  go_wp2_with (first | (refine wpList_load_box 24 24 (bcells k) w.heap.size _ Try.underlying24 rfl HSk.out b0_w1.out rfl _ rfl rfl ?_))
  refine (H1.out _).mono ?_
  rintro e w2 ⟨rfl, hw2⟩
  have hBw2 := Hid.mk' (hBw1.out.trans (Below.mono hw2 lew1))
  have szw2 : w1.heap.size ≤ w2.heap.size := hw2.size
  have lew2 : w.heap.size ≤ w2.heap.size := by omega
  have b0_w2 := Hid.mk' (b0_w1.out.later hw2)
  have qb0_w2_w2 : w.heap.size < w2.heap.size := b0_w2.out.lt
  clear hw2 szw2 b0_w1
  go_wp2_with (first | (refine wpList_load_box 24 24 (bcells k) w.heap.size _ Try.underlying24 rfl HSk.out b0_w2.out rfl _ rfl rfl ?_) | (refine wpList_alloc (bcells noK) 24 HZK.out rfl rfl ?_))
  intro w3 mw3
  have ltw3 : w2.heap.size < w3.heap.size := mw3.lt
  have hBw3 := Hid.mk' (mw3.below w.heap.size w lew2 hBw2.out)
  have lew3 : w.heap.size ≤ w3.heap.size := by omega
  have b0_w3 := Hid.mk' (mw3.keep b0_w2.out)
  have lbb0_w3 : w.heap.size < w3.heap.size := by omega
  have b1_w3 := Hid.mk' mw3.box
  clear mw3 b0_w2
  go_wp2_with (first | (refine wpList_load_box 24 24 (bcells k) w.heap.size _ Try.underlying24 rfl HSk.out b0_w3.out rfl _ rfl rfl ?_) | (refine wpList_store_box 24 24 (bcells noK) (bcells x) w2.heap.size HSx.out HOx.out b1_w3.out HNx.out rfl _ _ rfl rfl rfl ?_))
  intro w4 sw4
  have hBw4 := Hid.mk' (sw4.below w.heap.size w (by omega) hBw3.out)
  have szw4 : w4.heap.size = w3.heap.size := sw4.size
  have lew4 : w.heap.size ≤ w4.heap.size := by omega
  have b0_w4 := Hid.mk' (sw4.keep b0_w3.out (by omega))
  have b1_w4 := Hid.mk' sw4.box
  have ltw4 : w3.heap.size < w4.heap.size ∨ True := .inr trivial
  clear sw4 b0_w3 b1_w3
  have qw4 : w2.heap.size < w4.heap.size := b1_w4.out.lt
  clear ltw4 szw4
  go_wp2_with (first | (refine wpList_load_box 24 24 (bcells k) w.heap.size _ Try.underlying24 rfl HSk.out b0_w4.out rfl _ rfl rfl ?_) | (refine wpList_load_box 24 24 (bcells x) w2.heap.size _ Try.underlying24 rfl HSx.out b1_w4.out rfl _ rfl rfl ?_))
  refine (HLV.out _).mono ?_
  rintro e w5 ⟨rfl, hw5⟩
  have hBw5 := Hid.mk' (hBw4.out.trans (Below.mono hw5 lew4))
  have szw5 : w4.heap.size ≤ w5.heap.size := hw5.size
  have lew5 : w.heap.size ≤ w5.heap.size := by omega
  have b0_w5 := Hid.mk' (b0_w4.out.later hw5)
  have qb0_w5_w5 : w.heap.size < w5.heap.size := b0_w5.out.lt
  have b1_w5 := Hid.mk' (b1_w4.out.later hw5)
  have qb1_w5_w5 : w2.heap.size < w5.heap.size := b1_w5.out.lt
  clear hw5 szw5 b0_w4 b1_w4
  go_wp2_with (first | (refine wpList_alloc N0 38 HZN.out rfl rfl ?_))
  intro wn mn
  have zk := b0_w5.out.lt
  have zx := b1_w5.out.lt
  have HST2 := Hid.mk' (hST.out w2.heap.size w5.heap.size wn (mn.keep b0_w5.out) (mn.keep b1_w5.out) mn.box (mn.below w.heap.size w (by omega) hBw5.out))
  have zxk : w.heap.size < w2.heap.size := by omega
  clear mn hST b0_w5 b1_w5 hBw5
  go_wp2_with fail
  go_loopg [9] s.length (fun g s9 wr => L1 w s (bcells k) (bcells x) w2.heap.size w5.heap.size g s9 wr)
  case atStart => exact HST2.out
  case round =>
    obtain ⟨i, N, hi, hg, hi3, rfl, HNL, HNM, BK, BXx, BN, BL⟩ := hrel
    clear HST2
    have hsz := HSZ.out
    by_cases hlt : i < s.length
    · have j0 : (0 : Int) ≤ (i : Int) := by omega
      have j1 : (i : Int) < (S.size : Int) := by omega
      have j6 : (i : Int) ≤ 300 := by omega
      obtain ⟨hi0, hb0⟩ := inB S (i : Int) i s[i] rfl (by omega) (HGET.out i hlt (by omega))
      have HND : Hid (∀ j, nmd (s.take (i + 3)) j = (nmd (s.take i) j || decide (s[i].toNat = j))) := fun j => nmd_step s i (by omega) hi3 j
      have hbb := u8_bd s[i]
      have hb256 := s[i].toNat_lt
      generalize s[i] = b0 at *
      have hb3 : (b0.toNat : Int) < 256 := by omega
      have hcell := BN.out.cell (HNM.out b0.toNat hb256)
      have hfr := BN.out.frozen
      have S1 := Hid.mk' (Stored.cell BN.out b0.toNat (.bool true))
      have A0 := Hid.mk' (S1.out.keep BK.out (by omega))
      have A1 := Hid.mk' (S1.out.keep BXx.out (by omega))
      have A2 := Hid.mk' S1.out.box
      have AL := Hid.mk' (S1.out.below w.heap.size w (by omega) BL.out)
      have HN2 : Hid (∀ j, j < 256 → (N.set b0.toNat (.bool true))[j]? = some (.bool (nmd (s.take (i + 3)) j))) := fun j hj => by
        rw [HND.out]
        by_cases e : b0.toNat = j
        · subst e
          rw [List.getElem?_set_self (by rw [HNL.out]; omega), decide_eq_true rfl, Bool.or_true]
        · rw [List.getElem?_set_ne e, HNM.out j hj, decide_eq_false e, Bool.or_false]
      have HNL2 : Hid ((N.set b0.toNat (.bool true)).length = 256) := by rw [Hid, List.length_set]; exact HNL.out
      clear hsz HNM HNL BN BK BXx BL HND S1
      go_wp2
      go_roundg (s.length - (i + 3))
      case measure => omega
      case rel => exact ⟨i + 3, _, by omega, by omega, by omega, by go_num, HNL2, HN2, A0, A1, A2, AL⟩
    · obtain rfl : i = s.length := by omega
      have hj : ¬ ((s.length : Nat) : Int) < (S.size : Int) := by omega
      have HNS : Hid (∀ j, j < 256 → N[j]? = some (.bool (nmd s j))) := fun j hj => by
        have h := HNM.out j hj
        rwa [List.take_length] at h
      have HST3 : Hid (L2 w (bcells k) (bcells x) N w2.heap.size w5.heap.size 19 (.int .i64 0) wr) := ⟨0, Nat.zero_le _, by omega, rfl, BK, BXx, BN, BL⟩
      clear hsz HNM BK BXx BN BL
      obtain ⟨wo, hwo⟩ : ∃ wo, wo = wr := ⟨_, rfl⟩
      subst hwo
      go_wp2_with fail
      go_loopg [44] 19 (fun g s44 wr => L2 w (bcells k) (bcells x) N w2.heap.size w5.heap.size g s44 wr)
      case atStart => exact HST3.out
      case round =>
        obtain ⟨n, hn, hg2, rfl, BK, BXx, BN, BL⟩ := hrel
        clear HST3
        by_cases hlt2 : n < 19
        · have n0 : (0 : Int) ≤ (n : Int) := by omega
          have n1 : (n : Int) < 19 := by omega
          have n2 : (n : Int) < 256 := by omega
          have c8 := BN.out.cell (HNS.out n (by omega))
          have k0 := BK.out.cell (HCk.out n hlt2).1
          have k1 := BK.out.cell (HCk.out n hlt2).2
          have x0 := BXx.out.cell (HCx.out n hlt2).1
          have x1 := BXx.out.cell (HCx.out n hlt2).2
          have HKN := Hid.mk' (HKE.out n hlt2)
          have BKD : ∀ m, Hid (Box (wr.drewN m) w.heap.size 24 (bcells k)) := fun m => BK.out
          have BXD : ∀ m, Hid (Box (wr.drewN m) w2.heap.size 24 (bcells x)) := fun m => BXx.out
          have BND : ∀ m, Hid (Box (wr.drewN m) w5.heap.size 38 N) := fun m => BN.out
          have BLD : ∀ m, Hid (Below w.heap.size w (wr.drewN m)) := fun m => below_drewN BL.out m
          clear BK BXx BN BL
          cases hnm : nmd s n with
          | true =>
            rw [hnm] at c8
            clear HKN
            go_wp2_with fail
            go_quiet (fail)
            all_goals go_wp2
            all_goals go_roundg (19 - (n + 1))
            case measure => omega
            case rel => exact ⟨n + 1, by omega, by omega, by go_num, BKD _, BXD _, BND _, BLD _⟩
          | false =>
            rw [hnm] at c8
            obtain ⟨q1, q2⟩ := HKN.out hnm
            rw [q1] at x0
            rw [q2] at x1
            clear HKN q1 q2 hnm
            generalize ((lv k n).toNat : Int) = lx at *
            generalize ((ch k n).toNat : Int) = cx at *
            have hl0 : (lx != lx) = false := by simp
            have hc0 : (cx != cx) = false := by simp
            go_wp2_with fail
            go_quiet (fail)
            all_goals go_wp2
            all_goals go_roundg (19 - (n + 1))
            case measure => omega
            case rel => exact ⟨n + 1, by omega, by omega, by go_num, BKD _, BXD _, BND _, BLD _⟩
        · obtain rfl : n = 19 := by omega
          obtain ⟨hf1, hf2⟩ := HF.out
          have li := BXx.out.lies0 (n := 38) HLx.out
          have ri := BXx.out.row0 (n := 38) HLx.out
          have HEND := Hid.mk' (fun (w' : World) (h : Below wr.heap.size wr w') => BL.out.trans (Below.mono h BL.out.size))
          clear BK BN BL
          go_wp2_with (go_at_call 14; refine (H6.out _).mono ?_; rintro e wz ⟨rfl, hh⟩)
          go_ret
          exact ⟨rfl, HEND.out _ hh⟩

theorem SlcAlone_any (k : List UInt8) (hk : k.length = 38) (s : List UInt8) (hz : s.length ≤ 9223372036854775807) (w : World) :
    Calls Try.prog 7 #[KV k, .string (bs s)] w fun e w' => e = .returned (.bool true) ∧ Below w.heap.size w w' := by
  rcases chk_two k with hc | hc
  · by_cases h3 : s.length % 3 = 0
    · by_cases h4 : s.length ≤ 300
      · exact Alone_ok k hk s (right_of hc) h3 h4 (takeT_ok hc h3 h4) w
      · exact Alone_no k hk s hz 2 (.inr rfl) (takeT_large hc h3 h4) w
    · exact Alone_no k hk s hz 4 (.inl rfl) (takeT_len3 hc h3) w
  · exact Alone_no k hk s hz 4 (.inl rfl) (takeT_form hc s) w
end Go.Proofs.Ytfipmggdpigbkaa.K
