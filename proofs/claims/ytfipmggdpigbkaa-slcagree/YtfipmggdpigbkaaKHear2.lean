/-
  Contract of slc.hear where a function is named; condition: 38 bytes.
-/
import Derived.Test.YtfipmggdpigbkaaKAlloc
namespace Go.Proofs.Ytfipmggdpigbkaa.K
open Go.RowKit Go.Proofs.Ytfipmggdpigbkaa Go.Proofs.Ytfipmggdpigbkaa.W Go.Proofs.Ytfipmggdpigbkaa.Q

attribute [local go_sem ↓] exec_loadT exec_storeT exec_loadK exec_storeK

theorem take1_yes (k : List UInt8) {f : UInt8} (g c : UInt8) (hf : isF f = true) : take1 k f g c = (put k f.toNat (st3 f (lv k f.toNat) (ch k f.toNat) (g % 4) c (decide (128 ≤ g))).1.1 (st3 f (lv k f.toNat) (ch k f.toNat) (g % 4) c (decide (128 ≤ g))).1.2, outT (st3 f (lv k f.toNat) (ch k f.toNat) (g % 4) c (decide (128 ≤ g)))) := by
  obtain ⟨h1, h2⟩ := st3_say f (lv k f.toNat) (ch k f.toNat) g c
  unfold take1
  rw [if_pos hf, h2, h1]
theorem mod4_lt (g : UInt8) : (g % 4).toNat ≤ 3 ∧ ((g.toNat : Int) % 4 = ((g % 4).toNat : Int)) := by
  have h : (g % 4).toNat = g.toNat % 4 := by simp
  omega
theorem sure_iff (g : UInt8) : decide (128 ≤ g) = decide (128 ≤ (g.toNat : Int)) := by
  have : (128 : UInt8).toNat = 128 := rfl
  rw [Bool.eq_iff_iff, decide_eq_true_eq, decide_eq_true_eq, UInt8.le_iff_toNat_le]
  omega

set_option maxHeartbeats 8000000 in
theorem hear_in (k : List UInt8) (hk : k.length = 38) (f g c : UInt8) (hf : isF f = true) (w : World) :
    Calls Try.prog 18 #[KV k, T3 f g c] w fun e w' => HR k f g c e ∧ Below w.heap.size w w' := by
  obtain ⟨hf1, hf2⟩ := of_decide_eq_true hf
  have HZ := Hid.mk' zeroT
  have HZK := Hid.mk' zeroK
  obtain ⟨hG, hm⟩ := mod4_lt g
  have HH : Hid (∀ w, Calls Try.prog 20 #[KV k, .int .u8 (f.toNat : Int)] w fun e w' => e = .returned (.agg (tc f (lv k f.toNat) (ch k f.toNat)).toArray) ∧ Below w.heap.size w w') := held_any k hk f (by omega)
  have HS : Hid (∀ sure w, Calls Try.prog 23 #[.agg (tc f (lv k f.toNat) (ch k f.toNat)).toArray, .agg (tc f (g % 4) c).toArray, .bool sure] w fun e w' => e = .returned (RS (st3 f (lv k f.toNat) (ch k f.toNat) (g % 4) c sure) f) ∧ Below w.heap.size w w') := fun sure => settle_any f _ _ _ c sure hG
  have HT : Hid (∀ r, r = st3 f (lv k f.toNat) (ch k f.toNat) (g % 4) c (decide (128 ≤ (g.toNat : Int))) → HR k f g c (.returned (.tuple #[KV (put k f.toNat r.1.1 r.1.2), T3 r.2.1.1 r.2.1.2.1 r.2.1.2.2, .bool r.2.2]))) := fun r hr => by
    rw [HR, take1_yes k g c hf, sure_iff, ← hr]
    exact ⟨_, _, _, _, rfl, rfl⟩
  have HP : Hid (∀ a b : UInt8, bcells (put k f.toNat a b) = ((bcells k).set f.toNat (.int .u8 (a.toNat : Int))).set (19 + f.toNat) (.int .u8 (b.toNat : Int))) := bcells_put k f.toNat
  have HPL : Hid (∀ a b : UInt8, (bcells (put k f.toNat a b)).length = 38) := fun a b => by rw [bcells_length, put_length, hk]
  have HG0 : Hid ((tc f g c)[0]? = some (.int .u8 (f.toNat : Int)) ∧ (tc f g c)[1]? = some (.int .u8 (g.toNat : Int)) ∧ (tc f g c).set 1 (.int .u8 ((g % 4).toNat : Int)) = tc f (g % 4) c) := ⟨rfl, rfl, rfl⟩
  have HLK : Hid ((bcells k).length = 38) := by rw [bcells_length, hk]; rfl
  have HKH : Hid (Holds (.agg (bcells k).toArray) 38) := KV.holds k hk
  have HO := Hid.mk' tc_one
  unfold KV at *
  generalize st3 f (lv k f.toNat) (ch k f.toNat) (g % 4) c = ST at *
  generalize tc f (lv k f.toNat) (ch k f.toNat) = OU at *
  have hg := u8_bd g
  have hff := u8_bd f
  have HN := Hid.mk' HLK.out
  generalize hl : bcells k = l at *
  clear hl
  generalize hgi : (g.toNat : Int) = gi at *
  clear hgi
  generalize hG2 : g % 4 = G at *
  clear hG2
  have hGi := u8_bd G
  go_enter Try.func18, Try.ntmps18
  go_wp2_with (refine wpList_box l 24 rfl _ rfl rfl ?_)
  intro w1 m1
  go_wp2_with (refine wpList_box (tc f g c) 41 rfl _ rfl rfl ?_)
  intro w2 m2
  go_wp2_with (refine wpList_alloc (bcells noK) 24 HZK.out rfl rfl ?_)
  intro w3 m3
  go_wp2_with (refine wpList_alloc (tc 0 0 0) 41 HZ.out rfl rfl ?_)
  intro w4 m4
  have z1 := m1.lt
  have z2 := m2.lt
  have z3 := m3.lt
  have z4 := m4.lt
  have B0 := Hid.mk' (m4.keep (m3.keep (m2.keep m1.box)))
  have B1 := Hid.mk' (m4.keep (m3.keep m2.box))
  have B2 := Hid.mk' (m4.keep m3.box)
  have B3 := Hid.mk' m4.box
  have HL := Hid.mk' (m4.below w.heap.size w (by omega) (m3.below _ _ (by omega) (m2.below _ _ (by omega) (m1.below _ _ (Nat.le_refl _) (Below.refl _ w)))))
  have hc0 := B1.out.cell HG0.out.1
  have hc1 := B1.out.cell HG0.out.2.1
  have q2 : w.heap.size ≤ w2.heap.size := by omega
  have q3 : w.heap.size ≤ w3.heap.size := by omega
  have q4 : w2.heap.size ≠ w3.heap.size := by omega
  have hlt : w2.heap.size < w3.heap.size := by omega
  have hi1 : ¬ (f.toNat : Int) < 1 := by omega
  have hi2 : ¬ 18 < (f.toNat : Int) := by omega
  have hd1 : decide ((f.toNat : Int) < 1) = false := decide_eq_false hi1
  have hd2 : decide (18 < (f.toNat : Int)) = false := decide_eq_false hi2
  clear m1 m2 m3 m4
  go_wp2_with fail
  go_quiet (fail)
  have C0 : Hid (Box (w4.drewN nq) w.heap.size 24 l) := B0.out
  have C1 : Hid (Box (w4.drewN nq) w1.heap.size 41 (tc f g c)) := B1.out
  have C2 : Hid (Box (w4.drewN nq) w2.heap.size 24 (bcells noK)) := B2.out
  have C3 : Hid (Box (w4.drewN nq) w3.heap.size 41 (tc 0 0 0)) := B3.out
  have CL := Hid.mk' (below_drewN HL.out nq)
  have z5 : w3.heap.size < (w4.drewN nq).heap.size := z4
  generalize w4.drewN nq = w5 at *
  clear B0 B1 B2 B3 HL hc0 hc1 z4
  have b1 := C1.out
  go_wp2_with (first | (refine wpList_load_box 41 41 (tc f g c) w1.heap.size _ Try.underlying41 rfl (sizeT3 _ _ _) b1 rfl _ rfl rfl ?_) | (refine wpList_alloc (tc 0 0 0) 41 HZ.out rfl rfl ?_))
  intro w6 m6
  go_wp2_with (refine wpList_store_box 41 41 (tc 0 0 0) (tc f g c) w5.heap.size (sizeT3 _ _ _) (HO.out _ _ _) m6.box rfl rfl _ _ rfl rfl rfl ?_)
  intro w7 s7
  have z6 := m6.lt
  have z7 : w6.heap.size = w7.heap.size := s7.size.symm
  have D0 := Hid.mk' (s7.keep (m6.keep C0.out) (by omega))
  have D2 := Hid.mk' (s7.keep (m6.keep C2.out) (by omega))
  have D3 := Hid.mk' (s7.keep (m6.keep C3.out) (by omega))
  have DL := Hid.mk' (s7.below w.heap.size w (by omega) (m6.below _ _ (by omega) CL.out))
  have S8 := Hid.mk' (Stored.cell s7.box 1 (.int .u8 (G.toNat : Int)))
  rw [HG0.out.2.2] at S8
  have hc1 := s7.box.cell HG0.out.2.1
  have hfr := s7.box.frozen
  have z8 : w5.heap.size < w7.heap.size := by omega
  clear m6 s7 b1 C0 C1 C2 C3 CL z6 z7
  go_wp2_with fail
  have E0 := S8.out.keep D0.out (by omega)
  have E2 := Hid.mk' (S8.out.keep D2.out (by omega))
  have E3 := Hid.mk' (S8.out.keep D3.out (by omega))
  have E9 := S8.out.box
  have EL := Hid.mk' (S8.out.below w.heap.size w (by omega) DL.out)
  have z9 : w5.heap.size < (w7.setCell ⟨w5.heap.size, 1, none⟩ (.int .u8 (G.toNat : Int))).heap.size := by rw [S8.out.size]; exact z8
  clear S8 D0 D2 D3 DL hc1 hfr z8
  generalize w7.setCell ⟨w5.heap.size, 1, none⟩ (.int .u8 (G.toNat : Int)) = w8 at *
  have hE : Ext w8.drew w8.drew := Ext.refl _
  have hr : ∀ w', Ext w' w' := Ext.refl
  have x0 := E0.drew
  have x9 := E9.drew
  have hl0 : ∀ w', Ext w8.drew w' → Lies w' (.pointer (some ⟨w.heap.size, 0, none⟩)) 38 := fun w' h => (x0.later h).lies0 HLK.out
  have hr0 : ∀ w', Ext w8.drew w' → Q.rowAt w' (.pointer (some ⟨w.heap.size, 0, none⟩)) 38 = l := fun w' h => (x0.later h).row0 HLK.out
  have hl9 : ∀ w', Ext w8.drew w' → Lies w' (.pointer (some ⟨w5.heap.size, 0, none⟩)) 3 := fun w' h => (x9.later h).lies0 rfl
  have hr9 : ∀ w', Ext w8.drew w' → Q.rowAt w' (.pointer (some ⟨w5.heap.size, 0, none⟩)) 3 = tc f G c := fun w' h => (x9.later h).row0 rfl
  have H0 := Hid.mk' E0
  have H9 := Hid.mk' E9
  clear x0 x9 E0 E9
  have HS2 := Hid.mk' (HS.out (decide (128 ≤ gi)))
  generalize ST (decide (128 ≤ gi)) = r at *
  obtain ⟨⟨r1, r2⟩, ⟨s0, s1, s2⟩, due⟩ := r
  unfold RS at HS2
  dsimp only at HS2
  have HT2 := Hid.mk' (HT.out _ rfl)
  dsimp only at HT2
  have h10 : Holds (T3 f r1 r2) 3 := T3.holds _ _ _
  have h11 : Holds (T3 s0 s1 s2) 3 := T3.holds _ _ _
  have hE1 : ∀ o, Ext w8.drew (w8.alloc o).drew := fun o => (show Ext w8.drew (w8.drew.alloc o) from of_eq_true (ext_alloc (Ext.refl _) o))
  have hE2 : ∀ o o', Ext w8.drew ((w8.alloc o).alloc o').drew := fun o o' => (show Ext w8.drew ((w8.drew.alloc o).alloc o') from of_eq_true (ext_alloc (of_eq_true (ext_alloc (Ext.refl _) o)) o'))
  have hs0 : w8.drew.heap.size ≤ w8.heap.size := Nat.le_refl _
  have hs1 : w8.drew.heap.size ≤ w8.heap.size + 1 := Nat.le_succ _
  have g1 := new1
  have g2 := new2
  have g3 := old2
  have g4 := put_new1
  have g5 := put_new2
  have g6 := put_old2
  have g10 := new1d
  have g11 := new2d
  have g12 := old2d
  have g7 : ∀ (w : World) q n p u, Lies w q n → Lies (putAt w p u) q n := fun w q n p u h => put_keep h p u
  have g8 : ∀ (w : World) q n o, Lies w q n → Lies (w.alloc o) q n := fun w q n o h => alloc_keep h o
  have g9 : ∀ (w : World) q n o p u, Lies w q n → Lies (putAt (w.alloc o) p u) q n := fun w q n o p u h => put_alloc_keep h o p u
  clear HT HS
  rename_i Q' K hKK
  have REST : ∀ (b d : Nat) (W : World), Ext w8.drew W → w8.heap.size ≤ b → w8.heap.size ≤ d → b ≠ d → Box W b 41 (tc f r1 r2) → Box W d 41 (tc s0 s1 s2) → Exit.then K Q' Exit.normal
    { tmps := #[.agg l.toArray, T3 f g c, .pointer (some ⟨w.heap.size, 0, none⟩), .pointer (some ⟨w1.heap.size, 0, none⟩), .pointer (some ⟨w2.heap.size, 0, none⟩), .pointer (some ⟨w3.heap.size, 0, none⟩), .bool false, .int .u8 (f.toNat : Int), .bool (decide (128 ≤ gi)), .pointer (some ⟨w5.heap.size, 0, none⟩), .pointer (some ⟨b, 0, none⟩), .pointer (some ⟨d, 0, none⟩), .bool due, .pointer (some ⟨w1.heap.size, 0, none⟩), .int .u8 (f.toNat : Int), .pointer (some ⟨w1.heap.size, 1, none⟩), .int .u8 gi, .bool (decide (128 ≤ gi)), .int .u8 (f.toNat : Int), .bool false, .bool false, .int .u8 (f.toNat : Int), .bool false, .bool false, undef, undef, undef, undef, undef, .agg (tc f g c).toArray, .pointer (some ⟨w5.heap.size, 1, none⟩), .int .u8 gi, .int .u8 (G.toNat : Int), .pointer (some ⟨w5.heap.size, 1, none⟩), .tuple #[T3 f r1 r2, T3 s0 s1 s2, .bool due], .agg l.toArray, .int .u8 (f.toNat : Int), .agg OU.toArray, .agg (tc f G c).toArray, .bool (decide (128 ≤ gi)), .tuple #[T3 f r1 r2, T3 s0 s1 s2, .bool due], T3 f r1 r2, T3 s0 s1 s2, .bool due, undef, undef, undef, undef, undef, undef, undef, undef, undef, undef, undef, undef, undef], defers := [] } W := by
    intro b d W hx hb0 hd0 hne hB hD
    clear HH HS2 hl0 hr0 hl9 hr9 h10 h11 g1 g2 g3 g4 g5 g6 g7 g8 g9 g10 g11 g12 hE1 hE2 hs0 hs1 hr hE
    have P0 : Box W w.heap.size 24 l := H0.out.drew.later hx
    have zw : w.heap.size < w8.heap.size := H0.out.lt
    have c1 : W.drew.cell? ⟨b, 1, none⟩ = some (.int .u8 (r1.toNat : Int)) := hB.drew.cell rfl
    have c2 : W.drew.cell? ⟨b, 2, none⟩ = some (.int .u8 (r2.toNat : Int)) := hB.drew.cell rfl
    have hfr := P0.drew.frozen
    have n0 : b ≠ w.heap.size := by omega
    have hn38 := HN.out
    obtain ⟨v1, hv1⟩ : ∃ v, W.drew.cell? ⟨w.heap.size, f.toNat, none⟩ = some v := ⟨_, P0.drew.cell (List.getElem?_eq_getElem (show f.toNat < l.length by omega))⟩
    obtain ⟨v2, hv2⟩ : ∃ v, W.drew.cell? ⟨w.heap.size, 19 + f.toNat, none⟩ = some v := ⟨_, P0.drew.cell (List.getElem?_eq_getElem (show 19 + f.toNat < l.length by omega))⟩
    have P1 := P0.setCell f.toNat (.int .u8 (r1.toNat : Int))
    have hv3 : ∃ v, (W.setCell ⟨w.heap.size, f.toNat, none⟩ (.int .u8 (r1.toNat : Int))).drew.cell? ⟨w.heap.size, 19 + f.toNat, none⟩ = some v := ⟨_, P1.drew.cell (List.getElem?_eq_getElem (show 19 + f.toNat < (l.set f.toNat (.int .u8 (r1.toNat : Int))).length by rw [List.length_set]; omega))⟩
    obtain ⟨v3, hv3⟩ := hv3
    have hfr2 := P1.drew.frozen
    have S9 := Stored.cell P0 f.toNat (.int .u8 (r1.toNat : Int))
    have c3 : (W.setCell ⟨w.heap.size, f.toNat, none⟩ (.int .u8 (r1.toNat : Int))).drew.cell? ⟨b, 2, none⟩ = some (.int .u8 (r2.toNat : Int)) := (S9.keep hB n0).drew.cell rfl
    have SA := Hid.mk' (Stored.cell P1 (19 + f.toNat) (.int .u8 (r2.toNat : Int)))
    rw [← HP.out r1 r2] at SA
    have D3 := Hid.mk' (SA.out.keep (S9.keep hD (by omega)) (by omega))
    have A2 := Hid.mk' (SA.out.keep (S9.keep (E2.out.drew.later hx) (by omega)) (by omega))
    have A3 := Hid.mk' (SA.out.keep (S9.keep (E3.out.drew.later hx) (by omega)) (by omega))
    have AL := Hid.mk' (SA.out.below w.heap.size w (Nat.le_refl _) (S9.below w.heap.size w (Nat.le_refl _) (EL.out.drew.trans (Below.mono hx (show w.heap.size ≤ w8.heap.size by omega)))))
    clear S9 P1 hB hD P0 hx
    go_wp2_with fail
    go_region
    have U0 : Hid (Box ((W.setCell ⟨w.heap.size, f.toNat, none⟩ (.int .u8 (r1.toNat : Int))).setCell ⟨w.heap.size, 19 + f.toNat, none⟩ (.int .u8 (r2.toNat : Int))).drew w.heap.size 24 (bcells (put k f.toNat r1 r2))) := SA.out.box.drew
    have U2 := Hid.mk' A2.out.drew
    have U3 := Hid.mk' A3.out.drew
    have UD := Hid.mk' D3.out.drew
    have UL := Hid.mk' AL.out.drew
    clear SA A2 A3 D3 AL hv1 hv2 hv3 hfr hfr2 c1 c2 c3
    generalize ((W.setCell ⟨w.heap.size, f.toNat, none⟩ (.int .u8 (r1.toNat : Int))).setCell ⟨w.heap.size, 19 + f.toNat, none⟩ (.int .u8 (r2.toNat : Int))).drew = wz at *
    have HPL2 := Hid.mk' (HPL.out r1 r2)
    have hh6 : Hid (Holds (.agg (bcells (put k f.toNat r1 r2)).toArray) 38) := KV.holds _ (by rw [put_length, hk])
    generalize bcells (put k f.toNat r1 r2) = M at *
    have x0 := U0.out.drew
    have xd := UD.out.drew
    have hS : SD wz.drew w2.heap.size 24 38 w3.heap.size 41 3 d 41 (tc s0 s1 s2) wz.drew := ⟨⟨Below.refl _ _, ⟨_, U2.out.drew, rfl⟩, ⟨_, U3.out.drew, rfl⟩⟩, xd⟩
    have hm0 : ∀ w', SD wz.drew w2.heap.size 24 38 w3.heap.size 41 3 d 41 (tc s0 s1 s2) w' → Lies w' (.pointer (some ⟨w.heap.size, 0, none⟩)) 38 := fun w' h => (x0.below h.1.1 (by omega)).lies0 HPL2.out
    have hm1 : ∀ w', SD wz.drew w2.heap.size 24 38 w3.heap.size 41 3 d 41 (tc s0 s1 s2) w' → Q.rowAt w' (.pointer (some ⟨w.heap.size, 0, none⟩)) 38 = M := fun w' h => (x0.below h.1.1 (by omega)).row0 HPL2.out
    have hm2 : ∀ w', SD wz.drew w2.heap.size 24 38 w3.heap.size 41 3 d 41 (tc s0 s1 s2) w' → Lies w' (.pointer (some ⟨w2.heap.size, 0, none⟩)) 38 := fun w' h => h.1.2.1.lies
    have hm3 : ∀ w', SD wz.drew w2.heap.size 24 38 w3.heap.size 41 3 d 41 (tc s0 s1 s2) w' → Lies w' (.pointer (some ⟨w3.heap.size, 0, none⟩)) 3 := fun w' h => h.1.2.2.lies
    have hmd : ∀ w', SD wz.drew w2.heap.size 24 38 w3.heap.size 41 3 d 41 (tc s0 s1 s2) w' → Lies w' (.pointer (some ⟨d, 0, none⟩)) 3 := fun w' h => h.2.lies0 rfl
    have hme : ∀ w', SD wz.drew w2.heap.size 24 38 w3.heap.size 41 3 d 41 (tc s0 s1 s2) w' → Q.rowAt w' (.pointer (some ⟨d, 0, none⟩)) 3 = tc s0 s1 s2 := fun w' h => h.2.row0 rfl
    have nd2 : d ≠ w2.heap.size := by omega
    have nd3 : d ≠ w3.heap.size := by omega
    have hk6 := hh6.out
    have hk7 : Holds (.agg (tc s0 s1 s2).toArray) 3 := T3.holds _ _ _
    have hn7 : Hid ((tc s0 s1 s2).length = 3) := rfl
    have V6 := hS.1.2.1.put M HPL2.out
    have V7 := Hid.mk' ((hS.1.2.2.other (V6.other _ q4.symm)).put (tc s0 s1 s2) rfl)
    have v6 := Hid.mk' (V7.out.keep V6.box q4)
    have VL := Hid.mk' (V7.out.below _ _ q3 (V6.below _ _ q2 UL.out.drew))
    have hMM := HPL2.out
    clear x0 xd U0 U2 U3 UD UL V6 hh6
    go_wp2_with fail
    go_region_held3 (fun w' => SD wz.drew w2.heap.size 24 38 w3.heap.size 41 3 d 41 (tc s0 s1 s2) w') (first | with_reducible assumption | (with_reducible refine SD.put (by with_reducible assumption) hlt nd2 nd3 _ (by first | exact Or.inl ⟨rfl, HPL2.out⟩ | exact Or.inr ⟨rfl, hn7.out⟩))) (fail)
    go_wp2
    exact ret_keys Try.results18 M (tc s0 s1 s2) w2.heap.size w3.heap.size _ rfl rfl rfl v6.out V7.out.box rfl ⟨HT2.out, VL.out⟩ hMM rfl
  go_region_held3 (fun w' => Ext w8.drew w') (first | with_reducible assumption | (simp only [ext_alloc, *]; done) | (simp only [ext_put, *]; done) | fail) (first | (go_at_call 20; refine (HH.out _).mono ?_; rintro e wy ⟨rfl, hb⟩; have hsy : Ext w8.drew wy := Ext.trans (by with_reducible assumption) hb; (try (have va := HasBox.ext ua hb)); (try (have vb := HasBox.ext ub hb)); (try (have vc := HasBox.ext uc hb)); (try (have ve := HasBox.ext (has_keep ua _) hb)); (try (have ua := HasBox.ext (hnew1 _) hb)); (try (have ua := HasBox.ext (hnew1d _) hb)); (try (have uc := HasBox.ext (hnew2d _ _) hb)); (try (have uc := HasBox.ext (hnew2 _ _) hb)); (try (have ub := HasBox.ext (hold2d _ _) hb)); (try (have ub := HasBox.ext (hold2 _ _) hb)); (try simp only [size_drew] at ua); (try simp only [size_drew] at ub); (try simp only [size_drew] at uc); (try (have ta := lies_ext ka hb)); (try (have tb := lies_ext kb hb)); (try (have td := lies_ext kc hb)); (try (have te := lies_ext (alloc_keep ka _) hb)); (try (have ka := lies_ext (new1 _) hb)); (try (have ka := lies_ext (new1d _) hb)); (try (have kc := lies_ext (new2d _ _) hb)); (try (have kb := lies_ext (old2d _ _) hb)); (try (have kc := lies_ext (new2 _ _) hb)); (try (have kb := lies_ext (old2 _ _) hb)); (try simp only [size_drew] at ka); (try simp only [size_drew] at kb); (try simp only [size_drew] at kc); have hz : w8.drew.heap.size ≤ wy.heap.size := Ext.size hsy; have hz1 : w8.drew.heap.size ≤ wy.heap.size + 1 := Nat.le_succ_of_le hz; have hz2 := Ext.size hb; (try simp only [size_drew] at hz2); (try simp only [World.size_alloc] at hz2)) | (go_at_call 23; refine (HS2.out _).mono ?_; rintro e wy ⟨rfl, hb⟩; have hsy : Ext w8.drew wy := Ext.trans (by with_reducible assumption) hb; (try (have va := HasBox.ext ua hb)); (try (have vb := HasBox.ext ub hb)); (try (have vc := HasBox.ext uc hb)); (try (have ve := HasBox.ext (has_keep ua _) hb)); (try (have ua := HasBox.ext (hnew1 _) hb)); (try (have ua := HasBox.ext (hnew1d _) hb)); (try (have uc := HasBox.ext (hnew2d _ _) hb)); (try (have uc := HasBox.ext (hnew2 _ _) hb)); (try (have ub := HasBox.ext (hold2d _ _) hb)); (try (have ub := HasBox.ext (hold2 _ _) hb)); (try simp only [size_drew] at ua); (try simp only [size_drew] at ub); (try simp only [size_drew] at uc); (try (have ta := lies_ext ka hb)); (try (have tb := lies_ext kb hb)); (try (have td := lies_ext kc hb)); (try (have te := lies_ext (alloc_keep ka _) hb)); (try (have ka := lies_ext (new1 _) hb)); (try (have ka := lies_ext (new1d _) hb)); (try (have kc := lies_ext (new2d _ _) hb)); (try (have kb := lies_ext (old2d _ _) hb)); (try (have kc := lies_ext (new2 _ _) hb)); (try (have kb := lies_ext (old2 _ _) hb)); (try simp only [size_drew] at ka); (try simp only [size_drew] at kb); (try simp only [size_drew] at kc); have hz : w8.drew.heap.size ≤ wy.heap.size := Ext.size hsy; have hz1 : w8.drew.heap.size ≤ wy.heap.size + 1 := Nat.le_succ_of_le hz; have hz2 := Ext.size hb; (try simp only [size_drew] at hz2); (try simp only [World.size_alloc] at hz2)))
  all_goals have hsd : w8.drew.heap.size = w8.heap.size := rfl
  all_goals exact REST _ _ _ (by with_reducible assumption) (by omega) (by omega) (by omega) (two_puts (by first | with_reducible assumption | with_reducible exact hnew1 _ | with_reducible exact hnew2 _ _ | with_reducible exact hold2 _ _ | (with_reducible refine has_keep ?_ _; with_reducible assumption)) (by first | with_reducible assumption | with_reducible exact hnew1 _ | with_reducible exact hnew2 _ _ | with_reducible exact hold2 _ _ | (with_reducible refine has_keep ?_ _; with_reducible assumption)) (by omega) _ _ _ _ _ _).1 (two_puts (by first | with_reducible assumption | with_reducible exact hnew1 _ | with_reducible exact hnew2 _ _ | with_reducible exact hold2 _ _ | (with_reducible refine has_keep ?_ _; with_reducible assumption)) (by first | with_reducible assumption | with_reducible exact hnew1 _ | with_reducible exact hnew2 _ _ | with_reducible exact hold2 _ _ | (with_reducible refine has_keep ?_ _; with_reducible assumption)) (by omega) _ _ _ _ _ _).2
end Go.Proofs.Ytfipmggdpigbkaa.K
