/-
  Contract of farref.KeysTaken; conditions: 38 bytes; no text longer than an int tells.
-/
import Derived.Test.YtfipmggdpigbkaaKTakeAll
import Derived.Test.YtfipmggdpigbkaaKSaid
namespace Go.Proofs.Ytfipmggdpigbkaa.K
open Go.RowKit Go.Lib Go.Proofs.Ytfipmggdpigbkaa Go.Proofs.Ytfipmggdpigbkaa.W Go.Proofs.Ytfipmggdpigbkaa.Q

theorem KeySaid_any (o y f g c : UInt8) (w : World) : Calls Try.prog 19 (KArgs o y f g c) w fun e w' => e = .returned (RI (saidR o y f g c)) ∧ Below w.heap.size w w' := by
  have hge := ge_iff g
  have eq8 : ∀ a b : UInt8, ((a.toNat : Int) == (b.toNat : Int)) = decide (a = b) := fun a b => by
    by_cases h : a = b
    · rw [decide_eq_true h]; exact eqI a b h
    · rw [decide_eq_false h]; exact neI a b h
  cases hf : isF f with
  | false =>
    by_cases hg : (128 : Int) ≤ (g.toNat : Int)
    · have e : saidR o y f g c = (o, y, []) := by
        unfold saidR
        rw [hf, if_neg (by decide), if_neg (by rw [UInt8.not_lt]; exact hge.2 hg)]
      rw [e]; exact said_out1 o y f g c hf hg w
    · have e : saidR o y f g c = (o, y, [f, 0, 0]) := by
        unfold saidR
        rw [hf, if_neg (by decide), if_pos (by rw [← UInt8.not_le]; exact fun h => hg (hge.1 h))]
      rw [e]; exact said_out2 o y f g c hf hg w
  | true =>
    by_cases hn : g % 4 = o ∧ c = y
    · have e : saidR o y f g c = (o, y, []) := by
        unfold saidR say
        rw [hf, if_pos rfl, if_pos hn]; rfl
      rw [e]
      exact said_same o y f g c hf (by rw [eq8]; exact decide_eq_true hn.1) (by rw [eq8]; exact decide_eq_true hn.2) w
    have hn' : ((((g % 4).toNat : Int) == (o.toNat : Int)) = false) ∨ ((((g % 4).toNat : Int) == (o.toNat : Int)) = true ∧ ((c.toNat : Int) == (y.toNat : Int)) = false) := by
      rw [eq8, eq8]
      by_cases h : g % 4 = o
      · exact .inr ⟨decide_eq_true h, decide_eq_false fun h2 => hn ⟨h, h2⟩⟩
      · exact .inl (decide_eq_false h)
    by_cases hg : (128 : Int) ≤ (g.toNat : Int)
    · by_cases h3 : g % 4 = 3
      · have e : saidR o y f g c = (o, y, []) := by
          unfold saidR say
          rw [hf, if_pos rfl, if_neg hn, if_pos (hge.2 hg), if_pos h3]; rfl
        rw [e]; exact said_sure3 o y f g c hf hn' hg (eqI (g % 4) 3 h3) w
      · have e : saidR o y f g c = (g % 4, c, []) := by
          unfold saidR say
          rw [hf, if_pos rfl, if_neg hn, if_pos (hge.2 hg), if_neg h3]; rfl
        rw [e]; exact said_sure o y f g c hf hn' hg (neI (g % 4) 3 h3) w
    have hg2 : ¬ 128 ≤ g := fun h => hg (hge.1 h)
    by_cases h0 : g % 4 = 0
    · have e : saidR o y f g c = (0, c, [f, 128, c]) := by
        unfold saidR say
        rw [hf, if_pos rfl, if_neg hn, if_neg hg2, if_pos h0]; rfl
      rw [e]; exact said_none o y f g c hf hn' hg (eqI (g % 4) 0 h0) w
    by_cases h3 : g % 4 = 3
    · have e : saidR o y f g c = (o, y, [f, o, y]) := by
        unfold saidR say
        rw [hf, if_pos rfl, if_neg hn, if_neg hg2, if_neg h0, if_pos h3]; rfl
      rw [e]; exact said_asks o y f g c hf hn' hg (neI (g % 4) 0 h0) (eqI (g % 4) 3 h3) w
    by_cases ho : o = 1
    · by_cases h1 : g % 4 = 1
      · have e : saidR o y f g c = (0, 0, [f, 0, 0]) := by
          unfold saidR say
          rw [hf, if_pos rfl, if_neg hn, if_neg hg2, if_neg h0, if_neg h3, if_pos ho, if_pos h1]; rfl
        rw [e]; exact said_both o y f g c hf hn' hg (neI (g % 4) 0 h0) (neI (g % 4) 3 h3) (eqI o 1 ho) (eqI (g % 4) 1 h1) w
      · have e : saidR o y f g c = (o, y, [f, 1, y]) := by
          unfold saidR say
          rw [hf, if_pos rfl, if_neg hn, if_neg hg2, if_neg h0, if_neg h3, if_pos ho, if_neg h1]; rfl
        rw [e]; exact said_keep o y f g c hf hn' hg (neI (g % 4) 0 h0) (neI (g % 4) 3 h3) (eqI o 1 ho) (neI (g % 4) 1 h1) w
    · have e : saidR o y f g c = (g % 4, c, [f, 128 + g % 4, c]) := by
        unfold saidR say
        rw [hf, if_pos rfl, if_neg hn, if_neg hg2, if_neg h0, if_neg h3, if_neg ho]; rfl
      rw [e]; exact said_takes o y f g c hf hn' hg (neI (g % 4) 0 h0) (neI (g % 4) 3 h3) (neI o 1 ho) w

theorem taken1 (k : List UInt8) (hk : k.length = 38) (f g c : UInt8) (j : Nat) (hj : (f.toNat ≤ 18 ∧ j = f.toNat) ∨ (18 < f.toNat ∧ j = 0)) :
    (put k j (saidR (lv k j) (ch k j) f g c).1 (saidR (lv k j) (ch k j) f g c).2.1, (saidR (lv k j) (ch k j) f g c).2.2) = take1 k f g c := by
  unfold saidR take1
  by_cases hf : isF f = true
  · obtain ⟨h1, h2⟩ := of_decide_eq_true hf
    obtain rfl : j = f.toNat := by omega
    rw [if_pos hf, if_pos hf]
  · rw [if_neg hf, if_neg hf, put_same k j hk (by omega)]
set_option maxHeartbeats 8000000 in
theorem Taken_no (k : List UInt8) (hk : k.length = 38) (s : ByteArray) (er : Int) (he : (chk k = 4 ∧ er = 4) ∨ (chk k = 0 ∧ ¬ s.size % 3 = 0 ∧ er = 4) ∨ (chk k = 0 ∧ s.size % 3 = 0 ∧ 300 < s.size ∧ er = 2)) (hz : s.size ≤ 9223372036854775807) (w : World) :
    Calls Try.prog 10 #[KV k, .string s] w fun e w' => e = .returned (RK (k, [], er)) ∧ Below w.heap.size w w' := by
  have HZK := Hid.mk' zeroK
  have HC := Hid.mk' (KeysRight_any k hk)
  have HL := Hid.mk' (bcells_one k)
  have HS := Hid.mk' (sizeKV k hk)
  have HN : Hid ((bcells noK).length = (bcells k).length) := by rw [bcells_length, bcells_length, hk]; rfl
  have HR : Hid (RK (k, [], er) = .tuple #[.agg (bcells k).toArray, .string ⟨#[]⟩, .int .i64 er]) := rfl
  unfold KV at *
  generalize bcells k = l at *
  rcases he with ⟨h1, rfl⟩ | ⟨h1, h2, rfl⟩ | ⟨h1, h2, h3, rfl⟩
  all_goals
    rw [h1] at HC
    go_enter Try.func10, Try.ntmps10
    go_wp2_with (refine wpList_box l 24 rfl _ rfl rfl ?_)
    intro w1 m1
    go_wp2_with (refine wpList_alloc (bcells noK) 24 HZK.out rfl rfl ?_)
    intro w2 m2
    have z1 := m1.lt
    have b2 := m2.keep m1.box
    have c2 := m2.box
    have HB2 := Hid.mk' (m2.below w.heap.size w (by omega) (m1.below _ _ (Nat.le_refl _) (Below.refl _ w)))
    have z2 := m2.lt
    go_wp2_with (refine wpList_load_box 24 24 l w.heap.size _ Try.underlying24 rfl HS.out b2 rfl _ rfl rfl ?_)
    refine (HC.out _).mono ?_
    rintro e w3 ⟨rfl, h3'⟩
    have b3 := b2.later h3'
    have c3 := c2.later h3'
    have HB3 := Hid.mk' (HB2.out.trans (h3'.mono (by omega)))
    have hle : w.heap.size ≤ w1.heap.size := by omega
    clear m1 m2 b2 c2 h3' z1 z2
    have hs0 : (0 : Int) ≤ (s.size : Int) := by omega
    have hs1 : (s.size : Int) ≤ 9223372036854775807 := by omega
    go_wp2_with (first | (refine wpList_load_box 24 24 l w.heap.size _ Try.underlying24 rfl HS.out b3 rfl _ rfl rfl ?_) | (refine wpList_store_box 24 24 (bcells noK) l w1.heap.size HS.out HL.out c3 HN.out rfl _ _ rfl rfl rfl ?_))
    intro w4 s4
    have b4 := s4.box
    have HB4 := Hid.mk' (s4.below _ _ hle HB3.out)
    clear s4 b3 c3
    go_wp2
    exact ret_box3 Try.results10 24 l w1.heap.size _ Try.underlying24 rfl HS.out _ _ rfl rfl rfl b4 rfl ⟨by rw [HR.out]; rfl, HB4.out⟩


/-- what the loop of KeysTaken keeps -/
def TK (w : World) (k s : List UInt8) (b4 : Nat) (g : Nat) (s8 s9 : Value) (wr : World) : Prop :=
  ∃ (i : Nat) (K' S' : List UInt8), i ≤ s.length ∧ s.length - i ≤ g ∧ i % 3 = 0 ∧ s9 = .int .i64 (i : Int) ∧ s8 = .string (bs S') ∧ Hid (run k (s.take i) = (K', S')) ∧ Hid (K'.length = 38) ∧ Hid (S'.length ≤ i) ∧ Hid (Box wr w.heap.size 24 (bcells K')) ∧ Hid (Box wr b4 24 (bcells noK)) ∧ Hid (Below w.heap.size w wr)

attribute [local go_sem ↓] exec_index

set_option maxHeartbeats 16000000 in
theorem Taken_ok (k : List UInt8) (hk : k.length = 38) (hc : chk k = 0) (s : List UInt8) (h3 : s.length % 3 = 0) (h300 : s.length ≤ 300) (w : World) :
    Calls Try.prog 10 #[KV k, .string (bs s)] w fun e w' => e = .returned (RK ((run k s).1, (run k s).2, 0)) ∧ Below w.heap.size w w' := by
  have HZK := Hid.mk' zeroK
  have HC := Hid.mk' (KeysRight_any k hk)
  rw [hc] at HC
  have HS := Hid.mk' (sizeKV k hk)
  have hsz := bs_size s
  have HST : Hid (∀ w1 wr : World, Box wr w.heap.size 24 (bcells k) → Box wr w1.heap.size 24 (bcells noK) → Below w.heap.size w wr → TK w k s w1.heap.size s.length (.string ⟨#[]⟩) (.int .i64 0) wr) := fun w1 wr h1 h2 h3 =>
    ⟨0, k, [], Nat.zero_le _, by omega, rfl, rfl, rfl, by rw [List.take_zero]; exact run_nil k, hk, Hid.mk' (Nat.le_refl _), h1, h2, h3⟩
  unfold KV at *
  generalize hl : bcells k = l at *
  have HHL := Hid.mk' hl
  clear hl
  have hm3 : ((bs s).size : Int) % 3 = 0 := by omega
  have hm300 : ¬ (300 : Int) < ((bs s).size : Int) := by omega
  have hs0 : (0 : Int) ≤ ((bs s).size : Int) := by omega
  have HSZ := Hid.mk' hsz
  have HGET : Hid (∀ i (h : i < s.length) (h2 : i < (bs s).size), (bs s)[i]'h2 = s[i]'h) := fun i h h2 => rfl
  clear hsz
  generalize bs s = S at *
  go_enter Try.func10, Try.ntmps10
  go_wp2_with (refine wpList_box l 24 rfl _ rfl rfl ?_)
  intro w1 m1
  go_wp2_with (refine wpList_alloc (bcells noK) 24 HZK.out rfl rfl ?_)
  intro w2 m2
  have z1 := m1.lt
  have z2 := m2.lt
  have b2 := m2.keep m1.box
  have c2 := m2.box
  have HB2 := Hid.mk' (m2.below w.heap.size w (by omega) (m1.below _ _ (Nat.le_refl _) (Below.refl _ w)))
  go_wp2_with (refine wpList_load_box 24 24 l w.heap.size _ Try.underlying24 rfl HS.out b2 rfl _ rfl rfl ?_)
  refine (HC.out _).mono ?_
  rintro e w3 ⟨rfl, h3'⟩
  have HST2 := Hid.mk' (HST.out w1 w3 (HHL.out ▸ b2.later h3') (c2.later h3') (HB2.out.trans (h3'.mono (by omega))))
  clear m1 m2 b2 c2 h3' HST HB2 HC
  go_wp2_with fail
  go_loopg [8, 9] s.length (fun g s8 s9 wr => TK w k s w1.heap.size g s8 s9 wr)
  case atStart => exact HST2.out
  case round =>
    obtain ⟨i, K', S', hi, hg, hi3, rfl, rfl, HRU, HKL, HSL, HB0, HB4, HBL⟩ := hrel
    clear HST2 hm3
    by_cases hlt : i < s.length
    · have j0 : (0 : Int) ≤ (i : Int) := by omega
      have hsz := HSZ.out
      have j1 : (i : Int) < (S.size : Int) := by omega
      have j6 : (i : Int) ≤ 300 := by omega
      have e1 : IntKind.i64.wrap ((i : Int) + 1) = (i : Int) + 1 := by rw [IntKind.wrap_i64]; omega
      have e2 : IntKind.i64.wrap ((i : Int) + 2) = (i : Int) + 2 := by rw [IntKind.wrap_i64]; omega
      have HX0 := Hid.mk' (inB S (i : Int) i s[i] rfl (by omega) (HGET.out i hlt (by omega)))
      have HX1 := Hid.mk' (inB S ((i : Int) + 1) (i + 1) (s[i + 1]'(by omega)) (by omega) (by omega) (HGET.out (i + 1) (by omega) (by omega)))
      have HX2 := Hid.mk' (inB S ((i : Int) + 2) (i + 2) (s[i + 2]'(by omega)) (by omega) (by omega) (HGET.out (i + 2) (by omega) (by omega)))
      have HSTEP := Hid.mk' (run_step k s i (by omega) hi3)
      rw [HRU.out] at HSTEP
      generalize s[i] = b0 at *
      generalize s[i + 1]'(by omega) = b1 at *
      generalize s[i + 2]'(by omega) = b2 at *
      obtain ⟨hi0, hb0⟩ := HX0.out
      obtain ⟨hi1, hb1⟩ := HX1.out
      obtain ⟨hi2, hb2⟩ := HX2.out
      clear hsz HX0 HX1 HX2
      have hb0b := u8_bd b0
      have hlen := HSL.out
      dsimp only at HSTEP
      by_cases hf18 : b0.toNat ≤ 18
      · have hf1 : ¬ (18 : Int) < (b0.toNat : Int) := by omega
        have hf2 : (b0.toNat : Int) < 19 := by omega
        have hf3 : b0.toNat < 19 := by omega
        have HTN := Hid.mk' (taken1 K' HKL.out b0 b1 b2 b0.toNat (.inl ⟨hf18, rfl⟩))
        have HSA := Hid.mk' (KeySaid_any (lv K' b0.toNat) (ch K' b0.toNat) b0 b1 b2)
        have d0 : (bcells K')[b0.toNat]? = some (.int .u8 ((lv K' b0.toNat).toNat : Int)) := bcells_lv K' HKL.out b0.toNat (by omega)
        have d1 : (bcells K')[19 + b0.toNat]? = some (.int .u8 ((ch K' b0.toNat).toNat : Int)) := bcells_ch K' HKL.out b0.toNat (by omega)
        have x0 := HB0.out.drew
        have hE : Ext wr.drew wr.drew := Ext.refl _
        have hc0 : ∀ w', Ext wr.drew w' → w'.cell? ⟨w.heap.size, b0.toNat, none⟩ = some (.int .u8 ((lv K' b0.toNat).toNat : Int)) := fun w' h => (x0.later h).cell d0
        have hc1 : ∀ w', Ext wr.drew w' → w'.cell? ⟨w.heap.size, 19 + b0.toNat, none⟩ = some (.int .u8 ((ch K' b0.toNat).toNat : Int)) := fun w' h => (x0.later h).cell d1
        have hlvb := u8_bd (lv K' b0.toNat)
        have hchb := u8_bd (ch K' b0.toNat)
        have hb1b := u8_bd b1
        have hb2b := u8_bd b2
        have HPU : Hid (∀ a b : UInt8, bcells (put K' b0.toNat a b) = ((bcells K').set (b0.toNat) (.int .u8 (a.toNat : Int))).set (19 + b0.toNat) (.int .u8 (b.toNat : Int))) := bcells_put K' b0.toNat
        have HK38 : Hid (∀ a b : UInt8, (put K' b0.toNat a b).length = 38) := fun a b => by rw [put_length]; exact HKL.out
        have hO3 : (saidR (lv K' b0.toNat) (ch K' b0.toNat) b0 b1 b2).2.2.length ≤ 3 := by
          have h := congrArg (fun p => (Prod.snd p).length) (taken1 K' HKL.out b0 b1 b2 b0.toNat (.inl ⟨hf18, rfl⟩))
          dsimp only at h
          rw [h]
          exact (take1_out K' b0 b1 b2).1
        unfold KArgs RI at HSA
        generalize saidR (lv K' b0.toNat) (ch K' b0.toNat) b0 b1 b2 = R at *
        obtain ⟨p, q, O2⟩ := R
        dsimp only at HSA HTN hO3
        have hpb := u8_bd p
        have hqb := u8_bd q
        have hsz1 := bs_size S'
        have hsz2 := bs_size O2
        have hcat : ¬ (9223372036854775807 < (bs S').size + (bs O2).size) := by omega
        have HAP : Hid (bs S' ++ bs O2 = bs (S' ++ O2)) := bs_app S' O2
        have HNX : Hid (run k (s.take (i + 3)) = (put K' b0.toNat p q, S' ++ O2)) := by rw [Hid, HSTEP.out, ← HTN.out]
        have HD1 := Hid.mk' d1
        clear x0 d0 d1 HTN HSTEP hsz1 hsz2 HRU
        generalize ((lv K' b0.toNat).toNat : Int) = lx at *
        generalize ((ch K' b0.toNat).toNat : Int) = cx at *
        have hw0 : IntKind.i64.wrap lx = lx := by rw [IntKind.wrap_i64]; omega
        have hw1 : IntKind.i64.wrap cx = cx := by rw [IntKind.wrap_i64]; omega
        have hw2 : IntKind.i64.wrap (b1.toNat : Int) = (b1.toNat : Int) := by rw [IntKind.wrap_i64]; omega
        have hw3 : IntKind.i64.wrap (b2.toNat : Int) = (b2.toNat : Int) := by rw [IntKind.wrap_i64]; omega
        generalize bs S' = SS' at *
        generalize hOO : bs O2 = OO at *
        clear hOO
        generalize hSO : SS' ++ OO = SO at *
        go_wp2_with fail
        go_region_held3 (fun w' => Ext wr.drew w') (first | with_reducible assumption) ((go_at_call 19; (with_reducible refine (HSA.out _).mono ?_); rintro e wy ⟨rfl, hb⟩; have hsy : Ext wr.drew wy := Ext.trans (by with_reducible assumption) hb))
        all_goals
          have P0 : Box wy w.heap.size 24 (bcells K') := HB0.out.drew.later hsy
          have P4 : Box wy w1.heap.size 24 (bcells noK) := HB4.out.drew.later hsy
          have PL := Hid.mk' (HBL.out.drew.trans (Below.mono hsy HBL.out.size))
          have hv0 := hc0 wy hsy
          have hv1 := hc1 wy hsy
          have hfr := P0.frozen
          have S9 := Stored.cell P0 (b0.toNat) (.int .u8 (p.toNat : Int))
          have SA := Hid.mk' (Stored.cell S9.box (19 + b0.toNat) (.int .u8 (q.toNat : Int)))
          rw [← HPU.out p q] at SA
          have hv3 : (wy.setCell ⟨w.heap.size, b0.toNat, none⟩ (.int .u8 (p.toNat : Int))).cell? ⟨w.heap.size, 19 + b0.toNat, none⟩ = some (.int .u8 cx) := by
            exact S9.box.cell (by rw [List.getElem?_set_ne (by omega)]; exact HD1.out)
          have hfr2 := S9.box.frozen
          have A4 := Hid.mk' (SA.out.keep (S9.keep P4 (by omega)) (by omega))
          have AL := Hid.mk' (SA.out.below w.heap.size w (Nat.le_refl _) (S9.below w.heap.size w (Nat.le_refl _) PL.out))
          have A0 := Hid.mk' SA.out.box
          clear P0 P4 PL S9 SA hc0 hc1 hE
          go_wp2
          go_roundg (s.length - (i + 3))
          case measure => omega
          case rel => exact ⟨i + 3, put K' b0.toNat p q, S' ++ O2, by omega, by omega, by omega, by go_num, by rw [← HAP.out, ← hSO], HNX, HK38.out p q, Hid.mk' (by rw [List.length_append]; omega), A0, A4, AL⟩
      · have hf1 : (18 : Int) < (b0.toNat : Int) := by omega
        have HTN := Hid.mk' (taken1 K' HKL.out b0 b1 b2 0 (.inr ⟨by omega, rfl⟩))
        have HSA := Hid.mk' (KeySaid_any (lv K' 0) (ch K' 0) b0 b1 b2)
        have d0 : (bcells K')[0]? = some (.int .u8 ((lv K' 0).toNat : Int)) := bcells_lv K' HKL.out 0 (by omega)
        have d1 : (bcells K')[19]? = some (.int .u8 ((ch K' 0).toNat : Int)) := bcells_ch K' HKL.out 0 (by omega)
        have x0 := HB0.out.drew
        have hE : Ext wr.drew wr.drew := Ext.refl _
        have hc0 : ∀ w', Ext wr.drew w' → w'.cell? ⟨w.heap.size, 0, none⟩ = some (.int .u8 ((lv K' 0).toNat : Int)) := fun w' h => (x0.later h).cell d0
        have hc1 : ∀ w', Ext wr.drew w' → w'.cell? ⟨w.heap.size, 19, none⟩ = some (.int .u8 ((ch K' 0).toNat : Int)) := fun w' h => (x0.later h).cell d1
        have hlvb := u8_bd (lv K' 0)
        have hchb := u8_bd (ch K' 0)
        have hb1b := u8_bd b1
        have hb2b := u8_bd b2
        have HPU : Hid (∀ a b : UInt8, bcells (put K' 0 a b) = ((bcells K').set (0) (.int .u8 (a.toNat : Int))).set (19) (.int .u8 (b.toNat : Int))) := bcells_put K' 0
        have HK38 : Hid (∀ a b : UInt8, (put K' 0 a b).length = 38) := fun a b => by rw [put_length]; exact HKL.out
        have hO3 : (saidR (lv K' 0) (ch K' 0) b0 b1 b2).2.2.length ≤ 3 := by
          have h := congrArg (fun p => (Prod.snd p).length) (taken1 K' HKL.out b0 b1 b2 0 (.inr ⟨by omega, rfl⟩))
          dsimp only at h
          rw [h]
          exact (take1_out K' b0 b1 b2).1
        unfold KArgs RI at HSA
        generalize saidR (lv K' 0) (ch K' 0) b0 b1 b2 = R at *
        obtain ⟨p, q, O2⟩ := R
        dsimp only at HSA HTN hO3
        have hpb := u8_bd p
        have hqb := u8_bd q
        have hsz1 := bs_size S'
        have hsz2 := bs_size O2
        have hcat : ¬ (9223372036854775807 < (bs S').size + (bs O2).size) := by omega
        have HAP : Hid (bs S' ++ bs O2 = bs (S' ++ O2)) := bs_app S' O2
        have HNX : Hid (run k (s.take (i + 3)) = (put K' 0 p q, S' ++ O2)) := by rw [Hid, HSTEP.out, ← HTN.out]
        have HD1 := Hid.mk' d1
        clear x0 d0 d1 HTN HSTEP hsz1 hsz2 HRU
        generalize ((lv K' 0).toNat : Int) = lx at *
        generalize ((ch K' 0).toNat : Int) = cx at *
        have hw0 : IntKind.i64.wrap lx = lx := by rw [IntKind.wrap_i64]; omega
        have hw1 : IntKind.i64.wrap cx = cx := by rw [IntKind.wrap_i64]; omega
        have hw2 : IntKind.i64.wrap (b1.toNat : Int) = (b1.toNat : Int) := by rw [IntKind.wrap_i64]; omega
        have hw3 : IntKind.i64.wrap (b2.toNat : Int) = (b2.toNat : Int) := by rw [IntKind.wrap_i64]; omega
        generalize bs S' = SS' at *
        generalize hOO : bs O2 = OO at *
        clear hOO
        generalize hSO : SS' ++ OO = SO at *
        go_wp2_with fail
        go_region_held3 (fun w' => Ext wr.drew w') (first | with_reducible assumption) ((go_at_call 19; (with_reducible refine (HSA.out _).mono ?_); rintro e wy ⟨rfl, hb⟩; have hsy : Ext wr.drew wy := Ext.trans (by with_reducible assumption) hb))
        all_goals
          have P0 : Box wy w.heap.size 24 (bcells K') := HB0.out.drew.later hsy
          have P4 : Box wy w1.heap.size 24 (bcells noK) := HB4.out.drew.later hsy
          have PL := Hid.mk' (HBL.out.drew.trans (Below.mono hsy HBL.out.size))
          have hv0 := hc0 wy hsy
          have hv1 := hc1 wy hsy
          have hfr := P0.frozen
          have S9 := Stored.cell P0 (0) (.int .u8 (p.toNat : Int))
          have SA := Hid.mk' (Stored.cell S9.box (19) (.int .u8 (q.toNat : Int)))
          rw [← HPU.out p q] at SA
          have hv3 : (wy.setCell ⟨w.heap.size, 0, none⟩ (.int .u8 (p.toNat : Int))).cell? ⟨w.heap.size, 19, none⟩ = some (.int .u8 cx) := by
            exact S9.box.cell (by rw [List.getElem?_set_ne (by omega)]; exact HD1.out)
          have hfr2 := S9.box.frozen
          have A4 := Hid.mk' (SA.out.keep (S9.keep P4 (by omega)) (by omega))
          have AL := Hid.mk' (SA.out.below w.heap.size w (Nat.le_refl _) (S9.below w.heap.size w (Nat.le_refl _) PL.out))
          have A0 := Hid.mk' SA.out.box
          clear P0 P4 PL S9 SA hc0 hc1 hE
          go_wp2
          go_roundg (s.length - (i + 3))
          case measure => omega
          case rel => exact ⟨i + 3, put K' 0 p q, S' ++ O2, by omega, by omega, by omega, by go_num, by rw [← HAP.out, ← hSO], HNX, HK38.out p q, Hid.mk' (by rw [List.length_append]; omega), A0, A4, AL⟩
    · have hRU : run k s = (K', S') := by
        have h := HRU.out
        rw [List.take_of_length_le (by omega)] at h
        exact h
      have hj : ¬ (i : Int) < (S.size : Int) := by have := HSZ.out; omega
      have HLK : Hid ((bcells K').length = 38) := by rw [bcells_length, HKL.out]; rfl
      have HSK := Hid.mk' (sizeKV K' HKL.out)
      have HOK := Hid.mk' (bcells_one K')
      have HRT : Hid (RK ((run k s).1, (run k s).2, 0) = .tuple #[.agg (bcells K').toArray, .string (bs S'), .int .i64 0]) := by rw [Hid, hRU]; rfl
      have HNN : Hid ((bcells noK).length = (bcells K').length) := by rw [HLK.out]; rfl
      have b0 := HB0.out
      have b4 := HB4.out
      clear hRU HRU HB0 HB4
      generalize bs S' = T' at *
      go_wp2_with (first | (refine wpList_load_box 24 24 (bcells K') w.heap.size _ Try.underlying24 rfl HSK.out b0 rfl _ rfl rfl ?_) | (refine wpList_store_box 24 24 (bcells noK) (bcells K') w1.heap.size HSK.out HOK.out b4 HNN.out rfl _ _ rfl rfl rfl ?_))
      intro wz sz
      have VL := Hid.mk' (sz.below w.heap.size w (Nat.le_of_lt z1) HBL.out)
      have V4 := Hid.mk' sz.box
      clear sz b0 b4 HBL
      go_wp2
      exact ret_box3 Try.results10 24 (bcells K') w1.heap.size _ Try.underlying24 rfl HSK.out _ _ rfl rfl rfl V4.out rfl ⟨by rw [HRT.out]; rfl, VL.out⟩

theorem Taken_any (k : List UInt8) (hk : k.length = 38) (s : List UInt8) (hz : s.length ≤ 9223372036854775807) (w : World) :
    Calls Try.prog 10 #[KV k, .string (bs s)] w fun e w' => e = .returned (RK (takeT k s)) ∧ Below w.heap.size w w' := by
  have hsz := bs_size s
  rcases chk_two k with hc | hc
  · by_cases h3 : s.length % 3 = 0
    · by_cases h4 : s.length ≤ 300
      · rw [takeT_ok hc h3 h4]
        exact Taken_ok k hk hc s h3 h4 w
      · rw [takeT_large hc h3 h4]
        exact Taken_no k hk (bs s) 2 (.inr (.inr ⟨hc, by omega, by omega, rfl⟩)) (by omega) w
    · rw [takeT_len3 hc h3]
      exact Taken_no k hk (bs s) 4 (.inr (.inl ⟨hc, by omega, rfl⟩)) (by omega) w
  · rw [takeT_form hc]
    exact Taken_no k hk (bs s) 4 (.inl ⟨hc, rfl⟩) (by omega) w
end Go.Proofs.Ytfipmggdpigbkaa.K
