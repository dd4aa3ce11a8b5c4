/-
  The walk of farkeep.LineShows; condition: Keys of 38 bytes.
-/
import Derived.Test.YtomgnnbcaficaaaDoorLShowsP
namespace Go.Proofs.YtomgnnbcaficaaaDoor.L
open Go.RowKit Go.Lib Go.Proofs.YtomgnnbcaficaaaDoor Go.Proofs.YtomgnnbcaficaaaDoor.W Go.Proofs.YtomgnnbcaficaaaDoor.Q

set_option maxHeartbeats 16000000 in
set_option maxRecDepth 100000 in
theorem LineShows_bad (k : List UInt8) (hk : k.length = 38) (T : List UInt8) (w : World) (hr : ref 0 k T.length ≠ 0) :
    Calls Tryd.prog 8 #[.agg (bcells k).toArray, .string (bs T)] w fun e w' => e = .returned (.bool true) ∧ Below w.heap.size w w' := by
  have HT := Hid.mk' (fun W => type_call k hk H.noW noW_ok [] T false W (bs []) (bs []) (⟨[], false, [], []⟩, ref 0 k T.length) ((typeT_form k H.noW [] T false).elim (fun h => absurd h.1 hr) (fun h => h.2)) rfl rfl)
  have HLV := Hid.mk' lives_any
  have HSK := Hid.mk' (K.sizeKV k hk)
  have HE : Hid (∀ w, (Instr.build 23 #[]).run Tryd.prog w = .ok (.agg [.string (bs []), .bool false].toArray) w) := fun w => buildE w
  have HM := Hid.mk' buildM
  have hr1 : (ref 0 k T.length != 0) = true := bne_iff_ne.2 hr
  generalize ref 0 k T.length = r at *
  generalize bs T = T1 at *
  generalize bs [] = X at *
  generalize bcells k = l at *
  generalize hm : H.ucells H.noW = m at *
  clear hr hk hm
  go_enter Tryd.func8, Tryd.ntmps8
  have HB_0 := Hid.mk' (Below.refl w.heap.size w)
  go_wp2_with (refine wpList_box (l) 26 rfl _ rfl rfl ?_)
  intro w1 mw1
  have zw1 := mw1.lt
  have Hw1 : Below w.heap.size w w1 := mw1.below _ _ (Nat.le_refl _) (Below.refl _ _)
  have Xw1 := mw1.box
  have HB_w1 := Hid.mk' (HB_0.out.trans (Below.mono Hw1 HB_0.out.size))
  clear HB_0
  have bk_w1 := Hid.mk' Xw1
  clear mw1 Hw1 Xw1
  go_wp2_with (first | (with_reducible refine wpList_load_box 26 26 (l) w.heap.size _ Tryd.underlying26 rfl HSK.out bk_w1.out rfl _ rfl rfl ?_) | (refine wpList_build0 [.string X, .bool false] 23 (HE.out _) rfl rfl ?_) | (refine wpList_build0 m 30 (HM.out _) rfl rfl ?_))
  refine (HT.out _).mono ?_
  rintro e w2 ⟨al1, cl1, n1, hn1, rfl, ho1, hw2⟩
  have zw2 := hw2.size
  have HB_w2 := Hid.mk' (HB_w1.out.trans (Below.mono hw2 HB_w1.out.size))
  have bk_w2 := Hid.mk' (bk_w1.out.later hw2)
  clear HB_w1 bk_w1
  clear hw2
  go_wp2_with (first | (refine wpList_alloc [.string ⟨#[]⟩, .bool false] 23 zeroE rfl rfl ?_))
  intro w3 mw3
  have zw3 := mw3.lt
  have Yw3 := Hid.mk' mw3.box
  have HSw3 : Hid (∀ W', Stored w3 W' w2.heap.size 23 ([.string X, .bool false]) → Below w2.heap.size w2 W') := fun W' s' => s'.below _ _ (Nat.le_refl _) (mw3.below _ _ (Nat.le_refl _) (Below.refl _ _))
  clear mw3
  go_wp2_with (refine wpList_store_box 23 23 [.string ⟨#[]⟩, .bool false] ([.string X, .bool false]) w2.heap.size sizeE (edCells_one _ _) Yw3.out rfl rfl _ _ rfl rfl rfl ?_)
  intro w4 sw4
  have zw4 : w2.heap.size < w4.heap.size := sw4.box.lt
  have Hw4 := HSw3.out w4 sw4
  have Xw4 := sw4.box
  have HB_w4 := Hid.mk' (HB_w2.out.trans (Below.mono Hw4 HB_w2.out.size))
  have bk_w4 := Hid.mk' (bk_w2.out.later Hw4)
  clear HB_w2 bk_w2
  have bx_w4 := Hid.mk' Xw4
  clear sw4 Hw4 Xw4 Yw3 HSw3 zw3
  go_wp2_with (fail)
  refine (HLV.out _).mono ?_
  rintro e w5 ⟨rfl, hw5⟩
  have zw5 := hw5.size
  have HB_w5 := Hid.mk' (HB_w4.out.trans (Below.mono hw5 HB_w4.out.size))
  have bk_w5 := Hid.mk' (bk_w4.out.later hw5)
  have bx_w5 := Hid.mk' (bx_w4.out.later hw5)
  clear HB_w4 bk_w4 bx_w4
  clear hw5
  go_wp2_with (fail)
  refine (HLV.out _).mono ?_
  rintro e w6 ⟨rfl, hw6⟩
  have zw6 := hw6.size
  have HB_w6 := Hid.mk' (HB_w5.out.trans (Below.mono hw6 HB_w5.out.size))
  have bk_w6 := Hid.mk' (bk_w5.out.later hw6)
  have bx_w6 := Hid.mk' (bx_w5.out.later hw6)
  clear HB_w5 bk_w5 bx_w5
  clear hw6
  go_wp2
  go_ret
  exact ⟨rfl, HB_w6.out⟩

/-- what the loop that plays has -/
def SS (W : World) (r : List UInt8) (g : Nat) (s7 s9 : Value) (wr : World) : Prop :=
  ∃ (s row : List UInt8) (ad : Option Addr) (n cap : Nat), s.length ≤ g ∧ s7 = .string (bs s) ∧ s9 = .slice ad n cap ∧ Hid (n = row.length) ∧ Hid (OwnB wr W.heap.size (.slice ad n cap) row) ∧ Hid (Pl row s r) ∧ Hid (row.length + s.length ≤ 100000000) ∧ Hid (Below W.heap.size W wr)

set_option maxHeartbeats 32000000 in
set_option maxRecDepth 100000 in
theorem LineShows_ok (k : List UInt8) (hk : k.length = 38) (T : List UInt8) (w : World) (hr : ref 0 k T.length = 0) :
    Calls Tryd.prog 8 #[.agg (bcells k).toArray, .string (bs T)] w fun e w' => e = .returned (.bool true) ∧ Below w.heap.size w w' := by
  obtain ⟨_, hc, hT⟩ := ref_zero.1 hr
  have ht1 : typeT k H.noW [] false T = (runS (KK k H.noW) ⟨[], false, [], []⟩ T, 0) := (typeT_form k H.noW [] T false).elim (fun h => h.2) (fun h => absurd hr h.1)
  have hm1 := (runS_room (KK k H.noW) [] false (by decide) T).2
  have HP : Hid (clean T → (runS (KK k H.noW) ⟨[], false, [], []⟩ T).ls = [] → Pl [] (runS (KK k H.noW) ⟨[], false, [], []⟩ T).echo (runS (KK k H.noW) ⟨[], false, [], []⟩ T).buf) := fun h1 h2 => pl_of (line_shows (KK k H.noW) T h1 h2)
  have HCA := Hid.mk' (fun W => ContainsAny_any T W (by omega))
  generalize runS (KK k H.noW) ⟨[], false, [], []⟩ T = s1 at *
  have HT := Hid.mk' (fun W => type_call k hk H.noW noW_ok [] T false W _ _ _ ht1 rfl rfl)
  have HLV := Hid.mk' lives_any
  have HSK := Hid.mk' (K.sizeKV k hk)
  have HE : Hid (∀ w, (Instr.build 23 #[]).run Tryd.prog w = .ok (.agg [.string (bs []), .bool false].toArray) w) := fun w => buildE w
  have HM := Hid.mk' buildM
  have HEL : Hid (s1.echo.length ≤ 100000000) := by rw [Hid]; have := hm1.2; omega
  have HPF : Hid (∀ s W, Calls Tryd.prog 26 #[.string (bs s), .string ⟨#[13, 10]⟩] W fun e w' => e = .returned (.bool (hasPrefix s [13, 10])) ∧ w' = W) := fun s W => Tryd.strings_HasPrefix (bs s) ⟨#[13, 10]⟩ W
  have HPG : Hid (∀ s W, Calls Tryd.prog 26 #[.string (bs s), .string ⟨#[8, 32, 8]⟩] W fun e w' => e = .returned (.bool (hasPrefix s [8, 32, 8])) ∧ w' = W) := fun s W => Tryd.strings_HasPrefix (bs s) ⟨#[8, 32, 8]⟩ W
  have HBD : Hid (∀ (l : List UInt8) (k : Nat), (bs l).extract k l.length = bs (l.drop k)) := fun l k => by
    rw [show bs l = (⟨l.toArray⟩ : ByteArray) from rfl, extract_mk, List.take_of_length_le (by rw [List.length_drop]; exact Nat.le_refl _)]
    rfl
  generalize hT1 : bs T = T1 at *
  clear hT1
  generalize hX : bs [] = X at *
  clear hX
  generalize bcells k = l at *
  generalize hm : H.ucells H.noW = m at *
  clear hr ht1 hc hk hm hm1 hT
  go_enter Tryd.func8, Tryd.ntmps8
  have HB_0 := Hid.mk' (Below.refl w.heap.size w)
  go_wp2_with (refine wpList_box (l) 26 rfl _ rfl rfl ?_)
  intro w1 mw1
  have zw1 := mw1.lt
  have Hw1 : Below w.heap.size w w1 := mw1.below _ _ (Nat.le_refl _) (Below.refl _ _)
  have Xw1 := mw1.box
  have HB_w1 := Hid.mk' (HB_0.out.trans (Below.mono Hw1 HB_0.out.size))
  clear HB_0
  have bk_w1 := Hid.mk' Xw1
  clear mw1 Hw1 Xw1
  go_wp2_with (first | (with_reducible refine wpList_load_box 26 26 (l) w.heap.size _ Tryd.underlying26 rfl HSK.out bk_w1.out rfl _ rfl rfl ?_) | (refine wpList_build0 [.string X, .bool false] 23 (HE.out _) rfl rfl ?_) | (refine wpList_build0 m 30 (HM.out _) rfl rfl ?_))
  refine (HT.out _).mono ?_
  rintro e w2 ⟨al1, cl1, n1, hn1, rfl, ho1, hw2⟩
  have zw2 := hw2.size
  have HB_w2 := Hid.mk' (HB_w1.out.trans (Below.mono hw2 HB_w1.out.size))
  have bk_w2 := Hid.mk' (bk_w1.out.later hw2)
  clear HB_w1 bk_w1
  clear hw2
  go_wp2_with (first | (refine wpList_alloc [.string ⟨#[]⟩, .bool false] 23 zeroE rfl rfl ?_))
  intro w3 mw3
  have zw3 := mw3.lt
  have Yw3 := Hid.mk' mw3.box
  have HSw3 : Hid (∀ W', Stored w3 W' w2.heap.size 23 ([.string (bs s1.buf), .bool s1.q]) → Below w2.heap.size w2 W') := fun W' s' => s'.below _ _ (Nat.le_refl _) (mw3.below _ _ (Nat.le_refl _) (Below.refl _ _))
  clear mw3
  go_wp2_with (refine wpList_store_box 23 23 [.string ⟨#[]⟩, .bool false] ([.string (bs s1.buf), .bool s1.q]) w2.heap.size sizeE (edCells_one _ _) Yw3.out rfl rfl _ _ rfl rfl rfl ?_)
  intro w4 sw4
  have zw4 : w2.heap.size < w4.heap.size := sw4.box.lt
  have Hw4 := HSw3.out w4 sw4
  have Xw4 := sw4.box
  have HB_w4 := Hid.mk' (HB_w2.out.trans (Below.mono Hw4 HB_w2.out.size))
  have bk_w4 := Hid.mk' (bk_w2.out.later Hw4)
  clear HB_w2 bk_w2
  have bx_w4 := Hid.mk' Xw4
  clear sw4 Hw4 Xw4 Yw3 HSw3 zw3
  go_wp2_with (fail)
  refine (HLV.out _).mono ?_
  rintro e w5 ⟨rfl, hw5⟩
  have zw5 := hw5.size
  have HB_w5 := Hid.mk' (HB_w4.out.trans (Below.mono hw5 HB_w4.out.size))
  have bk_w5 := Hid.mk' (bk_w4.out.later hw5)
  have bx_w5 := Hid.mk' (bx_w4.out.later hw5)
  clear HB_w4 bk_w4 bx_w4
  clear hw5
  have HN1 := hn1.out
  clear hn1 ho1 HT HSK HE HM bk_w5
  have BX := bx_w5
  have HB := HB_w5
  by_cases hls : s1.ls = []
  · have hn0 : n1 = 0 := by rw [HN1, hls]; rfl
    subst hn0
    clear HN1
    go_wp2_with fail
    refine (HCA.out _).mono ?_
    rintro e wc ⟨cb, rfl, hcb, hwc⟩
    have BX := Hid.mk' (BX.out.later hwc)
    have HB := Hid.mk' (HB.out.trans (Below.mono hwc HB.out.size))
    clear hwc
    cases cb with
    | true =>
      clear hcb
      go_wp2_with fail
      refine (HLV.out _).mono ?_
      rintro e wd ⟨rfl, hwd⟩
      have HB := Hid.mk' (HB.out.trans (Below.mono hwd HB.out.size))
      clear hwd
      go_wp2
      go_ret
      exact ⟨rfl, HB.out⟩
    | false =>
      have hpl := HP.out (hcb rfl) hls
      have HS0 : Hid (SS wc s1.buf s1.echo.length (.string (bs s1.echo)) (.slice none 0 0) wc) := ⟨s1.echo, [], none, 0, 0, Nat.le_refl _, rfl, rfl, rfl, OwnB.nil _ _, hpl, by rw [Hid]; have := HEL.out; simp; exact this, Below.refl _ _⟩
      clear hcb hpl HP hls
      go_wp2_with fail
      go_loopg [7, 9] s1.echo.length (fun g s7 s9 wr => SS wc s1.buf g s7 s9 wr)
      case atStart => exact HS0.out
      case round =>
        obtain ⟨s, row, ad, n, cap, hg, rfl, rfl, HNR, HO, HPL, HLN, HBW⟩ := hrel
        have HG := Hid.mk' hg
        clear hg HS0 HCA HLV
        have hcap : n ≤ cap := by
          obtain ⟨a0, c0, e0, h0⟩ := OwnB_form HO.out
          simp only [Value.slice.injEq] at e0
          omega
        cases s with
        | nil =>
          obtain rfl := pl_end HPL.out
          have hstr := run_str HO.out
          have d0 := (BX.out.later HBW.out).cell (j := 0) rfl
          have HB := Hid.mk' (HB.out.trans (Below.mono HBW.out HB.out.size))
          have h0 : bs [] = ⟨#[]⟩ := rfl
          rw [h0]
          have hbl : (s1.buf == (bs s1.buf).toList) = true := by rw [bs_list]; exact beq_self_eq_true _
          clear HO HPL HLN HBW BX HPF HPG h0 HBD
          go_wp2
          go_ret
          exact ⟨rfl, HB.out⟩
        | cons x s =>
          have hem1 : (bs (x :: s)).toList.isEmpty = false := by rw [bs_list]; rfl
          have hem2 : ((bs (x :: s)).toList == []) = false := by rw [bs_list]; rfl
          have hsz := bs_size (x :: s)
          have HK1 := Hid.mk' (HPF.out (x :: s) wr)
          cases h1 : hasPrefix (x :: s) [13, 10] with
          | true =>
            rw [h1] at HK1
            obtain ⟨r, hr⟩ := prefix_two h1
            obtain ⟨rfl, rfl⟩ : x = 13 ∧ s = 10 :: r := by simpa using hr
            have hex := HBD.out (13 :: 10 :: r) 2
            have HN : Hid (∀ q, SS wc s1.buf r.length (.string (bs r)) (.slice none 0 0) (wr.drewN q)) := fun q => ⟨r, [], none, 0, 0, Nat.le_refl _, rfl, rfl, rfl, OwnB.nil _ _, pl_new HPL.out, by rw [Hid]; have := HLN.out; simp only [List.length_cons] at this; simp; omega, below_drewN HBW.out q⟩
            have HG2 := Hid.mk' HG.out
            simp only [List.length_cons] at hsz hex
            have hln : r.length + 2 ≤ 100000000 := by have := HLN.out; simp only [List.length_cons] at this; omega
            rw [show List.drop 2 (13 :: 10 :: r) = r from rfl] at hex
            clear HO HPL HLN HBW BX HPF HPG HBD hr h1
            generalize bs (13 :: 10 :: r) = S at *
            generalize bs r = S2 at *
            go_wp2_with fail
            refine HK1.out.mono ?_
            rintro e wx ⟨rfl, rfl⟩
            go_wp2_with fail
            go_quiet (fail)
            have HN1 := Hid.mk' (HN.out nq)
            clear HN
            go_wp2
            go_roundg r.length
            case measure => have := HG.out; simp only [List.length_cons] at this; omega
            case rel => exact HN1.out
          | false =>
            rw [h1] at HK1
            have HK2 := Hid.mk' (HPG.out (x :: s) wr)
            cases h2 : hasPrefix (x :: s) [8, 32, 8] with
            | true =>
              rw [h2] at HK2
              obtain ⟨r, hr⟩ := prefix_three h2
              obtain ⟨rfl, rfl⟩ : x = 8 ∧ s = 32 :: 8 :: r := by simpa using hr
              obtain ⟨hrow, hpl⟩ := pl_rub HPL.out
              have hex := HBD.out (8 :: 32 :: 8 :: r) 3
              obtain ⟨m', rfl⟩ : ∃ m', n = m' + 1 := by
                have h3 := HNR.out
                have h4 := List.length_pos_iff.2 hrow
                exact ⟨n - 1, by omega⟩
              have hfr := OwnB_front HO.out m' (by have := HNR.out; omega) hrow
              have hdl : row.take m' = row.dropLast := by rw [List.dropLast_eq_take]; congr 1; have := HNR.out; omega
              rw [hdl] at hfr
              have HN : Hid (∀ q, SS wc s1.buf r.length (.string (bs r)) (.slice ad m' cap) (wr.drewN q)) := fun q => ⟨r, row.dropLast, ad, m', cap, Nat.le_refl _, rfl, rfl, by rw [Hid, List.length_dropLast]; have := HNR.out; omega, hfr.below (below_drewN (Below.refl _ _) q), hpl, by rw [Hid, List.length_dropLast]; have := HLN.out; simp only [List.length_cons] at this; omega, below_drewN HBW.out q⟩
              simp only [List.length_cons] at hsz hex
              have hln : r.length + 3 ≤ 100000000 := by have := HLN.out; simp only [List.length_cons] at this; omega
              have hmn : m' + 1 ≤ 100000000 := by have := HLN.out; have := HNR.out; omega
              rw [show List.drop 3 (8 :: 32 :: 8 :: r) = r from rfl] at hex
              have hm0 : ((m' : Int) + 1 == 0) = false := beq_false_of_ne (by omega)
              clear HO HPL HLN HBW BX HPF HPG HBD hr h1 h2 hpl hfr hdl HNR hrow
              generalize bs (8 :: 32 :: 8 :: r) = S at *
              generalize bs r = S2 at *
              go_wp2_with fail
              refine HK1.out.mono ?_
              rintro e wx ⟨rfl, rfl⟩
              go_wp2_with fail
              refine HK2.out.mono ?_
              rintro e wx ⟨rfl, rfl⟩
              go_wp2_with fail
              go_quiet (fail)
              have HN1 := Hid.mk' (HN.out nq)
              clear HN
              go_wp2
              go_roundg r.length
              case measure => have := HG.out; simp only [List.length_cons] at this; omega
              case rel => exact HN1.out
            | false =>
              rw [h2] at HK2
              have hpl := pl_put h1 h2 HPL.out
              have hex := HBD.out (x :: s) 1
              have hg0 : (bs (x :: s))[0]'(by rw [hsz]; simp) = x := rfl
              have hxl := x.toNat_lt
              simp only [List.length_cons] at hsz hex
              have hln : s.length + 1 ≤ 100000000 := by have := HLN.out; simp only [List.length_cons] at this; omega
              have hrl : row.length ≤ 100000000 := by have := HLN.out; omega
              rw [show List.drop 1 (x :: s) = s from rfl] at hex
              have hl1 : ¬ (s.length : Int) + 1 < 1 := by omega
              have zW := HBW.out.size
              have HW1 : Hid (∀ o, Below wr.heap.size wr (wr.alloc o)) := fun o => (Below.refl _ _).alloc (Nat.le_refl _) _
              have HN : Hid (∀ ad' n' cap' w2, Hid (n' = row.length + 1) → Hid (OwnB w2 wc.heap.size (.slice ad' n' cap') (row ++ [x])) → Below wc.heap.size wc w2 → SS wc s1.buf s.length (.string (bs s)) (.slice ad' n' cap') w2) := fun ad' n' cap' w2 h1 h2 h3 => ⟨s, row ++ [x], ad', n', cap', Nat.le_refl _, rfl, rfl, by rw [Hid, List.length_append, h1.out]; rfl, h2, hpl, by rw [Hid, List.length_append]; have := HLN.out; simp only [List.length_cons, List.length_nil] at this ⊢; omega, h3⟩
              clear HPL HLN BX HPF HPG HBD h1 h2 hpl
              generalize bs (x :: s) = S at *
              generalize bs s = S2 at *
              go_wp2_with fail
              refine HK1.out.mono ?_
              rintro e wx ⟨rfl, rfl⟩
              go_wp2_with fail
              refine HK2.out.mono ?_
              rintro e wx ⟨rfl, rfl⟩
              go_wp2_with fail
              obtain ⟨wr, hwr⟩ : ∃ wr, wr = wx := ⟨_, rfl⟩
              subst hwr
              have hE0 : Below wc.heap.size wc wr.drew := HBW.out.drew
              have HO1 : Hid (OwnB (wr.drew.alloc (.cells #[.int .u8 (x.toNat : Int)] 5)) wc.heap.size (.slice ad n cap) row) := (HO.out.below ((Below.refl _ _).drew)).below ((Below.refl _ _).alloc (Nat.le_refl _) _)
              have HC1 : Hid ((wr.drew.alloc (.cells #[.int .u8 (x.toNat : Int)] 5)).cell? ⟨wr.drew.heap.size, 0, none⟩ = some (.int .u8 (x.toNat : Int))) := (Box.new wr.drew 5 [.int .u8 (x.toNat : Int)]).cell (j := 0) rfl
              have HZ1 : Hid (wc.heap.size ≤ (wr.drew.alloc (.cells #[.int .u8 (x.toNat : Int)] 5)).heap.size) := by rw [Hid, World.size_alloc]; show wc.heap.size ≤ wr.heap.size + 1; omega
              have HB1 : Hid (Below wc.heap.size wc (wr.drew.alloc (.cells #[.int .u8 (x.toNat : Int)] 5))) := HBW.out.drew.alloc (by exact zW) _
              refine wp_region_noPanic ?_
              refine wp_region_held_drew (S := fun w' => Below wc.heap.size wc w') (by kernel_rfl) hE0 (fun hHeld => ?_)
              refine wpAnyH_take (i := 0) (oi := { dst := some 38, op := Go.Op.move (Go.Operand.tmp 9), type := 48, pos := _, after := #[], guard := none }) (v := .slice ad n cap) rfl (by kernel_rfl) (by kernel_rfl) (by kernel_rfl) (fun _ _ _ h => h) (Or.inl ⟨by rfl, fun w' hSw => ?_⟩) (by assumption) ?_
              · (try dsimp only at hSw); go_simp
              (try simp only [Act.put]); (try simp only [List.setIfInBounds_toArray]); (try simp only [List.set_cons_succ]); (try simp only [List.set_cons_zero])
              refine wpAnyH_take (i := 1) (oi := { dst := some 39, op := Go.Op.move (Go.Operand.tmp 7), type := 9, pos := _, after := #[], guard := none }) (v := .string S) rfl (by kernel_rfl) (by kernel_rfl) (by kernel_rfl) (fun _ _ _ h => h) (Or.inl ⟨by rfl, fun w' hSw => ?_⟩) (by assumption) ?_
              · (try dsimp only at hSw); go_simp
              (try simp only [Act.put]); (try simp only [List.setIfInBounds_toArray]); (try simp only [List.set_cons_succ]); (try simp only [List.set_cons_zero])
              refine wpAnyH_take (i := 2) (oi := { dst := some 40, op := Go.Op.index 9 (Go.Operand.tmp 39) (Go.Operand.const (Go.Value.int Go.IntKind.i64 0)), type := 5, pos := _, after := #[{ on := 1, ground := Go.Ground.data }], guard := none }) (v := .int .u8 (x.toNat : Int)) rfl (by kernel_rfl) (by kernel_rfl) (by kernel_rfl) (fun _ _ _ h => h) (Or.inl ⟨by rfl, fun w' hSw => ?_⟩) (by assumption) ?_
              · (try dsimp only at hSw); go_simp
              (try simp only [Act.put]); (try simp only [List.setIfInBounds_toArray]); (try simp only [List.set_cons_succ]); (try simp only [List.set_cons_zero])
              refine wpAnyH_take (i := 5) (oi := { dst := some 43, op := Go.Op.move (Go.Operand.tmp 7), type := 9, pos := _, after := #[], guard := none }) (v := .string S) rfl (by kernel_rfl) (by kernel_rfl) (by kernel_rfl) (fun _ _ _ h => h) (Or.inl ⟨by rfl, fun w' hSw => ?_⟩) (by assumption) ?_
              · (try dsimp only at hSw); go_simp
              (try simp only [Act.put]); (try simp only [List.setIfInBounds_toArray]); (try simp only [List.set_cons_succ]); (try simp only [List.set_cons_zero])
              refine wpAnyH_take (i := 6) (oi := { dst := some 44, op := Go.Op.slice 9 (Go.Operand.tmp 43) (some (Go.Operand.const (Go.Value.int Go.IntKind.i64 1))) none none, type := 9, pos := _, after := #[{ on := 5, ground := Go.Ground.data }], guard := none }) (v := .string S2) rfl (by kernel_rfl) (by kernel_rfl) (by kernel_rfl) (fun _ _ _ h => h) (Or.inl ⟨by rfl, fun w' hSw => ?_⟩) (by assumption) ?_
              · (try dsimp only at hSw); go_simp
              (try simp only [Act.put]); (try simp only [List.setIfInBounds_toArray]); (try simp only [List.set_cons_succ]); (try simp only [List.set_cons_zero])
              refine wpAnyH_ready (rs := [3]) (by kernel_rfl) (by simp) ?_
              refine AllReadyH.cons (o := { dst := some 41, op := Go.Op.buildSlice 48 1 #[(0, Go.Operand.tmp 40)], type := 48, pos := _, after := #[{ on := 2, ground := Go.Ground.data }], guard := none }) rfl (fun K hK => ?_) ?_
              · skip
                go_simp
                have e1 := HB1.out
                refine hK.out _ _ e1 (fun hHeld => ?_)
                clear hK K
                (try simp only [Act.put]); (try simp only [List.setIfInBounds_toArray]); (try simp only [List.set_cons_succ]); (try simp only [List.set_cons_zero])
                refine wpAnyH_ready (rs := [4]) (by kernel_rfl) (by simp) ?_
                refine AllReadyH.cons (o := { dst := some 42, op := Go.Op.call { callee := Go.Callee.builtin Go.Builtin.append, args := #[Go.Operand.tmp 38, Go.Operand.tmp 41], argTypes := #[48, 48] }, type := 48, pos := _, after := #[{ on := 0, ground := Go.Ground.data }, { on := 3, ground := Go.Ground.data }], guard := none }) rfl (fun K hK => ?_) ?_
                · skip
                  refine step_append_y (by rfl) _ _ rfl wc.heap.size ad n cap row rfl HO1.out HNR.out wr.drew.heap.size 1 x rfl HC1.out (by omega) HZ1.out ?_
                  intro ad2 n2 cap2 v2 hn2 ho2 hb2
                  have hbw := Hid.mk' (hb2 _ _ (Nat.le_refl _) HB1.out)
                  have e2 := hbw.out
                  refine hK.out _ _ e2 (fun hHeld => ?_)
                  clear hK K
                  (try simp only [Act.put]); (try simp only [List.setIfInBounds_toArray]); (try simp only [List.set_cons_succ]); (try simp only [List.set_cons_zero])
                  refine wpAnyH_take (i := 7) (oi := { dst := some 9, op := Go.Op.assign (Go.Operand.tmp 42), type := 48, pos := _, after := #[{ on := 4, ground := Go.Ground.data }, { on := 4, ground := Go.Ground.chain }, { on := 0, ground := Go.Ground.phase }, { on := 1, ground := Go.Ground.phase }, { on := 2, ground := Go.Ground.phase }, { on := 3, ground := Go.Ground.phase }, { on := 4, ground := Go.Ground.phase }, { on := 5, ground := Go.Ground.textOnly Go.Departure.lateStores }, { on := 6, ground := Go.Ground.textOnly Go.Departure.lateStoresUnsure }], guard := none }) (v := .slice ad2 n2 cap2) rfl (by kernel_rfl) (by kernel_rfl) (by kernel_rfl) (fun _ _ _ h => h) (Or.inl ⟨by rfl, fun w' hSw => ?_⟩) (by assumption) ?_
                  · (try dsimp only at hSw); go_simp
                  (try simp only [Act.put]); (try simp only [List.setIfInBounds_toArray]); (try simp only [List.set_cons_succ]); (try simp only [List.set_cons_zero])
                  refine wpAnyH_take (i := 8) (oi := { dst := some 7, op := Go.Op.assign (Go.Operand.tmp 44), type := 9, pos := _, after := #[{ on := 6, ground := Go.Ground.data }, { on := 7, ground := Go.Ground.chain }, { on := 0, ground := Go.Ground.phase }, { on := 1, ground := Go.Ground.phase }, { on := 2, ground := Go.Ground.phase }, { on := 3, ground := Go.Ground.phase }, { on := 4, ground := Go.Ground.phase }, { on := 5, ground := Go.Ground.phase }, { on := 6, ground := Go.Ground.phase }, { on := 7, ground := Go.Ground.phase }], guard := none }) (v := .string S2) rfl (by kernel_rfl) (by kernel_rfl) (by kernel_rfl) (fun _ _ _ h => h) (Or.inl ⟨by rfl, fun w' hSw => ?_⟩) (by assumption) ?_
                  · (try dsimp only at hSw); go_simp
                  (try simp only [Act.put]); (try simp only [List.setIfInBounds_toArray]); (try simp only [List.set_cons_succ]); (try simp only [List.set_cons_zero])
                  refine wpAnyH_done (by kernel_rfl) ?_ _
                  refine NoPanic.normal ?_
                  have HN1 := Hid.mk' (HN.out ad2 n2 cap2 _ hn2 ho2 hbw.out)
                  clear e2 HN hb2 ho2
                  go_wp2
                  go_roundg s.length
                  case measure => have := HG.out; simp only [List.length_cons] at this; omega
                  case rel => exact HN1.out
                exact AllReadyH.nil
              exact AllReadyH.nil
  · have hn0 : (0 : Int) < (n1 : Int) := by rw [HN1]; have := List.length_pos_iff.2 hls; omega
    clear HN1 HP hls
    go_wp2_with fail
    refine (HLV.out _).mono ?_
    rintro e wd ⟨rfl, hwd⟩
    have HB := Hid.mk' (HB.out.trans (Below.mono hwd HB.out.size))
    clear hwd
    go_wp2
    go_ret
    exact ⟨rfl, HB.out⟩

theorem LineShows_any (k : List UInt8) (hk : k.length = 38) (T : List UInt8) (w : World) :
    Calls Tryd.prog 8 #[.agg (bcells k).toArray, .string (bs T)] w fun e w' => e = .returned (.bool true) ∧ Below w.heap.size w w' := by
  by_cases hr : ref 0 k T.length = 0
  · exact LineShows_ok k hk T w hr
  · exact LineShows_bad k hk T w hr
end Go.Proofs.YtomgnnbcaficaaaDoor.L
