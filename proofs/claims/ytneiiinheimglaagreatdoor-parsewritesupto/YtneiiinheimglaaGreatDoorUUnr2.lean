/-
  Contract of farref.Unrune: what is left and the runes are those of the plain reader `rd`; conditions: at most 1073741824 bytes.
-/
import Derived.Test.YtneiiinheimglaaGreatDoorJ17
import Derived.Test.YtneiiinheimglaaGreatDoorJ19
namespace Go.Proofs.YtneiiinheimglaaGreatDoor.U
open Go.RowKit Go.Lib Go.Proofs.YtneiiinheimglaaGreatDoor

def UState (w : World) (N : Nat) (R : List Int) (X : List UInt8) (g : Nat) (s0 s4 : Value) (wr : World) : Prop :=
  ∃ (L : List UInt8) (A : List Int), L.length ≤ g ∧ A.length + L.length ≤ N ∧ s0 = .string ⟨L.toArray⟩ ∧ OwnR wr w.heap.size 3 1 s4 A.length (icells A) ∧ Below w.heap.size w wr ∧ A ++ ints (rd L).2 = R ∧ (rd L).1 = X

def told (L : List UInt8) (q : Nat) (A : List Int) (k : Nat) : List Int := if 0 < q ∧ q < k then A ++ [((dec (L.take q)).1 : Int)] else A

def I1 (w : World) (L : List UInt8) (q : Nat) (A : List Int) (g : Nat) (s4 s5 s6 : Value) (wr : World) : Prop :=
  ∃ k : Nat, 1 ≤ k ∧ k ≤ 5 ∧ k ≤ L.length + 1 ∧ 5 - k ≤ g ∧ s6 = .int .i64 (k : Int) ∧ s5 = .int .i64 ((if q < k then q else 0 : Nat) : Int) ∧ OwnR wr w.heap.size 3 1 s4 (told L q A k).length (icells (told L q A k)) ∧ Below w.heap.size w wr
def I2 (w : World) (L : List UInt8) (bq : Nat) (g : Nat) (s5 s9 : Value) (wr : World) : Prop :=
  ∃ k : Nat, 1 ≤ k ∧ k ≤ 4 ∧ k ≤ L.length + 1 ∧ 4 - k ≤ g ∧ s9 = .int .i64 (k : Int) ∧ s5 = .int .i64 ((min (k - 1) bq : Nat) : Int) ∧ Below w.heap.size w wr

set_option maxHeartbeats 16000000 in
set_option maxRecDepth 100000 in
theorem Unrune_any (L0 : List UInt8) (w : World) (hl : L0.length ≤ 1073741824) :
    Calls Tryz.prog 12 #[.string ⟨L0.toArray⟩] w fun e w' => ∃ v, e = .returned (.tuple #[.string ⟨(rd L0).1.toArray⟩, v]) ∧ OwnR w' w.heap.size 3 1 v (ints (rd L0).2).length (icells (ints (rd L0).2)) ∧ Below w.heap.size w w' := by
  obtain ⟨i0, hi, hz0, hz1, hz2⟩ := info_parts infoInt
  have HS : Hid (UState w L0.length (ints (rd L0).2) (rd L0).1 L0.length (.string ⟨L0.toArray⟩) (.slice none 0 0) w) :=
    ⟨L0, [], Nat.le_refl _, by simp, rfl, OwnR.nil _ _ _ _, Below.refl _ _, by simp, rfl⟩
  generalize ints (rd L0).2 = R at *
  generalize (rd L0).1 = X at *
  generalize L0.length = N at *
  generalize (⟨L0.toArray⟩ : ByteArray) = S0 at *
  go_enter Tryz.func12, Tryz.ntmps12
  go_wp2_with fail
  go_loopg [0, 4] N (fun g s0 s4 wr => UState w N R X g s0 s4 wr)
  case atStart => exact HS.out
  case round =>
    obtain ⟨L, A, hg, hA, rfl, ho, hbl, hR, hX⟩ := hrel
    clear HS
    have HR := Hid.mk' hR
    have HX := Hid.mk' hX
    clear hR hX
    by_cases h0 : L = []
    · subst h0
      rw [rd_stop (.inl rfl)] at HR HX
      obtain rfl : A = R := by simpa [ints] using HR.out
      obtain rfl := HX.out
      have HO := Hid.mk' ho
      have HB := Hid.mk' hbl
      clear ho hbl
      go_wp2
      go_ret2
      exact ⟨_, rfl, HO.out, HB.out⟩
    have he := str_empty h0
    have hLs : (⟨L.toArray⟩ : ByteArray).size = L.length := by simp [ByteArray.size]
    have hL1 : 1 ≤ L.length := Nat.pos_of_ne_zero fun e => h0 (List.eq_nil_of_length_eq_zero e)
    have HTK := Hid.mk' (take_list L)
    have HRS := Hid.mk' (rest_list L)
    obtain ⟨q, hq⟩ : ∃ q, wl L = q := ⟨_, rfl⟩
    have HQ := Hid.mk' hq
    have HWS : Hid (∀ k, 1 ≤ k → k ≤ 4 → k ≤ L.length → whole (L.take k) = decide (k = q)) := fun k h1 h2 h3 => by rw [wl_spec L k h1 h2 h3, hq]
    have hq4 : q ≤ 4 ∧ q ≤ L.length := by rw [← hq]; exact ⟨(wl_le L).1, (wl_le L).2.1⟩
    clear hq
    have HI1 : Hid (I1 w L q A 4 u4 (.int .i64 0) (.int .i64 1) wr) := ⟨1, by omega, by omega, by omega, by omega, rfl, by
      have : (if q < 1 then q else 0) = 0 := by split <;> omega
      rw [this]; rfl, by
      have : told L q A 1 = A := by unfold told; rw [if_neg (by omega)]
      rw [this]; exact ho, hbl⟩
    clear ho hbl
    generalize hS : (⟨L.toArray⟩ : ByteArray) = S at *
    have HSS := Hid.mk' hS
    clear hS
    obtain ⟨wo, hwo⟩ : ∃ x, x = wr := ⟨_, rfl⟩
    subst hwo
    obtain ⟨vo, hvo⟩ : ∃ x, x = u4 := ⟨_, rfl⟩
    subst hvo
    go_wp2_with fail
    go_loopg [4, 5, 6] 4 (fun g s4 s5 s6 wq => I1 w L q A g s4 s5 s6 wq)
    case atStart => exact HI1.out
    case round =>
      obtain ⟨k, hk1, hk5, hkl, hgk, rfl, rfl, ho, hbl⟩ := hrel
      clear HI1
      have HB := Hid.mk' hbl
      have hswr := hbl.size
      by_cases hin : k ≤ 4 ∧ k ≤ L.length
      · have hk4 : (k : Int) ≤ 4 := by omega
        have hkL : (k : Int) ≤ (L.length : Int) := by omega
        have xt := HTK.out k
        have hln : (L.take k).length = k := by simp; omega
        have HWH := Hid.mk' (Whole_any (L.take k) wr (by omega))
        rw [HWS.out k hk1 hin.1 hin.2] at HWH
        by_cases hkw : k = q
        · subst hkw
          rw [decide_eq_true rfl] at HWH
          have hwt : whole (L.take k) = true := by rw [HWS.out k hk1 hin.1 hin.2]; exact decide_eq_true rfl
          have HRV : Hid (∀ W : World, _) := fun W => runeValue_any (L.take k) W (by omega) (by omega)
          have e1 : told L k A k = A := by unfold told; rw [if_neg (by omega)]
          have HE2 : Hid (told L k A (k + 1) = A ++ [((dec (L.take k)).1 : Int)]) := by
            show _ = _
            unfold told
            rw [if_pos (by omega)]
          have HN2 : Hid ((if k < k + 1 then k else 0 : Nat) = k) := by
            show _ = _
            rw [if_pos (by omega)]
          rw [e1] at ho
          clear hbl e1
          rw [hwt] at HRV
          have ek0 : (if k < k then k else 0) = 0 := if_neg (by omega)
          generalize (dec (L.take k)).1 = rr at *
          generalize (⟨(L.take k).toArray⟩ : ByteArray) = SK at xt HWH HRV
          clear hwt
          go_wp2_with fail
          refine HWH.out.mono ?_
          rintro e w2 ⟨rfl, hb2⟩
          have HB2 : Hid (Below w.heap.size w w2) := HB.out.trans (hb2.mono hswr)
          have hs2 := hb2.size
          have ho2 := keptBy ho hb2
          clear hb2 ho HWH
          go_wp2_with fail
          refine (HRV.out w2).mono ?_
          rintro e w3 ⟨c, rfl, hc, hb3⟩
          obtain rfl := hc trivial
          have HB3 : Hid (Below w.heap.size w w3) := HB2.out.trans (hb3.mono (by omega))
          have hs3 := hb3.size
          have ho3 := keptBy ho2 hb3
          clear hb3 ho2 HRV HB2
          go_wp2_with (at_builtin; refine wpList_append_R _ rfl (.tmp 33) (.tmp 35) 22 rfl w.heap.size 3 i0 (.int .i64 0) 1 8 Tryz.underlying22 hi hz0 hz1 hz2 rfl (by decide) u4 A.length (icells A) rfl (ho3.keptAt fun k hk => Below.heap_alloc _ _ _ (ho3.lt k hk).2) ⟨w3.heap.size, 0, none⟩ 1 1 (icells [(rr : Int)]) rfl rfl ?c1 (icells_one _) (by decide) ?c3 ?c4 ?c5 (w3.heap.size + 1) (by simp) ?_)
          case c1 => exact fun j u hu => World.news_of_block (by simpa using (MapKept.heap_alloc w3 _).1) j u hu
          case c3 => unfold maxLen; omega
          case c4 => omega
          case c5 => first | omega | (simp; omega)
          intro g1 cap1 w4 hown hgr hat hlt2
          have HO := Hid.mk' hown
          have HB4 : Hid (Below w.heap.size w w4) := (HB3.out.alloc (by omega) _).grown hgr (by simp; omega) (fun k hk => (ho3.lt k hk).1)
          clear hown hgr hat ho3
          go_wp2
          go_roundg (5 - (k + 1))
          case measure => omega
          case rel =>
            refine ⟨k + 1, by omega, by omega, by omega, Nat.le_refl _, by go_num, by rw [HN2.out], ?_, HB4.out⟩
            rw [HE2.out]
            have := HO.out
            simpa [icells] using this
        · have e1 : told L q A (k + 1) = told L q A k := by
            unfold told
            by_cases h : 0 < q ∧ q < k
            · rw [if_pos h, if_pos (by omega)]
            · rw [if_neg h, if_neg (by omega)]
          have HN2 : Hid ((if q < k + 1 then q else 0 : Nat) = (if q < k then q else 0 : Nat)) := by
            show _ = _
            by_cases h : q < k
            · rw [if_pos h, if_pos (by omega)]
            · rw [if_neg h, if_neg (by omega)]
          rw [decide_eq_false hkw] at HWH
          rw [← e1] at ho
          clear hbl e1
          generalize (if q < k then q else 0 : Nat) = nn at *
          generalize (⟨(L.take k).toArray⟩ : ByteArray) = SK at xt HWH
          clear hkw
          go_wp2_with fail
          refine HWH.out.mono ?_
          rintro e w2 ⟨rfl, hb2⟩
          have HB2 : Hid (Below w.heap.size w w2) := HB.out.trans (hb2.mono hswr)
          have HO2 := Hid.mk' (keptBy ho hb2)
          clear hb2 ho HWH
          go_wp2
          go_roundg (5 - (k + 1))
          case measure => omega
          case rel => exact ⟨k + 1, by omega, by omega, by omega, Nat.le_refl _, by go_num, by rw [HN2.out], HO2.out, HB2.out⟩
      · by_cases hk4 : k ≤ 4
        · have g1 : (k : Int) ≤ 4 := by omega
          have g2 : ¬ (k : Int) ≤ (L.length : Int) := by omega
          have hqk : q < k := by omega
          have eq1 : (if q < k then q else 0) = q := if_pos hqk
          by_cases hq0 : q = 0
          · have e1 : told L q A k = A := by unfold told; rw [if_neg (by omega)]
            rw [e1] at ho
            clear hbl e1
            have HF := Hid.mk' (bl_first L h0 (by rw [HQ.out, hq0]))
            have HST := Hid.mk' (bl_stop L h0)
            have hbl3 := bl_le L
            have HBS : Hid (∀ k, 1 ≤ k → k ≤ 3 → k ≤ L.length → beg (L.take k) = decide (k ≤ bl L)) := fun k h1 h2 h3 => bl_spec L k h1 h2 h3
            generalize hbq : bl L = bq at *
            have HBQ := Hid.mk' hbq
            clear hbq
            rw [eq1, hq0]
            have HO := Hid.mk' ho
            clear ho eq1 hqk hq0 hq4 HWS HQ
            obtain ⟨wi, hwi⟩ : ∃ x, x = wr := ⟨_, rfl⟩
            subst hwi
            obtain ⟨vi, hvi⟩ : ∃ x, x = u4 := ⟨_, rfl⟩
            subst hvi
            go_wp2_with fail
            go_loopg [5, 9] 3 (fun g s5 s9 wq => I2 wi L bq g s5 s9 wq)
            case atStart => exact ⟨1, by omega, by omega, by omega, by omega, rfl, by simp, Below.refl _ _⟩
            case round =>
              obtain ⟨j, hj1, hj4, hjl, hgj, rfl, rfl, hbj⟩ := hrel
              have HBJ : Hid (Below w.heap.size w wr) := HB.out.trans (hbj.mono hswr)
              have HOJ := Hid.mk' (keptBy HO.out hbj)
              have hsj := hbj.size
              by_cases hin2 : j ≤ 3 ∧ j ≤ L.length
              · have hj3 : (j : Int) ≤ 3 := by omega
                have hjL : (j : Int) ≤ (L.length : Int) := by omega
                have xt := HTK.out j
                have hln : (L.take j).length = j := by simp; omega
                have HBG := Hid.mk' (Beginning_any (L.take j) wr (by omega))
                rw [HBS.out j hj1 hin2.1 hin2.2] at HBG
                have HBW := Hid.mk' hbj
                clear hbj HBJ HOJ
                by_cases hjb : j ≤ bq
                · rw [decide_eq_true hjb] at HBG
                  have HM : Hid (min (j + 1 - 1) bq = j) := by show _ = _; omega
                  generalize (⟨(L.take j).toArray⟩ : ByteArray) = SK at xt HBG
                  generalize (min (j - 1) bq : Nat) = nn at *
                  go_wp2_with fail
                  refine HBG.out.mono ?_
                  rintro e w2 ⟨rfl, hb2⟩
                  have HB2 : Hid (Below wi.heap.size wi w2) := HBW.out.trans (hb2.mono hsj)
                  clear hb2
                  go_wp2
                  go_roundg (4 - (j + 1))
                  case measure => omega
                  case rel => exact ⟨j + 1, by omega, by omega, by omega, Nat.le_refl _, by go_num, by rw [HM.out], HB2.out⟩
                · rw [decide_eq_false hjb] at HBG
                  have HM : Hid (min (j + 1 - 1) bq = min (j - 1) bq) := by show _ = _; omega
                  generalize (⟨(L.take j).toArray⟩ : ByteArray) = SK at xt HBG
                  generalize (min (j - 1) bq : Nat) = nn at *
                  go_wp2_with fail
                  refine HBG.out.mono ?_
                  rintro e w2 ⟨rfl, hb2⟩
                  have HB2 : Hid (Below wi.heap.size wi w2) := HBW.out.trans (hb2.mono hsj)
                  clear hb2
                  go_wp2
                  go_roundg (4 - (j + 1))
                  case measure => omega
                  case rel => exact ⟨j + 1, by omega, by omega, by omega, Nat.le_refl _, by go_num, by rw [HM.out], HB2.out⟩
              · have hmn : min (j - 1) bq = bq := by omega
                rw [hmn]
                clear hmn hbj
                by_cases hj3 : j ≤ 3
                · have f1 : (j : Int) ≤ 3 := by omega
                  have f2 : ¬ (j : Int) ≤ (L.length : Int) := by omega
                  by_cases hz : bq = L.length
                  · have hb : beg L = true := by rw [HST.out]; exact decide_eq_true hz
                    rw [rd_stop (.inr hb)] at HR HX
                    obtain rfl : A = R := by simpa [ints] using HR.out
                    have hzp : (0 : Int) < (bq : Int) := by omega
                    have hze : (bq : Int) = (L.length : Int) := by omega
                    have HSX : Hid (S = (⟨X.toArray⟩ : ByteArray)) := by
                      show _ = _
                      rw [← HX.out, HSS.out]
                    clear hb hz
                    go_wp2
                    exact bodyPost_ret (v := .tuple #[.string S, vi]) (by simp [results, Tryz.results12, go_sem]) rfl ⟨vi, by rw [HSX.out], HOJ.out, HBJ.out⟩
                  · have hb : beg L = false := by rw [HST.out]; exact decide_eq_false hz
                    have hst := rd_step h0 hb
                    rw [HF.out] at hst
                    simp only at hst
                    rw [hst] at HR HX
                    have hze : ((bq : Int) == (L.length : Int)) = false := by rw [beq_eq_false_iff_ne]; omega
                    obtain ⟨M, hM⟩ : ∃ M, max bq 1 = M := ⟨_, rfl⟩
                    have hMi : max (bq : Int) 1 = (M : Int) := by omega
                    rw [hM] at HR HX
                    have xd := HRS.out M
                    rw [hLs] at xd
                    have HRR : Hid ((A ++ [(65533 : Int)]) ++ ints (rd (L.drop M)).2 = R) := by
                      have := HR.out
                      show _ = _
                      simpa [ints] using this
                    have hdl : (L.drop M).length = L.length - M := by simp
                    have hM1 : 1 ≤ M ∧ M ≤ L.length := by omega
                    clear hst hb HR hz
                    generalize hLd : L.drop M = L2 at *
                    obtain ⟨S2, hS2⟩ : ∃ S2, S2 = (⟨L2.toArray⟩ : ByteArray) := ⟨_, rfl⟩
                    rw [← hS2] at xd
                    have HS2 := Hid.mk' hS2
                    have hoj := HOJ.out
                    have hB := HBJ.out.size
                    clear hS2 hM
                    by_cases hbz : bq = 0
                    · obtain rfl : M = 1 := by omega
                      subst hbz
                      go_wp2_with (at_builtin; refine wpList_append_R _ rfl (.tmp 65) (.tmp 66) 22 rfl w.heap.size 3 i0 (.int .i64 0) 1 8 Tryz.underlying22 hi hz0 hz1 hz2 rfl (by decide) vi A.length (icells A) rfl (hoj.keptAt fun k hk => Below.heap_alloc _ _ _ (hoj.lt k hk).2) ⟨wr.heap.size, 0, none⟩ 1 1 (icells [(65533 : Int)]) rfl rfl ?c1 (icells_one _) (by decide) ?c3 ?c4 ?c5 (wr.heap.size + 1) (by simp) ?_)
                      case c1 => exact fun j u hu => by first | exact hu | simpa [icells] using hu
                      case c3 => unfold maxLen; omega
                      case c4 => omega
                      case c5 => first | omega | (simp; omega)
                      intro g1 cap1 w4 hown hgr hat hlt2
                      have HO4 := Hid.mk' hown
                      have HB4 : Hid (Below w.heap.size w w4) := (HBJ.out.alloc (by omega) _).grown hgr (by simp; omega) (fun k hk => (hoj.lt k hk).1)
                      clear hown hgr hat hoj
                      go_wp2
                      all_goals
                        go_roundg L2.length
                        case measure => omega
                        case rel =>
                          refine ⟨L2, A ++ [(65533 : Int)], Nat.le_refl _, by simp; omega, by first | rw [HS2.out] | rw [xd, HS2.out] | (show Value.string (S.extract 1 L.length) = _; rw [xd, HS2.out]), ?_, HB4.out, HRR.out, HX.out⟩
                          have := HO4.out
                          simpa [icells] using this
                    · have hbp : (0 : Int) < (bq : Int) := by omega
                      go_wp2_with (at_builtin; refine wpList_append_R _ rfl (.tmp 65) (.tmp 66) 22 rfl w.heap.size 3 i0 (.int .i64 0) 1 8 Tryz.underlying22 hi hz0 hz1 hz2 rfl (by decide) vi A.length (icells A) rfl (hoj.keptAt fun k hk => Below.heap_alloc _ _ _ (hoj.lt k hk).2) ⟨wr.heap.size, 0, none⟩ 1 1 (icells [(65533 : Int)]) rfl rfl ?c1 (icells_one _) (by decide) ?c3 ?c4 ?c5 (wr.heap.size + 1) (by simp) ?_)
                      case c1 => exact fun j u hu => by first | exact hu | simpa [icells] using hu
                      case c3 => unfold maxLen; omega
                      case c4 => omega
                      case c5 => first | omega | (simp; omega)
                      intro g1 cap1 w4 hown hgr hat hlt2
                      have HO4 := Hid.mk' hown
                      have HB4 : Hid (Below w.heap.size w w4) := (HBJ.out.alloc (by omega) _).grown hgr (by simp; omega) (fun k hk => (hoj.lt k hk).1)
                      clear hown hgr hat hoj
                      go_wp2
                      all_goals
                        go_roundg L2.length
                        case measure => omega
                        case rel =>
                          refine ⟨L2, A ++ [(65533 : Int)], Nat.le_refl _, by simp; omega, by first | rw [HS2.out] | rw [xd, HS2.out] | (show Value.string (S.extract 1 L.length) = _; rw [xd, HS2.out]), ?_, HB4.out, HRR.out, HX.out⟩
                          have := HO4.out
                          simpa [icells] using this
                · have f1 : ¬ (j : Int) ≤ 3 := by omega
                  by_cases hz : bq = L.length
                  · have hb : beg L = true := by rw [HST.out]; exact decide_eq_true hz
                    rw [rd_stop (.inr hb)] at HR HX
                    obtain rfl : A = R := by simpa [ints] using HR.out
                    have hzp : (0 : Int) < (bq : Int) := by omega
                    have hze : (bq : Int) = (L.length : Int) := by omega
                    have HSX : Hid (S = (⟨X.toArray⟩ : ByteArray)) := by
                      show _ = _
                      rw [← HX.out, HSS.out]
                    clear hb hz
                    go_wp2
                    exact bodyPost_ret (v := .tuple #[.string S, vi]) (by simp [results, Tryz.results12, go_sem]) rfl ⟨vi, by rw [HSX.out], HOJ.out, HBJ.out⟩
                  · have hb : beg L = false := by rw [HST.out]; exact decide_eq_false hz
                    have hst := rd_step h0 hb
                    rw [HF.out] at hst
                    simp only at hst
                    rw [hst] at HR HX
                    have hze : ((bq : Int) == (L.length : Int)) = false := by rw [beq_eq_false_iff_ne]; omega
                    obtain ⟨M, hM⟩ : ∃ M, max bq 1 = M := ⟨_, rfl⟩
                    have hMi : max (bq : Int) 1 = (M : Int) := by omega
                    rw [hM] at HR HX
                    have xd := HRS.out M
                    rw [hLs] at xd
                    have HRR : Hid ((A ++ [(65533 : Int)]) ++ ints (rd (L.drop M)).2 = R) := by
                      have := HR.out
                      show _ = _
                      simpa [ints] using this
                    have hdl : (L.drop M).length = L.length - M := by simp
                    have hM1 : 1 ≤ M ∧ M ≤ L.length := by omega
                    clear hst hb HR hz
                    generalize hLd : L.drop M = L2 at *
                    obtain ⟨S2, hS2⟩ : ∃ S2, S2 = (⟨L2.toArray⟩ : ByteArray) := ⟨_, rfl⟩
                    rw [← hS2] at xd
                    have HS2 := Hid.mk' hS2
                    have hoj := HOJ.out
                    have hB := HBJ.out.size
                    clear hS2 hM
                    by_cases hbz : bq = 0
                    · obtain rfl : M = 1 := by omega
                      subst hbz
                      go_wp2_with (at_builtin; refine wpList_append_R _ rfl (.tmp 65) (.tmp 66) 22 rfl w.heap.size 3 i0 (.int .i64 0) 1 8 Tryz.underlying22 hi hz0 hz1 hz2 rfl (by decide) vi A.length (icells A) rfl (hoj.keptAt fun k hk => Below.heap_alloc _ _ _ (hoj.lt k hk).2) ⟨wr.heap.size, 0, none⟩ 1 1 (icells [(65533 : Int)]) rfl rfl ?c1 (icells_one _) (by decide) ?c3 ?c4 ?c5 (wr.heap.size + 1) (by simp) ?_)
                      case c1 => exact fun j u hu => by first | exact hu | simpa [icells] using hu
                      case c3 => unfold maxLen; omega
                      case c4 => omega
                      case c5 => first | omega | (simp; omega)
                      intro g1 cap1 w4 hown hgr hat hlt2
                      have HO4 := Hid.mk' hown
                      have HB4 : Hid (Below w.heap.size w w4) := (HBJ.out.alloc (by omega) _).grown hgr (by simp; omega) (fun k hk => (hoj.lt k hk).1)
                      clear hown hgr hat hoj
                      go_wp2
                      all_goals
                        go_roundg L2.length
                        case measure => omega
                        case rel =>
                          refine ⟨L2, A ++ [(65533 : Int)], Nat.le_refl _, by simp; omega, by first | rw [HS2.out] | rw [xd, HS2.out] | (show Value.string (S.extract 1 L.length) = _; rw [xd, HS2.out]), ?_, HB4.out, HRR.out, HX.out⟩
                          have := HO4.out
                          simpa [icells] using this
                    · have hbp : (0 : Int) < (bq : Int) := by omega
                      go_wp2_with (at_builtin; refine wpList_append_R _ rfl (.tmp 65) (.tmp 66) 22 rfl w.heap.size 3 i0 (.int .i64 0) 1 8 Tryz.underlying22 hi hz0 hz1 hz2 rfl (by decide) vi A.length (icells A) rfl (hoj.keptAt fun k hk => Below.heap_alloc _ _ _ (hoj.lt k hk).2) ⟨wr.heap.size, 0, none⟩ 1 1 (icells [(65533 : Int)]) rfl rfl ?c1 (icells_one _) (by decide) ?c3 ?c4 ?c5 (wr.heap.size + 1) (by simp) ?_)
                      case c1 => exact fun j u hu => by first | exact hu | simpa [icells] using hu
                      case c3 => unfold maxLen; omega
                      case c4 => omega
                      case c5 => first | omega | (simp; omega)
                      intro g1 cap1 w4 hown hgr hat hlt2
                      have HO4 := Hid.mk' hown
                      have HB4 : Hid (Below w.heap.size w w4) := (HBJ.out.alloc (by omega) _).grown hgr (by simp; omega) (fun k hk => (hoj.lt k hk).1)
                      clear hown hgr hat hoj
                      go_wp2
                      all_goals
                        go_roundg L2.length
                        case measure => omega
                        case rel =>
                          refine ⟨L2, A ++ [(65533 : Int)], Nat.le_refl _, by simp; omega, by first | rw [HS2.out] | rw [xd, HS2.out] | (show Value.string (S.extract 1 L.length) = _; rw [xd, HS2.out]), ?_, HB4.out, HRR.out, HX.out⟩
                          have := HO4.out
                          simpa [icells] using this
          · have e1 : told L q A k = A ++ [((dec (L.take q)).1 : Int)] := by unfold told; rw [if_pos (by omega)]
            rw [e1] at ho
            have hfst := wl_first L (by rw [HQ.out]; exact hq0)
            rw [HQ.out] at hfst
            have hst := rd_step h0 hfst.2
            rw [hfst.1] at hst
            simp only at hst
            have xd := HRS.out q
            rw [hLs] at xd
            rw [hst] at HR HX
            have HRR : Hid ((A ++ [((dec (L.take q)).1 : Int)]) ++ ints (rd (L.drop q)).2 = R) := by
              have := HR.out
              show _ = _
              simpa [ints] using this
            have hdl : (L.drop q).length = L.length - q := by simp
            clear hbl e1 hst hfst HR
            generalize (dec (L.take q)).1 = rr at *
            generalize hLd : L.drop q = L2 at *
            obtain ⟨S2, hS2⟩ : ∃ S2, S2 = (⟨L2.toArray⟩ : ByteArray) := ⟨_, rfl⟩
            rw [← hS2] at xd
            have HS2 := Hid.mk' hS2
            have HO := Hid.mk' ho
            have hqi : ((q : Int) == 0) = false := by rw [beq_eq_false_iff_ne]; omega
            rw [eq1]
            clear ho hS2 eq1
            go_wp2
            all_goals
              go_roundg L2.length
              case measure => omega
              case rel =>
                refine ⟨L2, A ++ [(rr : Int)], Nat.le_refl _, by simp; omega, by first | rw [HS2.out] | rw [xd, HS2.out], HO.out, HB.out, HRR.out, HX.out⟩
        · have g1 : ¬ (k : Int) ≤ 4 := by omega
          have hqk : q < k := by omega
          have eq1 : (if q < k then q else 0) = q := if_pos hqk
          by_cases hq0 : q = 0
          · have e1 : told L q A k = A := by unfold told; rw [if_neg (by omega)]
            rw [e1] at ho
            clear hbl e1
            have HF := Hid.mk' (bl_first L h0 (by rw [HQ.out, hq0]))
            have HST := Hid.mk' (bl_stop L h0)
            have hbl3 := bl_le L
            have HBS : Hid (∀ k, 1 ≤ k → k ≤ 3 → k ≤ L.length → beg (L.take k) = decide (k ≤ bl L)) := fun k h1 h2 h3 => bl_spec L k h1 h2 h3
            generalize hbq : bl L = bq at *
            have HBQ := Hid.mk' hbq
            clear hbq
            rw [eq1, hq0]
            have HO := Hid.mk' ho
            clear ho eq1 hqk hq0 hq4 HWS HQ
            obtain ⟨wi, hwi⟩ : ∃ x, x = wr := ⟨_, rfl⟩
            subst hwi
            obtain ⟨vi, hvi⟩ : ∃ x, x = u4 := ⟨_, rfl⟩
            subst hvi
            go_wp2_with fail
            go_loopg [5, 9] 3 (fun g s5 s9 wq => I2 wi L bq g s5 s9 wq)
            case atStart => exact ⟨1, by omega, by omega, by omega, by omega, rfl, by simp, Below.refl _ _⟩
            case round =>
              obtain ⟨j, hj1, hj4, hjl, hgj, rfl, rfl, hbj⟩ := hrel
              have HBJ : Hid (Below w.heap.size w wr) := HB.out.trans (hbj.mono hswr)
              have HOJ := Hid.mk' (keptBy HO.out hbj)
              have hsj := hbj.size
              by_cases hin2 : j ≤ 3 ∧ j ≤ L.length
              · have hj3 : (j : Int) ≤ 3 := by omega
                have hjL : (j : Int) ≤ (L.length : Int) := by omega
                have xt := HTK.out j
                have hln : (L.take j).length = j := by simp; omega
                have HBG := Hid.mk' (Beginning_any (L.take j) wr (by omega))
                rw [HBS.out j hj1 hin2.1 hin2.2] at HBG
                have HBW := Hid.mk' hbj
                clear hbj HBJ HOJ
                by_cases hjb : j ≤ bq
                · rw [decide_eq_true hjb] at HBG
                  have HM : Hid (min (j + 1 - 1) bq = j) := by show _ = _; omega
                  generalize (⟨(L.take j).toArray⟩ : ByteArray) = SK at xt HBG
                  generalize (min (j - 1) bq : Nat) = nn at *
                  go_wp2_with fail
                  refine HBG.out.mono ?_
                  rintro e w2 ⟨rfl, hb2⟩
                  have HB2 : Hid (Below wi.heap.size wi w2) := HBW.out.trans (hb2.mono hsj)
                  clear hb2
                  go_wp2
                  go_roundg (4 - (j + 1))
                  case measure => omega
                  case rel => exact ⟨j + 1, by omega, by omega, by omega, Nat.le_refl _, by go_num, by rw [HM.out], HB2.out⟩
                · rw [decide_eq_false hjb] at HBG
                  have HM : Hid (min (j + 1 - 1) bq = min (j - 1) bq) := by show _ = _; omega
                  generalize (⟨(L.take j).toArray⟩ : ByteArray) = SK at xt HBG
                  generalize (min (j - 1) bq : Nat) = nn at *
                  go_wp2_with fail
                  refine HBG.out.mono ?_
                  rintro e w2 ⟨rfl, hb2⟩
                  have HB2 : Hid (Below wi.heap.size wi w2) := HBW.out.trans (hb2.mono hsj)
                  clear hb2
                  go_wp2
                  go_roundg (4 - (j + 1))
                  case measure => omega
                  case rel => exact ⟨j + 1, by omega, by omega, by omega, Nat.le_refl _, by go_num, by rw [HM.out], HB2.out⟩
              · have hmn : min (j - 1) bq = bq := by omega
                rw [hmn]
                clear hmn hbj
                by_cases hj3 : j ≤ 3
                · have f1 : (j : Int) ≤ 3 := by omega
                  have f2 : ¬ (j : Int) ≤ (L.length : Int) := by omega
                  exfalso; omega
                · have f1 : ¬ (j : Int) ≤ 3 := by omega
                  by_cases hz : bq = L.length
                  · exfalso; omega
                  · have hb : beg L = false := by rw [HST.out]; exact decide_eq_false hz
                    have hst := rd_step h0 hb
                    rw [HF.out] at hst
                    simp only at hst
                    rw [hst] at HR HX
                    have hze : ((bq : Int) == (L.length : Int)) = false := by rw [beq_eq_false_iff_ne]; omega
                    obtain ⟨M, hM⟩ : ∃ M, max bq 1 = M := ⟨_, rfl⟩
                    have hMi : max (bq : Int) 1 = (M : Int) := by omega
                    rw [hM] at HR HX
                    have xd := HRS.out M
                    rw [hLs] at xd
                    have HRR : Hid ((A ++ [(65533 : Int)]) ++ ints (rd (L.drop M)).2 = R) := by
                      have := HR.out
                      show _ = _
                      simpa [ints] using this
                    have hdl : (L.drop M).length = L.length - M := by simp
                    have hM1 : 1 ≤ M ∧ M ≤ L.length := by omega
                    clear hst hb HR hz
                    generalize hLd : L.drop M = L2 at *
                    obtain ⟨S2, hS2⟩ : ∃ S2, S2 = (⟨L2.toArray⟩ : ByteArray) := ⟨_, rfl⟩
                    rw [← hS2] at xd
                    have HS2 := Hid.mk' hS2
                    have hoj := HOJ.out
                    have hB := HBJ.out.size
                    clear hS2 hM
                    by_cases hbz : bq = 0
                    · obtain rfl : M = 1 := by omega
                      subst hbz
                      go_wp2_with (at_builtin; refine wpList_append_R _ rfl (.tmp 65) (.tmp 66) 22 rfl w.heap.size 3 i0 (.int .i64 0) 1 8 Tryz.underlying22 hi hz0 hz1 hz2 rfl (by decide) vi A.length (icells A) rfl (hoj.keptAt fun k hk => Below.heap_alloc _ _ _ (hoj.lt k hk).2) ⟨wr.heap.size, 0, none⟩ 1 1 (icells [(65533 : Int)]) rfl rfl ?c1 (icells_one _) (by decide) ?c3 ?c4 ?c5 (wr.heap.size + 1) (by simp) ?_)
                      case c1 => exact fun j u hu => by first | exact hu | simpa [icells] using hu
                      case c3 => unfold maxLen; omega
                      case c4 => omega
                      case c5 => first | omega | (simp; omega)
                      intro g1 cap1 w4 hown hgr hat hlt2
                      have HO4 := Hid.mk' hown
                      have HB4 : Hid (Below w.heap.size w w4) := (HBJ.out.alloc (by omega) _).grown hgr (by simp; omega) (fun k hk => (hoj.lt k hk).1)
                      clear hown hgr hat hoj
                      go_wp2
                      all_goals
                        go_roundg L2.length
                        case measure => omega
                        case rel =>
                          refine ⟨L2, A ++ [(65533 : Int)], Nat.le_refl _, by simp; omega, by first | rw [HS2.out] | rw [xd, HS2.out] | (show Value.string (S.extract 1 L.length) = _; rw [xd, HS2.out]), ?_, HB4.out, HRR.out, HX.out⟩
                          have := HO4.out
                          simpa [icells] using this
                    · have hbp : (0 : Int) < (bq : Int) := by omega
                      go_wp2_with (at_builtin; refine wpList_append_R _ rfl (.tmp 65) (.tmp 66) 22 rfl w.heap.size 3 i0 (.int .i64 0) 1 8 Tryz.underlying22 hi hz0 hz1 hz2 rfl (by decide) vi A.length (icells A) rfl (hoj.keptAt fun k hk => Below.heap_alloc _ _ _ (hoj.lt k hk).2) ⟨wr.heap.size, 0, none⟩ 1 1 (icells [(65533 : Int)]) rfl rfl ?c1 (icells_one _) (by decide) ?c3 ?c4 ?c5 (wr.heap.size + 1) (by simp) ?_)
                      case c1 => exact fun j u hu => by first | exact hu | simpa [icells] using hu
                      case c3 => unfold maxLen; omega
                      case c4 => omega
                      case c5 => first | omega | (simp; omega)
                      intro g1 cap1 w4 hown hgr hat hlt2
                      have HO4 := Hid.mk' hown
                      have HB4 : Hid (Below w.heap.size w w4) := (HBJ.out.alloc (by omega) _).grown hgr (by simp; omega) (fun k hk => (hoj.lt k hk).1)
                      clear hown hgr hat hoj
                      go_wp2
                      all_goals
                        go_roundg L2.length
                        case measure => omega
                        case rel =>
                          refine ⟨L2, A ++ [(65533 : Int)], Nat.le_refl _, by simp; omega, by first | rw [HS2.out] | rw [xd, HS2.out] | (show Value.string (S.extract 1 L.length) = _; rw [xd, HS2.out]), ?_, HB4.out, HRR.out, HX.out⟩
                          have := HO4.out
                          simpa [icells] using this
          · have e1 : told L q A k = A ++ [((dec (L.take q)).1 : Int)] := by unfold told; rw [if_pos (by omega)]
            rw [e1] at ho
            have hfst := wl_first L (by rw [HQ.out]; exact hq0)
            rw [HQ.out] at hfst
            have hst := rd_step h0 hfst.2
            rw [hfst.1] at hst
            simp only at hst
            have xd := HRS.out q
            rw [hLs] at xd
            rw [hst] at HR HX
            have HRR : Hid ((A ++ [((dec (L.take q)).1 : Int)]) ++ ints (rd (L.drop q)).2 = R) := by
              have := HR.out
              show _ = _
              simpa [ints] using this
            have hdl : (L.drop q).length = L.length - q := by simp
            clear hbl e1 hst hfst HR
            generalize (dec (L.take q)).1 = rr at *
            generalize hLd : L.drop q = L2 at *
            obtain ⟨S2, hS2⟩ : ∃ S2, S2 = (⟨L2.toArray⟩ : ByteArray) := ⟨_, rfl⟩
            rw [← hS2] at xd
            have HS2 := Hid.mk' hS2
            have HO := Hid.mk' ho
            have hqi : ((q : Int) == 0) = false := by rw [beq_eq_false_iff_ne]; omega
            rw [eq1]
            clear ho hS2 eq1
            go_wp2
            all_goals
              go_roundg L2.length
              case measure => omega
              case rel =>
                refine ⟨L2, A ++ [(rr : Int)], Nat.le_refl _, by simp; omega, by first | rw [HS2.out] | rw [xd, HS2.out], HO.out, HB.out, HRR.out, HX.out⟩
end Go.Proofs.YtneiiinheimglaaGreatDoor.U
