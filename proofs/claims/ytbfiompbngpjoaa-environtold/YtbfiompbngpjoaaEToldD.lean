/-
  The walk of farkeep.EnvironTold where variables are asked for, and told; then all its ways together: it returns true; condition: at most 2^47 bytes of variables each.
-/
import Derived.Test.YtbfiompbngpjoaaEToldWalk
namespace Go.Proofs.Ytbfiompbngpjoaa.E
open Go.RowKit Go.Lib Go.Proofs.Ytbfiompbngpjoaa Go.Proofs.Ytbfiompbngpjoaa.W Go.Proofs.Ytbfiompbngpjoaa.Q Go.Proofs.Ytbfiompbngpjoaa.C

set_option maxHeartbeats 16000000 in
set_option maxRecDepth 100000 in
theorem Told_d3 (w : World) (v v2 : Value) (l m : List Vr) (hv : RdV w v l) (hv2 : RdV w v2 m) (hn : l.length * 40 ≤ 140737488355328) (hm : m.length * 40 ≤ 140737488355328) (U : List UInt8) (h : chk (m.map fix) = 0) (h2 : chk l = 0) (h3 : (txt (m.map fix)).length ≤ 4000) (ht : answerT l (1 :: txt (m.map fix)) = (0 :: U, 0)) (h4 : U.length ≤ 4096) (D : List Vr) (hu : readT U = (D, 0)) (hm0 : m ≠ []) (hD : D = (m.map fix).map (firstOf l)) :
    Calls Try.prog 5 #[v, v2] w fun e w' => e = .returned (.bool true) ∧ Below w.heap.size w w' := by
  have HCl : Hid (∀ W a c k, k ≤ m.length → RdV W (.slice a m.length c) (fixK m k) → Calls Try.prog 11 #[.slice a m.length c] W fun e w' => ∃ ad cap, e = .returned (.slice ad m.length cap) ∧ OwnV w' W.heap.size ad cap (fixK m k) ∧ Below W.heap.size W w') := fun W a c k hk hR => by
    have hl := fixK_len m hk
    have := Clone_any W _ _ hR (by rw [hl]; exact hm)
    rw [hl] at this
    exact this
  have HWM : Hid (∀ W a c, RdV W (.slice a m.length c) (m.map fix) → _) := fun W a c h => Write_any W (.slice a m.length c) (m.map fix) h (by rw [List.length_map]; omega)
  have HWL : Hid (∀ W, Below w.heap.size w W → _) := fun W hW => Write_any W v l (hv.below hW (Nat.le_refl _)) (by omega)
  have HL := Hid.mk' lives_any
  have HV := Hid.mk' hv
  rw [writeT_ok h] at HWM
  rw [writeT_ok h2] at HWL
  dsimp only at HWM HWL
  have HAn : Hid (∀ W, Below w.heap.size w W → _) := fun W hW => Answer_any W v l (1 :: txt (m.map fix)) (hv.below hW (Nat.le_refl _)) (by omega) (by rw [List.length_cons]; omega)
  rw [ht] at HAn
  dsimp only at HAn
  have hTz : ¬ (4000 : Int) < ((bs (txt (m.map fix))).size : Int) := by rw [bs_size]; omega
  have hTz2 : (bs (txt (m.map fix))).size ≤ 4000 := by rw [bs_size]; omega
  have hcat : (⟨#[1]⟩ : ByteArray) ++ bs (txt (m.map fix)) = bs (1 :: txt (m.map fix)) := bs_app [1] _
  generalize bs (1 :: txt (m.map fix)) = T1 at *
  generalize bs (txt (m.map fix)) = T at *
  generalize bs (txt l) = T2 at *
  have hAz : (bs (0 :: U)).size = U.length + 1 := by rw [bs_size]; rfl
  have hA0 : ∀ h : 0 < (bs (0 :: U)).size, (bs (0 :: U))[0]'h = 0 := fun _ => rfl
  have hAE : (bs (0 :: U)).toList.isEmpty = false := by rw [bs_list]; rfl
  have hAX : (bs (0 :: U)).extract 1 (U.length + 1) = bs U := by rw [← hAz, bs_drop]; rfl
  have HRd : Hid (∀ W, _) := fun W => Read_any U W (by omega)
  rw [hu] at HRd
  dsimp only at HRd
  have hDl : D.length = m.length := by rw [hD]; simp
  have hMl : (m.map fix).length = m.length := by simp
  have HDM : Hid (∀ k (h1 : k < D.length) (h2 : k < (m.map fix).length), D[k].name = (m.map fix)[k].name ∧ D[k].user = (m.map fix)[k].user ∧ (D[k].eq (m.map fix)[k] = false → D[k] ∈ l)) := fun k h1 h2 => by
    have e : D[k] = firstOf l (m.map fix)[k] := by simp only [hD, List.getElem_map]
    rw [e]
    refine ⟨(firstOf_same _ l).1, (firstOf_same _ l).2, fun hh => ?_⟩
    rcases firstOf_mem (m.map fix)[k] l with h | h
    · exact h
    · rw [h, Vr.eq_self] at hh; cases hh
  have HCon : Hid (∀ W x, Below w.heap.size w W → x ∈ l → Calls Try.prog 13 #[v, .agg #[.string (bs x.name), .string (bs x.value), .bool x.user, .bool x.set]] W fun e w' => e = .returned (.bool true) ∧ Below W.heap.size W w') := fun W x h1 h2 => Contains_mem W v l x (hv.below h1 (Nat.le_refl _)) (by omega) h2
  have HML : Hid (∃ M : List Vr, m.map fix = M) := ⟨_, rfl⟩
  have hm20 : m.length ≤ 20 := by have := (chk_zero h).1; rw [hMl] at this; exact this
  generalize bs U = U2 at *
  generalize bs (0 :: U) = A at *
  have hA0 := hA0 (by omega)
  have h4' : ¬ (4097 : Int) < (U.length : Int) + 1 := by omega
  have hmp : 0 < m.length := by
    cases m with
    | nil => exact absurd rfl hm0
    | cons a t => simp
  clear hm0 hD
  obtain ⟨a0, c0, rfl, hc0, hr0⟩ := hv
  have HV2 := Hid.mk' hv2
  obtain ⟨a2, c2, rfl, hc2, hr2⟩ := hv2
  have HST : Hid (FState w m m.length (.slice a2 m.length c2) (.int .i64 0) w) := ⟨0, a2, c2, Nat.zero_le _, by omega, rfl, rfl, by rw [fixK_zero]; exact HV2, Below.refl _ _⟩
  clear hr0 hr2 HV2
  go_enter Try.func5, Try.ntmps5
  go_wp2_with fail
  go_loopg [1, 17] m.length (fun g s1 s17 wr => FState w m g s1 s17 wr)
  case atStart => exact HST.out
  case round =>
    obtain ⟨k, a, c, hk, hg, rfl, rfl, HR, HB⟩ := hrel
    clear HST
    have hbs := HB.out.size
    by_cases hlt : k < m.length
    · clear HWM HWL HL HV HAn HRd HDM HCon
      have H1 := Hid.mk' (HCl.out wr a c k (by omega) HR.out)
      clear HCl HR
      go_wp2_with fail
      refine H1.out.mono ?_
      rintro e w1 ⟨ad, cap, rfl, ho, hb1⟩
      have hlen := fixK_len m (Nat.le_of_lt hlt)
      have hk2 : k < (fixK m k).length := by omega
      obtain ⟨g, rfl⟩ : ∃ g, ad = some ⟨g, 0, none⟩ := by
        rcases ho.shape with ⟨_, _, e⟩ | h
        · rw [e] at hk2; simp at hk2
        · exact h
      obtain ⟨hg1, hg2, hLc, hcm, hroom⟩ := ho.room
      have hRd := ho.rd
      rw [hlen] at hRd
      obtain ⟨a9, c9, e9, hc9, hr9⟩ := hRd
      simp only [Value.slice.injEq] at e9
      obtain ⟨rfl, hee, rfl⟩ := e9
      clear hee
      rcases hr9 with h0 | ⟨b9, o9, e9, t9, hb9⟩
      · rw [h0] at hk2; simp at hk2
      simp only [Option.some.injEq, Addr.mk.injEq, and_true] at e9
      obtain ⟨rfl, rfl⟩ := e9
      have hcell := t9 k hk2
      rw [fixK_at m hlt hk2, Nat.zero_add] at hcell
      obtain ⟨q0, q1, q2, q3⟩ := hcell
      have f0 := (hroom.cell (j := k * 4) (by omega)).2
      have f1 := (hroom.cell (j := k * 4 + 1) (by omega)).2
      have f3 := (hroom.cell (j := k * 4 + 3) (by omega)).2
      have HBW := Hid.mk' (HB.out.trans (hb1.mono hbs))
      have hgw : w.heap.size ≤ g := by omega
      have hkc : k < cap := by omega
      have hmc : m.length ≤ cap := by omega
      by_cases hnm : m[k].name = []
      · have hE : (bs m[k].name).toList.isEmpty = true := by rw [bs_list, hnm]; rfl
        have HF := Hid.mk' (fix_setx (w := w1) (g := g) (k := k) t9 hk2 (fix m[k]) (by rw [fixK_at m hlt hk2]; unfold fix; rw [if_pos hnm]))
        have HR2 : Hid (RdV (((w1.setCell ⟨g, k * 4, none⟩ (.string ⟨#[120]⟩)).setCell ⟨g, k * 4 + 1, none⟩ (.string ⟨#[]⟩)).setCell ⟨g, k * 4 + 3, none⟩ (.bool false)) (.slice (some ⟨g, 0, none⟩) m.length cap) (fixK m (k + 1))) :=
          ⟨_, cap, by rw [fixK_len m (by omega)], by rw [fixK_len m (by omega)]; exact hmc, .inr ⟨g, 0, rfl, by rw [fixK_succ m hlt]; exact HF.out, by simpa [World.setCell] using hg2⟩⟩
        have HB2 : Hid (Below w.heap.size w (((w1.setCell ⟨g, k * 4, none⟩ (.string ⟨#[120]⟩)).setCell ⟨g, k * 4 + 1, none⟩ (.string ⟨#[]⟩)).setCell ⟨g, k * 4 + 3, none⟩ (.bool false))) := ((HBW.out.setCell (p := ⟨g, k * 4, none⟩) hgw _).setCell (p := ⟨g, k * 4 + 1, none⟩) hgw _).setCell (p := ⟨g, k * 4 + 3, none⟩) hgw _
        clear HF t9 ho hroom hb1 HB HBW H1 hlen hk2 hLc hcm hnm
        generalize bs m[k].name = z0 at *
        generalize bs m[k].value = z1 at *
        generalize m[k].user = z2 at *
        generalize m[k].set = z3 at *
        go_wp2
        go_roundg (m.length - (k + 1))
        case measure => omega
        case rel => exact ⟨k + 1, _, cap, by omega, by omega, by go_num, rfl, HR2, HB2⟩
      · have hE : (bs m[k].name).toList.isEmpty = false := by
          rw [bs_list]
          cases hv : m[k].name with
          | nil => exact absurd hv hnm
          | cons a t => rfl
        have HF := Hid.mk' (fix_set (w := w1) (g := g) (k := k) t9 hk2 (fix m[k]) (by rw [fixK_at m hlt hk2]; unfold fix; rw [if_neg hnm]))
        have HR2 : Hid (RdV ((w1.setCell ⟨g, k * 4 + 1, none⟩ (.string ⟨#[]⟩)).setCell ⟨g, k * 4 + 3, none⟩ (.bool false)) (.slice (some ⟨g, 0, none⟩) m.length cap) (fixK m (k + 1))) :=
          ⟨_, cap, by rw [fixK_len m (by omega)], by rw [fixK_len m (by omega)]; exact hmc, .inr ⟨g, 0, rfl, by rw [fixK_succ m hlt]; exact HF.out, by simpa [World.setCell] using hg2⟩⟩
        have HB2 : Hid (Below w.heap.size w ((w1.setCell ⟨g, k * 4 + 1, none⟩ (.string ⟨#[]⟩)).setCell ⟨g, k * 4 + 3, none⟩ (.bool false))) := (HBW.out.setCell (p := ⟨g, k * 4 + 1, none⟩) hgw _).setCell (p := ⟨g, k * 4 + 3, none⟩) hgw _
        clear HF t9 ho hroom hb1 HB HBW H1 hlen hk2 hLc hcm hnm
        generalize bs m[k].name = z0 at *
        generalize bs m[k].value = z1 at *
        generalize m[k].user = z2 at *
        generalize m[k].set = z3 at *
        go_wp2
        go_roundg (m.length - (k + 1))
        case measure => omega
        case rel => exact ⟨k + 1, _, cap, by omega, by omega, by go_num, rfl, HR2, HB2⟩
    · obtain rfl : k = m.length := by omega
      have HM : Hid (RdV wr (.slice a m.length c) (m.map fix)) := by
        have := HR.out
        rw [fixK_all] at this
        exact this
      clear HCl HR
      go_wp2_with fail
      refine (HWM.out wr a c HM.out).mono ?_
      rintro e w1 ⟨rfl, hb1⟩
      have HB1 := Hid.mk' (HB.out.trans (hb1.mono hbs))
      have hs1 := HB1.out.size
      have HM1 := Hid.mk' (HM.out.later hb1)
      clear hb1 HB HWM HM
      go_wp2_with fail
      refine (HWL.out w1 HB1.out).mono ?_
      rintro e w2 ⟨rfl, hb2⟩
      have HB2 := Hid.mk' (HB1.out.trans (hb2.mono hs1))
      have hs2 := HB2.out.size
      have HM2 := Hid.mk' (HM1.out.later hb2)
      clear hb2 HB1 HWL HM1
      go_wp2_with fail
      refine (HL.out w2).mono ?_
      rintro e w3 ⟨rfl, hb3⟩
      have HB3 := Hid.mk' (HB2.out.trans (hb3.mono hs2))
      have hs3 := HB3.out.size
      have HM3 := Hid.mk' (HM2.out.later hb3)
      clear hb3 HB2 HM2
      go_wp2_with fail
      refine (HAn.out w3 HB3.out).mono ?_
      rintro e w4 ⟨rfl, hb4⟩
      have HB4 := Hid.mk' (HB3.out.trans (hb4.mono hs3))
      have hs4 := HB4.out.size
      have HM4 := Hid.mk' (HM3.out.later hb4)
      clear hb4 HB3 HAn HM3
      go_wp2_with fail
      refine (HRd.out w4).mono ?_
      rintro e w5 ⟨ad5, cap5, rfl, ho5, hb5⟩
      have HB5 := Hid.mk' (HB4.out.trans (hb5.mono hs4))
      have hs5 := HB5.out.size
      have HM5 := Hid.mk' (HM4.out.later hb5)
      have HO5 := Hid.mk' ho5
      clear hb5 HB4 HRd HM4 ho5
      have hml0' : ((m.length : Int) == 0) = false := by rw [beq_eq_false_iff_ne]; omega
      have hml1 : ¬ (m.length : Int) = 0 := by omega
      go_wp2_with fail
      go_loopg [110] D.length (fun g s110 wr => ∃ k : Nat, k ≤ D.length ∧ D.length - k ≤ g ∧ s110 = .int .i64 (k : Int) ∧ Hid (Below w5.heap.size w5 wr))
      case atStart => exact ⟨0, Nat.zero_le _, by omega, rfl, Below.refl _ _⟩
      case round =>
        obtain ⟨k, hk, hg, rfl, HBr⟩ := hrel
        have HBw := Hid.mk' (HB5.out.trans (HBr.out.mono hs5))
        by_cases hlt : k < D.length
        · have hlt2 : k < (m.map fix).length := by omega
          obtain ⟨e1, e2, e3⟩ := HDM.out k hlt hlt2
          obtain ⟨a9, c9, e9, hc9, hr9⟩ := HO5.out.rd
          simp only [Value.slice.injEq] at e9
          obtain ⟨rfl, _, rfl⟩ := e9
          rcases hr9 with h0 | ⟨b9, o9, rfl, t9, hb9⟩
          · subst h0; simp at hlt
          obtain ⟨a8, c8, e8, hc8, hr8⟩ := HM5.out
          simp only [Value.slice.injEq] at e8
          obtain ⟨rfl, hee, rfl⟩ := e8
          clear hee
          rcases hr8 with h0 | ⟨b8, o8, rfl, t8, hb8⟩
          · rw [h0] at hlt2; simp at hlt2
          have HY : Hid (∀ W, Below w5.heap.size w5 W → Lie W b9 (o9 + k * 4) D[k]) := fun W h => (t9 k hlt).below h hb9
          have HZ : Hid (∀ W, Below w5.heap.size w5 W → Lie W b8 (o8 + k * 4) (m.map fix)[k]) := fun W h => (t8 k hlt2).below h hb8
          have hkm : k < m.length := by omega
          have hq1 : ((D.length : Int) != (m.length : Int)) = false := by rw [hDl]; simp
          have hne := fun W => Vr.run_eq D[k] (m.map fix)[k] W
          simp only [Vr.val] at hne
          have HCk := Hid.mk' (fun W hW (hb : D[k].eq (m.map fix)[k] = false) => HCon.out W D[k] hW (e3 hb))
          clear t9 t8 HDM HCon e3
          generalize hB : D[k].eq (m.map fix)[k] = B at *
          clear hB
          generalize D[k] = y at *
          generalize (m.map fix)[k] = z at *
          obtain ⟨y0, y1, y2, y3⟩ := y
          obtain ⟨z0, z1, z2, z3⟩ := z
          simp only at e1 e2
          subst e1
          subst e2
          unfold Lie at HY HZ
          simp only at HY HZ hne HCk
          generalize bs y0 = Y0 at *
          generalize bs y1 = Y1 at *
          generalize bs z1 = Z1 at *
          have hNN : (Y0.toList == Y0.toList) = true := beq_self_eq_true _
          have ys := HY.out
          have zs := HZ.out
          have A0 := fun W h => (ys W h).1
          have A1 := fun W h => (ys W h).2.1
          have A2 := fun W h => (ys W h).2.2.1
          have A3 := fun W h => (ys W h).2.2.2
          have B0 := fun W h => (zs W h).1
          have B1 := fun W h => (zs W h).2.1
          have B2 := fun W h => (zs W h).2.2.1
          have B3 := fun W h => (zs W h).2.2.2
          have H0 : Hid (Below w5.heap.size w5 wr.drew) := HBr.out.drew
          clear ys zs HY HZ HM5 HO5
          cases B with
          | true =>
            clear HCk
            have a0 := A0 _ HBr.out
            have a1 := A1 _ HBr.out
            have a2 := A2 _ HBr.out
            have a3 := A3 _ HBr.out
            have b0 := B0 _ HBr.out
            have b1 := B1 _ HBr.out
            have b2 := B2 _ HBr.out
            have b3 := B3 _ HBr.out
            clear A0 A1 A2 A3 B0 B1 B2 B3
            go_wp2_with fail
            go_quiet (fail)
            have HBq : Hid (Below w5.heap.size w5 (wr.drewN nq)) := below_drewN HBr.out nq
            go_wp2
            go_roundg (D.length - (k + 1))
            case measure => omega
            case rel => exact ⟨k + 1, by omega, by omega, by go_num, HBq⟩
          | false =>
            have HCW : Hid (∀ W, Below w5.heap.size w5 W → Calls Try.prog 13 #[.slice a0 l.length c0, .agg #[.string Y0, .string Y1, .bool y2, .bool y3]] W fun e w' => e = .returned (.bool true) ∧ Below w5.heap.size w5 w') := fun W hW => by
              refine (HCk.out W (HB5.out.trans (hW.mono hs5)) rfl).mono ?_
              rintro e w' ⟨q1, q2⟩
              exact ⟨q1, hW.trans (q2.mono hW.size)⟩
            clear HCk
            go_wp2_with fail
            go_region_held3 (fun w' => Below w5.heap.size w5 w') (first | with_reducible assumption | with_reducible exact H0.out) (first | (go_at_call 13; refine (HCW.out _ (by first | assumption | exact H0.out)).mono ?_; rintro e wc ⟨rfl, hbc⟩))
            all_goals (
              have HBc := Hid.mk' hbc
              go_wp2
              go_roundg (D.length - (k + 1))
              case measure => omega
              case rel => exact ⟨k + 1, by omega, by omega, by go_num, HBc⟩)
        · obtain rfl : k = D.length := by omega
          have hq : ((D.length : Int) == (m.length : Int)) = true := by rw [hDl]; exact beq_self_eq_true _
          clear HDM HCon HM5 HO5
          go_wp2
          go_ret
          exact ⟨rfl, HBw.out⟩

theorem EnvironTold_any (w : World) (v v2 : Value) (l m : List Vr) (hv : RdV w v l) (hv2 : RdV w v2 m) (hn : l.length * 40 ≤ 140737488355328) (hm : m.length * 40 ≤ 140737488355328) :
    Calls Try.prog 5 #[v, v2] w fun e w' => e = .returned (.bool true) ∧ Below w.heap.size w w' := by
  rcases chk_range (m.map fix) with h | h | h
  · rcases chk_range l with h2 | h2 | h2
    · by_cases h3 : 4000 < (txt (m.map fix)).length
      · exact Told_c w v v2 l m hv hv2 hn hm h h2 h3
      · obtain ⟨ht, hc⟩ := told_answer h2 h (by omega)
        by_cases h4 : 4096 < (txt (if m = [] then l else (m.map fix).map (firstOf l))).length
        · exact Told_d1 w v v2 l m hv hv2 hn hm _ h h2 (by omega) ht h4
        · have hu := readT_txt hc (by omega)
          by_cases hm0 : m = []
          · rw [if_pos hm0] at ht hu h4
            exact Told_d2 w v v2 l m hv hv2 hn hm _ h h2 (by omega) ht (by omega) hu hm0
          · rw [if_neg hm0] at ht hu h4
            exact Told_d3 w v v2 l m hv hv2 hn hm _ h h2 (by omega) ht (by omega) _ hu hm0 rfl
    · exact Told_b2 w v v2 l m hv hv2 hn hm h h2
    · exact Told_b4 w v v2 l m hv hv2 hn hm h h2
  · exact Told_a2 w v v2 l m hv hv2 hn hm h
  · exact Told_a4 w v v2 l m hv hv2 hn hm h
end Go.Proofs.Ytbfiompbngpjoaa.E
