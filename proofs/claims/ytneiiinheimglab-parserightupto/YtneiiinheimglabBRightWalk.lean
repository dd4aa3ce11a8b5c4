/-
  The walk of farkeep.ParseRight: it returns true; condition: at most 1048576 runes and bytes.
-/
import Derived.Test.YtneiiinheimglabBPRef
import Derived.Test.YtneiiinheimglabBLives
namespace Go.Proofs.Ytneiiinheimglab.B
open Go.RowKit Go.Lib Go.Proofs.Ytneiiinheimglab Go.Proofs.Ytneiiinheimglab.W Go.Proofs.Ytneiiinheimglab.Q Go.Proofs.Ytneiiinheimglab.C Go.Proofs.Ytneiiinheimglab.Z

theorem act_ok {a : Ac} (h : shape a) : 1 ≤ a.kind ∧ a.kind ≤ 6 ∧ a.text.length ≤ 256 ∧ a.inter.length ≤ 2 ∧ a.args.length ≤ 32 := by
  have h32 : ∀ s, (readT s).1.length ≤ 32 := fun s => by
    unfold readT
    split
    · exact rd_len s
    · exact Nat.zero_le _
  rcases h with h | ⟨h, _⟩ | ⟨h, _⟩ | ⟨h, _, _, h2, _⟩ | ⟨h, _, _, _, h2, s, _, _, e⟩ | ⟨h, h2⟩
  · rw [h]; exact ⟨by decide, by decide, Nat.zero_le _, Nat.zero_le _, Nat.zero_le _⟩
  · rw [h]; exact ⟨by show (1 : Int) ≤ 1; decide, by show (1 : Int) ≤ 6; decide, Nat.zero_le _, Nat.zero_le _, Nat.zero_le _⟩
  · rw [h]; exact ⟨by show (1 : Int) ≤ 2; decide, by show (2 : Int) ≤ 6; decide, Nat.zero_le _, Nat.zero_le _, Nat.zero_le _⟩
  · have hi := h2.1
    rw [h]; exact ⟨by show (1 : Int) ≤ 3; decide, by show (3 : Int) ≤ 6; decide, Nat.zero_le _, hi, Nat.zero_le _⟩
  · have hi := h2.1
    have ha := h32 s
    rw [← e] at ha
    rw [h]; exact ⟨by show (1 : Int) ≤ 4; decide, by show (4 : Int) ≤ 6; decide, Nat.zero_le _, hi, ha⟩
  · rw [h]; exact ⟨by show (1 : Int) ≤ 5; decide, by show (5 : Int) ≤ 6; decide, h2, Nat.zero_le _, Nat.zero_le _⟩
theorem ctrls_take (M : List Ac) (k : Nat) (h : k < M.length) : ctrls (M.take (k + 1)) = ctrls (M.take k) + (if (M[k]).kind = 2 then 1 else 0) := by
  rw [List.take_succ_eq_append_getElem h, ctrls_app]
  congr 1
  unfold ctrls
  by_cases hk : (M[k]).kind = 2
  · rw [if_pos hk, List.filter_cons_of_pos (by simpa using hk)]; rfl
  · rw [if_neg hk, List.filter_cons_of_neg (by simpa using hk)]; rfl
theorem controls_take (l : List Int) (k : Nat) (h : k < l.length) : controls (l.take (k + 1)) = controls (l.take k) + (if 0 ≤ l[k] ∧ l[k] < 32 then 1 else 0) := by
  rw [List.take_succ_eq_append_getElem h]
  unfold controls
  rw [List.filter_append, List.length_append]
  congr 1
  by_cases hk : 0 ≤ l[k] ∧ l[k] < 32
  · rw [if_pos hk, List.filter_cons_of_pos (by simpa using hk)]; rfl
  · rw [if_neg hk, List.filter_cons_of_neg (by simpa using hk)]; rfl
theorem controls_le (l : List Int) : controls l ≤ l.length := List.length_filter_le _ _
theorem ctrls_mono (M : List Ac) (k : Nat) : ctrls (M.take k) ≤ ctrls M := by
  have h := ctrls_app (M.take k) (M.drop k)
  rw [List.take_append_drop] at h
  omega

set_option maxHeartbeats 32000000 in
set_option maxRecDepth 100000 in
theorem Right_bad (st mk : Int) (im ar tx : List UInt8) (hok : okP st mk im ar tx = false) (v : Value) (w : World) (hp : im.length + ar.length + tx.length ≤ 1048576) :
    Calls Try.prog 3 #[.agg #[.int .i64 st, .int .i64 mk, .string (bs im), .string (bs ar), .string (bs tx)], v] w fun e w' => e = .returned (.bool true) ∧ Below w.heap.size w w' := by
  have HF := Hid.mk' (fun W => Feed_bad st mk im ar tx hok v W (by omega))
  have HLV := Hid.mk' (fun W => lives_any W)
  generalize bs im = S1 at *
  generalize bs ar = S2 at *
  generalize bs tx = S3 at *
  go_enter Try.func3, Try.ntmps3
  go_wp2_with fail
  refine (HF.out _).mono ?_
  rintro e w2 ⟨rfl, h2⟩
  have h2' := Below.mono h2 (show w.heap.size + 1 ≤ _ by simp)
  have E2 := Hid.mk' (show Below w.heap.size w (w2.alloc (.cells #[.int .i64 st, .int .i64 mk, .string S1, .string S2, .string S3] 23)) from by
    have h := ((Below.refl _ _).alloc (Nat.le_refl w.heap.size) (.cells #[.int .i64 st, .int .i64 mk, .string S1, .string S2, .string S3] 23)).trans (Below.mono h2' (Nat.le_succ _))
    exact h.alloc h.size _)
  clear h2 h2' HF
  go_wp2_with fail
  refine (HLV.out _).mono ?_
  rintro e w3 ⟨rfl, h3⟩
  have E3 := Hid.mk' (E2.out.trans (Below.mono h3 E2.out.size))
  clear h3 E2
  go_wp2_with fail
  refine (HLV.out _).mono ?_
  rintro e w4 ⟨rfl, h4⟩
  have E4 := Hid.mk' (E3.out.trans (Below.mono h4 E3.out.size))
  clear h4 E3
  go_wp2
  go_ret
  exact ⟨rfl, E4.out⟩

set_option maxHeartbeats 32000000 in
set_option maxRecDepth 100000 in
theorem ParseRight_any (st mk : Int) (im ar tx : List UInt8) (v : Value) (l : List Int) (w : World) (hv : RdI w v l) (hp : im.length + ar.length + tx.length ≤ 1048576) (hl : l.length ≤ 1048576) :
    Calls Try.prog 3 #[.agg #[.int .i64 st, .int .i64 mk, .string (bs im), .string (bs ar), .string (bs tx)], v] w fun e w' => e = .returned (.bool true) ∧ Below w.heap.size w w' := by
  cases hok : okP st mk im ar tx with
  | false => exact Right_bad st mk im ar tx hok v w hp
  | true =>
  obtain ⟨n, rfl, hr⟩ := okP_right hok
  have HFA := Hid.mk' (fun W (h : RdI W v l) => Feed_ok ⟨n, mk, im, ar, tx⟩ hr v l W h (by omega))
  have hq : right (run ⟨n, mk, im, ar, tx⟩ l).1 := run_right l hr
  have HSH : Hid (∀ y ∈ (run ⟨n, mk, im, ar, tx⟩ l).2, shape y) := run_shape l hr
  have hct := run_ctrls l hr
  have hf1 := run_few l ⟨n, mk, im, ar, tx⟩
  have HCT := Hid.mk' (fun k h => controls_take l k h)
  have hcl := controls_le l
  have HTL : Hid (l.take l.length = l) := List.take_length
  have HLV := Hid.mk' (fun W => lives_any W)
  clear hok
  generalize run ⟨n, mk, im, ar, tx⟩ l = Y at *
  obtain ⟨q, M⟩ := Y
  dsimp only at *
  have HMT := Hid.mk' (fun k h => ctrls_take M k h)
  have HMM := Hid.mk' (ctrls_mono M)
  have HML : Hid (M.take M.length = M) := List.take_length
  have hqs : q.inter.length ≤ 3 ∧ q.args.length ≤ 100 ∧ q.text.length ≤ 256 := ⟨hq.ilen, hq.alen, hq.tlen⟩
  have HPR := Hid.mk' (fun W => ParserRight_any (q.st : Int) q.mark q.inter q.args q.text W (by omega))
  have HCK := Hid.mk' (fun W => Check_any (q.st : Int) q.mark q.inter q.args q.text W (by omega))
  rw [if_pos (right_okP hq)] at HPR HCK
  unfold pcells at HFA
  dsimp only at *
  clear hq hqs
  generalize bs im = S1 at *
  generalize bs ar = S2 at *
  generalize bs tx = S3 at *
  generalize bs q.inter = Q2 at *
  generalize bs q.args = Q3 at *
  generalize bs q.text = Q4 at *
  generalize (q.st : Int) = qs at *
  generalize q.mark = qm at *
  generalize (n : Int) = st at *
  have HV := Hid.mk' hv
  obtain ⟨a1, cap1, e1, _, hcl2⟩ := hv
  subst e1
  have HCL : Hid (∀ k (h : k < l.length), ∃ g off, a1 = some ⟨g, off, none⟩ ∧ ∀ W, Below w.heap.size w W → W.cell? ⟨g, off + k, none⟩ = some (.int .i64 l[k])) := fun k h => by
    rcases hcl2 with h0 | ⟨g, off, e, hT, hg⟩
    · subst h0; simp at h
    · exact ⟨g, off, e, fun W hW => (hW.cell (p := ⟨g, off + k, none⟩) hg).trans (hT k h)⟩
  clear hcl2 hr
  go_enter Try.func3, Try.ntmps3
  go_wp2_with fail
  have hA0 : Below w.heap.size w (w.alloc (.cells #[.int .i64 st, .int .i64 mk, .string S1, .string S2, .string S3] 23)) := (Below.refl _ _).alloc (Nat.le_refl _) _
  refine (HFA.out _ (HV.out.below hA0)).mono ?_
  rintro e w2 ⟨vl, rfl, r2, h2⟩
  have h02 := hA0.trans (Below.mono h2 hA0.size)
  have E2 := Hid.mk' (h02.alloc h02.size (.cells #[.int .i64 qs, .int .i64 qm, .string Q2, .string Q3, .string Q4] 23))
  have Y2 := Hid.mk' (Box.new w2 23 [.int .i64 qs, .int .i64 qm, .string Q2, .string Q3, .string Q4])
  have R2 := Hid.mk' (r2.below ((Below.refl _ _).alloc (Nat.le_refl _) (.cells #[.int .i64 qs, .int .i64 qm, .string Q2, .string Q3, .string Q4] 23)))
  clear h2 r2 hA0 h02 HFA HV
  go_wp2_with fail
  refine (HLV.out _).mono ?_
  rintro e w3 ⟨rfl, h3⟩
  have E3 := Hid.mk' (E2.out.trans (Below.mono h3 E2.out.size))
  have Y3 := Hid.mk' (Y2.out.later h3)
  have R3 := Hid.mk' (R2.out.below h3).rd
  obtain ⟨am, cm, xs, ev, hcm, ex, hrx, hxx⟩ := R3.out
  subst ev
  have lx : xs.length = M.length := by rw [← ex]; simp
  have HCM : Hid (∀ k (h : k < M.length), ∃ b1 o1 va, am = some ⟨b1, o1, none⟩ ∧ RdI w3 va (M[k]).args ∧ ∀ W, Below w3.heap.size w3 W → ∀ i u, (acells M[k] va)[i]? = some u → W.cell? ⟨b1, o1 + k * 6 + i, none⟩ = some u) := by
    intro k h
    rcases hxx with h0 | ⟨b1, o1, e1, hb1, t1⟩
    · rw [h0] at h; simp at h
    have kx : k < xs.length := by omega
    have fx : xs[k].1 = M[k] := by simp only [← ex, List.getElem_map]
    refine ⟨b1, o1, xs[k].2, e1, ?_, fun W hW i u hu => ?_⟩
    · have := hrx xs[k] (List.getElem_mem kx); rwa [fx] at this
    · have hi : i < 6 := by have := (List.getElem?_eq_some_iff.1 hu).1; simpa [acells] using this
      have e := asC_at xs k kx i hi
      rw [fx, hu] at e
      have := t1 _ _ e
      rw [← Nat.add_assoc] at this
      exact (hW.cell (p := ⟨b1, _, none⟩) hb1).trans this
  have z23 := h3.size
  clear h3 E2 Y2 R2 R3 HLV ex hrx hxx lx
  go_wp2_with fail
  go_loopw [8, 29] (fun s8 s29 wr => ∃ k : Nat, k ≤ l.length ∧ s29 = .int .i64 (k : Int) ∧ s8 = .int .i64 (controls (l.take k) : Int) ∧ Hid (controls (l.take k) ≤ k) ∧ w3 = wr) (fun _ i _ => l.length - (RowKit.intOf i).toNat)
  case atStart => exact ⟨0, Nat.zero_le _, rfl, rfl, Nat.le_refl _, rfl⟩
  case round =>
    obtain ⟨k, hk, rfl, rfl, HK, hw⟩ := hrel
    subst hw
    by_cases hlt : k < l.length
    · obtain ⟨g, off, ha, hcell⟩ := HCL.out k hlt
      subst ha
      have c1 := hcell w3 E3.out
      have hst := HCT.out k hlt
      have hk2 := HK.out
      clear hcell HCL HCT HCM HPR HCK HMT HMM HML HSH hct
      have HR2 : Hid (controls (l.take (k + 1)) ≤ k + 1) := by rw [Hid, hst]; split <;> omega
      have HR1 : Hid (0 ≤ l[k] ∧ l[k] < 32 → (Value.int .i64 ((controls (l.take k) : Int) + 1)) = .int .i64 (controls (l.take (k + 1)) : Int)) := fun h => by rw [hst, if_pos h]; simp
      have HR0 : Hid (¬ (0 ≤ l[k] ∧ l[k] < 32) → (Value.int .i64 (controls (l.take k) : Int)) = .int .i64 (controls (l.take (k + 1)) : Int)) := fun h => by rw [hst, if_neg h]; rfl
      clear hst
      generalize l[k] = c at *
      generalize controls (l.take k) = N1 at *
      by_cases h0 : 0 ≤ c
      · by_cases h1 : c < 32
        · have HR := Hid.mk' (HR1.out ⟨h0, h1⟩)
          clear HR1 HR0
          go_wp2
          go_roundw
          case rel => exact ⟨k + 1, by omega, by go_num, HR.out, HR2, trivial⟩
          case measure => simp [RowKit.intOf]; omega
        · have HR := Hid.mk' (HR0.out (fun h => h1 h.2))
          clear HR1 HR0
          go_wp2
          go_roundw
          case rel => exact ⟨k + 1, by omega, by go_num, HR.out, HR2, trivial⟩
          case measure => simp [RowKit.intOf]; omega
      · have HR := Hid.mk' (HR0.out (fun h => h0 h.1))
        clear HR1 HR0
        go_wp2
        go_roundw
        case rel => exact ⟨k + 1, by omega, by go_num, HR.out, HR2, trivial⟩
        case measure => simp [RowKit.intOf]; omega
    · obtain rfl : k = l.length := by omega
      rw [HTL.out] at *
      have hc2 : ctrls M ≤ controls l ∧ controls l ≤ 1048576 := ⟨hct, by omega⟩
      generalize controls l = N at *
      clear HCT HCL HTL HK hct hcl
      go_wp2_with fail
      go_loopw [8, 44] (fun s8 s44 w_x => ∃ k : Nat, k ≤ M.length ∧ s44 = .int .i64 (k : Int) ∧ s8 = .int .i64 ((N : Int) - (ctrls (M.take k) : Int)) ∧ Hid (Below w3.heap.size w3 w_x)) (fun _ i _ => M.length - (RowKit.intOf i).toNat)
      case atStart => exact ⟨0, Nat.zero_le _, rfl, by simp [ctrls], Below.refl _ _⟩
      case round =>
        obtain ⟨k, hk, e44, e8, HB⟩ := hrel
        subst e44 e8
        by_cases hlt : k < M.length
        · obtain ⟨b1, o1, va, ea, ra, tc⟩ := HCM.out k hlt
          subst ea
          have hst := HMT.out k hlt
          have hm1 := HMM.out k
          have hm2 := HMM.out (k + 1)
          have hsh := act_ok (HSH.out _ (List.getElem_mem hlt))
          have p0 := tc _ HB.out 0 _ rfl
          have p1 := tc _ HB.out 1 _ rfl
          have p2 := tc _ HB.out 2 _ rfl
          have p3 := tc _ HB.out 3 _ rfl
          have p4 := tc _ HB.out 4 _ rfl
          have p5 := tc _ HB.out 5 _ rfl
          rw [Nat.add_zero] at p0
          have s3 := C.bs_size (M[k]).inter
          have s5 := C.bs_size (M[k]).text
          obtain ⟨av, cv, ev, _⟩ := ra
          subst ev
          have HNX : Hid (∀ o, Below w3.heap.size w3 (wr.alloc o)) := fun o => HB.out.alloc HB.out.size o
          clear tc HCM HMT HMM HSH
          have HR1 : Hid ((M[k]).kind = 2 → (Value.int .i64 ((N : Int) - (ctrls (M.take k) : Int) - 1)) = .int .i64 ((N : Int) - (ctrls (M.take (k + 1)) : Int))) := fun h => by rw [hst, if_pos h]; congr 1; omega
          have HR0 : Hid (¬ (M[k]).kind = 2 → (Value.int .i64 ((N : Int) - (ctrls (M.take k) : Int))) = .int .i64 ((N : Int) - (ctrls (M.take (k + 1)) : Int))) := fun h => by rw [hst, if_neg h]; congr 1
          have hge : 0 ≤ (N : Int) - (ctrls (M.take k) : Int) ∧ (N : Int) - (ctrls (M.take k) : Int) ≤ 1048576 := by omega
          clear hst hm1 hm2
          generalize (N : Int) - (ctrls (M.take k) : Int) = D at *
          generalize hy : M[k] = y at *
          clear hy
          obtain ⟨yk, yc, ym, yi, ya, yt⟩ := y
          dsimp only at *
          obtain ⟨g1, g2, g3, g4, g5⟩ := hsh
          have u1 : ¬ (256 : Int) < ((bs yt).size : Int) := by omega
          have u2 : ¬ (2 : Int) < ((bs yi).size : Int) := by omega
          have u3x : ¬ (32 : Int) < (ya.length : Int) := by omega
          clear s3 s5
          generalize bs yi = T3 at *
          generalize bs yt = T5 at *
          by_cases hk2 : yk = 2
          · have HR := Hid.mk' (HR1.out hk2)
            clear HR1 HR0
            subst hk2
            go_wp2
            go_roundw
            case rel => exact ⟨k + 1, by omega, by go_num, HR.out, HNX.out _⟩
            case measure => simp [RowKit.intOf]; omega
          · have q2 : (yk == 2) = false := beq_false_of_ne hk2
            have HR := Hid.mk' (HR0.out hk2)
            clear HR1 HR0
            go_wp2
            go_roundw
            case rel => exact ⟨k + 1, by omega, by go_num, HR.out, HNX.out _⟩
            case measure => simp [RowKit.intOf]; omega
        · obtain rfl : k = M.length := by omega
          rw [HML.out]
          have hge : 0 ≤ (N : Int) - (ctrls M : Int) := by omega
          generalize (N : Int) - (ctrls M : Int) = D at *
          have Y4 := Y3.out.later HB.out
          have d0 : wr.cell? ⟨w2.heap.size, 0, none⟩ = some (.int .i64 qs) := Y4.cell (j := 0) rfl
          have d1 : wr.cell? ⟨w2.heap.size, 1, none⟩ = some (.int .i64 qm) := Y4.cell (j := 1) rfl
          have d2 : wr.cell? ⟨w2.heap.size, 2, none⟩ = some (.string Q2) := Y4.cell (j := 2) rfl
          have d3 : wr.cell? ⟨w2.heap.size, 3, none⟩ = some (.string Q3) := Y4.cell (j := 3) rfl
          have d4 : wr.cell? ⟨w2.heap.size, 4, none⟩ = some (.string Q4) := Y4.cell (j := 4) rfl
          have E4 := Hid.mk' (E3.out.trans (Below.mono HB.out E3.out.size))
          have HYB := Hid.mk' (fun W (h : Below wr.heap.size wr W) => Y4.later h)
          clear HB HCM HMT HMM HML HSH Y3 Y4 E3
          go_wp2_with fail
          refine (HPR.out _).mono ?_
          rintro e w5 ⟨rfl, h5⟩
          have E5 := Hid.mk' (E4.out.trans (Below.mono h5 E4.out.size))
          have Y5 := HYB.out _ h5
          clear d0 d1 d2 d3 d4 h5 HPR HYB
          have g0 : w5.cell? ⟨w2.heap.size, 0, none⟩ = some (.int .i64 qs) := Y5.cell (j := 0) rfl
          have g1 : w5.cell? ⟨w2.heap.size, 1, none⟩ = some (.int .i64 qm) := Y5.cell (j := 1) rfl
          have g2 : w5.cell? ⟨w2.heap.size, 2, none⟩ = some (.string Q2) := Y5.cell (j := 2) rfl
          have g3 : w5.cell? ⟨w2.heap.size, 3, none⟩ = some (.string Q3) := Y5.cell (j := 3) rfl
          have g4 : w5.cell? ⟨w2.heap.size, 4, none⟩ = some (.string Q4) := Y5.cell (j := 4) rfl
          clear Y5
          go_wp2_with fail
          refine (HCK.out _).mono ?_
          rintro e w6 ⟨rfl, h6⟩
          have E6 := Hid.mk' (E5.out.trans (Below.mono h6 E5.out.size))
          clear h6 E5 E4
          go_wp2
          go_ret
          exact ⟨rfl, E6.out⟩
end Go.Proofs.Ytneiiinheimglab.B
