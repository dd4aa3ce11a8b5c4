/-
  The walk of farkeep.ParseCuts: it returns true; condition: at most 1048576 runes and bytes.
-/
import Derived.Test.YtneiiinheimglaaBHealsWalk
import Derived.Test.YtneiiinheimglaaBApA
namespace Go.Proofs.Ytneiiinheimglaa.B
open Go.RowKit Go.Lib Go.Proofs.Ytneiiinheimglaa Go.Proofs.Ytneiiinheimglaa.W Go.Proofs.Ytneiiinheimglaa.Q Go.Proofs.Ytneiiinheimglaa.C Go.Proofs.Ytneiiinheimglaa.Z
attribute [local go_sem ↓] exec_storeP
set_option maxHeartbeats 32000000 in
set_option maxRecDepth 100000 in
theorem Cuts_bad (st mk : Int) (im ar tx : List UInt8) (hok : okP st mk im ar tx = false) (v1 v2 : Value) (w : World) (hp : im.length + ar.length + tx.length ≤ 1048576) :
    Calls Try.prog 3 #[.agg #[.int .i64 st, .int .i64 mk, .string (bs im), .string (bs ar), .string (bs tx)], v1, v2] w fun e w' => e = .returned (.bool true) ∧ Below w.heap.size w w' := by
  have HF := Hid.mk' (fun W => Feed_bad st mk im ar tx hok v1 W (by omega))
  have HLV := Hid.mk' (fun W => lives_any W)
  generalize bs im = S1 at *
  generalize bs ar = S2 at *
  generalize bs tx = S3 at *
  have t1 := same_self S1
  have t2 := same_self S2
  have t3 := same_self S3
  go_enter Try.func3, Try.ntmps3
  go_wp2_with fail
  refine (HF.out _).mono ?_
  rintro e w2 ⟨rfl, h2⟩
  have B0 := (Box.new w 23 [.int .i64 st, .int .i64 mk, .string S1, .string S2, .string S3])
  have h2' := Below.mono h2 (show w.heap.size + 1 ≤ _ by simp)
  have E2 := Hid.mk' (show Below w.heap.size w (w2.alloc (.cells #[.int .i64 st, .int .i64 mk, .string S1, .string S2, .string S3] 23)) from by
    have h := ((Below.refl _ _).alloc (Nat.le_refl w.heap.size) (.cells #[.int .i64 st, .int .i64 mk, .string S1, .string S2, .string S3] 23)).trans (Below.mono h2' (Nat.le_succ _))
    exact h.alloc h.size _)
  have X2 := Hid.mk' ((B0.later h2).alloc (.cells #[.int .i64 st, .int .i64 mk, .string S1, .string S2, .string S3] 23))
  have Y2 := Hid.mk' (Box.new w2 23 [.int .i64 st, .int .i64 mk, .string S1, .string S2, .string S3])
  clear h2 h2' HF B0
  go_wp2_with fail
  refine (HLV.out _).mono ?_
  rintro e w3 ⟨rfl, h3⟩
  have E3 := Hid.mk' (E2.out.trans (Below.mono h3 E2.out.size))
  have X3 := Hid.mk' (X2.out.later h3)
  have Y3 := Hid.mk' (Y2.out.later h3)
  clear h3 E2 X2 Y2
  go_wp2_with fail
  refine (HLV.out _).mono ?_
  rintro e w4 ⟨rfl, h4⟩
  have E4 := Hid.mk' (E3.out.trans (Below.mono h4 E3.out.size))
  have X4 := X3.out.later h4
  have Y4 := Y3.out.later h4
  have d0 : w4.cell? ⟨w.heap.size, 0, none⟩ = some (.int .i64 st) := X4.cell (j := 0) rfl
  have d1 : w4.cell? ⟨w.heap.size, 1, none⟩ = some (.int .i64 mk) := X4.cell (j := 1) rfl
  have d2 : w4.cell? ⟨w.heap.size, 2, none⟩ = some (.string S1) := X4.cell (j := 2) rfl
  have d3 : w4.cell? ⟨w.heap.size, 3, none⟩ = some (.string S2) := X4.cell (j := 3) rfl
  have d4 : w4.cell? ⟨w.heap.size, 4, none⟩ = some (.string S3) := X4.cell (j := 4) rfl
  have g0 : w4.cell? ⟨w2.heap.size, 0, none⟩ = some (.int .i64 st) := Y4.cell (j := 0) rfl
  have g1 : w4.cell? ⟨w2.heap.size, 1, none⟩ = some (.int .i64 mk) := Y4.cell (j := 1) rfl
  have g2 : w4.cell? ⟨w2.heap.size, 2, none⟩ = some (.string S1) := Y4.cell (j := 2) rfl
  have g3 : w4.cell? ⟨w2.heap.size, 3, none⟩ = some (.string S2) := Y4.cell (j := 3) rfl
  have g4 : w4.cell? ⟨w2.heap.size, 4, none⟩ = some (.string S3) := Y4.cell (j := 4) rfl
  clear X4 Y4 h4 E3 X3 Y3
  go_wp2
  go_ret
  exact ⟨rfl, E4.out⟩

set_option maxHeartbeats 32000000 in
set_option maxRecDepth 100000 in
theorem ParseCuts_any (st mk : Int) (im ar tx : List UInt8) (v1 v2 : Value) (a b : List Int) (w : World) (hv1 : RdI w v1 a) (hv2 : RdI w v2 b) (hp : im.length + ar.length + tx.length ≤ 1048576) (ha : a.length ≤ 1048576) (hb : b.length ≤ 1048576) :
    Calls Try.prog 3 #[.agg #[.int .i64 st, .int .i64 mk, .string (bs im), .string (bs ar), .string (bs tx)], v1, v2] w fun e w' => e = .returned (.bool true) ∧ Below w.heap.size w w' := by
  cases hok : okP st mk im ar tx with
  | false => exact Cuts_bad st mk im ar tx hok v1 v2 w hp
  | true =>
  obtain ⟨n, rfl, hr⟩ := okP_right hok
  have HFA := Hid.mk' (fun W (h : RdI W v1 a) => Feed_ok ⟨n, mk, im, ar, tx⟩ hr v1 a W h (by omega))
  have HFC := Hid.mk' (fun W va (h : RdI W va (a ++ b)) => Feed_ok ⟨n, mk, im, ar, tx⟩ hr va (a ++ b) W h (by simp; omega))
  have hrA : right (run ⟨n, mk, im, ar, tx⟩ a).1 := run_right a hr
  have HFB0 := Hid.mk' (fun W (h : RdI W v2 b) => Feed_ok (run ⟨n, mk, im, ar, tx⟩ a).1 hrA v2 b W h (by omega))
  have HSM : Hid (∀ y ∈ (run ⟨n, mk, im, ar, tx⟩ a).2 ++ (run (run ⟨n, mk, im, ar, tx⟩ a).1 b).2, y.args.length ≤ 17592186044416) := fun y hy => (List.mem_append.1 hy).elim (small_args hr a y) (small_args hrA b y)
  have hf1 := run_few a ⟨n, mk, im, ar, tx⟩
  have hf2 := run_few b (run ⟨n, mk, im, ar, tx⟩ a).1
  rw [run_app] at HFC
  have HCL0 := Hid.mk' (fun W (h : RdI W v1 a) => Clone_any W v1 a h (by omega))
  have HLV := Hid.mk' (fun W => lives_any W)
  clear hok
  generalize run ⟨n, mk, im, ar, tx⟩ a = Y at *
  obtain ⟨p1, M1⟩ := Y
  dsimp only at *
  generalize run p1 b = Y2 at *
  obtain ⟨q, M2⟩ := Y2
  dsimp only at *
  unfold pcells at HFA HFB0 HFC
  dsimp only at *
  generalize bs im = S1 at *
  generalize bs ar = S2 at *
  generalize bs tx = S3 at *
  generalize bs p1.inter = P2 at *
  generalize bs p1.args = P3 at *
  generalize bs p1.text = P4 at *
  generalize (p1.st : Int) = p0v at *
  generalize p1.mark = p1v at *
  generalize bs q.inter = y2 at *
  generalize bs q.args = y3 at *
  generalize bs q.text = y4 at *
  generalize (q.st : Int) = x0 at *
  generalize q.mark = x1 at *
  generalize (n : Int) = st at *
  have HV1 := Hid.mk' hv1
  have HV2 := Hid.mk' hv2
  obtain ⟨a1, cap1, e1, _⟩ := hv1
  obtain ⟨a2, cap2, e2, _⟩ := hv2
  subst e1 e2
  have hlen : a.length + b.length ≤ 1000000000000 := by omega
  clear hrA
  go_enter Try.func3, Try.ntmps3
  go_wp2_with fail
  have hA0 : Below w.heap.size w (w.alloc (.cells #[.int .i64 st, .int .i64 mk, .string S1, .string S2, .string S3] 23)) := (Below.refl _ _).alloc (Nat.le_refl _) _
  refine (HFA.out _ (HV1.out.below hA0)).mono ?_
  rintro e w2 ⟨vl1, rfl, r2, h2⟩
  have h02 := hA0.trans (Below.mono h2 hA0.size)
  have E2 := Hid.mk' (h02.alloc h02.size (.cells #[.int .i64 p0v, .int .i64 p1v, .string P2, .string P3, .string P4] 23))
  have X2 := Hid.mk' (((Box.new w 23 [.int .i64 st, .int .i64 mk, .string S1, .string S2, .string S3]).later h2).alloc (.cells #[.int .i64 p0v, .int .i64 p1v, .string P2, .string P3, .string P4] 23))
  have Y2 := Hid.mk' (Box.new w2 23 [.int .i64 p0v, .int .i64 p1v, .string P2, .string P3, .string P4])
  have R2 := Hid.mk' (r2.below ((Below.refl _ _).alloc (Nat.le_refl _) (.cells #[.int .i64 p0v, .int .i64 p1v, .string P2, .string P3, .string P4] 23)))
  clear h2 r2 hA0 h02 HFA
  go_wp2_with fail
  refine (HLV.out _).mono ?_
  rintro e w3 ⟨rfl, h3⟩
  have E3 := Hid.mk' (E2.out.trans (Below.mono h3 E2.out.size))
  have X3 := Hid.mk' (X2.out.later h3)
  have Y3 := Y2.out.later h3
  have R3 := Hid.mk' (R2.out.below h3)
  have d0 : w3.cell? ⟨w2.heap.size, 0, none⟩ = some (.int .i64 p0v) := Y3.cell (j := 0) rfl
  have d1 : w3.cell? ⟨w2.heap.size, 1, none⟩ = some (.int .i64 p1v) := Y3.cell (j := 1) rfl
  have d2 : w3.cell? ⟨w2.heap.size, 2, none⟩ = some (.string P2) := Y3.cell (j := 2) rfl
  have d3 : w3.cell? ⟨w2.heap.size, 3, none⟩ = some (.string P3) := Y3.cell (j := 3) rfl
  have d4 : w3.cell? ⟨w2.heap.size, 4, none⟩ = some (.string P4) := Y3.cell (j := 4) rfl
  have HFB := Hid.mk' (HFB0.out w3 (HV2.out.below E3.out))
  clear h3 E2 X2 Y2 Y3 R2 HFB0 HLV
  go_wp2_with fail
  refine HFB.out.mono ?_
  rintro e w4 ⟨vl2, rfl, r4, h4⟩
  have h04 := E3.out.trans (Below.mono h4 E3.out.size)
  have E4 := Hid.mk' (h04.alloc h04.size (.cells #[.int .i64 x0, .int .i64 x1, .string y2, .string y3, .string y4] 23))
  have X4 := Hid.mk' ((X3.out.later h4).alloc (.cells #[.int .i64 x0, .int .i64 x1, .string y2, .string y3, .string y4] 23))
  have Y4 := Hid.mk' (Box.new w4 23 [.int .i64 x0, .int .i64 x1, .string y2, .string y3, .string y4])
  have R4 := Hid.mk' (r4.below ((Below.refl _ _).alloc (Nat.le_refl _) (.cells #[.int .i64 x0, .int .i64 x1, .string y2, .string y3, .string y4] 23)))
  have S4 := Hid.mk' ((R3.out.below h4).below ((Below.refl _ _).alloc (Nat.le_refl _) (.cells #[.int .i64 x0, .int .i64 x1, .string y2, .string y3, .string y4] 23)))
  clear h4 r4 h04 E3 X3 R3 HFB d0 d1 d2 d3 d4
  go_upto_region 5 with fail
  generalize hW1 : w4.alloc (.cells #[.int .i64 x0, .int .i64 x1, .string y2, .string y3, .string y4] 23) = w1 at *
  clear hW1
  have z1 := X4.out.lt
  have zw : w.heap.size ≤ w1.heap.size := Nat.le_of_lt z1
  have HB1 := Hid.mk' (fun W (h : Below w1.heap.size w1.drew W) => show Below w.heap.size w W from E4.out.drew.trans (Below.mono h zw))
  have HCL := Hid.mk' (fun W (h : Below w1.heap.size w1.drew W) => HCL0.out W (HV1.out.below (HB1.out W h)))
  have HRB := Hid.mk' (fun W (h : Below w1.heap.size w1.drew W) => HV2.out.below (HB1.out W h))
  have HF : Hid (∀ W va, RdI W va (a ++ b) → Calls Try.prog 6 #[.agg #[.int .i64 st, .int .i64 mk, .string S1, .string S2, .string S3], va] W fun e w' => ∃ vl, e = .returned (.tuple #[.agg #[.int .i64 x0, .int .i64 x1, .string y2, .string y3, .string y4], vl, .int .i64 0]) ∧ RdAT w' vl (M1 ++ M2) ∧ Below W.heap.size W w') := HFC.out
  have BP := Hid.mk' X4.out.drew
  have hH5 : Holds (.agg #[.int .i64 x0, .int .i64 x1, .string y2, .string y3, .string y4]) 5 := ⟨[.int .i64 x0, .int .i64 x1, .string y2, .string y3, .string y4], rfl, rfl, by
    intro u hu
    simp only [List.mem_cons, List.mem_nil_iff, or_false] at hu
    rcases hu with rfl | rfl | rfl | rfl | rfl <;> rfl⟩
  clear HV1 HV2 HCL0 HFC E4 X4
  go_cut [13, 14, 15] (fun s7 s8 s9 wx => ∃ (b7 : Nat) (vl : Value), s7 = .pointer (some ⟨b7, 0, none⟩) ∧ vl = s8 ∧ s9 = .int .i64 0 ∧ Hid (Box wx b7 23 [.int .i64 x0, .int .i64 x1, .string y2, .string y3, .string y4]) ∧ Hid (RdAT wx vl (M1 ++ M2)) ∧ Hid (Below w1.heap.size w1.drew wx))
  case first =>
    have hE : Below w1.heap.size w1.drew w1.drew := Below.refl _ _
    have l0 : ∀ w', Below w1.heap.size w1.drew w' → Lies w' (.pointer (some ⟨w.heap.size, 0, none⟩)) 5 := fun w' h => (BP.out.below h z1).lies0 rfl
    have r0 : ∀ w', Below w1.heap.size w1.drew w' → Q.rowAt w' (.pointer (some ⟨w.heap.size, 0, none⟩)) 5 = [.int .i64 st, .int .i64 mk, .string S1, .string S2, .string S3] := fun w' h => (BP.out.below h z1).row0 rfl
    refine wp_region_noPanic ?_
    refine wp_region_held_drew (S := fun w' => Below w1.heap.size w1.drew w') (by kernel_rfl) hE (fun hHeld => ?_)
    refine wpAnyH_take (i := 0) (oi := { dst := some 48, op := Go.Op.load 23 (Go.Operand.tmp 3), type := 23, pos := _, after := #[], guard := none }) (v := .agg #[.int .i64 st, .int .i64 mk, .string S1, .string S2, .string S3]) rfl (by kernel_rfl) (by kernel_rfl) (by kernel_rfl) (fun _ _ _ h => h) (Or.inl ⟨by rfl, fun w' hSw => ?_⟩) (by assumption) ?_
    · exact (exec_loadP _ _ _ _ _ _ _ _ (l0 _ hSw)).trans (congrArg (fun z : List Value => Result.ok (Next.value (.agg z.toArray)) w') (r0 _ hSw))
    (try simp only [Act.put]); (try simp only [List.setIfInBounds_toArray]); (try simp only [List.set_cons_succ]); (try simp only [List.set_cons_zero])
    refine wpAnyH_take (i := 1) (oi := { dst := some 49, op := Go.Op.move (Go.Operand.tmp 1), type := 24, pos := _, after := #[], guard := none }) (v := .slice a1 a.length cap1) rfl (by kernel_rfl) (by kernel_rfl) (by kernel_rfl) (fun _ _ _ h => h) (Or.inl ⟨by rfl, fun w' hSw => ?_⟩) (by assumption) ?_
    · (try dsimp only at hSw); go_simp
    (try simp only [Act.put]); (try simp only [List.setIfInBounds_toArray]); (try simp only [List.set_cons_succ]); (try simp only [List.set_cons_zero])
    refine wpAnyH_take (i := 3) (oi := { dst := some 51, op := Go.Op.move (Go.Operand.tmp 2), type := 24, pos := _, after := #[], guard := none }) (v := .slice a2 b.length cap2) rfl (by kernel_rfl) (by kernel_rfl) (by kernel_rfl) (fun _ _ _ h => h) (Or.inl ⟨by rfl, fun w' hSw => ?_⟩) (by assumption) ?_
    · (try dsimp only at hSw); go_simp
    (try simp only [Act.put]); (try simp only [List.setIfInBounds_toArray]); (try simp only [List.set_cons_succ]); (try simp only [List.set_cons_zero])
    refine wpAnyH_ready (rs := [2, 10]) (by kernel_rfl) (by simp) ?_
    refine AllReadyH.cons (o := { dst := some 50, op := Go.Op.call { callee := Go.Callee.value (Go.Operand.func 8), args := #[Go.Operand.tmp 49], argTypes := #[24] }, type := 24, pos := _, after := #[{ on := 1, ground := Go.Ground.data }], guard := none }) rfl (fun K hK => ?_) ?_
    · skip
      go_simp
      refine (HCL.out w1.drew hE).mono ?_
      rintro e v1 ⟨cad, ccp, cn, rfl, hcn, hov1, hbv1⟩
      have e1 : Below w1.heap.size w1.drew v1 := Below.trans hE (Below.mono hbv1 (by have h := Below.size hE; exact h))
      have oc_v1 := Hid.mk' hov1
      have zc := hbv1.size
      go_wp2_with fail
      refine hK.out _ _ e1 (fun hHeld => ?_)
      clear hK K
      (try simp only [Act.put]); (try simp only [List.setIfInBounds_toArray]); (try simp only [List.set_cons_succ]); (try simp only [List.set_cons_zero])
      refine wpAnyH_ready (rs := [4, 10]) (by kernel_rfl) (by simp) ?_
      refine AllReadyH.cons (o := { dst := some 52, op := Go.Op.call { callee := Go.Callee.builtin Go.Builtin.append, args := #[Go.Operand.tmp 50, Go.Operand.tmp 51], argTypes := #[24, 24] }, type := 24, pos := _, after := #[{ on := 2, ground := Go.Ground.data }, { on := 3, ground := Go.Ground.data }, { on := 2, ground := Go.Ground.chain }], guard := none }) rfl (fun K hK => ?_) ?_
      · skip
        refine step_append_ints rfl _ _ rfl w1.drew.heap.size cad cn ccp a rfl oc_v1.out a2 b.length cap2 b rfl (HRB.out v1 e1) hlen (by first | exact Nat.le_refl _ | (simp; omega) | (have hq := zc; simp at hq ⊢; omega)) ?_
        intro al4 n4 cl4 v2 hn4 ho4 hB4 hK4
        have e2 : Below w1.heap.size w1.drew v2 := hB4 w1.heap.size w1.drew (by first | exact Nat.le_refl _ | (have h := Below.size hE; exact h)) e1
        have oa_v2 := Hid.mk' ho4
        clear hB4 hK4 ho4
        refine hK.out _ _ e2 (fun hHeld => ?_)
        clear hK K
        (try simp only [Act.put]); (try simp only [List.setIfInBounds_toArray]); (try simp only [List.set_cons_succ]); (try simp only [List.set_cons_zero])
        refine wpAnyH_ready (rs := [5, 10]) (by kernel_rfl) (by simp) ?_
        refine AllReadyH.cons (o := { dst := some 53, op := Go.Op.call { callee := Go.Callee.value (Go.Operand.func 6), args := #[Go.Operand.tmp 48, Go.Operand.tmp 52], argTypes := #[23, 24] }, type := 27, pos := _, after := #[{ on := 0, ground := Go.Ground.data }, { on := 4, ground := Go.Ground.data }, { on := 4, ground := Go.Ground.chain }], guard := none }) rfl (fun K hK => ?_) ?_
        · skip
          go_simp
          refine (HF.out v2 (.slice al4 n4 cl4) oa_v2.out).mono ?_
          rintro e v3 ⟨vl, rfl, hrv3, hbv3⟩
          have e3 : Below w1.heap.size w1.drew v3 := Below.trans e2 (Below.mono hbv3 (by have h := Below.size e2; exact h))
          have rt_v3 := Hid.mk' hrv3
          go_wp2_with fail
          refine hK.out _ _ e3 (fun hHeld => ?_)
          clear hK K
          (try simp only [Act.put]); (try simp only [List.setIfInBounds_toArray]); (try simp only [List.set_cons_succ]); (try simp only [List.set_cons_zero])
          refine wpAnyH_take (i := 6) (oi := { dst := some 47, op := Go.Op.move (Go.Operand.tmp 53), type := 27, pos := _, after := #[{ on := 5, ground := Go.Ground.data }], guard := none }) (v := .tuple #[.agg #[.int .i64 x0, .int .i64 x1, .string y2, .string y3, .string y4], vl, .int .i64 0]) rfl (by kernel_rfl) (by kernel_rfl) (by kernel_rfl) (fun _ _ _ h => h) (Or.inl ⟨by rfl, fun w' hSw => ?_⟩) (by assumption) ?_
          · (try dsimp only at hSw); go_simp
          (try simp only [Act.put]); (try simp only [List.setIfInBounds_toArray]); (try simp only [List.set_cons_succ]); (try simp only [List.set_cons_zero])
          refine wpAnyH_take (i := 7) (oi := { dst := some 54, op := Go.Op.extract (Go.Operand.tmp 47) 0, type := 23, pos := _, after := #[{ on := 6, ground := Go.Ground.data }], guard := none }) (v := .agg #[.int .i64 x0, .int .i64 x1, .string y2, .string y3, .string y4]) rfl (by kernel_rfl) (by kernel_rfl) (by kernel_rfl) (fun _ _ _ h => h) (Or.inl ⟨by rfl, fun w' hSw => ?_⟩) (by assumption) ?_
          · (try dsimp only at hSw); go_simp
          (try simp only [Act.put]); (try simp only [List.setIfInBounds_toArray]); (try simp only [List.set_cons_succ]); (try simp only [List.set_cons_zero])
          refine wpAnyH_take (i := 8) (oi := { dst := some 55, op := Go.Op.extract (Go.Operand.tmp 47) 1, type := 25, pos := _, after := #[{ on := 6, ground := Go.Ground.data }, { on := 11, ground := Go.Ground.gcOnly Go.Departure.lateStores }], guard := none }) (v := vl) rfl (by kernel_rfl) (by kernel_rfl) (by kernel_rfl) (fun _ _ _ h => h) (Or.inl ⟨by rfl, fun w' hSw => ?_⟩) (by assumption) ?_
          · (try dsimp only at hSw); go_simp
          (try simp only [Act.put]); (try simp only [List.setIfInBounds_toArray]); (try simp only [List.set_cons_succ]); (try simp only [List.set_cons_zero])
          refine wpAnyH_take (i := 9) (oi := { dst := some 56, op := Go.Op.extract (Go.Operand.tmp 47) 2, type := 26, pos := _, after := #[{ on := 6, ground := Go.Ground.data }, { on := 12, ground := Go.Ground.gcOnly Go.Departure.lateStores }], guard := none }) (v := .int .i64 0) rfl (by kernel_rfl) (by kernel_rfl) (by kernel_rfl) (fun _ _ _ h => h) (Or.inl ⟨by rfl, fun w' hSw => ?_⟩) (by assumption) ?_
          · (try dsimp only at hSw); go_simp
          (try simp only [Act.put]); (try simp only [List.setIfInBounds_toArray]); (try simp only [List.set_cons_succ]); (try simp only [List.set_cons_zero])
          refine wpAnyH_ready (rs := [10]) (by kernel_rfl) (by simp) ?_
          refine AllReadyH.cons (o := { dst := some 13, op := Go.Op.alloc 23, type := 0, pos := _, after := #[], guard := none }) rfl (fun K hK => ?_) ?_
          · skip
            go_simp
            have e4 : Below w1.heap.size w1.drew (v3.alloc (.cells #[.int .i64 0, .int .i64 0, .string ⟨#[]⟩, .string ⟨#[]⟩, .string ⟨#[]⟩] 23)) := Below.alloc e3 (by have h := Below.size e3; exact h) _
            have rt_1 := Hid.mk' (rt_v3.out.below (Below.alloc (Below.refl v3.heap.size v3) (Nat.le_refl _) (.cells #[.int .i64 0, .int .i64 0, .string ⟨#[]⟩, .string ⟨#[]⟩, .string ⟨#[]⟩] 23)))
            have bx_2 : Hid (Box (v3.alloc (.cells #[.int .i64 0, .int .i64 0, .string ⟨#[]⟩, .string ⟨#[]⟩, .string ⟨#[]⟩] 23)) v3.heap.size 23 [.int .i64 0, .int .i64 0, .string ⟨#[]⟩, .string ⟨#[]⟩, .string ⟨#[]⟩]) := Hid.mk' (Box.new v3 _ _)
            have zb : w1.heap.size ≤ v3.heap.size := (by have h := Below.size e3; exact h)
            refine hK.out _ _ e4 (fun hHeld => ?_)
            clear hK K
            (try simp only [Act.put]); (try simp only [List.setIfInBounds_toArray]); (try simp only [List.set_cons_succ]); (try simp only [List.set_cons_zero])
            refine wpAnyH_ready (rs := [11]) (by kernel_rfl) (by simp) ?_
            refine AllReadyH.cons (o := { dst := none, op := Go.Op.store 23 (Go.Operand.tmp 13) (Go.Operand.tmp 54), type := 0, pos := _, after := #[{ on := 10, ground := Go.Ground.data }, { on := 7, ground := Go.Ground.data }, { on := 5, ground := Go.Ground.chain }, { on := 0, ground := Go.Ground.phase }, { on := 1, ground := Go.Ground.phase }, { on := 2, ground := Go.Ground.phase }, { on := 3, ground := Go.Ground.phase }, { on := 4, ground := Go.Ground.phase }, { on := 5, ground := Go.Ground.phase }, { on := 6, ground := Go.Ground.phase }, { on := 7, ground := Go.Ground.phase }, { on := 8, ground := Go.Ground.textOnly Go.Departure.lateStores }, { on := 9, ground := Go.Ground.textOnly Go.Departure.lateStores }, { on := 10, ground := Go.Ground.phase }], guard := none }) rfl (fun K hK => ?_) ?_
            · skip
              have hS5 : Lies (v3.alloc (.cells #[.int .i64 0, .int .i64 0, .string ⟨#[]⟩, .string ⟨#[]⟩, .string ⟨#[]⟩] 23)) (.pointer (some ⟨v3.heap.size, 0, none⟩)) 5 := bx_2.out.lies0 rfl
              have sP := bx_2.out.putAt [.int .i64 x0, .int .i64 x1, .string y2, .string y3, .string y4] rfl
              go_simp
              have e5 : Below w1.heap.size w1.drew (Q.putAt (v3.alloc (.cells #[.int .i64 0, .int .i64 0, .string ⟨#[]⟩, .string ⟨#[]⟩, .string ⟨#[]⟩] 23)) (.pointer (some ⟨v3.heap.size, 0, none⟩)) (.agg #[.int .i64 x0, .int .i64 x1, .string y2, .string y3, .string y4])) := sP.below _ _ zb e4
              have bxf := Hid.mk' sP.box
              have rtf := Hid.mk' (rt_1.out.keep (KeepP.put bx_2.out sP.other))
              clear hS5 sP
              refine hK.out _ _ e5 (fun hHeld => ?_)
              clear hK K
              (try simp only [Act.put]); (try simp only [List.setIfInBounds_toArray]); (try simp only [List.set_cons_succ]); (try simp only [List.set_cons_zero])
              refine wpAnyH_take (i := 12) (oi := { dst := some 14, op := Go.Op.assign (Go.Operand.tmp 55), type := 25, pos := _, after := #[{ on := 8, ground := Go.Ground.data }, { on := 11, ground := Go.Ground.chain }, { on := 0, ground := Go.Ground.phase }, { on := 1, ground := Go.Ground.phase }, { on := 2, ground := Go.Ground.phase }, { on := 3, ground := Go.Ground.phase }, { on := 4, ground := Go.Ground.phase }, { on := 5, ground := Go.Ground.phase }, { on := 6, ground := Go.Ground.phase }, { on := 7, ground := Go.Ground.phase }, { on := 8, ground := Go.Ground.phase }, { on := 9, ground := Go.Ground.textOnly Go.Departure.lateStores }, { on := 10, ground := Go.Ground.phase }, { on := 11, ground := Go.Ground.phase }], guard := none }) (v := vl) rfl (by kernel_rfl) (by kernel_rfl) (by kernel_rfl) (fun _ _ _ h => h) (Or.inl ⟨by rfl, fun w' hSw => ?_⟩) (by assumption) ?_
              · (try dsimp only at hSw); go_simp
              (try simp only [Act.put]); (try simp only [List.setIfInBounds_toArray]); (try simp only [List.set_cons_succ]); (try simp only [List.set_cons_zero])
              refine wpAnyH_take (i := 13) (oi := { dst := some 15, op := Go.Op.assign (Go.Operand.tmp 56), type := 26, pos := _, after := #[{ on := 9, ground := Go.Ground.data }, { on := 12, ground := Go.Ground.chain }, { on := 0, ground := Go.Ground.phase }, { on := 1, ground := Go.Ground.phase }, { on := 2, ground := Go.Ground.phase }, { on := 3, ground := Go.Ground.phase }, { on := 4, ground := Go.Ground.phase }, { on := 5, ground := Go.Ground.phase }, { on := 6, ground := Go.Ground.phase }, { on := 7, ground := Go.Ground.phase }, { on := 8, ground := Go.Ground.phase }, { on := 9, ground := Go.Ground.phase }, { on := 10, ground := Go.Ground.phase }, { on := 11, ground := Go.Ground.phase }, { on := 12, ground := Go.Ground.phase }], guard := none }) (v := .int .i64 0) rfl (by kernel_rfl) (by kernel_rfl) (by kernel_rfl) (fun _ _ _ h => h) (Or.inl ⟨by rfl, fun w' hSw => ?_⟩) (by assumption) ?_
              · (try dsimp only at hSw); go_simp
              (try simp only [Act.put]); (try simp only [List.setIfInBounds_toArray]); (try simp only [List.set_cons_succ]); (try simp only [List.set_cons_zero])
              refine wpAnyH_done (by kernel_rfl) ?_ _
              refine NoPanic.normal ?_
              have HFE := Hid.mk' e5
              generalize (Q.putAt (v3.alloc (.cells #[.int .i64 0, .int .i64 0, .string ⟨#[]⟩, .string ⟨#[]⟩, .string ⟨#[]⟩] 23)) (.pointer (some ⟨v3.heap.size, 0, none⟩)) (.agg #[.int .i64 x0, .int .i64 x1, .string y2, .string y3, .string y4])) = wE at *
              clear e5
              go_wp2_with fail
              go_meet
              exact ⟨v3.heap.size, vl, rfl, rfl, rfl, bxf.out, rtf.out, HFE.out⟩
            exact AllReadyH.nil
          exact AllReadyH.nil
        refine AllReadyH.cons (o := { dst := some 13, op := Go.Op.alloc 23, type := 0, pos := _, after := #[], guard := none }) rfl (fun K hK => ?_) ?_
        · skip
          go_simp
          have e6 : Below w1.heap.size w1.drew (v2.alloc (.cells #[.int .i64 0, .int .i64 0, .string ⟨#[]⟩, .string ⟨#[]⟩, .string ⟨#[]⟩] 23)) := Below.alloc e2 (by have h := Below.size e2; exact h) _
          have ra_3 := Hid.mk' (oa_v2.out.below (Below.alloc (Below.refl v2.heap.size v2) (Nat.le_refl _) (.cells #[.int .i64 0, .int .i64 0, .string ⟨#[]⟩, .string ⟨#[]⟩, .string ⟨#[]⟩] 23)))
          have bx_4 : Hid (Box (v2.alloc (.cells #[.int .i64 0, .int .i64 0, .string ⟨#[]⟩, .string ⟨#[]⟩, .string ⟨#[]⟩] 23)) v2.heap.size 23 [.int .i64 0, .int .i64 0, .string ⟨#[]⟩, .string ⟨#[]⟩, .string ⟨#[]⟩]) := Hid.mk' (Box.new v2 _ _)
          have zb : w1.heap.size ≤ v2.heap.size := (by have h := Below.size e2; exact h)
          refine hK.out _ _ e6 (fun hHeld => ?_)
          clear hK K
          (try simp only [Act.put]); (try simp only [List.setIfInBounds_toArray]); (try simp only [List.set_cons_succ]); (try simp only [List.set_cons_zero])
          refine wpAnyH_ready (rs := [5]) (by kernel_rfl) (by simp) ?_
          refine AllReadyH.cons (o := { dst := some 53, op := Go.Op.call { callee := Go.Callee.value (Go.Operand.func 6), args := #[Go.Operand.tmp 48, Go.Operand.tmp 52], argTypes := #[23, 24] }, type := 27, pos := _, after := #[{ on := 0, ground := Go.Ground.data }, { on := 4, ground := Go.Ground.data }, { on := 4, ground := Go.Ground.chain }], guard := none }) rfl (fun K hK => ?_) ?_
          · skip
            go_simp
            refine (HF.out (v2.alloc (.cells #[.int .i64 0, .int .i64 0, .string ⟨#[]⟩, .string ⟨#[]⟩, .string ⟨#[]⟩] 23)) (.slice al4 n4 cl4) ra_3.out).mono ?_
            rintro e v7 ⟨vl, rfl, hrv7, hbv7⟩
            have e7 : Below w1.heap.size w1.drew v7 := Below.trans e6 (Below.mono hbv7 (by have h := Below.size e6; exact h))
            have bx_5 := Hid.mk' (bx_4.out.later hbv7)
            have rt_v7 := Hid.mk' hrv7
            go_wp2_with fail
            refine hK.out _ _ e7 (fun hHeld => ?_)
            clear hK K
            (try simp only [Act.put]); (try simp only [List.setIfInBounds_toArray]); (try simp only [List.set_cons_succ]); (try simp only [List.set_cons_zero])
            refine wpAnyH_take (i := 6) (oi := { dst := some 47, op := Go.Op.move (Go.Operand.tmp 53), type := 27, pos := _, after := #[{ on := 5, ground := Go.Ground.data }], guard := none }) (v := .tuple #[.agg #[.int .i64 x0, .int .i64 x1, .string y2, .string y3, .string y4], vl, .int .i64 0]) rfl (by kernel_rfl) (by kernel_rfl) (by kernel_rfl) (fun _ _ _ h => h) (Or.inl ⟨by rfl, fun w' hSw => ?_⟩) (by assumption) ?_
            · (try dsimp only at hSw); go_simp
            (try simp only [Act.put]); (try simp only [List.setIfInBounds_toArray]); (try simp only [List.set_cons_succ]); (try simp only [List.set_cons_zero])
            refine wpAnyH_take (i := 7) (oi := { dst := some 54, op := Go.Op.extract (Go.Operand.tmp 47) 0, type := 23, pos := _, after := #[{ on := 6, ground := Go.Ground.data }], guard := none }) (v := .agg #[.int .i64 x0, .int .i64 x1, .string y2, .string y3, .string y4]) rfl (by kernel_rfl) (by kernel_rfl) (by kernel_rfl) (fun _ _ _ h => h) (Or.inl ⟨by rfl, fun w' hSw => ?_⟩) (by assumption) ?_
            · (try dsimp only at hSw); go_simp
            (try simp only [Act.put]); (try simp only [List.setIfInBounds_toArray]); (try simp only [List.set_cons_succ]); (try simp only [List.set_cons_zero])
            refine wpAnyH_take (i := 8) (oi := { dst := some 55, op := Go.Op.extract (Go.Operand.tmp 47) 1, type := 25, pos := _, after := #[{ on := 6, ground := Go.Ground.data }, { on := 11, ground := Go.Ground.gcOnly Go.Departure.lateStores }], guard := none }) (v := vl) rfl (by kernel_rfl) (by kernel_rfl) (by kernel_rfl) (fun _ _ _ h => h) (Or.inl ⟨by rfl, fun w' hSw => ?_⟩) (by assumption) ?_
            · (try dsimp only at hSw); go_simp
            (try simp only [Act.put]); (try simp only [List.setIfInBounds_toArray]); (try simp only [List.set_cons_succ]); (try simp only [List.set_cons_zero])
            refine wpAnyH_take (i := 9) (oi := { dst := some 56, op := Go.Op.extract (Go.Operand.tmp 47) 2, type := 26, pos := _, after := #[{ on := 6, ground := Go.Ground.data }, { on := 12, ground := Go.Ground.gcOnly Go.Departure.lateStores }], guard := none }) (v := .int .i64 0) rfl (by kernel_rfl) (by kernel_rfl) (by kernel_rfl) (fun _ _ _ h => h) (Or.inl ⟨by rfl, fun w' hSw => ?_⟩) (by assumption) ?_
            · (try dsimp only at hSw); go_simp
            (try simp only [Act.put]); (try simp only [List.setIfInBounds_toArray]); (try simp only [List.set_cons_succ]); (try simp only [List.set_cons_zero])
            refine wpAnyH_ready (rs := [11]) (by kernel_rfl) (by simp) ?_
            refine AllReadyH.cons (o := { dst := none, op := Go.Op.store 23 (Go.Operand.tmp 13) (Go.Operand.tmp 54), type := 0, pos := _, after := #[{ on := 10, ground := Go.Ground.data }, { on := 7, ground := Go.Ground.data }, { on := 5, ground := Go.Ground.chain }, { on := 0, ground := Go.Ground.phase }, { on := 1, ground := Go.Ground.phase }, { on := 2, ground := Go.Ground.phase }, { on := 3, ground := Go.Ground.phase }, { on := 4, ground := Go.Ground.phase }, { on := 5, ground := Go.Ground.phase }, { on := 6, ground := Go.Ground.phase }, { on := 7, ground := Go.Ground.phase }, { on := 8, ground := Go.Ground.textOnly Go.Departure.lateStores }, { on := 9, ground := Go.Ground.textOnly Go.Departure.lateStores }, { on := 10, ground := Go.Ground.phase }], guard := none }) rfl (fun K hK => ?_) ?_
            · skip
              have hS5 : Lies v7 (.pointer (some ⟨v2.heap.size, 0, none⟩)) 5 := bx_5.out.lies0 rfl
              have sP := bx_5.out.putAt [.int .i64 x0, .int .i64 x1, .string y2, .string y3, .string y4] rfl
              go_simp
              have e8 : Below w1.heap.size w1.drew (Q.putAt v7 (.pointer (some ⟨v2.heap.size, 0, none⟩)) (.agg #[.int .i64 x0, .int .i64 x1, .string y2, .string y3, .string y4])) := sP.below _ _ zb e7
              have bxf := Hid.mk' sP.box
              have rtf := Hid.mk' (rt_v7.out.keep (KeepP.put bx_5.out sP.other))
              clear hS5 sP
              refine hK.out _ _ e8 (fun hHeld => ?_)
              clear hK K
              (try simp only [Act.put]); (try simp only [List.setIfInBounds_toArray]); (try simp only [List.set_cons_succ]); (try simp only [List.set_cons_zero])
              refine wpAnyH_take (i := 12) (oi := { dst := some 14, op := Go.Op.assign (Go.Operand.tmp 55), type := 25, pos := _, after := #[{ on := 8, ground := Go.Ground.data }, { on := 11, ground := Go.Ground.chain }, { on := 0, ground := Go.Ground.phase }, { on := 1, ground := Go.Ground.phase }, { on := 2, ground := Go.Ground.phase }, { on := 3, ground := Go.Ground.phase }, { on := 4, ground := Go.Ground.phase }, { on := 5, ground := Go.Ground.phase }, { on := 6, ground := Go.Ground.phase }, { on := 7, ground := Go.Ground.phase }, { on := 8, ground := Go.Ground.phase }, { on := 9, ground := Go.Ground.textOnly Go.Departure.lateStores }, { on := 10, ground := Go.Ground.phase }, { on := 11, ground := Go.Ground.phase }], guard := none }) (v := vl) rfl (by kernel_rfl) (by kernel_rfl) (by kernel_rfl) (fun _ _ _ h => h) (Or.inl ⟨by rfl, fun w' hSw => ?_⟩) (by assumption) ?_
              · (try dsimp only at hSw); go_simp
              (try simp only [Act.put]); (try simp only [List.setIfInBounds_toArray]); (try simp only [List.set_cons_succ]); (try simp only [List.set_cons_zero])
              refine wpAnyH_take (i := 13) (oi := { dst := some 15, op := Go.Op.assign (Go.Operand.tmp 56), type := 26, pos := _, after := #[{ on := 9, ground := Go.Ground.data }, { on := 12, ground := Go.Ground.chain }, { on := 0, ground := Go.Ground.phase }, { on := 1, ground := Go.Ground.phase }, { on := 2, ground := Go.Ground.phase }, { on := 3, ground := Go.Ground.phase }, { on := 4, ground := Go.Ground.phase }, { on := 5, ground := Go.Ground.phase }, { on := 6, ground := Go.Ground.phase }, { on := 7, ground := Go.Ground.phase }, { on := 8, ground := Go.Ground.phase }, { on := 9, ground := Go.Ground.phase }, { on := 10, ground := Go.Ground.phase }, { on := 11, ground := Go.Ground.phase }, { on := 12, ground := Go.Ground.phase }], guard := none }) (v := .int .i64 0) rfl (by kernel_rfl) (by kernel_rfl) (by kernel_rfl) (fun _ _ _ h => h) (Or.inl ⟨by rfl, fun w' hSw => ?_⟩) (by assumption) ?_
              · (try dsimp only at hSw); go_simp
              (try simp only [Act.put]); (try simp only [List.setIfInBounds_toArray]); (try simp only [List.set_cons_succ]); (try simp only [List.set_cons_zero])
              refine wpAnyH_done (by kernel_rfl) ?_ _
              refine NoPanic.normal ?_
              have HFE := Hid.mk' e8
              generalize (Q.putAt v7 (.pointer (some ⟨v2.heap.size, 0, none⟩)) (.agg #[.int .i64 x0, .int .i64 x1, .string y2, .string y3, .string y4])) = wE at *
              clear e8
              go_wp2_with fail
              go_meet
              exact ⟨v2.heap.size, vl, rfl, rfl, rfl, bxf.out, rtf.out, HFE.out⟩
            exact AllReadyH.nil
          exact AllReadyH.nil
        exact AllReadyH.nil
      refine AllReadyH.cons (o := { dst := some 13, op := Go.Op.alloc 23, type := 0, pos := _, after := #[], guard := none }) rfl (fun K hK => ?_) ?_
      · skip
        go_simp
        have e9 : Below w1.heap.size w1.drew (v1.alloc (.cells #[.int .i64 0, .int .i64 0, .string ⟨#[]⟩, .string ⟨#[]⟩, .string ⟨#[]⟩] 23)) := Below.alloc e1 (by have h := Below.size e1; exact h) _
        have oc_6 := Hid.mk' (oc_v1.out.below (Below.alloc (Below.refl v1.heap.size v1) (Nat.le_refl _) (.cells #[.int .i64 0, .int .i64 0, .string ⟨#[]⟩, .string ⟨#[]⟩, .string ⟨#[]⟩] 23)))
        have bx_7 : Hid (Box (v1.alloc (.cells #[.int .i64 0, .int .i64 0, .string ⟨#[]⟩, .string ⟨#[]⟩, .string ⟨#[]⟩] 23)) v1.heap.size 23 [.int .i64 0, .int .i64 0, .string ⟨#[]⟩, .string ⟨#[]⟩, .string ⟨#[]⟩]) := Hid.mk' (Box.new v1 _ _)
        have zb : w1.heap.size ≤ v1.heap.size := (by have h := Below.size e1; exact h)
        refine hK.out _ _ e9 (fun hHeld => ?_)
        clear hK K
        (try simp only [Act.put]); (try simp only [List.setIfInBounds_toArray]); (try simp only [List.set_cons_succ]); (try simp only [List.set_cons_zero])
        refine wpAnyH_ready (rs := [4]) (by kernel_rfl) (by simp) ?_
        refine AllReadyH.cons (o := { dst := some 52, op := Go.Op.call { callee := Go.Callee.builtin Go.Builtin.append, args := #[Go.Operand.tmp 50, Go.Operand.tmp 51], argTypes := #[24, 24] }, type := 24, pos := _, after := #[{ on := 2, ground := Go.Ground.data }, { on := 3, ground := Go.Ground.data }, { on := 2, ground := Go.Ground.chain }], guard := none }) rfl (fun K hK => ?_) ?_
        · skip
          refine step_append_ints rfl _ _ rfl w1.drew.heap.size cad cn ccp a rfl oc_6.out a2 b.length cap2 b rfl (HRB.out (v1.alloc (.cells #[.int .i64 0, .int .i64 0, .string ⟨#[]⟩, .string ⟨#[]⟩, .string ⟨#[]⟩] 23)) e9) hlen (by first | exact Nat.le_refl _ | (simp; omega) | (have hq := zc; simp at hq ⊢; omega)) ?_
          intro al4 n4 cl4 v10 hn4 ho4 hB4 hK4
          have e10 : Below w1.heap.size w1.drew v10 := hB4 w1.heap.size w1.drew (by first | exact Nat.le_refl _ | (have h := Below.size hE; exact h)) e9
          have oa_v10 := Hid.mk' ho4
          have bx_8 := Hid.mk' (show Box v10 v1.heap.size 23 [.int .i64 0, .int .i64 0, .string ⟨#[]⟩, .string ⟨#[]⟩, .string ⟨#[]⟩] from hK4 _ _ _ _ (by decide) bx_7.out)
          clear hB4 hK4 ho4
          refine hK.out _ _ e10 (fun hHeld => ?_)
          clear hK K
          (try simp only [Act.put]); (try simp only [List.setIfInBounds_toArray]); (try simp only [List.set_cons_succ]); (try simp only [List.set_cons_zero])
          refine wpAnyH_ready (rs := [5]) (by kernel_rfl) (by simp) ?_
          refine AllReadyH.cons (o := { dst := some 53, op := Go.Op.call { callee := Go.Callee.value (Go.Operand.func 6), args := #[Go.Operand.tmp 48, Go.Operand.tmp 52], argTypes := #[23, 24] }, type := 27, pos := _, after := #[{ on := 0, ground := Go.Ground.data }, { on := 4, ground := Go.Ground.data }, { on := 4, ground := Go.Ground.chain }], guard := none }) rfl (fun K hK => ?_) ?_
          · skip
            go_simp
            refine (HF.out v10 (.slice al4 n4 cl4) oa_v10.out).mono ?_
            rintro e v11 ⟨vl, rfl, hrv11, hbv11⟩
            have e11 : Below w1.heap.size w1.drew v11 := Below.trans e10 (Below.mono hbv11 (by have h := Below.size e10; exact h))
            have bx_9 := Hid.mk' (bx_8.out.later hbv11)
            have rt_v11 := Hid.mk' hrv11
            go_wp2_with fail
            refine hK.out _ _ e11 (fun hHeld => ?_)
            clear hK K
            (try simp only [Act.put]); (try simp only [List.setIfInBounds_toArray]); (try simp only [List.set_cons_succ]); (try simp only [List.set_cons_zero])
            refine wpAnyH_take (i := 6) (oi := { dst := some 47, op := Go.Op.move (Go.Operand.tmp 53), type := 27, pos := _, after := #[{ on := 5, ground := Go.Ground.data }], guard := none }) (v := .tuple #[.agg #[.int .i64 x0, .int .i64 x1, .string y2, .string y3, .string y4], vl, .int .i64 0]) rfl (by kernel_rfl) (by kernel_rfl) (by kernel_rfl) (fun _ _ _ h => h) (Or.inl ⟨by rfl, fun w' hSw => ?_⟩) (by assumption) ?_
            · (try dsimp only at hSw); go_simp
            (try simp only [Act.put]); (try simp only [List.setIfInBounds_toArray]); (try simp only [List.set_cons_succ]); (try simp only [List.set_cons_zero])
            refine wpAnyH_take (i := 7) (oi := { dst := some 54, op := Go.Op.extract (Go.Operand.tmp 47) 0, type := 23, pos := _, after := #[{ on := 6, ground := Go.Ground.data }], guard := none }) (v := .agg #[.int .i64 x0, .int .i64 x1, .string y2, .string y3, .string y4]) rfl (by kernel_rfl) (by kernel_rfl) (by kernel_rfl) (fun _ _ _ h => h) (Or.inl ⟨by rfl, fun w' hSw => ?_⟩) (by assumption) ?_
            · (try dsimp only at hSw); go_simp
            (try simp only [Act.put]); (try simp only [List.setIfInBounds_toArray]); (try simp only [List.set_cons_succ]); (try simp only [List.set_cons_zero])
            refine wpAnyH_take (i := 8) (oi := { dst := some 55, op := Go.Op.extract (Go.Operand.tmp 47) 1, type := 25, pos := _, after := #[{ on := 6, ground := Go.Ground.data }, { on := 11, ground := Go.Ground.gcOnly Go.Departure.lateStores }], guard := none }) (v := vl) rfl (by kernel_rfl) (by kernel_rfl) (by kernel_rfl) (fun _ _ _ h => h) (Or.inl ⟨by rfl, fun w' hSw => ?_⟩) (by assumption) ?_
            · (try dsimp only at hSw); go_simp
            (try simp only [Act.put]); (try simp only [List.setIfInBounds_toArray]); (try simp only [List.set_cons_succ]); (try simp only [List.set_cons_zero])
            refine wpAnyH_take (i := 9) (oi := { dst := some 56, op := Go.Op.extract (Go.Operand.tmp 47) 2, type := 26, pos := _, after := #[{ on := 6, ground := Go.Ground.data }, { on := 12, ground := Go.Ground.gcOnly Go.Departure.lateStores }], guard := none }) (v := .int .i64 0) rfl (by kernel_rfl) (by kernel_rfl) (by kernel_rfl) (fun _ _ _ h => h) (Or.inl ⟨by rfl, fun w' hSw => ?_⟩) (by assumption) ?_
            · (try dsimp only at hSw); go_simp
            (try simp only [Act.put]); (try simp only [List.setIfInBounds_toArray]); (try simp only [List.set_cons_succ]); (try simp only [List.set_cons_zero])
            refine wpAnyH_ready (rs := [11]) (by kernel_rfl) (by simp) ?_
            refine AllReadyH.cons (o := { dst := none, op := Go.Op.store 23 (Go.Operand.tmp 13) (Go.Operand.tmp 54), type := 0, pos := _, after := #[{ on := 10, ground := Go.Ground.data }, { on := 7, ground := Go.Ground.data }, { on := 5, ground := Go.Ground.chain }, { on := 0, ground := Go.Ground.phase }, { on := 1, ground := Go.Ground.phase }, { on := 2, ground := Go.Ground.phase }, { on := 3, ground := Go.Ground.phase }, { on := 4, ground := Go.Ground.phase }, { on := 5, ground := Go.Ground.phase }, { on := 6, ground := Go.Ground.phase }, { on := 7, ground := Go.Ground.phase }, { on := 8, ground := Go.Ground.textOnly Go.Departure.lateStores }, { on := 9, ground := Go.Ground.textOnly Go.Departure.lateStores }, { on := 10, ground := Go.Ground.phase }], guard := none }) rfl (fun K hK => ?_) ?_
            · skip
              have hS5 : Lies v11 (.pointer (some ⟨v1.heap.size, 0, none⟩)) 5 := bx_9.out.lies0 rfl
              have sP := bx_9.out.putAt [.int .i64 x0, .int .i64 x1, .string y2, .string y3, .string y4] rfl
              go_simp
              have e12 : Below w1.heap.size w1.drew (Q.putAt v11 (.pointer (some ⟨v1.heap.size, 0, none⟩)) (.agg #[.int .i64 x0, .int .i64 x1, .string y2, .string y3, .string y4])) := sP.below _ _ zb e11
              have bxf := Hid.mk' sP.box
              have rtf := Hid.mk' (rt_v11.out.keep (KeepP.put bx_9.out sP.other))
              clear hS5 sP
              refine hK.out _ _ e12 (fun hHeld => ?_)
              clear hK K
              (try simp only [Act.put]); (try simp only [List.setIfInBounds_toArray]); (try simp only [List.set_cons_succ]); (try simp only [List.set_cons_zero])
              refine wpAnyH_take (i := 12) (oi := { dst := some 14, op := Go.Op.assign (Go.Operand.tmp 55), type := 25, pos := _, after := #[{ on := 8, ground := Go.Ground.data }, { on := 11, ground := Go.Ground.chain }, { on := 0, ground := Go.Ground.phase }, { on := 1, ground := Go.Ground.phase }, { on := 2, ground := Go.Ground.phase }, { on := 3, ground := Go.Ground.phase }, { on := 4, ground := Go.Ground.phase }, { on := 5, ground := Go.Ground.phase }, { on := 6, ground := Go.Ground.phase }, { on := 7, ground := Go.Ground.phase }, { on := 8, ground := Go.Ground.phase }, { on := 9, ground := Go.Ground.textOnly Go.Departure.lateStores }, { on := 10, ground := Go.Ground.phase }, { on := 11, ground := Go.Ground.phase }], guard := none }) (v := vl) rfl (by kernel_rfl) (by kernel_rfl) (by kernel_rfl) (fun _ _ _ h => h) (Or.inl ⟨by rfl, fun w' hSw => ?_⟩) (by assumption) ?_
              · (try dsimp only at hSw); go_simp
              (try simp only [Act.put]); (try simp only [List.setIfInBounds_toArray]); (try simp only [List.set_cons_succ]); (try simp only [List.set_cons_zero])
              refine wpAnyH_take (i := 13) (oi := { dst := some 15, op := Go.Op.assign (Go.Operand.tmp 56), type := 26, pos := _, after := #[{ on := 9, ground := Go.Ground.data }, { on := 12, ground := Go.Ground.chain }, { on := 0, ground := Go.Ground.phase }, { on := 1, ground := Go.Ground.phase }, { on := 2, ground := Go.Ground.phase }, { on := 3, ground := Go.Ground.phase }, { on := 4, ground := Go.Ground.phase }, { on := 5, ground := Go.Ground.phase }, { on := 6, ground := Go.Ground.phase }, { on := 7, ground := Go.Ground.phase }, { on := 8, ground := Go.Ground.phase }, { on := 9, ground := Go.Ground.phase }, { on := 10, ground := Go.Ground.phase }, { on := 11, ground := Go.Ground.phase }, { on := 12, ground := Go.Ground.phase }], guard := none }) (v := .int .i64 0) rfl (by kernel_rfl) (by kernel_rfl) (by kernel_rfl) (fun _ _ _ h => h) (Or.inl ⟨by rfl, fun w' hSw => ?_⟩) (by assumption) ?_
              · (try dsimp only at hSw); go_simp
              (try simp only [Act.put]); (try simp only [List.setIfInBounds_toArray]); (try simp only [List.set_cons_succ]); (try simp only [List.set_cons_zero])
              refine wpAnyH_done (by kernel_rfl) ?_ _
              refine NoPanic.normal ?_
              have HFE := Hid.mk' e12
              generalize (Q.putAt v11 (.pointer (some ⟨v1.heap.size, 0, none⟩)) (.agg #[.int .i64 x0, .int .i64 x1, .string y2, .string y3, .string y4])) = wE at *
              clear e12
              go_wp2_with fail
              go_meet
              exact ⟨v1.heap.size, vl, rfl, rfl, rfl, bxf.out, rtf.out, HFE.out⟩
            exact AllReadyH.nil
          exact AllReadyH.nil
        exact AllReadyH.nil
      exact AllReadyH.nil
    refine AllReadyH.cons (o := { dst := some 13, op := Go.Op.alloc 23, type := 0, pos := _, after := #[], guard := none }) rfl (fun K hK => ?_) ?_
    · skip
      go_simp
      have e13 : Below w1.heap.size w1.drew (w1.drew.alloc (.cells #[.int .i64 0, .int .i64 0, .string ⟨#[]⟩, .string ⟨#[]⟩, .string ⟨#[]⟩] 23)) := Below.alloc hE (by have h := Below.size hE; exact h) _
      have bx_10 : Hid (Box (w1.drew.alloc (.cells #[.int .i64 0, .int .i64 0, .string ⟨#[]⟩, .string ⟨#[]⟩, .string ⟨#[]⟩] 23)) w1.heap.size 23 [.int .i64 0, .int .i64 0, .string ⟨#[]⟩, .string ⟨#[]⟩, .string ⟨#[]⟩]) := Hid.mk' (Box.new w1.drew _ _)
      have zb : w1.heap.size ≤ w1.heap.size := Nat.le_refl _
      refine hK.out _ _ e13 (fun hHeld => ?_)
      clear hK K
      (try simp only [Act.put]); (try simp only [List.setIfInBounds_toArray]); (try simp only [List.set_cons_succ]); (try simp only [List.set_cons_zero])
      refine wpAnyH_ready (rs := [2]) (by kernel_rfl) (by simp) ?_
      refine AllReadyH.cons (o := { dst := some 50, op := Go.Op.call { callee := Go.Callee.value (Go.Operand.func 8), args := #[Go.Operand.tmp 49], argTypes := #[24] }, type := 24, pos := _, after := #[{ on := 1, ground := Go.Ground.data }], guard := none }) rfl (fun K hK => ?_) ?_
      · skip
        go_simp
        refine (HCL.out (w1.drew.alloc (.cells #[.int .i64 0, .int .i64 0, .string ⟨#[]⟩, .string ⟨#[]⟩, .string ⟨#[]⟩] 23)) e13).mono ?_
        rintro e v14 ⟨cad, ccp, cn, rfl, hcn, hov14, hbv14⟩
        have e14 : Below w1.heap.size w1.drew v14 := Below.trans e13 (Below.mono hbv14 (by have h := Below.size e13; exact h))
        have bx_11 := Hid.mk' (bx_10.out.later hbv14)
        have oc_v14 := Hid.mk' hov14
        have zc := hbv14.size
        go_wp2_with fail
        refine hK.out _ _ e14 (fun hHeld => ?_)
        clear hK K
        (try simp only [Act.put]); (try simp only [List.setIfInBounds_toArray]); (try simp only [List.set_cons_succ]); (try simp only [List.set_cons_zero])
        refine wpAnyH_ready (rs := [4]) (by kernel_rfl) (by simp) ?_
        refine AllReadyH.cons (o := { dst := some 52, op := Go.Op.call { callee := Go.Callee.builtin Go.Builtin.append, args := #[Go.Operand.tmp 50, Go.Operand.tmp 51], argTypes := #[24, 24] }, type := 24, pos := _, after := #[{ on := 2, ground := Go.Ground.data }, { on := 3, ground := Go.Ground.data }, { on := 2, ground := Go.Ground.chain }], guard := none }) rfl (fun K hK => ?_) ?_
        · skip
          refine step_append_ints rfl _ _ rfl (w1.drew.alloc (.cells #[.int .i64 0, .int .i64 0, .string ⟨#[]⟩, .string ⟨#[]⟩, .string ⟨#[]⟩] 23)).heap.size cad cn ccp a rfl oc_v14.out a2 b.length cap2 b rfl (HRB.out v14 e14) hlen (by first | exact Nat.le_refl _ | (simp; omega) | (have hq := zc; simp at hq ⊢; omega)) ?_
          intro al4 n4 cl4 v15 hn4 ho4 hB4 hK4
          have e15 : Below w1.heap.size w1.drew v15 := hB4 w1.heap.size w1.drew (by first | exact Nat.le_refl _ | (have h := Below.size e13; exact h)) e14
          have oa_v15 := Hid.mk' ho4
          have bx_12 := Hid.mk' (show Box v15 w1.heap.size 23 [.int .i64 0, .int .i64 0, .string ⟨#[]⟩, .string ⟨#[]⟩, .string ⟨#[]⟩] from hK4 _ _ _ _ (by decide) bx_11.out)
          clear hB4 hK4 ho4
          refine hK.out _ _ e15 (fun hHeld => ?_)
          clear hK K
          (try simp only [Act.put]); (try simp only [List.setIfInBounds_toArray]); (try simp only [List.set_cons_succ]); (try simp only [List.set_cons_zero])
          refine wpAnyH_ready (rs := [5]) (by kernel_rfl) (by simp) ?_
          refine AllReadyH.cons (o := { dst := some 53, op := Go.Op.call { callee := Go.Callee.value (Go.Operand.func 6), args := #[Go.Operand.tmp 48, Go.Operand.tmp 52], argTypes := #[23, 24] }, type := 27, pos := _, after := #[{ on := 0, ground := Go.Ground.data }, { on := 4, ground := Go.Ground.data }, { on := 4, ground := Go.Ground.chain }], guard := none }) rfl (fun K hK => ?_) ?_
          · skip
            go_simp
            refine (HF.out v15 (.slice al4 n4 cl4) oa_v15.out).mono ?_
            rintro e v16 ⟨vl, rfl, hrv16, hbv16⟩
            have e16 : Below w1.heap.size w1.drew v16 := Below.trans e15 (Below.mono hbv16 (by have h := Below.size e15; exact h))
            have bx_13 := Hid.mk' (bx_12.out.later hbv16)
            have rt_v16 := Hid.mk' hrv16
            go_wp2_with fail
            refine hK.out _ _ e16 (fun hHeld => ?_)
            clear hK K
            (try simp only [Act.put]); (try simp only [List.setIfInBounds_toArray]); (try simp only [List.set_cons_succ]); (try simp only [List.set_cons_zero])
            refine wpAnyH_take (i := 6) (oi := { dst := some 47, op := Go.Op.move (Go.Operand.tmp 53), type := 27, pos := _, after := #[{ on := 5, ground := Go.Ground.data }], guard := none }) (v := .tuple #[.agg #[.int .i64 x0, .int .i64 x1, .string y2, .string y3, .string y4], vl, .int .i64 0]) rfl (by kernel_rfl) (by kernel_rfl) (by kernel_rfl) (fun _ _ _ h => h) (Or.inl ⟨by rfl, fun w' hSw => ?_⟩) (by assumption) ?_
            · (try dsimp only at hSw); go_simp
            (try simp only [Act.put]); (try simp only [List.setIfInBounds_toArray]); (try simp only [List.set_cons_succ]); (try simp only [List.set_cons_zero])
            refine wpAnyH_take (i := 7) (oi := { dst := some 54, op := Go.Op.extract (Go.Operand.tmp 47) 0, type := 23, pos := _, after := #[{ on := 6, ground := Go.Ground.data }], guard := none }) (v := .agg #[.int .i64 x0, .int .i64 x1, .string y2, .string y3, .string y4]) rfl (by kernel_rfl) (by kernel_rfl) (by kernel_rfl) (fun _ _ _ h => h) (Or.inl ⟨by rfl, fun w' hSw => ?_⟩) (by assumption) ?_
            · (try dsimp only at hSw); go_simp
            (try simp only [Act.put]); (try simp only [List.setIfInBounds_toArray]); (try simp only [List.set_cons_succ]); (try simp only [List.set_cons_zero])
            refine wpAnyH_take (i := 8) (oi := { dst := some 55, op := Go.Op.extract (Go.Operand.tmp 47) 1, type := 25, pos := _, after := #[{ on := 6, ground := Go.Ground.data }, { on := 11, ground := Go.Ground.gcOnly Go.Departure.lateStores }], guard := none }) (v := vl) rfl (by kernel_rfl) (by kernel_rfl) (by kernel_rfl) (fun _ _ _ h => h) (Or.inl ⟨by rfl, fun w' hSw => ?_⟩) (by assumption) ?_
            · (try dsimp only at hSw); go_simp
            (try simp only [Act.put]); (try simp only [List.setIfInBounds_toArray]); (try simp only [List.set_cons_succ]); (try simp only [List.set_cons_zero])
            refine wpAnyH_take (i := 9) (oi := { dst := some 56, op := Go.Op.extract (Go.Operand.tmp 47) 2, type := 26, pos := _, after := #[{ on := 6, ground := Go.Ground.data }, { on := 12, ground := Go.Ground.gcOnly Go.Departure.lateStores }], guard := none }) (v := .int .i64 0) rfl (by kernel_rfl) (by kernel_rfl) (by kernel_rfl) (fun _ _ _ h => h) (Or.inl ⟨by rfl, fun w' hSw => ?_⟩) (by assumption) ?_
            · (try dsimp only at hSw); go_simp
            (try simp only [Act.put]); (try simp only [List.setIfInBounds_toArray]); (try simp only [List.set_cons_succ]); (try simp only [List.set_cons_zero])
            refine wpAnyH_ready (rs := [11]) (by kernel_rfl) (by simp) ?_
            refine AllReadyH.cons (o := { dst := none, op := Go.Op.store 23 (Go.Operand.tmp 13) (Go.Operand.tmp 54), type := 0, pos := _, after := #[{ on := 10, ground := Go.Ground.data }, { on := 7, ground := Go.Ground.data }, { on := 5, ground := Go.Ground.chain }, { on := 0, ground := Go.Ground.phase }, { on := 1, ground := Go.Ground.phase }, { on := 2, ground := Go.Ground.phase }, { on := 3, ground := Go.Ground.phase }, { on := 4, ground := Go.Ground.phase }, { on := 5, ground := Go.Ground.phase }, { on := 6, ground := Go.Ground.phase }, { on := 7, ground := Go.Ground.phase }, { on := 8, ground := Go.Ground.textOnly Go.Departure.lateStores }, { on := 9, ground := Go.Ground.textOnly Go.Departure.lateStores }, { on := 10, ground := Go.Ground.phase }], guard := none }) rfl (fun K hK => ?_) ?_
            · skip
              have hS5 : Lies v16 (.pointer (some ⟨w1.heap.size, 0, none⟩)) 5 := bx_13.out.lies0 rfl
              have sP := bx_13.out.putAt [.int .i64 x0, .int .i64 x1, .string y2, .string y3, .string y4] rfl
              go_simp
              have e17 : Below w1.heap.size w1.drew (Q.putAt v16 (.pointer (some ⟨w1.heap.size, 0, none⟩)) (.agg #[.int .i64 x0, .int .i64 x1, .string y2, .string y3, .string y4])) := sP.below _ _ zb e16
              have bxf := Hid.mk' sP.box
              have rtf := Hid.mk' (rt_v16.out.keep (KeepP.put bx_13.out sP.other))
              clear hS5 sP
              refine hK.out _ _ e17 (fun hHeld => ?_)
              clear hK K
              (try simp only [Act.put]); (try simp only [List.setIfInBounds_toArray]); (try simp only [List.set_cons_succ]); (try simp only [List.set_cons_zero])
              refine wpAnyH_take (i := 12) (oi := { dst := some 14, op := Go.Op.assign (Go.Operand.tmp 55), type := 25, pos := _, after := #[{ on := 8, ground := Go.Ground.data }, { on := 11, ground := Go.Ground.chain }, { on := 0, ground := Go.Ground.phase }, { on := 1, ground := Go.Ground.phase }, { on := 2, ground := Go.Ground.phase }, { on := 3, ground := Go.Ground.phase }, { on := 4, ground := Go.Ground.phase }, { on := 5, ground := Go.Ground.phase }, { on := 6, ground := Go.Ground.phase }, { on := 7, ground := Go.Ground.phase }, { on := 8, ground := Go.Ground.phase }, { on := 9, ground := Go.Ground.textOnly Go.Departure.lateStores }, { on := 10, ground := Go.Ground.phase }, { on := 11, ground := Go.Ground.phase }], guard := none }) (v := vl) rfl (by kernel_rfl) (by kernel_rfl) (by kernel_rfl) (fun _ _ _ h => h) (Or.inl ⟨by rfl, fun w' hSw => ?_⟩) (by assumption) ?_
              · (try dsimp only at hSw); go_simp
              (try simp only [Act.put]); (try simp only [List.setIfInBounds_toArray]); (try simp only [List.set_cons_succ]); (try simp only [List.set_cons_zero])
              refine wpAnyH_take (i := 13) (oi := { dst := some 15, op := Go.Op.assign (Go.Operand.tmp 56), type := 26, pos := _, after := #[{ on := 9, ground := Go.Ground.data }, { on := 12, ground := Go.Ground.chain }, { on := 0, ground := Go.Ground.phase }, { on := 1, ground := Go.Ground.phase }, { on := 2, ground := Go.Ground.phase }, { on := 3, ground := Go.Ground.phase }, { on := 4, ground := Go.Ground.phase }, { on := 5, ground := Go.Ground.phase }, { on := 6, ground := Go.Ground.phase }, { on := 7, ground := Go.Ground.phase }, { on := 8, ground := Go.Ground.phase }, { on := 9, ground := Go.Ground.phase }, { on := 10, ground := Go.Ground.phase }, { on := 11, ground := Go.Ground.phase }, { on := 12, ground := Go.Ground.phase }], guard := none }) (v := .int .i64 0) rfl (by kernel_rfl) (by kernel_rfl) (by kernel_rfl) (fun _ _ _ h => h) (Or.inl ⟨by rfl, fun w' hSw => ?_⟩) (by assumption) ?_
              · (try dsimp only at hSw); go_simp
              (try simp only [Act.put]); (try simp only [List.setIfInBounds_toArray]); (try simp only [List.set_cons_succ]); (try simp only [List.set_cons_zero])
              refine wpAnyH_done (by kernel_rfl) ?_ _
              refine NoPanic.normal ?_
              have HFE := Hid.mk' e17
              generalize (Q.putAt v16 (.pointer (some ⟨w1.heap.size, 0, none⟩)) (.agg #[.int .i64 x0, .int .i64 x1, .string y2, .string y3, .string y4])) = wE at *
              clear e17
              go_wp2_with fail
              go_meet
              exact ⟨w1.heap.size, vl, rfl, rfl, rfl, bxf.out, rtf.out, HFE.out⟩
            exact AllReadyH.nil
          exact AllReadyH.nil
        exact AllReadyH.nil
      exact AllReadyH.nil
    exact AllReadyH.nil
  case rest =>
    obtain ⟨b7, vl, e7, e8, e9, HX, HRT, HB⟩ := hcut
    subst e7 e8 e9
    clear HF HCL BP hH5 HRB
    have X7 := HX.out
    have Y7 := Y4.out.drew.later HB.out
    have d0 : wc.cell? ⟨b7, 0, none⟩ = some (.int .i64 x0) := X7.cell (j := 0) rfl
    have d1 : wc.cell? ⟨b7, 1, none⟩ = some (.int .i64 x1) := X7.cell (j := 1) rfl
    have d2 : wc.cell? ⟨b7, 2, none⟩ = some (.string y2) := X7.cell (j := 2) rfl
    have d3 : wc.cell? ⟨b7, 3, none⟩ = some (.string y3) := X7.cell (j := 3) rfl
    have d4 : wc.cell? ⟨b7, 4, none⟩ = some (.string y4) := X7.cell (j := 4) rfl
    have g0 : wc.cell? ⟨w4.heap.size, 0, none⟩ = some (.int .i64 x0) := Y7.cell (j := 0) rfl
    have g1 : wc.cell? ⟨w4.heap.size, 1, none⟩ = some (.int .i64 x1) := Y7.cell (j := 1) rfl
    have g2 : wc.cell? ⟨w4.heap.size, 2, none⟩ = some (.string y2) := Y7.cell (j := 2) rfl
    have g3 : wc.cell? ⟨w4.heap.size, 3, none⟩ = some (.string y3) := Y7.cell (j := 3) rfl
    have g4 : wc.cell? ⟨w4.heap.size, 4, none⟩ = some (.string y4) := Y7.cell (j := 4) rfl
    have t2 := same_self y2
    have t3 := same_self y3
    have t4 := same_self y4
    have R7 := Hid.mk' (R4.out.below (w' := wc) (show Below w1.heap.size w1 wc from (Below.refl _ w1).drew.trans HB.out))
    have S7 := Hid.mk' (S4.out.below (w' := wc) (show Below w1.heap.size w1 wc from (Below.refl _ w1).drew.trans HB.out))
    have HCA := Hid.mk' (CloneA_any wc vl1 M1 S7.out (by omega))
    have H7 := Hid.mk' (HB1.out _ HB.out)
    clear X7 Y7 HX HB R4 S4 Y4 HB1
    go_wp2_with fail
    refine HCA.out.mono ?_
    rintro e w8 ⟨ad, cp, xs, nx, rfl, hnx, hxs, ho8, hr8, h8⟩
    have R8 := Hid.mk' (R7.out.below h8)
    have lx : xs.length = M1.length := by rw [← hxs]; simp
    have hlen8 : xs.length + M2.length ≤ 1099511627776 := by omega
    have HO8 := Hid.mk' ho8
    have HR8 := Hid.mk' (fun x hx => hr8 x hx)
    have HB8 := Hid.mk' h8
    have z8 := h8.size
    obtain ⟨aa2, cc2, nn2, e2⟩ : ∃ a2 c2 n2, vl2 = Value.slice a2 n2 c2 := by
      obtain ⟨a, c, _, h, _⟩ := R8.out
      exact ⟨a, c, _, h⟩
    have HXS := Hid.mk' hxs
    subst e2
    clear HCA R7 S7 ho8 hr8 h8 hxs
    go_wp2_with (at_builtin; refine wpList_append_acts _ (by rfl) _ _ rfl wc.heap.size ad cp xs M2 nx rfl hnx.out HO8.out (.slice aa2 nn2 cc2) rfl R8.out z8 hlen8 ?_)
    intro ad9 cap9 ys n9 w9 hn9 hys ho9 hr9 hk9 hb9
    have HB9 := Hid.mk' (hb9 _ _ (Nat.le_refl _) HB8.out)
    have HS9 : Hid (Calls Try.prog 9 #[.slice ad9 n9 cap9, vl] w9 fun e w' => e = .returned (.bool true) ∧ Below w9.heap.size w9 w') := by
      have h1 : RdA w9 (.slice ad9 n9 cap9) (M1 ++ M2) := by
        have h := RdA.own ho9 (fun x hx => (List.mem_append.1 hx).elim (fun h => ((HR8.out x h).keep hk9.ints).rd) (fun h => RdT.rd (hr9 x.1 x.2 h)))
        rw [List.map_append, HXS.out, hys] at h
        rw [List.length_append, lx] at h
        have e9 : n9 = M1.length + ys.length := by have := hn9.out; simpa [lx] using this
        rw [e9]
        exact h
      exact SameActs_same (M1 ++ M2) _ _ w9 h1 (HRT.out.below HB9.out).rd HSM.out (by rw [List.length_append]; omega)
    have H9 := Hid.mk' (H7.out.trans (Below.mono HB9.out H7.out.size))
    clear ho9 hr9 hk9 hb9 hys HR8 HO8 HB8 R8 HRT HXS HSM H7 HB9
    go_wp2_with fail
    refine HS9.out.mono ?_
    rintro e w10 ⟨rfl, h10⟩
    have H10 := Hid.mk' (H9.out.trans (Below.mono h10 H9.out.size))
    clear h10 HS9 H9
    go_wp2
    go_ret
    exact ⟨rfl, H10.out⟩
end Go.Proofs.Ytneiiinheimglaa.B
