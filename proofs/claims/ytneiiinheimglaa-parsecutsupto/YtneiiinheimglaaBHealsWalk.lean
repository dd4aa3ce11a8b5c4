/-
  The walk of farkeep.ParseHeals: it returns true; condition: at most 1048576 runes and bytes.
-/
import Derived.Test.YtneiiinheimglaaBPlainWalk
import Derived.Test.YtneiiinheimglaaBApp
import Derived.Deep.DeepCutAuto
namespace Go.Proofs.Ytneiiinheimglaa.B
open Go.RowKit Go.Lib Go.Proofs.Ytneiiinheimglaa Go.Proofs.Ytneiiinheimglaa.W Go.Proofs.Ytneiiinheimglaa.Q Go.Proofs.Ytneiiinheimglaa.C Go.Proofs.Ytneiiinheimglaa.Z

/-- append(v, ints) where a region draws: v owned -/
theorem step_append_ints {w : World} {o : Oper} {a : Act} {ops : Array Oper} {Q : Exit → Act → World → Prop} {K : Act → World → Prop} {X : Prop} (hgd : o.guard = none) (sl x : Operand)
    (ho : o.op = .call { callee := .builtin .append, args := #[sl, x], argTypes := #[24, 24] }) (base : Nat) (al : Option Addr) (n cl : Nat) (l : List Int) (hsl : a.eval sl = .slice al n cl) (hown : OwnI w base (.slice al n cl) l)
    (ax : Option Addr) (nx cx : Nat) (l2 : List Int) (hx : a.eval x = .slice ax nx cx) (hr : RdI w (.slice ax nx cx) l2) (hlen : l.length + l2.length ≤ 1000000000000) (hbase : base ≤ w.heap.size)
    (next : ∀ al' n' cl' w', Hid (n' = (l ++ l2).length) → RdI w' (.slice al' n' cl') (l ++ l2) → (∀ B W, B ≤ base → Below B W w → Below B W w') → (∀ (k : Nat) (cs : Array Value) (t : TypeId) (fz : Nat × Nat), t ≠ 3 → w.heap[k]? = some (.cells cs t fz) → w'.heap[k]? = some (.cells cs t fz)) → K (a.put o.dst (.slice al' n' cl')) w') : if Region.wanted o (yielded ops a.tmps) = true then Oper.wp Try.prog o a w K Q else X := by
  have hw : Region.wanted o (yielded ops a.tmps) = true := by simp [Region.wanted, hgd]
  rw [if_pos hw]
  obtain rfl := hown.len
  obtain ⟨i0, hi, hz0, hz1, hz2⟩ := info_parts infoInt
  obtain ⟨al', cl', w', hrun, hA⟩ := run_append_1 (P := Try.prog) w 24 24 o.type base 3 i0 (.int .i64 0) 8 Try.underlying24 hi hz0 hz1 hz2 rfl al l.length cl (icells l) hown (.slice ax nx cx) l2.length (icells l2) (src_ints hr) (by unfold maxLen; omega) (by omega) hbase
  rw [← icells_app] at hA
  unfold Oper.wp execOp
  simp only [ho, resolve, invoke, builtin, Sem.run_bind, Sem.run_pure, Result.andThen_ok, List.map_toArray, List.map_cons, List.map_nil, hsl, hx, hrun]
  refine next al' (l.length + l2.length) cl' w' (by rw [Hid, List.length_append]) ?_ (fun B W hB hBW => hBW.grown hA.grown (by omega) (fun g hg => ?_)) (fun k cs t fz ht hk => ?_)
  · have h2 : OwnI w' base (.slice al' (l.length + l2.length) cl') (l ++ l2) := by unfold OwnI; rw [List.length_append]; exact hA.own
    exact RdI.own h2
  · have := (hown.lt g (by rw [Z.ownBlock_slice]; exact hg)).1
    omega
  · rw [hA.grown.block k (Array.getElem?_eq_some_iff.1 hk).1 (fun e => by
      obtain ⟨cur, fz', hc⟩ := OwnR.typed hown k (by rw [Z.ownBlock_slice]; exact e.symm)
      rw [hk] at hc
      simp only [Option.some.injEq, Obj.cells.injEq] at hc
      exact ht hc.2.1)]
    exact hk
theorem KeepP.put {w w' : World} {b : Nat} {l : List Value} (hB : Box w b 23 l) (h : ∀ k, k ≠ b → w'.heap[k]? = w.heap[k]?) : KeepP w w' := fun k cs t fz ht hk => by
  rw [h k (fun e => by
    subst e
    unfold Box at hB
    rw [hB] at hk
    simp only [Option.some.injEq, Obj.cells.injEq] at hk
    exact ht hk.2.1.symm)]
  exact hk

attribute [local go_sem ↓] exec_storeP
set_option maxHeartbeats 32000000 in
set_option maxRecDepth 100000 in
theorem ParseHeals_any (st mk : Int) (im ar tx : List UInt8) (v1 v2 : Value) (a b : List Int) (w : World) (hv1 : RdI w v1 a) (hv2 : RdI w v2 b) (hp : im.length + ar.length + tx.length ≤ 1048576) (ha : a.length ≤ 1048576) (hb : b.length ≤ 1048576) :
    Calls Try.prog 5 #[.agg #[.int .i64 st, .int .i64 mk, .string (bs im), .string (bs ar), .string (bs tx)], v1, v2] w fun e w' => e = .returned (.bool true) ∧ Below w.heap.size w w' := by
  obtain ⟨x0, x1, y2, y3, y4, er, M, HF, HCASE⟩ : ∃ x0 x1 : Int, ∃ y2 y3 y4 : ByteArray, ∃ er : Int, ∃ M : List Ac, Hid (∀ W va, RdI W va (a ++ [24]) → Calls Try.prog 6 #[.agg #[.int .i64 st, .int .i64 mk, .string (bs im), .string (bs ar), .string (bs tx)], va] W fun e w' => ∃ vl, e = .returned (.tuple #[.agg #[.int .i64 x0, .int .i64 x1, .string y2, .string y3, .string y4], vl, .int .i64 er]) ∧ RdAT w' vl M ∧ Below W.heap.size W w') ∧ Hid (er = 4 ∨ er = 0 ∧ x0 = 0 ∧ x1 = 0 ∧ y2 = ⟨#[]⟩ ∧ y3 = ⟨#[]⟩ ∧ y4 = ⟨#[]⟩) := by
    cases hok : okP st mk im ar tx with
    | false =>
      refine ⟨st, mk, bs im, bs ar, bs tx, 4, [], fun W va hva => ?_, .inl rfl⟩
      exact (Feed_bad st mk im ar tx hok va W (by omega)).mono fun e w' ⟨h1, h2⟩ => ⟨_, h1, RdAT.nil _, h2⟩
    | true =>
      obtain ⟨n, rfl, hr⟩ := okP_right hok
      have hq : (run ⟨n, mk, im, ar, tx⟩ (a ++ [24])).1 = p0 := by
        rw [run_app]
        exact heals (run_right a hr)
      refine ⟨0, 0, ⟨#[]⟩, ⟨#[]⟩, ⟨#[]⟩, 0, (run ⟨n, mk, im, ar, tx⟩ (a ++ [24])).2, fun W va hva => ?_, .inr ⟨rfl, rfl, rfl, rfl, rfl, rfl⟩⟩
      have h := Feed_ok ⟨n, mk, im, ar, tx⟩ hr va (a ++ [24]) W hva (by simp; omega)
      rw [hq] at h
      exact h
  have HCL0 := Hid.mk' (fun W (h : RdI W v1 a) => Clone_any W v1 a h (by omega))
  have HFB0 := Hid.mk' (fun W (h : RdI W v2 b) => Feed_ok p0 right_p0 v2 b W h (by omega))
  have hpc : pcells p0 = [.int .i64 0, .int .i64 0, .string ⟨#[]⟩, .string ⟨#[]⟩, .string ⟨#[]⟩] := rfl
  rw [hpc] at HFB0
  clear hpc
  have HLV := Hid.mk' (fun W => lives_any W)
  have HSM := Hid.mk' (small_args right_p0 b)
  have hfew := run_few b p0
  generalize run p0 b = Y at *
  obtain ⟨q, L⟩ := Y
  dsimp only at *
  unfold pcells at HFB0
  generalize bs im = S1 at *
  generalize bs ar = S2 at *
  generalize bs tx = S3 at *
  generalize bs q.inter = Q2 at *
  generalize bs q.args = Q3 at *
  generalize bs q.text = Q4 at *
  have HV1 := Hid.mk' hv1
  have HV2 := Hid.mk' hv2
  obtain ⟨a1, cap1, e1, _⟩ := hv1
  obtain ⟨a2, cap2, e2, _⟩ := hv2
  subst e1 e2
  go_enter Try.func5, Try.ntmps5
  go_upto_region 1 with (refine wpList_box [.int .i64 st, .int .i64 mk, .string S1, .string S2, .string S3] _ rfl _ rfl rfl ?_; intro w1 m1)
  have B1 := m1.below _ _ (Nat.le_refl _) (Below.refl _ w)
  have z1 := m1.lt
  have HCL := Hid.mk' (fun W (h : Below w1.heap.size w1.drew W) => HCL0.out W (HV1.out.below (B1.drew.trans (Below.mono h (Nat.le_of_lt z1)))))
  have HB1 := Hid.mk' (fun W (h : Below w1.heap.size w1.drew W) => show Below w.heap.size w W from B1.drew.trans (Below.mono h (Nat.le_of_lt z1)))
  have HFB := Hid.mk' (fun W (h : Below w1.heap.size w1.drew W) => HFB0.out W (HV2.out.below (HB1.out W h)))
  have BP := Hid.mk' m1.box.drew
  have hlen : a.length + [(24 : Int)].length ≤ 1000000000000 := by simp; omega
  have hH5 : Holds (.agg #[.int .i64 x0, .int .i64 x1, .string y2, .string y3, .string y4]) 5 := ⟨[.int .i64 x0, .int .i64 x1, .string y2, .string y3, .string y4], rfl, rfl, by
    intro u hu
    simp only [List.mem_cons, List.mem_nil_iff, or_false] at hu
    rcases hu with rfl | rfl | rfl | rfl | rfl <;> rfl⟩
  clear HV1 HV2 HCL0 HFB0 m1 B1
  go_cut [7, 8, 9] (fun s7 s8 s9 wx => ∃ (b7 : Nat) (vl : Value), s7 = .pointer (some ⟨b7, 0, none⟩) ∧ s8 = vl ∧ s9 = .int .i64 er ∧ Hid (Box wx b7 23 [.int .i64 x0, .int .i64 x1, .string y2, .string y3, .string y4]) ∧ Hid (RdAT wx vl M) ∧ Hid (Below w1.heap.size w1.drew wx))
  case first =>
    have hE : Below w1.heap.size w1.drew w1.drew := Below.refl _ _
    have l0 : ∀ w', Below w1.heap.size w1.drew w' → Lies w' (.pointer (some ⟨w.heap.size, 0, none⟩)) 5 := fun w' h => (BP.out.below h z1).lies0 rfl
    have r0 : ∀ w', Below w1.heap.size w1.drew w' → Q.rowAt w' (.pointer (some ⟨w.heap.size, 0, none⟩)) 5 = [.int .i64 st, .int .i64 mk, .string S1, .string S2, .string S3] := fun w' h => (BP.out.below h z1).row0 rfl
    refine wp_region_noPanic ?_
    refine wp_region_held_drew (S := fun w' => Below w1.heap.size w1.drew w') (by kernel_rfl) hE (fun hHeld => ?_)
    refine wpAnyH_take (i := 0) (oi := { dst := some 17, op := Go.Op.load 23 (Go.Operand.tmp 3), type := 23, pos := _, after := #[], guard := none }) (v := .agg #[.int .i64 st, .int .i64 mk, .string S1, .string S2, .string S3]) rfl (by kernel_rfl) (by kernel_rfl) (by kernel_rfl) (fun _ _ _ h => h) (Or.inl ⟨by rfl, fun w' hSw => ?_⟩) (by assumption) ?_
    · exact (exec_loadP _ _ _ _ _ _ _ _ (l0 _ hSw)).trans (congrArg (fun z : List Value => Result.ok (Next.value (.agg z.toArray)) w') (r0 _ hSw))
    (try simp only [Act.put]); (try simp only [List.setIfInBounds_toArray]); (try simp only [List.set_cons_succ]); (try simp only [List.set_cons_zero])
    refine wpAnyH_take (i := 1) (oi := { dst := some 18, op := Go.Op.move (Go.Operand.tmp 1), type := 24, pos := _, after := #[], guard := none }) (v := .slice a1 a.length cap1) rfl (by kernel_rfl) (by kernel_rfl) (by kernel_rfl) (fun _ _ _ h => h) (Or.inl ⟨by rfl, fun w' hSw => ?_⟩) (by assumption) ?_
    · (try dsimp only at hSw); go_simp
    (try simp only [Act.put]); (try simp only [List.setIfInBounds_toArray]); (try simp only [List.set_cons_succ]); (try simp only [List.set_cons_zero])
    refine wpAnyH_ready (rs := [2, 3, 10]) (by kernel_rfl) (by simp) ?_
    refine AllReadyH.cons (o := { dst := some 19, op := Go.Op.call { callee := Go.Callee.value (Go.Operand.func 8), args := #[Go.Operand.tmp 18], argTypes := #[24] }, type := 24, pos := _, after := #[{ on := 1, ground := Go.Ground.data }], guard := none }) rfl (fun K hK => ?_) ?_
    · skip
      go_simp
      refine (HCL.out w1.drew hE).mono ?_
      rintro e v1 ⟨cad, ccp, cn, rfl, hcn, hov1, hbv1⟩
      have e1 : Below w1.heap.size w1.drew v1 := Below.trans hE (Below.mono hbv1 (by have h := Below.size hE; exact h))
      have oc_v1 := Hid.mk' hov1
      have zc := hbv1.size
      go_wp2_with fail
      refine hK.out _ _ e1 (fun hHeld => ?_)
      clear hK K
      (try simp only [Act.put]); (try simp only [List.setIfInBounds_toArray]); (try simp only [List.set_cons_succ]); (try simp only [List.set_cons_zero])
      refine wpAnyH_ready (rs := [3, 10]) (by kernel_rfl) (by simp) ?_
      refine AllReadyH.cons (o := { dst := some 20, op := Go.Op.buildSlice 24 1 #[(0, Go.Operand.const (Go.Value.int Go.IntKind.i64 24))], type := 24, pos := _, after := #[], guard := none }) rfl (fun K hK => ?_) ?_
      · skip
        go_simp
        have e2 : Below w1.heap.size w1.drew (v1.alloc (.cells #[.int .i64 24] 3)) := Below.alloc e1 (by have h := Below.size e1; exact h) _
        have oc_1 := Hid.mk' (oc_v1.out.below (Below.alloc (Below.refl v1.heap.size v1) (Nat.le_refl _) (.cells #[.int .i64 24] 3)))
        have ol_2 : Hid (RdI (v1.alloc (.cells #[.int .i64 24] 3)) (.slice (some ⟨v1.heap.size, 0, none⟩) 1 1) [24]) := Hid.mk' RdI.lit v1 [24]
        refine hK.out _ _ e2 (fun hHeld => ?_)
        clear hK K
        (try simp only [Act.put]); (try simp only [List.setIfInBounds_toArray]); (try simp only [List.set_cons_succ]); (try simp only [List.set_cons_zero])
        refine wpAnyH_ready (rs := [4, 10]) (by kernel_rfl) (by simp) ?_
        refine AllReadyH.cons (o := { dst := some 21, op := Go.Op.call { callee := Go.Callee.builtin Go.Builtin.append, args := #[Go.Operand.tmp 19, Go.Operand.tmp 20], argTypes := #[24, 24] }, type := 24, pos := _, after := #[{ on := 2, ground := Go.Ground.data }, { on := 3, ground := Go.Ground.data }, { on := 2, ground := Go.Ground.chain }], guard := none }) rfl (fun K hK => ?_) ?_
        · skip
          refine step_append_ints rfl _ _ rfl w1.drew.heap.size cad cn ccp a rfl oc_1.out (some ⟨v1.heap.size, 0, none⟩) 1 1 [24] rfl ol_2.out hlen (by first | exact Nat.le_refl _ | (simp; omega) | (have hq := zc; simp at hq ⊢; omega)) ?_
          intro al4 n4 cl4 v3 hn4 ho4 hB4 hK4
          have e3 : Below w1.heap.size w1.drew v3 := hB4 w1.heap.size w1.drew (by first | exact Nat.le_refl _ | (have h := Below.size hE; exact h)) e2
          have oa_v3 := Hid.mk' ho4
          clear hB4 hK4 ho4
          refine hK.out _ _ e3 (fun hHeld => ?_)
          clear hK K
          (try simp only [Act.put]); (try simp only [List.setIfInBounds_toArray]); (try simp only [List.set_cons_succ]); (try simp only [List.set_cons_zero])
          refine wpAnyH_ready (rs := [5, 10]) (by kernel_rfl) (by simp) ?_
          refine AllReadyH.cons (o := { dst := some 22, op := Go.Op.call { callee := Go.Callee.value (Go.Operand.func 6), args := #[Go.Operand.tmp 17, Go.Operand.tmp 21], argTypes := #[23, 24] }, type := 27, pos := _, after := #[{ on := 0, ground := Go.Ground.data }, { on := 4, ground := Go.Ground.data }, { on := 4, ground := Go.Ground.chain }], guard := none }) rfl (fun K hK => ?_) ?_
          · skip
            go_simp
            refine (HF.out v3 (.slice al4 n4 cl4) oa_v3.out).mono ?_
            rintro e v4 ⟨vl, rfl, hrv4, hbv4⟩
            have e4 : Below w1.heap.size w1.drew v4 := Below.trans e3 (Below.mono hbv4 (by have h := Below.size e3; exact h))
            have rt_v4 := Hid.mk' hrv4
            go_wp2_with fail
            refine hK.out _ _ e4 (fun hHeld => ?_)
            clear hK K
            (try simp only [Act.put]); (try simp only [List.setIfInBounds_toArray]); (try simp only [List.set_cons_succ]); (try simp only [List.set_cons_zero])
            refine wpAnyH_take (i := 6) (oi := { dst := some 16, op := Go.Op.move (Go.Operand.tmp 22), type := 27, pos := _, after := #[{ on := 5, ground := Go.Ground.data }], guard := none }) (v := .tuple #[.agg #[.int .i64 x0, .int .i64 x1, .string y2, .string y3, .string y4], vl, .int .i64 er]) rfl (by kernel_rfl) (by kernel_rfl) (by kernel_rfl) (fun _ _ _ h => h) (Or.inl ⟨by rfl, fun w' hSw => ?_⟩) (by assumption) ?_
            · (try dsimp only at hSw); go_simp
            (try simp only [Act.put]); (try simp only [List.setIfInBounds_toArray]); (try simp only [List.set_cons_succ]); (try simp only [List.set_cons_zero])
            refine wpAnyH_take (i := 7) (oi := { dst := some 23, op := Go.Op.extract (Go.Operand.tmp 16) 0, type := 23, pos := _, after := #[{ on := 6, ground := Go.Ground.data }], guard := none }) (v := .agg #[.int .i64 x0, .int .i64 x1, .string y2, .string y3, .string y4]) rfl (by kernel_rfl) (by kernel_rfl) (by kernel_rfl) (fun _ _ _ h => h) (Or.inl ⟨by rfl, fun w' hSw => ?_⟩) (by assumption) ?_
            · (try dsimp only at hSw); go_simp
            (try simp only [Act.put]); (try simp only [List.setIfInBounds_toArray]); (try simp only [List.set_cons_succ]); (try simp only [List.set_cons_zero])
            refine wpAnyH_take (i := 8) (oi := { dst := some 24, op := Go.Op.extract (Go.Operand.tmp 16) 1, type := 25, pos := _, after := #[{ on := 6, ground := Go.Ground.data }, { on := 11, ground := Go.Ground.gcOnly Go.Departure.lateStores }], guard := none }) (v := vl) rfl (by kernel_rfl) (by kernel_rfl) (by kernel_rfl) (fun _ _ _ h => h) (Or.inl ⟨by rfl, fun w' hSw => ?_⟩) (by assumption) ?_
            · (try dsimp only at hSw); go_simp
            (try simp only [Act.put]); (try simp only [List.setIfInBounds_toArray]); (try simp only [List.set_cons_succ]); (try simp only [List.set_cons_zero])
            refine wpAnyH_take (i := 9) (oi := { dst := some 25, op := Go.Op.extract (Go.Operand.tmp 16) 2, type := 26, pos := _, after := #[{ on := 6, ground := Go.Ground.data }, { on := 12, ground := Go.Ground.gcOnly Go.Departure.lateStores }], guard := none }) (v := .int .i64 er) rfl (by kernel_rfl) (by kernel_rfl) (by kernel_rfl) (fun _ _ _ h => h) (Or.inl ⟨by rfl, fun w' hSw => ?_⟩) (by assumption) ?_
            · (try dsimp only at hSw); go_simp
            (try simp only [Act.put]); (try simp only [List.setIfInBounds_toArray]); (try simp only [List.set_cons_succ]); (try simp only [List.set_cons_zero])
            refine wpAnyH_ready (rs := [10]) (by kernel_rfl) (by simp) ?_
            refine AllReadyH.cons (o := { dst := some 7, op := Go.Op.alloc 23, type := 0, pos := _, after := #[], guard := none }) rfl (fun K hK => ?_) ?_
            · skip
              go_simp
              have e5 : Below w1.heap.size w1.drew (v4.alloc (.cells #[.int .i64 0, .int .i64 0, .string ⟨#[]⟩, .string ⟨#[]⟩, .string ⟨#[]⟩] 23)) := Below.alloc e4 (by have h := Below.size e4; exact h) _
              have rt_3 := Hid.mk' (rt_v4.out.below (Below.alloc (Below.refl v4.heap.size v4) (Nat.le_refl _) (.cells #[.int .i64 0, .int .i64 0, .string ⟨#[]⟩, .string ⟨#[]⟩, .string ⟨#[]⟩] 23)))
              have bx_4 : Hid (Box (v4.alloc (.cells #[.int .i64 0, .int .i64 0, .string ⟨#[]⟩, .string ⟨#[]⟩, .string ⟨#[]⟩] 23)) v4.heap.size 23 [.int .i64 0, .int .i64 0, .string ⟨#[]⟩, .string ⟨#[]⟩, .string ⟨#[]⟩]) := Hid.mk' (Box.new v4 _ _)
              have zb : w1.heap.size ≤ v4.heap.size := (by have h := Below.size e4; exact h)
              refine hK.out _ _ e5 (fun hHeld => ?_)
              clear hK K
              (try simp only [Act.put]); (try simp only [List.setIfInBounds_toArray]); (try simp only [List.set_cons_succ]); (try simp only [List.set_cons_zero])
              refine wpAnyH_ready (rs := [11]) (by kernel_rfl) (by simp) ?_
              refine AllReadyH.cons (o := { dst := none, op := Go.Op.store 23 (Go.Operand.tmp 7) (Go.Operand.tmp 23), type := 0, pos := _, after := #[{ on := 10, ground := Go.Ground.data }, { on := 7, ground := Go.Ground.data }, { on := 5, ground := Go.Ground.chain }, { on := 0, ground := Go.Ground.phase }, { on := 1, ground := Go.Ground.phase }, { on := 2, ground := Go.Ground.phase }, { on := 3, ground := Go.Ground.phase }, { on := 4, ground := Go.Ground.phase }, { on := 5, ground := Go.Ground.phase }, { on := 6, ground := Go.Ground.phase }, { on := 7, ground := Go.Ground.phase }, { on := 8, ground := Go.Ground.textOnly Go.Departure.lateStores }, { on := 9, ground := Go.Ground.textOnly Go.Departure.lateStores }, { on := 10, ground := Go.Ground.phase }], guard := none }) rfl (fun K hK => ?_) ?_
              · skip
                have hS5 : Lies (v4.alloc (.cells #[.int .i64 0, .int .i64 0, .string ⟨#[]⟩, .string ⟨#[]⟩, .string ⟨#[]⟩] 23)) (.pointer (some ⟨v4.heap.size, 0, none⟩)) 5 := bx_4.out.lies0 rfl
                have sP := bx_4.out.putAt [.int .i64 x0, .int .i64 x1, .string y2, .string y3, .string y4] rfl
                go_simp
                have e6 : Below w1.heap.size w1.drew (Q.putAt (v4.alloc (.cells #[.int .i64 0, .int .i64 0, .string ⟨#[]⟩, .string ⟨#[]⟩, .string ⟨#[]⟩] 23)) (.pointer (some ⟨v4.heap.size, 0, none⟩)) (.agg #[.int .i64 x0, .int .i64 x1, .string y2, .string y3, .string y4])) := sP.below _ _ zb e5
                have bxf := Hid.mk' sP.box
                have rtf := Hid.mk' (rt_3.out.keep (KeepP.put bx_4.out sP.other))
                clear hS5 sP
                refine hK.out _ _ e6 (fun hHeld => ?_)
                clear hK K
                (try simp only [Act.put]); (try simp only [List.setIfInBounds_toArray]); (try simp only [List.set_cons_succ]); (try simp only [List.set_cons_zero])
                refine wpAnyH_take (i := 12) (oi := { dst := some 8, op := Go.Op.assign (Go.Operand.tmp 24), type := 25, pos := _, after := #[{ on := 8, ground := Go.Ground.data }, { on := 11, ground := Go.Ground.chain }, { on := 0, ground := Go.Ground.phase }, { on := 1, ground := Go.Ground.phase }, { on := 2, ground := Go.Ground.phase }, { on := 3, ground := Go.Ground.phase }, { on := 4, ground := Go.Ground.phase }, { on := 5, ground := Go.Ground.phase }, { on := 6, ground := Go.Ground.phase }, { on := 7, ground := Go.Ground.phase }, { on := 8, ground := Go.Ground.phase }, { on := 9, ground := Go.Ground.textOnly Go.Departure.lateStores }, { on := 10, ground := Go.Ground.phase }, { on := 11, ground := Go.Ground.phase }], guard := none }) (v := vl) rfl (by kernel_rfl) (by kernel_rfl) (by kernel_rfl) (fun _ _ _ h => h) (Or.inl ⟨by rfl, fun w' hSw => ?_⟩) (by assumption) ?_
                · (try dsimp only at hSw); go_simp
                (try simp only [Act.put]); (try simp only [List.setIfInBounds_toArray]); (try simp only [List.set_cons_succ]); (try simp only [List.set_cons_zero])
                refine wpAnyH_take (i := 13) (oi := { dst := some 9, op := Go.Op.assign (Go.Operand.tmp 25), type := 26, pos := _, after := #[{ on := 9, ground := Go.Ground.data }, { on := 12, ground := Go.Ground.chain }, { on := 0, ground := Go.Ground.phase }, { on := 1, ground := Go.Ground.phase }, { on := 2, ground := Go.Ground.phase }, { on := 3, ground := Go.Ground.phase }, { on := 4, ground := Go.Ground.phase }, { on := 5, ground := Go.Ground.phase }, { on := 6, ground := Go.Ground.phase }, { on := 7, ground := Go.Ground.phase }, { on := 8, ground := Go.Ground.phase }, { on := 9, ground := Go.Ground.phase }, { on := 10, ground := Go.Ground.phase }, { on := 11, ground := Go.Ground.phase }, { on := 12, ground := Go.Ground.phase }], guard := none }) (v := .int .i64 er) rfl (by kernel_rfl) (by kernel_rfl) (by kernel_rfl) (fun _ _ _ h => h) (Or.inl ⟨by rfl, fun w' hSw => ?_⟩) (by assumption) ?_
                · (try dsimp only at hSw); go_simp
                (try simp only [Act.put]); (try simp only [List.setIfInBounds_toArray]); (try simp only [List.set_cons_succ]); (try simp only [List.set_cons_zero])
                refine wpAnyH_done (by kernel_rfl) ?_ _
                refine NoPanic.normal ?_
                have HFE := Hid.mk' e6
                generalize (Q.putAt (v4.alloc (.cells #[.int .i64 0, .int .i64 0, .string ⟨#[]⟩, .string ⟨#[]⟩, .string ⟨#[]⟩] 23)) (.pointer (some ⟨v4.heap.size, 0, none⟩)) (.agg #[.int .i64 x0, .int .i64 x1, .string y2, .string y3, .string y4])) = wE at *
                clear e6
                go_wp2_with fail
                go_meet
                exact ⟨v4.heap.size, vl, rfl, rfl, rfl, bxf.out, rtf.out, HFE.out⟩
              exact AllReadyH.nil
            exact AllReadyH.nil
          refine AllReadyH.cons (o := { dst := some 7, op := Go.Op.alloc 23, type := 0, pos := _, after := #[], guard := none }) rfl (fun K hK => ?_) ?_
          · skip
            go_simp
            have e7 : Below w1.heap.size w1.drew (v3.alloc (.cells #[.int .i64 0, .int .i64 0, .string ⟨#[]⟩, .string ⟨#[]⟩, .string ⟨#[]⟩] 23)) := Below.alloc e3 (by have h := Below.size e3; exact h) _
            have ra_5 := Hid.mk' (oa_v3.out.below (Below.alloc (Below.refl v3.heap.size v3) (Nat.le_refl _) (.cells #[.int .i64 0, .int .i64 0, .string ⟨#[]⟩, .string ⟨#[]⟩, .string ⟨#[]⟩] 23)))
            have bx_6 : Hid (Box (v3.alloc (.cells #[.int .i64 0, .int .i64 0, .string ⟨#[]⟩, .string ⟨#[]⟩, .string ⟨#[]⟩] 23)) v3.heap.size 23 [.int .i64 0, .int .i64 0, .string ⟨#[]⟩, .string ⟨#[]⟩, .string ⟨#[]⟩]) := Hid.mk' (Box.new v3 _ _)
            have zb : w1.heap.size ≤ v3.heap.size := (by have h := Below.size e3; exact h)
            refine hK.out _ _ e7 (fun hHeld => ?_)
            clear hK K
            (try simp only [Act.put]); (try simp only [List.setIfInBounds_toArray]); (try simp only [List.set_cons_succ]); (try simp only [List.set_cons_zero])
            refine wpAnyH_ready (rs := [5]) (by kernel_rfl) (by simp) ?_
            refine AllReadyH.cons (o := { dst := some 22, op := Go.Op.call { callee := Go.Callee.value (Go.Operand.func 6), args := #[Go.Operand.tmp 17, Go.Operand.tmp 21], argTypes := #[23, 24] }, type := 27, pos := _, after := #[{ on := 0, ground := Go.Ground.data }, { on := 4, ground := Go.Ground.data }, { on := 4, ground := Go.Ground.chain }], guard := none }) rfl (fun K hK => ?_) ?_
            · skip
              go_simp
              refine (HF.out (v3.alloc (.cells #[.int .i64 0, .int .i64 0, .string ⟨#[]⟩, .string ⟨#[]⟩, .string ⟨#[]⟩] 23)) (.slice al4 n4 cl4) ra_5.out).mono ?_
              rintro e v8 ⟨vl, rfl, hrv8, hbv8⟩
              have e8 : Below w1.heap.size w1.drew v8 := Below.trans e7 (Below.mono hbv8 (by have h := Below.size e7; exact h))
              have bx_7 := Hid.mk' (bx_6.out.later hbv8)
              have rt_v8 := Hid.mk' hrv8
              go_wp2_with fail
              refine hK.out _ _ e8 (fun hHeld => ?_)
              clear hK K
              (try simp only [Act.put]); (try simp only [List.setIfInBounds_toArray]); (try simp only [List.set_cons_succ]); (try simp only [List.set_cons_zero])
              refine wpAnyH_take (i := 6) (oi := { dst := some 16, op := Go.Op.move (Go.Operand.tmp 22), type := 27, pos := _, after := #[{ on := 5, ground := Go.Ground.data }], guard := none }) (v := .tuple #[.agg #[.int .i64 x0, .int .i64 x1, .string y2, .string y3, .string y4], vl, .int .i64 er]) rfl (by kernel_rfl) (by kernel_rfl) (by kernel_rfl) (fun _ _ _ h => h) (Or.inl ⟨by rfl, fun w' hSw => ?_⟩) (by assumption) ?_
              · (try dsimp only at hSw); go_simp
              (try simp only [Act.put]); (try simp only [List.setIfInBounds_toArray]); (try simp only [List.set_cons_succ]); (try simp only [List.set_cons_zero])
              refine wpAnyH_take (i := 7) (oi := { dst := some 23, op := Go.Op.extract (Go.Operand.tmp 16) 0, type := 23, pos := _, after := #[{ on := 6, ground := Go.Ground.data }], guard := none }) (v := .agg #[.int .i64 x0, .int .i64 x1, .string y2, .string y3, .string y4]) rfl (by kernel_rfl) (by kernel_rfl) (by kernel_rfl) (fun _ _ _ h => h) (Or.inl ⟨by rfl, fun w' hSw => ?_⟩) (by assumption) ?_
              · (try dsimp only at hSw); go_simp
              (try simp only [Act.put]); (try simp only [List.setIfInBounds_toArray]); (try simp only [List.set_cons_succ]); (try simp only [List.set_cons_zero])
              refine wpAnyH_take (i := 8) (oi := { dst := some 24, op := Go.Op.extract (Go.Operand.tmp 16) 1, type := 25, pos := _, after := #[{ on := 6, ground := Go.Ground.data }, { on := 11, ground := Go.Ground.gcOnly Go.Departure.lateStores }], guard := none }) (v := vl) rfl (by kernel_rfl) (by kernel_rfl) (by kernel_rfl) (fun _ _ _ h => h) (Or.inl ⟨by rfl, fun w' hSw => ?_⟩) (by assumption) ?_
              · (try dsimp only at hSw); go_simp
              (try simp only [Act.put]); (try simp only [List.setIfInBounds_toArray]); (try simp only [List.set_cons_succ]); (try simp only [List.set_cons_zero])
              refine wpAnyH_take (i := 9) (oi := { dst := some 25, op := Go.Op.extract (Go.Operand.tmp 16) 2, type := 26, pos := _, after := #[{ on := 6, ground := Go.Ground.data }, { on := 12, ground := Go.Ground.gcOnly Go.Departure.lateStores }], guard := none }) (v := .int .i64 er) rfl (by kernel_rfl) (by kernel_rfl) (by kernel_rfl) (fun _ _ _ h => h) (Or.inl ⟨by rfl, fun w' hSw => ?_⟩) (by assumption) ?_
              · (try dsimp only at hSw); go_simp
              (try simp only [Act.put]); (try simp only [List.setIfInBounds_toArray]); (try simp only [List.set_cons_succ]); (try simp only [List.set_cons_zero])
              refine wpAnyH_ready (rs := [11]) (by kernel_rfl) (by simp) ?_
              refine AllReadyH.cons (o := { dst := none, op := Go.Op.store 23 (Go.Operand.tmp 7) (Go.Operand.tmp 23), type := 0, pos := _, after := #[{ on := 10, ground := Go.Ground.data }, { on := 7, ground := Go.Ground.data }, { on := 5, ground := Go.Ground.chain }, { on := 0, ground := Go.Ground.phase }, { on := 1, ground := Go.Ground.phase }, { on := 2, ground := Go.Ground.phase }, { on := 3, ground := Go.Ground.phase }, { on := 4, ground := Go.Ground.phase }, { on := 5, ground := Go.Ground.phase }, { on := 6, ground := Go.Ground.phase }, { on := 7, ground := Go.Ground.phase }, { on := 8, ground := Go.Ground.textOnly Go.Departure.lateStores }, { on := 9, ground := Go.Ground.textOnly Go.Departure.lateStores }, { on := 10, ground := Go.Ground.phase }], guard := none }) rfl (fun K hK => ?_) ?_
              · skip
                have hS5 : Lies v8 (.pointer (some ⟨v3.heap.size, 0, none⟩)) 5 := bx_7.out.lies0 rfl
                have sP := bx_7.out.putAt [.int .i64 x0, .int .i64 x1, .string y2, .string y3, .string y4] rfl
                go_simp
                have e9 : Below w1.heap.size w1.drew (Q.putAt v8 (.pointer (some ⟨v3.heap.size, 0, none⟩)) (.agg #[.int .i64 x0, .int .i64 x1, .string y2, .string y3, .string y4])) := sP.below _ _ zb e8
                have bxf := Hid.mk' sP.box
                have rtf := Hid.mk' (rt_v8.out.keep (KeepP.put bx_7.out sP.other))
                clear hS5 sP
                refine hK.out _ _ e9 (fun hHeld => ?_)
                clear hK K
                (try simp only [Act.put]); (try simp only [List.setIfInBounds_toArray]); (try simp only [List.set_cons_succ]); (try simp only [List.set_cons_zero])
                refine wpAnyH_take (i := 12) (oi := { dst := some 8, op := Go.Op.assign (Go.Operand.tmp 24), type := 25, pos := _, after := #[{ on := 8, ground := Go.Ground.data }, { on := 11, ground := Go.Ground.chain }, { on := 0, ground := Go.Ground.phase }, { on := 1, ground := Go.Ground.phase }, { on := 2, ground := Go.Ground.phase }, { on := 3, ground := Go.Ground.phase }, { on := 4, ground := Go.Ground.phase }, { on := 5, ground := Go.Ground.phase }, { on := 6, ground := Go.Ground.phase }, { on := 7, ground := Go.Ground.phase }, { on := 8, ground := Go.Ground.phase }, { on := 9, ground := Go.Ground.textOnly Go.Departure.lateStores }, { on := 10, ground := Go.Ground.phase }, { on := 11, ground := Go.Ground.phase }], guard := none }) (v := vl) rfl (by kernel_rfl) (by kernel_rfl) (by kernel_rfl) (fun _ _ _ h => h) (Or.inl ⟨by rfl, fun w' hSw => ?_⟩) (by assumption) ?_
                · (try dsimp only at hSw); go_simp
                (try simp only [Act.put]); (try simp only [List.setIfInBounds_toArray]); (try simp only [List.set_cons_succ]); (try simp only [List.set_cons_zero])
                refine wpAnyH_take (i := 13) (oi := { dst := some 9, op := Go.Op.assign (Go.Operand.tmp 25), type := 26, pos := _, after := #[{ on := 9, ground := Go.Ground.data }, { on := 12, ground := Go.Ground.chain }, { on := 0, ground := Go.Ground.phase }, { on := 1, ground := Go.Ground.phase }, { on := 2, ground := Go.Ground.phase }, { on := 3, ground := Go.Ground.phase }, { on := 4, ground := Go.Ground.phase }, { on := 5, ground := Go.Ground.phase }, { on := 6, ground := Go.Ground.phase }, { on := 7, ground := Go.Ground.phase }, { on := 8, ground := Go.Ground.phase }, { on := 9, ground := Go.Ground.phase }, { on := 10, ground := Go.Ground.phase }, { on := 11, ground := Go.Ground.phase }, { on := 12, ground := Go.Ground.phase }], guard := none }) (v := .int .i64 er) rfl (by kernel_rfl) (by kernel_rfl) (by kernel_rfl) (fun _ _ _ h => h) (Or.inl ⟨by rfl, fun w' hSw => ?_⟩) (by assumption) ?_
                · (try dsimp only at hSw); go_simp
                (try simp only [Act.put]); (try simp only [List.setIfInBounds_toArray]); (try simp only [List.set_cons_succ]); (try simp only [List.set_cons_zero])
                refine wpAnyH_done (by kernel_rfl) ?_ _
                refine NoPanic.normal ?_
                have HFE := Hid.mk' e9
                generalize (Q.putAt v8 (.pointer (some ⟨v3.heap.size, 0, none⟩)) (.agg #[.int .i64 x0, .int .i64 x1, .string y2, .string y3, .string y4])) = wE at *
                clear e9
                go_wp2_with fail
                go_meet
                exact ⟨v3.heap.size, vl, rfl, rfl, rfl, bxf.out, rtf.out, HFE.out⟩
              exact AllReadyH.nil
            exact AllReadyH.nil
          exact AllReadyH.nil
        refine AllReadyH.cons (o := { dst := some 7, op := Go.Op.alloc 23, type := 0, pos := _, after := #[], guard := none }) rfl (fun K hK => ?_) ?_
        · skip
          go_simp
          have e10 : Below w1.heap.size w1.drew ((v1.alloc (.cells #[.int .i64 24] 3)).alloc (.cells #[.int .i64 0, .int .i64 0, .string ⟨#[]⟩, .string ⟨#[]⟩, .string ⟨#[]⟩] 23)) := Below.alloc e2 (by have h := Below.size e2; exact h) _
          have oc_8 := Hid.mk' (oc_1.out.below (Below.alloc (Below.refl (v1.alloc (.cells #[.int .i64 24] 3)).heap.size (v1.alloc (.cells #[.int .i64 24] 3))) (Nat.le_refl _) (.cells #[.int .i64 0, .int .i64 0, .string ⟨#[]⟩, .string ⟨#[]⟩, .string ⟨#[]⟩] 23)))
          have ol_9 := Hid.mk' (ol_2.out.below (Below.alloc (Below.refl (v1.alloc (.cells #[.int .i64 24] 3)).heap.size (v1.alloc (.cells #[.int .i64 24] 3))) (Nat.le_refl _) (.cells #[.int .i64 0, .int .i64 0, .string ⟨#[]⟩, .string ⟨#[]⟩, .string ⟨#[]⟩] 23)))
          have bx_10 : Hid (Box ((v1.alloc (.cells #[.int .i64 24] 3)).alloc (.cells #[.int .i64 0, .int .i64 0, .string ⟨#[]⟩, .string ⟨#[]⟩, .string ⟨#[]⟩] 23)) (v1.heap.size + 1) 23 [.int .i64 0, .int .i64 0, .string ⟨#[]⟩, .string ⟨#[]⟩, .string ⟨#[]⟩]) := Hid.mk' (by have h := Box.new (v1.alloc (.cells #[.int .i64 24] 3)) 23 [.int .i64 0, .int .i64 0, .string ⟨#[]⟩, .string ⟨#[]⟩, .string ⟨#[]⟩]; simp only [World.size_alloc] at h; exact h)
          have zb : w1.heap.size ≤ (v1.heap.size + 1) := (by have h := Below.size e2; simp only [World.size_alloc] at h; exact h)
          refine hK.out _ _ e10 (fun hHeld => ?_)
          clear hK K
          (try simp only [Act.put]); (try simp only [List.setIfInBounds_toArray]); (try simp only [List.set_cons_succ]); (try simp only [List.set_cons_zero])
          refine wpAnyH_ready (rs := [4]) (by kernel_rfl) (by simp) ?_
          refine AllReadyH.cons (o := { dst := some 21, op := Go.Op.call { callee := Go.Callee.builtin Go.Builtin.append, args := #[Go.Operand.tmp 19, Go.Operand.tmp 20], argTypes := #[24, 24] }, type := 24, pos := _, after := #[{ on := 2, ground := Go.Ground.data }, { on := 3, ground := Go.Ground.data }, { on := 2, ground := Go.Ground.chain }], guard := none }) rfl (fun K hK => ?_) ?_
          · skip
            refine step_append_ints rfl _ _ rfl w1.drew.heap.size cad cn ccp a rfl oc_8.out (some ⟨v1.heap.size, 0, none⟩) 1 1 [24] rfl ol_9.out hlen (by first | exact Nat.le_refl _ | (simp; omega) | (have hq := zc; simp at hq ⊢; omega)) ?_
            intro al4 n4 cl4 v11 hn4 ho4 hB4 hK4
            have e11 : Below w1.heap.size w1.drew v11 := hB4 w1.heap.size w1.drew (by first | exact Nat.le_refl _ | (have h := Below.size hE; exact h)) e10
            have oa_v11 := Hid.mk' ho4
            have bx_11 := Hid.mk' (show Box v11 (v1.heap.size + 1) 23 [.int .i64 0, .int .i64 0, .string ⟨#[]⟩, .string ⟨#[]⟩, .string ⟨#[]⟩] from hK4 _ _ _ _ (by decide) bx_10.out)
            clear hB4 hK4 ho4
            refine hK.out _ _ e11 (fun hHeld => ?_)
            clear hK K
            (try simp only [Act.put]); (try simp only [List.setIfInBounds_toArray]); (try simp only [List.set_cons_succ]); (try simp only [List.set_cons_zero])
            refine wpAnyH_ready (rs := [5]) (by kernel_rfl) (by simp) ?_
            refine AllReadyH.cons (o := { dst := some 22, op := Go.Op.call { callee := Go.Callee.value (Go.Operand.func 6), args := #[Go.Operand.tmp 17, Go.Operand.tmp 21], argTypes := #[23, 24] }, type := 27, pos := _, after := #[{ on := 0, ground := Go.Ground.data }, { on := 4, ground := Go.Ground.data }, { on := 4, ground := Go.Ground.chain }], guard := none }) rfl (fun K hK => ?_) ?_
            · skip
              go_simp
              refine (HF.out v11 (.slice al4 n4 cl4) oa_v11.out).mono ?_
              rintro e v12 ⟨vl, rfl, hrv12, hbv12⟩
              have e12 : Below w1.heap.size w1.drew v12 := Below.trans e11 (Below.mono hbv12 (by have h := Below.size e11; exact h))
              have bx_12 := Hid.mk' (bx_11.out.later hbv12)
              have rt_v12 := Hid.mk' hrv12
              go_wp2_with fail
              refine hK.out _ _ e12 (fun hHeld => ?_)
              clear hK K
              (try simp only [Act.put]); (try simp only [List.setIfInBounds_toArray]); (try simp only [List.set_cons_succ]); (try simp only [List.set_cons_zero])
              refine wpAnyH_take (i := 6) (oi := { dst := some 16, op := Go.Op.move (Go.Operand.tmp 22), type := 27, pos := _, after := #[{ on := 5, ground := Go.Ground.data }], guard := none }) (v := .tuple #[.agg #[.int .i64 x0, .int .i64 x1, .string y2, .string y3, .string y4], vl, .int .i64 er]) rfl (by kernel_rfl) (by kernel_rfl) (by kernel_rfl) (fun _ _ _ h => h) (Or.inl ⟨by rfl, fun w' hSw => ?_⟩) (by assumption) ?_
              · (try dsimp only at hSw); go_simp
              (try simp only [Act.put]); (try simp only [List.setIfInBounds_toArray]); (try simp only [List.set_cons_succ]); (try simp only [List.set_cons_zero])
              refine wpAnyH_take (i := 7) (oi := { dst := some 23, op := Go.Op.extract (Go.Operand.tmp 16) 0, type := 23, pos := _, after := #[{ on := 6, ground := Go.Ground.data }], guard := none }) (v := .agg #[.int .i64 x0, .int .i64 x1, .string y2, .string y3, .string y4]) rfl (by kernel_rfl) (by kernel_rfl) (by kernel_rfl) (fun _ _ _ h => h) (Or.inl ⟨by rfl, fun w' hSw => ?_⟩) (by assumption) ?_
              · (try dsimp only at hSw); go_simp
              (try simp only [Act.put]); (try simp only [List.setIfInBounds_toArray]); (try simp only [List.set_cons_succ]); (try simp only [List.set_cons_zero])
              refine wpAnyH_take (i := 8) (oi := { dst := some 24, op := Go.Op.extract (Go.Operand.tmp 16) 1, type := 25, pos := _, after := #[{ on := 6, ground := Go.Ground.data }, { on := 11, ground := Go.Ground.gcOnly Go.Departure.lateStores }], guard := none }) (v := vl) rfl (by kernel_rfl) (by kernel_rfl) (by kernel_rfl) (fun _ _ _ h => h) (Or.inl ⟨by rfl, fun w' hSw => ?_⟩) (by assumption) ?_
              · (try dsimp only at hSw); go_simp
              (try simp only [Act.put]); (try simp only [List.setIfInBounds_toArray]); (try simp only [List.set_cons_succ]); (try simp only [List.set_cons_zero])
              refine wpAnyH_take (i := 9) (oi := { dst := some 25, op := Go.Op.extract (Go.Operand.tmp 16) 2, type := 26, pos := _, after := #[{ on := 6, ground := Go.Ground.data }, { on := 12, ground := Go.Ground.gcOnly Go.Departure.lateStores }], guard := none }) (v := .int .i64 er) rfl (by kernel_rfl) (by kernel_rfl) (by kernel_rfl) (fun _ _ _ h => h) (Or.inl ⟨by rfl, fun w' hSw => ?_⟩) (by assumption) ?_
              · (try dsimp only at hSw); go_simp
              (try simp only [Act.put]); (try simp only [List.setIfInBounds_toArray]); (try simp only [List.set_cons_succ]); (try simp only [List.set_cons_zero])
              refine wpAnyH_ready (rs := [11]) (by kernel_rfl) (by simp) ?_
              refine AllReadyH.cons (o := { dst := none, op := Go.Op.store 23 (Go.Operand.tmp 7) (Go.Operand.tmp 23), type := 0, pos := _, after := #[{ on := 10, ground := Go.Ground.data }, { on := 7, ground := Go.Ground.data }, { on := 5, ground := Go.Ground.chain }, { on := 0, ground := Go.Ground.phase }, { on := 1, ground := Go.Ground.phase }, { on := 2, ground := Go.Ground.phase }, { on := 3, ground := Go.Ground.phase }, { on := 4, ground := Go.Ground.phase }, { on := 5, ground := Go.Ground.phase }, { on := 6, ground := Go.Ground.phase }, { on := 7, ground := Go.Ground.phase }, { on := 8, ground := Go.Ground.textOnly Go.Departure.lateStores }, { on := 9, ground := Go.Ground.textOnly Go.Departure.lateStores }, { on := 10, ground := Go.Ground.phase }], guard := none }) rfl (fun K hK => ?_) ?_
              · skip
                have hS5 : Lies v12 (.pointer (some ⟨(v1.heap.size + 1), 0, none⟩)) 5 := bx_12.out.lies0 rfl
                have sP := bx_12.out.putAt [.int .i64 x0, .int .i64 x1, .string y2, .string y3, .string y4] rfl
                go_simp
                have e13 : Below w1.heap.size w1.drew (Q.putAt v12 (.pointer (some ⟨(v1.heap.size + 1), 0, none⟩)) (.agg #[.int .i64 x0, .int .i64 x1, .string y2, .string y3, .string y4])) := sP.below _ _ zb e12
                have bxf := Hid.mk' sP.box
                have rtf := Hid.mk' (rt_v12.out.keep (KeepP.put bx_12.out sP.other))
                clear hS5 sP
                refine hK.out _ _ e13 (fun hHeld => ?_)
                clear hK K
                (try simp only [Act.put]); (try simp only [List.setIfInBounds_toArray]); (try simp only [List.set_cons_succ]); (try simp only [List.set_cons_zero])
                refine wpAnyH_take (i := 12) (oi := { dst := some 8, op := Go.Op.assign (Go.Operand.tmp 24), type := 25, pos := _, after := #[{ on := 8, ground := Go.Ground.data }, { on := 11, ground := Go.Ground.chain }, { on := 0, ground := Go.Ground.phase }, { on := 1, ground := Go.Ground.phase }, { on := 2, ground := Go.Ground.phase }, { on := 3, ground := Go.Ground.phase }, { on := 4, ground := Go.Ground.phase }, { on := 5, ground := Go.Ground.phase }, { on := 6, ground := Go.Ground.phase }, { on := 7, ground := Go.Ground.phase }, { on := 8, ground := Go.Ground.phase }, { on := 9, ground := Go.Ground.textOnly Go.Departure.lateStores }, { on := 10, ground := Go.Ground.phase }, { on := 11, ground := Go.Ground.phase }], guard := none }) (v := vl) rfl (by kernel_rfl) (by kernel_rfl) (by kernel_rfl) (fun _ _ _ h => h) (Or.inl ⟨by rfl, fun w' hSw => ?_⟩) (by assumption) ?_
                · (try dsimp only at hSw); go_simp
                (try simp only [Act.put]); (try simp only [List.setIfInBounds_toArray]); (try simp only [List.set_cons_succ]); (try simp only [List.set_cons_zero])
                refine wpAnyH_take (i := 13) (oi := { dst := some 9, op := Go.Op.assign (Go.Operand.tmp 25), type := 26, pos := _, after := #[{ on := 9, ground := Go.Ground.data }, { on := 12, ground := Go.Ground.chain }, { on := 0, ground := Go.Ground.phase }, { on := 1, ground := Go.Ground.phase }, { on := 2, ground := Go.Ground.phase }, { on := 3, ground := Go.Ground.phase }, { on := 4, ground := Go.Ground.phase }, { on := 5, ground := Go.Ground.phase }, { on := 6, ground := Go.Ground.phase }, { on := 7, ground := Go.Ground.phase }, { on := 8, ground := Go.Ground.phase }, { on := 9, ground := Go.Ground.phase }, { on := 10, ground := Go.Ground.phase }, { on := 11, ground := Go.Ground.phase }, { on := 12, ground := Go.Ground.phase }], guard := none }) (v := .int .i64 er) rfl (by kernel_rfl) (by kernel_rfl) (by kernel_rfl) (fun _ _ _ h => h) (Or.inl ⟨by rfl, fun w' hSw => ?_⟩) (by assumption) ?_
                · (try dsimp only at hSw); go_simp
                (try simp only [Act.put]); (try simp only [List.setIfInBounds_toArray]); (try simp only [List.set_cons_succ]); (try simp only [List.set_cons_zero])
                refine wpAnyH_done (by kernel_rfl) ?_ _
                refine NoPanic.normal ?_
                have HFE := Hid.mk' e13
                generalize (Q.putAt v12 (.pointer (some ⟨(v1.heap.size + 1), 0, none⟩)) (.agg #[.int .i64 x0, .int .i64 x1, .string y2, .string y3, .string y4])) = wE at *
                clear e13
                go_wp2_with fail
                go_meet
                exact ⟨(v1.heap.size + 1), vl, rfl, rfl, rfl, bxf.out, rtf.out, HFE.out⟩
              exact AllReadyH.nil
            exact AllReadyH.nil
          exact AllReadyH.nil
        exact AllReadyH.nil
      refine AllReadyH.cons (o := { dst := some 7, op := Go.Op.alloc 23, type := 0, pos := _, after := #[], guard := none }) rfl (fun K hK => ?_) ?_
      · skip
        go_simp
        have e14 : Below w1.heap.size w1.drew (v1.alloc (.cells #[.int .i64 0, .int .i64 0, .string ⟨#[]⟩, .string ⟨#[]⟩, .string ⟨#[]⟩] 23)) := Below.alloc e1 (by have h := Below.size e1; exact h) _
        have oc_13 := Hid.mk' (oc_v1.out.below (Below.alloc (Below.refl v1.heap.size v1) (Nat.le_refl _) (.cells #[.int .i64 0, .int .i64 0, .string ⟨#[]⟩, .string ⟨#[]⟩, .string ⟨#[]⟩] 23)))
        have bx_14 : Hid (Box (v1.alloc (.cells #[.int .i64 0, .int .i64 0, .string ⟨#[]⟩, .string ⟨#[]⟩, .string ⟨#[]⟩] 23)) v1.heap.size 23 [.int .i64 0, .int .i64 0, .string ⟨#[]⟩, .string ⟨#[]⟩, .string ⟨#[]⟩]) := Hid.mk' (Box.new v1 _ _)
        have zb : w1.heap.size ≤ v1.heap.size := (by have h := Below.size e1; exact h)
        refine hK.out _ _ e14 (fun hHeld => ?_)
        clear hK K
        (try simp only [Act.put]); (try simp only [List.setIfInBounds_toArray]); (try simp only [List.set_cons_succ]); (try simp only [List.set_cons_zero])
        refine wpAnyH_ready (rs := [3]) (by kernel_rfl) (by simp) ?_
        refine AllReadyH.cons (o := { dst := some 20, op := Go.Op.buildSlice 24 1 #[(0, Go.Operand.const (Go.Value.int Go.IntKind.i64 24))], type := 24, pos := _, after := #[], guard := none }) rfl (fun K hK => ?_) ?_
        · skip
          go_simp
          have e15 : Below w1.heap.size w1.drew ((v1.alloc (.cells #[.int .i64 0, .int .i64 0, .string ⟨#[]⟩, .string ⟨#[]⟩, .string ⟨#[]⟩] 23)).alloc (.cells #[.int .i64 24] 3)) := Below.alloc e14 (by have h := Below.size e14; exact h) _
          have oc_15 := Hid.mk' (oc_13.out.below (Below.alloc (Below.refl (v1.alloc (.cells #[.int .i64 0, .int .i64 0, .string ⟨#[]⟩, .string ⟨#[]⟩, .string ⟨#[]⟩] 23)).heap.size (v1.alloc (.cells #[.int .i64 0, .int .i64 0, .string ⟨#[]⟩, .string ⟨#[]⟩, .string ⟨#[]⟩] 23))) (Nat.le_refl _) (.cells #[.int .i64 24] 3)))
          have bx_16 := Hid.mk' (bx_14.out.later (Below.alloc (Below.refl (v1.alloc (.cells #[.int .i64 0, .int .i64 0, .string ⟨#[]⟩, .string ⟨#[]⟩, .string ⟨#[]⟩] 23)).heap.size (v1.alloc (.cells #[.int .i64 0, .int .i64 0, .string ⟨#[]⟩, .string ⟨#[]⟩, .string ⟨#[]⟩] 23))) (Nat.le_refl _) (.cells #[.int .i64 24] 3)))
          have ol_17 : Hid (RdI ((v1.alloc (.cells #[.int .i64 0, .int .i64 0, .string ⟨#[]⟩, .string ⟨#[]⟩, .string ⟨#[]⟩] 23)).alloc (.cells #[.int .i64 24] 3)) (.slice (some ⟨(v1.heap.size + 1), 0, none⟩) 1 1) [24]) := Hid.mk' (by have h := RdI.lit (v1.alloc (.cells #[.int .i64 0, .int .i64 0, .string ⟨#[]⟩, .string ⟨#[]⟩, .string ⟨#[]⟩] 23)) [24]; simp only [World.size_alloc] at h; exact h)
          refine hK.out _ _ e15 (fun hHeld => ?_)
          clear hK K
          (try simp only [Act.put]); (try simp only [List.setIfInBounds_toArray]); (try simp only [List.set_cons_succ]); (try simp only [List.set_cons_zero])
          refine wpAnyH_ready (rs := [4]) (by kernel_rfl) (by simp) ?_
          refine AllReadyH.cons (o := { dst := some 21, op := Go.Op.call { callee := Go.Callee.builtin Go.Builtin.append, args := #[Go.Operand.tmp 19, Go.Operand.tmp 20], argTypes := #[24, 24] }, type := 24, pos := _, after := #[{ on := 2, ground := Go.Ground.data }, { on := 3, ground := Go.Ground.data }, { on := 2, ground := Go.Ground.chain }], guard := none }) rfl (fun K hK => ?_) ?_
          · skip
            refine step_append_ints rfl _ _ rfl w1.drew.heap.size cad cn ccp a rfl oc_15.out (some ⟨(v1.heap.size + 1), 0, none⟩) 1 1 [24] rfl ol_17.out hlen (by first | exact Nat.le_refl _ | (simp; omega) | (have hq := zc; simp at hq ⊢; omega)) ?_
            intro al4 n4 cl4 v16 hn4 ho4 hB4 hK4
            have e16 : Below w1.heap.size w1.drew v16 := hB4 w1.heap.size w1.drew (by first | exact Nat.le_refl _ | (have h := Below.size hE; exact h)) e15
            have oa_v16 := Hid.mk' ho4
            have bx_18 := Hid.mk' (show Box v16 v1.heap.size 23 [.int .i64 0, .int .i64 0, .string ⟨#[]⟩, .string ⟨#[]⟩, .string ⟨#[]⟩] from hK4 _ _ _ _ (by decide) bx_16.out)
            clear hB4 hK4 ho4
            refine hK.out _ _ e16 (fun hHeld => ?_)
            clear hK K
            (try simp only [Act.put]); (try simp only [List.setIfInBounds_toArray]); (try simp only [List.set_cons_succ]); (try simp only [List.set_cons_zero])
            refine wpAnyH_ready (rs := [5]) (by kernel_rfl) (by simp) ?_
            refine AllReadyH.cons (o := { dst := some 22, op := Go.Op.call { callee := Go.Callee.value (Go.Operand.func 6), args := #[Go.Operand.tmp 17, Go.Operand.tmp 21], argTypes := #[23, 24] }, type := 27, pos := _, after := #[{ on := 0, ground := Go.Ground.data }, { on := 4, ground := Go.Ground.data }, { on := 4, ground := Go.Ground.chain }], guard := none }) rfl (fun K hK => ?_) ?_
            · skip
              go_simp
              refine (HF.out v16 (.slice al4 n4 cl4) oa_v16.out).mono ?_
              rintro e v17 ⟨vl, rfl, hrv17, hbv17⟩
              have e17 : Below w1.heap.size w1.drew v17 := Below.trans e16 (Below.mono hbv17 (by have h := Below.size e16; exact h))
              have bx_19 := Hid.mk' (bx_18.out.later hbv17)
              have rt_v17 := Hid.mk' hrv17
              go_wp2_with fail
              refine hK.out _ _ e17 (fun hHeld => ?_)
              clear hK K
              (try simp only [Act.put]); (try simp only [List.setIfInBounds_toArray]); (try simp only [List.set_cons_succ]); (try simp only [List.set_cons_zero])
              refine wpAnyH_take (i := 6) (oi := { dst := some 16, op := Go.Op.move (Go.Operand.tmp 22), type := 27, pos := _, after := #[{ on := 5, ground := Go.Ground.data }], guard := none }) (v := .tuple #[.agg #[.int .i64 x0, .int .i64 x1, .string y2, .string y3, .string y4], vl, .int .i64 er]) rfl (by kernel_rfl) (by kernel_rfl) (by kernel_rfl) (fun _ _ _ h => h) (Or.inl ⟨by rfl, fun w' hSw => ?_⟩) (by assumption) ?_
              · (try dsimp only at hSw); go_simp
              (try simp only [Act.put]); (try simp only [List.setIfInBounds_toArray]); (try simp only [List.set_cons_succ]); (try simp only [List.set_cons_zero])
              refine wpAnyH_take (i := 7) (oi := { dst := some 23, op := Go.Op.extract (Go.Operand.tmp 16) 0, type := 23, pos := _, after := #[{ on := 6, ground := Go.Ground.data }], guard := none }) (v := .agg #[.int .i64 x0, .int .i64 x1, .string y2, .string y3, .string y4]) rfl (by kernel_rfl) (by kernel_rfl) (by kernel_rfl) (fun _ _ _ h => h) (Or.inl ⟨by rfl, fun w' hSw => ?_⟩) (by assumption) ?_
              · (try dsimp only at hSw); go_simp
              (try simp only [Act.put]); (try simp only [List.setIfInBounds_toArray]); (try simp only [List.set_cons_succ]); (try simp only [List.set_cons_zero])
              refine wpAnyH_take (i := 8) (oi := { dst := some 24, op := Go.Op.extract (Go.Operand.tmp 16) 1, type := 25, pos := _, after := #[{ on := 6, ground := Go.Ground.data }, { on := 11, ground := Go.Ground.gcOnly Go.Departure.lateStores }], guard := none }) (v := vl) rfl (by kernel_rfl) (by kernel_rfl) (by kernel_rfl) (fun _ _ _ h => h) (Or.inl ⟨by rfl, fun w' hSw => ?_⟩) (by assumption) ?_
              · (try dsimp only at hSw); go_simp
              (try simp only [Act.put]); (try simp only [List.setIfInBounds_toArray]); (try simp only [List.set_cons_succ]); (try simp only [List.set_cons_zero])
              refine wpAnyH_take (i := 9) (oi := { dst := some 25, op := Go.Op.extract (Go.Operand.tmp 16) 2, type := 26, pos := _, after := #[{ on := 6, ground := Go.Ground.data }, { on := 12, ground := Go.Ground.gcOnly Go.Departure.lateStores }], guard := none }) (v := .int .i64 er) rfl (by kernel_rfl) (by kernel_rfl) (by kernel_rfl) (fun _ _ _ h => h) (Or.inl ⟨by rfl, fun w' hSw => ?_⟩) (by assumption) ?_
              · (try dsimp only at hSw); go_simp
              (try simp only [Act.put]); (try simp only [List.setIfInBounds_toArray]); (try simp only [List.set_cons_succ]); (try simp only [List.set_cons_zero])
              refine wpAnyH_ready (rs := [11]) (by kernel_rfl) (by simp) ?_
              refine AllReadyH.cons (o := { dst := none, op := Go.Op.store 23 (Go.Operand.tmp 7) (Go.Operand.tmp 23), type := 0, pos := _, after := #[{ on := 10, ground := Go.Ground.data }, { on := 7, ground := Go.Ground.data }, { on := 5, ground := Go.Ground.chain }, { on := 0, ground := Go.Ground.phase }, { on := 1, ground := Go.Ground.phase }, { on := 2, ground := Go.Ground.phase }, { on := 3, ground := Go.Ground.phase }, { on := 4, ground := Go.Ground.phase }, { on := 5, ground := Go.Ground.phase }, { on := 6, ground := Go.Ground.phase }, { on := 7, ground := Go.Ground.phase }, { on := 8, ground := Go.Ground.textOnly Go.Departure.lateStores }, { on := 9, ground := Go.Ground.textOnly Go.Departure.lateStores }, { on := 10, ground := Go.Ground.phase }], guard := none }) rfl (fun K hK => ?_) ?_
              · skip
                have hS5 : Lies v17 (.pointer (some ⟨v1.heap.size, 0, none⟩)) 5 := bx_19.out.lies0 rfl
                have sP := bx_19.out.putAt [.int .i64 x0, .int .i64 x1, .string y2, .string y3, .string y4] rfl
                go_simp
                have e18 : Below w1.heap.size w1.drew (Q.putAt v17 (.pointer (some ⟨v1.heap.size, 0, none⟩)) (.agg #[.int .i64 x0, .int .i64 x1, .string y2, .string y3, .string y4])) := sP.below _ _ zb e17
                have bxf := Hid.mk' sP.box
                have rtf := Hid.mk' (rt_v17.out.keep (KeepP.put bx_19.out sP.other))
                clear hS5 sP
                refine hK.out _ _ e18 (fun hHeld => ?_)
                clear hK K
                (try simp only [Act.put]); (try simp only [List.setIfInBounds_toArray]); (try simp only [List.set_cons_succ]); (try simp only [List.set_cons_zero])
                refine wpAnyH_take (i := 12) (oi := { dst := some 8, op := Go.Op.assign (Go.Operand.tmp 24), type := 25, pos := _, after := #[{ on := 8, ground := Go.Ground.data }, { on := 11, ground := Go.Ground.chain }, { on := 0, ground := Go.Ground.phase }, { on := 1, ground := Go.Ground.phase }, { on := 2, ground := Go.Ground.phase }, { on := 3, ground := Go.Ground.phase }, { on := 4, ground := Go.Ground.phase }, { on := 5, ground := Go.Ground.phase }, { on := 6, ground := Go.Ground.phase }, { on := 7, ground := Go.Ground.phase }, { on := 8, ground := Go.Ground.phase }, { on := 9, ground := Go.Ground.textOnly Go.Departure.lateStores }, { on := 10, ground := Go.Ground.phase }, { on := 11, ground := Go.Ground.phase }], guard := none }) (v := vl) rfl (by kernel_rfl) (by kernel_rfl) (by kernel_rfl) (fun _ _ _ h => h) (Or.inl ⟨by rfl, fun w' hSw => ?_⟩) (by assumption) ?_
                · (try dsimp only at hSw); go_simp
                (try simp only [Act.put]); (try simp only [List.setIfInBounds_toArray]); (try simp only [List.set_cons_succ]); (try simp only [List.set_cons_zero])
                refine wpAnyH_take (i := 13) (oi := { dst := some 9, op := Go.Op.assign (Go.Operand.tmp 25), type := 26, pos := _, after := #[{ on := 9, ground := Go.Ground.data }, { on := 12, ground := Go.Ground.chain }, { on := 0, ground := Go.Ground.phase }, { on := 1, ground := Go.Ground.phase }, { on := 2, ground := Go.Ground.phase }, { on := 3, ground := Go.Ground.phase }, { on := 4, ground := Go.Ground.phase }, { on := 5, ground := Go.Ground.phase }, { on := 6, ground := Go.Ground.phase }, { on := 7, ground := Go.Ground.phase }, { on := 8, ground := Go.Ground.phase }, { on := 9, ground := Go.Ground.phase }, { on := 10, ground := Go.Ground.phase }, { on := 11, ground := Go.Ground.phase }, { on := 12, ground := Go.Ground.phase }], guard := none }) (v := .int .i64 er) rfl (by kernel_rfl) (by kernel_rfl) (by kernel_rfl) (fun _ _ _ h => h) (Or.inl ⟨by rfl, fun w' hSw => ?_⟩) (by assumption) ?_
                · (try dsimp only at hSw); go_simp
                (try simp only [Act.put]); (try simp only [List.setIfInBounds_toArray]); (try simp only [List.set_cons_succ]); (try simp only [List.set_cons_zero])
                refine wpAnyH_done (by kernel_rfl) ?_ _
                refine NoPanic.normal ?_
                have HFE := Hid.mk' e18
                generalize (Q.putAt v17 (.pointer (some ⟨v1.heap.size, 0, none⟩)) (.agg #[.int .i64 x0, .int .i64 x1, .string y2, .string y3, .string y4])) = wE at *
                clear e18
                go_wp2_with fail
                go_meet
                exact ⟨v1.heap.size, vl, rfl, rfl, rfl, bxf.out, rtf.out, HFE.out⟩
              exact AllReadyH.nil
            exact AllReadyH.nil
          exact AllReadyH.nil
        exact AllReadyH.nil
      exact AllReadyH.nil
    refine AllReadyH.cons (o := { dst := some 20, op := Go.Op.buildSlice 24 1 #[(0, Go.Operand.const (Go.Value.int Go.IntKind.i64 24))], type := 24, pos := _, after := #[], guard := none }) rfl (fun K hK => ?_) ?_
    · skip
      go_simp
      have e19 : Below w1.heap.size w1.drew (w1.drew.alloc (.cells #[.int .i64 24] 3)) := Below.alloc hE (by have h := Below.size hE; exact h) _
      have ol_20 : Hid (RdI (w1.drew.alloc (.cells #[.int .i64 24] 3)) (.slice (some ⟨w1.heap.size, 0, none⟩) 1 1) [24]) := Hid.mk' RdI.lit w1.drew [24]
      refine hK.out _ _ e19 (fun hHeld => ?_)
      clear hK K
      (try simp only [Act.put]); (try simp only [List.setIfInBounds_toArray]); (try simp only [List.set_cons_succ]); (try simp only [List.set_cons_zero])
      refine wpAnyH_ready (rs := [2, 10]) (by kernel_rfl) (by simp) ?_
      refine AllReadyH.cons (o := { dst := some 19, op := Go.Op.call { callee := Go.Callee.value (Go.Operand.func 8), args := #[Go.Operand.tmp 18], argTypes := #[24] }, type := 24, pos := _, after := #[{ on := 1, ground := Go.Ground.data }], guard := none }) rfl (fun K hK => ?_) ?_
      · skip
        go_simp
        refine (HCL.out (w1.drew.alloc (.cells #[.int .i64 24] 3)) e19).mono ?_
        rintro e v20 ⟨cad, ccp, cn, rfl, hcn, hov20, hbv20⟩
        have e20 : Below w1.heap.size w1.drew v20 := Below.trans e19 (Below.mono hbv20 (by have h := Below.size e19; exact h))
        have ol_21 := Hid.mk' (ol_20.out.below hbv20)
        have oc_v20 := Hid.mk' hov20
        have zc := hbv20.size
        go_wp2_with fail
        refine hK.out _ _ e20 (fun hHeld => ?_)
        clear hK K
        (try simp only [Act.put]); (try simp only [List.setIfInBounds_toArray]); (try simp only [List.set_cons_succ]); (try simp only [List.set_cons_zero])
        refine wpAnyH_ready (rs := [4, 10]) (by kernel_rfl) (by simp) ?_
        refine AllReadyH.cons (o := { dst := some 21, op := Go.Op.call { callee := Go.Callee.builtin Go.Builtin.append, args := #[Go.Operand.tmp 19, Go.Operand.tmp 20], argTypes := #[24, 24] }, type := 24, pos := _, after := #[{ on := 2, ground := Go.Ground.data }, { on := 3, ground := Go.Ground.data }, { on := 2, ground := Go.Ground.chain }], guard := none }) rfl (fun K hK => ?_) ?_
        · skip
          refine step_append_ints rfl _ _ rfl (w1.drew.alloc (.cells #[.int .i64 24] 3)).heap.size cad cn ccp a rfl oc_v20.out (some ⟨w1.heap.size, 0, none⟩) 1 1 [24] rfl ol_21.out hlen (by first | exact Nat.le_refl _ | (simp; omega) | (have hq := zc; simp at hq ⊢; omega)) ?_
          intro al4 n4 cl4 v21 hn4 ho4 hB4 hK4
          have e21 : Below w1.heap.size w1.drew v21 := hB4 w1.heap.size w1.drew (by first | exact Nat.le_refl _ | (have h := Below.size e19; exact h)) e20
          have oa_v21 := Hid.mk' ho4
          clear hB4 hK4 ho4
          refine hK.out _ _ e21 (fun hHeld => ?_)
          clear hK K
          (try simp only [Act.put]); (try simp only [List.setIfInBounds_toArray]); (try simp only [List.set_cons_succ]); (try simp only [List.set_cons_zero])
          refine wpAnyH_ready (rs := [5, 10]) (by kernel_rfl) (by simp) ?_
          refine AllReadyH.cons (o := { dst := some 22, op := Go.Op.call { callee := Go.Callee.value (Go.Operand.func 6), args := #[Go.Operand.tmp 17, Go.Operand.tmp 21], argTypes := #[23, 24] }, type := 27, pos := _, after := #[{ on := 0, ground := Go.Ground.data }, { on := 4, ground := Go.Ground.data }, { on := 4, ground := Go.Ground.chain }], guard := none }) rfl (fun K hK => ?_) ?_
          · skip
            go_simp
            refine (HF.out v21 (.slice al4 n4 cl4) oa_v21.out).mono ?_
            rintro e v22 ⟨vl, rfl, hrv22, hbv22⟩
            have e22 : Below w1.heap.size w1.drew v22 := Below.trans e21 (Below.mono hbv22 (by have h := Below.size e21; exact h))
            have rt_v22 := Hid.mk' hrv22
            go_wp2_with fail
            refine hK.out _ _ e22 (fun hHeld => ?_)
            clear hK K
            (try simp only [Act.put]); (try simp only [List.setIfInBounds_toArray]); (try simp only [List.set_cons_succ]); (try simp only [List.set_cons_zero])
            refine wpAnyH_take (i := 6) (oi := { dst := some 16, op := Go.Op.move (Go.Operand.tmp 22), type := 27, pos := _, after := #[{ on := 5, ground := Go.Ground.data }], guard := none }) (v := .tuple #[.agg #[.int .i64 x0, .int .i64 x1, .string y2, .string y3, .string y4], vl, .int .i64 er]) rfl (by kernel_rfl) (by kernel_rfl) (by kernel_rfl) (fun _ _ _ h => h) (Or.inl ⟨by rfl, fun w' hSw => ?_⟩) (by assumption) ?_
            · (try dsimp only at hSw); go_simp
            (try simp only [Act.put]); (try simp only [List.setIfInBounds_toArray]); (try simp only [List.set_cons_succ]); (try simp only [List.set_cons_zero])
            refine wpAnyH_take (i := 7) (oi := { dst := some 23, op := Go.Op.extract (Go.Operand.tmp 16) 0, type := 23, pos := _, after := #[{ on := 6, ground := Go.Ground.data }], guard := none }) (v := .agg #[.int .i64 x0, .int .i64 x1, .string y2, .string y3, .string y4]) rfl (by kernel_rfl) (by kernel_rfl) (by kernel_rfl) (fun _ _ _ h => h) (Or.inl ⟨by rfl, fun w' hSw => ?_⟩) (by assumption) ?_
            · (try dsimp only at hSw); go_simp
            (try simp only [Act.put]); (try simp only [List.setIfInBounds_toArray]); (try simp only [List.set_cons_succ]); (try simp only [List.set_cons_zero])
            refine wpAnyH_take (i := 8) (oi := { dst := some 24, op := Go.Op.extract (Go.Operand.tmp 16) 1, type := 25, pos := _, after := #[{ on := 6, ground := Go.Ground.data }, { on := 11, ground := Go.Ground.gcOnly Go.Departure.lateStores }], guard := none }) (v := vl) rfl (by kernel_rfl) (by kernel_rfl) (by kernel_rfl) (fun _ _ _ h => h) (Or.inl ⟨by rfl, fun w' hSw => ?_⟩) (by assumption) ?_
            · (try dsimp only at hSw); go_simp
            (try simp only [Act.put]); (try simp only [List.setIfInBounds_toArray]); (try simp only [List.set_cons_succ]); (try simp only [List.set_cons_zero])
            refine wpAnyH_take (i := 9) (oi := { dst := some 25, op := Go.Op.extract (Go.Operand.tmp 16) 2, type := 26, pos := _, after := #[{ on := 6, ground := Go.Ground.data }, { on := 12, ground := Go.Ground.gcOnly Go.Departure.lateStores }], guard := none }) (v := .int .i64 er) rfl (by kernel_rfl) (by kernel_rfl) (by kernel_rfl) (fun _ _ _ h => h) (Or.inl ⟨by rfl, fun w' hSw => ?_⟩) (by assumption) ?_
            · (try dsimp only at hSw); go_simp
            (try simp only [Act.put]); (try simp only [List.setIfInBounds_toArray]); (try simp only [List.set_cons_succ]); (try simp only [List.set_cons_zero])
            refine wpAnyH_ready (rs := [10]) (by kernel_rfl) (by simp) ?_
            refine AllReadyH.cons (o := { dst := some 7, op := Go.Op.alloc 23, type := 0, pos := _, after := #[], guard := none }) rfl (fun K hK => ?_) ?_
            · skip
              go_simp
              have e23 : Below w1.heap.size w1.drew (v22.alloc (.cells #[.int .i64 0, .int .i64 0, .string ⟨#[]⟩, .string ⟨#[]⟩, .string ⟨#[]⟩] 23)) := Below.alloc e22 (by have h := Below.size e22; exact h) _
              have rt_22 := Hid.mk' (rt_v22.out.below (Below.alloc (Below.refl v22.heap.size v22) (Nat.le_refl _) (.cells #[.int .i64 0, .int .i64 0, .string ⟨#[]⟩, .string ⟨#[]⟩, .string ⟨#[]⟩] 23)))
              have bx_23 : Hid (Box (v22.alloc (.cells #[.int .i64 0, .int .i64 0, .string ⟨#[]⟩, .string ⟨#[]⟩, .string ⟨#[]⟩] 23)) v22.heap.size 23 [.int .i64 0, .int .i64 0, .string ⟨#[]⟩, .string ⟨#[]⟩, .string ⟨#[]⟩]) := Hid.mk' (Box.new v22 _ _)
              have zb : w1.heap.size ≤ v22.heap.size := (by have h := Below.size e22; exact h)
              refine hK.out _ _ e23 (fun hHeld => ?_)
              clear hK K
              (try simp only [Act.put]); (try simp only [List.setIfInBounds_toArray]); (try simp only [List.set_cons_succ]); (try simp only [List.set_cons_zero])
              refine wpAnyH_ready (rs := [11]) (by kernel_rfl) (by simp) ?_
              refine AllReadyH.cons (o := { dst := none, op := Go.Op.store 23 (Go.Operand.tmp 7) (Go.Operand.tmp 23), type := 0, pos := _, after := #[{ on := 10, ground := Go.Ground.data }, { on := 7, ground := Go.Ground.data }, { on := 5, ground := Go.Ground.chain }, { on := 0, ground := Go.Ground.phase }, { on := 1, ground := Go.Ground.phase }, { on := 2, ground := Go.Ground.phase }, { on := 3, ground := Go.Ground.phase }, { on := 4, ground := Go.Ground.phase }, { on := 5, ground := Go.Ground.phase }, { on := 6, ground := Go.Ground.phase }, { on := 7, ground := Go.Ground.phase }, { on := 8, ground := Go.Ground.textOnly Go.Departure.lateStores }, { on := 9, ground := Go.Ground.textOnly Go.Departure.lateStores }, { on := 10, ground := Go.Ground.phase }], guard := none }) rfl (fun K hK => ?_) ?_
              · skip
                have hS5 : Lies (v22.alloc (.cells #[.int .i64 0, .int .i64 0, .string ⟨#[]⟩, .string ⟨#[]⟩, .string ⟨#[]⟩] 23)) (.pointer (some ⟨v22.heap.size, 0, none⟩)) 5 := bx_23.out.lies0 rfl
                have sP := bx_23.out.putAt [.int .i64 x0, .int .i64 x1, .string y2, .string y3, .string y4] rfl
                go_simp
                have e24 : Below w1.heap.size w1.drew (Q.putAt (v22.alloc (.cells #[.int .i64 0, .int .i64 0, .string ⟨#[]⟩, .string ⟨#[]⟩, .string ⟨#[]⟩] 23)) (.pointer (some ⟨v22.heap.size, 0, none⟩)) (.agg #[.int .i64 x0, .int .i64 x1, .string y2, .string y3, .string y4])) := sP.below _ _ zb e23
                have bxf := Hid.mk' sP.box
                have rtf := Hid.mk' (rt_22.out.keep (KeepP.put bx_23.out sP.other))
                clear hS5 sP
                refine hK.out _ _ e24 (fun hHeld => ?_)
                clear hK K
                (try simp only [Act.put]); (try simp only [List.setIfInBounds_toArray]); (try simp only [List.set_cons_succ]); (try simp only [List.set_cons_zero])
                refine wpAnyH_take (i := 12) (oi := { dst := some 8, op := Go.Op.assign (Go.Operand.tmp 24), type := 25, pos := _, after := #[{ on := 8, ground := Go.Ground.data }, { on := 11, ground := Go.Ground.chain }, { on := 0, ground := Go.Ground.phase }, { on := 1, ground := Go.Ground.phase }, { on := 2, ground := Go.Ground.phase }, { on := 3, ground := Go.Ground.phase }, { on := 4, ground := Go.Ground.phase }, { on := 5, ground := Go.Ground.phase }, { on := 6, ground := Go.Ground.phase }, { on := 7, ground := Go.Ground.phase }, { on := 8, ground := Go.Ground.phase }, { on := 9, ground := Go.Ground.textOnly Go.Departure.lateStores }, { on := 10, ground := Go.Ground.phase }, { on := 11, ground := Go.Ground.phase }], guard := none }) (v := vl) rfl (by kernel_rfl) (by kernel_rfl) (by kernel_rfl) (fun _ _ _ h => h) (Or.inl ⟨by rfl, fun w' hSw => ?_⟩) (by assumption) ?_
                · (try dsimp only at hSw); go_simp
                (try simp only [Act.put]); (try simp only [List.setIfInBounds_toArray]); (try simp only [List.set_cons_succ]); (try simp only [List.set_cons_zero])
                refine wpAnyH_take (i := 13) (oi := { dst := some 9, op := Go.Op.assign (Go.Operand.tmp 25), type := 26, pos := _, after := #[{ on := 9, ground := Go.Ground.data }, { on := 12, ground := Go.Ground.chain }, { on := 0, ground := Go.Ground.phase }, { on := 1, ground := Go.Ground.phase }, { on := 2, ground := Go.Ground.phase }, { on := 3, ground := Go.Ground.phase }, { on := 4, ground := Go.Ground.phase }, { on := 5, ground := Go.Ground.phase }, { on := 6, ground := Go.Ground.phase }, { on := 7, ground := Go.Ground.phase }, { on := 8, ground := Go.Ground.phase }, { on := 9, ground := Go.Ground.phase }, { on := 10, ground := Go.Ground.phase }, { on := 11, ground := Go.Ground.phase }, { on := 12, ground := Go.Ground.phase }], guard := none }) (v := .int .i64 er) rfl (by kernel_rfl) (by kernel_rfl) (by kernel_rfl) (fun _ _ _ h => h) (Or.inl ⟨by rfl, fun w' hSw => ?_⟩) (by assumption) ?_
                · (try dsimp only at hSw); go_simp
                (try simp only [Act.put]); (try simp only [List.setIfInBounds_toArray]); (try simp only [List.set_cons_succ]); (try simp only [List.set_cons_zero])
                refine wpAnyH_done (by kernel_rfl) ?_ _
                refine NoPanic.normal ?_
                have HFE := Hid.mk' e24
                generalize (Q.putAt (v22.alloc (.cells #[.int .i64 0, .int .i64 0, .string ⟨#[]⟩, .string ⟨#[]⟩, .string ⟨#[]⟩] 23)) (.pointer (some ⟨v22.heap.size, 0, none⟩)) (.agg #[.int .i64 x0, .int .i64 x1, .string y2, .string y3, .string y4])) = wE at *
                clear e24
                go_wp2_with fail
                go_meet
                exact ⟨v22.heap.size, vl, rfl, rfl, rfl, bxf.out, rtf.out, HFE.out⟩
              exact AllReadyH.nil
            exact AllReadyH.nil
          refine AllReadyH.cons (o := { dst := some 7, op := Go.Op.alloc 23, type := 0, pos := _, after := #[], guard := none }) rfl (fun K hK => ?_) ?_
          · skip
            go_simp
            have e25 : Below w1.heap.size w1.drew (v21.alloc (.cells #[.int .i64 0, .int .i64 0, .string ⟨#[]⟩, .string ⟨#[]⟩, .string ⟨#[]⟩] 23)) := Below.alloc e21 (by have h := Below.size e21; exact h) _
            have ra_24 := Hid.mk' (oa_v21.out.below (Below.alloc (Below.refl v21.heap.size v21) (Nat.le_refl _) (.cells #[.int .i64 0, .int .i64 0, .string ⟨#[]⟩, .string ⟨#[]⟩, .string ⟨#[]⟩] 23)))
            have bx_25 : Hid (Box (v21.alloc (.cells #[.int .i64 0, .int .i64 0, .string ⟨#[]⟩, .string ⟨#[]⟩, .string ⟨#[]⟩] 23)) v21.heap.size 23 [.int .i64 0, .int .i64 0, .string ⟨#[]⟩, .string ⟨#[]⟩, .string ⟨#[]⟩]) := Hid.mk' (Box.new v21 _ _)
            have zb : w1.heap.size ≤ v21.heap.size := (by have h := Below.size e21; exact h)
            refine hK.out _ _ e25 (fun hHeld => ?_)
            clear hK K
            (try simp only [Act.put]); (try simp only [List.setIfInBounds_toArray]); (try simp only [List.set_cons_succ]); (try simp only [List.set_cons_zero])
            refine wpAnyH_ready (rs := [5]) (by kernel_rfl) (by simp) ?_
            refine AllReadyH.cons (o := { dst := some 22, op := Go.Op.call { callee := Go.Callee.value (Go.Operand.func 6), args := #[Go.Operand.tmp 17, Go.Operand.tmp 21], argTypes := #[23, 24] }, type := 27, pos := _, after := #[{ on := 0, ground := Go.Ground.data }, { on := 4, ground := Go.Ground.data }, { on := 4, ground := Go.Ground.chain }], guard := none }) rfl (fun K hK => ?_) ?_
            · skip
              go_simp
              refine (HF.out (v21.alloc (.cells #[.int .i64 0, .int .i64 0, .string ⟨#[]⟩, .string ⟨#[]⟩, .string ⟨#[]⟩] 23)) (.slice al4 n4 cl4) ra_24.out).mono ?_
              rintro e v26 ⟨vl, rfl, hrv26, hbv26⟩
              have e26 : Below w1.heap.size w1.drew v26 := Below.trans e25 (Below.mono hbv26 (by have h := Below.size e25; exact h))
              have bx_26 := Hid.mk' (bx_25.out.later hbv26)
              have rt_v26 := Hid.mk' hrv26
              go_wp2_with fail
              refine hK.out _ _ e26 (fun hHeld => ?_)
              clear hK K
              (try simp only [Act.put]); (try simp only [List.setIfInBounds_toArray]); (try simp only [List.set_cons_succ]); (try simp only [List.set_cons_zero])
              refine wpAnyH_take (i := 6) (oi := { dst := some 16, op := Go.Op.move (Go.Operand.tmp 22), type := 27, pos := _, after := #[{ on := 5, ground := Go.Ground.data }], guard := none }) (v := .tuple #[.agg #[.int .i64 x0, .int .i64 x1, .string y2, .string y3, .string y4], vl, .int .i64 er]) rfl (by kernel_rfl) (by kernel_rfl) (by kernel_rfl) (fun _ _ _ h => h) (Or.inl ⟨by rfl, fun w' hSw => ?_⟩) (by assumption) ?_
              · (try dsimp only at hSw); go_simp
              (try simp only [Act.put]); (try simp only [List.setIfInBounds_toArray]); (try simp only [List.set_cons_succ]); (try simp only [List.set_cons_zero])
              refine wpAnyH_take (i := 7) (oi := { dst := some 23, op := Go.Op.extract (Go.Operand.tmp 16) 0, type := 23, pos := _, after := #[{ on := 6, ground := Go.Ground.data }], guard := none }) (v := .agg #[.int .i64 x0, .int .i64 x1, .string y2, .string y3, .string y4]) rfl (by kernel_rfl) (by kernel_rfl) (by kernel_rfl) (fun _ _ _ h => h) (Or.inl ⟨by rfl, fun w' hSw => ?_⟩) (by assumption) ?_
              · (try dsimp only at hSw); go_simp
              (try simp only [Act.put]); (try simp only [List.setIfInBounds_toArray]); (try simp only [List.set_cons_succ]); (try simp only [List.set_cons_zero])
              refine wpAnyH_take (i := 8) (oi := { dst := some 24, op := Go.Op.extract (Go.Operand.tmp 16) 1, type := 25, pos := _, after := #[{ on := 6, ground := Go.Ground.data }, { on := 11, ground := Go.Ground.gcOnly Go.Departure.lateStores }], guard := none }) (v := vl) rfl (by kernel_rfl) (by kernel_rfl) (by kernel_rfl) (fun _ _ _ h => h) (Or.inl ⟨by rfl, fun w' hSw => ?_⟩) (by assumption) ?_
              · (try dsimp only at hSw); go_simp
              (try simp only [Act.put]); (try simp only [List.setIfInBounds_toArray]); (try simp only [List.set_cons_succ]); (try simp only [List.set_cons_zero])
              refine wpAnyH_take (i := 9) (oi := { dst := some 25, op := Go.Op.extract (Go.Operand.tmp 16) 2, type := 26, pos := _, after := #[{ on := 6, ground := Go.Ground.data }, { on := 12, ground := Go.Ground.gcOnly Go.Departure.lateStores }], guard := none }) (v := .int .i64 er) rfl (by kernel_rfl) (by kernel_rfl) (by kernel_rfl) (fun _ _ _ h => h) (Or.inl ⟨by rfl, fun w' hSw => ?_⟩) (by assumption) ?_
              · (try dsimp only at hSw); go_simp
              (try simp only [Act.put]); (try simp only [List.setIfInBounds_toArray]); (try simp only [List.set_cons_succ]); (try simp only [List.set_cons_zero])
              refine wpAnyH_ready (rs := [11]) (by kernel_rfl) (by simp) ?_
              refine AllReadyH.cons (o := { dst := none, op := Go.Op.store 23 (Go.Operand.tmp 7) (Go.Operand.tmp 23), type := 0, pos := _, after := #[{ on := 10, ground := Go.Ground.data }, { on := 7, ground := Go.Ground.data }, { on := 5, ground := Go.Ground.chain }, { on := 0, ground := Go.Ground.phase }, { on := 1, ground := Go.Ground.phase }, { on := 2, ground := Go.Ground.phase }, { on := 3, ground := Go.Ground.phase }, { on := 4, ground := Go.Ground.phase }, { on := 5, ground := Go.Ground.phase }, { on := 6, ground := Go.Ground.phase }, { on := 7, ground := Go.Ground.phase }, { on := 8, ground := Go.Ground.textOnly Go.Departure.lateStores }, { on := 9, ground := Go.Ground.textOnly Go.Departure.lateStores }, { on := 10, ground := Go.Ground.phase }], guard := none }) rfl (fun K hK => ?_) ?_
              · skip
                have hS5 : Lies v26 (.pointer (some ⟨v21.heap.size, 0, none⟩)) 5 := bx_26.out.lies0 rfl
                have sP := bx_26.out.putAt [.int .i64 x0, .int .i64 x1, .string y2, .string y3, .string y4] rfl
                go_simp
                have e27 : Below w1.heap.size w1.drew (Q.putAt v26 (.pointer (some ⟨v21.heap.size, 0, none⟩)) (.agg #[.int .i64 x0, .int .i64 x1, .string y2, .string y3, .string y4])) := sP.below _ _ zb e26
                have bxf := Hid.mk' sP.box
                have rtf := Hid.mk' (rt_v26.out.keep (KeepP.put bx_26.out sP.other))
                clear hS5 sP
                refine hK.out _ _ e27 (fun hHeld => ?_)
                clear hK K
                (try simp only [Act.put]); (try simp only [List.setIfInBounds_toArray]); (try simp only [List.set_cons_succ]); (try simp only [List.set_cons_zero])
                refine wpAnyH_take (i := 12) (oi := { dst := some 8, op := Go.Op.assign (Go.Operand.tmp 24), type := 25, pos := _, after := #[{ on := 8, ground := Go.Ground.data }, { on := 11, ground := Go.Ground.chain }, { on := 0, ground := Go.Ground.phase }, { on := 1, ground := Go.Ground.phase }, { on := 2, ground := Go.Ground.phase }, { on := 3, ground := Go.Ground.phase }, { on := 4, ground := Go.Ground.phase }, { on := 5, ground := Go.Ground.phase }, { on := 6, ground := Go.Ground.phase }, { on := 7, ground := Go.Ground.phase }, { on := 8, ground := Go.Ground.phase }, { on := 9, ground := Go.Ground.textOnly Go.Departure.lateStores }, { on := 10, ground := Go.Ground.phase }, { on := 11, ground := Go.Ground.phase }], guard := none }) (v := vl) rfl (by kernel_rfl) (by kernel_rfl) (by kernel_rfl) (fun _ _ _ h => h) (Or.inl ⟨by rfl, fun w' hSw => ?_⟩) (by assumption) ?_
                · (try dsimp only at hSw); go_simp
                (try simp only [Act.put]); (try simp only [List.setIfInBounds_toArray]); (try simp only [List.set_cons_succ]); (try simp only [List.set_cons_zero])
                refine wpAnyH_take (i := 13) (oi := { dst := some 9, op := Go.Op.assign (Go.Operand.tmp 25), type := 26, pos := _, after := #[{ on := 9, ground := Go.Ground.data }, { on := 12, ground := Go.Ground.chain }, { on := 0, ground := Go.Ground.phase }, { on := 1, ground := Go.Ground.phase }, { on := 2, ground := Go.Ground.phase }, { on := 3, ground := Go.Ground.phase }, { on := 4, ground := Go.Ground.phase }, { on := 5, ground := Go.Ground.phase }, { on := 6, ground := Go.Ground.phase }, { on := 7, ground := Go.Ground.phase }, { on := 8, ground := Go.Ground.phase }, { on := 9, ground := Go.Ground.phase }, { on := 10, ground := Go.Ground.phase }, { on := 11, ground := Go.Ground.phase }, { on := 12, ground := Go.Ground.phase }], guard := none }) (v := .int .i64 er) rfl (by kernel_rfl) (by kernel_rfl) (by kernel_rfl) (fun _ _ _ h => h) (Or.inl ⟨by rfl, fun w' hSw => ?_⟩) (by assumption) ?_
                · (try dsimp only at hSw); go_simp
                (try simp only [Act.put]); (try simp only [List.setIfInBounds_toArray]); (try simp only [List.set_cons_succ]); (try simp only [List.set_cons_zero])
                refine wpAnyH_done (by kernel_rfl) ?_ _
                refine NoPanic.normal ?_
                have HFE := Hid.mk' e27
                generalize (Q.putAt v26 (.pointer (some ⟨v21.heap.size, 0, none⟩)) (.agg #[.int .i64 x0, .int .i64 x1, .string y2, .string y3, .string y4])) = wE at *
                clear e27
                go_wp2_with fail
                go_meet
                exact ⟨v21.heap.size, vl, rfl, rfl, rfl, bxf.out, rtf.out, HFE.out⟩
              exact AllReadyH.nil
            exact AllReadyH.nil
          exact AllReadyH.nil
        refine AllReadyH.cons (o := { dst := some 7, op := Go.Op.alloc 23, type := 0, pos := _, after := #[], guard := none }) rfl (fun K hK => ?_) ?_
        · skip
          go_simp
          have e28 : Below w1.heap.size w1.drew (v20.alloc (.cells #[.int .i64 0, .int .i64 0, .string ⟨#[]⟩, .string ⟨#[]⟩, .string ⟨#[]⟩] 23)) := Below.alloc e20 (by have h := Below.size e20; exact h) _
          have ol_27 := Hid.mk' (ol_21.out.below (Below.alloc (Below.refl v20.heap.size v20) (Nat.le_refl _) (.cells #[.int .i64 0, .int .i64 0, .string ⟨#[]⟩, .string ⟨#[]⟩, .string ⟨#[]⟩] 23)))
          have oc_28 := Hid.mk' (oc_v20.out.below (Below.alloc (Below.refl v20.heap.size v20) (Nat.le_refl _) (.cells #[.int .i64 0, .int .i64 0, .string ⟨#[]⟩, .string ⟨#[]⟩, .string ⟨#[]⟩] 23)))
          have bx_29 : Hid (Box (v20.alloc (.cells #[.int .i64 0, .int .i64 0, .string ⟨#[]⟩, .string ⟨#[]⟩, .string ⟨#[]⟩] 23)) v20.heap.size 23 [.int .i64 0, .int .i64 0, .string ⟨#[]⟩, .string ⟨#[]⟩, .string ⟨#[]⟩]) := Hid.mk' (Box.new v20 _ _)
          have zb : w1.heap.size ≤ v20.heap.size := (by have h := Below.size e20; exact h)
          refine hK.out _ _ e28 (fun hHeld => ?_)
          clear hK K
          (try simp only [Act.put]); (try simp only [List.setIfInBounds_toArray]); (try simp only [List.set_cons_succ]); (try simp only [List.set_cons_zero])
          refine wpAnyH_ready (rs := [4]) (by kernel_rfl) (by simp) ?_
          refine AllReadyH.cons (o := { dst := some 21, op := Go.Op.call { callee := Go.Callee.builtin Go.Builtin.append, args := #[Go.Operand.tmp 19, Go.Operand.tmp 20], argTypes := #[24, 24] }, type := 24, pos := _, after := #[{ on := 2, ground := Go.Ground.data }, { on := 3, ground := Go.Ground.data }, { on := 2, ground := Go.Ground.chain }], guard := none }) rfl (fun K hK => ?_) ?_
          · skip
            refine step_append_ints rfl _ _ rfl (w1.drew.alloc (.cells #[.int .i64 24] 3)).heap.size cad cn ccp a rfl oc_28.out (some ⟨w1.heap.size, 0, none⟩) 1 1 [24] rfl ol_27.out hlen (by first | exact Nat.le_refl _ | (simp; omega) | (have hq := zc; simp at hq ⊢; omega)) ?_
            intro al4 n4 cl4 v29 hn4 ho4 hB4 hK4
            have e29 : Below w1.heap.size w1.drew v29 := hB4 w1.heap.size w1.drew (by first | exact Nat.le_refl _ | (have h := Below.size e19; exact h)) e28
            have oa_v29 := Hid.mk' ho4
            have bx_30 := Hid.mk' (show Box v29 v20.heap.size 23 [.int .i64 0, .int .i64 0, .string ⟨#[]⟩, .string ⟨#[]⟩, .string ⟨#[]⟩] from hK4 _ _ _ _ (by decide) bx_29.out)
            clear hB4 hK4 ho4
            refine hK.out _ _ e29 (fun hHeld => ?_)
            clear hK K
            (try simp only [Act.put]); (try simp only [List.setIfInBounds_toArray]); (try simp only [List.set_cons_succ]); (try simp only [List.set_cons_zero])
            refine wpAnyH_ready (rs := [5]) (by kernel_rfl) (by simp) ?_
            refine AllReadyH.cons (o := { dst := some 22, op := Go.Op.call { callee := Go.Callee.value (Go.Operand.func 6), args := #[Go.Operand.tmp 17, Go.Operand.tmp 21], argTypes := #[23, 24] }, type := 27, pos := _, after := #[{ on := 0, ground := Go.Ground.data }, { on := 4, ground := Go.Ground.data }, { on := 4, ground := Go.Ground.chain }], guard := none }) rfl (fun K hK => ?_) ?_
            · skip
              go_simp
              refine (HF.out v29 (.slice al4 n4 cl4) oa_v29.out).mono ?_
              rintro e v30 ⟨vl, rfl, hrv30, hbv30⟩
              have e30 : Below w1.heap.size w1.drew v30 := Below.trans e29 (Below.mono hbv30 (by have h := Below.size e29; exact h))
              have bx_31 := Hid.mk' (bx_30.out.later hbv30)
              have rt_v30 := Hid.mk' hrv30
              go_wp2_with fail
              refine hK.out _ _ e30 (fun hHeld => ?_)
              clear hK K
              (try simp only [Act.put]); (try simp only [List.setIfInBounds_toArray]); (try simp only [List.set_cons_succ]); (try simp only [List.set_cons_zero])
              refine wpAnyH_take (i := 6) (oi := { dst := some 16, op := Go.Op.move (Go.Operand.tmp 22), type := 27, pos := _, after := #[{ on := 5, ground := Go.Ground.data }], guard := none }) (v := .tuple #[.agg #[.int .i64 x0, .int .i64 x1, .string y2, .string y3, .string y4], vl, .int .i64 er]) rfl (by kernel_rfl) (by kernel_rfl) (by kernel_rfl) (fun _ _ _ h => h) (Or.inl ⟨by rfl, fun w' hSw => ?_⟩) (by assumption) ?_
              · (try dsimp only at hSw); go_simp
              (try simp only [Act.put]); (try simp only [List.setIfInBounds_toArray]); (try simp only [List.set_cons_succ]); (try simp only [List.set_cons_zero])
              refine wpAnyH_take (i := 7) (oi := { dst := some 23, op := Go.Op.extract (Go.Operand.tmp 16) 0, type := 23, pos := _, after := #[{ on := 6, ground := Go.Ground.data }], guard := none }) (v := .agg #[.int .i64 x0, .int .i64 x1, .string y2, .string y3, .string y4]) rfl (by kernel_rfl) (by kernel_rfl) (by kernel_rfl) (fun _ _ _ h => h) (Or.inl ⟨by rfl, fun w' hSw => ?_⟩) (by assumption) ?_
              · (try dsimp only at hSw); go_simp
              (try simp only [Act.put]); (try simp only [List.setIfInBounds_toArray]); (try simp only [List.set_cons_succ]); (try simp only [List.set_cons_zero])
              refine wpAnyH_take (i := 8) (oi := { dst := some 24, op := Go.Op.extract (Go.Operand.tmp 16) 1, type := 25, pos := _, after := #[{ on := 6, ground := Go.Ground.data }, { on := 11, ground := Go.Ground.gcOnly Go.Departure.lateStores }], guard := none }) (v := vl) rfl (by kernel_rfl) (by kernel_rfl) (by kernel_rfl) (fun _ _ _ h => h) (Or.inl ⟨by rfl, fun w' hSw => ?_⟩) (by assumption) ?_
              · (try dsimp only at hSw); go_simp
              (try simp only [Act.put]); (try simp only [List.setIfInBounds_toArray]); (try simp only [List.set_cons_succ]); (try simp only [List.set_cons_zero])
              refine wpAnyH_take (i := 9) (oi := { dst := some 25, op := Go.Op.extract (Go.Operand.tmp 16) 2, type := 26, pos := _, after := #[{ on := 6, ground := Go.Ground.data }, { on := 12, ground := Go.Ground.gcOnly Go.Departure.lateStores }], guard := none }) (v := .int .i64 er) rfl (by kernel_rfl) (by kernel_rfl) (by kernel_rfl) (fun _ _ _ h => h) (Or.inl ⟨by rfl, fun w' hSw => ?_⟩) (by assumption) ?_
              · (try dsimp only at hSw); go_simp
              (try simp only [Act.put]); (try simp only [List.setIfInBounds_toArray]); (try simp only [List.set_cons_succ]); (try simp only [List.set_cons_zero])
              refine wpAnyH_ready (rs := [11]) (by kernel_rfl) (by simp) ?_
              refine AllReadyH.cons (o := { dst := none, op := Go.Op.store 23 (Go.Operand.tmp 7) (Go.Operand.tmp 23), type := 0, pos := _, after := #[{ on := 10, ground := Go.Ground.data }, { on := 7, ground := Go.Ground.data }, { on := 5, ground := Go.Ground.chain }, { on := 0, ground := Go.Ground.phase }, { on := 1, ground := Go.Ground.phase }, { on := 2, ground := Go.Ground.phase }, { on := 3, ground := Go.Ground.phase }, { on := 4, ground := Go.Ground.phase }, { on := 5, ground := Go.Ground.phase }, { on := 6, ground := Go.Ground.phase }, { on := 7, ground := Go.Ground.phase }, { on := 8, ground := Go.Ground.textOnly Go.Departure.lateStores }, { on := 9, ground := Go.Ground.textOnly Go.Departure.lateStores }, { on := 10, ground := Go.Ground.phase }], guard := none }) rfl (fun K hK => ?_) ?_
              · skip
                have hS5 : Lies v30 (.pointer (some ⟨v20.heap.size, 0, none⟩)) 5 := bx_31.out.lies0 rfl
                have sP := bx_31.out.putAt [.int .i64 x0, .int .i64 x1, .string y2, .string y3, .string y4] rfl
                go_simp
                have e31 : Below w1.heap.size w1.drew (Q.putAt v30 (.pointer (some ⟨v20.heap.size, 0, none⟩)) (.agg #[.int .i64 x0, .int .i64 x1, .string y2, .string y3, .string y4])) := sP.below _ _ zb e30
                have bxf := Hid.mk' sP.box
                have rtf := Hid.mk' (rt_v30.out.keep (KeepP.put bx_31.out sP.other))
                clear hS5 sP
                refine hK.out _ _ e31 (fun hHeld => ?_)
                clear hK K
                (try simp only [Act.put]); (try simp only [List.setIfInBounds_toArray]); (try simp only [List.set_cons_succ]); (try simp only [List.set_cons_zero])
                refine wpAnyH_take (i := 12) (oi := { dst := some 8, op := Go.Op.assign (Go.Operand.tmp 24), type := 25, pos := _, after := #[{ on := 8, ground := Go.Ground.data }, { on := 11, ground := Go.Ground.chain }, { on := 0, ground := Go.Ground.phase }, { on := 1, ground := Go.Ground.phase }, { on := 2, ground := Go.Ground.phase }, { on := 3, ground := Go.Ground.phase }, { on := 4, ground := Go.Ground.phase }, { on := 5, ground := Go.Ground.phase }, { on := 6, ground := Go.Ground.phase }, { on := 7, ground := Go.Ground.phase }, { on := 8, ground := Go.Ground.phase }, { on := 9, ground := Go.Ground.textOnly Go.Departure.lateStores }, { on := 10, ground := Go.Ground.phase }, { on := 11, ground := Go.Ground.phase }], guard := none }) (v := vl) rfl (by kernel_rfl) (by kernel_rfl) (by kernel_rfl) (fun _ _ _ h => h) (Or.inl ⟨by rfl, fun w' hSw => ?_⟩) (by assumption) ?_
                · (try dsimp only at hSw); go_simp
                (try simp only [Act.put]); (try simp only [List.setIfInBounds_toArray]); (try simp only [List.set_cons_succ]); (try simp only [List.set_cons_zero])
                refine wpAnyH_take (i := 13) (oi := { dst := some 9, op := Go.Op.assign (Go.Operand.tmp 25), type := 26, pos := _, after := #[{ on := 9, ground := Go.Ground.data }, { on := 12, ground := Go.Ground.chain }, { on := 0, ground := Go.Ground.phase }, { on := 1, ground := Go.Ground.phase }, { on := 2, ground := Go.Ground.phase }, { on := 3, ground := Go.Ground.phase }, { on := 4, ground := Go.Ground.phase }, { on := 5, ground := Go.Ground.phase }, { on := 6, ground := Go.Ground.phase }, { on := 7, ground := Go.Ground.phase }, { on := 8, ground := Go.Ground.phase }, { on := 9, ground := Go.Ground.phase }, { on := 10, ground := Go.Ground.phase }, { on := 11, ground := Go.Ground.phase }, { on := 12, ground := Go.Ground.phase }], guard := none }) (v := .int .i64 er) rfl (by kernel_rfl) (by kernel_rfl) (by kernel_rfl) (fun _ _ _ h => h) (Or.inl ⟨by rfl, fun w' hSw => ?_⟩) (by assumption) ?_
                · (try dsimp only at hSw); go_simp
                (try simp only [Act.put]); (try simp only [List.setIfInBounds_toArray]); (try simp only [List.set_cons_succ]); (try simp only [List.set_cons_zero])
                refine wpAnyH_done (by kernel_rfl) ?_ _
                refine NoPanic.normal ?_
                have HFE := Hid.mk' e31
                generalize (Q.putAt v30 (.pointer (some ⟨v20.heap.size, 0, none⟩)) (.agg #[.int .i64 x0, .int .i64 x1, .string y2, .string y3, .string y4])) = wE at *
                clear e31
                go_wp2_with fail
                go_meet
                exact ⟨v20.heap.size, vl, rfl, rfl, rfl, bxf.out, rtf.out, HFE.out⟩
              exact AllReadyH.nil
            exact AllReadyH.nil
          exact AllReadyH.nil
        exact AllReadyH.nil
      refine AllReadyH.cons (o := { dst := some 7, op := Go.Op.alloc 23, type := 0, pos := _, after := #[], guard := none }) rfl (fun K hK => ?_) ?_
      · skip
        go_simp
        have e32 : Below w1.heap.size w1.drew ((w1.drew.alloc (.cells #[.int .i64 24] 3)).alloc (.cells #[.int .i64 0, .int .i64 0, .string ⟨#[]⟩, .string ⟨#[]⟩, .string ⟨#[]⟩] 23)) := Below.alloc e19 (by have h := Below.size e19; exact h) _
        have ol_32 := Hid.mk' (ol_20.out.below (Below.alloc (Below.refl (w1.drew.alloc (.cells #[.int .i64 24] 3)).heap.size (w1.drew.alloc (.cells #[.int .i64 24] 3))) (Nat.le_refl _) (.cells #[.int .i64 0, .int .i64 0, .string ⟨#[]⟩, .string ⟨#[]⟩, .string ⟨#[]⟩] 23)))
        have bx_33 : Hid (Box ((w1.drew.alloc (.cells #[.int .i64 24] 3)).alloc (.cells #[.int .i64 0, .int .i64 0, .string ⟨#[]⟩, .string ⟨#[]⟩, .string ⟨#[]⟩] 23)) (w1.heap.size + 1) 23 [.int .i64 0, .int .i64 0, .string ⟨#[]⟩, .string ⟨#[]⟩, .string ⟨#[]⟩]) := Hid.mk' (by have h := Box.new (w1.drew.alloc (.cells #[.int .i64 24] 3)) 23 [.int .i64 0, .int .i64 0, .string ⟨#[]⟩, .string ⟨#[]⟩, .string ⟨#[]⟩]; simp only [World.size_alloc] at h; exact h)
        have zb : w1.heap.size ≤ (w1.heap.size + 1) := (by have h := Below.size e19; simp only [World.size_alloc] at h; exact h)
        refine hK.out _ _ e32 (fun hHeld => ?_)
        clear hK K
        (try simp only [Act.put]); (try simp only [List.setIfInBounds_toArray]); (try simp only [List.set_cons_succ]); (try simp only [List.set_cons_zero])
        refine wpAnyH_ready (rs := [2]) (by kernel_rfl) (by simp) ?_
        refine AllReadyH.cons (o := { dst := some 19, op := Go.Op.call { callee := Go.Callee.value (Go.Operand.func 8), args := #[Go.Operand.tmp 18], argTypes := #[24] }, type := 24, pos := _, after := #[{ on := 1, ground := Go.Ground.data }], guard := none }) rfl (fun K hK => ?_) ?_
        · skip
          go_simp
          refine (HCL.out ((w1.drew.alloc (.cells #[.int .i64 24] 3)).alloc (.cells #[.int .i64 0, .int .i64 0, .string ⟨#[]⟩, .string ⟨#[]⟩, .string ⟨#[]⟩] 23)) e32).mono ?_
          rintro e v33 ⟨cad, ccp, cn, rfl, hcn, hov33, hbv33⟩
          have e33 : Below w1.heap.size w1.drew v33 := Below.trans e32 (Below.mono hbv33 (by have h := Below.size e32; exact h))
          have ol_34 := Hid.mk' (ol_32.out.below hbv33)
          have bx_35 := Hid.mk' (bx_33.out.later hbv33)
          have oc_v33 := Hid.mk' hov33
          have zc := hbv33.size
          go_wp2_with fail
          refine hK.out _ _ e33 (fun hHeld => ?_)
          clear hK K
          (try simp only [Act.put]); (try simp only [List.setIfInBounds_toArray]); (try simp only [List.set_cons_succ]); (try simp only [List.set_cons_zero])
          refine wpAnyH_ready (rs := [4]) (by kernel_rfl) (by simp) ?_
          refine AllReadyH.cons (o := { dst := some 21, op := Go.Op.call { callee := Go.Callee.builtin Go.Builtin.append, args := #[Go.Operand.tmp 19, Go.Operand.tmp 20], argTypes := #[24, 24] }, type := 24, pos := _, after := #[{ on := 2, ground := Go.Ground.data }, { on := 3, ground := Go.Ground.data }, { on := 2, ground := Go.Ground.chain }], guard := none }) rfl (fun K hK => ?_) ?_
          · skip
            refine step_append_ints rfl _ _ rfl ((w1.drew.alloc (.cells #[.int .i64 24] 3)).alloc (.cells #[.int .i64 0, .int .i64 0, .string ⟨#[]⟩, .string ⟨#[]⟩, .string ⟨#[]⟩] 23)).heap.size cad cn ccp a rfl oc_v33.out (some ⟨w1.heap.size, 0, none⟩) 1 1 [24] rfl ol_34.out hlen (by first | exact Nat.le_refl _ | (simp; omega) | (have hq := zc; simp at hq ⊢; omega)) ?_
            intro al4 n4 cl4 v34 hn4 ho4 hB4 hK4
            have e34 : Below w1.heap.size w1.drew v34 := hB4 w1.heap.size w1.drew (by first | exact Nat.le_refl _ | (have h := Below.size e32; exact h)) e33
            have oa_v34 := Hid.mk' ho4
            have bx_36 := Hid.mk' (show Box v34 (w1.heap.size + 1) 23 [.int .i64 0, .int .i64 0, .string ⟨#[]⟩, .string ⟨#[]⟩, .string ⟨#[]⟩] from hK4 _ _ _ _ (by decide) bx_35.out)
            clear hB4 hK4 ho4
            refine hK.out _ _ e34 (fun hHeld => ?_)
            clear hK K
            (try simp only [Act.put]); (try simp only [List.setIfInBounds_toArray]); (try simp only [List.set_cons_succ]); (try simp only [List.set_cons_zero])
            refine wpAnyH_ready (rs := [5]) (by kernel_rfl) (by simp) ?_
            refine AllReadyH.cons (o := { dst := some 22, op := Go.Op.call { callee := Go.Callee.value (Go.Operand.func 6), args := #[Go.Operand.tmp 17, Go.Operand.tmp 21], argTypes := #[23, 24] }, type := 27, pos := _, after := #[{ on := 0, ground := Go.Ground.data }, { on := 4, ground := Go.Ground.data }, { on := 4, ground := Go.Ground.chain }], guard := none }) rfl (fun K hK => ?_) ?_
            · skip
              go_simp
              refine (HF.out v34 (.slice al4 n4 cl4) oa_v34.out).mono ?_
              rintro e v35 ⟨vl, rfl, hrv35, hbv35⟩
              have e35 : Below w1.heap.size w1.drew v35 := Below.trans e34 (Below.mono hbv35 (by have h := Below.size e34; exact h))
              have bx_37 := Hid.mk' (bx_36.out.later hbv35)
              have rt_v35 := Hid.mk' hrv35
              go_wp2_with fail
              refine hK.out _ _ e35 (fun hHeld => ?_)
              clear hK K
              (try simp only [Act.put]); (try simp only [List.setIfInBounds_toArray]); (try simp only [List.set_cons_succ]); (try simp only [List.set_cons_zero])
              refine wpAnyH_take (i := 6) (oi := { dst := some 16, op := Go.Op.move (Go.Operand.tmp 22), type := 27, pos := _, after := #[{ on := 5, ground := Go.Ground.data }], guard := none }) (v := .tuple #[.agg #[.int .i64 x0, .int .i64 x1, .string y2, .string y3, .string y4], vl, .int .i64 er]) rfl (by kernel_rfl) (by kernel_rfl) (by kernel_rfl) (fun _ _ _ h => h) (Or.inl ⟨by rfl, fun w' hSw => ?_⟩) (by assumption) ?_
              · (try dsimp only at hSw); go_simp
              (try simp only [Act.put]); (try simp only [List.setIfInBounds_toArray]); (try simp only [List.set_cons_succ]); (try simp only [List.set_cons_zero])
              refine wpAnyH_take (i := 7) (oi := { dst := some 23, op := Go.Op.extract (Go.Operand.tmp 16) 0, type := 23, pos := _, after := #[{ on := 6, ground := Go.Ground.data }], guard := none }) (v := .agg #[.int .i64 x0, .int .i64 x1, .string y2, .string y3, .string y4]) rfl (by kernel_rfl) (by kernel_rfl) (by kernel_rfl) (fun _ _ _ h => h) (Or.inl ⟨by rfl, fun w' hSw => ?_⟩) (by assumption) ?_
              · (try dsimp only at hSw); go_simp
              (try simp only [Act.put]); (try simp only [List.setIfInBounds_toArray]); (try simp only [List.set_cons_succ]); (try simp only [List.set_cons_zero])
              refine wpAnyH_take (i := 8) (oi := { dst := some 24, op := Go.Op.extract (Go.Operand.tmp 16) 1, type := 25, pos := _, after := #[{ on := 6, ground := Go.Ground.data }, { on := 11, ground := Go.Ground.gcOnly Go.Departure.lateStores }], guard := none }) (v := vl) rfl (by kernel_rfl) (by kernel_rfl) (by kernel_rfl) (fun _ _ _ h => h) (Or.inl ⟨by rfl, fun w' hSw => ?_⟩) (by assumption) ?_
              · (try dsimp only at hSw); go_simp
              (try simp only [Act.put]); (try simp only [List.setIfInBounds_toArray]); (try simp only [List.set_cons_succ]); (try simp only [List.set_cons_zero])
              refine wpAnyH_take (i := 9) (oi := { dst := some 25, op := Go.Op.extract (Go.Operand.tmp 16) 2, type := 26, pos := _, after := #[{ on := 6, ground := Go.Ground.data }, { on := 12, ground := Go.Ground.gcOnly Go.Departure.lateStores }], guard := none }) (v := .int .i64 er) rfl (by kernel_rfl) (by kernel_rfl) (by kernel_rfl) (fun _ _ _ h => h) (Or.inl ⟨by rfl, fun w' hSw => ?_⟩) (by assumption) ?_
              · (try dsimp only at hSw); go_simp
              (try simp only [Act.put]); (try simp only [List.setIfInBounds_toArray]); (try simp only [List.set_cons_succ]); (try simp only [List.set_cons_zero])
              refine wpAnyH_ready (rs := [11]) (by kernel_rfl) (by simp) ?_
              refine AllReadyH.cons (o := { dst := none, op := Go.Op.store 23 (Go.Operand.tmp 7) (Go.Operand.tmp 23), type := 0, pos := _, after := #[{ on := 10, ground := Go.Ground.data }, { on := 7, ground := Go.Ground.data }, { on := 5, ground := Go.Ground.chain }, { on := 0, ground := Go.Ground.phase }, { on := 1, ground := Go.Ground.phase }, { on := 2, ground := Go.Ground.phase }, { on := 3, ground := Go.Ground.phase }, { on := 4, ground := Go.Ground.phase }, { on := 5, ground := Go.Ground.phase }, { on := 6, ground := Go.Ground.phase }, { on := 7, ground := Go.Ground.phase }, { on := 8, ground := Go.Ground.textOnly Go.Departure.lateStores }, { on := 9, ground := Go.Ground.textOnly Go.Departure.lateStores }, { on := 10, ground := Go.Ground.phase }], guard := none }) rfl (fun K hK => ?_) ?_
              · skip
                have hS5 : Lies v35 (.pointer (some ⟨(w1.heap.size + 1), 0, none⟩)) 5 := bx_37.out.lies0 rfl
                have sP := bx_37.out.putAt [.int .i64 x0, .int .i64 x1, .string y2, .string y3, .string y4] rfl
                go_simp
                have e36 : Below w1.heap.size w1.drew (Q.putAt v35 (.pointer (some ⟨(w1.heap.size + 1), 0, none⟩)) (.agg #[.int .i64 x0, .int .i64 x1, .string y2, .string y3, .string y4])) := sP.below _ _ zb e35
                have bxf := Hid.mk' sP.box
                have rtf := Hid.mk' (rt_v35.out.keep (KeepP.put bx_37.out sP.other))
                clear hS5 sP
                refine hK.out _ _ e36 (fun hHeld => ?_)
                clear hK K
                (try simp only [Act.put]); (try simp only [List.setIfInBounds_toArray]); (try simp only [List.set_cons_succ]); (try simp only [List.set_cons_zero])
                refine wpAnyH_take (i := 12) (oi := { dst := some 8, op := Go.Op.assign (Go.Operand.tmp 24), type := 25, pos := _, after := #[{ on := 8, ground := Go.Ground.data }, { on := 11, ground := Go.Ground.chain }, { on := 0, ground := Go.Ground.phase }, { on := 1, ground := Go.Ground.phase }, { on := 2, ground := Go.Ground.phase }, { on := 3, ground := Go.Ground.phase }, { on := 4, ground := Go.Ground.phase }, { on := 5, ground := Go.Ground.phase }, { on := 6, ground := Go.Ground.phase }, { on := 7, ground := Go.Ground.phase }, { on := 8, ground := Go.Ground.phase }, { on := 9, ground := Go.Ground.textOnly Go.Departure.lateStores }, { on := 10, ground := Go.Ground.phase }, { on := 11, ground := Go.Ground.phase }], guard := none }) (v := vl) rfl (by kernel_rfl) (by kernel_rfl) (by kernel_rfl) (fun _ _ _ h => h) (Or.inl ⟨by rfl, fun w' hSw => ?_⟩) (by assumption) ?_
                · (try dsimp only at hSw); go_simp
                (try simp only [Act.put]); (try simp only [List.setIfInBounds_toArray]); (try simp only [List.set_cons_succ]); (try simp only [List.set_cons_zero])
                refine wpAnyH_take (i := 13) (oi := { dst := some 9, op := Go.Op.assign (Go.Operand.tmp 25), type := 26, pos := _, after := #[{ on := 9, ground := Go.Ground.data }, { on := 12, ground := Go.Ground.chain }, { on := 0, ground := Go.Ground.phase }, { on := 1, ground := Go.Ground.phase }, { on := 2, ground := Go.Ground.phase }, { on := 3, ground := Go.Ground.phase }, { on := 4, ground := Go.Ground.phase }, { on := 5, ground := Go.Ground.phase }, { on := 6, ground := Go.Ground.phase }, { on := 7, ground := Go.Ground.phase }, { on := 8, ground := Go.Ground.phase }, { on := 9, ground := Go.Ground.phase }, { on := 10, ground := Go.Ground.phase }, { on := 11, ground := Go.Ground.phase }, { on := 12, ground := Go.Ground.phase }], guard := none }) (v := .int .i64 er) rfl (by kernel_rfl) (by kernel_rfl) (by kernel_rfl) (fun _ _ _ h => h) (Or.inl ⟨by rfl, fun w' hSw => ?_⟩) (by assumption) ?_
                · (try dsimp only at hSw); go_simp
                (try simp only [Act.put]); (try simp only [List.setIfInBounds_toArray]); (try simp only [List.set_cons_succ]); (try simp only [List.set_cons_zero])
                refine wpAnyH_done (by kernel_rfl) ?_ _
                refine NoPanic.normal ?_
                have HFE := Hid.mk' e36
                generalize (Q.putAt v35 (.pointer (some ⟨(w1.heap.size + 1), 0, none⟩)) (.agg #[.int .i64 x0, .int .i64 x1, .string y2, .string y3, .string y4])) = wE at *
                clear e36
                go_wp2_with fail
                go_meet
                exact ⟨(w1.heap.size + 1), vl, rfl, rfl, rfl, bxf.out, rtf.out, HFE.out⟩
              exact AllReadyH.nil
            exact AllReadyH.nil
          exact AllReadyH.nil
        exact AllReadyH.nil
      exact AllReadyH.nil
    refine AllReadyH.cons (o := { dst := some 7, op := Go.Op.alloc 23, type := 0, pos := _, after := #[], guard := none }) rfl (fun K hK => ?_) ?_
    · skip
      go_simp
      have e37 : Below w1.heap.size w1.drew (w1.drew.alloc (.cells #[.int .i64 0, .int .i64 0, .string ⟨#[]⟩, .string ⟨#[]⟩, .string ⟨#[]⟩] 23)) := Below.alloc hE (by have h := Below.size hE; exact h) _
      have bx_38 : Hid (Box (w1.drew.alloc (.cells #[.int .i64 0, .int .i64 0, .string ⟨#[]⟩, .string ⟨#[]⟩, .string ⟨#[]⟩] 23)) w1.heap.size 23 [.int .i64 0, .int .i64 0, .string ⟨#[]⟩, .string ⟨#[]⟩, .string ⟨#[]⟩]) := Hid.mk' (Box.new w1.drew _ _)
      have zb : w1.heap.size ≤ w1.heap.size := Nat.le_refl _
      refine hK.out _ _ e37 (fun hHeld => ?_)
      clear hK K
      (try simp only [Act.put]); (try simp only [List.setIfInBounds_toArray]); (try simp only [List.set_cons_succ]); (try simp only [List.set_cons_zero])
      refine wpAnyH_ready (rs := [2, 3]) (by kernel_rfl) (by simp) ?_
      refine AllReadyH.cons (o := { dst := some 19, op := Go.Op.call { callee := Go.Callee.value (Go.Operand.func 8), args := #[Go.Operand.tmp 18], argTypes := #[24] }, type := 24, pos := _, after := #[{ on := 1, ground := Go.Ground.data }], guard := none }) rfl (fun K hK => ?_) ?_
      · skip
        go_simp
        refine (HCL.out (w1.drew.alloc (.cells #[.int .i64 0, .int .i64 0, .string ⟨#[]⟩, .string ⟨#[]⟩, .string ⟨#[]⟩] 23)) e37).mono ?_
        rintro e v38 ⟨cad, ccp, cn, rfl, hcn, hov38, hbv38⟩
        have e38 : Below w1.heap.size w1.drew v38 := Below.trans e37 (Below.mono hbv38 (by have h := Below.size e37; exact h))
        have bx_39 := Hid.mk' (bx_38.out.later hbv38)
        have oc_v38 := Hid.mk' hov38
        have zc := hbv38.size
        go_wp2_with fail
        refine hK.out _ _ e38 (fun hHeld => ?_)
        clear hK K
        (try simp only [Act.put]); (try simp only [List.setIfInBounds_toArray]); (try simp only [List.set_cons_succ]); (try simp only [List.set_cons_zero])
        refine wpAnyH_ready (rs := [3]) (by kernel_rfl) (by simp) ?_
        refine AllReadyH.cons (o := { dst := some 20, op := Go.Op.buildSlice 24 1 #[(0, Go.Operand.const (Go.Value.int Go.IntKind.i64 24))], type := 24, pos := _, after := #[], guard := none }) rfl (fun K hK => ?_) ?_
        · skip
          go_simp
          have e39 : Below w1.heap.size w1.drew (v38.alloc (.cells #[.int .i64 24] 3)) := Below.alloc e38 (by have h := Below.size e38; exact h) _
          have bx_40 := Hid.mk' (bx_39.out.later (Below.alloc (Below.refl v38.heap.size v38) (Nat.le_refl _) (.cells #[.int .i64 24] 3)))
          have oc_41 := Hid.mk' (oc_v38.out.below (Below.alloc (Below.refl v38.heap.size v38) (Nat.le_refl _) (.cells #[.int .i64 24] 3)))
          have ol_42 : Hid (RdI (v38.alloc (.cells #[.int .i64 24] 3)) (.slice (some ⟨v38.heap.size, 0, none⟩) 1 1) [24]) := Hid.mk' RdI.lit v38 [24]
          refine hK.out _ _ e39 (fun hHeld => ?_)
          clear hK K
          (try simp only [Act.put]); (try simp only [List.setIfInBounds_toArray]); (try simp only [List.set_cons_succ]); (try simp only [List.set_cons_zero])
          refine wpAnyH_ready (rs := [4]) (by kernel_rfl) (by simp) ?_
          refine AllReadyH.cons (o := { dst := some 21, op := Go.Op.call { callee := Go.Callee.builtin Go.Builtin.append, args := #[Go.Operand.tmp 19, Go.Operand.tmp 20], argTypes := #[24, 24] }, type := 24, pos := _, after := #[{ on := 2, ground := Go.Ground.data }, { on := 3, ground := Go.Ground.data }, { on := 2, ground := Go.Ground.chain }], guard := none }) rfl (fun K hK => ?_) ?_
          · skip
            refine step_append_ints rfl _ _ rfl (w1.drew.alloc (.cells #[.int .i64 0, .int .i64 0, .string ⟨#[]⟩, .string ⟨#[]⟩, .string ⟨#[]⟩] 23)).heap.size cad cn ccp a rfl oc_41.out (some ⟨v38.heap.size, 0, none⟩) 1 1 [24] rfl ol_42.out hlen (by first | exact Nat.le_refl _ | (simp; omega) | (have hq := zc; simp at hq ⊢; omega)) ?_
            intro al4 n4 cl4 v40 hn4 ho4 hB4 hK4
            have e40 : Below w1.heap.size w1.drew v40 := hB4 w1.heap.size w1.drew (by first | exact Nat.le_refl _ | (have h := Below.size e37; exact h)) e39
            have oa_v40 := Hid.mk' ho4
            have bx_43 := Hid.mk' (show Box v40 w1.heap.size 23 [.int .i64 0, .int .i64 0, .string ⟨#[]⟩, .string ⟨#[]⟩, .string ⟨#[]⟩] from hK4 _ _ _ _ (by decide) bx_40.out)
            clear hB4 hK4 ho4
            refine hK.out _ _ e40 (fun hHeld => ?_)
            clear hK K
            (try simp only [Act.put]); (try simp only [List.setIfInBounds_toArray]); (try simp only [List.set_cons_succ]); (try simp only [List.set_cons_zero])
            refine wpAnyH_ready (rs := [5]) (by kernel_rfl) (by simp) ?_
            refine AllReadyH.cons (o := { dst := some 22, op := Go.Op.call { callee := Go.Callee.value (Go.Operand.func 6), args := #[Go.Operand.tmp 17, Go.Operand.tmp 21], argTypes := #[23, 24] }, type := 27, pos := _, after := #[{ on := 0, ground := Go.Ground.data }, { on := 4, ground := Go.Ground.data }, { on := 4, ground := Go.Ground.chain }], guard := none }) rfl (fun K hK => ?_) ?_
            · skip
              go_simp
              refine (HF.out v40 (.slice al4 n4 cl4) oa_v40.out).mono ?_
              rintro e v41 ⟨vl, rfl, hrv41, hbv41⟩
              have e41 : Below w1.heap.size w1.drew v41 := Below.trans e40 (Below.mono hbv41 (by have h := Below.size e40; exact h))
              have bx_44 := Hid.mk' (bx_43.out.later hbv41)
              have rt_v41 := Hid.mk' hrv41
              go_wp2_with fail
              refine hK.out _ _ e41 (fun hHeld => ?_)
              clear hK K
              (try simp only [Act.put]); (try simp only [List.setIfInBounds_toArray]); (try simp only [List.set_cons_succ]); (try simp only [List.set_cons_zero])
              refine wpAnyH_take (i := 6) (oi := { dst := some 16, op := Go.Op.move (Go.Operand.tmp 22), type := 27, pos := _, after := #[{ on := 5, ground := Go.Ground.data }], guard := none }) (v := .tuple #[.agg #[.int .i64 x0, .int .i64 x1, .string y2, .string y3, .string y4], vl, .int .i64 er]) rfl (by kernel_rfl) (by kernel_rfl) (by kernel_rfl) (fun _ _ _ h => h) (Or.inl ⟨by rfl, fun w' hSw => ?_⟩) (by assumption) ?_
              · (try dsimp only at hSw); go_simp
              (try simp only [Act.put]); (try simp only [List.setIfInBounds_toArray]); (try simp only [List.set_cons_succ]); (try simp only [List.set_cons_zero])
              refine wpAnyH_take (i := 7) (oi := { dst := some 23, op := Go.Op.extract (Go.Operand.tmp 16) 0, type := 23, pos := _, after := #[{ on := 6, ground := Go.Ground.data }], guard := none }) (v := .agg #[.int .i64 x0, .int .i64 x1, .string y2, .string y3, .string y4]) rfl (by kernel_rfl) (by kernel_rfl) (by kernel_rfl) (fun _ _ _ h => h) (Or.inl ⟨by rfl, fun w' hSw => ?_⟩) (by assumption) ?_
              · (try dsimp only at hSw); go_simp
              (try simp only [Act.put]); (try simp only [List.setIfInBounds_toArray]); (try simp only [List.set_cons_succ]); (try simp only [List.set_cons_zero])
              refine wpAnyH_take (i := 8) (oi := { dst := some 24, op := Go.Op.extract (Go.Operand.tmp 16) 1, type := 25, pos := _, after := #[{ on := 6, ground := Go.Ground.data }, { on := 11, ground := Go.Ground.gcOnly Go.Departure.lateStores }], guard := none }) (v := vl) rfl (by kernel_rfl) (by kernel_rfl) (by kernel_rfl) (fun _ _ _ h => h) (Or.inl ⟨by rfl, fun w' hSw => ?_⟩) (by assumption) ?_
              · (try dsimp only at hSw); go_simp
              (try simp only [Act.put]); (try simp only [List.setIfInBounds_toArray]); (try simp only [List.set_cons_succ]); (try simp only [List.set_cons_zero])
              refine wpAnyH_take (i := 9) (oi := { dst := some 25, op := Go.Op.extract (Go.Operand.tmp 16) 2, type := 26, pos := _, after := #[{ on := 6, ground := Go.Ground.data }, { on := 12, ground := Go.Ground.gcOnly Go.Departure.lateStores }], guard := none }) (v := .int .i64 er) rfl (by kernel_rfl) (by kernel_rfl) (by kernel_rfl) (fun _ _ _ h => h) (Or.inl ⟨by rfl, fun w' hSw => ?_⟩) (by assumption) ?_
              · (try dsimp only at hSw); go_simp
              (try simp only [Act.put]); (try simp only [List.setIfInBounds_toArray]); (try simp only [List.set_cons_succ]); (try simp only [List.set_cons_zero])
              refine wpAnyH_ready (rs := [11]) (by kernel_rfl) (by simp) ?_
              refine AllReadyH.cons (o := { dst := none, op := Go.Op.store 23 (Go.Operand.tmp 7) (Go.Operand.tmp 23), type := 0, pos := _, after := #[{ on := 10, ground := Go.Ground.data }, { on := 7, ground := Go.Ground.data }, { on := 5, ground := Go.Ground.chain }, { on := 0, ground := Go.Ground.phase }, { on := 1, ground := Go.Ground.phase }, { on := 2, ground := Go.Ground.phase }, { on := 3, ground := Go.Ground.phase }, { on := 4, ground := Go.Ground.phase }, { on := 5, ground := Go.Ground.phase }, { on := 6, ground := Go.Ground.phase }, { on := 7, ground := Go.Ground.phase }, { on := 8, ground := Go.Ground.textOnly Go.Departure.lateStores }, { on := 9, ground := Go.Ground.textOnly Go.Departure.lateStores }, { on := 10, ground := Go.Ground.phase }], guard := none }) rfl (fun K hK => ?_) ?_
              · skip
                have hS5 : Lies v41 (.pointer (some ⟨w1.heap.size, 0, none⟩)) 5 := bx_44.out.lies0 rfl
                have sP := bx_44.out.putAt [.int .i64 x0, .int .i64 x1, .string y2, .string y3, .string y4] rfl
                go_simp
                have e42 : Below w1.heap.size w1.drew (Q.putAt v41 (.pointer (some ⟨w1.heap.size, 0, none⟩)) (.agg #[.int .i64 x0, .int .i64 x1, .string y2, .string y3, .string y4])) := sP.below _ _ zb e41
                have bxf := Hid.mk' sP.box
                have rtf := Hid.mk' (rt_v41.out.keep (KeepP.put bx_44.out sP.other))
                clear hS5 sP
                refine hK.out _ _ e42 (fun hHeld => ?_)
                clear hK K
                (try simp only [Act.put]); (try simp only [List.setIfInBounds_toArray]); (try simp only [List.set_cons_succ]); (try simp only [List.set_cons_zero])
                refine wpAnyH_take (i := 12) (oi := { dst := some 8, op := Go.Op.assign (Go.Operand.tmp 24), type := 25, pos := _, after := #[{ on := 8, ground := Go.Ground.data }, { on := 11, ground := Go.Ground.chain }, { on := 0, ground := Go.Ground.phase }, { on := 1, ground := Go.Ground.phase }, { on := 2, ground := Go.Ground.phase }, { on := 3, ground := Go.Ground.phase }, { on := 4, ground := Go.Ground.phase }, { on := 5, ground := Go.Ground.phase }, { on := 6, ground := Go.Ground.phase }, { on := 7, ground := Go.Ground.phase }, { on := 8, ground := Go.Ground.phase }, { on := 9, ground := Go.Ground.textOnly Go.Departure.lateStores }, { on := 10, ground := Go.Ground.phase }, { on := 11, ground := Go.Ground.phase }], guard := none }) (v := vl) rfl (by kernel_rfl) (by kernel_rfl) (by kernel_rfl) (fun _ _ _ h => h) (Or.inl ⟨by rfl, fun w' hSw => ?_⟩) (by assumption) ?_
                · (try dsimp only at hSw); go_simp
                (try simp only [Act.put]); (try simp only [List.setIfInBounds_toArray]); (try simp only [List.set_cons_succ]); (try simp only [List.set_cons_zero])
                refine wpAnyH_take (i := 13) (oi := { dst := some 9, op := Go.Op.assign (Go.Operand.tmp 25), type := 26, pos := _, after := #[{ on := 9, ground := Go.Ground.data }, { on := 12, ground := Go.Ground.chain }, { on := 0, ground := Go.Ground.phase }, { on := 1, ground := Go.Ground.phase }, { on := 2, ground := Go.Ground.phase }, { on := 3, ground := Go.Ground.phase }, { on := 4, ground := Go.Ground.phase }, { on := 5, ground := Go.Ground.phase }, { on := 6, ground := Go.Ground.phase }, { on := 7, ground := Go.Ground.phase }, { on := 8, ground := Go.Ground.phase }, { on := 9, ground := Go.Ground.phase }, { on := 10, ground := Go.Ground.phase }, { on := 11, ground := Go.Ground.phase }, { on := 12, ground := Go.Ground.phase }], guard := none }) (v := .int .i64 er) rfl (by kernel_rfl) (by kernel_rfl) (by kernel_rfl) (fun _ _ _ h => h) (Or.inl ⟨by rfl, fun w' hSw => ?_⟩) (by assumption) ?_
                · (try dsimp only at hSw); go_simp
                (try simp only [Act.put]); (try simp only [List.setIfInBounds_toArray]); (try simp only [List.set_cons_succ]); (try simp only [List.set_cons_zero])
                refine wpAnyH_done (by kernel_rfl) ?_ _
                refine NoPanic.normal ?_
                have HFE := Hid.mk' e42
                generalize (Q.putAt v41 (.pointer (some ⟨w1.heap.size, 0, none⟩)) (.agg #[.int .i64 x0, .int .i64 x1, .string y2, .string y3, .string y4])) = wE at *
                clear e42
                go_wp2_with fail
                go_meet
                exact ⟨w1.heap.size, vl, rfl, rfl, rfl, bxf.out, rtf.out, HFE.out⟩
              exact AllReadyH.nil
            exact AllReadyH.nil
          exact AllReadyH.nil
        exact AllReadyH.nil
      refine AllReadyH.cons (o := { dst := some 20, op := Go.Op.buildSlice 24 1 #[(0, Go.Operand.const (Go.Value.int Go.IntKind.i64 24))], type := 24, pos := _, after := #[], guard := none }) rfl (fun K hK => ?_) ?_
      · skip
        go_simp
        have e43 : Below w1.heap.size w1.drew ((w1.drew.alloc (.cells #[.int .i64 0, .int .i64 0, .string ⟨#[]⟩, .string ⟨#[]⟩, .string ⟨#[]⟩] 23)).alloc (.cells #[.int .i64 24] 3)) := Below.alloc e37 (by have h := Below.size e37; exact h) _
        have bx_45 := Hid.mk' (bx_38.out.later (Below.alloc (Below.refl (w1.drew.alloc (.cells #[.int .i64 0, .int .i64 0, .string ⟨#[]⟩, .string ⟨#[]⟩, .string ⟨#[]⟩] 23)).heap.size (w1.drew.alloc (.cells #[.int .i64 0, .int .i64 0, .string ⟨#[]⟩, .string ⟨#[]⟩, .string ⟨#[]⟩] 23))) (Nat.le_refl _) (.cells #[.int .i64 24] 3)))
        have ol_46 : Hid (RdI ((w1.drew.alloc (.cells #[.int .i64 0, .int .i64 0, .string ⟨#[]⟩, .string ⟨#[]⟩, .string ⟨#[]⟩] 23)).alloc (.cells #[.int .i64 24] 3)) (.slice (some ⟨(w1.heap.size + 1), 0, none⟩) 1 1) [24]) := Hid.mk' (by have h := RdI.lit (w1.drew.alloc (.cells #[.int .i64 0, .int .i64 0, .string ⟨#[]⟩, .string ⟨#[]⟩, .string ⟨#[]⟩] 23)) [24]; simp only [World.size_alloc] at h; exact h)
        refine hK.out _ _ e43 (fun hHeld => ?_)
        clear hK K
        (try simp only [Act.put]); (try simp only [List.setIfInBounds_toArray]); (try simp only [List.set_cons_succ]); (try simp only [List.set_cons_zero])
        refine wpAnyH_ready (rs := [2]) (by kernel_rfl) (by simp) ?_
        refine AllReadyH.cons (o := { dst := some 19, op := Go.Op.call { callee := Go.Callee.value (Go.Operand.func 8), args := #[Go.Operand.tmp 18], argTypes := #[24] }, type := 24, pos := _, after := #[{ on := 1, ground := Go.Ground.data }], guard := none }) rfl (fun K hK => ?_) ?_
        · skip
          go_simp
          refine (HCL.out ((w1.drew.alloc (.cells #[.int .i64 0, .int .i64 0, .string ⟨#[]⟩, .string ⟨#[]⟩, .string ⟨#[]⟩] 23)).alloc (.cells #[.int .i64 24] 3)) e43).mono ?_
          rintro e v44 ⟨cad, ccp, cn, rfl, hcn, hov44, hbv44⟩
          have e44 : Below w1.heap.size w1.drew v44 := Below.trans e43 (Below.mono hbv44 (by have h := Below.size e43; exact h))
          have bx_47 := Hid.mk' (bx_45.out.later hbv44)
          have ol_48 := Hid.mk' (ol_46.out.below hbv44)
          have oc_v44 := Hid.mk' hov44
          have zc := hbv44.size
          go_wp2_with fail
          refine hK.out _ _ e44 (fun hHeld => ?_)
          clear hK K
          (try simp only [Act.put]); (try simp only [List.setIfInBounds_toArray]); (try simp only [List.set_cons_succ]); (try simp only [List.set_cons_zero])
          refine wpAnyH_ready (rs := [4]) (by kernel_rfl) (by simp) ?_
          refine AllReadyH.cons (o := { dst := some 21, op := Go.Op.call { callee := Go.Callee.builtin Go.Builtin.append, args := #[Go.Operand.tmp 19, Go.Operand.tmp 20], argTypes := #[24, 24] }, type := 24, pos := _, after := #[{ on := 2, ground := Go.Ground.data }, { on := 3, ground := Go.Ground.data }, { on := 2, ground := Go.Ground.chain }], guard := none }) rfl (fun K hK => ?_) ?_
          · skip
            refine step_append_ints rfl _ _ rfl ((w1.drew.alloc (.cells #[.int .i64 0, .int .i64 0, .string ⟨#[]⟩, .string ⟨#[]⟩, .string ⟨#[]⟩] 23)).alloc (.cells #[.int .i64 24] 3)).heap.size cad cn ccp a rfl oc_v44.out (some ⟨(w1.heap.size + 1), 0, none⟩) 1 1 [24] rfl ol_48.out hlen (by first | exact Nat.le_refl _ | (simp; omega) | (have hq := zc; simp at hq ⊢; omega)) ?_
            intro al4 n4 cl4 v45 hn4 ho4 hB4 hK4
            have e45 : Below w1.heap.size w1.drew v45 := hB4 w1.heap.size w1.drew (by first | exact Nat.le_refl _ | (have h := Below.size e43; exact h)) e44
            have oa_v45 := Hid.mk' ho4
            have bx_49 := Hid.mk' (show Box v45 w1.heap.size 23 [.int .i64 0, .int .i64 0, .string ⟨#[]⟩, .string ⟨#[]⟩, .string ⟨#[]⟩] from hK4 _ _ _ _ (by decide) bx_47.out)
            clear hB4 hK4 ho4
            refine hK.out _ _ e45 (fun hHeld => ?_)
            clear hK K
            (try simp only [Act.put]); (try simp only [List.setIfInBounds_toArray]); (try simp only [List.set_cons_succ]); (try simp only [List.set_cons_zero])
            refine wpAnyH_ready (rs := [5]) (by kernel_rfl) (by simp) ?_
            refine AllReadyH.cons (o := { dst := some 22, op := Go.Op.call { callee := Go.Callee.value (Go.Operand.func 6), args := #[Go.Operand.tmp 17, Go.Operand.tmp 21], argTypes := #[23, 24] }, type := 27, pos := _, after := #[{ on := 0, ground := Go.Ground.data }, { on := 4, ground := Go.Ground.data }, { on := 4, ground := Go.Ground.chain }], guard := none }) rfl (fun K hK => ?_) ?_
            · skip
              go_simp
              refine (HF.out v45 (.slice al4 n4 cl4) oa_v45.out).mono ?_
              rintro e v46 ⟨vl, rfl, hrv46, hbv46⟩
              have e46 : Below w1.heap.size w1.drew v46 := Below.trans e45 (Below.mono hbv46 (by have h := Below.size e45; exact h))
              have bx_50 := Hid.mk' (bx_49.out.later hbv46)
              have rt_v46 := Hid.mk' hrv46
              go_wp2_with fail
              refine hK.out _ _ e46 (fun hHeld => ?_)
              clear hK K
              (try simp only [Act.put]); (try simp only [List.setIfInBounds_toArray]); (try simp only [List.set_cons_succ]); (try simp only [List.set_cons_zero])
              refine wpAnyH_take (i := 6) (oi := { dst := some 16, op := Go.Op.move (Go.Operand.tmp 22), type := 27, pos := _, after := #[{ on := 5, ground := Go.Ground.data }], guard := none }) (v := .tuple #[.agg #[.int .i64 x0, .int .i64 x1, .string y2, .string y3, .string y4], vl, .int .i64 er]) rfl (by kernel_rfl) (by kernel_rfl) (by kernel_rfl) (fun _ _ _ h => h) (Or.inl ⟨by rfl, fun w' hSw => ?_⟩) (by assumption) ?_
              · (try dsimp only at hSw); go_simp
              (try simp only [Act.put]); (try simp only [List.setIfInBounds_toArray]); (try simp only [List.set_cons_succ]); (try simp only [List.set_cons_zero])
              refine wpAnyH_take (i := 7) (oi := { dst := some 23, op := Go.Op.extract (Go.Operand.tmp 16) 0, type := 23, pos := _, after := #[{ on := 6, ground := Go.Ground.data }], guard := none }) (v := .agg #[.int .i64 x0, .int .i64 x1, .string y2, .string y3, .string y4]) rfl (by kernel_rfl) (by kernel_rfl) (by kernel_rfl) (fun _ _ _ h => h) (Or.inl ⟨by rfl, fun w' hSw => ?_⟩) (by assumption) ?_
              · (try dsimp only at hSw); go_simp
              (try simp only [Act.put]); (try simp only [List.setIfInBounds_toArray]); (try simp only [List.set_cons_succ]); (try simp only [List.set_cons_zero])
              refine wpAnyH_take (i := 8) (oi := { dst := some 24, op := Go.Op.extract (Go.Operand.tmp 16) 1, type := 25, pos := _, after := #[{ on := 6, ground := Go.Ground.data }, { on := 11, ground := Go.Ground.gcOnly Go.Departure.lateStores }], guard := none }) (v := vl) rfl (by kernel_rfl) (by kernel_rfl) (by kernel_rfl) (fun _ _ _ h => h) (Or.inl ⟨by rfl, fun w' hSw => ?_⟩) (by assumption) ?_
              · (try dsimp only at hSw); go_simp
              (try simp only [Act.put]); (try simp only [List.setIfInBounds_toArray]); (try simp only [List.set_cons_succ]); (try simp only [List.set_cons_zero])
              refine wpAnyH_take (i := 9) (oi := { dst := some 25, op := Go.Op.extract (Go.Operand.tmp 16) 2, type := 26, pos := _, after := #[{ on := 6, ground := Go.Ground.data }, { on := 12, ground := Go.Ground.gcOnly Go.Departure.lateStores }], guard := none }) (v := .int .i64 er) rfl (by kernel_rfl) (by kernel_rfl) (by kernel_rfl) (fun _ _ _ h => h) (Or.inl ⟨by rfl, fun w' hSw => ?_⟩) (by assumption) ?_
              · (try dsimp only at hSw); go_simp
              (try simp only [Act.put]); (try simp only [List.setIfInBounds_toArray]); (try simp only [List.set_cons_succ]); (try simp only [List.set_cons_zero])
              refine wpAnyH_ready (rs := [11]) (by kernel_rfl) (by simp) ?_
              refine AllReadyH.cons (o := { dst := none, op := Go.Op.store 23 (Go.Operand.tmp 7) (Go.Operand.tmp 23), type := 0, pos := _, after := #[{ on := 10, ground := Go.Ground.data }, { on := 7, ground := Go.Ground.data }, { on := 5, ground := Go.Ground.chain }, { on := 0, ground := Go.Ground.phase }, { on := 1, ground := Go.Ground.phase }, { on := 2, ground := Go.Ground.phase }, { on := 3, ground := Go.Ground.phase }, { on := 4, ground := Go.Ground.phase }, { on := 5, ground := Go.Ground.phase }, { on := 6, ground := Go.Ground.phase }, { on := 7, ground := Go.Ground.phase }, { on := 8, ground := Go.Ground.textOnly Go.Departure.lateStores }, { on := 9, ground := Go.Ground.textOnly Go.Departure.lateStores }, { on := 10, ground := Go.Ground.phase }], guard := none }) rfl (fun K hK => ?_) ?_
              · skip
                have hS5 : Lies v46 (.pointer (some ⟨w1.heap.size, 0, none⟩)) 5 := bx_50.out.lies0 rfl
                have sP := bx_50.out.putAt [.int .i64 x0, .int .i64 x1, .string y2, .string y3, .string y4] rfl
                go_simp
                have e47 : Below w1.heap.size w1.drew (Q.putAt v46 (.pointer (some ⟨w1.heap.size, 0, none⟩)) (.agg #[.int .i64 x0, .int .i64 x1, .string y2, .string y3, .string y4])) := sP.below _ _ zb e46
                have bxf := Hid.mk' sP.box
                have rtf := Hid.mk' (rt_v46.out.keep (KeepP.put bx_50.out sP.other))
                clear hS5 sP
                refine hK.out _ _ e47 (fun hHeld => ?_)
                clear hK K
                (try simp only [Act.put]); (try simp only [List.setIfInBounds_toArray]); (try simp only [List.set_cons_succ]); (try simp only [List.set_cons_zero])
                refine wpAnyH_take (i := 12) (oi := { dst := some 8, op := Go.Op.assign (Go.Operand.tmp 24), type := 25, pos := _, after := #[{ on := 8, ground := Go.Ground.data }, { on := 11, ground := Go.Ground.chain }, { on := 0, ground := Go.Ground.phase }, { on := 1, ground := Go.Ground.phase }, { on := 2, ground := Go.Ground.phase }, { on := 3, ground := Go.Ground.phase }, { on := 4, ground := Go.Ground.phase }, { on := 5, ground := Go.Ground.phase }, { on := 6, ground := Go.Ground.phase }, { on := 7, ground := Go.Ground.phase }, { on := 8, ground := Go.Ground.phase }, { on := 9, ground := Go.Ground.textOnly Go.Departure.lateStores }, { on := 10, ground := Go.Ground.phase }, { on := 11, ground := Go.Ground.phase }], guard := none }) (v := vl) rfl (by kernel_rfl) (by kernel_rfl) (by kernel_rfl) (fun _ _ _ h => h) (Or.inl ⟨by rfl, fun w' hSw => ?_⟩) (by assumption) ?_
                · (try dsimp only at hSw); go_simp
                (try simp only [Act.put]); (try simp only [List.setIfInBounds_toArray]); (try simp only [List.set_cons_succ]); (try simp only [List.set_cons_zero])
                refine wpAnyH_take (i := 13) (oi := { dst := some 9, op := Go.Op.assign (Go.Operand.tmp 25), type := 26, pos := _, after := #[{ on := 9, ground := Go.Ground.data }, { on := 12, ground := Go.Ground.chain }, { on := 0, ground := Go.Ground.phase }, { on := 1, ground := Go.Ground.phase }, { on := 2, ground := Go.Ground.phase }, { on := 3, ground := Go.Ground.phase }, { on := 4, ground := Go.Ground.phase }, { on := 5, ground := Go.Ground.phase }, { on := 6, ground := Go.Ground.phase }, { on := 7, ground := Go.Ground.phase }, { on := 8, ground := Go.Ground.phase }, { on := 9, ground := Go.Ground.phase }, { on := 10, ground := Go.Ground.phase }, { on := 11, ground := Go.Ground.phase }, { on := 12, ground := Go.Ground.phase }], guard := none }) (v := .int .i64 er) rfl (by kernel_rfl) (by kernel_rfl) (by kernel_rfl) (fun _ _ _ h => h) (Or.inl ⟨by rfl, fun w' hSw => ?_⟩) (by assumption) ?_
                · (try dsimp only at hSw); go_simp
                (try simp only [Act.put]); (try simp only [List.setIfInBounds_toArray]); (try simp only [List.set_cons_succ]); (try simp only [List.set_cons_zero])
                refine wpAnyH_done (by kernel_rfl) ?_ _
                refine NoPanic.normal ?_
                have HFE := Hid.mk' e47
                generalize (Q.putAt v46 (.pointer (some ⟨w1.heap.size, 0, none⟩)) (.agg #[.int .i64 x0, .int .i64 x1, .string y2, .string y3, .string y4])) = wE at *
                clear e47
                go_wp2_with fail
                go_meet
                exact ⟨w1.heap.size, vl, rfl, rfl, rfl, bxf.out, rtf.out, HFE.out⟩
              exact AllReadyH.nil
            exact AllReadyH.nil
          exact AllReadyH.nil
        exact AllReadyH.nil
      exact AllReadyH.nil
    exact AllReadyH.nil
  case rest =>
    obtain ⟨b7, vl, e7, e8, e9, HX, _, HB⟩ := hcut
    subst e7 e8 e9
    clear HF HCL BP hH5
    have H7 := Hid.mk' (HB1.out _ HB.out)
    rcases HCASE.out with rfl | ⟨rfl, rfl, rfl, rfl, rfl, rfl⟩
    · clear HFB HSM HX
      go_wp2_with fail
      refine (HLV.out _).mono ?_
      rintro e w5 ⟨rfl, h5⟩
      have H5 := Hid.mk' (H7.out.trans (Below.mono h5 H7.out.size))
      clear h5 H7
      go_wp2_with fail
      refine (HLV.out _).mono ?_
      rintro e w6 ⟨rfl, h6⟩
      have H6 := Hid.mk' (H5.out.trans (Below.mono h6 H5.out.size))
      clear h6 H5
      go_wp2
      go_ret
      exact ⟨rfl, H6.out⟩
    · go_wp2_with fail
      refine (HLV.out _).mono ?_
      rintro e w5 ⟨rfl, h5⟩
      have E5 := Hid.mk' (HB.out.trans (Below.mono h5 HB.out.size))
      have X5 := HX.out.later h5
      have d0 : w5.cell? ⟨b7, 0, none⟩ = some (.int .i64 0) := X5.cell (j := 0) rfl
      have d1 : w5.cell? ⟨b7, 1, none⟩ = some (.int .i64 0) := X5.cell (j := 1) rfl
      have d2 : w5.cell? ⟨b7, 2, none⟩ = some (.string ⟨#[]⟩) := X5.cell (j := 2) rfl
      have d3 : w5.cell? ⟨b7, 3, none⟩ = some (.string ⟨#[]⟩) := X5.cell (j := 3) rfl
      have d4 : w5.cell? ⟨b7, 4, none⟩ = some (.string ⟨#[]⟩) := X5.cell (j := 4) rfl
      have HX5 := Hid.mk' X5
      have HF5 := Hid.mk' (HFB.out w5 E5.out)
      clear h5 HB HX X5 H7
      go_wp2_with fail
      refine HF5.out.mono ?_
      rintro e w6 ⟨vl1, rfl, r6, h6⟩
      have X6 := (Box.new w6 23 [.int .i64 (q.st : Int), .int .i64 q.mark, .string Q2, .string Q3, .string Q4])
      have E6 := Hid.mk' ((E5.out.trans (Below.mono h6 E5.out.size)).alloc (by have h := (E5.out.trans (Below.mono h6 E5.out.size)).size; exact h) (.cells #[.int .i64 (q.st : Int), .int .i64 q.mark, .string Q2, .string Q3, .string Q4] 23))
      have HX6 := Hid.mk' ((HX5.out.later h6).alloc (.cells #[.int .i64 (q.st : Int), .int .i64 q.mark, .string Q2, .string Q3, .string Q4] 23))
      have HR6 := Hid.mk' (r6.below ((Below.refl _ _).alloc (Nat.le_refl _) (.cells #[.int .i64 (q.st : Int), .int .i64 q.mark, .string Q2, .string Q3, .string Q4] 23)))
      have HY6 := Hid.mk' X6
      have HF6 := Hid.mk' (HFB.out _ E6.out)
      clear h6 r6 X6 HF5 E5 HX5 d0 d1 d2 d3 d4 HFB
      go_wp2_with fail
      refine HF6.out.mono ?_
      rintro e w7 ⟨vl2, rfl, r7, h7⟩
      have hA7 : Below w7.heap.size w7 (w7.alloc (.cells #[.int .i64 (q.st : Int), .int .i64 q.mark, .string Q2, .string Q3, .string Q4] 23)) := (Below.refl _ _).alloc (Nat.le_refl _) _
      have E7 := Hid.mk' ((E6.out.trans (Below.mono h7 E6.out.size)).trans (Below.mono hA7 (E6.out.trans (Below.mono h7 E6.out.size)).size))
      have X7 := (HX6.out.later h7).later hA7
      have Y7 := (HY6.out.later h7).later hA7
      have Z7 := (Box.new w7 23 [.int .i64 (q.st : Int), .int .i64 q.mark, .string Q2, .string Q3, .string Q4])
      have d0 : (w7.alloc (.cells #[.int .i64 (q.st : Int), .int .i64 q.mark, .string Q2, .string Q3, .string Q4] 23)).cell? ⟨b7, 0, none⟩ = some (.int .i64 0) := X7.cell (j := 0) rfl
      have d1 : (w7.alloc (.cells #[.int .i64 (q.st : Int), .int .i64 q.mark, .string Q2, .string Q3, .string Q4] 23)).cell? ⟨b7, 1, none⟩ = some (.int .i64 0) := X7.cell (j := 1) rfl
      have d2 : (w7.alloc (.cells #[.int .i64 (q.st : Int), .int .i64 q.mark, .string Q2, .string Q3, .string Q4] 23)).cell? ⟨b7, 2, none⟩ = some (.string ⟨#[]⟩) := X7.cell (j := 2) rfl
      have d3 : (w7.alloc (.cells #[.int .i64 (q.st : Int), .int .i64 q.mark, .string Q2, .string Q3, .string Q4] 23)).cell? ⟨b7, 3, none⟩ = some (.string ⟨#[]⟩) := X7.cell (j := 3) rfl
      have d4 : (w7.alloc (.cells #[.int .i64 (q.st : Int), .int .i64 q.mark, .string Q2, .string Q3, .string Q4] 23)).cell? ⟨b7, 4, none⟩ = some (.string ⟨#[]⟩) := X7.cell (j := 4) rfl
      have g0 : (w7.alloc (.cells #[.int .i64 (q.st : Int), .int .i64 q.mark, .string Q2, .string Q3, .string Q4] 23)).cell? ⟨w6.heap.size, 0, none⟩ = some (.int .i64 (q.st : Int)) := Y7.cell (j := 0) rfl
      have g1 : (w7.alloc (.cells #[.int .i64 (q.st : Int), .int .i64 q.mark, .string Q2, .string Q3, .string Q4] 23)).cell? ⟨w6.heap.size, 1, none⟩ = some (.int .i64 q.mark) := Y7.cell (j := 1) rfl
      have g2 : (w7.alloc (.cells #[.int .i64 (q.st : Int), .int .i64 q.mark, .string Q2, .string Q3, .string Q4] 23)).cell? ⟨w6.heap.size, 2, none⟩ = some (.string Q2) := Y7.cell (j := 2) rfl
      have g3 : (w7.alloc (.cells #[.int .i64 (q.st : Int), .int .i64 q.mark, .string Q2, .string Q3, .string Q4] 23)).cell? ⟨w6.heap.size, 3, none⟩ = some (.string Q3) := Y7.cell (j := 3) rfl
      have g4 : (w7.alloc (.cells #[.int .i64 (q.st : Int), .int .i64 q.mark, .string Q2, .string Q3, .string Q4] 23)).cell? ⟨w6.heap.size, 4, none⟩ = some (.string Q4) := Y7.cell (j := 4) rfl
      have HS7 := Hid.mk' (SameActs_same L vl1 vl2 _ ((HR6.out.below h7).below hA7).rd (r7.below hA7).rd HSM.out (by omega))
      have t2 := same_self Q2
      have t3 := same_self Q3
      have t4 := same_self Q4
      clear h7 r7 hA7 X7 Y7 Z7 HX6 HY6 HR6 HF6 E6 HSM
      go_wp2_with fail
      refine HS7.out.mono ?_
      rintro e w8 ⟨rfl, h8⟩
      have H8 := Hid.mk' (HB1.out _ (E7.out.trans (Below.mono h8 E7.out.size)))
      clear h8 HS7 E7
      go_wp2
      go_ret
      exact ⟨rfl, H8.out⟩
end Go.Proofs.Ytneiiinheimglaa.B
