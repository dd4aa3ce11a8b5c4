/-
  Contract of farref.ActRunes at an act of one kind (a command behind 27 alone): its runes where it may be written, else none; conditions: texts and numbers of at most 2^20; the variable internal/bytealg.MaxLen holds an int.
-/
import Derived.Test.YtneiiinheimglaaGreatDoorBActA
import Derived.BigRegion
import Derived.Deep.DeepCutAuto
import Derived.Deep.CutBlock
namespace Go.Proofs.YtneiiinheimglaaGreatDoor.B
open Go.RowKit Go.Lib Go.Proofs.YtneiiinheimglaaGreatDoor Go.Proofs.YtneiiinheimglaaGreatDoor.W Go.Proofs.YtneiiinheimglaaGreatDoor.Q Go.Proofs.YtneiiinheimglaaGreatDoor.C Go.Proofs.YtneiiinheimglaaGreatDoor.Z

attribute [local go_sem ↓] exec_storeP
set_option maxHeartbeats 16000000 in
set_option maxRecDepth 100000 in
theorem ActRunes_3 (y : Ac) (vy : Value) (m : Int) (w : World) (hv : RdI w vy y.args) (hm : w.cell? ⟨2, 0, none⟩ = some (.int .i64 m)) (hin : y.inter.length ≤ 1048576) (_ : y.text.length ≤ 1048576) (har : y.args.length ≤ 1048576) (hk : y.kind = 3) :
    Calls Tryz.prog 5 #[.agg (acells y vy).toArray] w (ARes y (wL y) w) := by
  have hK : 1 ≤ y.kind ∧ y.kind ≤ 5 := by omega
  have h4 : y.kind = 4 → (writeT y.args).2 = 0 ∧ (writeT y.args).1.length ≤ 100 := fun h => by omega
  have HAO := Hid.mk' (fun h : wOk y => act_ok h)
  have HAB := Hid.mk' (fun h1 h2 h3 => act_of (y := y) hK h4 h1 h2 h3)
  have HQ := Hid.mk' (fun h => st_zero (run_right (wL y) right_p0) h)
  have HSM := Hid.mk' (few_args right_p0 (wL y))
  have hLL : 0 < (wL y).length ∧ (wL y).length ≤ 3000000 := by rw [wL_three hk]; simp only [List.length_append, List.length_cons, List.length_nil, asInts_len]; omega
  have hL0 : 0 < (wL y).length := by have := hLL.1; omega
  have hL1 : (wL y).length ≤ 274877906944 := by have := hLL.2; omega
  have HP := Hid.mk' (fun v W (hB : Below w.heap.size w W) (hr : RdI W v (wL y)) => (show Calls Tryz.prog 13 #[.agg #[.int .i64 0, .int .i64 0, .string ⟨#[]⟩, .string ⟨#[]⟩, .string ⟨#[]⟩], v] W _ from Parsed_any p0 right_p0 m v (wL y) W hr hL1 ((hB.cell (p := ⟨2, 0, none⟩) (World.block_lt_of_cell? _ _ hm)).trans hm)))
  have HSA := Hid.mk' (fun x va vb W (h1 : RdI W va x.args) (h2 : RdI W vb y.args) (h3 : x.args.length ≤ 1000000000) => SameAct_any x y va vb W h1 h2 h3 (by omega))
  have HRU := Hid.mk' (fun c W => Rune_any c W)
  have HVY : Hid (∀ W, Below w.heap.size w W → RdI W vy y.args) := fun W h => hv.below h
  have HLE := Hid.mk' (wL_three hk)
  have HAR := Hid.mk' (fun W => asciiRunes_any y.inter W (by omega))
  have HTL : Hid ((asInts y.inter).length ≤ 1048576) := by rw [Hid, asInts_len]; exact hin
  generalize run p0 (wL y) = Y at *
  generalize wL y = L at *
  obtain ⟨q, acts⟩ := Y
  dsimp only at *
  unfold pcells at HP
  obtain ⟨ad, cp, rfl, hv2⟩ := hv
  have kb1 : (y.kind == 1) = false := by rw [hk]; rfl
  have kb2 : (y.kind == 2) = false := by rw [hk]; rfl
  have kb3 : (y.kind == 3) = true := by rw [hk]; rfl
  have kb4 : (y.kind == 4) = false := by rw [hk]; rfl
  have kb5 : (y.kind == 5) = false := by rw [hk]; rfl
  clear hv2 hm hK hk hLL hin har
  have X0 := Rw.new (w := w) y (.slice ad y.args.length cp)
  have c0 := X0.a.cell (j := 0) (v := .int .i64 y.kind) rfl
  have c1 := X0.a.cell (j := 1) (v := .int .i64 y.code) rfl
  have c2 := X0.a.cell (j := 2) (v := .int .i64 y.mark) rfl
  have c3 := X0.a.cell (j := 3) (v := .string (bs y.inter)) rfl
  have c4 := X0.a.cell (j := 4) (v := .slice ad y.args.length cp) rfl
  have c5 := X0.a.cell (j := 5) (v := .string (bs y.text)) rfl
  have HX0 := Hid.mk' X0
  clear X0
  unfold acells at *
  go_enter Tryz.func5, Tryz.ntmps5
  go_upto_block 0 with fail
  go_cut [4] (fun s4 wx => Hid (RdI wx s4 L) ∧ Hid (Rw w y (.slice ad y.args.length cp) wx))
  case first =>
    go_upto_region 8 with fail
    have hE := HX0.out.drew
    clear c0 c1 c2 c3 c4 c5 HX0 HAO HAB HQ HSM HP HSA HRU HVY
    refine wp_region_noPanic ?_
    refine wp_region_held_drew (S := fun w' => Rw w y (.slice ad y.args.length cp) w') (by kernel_rfl) hE (fun hHeld => ?_)
    generalize (w.alloc (.cells #[.int .i64 y.kind, .int .i64 y.code, .int .i64 y.mark, .string (bs y.inter), .slice ad y.args.length cp, .string (bs y.text)] 24)).drew = wd at *
    refine wpAnyH_take (i := 1) (oi := { dst := some 28, op := Go.Op.fieldAddr 24 (Go.Operand.tmp 1) 3, type := 0, pos := _, after := #[], guard := none }) (v := .pointer (some ⟨w.heap.size, 3, none⟩)) rfl (by kernel_rfl) (by kernel_rfl) (by kernel_rfl) (fun _ _ _ h => h) (Or.inl ⟨by rfl, fun w' hSw => ?_⟩) (by assumption) ?_
    · (try dsimp only at hSw); go_simp
    (try simp only [Act.put]); (try simp only [List.setIfInBounds_toArray]); (try simp only [List.set_cons_succ]); (try simp only [List.set_cons_zero])
    refine wpAnyH_take (i := 2) (oi := { dst := some 29, op := Go.Op.load 9 (Go.Operand.tmp 28), type := 9, pos := _, after := #[{ on := 1, ground := Go.Ground.data }], guard := none }) (v := .string (bs y.inter)) rfl (by kernel_rfl) (by kernel_rfl) (by kernel_rfl) (fun _ _ _ h => h) (Or.inl ⟨by rfl, fun w' hSw => ?_⟩) (by assumption) ?_
    · have d3 := hSw.a.cell (j := 3) (v := .string (bs y.inter)) rfl
      clear hSw
      go_simp
    (try simp only [Act.put]); (try simp only [List.setIfInBounds_toArray]); (try simp only [List.set_cons_succ]); (try simp only [List.set_cons_zero])
    refine wpAnyH_take (i := 5) (oi := { dst := some 32, op := Go.Op.fieldAddr 24 (Go.Operand.tmp 1) 1, type := 0, pos := _, after := #[], guard := none }) (v := .pointer (some ⟨w.heap.size, 1, none⟩)) rfl (by kernel_rfl) (by kernel_rfl) (by kernel_rfl) (fun _ _ _ h => h) (Or.inl ⟨by rfl, fun w' hSw => ?_⟩) (by assumption) ?_
    · (try dsimp only at hSw); go_simp
    (try simp only [Act.put]); (try simp only [List.setIfInBounds_toArray]); (try simp only [List.set_cons_succ]); (try simp only [List.set_cons_zero])
    refine wpAnyH_take (i := 6) (oi := { dst := some 33, op := Go.Op.load 3 (Go.Operand.tmp 32), type := 3, pos := _, after := #[{ on := 5, ground := Go.Ground.data }], guard := none }) (v := .int .i64 y.code) rfl (by kernel_rfl) (by kernel_rfl) (by kernel_rfl) (fun _ _ _ h => h) (Or.inl ⟨by rfl, fun w' hSw => ?_⟩) (by assumption) ?_
    · have d1 := hSw.a.cell (j := 1) (v := .int .i64 y.code) rfl
      clear hSw
      go_simp
    (try simp only [Act.put]); (try simp only [List.setIfInBounds_toArray]); (try simp only [List.set_cons_succ]); (try simp only [List.set_cons_zero])
    refine wpAnyH_ready (rs := [0, 3, 7]) (by kernel_rfl) (by simp) ?_
    refine AllReadyH.cons (o := { dst := some 27, op := Go.Op.buildSlice 22 1 #[(0, Go.Operand.const (Go.Value.int Go.IntKind.i64 27))], type := 22, pos := _, after := #[], guard := none }) rfl (fun K hK => ?_) ?_
    · skip
      go_simp
      have e1 := hE.alloc (.cells #[.int .i64 27] 3)
      have o1 := Hid.mk' (OwnI.lit wd (w.heap.size + 1) [27] hE.le (by decide))
      change Hid (OwnI (wd.alloc (.cells #[.int .i64 27] 3)) (w.heap.size + 1) (.slice (some ⟨wd.heap.size, 0, none⟩) 1 1) [27]) at o1
      generalize wd.alloc (.cells #[.int .i64 27] 3) = v1 at *
      generalize wd.heap.size = b1 at *
      refine hK.out _ _ e1 (fun hHeld => ?_)
      clear hK K
      (try simp only [Act.put]); (try simp only [List.setIfInBounds_toArray]); (try simp only [List.set_cons_succ]); (try simp only [List.set_cons_zero])
      refine wpAnyH_ready (rs := [3, 7]) (by kernel_rfl) (by simp) ?_
      refine AllReadyH.cons (o := { dst := some 30, op := Go.Op.call { callee := Go.Callee.value (Go.Operand.func 10), args := #[Go.Operand.tmp 29], argTypes := #[9] }, type := 22, pos := _, after := #[{ on := 2, ground := Go.Ground.data }], guard := none }) rfl (fun K hK => ?_) ?_
      · skip
        go_simp
        refine (HAR.out v1).mono ?_
        rintro e v2 ⟨rv2, rfl, ho2, hb2⟩
        obtain ⟨ra2, rc2, re2⟩ := OwnI.form ho2
        subst re2
        have e2 := e1.later hb2
        have r2 := Hid.mk' (RdI.own ho2)
        have o2 := Hid.mk' (o1.out.below hb2)
        clear ho2 hb2
        refine hK.out _ _ e2 (fun hHeld => ?_)
        clear hK K
        (try simp only [Act.put]); (try simp only [List.setIfInBounds_toArray]); (try simp only [List.set_cons_succ]); (try simp only [List.set_cons_zero])
        refine wpAnyH_ready (rs := [4, 7]) (by kernel_rfl) (by simp) ?_
        refine AllReadyH.cons (o := { dst := some 31, op := Go.Op.call { callee := Go.Callee.builtin Go.Builtin.append, args := #[Go.Operand.tmp 27, Go.Operand.tmp 30], argTypes := #[22, 22] }, type := 22, pos := _, after := #[{ on := 0, ground := Go.Ground.data }, { on := 3, ground := Go.Ground.data }, { on := 3, ground := Go.Ground.chain }], guard := none }) rfl (fun K hK => ?_) ?_
        · skip
          refine step_append_sep rfl _ _ rfl (w.heap.size + 1) (some ⟨b1, 0, none⟩) 1 1 [27] rfl o2.out ra2 (asInts y.inter).length rc2 (asInts y.inter) rfl r2.out (by have h1 := HTL.out; simp <;> omega) e2.le ?_
          intro al3 n3 cl3 v3 hn3 ho3 hB3 hS3
          have e3 := e2.app hB3
          have o3 := Hid.mk' ho3
          clear ho3 hn3 hB3 hS3
          refine hK.out _ _ e3 (fun hHeld => ?_)
          clear hK K
          (try simp only [Act.put]); (try simp only [List.setIfInBounds_toArray]); (try simp only [List.set_cons_succ]); (try simp only [List.set_cons_zero])
          refine wpAnyH_ready (rs := [7]) (by kernel_rfl) (by simp) ?_
          refine AllReadyH.cons (o := { dst := some 34, op := Go.Op.buildSlice 22 1 #[(0, Go.Operand.tmp 33)], type := 22, pos := _, after := #[{ on := 6, ground := Go.Ground.data }], guard := none }) rfl (fun K hK => ?_) ?_
          · skip
            go_simp
            have e4 := e3.alloc (.cells #[.int .i64 y.code] 3)
            have k4 := Hid.mk' (Box.new v3 3 [.int .i64 y.code])
            have o4 := Hid.mk' (o3.out.below ((Below.refl _ _).alloc (Nat.le_refl _) (.cells #[.int .i64 y.code] 3)))
            have s4 := Hid.mk' (own_box o3.out)
            change Hid (Box (v3.alloc (.cells #[.int .i64 y.code] 3)) v3.heap.size 3 [.int .i64 y.code]) at k4
            generalize v3.alloc (.cells #[.int .i64 y.code] 3) = v4 at *
            generalize v3.heap.size = b4 at *
            refine hK.out _ _ e4 (fun hHeld => ?_)
            clear hK K
            (try simp only [Act.put]); (try simp only [List.setIfInBounds_toArray]); (try simp only [List.set_cons_succ]); (try simp only [List.set_cons_zero])
            refine wpAnyH_ready (rs := [8]) (by kernel_rfl) (by simp) ?_
            refine AllReadyH.cons (o := { dst := some 35, op := Go.Op.call { callee := Go.Callee.builtin Go.Builtin.append, args := #[Go.Operand.tmp 31, Go.Operand.tmp 34], argTypes := #[22, 22] }, type := 22, pos := _, after := #[{ on := 4, ground := Go.Ground.data }, { on := 7, ground := Go.Ground.data }, { on := 4, ground := Go.Ground.chain }], guard := none }) rfl (fun K hK => ?_) ?_
            · skip
              refine step_append_sep rfl _ _ rfl (w.heap.size + 1) al3 n3 cl3 ([27] ++ (asInts y.inter)) rfl o4.out (some ⟨b4, 0, none⟩) 1 1 [y.code] rfl (rd_one k4.out) (by have h1 := HTL.out; simp <;> omega) e4.le ?_
              intro al5 n5 cl5 v5 hn5 ho5 hB5 hS5
              have e5 := e4.app hB5
              have o5 := Hid.mk' ho5
              clear ho5 hn5 hB5 hS5
              refine hK.out _ _ e5 (fun hHeld => ?_)
              clear hK K
              (try simp only [Act.put]); (try simp only [List.setIfInBounds_toArray]); (try simp only [List.set_cons_succ]); (try simp only [List.set_cons_zero])
              refine wpAnyH_take (i := 9) (oi := { dst := some 4, op := Go.Op.assign (Go.Operand.tmp 35), type := 22, pos := _, after := #[{ on := 8, ground := Go.Ground.data }, { on := 8, ground := Go.Ground.chain }, { on := 0, ground := Go.Ground.phase }, { on := 1, ground := Go.Ground.phase }, { on := 2, ground := Go.Ground.phase }, { on := 3, ground := Go.Ground.phase }, { on := 4, ground := Go.Ground.phase }, { on := 5, ground := Go.Ground.phase }, { on := 6, ground := Go.Ground.phase }, { on := 7, ground := Go.Ground.phase }, { on := 8, ground := Go.Ground.phase }], guard := none }) (v := .slice al5 n5 cl5) rfl (by kernel_rfl) (by kernel_rfl) (by kernel_rfl) (fun _ _ _ h => h) (Or.inl ⟨by rfl, fun w' hSw => ?_⟩) (by assumption) ?_
              · (try dsimp only at hSw); go_simp
              (try simp only [Act.put]); (try simp only [List.setIfInBounds_toArray]); (try simp only [List.set_cons_succ]); (try simp only [List.set_cons_zero])
              refine wpAnyH_done (by kernel_rfl) ?_ _
              refine NoPanic.normal ?_
              have HV9 : Hid (RdI v5 (.slice al5 n5 cl5) L) := by
                rw [HLE.out]
                exact RdI.own o5.out
              have HX9 := Hid.mk' e5
              clear e5
              go_wp2_with fail
              go_meet
              exact ⟨HV9, HX9⟩
            exact AllReadyH.nil
          exact AllReadyH.nil
        refine AllReadyH.cons (o := { dst := some 34, op := Go.Op.buildSlice 22 1 #[(0, Go.Operand.tmp 33)], type := 22, pos := _, after := #[{ on := 6, ground := Go.Ground.data }], guard := none }) rfl (fun K hK => ?_) ?_
        · skip
          go_simp
          have e6 := e2.alloc (.cells #[.int .i64 y.code] 3)
          have k6 := Hid.mk' (Box.new v2 3 [.int .i64 y.code])
          have r6 := Hid.mk' (r2.out.below ((Below.refl _ _).alloc (Nat.le_refl _) (.cells #[.int .i64 y.code] 3)))
          have o6 := Hid.mk' (o2.out.below ((Below.refl _ _).alloc (Nat.le_refl _) (.cells #[.int .i64 y.code] 3)))
          have s6 := Hid.mk' (own_box o2.out)
          change Hid (Box (v2.alloc (.cells #[.int .i64 y.code] 3)) v2.heap.size 3 [.int .i64 y.code]) at k6
          generalize v2.alloc (.cells #[.int .i64 y.code] 3) = v6 at *
          generalize v2.heap.size = b6 at *
          refine hK.out _ _ e6 (fun hHeld => ?_)
          clear hK K
          (try simp only [Act.put]); (try simp only [List.setIfInBounds_toArray]); (try simp only [List.set_cons_succ]); (try simp only [List.set_cons_zero])
          refine wpAnyH_ready (rs := [4]) (by kernel_rfl) (by simp) ?_
          refine AllReadyH.cons (o := { dst := some 31, op := Go.Op.call { callee := Go.Callee.builtin Go.Builtin.append, args := #[Go.Operand.tmp 27, Go.Operand.tmp 30], argTypes := #[22, 22] }, type := 22, pos := _, after := #[{ on := 0, ground := Go.Ground.data }, { on := 3, ground := Go.Ground.data }, { on := 3, ground := Go.Ground.chain }], guard := none }) rfl (fun K hK => ?_) ?_
          · skip
            refine step_append_sep rfl _ _ rfl (w.heap.size + 1) (some ⟨b1, 0, none⟩) 1 1 [27] rfl o6.out ra2 (asInts y.inter).length rc2 (asInts y.inter) rfl r6.out (by have h1 := HTL.out; simp <;> omega) e6.le ?_
            intro al7 n7 cl7 v7 hn7 ho7 hB7 hS7
            have e7 := e6.app hB7
            have o7 := Hid.mk' ho7
            have k7 := Hid.mk' (hS7 _ _ _ k6.out s6.out).1
            have s7 := Hid.mk' (hS7 _ _ _ k6.out s6.out).2
            clear ho7 hn7 hB7 hS7
            refine hK.out _ _ e7 (fun hHeld => ?_)
            clear hK K
            (try simp only [Act.put]); (try simp only [List.setIfInBounds_toArray]); (try simp only [List.set_cons_succ]); (try simp only [List.set_cons_zero])
            refine wpAnyH_ready (rs := [8]) (by kernel_rfl) (by simp) ?_
            refine AllReadyH.cons (o := { dst := some 35, op := Go.Op.call { callee := Go.Callee.builtin Go.Builtin.append, args := #[Go.Operand.tmp 31, Go.Operand.tmp 34], argTypes := #[22, 22] }, type := 22, pos := _, after := #[{ on := 4, ground := Go.Ground.data }, { on := 7, ground := Go.Ground.data }, { on := 4, ground := Go.Ground.chain }], guard := none }) rfl (fun K hK => ?_) ?_
            · skip
              refine step_append_sep rfl _ _ rfl (w.heap.size + 1) al7 n7 cl7 ([27] ++ (asInts y.inter)) rfl o7.out (some ⟨b6, 0, none⟩) 1 1 [y.code] rfl (rd_one k7.out) (by have h1 := HTL.out; simp <;> omega) e7.le ?_
              intro al8 n8 cl8 v8 hn8 ho8 hB8 hS8
              have e8 := e7.app hB8
              have o8 := Hid.mk' ho8
              clear ho8 hn8 hB8 hS8
              refine hK.out _ _ e8 (fun hHeld => ?_)
              clear hK K
              (try simp only [Act.put]); (try simp only [List.setIfInBounds_toArray]); (try simp only [List.set_cons_succ]); (try simp only [List.set_cons_zero])
              refine wpAnyH_take (i := 9) (oi := { dst := some 4, op := Go.Op.assign (Go.Operand.tmp 35), type := 22, pos := _, after := #[{ on := 8, ground := Go.Ground.data }, { on := 8, ground := Go.Ground.chain }, { on := 0, ground := Go.Ground.phase }, { on := 1, ground := Go.Ground.phase }, { on := 2, ground := Go.Ground.phase }, { on := 3, ground := Go.Ground.phase }, { on := 4, ground := Go.Ground.phase }, { on := 5, ground := Go.Ground.phase }, { on := 6, ground := Go.Ground.phase }, { on := 7, ground := Go.Ground.phase }, { on := 8, ground := Go.Ground.phase }], guard := none }) (v := .slice al8 n8 cl8) rfl (by kernel_rfl) (by kernel_rfl) (by kernel_rfl) (fun _ _ _ h => h) (Or.inl ⟨by rfl, fun w' hSw => ?_⟩) (by assumption) ?_
              · (try dsimp only at hSw); go_simp
              (try simp only [Act.put]); (try simp only [List.setIfInBounds_toArray]); (try simp only [List.set_cons_succ]); (try simp only [List.set_cons_zero])
              refine wpAnyH_done (by kernel_rfl) ?_ _
              refine NoPanic.normal ?_
              have HV9 : Hid (RdI v8 (.slice al8 n8 cl8) L) := by
                rw [HLE.out]
                exact RdI.own o8.out
              have HX9 := Hid.mk' e8
              clear e8
              go_wp2_with fail
              go_meet
              exact ⟨HV9, HX9⟩
            exact AllReadyH.nil
          exact AllReadyH.nil
        exact AllReadyH.nil
      refine AllReadyH.cons (o := { dst := some 34, op := Go.Op.buildSlice 22 1 #[(0, Go.Operand.tmp 33)], type := 22, pos := _, after := #[{ on := 6, ground := Go.Ground.data }], guard := none }) rfl (fun K hK => ?_) ?_
      · skip
        go_simp
        have e9 := e1.alloc (.cells #[.int .i64 y.code] 3)
        have k9 := Hid.mk' (Box.new v1 3 [.int .i64 y.code])
        have o9 := Hid.mk' (o1.out.below ((Below.refl _ _).alloc (Nat.le_refl _) (.cells #[.int .i64 y.code] 3)))
        have s9 := Hid.mk' (own_box o1.out)
        change Hid (Box (v1.alloc (.cells #[.int .i64 y.code] 3)) v1.heap.size 3 [.int .i64 y.code]) at k9
        generalize v1.alloc (.cells #[.int .i64 y.code] 3) = v9 at *
        generalize v1.heap.size = b9 at *
        refine hK.out _ _ e9 (fun hHeld => ?_)
        clear hK K
        (try simp only [Act.put]); (try simp only [List.setIfInBounds_toArray]); (try simp only [List.set_cons_succ]); (try simp only [List.set_cons_zero])
        refine wpAnyH_ready (rs := [3]) (by kernel_rfl) (by simp) ?_
        refine AllReadyH.cons (o := { dst := some 30, op := Go.Op.call { callee := Go.Callee.value (Go.Operand.func 10), args := #[Go.Operand.tmp 29], argTypes := #[9] }, type := 22, pos := _, after := #[{ on := 2, ground := Go.Ground.data }], guard := none }) rfl (fun K hK => ?_) ?_
        · skip
          go_simp
          refine (HAR.out v9).mono ?_
          rintro e v10 ⟨rv10, rfl, ho10, hb10⟩
          obtain ⟨ra10, rc10, re10⟩ := OwnI.form ho10
          subst re10
          have e10 := e9.later hb10
          have r10 := Hid.mk' (RdI.own ho10)
          have o10 := Hid.mk' (o9.out.below hb10)
          have k10 := Hid.mk' (k9.out.later hb10)
          clear ho10 hb10
          refine hK.out _ _ e10 (fun hHeld => ?_)
          clear hK K
          (try simp only [Act.put]); (try simp only [List.setIfInBounds_toArray]); (try simp only [List.set_cons_succ]); (try simp only [List.set_cons_zero])
          refine wpAnyH_ready (rs := [4]) (by kernel_rfl) (by simp) ?_
          refine AllReadyH.cons (o := { dst := some 31, op := Go.Op.call { callee := Go.Callee.builtin Go.Builtin.append, args := #[Go.Operand.tmp 27, Go.Operand.tmp 30], argTypes := #[22, 22] }, type := 22, pos := _, after := #[{ on := 0, ground := Go.Ground.data }, { on := 3, ground := Go.Ground.data }, { on := 3, ground := Go.Ground.chain }], guard := none }) rfl (fun K hK => ?_) ?_
          · skip
            refine step_append_sep rfl _ _ rfl (w.heap.size + 1) (some ⟨b1, 0, none⟩) 1 1 [27] rfl o10.out ra10 (asInts y.inter).length rc10 (asInts y.inter) rfl r10.out (by have h1 := HTL.out; simp <;> omega) e10.le ?_
            intro al11 n11 cl11 v11 hn11 ho11 hB11 hS11
            have e11 := e10.app hB11
            have o11 := Hid.mk' ho11
            have k11 := Hid.mk' (hS11 _ _ _ k10.out s9.out).1
            have s11 := Hid.mk' (hS11 _ _ _ k10.out s9.out).2
            clear ho11 hn11 hB11 hS11
            refine hK.out _ _ e11 (fun hHeld => ?_)
            clear hK K
            (try simp only [Act.put]); (try simp only [List.setIfInBounds_toArray]); (try simp only [List.set_cons_succ]); (try simp only [List.set_cons_zero])
            refine wpAnyH_ready (rs := [8]) (by kernel_rfl) (by simp) ?_
            refine AllReadyH.cons (o := { dst := some 35, op := Go.Op.call { callee := Go.Callee.builtin Go.Builtin.append, args := #[Go.Operand.tmp 31, Go.Operand.tmp 34], argTypes := #[22, 22] }, type := 22, pos := _, after := #[{ on := 4, ground := Go.Ground.data }, { on := 7, ground := Go.Ground.data }, { on := 4, ground := Go.Ground.chain }], guard := none }) rfl (fun K hK => ?_) ?_
            · skip
              refine step_append_sep rfl _ _ rfl (w.heap.size + 1) al11 n11 cl11 ([27] ++ (asInts y.inter)) rfl o11.out (some ⟨b9, 0, none⟩) 1 1 [y.code] rfl (rd_one k11.out) (by have h1 := HTL.out; simp <;> omega) e11.le ?_
              intro al12 n12 cl12 v12 hn12 ho12 hB12 hS12
              have e12 := e11.app hB12
              have o12 := Hid.mk' ho12
              clear ho12 hn12 hB12 hS12
              refine hK.out _ _ e12 (fun hHeld => ?_)
              clear hK K
              (try simp only [Act.put]); (try simp only [List.setIfInBounds_toArray]); (try simp only [List.set_cons_succ]); (try simp only [List.set_cons_zero])
              refine wpAnyH_take (i := 9) (oi := { dst := some 4, op := Go.Op.assign (Go.Operand.tmp 35), type := 22, pos := _, after := #[{ on := 8, ground := Go.Ground.data }, { on := 8, ground := Go.Ground.chain }, { on := 0, ground := Go.Ground.phase }, { on := 1, ground := Go.Ground.phase }, { on := 2, ground := Go.Ground.phase }, { on := 3, ground := Go.Ground.phase }, { on := 4, ground := Go.Ground.phase }, { on := 5, ground := Go.Ground.phase }, { on := 6, ground := Go.Ground.phase }, { on := 7, ground := Go.Ground.phase }, { on := 8, ground := Go.Ground.phase }], guard := none }) (v := .slice al12 n12 cl12) rfl (by kernel_rfl) (by kernel_rfl) (by kernel_rfl) (fun _ _ _ h => h) (Or.inl ⟨by rfl, fun w' hSw => ?_⟩) (by assumption) ?_
              · (try dsimp only at hSw); go_simp
              (try simp only [Act.put]); (try simp only [List.setIfInBounds_toArray]); (try simp only [List.set_cons_succ]); (try simp only [List.set_cons_zero])
              refine wpAnyH_done (by kernel_rfl) ?_ _
              refine NoPanic.normal ?_
              have HV9 : Hid (RdI v12 (.slice al12 n12 cl12) L) := by
                rw [HLE.out]
                exact RdI.own o12.out
              have HX9 := Hid.mk' e12
              clear e12
              go_wp2_with fail
              go_meet
              exact ⟨HV9, HX9⟩
            exact AllReadyH.nil
          exact AllReadyH.nil
        exact AllReadyH.nil
      exact AllReadyH.nil
    refine AllReadyH.cons (o := { dst := some 30, op := Go.Op.call { callee := Go.Callee.value (Go.Operand.func 10), args := #[Go.Operand.tmp 29], argTypes := #[9] }, type := 22, pos := _, after := #[{ on := 2, ground := Go.Ground.data }], guard := none }) rfl (fun K hK => ?_) ?_
    · skip
      go_simp
      refine (HAR.out wd).mono ?_
      rintro e v13 ⟨rv13, rfl, ho13, hb13⟩
      obtain ⟨ra13, rc13, re13⟩ := OwnI.form ho13
      subst re13
      have e13 := hE.later hb13
      have r13 := Hid.mk' (RdI.own ho13)
      clear ho13 hb13
      refine hK.out _ _ e13 (fun hHeld => ?_)
      clear hK K
      (try simp only [Act.put]); (try simp only [List.setIfInBounds_toArray]); (try simp only [List.set_cons_succ]); (try simp only [List.set_cons_zero])
      refine wpAnyH_ready (rs := [0, 7]) (by kernel_rfl) (by simp) ?_
      refine AllReadyH.cons (o := { dst := some 27, op := Go.Op.buildSlice 22 1 #[(0, Go.Operand.const (Go.Value.int Go.IntKind.i64 27))], type := 22, pos := _, after := #[], guard := none }) rfl (fun K hK => ?_) ?_
      · skip
        go_simp
        have e14 := e13.alloc (.cells #[.int .i64 27] 3)
        have o14 := Hid.mk' (OwnI.lit v13 (w.heap.size + 1) [27] e13.le (by decide))
        have r14 := Hid.mk' (r13.out.below ((Below.refl _ _).alloc (Nat.le_refl _) (.cells #[.int .i64 27] 3)))
        change Hid (OwnI (v13.alloc (.cells #[.int .i64 27] 3)) (w.heap.size + 1) (.slice (some ⟨v13.heap.size, 0, none⟩) 1 1) [27]) at o14
        generalize v13.alloc (.cells #[.int .i64 27] 3) = v14 at *
        generalize v13.heap.size = b14 at *
        refine hK.out _ _ e14 (fun hHeld => ?_)
        clear hK K
        (try simp only [Act.put]); (try simp only [List.setIfInBounds_toArray]); (try simp only [List.set_cons_succ]); (try simp only [List.set_cons_zero])
        refine wpAnyH_ready (rs := [4, 7]) (by kernel_rfl) (by simp) ?_
        refine AllReadyH.cons (o := { dst := some 31, op := Go.Op.call { callee := Go.Callee.builtin Go.Builtin.append, args := #[Go.Operand.tmp 27, Go.Operand.tmp 30], argTypes := #[22, 22] }, type := 22, pos := _, after := #[{ on := 0, ground := Go.Ground.data }, { on := 3, ground := Go.Ground.data }, { on := 3, ground := Go.Ground.chain }], guard := none }) rfl (fun K hK => ?_) ?_
        · skip
          refine step_append_sep rfl _ _ rfl (w.heap.size + 1) (some ⟨b14, 0, none⟩) 1 1 [27] rfl o14.out ra13 (asInts y.inter).length rc13 (asInts y.inter) rfl r14.out (by have h1 := HTL.out; simp <;> omega) e14.le ?_
          intro al15 n15 cl15 v15 hn15 ho15 hB15 hS15
          have e15 := e14.app hB15
          have o15 := Hid.mk' ho15
          clear ho15 hn15 hB15 hS15
          refine hK.out _ _ e15 (fun hHeld => ?_)
          clear hK K
          (try simp only [Act.put]); (try simp only [List.setIfInBounds_toArray]); (try simp only [List.set_cons_succ]); (try simp only [List.set_cons_zero])
          refine wpAnyH_ready (rs := [7]) (by kernel_rfl) (by simp) ?_
          refine AllReadyH.cons (o := { dst := some 34, op := Go.Op.buildSlice 22 1 #[(0, Go.Operand.tmp 33)], type := 22, pos := _, after := #[{ on := 6, ground := Go.Ground.data }], guard := none }) rfl (fun K hK => ?_) ?_
          · skip
            go_simp
            have e16 := e15.alloc (.cells #[.int .i64 y.code] 3)
            have k16 := Hid.mk' (Box.new v15 3 [.int .i64 y.code])
            have o16 := Hid.mk' (o15.out.below ((Below.refl _ _).alloc (Nat.le_refl _) (.cells #[.int .i64 y.code] 3)))
            have s16 := Hid.mk' (own_box o15.out)
            change Hid (Box (v15.alloc (.cells #[.int .i64 y.code] 3)) v15.heap.size 3 [.int .i64 y.code]) at k16
            generalize v15.alloc (.cells #[.int .i64 y.code] 3) = v16 at *
            generalize v15.heap.size = b16 at *
            refine hK.out _ _ e16 (fun hHeld => ?_)
            clear hK K
            (try simp only [Act.put]); (try simp only [List.setIfInBounds_toArray]); (try simp only [List.set_cons_succ]); (try simp only [List.set_cons_zero])
            refine wpAnyH_ready (rs := [8]) (by kernel_rfl) (by simp) ?_
            refine AllReadyH.cons (o := { dst := some 35, op := Go.Op.call { callee := Go.Callee.builtin Go.Builtin.append, args := #[Go.Operand.tmp 31, Go.Operand.tmp 34], argTypes := #[22, 22] }, type := 22, pos := _, after := #[{ on := 4, ground := Go.Ground.data }, { on := 7, ground := Go.Ground.data }, { on := 4, ground := Go.Ground.chain }], guard := none }) rfl (fun K hK => ?_) ?_
            · skip
              refine step_append_sep rfl _ _ rfl (w.heap.size + 1) al15 n15 cl15 ([27] ++ (asInts y.inter)) rfl o16.out (some ⟨b16, 0, none⟩) 1 1 [y.code] rfl (rd_one k16.out) (by have h1 := HTL.out; simp <;> omega) e16.le ?_
              intro al17 n17 cl17 v17 hn17 ho17 hB17 hS17
              have e17 := e16.app hB17
              have o17 := Hid.mk' ho17
              clear ho17 hn17 hB17 hS17
              refine hK.out _ _ e17 (fun hHeld => ?_)
              clear hK K
              (try simp only [Act.put]); (try simp only [List.setIfInBounds_toArray]); (try simp only [List.set_cons_succ]); (try simp only [List.set_cons_zero])
              refine wpAnyH_take (i := 9) (oi := { dst := some 4, op := Go.Op.assign (Go.Operand.tmp 35), type := 22, pos := _, after := #[{ on := 8, ground := Go.Ground.data }, { on := 8, ground := Go.Ground.chain }, { on := 0, ground := Go.Ground.phase }, { on := 1, ground := Go.Ground.phase }, { on := 2, ground := Go.Ground.phase }, { on := 3, ground := Go.Ground.phase }, { on := 4, ground := Go.Ground.phase }, { on := 5, ground := Go.Ground.phase }, { on := 6, ground := Go.Ground.phase }, { on := 7, ground := Go.Ground.phase }, { on := 8, ground := Go.Ground.phase }], guard := none }) (v := .slice al17 n17 cl17) rfl (by kernel_rfl) (by kernel_rfl) (by kernel_rfl) (fun _ _ _ h => h) (Or.inl ⟨by rfl, fun w' hSw => ?_⟩) (by assumption) ?_
              · (try dsimp only at hSw); go_simp
              (try simp only [Act.put]); (try simp only [List.setIfInBounds_toArray]); (try simp only [List.set_cons_succ]); (try simp only [List.set_cons_zero])
              refine wpAnyH_done (by kernel_rfl) ?_ _
              refine NoPanic.normal ?_
              have HV9 : Hid (RdI v17 (.slice al17 n17 cl17) L) := by
                rw [HLE.out]
                exact RdI.own o17.out
              have HX9 := Hid.mk' e17
              clear e17
              go_wp2_with fail
              go_meet
              exact ⟨HV9, HX9⟩
            exact AllReadyH.nil
          exact AllReadyH.nil
        refine AllReadyH.cons (o := { dst := some 34, op := Go.Op.buildSlice 22 1 #[(0, Go.Operand.tmp 33)], type := 22, pos := _, after := #[{ on := 6, ground := Go.Ground.data }], guard := none }) rfl (fun K hK => ?_) ?_
        · skip
          go_simp
          have e18 := e14.alloc (.cells #[.int .i64 y.code] 3)
          have k18 := Hid.mk' (Box.new v14 3 [.int .i64 y.code])
          have r18 := Hid.mk' (r14.out.below ((Below.refl _ _).alloc (Nat.le_refl _) (.cells #[.int .i64 y.code] 3)))
          have o18 := Hid.mk' (o14.out.below ((Below.refl _ _).alloc (Nat.le_refl _) (.cells #[.int .i64 y.code] 3)))
          have s18 := Hid.mk' (own_box o14.out)
          change Hid (Box (v14.alloc (.cells #[.int .i64 y.code] 3)) v14.heap.size 3 [.int .i64 y.code]) at k18
          generalize v14.alloc (.cells #[.int .i64 y.code] 3) = v18 at *
          generalize v14.heap.size = b18 at *
          refine hK.out _ _ e18 (fun hHeld => ?_)
          clear hK K
          (try simp only [Act.put]); (try simp only [List.setIfInBounds_toArray]); (try simp only [List.set_cons_succ]); (try simp only [List.set_cons_zero])
          refine wpAnyH_ready (rs := [4]) (by kernel_rfl) (by simp) ?_
          refine AllReadyH.cons (o := { dst := some 31, op := Go.Op.call { callee := Go.Callee.builtin Go.Builtin.append, args := #[Go.Operand.tmp 27, Go.Operand.tmp 30], argTypes := #[22, 22] }, type := 22, pos := _, after := #[{ on := 0, ground := Go.Ground.data }, { on := 3, ground := Go.Ground.data }, { on := 3, ground := Go.Ground.chain }], guard := none }) rfl (fun K hK => ?_) ?_
          · skip
            refine step_append_sep rfl _ _ rfl (w.heap.size + 1) (some ⟨b14, 0, none⟩) 1 1 [27] rfl o18.out ra13 (asInts y.inter).length rc13 (asInts y.inter) rfl r18.out (by have h1 := HTL.out; simp <;> omega) e18.le ?_
            intro al19 n19 cl19 v19 hn19 ho19 hB19 hS19
            have e19 := e18.app hB19
            have o19 := Hid.mk' ho19
            have k19 := Hid.mk' (hS19 _ _ _ k18.out s18.out).1
            have s19 := Hid.mk' (hS19 _ _ _ k18.out s18.out).2
            clear ho19 hn19 hB19 hS19
            refine hK.out _ _ e19 (fun hHeld => ?_)
            clear hK K
            (try simp only [Act.put]); (try simp only [List.setIfInBounds_toArray]); (try simp only [List.set_cons_succ]); (try simp only [List.set_cons_zero])
            refine wpAnyH_ready (rs := [8]) (by kernel_rfl) (by simp) ?_
            refine AllReadyH.cons (o := { dst := some 35, op := Go.Op.call { callee := Go.Callee.builtin Go.Builtin.append, args := #[Go.Operand.tmp 31, Go.Operand.tmp 34], argTypes := #[22, 22] }, type := 22, pos := _, after := #[{ on := 4, ground := Go.Ground.data }, { on := 7, ground := Go.Ground.data }, { on := 4, ground := Go.Ground.chain }], guard := none }) rfl (fun K hK => ?_) ?_
            · skip
              refine step_append_sep rfl _ _ rfl (w.heap.size + 1) al19 n19 cl19 ([27] ++ (asInts y.inter)) rfl o19.out (some ⟨b18, 0, none⟩) 1 1 [y.code] rfl (rd_one k19.out) (by have h1 := HTL.out; simp <;> omega) e19.le ?_
              intro al20 n20 cl20 v20 hn20 ho20 hB20 hS20
              have e20 := e19.app hB20
              have o20 := Hid.mk' ho20
              clear ho20 hn20 hB20 hS20
              refine hK.out _ _ e20 (fun hHeld => ?_)
              clear hK K
              (try simp only [Act.put]); (try simp only [List.setIfInBounds_toArray]); (try simp only [List.set_cons_succ]); (try simp only [List.set_cons_zero])
              refine wpAnyH_take (i := 9) (oi := { dst := some 4, op := Go.Op.assign (Go.Operand.tmp 35), type := 22, pos := _, after := #[{ on := 8, ground := Go.Ground.data }, { on := 8, ground := Go.Ground.chain }, { on := 0, ground := Go.Ground.phase }, { on := 1, ground := Go.Ground.phase }, { on := 2, ground := Go.Ground.phase }, { on := 3, ground := Go.Ground.phase }, { on := 4, ground := Go.Ground.phase }, { on := 5, ground := Go.Ground.phase }, { on := 6, ground := Go.Ground.phase }, { on := 7, ground := Go.Ground.phase }, { on := 8, ground := Go.Ground.phase }], guard := none }) (v := .slice al20 n20 cl20) rfl (by kernel_rfl) (by kernel_rfl) (by kernel_rfl) (fun _ _ _ h => h) (Or.inl ⟨by rfl, fun w' hSw => ?_⟩) (by assumption) ?_
              · (try dsimp only at hSw); go_simp
              (try simp only [Act.put]); (try simp only [List.setIfInBounds_toArray]); (try simp only [List.set_cons_succ]); (try simp only [List.set_cons_zero])
              refine wpAnyH_done (by kernel_rfl) ?_ _
              refine NoPanic.normal ?_
              have HV9 : Hid (RdI v20 (.slice al20 n20 cl20) L) := by
                rw [HLE.out]
                exact RdI.own o20.out
              have HX9 := Hid.mk' e20
              clear e20
              go_wp2_with fail
              go_meet
              exact ⟨HV9, HX9⟩
            exact AllReadyH.nil
          exact AllReadyH.nil
        exact AllReadyH.nil
      refine AllReadyH.cons (o := { dst := some 34, op := Go.Op.buildSlice 22 1 #[(0, Go.Operand.tmp 33)], type := 22, pos := _, after := #[{ on := 6, ground := Go.Ground.data }], guard := none }) rfl (fun K hK => ?_) ?_
      · skip
        go_simp
        have e21 := e13.alloc (.cells #[.int .i64 y.code] 3)
        have k21 := Hid.mk' (Box.new v13 3 [.int .i64 y.code])
        have r21 := Hid.mk' (r13.out.below ((Below.refl _ _).alloc (Nat.le_refl _) (.cells #[.int .i64 y.code] 3)))
        change Hid (Box (v13.alloc (.cells #[.int .i64 y.code] 3)) v13.heap.size 3 [.int .i64 y.code]) at k21
        generalize v13.alloc (.cells #[.int .i64 y.code] 3) = v21 at *
        generalize v13.heap.size = b21 at *
        refine hK.out _ _ e21 (fun hHeld => ?_)
        clear hK K
        (try simp only [Act.put]); (try simp only [List.setIfInBounds_toArray]); (try simp only [List.set_cons_succ]); (try simp only [List.set_cons_zero])
        refine wpAnyH_ready (rs := [0]) (by kernel_rfl) (by simp) ?_
        refine AllReadyH.cons (o := { dst := some 27, op := Go.Op.buildSlice 22 1 #[(0, Go.Operand.const (Go.Value.int Go.IntKind.i64 27))], type := 22, pos := _, after := #[], guard := none }) rfl (fun K hK => ?_) ?_
        · skip
          go_simp
          have e22 := e21.alloc (.cells #[.int .i64 27] 3)
          have o22 := Hid.mk' (OwnI.lit v21 (w.heap.size + 1) [27] e21.le (by decide))
          have r22 := Hid.mk' (r21.out.below ((Below.refl _ _).alloc (Nat.le_refl _) (.cells #[.int .i64 27] 3)))
          have k22 := Hid.mk' (k21.out.alloc (.cells #[.int .i64 27] 3))
          have s22 : Hid (Z.blk (some ⟨v21.heap.size, 0, none⟩) ≠ some b21) := fun h => by
            have h1 := k21.out.lt
            have h2 := Option.some.inj h
            simp only at h2
            omega
          change Hid (OwnI (v21.alloc (.cells #[.int .i64 27] 3)) (w.heap.size + 1) (.slice (some ⟨v21.heap.size, 0, none⟩) 1 1) [27]) at o22
          generalize v21.alloc (.cells #[.int .i64 27] 3) = v22 at *
          generalize v21.heap.size = b22 at *
          refine hK.out _ _ e22 (fun hHeld => ?_)
          clear hK K
          (try simp only [Act.put]); (try simp only [List.setIfInBounds_toArray]); (try simp only [List.set_cons_succ]); (try simp only [List.set_cons_zero])
          refine wpAnyH_ready (rs := [4]) (by kernel_rfl) (by simp) ?_
          refine AllReadyH.cons (o := { dst := some 31, op := Go.Op.call { callee := Go.Callee.builtin Go.Builtin.append, args := #[Go.Operand.tmp 27, Go.Operand.tmp 30], argTypes := #[22, 22] }, type := 22, pos := _, after := #[{ on := 0, ground := Go.Ground.data }, { on := 3, ground := Go.Ground.data }, { on := 3, ground := Go.Ground.chain }], guard := none }) rfl (fun K hK => ?_) ?_
          · skip
            refine step_append_sep rfl _ _ rfl (w.heap.size + 1) (some ⟨b22, 0, none⟩) 1 1 [27] rfl o22.out ra13 (asInts y.inter).length rc13 (asInts y.inter) rfl r22.out (by have h1 := HTL.out; simp <;> omega) e22.le ?_
            intro al23 n23 cl23 v23 hn23 ho23 hB23 hS23
            have e23 := e22.app hB23
            have o23 := Hid.mk' ho23
            have k23 := Hid.mk' (hS23 _ _ _ k22.out s22.out).1
            have s23 := Hid.mk' (hS23 _ _ _ k22.out s22.out).2
            clear ho23 hn23 hB23 hS23
            refine hK.out _ _ e23 (fun hHeld => ?_)
            clear hK K
            (try simp only [Act.put]); (try simp only [List.setIfInBounds_toArray]); (try simp only [List.set_cons_succ]); (try simp only [List.set_cons_zero])
            refine wpAnyH_ready (rs := [8]) (by kernel_rfl) (by simp) ?_
            refine AllReadyH.cons (o := { dst := some 35, op := Go.Op.call { callee := Go.Callee.builtin Go.Builtin.append, args := #[Go.Operand.tmp 31, Go.Operand.tmp 34], argTypes := #[22, 22] }, type := 22, pos := _, after := #[{ on := 4, ground := Go.Ground.data }, { on := 7, ground := Go.Ground.data }, { on := 4, ground := Go.Ground.chain }], guard := none }) rfl (fun K hK => ?_) ?_
            · skip
              refine step_append_sep rfl _ _ rfl (w.heap.size + 1) al23 n23 cl23 ([27] ++ (asInts y.inter)) rfl o23.out (some ⟨b21, 0, none⟩) 1 1 [y.code] rfl (rd_one k23.out) (by have h1 := HTL.out; simp <;> omega) e23.le ?_
              intro al24 n24 cl24 v24 hn24 ho24 hB24 hS24
              have e24 := e23.app hB24
              have o24 := Hid.mk' ho24
              clear ho24 hn24 hB24 hS24
              refine hK.out _ _ e24 (fun hHeld => ?_)
              clear hK K
              (try simp only [Act.put]); (try simp only [List.setIfInBounds_toArray]); (try simp only [List.set_cons_succ]); (try simp only [List.set_cons_zero])
              refine wpAnyH_take (i := 9) (oi := { dst := some 4, op := Go.Op.assign (Go.Operand.tmp 35), type := 22, pos := _, after := #[{ on := 8, ground := Go.Ground.data }, { on := 8, ground := Go.Ground.chain }, { on := 0, ground := Go.Ground.phase }, { on := 1, ground := Go.Ground.phase }, { on := 2, ground := Go.Ground.phase }, { on := 3, ground := Go.Ground.phase }, { on := 4, ground := Go.Ground.phase }, { on := 5, ground := Go.Ground.phase }, { on := 6, ground := Go.Ground.phase }, { on := 7, ground := Go.Ground.phase }, { on := 8, ground := Go.Ground.phase }], guard := none }) (v := .slice al24 n24 cl24) rfl (by kernel_rfl) (by kernel_rfl) (by kernel_rfl) (fun _ _ _ h => h) (Or.inl ⟨by rfl, fun w' hSw => ?_⟩) (by assumption) ?_
              · (try dsimp only at hSw); go_simp
              (try simp only [Act.put]); (try simp only [List.setIfInBounds_toArray]); (try simp only [List.set_cons_succ]); (try simp only [List.set_cons_zero])
              refine wpAnyH_done (by kernel_rfl) ?_ _
              refine NoPanic.normal ?_
              have HV9 : Hid (RdI v24 (.slice al24 n24 cl24) L) := by
                rw [HLE.out]
                exact RdI.own o24.out
              have HX9 := Hid.mk' e24
              clear e24
              go_wp2_with fail
              go_meet
              exact ⟨HV9, HX9⟩
            exact AllReadyH.nil
          exact AllReadyH.nil
        exact AllReadyH.nil
      exact AllReadyH.nil
    refine AllReadyH.cons (o := { dst := some 34, op := Go.Op.buildSlice 22 1 #[(0, Go.Operand.tmp 33)], type := 22, pos := _, after := #[{ on := 6, ground := Go.Ground.data }], guard := none }) rfl (fun K hK => ?_) ?_
    · skip
      go_simp
      have e25 := hE.alloc (.cells #[.int .i64 y.code] 3)
      have k25 := Hid.mk' (Box.new wd 3 [.int .i64 y.code])
      change Hid (Box (wd.alloc (.cells #[.int .i64 y.code] 3)) wd.heap.size 3 [.int .i64 y.code]) at k25
      generalize wd.alloc (.cells #[.int .i64 y.code] 3) = v25 at *
      generalize wd.heap.size = b25 at *
      refine hK.out _ _ e25 (fun hHeld => ?_)
      clear hK K
      (try simp only [Act.put]); (try simp only [List.setIfInBounds_toArray]); (try simp only [List.set_cons_succ]); (try simp only [List.set_cons_zero])
      refine wpAnyH_ready (rs := [0, 3]) (by kernel_rfl) (by simp) ?_
      refine AllReadyH.cons (o := { dst := some 27, op := Go.Op.buildSlice 22 1 #[(0, Go.Operand.const (Go.Value.int Go.IntKind.i64 27))], type := 22, pos := _, after := #[], guard := none }) rfl (fun K hK => ?_) ?_
      · skip
        go_simp
        have e26 := e25.alloc (.cells #[.int .i64 27] 3)
        have o26 := Hid.mk' (OwnI.lit v25 (w.heap.size + 1) [27] e25.le (by decide))
        have k26 := Hid.mk' (k25.out.alloc (.cells #[.int .i64 27] 3))
        have s26 : Hid (Z.blk (some ⟨v25.heap.size, 0, none⟩) ≠ some b25) := fun h => by
          have h1 := k25.out.lt
          have h2 := Option.some.inj h
          simp only at h2
          omega
        change Hid (OwnI (v25.alloc (.cells #[.int .i64 27] 3)) (w.heap.size + 1) (.slice (some ⟨v25.heap.size, 0, none⟩) 1 1) [27]) at o26
        generalize v25.alloc (.cells #[.int .i64 27] 3) = v26 at *
        generalize v25.heap.size = b26 at *
        refine hK.out _ _ e26 (fun hHeld => ?_)
        clear hK K
        (try simp only [Act.put]); (try simp only [List.setIfInBounds_toArray]); (try simp only [List.set_cons_succ]); (try simp only [List.set_cons_zero])
        refine wpAnyH_ready (rs := [3]) (by kernel_rfl) (by simp) ?_
        refine AllReadyH.cons (o := { dst := some 30, op := Go.Op.call { callee := Go.Callee.value (Go.Operand.func 10), args := #[Go.Operand.tmp 29], argTypes := #[9] }, type := 22, pos := _, after := #[{ on := 2, ground := Go.Ground.data }], guard := none }) rfl (fun K hK => ?_) ?_
        · skip
          go_simp
          refine (HAR.out v26).mono ?_
          rintro e v27 ⟨rv27, rfl, ho27, hb27⟩
          obtain ⟨ra27, rc27, re27⟩ := OwnI.form ho27
          subst re27
          have e27 := e26.later hb27
          have r27 := Hid.mk' (RdI.own ho27)
          have o27 := Hid.mk' (o26.out.below hb27)
          have k27 := Hid.mk' (k26.out.later hb27)
          clear ho27 hb27
          refine hK.out _ _ e27 (fun hHeld => ?_)
          clear hK K
          (try simp only [Act.put]); (try simp only [List.setIfInBounds_toArray]); (try simp only [List.set_cons_succ]); (try simp only [List.set_cons_zero])
          refine wpAnyH_ready (rs := [4]) (by kernel_rfl) (by simp) ?_
          refine AllReadyH.cons (o := { dst := some 31, op := Go.Op.call { callee := Go.Callee.builtin Go.Builtin.append, args := #[Go.Operand.tmp 27, Go.Operand.tmp 30], argTypes := #[22, 22] }, type := 22, pos := _, after := #[{ on := 0, ground := Go.Ground.data }, { on := 3, ground := Go.Ground.data }, { on := 3, ground := Go.Ground.chain }], guard := none }) rfl (fun K hK => ?_) ?_
          · skip
            refine step_append_sep rfl _ _ rfl (w.heap.size + 1) (some ⟨b26, 0, none⟩) 1 1 [27] rfl o27.out ra27 (asInts y.inter).length rc27 (asInts y.inter) rfl r27.out (by have h1 := HTL.out; simp <;> omega) e27.le ?_
            intro al28 n28 cl28 v28 hn28 ho28 hB28 hS28
            have e28 := e27.app hB28
            have o28 := Hid.mk' ho28
            have k28 := Hid.mk' (hS28 _ _ _ k27.out s26.out).1
            have s28 := Hid.mk' (hS28 _ _ _ k27.out s26.out).2
            clear ho28 hn28 hB28 hS28
            refine hK.out _ _ e28 (fun hHeld => ?_)
            clear hK K
            (try simp only [Act.put]); (try simp only [List.setIfInBounds_toArray]); (try simp only [List.set_cons_succ]); (try simp only [List.set_cons_zero])
            refine wpAnyH_ready (rs := [8]) (by kernel_rfl) (by simp) ?_
            refine AllReadyH.cons (o := { dst := some 35, op := Go.Op.call { callee := Go.Callee.builtin Go.Builtin.append, args := #[Go.Operand.tmp 31, Go.Operand.tmp 34], argTypes := #[22, 22] }, type := 22, pos := _, after := #[{ on := 4, ground := Go.Ground.data }, { on := 7, ground := Go.Ground.data }, { on := 4, ground := Go.Ground.chain }], guard := none }) rfl (fun K hK => ?_) ?_
            · skip
              refine step_append_sep rfl _ _ rfl (w.heap.size + 1) al28 n28 cl28 ([27] ++ (asInts y.inter)) rfl o28.out (some ⟨b25, 0, none⟩) 1 1 [y.code] rfl (rd_one k28.out) (by have h1 := HTL.out; simp <;> omega) e28.le ?_
              intro al29 n29 cl29 v29 hn29 ho29 hB29 hS29
              have e29 := e28.app hB29
              have o29 := Hid.mk' ho29
              clear ho29 hn29 hB29 hS29
              refine hK.out _ _ e29 (fun hHeld => ?_)
              clear hK K
              (try simp only [Act.put]); (try simp only [List.setIfInBounds_toArray]); (try simp only [List.set_cons_succ]); (try simp only [List.set_cons_zero])
              refine wpAnyH_take (i := 9) (oi := { dst := some 4, op := Go.Op.assign (Go.Operand.tmp 35), type := 22, pos := _, after := #[{ on := 8, ground := Go.Ground.data }, { on := 8, ground := Go.Ground.chain }, { on := 0, ground := Go.Ground.phase }, { on := 1, ground := Go.Ground.phase }, { on := 2, ground := Go.Ground.phase }, { on := 3, ground := Go.Ground.phase }, { on := 4, ground := Go.Ground.phase }, { on := 5, ground := Go.Ground.phase }, { on := 6, ground := Go.Ground.phase }, { on := 7, ground := Go.Ground.phase }, { on := 8, ground := Go.Ground.phase }], guard := none }) (v := .slice al29 n29 cl29) rfl (by kernel_rfl) (by kernel_rfl) (by kernel_rfl) (fun _ _ _ h => h) (Or.inl ⟨by rfl, fun w' hSw => ?_⟩) (by assumption) ?_
              · (try dsimp only at hSw); go_simp
              (try simp only [Act.put]); (try simp only [List.setIfInBounds_toArray]); (try simp only [List.set_cons_succ]); (try simp only [List.set_cons_zero])
              refine wpAnyH_done (by kernel_rfl) ?_ _
              refine NoPanic.normal ?_
              have HV9 : Hid (RdI v29 (.slice al29 n29 cl29) L) := by
                rw [HLE.out]
                exact RdI.own o29.out
              have HX9 := Hid.mk' e29
              clear e29
              go_wp2_with fail
              go_meet
              exact ⟨HV9, HX9⟩
            exact AllReadyH.nil
          exact AllReadyH.nil
        exact AllReadyH.nil
      refine AllReadyH.cons (o := { dst := some 30, op := Go.Op.call { callee := Go.Callee.value (Go.Operand.func 10), args := #[Go.Operand.tmp 29], argTypes := #[9] }, type := 22, pos := _, after := #[{ on := 2, ground := Go.Ground.data }], guard := none }) rfl (fun K hK => ?_) ?_
      · skip
        go_simp
        refine (HAR.out v25).mono ?_
        rintro e v30 ⟨rv30, rfl, ho30, hb30⟩
        obtain ⟨ra30, rc30, re30⟩ := OwnI.form ho30
        subst re30
        have e30 := e25.later hb30
        have r30 := Hid.mk' (RdI.own ho30)
        have k30 := Hid.mk' (k25.out.later hb30)
        clear ho30 hb30
        refine hK.out _ _ e30 (fun hHeld => ?_)
        clear hK K
        (try simp only [Act.put]); (try simp only [List.setIfInBounds_toArray]); (try simp only [List.set_cons_succ]); (try simp only [List.set_cons_zero])
        refine wpAnyH_ready (rs := [0]) (by kernel_rfl) (by simp) ?_
        refine AllReadyH.cons (o := { dst := some 27, op := Go.Op.buildSlice 22 1 #[(0, Go.Operand.const (Go.Value.int Go.IntKind.i64 27))], type := 22, pos := _, after := #[], guard := none }) rfl (fun K hK => ?_) ?_
        · skip
          go_simp
          have e31 := e30.alloc (.cells #[.int .i64 27] 3)
          have o31 := Hid.mk' (OwnI.lit v30 (w.heap.size + 1) [27] e30.le (by decide))
          have r31 := Hid.mk' (r30.out.below ((Below.refl _ _).alloc (Nat.le_refl _) (.cells #[.int .i64 27] 3)))
          have k31 := Hid.mk' (k30.out.alloc (.cells #[.int .i64 27] 3))
          have s31 : Hid (Z.blk (some ⟨v30.heap.size, 0, none⟩) ≠ some b25) := fun h => by
            have h1 := k30.out.lt
            have h2 := Option.some.inj h
            simp only at h2
            omega
          change Hid (OwnI (v30.alloc (.cells #[.int .i64 27] 3)) (w.heap.size + 1) (.slice (some ⟨v30.heap.size, 0, none⟩) 1 1) [27]) at o31
          generalize v30.alloc (.cells #[.int .i64 27] 3) = v31 at *
          generalize v30.heap.size = b31 at *
          refine hK.out _ _ e31 (fun hHeld => ?_)
          clear hK K
          (try simp only [Act.put]); (try simp only [List.setIfInBounds_toArray]); (try simp only [List.set_cons_succ]); (try simp only [List.set_cons_zero])
          refine wpAnyH_ready (rs := [4]) (by kernel_rfl) (by simp) ?_
          refine AllReadyH.cons (o := { dst := some 31, op := Go.Op.call { callee := Go.Callee.builtin Go.Builtin.append, args := #[Go.Operand.tmp 27, Go.Operand.tmp 30], argTypes := #[22, 22] }, type := 22, pos := _, after := #[{ on := 0, ground := Go.Ground.data }, { on := 3, ground := Go.Ground.data }, { on := 3, ground := Go.Ground.chain }], guard := none }) rfl (fun K hK => ?_) ?_
          · skip
            refine step_append_sep rfl _ _ rfl (w.heap.size + 1) (some ⟨b31, 0, none⟩) 1 1 [27] rfl o31.out ra30 (asInts y.inter).length rc30 (asInts y.inter) rfl r31.out (by have h1 := HTL.out; simp <;> omega) e31.le ?_
            intro al32 n32 cl32 v32 hn32 ho32 hB32 hS32
            have e32 := e31.app hB32
            have o32 := Hid.mk' ho32
            have k32 := Hid.mk' (hS32 _ _ _ k31.out s31.out).1
            have s32 := Hid.mk' (hS32 _ _ _ k31.out s31.out).2
            clear ho32 hn32 hB32 hS32
            refine hK.out _ _ e32 (fun hHeld => ?_)
            clear hK K
            (try simp only [Act.put]); (try simp only [List.setIfInBounds_toArray]); (try simp only [List.set_cons_succ]); (try simp only [List.set_cons_zero])
            refine wpAnyH_ready (rs := [8]) (by kernel_rfl) (by simp) ?_
            refine AllReadyH.cons (o := { dst := some 35, op := Go.Op.call { callee := Go.Callee.builtin Go.Builtin.append, args := #[Go.Operand.tmp 31, Go.Operand.tmp 34], argTypes := #[22, 22] }, type := 22, pos := _, after := #[{ on := 4, ground := Go.Ground.data }, { on := 7, ground := Go.Ground.data }, { on := 4, ground := Go.Ground.chain }], guard := none }) rfl (fun K hK => ?_) ?_
            · skip
              refine step_append_sep rfl _ _ rfl (w.heap.size + 1) al32 n32 cl32 ([27] ++ (asInts y.inter)) rfl o32.out (some ⟨b25, 0, none⟩) 1 1 [y.code] rfl (rd_one k32.out) (by have h1 := HTL.out; simp <;> omega) e32.le ?_
              intro al33 n33 cl33 v33 hn33 ho33 hB33 hS33
              have e33 := e32.app hB33
              have o33 := Hid.mk' ho33
              clear ho33 hn33 hB33 hS33
              refine hK.out _ _ e33 (fun hHeld => ?_)
              clear hK K
              (try simp only [Act.put]); (try simp only [List.setIfInBounds_toArray]); (try simp only [List.set_cons_succ]); (try simp only [List.set_cons_zero])
              refine wpAnyH_take (i := 9) (oi := { dst := some 4, op := Go.Op.assign (Go.Operand.tmp 35), type := 22, pos := _, after := #[{ on := 8, ground := Go.Ground.data }, { on := 8, ground := Go.Ground.chain }, { on := 0, ground := Go.Ground.phase }, { on := 1, ground := Go.Ground.phase }, { on := 2, ground := Go.Ground.phase }, { on := 3, ground := Go.Ground.phase }, { on := 4, ground := Go.Ground.phase }, { on := 5, ground := Go.Ground.phase }, { on := 6, ground := Go.Ground.phase }, { on := 7, ground := Go.Ground.phase }, { on := 8, ground := Go.Ground.phase }], guard := none }) (v := .slice al33 n33 cl33) rfl (by kernel_rfl) (by kernel_rfl) (by kernel_rfl) (fun _ _ _ h => h) (Or.inl ⟨by rfl, fun w' hSw => ?_⟩) (by assumption) ?_
              · (try dsimp only at hSw); go_simp
              (try simp only [Act.put]); (try simp only [List.setIfInBounds_toArray]); (try simp only [List.set_cons_succ]); (try simp only [List.set_cons_zero])
              refine wpAnyH_done (by kernel_rfl) ?_ _
              refine NoPanic.normal ?_
              have HV9 : Hid (RdI v33 (.slice al33 n33 cl33) L) := by
                rw [HLE.out]
                exact RdI.own o33.out
              have HX9 := Hid.mk' e33
              clear e33
              go_wp2_with fail
              go_meet
              exact ⟨HV9, HX9⟩
            exact AllReadyH.nil
          exact AllReadyH.nil
        exact AllReadyH.nil
      exact AllReadyH.nil
    exact AllReadyH.nil
  case rest =>
    obtain ⟨HV1, HX1⟩ := hcut
    clear c0 c1 c2 c3 c4 c5 HX0 HLE HAR HTL
    go_wp2_with fail
    obtain ⟨al, cl, vle, _, _⟩ := id HV1.out
    subst vle
    refine (HP.out _ _ HX1.out.b HV1.out).mono ?_
    rintro e w2 ⟨v2, rfl, hra, hb2⟩
    have X2 := HX1.out.later hb2
    have R2 := HV1.out.below hb2
    have bq := Box.new w2 39 [.int .i64 0, .int .i64 0, .string ⟨#[]⟩, .string ⟨#[]⟩, .string ⟨#[]⟩]
    have hL6 : Lies (w2.alloc (.cells #[.int .i64 0, .int .i64 0, .string ⟨#[]⟩, .string ⟨#[]⟩, .string ⟨#[]⟩] 39)) (.pointer (some ⟨w2.heap.size, 0, none⟩)) 5 := bq.lies0 rfl
    have hHq : Holds (.agg #[.int .i64 (q.st : Int), .int .i64 q.mark, .string (bs q.inter), .string (bs q.args), .string (bs q.text)]) 5 := holds_p q
    have hP6 := bq.putAt [.int .i64 (q.st : Int), .int .i64 q.mark, .string (bs q.inter), .string (bs q.args), .string (bs q.text)] rfl
    have hA6 : Below w2.heap.size w2 (w2.alloc (.cells #[.int .i64 0, .int .i64 0, .string ⟨#[]⟩, .string ⟨#[]⟩, .string ⟨#[]⟩] 39)) := (Below.refl _ _).alloc (Nat.le_refl _) _
    have hB6 := hP6.below _ _ (Nat.le_refl _) hA6
    have HT := Hid.mk' (And.intro (show Rt w y (.slice ad y.args.length cp) w2.heap.size q _ from ⟨X2.later hB6, hP6.box⟩) (And.intro (R2.below hB6) (hra.below hB6)))
    obtain ⟨la, lcp, lxs, lve, hlc, lex, lr, lt⟩ := hra
    clear hb2 X2 R2 bq hP6 hA6 hB6 HX1 HV1 HP lex lr lt hlc
    subst lve
    generalize hna : acts.length = na at *
    have HNA := Hid.mk' hna
    clear hna
    have hnb : ((L.length : Int) == 0) = false := beq_false_of_ne (by omega)
    go_upto_region 23 with fail
    generalize Q.putAt (w2.alloc (.cells #[.int .i64 0, .int .i64 0, .string ⟨#[]⟩, .string ⟨#[]⟩, .string ⟨#[]⟩] 39)) (.pointer (some ⟨w2.heap.size, 0, none⟩)) (.agg #[.int .i64 (q.st : Int), .int .i64 q.mark, .string (bs q.inter), .string (bs q.args), .string (bs q.text)]) = w7 at *
    generalize w2.heap.size = b6 at *
    clear hL6 hHq
    have hE : Below w7.heap.size w7 w7.drew := (Below.refl _ _).drew
    by_cases hst : q.st = 0
    · obtain rfl := HQ.out hst
      by_cases hn1 : na = 1
      · subst hn1
        obtain ⟨x, rfl⟩ : ∃ x, acts = [x] := List.length_eq_one_iff.1 HNA.out
        obtain ⟨g, vx, rfl, hvx, hcx0, hg⟩ := rd_act HT.out.2.2
        have hcx := Hid.mk' hcx0
        have HVX := Hid.mk' hvx
        have HSX : Hid (∀ W, Below w7.heap.size w7 W → Calls Tryz.prog 14 #[.agg #[.int .i64 x.kind, .int .i64 x.code, .int .i64 x.mark, .string (bs x.inter), vx, .string (bs x.text)], .agg #[.int .i64 y.kind, .int .i64 y.code, .int .i64 y.mark, .string (bs y.inter), .slice ad y.args.length cp, .string (bs y.text)]] W fun e w' => e = .returned (.bool (sameA x y)) ∧ Below W.heap.size W w') := fun W hW => HSA.out x vx _ W (HVX.out.below hW) (HVY.out W (HT.out.1.r.b.trans (Below.mono hW HT.out.1.r.b.size))) (HSM.out x (by simp))
        have HSB : Hid (if sameA x y = true then x = y else x ≠ y) := by
          rw [Hid]
          split
          · rename_i h; exact (sameA_iff x y).1 h
          · rename_i h; exact fun h2 => h ((sameA_iff x y).2 h2)
        clear hcx0 hvx HSA HSM HVY HQ HNA
        generalize sameA x y = sb at *
        refine wp_region_noPanic ?_
        refine wp_region_held_drew (S := fun w' => Below w7.heap.size w7 w') (by kernel_rfl) hE (fun hHeld => ?_)
        generalize w7.drew = wd at *
        refine wpAnyH_take (i := 0) (oi := { dst := some 89, op := Go.Op.move (Go.Operand.tmp 4), type := 22, pos := _, after := #[], guard := none }) (v := .slice al L.length cl) rfl (by kernel_rfl) (by kernel_rfl) (by kernel_rfl) (fun _ _ _ h => h) (Or.inl ⟨by rfl, fun w' hSw => ?_⟩) (by assumption) ?_
        · (try dsimp only at hSw); go_simp
        (try simp only [Act.put]); (try simp only [List.setIfInBounds_toArray]); (try simp only [List.set_cons_succ]); (try simp only [List.set_cons_zero])
        refine wpAnyH_take (i := 1) (oi := { dst := some 90, op := Go.Op.call { callee := Go.Callee.builtin Go.Builtin.len, args := #[Go.Operand.tmp 89], argTypes := #[22] }, type := 3, pos := _, after := #[{ on := 0, ground := Go.Ground.data }], guard := none }) (v := .int .i64 (L.length : Int)) rfl (by kernel_rfl) (by kernel_rfl) (by kernel_rfl) (fun _ _ _ h => h) (Or.inl ⟨by rfl, fun w' hSw => ?_⟩) (by assumption) ?_
        · (try dsimp only at hSw); go_simp
        (try simp only [Act.put]); (try simp only [List.setIfInBounds_toArray]); (try simp only [List.set_cons_succ]); (try simp only [List.set_cons_zero])
        refine wpAnyH_take (i := 2) (oi := { dst := some 91, op := Go.Op.binOp Go.BinOp.eql 3 (Go.Operand.tmp 90) (Go.Operand.const (Go.Value.int Go.IntKind.i64 0)) 3, type := 4, pos := _, after := #[{ on := 1, ground := Go.Ground.data }], guard := none }) (v := .bool false) rfl (by kernel_rfl) (by kernel_rfl) (by kernel_rfl) (fun _ _ _ h => h) (Or.inl ⟨by rfl, fun w' hSw => ?_⟩) (by assumption) ?_
        · (try dsimp only at hSw); go_simp
        (try simp only [Act.put]); (try simp only [List.setIfInBounds_toArray]); (try simp only [List.set_cons_succ]); (try simp only [List.set_cons_zero])
        refine wpAnyH_take (i := 3) (oi := { dst := some 92, op := Go.Op.move (Go.Operand.tmp 91), type := 4, pos := _, after := #[{ on := 2, ground := Go.Ground.data }], guard := none }) (v := .bool false) rfl (by kernel_rfl) (by kernel_rfl) (by kernel_rfl) (fun _ _ _ h => h) (Or.inl ⟨by rfl, fun w' hSw => ?_⟩) (by assumption) ?_
        · (try dsimp only at hSw); go_simp
        (try simp only [Act.put]); (try simp only [List.setIfInBounds_toArray]); (try simp only [List.set_cons_succ]); (try simp only [List.set_cons_zero])
        refine wpAnyH_take (i := 4) (oi := { dst := some 93, op := Go.Op.load 39 (Go.Operand.tmp 9), type := 39, pos := _, after := #[{ on := 3, ground := Go.Ground.guard }], guard := some (3, false) }) (v := .agg #[.int .i64 0, .int .i64 0, .string ⟨#[]⟩, .string ⟨#[]⟩, .string ⟨#[]⟩]) rfl (by kernel_rfl) (by kernel_rfl) (by kernel_rfl) (fun _ _ _ h => h) (Or.inl ⟨by rfl, fun w' hSw => ?_⟩) (by assumption) ?_
        · have bp := HT.out.1.p.later hSw
          exact (exec_loadP _ _ _ _ _ _ _ _ (bp.lies0 rfl)).trans (congrArg (fun z : List Value => Result.ok (Next.value (.agg z.toArray)) w') (bp.row0 rfl))
        (try simp only [Act.put]); (try simp only [List.setIfInBounds_toArray]); (try simp only [List.set_cons_succ]); (try simp only [List.set_cons_zero])
        refine wpAnyH_take (i := 5) (oi := { dst := some 94, op := Go.Op.build 39 #[], type := 39, pos := _, after := #[{ on := 3, ground := Go.Ground.guard }], guard := some (3, false) }) (v := .agg #[.int .i64 0, .int .i64 0, .string ⟨#[]⟩, .string ⟨#[]⟩, .string ⟨#[]⟩]) rfl (by kernel_rfl) (by kernel_rfl) (by kernel_rfl) (fun _ _ _ h => h) (Or.inl ⟨by rfl, fun w' hSw => ?_⟩) (by assumption) ?_
        · (try dsimp only at hSw); go_simp
        (try simp only [Act.put]); (try simp only [List.setIfInBounds_toArray]); (try simp only [List.set_cons_succ]); (try simp only [List.set_cons_zero])
        refine wpAnyH_take (i := 6) (oi := { dst := some 95, op := Go.Op.binOp Go.BinOp.neq 39 (Go.Operand.tmp 93) (Go.Operand.tmp 94) 39, type := 4, pos := _, after := #[{ on := 4, ground := Go.Ground.data }, { on := 5, ground := Go.Ground.data }, { on := 3, ground := Go.Ground.guard }], guard := some (3, false) }) (v := .bool false) rfl (by kernel_rfl) (by kernel_rfl) (by kernel_rfl) (fun _ _ _ h => h) (Or.inl ⟨by rfl, fun w' hSw => ?_⟩) (by assumption) ?_
        · (try dsimp only at hSw); go_simp
        (try simp only [Act.put]); (try simp only [List.setIfInBounds_toArray]); (try simp only [List.set_cons_succ]); (try simp only [List.set_cons_zero])
        refine wpAnyH_take (i := 7) (oi := { dst := some 96, op := Go.Op.pick (Go.Operand.tmp 92) (Go.Operand.const (Go.Value.bool true)) (Go.Operand.tmp 95), type := 4, pos := _, after := #[{ on := 3, ground := Go.Ground.data }, { on := 6, ground := Go.Ground.data }], guard := none }) (v := .bool false) rfl (by kernel_rfl) (by kernel_rfl) (by kernel_rfl) (fun _ _ _ h => h) (Or.inl ⟨by rfl, fun w' hSw => ?_⟩) (by assumption) ?_
        · (try dsimp only at hSw); go_simp
        (try simp only [Act.put]); (try simp only [List.setIfInBounds_toArray]); (try simp only [List.set_cons_succ]); (try simp only [List.set_cons_zero])
        refine wpAnyH_take (i := 8) (oi := { dst := some 97, op := Go.Op.move (Go.Operand.tmp 96), type := 4, pos := _, after := #[{ on := 7, ground := Go.Ground.data }, { on := 3, ground := Go.Ground.chain }], guard := none }) (v := .bool false) rfl (by kernel_rfl) (by kernel_rfl) (by kernel_rfl) (fun _ _ _ h => h) (Or.inl ⟨by rfl, fun w' hSw => ?_⟩) (by assumption) ?_
        · (try dsimp only at hSw); go_simp
        (try simp only [Act.put]); (try simp only [List.setIfInBounds_toArray]); (try simp only [List.set_cons_succ]); (try simp only [List.set_cons_zero])
        refine wpAnyH_take (i := 9) (oi := { dst := some 98, op := Go.Op.move (Go.Operand.tmp 10), type := 40, pos := _, after := #[{ on := 8, ground := Go.Ground.guard }], guard := some (8, false) }) (v := .slice (some ⟨g, 0, none⟩) 1 lcp) rfl (by kernel_rfl) (by kernel_rfl) (by kernel_rfl) (fun _ _ _ h => h) (Or.inl ⟨by rfl, fun w' hSw => ?_⟩) (by assumption) ?_
        · (try dsimp only at hSw); go_simp
        (try simp only [Act.put]); (try simp only [List.setIfInBounds_toArray]); (try simp only [List.set_cons_succ]); (try simp only [List.set_cons_zero])
        refine wpAnyH_take (i := 10) (oi := { dst := some 99, op := Go.Op.call { callee := Go.Callee.builtin Go.Builtin.len, args := #[Go.Operand.tmp 98], argTypes := #[40] }, type := 3, pos := _, after := #[{ on := 9, ground := Go.Ground.data }, { on := 8, ground := Go.Ground.guard }], guard := some (8, false) }) (v := .int .i64 1) rfl (by kernel_rfl) (by kernel_rfl) (by kernel_rfl) (fun _ _ _ h => h) (Or.inl ⟨by rfl, fun w' hSw => ?_⟩) (by assumption) ?_
        · (try dsimp only at hSw); go_simp
        (try simp only [Act.put]); (try simp only [List.setIfInBounds_toArray]); (try simp only [List.set_cons_succ]); (try simp only [List.set_cons_zero])
        refine wpAnyH_take (i := 11) (oi := { dst := some 100, op := Go.Op.binOp Go.BinOp.neq 3 (Go.Operand.tmp 99) (Go.Operand.const (Go.Value.int Go.IntKind.i64 1)) 3, type := 4, pos := _, after := #[{ on := 10, ground := Go.Ground.data }, { on := 8, ground := Go.Ground.guard }], guard := some (8, false) }) (v := .bool false) rfl (by kernel_rfl) (by kernel_rfl) (by kernel_rfl) (fun _ _ _ h => h) (Or.inl ⟨by rfl, fun w' hSw => ?_⟩) (by assumption) ?_
        · (try dsimp only at hSw); go_simp
        (try simp only [Act.put]); (try simp only [List.setIfInBounds_toArray]); (try simp only [List.set_cons_succ]); (try simp only [List.set_cons_zero])
        refine wpAnyH_take (i := 12) (oi := { dst := some 101, op := Go.Op.pick (Go.Operand.tmp 97) (Go.Operand.const (Go.Value.bool true)) (Go.Operand.tmp 100), type := 4, pos := _, after := #[{ on := 8, ground := Go.Ground.data }, { on := 11, ground := Go.Ground.data }], guard := none }) (v := .bool false) rfl (by kernel_rfl) (by kernel_rfl) (by kernel_rfl) (fun _ _ _ h => h) (Or.inl ⟨by rfl, fun w' hSw => ?_⟩) (by assumption) ?_
        · (try dsimp only at hSw); go_simp
        (try simp only [Act.put]); (try simp only [List.setIfInBounds_toArray]); (try simp only [List.set_cons_succ]); (try simp only [List.set_cons_zero])
        refine wpAnyH_take (i := 13) (oi := { dst := some 102, op := Go.Op.move (Go.Operand.tmp 101), type := 4, pos := _, after := #[{ on := 12, ground := Go.Ground.data }, { on := 8, ground := Go.Ground.chain }], guard := none }) (v := .bool false) rfl (by kernel_rfl) (by kernel_rfl) (by kernel_rfl) (fun _ _ _ h => h) (Or.inl ⟨by rfl, fun w' hSw => ?_⟩) (by assumption) ?_
        · (try dsimp only at hSw); go_simp
        (try simp only [Act.put]); (try simp only [List.setIfInBounds_toArray]); (try simp only [List.set_cons_succ]); (try simp only [List.set_cons_zero])
        refine wpAnyH_take (i := 14) (oi := { dst := some 103, op := Go.Op.move (Go.Operand.tmp 10), type := 40, pos := _, after := #[{ on := 13, ground := Go.Ground.guard }], guard := some (13, false) }) (v := .slice (some ⟨g, 0, none⟩) 1 lcp) rfl (by kernel_rfl) (by kernel_rfl) (by kernel_rfl) (fun _ _ _ h => h) (Or.inl ⟨by rfl, fun w' hSw => ?_⟩) (by assumption) ?_
        · (try dsimp only at hSw); go_simp
        (try simp only [Act.put]); (try simp only [List.setIfInBounds_toArray]); (try simp only [List.set_cons_succ]); (try simp only [List.set_cons_zero])
        refine wpAnyH_take (i := 15) (oi := { dst := some 104, op := Go.Op.indexAddr 40 (Go.Operand.tmp 103) (Go.Operand.const (Go.Value.int Go.IntKind.i64 0)), type := 0, pos := _, after := #[{ on := 14, ground := Go.Ground.data }, { on := 13, ground := Go.Ground.guard }], guard := some (13, false) }) (v := .pointer (some ⟨g, 0, none⟩)) rfl (by kernel_rfl) (by kernel_rfl) (by kernel_rfl) (fun _ _ _ h => h) (Or.inl ⟨by rfl, fun w' hSw => ?_⟩) (by assumption) ?_
        · (try dsimp only at hSw); go_simp
        (try simp only [Act.put]); (try simp only [List.setIfInBounds_toArray]); (try simp only [List.set_cons_succ]); (try simp only [List.set_cons_zero])
        refine wpAnyH_take (i := 16) (oi := { dst := some 105, op := Go.Op.load 24 (Go.Operand.tmp 104), type := 24, pos := _, after := #[{ on := 15, ground := Go.Ground.data }, { on := 13, ground := Go.Ground.guard }], guard := some (13, false) }) (v := .agg #[.int .i64 x.kind, .int .i64 x.code, .int .i64 x.mark, .string (bs x.inter), vx, .string (bs x.text)]) rfl (by kernel_rfl) (by kernel_rfl) (by kernel_rfl) (fun _ _ _ h => h) (Or.inl ⟨by rfl, fun w' hSw => ?_⟩) (by assumption) ?_
        · have d0 := (hSw.cell (p := ⟨g, 0, none⟩) hg).trans (hcx.out 0 (.int .i64 x.kind) rfl)
          have d1 := (hSw.cell (p := ⟨g, 1, none⟩) hg).trans (hcx.out 1 (.int .i64 x.code) rfl)
          have d2 := (hSw.cell (p := ⟨g, 2, none⟩) hg).trans (hcx.out 2 (.int .i64 x.mark) rfl)
          have d3 := (hSw.cell (p := ⟨g, 3, none⟩) hg).trans (hcx.out 3 (.string (bs x.inter)) rfl)
          have d4 := (hSw.cell (p := ⟨g, 4, none⟩) hg).trans (hcx.out 4 (vx) rfl)
          have d5 := (hSw.cell (p := ⟨g, 5, none⟩) hg).trans (hcx.out 5 (.string (bs x.text)) rfl)
          clear hSw
          go_simp
        (try simp only [Act.put]); (try simp only [List.setIfInBounds_toArray]); (try simp only [List.set_cons_succ]); (try simp only [List.set_cons_zero])
        refine wpAnyH_take (i := 17) (oi := { dst := some 106, op := Go.Op.load 24 (Go.Operand.tmp 1), type := 24, pos := _, after := #[{ on := 13, ground := Go.Ground.guard }], guard := some (13, false) }) (v := .agg #[.int .i64 y.kind, .int .i64 y.code, .int .i64 y.mark, .string (bs y.inter), .slice ad y.args.length cp, .string (bs y.text)]) rfl (by kernel_rfl) (by kernel_rfl) (by kernel_rfl) (fun _ _ _ h => h) (Or.inl ⟨by rfl, fun w' hSw => ?_⟩) (by assumption) ?_
        · have by' := HT.out.1.r.a.later hSw
          have d0 := by'.cell (j := 0) (v := .int .i64 y.kind) rfl
          have d1 := by'.cell (j := 1) (v := .int .i64 y.code) rfl
          have d2 := by'.cell (j := 2) (v := .int .i64 y.mark) rfl
          have d3 := by'.cell (j := 3) (v := .string (bs y.inter)) rfl
          have d4 := by'.cell (j := 4) (v := .slice ad y.args.length cp) rfl
          have d5 := by'.cell (j := 5) (v := .string (bs y.text)) rfl
          clear hSw by'
          go_simp
        (try simp only [Act.put]); (try simp only [List.setIfInBounds_toArray]); (try simp only [List.set_cons_succ]); (try simp only [List.set_cons_zero])
        refine wpAnyH_ready (rs := [18]) (by kernel_rfl) (by simp) ?_
        refine AllReadyH.cons (o := { dst := some 107, op := Go.Op.call { callee := Go.Callee.value (Go.Operand.func 14), args := #[Go.Operand.tmp 105, Go.Operand.tmp 106], argTypes := #[24, 24] }, type := 4, pos := _, after := #[{ on := 16, ground := Go.Ground.data }, { on := 17, ground := Go.Ground.data }, { on := 13, ground := Go.Ground.chain }, { on := 13, ground := Go.Ground.guard }], guard := some (13, false) }) rfl (fun K hK => ?_) ?_
        · skip
          go_simp
          refine (HSX.out wd hE).mono ?_
          rintro e v1 ⟨rfl, hbv1⟩
          have e1 := hE.trans (Below.mono hbv1 hE.size)
          clear hbv1
          refine hK.out _ _ e1 (fun hHeld => ?_)
          clear hK K
          (try simp only [Act.put]); (try simp only [List.setIfInBounds_toArray]); (try simp only [List.set_cons_succ]); (try simp only [List.set_cons_zero])
          refine wpAnyH_take (i := 19) (oi := { dst := some 108, op := Go.Op.unOp Go.UnOp.not 4 (Go.Operand.tmp 107), type := 4, pos := _, after := #[{ on := 18, ground := Go.Ground.data }, { on := 13, ground := Go.Ground.guard }], guard := some (13, false) }) (v := .bool (!sb)) rfl (by kernel_rfl) (by kernel_rfl) (by kernel_rfl) (fun _ _ _ h => h) (Or.inl ⟨by rfl, fun w' hSw => ?_⟩) (by assumption) ?_
          · (try dsimp only at hSw); go_simp
          (try simp only [Act.put]); (try simp only [List.setIfInBounds_toArray]); (try simp only [List.set_cons_succ]); (try simp only [List.set_cons_zero])
          refine wpAnyH_take (i := 20) (oi := { dst := some 109, op := Go.Op.pick (Go.Operand.tmp 102) (Go.Operand.const (Go.Value.bool true)) (Go.Operand.tmp 108), type := 4, pos := _, after := #[{ on := 13, ground := Go.Ground.data }, { on := 19, ground := Go.Ground.data }], guard := none }) (v := .bool (!sb)) rfl (by kernel_rfl) (by kernel_rfl) (by kernel_rfl) (fun _ _ _ h => h) (Or.inl ⟨by rfl, fun w' hSw => ?_⟩) (by assumption) ?_
          · (try dsimp only at hSw); go_simp
          (try simp only [Act.put]); (try simp only [List.setIfInBounds_toArray]); (try simp only [List.set_cons_succ]); (try simp only [List.set_cons_zero])
          refine wpAnyH_done (by kernel_rfl) ?_ _
          refine NoPanic.normal ?_
          have HE := Hid.mk' e1
          have HB := Hid.mk' (HT.out.1.r.b.trans (Below.mono e1 HT.out.1.r.b.size))
          clear e1
          cases sb with
          | false =>
            have HNO : Hid (¬ wOk y) := fun h => HSB.out (by have := (HAO.out h).1; simp only [Prod.mk.injEq, List.cons.injEq, and_true] at this; exact this.2)
            go_wp2_with fail
            go_ret2
            exact ⟨.slice none 0 0, fun h => absurd h HNO.out, fun _ => rfl, HB.out⟩
          | true =>
            have HYE : Hid (x = y) := HSB.out
            have HRL := Hid.mk' (HT.out.2.1.below HE.out)
            have HCE : Hid (∀ k (h : k < L.length), ∃ b off, al = some ⟨b, off, none⟩ ∧ v1.cell? ⟨b, off + k, none⟩ = some (.int .i64 L[k])) := fun k h => (rd_at HRL.out k h).elim fun b hb => hb.elim fun off ho => ⟨b, off, ho.1, ho.2.1⟩
            have HYES : Hid ((∀ j (h : j < L.length), isRb L[j] = true) → wOk y) := fun h => HAB.out rfl (by rw [HYE.out]) (fun c hc => by
              obtain ⟨j, hj, e⟩ := List.mem_iff_getElem.1 hc
              rw [← e]; exact h j hj)
            have HBAD : Hid (∀ j (h : j < L.length), isRb L[j] = false → ¬ wOk y) := fun j h hf ho => by
              have := (HAO.out ho).2 L[j] (List.getElem_mem h)
              rw [hf] at this
              cases this
            clear HT HAO HAB HE HSX HSB HYE hcx HVX hst
            generalize v1 = wf at *
            go_wp2_with fail
            go_loopg [112] L.length (fun gg s112 wr => ∃ k : Nat, k ≤ L.length ∧ L.length - k ≤ gg ∧ s112 = .int .i64 (k : Int) ∧ Hid (∀ j (h : j < L.length), j < k → isRb L[j] = true) ∧ wr = wf)
            case atStart => exact ⟨0, Nat.zero_le _, by omega, rfl, fun j h h0 => absurd h0 (Nat.not_lt_zero j), rfl⟩
            case round =>
              obtain ⟨k, hk, hgk, rfl, HJ, hw⟩ := hrel
              have HGK := Hid.mk' hgk
              clear hgk
              subst hw
              by_cases hlt : k < L.length
              · obtain ⟨b1, o1, ha, hcl⟩ := HCE.out k hlt
                subst ha
                have HC := Hid.mk' (HRU.out L[k] wr)
                have HJ2 : Hid (isRb L[k] = true → ∀ j (h : j < L.length), j < k + 1 → isRb L[j] = true) := fun ht j h hj => by
                  rcases Nat.lt_or_ge j k with h1 | h1
                  · exact HJ.out j h h1
                  · have : j = k := by omega
                    subst this; exact ht
                have HNO := Hid.mk' (HBAD.out k hlt)
                clear HCE HJ HBAD HYES
                generalize hz : isRb L[k] = z at *
                clear hz
                generalize L[k] = c at *
                go_wp2_with fail
                refine HC.out.mono ?_
                rintro e w9 ⟨rfl, hw9⟩
                subst hw9
                clear HC
                cases z with
                | false =>
                  go_wp2_with fail
                  go_ret2
                  exact ⟨.slice none 0 0, fun h => absurd h (HNO.out trivial), fun _ => rfl, HB.out⟩
                | true =>
                  have HJ3 := Hid.mk' (HJ2.out rfl)
                  clear HJ2 HNO
                  go_wp2_with fail
                  go_roundg (L.length - (k + 1))
                  case measure => have := HGK.out; omega
                  case rel => exact ⟨k + 1, by omega, Nat.le_refl _, by go_num, HJ3, rfl⟩
              · obtain rfl : k = L.length := by omega
                have HY : Hid (wOk y) := HYES.out (fun j h => HJ.out j h h)
                clear HCE HJ HBAD HYES
                go_wp2_with fail
                go_ret2
                exact ⟨_, fun _ => ⟨rfl, HRL.out⟩, fun h => absurd HY.out h, HB.out⟩
        exact AllReadyH.nil
      · have HNO : Hid (¬ wOk y) := fun h => hn1 (by have := (HAO.out h).1; simp only [Prod.mk.injEq] at this; rw [← HNA.out, this.2]; rfl)
        have hnb2 : ((na : Int) != 1) = true := bne_of (by omega)
        clear HAO HAB HQ HSA HSM HVY HRU HNA hst
        refine wp_region_noPanic ?_
        refine wp_region_held_drew (S := fun w' => Below w7.heap.size w7 w') (by kernel_rfl) hE (fun hHeld => ?_)
        generalize w7.drew = wd at *
        refine wpAnyH_take (i := 0) (oi := { dst := some 89, op := Go.Op.move (Go.Operand.tmp 4), type := 22, pos := _, after := #[], guard := none }) (v := .slice al L.length cl) rfl (by kernel_rfl) (by kernel_rfl) (by kernel_rfl) (fun _ _ _ h => h) (Or.inl ⟨by rfl, fun w' hSw => ?_⟩) (by assumption) ?_
        · (try dsimp only at hSw); go_simp
        (try simp only [Act.put]); (try simp only [List.setIfInBounds_toArray]); (try simp only [List.set_cons_succ]); (try simp only [List.set_cons_zero])
        refine wpAnyH_take (i := 1) (oi := { dst := some 90, op := Go.Op.call { callee := Go.Callee.builtin Go.Builtin.len, args := #[Go.Operand.tmp 89], argTypes := #[22] }, type := 3, pos := _, after := #[{ on := 0, ground := Go.Ground.data }], guard := none }) (v := .int .i64 (L.length : Int)) rfl (by kernel_rfl) (by kernel_rfl) (by kernel_rfl) (fun _ _ _ h => h) (Or.inl ⟨by rfl, fun w' hSw => ?_⟩) (by assumption) ?_
        · (try dsimp only at hSw); go_simp
        (try simp only [Act.put]); (try simp only [List.setIfInBounds_toArray]); (try simp only [List.set_cons_succ]); (try simp only [List.set_cons_zero])
        refine wpAnyH_take (i := 2) (oi := { dst := some 91, op := Go.Op.binOp Go.BinOp.eql 3 (Go.Operand.tmp 90) (Go.Operand.const (Go.Value.int Go.IntKind.i64 0)) 3, type := 4, pos := _, after := #[{ on := 1, ground := Go.Ground.data }], guard := none }) (v := .bool false) rfl (by kernel_rfl) (by kernel_rfl) (by kernel_rfl) (fun _ _ _ h => h) (Or.inl ⟨by rfl, fun w' hSw => ?_⟩) (by assumption) ?_
        · (try dsimp only at hSw); go_simp
        (try simp only [Act.put]); (try simp only [List.setIfInBounds_toArray]); (try simp only [List.set_cons_succ]); (try simp only [List.set_cons_zero])
        refine wpAnyH_take (i := 3) (oi := { dst := some 92, op := Go.Op.move (Go.Operand.tmp 91), type := 4, pos := _, after := #[{ on := 2, ground := Go.Ground.data }], guard := none }) (v := .bool false) rfl (by kernel_rfl) (by kernel_rfl) (by kernel_rfl) (fun _ _ _ h => h) (Or.inl ⟨by rfl, fun w' hSw => ?_⟩) (by assumption) ?_
        · (try dsimp only at hSw); go_simp
        (try simp only [Act.put]); (try simp only [List.setIfInBounds_toArray]); (try simp only [List.set_cons_succ]); (try simp only [List.set_cons_zero])
        refine wpAnyH_take (i := 4) (oi := { dst := some 93, op := Go.Op.load 39 (Go.Operand.tmp 9), type := 39, pos := _, after := #[{ on := 3, ground := Go.Ground.guard }], guard := some (3, false) }) (v := .agg #[.int .i64 0, .int .i64 0, .string ⟨#[]⟩, .string ⟨#[]⟩, .string ⟨#[]⟩]) rfl (by kernel_rfl) (by kernel_rfl) (by kernel_rfl) (fun _ _ _ h => h) (Or.inl ⟨by rfl, fun w' hSw => ?_⟩) (by assumption) ?_
        · have bp := HT.out.1.p.later hSw
          exact (exec_loadP _ _ _ _ _ _ _ _ (bp.lies0 rfl)).trans (congrArg (fun z : List Value => Result.ok (Next.value (.agg z.toArray)) w') (bp.row0 rfl))
        (try simp only [Act.put]); (try simp only [List.setIfInBounds_toArray]); (try simp only [List.set_cons_succ]); (try simp only [List.set_cons_zero])
        refine wpAnyH_take (i := 5) (oi := { dst := some 94, op := Go.Op.build 39 #[], type := 39, pos := _, after := #[{ on := 3, ground := Go.Ground.guard }], guard := some (3, false) }) (v := .agg #[.int .i64 0, .int .i64 0, .string ⟨#[]⟩, .string ⟨#[]⟩, .string ⟨#[]⟩]) rfl (by kernel_rfl) (by kernel_rfl) (by kernel_rfl) (fun _ _ _ h => h) (Or.inl ⟨by rfl, fun w' hSw => ?_⟩) (by assumption) ?_
        · (try dsimp only at hSw); go_simp
        (try simp only [Act.put]); (try simp only [List.setIfInBounds_toArray]); (try simp only [List.set_cons_succ]); (try simp only [List.set_cons_zero])
        refine wpAnyH_take (i := 6) (oi := { dst := some 95, op := Go.Op.binOp Go.BinOp.neq 39 (Go.Operand.tmp 93) (Go.Operand.tmp 94) 39, type := 4, pos := _, after := #[{ on := 4, ground := Go.Ground.data }, { on := 5, ground := Go.Ground.data }, { on := 3, ground := Go.Ground.guard }], guard := some (3, false) }) (v := .bool false) rfl (by kernel_rfl) (by kernel_rfl) (by kernel_rfl) (fun _ _ _ h => h) (Or.inl ⟨by rfl, fun w' hSw => ?_⟩) (by assumption) ?_
        · (try dsimp only at hSw); go_simp
        (try simp only [Act.put]); (try simp only [List.setIfInBounds_toArray]); (try simp only [List.set_cons_succ]); (try simp only [List.set_cons_zero])
        refine wpAnyH_take (i := 7) (oi := { dst := some 96, op := Go.Op.pick (Go.Operand.tmp 92) (Go.Operand.const (Go.Value.bool true)) (Go.Operand.tmp 95), type := 4, pos := _, after := #[{ on := 3, ground := Go.Ground.data }, { on := 6, ground := Go.Ground.data }], guard := none }) (v := .bool false) rfl (by kernel_rfl) (by kernel_rfl) (by kernel_rfl) (fun _ _ _ h => h) (Or.inl ⟨by rfl, fun w' hSw => ?_⟩) (by assumption) ?_
        · (try dsimp only at hSw); go_simp
        (try simp only [Act.put]); (try simp only [List.setIfInBounds_toArray]); (try simp only [List.set_cons_succ]); (try simp only [List.set_cons_zero])
        refine wpAnyH_take (i := 8) (oi := { dst := some 97, op := Go.Op.move (Go.Operand.tmp 96), type := 4, pos := _, after := #[{ on := 7, ground := Go.Ground.data }, { on := 3, ground := Go.Ground.chain }], guard := none }) (v := .bool false) rfl (by kernel_rfl) (by kernel_rfl) (by kernel_rfl) (fun _ _ _ h => h) (Or.inl ⟨by rfl, fun w' hSw => ?_⟩) (by assumption) ?_
        · (try dsimp only at hSw); go_simp
        (try simp only [Act.put]); (try simp only [List.setIfInBounds_toArray]); (try simp only [List.set_cons_succ]); (try simp only [List.set_cons_zero])
        refine wpAnyH_take (i := 9) (oi := { dst := some 98, op := Go.Op.move (Go.Operand.tmp 10), type := 40, pos := _, after := #[{ on := 8, ground := Go.Ground.guard }], guard := some (8, false) }) (v := .slice la na lcp) rfl (by kernel_rfl) (by kernel_rfl) (by kernel_rfl) (fun _ _ _ h => h) (Or.inl ⟨by rfl, fun w' hSw => ?_⟩) (by assumption) ?_
        · (try dsimp only at hSw); go_simp
        (try simp only [Act.put]); (try simp only [List.setIfInBounds_toArray]); (try simp only [List.set_cons_succ]); (try simp only [List.set_cons_zero])
        refine wpAnyH_take (i := 10) (oi := { dst := some 99, op := Go.Op.call { callee := Go.Callee.builtin Go.Builtin.len, args := #[Go.Operand.tmp 98], argTypes := #[40] }, type := 3, pos := _, after := #[{ on := 9, ground := Go.Ground.data }, { on := 8, ground := Go.Ground.guard }], guard := some (8, false) }) (v := .int .i64 (na : Int)) rfl (by kernel_rfl) (by kernel_rfl) (by kernel_rfl) (fun _ _ _ h => h) (Or.inl ⟨by rfl, fun w' hSw => ?_⟩) (by assumption) ?_
        · (try dsimp only at hSw); go_simp
        (try simp only [Act.put]); (try simp only [List.setIfInBounds_toArray]); (try simp only [List.set_cons_succ]); (try simp only [List.set_cons_zero])
        refine wpAnyH_take (i := 11) (oi := { dst := some 100, op := Go.Op.binOp Go.BinOp.neq 3 (Go.Operand.tmp 99) (Go.Operand.const (Go.Value.int Go.IntKind.i64 1)) 3, type := 4, pos := _, after := #[{ on := 10, ground := Go.Ground.data }, { on := 8, ground := Go.Ground.guard }], guard := some (8, false) }) (v := .bool true) rfl (by kernel_rfl) (by kernel_rfl) (by kernel_rfl) (fun _ _ _ h => h) (Or.inl ⟨by rfl, fun w' hSw => ?_⟩) (by assumption) ?_
        · (try dsimp only at hSw); go_simp
        (try simp only [Act.put]); (try simp only [List.setIfInBounds_toArray]); (try simp only [List.set_cons_succ]); (try simp only [List.set_cons_zero])
        refine wpAnyH_take (i := 12) (oi := { dst := some 101, op := Go.Op.pick (Go.Operand.tmp 97) (Go.Operand.const (Go.Value.bool true)) (Go.Operand.tmp 100), type := 4, pos := _, after := #[{ on := 8, ground := Go.Ground.data }, { on := 11, ground := Go.Ground.data }], guard := none }) (v := .bool true) rfl (by kernel_rfl) (by kernel_rfl) (by kernel_rfl) (fun _ _ _ h => h) (Or.inl ⟨by rfl, fun w' hSw => ?_⟩) (by assumption) ?_
        · (try dsimp only at hSw); go_simp
        (try simp only [Act.put]); (try simp only [List.setIfInBounds_toArray]); (try simp only [List.set_cons_succ]); (try simp only [List.set_cons_zero])
        refine wpAnyH_take (i := 13) (oi := { dst := some 102, op := Go.Op.move (Go.Operand.tmp 101), type := 4, pos := _, after := #[{ on := 12, ground := Go.Ground.data }, { on := 8, ground := Go.Ground.chain }], guard := none }) (v := .bool true) rfl (by kernel_rfl) (by kernel_rfl) (by kernel_rfl) (fun _ _ _ h => h) (Or.inl ⟨by rfl, fun w' hSw => ?_⟩) (by assumption) ?_
        · (try dsimp only at hSw); go_simp
        (try simp only [Act.put]); (try simp only [List.setIfInBounds_toArray]); (try simp only [List.set_cons_succ]); (try simp only [List.set_cons_zero])
        refine wpAnyH_take (i := 14) (oi := { dst := some 103, op := Go.Op.move (Go.Operand.tmp 10), type := 40, pos := _, after := #[{ on := 13, ground := Go.Ground.guard }], guard := some (13, false) }) (v := undef) rfl (by kernel_rfl) (by kernel_rfl) (by kernel_rfl) (fun _ _ _ h => h) (Or.inr ⟨by rfl, rfl⟩) (by assumption) ?_
        (try simp only [Act.put]); (try simp only [List.setIfInBounds_toArray]); (try simp only [List.set_cons_succ]); (try simp only [List.set_cons_zero])
        refine wpAnyH_take (i := 15) (oi := { dst := some 104, op := Go.Op.indexAddr 40 (Go.Operand.tmp 103) (Go.Operand.const (Go.Value.int Go.IntKind.i64 0)), type := 0, pos := _, after := #[{ on := 14, ground := Go.Ground.data }, { on := 13, ground := Go.Ground.guard }], guard := some (13, false) }) (v := undef) rfl (by kernel_rfl) (by kernel_rfl) (by kernel_rfl) (fun _ _ _ h => h) (Or.inr ⟨by rfl, rfl⟩) (by assumption) ?_
        (try simp only [Act.put]); (try simp only [List.setIfInBounds_toArray]); (try simp only [List.set_cons_succ]); (try simp only [List.set_cons_zero])
        refine wpAnyH_take (i := 16) (oi := { dst := some 105, op := Go.Op.load 24 (Go.Operand.tmp 104), type := 24, pos := _, after := #[{ on := 15, ground := Go.Ground.data }, { on := 13, ground := Go.Ground.guard }], guard := some (13, false) }) (v := undef) rfl (by kernel_rfl) (by kernel_rfl) (by kernel_rfl) (fun _ _ _ h => h) (Or.inr ⟨by rfl, rfl⟩) (by assumption) ?_
        (try simp only [Act.put]); (try simp only [List.setIfInBounds_toArray]); (try simp only [List.set_cons_succ]); (try simp only [List.set_cons_zero])
        refine wpAnyH_take (i := 17) (oi := { dst := some 106, op := Go.Op.load 24 (Go.Operand.tmp 1), type := 24, pos := _, after := #[{ on := 13, ground := Go.Ground.guard }], guard := some (13, false) }) (v := undef) rfl (by kernel_rfl) (by kernel_rfl) (by kernel_rfl) (fun _ _ _ h => h) (Or.inr ⟨by rfl, rfl⟩) (by assumption) ?_
        (try simp only [Act.put]); (try simp only [List.setIfInBounds_toArray]); (try simp only [List.set_cons_succ]); (try simp only [List.set_cons_zero])
        refine wpAnyH_ready (rs := [18]) (by kernel_rfl) (by simp) ?_
        refine AllReadyH.cons (o := { dst := some 107, op := Go.Op.call { callee := Go.Callee.value (Go.Operand.func 14), args := #[Go.Operand.tmp 105, Go.Operand.tmp 106], argTypes := #[24, 24] }, type := 4, pos := _, after := #[{ on := 16, ground := Go.Ground.data }, { on := 17, ground := Go.Ground.data }, { on := 13, ground := Go.Ground.chain }, { on := 13, ground := Go.Ground.guard }], guard := some (13, false) }) rfl (fun K hK => ?_) ?_
        · skip
          go_simp
          refine hK.out _ _ hE (fun hHeld => ?_)
          clear hK K
          (try simp only [Act.put]); (try simp only [List.setIfInBounds_toArray]); (try simp only [List.set_cons_succ]); (try simp only [List.set_cons_zero])
          refine wpAnyH_take (i := 19) (oi := { dst := some 108, op := Go.Op.unOp Go.UnOp.not 4 (Go.Operand.tmp 107), type := 4, pos := _, after := #[{ on := 18, ground := Go.Ground.data }, { on := 13, ground := Go.Ground.guard }], guard := some (13, false) }) (v := undef) rfl (by kernel_rfl) (by kernel_rfl) (by kernel_rfl) (fun _ _ _ h => h) (Or.inr ⟨by rfl, rfl⟩) (by assumption) ?_
          (try simp only [Act.put]); (try simp only [List.setIfInBounds_toArray]); (try simp only [List.set_cons_succ]); (try simp only [List.set_cons_zero])
          refine wpAnyH_take (i := 20) (oi := { dst := some 109, op := Go.Op.pick (Go.Operand.tmp 102) (Go.Operand.const (Go.Value.bool true)) (Go.Operand.tmp 108), type := 4, pos := _, after := #[{ on := 13, ground := Go.Ground.data }, { on := 19, ground := Go.Ground.data }], guard := none }) (v := .bool true) rfl (by kernel_rfl) (by kernel_rfl) (by kernel_rfl) (fun _ _ _ h => h) (Or.inl ⟨by rfl, fun w' hSw => ?_⟩) (by assumption) ?_
          · (try dsimp only at hSw); go_simp
          (try simp only [Act.put]); (try simp only [List.setIfInBounds_toArray]); (try simp only [List.set_cons_succ]); (try simp only [List.set_cons_zero])
          refine wpAnyH_done (by kernel_rfl) ?_ _
          refine NoPanic.normal ?_
          have HE := Hid.mk' hE
          have HB := Hid.mk' (HT.out.1.r.b.trans (Below.mono hE HT.out.1.r.b.size))
          clear hE
          go_wp2_with fail
          go_ret2
          exact ⟨.slice none 0 0, fun h => absurd h HNO.out, fun _ => rfl, HB.out⟩
        exact AllReadyH.nil
    · have HNO : Hid (¬ wOk y) := fun h => hst (by have := (HAO.out h).1; simp only [Prod.mk.injEq] at this; rw [this.1]; rfl)
      have hqb : ((q.st : Int) == 0) = false := beq_false_of_ne (by omega)
      clear HAO HAB HQ HSA HSM HVY HRU HNA hst
      refine wp_region_noPanic ?_
      refine wp_region_held_drew (S := fun w' => Below w7.heap.size w7 w') (by kernel_rfl) hE (fun hHeld => ?_)
      generalize w7.drew = wd at *
      refine wpAnyH_take (i := 0) (oi := { dst := some 89, op := Go.Op.move (Go.Operand.tmp 4), type := 22, pos := _, after := #[], guard := none }) (v := .slice al L.length cl) rfl (by kernel_rfl) (by kernel_rfl) (by kernel_rfl) (fun _ _ _ h => h) (Or.inl ⟨by rfl, fun w' hSw => ?_⟩) (by assumption) ?_
      · (try dsimp only at hSw); go_simp
      (try simp only [Act.put]); (try simp only [List.setIfInBounds_toArray]); (try simp only [List.set_cons_succ]); (try simp only [List.set_cons_zero])
      refine wpAnyH_take (i := 1) (oi := { dst := some 90, op := Go.Op.call { callee := Go.Callee.builtin Go.Builtin.len, args := #[Go.Operand.tmp 89], argTypes := #[22] }, type := 3, pos := _, after := #[{ on := 0, ground := Go.Ground.data }], guard := none }) (v := .int .i64 (L.length : Int)) rfl (by kernel_rfl) (by kernel_rfl) (by kernel_rfl) (fun _ _ _ h => h) (Or.inl ⟨by rfl, fun w' hSw => ?_⟩) (by assumption) ?_
      · (try dsimp only at hSw); go_simp
      (try simp only [Act.put]); (try simp only [List.setIfInBounds_toArray]); (try simp only [List.set_cons_succ]); (try simp only [List.set_cons_zero])
      refine wpAnyH_take (i := 2) (oi := { dst := some 91, op := Go.Op.binOp Go.BinOp.eql 3 (Go.Operand.tmp 90) (Go.Operand.const (Go.Value.int Go.IntKind.i64 0)) 3, type := 4, pos := _, after := #[{ on := 1, ground := Go.Ground.data }], guard := none }) (v := .bool false) rfl (by kernel_rfl) (by kernel_rfl) (by kernel_rfl) (fun _ _ _ h => h) (Or.inl ⟨by rfl, fun w' hSw => ?_⟩) (by assumption) ?_
      · (try dsimp only at hSw); go_simp
      (try simp only [Act.put]); (try simp only [List.setIfInBounds_toArray]); (try simp only [List.set_cons_succ]); (try simp only [List.set_cons_zero])
      refine wpAnyH_take (i := 3) (oi := { dst := some 92, op := Go.Op.move (Go.Operand.tmp 91), type := 4, pos := _, after := #[{ on := 2, ground := Go.Ground.data }], guard := none }) (v := .bool false) rfl (by kernel_rfl) (by kernel_rfl) (by kernel_rfl) (fun _ _ _ h => h) (Or.inl ⟨by rfl, fun w' hSw => ?_⟩) (by assumption) ?_
      · (try dsimp only at hSw); go_simp
      (try simp only [Act.put]); (try simp only [List.setIfInBounds_toArray]); (try simp only [List.set_cons_succ]); (try simp only [List.set_cons_zero])
      refine wpAnyH_take (i := 4) (oi := { dst := some 93, op := Go.Op.load 39 (Go.Operand.tmp 9), type := 39, pos := _, after := #[{ on := 3, ground := Go.Ground.guard }], guard := some (3, false) }) (v := .agg #[.int .i64 (q.st : Int), .int .i64 q.mark, .string (bs q.inter), .string (bs q.args), .string (bs q.text)]) rfl (by kernel_rfl) (by kernel_rfl) (by kernel_rfl) (fun _ _ _ h => h) (Or.inl ⟨by rfl, fun w' hSw => ?_⟩) (by assumption) ?_
      · have bp := HT.out.1.p.later hSw
        exact (exec_loadP _ _ _ _ _ _ _ _ (bp.lies0 rfl)).trans (congrArg (fun z : List Value => Result.ok (Next.value (.agg z.toArray)) w') (bp.row0 rfl))
      (try simp only [Act.put]); (try simp only [List.setIfInBounds_toArray]); (try simp only [List.set_cons_succ]); (try simp only [List.set_cons_zero])
      refine wpAnyH_take (i := 5) (oi := { dst := some 94, op := Go.Op.build 39 #[], type := 39, pos := _, after := #[{ on := 3, ground := Go.Ground.guard }], guard := some (3, false) }) (v := .agg #[.int .i64 0, .int .i64 0, .string ⟨#[]⟩, .string ⟨#[]⟩, .string ⟨#[]⟩]) rfl (by kernel_rfl) (by kernel_rfl) (by kernel_rfl) (fun _ _ _ h => h) (Or.inl ⟨by rfl, fun w' hSw => ?_⟩) (by assumption) ?_
      · (try dsimp only at hSw); go_simp
      (try simp only [Act.put]); (try simp only [List.setIfInBounds_toArray]); (try simp only [List.set_cons_succ]); (try simp only [List.set_cons_zero])
      refine wpAnyH_take (i := 6) (oi := { dst := some 95, op := Go.Op.binOp Go.BinOp.neq 39 (Go.Operand.tmp 93) (Go.Operand.tmp 94) 39, type := 4, pos := _, after := #[{ on := 4, ground := Go.Ground.data }, { on := 5, ground := Go.Ground.data }, { on := 3, ground := Go.Ground.guard }], guard := some (3, false) }) (v := .bool true) rfl (by kernel_rfl) (by kernel_rfl) (by kernel_rfl) (fun _ _ _ h => h) (Or.inl ⟨by rfl, fun w' hSw => ?_⟩) (by assumption) ?_
      · (try dsimp only at hSw); go_simp
      (try simp only [Act.put]); (try simp only [List.setIfInBounds_toArray]); (try simp only [List.set_cons_succ]); (try simp only [List.set_cons_zero])
      refine wpAnyH_take (i := 7) (oi := { dst := some 96, op := Go.Op.pick (Go.Operand.tmp 92) (Go.Operand.const (Go.Value.bool true)) (Go.Operand.tmp 95), type := 4, pos := _, after := #[{ on := 3, ground := Go.Ground.data }, { on := 6, ground := Go.Ground.data }], guard := none }) (v := .bool true) rfl (by kernel_rfl) (by kernel_rfl) (by kernel_rfl) (fun _ _ _ h => h) (Or.inl ⟨by rfl, fun w' hSw => ?_⟩) (by assumption) ?_
      · (try dsimp only at hSw); go_simp
      (try simp only [Act.put]); (try simp only [List.setIfInBounds_toArray]); (try simp only [List.set_cons_succ]); (try simp only [List.set_cons_zero])
      refine wpAnyH_take (i := 8) (oi := { dst := some 97, op := Go.Op.move (Go.Operand.tmp 96), type := 4, pos := _, after := #[{ on := 7, ground := Go.Ground.data }, { on := 3, ground := Go.Ground.chain }], guard := none }) (v := .bool true) rfl (by kernel_rfl) (by kernel_rfl) (by kernel_rfl) (fun _ _ _ h => h) (Or.inl ⟨by rfl, fun w' hSw => ?_⟩) (by assumption) ?_
      · (try dsimp only at hSw); go_simp
      (try simp only [Act.put]); (try simp only [List.setIfInBounds_toArray]); (try simp only [List.set_cons_succ]); (try simp only [List.set_cons_zero])
      refine wpAnyH_take (i := 9) (oi := { dst := some 98, op := Go.Op.move (Go.Operand.tmp 10), type := 40, pos := _, after := #[{ on := 8, ground := Go.Ground.guard }], guard := some (8, false) }) (v := undef) rfl (by kernel_rfl) (by kernel_rfl) (by kernel_rfl) (fun _ _ _ h => h) (Or.inr ⟨by rfl, rfl⟩) (by assumption) ?_
      (try simp only [Act.put]); (try simp only [List.setIfInBounds_toArray]); (try simp only [List.set_cons_succ]); (try simp only [List.set_cons_zero])
      refine wpAnyH_take (i := 10) (oi := { dst := some 99, op := Go.Op.call { callee := Go.Callee.builtin Go.Builtin.len, args := #[Go.Operand.tmp 98], argTypes := #[40] }, type := 3, pos := _, after := #[{ on := 9, ground := Go.Ground.data }, { on := 8, ground := Go.Ground.guard }], guard := some (8, false) }) (v := undef) rfl (by kernel_rfl) (by kernel_rfl) (by kernel_rfl) (fun _ _ _ h => h) (Or.inr ⟨by rfl, rfl⟩) (by assumption) ?_
      (try simp only [Act.put]); (try simp only [List.setIfInBounds_toArray]); (try simp only [List.set_cons_succ]); (try simp only [List.set_cons_zero])
      refine wpAnyH_take (i := 11) (oi := { dst := some 100, op := Go.Op.binOp Go.BinOp.neq 3 (Go.Operand.tmp 99) (Go.Operand.const (Go.Value.int Go.IntKind.i64 1)) 3, type := 4, pos := _, after := #[{ on := 10, ground := Go.Ground.data }, { on := 8, ground := Go.Ground.guard }], guard := some (8, false) }) (v := undef) rfl (by kernel_rfl) (by kernel_rfl) (by kernel_rfl) (fun _ _ _ h => h) (Or.inr ⟨by rfl, rfl⟩) (by assumption) ?_
      (try simp only [Act.put]); (try simp only [List.setIfInBounds_toArray]); (try simp only [List.set_cons_succ]); (try simp only [List.set_cons_zero])
      refine wpAnyH_take (i := 12) (oi := { dst := some 101, op := Go.Op.pick (Go.Operand.tmp 97) (Go.Operand.const (Go.Value.bool true)) (Go.Operand.tmp 100), type := 4, pos := _, after := #[{ on := 8, ground := Go.Ground.data }, { on := 11, ground := Go.Ground.data }], guard := none }) (v := .bool true) rfl (by kernel_rfl) (by kernel_rfl) (by kernel_rfl) (fun _ _ _ h => h) (Or.inl ⟨by rfl, fun w' hSw => ?_⟩) (by assumption) ?_
      · (try dsimp only at hSw); go_simp
      (try simp only [Act.put]); (try simp only [List.setIfInBounds_toArray]); (try simp only [List.set_cons_succ]); (try simp only [List.set_cons_zero])
      refine wpAnyH_take (i := 13) (oi := { dst := some 102, op := Go.Op.move (Go.Operand.tmp 101), type := 4, pos := _, after := #[{ on := 12, ground := Go.Ground.data }, { on := 8, ground := Go.Ground.chain }], guard := none }) (v := .bool true) rfl (by kernel_rfl) (by kernel_rfl) (by kernel_rfl) (fun _ _ _ h => h) (Or.inl ⟨by rfl, fun w' hSw => ?_⟩) (by assumption) ?_
      · (try dsimp only at hSw); go_simp
      (try simp only [Act.put]); (try simp only [List.setIfInBounds_toArray]); (try simp only [List.set_cons_succ]); (try simp only [List.set_cons_zero])
      refine wpAnyH_take (i := 14) (oi := { dst := some 103, op := Go.Op.move (Go.Operand.tmp 10), type := 40, pos := _, after := #[{ on := 13, ground := Go.Ground.guard }], guard := some (13, false) }) (v := undef) rfl (by kernel_rfl) (by kernel_rfl) (by kernel_rfl) (fun _ _ _ h => h) (Or.inr ⟨by rfl, rfl⟩) (by assumption) ?_
      (try simp only [Act.put]); (try simp only [List.setIfInBounds_toArray]); (try simp only [List.set_cons_succ]); (try simp only [List.set_cons_zero])
      refine wpAnyH_take (i := 15) (oi := { dst := some 104, op := Go.Op.indexAddr 40 (Go.Operand.tmp 103) (Go.Operand.const (Go.Value.int Go.IntKind.i64 0)), type := 0, pos := _, after := #[{ on := 14, ground := Go.Ground.data }, { on := 13, ground := Go.Ground.guard }], guard := some (13, false) }) (v := undef) rfl (by kernel_rfl) (by kernel_rfl) (by kernel_rfl) (fun _ _ _ h => h) (Or.inr ⟨by rfl, rfl⟩) (by assumption) ?_
      (try simp only [Act.put]); (try simp only [List.setIfInBounds_toArray]); (try simp only [List.set_cons_succ]); (try simp only [List.set_cons_zero])
      refine wpAnyH_take (i := 16) (oi := { dst := some 105, op := Go.Op.load 24 (Go.Operand.tmp 104), type := 24, pos := _, after := #[{ on := 15, ground := Go.Ground.data }, { on := 13, ground := Go.Ground.guard }], guard := some (13, false) }) (v := undef) rfl (by kernel_rfl) (by kernel_rfl) (by kernel_rfl) (fun _ _ _ h => h) (Or.inr ⟨by rfl, rfl⟩) (by assumption) ?_
      (try simp only [Act.put]); (try simp only [List.setIfInBounds_toArray]); (try simp only [List.set_cons_succ]); (try simp only [List.set_cons_zero])
      refine wpAnyH_take (i := 17) (oi := { dst := some 106, op := Go.Op.load 24 (Go.Operand.tmp 1), type := 24, pos := _, after := #[{ on := 13, ground := Go.Ground.guard }], guard := some (13, false) }) (v := undef) rfl (by kernel_rfl) (by kernel_rfl) (by kernel_rfl) (fun _ _ _ h => h) (Or.inr ⟨by rfl, rfl⟩) (by assumption) ?_
      (try simp only [Act.put]); (try simp only [List.setIfInBounds_toArray]); (try simp only [List.set_cons_succ]); (try simp only [List.set_cons_zero])
      refine wpAnyH_ready (rs := [18]) (by kernel_rfl) (by simp) ?_
      refine AllReadyH.cons (o := { dst := some 107, op := Go.Op.call { callee := Go.Callee.value (Go.Operand.func 14), args := #[Go.Operand.tmp 105, Go.Operand.tmp 106], argTypes := #[24, 24] }, type := 4, pos := _, after := #[{ on := 16, ground := Go.Ground.data }, { on := 17, ground := Go.Ground.data }, { on := 13, ground := Go.Ground.chain }, { on := 13, ground := Go.Ground.guard }], guard := some (13, false) }) rfl (fun K hK => ?_) ?_
      · skip
        go_simp
        refine hK.out _ _ hE (fun hHeld => ?_)
        clear hK K
        (try simp only [Act.put]); (try simp only [List.setIfInBounds_toArray]); (try simp only [List.set_cons_succ]); (try simp only [List.set_cons_zero])
        refine wpAnyH_take (i := 19) (oi := { dst := some 108, op := Go.Op.unOp Go.UnOp.not 4 (Go.Operand.tmp 107), type := 4, pos := _, after := #[{ on := 18, ground := Go.Ground.data }, { on := 13, ground := Go.Ground.guard }], guard := some (13, false) }) (v := undef) rfl (by kernel_rfl) (by kernel_rfl) (by kernel_rfl) (fun _ _ _ h => h) (Or.inr ⟨by rfl, rfl⟩) (by assumption) ?_
        (try simp only [Act.put]); (try simp only [List.setIfInBounds_toArray]); (try simp only [List.set_cons_succ]); (try simp only [List.set_cons_zero])
        refine wpAnyH_take (i := 20) (oi := { dst := some 109, op := Go.Op.pick (Go.Operand.tmp 102) (Go.Operand.const (Go.Value.bool true)) (Go.Operand.tmp 108), type := 4, pos := _, after := #[{ on := 13, ground := Go.Ground.data }, { on := 19, ground := Go.Ground.data }], guard := none }) (v := .bool true) rfl (by kernel_rfl) (by kernel_rfl) (by kernel_rfl) (fun _ _ _ h => h) (Or.inl ⟨by rfl, fun w' hSw => ?_⟩) (by assumption) ?_
        · (try dsimp only at hSw); go_simp
        (try simp only [Act.put]); (try simp only [List.setIfInBounds_toArray]); (try simp only [List.set_cons_succ]); (try simp only [List.set_cons_zero])
        refine wpAnyH_done (by kernel_rfl) ?_ _
        refine NoPanic.normal ?_
        have HE := Hid.mk' hE
        have HB := Hid.mk' (HT.out.1.r.b.trans (Below.mono hE HT.out.1.r.b.size))
        clear hE
        go_wp2_with fail
        go_ret2
        exact ⟨.slice none 0 0, fun h => absurd h HNO.out, fun _ => rfl, HB.out⟩
      exact AllReadyH.nil
end Go.Proofs.YtneiiinheimglaaGreatDoor.B
