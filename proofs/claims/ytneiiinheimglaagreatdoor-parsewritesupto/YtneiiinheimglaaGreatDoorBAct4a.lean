/-
  Contract of farref.ActRunes at an act of one kind (a command of numbers, without a mark): its runes where it may be written, else none; conditions: texts and numbers of at most 2^20; the variable internal/bytealg.MaxLen holds an int.
-/
import Derived.Test.YtneiiinheimglaaGreatDoorBActA
import Derived.BigRegion
import Derived.Deep.DeepCutAuto
import Derived.Deep.CutBlock
namespace Go.Proofs.YtneiiinheimglaaGreatDoor.B
open Go.RowKit Go.Lib Go.Proofs.YtneiiinheimglaaGreatDoor Go.Proofs.YtneiiinheimglaaGreatDoor.W Go.Proofs.YtneiiinheimglaaGreatDoor.Q Go.Proofs.YtneiiinheimglaaGreatDoor.C Go.Proofs.YtneiiinheimglaaGreatDoor.Z

attribute [local go_sem ↓] exec_storeP
set_option maxHeartbeats 16000000 in
set_option maxRecDepth 100000 in
theorem ActRunes_4a (y : Ac) (vy : Value) (m : Int) (w : World) (hv : RdI w vy y.args) (hm : w.cell? ⟨2, 0, none⟩ = some (.int .i64 m)) (hin : y.inter.length ≤ 1048576) (_ : y.text.length ≤ 1048576) (har : y.args.length ≤ 1048576) (hk : y.kind = 4) (hw0 : (writeT y.args).2 = 0) (hl4 : (writeT y.args).1.length ≤ 100) (hmk : y.mark = 0) :
    Calls Tryz.prog 5 #[.agg (acells y vy).toArray] w (ARes y (wL y) w) := by
  have hK : 1 ≤ y.kind ∧ y.kind ≤ 5 := by omega
  have h4 : y.kind = 4 → (writeT y.args).2 = 0 ∧ (writeT y.args).1.length ≤ 100 := fun _ => ⟨hw0, hl4⟩
  have HAO := Hid.mk' (fun h : wOk y => act_ok h)
  have HAB := Hid.mk' (fun h1 h2 h3 => act_of (y := y) hK h4 h1 h2 h3)
  have HQ := Hid.mk' (fun h => st_zero (run_right (wL y) right_p0) h)
  have HSM := Hid.mk' (few_args right_p0 (wL y))
  have hLL : 0 < (wL y).length ∧ (wL y).length ≤ 3000000 := by rw [wL_four hk hw0, if_pos hmk]; simp only [List.length_append, List.length_cons, List.length_nil, asInts_len]; omega
  have hL0 : 0 < (wL y).length := by have := hLL.1; omega
  have hL1 : (wL y).length ≤ 274877906944 := by have := hLL.2; omega
  have HP := Hid.mk' (fun v W (hB : Below w.heap.size w W) (hr : RdI W v (wL y)) => (show Calls Tryz.prog 13 #[.agg #[.int .i64 0, .int .i64 0, .string ⟨#[]⟩, .string ⟨#[]⟩, .string ⟨#[]⟩], v] W _ from Parsed_any p0 right_p0 m v (wL y) W hr hL1 ((hB.cell (p := ⟨2, 0, none⟩) (World.block_lt_of_cell? _ _ hm)).trans hm)))
  have HSA := Hid.mk' (fun x va vb W (h1 : RdI W va x.args) (h2 : RdI W vb y.args) (h3 : x.args.length ≤ 1000000000) => SameAct_any x y va vb W h1 h2 h3 (by omega))
  have HRU := Hid.mk' (fun c W => Rune_any c W)
  have HVY : Hid (∀ W, Below w.heap.size w W → RdI W vy y.args) := fun W h => hv.below h
  have HLE : Hid (wL y = (([27, 91] ++ asInts (writeT y.args).1) ++ asInts y.inter) ++ [y.code]) := by
    rw [Hid, wL_four hk hw0, if_pos hmk]
    rfl
  have HAR := Hid.mk' (fun W => asciiRunes_any y.inter W (by omega))
  have HAS := Hid.mk' (fun W => asciiRunes_any (writeT y.args).1 W (by omega))
  have HAT : Hid (∀ W, Below w.heap.size w W → Calls Tryz.prog 11 #[vy] W fun e w' => e = .returned (.tuple #[.string (bs (writeT y.args).1), .int .i64 0]) ∧ w' = W) := fun W hW => by
    have h := ArgsText_any vy y.args W (hv.below hW) (by omega)
    rw [hw0] at h
    exact h
  have hTL : (asInts (writeT y.args).1).length ≤ 100 ∧ (asInts y.inter).length ≤ 1048576 := by rw [asInts_len, asInts_len]; exact ⟨hl4, hin⟩
  have HTL := Hid.mk' hTL
  have hz : (bs (writeT y.args).1).size ≤ 100 := by rw [C.bs_size]; exact hl4
  have hmb : (y.mark != 0) = false := by rw [hmk]; rfl
  clear hTL hmk hw0 hl4
  generalize (writeT y.args).1 = T at *
  generalize run p0 (wL y) = Y at *
  generalize wL y = L at *
  obtain ⟨q, acts⟩ := Y
  dsimp only at *
  unfold pcells at HP
  obtain ⟨ad, cp, rfl, hv2⟩ := hv
  have kb1 : (y.kind == 1) = false := by rw [hk]; rfl
  have kb2 : (y.kind == 2) = false := by rw [hk]; rfl
  have kb3 : (y.kind == 3) = false := by rw [hk]; rfl
  have kb4 : (y.kind == 4) = true := by rw [hk]; rfl
  have kb5 : (y.kind == 5) = false := by rw [hk]; rfl
  clear hv2 hm hK hk hLL hin har
  have X0 := Rw.new (w := w) y (.slice ad y.args.length cp)
  have c0 := X0.a.cell (j := 0) (v := .int .i64 y.kind) rfl
  have c1 := X0.a.cell (j := 1) (v := .int .i64 y.code) rfl
  have c2 := X0.a.cell (j := 2) (v := .int .i64 y.mark) rfl
  have c3 := X0.a.cell (j := 3) (v := .string (bs y.inter)) rfl
  have c4 := X0.a.cell (j := 4) (v := .slice ad y.args.length cp) rfl
  have c5 := X0.a.cell (j := 5) (v := .string (bs y.text)) rfl
  have HX0 := Hid.mk' X0
  clear X0
  unfold acells at *
  have HC := Hid.mk' (HAT.out _ HX0.out.b)
  clear HAT
  generalize bs T = ST at *
  go_enter Tryz.func5, Tryz.ntmps5
  go_upto_block 0 with fail
  go_cut [4] (fun s4 wx => Hid (RdI wx s4 L) ∧ Hid (Rw w y (.slice ad y.args.length cp) wx))
  case first =>
    go_wp2_with fail
    refine HC.out.mono ?_
    rintro e w1 ⟨rfl, hw1⟩
    subst hw1
    clear HC
    have HOA : Hid (OwnI ((w.alloc (.cells #[.int .i64 y.kind, .int .i64 y.code, .int .i64 y.mark, .string (bs y.inter), .slice ad y.args.length cp, .string (bs y.text)] 24)).alloc (.cells #[.int .i64 27, .int .i64 91] 3)) (w.heap.size + 1) (.slice (some ⟨w.heap.size + 1, 0, none⟩) 2 2) [27, 91]) := by
      have h := OwnI.lit (w.alloc (.cells #[.int .i64 y.kind, .int .i64 y.code, .int .i64 y.mark, .string (bs y.inter), .slice ad y.args.length cp, .string (bs y.text)] 24)) (w.heap.size + 1) [27, 91] HX0.out.le (by decide)
      rw [World.size_alloc] at h
      exact h
    have HXA := Hid.mk' (HX0.out.alloc (.cells #[.int .i64 27, .int .i64 91] 3))
    go_upto_region 18 with fail
    generalize (w.alloc (.cells #[.int .i64 y.kind, .int .i64 y.code, .int .i64 y.mark, .string (bs y.inter), .slice ad y.args.length cp, .string (bs y.text)] 24)).alloc (.cells #[.int .i64 27, .int .i64 91] 3) = w5 at *
    generalize (some ⟨w.heap.size + 1, 0, none⟩ : Option Addr) = al5 at *
    have hE := HXA.out.drew
    have o0 := Hid.mk' (HOA.out.below (show Below w5.heap.size w5 w5.drew from (Below.refl _ _).drew))
    clear c0 c1 c2 c3 c4 c5 HX0 HXA HOA HAO HAB HQ HSM HP HSA HRU HVY
    refine wp_region_noPanic ?_
    refine wp_region_held_drew (S := fun w' => Rw w y (.slice ad y.args.length cp) w') (by kernel_rfl) hE (fun hHeld => ?_)
    generalize w5.drew = wd at *
    refine wpAnyH_take (i := 0) (oi := { dst := some 58, op := Go.Op.move (Go.Operand.tmp 4), type := 22, pos := _, after := #[], guard := none }) (v := .slice al5 2 2) rfl (by kernel_rfl) (by kernel_rfl) (by kernel_rfl) (fun _ _ _ h => h) (Or.inl ⟨by rfl, fun w' hSw => ?_⟩) (by assumption) ?_
    · (try dsimp only at hSw); go_simp
    (try simp only [Act.put]); (try simp only [List.setIfInBounds_toArray]); (try simp only [List.set_cons_succ]); (try simp only [List.set_cons_zero])
    refine wpAnyH_take (i := 1) (oi := { dst := some 59, op := Go.Op.move (Go.Operand.tmp 5), type := 9, pos := _, after := #[], guard := none }) (v := .string ST) rfl (by kernel_rfl) (by kernel_rfl) (by kernel_rfl) (fun _ _ _ h => h) (Or.inl ⟨by rfl, fun w' hSw => ?_⟩) (by assumption) ?_
    · (try dsimp only at hSw); go_simp
    (try simp only [Act.put]); (try simp only [List.setIfInBounds_toArray]); (try simp only [List.set_cons_succ]); (try simp only [List.set_cons_zero])
    refine wpAnyH_take (i := 4) (oi := { dst := some 62, op := Go.Op.fieldAddr 24 (Go.Operand.tmp 1) 3, type := 0, pos := _, after := #[], guard := none }) (v := .pointer (some ⟨w.heap.size, 3, none⟩)) rfl (by kernel_rfl) (by kernel_rfl) (by kernel_rfl) (fun _ _ _ h => h) (Or.inl ⟨by rfl, fun w' hSw => ?_⟩) (by assumption) ?_
    · (try dsimp only at hSw); go_simp
    (try simp only [Act.put]); (try simp only [List.setIfInBounds_toArray]); (try simp only [List.set_cons_succ]); (try simp only [List.set_cons_zero])
    refine wpAnyH_take (i := 5) (oi := { dst := some 63, op := Go.Op.load 9 (Go.Operand.tmp 62), type := 9, pos := _, after := #[{ on := 4, ground := Go.Ground.data }], guard := none }) (v := .string (bs y.inter)) rfl (by kernel_rfl) (by kernel_rfl) (by kernel_rfl) (fun _ _ _ h => h) (Or.inl ⟨by rfl, fun w' hSw => ?_⟩) (by assumption) ?_
    · have d3 := hSw.a.cell (j := 3) (v := .string (bs y.inter)) rfl
      clear hSw
      go_simp
    (try simp only [Act.put]); (try simp only [List.setIfInBounds_toArray]); (try simp only [List.set_cons_succ]); (try simp only [List.set_cons_zero])
    refine wpAnyH_take (i := 8) (oi := { dst := some 66, op := Go.Op.fieldAddr 24 (Go.Operand.tmp 1) 1, type := 0, pos := _, after := #[], guard := none }) (v := .pointer (some ⟨w.heap.size, 1, none⟩)) rfl (by kernel_rfl) (by kernel_rfl) (by kernel_rfl) (fun _ _ _ h => h) (Or.inl ⟨by rfl, fun w' hSw => ?_⟩) (by assumption) ?_
    · (try dsimp only at hSw); go_simp
    (try simp only [Act.put]); (try simp only [List.setIfInBounds_toArray]); (try simp only [List.set_cons_succ]); (try simp only [List.set_cons_zero])
    refine wpAnyH_take (i := 9) (oi := { dst := some 67, op := Go.Op.load 3 (Go.Operand.tmp 66), type := 3, pos := _, after := #[{ on := 8, ground := Go.Ground.data }], guard := none }) (v := .int .i64 y.code) rfl (by kernel_rfl) (by kernel_rfl) (by kernel_rfl) (fun _ _ _ h => h) (Or.inl ⟨by rfl, fun w' hSw => ?_⟩) (by assumption) ?_
    · have d1 := hSw.a.cell (j := 1) (v := .int .i64 y.code) rfl
      clear hSw
      go_simp
    (try simp only [Act.put]); (try simp only [List.setIfInBounds_toArray]); (try simp only [List.set_cons_succ]); (try simp only [List.set_cons_zero])
    refine wpAnyH_ready (rs := [2, 10]) (by kernel_rfl) (by simp) ?_
    refine AllReadyH.cons (o := { dst := some 60, op := Go.Op.call { callee := Go.Callee.value (Go.Operand.func 10), args := #[Go.Operand.tmp 59], argTypes := #[9] }, type := 22, pos := _, after := #[{ on := 1, ground := Go.Ground.data }], guard := none }) rfl (fun K hK => ?_) ?_
    · skip
      go_simp
      refine (HAS.out wd).mono ?_
      rintro e v1 ⟨rv1, rfl, ho1, hb1⟩
      obtain ⟨ra1, rc1, re1⟩ := OwnI.form ho1
      subst re1
      have e1 := hE.later hb1
      have r1 := Hid.mk' (RdI.own ho1)
      have o1 := Hid.mk' (o0.out.below hb1)
      clear ho1 hb1
      refine hK.out _ _ e1 (fun hHeld => ?_)
      clear hK K
      (try simp only [Act.put]); (try simp only [List.setIfInBounds_toArray]); (try simp only [List.set_cons_succ]); (try simp only [List.set_cons_zero])
      refine wpAnyH_ready (rs := [3, 10]) (by kernel_rfl) (by simp) ?_
      refine AllReadyH.cons (o := { dst := some 61, op := Go.Op.call { callee := Go.Callee.builtin Go.Builtin.append, args := #[Go.Operand.tmp 58, Go.Operand.tmp 60], argTypes := #[22, 22] }, type := 22, pos := _, after := #[{ on := 0, ground := Go.Ground.data }, { on := 2, ground := Go.Ground.data }, { on := 2, ground := Go.Ground.chain }], guard := none }) rfl (fun K hK => ?_) ?_
      · skip
        refine step_append_sep rfl _ _ rfl (w.heap.size + 1) al5 2 2 [27, 91] rfl o1.out ra1 (asInts T).length rc1 (asInts T) rfl r1.out (by have h1 := HTL.out; simp <;> omega) e1.le ?_
        intro al2 n2 cl2 v2 hn2 ho2 hB2 hS2
        have e2 := e1.app hB2
        have o2 := Hid.mk' ho2
        clear ho2 hn2 hB2 hS2
        refine hK.out _ _ e2 (fun hHeld => ?_)
        clear hK K
        (try simp only [Act.put]); (try simp only [List.setIfInBounds_toArray]); (try simp only [List.set_cons_succ]); (try simp only [List.set_cons_zero])
        refine wpAnyH_ready (rs := [6, 10]) (by kernel_rfl) (by simp) ?_
        refine AllReadyH.cons (o := { dst := some 64, op := Go.Op.call { callee := Go.Callee.value (Go.Operand.func 10), args := #[Go.Operand.tmp 63], argTypes := #[9] }, type := 22, pos := _, after := #[{ on := 5, ground := Go.Ground.data }, { on := 3, ground := Go.Ground.chain }], guard := none }) rfl (fun K hK => ?_) ?_
        · skip
          go_simp
          refine (HAR.out v2).mono ?_
          rintro e v3 ⟨rv3, rfl, ho3, hb3⟩
          obtain ⟨ra3, rc3, re3⟩ := OwnI.form ho3
          subst re3
          have e3 := e2.later hb3
          have r3 := Hid.mk' (RdI.own ho3)
          have o3 := Hid.mk' (o2.out.below hb3)
          clear ho3 hb3
          refine hK.out _ _ e3 (fun hHeld => ?_)
          clear hK K
          (try simp only [Act.put]); (try simp only [List.setIfInBounds_toArray]); (try simp only [List.set_cons_succ]); (try simp only [List.set_cons_zero])
          refine wpAnyH_ready (rs := [7, 10]) (by kernel_rfl) (by simp) ?_
          refine AllReadyH.cons (o := { dst := some 65, op := Go.Op.call { callee := Go.Callee.builtin Go.Builtin.append, args := #[Go.Operand.tmp 61, Go.Operand.tmp 64], argTypes := #[22, 22] }, type := 22, pos := _, after := #[{ on := 3, ground := Go.Ground.data }, { on := 6, ground := Go.Ground.data }, { on := 6, ground := Go.Ground.chain }], guard := none }) rfl (fun K hK => ?_) ?_
          · skip
            refine step_append_sep rfl _ _ rfl (w.heap.size + 1) al2 n2 cl2 ([27, 91] ++ (asInts T)) rfl o3.out ra3 (asInts y.inter).length rc3 (asInts y.inter) rfl r3.out (by have h1 := HTL.out; simp <;> omega) e3.le ?_
            intro al4 n4 cl4 v4 hn4 ho4 hB4 hS4
            have e4 := e3.app hB4
            have o4 := Hid.mk' ho4
            clear ho4 hn4 hB4 hS4
            refine hK.out _ _ e4 (fun hHeld => ?_)
            clear hK K
            (try simp only [Act.put]); (try simp only [List.setIfInBounds_toArray]); (try simp only [List.set_cons_succ]); (try simp only [List.set_cons_zero])
            refine wpAnyH_ready (rs := [10]) (by kernel_rfl) (by simp) ?_
            refine AllReadyH.cons (o := { dst := some 68, op := Go.Op.buildSlice 22 1 #[(0, Go.Operand.tmp 67)], type := 22, pos := _, after := #[{ on := 9, ground := Go.Ground.data }], guard := none }) rfl (fun K hK => ?_) ?_
            · skip
              go_simp
              have e5 := e4.alloc (.cells #[.int .i64 y.code] 3)
              have k5 := Hid.mk' (Box.new v4 3 [.int .i64 y.code])
              have o5 := Hid.mk' (o4.out.below ((Below.refl _ _).alloc (Nat.le_refl _) (.cells #[.int .i64 y.code] 3)))
              have s5 := Hid.mk' (own_box o4.out)
              change Hid (Box (v4.alloc (.cells #[.int .i64 y.code] 3)) v4.heap.size 3 [.int .i64 y.code]) at k5
              generalize v4.alloc (.cells #[.int .i64 y.code] 3) = v5 at *
              generalize v4.heap.size = b5 at *
              refine hK.out _ _ e5 (fun hHeld => ?_)
              clear hK K
              (try simp only [Act.put]); (try simp only [List.setIfInBounds_toArray]); (try simp only [List.set_cons_succ]); (try simp only [List.set_cons_zero])
              refine wpAnyH_ready (rs := [11]) (by kernel_rfl) (by simp) ?_
              refine AllReadyH.cons (o := { dst := some 69, op := Go.Op.call { callee := Go.Callee.builtin Go.Builtin.append, args := #[Go.Operand.tmp 65, Go.Operand.tmp 68], argTypes := #[22, 22] }, type := 22, pos := _, after := #[{ on := 7, ground := Go.Ground.data }, { on := 10, ground := Go.Ground.data }, { on := 7, ground := Go.Ground.chain }], guard := none }) rfl (fun K hK => ?_) ?_
              · skip
                refine step_append_sep rfl _ _ rfl (w.heap.size + 1) al4 n4 cl4 (([27, 91] ++ (asInts T)) ++ (asInts y.inter)) rfl o5.out (some ⟨b5, 0, none⟩) 1 1 [y.code] rfl (rd_one k5.out) (by have h1 := HTL.out; simp <;> omega) e5.le ?_
                intro al6 n6 cl6 v6 hn6 ho6 hB6 hS6
                have e6 := e5.app hB6
                have o6 := Hid.mk' ho6
                clear ho6 hn6 hB6 hS6
                refine hK.out _ _ e6 (fun hHeld => ?_)
                clear hK K
                (try simp only [Act.put]); (try simp only [List.setIfInBounds_toArray]); (try simp only [List.set_cons_succ]); (try simp only [List.set_cons_zero])
                refine wpAnyH_take (i := 12) (oi := { dst := some 4, op := Go.Op.assign (Go.Operand.tmp 69), type := 22, pos := _, after := #[{ on := 11, ground := Go.Ground.data }, { on := 11, ground := Go.Ground.chain }, { on := 0, ground := Go.Ground.phase }, { on := 1, ground := Go.Ground.phase }, { on := 2, ground := Go.Ground.phase }, { on := 3, ground := Go.Ground.phase }, { on := 4, ground := Go.Ground.phase }, { on := 5, ground := Go.Ground.phase }, { on := 6, ground := Go.Ground.phase }, { on := 7, ground := Go.Ground.phase }, { on := 8, ground := Go.Ground.phase }, { on := 9, ground := Go.Ground.phase }, { on := 10, ground := Go.Ground.phase }, { on := 11, ground := Go.Ground.phase }], guard := none }) (v := .slice al6 n6 cl6) rfl (by kernel_rfl) (by kernel_rfl) (by kernel_rfl) (fun _ _ _ h => h) (Or.inl ⟨by rfl, fun w' hSw => ?_⟩) (by assumption) ?_
                · (try dsimp only at hSw); go_simp
                (try simp only [Act.put]); (try simp only [List.setIfInBounds_toArray]); (try simp only [List.set_cons_succ]); (try simp only [List.set_cons_zero])
                refine wpAnyH_done (by kernel_rfl) ?_ _
                refine NoPanic.normal ?_
                have HV9 : Hid (RdI v6 (.slice al6 n6 cl6) L) := by
                  rw [HLE.out]
                  exact RdI.own o6.out
                have HX9 := Hid.mk' e6
                clear e6
                go_wp2_with fail
                go_meet
                exact ⟨HV9, HX9⟩
              exact AllReadyH.nil
            exact AllReadyH.nil
          refine AllReadyH.cons (o := { dst := some 68, op := Go.Op.buildSlice 22 1 #[(0, Go.Operand.tmp 67)], type := 22, pos := _, after := #[{ on := 9, ground := Go.Ground.data }], guard := none }) rfl (fun K hK => ?_) ?_
          · skip
            go_simp
            have e7 := e3.alloc (.cells #[.int .i64 y.code] 3)
            have k7 := Hid.mk' (Box.new v3 3 [.int .i64 y.code])
            have r7 := Hid.mk' (r3.out.below ((Below.refl _ _).alloc (Nat.le_refl _) (.cells #[.int .i64 y.code] 3)))
            have o7 := Hid.mk' (o3.out.below ((Below.refl _ _).alloc (Nat.le_refl _) (.cells #[.int .i64 y.code] 3)))
            have s7 := Hid.mk' (own_box o3.out)
            change Hid (Box (v3.alloc (.cells #[.int .i64 y.code] 3)) v3.heap.size 3 [.int .i64 y.code]) at k7
            generalize v3.alloc (.cells #[.int .i64 y.code] 3) = v7 at *
            generalize v3.heap.size = b7 at *
            refine hK.out _ _ e7 (fun hHeld => ?_)
            clear hK K
            (try simp only [Act.put]); (try simp only [List.setIfInBounds_toArray]); (try simp only [List.set_cons_succ]); (try simp only [List.set_cons_zero])
            refine wpAnyH_ready (rs := [7]) (by kernel_rfl) (by simp) ?_
            refine AllReadyH.cons (o := { dst := some 65, op := Go.Op.call { callee := Go.Callee.builtin Go.Builtin.append, args := #[Go.Operand.tmp 61, Go.Operand.tmp 64], argTypes := #[22, 22] }, type := 22, pos := _, after := #[{ on := 3, ground := Go.Ground.data }, { on := 6, ground := Go.Ground.data }, { on := 6, ground := Go.Ground.chain }], guard := none }) rfl (fun K hK => ?_) ?_
            · skip
              refine step_append_sep rfl _ _ rfl (w.heap.size + 1) al2 n2 cl2 ([27, 91] ++ (asInts T)) rfl o7.out ra3 (asInts y.inter).length rc3 (asInts y.inter) rfl r7.out (by have h1 := HTL.out; simp <;> omega) e7.le ?_
              intro al8 n8 cl8 v8 hn8 ho8 hB8 hS8
              have e8 := e7.app hB8
              have o8 := Hid.mk' ho8
              have k8 := Hid.mk' (hS8 _ _ _ k7.out s7.out).1
              have s8 := Hid.mk' (hS8 _ _ _ k7.out s7.out).2
              clear ho8 hn8 hB8 hS8
              refine hK.out _ _ e8 (fun hHeld => ?_)
              clear hK K
              (try simp only [Act.put]); (try simp only [List.setIfInBounds_toArray]); (try simp only [List.set_cons_succ]); (try simp only [List.set_cons_zero])
              refine wpAnyH_ready (rs := [11]) (by kernel_rfl) (by simp) ?_
              refine AllReadyH.cons (o := { dst := some 69, op := Go.Op.call { callee := Go.Callee.builtin Go.Builtin.append, args := #[Go.Operand.tmp 65, Go.Operand.tmp 68], argTypes := #[22, 22] }, type := 22, pos := _, after := #[{ on := 7, ground := Go.Ground.data }, { on := 10, ground := Go.Ground.data }, { on := 7, ground := Go.Ground.chain }], guard := none }) rfl (fun K hK => ?_) ?_
              · skip
                refine step_append_sep rfl _ _ rfl (w.heap.size + 1) al8 n8 cl8 (([27, 91] ++ (asInts T)) ++ (asInts y.inter)) rfl o8.out (some ⟨b7, 0, none⟩) 1 1 [y.code] rfl (rd_one k8.out) (by have h1 := HTL.out; simp <;> omega) e8.le ?_
                intro al9 n9 cl9 v9 hn9 ho9 hB9 hS9
                have e9 := e8.app hB9
                have o9 := Hid.mk' ho9
                clear ho9 hn9 hB9 hS9
                refine hK.out _ _ e9 (fun hHeld => ?_)
                clear hK K
                (try simp only [Act.put]); (try simp only [List.setIfInBounds_toArray]); (try simp only [List.set_cons_succ]); (try simp only [List.set_cons_zero])
                refine wpAnyH_take (i := 12) (oi := { dst := some 4, op := Go.Op.assign (Go.Operand.tmp 69), type := 22, pos := _, after := #[{ on := 11, ground := Go.Ground.data }, { on := 11, ground := Go.Ground.chain }, { on := 0, ground := Go.Ground.phase }, { on := 1, ground := Go.Ground.phase }, { on := 2, ground := Go.Ground.phase }, { on := 3, ground := Go.Ground.phase }, { on := 4, ground := Go.Ground.phase }, { on := 5, ground := Go.Ground.phase }, { on := 6, ground := Go.Ground.phase }, { on := 7, ground := Go.Ground.phase }, { on := 8, ground := Go.Ground.phase }, { on := 9, ground := Go.Ground.phase }, { on := 10, ground := Go.Ground.phase }, { on := 11, ground := Go.Ground.phase }], guard := none }) (v := .slice al9 n9 cl9) rfl (by kernel_rfl) (by kernel_rfl) (by kernel_rfl) (fun _ _ _ h => h) (Or.inl ⟨by rfl, fun w' hSw => ?_⟩) (by assumption) ?_
                · (try dsimp only at hSw); go_simp
                (try simp only [Act.put]); (try simp only [List.setIfInBounds_toArray]); (try simp only [List.set_cons_succ]); (try simp only [List.set_cons_zero])
                refine wpAnyH_done (by kernel_rfl) ?_ _
                refine NoPanic.normal ?_
                have HV9 : Hid (RdI v9 (.slice al9 n9 cl9) L) := by
                  rw [HLE.out]
                  exact RdI.own o9.out
                have HX9 := Hid.mk' e9
                clear e9
                go_wp2_with fail
                go_meet
                exact ⟨HV9, HX9⟩
              exact AllReadyH.nil
            exact AllReadyH.nil
          exact AllReadyH.nil
        refine AllReadyH.cons (o := { dst := some 68, op := Go.Op.buildSlice 22 1 #[(0, Go.Operand.tmp 67)], type := 22, pos := _, after := #[{ on := 9, ground := Go.Ground.data }], guard := none }) rfl (fun K hK => ?_) ?_
        · skip
          go_simp
          have e10 := e2.alloc (.cells #[.int .i64 y.code] 3)
          have k10 := Hid.mk' (Box.new v2 3 [.int .i64 y.code])
          have o10 := Hid.mk' (o2.out.below ((Below.refl _ _).alloc (Nat.le_refl _) (.cells #[.int .i64 y.code] 3)))
          have s10 := Hid.mk' (own_box o2.out)
          change Hid (Box (v2.alloc (.cells #[.int .i64 y.code] 3)) v2.heap.size 3 [.int .i64 y.code]) at k10
          generalize v2.alloc (.cells #[.int .i64 y.code] 3) = v10 at *
          generalize v2.heap.size = b10 at *
          refine hK.out _ _ e10 (fun hHeld => ?_)
          clear hK K
          (try simp only [Act.put]); (try simp only [List.setIfInBounds_toArray]); (try simp only [List.set_cons_succ]); (try simp only [List.set_cons_zero])
          refine wpAnyH_ready (rs := [6]) (by kernel_rfl) (by simp) ?_
          refine AllReadyH.cons (o := { dst := some 64, op := Go.Op.call { callee := Go.Callee.value (Go.Operand.func 10), args := #[Go.Operand.tmp 63], argTypes := #[9] }, type := 22, pos := _, after := #[{ on := 5, ground := Go.Ground.data }, { on := 3, ground := Go.Ground.chain }], guard := none }) rfl (fun K hK => ?_) ?_
          · skip
            go_simp
            refine (HAR.out v10).mono ?_
            rintro e v11 ⟨rv11, rfl, ho11, hb11⟩
            obtain ⟨ra11, rc11, re11⟩ := OwnI.form ho11
            subst re11
            have e11 := e10.later hb11
            have r11 := Hid.mk' (RdI.own ho11)
            have o11 := Hid.mk' (o10.out.below hb11)
            have k11 := Hid.mk' (k10.out.later hb11)
            clear ho11 hb11
            refine hK.out _ _ e11 (fun hHeld => ?_)
            clear hK K
            (try simp only [Act.put]); (try simp only [List.setIfInBounds_toArray]); (try simp only [List.set_cons_succ]); (try simp only [List.set_cons_zero])
            refine wpAnyH_ready (rs := [7]) (by kernel_rfl) (by simp) ?_
            refine AllReadyH.cons (o := { dst := some 65, op := Go.Op.call { callee := Go.Callee.builtin Go.Builtin.append, args := #[Go.Operand.tmp 61, Go.Operand.tmp 64], argTypes := #[22, 22] }, type := 22, pos := _, after := #[{ on := 3, ground := Go.Ground.data }, { on := 6, ground := Go.Ground.data }, { on := 6, ground := Go.Ground.chain }], guard := none }) rfl (fun K hK => ?_) ?_
            · skip
              refine step_append_sep rfl _ _ rfl (w.heap.size + 1) al2 n2 cl2 ([27, 91] ++ (asInts T)) rfl o11.out ra11 (asInts y.inter).length rc11 (asInts y.inter) rfl r11.out (by have h1 := HTL.out; simp <;> omega) e11.le ?_
              intro al12 n12 cl12 v12 hn12 ho12 hB12 hS12
              have e12 := e11.app hB12
              have o12 := Hid.mk' ho12
              have k12 := Hid.mk' (hS12 _ _ _ k11.out s10.out).1
              have s12 := Hid.mk' (hS12 _ _ _ k11.out s10.out).2
              clear ho12 hn12 hB12 hS12
              refine hK.out _ _ e12 (fun hHeld => ?_)
              clear hK K
              (try simp only [Act.put]); (try simp only [List.setIfInBounds_toArray]); (try simp only [List.set_cons_succ]); (try simp only [List.set_cons_zero])
              refine wpAnyH_ready (rs := [11]) (by kernel_rfl) (by simp) ?_
              refine AllReadyH.cons (o := { dst := some 69, op := Go.Op.call { callee := Go.Callee.builtin Go.Builtin.append, args := #[Go.Operand.tmp 65, Go.Operand.tmp 68], argTypes := #[22, 22] }, type := 22, pos := _, after := #[{ on := 7, ground := Go.Ground.data }, { on := 10, ground := Go.Ground.data }, { on := 7, ground := Go.Ground.chain }], guard := none }) rfl (fun K hK => ?_) ?_
              · skip
                refine step_append_sep rfl _ _ rfl (w.heap.size + 1) al12 n12 cl12 (([27, 91] ++ (asInts T)) ++ (asInts y.inter)) rfl o12.out (some ⟨b10, 0, none⟩) 1 1 [y.code] rfl (rd_one k12.out) (by have h1 := HTL.out; simp <;> omega) e12.le ?_
                intro al13 n13 cl13 v13 hn13 ho13 hB13 hS13
                have e13 := e12.app hB13
                have o13 := Hid.mk' ho13
                clear ho13 hn13 hB13 hS13
                refine hK.out _ _ e13 (fun hHeld => ?_)
                clear hK K
                (try simp only [Act.put]); (try simp only [List.setIfInBounds_toArray]); (try simp only [List.set_cons_succ]); (try simp only [List.set_cons_zero])
                refine wpAnyH_take (i := 12) (oi := { dst := some 4, op := Go.Op.assign (Go.Operand.tmp 69), type := 22, pos := _, after := #[{ on := 11, ground := Go.Ground.data }, { on := 11, ground := Go.Ground.chain }, { on := 0, ground := Go.Ground.phase }, { on := 1, ground := Go.Ground.phase }, { on := 2, ground := Go.Ground.phase }, { on := 3, ground := Go.Ground.phase }, { on := 4, ground := Go.Ground.phase }, { on := 5, ground := Go.Ground.phase }, { on := 6, ground := Go.Ground.phase }, { on := 7, ground := Go.Ground.phase }, { on := 8, ground := Go.Ground.phase }, { on := 9, ground := Go.Ground.phase }, { on := 10, ground := Go.Ground.phase }, { on := 11, ground := Go.Ground.phase }], guard := none }) (v := .slice al13 n13 cl13) rfl (by kernel_rfl) (by kernel_rfl) (by kernel_rfl) (fun _ _ _ h => h) (Or.inl ⟨by rfl, fun w' hSw => ?_⟩) (by assumption) ?_
                · (try dsimp only at hSw); go_simp
                (try simp only [Act.put]); (try simp only [List.setIfInBounds_toArray]); (try simp only [List.set_cons_succ]); (try simp only [List.set_cons_zero])
                refine wpAnyH_done (by kernel_rfl) ?_ _
                refine NoPanic.normal ?_
                have HV9 : Hid (RdI v13 (.slice al13 n13 cl13) L) := by
                  rw [HLE.out]
                  exact RdI.own o13.out
                have HX9 := Hid.mk' e13
                clear e13
                go_wp2_with fail
                go_meet
                exact ⟨HV9, HX9⟩
              exact AllReadyH.nil
            exact AllReadyH.nil
          exact AllReadyH.nil
        exact AllReadyH.nil
      refine AllReadyH.cons (o := { dst := some 68, op := Go.Op.buildSlice 22 1 #[(0, Go.Operand.tmp 67)], type := 22, pos := _, after := #[{ on := 9, ground := Go.Ground.data }], guard := none }) rfl (fun K hK => ?_) ?_
      · skip
        go_simp
        have e14 := e1.alloc (.cells #[.int .i64 y.code] 3)
        have k14 := Hid.mk' (Box.new v1 3 [.int .i64 y.code])
        have r14 := Hid.mk' (r1.out.below ((Below.refl _ _).alloc (Nat.le_refl _) (.cells #[.int .i64 y.code] 3)))
        have o14 := Hid.mk' (o1.out.below ((Below.refl _ _).alloc (Nat.le_refl _) (.cells #[.int .i64 y.code] 3)))
        have s14 := Hid.mk' (own_box o1.out)
        change Hid (Box (v1.alloc (.cells #[.int .i64 y.code] 3)) v1.heap.size 3 [.int .i64 y.code]) at k14
        generalize v1.alloc (.cells #[.int .i64 y.code] 3) = v14 at *
        generalize v1.heap.size = b14 at *
        refine hK.out _ _ e14 (fun hHeld => ?_)
        clear hK K
        (try simp only [Act.put]); (try simp only [List.setIfInBounds_toArray]); (try simp only [List.set_cons_succ]); (try simp only [List.set_cons_zero])
        refine wpAnyH_ready (rs := [3]) (by kernel_rfl) (by simp) ?_
        refine AllReadyH.cons (o := { dst := some 61, op := Go.Op.call { callee := Go.Callee.builtin Go.Builtin.append, args := #[Go.Operand.tmp 58, Go.Operand.tmp 60], argTypes := #[22, 22] }, type := 22, pos := _, after := #[{ on := 0, ground := Go.Ground.data }, { on := 2, ground := Go.Ground.data }, { on := 2, ground := Go.Ground.chain }], guard := none }) rfl (fun K hK => ?_) ?_
        · skip
          refine step_append_sep rfl _ _ rfl (w.heap.size + 1) al5 2 2 [27, 91] rfl o14.out ra1 (asInts T).length rc1 (asInts T) rfl r14.out (by have h1 := HTL.out; simp <;> omega) e14.le ?_
          intro al15 n15 cl15 v15 hn15 ho15 hB15 hS15
          have e15 := e14.app hB15
          have o15 := Hid.mk' ho15
          have k15 := Hid.mk' (hS15 _ _ _ k14.out s14.out).1
          have s15 := Hid.mk' (hS15 _ _ _ k14.out s14.out).2
          clear ho15 hn15 hB15 hS15
          refine hK.out _ _ e15 (fun hHeld => ?_)
          clear hK K
          (try simp only [Act.put]); (try simp only [List.setIfInBounds_toArray]); (try simp only [List.set_cons_succ]); (try simp only [List.set_cons_zero])
          refine wpAnyH_ready (rs := [6]) (by kernel_rfl) (by simp) ?_
          refine AllReadyH.cons (o := { dst := some 64, op := Go.Op.call { callee := Go.Callee.value (Go.Operand.func 10), args := #[Go.Operand.tmp 63], argTypes := #[9] }, type := 22, pos := _, after := #[{ on := 5, ground := Go.Ground.data }, { on := 3, ground := Go.Ground.chain }], guard := none }) rfl (fun K hK => ?_) ?_
          · skip
            go_simp
            refine (HAR.out v15).mono ?_
            rintro e v16 ⟨rv16, rfl, ho16, hb16⟩
            obtain ⟨ra16, rc16, re16⟩ := OwnI.form ho16
            subst re16
            have e16 := e15.later hb16
            have r16 := Hid.mk' (RdI.own ho16)
            have o16 := Hid.mk' (o15.out.below hb16)
            have k16 := Hid.mk' (k15.out.later hb16)
            clear ho16 hb16
            refine hK.out _ _ e16 (fun hHeld => ?_)
            clear hK K
            (try simp only [Act.put]); (try simp only [List.setIfInBounds_toArray]); (try simp only [List.set_cons_succ]); (try simp only [List.set_cons_zero])
            refine wpAnyH_ready (rs := [7]) (by kernel_rfl) (by simp) ?_
            refine AllReadyH.cons (o := { dst := some 65, op := Go.Op.call { callee := Go.Callee.builtin Go.Builtin.append, args := #[Go.Operand.tmp 61, Go.Operand.tmp 64], argTypes := #[22, 22] }, type := 22, pos := _, after := #[{ on := 3, ground := Go.Ground.data }, { on := 6, ground := Go.Ground.data }, { on := 6, ground := Go.Ground.chain }], guard := none }) rfl (fun K hK => ?_) ?_
            · skip
              refine step_append_sep rfl _ _ rfl (w.heap.size + 1) al15 n15 cl15 ([27, 91] ++ (asInts T)) rfl o16.out ra16 (asInts y.inter).length rc16 (asInts y.inter) rfl r16.out (by have h1 := HTL.out; simp <;> omega) e16.le ?_
              intro al17 n17 cl17 v17 hn17 ho17 hB17 hS17
              have e17 := e16.app hB17
              have o17 := Hid.mk' ho17
              have k17 := Hid.mk' (hS17 _ _ _ k16.out s15.out).1
              have s17 := Hid.mk' (hS17 _ _ _ k16.out s15.out).2
              clear ho17 hn17 hB17 hS17
              refine hK.out _ _ e17 (fun hHeld => ?_)
              clear hK K
              (try simp only [Act.put]); (try simp only [List.setIfInBounds_toArray]); (try simp only [List.set_cons_succ]); (try simp only [List.set_cons_zero])
              refine wpAnyH_ready (rs := [11]) (by kernel_rfl) (by simp) ?_
              refine AllReadyH.cons (o := { dst := some 69, op := Go.Op.call { callee := Go.Callee.builtin Go.Builtin.append, args := #[Go.Operand.tmp 65, Go.Operand.tmp 68], argTypes := #[22, 22] }, type := 22, pos := _, after := #[{ on := 7, ground := Go.Ground.data }, { on := 10, ground := Go.Ground.data }, { on := 7, ground := Go.Ground.chain }], guard := none }) rfl (fun K hK => ?_) ?_
              · skip
                refine step_append_sep rfl _ _ rfl (w.heap.size + 1) al17 n17 cl17 (([27, 91] ++ (asInts T)) ++ (asInts y.inter)) rfl o17.out (some ⟨b14, 0, none⟩) 1 1 [y.code] rfl (rd_one k17.out) (by have h1 := HTL.out; simp <;> omega) e17.le ?_
                intro al18 n18 cl18 v18 hn18 ho18 hB18 hS18
                have e18 := e17.app hB18
                have o18 := Hid.mk' ho18
                clear ho18 hn18 hB18 hS18
                refine hK.out _ _ e18 (fun hHeld => ?_)
                clear hK K
                (try simp only [Act.put]); (try simp only [List.setIfInBounds_toArray]); (try simp only [List.set_cons_succ]); (try simp only [List.set_cons_zero])
                refine wpAnyH_take (i := 12) (oi := { dst := some 4, op := Go.Op.assign (Go.Operand.tmp 69), type := 22, pos := _, after := #[{ on := 11, ground := Go.Ground.data }, { on := 11, ground := Go.Ground.chain }, { on := 0, ground := Go.Ground.phase }, { on := 1, ground := Go.Ground.phase }, { on := 2, ground := Go.Ground.phase }, { on := 3, ground := Go.Ground.phase }, { on := 4, ground := Go.Ground.phase }, { on := 5, ground := Go.Ground.phase }, { on := 6, ground := Go.Ground.phase }, { on := 7, ground := Go.Ground.phase }, { on := 8, ground := Go.Ground.phase }, { on := 9, ground := Go.Ground.phase }, { on := 10, ground := Go.Ground.phase }, { on := 11, ground := Go.Ground.phase }], guard := none }) (v := .slice al18 n18 cl18) rfl (by kernel_rfl) (by kernel_rfl) (by kernel_rfl) (fun _ _ _ h => h) (Or.inl ⟨by rfl, fun w' hSw => ?_⟩) (by assumption) ?_
                · (try dsimp only at hSw); go_simp
                (try simp only [Act.put]); (try simp only [List.setIfInBounds_toArray]); (try simp only [List.set_cons_succ]); (try simp only [List.set_cons_zero])
                refine wpAnyH_done (by kernel_rfl) ?_ _
                refine NoPanic.normal ?_
                have HV9 : Hid (RdI v18 (.slice al18 n18 cl18) L) := by
                  rw [HLE.out]
                  exact RdI.own o18.out
                have HX9 := Hid.mk' e18
                clear e18
                go_wp2_with fail
                go_meet
                exact ⟨HV9, HX9⟩
              exact AllReadyH.nil
            exact AllReadyH.nil
          exact AllReadyH.nil
        exact AllReadyH.nil
      exact AllReadyH.nil
    refine AllReadyH.cons (o := { dst := some 68, op := Go.Op.buildSlice 22 1 #[(0, Go.Operand.tmp 67)], type := 22, pos := _, after := #[{ on := 9, ground := Go.Ground.data }], guard := none }) rfl (fun K hK => ?_) ?_
    · skip
      go_simp
      have e19 := hE.alloc (.cells #[.int .i64 y.code] 3)
      have k19 := Hid.mk' (Box.new wd 3 [.int .i64 y.code])
      have o19 := Hid.mk' (o0.out.below ((Below.refl _ _).alloc (Nat.le_refl _) (.cells #[.int .i64 y.code] 3)))
      have s19 := Hid.mk' (own_box o0.out)
      change Hid (Box (wd.alloc (.cells #[.int .i64 y.code] 3)) wd.heap.size 3 [.int .i64 y.code]) at k19
      generalize wd.alloc (.cells #[.int .i64 y.code] 3) = v19 at *
      generalize wd.heap.size = b19 at *
      refine hK.out _ _ e19 (fun hHeld => ?_)
      clear hK K
      (try simp only [Act.put]); (try simp only [List.setIfInBounds_toArray]); (try simp only [List.set_cons_succ]); (try simp only [List.set_cons_zero])
      refine wpAnyH_ready (rs := [2]) (by kernel_rfl) (by simp) ?_
      refine AllReadyH.cons (o := { dst := some 60, op := Go.Op.call { callee := Go.Callee.value (Go.Operand.func 10), args := #[Go.Operand.tmp 59], argTypes := #[9] }, type := 22, pos := _, after := #[{ on := 1, ground := Go.Ground.data }], guard := none }) rfl (fun K hK => ?_) ?_
      · skip
        go_simp
        refine (HAS.out v19).mono ?_
        rintro e v20 ⟨rv20, rfl, ho20, hb20⟩
        obtain ⟨ra20, rc20, re20⟩ := OwnI.form ho20
        subst re20
        have e20 := e19.later hb20
        have r20 := Hid.mk' (RdI.own ho20)
        have o20 := Hid.mk' (o19.out.below hb20)
        have k20 := Hid.mk' (k19.out.later hb20)
        clear ho20 hb20
        refine hK.out _ _ e20 (fun hHeld => ?_)
        clear hK K
        (try simp only [Act.put]); (try simp only [List.setIfInBounds_toArray]); (try simp only [List.set_cons_succ]); (try simp only [List.set_cons_zero])
        refine wpAnyH_ready (rs := [3]) (by kernel_rfl) (by simp) ?_
        refine AllReadyH.cons (o := { dst := some 61, op := Go.Op.call { callee := Go.Callee.builtin Go.Builtin.append, args := #[Go.Operand.tmp 58, Go.Operand.tmp 60], argTypes := #[22, 22] }, type := 22, pos := _, after := #[{ on := 0, ground := Go.Ground.data }, { on := 2, ground := Go.Ground.data }, { on := 2, ground := Go.Ground.chain }], guard := none }) rfl (fun K hK => ?_) ?_
        · skip
          refine step_append_sep rfl _ _ rfl (w.heap.size + 1) al5 2 2 [27, 91] rfl o20.out ra20 (asInts T).length rc20 (asInts T) rfl r20.out (by have h1 := HTL.out; simp <;> omega) e20.le ?_
          intro al21 n21 cl21 v21 hn21 ho21 hB21 hS21
          have e21 := e20.app hB21
          have o21 := Hid.mk' ho21
          have k21 := Hid.mk' (hS21 _ _ _ k20.out s19.out).1
          have s21 := Hid.mk' (hS21 _ _ _ k20.out s19.out).2
          clear ho21 hn21 hB21 hS21
          refine hK.out _ _ e21 (fun hHeld => ?_)
          clear hK K
          (try simp only [Act.put]); (try simp only [List.setIfInBounds_toArray]); (try simp only [List.set_cons_succ]); (try simp only [List.set_cons_zero])
          refine wpAnyH_ready (rs := [6]) (by kernel_rfl) (by simp) ?_
          refine AllReadyH.cons (o := { dst := some 64, op := Go.Op.call { callee := Go.Callee.value (Go.Operand.func 10), args := #[Go.Operand.tmp 63], argTypes := #[9] }, type := 22, pos := _, after := #[{ on := 5, ground := Go.Ground.data }, { on := 3, ground := Go.Ground.chain }], guard := none }) rfl (fun K hK => ?_) ?_
          · skip
            go_simp
            refine (HAR.out v21).mono ?_
            rintro e v22 ⟨rv22, rfl, ho22, hb22⟩
            obtain ⟨ra22, rc22, re22⟩ := OwnI.form ho22
            subst re22
            have e22 := e21.later hb22
            have r22 := Hid.mk' (RdI.own ho22)
            have o22 := Hid.mk' (o21.out.below hb22)
            have k22 := Hid.mk' (k21.out.later hb22)
            clear ho22 hb22
            refine hK.out _ _ e22 (fun hHeld => ?_)
            clear hK K
            (try simp only [Act.put]); (try simp only [List.setIfInBounds_toArray]); (try simp only [List.set_cons_succ]); (try simp only [List.set_cons_zero])
            refine wpAnyH_ready (rs := [7]) (by kernel_rfl) (by simp) ?_
            refine AllReadyH.cons (o := { dst := some 65, op := Go.Op.call { callee := Go.Callee.builtin Go.Builtin.append, args := #[Go.Operand.tmp 61, Go.Operand.tmp 64], argTypes := #[22, 22] }, type := 22, pos := _, after := #[{ on := 3, ground := Go.Ground.data }, { on := 6, ground := Go.Ground.data }, { on := 6, ground := Go.Ground.chain }], guard := none }) rfl (fun K hK => ?_) ?_
            · skip
              refine step_append_sep rfl _ _ rfl (w.heap.size + 1) al21 n21 cl21 ([27, 91] ++ (asInts T)) rfl o22.out ra22 (asInts y.inter).length rc22 (asInts y.inter) rfl r22.out (by have h1 := HTL.out; simp <;> omega) e22.le ?_
              intro al23 n23 cl23 v23 hn23 ho23 hB23 hS23
              have e23 := e22.app hB23
              have o23 := Hid.mk' ho23
              have k23 := Hid.mk' (hS23 _ _ _ k22.out s21.out).1
              have s23 := Hid.mk' (hS23 _ _ _ k22.out s21.out).2
              clear ho23 hn23 hB23 hS23
              refine hK.out _ _ e23 (fun hHeld => ?_)
              clear hK K
              (try simp only [Act.put]); (try simp only [List.setIfInBounds_toArray]); (try simp only [List.set_cons_succ]); (try simp only [List.set_cons_zero])
              refine wpAnyH_ready (rs := [11]) (by kernel_rfl) (by simp) ?_
              refine AllReadyH.cons (o := { dst := some 69, op := Go.Op.call { callee := Go.Callee.builtin Go.Builtin.append, args := #[Go.Operand.tmp 65, Go.Operand.tmp 68], argTypes := #[22, 22] }, type := 22, pos := _, after := #[{ on := 7, ground := Go.Ground.data }, { on := 10, ground := Go.Ground.data }, { on := 7, ground := Go.Ground.chain }], guard := none }) rfl (fun K hK => ?_) ?_
              · skip
                refine step_append_sep rfl _ _ rfl (w.heap.size + 1) al23 n23 cl23 (([27, 91] ++ (asInts T)) ++ (asInts y.inter)) rfl o23.out (some ⟨b19, 0, none⟩) 1 1 [y.code] rfl (rd_one k23.out) (by have h1 := HTL.out; simp <;> omega) e23.le ?_
                intro al24 n24 cl24 v24 hn24 ho24 hB24 hS24
                have e24 := e23.app hB24
                have o24 := Hid.mk' ho24
                clear ho24 hn24 hB24 hS24
                refine hK.out _ _ e24 (fun hHeld => ?_)
                clear hK K
                (try simp only [Act.put]); (try simp only [List.setIfInBounds_toArray]); (try simp only [List.set_cons_succ]); (try simp only [List.set_cons_zero])
                refine wpAnyH_take (i := 12) (oi := { dst := some 4, op := Go.Op.assign (Go.Operand.tmp 69), type := 22, pos := _, after := #[{ on := 11, ground := Go.Ground.data }, { on := 11, ground := Go.Ground.chain }, { on := 0, ground := Go.Ground.phase }, { on := 1, ground := Go.Ground.phase }, { on := 2, ground := Go.Ground.phase }, { on := 3, ground := Go.Ground.phase }, { on := 4, ground := Go.Ground.phase }, { on := 5, ground := Go.Ground.phase }, { on := 6, ground := Go.Ground.phase }, { on := 7, ground := Go.Ground.phase }, { on := 8, ground := Go.Ground.phase }, { on := 9, ground := Go.Ground.phase }, { on := 10, ground := Go.Ground.phase }, { on := 11, ground := Go.Ground.phase }], guard := none }) (v := .slice al24 n24 cl24) rfl (by kernel_rfl) (by kernel_rfl) (by kernel_rfl) (fun _ _ _ h => h) (Or.inl ⟨by rfl, fun w' hSw => ?_⟩) (by assumption) ?_
                · (try dsimp only at hSw); go_simp
                (try simp only [Act.put]); (try simp only [List.setIfInBounds_toArray]); (try simp only [List.set_cons_succ]); (try simp only [List.set_cons_zero])
                refine wpAnyH_done (by kernel_rfl) ?_ _
                refine NoPanic.normal ?_
                have HV9 : Hid (RdI v24 (.slice al24 n24 cl24) L) := by
                  rw [HLE.out]
                  exact RdI.own o24.out
                have HX9 := Hid.mk' e24
                clear e24
                go_wp2_with fail
                go_meet
                exact ⟨HV9, HX9⟩
              exact AllReadyH.nil
            exact AllReadyH.nil
          exact AllReadyH.nil
        exact AllReadyH.nil
      exact AllReadyH.nil
    exact AllReadyH.nil
  case rest =>
    obtain ⟨HV1, HX1⟩ := hcut
    clear c0 c1 c2 c3 c4 c5 HX0 HC HLE HAR HAS HTL
    go_wp2_with fail
    obtain ⟨al, cl, vle, _, _⟩ := id HV1.out
    subst vle
    refine (HP.out _ _ HX1.out.b HV1.out).mono ?_
    rintro e w2 ⟨v2, rfl, hra, hb2⟩
    have X2 := HX1.out.later hb2
    have R2 := HV1.out.below hb2
    have bq := Box.new w2 39 [.int .i64 0, .int .i64 0, .string ⟨#[]⟩, .string ⟨#[]⟩, .string ⟨#[]⟩]
    have hL6 : Lies (w2.alloc (.cells #[.int .i64 0, .int .i64 0, .string ⟨#[]⟩, .string ⟨#[]⟩, .string ⟨#[]⟩] 39)) (.pointer (some ⟨w2.heap.size, 0, none⟩)) 5 := bq.lies0 rfl
    have hHq : Holds (.agg #[.int .i64 (q.st : Int), .int .i64 q.mark, .string (bs q.inter), .string (bs q.args), .string (bs q.text)]) 5 := holds_p q
    have hP6 := bq.putAt [.int .i64 (q.st : Int), .int .i64 q.mark, .string (bs q.inter), .string (bs q.args), .string (bs q.text)] rfl
    have hA6 : Below w2.heap.size w2 (w2.alloc (.cells #[.int .i64 0, .int .i64 0, .string ⟨#[]⟩, .string ⟨#[]⟩, .string ⟨#[]⟩] 39)) := (Below.refl _ _).alloc (Nat.le_refl _) _
    have hB6 := hP6.below _ _ (Nat.le_refl _) hA6
    have HT := Hid.mk' (And.intro (show Rt w y (.slice ad y.args.length cp) w2.heap.size q _ from ⟨X2.later hB6, hP6.box⟩) (And.intro (R2.below hB6) (hra.below hB6)))
    obtain ⟨la, lcp, lxs, lve, hlc, lex, lr, lt⟩ := hra
    clear hb2 X2 R2 bq hP6 hA6 hB6 HX1 HV1 HP lex lr lt hlc
    subst lve
    generalize hna : acts.length = na at *
    have HNA := Hid.mk' hna
    clear hna
    have hnb : ((L.length : Int) == 0) = false := beq_false_of_ne (by omega)
    go_upto_region 23 with fail
    generalize Q.putAt (w2.alloc (.cells #[.int .i64 0, .int .i64 0, .string ⟨#[]⟩, .string ⟨#[]⟩, .string ⟨#[]⟩] 39)) (.pointer (some ⟨w2.heap.size, 0, none⟩)) (.agg #[.int .i64 (q.st : Int), .int .i64 q.mark, .string (bs q.inter), .string (bs q.args), .string (bs q.text)]) = w7 at *
    generalize w2.heap.size = b6 at *
    clear hL6 hHq
    have hE : Below w7.heap.size w7 w7.drew := (Below.refl _ _).drew
    by_cases hst : q.st = 0
    · obtain rfl := HQ.out hst
      by_cases hn1 : na = 1
      · subst hn1
        obtain ⟨x, rfl⟩ : ∃ x, acts = [x] := List.length_eq_one_iff.1 HNA.out
        obtain ⟨g, vx, rfl, hvx, hcx0, hg⟩ := rd_act HT.out.2.2
        have hcx := Hid.mk' hcx0
        have HVX := Hid.mk' hvx
        have HSX : Hid (∀ W, Below w7.heap.size w7 W → Calls Tryz.prog 14 #[.agg #[.int .i64 x.kind, .int .i64 x.code, .int .i64 x.mark, .string (bs x.inter), vx, .string (bs x.text)], .agg #[.int .i64 y.kind, .int .i64 y.code, .int .i64 y.mark, .string (bs y.inter), .slice ad y.args.length cp, .string (bs y.text)]] W fun e w' => e = .returned (.bool (sameA x y)) ∧ Below W.heap.size W w') := fun W hW => HSA.out x vx _ W (HVX.out.below hW) (HVY.out W (HT.out.1.r.b.trans (Below.mono hW HT.out.1.r.b.size))) (HSM.out x (by simp))
        have HSB : Hid (if sameA x y = true then x = y else x ≠ y) := by
          rw [Hid]
          split
          · rename_i h; exact (sameA_iff x y).1 h
          · rename_i h; exact fun h2 => h ((sameA_iff x y).2 h2)
        clear hcx0 hvx HSA HSM HVY HQ HNA
        generalize sameA x y = sb at *
        refine wp_region_noPanic ?_
        refine wp_region_held_drew (S := fun w' => Below w7.heap.size w7 w') (by kernel_rfl) hE (fun hHeld => ?_)
        generalize w7.drew = wd at *
        refine wpAnyH_take (i := 0) (oi := { dst := some 89, op := Go.Op.move (Go.Operand.tmp 4), type := 22, pos := _, after := #[], guard := none }) (v := .slice al L.length cl) rfl (by kernel_rfl) (by kernel_rfl) (by kernel_rfl) (fun _ _ _ h => h) (Or.inl ⟨by rfl, fun w' hSw => ?_⟩) (by assumption) ?_
        · (try dsimp only at hSw); go_simp
        (try simp only [Act.put]); (try simp only [List.setIfInBounds_toArray]); (try simp only [List.set_cons_succ]); (try simp only [List.set_cons_zero])
        refine wpAnyH_take (i := 1) (oi := { dst := some 90, op := Go.Op.call { callee := Go.Callee.builtin Go.Builtin.len, args := #[Go.Operand.tmp 89], argTypes := #[22] }, type := 3, pos := _, after := #[{ on := 0, ground := Go.Ground.data }], guard := none }) (v := .int .i64 (L.length : Int)) rfl (by kernel_rfl) (by kernel_rfl) (by kernel_rfl) (fun _ _ _ h => h) (Or.inl ⟨by rfl, fun w' hSw => ?_⟩) (by assumption) ?_
        · (try dsimp only at hSw); go_simp
        (try simp only [Act.put]); (try simp only [List.setIfInBounds_toArray]); (try simp only [List.set_cons_succ]); (try simp only [List.set_cons_zero])
        refine wpAnyH_take (i := 2) (oi := { dst := some 91, op := Go.Op.binOp Go.BinOp.eql 3 (Go.Operand.tmp 90) (Go.Operand.const (Go.Value.int Go.IntKind.i64 0)) 3, type := 4, pos := _, after := #[{ on := 1, ground := Go.Ground.data }], guard := none }) (v := .bool false) rfl (by kernel_rfl) (by kernel_rfl) (by kernel_rfl) (fun _ _ _ h => h) (Or.inl ⟨by rfl, fun w' hSw => ?_⟩) (by assumption) ?_
        · (try dsimp only at hSw); go_simp
        (try simp only [Act.put]); (try simp only [List.setIfInBounds_toArray]); (try simp only [List.set_cons_succ]); (try simp only [List.set_cons_zero])
        refine wpAnyH_take (i := 3) (oi := { dst := some 92, op := Go.Op.move (Go.Operand.tmp 91), type := 4, pos := _, after := #[{ on := 2, ground := Go.Ground.data }], guard := none }) (v := .bool false) rfl (by kernel_rfl) (by kernel_rfl) (by kernel_rfl) (fun _ _ _ h => h) (Or.inl ⟨by rfl, fun w' hSw => ?_⟩) (by assumption) ?_
        · (try dsimp only at hSw); go_simp
        (try simp only [Act.put]); (try simp only [List.setIfInBounds_toArray]); (try simp only [List.set_cons_succ]); (try simp only [List.set_cons_zero])
        refine wpAnyH_take (i := 4) (oi := { dst := some 93, op := Go.Op.load 39 (Go.Operand.tmp 9), type := 39, pos := _, after := #[{ on := 3, ground := Go.Ground.guard }], guard := some (3, false) }) (v := .agg #[.int .i64 0, .int .i64 0, .string ⟨#[]⟩, .string ⟨#[]⟩, .string ⟨#[]⟩]) rfl (by kernel_rfl) (by kernel_rfl) (by kernel_rfl) (fun _ _ _ h => h) (Or.inl ⟨by rfl, fun w' hSw => ?_⟩) (by assumption) ?_
        · have bp := HT.out.1.p.later hSw
          exact (exec_loadP _ _ _ _ _ _ _ _ (bp.lies0 rfl)).trans (congrArg (fun z : List Value => Result.ok (Next.value (.agg z.toArray)) w') (bp.row0 rfl))
        (try simp only [Act.put]); (try simp only [List.setIfInBounds_toArray]); (try simp only [List.set_cons_succ]); (try simp only [List.set_cons_zero])
        refine wpAnyH_take (i := 5) (oi := { dst := some 94, op := Go.Op.build 39 #[], type := 39, pos := _, after := #[{ on := 3, ground := Go.Ground.guard }], guard := some (3, false) }) (v := .agg #[.int .i64 0, .int .i64 0, .string ⟨#[]⟩, .string ⟨#[]⟩, .string ⟨#[]⟩]) rfl (by kernel_rfl) (by kernel_rfl) (by kernel_rfl) (fun _ _ _ h => h) (Or.inl ⟨by rfl, fun w' hSw => ?_⟩) (by assumption) ?_
        · (try dsimp only at hSw); go_simp
        (try simp only [Act.put]); (try simp only [List.setIfInBounds_toArray]); (try simp only [List.set_cons_succ]); (try simp only [List.set_cons_zero])
        refine wpAnyH_take (i := 6) (oi := { dst := some 95, op := Go.Op.binOp Go.BinOp.neq 39 (Go.Operand.tmp 93) (Go.Operand.tmp 94) 39, type := 4, pos := _, after := #[{ on := 4, ground := Go.Ground.data }, { on := 5, ground := Go.Ground.data }, { on := 3, ground := Go.Ground.guard }], guard := some (3, false) }) (v := .bool false) rfl (by kernel_rfl) (by kernel_rfl) (by kernel_rfl) (fun _ _ _ h => h) (Or.inl ⟨by rfl, fun w' hSw => ?_⟩) (by assumption) ?_
        · (try dsimp only at hSw); go_simp
        (try simp only [Act.put]); (try simp only [List.setIfInBounds_toArray]); (try simp only [List.set_cons_succ]); (try simp only [List.set_cons_zero])
        refine wpAnyH_take (i := 7) (oi := { dst := some 96, op := Go.Op.pick (Go.Operand.tmp 92) (Go.Operand.const (Go.Value.bool true)) (Go.Operand.tmp 95), type := 4, pos := _, after := #[{ on := 3, ground := Go.Ground.data }, { on := 6, ground := Go.Ground.data }], guard := none }) (v := .bool false) rfl (by kernel_rfl) (by kernel_rfl) (by kernel_rfl) (fun _ _ _ h => h) (Or.inl ⟨by rfl, fun w' hSw => ?_⟩) (by assumption) ?_
        · (try dsimp only at hSw); go_simp
        (try simp only [Act.put]); (try simp only [List.setIfInBounds_toArray]); (try simp only [List.set_cons_succ]); (try simp only [List.set_cons_zero])
        refine wpAnyH_take (i := 8) (oi := { dst := some 97, op := Go.Op.move (Go.Operand.tmp 96), type := 4, pos := _, after := #[{ on := 7, ground := Go.Ground.data }, { on := 3, ground := Go.Ground.chain }], guard := none }) (v := .bool false) rfl (by kernel_rfl) (by kernel_rfl) (by kernel_rfl) (fun _ _ _ h => h) (Or.inl ⟨by rfl, fun w' hSw => ?_⟩) (by assumption) ?_
        · (try dsimp only at hSw); go_simp
        (try simp only [Act.put]); (try simp only [List.setIfInBounds_toArray]); (try simp only [List.set_cons_succ]); (try simp only [List.set_cons_zero])
        refine wpAnyH_take (i := 9) (oi := { dst := some 98, op := Go.Op.move (Go.Operand.tmp 10), type := 40, pos := _, after := #[{ on := 8, ground := Go.Ground.guard }], guard := some (8, false) }) (v := .slice (some ⟨g, 0, none⟩) 1 lcp) rfl (by kernel_rfl) (by kernel_rfl) (by kernel_rfl) (fun _ _ _ h => h) (Or.inl ⟨by rfl, fun w' hSw => ?_⟩) (by assumption) ?_
        · (try dsimp only at hSw); go_simp
        (try simp only [Act.put]); (try simp only [List.setIfInBounds_toArray]); (try simp only [List.set_cons_succ]); (try simp only [List.set_cons_zero])
        refine wpAnyH_take (i := 10) (oi := { dst := some 99, op := Go.Op.call { callee := Go.Callee.builtin Go.Builtin.len, args := #[Go.Operand.tmp 98], argTypes := #[40] }, type := 3, pos := _, after := #[{ on := 9, ground := Go.Ground.data }, { on := 8, ground := Go.Ground.guard }], guard := some (8, false) }) (v := .int .i64 1) rfl (by kernel_rfl) (by kernel_rfl) (by kernel_rfl) (fun _ _ _ h => h) (Or.inl ⟨by rfl, fun w' hSw => ?_⟩) (by assumption) ?_
        · (try dsimp only at hSw); go_simp
        (try simp only [Act.put]); (try simp only [List.setIfInBounds_toArray]); (try simp only [List.set_cons_succ]); (try simp only [List.set_cons_zero])
        refine wpAnyH_take (i := 11) (oi := { dst := some 100, op := Go.Op.binOp Go.BinOp.neq 3 (Go.Operand.tmp 99) (Go.Operand.const (Go.Value.int Go.IntKind.i64 1)) 3, type := 4, pos := _, after := #[{ on := 10, ground := Go.Ground.data }, { on := 8, ground := Go.Ground.guard }], guard := some (8, false) }) (v := .bool false) rfl (by kernel_rfl) (by kernel_rfl) (by kernel_rfl) (fun _ _ _ h => h) (Or.inl ⟨by rfl, fun w' hSw => ?_⟩) (by assumption) ?_
        · (try dsimp only at hSw); go_simp
        (try simp only [Act.put]); (try simp only [List.setIfInBounds_toArray]); (try simp only [List.set_cons_succ]); (try simp only [List.set_cons_zero])
        refine wpAnyH_take (i := 12) (oi := { dst := some 101, op := Go.Op.pick (Go.Operand.tmp 97) (Go.Operand.const (Go.Value.bool true)) (Go.Operand.tmp 100), type := 4, pos := _, after := #[{ on := 8, ground := Go.Ground.data }, { on := 11, ground := Go.Ground.data }], guard := none }) (v := .bool false) rfl (by kernel_rfl) (by kernel_rfl) (by kernel_rfl) (fun _ _ _ h => h) (Or.inl ⟨by rfl, fun w' hSw => ?_⟩) (by assumption) ?_
        · (try dsimp only at hSw); go_simp
        (try simp only [Act.put]); (try simp only [List.setIfInBounds_toArray]); (try simp only [List.set_cons_succ]); (try simp only [List.set_cons_zero])
        refine wpAnyH_take (i := 13) (oi := { dst := some 102, op := Go.Op.move (Go.Operand.tmp 101), type := 4, pos := _, after := #[{ on := 12, ground := Go.Ground.data }, { on := 8, ground := Go.Ground.chain }], guard := none }) (v := .bool false) rfl (by kernel_rfl) (by kernel_rfl) (by kernel_rfl) (fun _ _ _ h => h) (Or.inl ⟨by rfl, fun w' hSw => ?_⟩) (by assumption) ?_
        · (try dsimp only at hSw); go_simp
        (try simp only [Act.put]); (try simp only [List.setIfInBounds_toArray]); (try simp only [List.set_cons_succ]); (try simp only [List.set_cons_zero])
        refine wpAnyH_take (i := 14) (oi := { dst := some 103, op := Go.Op.move (Go.Operand.tmp 10), type := 40, pos := _, after := #[{ on := 13, ground := Go.Ground.guard }], guard := some (13, false) }) (v := .slice (some ⟨g, 0, none⟩) 1 lcp) rfl (by kernel_rfl) (by kernel_rfl) (by kernel_rfl) (fun _ _ _ h => h) (Or.inl ⟨by rfl, fun w' hSw => ?_⟩) (by assumption) ?_
        · (try dsimp only at hSw); go_simp
        (try simp only [Act.put]); (try simp only [List.setIfInBounds_toArray]); (try simp only [List.set_cons_succ]); (try simp only [List.set_cons_zero])
        refine wpAnyH_take (i := 15) (oi := { dst := some 104, op := Go.Op.indexAddr 40 (Go.Operand.tmp 103) (Go.Operand.const (Go.Value.int Go.IntKind.i64 0)), type := 0, pos := _, after := #[{ on := 14, ground := Go.Ground.data }, { on := 13, ground := Go.Ground.guard }], guard := some (13, false) }) (v := .pointer (some ⟨g, 0, none⟩)) rfl (by kernel_rfl) (by kernel_rfl) (by kernel_rfl) (fun _ _ _ h => h) (Or.inl ⟨by rfl, fun w' hSw => ?_⟩) (by assumption) ?_
        · (try dsimp only at hSw); go_simp
        (try simp only [Act.put]); (try simp only [List.setIfInBounds_toArray]); (try simp only [List.set_cons_succ]); (try simp only [List.set_cons_zero])
        refine wpAnyH_take (i := 16) (oi := { dst := some 105, op := Go.Op.load 24 (Go.Operand.tmp 104), type := 24, pos := _, after := #[{ on := 15, ground := Go.Ground.data }, { on := 13, ground := Go.Ground.guard }], guard := some (13, false) }) (v := .agg #[.int .i64 x.kind, .int .i64 x.code, .int .i64 x.mark, .string (bs x.inter), vx, .string (bs x.text)]) rfl (by kernel_rfl) (by kernel_rfl) (by kernel_rfl) (fun _ _ _ h => h) (Or.inl ⟨by rfl, fun w' hSw => ?_⟩) (by assumption) ?_
        · have d0 := (hSw.cell (p := ⟨g, 0, none⟩) hg).trans (hcx.out 0 (.int .i64 x.kind) rfl)
          have d1 := (hSw.cell (p := ⟨g, 1, none⟩) hg).trans (hcx.out 1 (.int .i64 x.code) rfl)
          have d2 := (hSw.cell (p := ⟨g, 2, none⟩) hg).trans (hcx.out 2 (.int .i64 x.mark) rfl)
          have d3 := (hSw.cell (p := ⟨g, 3, none⟩) hg).trans (hcx.out 3 (.string (bs x.inter)) rfl)
          have d4 := (hSw.cell (p := ⟨g, 4, none⟩) hg).trans (hcx.out 4 (vx) rfl)
          have d5 := (hSw.cell (p := ⟨g, 5, none⟩) hg).trans (hcx.out 5 (.string (bs x.text)) rfl)
          clear hSw
          go_simp
        (try simp only [Act.put]); (try simp only [List.setIfInBounds_toArray]); (try simp only [List.set_cons_succ]); (try simp only [List.set_cons_zero])
        refine wpAnyH_take (i := 17) (oi := { dst := some 106, op := Go.Op.load 24 (Go.Operand.tmp 1), type := 24, pos := _, after := #[{ on := 13, ground := Go.Ground.guard }], guard := some (13, false) }) (v := .agg #[.int .i64 y.kind, .int .i64 y.code, .int .i64 y.mark, .string (bs y.inter), .slice ad y.args.length cp, .string (bs y.text)]) rfl (by kernel_rfl) (by kernel_rfl) (by kernel_rfl) (fun _ _ _ h => h) (Or.inl ⟨by rfl, fun w' hSw => ?_⟩) (by assumption) ?_
        · have by' := HT.out.1.r.a.later hSw
          have d0 := by'.cell (j := 0) (v := .int .i64 y.kind) rfl
          have d1 := by'.cell (j := 1) (v := .int .i64 y.code) rfl
          have d2 := by'.cell (j := 2) (v := .int .i64 y.mark) rfl
          have d3 := by'.cell (j := 3) (v := .string (bs y.inter)) rfl
          have d4 := by'.cell (j := 4) (v := .slice ad y.args.length cp) rfl
          have d5 := by'.cell (j := 5) (v := .string (bs y.text)) rfl
          clear hSw by'
          go_simp
        (try simp only [Act.put]); (try simp only [List.setIfInBounds_toArray]); (try simp only [List.set_cons_succ]); (try simp only [List.set_cons_zero])
        refine wpAnyH_ready (rs := [18]) (by kernel_rfl) (by simp) ?_
        refine AllReadyH.cons (o := { dst := some 107, op := Go.Op.call { callee := Go.Callee.value (Go.Operand.func 14), args := #[Go.Operand.tmp 105, Go.Operand.tmp 106], argTypes := #[24, 24] }, type := 4, pos := _, after := #[{ on := 16, ground := Go.Ground.data }, { on := 17, ground := Go.Ground.data }, { on := 13, ground := Go.Ground.chain }, { on := 13, ground := Go.Ground.guard }], guard := some (13, false) }) rfl (fun K hK => ?_) ?_
        · skip
          go_simp
          refine (HSX.out wd hE).mono ?_
          rintro e v1 ⟨rfl, hbv1⟩
          have e1 := hE.trans (Below.mono hbv1 hE.size)
          clear hbv1
          refine hK.out _ _ e1 (fun hHeld => ?_)
          clear hK K
          (try simp only [Act.put]); (try simp only [List.setIfInBounds_toArray]); (try simp only [List.set_cons_succ]); (try simp only [List.set_cons_zero])
          refine wpAnyH_take (i := 19) (oi := { dst := some 108, op := Go.Op.unOp Go.UnOp.not 4 (Go.Operand.tmp 107), type := 4, pos := _, after := #[{ on := 18, ground := Go.Ground.data }, { on := 13, ground := Go.Ground.guard }], guard := some (13, false) }) (v := .bool (!sb)) rfl (by kernel_rfl) (by kernel_rfl) (by kernel_rfl) (fun _ _ _ h => h) (Or.inl ⟨by rfl, fun w' hSw => ?_⟩) (by assumption) ?_
          · (try dsimp only at hSw); go_simp
          (try simp only [Act.put]); (try simp only [List.setIfInBounds_toArray]); (try simp only [List.set_cons_succ]); (try simp only [List.set_cons_zero])
          refine wpAnyH_take (i := 20) (oi := { dst := some 109, op := Go.Op.pick (Go.Operand.tmp 102) (Go.Operand.const (Go.Value.bool true)) (Go.Operand.tmp 108), type := 4, pos := _, after := #[{ on := 13, ground := Go.Ground.data }, { on := 19, ground := Go.Ground.data }], guard := none }) (v := .bool (!sb)) rfl (by kernel_rfl) (by kernel_rfl) (by kernel_rfl) (fun _ _ _ h => h) (Or.inl ⟨by rfl, fun w' hSw => ?_⟩) (by assumption) ?_
          · (try dsimp only at hSw); go_simp
          (try simp only [Act.put]); (try simp only [List.setIfInBounds_toArray]); (try simp only [List.set_cons_succ]); (try simp only [List.set_cons_zero])
          refine wpAnyH_done (by kernel_rfl) ?_ _
          refine NoPanic.normal ?_
          have HE := Hid.mk' e1
          have HB := Hid.mk' (HT.out.1.r.b.trans (Below.mono e1 HT.out.1.r.b.size))
          clear e1
          cases sb with
          | false =>
            have HNO : Hid (¬ wOk y) := fun h => HSB.out (by have := (HAO.out h).1; simp only [Prod.mk.injEq, List.cons.injEq, and_true] at this; exact this.2)
            go_wp2_with fail
            go_ret2
            exact ⟨.slice none 0 0, fun h => absurd h HNO.out, fun _ => rfl, HB.out⟩
          | true =>
            have HYE : Hid (x = y) := HSB.out
            have HRL := Hid.mk' (HT.out.2.1.below HE.out)
            have HCE : Hid (∀ k (h : k < L.length), ∃ b off, al = some ⟨b, off, none⟩ ∧ v1.cell? ⟨b, off + k, none⟩ = some (.int .i64 L[k])) := fun k h => (rd_at HRL.out k h).elim fun b hb => hb.elim fun off ho => ⟨b, off, ho.1, ho.2.1⟩
            have HYES : Hid ((∀ j (h : j < L.length), isRb L[j] = true) → wOk y) := fun h => HAB.out rfl (by rw [HYE.out]) (fun c hc => by
              obtain ⟨j, hj, e⟩ := List.mem_iff_getElem.1 hc
              rw [← e]; exact h j hj)
            have HBAD : Hid (∀ j (h : j < L.length), isRb L[j] = false → ¬ wOk y) := fun j h hf ho => by
              have := (HAO.out ho).2 L[j] (List.getElem_mem h)
              rw [hf] at this
              cases this
            clear HT HAO HAB HE HSX HSB HYE hcx HVX hst
            generalize v1 = wf at *
            go_wp2_with fail
            go_loopg [112] L.length (fun gg s112 wr => ∃ k : Nat, k ≤ L.length ∧ L.length - k ≤ gg ∧ s112 = .int .i64 (k : Int) ∧ Hid (∀ j (h : j < L.length), j < k → isRb L[j] = true) ∧ wr = wf)
            case atStart => exact ⟨0, Nat.zero_le _, by omega, rfl, fun j h h0 => absurd h0 (Nat.not_lt_zero j), rfl⟩
            case round =>
              obtain ⟨k, hk, hgk, rfl, HJ, hw⟩ := hrel
              have HGK := Hid.mk' hgk
              clear hgk
              subst hw
              by_cases hlt : k < L.length
              · obtain ⟨b1, o1, ha, hcl⟩ := HCE.out k hlt
                subst ha
                have HC := Hid.mk' (HRU.out L[k] wr)
                have HJ2 : Hid (isRb L[k] = true → ∀ j (h : j < L.length), j < k + 1 → isRb L[j] = true) := fun ht j h hj => by
                  rcases Nat.lt_or_ge j k with h1 | h1
                  · exact HJ.out j h h1
                  · have : j = k := by omega
                    subst this; exact ht
                have HNO := Hid.mk' (HBAD.out k hlt)
                clear HCE HJ HBAD HYES
                generalize hz : isRb L[k] = z at *
                clear hz
                generalize L[k] = c at *
                go_wp2_with fail
                refine HC.out.mono ?_
                rintro e w9 ⟨rfl, hw9⟩
                subst hw9
                clear HC
                cases z with
                | false =>
                  go_wp2_with fail
                  go_ret2
                  exact ⟨.slice none 0 0, fun h => absurd h (HNO.out trivial), fun _ => rfl, HB.out⟩
                | true =>
                  have HJ3 := Hid.mk' (HJ2.out rfl)
                  clear HJ2 HNO
                  go_wp2_with fail
                  go_roundg (L.length - (k + 1))
                  case measure => have := HGK.out; omega
                  case rel => exact ⟨k + 1, by omega, Nat.le_refl _, by go_num, HJ3, rfl⟩
              · obtain rfl : k = L.length := by omega
                have HY : Hid (wOk y) := HYES.out (fun j h => HJ.out j h h)
                clear HCE HJ HBAD HYES
                go_wp2_with fail
                go_ret2
                exact ⟨_, fun _ => ⟨rfl, HRL.out⟩, fun h => absurd HY.out h, HB.out⟩
        exact AllReadyH.nil
      · have HNO : Hid (¬ wOk y) := fun h => hn1 (by have := (HAO.out h).1; simp only [Prod.mk.injEq] at this; rw [← HNA.out, this.2]; rfl)
        have hnb2 : ((na : Int) != 1) = true := bne_of (by omega)
        clear HAO HAB HQ HSA HSM HVY HRU HNA hst
        refine wp_region_noPanic ?_
        refine wp_region_held_drew (S := fun w' => Below w7.heap.size w7 w') (by kernel_rfl) hE (fun hHeld => ?_)
        generalize w7.drew = wd at *
        refine wpAnyH_take (i := 0) (oi := { dst := some 89, op := Go.Op.move (Go.Operand.tmp 4), type := 22, pos := _, after := #[], guard := none }) (v := .slice al L.length cl) rfl (by kernel_rfl) (by kernel_rfl) (by kernel_rfl) (fun _ _ _ h => h) (Or.inl ⟨by rfl, fun w' hSw => ?_⟩) (by assumption) ?_
        · (try dsimp only at hSw); go_simp
        (try simp only [Act.put]); (try simp only [List.setIfInBounds_toArray]); (try simp only [List.set_cons_succ]); (try simp only [List.set_cons_zero])
        refine wpAnyH_take (i := 1) (oi := { dst := some 90, op := Go.Op.call { callee := Go.Callee.builtin Go.Builtin.len, args := #[Go.Operand.tmp 89], argTypes := #[22] }, type := 3, pos := _, after := #[{ on := 0, ground := Go.Ground.data }], guard := none }) (v := .int .i64 (L.length : Int)) rfl (by kernel_rfl) (by kernel_rfl) (by kernel_rfl) (fun _ _ _ h => h) (Or.inl ⟨by rfl, fun w' hSw => ?_⟩) (by assumption) ?_
        · (try dsimp only at hSw); go_simp
        (try simp only [Act.put]); (try simp only [List.setIfInBounds_toArray]); (try simp only [List.set_cons_succ]); (try simp only [List.set_cons_zero])
        refine wpAnyH_take (i := 2) (oi := { dst := some 91, op := Go.Op.binOp Go.BinOp.eql 3 (Go.Operand.tmp 90) (Go.Operand.const (Go.Value.int Go.IntKind.i64 0)) 3, type := 4, pos := _, after := #[{ on := 1, ground := Go.Ground.data }], guard := none }) (v := .bool false) rfl (by kernel_rfl) (by kernel_rfl) (by kernel_rfl) (fun _ _ _ h => h) (Or.inl ⟨by rfl, fun w' hSw => ?_⟩) (by assumption) ?_
        · (try dsimp only at hSw); go_simp
        (try simp only [Act.put]); (try simp only [List.setIfInBounds_toArray]); (try simp only [List.set_cons_succ]); (try simp only [List.set_cons_zero])
        refine wpAnyH_take (i := 3) (oi := { dst := some 92, op := Go.Op.move (Go.Operand.tmp 91), type := 4, pos := _, after := #[{ on := 2, ground := Go.Ground.data }], guard := none }) (v := .bool false) rfl (by kernel_rfl) (by kernel_rfl) (by kernel_rfl) (fun _ _ _ h => h) (Or.inl ⟨by rfl, fun w' hSw => ?_⟩) (by assumption) ?_
        · (try dsimp only at hSw); go_simp
        (try simp only [Act.put]); (try simp only [List.setIfInBounds_toArray]); (try simp only [List.set_cons_succ]); (try simp only [List.set_cons_zero])
        refine wpAnyH_take (i := 4) (oi := { dst := some 93, op := Go.Op.load 39 (Go.Operand.tmp 9), type := 39, pos := _, after := #[{ on := 3, ground := Go.Ground.guard }], guard := some (3, false) }) (v := .agg #[.int .i64 0, .int .i64 0, .string ⟨#[]⟩, .string ⟨#[]⟩, .string ⟨#[]⟩]) rfl (by kernel_rfl) (by kernel_rfl) (by kernel_rfl) (fun _ _ _ h => h) (Or.inl ⟨by rfl, fun w' hSw => ?_⟩) (by assumption) ?_
        · have bp := HT.out.1.p.later hSw
          exact (exec_loadP _ _ _ _ _ _ _ _ (bp.lies0 rfl)).trans (congrArg (fun z : List Value => Result.ok (Next.value (.agg z.toArray)) w') (bp.row0 rfl))
        (try simp only [Act.put]); (try simp only [List.setIfInBounds_toArray]); (try simp only [List.set_cons_succ]); (try simp only [List.set_cons_zero])
        refine wpAnyH_take (i := 5) (oi := { dst := some 94, op := Go.Op.build 39 #[], type := 39, pos := _, after := #[{ on := 3, ground := Go.Ground.guard }], guard := some (3, false) }) (v := .agg #[.int .i64 0, .int .i64 0, .string ⟨#[]⟩, .string ⟨#[]⟩, .string ⟨#[]⟩]) rfl (by kernel_rfl) (by kernel_rfl) (by kernel_rfl) (fun _ _ _ h => h) (Or.inl ⟨by rfl, fun w' hSw => ?_⟩) (by assumption) ?_
        · (try dsimp only at hSw); go_simp
        (try simp only [Act.put]); (try simp only [List.setIfInBounds_toArray]); (try simp only [List.set_cons_succ]); (try simp only [List.set_cons_zero])
        refine wpAnyH_take (i := 6) (oi := { dst := some 95, op := Go.Op.binOp Go.BinOp.neq 39 (Go.Operand.tmp 93) (Go.Operand.tmp 94) 39, type := 4, pos := _, after := #[{ on := 4, ground := Go.Ground.data }, { on := 5, ground := Go.Ground.data }, { on := 3, ground := Go.Ground.guard }], guard := some (3, false) }) (v := .bool false) rfl (by kernel_rfl) (by kernel_rfl) (by kernel_rfl) (fun _ _ _ h => h) (Or.inl ⟨by rfl, fun w' hSw => ?_⟩) (by assumption) ?_
        · (try dsimp only at hSw); go_simp
        (try simp only [Act.put]); (try simp only [List.setIfInBounds_toArray]); (try simp only [List.set_cons_succ]); (try simp only [List.set_cons_zero])
        refine wpAnyH_take (i := 7) (oi := { dst := some 96, op := Go.Op.pick (Go.Operand.tmp 92) (Go.Operand.const (Go.Value.bool true)) (Go.Operand.tmp 95), type := 4, pos := _, after := #[{ on := 3, ground := Go.Ground.data }, { on := 6, ground := Go.Ground.data }], guard := none }) (v := .bool false) rfl (by kernel_rfl) (by kernel_rfl) (by kernel_rfl) (fun _ _ _ h => h) (Or.inl ⟨by rfl, fun w' hSw => ?_⟩) (by assumption) ?_
        · (try dsimp only at hSw); go_simp
        (try simp only [Act.put]); (try simp only [List.setIfInBounds_toArray]); (try simp only [List.set_cons_succ]); (try simp only [List.set_cons_zero])
        refine wpAnyH_take (i := 8) (oi := { dst := some 97, op := Go.Op.move (Go.Operand.tmp 96), type := 4, pos := _, after := #[{ on := 7, ground := Go.Ground.data }, { on := 3, ground := Go.Ground.chain }], guard := none }) (v := .bool false) rfl (by kernel_rfl) (by kernel_rfl) (by kernel_rfl) (fun _ _ _ h => h) (Or.inl ⟨by rfl, fun w' hSw => ?_⟩) (by assumption) ?_
        · (try dsimp only at hSw); go_simp
        (try simp only [Act.put]); (try simp only [List.setIfInBounds_toArray]); (try simp only [List.set_cons_succ]); (try simp only [List.set_cons_zero])
        refine wpAnyH_take (i := 9) (oi := { dst := some 98, op := Go.Op.move (Go.Operand.tmp 10), type := 40, pos := _, after := #[{ on := 8, ground := Go.Ground.guard }], guard := some (8, false) }) (v := .slice la na lcp) rfl (by kernel_rfl) (by kernel_rfl) (by kernel_rfl) (fun _ _ _ h => h) (Or.inl ⟨by rfl, fun w' hSw => ?_⟩) (by assumption) ?_
        · (try dsimp only at hSw); go_simp
        (try simp only [Act.put]); (try simp only [List.setIfInBounds_toArray]); (try simp only [List.set_cons_succ]); (try simp only [List.set_cons_zero])
        refine wpAnyH_take (i := 10) (oi := { dst := some 99, op := Go.Op.call { callee := Go.Callee.builtin Go.Builtin.len, args := #[Go.Operand.tmp 98], argTypes := #[40] }, type := 3, pos := _, after := #[{ on := 9, ground := Go.Ground.data }, { on := 8, ground := Go.Ground.guard }], guard := some (8, false) }) (v := .int .i64 (na : Int)) rfl (by kernel_rfl) (by kernel_rfl) (by kernel_rfl) (fun _ _ _ h => h) (Or.inl ⟨by rfl, fun w' hSw => ?_⟩) (by assumption) ?_
        · (try dsimp only at hSw); go_simp
        (try simp only [Act.put]); (try simp only [List.setIfInBounds_toArray]); (try simp only [List.set_cons_succ]); (try simp only [List.set_cons_zero])
        refine wpAnyH_take (i := 11) (oi := { dst := some 100, op := Go.Op.binOp Go.BinOp.neq 3 (Go.Operand.tmp 99) (Go.Operand.const (Go.Value.int Go.IntKind.i64 1)) 3, type := 4, pos := _, after := #[{ on := 10, ground := Go.Ground.data }, { on := 8, ground := Go.Ground.guard }], guard := some (8, false) }) (v := .bool true) rfl (by kernel_rfl) (by kernel_rfl) (by kernel_rfl) (fun _ _ _ h => h) (Or.inl ⟨by rfl, fun w' hSw => ?_⟩) (by assumption) ?_
        · (try dsimp only at hSw); go_simp
        (try simp only [Act.put]); (try simp only [List.setIfInBounds_toArray]); (try simp only [List.set_cons_succ]); (try simp only [List.set_cons_zero])
        refine wpAnyH_take (i := 12) (oi := { dst := some 101, op := Go.Op.pick (Go.Operand.tmp 97) (Go.Operand.const (Go.Value.bool true)) (Go.Operand.tmp 100), type := 4, pos := _, after := #[{ on := 8, ground := Go.Ground.data }, { on := 11, ground := Go.Ground.data }], guard := none }) (v := .bool true) rfl (by kernel_rfl) (by kernel_rfl) (by kernel_rfl) (fun _ _ _ h => h) (Or.inl ⟨by rfl, fun w' hSw => ?_⟩) (by assumption) ?_
        · (try dsimp only at hSw); go_simp
        (try simp only [Act.put]); (try simp only [List.setIfInBounds_toArray]); (try simp only [List.set_cons_succ]); (try simp only [List.set_cons_zero])
        refine wpAnyH_take (i := 13) (oi := { dst := some 102, op := Go.Op.move (Go.Operand.tmp 101), type := 4, pos := _, after := #[{ on := 12, ground := Go.Ground.data }, { on := 8, ground := Go.Ground.chain }], guard := none }) (v := .bool true) rfl (by kernel_rfl) (by kernel_rfl) (by kernel_rfl) (fun _ _ _ h => h) (Or.inl ⟨by rfl, fun w' hSw => ?_⟩) (by assumption) ?_
        · (try dsimp only at hSw); go_simp
        (try simp only [Act.put]); (try simp only [List.setIfInBounds_toArray]); (try simp only [List.set_cons_succ]); (try simp only [List.set_cons_zero])
        refine wpAnyH_take (i := 14) (oi := { dst := some 103, op := Go.Op.move (Go.Operand.tmp 10), type := 40, pos := _, after := #[{ on := 13, ground := Go.Ground.guard }], guard := some (13, false) }) (v := undef) rfl (by kernel_rfl) (by kernel_rfl) (by kernel_rfl) (fun _ _ _ h => h) (Or.inr ⟨by rfl, rfl⟩) (by assumption) ?_
        (try simp only [Act.put]); (try simp only [List.setIfInBounds_toArray]); (try simp only [List.set_cons_succ]); (try simp only [List.set_cons_zero])
        refine wpAnyH_take (i := 15) (oi := { dst := some 104, op := Go.Op.indexAddr 40 (Go.Operand.tmp 103) (Go.Operand.const (Go.Value.int Go.IntKind.i64 0)), type := 0, pos := _, after := #[{ on := 14, ground := Go.Ground.data }, { on := 13, ground := Go.Ground.guard }], guard := some (13, false) }) (v := undef) rfl (by kernel_rfl) (by kernel_rfl) (by kernel_rfl) (fun _ _ _ h => h) (Or.inr ⟨by rfl, rfl⟩) (by assumption) ?_
        (try simp only [Act.put]); (try simp only [List.setIfInBounds_toArray]); (try simp only [List.set_cons_succ]); (try simp only [List.set_cons_zero])
        refine wpAnyH_take (i := 16) (oi := { dst := some 105, op := Go.Op.load 24 (Go.Operand.tmp 104), type := 24, pos := _, after := #[{ on := 15, ground := Go.Ground.data }, { on := 13, ground := Go.Ground.guard }], guard := some (13, false) }) (v := undef) rfl (by kernel_rfl) (by kernel_rfl) (by kernel_rfl) (fun _ _ _ h => h) (Or.inr ⟨by rfl, rfl⟩) (by assumption) ?_
        (try simp only [Act.put]); (try simp only [List.setIfInBounds_toArray]); (try simp only [List.set_cons_succ]); (try simp only [List.set_cons_zero])
        refine wpAnyH_take (i := 17) (oi := { dst := some 106, op := Go.Op.load 24 (Go.Operand.tmp 1), type := 24, pos := _, after := #[{ on := 13, ground := Go.Ground.guard }], guard := some (13, false) }) (v := undef) rfl (by kernel_rfl) (by kernel_rfl) (by kernel_rfl) (fun _ _ _ h => h) (Or.inr ⟨by rfl, rfl⟩) (by assumption) ?_
        (try simp only [Act.put]); (try simp only [List.setIfInBounds_toArray]); (try simp only [List.set_cons_succ]); (try simp only [List.set_cons_zero])
        refine wpAnyH_ready (rs := [18]) (by kernel_rfl) (by simp) ?_
        refine AllReadyH.cons (o := { dst := some 107, op := Go.Op.call { callee := Go.Callee.value (Go.Operand.func 14), args := #[Go.Operand.tmp 105, Go.Operand.tmp 106], argTypes := #[24, 24] }, type := 4, pos := _, after := #[{ on := 16, ground := Go.Ground.data }, { on := 17, ground := Go.Ground.data }, { on := 13, ground := Go.Ground.chain }, { on := 13, ground := Go.Ground.guard }], guard := some (13, false) }) rfl (fun K hK => ?_) ?_
        · skip
          go_simp
          refine hK.out _ _ hE (fun hHeld => ?_)
          clear hK K
          (try simp only [Act.put]); (try simp only [List.setIfInBounds_toArray]); (try simp only [List.set_cons_succ]); (try simp only [List.set_cons_zero])
          refine wpAnyH_take (i := 19) (oi := { dst := some 108, op := Go.Op.unOp Go.UnOp.not 4 (Go.Operand.tmp 107), type := 4, pos := _, after := #[{ on := 18, ground := Go.Ground.data }, { on := 13, ground := Go.Ground.guard }], guard := some (13, false) }) (v := undef) rfl (by kernel_rfl) (by kernel_rfl) (by kernel_rfl) (fun _ _ _ h => h) (Or.inr ⟨by rfl, rfl⟩) (by assumption) ?_
          (try simp only [Act.put]); (try simp only [List.setIfInBounds_toArray]); (try simp only [List.set_cons_succ]); (try simp only [List.set_cons_zero])
          refine wpAnyH_take (i := 20) (oi := { dst := some 109, op := Go.Op.pick (Go.Operand.tmp 102) (Go.Operand.const (Go.Value.bool true)) (Go.Operand.tmp 108), type := 4, pos := _, after := #[{ on := 13, ground := Go.Ground.data }, { on := 19, ground := Go.Ground.data }], guard := none }) (v := .bool true) rfl (by kernel_rfl) (by kernel_rfl) (by kernel_rfl) (fun _ _ _ h => h) (Or.inl ⟨by rfl, fun w' hSw => ?_⟩) (by assumption) ?_
          · (try dsimp only at hSw); go_simp
          (try simp only [Act.put]); (try simp only [List.setIfInBounds_toArray]); (try simp only [List.set_cons_succ]); (try simp only [List.set_cons_zero])
          refine wpAnyH_done (by kernel_rfl) ?_ _
          refine NoPanic.normal ?_
          have HE := Hid.mk' hE
          have HB := Hid.mk' (HT.out.1.r.b.trans (Below.mono hE HT.out.1.r.b.size))
          clear hE
          go_wp2_with fail
          go_ret2
          exact ⟨.slice none 0 0, fun h => absurd h HNO.out, fun _ => rfl, HB.out⟩
        exact AllReadyH.nil
    · have HNO : Hid (¬ wOk y) := fun h => hst (by have := (HAO.out h).1; simp only [Prod.mk.injEq] at this; rw [this.1]; rfl)
      have hqb : ((q.st : Int) == 0) = false := beq_false_of_ne (by omega)
      clear HAO HAB HQ HSA HSM HVY HRU HNA hst
      refine wp_region_noPanic ?_
      refine wp_region_held_drew (S := fun w' => Below w7.heap.size w7 w') (by kernel_rfl) hE (fun hHeld => ?_)
      generalize w7.drew = wd at *
      refine wpAnyH_take (i := 0) (oi := { dst := some 89, op := Go.Op.move (Go.Operand.tmp 4), type := 22, pos := _, after := #[], guard := none }) (v := .slice al L.length cl) rfl (by kernel_rfl) (by kernel_rfl) (by kernel_rfl) (fun _ _ _ h => h) (Or.inl ⟨by rfl, fun w' hSw => ?_⟩) (by assumption) ?_
      · (try dsimp only at hSw); go_simp
      (try simp only [Act.put]); (try simp only [List.setIfInBounds_toArray]); (try simp only [List.set_cons_succ]); (try simp only [List.set_cons_zero])
      refine wpAnyH_take (i := 1) (oi := { dst := some 90, op := Go.Op.call { callee := Go.Callee.builtin Go.Builtin.len, args := #[Go.Operand.tmp 89], argTypes := #[22] }, type := 3, pos := _, after := #[{ on := 0, ground := Go.Ground.data }], guard := none }) (v := .int .i64 (L.length : Int)) rfl (by kernel_rfl) (by kernel_rfl) (by kernel_rfl) (fun _ _ _ h => h) (Or.inl ⟨by rfl, fun w' hSw => ?_⟩) (by assumption) ?_
      · (try dsimp only at hSw); go_simp
      (try simp only [Act.put]); (try simp only [List.setIfInBounds_toArray]); (try simp only [List.set_cons_succ]); (try simp only [List.set_cons_zero])
      refine wpAnyH_take (i := 2) (oi := { dst := some 91, op := Go.Op.binOp Go.BinOp.eql 3 (Go.Operand.tmp 90) (Go.Operand.const (Go.Value.int Go.IntKind.i64 0)) 3, type := 4, pos := _, after := #[{ on := 1, ground := Go.Ground.data }], guard := none }) (v := .bool false) rfl (by kernel_rfl) (by kernel_rfl) (by kernel_rfl) (fun _ _ _ h => h) (Or.inl ⟨by rfl, fun w' hSw => ?_⟩) (by assumption) ?_
      · (try dsimp only at hSw); go_simp
      (try simp only [Act.put]); (try simp only [List.setIfInBounds_toArray]); (try simp only [List.set_cons_succ]); (try simp only [List.set_cons_zero])
      refine wpAnyH_take (i := 3) (oi := { dst := some 92, op := Go.Op.move (Go.Operand.tmp 91), type := 4, pos := _, after := #[{ on := 2, ground := Go.Ground.data }], guard := none }) (v := .bool false) rfl (by kernel_rfl) (by kernel_rfl) (by kernel_rfl) (fun _ _ _ h => h) (Or.inl ⟨by rfl, fun w' hSw => ?_⟩) (by assumption) ?_
      · (try dsimp only at hSw); go_simp
      (try simp only [Act.put]); (try simp only [List.setIfInBounds_toArray]); (try simp only [List.set_cons_succ]); (try simp only [List.set_cons_zero])
      refine wpAnyH_take (i := 4) (oi := { dst := some 93, op := Go.Op.load 39 (Go.Operand.tmp 9), type := 39, pos := _, after := #[{ on := 3, ground := Go.Ground.guard }], guard := some (3, false) }) (v := .agg #[.int .i64 (q.st : Int), .int .i64 q.mark, .string (bs q.inter), .string (bs q.args), .string (bs q.text)]) rfl (by kernel_rfl) (by kernel_rfl) (by kernel_rfl) (fun _ _ _ h => h) (Or.inl ⟨by rfl, fun w' hSw => ?_⟩) (by assumption) ?_
      · have bp := HT.out.1.p.later hSw
        exact (exec_loadP _ _ _ _ _ _ _ _ (bp.lies0 rfl)).trans (congrArg (fun z : List Value => Result.ok (Next.value (.agg z.toArray)) w') (bp.row0 rfl))
      (try simp only [Act.put]); (try simp only [List.setIfInBounds_toArray]); (try simp only [List.set_cons_succ]); (try simp only [List.set_cons_zero])
      refine wpAnyH_take (i := 5) (oi := { dst := some 94, op := Go.Op.build 39 #[], type := 39, pos := _, after := #[{ on := 3, ground := Go.Ground.guard }], guard := some (3, false) }) (v := .agg #[.int .i64 0, .int .i64 0, .string ⟨#[]⟩, .string ⟨#[]⟩, .string ⟨#[]⟩]) rfl (by kernel_rfl) (by kernel_rfl) (by kernel_rfl) (fun _ _ _ h => h) (Or.inl ⟨by rfl, fun w' hSw => ?_⟩) (by assumption) ?_
      · (try dsimp only at hSw); go_simp
      (try simp only [Act.put]); (try simp only [List.setIfInBounds_toArray]); (try simp only [List.set_cons_succ]); (try simp only [List.set_cons_zero])
      refine wpAnyH_take (i := 6) (oi := { dst := some 95, op := Go.Op.binOp Go.BinOp.neq 39 (Go.Operand.tmp 93) (Go.Operand.tmp 94) 39, type := 4, pos := _, after := #[{ on := 4, ground := Go.Ground.data }, { on := 5, ground := Go.Ground.data }, { on := 3, ground := Go.Ground.guard }], guard := some (3, false) }) (v := .bool true) rfl (by kernel_rfl) (by kernel_rfl) (by kernel_rfl) (fun _ _ _ h => h) (Or.inl ⟨by rfl, fun w' hSw => ?_⟩) (by assumption) ?_
      · (try dsimp only at hSw); go_simp
      (try simp only [Act.put]); (try simp only [List.setIfInBounds_toArray]); (try simp only [List.set_cons_succ]); (try simp only [List.set_cons_zero])
      refine wpAnyH_take (i := 7) (oi := { dst := some 96, op := Go.Op.pick (Go.Operand.tmp 92) (Go.Operand.const (Go.Value.bool true)) (Go.Operand.tmp 95), type := 4, pos := _, after := #[{ on := 3, ground := Go.Ground.data }, { on := 6, ground := Go.Ground.data }], guard := none }) (v := .bool true) rfl (by kernel_rfl) (by kernel_rfl) (by kernel_rfl) (fun _ _ _ h => h) (Or.inl ⟨by rfl, fun w' hSw => ?_⟩) (by assumption) ?_
      · (try dsimp only at hSw); go_simp
      (try simp only [Act.put]); (try simp only [List.setIfInBounds_toArray]); (try simp only [List.set_cons_succ]); (try simp only [List.set_cons_zero])
      refine wpAnyH_take (i := 8) (oi := { dst := some 97, op := Go.Op.move (Go.Operand.tmp 96), type := 4, pos := _, after := #[{ on := 7, ground := Go.Ground.data }, { on := 3, ground := Go.Ground.chain }], guard := none }) (v := .bool true) rfl (by kernel_rfl) (by kernel_rfl) (by kernel_rfl) (fun _ _ _ h => h) (Or.inl ⟨by rfl, fun w' hSw => ?_⟩) (by assumption) ?_
      · (try dsimp only at hSw); go_simp
      (try simp only [Act.put]); (try simp only [List.setIfInBounds_toArray]); (try simp only [List.set_cons_succ]); (try simp only [List.set_cons_zero])
      refine wpAnyH_take (i := 9) (oi := { dst := some 98, op := Go.Op.move (Go.Operand.tmp 10), type := 40, pos := _, after := #[{ on := 8, ground := Go.Ground.guard }], guard := some (8, false) }) (v := undef) rfl (by kernel_rfl) (by kernel_rfl) (by kernel_rfl) (fun _ _ _ h => h) (Or.inr ⟨by rfl, rfl⟩) (by assumption) ?_
      (try simp only [Act.put]); (try simp only [List.setIfInBounds_toArray]); (try simp only [List.set_cons_succ]); (try simp only [List.set_cons_zero])
      refine wpAnyH_take (i := 10) (oi := { dst := some 99, op := Go.Op.call { callee := Go.Callee.builtin Go.Builtin.len, args := #[Go.Operand.tmp 98], argTypes := #[40] }, type := 3, pos := _, after := #[{ on := 9, ground := Go.Ground.data }, { on := 8, ground := Go.Ground.guard }], guard := some (8, false) }) (v := undef) rfl (by kernel_rfl) (by kernel_rfl) (by kernel_rfl) (fun _ _ _ h => h) (Or.inr ⟨by rfl, rfl⟩) (by assumption) ?_
      (try simp only [Act.put]); (try simp only [List.setIfInBounds_toArray]); (try simp only [List.set_cons_succ]); (try simp only [List.set_cons_zero])
      refine wpAnyH_take (i := 11) (oi := { dst := some 100, op := Go.Op.binOp Go.BinOp.neq 3 (Go.Operand.tmp 99) (Go.Operand.const (Go.Value.int Go.IntKind.i64 1)) 3, type := 4, pos := _, after := #[{ on := 10, ground := Go.Ground.data }, { on := 8, ground := Go.Ground.guard }], guard := some (8, false) }) (v := undef) rfl (by kernel_rfl) (by kernel_rfl) (by kernel_rfl) (fun _ _ _ h => h) (Or.inr ⟨by rfl, rfl⟩) (by assumption) ?_
      (try simp only [Act.put]); (try simp only [List.setIfInBounds_toArray]); (try simp only [List.set_cons_succ]); (try simp only [List.set_cons_zero])
      refine wpAnyH_take (i := 12) (oi := { dst := some 101, op := Go.Op.pick (Go.Operand.tmp 97) (Go.Operand.const (Go.Value.bool true)) (Go.Operand.tmp 100), type := 4, pos := _, after := #[{ on := 8, ground := Go.Ground.data }, { on := 11, ground := Go.Ground.data }], guard := none }) (v := .bool true) rfl (by kernel_rfl) (by kernel_rfl) (by kernel_rfl) (fun _ _ _ h => h) (Or.inl ⟨by rfl, fun w' hSw => ?_⟩) (by assumption) ?_
      · (try dsimp only at hSw); go_simp
      (try simp only [Act.put]); (try simp only [List.setIfInBounds_toArray]); (try simp only [List.set_cons_succ]); (try simp only [List.set_cons_zero])
      refine wpAnyH_take (i := 13) (oi := { dst := some 102, op := Go.Op.move (Go.Operand.tmp 101), type := 4, pos := _, after := #[{ on := 12, ground := Go.Ground.data }, { on := 8, ground := Go.Ground.chain }], guard := none }) (v := .bool true) rfl (by kernel_rfl) (by kernel_rfl) (by kernel_rfl) (fun _ _ _ h => h) (Or.inl ⟨by rfl, fun w' hSw => ?_⟩) (by assumption) ?_
      · (try dsimp only at hSw); go_simp
      (try simp only [Act.put]); (try simp only [List.setIfInBounds_toArray]); (try simp only [List.set_cons_succ]); (try simp only [List.set_cons_zero])
      refine wpAnyH_take (i := 14) (oi := { dst := some 103, op := Go.Op.move (Go.Operand.tmp 10), type := 40, pos := _, after := #[{ on := 13, ground := Go.Ground.guard }], guard := some (13, false) }) (v := undef) rfl (by kernel_rfl) (by kernel_rfl) (by kernel_rfl) (fun _ _ _ h => h) (Or.inr ⟨by rfl, rfl⟩) (by assumption) ?_
      (try simp only [Act.put]); (try simp only [List.setIfInBounds_toArray]); (try simp only [List.set_cons_succ]); (try simp only [List.set_cons_zero])
      refine wpAnyH_take (i := 15) (oi := { dst := some 104, op := Go.Op.indexAddr 40 (Go.Operand.tmp 103) (Go.Operand.const (Go.Value.int Go.IntKind.i64 0)), type := 0, pos := _, after := #[{ on := 14, ground := Go.Ground.data }, { on := 13, ground := Go.Ground.guard }], guard := some (13, false) }) (v := undef) rfl (by kernel_rfl) (by kernel_rfl) (by kernel_rfl) (fun _ _ _ h => h) (Or.inr ⟨by rfl, rfl⟩) (by assumption) ?_
      (try simp only [Act.put]); (try simp only [List.setIfInBounds_toArray]); (try simp only [List.set_cons_succ]); (try simp only [List.set_cons_zero])
      refine wpAnyH_take (i := 16) (oi := { dst := some 105, op := Go.Op.load 24 (Go.Operand.tmp 104), type := 24, pos := _, after := #[{ on := 15, ground := Go.Ground.data }, { on := 13, ground := Go.Ground.guard }], guard := some (13, false) }) (v := undef) rfl (by kernel_rfl) (by kernel_rfl) (by kernel_rfl) (fun _ _ _ h => h) (Or.inr ⟨by rfl, rfl⟩) (by assumption) ?_
      (try simp only [Act.put]); (try simp only [List.setIfInBounds_toArray]); (try simp only [List.set_cons_succ]); (try simp only [List.set_cons_zero])
      refine wpAnyH_take (i := 17) (oi := { dst := some 106, op := Go.Op.load 24 (Go.Operand.tmp 1), type := 24, pos := _, after := #[{ on := 13, ground := Go.Ground.guard }], guard := some (13, false) }) (v := undef) rfl (by kernel_rfl) (by kernel_rfl) (by kernel_rfl) (fun _ _ _ h => h) (Or.inr ⟨by rfl, rfl⟩) (by assumption) ?_
      (try simp only [Act.put]); (try simp only [List.setIfInBounds_toArray]); (try simp only [List.set_cons_succ]); (try simp only [List.set_cons_zero])
      refine wpAnyH_ready (rs := [18]) (by kernel_rfl) (by simp) ?_
      refine AllReadyH.cons (o := { dst := some 107, op := Go.Op.call { callee := Go.Callee.value (Go.Operand.func 14), args := #[Go.Operand.tmp 105, Go.Operand.tmp 106], argTypes := #[24, 24] }, type := 4, pos := _, after := #[{ on := 16, ground := Go.Ground.data }, { on := 17, ground := Go.Ground.data }, { on := 13, ground := Go.Ground.chain }, { on := 13, ground := Go.Ground.guard }], guard := some (13, false) }) rfl (fun K hK => ?_) ?_
      · skip
        go_simp
        refine hK.out _ _ hE (fun hHeld => ?_)
        clear hK K
        (try simp only [Act.put]); (try simp only [List.setIfInBounds_toArray]); (try simp only [List.set_cons_succ]); (try simp only [List.set_cons_zero])
        refine wpAnyH_take (i := 19) (oi := { dst := some 108, op := Go.Op.unOp Go.UnOp.not 4 (Go.Operand.tmp 107), type := 4, pos := _, after := #[{ on := 18, ground := Go.Ground.data }, { on := 13, ground := Go.Ground.guard }], guard := some (13, false) }) (v := undef) rfl (by kernel_rfl) (by kernel_rfl) (by kernel_rfl) (fun _ _ _ h => h) (Or.inr ⟨by rfl, rfl⟩) (by assumption) ?_
        (try simp only [Act.put]); (try simp only [List.setIfInBounds_toArray]); (try simp only [List.set_cons_succ]); (try simp only [List.set_cons_zero])
        refine wpAnyH_take (i := 20) (oi := { dst := some 109, op := Go.Op.pick (Go.Operand.tmp 102) (Go.Operand.const (Go.Value.bool true)) (Go.Operand.tmp 108), type := 4, pos := _, after := #[{ on := 13, ground := Go.Ground.data }, { on := 19, ground := Go.Ground.data }], guard := none }) (v := .bool true) rfl (by kernel_rfl) (by kernel_rfl) (by kernel_rfl) (fun _ _ _ h => h) (Or.inl ⟨by rfl, fun w' hSw => ?_⟩) (by assumption) ?_
        · (try dsimp only at hSw); go_simp
        (try simp only [Act.put]); (try simp only [List.setIfInBounds_toArray]); (try simp only [List.set_cons_succ]); (try simp only [List.set_cons_zero])
        refine wpAnyH_done (by kernel_rfl) ?_ _
        refine NoPanic.normal ?_
        have HE := Hid.mk' hE
        have HB := Hid.mk' (HT.out.1.r.b.trans (Below.mono hE HT.out.1.r.b.size))
        clear hE
        go_wp2_with fail
        go_ret2
        exact ⟨.slice none 0 0, fun h => absurd h HNO.out, fun _ => rfl, HB.out⟩
      exact AllReadyH.nil
end Go.Proofs.YtneiiinheimglaaGreatDoor.B
