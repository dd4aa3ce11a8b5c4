/-
  Contract of farref.ActRunes at an act of one kind (a sign): its runes where it may be written, else none; conditions: texts and numbers of at most 2^20; the variable internal/bytealg.MaxLen holds an int.
  Contract of farref.ActRunes at an act of one kind (a control): its runes where it may be written, else none; conditions: texts and numbers of at most 2^20; the variable internal/bytealg.MaxLen holds an int.
-/
import Derived.Test.YtneiiinheimglaaGreatDoorBActA
import Derived.BigRegion
import Derived.Deep.DeepCutAuto
import Derived.Deep.CutBlock
namespace Go.Proofs.YtneiiinheimglaaGreatDoor.B
open Go.RowKit Go.Lib Go.Proofs.YtneiiinheimglaaGreatDoor Go.Proofs.YtneiiinheimglaaGreatDoor.W Go.Proofs.YtneiiinheimglaaGreatDoor.Q Go.Proofs.YtneiiinheimglaaGreatDoor.C Go.Proofs.YtneiiinheimglaaGreatDoor.Z

attribute [local go_sem ↓] exec_storeP
set_option maxHeartbeats 16000000 in
set_option maxRecDepth 100000 in
theorem ActRunes_1 (y : Ac) (vy : Value) (m : Int) (w : World) (hv : RdI w vy y.args) (hm : w.cell? ⟨2, 0, none⟩ = some (.int .i64 m)) (_ : y.inter.length ≤ 1048576) (_ : y.text.length ≤ 1048576) (har : y.args.length ≤ 1048576) (hk : y.kind = 1) :
    Calls Tryz.prog 5 #[.agg (acells y vy).toArray] w (ARes y (wL y) w) := by
  have hK : 1 ≤ y.kind ∧ y.kind ≤ 5 := by omega
  have h4 : y.kind = 4 → (writeT y.args).2 = 0 ∧ (writeT y.args).1.length ≤ 100 := fun h => by omega
  have HAO := Hid.mk' (fun h : wOk y => act_ok h)
  have HAB := Hid.mk' (fun h1 h2 h3 => act_of (y := y) hK h4 h1 h2 h3)
  have HQ := Hid.mk' (fun h => st_zero (run_right (wL y) right_p0) h)
  have HSM := Hid.mk' (few_args right_p0 (wL y))
  have hLL : 0 < (wL y).length ∧ (wL y).length ≤ 3000000 := by rw [wL_one (by omega)]; simp
  have hL0 : 0 < (wL y).length := by have := hLL.1; omega
  have hL1 : (wL y).length ≤ 274877906944 := by have := hLL.2; omega
  have HP := Hid.mk' (fun v W (hB : Below w.heap.size w W) (hr : RdI W v (wL y)) => (show Calls Tryz.prog 13 #[.agg #[.int .i64 0, .int .i64 0, .string ⟨#[]⟩, .string ⟨#[]⟩, .string ⟨#[]⟩], v] W _ from Parsed_any p0 right_p0 m v (wL y) W hr hL1 ((hB.cell (p := ⟨2, 0, none⟩) (World.block_lt_of_cell? _ _ hm)).trans hm)))
  have HSA := Hid.mk' (fun x va vb W (h1 : RdI W va x.args) (h2 : RdI W vb y.args) (h3 : x.args.length ≤ 1000000000) => SameAct_any x y va vb W h1 h2 h3 (by omega))
  have HRU := Hid.mk' (fun c W => Rune_any c W)
  have HVY : Hid (∀ W, Below w.heap.size w W → RdI W vy y.args) := fun W h => hv.below h
  have HLE := Hid.mk' (wL_one (y := y) (by omega))
  generalize run p0 (wL y) = Y at *
  generalize wL y = L at *
  obtain ⟨q, acts⟩ := Y
  dsimp only at *
  unfold pcells at HP
  obtain ⟨ad, cp, rfl, hv2⟩ := hv
  have kb1 : (y.kind == 1) = true := by rw [hk]; rfl
  have kb2 : (y.kind == 2) = false := by rw [hk]; rfl
  have kb3 : (y.kind == 3) = false := by rw [hk]; rfl
  have kb4 : (y.kind == 4) = false := by rw [hk]; rfl
  have kb5 : (y.kind == 5) = false := by rw [hk]; rfl
  clear hv2 hm hK hk hLL  har
  have X0 := Rw.new (w := w) y (.slice ad y.args.length cp)
  have c0 := X0.a.cell (j := 0) (v := .int .i64 y.kind) rfl
  have c1 := X0.a.cell (j := 1) (v := .int .i64 y.code) rfl
  have c2 := X0.a.cell (j := 2) (v := .int .i64 y.mark) rfl
  have c3 := X0.a.cell (j := 3) (v := .string (bs y.inter)) rfl
  have c4 := X0.a.cell (j := 4) (v := .slice ad y.args.length cp) rfl
  have c5 := X0.a.cell (j := 5) (v := .string (bs y.text)) rfl
  have HX0 := Hid.mk' X0
  clear X0
  unfold acells at *
  have HX1 := Hid.mk' (HX0.out.alloc (.cells #[.int .i64 y.code] 3))
  have HR1 : Hid (RdI ((w.alloc (.cells (acells y (.slice ad y.args.length cp)).toArray 24)).alloc (.cells #[.int .i64 y.code] 3)) (.slice (some ⟨w.heap.size + 1, 0, none⟩) 1 1) L) := by
    rw [HLE.out]
    have h := rd_one (Box.new (w.alloc (.cells (acells y (.slice ad y.args.length cp)).toArray 24)) 3 [.int .i64 y.code])
    rw [World.size_alloc] at h
    exact h
  have HLN : Hid (L.length = 1) := by rw [HLE.out]; rfl
  unfold acells at *
  go_enter Tryz.func5, Tryz.ntmps5
  go_wp2_with fail
  have HV1 := HR1
  clear HR1 HLE HLN
  generalize Value.slice (some ⟨w.heap.size + 1, 0, none⟩) 1 1 = vl at *
  clear c0 c1 c2 c3 c4 c5 HX0
  obtain ⟨al, cl, vle, _, _⟩ := id HV1.out
  subst vle
  refine (HP.out _ _ HX1.out.b HV1.out).mono ?_
  rintro e w2 ⟨v2, rfl, hra, hb2⟩
  have X2 := HX1.out.later hb2
  have R2 := HV1.out.below hb2
  have bq := Box.new w2 39 [.int .i64 0, .int .i64 0, .string ⟨#[]⟩, .string ⟨#[]⟩, .string ⟨#[]⟩]
  have hL6 : Lies (w2.alloc (.cells #[.int .i64 0, .int .i64 0, .string ⟨#[]⟩, .string ⟨#[]⟩, .string ⟨#[]⟩] 39)) (.pointer (some ⟨w2.heap.size, 0, none⟩)) 5 := bq.lies0 rfl
  have hHq : Holds (.agg #[.int .i64 (q.st : Int), .int .i64 q.mark, .string (bs q.inter), .string (bs q.args), .string (bs q.text)]) 5 := holds_p q
  have hP6 := bq.putAt [.int .i64 (q.st : Int), .int .i64 q.mark, .string (bs q.inter), .string (bs q.args), .string (bs q.text)] rfl
  have hA6 : Below w2.heap.size w2 (w2.alloc (.cells #[.int .i64 0, .int .i64 0, .string ⟨#[]⟩, .string ⟨#[]⟩, .string ⟨#[]⟩] 39)) := (Below.refl _ _).alloc (Nat.le_refl _) _
  have hB6 := hP6.below _ _ (Nat.le_refl _) hA6
  have HT := Hid.mk' (And.intro (show Rt w y (.slice ad y.args.length cp) w2.heap.size q _ from ⟨X2.later hB6, hP6.box⟩) (And.intro (R2.below hB6) (hra.below hB6)))
  obtain ⟨la, lcp, lxs, lve, hlc, lex, lr, lt⟩ := hra
  clear hb2 X2 R2 bq hP6 hA6 hB6 HX1 HV1 HP lex lr lt hlc
  subst lve
  generalize hna : acts.length = na at *
  have HNA := Hid.mk' hna
  clear hna
  have hnb : ((L.length : Int) == 0) = false := beq_false_of_ne (by omega)
  go_upto_region 23 with fail
  generalize Q.putAt (w2.alloc (.cells #[.int .i64 0, .int .i64 0, .string ⟨#[]⟩, .string ⟨#[]⟩, .string ⟨#[]⟩] 39)) (.pointer (some ⟨w2.heap.size, 0, none⟩)) (.agg #[.int .i64 (q.st : Int), .int .i64 q.mark, .string (bs q.inter), .string (bs q.args), .string (bs q.text)]) = w7 at *
  generalize w2.heap.size = b6 at *
  clear hL6 hHq
  have hE : Below w7.heap.size w7 w7.drew := (Below.refl _ _).drew
  by_cases hst : q.st = 0
  · obtain rfl := HQ.out hst
    by_cases hn1 : na = 1
    · subst hn1
      obtain ⟨x, rfl⟩ : ∃ x, acts = [x] := List.length_eq_one_iff.1 HNA.out
      obtain ⟨g, vx, rfl, hvx, hcx0, hg⟩ := rd_act HT.out.2.2
      have hcx := Hid.mk' hcx0
      have HVX := Hid.mk' hvx
      have HSX : Hid (∀ W, Below w7.heap.size w7 W → Calls Tryz.prog 14 #[.agg #[.int .i64 x.kind, .int .i64 x.code, .int .i64 x.mark, .string (bs x.inter), vx, .string (bs x.text)], .agg #[.int .i64 y.kind, .int .i64 y.code, .int .i64 y.mark, .string (bs y.inter), .slice ad y.args.length cp, .string (bs y.text)]] W fun e w' => e = .returned (.bool (sameA x y)) ∧ Below W.heap.size W w') := fun W hW => HSA.out x vx _ W (HVX.out.below hW) (HVY.out W (HT.out.1.r.b.trans (Below.mono hW HT.out.1.r.b.size))) (HSM.out x (by simp))
      have HSB : Hid (if sameA x y = true then x = y else x ≠ y) := by
        rw [Hid]
        split
        · rename_i h; exact (sameA_iff x y).1 h
        · rename_i h; exact fun h2 => h ((sameA_iff x y).2 h2)
      clear hcx0 hvx HSA HSM HVY HQ HNA
      generalize sameA x y = sb at *
      refine wp_region_noPanic ?_
      refine wp_region_held_drew (S := fun w' => Below w7.heap.size w7 w') (by kernel_rfl) hE (fun hHeld => ?_)
      generalize w7.drew = wd at *
      refine wpAnyH_take (i := 0) (oi := { dst := some 89, op := Go.Op.move (Go.Operand.tmp 4), type := 22, pos := _, after := #[], guard := none }) (v := .slice al L.length cl) rfl (by kernel_rfl) (by kernel_rfl) (by kernel_rfl) (fun _ _ _ h => h) (Or.inl ⟨by rfl, fun w' hSw => ?_⟩) (by assumption) ?_
      · (try dsimp only at hSw); go_simp
      (try simp only [Act.put]); (try simp only [List.setIfInBounds_toArray]); (try simp only [List.set_cons_succ]); (try simp only [List.set_cons_zero])
      refine wpAnyH_take (i := 1) (oi := { dst := some 90, op := Go.Op.call { callee := Go.Callee.builtin Go.Builtin.len, args := #[Go.Operand.tmp 89], argTypes := #[22] }, type := 3, pos := _, after := #[{ on := 0, ground := Go.Ground.data }], guard := none }) (v := .int .i64 (L.length : Int)) rfl (by kernel_rfl) (by kernel_rfl) (by kernel_rfl) (fun _ _ _ h => h) (Or.inl ⟨by rfl, fun w' hSw => ?_⟩) (by assumption) ?_
      · (try dsimp only at hSw); go_simp
      (try simp only [Act.put]); (try simp only [List.setIfInBounds_toArray]); (try simp only [List.set_cons_succ]); (try simp only [List.set_cons_zero])
      refine wpAnyH_take (i := 2) (oi := { dst := some 91, op := Go.Op.binOp Go.BinOp.eql 3 (Go.Operand.tmp 90) (Go.Operand.const (Go.Value.int Go.IntKind.i64 0)) 3, type := 4, pos := _, after := #[{ on := 1, ground := Go.Ground.data }], guard := none }) (v := .bool false) rfl (by kernel_rfl) (by kernel_rfl) (by kernel_rfl) (fun _ _ _ h => h) (Or.inl ⟨by rfl, fun w' hSw => ?_⟩) (by assumption) ?_
      · (try dsimp only at hSw); go_simp
      (try simp only [Act.put]); (try simp only [List.setIfInBounds_toArray]); (try simp only [List.set_cons_succ]); (try simp only [List.set_cons_zero])
      refine wpAnyH_take (i := 3) (oi := { dst := some 92, op := Go.Op.move (Go.Operand.tmp 91), type := 4, pos := _, after := #[{ on := 2, ground := Go.Ground.data }], guard := none }) (v := .bool false) rfl (by kernel_rfl) (by kernel_rfl) (by kernel_rfl) (fun _ _ _ h => h) (Or.inl ⟨by rfl, fun w' hSw => ?_⟩) (by assumption) ?_
      · (try dsimp only at hSw); go_simp
      (try simp only [Act.put]); (try simp only [List.setIfInBounds_toArray]); (try simp only [List.set_cons_succ]); (try simp only [List.set_cons_zero])
      refine wpAnyH_take (i := 4) (oi := { dst := some 93, op := Go.Op.load 39 (Go.Operand.tmp 9), type := 39, pos := _, after := #[{ on := 3, ground := Go.Ground.guard }], guard := some (3, false) }) (v := .agg #[.int .i64 0, .int .i64 0, .string ⟨#[]⟩, .string ⟨#[]⟩, .string ⟨#[]⟩]) rfl (by kernel_rfl) (by kernel_rfl) (by kernel_rfl) (fun _ _ _ h => h) (Or.inl ⟨by rfl, fun w' hSw => ?_⟩) (by assumption) ?_
      · have bp := HT.out.1.p.later hSw
        exact (exec_loadP _ _ _ _ _ _ _ _ (bp.lies0 rfl)).trans (congrArg (fun z : List Value => Result.ok (Next.value (.agg z.toArray)) w') (bp.row0 rfl))
      (try simp only [Act.put]); (try simp only [List.setIfInBounds_toArray]); (try simp only [List.set_cons_succ]); (try simp only [List.set_cons_zero])
      refine wpAnyH_take (i := 5) (oi := { dst := some 94, op := Go.Op.build 39 #[], type := 39, pos := _, after := #[{ on := 3, ground := Go.Ground.guard }], guard := some (3, false) }) (v := .agg #[.int .i64 0, .int .i64 0, .string ⟨#[]⟩, .string ⟨#[]⟩, .string ⟨#[]⟩]) rfl (by kernel_rfl) (by kernel_rfl) (by kernel_rfl) (fun _ _ _ h => h) (Or.inl ⟨by rfl, fun w' hSw => ?_⟩) (by assumption) ?_
      · (try dsimp only at hSw); go_simp
      (try simp only [Act.put]); (try simp only [List.setIfInBounds_toArray]); (try simp only [List.set_cons_succ]); (try simp only [List.set_cons_zero])
      refine wpAnyH_take (i := 6) (oi := { dst := some 95, op := Go.Op.binOp Go.BinOp.neq 39 (Go.Operand.tmp 93) (Go.Operand.tmp 94) 39, type := 4, pos := _, after := #[{ on := 4, ground := Go.Ground.data }, { on := 5, ground := Go.Ground.data }, { on := 3, ground := Go.Ground.guard }], guard := some (3, false) }) (v := .bool false) rfl (by kernel_rfl) (by kernel_rfl) (by kernel_rfl) (fun _ _ _ h => h) (Or.inl ⟨by rfl, fun w' hSw => ?_⟩) (by assumption) ?_
      · (try dsimp only at hSw); go_simp
      (try simp only [Act.put]); (try simp only [List.setIfInBounds_toArray]); (try simp only [List.set_cons_succ]); (try simp only [List.set_cons_zero])
      refine wpAnyH_take (i := 7) (oi := { dst := some 96, op := Go.Op.pick (Go.Operand.tmp 92) (Go.Operand.const (Go.Value.bool true)) (Go.Operand.tmp 95), type := 4, pos := _, after := #[{ on := 3, ground := Go.Ground.data }, { on := 6, ground := Go.Ground.data }], guard := none }) (v := .bool false) rfl (by kernel_rfl) (by kernel_rfl) (by kernel_rfl) (fun _ _ _ h => h) (Or.inl ⟨by rfl, fun w' hSw => ?_⟩) (by assumption) ?_
      · (try dsimp only at hSw); go_simp
      (try simp only [Act.put]); (try simp only [List.setIfInBounds_toArray]); (try simp only [List.set_cons_succ]); (try simp only [List.set_cons_zero])
      refine wpAnyH_take (i := 8) (oi := { dst := some 97, op := Go.Op.move (Go.Operand.tmp 96), type := 4, pos := _, after := #[{ on := 7, ground := Go.Ground.data }, { on := 3, ground := Go.Ground.chain }], guard := none }) (v := .bool false) rfl (by kernel_rfl) (by kernel_rfl) (by kernel_rfl) (fun _ _ _ h => h) (Or.inl ⟨by rfl, fun w' hSw => ?_⟩) (by assumption) ?_
      · (try dsimp only at hSw); go_simp
      (try simp only [Act.put]); (try simp only [List.setIfInBounds_toArray]); (try simp only [List.set_cons_succ]); (try simp only [List.set_cons_zero])
      refine wpAnyH_take (i := 9) (oi := { dst := some 98, op := Go.Op.move (Go.Operand.tmp 10), type := 40, pos := _, after := #[{ on := 8, ground := Go.Ground.guard }], guard := some (8, false) }) (v := .slice (some ⟨g, 0, none⟩) 1 lcp) rfl (by kernel_rfl) (by kernel_rfl) (by kernel_rfl) (fun _ _ _ h => h) (Or.inl ⟨by rfl, fun w' hSw => ?_⟩) (by assumption) ?_
      · (try dsimp only at hSw); go_simp
      (try simp only [Act.put]); (try simp only [List.setIfInBounds_toArray]); (try simp only [List.set_cons_succ]); (try simp only [List.set_cons_zero])
      refine wpAnyH_take (i := 10) (oi := { dst := some 99, op := Go.Op.call { callee := Go.Callee.builtin Go.Builtin.len, args := #[Go.Operand.tmp 98], argTypes := #[40] }, type := 3, pos := _, after := #[{ on := 9, ground := Go.Ground.data }, { on := 8, ground := Go.Ground.guard }], guard := some (8, false) }) (v := .int .i64 1) rfl (by kernel_rfl) (by kernel_rfl) (by kernel_rfl) (fun _ _ _ h => h) (Or.inl ⟨by rfl, fun w' hSw => ?_⟩) (by assumption) ?_
      · (try dsimp only at hSw); go_simp
      (try simp only [Act.put]); (try simp only [List.setIfInBounds_toArray]); (try simp only [List.set_cons_succ]); (try simp only [List.set_cons_zero])
      refine wpAnyH_take (i := 11) (oi := { dst := some 100, op := Go.Op.binOp Go.BinOp.neq 3 (Go.Operand.tmp 99) (Go.Operand.const (Go.Value.int Go.IntKind.i64 1)) 3, type := 4, pos := _, after := #[{ on := 10, ground := Go.Ground.data }, { on := 8, ground := Go.Ground.guard }], guard := some (8, false) }) (v := .bool false) rfl (by kernel_rfl) (by kernel_rfl) (by kernel_rfl) (fun _ _ _ h => h) (Or.inl ⟨by rfl, fun w' hSw => ?_⟩) (by assumption) ?_
      · (try dsimp only at hSw); go_simp
      (try simp only [Act.put]); (try simp only [List.setIfInBounds_toArray]); (try simp only [List.set_cons_succ]); (try simp only [List.set_cons_zero])
      refine wpAnyH_take (i := 12) (oi := { dst := some 101, op := Go.Op.pick (Go.Operand.tmp 97) (Go.Operand.const (Go.Value.bool true)) (Go.Operand.tmp 100), type := 4, pos := _, after := #[{ on := 8, ground := Go.Ground.data }, { on := 11, ground := Go.Ground.data }], guard := none }) (v := .bool false) rfl (by kernel_rfl) (by kernel_rfl) (by kernel_rfl) (fun _ _ _ h => h) (Or.inl ⟨by rfl, fun w' hSw => ?_⟩) (by assumption) ?_
      · (try dsimp only at hSw); go_simp
      (try simp only [Act.put]); (try simp only [List.setIfInBounds_toArray]); (try simp only [List.set_cons_succ]); (try simp only [List.set_cons_zero])
      refine wpAnyH_take (i := 13) (oi := { dst := some 102, op := Go.Op.move (Go.Operand.tmp 101), type := 4, pos := _, after := #[{ on := 12, ground := Go.Ground.data }, { on := 8, ground := Go.Ground.chain }], guard := none }) (v := .bool false) rfl (by kernel_rfl) (by kernel_rfl) (by kernel_rfl) (fun _ _ _ h => h) (Or.inl ⟨by rfl, fun w' hSw => ?_⟩) (by assumption) ?_
      · (try dsimp only at hSw); go_simp
      (try simp only [Act.put]); (try simp only [List.setIfInBounds_toArray]); (try simp only [List.set_cons_succ]); (try simp only [List.set_cons_zero])
      refine wpAnyH_take (i := 14) (oi := { dst := some 103, op := Go.Op.move (Go.Operand.tmp 10), type := 40, pos := _, after := #[{ on := 13, ground := Go.Ground.guard }], guard := some (13, false) }) (v := .slice (some ⟨g, 0, none⟩) 1 lcp) rfl (by kernel_rfl) (by kernel_rfl) (by kernel_rfl) (fun _ _ _ h => h) (Or.inl ⟨by rfl, fun w' hSw => ?_⟩) (by assumption) ?_
      · (try dsimp only at hSw); go_simp
      (try simp only [Act.put]); (try simp only [List.setIfInBounds_toArray]); (try simp only [List.set_cons_succ]); (try simp only [List.set_cons_zero])
      refine wpAnyH_take (i := 15) (oi := { dst := some 104, op := Go.Op.indexAddr 40 (Go.Operand.tmp 103) (Go.Operand.const (Go.Value.int Go.IntKind.i64 0)), type := 0, pos := _, after := #[{ on := 14, ground := Go.Ground.data }, { on := 13, ground := Go.Ground.guard }], guard := some (13, false) }) (v := .pointer (some ⟨g, 0, none⟩)) rfl (by kernel_rfl) (by kernel_rfl) (by kernel_rfl) (fun _ _ _ h => h) (Or.inl ⟨by rfl, fun w' hSw => ?_⟩) (by assumption) ?_
      · (try dsimp only at hSw); go_simp
      (try simp only [Act.put]); (try simp only [List.setIfInBounds_toArray]); (try simp only [List.set_cons_succ]); (try simp only [List.set_cons_zero])
      refine wpAnyH_take (i := 16) (oi := { dst := some 105, op := Go.Op.load 24 (Go.Operand.tmp 104), type := 24, pos := _, after := #[{ on := 15, ground := Go.Ground.data }, { on := 13, ground := Go.Ground.guard }], guard := some (13, false) }) (v := .agg #[.int .i64 x.kind, .int .i64 x.code, .int .i64 x.mark, .string (bs x.inter), vx, .string (bs x.text)]) rfl (by kernel_rfl) (by kernel_rfl) (by kernel_rfl) (fun _ _ _ h => h) (Or.inl ⟨by rfl, fun w' hSw => ?_⟩) (by assumption) ?_
      · have d0 := (hSw.cell (p := ⟨g, 0, none⟩) hg).trans (hcx.out 0 (.int .i64 x.kind) rfl)
        have d1 := (hSw.cell (p := ⟨g, 1, none⟩) hg).trans (hcx.out 1 (.int .i64 x.code) rfl)
        have d2 := (hSw.cell (p := ⟨g, 2, none⟩) hg).trans (hcx.out 2 (.int .i64 x.mark) rfl)
        have d3 := (hSw.cell (p := ⟨g, 3, none⟩) hg).trans (hcx.out 3 (.string (bs x.inter)) rfl)
        have d4 := (hSw.cell (p := ⟨g, 4, none⟩) hg).trans (hcx.out 4 (vx) rfl)
        have d5 := (hSw.cell (p := ⟨g, 5, none⟩) hg).trans (hcx.out 5 (.string (bs x.text)) rfl)
        clear hSw
        go_simp
      (try simp only [Act.put]); (try simp only [List.setIfInBounds_toArray]); (try simp only [List.set_cons_succ]); (try simp only [List.set_cons_zero])
      refine wpAnyH_take (i := 17) (oi := { dst := some 106, op := Go.Op.load 24 (Go.Operand.tmp 1), type := 24, pos := _, after := #[{ on := 13, ground := Go.Ground.guard }], guard := some (13, false) }) (v := .agg #[.int .i64 y.kind, .int .i64 y.code, .int .i64 y.mark, .string (bs y.inter), .slice ad y.args.length cp, .string (bs y.text)]) rfl (by kernel_rfl) (by kernel_rfl) (by kernel_rfl) (fun _ _ _ h => h) (Or.inl ⟨by rfl, fun w' hSw => ?_⟩) (by assumption) ?_
      · have by' := HT.out.1.r.a.later hSw
        have d0 := by'.cell (j := 0) (v := .int .i64 y.kind) rfl
        have d1 := by'.cell (j := 1) (v := .int .i64 y.code) rfl
        have d2 := by'.cell (j := 2) (v := .int .i64 y.mark) rfl
        have d3 := by'.cell (j := 3) (v := .string (bs y.inter)) rfl
        have d4 := by'.cell (j := 4) (v := .slice ad y.args.length cp) rfl
        have d5 := by'.cell (j := 5) (v := .string (bs y.text)) rfl
        clear hSw by'
        go_simp
      (try simp only [Act.put]); (try simp only [List.setIfInBounds_toArray]); (try simp only [List.set_cons_succ]); (try simp only [List.set_cons_zero])
      refine wpAnyH_ready (rs := [18]) (by kernel_rfl) (by simp) ?_
      refine AllReadyH.cons (o := { dst := some 107, op := Go.Op.call { callee := Go.Callee.value (Go.Operand.func 14), args := #[Go.Operand.tmp 105, Go.Operand.tmp 106], argTypes := #[24, 24] }, type := 4, pos := _, after := #[{ on := 16, ground := Go.Ground.data }, { on := 17, ground := Go.Ground.data }, { on := 13, ground := Go.Ground.chain }, { on := 13, ground := Go.Ground.guard }], guard := some (13, false) }) rfl (fun K hK => ?_) ?_
      · skip
        go_simp
        refine (HSX.out wd hE).mono ?_
        rintro e v1 ⟨rfl, hbv1⟩
        have e1 := hE.trans (Below.mono hbv1 hE.size)
        clear hbv1
        refine hK.out _ _ e1 (fun hHeld => ?_)
        clear hK K
        (try simp only [Act.put]); (try simp only [List.setIfInBounds_toArray]); (try simp only [List.set_cons_succ]); (try simp only [List.set_cons_zero])
        refine wpAnyH_take (i := 19) (oi := { dst := some 108, op := Go.Op.unOp Go.UnOp.not 4 (Go.Operand.tmp 107), type := 4, pos := _, after := #[{ on := 18, ground := Go.Ground.data }, { on := 13, ground := Go.Ground.guard }], guard := some (13, false) }) (v := .bool (!sb)) rfl (by kernel_rfl) (by kernel_rfl) (by kernel_rfl) (fun _ _ _ h => h) (Or.inl ⟨by rfl, fun w' hSw => ?_⟩) (by assumption) ?_
        · (try dsimp only at hSw); go_simp
        (try simp only [Act.put]); (try simp only [List.setIfInBounds_toArray]); (try simp only [List.set_cons_succ]); (try simp only [List.set_cons_zero])
        refine wpAnyH_take (i := 20) (oi := { dst := some 109, op := Go.Op.pick (Go.Operand.tmp 102) (Go.Operand.const (Go.Value.bool true)) (Go.Operand.tmp 108), type := 4, pos := _, after := #[{ on := 13, ground := Go.Ground.data }, { on := 19, ground := Go.Ground.data }], guard := none }) (v := .bool (!sb)) rfl (by kernel_rfl) (by kernel_rfl) (by kernel_rfl) (fun _ _ _ h => h) (Or.inl ⟨by rfl, fun w' hSw => ?_⟩) (by assumption) ?_
        · (try dsimp only at hSw); go_simp
        (try simp only [Act.put]); (try simp only [List.setIfInBounds_toArray]); (try simp only [List.set_cons_succ]); (try simp only [List.set_cons_zero])
        refine wpAnyH_done (by kernel_rfl) ?_ _
        refine NoPanic.normal ?_
        have HE := Hid.mk' e1
        have HB := Hid.mk' (HT.out.1.r.b.trans (Below.mono e1 HT.out.1.r.b.size))
        clear e1
        cases sb with
        | false =>
          have HNO : Hid (¬ wOk y) := fun h => HSB.out (by have := (HAO.out h).1; simp only [Prod.mk.injEq, List.cons.injEq, and_true] at this; exact this.2)
          go_wp2_with fail
          go_ret2
          exact ⟨.slice none 0 0, fun h => absurd h HNO.out, fun _ => rfl, HB.out⟩
        | true =>
          have HYE : Hid (x = y) := HSB.out
          have HRL := Hid.mk' (HT.out.2.1.below HE.out)
          have HCE : Hid (∀ k (h : k < L.length), ∃ b off, al = some ⟨b, off, none⟩ ∧ v1.cell? ⟨b, off + k, none⟩ = some (.int .i64 L[k])) := fun k h => (rd_at HRL.out k h).elim fun b hb => hb.elim fun off ho => ⟨b, off, ho.1, ho.2.1⟩
          have HYES : Hid ((∀ j (h : j < L.length), isRb L[j] = true) → wOk y) := fun h => HAB.out rfl (by rw [HYE.out]) (fun c hc => by
            obtain ⟨j, hj, e⟩ := List.mem_iff_getElem.1 hc
            rw [← e]; exact h j hj)
          have HBAD : Hid (∀ j (h : j < L.length), isRb L[j] = false → ¬ wOk y) := fun j h hf ho => by
            have := (HAO.out ho).2 L[j] (List.getElem_mem h)
            rw [hf] at this
            cases this
          clear HT HAO HAB HE HSX HSB HYE hcx HVX hst
          generalize v1 = wf at *
          go_wp2_with fail
          go_loopg [112] L.length (fun gg s112 wr => ∃ k : Nat, k ≤ L.length ∧ L.length - k ≤ gg ∧ s112 = .int .i64 (k : Int) ∧ Hid (∀ j (h : j < L.length), j < k → isRb L[j] = true) ∧ wr = wf)
          case atStart => exact ⟨0, Nat.zero_le _, by omega, rfl, fun j h h0 => absurd h0 (Nat.not_lt_zero j), rfl⟩
          case round =>
            obtain ⟨k, hk, hgk, rfl, HJ, hw⟩ := hrel
            have HGK := Hid.mk' hgk
            clear hgk
            subst hw
            by_cases hlt : k < L.length
            · obtain ⟨b1, o1, ha, hcl⟩ := HCE.out k hlt
              subst ha
              have HC := Hid.mk' (HRU.out L[k] wr)
              have HJ2 : Hid (isRb L[k] = true → ∀ j (h : j < L.length), j < k + 1 → isRb L[j] = true) := fun ht j h hj => by
                rcases Nat.lt_or_ge j k with h1 | h1
                · exact HJ.out j h h1
                · have : j = k := by omega
                  subst this; exact ht
              have HNO := Hid.mk' (HBAD.out k hlt)
              clear HCE HJ HBAD HYES
              generalize hz : isRb L[k] = z at *
              clear hz
              generalize L[k] = c at *
              go_wp2_with fail
              refine HC.out.mono ?_
              rintro e w9 ⟨rfl, hw9⟩
              subst hw9
              clear HC
              cases z with
              | false =>
                go_wp2_with fail
                go_ret2
                exact ⟨.slice none 0 0, fun h => absurd h (HNO.out trivial), fun _ => rfl, HB.out⟩
              | true =>
                have HJ3 := Hid.mk' (HJ2.out rfl)
                clear HJ2 HNO
                go_wp2_with fail
                go_roundg (L.length - (k + 1))
                case measure => have := HGK.out; omega
                case rel => exact ⟨k + 1, by omega, Nat.le_refl _, by go_num, HJ3, rfl⟩
            · obtain rfl : k = L.length := by omega
              have HY : Hid (wOk y) := HYES.out (fun j h => HJ.out j h h)
              clear HCE HJ HBAD HYES
              go_wp2_with fail
              go_ret2
              exact ⟨_, fun _ => ⟨rfl, HRL.out⟩, fun h => absurd HY.out h, HB.out⟩
      exact AllReadyH.nil
    · have HNO : Hid (¬ wOk y) := fun h => hn1 (by have := (HAO.out h).1; simp only [Prod.mk.injEq] at this; rw [← HNA.out, this.2]; rfl)
      have hnb2 : ((na : Int) != 1) = true := bne_of (by omega)
      clear HAO HAB HQ HSA HSM HVY HRU HNA hst
      refine wp_region_noPanic ?_
      refine wp_region_held_drew (S := fun w' => Below w7.heap.size w7 w') (by kernel_rfl) hE (fun hHeld => ?_)
      generalize w7.drew = wd at *
      refine wpAnyH_take (i := 0) (oi := { dst := some 89, op := Go.Op.move (Go.Operand.tmp 4), type := 22, pos := _, after := #[], guard := none }) (v := .slice al L.length cl) rfl (by kernel_rfl) (by kernel_rfl) (by kernel_rfl) (fun _ _ _ h => h) (Or.inl ⟨by rfl, fun w' hSw => ?_⟩) (by assumption) ?_
      · (try dsimp only at hSw); go_simp
      (try simp only [Act.put]); (try simp only [List.setIfInBounds_toArray]); (try simp only [List.set_cons_succ]); (try simp only [List.set_cons_zero])
      refine wpAnyH_take (i := 1) (oi := { dst := some 90, op := Go.Op.call { callee := Go.Callee.builtin Go.Builtin.len, args := #[Go.Operand.tmp 89], argTypes := #[22] }, type := 3, pos := _, after := #[{ on := 0, ground := Go.Ground.data }], guard := none }) (v := .int .i64 (L.length : Int)) rfl (by kernel_rfl) (by kernel_rfl) (by kernel_rfl) (fun _ _ _ h => h) (Or.inl ⟨by rfl, fun w' hSw => ?_⟩) (by assumption) ?_
      · (try dsimp only at hSw); go_simp
      (try simp only [Act.put]); (try simp only [List.setIfInBounds_toArray]); (try simp only [List.set_cons_succ]); (try simp only [List.set_cons_zero])
      refine wpAnyH_take (i := 2) (oi := { dst := some 91, op := Go.Op.binOp Go.BinOp.eql 3 (Go.Operand.tmp 90) (Go.Operand.const (Go.Value.int Go.IntKind.i64 0)) 3, type := 4, pos := _, after := #[{ on := 1, ground := Go.Ground.data }], guard := none }) (v := .bool false) rfl (by kernel_rfl) (by kernel_rfl) (by kernel_rfl) (fun _ _ _ h => h) (Or.inl ⟨by rfl, fun w' hSw => ?_⟩) (by assumption) ?_
      · (try dsimp only at hSw); go_simp
      (try simp only [Act.put]); (try simp only [List.setIfInBounds_toArray]); (try simp only [List.set_cons_succ]); (try simp only [List.set_cons_zero])
      refine wpAnyH_take (i := 3) (oi := { dst := some 92, op := Go.Op.move (Go.Operand.tmp 91), type := 4, pos := _, after := #[{ on := 2, ground := Go.Ground.data }], guard := none }) (v := .bool false) rfl (by kernel_rfl) (by kernel_rfl) (by kernel_rfl) (fun _ _ _ h => h) (Or.inl ⟨by rfl, fun w' hSw => ?_⟩) (by assumption) ?_
      · (try dsimp only at hSw); go_simp
      (try simp only [Act.put]); (try simp only [List.setIfInBounds_toArray]); (try simp only [List.set_cons_succ]); (try simp only [List.set_cons_zero])
      refine wpAnyH_take (i := 4) (oi := { dst := some 93, op := Go.Op.load 39 (Go.Operand.tmp 9), type := 39, pos := _, after := #[{ on := 3, ground := Go.Ground.guard }], guard := some (3, false) }) (v := .agg #[.int .i64 0, .int .i64 0, .string ⟨#[]⟩, .string ⟨#[]⟩, .string ⟨#[]⟩]) rfl (by kernel_rfl) (by kernel_rfl) (by kernel_rfl) (fun _ _ _ h => h) (Or.inl ⟨by rfl, fun w' hSw => ?_⟩) (by assumption) ?_
      · have bp := HT.out.1.p.later hSw
        exact (exec_loadP _ _ _ _ _ _ _ _ (bp.lies0 rfl)).trans (congrArg (fun z : List Value => Result.ok (Next.value (.agg z.toArray)) w') (bp.row0 rfl))
      (try simp only [Act.put]); (try simp only [List.setIfInBounds_toArray]); (try simp only [List.set_cons_succ]); (try simp only [List.set_cons_zero])
      refine wpAnyH_take (i := 5) (oi := { dst := some 94, op := Go.Op.build 39 #[], type := 39, pos := _, after := #[{ on := 3, ground := Go.Ground.guard }], guard := some (3, false) }) (v := .agg #[.int .i64 0, .int .i64 0, .string ⟨#[]⟩, .string ⟨#[]⟩, .string ⟨#[]⟩]) rfl (by kernel_rfl) (by kernel_rfl) (by kernel_rfl) (fun _ _ _ h => h) (Or.inl ⟨by rfl, fun w' hSw => ?_⟩) (by assumption) ?_
      · (try dsimp only at hSw); go_simp
      (try simp only [Act.put]); (try simp only [List.setIfInBounds_toArray]); (try simp only [List.set_cons_succ]); (try simp only [List.set_cons_zero])
      refine wpAnyH_take (i := 6) (oi := { dst := some 95, op := Go.Op.binOp Go.BinOp.neq 39 (Go.Operand.tmp 93) (Go.Operand.tmp 94) 39, type := 4, pos := _, after := #[{ on := 4, ground := Go.Ground.data }, { on := 5, ground := Go.Ground.data }, { on := 3, ground := Go.Ground.guard }], guard := some (3, false) }) (v := .bool false) rfl (by kernel_rfl) (by kernel_rfl) (by kernel_rfl) (fun _ _ _ h => h) (Or.inl ⟨by rfl, fun w' hSw => ?_⟩) (by assumption) ?_
      · (try dsimp only at hSw); go_simp
      (try simp only [Act.put]); (try simp only [List.setIfInBounds_toArray]); (try simp only [List.set_cons_succ]); (try simp only [List.set_cons_zero])
      refine wpAnyH_take (i := 7) (oi := { dst := some 96, op := Go.Op.pick (Go.Operand.tmp 92) (Go.Operand.const (Go.Value.bool true)) (Go.Operand.tmp 95), type := 4, pos := _, after := #[{ on := 3, ground := Go.Ground.data }, { on := 6, ground := Go.Ground.data }], guard := none }) (v := .bool false) rfl (by kernel_rfl) (by kernel_rfl) (by kernel_rfl) (fun _ _ _ h => h) (Or.inl ⟨by rfl, fun w' hSw => ?_⟩) (by assumption) ?_
      · (try dsimp only at hSw); go_simp
      (try simp only [Act.put]); (try simp only [List.setIfInBounds_toArray]); (try simp only [List.set_cons_succ]); (try simp only [List.set_cons_zero])
      refine wpAnyH_take (i := 8) (oi := { dst := some 97, op := Go.Op.move (Go.Operand.tmp 96), type := 4, pos := _, after := #[{ on := 7, ground := Go.Ground.data }, { on := 3, ground := Go.Ground.chain }], guard := none }) (v := .bool false) rfl (by kernel_rfl) (by kernel_rfl) (by kernel_rfl) (fun _ _ _ h => h) (Or.inl ⟨by rfl, fun w' hSw => ?_⟩) (by assumption) ?_
      · (try dsimp only at hSw); go_simp
      (try simp only [Act.put]); (try simp only [List.setIfInBounds_toArray]); (try simp only [List.set_cons_succ]); (try simp only [List.set_cons_zero])
      refine wpAnyH_take (i := 9) (oi := { dst := some 98, op := Go.Op.move (Go.Operand.tmp 10), type := 40, pos := _, after := #[{ on := 8, ground := Go.Ground.guard }], guard := some (8, false) }) (v := .slice la na lcp) rfl (by kernel_rfl) (by kernel_rfl) (by kernel_rfl) (fun _ _ _ h => h) (Or.inl ⟨by rfl, fun w' hSw => ?_⟩) (by assumption) ?_
      · (try dsimp only at hSw); go_simp
      (try simp only [Act.put]); (try simp only [List.setIfInBounds_toArray]); (try simp only [List.set_cons_succ]); (try simp only [List.set_cons_zero])
      refine wpAnyH_take (i := 10) (oi := { dst := some 99, op := Go.Op.call { callee := Go.Callee.builtin Go.Builtin.len, args := #[Go.Operand.tmp 98], argTypes := #[40] }, type := 3, pos := _, after := #[{ on := 9, ground := Go.Ground.data }, { on := 8, ground := Go.Ground.guard }], guard := some (8, false) }) (v := .int .i64 (na : Int)) rfl (by kernel_rfl) (by kernel_rfl) (by kernel_rfl) (fun _ _ _ h => h) (Or.inl ⟨by rfl, fun w' hSw => ?_⟩) (by assumption) ?_
      · (try dsimp only at hSw); go_simp
      (try simp only [Act.put]); (try simp only [List.setIfInBounds_toArray]); (try simp only [List.set_cons_succ]); (try simp only [List.set_cons_zero])
      refine wpAnyH_take (i := 11) (oi := { dst := some 100, op := Go.Op.binOp Go.BinOp.neq 3 (Go.Operand.tmp 99) (Go.Operand.const (Go.Value.int Go.IntKind.i64 1)) 3, type := 4, pos := _, after := #[{ on := 10, ground := Go.Ground.data }, { on := 8, ground := Go.Ground.guard }], guard := some (8, false) }) (v := .bool true) rfl (by kernel_rfl) (by kernel_rfl) (by kernel_rfl) (fun _ _ _ h => h) (Or.inl ⟨by rfl, fun w' hSw => ?_⟩) (by assumption) ?_
      · (try dsimp only at hSw); go_simp
      (try simp only [Act.put]); (try simp only [List.setIfInBounds_toArray]); (try simp only [List.set_cons_succ]); (try simp only [List.set_cons_zero])
      refine wpAnyH_take (i := 12) (oi := { dst := some 101, op := Go.Op.pick (Go.Operand.tmp 97) (Go.Operand.const (Go.Value.bool true)) (Go.Operand.tmp 100), type := 4, pos := _, after := #[{ on := 8, ground := Go.Ground.data }, { on := 11, ground := Go.Ground.data }], guard := none }) (v := .bool true) rfl (by kernel_rfl) (by kernel_rfl) (by kernel_rfl) (fun _ _ _ h => h) (Or.inl ⟨by rfl, fun w' hSw => ?_⟩) (by assumption) ?_
      · (try dsimp only at hSw); go_simp
      (try simp only [Act.put]); (try simp only [List.setIfInBounds_toArray]); (try simp only [List.set_cons_succ]); (try simp only [List.set_cons_zero])
      refine wpAnyH_take (i := 13) (oi := { dst := some 102, op := Go.Op.move (Go.Operand.tmp 101), type := 4, pos := _, after := #[{ on := 12, ground := Go.Ground.data }, { on := 8, ground := Go.Ground.chain }], guard := none }) (v := .bool true) rfl (by kernel_rfl) (by kernel_rfl) (by kernel_rfl) (fun _ _ _ h => h) (Or.inl ⟨by rfl, fun w' hSw => ?_⟩) (by assumption) ?_
      · (try dsimp only at hSw); go_simp
      (try simp only [Act.put]); (try simp only [List.setIfInBounds_toArray]); (try simp only [List.set_cons_succ]); (try simp only [List.set_cons_zero])
      refine wpAnyH_take (i := 14) (oi := { dst := some 103, op := Go.Op.move (Go.Operand.tmp 10), type := 40, pos := _, after := #[{ on := 13, ground := Go.Ground.guard }], guard := some (13, false) }) (v := undef) rfl (by kernel_rfl) (by kernel_rfl) (by kernel_rfl) (fun _ _ _ h => h) (Or.inr ⟨by rfl, rfl⟩) (by assumption) ?_
      (try simp only [Act.put]); (try simp only [List.setIfInBounds_toArray]); (try simp only [List.set_cons_succ]); (try simp only [List.set_cons_zero])
      refine wpAnyH_take (i := 15) (oi := { dst := some 104, op := Go.Op.indexAddr 40 (Go.Operand.tmp 103) (Go.Operand.const (Go.Value.int Go.IntKind.i64 0)), type := 0, pos := _, after := #[{ on := 14, ground := Go.Ground.data }, { on := 13, ground := Go.Ground.guard }], guard := some (13, false) }) (v := undef) rfl (by kernel_rfl) (by kernel_rfl) (by kernel_rfl) (fun _ _ _ h => h) (Or.inr ⟨by rfl, rfl⟩) (by assumption) ?_
      (try simp only [Act.put]); (try simp only [List.setIfInBounds_toArray]); (try simp only [List.set_cons_succ]); (try simp only [List.set_cons_zero])
      refine wpAnyH_take (i := 16) (oi := { dst := some 105, op := Go.Op.load 24 (Go.Operand.tmp 104), type := 24, pos := _, after := #[{ on := 15, ground := Go.Ground.data }, { on := 13, ground := Go.Ground.guard }], guard := some (13, false) }) (v := undef) rfl (by kernel_rfl) (by kernel_rfl) (by kernel_rfl) (fun _ _ _ h => h) (Or.inr ⟨by rfl, rfl⟩) (by assumption) ?_
      (try simp only [Act.put]); (try simp only [List.setIfInBounds_toArray]); (try simp only [List.set_cons_succ]); (try simp only [List.set_cons_zero])
      refine wpAnyH_take (i := 17) (oi := { dst := some 106, op := Go.Op.load 24 (Go.Operand.tmp 1), type := 24, pos := _, after := #[{ on := 13, ground := Go.Ground.guard }], guard := some (13, false) }) (v := undef) rfl (by kernel_rfl) (by kernel_rfl) (by kernel_rfl) (fun _ _ _ h => h) (Or.inr ⟨by rfl, rfl⟩) (by assumption) ?_
      (try simp only [Act.put]); (try simp only [List.setIfInBounds_toArray]); (try simp only [List.set_cons_succ]); (try simp only [List.set_cons_zero])
      refine wpAnyH_ready (rs := [18]) (by kernel_rfl) (by simp) ?_
      refine AllReadyH.cons (o := { dst := some 107, op := Go.Op.call { callee := Go.Callee.value (Go.Operand.func 14), args := #[Go.Operand.tmp 105, Go.Operand.tmp 106], argTypes := #[24, 24] }, type := 4, pos := _, after := #[{ on := 16, ground := Go.Ground.data }, { on := 17, ground := Go.Ground.data }, { on := 13, ground := Go.Ground.chain }, { on := 13, ground := Go.Ground.guard }], guard := some (13, false) }) rfl (fun K hK => ?_) ?_
      · skip
        go_simp
        refine hK.out _ _ hE (fun hHeld => ?_)
        clear hK K
        (try simp only [Act.put]); (try simp only [List.setIfInBounds_toArray]); (try simp only [List.set_cons_succ]); (try simp only [List.set_cons_zero])
        refine wpAnyH_take (i := 19) (oi := { dst := some 108, op := Go.Op.unOp Go.UnOp.not 4 (Go.Operand.tmp 107), type := 4, pos := _, after := #[{ on := 18, ground := Go.Ground.data }, { on := 13, ground := Go.Ground.guard }], guard := some (13, false) }) (v := undef) rfl (by kernel_rfl) (by kernel_rfl) (by kernel_rfl) (fun _ _ _ h => h) (Or.inr ⟨by rfl, rfl⟩) (by assumption) ?_
        (try simp only [Act.put]); (try simp only [List.setIfInBounds_toArray]); (try simp only [List.set_cons_succ]); (try simp only [List.set_cons_zero])
        refine wpAnyH_take (i := 20) (oi := { dst := some 109, op := Go.Op.pick (Go.Operand.tmp 102) (Go.Operand.const (Go.Value.bool true)) (Go.Operand.tmp 108), type := 4, pos := _, after := #[{ on := 13, ground := Go.Ground.data }, { on := 19, ground := Go.Ground.data }], guard := none }) (v := .bool true) rfl (by kernel_rfl) (by kernel_rfl) (by kernel_rfl) (fun _ _ _ h => h) (Or.inl ⟨by rfl, fun w' hSw => ?_⟩) (by assumption) ?_
        · (try dsimp only at hSw); go_simp
        (try simp only [Act.put]); (try simp only [List.setIfInBounds_toArray]); (try simp only [List.set_cons_succ]); (try simp only [List.set_cons_zero])
        refine wpAnyH_done (by kernel_rfl) ?_ _
        refine NoPanic.normal ?_
        have HE := Hid.mk' hE
        have HB := Hid.mk' (HT.out.1.r.b.trans (Below.mono hE HT.out.1.r.b.size))
        clear hE
        go_wp2_with fail
        go_ret2
        exact ⟨.slice none 0 0, fun h => absurd h HNO.out, fun _ => rfl, HB.out⟩
      exact AllReadyH.nil
  · have HNO : Hid (¬ wOk y) := fun h => hst (by have := (HAO.out h).1; simp only [Prod.mk.injEq] at this; rw [this.1]; rfl)
    have hqb : ((q.st : Int) == 0) = false := beq_false_of_ne (by omega)
    clear HAO HAB HQ HSA HSM HVY HRU HNA hst
    refine wp_region_noPanic ?_
    refine wp_region_held_drew (S := fun w' => Below w7.heap.size w7 w') (by kernel_rfl) hE (fun hHeld => ?_)
    generalize w7.drew = wd at *
    refine wpAnyH_take (i := 0) (oi := { dst := some 89, op := Go.Op.move (Go.Operand.tmp 4), type := 22, pos := _, after := #[], guard := none }) (v := .slice al L.length cl) rfl (by kernel_rfl) (by kernel_rfl) (by kernel_rfl) (fun _ _ _ h => h) (Or.inl ⟨by rfl, fun w' hSw => ?_⟩) (by assumption) ?_
    · (try dsimp only at hSw); go_simp
    (try simp only [Act.put]); (try simp only [List.setIfInBounds_toArray]); (try simp only [List.set_cons_succ]); (try simp only [List.set_cons_zero])
    refine wpAnyH_take (i := 1) (oi := { dst := some 90, op := Go.Op.call { callee := Go.Callee.builtin Go.Builtin.len, args := #[Go.Operand.tmp 89], argTypes := #[22] }, type := 3, pos := _, after := #[{ on := 0, ground := Go.Ground.data }], guard := none }) (v := .int .i64 (L.length : Int)) rfl (by kernel_rfl) (by kernel_rfl) (by kernel_rfl) (fun _ _ _ h => h) (Or.inl ⟨by rfl, fun w' hSw => ?_⟩) (by assumption) ?_
    · (try dsimp only at hSw); go_simp
    (try simp only [Act.put]); (try simp only [List.setIfInBounds_toArray]); (try simp only [List.set_cons_succ]); (try simp only [List.set_cons_zero])
    refine wpAnyH_take (i := 2) (oi := { dst := some 91, op := Go.Op.binOp Go.BinOp.eql 3 (Go.Operand.tmp 90) (Go.Operand.const (Go.Value.int Go.IntKind.i64 0)) 3, type := 4, pos := _, after := #[{ on := 1, ground := Go.Ground.data }], guard := none }) (v := .bool false) rfl (by kernel_rfl) (by kernel_rfl) (by kernel_rfl) (fun _ _ _ h => h) (Or.inl ⟨by rfl, fun w' hSw => ?_⟩) (by assumption) ?_
    · (try dsimp only at hSw); go_simp
    (try simp only [Act.put]); (try simp only [List.setIfInBounds_toArray]); (try simp only [List.set_cons_succ]); (try simp only [List.set_cons_zero])
    refine wpAnyH_take (i := 3) (oi := { dst := some 92, op := Go.Op.move (Go.Operand.tmp 91), type := 4, pos := _, after := #[{ on := 2, ground := Go.Ground.data }], guard := none }) (v := .bool false) rfl (by kernel_rfl) (by kernel_rfl) (by kernel_rfl) (fun _ _ _ h => h) (Or.inl ⟨by rfl, fun w' hSw => ?_⟩) (by assumption) ?_
    · (try dsimp only at hSw); go_simp
    (try simp only [Act.put]); (try simp only [List.setIfInBounds_toArray]); (try simp only [List.set_cons_succ]); (try simp only [List.set_cons_zero])
    refine wpAnyH_take (i := 4) (oi := { dst := some 93, op := Go.Op.load 39 (Go.Operand.tmp 9), type := 39, pos := _, after := #[{ on := 3, ground := Go.Ground.guard }], guard := some (3, false) }) (v := .agg #[.int .i64 (q.st : Int), .int .i64 q.mark, .string (bs q.inter), .string (bs q.args), .string (bs q.text)]) rfl (by kernel_rfl) (by kernel_rfl) (by kernel_rfl) (fun _ _ _ h => h) (Or.inl ⟨by rfl, fun w' hSw => ?_⟩) (by assumption) ?_
    · have bp := HT.out.1.p.later hSw
      exact (exec_loadP _ _ _ _ _ _ _ _ (bp.lies0 rfl)).trans (congrArg (fun z : List Value => Result.ok (Next.value (.agg z.toArray)) w') (bp.row0 rfl))
    (try simp only [Act.put]); (try simp only [List.setIfInBounds_toArray]); (try simp only [List.set_cons_succ]); (try simp only [List.set_cons_zero])
    refine wpAnyH_take (i := 5) (oi := { dst := some 94, op := Go.Op.build 39 #[], type := 39, pos := _, after := #[{ on := 3, ground := Go.Ground.guard }], guard := some (3, false) }) (v := .agg #[.int .i64 0, .int .i64 0, .string ⟨#[]⟩, .string ⟨#[]⟩, .string ⟨#[]⟩]) rfl (by kernel_rfl) (by kernel_rfl) (by kernel_rfl) (fun _ _ _ h => h) (Or.inl ⟨by rfl, fun w' hSw => ?_⟩) (by assumption) ?_
    · (try dsimp only at hSw); go_simp
    (try simp only [Act.put]); (try simp only [List.setIfInBounds_toArray]); (try simp only [List.set_cons_succ]); (try simp only [List.set_cons_zero])
    refine wpAnyH_take (i := 6) (oi := { dst := some 95, op := Go.Op.binOp Go.BinOp.neq 39 (Go.Operand.tmp 93) (Go.Operand.tmp 94) 39, type := 4, pos := _, after := #[{ on := 4, ground := Go.Ground.data }, { on := 5, ground := Go.Ground.data }, { on := 3, ground := Go.Ground.guard }], guard := some (3, false) }) (v := .bool true) rfl (by kernel_rfl) (by kernel_rfl) (by kernel_rfl) (fun _ _ _ h => h) (Or.inl ⟨by rfl, fun w' hSw => ?_⟩) (by assumption) ?_
    · (try dsimp only at hSw); go_simp
    (try simp only [Act.put]); (try simp only [List.setIfInBounds_toArray]); (try simp only [List.set_cons_succ]); (try simp only [List.set_cons_zero])
    refine wpAnyH_take (i := 7) (oi := { dst := some 96, op := Go.Op.pick (Go.Operand.tmp 92) (Go.Operand.const (Go.Value.bool true)) (Go.Operand.tmp 95), type := 4, pos := _, after := #[{ on := 3, ground := Go.Ground.data }, { on := 6, ground := Go.Ground.data }], guard := none }) (v := .bool true) rfl (by kernel_rfl) (by kernel_rfl) (by kernel_rfl) (fun _ _ _ h => h) (Or.inl ⟨by rfl, fun w' hSw => ?_⟩) (by assumption) ?_
    · (try dsimp only at hSw); go_simp
    (try simp only [Act.put]); (try simp only [List.setIfInBounds_toArray]); (try simp only [List.set_cons_succ]); (try simp only [List.set_cons_zero])
    refine wpAnyH_take (i := 8) (oi := { dst := some 97, op := Go.Op.move (Go.Operand.tmp 96), type := 4, pos := _, after := #[{ on := 7, ground := Go.Ground.data }, { on := 3, ground := Go.Ground.chain }], guard := none }) (v := .bool true) rfl (by kernel_rfl) (by kernel_rfl) (by kernel_rfl) (fun _ _ _ h => h) (Or.inl ⟨by rfl, fun w' hSw => ?_⟩) (by assumption) ?_
    · (try dsimp only at hSw); go_simp
    (try simp only [Act.put]); (try simp only [List.setIfInBounds_toArray]); (try simp only [List.set_cons_succ]); (try simp only [List.set_cons_zero])
    refine wpAnyH_take (i := 9) (oi := { dst := some 98, op := Go.Op.move (Go.Operand.tmp 10), type := 40, pos := _, after := #[{ on := 8, ground := Go.Ground.guard }], guard := some (8, false) }) (v := undef) rfl (by kernel_rfl) (by kernel_rfl) (by kernel_rfl) (fun _ _ _ h => h) (Or.inr ⟨by rfl, rfl⟩) (by assumption) ?_
    (try simp only [Act.put]); (try simp only [List.setIfInBounds_toArray]); (try simp only [List.set_cons_succ]); (try simp only [List.set_cons_zero])
    refine wpAnyH_take (i := 10) (oi := { dst := some 99, op := Go.Op.call { callee := Go.Callee.builtin Go.Builtin.len, args := #[Go.Operand.tmp 98], argTypes := #[40] }, type := 3, pos := _, after := #[{ on := 9, ground := Go.Ground.data }, { on := 8, ground := Go.Ground.guard }], guard := some (8, false) }) (v := undef) rfl (by kernel_rfl) (by kernel_rfl) (by kernel_rfl) (fun _ _ _ h => h) (Or.inr ⟨by rfl, rfl⟩) (by assumption) ?_
    (try simp only [Act.put]); (try simp only [List.setIfInBounds_toArray]); (try simp only [List.set_cons_succ]); (try simp only [List.set_cons_zero])
    refine wpAnyH_take (i := 11) (oi := { dst := some 100, op := Go.Op.binOp Go.BinOp.neq 3 (Go.Operand.tmp 99) (Go.Operand.const (Go.Value.int Go.IntKind.i64 1)) 3, type := 4, pos := _, after := #[{ on := 10, ground := Go.Ground.data }, { on := 8, ground := Go.Ground.guard }], guard := some (8, false) }) (v := undef) rfl (by kernel_rfl) (by kernel_rfl) (by kernel_rfl) (fun _ _ _ h => h) (Or.inr ⟨by rfl, rfl⟩) (by assumption) ?_
    (try simp only [Act.put]); (try simp only [List.setIfInBounds_toArray]); (try simp only [List.set_cons_succ]); (try simp only [List.set_cons_zero])
    refine wpAnyH_take (i := 12) (oi := { dst := some 101, op := Go.Op.pick (Go.Operand.tmp 97) (Go.Operand.const (Go.Value.bool true)) (Go.Operand.tmp 100), type := 4, pos := _, after := #[{ on := 8, ground := Go.Ground.data }, { on := 11, ground := Go.Ground.data }], guard := none }) (v := .bool true) rfl (by kernel_rfl) (by kernel_rfl) (by kernel_rfl) (fun _ _ _ h => h) (Or.inl ⟨by rfl, fun w' hSw => ?_⟩) (by assumption) ?_
    · (try dsimp only at hSw); go_simp
    (try simp only [Act.put]); (try simp only [List.setIfInBounds_toArray]); (try simp only [List.set_cons_succ]); (try simp only [List.set_cons_zero])
    refine wpAnyH_take (i := 13) (oi := { dst := some 102, op := Go.Op.move (Go.Operand.tmp 101), type := 4, pos := _, after := #[{ on := 12, ground := Go.Ground.data }, { on := 8, ground := Go.Ground.chain }], guard := none }) (v := .bool true) rfl (by kernel_rfl) (by kernel_rfl) (by kernel_rfl) (fun _ _ _ h => h) (Or.inl ⟨by rfl, fun w' hSw => ?_⟩) (by assumption) ?_
    · (try dsimp only at hSw); go_simp
    (try simp only [Act.put]); (try simp only [List.setIfInBounds_toArray]); (try simp only [List.set_cons_succ]); (try simp only [List.set_cons_zero])
    refine wpAnyH_take (i := 14) (oi := { dst := some 103, op := Go.Op.move (Go.Operand.tmp 10), type := 40, pos := _, after := #[{ on := 13, ground := Go.Ground.guard }], guard := some (13, false) }) (v := undef) rfl (by kernel_rfl) (by kernel_rfl) (by kernel_rfl) (fun _ _ _ h => h) (Or.inr ⟨by rfl, rfl⟩) (by assumption) ?_
    (try simp only [Act.put]); (try simp only [List.setIfInBounds_toArray]); (try simp only [List.set_cons_succ]); (try simp only [List.set_cons_zero])
    refine wpAnyH_take (i := 15) (oi := { dst := some 104, op := Go.Op.indexAddr 40 (Go.Operand.tmp 103) (Go.Operand.const (Go.Value.int Go.IntKind.i64 0)), type := 0, pos := _, after := #[{ on := 14, ground := Go.Ground.data }, { on := 13, ground := Go.Ground.guard }], guard := some (13, false) }) (v := undef) rfl (by kernel_rfl) (by kernel_rfl) (by kernel_rfl) (fun _ _ _ h => h) (Or.inr ⟨by rfl, rfl⟩) (by assumption) ?_
    (try simp only [Act.put]); (try simp only [List.setIfInBounds_toArray]); (try simp only [List.set_cons_succ]); (try simp only [List.set_cons_zero])
    refine wpAnyH_take (i := 16) (oi := { dst := some 105, op := Go.Op.load 24 (Go.Operand.tmp 104), type := 24, pos := _, after := #[{ on := 15, ground := Go.Ground.data }, { on := 13, ground := Go.Ground.guard }], guard := some (13, false) }) (v := undef) rfl (by kernel_rfl) (by kernel_rfl) (by kernel_rfl) (fun _ _ _ h => h) (Or.inr ⟨by rfl, rfl⟩) (by assumption) ?_
    (try simp only [Act.put]); (try simp only [List.setIfInBounds_toArray]); (try simp only [List.set_cons_succ]); (try simp only [List.set_cons_zero])
    refine wpAnyH_take (i := 17) (oi := { dst := some 106, op := Go.Op.load 24 (Go.Operand.tmp 1), type := 24, pos := _, after := #[{ on := 13, ground := Go.Ground.guard }], guard := some (13, false) }) (v := undef) rfl (by kernel_rfl) (by kernel_rfl) (by kernel_rfl) (fun _ _ _ h => h) (Or.inr ⟨by rfl, rfl⟩) (by assumption) ?_
    (try simp only [Act.put]); (try simp only [List.setIfInBounds_toArray]); (try simp only [List.set_cons_succ]); (try simp only [List.set_cons_zero])
    refine wpAnyH_ready (rs := [18]) (by kernel_rfl) (by simp) ?_
    refine AllReadyH.cons (o := { dst := some 107, op := Go.Op.call { callee := Go.Callee.value (Go.Operand.func 14), args := #[Go.Operand.tmp 105, Go.Operand.tmp 106], argTypes := #[24, 24] }, type := 4, pos := _, after := #[{ on := 16, ground := Go.Ground.data }, { on := 17, ground := Go.Ground.data }, { on := 13, ground := Go.Ground.chain }, { on := 13, ground := Go.Ground.guard }], guard := some (13, false) }) rfl (fun K hK => ?_) ?_
    · skip
      go_simp
      refine hK.out _ _ hE (fun hHeld => ?_)
      clear hK K
      (try simp only [Act.put]); (try simp only [List.setIfInBounds_toArray]); (try simp only [List.set_cons_succ]); (try simp only [List.set_cons_zero])
      refine wpAnyH_take (i := 19) (oi := { dst := some 108, op := Go.Op.unOp Go.UnOp.not 4 (Go.Operand.tmp 107), type := 4, pos := _, after := #[{ on := 18, ground := Go.Ground.data }, { on := 13, ground := Go.Ground.guard }], guard := some (13, false) }) (v := undef) rfl (by kernel_rfl) (by kernel_rfl) (by kernel_rfl) (fun _ _ _ h => h) (Or.inr ⟨by rfl, rfl⟩) (by assumption) ?_
      (try simp only [Act.put]); (try simp only [List.setIfInBounds_toArray]); (try simp only [List.set_cons_succ]); (try simp only [List.set_cons_zero])
      refine wpAnyH_take (i := 20) (oi := { dst := some 109, op := Go.Op.pick (Go.Operand.tmp 102) (Go.Operand.const (Go.Value.bool true)) (Go.Operand.tmp 108), type := 4, pos := _, after := #[{ on := 13, ground := Go.Ground.data }, { on := 19, ground := Go.Ground.data }], guard := none }) (v := .bool true) rfl (by kernel_rfl) (by kernel_rfl) (by kernel_rfl) (fun _ _ _ h => h) (Or.inl ⟨by rfl, fun w' hSw => ?_⟩) (by assumption) ?_
      · (try dsimp only at hSw); go_simp
      (try simp only [Act.put]); (try simp only [List.setIfInBounds_toArray]); (try simp only [List.set_cons_succ]); (try simp only [List.set_cons_zero])
      refine wpAnyH_done (by kernel_rfl) ?_ _
      refine NoPanic.normal ?_
      have HE := Hid.mk' hE
      have HB := Hid.mk' (HT.out.1.r.b.trans (Below.mono hE HT.out.1.r.b.size))
      clear hE
      go_wp2_with fail
      go_ret2
      exact ⟨.slice none 0 0, fun h => absurd h HNO.out, fun _ => rfl, HB.out⟩
    exact AllReadyH.nil
end Go.Proofs.YtneiiinheimglaaGreatDoor.B
namespace Go.Proofs.YtneiiinheimglaaGreatDoor.B
open Go.RowKit Go.Lib Go.Proofs.YtneiiinheimglaaGreatDoor Go.Proofs.YtneiiinheimglaaGreatDoor.W Go.Proofs.YtneiiinheimglaaGreatDoor.Q Go.Proofs.YtneiiinheimglaaGreatDoor.C Go.Proofs.YtneiiinheimglaaGreatDoor.Z

attribute [local go_sem ↓] exec_storeP
set_option maxHeartbeats 16000000 in
set_option maxRecDepth 100000 in
theorem ActRunes_2 (y : Ac) (vy : Value) (m : Int) (w : World) (hv : RdI w vy y.args) (hm : w.cell? ⟨2, 0, none⟩ = some (.int .i64 m)) (_ : y.inter.length ≤ 1048576) (_ : y.text.length ≤ 1048576) (har : y.args.length ≤ 1048576) (hk : y.kind = 2) :
    Calls Tryz.prog 5 #[.agg (acells y vy).toArray] w (ARes y (wL y) w) := by
  have hK : 1 ≤ y.kind ∧ y.kind ≤ 5 := by omega
  have h4 : y.kind = 4 → (writeT y.args).2 = 0 ∧ (writeT y.args).1.length ≤ 100 := fun h => by omega
  have HAO := Hid.mk' (fun h : wOk y => act_ok h)
  have HAB := Hid.mk' (fun h1 h2 h3 => act_of (y := y) hK h4 h1 h2 h3)
  have HQ := Hid.mk' (fun h => st_zero (run_right (wL y) right_p0) h)
  have HSM := Hid.mk' (few_args right_p0 (wL y))
  have hLL : 0 < (wL y).length ∧ (wL y).length ≤ 3000000 := by rw [wL_one (by omega)]; simp
  have hL0 : 0 < (wL y).length := by have := hLL.1; omega
  have hL1 : (wL y).length ≤ 274877906944 := by have := hLL.2; omega
  have HP := Hid.mk' (fun v W (hB : Below w.heap.size w W) (hr : RdI W v (wL y)) => (show Calls Tryz.prog 13 #[.agg #[.int .i64 0, .int .i64 0, .string ⟨#[]⟩, .string ⟨#[]⟩, .string ⟨#[]⟩], v] W _ from Parsed_any p0 right_p0 m v (wL y) W hr hL1 ((hB.cell (p := ⟨2, 0, none⟩) (World.block_lt_of_cell? _ _ hm)).trans hm)))
  have HSA := Hid.mk' (fun x va vb W (h1 : RdI W va x.args) (h2 : RdI W vb y.args) (h3 : x.args.length ≤ 1000000000) => SameAct_any x y va vb W h1 h2 h3 (by omega))
  have HRU := Hid.mk' (fun c W => Rune_any c W)
  have HVY : Hid (∀ W, Below w.heap.size w W → RdI W vy y.args) := fun W h => hv.below h
  have HLE := Hid.mk' (wL_one (y := y) (by omega))
  generalize run p0 (wL y) = Y at *
  generalize wL y = L at *
  obtain ⟨q, acts⟩ := Y
  dsimp only at *
  unfold pcells at HP
  obtain ⟨ad, cp, rfl, hv2⟩ := hv
  have kb1 : (y.kind == 1) = false := by rw [hk]; rfl
  have kb2 : (y.kind == 2) = true := by rw [hk]; rfl
  have kb3 : (y.kind == 3) = false := by rw [hk]; rfl
  have kb4 : (y.kind == 4) = false := by rw [hk]; rfl
  have kb5 : (y.kind == 5) = false := by rw [hk]; rfl
  clear hv2 hm hK hk hLL  har
  have X0 := Rw.new (w := w) y (.slice ad y.args.length cp)
  have c0 := X0.a.cell (j := 0) (v := .int .i64 y.kind) rfl
  have c1 := X0.a.cell (j := 1) (v := .int .i64 y.code) rfl
  have c2 := X0.a.cell (j := 2) (v := .int .i64 y.mark) rfl
  have c3 := X0.a.cell (j := 3) (v := .string (bs y.inter)) rfl
  have c4 := X0.a.cell (j := 4) (v := .slice ad y.args.length cp) rfl
  have c5 := X0.a.cell (j := 5) (v := .string (bs y.text)) rfl
  have HX0 := Hid.mk' X0
  clear X0
  unfold acells at *
  have HX1 := Hid.mk' (HX0.out.alloc (.cells #[.int .i64 y.code] 3))
  have HR1 : Hid (RdI ((w.alloc (.cells (acells y (.slice ad y.args.length cp)).toArray 24)).alloc (.cells #[.int .i64 y.code] 3)) (.slice (some ⟨w.heap.size + 1, 0, none⟩) 1 1) L) := by
    rw [HLE.out]
    have h := rd_one (Box.new (w.alloc (.cells (acells y (.slice ad y.args.length cp)).toArray 24)) 3 [.int .i64 y.code])
    rw [World.size_alloc] at h
    exact h
  have HLN : Hid (L.length = 1) := by rw [HLE.out]; rfl
  unfold acells at *
  go_enter Tryz.func5, Tryz.ntmps5
  go_wp2_with fail
  have HV1 := HR1
  clear HR1 HLE HLN
  generalize Value.slice (some ⟨w.heap.size + 1, 0, none⟩) 1 1 = vl at *
  clear c0 c1 c2 c3 c4 c5 HX0
  obtain ⟨al, cl, vle, _, _⟩ := id HV1.out
  subst vle
  refine (HP.out _ _ HX1.out.b HV1.out).mono ?_
  rintro e w2 ⟨v2, rfl, hra, hb2⟩
  have X2 := HX1.out.later hb2
  have R2 := HV1.out.below hb2
  have bq := Box.new w2 39 [.int .i64 0, .int .i64 0, .string ⟨#[]⟩, .string ⟨#[]⟩, .string ⟨#[]⟩]
  have hL6 : Lies (w2.alloc (.cells #[.int .i64 0, .int .i64 0, .string ⟨#[]⟩, .string ⟨#[]⟩, .string ⟨#[]⟩] 39)) (.pointer (some ⟨w2.heap.size, 0, none⟩)) 5 := bq.lies0 rfl
  have hHq : Holds (.agg #[.int .i64 (q.st : Int), .int .i64 q.mark, .string (bs q.inter), .string (bs q.args), .string (bs q.text)]) 5 := holds_p q
  have hP6 := bq.putAt [.int .i64 (q.st : Int), .int .i64 q.mark, .string (bs q.inter), .string (bs q.args), .string (bs q.text)] rfl
  have hA6 : Below w2.heap.size w2 (w2.alloc (.cells #[.int .i64 0, .int .i64 0, .string ⟨#[]⟩, .string ⟨#[]⟩, .string ⟨#[]⟩] 39)) := (Below.refl _ _).alloc (Nat.le_refl _) _
  have hB6 := hP6.below _ _ (Nat.le_refl _) hA6
  have HT := Hid.mk' (And.intro (show Rt w y (.slice ad y.args.length cp) w2.heap.size q _ from ⟨X2.later hB6, hP6.box⟩) (And.intro (R2.below hB6) (hra.below hB6)))
  obtain ⟨la, lcp, lxs, lve, hlc, lex, lr, lt⟩ := hra
  clear hb2 X2 R2 bq hP6 hA6 hB6 HX1 HV1 HP lex lr lt hlc
  subst lve
  generalize hna : acts.length = na at *
  have HNA := Hid.mk' hna
  clear hna
  have hnb : ((L.length : Int) == 0) = false := beq_false_of_ne (by omega)
  go_upto_region 23 with fail
  generalize Q.putAt (w2.alloc (.cells #[.int .i64 0, .int .i64 0, .string ⟨#[]⟩, .string ⟨#[]⟩, .string ⟨#[]⟩] 39)) (.pointer (some ⟨w2.heap.size, 0, none⟩)) (.agg #[.int .i64 (q.st : Int), .int .i64 q.mark, .string (bs q.inter), .string (bs q.args), .string (bs q.text)]) = w7 at *
  generalize w2.heap.size = b6 at *
  clear hL6 hHq
  have hE : Below w7.heap.size w7 w7.drew := (Below.refl _ _).drew
  by_cases hst : q.st = 0
  · obtain rfl := HQ.out hst
    by_cases hn1 : na = 1
    · subst hn1
      obtain ⟨x, rfl⟩ : ∃ x, acts = [x] := List.length_eq_one_iff.1 HNA.out
      obtain ⟨g, vx, rfl, hvx, hcx0, hg⟩ := rd_act HT.out.2.2
      have hcx := Hid.mk' hcx0
      have HVX := Hid.mk' hvx
      have HSX : Hid (∀ W, Below w7.heap.size w7 W → Calls Tryz.prog 14 #[.agg #[.int .i64 x.kind, .int .i64 x.code, .int .i64 x.mark, .string (bs x.inter), vx, .string (bs x.text)], .agg #[.int .i64 y.kind, .int .i64 y.code, .int .i64 y.mark, .string (bs y.inter), .slice ad y.args.length cp, .string (bs y.text)]] W fun e w' => e = .returned (.bool (sameA x y)) ∧ Below W.heap.size W w') := fun W hW => HSA.out x vx _ W (HVX.out.below hW) (HVY.out W (HT.out.1.r.b.trans (Below.mono hW HT.out.1.r.b.size))) (HSM.out x (by simp))
      have HSB : Hid (if sameA x y = true then x = y else x ≠ y) := by
        rw [Hid]
        split
        · rename_i h; exact (sameA_iff x y).1 h
        · rename_i h; exact fun h2 => h ((sameA_iff x y).2 h2)
      clear hcx0 hvx HSA HSM HVY HQ HNA
      generalize sameA x y = sb at *
      refine wp_region_noPanic ?_
      refine wp_region_held_drew (S := fun w' => Below w7.heap.size w7 w') (by kernel_rfl) hE (fun hHeld => ?_)
      generalize w7.drew = wd at *
      refine wpAnyH_take (i := 0) (oi := { dst := some 89, op := Go.Op.move (Go.Operand.tmp 4), type := 22, pos := _, after := #[], guard := none }) (v := .slice al L.length cl) rfl (by kernel_rfl) (by kernel_rfl) (by kernel_rfl) (fun _ _ _ h => h) (Or.inl ⟨by rfl, fun w' hSw => ?_⟩) (by assumption) ?_
      · (try dsimp only at hSw); go_simp
      (try simp only [Act.put]); (try simp only [List.setIfInBounds_toArray]); (try simp only [List.set_cons_succ]); (try simp only [List.set_cons_zero])
      refine wpAnyH_take (i := 1) (oi := { dst := some 90, op := Go.Op.call { callee := Go.Callee.builtin Go.Builtin.len, args := #[Go.Operand.tmp 89], argTypes := #[22] }, type := 3, pos := _, after := #[{ on := 0, ground := Go.Ground.data }], guard := none }) (v := .int .i64 (L.length : Int)) rfl (by kernel_rfl) (by kernel_rfl) (by kernel_rfl) (fun _ _ _ h => h) (Or.inl ⟨by rfl, fun w' hSw => ?_⟩) (by assumption) ?_
      · (try dsimp only at hSw); go_simp
      (try simp only [Act.put]); (try simp only [List.setIfInBounds_toArray]); (try simp only [List.set_cons_succ]); (try simp only [List.set_cons_zero])
      refine wpAnyH_take (i := 2) (oi := { dst := some 91, op := Go.Op.binOp Go.BinOp.eql 3 (Go.Operand.tmp 90) (Go.Operand.const (Go.Value.int Go.IntKind.i64 0)) 3, type := 4, pos := _, after := #[{ on := 1, ground := Go.Ground.data }], guard := none }) (v := .bool false) rfl (by kernel_rfl) (by kernel_rfl) (by kernel_rfl) (fun _ _ _ h => h) (Or.inl ⟨by rfl, fun w' hSw => ?_⟩) (by assumption) ?_
      · (try dsimp only at hSw); go_simp
      (try simp only [Act.put]); (try simp only [List.setIfInBounds_toArray]); (try simp only [List.set_cons_succ]); (try simp only [List.set_cons_zero])
      refine wpAnyH_take (i := 3) (oi := { dst := some 92, op := Go.Op.move (Go.Operand.tmp 91), type := 4, pos := _, after := #[{ on := 2, ground := Go.Ground.data }], guard := none }) (v := .bool false) rfl (by kernel_rfl) (by kernel_rfl) (by kernel_rfl) (fun _ _ _ h => h) (Or.inl ⟨by rfl, fun w' hSw => ?_⟩) (by assumption) ?_
      · (try dsimp only at hSw); go_simp
      (try simp only [Act.put]); (try simp only [List.setIfInBounds_toArray]); (try simp only [List.set_cons_succ]); (try simp only [List.set_cons_zero])
      refine wpAnyH_take (i := 4) (oi := { dst := some 93, op := Go.Op.load 39 (Go.Operand.tmp 9), type := 39, pos := _, after := #[{ on := 3, ground := Go.Ground.guard }], guard := some (3, false) }) (v := .agg #[.int .i64 0, .int .i64 0, .string ⟨#[]⟩, .string ⟨#[]⟩, .string ⟨#[]⟩]) rfl (by kernel_rfl) (by kernel_rfl) (by kernel_rfl) (fun _ _ _ h => h) (Or.inl ⟨by rfl, fun w' hSw => ?_⟩) (by assumption) ?_
      · have bp := HT.out.1.p.later hSw
        exact (exec_loadP _ _ _ _ _ _ _ _ (bp.lies0 rfl)).trans (congrArg (fun z : List Value => Result.ok (Next.value (.agg z.toArray)) w') (bp.row0 rfl))
      (try simp only [Act.put]); (try simp only [List.setIfInBounds_toArray]); (try simp only [List.set_cons_succ]); (try simp only [List.set_cons_zero])
      refine wpAnyH_take (i := 5) (oi := { dst := some 94, op := Go.Op.build 39 #[], type := 39, pos := _, after := #[{ on := 3, ground := Go.Ground.guard }], guard := some (3, false) }) (v := .agg #[.int .i64 0, .int .i64 0, .string ⟨#[]⟩, .string ⟨#[]⟩, .string ⟨#[]⟩]) rfl (by kernel_rfl) (by kernel_rfl) (by kernel_rfl) (fun _ _ _ h => h) (Or.inl ⟨by rfl, fun w' hSw => ?_⟩) (by assumption) ?_
      · (try dsimp only at hSw); go_simp
      (try simp only [Act.put]); (try simp only [List.setIfInBounds_toArray]); (try simp only [List.set_cons_succ]); (try simp only [List.set_cons_zero])
      refine wpAnyH_take (i := 6) (oi := { dst := some 95, op := Go.Op.binOp Go.BinOp.neq 39 (Go.Operand.tmp 93) (Go.Operand.tmp 94) 39, type := 4, pos := _, after := #[{ on := 4, ground := Go.Ground.data }, { on := 5, ground := Go.Ground.data }, { on := 3, ground := Go.Ground.guard }], guard := some (3, false) }) (v := .bool false) rfl (by kernel_rfl) (by kernel_rfl) (by kernel_rfl) (fun _ _ _ h => h) (Or.inl ⟨by rfl, fun w' hSw => ?_⟩) (by assumption) ?_
      · (try dsimp only at hSw); go_simp
      (try simp only [Act.put]); (try simp only [List.setIfInBounds_toArray]); (try simp only [List.set_cons_succ]); (try simp only [List.set_cons_zero])
      refine wpAnyH_take (i := 7) (oi := { dst := some 96, op := Go.Op.pick (Go.Operand.tmp 92) (Go.Operand.const (Go.Value.bool true)) (Go.Operand.tmp 95), type := 4, pos := _, after := #[{ on := 3, ground := Go.Ground.data }, { on := 6, ground := Go.Ground.data }], guard := none }) (v := .bool false) rfl (by kernel_rfl) (by kernel_rfl) (by kernel_rfl) (fun _ _ _ h => h) (Or.inl ⟨by rfl, fun w' hSw => ?_⟩) (by assumption) ?_
      · (try dsimp only at hSw); go_simp
      (try simp only [Act.put]); (try simp only [List.setIfInBounds_toArray]); (try simp only [List.set_cons_succ]); (try simp only [List.set_cons_zero])
      refine wpAnyH_take (i := 8) (oi := { dst := some 97, op := Go.Op.move (Go.Operand.tmp 96), type := 4, pos := _, after := #[{ on := 7, ground := Go.Ground.data }, { on := 3, ground := Go.Ground.chain }], guard := none }) (v := .bool false) rfl (by kernel_rfl) (by kernel_rfl) (by kernel_rfl) (fun _ _ _ h => h) (Or.inl ⟨by rfl, fun w' hSw => ?_⟩) (by assumption) ?_
      · (try dsimp only at hSw); go_simp
      (try simp only [Act.put]); (try simp only [List.setIfInBounds_toArray]); (try simp only [List.set_cons_succ]); (try simp only [List.set_cons_zero])
      refine wpAnyH_take (i := 9) (oi := { dst := some 98, op := Go.Op.move (Go.Operand.tmp 10), type := 40, pos := _, after := #[{ on := 8, ground := Go.Ground.guard }], guard := some (8, false) }) (v := .slice (some ⟨g, 0, none⟩) 1 lcp) rfl (by kernel_rfl) (by kernel_rfl) (by kernel_rfl) (fun _ _ _ h => h) (Or.inl ⟨by rfl, fun w' hSw => ?_⟩) (by assumption) ?_
      · (try dsimp only at hSw); go_simp
      (try simp only [Act.put]); (try simp only [List.setIfInBounds_toArray]); (try simp only [List.set_cons_succ]); (try simp only [List.set_cons_zero])
      refine wpAnyH_take (i := 10) (oi := { dst := some 99, op := Go.Op.call { callee := Go.Callee.builtin Go.Builtin.len, args := #[Go.Operand.tmp 98], argTypes := #[40] }, type := 3, pos := _, after := #[{ on := 9, ground := Go.Ground.data }, { on := 8, ground := Go.Ground.guard }], guard := some (8, false) }) (v := .int .i64 1) rfl (by kernel_rfl) (by kernel_rfl) (by kernel_rfl) (fun _ _ _ h => h) (Or.inl ⟨by rfl, fun w' hSw => ?_⟩) (by assumption) ?_
      · (try dsimp only at hSw); go_simp
      (try simp only [Act.put]); (try simp only [List.setIfInBounds_toArray]); (try simp only [List.set_cons_succ]); (try simp only [List.set_cons_zero])
      refine wpAnyH_take (i := 11) (oi := { dst := some 100, op := Go.Op.binOp Go.BinOp.neq 3 (Go.Operand.tmp 99) (Go.Operand.const (Go.Value.int Go.IntKind.i64 1)) 3, type := 4, pos := _, after := #[{ on := 10, ground := Go.Ground.data }, { on := 8, ground := Go.Ground.guard }], guard := some (8, false) }) (v := .bool false) rfl (by kernel_rfl) (by kernel_rfl) (by kernel_rfl) (fun _ _ _ h => h) (Or.inl ⟨by rfl, fun w' hSw => ?_⟩) (by assumption) ?_
      · (try dsimp only at hSw); go_simp
      (try simp only [Act.put]); (try simp only [List.setIfInBounds_toArray]); (try simp only [List.set_cons_succ]); (try simp only [List.set_cons_zero])
      refine wpAnyH_take (i := 12) (oi := { dst := some 101, op := Go.Op.pick (Go.Operand.tmp 97) (Go.Operand.const (Go.Value.bool true)) (Go.Operand.tmp 100), type := 4, pos := _, after := #[{ on := 8, ground := Go.Ground.data }, { on := 11, ground := Go.Ground.data }], guard := none }) (v := .bool false) rfl (by kernel_rfl) (by kernel_rfl) (by kernel_rfl) (fun _ _ _ h => h) (Or.inl ⟨by rfl, fun w' hSw => ?_⟩) (by assumption) ?_
      · (try dsimp only at hSw); go_simp
      (try simp only [Act.put]); (try simp only [List.setIfInBounds_toArray]); (try simp only [List.set_cons_succ]); (try simp only [List.set_cons_zero])
      refine wpAnyH_take (i := 13) (oi := { dst := some 102, op := Go.Op.move (Go.Operand.tmp 101), type := 4, pos := _, after := #[{ on := 12, ground := Go.Ground.data }, { on := 8, ground := Go.Ground.chain }], guard := none }) (v := .bool false) rfl (by kernel_rfl) (by kernel_rfl) (by kernel_rfl) (fun _ _ _ h => h) (Or.inl ⟨by rfl, fun w' hSw => ?_⟩) (by assumption) ?_
      · (try dsimp only at hSw); go_simp
      (try simp only [Act.put]); (try simp only [List.setIfInBounds_toArray]); (try simp only [List.set_cons_succ]); (try simp only [List.set_cons_zero])
      refine wpAnyH_take (i := 14) (oi := { dst := some 103, op := Go.Op.move (Go.Operand.tmp 10), type := 40, pos := _, after := #[{ on := 13, ground := Go.Ground.guard }], guard := some (13, false) }) (v := .slice (some ⟨g, 0, none⟩) 1 lcp) rfl (by kernel_rfl) (by kernel_rfl) (by kernel_rfl) (fun _ _ _ h => h) (Or.inl ⟨by rfl, fun w' hSw => ?_⟩) (by assumption) ?_
      · (try dsimp only at hSw); go_simp
      (try simp only [Act.put]); (try simp only [List.setIfInBounds_toArray]); (try simp only [List.set_cons_succ]); (try simp only [List.set_cons_zero])
      refine wpAnyH_take (i := 15) (oi := { dst := some 104, op := Go.Op.indexAddr 40 (Go.Operand.tmp 103) (Go.Operand.const (Go.Value.int Go.IntKind.i64 0)), type := 0, pos := _, after := #[{ on := 14, ground := Go.Ground.data }, { on := 13, ground := Go.Ground.guard }], guard := some (13, false) }) (v := .pointer (some ⟨g, 0, none⟩)) rfl (by kernel_rfl) (by kernel_rfl) (by kernel_rfl) (fun _ _ _ h => h) (Or.inl ⟨by rfl, fun w' hSw => ?_⟩) (by assumption) ?_
      · (try dsimp only at hSw); go_simp
      (try simp only [Act.put]); (try simp only [List.setIfInBounds_toArray]); (try simp only [List.set_cons_succ]); (try simp only [List.set_cons_zero])
      refine wpAnyH_take (i := 16) (oi := { dst := some 105, op := Go.Op.load 24 (Go.Operand.tmp 104), type := 24, pos := _, after := #[{ on := 15, ground := Go.Ground.data }, { on := 13, ground := Go.Ground.guard }], guard := some (13, false) }) (v := .agg #[.int .i64 x.kind, .int .i64 x.code, .int .i64 x.mark, .string (bs x.inter), vx, .string (bs x.text)]) rfl (by kernel_rfl) (by kernel_rfl) (by kernel_rfl) (fun _ _ _ h => h) (Or.inl ⟨by rfl, fun w' hSw => ?_⟩) (by assumption) ?_
      · have d0 := (hSw.cell (p := ⟨g, 0, none⟩) hg).trans (hcx.out 0 (.int .i64 x.kind) rfl)
        have d1 := (hSw.cell (p := ⟨g, 1, none⟩) hg).trans (hcx.out 1 (.int .i64 x.code) rfl)
        have d2 := (hSw.cell (p := ⟨g, 2, none⟩) hg).trans (hcx.out 2 (.int .i64 x.mark) rfl)
        have d3 := (hSw.cell (p := ⟨g, 3, none⟩) hg).trans (hcx.out 3 (.string (bs x.inter)) rfl)
        have d4 := (hSw.cell (p := ⟨g, 4, none⟩) hg).trans (hcx.out 4 (vx) rfl)
        have d5 := (hSw.cell (p := ⟨g, 5, none⟩) hg).trans (hcx.out 5 (.string (bs x.text)) rfl)
        clear hSw
        go_simp
      (try simp only [Act.put]); (try simp only [List.setIfInBounds_toArray]); (try simp only [List.set_cons_succ]); (try simp only [List.set_cons_zero])
      refine wpAnyH_take (i := 17) (oi := { dst := some 106, op := Go.Op.load 24 (Go.Operand.tmp 1), type := 24, pos := _, after := #[{ on := 13, ground := Go.Ground.guard }], guard := some (13, false) }) (v := .agg #[.int .i64 y.kind, .int .i64 y.code, .int .i64 y.mark, .string (bs y.inter), .slice ad y.args.length cp, .string (bs y.text)]) rfl (by kernel_rfl) (by kernel_rfl) (by kernel_rfl) (fun _ _ _ h => h) (Or.inl ⟨by rfl, fun w' hSw => ?_⟩) (by assumption) ?_
      · have by' := HT.out.1.r.a.later hSw
        have d0 := by'.cell (j := 0) (v := .int .i64 y.kind) rfl
        have d1 := by'.cell (j := 1) (v := .int .i64 y.code) rfl
        have d2 := by'.cell (j := 2) (v := .int .i64 y.mark) rfl
        have d3 := by'.cell (j := 3) (v := .string (bs y.inter)) rfl
        have d4 := by'.cell (j := 4) (v := .slice ad y.args.length cp) rfl
        have d5 := by'.cell (j := 5) (v := .string (bs y.text)) rfl
        clear hSw by'
        go_simp
      (try simp only [Act.put]); (try simp only [List.setIfInBounds_toArray]); (try simp only [List.set_cons_succ]); (try simp only [List.set_cons_zero])
      refine wpAnyH_ready (rs := [18]) (by kernel_rfl) (by simp) ?_
      refine AllReadyH.cons (o := { dst := some 107, op := Go.Op.call { callee := Go.Callee.value (Go.Operand.func 14), args := #[Go.Operand.tmp 105, Go.Operand.tmp 106], argTypes := #[24, 24] }, type := 4, pos := _, after := #[{ on := 16, ground := Go.Ground.data }, { on := 17, ground := Go.Ground.data }, { on := 13, ground := Go.Ground.chain }, { on := 13, ground := Go.Ground.guard }], guard := some (13, false) }) rfl (fun K hK => ?_) ?_
      · skip
        go_simp
        refine (HSX.out wd hE).mono ?_
        rintro e v1 ⟨rfl, hbv1⟩
        have e1 := hE.trans (Below.mono hbv1 hE.size)
        clear hbv1
        refine hK.out _ _ e1 (fun hHeld => ?_)
        clear hK K
        (try simp only [Act.put]); (try simp only [List.setIfInBounds_toArray]); (try simp only [List.set_cons_succ]); (try simp only [List.set_cons_zero])
        refine wpAnyH_take (i := 19) (oi := { dst := some 108, op := Go.Op.unOp Go.UnOp.not 4 (Go.Operand.tmp 107), type := 4, pos := _, after := #[{ on := 18, ground := Go.Ground.data }, { on := 13, ground := Go.Ground.guard }], guard := some (13, false) }) (v := .bool (!sb)) rfl (by kernel_rfl) (by kernel_rfl) (by kernel_rfl) (fun _ _ _ h => h) (Or.inl ⟨by rfl, fun w' hSw => ?_⟩) (by assumption) ?_
        · (try dsimp only at hSw); go_simp
        (try simp only [Act.put]); (try simp only [List.setIfInBounds_toArray]); (try simp only [List.set_cons_succ]); (try simp only [List.set_cons_zero])
        refine wpAnyH_take (i := 20) (oi := { dst := some 109, op := Go.Op.pick (Go.Operand.tmp 102) (Go.Operand.const (Go.Value.bool true)) (Go.Operand.tmp 108), type := 4, pos := _, after := #[{ on := 13, ground := Go.Ground.data }, { on := 19, ground := Go.Ground.data }], guard := none }) (v := .bool (!sb)) rfl (by kernel_rfl) (by kernel_rfl) (by kernel_rfl) (fun _ _ _ h => h) (Or.inl ⟨by rfl, fun w' hSw => ?_⟩) (by assumption) ?_
        · (try dsimp only at hSw); go_simp
        (try simp only [Act.put]); (try simp only [List.setIfInBounds_toArray]); (try simp only [List.set_cons_succ]); (try simp only [List.set_cons_zero])
        refine wpAnyH_done (by kernel_rfl) ?_ _
        refine NoPanic.normal ?_
        have HE := Hid.mk' e1
        have HB := Hid.mk' (HT.out.1.r.b.trans (Below.mono e1 HT.out.1.r.b.size))
        clear e1
        cases sb with
        | false =>
          have HNO : Hid (¬ wOk y) := fun h => HSB.out (by have := (HAO.out h).1; simp only [Prod.mk.injEq, List.cons.injEq, and_true] at this; exact this.2)
          go_wp2_with fail
          go_ret2
          exact ⟨.slice none 0 0, fun h => absurd h HNO.out, fun _ => rfl, HB.out⟩
        | true =>
          have HYE : Hid (x = y) := HSB.out
          have HRL := Hid.mk' (HT.out.2.1.below HE.out)
          have HCE : Hid (∀ k (h : k < L.length), ∃ b off, al = some ⟨b, off, none⟩ ∧ v1.cell? ⟨b, off + k, none⟩ = some (.int .i64 L[k])) := fun k h => (rd_at HRL.out k h).elim fun b hb => hb.elim fun off ho => ⟨b, off, ho.1, ho.2.1⟩
          have HYES : Hid ((∀ j (h : j < L.length), isRb L[j] = true) → wOk y) := fun h => HAB.out rfl (by rw [HYE.out]) (fun c hc => by
            obtain ⟨j, hj, e⟩ := List.mem_iff_getElem.1 hc
            rw [← e]; exact h j hj)
          have HBAD : Hid (∀ j (h : j < L.length), isRb L[j] = false → ¬ wOk y) := fun j h hf ho => by
            have := (HAO.out ho).2 L[j] (List.getElem_mem h)
            rw [hf] at this
            cases this
          clear HT HAO HAB HE HSX HSB HYE hcx HVX hst
          generalize v1 = wf at *
          go_wp2_with fail
          go_loopg [112] L.length (fun gg s112 wr => ∃ k : Nat, k ≤ L.length ∧ L.length - k ≤ gg ∧ s112 = .int .i64 (k : Int) ∧ Hid (∀ j (h : j < L.length), j < k → isRb L[j] = true) ∧ wr = wf)
          case atStart => exact ⟨0, Nat.zero_le _, by omega, rfl, fun j h h0 => absurd h0 (Nat.not_lt_zero j), rfl⟩
          case round =>
            obtain ⟨k, hk, hgk, rfl, HJ, hw⟩ := hrel
            have HGK := Hid.mk' hgk
            clear hgk
            subst hw
            by_cases hlt : k < L.length
            · obtain ⟨b1, o1, ha, hcl⟩ := HCE.out k hlt
              subst ha
              have HC := Hid.mk' (HRU.out L[k] wr)
              have HJ2 : Hid (isRb L[k] = true → ∀ j (h : j < L.length), j < k + 1 → isRb L[j] = true) := fun ht j h hj => by
                rcases Nat.lt_or_ge j k with h1 | h1
                · exact HJ.out j h h1
                · have : j = k := by omega
                  subst this; exact ht
              have HNO := Hid.mk' (HBAD.out k hlt)
              clear HCE HJ HBAD HYES
              generalize hz : isRb L[k] = z at *
              clear hz
              generalize L[k] = c at *
              go_wp2_with fail
              refine HC.out.mono ?_
              rintro e w9 ⟨rfl, hw9⟩
              subst hw9
              clear HC
              cases z with
              | false =>
                go_wp2_with fail
                go_ret2
                exact ⟨.slice none 0 0, fun h => absurd h (HNO.out trivial), fun _ => rfl, HB.out⟩
              | true =>
                have HJ3 := Hid.mk' (HJ2.out rfl)
                clear HJ2 HNO
                go_wp2_with fail
                go_roundg (L.length - (k + 1))
                case measure => have := HGK.out; omega
                case rel => exact ⟨k + 1, by omega, Nat.le_refl _, by go_num, HJ3, rfl⟩
            · obtain rfl : k = L.length := by omega
              have HY : Hid (wOk y) := HYES.out (fun j h => HJ.out j h h)
              clear HCE HJ HBAD HYES
              go_wp2_with fail
              go_ret2
              exact ⟨_, fun _ => ⟨rfl, HRL.out⟩, fun h => absurd HY.out h, HB.out⟩
      exact AllReadyH.nil
    · have HNO : Hid (¬ wOk y) := fun h => hn1 (by have := (HAO.out h).1; simp only [Prod.mk.injEq] at this; rw [← HNA.out, this.2]; rfl)
      have hnb2 : ((na : Int) != 1) = true := bne_of (by omega)
      clear HAO HAB HQ HSA HSM HVY HRU HNA hst
      refine wp_region_noPanic ?_
      refine wp_region_held_drew (S := fun w' => Below w7.heap.size w7 w') (by kernel_rfl) hE (fun hHeld => ?_)
      generalize w7.drew = wd at *
      refine wpAnyH_take (i := 0) (oi := { dst := some 89, op := Go.Op.move (Go.Operand.tmp 4), type := 22, pos := _, after := #[], guard := none }) (v := .slice al L.length cl) rfl (by kernel_rfl) (by kernel_rfl) (by kernel_rfl) (fun _ _ _ h => h) (Or.inl ⟨by rfl, fun w' hSw => ?_⟩) (by assumption) ?_
      · (try dsimp only at hSw); go_simp
      (try simp only [Act.put]); (try simp only [List.setIfInBounds_toArray]); (try simp only [List.set_cons_succ]); (try simp only [List.set_cons_zero])
      refine wpAnyH_take (i := 1) (oi := { dst := some 90, op := Go.Op.call { callee := Go.Callee.builtin Go.Builtin.len, args := #[Go.Operand.tmp 89], argTypes := #[22] }, type := 3, pos := _, after := #[{ on := 0, ground := Go.Ground.data }], guard := none }) (v := .int .i64 (L.length : Int)) rfl (by kernel_rfl) (by kernel_rfl) (by kernel_rfl) (fun _ _ _ h => h) (Or.inl ⟨by rfl, fun w' hSw => ?_⟩) (by assumption) ?_
      · (try dsimp only at hSw); go_simp
      (try simp only [Act.put]); (try simp only [List.setIfInBounds_toArray]); (try simp only [List.set_cons_succ]); (try simp only [List.set_cons_zero])
      refine wpAnyH_take (i := 2) (oi := { dst := some 91, op := Go.Op.binOp Go.BinOp.eql 3 (Go.Operand.tmp 90) (Go.Operand.const (Go.Value.int Go.IntKind.i64 0)) 3, type := 4, pos := _, after := #[{ on := 1, ground := Go.Ground.data }], guard := none }) (v := .bool false) rfl (by kernel_rfl) (by kernel_rfl) (by kernel_rfl) (fun _ _ _ h => h) (Or.inl ⟨by rfl, fun w' hSw => ?_⟩) (by assumption) ?_
      · (try dsimp only at hSw); go_simp
      (try simp only [Act.put]); (try simp only [List.setIfInBounds_toArray]); (try simp only [List.set_cons_succ]); (try simp only [List.set_cons_zero])
      refine wpAnyH_take (i := 3) (oi := { dst := some 92, op := Go.Op.move (Go.Operand.tmp 91), type := 4, pos := _, after := #[{ on := 2, ground := Go.Ground.data }], guard := none }) (v := .bool false) rfl (by kernel_rfl) (by kernel_rfl) (by kernel_rfl) (fun _ _ _ h => h) (Or.inl ⟨by rfl, fun w' hSw => ?_⟩) (by assumption) ?_
      · (try dsimp only at hSw); go_simp
      (try simp only [Act.put]); (try simp only [List.setIfInBounds_toArray]); (try simp only [List.set_cons_succ]); (try simp only [List.set_cons_zero])
      refine wpAnyH_take (i := 4) (oi := { dst := some 93, op := Go.Op.load 39 (Go.Operand.tmp 9), type := 39, pos := _, after := #[{ on := 3, ground := Go.Ground.guard }], guard := some (3, false) }) (v := .agg #[.int .i64 0, .int .i64 0, .string ⟨#[]⟩, .string ⟨#[]⟩, .string ⟨#[]⟩]) rfl (by kernel_rfl) (by kernel_rfl) (by kernel_rfl) (fun _ _ _ h => h) (Or.inl ⟨by rfl, fun w' hSw => ?_⟩) (by assumption) ?_
      · have bp := HT.out.1.p.later hSw
        exact (exec_loadP _ _ _ _ _ _ _ _ (bp.lies0 rfl)).trans (congrArg (fun z : List Value => Result.ok (Next.value (.agg z.toArray)) w') (bp.row0 rfl))
      (try simp only [Act.put]); (try simp only [List.setIfInBounds_toArray]); (try simp only [List.set_cons_succ]); (try simp only [List.set_cons_zero])
      refine wpAnyH_take (i := 5) (oi := { dst := some 94, op := Go.Op.build 39 #[], type := 39, pos := _, after := #[{ on := 3, ground := Go.Ground.guard }], guard := some (3, false) }) (v := .agg #[.int .i64 0, .int .i64 0, .string ⟨#[]⟩, .string ⟨#[]⟩, .string ⟨#[]⟩]) rfl (by kernel_rfl) (by kernel_rfl) (by kernel_rfl) (fun _ _ _ h => h) (Or.inl ⟨by rfl, fun w' hSw => ?_⟩) (by assumption) ?_
      · (try dsimp only at hSw); go_simp
      (try simp only [Act.put]); (try simp only [List.setIfInBounds_toArray]); (try simp only [List.set_cons_succ]); (try simp only [List.set_cons_zero])
      refine wpAnyH_take (i := 6) (oi := { dst := some 95, op := Go.Op.binOp Go.BinOp.neq 39 (Go.Operand.tmp 93) (Go.Operand.tmp 94) 39, type := 4, pos := _, after := #[{ on := 4, ground := Go.Ground.data }, { on := 5, ground := Go.Ground.data }, { on := 3, ground := Go.Ground.guard }], guard := some (3, false) }) (v := .bool false) rfl (by kernel_rfl) (by kernel_rfl) (by kernel_rfl) (fun _ _ _ h => h) (Or.inl ⟨by rfl, fun w' hSw => ?_⟩) (by assumption) ?_
      · (try dsimp only at hSw); go_simp
      (try simp only [Act.put]); (try simp only [List.setIfInBounds_toArray]); (try simp only [List.set_cons_succ]); (try simp only [List.set_cons_zero])
      refine wpAnyH_take (i := 7) (oi := { dst := some 96, op := Go.Op.pick (Go.Operand.tmp 92) (Go.Operand.const (Go.Value.bool true)) (Go.Operand.tmp 95), type := 4, pos := _, after := #[{ on := 3, ground := Go.Ground.data }, { on := 6, ground := Go.Ground.data }], guard := none }) (v := .bool false) rfl (by kernel_rfl) (by kernel_rfl) (by kernel_rfl) (fun _ _ _ h => h) (Or.inl ⟨by rfl, fun w' hSw => ?_⟩) (by assumption) ?_
      · (try dsimp only at hSw); go_simp
      (try simp only [Act.put]); (try simp only [List.setIfInBounds_toArray]); (try simp only [List.set_cons_succ]); (try simp only [List.set_cons_zero])
      refine wpAnyH_take (i := 8) (oi := { dst := some 97, op := Go.Op.move (Go.Operand.tmp 96), type := 4, pos := _, after := #[{ on := 7, ground := Go.Ground.data }, { on := 3, ground := Go.Ground.chain }], guard := none }) (v := .bool false) rfl (by kernel_rfl) (by kernel_rfl) (by kernel_rfl) (fun _ _ _ h => h) (Or.inl ⟨by rfl, fun w' hSw => ?_⟩) (by assumption) ?_
      · (try dsimp only at hSw); go_simp
      (try simp only [Act.put]); (try simp only [List.setIfInBounds_toArray]); (try simp only [List.set_cons_succ]); (try simp only [List.set_cons_zero])
      refine wpAnyH_take (i := 9) (oi := { dst := some 98, op := Go.Op.move (Go.Operand.tmp 10), type := 40, pos := _, after := #[{ on := 8, ground := Go.Ground.guard }], guard := some (8, false) }) (v := .slice la na lcp) rfl (by kernel_rfl) (by kernel_rfl) (by kernel_rfl) (fun _ _ _ h => h) (Or.inl ⟨by rfl, fun w' hSw => ?_⟩) (by assumption) ?_
      · (try dsimp only at hSw); go_simp
      (try simp only [Act.put]); (try simp only [List.setIfInBounds_toArray]); (try simp only [List.set_cons_succ]); (try simp only [List.set_cons_zero])
      refine wpAnyH_take (i := 10) (oi := { dst := some 99, op := Go.Op.call { callee := Go.Callee.builtin Go.Builtin.len, args := #[Go.Operand.tmp 98], argTypes := #[40] }, type := 3, pos := _, after := #[{ on := 9, ground := Go.Ground.data }, { on := 8, ground := Go.Ground.guard }], guard := some (8, false) }) (v := .int .i64 (na : Int)) rfl (by kernel_rfl) (by kernel_rfl) (by kernel_rfl) (fun _ _ _ h => h) (Or.inl ⟨by rfl, fun w' hSw => ?_⟩) (by assumption) ?_
      · (try dsimp only at hSw); go_simp
      (try simp only [Act.put]); (try simp only [List.setIfInBounds_toArray]); (try simp only [List.set_cons_succ]); (try simp only [List.set_cons_zero])
      refine wpAnyH_take (i := 11) (oi := { dst := some 100, op := Go.Op.binOp Go.BinOp.neq 3 (Go.Operand.tmp 99) (Go.Operand.const (Go.Value.int Go.IntKind.i64 1)) 3, type := 4, pos := _, after := #[{ on := 10, ground := Go.Ground.data }, { on := 8, ground := Go.Ground.guard }], guard := some (8, false) }) (v := .bool true) rfl (by kernel_rfl) (by kernel_rfl) (by kernel_rfl) (fun _ _ _ h => h) (Or.inl ⟨by rfl, fun w' hSw => ?_⟩) (by assumption) ?_
      · (try dsimp only at hSw); go_simp
      (try simp only [Act.put]); (try simp only [List.setIfInBounds_toArray]); (try simp only [List.set_cons_succ]); (try simp only [List.set_cons_zero])
      refine wpAnyH_take (i := 12) (oi := { dst := some 101, op := Go.Op.pick (Go.Operand.tmp 97) (Go.Operand.const (Go.Value.bool true)) (Go.Operand.tmp 100), type := 4, pos := _, after := #[{ on := 8, ground := Go.Ground.data }, { on := 11, ground := Go.Ground.data }], guard := none }) (v := .bool true) rfl (by kernel_rfl) (by kernel_rfl) (by kernel_rfl) (fun _ _ _ h => h) (Or.inl ⟨by rfl, fun w' hSw => ?_⟩) (by assumption) ?_
      · (try dsimp only at hSw); go_simp
      (try simp only [Act.put]); (try simp only [List.setIfInBounds_toArray]); (try simp only [List.set_cons_succ]); (try simp only [List.set_cons_zero])
      refine wpAnyH_take (i := 13) (oi := { dst := some 102, op := Go.Op.move (Go.Operand.tmp 101), type := 4, pos := _, after := #[{ on := 12, ground := Go.Ground.data }, { on := 8, ground := Go.Ground.chain }], guard := none }) (v := .bool true) rfl (by kernel_rfl) (by kernel_rfl) (by kernel_rfl) (fun _ _ _ h => h) (Or.inl ⟨by rfl, fun w' hSw => ?_⟩) (by assumption) ?_
      · (try dsimp only at hSw); go_simp
      (try simp only [Act.put]); (try simp only [List.setIfInBounds_toArray]); (try simp only [List.set_cons_succ]); (try simp only [List.set_cons_zero])
      refine wpAnyH_take (i := 14) (oi := { dst := some 103, op := Go.Op.move (Go.Operand.tmp 10), type := 40, pos := _, after := #[{ on := 13, ground := Go.Ground.guard }], guard := some (13, false) }) (v := undef) rfl (by kernel_rfl) (by kernel_rfl) (by kernel_rfl) (fun _ _ _ h => h) (Or.inr ⟨by rfl, rfl⟩) (by assumption) ?_
      (try simp only [Act.put]); (try simp only [List.setIfInBounds_toArray]); (try simp only [List.set_cons_succ]); (try simp only [List.set_cons_zero])
      refine wpAnyH_take (i := 15) (oi := { dst := some 104, op := Go.Op.indexAddr 40 (Go.Operand.tmp 103) (Go.Operand.const (Go.Value.int Go.IntKind.i64 0)), type := 0, pos := _, after := #[{ on := 14, ground := Go.Ground.data }, { on := 13, ground := Go.Ground.guard }], guard := some (13, false) }) (v := undef) rfl (by kernel_rfl) (by kernel_rfl) (by kernel_rfl) (fun _ _ _ h => h) (Or.inr ⟨by rfl, rfl⟩) (by assumption) ?_
      (try simp only [Act.put]); (try simp only [List.setIfInBounds_toArray]); (try simp only [List.set_cons_succ]); (try simp only [List.set_cons_zero])
      refine wpAnyH_take (i := 16) (oi := { dst := some 105, op := Go.Op.load 24 (Go.Operand.tmp 104), type := 24, pos := _, after := #[{ on := 15, ground := Go.Ground.data }, { on := 13, ground := Go.Ground.guard }], guard := some (13, false) }) (v := undef) rfl (by kernel_rfl) (by kernel_rfl) (by kernel_rfl) (fun _ _ _ h => h) (Or.inr ⟨by rfl, rfl⟩) (by assumption) ?_
      (try simp only [Act.put]); (try simp only [List.setIfInBounds_toArray]); (try simp only [List.set_cons_succ]); (try simp only [List.set_cons_zero])
      refine wpAnyH_take (i := 17) (oi := { dst := some 106, op := Go.Op.load 24 (Go.Operand.tmp 1), type := 24, pos := _, after := #[{ on := 13, ground := Go.Ground.guard }], guard := some (13, false) }) (v := undef) rfl (by kernel_rfl) (by kernel_rfl) (by kernel_rfl) (fun _ _ _ h => h) (Or.inr ⟨by rfl, rfl⟩) (by assumption) ?_
      (try simp only [Act.put]); (try simp only [List.setIfInBounds_toArray]); (try simp only [List.set_cons_succ]); (try simp only [List.set_cons_zero])
      refine wpAnyH_ready (rs := [18]) (by kernel_rfl) (by simp) ?_
      refine AllReadyH.cons (o := { dst := some 107, op := Go.Op.call { callee := Go.Callee.value (Go.Operand.func 14), args := #[Go.Operand.tmp 105, Go.Operand.tmp 106], argTypes := #[24, 24] }, type := 4, pos := _, after := #[{ on := 16, ground := Go.Ground.data }, { on := 17, ground := Go.Ground.data }, { on := 13, ground := Go.Ground.chain }, { on := 13, ground := Go.Ground.guard }], guard := some (13, false) }) rfl (fun K hK => ?_) ?_
      · skip
        go_simp
        refine hK.out _ _ hE (fun hHeld => ?_)
        clear hK K
        (try simp only [Act.put]); (try simp only [List.setIfInBounds_toArray]); (try simp only [List.set_cons_succ]); (try simp only [List.set_cons_zero])
        refine wpAnyH_take (i := 19) (oi := { dst := some 108, op := Go.Op.unOp Go.UnOp.not 4 (Go.Operand.tmp 107), type := 4, pos := _, after := #[{ on := 18, ground := Go.Ground.data }, { on := 13, ground := Go.Ground.guard }], guard := some (13, false) }) (v := undef) rfl (by kernel_rfl) (by kernel_rfl) (by kernel_rfl) (fun _ _ _ h => h) (Or.inr ⟨by rfl, rfl⟩) (by assumption) ?_
        (try simp only [Act.put]); (try simp only [List.setIfInBounds_toArray]); (try simp only [List.set_cons_succ]); (try simp only [List.set_cons_zero])
        refine wpAnyH_take (i := 20) (oi := { dst := some 109, op := Go.Op.pick (Go.Operand.tmp 102) (Go.Operand.const (Go.Value.bool true)) (Go.Operand.tmp 108), type := 4, pos := _, after := #[{ on := 13, ground := Go.Ground.data }, { on := 19, ground := Go.Ground.data }], guard := none }) (v := .bool true) rfl (by kernel_rfl) (by kernel_rfl) (by kernel_rfl) (fun _ _ _ h => h) (Or.inl ⟨by rfl, fun w' hSw => ?_⟩) (by assumption) ?_
        · (try dsimp only at hSw); go_simp
        (try simp only [Act.put]); (try simp only [List.setIfInBounds_toArray]); (try simp only [List.set_cons_succ]); (try simp only [List.set_cons_zero])
        refine wpAnyH_done (by kernel_rfl) ?_ _
        refine NoPanic.normal ?_
        have HE := Hid.mk' hE
        have HB := Hid.mk' (HT.out.1.r.b.trans (Below.mono hE HT.out.1.r.b.size))
        clear hE
        go_wp2_with fail
        go_ret2
        exact ⟨.slice none 0 0, fun h => absurd h HNO.out, fun _ => rfl, HB.out⟩
      exact AllReadyH.nil
  · have HNO : Hid (¬ wOk y) := fun h => hst (by have := (HAO.out h).1; simp only [Prod.mk.injEq] at this; rw [this.1]; rfl)
    have hqb : ((q.st : Int) == 0) = false := beq_false_of_ne (by omega)
    clear HAO HAB HQ HSA HSM HVY HRU HNA hst
    refine wp_region_noPanic ?_
    refine wp_region_held_drew (S := fun w' => Below w7.heap.size w7 w') (by kernel_rfl) hE (fun hHeld => ?_)
    generalize w7.drew = wd at *
    refine wpAnyH_take (i := 0) (oi := { dst := some 89, op := Go.Op.move (Go.Operand.tmp 4), type := 22, pos := _, after := #[], guard := none }) (v := .slice al L.length cl) rfl (by kernel_rfl) (by kernel_rfl) (by kernel_rfl) (fun _ _ _ h => h) (Or.inl ⟨by rfl, fun w' hSw => ?_⟩) (by assumption) ?_
    · (try dsimp only at hSw); go_simp
    (try simp only [Act.put]); (try simp only [List.setIfInBounds_toArray]); (try simp only [List.set_cons_succ]); (try simp only [List.set_cons_zero])
    refine wpAnyH_take (i := 1) (oi := { dst := some 90, op := Go.Op.call { callee := Go.Callee.builtin Go.Builtin.len, args := #[Go.Operand.tmp 89], argTypes := #[22] }, type := 3, pos := _, after := #[{ on := 0, ground := Go.Ground.data }], guard := none }) (v := .int .i64 (L.length : Int)) rfl (by kernel_rfl) (by kernel_rfl) (by kernel_rfl) (fun _ _ _ h => h) (Or.inl ⟨by rfl, fun w' hSw => ?_⟩) (by assumption) ?_
    · (try dsimp only at hSw); go_simp
    (try simp only [Act.put]); (try simp only [List.setIfInBounds_toArray]); (try simp only [List.set_cons_succ]); (try simp only [List.set_cons_zero])
    refine wpAnyH_take (i := 2) (oi := { dst := some 91, op := Go.Op.binOp Go.BinOp.eql 3 (Go.Operand.tmp 90) (Go.Operand.const (Go.Value.int Go.IntKind.i64 0)) 3, type := 4, pos := _, after := #[{ on := 1, ground := Go.Ground.data }], guard := none }) (v := .bool false) rfl (by kernel_rfl) (by kernel_rfl) (by kernel_rfl) (fun _ _ _ h => h) (Or.inl ⟨by rfl, fun w' hSw => ?_⟩) (by assumption) ?_
    · (try dsimp only at hSw); go_simp
    (try simp only [Act.put]); (try simp only [List.setIfInBounds_toArray]); (try simp only [List.set_cons_succ]); (try simp only [List.set_cons_zero])
    refine wpAnyH_take (i := 3) (oi := { dst := some 92, op := Go.Op.move (Go.Operand.tmp 91), type := 4, pos := _, after := #[{ on := 2, ground := Go.Ground.data }], guard := none }) (v := .bool false) rfl (by kernel_rfl) (by kernel_rfl) (by kernel_rfl) (fun _ _ _ h => h) (Or.inl ⟨by rfl, fun w' hSw => ?_⟩) (by assumption) ?_
    · (try dsimp only at hSw); go_simp
    (try simp only [Act.put]); (try simp only [List.setIfInBounds_toArray]); (try simp only [List.set_cons_succ]); (try simp only [List.set_cons_zero])
    refine wpAnyH_take (i := 4) (oi := { dst := some 93, op := Go.Op.load 39 (Go.Operand.tmp 9), type := 39, pos := _, after := #[{ on := 3, ground := Go.Ground.guard }], guard := some (3, false) }) (v := .agg #[.int .i64 (q.st : Int), .int .i64 q.mark, .string (bs q.inter), .string (bs q.args), .string (bs q.text)]) rfl (by kernel_rfl) (by kernel_rfl) (by kernel_rfl) (fun _ _ _ h => h) (Or.inl ⟨by rfl, fun w' hSw => ?_⟩) (by assumption) ?_
    · have bp := HT.out.1.p.later hSw
      exact (exec_loadP _ _ _ _ _ _ _ _ (bp.lies0 rfl)).trans (congrArg (fun z : List Value => Result.ok (Next.value (.agg z.toArray)) w') (bp.row0 rfl))
    (try simp only [Act.put]); (try simp only [List.setIfInBounds_toArray]); (try simp only [List.set_cons_succ]); (try simp only [List.set_cons_zero])
    refine wpAnyH_take (i := 5) (oi := { dst := some 94, op := Go.Op.build 39 #[], type := 39, pos := _, after := #[{ on := 3, ground := Go.Ground.guard }], guard := some (3, false) }) (v := .agg #[.int .i64 0, .int .i64 0, .string ⟨#[]⟩, .string ⟨#[]⟩, .string ⟨#[]⟩]) rfl (by kernel_rfl) (by kernel_rfl) (by kernel_rfl) (fun _ _ _ h => h) (Or.inl ⟨by rfl, fun w' hSw => ?_⟩) (by assumption) ?_
    · (try dsimp only at hSw); go_simp
    (try simp only [Act.put]); (try simp only [List.setIfInBounds_toArray]); (try simp only [List.set_cons_succ]); (try simp only [List.set_cons_zero])
    refine wpAnyH_take (i := 6) (oi := { dst := some 95, op := Go.Op.binOp Go.BinOp.neq 39 (Go.Operand.tmp 93) (Go.Operand.tmp 94) 39, type := 4, pos := _, after := #[{ on := 4, ground := Go.Ground.data }, { on := 5, ground := Go.Ground.data }, { on := 3, ground := Go.Ground.guard }], guard := some (3, false) }) (v := .bool true) rfl (by kernel_rfl) (by kernel_rfl) (by kernel_rfl) (fun _ _ _ h => h) (Or.inl ⟨by rfl, fun w' hSw => ?_⟩) (by assumption) ?_
    · (try dsimp only at hSw); go_simp
    (try simp only [Act.put]); (try simp only [List.setIfInBounds_toArray]); (try simp only [List.set_cons_succ]); (try simp only [List.set_cons_zero])
    refine wpAnyH_take (i := 7) (oi := { dst := some 96, op := Go.Op.pick (Go.Operand.tmp 92) (Go.Operand.const (Go.Value.bool true)) (Go.Operand.tmp 95), type := 4, pos := _, after := #[{ on := 3, ground := Go.Ground.data }, { on := 6, ground := Go.Ground.data }], guard := none }) (v := .bool true) rfl (by kernel_rfl) (by kernel_rfl) (by kernel_rfl) (fun _ _ _ h => h) (Or.inl ⟨by rfl, fun w' hSw => ?_⟩) (by assumption) ?_
    · (try dsimp only at hSw); go_simp
    (try simp only [Act.put]); (try simp only [List.setIfInBounds_toArray]); (try simp only [List.set_cons_succ]); (try simp only [List.set_cons_zero])
    refine wpAnyH_take (i := 8) (oi := { dst := some 97, op := Go.Op.move (Go.Operand.tmp 96), type := 4, pos := _, after := #[{ on := 7, ground := Go.Ground.data }, { on := 3, ground := Go.Ground.chain }], guard := none }) (v := .bool true) rfl (by kernel_rfl) (by kernel_rfl) (by kernel_rfl) (fun _ _ _ h => h) (Or.inl ⟨by rfl, fun w' hSw => ?_⟩) (by assumption) ?_
    · (try dsimp only at hSw); go_simp
    (try simp only [Act.put]); (try simp only [List.setIfInBounds_toArray]); (try simp only [List.set_cons_succ]); (try simp only [List.set_cons_zero])
    refine wpAnyH_take (i := 9) (oi := { dst := some 98, op := Go.Op.move (Go.Operand.tmp 10), type := 40, pos := _, after := #[{ on := 8, ground := Go.Ground.guard }], guard := some (8, false) }) (v := undef) rfl (by kernel_rfl) (by kernel_rfl) (by kernel_rfl) (fun _ _ _ h => h) (Or.inr ⟨by rfl, rfl⟩) (by assumption) ?_
    (try simp only [Act.put]); (try simp only [List.setIfInBounds_toArray]); (try simp only [List.set_cons_succ]); (try simp only [List.set_cons_zero])
    refine wpAnyH_take (i := 10) (oi := { dst := some 99, op := Go.Op.call { callee := Go.Callee.builtin Go.Builtin.len, args := #[Go.Operand.tmp 98], argTypes := #[40] }, type := 3, pos := _, after := #[{ on := 9, ground := Go.Ground.data }, { on := 8, ground := Go.Ground.guard }], guard := some (8, false) }) (v := undef) rfl (by kernel_rfl) (by kernel_rfl) (by kernel_rfl) (fun _ _ _ h => h) (Or.inr ⟨by rfl, rfl⟩) (by assumption) ?_
    (try simp only [Act.put]); (try simp only [List.setIfInBounds_toArray]); (try simp only [List.set_cons_succ]); (try simp only [List.set_cons_zero])
    refine wpAnyH_take (i := 11) (oi := { dst := some 100, op := Go.Op.binOp Go.BinOp.neq 3 (Go.Operand.tmp 99) (Go.Operand.const (Go.Value.int Go.IntKind.i64 1)) 3, type := 4, pos := _, after := #[{ on := 10, ground := Go.Ground.data }, { on := 8, ground := Go.Ground.guard }], guard := some (8, false) }) (v := undef) rfl (by kernel_rfl) (by kernel_rfl) (by kernel_rfl) (fun _ _ _ h => h) (Or.inr ⟨by rfl, rfl⟩) (by assumption) ?_
    (try simp only [Act.put]); (try simp only [List.setIfInBounds_toArray]); (try simp only [List.set_cons_succ]); (try simp only [List.set_cons_zero])
    refine wpAnyH_take (i := 12) (oi := { dst := some 101, op := Go.Op.pick (Go.Operand.tmp 97) (Go.Operand.const (Go.Value.bool true)) (Go.Operand.tmp 100), type := 4, pos := _, after := #[{ on := 8, ground := Go.Ground.data }, { on := 11, ground := Go.Ground.data }], guard := none }) (v := .bool true) rfl (by kernel_rfl) (by kernel_rfl) (by kernel_rfl) (fun _ _ _ h => h) (Or.inl ⟨by rfl, fun w' hSw => ?_⟩) (by assumption) ?_
    · (try dsimp only at hSw); go_simp
    (try simp only [Act.put]); (try simp only [List.setIfInBounds_toArray]); (try simp only [List.set_cons_succ]); (try simp only [List.set_cons_zero])
    refine wpAnyH_take (i := 13) (oi := { dst := some 102, op := Go.Op.move (Go.Operand.tmp 101), type := 4, pos := _, after := #[{ on := 12, ground := Go.Ground.data }, { on := 8, ground := Go.Ground.chain }], guard := none }) (v := .bool true) rfl (by kernel_rfl) (by kernel_rfl) (by kernel_rfl) (fun _ _ _ h => h) (Or.inl ⟨by rfl, fun w' hSw => ?_⟩) (by assumption) ?_
    · (try dsimp only at hSw); go_simp
    (try simp only [Act.put]); (try simp only [List.setIfInBounds_toArray]); (try simp only [List.set_cons_succ]); (try simp only [List.set_cons_zero])
    refine wpAnyH_take (i := 14) (oi := { dst := some 103, op := Go.Op.move (Go.Operand.tmp 10), type := 40, pos := _, after := #[{ on := 13, ground := Go.Ground.guard }], guard := some (13, false) }) (v := undef) rfl (by kernel_rfl) (by kernel_rfl) (by kernel_rfl) (fun _ _ _ h => h) (Or.inr ⟨by rfl, rfl⟩) (by assumption) ?_
    (try simp only [Act.put]); (try simp only [List.setIfInBounds_toArray]); (try simp only [List.set_cons_succ]); (try simp only [List.set_cons_zero])
    refine wpAnyH_take (i := 15) (oi := { dst := some 104, op := Go.Op.indexAddr 40 (Go.Operand.tmp 103) (Go.Operand.const (Go.Value.int Go.IntKind.i64 0)), type := 0, pos := _, after := #[{ on := 14, ground := Go.Ground.data }, { on := 13, ground := Go.Ground.guard }], guard := some (13, false) }) (v := undef) rfl (by kernel_rfl) (by kernel_rfl) (by kernel_rfl) (fun _ _ _ h => h) (Or.inr ⟨by rfl, rfl⟩) (by assumption) ?_
    (try simp only [Act.put]); (try simp only [List.setIfInBounds_toArray]); (try simp only [List.set_cons_succ]); (try simp only [List.set_cons_zero])
    refine wpAnyH_take (i := 16) (oi := { dst := some 105, op := Go.Op.load 24 (Go.Operand.tmp 104), type := 24, pos := _, after := #[{ on := 15, ground := Go.Ground.data }, { on := 13, ground := Go.Ground.guard }], guard := some (13, false) }) (v := undef) rfl (by kernel_rfl) (by kernel_rfl) (by kernel_rfl) (fun _ _ _ h => h) (Or.inr ⟨by rfl, rfl⟩) (by assumption) ?_
    (try simp only [Act.put]); (try simp only [List.setIfInBounds_toArray]); (try simp only [List.set_cons_succ]); (try simp only [List.set_cons_zero])
    refine wpAnyH_take (i := 17) (oi := { dst := some 106, op := Go.Op.load 24 (Go.Operand.tmp 1), type := 24, pos := _, after := #[{ on := 13, ground := Go.Ground.guard }], guard := some (13, false) }) (v := undef) rfl (by kernel_rfl) (by kernel_rfl) (by kernel_rfl) (fun _ _ _ h => h) (Or.inr ⟨by rfl, rfl⟩) (by assumption) ?_
    (try simp only [Act.put]); (try simp only [List.setIfInBounds_toArray]); (try simp only [List.set_cons_succ]); (try simp only [List.set_cons_zero])
    refine wpAnyH_ready (rs := [18]) (by kernel_rfl) (by simp) ?_
    refine AllReadyH.cons (o := { dst := some 107, op := Go.Op.call { callee := Go.Callee.value (Go.Operand.func 14), args := #[Go.Operand.tmp 105, Go.Operand.tmp 106], argTypes := #[24, 24] }, type := 4, pos := _, after := #[{ on := 16, ground := Go.Ground.data }, { on := 17, ground := Go.Ground.data }, { on := 13, ground := Go.Ground.chain }, { on := 13, ground := Go.Ground.guard }], guard := some (13, false) }) rfl (fun K hK => ?_) ?_
    · skip
      go_simp
      refine hK.out _ _ hE (fun hHeld => ?_)
      clear hK K
      (try simp only [Act.put]); (try simp only [List.setIfInBounds_toArray]); (try simp only [List.set_cons_succ]); (try simp only [List.set_cons_zero])
      refine wpAnyH_take (i := 19) (oi := { dst := some 108, op := Go.Op.unOp Go.UnOp.not 4 (Go.Operand.tmp 107), type := 4, pos := _, after := #[{ on := 18, ground := Go.Ground.data }, { on := 13, ground := Go.Ground.guard }], guard := some (13, false) }) (v := undef) rfl (by kernel_rfl) (by kernel_rfl) (by kernel_rfl) (fun _ _ _ h => h) (Or.inr ⟨by rfl, rfl⟩) (by assumption) ?_
      (try simp only [Act.put]); (try simp only [List.setIfInBounds_toArray]); (try simp only [List.set_cons_succ]); (try simp only [List.set_cons_zero])
      refine wpAnyH_take (i := 20) (oi := { dst := some 109, op := Go.Op.pick (Go.Operand.tmp 102) (Go.Operand.const (Go.Value.bool true)) (Go.Operand.tmp 108), type := 4, pos := _, after := #[{ on := 13, ground := Go.Ground.data }, { on := 19, ground := Go.Ground.data }], guard := none }) (v := .bool true) rfl (by kernel_rfl) (by kernel_rfl) (by kernel_rfl) (fun _ _ _ h => h) (Or.inl ⟨by rfl, fun w' hSw => ?_⟩) (by assumption) ?_
      · (try dsimp only at hSw); go_simp
      (try simp only [Act.put]); (try simp only [List.setIfInBounds_toArray]); (try simp only [List.set_cons_succ]); (try simp only [List.set_cons_zero])
      refine wpAnyH_done (by kernel_rfl) ?_ _
      refine NoPanic.normal ?_
      have HE := Hid.mk' hE
      have HB := Hid.mk' (HT.out.1.r.b.trans (Below.mono hE HT.out.1.r.b.size))
      clear hE
      go_wp2_with fail
      go_ret2
      exact ⟨.slice none 0 0, fun h => absurd h HNO.out, fun _ => rfl, HB.out⟩
    exact AllReadyH.nil
end Go.Proofs.YtneiiinheimglaaGreatDoor.B
