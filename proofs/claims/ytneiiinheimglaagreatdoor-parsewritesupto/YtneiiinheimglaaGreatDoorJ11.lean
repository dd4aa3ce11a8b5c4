/-
  Contract of farref.ActRunes at an act of one kind (no kind that there is): its runes where it may be written, else none; conditions: texts and numbers of at most 2^20; the variable internal/bytealg.MaxLen holds an int.
  Contract of farref.ActRunes at an act of one kind (a command whose numbers may not be written): its runes where it may be written, else none; conditions: texts and numbers of at most 2^20; the variable internal/bytealg.MaxLen holds an int.
-/
import Derived.Test.YtneiiinheimglaaGreatDoorBActA
import Derived.BigRegion
import Derived.Deep.DeepCutAuto
import Derived.Deep.CutBlock
namespace Go.Proofs.YtneiiinheimglaaGreatDoor.B
open Go.RowKit Go.Lib Go.Proofs.YtneiiinheimglaaGreatDoor Go.Proofs.YtneiiinheimglaaGreatDoor.W Go.Proofs.YtneiiinheimglaaGreatDoor.Q Go.Proofs.YtneiiinheimglaaGreatDoor.C Go.Proofs.YtneiiinheimglaaGreatDoor.Z

attribute [local go_sem ↓] exec_storeP
set_option maxHeartbeats 16000000 in
set_option maxRecDepth 100000 in
theorem ActRunes_0 (y : Ac) (vy : Value) (m : Int) (w : World) (hv : RdI w vy y.args) (hm : w.cell? ⟨2, 0, none⟩ = some (.int .i64 m)) (_ : y.inter.length ≤ 1048576) (_ : y.text.length ≤ 1048576) (_ : y.args.length ≤ 1048576) (hk : ¬ (1 ≤ y.kind ∧ y.kind ≤ 5)) :
    Calls Tryz.prog 5 #[.agg (acells y vy).toArray] w (ARes y (wL y) w) := by
  have HNO : Hid (¬ wOk y) := fun h => hk (ok_kind h)
  have HP := Hid.mk' (fun W (hB : Below w.heap.size w W) => (show Calls Tryz.prog 13 #[.agg #[.int .i64 0, .int .i64 0, .string ⟨#[]⟩, .string ⟨#[]⟩, .string ⟨#[]⟩], .slice none 0 0] W _ from Parsed_any p0 right_p0 m (.slice none 0 0) [] W ⟨_, _, rfl, Nat.le_refl _, .inl rfl⟩ (Nat.zero_le _) ((hB.cell (p := ⟨2, 0, none⟩) (World.block_lt_of_cell? _ _ hm)).trans hm)))
  have kb1 : (y.kind == 1) = false := beq_false_of_ne (by omega)
  have kb2 : (y.kind == 2) = false := beq_false_of_ne (by omega)
  have kb3 : (y.kind == 3) = false := beq_false_of_ne (by omega)
  have kb4 : (y.kind == 4) = false := beq_false_of_ne (by omega)
  have kb5 : (y.kind == 5) = false := beq_false_of_ne (by omega)
  obtain ⟨ad, cp, rfl, hv2⟩ := hv
  clear hv2 hm hk
  unfold pcells at HP
  generalize run p0 [] = Y at *
  obtain ⟨q, acts⟩ := Y
  dsimp only at *
  have X0 := Rw.new (w := w) y (.slice ad y.args.length cp)
  have c0 := X0.a.cell (j := 0) (v := .int .i64 y.kind) rfl
  have c1 := X0.a.cell (j := 1) (v := .int .i64 y.code) rfl
  have c2 := X0.a.cell (j := 2) (v := .int .i64 y.mark) rfl
  have c3 := X0.a.cell (j := 3) (v := .string (bs y.inter)) rfl
  have c4 := X0.a.cell (j := 4) (v := .slice ad y.args.length cp) rfl
  have c5 := X0.a.cell (j := 5) (v := .string (bs y.text)) rfl
  have HX0 := Hid.mk' X0
  clear X0
  unfold acells at *
  go_enter Tryz.func5, Tryz.ntmps5
  go_wp2_with fail
  refine (HP.out _ HX0.out.b).mono ?_
  rintro e w2 ⟨v2, rfl, hra, hb2⟩
  have B2 := HX0.out.b.trans (Below.mono hb2 HX0.out.b.size)
  have bq := Box.new w2 39 [.int .i64 0, .int .i64 0, .string ⟨#[]⟩, .string ⟨#[]⟩, .string ⟨#[]⟩]
  have hL6 : Lies (w2.alloc (.cells #[.int .i64 0, .int .i64 0, .string ⟨#[]⟩, .string ⟨#[]⟩, .string ⟨#[]⟩] 39)) (.pointer (some ⟨w2.heap.size, 0, none⟩)) 5 := bq.lies0 rfl
  have hHq : Holds (.agg #[.int .i64 (q.st : Int), .int .i64 q.mark, .string (bs q.inter), .string (bs q.args), .string (bs q.text)]) 5 := holds_p q
  have hP6 := bq.putAt [.int .i64 (q.st : Int), .int .i64 q.mark, .string (bs q.inter), .string (bs q.args), .string (bs q.text)] rfl
  have hA6 : Below w2.heap.size w2 (w2.alloc (.cells #[.int .i64 0, .int .i64 0, .string ⟨#[]⟩, .string ⟨#[]⟩, .string ⟨#[]⟩] 39)) := (Below.refl _ _).alloc (Nat.le_refl _) _
  have hB6 := hP6.below _ _ (Nat.le_refl _) hA6
  have HB := Hid.mk' (B2.trans (Below.mono hB6 B2.size))
  obtain ⟨la, lcp, lxs, lve, hlc, lex, lr, lt⟩ := hra
  clear hb2 B2 bq hP6 hA6 hB6 HX0 HP lex lr lt hlc c0 c1 c2 c3 c4 c5
  subst lve
  go_upto_region 23 with fail
  generalize Q.putAt (w2.alloc (.cells #[.int .i64 0, .int .i64 0, .string ⟨#[]⟩, .string ⟨#[]⟩, .string ⟨#[]⟩] 39)) (.pointer (some ⟨w2.heap.size, 0, none⟩)) (.agg #[.int .i64 (q.st : Int), .int .i64 q.mark, .string (bs q.inter), .string (bs q.args), .string (bs q.text)]) = w7 at *
  generalize w2.heap.size = b6 at *
  clear hL6 hHq
  have hE : Below w7.heap.size w7 w7.drew := (Below.refl _ _).drew
  refine wp_region_noPanic ?_
  refine wp_region_held_drew (S := fun w' => Below w7.heap.size w7 w') (by kernel_rfl) hE (fun hHeld => ?_)
  generalize w7.drew = wd at *
  refine wpAnyH_take (i := 0) (oi := { dst := some 89, op := Go.Op.move (Go.Operand.tmp 4), type := 22, pos := _, after := #[], guard := none }) (v := .slice none 0 0) rfl (by kernel_rfl) (by kernel_rfl) (by kernel_rfl) (fun _ _ _ h => h) (Or.inl ⟨by rfl, fun w' hSw => ?_⟩) (by assumption) ?_
  · (try dsimp only at hSw); go_simp
  (try simp only [Act.put]); (try simp only [List.setIfInBounds_toArray]); (try simp only [List.set_cons_succ]); (try simp only [List.set_cons_zero])
  refine wpAnyH_take (i := 1) (oi := { dst := some 90, op := Go.Op.call { callee := Go.Callee.builtin Go.Builtin.len, args := #[Go.Operand.tmp 89], argTypes := #[22] }, type := 3, pos := _, after := #[{ on := 0, ground := Go.Ground.data }], guard := none }) (v := .int .i64 0) rfl (by kernel_rfl) (by kernel_rfl) (by kernel_rfl) (fun _ _ _ h => h) (Or.inl ⟨by rfl, fun w' hSw => ?_⟩) (by assumption) ?_
  · (try dsimp only at hSw); go_simp
  (try simp only [Act.put]); (try simp only [List.setIfInBounds_toArray]); (try simp only [List.set_cons_succ]); (try simp only [List.set_cons_zero])
  refine wpAnyH_take (i := 2) (oi := { dst := some 91, op := Go.Op.binOp Go.BinOp.eql 3 (Go.Operand.tmp 90) (Go.Operand.const (Go.Value.int Go.IntKind.i64 0)) 3, type := 4, pos := _, after := #[{ on := 1, ground := Go.Ground.data }], guard := none }) (v := .bool true) rfl (by kernel_rfl) (by kernel_rfl) (by kernel_rfl) (fun _ _ _ h => h) (Or.inl ⟨by rfl, fun w' hSw => ?_⟩) (by assumption) ?_
  · (try dsimp only at hSw); go_simp
  (try simp only [Act.put]); (try simp only [List.setIfInBounds_toArray]); (try simp only [List.set_cons_succ]); (try simp only [List.set_cons_zero])
  refine wpAnyH_take (i := 3) (oi := { dst := some 92, op := Go.Op.move (Go.Operand.tmp 91), type := 4, pos := _, after := #[{ on := 2, ground := Go.Ground.data }], guard := none }) (v := .bool true) rfl (by kernel_rfl) (by kernel_rfl) (by kernel_rfl) (fun _ _ _ h => h) (Or.inl ⟨by rfl, fun w' hSw => ?_⟩) (by assumption) ?_
  · (try dsimp only at hSw); go_simp
  (try simp only [Act.put]); (try simp only [List.setIfInBounds_toArray]); (try simp only [List.set_cons_succ]); (try simp only [List.set_cons_zero])
  refine wpAnyH_take (i := 4) (oi := { dst := some 93, op := Go.Op.load 39 (Go.Operand.tmp 9), type := 39, pos := _, after := #[{ on := 3, ground := Go.Ground.guard }], guard := some (3, false) }) (v := undef) rfl (by kernel_rfl) (by kernel_rfl) (by kernel_rfl) (fun _ _ _ h => h) (Or.inr ⟨by rfl, rfl⟩) (by assumption) ?_
  (try simp only [Act.put]); (try simp only [List.setIfInBounds_toArray]); (try simp only [List.set_cons_succ]); (try simp only [List.set_cons_zero])
  refine wpAnyH_take (i := 5) (oi := { dst := some 94, op := Go.Op.build 39 #[], type := 39, pos := _, after := #[{ on := 3, ground := Go.Ground.guard }], guard := some (3, false) }) (v := undef) rfl (by kernel_rfl) (by kernel_rfl) (by kernel_rfl) (fun _ _ _ h => h) (Or.inr ⟨by rfl, rfl⟩) (by assumption) ?_
  (try simp only [Act.put]); (try simp only [List.setIfInBounds_toArray]); (try simp only [List.set_cons_succ]); (try simp only [List.set_cons_zero])
  refine wpAnyH_take (i := 6) (oi := { dst := some 95, op := Go.Op.binOp Go.BinOp.neq 39 (Go.Operand.tmp 93) (Go.Operand.tmp 94) 39, type := 4, pos := _, after := #[{ on := 4, ground := Go.Ground.data }, { on := 5, ground := Go.Ground.data }, { on := 3, ground := Go.Ground.guard }], guard := some (3, false) }) (v := undef) rfl (by kernel_rfl) (by kernel_rfl) (by kernel_rfl) (fun _ _ _ h => h) (Or.inr ⟨by rfl, rfl⟩) (by assumption) ?_
  (try simp only [Act.put]); (try simp only [List.setIfInBounds_toArray]); (try simp only [List.set_cons_succ]); (try simp only [List.set_cons_zero])
  refine wpAnyH_take (i := 7) (oi := { dst := some 96, op := Go.Op.pick (Go.Operand.tmp 92) (Go.Operand.const (Go.Value.bool true)) (Go.Operand.tmp 95), type := 4, pos := _, after := #[{ on := 3, ground := Go.Ground.data }, { on := 6, ground := Go.Ground.data }], guard := none }) (v := .bool true) rfl (by kernel_rfl) (by kernel_rfl) (by kernel_rfl) (fun _ _ _ h => h) (Or.inl ⟨by rfl, fun w' hSw => ?_⟩) (by assumption) ?_
  · (try dsimp only at hSw); go_simp
  (try simp only [Act.put]); (try simp only [List.setIfInBounds_toArray]); (try simp only [List.set_cons_succ]); (try simp only [List.set_cons_zero])
  refine wpAnyH_take (i := 8) (oi := { dst := some 97, op := Go.Op.move (Go.Operand.tmp 96), type := 4, pos := _, after := #[{ on := 7, ground := Go.Ground.data }, { on := 3, ground := Go.Ground.chain }], guard := none }) (v := .bool true) rfl (by kernel_rfl) (by kernel_rfl) (by kernel_rfl) (fun _ _ _ h => h) (Or.inl ⟨by rfl, fun w' hSw => ?_⟩) (by assumption) ?_
  · (try dsimp only at hSw); go_simp
  (try simp only [Act.put]); (try simp only [List.setIfInBounds_toArray]); (try simp only [List.set_cons_succ]); (try simp only [List.set_cons_zero])
  refine wpAnyH_take (i := 9) (oi := { dst := some 98, op := Go.Op.move (Go.Operand.tmp 10), type := 40, pos := _, after := #[{ on := 8, ground := Go.Ground.guard }], guard := some (8, false) }) (v := undef) rfl (by kernel_rfl) (by kernel_rfl) (by kernel_rfl) (fun _ _ _ h => h) (Or.inr ⟨by rfl, rfl⟩) (by assumption) ?_
  (try simp only [Act.put]); (try simp only [List.setIfInBounds_toArray]); (try simp only [List.set_cons_succ]); (try simp only [List.set_cons_zero])
  refine wpAnyH_take (i := 10) (oi := { dst := some 99, op := Go.Op.call { callee := Go.Callee.builtin Go.Builtin.len, args := #[Go.Operand.tmp 98], argTypes := #[40] }, type := 3, pos := _, after := #[{ on := 9, ground := Go.Ground.data }, { on := 8, ground := Go.Ground.guard }], guard := some (8, false) }) (v := undef) rfl (by kernel_rfl) (by kernel_rfl) (by kernel_rfl) (fun _ _ _ h => h) (Or.inr ⟨by rfl, rfl⟩) (by assumption) ?_
  (try simp only [Act.put]); (try simp only [List.setIfInBounds_toArray]); (try simp only [List.set_cons_succ]); (try simp only [List.set_cons_zero])
  refine wpAnyH_take (i := 11) (oi := { dst := some 100, op := Go.Op.binOp Go.BinOp.neq 3 (Go.Operand.tmp 99) (Go.Operand.const (Go.Value.int Go.IntKind.i64 1)) 3, type := 4, pos := _, after := #[{ on := 10, ground := Go.Ground.data }, { on := 8, ground := Go.Ground.guard }], guard := some (8, false) }) (v := undef) rfl (by kernel_rfl) (by kernel_rfl) (by kernel_rfl) (fun _ _ _ h => h) (Or.inr ⟨by rfl, rfl⟩) (by assumption) ?_
  (try simp only [Act.put]); (try simp only [List.setIfInBounds_toArray]); (try simp only [List.set_cons_succ]); (try simp only [List.set_cons_zero])
  refine wpAnyH_take (i := 12) (oi := { dst := some 101, op := Go.Op.pick (Go.Operand.tmp 97) (Go.Operand.const (Go.Value.bool true)) (Go.Operand.tmp 100), type := 4, pos := _, after := #[{ on := 8, ground := Go.Ground.data }, { on := 11, ground := Go.Ground.data }], guard := none }) (v := .bool true) rfl (by kernel_rfl) (by kernel_rfl) (by kernel_rfl) (fun _ _ _ h => h) (Or.inl ⟨by rfl, fun w' hSw => ?_⟩) (by assumption) ?_
  · (try dsimp only at hSw); go_simp
  (try simp only [Act.put]); (try simp only [List.setIfInBounds_toArray]); (try simp only [List.set_cons_succ]); (try simp only [List.set_cons_zero])
  refine wpAnyH_take (i := 13) (oi := { dst := some 102, op := Go.Op.move (Go.Operand.tmp 101), type := 4, pos := _, after := #[{ on := 12, ground := Go.Ground.data }, { on := 8, ground := Go.Ground.chain }], guard := none }) (v := .bool true) rfl (by kernel_rfl) (by kernel_rfl) (by kernel_rfl) (fun _ _ _ h => h) (Or.inl ⟨by rfl, fun w' hSw => ?_⟩) (by assumption) ?_
  · (try dsimp only at hSw); go_simp
  (try simp only [Act.put]); (try simp only [List.setIfInBounds_toArray]); (try simp only [List.set_cons_succ]); (try simp only [List.set_cons_zero])
  refine wpAnyH_take (i := 14) (oi := { dst := some 103, op := Go.Op.move (Go.Operand.tmp 10), type := 40, pos := _, after := #[{ on := 13, ground := Go.Ground.guard }], guard := some (13, false) }) (v := undef) rfl (by kernel_rfl) (by kernel_rfl) (by kernel_rfl) (fun _ _ _ h => h) (Or.inr ⟨by rfl, rfl⟩) (by assumption) ?_
  (try simp only [Act.put]); (try simp only [List.setIfInBounds_toArray]); (try simp only [List.set_cons_succ]); (try simp only [List.set_cons_zero])
  refine wpAnyH_take (i := 15) (oi := { dst := some 104, op := Go.Op.indexAddr 40 (Go.Operand.tmp 103) (Go.Operand.const (Go.Value.int Go.IntKind.i64 0)), type := 0, pos := _, after := #[{ on := 14, ground := Go.Ground.data }, { on := 13, ground := Go.Ground.guard }], guard := some (13, false) }) (v := undef) rfl (by kernel_rfl) (by kernel_rfl) (by kernel_rfl) (fun _ _ _ h => h) (Or.inr ⟨by rfl, rfl⟩) (by assumption) ?_
  (try simp only [Act.put]); (try simp only [List.setIfInBounds_toArray]); (try simp only [List.set_cons_succ]); (try simp only [List.set_cons_zero])
  refine wpAnyH_take (i := 16) (oi := { dst := some 105, op := Go.Op.load 24 (Go.Operand.tmp 104), type := 24, pos := _, after := #[{ on := 15, ground := Go.Ground.data }, { on := 13, ground := Go.Ground.guard }], guard := some (13, false) }) (v := undef) rfl (by kernel_rfl) (by kernel_rfl) (by kernel_rfl) (fun _ _ _ h => h) (Or.inr ⟨by rfl, rfl⟩) (by assumption) ?_
  (try simp only [Act.put]); (try simp only [List.setIfInBounds_toArray]); (try simp only [List.set_cons_succ]); (try simp only [List.set_cons_zero])
  refine wpAnyH_take (i := 17) (oi := { dst := some 106, op := Go.Op.load 24 (Go.Operand.tmp 1), type := 24, pos := _, after := #[{ on := 13, ground := Go.Ground.guard }], guard := some (13, false) }) (v := undef) rfl (by kernel_rfl) (by kernel_rfl) (by kernel_rfl) (fun _ _ _ h => h) (Or.inr ⟨by rfl, rfl⟩) (by assumption) ?_
  (try simp only [Act.put]); (try simp only [List.setIfInBounds_toArray]); (try simp only [List.set_cons_succ]); (try simp only [List.set_cons_zero])
  refine wpAnyH_ready (rs := [18]) (by kernel_rfl) (by simp) ?_
  refine AllReadyH.cons (o := { dst := some 107, op := Go.Op.call { callee := Go.Callee.value (Go.Operand.func 14), args := #[Go.Operand.tmp 105, Go.Operand.tmp 106], argTypes := #[24, 24] }, type := 4, pos := _, after := #[{ on := 16, ground := Go.Ground.data }, { on := 17, ground := Go.Ground.data }, { on := 13, ground := Go.Ground.chain }, { on := 13, ground := Go.Ground.guard }], guard := some (13, false) }) rfl (fun K hK => ?_) ?_
  · skip
    go_simp
    refine hK.out _ _ hE (fun hHeld => ?_)
    clear hK K
    (try simp only [Act.put]); (try simp only [List.setIfInBounds_toArray]); (try simp only [List.set_cons_succ]); (try simp only [List.set_cons_zero])
    refine wpAnyH_take (i := 19) (oi := { dst := some 108, op := Go.Op.unOp Go.UnOp.not 4 (Go.Operand.tmp 107), type := 4, pos := _, after := #[{ on := 18, ground := Go.Ground.data }, { on := 13, ground := Go.Ground.guard }], guard := some (13, false) }) (v := undef) rfl (by kernel_rfl) (by kernel_rfl) (by kernel_rfl) (fun _ _ _ h => h) (Or.inr ⟨by rfl, rfl⟩) (by assumption) ?_
    (try simp only [Act.put]); (try simp only [List.setIfInBounds_toArray]); (try simp only [List.set_cons_succ]); (try simp only [List.set_cons_zero])
    refine wpAnyH_take (i := 20) (oi := { dst := some 109, op := Go.Op.pick (Go.Operand.tmp 102) (Go.Operand.const (Go.Value.bool true)) (Go.Operand.tmp 108), type := 4, pos := _, after := #[{ on := 13, ground := Go.Ground.data }, { on := 19, ground := Go.Ground.data }], guard := none }) (v := .bool true) rfl (by kernel_rfl) (by kernel_rfl) (by kernel_rfl) (fun _ _ _ h => h) (Or.inl ⟨by rfl, fun w' hSw => ?_⟩) (by assumption) ?_
    · (try dsimp only at hSw); go_simp
    (try simp only [Act.put]); (try simp only [List.setIfInBounds_toArray]); (try simp only [List.set_cons_succ]); (try simp only [List.set_cons_zero])
    refine wpAnyH_done (by kernel_rfl) ?_ _
    refine NoPanic.normal ?_
    have HB9 := Hid.mk' (HB.out.trans (Below.mono hE HB.out.size))
    clear hE HB
    go_wp2_with fail
    go_ret2
    exact ⟨.slice none 0 0, fun h => absurd h HNO.out, fun _ => rfl, HB9.out⟩
  exact AllReadyH.nil
end Go.Proofs.YtneiiinheimglaaGreatDoor.B
namespace Go.Proofs.YtneiiinheimglaaGreatDoor.B
open Go.RowKit Go.Lib Go.Proofs.YtneiiinheimglaaGreatDoor Go.Proofs.YtneiiinheimglaaGreatDoor.W Go.Proofs.YtneiiinheimglaaGreatDoor.Q Go.Proofs.YtneiiinheimglaaGreatDoor.C Go.Proofs.YtneiiinheimglaaGreatDoor.Z

attribute [local go_sem ↓] exec_storeP
set_option maxHeartbeats 16000000 in
set_option maxRecDepth 100000 in
theorem ActRunes_4x (y : Ac) (vy : Value) (m : Int) (w : World) (hv : RdI w vy y.args) (_ : w.cell? ⟨2, 0, none⟩ = some (.int .i64 m)) (_ : y.inter.length ≤ 1048576) (_ : y.text.length ≤ 1048576) (har : y.args.length ≤ 1048576) (hk : y.kind = 4) (hw0 : (writeT y.args).2 ≠ 0) :
    Calls Tryz.prog 5 #[.agg (acells y vy).toArray] w (ARes y (wL y) w) := by
  have HNO : Hid (¬ wOk y) := fun h => hw0 (ok_four hk h).1
  have HAT : Hid (∀ W, Below w.heap.size w W → Calls Tryz.prog 11 #[vy] W fun e w' => e = .returned (.tuple #[.string (bs (writeT y.args).1), .int .i64 (writeT y.args).2]) ∧ w' = W) := fun W hW => by
    have h := ArgsText_any vy y.args W (hv.below hW) (by omega)
    exact h
  have kb1 : (y.kind == 1) = false := by rw [hk]; rfl
  have kb2 : (y.kind == 2) = false := by rw [hk]; rfl
  have kb3 : (y.kind == 3) = false := by rw [hk]; rfl
  have kb4 : (y.kind == 4) = true := by rw [hk]; rfl
  have kb5 : (y.kind == 5) = false := by rw [hk]; rfl
  have hwb : ((writeT y.args).2 != 0) = true := bne_of hw0
  clear hw0
  generalize (writeT y.args).2 = E at *
  generalize bs (writeT y.args).1 = ST at *
  obtain ⟨ad, cp, rfl, hv2⟩ := hv
  clear hv2 hk har
  have X0 := Rw.new (w := w) y (.slice ad y.args.length cp)
  have c0 := X0.a.cell (j := 0) (v := .int .i64 y.kind) rfl
  have c1 := X0.a.cell (j := 1) (v := .int .i64 y.code) rfl
  have c2 := X0.a.cell (j := 2) (v := .int .i64 y.mark) rfl
  have c3 := X0.a.cell (j := 3) (v := .string (bs y.inter)) rfl
  have c4 := X0.a.cell (j := 4) (v := .slice ad y.args.length cp) rfl
  have c5 := X0.a.cell (j := 5) (v := .string (bs y.text)) rfl
  have HX0 := Hid.mk' X0
  clear X0
  unfold acells at *
  have HC := Hid.mk' (HAT.out _ HX0.out.b)
  clear HAT
  go_enter Tryz.func5, Tryz.ntmps5
  go_wp2_with fail
  refine HC.out.mono ?_
  rintro e w1 ⟨rfl, hw1⟩
  subst hw1
  clear HC
  have HB1 := Hid.mk' HX0.out.b
  clear HX0 c0 c1 c2 c3 c4 c5
  go_wp2_with fail
  go_ret2
  exact ⟨.slice none 0 0, fun h => absurd h HNO.out, fun _ => rfl, HB1.out⟩
set_option maxHeartbeats 16000000 in
set_option maxRecDepth 100000 in
theorem ActRunes_4ya (y : Ac) (vy : Value) (m : Int) (w : World) (hv : RdI w vy y.args) (_ : w.cell? ⟨2, 0, none⟩ = some (.int .i64 m)) (_ : y.inter.length ≤ 1048576) (_ : y.text.length ≤ 1048576) (har : y.args.length ≤ 1048576) (hk : y.kind = 4) (hw0 : (writeT y.args).2 = 0) (hl4 : ¬ (writeT y.args).1.length ≤ 100) (hmk : y.mark = 0) :
    Calls Tryz.prog 5 #[.agg (acells y vy).toArray] w (ARes y (wL y) w) := by
  have HNO : Hid (¬ wOk y) := fun h => hl4 (ok_four hk h).2
  have HAT : Hid (∀ W, Below w.heap.size w W → Calls Tryz.prog 11 #[vy] W fun e w' => e = .returned (.tuple #[.string (bs (writeT y.args).1), .int .i64 0]) ∧ w' = W) := fun W hW => by
    have h := ArgsText_any vy y.args W (hv.below hW) (by omega)
    rw [hw0] at h
    exact h
  have kb1 : (y.kind == 1) = false := by rw [hk]; rfl
  have kb2 : (y.kind == 2) = false := by rw [hk]; rfl
  have kb3 : (y.kind == 3) = false := by rw [hk]; rfl
  have kb4 : (y.kind == 4) = true := by rw [hk]; rfl
  have kb5 : (y.kind == 5) = false := by rw [hk]; rfl
  have hmb : (y.mark != 0) = false := by rw [hmk]; rfl
  have hz : ¬ (bs (writeT y.args).1).size ≤ 100 := by rw [C.bs_size]; exact hl4
  have hz2 : (bs (writeT y.args).1).size ≤ 2000 := by rw [C.bs_size]; exact text_fits hw0
  clear hmk hw0 hl4
  generalize bs (writeT y.args).1 = ST at *
  obtain ⟨ad, cp, rfl, hv2⟩ := hv
  clear hv2 hk har
  have X0 := Rw.new (w := w) y (.slice ad y.args.length cp)
  have c0 := X0.a.cell (j := 0) (v := .int .i64 y.kind) rfl
  have c1 := X0.a.cell (j := 1) (v := .int .i64 y.code) rfl
  have c2 := X0.a.cell (j := 2) (v := .int .i64 y.mark) rfl
  have c3 := X0.a.cell (j := 3) (v := .string (bs y.inter)) rfl
  have c4 := X0.a.cell (j := 4) (v := .slice ad y.args.length cp) rfl
  have c5 := X0.a.cell (j := 5) (v := .string (bs y.text)) rfl
  have HX0 := Hid.mk' X0
  clear X0
  unfold acells at *
  have HC := Hid.mk' (HAT.out _ HX0.out.b)
  clear HAT
  go_enter Tryz.func5, Tryz.ntmps5
  go_wp2_with fail
  refine HC.out.mono ?_
  rintro e w1 ⟨rfl, hw1⟩
  subst hw1
  clear HC
  have HB1 := Hid.mk' (HX0.out.alloc (.cells #[.int .i64 27, .int .i64 91] 3)).b
  clear HX0
  go_wp2_with fail
  go_ret2
  exact ⟨.slice none 0 0, fun h => absurd h HNO.out, fun _ => rfl, HB1.out⟩
set_option maxHeartbeats 16000000 in
set_option maxRecDepth 100000 in
theorem ActRunes_4yb (y : Ac) (vy : Value) (m : Int) (w : World) (hv : RdI w vy y.args) (_ : w.cell? ⟨2, 0, none⟩ = some (.int .i64 m)) (_ : y.inter.length ≤ 1048576) (_ : y.text.length ≤ 1048576) (har : y.args.length ≤ 1048576) (hk : y.kind = 4) (hw0 : (writeT y.args).2 = 0) (hl4 : ¬ (writeT y.args).1.length ≤ 100) (hmk : ¬ y.mark = 0) :
    Calls Tryz.prog 5 #[.agg (acells y vy).toArray] w (ARes y (wL y) w) := by
  have HNO : Hid (¬ wOk y) := fun h => hl4 (ok_four hk h).2
  have HAT : Hid (∀ W, Below w.heap.size w W → Calls Tryz.prog 11 #[vy] W fun e w' => e = .returned (.tuple #[.string (bs (writeT y.args).1), .int .i64 0]) ∧ w' = W) := fun W hW => by
    have h := ArgsText_any vy y.args W (hv.below hW) (by omega)
    rw [hw0] at h
    exact h
  have kb1 : (y.kind == 1) = false := by rw [hk]; rfl
  have kb2 : (y.kind == 2) = false := by rw [hk]; rfl
  have kb3 : (y.kind == 3) = false := by rw [hk]; rfl
  have kb4 : (y.kind == 4) = true := by rw [hk]; rfl
  have kb5 : (y.kind == 5) = false := by rw [hk]; rfl
  have hmb : (y.mark != 0) = true := bne_of hmk
  have hz : ¬ (bs (writeT y.args).1).size ≤ 100 := by rw [C.bs_size]; exact hl4
  have hz2 : (bs (writeT y.args).1).size ≤ 2000 := by rw [C.bs_size]; exact text_fits hw0
  clear hmk hw0 hl4
  generalize bs (writeT y.args).1 = ST at *
  obtain ⟨ad, cp, rfl, hv2⟩ := hv
  clear hv2 hk har
  have X0 := Rw.new (w := w) y (.slice ad y.args.length cp)
  have c0 := X0.a.cell (j := 0) (v := .int .i64 y.kind) rfl
  have c1 := X0.a.cell (j := 1) (v := .int .i64 y.code) rfl
  have c2 := X0.a.cell (j := 2) (v := .int .i64 y.mark) rfl
  have c3 := X0.a.cell (j := 3) (v := .string (bs y.inter)) rfl
  have c4 := X0.a.cell (j := 4) (v := .slice ad y.args.length cp) rfl
  have c5 := X0.a.cell (j := 5) (v := .string (bs y.text)) rfl
  have HX0 := Hid.mk' X0
  clear X0
  unfold acells at *
  have HC := Hid.mk' (HAT.out _ HX0.out.b)
  clear HAT
  go_enter Tryz.func5, Tryz.ntmps5
  go_wp2_with fail
  refine HC.out.mono ?_
  rintro e w1 ⟨rfl, hw1⟩
  subst hw1
  clear HC
  have HX1 := Hid.mk' (HX0.out.alloc (.cells #[.int .i64 27, .int .i64 91] 3))
  have HX2 := Hid.mk' (HX1.out.alloc (.cells #[.int .i64 y.mark] 3))
  have HO1 := OwnI.lit (w.alloc (.cells #[.int .i64 y.kind, .int .i64 y.code, .int .i64 y.mark, .string (bs y.inter), .slice ad y.args.length cp, .string (bs y.text)] 24)) (w.heap.size + 1) [27, 91] HX0.out.le (by decide)
  rw [World.size_alloc] at HO1
  have HO2 := Hid.mk' (show OwnI (((w.alloc (.cells #[.int .i64 y.kind, .int .i64 y.code, .int .i64 y.mark, .string (bs y.inter), .slice ad y.args.length cp, .string (bs y.text)] 24)).alloc (.cells #[.int .i64 27, .int .i64 91] 3)).alloc (.cells #[.int .i64 y.mark] 3)) (w.heap.size + 1) (.slice (some ⟨w.heap.size + 1, 0, none⟩) 2 2) [27, 91] from HO1.below ((Below.refl _ _).alloc (Nat.le_refl _) (.cells #[.int .i64 y.mark] 3)))
  have HR2 : Hid (RdI (((w.alloc (.cells #[.int .i64 y.kind, .int .i64 y.code, .int .i64 y.mark, .string (bs y.inter), .slice ad y.args.length cp, .string (bs y.text)] 24)).alloc (.cells #[.int .i64 27, .int .i64 91] 3)).alloc (.cells #[.int .i64 y.mark] 3)) (.slice (some ⟨w.heap.size + 1 + 1, 0, none⟩) 1 1) [y.mark]) := by
    have h := rd_one (Box.new ((w.alloc (.cells #[.int .i64 y.kind, .int .i64 y.code, .int .i64 y.mark, .string (bs y.inter), .slice ad y.args.length cp, .string (bs y.text)] 24)).alloc (.cells #[.int .i64 27, .int .i64 91] 3)) 3 [.int .i64 y.mark])
    rw [World.size_alloc, World.size_alloc] at h
    exact h
  clear HO1 HX1
  go_wp2_with (at_builtin; refine wpList_append_g _ (by rfl) _ _ rfl (w.heap.size + 1) (some ⟨w.heap.size + 1, 0, none⟩) 2 2 [27, 91] rfl HO2.out (some ⟨w.heap.size + 1 + 1, 0, none⟩) 1 1 [y.mark] rfl HR2.out (by simp) HX2.out.le ?_)
  intro al5 n5 cl5 w5 hn5 ho5 hB5
  have HB5 := Hid.mk' (HX2.out.app hB5).b
  clear hn5 ho5 hB5 HX0 HX2 HO2 HR2
  go_wp2_with fail
  go_ret2
  exact ⟨.slice none 0 0, fun h => absurd h HNO.out, fun _ => rfl, HB5.out⟩
end Go.Proofs.YtneiiinheimglaaGreatDoor.B
