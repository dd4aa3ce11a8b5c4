/-
  The walk of farlaw.LineTypes; conditions: Keys of 38 bytes, a set of four words of 64 bits.
-/
import Derived.Test.YtomgnnbcaficaaaDoorLTyping
namespace Go.Proofs.YtomgnnbcaficaaaDoor.L
open Go.RowKit Go.Lib Go.Proofs.YtomgnnbcaficaaaDoor Go.Proofs.YtomgnnbcaficaaaDoor.W Go.Proofs.YtomgnnbcaficaaaDoor.Q

/-- nothing old has become other -/
def ExtT (w w' : World) : Prop := Below w.heap.size w w'
theorem ExtT.refl (w : World) : ExtT w w := Below.refl _ w
theorem ExtT.trans {a b c : World} (h : ExtT a b) (h2 : ExtT b c) : ExtT a c := Below.trans h (Below.mono h2 (Below.size h))
theorem typeT_ls (k : List UInt8) (M : List Nat) (B T : List UInt8) (q : Bool) : (typeT k M B q T).1.ls.length ≤ 4096 := by
  rcases typeT_form k M B T q with ⟨hr, h⟩ | ⟨_, h⟩
  · rw [h]
    obtain ⟨hB, _, hT⟩ := ref_zero.1 hr
    have := (runS_room (KK k M) B q hB T).2.1
    show (runS _ _ _).ls.length ≤ 4096
    omega
  · rw [h]
    exact Nat.zero_le _
/-- Typing as the walks call it -/
theorem typing_call (k : List UInt8) (hk : k.length = 38) (M : List Nat) (hM : H.okW M) (B T : List UInt8) (q : Bool) (w : World) (x1 x2 : ByteArray) (p : S × Int) (hp : typeT k M B q T = p) (h1 : bs p.1.buf = x1) (h2 : bs p.1.echo = x2) :
    Calls Tryd.prog 10 #[.agg #[.string (bs B), .bool q], .agg (bcells k).toArray, .agg (H.ucells M).toArray, .string (bs T)] w fun e w' => ∃ al cl n, Hid (n = p.1.ls.length) ∧ e = .returned (.tuple #[.agg #[.string x1, .bool p.1.q], .slice al n cl, .string x2, .int .i64 p.2]) ∧ OwnL w' w.heap.size al cl p.1.ls ∧ Below w.heap.size w w' := by
  refine (Typing_any k hk M hM B T q w).mono fun e w' h => ?_
  obtain ⟨al, cl, e1, e2, e3⟩ := h
  subst hp h1 h2
  exact ⟨al, cl, _, rfl, e1, e2, e3⟩

set_option maxHeartbeats 32000000 in
set_option maxRecDepth 100000 in
theorem LineTypes_big (k : List UInt8) (hk : k.length = 38) (M : List Nat) (hM : H.okW M) (B T : List UInt8) (q : Bool) (w : World) (hB : 1024 ≤ B.length) :
    Calls Tryd.prog 3 #[.agg #[.string (bs B), .bool q], .agg (bcells k).toArray, .agg (H.ucells M).toArray, .string (bs T)] w fun e w' => e = .returned (.bool true) ∧ Below w.heap.size w w' := by
  have hls := typeT_ls k M B T q
  have HC : Hid (∀ W, Calls Tryd.prog 12 #[.agg #[.string (bs B), .bool q]] W fun e w' => e = .returned (.int .i64 2) ∧ Below W.heap.size W w') := fun W => by
    have h := lCheck_any (bs B) q W
    rw [bs_size, show lchk B.length = 2 from if_pos hB] at h
    exact h
  have g1 : (1024 : Int) ≤ (B.length : Int) := by omega
  have hsB := bs_size B
  have HT1 := Hid.mk' (fun W => type_call k hk M hM B T q W _ _ _ rfl rfl rfl)
  have HT2 := Hid.mk' (fun W => typing_call k hk M hM B T q W _ _ _ rfl rfl rfl)
  generalize typeT k M B q T = p at *
  have HEQ : Hid (∀ W v1 v2, RdS W v1 (p.1.ls.map bs) → RdS W v2 (p.1.ls.map bs) → Calls Tryd.prog 11 #[v1, v2] W fun e w' => e = .returned (.bool true) ∧ Below W.heap.size W w') := fun W v1 v2 h1 h2 => by
    refine (Equal_same W v1 v2 (p.1.ls.map bs) h1 h2 (by rw [List.length_map]; omega)).mono fun e w' h => ?_
    obtain ⟨he, nq, hw⟩ := h
    exact ⟨he, by rw [hw]; exact below_drewN (Below.refl _ _) _⟩
  have HSK := Hid.mk' (K.sizeKV k hk)
  have HSM := Hid.mk' (H.sizeMV hM)
  have HSE : Hid ((Tryd.prog.info? 23).map (·.size) = some ([Value.string (bs B), Value.bool q]).length) := sizeE
  clear hls hB
  generalize bs p.1.buf = X1 at *
  generalize bs p.1.echo = X2 at *
  generalize hpq : p.1.q = pq at *
  generalize hpe : p.2 = pe at *
  clear hpq hpe
  generalize bs B = X at *
  generalize bs T = T1 at *
  generalize bcells k = l at *
  generalize H.ucells M = m at *
  clear hk hM
  go_enter Tryd.func3, Tryd.ntmps3
  have HB_0 := Hid.mk' (Below.refl w.heap.size w)
  go_wp2_with (refine wpList_box ([.string X, .bool q]) 23 rfl _ rfl rfl ?_)
  intro w1 mw1
  have zw1 := mw1.lt
  have Hw1 : Below w.heap.size w w1 := mw1.below _ _ (Nat.le_refl _) (Below.refl _ _)
  have Xw1 := mw1.box
  have HB_w1 := Hid.mk' (HB_0.out.trans (Below.mono Hw1 HB_0.out.size))
  clear HB_0
  have be_w1 := Hid.mk' Xw1
  clear mw1 Hw1 Xw1
  go_wp2_with (refine wpList_box (l) 26 rfl _ rfl rfl ?_)
  intro w2 mw2
  have zw2 := mw2.lt
  have Hw2 : Below w1.heap.size w1 w2 := mw2.below _ _ (Nat.le_refl _) (Below.refl _ _)
  have Xw2 := mw2.box
  have HB_w2 := Hid.mk' (HB_w1.out.trans (Below.mono Hw2 HB_w1.out.size))
  have be_w2 := Hid.mk' (be_w1.out.later Hw2)
  clear HB_w1 be_w1
  have bk_w2 := Hid.mk' Xw2
  clear mw2 Hw2 Xw2
  go_wp2_with (refine wpList_box (m) 30 rfl _ rfl rfl ?_)
  intro w3 mw3
  have zw3 := mw3.lt
  have Hw3 : Below w2.heap.size w2 w3 := mw3.below _ _ (Nat.le_refl _) (Below.refl _ _)
  have Xw3 := mw3.box
  have HB_w3 := Hid.mk' (HB_w2.out.trans (Below.mono Hw3 HB_w2.out.size))
  have be_w3 := Hid.mk' (be_w2.out.later Hw3)
  have bk_w3 := Hid.mk' (bk_w2.out.later Hw3)
  clear HB_w2 be_w2 bk_w2
  have bm_w3 := Hid.mk' Xw3
  clear mw3 Hw3 Xw3
  go_wp2_with (first | (with_reducible refine wpList_load_box 23 23 ([.string X, .bool q]) w.heap.size _ Tryd.underlying23 rfl HSE.out be_w3.out rfl _ rfl rfl ?_) | (with_reducible refine wpList_load_box 26 26 (l) w1.heap.size _ Tryd.underlying26 rfl HSK.out bk_w3.out rfl _ rfl rfl ?_) | (with_reducible refine wpList_load_box 30 30 (m) w2.heap.size _ Tryd.underlying30 rfl HSM.out bm_w3.out rfl _ rfl rfl ?_))
  refine (HT1.out _).mono ?_
  rintro e w4 ⟨al1, cl1, n1, hn1, rfl, ho1, hw4⟩
  have zw4 := hw4.size
  have HB_w4 := Hid.mk' (HB_w3.out.trans (Below.mono hw4 HB_w3.out.size))
  have be_w4 := Hid.mk' (be_w3.out.later hw4)
  have bk_w4 := Hid.mk' (bk_w3.out.later hw4)
  have bm_w4 := Hid.mk' (bm_w3.out.later hw4)
  clear HB_w3 be_w3 bk_w3 bm_w3
  clear hw4
  have ol1_4 := Hid.mk' (ho1)
  clear ho1
  go_wp2_with (first | (refine wpList_alloc [.string ⟨#[]⟩, .bool false] 23 zeroE rfl rfl ?_))
  intro w5 mw5
  have zw5 := mw5.lt
  have Yw5 := Hid.mk' mw5.box
  have HSw5 : Hid (∀ W', Stored w5 W' w4.heap.size 23 ([.string X1, .bool pq]) → Below w4.heap.size w4 W') := fun W' s' => s'.below _ _ (Nat.le_refl _) (mw5.below _ _ (Nat.le_refl _) (Below.refl _ _))
  clear mw5
  go_wp2_with (refine wpList_store_box 23 23 [.string ⟨#[]⟩, .bool false] ([.string X1, .bool pq]) w4.heap.size sizeE (edCells_one _ _) Yw5.out rfl rfl _ _ rfl rfl rfl ?_)
  intro w6 sw6
  have zw6 : w4.heap.size < w6.heap.size := sw6.box.lt
  have Hw6 := HSw5.out w6 sw6
  have Xw6 := sw6.box
  have HB_w6 := Hid.mk' (HB_w4.out.trans (Below.mono Hw6 HB_w4.out.size))
  have be_w6 := Hid.mk' (be_w4.out.later Hw6)
  have bk_w6 := Hid.mk' (bk_w4.out.later Hw6)
  have bm_w6 := Hid.mk' (bm_w4.out.later Hw6)
  have ol1_w6 := Hid.mk' (ol1_4.out.below Hw6)
  clear HB_w4 be_w4 bk_w4 bm_w4 ol1_4
  have ba_w6 := Hid.mk' Xw6
  clear sw6 Hw6 Xw6 Yw5 HSw5 zw5
  go_wp2_with (first | (with_reducible refine wpList_load_box 23 23 ([.string X, .bool q]) w.heap.size _ Tryd.underlying23 rfl HSE.out be_w6.out rfl _ rfl rfl ?_) | (with_reducible refine wpList_load_box 26 26 (l) w1.heap.size _ Tryd.underlying26 rfl HSK.out bk_w6.out rfl _ rfl rfl ?_) | (with_reducible refine wpList_load_box 30 30 (m) w2.heap.size _ Tryd.underlying30 rfl HSM.out bm_w6.out rfl _ rfl rfl ?_))
  refine (HT2.out _).mono ?_
  rintro e w7 ⟨al2, cl2, n2, hn2, rfl, ho2, hw7⟩
  have zw7 := hw7.size
  have HB_w7 := Hid.mk' (HB_w6.out.trans (Below.mono hw7 HB_w6.out.size))
  have be_w7 := Hid.mk' (be_w6.out.later hw7)
  have bk_w7 := Hid.mk' (bk_w6.out.later hw7)
  have bm_w7 := Hid.mk' (bm_w6.out.later hw7)
  have ol1_w7 := Hid.mk' (ol1_w6.out.below hw7)
  have ba_w7 := Hid.mk' (ba_w6.out.later hw7)
  clear HB_w6 be_w6 bk_w6 bm_w6 ol1_w6 ba_w6
  clear hw7
  have ol2_7 := Hid.mk' (ho2)
  clear ho2
  go_wp2_with (first | (refine wpList_alloc [.string ⟨#[]⟩, .bool false] 23 zeroE rfl rfl ?_))
  intro w8 mw8
  have zw8 := mw8.lt
  have Yw8 := Hid.mk' mw8.box
  have HSw8 : Hid (∀ W', Stored w8 W' w7.heap.size 23 ([.string X1, .bool pq]) → Below w7.heap.size w7 W') := fun W' s' => s'.below _ _ (Nat.le_refl _) (mw8.below _ _ (Nat.le_refl _) (Below.refl _ _))
  clear mw8
  go_wp2_with (refine wpList_store_box 23 23 [.string ⟨#[]⟩, .bool false] ([.string X1, .bool pq]) w7.heap.size sizeE (edCells_one _ _) Yw8.out rfl rfl _ _ rfl rfl rfl ?_)
  intro w9 sw9
  have zw9 : w7.heap.size < w9.heap.size := sw9.box.lt
  have Hw9 := HSw8.out w9 sw9
  have Xw9 := sw9.box
  have HB_w9 := Hid.mk' (HB_w7.out.trans (Below.mono Hw9 HB_w7.out.size))
  have be_w9 := Hid.mk' (be_w7.out.later Hw9)
  have bk_w9 := Hid.mk' (bk_w7.out.later Hw9)
  have bm_w9 := Hid.mk' (bm_w7.out.later Hw9)
  have ol1_w9 := Hid.mk' (ol1_w7.out.below Hw9)
  have ba_w9 := Hid.mk' (ba_w7.out.later Hw9)
  have ol2_w9 := Hid.mk' (ol2_7.out.below Hw9)
  clear HB_w7 be_w7 bk_w7 bm_w7 ol1_w7 ba_w7 ol2_7
  have bb_w9 := Hid.mk' Xw9
  clear sw9 Hw9 Xw9 Yw8 HSw8 zw8
  have HR1 : RdS w9.drew (.slice al1 n1 cl1) (p.1.ls.map bs) := (rd_n hn1.out (by have h := ol1_w9.out; unfold OwnL at h; rw [hn1.out]; exact h)).below (Below.refl _ _).drew
  have HR2 : RdS w9.drew (.slice al2 n2 cl2) (p.1.ls.map bs) := (rd_n hn2.out (by have h := ol2_w9.out; unfold OwnL at h; rw [hn2.out]; exact h)).below (Below.refl _ _).drew
  have HEQ1 := Hid.mk' (HEQ.out w9.drew _ _ HR1 HR2)
  have hE : ExtT w9.drew w9.drew := ExtT.refl _
  have BE := be_w9.out.drew
  have BA := ba_w9.out.drew
  have BB := bb_w9.out.drew
  have ce0 : ∀ w', ExtT w9.drew w' → w'.cell? ⟨w.heap.size, 0, none⟩ = some (.string X) := fun w' h => (BE.later h).cell (j := 0) rfl
  have ce1 : ∀ w', ExtT w9.drew w' → w'.cell? ⟨w.heap.size, 1, none⟩ = some (.bool q) := fun w' h => (BE.later h).cell (j := 1) rfl
  have ca0 : ∀ w', ExtT w9.drew w' → w'.cell? ⟨w4.heap.size, 0, none⟩ = some (.string X1) := fun w' h => (BA.later h).cell (j := 0) rfl
  have ca1 : ∀ w', ExtT w9.drew w' → w'.cell? ⟨w4.heap.size, 1, none⟩ = some (.bool pq) := fun w' h => (BA.later h).cell (j := 1) rfl
  have cb0 : ∀ w', ExtT w9.drew w' → w'.cell? ⟨w7.heap.size, 0, none⟩ = some (.string X1) := fun w' h => (BB.later h).cell (j := 0) rfl
  have cb1 : ∀ w', ExtT w9.drew w' → w'.cell? ⟨w7.heap.size, 1, none⟩ = some (.bool pq) := fun w' h => (BB.later h).cell (j := 1) rfl
  have HF := Hid.mk' HB_w9.out.drew
  clear HR1 HR2 HEQ BE BA BB HT1 HT2
  go_wp2_with fail
  refine wp_region_noPanic ?_
  refine wp_region_held_drew (S := fun w' => ExtT w9.drew w') (by kernel_rfl) hE (fun hHeld => ?_)
  refine wpAnyH_take (i := 0) (oi := { dst := some 37, op := Go.Op.load 23 (Go.Operand.tmp 9), type := 23, pos := _, after := #[], guard := none }) (v := .agg #[.string X1, .bool pq]) rfl (by kernel_rfl) (by kernel_rfl) (by kernel_rfl) (fun _ _ _ h => h) (Or.inl ⟨by rfl, fun w' hSw => ?_⟩) (by assumption) ?_
  · have c0 := ca0 _ hSw; have c1 := ca1 _ hSw; go_simp
  (try simp only [Act.put]); (try simp only [List.setIfInBounds_toArray]); (try simp only [List.set_cons_succ]); (try simp only [List.set_cons_zero])
  refine wpAnyH_take (i := 1) (oi := { dst := some 38, op := Go.Op.load 23 (Go.Operand.tmp 13), type := 23, pos := _, after := #[], guard := none }) (v := .agg #[.string X1, .bool pq]) rfl (by kernel_rfl) (by kernel_rfl) (by kernel_rfl) (fun _ _ _ h => h) (Or.inl ⟨by rfl, fun w' hSw => ?_⟩) (by assumption) ?_
  · have c0 := cb0 _ hSw; have c1 := cb1 _ hSw; go_simp
  (try simp only [Act.put]); (try simp only [List.setIfInBounds_toArray]); (try simp only [List.set_cons_succ]); (try simp only [List.set_cons_zero])
  refine wpAnyH_take (i := 2) (oi := { dst := some 39, op := Go.Op.binOp Go.BinOp.eql 23 (Go.Operand.tmp 37) (Go.Operand.tmp 38) 23, type := 4, pos := _, after := #[{ on := 0, ground := Go.Ground.data }, { on := 1, ground := Go.Ground.data }], guard := none }) (v := .bool true) rfl (by kernel_rfl) (by kernel_rfl) (by kernel_rfl) (fun _ _ _ h => h) (Or.inl ⟨by rfl, fun w' hSw => ?_⟩) (by assumption) ?_
  · (try dsimp only at hSw); go_simp
  (try simp only [Act.put]); (try simp only [List.setIfInBounds_toArray]); (try simp only [List.set_cons_succ]); (try simp only [List.set_cons_zero])
  refine wpAnyH_take (i := 3) (oi := { dst := some 40, op := Go.Op.move (Go.Operand.tmp 39), type := 4, pos := _, after := #[{ on := 2, ground := Go.Ground.data }], guard := none }) (v := .bool true) rfl (by kernel_rfl) (by kernel_rfl) (by kernel_rfl) (fun _ _ _ h => h) (Or.inl ⟨by rfl, fun w' hSw => ?_⟩) (by assumption) ?_
  · (try dsimp only at hSw); go_simp
  (try simp only [Act.put]); (try simp only [List.setIfInBounds_toArray]); (try simp only [List.set_cons_succ]); (try simp only [List.set_cons_zero])
  refine wpAnyH_take (i := 4) (oi := { dst := some 41, op := Go.Op.move (Go.Operand.tmp 10), type := 31, pos := _, after := #[{ on := 3, ground := Go.Ground.guard }], guard := some (3, true) }) (v := .slice al1 n1 cl1) rfl (by kernel_rfl) (by kernel_rfl) (by kernel_rfl) (fun _ _ _ h => h) (Or.inl ⟨by rfl, fun w' hSw => ?_⟩) (by assumption) ?_
  · (try dsimp only at hSw); go_simp
  (try simp only [Act.put]); (try simp only [List.setIfInBounds_toArray]); (try simp only [List.set_cons_succ]); (try simp only [List.set_cons_zero])
  refine wpAnyH_take (i := 5) (oi := { dst := some 42, op := Go.Op.move (Go.Operand.tmp 14), type := 31, pos := _, after := #[{ on := 3, ground := Go.Ground.guard }], guard := some (3, true) }) (v := .slice al2 n2 cl2) rfl (by kernel_rfl) (by kernel_rfl) (by kernel_rfl) (fun _ _ _ h => h) (Or.inl ⟨by rfl, fun w' hSw => ?_⟩) (by assumption) ?_
  · (try dsimp only at hSw); go_simp
  (try simp only [Act.put]); (try simp only [List.setIfInBounds_toArray]); (try simp only [List.set_cons_succ]); (try simp only [List.set_cons_zero])
  refine wpAnyH_ready (rs := [6]) (by kernel_rfl) (by simp) ?_
  refine AllReadyH.cons (o := { dst := some 43, op := Go.Op.call { callee := Go.Callee.value (Go.Operand.func 11), args := #[Go.Operand.tmp 41, Go.Operand.tmp 42], argTypes := #[31, 31] }, type := 4, pos := _, after := #[{ on := 4, ground := Go.Ground.data }, { on := 5, ground := Go.Ground.data }, { on := 3, ground := Go.Ground.chain }, { on := 3, ground := Go.Ground.guard }], guard := some (3, true) }) rfl (fun K hK => ?_) ?_
  · skip
    go_simp
    refine (HEQ1.out).mono ?_
    rintro e v1 ⟨rfl, hbv1⟩
    have e1 := ExtT.trans hE hbv1
    go_wp2_with fail
    refine hK.out _ _ e1 (fun hHeld => ?_)
    clear hK K
    (try simp only [Act.put]); (try simp only [List.setIfInBounds_toArray]); (try simp only [List.set_cons_succ]); (try simp only [List.set_cons_zero])
    refine wpAnyH_take (i := 7) (oi := { dst := some 44, op := Go.Op.pick (Go.Operand.tmp 40) (Go.Operand.tmp 43) (Go.Operand.const (Go.Value.bool false)), type := 4, pos := _, after := #[{ on := 3, ground := Go.Ground.data }, { on := 6, ground := Go.Ground.data }], guard := none }) (v := .bool true) rfl (by kernel_rfl) (by kernel_rfl) (by kernel_rfl) (fun _ _ _ h => h) (Or.inl ⟨by rfl, fun w' hSw => ?_⟩) (by assumption) ?_
    · (try dsimp only at hSw); go_simp
    (try simp only [Act.put]); (try simp only [List.setIfInBounds_toArray]); (try simp only [List.set_cons_succ]); (try simp only [List.set_cons_zero])
    refine wpAnyH_take (i := 8) (oi := { dst := some 45, op := Go.Op.move (Go.Operand.tmp 44), type := 4, pos := _, after := #[{ on := 7, ground := Go.Ground.data }, { on := 6, ground := Go.Ground.chain }], guard := none }) (v := .bool true) rfl (by kernel_rfl) (by kernel_rfl) (by kernel_rfl) (fun _ _ _ h => h) (Or.inl ⟨by rfl, fun w' hSw => ?_⟩) (by assumption) ?_
    · (try dsimp only at hSw); go_simp
    (try simp only [Act.put]); (try simp only [List.setIfInBounds_toArray]); (try simp only [List.set_cons_succ]); (try simp only [List.set_cons_zero])
    refine wpAnyH_take (i := 9) (oi := { dst := some 46, op := Go.Op.move (Go.Operand.tmp 11), type := 9, pos := _, after := #[{ on := 8, ground := Go.Ground.guard }], guard := some (8, true) }) (v := .string X2) rfl (by kernel_rfl) (by kernel_rfl) (by kernel_rfl) (fun _ _ _ h => h) (Or.inl ⟨by rfl, fun w' hSw => ?_⟩) (by assumption) ?_
    · (try dsimp only at hSw); go_simp
    (try simp only [Act.put]); (try simp only [List.setIfInBounds_toArray]); (try simp only [List.set_cons_succ]); (try simp only [List.set_cons_zero])
    refine wpAnyH_take (i := 10) (oi := { dst := some 47, op := Go.Op.move (Go.Operand.tmp 15), type := 9, pos := _, after := #[{ on := 8, ground := Go.Ground.guard }], guard := some (8, true) }) (v := .string X2) rfl (by kernel_rfl) (by kernel_rfl) (by kernel_rfl) (fun _ _ _ h => h) (Or.inl ⟨by rfl, fun w' hSw => ?_⟩) (by assumption) ?_
    · (try dsimp only at hSw); go_simp
    (try simp only [Act.put]); (try simp only [List.setIfInBounds_toArray]); (try simp only [List.set_cons_succ]); (try simp only [List.set_cons_zero])
    refine wpAnyH_take (i := 11) (oi := { dst := some 48, op := Go.Op.binOp Go.BinOp.eql 9 (Go.Operand.tmp 46) (Go.Operand.tmp 47) 9, type := 4, pos := _, after := #[{ on := 9, ground := Go.Ground.data }, { on := 10, ground := Go.Ground.data }, { on := 8, ground := Go.Ground.guard }], guard := some (8, true) }) (v := .bool true) rfl (by kernel_rfl) (by kernel_rfl) (by kernel_rfl) (fun _ _ _ h => h) (Or.inl ⟨by rfl, fun w' hSw => ?_⟩) (by assumption) ?_
    · (try dsimp only at hSw); go_simp
    (try simp only [Act.put]); (try simp only [List.setIfInBounds_toArray]); (try simp only [List.set_cons_succ]); (try simp only [List.set_cons_zero])
    refine wpAnyH_take (i := 12) (oi := { dst := some 49, op := Go.Op.pick (Go.Operand.tmp 45) (Go.Operand.tmp 48) (Go.Operand.const (Go.Value.bool false)), type := 4, pos := _, after := #[{ on := 8, ground := Go.Ground.data }, { on := 11, ground := Go.Ground.data }], guard := none }) (v := .bool true) rfl (by kernel_rfl) (by kernel_rfl) (by kernel_rfl) (fun _ _ _ h => h) (Or.inl ⟨by rfl, fun w' hSw => ?_⟩) (by assumption) ?_
    · (try dsimp only at hSw); go_simp
    (try simp only [Act.put]); (try simp only [List.setIfInBounds_toArray]); (try simp only [List.set_cons_succ]); (try simp only [List.set_cons_zero])
    refine wpAnyH_take (i := 13) (oi := { dst := some 50, op := Go.Op.move (Go.Operand.tmp 49), type := 4, pos := _, after := #[{ on := 12, ground := Go.Ground.data }, { on := 8, ground := Go.Ground.chain }], guard := none }) (v := .bool true) rfl (by kernel_rfl) (by kernel_rfl) (by kernel_rfl) (fun _ _ _ h => h) (Or.inl ⟨by rfl, fun w' hSw => ?_⟩) (by assumption) ?_
    · (try dsimp only at hSw); go_simp
    (try simp only [Act.put]); (try simp only [List.setIfInBounds_toArray]); (try simp only [List.set_cons_succ]); (try simp only [List.set_cons_zero])
    refine wpAnyH_take (i := 14) (oi := { dst := some 51, op := Go.Op.move (Go.Operand.tmp 12), type := 32, pos := _, after := #[{ on := 13, ground := Go.Ground.guard }], guard := some (13, true) }) (v := .int .i64 pe) rfl (by kernel_rfl) (by kernel_rfl) (by kernel_rfl) (fun _ _ _ h => h) (Or.inl ⟨by rfl, fun w' hSw => ?_⟩) (by assumption) ?_
    · (try dsimp only at hSw); go_simp
    (try simp only [Act.put]); (try simp only [List.setIfInBounds_toArray]); (try simp only [List.set_cons_succ]); (try simp only [List.set_cons_zero])
    refine wpAnyH_take (i := 15) (oi := { dst := some 52, op := Go.Op.move (Go.Operand.tmp 16), type := 32, pos := _, after := #[{ on := 13, ground := Go.Ground.guard }], guard := some (13, true) }) (v := .int .i64 pe) rfl (by kernel_rfl) (by kernel_rfl) (by kernel_rfl) (fun _ _ _ h => h) (Or.inl ⟨by rfl, fun w' hSw => ?_⟩) (by assumption) ?_
    · (try dsimp only at hSw); go_simp
    (try simp only [Act.put]); (try simp only [List.setIfInBounds_toArray]); (try simp only [List.set_cons_succ]); (try simp only [List.set_cons_zero])
    refine wpAnyH_take (i := 16) (oi := { dst := some 53, op := Go.Op.binOp Go.BinOp.eql 32 (Go.Operand.tmp 51) (Go.Operand.tmp 52) 32, type := 4, pos := _, after := #[{ on := 14, ground := Go.Ground.data }, { on := 15, ground := Go.Ground.data }, { on := 13, ground := Go.Ground.guard }], guard := some (13, true) }) (v := .bool true) rfl (by kernel_rfl) (by kernel_rfl) (by kernel_rfl) (fun _ _ _ h => h) (Or.inl ⟨by rfl, fun w' hSw => ?_⟩) (by assumption) ?_
    · (try dsimp only at hSw); go_simp
    (try simp only [Act.put]); (try simp only [List.setIfInBounds_toArray]); (try simp only [List.set_cons_succ]); (try simp only [List.set_cons_zero])
    refine wpAnyH_take (i := 17) (oi := { dst := some 54, op := Go.Op.pick (Go.Operand.tmp 50) (Go.Operand.tmp 53) (Go.Operand.const (Go.Value.bool false)), type := 4, pos := _, after := #[{ on := 13, ground := Go.Ground.data }, { on := 16, ground := Go.Ground.data }], guard := none }) (v := .bool true) rfl (by kernel_rfl) (by kernel_rfl) (by kernel_rfl) (fun _ _ _ h => h) (Or.inl ⟨by rfl, fun w' hSw => ?_⟩) (by assumption) ?_
    · (try dsimp only at hSw); go_simp
    (try simp only [Act.put]); (try simp only [List.setIfInBounds_toArray]); (try simp only [List.set_cons_succ]); (try simp only [List.set_cons_zero])
    refine wpAnyH_take (i := 18) (oi := { dst := some 55, op := Go.Op.move (Go.Operand.tmp 54), type := 4, pos := _, after := #[{ on := 17, ground := Go.Ground.data }, { on := 13, ground := Go.Ground.chain }], guard := none }) (v := .bool true) rfl (by kernel_rfl) (by kernel_rfl) (by kernel_rfl) (fun _ _ _ h => h) (Or.inl ⟨by rfl, fun w' hSw => ?_⟩) (by assumption) ?_
    · (try dsimp only at hSw); go_simp
    (try simp only [Act.put]); (try simp only [List.setIfInBounds_toArray]); (try simp only [List.set_cons_succ]); (try simp only [List.set_cons_zero])
    refine wpAnyH_take (i := 19) (oi := { dst := some 56, op := Go.Op.load 23 (Go.Operand.tmp 4), type := 23, pos := _, after := #[{ on := 18, ground := Go.Ground.guard }], guard := some (18, true) }) (v := .agg #[.string X, .bool q]) rfl (by kernel_rfl) (by kernel_rfl) (by kernel_rfl) (fun _ _ _ h => h) (Or.inl ⟨by rfl, fun w' hSw => ?_⟩) (by assumption) ?_
    · have c0 := ce0 _ hSw; have c1 := ce1 _ hSw; go_simp
    (try simp only [Act.put]); (try simp only [List.setIfInBounds_toArray]); (try simp only [List.set_cons_succ]); (try simp only [List.set_cons_zero])
    refine wpAnyH_take (i := 22) (oi := { dst := some 59, op := Go.Op.fieldAddr 23 (Go.Operand.tmp 4) 0, type := 0, pos := _, after := #[{ on := 18, ground := Go.Ground.guard }], guard := some (18, true) }) (v := .pointer (some ⟨w.heap.size, 0, none⟩)) rfl (by kernel_rfl) (by kernel_rfl) (by kernel_rfl) (fun _ _ _ h => h) (Or.inl ⟨by rfl, fun w' hSw => ?_⟩) (by assumption) ?_
    · (try dsimp only at hSw); go_simp
    (try simp only [Act.put]); (try simp only [List.setIfInBounds_toArray]); (try simp only [List.set_cons_succ]); (try simp only [List.set_cons_zero])
    refine wpAnyH_take (i := 23) (oi := { dst := some 60, op := Go.Op.load 9 (Go.Operand.tmp 59), type := 9, pos := _, after := #[{ on := 22, ground := Go.Ground.data }, { on := 18, ground := Go.Ground.guard }], guard := some (18, true) }) (v := .string X) rfl (by kernel_rfl) (by kernel_rfl) (by kernel_rfl) (fun _ _ _ h => h) (Or.inl ⟨by rfl, fun w' hSw => ?_⟩) (by assumption) ?_
    · have c0 := ce0 _ hSw; go_simp
    (try simp only [Act.put]); (try simp only [List.setIfInBounds_toArray]); (try simp only [List.set_cons_succ]); (try simp only [List.set_cons_zero])
    refine wpAnyH_take (i := 24) (oi := { dst := some 61, op := Go.Op.call { callee := Go.Callee.builtin Go.Builtin.len, args := #[Go.Operand.tmp 60], argTypes := #[9] }, type := 3, pos := _, after := #[{ on := 23, ground := Go.Ground.data }, { on := 18, ground := Go.Ground.guard }], guard := some (18, true) }) (v := .int .i64 (B.length : Int)) rfl (by kernel_rfl) (by kernel_rfl) (by kernel_rfl) (fun _ _ _ h => h) (Or.inl ⟨by rfl, fun w' hSw => ?_⟩) (by assumption) ?_
    · (try dsimp only at hSw); go_simp
    (try simp only [Act.put]); (try simp only [List.setIfInBounds_toArray]); (try simp only [List.set_cons_succ]); (try simp only [List.set_cons_zero])
    refine wpAnyH_take (i := 25) (oi := { dst := some 62, op := Go.Op.binOp Go.BinOp.geq 3 (Go.Operand.tmp 61) (Go.Operand.const (Go.Value.int Go.IntKind.i64 1024)) 3, type := 4, pos := _, after := #[{ on := 24, ground := Go.Ground.data }, { on := 18, ground := Go.Ground.guard }], guard := some (18, true) }) (v := .bool true) rfl (by kernel_rfl) (by kernel_rfl) (by kernel_rfl) (fun _ _ _ h => h) (Or.inl ⟨by rfl, fun w' hSw => ?_⟩) (by assumption) ?_
    · (try dsimp only at hSw); go_simp
    (try simp only [Act.put]); (try simp only [List.setIfInBounds_toArray]); (try simp only [List.set_cons_succ]); (try simp only [List.set_cons_zero])
    refine wpAnyH_ready (rs := [20]) (by kernel_rfl) (by simp) ?_
    refine AllReadyH.cons (o := { dst := some 57, op := Go.Op.call { callee := Go.Callee.value (Go.Operand.func 12), args := #[Go.Operand.tmp 56], argTypes := #[23] }, type := 32, pos := _, after := #[{ on := 19, ground := Go.Ground.data }, { on := 18, ground := Go.Ground.chain }, { on := 18, ground := Go.Ground.guard }], guard := some (18, true) }) rfl (fun K hK => ?_) ?_
    · skip
      go_simp
      refine (HC.out _).mono ?_
      rintro e v2 ⟨rfl, hbv2⟩
      have e2 := ExtT.trans e1 hbv2
      go_wp2_with fail
      refine hK.out _ _ e2 (fun hHeld => ?_)
      clear hK K
      (try simp only [Act.put]); (try simp only [List.setIfInBounds_toArray]); (try simp only [List.set_cons_succ]); (try simp only [List.set_cons_zero])
      refine wpAnyH_take (i := 21) (oi := { dst := some 58, op := Go.Op.binOp Go.BinOp.eql 32 (Go.Operand.tmp 57) (Go.Operand.const (Go.Value.int Go.IntKind.i64 2)) 32, type := 4, pos := _, after := #[{ on := 20, ground := Go.Ground.data }, { on := 18, ground := Go.Ground.guard }], guard := some (18, true) }) (v := .bool true) rfl (by kernel_rfl) (by kernel_rfl) (by kernel_rfl) (fun _ _ _ h => h) (Or.inl ⟨by rfl, fun w' hSw => ?_⟩) (by assumption) ?_
      · (try dsimp only at hSw); go_simp
      (try simp only [Act.put]); (try simp only [List.setIfInBounds_toArray]); (try simp only [List.set_cons_succ]); (try simp only [List.set_cons_zero])
      refine wpAnyH_take (i := 26) (oi := { dst := some 63, op := Go.Op.binOp Go.BinOp.eql 4 (Go.Operand.tmp 58) (Go.Operand.tmp 62) 4, type := 4, pos := _, after := #[{ on := 21, ground := Go.Ground.data }, { on := 25, ground := Go.Ground.data }, { on := 18, ground := Go.Ground.guard }], guard := some (18, true) }) (v := .bool true) rfl (by kernel_rfl) (by kernel_rfl) (by kernel_rfl) (fun _ _ _ h => h) (Or.inl ⟨by rfl, fun w' hSw => ?_⟩) (by assumption) ?_
      · (try dsimp only at hSw); go_simp
      (try simp only [Act.put]); (try simp only [List.setIfInBounds_toArray]); (try simp only [List.set_cons_succ]); (try simp only [List.set_cons_zero])
      refine wpAnyH_take (i := 27) (oi := { dst := some 64, op := Go.Op.pick (Go.Operand.tmp 55) (Go.Operand.tmp 63) (Go.Operand.const (Go.Value.bool false)), type := 4, pos := _, after := #[{ on := 18, ground := Go.Ground.data }, { on := 26, ground := Go.Ground.data }], guard := none }) (v := .bool true) rfl (by kernel_rfl) (by kernel_rfl) (by kernel_rfl) (fun _ _ _ h => h) (Or.inl ⟨by rfl, fun w' hSw => ?_⟩) (by assumption) ?_
      · (try dsimp only at hSw); go_simp
      (try simp only [Act.put]); (try simp only [List.setIfInBounds_toArray]); (try simp only [List.set_cons_succ]); (try simp only [List.set_cons_zero])
      refine wpAnyH_take (i := 28) (oi := { dst := some 65, op := Go.Op.move (Go.Operand.tmp 64), type := 4, pos := _, after := #[{ on := 27, ground := Go.Ground.data }, { on := 20, ground := Go.Ground.chain }], guard := none }) (v := .bool true) rfl (by kernel_rfl) (by kernel_rfl) (by kernel_rfl) (fun _ _ _ h => h) (Or.inl ⟨by rfl, fun w' hSw => ?_⟩) (by assumption) ?_
      · (try dsimp only at hSw); go_simp
      (try simp only [Act.put]); (try simp only [List.setIfInBounds_toArray]); (try simp only [List.set_cons_succ]); (try simp only [List.set_cons_zero])
      refine wpAnyH_take (i := 29) (oi := { dst := some 66, op := Go.Op.fieldAddr 23 (Go.Operand.tmp 4) 0, type := 0, pos := _, after := #[{ on := 28, ground := Go.Ground.guard }], guard := some (28, true) }) (v := .pointer (some ⟨w.heap.size, 0, none⟩)) rfl (by kernel_rfl) (by kernel_rfl) (by kernel_rfl) (fun _ _ _ h => h) (Or.inl ⟨by rfl, fun w' hSw => ?_⟩) (by assumption) ?_
      · (try dsimp only at hSw); go_simp
      (try simp only [Act.put]); (try simp only [List.setIfInBounds_toArray]); (try simp only [List.set_cons_succ]); (try simp only [List.set_cons_zero])
      refine wpAnyH_take (i := 30) (oi := { dst := some 67, op := Go.Op.load 9 (Go.Operand.tmp 66), type := 9, pos := _, after := #[{ on := 29, ground := Go.Ground.data }, { on := 28, ground := Go.Ground.guard }], guard := some (28, true) }) (v := .string X) rfl (by kernel_rfl) (by kernel_rfl) (by kernel_rfl) (fun _ _ _ h => h) (Or.inl ⟨by rfl, fun w' hSw => ?_⟩) (by assumption) ?_
      · have c0 := ce0 _ hSw; go_simp
      (try simp only [Act.put]); (try simp only [List.setIfInBounds_toArray]); (try simp only [List.set_cons_succ]); (try simp only [List.set_cons_zero])
      refine wpAnyH_take (i := 31) (oi := { dst := some 68, op := Go.Op.call { callee := Go.Callee.builtin Go.Builtin.len, args := #[Go.Operand.tmp 67], argTypes := #[9] }, type := 3, pos := _, after := #[{ on := 30, ground := Go.Ground.data }, { on := 28, ground := Go.Ground.guard }], guard := some (28, true) }) (v := .int .i64 (B.length : Int)) rfl (by kernel_rfl) (by kernel_rfl) (by kernel_rfl) (fun _ _ _ h => h) (Or.inl ⟨by rfl, fun w' hSw => ?_⟩) (by assumption) ?_
      · (try dsimp only at hSw); go_simp
      (try simp only [Act.put]); (try simp only [List.setIfInBounds_toArray]); (try simp only [List.set_cons_succ]); (try simp only [List.set_cons_zero])
      refine wpAnyH_take (i := 32) (oi := { dst := some 69, op := Go.Op.binOp Go.BinOp.geq 3 (Go.Operand.tmp 68) (Go.Operand.const (Go.Value.int Go.IntKind.i64 1024)) 3, type := 4, pos := _, after := #[{ on := 31, ground := Go.Ground.data }, { on := 28, ground := Go.Ground.guard }], guard := some (28, true) }) (v := .bool true) rfl (by kernel_rfl) (by kernel_rfl) (by kernel_rfl) (fun _ _ _ h => h) (Or.inl ⟨by rfl, fun w' hSw => ?_⟩) (by assumption) ?_
      · (try dsimp only at hSw); go_simp
      (try simp only [Act.put]); (try simp only [List.setIfInBounds_toArray]); (try simp only [List.set_cons_succ]); (try simp only [List.set_cons_zero])
      refine wpAnyH_take (i := 33) (oi := { dst := some 70, op := Go.Op.move (Go.Operand.tmp 69), type := 4, pos := _, after := #[{ on := 32, ground := Go.Ground.data }, { on := 28, ground := Go.Ground.chain }, { on := 28, ground := Go.Ground.guard }], guard := some (28, true) }) (v := .bool true) rfl (by kernel_rfl) (by kernel_rfl) (by kernel_rfl) (fun _ _ _ h => h) (Or.inl ⟨by rfl, fun w' hSw => ?_⟩) (by assumption) ?_
      · (try dsimp only at hSw); go_simp
      (try simp only [Act.put]); (try simp only [List.setIfInBounds_toArray]); (try simp only [List.set_cons_succ]); (try simp only [List.set_cons_zero])
      refine wpAnyH_take (i := 34) (oi := { dst := some 71, op := Go.Op.load 23 (Go.Operand.tmp 4), type := 23, pos := _, after := #[{ on := 33, ground := Go.Ground.guard }], guard := some (33, false) }) (v := undef) rfl (by kernel_rfl) (by kernel_rfl) (by kernel_rfl) (fun _ _ _ h => h) (Or.inr ⟨by rfl, rfl⟩) (by assumption) ?_
      (try simp only [Act.put]); (try simp only [List.setIfInBounds_toArray]); (try simp only [List.set_cons_succ]); (try simp only [List.set_cons_zero])
      refine wpAnyH_ready (rs := [35]) (by kernel_rfl) (by simp) ?_
      refine AllReadyH.cons (o := { dst := some 72, op := Go.Op.call { callee := Go.Callee.value (Go.Operand.func 12), args := #[Go.Operand.tmp 71], argTypes := #[23] }, type := 32, pos := _, after := #[{ on := 34, ground := Go.Ground.data }, { on := 33, ground := Go.Ground.chain }, { on := 33, ground := Go.Ground.guard }], guard := some (33, false) }) rfl (fun K hK => ?_) ?_
      · skip
        go_simp
        refine hK.out _ _ e2 (fun hHeld => ?_)
        clear hK K
        (try simp only [Act.put]); (try simp only [List.setIfInBounds_toArray]); (try simp only [List.set_cons_succ]); (try simp only [List.set_cons_zero])
        refine wpAnyH_take (i := 36) (oi := { dst := some 73, op := Go.Op.binOp Go.BinOp.eql 32 (Go.Operand.tmp 72) (Go.Operand.const (Go.Value.int Go.IntKind.i64 0)) 32, type := 4, pos := _, after := #[{ on := 35, ground := Go.Ground.data }, { on := 33, ground := Go.Ground.guard }], guard := some (33, false) }) (v := undef) rfl (by kernel_rfl) (by kernel_rfl) (by kernel_rfl) (fun _ _ _ h => h) (Or.inr ⟨by rfl, rfl⟩) (by assumption) ?_
        (try simp only [Act.put]); (try simp only [List.setIfInBounds_toArray]); (try simp only [List.set_cons_succ]); (try simp only [List.set_cons_zero])
        refine wpAnyH_take (i := 37) (oi := { dst := some 74, op := Go.Op.pick (Go.Operand.tmp 70) (Go.Operand.const (Go.Value.bool true)) (Go.Operand.tmp 73), type := 4, pos := _, after := #[{ on := 33, ground := Go.Ground.data }, { on := 36, ground := Go.Ground.data }, { on := 28, ground := Go.Ground.guard }], guard := some (28, true) }) (v := .bool true) rfl (by kernel_rfl) (by kernel_rfl) (by kernel_rfl) (fun _ _ _ h => h) (Or.inl ⟨by rfl, fun w' hSw => ?_⟩) (by assumption) ?_
        · (try dsimp only at hSw); go_simp
        (try simp only [Act.put]); (try simp only [List.setIfInBounds_toArray]); (try simp only [List.set_cons_succ]); (try simp only [List.set_cons_zero])
        refine wpAnyH_take (i := 38) (oi := { dst := some 75, op := Go.Op.pick (Go.Operand.tmp 65) (Go.Operand.tmp 74) (Go.Operand.const (Go.Value.bool false)), type := 4, pos := _, after := #[{ on := 28, ground := Go.Ground.data }, { on := 37, ground := Go.Ground.data }], guard := none }) (v := .bool true) rfl (by kernel_rfl) (by kernel_rfl) (by kernel_rfl) (fun _ _ _ h => h) (Or.inl ⟨by rfl, fun w' hSw => ?_⟩) (by assumption) ?_
        · (try dsimp only at hSw); go_simp
        (try simp only [Act.put]); (try simp only [List.setIfInBounds_toArray]); (try simp only [List.set_cons_succ]); (try simp only [List.set_cons_zero])
        refine wpAnyH_take (i := 39) (oi := { dst := some 8, op := Go.Op.assign (Go.Operand.tmp 75), type := 4, pos := _, after := #[{ on := 38, ground := Go.Ground.data }, { on := 35, ground := Go.Ground.chain }, { on := 0, ground := Go.Ground.phase }, { on := 1, ground := Go.Ground.phase }, { on := 2, ground := Go.Ground.phase }, { on := 3, ground := Go.Ground.phase }, { on := 4, ground := Go.Ground.phase }, { on := 5, ground := Go.Ground.phase }, { on := 6, ground := Go.Ground.phase }, { on := 7, ground := Go.Ground.phase }, { on := 8, ground := Go.Ground.phase }, { on := 9, ground := Go.Ground.phase }, { on := 10, ground := Go.Ground.phase }, { on := 11, ground := Go.Ground.phase }, { on := 12, ground := Go.Ground.phase }, { on := 13, ground := Go.Ground.phase }, { on := 14, ground := Go.Ground.phase }, { on := 15, ground := Go.Ground.phase }, { on := 16, ground := Go.Ground.phase }, { on := 17, ground := Go.Ground.phase }, { on := 18, ground := Go.Ground.phase }, { on := 19, ground := Go.Ground.phase }, { on := 20, ground := Go.Ground.phase }, { on := 21, ground := Go.Ground.phase }, { on := 22, ground := Go.Ground.phase }, { on := 23, ground := Go.Ground.phase }, { on := 24, ground := Go.Ground.phase }, { on := 25, ground := Go.Ground.phase }, { on := 26, ground := Go.Ground.phase }, { on := 27, ground := Go.Ground.phase }, { on := 28, ground := Go.Ground.phase }, { on := 29, ground := Go.Ground.phase }, { on := 30, ground := Go.Ground.phase }, { on := 31, ground := Go.Ground.phase }, { on := 32, ground := Go.Ground.phase }, { on := 33, ground := Go.Ground.phase }, { on := 34, ground := Go.Ground.phase }, { on := 35, ground := Go.Ground.phase }, { on := 36, ground := Go.Ground.phase }, { on := 37, ground := Go.Ground.phase }, { on := 38, ground := Go.Ground.phase }], guard := none }) (v := .bool true) rfl (by kernel_rfl) (by kernel_rfl) (by kernel_rfl) (fun _ _ _ h => h) (Or.inl ⟨by rfl, fun w' hSw => ?_⟩) (by assumption) ?_
        · (try dsimp only at hSw); go_simp
        (try simp only [Act.put]); (try simp only [List.setIfInBounds_toArray]); (try simp only [List.set_cons_succ]); (try simp only [List.set_cons_zero])
        refine wpAnyH_done (by kernel_rfl) ?_ _
        refine NoPanic.normal ?_
        have HFF := Hid.mk' (HF.out.trans (Below.mono e2 HF.out.size))
        clear e2
        go_wp2
        go_ret
        exact ⟨rfl, HFF.out⟩
      exact AllReadyH.nil
    exact AllReadyH.nil
  exact AllReadyH.nil

set_option maxHeartbeats 32000000 in
set_option maxRecDepth 100000 in
theorem LineTypes_small (k : List UInt8) (hk : k.length = 38) (M : List Nat) (hM : H.okW M) (B T : List UInt8) (q : Bool) (w : World) (hB : ¬ 1024 ≤ B.length) :
    Calls Tryd.prog 3 #[.agg #[.string (bs B), .bool q], .agg (bcells k).toArray, .agg (H.ucells M).toArray, .string (bs T)] w fun e w' => e = .returned (.bool true) ∧ Below w.heap.size w w' := by
  have hls := typeT_ls k M B T q
  have HC : Hid (∀ W, Calls Tryd.prog 12 #[.agg #[.string (bs B), .bool q]] W fun e w' => e = .returned (.int .i64 0) ∧ Below W.heap.size W w') := fun W => by
    have h := lCheck_any (bs B) q W
    rw [bs_size, show lchk B.length = 0 from if_neg hB] at h
    exact h
  have g1 : ¬ (1024 : Int) ≤ (B.length : Int) := by omega
  have hsB := bs_size B
  have HT1 := Hid.mk' (fun W => type_call k hk M hM B T q W _ _ _ rfl rfl rfl)
  have HT2 := Hid.mk' (fun W => typing_call k hk M hM B T q W _ _ _ rfl rfl rfl)
  generalize typeT k M B q T = p at *
  have HEQ : Hid (∀ W v1 v2, RdS W v1 (p.1.ls.map bs) → RdS W v2 (p.1.ls.map bs) → Calls Tryd.prog 11 #[v1, v2] W fun e w' => e = .returned (.bool true) ∧ Below W.heap.size W w') := fun W v1 v2 h1 h2 => by
    refine (Equal_same W v1 v2 (p.1.ls.map bs) h1 h2 (by rw [List.length_map]; omega)).mono fun e w' h => ?_
    obtain ⟨he, nq, hw⟩ := h
    exact ⟨he, by rw [hw]; exact below_drewN (Below.refl _ _) _⟩
  have HSK := Hid.mk' (K.sizeKV k hk)
  have HSM := Hid.mk' (H.sizeMV hM)
  have HSE : Hid ((Tryd.prog.info? 23).map (·.size) = some ([Value.string (bs B), Value.bool q]).length) := sizeE
  clear hls hB
  generalize bs p.1.buf = X1 at *
  generalize bs p.1.echo = X2 at *
  generalize hpq : p.1.q = pq at *
  generalize hpe : p.2 = pe at *
  clear hpq hpe
  generalize bs B = X at *
  generalize bs T = T1 at *
  generalize bcells k = l at *
  generalize H.ucells M = m at *
  clear hk hM
  go_enter Tryd.func3, Tryd.ntmps3
  have HB_0 := Hid.mk' (Below.refl w.heap.size w)
  go_wp2_with (refine wpList_box ([.string X, .bool q]) 23 rfl _ rfl rfl ?_)
  intro w1 mw1
  have zw1 := mw1.lt
  have Hw1 : Below w.heap.size w w1 := mw1.below _ _ (Nat.le_refl _) (Below.refl _ _)
  have Xw1 := mw1.box
  have HB_w1 := Hid.mk' (HB_0.out.trans (Below.mono Hw1 HB_0.out.size))
  clear HB_0
  have be_w1 := Hid.mk' Xw1
  clear mw1 Hw1 Xw1
  go_wp2_with (refine wpList_box (l) 26 rfl _ rfl rfl ?_)
  intro w2 mw2
  have zw2 := mw2.lt
  have Hw2 : Below w1.heap.size w1 w2 := mw2.below _ _ (Nat.le_refl _) (Below.refl _ _)
  have Xw2 := mw2.box
  have HB_w2 := Hid.mk' (HB_w1.out.trans (Below.mono Hw2 HB_w1.out.size))
  have be_w2 := Hid.mk' (be_w1.out.later Hw2)
  clear HB_w1 be_w1
  have bk_w2 := Hid.mk' Xw2
  clear mw2 Hw2 Xw2
  go_wp2_with (refine wpList_box (m) 30 rfl _ rfl rfl ?_)
  intro w3 mw3
  have zw3 := mw3.lt
  have Hw3 : Below w2.heap.size w2 w3 := mw3.below _ _ (Nat.le_refl _) (Below.refl _ _)
  have Xw3 := mw3.box
  have HB_w3 := Hid.mk' (HB_w2.out.trans (Below.mono Hw3 HB_w2.out.size))
  have be_w3 := Hid.mk' (be_w2.out.later Hw3)
  have bk_w3 := Hid.mk' (bk_w2.out.later Hw3)
  clear HB_w2 be_w2 bk_w2
  have bm_w3 := Hid.mk' Xw3
  clear mw3 Hw3 Xw3
  go_wp2_with (first | (with_reducible refine wpList_load_box 23 23 ([.string X, .bool q]) w.heap.size _ Tryd.underlying23 rfl HSE.out be_w3.out rfl _ rfl rfl ?_) | (with_reducible refine wpList_load_box 26 26 (l) w1.heap.size _ Tryd.underlying26 rfl HSK.out bk_w3.out rfl _ rfl rfl ?_) | (with_reducible refine wpList_load_box 30 30 (m) w2.heap.size _ Tryd.underlying30 rfl HSM.out bm_w3.out rfl _ rfl rfl ?_))
  refine (HT1.out _).mono ?_
  rintro e w4 ⟨al1, cl1, n1, hn1, rfl, ho1, hw4⟩
  have zw4 := hw4.size
  have HB_w4 := Hid.mk' (HB_w3.out.trans (Below.mono hw4 HB_w3.out.size))
  have be_w4 := Hid.mk' (be_w3.out.later hw4)
  have bk_w4 := Hid.mk' (bk_w3.out.later hw4)
  have bm_w4 := Hid.mk' (bm_w3.out.later hw4)
  clear HB_w3 be_w3 bk_w3 bm_w3
  clear hw4
  have ol1_4 := Hid.mk' (ho1)
  clear ho1
  go_wp2_with (first | (refine wpList_alloc [.string ⟨#[]⟩, .bool false] 23 zeroE rfl rfl ?_))
  intro w5 mw5
  have zw5 := mw5.lt
  have Yw5 := Hid.mk' mw5.box
  have HSw5 : Hid (∀ W', Stored w5 W' w4.heap.size 23 ([.string X1, .bool pq]) → Below w4.heap.size w4 W') := fun W' s' => s'.below _ _ (Nat.le_refl _) (mw5.below _ _ (Nat.le_refl _) (Below.refl _ _))
  clear mw5
  go_wp2_with (refine wpList_store_box 23 23 [.string ⟨#[]⟩, .bool false] ([.string X1, .bool pq]) w4.heap.size sizeE (edCells_one _ _) Yw5.out rfl rfl _ _ rfl rfl rfl ?_)
  intro w6 sw6
  have zw6 : w4.heap.size < w6.heap.size := sw6.box.lt
  have Hw6 := HSw5.out w6 sw6
  have Xw6 := sw6.box
  have HB_w6 := Hid.mk' (HB_w4.out.trans (Below.mono Hw6 HB_w4.out.size))
  have be_w6 := Hid.mk' (be_w4.out.later Hw6)
  have bk_w6 := Hid.mk' (bk_w4.out.later Hw6)
  have bm_w6 := Hid.mk' (bm_w4.out.later Hw6)
  have ol1_w6 := Hid.mk' (ol1_4.out.below Hw6)
  clear HB_w4 be_w4 bk_w4 bm_w4 ol1_4
  have ba_w6 := Hid.mk' Xw6
  clear sw6 Hw6 Xw6 Yw5 HSw5 zw5
  go_wp2_with (first | (with_reducible refine wpList_load_box 23 23 ([.string X, .bool q]) w.heap.size _ Tryd.underlying23 rfl HSE.out be_w6.out rfl _ rfl rfl ?_) | (with_reducible refine wpList_load_box 26 26 (l) w1.heap.size _ Tryd.underlying26 rfl HSK.out bk_w6.out rfl _ rfl rfl ?_) | (with_reducible refine wpList_load_box 30 30 (m) w2.heap.size _ Tryd.underlying30 rfl HSM.out bm_w6.out rfl _ rfl rfl ?_))
  refine (HT2.out _).mono ?_
  rintro e w7 ⟨al2, cl2, n2, hn2, rfl, ho2, hw7⟩
  have zw7 := hw7.size
  have HB_w7 := Hid.mk' (HB_w6.out.trans (Below.mono hw7 HB_w6.out.size))
  have be_w7 := Hid.mk' (be_w6.out.later hw7)
  have bk_w7 := Hid.mk' (bk_w6.out.later hw7)
  have bm_w7 := Hid.mk' (bm_w6.out.later hw7)
  have ol1_w7 := Hid.mk' (ol1_w6.out.below hw7)
  have ba_w7 := Hid.mk' (ba_w6.out.later hw7)
  clear HB_w6 be_w6 bk_w6 bm_w6 ol1_w6 ba_w6
  clear hw7
  have ol2_7 := Hid.mk' (ho2)
  clear ho2
  go_wp2_with (first | (refine wpList_alloc [.string ⟨#[]⟩, .bool false] 23 zeroE rfl rfl ?_))
  intro w8 mw8
  have zw8 := mw8.lt
  have Yw8 := Hid.mk' mw8.box
  have HSw8 : Hid (∀ W', Stored w8 W' w7.heap.size 23 ([.string X1, .bool pq]) → Below w7.heap.size w7 W') := fun W' s' => s'.below _ _ (Nat.le_refl _) (mw8.below _ _ (Nat.le_refl _) (Below.refl _ _))
  clear mw8
  go_wp2_with (refine wpList_store_box 23 23 [.string ⟨#[]⟩, .bool false] ([.string X1, .bool pq]) w7.heap.size sizeE (edCells_one _ _) Yw8.out rfl rfl _ _ rfl rfl rfl ?_)
  intro w9 sw9
  have zw9 : w7.heap.size < w9.heap.size := sw9.box.lt
  have Hw9 := HSw8.out w9 sw9
  have Xw9 := sw9.box
  have HB_w9 := Hid.mk' (HB_w7.out.trans (Below.mono Hw9 HB_w7.out.size))
  have be_w9 := Hid.mk' (be_w7.out.later Hw9)
  have bk_w9 := Hid.mk' (bk_w7.out.later Hw9)
  have bm_w9 := Hid.mk' (bm_w7.out.later Hw9)
  have ol1_w9 := Hid.mk' (ol1_w7.out.below Hw9)
  have ba_w9 := Hid.mk' (ba_w7.out.later Hw9)
  have ol2_w9 := Hid.mk' (ol2_7.out.below Hw9)
  clear HB_w7 be_w7 bk_w7 bm_w7 ol1_w7 ba_w7 ol2_7
  have bb_w9 := Hid.mk' Xw9
  clear sw9 Hw9 Xw9 Yw8 HSw8 zw8
  have HR1 : RdS w9.drew (.slice al1 n1 cl1) (p.1.ls.map bs) := (rd_n hn1.out (by have h := ol1_w9.out; unfold OwnL at h; rw [hn1.out]; exact h)).below (Below.refl _ _).drew
  have HR2 : RdS w9.drew (.slice al2 n2 cl2) (p.1.ls.map bs) := (rd_n hn2.out (by have h := ol2_w9.out; unfold OwnL at h; rw [hn2.out]; exact h)).below (Below.refl _ _).drew
  have HEQ1 := Hid.mk' (HEQ.out w9.drew _ _ HR1 HR2)
  have hE : ExtT w9.drew w9.drew := ExtT.refl _
  have BE := be_w9.out.drew
  have BA := ba_w9.out.drew
  have BB := bb_w9.out.drew
  have ce0 : ∀ w', ExtT w9.drew w' → w'.cell? ⟨w.heap.size, 0, none⟩ = some (.string X) := fun w' h => (BE.later h).cell (j := 0) rfl
  have ce1 : ∀ w', ExtT w9.drew w' → w'.cell? ⟨w.heap.size, 1, none⟩ = some (.bool q) := fun w' h => (BE.later h).cell (j := 1) rfl
  have ca0 : ∀ w', ExtT w9.drew w' → w'.cell? ⟨w4.heap.size, 0, none⟩ = some (.string X1) := fun w' h => (BA.later h).cell (j := 0) rfl
  have ca1 : ∀ w', ExtT w9.drew w' → w'.cell? ⟨w4.heap.size, 1, none⟩ = some (.bool pq) := fun w' h => (BA.later h).cell (j := 1) rfl
  have cb0 : ∀ w', ExtT w9.drew w' → w'.cell? ⟨w7.heap.size, 0, none⟩ = some (.string X1) := fun w' h => (BB.later h).cell (j := 0) rfl
  have cb1 : ∀ w', ExtT w9.drew w' → w'.cell? ⟨w7.heap.size, 1, none⟩ = some (.bool pq) := fun w' h => (BB.later h).cell (j := 1) rfl
  have HF := Hid.mk' HB_w9.out.drew
  clear HR1 HR2 HEQ BE BA BB HT1 HT2
  go_wp2_with fail
  refine wp_region_noPanic ?_
  refine wp_region_held_drew (S := fun w' => ExtT w9.drew w') (by kernel_rfl) hE (fun hHeld => ?_)
  refine wpAnyH_take (i := 0) (oi := { dst := some 37, op := Go.Op.load 23 (Go.Operand.tmp 9), type := 23, pos := _, after := #[], guard := none }) (v := .agg #[.string X1, .bool pq]) rfl (by kernel_rfl) (by kernel_rfl) (by kernel_rfl) (fun _ _ _ h => h) (Or.inl ⟨by rfl, fun w' hSw => ?_⟩) (by assumption) ?_
  · have c0 := ca0 _ hSw; have c1 := ca1 _ hSw; go_simp
  (try simp only [Act.put]); (try simp only [List.setIfInBounds_toArray]); (try simp only [List.set_cons_succ]); (try simp only [List.set_cons_zero])
  refine wpAnyH_take (i := 1) (oi := { dst := some 38, op := Go.Op.load 23 (Go.Operand.tmp 13), type := 23, pos := _, after := #[], guard := none }) (v := .agg #[.string X1, .bool pq]) rfl (by kernel_rfl) (by kernel_rfl) (by kernel_rfl) (fun _ _ _ h => h) (Or.inl ⟨by rfl, fun w' hSw => ?_⟩) (by assumption) ?_
  · have c0 := cb0 _ hSw; have c1 := cb1 _ hSw; go_simp
  (try simp only [Act.put]); (try simp only [List.setIfInBounds_toArray]); (try simp only [List.set_cons_succ]); (try simp only [List.set_cons_zero])
  refine wpAnyH_take (i := 2) (oi := { dst := some 39, op := Go.Op.binOp Go.BinOp.eql 23 (Go.Operand.tmp 37) (Go.Operand.tmp 38) 23, type := 4, pos := _, after := #[{ on := 0, ground := Go.Ground.data }, { on := 1, ground := Go.Ground.data }], guard := none }) (v := .bool true) rfl (by kernel_rfl) (by kernel_rfl) (by kernel_rfl) (fun _ _ _ h => h) (Or.inl ⟨by rfl, fun w' hSw => ?_⟩) (by assumption) ?_
  · (try dsimp only at hSw); go_simp
  (try simp only [Act.put]); (try simp only [List.setIfInBounds_toArray]); (try simp only [List.set_cons_succ]); (try simp only [List.set_cons_zero])
  refine wpAnyH_take (i := 3) (oi := { dst := some 40, op := Go.Op.move (Go.Operand.tmp 39), type := 4, pos := _, after := #[{ on := 2, ground := Go.Ground.data }], guard := none }) (v := .bool true) rfl (by kernel_rfl) (by kernel_rfl) (by kernel_rfl) (fun _ _ _ h => h) (Or.inl ⟨by rfl, fun w' hSw => ?_⟩) (by assumption) ?_
  · (try dsimp only at hSw); go_simp
  (try simp only [Act.put]); (try simp only [List.setIfInBounds_toArray]); (try simp only [List.set_cons_succ]); (try simp only [List.set_cons_zero])
  refine wpAnyH_take (i := 4) (oi := { dst := some 41, op := Go.Op.move (Go.Operand.tmp 10), type := 31, pos := _, after := #[{ on := 3, ground := Go.Ground.guard }], guard := some (3, true) }) (v := .slice al1 n1 cl1) rfl (by kernel_rfl) (by kernel_rfl) (by kernel_rfl) (fun _ _ _ h => h) (Or.inl ⟨by rfl, fun w' hSw => ?_⟩) (by assumption) ?_
  · (try dsimp only at hSw); go_simp
  (try simp only [Act.put]); (try simp only [List.setIfInBounds_toArray]); (try simp only [List.set_cons_succ]); (try simp only [List.set_cons_zero])
  refine wpAnyH_take (i := 5) (oi := { dst := some 42, op := Go.Op.move (Go.Operand.tmp 14), type := 31, pos := _, after := #[{ on := 3, ground := Go.Ground.guard }], guard := some (3, true) }) (v := .slice al2 n2 cl2) rfl (by kernel_rfl) (by kernel_rfl) (by kernel_rfl) (fun _ _ _ h => h) (Or.inl ⟨by rfl, fun w' hSw => ?_⟩) (by assumption) ?_
  · (try dsimp only at hSw); go_simp
  (try simp only [Act.put]); (try simp only [List.setIfInBounds_toArray]); (try simp only [List.set_cons_succ]); (try simp only [List.set_cons_zero])
  refine wpAnyH_ready (rs := [6]) (by kernel_rfl) (by simp) ?_
  refine AllReadyH.cons (o := { dst := some 43, op := Go.Op.call { callee := Go.Callee.value (Go.Operand.func 11), args := #[Go.Operand.tmp 41, Go.Operand.tmp 42], argTypes := #[31, 31] }, type := 4, pos := _, after := #[{ on := 4, ground := Go.Ground.data }, { on := 5, ground := Go.Ground.data }, { on := 3, ground := Go.Ground.chain }, { on := 3, ground := Go.Ground.guard }], guard := some (3, true) }) rfl (fun K hK => ?_) ?_
  · skip
    go_simp
    refine (HEQ1.out).mono ?_
    rintro e v1 ⟨rfl, hbv1⟩
    have e1 := ExtT.trans hE hbv1
    go_wp2_with fail
    refine hK.out _ _ e1 (fun hHeld => ?_)
    clear hK K
    (try simp only [Act.put]); (try simp only [List.setIfInBounds_toArray]); (try simp only [List.set_cons_succ]); (try simp only [List.set_cons_zero])
    refine wpAnyH_take (i := 7) (oi := { dst := some 44, op := Go.Op.pick (Go.Operand.tmp 40) (Go.Operand.tmp 43) (Go.Operand.const (Go.Value.bool false)), type := 4, pos := _, after := #[{ on := 3, ground := Go.Ground.data }, { on := 6, ground := Go.Ground.data }], guard := none }) (v := .bool true) rfl (by kernel_rfl) (by kernel_rfl) (by kernel_rfl) (fun _ _ _ h => h) (Or.inl ⟨by rfl, fun w' hSw => ?_⟩) (by assumption) ?_
    · (try dsimp only at hSw); go_simp
    (try simp only [Act.put]); (try simp only [List.setIfInBounds_toArray]); (try simp only [List.set_cons_succ]); (try simp only [List.set_cons_zero])
    refine wpAnyH_take (i := 8) (oi := { dst := some 45, op := Go.Op.move (Go.Operand.tmp 44), type := 4, pos := _, after := #[{ on := 7, ground := Go.Ground.data }, { on := 6, ground := Go.Ground.chain }], guard := none }) (v := .bool true) rfl (by kernel_rfl) (by kernel_rfl) (by kernel_rfl) (fun _ _ _ h => h) (Or.inl ⟨by rfl, fun w' hSw => ?_⟩) (by assumption) ?_
    · (try dsimp only at hSw); go_simp
    (try simp only [Act.put]); (try simp only [List.setIfInBounds_toArray]); (try simp only [List.set_cons_succ]); (try simp only [List.set_cons_zero])
    refine wpAnyH_take (i := 9) (oi := { dst := some 46, op := Go.Op.move (Go.Operand.tmp 11), type := 9, pos := _, after := #[{ on := 8, ground := Go.Ground.guard }], guard := some (8, true) }) (v := .string X2) rfl (by kernel_rfl) (by kernel_rfl) (by kernel_rfl) (fun _ _ _ h => h) (Or.inl ⟨by rfl, fun w' hSw => ?_⟩) (by assumption) ?_
    · (try dsimp only at hSw); go_simp
    (try simp only [Act.put]); (try simp only [List.setIfInBounds_toArray]); (try simp only [List.set_cons_succ]); (try simp only [List.set_cons_zero])
    refine wpAnyH_take (i := 10) (oi := { dst := some 47, op := Go.Op.move (Go.Operand.tmp 15), type := 9, pos := _, after := #[{ on := 8, ground := Go.Ground.guard }], guard := some (8, true) }) (v := .string X2) rfl (by kernel_rfl) (by kernel_rfl) (by kernel_rfl) (fun _ _ _ h => h) (Or.inl ⟨by rfl, fun w' hSw => ?_⟩) (by assumption) ?_
    · (try dsimp only at hSw); go_simp
    (try simp only [Act.put]); (try simp only [List.setIfInBounds_toArray]); (try simp only [List.set_cons_succ]); (try simp only [List.set_cons_zero])
    refine wpAnyH_take (i := 11) (oi := { dst := some 48, op := Go.Op.binOp Go.BinOp.eql 9 (Go.Operand.tmp 46) (Go.Operand.tmp 47) 9, type := 4, pos := _, after := #[{ on := 9, ground := Go.Ground.data }, { on := 10, ground := Go.Ground.data }, { on := 8, ground := Go.Ground.guard }], guard := some (8, true) }) (v := .bool true) rfl (by kernel_rfl) (by kernel_rfl) (by kernel_rfl) (fun _ _ _ h => h) (Or.inl ⟨by rfl, fun w' hSw => ?_⟩) (by assumption) ?_
    · (try dsimp only at hSw); go_simp
    (try simp only [Act.put]); (try simp only [List.setIfInBounds_toArray]); (try simp only [List.set_cons_succ]); (try simp only [List.set_cons_zero])
    refine wpAnyH_take (i := 12) (oi := { dst := some 49, op := Go.Op.pick (Go.Operand.tmp 45) (Go.Operand.tmp 48) (Go.Operand.const (Go.Value.bool false)), type := 4, pos := _, after := #[{ on := 8, ground := Go.Ground.data }, { on := 11, ground := Go.Ground.data }], guard := none }) (v := .bool true) rfl (by kernel_rfl) (by kernel_rfl) (by kernel_rfl) (fun _ _ _ h => h) (Or.inl ⟨by rfl, fun w' hSw => ?_⟩) (by assumption) ?_
    · (try dsimp only at hSw); go_simp
    (try simp only [Act.put]); (try simp only [List.setIfInBounds_toArray]); (try simp only [List.set_cons_succ]); (try simp only [List.set_cons_zero])
    refine wpAnyH_take (i := 13) (oi := { dst := some 50, op := Go.Op.move (Go.Operand.tmp 49), type := 4, pos := _, after := #[{ on := 12, ground := Go.Ground.data }, { on := 8, ground := Go.Ground.chain }], guard := none }) (v := .bool true) rfl (by kernel_rfl) (by kernel_rfl) (by kernel_rfl) (fun _ _ _ h => h) (Or.inl ⟨by rfl, fun w' hSw => ?_⟩) (by assumption) ?_
    · (try dsimp only at hSw); go_simp
    (try simp only [Act.put]); (try simp only [List.setIfInBounds_toArray]); (try simp only [List.set_cons_succ]); (try simp only [List.set_cons_zero])
    refine wpAnyH_take (i := 14) (oi := { dst := some 51, op := Go.Op.move (Go.Operand.tmp 12), type := 32, pos := _, after := #[{ on := 13, ground := Go.Ground.guard }], guard := some (13, true) }) (v := .int .i64 pe) rfl (by kernel_rfl) (by kernel_rfl) (by kernel_rfl) (fun _ _ _ h => h) (Or.inl ⟨by rfl, fun w' hSw => ?_⟩) (by assumption) ?_
    · (try dsimp only at hSw); go_simp
    (try simp only [Act.put]); (try simp only [List.setIfInBounds_toArray]); (try simp only [List.set_cons_succ]); (try simp only [List.set_cons_zero])
    refine wpAnyH_take (i := 15) (oi := { dst := some 52, op := Go.Op.move (Go.Operand.tmp 16), type := 32, pos := _, after := #[{ on := 13, ground := Go.Ground.guard }], guard := some (13, true) }) (v := .int .i64 pe) rfl (by kernel_rfl) (by kernel_rfl) (by kernel_rfl) (fun _ _ _ h => h) (Or.inl ⟨by rfl, fun w' hSw => ?_⟩) (by assumption) ?_
    · (try dsimp only at hSw); go_simp
    (try simp only [Act.put]); (try simp only [List.setIfInBounds_toArray]); (try simp only [List.set_cons_succ]); (try simp only [List.set_cons_zero])
    refine wpAnyH_take (i := 16) (oi := { dst := some 53, op := Go.Op.binOp Go.BinOp.eql 32 (Go.Operand.tmp 51) (Go.Operand.tmp 52) 32, type := 4, pos := _, after := #[{ on := 14, ground := Go.Ground.data }, { on := 15, ground := Go.Ground.data }, { on := 13, ground := Go.Ground.guard }], guard := some (13, true) }) (v := .bool true) rfl (by kernel_rfl) (by kernel_rfl) (by kernel_rfl) (fun _ _ _ h => h) (Or.inl ⟨by rfl, fun w' hSw => ?_⟩) (by assumption) ?_
    · (try dsimp only at hSw); go_simp
    (try simp only [Act.put]); (try simp only [List.setIfInBounds_toArray]); (try simp only [List.set_cons_succ]); (try simp only [List.set_cons_zero])
    refine wpAnyH_take (i := 17) (oi := { dst := some 54, op := Go.Op.pick (Go.Operand.tmp 50) (Go.Operand.tmp 53) (Go.Operand.const (Go.Value.bool false)), type := 4, pos := _, after := #[{ on := 13, ground := Go.Ground.data }, { on := 16, ground := Go.Ground.data }], guard := none }) (v := .bool true) rfl (by kernel_rfl) (by kernel_rfl) (by kernel_rfl) (fun _ _ _ h => h) (Or.inl ⟨by rfl, fun w' hSw => ?_⟩) (by assumption) ?_
    · (try dsimp only at hSw); go_simp
    (try simp only [Act.put]); (try simp only [List.setIfInBounds_toArray]); (try simp only [List.set_cons_succ]); (try simp only [List.set_cons_zero])
    refine wpAnyH_take (i := 18) (oi := { dst := some 55, op := Go.Op.move (Go.Operand.tmp 54), type := 4, pos := _, after := #[{ on := 17, ground := Go.Ground.data }, { on := 13, ground := Go.Ground.chain }], guard := none }) (v := .bool true) rfl (by kernel_rfl) (by kernel_rfl) (by kernel_rfl) (fun _ _ _ h => h) (Or.inl ⟨by rfl, fun w' hSw => ?_⟩) (by assumption) ?_
    · (try dsimp only at hSw); go_simp
    (try simp only [Act.put]); (try simp only [List.setIfInBounds_toArray]); (try simp only [List.set_cons_succ]); (try simp only [List.set_cons_zero])
    refine wpAnyH_take (i := 19) (oi := { dst := some 56, op := Go.Op.load 23 (Go.Operand.tmp 4), type := 23, pos := _, after := #[{ on := 18, ground := Go.Ground.guard }], guard := some (18, true) }) (v := .agg #[.string X, .bool q]) rfl (by kernel_rfl) (by kernel_rfl) (by kernel_rfl) (fun _ _ _ h => h) (Or.inl ⟨by rfl, fun w' hSw => ?_⟩) (by assumption) ?_
    · have c0 := ce0 _ hSw; have c1 := ce1 _ hSw; go_simp
    (try simp only [Act.put]); (try simp only [List.setIfInBounds_toArray]); (try simp only [List.set_cons_succ]); (try simp only [List.set_cons_zero])
    refine wpAnyH_take (i := 22) (oi := { dst := some 59, op := Go.Op.fieldAddr 23 (Go.Operand.tmp 4) 0, type := 0, pos := _, after := #[{ on := 18, ground := Go.Ground.guard }], guard := some (18, true) }) (v := .pointer (some ⟨w.heap.size, 0, none⟩)) rfl (by kernel_rfl) (by kernel_rfl) (by kernel_rfl) (fun _ _ _ h => h) (Or.inl ⟨by rfl, fun w' hSw => ?_⟩) (by assumption) ?_
    · (try dsimp only at hSw); go_simp
    (try simp only [Act.put]); (try simp only [List.setIfInBounds_toArray]); (try simp only [List.set_cons_succ]); (try simp only [List.set_cons_zero])
    refine wpAnyH_take (i := 23) (oi := { dst := some 60, op := Go.Op.load 9 (Go.Operand.tmp 59), type := 9, pos := _, after := #[{ on := 22, ground := Go.Ground.data }, { on := 18, ground := Go.Ground.guard }], guard := some (18, true) }) (v := .string X) rfl (by kernel_rfl) (by kernel_rfl) (by kernel_rfl) (fun _ _ _ h => h) (Or.inl ⟨by rfl, fun w' hSw => ?_⟩) (by assumption) ?_
    · have c0 := ce0 _ hSw; go_simp
    (try simp only [Act.put]); (try simp only [List.setIfInBounds_toArray]); (try simp only [List.set_cons_succ]); (try simp only [List.set_cons_zero])
    refine wpAnyH_take (i := 24) (oi := { dst := some 61, op := Go.Op.call { callee := Go.Callee.builtin Go.Builtin.len, args := #[Go.Operand.tmp 60], argTypes := #[9] }, type := 3, pos := _, after := #[{ on := 23, ground := Go.Ground.data }, { on := 18, ground := Go.Ground.guard }], guard := some (18, true) }) (v := .int .i64 (B.length : Int)) rfl (by kernel_rfl) (by kernel_rfl) (by kernel_rfl) (fun _ _ _ h => h) (Or.inl ⟨by rfl, fun w' hSw => ?_⟩) (by assumption) ?_
    · (try dsimp only at hSw); go_simp
    (try simp only [Act.put]); (try simp only [List.setIfInBounds_toArray]); (try simp only [List.set_cons_succ]); (try simp only [List.set_cons_zero])
    refine wpAnyH_take (i := 25) (oi := { dst := some 62, op := Go.Op.binOp Go.BinOp.geq 3 (Go.Operand.tmp 61) (Go.Operand.const (Go.Value.int Go.IntKind.i64 1024)) 3, type := 4, pos := _, after := #[{ on := 24, ground := Go.Ground.data }, { on := 18, ground := Go.Ground.guard }], guard := some (18, true) }) (v := .bool false) rfl (by kernel_rfl) (by kernel_rfl) (by kernel_rfl) (fun _ _ _ h => h) (Or.inl ⟨by rfl, fun w' hSw => ?_⟩) (by assumption) ?_
    · (try dsimp only at hSw); go_simp
    (try simp only [Act.put]); (try simp only [List.setIfInBounds_toArray]); (try simp only [List.set_cons_succ]); (try simp only [List.set_cons_zero])
    refine wpAnyH_ready (rs := [20]) (by kernel_rfl) (by simp) ?_
    refine AllReadyH.cons (o := { dst := some 57, op := Go.Op.call { callee := Go.Callee.value (Go.Operand.func 12), args := #[Go.Operand.tmp 56], argTypes := #[23] }, type := 32, pos := _, after := #[{ on := 19, ground := Go.Ground.data }, { on := 18, ground := Go.Ground.chain }, { on := 18, ground := Go.Ground.guard }], guard := some (18, true) }) rfl (fun K hK => ?_) ?_
    · skip
      go_simp
      refine (HC.out _).mono ?_
      rintro e v2 ⟨rfl, hbv2⟩
      have e2 := ExtT.trans e1 hbv2
      go_wp2_with fail
      refine hK.out _ _ e2 (fun hHeld => ?_)
      clear hK K
      (try simp only [Act.put]); (try simp only [List.setIfInBounds_toArray]); (try simp only [List.set_cons_succ]); (try simp only [List.set_cons_zero])
      refine wpAnyH_take (i := 21) (oi := { dst := some 58, op := Go.Op.binOp Go.BinOp.eql 32 (Go.Operand.tmp 57) (Go.Operand.const (Go.Value.int Go.IntKind.i64 2)) 32, type := 4, pos := _, after := #[{ on := 20, ground := Go.Ground.data }, { on := 18, ground := Go.Ground.guard }], guard := some (18, true) }) (v := .bool false) rfl (by kernel_rfl) (by kernel_rfl) (by kernel_rfl) (fun _ _ _ h => h) (Or.inl ⟨by rfl, fun w' hSw => ?_⟩) (by assumption) ?_
      · (try dsimp only at hSw); go_simp
      (try simp only [Act.put]); (try simp only [List.setIfInBounds_toArray]); (try simp only [List.set_cons_succ]); (try simp only [List.set_cons_zero])
      refine wpAnyH_take (i := 26) (oi := { dst := some 63, op := Go.Op.binOp Go.BinOp.eql 4 (Go.Operand.tmp 58) (Go.Operand.tmp 62) 4, type := 4, pos := _, after := #[{ on := 21, ground := Go.Ground.data }, { on := 25, ground := Go.Ground.data }, { on := 18, ground := Go.Ground.guard }], guard := some (18, true) }) (v := .bool true) rfl (by kernel_rfl) (by kernel_rfl) (by kernel_rfl) (fun _ _ _ h => h) (Or.inl ⟨by rfl, fun w' hSw => ?_⟩) (by assumption) ?_
      · (try dsimp only at hSw); go_simp
      (try simp only [Act.put]); (try simp only [List.setIfInBounds_toArray]); (try simp only [List.set_cons_succ]); (try simp only [List.set_cons_zero])
      refine wpAnyH_take (i := 27) (oi := { dst := some 64, op := Go.Op.pick (Go.Operand.tmp 55) (Go.Operand.tmp 63) (Go.Operand.const (Go.Value.bool false)), type := 4, pos := _, after := #[{ on := 18, ground := Go.Ground.data }, { on := 26, ground := Go.Ground.data }], guard := none }) (v := .bool true) rfl (by kernel_rfl) (by kernel_rfl) (by kernel_rfl) (fun _ _ _ h => h) (Or.inl ⟨by rfl, fun w' hSw => ?_⟩) (by assumption) ?_
      · (try dsimp only at hSw); go_simp
      (try simp only [Act.put]); (try simp only [List.setIfInBounds_toArray]); (try simp only [List.set_cons_succ]); (try simp only [List.set_cons_zero])
      refine wpAnyH_take (i := 28) (oi := { dst := some 65, op := Go.Op.move (Go.Operand.tmp 64), type := 4, pos := _, after := #[{ on := 27, ground := Go.Ground.data }, { on := 20, ground := Go.Ground.chain }], guard := none }) (v := .bool true) rfl (by kernel_rfl) (by kernel_rfl) (by kernel_rfl) (fun _ _ _ h => h) (Or.inl ⟨by rfl, fun w' hSw => ?_⟩) (by assumption) ?_
      · (try dsimp only at hSw); go_simp
      (try simp only [Act.put]); (try simp only [List.setIfInBounds_toArray]); (try simp only [List.set_cons_succ]); (try simp only [List.set_cons_zero])
      refine wpAnyH_take (i := 29) (oi := { dst := some 66, op := Go.Op.fieldAddr 23 (Go.Operand.tmp 4) 0, type := 0, pos := _, after := #[{ on := 28, ground := Go.Ground.guard }], guard := some (28, true) }) (v := .pointer (some ⟨w.heap.size, 0, none⟩)) rfl (by kernel_rfl) (by kernel_rfl) (by kernel_rfl) (fun _ _ _ h => h) (Or.inl ⟨by rfl, fun w' hSw => ?_⟩) (by assumption) ?_
      · (try dsimp only at hSw); go_simp
      (try simp only [Act.put]); (try simp only [List.setIfInBounds_toArray]); (try simp only [List.set_cons_succ]); (try simp only [List.set_cons_zero])
      refine wpAnyH_take (i := 30) (oi := { dst := some 67, op := Go.Op.load 9 (Go.Operand.tmp 66), type := 9, pos := _, after := #[{ on := 29, ground := Go.Ground.data }, { on := 28, ground := Go.Ground.guard }], guard := some (28, true) }) (v := .string X) rfl (by kernel_rfl) (by kernel_rfl) (by kernel_rfl) (fun _ _ _ h => h) (Or.inl ⟨by rfl, fun w' hSw => ?_⟩) (by assumption) ?_
      · have c0 := ce0 _ hSw; go_simp
      (try simp only [Act.put]); (try simp only [List.setIfInBounds_toArray]); (try simp only [List.set_cons_succ]); (try simp only [List.set_cons_zero])
      refine wpAnyH_take (i := 31) (oi := { dst := some 68, op := Go.Op.call { callee := Go.Callee.builtin Go.Builtin.len, args := #[Go.Operand.tmp 67], argTypes := #[9] }, type := 3, pos := _, after := #[{ on := 30, ground := Go.Ground.data }, { on := 28, ground := Go.Ground.guard }], guard := some (28, true) }) (v := .int .i64 (B.length : Int)) rfl (by kernel_rfl) (by kernel_rfl) (by kernel_rfl) (fun _ _ _ h => h) (Or.inl ⟨by rfl, fun w' hSw => ?_⟩) (by assumption) ?_
      · (try dsimp only at hSw); go_simp
      (try simp only [Act.put]); (try simp only [List.setIfInBounds_toArray]); (try simp only [List.set_cons_succ]); (try simp only [List.set_cons_zero])
      refine wpAnyH_take (i := 32) (oi := { dst := some 69, op := Go.Op.binOp Go.BinOp.geq 3 (Go.Operand.tmp 68) (Go.Operand.const (Go.Value.int Go.IntKind.i64 1024)) 3, type := 4, pos := _, after := #[{ on := 31, ground := Go.Ground.data }, { on := 28, ground := Go.Ground.guard }], guard := some (28, true) }) (v := .bool false) rfl (by kernel_rfl) (by kernel_rfl) (by kernel_rfl) (fun _ _ _ h => h) (Or.inl ⟨by rfl, fun w' hSw => ?_⟩) (by assumption) ?_
      · (try dsimp only at hSw); go_simp
      (try simp only [Act.put]); (try simp only [List.setIfInBounds_toArray]); (try simp only [List.set_cons_succ]); (try simp only [List.set_cons_zero])
      refine wpAnyH_take (i := 33) (oi := { dst := some 70, op := Go.Op.move (Go.Operand.tmp 69), type := 4, pos := _, after := #[{ on := 32, ground := Go.Ground.data }, { on := 28, ground := Go.Ground.chain }, { on := 28, ground := Go.Ground.guard }], guard := some (28, true) }) (v := .bool false) rfl (by kernel_rfl) (by kernel_rfl) (by kernel_rfl) (fun _ _ _ h => h) (Or.inl ⟨by rfl, fun w' hSw => ?_⟩) (by assumption) ?_
      · (try dsimp only at hSw); go_simp
      (try simp only [Act.put]); (try simp only [List.setIfInBounds_toArray]); (try simp only [List.set_cons_succ]); (try simp only [List.set_cons_zero])
      refine wpAnyH_take (i := 34) (oi := { dst := some 71, op := Go.Op.load 23 (Go.Operand.tmp 4), type := 23, pos := _, after := #[{ on := 33, ground := Go.Ground.guard }], guard := some (33, false) }) (v := .agg #[.string X, .bool q]) rfl (by kernel_rfl) (by kernel_rfl) (by kernel_rfl) (fun _ _ _ h => h) (Or.inl ⟨by rfl, fun w' hSw => ?_⟩) (by assumption) ?_
      · have c0 := ce0 _ hSw; have c1 := ce1 _ hSw; go_simp
      (try simp only [Act.put]); (try simp only [List.setIfInBounds_toArray]); (try simp only [List.set_cons_succ]); (try simp only [List.set_cons_zero])
      refine wpAnyH_ready (rs := [35]) (by kernel_rfl) (by simp) ?_
      refine AllReadyH.cons (o := { dst := some 72, op := Go.Op.call { callee := Go.Callee.value (Go.Operand.func 12), args := #[Go.Operand.tmp 71], argTypes := #[23] }, type := 32, pos := _, after := #[{ on := 34, ground := Go.Ground.data }, { on := 33, ground := Go.Ground.chain }, { on := 33, ground := Go.Ground.guard }], guard := some (33, false) }) rfl (fun K hK => ?_) ?_
      · skip
        go_simp
        refine (HC.out _).mono ?_
        rintro e v3 ⟨rfl, hbv3⟩
        have e3 := ExtT.trans e2 hbv3
        go_wp2_with fail
        refine hK.out _ _ e3 (fun hHeld => ?_)
        clear hK K
        (try simp only [Act.put]); (try simp only [List.setIfInBounds_toArray]); (try simp only [List.set_cons_succ]); (try simp only [List.set_cons_zero])
        refine wpAnyH_take (i := 36) (oi := { dst := some 73, op := Go.Op.binOp Go.BinOp.eql 32 (Go.Operand.tmp 72) (Go.Operand.const (Go.Value.int Go.IntKind.i64 0)) 32, type := 4, pos := _, after := #[{ on := 35, ground := Go.Ground.data }, { on := 33, ground := Go.Ground.guard }], guard := some (33, false) }) (v := .bool true) rfl (by kernel_rfl) (by kernel_rfl) (by kernel_rfl) (fun _ _ _ h => h) (Or.inl ⟨by rfl, fun w' hSw => ?_⟩) (by assumption) ?_
        · (try dsimp only at hSw); go_simp
        (try simp only [Act.put]); (try simp only [List.setIfInBounds_toArray]); (try simp only [List.set_cons_succ]); (try simp only [List.set_cons_zero])
        refine wpAnyH_take (i := 37) (oi := { dst := some 74, op := Go.Op.pick (Go.Operand.tmp 70) (Go.Operand.const (Go.Value.bool true)) (Go.Operand.tmp 73), type := 4, pos := _, after := #[{ on := 33, ground := Go.Ground.data }, { on := 36, ground := Go.Ground.data }, { on := 28, ground := Go.Ground.guard }], guard := some (28, true) }) (v := .bool true) rfl (by kernel_rfl) (by kernel_rfl) (by kernel_rfl) (fun _ _ _ h => h) (Or.inl ⟨by rfl, fun w' hSw => ?_⟩) (by assumption) ?_
        · (try dsimp only at hSw); go_simp
        (try simp only [Act.put]); (try simp only [List.setIfInBounds_toArray]); (try simp only [List.set_cons_succ]); (try simp only [List.set_cons_zero])
        refine wpAnyH_take (i := 38) (oi := { dst := some 75, op := Go.Op.pick (Go.Operand.tmp 65) (Go.Operand.tmp 74) (Go.Operand.const (Go.Value.bool false)), type := 4, pos := _, after := #[{ on := 28, ground := Go.Ground.data }, { on := 37, ground := Go.Ground.data }], guard := none }) (v := .bool true) rfl (by kernel_rfl) (by kernel_rfl) (by kernel_rfl) (fun _ _ _ h => h) (Or.inl ⟨by rfl, fun w' hSw => ?_⟩) (by assumption) ?_
        · (try dsimp only at hSw); go_simp
        (try simp only [Act.put]); (try simp only [List.setIfInBounds_toArray]); (try simp only [List.set_cons_succ]); (try simp only [List.set_cons_zero])
        refine wpAnyH_take (i := 39) (oi := { dst := some 8, op := Go.Op.assign (Go.Operand.tmp 75), type := 4, pos := _, after := #[{ on := 38, ground := Go.Ground.data }, { on := 35, ground := Go.Ground.chain }, { on := 0, ground := Go.Ground.phase }, { on := 1, ground := Go.Ground.phase }, { on := 2, ground := Go.Ground.phase }, { on := 3, ground := Go.Ground.phase }, { on := 4, ground := Go.Ground.phase }, { on := 5, ground := Go.Ground.phase }, { on := 6, ground := Go.Ground.phase }, { on := 7, ground := Go.Ground.phase }, { on := 8, ground := Go.Ground.phase }, { on := 9, ground := Go.Ground.phase }, { on := 10, ground := Go.Ground.phase }, { on := 11, ground := Go.Ground.phase }, { on := 12, ground := Go.Ground.phase }, { on := 13, ground := Go.Ground.phase }, { on := 14, ground := Go.Ground.phase }, { on := 15, ground := Go.Ground.phase }, { on := 16, ground := Go.Ground.phase }, { on := 17, ground := Go.Ground.phase }, { on := 18, ground := Go.Ground.phase }, { on := 19, ground := Go.Ground.phase }, { on := 20, ground := Go.Ground.phase }, { on := 21, ground := Go.Ground.phase }, { on := 22, ground := Go.Ground.phase }, { on := 23, ground := Go.Ground.phase }, { on := 24, ground := Go.Ground.phase }, { on := 25, ground := Go.Ground.phase }, { on := 26, ground := Go.Ground.phase }, { on := 27, ground := Go.Ground.phase }, { on := 28, ground := Go.Ground.phase }, { on := 29, ground := Go.Ground.phase }, { on := 30, ground := Go.Ground.phase }, { on := 31, ground := Go.Ground.phase }, { on := 32, ground := Go.Ground.phase }, { on := 33, ground := Go.Ground.phase }, { on := 34, ground := Go.Ground.phase }, { on := 35, ground := Go.Ground.phase }, { on := 36, ground := Go.Ground.phase }, { on := 37, ground := Go.Ground.phase }, { on := 38, ground := Go.Ground.phase }], guard := none }) (v := .bool true) rfl (by kernel_rfl) (by kernel_rfl) (by kernel_rfl) (fun _ _ _ h => h) (Or.inl ⟨by rfl, fun w' hSw => ?_⟩) (by assumption) ?_
        · (try dsimp only at hSw); go_simp
        (try simp only [Act.put]); (try simp only [List.setIfInBounds_toArray]); (try simp only [List.set_cons_succ]); (try simp only [List.set_cons_zero])
        refine wpAnyH_done (by kernel_rfl) ?_ _
        refine NoPanic.normal ?_
        have HFF := Hid.mk' (HF.out.trans (Below.mono e3 HF.out.size))
        clear e3
        go_wp2
        go_ret
        exact ⟨rfl, HFF.out⟩
      exact AllReadyH.nil
    exact AllReadyH.nil
  exact AllReadyH.nil

theorem LineTypes_any (k : List UInt8) (hk : k.length = 38) (M : List Nat) (hM : H.okW M) (B T : List UInt8) (q : Bool) (w : World) :
    Calls Tryd.prog 3 #[.agg #[.string (bs B), .bool q], K.KV k, H.MV M, .string (bs T)] w fun e w' => e = .returned (.bool true) ∧ Below w.heap.size w w' := by
  by_cases hB : 1024 ≤ B.length
  · exact LineTypes_big k hk M hM B T q w hB
  · exact LineTypes_small k hk M hM B T q w hB
end Go.Proofs.YtomgnnbcaficaaaDoor.L
