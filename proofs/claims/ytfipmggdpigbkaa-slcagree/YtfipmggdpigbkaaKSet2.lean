/-
  Contract of slc.settle, way by way; conditions: both threes are of one function, his level is at most 3.
-/
import Derived.Test.YtfipmggdpigbkaaKSet
namespace Go.Proofs.Ytfipmggdpigbkaa.K
open Go.RowKit Go.Proofs.Ytfipmggdpigbkaa Go.Proofs.Ytfipmggdpigbkaa.W Go.Proofs.Ytfipmggdpigbkaa.Q

attribute [local go_sem ↓] exec_loadT exec_storeT

theorem eqI (a b : UInt8) (h : a = b) : ((a.toNat : Int) == (b.toNat : Int)) = true := by subst h; simp
theorem neI (a b : UInt8) (h : ¬ a = b) : ((a.toNat : Int) == (b.toNat : Int)) = false := by
  rw [beq_eq_false_iff_ne]
  intro e
  exact h (UInt8.toNat_inj.1 (by omega))

/-- two results that lie in blocks, and a third -/
theorem ret_two {fn : Func} {R : Ending → World → Prop} {p q r : Tmp} (h : fn.results = #[.cell p 41, .cell q 41, .tmp r]) {a : Act} {w : World} (l m : List Value) (b c : Nat) (v : Value)
    (hp : a.tmps[p]? = some (.pointer (some ⟨b, 0, none⟩))) (hq : a.tmps[q]? = some (.pointer (some ⟨c, 0, none⟩))) (hr : a.tmps[r]? = some v) (hB : Box w b 41 l) (hC : Box w c 41 m) (h0 : a.defers = []) (hR : R (.returned (.tuple #[.agg l.toArray, .agg m.toArray, v])) w) (hl : (Try.prog.info? 41).map (·.size) = some l.length := by exact sizeT) (hm : (Try.prog.info? 41).map (·.size) = some m.length := by exact sizeT) : bodyPost Try.prog fn R .ret a w := by
  refine bodyPost_ret (v := .tuple #[.agg l.toArray, .agg m.toArray, v]) ?_ h0 hR
  simp [results, h, hp, hq, hr, asAddr, loadVar_box w 41 41 l b _ Try.underlying41 rfl hl hB, loadVar_box w 41 41 m c _ Try.underlying41 rfl hm hC]

set_option maxHeartbeats 4000000 in
theorem settle_same (f L c : UInt8) (sure : Bool) (w : World) : Calls Try.prog 23 #[T3 f L c, T3 f L c, .bool sure] w fun e w' => e = .returned (RS ((L, c), (0, 0, 0), false) f) ∧ Below w.heap.size w w' := by
  have HZ := Hid.mk' zeroT
  have HO := Hid.mk' tc_one
  have HG : Hid ((tc f L c)[1]? = some (.int .u8 (L.toNat : Int))) := rfl
  have HGo : Hid ((tc f L c)[1]? = some (.int .u8 (L.toNat : Int)) ∧ (tc f L c)[0]? = some (.int .u8 (f.toNat : Int))) := ⟨rfl, rfl⟩
  go_enter Try.func23, Try.ntmps23
  go_wp2_with (refine wpList_box (tc f L c) 41 rfl _ rfl rfl ?_)
  intro w1 m1
  go_wp2_with (refine wpList_box (tc f L c) 41 rfl _ rfl rfl ?_)
  intro w2 m2
  go_wp2_with (refine wpList_alloc (tc 0 0 0) 41 HZ.out rfl rfl ?_)
  intro w3 m3
  go_wp2_with (refine wpList_alloc (tc 0 0 0) 41 HZ.out rfl rfl ?_)
  intro w4 m4
  have z1 := m1.lt
  have z2 := m2.lt
  have z3 := m3.lt
  have z4 := m4.lt
  have b0 := m4.keep (m3.keep (m2.keep m1.box))
  have b1 := m4.keep (m3.keep m2.box)
  have b2 := m4.keep m3.box
  have b3 := m4.box
  have HL := Hid.mk' (m4.below w.heap.size w (by omega) (m3.below _ _ (by omega) (m2.below _ _ (by omega) (m1.below _ _ (Nat.le_refl _) (Below.refl _ w)))))
  have hcell := b1.cell HG.out
  have hcell2 := b0.cell HGo.out.1
  have hcell3 := b0.cell HGo.out.2
  have q2 : w.heap.size ≤ w2.heap.size := by omega
  have q3 : w.heap.size ≤ w3.heap.size := by omega
  have q4 : w2.heap.size ≠ w3.heap.size := by omega
  clear m1 m2 m3 m4
  go_wp2_with (first | (refine wpList_load_box 41 41 (tc f L c) w.heap.size _ Try.underlying41 rfl (sizeT3 _ _ _) b0 rfl _ rfl rfl ?_) | (refine wpList_load_box 41 41 (tc f L c) w1.heap.size _ Try.underlying41 rfl (sizeT3 _ _ _) b1 rfl _ rfl rfl ?_) | (refine wpList_eqlT f L c f L c true (decide_eq_true ⟨rfl, rfl, rfl⟩) _ rfl _ _ rfl rfl rfl ?_) | (refine wpList_store_box 41 41 (tc 0 0 0) (tc f L c) w2.heap.size (sizeT3 _ _ _) (HO.out _ _ _) b2 rfl rfl _ _ rfl rfl rfl ?_))
  intro w5 s5
  have c3 := s5.keep b3 q4.symm
  have HL5 := Hid.mk' (s5.below _ _ q2 HL.out)
  have r5 := s5.box
  clear s5 b0 b1 b2 b3 hcell hcell2 hcell3
  go_wp2_with (refine wpList_store_box 41 41 (tc 0 0 0) (tc 0 0 0) w3.heap.size (sizeT3 _ _ _) (HO.out _ _ _) c3 rfl rfl _ _ rfl rfl rfl ?_)
  intro w6 s6
  have r6 := s6.keep r5 q4
  have r7 := s6.box
  have HL6 := Hid.mk' (s6.below _ _ q3 HL5.out)
  clear s6 r5 c3
  go_wp2
  exact ret_two Try.results23 (tc f L c) (tc 0 0 0) w2.heap.size w3.heap.size (.bool false) rfl rfl rfl r6 r7 rfl ⟨rfl, HL6.out⟩

set_option maxHeartbeats 4000000 in
theorem settle_asked (f o y L c : UInt8)  (hn : ¬ (L = o ∧ c = y)) (h3 : L = 3) (w : World) : Calls Try.prog 23 #[T3 f o y, T3 f L c, .bool true] w fun e w' => e = .returned (RS ((o, y), (0, 0, 0), false) f) ∧ Below w.heap.size w w' := by
  have HN := Hid.mk' hn
  clear hn
  have hq : ((L.toNat : Int) == 3) = true := eqI L 3 h3
  clear h3
  have HZ := Hid.mk' zeroT
  have HO := Hid.mk' tc_one
  have HG : Hid ((tc f L c)[1]? = some (.int .u8 (L.toNat : Int))) := rfl
  have HGo : Hid ((tc f o y)[1]? = some (.int .u8 (o.toNat : Int)) ∧ (tc f o y)[0]? = some (.int .u8 (f.toNat : Int))) := ⟨rfl, rfl⟩
  go_enter Try.func23, Try.ntmps23
  go_wp2_with (refine wpList_box (tc f o y) 41 rfl _ rfl rfl ?_)
  intro w1 m1
  go_wp2_with (refine wpList_box (tc f L c) 41 rfl _ rfl rfl ?_)
  intro w2 m2
  go_wp2_with (refine wpList_alloc (tc 0 0 0) 41 HZ.out rfl rfl ?_)
  intro w3 m3
  go_wp2_with (refine wpList_alloc (tc 0 0 0) 41 HZ.out rfl rfl ?_)
  intro w4 m4
  have z1 := m1.lt
  have z2 := m2.lt
  have z3 := m3.lt
  have z4 := m4.lt
  have b0 := m4.keep (m3.keep (m2.keep m1.box))
  have b1 := m4.keep (m3.keep m2.box)
  have b2 := m4.keep m3.box
  have b3 := m4.box
  have HL := Hid.mk' (m4.below w.heap.size w (by omega) (m3.below _ _ (by omega) (m2.below _ _ (by omega) (m1.below _ _ (Nat.le_refl _) (Below.refl _ w)))))
  have hcell := b1.cell HG.out
  have hcell2 := b0.cell HGo.out.1
  have hcell3 := b0.cell HGo.out.2
  have q2 : w.heap.size ≤ w2.heap.size := by omega
  have q3 : w.heap.size ≤ w3.heap.size := by omega
  have q4 : w2.heap.size ≠ w3.heap.size := by omega
  clear m1 m2 m3 m4
  go_wp2_with (first | (refine wpList_load_box 41 41 (tc f o y) w.heap.size _ Try.underlying41 rfl (sizeT3 _ _ _) b0 rfl _ rfl rfl ?_) | (refine wpList_load_box 41 41 (tc f L c) w1.heap.size _ Try.underlying41 rfl (sizeT3 _ _ _) b1 rfl _ rfl rfl ?_) | (refine wpList_eqlT f L c f o y false (decide_eq_false fun h => HN.out ⟨h.2.1, h.2.2⟩) _ rfl _ _ rfl rfl rfl ?_) | (refine wpList_store_box 41 41 (tc 0 0 0) (tc f o y) w2.heap.size (sizeT3 _ _ _) (HO.out _ _ _) b2 rfl rfl _ _ rfl rfl rfl ?_))
  intro w5 s5
  have c3 := s5.keep b3 q4.symm
  have HL5 := Hid.mk' (s5.below _ _ q2 HL.out)
  have r5 := s5.box
  clear s5 b0 b1 b2 b3 hcell hcell2 hcell3
  go_wp2_with (refine wpList_store_box 41 41 (tc 0 0 0) (tc 0 0 0) w3.heap.size (sizeT3 _ _ _) (HO.out _ _ _) c3 rfl rfl _ _ rfl rfl rfl ?_)
  intro w6 s6
  have r6 := s6.keep r5 q4
  have r7 := s6.box
  have HL6 := Hid.mk' (s6.below _ _ q3 HL5.out)
  clear s6 r5 c3
  go_wp2
  exact ret_two Try.results23 (tc f o y) (tc 0 0 0) w2.heap.size w3.heap.size (.bool false) rfl rfl rfl r6 r7 rfl ⟨rfl, HL6.out⟩

set_option maxHeartbeats 4000000 in
theorem settle_sure (f o y L c : UInt8)  (hn : ¬ (L = o ∧ c = y)) (h3 : ¬ L = 3) (w : World) : Calls Try.prog 23 #[T3 f o y, T3 f L c, .bool true] w fun e w' => e = .returned (RS ((L, c), (0, 0, 0), false) f) ∧ Below w.heap.size w w' := by
  have HN := Hid.mk' hn
  clear hn
  have hq : ((L.toNat : Int) == 3) = false := neI L 3 h3
  clear h3
  have HZ := Hid.mk' zeroT
  have HO := Hid.mk' tc_one
  have HG : Hid ((tc f L c)[1]? = some (.int .u8 (L.toNat : Int))) := rfl
  have HGo : Hid ((tc f o y)[1]? = some (.int .u8 (o.toNat : Int)) ∧ (tc f o y)[0]? = some (.int .u8 (f.toNat : Int))) := ⟨rfl, rfl⟩
  go_enter Try.func23, Try.ntmps23
  go_wp2_with (refine wpList_box (tc f o y) 41 rfl _ rfl rfl ?_)
  intro w1 m1
  go_wp2_with (refine wpList_box (tc f L c) 41 rfl _ rfl rfl ?_)
  intro w2 m2
  go_wp2_with (refine wpList_alloc (tc 0 0 0) 41 HZ.out rfl rfl ?_)
  intro w3 m3
  go_wp2_with (refine wpList_alloc (tc 0 0 0) 41 HZ.out rfl rfl ?_)
  intro w4 m4
  have z1 := m1.lt
  have z2 := m2.lt
  have z3 := m3.lt
  have z4 := m4.lt
  have b0 := m4.keep (m3.keep (m2.keep m1.box))
  have b1 := m4.keep (m3.keep m2.box)
  have b2 := m4.keep m3.box
  have b3 := m4.box
  have HL := Hid.mk' (m4.below w.heap.size w (by omega) (m3.below _ _ (by omega) (m2.below _ _ (by omega) (m1.below _ _ (Nat.le_refl _) (Below.refl _ w)))))
  have hcell := b1.cell HG.out
  have hcell2 := b0.cell HGo.out.1
  have hcell3 := b0.cell HGo.out.2
  have q2 : w.heap.size ≤ w2.heap.size := by omega
  have q3 : w.heap.size ≤ w3.heap.size := by omega
  have q4 : w2.heap.size ≠ w3.heap.size := by omega
  clear m1 m2 m3 m4
  go_wp2_with (first | (refine wpList_load_box 41 41 (tc f o y) w.heap.size _ Try.underlying41 rfl (sizeT3 _ _ _) b0 rfl _ rfl rfl ?_) | (refine wpList_load_box 41 41 (tc f L c) w1.heap.size _ Try.underlying41 rfl (sizeT3 _ _ _) b1 rfl _ rfl rfl ?_) | (refine wpList_eqlT f L c f o y false (decide_eq_false fun h => HN.out ⟨h.2.1, h.2.2⟩) _ rfl _ _ rfl rfl rfl ?_) | (refine wpList_store_box 41 41 (tc 0 0 0) (tc f L c) w2.heap.size (sizeT3 _ _ _) (HO.out _ _ _) b2 rfl rfl _ _ rfl rfl rfl ?_))
  intro w5 s5
  have c3 := s5.keep b3 q4.symm
  have HL5 := Hid.mk' (s5.below _ _ q2 HL.out)
  have r5 := s5.box
  clear s5 b0 b1 b2 b3 hcell hcell2 hcell3
  go_wp2_with (refine wpList_store_box 41 41 (tc 0 0 0) (tc 0 0 0) w3.heap.size (sizeT3 _ _ _) (HO.out _ _ _) c3 rfl rfl _ _ rfl rfl rfl ?_)
  intro w6 s6
  have r6 := s6.keep r5 q4
  have r7 := s6.box
  have HL6 := Hid.mk' (s6.below _ _ q3 HL5.out)
  clear s6 r5 c3
  go_wp2
  exact ret_two Try.results23 (tc f L c) (tc 0 0 0) w2.heap.size w3.heap.size (.bool false) rfl rfl rfl r6 r7 rfl ⟨rfl, HL6.out⟩
end Go.Proofs.Ytfipmggdpigbkaa.K
