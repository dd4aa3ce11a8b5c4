/-
  Contract of slc.settle, the ways that draw their order; conditions: both threes are of one function, his level is at most 3.
-/
import Derived.Test.YtfipmggdpigbkaaKSet2
namespace Go.Proofs.Ytfipmggdpigbkaa.K
open Go.RowKit Go.Proofs.Ytfipmggdpigbkaa Go.Proofs.Ytfipmggdpigbkaa.W Go.Proofs.Ytfipmggdpigbkaa.Q

attribute [local go_sem ↓] exec_loadT exec_storeT


/-- what the walk of the drawn regions keeps: the blocks of both results -/
def SS (w0 : World) (b c : Nat) (w' : World) : Prop := Below b w0 w' ∧ HasBox w' b 41 3 ∧ HasBox w' c 41 3
theorem HasBox.other {w w' : World} {b : Nat} {t : TypeId} {n : Nat} (h : HasBox w b t n) (hk : w'.heap[b]? = w.heap[b]?) : HasBox w' b t n := by
  obtain ⟨q, hq, hn⟩ := h
  exact ⟨q, hq.kept hk, hn⟩
theorem SS.put6 {w0 w' : World} {b c : Nat} (h : SS w0 b c w') (hlt : b < c) (cs : List Value) (hn : cs.length = 3) : SS w0 b c (putAt w' (.pointer (some ⟨b, 0, none⟩)) (.agg cs.toArray)) := by
  have s := h.2.1.put cs hn
  exact ⟨s.below _ _ (Nat.le_refl _) h.1, ⟨cs, s.box, hn⟩, h.2.2.other (s.other _ (by omega))⟩
theorem SS.put7 {w0 w' : World} {b c : Nat} (h : SS w0 b c w') (hlt : b < c) (cs : List Value) (hn : cs.length = 3) : SS w0 b c (putAt w' (.pointer (some ⟨c, 0, none⟩)) (.agg cs.toArray)) := by
  have s := h.2.2.put cs hn
  exact ⟨s.below _ _ (by omega) h.1, h.2.1.other (s.other _ (by omega)), ⟨cs, s.box, hn⟩⟩
theorem SS.put {w0 w' : World} {b c d : Nat} (h : SS w0 b c w') (hlt : b < c) (cs : List Value) (hd : d = b ∨ d = c) (hn : cs.length = 3) : SS w0 b c (putAt w' (.pointer (some ⟨d, 0, none⟩)) (.agg cs.toArray)) := by
  rcases hd with rfl | rfl
  · exact h.put6 hlt cs hn
  · exact h.put7 hlt cs hn
theorem SS.later {w0 w' w2 : World} {b c : Nat} (h : SS w0 b c w') (hb : Below w'.heap.size w' w2) : SS w0 b c w2 :=
  ⟨h.1.trans (hb.mono (Nat.le_of_lt h.2.1.lt)), h.2.1.later hb, h.2.2.later hb⟩

set_option maxHeartbeats 4000000 in
theorem settle_told (f o y L c : UInt8) (hn : ¬ (L = o ∧ c = y)) (hL0 : ¬ L = 0) (hL3 : L = 3) (w : World) : Calls Try.prog 23 #[T3 f o y, T3 f L c, .bool false] w fun e w' => e = .returned (RS ((o, y), (f, o, y), true) f) ∧ Below w.heap.size w w' := by
  have HN := Hid.mk' hn
  clear hn
  have hqL0 : ((L.toNat : Int) == 0) = false := neI L 0 hL0
  clear hL0
  have hqL3 : ((L.toNat : Int) == 3) = true := eqI L 3 hL3
  clear hL3
  have HZ := Hid.mk' zeroT
  have HO := Hid.mk' tc_one
  have HG : Hid ((tc f L c)[1]? = some (.int .u8 (L.toNat : Int))) := rfl
  have HGo : Hid ((tc f o y)[1]? = some (.int .u8 (o.toNat : Int)) ∧ (tc f o y)[0]? = some (.int .u8 (f.toNat : Int))) := ⟨rfl, rfl⟩
  go_enter Try.func23, Try.ntmps23
  go_wp2_with (refine wpList_box (tc f o y) 41 rfl _ rfl rfl ?_)
  intro w1 m1
  go_wp2_with (refine wpList_box (tc f L c) 41 rfl _ rfl rfl ?_)
  intro w2 m2
  go_wp2_with (refine wpList_alloc (tc 0 0 0) 41 HZ.out rfl rfl ?_)
  intro w3 m3
  go_wp2_with (refine wpList_alloc (tc 0 0 0) 41 HZ.out rfl rfl ?_)
  intro w4 m4
  have z1 := m1.lt
  have z2 := m2.lt
  have z3 := m3.lt
  have z4 := m4.lt
  have b0 := m4.keep (m3.keep (m2.keep m1.box))
  have b1 := m4.keep (m3.keep m2.box)
  have b2 := m4.keep m3.box
  have b3 := m4.box
  have HL := Hid.mk' (m4.below w.heap.size w (by omega) (m3.below _ _ (by omega) (m2.below _ _ (by omega) (m1.below _ _ (Nat.le_refl _) (Below.refl _ w)))))
  have hcell := b1.cell HG.out
  have hcell2 := b0.cell HGo.out.1
  have hcell3 := b0.cell HGo.out.2
  have q2 : w.heap.size ≤ w2.heap.size := by omega
  have q3 : w.heap.size ≤ w3.heap.size := by omega
  have q4 : w2.heap.size ≠ w3.heap.size := by omega
  clear m1 m2 m3 m4
  have x0 := b0.drew
  have HS : Hid (SS w4.drew w2.heap.size w3.heap.size w4.drew) := ⟨Below.refl _ _, ⟨_, b2.drew, rfl⟩, ⟨_, b3.drew, rfl⟩⟩
  have hl0 : ∀ w', SS w4.drew w2.heap.size w3.heap.size w' → Lies w' (.pointer (some ⟨w.heap.size, 0, none⟩)) 3 := fun w' h => (x0.below h.1 (by omega)).lies0 rfl
  have hr0 : ∀ w', SS w4.drew w2.heap.size w3.heap.size w' → Q.rowAt w' (.pointer (some ⟨w.heap.size, 0, none⟩)) 3 = tc f o y := fun w' h => (x0.below h.1 (by omega)).row0 rfl
  have hl2 : ∀ w', SS w4.drew w2.heap.size w3.heap.size w' → Lies w' (.pointer (some ⟨w2.heap.size, 0, none⟩)) 3 := fun w' h => h.2.1.lies
  have hl3 : ∀ w', SS w4.drew w2.heap.size w3.heap.size w' → Lies w' (.pointer (some ⟨w3.heap.size, 0, none⟩)) 3 := fun w' h => h.2.2.lies
  have hh : Holds (.agg (tc f o y).toArray) 3 := T3.holds f o y
  have hlt : w2.heap.size < w3.heap.size := by omega
  have HLD := Hid.mk' HL.out.drew
  have hn6 : Hid ((tc f o y).length = 3) := rfl
  have hn7 := hn6
  have S6 := HS.out.2.1.put (tc f o y) rfl
  have S7 := Hid.mk' ((HS.out.2.2.other (S6.other _ q4.symm)).put (tc f o y) rfl)
  have r6 := Hid.mk' (S7.out.keep S6.box q4)
  have HL7 := Hid.mk' (S7.out.below _ _ q3 (S6.below _ _ q2 HLD.out))
  clear x0 HL HO HZ S6
  go_wp2_with (first | (refine wpList_load_box 41 41 (tc f o y) w.heap.size _ Try.underlying41 rfl (sizeT3 _ _ _) b0 rfl _ rfl rfl ?_) | (refine wpList_load_box 41 41 (tc f L c) w1.heap.size _ Try.underlying41 rfl (sizeT3 _ _ _) b1 rfl _ rfl rfl ?_) | (refine wpList_eqlT f L c f o y false (decide_eq_false fun h => HN.out ⟨h.2.1, h.2.2⟩) _ rfl _ _ rfl rfl rfl ?_))
  clear b0 b1 b2 b3 hcell hcell2 hcell3
  have hS := HS.out
  go_region_held3 (fun w' => SS w4.drew w2.heap.size w3.heap.size w') (first | with_reducible assumption | (with_reducible refine SS.put (by with_reducible assumption) hlt _ (by first | exact Or.inl rfl | exact Or.inr rfl) (by first | exact hn6.out | exact hn7.out))) (fail)
  go_wp2
  exact ret_two Try.results23 (tc f o y) (tc f o y) w2.heap.size w3.heap.size (.bool true) rfl rfl rfl r6.out S7.out.box rfl ⟨rfl, HL7.out⟩

set_option maxHeartbeats 4000000 in
theorem settle_keep (f o y L c : UInt8) (hn : ¬ (L = o ∧ c = y)) (hL0 : ¬ L = 0) (hL3 : ¬ L = 3) (ho1 : o = 1) (hL1 : ¬ L = 1) (w : World) : Calls Try.prog 23 #[T3 f o y, T3 f L c, .bool false] w fun e w' => e = .returned (RS ((o, y), (f, o, y), true) f) ∧ Below w.heap.size w w' := by
  have HN := Hid.mk' hn
  clear hn
  have hqL0 : ((L.toNat : Int) == 0) = false := neI L 0 hL0
  clear hL0
  have hqL3 : ((L.toNat : Int) == 3) = false := neI L 3 hL3
  clear hL3
  have hqo1 : ((o.toNat : Int) != 1) = false := by rw [bne, (show ((o.toNat : Int) == 1) = true from eqI o 1 ho1)]; rfl
  clear ho1
  have hqL1 : ((L.toNat : Int) == 1) = false := neI L 1 hL1
  clear hL1
  have HZ := Hid.mk' zeroT
  have HO := Hid.mk' tc_one
  have HG : Hid ((tc f L c)[1]? = some (.int .u8 (L.toNat : Int))) := rfl
  have HGo : Hid ((tc f o y)[1]? = some (.int .u8 (o.toNat : Int)) ∧ (tc f o y)[0]? = some (.int .u8 (f.toNat : Int))) := ⟨rfl, rfl⟩
  go_enter Try.func23, Try.ntmps23
  go_wp2_with (refine wpList_box (tc f o y) 41 rfl _ rfl rfl ?_)
  intro w1 m1
  go_wp2_with (refine wpList_box (tc f L c) 41 rfl _ rfl rfl ?_)
  intro w2 m2
  go_wp2_with (refine wpList_alloc (tc 0 0 0) 41 HZ.out rfl rfl ?_)
  intro w3 m3
  go_wp2_with (refine wpList_alloc (tc 0 0 0) 41 HZ.out rfl rfl ?_)
  intro w4 m4
  have z1 := m1.lt
  have z2 := m2.lt
  have z3 := m3.lt
  have z4 := m4.lt
  have b0 := m4.keep (m3.keep (m2.keep m1.box))
  have b1 := m4.keep (m3.keep m2.box)
  have b2 := m4.keep m3.box
  have b3 := m4.box
  have HL := Hid.mk' (m4.below w.heap.size w (by omega) (m3.below _ _ (by omega) (m2.below _ _ (by omega) (m1.below _ _ (Nat.le_refl _) (Below.refl _ w)))))
  have hcell := b1.cell HG.out
  have hcell2 := b0.cell HGo.out.1
  have hcell3 := b0.cell HGo.out.2
  have q2 : w.heap.size ≤ w2.heap.size := by omega
  have q3 : w.heap.size ≤ w3.heap.size := by omega
  have q4 : w2.heap.size ≠ w3.heap.size := by omega
  clear m1 m2 m3 m4
  have x0 := b0.drew
  have HS : Hid (SS w4.drew w2.heap.size w3.heap.size w4.drew) := ⟨Below.refl _ _, ⟨_, b2.drew, rfl⟩, ⟨_, b3.drew, rfl⟩⟩
  have hl0 : ∀ w', SS w4.drew w2.heap.size w3.heap.size w' → Lies w' (.pointer (some ⟨w.heap.size, 0, none⟩)) 3 := fun w' h => (x0.below h.1 (by omega)).lies0 rfl
  have hr0 : ∀ w', SS w4.drew w2.heap.size w3.heap.size w' → Q.rowAt w' (.pointer (some ⟨w.heap.size, 0, none⟩)) 3 = tc f o y := fun w' h => (x0.below h.1 (by omega)).row0 rfl
  have hl2 : ∀ w', SS w4.drew w2.heap.size w3.heap.size w' → Lies w' (.pointer (some ⟨w2.heap.size, 0, none⟩)) 3 := fun w' h => h.2.1.lies
  have hl3 : ∀ w', SS w4.drew w2.heap.size w3.heap.size w' → Lies w' (.pointer (some ⟨w3.heap.size, 0, none⟩)) 3 := fun w' h => h.2.2.lies
  have hh : Holds (.agg (tc f o y).toArray) 3 := T3.holds f o y
  have hlt : w2.heap.size < w3.heap.size := by omega
  have HLD := Hid.mk' HL.out.drew
  have hn6 : Hid ((tc f o y).length = 3) := rfl
  have hn7 := hn6
  have S6 := HS.out.2.1.put (tc f o y) rfl
  have S7 := Hid.mk' ((HS.out.2.2.other (S6.other _ q4.symm)).put (tc f o y) rfl)
  have r6 := Hid.mk' (S7.out.keep S6.box q4)
  have HL7 := Hid.mk' (S7.out.below _ _ q3 (S6.below _ _ q2 HLD.out))
  clear x0 HL HO HZ S6
  go_wp2_with (first | (refine wpList_load_box 41 41 (tc f o y) w.heap.size _ Try.underlying41 rfl (sizeT3 _ _ _) b0 rfl _ rfl rfl ?_) | (refine wpList_load_box 41 41 (tc f L c) w1.heap.size _ Try.underlying41 rfl (sizeT3 _ _ _) b1 rfl _ rfl rfl ?_) | (refine wpList_eqlT f L c f o y false (decide_eq_false fun h => HN.out ⟨h.2.1, h.2.2⟩) _ rfl _ _ rfl rfl rfl ?_))
  clear b0 b1 b2 b3 hcell hcell2 hcell3
  have hS := HS.out
  go_region_held3 (fun w' => SS w4.drew w2.heap.size w3.heap.size w') (first | with_reducible assumption | (with_reducible refine SS.put (by with_reducible assumption) hlt _ (by first | exact Or.inl rfl | exact Or.inr rfl) (by first | exact hn6.out | exact hn7.out))) (fail)
  go_wp2
  exact ret_two Try.results23 (tc f o y) (tc f o y) w2.heap.size w3.heap.size (.bool true) rfl rfl rfl r6.out S7.out.box rfl ⟨rfl, HL7.out⟩

set_option maxHeartbeats 4000000 in
theorem settle_nokey (f o y L c : UInt8) (hn : ¬ (L = o ∧ c = y)) (hL0 : L = 0) (w : World) : Calls Try.prog 23 #[T3 f o y, T3 f L c, .bool false] w fun e w' => e = .returned (RS ((L, c), (f, 128 + L, c), true) f) ∧ Below w.heap.size w w' := by
  have HN := Hid.mk' hn
  clear hn
  obtain ⟨G, hG⟩ : ∃ G, G = 128 + L := ⟨_, rfl⟩
  rw [← hG]
  have HA : Hid (∀ w, Calls Try.prog 25 #[.agg (tc f L c).toArray] w fun e w' => e = .returned (.agg (tc f G c).toArray) ∧ Below w.heap.size w w') := by rw [hG]; exact agreed_any f L c (by rw [hL0]; decide)
  clear hG
  have hqL0 : ((L.toNat : Int) == 0) = true := eqI L 0 hL0
  clear hL0
  have HZ := Hid.mk' zeroT
  have HO := Hid.mk' tc_one
  have HG : Hid ((tc f L c)[1]? = some (.int .u8 (L.toNat : Int))) := rfl
  have HGo : Hid ((tc f o y)[1]? = some (.int .u8 (o.toNat : Int)) ∧ (tc f o y)[0]? = some (.int .u8 (f.toNat : Int))) := ⟨rfl, rfl⟩
  go_enter Try.func23, Try.ntmps23
  go_wp2_with (refine wpList_box (tc f o y) 41 rfl _ rfl rfl ?_)
  intro w1 m1
  go_wp2_with (refine wpList_box (tc f L c) 41 rfl _ rfl rfl ?_)
  intro w2 m2
  go_wp2_with (refine wpList_alloc (tc 0 0 0) 41 HZ.out rfl rfl ?_)
  intro w3 m3
  go_wp2_with (refine wpList_alloc (tc 0 0 0) 41 HZ.out rfl rfl ?_)
  intro w4 m4
  have z1 := m1.lt
  have z2 := m2.lt
  have z3 := m3.lt
  have z4 := m4.lt
  have b0 := m4.keep (m3.keep (m2.keep m1.box))
  have b1 := m4.keep (m3.keep m2.box)
  have b2 := m4.keep m3.box
  have b3 := m4.box
  have HL := Hid.mk' (m4.below w.heap.size w (by omega) (m3.below _ _ (by omega) (m2.below _ _ (by omega) (m1.below _ _ (Nat.le_refl _) (Below.refl _ w)))))
  have hcell := b1.cell HG.out
  have hcell2 := b0.cell HGo.out.1
  have hcell3 := b0.cell HGo.out.2
  have q2 : w.heap.size ≤ w2.heap.size := by omega
  have q3 : w.heap.size ≤ w3.heap.size := by omega
  have q4 : w2.heap.size ≠ w3.heap.size := by omega
  clear m1 m2 m3 m4
  have x0 := b0.drew
  have x1 := b1.drew
  have HS : Hid (SS w4.drew w2.heap.size w3.heap.size w4.drew) := ⟨Below.refl _ _, ⟨_, b2.drew, rfl⟩, ⟨_, b3.drew, rfl⟩⟩
  have hl1 : ∀ w', SS w4.drew w2.heap.size w3.heap.size w' → Lies w' (.pointer (some ⟨w1.heap.size, 0, none⟩)) 3 := fun w' h => (x1.below h.1 (by omega)).lies0 rfl
  have hr1 : ∀ w', SS w4.drew w2.heap.size w3.heap.size w' → Q.rowAt w' (.pointer (some ⟨w1.heap.size, 0, none⟩)) 3 = tc f L c := fun w' h => (x1.below h.1 (by omega)).row0 rfl
  have hl2 : ∀ w', SS w4.drew w2.heap.size w3.heap.size w' → Lies w' (.pointer (some ⟨w2.heap.size, 0, none⟩)) 3 := fun w' h => h.2.1.lies
  have hl3 : ∀ w', SS w4.drew w2.heap.size w3.heap.size w' → Lies w' (.pointer (some ⟨w3.heap.size, 0, none⟩)) 3 := fun w' h => h.2.2.lies
  have hh6 : Holds (.agg (tc f L c).toArray) 3 := T3.holds _ _ _
  have hh7 : Holds (.agg (tc f G c).toArray) 3 := T3.holds _ _ _
  have hn6 : Hid ((tc f L c).length = 3) := rfl
  have hn7 : Hid ((tc f G c).length = 3) := rfl
  have hlt : w2.heap.size < w3.heap.size := by omega
  have HLD := Hid.mk' HL.out.drew
  clear x0 x1 HL HO HZ
  go_wp2_with (first | (refine wpList_load_box 41 41 (tc f o y) w.heap.size _ Try.underlying41 rfl (sizeT3 _ _ _) b0 rfl _ rfl rfl ?_) | (refine wpList_load_box 41 41 (tc f L c) w1.heap.size _ Try.underlying41 rfl (sizeT3 _ _ _) b1 rfl _ rfl rfl ?_) | (refine wpList_eqlT f L c f o y false (decide_eq_false fun h => HN.out ⟨h.2.1, h.2.2⟩) _ rfl _ _ rfl rfl rfl ?_))
  clear b0 b1 b2 b3 hcell hcell2 hcell3
  have hS := HS.out
  go_region_held3 (fun w' => SS w4.drew w2.heap.size w3.heap.size w') (first | with_reducible assumption | (with_reducible refine SS.put (by with_reducible assumption) hlt _ (by first | exact Or.inl rfl | exact Or.inr rfl) (by first | exact hn6.out | exact hn7.out))) ((go_at_call 25; refine (HA.out _).mono ?_; rintro e wy ⟨rfl, hb⟩; have hsy : SS w4.drew w2.heap.size w3.heap.size wy := SS.later (by with_reducible assumption) hb))
  have S6 := hsy.2.1.put (tc f L c) rfl
  have S7 := Hid.mk' ((hsy.2.2.other (S6.other _ q4.symm)).put (tc f G c) rfl)
  have r6 := Hid.mk' (S7.out.keep S6.box q4)
  have HL7 := Hid.mk' (S7.out.below _ _ q3 (S6.below _ _ q2 (HLD.out.trans (hsy.1.mono q2))))
  clear S6
  go_wp2
  exact ret_two Try.results23 (tc f L c) (tc f G c) w2.heap.size w3.heap.size (.bool true) rfl rfl rfl r6.out S7.out.box rfl ⟨rfl, HL7.out⟩

set_option maxHeartbeats 4000000 in
theorem settle_takes (f o y L c : UInt8) (hn : ¬ (L = o ∧ c = y)) (hL0 : ¬ L = 0) (hL3 : ¬ L = 3) (ho1 : ¬ o = 1) (hL : L.toNat ≤ 3) (w : World) : Calls Try.prog 23 #[T3 f o y, T3 f L c, .bool false] w fun e w' => e = .returned (RS ((L, c), (f, 128 + L, c), true) f) ∧ Below w.heap.size w w' := by
  have HN := Hid.mk' hn
  clear hn
  obtain ⟨G, hG⟩ : ∃ G, G = 128 + L := ⟨_, rfl⟩
  rw [← hG]
  have HA : Hid (∀ w, Calls Try.prog 25 #[.agg (tc f L c).toArray] w fun e w' => e = .returned (.agg (tc f G c).toArray) ∧ Below w.heap.size w w') := by rw [hG]; exact agreed_any f L c (hL)
  clear hG
  have hqL0 : ((L.toNat : Int) == 0) = false := neI L 0 hL0
  clear hL0
  have hqL3 : ((L.toNat : Int) == 3) = false := neI L 3 hL3
  clear hL3
  have hqo1 : ((o.toNat : Int) != 1) = true := by rw [bne, (show ((o.toNat : Int) == 1) = false from neI o 1 ho1)]; rfl
  clear ho1
  have HZ := Hid.mk' zeroT
  have HO := Hid.mk' tc_one
  have HG : Hid ((tc f L c)[1]? = some (.int .u8 (L.toNat : Int))) := rfl
  have HGo : Hid ((tc f o y)[1]? = some (.int .u8 (o.toNat : Int)) ∧ (tc f o y)[0]? = some (.int .u8 (f.toNat : Int))) := ⟨rfl, rfl⟩
  go_enter Try.func23, Try.ntmps23
  go_wp2_with (refine wpList_box (tc f o y) 41 rfl _ rfl rfl ?_)
  intro w1 m1
  go_wp2_with (refine wpList_box (tc f L c) 41 rfl _ rfl rfl ?_)
  intro w2 m2
  go_wp2_with (refine wpList_alloc (tc 0 0 0) 41 HZ.out rfl rfl ?_)
  intro w3 m3
  go_wp2_with (refine wpList_alloc (tc 0 0 0) 41 HZ.out rfl rfl ?_)
  intro w4 m4
  have z1 := m1.lt
  have z2 := m2.lt
  have z3 := m3.lt
  have z4 := m4.lt
  have b0 := m4.keep (m3.keep (m2.keep m1.box))
  have b1 := m4.keep (m3.keep m2.box)
  have b2 := m4.keep m3.box
  have b3 := m4.box
  have HL := Hid.mk' (m4.below w.heap.size w (by omega) (m3.below _ _ (by omega) (m2.below _ _ (by omega) (m1.below _ _ (Nat.le_refl _) (Below.refl _ w)))))
  have hcell := b1.cell HG.out
  have hcell2 := b0.cell HGo.out.1
  have hcell3 := b0.cell HGo.out.2
  have q2 : w.heap.size ≤ w2.heap.size := by omega
  have q3 : w.heap.size ≤ w3.heap.size := by omega
  have q4 : w2.heap.size ≠ w3.heap.size := by omega
  clear m1 m2 m3 m4
  have x0 := b0.drew
  have x1 := b1.drew
  have HS : Hid (SS w4.drew w2.heap.size w3.heap.size w4.drew) := ⟨Below.refl _ _, ⟨_, b2.drew, rfl⟩, ⟨_, b3.drew, rfl⟩⟩
  have hl1 : ∀ w', SS w4.drew w2.heap.size w3.heap.size w' → Lies w' (.pointer (some ⟨w1.heap.size, 0, none⟩)) 3 := fun w' h => (x1.below h.1 (by omega)).lies0 rfl
  have hr1 : ∀ w', SS w4.drew w2.heap.size w3.heap.size w' → Q.rowAt w' (.pointer (some ⟨w1.heap.size, 0, none⟩)) 3 = tc f L c := fun w' h => (x1.below h.1 (by omega)).row0 rfl
  have hl2 : ∀ w', SS w4.drew w2.heap.size w3.heap.size w' → Lies w' (.pointer (some ⟨w2.heap.size, 0, none⟩)) 3 := fun w' h => h.2.1.lies
  have hl3 : ∀ w', SS w4.drew w2.heap.size w3.heap.size w' → Lies w' (.pointer (some ⟨w3.heap.size, 0, none⟩)) 3 := fun w' h => h.2.2.lies
  have hh6 : Holds (.agg (tc f L c).toArray) 3 := T3.holds _ _ _
  have hh7 : Holds (.agg (tc f G c).toArray) 3 := T3.holds _ _ _
  have hn6 : Hid ((tc f L c).length = 3) := rfl
  have hn7 : Hid ((tc f G c).length = 3) := rfl
  have hlt : w2.heap.size < w3.heap.size := by omega
  have HLD := Hid.mk' HL.out.drew
  clear x0 x1 HL HO HZ
  go_wp2_with (first | (refine wpList_load_box 41 41 (tc f o y) w.heap.size _ Try.underlying41 rfl (sizeT3 _ _ _) b0 rfl _ rfl rfl ?_) | (refine wpList_load_box 41 41 (tc f L c) w1.heap.size _ Try.underlying41 rfl (sizeT3 _ _ _) b1 rfl _ rfl rfl ?_) | (refine wpList_eqlT f L c f o y false (decide_eq_false fun h => HN.out ⟨h.2.1, h.2.2⟩) _ rfl _ _ rfl rfl rfl ?_))
  clear b0 b1 b2 b3 hcell hcell2 hcell3
  have hS := HS.out
  go_region_held3 (fun w' => SS w4.drew w2.heap.size w3.heap.size w') (first | with_reducible assumption | (with_reducible refine SS.put (by with_reducible assumption) hlt _ (by first | exact Or.inl rfl | exact Or.inr rfl) (by first | exact hn6.out | exact hn7.out))) ((go_at_call 25; refine (HA.out _).mono ?_; rintro e wy ⟨rfl, hb⟩; have hsy : SS w4.drew w2.heap.size w3.heap.size wy := SS.later (by with_reducible assumption) hb))
  have S6 := hsy.2.1.put (tc f L c) rfl
  have S7 := Hid.mk' ((hsy.2.2.other (S6.other _ q4.symm)).put (tc f G c) rfl)
  have r6 := Hid.mk' (S7.out.keep S6.box q4)
  have HL7 := Hid.mk' (S7.out.below _ _ q3 (S6.below _ _ q2 (HLD.out.trans (hsy.1.mono q2))))
  clear S6
  go_wp2
  exact ret_two Try.results23 (tc f L c) (tc f G c) w2.heap.size w3.heap.size (.bool true) rfl rfl rfl r6.out S7.out.box rfl ⟨rfl, HL7.out⟩

set_option maxHeartbeats 4000000 in
theorem settle_both (f o y L c : UInt8) (hn : ¬ (L = o ∧ c = y)) (hL0 : ¬ L = 0) (hL3 : ¬ L = 3) (ho1 : o = 1) (hL1 : L = 1) (w : World) : Calls Try.prog 23 #[T3 f o y, T3 f L c, .bool false] w fun e w' => e = .returned (RS ((0, 0), (f, 0, 0), true) f) ∧ Below w.heap.size w w' := by
  have HN := Hid.mk' hn
  clear hn
  have HA : Hid (∀ w, Calls Try.prog 22 #[.int .u8 (f.toNat : Int)] w fun e w' => e = .returned (.agg (tc f 0 0).toArray) ∧ Below w.heap.size w w') := none_any f
  have hqL0 : ((L.toNat : Int) == 0) = false := neI L 0 hL0
  clear hL0
  have hqL3 : ((L.toNat : Int) == 3) = false := neI L 3 hL3
  clear hL3
  have hqo1 : ((o.toNat : Int) != 1) = false := by rw [bne, (show ((o.toNat : Int) == 1) = true from eqI o 1 ho1)]; rfl
  clear ho1
  have hqL1 : ((L.toNat : Int) == 1) = true := eqI L 1 hL1
  clear hL1
  have HZ := Hid.mk' zeroT
  have HO := Hid.mk' tc_one
  have HG : Hid ((tc f L c)[1]? = some (.int .u8 (L.toNat : Int))) := rfl
  have HGo : Hid ((tc f o y)[1]? = some (.int .u8 (o.toNat : Int)) ∧ (tc f o y)[0]? = some (.int .u8 (f.toNat : Int))) := ⟨rfl, rfl⟩
  go_enter Try.func23, Try.ntmps23
  go_wp2_with (refine wpList_box (tc f o y) 41 rfl _ rfl rfl ?_)
  intro w1 m1
  go_wp2_with (refine wpList_box (tc f L c) 41 rfl _ rfl rfl ?_)
  intro w2 m2
  go_wp2_with (refine wpList_alloc (tc 0 0 0) 41 HZ.out rfl rfl ?_)
  intro w3 m3
  go_wp2_with (refine wpList_alloc (tc 0 0 0) 41 HZ.out rfl rfl ?_)
  intro w4 m4
  have z1 := m1.lt
  have z2 := m2.lt
  have z3 := m3.lt
  have z4 := m4.lt
  have b0 := m4.keep (m3.keep (m2.keep m1.box))
  have b1 := m4.keep (m3.keep m2.box)
  have b2 := m4.keep m3.box
  have b3 := m4.box
  have HL := Hid.mk' (m4.below w.heap.size w (by omega) (m3.below _ _ (by omega) (m2.below _ _ (by omega) (m1.below _ _ (Nat.le_refl _) (Below.refl _ w)))))
  have hcell := b1.cell HG.out
  have hcell2 := b0.cell HGo.out.1
  have hcell3 := b0.cell HGo.out.2
  have q2 : w.heap.size ≤ w2.heap.size := by omega
  have q3 : w.heap.size ≤ w3.heap.size := by omega
  have q4 : w2.heap.size ≠ w3.heap.size := by omega
  clear m1 m2 m3 m4
  have x0 := b0.drew
  have x1 := b1.drew
  have HS : Hid (SS w4.drew w2.heap.size w3.heap.size w4.drew) := ⟨Below.refl _ _, ⟨_, b2.drew, rfl⟩, ⟨_, b3.drew, rfl⟩⟩
  have hc0 : ∀ w', SS w4.drew w2.heap.size w3.heap.size w' → w'.cell? ⟨w.heap.size, 0, none⟩ = some (.int .u8 (f.toNat : Int)) := fun w' h => (x0.below h.1 (by omega)).cell rfl
  have hl2 : ∀ w', SS w4.drew w2.heap.size w3.heap.size w' → Lies w' (.pointer (some ⟨w2.heap.size, 0, none⟩)) 3 := fun w' h => h.2.1.lies
  have hl3 : ∀ w', SS w4.drew w2.heap.size w3.heap.size w' → Lies w' (.pointer (some ⟨w3.heap.size, 0, none⟩)) 3 := fun w' h => h.2.2.lies
  have hh6 : Holds (.agg (tc f 0 0).toArray) 3 := T3.holds _ _ _
  have hh7 : Holds (.agg (tc f 0 0).toArray) 3 := T3.holds _ _ _
  have hn6 : Hid ((tc f 0 0).length = 3) := rfl
  have hn7 : Hid ((tc f 0 0).length = 3) := rfl
  have hlt : w2.heap.size < w3.heap.size := by omega
  have HLD := Hid.mk' HL.out.drew
  clear x0 x1 HL HO HZ
  go_wp2_with (first | (refine wpList_load_box 41 41 (tc f o y) w.heap.size _ Try.underlying41 rfl (sizeT3 _ _ _) b0 rfl _ rfl rfl ?_) | (refine wpList_load_box 41 41 (tc f L c) w1.heap.size _ Try.underlying41 rfl (sizeT3 _ _ _) b1 rfl _ rfl rfl ?_) | (refine wpList_eqlT f L c f o y false (decide_eq_false fun h => HN.out ⟨h.2.1, h.2.2⟩) _ rfl _ _ rfl rfl rfl ?_))
  clear b0 b1 b2 b3 hcell hcell2 hcell3
  have hS := HS.out
  go_region_held3 (fun w' => SS w4.drew w2.heap.size w3.heap.size w') (first | with_reducible assumption | (with_reducible refine SS.put (by with_reducible assumption) hlt _ (by first | exact Or.inl rfl | exact Or.inr rfl) (by first | exact hn6.out | exact hn7.out))) ((go_at_call 22; refine (HA.out _).mono ?_; rintro e wy ⟨rfl, hb⟩; have hsy : SS w4.drew w2.heap.size w3.heap.size wy := SS.later (by with_reducible assumption) hb))
  have S6 := hsy.2.1.put (tc f 0 0) rfl
  have S7 := Hid.mk' ((hsy.2.2.other (S6.other _ q4.symm)).put (tc f 0 0) rfl)
  have r6 := Hid.mk' (S7.out.keep S6.box q4)
  have HL7 := Hid.mk' (S7.out.below _ _ q3 (S6.below _ _ q2 (HLD.out.trans (hsy.1.mono q2))))
  clear S6
  go_wp2
  exact ret_two Try.results23 (tc f 0 0) (tc f 0 0) w2.heap.size w3.heap.size (.bool true) rfl rfl rfl r6.out S7.out.box rfl ⟨rfl, HL7.out⟩
end Go.Proofs.Ytfipmggdpigbkaa.K
