/-
  Walks: farlaw.QnegTables, QnegTakes and QnegWants return true. No condition.
-/
import Derived.Test.YtfehlfjondelnaaQEq
import Derived.Test.YtfehlfjondelnaaQRef3b
import Derived.Test.YtfehlfjondelnaaQRef4
namespace Go.Proofs.Ytfehlfjondelnaa.Q
open Go.RowKit Go.Proofs.Ytfehlfjondelnaa

attribute [local go_sem ↓] exec_load32 exec_store32 exec_eql32

set_option maxHeartbeats 4000000 in
theorem QnegTables_any (s : Int) (on ag : Bool) (w : World) : Calls Try.prog 3 #[.int .i64 s, .bool on, .bool ag] w fun e w' => e = .returned (.bool true) ∧ Below w.heap.size w w' := by
  have H1 := Hid.mk' (Hear_any s on ag)
  have H2 := Hid.mk' (Heard_any s on ag)
  have H3 := Hid.mk' (Ask_any s on)
  have H4 := Hid.mk' (Asked_any s on)
  unfold RHear at H1 H2
  unfold RAsk at H3 H4
  generalize hear s on ag = r at *
  generalize ask s on = q at *
  obtain ⟨r1, r2, r3⟩ := r
  obtain ⟨q1, q2, q3⟩ := q
  dsimp only at H1 H2 H3 H4
  go_enter Try.func3, Try.ntmps3
  go_wp2_with fail
  refine (H1.out _).mono ?_
  rintro e w1 ⟨rfl, rfl⟩
  go_wp2_with fail
  refine (H2.out _).mono ?_
  rintro e w2 ⟨rfl, h2⟩
  have HB2 := Hid.mk' h2
  clear h2
  go_wp2_with fail
  refine (H3.out _).mono ?_
  rintro e w3 ⟨rfl, rfl⟩
  go_wp2_with fail
  refine (H4.out _).mono ?_
  rintro e w4 ⟨rfl, h4⟩
  have HB4 := Hid.mk' (chain8 HB2.out h4)
  clear h4
  go_wp2
  go_ret
  exact ⟨rfl, HB4.out⟩

theorem takeR_neg {l : List Value} (hl : NegL l) (kd cm op : Int) (d : ByteArray) : NegL (takeR l kd cm op d).1 := by
  unfold takeR
  split
  · split
    · rename_i _ hi
      obtain ⟨_, _, hk, _, _⟩ := isSay_yes hi
      have hb := hl.byte (place_lt (decide (252 < cm)) hk)
      have hbd := hear_bd (decide (cm % 2 = 1)) (may l (decide (252 < cm)) op.toNat) hb.2.1 hb.2.2
      exact hl.put _ hk hbd.1 hbd.2
    · exact hl
  · exact hl
theorem wantR_neg {l : List Value} (hl : NegL l) (us : Bool) (op : Int) (on : Bool) : NegL (wantR l us op on).1 := by
  unfold wantR
  split
  · split
    · rename_i _ hi
      obtain ⟨hk, _⟩ := isOp_yes hi
      have hb := hl.byte (place_lt us hk)
      have hbd := ask_bd on hb.2.1 hb.2.2
      split
      · exact hl.put us hk hbd.1 hbd.2
      · exact hl
    · exact hl
  · exact hl

set_option maxHeartbeats 4000000 in
theorem QnegWants_any (l : List Value) (hl : NegL l) (us : Bool) (op : Int) (on : Bool) (w : World) :
    Calls Try.prog 5 #[.agg l.toArray, .bool us, .int .i64 op, .bool on] w fun e w' => e = .returned (.bool true) ∧ Below w.heap.size w w' := by
  obtain ⟨z, hz, hzw⟩ := zero32
  have HZ := Hid.mk' hzw
  have H1 := Hid.mk' (Want_any l hl us op on)
  have H2 := Hid.mk' (Wanted_any l hl us op on)
  have HP := Hid.mk' (wantR_neg hl us op on)
  unfold RNeg at H1 H2
  generalize wantR l us op on = r at *
  obtain ⟨l', wd, er⟩ := r
  dsimp only at H1 H2 HP
  have HS : Hid ((Try.prog.info? 32).map (·.size) = some l.length) := by rw [hl.len]; exact size32
  have HS' : Hid ((Try.prog.info? 32).map (·.size) = some l'.length) := by rw [HP.out.len]; exact size32
  have HN : Hid (z.length = l'.length) := hz.len.trans HP.out.len.symm
  have hH := HP.out.same
  clear hzw hl hz
  go_enter Try.func5, Try.ntmps5
  go_wp2_with (refine wpList_box l 32 rfl _ rfl rfl ?_)
  intro w1 m1
  have b1 := m1.box
  have z1 := m1.lt
  have HB1 := Hid.mk' (m1.below w.heap.size w (Nat.le_refl _) (Below.refl _ w))
  clear m1
  go_wp2_with (refine wpList_load_box 32 32 l w.heap.size _ Try.underlying32 rfl HS.out b1 rfl _ rfl rfl ?_)
  refine (H1.out _).mono ?_
  rintro e w2 ⟨rfl, h2⟩
  have b2 := b1.later h2
  have HB2 := Hid.mk' (chain8 HB1.out h2)
  have z2 := h2.size
  clear h2 b1
  go_wp2_with (refine wpList_alloc z 32 HZ.out rfl rfl ?_)
  intro w3 m3
  have b3 := m3.keep b2
  have z3 := m3.lt
  have HB3 := Hid.mk' (m3.below _ _ (by omega) HB2.out)
  go_wp2_with (refine wpList_store_box 32 32 z l' w2.heap.size HS'.out HP.out.one m3.box HN.out rfl _ _ rfl rfl rfl ?_)
  intro w4 s4
  have b4 := s4.keep b3 (by omega)
  have x4 := s4.box
  have HB4 := Hid.mk' (s4.below _ _ (by omega) HB3.out)
  have y4 := s4.size
  have z4 : w2.heap.size < w4.heap.size := by omega
  clear m3 s4 b3 b2 y4 z3
  go_wp2_with (refine wpList_load_box 32 32 l w.heap.size _ Try.underlying32 rfl HS.out b4 rfl _ rfl rfl ?_)
  refine (H2.out _).mono ?_
  rintro e w5 ⟨rfl, h5⟩
  have x5 := x4.later h5
  have HB5 := Hid.mk' (HB4.out.trans (h5.mono (by omega)))
  have z5 := h5.size
  clear h5 b4 x4
  go_wp2_with (refine wpList_alloc z 32 HZ.out rfl rfl ?_)
  intro w6 m6
  have x6 := m6.keep x5
  have HB6 := Hid.mk' (m6.below _ _ (by omega) HB5.out)
  go_wp2_with (refine wpList_store_box 32 32 z l' w5.heap.size HS'.out HP.out.one m6.box HN.out rfl _ _ rfl rfl rfl ?_)
  intro w7 s7
  have x7 := s7.keep x6 (by omega)
  have y7 := s7.box
  have HB7 := Hid.mk' (s7.below _ _ (by omega) HB6.out)
  clear m6 s7 x6 z1 z2 z4 z5 x5
  go_wp2_with (first | (refine wpList_load_box 32 32 l' w2.heap.size _ Try.underlying32 rfl HS'.out x7 rfl _ rfl rfl ?_) | (refine wpList_load_box 32 32 l' w5.heap.size _ Try.underlying32 rfl HS'.out y7 rfl _ rfl rfl ?_))
  go_ret
  exact ⟨rfl, HB7.out⟩

set_option maxHeartbeats 8000000 in
theorem QnegTakes_any (l : List Value) (hl : NegL l) (kd cm op : Int) (d : ByteArray) (w : World) :
    Calls Try.prog 4 #[.agg l.toArray, .agg (tok kd cm op d).toArray] w fun e w' => e = .returned (.bool true) ∧ Below w.heap.size w w' := by
  obtain ⟨z, hz, hzw⟩ := zero32
  have HZ := Hid.mk' hzw
  have H1 := Hid.mk' (Take_any l hl kd cm op d)
  have H2 := Hid.mk' (Taken_any l hl kd cm op d)
  have H3 := Hid.mk' (Check_any l hl)
  have H4 := Hid.mk' (NegRight_any l hl)
  have HP := Hid.mk' (takeR_neg hl kd cm op d)
  unfold RNeg at H1 H2
  generalize takeR l kd cm op d = r at *
  obtain ⟨l', wd, er⟩ := r
  dsimp only at H1 H2 HP
  generalize (if right l = true then (0 : Int) else 4) = R at *
  have HLN := Hid.mk' hl.len
  have HS : Hid ((Try.prog.info? 32).map (·.size) = some l.length) := by rw [hl.len]; exact size32
  have HS' : Hid ((Try.prog.info? 32).map (·.size) = some l'.length) := by rw [HP.out.len]; exact size32
  have HT : Hid ((Try.prog.info? 34).map (·.size) = some (tok kd cm op d).length) := size34
  have HN : Hid (z.length = l'.length) := hz.len.trans HP.out.len.symm
  have hH := HP.out.same
  generalize tok kd cm op d = T at *
  clear hzw hl hz
  go_enter Try.func4, Try.ntmps4
  go_wp2_with (refine wpList_box l 32 rfl _ rfl rfl ?_)
  intro w0 m0
  go_wp2_with (refine wpList_box T 34 rfl _ rfl rfl ?_)
  intro w1 m1
  have b1 := m1.keep m0.box
  have t1 := m1.box
  have z0 := m0.lt
  have z1 := m1.lt
  have HB1 := Hid.mk' (m1.below w.heap.size w (by omega) (m0.below w.heap.size w (Nat.le_refl _) (Below.refl _ w)))
  clear m1 m0
  go_wp2_with (first | (refine wpList_load_box 32 32 l w.heap.size _ Try.underlying32 rfl HS.out b1 rfl _ rfl rfl ?_) | (refine wpList_load_box 34 34 T w0.heap.size _ Try.underlying34 rfl HT.out t1 rfl _ rfl rfl ?_))
  refine (H1.out _).mono ?_
  rintro e w2 ⟨rfl, h2⟩
  have b2 := b1.later h2
  have t2 := t1.later h2
  have HB2 := Hid.mk' (chain8 HB1.out h2)
  have z2 := h2.size
  clear h2 b1 t1
  go_wp2_with (refine wpList_alloc z 32 HZ.out rfl rfl ?_)
  intro w3 m3
  have b3 := m3.keep b2
  have t3 := m3.keep t2
  have z3 := m3.lt
  have HB3 := Hid.mk' (m3.below _ _ (by omega) HB2.out)
  go_wp2_with (refine wpList_store_box 32 32 z l' w2.heap.size HS'.out HP.out.one m3.box HN.out rfl _ _ rfl rfl rfl ?_)
  intro w4 s4
  have b4 := s4.keep b3 (by omega)
  have t4 := s4.keep t3 (by omega)
  have x4 := s4.box
  have HB4 := Hid.mk' (s4.below _ _ (by omega) HB3.out)
  have y4 := s4.size
  have z4 : w2.heap.size < w4.heap.size := by omega
  clear m3 s4 b3 b2 y4 z3 t3 t2
  go_wp2_with (first | (refine wpList_load_box 32 32 l w.heap.size _ Try.underlying32 rfl HS.out b4 rfl _ rfl rfl ?_) | (refine wpList_load_box 34 34 T w0.heap.size _ Try.underlying34 rfl HT.out t4 rfl _ rfl rfl ?_))
  refine (H2.out _).mono ?_
  rintro e w5 ⟨rfl, h5⟩
  have x5 := x4.later h5
  have b5 := b4.later h5
  have HB5 := Hid.mk' (HB4.out.trans (h5.mono (by omega)))
  have z5 := h5.size
  clear h5 b4 x4 t4
  go_wp2_with (refine wpList_alloc z 32 HZ.out rfl rfl ?_)
  intro w6 m6
  have x6 := m6.keep x5
  have b6 := m6.keep b5
  have z6 := m6.lt
  have HB6 := Hid.mk' (m6.below _ _ (by omega) HB5.out)
  go_wp2_with (refine wpList_store_box 32 32 z l' w5.heap.size HS'.out HP.out.one m6.box HN.out rfl _ _ rfl rfl rfl ?_)
  intro w7 s7
  have b7 := s7.keep b6 (by omega)
  have x7 := s7.keep x6 (by omega)
  have y7 := s7.box
  have HB7 := Hid.mk' (s7.below _ _ (by omega) HB6.out)
  have e7 := s7.size
  have z7 : w.heap.size ≤ w7.heap.size := by omega
  clear m6 s7 x6 z1 z2 z4 z5 x5 b5 b6 z0 z6 e7
  have hL1 : ∀ w', Below w7.heap.size w7 w' → Lies w' (.pointer (some ⟨w.heap.size, 0, none⟩)) 520 := fun w' h => (b7.later h).lies0 HLN.out
  have hR1 : ∀ w', Below w7.heap.size w7 w' → rowAt w' (.pointer (some ⟨w.heap.size, 0, none⟩)) 520 = l := fun w' h => (b7.later h).row0 HLN.out
  have hL2 : ∀ w', Below w7.heap.size w7 w' → Lies w' (.pointer (some ⟨w2.heap.size, 0, none⟩)) 520 := fun w' h => (x7.later h).lies0 HP.out.len
  have hR2 : ∀ w', Below w7.heap.size w7 w' → rowAt w' (.pointer (some ⟨w2.heap.size, 0, none⟩)) 520 = l' := fun w' h => (x7.later h).row0 HP.out.len
  have hL3 : ∀ w', Below w7.heap.size w7 w' → Lies w' (.pointer (some ⟨w5.heap.size, 0, none⟩)) 520 := fun w' h => (y7.later h).lies0 HP.out.len
  have hR3 : ∀ w', Below w7.heap.size w7 w' → rowAt w' (.pointer (some ⟨w5.heap.size, 0, none⟩)) 520 = l' := fun w' h => (y7.later h).row0 HP.out.len
  have H8 : Hid (Below w7.heap.size w7 w7.drew) := (Below.refl _ _).drew
  clear b7 x7 y7
  go_wp2_with fail
  go_region_held3 (fun w' => Below w7.heap.size w7 w') (first | assumption | exact H8.out | exact chain8 (by assumption) hb) (first | (go_at_call 15; refine (H3.out _).mono ?_; rintro e wx ⟨rfl, hb⟩) | (go_at_call 16; refine (H4.out _).mono ?_; rintro e wy ⟨rfl, hb⟩))
  have h8 : Below w7.heap.size w7 wy := by assumption
  have HB8 := Hid.mk' (HB7.out.trans (h8.mono z7))
  clear hL1 hR1 hL2 hR2 hL3 hR3 H8 h8 hb
  go_wp2
  go_ret
  exact ⟨rfl, HB8.out⟩
end Go.Proofs.Ytfehlfjondelnaa.Q
