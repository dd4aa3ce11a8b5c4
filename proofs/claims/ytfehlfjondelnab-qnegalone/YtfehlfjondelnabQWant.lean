/-
  Contract of qneg.Want: whatever the cells of the Neg and the other arguments.
-/
import Derived.Test.YtfehlfjondelnabQTake
namespace Go.Proofs.Ytfehlfjondelnab.Q
open Go.RowKit Go.Proofs.Ytfehlfjondelnab

theorem ask_bd {s : Int} (on : Bool) (h0 : 0 ≤ s) (h1 : s < 256) : 0 ≤ (ask s on).1 ∧ (ask s on).1 < 256 := by
  unfold ask
  repeat' split
  all_goals first | exact ⟨by decide, by decide⟩ | exact ⟨h0, h1⟩

set_option maxHeartbeats 4000000 in
theorem Want_form (l : List Value) (hl : NegL l) (hr : right l = false) (us on : Bool) (op : Int) (w : World) :
    Calls Try.prog 8 #[.agg l.toArray, .bool us, .int .i64 op, .bool on] w fun e w' => e = .returned (RNeg l [] 4) ∧ Below w.heap.size w w' := by
  obtain ⟨z, hz, hzw⟩ := zero32
  have HZ := Hid.mk' hzw
  have HC := Hid.mk' (Check_any l hl)
  rw [hr] at HC
  have HL := Hid.mk' hl
  have HS : Hid ((Try.prog.info? 31).map (·.size) = some l.length) := by rw [hl.len]; exact size32
  have HN : Hid (z.length = l.length) := hz.len.trans hl.len.symm
  clear hzw hl hz hr
  go_enter Try.func8, Try.ntmps8
  go_wp2_with (refine wpList_box l 31 rfl _ rfl rfl ?_)
  intro w1 m1
  go_wp2_with (refine wpList_alloc z 31 HZ.out rfl rfl ?_)
  intro w2 m2
  have z1 := m1.lt
  have z2 := m2.lt
  have b3 := m2.keep m1.box
  have HB3 := Hid.mk' (m2.below w.heap.size w (by omega) (m1.below _ _ (Nat.le_refl _) (Below.refl _ w)))
  go_wp2_with (refine wpList_load_box 31 31 l w.heap.size _ Try.underlying31 rfl HS.out b3 rfl _ rfl rfl ?_)
  refine (HC.out _).mono ?_
  rintro e w4 ⟨rfl, h4⟩
  have b4 := b3.later h4
  have r4 := m2.box.later h4
  have HB4 := Hid.mk' (HB3.out.trans (h4.mono (by omega)))
  have hle : w.heap.size ≤ w1.heap.size := by omega
  clear z1 z2 b3 h4 m1 m2
  go_wp2_with (first | (refine wpList_load_box 31 31 l w.heap.size _ Try.underlying31 rfl HS.out b4 rfl _ rfl rfl ?_) | (refine wpList_store_box 31 31 z l w1.heap.size HS.out HL.out.one r4 HN.out rfl _ _ rfl rfl rfl ?_))
  intro w5 s5
  go_wp2
  exact ret_box3 Try.results8 31 l w1.heap.size _ Try.underlying31 rfl HS.out _ _ rfl rfl rfl s5.box rfl ⟨rfl, s5.below _ _ hle HB4.out⟩

set_option maxHeartbeats 4000000 in
theorem Want_arg (l : List Value) (hl : NegL l) (hr : right l = true) (us on : Bool) (op : Int) (hi : isOp op = false) (w : World) :
    Calls Try.prog 8 #[.agg l.toArray, .bool us, .int .i64 op, .bool on] w fun e w' => e = .returned (RNeg l [] 1) ∧ Below w.heap.size w w' := by
  obtain ⟨z, hz, hzw⟩ := zero32
  have HZ := Hid.mk' hzw
  have HC := Hid.mk' (Check_any l hl)
  rw [hr] at HC
  have HI := Hid.mk' (isOption_any op)
  rw [hi] at HI
  have HL := Hid.mk' hl
  have HS : Hid ((Try.prog.info? 31).map (·.size) = some l.length) := by rw [hl.len]; exact size32
  have HN : Hid (z.length = l.length) := hz.len.trans hl.len.symm
  clear hzw hl hz hr hi
  go_enter Try.func8, Try.ntmps8
  go_wp2_with (refine wpList_box l 31 rfl _ rfl rfl ?_)
  intro w1 m1
  go_wp2_with (refine wpList_alloc z 31 HZ.out rfl rfl ?_)
  intro w2 m2
  have z1 := m1.lt
  have z2 := m2.lt
  have b3 := m2.keep m1.box
  have HB3 := Hid.mk' (m2.below w.heap.size w (by omega) (m1.below _ _ (Nat.le_refl _) (Below.refl _ w)))
  go_wp2_with (refine wpList_load_box 31 31 l w.heap.size _ Try.underlying31 rfl HS.out b3 rfl _ rfl rfl ?_)
  refine (HC.out _).mono ?_
  rintro e w4 ⟨rfl, h4⟩
  have b4 := b3.later h4
  have r4 := m2.box.later h4
  have HB4 := Hid.mk' (HB3.out.trans (h4.mono (by omega)))
  have hle : w.heap.size ≤ w1.heap.size := by omega
  clear z1 z2 b3 h4 m1 m2
  go_wp2_with fail
  refine (HI.out _).mono ?_
  rintro e w5 ⟨rfl, rfl⟩
  go_wp2_with (first | (refine wpList_load_box 31 31 l w.heap.size _ Try.underlying31 rfl HS.out b4 rfl _ rfl rfl ?_) | (refine wpList_store_box 31 31 z l w1.heap.size HS.out HL.out.one r4 HN.out rfl _ _ rfl rfl rfl ?_))
  intro w6 s5
  go_wp2
  exact ret_box3 Try.results8 31 l w1.heap.size _ Try.underlying31 rfl HS.out _ _ rfl rfl rfl s5.box rfl ⟨rfl, s5.below _ _ hle HB4.out⟩

set_option maxHeartbeats 4000000 in
theorem Want_err (l : List Value) (hl : NegL l) (hr : right l = true) (us on : Bool) (k : Nat) (hk : k < 256) (w : World) (r1 r2 r3 : Int) (hh : ask (st l (place us k)) on = (r1, r2, r3)) (hr3 : r3 ≠ 0) :
    Calls Try.prog 8 #[.agg l.toArray, .bool us, .int .i64 (k : Int), .bool on] w fun e w' => e = .returned (RNeg l [] r3) ∧ Below w.heap.size w w' := by
  obtain ⟨z, hz, hzw⟩ := zero32
  have HZ := Hid.mk' hzw
  have HC := Hid.mk' (Check_any l hl)
  rw [hr] at HC
  have HI := Hid.mk' (isOption_any k)
  rw [show isOp k = true from decide_eq_true ⟨by omega, by omega⟩] at HI
  have HST := Hid.mk' (stateOf_any l hl us k hk)
  have HAS := Hid.mk' (Ask_any (st l (place us k)) on)
  rw [hh] at HAS
  unfold RAsk at HAS
  have HL := Hid.mk' hl
  have HS : Hid ((Try.prog.info? 31).map (·.size) = some l.length) := by rw [hl.len]; exact size32
  have HN : Hid (z.length = l.length) := hz.len.trans hl.len.symm
  generalize st l (place us k) = s at *
  clear hzw hl hz hr hh
  go_enter Try.func8, Try.ntmps8
  go_wp2_with (refine wpList_box l 31 rfl _ rfl rfl ?_)
  intro w1 m1
  go_wp2_with (refine wpList_alloc z 31 HZ.out rfl rfl ?_)
  intro w2 m2
  have z1 := m1.lt
  have z2 := m2.lt
  have b3 := m2.keep m1.box
  have HB3 := Hid.mk' (m2.below w.heap.size w (by omega) (m1.below _ _ (Nat.le_refl _) (Below.refl _ w)))
  go_wp2_with (refine wpList_load_box 31 31 l w.heap.size _ Try.underlying31 rfl HS.out b3 rfl _ rfl rfl ?_)
  refine (HC.out _).mono ?_
  rintro e w4 ⟨rfl, h4⟩
  have b4 := b3.later h4
  have r4 := m2.box.later h4
  have HB4 := Hid.mk' (HB3.out.trans (h4.mono (by omega)))
  have z4 := h4.size
  clear b3 h4 m1 m2
  go_wp2_with fail
  refine (HI.out _).mono ?_
  rintro e w5 ⟨rfl, rfl⟩
  go_wp2_with (refine wpList_load_box 31 31 l w.heap.size _ Try.underlying31 rfl HS.out b4 rfl _ rfl rfl ?_)
  refine (HST.out _).mono ?_
  rintro e w6 ⟨rfl, h6⟩
  have b6 := b4.later h6
  have r6 := r4.later h6
  have HB6 := Hid.mk' (HB4.out.trans (h6.mono (by omega)))
  have hle : w.heap.size ≤ w1.heap.size := by omega
  clear z1 z2 z4 h6 b4 r4
  go_wp2_with fail
  refine (HAS.out _).mono ?_
  rintro e w7 ⟨rfl, rfl⟩
  go_wp2_with (first | (refine wpList_load_box 31 31 l w.heap.size _ Try.underlying31 rfl HS.out b6 rfl _ rfl rfl ?_) | (refine wpList_store_box 31 31 z l w1.heap.size HS.out HL.out.one r6 HN.out rfl _ _ rfl rfl rfl ?_))
  intro w8 s8
  go_wp2
  exact ret_box3 Try.results8 31 l w1.heap.size _ Try.underlying31 rfl HS.out _ _ rfl rfl rfl s8.box rfl ⟨rfl, s8.below _ _ hle HB6.out⟩

set_option maxHeartbeats 4000000 in
theorem Want_ok (l : List Value) (hl : NegL l) (hr : right l = true) (us on : Bool) (k : Nat) (hk : k < 256) (w : World) (r1 r2 : Int) (hh : ask (st l (place us k)) on = (r1, r2, 0)) :
    Calls Try.prog 8 #[.agg l.toArray, .bool us, .int .i64 (k : Int), .bool on] w fun e w' => e = .returned (RNeg (putSt l us k r1) (word us r2 k) 0) ∧ Below w.heap.size w w' := by
  obtain ⟨z, hz, hzw⟩ := zero32
  have HZ := Hid.mk' hzw
  have HC := Hid.mk' (Check_any l hl)
  rw [hr] at HC
  have HI := Hid.mk' (isOption_any k)
  rw [show isOp k = true from decide_eq_true ⟨by omega, by omega⟩] at HI
  have hb := hl.byte (place_lt us hk)
  have hbd := ask_bd on hb.2.1 hb.2.2
  rw [hh] at hbd
  have HST := Hid.mk' (stateOf_any l hl us k hk)
  have HAS := Hid.mk' (Ask_any (st l (place us k)) on)
  rw [hh] at HAS
  unfold RAsk at HAS
  have HWS := Hid.mk' (withState_any l hl us k hk r1 hbd.1 hbd.2)
  have HSA := Hid.mk' (saying_any us r2 k hk)
  have HP := Hid.mk' (hl.put us hk hbd.1 hbd.2)
  have HS : Hid ((Try.prog.info? 31).map (·.size) = some l.length) := by rw [hl.len]; exact size32
  have HS' : Hid ((Try.prog.info? 31).map (·.size) = some (putSt l us k r1).length) := by rw [HP.out.len]; exact size32
  have HN : Hid (z.length = (putSt l us k r1).length) := hz.len.trans HP.out.len.symm
  generalize st l (place us k) = s at *
  generalize putSt l us k r1 = l' at *
  generalize word us r2 k = wd at *
  clear hzw hl hz hr hh hb hbd
  go_enter Try.func8, Try.ntmps8
  go_wp2_with (refine wpList_box l 31 rfl _ rfl rfl ?_)
  intro w1 m1
  go_wp2_with (refine wpList_alloc z 31 HZ.out rfl rfl ?_)
  intro w2 m2
  have z1 := m1.lt
  have z2 := m2.lt
  have b3 := m2.keep m1.box
  have HB3 := Hid.mk' (m2.below w.heap.size w (by omega) (m1.below _ _ (Nat.le_refl _) (Below.refl _ w)))
  go_wp2_with (refine wpList_load_box 31 31 l w.heap.size _ Try.underlying31 rfl HS.out b3 rfl _ rfl rfl ?_)
  refine (HC.out _).mono ?_
  rintro e w4 ⟨rfl, h4⟩
  have b4 := b3.later h4
  have r4 := m2.box.later h4
  have HB4 := Hid.mk' (HB3.out.trans (h4.mono (by omega)))
  have z4 := h4.size
  clear b3 h4 m1 m2
  go_wp2_with fail
  refine (HI.out _).mono ?_
  rintro e w5 ⟨rfl, rfl⟩
  go_wp2_with (refine wpList_load_box 31 31 l w.heap.size _ Try.underlying31 rfl HS.out b4 rfl _ rfl rfl ?_)
  refine (HST.out _).mono ?_
  rintro e w6 ⟨rfl, h6⟩
  have b6 := b4.later h6
  have r6 := r4.later h6
  have HB6 := Hid.mk' (HB4.out.trans (h6.mono (by omega)))
  have z6 := h6.size
  clear h6 b4 r4
  go_wp2_with fail
  refine (HAS.out _).mono ?_
  rintro e w7 ⟨rfl, rfl⟩
  go_wp2_with (refine wpList_load_box 31 31 l w.heap.size _ Try.underlying31 rfl HS.out b6 rfl _ rfl rfl ?_)
  refine (HWS.out _).mono ?_
  rintro e w8 ⟨rfl, h8⟩
  have r8 := r6.later h8
  have HB8 := Hid.mk' (HB6.out.trans (h8.mono (by omega)))
  have z8 := h8.size
  clear h8 b6 r6
  go_wp2_with fail
  refine (HSA.out _).mono ?_
  rintro e w9 ⟨rfl, h9⟩
  have r9 := r8.later h9
  have HB9 := Hid.mk' (HB8.out.trans (h9.mono (by omega)))
  have hle : w.heap.size ≤ w1.heap.size := by omega
  clear z1 z2 z4 z6 z8 h9 r8
  go_wp2_with (refine wpList_store_box 31 31 z l' w1.heap.size HS'.out HP.out.one r9 HN.out rfl _ _ rfl rfl rfl ?_)
  intro w10 s10
  go_wp2
  exact ret_box3 Try.results8 31 l' w1.heap.size _ Try.underlying31 rfl HS'.out _ _ rfl rfl rfl s10.box rfl ⟨rfl, s10.below _ _ hle HB9.out⟩

/-- what Want answers -/
def wantR (l : List Value) (us : Bool) (op : Int) (on : Bool) : List Value × List UInt8 × Int :=
  if right l = true then
    if isOp op = true then
      if (ask (st l (place us op.toNat)) on).2.2 = 0 then (putSt l us op.toNat (ask (st l (place us op.toNat)) on).1, word us (ask (st l (place us op.toNat)) on).2.1 op.toNat, 0)
      else (l, [], (ask (st l (place us op.toNat)) on).2.2)
    else (l, [], 1)
  else (l, [], 4)

theorem isOp_yes {op : Int} (h : isOp op = true) : op.toNat < 256 ∧ op = (op.toNat : Int) := by
  obtain ⟨a, b⟩ := of_decide_eq_true h
  omega

theorem Want_any (l : List Value) (hl : NegL l) (us : Bool) (op : Int) (on : Bool) (w : World) :
    Calls Try.prog 8 #[.agg l.toArray, .bool us, .int .i64 op, .bool on] w fun e w' => e = .returned (RNeg (wantR l us op on).1 (wantR l us op on).2.1 (wantR l us op on).2.2) ∧ Below w.heap.size w w' := by
  unfold wantR
  cases hr : right l with
  | false => exact Want_form l hl hr us on op w
  | true =>
    rw [if_pos rfl]
    cases hi : isOp op with
    | false => exact Want_arg l hl hr us on op hi w
    | true =>
      rw [if_pos rfl]
      obtain ⟨hk, ho⟩ := isOp_yes hi
      generalize op.toNat = k at *
      subst ho
      by_cases h0 : (ask (st l (place us k)) on).2.2 = 0
      · rw [if_pos h0]
        exact Want_ok l hl hr us on k hk w _ _ (by rw [← h0])
      · rw [if_neg h0]
        exact Want_err l hl hr us on k hk w _ _ _ rfl h0
end Go.Proofs.Ytfehlfjondelnab.Q
