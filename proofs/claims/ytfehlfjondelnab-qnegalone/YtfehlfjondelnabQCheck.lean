/-
  Contracts of qneg.Check and qneg.mayBeOn: a Neg of whatever cells; condition of mayBeOn: the option is from 0 to 255.
-/
import Derived.Test.YtfehlfjondelnabQNeg
import Derived.Laws.Bits64b
namespace Go.Proofs.Ytfehlfjondelnab.Q
open Go.RowKit Go.Proofs.Ytfehlfjondelnab

theorem isSt_yes {s : Int} (h0 : 0 ≤ s) (h : s ≤ 5) : isSt s = true := decide_eq_true ⟨h0, h⟩
theorem isSt_no {s : Int} (h : 5 < s) : isSt s = false := decide_eq_false (by omega)

set_option maxHeartbeats 4000000 in
theorem Check_any (l : List Value) (hl : NegL l) (w : World) :
    Calls Try.prog 13 #[.agg l.toArray] w fun e w' => e = .returned (.int .i64 (if right l = true then 0 else 4)) ∧ Below w.heap.size w w' := by
  have HS := Hid.mk' isState_any
  have HL := Hid.mk' hl
  have HY : Hid (∀ j, j < 512 → 5 < st l j → (if right l = true then (0 : Int) else 4) = 4) := fun j hj h => by rw [right_no hj h]; rfl
  have HN : Hid ((∀ j, j < 256 → st l j ≤ 5 ∧ st l (256 + j) ≤ 5) → (if right l = true then (0 : Int) else 4) = 0) := fun h => by rw [right_mk h]; rfl
  generalize (if right l = true then (0 : Int) else 4) = R at *
  clear hl
  go_enter Try.func13, Try.ntmps13
  go_wp2_with (refine wpList_box l 31 rfl _ rfl rfl ?_)
  intro w1 m1
  have HM := Hid.mk' m1
  have HL1 := Hid.mk' (m1.below _ _ (Nat.le_refl _) (Below.refl _ w))
  clear m1
  go_wp2_with fail
  go_loopw [4] (fun s4 wr => ∃ k : Nat, k ≤ 256 ∧ s4 = .int .i64 (k : Int) ∧ (∀ j, j < k → st l j ≤ 5 ∧ st l (256 + j) ≤ 5) ∧ wr = w1) (fun i _ => 256 - (RowKit.intOf i).toNat)
  case atStart => exact ⟨0, Nat.zero_le _, rfl, fun a h => absurd h (Nat.not_lt_zero a), rfl⟩
  case round =>
    obtain ⟨k, hk, rfl, hno, rfl⟩ := hrel
    have HO := Hid.mk' hno
    clear hno
    by_cases hlt : k < 256
    · have k0 : (0 : Int) ≤ (k : Int) := by omega
      have k1 : (k : Int) < 256 := by omega
      obtain ⟨c1, a0, a1⟩ := HL.out.byte (show k < 512 by omega)
      obtain ⟨c2, b0, b1⟩ := HL.out.byte (show 256 + k < 512 by omega)
      have e1 := HM.out.box.cell c1
      have e2 := HM.out.box.cell c2
      clear c1 c2
      by_cases h1 : st l k ≤ 5
      · by_cases h2 : st l (256 + k) ≤ 5
        · have H1 := Hid.mk' (HS.out (st l k) wr)
          have H2 := Hid.mk' (HS.out (st l (256 + k)) wr)
          rw [isSt_yes a0 h1] at H1
          rw [isSt_yes b0 h2] at H2
          have HO2 : Hid (∀ j, j < k + 1 → st l j ≤ 5 ∧ st l (256 + j) ≤ 5) := fun j hj => by
            by_cases e : j = k
            · subst e; exact ⟨h1, h2⟩
            · exact HO.out j (by omega)
          clear HY HN HS HO h1 h2
          generalize st l k = x at *
          generalize st l (256 + k) = y at *
          go_wp2_with fail
          refine H1.out.mono ?_
          rintro e w2 ⟨rfl, rfl⟩
          go_wp2_with fail
          refine H2.out.mono ?_
          rintro e w2 ⟨rfl, rfl⟩
          go_wp2
          go_roundw
          case rel => exact ⟨k + 1, by omega, by go_num, HO2.out, trivial⟩
          case measure => simp [RowKit.intOf]; omega
        · have e : R = 4 := HY.out (256 + k) (by omega) (by omega)
          subst e
          have H1 := Hid.mk' (HS.out (st l k) wr)
          have H2 := Hid.mk' (HS.out (st l (256 + k)) wr)
          rw [isSt_yes a0 h1] at H1
          rw [isSt_no (by omega)] at H2
          clear HY HN HS HO h1 h2
          generalize st l k = x at *
          generalize st l (256 + k) = y at *
          go_wp2_with fail
          refine H1.out.mono ?_
          rintro e w2 ⟨rfl, rfl⟩
          go_wp2_with fail
          refine H2.out.mono ?_
          rintro e w2 ⟨rfl, rfl⟩
          go_wp2
          go_ret
          exact ⟨rfl, HL1.out⟩
      · have e : R = 4 := HY.out k (by omega) (by omega)
        subst e
        have H1 := Hid.mk' (HS.out (st l k) wr)
        rw [isSt_no (by omega)] at H1
        clear HY HN HS HO h1
        generalize st l k = x at *
        go_wp2_with fail
        refine H1.out.mono ?_
        rintro e w2 ⟨rfl, rfl⟩
        go_wp2
        go_ret
        exact ⟨rfl, HL1.out⟩
    · obtain rfl : k = 256 := by omega
      have e : R = 0 := HN.out HO.out
      subst e
      clear HY HN HS HO
      go_wp2
      go_ret
      exact ⟨rfl, HL1.out⟩

theorem info30 : (Try.prog.info? 29).map (fun i => (i.zero, i.size)) = some (some (.agg (List.replicate 4 (Value.int .u64 0)).toArray), 4) := by kernel_rfl
theorem size30 : (Try.prog.info? 29).map (·.size) = some 4 := (zero_of_info info30).2
theorem zero30 : ∃ z : List Value, z.length = 4 ∧ ∀ w, (zeroValue 29).run Try.prog w = .ok (.agg z.toArray) w := ⟨_, by simp, (zero_of_info info30).1⟩

/-- the words of a set -/
def setOf (l : List Value) (us : Bool) : List Value := (l.drop (if us then 512 else 516)).take 4
theorem setOf_len {l : List Value} (hl : NegL l) (us : Bool) : (setOf l us).length = 4 := by
  have := hl.len
  unfold setOf
  rw [List.length_take, List.length_drop]
  split <;> omega
theorem setOf_one {l : List Value} (hl : NegL l) (us : Bool) : ∀ v ∈ setOf l us, v.oneCell' = true := fun v hv => hl.one v (List.mem_of_mem_drop (List.mem_of_mem_take hv))
theorem setOf_get {l : List Value} (hl : NegL l) (us : Bool) {j : Nat} (hj : j < 4) : ∃ x : Nat, x < 18446744073709551616 ∧ (setOf l us)[j]? = some (.int .u64 (x : Int)) ∧ (st l ((if us then 512 else 516) + j)).toNat = x := by
  have hw := hl.word (j := (if us then 512 else 516) + j) (by split <;> omega) (by split <;> omega)
  obtain ⟨e, h0, h1⟩ := hw
  refine ⟨(st l ((if us then 512 else 516) + j)).toNat, by omega, ?_, rfl⟩
  unfold setOf
  rw [List.getElem?_take, if_pos hj, List.getElem?_drop, e, Int.toNat_of_nonneg h0]

theorem bit_may (x s : Nat) (hx : x < 18446744073709551616) : (bits .and .u64 ((x : Int) / 2 ^ s) 1 == 1) = x.testBit s := by
  have e : (x : Int) / 2 ^ s = ((x / 2 ^ s : Nat) : Int) := by rw [Int.natCast_ediv]; rfl
  have hd : x / 2 ^ s ≤ x := Nat.div_le_self _ _
  have hb := bits_and_u64_nat (x / 2 ^ s) 1 (by omega) (by omega)
  rw [show ((1 : Nat) : Int) = 1 from rfl] at hb
  rw [e, hb, Nat.and_one_is_mod, Nat.testBit_eq_decide_div_mod_eq]
  have h2 : x / 2 ^ s % 2 = 0 ∨ x / 2 ^ s % 2 = 1 := by omega
  rcases h2 with h2 | h2 <;> simp [h2]

set_option maxHeartbeats 4000000 in
theorem mayBeOn_any (l : List Value) (hl : NegL l) (us : Bool) (k : Nat) (hk : k < 256) (w : World) :
    Calls Try.prog 17 #[.agg l.toArray, .bool us, .int .i64 (k : Int)] w fun e w' => e = .returned (.bool (may l us k)) ∧ Below w.heap.size w w' := by
  obtain ⟨z, hz, hzw⟩ := zero30
  have HZ := Hid.mk' hzw
  have k0 : (0 : Int) ≤ (k : Int) := by omega
  have k1 : (k : Int) < 256 := by omega
  obtain ⟨x, hx, hg, he⟩ := setOf_get hl us (j := k / 64) (by omega)
  have HG := Hid.mk' hg
  have H4 := Hid.mk' (setOf_len hl)
  have H5 := Hid.mk' (setOf_one hl)
  have hlen := hl.len
  have HN : Hid (z.length = (setOf l false).length) := by rw [H4.out]; exact hz
  have HM : Hid ((setOf l false).length = (setOf l true).length) := (H4.out _).trans (H4.out _).symm
  have HI : Hid (∀ us, (Try.prog.info? 29).map (·.size) = some (setOf l us).length) := fun us => by rw [H4.out]; exact size30
  clear hzw hz hg
  unfold may
  rw [he, ← bit_may x _ hx]
  clear he
  cases us with
  | false =>
    go_enter Try.func17, Try.ntmps17
    go_wp2_with (refine wpList_box l 31 rfl _ rfl rfl ?_)
    intro w1 m1
    go_wp2_with (first | (refine wpList_load_part 29 31 l w.heap.size 516 4 _ Try.underlying29 rfl size30 m1.box (by omega) rfl _ rfl rfl ?_) | (refine wpList_alloc z 29 HZ.out rfl rfl ?_))
    intro w2 m2
    go_wp2_with (refine wpList_store_box 29 29 z (setOf l false) w1.heap.size (HI.out _) (H5.out _) m2.box HN.out rfl _ _ rfl rfl rfl ?_)
    intro w3 s3
    have hcell := s3.box.cell HG.out
    have z1 := m1.size
    have HB := Hid.mk' (s3.below w.heap.size w (by omega) (m2.below _ _ (by omega) (m1.below _ _ (Nat.le_refl _) (Below.refl _ w))))
    clear z1 m1 m2 s3
    go_wp2
    go_ret
    exact ⟨rfl, HB.out⟩
  | true =>
    go_enter Try.func17, Try.ntmps17
    go_wp2_with (refine wpList_box l 31 rfl _ rfl rfl ?_)
    intro w1 m1
    go_wp2_with (first | (refine wpList_load_part 29 31 l w.heap.size 516 4 _ Try.underlying29 rfl size30 m1.box (by omega) rfl _ rfl rfl ?_) | (refine wpList_alloc z 29 HZ.out rfl rfl ?_))
    intro w2 m2
    go_wp2_with (refine wpList_store_box 29 29 z (setOf l false) w1.heap.size (HI.out _) (H5.out _) m2.box HN.out rfl _ _ rfl rfl rfl ?_)
    intro w3 s3
    have z1 := m1.size
    have b3 := s3.keep (m2.keep m1.box) (by omega)
    go_wp2_with (first | (refine wpList_load_part 29 31 l w.heap.size 512 4 _ Try.underlying29 rfl size30 b3 (by omega) rfl _ rfl rfl ?_) | (refine wpList_store_box 29 29 (setOf l false) (setOf l true) w1.heap.size (HI.out _) (H5.out _) s3.box HM.out rfl _ _ rfl rfl rfl ?_))
    intro w4 s4
    have hcell := s4.box.cell HG.out
    have HB := Hid.mk' (s4.below w.heap.size w (by omega) (s3.below w.heap.size w (by omega) (m2.below _ _ (by omega) (m1.below _ _ (Nat.le_refl _) (Below.refl _ w)))))
    clear z1 m1 m2 s3 s4 b3
    go_wp2
    go_ret
    exact ⟨rfl, HB.out⟩
end Go.Proofs.Ytfehlfjondelnab.Q
