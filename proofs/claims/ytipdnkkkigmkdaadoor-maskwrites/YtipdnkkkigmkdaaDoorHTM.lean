/-
  Contract of farref.TextMask; condition: a text of at most 2^60 bytes.
-/
import Derived.Test.YtipdnkkkigmkdaaDoorHRead
import Derived.BigQuiet
namespace Go.Proofs.YtipdnkkkigmkdaaDoor.H
open Go.RowKit Go.Lib Go.Proofs.YtipdnkkkigmkdaaDoor Go.Proofs.YtipdnkkkigmkdaaDoor.W Go.Proofs.YtipdnkkkigmkdaaDoor.Q

/-- the bit of a text -/
def bitT (l : List UInt8) (c : Nat) : Bool := (l.getD (c / 8) 0).toNat.testBit (7 - c % 8)
/-- the first n bits of a text -/
def tmN (l : List UInt8) : Nat → List Nat
  | 0 => noW
  | n + 1 => if bitT l n = true then setB (tmN l n) n else tmN l n
theorem tmN_zero (l : List UInt8) : tmN l 0 = noW := rfl
theorem tmN_succ (l : List UInt8) (n : Nat) : tmN l (n + 1) = if bitT l n = true then setB (tmN l n) n else tmN l n := rfl
theorem ok_tmN (l : List UInt8) : ∀ n, okW (tmN l n)
  | 0 => ok_noW
  | n + 1 => by
    rw [tmN_succ]
    split
    · exact ok_setB (ok_tmN l n) n
    · exact ok_tmN l n
theorem mem_tmN (l : List UInt8) (c : Nat) : ∀ n, n ≤ 256 → mem (tmN l n) c = (decide (c < n) && bitT l c)
  | 0, _ => by rw [tmN_zero, mem_no]; simp
  | n + 1, hn => by
    have ih := mem_tmN l c n (by omega)
    rw [tmN_succ]
    by_cases hb : bitT l n = true
    · rw [if_pos hb, mem_setB (ok_tmN l n) _ _ (by omega), ih]
      by_cases hc : c = n
      · subst hc; rw [hb]; simp
      · rw [decide_eq_false hc, Bool.or_false]
        congr 1
        exact decide_eq_decide.2 (by omega)
    · rw [if_neg hb, ih]
      by_cases hc : c = n
      · subst hc
        rw [Bool.not_eq_true] at hb
        rw [hb]; simp
      · congr 1
        exact decide_eq_decide.2 (by omega)
theorem tm_all (l : List UInt8) (h : l.length ≤ 32) : tmN l (8 * l.length) = readW l :=
  ext (ok_tmN l _) (ok_readW l) fun c hc => by
    rw [mem_tmN l c _ (by omega), mem_readW l c h]
    by_cases h1 : c < 8 * l.length
    · rw [decide_eq_true h1, Bool.true_and]; rfl
    · rw [decide_eq_false h1, Bool.false_and, getD_out _ _ (by omega)]
      simp
theorem wrap_add (x k : Nat) (hx : x < 18446744073709551616) (hk : k < 64) (hb : x.testBit k = false) : IntKind.u64.wrap ((x : Int) + 2 ^ k) = ((x ||| 2 ^ k : Nat) : Int) := by
  have ht := two_lt k hk
  have hand : BitVec.ofNat 64 x &&& BitVec.ofNat 64 (2 ^ k) = 0#64 := by
    apply BitVec.eq_of_getLsbD_eq
    intro i hi
    rw [BitVec.getLsbD_and, BitVec.getLsbD_ofNat, BitVec.getLsbD_ofNat, Nat.testBit_two_pow]
    by_cases e : k = i
    · subst e; simp [hb]
    · simp [e]
  have h := congrArg BitVec.toNat (BitVec.add_eq_or_of_and_eq_zero _ _ hand)
  rw [BitVec.toNat_add, BitVec.toNat_or, BitVec.toNat_ofNat, BitVec.toNat_ofNat, Nat.mod_eq_of_lt hx, Nat.mod_eq_of_lt ht] at h
  rw [cast_two, IntKind.wrap_u64, ← h]
  generalize 2 ^ k = y at *
  omega
theorem tm_free (l : List UInt8) (n : Nat) (hn : n < 256) : ((tmN l n).getD (n / 64) 0).testBit (n % 64) = false := by
  have h := mem_tmN l n n (by omega)
  rw [decide_eq_false (Nat.lt_irrefl n), Bool.false_and] at h
  exact h
theorem bit_form (l : List UInt8) (n : Nat) (h : n / 8 < l.length) : bitT l n = decide ((l[n / 8]'h).toNat / 2 ^ (7 - n % 8) % 2 = 1) := by
  unfold bitT
  rw [Nat.testBit_eq_decide_div_mod_eq, List.getD_eq_getElem?_getD, List.getElem?_eq_getElem h]
  rfl

theorem q_bit (b y : Nat) (hb : b < 256) : ((wrap64 ((b : Int) / (y : Int))).tmod 2 == 1) = decide (b / y % 2 = 1) := by
  have hd : b / y ≤ b := Nat.div_le_self _ _
  rw [show (b : Int) / (y : Int) = ((b / y : Nat) : Int) from (Int.natCast_ediv b y).symm]
  generalize b / y = z at *
  have e : wrap64 (z : Int) = (z : Int) := by unfold wrap64; omega
  rw [e, Int.tmod_eq_emod_of_nonneg (by omega)]
  by_cases hk : z % 2 = 1
  · rw [decide_eq_true hk]
    have : (z : Int) % 2 = 1 := by omega
    rw [this]; rfl
  · rw [decide_eq_false hk]
    exact beq_false_of_ne (by omega)

set_option maxHeartbeats 4000000 in
theorem TextMask_long (l : List UInt8) (hl : l.length ≤ 1152921504606846976) (h : 32 < l.length) (w : World) :
    Calls Tryd.prog 6 #[.string (bs l)] w fun e w' => e = .returned (RT (readT l)) ∧ Below w.heap.size w w' := by
  have e : readT l = (noW, 2) := by unfold readT; rw [if_neg (by omega)]
  rw [e]
  have hs := bs_size l
  have h' : (32 : Int) < (l.length : Int) := by omega
  have HR : Hid (RT (noW, 2) = .tuple #[.agg (ucells noW).toArray, .int .i64 2]) := rfl
  rw [HR.out]
  have HO := Hid.mk' (ucells_one noW)
  have HS := Hid.mk' (sizeMV ok_noW)
  have HZ := Hid.mk' zeroM
  generalize ucells noW = z at *
  generalize bs l = S at *
  go_enter Tryd.func6, Tryd.ntmps6
  go_wp2_with (refine wpList_alloc z 25 HZ.out rfl rfl ?_)
  intro w1 m1
  have z1 := m1.lt
  have HB1 := Hid.mk' (m1.below _ _ (Nat.le_refl _) (Below.refl _ w))
  go_wp2_with (refine wpList_alloc z 25 HZ.out rfl rfl ?_)
  intro w2 m2
  have b2 := m2.box
  have c2 := m2.keep m1.box
  have HB2 := Hid.mk' (m2.below w.heap.size w (by omega) HB1.out)
  clear m1 m2
  go_wp2_with (first | (with_reducible refine wpList_load_box 25 25 z w1.heap.size _ Tryd.underlying25 rfl HS.out b2 rfl _ rfl rfl ?_) | (refine wpList_store_box 25 25 z z w.heap.size HS.out HO.out c2 rfl rfl _ _ rfl rfl rfl ?_))
  intro w3 s3
  have b3 := s3.box
  have HB3 := Hid.mk' (s3.below w.heap.size w (Nat.le_refl _) HB2.out)
  clear s3
  go_wp2
  exact ret_box2 Tryd.results6 25 z w.heap.size _ Tryd.underlying25 rfl HS.out _ rfl rfl b3 rfl ⟨rfl, HB3.out⟩

def MS (w w1 : World) (l : List UInt8) (g : Nat) (s13 : Value) (wr : World) : Prop :=
  ∃ (n : Nat), n ≤ 8 * l.length ∧ 8 * l.length - n ≤ g ∧ s13 = .int .i64 (n : Int) ∧ Hid (Box wr w1.heap.size 25 (ucells (tmN l n))) ∧ Hid (∃ z : List Value, z.length = 4 ∧ Box wr w.heap.size 25 z) ∧ Hid (Below w.heap.size w wr)

set_option maxHeartbeats 4000000 in
set_option maxRecDepth 100000 in
theorem TextMask_short (l : List UInt8) (h : l.length ≤ 32) (w : World) :
    Calls Tryd.prog 6 #[.string (bs l)] w fun e w' => e = .returned (RT (readT l)) ∧ Below w.heap.size w w' := by
  have e : readT l = (tmN l (8 * l.length), 0) := by unfold readT; rw [if_pos h, tm_all l h]
  rw [e]
  clear e
  have hs := bs_size l
  have h' : ¬ (32 : Int) < (l.length : Int) := by omega
  have HV := Hid.mk' Two_any
  have HST : Hid (∀ w1 wr : World, Box wr w1.heap.size 25 (ucells noW) → (∃ z : List Value, z.length = 4 ∧ Box wr w.heap.size 25 z) → Below w.heap.size w wr → MS w w1 l (8 * l.length) (.int .i64 0) wr) := fun w1 wr h1 h2 h3 => ⟨0, Nat.zero_le _, by omega, rfl, h1, h2, h3⟩
  have HG : Hid (∀ (k : Nat) (h : k < l.length) (h2 : k < (bs l).size), (bs l)[k]'h2 = l[k]'h) := bs_get l
  generalize bs l = S at *
  go_enter Tryd.func6, Tryd.ntmps6
  go_wp2_with (refine wpList_alloc (ucells noW) 25 zeroM rfl rfl ?_)
  intro w1 m1
  have z1 := m1.lt
  go_wp2_with (refine wpList_alloc (ucells noW) 25 zeroM rfl rfl ?_)
  intro w2 m2
  have z2 := m2.lt
  have HST2 := Hid.mk' (HST.out w1 w2 m2.box ⟨_, rfl, m2.keep m1.box⟩ (m2.below _ _ (by omega) (m1.below _ _ (Nat.le_refl _) (Below.refl _ w))))
  clear m1 m2 HST
  go_wp2_with fail
  go_loopg [13] (8 * l.length) (fun g s13 wr => MS w w1 l g s13 wr)
  case atStart => exact HST2.out
  case round =>
    obtain ⟨n, hn, hg, rfl, HB, HZ, HBL⟩ := hrel
    clear HST2
    have HGK := Hid.mk' hg
    clear hg
    by_cases hlt : n < 8 * l.length
    · have hlt1 : n / 8 < l.length := by omega
      have hlt2 : n / 8 < S.size := by omega
      have hgt := HG.out (n / 8) hlt1 hlt2
      have HT := Hid.mk' (tmN_succ l n)
      have HBF := Hid.mk' (bit_form l n hlt1)
      have hok := ok_tmN l n
      have hfr := tm_free l n (by omega)
      have hb := (l[n / 8]'hlt1).toNat_lt
      have HV1 : Hid (∀ W, Calls Tryd.prog 16 #[.int .i64 (7 - (n : Int) % 8)] W fun e w' => e = .returned (.int .i64 ((2 ^ (7 - n % 8) : Nat) : Int)) ∧ w' = W) := fun W => by
        have h := HV.out (7 - n % 8) (by omega) W
        rw [show ((7 - n % 8 : Nat) : Int) = 7 - (n : Int) % 8 by omega] at h
        exact h
      have hy := Nat.two_pow_pos (7 - n % 8)
      generalize l[n / 8]'hlt1 = b at *
      generalize 2 ^ (7 - n % 8) = y at *
      have q1 : (0 : Int) ≤ (n : Int) / 8 := by omega
      have q2 : (n : Int) / 8 < (l.length : Int) := by omega
      have q3 : ((n : Int) / 8).toNat = n / 8 := by omega
      have q7 : (n : Int).tmod 8 = (n : Int) % 8 := Int.tmod_eq_emod_of_nonneg (by omega)
      have q8 : IntKind.i64.wrap (7 - (n : Int) % 8) = 7 - (n : Int) % 8 := by rw [IntKind.wrap_i64]; omega
      have q9 : IntKind.i64.wrap ((n : Int) / 8) = (n : Int) / 8 := by rw [IntKind.wrap_i64]; omega
      have q10 : IntKind.i64.wrap (b.toNat : Int) = (b.toNat : Int) := by rw [IntKind.wrap_i64]; omega
      have q11 : ¬ (y : Int) = 0 := by omega
      go_wp2_with fail
      go_quiet ((go_at_call 16; refine Calls.quiet_of_same (HV1.out _)))
      rw [q_bit b.toNat y (by omega), ← HBF.out]
      have HB2 := Hid.mk' (HB.out.kept (w' := wr.drewN nq) rfl)
      have HZ2 : Hid (∃ z : List Value, z.length = 4 ∧ Box (wr.drewN nq) w.heap.size 25 z) := by
        obtain ⟨z, hz, hb⟩ := HZ.out
        exact ⟨z, hz, hb.kept rfl⟩
      have HBL2 := Hid.mk' (below_drewN HBL.out nq)
      clear HB HZ HBL HBF HV1 hgt hb hy q1 q2 q3 q7 q8 q9 q10 q11
      generalize wr.drewN nq = wq at *
      cases hbt : bitT l n with
      | false =>
        rw [hbt, if_neg (by simp)] at HT
        rw [← HT.out] at HB2
        clear hok hfr HT
        go_wp2
        go_roundg (8 * l.length - (n + 1))
        case measure => have := HGK.out; omega
        case rel => exact ⟨n + 1, by omega, Nat.le_refl _, by go_num, HB2, HZ2, HBL2⟩
      | true =>
        rw [hbt, if_pos rfl] at HT
        generalize tmN l n = M at *
        have hc := HB2.out.cell (ucells_get M (n / 64) (by rw [hok.1]; omega))
        have hf := HB2.out.frozen (n / 64)
        have hx := hok.get (n / 64)
        have HM : Hid (setB M n = M.set (n / 64) (M.getD (n / 64) 0 ||| 2 ^ (n % 64))) := rfl
        have hw2 := wrap_add _ _ hx (Nat.mod_lt n (by omega)) hfr
        have hw1 := wrap_two (n % 64) (Nat.mod_lt n (by omega))
        have HF0 : Hid (∀ w3, w3 = (wq.setCell ⟨w1.heap.size, n / 64, none⟩ (.int .u64 ((M.getD (n / 64) 0 ||| 2 ^ (n % 64) : Nat) : Int))).drew → (Box w3 w1.heap.size 25 (ucells (tmN l (n + 1))) ∧ (∃ z : List Value, z.length = 4 ∧ Box w3 w.heap.size 25 z) ∧ Below w.heap.size w w3)) := fun w3 e3 => by
          subst e3
          refine ⟨?_, ?_, ?_⟩
          · rw [HT.out, HM.out, ucells_set]
            exact (HB2.out.setCell _ _).drew
          · obtain ⟨z, hz, hb⟩ := HZ2.out
            exact ⟨z, hz, (hb.kept (setCell_other _ _ _ _ (by omega))).drew⟩
          · exact (HBL2.out.setCell (p := ⟨w1.heap.size, n / 64, none⟩) (by show w.heap.size ≤ w1.heap.size; omega) _).drew
        clear HM HT HB2 HZ2 HBL2 hfr hbt
        generalize hR : ((M.getD (n / 64) 0 ||| 2 ^ (n % 64) : Nat) : Int) = R at *
        clear hR
        generalize M.getD (n / 64) 0 = x at *
        have q1 : (0 : Int) ≤ (n : Int) / 64 := by omega
        have q2 : (n : Int) / 64 < 4 := by omega
        have q3 : ((n : Int) / 64).toNat = n / 64 := by omega
        have q4 : ((n : Int) % 64).toNat = n % 64 := by omega
        have q5 : ¬ (n : Int) % 64 < 0 := by omega
        have q6 : min (n % 64) 64 = n % 64 := by omega
        have q7 : (n : Int).tmod 64 = (n : Int) % 64 := Int.tmod_eq_emod_of_nonneg (by omega)
        have q9 : IntKind.i64.wrap ((n : Int) / 64) = (n : Int) / 64 := by rw [IntKind.wrap_i64]; omega
        go_wp2_with fail
        go_region
        all_goals
          have HF := Hid.mk' (HF0.out _ rfl)
          clear hc hf HF0
          generalize (wq.setCell ⟨w1.heap.size, n / 64, none⟩ (.int .u64 R)).drew = w3 at *
          have F0 := Hid.mk' HF.out.1
          have FZ := Hid.mk' HF.out.2.1
          have FB := Hid.mk' HF.out.2.2
          clear HF
          go_wp2
          go_roundg (8 * l.length - (n + 1))
          case measure => have := HGK.out; omega
          case rel => exact ⟨n + 1, by omega, Nat.le_refl _, by go_num, F0, FZ, FB⟩
    · obtain rfl : n = 8 * l.length := by omega
      have hok := ok_tmN l (8 * l.length)
      obtain ⟨z, hz, hZ⟩ := HZ.out
      have HSZ := Hid.mk' (sizeMV hok)
      have HON := Hid.mk' (ucells_one (tmN l (8 * l.length)))
      have HLN : Hid ((ucells (tmN l (8 * l.length))).length = 4) := by rw [Hid, ucells_length, hok.1]
      have b0 := HB.out
      clear HV HG
      go_wp2_with (first | (with_reducible refine wpList_load_box 25 25 (ucells (tmN l (8 * l.length))) w1.heap.size _ Tryd.underlying25 rfl HSZ.out b0 rfl _ rfl rfl ?_) | (refine wpList_store_box 25 25 z (ucells (tmN l (8 * l.length))) w.heap.size HSZ.out HON.out hZ (by rw [hz, HLN.out]) rfl _ _ rfl rfl rfl ?_))
      intro w4 s4
      have HB4 := Hid.mk' (s4.below w.heap.size w (Nat.le_refl _) HBL.out)
      have b4 := s4.box
      clear s4
      go_wp2
      exact ret_box2 Tryd.results6 25 (ucells (tmN l (8 * l.length))) w.heap.size _ Tryd.underlying25 rfl HSZ.out _ rfl rfl b4 rfl ⟨rfl, HB4.out⟩

theorem TextMask_any (l : List UInt8) (hl : l.length ≤ 1152921504606846976) (w : World) :
    Calls Tryd.prog 6 #[.string (bs l)] w fun e w' => e = .returned (RT (readT l)) ∧ Below w.heap.size w w' := by
  by_cases h : l.length ≤ 32
  · exact TextMask_short l h w
  · exact TextMask_long l hl (by omega) w
end Go.Proofs.YtipdnkkkigmkdaaDoor.H
