/-
  Contract of farref.runeValue and farref.Whole: by trying, whether bytes are a rune's; conditions: for runeValue one byte to four; for Whole none but a size below 2^40.
-/
import Derived.Test.YtneiiinheimglaaGreatDoorJ9
import Derived.Test.YtneiiinheimglaaGreatDoorJ19
namespace Go.Proofs.YtneiiinheimglaaGreatDoor.U
open Go.RowKit Go.Lib Go.Proofs.YtneiiinheimglaaGreatDoor

theorem val_step (m : Nat) (L : List UInt8) (k : Nat) (h1 : 1 ≤ k) (hk : k < L.length) : val m (L.take (k + 1)) = 64 * val m (L.take k) + L[k].toNat % 64 := by
  cases L with
  | nil => simp at hk
  | cons a t =>
    obtain ⟨j, rfl⟩ : ∃ j, k = j + 1 := ⟨k - 1, by omega⟩
    have hj : j < t.length := by simpa using hk
    simp only [List.take_succ_cons, val, List.getElem_cons_succ]
    rw [List.take_succ_eq_append_getElem hj, List.foldl_append]
    rfl

def small (k c : Nat) : Prop := (k = 1 ∧ c < 128) ∨ (k = 2 ∧ c < 8192) ∨ (k = 3 ∧ c < 524288) ∨ (k = 4 ∧ c < 33554432)

def VState (L : List UInt8) (m : Nat) (w : World) (s5 s6 : Value) (wr : World) : Prop :=
  ∃ k : Nat, 1 ≤ k ∧ k ≤ L.length ∧ s6 = .int .i64 (k : Int) ∧ s5 = .int .i64 (val m (L.take k) : Int) ∧ small k (val m (L.take k)) ∧ conts (L.take k) ∧ wr = w

theorem val_one (m : Nat) (L : List UInt8) (h : 1 ≤ L.length) : val m (L.take 1) = nth L 0 % m := by
  cases L with
  | nil => simp at h
  | cons a t => rfl
theorem conts_one (L : List UInt8) : conts (L.take 1) := by
  cases L with
  | nil => intro b hb; simp at hb
  | cons a t => intro b hb; simp at hb
theorem conts_step (L : List UInt8) (k : Nat) (h1 : 1 ≤ k) (hk : k < L.length) (h : conts (L.take k)) (hb : L[k].toNat / 64 = 2) : conts (L.take (k + 1)) := by
  cases L with
  | nil => simp at hk
  | cons a t =>
    obtain ⟨j, rfl⟩ : ∃ j, k = j + 1 := ⟨k - 1, by omega⟩
    have hj : j < t.length := by simpa using hk
    simp only [List.getElem_cons_succ] at hb
    intro b hm
    simp only [List.take_succ_cons, List.tail_cons] at hm h
    rw [List.take_succ_eq_append_getElem hj, List.mem_append] at hm
    rcases hm with hm | hm
    · exact h b (by simpa using hm)
    · simp only [List.mem_singleton] at hm
      rw [hm]; exact hb
theorem conts_not (L : List UInt8) (k : Nat) (h1 : 1 ≤ k) (hk : k < L.length) (h4 : L.length ≤ 4) (hb : L[k].toNat / 64 ≠ 2) : whole L = false := by
  cases hw : whole L with
  | false => rfl
  | true =>
    exfalso
    rw [whole_more (by omega)] at hw
    have hlo := lo_ge (nth L 0)
    have hhi : hi (nth L 0) ≤ 191 := by unfold hi; (repeat' split) <;> omega
    have e : nth L k = L[k].toNat := by simp [nth, List.getD, hk]
    rcases (by omega : k = 1 ∨ k = 2 ∨ k = 3) with rfl | rfl | rfl
    · omega
    · omega
    · omega

set_option maxHeartbeats 8000000 in
set_option maxRecDepth 100000 in
theorem runeValue_1 (S : ByteArray) (L : List UInt8) (w : World) (hn : L.length = 1) (hsz : S.size = 1) (HSL : Hid (S = ⟨L.toArray⟩)) (HG : Hid (∀ k (h : k < L.length) (h2 : k < S.size), S[k] = L[k])) :
    Calls Tryz.prog 28 #[.string S] w fun e w' => ∃ c : Int, e = .returned (.tuple #[.int .i64 c, .bool (whole L)]) ∧ (whole L = true → c = ((dec L).1 : Int)) ∧ Below w.heap.size w w' := by
  have e0 : S[0]'(by omega) = L[0]'(by omega) := HG.out 0 (by omega) (by omega)
  have en : (L[0]'(by omega)).toNat = nth L 0 := by
    have : 0 < L.length := by omega
    simp [nth, List.getD, this]
  have l0 := nth_lt L 0
  have HS : Hid (VState L 128 (w.alloc (.cells #[.int .i64 0, .int .i64 128, .int .i64 64, .int .i64 32, .int .i64 16] 3)) (.int .i64 ((nth L 0 : Int) % 128)) (.int .i64 1) (w.alloc (.cells #[.int .i64 0, .int .i64 128, .int .i64 64, .int .i64 32, .int .i64 16] 3))) :=
    ⟨1, by omega, by omega, rfl, by rw [val_one _ _ (by omega)]; rfl, .inl ⟨rfl, by rw [val_one _ _ (by omega)]; omega⟩, conts_one L, rfl⟩
  have HW : Hid (conts L → (whole L = true ↔ (isRune (val 128 L) ∧ encodeRune (val 128 L : Nat) = L)) ∧ (whole L = true → (dec L).1 = val 128 L)) := fun hc => by
    have := whole_val (s := L) (by omega) (by omega) hc
    rw [hn] at this
    exact this
  have hB0 : Below w.heap.size w (w.alloc (.cells #[.int .i64 0, .int .i64 128, .int .i64 64, .int .i64 32, .int .i64 16] 3)) := (Below.refl _ _).alloc (Nat.le_refl _) _
  have HB0 := Hid.mk' hB0
  clear hB0
  rw [← en] at HS
  generalize hL0 : L[0]'(by omega) = x0 at e0 HS
  clear hL0 en l0
  have l0 := x0.toNat_lt
  go_enter Tryz.func28, Tryz.ntmps28
  go_wp2_with fail
  go_loopw [5, 6] (fun s5 s6 wr => VState L 128 (w.alloc (.cells #[.int .i64 0, .int .i64 128, .int .i64 64, .int .i64 32, .int .i64 16] 3)) s5 s6 wr) (fun _ i _ => 1 - (RowKit.intOf i).toNat)
  case atStart => exact HS.out
  case round =>
    obtain ⟨k, hk1, hkl, rfl, rfl, hsm, hct, hwr⟩ := hrel
    clear HS
    generalize w.alloc (.cells #[.int .i64 0, .int .i64 128, .int .i64 64, .int .i64 32, .int .i64 16] 3) = wa at *
    subst hwr
    by_cases hlt : k < L.length
    · omega
    · obtain rfl : k = L.length := by omega
      rw [List.take_length] at hsm hct
      rw [List.take_length]
      have hvb : val 128 L < 33554432 := by unfold small at hsm; omega
      have HW2 := Hid.mk' (HW.out hct)
      have HRN := Hid.mk' (Rune_any (val 128 L : Int) wr)
      clear hsm hct HW
      cases hr : runeZ (val 128 L : Int) with
      | false =>
        rw [hr] at HRN
        have hwf : whole L = false := by
          cases hw : whole L with
          | false => rfl
          | true =>
            have := (HW2.out.1.1 hw).1
            simp only [runeZ, decide_eq_false_iff_not] at hr
            unfold isRune at this
            omega
        have HWF := Hid.mk' hwf
        clear hwf hr
        go_wp2_with fail
        refine HRN.out.mono ?_
        rintro e w4 ⟨rfl, rfl⟩
        go_wp2
        exact bodyPost_ret (v := .tuple #[.int .i64 ((val 128 L : Int)), .bool false]) (by simp [results, Tryz.results28, go_sem]) rfl ⟨_, by rw [HWF.out], (fun h => by rw [HWF.out] at h; cases h), HB0.out⟩
      | true =>
        rw [hr] at HRN
        have hir : isRune (val 128 L) := by
          simp only [runeZ, decide_eq_true_eq] at hr
          unfold isRune; omega
        have HRB := Hid.mk' (RuneBytes_any (val 128 L) wr hir)
        clear hr
        by_cases heq : encodeRune (val 128 L : Int) = L
        · have HWT := Hid.mk' (HW2.out.1.2 ⟨hir, heq⟩)
          rw [heq, ← HSL.out] at HRB
          have HVD : Hid ((val 128 L : Int) = ((dec L).1 : Int)) := by
            show _ = _
            rw [HW2.out.2 HWT.out]
          clear hir heq
          generalize (val 128 L : Int) = vv at *
          go_wp2_with fail
          refine HRN.out.mono ?_
          rintro e w4 ⟨rfl, rfl⟩
          go_wp2_with fail
          refine HRB.out.mono ?_
          rintro e w5 ⟨rfl, hb5⟩
          have HB5 : Hid (Below w.heap.size w w5) := HB0.out.trans (hb5.mono HB0.out.size)
          clear hb5
          go_wp2
          exact bodyPost_ret (v := .tuple #[.int .i64 (vv), .bool true]) (by simp [results, Tryz.results28, go_sem]) rfl ⟨_, by rw [HWT.out], fun _ => HVD.out, HB5.out⟩
        · have HWF : Hid (whole L = false) := by
            cases hw : whole L with
            | false => rfl
            | true => exact absurd (HW2.out.1.1 hw).2 heq
          have hne : ¬ (⟨(encodeRune (val 128 L : Int)).toArray⟩ : ByteArray).toList = S.toList := fun e => heq (by
            rw [HSL.out, Lib.toList_data, Lib.toList_data] at e
            simpa using e)
          clear hir heq
          generalize (⟨(encodeRune (val 128 L : Int)).toArray⟩ : ByteArray) = SR at *
          generalize (val 128 L : Int) = vv at *
          go_wp2_with fail
          refine HRN.out.mono ?_
          rintro e w4 ⟨rfl, rfl⟩
          go_wp2_with fail
          refine HRB.out.mono ?_
          rintro e w5 ⟨rfl, hb5⟩
          have HB5 : Hid (Below w.heap.size w w5) := HB0.out.trans (hb5.mono HB0.out.size)
          clear hb5
          go_wp2
          exact bodyPost_ret (v := .tuple #[.int .i64 (vv), .bool false]) (by simp [results, Tryz.results28, go_sem, hne]) rfl ⟨_, by rw [HWF.out], (fun h => by rw [HWF.out] at h; cases h), HB5.out⟩

set_option maxHeartbeats 8000000 in
set_option maxRecDepth 100000 in
theorem runeValue_2 (S : ByteArray) (L : List UInt8) (w : World) (hn : L.length = 2) (hsz : S.size = 2) (HSL : Hid (S = ⟨L.toArray⟩)) (HG : Hid (∀ k (h : k < L.length) (h2 : k < S.size), S[k] = L[k])) :
    Calls Tryz.prog 28 #[.string S] w fun e w' => ∃ c : Int, e = .returned (.tuple #[.int .i64 c, .bool (whole L)]) ∧ (whole L = true → c = ((dec L).1 : Int)) ∧ Below w.heap.size w w' := by
  have e0 : S[0]'(by omega) = L[0]'(by omega) := HG.out 0 (by omega) (by omega)
  have en : (L[0]'(by omega)).toNat = nth L 0 := by
    have : 0 < L.length := by omega
    simp [nth, List.getD, this]
  have l0 := nth_lt L 0
  have HS : Hid (VState L 64 (w.alloc (.cells #[.int .i64 0, .int .i64 128, .int .i64 64, .int .i64 32, .int .i64 16] 3)) (.int .i64 ((nth L 0 : Int) % 64)) (.int .i64 1) (w.alloc (.cells #[.int .i64 0, .int .i64 128, .int .i64 64, .int .i64 32, .int .i64 16] 3))) :=
    ⟨1, by omega, by omega, rfl, by rw [val_one _ _ (by omega)]; rfl, .inl ⟨rfl, by rw [val_one _ _ (by omega)]; omega⟩, conts_one L, rfl⟩
  have HW : Hid (conts L → (whole L = true ↔ (isRune (val 64 L) ∧ encodeRune (val 64 L : Nat) = L)) ∧ (whole L = true → (dec L).1 = val 64 L)) := fun hc => by
    have := whole_val (s := L) (by omega) (by omega) hc
    rw [hn] at this
    exact this
  have hB0 : Below w.heap.size w (w.alloc (.cells #[.int .i64 0, .int .i64 128, .int .i64 64, .int .i64 32, .int .i64 16] 3)) := (Below.refl _ _).alloc (Nat.le_refl _) _
  have HB0 := Hid.mk' hB0
  clear hB0
  rw [← en] at HS
  generalize hL0 : L[0]'(by omega) = x0 at e0 HS
  clear hL0 en l0
  have l0 := x0.toNat_lt
  go_enter Tryz.func28, Tryz.ntmps28
  go_wp2_with fail
  go_loopw [5, 6] (fun s5 s6 wr => VState L 64 (w.alloc (.cells #[.int .i64 0, .int .i64 128, .int .i64 64, .int .i64 32, .int .i64 16] 3)) s5 s6 wr) (fun _ i _ => 2 - (RowKit.intOf i).toNat)
  case atStart => exact HS.out
  case round =>
    obtain ⟨k, hk1, hkl, rfl, rfl, hsm, hct, hwr⟩ := hrel
    clear HS
    generalize w.alloc (.cells #[.int .i64 0, .int .i64 128, .int .i64 64, .int .i64 32, .int .i64 16] 3) = wa at *
    subst hwr
    by_cases hlt : k < L.length
    · have hks : (k : Int) < 2 := by omega
      have hk2 : k < S.size := by omega
      have ek := HG.out k hlt hk2
      have hstep := val_step 64 L k hk1 hlt
      have HCS := Hid.mk' (conts_step L k hk1 hlt hct)
      have HCN := Hid.mk' (conts_not L k hk1 hlt (by omega))
      generalize hLk : L[k] = x at *
      clear hLk
      have lx := x.toNat_lt
      by_cases hx : x.toNat / 64 = 2
      · have hx' : (x.toNat : Int) / 64 = 2 := by omega
        have hsm2 : small (k + 1) (val 64 (L.take (k + 1))) := by
          rw [hstep]; unfold small at hsm ⊢; omega
        have HV : Hid (((val 64 (L.take (k + 1)) : Nat) : Int) = 64 * (val 64 (L.take k) : Int) + (x.toNat : Int) % 64) := by
          show _ = _
          rw [hstep]; omega
        have hvb : (val 64 (L.take k) : Int) < 33554432 := by unfold small at hsm; omega
        have hvp : (0 : Int) ≤ (val 64 (L.take k) : Int) := by omega
        have HSM := Hid.mk' hsm2
        have HC2 := Hid.mk' (HCS.out hx)
        clear hsm2 hsm hstep HCN HCS hct
        generalize hvv : (val 64 (L.take k) : Int) = vk at *
        clear hvv
        go_wp2
        go_roundw
        case rel => exact ⟨k + 1, by omega, by omega, by go_num, by rw [HV.out], HSM.out, HC2.out, rfl⟩
        case measure => simp [RowKit.intOf]; omega
      · have hx' : ((x.toNat : Int) / 64 == 2) = false := by rw [beq_eq_false_iff_ne]; omega
        have HWF := Hid.mk' (HCN.out hx)
        clear HCN HCS hstep
        go_wp2
        exact bodyPost_ret (v := .tuple #[.int .i64 (0), .bool false]) (by simp [results, Tryz.results28, go_sem]) rfl ⟨0, by rw [HWF.out], (fun h => by rw [HWF.out] at h; cases h), HB0.out⟩
    · obtain rfl : k = L.length := by omega
      rw [List.take_length] at hsm hct
      rw [List.take_length]
      have hvb : val 64 L < 33554432 := by unfold small at hsm; omega
      have HW2 := Hid.mk' (HW.out hct)
      have HRN := Hid.mk' (Rune_any (val 64 L : Int) wr)
      clear hsm hct HW
      cases hr : runeZ (val 64 L : Int) with
      | false =>
        rw [hr] at HRN
        have hwf : whole L = false := by
          cases hw : whole L with
          | false => rfl
          | true =>
            have := (HW2.out.1.1 hw).1
            simp only [runeZ, decide_eq_false_iff_not] at hr
            unfold isRune at this
            omega
        have HWF := Hid.mk' hwf
        clear hwf hr
        go_wp2_with fail
        refine HRN.out.mono ?_
        rintro e w4 ⟨rfl, rfl⟩
        go_wp2
        exact bodyPost_ret (v := .tuple #[.int .i64 ((val 64 L : Int)), .bool false]) (by simp [results, Tryz.results28, go_sem]) rfl ⟨_, by rw [HWF.out], (fun h => by rw [HWF.out] at h; cases h), HB0.out⟩
      | true =>
        rw [hr] at HRN
        have hir : isRune (val 64 L) := by
          simp only [runeZ, decide_eq_true_eq] at hr
          unfold isRune; omega
        have HRB := Hid.mk' (RuneBytes_any (val 64 L) wr hir)
        clear hr
        by_cases heq : encodeRune (val 64 L : Int) = L
        · have HWT := Hid.mk' (HW2.out.1.2 ⟨hir, heq⟩)
          rw [heq, ← HSL.out] at HRB
          have HVD : Hid ((val 64 L : Int) = ((dec L).1 : Int)) := by
            show _ = _
            rw [HW2.out.2 HWT.out]
          clear hir heq
          generalize (val 64 L : Int) = vv at *
          go_wp2_with fail
          refine HRN.out.mono ?_
          rintro e w4 ⟨rfl, rfl⟩
          go_wp2_with fail
          refine HRB.out.mono ?_
          rintro e w5 ⟨rfl, hb5⟩
          have HB5 : Hid (Below w.heap.size w w5) := HB0.out.trans (hb5.mono HB0.out.size)
          clear hb5
          go_wp2
          exact bodyPost_ret (v := .tuple #[.int .i64 (vv), .bool true]) (by simp [results, Tryz.results28, go_sem]) rfl ⟨_, by rw [HWT.out], fun _ => HVD.out, HB5.out⟩
        · have HWF : Hid (whole L = false) := by
            cases hw : whole L with
            | false => rfl
            | true => exact absurd (HW2.out.1.1 hw).2 heq
          have hne : ¬ (⟨(encodeRune (val 64 L : Int)).toArray⟩ : ByteArray).toList = S.toList := fun e => heq (by
            rw [HSL.out, Lib.toList_data, Lib.toList_data] at e
            simpa using e)
          clear hir heq
          generalize (⟨(encodeRune (val 64 L : Int)).toArray⟩ : ByteArray) = SR at *
          generalize (val 64 L : Int) = vv at *
          go_wp2_with fail
          refine HRN.out.mono ?_
          rintro e w4 ⟨rfl, rfl⟩
          go_wp2_with fail
          refine HRB.out.mono ?_
          rintro e w5 ⟨rfl, hb5⟩
          have HB5 : Hid (Below w.heap.size w w5) := HB0.out.trans (hb5.mono HB0.out.size)
          clear hb5
          go_wp2
          exact bodyPost_ret (v := .tuple #[.int .i64 (vv), .bool false]) (by simp [results, Tryz.results28, go_sem, hne]) rfl ⟨_, by rw [HWF.out], (fun h => by rw [HWF.out] at h; cases h), HB5.out⟩

set_option maxHeartbeats 8000000 in
set_option maxRecDepth 100000 in
theorem runeValue_3 (S : ByteArray) (L : List UInt8) (w : World) (hn : L.length = 3) (hsz : S.size = 3) (HSL : Hid (S = ⟨L.toArray⟩)) (HG : Hid (∀ k (h : k < L.length) (h2 : k < S.size), S[k] = L[k])) :
    Calls Tryz.prog 28 #[.string S] w fun e w' => ∃ c : Int, e = .returned (.tuple #[.int .i64 c, .bool (whole L)]) ∧ (whole L = true → c = ((dec L).1 : Int)) ∧ Below w.heap.size w w' := by
  have e0 : S[0]'(by omega) = L[0]'(by omega) := HG.out 0 (by omega) (by omega)
  have en : (L[0]'(by omega)).toNat = nth L 0 := by
    have : 0 < L.length := by omega
    simp [nth, List.getD, this]
  have l0 := nth_lt L 0
  have HS : Hid (VState L 32 (w.alloc (.cells #[.int .i64 0, .int .i64 128, .int .i64 64, .int .i64 32, .int .i64 16] 3)) (.int .i64 ((nth L 0 : Int) % 32)) (.int .i64 1) (w.alloc (.cells #[.int .i64 0, .int .i64 128, .int .i64 64, .int .i64 32, .int .i64 16] 3))) :=
    ⟨1, by omega, by omega, rfl, by rw [val_one _ _ (by omega)]; rfl, .inl ⟨rfl, by rw [val_one _ _ (by omega)]; omega⟩, conts_one L, rfl⟩
  have HW : Hid (conts L → (whole L = true ↔ (isRune (val 32 L) ∧ encodeRune (val 32 L : Nat) = L)) ∧ (whole L = true → (dec L).1 = val 32 L)) := fun hc => by
    have := whole_val (s := L) (by omega) (by omega) hc
    rw [hn] at this
    exact this
  have hB0 : Below w.heap.size w (w.alloc (.cells #[.int .i64 0, .int .i64 128, .int .i64 64, .int .i64 32, .int .i64 16] 3)) := (Below.refl _ _).alloc (Nat.le_refl _) _
  have HB0 := Hid.mk' hB0
  clear hB0
  rw [← en] at HS
  generalize hL0 : L[0]'(by omega) = x0 at e0 HS
  clear hL0 en l0
  have l0 := x0.toNat_lt
  go_enter Tryz.func28, Tryz.ntmps28
  go_wp2_with fail
  go_loopw [5, 6] (fun s5 s6 wr => VState L 32 (w.alloc (.cells #[.int .i64 0, .int .i64 128, .int .i64 64, .int .i64 32, .int .i64 16] 3)) s5 s6 wr) (fun _ i _ => 3 - (RowKit.intOf i).toNat)
  case atStart => exact HS.out
  case round =>
    obtain ⟨k, hk1, hkl, rfl, rfl, hsm, hct, hwr⟩ := hrel
    clear HS
    generalize w.alloc (.cells #[.int .i64 0, .int .i64 128, .int .i64 64, .int .i64 32, .int .i64 16] 3) = wa at *
    subst hwr
    by_cases hlt : k < L.length
    · have hks : (k : Int) < 3 := by omega
      have hk2 : k < S.size := by omega
      have ek := HG.out k hlt hk2
      have hstep := val_step 32 L k hk1 hlt
      have HCS := Hid.mk' (conts_step L k hk1 hlt hct)
      have HCN := Hid.mk' (conts_not L k hk1 hlt (by omega))
      generalize hLk : L[k] = x at *
      clear hLk
      have lx := x.toNat_lt
      by_cases hx : x.toNat / 64 = 2
      · have hx' : (x.toNat : Int) / 64 = 2 := by omega
        have hsm2 : small (k + 1) (val 32 (L.take (k + 1))) := by
          rw [hstep]; unfold small at hsm ⊢; omega
        have HV : Hid (((val 32 (L.take (k + 1)) : Nat) : Int) = 64 * (val 32 (L.take k) : Int) + (x.toNat : Int) % 64) := by
          show _ = _
          rw [hstep]; omega
        have hvb : (val 32 (L.take k) : Int) < 33554432 := by unfold small at hsm; omega
        have hvp : (0 : Int) ≤ (val 32 (L.take k) : Int) := by omega
        have HSM := Hid.mk' hsm2
        have HC2 := Hid.mk' (HCS.out hx)
        clear hsm2 hsm hstep HCN HCS hct
        generalize hvv : (val 32 (L.take k) : Int) = vk at *
        clear hvv
        go_wp2
        go_roundw
        case rel => exact ⟨k + 1, by omega, by omega, by go_num, by rw [HV.out], HSM.out, HC2.out, rfl⟩
        case measure => simp [RowKit.intOf]; omega
      · have hx' : ((x.toNat : Int) / 64 == 2) = false := by rw [beq_eq_false_iff_ne]; omega
        have HWF := Hid.mk' (HCN.out hx)
        clear HCN HCS hstep
        go_wp2
        exact bodyPost_ret (v := .tuple #[.int .i64 (0), .bool false]) (by simp [results, Tryz.results28, go_sem]) rfl ⟨0, by rw [HWF.out], (fun h => by rw [HWF.out] at h; cases h), HB0.out⟩
    · obtain rfl : k = L.length := by omega
      rw [List.take_length] at hsm hct
      rw [List.take_length]
      have hvb : val 32 L < 33554432 := by unfold small at hsm; omega
      have HW2 := Hid.mk' (HW.out hct)
      have HRN := Hid.mk' (Rune_any (val 32 L : Int) wr)
      clear hsm hct HW
      cases hr : runeZ (val 32 L : Int) with
      | false =>
        rw [hr] at HRN
        have hwf : whole L = false := by
          cases hw : whole L with
          | false => rfl
          | true =>
            have := (HW2.out.1.1 hw).1
            simp only [runeZ, decide_eq_false_iff_not] at hr
            unfold isRune at this
            omega
        have HWF := Hid.mk' hwf
        clear hwf hr
        go_wp2_with fail
        refine HRN.out.mono ?_
        rintro e w4 ⟨rfl, rfl⟩
        go_wp2
        exact bodyPost_ret (v := .tuple #[.int .i64 ((val 32 L : Int)), .bool false]) (by simp [results, Tryz.results28, go_sem]) rfl ⟨_, by rw [HWF.out], (fun h => by rw [HWF.out] at h; cases h), HB0.out⟩
      | true =>
        rw [hr] at HRN
        have hir : isRune (val 32 L) := by
          simp only [runeZ, decide_eq_true_eq] at hr
          unfold isRune; omega
        have HRB := Hid.mk' (RuneBytes_any (val 32 L) wr hir)
        clear hr
        by_cases heq : encodeRune (val 32 L : Int) = L
        · have HWT := Hid.mk' (HW2.out.1.2 ⟨hir, heq⟩)
          rw [heq, ← HSL.out] at HRB
          have HVD : Hid ((val 32 L : Int) = ((dec L).1 : Int)) := by
            show _ = _
            rw [HW2.out.2 HWT.out]
          clear hir heq
          generalize (val 32 L : Int) = vv at *
          go_wp2_with fail
          refine HRN.out.mono ?_
          rintro e w4 ⟨rfl, rfl⟩
          go_wp2_with fail
          refine HRB.out.mono ?_
          rintro e w5 ⟨rfl, hb5⟩
          have HB5 : Hid (Below w.heap.size w w5) := HB0.out.trans (hb5.mono HB0.out.size)
          clear hb5
          go_wp2
          exact bodyPost_ret (v := .tuple #[.int .i64 (vv), .bool true]) (by simp [results, Tryz.results28, go_sem]) rfl ⟨_, by rw [HWT.out], fun _ => HVD.out, HB5.out⟩
        · have HWF : Hid (whole L = false) := by
            cases hw : whole L with
            | false => rfl
            | true => exact absurd (HW2.out.1.1 hw).2 heq
          have hne : ¬ (⟨(encodeRune (val 32 L : Int)).toArray⟩ : ByteArray).toList = S.toList := fun e => heq (by
            rw [HSL.out, Lib.toList_data, Lib.toList_data] at e
            simpa using e)
          clear hir heq
          generalize (⟨(encodeRune (val 32 L : Int)).toArray⟩ : ByteArray) = SR at *
          generalize (val 32 L : Int) = vv at *
          go_wp2_with fail
          refine HRN.out.mono ?_
          rintro e w4 ⟨rfl, rfl⟩
          go_wp2_with fail
          refine HRB.out.mono ?_
          rintro e w5 ⟨rfl, hb5⟩
          have HB5 : Hid (Below w.heap.size w w5) := HB0.out.trans (hb5.mono HB0.out.size)
          clear hb5
          go_wp2
          exact bodyPost_ret (v := .tuple #[.int .i64 (vv), .bool false]) (by simp [results, Tryz.results28, go_sem, hne]) rfl ⟨_, by rw [HWF.out], (fun h => by rw [HWF.out] at h; cases h), HB5.out⟩

set_option maxHeartbeats 8000000 in
set_option maxRecDepth 100000 in
theorem runeValue_4 (S : ByteArray) (L : List UInt8) (w : World) (hn : L.length = 4) (hsz : S.size = 4) (HSL : Hid (S = ⟨L.toArray⟩)) (HG : Hid (∀ k (h : k < L.length) (h2 : k < S.size), S[k] = L[k])) :
    Calls Tryz.prog 28 #[.string S] w fun e w' => ∃ c : Int, e = .returned (.tuple #[.int .i64 c, .bool (whole L)]) ∧ (whole L = true → c = ((dec L).1 : Int)) ∧ Below w.heap.size w w' := by
  have e0 : S[0]'(by omega) = L[0]'(by omega) := HG.out 0 (by omega) (by omega)
  have en : (L[0]'(by omega)).toNat = nth L 0 := by
    have : 0 < L.length := by omega
    simp [nth, List.getD, this]
  have l0 := nth_lt L 0
  have HS : Hid (VState L 16 (w.alloc (.cells #[.int .i64 0, .int .i64 128, .int .i64 64, .int .i64 32, .int .i64 16] 3)) (.int .i64 ((nth L 0 : Int) % 16)) (.int .i64 1) (w.alloc (.cells #[.int .i64 0, .int .i64 128, .int .i64 64, .int .i64 32, .int .i64 16] 3))) :=
    ⟨1, by omega, by omega, rfl, by rw [val_one _ _ (by omega)]; rfl, .inl ⟨rfl, by rw [val_one _ _ (by omega)]; omega⟩, conts_one L, rfl⟩
  have HW : Hid (conts L → (whole L = true ↔ (isRune (val 16 L) ∧ encodeRune (val 16 L : Nat) = L)) ∧ (whole L = true → (dec L).1 = val 16 L)) := fun hc => by
    have := whole_val (s := L) (by omega) (by omega) hc
    rw [hn] at this
    exact this
  have hB0 : Below w.heap.size w (w.alloc (.cells #[.int .i64 0, .int .i64 128, .int .i64 64, .int .i64 32, .int .i64 16] 3)) := (Below.refl _ _).alloc (Nat.le_refl _) _
  have HB0 := Hid.mk' hB0
  clear hB0
  rw [← en] at HS
  generalize hL0 : L[0]'(by omega) = x0 at e0 HS
  clear hL0 en l0
  have l0 := x0.toNat_lt
  go_enter Tryz.func28, Tryz.ntmps28
  go_wp2_with fail
  go_loopw [5, 6] (fun s5 s6 wr => VState L 16 (w.alloc (.cells #[.int .i64 0, .int .i64 128, .int .i64 64, .int .i64 32, .int .i64 16] 3)) s5 s6 wr) (fun _ i _ => 4 - (RowKit.intOf i).toNat)
  case atStart => exact HS.out
  case round =>
    obtain ⟨k, hk1, hkl, rfl, rfl, hsm, hct, hwr⟩ := hrel
    clear HS
    generalize w.alloc (.cells #[.int .i64 0, .int .i64 128, .int .i64 64, .int .i64 32, .int .i64 16] 3) = wa at *
    subst hwr
    by_cases hlt : k < L.length
    · have hks : (k : Int) < 4 := by omega
      have hk2 : k < S.size := by omega
      have ek := HG.out k hlt hk2
      have hstep := val_step 16 L k hk1 hlt
      have HCS := Hid.mk' (conts_step L k hk1 hlt hct)
      have HCN := Hid.mk' (conts_not L k hk1 hlt (by omega))
      generalize hLk : L[k] = x at *
      clear hLk
      have lx := x.toNat_lt
      by_cases hx : x.toNat / 64 = 2
      · have hx' : (x.toNat : Int) / 64 = 2 := by omega
        have hsm2 : small (k + 1) (val 16 (L.take (k + 1))) := by
          rw [hstep]; unfold small at hsm ⊢; omega
        have HV : Hid (((val 16 (L.take (k + 1)) : Nat) : Int) = 64 * (val 16 (L.take k) : Int) + (x.toNat : Int) % 64) := by
          show _ = _
          rw [hstep]; omega
        have hvb : (val 16 (L.take k) : Int) < 33554432 := by unfold small at hsm; omega
        have hvp : (0 : Int) ≤ (val 16 (L.take k) : Int) := by omega
        have HSM := Hid.mk' hsm2
        have HC2 := Hid.mk' (HCS.out hx)
        clear hsm2 hsm hstep HCN HCS hct
        generalize hvv : (val 16 (L.take k) : Int) = vk at *
        clear hvv
        go_wp2
        go_roundw
        case rel => exact ⟨k + 1, by omega, by omega, by go_num, by rw [HV.out], HSM.out, HC2.out, rfl⟩
        case measure => simp [RowKit.intOf]; omega
      · have hx' : ((x.toNat : Int) / 64 == 2) = false := by rw [beq_eq_false_iff_ne]; omega
        have HWF := Hid.mk' (HCN.out hx)
        clear HCN HCS hstep
        go_wp2
        exact bodyPost_ret (v := .tuple #[.int .i64 (0), .bool false]) (by simp [results, Tryz.results28, go_sem]) rfl ⟨0, by rw [HWF.out], (fun h => by rw [HWF.out] at h; cases h), HB0.out⟩
    · obtain rfl : k = L.length := by omega
      rw [List.take_length] at hsm hct
      rw [List.take_length]
      have hvb : val 16 L < 33554432 := by unfold small at hsm; omega
      have HW2 := Hid.mk' (HW.out hct)
      have HRN := Hid.mk' (Rune_any (val 16 L : Int) wr)
      clear hsm hct HW
      cases hr : runeZ (val 16 L : Int) with
      | false =>
        rw [hr] at HRN
        have hwf : whole L = false := by
          cases hw : whole L with
          | false => rfl
          | true =>
            have := (HW2.out.1.1 hw).1
            simp only [runeZ, decide_eq_false_iff_not] at hr
            unfold isRune at this
            omega
        have HWF := Hid.mk' hwf
        clear hwf hr
        go_wp2_with fail
        refine HRN.out.mono ?_
        rintro e w4 ⟨rfl, rfl⟩
        go_wp2
        exact bodyPost_ret (v := .tuple #[.int .i64 ((val 16 L : Int)), .bool false]) (by simp [results, Tryz.results28, go_sem]) rfl ⟨_, by rw [HWF.out], (fun h => by rw [HWF.out] at h; cases h), HB0.out⟩
      | true =>
        rw [hr] at HRN
        have hir : isRune (val 16 L) := by
          simp only [runeZ, decide_eq_true_eq] at hr
          unfold isRune; omega
        have HRB := Hid.mk' (RuneBytes_any (val 16 L) wr hir)
        clear hr
        by_cases heq : encodeRune (val 16 L : Int) = L
        · have HWT := Hid.mk' (HW2.out.1.2 ⟨hir, heq⟩)
          rw [heq, ← HSL.out] at HRB
          have HVD : Hid ((val 16 L : Int) = ((dec L).1 : Int)) := by
            show _ = _
            rw [HW2.out.2 HWT.out]
          clear hir heq
          generalize (val 16 L : Int) = vv at *
          go_wp2_with fail
          refine HRN.out.mono ?_
          rintro e w4 ⟨rfl, rfl⟩
          go_wp2_with fail
          refine HRB.out.mono ?_
          rintro e w5 ⟨rfl, hb5⟩
          have HB5 : Hid (Below w.heap.size w w5) := HB0.out.trans (hb5.mono HB0.out.size)
          clear hb5
          go_wp2
          exact bodyPost_ret (v := .tuple #[.int .i64 (vv), .bool true]) (by simp [results, Tryz.results28, go_sem]) rfl ⟨_, by rw [HWT.out], fun _ => HVD.out, HB5.out⟩
        · have HWF : Hid (whole L = false) := by
            cases hw : whole L with
            | false => rfl
            | true => exact absurd (HW2.out.1.1 hw).2 heq
          have hne : ¬ (⟨(encodeRune (val 16 L : Int)).toArray⟩ : ByteArray).toList = S.toList := fun e => heq (by
            rw [HSL.out, Lib.toList_data, Lib.toList_data] at e
            simpa using e)
          clear hir heq
          generalize (⟨(encodeRune (val 16 L : Int)).toArray⟩ : ByteArray) = SR at *
          generalize (val 16 L : Int) = vv at *
          go_wp2_with fail
          refine HRN.out.mono ?_
          rintro e w4 ⟨rfl, rfl⟩
          go_wp2_with fail
          refine HRB.out.mono ?_
          rintro e w5 ⟨rfl, hb5⟩
          have HB5 : Hid (Below w.heap.size w w5) := HB0.out.trans (hb5.mono HB0.out.size)
          clear hb5
          go_wp2
          exact bodyPost_ret (v := .tuple #[.int .i64 (vv), .bool false]) (by simp [results, Tryz.results28, go_sem, hne]) rfl ⟨_, by rw [HWF.out], (fun h => by rw [HWF.out] at h; cases h), HB5.out⟩

theorem runeValue_any (L : List UInt8) (w : World) (h1 : 1 ≤ L.length) (h4 : L.length ≤ 4) :
    Calls Tryz.prog 28 #[.string ⟨L.toArray⟩] w fun e w' => ∃ c : Int, e = .returned (.tuple #[.int .i64 c, .bool (whole L)]) ∧ (whole L = true → c = ((dec L).1 : Int)) ∧ Below w.heap.size w w' := by
  have hsz : (⟨L.toArray⟩ : ByteArray).size = L.length := by simp [ByteArray.size]
  have HG : Hid (∀ k (h : k < L.length) (h2 : k < (⟨L.toArray⟩ : ByteArray).size), (⟨L.toArray⟩ : ByteArray)[k] = L[k]) := fun k h h2 => by
    show L.toArray[k] = L[k]
    simp
  rcases (by omega : L.length = 1 ∨ L.length = 2 ∨ L.length = 3 ∨ L.length = 4) with h | h | h | h
  · exact runeValue_1 _ L w h (hsz.trans h) rfl HG
  · exact runeValue_2 _ L w h (hsz.trans h) rfl HG
  · exact runeValue_3 _ L w h (hsz.trans h) rfl HG
  · exact runeValue_4 _ L w h (hsz.trans h) rfl HG

set_option maxHeartbeats 4000000 in
theorem Whole_any (L : List UInt8) (w : World) (hl : L.length ≤ 1099511627776) :
    Calls Tryz.prog 27 #[.string ⟨L.toArray⟩] w fun e w' => e = .returned (.bool (whole L)) ∧ Below w.heap.size w w' := by
  have hsz : (⟨L.toArray⟩ : ByteArray).size = L.length := by simp [ByteArray.size]
  by_cases h : 1 ≤ L.length ∧ L.length ≤ 4
  · have HR := Hid.mk' (runeValue_any L w h.1 h.2)
    have HB := Hid.mk' (Between_yes (L.length : Int) 1 4 w (by omega) (by omega))
    clear h
    generalize (⟨L.toArray⟩ : ByteArray) = S at *
    generalize whole L = b at *
    go_enter Tryz.func27, Tryz.ntmps27
    go_wp2_with fail
    refine HB.out.mono ?_
    rintro e w1 ⟨rfl, rfl⟩
    go_wp2_with fail
    refine HR.out.mono ?_
    rintro e w2 ⟨c, rfl, _, hb2⟩
    have HB2 := Hid.mk' hb2
    clear hb2
    go_wp2
    go_ret
    exact ⟨rfl, HB2.out⟩
  · have hw : whole L = false := by
      cases hw : whole L with
      | false => rfl
      | true => exact absurd (whole_len hw) h
    have HB := Hid.mk' (Between_no (L.length : Int) 1 4 w (by omega))
    rw [hw]
    clear h hw
    generalize (⟨L.toArray⟩ : ByteArray) = S at *
    go_enter Tryz.func27, Tryz.ntmps27
    go_wp2_with fail
    refine HB.out.mono ?_
    rintro e w1 ⟨rfl, rfl⟩
    go_wp2
    go_ret
    exact ⟨rfl, Below.refl _ _⟩
end Go.Proofs.YtneiiinheimglaaGreatDoor.U
