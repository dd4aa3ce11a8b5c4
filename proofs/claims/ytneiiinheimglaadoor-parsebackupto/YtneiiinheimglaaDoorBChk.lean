/-
  Contracts of utf8.ValidRune, and of package parse's tests of what may be written: isPrinted, isActing, isEscEnd; condition: at most 2^40 bytes.
-/
import Derived.Test.YtneiiinheimglaaDoorBCheck
import Derived.Test.YtneiiinheimglaaDoorBVal
namespace Go.Proofs.YtneiiinheimglaaDoor.B
open Go.RowKit Go.Lib Go.Proofs.YtneiiinheimglaaDoor Go.Proofs.YtneiiinheimglaaDoor.W Go.Proofs.YtneiiinheimglaaDoor.Q Go.Proofs.YtneiiinheimglaaDoor.C Go.Proofs.YtneiiinheimglaaDoor.Z

theorem bool_in {a b : Bool} (h : a = b) : Value.bool a = Value.bool b := congrArg Value.bool h
set_option maxHeartbeats 1000000 in
theorem ValidRune_any (c : Int) (w : World) : Calls Tryd.prog 57 #[.int .i32 c] w fun e w' => e = .returned (.bool (decide (isR c))) ∧ w' = w := by
  by_cases h0 : 0 ≤ c
  · by_cases h1 : c < 55296
    · rw [decide_eq_true (show isR c from .inl ⟨h0, h1⟩)]
      go_enter Tryd.func57, Tryd.ntmps57
      go_wp2
      go_ret
      exact ⟨rfl, rfl⟩
    · by_cases h2 : 57343 < c
      · by_cases h3 : c ≤ 1114111
        · rw [decide_eq_true (show isR c from .inr ⟨by omega, h3⟩)]
          go_enter Tryd.func57, Tryd.ntmps57
          go_wp2
          go_ret
          exact ⟨rfl, rfl⟩
        · rw [decide_eq_false (show ¬ isR c from by unfold isR; omega)]
          go_enter Tryd.func57, Tryd.ntmps57
          go_wp2
          go_ret
          exact ⟨rfl, rfl⟩
      · rw [decide_eq_false (show ¬ isR c from by unfold isR; omega)]
        go_enter Tryd.func57, Tryd.ntmps57
        go_wp2
        go_ret
        exact ⟨rfl, rfl⟩
  · have h2 : ¬ 57343 < c := by omega
    rw [decide_eq_false (show ¬ isR c from by unfold isR; omega)]
    go_enter Tryd.func57, Tryd.ntmps57
    go_wp2
    go_ret
    exact ⟨rfl, rfl⟩

def prB (c : Int) : Bool := decide (canPrint c ∧ isR c)
set_option maxHeartbeats 1000000 in
theorem isPrinted_any (c : Int) (w : World) : Calls Tryd.prog 36 #[.int .i64 c] w fun e w' => e = .returned (.bool (prB c)) ∧ w' = w := by
  have HM := Hid.mk' (isMute_any c w)
  have HV := Hid.mk' (ValidRune_any c w)
  unfold prB
  by_cases h0 : 32 ≤ c
  · by_cases h1 : c ≤ 1114111
    · by_cases h2 : 127 ≤ c ∧ c ≤ 159
      · rw [decide_eq_true h2] at HM
        rw [decide_eq_false (fun h => by have := h.1; unfold canPrint at this; omega)]
        clear h2 HV
        go_enter Tryd.func36, Tryd.ntmps36
        go_wp2_with fail
        refine HM.out.mono ?_
        rintro e w2 ⟨rfl, rfl⟩
        go_wp2
        go_ret
        exact ⟨rfl, rfl⟩
      · rw [decide_eq_false h2] at HM
        have e : decide (canPrint c ∧ isR c) = decide (isR c) := by
          rw [decide_eq_decide]
          exact ⟨fun h => h.2, fun h => ⟨by unfold canPrint; omega, h⟩⟩
        rw [e]
        clear h2 e
        generalize decide (isR c) = R at *
        go_enter Tryd.func36, Tryd.ntmps36
        go_wp2_with fail
        refine HM.out.mono ?_
        rintro e w2 ⟨rfl, rfl⟩
        go_wp2_with fail
        refine HV.out.mono ?_
        rintro e w2 ⟨rfl, rfl⟩
        go_wp2
        go_ret
        exact ⟨rfl, rfl⟩
    · rw [decide_eq_false (fun h => by have := h.1; unfold canPrint at this; omega)]
      clear HM HV
      go_enter Tryd.func36, Tryd.ntmps36
      go_wp2
      go_ret
      exact ⟨rfl, rfl⟩
  · rw [decide_eq_false (fun h => by have := h.1; unfold canPrint at this; omega)]
    clear HM HV
    go_enter Tryd.func36, Tryd.ntmps36
    go_wp2
    go_ret
    exact ⟨rfl, rfl⟩

def acB (c : Int) : Bool := decide (0 ≤ c ∧ c ≤ 31 ∧ c ≠ 24 ∧ c ≠ 26 ∧ c ≠ 27)
set_option maxHeartbeats 1000000 in
theorem isActing_any (c : Int) (w : World) : Calls Tryd.prog 37 #[.int .i64 c] w fun e w' => e = .returned (.bool (acB c)) ∧ w' = w := by
  have HC := Hid.mk' (isControl_any c w)
  unfold acB
  by_cases h0 : 0 ≤ c ∧ c ≤ 31
  · rw [decide_eq_true h0] at HC
    by_cases h1 : c = 24
    · subst h1
      rw [decide_eq_false (by omega)]
      clear h0
      go_enter Tryd.func37, Tryd.ntmps37
      go_wp2_with fail
      refine HC.out.mono ?_
      rintro e w2 ⟨rfl, rfl⟩
      go_wp2
      go_ret
      exact ⟨rfl, rfl⟩
    · have g1 : (c != 24) = true := bne_of h1
      by_cases h2 : c = 26
      · subst h2
        rw [decide_eq_false (by omega)]
        clear h0 h1
        go_enter Tryd.func37, Tryd.ntmps37
        go_wp2_with fail
        refine HC.out.mono ?_
        rintro e w2 ⟨rfl, rfl⟩
        go_wp2
        go_ret
        exact ⟨rfl, rfl⟩
      · have g2 : (c != 26) = true := bne_of h2
        by_cases h3 : c = 27
        · subst h3
          rw [decide_eq_false (by omega)]
          clear h0 h1 h2
          go_enter Tryd.func37, Tryd.ntmps37
          go_wp2_with fail
          refine HC.out.mono ?_
          rintro e w2 ⟨rfl, rfl⟩
          go_wp2
          go_ret
          exact ⟨rfl, rfl⟩
        · have g3 : (c != 27) = true := bne_of h3
          rw [decide_eq_true ⟨h0.1, h0.2, h1, h2, h3⟩]
          clear h0 h1 h2 h3
          go_enter Tryd.func37, Tryd.ntmps37
          go_wp2_with fail
          refine HC.out.mono ?_
          rintro e w2 ⟨rfl, rfl⟩
          go_wp2
          go_ret
          exact ⟨rfl, rfl⟩
  · rw [decide_eq_false h0] at HC
    rw [decide_eq_false (fun h => h0 ⟨h.1, h.2.1⟩)]
    clear h0
    go_enter Tryd.func37, Tryd.ntmps37
    go_wp2_with fail
    refine HC.out.mono ?_
    rintro e w2 ⟨rfl, rfl⟩
    go_wp2
    go_ret
    exact ⟨rfl, rfl⟩

def escB (i : List UInt8) (c : Int) : Bool := areMid i 2 && decide (48 ≤ c ∧ c ≤ 126) && (!i.isEmpty || !decide (special c))
theorem special_mem {c : Int} (h0 : 0 ≤ c) (h1 : c < 128) : (sg c ∈ (⟨#[91, 93, 80, 88, 94, 95]⟩ : ByteArray).data.toList) ↔ special c := by
  rw [sg_mem _ h0 h1]
  show c ∈ [(91 : Int), 93, 80, 88, 94, 95] ↔ _
  unfold special
  simp
set_option maxHeartbeats 2000000 in
theorem isEscEnd_any (i : List UInt8) (c : Int) (w : World) (hl : i.length ≤ 1099511627776) : Calls Tryd.prog 38 #[.string (bs i), .int .i64 c] w fun e w' => e = .returned (.bool (escB i c)) ∧ w' = w := by
  have HA := Hid.mk' (areInter_any i 2 w hl)
  have he := isEmpty_bs i
  unfold escB
  generalize areMid i 2 = B1 at *
  generalize i.isEmpty = B2 at *
  clear hl
  generalize bs i = S at *
  cases B1 with
  | false =>
    rw [Bool.false_and, Bool.false_and]
    clear he
    go_enter Tryd.func38, Tryd.ntmps38
    go_wp2_with fail
    refine HA.out.mono ?_
    rintro e w2 ⟨rfl, rfl⟩
    go_wp2
    go_ret
    exact ⟨rfl, rfl⟩
  | true =>
    rw [Bool.true_and]
    by_cases h0 : 48 ≤ c
    · have g0 : ¬ c < 48 := by omega
      by_cases h1 : c ≤ 126
      · have g1 : ¬ 126 < c := by omega
        rw [decide_eq_true ⟨h0, h1⟩, Bool.true_and]
        cases B2 with
        | false =>
          rw [Bool.not_false, Bool.true_or]
          go_enter Tryd.func38, Tryd.ntmps38
          go_wp2_with fail
          refine HA.out.mono ?_
          rintro e w2 ⟨rfl, rfl⟩
          go_wp2
          go_ret
          exact ⟨rfl, rfl⟩
        | true =>
          rw [Bool.not_true, Bool.false_or]
          have HC := Hid.mk' (ContainsRune_any ⟨#[91, 93, 80, 88, 94, 95]⟩ c w (by omega) (by omega))
          have e : decide (sg c ∈ (⟨#[91, 93, 80, 88, 94, 95]⟩ : ByteArray).data.toList) = decide (special c) := by
            rw [decide_eq_decide]; exact special_mem (by omega) (by omega)
          rw [e] at HC
          generalize decide (special c) = R at *
          clear e
          go_enter Tryd.func38, Tryd.ntmps38
          go_wp2_with fail
          refine HA.out.mono ?_
          rintro e w2 ⟨rfl, rfl⟩
          go_wp2_with fail
          refine HC.out.mono ?_
          rintro e w2 ⟨rfl, rfl⟩
          go_wp2
          go_ret
          exact ⟨rfl, rfl⟩
      · have g1 : 126 < c := by omega
        rw [decide_eq_false (by omega), Bool.false_and]
        clear he
        go_enter Tryd.func38, Tryd.ntmps38
        go_wp2_with fail
        refine HA.out.mono ?_
        rintro e w2 ⟨rfl, rfl⟩
        go_wp2
        go_ret
        exact ⟨rfl, rfl⟩
    · have g0 : c < 48 := by omega
      rw [decide_eq_false (by omega), Bool.false_and]
      clear he
      go_enter Tryd.func38, Tryd.ntmps38
      go_wp2_with fail
      refine HA.out.mono ?_
      rintro e w2 ⟨rfl, rfl⟩
      go_wp2
      go_ret
      exact ⟨rfl, rfl⟩

end Go.Proofs.YtneiiinheimglaaDoor.B
