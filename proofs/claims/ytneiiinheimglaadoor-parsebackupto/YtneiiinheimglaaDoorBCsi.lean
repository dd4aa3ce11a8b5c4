/-
  Contracts of package parse's isCsi and isWritable: what may be written; conditions: the tables of unicode/utf8 and internal/strconv.uint64pow10 hold what their initialisers lay; at most 2^40 bytes and numbers.
-/
import Derived.Test.YtneiiinheimglaaDoorBTxt
import Derived.Test.YtneiiinheimglaaDoorBWr
namespace Go.Proofs.YtneiiinheimglaaDoor.B
open Go.RowKit Go.Lib Go.Proofs.YtneiiinheimglaaDoor Go.Proofs.YtneiiinheimglaaDoor.W Go.Proofs.YtneiiinheimglaaDoor.Q Go.Proofs.YtneiiinheimglaaDoor.C Go.Proofs.YtneiiinheimglaaDoor.Z

def csiB (cd mk : Int) (im : List UInt8) (ar : List Int) : Bool := (decide (mk = 0) || decide (60 ≤ mk ∧ mk ≤ 63)) && (decide (64 ≤ cd ∧ cd ≤ 126) && ((writeT ar).2 == 0 && (decide ((writeT ar).1.length ≤ 100) && areMid im 2)))
set_option maxHeartbeats 8000000 in
set_option maxRecDepth 100000 in
theorem isCsi_any (kd cd mk : Int) (im : List UInt8) (ar : List Int) (tx : List UInt8) (v : Value) (w : World) (hv : RdI w v ar) (hT : Tab w) (hl : im.length ≤ 1099511627776) (hla : ar.length ≤ 1099511627776) :
    Calls Tryd.prog 39 #[.agg #[.int .i64 kd, .int .i64 cd, .int .i64 mk, .string (bs im), v, .string (bs tx)]] w fun e w' => e = .returned (.bool (csiB cd mk im ar)) ∧ Below w.heap.size w w' := by
  have HA := Hid.mk' (fun W => areInter_any im 2 W hl)
  have HM := Hid.mk' (fun W => isMark_any mk W)
  unfold csiB
  have HW := Hid.mk' (fun W (h : Below w.heap.size w W) => Write_any v ar W (hv.below h) (hT.below h) (by omega))
  have hzx := C.bs_size (writeT ar).1
  generalize writeT ar = Y at *
  obtain ⟨X, E⟩ := Y
  dsimp only at *
  obtain ⟨ad, cp, rfl, hv2⟩ := hv
  clear hv2
  generalize areMid im 2 = BA at *
  generalize hSI : bs im = SI at *
  generalize bs tx = ST at *
  generalize ar.length = n at *
  clear hSI hl hla hT
  have hA0 : Below w.heap.size w (w.alloc (.cells #[.int .i64 kd, .int .i64 cd, .int .i64 mk, .string SI, .slice ad n cp, .string ST] 35)) := (Below.refl _ _).alloc (Nat.le_refl _) _
  have X0 := Box.new w 35 [.int .i64 kd, .int .i64 cd, .int .i64 mk, .string SI, .slice ad n cp, .string ST]
  have c0 := X0.cell (j := 0) (v := .int .i64 kd) rfl
  have c1 := X0.cell (j := 1) (v := .int .i64 cd) rfl
  have c2 := X0.cell (j := 2) (v := .int .i64 mk) rfl
  have c3 := X0.cell (j := 3) (v := .string SI) rfl
  have c4 := X0.cell (j := 4) (v := .slice ad n cp) rfl
  have c5 := X0.cell (j := 5) (v := .string ST) rfl
  have HX0 := Hid.mk' (And.intro X0 hA0)
  clear X0 hA0
  by_cases hm0 : mk = 0
  · have hm0' : (mk != 0) = false := by rw [hm0]; rfl
    rw [decide_eq_true hm0, Bool.true_or, Bool.true_and]
    clear hm0
    by_cases h64 : 64 ≤ cd
    · have g64 : ¬ cd < 64 := by omega
      by_cases h126 : cd ≤ 126
      · have g126 : ¬ 126 < cd := by omega
        rw [decide_eq_true ⟨h64, h126⟩, Bool.true_and]
        clear h64 h126
        obtain ⟨R, hR⟩ : ∃ R, (E == 0 && (decide (X.length ≤ 100) && BA)) = R := ⟨_, rfl⟩
        rw [hR]
        replace hR := Hid.mk' hR
        clear HM
        go_enter Tryd.func39, Tryd.ntmps39
        go_wp2_with fail
        refine (HW.out _ HX0.out.2).mono ?_
        rintro e w3 ⟨rfl, hb3⟩
        have X3 := HX0.out.1.later hb3
        have HB3 := Hid.mk' (HX0.out.2.trans (Below.mono hb3 HX0.out.2.size))
        have d3 := X3.cell (j := 3) (v := .string SI) rfl
        clear HX0 HW X3 hb3 c0 c1 c2 c3 c4 c5
        cases bE : (E == 0) with
        | false =>
          have hR2 : R = false := by rw [← hR.out, bE]; rfl
          clear HA hzx hR
          go_wp2
          go_ret
          exact ⟨by first | (rw [hR2]; rfl) | rfl, HB3.out⟩
        | true =>
          by_cases h100 : X.length ≤ 100
          · have hR2 : R = BA := by rw [← hR.out, bE, decide_eq_true h100]; rfl
            have g100 : ((bs X).size : Int) ≤ 100 := by omega
            clear hzx h100 hR
            go_wp2_with fail
            refine (HA.out _).mono ?_
            rintro e w4 ⟨rfl, rfl⟩
            go_wp2
            go_ret
            exact ⟨by first | (rw [hR2]; rfl) | rfl, HB3.out⟩
          · have hR2 : R = false := by rw [← hR.out, bE, decide_eq_false h100]; rfl
            have g100 : ¬ ((bs X).size : Int) ≤ 100 := by omega
            clear hzx h100 HA hR
            go_wp2
            go_ret
            exact ⟨by first | (rw [hR2]; rfl) | rfl, HB3.out⟩
      · have g126 : 126 < cd := by omega
        rw [decide_eq_false (p := 64 ≤ cd ∧ cd ≤ 126) (fun h => h126 h.2), Bool.false_and]
        clear h64 h126
        clear HW HA hzx
        clear HM
        go_enter Tryd.func39, Tryd.ntmps39
        go_wp2
        go_ret
        exact ⟨rfl, HX0.out.2⟩
    · have g64 : cd < 64 := by omega
      rw [decide_eq_false (p := 64 ≤ cd ∧ cd ≤ 126) (fun h => h64 h.1), Bool.false_and]
      clear h64
      clear HW HA hzx
      clear HM
      go_enter Tryd.func39, Tryd.ntmps39
      go_wp2
      go_ret
      exact ⟨rfl, HX0.out.2⟩
  · have hm0' : (mk != 0) = true := bne_of hm0
    rw [decide_eq_false hm0, Bool.false_or]
    cases bM : decide (60 ≤ mk ∧ mk ≤ 63) with
    | false =>
      rw [bM] at HM
      rw [Bool.false_and]
      clear hm0 bM
      clear HW HA hzx
      go_enter Tryd.func39, Tryd.ntmps39
      go_wp2_with fail
      refine (HM.out _).mono ?_
      rintro e w2 ⟨rfl, rfl⟩
      go_wp2
      go_ret
      exact ⟨rfl, HX0.out.2⟩
    | true =>
      rw [bM] at HM
      rw [Bool.true_and]
      clear hm0 bM
      by_cases h64 : 64 ≤ cd
      · have g64 : ¬ cd < 64 := by omega
        by_cases h126 : cd ≤ 126
        · have g126 : ¬ 126 < cd := by omega
          rw [decide_eq_true ⟨h64, h126⟩, Bool.true_and]
          clear h64 h126
          obtain ⟨R, hR⟩ : ∃ R, (E == 0 && (decide (X.length ≤ 100) && BA)) = R := ⟨_, rfl⟩
          rw [hR]
          replace hR := Hid.mk' hR
          go_enter Tryd.func39, Tryd.ntmps39
          go_wp2_with fail
          refine (HM.out _).mono ?_
          rintro e w2 ⟨rfl, rfl⟩
          go_wp2_with fail
          refine (HW.out _ HX0.out.2).mono ?_
          rintro e w3 ⟨rfl, hb3⟩
          have X3 := HX0.out.1.later hb3
          have HB3 := Hid.mk' (HX0.out.2.trans (Below.mono hb3 HX0.out.2.size))
          have d3 := X3.cell (j := 3) (v := .string SI) rfl
          clear HX0 HW X3 hb3 c0 c1 c2 c3 c4 c5 HM
          cases bE : (E == 0) with
          | false =>
            have hR2 : R = false := by rw [← hR.out, bE]; rfl
            clear HA hzx hR
            go_wp2
            go_ret
            exact ⟨by first | (rw [hR2]; rfl) | rfl, HB3.out⟩
          | true =>
            by_cases h100 : X.length ≤ 100
            · have hR2 : R = BA := by rw [← hR.out, bE, decide_eq_true h100]; rfl
              have g100 : ((bs X).size : Int) ≤ 100 := by omega
              clear hzx h100 hR
              go_wp2_with fail
              refine (HA.out _).mono ?_
              rintro e w4 ⟨rfl, rfl⟩
              go_wp2
              go_ret
              exact ⟨by first | (rw [hR2]; rfl) | rfl, HB3.out⟩
            · have hR2 : R = false := by rw [← hR.out, bE, decide_eq_false h100]; rfl
              have g100 : ¬ ((bs X).size : Int) ≤ 100 := by omega
              clear hzx h100 HA hR
              go_wp2
              go_ret
              exact ⟨by first | (rw [hR2]; rfl) | rfl, HB3.out⟩
        · have g126 : 126 < cd := by omega
          rw [decide_eq_false (p := 64 ≤ cd ∧ cd ≤ 126) (fun h => h126 h.2), Bool.false_and]
          clear h64 h126
          clear HW HA hzx
          go_enter Tryd.func39, Tryd.ntmps39
          go_wp2_with fail
          refine (HM.out _).mono ?_
          rintro e w2 ⟨rfl, rfl⟩
          go_wp2
          go_ret
          exact ⟨rfl, HX0.out.2⟩
      · have g64 : cd < 64 := by omega
        rw [decide_eq_false (p := 64 ≤ cd ∧ cd ≤ 126) (fun h => h64 h.1), Bool.false_and]
        clear h64
        clear HW HA hzx
        go_enter Tryd.func39, Tryd.ntmps39
        go_wp2_with fail
        refine (HM.out _).mono ?_
        rintro e w2 ⟨rfl, rfl⟩
        go_wp2
        go_ret
        exact ⟨rfl, HX0.out.2⟩
end Go.Proofs.YtneiiinheimglaaDoor.B
