/-
  Contracts of package parse's isCsi and isWritable: what may be written; conditions: the tables of unicode/utf8 and internal/strconv.uint64pow10 hold what their initialisers lay; at most 2^40 bytes and numbers.
  Contract of package parse's isWritable: what may be written; conditions: the tables of unicode/utf8 and internal/strconv.uint64pow10 hold what their initialisers lay; at most 2^40 bytes and numbers.
  Contract of package parse's written: what an act is in UTF-8; conditions: the table internal/strconv.uint64pow10 holds what its initialiser lays; a code and a mark that are runes; at most 2^40 bytes and numbers.
-/
import Derived.Test.YtneiiinheimglaaGreatDoorBTxt
import Derived.Test.YtneiiinheimglaaGreatDoorBWr
namespace Go.Proofs.YtneiiinheimglaaGreatDoor.B
open Go.RowKit Go.Lib Go.Proofs.YtneiiinheimglaaGreatDoor Go.Proofs.YtneiiinheimglaaGreatDoor.W Go.Proofs.YtneiiinheimglaaGreatDoor.Q Go.Proofs.YtneiiinheimglaaGreatDoor.C Go.Proofs.YtneiiinheimglaaGreatDoor.Z

def csiB (cd mk : Int) (im : List UInt8) (ar : List Int) : Bool := (decide (mk = 0) || decide (60 ≤ mk ∧ mk ≤ 63)) && (decide (64 ≤ cd ∧ cd ≤ 126) && ((writeT ar).2 == 0 && (decide ((writeT ar).1.length ≤ 100) && areMid im 2)))
set_option maxHeartbeats 8000000 in
set_option maxRecDepth 100000 in
theorem isCsi_any (kd cd mk : Int) (im : List UInt8) (ar : List Int) (tx : List UInt8) (v : Value) (w : World) (hv : RdI w v ar) (hT : Tab w) (hl : im.length ≤ 1099511627776) (hla : ar.length ≤ 1099511627776) :
    Calls Tryz.prog 19 #[.agg #[.int .i64 kd, .int .i64 cd, .int .i64 mk, .string (bs im), v, .string (bs tx)]] w fun e w' => e = .returned (.bool (csiB cd mk im ar)) ∧ Below w.heap.size w w' := by
  have HA := Hid.mk' (fun W => areInter_any im 2 W hl)
  have HM := Hid.mk' (fun W => isMark_any mk W)
  unfold csiB
  have HW := Hid.mk' (fun W (h : Below w.heap.size w W) => Write_any v ar W (hv.below h) (hT.below h) (by omega))
  have hzx := C.bs_size (writeT ar).1
  generalize writeT ar = Y at *
  obtain ⟨X, E⟩ := Y
  dsimp only at *
  obtain ⟨ad, cp, rfl, hv2⟩ := hv
  clear hv2
  generalize areMid im 2 = BA at *
  generalize hSI : bs im = SI at *
  generalize bs tx = ST at *
  generalize ar.length = n at *
  clear hSI hl hla hT
  have hA0 : Below w.heap.size w (w.alloc (.cells #[.int .i64 kd, .int .i64 cd, .int .i64 mk, .string SI, .slice ad n cp, .string ST] 24)) := (Below.refl _ _).alloc (Nat.le_refl _) _
  have X0 := Box.new w 24 [.int .i64 kd, .int .i64 cd, .int .i64 mk, .string SI, .slice ad n cp, .string ST]
  have c0 := X0.cell (j := 0) (v := .int .i64 kd) rfl
  have c1 := X0.cell (j := 1) (v := .int .i64 cd) rfl
  have c2 := X0.cell (j := 2) (v := .int .i64 mk) rfl
  have c3 := X0.cell (j := 3) (v := .string SI) rfl
  have c4 := X0.cell (j := 4) (v := .slice ad n cp) rfl
  have c5 := X0.cell (j := 5) (v := .string ST) rfl
  have HX0 := Hid.mk' (And.intro X0 hA0)
  clear X0 hA0
  by_cases hm0 : mk = 0
  · have hm0' : (mk != 0) = false := by rw [hm0]; rfl
    rw [decide_eq_true hm0, Bool.true_or, Bool.true_and]
    clear hm0
    by_cases h64 : 64 ≤ cd
    · have g64 : ¬ cd < 64 := by omega
      by_cases h126 : cd ≤ 126
      · have g126 : ¬ 126 < cd := by omega
        rw [decide_eq_true ⟨h64, h126⟩, Bool.true_and]
        clear h64 h126
        obtain ⟨R, hR⟩ : ∃ R, (E == 0 && (decide (X.length ≤ 100) && BA)) = R := ⟨_, rfl⟩
        rw [hR]
        replace hR := Hid.mk' hR
        clear HM
        go_enter Tryz.func19, Tryz.ntmps19
        go_wp2_with fail
        refine (HW.out _ HX0.out.2).mono ?_
        rintro e w3 ⟨rfl, hb3⟩
        have X3 := HX0.out.1.later hb3
        have HB3 := Hid.mk' (HX0.out.2.trans (Below.mono hb3 HX0.out.2.size))
        have d3 := X3.cell (j := 3) (v := .string SI) rfl
        clear HX0 HW X3 hb3 c0 c1 c2 c3 c4 c5
        cases bE : (E == 0) with
        | false =>
          have hR2 : R = false := by rw [← hR.out, bE]; rfl
          clear HA hzx hR
          go_wp2
          go_ret
          exact ⟨by first | (rw [hR2]; rfl) | rfl, HB3.out⟩
        | true =>
          by_cases h100 : X.length ≤ 100
          · have hR2 : R = BA := by rw [← hR.out, bE, decide_eq_true h100]; rfl
            have g100 : ((bs X).size : Int) ≤ 100 := by omega
            clear hzx h100 hR
            go_wp2_with fail
            refine (HA.out _).mono ?_
            rintro e w4 ⟨rfl, rfl⟩
            go_wp2
            go_ret
            exact ⟨by first | (rw [hR2]; rfl) | rfl, HB3.out⟩
          · have hR2 : R = false := by rw [← hR.out, bE, decide_eq_false h100]; rfl
            have g100 : ¬ ((bs X).size : Int) ≤ 100 := by omega
            clear hzx h100 HA hR
            go_wp2
            go_ret
            exact ⟨by first | (rw [hR2]; rfl) | rfl, HB3.out⟩
      · have g126 : 126 < cd := by omega
        rw [decide_eq_false (p := 64 ≤ cd ∧ cd ≤ 126) (fun h => h126 h.2), Bool.false_and]
        clear h64 h126
        clear HW HA hzx
        clear HM
        go_enter Tryz.func19, Tryz.ntmps19
        go_wp2
        go_ret
        exact ⟨rfl, HX0.out.2⟩
    · have g64 : cd < 64 := by omega
      rw [decide_eq_false (p := 64 ≤ cd ∧ cd ≤ 126) (fun h => h64 h.1), Bool.false_and]
      clear h64
      clear HW HA hzx
      clear HM
      go_enter Tryz.func19, Tryz.ntmps19
      go_wp2
      go_ret
      exact ⟨rfl, HX0.out.2⟩
  · have hm0' : (mk != 0) = true := bne_of hm0
    rw [decide_eq_false hm0, Bool.false_or]
    cases bM : decide (60 ≤ mk ∧ mk ≤ 63) with
    | false =>
      rw [bM] at HM
      rw [Bool.false_and]
      clear hm0 bM
      clear HW HA hzx
      go_enter Tryz.func19, Tryz.ntmps19
      go_wp2_with fail
      refine (HM.out _).mono ?_
      rintro e w2 ⟨rfl, rfl⟩
      go_wp2
      go_ret
      exact ⟨rfl, HX0.out.2⟩
    | true =>
      rw [bM] at HM
      rw [Bool.true_and]
      clear hm0 bM
      by_cases h64 : 64 ≤ cd
      · have g64 : ¬ cd < 64 := by omega
        by_cases h126 : cd ≤ 126
        · have g126 : ¬ 126 < cd := by omega
          rw [decide_eq_true ⟨h64, h126⟩, Bool.true_and]
          clear h64 h126
          obtain ⟨R, hR⟩ : ∃ R, (E == 0 && (decide (X.length ≤ 100) && BA)) = R := ⟨_, rfl⟩
          rw [hR]
          replace hR := Hid.mk' hR
          go_enter Tryz.func19, Tryz.ntmps19
          go_wp2_with fail
          refine (HM.out _).mono ?_
          rintro e w2 ⟨rfl, rfl⟩
          go_wp2_with fail
          refine (HW.out _ HX0.out.2).mono ?_
          rintro e w3 ⟨rfl, hb3⟩
          have X3 := HX0.out.1.later hb3
          have HB3 := Hid.mk' (HX0.out.2.trans (Below.mono hb3 HX0.out.2.size))
          have d3 := X3.cell (j := 3) (v := .string SI) rfl
          clear HX0 HW X3 hb3 c0 c1 c2 c3 c4 c5 HM
          cases bE : (E == 0) with
          | false =>
            have hR2 : R = false := by rw [← hR.out, bE]; rfl
            clear HA hzx hR
            go_wp2
            go_ret
            exact ⟨by first | (rw [hR2]; rfl) | rfl, HB3.out⟩
          | true =>
            by_cases h100 : X.length ≤ 100
            · have hR2 : R = BA := by rw [← hR.out, bE, decide_eq_true h100]; rfl
              have g100 : ((bs X).size : Int) ≤ 100 := by omega
              clear hzx h100 hR
              go_wp2_with fail
              refine (HA.out _).mono ?_
              rintro e w4 ⟨rfl, rfl⟩
              go_wp2
              go_ret
              exact ⟨by first | (rw [hR2]; rfl) | rfl, HB3.out⟩
            · have hR2 : R = false := by rw [← hR.out, bE, decide_eq_false h100]; rfl
              have g100 : ¬ ((bs X).size : Int) ≤ 100 := by omega
              clear hzx h100 HA hR
              go_wp2
              go_ret
              exact ⟨by first | (rw [hR2]; rfl) | rfl, HB3.out⟩
        · have g126 : 126 < cd := by omega
          rw [decide_eq_false (p := 64 ≤ cd ∧ cd ≤ 126) (fun h => h126 h.2), Bool.false_and]
          clear h64 h126
          clear HW HA hzx
          go_enter Tryz.func19, Tryz.ntmps19
          go_wp2_with fail
          refine (HM.out _).mono ?_
          rintro e w2 ⟨rfl, rfl⟩
          go_wp2
          go_ret
          exact ⟨rfl, HX0.out.2⟩
      · have g64 : cd < 64 := by omega
        rw [decide_eq_false (p := 64 ≤ cd ∧ cd ≤ 126) (fun h => h64 h.1), Bool.false_and]
        clear h64
        clear HW HA hzx
        go_enter Tryz.func19, Tryz.ntmps19
        go_wp2_with fail
        refine (HM.out _).mono ?_
        rintro e w2 ⟨rfl, rfl⟩
        go_wp2
        go_ret
        exact ⟨rfl, HX0.out.2⟩
end Go.Proofs.YtneiiinheimglaaGreatDoor.B
namespace Go.Proofs.YtneiiinheimglaaGreatDoor.B
open Go.RowKit Go.Lib Go.Proofs.YtneiiinheimglaaGreatDoor Go.Proofs.YtneiiinheimglaaGreatDoor.W Go.Proofs.YtneiiinheimglaaGreatDoor.Q Go.Proofs.YtneiiinheimglaaGreatDoor.C Go.Proofs.YtneiiinheimglaaGreatDoor.Z

def plB (mk : Int) (ar : List Int) : Bool := mk == 0 && ((ar.length : Int) == 0)
def wB (kd cd mk : Int) (im : List UInt8) (ar : List Int) (tx : List UInt8) : Bool :=
  if kd = 1 then prB cd && (plB mk ar && (im.isEmpty && tx.isEmpty))
  else if kd = 2 then acB cd && (plB mk ar && (im.isEmpty && tx.isEmpty))
  else if kd = 3 then escB im cd && (plB mk ar && tx.isEmpty)
  else if kd = 4 then csiB cd mk im ar && tx.isEmpty
  else if kd = 5 then txtB tx && (plB mk ar && (im.isEmpty && cd == 0))
  else false
set_option maxHeartbeats 16000000 in
set_option maxRecDepth 100000 in
theorem isWritable_any (kd cd mk : Int) (im : List UInt8) (ar : List Int) (tx : List UInt8) (v : Value) (w : World) (hv : RdI w v ar) (hT : Tab w) (hU : U.Tabs w) (hl : im.length ≤ 1099511627776) (hlt : tx.length ≤ 1099511627776) (hla : ar.length ≤ 1099511627776) :
    Calls Tryz.prog 7 #[.agg #[.int .i64 kd, .int .i64 cd, .int .i64 mk, .string (bs im), v, .string (bs tx)]] w fun e w' => e = .returned (.bool (wB kd cd mk im ar tx)) ∧ Below w.heap.size w w' := by
  have HP := Hid.mk' (fun W => isPrinted_any cd W)
  have HC := Hid.mk' (fun W => isActing_any cd W)
  have HE := Hid.mk' (fun W => isEscEnd_any im cd W hl)
  have HS := Hid.mk' (fun W (h : Below w.heap.size w W) => isCsi_any kd cd mk im ar tx v W (hv.below h) (hT.below h) hl hla)
  have HX := Hid.mk' (fun W (h : Below w.heap.size w W) => isText_any tx W (hU.below h) hlt)
  obtain ⟨R, hR⟩ : ∃ R, wB kd cd mk im ar tx = R := ⟨_, rfl⟩
  rw [hR]
  unfold wB at hR
  have e1 := isEmpty_bs im
  have e2 := isEmpty_bs tx
  have hpl : plB mk ar = (mk == 0 && ((ar.length : Int) == 0)) := rfl
  obtain ⟨ad, cp, rfl, hv2⟩ := hv
  clear hv2
  generalize plB mk ar = PL at *
  generalize prB cd = BP at *
  generalize acB cd = BC at *
  generalize escB im cd = BE at *
  generalize csiB cd mk im ar = BS at *
  generalize txtB tx = BX at *
  generalize im.isEmpty = BI at *
  generalize tx.isEmpty = BT at *
  generalize bs im = SI at *
  generalize bs tx = ST at *
  generalize ar.length = n at *
  clear hl hla hT hU hlt
  have hA0 : Below w.heap.size w (w.alloc (.cells #[.int .i64 kd, .int .i64 cd, .int .i64 mk, .string SI, .slice ad n cp, .string ST] 24)) := (Below.refl _ _).alloc (Nat.le_refl _) _
  have X0 := Box.new w 24 [.int .i64 kd, .int .i64 cd, .int .i64 mk, .string SI, .slice ad n cp, .string ST]
  have c0 := X0.cell (j := 0) (v := .int .i64 kd) rfl
  have c1 := X0.cell (j := 1) (v := .int .i64 cd) rfl
  have c2 := X0.cell (j := 2) (v := .int .i64 mk) rfl
  have c3 := X0.cell (j := 3) (v := .string SI) rfl
  have c4 := X0.cell (j := 4) (v := .slice ad n cp) rfl
  have c5 := X0.cell (j := 5) (v := .string ST) rfl
  have HX0 := Hid.mk' (And.intro X0 hA0)
  clear X0 hA0
  replace hR := Hid.mk' hR
  go_enter Tryz.func7, Tryz.ntmps7
  go_upto_region 1 with fail
  go_cut [3] (fun s3 wx => s3 = .bool PL ∧ Hid (Box wx w.heap.size 24 [.int .i64 kd, .int .i64 cd, .int .i64 mk, .string SI, .slice ad n cp, .string ST] ∧ Below w.heap.size w wx))
  case first =>
    clear HP HC HE HS HX hR e1 e2
    cases cm : (mk == 0) with
    | false =>
      rw [cm, Bool.false_and] at hpl
      subst hpl
      go_wp2_with fail
      go_meet
      exact ⟨rfl, HX0.out⟩
    | true =>
      rw [cm, Bool.true_and] at hpl
      subst hpl
      go_wp2_with fail
      go_meet
      exact ⟨rfl, HX0.out⟩
  case rest =>
  obtain ⟨rfl, HB⟩ := hcut
  clear HX0 c0 c1 c2 c3 c4 c5 hpl
  by_cases k1 : kd = 1
  · subst k1
    have hR : Hid ((BP && (PL && (BI && BT))) = R) := hR.out
    have c0 := HB.out.1.cell (j := 0) (v := .int .i64 1) rfl
    have c1 := HB.out.1.cell (j := 1) (v := .int .i64 cd) rfl
    have c2 := HB.out.1.cell (j := 2) (v := .int .i64 mk) rfl
    have c3 := HB.out.1.cell (j := 3) (v := .string SI) rfl
    have c4 := HB.out.1.cell (j := 4) (v := .slice ad n cp) rfl
    have c5 := HB.out.1.cell (j := 5) (v := .string ST) rfl
    cases BP with
    | false =>
      clear HC HE HS HX
      have R2 : R = false := hR.out.symm
      clear hR
      go_wp2_with fail
      refine (HP.out _).mono ?_
      rintro e w2 ⟨rfl, rfl⟩
      have HB2 := HB
      go_wp2
      go_ret
      exact ⟨by first | (rw [R2]; rfl) | rfl, HB2.out.2⟩
    | true =>
      cases PL with
      | false =>
        clear HC HE HS HX
        have R2 : R = false := hR.out.symm
        clear hR
        go_wp2_with fail
        refine (HP.out _).mono ?_
        rintro e w2 ⟨rfl, rfl⟩
        have HB2 := HB
        go_wp2
        go_ret
        exact ⟨by first | (rw [R2]; rfl) | rfl, HB2.out.2⟩
      | true =>
        cases BI with
        | false =>
          clear HC HE HS HX
          have R2 : R = false := hR.out.symm
          clear hR
          go_wp2_with fail
          refine (HP.out _).mono ?_
          rintro e w2 ⟨rfl, rfl⟩
          have HB2 := HB
          go_wp2
          go_ret
          exact ⟨by first | (rw [R2]; rfl) | rfl, HB2.out.2⟩
        | true =>
          clear HC HE HS HX
          have R2 : R = BT := hR.out.symm
          clear hR
          go_wp2_with fail
          refine (HP.out _).mono ?_
          rintro e w2 ⟨rfl, rfl⟩
          have HB2 := HB
          go_wp2
          go_ret
          exact ⟨by first | (rw [R2]; rfl) | rfl, HB2.out.2⟩
  by_cases k2 : kd = 2
  · subst k2
    have hR : Hid ((BC && (PL && (BI && BT))) = R) := hR.out
    have c0 := HB.out.1.cell (j := 0) (v := .int .i64 2) rfl
    have c1 := HB.out.1.cell (j := 1) (v := .int .i64 cd) rfl
    have c2 := HB.out.1.cell (j := 2) (v := .int .i64 mk) rfl
    have c3 := HB.out.1.cell (j := 3) (v := .string SI) rfl
    have c4 := HB.out.1.cell (j := 4) (v := .slice ad n cp) rfl
    have c5 := HB.out.1.cell (j := 5) (v := .string ST) rfl
    cases BC with
    | false =>
      clear HP HE HS HX
      have R2 : R = false := hR.out.symm
      clear hR
      go_wp2_with fail
      refine (HC.out _).mono ?_
      rintro e w2 ⟨rfl, rfl⟩
      have HB2 := HB
      go_wp2
      go_ret
      exact ⟨by first | (rw [R2]; rfl) | rfl, HB2.out.2⟩
    | true =>
      cases PL with
      | false =>
        clear HP HE HS HX
        have R2 : R = false := hR.out.symm
        clear hR
        go_wp2_with fail
        refine (HC.out _).mono ?_
        rintro e w2 ⟨rfl, rfl⟩
        have HB2 := HB
        go_wp2
        go_ret
        exact ⟨by first | (rw [R2]; rfl) | rfl, HB2.out.2⟩
      | true =>
        cases BI with
        | false =>
          clear HP HE HS HX
          have R2 : R = false := hR.out.symm
          clear hR
          go_wp2_with fail
          refine (HC.out _).mono ?_
          rintro e w2 ⟨rfl, rfl⟩
          have HB2 := HB
          go_wp2
          go_ret
          exact ⟨by first | (rw [R2]; rfl) | rfl, HB2.out.2⟩
        | true =>
          clear HP HE HS HX
          have R2 : R = BT := hR.out.symm
          clear hR
          go_wp2_with fail
          refine (HC.out _).mono ?_
          rintro e w2 ⟨rfl, rfl⟩
          have HB2 := HB
          go_wp2
          go_ret
          exact ⟨by first | (rw [R2]; rfl) | rfl, HB2.out.2⟩
  by_cases k3 : kd = 3
  · subst k3
    have hR : Hid ((BE && (PL && BT)) = R) := hR.out
    have c0 := HB.out.1.cell (j := 0) (v := .int .i64 3) rfl
    have c1 := HB.out.1.cell (j := 1) (v := .int .i64 cd) rfl
    have c2 := HB.out.1.cell (j := 2) (v := .int .i64 mk) rfl
    have c3 := HB.out.1.cell (j := 3) (v := .string SI) rfl
    have c4 := HB.out.1.cell (j := 4) (v := .slice ad n cp) rfl
    have c5 := HB.out.1.cell (j := 5) (v := .string ST) rfl
    cases BE with
    | false =>
      clear HP HC HS HX
      have R2 : R = false := hR.out.symm
      clear hR
      go_wp2_with fail
      refine (HE.out _).mono ?_
      rintro e w2 ⟨rfl, rfl⟩
      have HB2 := HB
      go_wp2
      go_ret
      exact ⟨by first | (rw [R2]; rfl) | rfl, HB2.out.2⟩
    | true =>
      cases PL with
      | false =>
        clear HP HC HS HX
        have R2 : R = false := hR.out.symm
        clear hR
        go_wp2_with fail
        refine (HE.out _).mono ?_
        rintro e w2 ⟨rfl, rfl⟩
        have HB2 := HB
        go_wp2
        go_ret
        exact ⟨by first | (rw [R2]; rfl) | rfl, HB2.out.2⟩
      | true =>
        clear HP HC HS HX
        have R2 : R = BT := hR.out.symm
        clear hR
        go_wp2_with fail
        refine (HE.out _).mono ?_
        rintro e w2 ⟨rfl, rfl⟩
        have HB2 := HB
        go_wp2
        go_ret
        exact ⟨by first | (rw [R2]; rfl) | rfl, HB2.out.2⟩
  by_cases k4 : kd = 4
  · subst k4
    have hR : Hid ((BS && BT) = R) := hR.out
    have c0 := HB.out.1.cell (j := 0) (v := .int .i64 4) rfl
    have c1 := HB.out.1.cell (j := 1) (v := .int .i64 cd) rfl
    have c2 := HB.out.1.cell (j := 2) (v := .int .i64 mk) rfl
    have c3 := HB.out.1.cell (j := 3) (v := .string SI) rfl
    have c4 := HB.out.1.cell (j := 4) (v := .slice ad n cp) rfl
    have c5 := HB.out.1.cell (j := 5) (v := .string ST) rfl
    cases BS with
    | false =>
      clear HP HC HE HX
      have R2 : R = false := hR.out.symm
      clear hR
      go_wp2_with fail
      refine (HS.out _ HB.out.2).mono ?_
      rintro e w2 ⟨rfl, hb2⟩
      have X2 := HB.out.1.later hb2
      have HB2 := Hid.mk' (HB.out.2.trans (Below.mono hb2 HB.out.2.size))
      have d0 := X2.cell (j := 0) (v := .int .i64 4) rfl
      have d1 := X2.cell (j := 1) (v := .int .i64 cd) rfl
      have d2 := X2.cell (j := 2) (v := .int .i64 mk) rfl
      have d3 := X2.cell (j := 3) (v := .string SI) rfl
      have d4 := X2.cell (j := 4) (v := .slice ad n cp) rfl
      have d5 := X2.cell (j := 5) (v := .string ST) rfl
      clear hb2 X2 HB c0 c1 c2 c3 c4 c5 HS
      go_wp2
      go_ret
      exact ⟨by first | (rw [R2]; rfl) | rfl, HB2.out⟩
    | true =>
      clear HP HC HE HX
      have R2 : R = BT := hR.out.symm
      clear hR
      go_wp2_with fail
      refine (HS.out _ HB.out.2).mono ?_
      rintro e w2 ⟨rfl, hb2⟩
      have X2 := HB.out.1.later hb2
      have HB2 := Hid.mk' (HB.out.2.trans (Below.mono hb2 HB.out.2.size))
      have d0 := X2.cell (j := 0) (v := .int .i64 4) rfl
      have d1 := X2.cell (j := 1) (v := .int .i64 cd) rfl
      have d2 := X2.cell (j := 2) (v := .int .i64 mk) rfl
      have d3 := X2.cell (j := 3) (v := .string SI) rfl
      have d4 := X2.cell (j := 4) (v := .slice ad n cp) rfl
      have d5 := X2.cell (j := 5) (v := .string ST) rfl
      clear hb2 X2 HB c0 c1 c2 c3 c4 c5 HS
      go_wp2
      go_ret
      exact ⟨by first | (rw [R2]; rfl) | rfl, HB2.out⟩
  by_cases k5 : kd = 5
  · subst k5
    have hR : Hid ((BX && (PL && (BI && (cd == 0)))) = R) := hR.out
    have c0 := HB.out.1.cell (j := 0) (v := .int .i64 5) rfl
    have c1 := HB.out.1.cell (j := 1) (v := .int .i64 cd) rfl
    have c2 := HB.out.1.cell (j := 2) (v := .int .i64 mk) rfl
    have c3 := HB.out.1.cell (j := 3) (v := .string SI) rfl
    have c4 := HB.out.1.cell (j := 4) (v := .slice ad n cp) rfl
    have c5 := HB.out.1.cell (j := 5) (v := .string ST) rfl
    cases BX with
    | false =>
      clear HP HC HE HS
      have R2 : R = false := hR.out.symm
      clear hR
      go_wp2_with fail
      refine (HX.out _ HB.out.2).mono ?_
      rintro e w2 ⟨rfl, hb2⟩
      have X2 := HB.out.1.later hb2
      have HB2 := Hid.mk' (HB.out.2.trans (Below.mono hb2 HB.out.2.size))
      have d0 := X2.cell (j := 0) (v := .int .i64 5) rfl
      have d1 := X2.cell (j := 1) (v := .int .i64 cd) rfl
      have d2 := X2.cell (j := 2) (v := .int .i64 mk) rfl
      have d3 := X2.cell (j := 3) (v := .string SI) rfl
      have d4 := X2.cell (j := 4) (v := .slice ad n cp) rfl
      have d5 := X2.cell (j := 5) (v := .string ST) rfl
      clear hb2 X2 HB c0 c1 c2 c3 c4 c5 HX
      go_wp2
      go_ret
      exact ⟨by first | (rw [R2]; rfl) | rfl, HB2.out⟩
    | true =>
      cases PL with
      | false =>
        clear HP HC HE HS
        have R2 : R = false := hR.out.symm
        clear hR
        go_wp2_with fail
        refine (HX.out _ HB.out.2).mono ?_
        rintro e w2 ⟨rfl, hb2⟩
        have X2 := HB.out.1.later hb2
        have HB2 := Hid.mk' (HB.out.2.trans (Below.mono hb2 HB.out.2.size))
        have d0 := X2.cell (j := 0) (v := .int .i64 5) rfl
        have d1 := X2.cell (j := 1) (v := .int .i64 cd) rfl
        have d2 := X2.cell (j := 2) (v := .int .i64 mk) rfl
        have d3 := X2.cell (j := 3) (v := .string SI) rfl
        have d4 := X2.cell (j := 4) (v := .slice ad n cp) rfl
        have d5 := X2.cell (j := 5) (v := .string ST) rfl
        clear hb2 X2 HB c0 c1 c2 c3 c4 c5 HX
        go_wp2
        go_ret
        exact ⟨by first | (rw [R2]; rfl) | rfl, HB2.out⟩
      | true =>
        cases BI with
        | false =>
          clear HP HC HE HS
          have R2 : R = false := hR.out.symm
          clear hR
          go_wp2_with fail
          refine (HX.out _ HB.out.2).mono ?_
          rintro e w2 ⟨rfl, hb2⟩
          have X2 := HB.out.1.later hb2
          have HB2 := Hid.mk' (HB.out.2.trans (Below.mono hb2 HB.out.2.size))
          have d0 := X2.cell (j := 0) (v := .int .i64 5) rfl
          have d1 := X2.cell (j := 1) (v := .int .i64 cd) rfl
          have d2 := X2.cell (j := 2) (v := .int .i64 mk) rfl
          have d3 := X2.cell (j := 3) (v := .string SI) rfl
          have d4 := X2.cell (j := 4) (v := .slice ad n cp) rfl
          have d5 := X2.cell (j := 5) (v := .string ST) rfl
          clear hb2 X2 HB c0 c1 c2 c3 c4 c5 HX
          go_wp2
          go_ret
          exact ⟨by first | (rw [R2]; rfl) | rfl, HB2.out⟩
        | true =>
          clear HP HC HE HS
          have R2 : R = (cd == 0) := hR.out.symm
          clear hR
          go_wp2_with fail
          refine (HX.out _ HB.out.2).mono ?_
          rintro e w2 ⟨rfl, hb2⟩
          have X2 := HB.out.1.later hb2
          have HB2 := Hid.mk' (HB.out.2.trans (Below.mono hb2 HB.out.2.size))
          have d0 := X2.cell (j := 0) (v := .int .i64 5) rfl
          have d1 := X2.cell (j := 1) (v := .int .i64 cd) rfl
          have d2 := X2.cell (j := 2) (v := .int .i64 mk) rfl
          have d3 := X2.cell (j := 3) (v := .string SI) rfl
          have d4 := X2.cell (j := 4) (v := .slice ad n cp) rfl
          have d5 := X2.cell (j := 5) (v := .string ST) rfl
          clear hb2 X2 HB c0 c1 c2 c3 c4 c5 HX
          go_wp2
          go_ret
          exact ⟨by first | (rw [R2]; rfl) | rfl, HB2.out⟩
  have hR2 : R = false := by
    have h := hR.out
    rw [if_neg k1, if_neg k2, if_neg k3, if_neg k4, if_neg k5] at h
    exact h.symm
  have q1 : (kd == 1) = false := beq_false_of_ne k1
  have q2 : (kd == 2) = false := beq_false_of_ne k2
  have q3 : (kd == 3) = false := beq_false_of_ne k3
  have q4 : (kd == 4) = false := beq_false_of_ne k4
  have q5 : (kd == 5) = false := beq_false_of_ne k5
  have c0 := HB.out.1.cell (j := 0) (v := .int .i64 kd) rfl
  have c1 := HB.out.1.cell (j := 1) (v := .int .i64 cd) rfl
  have c2 := HB.out.1.cell (j := 2) (v := .int .i64 mk) rfl
  have c3 := HB.out.1.cell (j := 3) (v := .string SI) rfl
  have c4 := HB.out.1.cell (j := 4) (v := .slice ad n cp) rfl
  have c5 := HB.out.1.cell (j := 5) (v := .string ST) rfl
  clear HP HC HE HS HX hR k1 k2 k3 k4 k5
  go_wp2
  go_ret
  exact ⟨by first | (rw [hR2]; rfl) | rfl, HB.out.2⟩
end Go.Proofs.YtneiiinheimglaaGreatDoor.B
namespace Go.Proofs.YtneiiinheimglaaGreatDoor.B
open Go.RowKit Go.Lib Go.Proofs.YtneiiinheimglaaGreatDoor Go.Proofs.YtneiiinheimglaaGreatDoor.W Go.Proofs.YtneiiinheimglaaGreatDoor.Q Go.Proofs.YtneiiinheimglaaGreatDoor.C Go.Proofs.YtneiiinheimglaaGreatDoor.Z

theorem enc_utf {c : Int} (h : isR c) : Utf8.encode c = bs (encodeRune c) := by
  obtain ⟨r, rfl⟩ : ∃ r : Nat, c = (r : Int) := ⟨c.toNat, by unfold isR at h; omega⟩
  have hr : U.isRune r := by unfold isR at h; unfold U.isRune; omega
  have hv : Utf8.valid (r : Int) = true := by unfold isR at h; unfold Utf8.valid; simp; omega
  rw [U.encN_eq hr]
  unfold Utf8.encode U.encN
  simp only [hv, if_true, Int.toNat_natCast]
  by_cases h1 : r < 128
  · rw [if_pos h1, if_pos h1]; rfl
  rw [if_neg h1, if_neg h1]
  by_cases h2 : r < 2048
  · rw [if_pos h2, if_pos h2]; rfl
  rw [if_neg h2, if_neg h2]
  by_cases h3 : r < 65536
  · rw [if_pos h3, if_pos h3]; rfl
  rw [if_neg h3, if_neg h3]
  rfl
def wrT (kd cd mk : Int) (im : List UInt8) (ar : List Int) (tx : List UInt8) : List UInt8 :=
  if kd = 3 then [27] ++ im ++ encodeRune cd
  else if kd = 4 then [27, 91] ++ (if mk = 0 then [] else encodeRune mk) ++ (writeT ar).1 ++ im ++ encodeRune cd
  else if kd = 5 then [27, 93] ++ tx ++ [7] else encodeRune cd
set_option maxHeartbeats 8000000 in
set_option maxRecDepth 100000 in
theorem written_any (kd cd mk : Int) (im : List UInt8) (ar : List Int) (tx : List UInt8) (v : Value) (w : World) (hv : RdI w v ar) (hT : Tab w) (hc : isR cd) (hm : isR mk) (hl : im.length ≤ 1099511627776) (hlt : tx.length ≤ 1099511627776) (hla : ar.length ≤ 1099511627776) (hx : (writeT ar).1.length ≤ 1099511627776) :
    Calls Tryz.prog 9 #[.agg #[.int .i64 kd, .int .i64 cd, .int .i64 mk, .string (bs im), v, .string (bs tx)]] w fun e w' => e = .returned (.string (bs (wrT kd cd mk im ar tx))) ∧ Below w.heap.size w w' := by
  have HW := Hid.mk' (fun W (h : Below w.heap.size w W) => Write_any v ar W (hv.below h) (hT.below h) (by omega))
  obtain ⟨R, hR⟩ : ∃ R, wrT kd cd mk im ar tx = R := ⟨_, rfl⟩
  rw [hR]
  unfold wrT at hR
  generalize writeT ar = Y at *
  obtain ⟨X, E⟩ := Y
  dsimp only at *
  have EC := enc_utf hc
  have EM := enc_utf hm
  have z1 : (bs im).size ≤ 1099511627776 := by rw [C.bs_size]; exact hl
  have z2 : (bs tx).size ≤ 1099511627776 := by rw [C.bs_size]; exact hlt
  have z3 : (bs X).size ≤ 1099511627776 := by rw [C.bs_size]; exact hx
  have z4 : (bs (encodeRune cd)).size ≤ 4 := by rw [C.bs_size]; exact U.encodeRune_len cd
  have z5 : (bs (encodeRune mk)).size ≤ 4 := by rw [C.bs_size]; exact U.encodeRune_len mk
  have hc2 : 0 ≤ cd ∧ cd ≤ 1114111 := by unfold isR at hc; omega
  have hm2 : 0 ≤ mk ∧ mk ≤ 1114111 := by unfold isR at hm; omega
  have HB : Hid (bs R = (if kd = 3 then bs [27] ++ bs im ++ bs (encodeRune cd) else if kd = 4 then bs [27, 91] ++ (if mk = 0 then bs [] else bs (encodeRune mk)) ++ bs X ++ bs im ++ bs (encodeRune cd) else if kd = 5 then bs [27, 93] ++ bs tx ++ bs [7] else bs (encodeRune cd))) := by
    rw [Hid, ← hR]
    by_cases k3 : kd = 3
    · rw [if_pos k3, if_pos k3, C.bs_app, C.bs_app]
    rw [if_neg k3, if_neg k3]
    by_cases k4 : kd = 4
    · rw [if_pos k4, if_pos k4]
      by_cases h0 : mk = 0
      · rw [if_pos h0, if_pos h0, C.bs_app, C.bs_app, C.bs_app, C.bs_app]
      · rw [if_neg h0, if_neg h0, C.bs_app, C.bs_app, C.bs_app, C.bs_app]
    rw [if_neg k4, if_neg k4]
    by_cases k5 : kd = 5
    · rw [if_pos k5, if_pos k5, C.bs_app, C.bs_app]
    rw [if_neg k5, if_neg k5]
  obtain ⟨ad, cp, rfl, hv2⟩ := hv
  clear hv2 hR hc hm hl hlt hx hla hT
  generalize bs R = SR at *
  generalize bs im = SI at *
  generalize bs tx = ST at *
  generalize bs (encodeRune cd) = SC at *
  generalize bs (encodeRune mk) = SM at *
  generalize bs X = SX at *
  generalize ar.length = n at *
  have hA0 : Below w.heap.size w (w.alloc (.cells #[.int .i64 kd, .int .i64 cd, .int .i64 mk, .string SI, .slice ad n cp, .string ST] 24)) := (Below.refl _ _).alloc (Nat.le_refl _) _
  have X0 := Box.new w 24 [.int .i64 kd, .int .i64 cd, .int .i64 mk, .string SI, .slice ad n cp, .string ST]
  by_cases k3 : kd = 3
  · subst k3
    have HQ : Hid (SR = bs [27] ++ SI ++ SC) := HB.out
    have HX0 := Hid.mk' (And.intro X0 hA0)
    have c0 := HX0.out.1.cell (j := 0) (v := .int .i64 3) rfl
    have c1 := HX0.out.1.cell (j := 1) (v := .int .i64 cd) rfl
    have c2 := HX0.out.1.cell (j := 2) (v := .int .i64 mk) rfl
    have c3 := HX0.out.1.cell (j := 3) (v := .string SI) rfl
    have c4 := HX0.out.1.cell (j := 4) (v := .slice ad n cp) rfl
    have c5 := HX0.out.1.cell (j := 5) (v := .string ST) rfl
    clear X0 hA0 HB HW EM z5 hm2 z3
    go_enter Tryz.func9, Tryz.ntmps9
    go_wp2
    go_ret
    exact ⟨by rw [HQ.out]; rfl, HX0.out.2⟩
  by_cases k4 : kd = 4
  · subst k4
    by_cases h0 : mk = 0
    · have HQ : Hid (SR = bs [27, 91] ++ bs [] ++ SX ++ SI ++ SC) := by
        have h := HB.out
        rw [if_pos h0] at h
        exact h
      have h0' : (mk != 0) = false := by rw [h0]; rfl
      clear h0 EM z5 hm2
      have HX0 := Hid.mk' (And.intro X0 hA0)
      have c0 := HX0.out.1.cell (j := 0) (v := .int .i64 4) rfl
      have c1 := HX0.out.1.cell (j := 1) (v := .int .i64 cd) rfl
      have c2 := HX0.out.1.cell (j := 2) (v := .int .i64 mk) rfl
      have c3 := HX0.out.1.cell (j := 3) (v := .string SI) rfl
      have c4 := HX0.out.1.cell (j := 4) (v := .slice ad n cp) rfl
      have c5 := HX0.out.1.cell (j := 5) (v := .string ST) rfl
      clear X0 hA0 HB
      go_enter Tryz.func9, Tryz.ntmps9
      go_wp2_with fail
      refine (HW.out _ HX0.out.2).mono ?_
      rintro e w3 ⟨rfl, hb3⟩
      have X3 := HX0.out.1.later hb3
      have HB3 := Hid.mk' (HX0.out.2.trans (Below.mono hb3 HX0.out.2.size))
      have d0 := X3.cell (j := 0) (v := .int .i64 4) rfl
      have d1 := X3.cell (j := 1) (v := .int .i64 cd) rfl
      have d2 := X3.cell (j := 2) (v := .int .i64 mk) rfl
      have d3 := X3.cell (j := 3) (v := .string SI) rfl
      have d4 := X3.cell (j := 4) (v := .slice ad n cp) rfl
      have d5 := X3.cell (j := 5) (v := .string ST) rfl
      clear HX0 HW X3 hb3 c0 c1 c2 c3 c4 c5
      go_wp2
      go_ret
      exact ⟨by rw [HQ.out]; rfl, HB3.out⟩
    · have HQ : Hid (SR = bs [27, 91] ++ SM ++ SX ++ SI ++ SC) := by
        have h := HB.out
        rw [if_neg h0] at h
        exact h
      have h0' : (mk != 0) = true := bne_of h0
      clear h0
      have HX0 := Hid.mk' (And.intro X0 hA0)
      have c0 := HX0.out.1.cell (j := 0) (v := .int .i64 4) rfl
      have c1 := HX0.out.1.cell (j := 1) (v := .int .i64 cd) rfl
      have c2 := HX0.out.1.cell (j := 2) (v := .int .i64 mk) rfl
      have c3 := HX0.out.1.cell (j := 3) (v := .string SI) rfl
      have c4 := HX0.out.1.cell (j := 4) (v := .slice ad n cp) rfl
      have c5 := HX0.out.1.cell (j := 5) (v := .string ST) rfl
      clear X0 hA0 HB
      go_enter Tryz.func9, Tryz.ntmps9
      go_wp2_with fail
      refine (HW.out _ HX0.out.2).mono ?_
      rintro e w3 ⟨rfl, hb3⟩
      have X3 := HX0.out.1.later hb3
      have HB3 := Hid.mk' (HX0.out.2.trans (Below.mono hb3 HX0.out.2.size))
      have d0 := X3.cell (j := 0) (v := .int .i64 4) rfl
      have d1 := X3.cell (j := 1) (v := .int .i64 cd) rfl
      have d2 := X3.cell (j := 2) (v := .int .i64 mk) rfl
      have d3 := X3.cell (j := 3) (v := .string SI) rfl
      have d4 := X3.cell (j := 4) (v := .slice ad n cp) rfl
      have d5 := X3.cell (j := 5) (v := .string ST) rfl
      clear HX0 HW X3 hb3 c0 c1 c2 c3 c4 c5
      go_wp2
      go_ret
      exact ⟨by rw [HQ.out]; rfl, HB3.out⟩
  by_cases k5 : kd = 5
  · subst k5
    have HQ : Hid (SR = bs [27, 93] ++ ST ++ bs [7]) := HB.out
    have HX0 := Hid.mk' (And.intro X0 hA0)
    have c0 := HX0.out.1.cell (j := 0) (v := .int .i64 5) rfl
    have c1 := HX0.out.1.cell (j := 1) (v := .int .i64 cd) rfl
    have c2 := HX0.out.1.cell (j := 2) (v := .int .i64 mk) rfl
    have c3 := HX0.out.1.cell (j := 3) (v := .string SI) rfl
    have c4 := HX0.out.1.cell (j := 4) (v := .slice ad n cp) rfl
    have c5 := HX0.out.1.cell (j := 5) (v := .string ST) rfl
    clear X0 hA0 HB HW EM z5 hm2 z3
    go_enter Tryz.func9, Tryz.ntmps9
    go_wp2
    go_ret
    exact ⟨by rw [HQ.out]; rfl, HX0.out.2⟩
  have HQ : Hid (SR = SC) := by
    have h := HB.out
    rw [if_neg k3, if_neg k4, if_neg k5] at h
    exact h
  have q3 : (kd == 3) = false := beq_false_of_ne k3
  have q4 : (kd == 4) = false := beq_false_of_ne k4
  have q5 : (kd == 5) = false := beq_false_of_ne k5
  have HX0 := Hid.mk' (And.intro X0 hA0)
  have c0 := HX0.out.1.cell (j := 0) (v := .int .i64 kd) rfl
  have c1 := HX0.out.1.cell (j := 1) (v := .int .i64 cd) rfl
  have c2 := HX0.out.1.cell (j := 2) (v := .int .i64 mk) rfl
  have c3 := HX0.out.1.cell (j := 3) (v := .string SI) rfl
  have c4 := HX0.out.1.cell (j := 4) (v := .slice ad n cp) rfl
  have c5 := HX0.out.1.cell (j := 5) (v := .string ST) rfl
  clear X0 hA0 HB HW EM z5 hm2 z3 k3 k4 k5
  go_enter Tryz.func9, Tryz.ntmps9
  go_wp2
  go_ret
  exact ⟨by rw [HQ.out]; rfl, HX0.out.2⟩
end Go.Proofs.YtneiiinheimglaaGreatDoor.B
