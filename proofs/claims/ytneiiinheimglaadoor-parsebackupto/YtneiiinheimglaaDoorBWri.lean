/-
  Contract of package parse's isWritable: what may be written; conditions: the tables of unicode/utf8 and internal/strconv.uint64pow10 hold what their initialisers lay; at most 2^40 bytes and numbers.
-/
import Derived.Test.YtneiiinheimglaaDoorBCsi
namespace Go.Proofs.YtneiiinheimglaaDoor.B
open Go.RowKit Go.Lib Go.Proofs.YtneiiinheimglaaDoor Go.Proofs.YtneiiinheimglaaDoor.W Go.Proofs.YtneiiinheimglaaDoor.Q Go.Proofs.YtneiiinheimglaaDoor.C Go.Proofs.YtneiiinheimglaaDoor.Z

def plB (mk : Int) (ar : List Int) : Bool := mk == 0 && ((ar.length : Int) == 0)
def wB (kd cd mk : Int) (im : List UInt8) (ar : List Int) (tx : List UInt8) : Bool :=
  if kd = 1 then prB cd && (plB mk ar && (im.isEmpty && tx.isEmpty))
  else if kd = 2 then acB cd && (plB mk ar && (im.isEmpty && tx.isEmpty))
  else if kd = 3 then escB im cd && (plB mk ar && tx.isEmpty)
  else if kd = 4 then csiB cd mk im ar && tx.isEmpty
  else if kd = 5 then txtB tx && (plB mk ar && (im.isEmpty && cd == 0))
  else false
set_option maxHeartbeats 16000000 in
set_option maxRecDepth 100000 in
theorem isWritable_any (kd cd mk : Int) (im : List UInt8) (ar : List Int) (tx : List UInt8) (v : Value) (w : World) (hv : RdI w v ar) (hT : Tab w) (hU : U.Tabs w) (hl : im.length ≤ 1099511627776) (hlt : tx.length ≤ 1099511627776) (hla : ar.length ≤ 1099511627776) :
    Calls Tryd.prog 18 #[.agg #[.int .i64 kd, .int .i64 cd, .int .i64 mk, .string (bs im), v, .string (bs tx)]] w fun e w' => e = .returned (.bool (wB kd cd mk im ar tx)) ∧ Below w.heap.size w w' := by
  have HP := Hid.mk' (fun W => isPrinted_any cd W)
  have HC := Hid.mk' (fun W => isActing_any cd W)
  have HE := Hid.mk' (fun W => isEscEnd_any im cd W hl)
  have HS := Hid.mk' (fun W (h : Below w.heap.size w W) => isCsi_any kd cd mk im ar tx v W (hv.below h) (hT.below h) hl hla)
  have HX := Hid.mk' (fun W (h : Below w.heap.size w W) => isText_any tx W (hU.below h) hlt)
  obtain ⟨R, hR⟩ : ∃ R, wB kd cd mk im ar tx = R := ⟨_, rfl⟩
  rw [hR]
  unfold wB at hR
  have e1 := isEmpty_bs im
  have e2 := isEmpty_bs tx
  have hpl : plB mk ar = (mk == 0 && ((ar.length : Int) == 0)) := rfl
  obtain ⟨ad, cp, rfl, hv2⟩ := hv
  clear hv2
  generalize plB mk ar = PL at *
  generalize prB cd = BP at *
  generalize acB cd = BC at *
  generalize escB im cd = BE at *
  generalize csiB cd mk im ar = BS at *
  generalize txtB tx = BX at *
  generalize im.isEmpty = BI at *
  generalize tx.isEmpty = BT at *
  generalize bs im = SI at *
  generalize bs tx = ST at *
  generalize ar.length = n at *
  clear hl hla hT hU hlt
  have hA0 : Below w.heap.size w (w.alloc (.cells #[.int .i64 kd, .int .i64 cd, .int .i64 mk, .string SI, .slice ad n cp, .string ST] 35)) := (Below.refl _ _).alloc (Nat.le_refl _) _
  have X0 := Box.new w 35 [.int .i64 kd, .int .i64 cd, .int .i64 mk, .string SI, .slice ad n cp, .string ST]
  have c0 := X0.cell (j := 0) (v := .int .i64 kd) rfl
  have c1 := X0.cell (j := 1) (v := .int .i64 cd) rfl
  have c2 := X0.cell (j := 2) (v := .int .i64 mk) rfl
  have c3 := X0.cell (j := 3) (v := .string SI) rfl
  have c4 := X0.cell (j := 4) (v := .slice ad n cp) rfl
  have c5 := X0.cell (j := 5) (v := .string ST) rfl
  have HX0 := Hid.mk' (And.intro X0 hA0)
  clear X0 hA0
  replace hR := Hid.mk' hR
  go_enter Tryd.func18, Tryd.ntmps18
  go_upto_region 1 with fail
  go_cut [3] (fun s3 wx => s3 = .bool PL ∧ Hid (Box wx w.heap.size 35 [.int .i64 kd, .int .i64 cd, .int .i64 mk, .string SI, .slice ad n cp, .string ST] ∧ Below w.heap.size w wx))
  case first =>
    clear HP HC HE HS HX hR e1 e2
    cases cm : (mk == 0) with
    | false =>
      rw [cm, Bool.false_and] at hpl
      subst hpl
      go_wp2_with fail
      go_meet
      exact ⟨rfl, HX0.out⟩
    | true =>
      rw [cm, Bool.true_and] at hpl
      subst hpl
      go_wp2_with fail
      go_meet
      exact ⟨rfl, HX0.out⟩
  case rest =>
  obtain ⟨rfl, HB⟩ := hcut
  clear HX0 c0 c1 c2 c3 c4 c5 hpl
  by_cases k1 : kd = 1
  · subst k1
    have hR : Hid ((BP && (PL && (BI && BT))) = R) := hR.out
    have c0 := HB.out.1.cell (j := 0) (v := .int .i64 1) rfl
    have c1 := HB.out.1.cell (j := 1) (v := .int .i64 cd) rfl
    have c2 := HB.out.1.cell (j := 2) (v := .int .i64 mk) rfl
    have c3 := HB.out.1.cell (j := 3) (v := .string SI) rfl
    have c4 := HB.out.1.cell (j := 4) (v := .slice ad n cp) rfl
    have c5 := HB.out.1.cell (j := 5) (v := .string ST) rfl
    cases BP with
    | false =>
      clear HC HE HS HX
      have R2 : R = false := hR.out.symm
      clear hR
      go_wp2_with fail
      refine (HP.out _).mono ?_
      rintro e w2 ⟨rfl, rfl⟩
      have HB2 := HB
      go_wp2
      go_ret
      exact ⟨by first | (rw [R2]; rfl) | rfl, HB2.out.2⟩
    | true =>
      cases PL with
      | false =>
        clear HC HE HS HX
        have R2 : R = false := hR.out.symm
        clear hR
        go_wp2_with fail
        refine (HP.out _).mono ?_
        rintro e w2 ⟨rfl, rfl⟩
        have HB2 := HB
        go_wp2
        go_ret
        exact ⟨by first | (rw [R2]; rfl) | rfl, HB2.out.2⟩
      | true =>
        cases BI with
        | false =>
          clear HC HE HS HX
          have R2 : R = false := hR.out.symm
          clear hR
          go_wp2_with fail
          refine (HP.out _).mono ?_
          rintro e w2 ⟨rfl, rfl⟩
          have HB2 := HB
          go_wp2
          go_ret
          exact ⟨by first | (rw [R2]; rfl) | rfl, HB2.out.2⟩
        | true =>
          clear HC HE HS HX
          have R2 : R = BT := hR.out.symm
          clear hR
          go_wp2_with fail
          refine (HP.out _).mono ?_
          rintro e w2 ⟨rfl, rfl⟩
          have HB2 := HB
          go_wp2
          go_ret
          exact ⟨by first | (rw [R2]; rfl) | rfl, HB2.out.2⟩
  by_cases k2 : kd = 2
  · subst k2
    have hR : Hid ((BC && (PL && (BI && BT))) = R) := hR.out
    have c0 := HB.out.1.cell (j := 0) (v := .int .i64 2) rfl
    have c1 := HB.out.1.cell (j := 1) (v := .int .i64 cd) rfl
    have c2 := HB.out.1.cell (j := 2) (v := .int .i64 mk) rfl
    have c3 := HB.out.1.cell (j := 3) (v := .string SI) rfl
    have c4 := HB.out.1.cell (j := 4) (v := .slice ad n cp) rfl
    have c5 := HB.out.1.cell (j := 5) (v := .string ST) rfl
    cases BC with
    | false =>
      clear HP HE HS HX
      have R2 : R = false := hR.out.symm
      clear hR
      go_wp2_with fail
      refine (HC.out _).mono ?_
      rintro e w2 ⟨rfl, rfl⟩
      have HB2 := HB
      go_wp2
      go_ret
      exact ⟨by first | (rw [R2]; rfl) | rfl, HB2.out.2⟩
    | true =>
      cases PL with
      | false =>
        clear HP HE HS HX
        have R2 : R = false := hR.out.symm
        clear hR
        go_wp2_with fail
        refine (HC.out _).mono ?_
        rintro e w2 ⟨rfl, rfl⟩
        have HB2 := HB
        go_wp2
        go_ret
        exact ⟨by first | (rw [R2]; rfl) | rfl, HB2.out.2⟩
      | true =>
        cases BI with
        | false =>
          clear HP HE HS HX
          have R2 : R = false := hR.out.symm
          clear hR
          go_wp2_with fail
          refine (HC.out _).mono ?_
          rintro e w2 ⟨rfl, rfl⟩
          have HB2 := HB
          go_wp2
          go_ret
          exact ⟨by first | (rw [R2]; rfl) | rfl, HB2.out.2⟩
        | true =>
          clear HP HE HS HX
          have R2 : R = BT := hR.out.symm
          clear hR
          go_wp2_with fail
          refine (HC.out _).mono ?_
          rintro e w2 ⟨rfl, rfl⟩
          have HB2 := HB
          go_wp2
          go_ret
          exact ⟨by first | (rw [R2]; rfl) | rfl, HB2.out.2⟩
  by_cases k3 : kd = 3
  · subst k3
    have hR : Hid ((BE && (PL && BT)) = R) := hR.out
    have c0 := HB.out.1.cell (j := 0) (v := .int .i64 3) rfl
    have c1 := HB.out.1.cell (j := 1) (v := .int .i64 cd) rfl
    have c2 := HB.out.1.cell (j := 2) (v := .int .i64 mk) rfl
    have c3 := HB.out.1.cell (j := 3) (v := .string SI) rfl
    have c4 := HB.out.1.cell (j := 4) (v := .slice ad n cp) rfl
    have c5 := HB.out.1.cell (j := 5) (v := .string ST) rfl
    cases BE with
    | false =>
      clear HP HC HS HX
      have R2 : R = false := hR.out.symm
      clear hR
      go_wp2_with fail
      refine (HE.out _).mono ?_
      rintro e w2 ⟨rfl, rfl⟩
      have HB2 := HB
      go_wp2
      go_ret
      exact ⟨by first | (rw [R2]; rfl) | rfl, HB2.out.2⟩
    | true =>
      cases PL with
      | false =>
        clear HP HC HS HX
        have R2 : R = false := hR.out.symm
        clear hR
        go_wp2_with fail
        refine (HE.out _).mono ?_
        rintro e w2 ⟨rfl, rfl⟩
        have HB2 := HB
        go_wp2
        go_ret
        exact ⟨by first | (rw [R2]; rfl) | rfl, HB2.out.2⟩
      | true =>
        clear HP HC HS HX
        have R2 : R = BT := hR.out.symm
        clear hR
        go_wp2_with fail
        refine (HE.out _).mono ?_
        rintro e w2 ⟨rfl, rfl⟩
        have HB2 := HB
        go_wp2
        go_ret
        exact ⟨by first | (rw [R2]; rfl) | rfl, HB2.out.2⟩
  by_cases k4 : kd = 4
  · subst k4
    have hR : Hid ((BS && BT) = R) := hR.out
    have c0 := HB.out.1.cell (j := 0) (v := .int .i64 4) rfl
    have c1 := HB.out.1.cell (j := 1) (v := .int .i64 cd) rfl
    have c2 := HB.out.1.cell (j := 2) (v := .int .i64 mk) rfl
    have c3 := HB.out.1.cell (j := 3) (v := .string SI) rfl
    have c4 := HB.out.1.cell (j := 4) (v := .slice ad n cp) rfl
    have c5 := HB.out.1.cell (j := 5) (v := .string ST) rfl
    cases BS with
    | false =>
      clear HP HC HE HX
      have R2 : R = false := hR.out.symm
      clear hR
      go_wp2_with fail
      refine (HS.out _ HB.out.2).mono ?_
      rintro e w2 ⟨rfl, hb2⟩
      have X2 := HB.out.1.later hb2
      have HB2 := Hid.mk' (HB.out.2.trans (Below.mono hb2 HB.out.2.size))
      have d0 := X2.cell (j := 0) (v := .int .i64 4) rfl
      have d1 := X2.cell (j := 1) (v := .int .i64 cd) rfl
      have d2 := X2.cell (j := 2) (v := .int .i64 mk) rfl
      have d3 := X2.cell (j := 3) (v := .string SI) rfl
      have d4 := X2.cell (j := 4) (v := .slice ad n cp) rfl
      have d5 := X2.cell (j := 5) (v := .string ST) rfl
      clear hb2 X2 HB c0 c1 c2 c3 c4 c5 HS
      go_wp2
      go_ret
      exact ⟨by first | (rw [R2]; rfl) | rfl, HB2.out⟩
    | true =>
      clear HP HC HE HX
      have R2 : R = BT := hR.out.symm
      clear hR
      go_wp2_with fail
      refine (HS.out _ HB.out.2).mono ?_
      rintro e w2 ⟨rfl, hb2⟩
      have X2 := HB.out.1.later hb2
      have HB2 := Hid.mk' (HB.out.2.trans (Below.mono hb2 HB.out.2.size))
      have d0 := X2.cell (j := 0) (v := .int .i64 4) rfl
      have d1 := X2.cell (j := 1) (v := .int .i64 cd) rfl
      have d2 := X2.cell (j := 2) (v := .int .i64 mk) rfl
      have d3 := X2.cell (j := 3) (v := .string SI) rfl
      have d4 := X2.cell (j := 4) (v := .slice ad n cp) rfl
      have d5 := X2.cell (j := 5) (v := .string ST) rfl
      clear hb2 X2 HB c0 c1 c2 c3 c4 c5 HS
      go_wp2
      go_ret
      exact ⟨by first | (rw [R2]; rfl) | rfl, HB2.out⟩
  by_cases k5 : kd = 5
  · subst k5
    have hR : Hid ((BX && (PL && (BI && (cd == 0)))) = R) := hR.out
    have c0 := HB.out.1.cell (j := 0) (v := .int .i64 5) rfl
    have c1 := HB.out.1.cell (j := 1) (v := .int .i64 cd) rfl
    have c2 := HB.out.1.cell (j := 2) (v := .int .i64 mk) rfl
    have c3 := HB.out.1.cell (j := 3) (v := .string SI) rfl
    have c4 := HB.out.1.cell (j := 4) (v := .slice ad n cp) rfl
    have c5 := HB.out.1.cell (j := 5) (v := .string ST) rfl
    cases BX with
    | false =>
      clear HP HC HE HS
      have R2 : R = false := hR.out.symm
      clear hR
      go_wp2_with fail
      refine (HX.out _ HB.out.2).mono ?_
      rintro e w2 ⟨rfl, hb2⟩
      have X2 := HB.out.1.later hb2
      have HB2 := Hid.mk' (HB.out.2.trans (Below.mono hb2 HB.out.2.size))
      have d0 := X2.cell (j := 0) (v := .int .i64 5) rfl
      have d1 := X2.cell (j := 1) (v := .int .i64 cd) rfl
      have d2 := X2.cell (j := 2) (v := .int .i64 mk) rfl
      have d3 := X2.cell (j := 3) (v := .string SI) rfl
      have d4 := X2.cell (j := 4) (v := .slice ad n cp) rfl
      have d5 := X2.cell (j := 5) (v := .string ST) rfl
      clear hb2 X2 HB c0 c1 c2 c3 c4 c5 HX
      go_wp2
      go_ret
      exact ⟨by first | (rw [R2]; rfl) | rfl, HB2.out⟩
    | true =>
      cases PL with
      | false =>
        clear HP HC HE HS
        have R2 : R = false := hR.out.symm
        clear hR
        go_wp2_with fail
        refine (HX.out _ HB.out.2).mono ?_
        rintro e w2 ⟨rfl, hb2⟩
        have X2 := HB.out.1.later hb2
        have HB2 := Hid.mk' (HB.out.2.trans (Below.mono hb2 HB.out.2.size))
        have d0 := X2.cell (j := 0) (v := .int .i64 5) rfl
        have d1 := X2.cell (j := 1) (v := .int .i64 cd) rfl
        have d2 := X2.cell (j := 2) (v := .int .i64 mk) rfl
        have d3 := X2.cell (j := 3) (v := .string SI) rfl
        have d4 := X2.cell (j := 4) (v := .slice ad n cp) rfl
        have d5 := X2.cell (j := 5) (v := .string ST) rfl
        clear hb2 X2 HB c0 c1 c2 c3 c4 c5 HX
        go_wp2
        go_ret
        exact ⟨by first | (rw [R2]; rfl) | rfl, HB2.out⟩
      | true =>
        cases BI with
        | false =>
          clear HP HC HE HS
          have R2 : R = false := hR.out.symm
          clear hR
          go_wp2_with fail
          refine (HX.out _ HB.out.2).mono ?_
          rintro e w2 ⟨rfl, hb2⟩
          have X2 := HB.out.1.later hb2
          have HB2 := Hid.mk' (HB.out.2.trans (Below.mono hb2 HB.out.2.size))
          have d0 := X2.cell (j := 0) (v := .int .i64 5) rfl
          have d1 := X2.cell (j := 1) (v := .int .i64 cd) rfl
          have d2 := X2.cell (j := 2) (v := .int .i64 mk) rfl
          have d3 := X2.cell (j := 3) (v := .string SI) rfl
          have d4 := X2.cell (j := 4) (v := .slice ad n cp) rfl
          have d5 := X2.cell (j := 5) (v := .string ST) rfl
          clear hb2 X2 HB c0 c1 c2 c3 c4 c5 HX
          go_wp2
          go_ret
          exact ⟨by first | (rw [R2]; rfl) | rfl, HB2.out⟩
        | true =>
          clear HP HC HE HS
          have R2 : R = (cd == 0) := hR.out.symm
          clear hR
          go_wp2_with fail
          refine (HX.out _ HB.out.2).mono ?_
          rintro e w2 ⟨rfl, hb2⟩
          have X2 := HB.out.1.later hb2
          have HB2 := Hid.mk' (HB.out.2.trans (Below.mono hb2 HB.out.2.size))
          have d0 := X2.cell (j := 0) (v := .int .i64 5) rfl
          have d1 := X2.cell (j := 1) (v := .int .i64 cd) rfl
          have d2 := X2.cell (j := 2) (v := .int .i64 mk) rfl
          have d3 := X2.cell (j := 3) (v := .string SI) rfl
          have d4 := X2.cell (j := 4) (v := .slice ad n cp) rfl
          have d5 := X2.cell (j := 5) (v := .string ST) rfl
          clear hb2 X2 HB c0 c1 c2 c3 c4 c5 HX
          go_wp2
          go_ret
          exact ⟨by first | (rw [R2]; rfl) | rfl, HB2.out⟩
  have hR2 : R = false := by
    have h := hR.out
    rw [if_neg k1, if_neg k2, if_neg k3, if_neg k4, if_neg k5] at h
    exact h.symm
  have q1 : (kd == 1) = false := beq_false_of_ne k1
  have q2 : (kd == 2) = false := beq_false_of_ne k2
  have q3 : (kd == 3) = false := beq_false_of_ne k3
  have q4 : (kd == 4) = false := beq_false_of_ne k4
  have q5 : (kd == 5) = false := beq_false_of_ne k5
  have c0 := HB.out.1.cell (j := 0) (v := .int .i64 kd) rfl
  have c1 := HB.out.1.cell (j := 1) (v := .int .i64 cd) rfl
  have c2 := HB.out.1.cell (j := 2) (v := .int .i64 mk) rfl
  have c3 := HB.out.1.cell (j := 3) (v := .string SI) rfl
  have c4 := HB.out.1.cell (j := 4) (v := .slice ad n cp) rfl
  have c5 := HB.out.1.cell (j := 5) (v := .string ST) rfl
  clear HP HC HE HS HX hR k1 k2 k3 k4 k5
  go_wp2
  go_ret
  exact ⟨by first | (rw [hR2]; rfl) | rfl, HB.out.2⟩
end Go.Proofs.YtneiiinheimglaaDoor.B
