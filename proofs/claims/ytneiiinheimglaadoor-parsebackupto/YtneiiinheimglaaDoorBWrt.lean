/-
  Contract of package parse's written: what an act is in UTF-8; conditions: the table internal/strconv.uint64pow10 holds what its initialiser lays; a code and a mark that are runes; at most 2^40 bytes and numbers.
-/
import Derived.Test.YtneiiinheimglaaDoorBWri
namespace Go.Proofs.YtneiiinheimglaaDoor.B
open Go.RowKit Go.Lib Go.Proofs.YtneiiinheimglaaDoor Go.Proofs.YtneiiinheimglaaDoor.W Go.Proofs.YtneiiinheimglaaDoor.Q Go.Proofs.YtneiiinheimglaaDoor.C Go.Proofs.YtneiiinheimglaaDoor.Z

theorem enc_utf {c : Int} (h : isR c) : Utf8.encode c = bs (encodeRune c) := by
  obtain ⟨r, rfl⟩ : ∃ r : Nat, c = (r : Int) := ⟨c.toNat, by unfold isR at h; omega⟩
  have hr : U.isRune r := by unfold isR at h; unfold U.isRune; omega
  have hv : Utf8.valid (r : Int) = true := by unfold isR at h; unfold Utf8.valid; simp; omega
  rw [U.encN_eq hr]
  unfold Utf8.encode U.encN
  simp only [hv, if_true, Int.toNat_natCast]
  by_cases h1 : r < 128
  · rw [if_pos h1, if_pos h1]; rfl
  rw [if_neg h1, if_neg h1]
  by_cases h2 : r < 2048
  · rw [if_pos h2, if_pos h2]; rfl
  rw [if_neg h2, if_neg h2]
  by_cases h3 : r < 65536
  · rw [if_pos h3, if_pos h3]; rfl
  rw [if_neg h3, if_neg h3]
  rfl
def wrT (kd cd mk : Int) (im : List UInt8) (ar : List Int) (tx : List UInt8) : List UInt8 :=
  if kd = 3 then [27] ++ im ++ encodeRune cd
  else if kd = 4 then [27, 91] ++ (if mk = 0 then [] else encodeRune mk) ++ (writeT ar).1 ++ im ++ encodeRune cd
  else if kd = 5 then [27, 93] ++ tx ++ [7] else encodeRune cd
set_option maxHeartbeats 8000000 in
set_option maxRecDepth 100000 in
theorem written_any (kd cd mk : Int) (im : List UInt8) (ar : List Int) (tx : List UInt8) (v : Value) (w : World) (hv : RdI w v ar) (hT : Tab w) (hc : isR cd) (hm : isR mk) (hl : im.length ≤ 1099511627776) (hlt : tx.length ≤ 1099511627776) (hla : ar.length ≤ 1099511627776) (hx : (writeT ar).1.length ≤ 1099511627776) :
    Calls Tryd.prog 20 #[.agg #[.int .i64 kd, .int .i64 cd, .int .i64 mk, .string (bs im), v, .string (bs tx)]] w fun e w' => e = .returned (.string (bs (wrT kd cd mk im ar tx))) ∧ Below w.heap.size w w' := by
  have HW := Hid.mk' (fun W (h : Below w.heap.size w W) => Write_any v ar W (hv.below h) (hT.below h) (by omega))
  obtain ⟨R, hR⟩ : ∃ R, wrT kd cd mk im ar tx = R := ⟨_, rfl⟩
  rw [hR]
  unfold wrT at hR
  generalize writeT ar = Y at *
  obtain ⟨X, E⟩ := Y
  dsimp only at *
  have EC := enc_utf hc
  have EM := enc_utf hm
  have z1 : (bs im).size ≤ 1099511627776 := by rw [C.bs_size]; exact hl
  have z2 : (bs tx).size ≤ 1099511627776 := by rw [C.bs_size]; exact hlt
  have z3 : (bs X).size ≤ 1099511627776 := by rw [C.bs_size]; exact hx
  have z4 : (bs (encodeRune cd)).size ≤ 4 := by rw [C.bs_size]; exact U.encodeRune_len cd
  have z5 : (bs (encodeRune mk)).size ≤ 4 := by rw [C.bs_size]; exact U.encodeRune_len mk
  have hc2 : 0 ≤ cd ∧ cd ≤ 1114111 := by unfold isR at hc; omega
  have hm2 : 0 ≤ mk ∧ mk ≤ 1114111 := by unfold isR at hm; omega
  have HB : Hid (bs R = (if kd = 3 then bs [27] ++ bs im ++ bs (encodeRune cd) else if kd = 4 then bs [27, 91] ++ (if mk = 0 then bs [] else bs (encodeRune mk)) ++ bs X ++ bs im ++ bs (encodeRune cd) else if kd = 5 then bs [27, 93] ++ bs tx ++ bs [7] else bs (encodeRune cd))) := by
    rw [Hid, ← hR]
    by_cases k3 : kd = 3
    · rw [if_pos k3, if_pos k3, C.bs_app, C.bs_app]
    rw [if_neg k3, if_neg k3]
    by_cases k4 : kd = 4
    · rw [if_pos k4, if_pos k4]
      by_cases h0 : mk = 0
      · rw [if_pos h0, if_pos h0, C.bs_app, C.bs_app, C.bs_app, C.bs_app]
      · rw [if_neg h0, if_neg h0, C.bs_app, C.bs_app, C.bs_app, C.bs_app]
    rw [if_neg k4, if_neg k4]
    by_cases k5 : kd = 5
    · rw [if_pos k5, if_pos k5, C.bs_app, C.bs_app]
    rw [if_neg k5, if_neg k5]
  obtain ⟨ad, cp, rfl, hv2⟩ := hv
  clear hv2 hR hc hm hl hlt hx hla hT
  generalize bs R = SR at *
  generalize bs im = SI at *
  generalize bs tx = ST at *
  generalize bs (encodeRune cd) = SC at *
  generalize bs (encodeRune mk) = SM at *
  generalize bs X = SX at *
  generalize ar.length = n at *
  have hA0 : Below w.heap.size w (w.alloc (.cells #[.int .i64 kd, .int .i64 cd, .int .i64 mk, .string SI, .slice ad n cp, .string ST] 35)) := (Below.refl _ _).alloc (Nat.le_refl _) _
  have X0 := Box.new w 35 [.int .i64 kd, .int .i64 cd, .int .i64 mk, .string SI, .slice ad n cp, .string ST]
  by_cases k3 : kd = 3
  · subst k3
    have HQ : Hid (SR = bs [27] ++ SI ++ SC) := HB.out
    have HX0 := Hid.mk' (And.intro X0 hA0)
    have c0 := HX0.out.1.cell (j := 0) (v := .int .i64 3) rfl
    have c1 := HX0.out.1.cell (j := 1) (v := .int .i64 cd) rfl
    have c2 := HX0.out.1.cell (j := 2) (v := .int .i64 mk) rfl
    have c3 := HX0.out.1.cell (j := 3) (v := .string SI) rfl
    have c4 := HX0.out.1.cell (j := 4) (v := .slice ad n cp) rfl
    have c5 := HX0.out.1.cell (j := 5) (v := .string ST) rfl
    clear X0 hA0 HB HW EM z5 hm2 z3
    go_enter Tryd.func20, Tryd.ntmps20
    go_wp2
    go_ret
    exact ⟨by rw [HQ.out]; rfl, HX0.out.2⟩
  by_cases k4 : kd = 4
  · subst k4
    by_cases h0 : mk = 0
    · have HQ : Hid (SR = bs [27, 91] ++ bs [] ++ SX ++ SI ++ SC) := by
        have h := HB.out
        rw [if_pos h0] at h
        exact h
      have h0' : (mk != 0) = false := by rw [h0]; rfl
      clear h0 EM z5 hm2
      have HX0 := Hid.mk' (And.intro X0 hA0)
      have c0 := HX0.out.1.cell (j := 0) (v := .int .i64 4) rfl
      have c1 := HX0.out.1.cell (j := 1) (v := .int .i64 cd) rfl
      have c2 := HX0.out.1.cell (j := 2) (v := .int .i64 mk) rfl
      have c3 := HX0.out.1.cell (j := 3) (v := .string SI) rfl
      have c4 := HX0.out.1.cell (j := 4) (v := .slice ad n cp) rfl
      have c5 := HX0.out.1.cell (j := 5) (v := .string ST) rfl
      clear X0 hA0 HB
      go_enter Tryd.func20, Tryd.ntmps20
      go_wp2_with fail
      refine (HW.out _ HX0.out.2).mono ?_
      rintro e w3 ⟨rfl, hb3⟩
      have X3 := HX0.out.1.later hb3
      have HB3 := Hid.mk' (HX0.out.2.trans (Below.mono hb3 HX0.out.2.size))
      have d0 := X3.cell (j := 0) (v := .int .i64 4) rfl
      have d1 := X3.cell (j := 1) (v := .int .i64 cd) rfl
      have d2 := X3.cell (j := 2) (v := .int .i64 mk) rfl
      have d3 := X3.cell (j := 3) (v := .string SI) rfl
      have d4 := X3.cell (j := 4) (v := .slice ad n cp) rfl
      have d5 := X3.cell (j := 5) (v := .string ST) rfl
      clear HX0 HW X3 hb3 c0 c1 c2 c3 c4 c5
      go_wp2
      go_ret
      exact ⟨by rw [HQ.out]; rfl, HB3.out⟩
    · have HQ : Hid (SR = bs [27, 91] ++ SM ++ SX ++ SI ++ SC) := by
        have h := HB.out
        rw [if_neg h0] at h
        exact h
      have h0' : (mk != 0) = true := bne_of h0
      clear h0
      have HX0 := Hid.mk' (And.intro X0 hA0)
      have c0 := HX0.out.1.cell (j := 0) (v := .int .i64 4) rfl
      have c1 := HX0.out.1.cell (j := 1) (v := .int .i64 cd) rfl
      have c2 := HX0.out.1.cell (j := 2) (v := .int .i64 mk) rfl
      have c3 := HX0.out.1.cell (j := 3) (v := .string SI) rfl
      have c4 := HX0.out.1.cell (j := 4) (v := .slice ad n cp) rfl
      have c5 := HX0.out.1.cell (j := 5) (v := .string ST) rfl
      clear X0 hA0 HB
      go_enter Tryd.func20, Tryd.ntmps20
      go_wp2_with fail
      refine (HW.out _ HX0.out.2).mono ?_
      rintro e w3 ⟨rfl, hb3⟩
      have X3 := HX0.out.1.later hb3
      have HB3 := Hid.mk' (HX0.out.2.trans (Below.mono hb3 HX0.out.2.size))
      have d0 := X3.cell (j := 0) (v := .int .i64 4) rfl
      have d1 := X3.cell (j := 1) (v := .int .i64 cd) rfl
      have d2 := X3.cell (j := 2) (v := .int .i64 mk) rfl
      have d3 := X3.cell (j := 3) (v := .string SI) rfl
      have d4 := X3.cell (j := 4) (v := .slice ad n cp) rfl
      have d5 := X3.cell (j := 5) (v := .string ST) rfl
      clear HX0 HW X3 hb3 c0 c1 c2 c3 c4 c5
      go_wp2
      go_ret
      exact ⟨by rw [HQ.out]; rfl, HB3.out⟩
  by_cases k5 : kd = 5
  · subst k5
    have HQ : Hid (SR = bs [27, 93] ++ ST ++ bs [7]) := HB.out
    have HX0 := Hid.mk' (And.intro X0 hA0)
    have c0 := HX0.out.1.cell (j := 0) (v := .int .i64 5) rfl
    have c1 := HX0.out.1.cell (j := 1) (v := .int .i64 cd) rfl
    have c2 := HX0.out.1.cell (j := 2) (v := .int .i64 mk) rfl
    have c3 := HX0.out.1.cell (j := 3) (v := .string SI) rfl
    have c4 := HX0.out.1.cell (j := 4) (v := .slice ad n cp) rfl
    have c5 := HX0.out.1.cell (j := 5) (v := .string ST) rfl
    clear X0 hA0 HB HW EM z5 hm2 z3
    go_enter Tryd.func20, Tryd.ntmps20
    go_wp2
    go_ret
    exact ⟨by rw [HQ.out]; rfl, HX0.out.2⟩
  have HQ : Hid (SR = SC) := by
    have h := HB.out
    rw [if_neg k3, if_neg k4, if_neg k5] at h
    exact h
  have q3 : (kd == 3) = false := beq_false_of_ne k3
  have q4 : (kd == 4) = false := beq_false_of_ne k4
  have q5 : (kd == 5) = false := beq_false_of_ne k5
  have HX0 := Hid.mk' (And.intro X0 hA0)
  have c0 := HX0.out.1.cell (j := 0) (v := .int .i64 kd) rfl
  have c1 := HX0.out.1.cell (j := 1) (v := .int .i64 cd) rfl
  have c2 := HX0.out.1.cell (j := 2) (v := .int .i64 mk) rfl
  have c3 := HX0.out.1.cell (j := 3) (v := .string SI) rfl
  have c4 := HX0.out.1.cell (j := 4) (v := .slice ad n cp) rfl
  have c5 := HX0.out.1.cell (j := 5) (v := .string ST) rfl
  clear X0 hA0 HB HW EM z5 hm2 z3 k3 k4 k5
  go_enter Tryd.func20, Tryd.ntmps20
  go_wp2
  go_ret
  exact ⟨by rw [HQ.out]; rfl, HX0.out.2⟩
end Go.Proofs.YtneiiinheimglaaDoor.B
