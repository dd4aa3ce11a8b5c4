/-
  Contract of package parse's isText: UTF-8 of at most 256 bytes, and all of it signs; conditions: the tables of unicode/utf8 hold what their initialisers lay; at most 2^40 bytes.
-/
import Derived.Test.YtneiiinheimglaaGreatDoorJ3
import Derived.Test.YtneiiinheimglaaGreatDoorBVShelf
import Derived.Test.YtneiiinheimglaaGreatDoorUFull
import Derived.Test.YtneiiinheimglaaGreatDoorJ13
namespace Go.Proofs.YtneiiinheimglaaGreatDoor.B
open Go.RowKit Go.Lib Go.Proofs.YtneiiinheimglaaGreatDoor Go.Proofs.YtneiiinheimglaaGreatDoor.W Go.Proofs.YtneiiinheimglaaGreatDoor.Q Go.Proofs.YtneiiinheimglaaGreatDoor.C Go.Proofs.YtneiiinheimglaaGreatDoor.Z

def txtB (s : List UInt8) : Bool := decide (s.length ≤ 256) && validD s && (runesOf s).all fun c => decide (canPrint c)
theorem runes_nil : runesOf [] = [] := rfl
/-- what is looked at is what is left -/
def TI (w : World) (T : List UInt8) (A : Bool) (g : Nat) (wx : World) : Prop :=
  ∃ i : Nat, i ≤ T.length ∧ T.length - i ≤ g ∧ Hid (wx.heap[w.heap.size]? = some (.stringIter (bs T) i)) ∧ Hid (Below w.heap.size w wx) ∧ Hid (validD (T.drop i) = true) ∧ Hid ((runesOf (T.drop i)).all (fun c => decide (canPrint c)) = A)
theorem print_mute (c : Int) (h0 : 0 ≤ c) (h1 : c ≤ 1114111) : decide (canPrint c) = (!decide (0 ≤ c ∧ c ≤ 31) && !decide (127 ≤ c ∧ c ≤ 159)) := by
  by_cases a : c ≤ 31
  · rw [decide_eq_true (p := 0 ≤ c ∧ c ≤ 31) ⟨h0, a⟩, decide_eq_false (fun h => by unfold canPrint at h; omega)]; rfl
  · rw [decide_eq_false (p := 0 ≤ c ∧ c ≤ 31) (fun h => a h.2)]
    by_cases b : 127 ≤ c ∧ c ≤ 159
    · rw [decide_eq_true b, decide_eq_false (fun h => by unfold canPrint at h; omega)]; rfl
    · rw [decide_eq_false b, decide_eq_true (show canPrint c from by unfold canPrint; omega)]; rfl
set_option maxHeartbeats 4000000 in
set_option maxRecDepth 100000 in
theorem isText_any (s : List UInt8) (w : World) (hT : U.Tabs w) (hl : s.length ≤ 1099511627776) : Calls Tryz.prog 20 #[.string (bs s)] w fun e w' => e = .returned (.bool (txtB s)) ∧ Below w.heap.size w w' := by
  have hz := C.bs_size s
  have HV := Hid.mk' (Any.utf8_ValidString Tryz.laysValid (bs s) w (by omega) hT)
  unfold txtB
  by_cases h256 : s.length ≤ 256
  · have g256 : ¬ 256 < ((bs s).size : Int) := by omega
    rw [decide_eq_true h256, Bool.true_and]
    cases hv : validD s with
    | false =>
      have HV2 : Hid (Calls Tryz.prog 37 #[.string (bs s)] w fun e w' => e = .returned (.bool false) ∧ Below w.heap.size w w') := by
        have h := HV.out
        rw [show (bs s).data.toList = s from rfl, hv] at h
        exact h
      rw [Bool.false_and]
      clear HV hv hz
      generalize bs s = S at *
      go_enter Tryz.func20, Tryz.ntmps20
      go_wp2_with fail
      refine HV2.out.mono ?_
      rintro e w2 ⟨rfl, hb⟩
      have HB := Hid.mk' hb
      clear hb
      go_wp2
      go_ret
      exact ⟨rfl, HB.out⟩
    | true =>
      have HV2 : Hid (Calls Tryz.prog 37 #[.string (bs s)] w fun e w' => e = .returned (.bool true) ∧ Below w.heap.size w w') := by
        have h := HV.out
        rw [show (bs s).data.toList = s from rfl, hv] at h
        exact h
      rw [Bool.true_and]
      have hv2 := Hid.mk' hv
      obtain ⟨A, hA⟩ : ∃ A, ((runesOf s).all fun c => decide (canPrint c)) = A := ⟨_, rfl⟩
      rw [hA]
      have HA := Hid.mk' hA
      have HNX := Hid.mk' (fun W k pos ty => run_next_any_at (P := Tryz.prog) W k (bs s) pos ty)
      have HNE := Hid.mk' (fun W k pos ty => run_next_end_at (P := Tryz.prog) W k (bs s) pos ty)
      have HDD := Hid.mk' (fun i => decodeL_drop (bs s) i)
      have HCT := Hid.mk' (fun c W => isControl_any c W)
      have HMU := Hid.mk' (fun c W => isMute_any c W)
      clear HV hv hA
      go_enter Tryz.func20, Tryz.ntmps20
      go_wp2_with fail
      refine HV2.out.mono ?_
      rintro e w2 ⟨rfl, hb⟩
      have HB := Hid.mk' hb
      have HI0 : Hid (TI w2 s A s.length (w2.iter (bs s) 0)) := ⟨0, Nat.zero_le _, by omega, World.iter_heap _ _ _, below_iter _ _ _, by rw [List.drop_zero]; exact hv2.out, by rw [List.drop_zero]; exact HA.out⟩
      clear hb HV2 hv2 HA
      go_wp2_with fail
      go_loopg [] s.length (fun g wx => TI w2 s A g wx)
      case atStart => exact HI0.out
      case round =>
        obtain ⟨i, hi, hg, HIT, HB2, HVD, HAL⟩ := hrel
        have HGK := Hid.mk' hg
        clear hg HI0
        by_cases hlt : i < s.length
        · have hlt2 : i < (bs s).size := by omega
          have hnx := fun ty => HNX.out wr w2.heap.size i ty HIT.out hlt2
          have hne : s.drop i ≠ [] := fun e => by
            have := congrArg List.length e
            rw [List.length_drop, List.length_nil] at this
            omega
          have hde : Utf8.decode (bs s) i = U.dec (s.drop i) := by
            rw [← HDD.out i, decodeL_dec]
            rfl
          rw [hde] at hnx
          have hrc := runes_cons HVD.out hne
          have hvs := (valid_step HVD.out hne).2
          have hru := U.dec_rune (s.drop i)
          have hp := U.dec_pos (s.drop i)
          have hdl := decodeL_le (s.drop i) hne
          rw [decodeL_dec, List.length_drop] at hdl
          have hal := HAL.out
          rw [hrc, List.all_cons] at hal
          rw [List.drop_drop] at hal hvs
          generalize U.dec (s.drop i) = D at *
          obtain ⟨c, n⟩ := D
          dsimp only at *
          unfold U.isRune at hru
          have hc0 : (0 : Int) ≤ (c : Int) := by omega
          have hc1 : (c : Int) ≤ 1114111 := by omega
          rw [print_mute (c : Int) hc0 hc1] at hal
          have HB3 : Hid (Below w2.heap.size w2 (wr.iterAt w2.heap.size (bs s) (i + n))) := below_iterAt HB2.out (Nat.le_refl _) _ _
          have HIT3 : Hid ((wr.iterAt w2.heap.size (bs s) (i + n)).heap[w2.heap.size]? = some (.stringIter (bs s) (i + n))) := iterAt_heap _ _ _ _ _ HIT.out
          have HVS := Hid.mk' hvs
          have HW : Hid (Below w.heap.size w (wr.iterAt w2.heap.size (bs s) (i + n))) := HB.out.trans (Below.mono HB3.out HB.out.size)
          have HC1 := Hid.mk' (HCT.out (c : Int) (wr.iterAt w2.heap.size (bs s) (i + n)))
          have HM1 := Hid.mk' (HMU.out (c : Int) (wr.iterAt w2.heap.size (bs s) (i + n)))
          clear HNX HNE HDD HCT HMU hde hrc hvs hru HIT HB2 HVD HAL hne
          generalize (c : Int) = z at *
          generalize wr.iterAt w2.heap.size (bs s) (i + n) = w3 at *
          cases b1 : decide (0 ≤ z ∧ z ≤ 31) with
          | true =>
            rw [b1] at hal HC1
            have hal2 : A = false := hal.symm
            clear hal HM1 b1
            go_wp2_with fail
            refine HC1.out.mono ?_
            rintro e w4 ⟨rfl, rfl⟩
            go_wp2
            go_ret
            exact ⟨by rw [hal2]; rfl, HW.out⟩
          | false =>
            rw [b1] at hal HC1
            cases b2 : decide (127 ≤ z ∧ z ≤ 159) with
            | true =>
              rw [b2] at hal HM1
              have hal2 : A = false := hal.symm
              clear hal b1 b2
              go_wp2_with fail
              refine HC1.out.mono ?_
              rintro e w4 ⟨rfl, rfl⟩
              go_wp2_with fail
              refine HM1.out.mono ?_
              rintro e w4 ⟨rfl, rfl⟩
              go_wp2
              go_ret
              exact ⟨by rw [hal2]; rfl, HW.out⟩
            | false =>
              rw [b2] at hal HM1
              have HN : Hid (TI w2 s A (s.length - (i + n)) w3) := ⟨i + n, by omega, Nat.le_refl _, HIT3.out, HB3.out, HVS.out, hal⟩
              clear hal b1 b2 HIT3 HB3 HVS HW
              go_wp2_with fail
              refine HC1.out.mono ?_
              rintro e w4 ⟨rfl, rfl⟩
              go_wp2_with fail
              refine HM1.out.mono ?_
              rintro e w4 ⟨rfl, rfl⟩
              go_wp2
              go_roundg (s.length - (i + n))
              case measure => have := HGK.out; omega
              case rel => exact HN.out
        · obtain rfl : i = s.length := by omega
          have hnx := fun ty => HNE.out wr w2.heap.size s.length ty HIT.out (by omega)
          have hal := HAL.out
          rw [List.drop_length, runes_nil] at hal
          have hal2 : A = true := hal.symm
          have HW : Hid (Below w.heap.size w wr) := HB.out.trans (Below.mono HB2.out HB.out.size)
          clear HNX HNE HDD HCT HMU hal HIT HB2 HVD HAL
          go_wp2
          go_ret
          exact ⟨by rw [hal2]; rfl, HW.out⟩
  · have g256 : 256 < ((bs s).size : Int) := by omega
    rw [decide_eq_false h256, Bool.false_and, Bool.false_and]
    clear HV hz h256
    generalize bs s = S at *
    go_enter Tryz.func20, Tryz.ntmps20
    go_wp2
    go_ret
    exact ⟨rfl, Below.refl _ _⟩
end Go.Proofs.YtneiiinheimglaaGreatDoor.B
