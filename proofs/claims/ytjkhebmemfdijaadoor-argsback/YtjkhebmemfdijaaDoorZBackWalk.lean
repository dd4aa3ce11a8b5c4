/-
  The walk of farkeep.ArgsBack: it returns true; conditions: the table internal/strconv.uint64pow10 holds what its initialiser lays; at most 2^44 numbers, a text of at most 2^60 bytes.
-/
import Derived.Test.YtjkhebmemfdijaaDoorZWrite
namespace Go.Proofs.YtjkhebmemfdijaaDoor.Z
open Go.RowKit Go.Lib Go.Proofs.YtjkhebmemfdijaaDoor Go.Proofs.YtjkhebmemfdijaaDoor.W Go.Proofs.YtjkhebmemfdijaaDoor.Q Go.Proofs.YtjkhebmemfdijaaDoor.C

theorem writeT_two (l : List Int) : (writeT l).2 = 0 ∧ okL l = true ∧ l.length ≤ 32 ∧ (writeT l).1 = text l ∨ (writeT l).2 ≠ 0 := by
  unfold writeT
  cases h : okL l with
  | true =>
    rw [if_pos rfl]
    by_cases h2 : 32 < l.length
    · rw [if_pos h2]; right; decide
    · rw [if_neg h2]; left; exact ⟨rfl, rfl, by omega, rfl⟩
  | false => rw [if_neg (by decide)]; right; decide
theorem readT_two (s : List UInt8) : (readT s).2 = 0 ∧ okS s = true ∧ (readT s).1 = rd s (-1) [] ∨ (readT s).2 = 4 ∧ (readT s).1 = [] := by
  unfold readT
  cases h : okS s with
  | true => left; rw [if_pos rfl]; exact ⟨rfl, rfl, rfl⟩
  | false => right; rw [if_neg (by decide)]; exact ⟨rfl, rfl⟩
theorem OwnI.form {w : World} {base : Nat} {v : Value} {l : List Int} (h : OwnI w base v l) : ∃ ad c, v = .slice ad l.length c := by
  obtain ⟨a, c, e, _⟩ := RdI.own h
  exact ⟨a, c, e⟩

set_option maxHeartbeats 8000000 in
theorem ArgsBack_any (v : Value) (l : List Int) (s : List UInt8) (w : World) (hv : RdI w v l) (hT : Tab w) (hl : l.length ≤ 17592186044416) (hs : s.length ≤ 1152921504606846976) :
    Calls Tryd.prog 4 #[v, .string (bs s)] w fun e w' => e = .returned (.bool true) ∧ Below w.heap.size w w' := by
  have HW1 := Hid.mk' (Write_any v l w hv hT (by omega))
  have HRS := Hid.mk' (fun W => Read_any s W (by omega))
  have HL := Hid.mk' lives_any
  have HV := Hid.mk' hv
  have HQ := writeT_two l
  have HS2 := Hid.mk' (readT_two s)
  have HRB : Hid (okL l = true → l.length ≤ 32 → ∀ W, Calls Tryd.prog 5 #[.string (bs (text l))] W fun e w' => ∃ v, e = .returned (.tuple #[v, .int .i64 0]) ∧ OwnI w' W.heap.size v l ∧ Below W.heap.size W w') := fun h1 h2 W => by
    have := Read_any (text l) W (by have := text_length l (okL_right h1).1; omega)
    rw [read_text l h1 h2] at this
    exact this
  have HOK : Hid (okS s = true → (∀ W v, RdI W v (rd s (-1) []) → Tab W → Calls Tryd.prog 7 #[v] W fun e w' => e = .returned (.tuple #[.string (bs (text (rd s (-1) []))), .int .i64 0]) ∧ Below W.heap.size W w') ∧
      (∀ W, Calls Tryd.prog 5 #[.string (bs (text (rd s (-1) [])))] W fun e w' => ∃ v, e = .returned (.tuple #[v, .int .i64 0]) ∧ OwnI w' W.heap.size v (rd s (-1) []) ∧ Below W.heap.size W w') ∧ 1 ≤ (rd s (-1) []).length ∧ (rd s (-1) []).length ≤ 32) := fun h => by
    obtain ⟨h1, h2, h3⟩ := readT_ok h
    refine ⟨fun W v hr ht => ?_, fun W => ?_, h2, h3⟩
    · have := Write_any v _ W hr ht (by omega)
      have e : writeT (rd s (-1) []) = (text (rd s (-1) []), 0) := by unfold writeT; rw [h1, if_pos rfl, if_neg (by omega)]
      rw [e] at this
      exact this
    · have := Read_any (text (rd s (-1) [])) W (by have := text_length _ (okL_right h1).1; omega)
      rw [read_text _ h1 h3] at this
      exact this
  have HT := Hid.mk' hT
  obtain ⟨a, c, e, _⟩ := id hv
  generalize hn : l.length = n at e
  have hn2 : n ≤ 17592186044416 := by omega
  have HN := Hid.mk' hn
  clear hn hv hT hl
  subst e
  generalize bs s = S at *
  clear hs
  rcases HQ with ⟨h1, h2, h3, h4⟩ | h1
  · have HRB1 := Hid.mk' (HRB.out h2 h3)
    rw [h1, h4] at HW1
    clear h1 h2 h4 HRB
    generalize bs (text l) = T at *
    go_enter Tryd.func4, Tryd.ntmps4
    go_wp2_with fail
    refine HW1.out.mono ?_
    rintro e w1 ⟨rfl, b1⟩
    have V1 := Hid.mk' (HV.out.below b1)
    have B1 := Hid.mk' b1
    clear b1 HW1
    go_wp2_with fail
    refine (HRB1.out _).mono ?_
    rintro e w2 ⟨v2, rfl, o2, b2⟩
    have HE := Hid.mk' (Equal_same w2 v2 (.slice a n c) l (RdI.own o2) (V1.out.below b2) (by omega))
    have B2 := Hid.mk' (B1.out.trans (Below.mono b2 B1.out.size))
    clear o2 b2 B1 V1 HV
    go_wp2_with fail
    refine HE.out.mono ?_
    rintro e w3 ⟨rfl, q3, rfl⟩
    have B3 := Hid.mk' (below_drewN B2.out q3)
    clear B2 HE
    generalize w2.drewN q3 = w3 at *
    rcases HS2.out with ⟨g1, g2, g3⟩ | ⟨g1, g2⟩
    · obtain ⟨k1, k2, k3, k4⟩ := HOK.out g2
      have HK1 := Hid.mk' k1
      have HK2 := Hid.mk' k2
      rw [g1, g3] at HRS
      clear k1 k2 g1 g2 g3 HOK HS2
      generalize rd s (-1) [] = M at *
      generalize bs (text M) = TM at *
      go_wp2_with fail
      refine (HRS.out _).mono ?_
      rintro e w4 ⟨v4, rfl, o4, b4⟩
      obtain ⟨a4, c4, rfl⟩ := o4.form
      have R4 := Hid.mk' (RdI.own o4)
      have B4 := Hid.mk' (B3.out.trans (Below.mono b4 B3.out.size))
      clear o4 b4 HRS
      go_wp2_with fail
      refine (HL.out _).mono ?_
      rintro e w5 ⟨rfl, b5⟩
      have R5 := Hid.mk' (R4.out.below b5)
      have B5 := Hid.mk' (B4.out.trans (Below.mono b5 B4.out.size))
      clear b5 R4 B4
      go_wp2_with fail
      refine (HK1.out _ _ R5.out (HT.out.below B5.out)).mono ?_
      rintro e w6 ⟨rfl, b6⟩
      have R6 := Hid.mk' (R5.out.below b6)
      have B6 := Hid.mk' (B5.out.trans (Below.mono b6 B5.out.size))
      clear b6 R5 B5
      go_wp2_with fail
      refine (HK2.out _).mono ?_
      rintro e w7 ⟨v7, rfl, o7, b7⟩
      have HE := Hid.mk' (Equal_same w7 (.slice a4 M.length c4) v7 M (R6.out.below b7) (RdI.own o7) (by omega))
      have B7 := Hid.mk' (B6.out.trans (Below.mono b7 B6.out.size))
      have m1 : (1 : Int) ≤ (M.length : Int) := by omega
      have m2 : (M.length : Int) ≤ 32 := by omega
      clear o7 b7 R6 B6
      go_wp2_with fail
      refine HE.out.mono ?_
      rintro e w8 ⟨rfl, q8, rfl⟩
      have B8 := Hid.mk' (below_drewN B7.out q8)
      go_wp2
      go_ret
      exact ⟨rfl, B8.out⟩
    · rw [g1, g2] at HRS
      clear g1 g2 HOK HS2
      go_wp2_with fail
      refine (HRS.out _).mono ?_
      rintro e w4 ⟨v4, rfl, o4, b4⟩
      obtain ⟨a4, c4, rfl⟩ := o4.form
      have B4 := Hid.mk' (B3.out.trans (Below.mono b4 B3.out.size))
      clear o4 b4 HRS
      go_wp2_with fail
      refine (HL.out _).mono ?_
      rintro e w5 ⟨rfl, b5⟩
      have B5 := Hid.mk' (B4.out.trans (Below.mono b5 B4.out.size))
      clear b5 B4
      go_wp2_with fail
      refine (HL.out _).mono ?_
      rintro e w6 ⟨rfl, b6⟩
      have B6 := Hid.mk' (B5.out.trans (Below.mono b6 B5.out.size))
      clear b6 B5
      go_wp2
      go_ret
      exact ⟨rfl, B6.out⟩
  · have h2 : ((writeT l).2 == 0) = false := beq_false_of_ne h1
    clear HRB h1
    generalize (writeT l).2 = r at *
    generalize bs (writeT l).1 = T at *
    go_enter Tryd.func4, Tryd.ntmps4
    go_wp2_with fail
    refine HW1.out.mono ?_
    rintro e w1 ⟨rfl, b1⟩
    have B3 := Hid.mk' b1
    clear b1 HW1 HV
    rcases HS2.out with ⟨g1, g2, g3⟩ | ⟨g1, g2⟩
    · obtain ⟨k1, k2, k3, k4⟩ := HOK.out g2
      have HK1 := Hid.mk' k1
      have HK2 := Hid.mk' k2
      rw [g1, g3] at HRS
      clear k1 k2 g1 g2 g3 HOK HS2
      generalize rd s (-1) [] = M at *
      generalize bs (text M) = TM at *
      go_wp2_with fail
      refine (HRS.out _).mono ?_
      rintro e w4 ⟨v4, rfl, o4, b4⟩
      obtain ⟨a4, c4, rfl⟩ := o4.form
      have R4 := Hid.mk' (RdI.own o4)
      have B4 := Hid.mk' (B3.out.trans (Below.mono b4 B3.out.size))
      clear o4 b4 HRS
      go_wp2_with fail
      refine (HL.out _).mono ?_
      rintro e w5 ⟨rfl, b5⟩
      have R5 := Hid.mk' (R4.out.below b5)
      have B5 := Hid.mk' (B4.out.trans (Below.mono b5 B4.out.size))
      clear b5 R4 B4
      go_wp2_with fail
      refine (HK1.out _ _ R5.out (HT.out.below B5.out)).mono ?_
      rintro e w6 ⟨rfl, b6⟩
      have R6 := Hid.mk' (R5.out.below b6)
      have B6 := Hid.mk' (B5.out.trans (Below.mono b6 B5.out.size))
      clear b6 R5 B5
      go_wp2_with fail
      refine (HK2.out _).mono ?_
      rintro e w7 ⟨v7, rfl, o7, b7⟩
      have HE := Hid.mk' (Equal_same w7 (.slice a4 M.length c4) v7 M (R6.out.below b7) (RdI.own o7) (by omega))
      have B7 := Hid.mk' (B6.out.trans (Below.mono b7 B6.out.size))
      have m1 : (1 : Int) ≤ (M.length : Int) := by omega
      have m2 : (M.length : Int) ≤ 32 := by omega
      clear o7 b7 R6 B6
      go_wp2_with fail
      refine HE.out.mono ?_
      rintro e w8 ⟨rfl, q8, rfl⟩
      have B8 := Hid.mk' (below_drewN B7.out q8)
      go_wp2
      go_ret
      exact ⟨rfl, B8.out⟩
    · rw [g1, g2] at HRS
      clear g1 g2 HOK HS2
      go_wp2_with fail
      refine (HRS.out _).mono ?_
      rintro e w4 ⟨v4, rfl, o4, b4⟩
      obtain ⟨a4, c4, rfl⟩ := o4.form
      have B4 := Hid.mk' (B3.out.trans (Below.mono b4 B3.out.size))
      clear o4 b4 HRS
      go_wp2_with fail
      refine (HL.out _).mono ?_
      rintro e w5 ⟨rfl, b5⟩
      have B5 := Hid.mk' (B4.out.trans (Below.mono b5 B4.out.size))
      clear b5 B4
      go_wp2_with fail
      refine (HL.out _).mono ?_
      rintro e w6 ⟨rfl, b6⟩
      have B6 := Hid.mk' (B5.out.trans (Below.mono b6 B5.out.size))
      clear b6 B5
      go_wp2
      go_ret
      exact ⟨rfl, B6.out⟩
end Go.Proofs.YtjkhebmemfdijaaDoor.Z
