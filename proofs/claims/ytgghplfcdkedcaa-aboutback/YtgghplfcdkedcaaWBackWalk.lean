/-
  The walk of farkeep.AboutBack: it returns true and writes nothing old; no condition.
-/
import Derived.Test.YtgghplfcdkedcaaWLives
namespace Go.Proofs.Ytgghplfcdkedcaa.W
open Go.RowKit Go.Lib Go.Proofs.Ytgghplfcdkedcaa Go.Proofs.Ytgghplfcdkedcaa.Q

/-- a size that is written, and read -/
theorem there (x y : Int) : (∃ t : ByteArray, (∀ w, Calls Try.prog 9 #[.int .i64 x, .int .i64 y] w fun e w' => e = .returned (.tuple #[.string t, .int .i64 0]) ∧ Below w.heap.size w w') ∧ (∀ w, Calls Try.prog 11 #[.string t] w fun e w' => e = .returned (.tuple #[.int .i64 x, .int .i64 y, .int .i64 0]) ∧ Below w.heap.size w w')) ∨
    (∀ w, Calls Try.prog 9 #[.int .i64 x, .int .i64 y] w fun e w' => e = .returned (.tuple #[.string ⟨#[]⟩, .int .i64 1]) ∧ Below w.heap.size w w') := by
  cases h : (isSz x && isSz y) with
  | true =>
    rw [Bool.and_eq_true] at h
    obtain ⟨a, b, rfl⟩ := bytes2 x h.1
    obtain ⟨c, d, rfl⟩ := bytes2 y h.2
    refine .inl ⟨szText a b c d, fun w => WriteSize_ok a b c d w, fun w => ?_⟩
    refine (ReadSize_ok a b c d w).mono ?_
    rintro e w' ⟨rfl, q, rfl⟩
    exact ⟨rfl, below_drewN (Below.refl _ _) q⟩
  | false =>
    refine .inr fun w => ?_
    refine (WriteSize_bad x y h w).mono ?_
    rintro e w' ⟨rfl, rfl⟩
    exact ⟨rfl, Below.refl _ _⟩

/-- what is read, and written -/
theorem back (S : ByteArray) : ∃ (X Y er : Int) (t : ByteArray), (∀ w, Calls Try.prog 11 #[.string S] w fun e w' => e = .returned (.tuple #[.int .i64 X, .int .i64 Y, .int .i64 er]) ∧ Below w.heap.size w w') ∧ (∀ w, Calls Try.prog 9 #[.int .i64 X, .int .i64 Y] w fun e w' => e = .returned (.tuple #[.string t, .int .i64 0]) ∧ Below w.heap.size w w') ∧
    (((er = 3 ∨ er = 4) ∧ X = 0 ∧ Y = 0) ∨ (er = 0 ∧ t = S)) := by
  by_cases h1 : S.size < 4
  · refine ⟨0, 0, 3, szText 0 0 0 0, fun w => ?_, fun w => WriteSize_ok 0 0 0 0 w, .inl ⟨by decide, rfl, rfl⟩⟩
    refine (ReadSize_short S h1 w).mono ?_
    rintro e w' ⟨rfl, rfl⟩
    exact ⟨rfl, Below.refl _ _⟩
  by_cases h2 : 4 < S.size
  · refine ⟨0, 0, 4, szText 0 0 0 0, fun w => ?_, fun w => WriteSize_ok 0 0 0 0 w, .inl ⟨by decide, rfl, rfl⟩⟩
    refine (ReadSize_long S h2 w).mono ?_
    rintro e w' ⟨rfl, rfl⟩
    exact ⟨rfl, Below.refl _ _⟩
  obtain ⟨a, b, c, d, rfl⟩ := size4 S (by omega)
  refine ⟨_, _, 0, szText a b c d, fun w => ?_, fun w => WriteSize_ok a b c d w, .inr ⟨rfl, rfl⟩⟩
  refine (ReadSize_ok a b c d w).mono ?_
  rintro e w' ⟨rfl, q, rfl⟩
  exact ⟨rfl, below_drewN (Below.refl _ _) q⟩

set_option maxHeartbeats 4000000 in
theorem AboutBack_any (x y : Int) (S : ByteArray) (w : World) : Calls Try.prog 6 #[.int .i64 x, .int .i64 y, .string S] w fun e w' => e = .returned (.bool true) ∧ Below w.heap.size w w' := by
  obtain ⟨X, Y, er, t2, h3, h4, h5⟩ := back S
  have H3 := Hid.mk' h3
  have H4 := Hid.mk' h4
  have HL := Hid.mk' lives_any
  clear h3 h4
  rcases there x y with ⟨t, h1, h2⟩ | h1
  · have H1 := Hid.mk' h1
    have H2 := Hid.mk' h2
    clear h1 h2
    rcases h5 with ⟨rfl | rfl, rfl, rfl⟩ | ⟨rfl, rfl⟩
    all_goals
      go_enter Try.func6, Try.ntmps6
      go_wp2_with fail
      refine (H1.out _).mono ?_
      rintro e w1 ⟨rfl, hb1⟩
      go_wp2_with fail
      refine (H2.out _).mono ?_
      rintro e w2 ⟨rfl, hb2⟩
      have HB2 := Hid.mk' (hb1.trans (hb2.mono hb1.size))
      clear hb1 hb2
      go_wp2_with fail
      refine (H3.out _).mono ?_
      rintro e w3 ⟨rfl, hb3⟩
      have HB3 := Hid.mk' (HB2.out.trans (hb3.mono HB2.out.size))
      clear hb3 HB2
      go_wp2_with fail
      refine (H4.out _).mono ?_
      rintro e w4 ⟨rfl, hb4⟩
      have HB4 := Hid.mk' (HB3.out.trans (hb4.mono HB3.out.size))
      clear hb4 HB3
      go_wp2_with fail
      refine (HL.out _).mono ?_
      rintro e w5 ⟨rfl, hb5⟩
      have HB5 := Hid.mk' (HB4.out.trans (hb5.mono HB4.out.size))
      clear hb5 HB4
      go_wp2
      go_ret
      exact ⟨rfl, HB5.out⟩
  · have H1 := Hid.mk' h1
    clear h1
    rcases h5 with ⟨rfl | rfl, rfl, rfl⟩ | ⟨rfl, rfl⟩
    all_goals
      go_enter Try.func6, Try.ntmps6
      go_wp2_with fail
      refine (H1.out _).mono ?_
      rintro e w2 ⟨rfl, hb1⟩
      have HB2 := Hid.mk' hb1
      clear hb1
      go_wp2_with fail
      refine (H3.out _).mono ?_
      rintro e w3 ⟨rfl, hb3⟩
      have HB3 := Hid.mk' (HB2.out.trans (hb3.mono HB2.out.size))
      clear hb3 HB2
      go_wp2_with fail
      refine (H4.out _).mono ?_
      rintro e w4 ⟨rfl, hb4⟩
      have HB4 := Hid.mk' (HB3.out.trans (hb4.mono HB3.out.size))
      clear hb4 HB3
      go_wp2_with fail
      refine (HL.out _).mono ?_
      rintro e w5 ⟨rfl, hb5⟩
      have HB5 := Hid.mk' (HB4.out.trans (hb5.mono HB4.out.size))
      clear hb5 HB4
      go_wp2
      go_ret
      exact ⟨rfl, HB5.out⟩
end Go.Proofs.Ytgghplfcdkedcaa.W
