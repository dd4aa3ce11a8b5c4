/-
  The walk of farlaw.AboutSizes: it returns true and writes nothing old; no condition.
-/
import Derived.Test.YtgghplfcdkedcaaWRef
namespace Go.Proofs.Ytgghplfcdkedcaa.W
open Go.RowKit Go.Lib Go.Proofs.Ytgghplfcdkedcaa Go.Proofs.Ytgghplfcdkedcaa.Q

theorem texts_same (x y : Int) : ∃ (t : ByteArray) (er : Int), (∀ w, Calls Try.prog 9 #[.int .i64 x, .int .i64 y] w fun e w' => e = .returned (.tuple #[.string t, .int .i64 er]) ∧ Below w.heap.size w w') ∧ (∀ w, Calls Try.prog 10 #[.int .i64 x, .int .i64 y] w fun e w' => e = .returned (.tuple #[.string t, .int .i64 er]) ∧ Below w.heap.size w w') := by
  cases h : (isSz x && isSz y) with
  | true =>
    rw [Bool.and_eq_true] at h
    obtain ⟨a, b, rfl⟩ := bytes2 x h.1
    obtain ⟨c, d, rfl⟩ := bytes2 y h.2
    exact ⟨szText a b c d, 0, fun w => WriteSize_ok a b c d w, fun w => SizeText_ok a b c d w⟩
  | false =>
    refine ⟨⟨#[]⟩, 1, fun w => ?_, fun w => ?_⟩
    · refine (WriteSize_bad x y h w).mono ?_
      rintro e w' ⟨rfl, rfl⟩
      exact ⟨rfl, Below.refl _ _⟩
    · refine (SizeText_bad x y h w).mono ?_
      rintro e w' ⟨rfl, rfl⟩
      exact ⟨rfl, Below.refl _ _⟩

set_option maxHeartbeats 4000000 in
theorem Sizes_short (x y : Int) (S : ByteArray) (hs : S.size < 4) (w : World) : Calls Try.prog 3 #[.int .i64 x, .int .i64 y, .string S] w fun e w' => e = .returned (.bool true) ∧ Below w.heap.size w w' := by
  obtain ⟨t, er, h1, h2⟩ := texts_same x y
  have H1 := Hid.mk' h1
  have H2 := Hid.mk' h2
  have H3 := Hid.mk' (ReadSize_short S hs)
  have hs' : (S.size : Int) < 4 := by omega
  clear h1 h2
  go_enter Try.func3, Try.ntmps3
  go_wp2_with fail
  refine (H1.out _).mono ?_
  rintro e w1 ⟨rfl, hb1⟩
  go_wp2_with fail
  refine (H2.out _).mono ?_
  rintro e w2 ⟨rfl, hb2⟩
  have HB := Hid.mk' (hb1.trans (hb2.mono hb1.size))
  clear hb1 hb2
  go_wp2_with fail
  refine (H3.out _).mono ?_
  rintro e w3 ⟨rfl, rfl⟩
  go_wp2
  go_ret
  exact ⟨rfl, HB.out⟩

set_option maxHeartbeats 4000000 in
theorem Sizes_long (x y : Int) (S : ByteArray) (hs : 4 < S.size) (w : World) : Calls Try.prog 3 #[.int .i64 x, .int .i64 y, .string S] w fun e w' => e = .returned (.bool true) ∧ Below w.heap.size w w' := by
  obtain ⟨t, er, h1, h2⟩ := texts_same x y
  have H1 := Hid.mk' h1
  have H2 := Hid.mk' h2
  have H3 := Hid.mk' (ReadSize_long S hs)
  have hs' : (4 : Int) < S.size := by omega
  have hs2 : ¬ (S.size : Int) < 4 := by omega
  clear h1 h2
  go_enter Try.func3, Try.ntmps3
  go_wp2_with fail
  refine (H1.out _).mono ?_
  rintro e w1 ⟨rfl, hb1⟩
  go_wp2_with fail
  refine (H2.out _).mono ?_
  rintro e w2 ⟨rfl, hb2⟩
  have HB := Hid.mk' (hb1.trans (hb2.mono hb1.size))
  clear hb1 hb2
  go_wp2_with fail
  refine (H3.out _).mono ?_
  rintro e w3 ⟨rfl, rfl⟩
  go_wp2
  go_ret
  exact ⟨rfl, HB.out⟩

set_option maxHeartbeats 4000000 in
theorem Sizes_some (x y : Int) (S : ByteArray) (hs : S.size = 4) (x0 x1 x2 x3 X Y : Int) (w : World) (g0 : ((S[0]'(by omega)).toNat : Int) = x0) (g1 : ((S[1]'(by omega)).toNat : Int) = x1) (g2 : ((S[2]'(by omega)).toNat : Int) = x2) (g3 : ((S[3]'(by omega)).toNat : Int) = x3)
    (hX : 256 * x0 + x1 = X) (hY : 256 * x2 + x3 = Y) (b0 : 0 ≤ x0 ∧ x0 < 256) (b1 : 0 ≤ x1 ∧ x1 < 256) (b2 : 0 ≤ x2 ∧ x2 < 256) (b3 : 0 ≤ x3 ∧ x3 < 256)
    (H3 : Hid (∀ w, Calls Try.prog 11 #[.string S] w fun e w' => e = .returned (.tuple #[.int .i64 X, .int .i64 Y, .int .i64 0]) ∧ ∃ q, w' = w.drewN q)) :
    Calls Try.prog 3 #[.int .i64 x, .int .i64 y, .string S] w fun e w' => e = .returned (.bool true) ∧ Below w.heap.size w w' := by
  obtain ⟨t, er, h1, h2⟩ := texts_same x y
  have H1 := Hid.mk' h1
  have H2 := Hid.mk' h2
  obtain ⟨b00, b01⟩ := b0
  obtain ⟨b10, b11⟩ := b1
  obtain ⟨b20, b21⟩ := b2
  obtain ⟨b30, b31⟩ := b3
  clear h1 h2
  go_enter Try.func3, Try.ntmps3
  go_wp2_with fail
  refine (H1.out _).mono ?_
  rintro e w1 ⟨rfl, hb1⟩
  go_wp2_with fail
  refine (H2.out _).mono ?_
  rintro e w2 ⟨rfl, hb2⟩
  have HB := Hid.mk' (hb1.trans (hb2.mono hb1.size))
  clear hb1 hb2
  go_wp2_with fail
  refine (H3.out _).mono ?_
  rintro e w3 ⟨rfl, q, rfl⟩
  have HB3 := Hid.mk' (below_drewN HB.out q)
  clear HB
  generalize w2.drewN q = w3 at *
  go_wp2_with fail
  go_quiet (fail)
  go_wp2
  go_ret
  exact ⟨rfl, below_drewN HB3.out _⟩

theorem AboutSizes_any (x y : Int) (S : ByteArray) (w : World) : Calls Try.prog 3 #[.int .i64 x, .int .i64 y, .string S] w fun e w' => e = .returned (.bool true) ∧ Below w.heap.size w w' := by
  by_cases h1 : S.size < 4
  · exact Sizes_short x y S h1 w
  by_cases h2 : 4 < S.size
  · exact Sizes_long x y S h2 w
  obtain ⟨a, b, c, d, rfl⟩ := size4 S (by omega)
  have ha := a.toNat_lt
  have hb := b.toNat_lt
  have hc := c.toNat_lt
  have hd := d.toNat_lt
  exact Sizes_some x y (szText a b c d) rfl (a.toNat : Int) (b.toNat : Int) (c.toNat : Int) (d.toNat : Int) _ _ w rfl rfl rfl rfl (by omega) (by omega) (by omega) (by omega) (by omega) (by omega) (ReadSize_ok a b c d)
end Go.Proofs.Ytgghplfcdkedcaa.W
