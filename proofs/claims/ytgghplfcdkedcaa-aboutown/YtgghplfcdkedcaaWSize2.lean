/-
  Contract of about.ReadSize at four bytes; no condition.
-/
import Derived.Test.YtgghplfcdkedcaaWSize
namespace Go.Proofs.Ytgghplfcdkedcaa.W
open Go.RowKit Go.Lib Go.Proofs.Ytgghplfcdkedcaa

set_option maxHeartbeats 4000000 in
theorem ReadSize_some (S : ByteArray) (hs : S.size = 4) (x0 x1 x2 x3 : Int) (w : World) (g0 : ((S[0]'(by omega)).toNat : Int) = x0) (g1 : ((S[1]'(by omega)).toNat : Int) = x1) (g2 : ((S[2]'(by omega)).toNat : Int) = x2) (g3 : ((S[3]'(by omega)).toNat : Int) = x3)
    (H1 : Hid (∀ w, Calls Try.prog 23 #[.int .u8 x0, .int .u8 x1] w fun e w' => e = .returned (.int .i64 (x0 * 256 + x1)) ∧ w' = w)) (H2 : Hid (∀ w, Calls Try.prog 23 #[.int .u8 x2, .int .u8 x3] w fun e w' => e = .returned (.int .i64 (x2 * 256 + x3)) ∧ w' = w)) :
    Calls Try.prog 11 #[.string S] w fun e w' => e = .returned (.tuple #[.int .i64 (x0 * 256 + x1), .int .i64 (x2 * 256 + x3), .int .i64 0]) ∧ ∃ q, w' = w.drewN q := by
  go_enter Try.func11, Try.ntmps11
  go_wp2_with fail
  go_quiet ((go_at_call 23; first | with_reducible exact Calls.quiet_of_same (H1.out _) | with_reducible exact Calls.quiet_of_same (H2.out _)))
  go_wp2
  exact bodyPost_ret (v := .tuple #[.int .i64 (x0 * 256 + x1), .int .i64 (x2 * 256 + x3), .int .i64 0]) (by simp [results, Try.results11, go_sem]) rfl ⟨rfl, _, rfl⟩

theorem ReadSize_ok (a b c d : UInt8) (w : World) : Calls Try.prog 11 #[.string (szText a b c d)] w fun e w' => e = .returned (.tuple #[.int .i64 ((a.toNat : Int) * 256 + (b.toNat : Int)), .int .i64 ((c.toNat : Int) * 256 + (d.toNat : Int)), .int .i64 0]) ∧ ∃ q, w' = w.drewN q :=
  ReadSize_some (szText a b c d) rfl _ _ _ _ w rfl rfl rfl rfl (number_any a.toNat b.toNat a.toNat_lt b.toNat_lt) (number_any c.toNat d.toNat c.toNat_lt d.toNat_lt)

theorem size4 (S : ByteArray) (h : S.size = 4) : ∃ a b c d, S = szText a b c d := by
  obtain ⟨arr⟩ := S
  obtain ⟨l⟩ := arr
  match l, h with
  | [a, b, c, d], _ => exact ⟨a, b, c, d, rfl⟩
/-- a size is two bytes -/
theorem bytes2 (n : Int) (h : isSz n = true) : ∃ a b : UInt8, n = (a.toNat : Int) * 256 + (b.toNat : Int) := by
  have h := of_decide_eq_true h
  refine ⟨(n.toNat / 256).toUInt8, (n.toNat % 256).toUInt8, ?_⟩
  simp only [Nat.toUInt8, UInt8.toNat_ofNat']
  omega
end Go.Proofs.Ytgghplfcdkedcaa.W
