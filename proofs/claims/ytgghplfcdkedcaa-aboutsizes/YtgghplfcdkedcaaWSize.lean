/-
  Contracts of about.isSize, number, WriteSize and ReadSize; no condition but those that each names.
-/
import Derived.Test.YtgghplfcdkedcaaWMem
namespace Go.Proofs.Ytgghplfcdkedcaa.W
open Go.RowKit Go.Lib Go.Proofs.Ytgghplfcdkedcaa

/-- is it a size? -/
def isSz (n : Int) : Bool := decide (0 ≤ n ∧ n ≤ 65535)

set_option maxHeartbeats 1000000 in
theorem isSize_any (n : Int) (w : World) : Calls Try.prog 21 #[.int .i64 n] w fun e w' => e = .returned (.bool (isSz n)) ∧ w' = w := by
  unfold isSz
  by_cases h1 : 0 ≤ n
  · by_cases h2 : n ≤ 65535
    · rw [decide_eq_true ⟨h1, h2⟩]
      go_enter Try.func21, Try.ntmps21
      go_wp2
      go_ret
      exact ⟨rfl, rfl⟩
    · rw [decide_eq_false (fun h => h2 h.2)]
      go_enter Try.func21, Try.ntmps21
      go_wp2
      go_ret
      exact ⟨rfl, rfl⟩
  · rw [decide_eq_false (fun h => h1 h.1)]
    go_enter Try.func21, Try.ntmps21
    go_wp2
    go_ret
    exact ⟨rfl, rfl⟩

theorem or_bytes (a b : Nat) (ha : a < 256) (hb : b < 256) : bits .or .i64 ((a : Int) * 256) (b : Int) = (a : Int) * 256 + (b : Int) := by
  have e : (a : Int) * 256 = ((a * 256 : Nat) : Int) := by omega
  rw [e]
  have h1 : (BitVec.ofInt 64 ((a * 256 : Nat) : Int)).toNat = a * 256 := by
    rw [BitVec.ofInt_natCast, BitVec.toNat_ofNat]; exact Nat.mod_eq_of_lt (by omega)
  have h2 : (BitVec.ofInt 64 (b : Int)).toNat = b := by
    rw [BitVec.ofInt_natCast, BitVec.toNat_ofNat]; exact Nat.mod_eq_of_lt (by omega)
  show IntKind.i64.wrap ((BitVec.ofInt 64 ((a * 256 : Nat) : Int) ||| BitVec.ofInt 64 (b : Int)).toNat : Int) = _
  rw [BitVec.toNat_or, h1, h2]
  have h3 : a * 256 ||| b = a * 256 + b := by
    have := Nat.shiftLeft_add_eq_or_of_lt (b := b) (i := 8) (by omega) a
    rw [Nat.shiftLeft_eq] at this
    exact this.symm
  rw [h3]
  rw [IntKind.wrap_i64]
  omega

set_option maxHeartbeats 1000000 in
theorem number_any (a b : Nat) (ha : a < 256) (hb : b < 256) (w : World) : Calls Try.prog 23 #[.int .u8 (a : Int), .int .u8 (b : Int)] w fun e w' => e = .returned (.int .i64 ((a : Int) * 256 + (b : Int))) ∧ w' = w := by
  have ho := or_bytes a b ha hb
  go_enter Try.func23, Try.ntmps23
  go_wp2
  go_ret
  exact ⟨rfl, rfl⟩

/-- the text of a size -/
def szText (a b c d : UInt8) : ByteArray := ⟨#[a, b, c, d]⟩

set_option maxHeartbeats 4000000 in
theorem WriteSize_ok (a b c d : UInt8) (w : World) : Calls Try.prog 9 #[.int .i64 ((a.toNat : Int) * 256 + (b.toNat : Int)), .int .i64 ((c.toNat : Int) * 256 + (d.toNat : Int))] w fun e w' => e = .returned (.tuple #[.string (szText a b c d), .int .i64 0]) ∧ Below w.heap.size w w' := by
  have ha := a.toNat_lt
  have hb := b.toNat_lt
  have hc := c.toNat_lt
  have hd := d.toNat_lt
  have h1 : isSz ((a.toNat : Int) * 256 + (b.toNat : Int)) = true := decide_eq_true (by omega)
  have h2 : isSz ((c.toNat : Int) * 256 + (d.toNat : Int)) = true := decide_eq_true (by omega)
  have H1 := Hid.mk' (isSize_any ((a.toNat : Int) * 256 + (b.toNat : Int)) w)
  have H2 := Hid.mk' (isSize_any ((c.toNat : Int) * 256 + (d.toNat : Int)) w)
  rw [h1] at H1
  rw [h2] at H2
  have hst : (convert 46 9 (.slice (some ⟨w.heap.size, 0, none⟩) 4 4)).run Try.prog (w.alloc (.cells #[.int .u8 (a.toNat : Int), .int .u8 (b.toNat : Int), .int .u8 (c.toNat : Int), .int .u8 (d.toNat : Int)] 5)) = .ok (.string (szText a b c d)) (w.alloc (.cells #[.int .u8 (a.toNat : Int), .int .u8 (b.toNat : Int), .int .u8 (c.toNat : Int), .int .u8 (d.toNat : Int)] 5)) := run_str (OwnB.lit w [a, b, c, d] (by simp))
  have q1 : ((a.toNat : Int) * 256 + (b.toNat : Int)) / 256 = (a.toNat : Int) := by omega
  have q2 : ((c.toNat : Int) * 256 + (d.toNat : Int)) / 256 = (c.toNat : Int) := by omega
  have q3 : (b.toNat : Int) % 256 = (b.toNat : Int) := by omega
  have q4 : (d.toNat : Int) % 256 = (d.toNat : Int) := by omega
  go_enter Try.func9, Try.ntmps9
  go_wp2_with fail
  refine H1.out.mono ?_
  rintro e w1 ⟨rfl, rfl⟩
  go_wp2_with fail
  refine H2.out.mono ?_
  rintro e w1 ⟨rfl, rfl⟩
  go_wp2
  go_ret2
  exact ⟨rfl, (Below.refl _ _).alloc (Nat.le_refl _) _⟩

set_option maxHeartbeats 4000000 in
theorem WriteSize_bad (x y : Int) (h : (isSz x && isSz y) = false) (w : World) : Calls Try.prog 9 #[.int .i64 x, .int .i64 y] w fun e w' => e = .returned (.tuple #[.string ⟨#[]⟩, .int .i64 1]) ∧ w' = w := by
  have H1 := Hid.mk' (isSize_any x w)
  have H2 := Hid.mk' (isSize_any y w)
  cases h1 : isSz x with
  | true =>
    rw [h1, Bool.true_and] at h
    rw [h1] at H1
    rw [h] at H2
    go_enter Try.func9, Try.ntmps9
    go_wp2_with fail
    refine H1.out.mono ?_
    rintro e w1 ⟨rfl, rfl⟩
    go_wp2_with fail
    refine H2.out.mono ?_
    rintro e w1 ⟨rfl, rfl⟩
    go_wp2
    go_ret2
    exact ⟨rfl, rfl⟩
  | false =>
    rw [h1] at H1
    go_enter Try.func9, Try.ntmps9
    go_wp2_with fail
    refine H1.out.mono ?_
    rintro e w1 ⟨rfl, rfl⟩
    go_wp2
    go_ret2
    exact ⟨rfl, rfl⟩

set_option maxHeartbeats 4000000 in
theorem ReadSize_short (S : ByteArray) (h : S.size < 4) (w : World) : Calls Try.prog 11 #[.string S] w fun e w' => e = .returned (.tuple #[.int .i64 0, .int .i64 0, .int .i64 3]) ∧ w' = w := by
  have h' : (S.size : Int) < 4 := by omega
  go_enter Try.func11, Try.ntmps11
  go_wp2
  exact bodyPost_ret (v := .tuple #[.int .i64 0, .int .i64 0, .int .i64 3]) (by simp [results, Try.results11, go_sem]) rfl ⟨rfl, rfl⟩

set_option maxHeartbeats 4000000 in
theorem ReadSize_long (S : ByteArray) (h : 4 < S.size) (w : World) : Calls Try.prog 11 #[.string S] w fun e w' => e = .returned (.tuple #[.int .i64 0, .int .i64 0, .int .i64 4]) ∧ w' = w := by
  have h' : (4 : Int) < S.size := by omega
  have h2 : ¬ (S.size : Int) < 4 := by omega
  go_enter Try.func11, Try.ntmps11
  go_wp2
  exact bodyPost_ret (v := .tuple #[.int .i64 0, .int .i64 0, .int .i64 4]) (by simp [results, Try.results11, go_sem]) rfl ⟨rfl, rfl⟩
end Go.Proofs.Ytgghplfcdkedcaa.W
