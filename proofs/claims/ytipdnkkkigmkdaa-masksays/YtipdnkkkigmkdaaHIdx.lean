/-
  Contracts of strings.IndexByte, and of strings.Index and Contains at a text of one byte; no condition.
-/
import Derived.Test.YtipdnkkkigmkdaaHCells
import Derived.Lib.Strings
import Derived.Lib.Slices
import Derived.Lib.Walk
import Derived.Lib.Bytealg
import Derived.BigQuiet
namespace Go.Proofs.Ytipdnkkkigmkdaa.H
open Go.RowKit Go.Lib Go.Proofs.Ytipdnkkkigmkdaa Go.Proofs.Ytipdnkkkigmkdaa.W Go.Proofs.Ytipdnkkkigmkdaa.Q

theorem same_bytes (a b : ByteArray) : (a.toList == b.toList) = decide (a = b) := by
  rw [ByteArray.toList_eq, ByteArray.toList_eq]
  by_cases h : a = b
  · subst h; simp
  · rw [decide_eq_false h]
    apply beq_false_of_ne
    intro e
    exact h (ByteArray.ext (Array.toList_inj.1 e))

theorem cut_at (c : UInt8) (s : List UInt8) : (c ∉ s ∧ Lib.indexByte s c = -1) ∨ ∃ a b, s = a ++ c :: b ∧ c ∉ a ∧ Lib.indexByte s c = (a.length : Int) := by
  induction s with
  | nil => exact .inl ⟨by simp, rfl⟩
  | cons x s ih =>
    by_cases hx : x = c
    · subst hx
      exact .inr ⟨[], s, rfl, by simp, by simp [Lib.indexByte]⟩
    · have hx2 : (x == c) = false := beq_false_of_ne hx
      rcases ih with ⟨h1, h2⟩ | ⟨a, b, h1, h2, h3⟩
      · refine .inl ⟨?_, ?_⟩
        · simp only [List.mem_cons, not_or]; exact ⟨fun e => hx e.symm, h1⟩
        · simp [Lib.indexByte, hx2, h2]
      · refine .inr ⟨x :: a, b, by rw [h1]; rfl, ?_, ?_⟩
        · simp only [List.mem_cons, not_or]; exact ⟨fun e => hx e.symm, h2⟩
        · have hne : ((a.length : Int) == -1) = false := by apply beq_false_of_ne; omega
          simp only [Lib.indexByte, hx2, h3, hne, List.length_cons, if_false, Bool.false_eq_true]
          omega
theorem index_in (s : List UInt8) (c : UInt8) : (0 ≤ Lib.indexByte s c) ↔ c ∈ s := by
  rcases cut_at c s with ⟨h1, h2⟩ | ⟨a, b, h1, _, h2⟩
  · rw [h2]; exact ⟨fun h => absurd h (by decide), fun h => absurd h h1⟩
  · rw [h2, h1]; exact ⟨fun _ => by simp, fun _ => by omega⟩

set_option maxHeartbeats 1000000 in
set_option maxRecDepth 100000 in
theorem IndexByte_any (S : ByteArray) (c : UInt8) (w : World) :
    Calls Try.prog 13 #[.string S, .int .u8 (c.toNat : Int)] w fun e w' => e = .returned (.int .i64 (Lib.indexByte S.data.toList c)) ∧ w' = w := by
  have hc : ((c.toNat : Int)).toNat.toUInt8 = c := by simp
  have HR := fun W : World => Lib.run_indexByteString (P := Try.prog) S (c.toNat : Int) W
  rw [hc] at HR
  go_enter Try.func13, Try.ntmps13
  go_wp2
  rw [run_callFunc_extern Try.func17 (by kernel_rfl) (by kernel_rfl) (by kernel_rfl) (e := Extern.BytealgIndexByte.indexByte) (by kernel_rfl), HR]
  simp only [Result.andThen]
  rw [Oper.upon_value]
  go_wp2
  go_ret
  exact ⟨rfl, rfl⟩

set_option maxHeartbeats 1000000 in
theorem SIndexByte_any (S : ByteArray) (c : UInt8) (w : World) :
    Calls Try.prog 7 #[.string S, .int .u8 (c.toNat : Int)] w fun e w' => e = .returned (.int .i64 (Lib.indexByte S.data.toList c)) ∧ w' = w := by
  have H1 := Hid.mk' (IndexByte_any S c w)
  generalize Lib.indexByte S.data.toList c = R at *
  generalize (c.toNat : Int) = x at *
  go_enter Try.func7, Try.ntmps7
  go_wp2_with fail
  refine H1.out.mono ?_
  rintro e w1 ⟨rfl, rfl⟩
  go_wp2
  go_ret
  exact ⟨rfl, rfl⟩

set_option maxHeartbeats 2000000 in
set_option maxRecDepth 100000 in
theorem Index0_one (S : ByteArray) (c : UInt8) (w : World) :
    Calls Try.prog 19 #[.string S, .string ⟨#[c]⟩] w fun e w' => e = .returned (.int .i64 (Lib.indexByte S.data.toList c)) ∧ w' = w := by
  by_cases hs : S = ⟨#[c]⟩
  · subst hs
    have e : Lib.indexByte (⟨#[c]⟩ : ByteArray).data.toList c = 0 := by simp [Lib.indexByte]
    rw [e]
    go_enter Try.func19, Try.ntmps19
    go_wp2
    go_ret
    exact ⟨rfl, rfl⟩
  · have H1 := Hid.mk' (IndexByte_any S c w)
    have hq : ((⟨#[c]⟩ : ByteArray).toList == S.toList) = false := by rw [same_bytes]; exact decide_eq_false (fun e => hs e.symm)
    have hz : (⟨#[c]⟩ : ByteArray).size = 1 := rfl
    have hg : (⟨#[c]⟩ : ByteArray)[0]'(by rw [hz]; omega) = c := rfl
    generalize Lib.indexByte S.data.toList c = R at *
    generalize (⟨#[c]⟩ : ByteArray) = T at *
    go_enter Try.func19, Try.ntmps19
    go_wp2_with fail
    refine H1.out.mono ?_
    rintro e w1 ⟨rfl, rfl⟩
    go_wp2
    go_ret
    exact ⟨rfl, rfl⟩

set_option maxHeartbeats 1000000 in
theorem Index_one (S : ByteArray) (c : UInt8) (w : World) :
    Calls Try.prog 16 #[.string S, .string ⟨#[c]⟩] w fun e w' => e = .returned (.int .i64 (Lib.indexByte S.data.toList c)) ∧ w' = w := by
  have H1 := Hid.mk' (Index0_one S c w)
  generalize Lib.indexByte S.data.toList c = R at *
  generalize (⟨#[c]⟩ : ByteArray) = T at *
  go_enter Try.func16, Try.ntmps16
  go_wp2_with fail
  refine H1.out.mono ?_
  rintro e w1 ⟨rfl, rfl⟩
  go_wp2
  go_ret
  exact ⟨rfl, rfl⟩

/-- is the byte in the text? -/
def inT (S : ByteArray) (c : UInt8) : Bool := decide (c ∈ S.data.toList)

set_option maxHeartbeats 1000000 in
theorem Contains_one (S : ByteArray) (c : UInt8) (w : World) :
    Calls Try.prog 12 #[.string S, .string ⟨#[c]⟩] w fun e w' => e = .returned (.bool (inT S c)) ∧ w' = w := by
  have H1 := Hid.mk' (Index_one S c w)
  unfold inT
  rcases cut_at c S.data.toList with ⟨h1, h2⟩ | ⟨a, b, h1, _, h2⟩
  · rw [decide_eq_false h1]
    rw [h2] at H1
    clear h1 h2
    generalize (⟨#[c]⟩ : ByteArray) = T at *
    go_enter Try.func12, Try.ntmps12
    go_wp2_with fail
    refine H1.out.mono ?_
    rintro e w1 ⟨rfl, rfl⟩
    go_wp2
    go_ret
    exact ⟨rfl, rfl⟩
  · rw [decide_eq_true (by rw [h1]; simp)]
    rw [h2] at H1
    clear h1 h2
    have h0 : (0 : Int) ≤ (a.length : Int) := by omega
    generalize (a.length : Int) = N at *
    generalize (⟨#[c]⟩ : ByteArray) = T at *
    go_enter Try.func12, Try.ntmps12
    go_wp2_with fail
    refine H1.out.mono ?_
    rintro e w1 ⟨rfl, rfl⟩
    go_wp2
    go_ret
    exact ⟨rfl, rfl⟩

end Go.Proofs.Ytipdnkkkigmkdaa.H
