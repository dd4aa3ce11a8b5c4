/-
  The walk of farkeep.NvtForm: it returns true; conditions: at most 1048576 bytes. Contract of strings.Count at one byte.
-/
import Derived.Test.YtodljopbgppopaaVLives
import Derived.Lib.Strings
import Derived.Lib.Slices
import Derived.Lib.Walk
import Derived.Lib.Bytealg
namespace Go.Proofs.Ytodljopbgppopaa.V
open Go.RowKit Go.Lib Go.Proofs.Ytodljopbgppopaa

theorem out_count (l : List UInt8) : (out l).length = l.length + l.count 13 + l.count 10 := by
  induction l with
  | nil => rfl
  | cons b l ih =>
    rw [out, List.length_append, ih, put]
    by_cases h : b = 10
    · subst h; simp; omega
    · by_cases h2 : b = 13
      · subst h2; simp; omega
      · have e1 : (b == 10) = false := by simpa using h
        have e2 : (b == 13) = false := by simpa using h2
        rw [if_neg h, if_neg h2, List.count_cons, List.count_cons, e1, e2]
        simp; omega

theorem out_cr (l : List UInt8) : ∀ i, (out l)[i]? = some (13 : UInt8) → (out l)[i + 1]? = some (10 : UInt8) ∨ (out l)[i + 1]? = some (0 : UInt8) := by
  induction l with
  | nil => intro i h; simp [out] at h
  | cons b l ih =>
    intro i h
    rw [out, put] at h ⊢
    by_cases h1 : b = 10
    · rw [if_pos h1] at h ⊢
      match i with
      | 0 => simp
      | 1 => simp at h
      | i + 2 => exact ih i (by simpa using h)
    · rw [if_neg h1] at h ⊢
      by_cases h2 : b = 13
      · rw [if_pos h2] at h ⊢
        match i with
        | 0 => simp
        | 1 => simp at h
        | i + 2 => exact ih i (by simpa using h)
      · rw [if_neg h2] at h ⊢
        match i with
        | 0 => exact absurd (by simpa using h) h2
        | i + 1 => exact ih i (by simpa using h)

theorem out_lf (l : List UInt8) : ∀ i, (out l)[i]? = some (10 : UInt8) → ∃ j, i = j + 1 ∧ (out l)[j]? = some (13 : UInt8) := by
  induction l with
  | nil => intro i h; simp [out] at h
  | cons b l ih =>
    intro i h
    rw [out, put] at h ⊢
    by_cases h1 : b = 10
    · rw [if_pos h1] at h ⊢
      match i with
      | 0 => simp at h
      | 1 => exact ⟨0, rfl, by simp⟩
      | i + 2 =>
        obtain ⟨j, e, hj⟩ := ih i (by simpa using h)
        exact ⟨j + 2, by omega, by simpa using hj⟩
    · rw [if_neg h1] at h ⊢
      by_cases h2 : b = 13
      · rw [if_pos h2] at h ⊢
        match i with
        | 0 => simp at h
        | 1 => simp at h
        | i + 2 =>
          obtain ⟨j, e, hj⟩ := ih i (by simpa using h)
          exact ⟨j + 2, by omega, by simpa using hj⟩
      · rw [if_neg h2] at h ⊢
        match i with
        | 0 => exact absurd (by simpa using h) h1
        | i + 1 =>
          obtain ⟨j, e, hj⟩ := ih i (by simpa using h)
          exact ⟨j + 1, by omega, by simpa using hj⟩

set_option maxHeartbeats 1000000 in
set_option maxRecDepth 100000 in
theorem Count_one (s : ByteArray) (c : UInt8) (w : World) :
    Calls Try.prog 9 #[.string s, .string ⟨#[c]⟩] w fun e w' => e = .returned (.int .i64 (Lib.countByte s.data.toList c)) ∧ w' = w := by
  go_enter Try.func9, Try.ntmps9
  go_wp2
  rw [run_callFunc_extern Try.func13 (by kernel_rfl) (by kernel_rfl) (by kernel_rfl) (e := Extern.BytealgCount.count) (by kernel_rfl), Lib.run_countString]
  simp only [Result.andThen]
  rw [Oper.upon_value]
  go_wp2
  go_ret
  exact ⟨rfl, rfl⟩

def FState (w : World) (n : Nat) (s4 : Value) (wr : World) : Prop :=
  ∃ k : Nat, k ≤ n ∧ s4 = .int .i64 (k : Int) ∧ wr = w

set_option maxHeartbeats 4000000 in
set_option maxRecDepth 100000 in
theorem NvtForm_any (l : List UInt8) (w : World) (hl : l.length ≤ 1048576) :
    Calls Try.prog 5 #[.string ⟨l.toArray⟩] w fun e w' => e = .returned (.bool true) ∧ Below w.heap.size w w' := by
  have hol := out_len l
  have hoc := out_count l
  have HO := Hid.mk' (Out_any l false w (by omega))
  rw [show outB false l = out l from rfl] at HO
  have HL := Hid.mk' lives_any
  have HC := Hid.mk' (Count_one ⟨l.toArray⟩)
  have hlc := List.count_le_length (a := (13 : UInt8)) (l := l)
  have hlc2 := List.count_le_length (a := (10 : UInt8)) (l := l)
  simp only [Lib.countByte] at HC
  have HCR := Hid.mk' (out_cr l)
  have HLF := Hid.mk' (out_lf l)
  have HG := Hid.mk' (get_mk (out l))
  have hz1 := size_mk l
  have hz2 := size_mk (out l)
  generalize (⟨(out l).toArray⟩ : ByteArray) = T at *
  generalize out l = t at *
  generalize (⟨l.toArray⟩ : ByteArray) = S at *
  go_enter Try.func5, Try.ntmps5
  go_wp2_with fail
  refine HO.out.mono ?_
  rintro e w1 ⟨rfl, hb1⟩
  have HB1 := Hid.mk' hb1
  have hs1 := hb1.size
  clear hb1
  go_wp2_with fail
  have HS : Hid (FState w1 t.length (.int .i64 0) w1) := ⟨0, Nat.zero_le _, rfl, rfl⟩
  go_loopw [9] (fun s8 wr => FState w1 t.length s8 wr) (fun i _ => t.length - (RowKit.intOf i).toNat)
  case atStart => exact HS.out
  case round =>
    obtain ⟨k, hk, rfl, hwr⟩ := hrel
    subst hwr
    clear HS
    by_cases hlt : k < t.length
    · have hb := HG.out k hlt (by omega)
      have hg : t[k]? = some t[k] := by simp [hlt]
      by_cases h13 : t[k] = 13
      · rw [h13] at hb hg
        have hc := HCR.out k hg
        have hlt1 : k + 1 < t.length := by
          rcases hc with h | h <;> exact (List.getElem?_eq_some_iff.1 h).1
        have hb1 := HG.out (k + 1) hlt1 (by omega)
        have hne : ¬ (k : Int) + 1 = (t.length : Int) := by omega
        rcases hc with h | h
        · have hv := (List.getElem?_eq_some_iff.1 h).2
          rw [hv] at hb1
          clear h hv hg h13
          go_wp2
          go_roundw
          case rel => exact ⟨k + 1, by omega, by go_num, rfl⟩
          case measure => simp [RowKit.intOf]; omega
        · have hv := (List.getElem?_eq_some_iff.1 h).2
          rw [hv] at hb1
          clear h hv hg h13
          go_wp2
          go_roundw
          case rel => exact ⟨k + 1, by omega, by go_num, rfl⟩
          case measure => simp [RowKit.intOf]; omega
      by_cases h10 : t[k] = 10
      · rw [h10] at hb hg
        obtain ⟨j, rfl, hj⟩ := HLF.out k hg
        obtain ⟨hj1, hj2⟩ := List.getElem?_eq_some_iff.1 hj
        have hb0 := HG.out j hj1 (by omega)
        rw [hj2] at hb0
        clear hj hj2 hg h10 h13
        go_wp2
        go_roundw
        case rel => exact ⟨j + 1 + 1, by omega, by go_num, rfl⟩
        case measure => simp [RowKit.intOf]; omega
      have hn : (t[k].toNat : Int) ≠ 13 := fun e => h13 (UInt8.toNat_inj.1 (Int.ofNat_inj.1 e))
      have hn10 : (t[k].toNat : Int) ≠ 10 := fun e => h10 (UInt8.toNat_inj.1 (Int.ofNat_inj.1 e))
      have hb2 : ((T[k]'(by omega)).toNat : Int) = (t[k].toNat : Int) := by rw [hb]
      clear hb hg h13 h10
      generalize (t[k].toNat : Int) = y at *
      go_wp2
      go_roundw
      case rel => exact ⟨k + 1, by omega, by go_num, rfl⟩
      case measure => simp [RowKit.intOf]; omega
    · obtain rfl : k = t.length := by omega
      have hoc2 : (t.length : Int) = (l.length : Int) + (l.count 13 : Int) + (l.count 10 : Int) := by omega
      go_wp2_with fail
      refine (HL.out wr).mono ?_
      rintro e w2 ⟨rfl, hb2⟩
      have HB2 : Hid (Below w.heap.size w w2) := HB1.out.trans (hb2.mono hs1)
      clear hb2
      go_wp2_with fail
      refine (HC.out 13 w2).mono ?_
      rintro e w3 ⟨rfl, rfl⟩
      go_wp2_with fail
      refine (HC.out 10 w3).mono ?_
      rintro e w4 ⟨rfl, rfl⟩
      go_wp2
      go_ret
      exact ⟨rfl, HB2.out⟩
end Go.Proofs.Ytodljopbgppopaa.V
