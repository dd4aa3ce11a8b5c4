/-
  Contracts of strings.TrimRight and strings.HasSuffix at the text of the one byte 0, and of farref.Two; conditions: a text of at most 2^62 bytes; a number up to 62.
-/
import Derived.Test.YtipdnkkkigmkdaaDoorHWrite
import Derived.Deep.LoopGhost
import Derived.BigQuiet
namespace Go.Proofs.YtipdnkkkigmkdaaDoor.H
open Go.RowKit Go.Lib Go.Proofs.YtipdnkkkigmkdaaDoor Go.Proofs.YtipdnkkkigmkdaaDoor.W Go.Proofs.YtipdnkkkigmkdaaDoor.Q

theorem take_succ_get (l : List UInt8) (m : Nat) (h : m < l.length) : (bs (l.take (m + 1))).size = m + 1 ∧ (∀ h2 : m < (bs (l.take (m + 1))).size, (bs (l.take (m + 1)))[m]'h2 = l[m]'h) ∧ (bs (l.take (m + 1))).extract 0 m = bs (l.take m) := by
  refine ⟨by rw [bs_size, List.length_take]; omega, fun h2 => ?_, ?_⟩
  · rw [bs_get _ m (by rw [List.length_take]; omega)]
    simp
  · rw [show bs (l.take (m + 1)) = (⟨(l.take (m + 1)).toArray⟩ : ByteArray) from rfl, extract_mk, List.drop_zero, Nat.sub_zero, List.take_take, Nat.min_eq_left (by omega)]
    rfl

def RS (l : List UInt8) (w : World) (g : Nat) (s0 : Value) (wr : World) : Prop := ∃ n, n ≤ l.length ∧ n ≤ g ∧ s0 = .string (bs (l.take n)) ∧ Hid (szN l n = szN l l.length) ∧ wr = w

set_option maxHeartbeats 4000000 in
set_option maxRecDepth 100000 in
theorem trimRightByte_any (l : List UInt8) (hl : l.length ≤ 4611686018427387904) (w : World) :
    Calls Tryd.prog 27 #[.string (bs l), .int .u8 0] w fun e w' => e = .returned (.string (bs (trimRightB l 0))) ∧ w' = w := by
  rw [trim_sz]
  have HST : Hid (RS l w l.length (.string (bs l)) w) := ⟨l.length, Nat.le_refl _, Nat.le_refl _, by rw [List.take_length], rfl, rfl⟩
  have HSU := Hid.mk' (szN_succ l)
  have HRES : Hid (∀ n, szN l n = szN l l.length → szN l n = n → bs (l.take (szN l l.length)) = bs (l.take n)) := fun n h1 h2 => by rw [← h1, h2]
  generalize hR : bs (l.take (szN l l.length)) = R at *
  clear hR
  generalize hS : bs l = S at *
  go_enter Tryd.func27, Tryd.ntmps27
  go_wp2_with fail
  go_loopg [0] l.length (fun g s0 wr => RS l w g s0 wr)
  case atStart => exact HST.out
  case round =>
    obtain ⟨n, hn, hg, rfl, HSZ, rfl⟩ := hrel
    clear HST
    cases n with
    | zero =>
      have HQ := Hid.mk' (HRES.out 0 HSZ.out rfl)
      have hz : (bs (l.take 0)).size = 0 := rfl
      generalize bs (l.take 0) = A at *
      clear HSU HRES HSZ
      go_wp2
      go_ret
      exact ⟨by rw [HQ.out]; rfl, rfl⟩
    | succ m =>
      obtain ⟨hz, hi, he⟩ := take_succ_get l m (by omega)
      have hi2 := hi (by rw [hz]; omega)
      have hs := HSU.out m
      have hgd : l.getD m 0 = l[m]'(by omega) := by rw [List.getD_eq_getElem?_getD, List.getElem?_eq_getElem (by omega)]; rfl
      rw [hgd] at hs
      by_cases h0 : l[m]'(by omega) = 0
      · rw [if_pos h0] at hs
        rw [h0] at hi2
        have HN : Hid (szN l m = szN l l.length) := by rw [Hid, ← hs]; exact HSZ.out
        clear hi hs hgd h0 HSU HRES HSZ
        generalize bs (l.take (m + 1)) = A at *
        generalize hB : bs (l.take m) = B at *
        go_wp2
        go_roundg m
        case measure => omega
        case rel => exact ⟨m, by omega, Nat.le_refl _, by rw [hB], HN, rfl⟩
      · rw [if_neg h0] at hs
        have HQ := Hid.mk' (HRES.out (m + 1) HSZ.out hs)
        have h0' : ¬ ((l[m]'(by omega)).toNat : Int) = 0 := fun e => h0 (by
          apply UInt8.toNat_inj.1
          have : (0 : UInt8).toNat = 0 := rfl
          omega)
        generalize l[m]'(by omega) = b at *
        clear hi hs hgd h0 HSU HRES HSZ he
        generalize bs (l.take (m + 1)) = A at *
        go_wp2
        go_ret
        exact ⟨by rw [HQ.out]; rfl, rfl⟩

set_option maxHeartbeats 4000000 in
set_option maxRecDepth 100000 in
theorem TrimRight_any (l : List UInt8) (hl : l.length ≤ 4611686018427387904) (w : World) :
    Calls Tryd.prog 14 #[.string (bs l), .string { data := #[0] }] w fun e w' => e = .returned (.string (bs (trimRightB l 0))) ∧ w' = w := by
  have H1 := Hid.mk' (trimRightByte_any l hl w)
  have hz : ({ data := #[0] } : ByteArray).size = 1 := rfl
  have hg : ({ data := #[0] } : ByteArray)[0]'(by rw [hz]; omega) = 0 := rfl
  have ht : ({ data := #[0] } : ByteArray).toList.isEmpty = false := by rw [ByteArray.toList_eq]; rfl
  cases hl0 : l with
  | nil =>
    have e : bs (trimRightB [] 0) = ({ data := #[] } : ByteArray) := rfl
    have e2 : bs [] = ({ data := #[] } : ByteArray) := rfl
    rw [e, e2]
    generalize ({ data := #[0] } : ByteArray) = T at *
    go_enter Tryd.func14, Tryd.ntmps14
    go_wp2
    go_ret
    exact ⟨rfl, rfl⟩
  | cons a r =>
    rw [← hl0]
    have hne : (bs l).toList.isEmpty = false := by rw [bs_list, hl0]; rfl
    clear hl0
    generalize bs (trimRightB l 0) = R at *
    generalize bs l = S at *
    generalize ({ data := #[0] } : ByteArray) = T at *
    go_enter Tryd.func14, Tryd.ntmps14
    go_wp2_with fail
    refine H1.out.mono ?_
    rintro e w1 ⟨rfl, rfl⟩
    go_wp2
    go_ret
    exact ⟨rfl, rfl⟩

set_option maxHeartbeats 4000000 in
set_option maxRecDepth 100000 in
theorem HasSuffix0_no (l : List UInt8) (hl : l.length ≤ 4611686018427387904) (h : 0 < l.length → l.getD (l.length - 1) 0 ≠ 0) (w : World) :
    Calls Tryd.prog 20 #[.string (bs l), .string { data := #[0] }] w fun e w' => e = .returned (.bool false) ∧ w' = w := by
  have hz : ({ data := #[0] } : ByteArray).size = 1 := rfl
  have hs := bs_size l
  by_cases h0 : l.length = 0
  · have h1 : ¬ (1 : Int) ≤ (l.length : Int) := by omega
    generalize bs l = S at *
    generalize ({ data := #[0] } : ByteArray) = T at *
    clear h
    go_enter Tryd.func20, Tryd.ntmps20
    go_wp2
    go_ret
    exact ⟨rfl, rfl⟩
  · have he : ((bs l).extract (l.length - 1) l.length).toList = [l.getD (l.length - 1) 0] := by
      rw [show bs l = (⟨l.toArray⟩ : ByteArray) from rfl, extract_mk]
      rw [show (⟨((l.drop (l.length - 1)).take (l.length - (l.length - 1))).toArray⟩ : ByteArray) = bs ((l.drop (l.length - 1)).take (l.length - (l.length - 1))) from rfl, bs_list, show l.length - (l.length - 1) = 1 by omega]
      rw [List.getD_eq_getElem?_getD, List.getElem?_eq_getElem (show l.length - 1 < l.length by omega), List.drop_eq_getElem_cons (show l.length - 1 < l.length by omega)]
      rfl
    have hq : (((bs l).extract (l.length - 1) l.length).toList == ({ data := #[0] } : ByteArray).toList) = false := by
      rw [he, show ({ data := #[0] } : ByteArray).toList = [0] from by rw [ByteArray.toList_eq]]
      apply beq_false_of_ne
      intro e
      simp only [List.cons.injEq, and_true] at e
      exact h (by omega) e
    have h1 : (1 : Int) ≤ (l.length : Int) := by omega
    have h2 : ((l.length : Int) - 1).toNat = l.length - 1 := by omega
    clear he h
    generalize bs l = S at *
    generalize ({ data := #[0] } : ByteArray) = T at *
    go_enter Tryd.func20, Tryd.ntmps20
    go_wp2
    go_ret
    exact ⟨rfl, rfl⟩

set_option maxHeartbeats 2000000 in
theorem HasSuffix_no (l : List UInt8) (hl : l.length ≤ 4611686018427387904) (h : 0 < l.length → l.getD (l.length - 1) 0 ≠ 0) (w : World) :
    Calls Tryd.prog 10 #[.string (bs l), .string { data := #[0] }] w fun e w' => e = .returned (.bool false) ∧ w' = w := by
  have H1 := Hid.mk' (HasSuffix0_no l hl h w)
  generalize bs l = S at *
  generalize ({ data := #[0] } : ByteArray) = T at *
  go_enter Tryd.func10, Tryd.ntmps10
  go_wp2_with fail
  refine H1.out.mono ?_
  rintro e w1 ⟨rfl, rfl⟩
  go_wp2
  go_ret
  exact ⟨rfl, rfl⟩

set_option maxHeartbeats 2000000 in
theorem Two_any (k : Nat) (hk : k ≤ 62) (w : World) : Calls Tryd.prog 16 #[.int .i64 (k : Int)] w fun e w' => e = .returned (.int .i64 ((2 ^ k : Nat) : Int)) ∧ w' = w := by
  have HP : Hid (∀ n, n ≤ k → 2 ^ n ≤ 4611686018427387904) := fun n hn => Nat.le_trans (Nat.pow_le_pow_right (by decide : 2 > 0) (show n ≤ 62 by omega)) (by decide)
  have HS : Hid (∀ n, 2 ^ (n + 1) = 2 * 2 ^ n) := fun n => by rw [Nat.pow_succ]; omega
  go_enter Tryd.func16, Tryd.ntmps16
  go_wp2_with fail
  go_loopg [3, 5] k (fun g s3 s5 wr => ∃ n, n ≤ k ∧ k - n ≤ g ∧ s5 = .int .i64 (n : Int) ∧ s3 = .int .i64 ((2 ^ n : Nat) : Int) ∧ wr = w)
  case atStart => exact ⟨0, Nat.zero_le _, by omega, rfl, rfl, rfl⟩
  case round =>
    obtain ⟨n, hn, hg, rfl, rfl, rfl⟩ := hrel
    by_cases hlt : n < k
    · have hp := HP.out (n + 1) hlt
      have hs := HS.out n
      have hp0 := HP.out n hn
      generalize hy : 2 ^ (n + 1) = y at *
      generalize 2 ^ n = x at *
      go_wp2
      go_roundg (k - (n + 1))
      case measure => omega
      case rel => exact ⟨n + 1, by omega, Nat.le_refl _, by go_num, by rw [hy, hs]; congr 1; omega, rfl⟩
    · obtain rfl : n = k := by omega
      generalize hx : ((2 ^ n : Nat) : Int) = x at *
      go_wp2
      go_ret
      exact ⟨by rw [hx]; rfl, rfl⟩
end Go.Proofs.YtipdnkkkigmkdaaDoor.H
