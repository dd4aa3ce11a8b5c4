/-
  Contract of unicode/utf8.DecodeRuneInString by the plain `dec`, of utf.badLen and utf.first; conditions: the two tables of unicode/utf8 hold what their initialisers lay; at most 2^40 bytes.
-/
import Derived.Test.YtneiiinheimglaaDoorUShelf
import Derived.Test.YtneiiinheimglaaDoorUFull
import Derived.Deep.LoopGhost
import Derived.Deep.Draws
namespace Go.Proofs.YtneiiinheimglaaDoor.U
open Go.RowKit Go.Lib Go.Proofs.YtneiiinheimglaaDoor

theorem get_nth (L : List UInt8) (k : Nat) : ((⟨L.toArray⟩ : ByteArray).get! k).toNat = nth L k := by
  unfold nth
  congr 1
  show L.toArray[k]! = L.getD k 0
  by_cases h : k < L.length
  · simp [h, List.getD]
  · simp [List.getD, h]
    rfl

theorem Dec_any (L : List UInt8) (w : World) (hT : Tabs w) (h0 : L ≠ []) :
    Calls Tryd.prog 62 #[.string ⟨L.toArray⟩] w fun e w' => e = .returned (.tuple #[.int .i32 ((dec L).1 : Int), .int .i64 ((dec L).2 : Int)]) ∧ Below w.heap.size w w' := by
  have H := Tryd.utf8_DecodeRuneInString ⟨L.toArray⟩ w hT
  have hsz : (⟨L.toArray⟩ : ByteArray).size = L.length := by simp [ByteArray.size]
  have hn : L.length ≠ 0 := fun e => h0 (List.eq_nil_of_length_eq_zero e)
  have e : Lib.decodeGo ⟨L.toArray⟩ = dec L := by
    unfold Lib.decodeGo dec
    rw [if_neg (by omega), Lib.decode_at, hsz, Nat.sub_zero, get_nth, get_nth, get_nth, get_nth]
  rw [e] at H
  exact H

theorem take_list (L : List UInt8) (k : Nat) : (⟨L.toArray⟩ : ByteArray).extract 0 k = ⟨(L.take k).toArray⟩ := by
  apply ByteArray.ext
  rw [ByteArray.data_extract]
  apply Array.toList_inj.1
  simp [List.extract_eq_take_drop]
theorem rest_list (L : List UInt8) (k : Nat) : (⟨L.toArray⟩ : ByteArray).extract k (⟨L.toArray⟩ : ByteArray).size = ⟨(L.drop k).toArray⟩ := by
  apply ByteArray.ext
  rw [ByteArray.data_extract]
  apply Array.toList_inj.1
  simp only [Array.toList_extract, List.extract_eq_take_drop]
  have : (⟨L.toArray⟩ : ByteArray).size = L.length := by simp [ByteArray.size]
  rw [this, List.take_of_length_le (by simp)]

def BState (L : List UInt8) (w : World) (g : Nat) (s : Value) (wr : World) : Prop :=
  ∃ k : Nat, 1 ≤ k ∧ k ≤ L.length ∧ s = .int .i64 (k : Int) ∧ 4 - k ≤ g ∧ k ≤ 3 ∧ (2 ≤ k → beg (L.take 2) = true) ∧ (3 ≤ k → beg (L.take 3) = true) ∧ Below w.heap.size w wr

theorem beg_four (L : List UInt8) (h : 3 < L.length) : beg (L.take 4) = false := by
  match L, h with
  | a :: b :: c :: d :: t, _ => rfl

set_option maxHeartbeats 4000000 in
set_option maxRecDepth 100000 in
theorem badLen_any (L : List UInt8) (w : World) (hT : Tabs w) (h0 : L ≠ []) (hl : L.length ≤ 1099511627776) :
    Calls Tryd.prog 63 #[.string ⟨L.toArray⟩] w fun e w' => e = .returned (.int .i64 (badLen L : Int)) ∧ Below w.heap.size w w' := by
  have hn : 1 ≤ L.length := Nat.pos_of_ne_zero fun e => h0 (List.eq_nil_of_length_eq_zero e)
  have HS : Hid (BState L w 3 (.int .i64 1) w) := ⟨1, Nat.le_refl _, hn, rfl, by omega, by omega, by omega, by omega, Below.refl _ _⟩
  have hsz : (⟨L.toArray⟩ : ByteArray).size = L.length := by simp [ByteArray.size]
  have HX := Hid.mk' (take_list L)
  have HI : Hid (∀ wr, Below w.heap.size w wr → ∀ k, Calls Tryd.prog 42 #[.string ⟨(L.take k).toArray⟩] wr fun e w' => e = .returned (.bool (beg (L.take k))) ∧ Below wr.heap.size wr w') := fun wr hb k => isBeg_any (L.take k) wr (hT.below hb)
  have HB4 := Hid.mk' (beg_four L)
  have HV : Hid (∀ k, 1 ≤ k → k ≤ L.length → k ≤ 3 → (2 ≤ k → beg (L.take 2) = true) → (3 ≤ k → beg (L.take 3) = true) → ¬ (k < L.length ∧ beg (L.take (k + 1)) = true) → badLen L = k) := by
    intro k h1 h2 h3 h4 h5 h6
    unfold badLen
    rcases (by omega : k = 1 ∨ k = 2 ∨ k = 3) with rfl | rfl | rfl
    · rw [if_neg h6]
    · rw [if_pos ⟨by omega, h4 (by omega)⟩, if_neg h6]
    · rw [if_pos ⟨by omega, h4 (by omega)⟩, if_pos ⟨by omega, h5 (by omega)⟩]
  generalize badLen L = N at *
  generalize (⟨L.toArray⟩ : ByteArray) = S at *
  clear hT
  go_enter Tryd.func63, Tryd.ntmps63
  go_wp2_with fail
  go_loopg [3] 3 (fun g s wr => BState L w g s wr)
  case atStart => exact HS.out
  case round =>
    obtain ⟨k, hk1, hkl, rfl, hg, hk3, hb2, hb3, hbl⟩ := hrel
    clear HS
    have HB2 := Hid.mk' hb2
    have HB3 := Hid.mk' hb3
    have HB := Hid.mk' hbl
    have hswr := hbl.size
    clear hb2 hb3 hbl
    by_cases hlt : k < L.length
    · have hks : (k : Int) < (S.size : Int) := by omega
      have xk := HX.out (k + 1)
      have HK := Hid.mk' (HI.out wr HB.out (k + 1))
      cases hbk : beg (L.take (k + 1)) with
      | true =>
        have hk2 : k ≤ 2 := by
          rcases (by omega : k ≤ 2 ∨ k = 3) with h | rfl
          · exact h
          · have := HB4.out hlt
            rw [hbk] at this; cases this
        rw [hbk] at HK
        have HN2 : Hid (2 ≤ k + 1 → beg (L.take 2) = true) := fun _ => by
          rcases (by omega : k = 1 ∨ 2 ≤ k) with rfl | h
          · exact hbk
          · exact HB2.out h
        have HN3 : Hid (3 ≤ k + 1 → beg (L.take 3) = true) := fun h => by
          obtain rfl : k = 2 := by omega
          exact hbk
        clear hbk
        generalize (⟨(L.take (k + 1)).toArray⟩ : ByteArray) = R at xk HK
        go_wp2_with fail
        refine HK.out.mono ?_
        rintro e w1 ⟨rfl, hb1⟩
        have HB1 : Hid (Below w.heap.size w w1) := HB.out.trans (hb1.mono hswr)
        clear hb1
        go_wp2
        go_roundg (4 - (k + 1))
        case measure => omega
        case rel => exact ⟨k + 1, by omega, by omega, by go_num, Nat.le_refl _, by omega, HN2.out, HN3.out, HB1.out⟩
      | false =>
        have hv := HV.out k hk1 hkl hk3 HB2.out HB3.out (fun h => by rw [hbk] at h; cases h.2)
        subst hv
        rw [hbk] at HK
        clear hbk
        generalize (⟨(L.take (N + 1)).toArray⟩ : ByteArray) = R at xk HK
        go_wp2_with fail
        refine HK.out.mono ?_
        rintro e w1 ⟨rfl, hb1⟩
        have HB1 : Hid (Below w.heap.size w w1) := HB.out.trans (hb1.mono hswr)
        clear hb1
        go_wp2
        go_ret
        exact ⟨rfl, HB1.out⟩
    · have hv := HV.out k hk1 hkl hk3 HB2.out HB3.out (fun h => hlt h.1)
      subst hv
      have hks : ¬ (N : Int) < (S.size : Int) := by omega
      go_wp2
      go_ret
      exact ⟨rfl, HB.out⟩

theorem dec_bounds (L : List UInt8) : (dec L).1 ≤ 1114111 ∧ (dec L).2 ≤ 4 := by
  refine ⟨by have := dec_rune L; unfold isRune at this; omega, ?_⟩
  unfold dec decodeN
  repeat' split
  all_goals simp

set_option maxHeartbeats 4000000 in
set_option maxRecDepth 100000 in
theorem first_any (L : List UInt8) (w : World) (hT : Tabs w) (h0 : L ≠ []) (hl : L.length ≤ 1099511627776) :
    Calls Tryd.prog 43 #[.string ⟨L.toArray⟩] w fun e w' => e = .returned (.tuple #[.int .i64 ((first L).1 : Int), .int .i64 ((first L).2 : Int)]) ∧ Below w.heap.size w w' := by
  have HD := Dec_any L w hT h0
  have HBL : Hid (∀ wr, Below w.heap.size w wr → Calls Tryd.prog 63 #[.string ⟨L.toArray⟩] wr fun e w' => e = .returned (.int .i64 (badLen L : Int)) ∧ Below wr.heap.size wr w') := fun wr hb => badLen_any L wr (hT.below hb) h0 hl
  have hbd := dec_bounds L
  unfold first
  generalize dec L = D at *
  obtain ⟨r, n⟩ := D
  simp only at HD hbd ⊢
  generalize badLen L = N at *
  generalize (⟨L.toArray⟩ : ByteArray) = S at *
  clear hT
  by_cases hc : n = 1 ∧ r = 65533
  · obtain ⟨rfl, rfl⟩ := hc
    rw [if_pos ⟨rfl, rfl⟩]
    go_enter Tryd.func43, Tryd.ntmps43
    go_wp2_with fail
    refine HD.mono ?_
    rintro e w1 ⟨rfl, hb1⟩
    have HB1 := Hid.mk' hb1
    clear hb1
    go_wp2_with fail
    refine (HBL.out w1 HB1.out).mono ?_
    rintro e w2 ⟨rfl, hb2⟩
    have HB2 : Hid (Below w.heap.size w w2) := HB1.out.trans (hb2.mono HB1.out.size)
    clear hb2
    go_wp2
    go_ret2
    exact ⟨rfl, HB2.out⟩
  · rw [if_neg hc]
    by_cases hn : n = 1
    · have hr : ((r : Int) == 65533) = false := by rw [beq_eq_false_iff_ne]; omega
      subst hn
      go_enter Tryd.func43, Tryd.ntmps43
      go_wp2_with fail
      refine HD.mono ?_
      rintro e w1 ⟨rfl, hb1⟩
      have HB1 := Hid.mk' hb1
      clear hb1
      go_wp2
      go_ret2
      exact ⟨rfl, HB1.out⟩
    · have hr : ((n : Int) == 1) = false := by rw [beq_eq_false_iff_ne]; omega
      go_enter Tryd.func43, Tryd.ntmps43
      go_wp2_with fail
      refine HD.mono ?_
      rintro e w1 ⟨rfl, hb1⟩
      have HB1 := Hid.mk' hb1
      clear hb1
      go_wp2
      go_ret2
      exact ⟨rfl, HB1.out⟩
end Go.Proofs.YtneiiinheimglaaDoor.U
