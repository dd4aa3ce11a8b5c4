/-
  farkeep.UtfLeft returns true; conditions: the two tables of unicode/utf8 hold what their initialisers lay; at most 1000000 bytes.
-/
import Derived.Test.YtjnopjjbndknfabDoorURune
namespace Go.Proofs.YtjnopjjbndknfabDoor.U
open Go.RowKit Go.Lib Go.Proofs.YtjnopjjbndknfabDoor

theorem ints_length (l : List Nat) : (ints l).length = l.length := by simp [ints]

set_option maxHeartbeats 8000000 in
set_option maxRecDepth 100000 in
theorem Left_bad (p s : List UInt8) (w : World) (hT : Tabs w) (hp : ¬ (p = [] ∨ beg p = true)) :
    Calls Tryd.prog 3 #[.string ⟨p.toArray⟩, .string ⟨s.toArray⟩] w fun e w' => e = .returned (.bool true) ∧ Below w.heap.size w w' := by
  have HF := Feed_bad p s w hT hp
  have HL : Hid (∀ wr, Below w.heap.size w wr → Calls Tryd.prog 5 #[] wr fun e w' => e = .returned (.bool true) ∧ Below wr.heap.size wr w') := fun wr hb => lives_any wr (hT.below hb)
  generalize (⟨p.toArray⟩ : ByteArray) = SP at *
  generalize (⟨s.toArray⟩ : ByteArray) = SS at *
  clear hT hp
  go_enter Tryd.func3, Tryd.ntmps3
  go_wp2_with fail
  refine HF.mono ?_
  rintro e w1 ⟨rfl, hb1⟩
  have HB1 := Hid.mk' hb1
  clear hb1
  go_wp2_with fail
  refine (HL.out w1 HB1.out).mono ?_
  rintro e w2 ⟨rfl, hb2⟩
  have HB2 : Hid (Below w.heap.size w w2) := HB1.out.trans (hb2.mono HB1.out.size)
  clear hb2
  go_wp2_with fail
  refine (HL.out w2 HB2.out).mono ?_
  rintro e w3 ⟨rfl, hb3⟩
  have HB3 : Hid (Below w.heap.size w w3) := HB2.out.trans (hb3.mono HB2.out.size)
  clear hb3
  go_wp2
  go_ret
  exact ⟨rfl, HB3.out⟩

set_option maxHeartbeats 8000000 in
set_option maxRecDepth 100000 in
theorem Left_ok (p s : List UInt8) (w : World) (hT : Tabs w) (hp : p = [] ∨ beg p = true) (hl : p.length + s.length ≤ 1048576) :
    Calls Tryd.prog 3 #[.string ⟨p.toArray⟩, .string ⟨s.toArray⟩] w fun e w' => e = .returned (.bool true) ∧ Below w.heap.size w w' := by
  have HF := Feed_ok p s w hT hp (by omega)
  have HL : Hid (∀ wr, Below w.heap.size w wr → Calls Tryd.prog 5 #[] wr fun e w' => e = .returned (.bool true) ∧ Below wr.heap.size wr w') := fun wr hb => lives_any wr (hT.below hb)
  obtain ⟨hx, hsum⟩ := rd_left _ (p ++ s) (Nat.le_refl _)
  have hru := rd_rune _ (p ++ s) (Nat.le_refl _)
  have HRU : Hid (∀ k (h : k < (ints (rd (p ++ s)).2).length), runeZ (ints (rd (p ++ s)).2)[k] = true) := fun k h => by
    have hk : k < (rd (p ++ s)).2.length := by rwa [ints_length] at h
    have := hru (rd (p ++ s)).2[k] (List.getElem_mem hk)
    unfold isRune at this
    simp only [ints, List.getElem_map, runeZ, decide_eq_true_eq]
    omega
  have hrl := ints_length (rd (p ++ s)).2
  have hsp : (⟨p.toArray⟩ : ByteArray).size = p.length := by simp [ByteArray.size]
  have hss : (⟨s.toArray⟩ : ByteArray).size = s.length := by simp [ByteArray.size]
  rw [List.length_append] at hsum
  have hx3 : (rd (p ++ s)).1.length ≤ 3 := by
    rcases hx with h | h
    · rw [h]; simp
    · exact (beg_len h).2
  generalize ints (rd (p ++ s)).2 = R at *
  generalize (rd (p ++ s)).2 = R0 at *
  generalize (rd (p ++ s)).1 = X at *
  have HFl : Hid (∀ wr, Below w.heap.size w wr → _) := fun wr hb => Flush_any X wr (hT.below hb)
  have HCk : Hid (∀ wr, Below w.heap.size w wr → _) := fun wr hb => Check_any X wr (hT.below hb)
  rw [if_pos hx] at HFl HCk
  have hXs : (⟨X.toArray⟩ : ByteArray).size = X.length := by simp [ByteArray.size]
  clear hT hp hru
  generalize (⟨p.toArray⟩ : ByteArray) = SP at *
  generalize (⟨s.toArray⟩ : ByteArray) = SS at *
  have HSB : Hid (∃ b : Bool, (⟨X.toArray⟩ : ByteArray).toList.isEmpty = !b ∧ (if beg X = true then [65533] else ([] : List Int)).length = b.toNat) := by
    by_cases h0 : X = []
    · subst h0; exact ⟨false, by rw [Lib.toList_data]; rfl, rfl⟩
    · have hb := hx.resolve_left h0
      exact ⟨true, by rw [str_empty h0]; rfl, by rw [if_pos hb]; rfl⟩
  obtain ⟨b, hbe, hbl⟩ := HSB.out
  clear HSB
  rw [hbl] at HFl
  clear hbl hx
  generalize icells (if beg X = true then [65533] else []) = IX at *
  generalize (⟨X.toArray⟩ : ByteArray) = SX at *
  have n1 : (SX.size : Int) ≤ 3 := by omega
  have n2 : (R.length : Int) + (SX.size : Int) ≤ (SP.size : Int) + (SS.size : Int) := by omega
  have n3 : R.length ≤ 1048576 := by omega
  have n4 : (SP.size : Int) ≤ 1048576 := by omega
  have n5 : (SS.size : Int) ≤ 1048576 := by omega
  go_enter Tryd.func3, Tryd.ntmps3
  go_wp2_with fail
  refine HF.mono ?_
  rintro e w1 ⟨v, rfl, ho, hb1⟩
  have HB1 := Hid.mk' hb1
  have HR1 := Hid.mk' (RdI.own ho)
  clear hb1 HF ho
  go_wp2_with fail
  refine (HL.out w1 HB1.out).mono ?_
  rintro e w2 ⟨rfl, hb2⟩
  have HB2 : Hid (Below w.heap.size w w2) := HB1.out.trans (hb2.mono HB1.out.size)
  have HR2 := Hid.mk' (HR1.out.below hb2)
  clear hb2 HR1
  go_wp2_with fail
  refine (HFl.out w2 HB2.out).mono ?_
  rintro e w3 ⟨vm, rfl, ho3, hb3⟩
  have HB3 : Hid (Below w.heap.size w w3) := HB2.out.trans (hb3.mono HB2.out.size)
  have hr3 := HR2.out.below hb3
  clear hb3 HR2 HFl
  obtain ⟨am, cm, rfl⟩ : ∃ a c, vm = .slice a b.toNat c := by
    rcases ho3.form with ⟨rfl, e⟩ | ⟨g, cap, rfl, _⟩
    · exact ⟨none, 0, by rw [e]⟩
    · exact ⟨_, _, rfl⟩
  clear ho3
  obtain ⟨a, cap, rfl, hcap, hr⟩ := hr3
  have HRD := Hid.mk' hr
  clear hr
  go_wp2_with fail
  go_loopw [33] (fun i wr => ∃ k : Nat, k ≤ R.length ∧ i = .int .i64 k ∧ wr = w3) (fun i _ => R.length - (RowKit.intOf i).toNat)
  case atStart => exact ⟨0, Nat.zero_le _, rfl, rfl⟩
  case round =>
    obtain ⟨k, hk, rfl, hwr⟩ := hrel
    subst hwr
    by_cases hlt : k < R.length
    · rcases HRD.out with h | ⟨bb, off, rfl, hc, _⟩
      · rw [h] at hlt; simp at hlt
      have hck := hc k hlt
      have HRN := Hid.mk' (Rune_any R[k] wr)
      rw [HRU.out k hlt] at HRN
      clear hc
      go_wp2_with fail
      refine HRN.out.mono ?_
      rintro e w4 ⟨rfl, rfl⟩
      go_wp2
      go_roundw
      case rel => exact ⟨k + 1, by omega, by go_num, trivial⟩
      case measure => simp [RowKit.intOf]; omega
    · obtain rfl : k = R.length := by omega
      go_wp2_with fail
      refine (HCk.out wr HB3.out).mono ?_
      rintro e w4 ⟨rfl, hb4⟩
      have HB4 : Hid (Below w.heap.size w w4) := HB3.out.trans (hb4.mono HB3.out.size)
      clear hb4
      cases b with
      | false =>
        go_wp2
        go_ret
        exact ⟨by simp, HB4.out⟩
      | true =>
        go_wp2
        go_ret
        exact ⟨by simp, HB4.out⟩
end Go.Proofs.YtjnopjjbndknfabDoor.U
