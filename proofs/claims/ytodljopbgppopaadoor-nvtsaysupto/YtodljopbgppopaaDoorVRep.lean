/-
  Plain laws of strings.ReplaceAll at an old of one byte; its contract, and that of farkeep.NvtTurn's drop and of farref.LineOut; conditions: at most 4000000 bytes, and the variable internal/bytealg.MaxLen holds some int.
-/
import Derived.Test.YtodljopbgppopaaDoorShelf
import Derived.Test.YtodljopbgppopaaDoorVLives
namespace Go.Proofs.YtodljopbgppopaaDoor.V
open Go.RowKit Go.Lib Go.Proofs.YtodljopbgppopaaDoor

def rep (c : UInt8) (new : List UInt8) : List UInt8 → List UInt8
  | [] => []
  | b :: l => (if b = c then new else [b]) ++ rep c new l

theorem repK (c : UInt8) (new : List UInt8) : ∀ l : List UInt8, Lib.replaceK [c] new (Lib.count l [c]) l = rep c new l
  | [] => rfl
  | b :: l => by
    have ih := repK c new l
    by_cases hb : b = c
    · subst hb
      rw [Lib.count_cons_eq, Nat.add_comm, Lib.replaceK_hit _ _ _ _ 0 (by simp [Lib.index])]
      simp only [List.take_zero, List.nil_append, List.length_singleton, Nat.zero_add, List.drop_succ_cons, List.drop_zero]
      rw [ih, rep, if_pos rfl]
    · rw [Lib.count_cons_ne _ _ _ hb, rep, if_neg hb, ← ih]
      rcases Nat.eq_zero_or_pos (Lib.count l [c]) with h0 | h0
      · rw [h0]; rfl
      · obtain ⟨i, hi⟩ := Lib.index_of_count h0
        obtain ⟨k, hk⟩ : ∃ k, Lib.count l [c] = k + 1 := ⟨Lib.count l [c] - 1, by omega⟩
        have hi2 : Lib.index (b :: l) [c] = ((i + 1 : Nat) : Int) := by
          rw [Lib.index, if_neg (by simp [List.isPrefixOf]; exact fun e => hb e.symm), hi, if_neg (by simp)]
          omega
        rw [hk, Lib.replaceK_hit _ _ _ _ i hi, Lib.replaceK_hit _ _ _ _ (i + 1) hi2]
        simp

theorem rep_all (c : UInt8) (new l : List UInt8) : Lib.replaceAll l [c] new = rep c new l := by
  rw [Lib.replaceAll, Lib.replace]
  by_cases h : ([c] == new) = true
  · have e : new = [c] := (by simpa using h : [c] = new).symm
    subst e
    have : ∀ l : List UInt8, rep c [c] l = l := fun l => by
      induction l with
      | nil => rfl
      | cons b l ih => rw [rep, ih]; by_cases hb : b = c <;> simp [hb]
    rw [this]
    simp
  · rw [if_neg h, Lib.replaceNum, if_pos (.inl (by decide)), repK]

theorem rep_len (c : UInt8) (new : List UInt8) (hn : new.length ≤ 2) (l : List UInt8) : (rep c new l).length ≤ 2 * l.length := by
  induction l with
  | nil => simp [rep]
  | cons b l ih =>
    rw [rep, List.length_append, List.length_cons]
    split
    · omega
    · simp only [List.length_singleton]; omega
theorem rep_nil_len (c : UInt8) (l : List UInt8) : (rep c [] l).length ≤ l.length := by
  induction l with
  | nil => simp [rep]
  | cons b l ih =>
    rw [rep, List.length_append, List.length_cons]
    split <;> simp only [List.length_singleton, List.length_nil] <;> omega
theorem rep_app (c : UInt8) (new a b : List UInt8) : rep c new (a ++ b) = rep c new a ++ rep c new b := by
  induction a with
  | nil => rfl
  | cons x a ih => simp [rep, ih]

theorem Rep_any (c : UInt8) (new l : List UInt8) (m : Int) (w : World) (hl : l.length ≤ 4000000) (hn : new.length ≤ 2) (hm : w.cell? ⟨0, 0, none⟩ = some (.int .i64 m)) :
    Calls Tryd.prog 11 #[.string ⟨l.toArray⟩, .string ⟨#[c]⟩, .string ⟨new.toArray⟩] w fun e w' => e = .returned (.string ⟨(rep c new l).toArray⟩) ∧ Below w.heap.size w w' := by
  have hsz := size_mk l
  have hc : Lib.countB ⟨l.toArray⟩ ⟨#[c]⟩ ≤ l.length + 1 := by
    have := Lib.count_le l [c]
    simpa [Lib.countB] using this
  have H := Tryd.strings_ReplaceAll ⟨l.toArray⟩ ⟨#[c]⟩ ⟨new.toArray⟩ m w (by rw [hsz]; omega) hm (by show 1 ≤ 1; omega) (by
    rw [hsz, size_mk new]
    have : Lib.countB ⟨l.toArray⟩ ⟨#[c]⟩ * new.length ≤ (l.length + 1) * 2 := Nat.mul_le_mul hc hn
    omega)
  simp only [] at H
  rw [rep_all] at H
  exact H

/-- without 0 and 13 -/
def dr (l : List UInt8) : List UInt8 := rep 13 [] (rep 0 [] l)
theorem dr_app (a b : List UInt8) : dr (a ++ b) = dr a ++ dr b := by unfold dr; rw [rep_app, rep_app]
theorem dr_flush (cr : Bool) : dr (flush cr) = [] := by cases cr <;> rfl
theorem dr_cr : dr [13] = [] := rfl
theorem dr_nul : dr [0] = [] := rfl
theorem dr_tk (cr : Bool) (b : UInt8) : dr (tk cr b).2 = dr [b] := by
  unfold tk
  split
  · rename_i h; rw [h.2]
  · split
    · rename_i h; rw [h.2]; rfl
    · rw [dr_app]
      have e : dr (if cr = true then [13] else []) = [] := by cases cr <;> rfl
      rw [e, List.nil_append]
      split
      · rename_i h; rw [h]; rfl
      · rfl
theorem dr_rd (l : List UInt8) : ∀ cr, dr (rd cr l).2 = dr l := by
  induction l with
  | nil => intro cr; rfl
  | cons b l ih =>
    intro cr
    rw [rd, dr_app, ih, dr_tk, ← dr_app]; rfl

set_option maxHeartbeats 2000000 in
theorem drop_any (l : List UInt8) (m : Int) (w : World) (hl : l.length ≤ 4000000) (hm : w.cell? ⟨0, 0, none⟩ = some (.int .i64 m)) :
    Calls Tryd.prog 10 #[.string ⟨l.toArray⟩] w fun e w' => e = .returned (.string ⟨(dr l).toArray⟩) ∧ Below w.heap.size w w' := by
  have h0 : 0 < w.heap.size := World.block_lt_of_cell? _ _ hm
  have H1 := Hid.mk' (Rep_any 0 [] l m w hl (by simp) hm)
  have hl2 := rep_nil_len 0 l
  have H2 : Hid (∀ W, Below w.heap.size w W → _) := Hid.mk' (fun W hW => Rep_any 13 [] (rep 0 [] l) m W (by omega) (by simp) ((hW.cell (p := ⟨0, 0, none⟩) h0).trans hm))
  rw [show rep 13 [] (rep 0 [] l) = dr l from rfl] at H2
  generalize (⟨(rep 0 [] l).toArray⟩ : ByteArray) = S1 at *
  generalize (⟨l.toArray⟩ : ByteArray) = S at *
  clear hm hl2
  go_enter Tryd.func10, Tryd.ntmps10
  go_wp2_with fail
  refine H1.out.mono ?_
  rintro e w1 ⟨rfl, hb1⟩
  have HB1 := Hid.mk' hb1
  have hs1 := hb1.size
  clear hb1
  go_wp2_with fail
  refine (H2.out w1 HB1.out).mono ?_
  rintro e w2 ⟨rfl, hb2⟩
  have HB2 : Hid (Below w.heap.size w w2) := HB1.out.trans (hb2.mono hs1)
  clear hb2
  go_wp2
  go_ret
  exact ⟨rfl, HB2.out⟩
end Go.Proofs.YtodljopbgppopaaDoor.V
