/-
  Contract of iac.Escape: each byte 255 is doubled; conditions: at most 2097152 bytes, and the variable internal/bytealg.MaxLen holds some int.
-/
import Derived.Test.YtmcoliblkkploaaDoorShelf
import Derived.Test.YtmcoliblkkploaaDoorLives
namespace Go.Proofs.YtmcoliblkkploaaDoor
open Go.RowKit

theorem escK : ∀ l : List UInt8, Lib.replaceK [255] [255, 255] (Lib.count l [255]) l = esc l
  | [] => rfl
  | b :: l => by
    have ih := escK l
    by_cases hb : b = 255
    · subst hb
      rw [Lib.count_cons_eq, Nat.add_comm, Lib.replaceK_hit _ _ _ _ 0 (by simp [Lib.index])]
      simp only [List.take_zero, List.nil_append, List.length_singleton, Nat.zero_add, List.drop_succ_cons, List.drop_zero]
      rw [ih]
      rfl
    · have hb' : ¬ b.toNat = 255 := fun e => hb (UInt8.toNat_inj.1 (by rw [e]; rfl))
      rw [Lib.count_cons_ne _ _ _ hb, esc, if_neg hb', ← ih]
      rcases Nat.eq_zero_or_pos (Lib.count l [255]) with h0 | h0
      · rw [h0]; rfl
      · obtain ⟨i, hi⟩ := Lib.index_of_count h0
        obtain ⟨k, hk⟩ : ∃ k, Lib.count l [255] = k + 1 := ⟨Lib.count l [255] - 1, by omega⟩
        have hi2 : Lib.index (b :: l) [255] = ((i + 1 : Nat) : Int) := by
          rw [Lib.index, if_neg (by simp [List.isPrefixOf]; exact fun e => hb e.symm), hi, if_neg (by simp)]
          omega
        rw [hk, Lib.replaceK_hit _ _ _ _ i hi, Lib.replaceK_hit _ _ _ _ (i + 1) hi2]
        simp

theorem esc_all (l : List UInt8) : Lib.replaceAll l [255] [255, 255] = esc l := by
  rw [Lib.replaceAll, Lib.replace, if_neg (by decide), Lib.replaceNum, if_pos (.inl (by decide)), escK]

theorem esc_length (l : List UInt8) : (esc l).length ≤ 2 * l.length := by
  induction l with
  | nil => simp [esc]
  | cons b l ih =>
    rw [esc]
    split <;> simp only [List.length_cons] <;> omega

set_option maxHeartbeats 800000 in
theorem Escape_any : EscSaid := by
  intro s m w hs hm
  have hsz : (⟨s.toArray⟩ : ByteArray).size = s.length := by simp [ByteArray.size]
  have hc : Lib.countB ⟨s.toArray⟩ ⟨#[255]⟩ ≤ s.length + 1 := by
    have := Lib.count_le s [255]
    simpa [Lib.countB] using this
  have H := Tryd.strings_ReplaceAll ⟨s.toArray⟩ ⟨#[255]⟩ ⟨#[255, 255]⟩ m w (by rw [hsz]; omega) hm (by decide) (by
    rw [hsz]
    have e : (⟨#[255, 255]⟩ : ByteArray).size = 2 := rfl
    rw [e]; omega)
  simp only [] at H
  rw [esc_all] at H
  clear hc
  go_enter Tryd.func18, Tryd.ntmps18
  go_wp2_with fail
  refine H.mono ?_
  rintro e w' ⟨rfl, hb⟩
  go_wp2
  go_ret
  exact ⟨rfl, hb⟩
end Go.Proofs.YtmcoliblkkploaaDoor
