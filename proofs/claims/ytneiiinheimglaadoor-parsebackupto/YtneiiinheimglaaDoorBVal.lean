/-
  Which texts are UTF-8, as plain functions: what utf8.ValidString's plain function says of runes that are written, and of those that are read; no program, no condition.
-/
import Derived.Test.YtneiiinheimglaaDoorBBack
import Derived.Lib.ValidLaws
namespace Go.Proofs.YtneiiinheimglaaDoor.B
open Go.Lib Go.Proofs.YtneiiinheimglaaDoor Go.Proofs.YtneiiinheimglaaDoor.U

theorem dec_enc {r : Nat} (h : isRune r) (t : List UInt8) : dec (encodeRune (r : Int) ++ t) = (r, (encodeRune (r : Int)).length) := by
  rw [encN_eq h]
  unfold isRune at h
  unfold encN
  by_cases c0 : r < 128
  · rw [if_pos c0]
    simp only [List.map_cons, List.map_nil, List.cons_append, List.nil_append]
    have e0 := u8_nat (n := r) (by omega)
    generalize r.toUInt8 = a at e0
    have hd : dec (a :: t) = (r, 1) := by unfold dec nth; simp only [List.getD_cons_zero, e0]; unfold decodeN; rw [if_pos c0]
    exact hd
  rw [if_neg c0]
  by_cases c1 : r < 2048
  · rw [if_pos c1]
    simp only [List.map_cons, List.map_nil, List.cons_append, List.nil_append]
    have e0 := u8_nat (n := 192 + r / 64) (by omega)
    have e1 := u8_nat (n := 128 + r % 64) (by omega)
    generalize (192 + r / 64).toUInt8 = a at e0
    generalize (128 + r % 64).toUInt8 = b at e1
    have hd : dec (a :: b :: t) = (r, 2) := by
      unfold dec nth; simp only [List.getD_cons_zero, List.getD_cons_succ, e0, e1, List.length_cons]; unfold decodeN
      rw [if_neg (by omega), if_pos (by omega), if_pos (by omega)]
      refine Prod.ext ?_ rfl
      simp only; omega
    exact hd
  rw [if_neg c1]
  by_cases c2 : r < 65536
  · rw [if_pos c2]
    simp only [List.map_cons, List.map_nil, List.cons_append, List.nil_append]
    have e0 := u8_nat (n := 224 + r / 4096) (by omega)
    have e1 := u8_nat (n := 128 + r / 64 % 64) (by omega)
    have e2 := u8_nat (n := 128 + r % 64) (by omega)
    generalize (224 + r / 4096).toUInt8 = a at e0
    generalize (128 + r / 64 % 64).toUInt8 = b at e1
    generalize (128 + r % 64).toUInt8 = c at e2
    have hd : dec (a :: b :: c :: t) = (r, 3) := by
      unfold dec nth; simp only [List.getD_cons_zero, List.getD_cons_succ, e0, e1, e2, List.length_cons]; unfold decodeN
      rw [if_neg (by omega), if_neg (by omega), if_pos (by omega), if_pos (by omega)]
      refine Prod.ext ?_ rfl
      simp only; omega
    exact hd
  rw [if_neg c2]
  simp only [List.map_cons, List.map_nil, List.cons_append, List.nil_append]
  have e0 := u8_nat (n := 240 + r / 262144) (by omega)
  have e1 := u8_nat (n := 128 + r / 4096 % 64) (by omega)
  have e2 := u8_nat (n := 128 + r / 64 % 64) (by omega)
  have e3 := u8_nat (n := 128 + r % 64) (by omega)
  generalize (240 + r / 262144).toUInt8 = a at e0
  generalize (128 + r / 4096 % 64).toUInt8 = b at e1
  generalize (128 + r / 64 % 64).toUInt8 = c at e2
  generalize (128 + r % 64).toUInt8 = d at e3
  have hd : dec (a :: b :: c :: d :: t) = (r, 4) := by
    unfold dec nth; simp only [List.getD_cons_zero, List.getD_cons_succ, e0, e1, e2, e3, List.length_cons]; unfold decodeN
    rw [if_neg (by omega), if_neg (by omega), if_neg (by omega), if_pos (by omega), if_pos (by omega)]
    refine Prod.ext ?_ rfl
    simp only; omega
  exact hd

theorem decodeL_dec (l : List UInt8) : decodeL l = dec l := by rw [decodeL_N]; rfl
theorem enc_ne (r : Nat) : encodeRune (r : Int) ≠ [] := fun e => by
  have h := (encodeRuneZ_length (r : Int)).1
  unfold encodeRune at e
  have e2 := congrArg List.length e
  rw [List.length_map, List.length_nil] at e2
  omega
theorem valid_enc {r : Nat} (h : isRune r) (t : List UInt8) : validD (encodeRune (r : Int) ++ t) = validD t := by
  have hne : encodeRune (r : Int) ++ t ≠ [] := fun e => enc_ne r (List.append_eq_nil_iff.1 e).1
  rw [validD_step _ hne, decodeL_dec, dec_enc h t]
  dsimp only
  rw [if_neg (fun e => by
    obtain ⟨rfl, e2⟩ := e
    have : (encodeRune ((65533 : Nat) : Int)).length = 3 := by decide +kernel
    omega), List.drop_left]
theorem valid_encAll : ∀ l : List Int, validD (encAll l) = true
  | [] => validD_nil
  | c :: l => by
    have : encAll (c :: l) = encodeRune (fixR c : Int) ++ encAll l := by rw [← enc_nat]; rfl
    rw [this, valid_enc (fixR_rune c), valid_encAll l]
theorem valid_step {s : List UInt8} (h : validD s = true) (hne : s ≠ []) : s = encodeRune ((dec s).1 : Int) ++ s.drop (dec s).2 ∧ validD (s.drop (dec s).2) = true := by
  rw [validD_step s hne, decodeL_dec] at h
  by_cases hb : (dec s).1 = 65533 ∧ (dec s).2 = 1
  · rw [if_pos hb] at h; cases h
  · rw [if_neg hb] at h
    have e := encode_decode s hne (by rw [decodeL_dec]; exact hb)
    rw [decodeL_dec] at e
    exact ⟨by rw [e, List.take_append_drop], h⟩
theorem runes_cons {s : List UInt8} (h : validD s = true) (hne : s ≠ []) : runesOf s = ((dec s).1 : Int) :: runesOf (s.drop (dec s).2) := by
  have e := (valid_step h hne).1
  have r := rd_enc (dec_rune s) (s.drop (dec s).2)
  rw [← e] at r
  unfold runesOf
  rw [r]
  rfl
theorem valid_runes : ∀ (n : Nat) (s : List UInt8), s.length ≤ n → validD s = true → encAll (runesOf s) = s ∧ (rd s).1 = []
  | 0, s, h, _ => by
    obtain rfl := List.eq_nil_of_length_eq_zero (Nat.le_zero.mp h)
    exact ⟨rfl, rfl⟩
  | n + 1, s, h, hv => by
    by_cases hne : s = []
    · subst hne; exact ⟨rfl, rfl⟩
    · obtain ⟨e, hv2⟩ := valid_step hv hne
      have hp := dec_pos s
      have hl : (s.drop (dec s).2).length = s.length - (dec s).2 := List.length_drop
      have hn : s.length ≠ 0 := fun e => hne (List.eq_nil_of_length_eq_zero e)
      have ih := valid_runes n (s.drop (dec s).2) (by omega) hv2
      refine ⟨?_, ?_⟩
      · rw [runes_cons hv hne, encAll_cons, ih.1]
        exact e.symm
      · have r := rd_enc (dec_rune s) (s.drop (dec s).2)
        rw [← e] at r
        rw [r]
        exact ih.2
theorem valid_iff (s : List UInt8) : validD s = true ↔ encAll (runesOf s) = s :=
  ⟨fun h => (valid_runes s.length s (Nat.le_refl _) h).1, fun h => by rw [← h]; exact valid_encAll _⟩
end Go.Proofs.YtneiiinheimglaaDoor.B
