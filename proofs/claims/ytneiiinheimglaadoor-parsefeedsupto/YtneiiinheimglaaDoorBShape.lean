/-
  Laws of the parser as a plain function: of what make the acts are that it tells; how many of them are controls; runes without controls; no program, no condition.
-/
import Derived.Test.YtneiiinheimglaaDoorBLaw
namespace Go.Proofs.YtneiiinheimglaaDoor.B
open Go.Lib Go.Proofs.YtneiiinheimglaaDoor

@[reducible] def canPrint (c : Int) : Prop := 32 ≤ c ∧ c ≤ 126 ∨ 160 ≤ c ∧ c ≤ 1114111
def plainInter (l : List UInt8) : Prop := l.length ≤ 2 ∧ ∀ b ∈ l, mid b
@[reducible] def special (c : Int) : Prop := c = 91 ∨ c = 93 ∨ c = 80 ∨ c = 88 ∨ c = 94 ∨ c = 95
/-- of what make an act is -/
def shape (a : Ac) : Prop :=
  a = gone ∨ (a = ⟨1, a.code, 0, [], [], []⟩ ∧ canPrint a.code) ∨ (a = ⟨2, a.code, 0, [], [], []⟩ ∧ 0 ≤ a.code ∧ a.code ≤ 31 ∧ a.code ≠ 24 ∧ a.code ≠ 26 ∧ a.code ≠ 27) ∨
  (a = ⟨3, a.code, 0, a.inter, [], []⟩ ∧ 48 ≤ a.code ∧ a.code ≤ 126 ∧ plainInter a.inter ∧ (a.inter = [] → ¬ special a.code)) ∨
  (a = ⟨4, a.code, a.mark, a.inter, a.args, []⟩ ∧ 64 ≤ a.code ∧ a.code ≤ 126 ∧ (a.mark = 0 ∨ 60 ≤ a.mark ∧ a.mark ≤ 63) ∧ plainInter a.inter ∧ ∃ s, Z.okS s = true ∧ s.length ≤ 100 ∧ a.args = (Z.readT s).1) ∨
  (a = ⟨5, 0, 0, [], [], a.text⟩ ∧ a.text.length ≤ 256)

theorem cls_final {c : Int} (h : 5 ≤ cls c ∧ cls c ≤ 12) : 48 ≤ c ∧ c ≤ 126 := by
  rcases cls_cases c with h1 | h1 | h1 | h1 | h1 | h1 | h1 | h1 | h1 | h1 | h1 | h1 | h1 | h1 | h1 <;> omega
theorem cls_letter {c : Int} (h : 8 ≤ cls c ∧ cls c ≤ 12) : 64 ≤ c ∧ c ≤ 126 := by
  rcases cls_cases c with h1 | h1 | h1 | h1 | h1 | h1 | h1 | h1 | h1 | h1 | h1 | h1 | h1 | h1 | h1 <;> omega
theorem cls_special {c : Int} (h : special c) : cls c = 8 ∨ cls c = 9 ∨ cls c = 11 := by
  unfold special at h
  rcases h with rfl | rfl | rfl | rfl | rfl | rfl <;> decide
theorem gone_shape : shape gone := .inl rfl
theorem okS_all {s : List UInt8} (h : ∀ b ∈ s, Z.okB b = true) : Z.okS s = true := by
  unfold Z.okS
  rw [List.all_eq_true]
  exact h
theorem final_shape {p : Ps} (hp : right p) {c : Int} (h : p.st = 1 ∧ (cls c = 5 ∨ cls c = 6 ∨ cls c = 7 ∨ cls c = 10 ∨ cls c = 12) ∨ p.st = 2 ∧ 5 ≤ cls c ∧ cls c ≤ 12 ∨ 3 ≤ p.st ∧ p.st ≤ 5 ∧ 8 ≤ cls c ∧ cls c ≤ 12) : shape (final p c) := by
  unfold final
  split
  · exact gone_shape
  · rename_i h3
    have hi : plainInter p.inter := ⟨by have := hp.ilen; omega, hp.mids⟩
    have hkk : 5 ≤ cls c ∧ cls c ≤ 12 := by omega
    have hf := cls_final hkk
    split
    · rename_i hs
      refine .inr (.inr (.inr (.inl ⟨rfl, hf.1, hf.2, hi, fun h0 h7 => ?_⟩)))
      have h0' : p.inter = [] := h0
      have h1 := hp.inter.1 h0'
      have h8 := cls_special (c := c) h7
      omega
    · rename_i hs
      have h8 : 8 ≤ cls c ∧ cls c ≤ 12 := by omega
      have hl := cls_letter h8
      exact .inr (.inr (.inr (.inr (.inl ⟨rfl, hl.1, hl.2, hp.mark.elim .inl (fun h => .inr ⟨h.1, h.2.1⟩), hi, p.args, okS_all hp.signs, hp.alen, rfl⟩))))
theorem does_shape {p : Ps} (hp : right p) {c : Int} (hw : what p.st (cls c) ≠ 82) : ∀ a ∈ (does p c (what p.st (cls c))).2, shape a := by
  have hl := letters p.st (cls c) hp.st (cls_lt c)
  have hc := cls_cases c
  unfold spec at hl
  have none : ∀ a ∈ ([] : List Ac), shape a := fun _ h => by cases h
  have one : ∀ x : Ac, shape x → ∀ a ∈ [x], shape a := fun x h a ha => by rw [List.mem_singleton.1 ha]; exact h
  generalize what p.st (cls c) = w at *
  rcases hl with rfl | ⟨rfl | rfl, h⟩ | ⟨rfl, h⟩ | ⟨rfl, h⟩ | ⟨rfl, h⟩ | ⟨rfl, h⟩ | ⟨rfl, h⟩ | ⟨rfl, h⟩ | ⟨rfl, h⟩ | ⟨rfl, h⟩ | ⟨rfl, h⟩ | ⟨rfl, h⟩ | ⟨rfl, h⟩ | ⟨rfl, h⟩ | ⟨rfl, h⟩ | ⟨rfl, h⟩ | ⟨rfl, h⟩ | ⟨rfl, h⟩
  · exact none
  · exact one _ gone_shape
  · exact one _ gone_shape
  · show ∀ a ∈ (if p.st = 0 then [] else [gone]), shape a
    split
    · exact none
    · exact one _ gone_shape
  · refine one _ (.inr (.inr (.inl ⟨rfl, ?_, ?_, ?_, ?_, ?_⟩)))
    · show 0 ≤ c; omega
    · show c ≤ 31; omega
    · show ¬ c = 24; exact fun e => by rw [e] at h; exact absurd h.1 (by decide)
    · show ¬ c = 26; exact fun e => by rw [e] at h; exact absurd h.1 (by decide)
    · show ¬ c = 27; exact fun e => by rw [e] at h; exact absurd h.1 (by decide)
  · refine one _ (.inr (.inl ⟨rfl, ?_⟩))
    show canPrint c
    unfold canPrint
    omega
  · exact none
  · show ∀ a ∈ (if p.inter.length < 3 then (⟨p.st, p.mark, p.inter ++ [sg c], p.args, p.text⟩ : Ps) else p, ([] : List Ac)).2, shape a
    exact none
  · exact none
  · exact none
  · exact none
  · exact none
  · exact none
  · exact none
  · exact none
  · show ∀ a ∈ (if p.text.length + (encodeRune c).length ≤ 256 then (⟨p.st, p.mark, p.inter, p.args, p.text ++ encodeRune c⟩ : Ps) else p, ([] : List Ac)).2, shape a
    exact none
  · show ∀ a ∈ [if 8 < p.st then gone else ⟨5, 0, 0, [], [], p.text⟩], shape a
    refine one _ ?_
    split
    · exact gone_shape
    · exact .inr (.inr (.inr (.inr (.inr ⟨rfl, hp.tlen⟩))))
  · exact one _ (final_shape hp h)
  · exact absurd rfl hw
theorem step_shape {p : Ps} (hp : right p) (c : Int) : ∀ a ∈ (step p c).2, shape a := by
  unfold step
  split
  · intro a ha; cases ha
  · split
    · intro a ha
      rcases List.mem_cons.1 ha with h | h
      · rw [h]; exact gone_shape
      · exact does_shape (p := at' 1) (right_at 1 (by decide) (by decide)) (what_one _ (cls_lt c)) a h
    · rename_i h
      exact does_shape hp h
theorem run_shape : ∀ (l : List Int) {p : Ps}, right p → ∀ a ∈ (run p l).2, shape a
  | [], _, _, a, ha => by cases ha
  | c :: r, _, h, a, ha => (List.mem_append.1 ha).elim (step_shape h c a) (run_shape r (step_right h c) a)

/-- how many controls -/
def ctrls (l : List Ac) : Nat := (l.filter fun a => decide (a.kind = 2)).length
def controls (l : List Int) : Nat := (l.filter fun c => decide (0 ≤ c ∧ c < 32)).length
theorem ctrls_app (a b : List Ac) : ctrls (a ++ b) = ctrls a + ctrls b := by unfold ctrls; rw [List.filter_append, List.length_append]
theorem does_ctrls {p : Ps} (hp : right p) {c : Int} : ctrls (does p c (what p.st (cls c))).2 ≤ controls [c] := by
  have hl := letters p.st (cls c) hp.st (cls_lt c)
  have hc := cls_cases c
  unfold spec at hl
  have none : ∀ n, ctrls [] ≤ n := fun n => Nat.zero_le n
  have one : ∀ (x : Ac) n, x.kind ≠ 2 → ctrls [x] ≤ n := fun x n h => by unfold ctrls; rw [List.filter_cons_of_neg (by simpa using h)]; exact Nat.zero_le _
  generalize what p.st (cls c) = w at *
  rcases hl with rfl | ⟨rfl | rfl, h⟩ | ⟨rfl, h⟩ | ⟨rfl, h⟩ | ⟨rfl, h⟩ | ⟨rfl, h⟩ | ⟨rfl, h⟩ | ⟨rfl, h⟩ | ⟨rfl, h⟩ | ⟨rfl, h⟩ | ⟨rfl, h⟩ | ⟨rfl, h⟩ | ⟨rfl, h⟩ | ⟨rfl, h⟩ | ⟨rfl, h⟩ | ⟨rfl, h⟩ | ⟨rfl, h⟩ | ⟨rfl, h⟩
  · exact none _
  · exact one _ _ (by decide)
  · exact one _ _ (by decide)
  · show ctrls (if p.st = 0 then [] else [gone]) ≤ _
    split
    · exact none _
    · exact one _ _ (by decide)
  · have e : controls [c] = 1 := by
      unfold controls
      rw [List.filter_cons_of_pos (by simp; omega)]; rfl
    rw [e]; exact Nat.le_refl _
  · exact one _ _ (by show ¬ (1 : Int) = 2; decide)
  · exact none _
  · exact none _
  · exact none _
  · exact none _
  · exact none _
  · exact none _
  · exact none _
  · exact none _
  · exact none _
  · exact none _
  · show ctrls [if 8 < p.st then gone else ⟨5, 0, 0, [], [], p.text⟩] ≤ _
    refine one _ _ ?_
    split
    · decide
    · show ¬ (5 : Int) = 2; decide
  · refine one _ _ ?_
    show (final p c).kind ≠ 2
    unfold final
    split
    · decide
    · split <;> simp
  · exact none _
theorem step_ctrls {p : Ps} (hp : right p) (c : Int) : ctrls (step p c).2 ≤ controls [c] := by
  unfold step
  split
  · exact Nat.zero_le _
  · split
    · have := does_ctrls (p := at' 1) (right_at 1 (by decide) (by decide)) (c := c)
      exact this
    · exact does_ctrls hp
theorem run_ctrls : ∀ (l : List Int) {p : Ps}, right p → ctrls (run p l).2 ≤ controls l
  | [], _, _ => Nat.le_refl _
  | c :: r, p, h => by
    have h1 := step_ctrls h c
    have h2 := run_ctrls r (step_right h c)
    have e : controls (c :: r) = controls [c] + controls r := by
      unfold controls
      rw [← List.length_append, ← List.filter_append]; rfl
    rw [run, ctrls_app, e]
    omega
/-- no more than two acts a rune -/
theorem step_few (p : Ps) (c : Int) : (step p c).2.length ≤ 2 := by
  have hd : ∀ (p : Ps) w, (does p c w).2.length ≤ 1 := fun p w => by
    unfold does
    by_cases h0 : w = 88 ∨ w = 68
    · rw [if_pos h0]; exact Nat.le_refl 1
    rw [if_neg h0]
    by_cases h1 : w = 69
    · rw [if_pos h1]; show (if p.st = 0 then [] else [gone] : List Ac).length ≤ 1; split <;> decide
    rw [if_neg h1]
    by_cases h2 : w = 67
    · rw [if_pos h2]; exact Nat.le_refl 1
    rw [if_neg h2]
    by_cases h3 : w = 80
    · rw [if_pos h3]; exact Nat.le_refl 1
    rw [if_neg h3]
    by_cases h4 : w = 73
    · rw [if_pos h4]; exact Nat.zero_le 1
    rw [if_neg h4]
    by_cases h5 : w = 74
    · rw [if_pos h5]; exact Nat.zero_le 1
    rw [if_neg h5]
    by_cases h6 : w = 65
    · rw [if_pos h6]; exact Nat.zero_le 1
    rw [if_neg h6]
    by_cases h7 : w = 77
    · rw [if_pos h7]; exact Nat.zero_le 1
    rw [if_neg h7]
    by_cases h8 : w = 71
    · rw [if_pos h8]; exact Nat.zero_le 1
    rw [if_neg h8]
    by_cases h9 : w = 83
    · rw [if_pos h9]; exact Nat.zero_le 1
    rw [if_neg h9]
    by_cases h10 : w = 79
    · rw [if_pos h10]; exact Nat.zero_le 1
    rw [if_neg h10]
    by_cases h11 : w = 84
    · rw [if_pos h11]; exact Nat.zero_le 1
    rw [if_neg h11]
    by_cases h12 : w = 90
    · rw [if_pos h12]; exact Nat.zero_le 1
    rw [if_neg h12]
    by_cases h13 : w = 87
    · rw [if_pos h13]; exact Nat.zero_le 1
    rw [if_neg h13]
    by_cases h14 : w = 89
    · rw [if_pos h14]; exact Nat.le_refl 1
    rw [if_neg h14]
    by_cases h15 : w = 70
    · rw [if_pos h15]; exact Nat.le_refl 1
    rw [if_neg h15]
    exact Nat.zero_le 1
  unfold step
  split
  · exact Nat.zero_le _
  · split
    · have := hd (at' 1) (what 1 (cls c)); simp only [List.length_cons]; omega
    · have := hd p (what p.st (cls c)); omega
theorem run_few : ∀ (l : List Int) (p : Ps), (run p l).2.length ≤ 2 * l.length
  | [], _ => Nat.le_refl _
  | c :: r, p => by
    have h1 := step_few p c
    have h2 := run_few r (step p c).1
    rw [run, List.length_append, List.length_cons]
    omega
/-- runes without controls -/
theorem step_plain {c : Int} (h : ¬ (0 ≤ c ∧ c < 32)) : step p0 c = (p0, if 32 ≤ c ∧ c ≤ 1114111 ∧ (c < 127 ∨ 160 ≤ c) then [⟨1, c, 0, [], [], []⟩] else []) := by
  have hc := cls_cases c
  unfold step
  by_cases h1 : c < 0 ∨ 1114111 < c
  · rw [if_pos h1, if_neg (by omega)]
  · rw [if_neg h1]
    have hw : what 0 (cls c) = 80 ∧ 4 ≤ cls c ∧ cls c ≠ 13 ∨ what 0 (cls c) = 46 ∧ cls c = 13 := by
      have all : ∀ k, k < 15 → k = 0 ∨ k = 1 ∨ k = 2 ∨ k = 3 ∨ (what 0 k = 80 ∧ 4 ≤ k ∧ k ≠ 13) ∨ (what 0 k = 46 ∧ k = 13) := by decide +kernel
      have := all (cls c) (cls_lt c)
      omega
    have e0 : p0.st = 0 := rfl
    rw [e0]
    rcases hw with ⟨e, h2, h3⟩ | ⟨e, h2⟩
    · rw [e, if_neg (by decide), if_pos (by omega)]
      rfl
    · rw [e, if_neg (by decide), if_neg (by omega)]
      rfl
end Go.Proofs.YtneiiinheimglaaDoor.B
