/-
  Acts that are written and read back, as plain functions: what is written makes just that act, and nothing else that is built so does; no program, no condition.
-/
import Derived.Test.YtneiiinheimglaaDoorBShape
namespace Go.Proofs.YtneiiinheimglaaDoor.B
open Go.Lib Go.Proofs.YtneiiinheimglaaDoor

def asInts (l : List UInt8) : List Int := l.map fun b => (b.toNat : Int)
/-- the runes of a text -/
def runesOf (s : List UInt8) : List Int := (U.rd s).2.map fun (r : Nat) => (r : Int)
/-- what is written of an act, if it may be -/
def wL (a : Ac) : List Int :=
  if a.kind = 1 ∨ a.kind = 2 then [a.code]
  else if a.kind = 3 then 27 :: (asInts a.inter ++ [a.code])
  else if a.kind = 4 then 27 :: 91 :: ((if a.mark = 0 then [] else [a.mark]) ++ (asInts (Z.text a.args) ++ (asInts a.inter ++ [a.code])))
  else 27 :: 93 :: (runesOf a.text ++ [7])
@[reducible] def isR (c : Int) : Prop := 0 ≤ c ∧ c < 55296 ∨ 57344 ≤ c ∧ c ≤ 1114111
/-- may it be written? -/
def wOk (a : Ac) : Prop :=
  (a = ⟨1, a.code, 0, [], [], []⟩ ∧ canPrint a.code ∧ isR a.code) ∨ (a = ⟨2, a.code, 0, [], [], []⟩ ∧ 0 ≤ a.code ∧ a.code ≤ 31 ∧ a.code ≠ 24 ∧ a.code ≠ 26 ∧ a.code ≠ 27) ∨
  (a = ⟨3, a.code, 0, a.inter, [], []⟩ ∧ 48 ≤ a.code ∧ a.code ≤ 126 ∧ plainInter a.inter ∧ (a.inter = [] → ¬ special a.code)) ∨
  (a = ⟨4, a.code, a.mark, a.inter, a.args, []⟩ ∧ 64 ≤ a.code ∧ a.code ≤ 126 ∧ (a.mark = 0 ∨ 60 ≤ a.mark ∧ a.mark ≤ 63) ∧ plainInter a.inter ∧ Z.okL a.args = true ∧ a.args.length ≤ 32 ∧ (Z.text a.args).length ≤ 100) ∨
  (a = ⟨5, 0, 0, [], [], a.text⟩ ∧ a.text.length ≤ 256 ∧ U.encAll (runesOf a.text) = a.text ∧ ∀ c ∈ runesOf a.text, canPrint c)

theorem cls_mid {c : Int} (h : 32 ≤ c ∧ c ≤ 47) : cls c = 4 := by
  rcases cls_cases c with h1 | h1 | h1 | h1 | h1 | h1 | h1 | h1 | h1 | h1 | h1 | h1 | h1 | h1 | h1 <;> omega
theorem cls_from {c : Int} (h : 48 ≤ c ∧ c ≤ 126) : 5 ≤ cls c ∧ cls c ≤ 12 := by
  rcases cls_cases c with h1 | h1 | h1 | h1 | h1 | h1 | h1 | h1 | h1 | h1 | h1 | h1 | h1 | h1 | h1 <;> omega
theorem cls_up {c : Int} (h : 64 ≤ c ∧ c ≤ 126) : 8 ≤ cls c ∧ cls c ≤ 12 := by
  rcases cls_cases c with h1 | h1 | h1 | h1 | h1 | h1 | h1 | h1 | h1 | h1 | h1 | h1 | h1 | h1 | h1 <;> omega
theorem cls_mark {c : Int} (h : 60 ≤ c ∧ c ≤ 63) : cls c = 7 := by
  rcases cls_cases c with h1 | h1 | h1 | h1 | h1 | h1 | h1 | h1 | h1 | h1 | h1 | h1 | h1 | h1 | h1 <;> omega
theorem cls_sign {c : Int} (h : 48 ≤ c ∧ c ≤ 57 ∨ c = 59) : cls c = 6 := by
  rcases cls_cases c with h1 | h1 | h1 | h1 | h1 | h1 | h1 | h1 | h1 | h1 | h1 | h1 | h1 | h1 | h1 <;> omega
theorem cls_print {c : Int} (h : canPrint c) : 4 ≤ cls c ∧ cls c ≠ 13 := by
  unfold canPrint at h
  rcases cls_cases c with h1 | h1 | h1 | h1 | h1 | h1 | h1 | h1 | h1 | h1 | h1 | h1 | h1 | h1 | h1 <;> omega
theorem print_cls {c : Int} (h : 4 ≤ cls c ∧ cls c ≠ 13) : canPrint c := by
  unfold canPrint
  rcases cls_cases c with h1 | h1 | h1 | h1 | h1 | h1 | h1 | h1 | h1 | h1 | h1 | h1 | h1 | h1 | h1 <;> omega
theorem plain_letter {c : Int} (h : ¬ special c) : cls c ≠ 8 ∧ cls c ≠ 9 ∧ cls c ≠ 11 := by
  unfold special at h
  rcases cls_cases c with h1 | h1 | h1 | h1 | h1 | h1 | h1 | h1 | h1 | h1 | h1 | h1 | h1 | h1 | h1 <;> omega

theorem step_of {p : Ps} {c : Int} {w : Nat} (h0 : 0 ≤ c) (h1 : c ≤ 1114111) (hw : what p.st (cls c) = w) (h82 : w ≠ 82) : step p c = does p c w := by
  unfold step
  rw [if_neg (by omega), hw, if_neg h82]
theorem run_step {p q : Ps} {c : Int} {r : List Int} (h : step p c = (q, [])) : run p (c :: r) = run q r := by
  rw [run, h]
  simp
theorem sg_byte (b : UInt8) : sg (b.toNat : Int) = b := by
  unfold sg
  simp
theorem t_mid : what 1 4 = 73 ∧ what 2 4 = 74 ∧ what 3 4 = 73 ∧ what 4 4 = 73 ∧ what 5 4 = 74 := by decide
theorem t_f1 : ∀ k, k < 13 → 5 ≤ k ∧ k ≠ 8 ∧ k ≠ 9 ∧ k ≠ 11 → what 1 k = 70 := by decide +kernel
theorem t_f2 : ∀ k, k < 13 → 5 ≤ k → what 2 k = 70 := by decide +kernel
theorem t_f3 : ∀ k, k < 13 → 8 ≤ k → what 3 k = 70 ∧ what 4 k = 70 ∧ what 5 k = 70 := by decide +kernel
theorem byte_mid {b : UInt8} (h : mid b) : 32 ≤ (b.toNat : Int) ∧ (b.toNat : Int) ≤ 47 := by unfold mid at h; omega
theorem put_first {st : Nat} {m : Int} {args text : List UInt8} {b : UInt8} (hb : mid b) (h : st = 1 ∨ st = 3 ∨ st = 4) : step ⟨st, m, [], args, text⟩ (b.toNat : Int) = (⟨if st = 1 then 2 else 5, m, [b], args, text⟩, []) := by
  have h1 := byte_mid hb
  have hw : what st (cls (b.toNat : Int)) = 73 := by
    rw [cls_mid h1]
    rcases h with rfl | rfl | rfl
    · exact t_mid.1
    · exact t_mid.2.2.1
    · exact t_mid.2.2.2.1
  rw [step_of (w := 73) (by omega) (by omega) hw (by decide)]
  show ((⟨if st = 1 then 2 else 5, m, [sg (b.toNat : Int)], args, text⟩ : Ps), ([] : List Ac)) = _
  rw [sg_byte]
theorem put_more {st : Nat} {m : Int} {inter args text : List UInt8} {b : UInt8} (hb : mid b) (hi : inter.length < 3) (h : st = 2 ∨ st = 5) : step ⟨st, m, inter, args, text⟩ (b.toNat : Int) = (⟨st, m, inter ++ [b], args, text⟩, []) := by
  have h1 := byte_mid hb
  have hw : what st (cls (b.toNat : Int)) = 74 := by
    rw [cls_mid h1]
    rcases h with rfl | rfl
    · exact t_mid.2.1
    · exact t_mid.2.2.2.2
  rw [step_of (w := 74) (by omega) (by omega) hw (by decide)]
  show ((if inter.length < 3 then (⟨st, m, inter ++ [sg (b.toNat : Int)], args, text⟩ : Ps) else ⟨st, m, inter, args, text⟩), ([] : List Ac)) = _
  rw [if_pos hi, sg_byte]
/-- all that may stand between, and where one is then -/
theorem run_inter {st : Nat} {m : Int} {args text : List UInt8} {l : List UInt8} (h : plainInter l) (hs : st = 1 ∨ st = 3 ∨ st = 4) (r : List Int) :
    run ⟨st, m, [], args, text⟩ (asInts l ++ r) = run ⟨if l = [] then st else if st = 1 then 2 else 5, m, l, args, text⟩ r := by
  obtain ⟨h2, hm⟩ := h
  have h25 : (if st = 1 then 2 else 5) = 2 ∨ (if st = 1 then 2 else 5) = 5 := by split; exact .inl rfl; exact .inr rfl
  match l, h2, hm with
  | [], _, _ => rfl
  | [a], _, hm =>
    rw [if_neg (by simp)]
    exact run_step (put_first (hm a (by simp)) hs)
  | [a, b], _, hm =>
    rw [if_neg (by simp)]
    refine (run_step (put_first (hm a (by simp)) hs)).trans ?_
    exact run_step (put_more (hm b (by simp)) (by show 1 < 3; decide) h25)
  | a :: b :: c :: r, h2, _ => simp at h2
theorem final_step {p : Ps} {c : Int} (h0 : 48 ≤ c) (h1 : c ≤ 126) (hw : what p.st (cls c) = 70) : run p [c] = (p0, [final p c]) := by
  rw [run, step_of (w := 70) (by omega) (by omega) hw (by decide)]
  rfl
theorem run_sign {m : Int} {text : List UInt8} : ∀ (s acc : List UInt8) (st : Nat), (st = 3 ∨ st = 4) → Z.okS s = true → acc.length + s.length ≤ 100 → ∀ r : List Int,
    run ⟨st, m, [], acc, text⟩ (asInts s ++ r) = run ⟨if s = [] then st else 4, m, [], acc ++ s, text⟩ r
  | [], acc, st, _, _, _, r => by rw [if_pos rfl, List.append_nil]; rfl
  | b :: s, acc, st, hst, hs, hl, r => by
    unfold Z.okS at hs
    rw [List.all_cons, Bool.and_eq_true] at hs
    have hb : 48 ≤ (b.toNat : Int) ∧ (b.toNat : Int) ≤ 57 ∨ (b.toNat : Int) = 59 := by
      rcases Z.okB_cases hs.1 with h | h
      · rw [h]; exact .inr rfl
      · have := Z.dig_iff.1 h; omega
    simp only [List.length_cons] at hl
    have hw : what st (cls (b.toNat : Int)) = 65 := by
      rw [cls_sign hb]
      rcases hst with rfl | rfl <;> decide
    have hstep : step ⟨st, m, [], acc, text⟩ (b.toNat : Int) = (⟨4, m, [], acc ++ [b], text⟩, []) := by
      rw [step_of (w := 65) (by omega) (by omega) hw (by decide)]
      show ((⟨4, m, [], if acc.length < 100 then acc ++ [sg (b.toNat : Int)] else acc, text⟩ : Ps), ([] : List Ac)) = _
      rw [if_pos (by omega), sg_byte]
    refine (run_step hstep).trans ?_
    show run _ (asInts s ++ r) = _
    have ih := run_sign (m := m) (text := text) s (acc ++ [b]) 4 (.inr rfl) hs.2 (by rw [List.length_append, List.length_singleton]; omega) r
    rw [ite_self] at ih
    have e1 : (if b :: s = [] then st else 4) = 4 := if_neg (List.cons_ne_nil _ _)
    rw [ih, e1, List.append_assoc]
    rfl
theorem encAll_cons (c : Int) (l : List Int) : U.encAll (c :: l) = encodeRune c ++ U.encAll l := rfl
theorem run_text : ∀ (t : List Int) (acc : List UInt8), (∀ c ∈ t, canPrint c) → acc.length + (U.encAll t).length ≤ 256 → ∀ r : List Int, run ⟨7, 0, [], [], acc⟩ (t ++ r) = run ⟨7, 0, [], [], acc ++ U.encAll t⟩ r
  | [], acc, _, _, r => by rw [show U.encAll [] = [] from rfl, List.append_nil]; rfl
  | c :: t, acc, h, hl, r => by
    have hc := h c (by simp)
    have hk := cls_print hc
    have hk2 := cls_lt c
    rw [encAll_cons, List.length_append] at hl
    have hw : what 7 (cls c) = 87 := by
      have all : ∀ k, k < 15 → 4 ≤ k → k ≠ 13 → what 7 k = 87 := by decide +kernel
      exact all _ hk2 hk.1 hk.2
    unfold canPrint at hc
    have hstep : step ⟨7, 0, [], [], acc⟩ c = (⟨7, 0, [], [], acc ++ encodeRune c⟩, []) := by
      rw [step_of (w := 87) (by omega) (by omega) hw (by decide)]
      show ((if acc.length + (encodeRune c).length ≤ 256 then (⟨7, 0, [], [], acc ++ encodeRune c⟩ : Ps) else ⟨7, 0, [], [], acc⟩), ([] : List Ac)) = _
      rw [if_pos (by omega)]
    refine (run_step hstep).trans ?_
    show run _ (t ++ r) = _
    rw [run_text t (acc ++ encodeRune c) (fun x hx => h x (by simp [hx])) (by rw [List.length_append]; omega) r, encAll_cons, List.append_assoc]

/-- what is written is read as it was -/
theorem back {a : Ac} (h : wOk a) : run p0 (wL a) = (p0, [a]) := by
  rcases h with ⟨e, hc, _⟩ | ⟨e, h0, h1, h2, h3, h4⟩ | ⟨e, h0, h1, hi, hs⟩ | ⟨e, h0, h1, hm, hi, hk, h32, h100⟩ | ⟨e, hl, he, hc⟩
  · have hw : wL a = [a.code] := by rw [e]; rfl
    rw [hw]
    have hs := step_plain (c := a.code) (by unfold canPrint at hc; omega)
    rw [if_pos (by unfold canPrint at hc; omega)] at hs
    rw [run, hs]
    conv => rhs; rw [e]
    rfl
  · have hw : wL a = [a.code] := by rw [e]; rfl
    rw [hw]
    have hk : cls a.code = 2 ∨ cls a.code = 3 := by
      rcases cls_cases a.code with h5 | h5 | h5 | h5 | h5 | h5 | h5 | h5 | h5 | h5 | h5 | h5 | h5 | h5 | h5 <;> omega
    have h67 : what 0 (cls a.code) = 67 := by rcases hk with h5 | h5 <;> rw [h5] <;> decide
    have hst : step p0 a.code = (p0, [⟨2, a.code, 0, [], [], []⟩]) := step_of (w := 67) (by omega) (by omega) h67 (by decide)
    rw [run, hst]
    conv => rhs; rw [e]
    rfl
  · have hw : wL a = 27 :: (asInts a.inter ++ [a.code]) := by rw [e]; rfl
    have hf := cls_from ⟨h0, h1⟩
    rw [hw, run_step (q := at' 1) rfl]
    refine (run_inter (st := 1) (m := 0) (args := []) (text := []) hi (.inl rfl) [a.code]).trans ?_
    rw [if_pos rfl]
    by_cases hn : a.inter = []
    · rw [if_pos hn]
      have hp := plain_letter (hs hn)
      rw [final_step h0 h1 (t_f1 _ (by omega) ⟨hf.1, hp.1, hp.2.1, hp.2.2⟩)]
      have e2 : final ⟨1, 0, a.inter, [], []⟩ a.code = a := by
        unfold final
        rw [if_neg (by rw [hn]; decide), if_pos (by show 1 < 3; decide)]
        exact e.symm
      rw [e2]
    · rw [if_neg hn, final_step h0 h1 (t_f2 _ (by omega) hf.1)]
      have e2 : final ⟨2, 0, a.inter, [], []⟩ a.code = a := by
        unfold final
        rw [if_neg (by show ¬ a.inter.length = 3; have := hi.1; omega), if_pos (by show 2 < 3; decide)]
        exact e.symm
      rw [e2]
  · have hw : wL a = 27 :: 91 :: ((if a.mark = 0 then [] else [a.mark]) ++ (asInts (Z.text a.args) ++ (asInts a.inter ++ [a.code]))) := by rw [e]; rfl
    have hr := Z.read_text a.args hk h32
    have hok : Z.okS (Z.text a.args) = true := by
      cases hx : Z.okS (Z.text a.args) with
      | true => rfl
      | false =>
        unfold Z.readT at hr
        rw [hx, if_neg (by decide)] at hr
        have := congrArg Prod.snd hr
        exact absurd this (by show ¬ (4 : Int) = 0; decide)
    have hu := cls_up ⟨h0, h1⟩
    rw [hw, run_step (q := at' 1) rfl, run_step (q := at' 3) rfl]
    have rest : ∀ st, (st = 3 ∨ st = 4) → run ⟨st, a.mark, [], [], []⟩ (asInts (Z.text a.args) ++ (asInts a.inter ++ [a.code])) = (p0, [a]) := fun st hst => by
      rw [run_sign (Z.text a.args) [] st hst hok (by simpa using h100), List.nil_append]
      have hst2 : (if Z.text a.args = [] then st else 4) = 3 ∨ (if Z.text a.args = [] then st else 4) = 4 := by split; exact hst; exact .inr rfl
      generalize (if Z.text a.args = [] then st else 4) = q at *
      rw [run_inter (st := q) hi (.inr hst2), if_neg (show ¬ q = 1 by omega)]
      have hq : (if a.inter = [] then q else 5) = 3 ∨ (if a.inter = [] then q else 5) = 4 ∨ (if a.inter = [] then q else 5) = 5 := by
        split
        · rcases hst2 with h | h
          · exact .inl h
          · exact .inr (.inl h)
        · exact .inr (.inr rfl)
      generalize (if a.inter = [] then q else 5) = q2 at *
      have ht := t_f3 (cls a.code) (by omega) hu.1
      rw [final_step (by omega) h1 (by
        show what q2 (cls a.code) = 70
        rcases hq with rfl | rfl | rfl
        · exact ht.1
        · exact ht.2.1
        · exact ht.2.2)]
      have e2 : final ⟨q2, a.mark, a.inter, Z.text a.args, []⟩ a.code = a := by
        unfold final
        rw [if_neg (by show ¬ a.inter.length = 3; have := hi.1; omega), if_neg (by show ¬ q2 < 3; omega)]
        show (⟨4, a.code, a.mark, a.inter, (Z.readT (Z.text a.args)).1, []⟩ : Ac) = a
        rw [hr]
        exact e.symm
      rw [e2]
    by_cases h60 : a.mark = 0
    · rw [if_pos h60]
      have := rest 3 (.inl rfl)
      rw [h60] at this
      exact this
    · rw [if_neg h60]
      have hm2 : 60 ≤ a.mark ∧ a.mark ≤ 63 := hm.elim (fun h => absurd h h60) id
      have hst : step (at' 3) a.mark = (⟨4, a.mark, [], [], []⟩, []) := by
        have hw : what 3 (cls a.mark) = 77 := by rw [cls_mark hm2]; decide
        exact step_of (p := at' 3) (w := 77) (by omega) (by omega) hw (by decide)
      exact (run_step hst).trans (rest 4 (.inr rfl))
  · have hw : wL a = 27 :: 93 :: (runesOf a.text ++ [7]) := by rw [e]; rfl
    rw [hw, run_step (q := at' 1) rfl, run_step (q := at' 7) rfl]
    refine (run_text (runesOf a.text) [] hc (by rw [he]; simpa using hl) [7]).trans ?_
    rw [List.nil_append, he]
    have hst : step ⟨7, 0, [], [], a.text⟩ 7 = (p0, [⟨5, 0, 0, [], [], a.text⟩]) := rfl
    rw [run, hst]
    conv => rhs; rw [e]
    rfl
end Go.Proofs.YtneiiinheimglaaDoor.B
