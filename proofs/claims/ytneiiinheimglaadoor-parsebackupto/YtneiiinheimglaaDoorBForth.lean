/-
  What is built of an act's fields and makes just that act is what may be written; acts that are written, one behind the other, are read as they were; no program, no condition.
-/
import Derived.Test.YtneiiinheimglaaDoorBBack
namespace Go.Proofs.YtneiiinheimglaaDoor.B
open Go.Lib Go.Proofs.YtneiiinheimglaaDoor

theorem head_of {x : Ac} {l : List Ac} {a : Ac} (h : x :: l = [a]) : x = a := by injection h
theorem t_osc : what 7 0 = 68 ∧ what 7 1 = 90 ∧ what 7 2 = 89 ∧ what 7 3 = 46 ∧ what 7 13 = 46 := by decide
theorem t_osc2 : ∀ k, k < 15 → 4 ≤ k ∧ k ≠ 13 → what 7 k = 87 := by decide +kernel
theorem t_end : what 8 10 = 89 ∧ ∀ k, k < 15 → k ≠ 10 → what 8 k = 82 := by decide +kernel
theorem osc8 {a : Ac} (ha : a.kind = 5) : ∀ (r : List Int) (acc : List UInt8), (run ⟨8, 0, [], [], acc⟩ r).2 = [a] → a.text = acc
  | [], _, h => by cases h
  | d :: r, acc, h => by
    by_cases h1 : d < 0 ∨ 1114111 < d
    · have hs : step ⟨8, 0, [], [], acc⟩ d = (⟨8, 0, [], [], acc⟩, []) := by unfold step; rw [if_pos h1]
      rw [run_step hs] at h
      exact osc8 ha r acc h
    · by_cases hk : cls d = 10
      · have hs : step ⟨8, 0, [], [], acc⟩ d = (p0, [⟨5, 0, 0, [], [], acc⟩]) := by
          rw [step_of (w := 89) (by omega) (by omega) (by show what 8 (cls d) = 89; rw [hk]; exact t_end.1) (by decide)]
          rfl
        rw [run, hs] at h
        rw [← head_of h]
      · have hs : (step ⟨8, 0, [], [], acc⟩ d).2 = gone :: (does (at' 1) d (what 1 (cls d))).2 := by
          unfold step
          rw [if_neg h1, if_pos (t_end.2 _ (cls_lt d) hk)]
        rw [run, hs] at h
        have e := head_of h
        rw [← e] at ha
        exact absurd ha (by decide)
/-- of a text that ends with 7 just one act comes only if that act's text is those runes' that may be put -/
theorem osc {a : Ac} (ha : a.kind = 5) : ∀ (t : List Int) (acc : List UInt8), (run ⟨7, 0, [], [], acc⟩ (t ++ [7])).2 = [a] →
    ∃ t', a.text = acc ++ U.encAll t' ∧ t'.length ≤ t.length ∧ (t'.length = t.length → t' = t ∧ ∀ c ∈ t, canPrint c)
  | [], acc, h => by
    have hs : step ⟨7, 0, [], [], acc⟩ 7 = (p0, [⟨5, 0, 0, [], [], acc⟩]) := rfl
    rw [List.nil_append, run, hs] at h
    refine ⟨[], ?_, Nat.le_refl _, fun _ => ⟨rfl, fun c hc => by cases hc⟩⟩
    rw [← head_of h]
    exact (List.append_nil _).symm
  | c :: t, acc, h => by
    have pass : step ⟨7, 0, [], [], acc⟩ c = (⟨7, 0, [], [], acc⟩, []) → ∃ t', a.text = acc ++ U.encAll t' ∧ t'.length ≤ (c :: t).length ∧ (t'.length = (c :: t).length → t' = c :: t ∧ ∀ x ∈ c :: t, canPrint x) := fun hs => by
      rw [List.cons_append, run_step hs] at h
      obtain ⟨t', h1, h2, _⟩ := osc ha t acc h
      exact ⟨t', h1, by rw [List.length_cons]; omega, fun e => by rw [List.length_cons] at e; omega⟩
    have stop : a.text = acc → ∃ t', a.text = acc ++ U.encAll t' ∧ t'.length ≤ (c :: t).length ∧ (t'.length = (c :: t).length → t' = c :: t ∧ ∀ x ∈ c :: t, canPrint x) := fun e =>
      ⟨[], by rw [e]; exact (List.append_nil _).symm, Nat.zero_le _, fun e => by cases e⟩
    by_cases h1 : c < 0 ∨ 1114111 < c
    · exact pass (by unfold step; rw [if_pos h1])
    have hk := cls_lt c
    have hw : ∀ w, what 7 (cls c) = w → w ≠ 82 → step ⟨7, 0, [], [], acc⟩ c = does ⟨7, 0, [], [], acc⟩ c w := fun w h2 h3 => step_of (by omega) (by omega) h2 h3
    by_cases h4 : 4 ≤ cls c ∧ cls c ≠ 13
    · have hs := hw 87 (t_osc2 _ hk h4) (by decide)
      by_cases h5 : acc.length + (encodeRune c).length ≤ 256
      · have hs2 : step ⟨7, 0, [], [], acc⟩ c = (⟨7, 0, [], [], acc ++ encodeRune c⟩, []) := by
          rw [hs]
          show ((if acc.length + (encodeRune c).length ≤ 256 then (⟨7, 0, [], [], acc ++ encodeRune c⟩ : Ps) else ⟨7, 0, [], [], acc⟩), ([] : List Ac)) = _
          rw [if_pos h5]
        rw [List.cons_append, run_step hs2] at h
        obtain ⟨t', h6, h7, h8⟩ := osc ha t _ h
        refine ⟨c :: t', by rw [h6, encAll_cons, List.append_assoc], by rw [List.length_cons, List.length_cons]; omega, fun e => ?_⟩
        rw [List.length_cons, List.length_cons] at e
        obtain ⟨h9, h10⟩ := h8 (by omega)
        refine ⟨by rw [h9], fun x hx => ?_⟩
        rcases List.mem_cons.1 hx with h11 | h11
        · rw [h11]; exact print_cls h4
        · exact h10 x h11
      · refine pass ?_
        rw [hs]
        show ((if acc.length + (encodeRune c).length ≤ 256 then (⟨7, 0, [], [], acc ++ encodeRune c⟩ : Ps) else ⟨7, 0, [], [], acc⟩), ([] : List Ac)) = _
        rw [if_neg h5]
    · rcases (by omega : cls c = 0 ∨ cls c = 1 ∨ cls c = 2 ∨ cls c = 3 ∨ cls c = 13) with h5 | h5 | h5 | h5 | h5
      · have hs := hw 68 (by rw [h5]; exact t_osc.1) (by decide)
        rw [List.cons_append, run, hs] at h
        have e := head_of h
        rw [← e] at ha
        exact absurd ha (by decide)
      · have hs : step ⟨7, 0, [], [], acc⟩ c = (⟨8, 0, [], [], acc⟩, []) := hw 90 (by rw [h5]; exact t_osc.2.1) (by decide)
        rw [List.cons_append, run_step hs] at h
        exact stop (osc8 ha _ _ h)
      · have hs := hw 89 (by rw [h5]; exact t_osc.2.2.1) (by decide)
        rw [List.cons_append, run, hs] at h
        have e := head_of h
        exact stop (by rw [← e]; rfl)
      · exact pass (hw 46 (by rw [h5]; exact t_osc.2.2.2.1) (by decide))
      · exact pass (hw 46 (by rw [h5]; exact t_osc.2.2.2.2) (by decide))

/-- what makes just that act may be written -/
theorem forth {a : Ac} (hk : 1 ≤ a.kind ∧ a.kind ≤ 5) (h4 : a.kind = 4 → Z.okL a.args = true ∧ a.args.length ≤ 32 ∧ (Z.text a.args).length ≤ 100) (h : run p0 (wL a) = (p0, [a])) (hr : ∀ c ∈ wL a, isR c) : wOk a := by
  have hs : shape a := run_shape (wL a) right_p0 a (by rw [h]; simp)
  rcases hs with e | ⟨e, h1⟩ | ⟨e, h1⟩ | ⟨e, h1⟩ | ⟨e, h0, h1, h2, h3, _⟩ | ⟨e, h1⟩
  · rw [e] at hk; exact absurd hk (by decide)
  · refine .inl ⟨e, h1, hr _ ?_⟩
    have hw : wL a = [a.code] := by rw [e]; rfl
    rw [hw]; simp
  · exact .inr (.inl ⟨e, h1⟩)
  · exact .inr (.inr (.inl ⟨e, h1⟩))
  · have hk4 : a.kind = 4 := by rw [e]
    obtain ⟨h5, h6, h7⟩ := h4 hk4
    exact .inr (.inr (.inr (.inl ⟨e, h0, h1, h2, h3, h5, h6, h7⟩)))
  · have hk5 : a.kind = 5 := by rw [e]
    have hw : wL a = 27 :: 93 :: (runesOf a.text ++ [7]) := by rw [e]; rfl
    rw [hw, run_step (q := at' 1) rfl, run_step (q := at' 7) rfl] at h
    obtain ⟨t', h2, h3, h5⟩ := osc hk5 (runesOf a.text) [] (congrArg Prod.snd h)
    rw [List.nil_append] at h2
    have hl : t'.length = (runesOf a.text).length := by
      unfold runesOf
      rw [h2, U.rd_encAll, List.length_map, List.length_map]
    obtain ⟨h6, h7⟩ := h5 hl
    exact .inr (.inr (.inr (.inr ⟨e, h1, by rw [← h6]; exact h2.symm, h7⟩)))

/-- acts, one behind the other -/
theorem back_all : ∀ l : List Ac, (∀ a ∈ l, wOk a) → run p0 (l.map wL).flatten = (p0, l)
  | [], _ => rfl
  | a :: l, h => by
    rw [List.map_cons, List.flatten_cons, run_app, back (h a (by simp)), back_all l (fun x hx => h x (by simp [hx]))]
    rfl
end Go.Proofs.YtneiiinheimglaaDoor.B
