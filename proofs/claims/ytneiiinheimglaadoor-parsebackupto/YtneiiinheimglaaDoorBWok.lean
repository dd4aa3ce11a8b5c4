/-
  What may be written, and what is then written, as the plain functions have it: equations of lists and Bools; no run in this text, no condition.
-/
import Derived.Test.YtneiiinheimglaaDoorBWrt
import Derived.Test.YtneiiinheimglaaDoorUFeed
namespace Go.Proofs.YtneiiinheimglaaDoor.B
open Go.Lib Go.Proofs.YtneiiinheimglaaDoor Go.Proofs.YtneiiinheimglaaDoor.Z

theorem areMid_iff (l : List UInt8) : areMid l 2 = true ↔ plainInter l := by
  unfold areMid plainInter
  rw [Bool.and_eq_true, decide_eq_true_eq, List.all_eq_true]
  constructor
  · rintro ⟨h1, h2⟩
    refine ⟨by omega, fun b hb => ?_⟩
    have := of_decide_eq_true (h2 b hb)
    unfold mid
    omega
  · rintro ⟨h1, h2⟩
    refine ⟨by omega, fun b hb => decide_eq_true ?_⟩
    have := h2 b hb
    unfold mid at this
    omega
theorem plB_iff (mk : Int) (ar : List Int) : plB mk ar = true ↔ mk = 0 ∧ ar = [] := by
  unfold plB
  rw [Bool.and_eq_true, beq_iff_eq, beq_iff_eq]
  constructor
  · rintro ⟨h1, h2⟩
    exact ⟨h1, List.length_eq_zero_iff.1 (by omega)⟩
  · rintro ⟨rfl, rfl⟩
    exact ⟨rfl, rfl⟩
theorem csiB_iff (cd mk : Int) (im : List UInt8) (ar : List Int) : csiB cd mk im ar = true ↔ (64 ≤ cd ∧ cd ≤ 126 ∧ (mk = 0 ∨ 60 ≤ mk ∧ mk ≤ 63) ∧ plainInter im ∧ Z.okL ar = true ∧ ar.length ≤ 32 ∧ (Z.text ar).length ≤ 100) := by
  unfold csiB writeT
  rw [Bool.and_eq_true, Bool.and_eq_true, Bool.and_eq_true, Bool.and_eq_true, Bool.or_eq_true, decide_eq_true_eq, decide_eq_true_eq, decide_eq_true_eq, decide_eq_true_eq, areMid_iff, beq_iff_eq]
  by_cases hk : okL ar = true
  · rw [if_pos hk]
    by_cases h32 : 32 < ar.length
    · rw [if_pos h32]
      constructor
      · rintro ⟨_, _, h, _⟩; exact absurd h (by decide)
      · rintro ⟨_, _, _, _, _, h, _⟩; omega
    · rw [if_neg h32]
      constructor
      · rintro ⟨h1, h2, _, h3, h4⟩; exact ⟨h2.1, h2.2, h1, h4, hk, by omega, h3⟩
      · rintro ⟨h1, h2, h3, h4, _, _, h5⟩; exact ⟨h3, ⟨h1, h2⟩, rfl, h5, h4⟩
  · rw [if_neg hk]
    constructor
    · rintro ⟨_, _, h, _⟩; exact absurd h (by decide)
    · rintro ⟨_, _, _, _, h, _⟩; exact absurd h hk
theorem txtB_iff (s : List UInt8) : txtB s = true ↔ (s.length ≤ 256 ∧ U.encAll (runesOf s) = s ∧ ∀ c ∈ runesOf s, canPrint c) := by
  unfold txtB
  rw [Bool.and_eq_true, Bool.and_eq_true, decide_eq_true_eq, valid_iff, List.all_eq_true, and_assoc]
  exact ⟨fun ⟨a, b, c⟩ => ⟨a, b, fun x hx => of_decide_eq_true (c x hx)⟩, fun ⟨a, b, c⟩ => ⟨a, b, fun x hx => decide_eq_true (c x hx)⟩⟩
theorem escB_iff (i : List UInt8) (c : Int) : escB i c = true ↔ (48 ≤ c ∧ c ≤ 126 ∧ plainInter i ∧ (i = [] → ¬ special c)) := by
  unfold escB
  rw [Bool.and_eq_true, Bool.and_eq_true, areMid_iff, decide_eq_true_eq, Bool.or_eq_true, Bool.not_eq_true', Bool.not_eq_true', decide_eq_false_iff_not]
  constructor
  · rintro ⟨⟨h1, h2, h3⟩, h4⟩
    refine ⟨h2, h3, h1, fun h => ?_⟩
    subst h
    rcases h4 with h4 | h4
    · cases h4
    · exact h4
  · rintro ⟨h1, h2, h3, h4⟩
    refine ⟨⟨h3, h1, h2⟩, ?_⟩
    cases i with
    | nil => exact .inr (h4 rfl)
    | cons b i => exact .inl rfl
theorem wB_iff (kd cd mk : Int) (im : List UInt8) (ar : List Int) (tx : List UInt8) : wB kd cd mk im ar tx = true ↔ wOk ⟨kd, cd, mk, im, ar, tx⟩ := by
  unfold wB wOk
  simp only [Ac.mk.injEq]
  by_cases k1 : kd = 1
  · subst k1
    rw [if_pos rfl, Bool.and_eq_true, Bool.and_eq_true, Bool.and_eq_true, plB_iff, List.isEmpty_iff, List.isEmpty_iff]
    unfold prB
    rw [decide_eq_true_eq]
    constructor
    · rintro ⟨⟨h1, h2⟩, ⟨h3, h4⟩, h5, h6⟩
      exact .inl ⟨⟨(by trivial), (by trivial), h3, h5, h4, h6⟩, h1, h2⟩
    · rintro (⟨⟨_, _, h3, h5, h4, h6⟩, h1, h2⟩ | ⟨⟨h, _⟩, _⟩ | ⟨⟨h, _⟩, _⟩ | ⟨⟨h, _⟩, _⟩ | ⟨⟨h, _⟩, _⟩)
      · exact ⟨⟨h1, h2⟩, ⟨h3, h4⟩, h5, h6⟩
      all_goals exact absurd h (by decide)
  rw [if_neg k1]
  by_cases k2 : kd = 2
  · subst k2
    rw [if_pos rfl, Bool.and_eq_true, Bool.and_eq_true, Bool.and_eq_true, plB_iff, List.isEmpty_iff, List.isEmpty_iff]
    unfold acB
    rw [decide_eq_true_eq]
    constructor
    · rintro ⟨h1, ⟨h3, h4⟩, h5, h6⟩
      exact .inr (.inl ⟨⟨(by trivial), (by trivial), h3, h5, h4, h6⟩, h1⟩)
    · rintro (⟨⟨h, _⟩, _⟩ | ⟨⟨_, _, h3, h5, h4, h6⟩, h1⟩ | ⟨⟨h, _⟩, _⟩ | ⟨⟨h, _⟩, _⟩ | ⟨⟨h, _⟩, _⟩)
      · exact absurd h (by decide)
      · exact ⟨h1, ⟨h3, h4⟩, h5, h6⟩
      all_goals exact absurd h (by decide)
  rw [if_neg k2]
  by_cases k3 : kd = 3
  · subst k3
    rw [if_pos rfl, Bool.and_eq_true, Bool.and_eq_true, escB_iff, plB_iff, List.isEmpty_iff]
    constructor
    · rintro ⟨h1, ⟨h3, h4⟩, h6⟩
      exact .inr (.inr (.inl ⟨⟨(by trivial), (by trivial), h3, (by trivial), h4, h6⟩, h1⟩))
    · rintro (⟨⟨h, _⟩, _⟩ | ⟨⟨h, _⟩, _⟩ | ⟨⟨_, _, h3, _, h4, h6⟩, h1⟩ | ⟨⟨h, _⟩, _⟩ | ⟨⟨h, _⟩, _⟩)
      · exact absurd h (by decide)
      · exact absurd h (by decide)
      · exact ⟨h1, ⟨h3, h4⟩, h6⟩
      all_goals exact absurd h (by decide)
  rw [if_neg k3]
  by_cases k4 : kd = 4
  · subst k4
    rw [if_pos rfl, Bool.and_eq_true, csiB_iff, List.isEmpty_iff]
    constructor
    · rintro ⟨h1, h6⟩
      exact .inr (.inr (.inr (.inl ⟨⟨(by trivial), (by trivial), (by trivial), (by trivial), (by trivial), h6⟩, h1⟩)))
    · rintro (⟨⟨h, _⟩, _⟩ | ⟨⟨h, _⟩, _⟩ | ⟨⟨h, _⟩, _⟩ | ⟨⟨_, _, _, _, _, h6⟩, h1⟩ | ⟨⟨h, _⟩, _⟩)
      · exact absurd h (by decide)
      · exact absurd h (by decide)
      · exact absurd h (by decide)
      · exact ⟨h1, h6⟩
      all_goals exact absurd h (by decide)
  rw [if_neg k4]
  by_cases k5 : kd = 5
  · subst k5
    rw [if_pos rfl, Bool.and_eq_true, Bool.and_eq_true, Bool.and_eq_true, txtB_iff, plB_iff, List.isEmpty_iff, beq_iff_eq]
    constructor
    · rintro ⟨h1, ⟨h3, h4⟩, h5, h6⟩
      exact .inr (.inr (.inr (.inr ⟨⟨(by trivial), h6, h3, h5, h4, (by trivial)⟩, h1⟩)))
    · rintro (⟨⟨h, _⟩, _⟩ | ⟨⟨h, _⟩, _⟩ | ⟨⟨h, _⟩, _⟩ | ⟨⟨h, _⟩, _⟩ | ⟨⟨_, h6, h3, h5, h4, _⟩, h1⟩)
      · exact absurd h (by decide)
      · exact absurd h (by decide)
      · exact absurd h (by decide)
      · exact absurd h (by decide)
      · exact ⟨h1, ⟨h3, h4⟩, h5, h6⟩
  rw [if_neg k5]
  constructor
  · intro h; cases h
  · rintro (⟨⟨h, _⟩, _⟩ | ⟨⟨h, _⟩, _⟩ | ⟨⟨h, _⟩, _⟩ | ⟨⟨h, _⟩, _⟩ | ⟨⟨h, _⟩, _⟩)
    · exact absurd h k1
    · exact absurd h k2
    · exact absurd h k3
    · exact absurd h k4
    · exact absurd h k5
theorem enc_byte (b : UInt8) (h : b.toNat < 128) : encodeRune (b.toNat : Int) = [b] := by
  unfold encodeRune
  rw [encodeRuneZ_one (by omega) (by omega)]
  simp
theorem encAll_asInts : ∀ l : List UInt8, (∀ b ∈ l, b.toNat < 128) → U.encAll (asInts l) = l
  | [], _ => rfl
  | b :: l, h => by
    show encodeRune (b.toNat : Int) ++ U.encAll (asInts l) = _
    rw [enc_byte b (h b (by simp)), encAll_asInts l (fun x hx => h x (by simp [hx]))]
    rfl
theorem encAll_app (a b : List Int) : U.encAll (a ++ b) = U.encAll a ++ U.encAll b := by unfold U.encAll; rw [List.map_append, List.flatten_append]
theorem encAll_one (c : Int) : U.encAll [c] = encodeRune c := by unfold U.encAll; simp
theorem mid_low {l : List UInt8} (h : plainInter l) : ∀ b ∈ l, b.toNat < 128 := fun b hb => by have := h.2 b hb; unfold mid at this; omega
theorem sgn_low {l : List UInt8} (h : Z.okS l = true) : ∀ b ∈ l, b.toNat < 128 := fun b hb => by
  unfold Z.okS at h
  have h2 := List.all_eq_true.1 h b hb
  rcases Z.okB_cases h2 with h3 | h3
  · rw [h3]; decide
  · have := Z.dig_iff.1 h3; omega
theorem asInts_rune {l : List UInt8} (h : ∀ b ∈ l, b.toNat < 128) : ∀ c ∈ asInts l, isR c := fun c hc => by
  unfold asInts at hc
  obtain ⟨b, hb, rfl⟩ := List.mem_map.1 hc
  have := h b hb
  unfold isR; omega
theorem runesOf_rune (s : List UInt8) : ∀ c ∈ runesOf s, isR c := fun c hc => by
  unfold runesOf at hc
  obtain ⟨r, hr, rfl⟩ := List.mem_map.1 hc
  have := U.rd_rune s.length s (Nat.le_refl _) r hr
  unfold U.isRune at this
  unfold isR; omega
theorem small_rune {c : Int} (h : 0 ≤ c ∧ c ≤ 127) : isR c := by unfold isR; omega
theorem wrT_enc {kd cd mk : Int} {im : List UInt8} {ar : List Int} {tx : List UInt8} (h : wOk ⟨kd, cd, mk, im, ar, tx⟩) : wrT kd cd mk im ar tx = U.encAll (wL ⟨kd, cd, mk, im, ar, tx⟩) ∧ (∀ c ∈ wL ⟨kd, cd, mk, im, ar, tx⟩, isR c) ∧ isR cd ∧ isR mk := by
  unfold wOk at h
  simp only [Ac.mk.injEq] at h
  rcases h with ⟨⟨rfl, _, rfl, rfl, rfl, rfl⟩, _, hr⟩ | ⟨⟨rfl, _, rfl, rfl, rfl, rfl⟩, h0, h1, _⟩ | ⟨⟨rfl, _, rfl, _, rfl, rfl⟩, h0, h1, hi, _⟩ | ⟨⟨rfl, _, _, _, _, rfl⟩, h0, h1, hm, hi, hk, h32, _⟩ | ⟨⟨rfl, rfl, rfl, rfl, rfl, _⟩, _, he, _⟩
  · exact ⟨(encAll_one cd).symm, (fun c hc => by rw [List.mem_singleton.1 hc]; exact hr), hr, small_rune (by decide)⟩
  · have h0 : 0 ≤ cd := h0
    have h1 : cd ≤ 31 := h1
    exact ⟨(encAll_one cd).symm, (fun c hc => by rw [List.mem_singleton.1 hc]; exact small_rune (c := cd) (by omega)), small_rune (by omega), small_rune (by decide)⟩
  · have hl := mid_low hi
    have hd : isR cd := small_rune (by omega)
    refine ⟨?_, ?_, hd, small_rune (by decide)⟩
    · show [27] ++ im ++ encodeRune cd = U.encAll ([27] ++ (asInts im ++ [cd]))
      rw [encAll_app, encAll_app, encAll_asInts im hl, encAll_one cd, List.append_assoc]
      rfl
    · intro c hc
      rcases List.mem_append.1 (show c ∈ [27] ++ (asInts im ++ [cd]) from hc) with hc | hc
      · rw [List.mem_singleton.1 hc]; exact small_rune (by decide)
      rcases List.mem_append.1 hc with hc | hc
      · exact asInts_rune hl c hc
      · rw [List.mem_singleton.1 hc]; exact hd
  · have hl := mid_low hi
    have hd : isR cd := small_rune (by omega)
    have hmr : isR mk := small_rune (by omega)
    have hw : (writeT ar).1 = Z.text ar := by unfold writeT; rw [if_pos hk, if_neg (by omega)]
    have hts : Z.okS (Z.text ar) = true := join_ok _ (fun x hx => by obtain ⟨n, _, rfl⟩ := List.mem_map.1 hx; exact word_ok n)
    have ht := sgn_low hts
    refine ⟨?_, ?_, hd, hmr⟩
    · show [27, 91] ++ (if mk = 0 then [] else encodeRune mk) ++ (writeT ar).1 ++ im ++ encodeRune cd = U.encAll ([27, 91] ++ ((if mk = 0 then [] else [mk]) ++ (asInts (Z.text ar) ++ (asInts im ++ [cd]))))
      rw [hw, encAll_app, encAll_app, encAll_app, encAll_app, encAll_asInts im hl, encAll_asInts _ ht, encAll_one cd]
      have e : U.encAll (if mk = 0 then [] else [mk]) = if mk = 0 then [] else encodeRune mk := by
        by_cases h0 : mk = 0
        · rw [if_pos h0, if_pos h0]; rfl
        · rw [if_neg h0, if_neg h0, encAll_one]
      rw [e]
      simp only [List.append_assoc]
      rfl
    · intro c hc
      rcases List.mem_append.1 (show c ∈ [27, 91] ++ ((if mk = 0 then [] else [mk]) ++ (asInts (Z.text ar) ++ (asInts im ++ [cd]))) from hc) with hc | hc
      · simp only [List.mem_cons, List.mem_nil_iff, or_false] at hc
        rcases hc with rfl | rfl <;> exact small_rune (by decide)
      rcases List.mem_append.1 hc with hc | hc
      · by_cases h0 : mk = 0
        · rw [if_pos h0] at hc; cases hc
        · rw [if_neg h0] at hc; rw [List.mem_singleton.1 hc]; exact hmr
      rcases List.mem_append.1 hc with hc | hc
      · exact asInts_rune ht c hc
      rcases List.mem_append.1 hc with hc | hc
      · exact asInts_rune hl c hc
      · rw [List.mem_singleton.1 hc]; exact hd
  · refine ⟨?_, ?_, small_rune (by decide), small_rune (by decide)⟩
    · show [27, 93] ++ tx ++ [7] = U.encAll ([27, 93] ++ (runesOf tx ++ [7]))
      rw [encAll_app, encAll_app, he, List.append_assoc]
      rfl
    · intro c hc
      rcases List.mem_append.1 (show c ∈ [27, 93] ++ (runesOf tx ++ [7]) from hc) with hc | hc
      · simp only [List.mem_cons, List.mem_nil_iff, or_false] at hc
        rcases hc with rfl | rfl <;> exact small_rune (by decide)
      rcases List.mem_append.1 hc with hc | hc
      · exact runesOf_rune tx c hc
      · rw [List.mem_singleton.1 hc]; exact small_rune (by decide)
theorem fix_ints : ∀ l : List Int, (∀ c ∈ l, isR c) → (l.map U.fixR).map (fun (r : Nat) => (r : Int)) = l
  | [], _ => rfl
  | c :: l, h => by
    have hc := h c (by simp)
    rw [List.map_cons, List.map_cons, fix_ints l (fun x hx => h x (by simp [hx]))]
    congr 1
    unfold isR at hc
    unfold U.fixR
    rw [if_pos (by omega)]
    omega
theorem wrT_rd {kd cd mk : Int} {im : List UInt8} {ar : List Int} {tx : List UInt8} (h : wOk ⟨kd, cd, mk, im, ar, tx⟩) : U.ints (U.rd (wrT kd cd mk im ar tx)).2 = wL ⟨kd, cd, mk, im, ar, tx⟩ := by
  obtain ⟨e, hr, _⟩ := wrT_enc h
  rw [e, U.rd_encAll]
  exact fix_ints _ hr
end Go.Proofs.YtneiiinheimglaaDoor.B
