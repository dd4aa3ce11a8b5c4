/-
  Contracts of package parse's reader: putText, takeText, takeTextEsc, take; condition: at most 2^40 - 1 acts.
-/
import Derived.Test.YtneiiinheimglaaDoorBTake
import Derived.Test.YtneiiinheimglaaDoorBEnc
namespace Go.Proofs.YtneiiinheimglaaDoor.B
open Go.RowKit Go.Lib Go.Proofs.YtneiiinheimglaaDoor Go.Proofs.YtneiiinheimglaaDoor.W Go.Proofs.YtneiiinheimglaaDoor.Q Go.Proofs.YtneiiinheimglaaDoor.C Go.Proofs.YtneiiinheimglaaDoor.Z

theorem cls_ten {c : Int} (h : cls c = 10) : c = 92 := by
  rcases cls_cases c with h1 | h1 | h1 | h1 | h1 | h1 | h1 | h1 | h1 | h1 | h1 | h1 | h1 | h1 | h1 <;> omega
set_option maxHeartbeats 4000000 in
set_option maxRecDepth 100000 in
theorem putText_any (base b bb : Nat) (p : Ps) (L : List Ac) (c : Int) (w : World) (h : PX base w b bb p L) (ht : p.text.length ≤ 256) :
    Calls Tryd.prog 68 #[.pointer (some ⟨b, 0, none⟩), .int .i64 c] w fun e w' => e = .returned (.tuple #[]) ∧ PX base w' b bb (if p.text.length + (encodeRune c).length ≤ 256 then ⟨p.st, p.mark, p.inter, p.args, p.text ++ encodeRune c⟩ else p) (L) ∧ Fr base w w' := by
  have HEN := Hid.mk' (E.Encode_some [c] w.heap.size 0 1 (w.alloc (.cells #[.int .i64 c] 3)) (fun j hj => by
    have hj0 : j = 0 := by simp at hj; omega
    subst hj0
    exact (Box.new w 3 [.int .i64 c]).cell (j := 0) rfl) (by simp) (by simp))
  rw [E.encAll_one] at HEN
  have hb := h.base_le
  have H1 := Hid.mk' (fun w1 (hB : Below (w.alloc (.cells #[.int .i64 c] 3)).heap.size (w.alloc (.cells #[.int .i64 c] 3)) w1) => show PX base w1 b bb p L ∧ Fr base w w1 from by
    have hw : Below w.heap.size w w1 := ((Below.refl _ _).alloc (Nat.le_refl _) _).trans (Below.mono hB (by simp))
    exact ⟨h.below hw, fun B W hBb hW => hW.trans (Below.mono hw (by omega))⟩)
  have hsz := C.bs_size p.text
  have hsz2 : (bs (encodeRune c)).size = (encodeRune c).length := C.bs_size _
  have h4 : (encodeRune c).length ≤ 4 := U.encodeRune_len c
  change Hid (Calls _ _ _ _ fun e w' => e = .returned (.string (bs (encodeRune c))) ∧ _) at HEN
  clear h
  by_cases hle : p.text.length + (encodeRune c).length ≤ 256
  · rw [if_pos hle]
    have h5 : ((bs p.text).size : Int) + ((bs (encodeRune c)).size : Int) ≤ 256 := by omega
    have H2 := Hid.mk' (fun w1 (h : PX base w1 b bb p L) => show PX base (w1.setCell ⟨b, 4, none⟩ (.string (bs p.text ++ bs (encodeRune c)))) b bb ⟨p.st, p.mark, p.inter, p.args, p.text ++ encodeRune c⟩ L ∧ Fr base w1 (w1.setCell ⟨b, 4, none⟩ (.string (bs p.text ++ bs (encodeRune c)))) from by
      rw [C.bs_app]
      obtain ⟨ad, cap, xs, e, h⟩ := h
      exact ⟨⟨ad, cap, xs, e, h.set 4 _ rfl⟩, h.frSet 4 _⟩)
    generalize bs (encodeRune c) = Y at *
    generalize hS : bs p.text = S at *
    go_enter Tryd.func68, Tryd.ntmps68
    go_wp2_with fail
    refine HEN.out.mono ?_
    rintro e w1 ⟨rfl, hB⟩
    obtain ⟨h1, F1⟩ := H1.out w1 hB
    have c4 := h1.cs.2.2.2.2
    rw [hS] at c4
    have f4 := h1.fr 4
    obtain ⟨h2, F2⟩ := H2.out w1 h1
    have H3 := Hid.mk' (And.intro h2 (F1.trans F2))
    clear H1 H2 HEN h1 h2 F1 F2 hB
    go_wp2
    go_end0
    exact ⟨rfl, H3.out⟩
  · rw [if_neg hle]
    have h5 : ¬ ((bs p.text).size : Int) + ((bs (encodeRune c)).size : Int) ≤ 256 := by omega
    generalize bs (encodeRune c) = Y at *
    generalize hS : bs p.text = S at *
    go_enter Tryd.func68, Tryd.ntmps68
    go_wp2_with fail
    refine HEN.out.mono ?_
    rintro e w1 ⟨rfl, hB⟩
    obtain ⟨h1, F1⟩ := H1.out w1 hB
    have c4 := h1.cs.2.2.2.2
    rw [hS] at c4
    have H3 := Hid.mk' (And.intro h1 F1)
    clear H1 HEN h1 F1 hB
    go_wp2
    go_end0
    exact ⟨rfl, H3.out⟩

set_option maxHeartbeats 4000000 in
set_option maxRecDepth 100000 in
theorem takeText_any (base b bb : Nat) (p : Ps) (L : List Ac) (c : Int) (w : World) (h : PX base w b bb p L) (hp : right p) (hst : p.st = 7 ∨ p.st = 9) (hc : 0 ≤ c ∧ c ≤ 1114111) (hn : L.length ≤ 1099511627776) :
    Calls Tryd.prog 45 #[.pointer (some ⟨b, 0, none⟩), .int .i64 c, .func (.func 22) #[] #[.pointer (some ⟨bb, 0, none⟩)]] w fun e w' => e = .returned (.tuple #[]) ∧ PX base w' b bb (step p c).1 (L ++ (step p c).2) ∧ Fr base w w' := by
  have c0 := h.cs.1
  have c4 := h.cs.2.2.2.2
  have f0 := h.fr 0
  have htl := hp.tlen
  have ht9 : p.st = 9 → p.text = [] := fun e => hp.text.elim id (fun h => by omega)
  have hrest : p.mark = 0 ∧ p.inter = [] ∧ p.args = [] := ⟨hp.mark.elim id (fun h => by omega), hp.inter.2 (by omega), hp.args.elim id (fun h => by omega)⟩
  obtain ⟨st, mk, im, ar, tx⟩ := p
  dsimp only at hst c0 c4 htl ht9 hrest
  obtain ⟨rfl, rfl, rfl⟩ := hrest
  clear hp
  by_cases h1 : c = 27
  · subst h1
    rcases hst with rfl | rfl
    · have hs : step ⟨7, 0, [], [], tx⟩ 27 = (⟨8, 0, [], [], tx⟩, []) := by
        rw [step_of (w := 90) (by omega) (by omega) (by rfl) (by decide)]; rfl
      have H3 := Hid.mk' (show PX base (w.setCell ⟨b, 0, none⟩ (.int .i64 8)) b bb ⟨8, 0, [], [], tx⟩ L ∧ Fr base w (w.setCell ⟨b, 0, none⟩ (.int .i64 8)) from h.set0 8)
      clear ht9
      rw [hs, List.append_nil]
      clear h hs
      go_enter Tryd.func45, Tryd.ntmps45
      go_wp2
      go_end0
      exact ⟨rfl, H3.out⟩
    · have hs : step ⟨9, 0, [], [], tx⟩ 27 = (⟨10, 0, [], [], tx⟩, []) := by
        rw [step_of (w := 90) (by omega) (by omega) (by rfl) (by decide)]; rfl
      have H3 := Hid.mk' (show PX base (w.setCell ⟨b, 0, none⟩ (.int .i64 10)) b bb ⟨10, 0, [], [], tx⟩ L ∧ Fr base w (w.setCell ⟨b, 0, none⟩ (.int .i64 10)) from h.set0 10)
      clear ht9
      rw [hs, List.append_nil]
      clear h hs
      go_enter Tryd.func45, Tryd.ntmps45
      go_wp2
      go_end0
      exact ⟨rfl, H3.out⟩
  have g27 : (c == 27) = false := beq_false_of_ne h1
  by_cases h2 : c = 24 ∨ c = 26
  · have hk : cls c = 0 := by rcases h2 with rfl | rfl <;> rfl
    have hs : step ⟨st, 0, [], [], tx⟩ c = (p0, [gone]) := by
      rw [step_of (w := 68) (by omega) (by omega) (by rcases hst with rfl | rfl <;> (rw [hk]; rfl)) (by decide)]; rfl
    have HA := Hid.mk' (show Calls Tryd.prog 22 #[.int .i64 0, .pointer (some ⟨bb, 0, none⟩)] w fun e w' => e = .returned (.tuple #[]) ∧ PX base w' b bb p0 (L ++ [gone]) ∧ Fr base w w' from by
      have := abandon_any base b bb _ L 0 w h hn
      rw [if_neg (show ¬ (st = 0) by omega)] at this
      exact this)
    rw [hs]
    clear h hs hk
    rcases hst with rfl | rfl <;> rcases h2 with rfl | rfl
    · go_enter Tryd.func45, Tryd.ntmps45
      go_wp2_with fail
      refine HA.out.mono ?_
      rintro e w2 ⟨rfl, h2, F2⟩
      have HF := Hid.mk' (And.intro h2 F2)
      clear HA h2 F2
      go_wp2
      go_end0
      exact ⟨rfl, HF.out⟩
    · go_enter Tryd.func45, Tryd.ntmps45
      go_wp2_with fail
      refine HA.out.mono ?_
      rintro e w2 ⟨rfl, h2, F2⟩
      have HF := Hid.mk' (And.intro h2 F2)
      clear HA h2 F2
      go_wp2
      go_end0
      exact ⟨rfl, HF.out⟩
    · go_enter Tryd.func45, Tryd.ntmps45
      go_wp2_with fail
      refine HA.out.mono ?_
      rintro e w2 ⟨rfl, h2, F2⟩
      have HF := Hid.mk' (And.intro h2 F2)
      clear HA h2 F2
      go_wp2
      go_end0
      exact ⟨rfl, HF.out⟩
    · go_enter Tryd.func45, Tryd.ntmps45
      go_wp2_with fail
      refine HA.out.mono ?_
      rintro e w2 ⟨rfl, h2, F2⟩
      have HF := Hid.mk' (And.intro h2 F2)
      clear HA h2 F2
      go_wp2
      go_end0
      exact ⟨rfl, HF.out⟩
  have g24 : (c == 24) = false := beq_false_of_ne (fun e => h2 (.inl e))
  have g26 : (c == 26) = false := beq_false_of_ne (fun e => h2 (.inr e))
  rcases hst with rfl | rfl
  · -- SOsc
    by_cases h7 : c = 7
    · subst h7
      have hs : step ⟨7, 0, [], [], tx⟩ 7 = (p0, [⟨5, 0, 0, [], [], tx⟩]) := by
        rw [step_of (w := 89) (by omega) (by omega) (by rfl) (by decide)]; rfl
      have HE := Hid.mk' (show Calls Tryd.prog 67 #[.pointer (some ⟨b, 0, none⟩), .agg #[.int .i64 5, .int .i64 0, .int .i64 0, .string ⟨#[]⟩, .slice none 0 0, .string (bs tx)]] w fun e w' => e = .returned (.tuple #[]) ∧ PX base w' b bb p0 (L ++ [⟨5, 0, 0, [], [], tx⟩]) ∧ Fr base w w' from end_any base b bb _ L ⟨5, 0, 0, [], [], tx⟩ (.slice none 0 0) w h (RdT.nil w) hn)
      rw [hs]
      clear h hs
      go_enter Tryd.func45, Tryd.ntmps45
      go_wp2_with fail
      refine HE.out.mono ?_
      rintro e w2 ⟨rfl, h2, F2⟩
      have HF := Hid.mk' (And.intro h2 F2)
      clear HE h2 F2
      go_wp2
      go_end0
      exact ⟨rfl, HF.out⟩
    have g7 : (c == 7) = false := beq_false_of_ne h7
    by_cases h8 : 0 ≤ c ∧ c ≤ 31
    · have hk : cls c = 3 := by rcases cls_cases c with h | h | h | h | h | h | h | h | h | h | h | h | h | h | h <;> omega
      have hs : step ⟨7, 0, [], [], tx⟩ c = (⟨7, 0, [], [], tx⟩, []) := by
        rw [step_of (w := 46) (by omega) (by omega) (by rw [hk]; rfl) (by decide)]; rfl
      have H3 := Hid.mk' (show PX base w b bb ⟨7, 0, [], [], tx⟩ L ∧ Fr base w w from ⟨h, Fr.refl _ _⟩)
      rw [hs, List.append_nil]
      have HC := Hid.mk' (isControl_any c w)
      rw [decide_eq_true (show (0 ≤ c ∧ c ≤ 31) by omega)] at HC
      clear h hs hk
      go_enter Tryd.func45, Tryd.ntmps45
      go_wp2_with fail
      refine HC.out.mono ?_
      rintro e w2 ⟨rfl, rfl⟩
      go_wp2
      go_end0
      exact ⟨rfl, H3.out⟩
    have HC := Hid.mk' (isControl_any c w)
    rw [decide_eq_false (show ¬ (0 ≤ c ∧ c ≤ 31) by omega)] at HC
    by_cases h9 : 127 ≤ c ∧ c ≤ 159
    · have hk : cls c = 13 := by rcases cls_cases c with h | h | h | h | h | h | h | h | h | h | h | h | h | h | h <;> omega
      have hs : step ⟨7, 0, [], [], tx⟩ c = (⟨7, 0, [], [], tx⟩, []) := by
        rw [step_of (w := 46) (by omega) (by omega) (by rw [hk]; rfl) (by decide)]; rfl
      have H3 := Hid.mk' (show PX base w b bb ⟨7, 0, [], [], tx⟩ L ∧ Fr base w w from ⟨h, Fr.refl _ _⟩)
      rw [hs, List.append_nil]
      have HM := Hid.mk' (isMute_any c w)
      rw [decide_eq_true (show (127 ≤ c ∧ c ≤ 159) by omega)] at HM
      clear h hs hk
      go_enter Tryd.func45, Tryd.ntmps45
      go_wp2_with fail
      refine HC.out.mono ?_
      rintro e w2 ⟨rfl, rfl⟩
      go_wp2_with fail
      refine HM.out.mono ?_
      rintro e w2 ⟨rfl, rfl⟩
      go_wp2
      go_end0
      exact ⟨rfl, H3.out⟩
    have HM := Hid.mk' (isMute_any c w)
    rw [decide_eq_false (show ¬ (127 ≤ c ∧ c ≤ 159) by omega)] at HM
    have hk : 4 ≤ cls c ∧ cls c ≠ 13 := by rcases cls_cases c with h | h | h | h | h | h | h | h | h | h | h | h | h | h | h <;> omega
    have hs : step ⟨7, 0, [], [], tx⟩ c = (if tx.length + (encodeRune c).length ≤ 256 then ⟨7, 0, [], [], tx ++ encodeRune c⟩ else ⟨7, 0, [], [], tx⟩, []) := by
      rw [step_of (w := 87) (by omega) (by omega) ((show ∀ k, k < 15 → 4 ≤ k ∧ k ≠ 13 → what 7 k = 87 by decide +kernel) _ (cls_lt c) hk) (by decide)]; rfl
    have HP := Hid.mk' (putText_any base b bb _ L c w h htl)
    rw [hs, List.append_nil]
    dsimp only at HP ⊢
    clear hs h hk
    generalize (if tx.length + (encodeRune c).length ≤ 256 then _ else _ : Ps) = q at *
    go_enter Tryd.func45, Tryd.ntmps45
    go_wp2_with fail
    refine HC.out.mono ?_
    rintro e w2 ⟨rfl, rfl⟩
    go_wp2_with fail
    refine HM.out.mono ?_
    rintro e w2 ⟨rfl, rfl⟩
    go_wp2_with fail
    refine HP.out.mono ?_
    rintro e w2 ⟨rfl, h2, F2⟩
    have HF := Hid.mk' (And.intro h2 F2)
    clear HP h2 F2
    go_wp2
    go_end0
    exact ⟨rfl, HF.out⟩
  · -- SText
    have hx := ht9 rfl
    subst hx
    have hk : cls c ≠ 0 ∧ cls c ≠ 1 := by rcases cls_cases c with h | h | h | h | h | h | h | h | h | h | h | h | h | h | h <;> omega
    have hs : step ⟨9, 0, [], [], []⟩ c = (⟨9, 0, [], [], []⟩, []) := by
      rw [step_of (w := 46) (by omega) (by omega) ((show ∀ k, k < 15 → k ≠ 0 ∧ k ≠ 1 → what 9 k = 46 by decide +kernel) _ (cls_lt c) hk) (by decide)]; rfl
    have H3 := Hid.mk' (show PX base w b bb ⟨9, 0, [], [], []⟩ L ∧ Fr base w w from ⟨h, Fr.refl _ _⟩)
    rw [hs, List.append_nil]
    clear h hs hk
    go_enter Tryd.func45, Tryd.ntmps45
    go_wp2
    go_end0
    exact ⟨rfl, H3.out⟩

set_option maxHeartbeats 4000000 in
set_option maxRecDepth 100000 in
theorem take_low_any (base b bb : Nat) (p : Ps) (L : List Ac) (c : Int) (w : World) (h : PX base w b bb p L) (hp : right p) (hst : p.st ≤ 6) (hc : 0 ≤ c ∧ c ≤ 1114111) (hn : L.length ≤ 1099511627776) :
    Calls Tryd.prog 24 #[.pointer (some ⟨b, 0, none⟩), .int .i64 c, .func (.func 22) #[] #[.pointer (some ⟨bb, 0, none⟩)]] w fun e w' => e = .returned (.tuple #[]) ∧ PX base w' b bb (step p c).1 (L ++ (step p c).2) ∧ Fr base w w' := by
  have c0 := h.cs.1
  have HE := Hid.mk' (takeCommand_any base b bb p L c w h hp hst hc hn)
  have g7 : ((p.st : Int) == 7) = false := beq_false_of_ne (by omega)
  have g8 : ((p.st : Int) == 8) = false := beq_false_of_ne (by omega)
  have g9 : ((p.st : Int) == 9) = false := beq_false_of_ne (by omega)
  have g10 : ((p.st : Int) == 10) = false := beq_false_of_ne (by omega)
  generalize step p c = Y at *
  clear h hp hst
  generalize (p.st : Int) = s at *
  go_enter Tryd.func24, Tryd.ntmps24
  go_wp2_with fail
  refine HE.out.mono ?_
  rintro e w2 ⟨rfl, h2, F2⟩
  have HF := Hid.mk' (And.intro h2 F2)
  clear HE h2 F2
  go_wp2
  go_end0
  exact ⟨rfl, HF.out⟩

set_option maxHeartbeats 4000000 in
set_option maxRecDepth 100000 in
theorem takeTextEsc_any (base b bb : Nat) (p : Ps) (L : List Ac) (c : Int) (w : World) (h : PX base w b bb p L) (hst : p.st = 8 ∨ p.st = 10) (hc : 0 ≤ c ∧ c ≤ 1114111) (hn : L.length + 1 ≤ 1099511627776) :
    Calls Tryd.prog 46 #[.pointer (some ⟨b, 0, none⟩), .int .i64 c, .func (.func 22) #[] #[.pointer (some ⟨bb, 0, none⟩)]] w fun e w' => e = .returned (.tuple #[]) ∧ PX base w' b bb (step p c).1 (L ++ (step p c).2) ∧ Fr base w w' := by
  have c0 := h.cs.1
  have c4 := h.cs.2.2.2.2
  by_cases h1 : c = 92
  · subst h1
    rcases hst with e | e
    · have hs : step p 92 = (p0, [⟨5, 0, 0, [], [], p.text⟩]) := by
        rw [step_of (w := 89) (by omega) (by omega) (by rw [e]; rfl) (by decide)]
        show (p0, [if 8 < p.st then gone else ⟨5, 0, 0, [], [], p.text⟩]) = _
        rw [if_neg (by omega)]
      have HE := Hid.mk' (show Calls Tryd.prog 67 #[.pointer (some ⟨b, 0, none⟩), .agg #[.int .i64 5, .int .i64 0, .int .i64 0, .string ⟨#[]⟩, .slice none 0 0, .string (bs p.text)]] w fun e w' => e = .returned (.tuple #[]) ∧ PX base w' b bb p0 (L ++ [⟨5, 0, 0, [], [], p.text⟩]) ∧ Fr base w w' from end_any base b bb p L ⟨5, 0, 0, [], [], p.text⟩ (.slice none 0 0) w h (RdT.nil w) (by omega))
      rw [hs]
      rw [e] at c0
      clear h hs
      go_enter Tryd.func46, Tryd.ntmps46
      go_wp2_with fail
      refine HE.out.mono ?_
      rintro e w2 ⟨rfl, h2, F2⟩
      have HF := Hid.mk' (And.intro h2 F2)
      clear HE h2 F2
      go_wp2
      go_end0
      exact ⟨rfl, HF.out⟩
    · have hs : step p 92 = (p0, [gone]) := by
        rw [step_of (w := 89) (by omega) (by omega) (by rw [e]; rfl) (by decide)]
        show (p0, [if 8 < p.st then gone else ⟨5, 0, 0, [], [], p.text⟩]) = _
        rw [if_pos (by omega)]
      have HA := Hid.mk' (show Calls Tryd.prog 22 #[.int .i64 0, .pointer (some ⟨bb, 0, none⟩)] w fun e w' => e = .returned (.tuple #[]) ∧ PX base w' b bb p0 (L ++ [gone]) ∧ Fr base w w' from by
        have := abandon_any base b bb p L 0 w h (by omega)
        rw [if_neg (by omega)] at this
        exact this)
      rw [hs]
      rw [e] at c0
      clear h hs
      go_enter Tryd.func46, Tryd.ntmps46
      go_wp2_with fail
      refine HA.out.mono ?_
      rintro e w2 ⟨rfl, h2, F2⟩
      have HF := Hid.mk' (And.intro h2 F2)
      clear HA h2 F2
      go_wp2
      go_end0
      exact ⟨rfl, HF.out⟩
  · have g92 : (c == 92) = false := beq_false_of_ne h1
    have hk : cls c ≠ 10 := fun hk => h1 (cls_ten hk)
    have hs : step p c = ((step (at' 1) c).1, gone :: (step (at' 1) c).2) := by
      have h82 : what p.st (cls c) = 82 := by
        have a := (show ∀ k, k < 15 → k ≠ 10 → what 8 k = 82 ∧ what 10 k = 82 by decide +kernel) _ (cls_lt c) hk
        rcases hst with e | e <;> rw [e]
        · exact a.1
        · exact a.2
      have e1 : step (at' 1) c = does (at' 1) c (what 1 (cls c)) := step_of (by omega) (by omega) rfl (what_one _ (cls_lt c))
      rw [e1]
      unfold step
      rw [if_neg (by omega), if_pos h82]
    have HA := Hid.mk' (show Calls Tryd.prog 22 #[.int .i64 1, .pointer (some ⟨bb, 0, none⟩)] w fun e w' => e = .returned (.tuple #[]) ∧ PX base w' b bb (at' 1) (L ++ [gone]) ∧ Fr base w w' from by
      have := abandon_any base b bb p L 1 w h (by omega)
      rw [if_neg (by omega)] at this
      exact this)
    have HT := Hid.mk' (fun w1 (h1 : PX base w1 b bb (at' 1) (L ++ [gone])) => take_low_any base b bb (at' 1) (L ++ [gone]) c w1 h1 (right_at 1 (by decide) (by decide)) (by decide) hc (by simpa using hn))
    have e2 : L ++ gone :: (step (at' 1) c).2 = L ++ [gone] ++ (step (at' 1) c).2 := by simp
    rw [hs]
    dsimp only
    rw [e2]
    clear h hs hk e2
    generalize step (at' 1) c = Y at *
    go_enter Tryd.func46, Tryd.ntmps46
    go_wp2_with fail
    refine HA.out.mono ?_
    rintro e w2 ⟨rfl, h2, F2⟩
    have HT2 := Hid.mk' (HT.out w2 h2)
    have HF2 := Hid.mk' F2
    clear HA HT h2 F2 c0 c4
    go_wp2_with fail
    refine HT2.out.mono ?_
    rintro e w3 ⟨rfl, h3, F3⟩
    have HF := Hid.mk' (And.intro h3 (HF2.out.trans F3))
    clear HT2 h3 F3
    go_wp2
    go_end0
    exact ⟨rfl, HF.out⟩

set_option maxHeartbeats 4000000 in
set_option maxRecDepth 100000 in
theorem take_any (base b bb : Nat) (p : Ps) (L : List Ac) (c : Int) (w : World) (h : PX base w b bb p L) (hp : right p) (hc : 0 ≤ c ∧ c ≤ 1114111) (hn : L.length + 1 ≤ 1099511627776) :
    Calls Tryd.prog 24 #[.pointer (some ⟨b, 0, none⟩), .int .i64 c, .func (.func 22) #[] #[.pointer (some ⟨bb, 0, none⟩)]] w fun e w' => e = .returned (.tuple #[]) ∧ PX base w' b bb (step p c).1 (L ++ (step p c).2) ∧ Fr base w w' := by
  have c0 := h.cs.1
  have hst := hp.st
  by_cases h6 : p.st ≤ 6
  · exact take_low_any base b bb p L c w h hp h6 hc (by omega)
  have hcase : p.st = 7 ∨ p.st = 8 ∨ p.st = 9 ∨ p.st = 10 := by omega
  rcases hcase with e | e | e | e
  · have HE := Hid.mk' (takeText_any base b bb p L c w h hp (.inl e) hc (by omega))
    rw [e] at c0
    clear h hp hst
    generalize step p c = Y at *
    go_enter Tryd.func24, Tryd.ntmps24
    go_wp2_with fail
    refine HE.out.mono ?_
    rintro e w2 ⟨rfl, h2, F2⟩
    have HF := Hid.mk' (And.intro h2 F2)
    clear HE h2 F2
    go_wp2
    go_end0
    exact ⟨rfl, HF.out⟩
  · have HE := Hid.mk' (takeTextEsc_any base b bb p L c w h (.inl e) hc hn)
    rw [e] at c0
    clear h hp hst
    generalize step p c = Y at *
    go_enter Tryd.func24, Tryd.ntmps24
    go_wp2_with fail
    refine HE.out.mono ?_
    rintro e w2 ⟨rfl, h2, F2⟩
    have HF := Hid.mk' (And.intro h2 F2)
    clear HE h2 F2
    go_wp2
    go_end0
    exact ⟨rfl, HF.out⟩
  · have HE := Hid.mk' (takeText_any base b bb p L c w h hp (.inr e) hc (by omega))
    rw [e] at c0
    clear h hp hst
    generalize step p c = Y at *
    go_enter Tryd.func24, Tryd.ntmps24
    go_wp2_with fail
    refine HE.out.mono ?_
    rintro e w2 ⟨rfl, h2, F2⟩
    have HF := Hid.mk' (And.intro h2 F2)
    clear HE h2 F2
    go_wp2
    go_end0
    exact ⟨rfl, HF.out⟩
  · have HE := Hid.mk' (takeTextEsc_any base b bb p L c w h (.inr e) hc hn)
    rw [e] at c0
    clear h hp hst
    generalize step p c = Y at *
    go_enter Tryd.func24, Tryd.ntmps24
    go_wp2_with fail
    refine HE.out.mono ?_
    rintro e w2 ⟨rfl, h2, F2⟩
    have HF := Hid.mk' (And.intro h2 F2)
    clear HE h2 F2
    go_wp2
    go_end0
    exact ⟨rfl, HF.out⟩
end Go.Proofs.YtneiiinheimglaaDoor.B
