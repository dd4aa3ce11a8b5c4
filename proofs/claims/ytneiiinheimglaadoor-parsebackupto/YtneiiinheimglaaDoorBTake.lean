/-
  Contracts of package parse's reader: endCsi, takeEsc, takeEscInter, takeArgs, takeCsiInter, takeSign, takeCommand; condition: at most 2^40 acts.
-/
import Derived.Test.YtneiiinheimglaaDoorBTest
namespace Go.Proofs.YtneiiinheimglaaDoor.B
open Go.RowKit Go.Lib Go.Proofs.YtneiiinheimglaaDoor Go.Proofs.YtneiiinheimglaaDoor.W Go.Proofs.YtneiiinheimglaaDoor.Q Go.Proofs.YtneiiinheimglaaDoor.C Go.Proofs.YtneiiinheimglaaDoor.Z

theorem PX.set0 {base : Nat} {w : World} {b bb : Nat} {p : Ps} {L : List Ac} (h : PX base w b bb p L) (n : Nat) : PX base (w.setCell ⟨b, 0, none⟩ (.int .i64 (n : Int))) b bb ⟨n, p.mark, p.inter, p.args, p.text⟩ L ∧ Fr base w (w.setCell ⟨b, 0, none⟩ (.int .i64 (n : Int))) := by
  obtain ⟨ad, cap, xs, e, h⟩ := h
  exact ⟨⟨ad, cap, xs, e, h.set 0 _ rfl⟩, h.frSet 0 _⟩
theorem PX.set1 {base : Nat} {w : World} {b bb : Nat} {p : Ps} {L : List Ac} (h : PX base w b bb p L) (m : Int) : PX base (w.setCell ⟨b, 1, none⟩ (.int .i64 m)) b bb ⟨p.st, m, p.inter, p.args, p.text⟩ L ∧ Fr base w (w.setCell ⟨b, 1, none⟩ (.int .i64 m)) := by
  obtain ⟨ad, cap, xs, e, h⟩ := h
  exact ⟨⟨ad, cap, xs, e, h.set 1 _ rfl⟩, h.frSet 1 _⟩
theorem PX.cs {base : Nat} {w : World} {b bb : Nat} {p : Ps} {L : List Ac} (h : PX base w b bb p L) : w.cell? ⟨b, 0, none⟩ = some (.int .i64 (p.st : Int)) ∧ w.cell? ⟨b, 1, none⟩ = some (.int .i64 p.mark) ∧ w.cell? ⟨b, 2, none⟩ = some (.string (bs p.inter)) ∧ w.cell? ⟨b, 3, none⟩ = some (.string (bs p.args)) ∧ w.cell? ⟨b, 4, none⟩ = some (.string (bs p.text)) := by
  obtain ⟨ad, cap, xs, e, h⟩ := h
  exact ⟨h.c0, h.c1, h.c2, h.c3, h.c4⟩
theorem PX.fr {base : Nat} {w : World} {b bb : Nat} {p : Ps} {L : List Ac} (h : PX base w b bb p L) (j : Nat) : w.frozen? ⟨b, j, none⟩ = false := by
  obtain ⟨ad, cap, xs, e, h⟩ := h
  exact h.fr j

set_option maxHeartbeats 4000000 in
set_option maxRecDepth 100000 in
theorem endCsi_any (base b bb : Nat) (p : Ps) (L : List Ac) (c : Int) (w : World) (h : PX base w b bb p L) (ha : p.args.length ≤ 100) (hn : L.length ≤ 1099511627776) :
    Calls Tryd.prog 103 #[.pointer (some ⟨b, 0, none⟩), .int .i64 c] w fun e w' => e = .returned (.tuple #[]) ∧ PX base w' b bb p0 (L ++ [⟨4, c, p.mark, p.inter, (readT p.args).1, []⟩]) ∧ Fr base w w' := by
  obtain ⟨c0, c1, c2, c3, c4⟩ := h.cs
  have HR := Hid.mk' (Read_any p.args w (by omega))
  have HE : Hid (∀ w1 v, OwnI w1 w.heap.size v (readT p.args).1 → Below w.heap.size w w1 → w1.cell? ⟨b, 1, none⟩ = some (.int .i64 p.mark) ∧ w1.cell? ⟨b, 2, none⟩ = some (.string (bs p.inter)) ∧ Calls Tryd.prog 67 #[.pointer (some ⟨b, 0, none⟩), .agg #[.int .i64 4, .int .i64 c, .int .i64 p.mark, .string (bs p.inter), v, .string ⟨#[]⟩]] w1.drew fun e w' => e = .returned (.tuple #[]) ∧ PX base w' b bb p0 (L ++ [⟨4, c, p.mark, p.inter, (readT p.args).1, []⟩]) ∧ Fr base w w') := by
    intro w1 v ho hb
    have h1 := h.below hb
    obtain ⟨_, d1, d2, _, _⟩ := h1.cs
    refine ⟨d1, d2, ?_⟩
    have h2 : PX base w1.drew b bb p L := h1.below ((Below.refl _ _).drew)
    have hv : RdT w1.drew v (readT p.args).1 := (RdT.own ho).keep (fun _ _ _ hk => hk)
    refine (end_any base b bb p L ⟨4, c, p.mark, p.inter, (readT p.args).1, []⟩ v w1.drew h2 hv hn).mono ?_
    rintro e w3 ⟨he, h3, F3⟩
    exact ⟨he, h3, fun B W hB hW => F3 B W hB ((hW.trans (Below.mono hb (by have := h.base_le; omega))).drew)⟩
  generalize readT p.args = Y at *
  obtain ⟨Y1, Y2⟩ := Y
  dsimp only at *
  generalize bs p.args = S at *
  clear h c0 c4 c1 c2
  go_enter Tryd.func103, Tryd.ntmps103
  go_wp2_with fail
  refine HR.out.mono ?_
  rintro e w1 ⟨v, rfl, ho, hb⟩
  obtain ⟨d1, d2, HE1⟩ := HE.out w1 v ho hb
  obtain ⟨av, cv, e1, _⟩ := RdI.own ho
  have HE2 := Hid.mk' HE1
  clear HR HE ho hb HE1 c3
  subst e1
  go_wp2_with fail
  go_region_with (go_at_call 67; refine HE2.out.mono ?_; rintro e w2 ⟨rfl, h2⟩)
  all_goals
    have HF := Hid.mk' h2
    go_wp2
    go_end0
    exact ⟨rfl, HF.out⟩

set_option maxHeartbeats 4000000 in
set_option maxRecDepth 100000 in
theorem takeEsc_any (base b bb : Nat) (p : Ps) (L : List Ac) (c : Int) (w : World) (h : PX base w b bb p L) (hp : right p) (hst : p.st = 1) (hc : 32 ≤ c ∧ c ≤ 126) (hn : L.length ≤ 1099511627776) :
    Calls Tryd.prog 84 #[.pointer (some ⟨b, 0, none⟩), .int .i64 c] w fun e w' => e = .returned (.tuple #[]) ∧ PX base w' b bb (step p c).1 (L ++ (step p c).2) ∧ Fr base w w' := by
  have hm : p.mark = 0 := hp.mark.elim id (fun h => by omega)
  have hi : p.inter = [] := hp.inter.2 (by omega)
  have ha : p.args = [] := hp.args.elim id (fun h => by omega)
  have ht : p.text = [] := hp.text.elim id (fun h => by omega)
  have c0 := h.cs.1
  have f0 := h.fr 0
  obtain ⟨st, mk, im, ar, tx⟩ := p
  dsimp only at hst hm hi ha ht c0
  subst hst hm hi ha ht
  clear hp
  by_cases h4 : c ≤ 47
  · have hk : cls c = 4 := by rcases cls_cases c with h | h | h | h | h | h | h | h | h | h | h | h | h | h | h <;> omega
    have hs : step ⟨1, 0, [], [], []⟩ c = (⟨2, 0, [sg c], [], []⟩, []) := by
      rw [step_of (w := 73) (by omega) (by omega) (by rw [hk]; rfl) (by decide)]; rfl
    rw [hs, List.append_nil]
    obtain ⟨h1, F1⟩ := h.set0 2
    have HP := Hid.mk' (show Calls Tryd.prog 100 #[.pointer (some ⟨b, 0, none⟩), .int .i64 c] (w.setCell ⟨b, 0, none⟩ (.int .i64 2)) fun e w' => e = .returned (.tuple #[]) ∧ PX base w' b bb ⟨2, 0, [sg c], [], []⟩ L ∧ Fr base w w' from (putInter_any base b bb _ L c _ h1 (by omega) (by omega)).mono fun e w3 ⟨he, h3, F3⟩ => ⟨he, h3, F1.trans F3⟩)
    have HT := Hid.mk' (isInter_any c w)
    rw [decide_eq_true (show (32 ≤ c ∧ c ≤ 47) by omega)] at HT
    clear h h1 F1 hs hk
    go_enter Tryd.func84, Tryd.ntmps84
    go_wp2_with fail
    refine HT.out.mono ?_
    rintro e w2 ⟨rfl, rfl⟩
    go_wp2_with fail
    refine HP.out.mono ?_
    rintro e w2 ⟨rfl, h2, F2⟩
    have HF := Hid.mk' (And.intro h2 F2)
    clear HP h2 F2
    go_wp2
    go_end0
    exact ⟨rfl, HF.out⟩
  by_cases h91 : c = 91
  · subst h91
    have hs : step ⟨1, 0, [], [], []⟩ 91 = (at' 3, []) := by
      rw [step_of (w := 83) (by omega) (by omega) (by rfl) (by decide)]; rfl
    rw [hs, List.append_nil]
    have H3 := Hid.mk' (show PX base (w.setCell ⟨b, 0, none⟩ (.int .i64 3)) b bb (at' 3) L ∧ Fr base w (w.setCell ⟨b, 0, none⟩ (.int .i64 3)) from h.set0 3)
    have HT := Hid.mk' (isInter_any 91 w)
    rw [decide_eq_false (by decide)] at HT
    clear h hs
    go_enter Tryd.func84, Tryd.ntmps84
    go_wp2_with fail
    refine HT.out.mono ?_
    rintro e w2 ⟨rfl, rfl⟩
    go_wp2
    go_end0
    exact ⟨rfl, H3.out⟩
  by_cases h93 : c = 93
  · subst h93
    have hs : step ⟨1, 0, [], [], []⟩ 93 = (at' 7, []) := by
      rw [step_of (w := 79) (by omega) (by omega) (by rfl) (by decide)]; rfl
    rw [hs, List.append_nil]
    have H3 := Hid.mk' (show PX base (w.setCell ⟨b, 0, none⟩ (.int .i64 7)) b bb (at' 7) L ∧ Fr base w (w.setCell ⟨b, 0, none⟩ (.int .i64 7)) from h.set0 7)
    have HT := Hid.mk' (isInter_any 93 w)
    rw [decide_eq_false (by decide)] at HT
    clear h hs
    go_enter Tryd.func84, Tryd.ntmps84
    go_wp2_with fail
    refine HT.out.mono ?_
    rintro e w2 ⟨rfl, rfl⟩
    go_wp2
    go_end0
    exact ⟨rfl, H3.out⟩
  have HC := Hid.mk' (ContainsRune_any ⟨#[80, 88, 94, 95]⟩ c w (by omega) (by omega))
  have HT := Hid.mk' (isInter_any c w)
  rw [decide_eq_false (show ¬ (32 ≤ c ∧ c ≤ 47) by omega)] at HT
  have g91 : (c == 91) = false := beq_false_of_ne h91
  have g93 : (c == 93) = false := beq_false_of_ne h93
  by_cases hx : c = 80 ∨ c = 88 ∨ c = 94 ∨ c = 95
  · rw [decide_eq_true ((begin_mem (by omega) (by omega)).2 hx)] at HC
    have hk : cls c = 11 := by rcases hx with rfl | rfl | rfl | rfl <;> rfl
    have hs : step ⟨1, 0, [], [], []⟩ c = (at' 9, []) := by
      rw [step_of (w := 84) (by omega) (by omega) (by rw [hk]; rfl) (by decide)]; rfl
    rw [hs, List.append_nil]
    have H3 := Hid.mk' (show PX base (w.setCell ⟨b, 0, none⟩ (.int .i64 9)) b bb (at' 9) L ∧ Fr base w (w.setCell ⟨b, 0, none⟩ (.int .i64 9)) from h.set0 9)
    clear h hs hk hx
    go_enter Tryd.func84, Tryd.ntmps84
    go_wp2_with fail
    refine HT.out.mono ?_
    rintro e w2 ⟨rfl, rfl⟩
    go_wp2_with fail
    refine HC.out.mono ?_
    rintro e w2 ⟨rfl, rfl⟩
    go_wp2
    go_end0
    exact ⟨rfl, H3.out⟩
  · rw [decide_eq_false (fun hy => hx ((begin_mem (by omega) (by omega)).1 hy))] at HC
    have hk : cls c = 5 ∨ cls c = 6 ∨ cls c = 7 ∨ cls c = 10 ∨ cls c = 12 := by rcases cls_cases c with h | h | h | h | h | h | h | h | h | h | h | h | h | h | h <;> omega
    have hs : step ⟨1, 0, [], [], []⟩ c = (p0, [⟨3, c, 0, [], [], []⟩]) := by
      rw [step_of (w := 70) (by omega) (by omega) (by rcases hk with hk | hk | hk | hk | hk <;> (rw [hk]; rfl)) (by decide)]; rfl
    rw [hs]
    have HE := Hid.mk' (show Calls Tryd.prog 67 #[.pointer (some ⟨b, 0, none⟩), .agg #[.int .i64 3, .int .i64 c, .int .i64 0, .string ⟨#[]⟩, .slice none 0 0, .string ⟨#[]⟩]] w fun e w' => e = .returned (.tuple #[]) ∧ PX base w' b bb p0 (L ++ [⟨3, c, 0, [], [], []⟩]) ∧ Fr base w w' from end_any base b bb _ L ⟨3, c, 0, [], [], []⟩ (.slice none 0 0) w h (RdT.nil w) hn)
    clear h hs hk hx
    go_enter Tryd.func84, Tryd.ntmps84
    go_wp2_with fail
    refine HT.out.mono ?_
    rintro e w2 ⟨rfl, rfl⟩
    go_wp2_with fail
    refine HC.out.mono ?_
    rintro e w2 ⟨rfl, rfl⟩
    go_wp2_with fail
    refine HE.out.mono ?_
    rintro e w2 ⟨rfl, h2, F2⟩
    have HF := Hid.mk' (And.intro h2 F2)
    clear HE h2 F2
    go_wp2
    go_end0
    exact ⟨rfl, HF.out⟩

set_option maxHeartbeats 4000000 in
set_option maxRecDepth 100000 in
theorem takeEscInter_any (base b bb : Nat) (p : Ps) (L : List Ac) (c : Int) (w : World) (h : PX base w b bb p L) (hp : right p) (hst : p.st = 2) (hc : 32 ≤ c ∧ c ≤ 126) (hn : L.length ≤ 1099511627776) :
    Calls Tryd.prog 85 #[.pointer (some ⟨b, 0, none⟩), .int .i64 c, .func (.func 22) #[] #[.pointer (some ⟨bb, 0, none⟩)]] w fun e w' => e = .returned (.tuple #[]) ∧ PX base w' b bb (step p c).1 (L ++ (step p c).2) ∧ Fr base w w' := by
  have hm : p.mark = 0 := hp.mark.elim id (fun h => by omega)
  have ha : p.args = [] := hp.args.elim id (fun h => by omega)
  have ht : p.text = [] := hp.text.elim id (fun h => by omega)
  have hil := hp.ilen
  have c2 := h.cs.2.2.1
  obtain ⟨st, mk, im, ar, tx⟩ := p
  dsimp only at hst hm hil ha ht c2
  subst hst hm ha ht
  clear hp
  have hsz := C.bs_size im
  by_cases h4 : c ≤ 47
  · have hk : cls c = 4 := by rcases cls_cases c with h | h | h | h | h | h | h | h | h | h | h | h | h | h | h <;> omega
    have hs : step ⟨2, 0, im, [], []⟩ c = (if im.length < 3 then ⟨2, 0, im ++ [sg c], [], []⟩ else ⟨2, 0, im, [], []⟩, []) := by
      rw [step_of (w := 74) (by omega) (by omega) (by rw [hk]; rfl) (by decide)]; rfl
    rw [hs, List.append_nil]
    have HP := Hid.mk' (putInter_any base b bb _ L c w h (by omega) (by omega))
    dsimp only at HP ⊢
    clear hs
    generalize (if im.length < 3 then _ else _ : Ps) = q at *
    have HT := Hid.mk' (isInter_any c w)
    rw [decide_eq_true (show (32 ≤ c ∧ c ≤ 47) by omega)] at HT
    clear h hk
    go_enter Tryd.func85, Tryd.ntmps85
    go_wp2_with fail
    refine HT.out.mono ?_
    rintro e w2 ⟨rfl, rfl⟩
    go_wp2_with fail
    refine HP.out.mono ?_
    rintro e w2 ⟨rfl, h2, F2⟩
    have HF := Hid.mk' (And.intro h2 F2)
    clear HP h2 F2
    go_wp2
    go_end0
    exact ⟨rfl, HF.out⟩
  have hk : 5 ≤ cls c ∧ cls c ≤ 12 := cls_from (by omega)
  have hk2 : what 2 (cls c) = 70 := t_f2 _ (by omega) hk.1
  have HT := Hid.mk' (isInter_any c w)
  rw [decide_eq_false (show ¬ (32 ≤ c ∧ c ≤ 47) by omega)] at HT
  by_cases h3 : im.length = 3
  · have hs : step ⟨2, 0, im, [], []⟩ c = (p0, [gone]) := by
      rw [step_of (w := 70) (by omega) (by omega) hk2 (by decide)]
      show (p0, [final ⟨2, 0, im, [], []⟩ c]) = _
      unfold final
      rw [if_pos h3]
    rw [hs]
    have HA := Hid.mk' (show Calls Tryd.prog 22 #[.int .i64 0, .pointer (some ⟨bb, 0, none⟩)] w fun e w' => e = .returned (.tuple #[]) ∧ PX base w' b bb p0 (L ++ [gone]) ∧ Fr base w w' from by
      have := abandon_any base b bb _ L 0 w h hn
      rw [if_neg (show ¬ (2 = 0) by decide)] at this
      exact this)
    have hl : ((bs im).size : Int) = 3 := by omega
    clear h hs hk hk2
    generalize bs im = S at *
    go_enter Tryd.func85, Tryd.ntmps85
    go_wp2_with fail
    refine HT.out.mono ?_
    rintro e w2 ⟨rfl, rfl⟩
    go_wp2_with fail
    refine HA.out.mono ?_
    rintro e w2 ⟨rfl, h2, F2⟩
    have HF := Hid.mk' (And.intro h2 F2)
    clear HA h2 F2
    go_wp2
    go_end0
    exact ⟨rfl, HF.out⟩
  · have hs : step ⟨2, 0, im, [], []⟩ c = (p0, [⟨3, c, 0, im, [], []⟩]) := by
      rw [step_of (w := 70) (by omega) (by omega) hk2 (by decide)]
      show (p0, [final ⟨2, 0, im, [], []⟩ c]) = _
      unfold final
      rw [if_neg h3]
      rfl
    rw [hs]
    have HE := Hid.mk' (show Calls Tryd.prog 67 #[.pointer (some ⟨b, 0, none⟩), .agg #[.int .i64 3, .int .i64 c, .int .i64 0, .string (bs im), .slice none 0 0, .string ⟨#[]⟩]] w fun e w' => e = .returned (.tuple #[]) ∧ PX base w' b bb p0 (L ++ [⟨3, c, 0, im, [], []⟩]) ∧ Fr base w w' from end_any base b bb _ L ⟨3, c, 0, im, [], []⟩ (.slice none 0 0) w h (RdT.nil w) hn)
    have hl : (((bs im).size : Int) == 3) = false := beq_false_of_ne (by omega)
    clear h hs hk hk2
    generalize bs im = S at *
    go_enter Tryd.func85, Tryd.ntmps85
    go_wp2_with fail
    refine HT.out.mono ?_
    rintro e w2 ⟨rfl, rfl⟩
    go_wp2_with fail
    refine HE.out.mono ?_
    rintro e w2 ⟨rfl, h2, F2⟩
    have HF := Hid.mk' (And.intro h2 F2)
    clear HE h2 F2
    go_wp2
    go_end0
    exact ⟨rfl, HF.out⟩

set_option maxHeartbeats 4000000 in
set_option maxRecDepth 100000 in
theorem takeArgs_any (base b bb : Nat) (p : Ps) (L : List Ac) (c : Int) (w : World) (h : PX base w b bb p L) (hp : right p) (hst : p.st = 3 ∨ p.st = 4) (hc : 32 ≤ c ∧ c ≤ 126) (hn : L.length ≤ 1099511627776) :
    Calls Tryd.prog 86 #[.pointer (some ⟨b, 0, none⟩), .int .i64 c] w fun e w' => e = .returned (.tuple #[]) ∧ PX base w' b bb (step p c).1 (L ++ (step p c).2) ∧ Fr base w w' := by
  have hi : p.inter = [] := hp.inter.2 (by omega)
  have ht : p.text = [] := hp.text.elim id (fun h => by omega)
  have hm3 : p.st = 3 → p.mark = 0 ∧ p.args = [] := fun e => ⟨hp.mark.elim id (fun h => by omega), hp.args.elim id (fun h => by omega)⟩
  have hal := hp.alen
  have c0 := h.cs.1
  have c1 := h.cs.2.1
  have f0 := h.fr 0
  have f1 := h.fr 1
  obtain ⟨st, mk, im, ar, tx⟩ := p
  dsimp only at hst hi ht c0 c1 hal hm3
  subst hi ht
  clear hp
  by_cases h4 : c ≤ 47
  · have hk : cls c = 4 := by rcases cls_cases c with h | h | h | h | h | h | h | h | h | h | h | h | h | h | h <;> omega
    have hs : step ⟨st, mk, [], ar, []⟩ c = (⟨5, mk, [sg c], ar, []⟩, []) := by
      rw [step_of (w := 73) (by omega) (by omega) (by rcases hst with rfl | rfl <;> (rw [hk]; rfl)) (by decide)]
      show ((⟨if st = 1 then 2 else 5, mk, [sg c], ar, []⟩ : Ps), ([] : List Ac)) = _
      rw [if_neg (by omega)]
    rw [hs, List.append_nil]
    obtain ⟨h1, F1⟩ := h.set0 5
    have HP := Hid.mk' (show Calls Tryd.prog 100 #[.pointer (some ⟨b, 0, none⟩), .int .i64 c] (w.setCell ⟨b, 0, none⟩ (.int .i64 5)) fun e w' => e = .returned (.tuple #[]) ∧ PX base w' b bb ⟨5, mk, [sg c], ar, []⟩ L ∧ Fr base w w' from (putInter_any base b bb _ L c _ h1 (by omega) (by omega)).mono fun e w3 ⟨he, h3, F3⟩ => ⟨he, h3, F1.trans F3⟩)
    have HT := Hid.mk' (isInter_any c w)
    rw [decide_eq_true (show (32 ≤ c ∧ c ≤ 47) by omega)] at HT
    clear h h1 F1 hs hk
    go_enter Tryd.func86, Tryd.ntmps86
    go_wp2_with fail
    refine HT.out.mono ?_
    rintro e w2 ⟨rfl, rfl⟩
    go_wp2_with fail
    refine HP.out.mono ?_
    rintro e w2 ⟨rfl, h2, F2⟩
    have HF := Hid.mk' (And.intro h2 F2)
    clear HP h2 F2
    go_wp2
    go_end0
    exact ⟨rfl, HF.out⟩
  have HT := Hid.mk' (isInter_any c w)
  rw [decide_eq_false (show ¬ (32 ≤ c ∧ c ≤ 47) by omega)] at HT
  by_cases h5 : 48 ≤ c ∧ c ≤ 57 ∨ c = 59
  · have hk : cls c = 6 := cls_sign h5
    have hs : step ⟨st, mk, [], ar, []⟩ c = (⟨4, mk, [], if ar.length < 100 then ar ++ [sg c] else ar, []⟩, []) := by
      rw [step_of (w := 65) (by omega) (by omega) (by rcases hst with rfl | rfl <;> (rw [hk]; rfl)) (by decide)]; rfl
    rw [hs, List.append_nil]
    obtain ⟨h1, F1⟩ := h.set0 4
    have HP := Hid.mk' (show Calls Tryd.prog 102 #[.pointer (some ⟨b, 0, none⟩), .int .i64 c] (w.setCell ⟨b, 0, none⟩ (.int .i64 4)) fun e w' => e = .returned (.tuple #[]) ∧ PX base w' b bb ⟨4, mk, [], if ar.length < 100 then ar ++ [sg c] else ar, []⟩ L ∧ Fr base w w' from (putArgs_any base b bb _ L c _ h1 (by omega) (by omega)).mono fun e w3 ⟨he, h3, F3⟩ => ⟨he, h3, F1.trans F3⟩)
    dsimp only
    generalize (if ar.length < 100 then ar ++ [sg c] else ar) = q at *
    have HB := Hid.mk' (isArg_any c w)
    rw [decide_eq_true (show (48 ≤ c ∧ c ≤ 57 ∨ c = 59) by omega)] at HB
    clear h h1 F1 hs hk
    go_enter Tryd.func86, Tryd.ntmps86
    go_wp2_with fail
    refine HT.out.mono ?_
    rintro e w2 ⟨rfl, rfl⟩
    go_wp2_with fail
    refine HB.out.mono ?_
    rintro e w2 ⟨rfl, rfl⟩
    go_wp2_with fail
    refine HP.out.mono ?_
    rintro e w2 ⟨rfl, h2, F2⟩
    have HF := Hid.mk' (And.intro h2 F2)
    clear HP h2 F2
    go_wp2
    go_end0
    exact ⟨rfl, HF.out⟩
  have HB := Hid.mk' (isArg_any c w)
  rw [decide_eq_false (show ¬ (48 ≤ c ∧ c ≤ 57 ∨ c = 59) by omega)] at HB
  by_cases h6 : 60 ≤ c ∧ c ≤ 63
  · have hk : cls c = 7 := cls_mark h6
    have HM := Hid.mk' (isMark_any c w)
    rw [decide_eq_true (show (60 ≤ c ∧ c ≤ 63) by omega)] at HM
    rcases hst with rfl | rfl
    · obtain ⟨rfl, rfl⟩ := hm3 rfl
      have hs : step ⟨3, 0, [], [], []⟩ c = (⟨4, c, [], [], []⟩, []) := by
        rw [step_of (w := 77) (by omega) (by omega) (by rw [hk]; rfl) (by decide)]; rfl
      rw [hs, List.append_nil]
      obtain ⟨h1, F1⟩ := h.set0 4
      obtain ⟨h2, F2⟩ := h1.set1 c
      have c1' : (w.setCell ⟨b, 0, none⟩ (.int .i64 4)).cell? ⟨b, 1, none⟩ = some (.int .i64 0) := h1.cs.2.1
      have f1' : (w.setCell ⟨b, 0, none⟩ (.int .i64 4)).frozen? ⟨b, 1, none⟩ = false := h1.fr 1
      have H3 := Hid.mk' (show PX base ((w.setCell ⟨b, 0, none⟩ (.int .i64 4)).setCell ⟨b, 1, none⟩ (.int .i64 c)) b bb ⟨4, c, [], [], []⟩ L ∧ Fr base w ((w.setCell ⟨b, 0, none⟩ (.int .i64 4)).setCell ⟨b, 1, none⟩ (.int .i64 c)) from ⟨h2, F1.trans F2⟩)
      clear h h1 h2 F1 F2 hs hk
      go_enter Tryd.func86, Tryd.ntmps86
      go_wp2_with fail
      refine HT.out.mono ?_
      rintro e w2 ⟨rfl, rfl⟩
      go_wp2_with fail
      refine HB.out.mono ?_
      rintro e w2 ⟨rfl, rfl⟩
      go_wp2_with fail
      refine HM.out.mono ?_
      rintro e w2 ⟨rfl, rfl⟩
      go_wp2
      go_end0
      exact ⟨rfl, H3.out⟩
    · have hs : step ⟨4, mk, [], ar, []⟩ c = (at' 6, []) := by
        rw [step_of (w := 71) (by omega) (by omega) (by rw [hk]; rfl) (by decide)]; rfl
      rw [hs, List.append_nil]
      have HG := Hid.mk' (ignore_any base b bb _ L w h)
      have g64 : ¬ (64 : Int) ≤ c := by omega
      clear h hs hk
      go_enter Tryd.func86, Tryd.ntmps86
      go_wp2_with fail
      refine HT.out.mono ?_
      rintro e w2 ⟨rfl, rfl⟩
      go_wp2_with fail
      refine HB.out.mono ?_
      rintro e w2 ⟨rfl, rfl⟩
      go_wp2_with fail
      refine HM.out.mono ?_
      rintro e w2 ⟨rfl, rfl⟩
      go_wp2_with fail
      refine HG.out.mono ?_
      rintro e w2 ⟨rfl, h2, F2⟩
      have HF := Hid.mk' (And.intro h2 F2)
      clear HG h2 F2
      go_wp2
      go_end0
      exact ⟨rfl, HF.out⟩
  have HM := Hid.mk' (isMark_any c w)
  rw [decide_eq_false (show ¬ (60 ≤ c ∧ c ≤ 63) by omega)] at HM
  by_cases h7 : 64 ≤ c
  · have hk : 8 ≤ cls c ∧ cls c ≤ 12 := cls_up (by omega)
    have hs : step ⟨st, mk, [], ar, []⟩ c = (p0, [⟨4, c, mk, [], (readT ar).1, []⟩]) := by
      rw [step_of (w := 70) (by omega) (by omega) (by rcases hst with rfl | rfl; exact (t_f3 _ (by omega) hk.1).1; exact (t_f3 _ (by omega) hk.1).2.1) (by decide)]
      show (p0, [final ⟨st, mk, [], ar, []⟩ c]) = _
      unfold final
      rw [if_neg (by simp), if_neg (by show ¬ st < 3; omega)]
    rw [hs]
    have HE := Hid.mk' (endCsi_any base b bb _ L c w h hal hn)
    dsimp only at HE
    clear h hs hk
    go_enter Tryd.func86, Tryd.ntmps86
    go_wp2_with fail
    refine HT.out.mono ?_
    rintro e w2 ⟨rfl, rfl⟩
    go_wp2_with fail
    refine HB.out.mono ?_
    rintro e w2 ⟨rfl, rfl⟩
    go_wp2_with fail
    refine HM.out.mono ?_
    rintro e w2 ⟨rfl, rfl⟩
    go_wp2_with fail
    refine HE.out.mono ?_
    rintro e w2 ⟨rfl, h2, F2⟩
    have HF := Hid.mk' (And.intro h2 F2)
    clear HE h2 F2
    go_wp2
    go_end0
    exact ⟨rfl, HF.out⟩
  · obtain rfl : c = 58 := by omega
    have hk : cls 58 = 5 := rfl
    have hs : step ⟨st, mk, [], ar, []⟩ 58 = (at' 6, []) := by
      rw [step_of (w := 71) (by omega) (by omega) (by rcases hst with rfl | rfl <;> (rw [hk]; rfl)) (by decide)]; rfl
    rw [hs, List.append_nil]
    have HG := Hid.mk' (ignore_any base b bb _ L w h)
    clear h hs hk
    go_enter Tryd.func86, Tryd.ntmps86
    go_wp2_with fail
    refine HT.out.mono ?_
    rintro e w2 ⟨rfl, rfl⟩
    go_wp2_with fail
    refine HB.out.mono ?_
    rintro e w2 ⟨rfl, rfl⟩
    go_wp2_with fail
    refine HM.out.mono ?_
    rintro e w2 ⟨rfl, rfl⟩
    go_wp2_with fail
    refine HG.out.mono ?_
    rintro e w2 ⟨rfl, h2, F2⟩
    have HF := Hid.mk' (And.intro h2 F2)
    clear HG h2 F2
    go_wp2
    go_end0
    exact ⟨rfl, HF.out⟩

set_option maxHeartbeats 4000000 in
set_option maxRecDepth 100000 in
theorem takeCsiInter_any (base b bb : Nat) (p : Ps) (L : List Ac) (c : Int) (w : World) (h : PX base w b bb p L) (hp : right p) (hst : p.st = 5) (hc : 32 ≤ c ∧ c ≤ 126) (hn : L.length ≤ 1099511627776) :
    Calls Tryd.prog 87 #[.pointer (some ⟨b, 0, none⟩), .int .i64 c, .func (.func 22) #[] #[.pointer (some ⟨bb, 0, none⟩)]] w fun e w' => e = .returned (.tuple #[]) ∧ PX base w' b bb (step p c).1 (L ++ (step p c).2) ∧ Fr base w w' := by
  have ht : p.text = [] := hp.text.elim id (fun h => by omega)
  have hil := hp.ilen
  have hal := hp.alen
  have c2 := h.cs.2.2.1
  obtain ⟨st, mk, im, ar, tx⟩ := p
  dsimp only at hst hil hal ht c2
  subst hst ht
  clear hp
  have hsz := C.bs_size im
  by_cases h4 : c ≤ 47
  · have hk : cls c = 4 := by rcases cls_cases c with h | h | h | h | h | h | h | h | h | h | h | h | h | h | h <;> omega
    have hs : step ⟨5, mk, im, ar, []⟩ c = (if im.length < 3 then ⟨5, mk, im ++ [sg c], ar, []⟩ else ⟨5, mk, im, ar, []⟩, []) := by
      rw [step_of (w := 74) (by omega) (by omega) (by rw [hk]; rfl) (by decide)]; rfl
    rw [hs, List.append_nil]
    have HP := Hid.mk' (putInter_any base b bb _ L c w h (by omega) (by omega))
    dsimp only at HP ⊢
    clear hs
    generalize (if im.length < 3 then _ else _ : Ps) = q at *
    have HT := Hid.mk' (isInter_any c w)
    rw [decide_eq_true (show (32 ≤ c ∧ c ≤ 47) by omega)] at HT
    clear h hk
    go_enter Tryd.func87, Tryd.ntmps87
    go_wp2_with fail
    refine HT.out.mono ?_
    rintro e w2 ⟨rfl, rfl⟩
    go_wp2_with fail
    refine HP.out.mono ?_
    rintro e w2 ⟨rfl, h2, F2⟩
    have HF := Hid.mk' (And.intro h2 F2)
    clear HP h2 F2
    go_wp2
    go_end0
    exact ⟨rfl, HF.out⟩
  have HT := Hid.mk' (isInter_any c w)
  rw [decide_eq_false (show ¬ (32 ≤ c ∧ c ≤ 47) by omega)] at HT
  by_cases h7 : c < 64
  · have hk : cls c = 5 ∨ cls c = 6 ∨ cls c = 7 := by rcases cls_cases c with h | h | h | h | h | h | h | h | h | h | h | h | h | h | h <;> omega
    have hs : step ⟨5, mk, im, ar, []⟩ c = (at' 6, []) := by
      rw [step_of (w := 71) (by omega) (by omega) (by rcases hk with hk | hk | hk <;> (rw [hk]; rfl)) (by decide)]; rfl
    rw [hs, List.append_nil]
    have HG := Hid.mk' (ignore_any base b bb _ L w h)
    clear h hs hk
    go_enter Tryd.func87, Tryd.ntmps87
    go_wp2_with fail
    refine HT.out.mono ?_
    rintro e w2 ⟨rfl, rfl⟩
    go_wp2_with fail
    refine HG.out.mono ?_
    rintro e w2 ⟨rfl, h2, F2⟩
    have HF := Hid.mk' (And.intro h2 F2)
    clear HG h2 F2
    go_wp2
    go_end0
    exact ⟨rfl, HF.out⟩
  have hk : 8 ≤ cls c ∧ cls c ≤ 12 := cls_up (by omega)
  have hk2 : what 5 (cls c) = 70 := (t_f3 _ (by omega) hk.1).2.2
  by_cases h3 : im.length = 3
  · have hs : step ⟨5, mk, im, ar, []⟩ c = (p0, [gone]) := by
      rw [step_of (w := 70) (by omega) (by omega) hk2 (by decide)]
      show (p0, [final ⟨5, mk, im, ar, []⟩ c]) = _
      unfold final
      rw [if_pos h3]
    rw [hs]
    have HA := Hid.mk' (show Calls Tryd.prog 22 #[.int .i64 0, .pointer (some ⟨bb, 0, none⟩)] w fun e w' => e = .returned (.tuple #[]) ∧ PX base w' b bb p0 (L ++ [gone]) ∧ Fr base w w' from by
      have := abandon_any base b bb _ L 0 w h hn
      rw [if_neg (show ¬ (5 = 0) by decide)] at this
      exact this)
    have hl : ((bs im).size : Int) = 3 := by omega
    clear h hs hk hk2
    generalize bs im = S at *
    go_enter Tryd.func87, Tryd.ntmps87
    go_wp2_with fail
    refine HT.out.mono ?_
    rintro e w2 ⟨rfl, rfl⟩
    go_wp2_with fail
    refine HA.out.mono ?_
    rintro e w2 ⟨rfl, h2, F2⟩
    have HF := Hid.mk' (And.intro h2 F2)
    clear HA h2 F2
    go_wp2
    go_end0
    exact ⟨rfl, HF.out⟩
  · have hs : step ⟨5, mk, im, ar, []⟩ c = (p0, [⟨4, c, mk, im, (readT ar).1, []⟩]) := by
      rw [step_of (w := 70) (by omega) (by omega) hk2 (by decide)]
      show (p0, [final ⟨5, mk, im, ar, []⟩ c]) = _
      unfold final
      rw [if_neg h3]
      rfl
    rw [hs]
    have HE := Hid.mk' (endCsi_any base b bb _ L c w h hal hn)
    dsimp only at HE
    have hl : (((bs im).size : Int) == 3) = false := beq_false_of_ne (by omega)
    clear h hs hk hk2
    generalize bs im = S at *
    go_enter Tryd.func87, Tryd.ntmps87
    go_wp2_with fail
    refine HT.out.mono ?_
    rintro e w2 ⟨rfl, rfl⟩
    go_wp2_with fail
    refine HE.out.mono ?_
    rintro e w2 ⟨rfl, h2, F2⟩
    have HF := Hid.mk' (And.intro h2 F2)
    clear HE h2 F2
    go_wp2
    go_end0
    exact ⟨rfl, HF.out⟩

set_option maxHeartbeats 4000000 in
set_option maxRecDepth 100000 in
theorem takeSign_any (base b bb : Nat) (p : Ps) (L : List Ac) (c : Int) (w : World) (h : PX base w b bb p L) (hp : right p) (hst : 1 ≤ p.st ∧ p.st ≤ 6) (hc : 32 ≤ c ∧ c ≤ 126) (hn : L.length ≤ 1099511627776) :
    Calls Tryd.prog 69 #[.pointer (some ⟨b, 0, none⟩), .int .i64 c, .func (.func 22) #[] #[.pointer (some ⟨bb, 0, none⟩)]] w fun e w' => e = .returned (.tuple #[]) ∧ PX base w' b bb (step p c).1 (L ++ (step p c).2) ∧ Fr base w w' := by
  have c0 := h.cs.1
  have hcase : p.st = 1 ∨ p.st = 2 ∨ p.st = 3 ∨ p.st = 4 ∨ p.st = 5 ∨ p.st = 6 := by omega
  rcases hcase with e | e | e | e | e | e
  · have HE := Hid.mk' (takeEsc_any base b bb p L c w h hp e hc hn)
    rw [e] at c0
    clear h hp hst
    generalize step p c = Y at *
    go_enter Tryd.func69, Tryd.ntmps69
    go_wp2_with fail
    refine HE.out.mono ?_
    rintro e w2 ⟨rfl, h2, F2⟩
    have HF := Hid.mk' (And.intro h2 F2)
    clear HE h2 F2
    go_wp2
    go_end0
    exact ⟨rfl, HF.out⟩
  · have HE := Hid.mk' (takeEscInter_any base b bb p L c w h hp e hc hn)
    rw [e] at c0
    clear h hp hst
    generalize step p c = Y at *
    go_enter Tryd.func69, Tryd.ntmps69
    go_wp2_with fail
    refine HE.out.mono ?_
    rintro e w2 ⟨rfl, h2, F2⟩
    have HF := Hid.mk' (And.intro h2 F2)
    clear HE h2 F2
    go_wp2
    go_end0
    exact ⟨rfl, HF.out⟩
  · have HE := Hid.mk' (takeArgs_any base b bb p L c w h hp (.inl e) hc hn)
    rw [e] at c0
    clear h hp hst
    generalize step p c = Y at *
    go_enter Tryd.func69, Tryd.ntmps69
    go_wp2_with fail
    refine HE.out.mono ?_
    rintro e w2 ⟨rfl, h2, F2⟩
    have HF := Hid.mk' (And.intro h2 F2)
    clear HE h2 F2
    go_wp2
    go_end0
    exact ⟨rfl, HF.out⟩
  · have HE := Hid.mk' (takeArgs_any base b bb p L c w h hp (.inr e) hc hn)
    rw [e] at c0
    clear h hp hst
    generalize step p c = Y at *
    go_enter Tryd.func69, Tryd.ntmps69
    go_wp2_with fail
    refine HE.out.mono ?_
    rintro e w2 ⟨rfl, h2, F2⟩
    have HF := Hid.mk' (And.intro h2 F2)
    clear HE h2 F2
    go_wp2
    go_end0
    exact ⟨rfl, HF.out⟩
  · have HE := Hid.mk' (takeCsiInter_any base b bb p L c w h hp e hc hn)
    rw [e] at c0
    clear h hp hst
    generalize step p c = Y at *
    go_enter Tryd.func69, Tryd.ntmps69
    go_wp2_with fail
    refine HE.out.mono ?_
    rintro e w2 ⟨rfl, h2, F2⟩
    have HF := Hid.mk' (And.intro h2 F2)
    clear HE h2 F2
    go_wp2
    go_end0
    exact ⟨rfl, HF.out⟩
  · by_cases h7 : 64 ≤ c
    · have hk : 8 ≤ cls c ∧ cls c ≤ 12 := cls_up (by omega)
      have hs : step p c = (p0, [gone]) := by
        rw [step_of (w := 68) (by omega) (by omega) (by rw [e]; exact (show ∀ k, k < 13 → 8 ≤ k → what 6 k = 68 by decide +kernel) _ (by omega) hk.1) (by decide)]; rfl
      have HA := Hid.mk' (show Calls Tryd.prog 22 #[.int .i64 0, .pointer (some ⟨bb, 0, none⟩)] w fun e w' => e = .returned (.tuple #[]) ∧ PX base w' b bb p0 (L ++ [gone]) ∧ Fr base w w' from by
        have := abandon_any base b bb p L 0 w h hn
        rw [if_neg (by omega)] at this
        exact this)
      rw [hs]
      rw [e] at c0
      clear h hp hst hs hk
      go_enter Tryd.func69, Tryd.ntmps69
      go_wp2_with fail
      refine HA.out.mono ?_
      rintro e w2 ⟨rfl, h2, F2⟩
      have HF := Hid.mk' (And.intro h2 F2)
      clear HA h2 F2
      go_wp2
      go_end0
      exact ⟨rfl, HF.out⟩
    · have hk : 4 ≤ cls c ∧ cls c ≤ 7 := by rcases cls_cases c with h | h | h | h | h | h | h | h | h | h | h | h | h | h | h <;> omega
      have hs : step p c = (p, []) := by
        rw [step_of (w := 46) (by omega) (by omega) (by rw [e]; exact (show ∀ k, k < 8 → 4 ≤ k → what 6 k = 46 by decide +kernel) _ (by omega) hk.1) (by decide)]; rfl
      have H3 := Hid.mk' (show PX base w b bb p L ∧ Fr base w w from ⟨h, Fr.refl _ _⟩)
      rw [hs, List.append_nil]
      rw [e] at c0
      clear h hp hst hs hk
      go_enter Tryd.func69, Tryd.ntmps69
      go_wp2
      go_end0
      exact ⟨rfl, H3.out⟩

set_option maxHeartbeats 4000000 in
set_option maxRecDepth 100000 in
theorem takeCommand_any (base b bb : Nat) (p : Ps) (L : List Ac) (c : Int) (w : World) (h : PX base w b bb p L) (hp : right p) (hst : p.st ≤ 6) (hc : 0 ≤ c ∧ c ≤ 1114111) (hn : L.length ≤ 1099511627776) :
    Calls Tryd.prog 47 #[.pointer (some ⟨b, 0, none⟩), .int .i64 c, .func (.func 22) #[] #[.pointer (some ⟨bb, 0, none⟩)]] w fun e w' => e = .returned (.tuple #[]) ∧ PX base w' b bb (step p c).1 (L ++ (step p c).2) ∧ Fr base w w' := by
  have c0 := h.cs.1
  have hp0 : p.st = 0 → p = p0 := fun e => ground hp e
  by_cases h1 : c = 24 ∨ c = 26
  · have hk : cls c = 0 := by rcases h1 with rfl | rfl <;> rfl
    have hs : step p c = (p0, if p.st = 0 then [] else [gone]) := by
      by_cases e : p.st = 0
      · rw [step_of (w := 46) (by omega) (by omega) (by rw [e, hk]; rfl) (by decide), if_pos e]
        show (p, []) = _
        rw [hp0 e]
      · rw [step_of (w := 88) (by omega) (by omega) (by rw [hk]; exact (show ∀ s, s < 7 → s ≠ 0 → what s 0 = 88 by decide +kernel) _ (by omega) e) (by decide), if_neg e]; rfl
    rw [hs]
    have HA := Hid.mk' (show Calls Tryd.prog 22 #[.int .i64 0, .pointer (some ⟨bb, 0, none⟩)] w fun e w' => e = .returned (.tuple #[]) ∧ PX base w' b bb p0 (L ++ (if p.st = 0 then [] else [gone])) ∧ Fr base w w' from abandon_any base b bb p L 0 w h hn)
    dsimp only
    generalize (if p.st = 0 then [] else [gone] : List Ac) = A at *
    clear h hp hp0 hs hk
    rcases h1 with rfl | rfl
    · go_enter Tryd.func47, Tryd.ntmps47
      go_wp2_with fail
      refine HA.out.mono ?_
      rintro e w2 ⟨rfl, h2, F2⟩
      have HF := Hid.mk' (And.intro h2 F2)
      clear HA h2 F2
      go_wp2
      go_end0
      exact ⟨rfl, HF.out⟩
    · go_enter Tryd.func47, Tryd.ntmps47
      go_wp2_with fail
      refine HA.out.mono ?_
      rintro e w2 ⟨rfl, h2, F2⟩
      have HF := Hid.mk' (And.intro h2 F2)
      clear HA h2 F2
      go_wp2
      go_end0
      exact ⟨rfl, HF.out⟩
  have g24 : (c == 24) = false := beq_false_of_ne (fun e => h1 (.inl e))
  have g26 : (c == 26) = false := beq_false_of_ne (fun e => h1 (.inr e))
  by_cases h2 : c = 27
  · subst h2
    have hs : step p 27 = (at' 1, if p.st = 0 then [] else [gone]) := by
      rw [step_of (w := 69) (by omega) (by omega) (by exact (show ∀ s, s < 7 → what s 1 = 69 by decide +kernel) _ (by omega)) (by decide)]; rfl
    rw [hs]
    have HA := Hid.mk' (show Calls Tryd.prog 22 #[.int .i64 1, .pointer (some ⟨bb, 0, none⟩)] w fun e w' => e = .returned (.tuple #[]) ∧ PX base w' b bb (at' 1) (L ++ (if p.st = 0 then [] else [gone])) ∧ Fr base w w' from abandon_any base b bb p L 1 w h hn)
    dsimp only
    generalize (if p.st = 0 then [] else [gone] : List Ac) = A at *
    clear h hp hp0 hs
    go_enter Tryd.func47, Tryd.ntmps47
    go_wp2_with fail
    refine HA.out.mono ?_
    rintro e w2 ⟨rfl, h2, F2⟩
    have HF := Hid.mk' (And.intro h2 F2)
    clear HA h2 F2
    go_wp2
    go_end0
    exact ⟨rfl, HF.out⟩
  have g27 : (c == 27) = false := beq_false_of_ne h2
  by_cases h3 : 0 ≤ c ∧ c ≤ 31
  · have hk : cls c = 2 ∨ cls c = 3 := by rcases cls_cases c with h | h | h | h | h | h | h | h | h | h | h | h | h | h | h <;> omega
    have hs : step p c = (p, [⟨2, c, 0, [], [], []⟩]) := by
      rw [step_of (w := 67) (by omega) (by omega) (by
        have a := (show ∀ s, s < 7 → what s 2 = 67 ∧ what s 3 = 67 by decide +kernel) p.st (by omega)
        rcases hk with hk | hk
        · rw [hk]; exact a.1
        · rw [hk]; exact a.2) (by decide)]; rfl
    rw [hs]
    have HA := Hid.mk' (show Calls Tryd.prog 23 #[.pointer (some ⟨b, 0, none⟩), .agg #[.int .i64 2, .int .i64 c, .int .i64 0, .string ⟨#[]⟩, .slice none 0 0, .string ⟨#[]⟩]] w fun e w' => e = .returned (.tuple #[]) ∧ PX base w' b bb p (L ++ [⟨2, c, 0, [], [], []⟩]) ∧ Fr base w w' from tell_any base b bb p L ⟨2, c, 0, [], [], []⟩ (.slice none 0 0) w h (RdT.nil w) hn)
    have HC := Hid.mk' (isControl_any c w)
    rw [decide_eq_true (show (0 ≤ c ∧ c ≤ 31) by omega)] at HC
    clear h hp hp0 hs hk
    go_enter Tryd.func47, Tryd.ntmps47
    go_wp2_with fail
    refine HC.out.mono ?_
    rintro e w2 ⟨rfl, rfl⟩
    go_wp2_with fail
    refine HA.out.mono ?_
    rintro e w2 ⟨rfl, h2, F2⟩
    have HF := Hid.mk' (And.intro h2 F2)
    clear HA h2 F2
    go_wp2
    go_end0
    exact ⟨rfl, HF.out⟩
  have HC := Hid.mk' (isControl_any c w)
  rw [decide_eq_false (show ¬ (0 ≤ c ∧ c ≤ 31) by omega)] at HC
  by_cases h4 : 127 ≤ c ∧ c ≤ 159
  · have hk : cls c = 13 := by rcases cls_cases c with h | h | h | h | h | h | h | h | h | h | h | h | h | h | h <;> omega
    have hs : step p c = (p, []) := by
      rw [step_of (w := 46) (by omega) (by omega) (by rw [hk]; exact (show ∀ s, s < 7 → what s 13 = 46 by decide +kernel) _ (by omega)) (by decide)]; rfl
    rw [hs, List.append_nil]
    have H3 := Hid.mk' (show PX base w b bb p L ∧ Fr base w w from ⟨h, Fr.refl _ _⟩)
    have HM := Hid.mk' (isMute_any c w)
    rw [decide_eq_true (show (127 ≤ c ∧ c ≤ 159) by omega)] at HM
    clear h hp hp0 hs hk
    go_enter Tryd.func47, Tryd.ntmps47
    go_wp2_with fail
    refine HC.out.mono ?_
    rintro e w2 ⟨rfl, rfl⟩
    go_wp2_with fail
    refine HM.out.mono ?_
    rintro e w2 ⟨rfl, rfl⟩
    go_wp2
    go_end0
    exact ⟨rfl, H3.out⟩
  have HM := Hid.mk' (isMute_any c w)
  rw [decide_eq_false (show ¬ (127 ≤ c ∧ c ≤ 159) by omega)] at HM
  by_cases h5 : p.st = 0
  · have hk : 4 ≤ cls c ∧ cls c ≠ 13 := by rcases cls_cases c with h | h | h | h | h | h | h | h | h | h | h | h | h | h | h <;> omega
    have hs : step p c = (p, [⟨1, c, 0, [], [], []⟩]) := by
      rw [step_of (w := 80) (by omega) (by omega) (by rw [h5]; exact (show ∀ k, k < 15 → 4 ≤ k ∧ k ≠ 13 → what 0 k = 80 by decide +kernel) _ (cls_lt c) hk) (by decide)]; rfl
    rw [hs]
    have HA := Hid.mk' (show Calls Tryd.prog 23 #[.pointer (some ⟨b, 0, none⟩), .agg #[.int .i64 1, .int .i64 c, .int .i64 0, .string ⟨#[]⟩, .slice none 0 0, .string ⟨#[]⟩]] w fun e w' => e = .returned (.tuple #[]) ∧ PX base w' b bb p (L ++ [⟨1, c, 0, [], [], []⟩]) ∧ Fr base w w' from tell_any base b bb p L ⟨1, c, 0, [], [], []⟩ (.slice none 0 0) w h (RdT.nil w) hn)
    rw [h5] at c0
    clear h hp hp0 hs hk
    go_enter Tryd.func47, Tryd.ntmps47
    go_wp2_with fail
    refine HC.out.mono ?_
    rintro e w2 ⟨rfl, rfl⟩
    go_wp2_with fail
    refine HM.out.mono ?_
    rintro e w2 ⟨rfl, rfl⟩
    go_wp2_with fail
    refine HA.out.mono ?_
    rintro e w2 ⟨rfl, h2, F2⟩
    have HF := Hid.mk' (And.intro h2 F2)
    clear HA h2 F2
    go_wp2
    go_end0
    exact ⟨rfl, HF.out⟩
  have g0 : ((p.st : Int) == 0) = false := beq_false_of_ne (by omega)
  by_cases h6 : 126 < c
  · have hk : cls c = 14 := by rcases cls_cases c with h | h | h | h | h | h | h | h | h | h | h | h | h | h | h <;> omega
    have hs : step p c = (p0, [gone]) := by
      rw [step_of (w := 68) (by omega) (by omega) (by rw [hk]; exact (show ∀ s, s < 7 → s ≠ 0 → what s 14 = 68 by decide +kernel) _ (by omega) h5) (by decide)]; rfl
    rw [hs]
    have HA := Hid.mk' (show Calls Tryd.prog 22 #[.int .i64 0, .pointer (some ⟨bb, 0, none⟩)] w fun e w' => e = .returned (.tuple #[]) ∧ PX base w' b bb p0 (L ++ [gone]) ∧ Fr base w w' from by
      have := abandon_any base b bb p L 0 w h hn
      rw [if_neg h5] at this
      exact this)
    clear h hp hp0 hs hk
    generalize (p.st : Int) = s at *
    go_enter Tryd.func47, Tryd.ntmps47
    go_wp2_with fail
    refine HC.out.mono ?_
    rintro e w2 ⟨rfl, rfl⟩
    go_wp2_with fail
    refine HM.out.mono ?_
    rintro e w2 ⟨rfl, rfl⟩
    go_wp2_with fail
    refine HA.out.mono ?_
    rintro e w2 ⟨rfl, h2, F2⟩
    have HF := Hid.mk' (And.intro h2 F2)
    clear HA h2 F2
    go_wp2
    go_end0
    exact ⟨rfl, HF.out⟩
  · have HE := Hid.mk' (takeSign_any base b bb p L c w h hp (by omega) (by omega) hn)
    clear h hp hp0
    generalize step p c = Y at *
    generalize (p.st : Int) = s at *
    go_enter Tryd.func47, Tryd.ntmps47
    go_wp2_with fail
    refine HC.out.mono ?_
    rintro e w2 ⟨rfl, rfl⟩
    go_wp2_with fail
    refine HM.out.mono ?_
    rintro e w2 ⟨rfl, rfl⟩
    go_wp2_with fail
    refine HE.out.mono ?_
    rintro e w2 ⟨rfl, h2, F2⟩
    have HF := Hid.mk' (And.intro h2 F2)
    clear HE h2 F2
    go_wp2
    go_end0
    exact ⟨rfl, HF.out⟩
end Go.Proofs.YtneiiinheimglaaDoor.B
