/-
  Contract of environ.Answer; conditions: at most 2^44 variables, a text whose length an int tells.
-/
import Derived.Test.YtbfiompbngpjoaaDoorEPick
namespace Go.Proofs.YtbfiompbngpjoaaDoor.E
open Go.RowKit Go.Lib Go.Proofs.YtbfiompbngpjoaaDoor Go.Proofs.YtbfiompbngpjoaaDoor.W Go.Proofs.YtbfiompbngpjoaaDoor.Q Go.Proofs.YtbfiompbngpjoaaDoor.C

theorem wanted_cases (s : List UInt8) : (∃ r : Int, wantedT s = ([], r) ∧ (r == 0) = false) ∨ (∃ l, wantedT s = (l, 0) ∧ readT s = (l, 0) ∧ l.length ≤ 20) := by
  rcases readT_cases s with ⟨h, _⟩ | h | ⟨l, h, _, hc, _⟩
  · exact .inl ⟨2, by rw [wantedT_err (by rw [h]; decide), h], by decide⟩
  · exact .inl ⟨4, by rw [wantedT_err (by rw [h]; decide), h], by decide⟩
  · by_cases ha : l.any Vr.set = true
    · refine .inl ⟨4, ?_, by decide⟩
      rw [wantedT, h]
      simp only [if_true]
      rw [if_pos ha]
    · refine .inr ⟨l, ?_, h, (chk_zero hc).1⟩
      rw [wantedT, h]
      simp only [if_true]
      rw [if_neg ha]
theorem write_cases (l : List Vr) : (∃ T, writeT l = (T, 0) ∧ T.length ≤ 16040) ∨ ∃ r : Int, writeT l = ([], r) ∧ (r == 0) = false := by
  rcases chk_range l with h | h | h
  · refine .inl ⟨txt l, writeT_ok h, ?_⟩
    have := writeT_len l
    rw [writeT_ok h] at this
    exact this
  · exact .inr ⟨2, by rw [writeT_no (by rw [h]; decide), h], by decide⟩
  · exact .inr ⟨4, by rw [writeT_no (by rw [h]; decide), h], by decide⟩
theorem sayT_ok {l : List Vr} {T : List UInt8} (h : writeT l = (T, 0)) : sayT l = (0 :: T, 0) := by rw [sayT, h]; rfl
theorem sayT_no {l : List Vr} {r : Int} (h : writeT l = ([], r)) (hr : (r == 0) = false) : sayT l = ([], r) := by
  rw [sayT, h]
  simp only
  rw [if_neg (by intro e; subst e; cases hr)]
theorem answerT_one {l : List Vr} {ask : List UInt8} : answerT l (1 :: ask) = if (wantedT ask).2 = 0 then sayT (toldT l (wantedT ask).1) else ([], (wantedT ask).2) := by rw [answerT, if_pos (show (1 : UInt8).toNat = 1 from rfl)]

set_option maxHeartbeats 4000000 in
set_option maxRecDepth 100000 in
theorem Answer_form (w : World) (v : Value) (l : List Vr) (d : List UInt8) (hz : d.length ≤ 9223372036854775807) (h : (cutP d).2 = false) (ha : answerT l d = ([], 4)) :
    Calls Tryd.prog 12 #[v, .string (bs d)] w fun e w' => e = .returned (.tuple #[.string (bs (answerT l d).1), .int .i64 (answerT l d).2]) ∧ Below w.heap.size w w' := by
  have H1 := Hid.mk' (CutPrefix_one d w hz)
  rw [ha, show bs [] = ⟨#[]⟩ from rfl]
  rw [h] at H1
  generalize (cutP d).1 = C at *
  generalize bs d = D at *
  go_enter Tryd.func12, Tryd.ntmps12
  go_wp2_with fail
  refine H1.out.mono ?_
  rintro e w1 ⟨rfl, rfl⟩
  go_wp2
  go_ret2
  exact ⟨rfl, Below.refl _ _⟩

set_option maxHeartbeats 4000000 in
set_option maxRecDepth 100000 in
theorem Answer_want (w : World) (v : Value) (l : List Vr) (ask : List UInt8) (hz : ask.length + 1 ≤ 9223372036854775807) (r : Int) (h : wantedT ask = ([], r)) (hr : (r == 0) = false) :
    Calls Tryd.prog 12 #[v, .string (bs (1 :: ask))] w fun e w' => e = .returned (.tuple #[.string (bs (answerT l (1 :: ask)).1), .int .i64 (answerT l (1 :: ask)).2]) ∧ Below w.heap.size w w' := by
  have H1 := Hid.mk' (CutPrefix_one (1 :: ask) w (by simpa using hz))
  have H2 : Hid (∀ W, _) := fun W => Wanted_any ask W (by omega)
  rw [h] at H2
  have ha : answerT l (1 :: ask) = ([], r) := by
    rw [answerT_one, h]
    simp only
    rw [if_neg (by intro e; subst e; cases hr)]
  rw [ha, show bs [] = ⟨#[]⟩ from rfl]
  rw [show cutP (1 :: ask) = (bs ask, true) from rfl] at H1
  generalize bs (1 :: ask) = D at *
  generalize bs ask = K at *
  go_enter Tryd.func12, Tryd.ntmps12
  go_wp2_with fail
  refine H1.out.mono ?_
  rintro e w1 ⟨rfl, rfl⟩
  go_wp2_with fail
  refine (H2.out w1).mono ?_
  rintro e w2 ⟨ad, cap, rfl, _, hb2⟩
  have HB2 := Hid.mk' hb2
  clear hb2 H2
  go_wp2
  go_ret2
  exact ⟨rfl, HB2.out⟩

set_option maxHeartbeats 8000000 in
set_option maxRecDepth 100000 in
theorem Answer_all_ok (w : World) (v : Value) (l : List Vr) (ask : List UInt8) (hv : RdV w v l) (hn : l.length ≤ 17592186044416) (hz : ask.length + 1 ≤ 9223372036854775807) (h : wantedT ask = ([], 0)) (T : List UInt8) (hT : writeT l = (T, 0)) (hTl : T.length ≤ 16040) :
    Calls Tryd.prog 12 #[v, .string (bs (1 :: ask))] w fun e w' => e = .returned (.tuple #[.string (bs (answerT l (1 :: ask)).1), .int .i64 (answerT l (1 :: ask)).2]) ∧ Below w.heap.size w w' := by
  have H1 := Hid.mk' (CutPrefix_one (1 :: ask) w (by simpa using hz))
  have H2 : Hid (∀ W, _) := fun W => Wanted_any ask W (by omega)
  rw [h] at H2
  dsimp only at H2
  have ha : answerT l (1 :: ask) = (0 :: T, 0) := by
    rw [answerT_one, h]
    simp only [if_true]
    rw [toldT, if_pos rfl]
    exact sayT_ok hT
  rw [ha]
  dsimp only
  rw [show cutP (1 :: ask) = (bs ask, true) from rfl] at H1
  have H3 : Hid (∀ W, Below w.heap.size w W → Calls Tryd.prog 5 #[v] W fun e w' => e = .returned (.tuple #[.string (bs T), .int .i64 0]) ∧ Below W.heap.size W w') := fun W hW => by
    have := Write_any W v l (hv.below hW (Nat.le_refl _)) hn
    rw [hT] at this
    exact this
  have hcat : (⟨#[0]⟩ : ByteArray) ++ bs T = bs (0 :: T) := bs_app [0] T
  have hTz : (bs T).size ≤ 16040 := by rw [bs_size]; exact hTl
  generalize bs (0 :: T) = T0 at *
  generalize bs T = T1 at *
  generalize bs (1 :: ask) = D at *
  generalize bs ask = K at *
  clear h ha hT
  obtain ⟨a0, c0, rfl, hc0, hr0⟩ := hv
  clear hr0
  go_enter Tryd.func12, Tryd.ntmps12
  go_wp2_with fail
  refine H1.out.mono ?_
  rintro e w1 ⟨rfl, rfl⟩
  go_wp2_with fail
  refine (H2.out w1).mono ?_
  rintro e w2 ⟨ad, cap, rfl, ho2, hb2⟩
  have HB2 := Hid.mk' hb2
  have hs2 := HB2.out.size
  have HW := Hid.mk' (H3.out w2 HB2.out)
  clear hb2 H2 H3 ho2
  go_wp2_with fail
  refine HW.out.mono ?_
  rintro e w4 ⟨rfl, hb4⟩
  have HB4 := Hid.mk' (HB2.out.trans (hb4.mono hs2))
  clear hb4 HW
  go_wp2
  go_ret2
  exact ⟨rfl, HB4.out⟩

set_option maxHeartbeats 8000000 in
set_option maxRecDepth 100000 in
theorem Answer_all_no (w : World) (v : Value) (l : List Vr) (ask : List UInt8) (hv : RdV w v l) (hn : l.length ≤ 17592186044416) (hz : ask.length + 1 ≤ 9223372036854775807) (h : wantedT ask = ([], 0)) (r : Int) (hT : writeT l = ([], r)) (hr : (r == 0) = false) :
    Calls Tryd.prog 12 #[v, .string (bs (1 :: ask))] w fun e w' => e = .returned (.tuple #[.string (bs (answerT l (1 :: ask)).1), .int .i64 (answerT l (1 :: ask)).2]) ∧ Below w.heap.size w w' := by
  have H1 := Hid.mk' (CutPrefix_one (1 :: ask) w (by simpa using hz))
  have H2 : Hid (∀ W, _) := fun W => Wanted_any ask W (by omega)
  rw [h] at H2
  dsimp only at H2
  have ha : answerT l (1 :: ask) = ([], r) := by
    rw [answerT_one, h]
    simp only [if_true]
    rw [toldT, if_pos rfl]
    exact sayT_no hT hr
  rw [ha]
  dsimp only
  rw [show cutP (1 :: ask) = (bs ask, true) from rfl] at H1
  have H3 : Hid (∀ W, Below w.heap.size w W → Calls Tryd.prog 5 #[v] W fun e w' => e = .returned (.tuple #[.string ⟨#[]⟩, .int .i64 r]) ∧ Below W.heap.size W w') := fun W hW => by
    have := Write_any W v l (hv.below hW (Nat.le_refl _)) hn
    rw [hT] at this
    exact this
  generalize bs (1 :: ask) = D at *
  generalize bs ask = K at *
  clear h ha hT
  obtain ⟨a0, c0, rfl, hc0, hr0⟩ := hv
  clear hr0
  go_enter Tryd.func12, Tryd.ntmps12
  go_wp2_with fail
  refine H1.out.mono ?_
  rintro e w1 ⟨rfl, rfl⟩
  go_wp2_with fail
  refine (H2.out w1).mono ?_
  rintro e w2 ⟨ad, cap, rfl, ho2, hb2⟩
  have HB2 := Hid.mk' hb2
  have hs2 := HB2.out.size
  have HW := Hid.mk' (H3.out w2 HB2.out)
  clear hb2 H2 H3 ho2
  go_wp2_with fail
  refine HW.out.mono ?_
  rintro e w4 ⟨rfl, hb4⟩
  have HB4 := Hid.mk' (HB2.out.trans (hb4.mono hs2))
  clear hb4 HW
  go_wp2
  go_ret2
  exact ⟨rfl, HB4.out⟩

set_option maxHeartbeats 8000000 in
set_option maxRecDepth 100000 in
theorem Answer_some_ok (w : World) (v : Value) (l : List Vr) (ask : List UInt8) (hv : RdV w v l) (hn : l.length ≤ 17592186044416) (hz : ask.length + 1 ≤ 9223372036854775807) (m : List Vr) (h : wantedT ask = (m, 0)) (hm : m ≠ []) (hm20 : m.length ≤ 20) (T : List UInt8) (hT : writeT (pickT l m) = (T, 0)) (hTl : T.length ≤ 16040) :
    Calls Tryd.prog 12 #[v, .string (bs (1 :: ask))] w fun e w' => e = .returned (.tuple #[.string (bs (answerT l (1 :: ask)).1), .int .i64 (answerT l (1 :: ask)).2]) ∧ Below w.heap.size w w' := by
  have H1 := Hid.mk' (CutPrefix_one (1 :: ask) w (by simpa using hz))
  have H2 : Hid (∀ W, _) := fun W => Wanted_any ask W (by omega)
  rw [h] at H2
  dsimp only at H2
  have ha : answerT l (1 :: ask) = (0 :: T, 0) := by
    rw [answerT_one, h]
    simp only [if_true]
    rw [toldT, if_neg hm]
    exact sayT_ok hT
  rw [ha]
  dsimp only
  rw [show cutP (1 :: ask) = (bs ask, true) from rfl] at H1
  have H3 : Hid (∀ W ad cap P, OwnV W w.heap.size ad cap P → writeT P = writeT (pickT l m) → P.length ≤ 17592186044416 → Calls Tryd.prog 5 #[.slice ad P.length cap] W fun e w' => e = .returned (.tuple #[.string (bs T), .int .i64 0]) ∧ Below W.heap.size W w') := fun W ad cap P h1 h2 h3 => by
    have := Write_any W _ P h1.rd h3
    rw [h2, hT] at this
    exact this
  have H4 : Hid (∀ W ad cap, Below w.heap.size w W → OwnV W w.heap.size ad cap m → Calls Tryd.prog 21 #[v, .slice ad m.length cap] W fun e w' => ∃ ad cap P, e = .returned (.slice ad P.length cap) ∧ OwnV w' w.heap.size ad cap P ∧ writeT P = writeT (pickT l m) ∧ P.length ≤ 17592186044416 ∧ Below w.heap.size w w') := fun W ad cap h1 h2 => by
    refine (pick_any W v _ l m (hv.below h1 (Nat.le_refl _)) h2.rd hn hm20).mono ?_
    rintro e w' ⟨ad', cap', P, rfl, q1, q2, q4, q3⟩
    exact ⟨ad', cap', P, rfl, OwnR.low q1 h1.size, q2, by omega, h1.trans (q3.mono h1.size)⟩
  have hml : (0 : Int) < (m.length : Int) := by
    cases m with
    | nil => exact absurd rfl hm
    | cons a t => simp only [List.length_cons]; omega
  have hcat : (⟨#[0]⟩ : ByteArray) ++ bs T = bs (0 :: T) := bs_app [0] T
  have hTz : (bs T).size ≤ 16040 := by rw [bs_size]; exact hTl
  generalize bs (0 :: T) = T0 at *
  generalize bs T = T1 at *
  generalize bs (1 :: ask) = D at *
  generalize bs ask = K at *
  clear h ha hT
  obtain ⟨a0, c0, rfl, hc0, hr0⟩ := hv
  clear hr0
  go_enter Tryd.func12, Tryd.ntmps12
  go_wp2_with fail
  refine H1.out.mono ?_
  rintro e w1 ⟨rfl, rfl⟩
  go_wp2_with fail
  refine (H2.out w1).mono ?_
  rintro e w2 ⟨ad, cap, rfl, ho2, hb2⟩
  have HB2 := Hid.mk' hb2
  have hs2 := HB2.out.size
  have HP := Hid.mk' (H4.out w2 ad cap HB2.out ho2)
  clear hb2 H2 ho2 H4
  go_wp2_with fail
  refine HP.out.mono ?_
  rintro e w3 ⟨ad3, cap3, P, rfl, ho3, hw3, hp3, hb3⟩
  have HB3 := Hid.mk' hb3
  have hs3 := HB3.out.size
  have HW := Hid.mk' (H3.out w3 ad3 cap3 P ho3 hw3 hp3)
  clear hb3 ho3 hw3 HP H3 HB2
  generalize P.length = N at *
  go_wp2_with fail
  refine HW.out.mono ?_
  rintro e w4 ⟨rfl, hb4⟩
  have HB4 := Hid.mk' (HB3.out.trans (hb4.mono hs3))
  clear hb4 HW
  go_wp2
  go_ret2
  exact ⟨rfl, HB4.out⟩

set_option maxHeartbeats 8000000 in
set_option maxRecDepth 100000 in
theorem Answer_some_no (w : World) (v : Value) (l : List Vr) (ask : List UInt8) (hv : RdV w v l) (hn : l.length ≤ 17592186044416) (hz : ask.length + 1 ≤ 9223372036854775807) (m : List Vr) (h : wantedT ask = (m, 0)) (hm : m ≠ []) (hm20 : m.length ≤ 20) (r : Int) (hT : writeT (pickT l m) = ([], r)) (hr : (r == 0) = false) :
    Calls Tryd.prog 12 #[v, .string (bs (1 :: ask))] w fun e w' => e = .returned (.tuple #[.string (bs (answerT l (1 :: ask)).1), .int .i64 (answerT l (1 :: ask)).2]) ∧ Below w.heap.size w w' := by
  have H1 := Hid.mk' (CutPrefix_one (1 :: ask) w (by simpa using hz))
  have H2 : Hid (∀ W, _) := fun W => Wanted_any ask W (by omega)
  rw [h] at H2
  dsimp only at H2
  have ha : answerT l (1 :: ask) = ([], r) := by
    rw [answerT_one, h]
    simp only [if_true]
    rw [toldT, if_neg hm]
    exact sayT_no hT hr
  rw [ha]
  dsimp only
  rw [show cutP (1 :: ask) = (bs ask, true) from rfl] at H1
  have H3 : Hid (∀ W ad cap P, OwnV W w.heap.size ad cap P → writeT P = writeT (pickT l m) → P.length ≤ 17592186044416 → Calls Tryd.prog 5 #[.slice ad P.length cap] W fun e w' => e = .returned (.tuple #[.string ⟨#[]⟩, .int .i64 r]) ∧ Below W.heap.size W w') := fun W ad cap P h1 h2 h3 => by
    have := Write_any W _ P h1.rd h3
    rw [h2, hT] at this
    exact this
  have H4 : Hid (∀ W ad cap, Below w.heap.size w W → OwnV W w.heap.size ad cap m → Calls Tryd.prog 21 #[v, .slice ad m.length cap] W fun e w' => ∃ ad cap P, e = .returned (.slice ad P.length cap) ∧ OwnV w' w.heap.size ad cap P ∧ writeT P = writeT (pickT l m) ∧ P.length ≤ 17592186044416 ∧ Below w.heap.size w w') := fun W ad cap h1 h2 => by
    refine (pick_any W v _ l m (hv.below h1 (Nat.le_refl _)) h2.rd hn hm20).mono ?_
    rintro e w' ⟨ad', cap', P, rfl, q1, q2, q4, q3⟩
    exact ⟨ad', cap', P, rfl, OwnR.low q1 h1.size, q2, by omega, h1.trans (q3.mono h1.size)⟩
  have hml : (0 : Int) < (m.length : Int) := by
    cases m with
    | nil => exact absurd rfl hm
    | cons a t => simp only [List.length_cons]; omega
  generalize bs (1 :: ask) = D at *
  generalize bs ask = K at *
  clear h ha hT
  obtain ⟨a0, c0, rfl, hc0, hr0⟩ := hv
  clear hr0
  go_enter Tryd.func12, Tryd.ntmps12
  go_wp2_with fail
  refine H1.out.mono ?_
  rintro e w1 ⟨rfl, rfl⟩
  go_wp2_with fail
  refine (H2.out w1).mono ?_
  rintro e w2 ⟨ad, cap, rfl, ho2, hb2⟩
  have HB2 := Hid.mk' hb2
  have hs2 := HB2.out.size
  have HP := Hid.mk' (H4.out w2 ad cap HB2.out ho2)
  clear hb2 H2 ho2 H4
  go_wp2_with fail
  refine HP.out.mono ?_
  rintro e w3 ⟨ad3, cap3, P, rfl, ho3, hw3, hp3, hb3⟩
  have HB3 := Hid.mk' hb3
  have hs3 := HB3.out.size
  have HW := Hid.mk' (H3.out w3 ad3 cap3 P ho3 hw3 hp3)
  clear hb3 ho3 hw3 HP H3 HB2
  generalize P.length = N at *
  go_wp2_with fail
  refine HW.out.mono ?_
  rintro e w4 ⟨rfl, hb4⟩
  have HB4 := Hid.mk' (HB3.out.trans (hb4.mono hs3))
  clear hb4 HW
  go_wp2
  go_ret2
  exact ⟨rfl, HB4.out⟩

theorem Answer_any (w : World) (v : Value) (l : List Vr) (d : List UInt8) (hv : RdV w v l) (hn : l.length ≤ 17592186044416) (hz : d.length ≤ 9223372036854775807) :
    Calls Tryd.prog 12 #[v, .string (bs d)] w fun e w' => e = .returned (.tuple #[.string (bs (answerT l d).1), .int .i64 (answerT l d).2]) ∧ Below w.heap.size w w' := by
  match d, hz with
  | [], hz => exact Answer_form w v l [] hz rfl rfl
  | b :: ask, hz =>
    by_cases hb : b.toNat = 1
    · obtain rfl : b = 1 := UInt8.toNat_inj.1 hb
      rw [List.length_cons] at hz
      rcases wanted_cases ask with ⟨r, h, hr⟩ | ⟨m, h, _, hm20⟩
      · exact Answer_want w v l ask hz r h hr
      · by_cases hm : m = []
        · subst hm
          rcases write_cases l with ⟨T, hT, hTl⟩ | ⟨r, hT, hr⟩
          · exact Answer_all_ok w v l ask hv hn hz h T hT hTl
          · exact Answer_all_no w v l ask hv hn hz h r hT hr
        · rcases write_cases (pickT l m) with ⟨T, hT, hTl⟩ | ⟨r, hT, hr⟩
          · exact Answer_some_ok w v l ask hv hn hz m h hm hm20 T hT hTl
          · exact Answer_some_no w v l ask hv hn hz m h hm hm20 r hT hr
    · exact Answer_form w v l (b :: ask) hz (by rw [cutP, if_neg (by intro e; subst e; exact hb rfl)]) (by rw [answerT, if_neg hb])
end Go.Proofs.YtbfiompbngpjoaaDoor.E
