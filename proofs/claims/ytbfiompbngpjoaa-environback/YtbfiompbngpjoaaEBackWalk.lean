/-
  The walk of farkeep.EnvironBack: it returns true; condition: at most 2^44 variables.
-/
import Derived.Test.YtbfiompbngpjoaaELives
namespace Go.Proofs.Ytbfiompbngpjoaa.E
open Go.RowKit Go.Lib Go.Proofs.Ytbfiompbngpjoaa Go.Proofs.Ytbfiompbngpjoaa.W Go.Proofs.Ytbfiompbngpjoaa.Q Go.Proofs.Ytbfiompbngpjoaa.C

theorem code_cases (l : List Vr) : chk l = 0 ∨ ∃ r : Int, chk l = r ∧ (r == 0) = false := by
  rcases chk_range l with h | h | h
  · exact .inl h
  · exact .inr ⟨2, h, by decide⟩
  · exact .inr ⟨4, h, by decide⟩
theorem read_cases (s : List UInt8) : (∃ r : Int, readT s = ([], r) ∧ (r == 0) = false) ∨ ∃ l, readT s = (l, 0) ∧ s = txt l ∧ chk l = 0 ∧ s.length ≤ 4096 := by
  rcases readT_cases s with ⟨h, _⟩ | h | h
  · exact .inl ⟨2, h, by decide⟩
  · exact .inl ⟨4, h, by decide⟩
  · exact .inr h

set_option maxHeartbeats 8000000 in
set_option maxRecDepth 100000 in
theorem Back_err_err (w : World) (v : Value) (l : List Vr) (s : List UInt8) (hv : RdV w v l) (hn : l.length ≤ 17592186044416) (hz : s.length ≤ 9223372036854775807) (r : Int) (h : chk l = r) (hr : (r == 0) = false) (r2 : Int) (h2 : readT s = ([], r2)) (hr2 : (r2 == 0) = false) :
    Calls Try.prog 3 #[v, .string (bs s)] w fun e w' => e = .returned (.bool true) ∧ Below w.heap.size w w' := by
  have H1 := Hid.mk' (Write_any w v l hv hn)
  rw [writeT_no (by intro e; rw [e] at h; subst h; cases hr), h] at H1
  dsimp only at H1
  have H2 : Hid (∀ W, _) := fun W => Read_any s W hz
  rw [h2] at H2
  have HL := Hid.mk' lives_any
  obtain ⟨a0, c0, rfl, hc0, hr0⟩ := hv
  clear hr0
  generalize bs (txt l) = T at *
  generalize bs s = S at *
  go_enter Try.func3, Try.ntmps3
  go_wp2_with fail
  refine H1.out.mono ?_
  rintro e w1 ⟨rfl, hb1⟩
  have HB1 := Hid.mk' hb1
  have hs1 := HB1.out.size
  clear hb1 H1
  go_wp2_with fail
  refine (H2.out _).mono ?_
  rintro e w4 ⟨ad4, cap4, rfl, _, hb4⟩
  have HB4 := Hid.mk' (HB1.out.trans (hb4.mono hs1))
  have hs4 := HB4.out.size
  clear hb4 HB1 H2
  go_wp2_with fail
  refine (HL.out w4).mono ?_
  rintro e w5 ⟨rfl, hb5⟩
  have HB5 := Hid.mk' (HB4.out.trans (hb5.mono hs4))
  have hs5 := HB5.out.size
  clear hb5 HB4
  go_wp2_with fail
  refine (HL.out w5).mono ?_
  rintro e w6 ⟨rfl, hb6⟩
  have HB6 := Hid.mk' (HB5.out.trans (hb6.mono hs5))
  clear hb6 HB5
  go_wp2
  go_ret
  exact ⟨rfl, HB6.out⟩

set_option maxHeartbeats 8000000 in
set_option maxRecDepth 100000 in
theorem Back_err_ok (w : World) (v : Value) (l : List Vr) (s : List UInt8) (hv : RdV w v l) (hn : l.length ≤ 17592186044416) (hz : s.length ≤ 9223372036854775807) (r : Int) (h : chk l = r) (hr : (r == 0) = false) (m : List Vr) (h2 : readT s = (m, 0)) (hs : s = txt m) (hc : chk m = 0) :
    Calls Try.prog 3 #[v, .string (bs s)] w fun e w' => e = .returned (.bool true) ∧ Below w.heap.size w w' := by
  have H1 := Hid.mk' (Write_any w v l hv hn)
  rw [writeT_no (by intro e; rw [e] at h; subst h; cases hr), h] at H1
  dsimp only at H1
  have H2 : Hid (∀ W, _) := fun W => Read_any s W hz
  rw [h2] at H2
  have hm20 := (chk_zero hc).1
  have H3 : Hid (∀ W ad cap, OwnV W w.heap.size ad cap m → Calls Try.prog 7 #[.slice ad m.length cap] W fun e w' => e = .returned (.tuple #[.string (bs s), .int .i64 0]) ∧ Below W.heap.size W w') := fun W ad cap h => by
    have := Write_any W _ m h.rd (by omega)
    rw [writeT_ok hc, ← hs] at this
    exact this
  have HL := Hid.mk' lives_any
  obtain ⟨a0, c0, rfl, hc0, hr0⟩ := hv
  clear hr0
  generalize bs (txt l) = T at *
  generalize bs s = S at *
  go_enter Try.func3, Try.ntmps3
  go_wp2_with fail
  refine H1.out.mono ?_
  rintro e w1 ⟨rfl, hb1⟩
  have HB1 := Hid.mk' hb1
  have hs1 := HB1.out.size
  clear hb1 H1
  go_wp2_with fail
  refine (H2.out _).mono ?_
  rintro e w4 ⟨ad4, cap4, rfl, ho4, hb4⟩
  have HB4 := Hid.mk' (HB1.out.trans (hb4.mono hs1))
  have hs4 := HB4.out.size
  have HO4 := Hid.mk' (OwnR.low ho4 hs1)
  clear hb4 HB1 H2 ho4
  go_wp2_with fail
  refine (HL.out w4).mono ?_
  rintro e w5 ⟨rfl, hb5⟩
  have HB5 := Hid.mk' (HB4.out.trans (hb5.mono hs4))
  have hs5 := HB5.out.size
  have HW5 := Hid.mk' (H3.out w5 ad4 cap4 (OwnV.below HO4.out hb5))
  clear hb5 HB4 HO4 H3
  go_wp2_with fail
  refine HW5.out.mono ?_
  rintro e w6 ⟨rfl, hb6⟩
  have HB6 := Hid.mk' (HB5.out.trans (hb6.mono hs5))
  clear hb6 HB5 HW5
  go_wp2
  go_ret
  exact ⟨rfl, HB6.out⟩

set_option maxHeartbeats 8000000 in
set_option maxRecDepth 100000 in
theorem Back_big_err (w : World) (v : Value) (l : List Vr) (s : List UInt8) (hv : RdV w v l) (hn : l.length ≤ 17592186044416) (hz : s.length ≤ 9223372036854775807) (h : chk l = 0) (hb : 4096 < (txt l).length) (r2 : Int) (h2 : readT s = ([], r2)) (hr2 : (r2 == 0) = false) :
    Calls Try.prog 3 #[v, .string (bs s)] w fun e w' => e = .returned (.bool true) ∧ Below w.heap.size w w' := by
  have H1 := Hid.mk' (Write_any w v l hv hn)
  rw [writeT_ok h] at H1
  dsimp only at H1
  have hbz : ¬ ((bs (txt l)).size : Int) ≤ 4096 := by rw [bs_size]; omega
  have H2 : Hid (∀ W, _) := fun W => Read_any s W hz
  rw [h2] at H2
  have HL := Hid.mk' lives_any
  obtain ⟨a0, c0, rfl, hc0, hr0⟩ := hv
  clear hr0
  generalize bs (txt l) = T at *
  generalize bs s = S at *
  go_enter Try.func3, Try.ntmps3
  go_wp2_with fail
  refine H1.out.mono ?_
  rintro e w1 ⟨rfl, hb1⟩
  have HB1 := Hid.mk' hb1
  have hs1 := HB1.out.size
  clear hb1 H1
  go_wp2_with fail
  refine (H2.out _).mono ?_
  rintro e w4 ⟨ad4, cap4, rfl, _, hb4⟩
  have HB4 := Hid.mk' (HB1.out.trans (hb4.mono hs1))
  have hs4 := HB4.out.size
  clear hb4 HB1 H2
  go_wp2_with fail
  refine (HL.out w4).mono ?_
  rintro e w5 ⟨rfl, hb5⟩
  have HB5 := Hid.mk' (HB4.out.trans (hb5.mono hs4))
  have hs5 := HB5.out.size
  clear hb5 HB4
  go_wp2_with fail
  refine (HL.out w5).mono ?_
  rintro e w6 ⟨rfl, hb6⟩
  have HB6 := Hid.mk' (HB5.out.trans (hb6.mono hs5))
  clear hb6 HB5
  go_wp2
  go_ret
  exact ⟨rfl, HB6.out⟩

set_option maxHeartbeats 8000000 in
set_option maxRecDepth 100000 in
theorem Back_big_ok (w : World) (v : Value) (l : List Vr) (s : List UInt8) (hv : RdV w v l) (hn : l.length ≤ 17592186044416) (hz : s.length ≤ 9223372036854775807) (h : chk l = 0) (hb : 4096 < (txt l).length) (m : List Vr) (h2 : readT s = (m, 0)) (hs : s = txt m) (hc : chk m = 0) :
    Calls Try.prog 3 #[v, .string (bs s)] w fun e w' => e = .returned (.bool true) ∧ Below w.heap.size w w' := by
  have H1 := Hid.mk' (Write_any w v l hv hn)
  rw [writeT_ok h] at H1
  dsimp only at H1
  have hbz : ¬ ((bs (txt l)).size : Int) ≤ 4096 := by rw [bs_size]; omega
  have H2 : Hid (∀ W, _) := fun W => Read_any s W hz
  rw [h2] at H2
  have hm20 := (chk_zero hc).1
  have H3 : Hid (∀ W ad cap, OwnV W w.heap.size ad cap m → Calls Try.prog 7 #[.slice ad m.length cap] W fun e w' => e = .returned (.tuple #[.string (bs s), .int .i64 0]) ∧ Below W.heap.size W w') := fun W ad cap h => by
    have := Write_any W _ m h.rd (by omega)
    rw [writeT_ok hc, ← hs] at this
    exact this
  have HL := Hid.mk' lives_any
  obtain ⟨a0, c0, rfl, hc0, hr0⟩ := hv
  clear hr0
  generalize bs (txt l) = T at *
  generalize bs s = S at *
  go_enter Try.func3, Try.ntmps3
  go_wp2_with fail
  refine H1.out.mono ?_
  rintro e w1 ⟨rfl, hb1⟩
  have HB1 := Hid.mk' hb1
  have hs1 := HB1.out.size
  clear hb1 H1
  go_wp2_with fail
  refine (H2.out _).mono ?_
  rintro e w4 ⟨ad4, cap4, rfl, ho4, hb4⟩
  have HB4 := Hid.mk' (HB1.out.trans (hb4.mono hs1))
  have hs4 := HB4.out.size
  have HO4 := Hid.mk' (OwnR.low ho4 hs1)
  clear hb4 HB1 H2 ho4
  go_wp2_with fail
  refine (HL.out w4).mono ?_
  rintro e w5 ⟨rfl, hb5⟩
  have HB5 := Hid.mk' (HB4.out.trans (hb5.mono hs4))
  have hs5 := HB5.out.size
  have HW5 := Hid.mk' (H3.out w5 ad4 cap4 (OwnV.below HO4.out hb5))
  clear hb5 HB4 HO4 H3
  go_wp2_with fail
  refine HW5.out.mono ?_
  rintro e w6 ⟨rfl, hb6⟩
  have HB6 := Hid.mk' (HB5.out.trans (hb6.mono hs5))
  clear hb6 HB5 HW5
  go_wp2
  go_ret
  exact ⟨rfl, HB6.out⟩

set_option maxHeartbeats 8000000 in
set_option maxRecDepth 100000 in
theorem Back_ok_err (w : World) (v : Value) (l : List Vr) (s : List UInt8) (hv : RdV w v l) (hn : l.length ≤ 17592186044416) (hz : s.length ≤ 9223372036854775807) (h : chk l = 0) (hb : (txt l).length ≤ 4096) (r2 : Int) (h2 : readT s = ([], r2)) (hr2 : (r2 == 0) = false) :
    Calls Try.prog 3 #[v, .string (bs s)] w fun e w' => e = .returned (.bool true) ∧ Below w.heap.size w w' := by
  have H1 := Hid.mk' (Write_any w v l hv hn)
  rw [writeT_ok h] at H1
  dsimp only at H1
  have hbz : ((bs (txt l)).size : Int) ≤ 4096 := by rw [bs_size]; omega
  have HR0 : Hid (∀ W, _) := fun W => Read_any (txt l) W (by omega)
  rw [readT_txt h hb] at HR0
  have HE0 : Hid (∀ W ad cap, Below w.heap.size w W → OwnV W w.heap.size ad cap l → Calls Try.prog 9 #[.slice ad l.length cap, v] W fun e w' => e = .returned (.bool true) ∧ ∃ q, w' = W.drewN q) := fun W ad cap h1 h2 => by
    have := Equal_any W _ v l l h2.rd (hv.below h1 (Nat.le_refl _)) hn
    rw [eqs_self] at this
    exact this
  have H2 : Hid (∀ W, _) := fun W => Read_any s W hz
  rw [h2] at H2
  have HL := Hid.mk' lives_any
  obtain ⟨a0, c0, rfl, hc0, hr0⟩ := hv
  clear hr0
  generalize bs (txt l) = T at *
  generalize bs s = S at *
  go_enter Try.func3, Try.ntmps3
  go_wp2_with fail
  refine H1.out.mono ?_
  rintro e w1 ⟨rfl, hb1⟩
  have HB1 := Hid.mk' hb1
  have hs1 := HB1.out.size
  clear hb1 H1
  go_wp2_with fail
  refine (HR0.out w1).mono ?_
  rintro e w2 ⟨ad, cap, rfl, ho2, hb2⟩
  have HB2 := Hid.mk' (HB1.out.trans (hb2.mono hs1))
  have HE1 := Hid.mk' (HE0.out w2 ad cap HB2.out (OwnR.low ho2 hs1))
  clear ho2 hb2 HB1 HE0 HR0
  go_wp2_with fail
  refine HE1.out.mono ?_
  rintro e w3 ⟨rfl, q, hw3⟩
  have HB3 : Hid (Below w.heap.size w w3) := by rw [hw3]; exact below_drewN HB2.out q
  have hs1 := HB3.out.size
  clear hw3 HE1 HB2
  go_wp2_with fail
  refine (H2.out _).mono ?_
  rintro e w4 ⟨ad4, cap4, rfl, _, hb4⟩
  have HB4 := Hid.mk' (HB3.out.trans (hb4.mono hs1))
  have hs4 := HB4.out.size
  clear hb4 HB3 H2
  go_wp2_with fail
  refine (HL.out w4).mono ?_
  rintro e w5 ⟨rfl, hb5⟩
  have HB5 := Hid.mk' (HB4.out.trans (hb5.mono hs4))
  have hs5 := HB5.out.size
  clear hb5 HB4
  go_wp2_with fail
  refine (HL.out w5).mono ?_
  rintro e w6 ⟨rfl, hb6⟩
  have HB6 := Hid.mk' (HB5.out.trans (hb6.mono hs5))
  clear hb6 HB5
  go_wp2
  go_ret
  exact ⟨rfl, HB6.out⟩

set_option maxHeartbeats 8000000 in
set_option maxRecDepth 100000 in
theorem Back_ok_ok (w : World) (v : Value) (l : List Vr) (s : List UInt8) (hv : RdV w v l) (hn : l.length ≤ 17592186044416) (hz : s.length ≤ 9223372036854775807) (h : chk l = 0) (hb : (txt l).length ≤ 4096) (m : List Vr) (h2 : readT s = (m, 0)) (hs : s = txt m) (hc : chk m = 0) :
    Calls Try.prog 3 #[v, .string (bs s)] w fun e w' => e = .returned (.bool true) ∧ Below w.heap.size w w' := by
  have H1 := Hid.mk' (Write_any w v l hv hn)
  rw [writeT_ok h] at H1
  dsimp only at H1
  have hbz : ((bs (txt l)).size : Int) ≤ 4096 := by rw [bs_size]; omega
  have HR0 : Hid (∀ W, _) := fun W => Read_any (txt l) W (by omega)
  rw [readT_txt h hb] at HR0
  have HE0 : Hid (∀ W ad cap, Below w.heap.size w W → OwnV W w.heap.size ad cap l → Calls Try.prog 9 #[.slice ad l.length cap, v] W fun e w' => e = .returned (.bool true) ∧ ∃ q, w' = W.drewN q) := fun W ad cap h1 h2 => by
    have := Equal_any W _ v l l h2.rd (hv.below h1 (Nat.le_refl _)) hn
    rw [eqs_self] at this
    exact this
  have H2 : Hid (∀ W, _) := fun W => Read_any s W hz
  rw [h2] at H2
  have hm20 := (chk_zero hc).1
  have H3 : Hid (∀ W ad cap, OwnV W w.heap.size ad cap m → Calls Try.prog 7 #[.slice ad m.length cap] W fun e w' => e = .returned (.tuple #[.string (bs s), .int .i64 0]) ∧ Below W.heap.size W w') := fun W ad cap h => by
    have := Write_any W _ m h.rd (by omega)
    rw [writeT_ok hc, ← hs] at this
    exact this
  have HL := Hid.mk' lives_any
  obtain ⟨a0, c0, rfl, hc0, hr0⟩ := hv
  clear hr0
  generalize bs (txt l) = T at *
  generalize bs s = S at *
  go_enter Try.func3, Try.ntmps3
  go_wp2_with fail
  refine H1.out.mono ?_
  rintro e w1 ⟨rfl, hb1⟩
  have HB1 := Hid.mk' hb1
  have hs1 := HB1.out.size
  clear hb1 H1
  go_wp2_with fail
  refine (HR0.out w1).mono ?_
  rintro e w2 ⟨ad, cap, rfl, ho2, hb2⟩
  have HB2 := Hid.mk' (HB1.out.trans (hb2.mono hs1))
  have HE1 := Hid.mk' (HE0.out w2 ad cap HB2.out (OwnR.low ho2 hs1))
  clear ho2 hb2 HB1 HE0 HR0
  go_wp2_with fail
  refine HE1.out.mono ?_
  rintro e w3 ⟨rfl, q, hw3⟩
  have HB3 : Hid (Below w.heap.size w w3) := by rw [hw3]; exact below_drewN HB2.out q
  have hs1 := HB3.out.size
  clear hw3 HE1 HB2
  go_wp2_with fail
  refine (H2.out _).mono ?_
  rintro e w4 ⟨ad4, cap4, rfl, ho4, hb4⟩
  have HB4 := Hid.mk' (HB3.out.trans (hb4.mono hs1))
  have hs4 := HB4.out.size
  have HO4 := Hid.mk' (OwnR.low ho4 hs1)
  clear hb4 HB3 H2 ho4
  go_wp2_with fail
  refine (HL.out w4).mono ?_
  rintro e w5 ⟨rfl, hb5⟩
  have HB5 := Hid.mk' (HB4.out.trans (hb5.mono hs4))
  have hs5 := HB5.out.size
  have HW5 := Hid.mk' (H3.out w5 ad4 cap4 (OwnV.below HO4.out hb5))
  clear hb5 HB4 HO4 H3
  go_wp2_with fail
  refine HW5.out.mono ?_
  rintro e w6 ⟨rfl, hb6⟩
  have HB6 := Hid.mk' (HB5.out.trans (hb6.mono hs5))
  clear hb6 HB5 HW5
  go_wp2
  go_ret
  exact ⟨rfl, HB6.out⟩

theorem EnvironBack_any (w : World) (v : Value) (l : List Vr) (s : List UInt8) (hv : RdV w v l) (hn : l.length ≤ 17592186044416) (hz : s.length ≤ 9223372036854775807) :
    Calls Try.prog 3 #[v, .string (bs s)] w fun e w' => e = .returned (.bool true) ∧ Below w.heap.size w w' := by
  rcases read_cases s with ⟨r2, h2, hr2⟩ | ⟨m, h2, hs, hc, _⟩
  · rcases code_cases l with h | ⟨r, h, hr⟩
    · by_cases hb : 4096 < (txt l).length
      · exact Back_big_err w v l s hv hn hz h hb r2 h2 hr2
      · exact Back_ok_err w v l s hv hn hz h (by omega) r2 h2 hr2
    · exact Back_err_err w v l s hv hn hz r h hr r2 h2 hr2
  · rcases code_cases l with h | ⟨r, h, hr⟩
    · by_cases hb : 4096 < (txt l).length
      · exact Back_big_ok w v l s hv hn hz h hb m h2 hs hc
      · exact Back_ok_ok w v l s hv hn hz h (by omega) m h2 hs hc
    · exact Back_err_ok w v l s hv hn hz r h hr m h2 hs hc
end Go.Proofs.Ytbfiompbngpjoaa.E
