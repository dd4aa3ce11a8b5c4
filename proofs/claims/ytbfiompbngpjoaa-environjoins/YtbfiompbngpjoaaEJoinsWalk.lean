/-
  The walk of farkeep.EnvironJoins: it returns true; no condition but that an int tells the lengths.
-/
import Derived.Test.YtbfiompbngpjoaaELives
namespace Go.Proofs.Ytbfiompbngpjoaa.E
open Go.RowKit Go.Lib Go.Proofs.Ytbfiompbngpjoaa Go.Proofs.Ytbfiompbngpjoaa.W Go.Proofs.Ytbfiompbngpjoaa.Q Go.Proofs.Ytbfiompbngpjoaa.C

theorem read_code (s : List UInt8) : ∃ l r, readT s = (l, r) ∧ l.length ≤ 20 ∧ ((r = 2 ∨ r = 4) ∨ (r = 0 ∧ s = txt l ∧ chk l = 0)) := by
  rcases readT_cases s with ⟨h, _⟩ | h | ⟨l, h, h1, h2, _⟩
  · exact ⟨[], 2, h, by simp, .inl (.inl rfl)⟩
  · exact ⟨[], 4, h, by simp, .inl (.inr rfl)⟩
  · exact ⟨l, 0, h, (chk_zero h2).1, .inr ⟨rfl, h1, h2⟩⟩
theorem chk_join {l m : List Vr} (h1 : chk l = 0) (h2 : chk m = 0) (hn : l.length + m.length ≤ 20) : chk (l ++ m) = 0 := by
  obtain ⟨_, a1, a2⟩ := chk_zero h1
  obtain ⟨_, b1, b2⟩ := chk_zero h2
  refine chk_ok (by rw [List.length_append]; omega) (fun x hx => ?_) (fun x hx => ?_)
  · rcases List.mem_append.1 hx with h | h
    · exact a1 x h
    · exact b1 x h
  · rcases List.mem_append.1 hx with h | h
    · exact a2 x h
    · exact b2 x h

set_option maxHeartbeats 8000000 in
set_option maxRecDepth 100000 in
theorem Joins_a2 (w : World) (a b : List UInt8) (ha : a.length ≤ 140737488355328) (hb : b.length ≤ 140737488355328) (l m n : List Vr) (r1 r2 r3 : Int) (e1 : readT a = (l, r1)) (e2 : readT b = (m, r2)) (e3 : readT (a ++ b) = (n, r3)) (hl : l.length ≤ 20) (hm : m.length ≤ 20) (h1 : r1 = 2) :
    Calls Try.prog 4 #[.string (bs a), .string (bs b)] w fun e w' => e = .returned (.bool true) ∧ Below w.heap.size w w' := by
  have hsmall := And.intro hl hm
  have H1 : Hid (∀ W, _) := fun W => Read_any a W (by omega)
  have H2 : Hid (∀ W, _) := fun W => Read_any b W (by omega)
  have H3 : Hid (∀ W, _) := fun W => Read_any (a ++ b) W (by rw [List.length_append]; omega)
  rw [e1] at H1
  rw [e2] at H2
  rw [e3] at H3
  have HL := Hid.mk' lives_any
  have hab : bs a ++ bs b = bs (a ++ b) := bs_app a b
  have hza := bs_size a
  have hzb := bs_size b
  subst h1
  generalize bs (a ++ b) = T at *
  generalize bs a = A at *
  generalize bs b = B at *
  generalize a.length = na at *
  generalize b.length = nb at *
  go_enter Try.func4, Try.ntmps4
  go_wp2_with fail
  refine (H1.out w).mono ?_
  rintro e w1 ⟨ad1, cap1, rfl, ho1, hb1⟩
  have HB1 := Hid.mk' hb1
  have hs1 := HB1.out.size
  have HO1 := Hid.mk' ho1
  clear hb1 ho1 H1
  go_wp2_with fail
  refine (H2.out w1).mono ?_
  rintro e w2 ⟨ad2, cap2, rfl, ho2, hb2⟩
  have HB2 := Hid.mk' (HB1.out.trans (hb2.mono hs1))
  have hs2 := HB2.out.size
  have HO12 := Hid.mk' (HO1.out.below hb2)
  have HO2 := Hid.mk' (OwnR.low ho2 hs1)
  clear hb2 ho2 H2 HO1 HB1
  go_wp2_with fail
  refine (H3.out w2).mono ?_
  rintro e w3 ⟨ad3, cap3, rfl, ho3, hb3⟩
  have HB3 := Hid.mk' (HB2.out.trans (hb3.mono hs2))
  have hs3 := HB3.out.size
  have HO13 := Hid.mk' (HO12.out.below hb3)
  have HO23 := Hid.mk' (OwnV.below HO2.out hb3)
  have HO3 := Hid.mk' (OwnR.low ho3 hs2)
  clear hb3 ho3 H3 HO12 HO2 HB2
  go_wp2_with fail
  refine (HL.out w3).mono ?_
  rintro e w4 ⟨rfl, hb4⟩
  have HB4 := Hid.mk' (HB3.out.trans (hb4.mono hs3))
  have hs4 := HB4.out.size
  clear hb4 HO13 HO23 HO3 HB3
  go_wp2_with fail
  refine (HL.out w4).mono ?_
  rintro e w5 ⟨rfl, hb5⟩
  have HB5 := Hid.mk' (HB4.out.trans (hb5.mono hs4))
  clear hb5 HB4
  go_wp2
  go_ret
  exact ⟨rfl, HB5.out⟩

set_option maxHeartbeats 8000000 in
set_option maxRecDepth 100000 in
theorem Joins_b2 (w : World) (a b : List UInt8) (ha : a.length ≤ 140737488355328) (hb : b.length ≤ 140737488355328) (l m n : List Vr) (r1 r2 r3 : Int) (e1 : readT a = (l, r1)) (e2 : readT b = (m, r2)) (e3 : readT (a ++ b) = (n, r3)) (hl : l.length ≤ 20) (hm : m.length ≤ 20) (h1 : r1 = 0) (h2 : r2 = 2) :
    Calls Try.prog 4 #[.string (bs a), .string (bs b)] w fun e w' => e = .returned (.bool true) ∧ Below w.heap.size w w' := by
  have hsmall := And.intro hl hm
  have H1 : Hid (∀ W, _) := fun W => Read_any a W (by omega)
  have H2 : Hid (∀ W, _) := fun W => Read_any b W (by omega)
  have H3 : Hid (∀ W, _) := fun W => Read_any (a ++ b) W (by rw [List.length_append]; omega)
  rw [e1] at H1
  rw [e2] at H2
  rw [e3] at H3
  have HL := Hid.mk' lives_any
  have hab : bs a ++ bs b = bs (a ++ b) := bs_app a b
  have hza := bs_size a
  have hzb := bs_size b
  subst h1
  subst h2
  generalize bs (a ++ b) = T at *
  generalize bs a = A at *
  generalize bs b = B at *
  generalize a.length = na at *
  generalize b.length = nb at *
  go_enter Try.func4, Try.ntmps4
  go_wp2_with fail
  refine (H1.out w).mono ?_
  rintro e w1 ⟨ad1, cap1, rfl, ho1, hb1⟩
  have HB1 := Hid.mk' hb1
  have hs1 := HB1.out.size
  have HO1 := Hid.mk' ho1
  clear hb1 ho1 H1
  go_wp2_with fail
  refine (H2.out w1).mono ?_
  rintro e w2 ⟨ad2, cap2, rfl, ho2, hb2⟩
  have HB2 := Hid.mk' (HB1.out.trans (hb2.mono hs1))
  have hs2 := HB2.out.size
  have HO12 := Hid.mk' (HO1.out.below hb2)
  have HO2 := Hid.mk' (OwnR.low ho2 hs1)
  clear hb2 ho2 H2 HO1 HB1
  go_wp2_with fail
  refine (H3.out w2).mono ?_
  rintro e w3 ⟨ad3, cap3, rfl, ho3, hb3⟩
  have HB3 := Hid.mk' (HB2.out.trans (hb3.mono hs2))
  have hs3 := HB3.out.size
  have HO13 := Hid.mk' (HO12.out.below hb3)
  have HO23 := Hid.mk' (OwnV.below HO2.out hb3)
  have HO3 := Hid.mk' (OwnR.low ho3 hs2)
  clear hb3 ho3 H3 HO12 HO2 HB2
  go_wp2_with fail
  refine (HL.out w3).mono ?_
  rintro e w4 ⟨rfl, hb4⟩
  have HB4 := Hid.mk' (HB3.out.trans (hb4.mono hs3))
  have hs4 := HB4.out.size
  clear hb4 HO13 HO23 HO3 HB3
  go_wp2_with fail
  refine (HL.out w4).mono ?_
  rintro e w5 ⟨rfl, hb5⟩
  have HB5 := Hid.mk' (HB4.out.trans (hb5.mono hs4))
  clear hb5 HB4
  go_wp2
  go_ret
  exact ⟨rfl, HB5.out⟩

set_option maxHeartbeats 8000000 in
set_option maxRecDepth 100000 in
theorem Joins_a4 (w : World) (a b : List UInt8) (ha : a.length ≤ 140737488355328) (hb : b.length ≤ 140737488355328) (l m n : List Vr) (r1 r2 r3 : Int) (e1 : readT a = (l, r1)) (e2 : readT b = (m, r2)) (e3 : readT (a ++ b) = (n, r3)) (hl : l.length ≤ 20) (hm : m.length ≤ 20) (h1 : r1 = 4) :
    Calls Try.prog 4 #[.string (bs a), .string (bs b)] w fun e w' => e = .returned (.bool true) ∧ Below w.heap.size w w' := by
  have hsmall := And.intro hl hm
  have H1 : Hid (∀ W, _) := fun W => Read_any a W (by omega)
  have H2 : Hid (∀ W, _) := fun W => Read_any b W (by omega)
  have H3 : Hid (∀ W, _) := fun W => Read_any (a ++ b) W (by rw [List.length_append]; omega)
  rw [e1] at H1
  rw [e2] at H2
  rw [e3] at H3
  have HL := Hid.mk' lives_any
  have hab : bs a ++ bs b = bs (a ++ b) := bs_app a b
  have hza := bs_size a
  have hzb := bs_size b
  subst h1
  generalize bs (a ++ b) = T at *
  generalize bs a = A at *
  generalize bs b = B at *
  generalize a.length = na at *
  generalize b.length = nb at *
  go_enter Try.func4, Try.ntmps4
  go_wp2_with fail
  refine (H1.out w).mono ?_
  rintro e w1 ⟨ad1, cap1, rfl, ho1, hb1⟩
  have HB1 := Hid.mk' hb1
  have hs1 := HB1.out.size
  have HO1 := Hid.mk' ho1
  clear hb1 ho1 H1
  go_wp2_with fail
  refine (H2.out w1).mono ?_
  rintro e w2 ⟨ad2, cap2, rfl, ho2, hb2⟩
  have HB2 := Hid.mk' (HB1.out.trans (hb2.mono hs1))
  have hs2 := HB2.out.size
  have HO12 := Hid.mk' (HO1.out.below hb2)
  have HO2 := Hid.mk' (OwnR.low ho2 hs1)
  clear hb2 ho2 H2 HO1 HB1
  go_wp2_with fail
  refine (H3.out w2).mono ?_
  rintro e w3 ⟨ad3, cap3, rfl, ho3, hb3⟩
  have HB3 := Hid.mk' (HB2.out.trans (hb3.mono hs2))
  have hs3 := HB3.out.size
  have HO13 := Hid.mk' (HO12.out.below hb3)
  have HO23 := Hid.mk' (OwnV.below HO2.out hb3)
  have HO3 := Hid.mk' (OwnR.low ho3 hs2)
  clear hb3 ho3 H3 HO12 HO2 HB2
  go_wp2_with fail
  refine (HL.out w3).mono ?_
  rintro e w4 ⟨rfl, hb4⟩
  have HB4 := Hid.mk' (HB3.out.trans (hb4.mono hs3))
  have hs4 := HB4.out.size
  clear hb4 HO13 HO23 HO3 HB3
  go_wp2_with fail
  refine (HL.out w4).mono ?_
  rintro e w5 ⟨rfl, hb5⟩
  have HB5 := Hid.mk' (HB4.out.trans (hb5.mono hs4))
  clear hb5 HB4
  go_wp2
  go_ret
  exact ⟨rfl, HB5.out⟩

set_option maxHeartbeats 8000000 in
set_option maxRecDepth 100000 in
theorem Joins_b4 (w : World) (a b : List UInt8) (ha : a.length ≤ 140737488355328) (hb : b.length ≤ 140737488355328) (l m n : List Vr) (r1 r2 r3 : Int) (e1 : readT a = (l, r1)) (e2 : readT b = (m, r2)) (e3 : readT (a ++ b) = (n, r3)) (hl : l.length ≤ 20) (hm : m.length ≤ 20) (h1 : r1 = 0) (h2 : r2 = 4) :
    Calls Try.prog 4 #[.string (bs a), .string (bs b)] w fun e w' => e = .returned (.bool true) ∧ Below w.heap.size w w' := by
  have hsmall := And.intro hl hm
  have H1 : Hid (∀ W, _) := fun W => Read_any a W (by omega)
  have H2 : Hid (∀ W, _) := fun W => Read_any b W (by omega)
  have H3 : Hid (∀ W, _) := fun W => Read_any (a ++ b) W (by rw [List.length_append]; omega)
  rw [e1] at H1
  rw [e2] at H2
  rw [e3] at H3
  have HL := Hid.mk' lives_any
  have hab : bs a ++ bs b = bs (a ++ b) := bs_app a b
  have hza := bs_size a
  have hzb := bs_size b
  subst h1
  subst h2
  generalize bs (a ++ b) = T at *
  generalize bs a = A at *
  generalize bs b = B at *
  generalize a.length = na at *
  generalize b.length = nb at *
  go_enter Try.func4, Try.ntmps4
  go_wp2_with fail
  refine (H1.out w).mono ?_
  rintro e w1 ⟨ad1, cap1, rfl, ho1, hb1⟩
  have HB1 := Hid.mk' hb1
  have hs1 := HB1.out.size
  have HO1 := Hid.mk' ho1
  clear hb1 ho1 H1
  go_wp2_with fail
  refine (H2.out w1).mono ?_
  rintro e w2 ⟨ad2, cap2, rfl, ho2, hb2⟩
  have HB2 := Hid.mk' (HB1.out.trans (hb2.mono hs1))
  have hs2 := HB2.out.size
  have HO12 := Hid.mk' (HO1.out.below hb2)
  have HO2 := Hid.mk' (OwnR.low ho2 hs1)
  clear hb2 ho2 H2 HO1 HB1
  go_wp2_with fail
  refine (H3.out w2).mono ?_
  rintro e w3 ⟨ad3, cap3, rfl, ho3, hb3⟩
  have HB3 := Hid.mk' (HB2.out.trans (hb3.mono hs2))
  have hs3 := HB3.out.size
  have HO13 := Hid.mk' (HO12.out.below hb3)
  have HO23 := Hid.mk' (OwnV.below HO2.out hb3)
  have HO3 := Hid.mk' (OwnR.low ho3 hs2)
  clear hb3 ho3 H3 HO12 HO2 HB2
  go_wp2_with fail
  refine (HL.out w3).mono ?_
  rintro e w4 ⟨rfl, hb4⟩
  have HB4 := Hid.mk' (HB3.out.trans (hb4.mono hs3))
  have hs4 := HB4.out.size
  clear hb4 HO13 HO23 HO3 HB3
  go_wp2_with fail
  refine (HL.out w4).mono ?_
  rintro e w5 ⟨rfl, hb5⟩
  have HB5 := Hid.mk' (HB4.out.trans (hb5.mono hs4))
  clear hb5 HB4
  go_wp2
  go_ret
  exact ⟨rfl, HB5.out⟩

set_option maxHeartbeats 8000000 in
set_option maxRecDepth 100000 in
theorem Joins_c (w : World) (a b : List UInt8) (ha : a.length ≤ 140737488355328) (hb : b.length ≤ 140737488355328) (l m n : List Vr) (r1 r2 r3 : Int) (e1 : readT a = (l, r1)) (e2 : readT b = (m, r2)) (e3 : readT (a ++ b) = (n, r3)) (hl : l.length ≤ 20) (hm : m.length ≤ 20) (h1 : r1 = 0) (h2 : r2 = 0) (h3 : 4096 < a.length + b.length) :
    Calls Try.prog 4 #[.string (bs a), .string (bs b)] w fun e w' => e = .returned (.bool true) ∧ Below w.heap.size w w' := by
  have hsmall := And.intro hl hm
  have H1 : Hid (∀ W, _) := fun W => Read_any a W (by omega)
  have H2 : Hid (∀ W, _) := fun W => Read_any b W (by omega)
  have H3 : Hid (∀ W, _) := fun W => Read_any (a ++ b) W (by rw [List.length_append]; omega)
  rw [e1] at H1
  rw [e2] at H2
  rw [e3] at H3
  have HL := Hid.mk' lives_any
  have hab : bs a ++ bs b = bs (a ++ b) := bs_app a b
  have hza := bs_size a
  have hzb := bs_size b
  subst h1
  subst h2
  have h3i : (4096 : Int) < (a.length : Int) + (b.length : Int) := by omega
  generalize bs (a ++ b) = T at *
  generalize bs a = A at *
  generalize bs b = B at *
  generalize a.length = na at *
  generalize b.length = nb at *
  go_enter Try.func4, Try.ntmps4
  go_wp2_with fail
  refine (H1.out w).mono ?_
  rintro e w1 ⟨ad1, cap1, rfl, ho1, hb1⟩
  have HB1 := Hid.mk' hb1
  have hs1 := HB1.out.size
  have HO1 := Hid.mk' ho1
  clear hb1 ho1 H1
  go_wp2_with fail
  refine (H2.out w1).mono ?_
  rintro e w2 ⟨ad2, cap2, rfl, ho2, hb2⟩
  have HB2 := Hid.mk' (HB1.out.trans (hb2.mono hs1))
  have hs2 := HB2.out.size
  have HO12 := Hid.mk' (HO1.out.below hb2)
  have HO2 := Hid.mk' (OwnR.low ho2 hs1)
  clear hb2 ho2 H2 HO1 HB1
  go_wp2_with fail
  refine (H3.out w2).mono ?_
  rintro e w3 ⟨ad3, cap3, rfl, ho3, hb3⟩
  have HB3 := Hid.mk' (HB2.out.trans (hb3.mono hs2))
  have hs3 := HB3.out.size
  have HO13 := Hid.mk' (HO12.out.below hb3)
  have HO23 := Hid.mk' (OwnV.below HO2.out hb3)
  have HO3 := Hid.mk' (OwnR.low ho3 hs2)
  clear hb3 ho3 H3 HO12 HO2 HB2
  go_wp2_with fail
  refine (HL.out w3).mono ?_
  rintro e w4 ⟨rfl, hb4⟩
  have HB4 := Hid.mk' (HB3.out.trans (hb4.mono hs3))
  have hs4 := HB4.out.size
  clear hb4 HO13 HO23 HO3 HB3
  go_wp2_with fail
  refine (HL.out w4).mono ?_
  rintro e w5 ⟨rfl, hb5⟩
  have HB5 := Hid.mk' (HB4.out.trans (hb5.mono hs4))
  clear hb5 HB4
  go_wp2
  go_ret
  exact ⟨rfl, HB5.out⟩

set_option maxHeartbeats 8000000 in
set_option maxRecDepth 100000 in
theorem Joins_d (w : World) (a b : List UInt8) (ha : a.length ≤ 140737488355328) (hb : b.length ≤ 140737488355328) (l m n : List Vr) (r1 r2 r3 : Int) (e1 : readT a = (l, r1)) (e2 : readT b = (m, r2)) (e3 : readT (a ++ b) = (n, r3)) (hl : l.length ≤ 20) (hm : m.length ≤ 20) (h1 : r1 = 0) (h2 : r2 = 0) (h3 : ¬ 4096 < a.length + b.length) (h4 : 20 < l.length + m.length) :
    Calls Try.prog 4 #[.string (bs a), .string (bs b)] w fun e w' => e = .returned (.bool true) ∧ Below w.heap.size w w' := by
  have hsmall := And.intro hl hm
  have H1 : Hid (∀ W, _) := fun W => Read_any a W (by omega)
  have H2 : Hid (∀ W, _) := fun W => Read_any b W (by omega)
  have H3 : Hid (∀ W, _) := fun W => Read_any (a ++ b) W (by rw [List.length_append]; omega)
  rw [e1] at H1
  rw [e2] at H2
  rw [e3] at H3
  have HL := Hid.mk' lives_any
  have hab : bs a ++ bs b = bs (a ++ b) := bs_app a b
  have hza := bs_size a
  have hzb := bs_size b
  subst h1
  subst h2
  have h3i : ¬ (4096 : Int) < (a.length : Int) + (b.length : Int) := by omega
  have h4i : (20 : Int) < (l.length : Int) + (m.length : Int) := by omega
  generalize bs (a ++ b) = T at *
  generalize bs a = A at *
  generalize bs b = B at *
  generalize a.length = na at *
  generalize b.length = nb at *
  go_enter Try.func4, Try.ntmps4
  go_wp2_with fail
  refine (H1.out w).mono ?_
  rintro e w1 ⟨ad1, cap1, rfl, ho1, hb1⟩
  have HB1 := Hid.mk' hb1
  have hs1 := HB1.out.size
  have HO1 := Hid.mk' ho1
  clear hb1 ho1 H1
  go_wp2_with fail
  refine (H2.out w1).mono ?_
  rintro e w2 ⟨ad2, cap2, rfl, ho2, hb2⟩
  have HB2 := Hid.mk' (HB1.out.trans (hb2.mono hs1))
  have hs2 := HB2.out.size
  have HO12 := Hid.mk' (HO1.out.below hb2)
  have HO2 := Hid.mk' (OwnR.low ho2 hs1)
  clear hb2 ho2 H2 HO1 HB1
  go_wp2_with fail
  refine (H3.out w2).mono ?_
  rintro e w3 ⟨ad3, cap3, rfl, ho3, hb3⟩
  have HB3 := Hid.mk' (HB2.out.trans (hb3.mono hs2))
  have hs3 := HB3.out.size
  have HO13 := Hid.mk' (HO12.out.below hb3)
  have HO23 := Hid.mk' (OwnV.below HO2.out hb3)
  have HO3 := Hid.mk' (OwnR.low ho3 hs2)
  clear hb3 ho3 H3 HO12 HO2 HB2
  go_wp2_with fail
  refine (HL.out w3).mono ?_
  rintro e w4 ⟨rfl, hb4⟩
  have HB4 := Hid.mk' (HB3.out.trans (hb4.mono hs3))
  have hs4 := HB4.out.size
  clear hb4 HO13 HO23 HO3 HB3
  go_wp2_with fail
  refine (HL.out w4).mono ?_
  rintro e w5 ⟨rfl, hb5⟩
  have HB5 := Hid.mk' (HB4.out.trans (hb5.mono hs4))
  clear hb5 HB4
  go_wp2
  go_ret
  exact ⟨rfl, HB5.out⟩

set_option maxHeartbeats 8000000 in
set_option maxRecDepth 100000 in
theorem Joins_ok (w : World) (a b : List UInt8) (ha : a.length ≤ 140737488355328) (hb : b.length ≤ 140737488355328) (l m n : List Vr) (r1 r2 r3 : Int) (e1 : readT a = (l, r1)) (e2 : readT b = (m, r2)) (e3 : readT (a ++ b) = (n, r3)) (hl : l.length ≤ 20) (hm : m.length ≤ 20) (h1 : r1 = 0) (h2 : r2 = 0) (h3 : ¬ 4096 < a.length + b.length) (h4 : ¬ 20 < l.length + m.length) (h5 : r3 = 0) (h6 : n = l ++ m) :
    Calls Try.prog 4 #[.string (bs a), .string (bs b)] w fun e w' => e = .returned (.bool true) ∧ Below w.heap.size w w' := by
  have hsmall := And.intro hl hm
  have H1 : Hid (∀ W, _) := fun W => Read_any a W (by omega)
  have H2 : Hid (∀ W, _) := fun W => Read_any b W (by omega)
  have H3 : Hid (∀ W, _) := fun W => Read_any (a ++ b) W (by rw [List.length_append]; omega)
  rw [e1] at H1
  rw [e2] at H2
  rw [e3] at H3
  have HL := Hid.mk' lives_any
  have hab : bs a ++ bs b = bs (a ++ b) := bs_app a b
  have hza := bs_size a
  have hzb := bs_size b
  subst h1
  subst h2
  subst h5
  have HN : Hid (n = l ++ m) := h6
  clear h6
  have h3i : ¬ (4096 : Int) < (a.length : Int) + (b.length : Int) := by omega
  have h4i : ¬ (20 : Int) < (l.length : Int) + (m.length : Int) := by omega
  generalize bs (a ++ b) = T at *
  generalize bs a = A at *
  generalize bs b = B at *
  generalize a.length = na at *
  generalize b.length = nb at *
  go_enter Try.func4, Try.ntmps4
  go_wp2_with fail
  refine (H1.out w).mono ?_
  rintro e w1 ⟨ad1, cap1, rfl, ho1, hb1⟩
  have HB1 := Hid.mk' hb1
  have hs1 := HB1.out.size
  have HO1 := Hid.mk' ho1
  clear hb1 ho1 H1
  go_wp2_with fail
  refine (H2.out w1).mono ?_
  rintro e w2 ⟨ad2, cap2, rfl, ho2, hb2⟩
  have HB2 := Hid.mk' (HB1.out.trans (hb2.mono hs1))
  have hs2 := HB2.out.size
  have HO12 := Hid.mk' (HO1.out.below hb2)
  have HO2 := Hid.mk' (OwnR.low ho2 hs1)
  clear hb2 ho2 H2 HO1 HB1
  go_wp2_with fail
  refine (H3.out w2).mono ?_
  rintro e w3 ⟨ad3, cap3, rfl, ho3, hb3⟩
  have HB3 := Hid.mk' (HB2.out.trans (hb3.mono hs2))
  have hs3 := HB3.out.size
  have HO13 := Hid.mk' (HO12.out.below hb3)
  have HO23 := Hid.mk' (OwnV.below HO2.out hb3)
  have HO3 := Hid.mk' (OwnR.low ho3 hs2)
  clear hb3 ho3 H3 HO12 HO2 HB2
  go_wp2_with fail
  refine (HL.out w3).mono ?_
  rintro e w4 ⟨rfl, hb4⟩
  have HB4 := Hid.mk' (HB3.out.trans (hb4.mono hs3))
  have hs4 := HB4.out.size
  have HR1 := Hid.mk' (HO13.out.below hb4).rd
  have HR2 := Hid.mk' (OwnV.below HO23.out hb4).rd
  have HR3 := Hid.mk' (OwnV.below HO3.out hb4).rd
  have HC := Hid.mk' (Clone_any w4 _ l HR1.out (by omega))
  clear hb4 HO13 HO23 HO3 HB3
  go_wp2_with fail
  refine HC.out.mono ?_
  rintro e w5 ⟨ad5, cap5, rfl, ho5, hb5⟩
  have HB5 := Hid.mk' (HB4.out.trans (hb5.mono hs4))
  have HO5 := Hid.mk' ho5
  have hs5 := HB5.out.size
  have HR25 := Hid.mk' (HR2.out.later hb5)
  have HR34 : Hid (∀ W, (∀ B X, B ≤ w4.heap.size → Below B X w5 → Below B X W) → RdV W (.slice ad3 n.length cap3) n) := fun W h => HR3.out.later (h _ _ (Nat.le_refl _) hb5)
  have HA5 := Hid.mk' hb5
  clear hb5 ho5 HC HR1 HR2 HR3
  have hbw : w4.heap.size ≤ w5.heap.size := HA5.out.size
  have HEQ : Hid (∀ W ad cap l', l' = l ++ m → OwnV W w4.heap.size ad cap l' → RdV W (.slice ad3 n.length cap3) n → Calls Try.prog 9 #[.slice ad3 n.length cap3, .slice ad l'.length cap] W fun e w' => e = .returned (.bool true) ∧ ∃ q, w' = W.drewN q) := fun W ad cap l' h1 h2 h3 => by
    have e : l' = n := h1.trans HN.out.symm
    have hl : n.length ≤ 40 := by rw [HN.out, List.length_append]; omega
    subst e
    have := Equal_any W _ _ l' l' h3 h2.rd (by omega)
    rw [eqs_self] at this
    exact this
  have hlm : (l.length + m.length) * 40 ≤ 140737488355328 := by omega
  clear HA5
  go_wp2_with (at_builtin; refine wpList_append_vars _ (by rfl) _ _ rfl w4.heap.size ad5 cap5 l m _ rfl rfl HO5.out _ rfl HR25.out hbw hlm ?_)
  intro ad6 cap6 l6 w6 hl6 ho6 hb6
  have HB6 := Hid.mk' (hb6 _ _ hs4 HB5.out)
  have hq6 := hb6 _ _ (Nat.le_refl _) (Below.refl w4.heap.size w5)
  have HE6 := Hid.mk' (HEQ.out w6 ad6 cap6 l6 hl6.out ho6 (HR34.out w6 hb6))
  clear ho6 hb6 HEQ HR34 HR25 HB5 HO5 hq6 hl6
  generalize l6.length = N6 at *
  go_wp2_with fail
  refine HE6.out.mono ?_
  rintro e w7 ⟨rfl, q, hw7⟩
  have HB7 : Hid (Below w.heap.size w w7) := by rw [hw7]; exact below_drewN HB6.out q
  clear hw7 HE6 HB6
  go_wp2
  go_ret
  exact ⟨rfl, HB7.out⟩

theorem EnvironJoins_any (w : World) (a b : List UInt8) (ha : a.length ≤ 140737488355328) (hb : b.length ≤ 140737488355328) :
    Calls Try.prog 4 #[.string (bs a), .string (bs b)] w fun e w' => e = .returned (.bool true) ∧ Below w.heap.size w w' := by
  obtain ⟨l, r1, e1, hl, h1⟩ := read_code a
  obtain ⟨m, r2, e2, hm, h2⟩ := read_code b
  obtain ⟨n, r3, e3, _, _⟩ := read_code (a ++ b)
  rcases h1 with (h1 | h1) | ⟨h1, t1, c1⟩
  · exact Joins_a2 w a b ha hb l m n r1 r2 r3 e1 e2 e3 hl hm h1
  · exact Joins_a4 w a b ha hb l m n r1 r2 r3 e1 e2 e3 hl hm h1
  rcases h2 with (h2 | h2) | ⟨h2, t2, c2⟩
  · exact Joins_b2 w a b ha hb l m n r1 r2 r3 e1 e2 e3 hl hm h1 h2
  · exact Joins_b4 w a b ha hb l m n r1 r2 r3 e1 e2 e3 hl hm h1 h2
  by_cases h3 : 4096 < a.length + b.length
  · exact Joins_c w a b ha hb l m n r1 r2 r3 e1 e2 e3 hl hm h1 h2 h3
  by_cases h4 : 20 < l.length + m.length
  · exact Joins_d w a b ha hb l m n r1 r2 r3 e1 e2 e3 hl hm h1 h2 h3 h4
  have hc := chk_join c1 c2 (by omega)
  have ht : a ++ b = txt (l ++ m) := by rw [txt_app, ← t1, ← t2]
  have e4 := readT_txt hc (by rw [← ht, List.length_append]; omega)
  rw [← ht, e3] at e4
  simp only [Prod.mk.injEq] at e4
  exact Joins_ok w a b ha hb l m n r1 r2 r3 e1 e2 e3 hl hm h1 h2 h3 h4 e4.2 e4.1
end Go.Proofs.Ytbfiompbngpjoaa.E
