/-
  The walk of farkeep.ChoiceSame: it returns true; conditions: at most 2^44 names, no text longer than an int tells.
-/
import Derived.Test.YtckgkncahaicoaaCLaw
import Derived.Test.YtckgkncahaicoaaCLives
namespace Go.Proofs.Ytckgkncahaicoaa.C
open Go.RowKit Go.Lib Go.Proofs.Ytckgkncahaicoaa Go.Proofs.Ytckgkncahaicoaa.W Go.Proofs.Ytckgkncahaicoaa.Q

set_option maxHeartbeats 4000000 in
set_option maxRecDepth 100000 in
theorem ChoiceSame_any (v : Value) (may : List ByteArray) (D : ByteArray) (b : Bool) (w : World) (hv : RdS w v may) (hn : may.length ≤ 17592186044416) (hz : ∀ k (h : k < may.length), (may[k]).size ≤ 9223372036854775807) (hd : D.size ≤ 9223372036854775807) :
    Calls Try.prog 6 #[v, .string D, .bool b] w fun e w' => e = .returned (.bool true) ∧ Below w.heap.size w w' := by
  obtain ⟨d, rfl⟩ : ∃ d, D = bs d := ⟨D.data.toList, (bs_data D).symm⟩
  rw [bs_size] at hd
  have HA : Hid (∀ W, Below w.heap.size w W → ∀ x : List UInt8, x.length = d.length → Calls Try.prog 11 #[v, .string (bs x)] W fun e w' => e = .returned (.tuple #[.string (ansT may x).1, .string (ansT may x).2.1, .int .i64 (ansT may x).2.2]) ∧ Below W.heap.size W w') := fun W hW x hx => Answer_any W v may x (hv.below hW) hn hz (by omega)
  have HL := Hid.mk' lives_any
  have H1 := Hid.mk' (HA.out w (Below.refl _ _) d rfl)
  by_cases hs : d.length < 2
  · have hsz : (bs d).size = d.length := bs_size d
    have hs' : (d.length : Int) < 2 := by omega
    obtain ⟨va, vc, rfl, _, _⟩ := hv
    generalize ansT may d = R at *
    obtain ⟨r1, r2, r3⟩ := R
    generalize bs d = D at *
    clear HA
    go_enter Try.func6, Try.ntmps6
    go_wp2_with fail
    refine H1.out.mono ?_
    rintro e w1 ⟨rfl, hb1⟩
    have HB1 := Hid.mk' hb1
    have hs1 := hb1.size
    clear hb1
    go_wp2_with fail
    refine (HL.out w1).mono ?_
    rintro e w2 ⟨rfl, hb2⟩
    have HB2 : Hid (Below w.heap.size w w2) := HB1.out.trans (hb2.mono hs1)
    have hs2 := HB2.out.size
    clear hb2
    go_wp2_with fail
    refine (HL.out w2).mono ?_
    rintro e w3 ⟨rfl, hb3⟩
    have HB3 : Hid (Below w.heap.size w w3) := HB2.out.trans (hb3.mono hs2)
    clear hb3
    go_wp2
    go_ret
    exact ⟨rfl, HB3.out⟩
  obtain ⟨a, c, s, rfl⟩ : ∃ a c s, d = a :: c :: s := by
    match d, hs with
    | [], h => simp at h
    | [x], h => simp at h
    | a :: c :: s, _ => exact ⟨a, c, s, rfl⟩
  have hsz : (bs (a :: c :: s)).size = s.length + 2 := by rw [bs_size]; rfl
  have hg1 : ∀ h : 1 < (bs (a :: c :: s)).size, (bs (a :: c :: s))[1]'h = c := fun _ => rfl
  have hd2 : s.length + 2 ≤ 9223372036854775807 := by simpa using hd
  clear hs
  by_cases hc : c.toNat < 65
  · have hc' : ¬ (65 : Int) ≤ (c.toNat : Int) := by omega
    have HU : Hid (∀ W, Calls Try.prog 14 #[.string (bs (a :: c :: s))] W fun e w' => e = .returned (.string (bs ((a :: c :: s).map cap))) ∧ Below W.heap.size W w') := fun W => upper_any _ W hd
    have HA2 : Hid (∀ W, Below w.heap.size w W → Calls Try.prog 11 #[v, .string (bs ((a :: c :: s).map cap))] W fun e w' => e = .returned (.tuple #[.string (up (ansT may (a :: c :: s)).1), .string (ansT may (a :: c :: s)).2.1, .int .i64 (ansT may (a :: c :: s)).2.2]) ∧ Below W.heap.size W w') := fun W hW => by
      have := HA.out W hW ((a :: c :: s).map cap) (by simp)
      rw [ansT_up may hc] at this
      exact this
    have HT : Hid (∀ W, Below w.heap.size w W → Calls Try.prog 9 #[v, .string (ansT may (a :: c :: s)).1] W fun e w' => e = .returned (.tuple #[.string (toldT may (ansT may (a :: c :: s)).1.data.toList).1, .int .i64 (toldT may (ansT may (a :: c :: s)).1.data.toList).2]) ∧ ∃ n, w' = W.drewN n) := fun W hW => by
      have h41 := ansT_size may (a :: c :: s)
      have := Told_any W v may (ansT may (a :: c :: s)).1.data.toList (hv.below hW) hn hz (by rw [← size_data]; omega)
      rw [bs_data] at this
      exact this
    have HUP : Hid (∀ W, Calls Try.prog 14 #[.string (ansT may (a :: c :: s)).1] W fun e w' => e = .returned (.string (up (ansT may (a :: c :: s)).1)) ∧ Below W.heap.size W w') := fun W => upper_S _ W (by have := ansT_size may (a :: c :: s); omega)
    have hee := ansT_errs may (a :: c :: s)
    have htl := ansT_told may (a :: c :: s)
    have hte := toldT_errs may (ansT may (a :: c :: s)).1.data.toList
    obtain ⟨va, vc, rfl, _, _⟩ := hv
    clear HA hz
    generalize toldT may (ansT may (a :: c :: s)).1.data.toList = G at *
    obtain ⟨g1, g2⟩ := G
    generalize ansT may (a :: c :: s) = R at *
    obtain ⟨r1, r2, r3⟩ := R
    generalize bs ((a :: c :: s).map cap) = X at *
    generalize bs (a :: c :: s) = D at *
    have hg1 := hg1 (by omega)
    simp only at hee htl hte
    dsimp only at H1 HA2 HT HUP
    generalize up r1 = U at *
    clear hd
    cases b with
    | true =>
      clear htl hte HT
      go_enter Try.func6, Try.ntmps6
      go_wp2_with fail
      refine H1.out.mono ?_
      rintro e w1 ⟨rfl, hb1⟩
      have HB1 := Hid.mk' hb1
      have hs1 := hb1.size
      clear hb1 H1
      go_wp2_with fail
      refine (HL.out w1).mono ?_
      rintro e w2 ⟨rfl, hb2⟩
      have HB2 : Hid (Below w.heap.size w w2) := HB1.out.trans (hb2.mono hs1)
      have hs2 := HB2.out.size
      clear hb2 HL
      go_wp2_with fail
      refine (HU.out w2).mono ?_
      rintro e w3 ⟨rfl, hb3⟩
      have HB3 : Hid (Below w.heap.size w w3) := HB2.out.trans (hb3.mono hs2)
      have hs3 := HB3.out.size
      clear hb3 HU
      go_wp2_with fail
      refine (HA2.out w3 HB3.out).mono ?_
      rintro e w4 ⟨rfl, hb4⟩
      have HB4 : Hid (Below w.heap.size w w4) := HB3.out.trans (hb4.mono hs3)
      have hs4 := HB4.out.size
      clear hb4 HA2
      go_wp2_with fail
      refine (HUP.out w4).mono ?_
      rintro e w5 ⟨rfl, hb5⟩
      have HB5 : Hid (Below w.heap.size w w5) := HB4.out.trans (hb5.mono hs4)
      clear hb5 HUP
      go_wp2
      go_ret
      exact ⟨rfl, HB5.out⟩
    | false =>
      have hcs : (r3 = 2 ∧ (g2 = 0 ∨ g2 = 4 ∨ g2 = 6)) ∨ (r3 = 4 ∧ (g2 = 0 ∨ g2 = 4 ∨ g2 = 6)) ∨ (r3 = 0 ∧ g2 = 0 ∧ 1 ≤ r2.size) ∨ (r3 = 0 ∧ g2 = 6 ∧ r2 = ⟨#[]⟩) := by
        rcases hee with h | h | h
        · rcases htl h with ⟨h1, h2⟩ | ⟨h1, h2⟩
          · exact .inr (.inr (.inl ⟨h, h1, h2⟩))
          · exact .inr (.inr (.inr ⟨h, h1, h2⟩))
        · exact .inl ⟨h, hte⟩
        · exact .inr (.inl ⟨h, hte⟩)
      clear hee htl hte HUP
      rcases hcs with ⟨rfl, hg⟩ | ⟨rfl, hg⟩ | ⟨rfl, rfl, h1⟩ | ⟨rfl, rfl, rfl⟩
      · clear hg
        go_enter Try.func6, Try.ntmps6
        go_wp2_with fail
        refine H1.out.mono ?_
        rintro e w1 ⟨rfl, hb1⟩
        have HB1 := Hid.mk' hb1
        have hs1 := hb1.size
        clear hb1 H1
        go_wp2_with fail
        refine (HL.out w1).mono ?_
        rintro e w2 ⟨rfl, hb2⟩
        have HB2 : Hid (Below w.heap.size w w2) := HB1.out.trans (hb2.mono hs1)
        have hs2 := HB2.out.size
        clear hb2 HL
        go_wp2_with fail
        refine (HU.out w2).mono ?_
        rintro e w3 ⟨rfl, hb3⟩
        have HB3 : Hid (Below w.heap.size w w3) := HB2.out.trans (hb3.mono hs2)
        have hs3 := HB3.out.size
        clear hb3 HU
        go_wp2_with fail
        refine (HA2.out w3 HB3.out).mono ?_
        rintro e w4 ⟨rfl, hb4⟩
        have HB4 : Hid (Below w.heap.size w w4) := HB3.out.trans (hb4.mono hs3)
        clear hb4 HA2
        go_wp2_with fail
        refine (HT.out w4 HB4.out).mono ?_
        rintro e w5 ⟨rfl, n, hw5⟩
        have HB5 : Hid (Below w.heap.size w w5) := by rw [hw5]; exact below_drewN HB4.out n
        clear hw5 HT
        go_wp2
        go_ret
        exact ⟨rfl, HB5.out⟩
      · clear hg
        go_enter Try.func6, Try.ntmps6
        go_wp2_with fail
        refine H1.out.mono ?_
        rintro e w1 ⟨rfl, hb1⟩
        have HB1 := Hid.mk' hb1
        have hs1 := hb1.size
        clear hb1 H1
        go_wp2_with fail
        refine (HL.out w1).mono ?_
        rintro e w2 ⟨rfl, hb2⟩
        have HB2 : Hid (Below w.heap.size w w2) := HB1.out.trans (hb2.mono hs1)
        have hs2 := HB2.out.size
        clear hb2 HL
        go_wp2_with fail
        refine (HU.out w2).mono ?_
        rintro e w3 ⟨rfl, hb3⟩
        have HB3 : Hid (Below w.heap.size w w3) := HB2.out.trans (hb3.mono hs2)
        have hs3 := HB3.out.size
        clear hb3 HU
        go_wp2_with fail
        refine (HA2.out w3 HB3.out).mono ?_
        rintro e w4 ⟨rfl, hb4⟩
        have HB4 : Hid (Below w.heap.size w w4) := HB3.out.trans (hb4.mono hs3)
        clear hb4 HA2
        go_wp2_with fail
        refine (HT.out w4 HB4.out).mono ?_
        rintro e w5 ⟨rfl, n, hw5⟩
        have HB5 : Hid (Below w.heap.size w w5) := by rw [hw5]; exact below_drewN HB4.out n
        clear hw5 HT
        go_wp2
        go_ret
        exact ⟨rfl, HB5.out⟩
      · have hq1 : (r2.toList == []) = false := by
          rw [ByteArray.toList_eq]
          apply beq_false_of_ne
          intro e
          rw [size_data, e] at h1
          simp at h1
        have hq2 : r2.toList.isEmpty = false := by
          rw [ByteArray.toList_eq]
          cases e : r2.data.toList with
          | nil => rw [size_data, e] at h1; simp at h1
          | cons x y => rfl
        go_enter Try.func6, Try.ntmps6
        go_wp2_with fail
        refine H1.out.mono ?_
        rintro e w1 ⟨rfl, hb1⟩
        have HB1 := Hid.mk' hb1
        have hs1 := hb1.size
        clear hb1 H1
        go_wp2_with fail
        refine (HL.out w1).mono ?_
        rintro e w2 ⟨rfl, hb2⟩
        have HB2 : Hid (Below w.heap.size w w2) := HB1.out.trans (hb2.mono hs1)
        have hs2 := HB2.out.size
        clear hb2 HL
        go_wp2_with fail
        refine (HU.out w2).mono ?_
        rintro e w3 ⟨rfl, hb3⟩
        have HB3 : Hid (Below w.heap.size w w3) := HB2.out.trans (hb3.mono hs2)
        have hs3 := HB3.out.size
        clear hb3 HU
        go_wp2_with fail
        refine (HA2.out w3 HB3.out).mono ?_
        rintro e w4 ⟨rfl, hb4⟩
        have HB4 : Hid (Below w.heap.size w w4) := HB3.out.trans (hb4.mono hs3)
        clear hb4 HA2
        go_wp2_with fail
        refine (HT.out w4 HB4.out).mono ?_
        rintro e w5 ⟨rfl, n, hw5⟩
        have HB5 : Hid (Below w.heap.size w w5) := by rw [hw5]; exact below_drewN HB4.out n
        clear hw5 HT
        go_wp2
        go_ret
        exact ⟨rfl, HB5.out⟩
      · go_enter Try.func6, Try.ntmps6
        go_wp2_with fail
        refine H1.out.mono ?_
        rintro e w1 ⟨rfl, hb1⟩
        have HB1 := Hid.mk' hb1
        have hs1 := hb1.size
        clear hb1 H1
        go_wp2_with fail
        refine (HL.out w1).mono ?_
        rintro e w2 ⟨rfl, hb2⟩
        have HB2 : Hid (Below w.heap.size w w2) := HB1.out.trans (hb2.mono hs1)
        have hs2 := HB2.out.size
        clear hb2 HL
        go_wp2_with fail
        refine (HU.out w2).mono ?_
        rintro e w3 ⟨rfl, hb3⟩
        have HB3 : Hid (Below w.heap.size w w3) := HB2.out.trans (hb3.mono hs2)
        have hs3 := HB3.out.size
        clear hb3 HU
        go_wp2_with fail
        refine (HA2.out w3 HB3.out).mono ?_
        rintro e w4 ⟨rfl, hb4⟩
        have HB4 : Hid (Below w.heap.size w w4) := HB3.out.trans (hb4.mono hs3)
        clear hb4 HA2
        go_wp2_with fail
        refine (HT.out w4 HB4.out).mono ?_
        rintro e w5 ⟨rfl, n, hw5⟩
        have HB5 : Hid (Below w.heap.size w w5) := by rw [hw5]; exact below_drewN HB4.out n
        clear hw5 HT
        go_wp2
        go_ret
        exact ⟨rfl, HB5.out⟩
  · have hc' : (65 : Int) ≤ (c.toNat : Int) := by omega
    obtain ⟨va, vc, rfl, _, _⟩ := hv
    generalize ansT may (a :: c :: s) = R at *
    obtain ⟨r1, r2, r3⟩ := R
    generalize bs (a :: c :: s) = D at *
    have hg1 := hg1 (by omega)
    clear HA
    go_enter Try.func6, Try.ntmps6
    go_wp2_with fail
    refine H1.out.mono ?_
    rintro e w1 ⟨rfl, hb1⟩
    have HB1 := Hid.mk' hb1
    have hs1 := hb1.size
    clear hb1
    go_wp2_with fail
    refine (HL.out w1).mono ?_
    rintro e w2 ⟨rfl, hb2⟩
    have HB2 : Hid (Below w.heap.size w w2) := HB1.out.trans (hb2.mono hs1)
    have hs2 := HB2.out.size
    clear hb2
    go_wp2_with fail
    refine (HL.out w2).mono ?_
    rintro e w3 ⟨rfl, hb3⟩
    have HB3 : Hid (Below w.heap.size w w3) := HB2.out.trans (hb3.mono hs2)
    clear hb3
    go_wp2
    go_ret
    exact ⟨rfl, HB3.out⟩
end Go.Proofs.Ytckgkncahaicoaa.C
