/-
  The walk of farkeep.ArgsJoins: it returns true; condition: texts of at most 2^60 bytes.
-/
import Derived.Test.YtjkhebmemfdijaaZApp
namespace Go.Proofs.Ytjkhebmemfdijaa.Z
open Go.RowKit Go.Lib Go.Proofs.Ytjkhebmemfdijaa Go.Proofs.Ytjkhebmemfdijaa.W Go.Proofs.Ytjkhebmemfdijaa.Q Go.Proofs.Ytjkhebmemfdijaa.C

theorem RdI.front {w : World} {ad : Option Addr} {n c : Nat} {l : List Int} (h : RdI w (.slice ad n c) l) (k : Nat) (hk : k ≤ l.length) : RdI w (.slice ad k c) (l.take k) := by
  obtain ⟨a', c', e, hc, hr⟩ := h
  simp only [Value.slice.injEq] at e
  obtain ⟨rfl, rfl, rfl⟩ := e
  refine ⟨ad, c, by rw [List.length_take, Nat.min_eq_left hk], by rw [List.length_take]; omega, ?_⟩
  rcases hr with h0 | ⟨b, off, rfl, ht, hb⟩
  · subst h0; exact .inl (List.take_nil)
  · refine .inr ⟨b, off, rfl, fun j hj => ?_, hb⟩
    rw [List.length_take] at hj
    rw [ht j (by omega), List.getElem_take]
theorem readT_two (s : List UInt8) : (readT s).2 = 0 ∧ okS s = true ∧ (readT s).1 = rd s (-1) [] ∨ (readT s).2 = 4 ∧ okS s = false := by
  unfold readT
  cases h : okS s with
  | true => left; rw [if_pos rfl]; exact ⟨rfl, rfl, rfl⟩
  | false => right; rw [if_neg (by decide)]; exact ⟨rfl, rfl⟩

set_option maxHeartbeats 8000000 in
theorem ArgsJoins_any (a b : List UInt8) (w : World) (ha : a.length ≤ 1152921504606846976) (hb : b.length ≤ 1152921504606846976) :
    Calls Try.prog 3 #[.string (bs a), .string (bs b)] w fun e w' => e = .returned (.bool true) ∧ Below w.heap.size w w' := by
  have HA := Hid.mk' (fun W => Read_any a W (by omega))
  have HB := Hid.mk' (fun W => Read_any b W (by omega))
  have HC := Hid.mk' (fun W => Read_any (a ++ 59 :: b) W (by simp; omega))
  have HL := Hid.mk' lives_any
  have e1 : bs a ++ ⟨#[59]⟩ = bs (a ++ [59]) := bs_app a [59]
  have e2 : bs (a ++ [59]) ++ bs b = bs (a ++ 59 :: b) := by rw [bs_app]; simp
  have s1 := bs_size a
  have s2 := bs_size b
  have s3 := bs_size (a ++ [59])
  have s4 : (⟨#[59]⟩ : ByteArray).size = 1 := rfl
  rw [List.length_append, List.length_singleton] at s3
  have HT1 := readT_two a
  have HT2 := readT_two b
  have HT3 := readT_two (a ++ 59 :: b)
  have HT := Hid.mk' (And.intro HT1 (And.intro HT2 HT3))
  have HOK := Hid.mk' (okS_app a b)
  have HJ := Hid.mk' (rd_join a b)
  clear HT1 HT2 HT3
  have n1 : ¬ 9223372036854775807 < (bs a).size + (⟨#[59]⟩ : ByteArray).size := by omega
  have n2 : ¬ 9223372036854775807 < (bs (a ++ [59])).size + (bs b).size := by omega
  generalize bs (a ++ 59 :: b) = SC at *
  generalize bs (a ++ [59]) = SD at *
  generalize bs a = SA at *
  generalize bs b = SB at *
  go_enter Try.func3, Try.ntmps3
  go_wp2_with fail
  refine (HA.out _).mono ?_
  rintro e w1 ⟨v1, rfl, o1, b1⟩
  have O1 := Hid.mk' o1
  have B1 := Hid.mk' b1
  clear o1 b1
  go_wp2_with fail
  refine (HB.out _).mono ?_
  rintro e w2 ⟨v2, rfl, o2, b2⟩
  have O1 := Hid.mk' (O1.out.below b2)
  have O2 := Hid.mk' o2
  have B2 := Hid.mk' (B1.out.trans (Below.mono b2 B1.out.size))
  have z12 := b2.size
  clear o2 b2 B1
  go_wp2_with fail
  refine (HC.out _).mono ?_
  rintro e w3 ⟨v3, rfl, o3, b3⟩
  have O1 := Hid.mk' (O1.out.below b3)
  have O2 := Hid.mk' (O2.out.below b3)
  have O3 := Hid.mk' o3
  have B3 := Hid.mk' (B2.out.trans (Below.mono b3 B2.out.size))
  have z23 := b3.size
  clear o3 b3 B2 HA HB HC n1 n2 s1 s2 s3 s4 e1 e2
  have hbad : ((readT a).2 = 4 ∨ (readT a).2 = 0 ∧ (readT b).2 = 4) ∧ (readT (a ++ 59 :: b)).2 = 4 ∨ ((readT a).2 = 0 ∧ (readT b).2 = 0 ∧ (readT (a ++ 59 :: b)).2 = 0) ∧ (readT (a ++ 59 :: b)).1 = ((readT a).1 ++ (readT b).1).take 32 ∧ 1 ≤ (readT a).1.length ∧ (readT a).1.length ≤ 32 ∧ 1 ≤ (readT b).1.length ∧ (readT b).1.length ≤ 32 := by
    obtain ⟨h1, h2, h3⟩ := HT.out
    have hok := HOK.out
    rcases h1 with ⟨a1, a2, a3⟩ | ⟨a1, a2⟩
    · rcases h2 with ⟨c1, c2, c3⟩ | ⟨c1, c2⟩
      · rcases h3 with ⟨d1, d2, d3⟩ | ⟨d1, d2⟩
        · refine .inr ⟨⟨a1, c1, d1⟩, ?_, ?_⟩
          · rw [d3, a3, c3]; exact HJ.out
          · rw [a3, c3]; exact ⟨rd_pos a, rd_len a, rd_pos b, rd_len b⟩
        · rw [a2, c2, d2] at hok; cases hok
      · rcases h3 with ⟨d1, d2, d3⟩ | ⟨d1, d2⟩
        · rw [a2, c2, d2] at hok; cases hok
        · exact .inl ⟨.inr ⟨a1, c1⟩, d1⟩
    · rcases h3 with ⟨d1, d2, d3⟩ | ⟨d1, d2⟩
      · rw [a2, d2] at hok; cases hok
      · exact .inl ⟨.inl a1, d1⟩
  have HBAD := Hid.mk' hbad
  clear hbad HT HOK HJ
  generalize (readT a).2 = r1 at *
  generalize (readT b).2 = r2 at *
  generalize (readT (a ++ 59 :: b)).2 = r3 at *
  generalize (readT a).1 = L1 at *
  generalize (readT b).1 = L2 at *
  generalize (readT (a ++ 59 :: b)).1 = L3 at *
  rcases HBAD.out with ⟨hb1, rfl⟩ | ⟨⟨rfl, rfl, rfl⟩, rfl, h1, h2, h3, h4⟩
  · clear HBAD O1 O2 O3
    rcases hb1 with rfl | ⟨rfl, rfl⟩
    all_goals
      go_wp2_with fail
      refine (HL.out _).mono ?_
      rintro e w4 ⟨rfl, b4⟩
      have B4 := Hid.mk' (B3.out.trans (Below.mono b4 B3.out.size))
      clear b4
      go_wp2_with fail
      refine (HL.out _).mono ?_
      rintro e w5 ⟨rfl, b5⟩
      have B5 := Hid.mk' (B4.out.trans (Below.mono b5 B4.out.size))
      clear b5
      go_wp2
      go_ret
      exact ⟨rfl, B5.out⟩
  · clear HBAD
    obtain ⟨a1, c1, rfl⟩ := O1.out.form
    obtain ⟨a2, c2, rfl⟩ := O2.out.form
    have HCL := Hid.mk' (fun W v h => Clone_any W v L1 h (by omega))
    go_wp2_with fail
    refine (HL.out _).mono ?_
    rintro e w4 ⟨rfl, b4⟩
    have B4 := Hid.mk' (B3.out.trans (Below.mono b4 B3.out.size))
    have O1 := Hid.mk' (O1.out.below b4)
    have O2 := Hid.mk' (O2.out.below b4)
    have O3 := Hid.mk' (O3.out.below b4)
    clear b4
    go_wp2_with fail
    refine (HCL.out _ _ (RdI.own O1.out)).mono ?_
    rintro e w5 ⟨ad, cap, n, rfl, hn, o5, b5⟩
    have B5 := Hid.mk' (B4.out.trans (Below.mono b5 B4.out.size))
    have O2 := Hid.mk' (O2.out.below b5)
    have R3 := Hid.mk' (RdI.own O3.out)
    have B45 := Hid.mk' b5
    have O5 := Hid.mk' o5
    have z45 := b5.size
    clear b5 o5 O1
    go_wp2_with (at_builtin; refine wpList_append_n (by rfl) _ _ rfl w4.heap.size ad n cap L1 rfl O5.out _ _ _ L2 rfl (RdI.own O2.out) (by omega) z45 ?_)
    intro al n2 cl w6 hn2 o6 hb6
    have hn2 := hn2.out
    have R3 := Hid.mk' (R3.out.below (hb6 _ _ (Nat.le_refl _) B45.out))
    have B6 := Hid.mk' (hb6 _ _ B4.out.size B5.out)
    have hr := RdI.own o6.out
    have hc : n2 ≤ cl := by
      obtain ⟨a', c', e, hc, _⟩ := hr
      simp only [Value.slice.injEq] at e
      obtain ⟨_, e1, e2⟩ := e
      omega
    have hl4 : (L1 ++ L2).length = n2 := by rw [List.length_append, hn2]
    clear hb6 o6 O5 O2 B5 B45 O3 z45 hn HCL
    by_cases hm : n2 ≤ 32
    · have HE := Hid.mk' (Equal_same w6 v3 (.slice al n2 cl) ((L1 ++ L2).take 32) R3.out (by have := hr.front n2 (by omega); rw [List.take_of_length_le (by omega)] at this ⊢; exact this) (by rw [List.length_take]; omega))
      have hm1 : (n2 : Int) ≤ 32 := by omega
      clear hr R3 hn2 hl4
      go_wp2_with fail
      refine HE.out.mono ?_
      rintro e w7 ⟨rfl, q, rfl⟩
      have B7 := Hid.mk' (below_drewN B6.out q)
      go_wp2
      go_ret
      exact ⟨rfl, B7.out⟩
    · have HE := Hid.mk' (Equal_same w6 v3 (.slice al 32 cl) ((L1 ++ L2).take 32) R3.out (hr.front 32 (by omega)) (by rw [List.length_take]; omega))
      have hm1 : ¬ (n2 : Int) ≤ 32 := by omega
      have hm2 : (32 : Int) ≤ (n2 : Int) := by omega
      have hm3 : (32 : Int) ≤ (cl : Int) := by omega
      have hm4 : 32 ≤ cl := by omega
      clear hr R3 hn2 hl4
      go_wp2_with fail
      refine HE.out.mono ?_
      rintro e w7 ⟨rfl, q, rfl⟩
      have B7 := Hid.mk' (below_drewN B6.out q)
      go_wp2
      go_ret
      exact ⟨rfl, B7.out⟩
end Go.Proofs.Ytjkhebmemfdijaa.Z
