/-
  Contract of environ.readWord; condition: a text of at most 10000000000 bytes.
-/
import Derived.Test.YtbfiompbngpjoaaDoorEWrite
namespace Go.Proofs.YtbfiompbngpjoaaDoor.E
open Go.RowKit Go.Lib Go.Proofs.YtbfiompbngpjoaaDoor Go.Proofs.YtbfiompbngpjoaaDoor.W Go.Proofs.YtbfiompbngpjoaaDoor.Q Go.Proofs.YtbfiompbngpjoaaDoor.C

/-- what readWord answers -/
def wordT (s : List UInt8) : ByteArray × ByteArray × Bool :=
  match word s with
  | none => (⟨#[]⟩, ⟨#[]⟩, false)
  | some (x, r) => (bs x, bs r, decide (x.length ≤ 200))
theorem wordT_none {s : List UInt8} (h : word s = none) : wordT s = (⟨#[]⟩, ⟨#[]⟩, false) := by unfold wordT; rw [h]
theorem wordT_some {s x r : List UInt8} (h : word s = some (x, r)) : wordT s = (bs x, bs r, decide (x.length ≤ 200)) := by unfold wordT; rw [h]
theorem own_slice {w : World} {base : Nat} {v : Value} {l : List UInt8} (h : OwnB w base v l) : ∃ ad cap, v = .slice ad l.length cap := by
  unfold OwnB at h
  rcases h.form with ⟨rfl, e⟩ | ⟨g, cap, rfl, _⟩
  · exact ⟨none, 0, by rw [e]⟩
  · exact ⟨_, _, rfl⟩

def RState (w : World) (s : List UInt8) (g : Nat) (s5 s6 : Value) (wr : World) : Prop :=
  ∃ (k n : Nat) (x : List UInt8) (ad : Option Addr) (cap : Nat), k ≤ s.length ∧ s.length - k ≤ g ∧ s6 = .int .i64 (k : Int) ∧ s5 = .slice ad n cap ∧ Hid (n = x.length) ∧ Hid (OwnB wr w.heap.size (.slice ad n cap) x) ∧ Hid (s.take k = esc x) ∧ Hid (Below w.heap.size w wr)
theorem word_at {s x : List UInt8} {k : Nat} (h : s.take k = esc x) : word s = (word (s.drop k)).map fun p => (x ++ p.1, p.2) := by
  conv => lhs; rw [← List.take_append_drop k s, h]
  exact word_esc x _
theorem word_end {s x : List UInt8} {k : Nat} (h : s.take k = esc x) (hs : stops (s.drop k) = true) : word s = some (x, s.drop k) := by
  rw [word_at h, word_stop hs]
  simp
theorem drop_cons {s : List UInt8} {k : Nat} (h : k < s.length) : s.drop k = s[k] :: s.drop (k + 1) := by simp
theorem len_of {s x : List UInt8} {k : Nat} (h : s.take k = esc x) : x.length ≤ s.length := by
  have h1 := esc_ge x
  rw [← h, List.length_take] at h1
  omega

set_option maxHeartbeats 8000000 in
set_option maxRecDepth 100000 in
theorem readWord_any (s : List UInt8) (w : World) (hz : s.length ≤ 10000000000) :
    Calls Tryd.prog 25 #[.string (bs s)] w fun e w' => e = .returned (.tuple #[.string (wordT s).1, .string (wordT s).2.1, .bool (wordT s).2.2]) ∧ Below w.heap.size w w' := by
  have hsz := bs_size s
  have HG : Hid (∀ k (h : k < s.length) (h2 : k < (bs s).size), (bs s)[k]'h2 = s[k]'h) := fun _ _ _ => rfl
  have HX : Hid (∀ k, (bs s).extract k (bs s).size = bs (s.drop k)) := fun k => bs_drop s k
  have HN : Hid (word s = none → wordT s = (⟨#[]⟩, ⟨#[]⟩, false)) := fun h => wordT_none h
  have HS : Hid (∀ x r, word s = some (x, r) → wordT s = (bs x, bs r, decide (x.length ≤ 200))) := fun x r h => wordT_some h
  generalize wordT s = R at *
  obtain ⟨r1, r2, r3⟩ := R
  simp only at HN HS ⊢
  generalize bs s = S at *
  go_enter Tryd.func25, Tryd.ntmps25
  go_wp2_with fail
  go_loopg [5, 6] s.length (fun g s5 s6 wr => RState w s g s5 s6 wr)
  case atStart => exact ⟨0, 0, [], none, 0, Nat.zero_le _, by omega, rfl, rfl, rfl, OwnB.nil _ _, rfl, Below.refl _ _⟩
  case round =>
    obtain ⟨k, n, x, ad, cap, hk, hg, rfl, rfl, HL, HO, HT, HB⟩ := hrel
    have hxl := len_of HT.out
    have hbs := HB.out.size
    have hnl : n ≤ 10000000000 := by have := HL.out; omega
    -- what stands behind the loop
    have hend : stops (s.drop k) = true → Hid ((r1, r2, r3) = (bs x, bs (s.drop k), decide (x.length ≤ 200))) := fun h => HS.out _ _ (word_end HT.out h)
    by_cases hlt : k < s.length
    · have hx := HG.out k hlt (by omega)
      have hlt2 : k < S.size := by omega
      have hdc := drop_cons hlt
      by_cases h2 : s[k].toNat = 2
      · have hq2 : ((s[k].toNat : Int) == 2) = true := by rw [h2]; rfl
        have h2' : (s[k].toNat : Int) = 2 := by omega
        by_cases hl : k + 1 = s.length
        · have er := HN.out (by
            rw [word_at HT.out, hdc, two_of h2, List.drop_eq_nil_of_le (by omega), word_cut]; rfl)
          simp only [Prod.mk.injEq] at er
          obtain ⟨rfl, rfl, rfl⟩ := er
          have hq : (((k : Int) + 1) == (S.size : Int)) = true := by rw [beq_iff_eq]; omega
          have hqe : ((k : Int) + 1) = (S.size : Int) := by omega
          clear HG HX HN HS HT HO hdc hend
          generalize s[k] = y at *
          go_wp2
          go_ret3
          exact ⟨rfl, HB.out⟩
        · have hlt3 : k + 1 < s.length := by omega
          have hx3 := HG.out (k + 1) hlt3 (by omega)
          have hlt4 : k + 1 < S.size := by omega
          have hdc2 := drop_cons hlt3
          have hq : (((k : Int) + 1) == (S.size : Int)) = false := by rw [beq_eq_false_iff_ne]; omega
          have hqe : ¬ ((k : Int) + 1) = (S.size : Int) := by omega
          have i1 : (0 : Int) ≤ (k : Int) + 1 := by omega
          have i2 : (k : Int) + 1 < (S.size : Int) := by omega
          have i3 : ((k : Int) + 1).toNat = k + 1 := by omega
          by_cases h3 : s[k + 1].toNat ≤ 3
          · have HT2 : Hid (s.take (k + 2) = esc (x ++ [s[k + 1]])) := by
              rw [show k + 2 = (k + 1) + 1 from rfl, take_snoc hlt3, take_snoc hlt, HT.out, esc_app, esc_mark h3, two_of h2, esc]
              show esc x ++ [2] ++ [s[k + 1]] = esc x ++ [2, s[k + 1]]
              simp
            have h3' : ¬ (3 : Int) < (s[k + 1].toNat : Int) := by omega
            have HW : Hid (#[.int .u8 (s[k + 1].toNat : Int)] = (bcells [s[k + 1]]).toArray) := Hid.mk' rfl
            clear HG HX HN HS HT hdc hdc2 hend h3
            generalize s[k + 1] = z at *
            generalize s[k] = y at *
            go_wp2_with (at_builtin; refine wpList_append_b _ (by rfl) _ _ rfl w.heap.size _ x [z] rfl HO.out _ HW.out _ _ rfl rfl (by simp) (by omega) ?c1 ?_)
            case c1 => first | omega | (simp; omega)
            intro v1 l1 w1 e1 ho1 hb1 hk1 hs1
            have HB1 := Hid.mk' (hb1 _ _ (Nat.le_refl _) HB.out)
            obtain ⟨ad1, cap1, rfl⟩ := own_slice ho1
            have HR : Hid (∃ N : Nat, l1.length = N ∧ Hid (N = (x ++ [z]).length) ∧ OwnB w1 w.heap.size (.slice ad1 N cap1) (x ++ [z])) := ⟨l1.length, rfl, by rw [e1.out]; exact Hid.mk' rfl, by rw [← e1.out]; exact ho1⟩
            obtain ⟨N, hN, HN1, hO1⟩ := HR.out
            have HO1 := Hid.mk' hO1
            rw [hN]
            clear ho1 hb1 hk1 hs1 HR hN hO1 HO HB HL e1 l1
            go_wp2
            go_roundg (s.length - (k + 2))
            case measure => omega
            case rel => exact ⟨k + 2, N, x ++ [z], ad1, cap1, by omega, by omega, by go_num, rfl, HN1, HO1, HT2, HB1⟩
          · have er := HN.out (by
              rw [word_at HT.out, hdc, hdc2, two_of h2, word_none h3]; rfl)
            simp only [Prod.mk.injEq] at er
            obtain ⟨rfl, rfl, rfl⟩ := er
            have h3' : (3 : Int) < (s[k + 1].toNat : Int) := by omega
            clear HG HX HN HS HT HO hdc hdc2 hend h3
            generalize s[k + 1] = z at *
            generalize s[k] = y at *
            go_wp2
            go_ret3
            exact ⟨rfl, HB.out⟩
      · have hq2 : ((s[k].toNat : Int) == 2) = false := by rw [beq_eq_false_iff_ne]; omega
        have h2' : ¬ (s[k].toNat : Int) = 2 := by omega
        by_cases h3 : s[k].toNat ≤ 3
        · have er := (hend (by rw [hdc]; exact decide_eq_true ⟨h3, h2⟩)).out
          have hst := run_str HO.out
          have hst2 := run_str (w := wr.drew) (own_drew HO.out)
          have hxk := HX.out k
          rw [hsz] at hxk
          have h3' : ¬ (3 : Int) < (s[k].toNat : Int) := by omega
          simp only [Prod.mk.injEq] at er
          obtain ⟨e1, e2, e3⟩ := er
          have e1' : (⟨x.toArray⟩ : ByteArray) = r1 := e1.symm
          rw [e1'] at hst hst2
          rw [← e2] at hxk
          have e3' : r3 = decide ((n : Int) ≤ 200) := by rw [e3, ← HL.out]; simp only [decide_eq_decide]; omega
          clear HG HX HN HS HT HO hdc hend h3 e1 e1' e2 e3 HL
          generalize s[k] = y at *
          subst e3'
          go_wp2_with fail
          go_region
          all_goals (
            go_wp2
            go_ret3
            exact ⟨rfl, HB.out.drew⟩)
        · have HT2 : Hid (s.take (k + 1) = esc (x ++ [s[k]])) := by
            rw [take_snoc hlt, HT.out, esc_app, esc_plain h3, esc]
            exact Hid.mk' rfl
          have h3' : (3 : Int) < (s[k].toNat : Int) := by omega
          have HW : Hid (#[.int .u8 (s[k].toNat : Int)] = (bcells [s[k]]).toArray) := Hid.mk' rfl
          clear HG HX HN HS HT hdc hend h3
          generalize s[k] = y at *
          go_wp2_with (at_builtin; refine wpList_append_b _ (by rfl) _ _ rfl w.heap.size _ x [y] rfl HO.out _ HW.out _ _ rfl rfl (by simp) (by omega) ?c1 ?_)
          case c1 => first | omega | (simp; omega)
          intro v1 l1 w1 e1 ho1 hb1 hk1 hs1
          have HB1 := Hid.mk' (hb1 _ _ (Nat.le_refl _) HB.out)
          obtain ⟨ad1, cap1, rfl⟩ := own_slice ho1
          have HR : Hid (∃ N : Nat, l1.length = N ∧ Hid (N = (x ++ [y]).length) ∧ OwnB w1 w.heap.size (.slice ad1 N cap1) (x ++ [y])) := ⟨l1.length, rfl, by rw [e1.out]; exact Hid.mk' rfl, by rw [← e1.out]; exact ho1⟩
          obtain ⟨N, hN, HN1, hO1⟩ := HR.out
          have HO1 := Hid.mk' hO1
          rw [hN]
          clear ho1 hb1 hk1 hs1 HR hN hO1 HO HB HL e1 l1
          go_wp2
          go_roundg (s.length - (k + 1))
          case measure => omega
          case rel => exact ⟨k + 1, N, x ++ [y], ad1, cap1, by omega, by omega, by go_num, rfl, HN1, HO1, HT2, HB1⟩
    · obtain rfl : k = s.length := by omega
      have er := (hend (by rw [List.drop_length]; rfl)).out
      have hst := run_str HO.out
      have hst2 := run_str (w := wr.drew) (own_drew HO.out)
      simp only [Prod.mk.injEq] at er
      obtain ⟨e1, e2, e3⟩ := er
      have e1' : (⟨x.toArray⟩ : ByteArray) = r1 := e1.symm
      rw [e1'] at hst hst2
      have e2' : r2 = ByteArray.empty := by rw [e2, List.drop_length]; rfl
      subst e2'
      have e3' : r3 = decide ((n : Int) ≤ 200) := by rw [e3, ← HL.out]; simp only [decide_eq_decide]; omega
      clear HG HX HN HS HT HO hend e1 e1' e3 HL
      subst e3'
      go_wp2_with fail
      go_region
      all_goals (
        go_wp2
        go_ret3
        exact ⟨rfl, HB.out.drew⟩)
end Go.Proofs.YtbfiompbngpjoaaDoor.E
