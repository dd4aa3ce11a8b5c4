/-
  Contracts of farref.Between, farref.Num and farref.ArgsText: the document's answers are the plain ones; condition: at most 2^44 numbers.
-/
import Derived.Test.YtneiiinheimglaaGreatDoorBWr
namespace Go.Proofs.YtneiiinheimglaaGreatDoor.Z
open Go.RowKit Go.Lib Go.Proofs.YtneiiinheimglaaGreatDoor Go.Proofs.YtneiiinheimglaaGreatDoor.W Go.Proofs.YtneiiinheimglaaGreatDoor.Q Go.Proofs.YtneiiinheimglaaGreatDoor.C
set_option maxRecDepth 100000

def btw (x a b : Int) : Bool := decide (a ≤ x ∧ x ≤ b)
set_option maxHeartbeats 1000000 in
theorem Between_any (x a b : Int) (w : World) : Calls Tryz.prog 25 #[.int .i64 x, .int .i64 a, .int .i64 b] w fun e w' => e = .returned (.bool (btw x a b)) ∧ w' = w := by
  unfold btw
  by_cases h1 : a ≤ x
  · by_cases h2 : x ≤ b
    · rw [decide_eq_true ⟨h1, h2⟩]
      go_enter Tryz.func25, Tryz.ntmps25
      go_wp2
      go_ret
      exact ⟨rfl, rfl⟩
    · rw [decide_eq_false (fun h => h2 h.2)]
      go_enter Tryz.func25, Tryz.ntmps25
      go_wp2
      go_ret
      exact ⟨rfl, rfl⟩
  · rw [decide_eq_false (fun h => h1 h.1)]
    go_enter Tryz.func25, Tryz.ntmps25
    go_wp2
    go_ret
    exact ⟨rfl, rfl⟩

theorem digits_big {u : Nat} (h : ¬ u < 10) : decDigits u = decDigits (u / 10) ++ decDigits (u % 10) := by
  conv => lhs; rw [decDigits, dif_neg h]
  rw [decDigits_one (Nat.mod_lt _ (by decide))]
theorem digits_ten : ∀ u, u < 10 → (⟨#[48, 49, 50, 51, 52, 53, 54, 55, 56, 57]⟩ : ByteArray).extract u (u + 1) = bs (decDigits u) := by
  intro u hu
  rw [decDigits_one hu]
  rcases (by omega : u = 0 ∨ u = 1 ∨ u = 2 ∨ u = 3 ∨ u = 4 ∨ u = 5 ∨ u = 6 ∨ u = 7 ∨ u = 8 ∨ u = 9) with rfl | rfl | rfl | rfl | rfl | rfl | rfl | rfl | rfl | rfl <;> rfl
theorem digits_len (u : Nat) (h : u ≤ 16383) : (decDigits u).length ≤ 5 := by
  have := word_length (n := (u : Int)) (by unfold right; omega)
  unfold word at this
  rw [if_neg (by omega)] at this
  simpa using this

set_option maxHeartbeats 4000000 in
theorem Num_any (u : Nat) (hu : u ≤ 16383) : ∀ w : World, Calls Tryz.prog 26 #[.int .i64 (u : Int)] w fun e w' => e = .returned (.string (bs (decDigits u))) ∧ w' = w := by
  induction u using Nat.strongRecOn with
  | ind u ih =>
    intro w
    have h0 : ¬ (u : Int) < 0 := by omega
    by_cases h : u < 10
    · have e := digits_ten u h
      clear ih hu
      have hsl : (Instr.slice 9 (.string ⟨#[48, 49, 50, 51, 52, 53, 54, 55, 56, 57]⟩) (some (.int .i64 (u : Int))) (some (.int .i64 ((u : Int) + 1))) none).run Tryz.prog w = .ok (.string (bs (decDigits u))) w := by
        rw [← e]
        rcases (by omega : u = 0 ∨ u = 1 ∨ u = 2 ∨ u = 3 ∨ u = 4 ∨ u = 5 ∨ u = 6 ∨ u = 7 ∨ u = 8 ∨ u = 9) with rfl | rfl | rfl | rfl | rfl | rfl | rfl | rfl | rfl | rfl <;> rfl
      have h1 : (u : Int) < 10 := by omega
      go_enter Tryz.func26, Tryz.ntmps26
      go_wp2
      go_ret
      exact ⟨rfl, rfl⟩
    · have h1 : ¬ (u : Int) < 10 := by omega
      have HA := Hid.mk' (ih (u / 10) (by omega) (by omega) w)
      have HB := Hid.mk' (ih (u % 10) (by omega) (by omega) w)
      have e : bs (decDigits (u / 10)) ++ bs (decDigits (u % 10)) = bs (decDigits u) := by rw [bs_app, ← digits_big h]
      have z1 := bs_size (decDigits (u / 10))
      have z2 := bs_size (decDigits (u % 10))
      have z3 := digits_len (u / 10) (by omega)
      have z4 := digits_len (u % 10) (by omega)
      have z5 : ¬ 9223372036854775807 < (bs (decDigits (u / 10))).size + (bs (decDigits (u % 10))).size := by omega
      clear ih
      generalize bs (decDigits (u / 10)) = A at *
      generalize bs (decDigits (u % 10)) = B at *
      generalize bs (decDigits u) = C at *
      have k1 : ((u / 10 : Nat) : Int) = (u : Int) / 10 := by omega
      have k2 : ((u % 10 : Nat) : Int) = (u : Int) % 10 := by omega
      rw [k1] at HA
      rw [k2] at HB
      go_enter Tryz.func26, Tryz.ntmps26
      go_wp2_with fail
      refine HA.out.mono ?_
      rintro e w1 ⟨rfl, rfl⟩
      go_wp2_with fail
      refine HB.out.mono ?_
      rintro e w1 ⟨rfl, rfl⟩
      go_wp2
      go_ret
      exact ⟨rfl, rfl⟩

/-- the text of the first k numbers, with a mark behind each -/
def textTo (l : List Int) (k : Nat) : List UInt8 := text (l.take k)
theorem join_two (x y : List UInt8) (z : List (List UInt8)) : Lib.join (x :: y :: z) [59] = x ++ 59 :: Lib.join (y :: z) [59] := by
  rw [Lib.join_cons, Lib.join_cons, Lib.joinTail]
  simp [Lib.joinTail]
theorem text_snoc (l : List Int) (n : Int) (h : l ≠ []) : text (l ++ [n]) = text l ++ 59 :: word n := by
  induction l with
  | nil => exact absurd rfl h
  | cons x r ih =>
    cases r with
    | nil =>
      unfold text
      simp only [List.cons_append, List.nil_append, List.map_cons, List.map_nil]
      rw [join_two, Lib.join_one, Lib.join_one]
    | cons y r =>
      have h2 := ih (by simp)
      unfold text at h2 ⊢
      simp only [List.cons_append, List.map_cons] at h2 ⊢
      rw [join_two, h2, join_two]
      simp
theorem text_one (n : Int) : text [n] = word n := by
  unfold text
  rw [List.map_cons, List.map_nil, Lib.join_one]
theorem textTo_step (l : List Int) (k : Nat) (h : k < l.length) (hk : 0 < k) : textTo l (k + 1) = textTo l k ++ 59 :: word l[k] := by
  unfold textTo
  rw [List.take_succ_eq_append_getElem h]
  exact text_snoc _ _ (by intro e; have := congrArg List.length e; rw [List.length_take, List.length_nil] at this; omega)
theorem textTo_first (l : List Int) (h : 0 < l.length) : textTo l 1 = word l[0] := by
  unfold textTo
  rw [List.take_succ_eq_append_getElem h, List.take_zero, List.nil_append]
  exact text_one _
theorem btw_right (n : Int) : btw n (-1) 16383 = true ↔ right n := decide_eq_true_iff
theorem word_nat {u : Nat} : word (u : Int) = decDigits u := by
  unfold word
  rw [if_neg (by omega)]; simp

def AS (w : World) (l : List Int) (g : Nat) (s4 s9 : Value) (wr : World) : Prop :=
  ∃ k : Nat, k ≤ l.length ∧ l.length - k ≤ g ∧ s9 = .int .i64 (k : Int) ∧ s4 = .string (bs (textTo l k)) ∧ Hid (∀ x ∈ l.take k, right x) ∧ wr = w
theorem textTo_zero (l : List Int) : textTo l 0 = [] := by
  unfold textTo text
  rw [List.take_zero, List.map_nil, Lib.join_nil]
theorem textTo_length (l : List Int) (k : Nat) (h : ∀ x ∈ l.take k, right x) : (textTo l k).length ≤ 6 * k := by
  have := text_length (l.take k) h
  have h2 := List.length_take_le k l
  unfold textTo
  omega

set_option maxHeartbeats 8000000 in
theorem ArgsText_any (v : Value) (l : List Int) (w : World) (hv : RdI w v l) (hl : l.length ≤ 17592186044416) :
    Calls Tryz.prog 11 #[v] w fun e w' => e = .returned (.tuple #[.string (bs (writeT l).1), .int .i64 (writeT l).2]) ∧ w' = w := by
  obtain ⟨a, c, rfl, hc, hr⟩ := hv
  have HB := Hid.mk' (fun n => Between_any n (-1) 16383 w)
  have HS0 : Hid (AS w l l.length (.string ⟨#[]⟩) (.int .i64 0) w) := ⟨0, Nat.zero_le _, by omega, rfl, by rw [textTo_zero]; rfl, fun x hx => by simp at hx, rfl⟩
  have HBAD : Hid (∀ k (h : k < l.length), ¬ right l[k] → writeT l = ([], 1)) := fun k h hn => by
    unfold writeT
    rw [okL_no k h hn, if_neg (by decide)]
  have HEND : Hid ((∀ x ∈ l, right x) → (l = [] ∧ writeT l = ([], 1)) ∨ (l ≠ [] ∧ 32 < l.length ∧ writeT l = ([], 2)) ∨ (l ≠ [] ∧ l.length ≤ 32 ∧ writeT l = (text l, 0))) := fun h => by
    by_cases h0 : l = []
    · refine .inl ⟨h0, ?_⟩
      rw [h0]; rfl
    · right
      have hk := okL_of h h0
      by_cases h2 : 32 < l.length
      · refine .inl ⟨h0, h2, ?_⟩
        unfold writeT
        rw [if_pos hk, if_pos h2]
      · refine .inr ⟨h0, by omega, ?_⟩
        unfold writeT
        rw [if_pos hk, if_neg h2]
  generalize writeT l = R at *
  go_enter Tryz.func11, Tryz.ntmps11
  go_wp2_with fail
  go_loopg [4, 9] l.length (fun g s4 s9 wr => AS w l g s4 s9 wr)
  case atStart => exact HS0.out
  case round =>
    obtain ⟨k, hk, hg, rfl, rfl, HO, rfl⟩ := hrel
    have HG := Hid.mk' hg
    clear hg HS0
    by_cases hlt : k < l.length
    · have hl0 := hr
      rcases hr with h0 | ⟨b, off, rfl, ht, _⟩
      · subst h0; simp at hlt
      clear hl0
      have c1 := ht k hlt
      have H1 := Hid.mk' (HB.out l[k])
      by_cases hrt : right l[k]
      · rw [(btw_right _).2 hrt] at H1
        have HT2 : Hid (∀ x ∈ l.take (k + 1), right x) := fun x hx => by
          rw [List.take_succ_eq_append_getElem hlt] at hx
          rcases List.mem_append.1 hx with h | h
          · exact HO.out x h
          · rw [List.mem_singleton.1 h]; exact hrt
        have zt := textTo_length l k HO.out
        have zs := bs_size (textTo l k)
        have HN : Hid (∀ s4, s4 = .string (bs (textTo l (k + 1))) → AS wr l (l.length - (k + 1)) s4 (.int .i64 ((k : Int) + 1)) wr) := fun s4 h => ⟨k + 1, by omega, Nat.le_refl _, by simp, h, HT2, rfl⟩
        have hst : (k = 0 ∧ textTo l (k + 1) = word l[k]) ∨ (0 < k ∧ textTo l (k + 1) = textTo l k ++ 59 :: word l[k]) := by
          by_cases h0 : k = 0
          · subst h0; exact .inl ⟨rfl, textTo_first l hlt⟩
          · exact .inr ⟨by omega, textTo_step l k hlt (by omega)⟩
        have hmk : (l[k] = -1 ∧ word l[k] = []) ∨ ∃ u : Nat, l[k] = (u : Int) ∧ u ≤ 16383 ∧ word l[k] = decDigits u := by
          unfold right at hrt
          by_cases h0 : l[k] = -1
          · exact .inl ⟨h0, by rw [h0]; rfl⟩
          · refine .inr ⟨l[k].toNat, by omega, by omega, ?_⟩
            unfold word
            rw [if_neg h0]
        have HN0 := Hid.mk' (fun u hu => Num_any u hu wr)
        have hcat := bs_app (textTo l k) [59]
        have zs2 := bs_size (textTo l k ++ [59])
        have z59 : (⟨#[59]⟩ : ByteArray).size = 1 := rfl
        rw [List.length_append, List.length_singleton] at zs2
        rw [show bs [59] = ⟨#[59]⟩ from rfl] at hcat
        clear ht HB HBAD HEND HO HT2 hrt
        rcases hst with ⟨hk0, hT2⟩ | ⟨hk0, hT2⟩
        · have e0 : bs (textTo l k) = bs [] := by rw [hk0, textTo_zero]
          have hk1 : ¬ (0 : Int) < (k : Int) := by omega
          rcases hmk with ⟨hx, hW⟩ | ⟨u, hx, hu, hW⟩
          · have HN2 := Hid.mk' (HN.out (.string (bs (textTo l k))) (by rw [hT2, hW, e0]))
            clear HN HN0 hT2 hW hcat zs2 e0 zs
            generalize bs (textTo l k) = S at *
            rw [hx] at c1 H1
            clear hx hk0
            go_wp2_with fail
            refine H1.out.mono ?_
            rintro e w1 ⟨rfl, rfl⟩
            go_wp2
            go_roundg (l.length - (k + 1))
            case measure => have := HG.out; omega
            case rel => exact HN2.out
          · have HN2 := Hid.mk' (HN.out (.string (bs (decDigits u))) (by rw [hT2, hW]))
            have H2 := Hid.mk' (HN0.out u hu)
            have e2 : bs (textTo l k) ++ bs (decDigits u) = bs (decDigits u) := by rw [e0, bs_app, List.nil_append]
            have z2 := bs_size (decDigits u)
            have z3 := digits_len u hu
            have z4 : ¬ 9223372036854775807 < (bs (textTo l k)).size + (bs (decDigits u)).size := by omega
            clear HN HN0 hT2 hW hcat zs2 e0 zs
            generalize bs (textTo l k) = S at *
            generalize bs (decDigits u) = D at *
            rw [hx] at c1 H1
            clear hx hk0 z3
            have hu0 : (0 : Int) ≤ (u : Int) := by omega
            go_wp2_with fail
            refine H1.out.mono ?_
            rintro e w1 ⟨rfl, rfl⟩
            go_wp2_with fail
            refine H2.out.mono ?_
            rintro e w1 ⟨rfl, rfl⟩
            go_wp2
            go_roundg (l.length - (k + 1))
            case measure => have := HG.out; omega
            case rel => exact HN2.out
        · have hk1 : (0 : Int) < (k : Int) := by omega
          have z5 : ¬ 9223372036854775807 < (bs (textTo l k)).size + (⟨#[59]⟩ : ByteArray).size := by omega
          rcases hmk with ⟨hx, hW⟩ | ⟨u, hx, hu, hW⟩
          · have HN2 := Hid.mk' (HN.out (.string (bs (textTo l k ++ [59]))) (by rw [hT2, hW]))
            clear HN HN0 hT2 hW zs2 zs
            generalize bs (textTo l k ++ [59]) = S1 at *
            generalize bs (textTo l k) = S at *
            rw [hx] at c1 H1
            clear hx hk0
            go_wp2_with fail
            refine H1.out.mono ?_
            rintro e w1 ⟨rfl, rfl⟩
            go_wp2
            go_roundg (l.length - (k + 1))
            case measure => have := HG.out; omega
            case rel => exact HN2.out
          · have HN2 := Hid.mk' (HN.out (.string (bs (textTo l k ++ [59] ++ decDigits u))) (by rw [hT2, hW]; simp))
            have H2 := Hid.mk' (HN0.out u hu)
            have e2 : bs (textTo l k ++ [59]) ++ bs (decDigits u) = bs (textTo l k ++ [59] ++ decDigits u) := bs_app _ _
            have z2 := bs_size (decDigits u)
            have z3 := digits_len u hu
            have z4 : ¬ 9223372036854775807 < (bs (textTo l k ++ [59])).size + (bs (decDigits u)).size := by omega
            clear HN HN0 hT2 hW zs2 zs
            generalize bs (textTo l k ++ [59] ++ decDigits u) = S2 at *
            generalize bs (textTo l k ++ [59]) = S1 at *
            generalize bs (textTo l k) = S at *
            generalize bs (decDigits u) = D at *
            rw [hx] at c1 H1
            clear hx hk0 z3
            have hu0 : (0 : Int) ≤ (u : Int) := by omega
            go_wp2_with fail
            refine H1.out.mono ?_
            rintro e w1 ⟨rfl, rfl⟩
            go_wp2_with fail
            refine H2.out.mono ?_
            rintro e w1 ⟨rfl, rfl⟩
            go_wp2
            go_roundg (l.length - (k + 1))
            case measure => have := HG.out; omega
            case rel => exact HN2.out
      · have e : R = ([], 1) := HBAD.out k hlt hrt
        have hb : btw l[k] (-1) 16383 = false := by
          cases h : btw l[k] (-1) 16383 with
          | false => rfl
          | true => exact absurd ((btw_right _).1 h) hrt
        rw [hb] at H1
        subst e
        clear ht HB HBAD HEND HO hrt hb
        generalize l[k] = x at *
        go_wp2_with fail
        refine H1.out.mono ?_
        rintro e w1 ⟨rfl, rfl⟩
        go_wp2
        go_ret2
        exact ⟨rfl, rfl⟩
    · obtain rfl : k = l.length := by omega
      rw [List.take_length] at HO
      have e4 : textTo l l.length = text l := by unfold textTo; rw [List.take_length]
      rw [e4]
      rcases HEND.out HO.out with ⟨h0, h1⟩ | ⟨h0, h2, h1⟩ | ⟨h0, h2, h1⟩
      · subst h0
        subst h1
        clear HEND HBAD HO HB hr
        go_wp2
        go_ret2
        exact ⟨rfl, rfl⟩
      · subst h1
        have hp : 0 < l.length := List.length_pos_iff.2 h0
        have h3 : ¬ (l.length : Int) = 0 := by omega
        have h4 : ((l.length : Int) == 0) = false := beq_false_of_ne h3
        have h5 : (32 : Int) < (l.length : Int) := by omega
        clear HEND HBAD HO HB hr
        go_wp2
        go_ret2
        exact ⟨rfl, rfl⟩
      · subst h1
        have hp : 0 < l.length := List.length_pos_iff.2 h0
        have h3 : ¬ (l.length : Int) = 0 := by omega
        have h4 : ((l.length : Int) == 0) = false := beq_false_of_ne h3
        have h5 : ¬ (32 : Int) < (l.length : Int) := by omega
        clear HEND HBAD HO HB hr
        go_wp2
        go_ret2
        exact ⟨rfl, rfl⟩
end Go.Proofs.YtneiiinheimglaaGreatDoor.Z
