/-
  Contracts of strings.CutPrefix at a text of one byte, of choice.Told and farkeep.upper; conditions: at most 2^44 names, no text longer than 2^47 bytes.
-/
import Derived.Test.YtckgkncahaicoaaCAns
import Derived.Lib.ConvBytes
namespace Go.Proofs.Ytckgkncahaicoaa.C
open Go.RowKit Go.Lib Go.Proofs.Ytckgkncahaicoaa Go.Proofs.Ytckgkncahaicoaa.W Go.Proofs.Ytckgkncahaicoaa.Q

/-- what CutPrefix answers -/
def cutP (c : UInt8) : List UInt8 → ByteArray × Bool
  | x :: s => if x = c then (bs s, true) else (bs (x :: s), false)
  | [] => (⟨#[]⟩, false)

set_option maxHeartbeats 4000000 in
theorem CutPrefix_two (d : List UInt8) (w : World) (hz : d.length ≤ 9223372036854775807) :
    Calls Try.prog 22 #[.string (bs d), .string ⟨#[2]⟩] w fun e w' => e = .returned (.tuple #[.string (cutP 2 d).1, .bool (cutP 2 d).2]) ∧ w' = w := by
  have HP : Hid (Calls Try.prog 41 #[.string (bs d), .string ⟨#[2]⟩] w fun e w' => e = .returned (.bool (cutP 2 d).2) ∧ w' = w) := by
    match d, hz with
    | [], _ =>
      show Calls _ _ #[.string ⟨#[]⟩, _] _ _
      go_enter Try.func41, Try.ntmps41
      go_wp2
      go_ret
      exact ⟨rfl, rfl⟩
    | x :: s, hz =>
      have hsz : (bs (x :: s)).size = s.length + 1 := by rw [bs_size]; rfl
      have hx0 : (bs (x :: s)).extract 0 1 = ⟨#[x]⟩ := bs_take (x :: s) 1
      rw [List.length_cons] at hz
      by_cases h : x = 2
      · subst h
        rw [show (cutP 2 (2 :: s)).2 = true from rfl]
        generalize bs (2 :: s) = D at *
        go_enter Try.func41, Try.ntmps41
        go_wp2
        go_ret
        exact ⟨rfl, rfl⟩
      · rw [show (cutP 2 (x :: s)).2 = false from by rw [cutP, if_neg h]]
        have hq : ((⟨#[x]⟩ : ByteArray).toList == [2]) = false := by
          rw [ByteArray.toList_eq]
          apply beq_false_of_ne
          simpa using h
        generalize bs (x :: s) = D at *
        generalize (⟨#[x]⟩ : ByteArray) = X at *
        go_enter Try.func41, Try.ntmps41
        go_wp2
        go_ret
        exact ⟨rfl, rfl⟩
  have H0 : Hid (Calls Try.prog 34 #[.string (bs d), .string ⟨#[2]⟩] w fun e w' => e = .returned (.tuple #[.string (cutP 2 d).1, .bool (cutP 2 d).2]) ∧ w' = w) := by
    match d, hz, HP with
    | [], _, HP =>
      rw [show cutP 2 [] = (⟨#[]⟩, false) from rfl, show bs [] = ⟨#[]⟩ from rfl] at *
      go_enter Try.func34, Try.ntmps34
      go_wp2_with fail
      refine HP.out.mono ?_
      rintro e w1 ⟨rfl, rfl⟩
      go_wp2
      go_ret2
      exact ⟨rfl, rfl⟩
    | x :: s, hz, HP =>
      have hsz : (bs (x :: s)).size = s.length + 1 := by rw [bs_size]; rfl
      have hx1 : (bs (x :: s)).extract 1 (s.length + 1) = bs s := by rw [← hsz, bs_drop]; rfl
      rw [List.length_cons] at hz
      by_cases h : x = 2
      · subst h
        rw [show cutP 2 (2 :: s) = (bs s, true) from rfl] at HP ⊢
        generalize bs (2 :: s) = D at *
        generalize bs s = S at *
        go_enter Try.func34, Try.ntmps34
        go_wp2_with fail
        refine HP.out.mono ?_
        rintro e w1 ⟨rfl, rfl⟩
        go_wp2
        go_ret2
        exact ⟨rfl, rfl⟩
      · rw [show cutP 2 (x :: s) = (bs (x :: s), false) from by rw [cutP, if_neg h]] at HP ⊢
        generalize bs (x :: s) = D at *
        go_enter Try.func34, Try.ntmps34
        go_wp2_with fail
        refine HP.out.mono ?_
        rintro e w1 ⟨rfl, rfl⟩
        go_wp2
        go_ret2
        exact ⟨rfl, rfl⟩
  generalize cutP 2 d = R at *
  obtain ⟨r1, r2⟩ := R
  generalize bs d = D at *
  go_enter Try.func22, Try.ntmps22
  go_wp2_with fail
  refine H0.out.mono ?_
  rintro e w1 ⟨rfl, rfl⟩
  go_wp2
  go_ret2
  exact ⟨rfl, rfl⟩

/-- what Told answers -/
def toldT (l : List ByteArray) (d : List UInt8) : ByteArray × Int :=
  if d = [3] then (⟨#[]⟩, 6) else match d with
    | 2 :: s => match firstL l (bs s) with
      | some m => (m, 0)
      | none => (⟨#[]⟩, 6)
    | _ => (⟨#[]⟩, 4)
theorem toldT_three (l : List ByteArray) : toldT l [3] = (⟨#[]⟩, 6) := if_pos rfl
theorem toldT_some {l : List ByteArray} {s : List UInt8} {m : ByteArray} (h : firstL l (bs s) = some m) : toldT l (2 :: s) = (m, 0) := by
  unfold toldT
  rw [if_neg (by simp)]
  simp only [h]
theorem toldT_none {l : List ByteArray} {s : List UInt8} (h : firstL l (bs s) = none) : toldT l (2 :: s) = (⟨#[]⟩, 6) := by
  unfold toldT
  rw [if_neg (by simp)]
  simp only [h]
theorem toldT_bad {l : List ByteArray} {d : List UInt8} (h3 : d ≠ [3]) (h2 : (cutP 2 d).2 = false) : toldT l d = (⟨#[]⟩, 4) := by
  unfold toldT
  rw [if_neg h3]
  match d, h2 with
  | [], _ => rfl
  | x :: s, h2 =>
    split
    · rename_i heq
      simp only [List.cons.injEq] at heq
      rw [cutP, if_pos heq.1] at h2
      cases h2
    · rfl

set_option maxHeartbeats 4000000 in
theorem Told_any (w : World) (v : Value) (l : List ByteArray) (d : List UInt8) (hv : RdS w v l) (hn : l.length ≤ 17592186044416) (hz : ∀ k (h : k < l.length), (l[k]).size ≤ 9223372036854775807) (hd : d.length ≤ 9223372036854775807) :
    Calls Try.prog 9 #[v, .string (bs d)] w fun e w' => e = .returned (.tuple #[.string (toldT l d).1, .int .i64 (toldT l d).2]) ∧ ∃ n, w' = w.drewN n := by
  have H1 := Hid.mk' (CutPrefix_two d w hd)
  have HFL : Hid (∀ x, Calls Try.prog 23 #[v, .string x] w fun e w' => e = .returned (.tuple #[.string (nmOf (firstL l x)), .bool (firstL l x).isSome]) ∧ ∃ n, w' = w.drewN n) := fun x => firstLike_any w v l x hv hn hz
  obtain ⟨va, vc, rfl, _, _⟩ := hv
  by_cases h3 : d = [3]
  · subst h3
    rw [toldT_three, show bs [3] = ⟨#[3]⟩ from rfl]
    clear H1 HFL
    go_enter Try.func9, Try.ntmps9
    go_wp2
    go_ret2
    exact ⟨rfl, 0, rfl⟩
  have hq : ((bs d).toList == [3]) = false := by
    rw [ByteArray.toList_eq, data_bs]
    exact beq_false_of_ne h3
  cases h2 : (cutP 2 d).2 with
  | false =>
    rw [toldT_bad h3 h2]
    rw [h2] at H1
    generalize (cutP 2 d).1 = P at *
    generalize bs d = D at *
    clear HFL
    go_enter Try.func9, Try.ntmps9
    go_wp2_with fail
    refine H1.out.mono ?_
    rintro e w1 ⟨rfl, rfl⟩
    go_wp2
    go_ret2
    exact ⟨rfl, 0, rfl⟩
  | true =>
    obtain ⟨s, rfl⟩ : ∃ s, d = 2 :: s := by
      match d, h2 with
      | [], h2 => simp [cutP] at h2
      | x :: s, h2 =>
        by_cases e : x = 2
        · exact ⟨s, by rw [e]⟩
        · rw [cutP, if_neg e] at h2; cases h2
    rw [show cutP 2 (2 :: s) = (bs s, true) from rfl] at H1
    have H2 := Hid.mk' (HFL.out (bs s))
    clear HFL h2 h3
    cases hf : firstL l (bs s) with
    | some m =>
      rw [toldT_some hf]
      rw [hf] at H2
      clear hf
      generalize bs (2 :: s) = D at *
      generalize bs s = S at *
      go_enter Try.func9, Try.ntmps9
      go_wp2_with fail
      refine H1.out.mono ?_
      rintro e w1 ⟨rfl, rfl⟩
      go_wp2_with fail
      refine H2.out.mono ?_
      rintro e w2 ⟨rfl, n, rfl⟩
      go_wp2
      go_ret2
      exact ⟨rfl, n, rfl⟩
    | none =>
      rw [toldT_none hf]
      rw [hf] at H2
      clear hf
      generalize bs (2 :: s) = D at *
      generalize bs s = S at *
      go_enter Try.func9, Try.ntmps9
      go_wp2_with fail
      refine H1.out.mono ?_
      rintro e w1 ⟨rfl, rfl⟩
      go_wp2_with fail
      refine H2.out.mono ?_
      rintro e w2 ⟨rfl, n, rfl⟩
      go_wp2
      go_ret2
      exact ⟨rfl, n, rfl⟩
end Go.Proofs.Ytckgkncahaicoaa.C
