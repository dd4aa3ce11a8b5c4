/-
  Contracts of environ.Wanted, strings.CutPrefix at a text of one byte, environ.first and environ.pick; conditions: at most 2^44 variables, lengths that an int tells.
-/
import Derived.Test.YtbfiompbngpjoaaDoorERead
namespace Go.Proofs.YtbfiompbngpjoaaDoor.E
open Go.RowKit Go.Lib Go.Proofs.YtbfiompbngpjoaaDoor Go.Proofs.YtbfiompbngpjoaaDoor.W Go.Proofs.YtbfiompbngpjoaaDoor.Q Go.Proofs.YtbfiompbngpjoaaDoor.C

set_option maxHeartbeats 8000000 in
set_option maxRecDepth 100000 in
theorem Wanted_any (s : List UInt8) (w : World) (hz : s.length ≤ 9223372036854775807) :
    Calls Tryd.prog 9 #[.string (bs s)] w fun e w' => ∃ ad cap, e = .returned (.tuple #[.slice ad (wantedT s).1.length cap, .int .i64 (wantedT s).2]) ∧ OwnV w' w.heap.size ad cap (wantedT s).1 ∧ Below w.heap.size w w' := by
  have H1 := Hid.mk' (Read_any s w hz)
  have hsm := readT_small s
  rcases (by rcases readT_cases s with ⟨h, _⟩ | h | ⟨l, h, _⟩; exact .inl ⟨2, by rw [h], by decide⟩; exact .inl ⟨4, by rw [h], by decide⟩; exact .inr (by rw [h]) : (∃ r : Int, (readT s).2 = r ∧ (r == 0) = false) ∨ (readT s).2 = 0) with ⟨r, h, hr⟩ | h
  · rw [wantedT_err (by intro e; rw [h] at e; subst e; cases hr)]
    rw [h] at H1 ⊢
    generalize bs s = S at *
    generalize (readT s).1.length = N at *
    go_enter Tryd.func9, Tryd.ntmps9
    go_wp2_with fail
    refine H1.out.mono ?_
    rintro e w1 ⟨ad, cap, rfl, _, hb1⟩
    have HB1 := Hid.mk' hb1
    clear hb1 H1
    go_wp2
    go_ret2
    exact ⟨none, 0, rfl, OwnV.nil _ _, HB1.out⟩
  · have HS : Hid (∀ k (hk : k < (readT s).1.length), (readT s).1[k].set = true → wantedT s = ([], 4)) := fun k hk hs => wantedT_set h (List.getElem_mem hk) hs
    have HO : Hid ((∀ k (hk : k < (readT s).1.length), (readT s).1[k].set = false) → wantedT s = readT s) := fun hh => wantedT_ok h (fun x hx => by
      obtain ⟨k, hk, e⟩ := List.mem_iff_getElem.1 hx
      rw [← e]
      exact hh k hk)
    rw [h] at H1
    generalize hR : readT s = R at *
    obtain ⟨l, r⟩ := R
    simp only at h hsm HS HO H1
    subst h
    generalize wantedT s = R2 at *
    obtain ⟨R1, R2⟩ := R2
    simp only at HS HO ⊢
    generalize bs s = S at *
    clear hR
    go_enter Tryd.func9, Tryd.ntmps9
    go_wp2_with fail
    refine H1.out.mono ?_
    rintro e w1 ⟨ad, cap, rfl, ho1, hb1⟩
    have HB1 := Hid.mk' hb1
    have HV1 := Hid.mk' ho1
    have hbs := HB1.out.size
    clear hb1 H1 ho1
    go_wp2_with fail
    go_loopg [18] l.length (fun g s wr => VState w1 l Vr.set g s wr)
    case atStart => exact ⟨0, Nat.zero_le _, by omega, rfl, fun a h => absurd h (Nat.not_lt_zero a), Below.refl _ _⟩
    case round =>
      obtain ⟨k, hk, hg, rfl, HA, HB⟩ := hrel
      have HB2 := Hid.mk' (HB1.out.trans (HB.out.mono hbs))
      by_cases hlt : k < l.length
      · obtain ⟨a0, c0, e0, hc0, hr0⟩ := HV1.out.rd
        simp only [Value.slice.injEq] at e0
        obtain ⟨rfl, _, rfl⟩ := e0
        rcases hr0 with h0 | ⟨b, o, rfl, t, hb⟩
        · subst h0; simp at hlt
        obtain ⟨t0, t1, t2, t3⟩ := (t k hlt).below HB.out hb
        have HB3 := fun cs => Hid.mk' (HB.out.alloc HB.out.size (.cells cs 30))
        have HB4 := fun cs => Hid.mk' (HB2.out.alloc HB2.out.size (.cells cs 30))
        cases hs : l[k].set with
        | true =>
          have er := HS.out k hlt hs
          simp only [Prod.mk.injEq] at er
          obtain ⟨rfl, rfl⟩ := er
          rw [hs] at t3
          clear HS HO HA t HV1 hs
          generalize bs l[k].name = x0 at *
          generalize bs l[k].value = x1 at *
          generalize l[k].user = x2 at *
          go_wp2
          go_ret2
          exact ⟨none, 0, rfl, OwnV.nil _ _, (HB4 _).out⟩
        | false =>
          have HA2 := Hid.mk' (more HA.out hlt hs)
          rw [hs] at t3
          clear HS HO HA t HV1 hs
          generalize bs l[k].name = x0 at *
          generalize bs l[k].value = x1 at *
          generalize l[k].user = x2 at *
          go_wp2
          go_roundg (l.length - (k + 1))
          case measure => omega
          case rel => exact ⟨k + 1, by omega, by omega, by go_num, HA2, HB3 _⟩
      · obtain rfl : k = l.length := by omega
        have er := HO.out (fun k h => HA.out k h h)
        simp only [Prod.mk.injEq] at er
        obtain ⟨rfl, rfl⟩ := er
        have HV2 := Hid.mk' (HV1.out.below HB.out)
        clear HS HO HA HV1
        go_wp2
        go_ret2
        exact ⟨ad, cap, rfl, HV2.out, HB2.out⟩

/-- what CutPrefix answers -/
def cutP : List UInt8 → ByteArray × Bool
  | x :: s => if x = 1 then (bs s, true) else (bs (x :: s), false)
  | [] => (⟨#[]⟩, false)

set_option maxHeartbeats 4000000 in
theorem CutPrefix_one (d : List UInt8) (w : World) (hz : d.length ≤ 9223372036854775807) :
    Calls Tryd.prog 20 #[.string (bs d), .string ⟨#[1]⟩] w fun e w' => e = .returned (.tuple #[.string (cutP d).1, .bool (cutP d).2]) ∧ w' = w := by
  have HP : Hid (Calls Tryd.prog 28 #[.string (bs d), .string ⟨#[1]⟩] w fun e w' => e = .returned (.bool (cutP d).2) ∧ w' = w) := by
    match d, hz with
    | [], _ =>
      show Calls _ _ #[.string ⟨#[]⟩, _] _ _
      go_enter Tryd.func28, Tryd.ntmps28
      go_wp2
      go_ret
      exact ⟨rfl, rfl⟩
    | x :: s, hz =>
      have hsz : (bs (x :: s)).size = s.length + 1 := by rw [bs_size]; rfl
      have hx0 : (bs (x :: s)).extract 0 1 = ⟨#[x]⟩ := bs_take (x :: s) 1
      rw [List.length_cons] at hz
      by_cases h : x = 1
      · subst h
        rw [show (cutP (1 :: s)).2 = true from rfl]
        generalize bs (1 :: s) = D at *
        go_enter Tryd.func28, Tryd.ntmps28
        go_wp2
        go_ret
        exact ⟨rfl, rfl⟩
      · rw [show (cutP (x :: s)).2 = false from by rw [cutP, if_neg h]]
        have hq : ((⟨#[x]⟩ : ByteArray).toList == [1]) = false := by
          rw [ByteArray.toList_eq]
          apply beq_false_of_ne
          simpa using h
        generalize bs (x :: s) = D at *
        generalize (⟨#[x]⟩ : ByteArray) = X at *
        go_enter Tryd.func28, Tryd.ntmps28
        go_wp2
        go_ret
        exact ⟨rfl, rfl⟩
  have H0 : Hid (Calls Tryd.prog 26 #[.string (bs d), .string ⟨#[1]⟩] w fun e w' => e = .returned (.tuple #[.string (cutP d).1, .bool (cutP d).2]) ∧ w' = w) := by
    match d, hz, HP with
    | [], _, HP =>
      rw [show cutP [] = (⟨#[]⟩, false) from rfl, show bs [] = ⟨#[]⟩ from rfl] at *
      go_enter Tryd.func26, Tryd.ntmps26
      go_wp2_with fail
      refine HP.out.mono ?_
      rintro e w1 ⟨rfl, rfl⟩
      go_wp2
      go_ret2
      exact ⟨rfl, rfl⟩
    | x :: s, hz, HP =>
      have hsz : (bs (x :: s)).size = s.length + 1 := by rw [bs_size]; rfl
      have hx1 : (bs (x :: s)).extract 1 (s.length + 1) = bs s := by rw [← hsz, bs_drop]; rfl
      rw [List.length_cons] at hz
      by_cases h : x = 1
      · subst h
        rw [show cutP (1 :: s) = (bs s, true) from rfl] at HP ⊢
        generalize bs (1 :: s) = D at *
        generalize bs s = S at *
        go_enter Tryd.func26, Tryd.ntmps26
        go_wp2_with fail
        refine HP.out.mono ?_
        rintro e w1 ⟨rfl, rfl⟩
        go_wp2
        go_ret2
        exact ⟨rfl, rfl⟩
      · rw [show cutP (x :: s) = (bs (x :: s), false) from by rw [cutP, if_neg h]] at HP ⊢
        generalize bs (x :: s) = D at *
        go_enter Tryd.func26, Tryd.ntmps26
        go_wp2_with fail
        refine HP.out.mono ?_
        rintro e w1 ⟨rfl, rfl⟩
        go_wp2
        go_ret2
        exact ⟨rfl, rfl⟩
  generalize cutP d = R at *
  obtain ⟨r1, r2⟩ := R
  generalize bs d = D at *
  go_enter Tryd.func20, Tryd.ntmps20
  go_wp2_with fail
  refine H0.out.mono ?_
  rintro e w1 ⟨rfl, rfl⟩
  go_wp2
  go_ret2
  exact ⟨rfl, rfl⟩
end Go.Proofs.YtbfiompbngpjoaaDoor.E
