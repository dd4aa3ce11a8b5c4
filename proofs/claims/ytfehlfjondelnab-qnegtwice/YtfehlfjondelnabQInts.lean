/-
  Contracts of qneg.isState, isOption, hearOn, hearOff, Hear, askOn, askOff, Ask, command: whatever the arguments; nothing in memory becomes other.
-/
import Derived.Test.YtfehlfjondelnabQPlain
import Derived.Test.YtfehlfjondelnabProg
import Derived.Laws.BytesString
import Derived.OwnWalk
import Derived.WalkKit
import Derived.BigQuiet
namespace Go.Proofs.Ytfehlfjondelnab.Q
open Go.RowKit Go.Proofs.Ytfehlfjondelnab

theorem Hid.mk' {p : Prop} (h : p) : Hid p := h

def isSt (s : Int) : Bool := decide (0 ≤ s ∧ s ≤ 5)
def isOp (s : Int) : Bool := decide (0 ≤ s ∧ s ≤ 255)

set_option maxHeartbeats 1000000 in
theorem isState_any (p : Int) (w : World) : Calls Try.prog 10 #[.int .i64 p] w fun e w' => e = .returned (.bool (isSt p)) ∧ w' = w := by
  unfold isSt
  by_cases h1 : 0 ≤ p
  · by_cases h2 : p ≤ 5
    · rw [decide_eq_true ⟨h1, h2⟩]
      go_enter Try.func10, Try.ntmps10
      go_wp2
      go_ret
      exact ⟨rfl, rfl⟩
    · rw [decide_eq_false (fun h => h2 h.2)]
      go_enter Try.func10, Try.ntmps10
      go_wp2
      go_ret
      exact ⟨rfl, rfl⟩
  · rw [decide_eq_false (fun h => h1 h.1)]
    go_enter Try.func10, Try.ntmps10
    go_wp2
    go_ret
    exact ⟨rfl, rfl⟩

set_option maxHeartbeats 1000000 in
theorem isOption_any (p : Int) (w : World) : Calls Try.prog 20 #[.int .i64 p] w fun e w' => e = .returned (.bool (isOp p)) ∧ w' = w := by
  unfold isOp
  by_cases h1 : 0 ≤ p
  · by_cases h2 : p ≤ 255
    · rw [decide_eq_true ⟨h1, h2⟩]
      go_enter Try.func20, Try.ntmps20
      go_wp2
      go_ret
      exact ⟨rfl, rfl⟩
    · rw [decide_eq_false (fun h => h2 h.2)]
      go_enter Try.func20, Try.ntmps20
      go_wp2
      go_ret
      exact ⟨rfl, rfl⟩
  · rw [decide_eq_false (fun h => h1 h.1)]
    go_enter Try.func20, Try.ntmps20
    go_wp2
    go_ret
    exact ⟨rfl, rfl⟩

theorem out_ne {s : Int} (h : s < 0 ∨ 5 < s) : s ≠ 0 ∧ s ≠ 1 ∧ s ≠ 2 ∧ s ≠ 3 ∧ s ≠ 4 ∧ s ≠ 5 := by omega

def RHear (r : Int × Int × Bool) : Value := .tuple #[.int .i64 r.1, .int .i64 r.2.1, .bool r.2.2]
def RAsk (r : Int × Int × Int) : Value := .tuple #[.int .i64 r.1, .int .i64 r.2.1, .int .i64 r.2.2]

theorem hear_out {s : Int} (h : s ≠ 0 ∧ s ≠ 1 ∧ s ≠ 2 ∧ s ≠ 3 ∧ s ≠ 4 ∧ s ≠ 5) (on ag : Bool) : hear s on ag = (s, 0, false) := by
  obtain ⟨h0, h1, h2, h3, h4, h5⟩ := h
  unfold hear
  cases on <;> simp [h0, h1, h2, h3, h4, h5]

set_option maxHeartbeats 4000000 in
theorem hearOn_any (s : Int) (w : World) : Calls Try.prog 23 #[.int .i64 s] w fun e w' => e = .returned (RHear (hear s true true)) ∧ w' = w := by
  rcases st_cases s with rfl | rfl | rfl | rfl | rfl | rfl | h
  · go_enter Try.func23, Try.ntmps23
    go_wp2
    go_ret3
    exact ⟨rfl, rfl⟩
  · go_enter Try.func23, Try.ntmps23
    go_wp2
    go_ret3
    exact ⟨rfl, rfl⟩
  · go_enter Try.func23, Try.ntmps23
    go_wp2
    go_ret3
    exact ⟨rfl, rfl⟩
  · go_enter Try.func23, Try.ntmps23
    go_wp2
    go_ret3
    exact ⟨rfl, rfl⟩
  · go_enter Try.func23, Try.ntmps23
    go_wp2
    go_ret3
    exact ⟨rfl, rfl⟩
  · go_enter Try.func23, Try.ntmps23
    go_wp2
    go_ret3
    exact ⟨rfl, rfl⟩
  have hn := out_ne h
  rw [hear_out hn]
  obtain ⟨h0, h1, h2, h3, h4, h5⟩ := hn
  clear h
  go_enter Try.func23, Try.ntmps23
  go_wp2
  go_ret3
  exact ⟨rfl, rfl⟩

set_option maxHeartbeats 4000000 in
theorem hearOff_any (s : Int) (w : World) : Calls Try.prog 22 #[.int .i64 s] w fun e w' => e = .returned (.tuple #[.int .i64 (hear s false true).1, .int .i64 (hear s false true).2.1]) ∧ w' = w := by
  rcases st_cases s with rfl | rfl | rfl | rfl | rfl | rfl | h
  · go_enter Try.func22, Try.ntmps22
    go_wp2
    go_ret2
    exact ⟨rfl, rfl⟩
  · go_enter Try.func22, Try.ntmps22
    go_wp2
    go_ret2
    exact ⟨rfl, rfl⟩
  · go_enter Try.func22, Try.ntmps22
    go_wp2
    go_ret2
    exact ⟨rfl, rfl⟩
  · go_enter Try.func22, Try.ntmps22
    go_wp2
    go_ret2
    exact ⟨rfl, rfl⟩
  · go_enter Try.func22, Try.ntmps22
    go_wp2
    go_ret2
    exact ⟨rfl, rfl⟩
  · go_enter Try.func22, Try.ntmps22
    go_wp2
    go_ret2
    exact ⟨rfl, rfl⟩
  have hn := out_ne h
  rw [hear_out hn]
  obtain ⟨h0, h1, h2, h3, h4, h5⟩ := hn
  clear h
  go_enter Try.func22, Try.ntmps22
  go_wp2
  go_ret2
  exact ⟨rfl, rfl⟩

theorem hear_off (s : Int) (ag : Bool) : (hear s false ag) = ((hear s false true).1, (hear s false true).2.1, false) := by
  unfold hear
  simp only [Bool.false_eq_true, if_false]
  repeat' split
  all_goals rfl

set_option maxHeartbeats 4000000 in
theorem Hear_any (s : Int) (on ag : Bool) (w : World) : Calls Try.prog 15 #[.int .i64 s, .bool on, .bool ag] w fun e w' => e = .returned (RHear (hear s on ag)) ∧ w' = w := by
  cases on with
  | false =>
    have HO := Hid.mk' (hearOff_any s w)
    rw [hear_off]
    generalize (hear s false true).1 = x at *
    generalize (hear s false true).2.1 = y at *
    go_enter Try.func15, Try.ntmps15
    go_wp2_with fail
    refine HO.out.mono ?_
    rintro e w1 ⟨rfl, rfl⟩
    go_wp2
    go_ret3
    exact ⟨rfl, rfl⟩
  | true =>
    by_cases h0 : s = 0
    · subst h0
      cases ag with
      | false =>
        go_enter Try.func15, Try.ntmps15
        go_wp2
        go_ret3
        exact ⟨rfl, rfl⟩
      | true =>
        have HO := Hid.mk' (hearOn_any 0 w)
        go_enter Try.func15, Try.ntmps15
        go_wp2_with fail
        refine HO.out.mono ?_
        rintro e w1 ⟨rfl, rfl⟩
        simp only [RHear]
        go_wp2
        go_ret3
        exact ⟨rfl, rfl⟩
    · have HO := Hid.mk' (hearOn_any s w)
      have e : hear s true ag = hear s true true := by unfold hear; simp [h0]
      rw [e]
      unfold RHear at *
      generalize (hear s true true).1 = x at *
      generalize (hear s true true).2.1 = y at *
      generalize (hear s true true).2.2 = z at *
      clear e
      cases ag
      all_goals
        go_enter Try.func15, Try.ntmps15
        go_wp2_with fail
        refine HO.out.mono ?_
        rintro e w1 ⟨rfl, rfl⟩
        go_wp2
        go_ret3
        exact ⟨rfl, rfl⟩

theorem ask_out {s : Int} (h : s < 0 ∨ 5 < s) (on : Bool) : ask s on = (s, 0, 1) := by
  unfold ask
  rcases h with h | h
  · rw [if_pos h]
  · rw [if_neg (by omega), if_pos h]

set_option maxHeartbeats 4000000 in
theorem askOn_any (s : Int) (w : World) (h0 : 0 ≤ s) (h5 : s ≤ 5) : Calls Try.prog 11 #[.int .i64 s] w fun e w' => e = .returned (RAsk (ask s true)) ∧ w' = w := by
  rcases st_cases s with rfl | rfl | rfl | rfl | rfl | rfl | h
  · clear h0 h5
    go_enter Try.func11, Try.ntmps11
    go_wp2
    go_ret3
    exact ⟨rfl, rfl⟩
  · clear h0 h5
    go_enter Try.func11, Try.ntmps11
    go_wp2
    go_ret3
    exact ⟨rfl, rfl⟩
  · clear h0 h5
    go_enter Try.func11, Try.ntmps11
    go_wp2
    go_ret3
    exact ⟨rfl, rfl⟩
  · clear h0 h5
    go_enter Try.func11, Try.ntmps11
    go_wp2
    go_ret3
    exact ⟨rfl, rfl⟩
  · clear h0 h5
    go_enter Try.func11, Try.ntmps11
    go_wp2
    go_ret3
    exact ⟨rfl, rfl⟩
  · clear h0 h5
    go_enter Try.func11, Try.ntmps11
    go_wp2
    go_ret3
    exact ⟨rfl, rfl⟩
  omega

set_option maxHeartbeats 4000000 in
theorem askOff_any (s : Int) (w : World) (h0 : 0 ≤ s) (h5 : s ≤ 5) : Calls Try.prog 12 #[.int .i64 s] w fun e w' => e = .returned (RAsk (ask s false)) ∧ w' = w := by
  rcases st_cases s with rfl | rfl | rfl | rfl | rfl | rfl | h
  · clear h0 h5
    go_enter Try.func12, Try.ntmps12
    go_wp2
    go_ret3
    exact ⟨rfl, rfl⟩
  · clear h0 h5
    go_enter Try.func12, Try.ntmps12
    go_wp2
    go_ret3
    exact ⟨rfl, rfl⟩
  · clear h0 h5
    go_enter Try.func12, Try.ntmps12
    go_wp2
    go_ret3
    exact ⟨rfl, rfl⟩
  · clear h0 h5
    go_enter Try.func12, Try.ntmps12
    go_wp2
    go_ret3
    exact ⟨rfl, rfl⟩
  · clear h0 h5
    go_enter Try.func12, Try.ntmps12
    go_wp2
    go_ret3
    exact ⟨rfl, rfl⟩
  · clear h0 h5
    go_enter Try.func12, Try.ntmps12
    go_wp2
    go_ret3
    exact ⟨rfl, rfl⟩
  omega

set_option maxHeartbeats 4000000 in
theorem Ask_any (s : Int) (on : Bool) (w : World) : Calls Try.prog 5 #[.int .i64 s, .bool on] w fun e w' => e = .returned (RAsk (ask s on)) ∧ w' = w := by
  have HS := Hid.mk' (isState_any s w)
  by_cases h : 0 ≤ s ∧ s ≤ 5
  · have e : isSt s = true := decide_eq_true h
    rw [e] at HS
    clear e
    cases on with
    | true =>
      have HO := Hid.mk' (askOn_any s w h.1 h.2)
      unfold RAsk at *
      generalize (ask s true).1 = x at *
      generalize (ask s true).2.1 = y at *
      generalize (ask s true).2.2 = z at *
      clear h
      go_enter Try.func5, Try.ntmps5
      go_wp2_with fail
      refine HS.out.mono ?_
      rintro e w1 ⟨rfl, rfl⟩
      go_wp2_with fail
      refine HO.out.mono ?_
      rintro e w1 ⟨rfl, rfl⟩
      go_wp2
      go_ret3
      exact ⟨rfl, rfl⟩
    | false =>
      have HO := Hid.mk' (askOff_any s w h.1 h.2)
      unfold RAsk at *
      generalize (ask s false).1 = x at *
      generalize (ask s false).2.1 = y at *
      generalize (ask s false).2.2 = z at *
      clear h
      go_enter Try.func5, Try.ntmps5
      go_wp2_with fail
      refine HS.out.mono ?_
      rintro e w1 ⟨rfl, rfl⟩
      go_wp2_with fail
      refine HO.out.mono ?_
      rintro e w1 ⟨rfl, rfl⟩
      go_wp2
      go_ret3
      exact ⟨rfl, rfl⟩
  · have e : isSt s = false := decide_eq_false h
    rw [e] at HS
    rw [ask_out (by omega)]
    clear e h
    go_enter Try.func5, Try.ntmps5
    go_wp2_with fail
    refine HS.out.mono ?_
    rintro e w1 ⟨rfl, rfl⟩
    go_wp2
    go_ret3
    exact ⟨rfl, rfl⟩

/-- the byte of a word -/
def cmdB (us on : Bool) : Int := if us then (if on then 251 else 252) else (if on then 253 else 254)
set_option maxHeartbeats 4000000 in
theorem command_any (us on : Bool) (w : World) : Calls Try.prog 24 #[.bool us, .bool on] w fun e w' => e = .returned (.int .u8 (cmdB us on)) ∧ w' = w := by
  cases us <;> cases on
  all_goals
    go_enter Try.func24, Try.ntmps24
    go_wp2
    go_ret
    exact ⟨rfl, rfl⟩
end Go.Proofs.Ytfehlfjondelnab.Q
