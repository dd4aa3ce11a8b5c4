/-
  Walks: farkeep.QnegQuiet, QnegLast and QnegAnswered return true. No condition.
-/
import Derived.Test.YtfehlfjondelnaaQLives
namespace Go.Proofs.Ytfehlfjondelnaa.Q
open Go.RowKit Go.Proofs.Ytfehlfjondelnaa

theorem Hear_at (s : Int) (on ag : Bool) (r1 r2 : Int) (r3 : Bool) (h : hear s on ag = (r1, r2, r3)) (w : World) :
    Calls Try.prog 9 #[.int .i64 s, .bool on, .bool ag] w fun e w' => e = .returned (.tuple #[.int .i64 r1, .int .i64 r2, .bool r3]) ∧ w' = w := by
  have := Hear_any s on ag w
  rw [h] at this
  exact this
theorem Ask_at (s : Int) (on : Bool) (r1 r2 r3 : Int) (h : ask s on = (r1, r2, r3)) (w : World) :
    Calls Try.prog 11 #[.int .i64 s, .bool on] w fun e w' => e = .returned (.tuple #[.int .i64 r1, .int .i64 r2, .int .i64 r3]) ∧ w' = w := by
  have := Ask_any s on w
  rw [h] at this
  exact this
theorem chain {w w1 w2 : World} (h1 : Below w.heap.size w w1) (h2 : Below w1.heap.size w1 w2) : Below w.heap.size w w2 := h1.trans (h2.mono h1.size)

set_option maxHeartbeats 4000000 in
theorem QnegQuiet_any (on ag : Bool) (w : World) : Calls Try.prog 6 #[.bool on, .bool ag] w fun e w' => e = .returned (.bool true) ∧ Below w.heap.size w w' := by
  cases on <;> cases ag
  · go_enter Try.func6, Try.ntmps6
    go_wp2_with fail
    refine (Hear_at 0 false false 0 0 false rfl _).mono ?_
    rintro e w1 ⟨rfl, rfl⟩
    go_wp2_with fail
    refine (lives_any _).mono ?_
    rintro e w2 ⟨rfl, h2⟩
    have HB2 := Hid.mk' h2
    clear h2
    go_wp2
    go_ret
    exact ⟨rfl, HB2.out⟩
  · go_enter Try.func6, Try.ntmps6
    go_wp2_with fail
    refine (Hear_at 0 false true 0 0 false rfl _).mono ?_
    rintro e w1 ⟨rfl, rfl⟩
    go_wp2_with fail
    refine (lives_any _).mono ?_
    rintro e w2 ⟨rfl, h2⟩
    have HB2 := Hid.mk' h2
    clear h2
    go_wp2
    go_ret
    exact ⟨rfl, HB2.out⟩
  · go_enter Try.func6, Try.ntmps6
    go_wp2_with fail
    refine (Hear_at 1 true false 1 0 false rfl _).mono ?_
    rintro e w1 ⟨rfl, rfl⟩
    go_wp2_with fail
    refine (lives_any _).mono ?_
    rintro e w2 ⟨rfl, h2⟩
    have HB2 := Hid.mk' h2
    clear h2
    go_wp2
    go_ret
    exact ⟨rfl, HB2.out⟩
  · go_enter Try.func6, Try.ntmps6
    go_wp2_with fail
    refine (Hear_at 1 true true 1 0 false rfl _).mono ?_
    rintro e w1 ⟨rfl, rfl⟩
    go_wp2_with fail
    refine (lives_any _).mono ?_
    rintro e w2 ⟨rfl, h2⟩
    have HB2 := Hid.mk' h2
    clear h2
    go_wp2
    go_ret
    exact ⟨rfl, HB2.out⟩

set_option maxHeartbeats 8000000 in
theorem QnegLast_any (s : Int) (ag : Bool) (w : World) : Calls Try.prog 7 #[.int .i64 s, .bool ag] w fun e w' => e = .returned (.bool true) ∧ Below w.heap.size w w' := by
  rcases st_cases s with rfl | rfl | rfl | rfl | rfl | rfl | h
  · cases ag
    · go_enter Try.func7, Try.ntmps7
      go_wp2_with fail
      refine (lives_any _).mono ?_
      rintro e w1 ⟨rfl, h1⟩
      have HB1 := Hid.mk' h1
      clear h1
      go_wp2_with fail
      refine (Hear_at 0 false false 0 0 false rfl _).mono ?_
      rintro e w2 ⟨rfl, rfl⟩
      go_wp2_with fail
      refine (Hear_at 0 true false 0 2 false rfl _).mono ?_
      rintro e w3 ⟨rfl, rfl⟩
      go_wp2
      go_ret
      exact ⟨rfl, HB1.out⟩
    · go_enter Try.func7, Try.ntmps7
      go_wp2_with fail
      refine (lives_any _).mono ?_
      rintro e w1 ⟨rfl, h1⟩
      have HB1 := Hid.mk' h1
      clear h1
      go_wp2_with fail
      refine (Hear_at 0 false true 0 0 false rfl _).mono ?_
      rintro e w2 ⟨rfl, rfl⟩
      go_wp2_with fail
      refine (Hear_at 0 true true 1 1 false rfl _).mono ?_
      rintro e w3 ⟨rfl, rfl⟩
      go_wp2
      go_ret
      exact ⟨rfl, HB1.out⟩
  · cases ag
    · go_enter Try.func7, Try.ntmps7
      go_wp2_with fail
      refine (lives_any _).mono ?_
      rintro e w1 ⟨rfl, h1⟩
      have HB1 := Hid.mk' h1
      clear h1
      go_wp2_with fail
      refine (Hear_at 1 false false 0 2 false rfl _).mono ?_
      rintro e w2 ⟨rfl, rfl⟩
      go_wp2_with fail
      refine (Hear_at 0 true false 0 2 false rfl _).mono ?_
      rintro e w3 ⟨rfl, rfl⟩
      go_wp2
      go_ret
      exact ⟨rfl, HB1.out⟩
    · go_enter Try.func7, Try.ntmps7
      go_wp2_with fail
      refine (lives_any _).mono ?_
      rintro e w1 ⟨rfl, h1⟩
      have HB1 := Hid.mk' h1
      clear h1
      go_wp2_with fail
      refine (Hear_at 1 false true 0 2 false rfl _).mono ?_
      rintro e w2 ⟨rfl, rfl⟩
      go_wp2_with fail
      refine (Hear_at 0 true true 1 1 false rfl _).mono ?_
      rintro e w3 ⟨rfl, rfl⟩
      go_wp2
      go_ret
      exact ⟨rfl, HB1.out⟩
  · cases ag
    · go_enter Try.func7, Try.ntmps7
      go_wp2_with fail
      refine (lives_any _).mono ?_
      rintro e w1 ⟨rfl, h1⟩
      have HB1 := Hid.mk' h1
      clear h1
      go_wp2_with fail
      refine (Hear_at 2 false false 0 0 false rfl _).mono ?_
      rintro e w2 ⟨rfl, rfl⟩
      go_wp2_with fail
      refine (Hear_at 0 true false 0 2 false rfl _).mono ?_
      rintro e w3 ⟨rfl, rfl⟩
      go_wp2
      go_ret
      exact ⟨rfl, HB1.out⟩
    · go_enter Try.func7, Try.ntmps7
      go_wp2_with fail
      refine (lives_any _).mono ?_
      rintro e w1 ⟨rfl, h1⟩
      have HB1 := Hid.mk' h1
      clear h1
      go_wp2_with fail
      refine (Hear_at 2 false true 0 0 false rfl _).mono ?_
      rintro e w2 ⟨rfl, rfl⟩
      go_wp2_with fail
      refine (Hear_at 0 true true 1 1 false rfl _).mono ?_
      rintro e w3 ⟨rfl, rfl⟩
      go_wp2
      go_ret
      exact ⟨rfl, HB1.out⟩
  · cases ag
    · go_enter Try.func7, Try.ntmps7
      go_wp2_with fail
      refine (lives_any _).mono ?_
      rintro e w1 ⟨rfl, h1⟩
      have HB1 := Hid.mk' h1
      clear h1
      go_wp2_with fail
      refine (Hear_at 3 false false 4 1 false rfl _).mono ?_
      rintro e w2 ⟨rfl, rfl⟩
      go_wp2_with fail
      refine (Hear_at 0 true false 0 2 false rfl _).mono ?_
      rintro e w3 ⟨rfl, rfl⟩
      go_wp2
      go_ret
      exact ⟨rfl, HB1.out⟩
    · go_enter Try.func7, Try.ntmps7
      go_wp2_with fail
      refine (lives_any _).mono ?_
      rintro e w1 ⟨rfl, h1⟩
      have HB1 := Hid.mk' h1
      clear h1
      go_wp2_with fail
      refine (Hear_at 3 false true 4 1 false rfl _).mono ?_
      rintro e w2 ⟨rfl, rfl⟩
      go_wp2_with fail
      refine (Hear_at 0 true true 1 1 false rfl _).mono ?_
      rintro e w3 ⟨rfl, rfl⟩
      go_wp2
      go_ret
      exact ⟨rfl, HB1.out⟩
  · cases ag
    · go_enter Try.func7, Try.ntmps7
      go_wp2_with fail
      refine (lives_any _).mono ?_
      rintro e w1 ⟨rfl, h1⟩
      have HB1 := Hid.mk' h1
      clear h1
      go_wp2_with fail
      refine (Hear_at 4 false false 0 0 false rfl _).mono ?_
      rintro e w2 ⟨rfl, rfl⟩
      go_wp2_with fail
      refine (Hear_at 0 true false 0 2 false rfl _).mono ?_
      rintro e w3 ⟨rfl, rfl⟩
      go_wp2
      go_ret
      exact ⟨rfl, HB1.out⟩
    · go_enter Try.func7, Try.ntmps7
      go_wp2_with fail
      refine (lives_any _).mono ?_
      rintro e w1 ⟨rfl, h1⟩
      have HB1 := Hid.mk' h1
      clear h1
      go_wp2_with fail
      refine (Hear_at 4 false true 0 0 false rfl _).mono ?_
      rintro e w2 ⟨rfl, rfl⟩
      go_wp2_with fail
      refine (Hear_at 0 true true 1 1 false rfl _).mono ?_
      rintro e w3 ⟨rfl, rfl⟩
      go_wp2
      go_ret
      exact ⟨rfl, HB1.out⟩
  · cases ag
    · go_enter Try.func7, Try.ntmps7
      go_wp2_with fail
      refine (lives_any _).mono ?_
      rintro e w1 ⟨rfl, h1⟩
      have HB1 := Hid.mk' h1
      clear h1
      go_wp2_with fail
      refine (Hear_at 5 false false 0 0 false rfl _).mono ?_
      rintro e w2 ⟨rfl, rfl⟩
      go_wp2_with fail
      refine (Hear_at 0 true false 0 2 false rfl _).mono ?_
      rintro e w3 ⟨rfl, rfl⟩
      go_wp2
      go_ret
      exact ⟨rfl, HB1.out⟩
    · go_enter Try.func7, Try.ntmps7
      go_wp2_with fail
      refine (lives_any _).mono ?_
      rintro e w1 ⟨rfl, h1⟩
      have HB1 := Hid.mk' h1
      clear h1
      go_wp2_with fail
      refine (Hear_at 5 false true 0 0 false rfl _).mono ?_
      rintro e w2 ⟨rfl, rfl⟩
      go_wp2_with fail
      refine (Hear_at 0 true true 1 1 false rfl _).mono ?_
      rintro e w3 ⟨rfl, rfl⟩
      go_wp2
      go_ret
      exact ⟨rfl, HB1.out⟩
  · rcases h with h | h
    · go_enter Try.func7, Try.ntmps7
      go_wp2_with fail
      refine (lives_any _).mono ?_
      rintro e w1 ⟨rfl, h1⟩
      have HB1 := Hid.mk' h1
      clear h1
      go_wp2_with fail
      refine (lives_any _).mono ?_
      rintro e w2 ⟨rfl, h2⟩
      have HB2 := Hid.mk' (chain HB1.out h2)
      clear h2
      go_wp2
      go_ret
      exact ⟨rfl, HB2.out⟩
    · have h0 : ¬ s < 0 := by omega
      go_enter Try.func7, Try.ntmps7
      go_wp2_with fail
      refine (lives_any _).mono ?_
      rintro e w1 ⟨rfl, h1⟩
      have HB1 := Hid.mk' h1
      clear h1
      go_wp2_with fail
      refine (lives_any _).mono ?_
      rintro e w2 ⟨rfl, h2⟩
      have HB2 := Hid.mk' (chain HB1.out h2)
      clear h2
      go_wp2
      go_ret
      exact ⟨rfl, HB2.out⟩

set_option maxHeartbeats 8000000 in
theorem QnegAnswered_any (ag : Bool) (w : World) : Calls Try.prog 8 #[.bool ag] w fun e w' => e = .returned (.bool true) ∧ Below w.heap.size w w' := by
  cases ag
  · go_enter Try.func8, Try.ntmps8
    go_wp2_with fail
    refine (Ask_at 0 true 4 1 0 rfl _).mono ?_
    rintro e w1 ⟨rfl, rfl⟩
    go_wp2_with fail
    refine (Hear_at 4 true false 1 0 false rfl _).mono ?_
    rintro e w2 ⟨rfl, rfl⟩
    go_wp2_with fail
    refine (Hear_at 4 false false 0 0 false rfl _).mono ?_
    rintro e w3 ⟨rfl, rfl⟩
    go_wp2_with fail
    refine (Ask_at 1 false 2 2 0 rfl _).mono ?_
    rintro e w4 ⟨rfl, rfl⟩
    go_wp2_with fail
    refine (Hear_at 2 false false 0 0 false rfl _).mono ?_
    rintro e w5 ⟨rfl, rfl⟩
    go_wp2_with fail
    refine (lives_any _).mono ?_
    rintro e w6 ⟨rfl, h6⟩
    have HB6 := Hid.mk' h6
    clear h6
    go_wp2
    go_ret
    exact ⟨rfl, HB6.out⟩
  · go_enter Try.func8, Try.ntmps8
    go_wp2_with fail
    refine (Ask_at 0 true 4 1 0 rfl _).mono ?_
    rintro e w1 ⟨rfl, rfl⟩
    go_wp2_with fail
    refine (Hear_at 4 true true 1 0 false rfl _).mono ?_
    rintro e w2 ⟨rfl, rfl⟩
    go_wp2_with fail
    refine (Hear_at 4 false true 0 0 false rfl _).mono ?_
    rintro e w3 ⟨rfl, rfl⟩
    go_wp2_with fail
    refine (Ask_at 1 false 2 2 0 rfl _).mono ?_
    rintro e w4 ⟨rfl, rfl⟩
    go_wp2_with fail
    refine (Hear_at 2 false true 0 0 false rfl _).mono ?_
    rintro e w5 ⟨rfl, rfl⟩
    go_wp2_with fail
    refine (lives_any _).mono ?_
    rintro e w6 ⟨rfl, h6⟩
    have HB6 := Hid.mk' h6
    clear h6
    go_wp2
    go_ret
    exact ⟨rfl, HB6.out⟩
end Go.Proofs.Ytfehlfjondelnaa.Q
