/-
  Walks: farkeep.QnegTwice returns true. No condition.
-/
import Derived.Test.YtfehlfjondelnabQLives
namespace Go.Proofs.Ytfehlfjondelnab.Q
open Go.RowKit Go.Proofs.Ytfehlfjondelnab

theorem Hear_at (s : Int) (on ag : Bool) (r1 r2 : Int) (r3 : Bool) (h : hear s on ag = (r1, r2, r3)) (w : World) :
    Calls Try.prog 15 #[.int .i64 s, .bool on, .bool ag] w fun e w' => e = .returned (.tuple #[.int .i64 r1, .int .i64 r2, .bool r3]) ∧ w' = w := by
  have := Hear_any s on ag w
  rw [h] at this
  exact this
theorem Ask_at (s : Int) (on : Bool) (r1 r2 r3 : Int) (h : ask s on = (r1, r2, r3)) (w : World) :
    Calls Try.prog 5 #[.int .i64 s, .bool on] w fun e w' => e = .returned (.tuple #[.int .i64 r1, .int .i64 r2, .int .i64 r3]) ∧ w' = w := by
  have := Ask_any s on w
  rw [h] at this
  exact this
theorem chain {w w1 w2 : World} (h1 : Below w.heap.size w w1) (h2 : Below w1.heap.size w1 w2) : Below w.heap.size w w2 := h1.trans (h2.mono h1.size)

set_option maxHeartbeats 8000000 in
theorem QnegTwice_any (s : Int) (on : Bool) (w : World) : Calls Try.prog 3 #[.int .i64 s, .bool on] w fun e w' => e = .returned (.bool true) ∧ Below w.heap.size w w' := by
  rcases st_cases s with rfl | rfl | rfl | rfl | rfl | rfl | hs
  · cases on
    · go_enter Try.func3, Try.ntmps3
      go_wp2_with fail
      refine (Ask_at 0 false 0 0 7 rfl _).mono ?_
      rintro e w1 ⟨rfl, rfl⟩
      go_wp2_with fail
      refine (lives_any _).mono ?_
      rintro e w2 ⟨rfl, h2⟩
      have HB2 := Hid.mk' h2
      clear h2
      go_wp2_with fail
      refine (lives_any _).mono ?_
      rintro e w3 ⟨rfl, h3⟩
      have HB3 := Hid.mk' (chain HB2.out h3)
      clear h3
      go_wp2
      go_ret
      exact ⟨rfl, HB3.out⟩
    · go_enter Try.func3, Try.ntmps3
      go_wp2_with fail
      refine (Ask_at 0 true 4 1 0 rfl _).mono ?_
      rintro e w1 ⟨rfl, rfl⟩
      go_wp2_with fail
      refine (lives_any _).mono ?_
      rintro e w2 ⟨rfl, h2⟩
      have HB2 := Hid.mk' h2
      clear h2
      go_wp2_with fail
      refine (Ask_at 4 true 4 0 7 rfl _).mono ?_
      rintro e w3 ⟨rfl, rfl⟩
      go_wp2_with fail
      refine (Ask_at 4 false 5 0 0 rfl _).mono ?_
      rintro e w4 ⟨rfl, rfl⟩
      go_wp2_with fail
      refine (Ask_at 5 true 4 0 0 rfl _).mono ?_
      rintro e w5 ⟨rfl, rfl⟩
      go_wp2
      go_ret
      exact ⟨rfl, HB2.out⟩
  · cases on
    · go_enter Try.func3, Try.ntmps3
      go_wp2_with fail
      refine (Ask_at 1 false 2 2 0 rfl _).mono ?_
      rintro e w1 ⟨rfl, rfl⟩
      go_wp2_with fail
      refine (lives_any _).mono ?_
      rintro e w2 ⟨rfl, h2⟩
      have HB2 := Hid.mk' h2
      clear h2
      go_wp2_with fail
      refine (Ask_at 2 false 2 0 7 rfl _).mono ?_
      rintro e w3 ⟨rfl, rfl⟩
      go_wp2_with fail
      refine (Ask_at 2 true 3 0 0 rfl _).mono ?_
      rintro e w4 ⟨rfl, rfl⟩
      go_wp2_with fail
      refine (Ask_at 3 false 2 0 0 rfl _).mono ?_
      rintro e w5 ⟨rfl, rfl⟩
      go_wp2
      go_ret
      exact ⟨rfl, HB2.out⟩
    · go_enter Try.func3, Try.ntmps3
      go_wp2_with fail
      refine (Ask_at 1 true 1 0 7 rfl _).mono ?_
      rintro e w1 ⟨rfl, rfl⟩
      go_wp2_with fail
      refine (lives_any _).mono ?_
      rintro e w2 ⟨rfl, h2⟩
      have HB2 := Hid.mk' h2
      clear h2
      go_wp2_with fail
      refine (lives_any _).mono ?_
      rintro e w3 ⟨rfl, h3⟩
      have HB3 := Hid.mk' (chain HB2.out h3)
      clear h3
      go_wp2
      go_ret
      exact ⟨rfl, HB3.out⟩
  · cases on
    · go_enter Try.func3, Try.ntmps3
      go_wp2_with fail
      refine (Ask_at 2 false 2 0 7 rfl _).mono ?_
      rintro e w1 ⟨rfl, rfl⟩
      go_wp2_with fail
      refine (lives_any _).mono ?_
      rintro e w2 ⟨rfl, h2⟩
      have HB2 := Hid.mk' h2
      clear h2
      go_wp2_with fail
      refine (lives_any _).mono ?_
      rintro e w3 ⟨rfl, h3⟩
      have HB3 := Hid.mk' (chain HB2.out h3)
      clear h3
      go_wp2
      go_ret
      exact ⟨rfl, HB3.out⟩
    · go_enter Try.func3, Try.ntmps3
      go_wp2_with fail
      refine (Ask_at 2 true 3 0 0 rfl _).mono ?_
      rintro e w1 ⟨rfl, rfl⟩
      go_wp2_with fail
      refine (lives_any _).mono ?_
      rintro e w2 ⟨rfl, h2⟩
      have HB2 := Hid.mk' h2
      clear h2
      go_wp2_with fail
      refine (Ask_at 3 true 3 0 7 rfl _).mono ?_
      rintro e w3 ⟨rfl, rfl⟩
      go_wp2_with fail
      refine (Ask_at 3 false 2 0 0 rfl _).mono ?_
      rintro e w4 ⟨rfl, rfl⟩
      go_wp2_with fail
      refine (Ask_at 2 true 3 0 0 rfl _).mono ?_
      rintro e w5 ⟨rfl, rfl⟩
      go_wp2
      go_ret
      exact ⟨rfl, HB2.out⟩
  · cases on
    · go_enter Try.func3, Try.ntmps3
      go_wp2_with fail
      refine (Ask_at 3 false 2 0 0 rfl _).mono ?_
      rintro e w1 ⟨rfl, rfl⟩
      go_wp2_with fail
      refine (lives_any _).mono ?_
      rintro e w2 ⟨rfl, h2⟩
      have HB2 := Hid.mk' h2
      clear h2
      go_wp2_with fail
      refine (Ask_at 2 false 2 0 7 rfl _).mono ?_
      rintro e w3 ⟨rfl, rfl⟩
      go_wp2_with fail
      refine (Ask_at 2 true 3 0 0 rfl _).mono ?_
      rintro e w4 ⟨rfl, rfl⟩
      go_wp2_with fail
      refine (Ask_at 3 false 2 0 0 rfl _).mono ?_
      rintro e w5 ⟨rfl, rfl⟩
      go_wp2
      go_ret
      exact ⟨rfl, HB2.out⟩
    · go_enter Try.func3, Try.ntmps3
      go_wp2_with fail
      refine (Ask_at 3 true 3 0 7 rfl _).mono ?_
      rintro e w1 ⟨rfl, rfl⟩
      go_wp2_with fail
      refine (lives_any _).mono ?_
      rintro e w2 ⟨rfl, h2⟩
      have HB2 := Hid.mk' h2
      clear h2
      go_wp2_with fail
      refine (lives_any _).mono ?_
      rintro e w3 ⟨rfl, h3⟩
      have HB3 := Hid.mk' (chain HB2.out h3)
      clear h3
      go_wp2
      go_ret
      exact ⟨rfl, HB3.out⟩
  · cases on
    · go_enter Try.func3, Try.ntmps3
      go_wp2_with fail
      refine (Ask_at 4 false 5 0 0 rfl _).mono ?_
      rintro e w1 ⟨rfl, rfl⟩
      go_wp2_with fail
      refine (lives_any _).mono ?_
      rintro e w2 ⟨rfl, h2⟩
      have HB2 := Hid.mk' h2
      clear h2
      go_wp2_with fail
      refine (Ask_at 5 false 5 0 7 rfl _).mono ?_
      rintro e w3 ⟨rfl, rfl⟩
      go_wp2_with fail
      refine (Ask_at 5 true 4 0 0 rfl _).mono ?_
      rintro e w4 ⟨rfl, rfl⟩
      go_wp2_with fail
      refine (Ask_at 4 false 5 0 0 rfl _).mono ?_
      rintro e w5 ⟨rfl, rfl⟩
      go_wp2
      go_ret
      exact ⟨rfl, HB2.out⟩
    · go_enter Try.func3, Try.ntmps3
      go_wp2_with fail
      refine (Ask_at 4 true 4 0 7 rfl _).mono ?_
      rintro e w1 ⟨rfl, rfl⟩
      go_wp2_with fail
      refine (lives_any _).mono ?_
      rintro e w2 ⟨rfl, h2⟩
      have HB2 := Hid.mk' h2
      clear h2
      go_wp2_with fail
      refine (lives_any _).mono ?_
      rintro e w3 ⟨rfl, h3⟩
      have HB3 := Hid.mk' (chain HB2.out h3)
      clear h3
      go_wp2
      go_ret
      exact ⟨rfl, HB3.out⟩
  · cases on
    · go_enter Try.func3, Try.ntmps3
      go_wp2_with fail
      refine (Ask_at 5 false 5 0 7 rfl _).mono ?_
      rintro e w1 ⟨rfl, rfl⟩
      go_wp2_with fail
      refine (lives_any _).mono ?_
      rintro e w2 ⟨rfl, h2⟩
      have HB2 := Hid.mk' h2
      clear h2
      go_wp2_with fail
      refine (lives_any _).mono ?_
      rintro e w3 ⟨rfl, h3⟩
      have HB3 := Hid.mk' (chain HB2.out h3)
      clear h3
      go_wp2
      go_ret
      exact ⟨rfl, HB3.out⟩
    · go_enter Try.func3, Try.ntmps3
      go_wp2_with fail
      refine (Ask_at 5 true 4 0 0 rfl _).mono ?_
      rintro e w1 ⟨rfl, rfl⟩
      go_wp2_with fail
      refine (lives_any _).mono ?_
      rintro e w2 ⟨rfl, h2⟩
      have HB2 := Hid.mk' h2
      clear h2
      go_wp2_with fail
      refine (Ask_at 4 true 4 0 7 rfl _).mono ?_
      rintro e w3 ⟨rfl, rfl⟩
      go_wp2_with fail
      refine (Ask_at 4 false 5 0 0 rfl _).mono ?_
      rintro e w4 ⟨rfl, rfl⟩
      go_wp2_with fail
      refine (Ask_at 5 true 4 0 0 rfl _).mono ?_
      rintro e w5 ⟨rfl, rfl⟩
      go_wp2
      go_ret
      exact ⟨rfl, HB2.out⟩
  · cases on
    · go_enter Try.func3, Try.ntmps3
      go_wp2_with fail
      refine (Ask_at s false s 0 1 (ask_out hs _) _).mono ?_
      rintro e w1 ⟨rfl, rfl⟩
      go_wp2_with fail
      refine (lives_any _).mono ?_
      rintro e w2 ⟨rfl, h2⟩
      have HB2 := Hid.mk' h2
      clear h2
      go_wp2_with fail
      refine (lives_any _).mono ?_
      rintro e w3 ⟨rfl, h3⟩
      have HB3 := Hid.mk' (chain HB2.out h3)
      clear h3
      go_wp2
      go_ret
      exact ⟨rfl, HB3.out⟩
    · go_enter Try.func3, Try.ntmps3
      go_wp2_with fail
      refine (Ask_at s true s 0 1 (ask_out hs _) _).mono ?_
      rintro e w1 ⟨rfl, rfl⟩
      go_wp2_with fail
      refine (lives_any _).mono ?_
      rintro e w2 ⟨rfl, h2⟩
      have HB2 := Hid.mk' h2
      clear h2
      go_wp2_with fail
      refine (lives_any _).mono ?_
      rintro e w3 ⟨rfl, h3⟩
      have HB3 := Hid.mk' (chain HB2.out h3)
      clear h3
      go_wp2
      go_ret
      exact ⟨rfl, HB3.out⟩
end Go.Proofs.Ytfehlfjondelnab.Q
