/-
  Contracts of farref.stepTable and farref.class; no condition.
-/
import Derived.Test.YtneiiinheimglaaDoorBPRef
namespace Go.Proofs.YtneiiinheimglaaDoor.B
open Go.RowKit Go.Lib Go.Proofs.YtneiiinheimglaaDoor Go.Proofs.YtneiiinheimglaaDoor.W Go.Proofs.YtneiiinheimglaaDoor.Q Go.Proofs.YtneiiinheimglaaDoor.C Go.Proofs.YtneiiinheimglaaDoor.Z

def clsL (k : Nat) : Nat := [120, 101, 98, 99, 105, 107, 100, 109, 91, 93, 92, 112, 102, 110, 117].getD k 0
def rowB (st : Nat) : List UInt8 := (row st).map fun k => k.toUInt8
set_option maxHeartbeats 4000000 in
theorem stepTable_any (st : Nat) (h : st ≤ 10) (w : World) : Calls Tryd.prog 30 #[.int .i64 (st : Int)] w fun e w' => e = .returned (.string (bs (rowB st))) ∧ w' = w := by
  have hc : st = 0 ∨ st = 1 ∨ st = 2 ∨ st = 3 ∨ st = 4 ∨ st = 5 ∨ st = 6 ∨ st = 7 ∨ st = 8 ∨ st = 9 ∨ st = 10 := by omega
  rcases hc with rfl | rfl | rfl | rfl | rfl | rfl | rfl | rfl | rfl | rfl | rfl
  · go_enter Tryd.func30, Tryd.ntmps30
    go_wp2
    go_ret
    exact ⟨rfl, rfl⟩
  · go_enter Tryd.func30, Tryd.ntmps30
    go_wp2
    go_ret
    exact ⟨rfl, rfl⟩
  · go_enter Tryd.func30, Tryd.ntmps30
    go_wp2
    go_ret
    exact ⟨rfl, rfl⟩
  · go_enter Tryd.func30, Tryd.ntmps30
    go_wp2
    go_ret
    exact ⟨rfl, rfl⟩
  · go_enter Tryd.func30, Tryd.ntmps30
    go_wp2
    go_ret
    exact ⟨rfl, rfl⟩
  · go_enter Tryd.func30, Tryd.ntmps30
    go_wp2
    go_ret
    exact ⟨rfl, rfl⟩
  · go_enter Tryd.func30, Tryd.ntmps30
    go_wp2
    go_ret
    exact ⟨rfl, rfl⟩
  · go_enter Tryd.func30, Tryd.ntmps30
    go_wp2
    go_ret
    exact ⟨rfl, rfl⟩
  · go_enter Tryd.func30, Tryd.ntmps30
    go_wp2
    go_ret
    exact ⟨rfl, rfl⟩
  · go_enter Tryd.func30, Tryd.ntmps30
    go_wp2
    go_ret
    exact ⟨rfl, rfl⟩
  · go_enter Tryd.func30, Tryd.ntmps30
    go_wp2
    go_ret
    exact ⟨rfl, rfl⟩

set_option maxHeartbeats 8000000 in
set_option maxRecDepth 100000 in
theorem class_any (c : Int) (w : World) : Calls Tryd.prog 32 #[.int .i64 c] w fun e w' => e = .returned (.int .u8 (clsL (cls c) : Int)) ∧ w' = w := by
  by_cases h0 : c = 24 ∨ c = 26
  · rcases h0 with rfl | rfl
    · rw [show cls 24 = 0 from rfl]
      go_enter Tryd.func32, Tryd.ntmps32
      go_wp2
      go_ret
      exact ⟨rfl, rfl⟩
    · rw [show cls 26 = 0 from rfl]
      go_enter Tryd.func32, Tryd.ntmps32
      go_wp2
      go_ret
      exact ⟨rfl, rfl⟩
  have g24 : (c == 24) = false := beq_false_of_ne (fun e => h0 (.inl e))
  have g26 : (c == 26) = false := beq_false_of_ne (fun e => h0 (.inr (e)))
  by_cases h1 : c = 27
  · subst h1
    rw [show cls 27 = 1 from rfl]
    go_enter Tryd.func32, Tryd.ntmps32
    go_wp2
    go_ret
    exact ⟨rfl, rfl⟩
  have g27 : (c == 27) = false := beq_false_of_ne h1
  by_cases h2 : c = 7
  · subst h2
    rw [show cls 7 = 2 from rfl]
    go_enter Tryd.func32, Tryd.ntmps32
    go_wp2
    go_ret
    exact ⟨rfl, rfl⟩
  have g7 : (c == 7) = false := beq_false_of_ne h2
  have H3 := Hid.mk' (Between_any c 0 31 w)
  by_cases h3 : 0 ≤ c ∧ c ≤ 31
  · rw [show btw c 0 31 = true from decide_eq_true h3] at H3
    rw [show cls c = 3 by unfold cls; rw [if_neg h0, if_neg h1, if_neg h2, if_pos h3]]
    go_enter Tryd.func32, Tryd.ntmps32
    go_wp2_with fail
    refine H3.out.mono ?_
    rintro e w2 ⟨rfl, rfl⟩
    go_wp2
    go_ret
    exact ⟨rfl, rfl⟩
  rw [show btw c 0 31 = false from decide_eq_false h3] at H3
  have H4 := Hid.mk' (Between_any c 32 47 w)
  by_cases h4 : 32 ≤ c ∧ c ≤ 47
  · rw [show btw c 32 47 = true from decide_eq_true h4] at H4
    rw [show cls c = 4 by unfold cls; rw [if_neg h0, if_neg h1, if_neg h2, if_neg h3, if_pos h4]]
    go_enter Tryd.func32, Tryd.ntmps32
    go_wp2_with fail
    refine H3.out.mono ?_
    rintro e w2 ⟨rfl, rfl⟩
    go_wp2_with fail
    refine H4.out.mono ?_
    rintro e w2 ⟨rfl, rfl⟩
    go_wp2
    go_ret
    exact ⟨rfl, rfl⟩
  rw [show btw c 32 47 = false from decide_eq_false h4] at H4
  by_cases h5 : c = 58
  · subst h5
    rw [show cls 58 = 5 from rfl]
    go_enter Tryd.func32, Tryd.ntmps32
    go_wp2_with fail
    refine H3.out.mono ?_
    rintro e w2 ⟨rfl, rfl⟩
    go_wp2_with fail
    refine H4.out.mono ?_
    rintro e w2 ⟨rfl, rfl⟩
    go_wp2
    go_ret
    exact ⟨rfl, rfl⟩
  have g58 : (c == 58) = false := beq_false_of_ne h5
  have H6 := Hid.mk' (Between_any c 48 59 w)
  by_cases h6 : 48 ≤ c ∧ c ≤ 59
  · rw [show btw c 48 59 = true from decide_eq_true h6] at H6
    rw [show cls c = 6 by unfold cls; rw [if_neg h0, if_neg h1, if_neg h2, if_neg h3, if_neg h4, if_neg h5, if_pos h6]]
    go_enter Tryd.func32, Tryd.ntmps32
    go_wp2_with fail
    refine H3.out.mono ?_
    rintro e w2 ⟨rfl, rfl⟩
    go_wp2_with fail
    refine H4.out.mono ?_
    rintro e w2 ⟨rfl, rfl⟩
    go_wp2_with fail
    refine H6.out.mono ?_
    rintro e w2 ⟨rfl, rfl⟩
    go_wp2
    go_ret
    exact ⟨rfl, rfl⟩
  rw [show btw c 48 59 = false from decide_eq_false h6] at H6
  have H7 := Hid.mk' (Between_any c 60 63 w)
  by_cases h7 : 60 ≤ c ∧ c ≤ 63
  · rw [show btw c 60 63 = true from decide_eq_true h7] at H7
    rw [show cls c = 7 by unfold cls; rw [if_neg h0, if_neg h1, if_neg h2, if_neg h3, if_neg h4, if_neg h5, if_neg h6, if_pos h7]]
    go_enter Tryd.func32, Tryd.ntmps32
    go_wp2_with fail
    refine H3.out.mono ?_
    rintro e w2 ⟨rfl, rfl⟩
    go_wp2_with fail
    refine H4.out.mono ?_
    rintro e w2 ⟨rfl, rfl⟩
    go_wp2_with fail
    refine H6.out.mono ?_
    rintro e w2 ⟨rfl, rfl⟩
    go_wp2_with fail
    refine H7.out.mono ?_
    rintro e w2 ⟨rfl, rfl⟩
    go_wp2
    go_ret
    exact ⟨rfl, rfl⟩
  rw [show btw c 60 63 = false from decide_eq_false h7] at H7
  by_cases h8a : c = 91
  · subst h8a
    rw [show cls 91 = 8 from rfl]
    go_enter Tryd.func32, Tryd.ntmps32
    go_wp2_with fail
    refine H3.out.mono ?_
    rintro e w2 ⟨rfl, rfl⟩
    go_wp2_with fail
    refine H4.out.mono ?_
    rintro e w2 ⟨rfl, rfl⟩
    go_wp2_with fail
    refine H6.out.mono ?_
    rintro e w2 ⟨rfl, rfl⟩
    go_wp2_with fail
    refine H7.out.mono ?_
    rintro e w2 ⟨rfl, rfl⟩
    go_wp2
    go_ret
    exact ⟨rfl, rfl⟩
  have g91 : (c == 91) = false := beq_false_of_ne h8a
  by_cases h8b : c = 93
  · subst h8b
    rw [show cls 93 = 9 from rfl]
    go_enter Tryd.func32, Tryd.ntmps32
    go_wp2_with fail
    refine H3.out.mono ?_
    rintro e w2 ⟨rfl, rfl⟩
    go_wp2_with fail
    refine H4.out.mono ?_
    rintro e w2 ⟨rfl, rfl⟩
    go_wp2_with fail
    refine H6.out.mono ?_
    rintro e w2 ⟨rfl, rfl⟩
    go_wp2_with fail
    refine H7.out.mono ?_
    rintro e w2 ⟨rfl, rfl⟩
    go_wp2
    go_ret
    exact ⟨rfl, rfl⟩
  have g93 : (c == 93) = false := beq_false_of_ne h8b
  by_cases h8c : c = 92
  · subst h8c
    rw [show cls 92 = 10 from rfl]
    go_enter Tryd.func32, Tryd.ntmps32
    go_wp2_with fail
    refine H3.out.mono ?_
    rintro e w2 ⟨rfl, rfl⟩
    go_wp2_with fail
    refine H4.out.mono ?_
    rintro e w2 ⟨rfl, rfl⟩
    go_wp2_with fail
    refine H6.out.mono ?_
    rintro e w2 ⟨rfl, rfl⟩
    go_wp2_with fail
    refine H7.out.mono ?_
    rintro e w2 ⟨rfl, rfl⟩
    go_wp2
    go_ret
    exact ⟨rfl, rfl⟩
  have g92 : (c == 92) = false := beq_false_of_ne h8c
  by_cases h9 : c = 80 ∨ c = 88 ∨ c = 94 ∨ c = 95
  · rcases h9 with rfl | rfl | rfl | rfl
    · rw [show cls 80 = 11 from rfl]
      go_enter Tryd.func32, Tryd.ntmps32
      go_wp2_with fail
      refine H3.out.mono ?_
      rintro e w2 ⟨rfl, rfl⟩
      go_wp2_with fail
      refine H4.out.mono ?_
      rintro e w2 ⟨rfl, rfl⟩
      go_wp2_with fail
      refine H6.out.mono ?_
      rintro e w2 ⟨rfl, rfl⟩
      go_wp2_with fail
      refine H7.out.mono ?_
      rintro e w2 ⟨rfl, rfl⟩
      go_wp2
      go_ret
      exact ⟨rfl, rfl⟩
    · rw [show cls 88 = 11 from rfl]
      go_enter Tryd.func32, Tryd.ntmps32
      go_wp2_with fail
      refine H3.out.mono ?_
      rintro e w2 ⟨rfl, rfl⟩
      go_wp2_with fail
      refine H4.out.mono ?_
      rintro e w2 ⟨rfl, rfl⟩
      go_wp2_with fail
      refine H6.out.mono ?_
      rintro e w2 ⟨rfl, rfl⟩
      go_wp2_with fail
      refine H7.out.mono ?_
      rintro e w2 ⟨rfl, rfl⟩
      go_wp2
      go_ret
      exact ⟨rfl, rfl⟩
    · rw [show cls 94 = 11 from rfl]
      go_enter Tryd.func32, Tryd.ntmps32
      go_wp2_with fail
      refine H3.out.mono ?_
      rintro e w2 ⟨rfl, rfl⟩
      go_wp2_with fail
      refine H4.out.mono ?_
      rintro e w2 ⟨rfl, rfl⟩
      go_wp2_with fail
      refine H6.out.mono ?_
      rintro e w2 ⟨rfl, rfl⟩
      go_wp2_with fail
      refine H7.out.mono ?_
      rintro e w2 ⟨rfl, rfl⟩
      go_wp2
      go_ret
      exact ⟨rfl, rfl⟩
    · rw [show cls 95 = 11 from rfl]
      go_enter Tryd.func32, Tryd.ntmps32
      go_wp2_with fail
      refine H3.out.mono ?_
      rintro e w2 ⟨rfl, rfl⟩
      go_wp2_with fail
      refine H4.out.mono ?_
      rintro e w2 ⟨rfl, rfl⟩
      go_wp2_with fail
      refine H6.out.mono ?_
      rintro e w2 ⟨rfl, rfl⟩
      go_wp2_with fail
      refine H7.out.mono ?_
      rintro e w2 ⟨rfl, rfl⟩
      go_wp2
      go_ret
      exact ⟨rfl, rfl⟩
  have g80 : (c == 80) = false := beq_false_of_ne (fun e => h9 (.inl e))
  have g88 : (c == 88) = false := beq_false_of_ne (fun e => h9 (.inr (.inl e)))
  have g94 : (c == 94) = false := beq_false_of_ne (fun e => h9 (.inr (.inr (.inl e))))
  have g95 : (c == 95) = false := beq_false_of_ne (fun e => h9 (.inr (.inr (.inr (e)))))
  have H10 := Hid.mk' (Between_any c 64 126 w)
  by_cases h10 : 64 ≤ c ∧ c ≤ 126
  · rw [show btw c 64 126 = true from decide_eq_true h10] at H10
    rw [show cls c = 12 by unfold cls; rw [if_neg h0, if_neg h1, if_neg h2, if_neg h3, if_neg h4, if_neg h5, if_neg h6, if_neg h7, if_neg h8a, if_neg h8b, if_neg h8c, if_neg h9, if_pos h10]]
    go_enter Tryd.func32, Tryd.ntmps32
    go_wp2_with fail
    refine H3.out.mono ?_
    rintro e w2 ⟨rfl, rfl⟩
    go_wp2_with fail
    refine H4.out.mono ?_
    rintro e w2 ⟨rfl, rfl⟩
    go_wp2_with fail
    refine H6.out.mono ?_
    rintro e w2 ⟨rfl, rfl⟩
    go_wp2_with fail
    refine H7.out.mono ?_
    rintro e w2 ⟨rfl, rfl⟩
    go_wp2_with fail
    refine H10.out.mono ?_
    rintro e w2 ⟨rfl, rfl⟩
    go_wp2
    go_ret
    exact ⟨rfl, rfl⟩
  rw [show btw c 64 126 = false from decide_eq_false h10] at H10
  have H11 := Hid.mk' (Between_any c 160 1114111 w)
  by_cases h11 : 160 ≤ c ∧ c ≤ 1114111
  · rw [show btw c 160 1114111 = true from decide_eq_true h11] at H11
    rw [show cls c = 14 by unfold cls; rw [if_neg h0, if_neg h1, if_neg h2, if_neg h3, if_neg h4, if_neg h5, if_neg h6, if_neg h7, if_neg h8a, if_neg h8b, if_neg h8c, if_neg h9, if_neg h10, if_pos h11]]
    go_enter Tryd.func32, Tryd.ntmps32
    go_wp2_with fail
    refine H3.out.mono ?_
    rintro e w2 ⟨rfl, rfl⟩
    go_wp2_with fail
    refine H4.out.mono ?_
    rintro e w2 ⟨rfl, rfl⟩
    go_wp2_with fail
    refine H6.out.mono ?_
    rintro e w2 ⟨rfl, rfl⟩
    go_wp2_with fail
    refine H7.out.mono ?_
    rintro e w2 ⟨rfl, rfl⟩
    go_wp2_with fail
    refine H10.out.mono ?_
    rintro e w2 ⟨rfl, rfl⟩
    go_wp2_with fail
    refine H11.out.mono ?_
    rintro e w2 ⟨rfl, rfl⟩
    go_wp2
    go_ret
    exact ⟨rfl, rfl⟩
  rw [show btw c 160 1114111 = false from decide_eq_false h11] at H11
  rw [show cls c = 13 by unfold cls; rw [if_neg h0, if_neg h1, if_neg h2, if_neg h3, if_neg h4, if_neg h5, if_neg h6, if_neg h7, if_neg h8a, if_neg h8b, if_neg h8c, if_neg h9, if_neg h10, if_neg h11]]
  go_enter Tryd.func32, Tryd.ntmps32
  go_wp2_with fail
  refine H3.out.mono ?_
  rintro e w2 ⟨rfl, rfl⟩
  go_wp2_with fail
  refine H4.out.mono ?_
  rintro e w2 ⟨rfl, rfl⟩
  go_wp2_with fail
  refine H6.out.mono ?_
  rintro e w2 ⟨rfl, rfl⟩
  go_wp2_with fail
  refine H7.out.mono ?_
  rintro e w2 ⟨rfl, rfl⟩
  go_wp2_with fail
  refine H10.out.mono ?_
  rintro e w2 ⟨rfl, rfl⟩
  go_wp2_with fail
  refine H11.out.mono ?_
  rintro e w2 ⟨rfl, rfl⟩
  go_wp2
  go_ret
  exact ⟨rfl, rfl⟩
end Go.Proofs.YtneiiinheimglaaDoor.B
