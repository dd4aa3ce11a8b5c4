/-
  Contracts of farref.Bytes at one rune, farref.Rune, farref.RuneText and farref.finalAct; conditions: a text of at most 100 bytes; the variable internal/bytealg.MaxLen holds an int.
-/
import Derived.Test.YtneiiinheimglaaDoorBClass
import Derived.Test.YtneiiinheimglaaDoorBOf
import Derived.Test.YtneiiinheimglaaDoorBByt
namespace Go.Proofs.YtneiiinheimglaaDoor.B
open Go.RowKit Go.Lib Go.Proofs.YtneiiinheimglaaDoor Go.Proofs.YtneiiinheimglaaDoor.W Go.Proofs.YtneiiinheimglaaDoor.Q Go.Proofs.YtneiiinheimglaaDoor.C Go.Proofs.YtneiiinheimglaaDoor.Z

theorem Bytes_small (c : Int) (h0 : 0 ≤ c) (h1 : c < 128) (w : World) : Calls Tryd.prog 29 #[.slice (some ⟨w.heap.size, 0, none⟩) 1 1] (w.alloc (.cells #[.int .i64 c] 3)) fun e w' => e = .returned (.string (bs [sg c])) ∧ Below w.heap.size w w' := by
  have e := sg_nat (c := c) h0 (by omega)
  refine (Y.Bytes_any [sg c] w.heap.size 1 (w.alloc (.cells #[.int .i64 c] 3)) (by simp) (fun k hk => ?_) (by simp)).mono ?_
  · have hk0 : k = 0 := by simpa using hk
    subst hk0
    show _ = some (Value.int .i64 ((sg c).toNat : Int))
    rw [e]
    exact (Box.new w 3 [.int .i64 c]).cell (j := 0) rfl
  · rintro e w' ⟨he, hb⟩
    exact ⟨he, ((Below.refl _ _).alloc (Nat.le_refl _) _).trans (Below.mono hb (by simp))⟩
def isRb (c : Int) : Bool := decide (0 ≤ c ∧ c < 55296 ∨ 57344 ≤ c ∧ c ≤ 1114111)
set_option maxHeartbeats 1000000 in
theorem Rune_any (c : Int) (w : World) : Calls Tryd.prog 53 #[.int .i64 c] w fun e w' => e = .returned (.bool (isRb c)) ∧ w' = w := by
  have H1 := Hid.mk' (Between_any c 0 55295 w)
  have H2 := Hid.mk' (Between_any c 57344 1114111 w)
  by_cases h1 : 0 ≤ c ∧ c ≤ 55295
  · rw [show btw c 0 55295 = true from decide_eq_true h1] at H1
    rw [show isRb c = true from decide_eq_true (.inl ⟨h1.1, by omega⟩)]
    go_enter Tryd.func53, Tryd.ntmps53
    go_wp2_with fail
    refine H1.out.mono ?_
    rintro e w2 ⟨rfl, rfl⟩
    go_wp2
    go_ret
    exact ⟨rfl, rfl⟩
  · rw [show btw c 0 55295 = false from decide_eq_false h1] at H1
    by_cases h2 : 57344 ≤ c ∧ c ≤ 1114111
    · rw [show btw c 57344 1114111 = true from decide_eq_true h2] at H2
      rw [show isRb c = true from decide_eq_true (.inr h2)]
      go_enter Tryd.func53, Tryd.ntmps53
      go_wp2_with fail
      refine H1.out.mono ?_
      rintro e w2 ⟨rfl, rfl⟩
      go_wp2_with fail
      refine H2.out.mono ?_
      rintro e w2 ⟨rfl, rfl⟩
      go_wp2
      go_ret
      exact ⟨rfl, rfl⟩
    · rw [show btw c 57344 1114111 = false from decide_eq_false h2] at H2
      rw [show isRb c = false from decide_eq_false (fun h => h.elim (fun h => h1 ⟨h.1, by omega⟩) h2)]
      go_enter Tryd.func53, Tryd.ntmps53
      go_wp2_with fail
      refine H1.out.mono ?_
      rintro e w2 ⟨rfl, rfl⟩
      go_wp2_with fail
      refine H2.out.mono ?_
      rintro e w2 ⟨rfl, rfl⟩
      go_wp2
      go_ret
      exact ⟨rfl, rfl⟩
theorem RuneBytes_int (c : Int) (w : World) (h : isR c) : Calls Tryd.prog 54 #[.int .i64 c] w fun e w' => e = .returned (.string (bs (encodeRune c))) ∧ Below w.heap.size w w' := by
  unfold isR at h
  obtain ⟨r, rfl⟩ : ∃ r : Nat, c = (r : Int) := ⟨c.toNat, by omega⟩
  exact Y.RuneBytes_any r w (by unfold U.isRune; omega)
theorem enc_bad {c : Int} (h : ¬ isR c) : encodeRune c = encodeRune 65533 := by
  unfold isR at h
  unfold encodeRune
  rw [encodeRuneZ_bad (r := c) (by omega)]
  rfl
set_option maxHeartbeats 1000000 in
theorem RuneText_any (c : Int) (w : World) : Calls Tryd.prog 33 #[.int .i64 c] w fun e w' => e = .returned (.string (bs (encodeRune c))) ∧ Below w.heap.size w w' := by
  have H1 := Hid.mk' (Rune_any c w)
  by_cases h : isR c
  · rw [show isRb c = true from decide_eq_true h] at H1
    have HB := Hid.mk' (show Calls Tryd.prog 54 #[.int .i64 c] w fun e w' => e = .returned (.string (bs (encodeRune c))) ∧ Below w.heap.size w w' from RuneBytes_int c w h)
    generalize bs (encodeRune c) = S at *
    go_enter Tryd.func33, Tryd.ntmps33
    go_wp2_with fail
    refine H1.out.mono ?_
    rintro e w2 ⟨rfl, rfl⟩
    go_wp2_with fail
    refine HB.out.mono ?_
    rintro e w2 ⟨rfl, hb⟩
    have HF := Hid.mk' hb
    clear hb
    go_wp2
    go_ret
    exact ⟨rfl, HF.out⟩
  · rw [show isRb c = false from decide_eq_false h] at H1
    rw [enc_bad h]
    have HB := Hid.mk' (show Calls Tryd.prog 54 #[.int .i64 65533] w fun e w' => e = .returned (.string (bs (encodeRune 65533))) ∧ Below w.heap.size w w' from RuneBytes_int 65533 w (.inr (by decide)))
    generalize bs (encodeRune 65533) = S at *
    go_enter Tryd.func33, Tryd.ntmps33
    go_wp2_with fail
    refine H1.out.mono ?_
    rintro e w2 ⟨rfl, rfl⟩
    go_wp2_with fail
    refine HB.out.mono ?_
    rintro e w2 ⟨rfl, hb⟩
    have HF := Hid.mk' hb
    clear hb
    go_wp2
    go_ret
    exact ⟨rfl, HF.out⟩
end Go.Proofs.YtneiiinheimglaaDoor.B
