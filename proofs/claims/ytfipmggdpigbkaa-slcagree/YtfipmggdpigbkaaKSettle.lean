/-
  Contract of slc.settle; conditions: both threes are of one function, his level is at most 3.
-/
import Derived.Test.YtfipmggdpigbkaaKSet3
namespace Go.Proofs.Ytfipmggdpigbkaa.K
open Go.RowKit Go.Proofs.Ytfipmggdpigbkaa Go.Proofs.Ytfipmggdpigbkaa.W Go.Proofs.Ytfipmggdpigbkaa.Q

theorem settle_any (f o y L c : UInt8) (sure : Bool) (hL : L.toNat ≤ 3) (w : World) :
    Calls Try.prog 23 #[T3 f o y, T3 f L c, .bool sure] w fun e w' => e = .returned (RS (st3 f o y L c sure) f) ∧ Below w.heap.size w w' := by
  by_cases h1 : L = o ∧ c = y
  · have e : st3 f o y L c sure = ((o, y), (0, 0, 0), false) := by unfold st3; rw [if_pos h1]
    rw [e]
    obtain ⟨rfl, rfl⟩ := h1
    exact settle_same _ _ _ _ w
  cases sure with
  | true =>
    by_cases h3 : L = 3
    · have e : st3 f o y L c true = ((o, y), (0, 0, 0), false) := by unfold st3; rw [if_neg h1, if_pos rfl, if_pos h3]
      rw [e]
      exact settle_asked _ _ _ _ _ h1 h3 w
    · have e : st3 f o y L c true = ((L, c), (0, 0, 0), false) := by unfold st3; rw [if_neg h1, if_pos rfl, if_neg h3]
      rw [e]
      exact settle_sure _ _ _ _ _ h1 h3 w
  | false =>
    by_cases h0 : L = 0
    · have e : st3 f o y L c false = ((L, c), (f, 128 + L, c), true) := by unfold st3; rw [if_neg h1, if_neg (by decide), if_pos h0]
      rw [e]
      exact settle_nokey _ _ _ _ _ h1 h0 w
    by_cases h3 : L = 3
    · have e : st3 f o y L c false = ((o, y), (f, o, y), true) := by unfold st3; rw [if_neg h1, if_neg (by decide), if_neg h0, if_pos h3]
      rw [e]
      exact settle_told _ _ _ _ _ h1 h0 h3 w
    by_cases ho : o = 1
    · by_cases hL1 : L = 1
      · have e : st3 f o y L c false = ((0, 0), (f, 0, 0), true) := by unfold st3; rw [if_neg h1, if_neg (by decide), if_neg h0, if_neg h3, if_pos ho, if_pos hL1]
        rw [e]
        exact settle_both _ _ _ _ _ h1 h0 h3 ho hL1 w
      · have e : st3 f o y L c false = ((o, y), (f, o, y), true) := by unfold st3; rw [if_neg h1, if_neg (by decide), if_neg h0, if_neg h3, if_pos ho, if_neg hL1]
        rw [e]
        exact settle_keep _ _ _ _ _ h1 h0 h3 ho hL1 w
    · have e : st3 f o y L c false = ((L, c), (f, 128 + L, c), true) := by unfold st3; rw [if_neg h1, if_neg (by decide), if_neg h0, if_neg h3, if_neg ho]
      rw [e]
      exact settle_takes _ _ _ _ _ h1 h0 h3 ho hL w
end Go.Proofs.Ytfipmggdpigbkaa.K
