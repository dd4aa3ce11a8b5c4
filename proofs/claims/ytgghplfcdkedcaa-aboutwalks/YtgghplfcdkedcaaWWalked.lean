/-
  Contract of farref.Walked; conditions: there is a name, at most 2^44 of them; the number is not below 0.
-/
import Derived.Test.YtgghplfcdkedcaaWSorts
namespace Go.Proofs.Ytgghplfcdkedcaa.W
open Go.RowKit Go.Lib Go.Proofs.Ytgghplfcdkedcaa Go.Proofs.Ytgghplfcdkedcaa.Q

set_option maxHeartbeats 4000000 in
theorem Walked_any (w : World) (v : Value) (l : List ByteArray) (k : Nat) (hv : RdS w v l) (hn : l.length ≤ 17592186044416) (h0 : 0 < l.length) (hk : k ≤ 17592186044416) :
    Calls Try.prog 16 #[v, .int .i64 (k : Int)] w fun e w' => e = .returned (.string (nm l (k % (l.length + 1)))) ∧ w' = w := by
  obtain ⟨a, c, rfl, hc, hr⟩ := hv
  rcases hr with h | ⟨b, off, rfl, t, hb⟩
  · subst h; simp at h0
  have hrl : k % (l.length + 1) < l.length + 1 := Nat.mod_lt _ (by omega)
  have q1 : (k : Int).tmod ((l.length : Int) + 1) = ((k % (l.length + 1) : Nat) : Int) := by
    rw [Int.tmod_eq_emod_of_nonneg (by omega)]
    simp
  have q2 : (k : Int) % ((l.length : Int) + 1) = ((k % (l.length + 1) : Nat) : Int) := by simp
  have q3 : (l.length : Int) - 1 = ((l.length - 1 : Nat) : Int) := by omega
  generalize k % (l.length + 1) = r at *
  by_cases hr : r < l.length
  · have e1 := t r hr
    rw [nm_lt hr]
    generalize l[r] = x at *
    have q4 : min (r : Int) ((l.length - 1 : Nat) : Int) = (r : Int) := by omega
    clear t
    go_enter Try.func16, Try.ntmps16
    go_wp2
    go_ret
    exact ⟨rfl, rfl⟩
  · obtain rfl : r = l.length := by omega
    have e1 := t (l.length - 1) (by omega)
    rw [nm_last h0]
    generalize l[l.length - 1]'(by omega) = x at *
    have q4 : min (l.length : Int) ((l.length - 1 : Nat) : Int) = ((l.length - 1 : Nat) : Int) := by omega
    clear t
    go_enter Try.func16, Try.ntmps16
    go_wp2
    go_ret
    exact ⟨rfl, rfl⟩
end Go.Proofs.Ytgghplfcdkedcaa.W
