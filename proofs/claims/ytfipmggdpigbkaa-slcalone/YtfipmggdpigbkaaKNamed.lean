/-
  Which functions are named in threes of bytes: a function that isn't keeps its level and its key. No condition but those that each names.
-/
import Derived.Test.YtfipmggdpigbkaaKPlain
namespace Go.Proofs.Ytfipmggdpigbkaa.K

/-- is it named? -/
def nmd : List UInt8 → Nat → Bool
  | f :: _ :: _ :: r, j => decide (f.toNat = j) || nmd r j
  | _, _ => false
theorem nmd_nil (j : Nat) : nmd [] j = false := by simp [nmd]
theorem nmd_cons (f g c : UInt8) (r : List UInt8) (j : Nat) : nmd (f :: g :: c :: r) j = (decide (f.toNat = j) || nmd r j) := by rw [nmd]
theorem nmd_app : ∀ (n : Nat) (a b : List UInt8) (j : Nat), a.length ≤ n → a.length % 3 = 0 → nmd (a ++ b) j = (nmd a j || nmd b j)
  | n, [], b, j, _, _ => by rw [nmd_nil]; rfl
  | n, [_], b, j, _, h => by simp at h
  | n, [_, _], b, j, _, h => by simp at h
  | n, f :: g :: c :: r, b, j, h, h3 => by
    simp only [List.length_cons] at h h3
    obtain ⟨m, rfl⟩ : ∃ m, n = m + 1 := ⟨n - 1, by omega⟩
    simp only [List.cons_append]
    rw [nmd_cons, nmd_cons, nmd_app m r b j (by omega) (by omega), Bool.or_assoc]
theorem nmd_step (d : List UInt8) (i : Nat) (h : i + 2 < d.length) (h3 : i % 3 = 0) (j : Nat) : nmd (d.take (i + 3)) j = (nmd (d.take i) j || decide (d[i].toNat = j)) := by
  rw [take_three d i h, nmd_app _ _ _ _ (Nat.le_refl _) (by rw [List.length_take]; omega), nmd_cons, nmd_nil, Bool.or_false]

theorem take1_keep (k : List UInt8) (hk : k.length = 38) (f g c : UInt8) (j : Nat) (hj : j < 19) (h : ¬ f.toNat = j) : lv (take1 k f g c).1 j = lv k j ∧ ch (take1 k f g c).1 j = ch k j := by
  unfold take1
  split
  · rename_i hf
    obtain ⟨f1, f2⟩ := of_decide_eq_true hf
    rw [lv_put k hk _ _ _ _ (by omega) hj, ch_put k hk _ _ _ _ (by omega) hj, if_neg (by omega), if_neg (by omega)]
    exact ⟨rfl, rfl⟩
  · exact ⟨rfl, rfl⟩
theorem run_keep : ∀ (n : Nat) (k d : List UInt8), d.length ≤ n → k.length = 38 → ∀ j, j < 19 → nmd d j = false → lv (run k d).1 j = lv k j ∧ ch (run k d).1 j = ch k j
  | n, k, [], _, _, j, _, _ => by rw [run_nil]; exact ⟨rfl, rfl⟩
  | n, k, [_], _, _, j, _, _ => by simp [run]
  | n, k, [_, _], _, _, j, _, _ => by simp [run]
  | n, k, f :: g :: c :: r, hn, hk, j, hj, h => by
    rw [nmd_cons, Bool.or_eq_false_iff] at h
    simp only [List.length_cons] at hn
    obtain ⟨m, rfl⟩ : ∃ m, n = m + 1 := ⟨n - 1, by omega⟩
    obtain ⟨a1, a2⟩ := take1_keep k hk f g c j hj (of_decide_eq_false h.1)
    obtain ⟨b1, b2⟩ := run_keep m (take1 k f g c).1 r (by omega) (by rw [take1_length]; exact hk) j hj h.2
    rw [run_cons]
    exact ⟨b1.trans a1, b2.trans a2⟩
end Go.Proofs.Ytfipmggdpigbkaa.K
