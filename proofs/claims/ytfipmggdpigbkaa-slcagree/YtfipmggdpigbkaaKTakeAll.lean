/-
  Contract of slc.Take; conditions: 38 bytes; no text longer than an int tells.
-/
import Derived.Test.YtfipmggdpigbkaaKTakeOk
namespace Go.Proofs.Ytfipmggdpigbkaa.K
open Go.RowKit Go.Lib Go.Proofs.Ytfipmggdpigbkaa Go.Proofs.Ytfipmggdpigbkaa.W Go.Proofs.Ytfipmggdpigbkaa.Q

theorem Take_any (k : List UInt8) (hk : k.length = 38) (s : List UInt8) (hz : s.length ≤ 9223372036854775807) (w : World) :
    Calls Try.prog 9 #[KV k, .string (bs s)] w fun e w' => e = .returned (RK (takeT k s)) ∧ Below w.heap.size w w' := by
  have hsz := bs_size s
  rcases chk_two k with hc | hc
  · by_cases h3 : s.length % 3 = 0
    · by_cases h4 : s.length ≤ 300
      · rw [takeT_ok hc h3 h4]
        exact Take_ok k hk hc s h3 h4 w
      · rw [takeT_large hc h3 h4]
        exact Take_no k hk (bs s) 2 (.inr (.inr ⟨hc, by omega, by omega, rfl⟩)) (by omega) w
    · rw [takeT_len3 hc h3]
      exact Take_no k hk (bs s) 4 (.inr (.inl ⟨hc, by omega, rfl⟩)) (by omega) w
  · rw [takeT_form hc]
    exact Take_no k hk (bs s) 4 (.inl ⟨hc, rfl⟩) (by omega) w
end Go.Proofs.Ytfipmggdpigbkaa.K
