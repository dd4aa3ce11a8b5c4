/-
  Contract of math/bits.Reverse8; condition: a byte.
-/
import Derived.Test.YtipdnkkkigmkdaaDoorHCells
import Derived.BigQuiet
namespace Go.Proofs.YtipdnkkkigmkdaaDoor.H
open Go.RowKit Go.Lib Go.Proofs.YtipdnkkkigmkdaaDoor Go.Proofs.YtipdnkkkigmkdaaDoor.W Go.Proofs.YtipdnkkkigmkdaaDoor.Q

def revList : List UInt8 := (List.range 256).map fun n => UInt8.ofNat (rev8 n)
theorem rev_at (T : ByteArray) (hT : T.data.toList = revList) (x : Nat) (hx : x < 256) (h : x < T.size) : (T[x]'h).toNat = rev8 x := by
  have h2 : x < T.data.toList.length := by rw [hT]; simpa [revList] using hx
  have e : T[x]'h = T.data.toList[x]'h2 := by rw [Array.getElem_toList]; rfl
  have e2 : T.data.toList[x]? = revList[x]? := by rw [hT]
  rw [List.getElem?_eq_getElem h2] at e2
  rw [e]
  have e3 : revList[x]? = some (UInt8.ofNat (rev8 x)) := by
    unfold revList
    rw [List.getElem?_map, List.getElem?_range hx]
    rfl
  rw [e3] at e2
  rw [Option.some.inj e2, UInt8.toNat_ofNat']
  have := rev8_lt ⟨x, hx⟩
  simp only at this
  omega

set_option maxHeartbeats 4000000 in
set_option maxRecDepth 100000 in
theorem Reverse8_any (x : Nat) (hx : x < 256) (w : World) :
    Calls Tryd.prog 15 #[.int .u8 (x : Int)] w fun e w' => e = .returned (.int .u8 ((rev8 x : Nat) : Int)) ∧ w' = w := by
  have x0 : (0 : Int) ≤ (x : Int) := by omega
  go_enter Tryd.func15, Tryd.ntmps15
  go_wp2_with fail
  go_ret
  exact ⟨congrArg (fun n : Nat => Ending.returned (Value.int .u8 (n : Int))) (rev_at _ (by kernel_rfl) x hx _), rfl⟩
end Go.Proofs.YtipdnkkkigmkdaaDoor.H
