/-
  Contract of farkeep.nvtLives: it returns true; no condition.
-/
import Derived.Test.YtodljopbgppopaaDoorVIn
namespace Go.Proofs.YtodljopbgppopaaDoor.V
open Go.RowKit Go.Lib Go.Proofs.YtodljopbgppopaaDoor

theorem in_lit (w : World) : Calls Tryd.prog 5 #[.bool false, .string ⟨#[97, 13, 10, 98, 13, 0, 13]⟩, .bool false] w fun e w' => e = .returned (.tuple #[.bool true, .string ⟨#[97, 10, 98, 13]⟩]) ∧ Below w.heap.size w w' :=
  In_any false [97, 13, 10, 98, 13, 0, 13] false w (by simp)
theorem out_lit (w : World) : Calls Tryd.prog 7 #[.string ⟨#[10, 13]⟩, .bool false] w fun e w' => e = .returned (.string ⟨#[13, 10, 13, 0]⟩) ∧ Below w.heap.size w w' :=
  Out_any [10, 13] false w (by simp)

set_option maxHeartbeats 4000000 in
set_option maxRecDepth 100000 in
theorem lives_any (w : World) : Calls Tryd.prog 12 #[] w fun e w' => e = .returned (.bool true) ∧ Below w.heap.size w w' := by
  have HI := Hid.mk' (in_lit w)
  have HU := Hid.mk' out_lit
  go_enter Tryd.func12, Tryd.ntmps12
  go_wp2_with fail
  refine HI.out.mono ?_
  rintro e w1 ⟨rfl, hb1⟩
  have HB := Hid.mk' hb1
  have hs1 := hb1.size
  clear hb1
  go_wp2_with fail
  refine (HU.out w1).mono ?_
  rintro e w2 ⟨rfl, hb2⟩
  have HB2 : Hid (Below w.heap.size w w2) := HB.out.trans (hb2.mono hs1)
  clear hb2
  go_wp2
  go_ret
  exact ⟨rfl, HB2.out⟩
end Go.Proofs.YtodljopbgppopaaDoor.V
