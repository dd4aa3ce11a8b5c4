/-
  Contract of farkeep.maskLives: it returns true. No condition.
-/
import Derived.Test.YtipdnkkkigmkdaaDoorHOf
import Derived.Test.YtipdnkkkigmkdaaDoorHWrite
import Derived.Test.YtipdnkkkigmkdaaDoorHHas
import Derived.Test.YtipdnkkkigmkdaaDoorHReg
namespace Go.Proofs.YtipdnkkkigmkdaaDoor.H
open Go.RowKit Go.Lib Go.Proofs.YtipdnkkkigmkdaaDoor Go.Proofs.YtipdnkkkigmkdaaDoor.W Go.Proofs.YtipdnkkkigmkdaaDoor.Q

attribute [local go_sem ↓] exec_loadM

def liveM : List Nat := ofL [1, 10]
theorem live_text : textOf liveM = [64, 32] := by decide +kernel
theorem live_ten : mem liveM 10 = true := by decide +kernel
theorem live_two : mem liveM 2 = false := by decide +kernel

set_option maxHeartbeats 4000000 in
set_option maxRecDepth 100000 in
theorem lives_any (w : World) : Calls Tryd.prog 9 #[] w fun e w' => e = .returned (.bool true) ∧ Below w.heap.size w w' := by
  have hok : okW liveM := ok_ofL [1, 10]
  have H1 : Hid (∀ w, Calls Tryd.prog 11 #[.string { data := #[1, 10] }] w fun e w' => e = .returned (MV liveM) ∧ Below w.heap.size w w') := Of_any [1, 10] (by decide)
  have H2 : Hid (∀ w, Calls Tryd.prog 7 #[MV liveM] w fun e w' => e = .returned (.string { data := #[64, 32] }) ∧ Below w.heap.size w w') := fun w => by
    have h := Write_any liveM hok w
    rw [live_text] at h
    exact h
  have H3 : Hid (∀ w, Calls Tryd.prog 19 #[MV liveM, .int .u8 10] w fun e w' => e = .returned (.bool true) ∧ Below w.heap.size w w') := fun w => by
    have h := Has_any liveM hok 10 w
    rw [show (10 : UInt8).toNat = 10 from rfl, live_ten] at h
    exact h
  have H4 : Hid (∀ w, Calls Tryd.prog 19 #[MV liveM, .int .u8 2] w fun e w' => e = .returned (.bool false) ∧ Below w.heap.size w w') := fun w => by
    have h := Has_any liveM hok 2 w
    rw [show (2 : UInt8).toNat = 2 from rfl, live_two] at h
    exact h
  have HS := Hid.mk' (sizeMV hok)
  have HO := Hid.mk' (ucells_one liveM)
  have HL : Hid ((ucells liveM).length = 4) := rfl
  unfold MV at *
  generalize ucells liveM = l at *
  go_enter Tryd.func9, Tryd.ntmps9
  go_wp2_with fail
  refine (H1.out _).mono ?_
  rintro e w1 ⟨rfl, h1⟩
  have HB1 := Hid.mk' h1
  have z1 := h1.size
  clear h1
  go_wp2_with (refine wpList_alloc (ucells noW) 25 zeroM rfl rfl ?_)
  intro w2 m2
  go_wp2_with (refine wpList_store_box 25 25 (ucells noW) l w1.heap.size HS.out HO.out m2.box (by rw [HL.out]; rfl) rfl _ _ rfl rfl rfl ?_)
  intro w3 s3
  have b3 := s3.box
  have HB3 := Hid.mk' (s3.below w.heap.size w z1 (m2.below _ _ z1 HB1.out))
  have z3 := HB3.out.size
  clear m2 s3 HB1
  go_wp2_with (with_reducible refine wpList_load_box 25 25 l w1.heap.size _ Tryd.underlying25 rfl HS.out b3 rfl _ rfl rfl ?_)
  refine (H2.out _).mono ?_
  rintro e w4 ⟨rfl, h4⟩
  have b4 := b3.later h4
  have l4 := b4.lies0 HL.out
  have r4 := b4.row0 HL.out
  have HB4 := Hid.mk' (HB3.out.trans (h4.mono z3))
  have z4 := HB4.out.size
  clear h4 b3 HB3
  go_wp2_with fail
  refine (H3.out _).mono ?_
  rintro e w5 ⟨rfl, h5⟩
  have b5 := b4.later h5
  have l5 := b5.lies0 HL.out
  have r5 := b5.row0 HL.out
  have HB5 := Hid.mk' (HB4.out.trans (h5.mono z4))
  have z5 := HB5.out.size
  clear h5 b4 l4 r4 HB4
  go_wp2_with fail
  refine (H4.out _).mono ?_
  rintro e w6 ⟨rfl, h6⟩
  have HB6 := Hid.mk' (HB5.out.trans (h6.mono z5))
  clear h6 b5 l5 r5 HB5
  go_wp2
  go_ret
  exact ⟨rfl, HB6.out⟩
end Go.Proofs.YtipdnkkkigmkdaaDoor.H
