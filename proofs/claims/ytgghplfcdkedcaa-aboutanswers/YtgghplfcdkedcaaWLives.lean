/-
  Contract of farkeep.aboutLives: it returns true and writes nothing old; no condition.
-/
import Derived.Test.YtgghplfcdkedcaaWWalk
namespace Go.Proofs.Ytgghplfcdkedcaa.W
open Go.RowKit Go.Lib Go.Proofs.Ytgghplfcdkedcaa Go.Proofs.Ytgghplfcdkedcaa.Q

def nX : ByteArray := ⟨#[88, 84, 69, 82, 77]⟩
def nV : ByteArray := ⟨#[86, 84, 49, 48, 48]⟩
set_option maxRecDepth 100000 in
theorem live_chk : chk [nX, nV] 0 = 0 := by decide +kernel
theorem live_walk : walkL [nX, nV] 5 = [nX, nV, nV, nX, nV] := by rfl

set_option maxHeartbeats 4000000 in
set_option maxRecDepth 100000 in
theorem lives_any (w : World) : Calls Try.prog 19 #[] w fun e w' => e = .returned (.bool true) ∧ Below w.heap.size w w' := by
  have H1 : Hid (Calls Try.prog 9 #[.int .i64 80, .int .i64 300] w fun e w' => e = .returned (.tuple #[.string ⟨#[0, 80, 1, 44]⟩, .int .i64 0]) ∧ Below w.heap.size w w') := WriteSize_ok 0 80 1 44 w
  have H2 : Hid (∀ W : World, Calls Try.prog 17 #[.slice (some ⟨W.heap.size, 0, none⟩) 2 2, .int .i64 5] (W.alloc (.cells #[.string ⟨#[88, 84, 69, 82, 77]⟩, .string ⟨#[86, 84, 49, 48, 48]⟩] 9)) fun e w' => ∃ g, e = .returned (.tuple #[.slice (some ⟨g, 0, none⟩) 5 5, .int .i64 0]) ∧ Box w' g 9 (scells [nX, nV, nV, nX, nV]) ∧ Below W.heap.size W w') := fun W => by
    have hB : Box (W.alloc (.cells #[.string ⟨#[88, 84, 69, 82, 77]⟩, .string ⟨#[86, 84, 49, 48, 48]⟩] 9)) W.heap.size 9 (scells [nX, nV]) := Box.new W _ _
    refine (Walk_ok _ _ [nX, nV] 5 (RdS.box hB 2 (Nat.le_refl _)) (by simp) live_chk (by simp) (by omega)).mono ?_
    rintro e w' ⟨g, rfl, h1, _, h3⟩
    rw [live_walk] at h1
    exact ⟨g, rfl, h1, ((Below.refl _ _).alloc (Nat.le_refl _) _).trans (h3.mono (by simp))⟩
  have H3 : Hid (∀ (W : World) (g : Nat), Box W g 9 (scells [nX, nV, nV, nX, nV]) → Calls Try.prog 15 #[.slice (some ⟨g, 0, none⟩) 5 5, .slice (some ⟨W.heap.size, 0, none⟩) 5 5] (W.alloc (.cells #[.string ⟨#[88, 84, 69, 82, 77]⟩, .string ⟨#[86, 84, 49, 48, 48]⟩, .string ⟨#[86, 84, 49, 48, 48]⟩, .string ⟨#[88, 84, 69, 82, 77]⟩, .string ⟨#[86, 84, 49, 48, 48]⟩] 9)) fun e w' => e = .returned (.bool true) ∧ Below W.heap.size W w') := fun W g hg => by
    have hB : Box (W.alloc (.cells #[.string ⟨#[88, 84, 69, 82, 77]⟩, .string ⟨#[86, 84, 49, 48, 48]⟩, .string ⟨#[86, 84, 49, 48, 48]⟩, .string ⟨#[88, 84, 69, 82, 77]⟩, .string ⟨#[86, 84, 49, 48, 48]⟩] 9)) W.heap.size 9 (scells [nX, nV, nV, nX, nV]) := Box.new W _ _
    refine (Equal_same _ _ _ [nX, nV, nV, nX, nV] (RdS.box (hg.alloc _) 5 (Nat.le_refl _)) (RdS.box hB 5 (Nat.le_refl _)) (by simp)).mono ?_
    rintro e w' ⟨rfl, q, rfl⟩
    exact ⟨rfl, below_drewN ((Below.refl _ _).alloc (Nat.le_refl _) _) q⟩
  go_enter Try.func19, Try.ntmps19
  go_wp2_with fail
  refine H1.out.mono ?_
  rintro e w1 ⟨rfl, hb1⟩
  have HB1 := Hid.mk' hb1
  clear hb1 H1
  go_wp2_with fail
  refine (H2.out w1).mono ?_
  rintro e w2 ⟨g, rfl, hg, hb2⟩
  have HB2 := Hid.mk' (HB1.out.trans (hb2.mono HB1.out.size))
  have H4 := Hid.mk' (H3.out w2 g hg)
  clear hb2 hg H2 H3 HB1
  go_wp2_with fail
  refine H4.out.mono ?_
  rintro e w3 ⟨rfl, hb3⟩
  have HB3 := Hid.mk' (HB2.out.trans (hb3.mono HB2.out.size))
  clear hb3 HB2 H4
  go_wp2
  go_ret
  exact ⟨rfl, HB3.out⟩
end Go.Proofs.Ytgghplfcdkedcaa.W
