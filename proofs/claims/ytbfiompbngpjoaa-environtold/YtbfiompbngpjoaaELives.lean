/-
  Contract of farkeep.environLives; no condition.
-/
import Derived.Test.YtbfiompbngpjoaaERead
namespace Go.Proofs.Ytbfiompbngpjoaa.E
open Go.RowKit Go.Lib Go.Proofs.Ytbfiompbngpjoaa Go.Proofs.Ytbfiompbngpjoaa.W Go.Proofs.Ytbfiompbngpjoaa.Q Go.Proofs.Ytbfiompbngpjoaa.C

def liveL : List Vr := [⟨[85, 83, 69, 82], [97, 1], false, true⟩, ⟨[88], [], true, false⟩]
theorem live_text : writeT liveL = ([0, 85, 83, 69, 82, 1, 97, 2, 1, 3, 88], 0) := by decide +kernel
theorem RdV.lit (w : World) (l : List Vr) (n c : Nat) (hn : n = l.length) (hc : n ≤ c) (cs : Array Value) (hcs : cs = (vsCells l).toArray) : RdV (w.alloc (.cells cs 30)) (.slice (some ⟨w.heap.size, 0, none⟩) n c) l := by
  subst hn hcs
  refine ⟨_, c, rfl, hc, .inr ⟨w.heap.size, 0, rfl, fun k hk => ?_, by rw [World.size_alloc]; omega⟩⟩
  have h := fun i hi => vsCells_at l k hk i hi
  have hB : Box (w.alloc (.cells (vsCells l).toArray 30)) w.heap.size 30 (vsCells l) := Box.new w 30 _
  rw [Nat.zero_add]
  exact ⟨hB.cell ((h 0 (by omega)).trans rfl), hB.cell ((h 1 (by omega)).trans rfl), hB.cell ((h 2 (by omega)).trans rfl), hB.cell ((h 3 (by omega)).trans rfl)⟩

set_option maxHeartbeats 4000000 in
set_option maxRecDepth 100000 in
theorem lives_any (w : World) : Calls Try.prog 10 #[] w fun e w' => e = .returned (.bool true) ∧ Below w.heap.size w w' := by
  have H1 : Hid (∀ cs, cs = (vsCells liveL).toArray → Calls Try.prog 7 #[.slice (some ⟨w.heap.size, 0, none⟩) 2 2] (w.alloc (.cells cs 30)) fun e w' => e = .returned (.tuple #[.string ⟨#[0, 85, 83, 69, 82, 1, 97, 2, 1, 3, 88]⟩, .int .i64 0]) ∧ Below w.heap.size w w') := fun cs hcs => by
    have h := Write_any (w.alloc (.cells cs 30)) _ liveL (RdV.lit w liveL 2 2 rfl (by omega) cs hcs) (by decide)
    rw [live_text] at h
    refine h.mono ?_
    rintro e w' ⟨rfl, hb⟩
    exact ⟨rfl, ((Below.refl _ _).alloc (Nat.le_refl _) _).trans (hb.mono (by rw [World.size_alloc]; omega))⟩
  have HC : Hid (#[.string ⟨#[85, 83, 69, 82]⟩, .string ⟨#[97, 1]⟩, .bool false, .bool true, .string ⟨#[88]⟩, .string ⟨#[]⟩, .bool true, .bool false] = (vsCells liveL).toArray) := Hid.mk' rfl
  have H2 := Hid.mk' (H1.out _ HC.out)
  clear H1 HC
  go_enter Try.func10, Try.ntmps10
  go_wp2_with fail
  refine H2.out.mono ?_
  rintro e w1 ⟨rfl, hb1⟩
  have HB := Hid.mk' hb1
  clear hb1 H2
  go_wp2
  go_ret
  exact ⟨rfl, HB.out⟩
end Go.Proofs.Ytbfiompbngpjoaa.E
