/-
  Contract of farkeep.iacLives: it returns true; conditions: the contract of iac.Escape, and that the variable internal/bytealg.MaxLen holds some int.
-/
import Derived.Test.YtmcoliblkkploaaDoorEq
namespace Go.Proofs.YtmcoliblkkploaaDoor
open Go.RowKit

def esc : List UInt8 → List UInt8
  | [] => []
  | b :: l => if b.toNat = 255 then b :: b :: esc l else b :: esc l

def EscSaid : Prop := ∀ (s : List UInt8) (m : Int) (w : World), s.length ≤ 2097152 → w.cell? ⟨0, 0, none⟩ = some (.int .i64 m) →
  Calls Tryd.prog 18 #[.string ⟨s.toArray⟩] w fun e w' => e = .returned (.string ⟨(esc s).toArray⟩) ∧ Below w.heap.size w w'

theorem own_built (w : World) (base : Nat) (hb : base ≤ w.heap.size) (l : List Tk) (hl : l.length ≤ 1000) : OwnR (w.alloc (.cells (tsCells l).toArray 34)) base 34 4 (.slice (some ⟨w.heap.size, 0, none⟩) l.length l.length) l.length (tsCells l) := by
  refine ⟨tsCells_length l, .inr ⟨w.heap.size, l.length, _, (0, 0), rfl, hb, (MapKept.heap_alloc w _).1, .inl rfl, Nat.le_refl _, by unfold maxLen; omega, by simp [tsCells_length], ?_⟩⟩
  rw [← tsCells_length]
  simp

def zeroW : Wr := ⟨0, 0, 0, [], false⟩
theorem lives_feed : feed zeroW [97, 255, 255, 98, 255, 251, 1, 255] = ⟨1, 0, 0, false, [], [], [⟨1, 0, 0, [97, 255, 98]⟩, ⟨3, 251, 1, []⟩]⟩ := by rfl

set_option maxHeartbeats 2000000 in
theorem lives_any (HEsc : EscSaid) (w : World) (m : Int) (hm : w.cell? ⟨0, 0, none⟩ = some (.int .i64 m)) :
    Calls Tryd.prog 20 #[] w fun e w' => e = .returned (.bool true) ∧ Below w.heap.size w w' := by
  have hF := Feed_ok zeroW [97, 255, 255, 98, 255, 251, 1, 255] w rfl (by simp)
  rw [lives_feed] at hF
  simp only [zeroW, Wr.val, RS.wire] at hF
  have h0 : 0 < w.heap.size := World.block_lt_of_cell? _ _ hm
  go_enter Tryd.func20, Tryd.ntmps20
  go_wp2_with fail
  refine hF.mono ?_
  rintro e w1 ⟨vt, rfl, ho, hb1⟩
  have HO := Hid.mk' ho
  have HB := Hid.mk' hb1
  clear ho hb1 hF
  have hE : ∀ o, Calls Tryd.prog 13 #[vt, .slice (some ⟨w1.heap.size + 1, 0, none⟩) 2 2] ((w1.alloc o).alloc (.cells #[.int .i64 1, .int .i64 0, .int .i64 0, .string ⟨#[97, 255, 98]⟩, .int .i64 3, .int .i64 251, .int .i64 1, .string ⟨#[]⟩] 34)) fun e w' => e = .returned (.bool true) ∧ ∃ q, w' = ((w1.alloc o).alloc (.cells #[.int .i64 1, .int .i64 0, .int .i64 0, .string ⟨#[97, 255, 98]⟩, .int .i64 3, .int .i64 251, .int .i64 1, .string ⟨#[]⟩] 34)).drewN q := by
    intro o
    have h1 := HO.out
    have h2 := own_built (w1.alloc o) w1.heap.size (by simp) [⟨1, 0, 0, [97, 255, 98]⟩, ⟨3, 251, 1, []⟩] (by simp)
    simp only [World.size_alloc] at h2
    exact Equal_any _ vt _ [⟨1, 0, 0, [97, 255, 98]⟩, ⟨3, 251, 1, []⟩] [⟨1, 0, 0, [97, 255, 98]⟩, ⟨3, 251, 1, []⟩] w.heap.size w1.heap.size (h1.keptAt fun k hk => (Below.heap_alloc _ _ _ (by have := (h1.lt k hk).2; simp; omega)).trans (Below.heap_alloc _ _ _ (h1.lt k hk).2)) h2 (by simp) (by simp)
  have hE' := hE (.cells #[.int .i64 1, .int .i64 0, .int .i64 0, .string ⟨#[]⟩, .bool false] 23)
  clear hE
  go_wp2_with fail
  refine hE'.mono ?_
  rintro e w2 ⟨rfl, q, rfl⟩
  have hm2 : ∀ o1 o2 q, (((w1.alloc o1).alloc o2).drewN q).cell? ⟨0, 0, none⟩ = some (.int .i64 m) := fun o1 o2 q => by
    have h1 := HB.out.size
    rw [World.cell?_drewN, World.cell?_alloc_past (hn := by simp), World.cell?_alloc_past (hn := by omega)]
    exact (HB.out.cell (p := ⟨0, 0, none⟩) h0).trans hm
  have HM := Hid.mk' hm2
  clear hm2 hE'
  go_wp2_with fail
  refine (HEsc [255] m _ (by simp) (HM.out _ _ _)).mono ?_
  rintro e w2 ⟨rfl, hb2⟩
  have e2 : esc [255] = [255, 255] := rfl
  rw [e2]
  go_wp2
  go_ret
  refine ⟨rfl, ?_⟩
  have h1 := HB.out.size
  exact (HB.out.alloc (by omega) _).alloc (by simp; omega) _ |>.trans ((below_drewN (Below.refl _ _) q).trans (hb2.mono (by simp; omega)))
end Go.Proofs.YtmcoliblkkploaaDoor
