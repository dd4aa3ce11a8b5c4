/-
  Contract of mask.Has; condition: four words of 64 bits.
-/
import Derived.Test.YtomgnnbcaficaaaDoorHCells
import Derived.BigQuiet
namespace Go.Proofs.YtomgnnbcaficaaaDoor.H
open Go.RowKit Go.Lib Go.Proofs.YtomgnnbcaficaaaDoor Go.Proofs.YtomgnnbcaficaaaDoor.W Go.Proofs.YtomgnnbcaficaaaDoor.Q

set_option maxHeartbeats 2000000 in
theorem Has_any (M : List Nat) (hM : okW M) (b : UInt8) (w : World) :
    Calls Tryd.prog 56 #[MV M, .int .u8 (b.toNat : Int)] w fun e w' => e = .returned (.bool (mem M b.toNat)) ∧ Below w.heap.size w w' := by
  have hb := b.toNat_lt
  have hx := hM.get (b.toNat / 64)
  have hc := ucells_get M (b.toNat / 64) (by rw [hM.1]; omega)
  rw [mem_mod]
  generalize M.getD (b.toNat / 64) 0 = x at *
  generalize b.toNat = n at *
  unfold MV
  generalize ucells M = l at *
  go_enter Tryd.func56, Tryd.ntmps56
  go_wp2_with (refine wpList_box l 30 rfl _ rfl rfl ?_)
  intro w1 m1
  have e0 := m1.box.cell hc
  have HB := Hid.mk' (m1.below _ _ (Nat.le_refl _) (Below.refl _ w))
  clear m1 hc
  go_wp2
  rw [has_bit _ _ hx]
  go_ret
  exact ⟨rfl, HB.out⟩

set_option maxHeartbeats 2000000 in
theorem InMask_any (M : List Nat) (hM : okW M) (n : Nat) (hn : n < 256) (w : World) :
    Calls Tryd.prog 17 #[MV M, .int .i64 (n : Int)] w fun e w' => e = .returned (.bool (mem M n)) ∧ Below w.heap.size w w' := by
  have hx := hM.get (n / 64)
  have hc := ucells_get M (n / 64) (by rw [hM.1]; omega)
  rw [mem_mod]
  generalize M.getD (n / 64) 0 = x at *
  unfold MV
  generalize ucells M = l at *
  have q1 : IntKind.i64.wrap ((n : Int) / 64) = (n : Int) / 64 := by rw [IntKind.wrap_i64]; omega
  have q2 : (0 : Int) ≤ (n : Int) / 64 := by omega
  have q3 : (n : Int) / 64 < 4 := by omega
  have q4 : ((n : Int) / 64).toNat = n / 64 := by omega
  have q5 : (n : Int).tmod 64 = (n : Int) % 64 := Int.tmod_eq_emod_of_nonneg (by omega)
  have q6 : ¬ (n : Int) % 64 < 0 := by omega
  have q7 : ((n : Int) % 64).toNat = n % 64 := by omega
  have q8 : min (n % 64) 64 = n % 64 := by omega
  have q9 : IntKind.u64.wrap ((2 : Int) ^ (n % 64)) = 2 ^ (n % 64) := wrap_two _ (by omega)
  have q10 : ¬ (2 : Int) ^ (n % 64) = 0 := two_ne _
  go_enter Tryd.func17, Tryd.ntmps17
  go_wp2_with (refine wpList_box l 30 rfl _ rfl rfl ?_)
  intro w1 m1
  have e0 := m1.box.cell hc
  have HB := Hid.mk' (m1.below _ _ (Nat.le_refl _) (Below.refl _ w))
  clear m1 hc
  go_wp2_with fail
  go_quiet (fail)
  rw [in_bit _ _ hx]
  go_wp2
  go_ret
  exact ⟨rfl, below_drewN HB.out _⟩
end Go.Proofs.YtomgnnbcaficaaaDoor.H
