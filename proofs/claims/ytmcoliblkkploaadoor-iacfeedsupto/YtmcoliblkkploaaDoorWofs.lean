/-
  Contract of farref.WireOf at bytes that are fewer than three; no condition.
-/
import Derived.Test.YtmcoliblkkploaaDoorLaw6
import Derived.Test.YtmcoliblkkploaaDoorStrm
import Derived.Test.YtmcoliblkkploaaDoorUnr
import Derived.BigRegion
import Derived.Test.YtmcoliblkkploaaDoorEsc
namespace Go.Proofs.YtmcoliblkkploaaDoor
open Go.RowKit

set_option maxHeartbeats 4000000 in
set_option maxRecDepth 100000 in
theorem WireOf_nil (w : World) : Calls Tryd.prog 15 #[.string ⟨#[]⟩] w fun e w' => e = .returned zeroW.val ∧ Below w.heap.size w w' := by
  simp only [zeroW, Wr.val]
  go_enter Tryd.func15, Tryd.ntmps15
  go_wp2
  refine bodyPost_ret (v := .agg #[.int .i64 0, .int .i64 0, .int .i64 0, .string ⟨#[]⟩, .bool false]) (by simp [results, Tryd.results15, go_sem]) rfl ⟨rfl, ?_⟩
  repeat (first | exact Below.refl _ _ | refine Below.alloc ?_ (by simp) _ | refine Below.setCell ?_ (by simp) _)

set_option maxHeartbeats 4000000 in
set_option maxRecDepth 100000 in
theorem WireOf_one (S : ByteArray) (w : World) (hs : S.size = 1) (n0 : S.toList.isEmpty = false) : Calls Tryd.prog 15 #[.string S] w fun e w' => e = .returned (Wr.val ⟨1, 0, 0, [], false⟩) ∧ Below w.heap.size w w' := by
  simp only [Wr.val]
  go_enter Tryd.func15, Tryd.ntmps15
  go_wp2
  refine bodyPost_ret (v := .agg #[.int .i64 1, .int .i64 0, .int .i64 0, .string ⟨#[]⟩, .bool false]) (by simp [results, Tryd.results15, go_sem]) rfl ⟨rfl, ?_⟩
  repeat (first | exact Below.refl _ _ | refine Below.alloc ?_ (by simp) _ | refine Below.setCell ?_ (by simp) _)

set_option maxHeartbeats 4000000 in
set_option maxRecDepth 100000 in
theorem WireOf_sub (S : ByteArray) (c : UInt8) (w : World) (hs : S.size = 2) (n0 : S.toList.isEmpty = false) (e1 : S[1]'(by omega) = c) (hc : c.toNat = 250) : Calls Tryd.prog 15 #[.string S] w fun e w' => e = .returned (Wr.val ⟨3, 0, 0, [], false⟩) ∧ Below w.heap.size w w' := by
  simp only [Wr.val]
  have p1 : (c.toNat : Int) = 250 := by omega
  clear hc
  go_enter Tryd.func15, Tryd.ntmps15
  go_wp2
  refine bodyPost_ret (v := .agg #[.int .i64 3, .int .i64 0, .int .i64 0, .string ⟨#[]⟩, .bool false]) (by simp [results, Tryd.results15, go_sem]) rfl ⟨rfl, ?_⟩
  repeat (first | exact Below.refl _ _ | refine Below.alloc ?_ (by simp) _ | refine Below.setCell ?_ (by simp) _)

set_option maxHeartbeats 4000000 in
set_option maxRecDepth 100000 in
theorem WireOf_neg (S : ByteArray) (c : UInt8) (w : World) (hs : S.size = 2) (n0 : S.toList.isEmpty = false) (e1 : S[1]'(by omega) = c) (hc : c.toNat ≠ 250) : Calls Tryd.prog 15 #[.string S] w fun e w' => e = .returned (Wr.val ⟨2, c.toNat, 0, [], false⟩) ∧ Below w.heap.size w w' := by
  simp only [Wr.val]
  have p1 : ((c.toNat : Int) == 250) = false := by rw [beq_eq_false_iff_ne]; omega
  have p2 : (c.toNat : Int) ≤ 255 := by have := c.toNat_lt; omega
  clear hc
  go_enter Tryd.func15, Tryd.ntmps15
  go_wp2
  refine bodyPost_ret (v := .agg #[.int .i64 2, .int .i64 (c.toNat : Int), .int .i64 0, .string ⟨#[]⟩, .bool false]) (by simp [results, Tryd.results15, go_sem]) rfl ⟨rfl, ?_⟩
  repeat (first | exact Below.refl _ _ | refine Below.alloc ?_ (by simp) _ | refine Below.setCell ?_ (by simp) _)

theorem five (W : World) (b : Nat) (v0 v1 v2 v3 v4 : Value) (h : ∀ j, j < 5 → (W.cell? ⟨b, j, none⟩).isSome = true) :
    (((((W.setCell ⟨b, 0, none⟩ v0).setCell ⟨b, 1, none⟩ v1).setCell ⟨b, 2, none⟩ v2).setCell ⟨b, 3, none⟩ v3).setCell ⟨b, 4, none⟩ v4).cell? ⟨b, 0, none⟩ = some v0 ∧
    (((((W.setCell ⟨b, 0, none⟩ v0).setCell ⟨b, 1, none⟩ v1).setCell ⟨b, 2, none⟩ v2).setCell ⟨b, 3, none⟩ v3).setCell ⟨b, 4, none⟩ v4).cell? ⟨b, 1, none⟩ = some v1 ∧
    (((((W.setCell ⟨b, 0, none⟩ v0).setCell ⟨b, 1, none⟩ v1).setCell ⟨b, 2, none⟩ v2).setCell ⟨b, 3, none⟩ v3).setCell ⟨b, 4, none⟩ v4).cell? ⟨b, 2, none⟩ = some v2 ∧
    (((((W.setCell ⟨b, 0, none⟩ v0).setCell ⟨b, 1, none⟩ v1).setCell ⟨b, 2, none⟩ v2).setCell ⟨b, 3, none⟩ v3).setCell ⟨b, 4, none⟩ v4).cell? ⟨b, 3, none⟩ = some v3 ∧
    (((((W.setCell ⟨b, 0, none⟩ v0).setCell ⟨b, 1, none⟩ v1).setCell ⟨b, 2, none⟩ v2).setCell ⟨b, 3, none⟩ v3).setCell ⟨b, 4, none⟩ v4).cell? ⟨b, 4, none⟩ = some v4 := by
  have key := World.cell?_setCells_in b [v0, v1, v2, v3, v4] 0 W (fun j hj => by rw [Nat.zero_add]; exact h j hj)
  exact ⟨key 0 (by simp), key 1 (by simp), key 2 (by simp), key 3 (by simp), key 4 (by simp)⟩

theorem wire_ret {a : Act} {R : Ending → World → Prop} (W : World) (b : Nat) (v0 v1 v2 v3 v4 : Value) (h : ∀ j, j < 5 → (W.cell? ⟨b, j, none⟩).isSome = true)
    (ht : a.tmps[2]? = some (.pointer (some ⟨b, 0, none⟩))) (hd : a.defers = [])
    (hR : R (.returned (.agg #[v0, v1, v2, v3, v4])) (((((W.setCell ⟨b, 0, none⟩ v0).setCell ⟨b, 1, none⟩ v1).setCell ⟨b, 2, none⟩ v2).setCell ⟨b, 3, none⟩ v3).setCell ⟨b, 4, none⟩ v4)) :
    bodyPost Tryd.prog Tryd.f15 R .ret a (((((W.setCell ⟨b, 0, none⟩ v0).setCell ⟨b, 1, none⟩ v1).setCell ⟨b, 2, none⟩ v2).setCell ⟨b, 3, none⟩ v3).setCell ⟨b, 4, none⟩ v4) := by
  obtain ⟨c0, c1, c2, c3, c4⟩ := five W b v0 v1 v2 v3 v4 h
  revert hR
  generalize ((((W.setCell ⟨b, 0, none⟩ v0).setCell ⟨b, 1, none⟩ v1).setCell ⟨b, 2, none⟩ v2).setCell ⟨b, 3, none⟩ v3).setCell ⟨b, 4, none⟩ v4 = W5 at *
  intro hR
  refine bodyPost_ret (v := .agg #[v0, v1, v2, v3, v4]) ?_ hd hR
  simp [results, Tryd.results15, go_sem, ht, c0, c1, c2, c3, c4]
end Go.Proofs.YtmcoliblkkploaaDoor
