/-
  Proved: the closed sentence farlaw.Names returns true, at every start; no condition.
-/
import Derived.Test.YtmcoliblkkploaaRows
import Derived.WalkKit
import Derived.WalkSpells
import Derived.WalkLawsBesides
import Derived.ProofKit
import Derived.OpenShut
import Derived.BigQuiet
import Derived.Deep.Draws
import Derived.Shelf.RegionOpenPlain
import Derived.Deep.LoopGhost
namespace Go.Proofs.Ytmcoliblkkploaa.names
open Go.ChangeShapes Go.WideShapes Go.ChangeAt Go.RowKit

theorem up0_9 (k : Nat) (h : k < 9) : ([.int .i64 0, .int .i64 1, .int .i64 2, .int .i64 3, .int .i64 4, .int .i64 5, .int .i64 6, .int .i64 7, .int .i64 8] : List Value)[k]'h = .int .i64 (k) := by
  rcases (by omega : k = 0 ∨ k = 1 ∨ k = 2 ∨ k = 3 ∨ k = 4 ∨ k = 5 ∨ k = 6 ∨ k = 7 ∨ k = 8) with rfl | rfl | rfl | rfl | rfl | rfl | rfl | rfl | rfl <;> rfl

theorem up0_6 (k : Nat) (h : k < 6) : ([.int .i64 0, .int .i64 1, .int .i64 2, .int .i64 3, .int .i64 4, .int .i64 5] : List Value)[k]'h = .int .i64 (k) := by
  rcases (by omega : k = 0 ∨ k = 1 ∨ k = 2 ∨ k = 3 ∨ k = 4 ∨ k = 5) with rfl | rfl | rfl | rfl | rfl | rfl <;> rfl

theorem up0_3 (k : Nat) (h : k < 3) : ([.int .i64 0, .int .i64 1, .int .i64 2] : List Value)[k]'h = .int .i64 (k) := by
  rcases (by omega : k = 0 ∨ k = 1 ∨ k = 2) with rfl | rfl | rfl <;> rfl

theorem up0_11 (k : Nat) (h : k < 11) : ([.int .i64 0, .int .i64 1, .int .i64 2, .int .i64 3, .int .i64 4, .int .i64 5, .int .i64 6, .int .i64 7, .int .i64 8, .int .i64 9, .int .i64 10] : List Value)[k]'h = .int .i64 (k) := by
  rcases (by omega : k = 0 ∨ k = 1 ∨ k = 2 ∨ k = 3 ∨ k = 4 ∨ k = 5 ∨ k = 6 ∨ k = 7 ∨ k = 8 ∨ k = 9 ∨ k = 10) with rfl | rfl | rfl | rfl | rfl | rfl | rfl | rfl | rfl | rfl | rfl <;> rfl

theorem up1_5 (k : Nat) (h : k < 5) : ([.int .i64 1, .int .i64 2, .int .i64 3, .int .i64 4, .int .i64 5] : List Value)[k]'h = .int .i64 (k + 1) := by
  rcases (by omega : k = 0 ∨ k = 1 ∨ k = 2 ∨ k = 3 ∨ k = 4) with rfl | rfl | rfl | rfl | rfl <;> rfl

theorem up1_4 (k : Nat) (h : k < 4) : ([.int .i64 1, .int .i64 2, .int .i64 3, .int .i64 4] : List Value)[k]'h = .int .i64 (k + 1) := by
  rcases (by omega : k = 0 ∨ k = 1 ∨ k = 2 ∨ k = 3) with rfl | rfl | rfl | rfl <;> rfl

theorem up1_6 (k : Nat) (h : k < 6) : ([.int .i64 1, .int .i64 2, .int .i64 3, .int .i64 4, .int .i64 5, .int .i64 6] : List Value)[k]'h = .int .i64 (k + 1) := by
  rcases (by omega : k = 0 ∨ k = 1 ∨ k = 2 ∨ k = 3 ∨ k = 4 ∨ k = 5) with rfl | rfl | rfl | rfl | rfl | rfl <;> rfl

theorem up1_11 (k : Nat) (h : k < 11) : ([.int .i64 1, .int .i64 2, .int .i64 3, .int .i64 4, .int .i64 5, .int .i64 6, .int .i64 7, .int .i64 8, .int .i64 9, .int .i64 10, .int .i64 11] : List Value)[k]'h = .int .i64 (k + 1) := by
  rcases (by omega : k = 0 ∨ k = 1 ∨ k = 2 ∨ k = 3 ∨ k = 4 ∨ k = 5 ∨ k = 6 ∨ k = 7 ∨ k = 8 ∨ k = 9 ∨ k = 10) with rfl | rfl | rfl | rfl | rfl | rfl | rfl | rfl | rfl | rfl | rfl <;> rfl


set_option maxHeartbeats 2000000 in
set_option maxRecDepth 100000 in
theorem equal_same (b1 n c b2 d : Nat) (xs : List Value) (w : World) (hn : n ≤ 100) (hi : ∀ j, j < n → ∃ z : Int, xs.getD j undef = .int .i64 z) (hc1 : ∀ j, j < n → w.cell? ⟨b1, j, none⟩ = some (xs.getD j undef)) (hc2 : ∀ j, j < n → w.cell? ⟨b2, j, none⟩ = some (xs.getD j undef)) :
    Calls Try.prog 4 #[.slice (some ⟨b1, 0, none⟩) n c, .slice (some ⟨b2, 0, none⟩) n d] w fun e w' => e = .returned (.bool true) ∧ ∃ q, w' = w.drewN q := by
  go_enter Try.func4, Try.ntmps4
  go_wp2
  go_loopg [13] n (fun g s13 wr => ∃ k q : Nat, k ≤ n ∧ n - k ≤ g ∧ s13 = .int .i64 k ∧ wr = w.drewN q)
  case atStart => exact ⟨0, 0, Nat.zero_le _, by omega, rfl, rfl⟩
  case round =>
    obtain ⟨k, q, hk, hg, rfl, rfl⟩ := hrel
    by_cases hlt : k < n
    · have g1 := hc1 k hlt
      have g2 := hc2 k hlt
      obtain ⟨z, hz⟩ := hi k hlt
      rw [hz] at g1 g2
      clear hc1 hc2 hi hz
      go_wp2_with fail
      go_region
      go_wp2
      go_roundg (n - (k + 1))
      case measure => omega
      case rel => exact ⟨k + 1, q + 1, by omega, by omega, by go_num, rfl⟩
    · have : k = n := by omega
      subst this
      go_wp2
      go_ret
      exact ⟨rfl, q, rfl⟩

def bytesL : List Value := [.int .i64 240, .int .i64 250, .int .i64 251, .int .i64 252, .int .i64 253, .int .i64 254, .int .i64 255, .int .i64 10, .int .i64 11, .int .i64 12, .int .i64 13, .int .i64 14, .int .i64 17, .int .i64 18, .int .i64 0, .int .i64 1, .int .i64 24, .int .i64 31, .int .i64 34, .int .i64 39, .int .i64 0, .int .i64 23, .int .i64 24, .int .i64 25, .int .i64 26]
theorem ints_bytes : ∀ j, j < 25 → ∃ z : Int, bytesL.getD j undef = .int .i64 z := by
  intro j hj
  rcases (by omega : j = 0 ∨ j = 1 ∨ j = 2 ∨ j = 3 ∨ j = 4 ∨ j = 5 ∨ j = 6 ∨ j = 7 ∨ j = 8 ∨ j = 9 ∨ j = 10 ∨ j = 11 ∨ j = 12 ∨ j = 13 ∨ j = 14 ∨ j = 15 ∨ j = 16 ∨ j = 17 ∨ j = 18 ∨ j = 19 ∨ j = 20 ∨ j = 21 ∨ j = 22 ∨ j = 23 ∨ j = 24) with rfl | rfl | rfl | rfl | rfl | rfl | rfl | rfl | rfl | rfl | rfl | rfl | rfl | rfl | rfl | rfl | rfl | rfl | rfl | rfl | rfl | rfl | rfl | rfl | rfl <;> exact ⟨_, rfl⟩
theorem bytes_at (j : Nat) (hj : j < 25) : (#[.int .i64 240, .int .i64 250, .int .i64 251, .int .i64 252, .int .i64 253, .int .i64 254, .int .i64 255, .int .i64 10, .int .i64 11, .int .i64 12, .int .i64 13, .int .i64 14, .int .i64 17, .int .i64 18, .int .i64 0, .int .i64 1, .int .i64 24, .int .i64 31, .int .i64 34, .int .i64 39, .int .i64 0, .int .i64 23, .int .i64 24, .int .i64 25, .int .i64 26] : Array Value)[j]? = some (bytesL.getD j undef) := by
  rcases (by omega : j = 0 ∨ j = 1 ∨ j = 2 ∨ j = 3 ∨ j = 4 ∨ j = 5 ∨ j = 6 ∨ j = 7 ∨ j = 8 ∨ j = 9 ∨ j = 10 ∨ j = 11 ∨ j = 12 ∨ j = 13 ∨ j = 14 ∨ j = 15 ∨ j = 16 ∨ j = 17 ∨ j = 18 ∨ j = 19 ∨ j = 20 ∨ j = 21 ∨ j = 22 ∨ j = 23 ∨ j = 24) with rfl | rfl | rfl | rfl | rfl | rfl | rfl | rfl | rfl | rfl | rfl | rfl | rfl | rfl | rfl | rfl | rfl | rfl | rfl | rfl | rfl | rfl | rfl | rfl | rfl <;> rfl
def limitsL : List Value := [.int .i64 4096, .int .i64 1000, .int .i64 200, .int .i64 8, .int .i64 20, .int .i64 200, .int .i64 1024, .int .i64 32, .int .i64 16383, .int .i64 256, .int .i64 160, .int .i64 60, .int .i64 40, .int .i64 500, .int .i64 4000, .int .i64 300, .int .i64 200]
theorem ints_limits : ∀ j, j < 17 → ∃ z : Int, limitsL.getD j undef = .int .i64 z := by
  intro j hj
  rcases (by omega : j = 0 ∨ j = 1 ∨ j = 2 ∨ j = 3 ∨ j = 4 ∨ j = 5 ∨ j = 6 ∨ j = 7 ∨ j = 8 ∨ j = 9 ∨ j = 10 ∨ j = 11 ∨ j = 12 ∨ j = 13 ∨ j = 14 ∨ j = 15 ∨ j = 16) with rfl | rfl | rfl | rfl | rfl | rfl | rfl | rfl | rfl | rfl | rfl | rfl | rfl | rfl | rfl | rfl | rfl <;> exact ⟨_, rfl⟩
theorem limits_at (j : Nat) (hj : j < 17) : (#[.int .i64 4096, .int .i64 1000, .int .i64 200, .int .i64 8, .int .i64 20, .int .i64 200, .int .i64 1024, .int .i64 32, .int .i64 16383, .int .i64 256, .int .i64 160, .int .i64 60, .int .i64 40, .int .i64 500, .int .i64 4000, .int .i64 300, .int .i64 200] : Array Value)[j]? = some (limitsL.getD j undef) := by
  rcases (by omega : j = 0 ∨ j = 1 ∨ j = 2 ∨ j = 3 ∨ j = 4 ∨ j = 5 ∨ j = 6 ∨ j = 7 ∨ j = 8 ∨ j = 9 ∨ j = 10 ∨ j = 11 ∨ j = 12 ∨ j = 13 ∨ j = 14 ∨ j = 15 ∨ j = 16) with rfl | rfl | rfl | rfl | rfl | rfl | rfl | rfl | rfl | rfl | rfl | rfl | rfl | rfl | rfl | rfl | rfl <;> rfl
theorem bytes_cells (w0 : World) (N : Nat) (hN : N = w0.heap.size) (o : Obj) (j : Nat) (hj : j < 25) :
    (((w0.alloc (.cells #[.int .i64 240, .int .i64 250, .int .i64 251, .int .i64 252, .int .i64 253, .int .i64 254, .int .i64 255, .int .i64 10, .int .i64 11, .int .i64 12, .int .i64 13, .int .i64 14, .int .i64 17, .int .i64 18, .int .i64 0, .int .i64 1, .int .i64 24, .int .i64 31, .int .i64 34, .int .i64 39, .int .i64 0, .int .i64 23, .int .i64 24, .int .i64 25, .int .i64 26] 3)).alloc o).alloc (.cells #[.int .i64 240, .int .i64 250, .int .i64 251, .int .i64 252, .int .i64 253, .int .i64 254, .int .i64 255, .int .i64 10, .int .i64 11, .int .i64 12, .int .i64 13, .int .i64 14, .int .i64 17, .int .i64 18, .int .i64 0, .int .i64 1, .int .i64 24, .int .i64 31, .int .i64 34, .int .i64 39, .int .i64 0, .int .i64 23, .int .i64 24, .int .i64 25, .int .i64 26] 3)).cell? ⟨N, j, none⟩ = some (bytesL.getD j undef) ∧
    (((w0.alloc (.cells #[.int .i64 240, .int .i64 250, .int .i64 251, .int .i64 252, .int .i64 253, .int .i64 254, .int .i64 255, .int .i64 10, .int .i64 11, .int .i64 12, .int .i64 13, .int .i64 14, .int .i64 17, .int .i64 18, .int .i64 0, .int .i64 1, .int .i64 24, .int .i64 31, .int .i64 34, .int .i64 39, .int .i64 0, .int .i64 23, .int .i64 24, .int .i64 25, .int .i64 26] 3)).alloc o).alloc (.cells #[.int .i64 240, .int .i64 250, .int .i64 251, .int .i64 252, .int .i64 253, .int .i64 254, .int .i64 255, .int .i64 10, .int .i64 11, .int .i64 12, .int .i64 13, .int .i64 14, .int .i64 17, .int .i64 18, .int .i64 0, .int .i64 1, .int .i64 24, .int .i64 31, .int .i64 34, .int .i64 39, .int .i64 0, .int .i64 23, .int .i64 24, .int .i64 25, .int .i64 26] 3)).cell? ⟨N + 1 + 1, j, none⟩ = some (bytesL.getD j undef) := by
  subst hN
  constructor
  · rw [World.cell?_alloc_past (hn := by simp only [World.size_alloc]; omega), World.cell?_alloc_past (hn := by simp), World.cell?_alloc_at (hn := rfl)]
    exact bytes_at j hj
  · rw [World.cell?_alloc_at (hn := by simp)]
    exact bytes_at j hj

theorem grown_drewN {W w1 : World} (h : Grown W w1) (q : Nat) : Grown W (w1.drewN q) := by
  induction q with
  | zero => exact h
  | succ q ih => exact ih.drew

theorem limits_cells (w0 : World) (N : Nat) (hN : N = w0.heap.size) (o : Obj) (q : Nat) (j : Nat) (hj : j < 17) :
    ((((w0.alloc (.cells #[.int .i64 4096, .int .i64 1000, .int .i64 200, .int .i64 8, .int .i64 20, .int .i64 200, .int .i64 1024, .int .i64 32, .int .i64 16383, .int .i64 256, .int .i64 160, .int .i64 60, .int .i64 40, .int .i64 500, .int .i64 4000, .int .i64 300, .int .i64 200] 3)).alloc o).drewN q).alloc (.cells #[.int .i64 4096, .int .i64 1000, .int .i64 200, .int .i64 8, .int .i64 20, .int .i64 200, .int .i64 1024, .int .i64 32, .int .i64 16383, .int .i64 256, .int .i64 160, .int .i64 60, .int .i64 40, .int .i64 500, .int .i64 4000, .int .i64 300, .int .i64 200] 3)).cell? ⟨N, j, none⟩ = some (limitsL.getD j undef) ∧
    ((((w0.alloc (.cells #[.int .i64 4096, .int .i64 1000, .int .i64 200, .int .i64 8, .int .i64 20, .int .i64 200, .int .i64 1024, .int .i64 32, .int .i64 16383, .int .i64 256, .int .i64 160, .int .i64 60, .int .i64 40, .int .i64 500, .int .i64 4000, .int .i64 300, .int .i64 200] 3)).alloc o).drewN q).alloc (.cells #[.int .i64 4096, .int .i64 1000, .int .i64 200, .int .i64 8, .int .i64 20, .int .i64 200, .int .i64 1024, .int .i64 32, .int .i64 16383, .int .i64 256, .int .i64 160, .int .i64 60, .int .i64 40, .int .i64 500, .int .i64 4000, .int .i64 300, .int .i64 200] 3)).cell? ⟨N + 1 + 1, j, none⟩ = some (limitsL.getD j undef) := by
  subst hN
  constructor
  · rw [World.cell?_alloc_past (hn := by simp only [World.heap_drewN, World.size_alloc]; omega), World.cell?_drewN, World.cell?_alloc_past (hn := by simp), World.cell?_alloc_at (hn := rfl)]
    exact limits_at j hj
  · rw [World.cell?_alloc_at (hn := by simp [World.heap_drewN])]
    exact limits_at j hj


set_option maxHeartbeats 4000000 in
set_option maxRecDepth 100000 in
theorem walk  (w : World) :
    Calls Try.prog 3 #[] w fun e w' => e = .returned (.bool true) ∧ Grown w w' := by
  go_enter Try.func3, Try.ntmps3
  go_wp2
  go_loop [17] (fun i => ∃ k : Nat, k ≤ 9 ∧ i = .int .i64 k) (fun i => 9 - (intOf i).toNat)
  case atStart => exact ⟨0, by omega, rfl⟩
  case round =>
    obtain ⟨k, hk, rfl⟩ := hrel
    by_cases hlt : k < 9
    · have e := up0_9
      go_wp2
      go_round
      case rel => exact ⟨k + 1, by omega, by go_num⟩
      case measure => simp [intOf]; omega
    · obtain rfl : k = 9 := by omega
      clear hk hlt
      go_wp2
      go_loop [34] (fun i => ∃ k : Nat, k ≤ 6 ∧ i = .int .i64 k) (fun i => 6 - (intOf i).toNat)
      case atStart => exact ⟨0, by omega, rfl⟩
      case round =>
        obtain ⟨k, hk, rfl⟩ := hrel
        rcases (by omega : k = 0 ∨ k = 1 ∨ k = 2 ∨ k = 3 ∨ k = 4 ∨ k = 5 ∨ k = 6) with rfl | rfl | rfl | rfl | rfl | rfl | rfl

        · go_wp2
          go_loop [40] (fun i => ∃ k : Nat, k ≤ 5 ∧ i = .int .i64 k) (fun i => 5 - (intOf i).toNat)
          case atStart => exact ⟨0, by omega, rfl⟩
          case round =>
            obtain ⟨k, hk, rfl⟩ := hrel
            by_cases hlt : k < 5
            · have e := up1_5
              go_wp2
              go_round
              case rel => exact ⟨k + 1, by omega, by go_num⟩
              case measure => simp [intOf]; omega
            · obtain rfl : k = 5 := by omega
              clear hk hlt
              go_wp2
              go_round
              case rel => exact ⟨1, by omega, by go_num⟩
              case measure => simp [intOf]

        · go_wp2
          go_loop [40] (fun i => ∃ k : Nat, k ≤ 4 ∧ i = .int .i64 k) (fun i => 4 - (intOf i).toNat)
          case atStart => exact ⟨0, by omega, rfl⟩
          case round =>
            obtain ⟨k, hk, rfl⟩ := hrel
            by_cases hlt : k < 4
            · have e := up1_4
              go_wp2
              go_round
              case rel => exact ⟨k + 1, by omega, by go_num⟩
              case measure => simp [intOf]; omega
            · obtain rfl : k = 4 := by omega
              clear hk hlt
              go_wp2
              go_round
              case rel => exact ⟨2, by omega, by go_num⟩
              case measure => simp [intOf]

        · go_wp2
          go_loop [40] (fun i => ∃ k : Nat, k ≤ 4 ∧ i = .int .i64 k) (fun i => 4 - (intOf i).toNat)
          case atStart => exact ⟨0, by omega, rfl⟩
          case round =>
            obtain ⟨k, hk, rfl⟩ := hrel
            by_cases hlt : k < 4
            · have e := up1_4
              go_wp2
              go_round
              case rel => exact ⟨k + 1, by omega, by go_num⟩
              case measure => simp [intOf]; omega
            · obtain rfl : k = 4 := by omega
              clear hk hlt
              go_wp2
              go_round
              case rel => exact ⟨3, by omega, by go_num⟩
              case measure => simp [intOf]

        · go_wp2
          go_loop [40] (fun i => ∃ k : Nat, k ≤ 6 ∧ i = .int .i64 k) (fun i => 6 - (intOf i).toNat)
          case atStart => exact ⟨0, by omega, rfl⟩
          case round =>
            obtain ⟨k, hk, rfl⟩ := hrel
            by_cases hlt : k < 6
            · have e := up1_6
              go_wp2
              go_round
              case rel => exact ⟨k + 1, by omega, by go_num⟩
              case measure => simp [intOf]; omega
            · obtain rfl : k = 6 := by omega
              clear hk hlt
              go_wp2
              go_round
              case rel => exact ⟨4, by omega, by go_num⟩
              case measure => simp [intOf]

        · go_wp2
          go_loop [40] (fun i => ∃ k : Nat, k ≤ 6 ∧ i = .int .i64 k) (fun i => 6 - (intOf i).toNat)
          case atStart => exact ⟨0, by omega, rfl⟩
          case round =>
            obtain ⟨k, hk, rfl⟩ := hrel
            by_cases hlt : k < 6
            · have e := up1_6
              go_wp2
              go_round
              case rel => exact ⟨k + 1, by omega, by go_num⟩
              case measure => simp [intOf]; omega
            · obtain rfl : k = 6 := by omega
              clear hk hlt
              go_wp2
              go_round
              case rel => exact ⟨5, by omega, by go_num⟩
              case measure => simp [intOf]

        · go_wp2
          go_loop [40] (fun i => ∃ k : Nat, k ≤ 11 ∧ i = .int .i64 k) (fun i => 11 - (intOf i).toNat)
          case atStart => exact ⟨0, by omega, rfl⟩
          case round =>
            obtain ⟨k, hk, rfl⟩ := hrel
            by_cases hlt : k < 11
            · have e := up1_11
              go_wp2
              go_round
              case rel => exact ⟨k + 1, by omega, by go_num⟩
              case measure => simp [intOf]; omega
            · obtain rfl : k = 11 := by omega
              clear hk hlt
              go_wp2
              go_round
              case rel => exact ⟨6, by omega, by go_num⟩
              case measure => simp [intOf]

        · clear hk
          go_wp2
          go_loop [56] (fun i => ∃ k : Nat, k ≤ 3 ∧ i = .int .i64 k) (fun i => 3 - (intOf i).toNat)
          case atStart => exact ⟨0, by omega, rfl⟩
          case round =>
            obtain ⟨k, hk, rfl⟩ := hrel
            rcases (by omega : k = 0 ∨ k = 1 ∨ k = 2 ∨ k = 3) with rfl | rfl | rfl | rfl

            · go_wp2
              go_loop [62] (fun i => ∃ k : Nat, k ≤ 6 ∧ i = .int .i64 k) (fun i => 6 - (intOf i).toNat)
              case atStart => exact ⟨0, by omega, rfl⟩
              case round =>
                obtain ⟨k, hk, rfl⟩ := hrel
                by_cases hlt : k < 6
                · have e := up0_6
                  go_wp2
                  go_round
                  case rel => exact ⟨k + 1, by omega, by go_num⟩
                  case measure => simp [intOf]; omega
                · obtain rfl : k = 6 := by omega
                  clear hk hlt
                  go_wp2
                  go_round
                  case rel => exact ⟨1, by omega, by go_num⟩
                  case measure => simp [intOf]

            · go_wp2
              go_loop [62] (fun i => ∃ k : Nat, k ≤ 3 ∧ i = .int .i64 k) (fun i => 3 - (intOf i).toNat)
              case atStart => exact ⟨0, by omega, rfl⟩
              case round =>
                obtain ⟨k, hk, rfl⟩ := hrel
                by_cases hlt : k < 3
                · have e := up0_3
                  go_wp2
                  go_round
                  case rel => exact ⟨k + 1, by omega, by go_num⟩
                  case measure => simp [intOf]; omega
                · obtain rfl : k = 3 := by omega
                  clear hk hlt
                  go_wp2
                  go_round
                  case rel => exact ⟨2, by omega, by go_num⟩
                  case measure => simp [intOf]

            · go_wp2
              go_loop [62] (fun i => ∃ k : Nat, k ≤ 11 ∧ i = .int .i64 k) (fun i => 11 - (intOf i).toNat)
              case atStart => exact ⟨0, by omega, rfl⟩
              case round =>
                obtain ⟨k, hk, rfl⟩ := hrel
                by_cases hlt : k < 11
                · have e := up0_11
                  go_wp2
                  go_round
                  case rel => exact ⟨k + 1, by omega, by go_num⟩
                  case measure => simp [intOf]; omega
                · obtain rfl : k = 11 := by omega
                  clear hk hlt
                  go_wp2
                  go_round
                  case rel => exact ⟨3, by omega, by go_num⟩
                  case measure => simp [intOf]

            · clear hk
              go_wp2
              go_loop [74] (fun i => ∃ k : Nat, k ≤ 11 ∧ i = .int .i64 k) (fun i => 11 - (intOf i).toNat)
              case atStart => exact ⟨0, by omega, rfl⟩
              case round =>
                obtain ⟨k, hk, rfl⟩ := hrel
                rcases (by omega : k = 0 ∨ k = 1 ∨ k = 2 ∨ k = 3 ∨ k = 4 ∨ k = 5 ∨ k = 6 ∨ k = 7 ∨ k = 8 ∨ k = 9 ∨ k = 10 ∨ k = 11) with rfl | rfl | rfl | rfl | rfl | rfl | rfl | rfl | rfl | rfl | rfl | rfl

                · go_wp2
                  go_round
                  case rel => exact ⟨1, by omega, by go_num⟩
                  case measure => simp [intOf]

                · go_wp2
                  go_round
                  case rel => exact ⟨2, by omega, by go_num⟩
                  case measure => simp [intOf]

                · go_wp2
                  go_round
                  case rel => exact ⟨3, by omega, by go_num⟩
                  case measure => simp [intOf]

                · go_wp2
                  go_round
                  case rel => exact ⟨4, by omega, by go_num⟩
                  case measure => simp [intOf]

                · go_wp2
                  go_round
                  case rel => exact ⟨5, by omega, by go_num⟩
                  case measure => simp [intOf]

                · go_wp2
                  go_round
                  case rel => exact ⟨6, by omega, by go_num⟩
                  case measure => simp [intOf]

                · go_wp2
                  go_round
                  case rel => exact ⟨7, by omega, by go_num⟩
                  case measure => simp [intOf]

                · go_wp2
                  go_round
                  case rel => exact ⟨8, by omega, by go_num⟩
                  case measure => simp [intOf]

                · go_wp2
                  go_round
                  case rel => exact ⟨9, by omega, by go_num⟩
                  case measure => simp [intOf]

                · go_wp2
                  go_round
                  case rel => exact ⟨10, by omega, by go_num⟩
                  case measure => simp [intOf]

                · go_wp2
                  go_round
                  case rel => exact ⟨11, by omega, by go_num⟩
                  case measure => simp [intOf]

                · clear hk
                  go_wp2_with fail
                  refine (equal_same _ 25 _ _ _ bytesL _ (by omega) ints_bytes ?_ ?_).mono ?_
                  · exact fun j hj => (bytes_cells _ _ (by simp) _ j hj).1
                  · exact fun j hj => (bytes_cells _ _ (by simp) _ j hj).2
                  rintro e w1 ⟨rfl, q, rfl⟩
                  go_wp2_with fail
                  refine (equal_same _ 17 _ _ _ limitsL _ (by omega) ints_limits ?_ ?_).mono ?_
                  · exact fun j hj => (limits_cells _ _ (by simp) _ q j hj).1
                  · exact fun j hj => (limits_cells _ _ (by simp) _ q j hj).2
                  rintro e w1 ⟨rfl, q1, rfl⟩
                  go_wp2
                  go_ret
                  exact ⟨rfl, grown_drewN (Grown.alloc (grown_drewN (((((((((((((((((Grown.refl w).alloc _ _).alloc _ _).alloc _ _).alloc _ _).alloc _ _).alloc _ _).alloc _ _).alloc _ _).alloc _ _).alloc _ _).alloc _ _).alloc _ _).alloc _ _).alloc _ _).alloc _ _).alloc _ _) q) _ _) q1⟩

theorem own : ownKnob Try.prog.godebug = none := by kernel_rfl
set_option maxRecDepth 100000 in
theorem lifted (os : Os) (started : os.Started) (H : Type) (enc : TypeId × Value → H) :
    ReturnsInHanded {} Try.checked os 3 .any (Rows.namesSpec.pre6 enc Try.prog Try.f3 Rows.namesRow.domain false) (Rows.namesSpec.post enc Try.prog Try.f3 false true false false) := by
  refine returnsInHanded_of_change (C := Try.checked) own started (by kernel_rfl) Try.func3
    (ChangeSpec.witness6 (enc := enc) (C := Try.checked) false ⟨#[], #[], []⟩ 8 (by kernel_rfl) (by kernel_rfl) (by kernel_rfl) (by kernel_rfl)) ?_
  intro W base args ds gs before hval0 hW hcnd _
  have hval : ∀ (j : Nat) t v, Try.f3.params[j]? = some t → args[j]? = some v → Value.okWide Try.prog W .any base t v := hval0
  have hW' := hW
  obtain ⟨p, q, hA0, hV, rfl, hfz, hnd⟩ := hW
  have hA : DataW.TrodAll enc Try.prog W 0 (fun _ => true) true Try.f3.params.toList args.toList ds p := hA0
  rw [Try.params3] at hA hval
  obtain ⟨rfl, rfl, rfl⟩ := trodAll_none hA
  obtain ⟨rfl, rfl⟩ := trodVars_none hV
  clear hA0 hval0
  simp only [List.append_nil] at hW'
  refine (walk  W).mono fun e W' ⟨he, hg⟩ => ?_
  subst he
  exact ⟨_, rfl, post_of_same (pa := []) (pv := []) hW' (fun _ _ _ => (trodAll_cons_mk (shut_bool Try.underlying4 _) trodAll_mk0)) (fun sp _ => rfl) (fun _ _ => rfl) rfl
    (hg.frame _) hg.2.1 (ok_one (by kernel_rfl) rfl (okWide_bool_mk Try.underlying4 _))⟩

theorem over : Rows.namesRow.holds Try.pinned (OpenSpec.ofChange Rows.namesSpec) :=
  OpenClaim.holds_of_wide 3 Try.f3 rfl rfl rfl rfl rfl rfl rfl ⟨rfl, rfl, rfl, rfl, rfl⟩ rfl rfl rfl rfl rfl (by kernel_rfl) Try.func3 (by kernel_rfl)
    (of_decide_eq_true (by kernel_rfl)) (by unfold Func.isWrapper; first | (rw [if_pos (by decide +kernel)]; kernel_rfl) | (rw [if_neg (by decide +kernel)]; exact ⟨rfl, rfl⟩))
    (fun os started H enc _ => lifted os started H enc)

theorem proved : Rows.NamesSaid :=
  over

end Go.Proofs.Ytmcoliblkkploaa.names
namespace Go.Proofs.Ytmcoliblkkploaa
theorem names_holds : Rows.NamesSaid := names.proved
#print axioms names_holds
end Go.Proofs.Ytmcoliblkkploaa
