/-
  Contract of farref.KeySaid; no condition.
-/
import Derived.Test.YtfipmggdpigbkaaKRef
import Derived.Test.YtfipmggdpigbkaaKSet2
namespace Go.Proofs.Ytfipmggdpigbkaa.K
open Go.RowKit Go.Lib Go.Proofs.Ytfipmggdpigbkaa Go.Proofs.Ytfipmggdpigbkaa.W Go.Proofs.Ytfipmggdpigbkaa.Q

/-- what a function's level and key become, and what is said, also of what is no function -/
def saidR (o y f g c : UInt8) : UInt8 × UInt8 × List UInt8 :=
  if isF f then ((say o y g c).1, (say o y g c).2.1, outB f (say o y g c).2.2) else (o, y, if g < 128 then [f, 0, 0] else [])
def RI (r : UInt8 × UInt8 × List UInt8) : Value := .tuple #[.int .i64 (r.1.toNat : Int), .int .i64 (r.2.1.toNat : Int), .string (bs r.2.2)]
def KArgs (o y f g c : UInt8) : Array Value := #[.int .i64 (o.toNat : Int), .int .i64 (y.toNat : Int), .int .i64 (f.toNat : Int), .int .i64 (g.toNat : Int), .int .i64 (c.toNat : Int)]
theorem add128 (L : UInt8) (h : L.toNat ≤ 3) : ((128 + L).toNat : Int) = 128 + (L.toNat : Int) := by
  have : (128 + L).toNat = (128 + L.toNat) % 256 := by rw [UInt8.toNat_add]; rfl
  omega
theorem mod4I (g : UInt8) : (g % 4).toNat ≤ 3 ∧ ((g.toNat : Int) % 4 = ((g % 4).toNat : Int)) := by
  have h : (g % 4).toNat = g.toNat % 4 := by simp
  omega
theorem btw_isF (f : UInt8) : btw (f.toNat : Int) 1 18 = isF f := by
  unfold btw isF
  rw [Bool.eq_iff_iff, decide_eq_true_eq, decide_eq_true_eq]
  omega
theorem ge_iff (g : UInt8) : 128 ≤ g ↔ (128 : Int) ≤ (g.toNat : Int) := by
  rw [UInt8.le_iff_toNat_le]
  have : (128 : UInt8).toNat = 128 := rfl
  omega

set_option maxHeartbeats 4000000 in
set_option maxRecDepth 4000 in
theorem said_out1 (o y f g c : UInt8) (hf : isF f = false) (hg : (128 : Int) ≤ (g.toNat : Int)) (w : World) : Calls Try.prog 19 (KArgs o y f g c) w fun e w' => e = .returned (RI (o, y, [])) ∧ Below w.heap.size w w' := by
  have HBT : Hid (∀ w, Calls Try.prog 24 #[.int .i64 (f.toNat : Int), .int .i64 1, .int .i64 18] w fun e w' => e = .returned (.bool false) ∧ w' = w) := fun w => by
    have h := Between_any (f.toNat : Int) 1 18 w
    rw [btw_isF, hf] at h
    exact h
  obtain ⟨hG3, hm⟩ := mod4I g
  have HRE : Hid (RI (o, y, []) = .tuple #[.int .i64 ((o).toNat : Int), .int .i64 ((y).toNat : Int), .string (bs [])]) := rfl
  have hgb := u8_bd g
  have hLb := u8_bd (g % 4)
  unfold KArgs
  clear hf
  have hLL : ((g % 4).toNat : Int) = ((g % 4).toNat : Int) := rfl
  generalize ((g % 4).toNat : Int) = L at *
  clear hLL
  go_enter Try.func19, Try.ntmps19
  go_wp2_with (go_at_call 24; refine (HBT.out _).mono ?_; rintro e wb ⟨rfl, rfl⟩)
  go_ret3
  exact ⟨by rw [HRE.out]; rfl, Below.refl _ _⟩

set_option maxHeartbeats 4000000 in
set_option maxRecDepth 4000 in
theorem said_out2 (o y f g c : UInt8) (hf : isF f = false) (hg : ¬ (128 : Int) ≤ (g.toNat : Int)) (w : World) : Calls Try.prog 19 (KArgs o y f g c) w fun e w' => e = .returned (RI (o, y, [f, 0, 0])) ∧ Below w.heap.size w w' := by
  have HBT : Hid (∀ w, Calls Try.prog 24 #[.int .i64 (f.toNat : Int), .int .i64 1, .int .i64 18] w fun e w' => e = .returned (.bool false) ∧ w' = w) := fun w => by
    have h := Between_any (f.toNat : Int) 1 18 w
    rw [btw_isF, hf] at h
    exact h
  obtain ⟨hG3, hm⟩ := mod4I g
  have HBY : Hid (∀ w : World, Calls Try.prog 21 #[.slice (some ⟨w.heap.size, 0, none⟩) 3 3] (w.alloc (.cells #[.int .i64 ((f.toNat : Int)), .int .i64 (0), .int .i64 (0)] 3)) fun e w' => e = .returned (.string (bs [f, 0, 0])) ∧ Below w.heap.size w w') := fun w => by
    have h := Bytes_ints [f, 0, 0] w (by simp)
    exact h
  have HRE : Hid (RI (o, y, [f, 0, 0]) = .tuple #[.int .i64 ((o).toNat : Int), .int .i64 ((y).toNat : Int), .string (bs [f, 0, 0])]) := rfl
  have hgb := u8_bd g
  have hLb := u8_bd (g % 4)
  unfold KArgs
  clear hf
  generalize bs [f, 0, 0] = OUT at *
  have hLL : ((g % 4).toNat : Int) = ((g % 4).toNat : Int) := rfl
  generalize ((g % 4).toNat : Int) = L at *
  clear hLL
  go_enter Try.func19, Try.ntmps19
  go_wp2_with (first | (go_at_call 24; refine (HBT.out _).mono ?_; rintro e wb ⟨rfl, rfl⟩) | (go_at_call 21; refine (HBY.out _).mono ?_; rintro e wz ⟨rfl, hz⟩))
  go_ret3
  exact ⟨by rw [HRE.out]; rfl, hz⟩

set_option maxHeartbeats 4000000 in
set_option maxRecDepth 4000 in
theorem said_same (o y f g c : UInt8) (hf : isF f = true) (h1 : (((g % 4).toNat : Int) == (o.toNat : Int)) = true) (h2 : ((c.toNat : Int) == (y.toNat : Int)) = true) (w : World) : Calls Try.prog 19 (KArgs o y f g c) w fun e w' => e = .returned (RI (o, y, [])) ∧ Below w.heap.size w w' := by
  have HBT : Hid (∀ w, Calls Try.prog 24 #[.int .i64 (f.toNat : Int), .int .i64 1, .int .i64 18] w fun e w' => e = .returned (.bool true) ∧ w' = w) := fun w => by
    have h := Between_any (f.toNat : Int) 1 18 w
    rw [btw_isF, hf] at h
    exact h
  obtain ⟨hG3, hm⟩ := mod4I g
  have HRE : Hid (RI (o, y, []) = .tuple #[.int .i64 ((o).toNat : Int), .int .i64 ((y).toNat : Int), .string (bs [])]) := rfl
  have hgb := u8_bd g
  have hLb := u8_bd (g % 4)
  unfold KArgs
  clear hf
  have hLL : ((g % 4).toNat : Int) = ((g % 4).toNat : Int) := rfl
  generalize ((g % 4).toNat : Int) = L at *
  clear hLL
  go_enter Try.func19, Try.ntmps19
  go_wp2_with (go_at_call 24; refine (HBT.out _).mono ?_; rintro e wb ⟨rfl, rfl⟩)
  go_ret3
  exact ⟨by rw [HRE.out]; rfl, Below.refl _ _⟩

set_option maxHeartbeats 4000000 in
set_option maxRecDepth 4000 in
theorem said_sure3 (o y f g c : UInt8) (hf : isF f = true) (hn : ((((g % 4).toNat : Int) == (o.toNat : Int)) = false) ∨ ((((g % 4).toNat : Int) == (o.toNat : Int)) = true ∧ ((c.toNat : Int) == (y.toNat : Int)) = false)) (hg : (128 : Int) ≤ (g.toNat : Int)) (hL3 : (((g % 4).toNat : Int) == 3) = true) (w : World) : Calls Try.prog 19 (KArgs o y f g c) w fun e w' => e = .returned (RI (o, y, [])) ∧ Below w.heap.size w w' := by
  have HBT : Hid (∀ w, Calls Try.prog 24 #[.int .i64 (f.toNat : Int), .int .i64 1, .int .i64 18] w fun e w' => e = .returned (.bool true) ∧ w' = w) := fun w => by
    have h := Between_any (f.toNat : Int) 1 18 w
    rw [btw_isF, hf] at h
    exact h
  obtain ⟨hG3, hm⟩ := mod4I g
  have HRE : Hid (RI (o, y, []) = .tuple #[.int .i64 ((o).toNat : Int), .int .i64 ((y).toNat : Int), .string (bs [])]) := rfl
  have hgb := u8_bd g
  have hLb := u8_bd (g % 4)
  unfold KArgs
  clear hf
  have hLL : ((g % 4).toNat : Int) = ((g % 4).toNat : Int) := rfl
  generalize ((g % 4).toNat : Int) = L at *
  clear hLL
  rcases hn with hn1 | ⟨hn1, hn2⟩
  all_goals
    go_enter Try.func19, Try.ntmps19
    go_wp2_with (go_at_call 24; refine (HBT.out _).mono ?_; rintro e wb ⟨rfl, rfl⟩)
    go_ret3
    exact ⟨by rw [HRE.out]; rfl, Below.refl _ _⟩

set_option maxHeartbeats 4000000 in
set_option maxRecDepth 4000 in
theorem said_sure (o y f g c : UInt8) (hf : isF f = true) (hn : ((((g % 4).toNat : Int) == (o.toNat : Int)) = false) ∨ ((((g % 4).toNat : Int) == (o.toNat : Int)) = true ∧ ((c.toNat : Int) == (y.toNat : Int)) = false)) (hg : (128 : Int) ≤ (g.toNat : Int)) (hL3 : (((g % 4).toNat : Int) == 3) = false) (w : World) : Calls Try.prog 19 (KArgs o y f g c) w fun e w' => e = .returned (RI (g % 4, c, [])) ∧ Below w.heap.size w w' := by
  have HBT : Hid (∀ w, Calls Try.prog 24 #[.int .i64 (f.toNat : Int), .int .i64 1, .int .i64 18] w fun e w' => e = .returned (.bool true) ∧ w' = w) := fun w => by
    have h := Between_any (f.toNat : Int) 1 18 w
    rw [btw_isF, hf] at h
    exact h
  obtain ⟨hG3, hm⟩ := mod4I g
  have HRE : Hid (RI (g % 4, c, []) = .tuple #[.int .i64 ((g % 4).toNat : Int), .int .i64 ((c).toNat : Int), .string (bs [])]) := rfl
  have hgb := u8_bd g
  have hLb := u8_bd (g % 4)
  unfold KArgs
  clear hf
  have hLL : ((g % 4).toNat : Int) = ((g % 4).toNat : Int) := rfl
  generalize ((g % 4).toNat : Int) = L at *
  clear hLL
  rcases hn with hn1 | ⟨hn1, hn2⟩
  all_goals
    go_enter Try.func19, Try.ntmps19
    go_wp2_with (go_at_call 24; refine (HBT.out _).mono ?_; rintro e wb ⟨rfl, rfl⟩)
    go_ret3
    exact ⟨by rw [HRE.out]; rfl, Below.refl _ _⟩

set_option maxHeartbeats 4000000 in
set_option maxRecDepth 4000 in
theorem said_none (o y f g c : UInt8) (hf : isF f = true) (hn : ((((g % 4).toNat : Int) == (o.toNat : Int)) = false) ∨ ((((g % 4).toNat : Int) == (o.toNat : Int)) = true ∧ ((c.toNat : Int) == (y.toNat : Int)) = false)) (hg : ¬ (128 : Int) ≤ (g.toNat : Int)) (hL0 : (((g % 4).toNat : Int) == 0) = true) (w : World) : Calls Try.prog 19 (KArgs o y f g c) w fun e w' => e = .returned (RI (0, c, [f, 128, c])) ∧ Below w.heap.size w w' := by
  have HBT : Hid (∀ w, Calls Try.prog 24 #[.int .i64 (f.toNat : Int), .int .i64 1, .int .i64 18] w fun e w' => e = .returned (.bool true) ∧ w' = w) := fun w => by
    have h := Between_any (f.toNat : Int) 1 18 w
    rw [btw_isF, hf] at h
    exact h
  obtain ⟨hG3, hm⟩ := mod4I g
  have HBY : Hid (∀ w : World, Calls Try.prog 21 #[.slice (some ⟨w.heap.size, 0, none⟩) 3 3] (w.alloc (.cells #[.int .i64 ((f.toNat : Int)), .int .i64 (128), .int .i64 ((c.toNat : Int))] 3)) fun e w' => e = .returned (.string (bs [f, 128, c])) ∧ Below w.heap.size w w') := fun w => by
    have h := Bytes_ints [f, 128, c] w (by simp)
    exact h
  have HRE : Hid (RI (0, c, [f, 128, c]) = .tuple #[.int .i64 0, .int .i64 ((c).toNat : Int), .string (bs [f, 128, c])]) := rfl
  have hgb := u8_bd g
  have hLb := u8_bd (g % 4)
  unfold KArgs
  clear hf
  generalize bs [f, 128, c] = OUT at *
  have hLL : ((g % 4).toNat : Int) = ((g % 4).toNat : Int) := rfl
  generalize ((g % 4).toNat : Int) = L at *
  clear hLL
  rcases hn with hn1 | ⟨hn1, hn2⟩
  all_goals
    go_enter Try.func19, Try.ntmps19
    go_wp2_with (first | (go_at_call 24; refine (HBT.out _).mono ?_; rintro e wb ⟨rfl, rfl⟩) | (go_at_call 21; refine (HBY.out _).mono ?_; rintro e wz ⟨rfl, hz⟩))
    go_ret3
    exact ⟨by rw [HRE.out]; rfl, hz⟩

set_option maxHeartbeats 4000000 in
set_option maxRecDepth 4000 in
theorem said_asks (o y f g c : UInt8) (hf : isF f = true) (hn : ((((g % 4).toNat : Int) == (o.toNat : Int)) = false) ∨ ((((g % 4).toNat : Int) == (o.toNat : Int)) = true ∧ ((c.toNat : Int) == (y.toNat : Int)) = false)) (hg : ¬ (128 : Int) ≤ (g.toNat : Int)) (hL0 : (((g % 4).toNat : Int) == 0) = false) (hL3 : (((g % 4).toNat : Int) == 3) = true) (w : World) : Calls Try.prog 19 (KArgs o y f g c) w fun e w' => e = .returned (RI (o, y, [f, o, y])) ∧ Below w.heap.size w w' := by
  have HBT : Hid (∀ w, Calls Try.prog 24 #[.int .i64 (f.toNat : Int), .int .i64 1, .int .i64 18] w fun e w' => e = .returned (.bool true) ∧ w' = w) := fun w => by
    have h := Between_any (f.toNat : Int) 1 18 w
    rw [btw_isF, hf] at h
    exact h
  obtain ⟨hG3, hm⟩ := mod4I g
  have HBY : Hid (∀ w : World, Calls Try.prog 21 #[.slice (some ⟨w.heap.size, 0, none⟩) 3 3] (w.alloc (.cells #[.int .i64 ((f.toNat : Int)), .int .i64 ((o.toNat : Int)), .int .i64 ((y.toNat : Int))] 3)) fun e w' => e = .returned (.string (bs [f, o, y])) ∧ Below w.heap.size w w') := fun w => by
    have h := Bytes_ints [f, o, y] w (by simp)
    exact h
  have HRE : Hid (RI (o, y, [f, o, y]) = .tuple #[.int .i64 ((o).toNat : Int), .int .i64 ((y).toNat : Int), .string (bs [f, o, y])]) := rfl
  have hgb := u8_bd g
  have hLb := u8_bd (g % 4)
  unfold KArgs
  clear hf
  generalize bs [f, o, y] = OUT at *
  have hLL : ((g % 4).toNat : Int) = ((g % 4).toNat : Int) := rfl
  generalize ((g % 4).toNat : Int) = L at *
  clear hLL
  rcases hn with hn1 | ⟨hn1, hn2⟩
  all_goals
    go_enter Try.func19, Try.ntmps19
    go_wp2_with (first | (go_at_call 24; refine (HBT.out _).mono ?_; rintro e wb ⟨rfl, rfl⟩) | (go_at_call 21; refine (HBY.out _).mono ?_; rintro e wz ⟨rfl, hz⟩))
    go_ret3
    exact ⟨by rw [HRE.out]; rfl, hz⟩

set_option maxHeartbeats 4000000 in
set_option maxRecDepth 4000 in
theorem said_both (o y f g c : UInt8) (hf : isF f = true) (hn : ((((g % 4).toNat : Int) == (o.toNat : Int)) = false) ∨ ((((g % 4).toNat : Int) == (o.toNat : Int)) = true ∧ ((c.toNat : Int) == (y.toNat : Int)) = false)) (hg : ¬ (128 : Int) ≤ (g.toNat : Int)) (hL0 : (((g % 4).toNat : Int) == 0) = false) (hL3 : (((g % 4).toNat : Int) == 3) = false) (ho : ((o.toNat : Int) == 1) = true) (hL1 : (((g % 4).toNat : Int) == 1) = true) (w : World) : Calls Try.prog 19 (KArgs o y f g c) w fun e w' => e = .returned (RI (0, 0, [f, 0, 0])) ∧ Below w.heap.size w w' := by
  have HBT : Hid (∀ w, Calls Try.prog 24 #[.int .i64 (f.toNat : Int), .int .i64 1, .int .i64 18] w fun e w' => e = .returned (.bool true) ∧ w' = w) := fun w => by
    have h := Between_any (f.toNat : Int) 1 18 w
    rw [btw_isF, hf] at h
    exact h
  obtain ⟨hG3, hm⟩ := mod4I g
  have HBY : Hid (∀ w : World, Calls Try.prog 21 #[.slice (some ⟨w.heap.size, 0, none⟩) 3 3] (w.alloc (.cells #[.int .i64 ((f.toNat : Int)), .int .i64 (0), .int .i64 (0)] 3)) fun e w' => e = .returned (.string (bs [f, 0, 0])) ∧ Below w.heap.size w w') := fun w => by
    have h := Bytes_ints [f, 0, 0] w (by simp)
    exact h
  have HRE : Hid (RI (0, 0, [f, 0, 0]) = .tuple #[.int .i64 0, .int .i64 0, .string (bs [f, 0, 0])]) := rfl
  have hgb := u8_bd g
  have hLb := u8_bd (g % 4)
  unfold KArgs
  clear hf
  generalize bs [f, 0, 0] = OUT at *
  have hLL : ((g % 4).toNat : Int) = ((g % 4).toNat : Int) := rfl
  generalize ((g % 4).toNat : Int) = L at *
  clear hLL
  rcases hn with hn1 | ⟨hn1, hn2⟩
  all_goals
    go_enter Try.func19, Try.ntmps19
    go_wp2_with (first | (go_at_call 24; refine (HBT.out _).mono ?_; rintro e wb ⟨rfl, rfl⟩) | (go_at_call 21; refine (HBY.out _).mono ?_; rintro e wz ⟨rfl, hz⟩))
    go_ret3
    exact ⟨by rw [HRE.out]; rfl, hz⟩

set_option maxHeartbeats 4000000 in
set_option maxRecDepth 4000 in
theorem said_keep (o y f g c : UInt8) (hf : isF f = true) (hn : ((((g % 4).toNat : Int) == (o.toNat : Int)) = false) ∨ ((((g % 4).toNat : Int) == (o.toNat : Int)) = true ∧ ((c.toNat : Int) == (y.toNat : Int)) = false)) (hg : ¬ (128 : Int) ≤ (g.toNat : Int)) (hL0 : (((g % 4).toNat : Int) == 0) = false) (hL3 : (((g % 4).toNat : Int) == 3) = false) (ho : ((o.toNat : Int) == 1) = true) (hL1 : (((g % 4).toNat : Int) == 1) = false) (w : World) : Calls Try.prog 19 (KArgs o y f g c) w fun e w' => e = .returned (RI (o, y, [f, 1, y])) ∧ Below w.heap.size w w' := by
  have HBT : Hid (∀ w, Calls Try.prog 24 #[.int .i64 (f.toNat : Int), .int .i64 1, .int .i64 18] w fun e w' => e = .returned (.bool true) ∧ w' = w) := fun w => by
    have h := Between_any (f.toNat : Int) 1 18 w
    rw [btw_isF, hf] at h
    exact h
  obtain ⟨hG3, hm⟩ := mod4I g
  have HBY : Hid (∀ w : World, Calls Try.prog 21 #[.slice (some ⟨w.heap.size, 0, none⟩) 3 3] (w.alloc (.cells #[.int .i64 ((f.toNat : Int)), .int .i64 (1), .int .i64 ((y.toNat : Int))] 3)) fun e w' => e = .returned (.string (bs [f, 1, y])) ∧ Below w.heap.size w w') := fun w => by
    have h := Bytes_ints [f, 1, y] w (by simp)
    exact h
  have HRE : Hid (RI (o, y, [f, 1, y]) = .tuple #[.int .i64 ((o).toNat : Int), .int .i64 ((y).toNat : Int), .string (bs [f, 1, y])]) := rfl
  have hgb := u8_bd g
  have hLb := u8_bd (g % 4)
  unfold KArgs
  clear hf
  generalize bs [f, 1, y] = OUT at *
  have hLL : ((g % 4).toNat : Int) = ((g % 4).toNat : Int) := rfl
  generalize ((g % 4).toNat : Int) = L at *
  clear hLL
  rcases hn with hn1 | ⟨hn1, hn2⟩
  all_goals
    go_enter Try.func19, Try.ntmps19
    go_wp2_with (first | (go_at_call 24; refine (HBT.out _).mono ?_; rintro e wb ⟨rfl, rfl⟩) | (go_at_call 21; refine (HBY.out _).mono ?_; rintro e wz ⟨rfl, hz⟩))
    go_ret3
    exact ⟨by rw [HRE.out]; rfl, hz⟩

set_option maxHeartbeats 4000000 in
set_option maxRecDepth 4000 in
theorem said_takes (o y f g c : UInt8) (hf : isF f = true) (hn : ((((g % 4).toNat : Int) == (o.toNat : Int)) = false) ∨ ((((g % 4).toNat : Int) == (o.toNat : Int)) = true ∧ ((c.toNat : Int) == (y.toNat : Int)) = false)) (hg : ¬ (128 : Int) ≤ (g.toNat : Int)) (hL0 : (((g % 4).toNat : Int) == 0) = false) (hL3 : (((g % 4).toNat : Int) == 3) = false) (ho : ((o.toNat : Int) == 1) = false) (w : World) : Calls Try.prog 19 (KArgs o y f g c) w fun e w' => e = .returned (RI (g % 4, c, [f, 128 + g % 4, c])) ∧ Below w.heap.size w w' := by
  have HBT : Hid (∀ w, Calls Try.prog 24 #[.int .i64 (f.toNat : Int), .int .i64 1, .int .i64 18] w fun e w' => e = .returned (.bool true) ∧ w' = w) := fun w => by
    have h := Between_any (f.toNat : Int) 1 18 w
    rw [btw_isF, hf] at h
    exact h
  obtain ⟨hG3, hm⟩ := mod4I g
  have HBY : Hid (∀ w : World, Calls Try.prog 21 #[.slice (some ⟨w.heap.size, 0, none⟩) 3 3] (w.alloc (.cells #[.int .i64 ((f.toNat : Int)), .int .i64 (128 + ((g % 4).toNat : Int)), .int .i64 ((c.toNat : Int))] 3)) fun e w' => e = .returned (.string (bs [f, 128 + g % 4, c])) ∧ Below w.heap.size w w') := fun w => by
    have h := Bytes_ints [f, 128 + g % 4, c] w (by simp)
    simp only [icells, List.map_cons, List.map_nil, add128 _ hG3] at h
    exact h
  have HRE : Hid (RI (g % 4, c, [f, 128 + g % 4, c]) = .tuple #[.int .i64 ((g % 4).toNat : Int), .int .i64 ((c).toNat : Int), .string (bs [f, 128 + g % 4, c])]) := rfl
  have hgb := u8_bd g
  have hLb := u8_bd (g % 4)
  unfold KArgs
  clear hf
  generalize bs [f, 128 + g % 4, c] = OUT at *
  have hLL : ((g % 4).toNat : Int) = ((g % 4).toNat : Int) := rfl
  generalize ((g % 4).toNat : Int) = L at *
  clear hLL
  rcases hn with hn1 | ⟨hn1, hn2⟩
  all_goals
    go_enter Try.func19, Try.ntmps19
    go_wp2_with (first | (go_at_call 24; refine (HBT.out _).mono ?_; rintro e wb ⟨rfl, rfl⟩) | (go_at_call 21; refine (HBY.out _).mono ?_; rintro e wz ⟨rfl, hz⟩))
    go_ret3
    exact ⟨by rw [HRE.out]; rfl, hz⟩
end Go.Proofs.Ytfipmggdpigbkaa.K
