/-
  Contracts of page.isPage, page.size, page.sign, page.Rune and page.Byte; condition: the table page.lineSigns holds what its initialiser lays.
-/
import Derived.Test.YtmniifmgliklnaaDoorGPlain
import Derived.Test.YtmniifmgliklnaaDoorProg
import Derived.Laws.BytesString
import Derived.OwnWalk
namespace Go.Proofs.YtmniifmgliklnaaDoor.G
open Go.RowKit Go.Lib Go.Proofs.YtmniifmgliklnaaDoor

theorem Hid.mk' {p : Prop} (h : p) : Hid p := h

/-- the table of signs -/
def Tab (w : World) : Prop := ∀ j, j < 32 → w.cell? ⟨0, j, none⟩ = some (.int .i64 (lineL.getD j 0))
theorem Tab.size {w : World} (h : Tab w) : 0 < w.heap.size := World.block_lt_of_cell? _ _ (h 0 (by omega))
theorem Tab.below {w w' : World} (h : Tab w) (hb : Below w.heap.size w w') : Tab w' := fun j hj =>
  (hb.cell (p := ⟨0, j, none⟩) h.size).trans (h j hj)

set_option maxHeartbeats 1000000 in
theorem isPage_any (p : Int) (w : World) : Calls Tryd.prog 18 #[.int .i64 p] w fun e w' => e = .returned (.bool (isP p)) ∧ w' = w := by
  unfold isP
  by_cases h1 : 1 ≤ p
  · by_cases h2 : p ≤ 4
    · rw [decide_eq_true ⟨h1, h2⟩]
      go_enter Tryd.func18, Tryd.ntmps18
      go_wp2
      go_ret
      exact ⟨rfl, rfl⟩
    · rw [decide_eq_false (fun h => h2 h.2)]
      go_enter Tryd.func18, Tryd.ntmps18
      go_wp2
      go_ret
      exact ⟨rfl, rfl⟩
  · rw [decide_eq_false (fun h => h1 h.1)]
    go_enter Tryd.func18, Tryd.ntmps18
    go_wp2
    go_ret
    exact ⟨rfl, rfl⟩

set_option maxHeartbeats 1000000 in
theorem size_any (p : Int) (w : World) : Calls Tryd.prog 20 #[.int .i64 p] w fun e w' => e = .returned (.int .i64 (sz p : Int)) ∧ w' = w := by
  unfold sz
  by_cases h1 : p = 2
  · subst h1
    go_enter Tryd.func20, Tryd.ntmps20
    go_wp2
    go_ret
    exact ⟨rfl, rfl⟩
  · rw [if_neg h1]
    go_enter Tryd.func20, Tryd.ntmps20
    go_wp2
    go_ret
    exact ⟨rfl, rfl⟩

set_option maxHeartbeats 4000000 in
theorem sign_any (p : Int) (b : Nat) (w : World) (hb : b < 256) (hT : Tab w) : Calls Tryd.prog 19 #[.int .i64 p, .int .i64 (b : Int)] w fun e w' => e = .returned (.int .i64 (sg p b)) ∧ w' = w := by
  have HZ := Hid.mk' (size_any p)
  unfold sg
  have hsz := sz_le p
  by_cases h1 : sz p ≤ b
  · rw [if_pos h1]
    have h1' : (sz p : Int) ≤ (b : Int) := by omega
    clear hT
    go_enter Tryd.func19, Tryd.ntmps19
    go_wp2_with fail
    refine (HZ.out w).mono ?_
    rintro e w1 ⟨rfl, rfl⟩
    go_wp2
    go_ret
    exact ⟨rfl, rfl⟩
  rw [if_neg h1]
  have h1' : ¬ (sz p : Int) ≤ (b : Int) := by omega
  by_cases h2 : p = 4 ∧ b = 35
  · rw [if_pos h2]
    obtain ⟨rfl, rfl⟩ := h2
    clear hT
    go_enter Tryd.func19, Tryd.ntmps19
    go_wp2_with fail
    refine (HZ.out w).mono ?_
    rintro e w1 ⟨rfl, rfl⟩
    go_wp2
    go_ret
    exact ⟨rfl, rfl⟩
  rw [if_neg h2]
  by_cases h3 : p = 3 ∧ 95 ≤ b ∧ b < 127
  · rw [if_pos h3]
    obtain ⟨rfl, h4, h5⟩ := h3
    obtain ⟨j, rfl⟩ : ∃ j, b = j + 95 := ⟨b - 95, by omega⟩
    have hc := hT j (by omega)
    rw [show j + 95 - 95 = j by omega]
    generalize lineL.getD j 0 = x at *
    have k1 : (95 : Int) ≤ ((j + 95 : Nat) : Int) := by omega
    have k2 : ((j + 95 : Nat) : Int) < 127 := by omega
    have k3 : ((j + 95 : Nat) : Int) - 95 = (j : Int) := by omega
    generalize ((j + 95 : Nat) : Int) = y at *
    clear hT
    go_enter Tryd.func19, Tryd.ntmps19
    go_wp2_with fail
    refine (HZ.out w).mono ?_
    rintro e w1 ⟨rfl, rfl⟩
    go_wp2
    go_ret
    exact ⟨rfl, rfl⟩
  rw [if_neg h3]
  clear hT
  by_cases c4 : p = 4
  · subst c4
    have k : (b : Int) ≠ 35 := by omega
    generalize (b : Int) = y at *
    go_enter Tryd.func19, Tryd.ntmps19
    go_wp2_with fail
    refine (HZ.out w).mono ?_
    rintro e w1 ⟨rfl, rfl⟩
    go_wp2
    go_ret
    exact ⟨rfl, rfl⟩
  by_cases c3 : p = 3
  · subst c3
    by_cases c95 : 95 ≤ b
    · have k1 : (95 : Int) ≤ (b : Int) := by omega
      have k2 : ¬ (b : Int) < 127 := by omega
      generalize (b : Int) = y at *
      go_enter Tryd.func19, Tryd.ntmps19
      go_wp2_with fail
      refine (HZ.out w).mono ?_
      rintro e w1 ⟨rfl, rfl⟩
      go_wp2
      go_ret
      exact ⟨rfl, rfl⟩
    · have k1 : ¬ (95 : Int) ≤ (b : Int) := by omega
      generalize (b : Int) = y at *
      go_enter Tryd.func19, Tryd.ntmps19
      go_wp2_with fail
      refine (HZ.out w).mono ?_
      rintro e w1 ⟨rfl, rfl⟩
      go_wp2
      go_ret
      exact ⟨rfl, rfl⟩
  generalize (b : Int) = y at *
  go_enter Tryd.func19, Tryd.ntmps19
  go_wp2_with fail
  refine (HZ.out w).mono ?_
  rintro e w1 ⟨rfl, rfl⟩
  go_wp2
  go_ret
  exact ⟨rfl, rfl⟩

set_option maxHeartbeats 1000000 in
theorem Rune_any (p : Int) (b : UInt8) (w : World) (hT : Tab w) : Calls Tryd.prog 8 #[.int .i64 p, .int .u8 (b.toNat : Int)] w fun e w' => e = .returned (.tuple #[.int .i64 (if isP p = true then sg p b.toNat else 0), .int .i64 (if isP p = true then 0 else 6)]) ∧ w' = w := by
  have HP := Hid.mk' (isPage_any p w)
  have HS := Hid.mk' (sign_any p b.toNat w b.toNat_lt hT)
  have hb := b.toNat_lt
  cases h : isP p with
  | false =>
    rw [h] at HP
    rw [if_neg (by decide), if_neg (by decide)]
    go_enter Tryd.func8, Tryd.ntmps8
    go_wp2_with fail
    refine HP.out.mono ?_
    rintro e w1 ⟨rfl, rfl⟩
    go_wp2
    go_ret2
    exact ⟨rfl, rfl⟩
  | true =>
    rw [h] at HP
    rw [if_pos rfl, if_pos rfl]
    generalize sg p b.toNat = x at *
    go_enter Tryd.func8, Tryd.ntmps8
    go_wp2_with fail
    refine HP.out.mono ?_
    rintro e w1 ⟨rfl, rfl⟩
    go_wp2_with fail
    refine HS.out.mono ?_
    rintro e w1 ⟨rfl, rfl⟩
    go_wp2
    go_ret2
    exact ⟨rfl, rfl⟩
end Go.Proofs.YtmniifmgliklnaaDoor.G
