/-
  Contract of farkeep.special; condition: Keys of 38 bytes.
-/
import Derived.Test.YtomgnnbcaficaaaDoorLCutsWalk
namespace Go.Proofs.YtomgnnbcaficaaaDoor.L
open Go.RowKit Go.Lib Go.Proofs.YtomgnnbcaficaaaDoor Go.Proofs.YtomgnnbcaficaaaDoor.W Go.Proofs.YtomgnnbcaficaaaDoor.Q

/-- has a byte a meaning of its own? -/
def sp (k : List UInt8) (c : UInt8) : Bool := (List.range 5).any fun j => isK k (10 + j) c
theorem sp_true {k : List UInt8} {c : UInt8} {j : Nat} (hj : j < 5) (h : isK k (10 + j) c = true) : sp k c = true := by
  unfold sp
  rw [List.any_eq_true]
  exact ⟨j, List.mem_range.2 hj, h⟩
theorem sp_false {k : List UInt8} {c : UInt8} (h : ∀ j, j < 5 → isK k (10 + j) c = false) : sp k c = false := by
  unfold sp
  rw [List.any_eq_false]
  intro j hj
  rw [h j (List.mem_range.1 hj)]
  simp
theorem sp_plain {k : List UInt8} {M : List Nat} {c : UInt8} (h : sp k c = false) : plainB (KK k M) c := by
  have hh : ∀ j, j < 5 → isK k (10 + j) c = false := fun j hj => by
    cases e : isK k (10 + j) c with
    | false => rfl
    | true => rw [sp_true hj e] at h; cases h
  exact ⟨hh 4 (by omega), hh 0 (by omega), hh 2 (by omega), hh 1 (by omega), hh 3 (by omega)⟩

set_option maxHeartbeats 8000000 in
set_option maxRecDepth 100000 in
theorem special_any (k : List UInt8) (hk : k.length = 38) (c : UInt8) (w : World) : Calls Tryd.prog 15 #[.agg (bcells k).toArray, .int .u8 (c.toNat : Int)] w fun e w' => e = .returned (.bool (sp k c)) ∧ Below w.heap.size w w' := by
  have HT : Hid (∀ j, j < 5 → isK k (10 + j) c = true → sp k c = true) := fun j hj h => sp_true hj h
  have HN : Hid ((∀ j, j < 5 → isK k (10 + j) c = false) → sp k c = false) := fun h => sp_false h
  have HI : Hid (∀ f, isK k f c = decide (¬ ((K.lv k f).toNat : Int) = 0 ∧ ((K.ch k f).toNat : Int) = (c.toNat : Int))) := fun f => by
    unfold isK
    rw [decide_eq_decide, ← UInt8.toNat_inj (a := K.ch k f)]
    have := K.eq0_iff (K.lv k f)
    constructor
    · rintro ⟨h1, h2⟩
      exact ⟨fun e => h1 (this.2 e), by omega⟩
    · rintro ⟨h1, h2⟩
      exact ⟨fun e => h1 (this.1 e), by omega⟩
  have HL := Hid.mk' (K.bcells_lv k hk)
  have HC := Hid.mk' (K.bcells_ch k hk)
  generalize sp k c = R at *
  generalize hz : (c.toNat : Int) = z at *
  clear hz
  generalize hl : bcells k = l at *
  clear hl
  go_enter Tryd.func15, Tryd.ntmps15
  go_wp2_with (refine wpList_box l 26 rfl _ rfl rfl ?_)
  intro w1 m1
  have z1 := m1.lt
  have b1 := Hid.mk' (m1.box.alloc (.cells #[.int .i64 10, .int .i64 11, .int .i64 12, .int .i64 13, .int .i64 14] 3))
  have HB : Hid (Below w.heap.size w (w1.alloc (.cells #[.int .i64 10, .int .i64 11, .int .i64 12, .int .i64 13, .int .i64 14] 3))) := (m1.below _ _ (Nat.le_refl _) (Below.refl _ w)).alloc (by omega) _
  have HA : Hid (∀ j, j < 5 → (w1.alloc (.cells #[.int .i64 10, .int .i64 11, .int .i64 12, .int .i64 13, .int .i64 14] 3)).cell? ⟨w1.heap.size, j, none⟩ = some (.int .i64 ((10 + j : Nat) : Int))) := fun j hj => by
    have hb := Box.new w1 3 [.int .i64 10, .int .i64 11, .int .i64 12, .int .i64 13, .int .i64 14]
    have hj2 : j = 0 ∨ j = 1 ∨ j = 2 ∨ j = 3 ∨ j = 4 := by omega
    rcases hj2 with rfl | rfl | rfl | rfl | rfl <;> exact hb.cell rfl
  clear m1
  go_wp2_with fail
  generalize w1.alloc (.cells #[.int .i64 10, .int .i64 11, .int .i64 12, .int .i64 13, .int .i64 14] 3) = w2 at *
  go_loopg [9] 5 (fun g s9 wr => ∃ n : Nat, n ≤ 5 ∧ 5 - n ≤ g ∧ s9 = .int .i64 (n : Int) ∧ Hid (∀ j, j < n → isK k (10 + j) c = false) ∧ wr = w2)
  case atStart => exact ⟨0, Nat.zero_le _, Nat.le_refl _, rfl, fun j hj => absurd hj (Nat.not_lt_zero j), rfl⟩
  case round =>
    obtain ⟨n, hn, hg, rfl, HO, rfl⟩ := hrel
    have HG := Hid.mk' hg
    clear hg
    by_cases h5 : n < 5
    · have e0 := HA.out n h5
      have e1 := b1.out.cell (HL.out (10 + n) (by omega))
      have e2 := b1.out.cell (HC.out (10 + n) (by omega))
      have hi := HI.out (10 + n)
      have n1 : ((10 + n : Nat) : Int) < 19 := by omega
      have n0 : (0 : Int) ≤ ((10 + n : Nat) : Int) := by omega
      have HT1 := Hid.mk' (HT.out n h5)
      have HO1 : Hid (isK k (10 + n) c = false → ∀ j, j < n + 1 → isK k (10 + j) c = false) := fun h j hj => by
        by_cases e : j = n
        · subst e; exact h
        · exact HO.out j (by omega)
      generalize ((K.lv k (10 + n)).toNat : Int) = x at *
      generalize ((K.ch k (10 + n)).toNat : Int) = y at *
      generalize hm : 10 + n = m at *
      by_cases h0 : x = 0
      · subst h0
        rw [decide_eq_false (fun e => e.1 rfl)] at hi
        have HO2 := Hid.mk' (HO1.out hi)
        clear HO1 HT1 hi hm HN HT HI HL HC HA
        go_wp2
        go_roundg (5 - (n + 1))
        case measure => have := HG.out; omega
        case rel => exact ⟨n + 1, by omega, Nat.le_refl _, by go_num, HO2, rfl⟩
      · have hx0 : (x != 0) = true := bne_iff_ne.2 h0
        by_cases h1 : y = z
        · subst h1
          rw [decide_eq_true ⟨h0, rfl⟩] at hi
          have HQ := Hid.mk' (HT1.out hi)
          clear HO1 HT1 hi hm HN HT HI HL HC HA
          go_wp2
          go_ret
          exact ⟨by rw [HQ.out]; rfl, HB.out⟩
        · have hy0 : (y == z) = false := beq_false_of_ne h1
          rw [decide_eq_false (fun e => h1 e.2)] at hi
          have HO2 := Hid.mk' (HO1.out hi)
          clear HO1 HT1 hi hm HN HT HI HL HC HA
          go_wp2
          go_roundg (5 - (n + 1))
          case measure => have := HG.out; omega
          case rel => exact ⟨n + 1, by omega, Nat.le_refl _, by go_num, HO2, rfl⟩
    · obtain rfl : n = 5 := by omega
      have HQ := Hid.mk' (HN.out HO.out)
      clear HN HT HI HL HC HA HO
      go_wp2
      go_ret
      exact ⟨by rw [HQ.out]; rfl, HB.out⟩
end Go.Proofs.YtomgnnbcaficaaaDoor.L
