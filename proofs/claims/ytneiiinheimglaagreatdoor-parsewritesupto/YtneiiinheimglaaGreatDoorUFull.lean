/-
  Contract of unicode/utf8.FullRuneInString, utf.isBeginning and utf.Check: whether a string is a beginning; conditions: the two tables of unicode/utf8 hold what their initialisers lay; at most 2^40 bytes.
-/
import Derived.Test.YtneiiinheimglaaGreatDoorProg
import Derived.Test.YtneiiinheimglaaGreatDoorJ18
import Derived.Test.YtneiiinheimglaaGreatDoorJ2
import Derived.Lib.Walk
import Derived.Lib.Strings
import Derived.Laws.Strings3
import Derived.Laws.BitsLemmas
import Derived.BigQuiet
import Derived.WalkSmall
namespace Go.Proofs.YtneiiinheimglaaGreatDoor.U
open Go.RowKit Go.Lib Go.Proofs.YtneiiinheimglaaGreatDoor

theorem Hid.mk' {p : Prop} (h : p) : Hid p := h

/-- the two tables, cell by cell -/
def Tabs (w : World) : Prop :=
  (∀ c, c < 256 → w.cell? ⟨0, c, none⟩ = some (.int .u8 (firstT c))) ∧
  (∀ i, i < 16 → w.cell? ⟨1, 2 * i, none⟩ = some (.int .u8 (accLo i)) ∧ w.cell? ⟨1, 2 * i + 1, none⟩ = some (.int .u8 (accHi i)))

theorem Tabs.size {w : World} (h : Tabs w) : 0 < w.heap.size ∧ 1 < w.heap.size :=
  ⟨World.block_lt_of_cell? _ _ (h.1 0 (by decide)), World.block_lt_of_cell? _ _ (h.2 0 (by decide)).1⟩
theorem Tabs.below {w w' : World} (h : Tabs w) (hb : Below w.heap.size w w') : Tabs w' := by
  have hs := h.size
  exact ⟨fun c hc => (hb.cell (p := ⟨0, c, none⟩) hs.1).trans (h.1 c hc), fun i hi => ⟨(hb.cell (p := ⟨1, 2 * i, none⟩) hs.2).trans (h.2 i hi).1, (hb.cell (p := ⟨1, 2 * i + 1, none⟩) hs.2).trans (h.2 i hi).2⟩⟩

/-- its answer, by the first three bytes -/
def fullN (n b0 b1 b2 : Nat) : Bool :=
  if sz b0 ≤ n then true else if 1 < n ∧ (b1 < lo b0 ∨ hi b0 < b1) then true else if 2 < n ∧ (b2 < 128 ∨ 191 < b2) then true else false

theorem first_key : ∀ k : Fin 256, firstT k.val % 8 = (if k.val < 128 then 0 else sz k.val) ∧ (firstT k.val < 240 → accLo (firstT k.val / 16) = lo k.val ∧ accHi (firstT k.val / 16) = hi k.val) ∧ (firstT k.val < 240 ↔ 2 ≤ sz k.val) := by decide +kernel

theorem firstT_cases (b : Nat) : firstT b = 240 ∨ firstT b = 241 ∨ firstT b = 2 ∨ firstT b = 19 ∨ firstT b = 3 ∨ firstT b = 35 ∨ firstT b = 52 ∨ firstT b = 4 ∨ firstT b = 68 := by
  unfold firstT
  repeat' split
  all_goals simp

set_option maxHeartbeats 4000000 in
set_option maxRecDepth 100000 in
theorem Full_240 (S : ByteArray) (w : World) (x0 x1 x2 : UInt8) (hn : 0 < S.size) (e0 : S[0] = x0) (_e1 : ∀ h : 1 < S.size, S[1] = x1) (_e2 : ∀ h : 2 < S.size, S[2] = x2) (hT : Tabs w) (hX : firstT x0.toNat = 240) :
    Calls Tryz.prog 38 #[.string S] w fun e w' => e = .returned (.bool (fullN S.size x0.toNat x1.toNat x2.toNat)) ∧ Below w.heap.size w w' := by
  have _u1 := _e1
  have _u2 := _e2
  clear _u1 _u2
  have hc0 := hT.1 x0.toNat x0.toNat_lt
  have l0 := x0.toNat_lt
  have hz' : ((S.size : Int) == 0) = false := by rw [beq_eq_false_iff_ne]; omega
  have hp : (0 : Int) < (S.size : Int) := by omega
  have hk := first_key ⟨x0.toNat, x0.toNat_lt⟩
  simp only at hk
  rw [hX] at hc0 hk
  have hsz : sz x0.toNat ≤ 1 := by have := hk.2.2; rcases sz_cases x0.toNat with h | h | h | h <;> omega
  have hf : fullN S.size x0.toNat x1.toNat x2.toNat = true := by unfold fullN; rw [if_pos (by omega)]
  rw [hf]
  clear hk hX hT hf hsz _e1 _e2
  have hge : (0 : Int) ≤ (S.size : Int) := by omega
  go_enter Tryz.func38, Tryz.ntmps38
  go_wp2
  go_ret
  exact ⟨rfl, Below.refl _ _⟩

set_option maxHeartbeats 4000000 in
set_option maxRecDepth 100000 in
theorem Full_241 (S : ByteArray) (w : World) (x0 x1 x2 : UInt8) (hn : 0 < S.size) (e0 : S[0] = x0) (_e1 : ∀ h : 1 < S.size, S[1] = x1) (_e2 : ∀ h : 2 < S.size, S[2] = x2) (hT : Tabs w) (hX : firstT x0.toNat = 241) :
    Calls Tryz.prog 38 #[.string S] w fun e w' => e = .returned (.bool (fullN S.size x0.toNat x1.toNat x2.toNat)) ∧ Below w.heap.size w w' := by
  have _u1 := _e1
  have _u2 := _e2
  clear _u1 _u2
  have hc0 := hT.1 x0.toNat x0.toNat_lt
  have l0 := x0.toNat_lt
  have hz' : ((S.size : Int) == 0) = false := by rw [beq_eq_false_iff_ne]; omega
  have hp : (0 : Int) < (S.size : Int) := by omega
  have hk := first_key ⟨x0.toNat, x0.toNat_lt⟩
  simp only at hk
  rw [hX] at hc0 hk
  have hsz : sz x0.toNat ≤ 1 := by have := hk.2.2; rcases sz_cases x0.toNat with h | h | h | h <;> omega
  have hf : fullN S.size x0.toNat x1.toNat x2.toNat = true := by unfold fullN; rw [if_pos (by omega)]
  rw [hf]
  clear hk hX hT hf hsz _e1 _e2
  have hge : (1 : Int) ≤ (S.size : Int) := by omega
  go_enter Tryz.func38, Tryz.ntmps38
  go_wp2
  go_ret
  exact ⟨rfl, Below.refl _ _⟩

set_option maxHeartbeats 4000000 in
set_option maxRecDepth 100000 in
theorem Full_2 (S : ByteArray) (w : World) (x0 x1 x2 : UInt8) (hn : 0 < S.size) (e0 : S[0] = x0) (e1 : ∀ h : 1 < S.size, S[1] = x1) (e2 : ∀ h : 2 < S.size, S[2] = x2) (hT : Tabs w) (hX : firstT x0.toNat = 2) :
    Calls Tryz.prog 38 #[.string S] w fun e w' => e = .returned (.bool (fullN S.size x0.toNat x1.toNat x2.toNat)) ∧ Below w.heap.size w w' := by
  have _u1 := e1
  have _u2 := e2
  clear _u1 _u2
  have hc0 := hT.1 x0.toNat x0.toNat_lt
  have l0 := x0.toNat_lt
  have hz' : ((S.size : Int) == 0) = false := by rw [beq_eq_false_iff_ne]; omega
  have hp : (0 : Int) < (S.size : Int) := by omega
  have hk := first_key ⟨x0.toNat, x0.toNat_lt⟩
  simp only at hk
  rw [hX] at hc0 hk
  have hsz : sz x0.toNat = 2 := by
    have h1 := hk.1
    have h2 := hk.2.2
    split at h1
    · rename_i h; have := sz_low h; omega
    · omega
  have hlo : lo x0.toNat = 128 := (hk.2.1 (by decide)).1.symm
  have hhi : hi x0.toNat = 191 := (hk.2.1 (by decide)).2.symm
  have ha0 := (hT.2 0 (by decide)).1
  have ha1 := (hT.2 0 (by decide)).2
  simp only [accLo, accHi, Nat.reduceMul, Nat.reduceAdd, Nat.reduceEqDiff, if_true, if_false] at ha0 ha1
  unfold fullN
  rw [hsz, hlo, hhi]
  clear hk hX hT hsz hlo hhi
  by_cases hge : 2 ≤ S.size
  · rw [if_pos hge]
    clear ha0 ha1 e1 e2
    have hge' : (2 : Int) ≤ (S.size : Int) := by omega
    go_enter Tryz.func38, Tryz.ntmps38
    go_wp2
    go_ret
    exact ⟨rfl, Below.refl _ _⟩
  rw [if_neg hge]
  have hge' : ¬ (2 : Int) ≤ (S.size : Int) := by omega
  have u138 := run_underlying (P := Tryz.prog) Tryz.underlying73
  by_cases h1 : 1 < S.size
  · omega
  have h1' : ¬ (1 : Int) < (S.size : Int) := by omega
  have h2' : ¬ (2 : Int) < (S.size : Int) := by omega
  rw [if_neg (by omega), if_neg (by omega)]
  have d0 : decide ((1 : Int) < (S.size : Int)) = false := by simp; omega
  clear e1 e2 hge
  go_enter Tryz.func38, Tryz.ntmps38
  go_wp2_with fail
  go_quiet (fail)
  go_wp2
  go_ret
  exact ⟨rfl, below_drewN ((Below.refl _ _).alloc (Nat.le_refl _) _) _⟩

set_option maxHeartbeats 4000000 in
set_option maxRecDepth 100000 in
theorem Full_19 (S : ByteArray) (w : World) (x0 x1 x2 : UInt8) (hn : 0 < S.size) (e0 : S[0] = x0) (e1 : ∀ h : 1 < S.size, S[1] = x1) (e2 : ∀ h : 2 < S.size, S[2] = x2) (hT : Tabs w) (hX : firstT x0.toNat = 19) :
    Calls Tryz.prog 38 #[.string S] w fun e w' => e = .returned (.bool (fullN S.size x0.toNat x1.toNat x2.toNat)) ∧ Below w.heap.size w w' := by
  have _u1 := e1
  have _u2 := e2
  clear _u1 _u2
  have hc0 := hT.1 x0.toNat x0.toNat_lt
  have l0 := x0.toNat_lt
  have hz' : ((S.size : Int) == 0) = false := by rw [beq_eq_false_iff_ne]; omega
  have hp : (0 : Int) < (S.size : Int) := by omega
  have hk := first_key ⟨x0.toNat, x0.toNat_lt⟩
  simp only at hk
  rw [hX] at hc0 hk
  have hsz : sz x0.toNat = 3 := by
    have h1 := hk.1
    have h2 := hk.2.2
    split at h1
    · rename_i h; have := sz_low h; omega
    · omega
  have hlo : lo x0.toNat = 160 := (hk.2.1 (by decide)).1.symm
  have hhi : hi x0.toNat = 191 := (hk.2.1 (by decide)).2.symm
  have ha0 := (hT.2 1 (by decide)).1
  have ha1 := (hT.2 1 (by decide)).2
  simp only [accLo, accHi, Nat.reduceMul, Nat.reduceAdd, Nat.reduceEqDiff, if_true, if_false] at ha0 ha1
  unfold fullN
  rw [hsz, hlo, hhi]
  clear hk hX hT hsz hlo hhi
  by_cases hge : 3 ≤ S.size
  · rw [if_pos hge]
    clear ha0 ha1 e1 e2
    have hge' : (3 : Int) ≤ (S.size : Int) := by omega
    go_enter Tryz.func38, Tryz.ntmps38
    go_wp2
    go_ret
    exact ⟨rfl, Below.refl _ _⟩
  rw [if_neg hge]
  have hge' : ¬ (3 : Int) ≤ (S.size : Int) := by omega
  have u138 := run_underlying (P := Tryz.prog) Tryz.underlying73
  by_cases h1 : 1 < S.size
  · have f1 := e1 h1
    have h1' : (1 : Int) < (S.size : Int) := by omega
    by_cases p1 : x1.toNat < 160
    · have p1' : (x1.toNat : Int) < 160 := by omega
      rw [if_pos ⟨h1, .inl p1⟩]
      have d0 : decide ((1 : Int) < (S.size : Int)) = true := by simp; omega
      have d1 : decide ((x1.toNat : Int) < 160) = true := by simp; omega
      clear e1 e2 hge
      go_enter Tryz.func38, Tryz.ntmps38
      go_wp2_with fail
      go_quiet (fail)
      go_wp2
      go_ret
      exact ⟨rfl, below_drewN ((Below.refl _ _).alloc (Nat.le_refl _) _) _⟩
    by_cases p2 : 191 < x1.toNat
    · have p1' : ¬ (x1.toNat : Int) < 160 := by omega
      have p2' : (191 : Int) < (x1.toNat : Int) := by omega
      rw [if_pos ⟨h1, .inr p2⟩]
      have d0 : decide ((1 : Int) < (S.size : Int)) = true := by simp; omega
      have d1 : decide ((x1.toNat : Int) < 160) = false := by simp; omega
      have d2 : decide ((191 : Int) < (x1.toNat : Int)) = true := by simp; omega
      clear e1 e2 hge
      go_enter Tryz.func38, Tryz.ntmps38
      go_wp2_with fail
      go_quiet (fail)
      go_wp2
      go_ret
      exact ⟨rfl, below_drewN ((Below.refl _ _).alloc (Nat.le_refl _) _) _⟩
    have p1' : ¬ (x1.toNat : Int) < 160 := by omega
    have p2' : ¬ (191 : Int) < (x1.toNat : Int) := by omega
    by_cases h2 : 2 < S.size
    · omega
    have h2' : ¬ (2 : Int) < (S.size : Int) := by omega
    rw [if_neg (by omega), if_neg (by omega)]
    have d0 : decide ((1 : Int) < (S.size : Int)) = true := by simp; omega
    have d1 : decide ((x1.toNat : Int) < 160) = false := by simp; omega
    have d2 : decide ((191 : Int) < (x1.toNat : Int)) = false := by simp; omega
    clear e1 e2 hge
    go_enter Tryz.func38, Tryz.ntmps38
    go_wp2_with fail
    go_quiet (fail)
    go_wp2
    go_ret
    exact ⟨rfl, below_drewN ((Below.refl _ _).alloc (Nat.le_refl _) _) _⟩
  have h1' : ¬ (1 : Int) < (S.size : Int) := by omega
  have h2' : ¬ (2 : Int) < (S.size : Int) := by omega
  rw [if_neg (by omega), if_neg (by omega)]
  have d0 : decide ((1 : Int) < (S.size : Int)) = false := by simp; omega
  clear e1 e2 hge
  go_enter Tryz.func38, Tryz.ntmps38
  go_wp2_with fail
  go_quiet (fail)
  go_wp2
  go_ret
  exact ⟨rfl, below_drewN ((Below.refl _ _).alloc (Nat.le_refl _) _) _⟩

set_option maxHeartbeats 4000000 in
set_option maxRecDepth 100000 in
theorem Full_3 (S : ByteArray) (w : World) (x0 x1 x2 : UInt8) (hn : 0 < S.size) (e0 : S[0] = x0) (e1 : ∀ h : 1 < S.size, S[1] = x1) (e2 : ∀ h : 2 < S.size, S[2] = x2) (hT : Tabs w) (hX : firstT x0.toNat = 3) :
    Calls Tryz.prog 38 #[.string S] w fun e w' => e = .returned (.bool (fullN S.size x0.toNat x1.toNat x2.toNat)) ∧ Below w.heap.size w w' := by
  have _u1 := e1
  have _u2 := e2
  clear _u1 _u2
  have hc0 := hT.1 x0.toNat x0.toNat_lt
  have l0 := x0.toNat_lt
  have hz' : ((S.size : Int) == 0) = false := by rw [beq_eq_false_iff_ne]; omega
  have hp : (0 : Int) < (S.size : Int) := by omega
  have hk := first_key ⟨x0.toNat, x0.toNat_lt⟩
  simp only at hk
  rw [hX] at hc0 hk
  have hsz : sz x0.toNat = 3 := by
    have h1 := hk.1
    have h2 := hk.2.2
    split at h1
    · rename_i h; have := sz_low h; omega
    · omega
  have hlo : lo x0.toNat = 128 := (hk.2.1 (by decide)).1.symm
  have hhi : hi x0.toNat = 191 := (hk.2.1 (by decide)).2.symm
  have ha0 := (hT.2 0 (by decide)).1
  have ha1 := (hT.2 0 (by decide)).2
  simp only [accLo, accHi, Nat.reduceMul, Nat.reduceAdd, Nat.reduceEqDiff, if_true, if_false] at ha0 ha1
  unfold fullN
  rw [hsz, hlo, hhi]
  clear hk hX hT hsz hlo hhi
  by_cases hge : 3 ≤ S.size
  · rw [if_pos hge]
    clear ha0 ha1 e1 e2
    have hge' : (3 : Int) ≤ (S.size : Int) := by omega
    go_enter Tryz.func38, Tryz.ntmps38
    go_wp2
    go_ret
    exact ⟨rfl, Below.refl _ _⟩
  rw [if_neg hge]
  have hge' : ¬ (3 : Int) ≤ (S.size : Int) := by omega
  have u138 := run_underlying (P := Tryz.prog) Tryz.underlying73
  by_cases h1 : 1 < S.size
  · have f1 := e1 h1
    have h1' : (1 : Int) < (S.size : Int) := by omega
    by_cases p1 : x1.toNat < 128
    · have p1' : (x1.toNat : Int) < 128 := by omega
      rw [if_pos ⟨h1, .inl p1⟩]
      have d0 : decide ((1 : Int) < (S.size : Int)) = true := by simp; omega
      have d1 : decide ((x1.toNat : Int) < 128) = true := by simp; omega
      clear e1 e2 hge
      go_enter Tryz.func38, Tryz.ntmps38
      go_wp2_with fail
      go_quiet (fail)
      go_wp2
      go_ret
      exact ⟨rfl, below_drewN ((Below.refl _ _).alloc (Nat.le_refl _) _) _⟩
    by_cases p2 : 191 < x1.toNat
    · have p1' : ¬ (x1.toNat : Int) < 128 := by omega
      have p2' : (191 : Int) < (x1.toNat : Int) := by omega
      rw [if_pos ⟨h1, .inr p2⟩]
      have d0 : decide ((1 : Int) < (S.size : Int)) = true := by simp; omega
      have d1 : decide ((x1.toNat : Int) < 128) = false := by simp; omega
      have d2 : decide ((191 : Int) < (x1.toNat : Int)) = true := by simp; omega
      clear e1 e2 hge
      go_enter Tryz.func38, Tryz.ntmps38
      go_wp2_with fail
      go_quiet (fail)
      go_wp2
      go_ret
      exact ⟨rfl, below_drewN ((Below.refl _ _).alloc (Nat.le_refl _) _) _⟩
    have p1' : ¬ (x1.toNat : Int) < 128 := by omega
    have p2' : ¬ (191 : Int) < (x1.toNat : Int) := by omega
    by_cases h2 : 2 < S.size
    · omega
    have h2' : ¬ (2 : Int) < (S.size : Int) := by omega
    rw [if_neg (by omega), if_neg (by omega)]
    have d0 : decide ((1 : Int) < (S.size : Int)) = true := by simp; omega
    have d1 : decide ((x1.toNat : Int) < 128) = false := by simp; omega
    have d2 : decide ((191 : Int) < (x1.toNat : Int)) = false := by simp; omega
    clear e1 e2 hge
    go_enter Tryz.func38, Tryz.ntmps38
    go_wp2_with fail
    go_quiet (fail)
    go_wp2
    go_ret
    exact ⟨rfl, below_drewN ((Below.refl _ _).alloc (Nat.le_refl _) _) _⟩
  have h1' : ¬ (1 : Int) < (S.size : Int) := by omega
  have h2' : ¬ (2 : Int) < (S.size : Int) := by omega
  rw [if_neg (by omega), if_neg (by omega)]
  have d0 : decide ((1 : Int) < (S.size : Int)) = false := by simp; omega
  clear e1 e2 hge
  go_enter Tryz.func38, Tryz.ntmps38
  go_wp2_with fail
  go_quiet (fail)
  go_wp2
  go_ret
  exact ⟨rfl, below_drewN ((Below.refl _ _).alloc (Nat.le_refl _) _) _⟩

set_option maxHeartbeats 4000000 in
set_option maxRecDepth 100000 in
theorem Full_35 (S : ByteArray) (w : World) (x0 x1 x2 : UInt8) (hn : 0 < S.size) (e0 : S[0] = x0) (e1 : ∀ h : 1 < S.size, S[1] = x1) (e2 : ∀ h : 2 < S.size, S[2] = x2) (hT : Tabs w) (hX : firstT x0.toNat = 35) :
    Calls Tryz.prog 38 #[.string S] w fun e w' => e = .returned (.bool (fullN S.size x0.toNat x1.toNat x2.toNat)) ∧ Below w.heap.size w w' := by
  have _u1 := e1
  have _u2 := e2
  clear _u1 _u2
  have hc0 := hT.1 x0.toNat x0.toNat_lt
  have l0 := x0.toNat_lt
  have hz' : ((S.size : Int) == 0) = false := by rw [beq_eq_false_iff_ne]; omega
  have hp : (0 : Int) < (S.size : Int) := by omega
  have hk := first_key ⟨x0.toNat, x0.toNat_lt⟩
  simp only at hk
  rw [hX] at hc0 hk
  have hsz : sz x0.toNat = 3 := by
    have h1 := hk.1
    have h2 := hk.2.2
    split at h1
    · rename_i h; have := sz_low h; omega
    · omega
  have hlo : lo x0.toNat = 128 := (hk.2.1 (by decide)).1.symm
  have hhi : hi x0.toNat = 159 := (hk.2.1 (by decide)).2.symm
  have ha0 := (hT.2 2 (by decide)).1
  have ha1 := (hT.2 2 (by decide)).2
  simp only [accLo, accHi, Nat.reduceMul, Nat.reduceAdd, Nat.reduceEqDiff, if_true, if_false] at ha0 ha1
  unfold fullN
  rw [hsz, hlo, hhi]
  clear hk hX hT hsz hlo hhi
  by_cases hge : 3 ≤ S.size
  · rw [if_pos hge]
    clear ha0 ha1 e1 e2
    have hge' : (3 : Int) ≤ (S.size : Int) := by omega
    go_enter Tryz.func38, Tryz.ntmps38
    go_wp2
    go_ret
    exact ⟨rfl, Below.refl _ _⟩
  rw [if_neg hge]
  have hge' : ¬ (3 : Int) ≤ (S.size : Int) := by omega
  have u138 := run_underlying (P := Tryz.prog) Tryz.underlying73
  by_cases h1 : 1 < S.size
  · have f1 := e1 h1
    have h1' : (1 : Int) < (S.size : Int) := by omega
    by_cases p1 : x1.toNat < 128
    · have p1' : (x1.toNat : Int) < 128 := by omega
      rw [if_pos ⟨h1, .inl p1⟩]
      have d0 : decide ((1 : Int) < (S.size : Int)) = true := by simp; omega
      have d1 : decide ((x1.toNat : Int) < 128) = true := by simp; omega
      clear e1 e2 hge
      go_enter Tryz.func38, Tryz.ntmps38
      go_wp2_with fail
      go_quiet (fail)
      go_wp2
      go_ret
      exact ⟨rfl, below_drewN ((Below.refl _ _).alloc (Nat.le_refl _) _) _⟩
    by_cases p2 : 159 < x1.toNat
    · have p1' : ¬ (x1.toNat : Int) < 128 := by omega
      have p2' : (159 : Int) < (x1.toNat : Int) := by omega
      rw [if_pos ⟨h1, .inr p2⟩]
      have d0 : decide ((1 : Int) < (S.size : Int)) = true := by simp; omega
      have d1 : decide ((x1.toNat : Int) < 128) = false := by simp; omega
      have d2 : decide ((159 : Int) < (x1.toNat : Int)) = true := by simp; omega
      clear e1 e2 hge
      go_enter Tryz.func38, Tryz.ntmps38
      go_wp2_with fail
      go_quiet (fail)
      go_wp2
      go_ret
      exact ⟨rfl, below_drewN ((Below.refl _ _).alloc (Nat.le_refl _) _) _⟩
    have p1' : ¬ (x1.toNat : Int) < 128 := by omega
    have p2' : ¬ (159 : Int) < (x1.toNat : Int) := by omega
    by_cases h2 : 2 < S.size
    · omega
    have h2' : ¬ (2 : Int) < (S.size : Int) := by omega
    rw [if_neg (by omega), if_neg (by omega)]
    have d0 : decide ((1 : Int) < (S.size : Int)) = true := by simp; omega
    have d1 : decide ((x1.toNat : Int) < 128) = false := by simp; omega
    have d2 : decide ((159 : Int) < (x1.toNat : Int)) = false := by simp; omega
    clear e1 e2 hge
    go_enter Tryz.func38, Tryz.ntmps38
    go_wp2_with fail
    go_quiet (fail)
    go_wp2
    go_ret
    exact ⟨rfl, below_drewN ((Below.refl _ _).alloc (Nat.le_refl _) _) _⟩
  have h1' : ¬ (1 : Int) < (S.size : Int) := by omega
  have h2' : ¬ (2 : Int) < (S.size : Int) := by omega
  rw [if_neg (by omega), if_neg (by omega)]
  have d0 : decide ((1 : Int) < (S.size : Int)) = false := by simp; omega
  clear e1 e2 hge
  go_enter Tryz.func38, Tryz.ntmps38
  go_wp2_with fail
  go_quiet (fail)
  go_wp2
  go_ret
  exact ⟨rfl, below_drewN ((Below.refl _ _).alloc (Nat.le_refl _) _) _⟩

set_option maxHeartbeats 4000000 in
set_option maxRecDepth 100000 in
theorem Full_52 (S : ByteArray) (w : World) (x0 x1 x2 : UInt8) (hn : 0 < S.size) (e0 : S[0] = x0) (e1 : ∀ h : 1 < S.size, S[1] = x1) (e2 : ∀ h : 2 < S.size, S[2] = x2) (hT : Tabs w) (hX : firstT x0.toNat = 52) :
    Calls Tryz.prog 38 #[.string S] w fun e w' => e = .returned (.bool (fullN S.size x0.toNat x1.toNat x2.toNat)) ∧ Below w.heap.size w w' := by
  have _u1 := e1
  have _u2 := e2
  clear _u1 _u2
  have hc0 := hT.1 x0.toNat x0.toNat_lt
  have l0 := x0.toNat_lt
  have hz' : ((S.size : Int) == 0) = false := by rw [beq_eq_false_iff_ne]; omega
  have hp : (0 : Int) < (S.size : Int) := by omega
  have hk := first_key ⟨x0.toNat, x0.toNat_lt⟩
  simp only at hk
  rw [hX] at hc0 hk
  have hsz : sz x0.toNat = 4 := by
    have h1 := hk.1
    have h2 := hk.2.2
    split at h1
    · rename_i h; have := sz_low h; omega
    · omega
  have hlo : lo x0.toNat = 144 := (hk.2.1 (by decide)).1.symm
  have hhi : hi x0.toNat = 191 := (hk.2.1 (by decide)).2.symm
  have ha0 := (hT.2 3 (by decide)).1
  have ha1 := (hT.2 3 (by decide)).2
  simp only [accLo, accHi, Nat.reduceMul, Nat.reduceAdd, Nat.reduceEqDiff, if_true, if_false] at ha0 ha1
  unfold fullN
  rw [hsz, hlo, hhi]
  clear hk hX hT hsz hlo hhi
  by_cases hge : 4 ≤ S.size
  · rw [if_pos hge]
    clear ha0 ha1 e1 e2
    have hge' : (4 : Int) ≤ (S.size : Int) := by omega
    go_enter Tryz.func38, Tryz.ntmps38
    go_wp2
    go_ret
    exact ⟨rfl, Below.refl _ _⟩
  rw [if_neg hge]
  have hge' : ¬ (4 : Int) ≤ (S.size : Int) := by omega
  have u138 := run_underlying (P := Tryz.prog) Tryz.underlying73
  by_cases h1 : 1 < S.size
  · have f1 := e1 h1
    have h1' : (1 : Int) < (S.size : Int) := by omega
    by_cases p1 : x1.toNat < 144
    · have p1' : (x1.toNat : Int) < 144 := by omega
      rw [if_pos ⟨h1, .inl p1⟩]
      have d0 : decide ((1 : Int) < (S.size : Int)) = true := by simp; omega
      have d1 : decide ((x1.toNat : Int) < 144) = true := by simp; omega
      clear e1 e2 hge
      go_enter Tryz.func38, Tryz.ntmps38
      go_wp2_with fail
      go_quiet (fail)
      go_wp2
      go_ret
      exact ⟨rfl, below_drewN ((Below.refl _ _).alloc (Nat.le_refl _) _) _⟩
    by_cases p2 : 191 < x1.toNat
    · have p1' : ¬ (x1.toNat : Int) < 144 := by omega
      have p2' : (191 : Int) < (x1.toNat : Int) := by omega
      rw [if_pos ⟨h1, .inr p2⟩]
      have d0 : decide ((1 : Int) < (S.size : Int)) = true := by simp; omega
      have d1 : decide ((x1.toNat : Int) < 144) = false := by simp; omega
      have d2 : decide ((191 : Int) < (x1.toNat : Int)) = true := by simp; omega
      clear e1 e2 hge
      go_enter Tryz.func38, Tryz.ntmps38
      go_wp2_with fail
      go_quiet (fail)
      go_wp2
      go_ret
      exact ⟨rfl, below_drewN ((Below.refl _ _).alloc (Nat.le_refl _) _) _⟩
    have p1' : ¬ (x1.toNat : Int) < 144 := by omega
    have p2' : ¬ (191 : Int) < (x1.toNat : Int) := by omega
    by_cases h2 : 2 < S.size
    · have f2 := e2 h2
      have h2' : (2 : Int) < (S.size : Int) := by omega
      by_cases q1 : x2.toNat < 128
      · have q1' : (x2.toNat : Int) < 128 := by omega
        rw [if_neg (by omega), if_pos ⟨h2, .inl q1⟩]
        have d0 : decide ((1 : Int) < (S.size : Int)) = true := by simp; omega
        have d1 : decide ((x1.toNat : Int) < 144) = false := by simp; omega
        have d2 : decide ((191 : Int) < (x1.toNat : Int)) = false := by simp; omega
        clear e1 e2 hge
        go_enter Tryz.func38, Tryz.ntmps38
        go_wp2_with fail
        go_quiet (fail)
        go_wp2
        go_ret
        exact ⟨rfl, below_drewN ((Below.refl _ _).alloc (Nat.le_refl _) _) _⟩
      by_cases q2 : 191 < x2.toNat
      · have q1' : ¬ (x2.toNat : Int) < 128 := by omega
        have q2' : (191 : Int) < (x2.toNat : Int) := by omega
        rw [if_neg (by omega), if_pos ⟨h2, .inr q2⟩]
        have d0 : decide ((1 : Int) < (S.size : Int)) = true := by simp; omega
        have d1 : decide ((x1.toNat : Int) < 144) = false := by simp; omega
        have d2 : decide ((191 : Int) < (x1.toNat : Int)) = false := by simp; omega
        clear e1 e2 hge
        go_enter Tryz.func38, Tryz.ntmps38
        go_wp2_with fail
        go_quiet (fail)
        go_wp2
        go_ret
        exact ⟨rfl, below_drewN ((Below.refl _ _).alloc (Nat.le_refl _) _) _⟩
      have q1' : ¬ (x2.toNat : Int) < 128 := by omega
      have q2' : ¬ (191 : Int) < (x2.toNat : Int) := by omega
      rw [if_neg (by omega), if_neg (by omega)]
      have d0 : decide ((1 : Int) < (S.size : Int)) = true := by simp; omega
      have d1 : decide ((x1.toNat : Int) < 144) = false := by simp; omega
      have d2 : decide ((191 : Int) < (x1.toNat : Int)) = false := by simp; omega
      clear e1 e2 hge
      go_enter Tryz.func38, Tryz.ntmps38
      go_wp2_with fail
      go_quiet (fail)
      go_wp2
      go_ret
      exact ⟨rfl, below_drewN ((Below.refl _ _).alloc (Nat.le_refl _) _) _⟩
    have h2' : ¬ (2 : Int) < (S.size : Int) := by omega
    rw [if_neg (by omega), if_neg (by omega)]
    have d0 : decide ((1 : Int) < (S.size : Int)) = true := by simp; omega
    have d1 : decide ((x1.toNat : Int) < 144) = false := by simp; omega
    have d2 : decide ((191 : Int) < (x1.toNat : Int)) = false := by simp; omega
    clear e1 e2 hge
    go_enter Tryz.func38, Tryz.ntmps38
    go_wp2_with fail
    go_quiet (fail)
    go_wp2
    go_ret
    exact ⟨rfl, below_drewN ((Below.refl _ _).alloc (Nat.le_refl _) _) _⟩
  have h1' : ¬ (1 : Int) < (S.size : Int) := by omega
  have h2' : ¬ (2 : Int) < (S.size : Int) := by omega
  rw [if_neg (by omega), if_neg (by omega)]
  have d0 : decide ((1 : Int) < (S.size : Int)) = false := by simp; omega
  clear e1 e2 hge
  go_enter Tryz.func38, Tryz.ntmps38
  go_wp2_with fail
  go_quiet (fail)
  go_wp2
  go_ret
  exact ⟨rfl, below_drewN ((Below.refl _ _).alloc (Nat.le_refl _) _) _⟩

set_option maxHeartbeats 4000000 in
set_option maxRecDepth 100000 in
theorem Full_4 (S : ByteArray) (w : World) (x0 x1 x2 : UInt8) (hn : 0 < S.size) (e0 : S[0] = x0) (e1 : ∀ h : 1 < S.size, S[1] = x1) (e2 : ∀ h : 2 < S.size, S[2] = x2) (hT : Tabs w) (hX : firstT x0.toNat = 4) :
    Calls Tryz.prog 38 #[.string S] w fun e w' => e = .returned (.bool (fullN S.size x0.toNat x1.toNat x2.toNat)) ∧ Below w.heap.size w w' := by
  have _u1 := e1
  have _u2 := e2
  clear _u1 _u2
  have hc0 := hT.1 x0.toNat x0.toNat_lt
  have l0 := x0.toNat_lt
  have hz' : ((S.size : Int) == 0) = false := by rw [beq_eq_false_iff_ne]; omega
  have hp : (0 : Int) < (S.size : Int) := by omega
  have hk := first_key ⟨x0.toNat, x0.toNat_lt⟩
  simp only at hk
  rw [hX] at hc0 hk
  have hsz : sz x0.toNat = 4 := by
    have h1 := hk.1
    have h2 := hk.2.2
    split at h1
    · rename_i h; have := sz_low h; omega
    · omega
  have hlo : lo x0.toNat = 128 := (hk.2.1 (by decide)).1.symm
  have hhi : hi x0.toNat = 191 := (hk.2.1 (by decide)).2.symm
  have ha0 := (hT.2 0 (by decide)).1
  have ha1 := (hT.2 0 (by decide)).2
  simp only [accLo, accHi, Nat.reduceMul, Nat.reduceAdd, Nat.reduceEqDiff, if_true, if_false] at ha0 ha1
  unfold fullN
  rw [hsz, hlo, hhi]
  clear hk hX hT hsz hlo hhi
  by_cases hge : 4 ≤ S.size
  · rw [if_pos hge]
    clear ha0 ha1 e1 e2
    have hge' : (4 : Int) ≤ (S.size : Int) := by omega
    go_enter Tryz.func38, Tryz.ntmps38
    go_wp2
    go_ret
    exact ⟨rfl, Below.refl _ _⟩
  rw [if_neg hge]
  have hge' : ¬ (4 : Int) ≤ (S.size : Int) := by omega
  have u138 := run_underlying (P := Tryz.prog) Tryz.underlying73
  by_cases h1 : 1 < S.size
  · have f1 := e1 h1
    have h1' : (1 : Int) < (S.size : Int) := by omega
    by_cases p1 : x1.toNat < 128
    · have p1' : (x1.toNat : Int) < 128 := by omega
      rw [if_pos ⟨h1, .inl p1⟩]
      have d0 : decide ((1 : Int) < (S.size : Int)) = true := by simp; omega
      have d1 : decide ((x1.toNat : Int) < 128) = true := by simp; omega
      clear e1 e2 hge
      go_enter Tryz.func38, Tryz.ntmps38
      go_wp2_with fail
      go_quiet (fail)
      go_wp2
      go_ret
      exact ⟨rfl, below_drewN ((Below.refl _ _).alloc (Nat.le_refl _) _) _⟩
    by_cases p2 : 191 < x1.toNat
    · have p1' : ¬ (x1.toNat : Int) < 128 := by omega
      have p2' : (191 : Int) < (x1.toNat : Int) := by omega
      rw [if_pos ⟨h1, .inr p2⟩]
      have d0 : decide ((1 : Int) < (S.size : Int)) = true := by simp; omega
      have d1 : decide ((x1.toNat : Int) < 128) = false := by simp; omega
      have d2 : decide ((191 : Int) < (x1.toNat : Int)) = true := by simp; omega
      clear e1 e2 hge
      go_enter Tryz.func38, Tryz.ntmps38
      go_wp2_with fail
      go_quiet (fail)
      go_wp2
      go_ret
      exact ⟨rfl, below_drewN ((Below.refl _ _).alloc (Nat.le_refl _) _) _⟩
    have p1' : ¬ (x1.toNat : Int) < 128 := by omega
    have p2' : ¬ (191 : Int) < (x1.toNat : Int) := by omega
    by_cases h2 : 2 < S.size
    · have f2 := e2 h2
      have h2' : (2 : Int) < (S.size : Int) := by omega
      by_cases q1 : x2.toNat < 128
      · have q1' : (x2.toNat : Int) < 128 := by omega
        rw [if_neg (by omega), if_pos ⟨h2, .inl q1⟩]
        have d0 : decide ((1 : Int) < (S.size : Int)) = true := by simp; omega
        have d1 : decide ((x1.toNat : Int) < 128) = false := by simp; omega
        have d2 : decide ((191 : Int) < (x1.toNat : Int)) = false := by simp; omega
        clear e1 e2 hge
        go_enter Tryz.func38, Tryz.ntmps38
        go_wp2_with fail
        go_quiet (fail)
        go_wp2
        go_ret
        exact ⟨rfl, below_drewN ((Below.refl _ _).alloc (Nat.le_refl _) _) _⟩
      by_cases q2 : 191 < x2.toNat
      · have q1' : ¬ (x2.toNat : Int) < 128 := by omega
        have q2' : (191 : Int) < (x2.toNat : Int) := by omega
        rw [if_neg (by omega), if_pos ⟨h2, .inr q2⟩]
        have d0 : decide ((1 : Int) < (S.size : Int)) = true := by simp; omega
        have d1 : decide ((x1.toNat : Int) < 128) = false := by simp; omega
        have d2 : decide ((191 : Int) < (x1.toNat : Int)) = false := by simp; omega
        clear e1 e2 hge
        go_enter Tryz.func38, Tryz.ntmps38
        go_wp2_with fail
        go_quiet (fail)
        go_wp2
        go_ret
        exact ⟨rfl, below_drewN ((Below.refl _ _).alloc (Nat.le_refl _) _) _⟩
      have q1' : ¬ (x2.toNat : Int) < 128 := by omega
      have q2' : ¬ (191 : Int) < (x2.toNat : Int) := by omega
      rw [if_neg (by omega), if_neg (by omega)]
      have d0 : decide ((1 : Int) < (S.size : Int)) = true := by simp; omega
      have d1 : decide ((x1.toNat : Int) < 128) = false := by simp; omega
      have d2 : decide ((191 : Int) < (x1.toNat : Int)) = false := by simp; omega
      clear e1 e2 hge
      go_enter Tryz.func38, Tryz.ntmps38
      go_wp2_with fail
      go_quiet (fail)
      go_wp2
      go_ret
      exact ⟨rfl, below_drewN ((Below.refl _ _).alloc (Nat.le_refl _) _) _⟩
    have h2' : ¬ (2 : Int) < (S.size : Int) := by omega
    rw [if_neg (by omega), if_neg (by omega)]
    have d0 : decide ((1 : Int) < (S.size : Int)) = true := by simp; omega
    have d1 : decide ((x1.toNat : Int) < 128) = false := by simp; omega
    have d2 : decide ((191 : Int) < (x1.toNat : Int)) = false := by simp; omega
    clear e1 e2 hge
    go_enter Tryz.func38, Tryz.ntmps38
    go_wp2_with fail
    go_quiet (fail)
    go_wp2
    go_ret
    exact ⟨rfl, below_drewN ((Below.refl _ _).alloc (Nat.le_refl _) _) _⟩
  have h1' : ¬ (1 : Int) < (S.size : Int) := by omega
  have h2' : ¬ (2 : Int) < (S.size : Int) := by omega
  rw [if_neg (by omega), if_neg (by omega)]
  have d0 : decide ((1 : Int) < (S.size : Int)) = false := by simp; omega
  clear e1 e2 hge
  go_enter Tryz.func38, Tryz.ntmps38
  go_wp2_with fail
  go_quiet (fail)
  go_wp2
  go_ret
  exact ⟨rfl, below_drewN ((Below.refl _ _).alloc (Nat.le_refl _) _) _⟩

set_option maxHeartbeats 4000000 in
set_option maxRecDepth 100000 in
theorem Full_68 (S : ByteArray) (w : World) (x0 x1 x2 : UInt8) (hn : 0 < S.size) (e0 : S[0] = x0) (e1 : ∀ h : 1 < S.size, S[1] = x1) (e2 : ∀ h : 2 < S.size, S[2] = x2) (hT : Tabs w) (hX : firstT x0.toNat = 68) :
    Calls Tryz.prog 38 #[.string S] w fun e w' => e = .returned (.bool (fullN S.size x0.toNat x1.toNat x2.toNat)) ∧ Below w.heap.size w w' := by
  have _u1 := e1
  have _u2 := e2
  clear _u1 _u2
  have hc0 := hT.1 x0.toNat x0.toNat_lt
  have l0 := x0.toNat_lt
  have hz' : ((S.size : Int) == 0) = false := by rw [beq_eq_false_iff_ne]; omega
  have hp : (0 : Int) < (S.size : Int) := by omega
  have hk := first_key ⟨x0.toNat, x0.toNat_lt⟩
  simp only at hk
  rw [hX] at hc0 hk
  have hsz : sz x0.toNat = 4 := by
    have h1 := hk.1
    have h2 := hk.2.2
    split at h1
    · rename_i h; have := sz_low h; omega
    · omega
  have hlo : lo x0.toNat = 128 := (hk.2.1 (by decide)).1.symm
  have hhi : hi x0.toNat = 143 := (hk.2.1 (by decide)).2.symm
  have ha0 := (hT.2 4 (by decide)).1
  have ha1 := (hT.2 4 (by decide)).2
  simp only [accLo, accHi, Nat.reduceMul, Nat.reduceAdd, Nat.reduceEqDiff, if_true, if_false] at ha0 ha1
  unfold fullN
  rw [hsz, hlo, hhi]
  clear hk hX hT hsz hlo hhi
  by_cases hge : 4 ≤ S.size
  · rw [if_pos hge]
    clear ha0 ha1 e1 e2
    have hge' : (4 : Int) ≤ (S.size : Int) := by omega
    go_enter Tryz.func38, Tryz.ntmps38
    go_wp2
    go_ret
    exact ⟨rfl, Below.refl _ _⟩
  rw [if_neg hge]
  have hge' : ¬ (4 : Int) ≤ (S.size : Int) := by omega
  have u138 := run_underlying (P := Tryz.prog) Tryz.underlying73
  by_cases h1 : 1 < S.size
  · have f1 := e1 h1
    have h1' : (1 : Int) < (S.size : Int) := by omega
    by_cases p1 : x1.toNat < 128
    · have p1' : (x1.toNat : Int) < 128 := by omega
      rw [if_pos ⟨h1, .inl p1⟩]
      have d0 : decide ((1 : Int) < (S.size : Int)) = true := by simp; omega
      have d1 : decide ((x1.toNat : Int) < 128) = true := by simp; omega
      clear e1 e2 hge
      go_enter Tryz.func38, Tryz.ntmps38
      go_wp2_with fail
      go_quiet (fail)
      go_wp2
      go_ret
      exact ⟨rfl, below_drewN ((Below.refl _ _).alloc (Nat.le_refl _) _) _⟩
    by_cases p2 : 143 < x1.toNat
    · have p1' : ¬ (x1.toNat : Int) < 128 := by omega
      have p2' : (143 : Int) < (x1.toNat : Int) := by omega
      rw [if_pos ⟨h1, .inr p2⟩]
      have d0 : decide ((1 : Int) < (S.size : Int)) = true := by simp; omega
      have d1 : decide ((x1.toNat : Int) < 128) = false := by simp; omega
      have d2 : decide ((143 : Int) < (x1.toNat : Int)) = true := by simp; omega
      clear e1 e2 hge
      go_enter Tryz.func38, Tryz.ntmps38
      go_wp2_with fail
      go_quiet (fail)
      go_wp2
      go_ret
      exact ⟨rfl, below_drewN ((Below.refl _ _).alloc (Nat.le_refl _) _) _⟩
    have p1' : ¬ (x1.toNat : Int) < 128 := by omega
    have p2' : ¬ (143 : Int) < (x1.toNat : Int) := by omega
    by_cases h2 : 2 < S.size
    · have f2 := e2 h2
      have h2' : (2 : Int) < (S.size : Int) := by omega
      by_cases q1 : x2.toNat < 128
      · have q1' : (x2.toNat : Int) < 128 := by omega
        rw [if_neg (by omega), if_pos ⟨h2, .inl q1⟩]
        have d0 : decide ((1 : Int) < (S.size : Int)) = true := by simp; omega
        have d1 : decide ((x1.toNat : Int) < 128) = false := by simp; omega
        have d2 : decide ((143 : Int) < (x1.toNat : Int)) = false := by simp; omega
        clear e1 e2 hge
        go_enter Tryz.func38, Tryz.ntmps38
        go_wp2_with fail
        go_quiet (fail)
        go_wp2
        go_ret
        exact ⟨rfl, below_drewN ((Below.refl _ _).alloc (Nat.le_refl _) _) _⟩
      by_cases q2 : 191 < x2.toNat
      · have q1' : ¬ (x2.toNat : Int) < 128 := by omega
        have q2' : (191 : Int) < (x2.toNat : Int) := by omega
        rw [if_neg (by omega), if_pos ⟨h2, .inr q2⟩]
        have d0 : decide ((1 : Int) < (S.size : Int)) = true := by simp; omega
        have d1 : decide ((x1.toNat : Int) < 128) = false := by simp; omega
        have d2 : decide ((143 : Int) < (x1.toNat : Int)) = false := by simp; omega
        clear e1 e2 hge
        go_enter Tryz.func38, Tryz.ntmps38
        go_wp2_with fail
        go_quiet (fail)
        go_wp2
        go_ret
        exact ⟨rfl, below_drewN ((Below.refl _ _).alloc (Nat.le_refl _) _) _⟩
      have q1' : ¬ (x2.toNat : Int) < 128 := by omega
      have q2' : ¬ (191 : Int) < (x2.toNat : Int) := by omega
      rw [if_neg (by omega), if_neg (by omega)]
      have d0 : decide ((1 : Int) < (S.size : Int)) = true := by simp; omega
      have d1 : decide ((x1.toNat : Int) < 128) = false := by simp; omega
      have d2 : decide ((143 : Int) < (x1.toNat : Int)) = false := by simp; omega
      clear e1 e2 hge
      go_enter Tryz.func38, Tryz.ntmps38
      go_wp2_with fail
      go_quiet (fail)
      go_wp2
      go_ret
      exact ⟨rfl, below_drewN ((Below.refl _ _).alloc (Nat.le_refl _) _) _⟩
    have h2' : ¬ (2 : Int) < (S.size : Int) := by omega
    rw [if_neg (by omega), if_neg (by omega)]
    have d0 : decide ((1 : Int) < (S.size : Int)) = true := by simp; omega
    have d1 : decide ((x1.toNat : Int) < 128) = false := by simp; omega
    have d2 : decide ((143 : Int) < (x1.toNat : Int)) = false := by simp; omega
    clear e1 e2 hge
    go_enter Tryz.func38, Tryz.ntmps38
    go_wp2_with fail
    go_quiet (fail)
    go_wp2
    go_ret
    exact ⟨rfl, below_drewN ((Below.refl _ _).alloc (Nat.le_refl _) _) _⟩
  have h1' : ¬ (1 : Int) < (S.size : Int) := by omega
  have h2' : ¬ (2 : Int) < (S.size : Int) := by omega
  rw [if_neg (by omega), if_neg (by omega)]
  have d0 : decide ((1 : Int) < (S.size : Int)) = false := by simp; omega
  clear e1 e2 hge
  go_enter Tryz.func38, Tryz.ntmps38
  go_wp2_with fail
  go_quiet (fail)
  go_wp2
  go_ret
  exact ⟨rfl, below_drewN ((Below.refl _ _).alloc (Nat.le_refl _) _) _⟩

theorem fullN_beg (L : List UInt8) (h : L ≠ []) : fullN L.length (nth L 0) (nth L 1) (nth L 2) = !beg L := by
  match L, h with
  | [a], _ =>
    simp only [fullN, beg, nth, List.length_cons, List.length_nil, List.getD_cons_zero]
    rcases sz_cases a.toNat with h | h | h | h <;> simp [h]
  | [a, b], _ =>
    simp only [fullN, beg, nth, List.length_cons, List.length_nil, List.getD_cons_zero, List.getD_cons_succ]
    by_cases c : b.toNat < lo a.toNat ∨ hi a.toNat < b.toNat
    · have : ¬ (lo a.toNat ≤ b.toNat ∧ b.toNat ≤ hi a.toNat) := by omega
      simp [c, this]
    · have : lo a.toNat ≤ b.toNat ∧ b.toNat ≤ hi a.toNat := by omega
      rcases sz_cases a.toNat with h | h | h | h <;> simp [h, this, c]
  | [a, b, c], _ =>
    simp only [fullN, beg, nth, List.length_cons, List.length_nil, List.getD_cons_zero, List.getD_cons_succ]
    by_cases q : b.toNat < lo a.toNat ∨ hi a.toNat < b.toNat
    · have : ¬ (lo a.toNat ≤ b.toNat ∧ b.toNat ≤ hi a.toNat) := by omega
      have q2 : ¬ (4 ≤ sz a.toNat ∧ lo a.toNat ≤ b.toNat ∧ b.toNat ≤ hi a.toNat ∧ 128 ≤ c.toNat ∧ c.toNat ≤ 191) := by omega
      simp [q, q2]
    · by_cases r : c.toNat < 128 ∨ 191 < c.toNat
      · have q2 : ¬ (4 ≤ sz a.toNat ∧ lo a.toNat ≤ b.toNat ∧ b.toNat ≤ hi a.toNat ∧ 128 ≤ c.toNat ∧ c.toNat ≤ 191) := by omega
        simp [r, q2]
      · have : lo a.toNat ≤ b.toNat ∧ b.toNat ≤ hi a.toNat ∧ 128 ≤ c.toNat ∧ c.toNat ≤ 191 := by omega
        rcases sz_cases a.toNat with h | h | h | h <;> simp [h, this, q, r]
  | a :: b :: c :: d :: t, _ =>
    have : sz a.toNat ≤ (a :: b :: c :: d :: t).length := by
      simp only [List.length_cons]
      rcases sz_cases a.toNat with h | h | h | h <;> omega
    have e : nth (a :: b :: c :: d :: t) 0 = a.toNat := rfl
    unfold fullN
    rw [e, if_pos this]
    rfl

theorem list_at (L : List UInt8) (k : Nat) (h : k < (⟨L.toArray⟩ : ByteArray).size) : (⟨L.toArray⟩ : ByteArray)[k] = L.getD k 0 := by
  have hk : k < L.length := by simpa [ByteArray.size] using h
  have e : (⟨L.toArray⟩ : ByteArray)[k] = L[k] := by
    show L.toArray[k] = L[k]
    simp
  rw [e]
  simp [List.getD, hk]

set_option maxHeartbeats 4000000 in
set_option maxRecDepth 100000 in
theorem Full_any (L : List UInt8) (w : World) (hT : Tabs w) :
    Calls Tryz.prog 38 #[.string ⟨L.toArray⟩] w fun e w' => e = .returned (.bool (decide (L ≠ []) && !beg L)) ∧ Below w.heap.size w w' := by
  have hsz : (⟨L.toArray⟩ : ByteArray).size = L.length := by simp [ByteArray.size]
  by_cases h : L = []
  · subst h
    go_enter Tryz.func38, Tryz.ntmps38
    go_wp2
    go_ret
    exact ⟨rfl, Below.refl _ _⟩
  have hp : 0 < (⟨L.toArray⟩ : ByteArray).size := by rw [hsz]; exact Nat.pos_of_ne_zero fun e => h (List.eq_nil_of_length_eq_zero e)
  have hf := fullN_beg L h
  rw [← hsz] at hf
  have hd : (decide (L ≠ []) && !beg L) = fullN (⟨L.toArray⟩ : ByteArray).size (nth L 0) (nth L 1) (nth L 2) := by rw [hf]; simp [h]
  rw [hd]
  have e0 := list_at L 0 hp
  have e1 := fun h => list_at L 1 h
  have e2 := fun h => list_at L 2 h
  unfold nth
  rcases firstT_cases (L.getD 0 0).toNat with hX | hX | hX | hX | hX | hX | hX | hX | hX
  · exact Full_240 _ w _ _ _ hp e0 e1 e2 hT hX
  · exact Full_241 _ w _ _ _ hp e0 e1 e2 hT hX
  · exact Full_2 _ w _ _ _ hp e0 e1 e2 hT hX
  · exact Full_19 _ w _ _ _ hp e0 e1 e2 hT hX
  · exact Full_3 _ w _ _ _ hp e0 e1 e2 hT hX
  · exact Full_35 _ w _ _ _ hp e0 e1 e2 hT hX
  · exact Full_52 _ w _ _ _ hp e0 e1 e2 hT hX
  · exact Full_4 _ w _ _ _ hp e0 e1 e2 hT hX
  · exact Full_68 _ w _ _ _ hp e0 e1 e2 hT hX

set_option maxHeartbeats 4000000 in
theorem isBeg_any (L : List UInt8) (w : World) (hT : Tabs w) :
    Calls Tryz.prog 22 #[.string ⟨L.toArray⟩] w fun e w' => e = .returned (.bool (beg L)) ∧ Below w.heap.size w w' := by
  have HF := Full_any L w hT
  by_cases h : L = []
  · subst h
    go_enter Tryz.func22, Tryz.ntmps22
    go_wp2
    go_ret
    exact ⟨rfl, Below.refl _ _⟩
  have h2 : (decide (L ≠ []) && !beg L) = !beg L := by simp [h]
  rw [h2] at HF
  clear h2
  generalize beg L = b at *
  have h3 : (⟨L.toArray⟩ : ByteArray).toList.isEmpty = false := by
    rw [Lib.toList_data]
    cases L with
    | nil => exact absurd rfl h
    | cons a L => rfl
  generalize (⟨L.toArray⟩ : ByteArray) = S at *
  go_enter Tryz.func22, Tryz.ntmps22
  go_wp2_with fail
  refine HF.mono ?_
  rintro e w1 ⟨rfl, hb1⟩
  go_wp2
  go_ret
  exact ⟨by simp, hb1⟩

set_option maxHeartbeats 4000000 in
theorem Check_any (L : List UInt8) (w : World) (hT : Tabs w) :
    Calls Tryz.prog 21 #[.string ⟨L.toArray⟩] w fun e w' => e = .returned (.int .i64 (if L = [] ∨ beg L = true then 0 else 4)) ∧ Below w.heap.size w w' := by
  have HF := isBeg_any L w hT
  by_cases h : L = []
  · subst h
    go_enter Tryz.func21, Tryz.ntmps21
    go_wp2
    go_ret
    exact ⟨rfl, Below.refl _ _⟩
  have h3 : (⟨L.toArray⟩ : ByteArray).toList.isEmpty = false := by
    rw [Lib.toList_data]
    cases L with
    | nil => exact absurd rfl h
    | cons a L => rfl
  cases hb : beg L with
  | true =>
    rw [hb] at HF
    rw [if_pos (.inr rfl)]
    generalize (⟨L.toArray⟩ : ByteArray) = S at *
    go_enter Tryz.func21, Tryz.ntmps21
    go_wp2_with fail
    refine HF.mono ?_
    rintro e w1 ⟨rfl, hb1⟩
    go_wp2
    go_ret
    exact ⟨rfl, hb1⟩
  | false =>
    rw [hb] at HF
    rw [if_neg (by simp [h])]
    generalize (⟨L.toArray⟩ : ByteArray) = S at *
    go_enter Tryz.func21, Tryz.ntmps21
    go_wp2_with fail
    refine HF.mono ?_
    rintro e w1 ⟨rfl, hb1⟩
    go_wp2
    go_ret
    exact ⟨rfl, hb1⟩
end Go.Proofs.YtneiiinheimglaaGreatDoor.U
