/-
  Contract of farref.TokText: the bytes of a token, as iac.Write's; conditions: at most 2097152 bytes of data, and the variable internal/bytealg.MaxLen holds some int.
-/
import Derived.Test.YtmcoliblkkploaaDoorByt
import Derived.Test.YtmcoliblkkploaaDoorRight
namespace Go.Proofs.YtmcoliblkkploaaDoor
open Go.RowKit

theorem Replace_ff (s : List UInt8) (m : Int) (w : World) (hs : s.length ≤ 100000000) (hm : w.cell? ⟨0, 0, none⟩ = some (.int .i64 m)) :
    Calls Tryd.prog 32 #[.string ⟨s.toArray⟩, .string ⟨#[255]⟩, .string ⟨#[255, 255]⟩] w fun e w' => e = .returned (.string ⟨(esc s).toArray⟩) ∧ Below w.heap.size w w' := by
  have hsz : (⟨s.toArray⟩ : ByteArray).size = s.length := by simp [ByteArray.size]
  have hc : Lib.countB ⟨s.toArray⟩ ⟨#[255]⟩ ≤ s.length + 1 := by
    have := Lib.count_le s [255]
    simpa [Lib.countB] using this
  have H := Tryd.strings_ReplaceAll ⟨s.toArray⟩ ⟨#[255]⟩ ⟨#[255, 255]⟩ m w (by rw [hsz]; omega) hm (by decide) (by
    rw [hsz]
    have e : (⟨#[255, 255]⟩ : ByteArray).size = 2 := rfl
    rw [e]; omega)
  simp only [] at H
  rw [esc_all] at H
  exact H
theorem later4 {w w' : World} {cs : Array Value} {T : TypeId} (hb : Below (w.alloc (.cells cs T)).heap.size (w.alloc (.cells cs T)) w') : ∀ j, w'.cell? ⟨w.heap.size, j, none⟩ = cs[j]? := fun j =>
  (hb.cell (p := ⟨w.heap.size, j, none⟩) (by simp)).trans (World.cell?_alloc_at _ _ _ _ rfl)
theorem bytes_glue (a b : List UInt8) : (⟨a.toArray⟩ ++ ⟨b.toArray⟩ : ByteArray) = ⟨(a ++ b).toArray⟩ := by
  apply ByteArray.ext
  simp

set_option maxHeartbeats 4000000 in
set_option maxRecDepth 100000 in
theorem TokText_no0 (kd cm op : Int) (dt : List UInt8) (m : Int) (w : World) (hl : dt.length ≤ 2097152) (h1 : Tk.eq ⟨kd, cm, op, dt⟩ ⟨1, 0, 0, dt⟩ = false) (h2 : Tk.eq ⟨kd, cm, op, dt⟩ ⟨2, cm, 0, []⟩ = false) (h3 : Tk.eq ⟨kd, cm, op, dt⟩ ⟨3, cm, op, []⟩ = false) (h4 : Tk.eq ⟨kd, cm, op, dt⟩ ⟨4, 0, op, dt⟩ = false) (hm : w.cell? ⟨0, 0, none⟩ = some (.int .i64 m)) :
    Calls Tryd.prog 17 #[(⟨kd, cm, op, dt⟩ : Tk).val] w fun e w' => e = .returned (.tuple #[.string ⟨([] : List UInt8).toArray⟩, .int .i64 1]) ∧ Below w.heap.size w w' := by
  have h0 : 0 < w.heap.size := World.block_lt_of_cell? _ _ hm
  have HR : Hid (∀ W : World, W.cell? ⟨0, 0, none⟩ = some (.int .i64 m) → Calls Tryd.prog 32 #[.string ⟨dt.toArray⟩, .string ⟨#[255]⟩, .string ⟨#[255, 255]⟩] W fun e w' => e = .returned (.string ⟨(esc dt).toArray⟩) ∧ Below W.heap.size W w') := fun W hW => Replace_ff dt m W (by omega) hW
  have hM0 : Hid (∀ o, (w.alloc o).cell? ⟨0, 0, none⟩ = some (.int .i64 m)) := fun o => by
    rw [World.cell?_alloc_past (hn := by omega)]
    exact hm
  have he1 := fun W => Tk.run_eq ⟨kd, cm, op, dt⟩ ⟨1, 0, 0, dt⟩ W
  have he2 := fun W => Tk.run_eq ⟨kd, cm, op, dt⟩ ⟨2, cm, 0, []⟩ W
  have he3 := fun W => Tk.run_eq ⟨kd, cm, op, dt⟩ ⟨3, cm, op, []⟩ W
  have he4 := fun W => Tk.run_eq ⟨kd, cm, op, dt⟩ ⟨4, 0, op, dt⟩ W
  rw [show Tk.eq ⟨kd, cm, op, dt⟩ ⟨1, 0, 0, dt⟩ = false from h1] at he1
  rw [show Tk.eq ⟨kd, cm, op, dt⟩ ⟨2, cm, 0, []⟩ = false from h2] at he2
  rw [show Tk.eq ⟨kd, cm, op, dt⟩ ⟨3, cm, op, []⟩ = false from h3] at he3
  rw [show Tk.eq ⟨kd, cm, op, dt⟩ ⟨4, 0, op, dt⟩ = false from h4] at he4
  simp only [Tk.val] at *
  clear h1 h2 h3 h4
  go_enter Tryd.func17, Tryd.ntmps17
  go_wp2_with fail
  refine (HR.out _ (hM0.out _)).mono ?_
  rintro e w1 ⟨rfl, hb1⟩
  have d1 := later4 hb1
  have hs1 := hb1.size
  simp only [World.size_alloc] at hs1
  have HB1 : Hid (Below w.heap.size w w1) := ((Below.refl w.heap.size w).alloc (Nat.le_refl _) _).trans (hb1.mono (by simp))
  clear hb1
  go_wp2
  go_ret2
  exact ⟨rfl, HB1.out⟩

set_option maxHeartbeats 4000000 in
set_option maxRecDepth 100000 in
theorem TokText_data (dt : List UInt8) (m : Int) (w : World) (hl : dt.length ≤ 2097152) (hm : w.cell? ⟨0, 0, none⟩ = some (.int .i64 m)) :
    Calls Tryd.prog 17 #[(⟨1, 0, 0, dt⟩ : Tk).val] w fun e w' => e = .returned (.tuple #[.string ⟨(esc dt : List UInt8).toArray⟩, .int .i64 0]) ∧ Below w.heap.size w w' := by
  have h0 : 0 < w.heap.size := World.block_lt_of_cell? _ _ hm
  have HR : Hid (∀ W : World, W.cell? ⟨0, 0, none⟩ = some (.int .i64 m) → Calls Tryd.prog 32 #[.string ⟨dt.toArray⟩, .string ⟨#[255]⟩, .string ⟨#[255, 255]⟩] W fun e w' => e = .returned (.string ⟨(esc dt).toArray⟩) ∧ Below W.heap.size W w') := fun W hW => Replace_ff dt m W (by omega) hW
  have hM0 : Hid (∀ o, (w.alloc o).cell? ⟨0, 0, none⟩ = some (.int .i64 m)) := fun o => by
    rw [World.cell?_alloc_past (hn := by omega)]
    exact hm
  have he1 := fun W => Tk.run_eq ⟨1, 0, 0, dt⟩ ⟨1, 0, 0, dt⟩ W
  have he2 := fun W => Tk.run_eq ⟨1, 0, 0, dt⟩ ⟨2, 0, 0, []⟩ W
  have he3 := fun W => Tk.run_eq ⟨1, 0, 0, dt⟩ ⟨3, 0, 0, []⟩ W
  have he4 := fun W => Tk.run_eq ⟨1, 0, 0, dt⟩ ⟨4, 0, 0, dt⟩ W
  rw [show Tk.eq ⟨1, 0, 0, dt⟩ ⟨1, 0, 0, dt⟩ = true from (by simp [Tk.eq])] at he1
  rw [show Tk.eq ⟨1, 0, 0, dt⟩ ⟨2, 0, 0, []⟩ = false from (by simp [Tk.eq])] at he2
  rw [show Tk.eq ⟨1, 0, 0, dt⟩ ⟨3, 0, 0, []⟩ = false from (by simp [Tk.eq])] at he3
  rw [show Tk.eq ⟨1, 0, 0, dt⟩ ⟨4, 0, 0, dt⟩ = false from (by simp [Tk.eq])] at he4
  simp only [Tk.val] at *
  go_enter Tryd.func17, Tryd.ntmps17
  go_wp2_with fail
  refine (HR.out _ (hM0.out _)).mono ?_
  rintro e w1 ⟨rfl, hb1⟩
  have d1 := later4 hb1
  have hs1 := hb1.size
  simp only [World.size_alloc] at hs1
  have HB1 : Hid (Below w.heap.size w w1) := ((Below.refl w.heap.size w).alloc (Nat.le_refl _) _).trans (hb1.mono (by simp))
  clear hb1
  go_wp2
  go_ret2
  exact ⟨rfl, HB1.out⟩

set_option maxHeartbeats 4000000 in
set_option maxRecDepth 100000 in
theorem TokText_cmdno (cm : Int) (m : Int) (w : World) (h1 : ¬ (240 ≤ cm ∧ cm ≤ 249)) (hm : w.cell? ⟨0, 0, none⟩ = some (.int .i64 m)) :
    Calls Tryd.prog 17 #[(⟨2, cm, 0, []⟩ : Tk).val] w fun e w' => e = .returned (.tuple #[.string ⟨([] : List UInt8).toArray⟩, .int .i64 1]) ∧ Below w.heap.size w w' := by
  have h0 : 0 < w.heap.size := World.block_lt_of_cell? _ _ hm
  have HR : Hid (∀ W : World, W.cell? ⟨0, 0, none⟩ = some (.int .i64 m) → Calls Tryd.prog 32 #[.string ⟨([] : List UInt8).toArray⟩, .string ⟨#[255]⟩, .string ⟨#[255, 255]⟩] W fun e w' => e = .returned (.string ⟨(esc []).toArray⟩) ∧ Below W.heap.size W w') := fun W hW => Replace_ff [] m W (by simp) hW
  have hM0 : Hid (∀ o, (w.alloc o).cell? ⟨0, 0, none⟩ = some (.int .i64 m)) := fun o => by
    rw [World.cell?_alloc_past (hn := by omega)]
    exact hm
  have he1 := fun W => Tk.run_eq ⟨2, cm, 0, []⟩ ⟨1, 0, 0, []⟩ W
  have he2 := fun W => Tk.run_eq ⟨2, cm, 0, []⟩ ⟨2, cm, 0, []⟩ W
  have he3 := fun W => Tk.run_eq ⟨2, cm, 0, []⟩ ⟨3, cm, 0, []⟩ W
  have he4 := fun W => Tk.run_eq ⟨2, cm, 0, []⟩ ⟨4, 0, 0, []⟩ W
  rw [show Tk.eq ⟨2, cm, 0, []⟩ ⟨1, 0, 0, []⟩ = false from (by simp [Tk.eq])] at he1
  rw [show Tk.eq ⟨2, cm, 0, []⟩ ⟨2, cm, 0, []⟩ = true from (by simp [Tk.eq])] at he2
  rw [show Tk.eq ⟨2, cm, 0, []⟩ ⟨3, cm, 0, []⟩ = false from (by simp [Tk.eq])] at he3
  rw [show Tk.eq ⟨2, cm, 0, []⟩ ⟨4, 0, 0, []⟩ = false from (by simp [Tk.eq])] at he4
  simp only [Tk.val] at *
  go_enter Tryd.func17, Tryd.ntmps17
  go_wp2_with fail
  refine (HR.out _ (hM0.out _)).mono ?_
  rintro e w1 ⟨rfl, hb1⟩
  have d1 := later4 hb1
  have hs1 := hb1.size
  simp only [World.size_alloc] at hs1
  have HB1 : Hid (Below w.heap.size w w1) := ((Below.refl w.heap.size w).alloc (Nat.le_refl _) _).trans (hb1.mono (by simp))
  clear hb1
  go_wp2_with fail
  refine (Between_no cm 240 249 w1 (by omega)).mono ?_
  rintro e w' ⟨rfl, rfl⟩
  go_wp2
  go_ret2
  exact ⟨rfl, HB1.out⟩

set_option maxHeartbeats 4000000 in
set_option maxRecDepth 100000 in
theorem TokText_cmd (b : UInt8) (m : Int) (w : World) (h1 : 240 ≤ b.toNat) (h2 : b.toNat ≤ 249) (hm : w.cell? ⟨0, 0, none⟩ = some (.int .i64 m)) :
    Calls Tryd.prog 17 #[(⟨2, b.toNat, 0, []⟩ : Tk).val] w fun e w' => e = .returned (.tuple #[.string ⟨([255, b] : List UInt8).toArray⟩, .int .i64 0]) ∧ Below w.heap.size w w' := by
  have h0 : 0 < w.heap.size := World.block_lt_of_cell? _ _ hm
  have HR : Hid (∀ W : World, W.cell? ⟨0, 0, none⟩ = some (.int .i64 m) → Calls Tryd.prog 32 #[.string ⟨([] : List UInt8).toArray⟩, .string ⟨#[255]⟩, .string ⟨#[255, 255]⟩] W fun e w' => e = .returned (.string ⟨(esc []).toArray⟩) ∧ Below W.heap.size W w') := fun W hW => Replace_ff [] m W (by simp) hW
  have hM0 : Hid (∀ o, (w.alloc o).cell? ⟨0, 0, none⟩ = some (.int .i64 m)) := fun o => by
    rw [World.cell?_alloc_past (hn := by omega)]
    exact hm
  have he1 := fun W => Tk.run_eq ⟨2, b.toNat, 0, []⟩ ⟨1, 0, 0, []⟩ W
  have he2 := fun W => Tk.run_eq ⟨2, b.toNat, 0, []⟩ ⟨2, b.toNat, 0, []⟩ W
  have he3 := fun W => Tk.run_eq ⟨2, b.toNat, 0, []⟩ ⟨3, b.toNat, 0, []⟩ W
  have he4 := fun W => Tk.run_eq ⟨2, b.toNat, 0, []⟩ ⟨4, 0, 0, []⟩ W
  rw [show Tk.eq ⟨2, b.toNat, 0, []⟩ ⟨1, 0, 0, []⟩ = false from (by simp [Tk.eq])] at he1
  rw [show Tk.eq ⟨2, b.toNat, 0, []⟩ ⟨2, b.toNat, 0, []⟩ = true from (by simp [Tk.eq])] at he2
  rw [show Tk.eq ⟨2, b.toNat, 0, []⟩ ⟨3, b.toNat, 0, []⟩ = false from (by simp [Tk.eq])] at he3
  rw [show Tk.eq ⟨2, b.toNat, 0, []⟩ ⟨4, 0, 0, []⟩ = false from (by simp [Tk.eq])] at he4
  simp only [Tk.val] at *
  go_enter Tryd.func17, Tryd.ntmps17
  go_wp2_with fail
  refine (HR.out _ (hM0.out _)).mono ?_
  rintro e w1 ⟨rfl, hb1⟩
  have d1 := later4 hb1
  have hs1 := hb1.size
  simp only [World.size_alloc] at hs1
  have HB1 : Hid (Below w.heap.size w w1) := ((Below.refl w.heap.size w).alloc (Nat.le_refl _) _).trans (hb1.mono (by simp))
  clear hb1
  have hbt := Bytes_any [255, b] w1.heap.size 2 (w1.alloc (.cells #[.int .i64 255, .int .i64 (b.toNat : Int)] 3)) (by simp) ?hc (by simp)
  case hc =>
    intro k hk
    rw [World.cell?_alloc_at _ _ _ _ rfl]
    match k, hk with
    | 0, _ => rfl
    | 1, _ => rfl
  have HBT := Hid.mk' hbt
  clear hbt
  have q1 : (240 : Int) ≤ (b.toNat : Int) := by omega
  have q2 : (b.toNat : Int) ≤ 249 := by omega
  clear h1 h2
  generalize (b.toNat : Int) = n at *
  go_wp2_with fail
  refine (Between_yes n 240 249 w1 (by omega) (by omega)).mono ?_
  rintro e w' ⟨rfl, rfl⟩
  go_wp2_with fail
  refine HBT.out.mono ?_
  rintro e w2 ⟨rfl, hbw2⟩
  have HB2 : Hid (Below w.heap.size w w2) := (HB1.out.alloc (by omega) _).trans (hbw2.mono (by simp; omega))
  clear hbw2
  go_wp2
  go_ret2
  exact ⟨rfl, HB2.out⟩

set_option maxHeartbeats 4000000 in
set_option maxRecDepth 100000 in
theorem TokText_negno1 (cm op : Int) (m : Int) (w : World) (h1 : ¬ (251 ≤ cm ∧ cm ≤ 254)) (hm : w.cell? ⟨0, 0, none⟩ = some (.int .i64 m)) :
    Calls Tryd.prog 17 #[(⟨3, cm, op, []⟩ : Tk).val] w fun e w' => e = .returned (.tuple #[.string ⟨([] : List UInt8).toArray⟩, .int .i64 1]) ∧ Below w.heap.size w w' := by
  have h0 : 0 < w.heap.size := World.block_lt_of_cell? _ _ hm
  have HR : Hid (∀ W : World, W.cell? ⟨0, 0, none⟩ = some (.int .i64 m) → Calls Tryd.prog 32 #[.string ⟨([] : List UInt8).toArray⟩, .string ⟨#[255]⟩, .string ⟨#[255, 255]⟩] W fun e w' => e = .returned (.string ⟨(esc []).toArray⟩) ∧ Below W.heap.size W w') := fun W hW => Replace_ff [] m W (by simp) hW
  have hM0 : Hid (∀ o, (w.alloc o).cell? ⟨0, 0, none⟩ = some (.int .i64 m)) := fun o => by
    rw [World.cell?_alloc_past (hn := by omega)]
    exact hm
  have he1 := fun W => Tk.run_eq ⟨3, cm, op, []⟩ ⟨1, 0, 0, []⟩ W
  have he2 := fun W => Tk.run_eq ⟨3, cm, op, []⟩ ⟨2, cm, 0, []⟩ W
  have he3 := fun W => Tk.run_eq ⟨3, cm, op, []⟩ ⟨3, cm, op, []⟩ W
  have he4 := fun W => Tk.run_eq ⟨3, cm, op, []⟩ ⟨4, 0, op, []⟩ W
  rw [show Tk.eq ⟨3, cm, op, []⟩ ⟨1, 0, 0, []⟩ = false from (by simp [Tk.eq])] at he1
  rw [show Tk.eq ⟨3, cm, op, []⟩ ⟨2, cm, 0, []⟩ = false from (by simp [Tk.eq])] at he2
  rw [show Tk.eq ⟨3, cm, op, []⟩ ⟨3, cm, op, []⟩ = true from (by simp [Tk.eq])] at he3
  rw [show Tk.eq ⟨3, cm, op, []⟩ ⟨4, 0, op, []⟩ = false from (by simp [Tk.eq])] at he4
  simp only [Tk.val] at *
  go_enter Tryd.func17, Tryd.ntmps17
  go_wp2_with fail
  refine (HR.out _ (hM0.out _)).mono ?_
  rintro e w1 ⟨rfl, hb1⟩
  have d1 := later4 hb1
  have hs1 := hb1.size
  simp only [World.size_alloc] at hs1
  have HB1 : Hid (Below w.heap.size w w1) := ((Below.refl w.heap.size w).alloc (Nat.le_refl _) _).trans (hb1.mono (by simp))
  clear hb1
  go_wp2_with fail
  refine (Between_no cm 251 254 w1 (by omega)).mono ?_
  rintro e w' ⟨rfl, rfl⟩
  go_wp2
  go_ret2
  exact ⟨rfl, HB1.out⟩

set_option maxHeartbeats 4000000 in
set_option maxRecDepth 100000 in
theorem TokText_negno2 (cm op : Int) (m : Int) (w : World) (h1 : 251 ≤ cm) (h2 : cm ≤ 254) (h3 : ¬ (0 ≤ op ∧ op ≤ 255)) (hm : w.cell? ⟨0, 0, none⟩ = some (.int .i64 m)) :
    Calls Tryd.prog 17 #[(⟨3, cm, op, []⟩ : Tk).val] w fun e w' => e = .returned (.tuple #[.string ⟨([] : List UInt8).toArray⟩, .int .i64 1]) ∧ Below w.heap.size w w' := by
  have h0 : 0 < w.heap.size := World.block_lt_of_cell? _ _ hm
  have HR : Hid (∀ W : World, W.cell? ⟨0, 0, none⟩ = some (.int .i64 m) → Calls Tryd.prog 32 #[.string ⟨([] : List UInt8).toArray⟩, .string ⟨#[255]⟩, .string ⟨#[255, 255]⟩] W fun e w' => e = .returned (.string ⟨(esc []).toArray⟩) ∧ Below W.heap.size W w') := fun W hW => Replace_ff [] m W (by simp) hW
  have hM0 : Hid (∀ o, (w.alloc o).cell? ⟨0, 0, none⟩ = some (.int .i64 m)) := fun o => by
    rw [World.cell?_alloc_past (hn := by omega)]
    exact hm
  have he1 := fun W => Tk.run_eq ⟨3, cm, op, []⟩ ⟨1, 0, 0, []⟩ W
  have he2 := fun W => Tk.run_eq ⟨3, cm, op, []⟩ ⟨2, cm, 0, []⟩ W
  have he3 := fun W => Tk.run_eq ⟨3, cm, op, []⟩ ⟨3, cm, op, []⟩ W
  have he4 := fun W => Tk.run_eq ⟨3, cm, op, []⟩ ⟨4, 0, op, []⟩ W
  rw [show Tk.eq ⟨3, cm, op, []⟩ ⟨1, 0, 0, []⟩ = false from (by simp [Tk.eq])] at he1
  rw [show Tk.eq ⟨3, cm, op, []⟩ ⟨2, cm, 0, []⟩ = false from (by simp [Tk.eq])] at he2
  rw [show Tk.eq ⟨3, cm, op, []⟩ ⟨3, cm, op, []⟩ = true from (by simp [Tk.eq])] at he3
  rw [show Tk.eq ⟨3, cm, op, []⟩ ⟨4, 0, op, []⟩ = false from (by simp [Tk.eq])] at he4
  simp only [Tk.val] at *
  go_enter Tryd.func17, Tryd.ntmps17
  go_wp2_with fail
  refine (HR.out _ (hM0.out _)).mono ?_
  rintro e w1 ⟨rfl, hb1⟩
  have d1 := later4 hb1
  have hs1 := hb1.size
  simp only [World.size_alloc] at hs1
  have HB1 : Hid (Below w.heap.size w w1) := ((Below.refl w.heap.size w).alloc (Nat.le_refl _) _).trans (hb1.mono (by simp))
  clear hb1
  go_wp2_with fail
  refine (Between_yes cm 251 254 w1 (by omega) (by omega)).mono ?_
  rintro e w' ⟨rfl, rfl⟩
  go_wp2_with fail
  refine (Between_no op 0 255 w1 (by omega)).mono ?_
  rintro e w' ⟨rfl, rfl⟩
  go_wp2
  go_ret2
  exact ⟨rfl, HB1.out⟩

set_option maxHeartbeats 4000000 in
set_option maxRecDepth 100000 in
theorem TokText_neg (b o : UInt8) (m : Int) (w : World) (h1 : 251 ≤ b.toNat) (h2 : b.toNat ≤ 254) (hm : w.cell? ⟨0, 0, none⟩ = some (.int .i64 m)) :
    Calls Tryd.prog 17 #[(⟨3, b.toNat, o.toNat, []⟩ : Tk).val] w fun e w' => e = .returned (.tuple #[.string ⟨([255, b, o] : List UInt8).toArray⟩, .int .i64 0]) ∧ Below w.heap.size w w' := by
  have h0 : 0 < w.heap.size := World.block_lt_of_cell? _ _ hm
  have HR : Hid (∀ W : World, W.cell? ⟨0, 0, none⟩ = some (.int .i64 m) → Calls Tryd.prog 32 #[.string ⟨([] : List UInt8).toArray⟩, .string ⟨#[255]⟩, .string ⟨#[255, 255]⟩] W fun e w' => e = .returned (.string ⟨(esc []).toArray⟩) ∧ Below W.heap.size W w') := fun W hW => Replace_ff [] m W (by simp) hW
  have hM0 : Hid (∀ o, (w.alloc o).cell? ⟨0, 0, none⟩ = some (.int .i64 m)) := fun o => by
    rw [World.cell?_alloc_past (hn := by omega)]
    exact hm
  have he1 := fun W => Tk.run_eq ⟨3, b.toNat, o.toNat, []⟩ ⟨1, 0, 0, []⟩ W
  have he2 := fun W => Tk.run_eq ⟨3, b.toNat, o.toNat, []⟩ ⟨2, b.toNat, 0, []⟩ W
  have he3 := fun W => Tk.run_eq ⟨3, b.toNat, o.toNat, []⟩ ⟨3, b.toNat, o.toNat, []⟩ W
  have he4 := fun W => Tk.run_eq ⟨3, b.toNat, o.toNat, []⟩ ⟨4, 0, o.toNat, []⟩ W
  rw [show Tk.eq ⟨3, b.toNat, o.toNat, []⟩ ⟨1, 0, 0, []⟩ = false from (by simp [Tk.eq])] at he1
  rw [show Tk.eq ⟨3, b.toNat, o.toNat, []⟩ ⟨2, b.toNat, 0, []⟩ = false from (by simp [Tk.eq])] at he2
  rw [show Tk.eq ⟨3, b.toNat, o.toNat, []⟩ ⟨3, b.toNat, o.toNat, []⟩ = true from (by simp [Tk.eq])] at he3
  rw [show Tk.eq ⟨3, b.toNat, o.toNat, []⟩ ⟨4, 0, o.toNat, []⟩ = false from (by simp [Tk.eq])] at he4
  simp only [Tk.val] at *
  go_enter Tryd.func17, Tryd.ntmps17
  go_wp2_with fail
  refine (HR.out _ (hM0.out _)).mono ?_
  rintro e w1 ⟨rfl, hb1⟩
  have d1 := later4 hb1
  have hs1 := hb1.size
  simp only [World.size_alloc] at hs1
  have HB1 : Hid (Below w.heap.size w w1) := ((Below.refl w.heap.size w).alloc (Nat.le_refl _) _).trans (hb1.mono (by simp))
  clear hb1
  have hbt := Bytes_any [255, b, o] w1.heap.size 3 (w1.alloc (.cells #[.int .i64 255, .int .i64 (b.toNat : Int), .int .i64 (o.toNat : Int)] 3)) (by simp) ?hc (by simp)
  case hc =>
    intro k hk
    rw [World.cell?_alloc_at _ _ _ _ rfl]
    match k, hk with
    | 0, _ => rfl
    | 1, _ => rfl
    | 2, _ => rfl
  have HBT := Hid.mk' hbt
  clear hbt
  have h3 := o.toNat_lt
  have h4 : (0 : Int) ≤ (o.toNat : Int) := by omega
  have h5 : (o.toNat : Int) ≤ 255 := by omega
  have q1 : (251 : Int) ≤ (b.toNat : Int) := by omega
  have q2 : (b.toNat : Int) ≤ 254 := by omega
  clear h1 h2 h3
  generalize (b.toNat : Int) = n at *
  generalize (o.toNat : Int) = n2 at *
  go_wp2_with fail
  refine (Between_yes n 251 254 w1 (by omega) (by omega)).mono ?_
  rintro e w' ⟨rfl, rfl⟩
  go_wp2_with fail
  refine (Between_yes n2 0 255 w1 (by omega) (by omega)).mono ?_
  rintro e w' ⟨rfl, rfl⟩
  go_wp2_with fail
  refine HBT.out.mono ?_
  rintro e w2 ⟨rfl, hbw2⟩
  have HB2 : Hid (Below w.heap.size w w2) := (HB1.out.alloc (by omega) _).trans (hbw2.mono (by simp; omega))
  clear hbw2
  go_wp2
  go_ret2
  exact ⟨rfl, HB2.out⟩

set_option maxHeartbeats 4000000 in
set_option maxRecDepth 100000 in
theorem TokText_subno (op : Int) (dt : List UInt8) (m : Int) (w : World) (hl : dt.length ≤ 2097152) (h1 : ¬ (0 ≤ op ∧ op ≤ 255)) (hm : w.cell? ⟨0, 0, none⟩ = some (.int .i64 m)) :
    Calls Tryd.prog 17 #[(⟨4, 0, op, dt⟩ : Tk).val] w fun e w' => e = .returned (.tuple #[.string ⟨([] : List UInt8).toArray⟩, .int .i64 1]) ∧ Below w.heap.size w w' := by
  have h0 : 0 < w.heap.size := World.block_lt_of_cell? _ _ hm
  have HR : Hid (∀ W : World, W.cell? ⟨0, 0, none⟩ = some (.int .i64 m) → Calls Tryd.prog 32 #[.string ⟨dt.toArray⟩, .string ⟨#[255]⟩, .string ⟨#[255, 255]⟩] W fun e w' => e = .returned (.string ⟨(esc dt).toArray⟩) ∧ Below W.heap.size W w') := fun W hW => Replace_ff dt m W (by omega) hW
  have hM0 : Hid (∀ o, (w.alloc o).cell? ⟨0, 0, none⟩ = some (.int .i64 m)) := fun o => by
    rw [World.cell?_alloc_past (hn := by omega)]
    exact hm
  have he1 := fun W => Tk.run_eq ⟨4, 0, op, dt⟩ ⟨1, 0, 0, dt⟩ W
  have he2 := fun W => Tk.run_eq ⟨4, 0, op, dt⟩ ⟨2, 0, 0, []⟩ W
  have he3 := fun W => Tk.run_eq ⟨4, 0, op, dt⟩ ⟨3, 0, op, []⟩ W
  have he4 := fun W => Tk.run_eq ⟨4, 0, op, dt⟩ ⟨4, 0, op, dt⟩ W
  rw [show Tk.eq ⟨4, 0, op, dt⟩ ⟨1, 0, 0, dt⟩ = false from (by simp [Tk.eq])] at he1
  rw [show Tk.eq ⟨4, 0, op, dt⟩ ⟨2, 0, 0, []⟩ = false from (by simp [Tk.eq])] at he2
  rw [show Tk.eq ⟨4, 0, op, dt⟩ ⟨3, 0, op, []⟩ = false from (by simp [Tk.eq])] at he3
  rw [show Tk.eq ⟨4, 0, op, dt⟩ ⟨4, 0, op, dt⟩ = true from (by simp [Tk.eq])] at he4
  simp only [Tk.val] at *
  go_enter Tryd.func17, Tryd.ntmps17
  go_wp2_with fail
  refine (HR.out _ (hM0.out _)).mono ?_
  rintro e w1 ⟨rfl, hb1⟩
  have d1 := later4 hb1
  have hs1 := hb1.size
  simp only [World.size_alloc] at hs1
  have HB1 : Hid (Below w.heap.size w w1) := ((Below.refl w.heap.size w).alloc (Nat.le_refl _) _).trans (hb1.mono (by simp))
  clear hb1
  go_wp2_with fail
  refine (Between_no op 0 255 w1 (by omega)).mono ?_
  rintro e w' ⟨rfl, rfl⟩
  go_wp2
  go_ret2
  exact ⟨rfl, HB1.out⟩

set_option maxHeartbeats 4000000 in
set_option maxRecDepth 100000 in
theorem TokText_large (op : Int) (dt : List UInt8) (m : Int) (w : World) (hl : dt.length ≤ 2097152) (h1 : 0 ≤ op) (h2 : op ≤ 255) (h3 : 4096 < dt.length) (hm : w.cell? ⟨0, 0, none⟩ = some (.int .i64 m)) :
    Calls Tryd.prog 17 #[(⟨4, 0, op, dt⟩ : Tk).val] w fun e w' => e = .returned (.tuple #[.string ⟨([] : List UInt8).toArray⟩, .int .i64 2]) ∧ Below w.heap.size w w' := by
  have h0 : 0 < w.heap.size := World.block_lt_of_cell? _ _ hm
  have HR : Hid (∀ W : World, W.cell? ⟨0, 0, none⟩ = some (.int .i64 m) → Calls Tryd.prog 32 #[.string ⟨dt.toArray⟩, .string ⟨#[255]⟩, .string ⟨#[255, 255]⟩] W fun e w' => e = .returned (.string ⟨(esc dt).toArray⟩) ∧ Below W.heap.size W w') := fun W hW => Replace_ff dt m W (by omega) hW
  have hM0 : Hid (∀ o, (w.alloc o).cell? ⟨0, 0, none⟩ = some (.int .i64 m)) := fun o => by
    rw [World.cell?_alloc_past (hn := by omega)]
    exact hm
  have he1 := fun W => Tk.run_eq ⟨4, 0, op, dt⟩ ⟨1, 0, 0, dt⟩ W
  have he2 := fun W => Tk.run_eq ⟨4, 0, op, dt⟩ ⟨2, 0, 0, []⟩ W
  have he3 := fun W => Tk.run_eq ⟨4, 0, op, dt⟩ ⟨3, 0, op, []⟩ W
  have he4 := fun W => Tk.run_eq ⟨4, 0, op, dt⟩ ⟨4, 0, op, dt⟩ W
  rw [show Tk.eq ⟨4, 0, op, dt⟩ ⟨1, 0, 0, dt⟩ = false from (by simp [Tk.eq])] at he1
  rw [show Tk.eq ⟨4, 0, op, dt⟩ ⟨2, 0, 0, []⟩ = false from (by simp [Tk.eq])] at he2
  rw [show Tk.eq ⟨4, 0, op, dt⟩ ⟨3, 0, op, []⟩ = false from (by simp [Tk.eq])] at he3
  rw [show Tk.eq ⟨4, 0, op, dt⟩ ⟨4, 0, op, dt⟩ = true from (by simp [Tk.eq])] at he4
  simp only [Tk.val] at *
  go_enter Tryd.func17, Tryd.ntmps17
  go_wp2_with fail
  refine (HR.out _ (hM0.out _)).mono ?_
  rintro e w1 ⟨rfl, hb1⟩
  have d1 := later4 hb1
  have hs1 := hb1.size
  simp only [World.size_alloc] at hs1
  have HB1 : Hid (Below w.heap.size w w1) := ((Below.refl w.heap.size w).alloc (Nat.le_refl _) _).trans (hb1.mono (by simp))
  clear hb1
  have hq : (4096 : Int) < (dt.length : Int) := by omega
  go_wp2_with fail
  refine (Between_yes op 0 255 w1 (by omega) (by omega)).mono ?_
  rintro e w' ⟨rfl, rfl⟩
  go_wp2
  go_ret2
  exact ⟨rfl, HB1.out⟩

set_option maxHeartbeats 4000000 in
set_option maxRecDepth 100000 in
theorem TokText_sub (o : UInt8) (dt : List UInt8) (m : Int) (w : World) (hl : dt.length ≤ 4096) (hm : w.cell? ⟨0, 0, none⟩ = some (.int .i64 m)) :
    Calls Tryd.prog 17 #[(⟨4, 0, o.toNat, dt⟩ : Tk).val] w fun e w' => e = .returned (.tuple #[.string ⟨(255 :: 250 :: o :: (esc dt ++ [255, 240]) : List UInt8).toArray⟩, .int .i64 0]) ∧ Below w.heap.size w w' := by
  have h0 : 0 < w.heap.size := World.block_lt_of_cell? _ _ hm
  have HR : Hid (∀ W : World, W.cell? ⟨0, 0, none⟩ = some (.int .i64 m) → Calls Tryd.prog 32 #[.string ⟨dt.toArray⟩, .string ⟨#[255]⟩, .string ⟨#[255, 255]⟩] W fun e w' => e = .returned (.string ⟨(esc dt).toArray⟩) ∧ Below W.heap.size W w') := fun W hW => Replace_ff dt m W (by omega) hW
  have hM0 : Hid (∀ o, (w.alloc o).cell? ⟨0, 0, none⟩ = some (.int .i64 m)) := fun o => by
    rw [World.cell?_alloc_past (hn := by omega)]
    exact hm
  have he1 := fun W => Tk.run_eq ⟨4, 0, o.toNat, dt⟩ ⟨1, 0, 0, dt⟩ W
  have he2 := fun W => Tk.run_eq ⟨4, 0, o.toNat, dt⟩ ⟨2, 0, 0, []⟩ W
  have he3 := fun W => Tk.run_eq ⟨4, 0, o.toNat, dt⟩ ⟨3, 0, o.toNat, []⟩ W
  have he4 := fun W => Tk.run_eq ⟨4, 0, o.toNat, dt⟩ ⟨4, 0, o.toNat, dt⟩ W
  rw [show Tk.eq ⟨4, 0, o.toNat, dt⟩ ⟨1, 0, 0, dt⟩ = false from (by simp [Tk.eq])] at he1
  rw [show Tk.eq ⟨4, 0, o.toNat, dt⟩ ⟨2, 0, 0, []⟩ = false from (by simp [Tk.eq])] at he2
  rw [show Tk.eq ⟨4, 0, o.toNat, dt⟩ ⟨3, 0, o.toNat, []⟩ = false from (by simp [Tk.eq])] at he3
  rw [show Tk.eq ⟨4, 0, o.toNat, dt⟩ ⟨4, 0, o.toNat, dt⟩ = true from (by simp [Tk.eq])] at he4
  simp only [Tk.val] at *
  go_enter Tryd.func17, Tryd.ntmps17
  go_wp2_with fail
  refine (HR.out _ (hM0.out _)).mono ?_
  rintro e w1 ⟨rfl, hb1⟩
  have d1 := later4 hb1
  have hs1 := hb1.size
  simp only [World.size_alloc] at hs1
  have HB1 : Hid (Below w.heap.size w w1) := ((Below.refl w.heap.size w).alloc (Nat.le_refl _) _).trans (hb1.mono (by simp))
  clear hb1
  have hel := esc_length dt
  have hq : ¬ (4096 : Int) < (dt.length : Int) := by omega
  have h4 := o.toNat_lt
  have h5 : (0 : Int) ≤ (o.toNat : Int) := by omega
  have h6 : (o.toNat : Int) ≤ 255 := by omega
  clear h4
  have hbt := Bytes_any [255, 250, o] w1.heap.size 3 (w1.alloc (.cells #[.int .i64 255, .int .i64 250, .int .i64 (o.toNat : Int)] 3)) (by simp) ?hc (by simp)
  case hc =>
    intro k hk
    rw [World.cell?_alloc_at _ _ _ _ rfl]
    match k, hk with
    | 0, _ => rfl
    | 1, _ => rfl
    | 2, _ => rfl
  have HBT := Hid.mk' hbt
  clear hbt
  have HFIN : Hid ((⟨[255, 250, o].toArray⟩ ++ ⟨(esc dt).toArray⟩ ++ ⟨[255, 240].toArray⟩ : ByteArray) = ⟨(255 :: 250 :: o :: (esc dt ++ [255, 240])).toArray⟩) := by
    refine Hid.mk' ?_
    rw [bytes_glue, bytes_glue]
    simp
  have hz : (⟨[255, 250, o].toArray⟩ : ByteArray).size = 3 := rfl
  have hz2 : (⟨(esc dt).toArray⟩ : ByteArray).size = (esc dt).length := by simp [ByteArray.size]
  generalize (⟨[255, 250, o].toArray⟩ : ByteArray) = S at *
  generalize (⟨(esc dt).toArray⟩ : ByteArray) = S2 at *
  generalize (o.toNat : Int) = n at *
  go_wp2_with fail
  refine (Between_yes n 0 255 w1 (by omega) (by omega)).mono ?_
  rintro e w' ⟨rfl, rfl⟩
  go_wp2_with fail
  refine HBT.out.mono ?_
  rintro e w2 ⟨rfl, hbw2⟩
  have hs2 := hbw2.size
  simp only [World.size_alloc] at hs2
  have HB2 : Hid (Below w.heap.size w w2) := (HB1.out.alloc (by omega) _).trans (hbw2.mono (by simp; omega))
  clear hbw2
  have hbt := Bytes_any [255, 240] w2.heap.size 2 (w2.alloc (.cells #[.int .i64 255, .int .i64 240] 3)) (by simp) ?hc (by simp)
  case hc =>
    intro k hk
    rw [World.cell?_alloc_at _ _ _ _ rfl]
    match k, hk with
    | 0, _ => rfl
    | 1, _ => rfl
  have HBT2 := Hid.mk' hbt
  clear hbt
  have hz3 : (⟨[255, 240].toArray⟩ : ByteArray).size = 2 := rfl
  generalize (⟨[255, 240].toArray⟩ : ByteArray) = S3 at *
  go_wp2_with fail
  refine HBT2.out.mono ?_
  rintro e w3 ⟨rfl, hbw3⟩
  have HB3 : Hid (Below w.heap.size w w3) := (HB2.out.alloc (by omega) _).trans (hbw3.mono (by simp; omega))
  clear hbw3
  go_wp2
  go_ret2
  exact ⟨by rw [HFIN.out]; rfl, HB3.out⟩

theorem TokText_any (t : Tk) (m : Int) (w : World) (hl : t.data.length ≤ 2097152) (hm : w.cell? ⟨0, 0, none⟩ = some (.int .i64 m)) :
    Calls Tryd.prog 17 #[t.val] w fun e w' => e = .returned (.tuple #[.string ⟨(text t).1.toArray⟩, .int .i64 (text t).2]) ∧ Below w.heap.size w w' := by
  obtain ⟨kd, cm, op, dt⟩ := t
  simp only at hl
  by_cases h1 : kd = 1
  · subst h1
    by_cases h2 : cm = 0 ∧ op = 0
    · obtain ⟨rfl, rfl⟩ := h2
      have e : text ⟨1, 0, 0, dt⟩ = (esc dt, 0) := by simp [text, writable, Tk.eq]
      rw [e]
      exact TokText_data dt m w hl hm
    · have e : text ⟨1, cm, op, dt⟩ = ([], 1) := by simp [text, writable, Tk.eq]; omega
      rw [e]
      exact TokText_no0 1 cm op dt m w hl (by simp [Tk.eq]; omega) (by simp [Tk.eq]) (by simp [Tk.eq]) (by simp [Tk.eq]) hm
  by_cases h2 : kd = 2
  · subst h2
    by_cases h3 : op = 0 ∧ dt = []
    · obtain ⟨rfl, rfl⟩ := h3
      by_cases h4 : 240 ≤ cm ∧ cm ≤ 249
      · obtain ⟨b, rfl, hb⟩ := byte_of cm (by omega) (by omega)
        have e : text ⟨2, b.toNat, 0, []⟩ = ([255, b], 0) := by simp [text, writable, Tk.eq]; omega
        rw [e]
        exact TokText_cmd b m w (by omega) (by omega) hm
      · have e : text ⟨2, cm, 0, []⟩ = ([], 1) := by simp [text, writable, Tk.eq]; omega
        rw [e]
        exact TokText_cmdno cm m w h4 hm
    · by_cases h : op = 0
      · have hne : dt ≠ [] := fun e => h3 ⟨h, e⟩
        have e : text ⟨2, cm, op, dt⟩ = ([], 1) := by simp [text, writable, Tk.eq, hne]
        rw [e]
        exact TokText_no0 2 cm op dt m w hl (by simp [Tk.eq]) (by simp [Tk.eq, hne]) (by simp [Tk.eq]) (by simp [Tk.eq]) hm
      · have e : text ⟨2, cm, op, dt⟩ = ([], 1) := by simp [text, writable, Tk.eq, h]
        rw [e]
        exact TokText_no0 2 cm op dt m w hl (by simp [Tk.eq]) (by simp [Tk.eq, h]) (by simp [Tk.eq]) (by simp [Tk.eq]) hm
  by_cases h3 : kd = 3
  · subst h3
    by_cases h4 : dt = []
    · subst h4
      by_cases h5 : 251 ≤ cm ∧ cm ≤ 254
      · by_cases h6 : 0 ≤ op ∧ op ≤ 255
        · obtain ⟨b, rfl, hb⟩ := byte_of cm (by omega) (by omega)
          obtain ⟨o, rfl, ho⟩ := byte_of op (by omega) (by omega)
          have e : text ⟨3, b.toNat, o.toNat, []⟩ = ([255, b, o], 0) := by simp [text, writable, Tk.eq]; omega
          rw [e]
          exact TokText_neg b o m w (by omega) (by omega) hm
        · have e : text ⟨3, cm, op, []⟩ = ([], 1) := by simp [text, writable, Tk.eq]; omega
          rw [e]
          exact TokText_negno2 cm op m w h5.1 h5.2 h6 hm
      · have e : text ⟨3, cm, op, []⟩ = ([], 1) := by simp [text, writable, Tk.eq]; omega
        rw [e]
        exact TokText_negno1 cm op m w h5 hm
    · have e : text ⟨3, cm, op, dt⟩ = ([], 1) := by simp [text, writable, Tk.eq, h4]
      rw [e]
      exact TokText_no0 3 cm op dt m w hl (by simp [Tk.eq]) (by simp [Tk.eq]) (by simp [Tk.eq, h4]) (by simp [Tk.eq]) hm
  by_cases h4 : kd = 4
  · subst h4
    by_cases h5 : cm = 0
    · subst h5
      by_cases h6 : 0 ≤ op ∧ op ≤ 255
      · by_cases h7 : 4096 < dt.length
        · have e : text ⟨4, 0, op, dt⟩ = ([], 2) := by simp [text, writable, Tk.eq, h6, h7]
          rw [e]
          exact TokText_large op dt m w hl h6.1 h6.2 h7 hm
        · obtain ⟨o, rfl, ho⟩ := byte_of op (by omega) (by omega)
          have e : text ⟨4, 0, o.toNat, dt⟩ = (255 :: 250 :: o :: (esc dt ++ [255, 240]), 0) := by simp [text, writable, Tk.eq, h7]; omega
          rw [e]
          exact TokText_sub o dt m w (by omega) hm
      · have e : text ⟨4, 0, op, dt⟩ = ([], 1) := by simp [text, writable, Tk.eq]; omega
        rw [e]
        exact TokText_subno op dt m w hl h6 hm
    · have e : text ⟨4, cm, op, dt⟩ = ([], 1) := by simp [text, writable, Tk.eq, h5]
      rw [e]
      exact TokText_no0 4 cm op dt m w hl (by simp [Tk.eq]) (by simp [Tk.eq]) (by simp [Tk.eq]) (by simp [Tk.eq, h5]) hm
  have e : text ⟨kd, cm, op, dt⟩ = ([], 1) := by simp [text, writable, h1, h2, h3, h4]
  rw [e]
  exact TokText_no0 kd cm op dt m w hl (by simp [Tk.eq, h1]) (by simp [Tk.eq, h2]) (by simp [Tk.eq, h3]) (by simp [Tk.eq, h4]) hm
end Go.Proofs.YtmcoliblkkploaaDoor
