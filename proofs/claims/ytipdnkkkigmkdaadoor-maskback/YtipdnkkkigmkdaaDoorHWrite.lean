/-
  Contract of mask.Write; condition: four words of 64 bits.
-/
import Derived.Test.YtipdnkkkigmkdaaDoorHRev
import Derived.Deep.LoopGhost
import Derived.BigRegion
namespace Go.Proofs.YtipdnkkkigmkdaaDoor.H
open Go.RowKit Go.Lib Go.Proofs.YtipdnkkkigmkdaaDoor Go.Proofs.YtipdnkkkigmkdaaDoor.W Go.Proofs.YtipdnkkkigmkdaaDoor.Q

/-- how many of the first n bytes there are, those 0 at the end left out -/
def szN (s : List UInt8) : Nat → Nat
  | 0 => 0
  | n + 1 => if s.getD n 0 = 0 then szN s n else n + 1
theorem szN_le (s : List UInt8) : ∀ n, szN s n ≤ n
  | 0 => Nat.le_refl _
  | n + 1 => by
    unfold szN
    split
    · have := szN_le s n; omega
    · exact Nat.le_refl _
theorem szN_out (s : List UInt8) : ∀ n j, szN s n ≤ j → j < n → s.getD j 0 = 0
  | 0, _, _, h => absurd h (Nat.not_lt_zero _)
  | n + 1, j, h1, h2 => by
    unfold szN at h1
    split at h1
    · rename_i h
      by_cases e : j = n
      · rw [e]; exact h
      · exact szN_out s n j h1 (by omega)
    · omega
theorem szN_at (s : List UInt8) : ∀ n, 0 < szN s n → s.getD (szN s n - 1) 0 ≠ 0
  | 0, h => absurd h (Nat.lt_irrefl _)
  | n + 1, h => by
    unfold szN at h ⊢
    split
    · rename_i h2
      rw [if_pos h2] at h
      exact szN_at s n h
    · rename_i h2
      exact h2
theorem getD_some {s : List UInt8} {j : Nat} {b : UInt8} (h : s[j]? = some b) : s.getD j 0 = b := by rw [List.getD_eq_getElem?_getD, h]; rfl
theorem trim_sz (s : List UInt8) : trimRightB s 0 = s.take (szN s s.length) :=
  trimRightB_take s 0 _ (szN_le _ _) (fun j b h1 h2 => by
    have hj : j < s.length := (List.getElem?_eq_some_iff.1 h2).1
    rw [← getD_some h2]; exact szN_out s _ j h1 hj) (fun b h1 h2 => by rw [← getD_some h2]; exact szN_at s _ h1)
theorem szN_succ (s : List UInt8) (n : Nat) : szN s (n + 1) = if s.getD n 0 = 0 then szN s n else n + 1 := rfl

/-- the front of a row of bytes made a string -/
theorem run_str2 {w : World} {b : Nat} {t : TypeId} {a : List UInt8} (n c : Nat) (hn : n ≤ a.length) (h : Box w b t (bcells a)) :
    (convert 39 9 (.slice (some ⟨b, 0, none⟩) n c)).run Tryd.prog w = .ok (.string (bs (a.take n))) w := by
  rw [run_convert_bytes_string _ _ _ _ _ _ _ Tryd.underlying39 Tryd.underlying5 Tryd.underlying9]
  have hl := run_loadCells_list (P := Tryd.prog) w ⟨b, 0, none⟩ (bcells (a.take n)) (fun j u hu => by
    rw [Addr.add_mid, Nat.zero_add]
    refine h.cell ?_
    unfold bcells at hu ⊢
    rw [List.map_take, List.getElem?_take] at hu
    split at hu
    · exact hu
    · cases hu)
  have e : (bcells (a.take n)).length = n := by rw [bcells_length, List.length_take]; omega
  rw [e] at hl
  have e2 : bcells (a.take n) = ((a.take n).map fun b => ((b.toNat : Nat) : Int)).map (Value.int .u8) := by unfold bcells; rw [List.map_map]; rfl
  rw [e2] at hl
  rw [run_bytesToString _ _ _ _ _ hl, fold_push]
  rfl

def zero32 : List UInt8 := List.replicate 32 0
theorem infoR : (Tryd.prog.info? 38).map (fun i => (i.zero, i.size)) = some (some (.agg (bcells zero32).toArray), 32) := by kernel_rfl
theorem zeroR : ∀ w, (zeroValue 38).run Tryd.prog w = .ok (.agg (bcells zero32).toArray) w := (zero_of infoR).1

def TS (w w1 : World) (M : List Nat) (g : Nat) (s4 s6 : Value) (wr : World) : Prop :=
  ∃ (n : Nat), n ≤ 32 ∧ 32 - n ≤ g ∧ s6 = .int .i64 (n : Int) ∧ s4 = .int .i64 ((szN (rowOf M) n : Nat) : Int) ∧ Hid (Box wr w.heap.size 25 (ucells M)) ∧ Hid (∃ a : List UInt8, a.length = 32 ∧ a.take n = (rowOf M).take n ∧ Box wr w1.heap.size 38 (bcells a)) ∧ Hid (Below w.heap.size w wr)

set_option maxHeartbeats 4000000 in
set_option maxRecDepth 100000 in
theorem Write_any (M : List Nat) (hM : okW M) (w : World) :
    Calls Tryd.prog 7 #[MV M] w fun e w' => e = .returned (.string (bs (textOf M))) ∧ Below w.heap.size w w' := by
  have HS := Hid.mk' (sizeMV hM)
  have HV := Hid.mk' Reverse8_any
  have HST : Hid (∀ w1 wr : World, Box wr w.heap.size 25 (ucells M) → Box wr w1.heap.size 38 (bcells zero32) → Below w.heap.size w wr → TS w w1 M 32 (.int .i64 0) (.int .i64 0) wr) := fun w1 wr h1 h2 h3 => ⟨0, Nat.zero_le _, by omega, rfl, rfl, h1, ⟨zero32, rfl, rfl, h2⟩, h3⟩
  unfold MV at *
  go_enter Tryd.func7, Tryd.ntmps7
  go_wp2_with (refine wpList_box (ucells M) 25 rfl _ rfl rfl ?_)
  intro w1 m1
  have z1 := m1.lt
  go_wp2_with (refine wpList_alloc (bcells zero32) 38 zeroR rfl rfl ?_)
  intro w2 m2
  have z2 := m2.lt
  have HST2 := Hid.mk' (HST.out w1 w2 (m2.keep m1.box) m2.box (m2.below _ _ (by omega) (m1.below _ _ (Nat.le_refl _) (Below.refl _ w))))
  clear m1 m2 HST
  go_wp2_with fail
  go_loopg [4, 6] 32 (fun g s4 s6 wr => TS w w1 M g s4 s6 wr)
  case atStart => exact HST2.out
  case round =>
    obtain ⟨n, hn, hg, rfl, rfl, HB, HA, HBL⟩ := hrel
    clear HST2
    have HG := Hid.mk' hg
    clear hg
    by_cases hlt : n < 32
    · have hc := HB.out.cell (ucells_get M (n / 8) (by rw [hM.1]; omega))
      have hx := hM.get (n / 8)
      have HW : Hid (wbyte M n = rev8 (M.getD (n / 8) 0 / 2 ^ (n % 8 * 8) % 256)) := rfl
      generalize M.getD (n / 8) 0 = x at *
      have q1 : ((n : Int) % 8 * 8).toNat = n % 8 * 8 := by omega
      have q2 : min (n % 8 * 8) 64 = n % 8 * 8 := by omega
      have HV1 : Hid (Calls Tryd.prog 15 #[.int .u8 ((x : Int) / 2 ^ (n % 8 * 8) % 256)] wr fun e w' => e = .returned (.int .u8 ((wbyte M n : Nat) : Int)) ∧ w' = wr) := by
        have h := HV.out (x / 2 ^ (n % 8 * 8) % 256) (Nat.mod_lt _ (by omega)) wr
        rw [← HW.out, Int.natCast_emod, ← cast_div] at h
        exact h
      have hy := wbyte_lt M n
      have HRN := Hid.mk' (rowOf_nat M n hlt)
      have HSZ := Hid.mk' (szN_succ (rowOf M) n)
      have HK := szN_le (rowOf M) n
      generalize hk : szN (rowOf M) n = k at *
      clear hk
      obtain ⟨a, ha, HAT, hab⟩ := HA.out
      obtain ⟨v0, hv0⟩ : ∃ v, (bcells a)[n]? = some v := ⟨_, List.getElem?_eq_getElem (by rw [bcells_length]; omega)⟩
      have hd := hab.cell hv0
      have hf := hab.frozen n
      have HSB := Hid.mk' (hab.setCell n (.int .u8 ((wbyte M n : Nat) : Int)))
      have HS1 : Hid ((bcells a).set n (.int .u8 ((wbyte M n : Nat) : Int)) = bcells (a.set n (UInt8.ofNat (wbyte M n)))) := by
        unfold Hid bcells
        rw [List.map_set, UInt8.toNat_ofNat', show wbyte M n % 2 ^ 8 = wbyte M n by omega]
      have HS2 : Hid ((a.set n (UInt8.ofNat (wbyte M n))).take (n + 1) = (rowOf M).take (n + 1)) := by
        unfold Hid
        have e2 : (rowOf M)[n]? = some (UInt8.ofNat (wbyte M n)) := by
          unfold rowOf
          rw [List.getElem?_map, List.getElem?_range hlt]; rfl
        rw [List.take_add_one, List.take_add_one, e2, List.getElem?_set_self (by omega), ← HAT]
        congr 1
        apply List.ext_getElem?
        intro i
        by_cases hi : i < n
        · rw [List.getElem?_take_of_lt hi, List.getElem?_take_of_lt hi, List.getElem?_set_ne (by omega)]
        · rw [List.getElem?_eq_none (by rw [List.length_take]; omega), List.getElem?_eq_none (by rw [List.length_take]; omega)]
      have FB0 : Hid (Box (wr.setCell ⟨w1.heap.size, n, none⟩ (.int .u8 ((wbyte M n : Nat) : Int))) w.heap.size 25 (ucells M)) := HB.out.kept (setCell_other _ _ _ _ (by omega))
      have FA : Hid (∃ a : List UInt8, a.length = 32 ∧ a.take (n + 1) = (rowOf M).take (n + 1) ∧ Box (wr.setCell ⟨w1.heap.size, n, none⟩ (.int .u8 ((wbyte M n : Nat) : Int))) w1.heap.size 38 (bcells a)) := ⟨_, by rw [List.length_set]; exact ha, HS2.out, by rw [← HS1.out]; exact HSB.out⟩
      have FB : Hid (Below w.heap.size w (wr.setCell ⟨w1.heap.size, n, none⟩ (.int .u8 ((wbyte M n : Nat) : Int)))) := HBL.out.setCell (p := ⟨w1.heap.size, n, none⟩) (by show w.heap.size ≤ w1.heap.size; omega) _
      have HZ0 : Hid (wbyte M n = 0 → szN (rowOf M) (n + 1) = k) := fun h => by
        rw [HSZ.out, if_pos]
        apply UInt8.toNat_inj.1
        rw [HRN.out, h]; rfl
      have HZ1 : Hid (wbyte M n ≠ 0 → szN (rowOf M) (n + 1) = n + 1) := fun h => by
        rw [HSZ.out, if_neg]
        intro e
        apply h
        rw [← HRN.out, e]; rfl
      clear HAT hab HA HB HBL HSB HS1 HS2 HRN HSZ HW HV hv0
      generalize wbyte M n = y at *
      go_wp2_with fail
      refine HV1.out.mono ?_
      rintro e w3 ⟨rfl, rfl⟩
      by_cases h0 : y = 0
      · have HQ := Hid.mk' (HZ0.out h0)
        subst h0
        clear HZ0 HZ1 HV1
        go_wp2
        go_roundg (32 - (n + 1))
        case measure => have := HG.out; omega
        case rel => exact ⟨n + 1, by omega, Nat.le_refl _, by go_num, by rw [HQ.out], FB0, FA, FB⟩
      · have HQ := Hid.mk' (HZ1.out h0)
        have h0' : ¬ (y : Int) = 0 := by omega
        clear HZ0 HZ1 HV1 h0
        go_wp2
        go_roundg (32 - (n + 1))
        case measure => have := HG.out; omega
        case rel => exact ⟨n + 1, by omega, Nat.le_refl _, by go_num, by rw [HQ.out]; go_num, FB0, FA, FB⟩
    · obtain rfl : n = 32 := by omega
      obtain ⟨a, ha, HAT, hab⟩ := HA.out
      have hr : a = rowOf M := by
        rw [List.take_of_length_le (by omega), List.take_of_length_le (by rw [rowOf_len]; omega)] at HAT
        exact HAT
      subst hr
      have HT : Hid (bs (textOf M) = bs ((rowOf M).take (szN (rowOf M) 32))) := by
        unfold Hid textOf
        rw [trim_sz, rowOf_len]
      have hk := szN_le (rowOf M) 32
      have hcv : ∀ c, (convert 39 9 (.slice (some ⟨w1.heap.size, 0, none⟩) (szN (rowOf M) 32) c)).run Tryd.prog wr = .ok (.string (bs ((rowOf M).take (szN (rowOf M) 32)))) wr := fun c => run_str2 _ c (by rw [rowOf_len]; exact hk) hab
      generalize szN (rowOf M) 32 = k at *
      generalize bs ((rowOf M).take k) = R at *
      have hsl : (Instr.sliceAt 38 (.pointer (some ⟨w1.heap.size, 0, none⟩)) none (some (.int .i64 (k : Int))) none).run Tryd.prog wr = .ok (.slice (some ⟨w1.heap.size, 0, none⟩) k 32) wr := by
        have hal : Tryd.prog.arrayLen 38 = 32 := by kernel_rfl
        rw [run_sliceAt_array_h wr 38 ⟨w1.heap.size, 0, none⟩ (by kernel_rfl) .i64 (k : Int) (by omega) (by rw [hal]; omega), hal]
        have hel : Tryd.prog.elem 38 = 5 := by kernel_rfl
        obtain ⟨i0, hi, _, hz1, _⟩ := info_parts infoByte
        rw [hel]
        simp [sizeOf, typeInfo, hi, slicedAt, Addr.add]
      clear HA HAT hab
      go_wp2
      go_ret
      exact ⟨by rw [HT.out]; rfl, HBL.out⟩
end Go.Proofs.YtipdnkkkigmkdaaDoor.H
