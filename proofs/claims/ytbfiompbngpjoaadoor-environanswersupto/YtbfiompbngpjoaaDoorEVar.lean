/-
  Contract of environ.appendVar; condition: at most 10000000000 bytes.
-/
import Derived.Test.YtbfiompbngpjoaaDoorEWord
import Derived.Deep.RegionHeld3
namespace Go.Proofs.YtbfiompbngpjoaaDoor.E
open Go.RowKit Go.Lib Go.Proofs.YtbfiompbngpjoaaDoor Go.Proofs.YtbfiompbngpjoaaDoor.W Go.Proofs.YtbfiompbngpjoaaDoor.Q Go.Proofs.YtbfiompbngpjoaaDoor.C

def Grow (base : Nat) (W w' : World) : Prop := ∀ B X, B ≤ base → Below B X W → Below B X w'
theorem Grow.size {base : Nat} {W w' : World} (h : Grow base W w') : W.heap.size ≤ w'.heap.size := (h base W (Nat.le_refl _) (Below.refl _ _)).size
theorem Grow.trans {base : Nat} {a b c : World} (h : Grow base a b) (k : Grow base b c) : Grow base a c := fun B X h1 h2 => k B X h1 (h B X h1 h2)
theorem Grow.alloc {base : Nat} (w : World) (h : base ≤ w.heap.size) (o : Obj) : Grow base w (w.alloc o) := fun _ _ h1 h2 => h2.alloc (by omega) _
theorem Grow.drew {base : Nat} (w : World) : Grow base w w.drew := fun _ _ _ h2 => h2.drew
theorem KeepV.drew {a b : World} (h : KeepV a b) : KeepV a b.drew := h
theorem own_drew {w : World} {base : Nat} {v : Value} {l : List UInt8} (h : OwnB w base v l) : OwnB w.drew base v l := h

set_option maxHeartbeats 8000000 in
set_option maxRecDepth 100000 in
theorem appendVar_true_true (w : World) (base : Nat) (v : Value) (l n y : List UInt8) (hv : OwnB w base v l) (hb : base ≤ w.heap.size) (hn : l.length ≤ 10000000000) (hn1 : n.length ≤ 1000000000)
    (HA1 : Hid (∀ W v l, OwnB W base v l → base ≤ W.heap.size → l.length ≤ 10000000001 → Calls Tryd.prog 23 #[v, .string (bs n)] W fun e w' => ∃ v', e = .returned v' ∧ OwnB w' base v' (l ++ esc n) ∧ (∀ B X, B ≤ base → Below B X W → Below B X w') ∧ KeepV W w'))
    (HA2 : Hid (∀ W v l, OwnB W base v l → base ≤ W.heap.size → l.length ≤ 13000000001 → Calls Tryd.prog 23 #[v, .string (bs y)] W fun e w' => ∃ v', e = .returned v' ∧ OwnB w' base v' (l ++ esc y) ∧ (∀ B X, B ≤ base → Below B X W → Below B X w') ∧ KeepV W w')) :
    Calls Tryd.prog 15 #[v, .agg #[.string (bs n), .string (bs y), .bool true, .bool true]] w fun e w' => ∃ v', e = .returned v' ∧ OwnB w' base v' (l ++ Vr.text ⟨n, y, true, true⟩) ∧ Grow base w w' := by
  have hel := esc_len n
  have HT : Hid (l ++ Vr.text ⟨n, y, true, true⟩ = l ++ [3] ++ esc n ++ [1] ++ esc y) := Hid.mk' (by simp [Vr.text, valText, markOf])
  have HV := Hid.mk' hv
  rw [HT.out]
  clear hv HT
  generalize bs n = N at *
  generalize bs y = Y at *
  go_enter Tryd.func15, Tryd.ntmps15
  go_wp2_with (refine wpList_box [.string N, .string Y, .bool true, .bool true] 30 rfl _ rfl rfl ?_)
  intro w1 m1
  have hlt1 := m1.lt
  have HB1 := Hid.mk' m1.box
  have HG1 : Hid (Grow base w w1) := fun B X h1 h2 => m1.below B X (by omega) h2
  have HV1 : Hid (OwnB w1 base v l) := HV.out.below (m1.below _ _ (Nat.le_refl _) (Below.refl _ _))
  have k2 := HB1.out.cell (j := 2) rfl
  clear m1 HV
  have HW1 : Hid (#[.int .u8 3] = (bcells [3]).toArray) := Hid.mk' rfl
  have HOA1 : Hid (OwnB ((w1.alloc (.cells #[.int .u8 3] 5)).drew) base v l) := own_drew (HV1.out.below ((Below.refl _ _).alloc (Nat.le_refl _) _))
  have HGA1 : Hid (((w1.alloc (.cells #[.int .u8 3] 5)).drew).heap[w1.heap.size]? = some (.cells #[.int .u8 3] 5 (0, 0))) := (MapKept.heap_alloc w1 _).1
  have HBA1 : Hid (base ≤ ((w1.alloc (.cells #[.int .u8 3] 5)).drew).heap.size) := by
    have e : ((w1.alloc (.cells #[.int .u8 3] 5)).drew).heap.size = w1.heap.size + 1 := World.size_alloc _ _
    show base ≤ _
    rw [e]; omega
  have HKD1 : Hid (KeepV w1 w1.drew) := (KeepV.refl _).drew
  have HKA1 : Hid (KeepV w1 ((w1.alloc (.cells #[.int .u8 3] 5)).drew)) := ((KeepV.refl _).alloc _).drew
  have HGR1 : Hid (Grow base w1 ((w1.alloc (.cells #[.int .u8 3] 5)).drew)) := (Grow.alloc w1 (by omega) _).trans (Grow.drew _)
  have hc1 : ∀ w', KeepV w1 w' → w'.cell? ⟨w.heap.size, 0, none⟩ = some (.string N) := fun w' h => (h.box HB1.out).cell rfl
  go_wp2_with fail
  go_region_held3 (fun w' => KeepV w1 w') (first | with_reducible assumption | with_reducible exact HKD1.out | with_reducible exact HKA1.out | with_reducible exact KeepV.trans HKA1.out hkl | with_reducible exact KeepV.trans (KeepV.trans HKA1.out hkl) hkc) (first | (refine step_append_b _ (by rfl) _ _ (by rfl) base _ l [3] (by rfl) HOA1.out w1.heap.size _ HW1.out HGA1.out _ _ (by rfl) (by rfl) (by simp) HBA1.out (by first | omega | (simp; omega)) ?_; intro va la wa el ho hbl hkl) | (go_at_call 23; refine (HA1.out _ _ _ ho (Nat.le_trans HBA1.out (Grow.size hbl)) (by rw [el.out, List.length_append]; simp; omega)).mono ?_; rintro e wc ⟨vc, rfl, hoc, hbc, hkc⟩))
  have hl2 : (la ++ esc n).length ≤ 12000000001 := by
    rw [el.out, List.length_append, List.length_append]
    simp only [List.length_cons, List.length_nil]
    omega
  have HE2 : Hid (la ++ esc n = l ++ [3] ++ esc n) := Hid.mk' (by rw [el.out])
  have HV2 := Hid.mk' hoc
  have hkc2 : KeepV w1 wc := KeepV.trans (KeepV.trans HKA1.out hkl) hkc
  have HB2 := Hid.mk' (hkc2.box HB1.out)
  have HG2 : Hid (Grow base w wc) := HG1.out.trans (HGR1.out.trans (Grow.trans hbl hbc))
  have k3 := HB2.out.cell (j := 3) rfl
  have hsz2 : base ≤ wc.heap.size := by have := HG2.out.size; omega
  generalize la ++ esc n = l2 at *
  clear el ho hbl hkl hoc hbc hkc hkc2 HW1 HOA1 HGA1 HBA1 HKD1 HKA1 HGR1 hc1 HV1 HG1 HB1 HA1 k2
  clear la
  have HW2 : Hid (#[.int .u8 1] = (bcells [1]).toArray) := Hid.mk' rfl
  have HOA2 : Hid (OwnB ((wc.alloc (.cells #[.int .u8 1] 5)).drew) base vc l2) := own_drew (HV2.out.below ((Below.refl _ _).alloc (Nat.le_refl _) _))
  have HGA2 : Hid (((wc.alloc (.cells #[.int .u8 1] 5)).drew).heap[wc.heap.size]? = some (.cells #[.int .u8 1] 5 (0, 0))) := (MapKept.heap_alloc wc _).1
  have HBA2 : Hid (base ≤ ((wc.alloc (.cells #[.int .u8 1] 5)).drew).heap.size) := by
    have e : ((wc.alloc (.cells #[.int .u8 1] 5)).drew).heap.size = wc.heap.size + 1 := World.size_alloc _ _
    show base ≤ _
    rw [e]; omega
  have HKD2 : Hid (KeepV wc wc.drew) := (KeepV.refl _).drew
  have HKA2 : Hid (KeepV wc ((wc.alloc (.cells #[.int .u8 1] 5)).drew)) := ((KeepV.refl _).alloc _).drew
  have HGR2 : Hid (Grow base wc ((wc.alloc (.cells #[.int .u8 1] 5)).drew)) := (Grow.alloc wc (by omega) _).trans (Grow.drew _)
  have hc2 : ∀ w', KeepV wc w' → w'.cell? ⟨w.heap.size, 1, none⟩ = some (.string Y) := fun w' h => (h.box HB2.out).cell rfl
  go_wp2_with fail
  go_region_held3 (fun w' => KeepV wc w') (first | with_reducible assumption | with_reducible exact HKD2.out | with_reducible exact HKA2.out | with_reducible exact KeepV.trans HKA2.out hkl | with_reducible exact KeepV.trans (KeepV.trans HKA2.out hkl) hkc) (first | (refine step_append_b _ (by rfl) _ _ (by rfl) base _ l2 [1] (by rfl) HOA2.out wc.heap.size _ HW2.out HGA2.out _ _ (by rfl) (by rfl) (by simp) HBA2.out (by first | omega | (simp; omega)) ?_; intro vd la wa el ho hbl hkl) | (go_at_call 23; refine (HA2.out _ _ _ ho (Nat.le_trans HBA2.out (Grow.size hbl)) (by rw [el.out, List.length_append]; simp; omega)).mono ?_; rintro e wd ⟨ve, rfl, hoc, hbc, hkc⟩))
  have HV3 : Hid (OwnB wd base ve (l ++ [3] ++ esc n ++ [1] ++ esc y)) := by
    have := hoc
    rw [el.out, HE2.out] at this
    exact this
  have HG3 : Hid (Grow base w wd) := HG2.out.trans (HGR2.out.trans (Grow.trans hbl hbc))
  clear el ho hbl hkl hoc hbc hkc HW2 HOA2 HGA2 HBA2 HKD2 HKA2 HGR2 hc2 HV2 HG2 HB2 HA2 k3 HE2
  go_wp2
  go_ret
  exact ⟨_, rfl, HV3.out, HG3.out⟩

set_option maxHeartbeats 8000000 in
set_option maxRecDepth 100000 in
theorem appendVar_true_false (w : World) (base : Nat) (v : Value) (l n y : List UInt8) (hv : OwnB w base v l) (hb : base ≤ w.heap.size) (hn : l.length ≤ 10000000000) (hn1 : n.length ≤ 1000000000)
    (HA1 : Hid (∀ W v l, OwnB W base v l → base ≤ W.heap.size → l.length ≤ 10000000001 → Calls Tryd.prog 23 #[v, .string (bs n)] W fun e w' => ∃ v', e = .returned v' ∧ OwnB w' base v' (l ++ esc n) ∧ (∀ B X, B ≤ base → Below B X W → Below B X w') ∧ KeepV W w'))
    (_HA2 : Hid (∀ W v l, OwnB W base v l → base ≤ W.heap.size → l.length ≤ 13000000001 → Calls Tryd.prog 23 #[v, .string (bs y)] W fun e w' => ∃ v', e = .returned v' ∧ OwnB w' base v' (l ++ esc y) ∧ (∀ B X, B ≤ base → Below B X W → Below B X w') ∧ KeepV W w')) :
    Calls Tryd.prog 15 #[v, .agg #[.string (bs n), .string (bs y), .bool true, .bool false]] w fun e w' => ∃ v', e = .returned v' ∧ OwnB w' base v' (l ++ Vr.text ⟨n, y, true, false⟩) ∧ Grow base w w' := by
  have hel := esc_len n
  have HT : Hid (l ++ Vr.text ⟨n, y, true, false⟩ = l ++ [3] ++ esc n) := Hid.mk' (by simp [Vr.text, valText, markOf])
  have HV := Hid.mk' hv
  rw [HT.out]
  clear hv HT
  generalize bs n = N at *
  generalize bs y = Y at *
  go_enter Tryd.func15, Tryd.ntmps15
  go_wp2_with (refine wpList_box [.string N, .string Y, .bool true, .bool false] 30 rfl _ rfl rfl ?_)
  intro w1 m1
  have hlt1 := m1.lt
  have HB1 := Hid.mk' m1.box
  have HG1 : Hid (Grow base w w1) := fun B X h1 h2 => m1.below B X (by omega) h2
  have HV1 : Hid (OwnB w1 base v l) := HV.out.below (m1.below _ _ (Nat.le_refl _) (Below.refl _ _))
  have k2 := HB1.out.cell (j := 2) rfl
  clear m1 HV
  have HW1 : Hid (#[.int .u8 3] = (bcells [3]).toArray) := Hid.mk' rfl
  have HOA1 : Hid (OwnB ((w1.alloc (.cells #[.int .u8 3] 5)).drew) base v l) := own_drew (HV1.out.below ((Below.refl _ _).alloc (Nat.le_refl _) _))
  have HGA1 : Hid (((w1.alloc (.cells #[.int .u8 3] 5)).drew).heap[w1.heap.size]? = some (.cells #[.int .u8 3] 5 (0, 0))) := (MapKept.heap_alloc w1 _).1
  have HBA1 : Hid (base ≤ ((w1.alloc (.cells #[.int .u8 3] 5)).drew).heap.size) := by
    have e : ((w1.alloc (.cells #[.int .u8 3] 5)).drew).heap.size = w1.heap.size + 1 := World.size_alloc _ _
    show base ≤ _
    rw [e]; omega
  have HKD1 : Hid (KeepV w1 w1.drew) := (KeepV.refl _).drew
  have HKA1 : Hid (KeepV w1 ((w1.alloc (.cells #[.int .u8 3] 5)).drew)) := ((KeepV.refl _).alloc _).drew
  have HGR1 : Hid (Grow base w1 ((w1.alloc (.cells #[.int .u8 3] 5)).drew)) := (Grow.alloc w1 (by omega) _).trans (Grow.drew _)
  have hc1 : ∀ w', KeepV w1 w' → w'.cell? ⟨w.heap.size, 0, none⟩ = some (.string N) := fun w' h => (h.box HB1.out).cell rfl
  go_wp2_with fail
  go_region_held3 (fun w' => KeepV w1 w') (first | with_reducible assumption | with_reducible exact HKD1.out | with_reducible exact HKA1.out | with_reducible exact KeepV.trans HKA1.out hkl | with_reducible exact KeepV.trans (KeepV.trans HKA1.out hkl) hkc) (first | (refine step_append_b _ (by rfl) _ _ (by rfl) base _ l [3] (by rfl) HOA1.out w1.heap.size _ HW1.out HGA1.out _ _ (by rfl) (by rfl) (by simp) HBA1.out (by first | omega | (simp; omega)) ?_; intro va la wa el ho hbl hkl) | (go_at_call 23; refine (HA1.out _ _ _ ho (Nat.le_trans HBA1.out (Grow.size hbl)) (by rw [el.out, List.length_append]; simp; omega)).mono ?_; rintro e wc ⟨vc, rfl, hoc, hbc, hkc⟩))
  have hl2 : (la ++ esc n).length ≤ 12000000001 := by
    rw [el.out, List.length_append, List.length_append]
    simp only [List.length_cons, List.length_nil]
    omega
  have HE2 : Hid (la ++ esc n = l ++ [3] ++ esc n) := Hid.mk' (by rw [el.out])
  have HV2 := Hid.mk' hoc
  have hkc2 : KeepV w1 wc := KeepV.trans (KeepV.trans HKA1.out hkl) hkc
  have HB2 := Hid.mk' (hkc2.box HB1.out)
  have HG2 : Hid (Grow base w wc) := HG1.out.trans (HGR1.out.trans (Grow.trans hbl hbc))
  have k3 := HB2.out.cell (j := 3) rfl
  have hsz2 : base ≤ wc.heap.size := by have := HG2.out.size; omega
  generalize la ++ esc n = l2 at *
  clear el ho hbl hkl hoc hbc hkc hkc2 HW1 HOA1 HGA1 HBA1 HKD1 HKA1 HGR1 hc1 HV1 HG1 HB1 HA1 k2
  clear la
  go_wp2
  go_ret
  exact ⟨_, rfl, by rw [← HE2.out]; exact HV2.out, HG2.out⟩

set_option maxHeartbeats 8000000 in
set_option maxRecDepth 100000 in
theorem appendVar_false_true (w : World) (base : Nat) (v : Value) (l n y : List UInt8) (hv : OwnB w base v l) (hb : base ≤ w.heap.size) (hn : l.length ≤ 10000000000) (hn1 : n.length ≤ 1000000000)
    (HA1 : Hid (∀ W v l, OwnB W base v l → base ≤ W.heap.size → l.length ≤ 10000000001 → Calls Tryd.prog 23 #[v, .string (bs n)] W fun e w' => ∃ v', e = .returned v' ∧ OwnB w' base v' (l ++ esc n) ∧ (∀ B X, B ≤ base → Below B X W → Below B X w') ∧ KeepV W w'))
    (HA2 : Hid (∀ W v l, OwnB W base v l → base ≤ W.heap.size → l.length ≤ 13000000001 → Calls Tryd.prog 23 #[v, .string (bs y)] W fun e w' => ∃ v', e = .returned v' ∧ OwnB w' base v' (l ++ esc y) ∧ (∀ B X, B ≤ base → Below B X W → Below B X w') ∧ KeepV W w')) :
    Calls Tryd.prog 15 #[v, .agg #[.string (bs n), .string (bs y), .bool false, .bool true]] w fun e w' => ∃ v', e = .returned v' ∧ OwnB w' base v' (l ++ Vr.text ⟨n, y, false, true⟩) ∧ Grow base w w' := by
  have hel := esc_len n
  have HT : Hid (l ++ Vr.text ⟨n, y, false, true⟩ = l ++ [0] ++ esc n ++ [1] ++ esc y) := Hid.mk' (by simp [Vr.text, valText, markOf])
  have HV := Hid.mk' hv
  rw [HT.out]
  clear hv HT
  generalize bs n = N at *
  generalize bs y = Y at *
  go_enter Tryd.func15, Tryd.ntmps15
  go_wp2_with (refine wpList_box [.string N, .string Y, .bool false, .bool true] 30 rfl _ rfl rfl ?_)
  intro w1 m1
  have hlt1 := m1.lt
  have HB1 := Hid.mk' m1.box
  have HG1 : Hid (Grow base w w1) := fun B X h1 h2 => m1.below B X (by omega) h2
  have HV1 : Hid (OwnB w1 base v l) := HV.out.below (m1.below _ _ (Nat.le_refl _) (Below.refl _ _))
  have k2 := HB1.out.cell (j := 2) rfl
  clear m1 HV
  have HW1 : Hid (#[.int .u8 0] = (bcells [0]).toArray) := Hid.mk' rfl
  have HOA1 : Hid (OwnB ((w1.alloc (.cells #[.int .u8 0] 5)).drew) base v l) := own_drew (HV1.out.below ((Below.refl _ _).alloc (Nat.le_refl _) _))
  have HGA1 : Hid (((w1.alloc (.cells #[.int .u8 0] 5)).drew).heap[w1.heap.size]? = some (.cells #[.int .u8 0] 5 (0, 0))) := (MapKept.heap_alloc w1 _).1
  have HBA1 : Hid (base ≤ ((w1.alloc (.cells #[.int .u8 0] 5)).drew).heap.size) := by
    have e : ((w1.alloc (.cells #[.int .u8 0] 5)).drew).heap.size = w1.heap.size + 1 := World.size_alloc _ _
    show base ≤ _
    rw [e]; omega
  have HKD1 : Hid (KeepV w1 w1.drew) := (KeepV.refl _).drew
  have HKA1 : Hid (KeepV w1 ((w1.alloc (.cells #[.int .u8 0] 5)).drew)) := ((KeepV.refl _).alloc _).drew
  have HGR1 : Hid (Grow base w1 ((w1.alloc (.cells #[.int .u8 0] 5)).drew)) := (Grow.alloc w1 (by omega) _).trans (Grow.drew _)
  have hc1 : ∀ w', KeepV w1 w' → w'.cell? ⟨w.heap.size, 0, none⟩ = some (.string N) := fun w' h => (h.box HB1.out).cell rfl
  go_wp2_with fail
  go_region_held3 (fun w' => KeepV w1 w') (first | with_reducible assumption | with_reducible exact HKD1.out | with_reducible exact HKA1.out | with_reducible exact KeepV.trans HKA1.out hkl | with_reducible exact KeepV.trans (KeepV.trans HKA1.out hkl) hkc) (first | (refine step_append_b _ (by rfl) _ _ (by rfl) base _ l [0] (by rfl) HOA1.out w1.heap.size _ HW1.out HGA1.out _ _ (by rfl) (by rfl) (by simp) HBA1.out (by first | omega | (simp; omega)) ?_; intro va la wa el ho hbl hkl) | (go_at_call 23; refine (HA1.out _ _ _ ho (Nat.le_trans HBA1.out (Grow.size hbl)) (by rw [el.out, List.length_append]; simp; omega)).mono ?_; rintro e wc ⟨vc, rfl, hoc, hbc, hkc⟩))
  have hl2 : (la ++ esc n).length ≤ 12000000001 := by
    rw [el.out, List.length_append, List.length_append]
    simp only [List.length_cons, List.length_nil]
    omega
  have HE2 : Hid (la ++ esc n = l ++ [0] ++ esc n) := Hid.mk' (by rw [el.out])
  have HV2 := Hid.mk' hoc
  have hkc2 : KeepV w1 wc := KeepV.trans (KeepV.trans HKA1.out hkl) hkc
  have HB2 := Hid.mk' (hkc2.box HB1.out)
  have HG2 : Hid (Grow base w wc) := HG1.out.trans (HGR1.out.trans (Grow.trans hbl hbc))
  have k3 := HB2.out.cell (j := 3) rfl
  have hsz2 : base ≤ wc.heap.size := by have := HG2.out.size; omega
  generalize la ++ esc n = l2 at *
  clear el ho hbl hkl hoc hbc hkc hkc2 HW1 HOA1 HGA1 HBA1 HKD1 HKA1 HGR1 hc1 HV1 HG1 HB1 HA1 k2
  clear la
  have HW2 : Hid (#[.int .u8 1] = (bcells [1]).toArray) := Hid.mk' rfl
  have HOA2 : Hid (OwnB ((wc.alloc (.cells #[.int .u8 1] 5)).drew) base vc l2) := own_drew (HV2.out.below ((Below.refl _ _).alloc (Nat.le_refl _) _))
  have HGA2 : Hid (((wc.alloc (.cells #[.int .u8 1] 5)).drew).heap[wc.heap.size]? = some (.cells #[.int .u8 1] 5 (0, 0))) := (MapKept.heap_alloc wc _).1
  have HBA2 : Hid (base ≤ ((wc.alloc (.cells #[.int .u8 1] 5)).drew).heap.size) := by
    have e : ((wc.alloc (.cells #[.int .u8 1] 5)).drew).heap.size = wc.heap.size + 1 := World.size_alloc _ _
    show base ≤ _
    rw [e]; omega
  have HKD2 : Hid (KeepV wc wc.drew) := (KeepV.refl _).drew
  have HKA2 : Hid (KeepV wc ((wc.alloc (.cells #[.int .u8 1] 5)).drew)) := ((KeepV.refl _).alloc _).drew
  have HGR2 : Hid (Grow base wc ((wc.alloc (.cells #[.int .u8 1] 5)).drew)) := (Grow.alloc wc (by omega) _).trans (Grow.drew _)
  have hc2 : ∀ w', KeepV wc w' → w'.cell? ⟨w.heap.size, 1, none⟩ = some (.string Y) := fun w' h => (h.box HB2.out).cell rfl
  go_wp2_with fail
  go_region_held3 (fun w' => KeepV wc w') (first | with_reducible assumption | with_reducible exact HKD2.out | with_reducible exact HKA2.out | with_reducible exact KeepV.trans HKA2.out hkl | with_reducible exact KeepV.trans (KeepV.trans HKA2.out hkl) hkc) (first | (refine step_append_b _ (by rfl) _ _ (by rfl) base _ l2 [1] (by rfl) HOA2.out wc.heap.size _ HW2.out HGA2.out _ _ (by rfl) (by rfl) (by simp) HBA2.out (by first | omega | (simp; omega)) ?_; intro vd la wa el ho hbl hkl) | (go_at_call 23; refine (HA2.out _ _ _ ho (Nat.le_trans HBA2.out (Grow.size hbl)) (by rw [el.out, List.length_append]; simp; omega)).mono ?_; rintro e wd ⟨ve, rfl, hoc, hbc, hkc⟩))
  have HV3 : Hid (OwnB wd base ve (l ++ [0] ++ esc n ++ [1] ++ esc y)) := by
    have := hoc
    rw [el.out, HE2.out] at this
    exact this
  have HG3 : Hid (Grow base w wd) := HG2.out.trans (HGR2.out.trans (Grow.trans hbl hbc))
  clear el ho hbl hkl hoc hbc hkc HW2 HOA2 HGA2 HBA2 HKD2 HKA2 HGR2 hc2 HV2 HG2 HB2 HA2 k3 HE2
  go_wp2
  go_ret
  exact ⟨_, rfl, HV3.out, HG3.out⟩

set_option maxHeartbeats 8000000 in
set_option maxRecDepth 100000 in
theorem appendVar_false_false (w : World) (base : Nat) (v : Value) (l n y : List UInt8) (hv : OwnB w base v l) (hb : base ≤ w.heap.size) (hn : l.length ≤ 10000000000) (hn1 : n.length ≤ 1000000000)
    (HA1 : Hid (∀ W v l, OwnB W base v l → base ≤ W.heap.size → l.length ≤ 10000000001 → Calls Tryd.prog 23 #[v, .string (bs n)] W fun e w' => ∃ v', e = .returned v' ∧ OwnB w' base v' (l ++ esc n) ∧ (∀ B X, B ≤ base → Below B X W → Below B X w') ∧ KeepV W w'))
    (_HA2 : Hid (∀ W v l, OwnB W base v l → base ≤ W.heap.size → l.length ≤ 13000000001 → Calls Tryd.prog 23 #[v, .string (bs y)] W fun e w' => ∃ v', e = .returned v' ∧ OwnB w' base v' (l ++ esc y) ∧ (∀ B X, B ≤ base → Below B X W → Below B X w') ∧ KeepV W w')) :
    Calls Tryd.prog 15 #[v, .agg #[.string (bs n), .string (bs y), .bool false, .bool false]] w fun e w' => ∃ v', e = .returned v' ∧ OwnB w' base v' (l ++ Vr.text ⟨n, y, false, false⟩) ∧ Grow base w w' := by
  have hel := esc_len n
  have HT : Hid (l ++ Vr.text ⟨n, y, false, false⟩ = l ++ [0] ++ esc n) := Hid.mk' (by simp [Vr.text, valText, markOf])
  have HV := Hid.mk' hv
  rw [HT.out]
  clear hv HT
  generalize bs n = N at *
  generalize bs y = Y at *
  go_enter Tryd.func15, Tryd.ntmps15
  go_wp2_with (refine wpList_box [.string N, .string Y, .bool false, .bool false] 30 rfl _ rfl rfl ?_)
  intro w1 m1
  have hlt1 := m1.lt
  have HB1 := Hid.mk' m1.box
  have HG1 : Hid (Grow base w w1) := fun B X h1 h2 => m1.below B X (by omega) h2
  have HV1 : Hid (OwnB w1 base v l) := HV.out.below (m1.below _ _ (Nat.le_refl _) (Below.refl _ _))
  have k2 := HB1.out.cell (j := 2) rfl
  clear m1 HV
  have HW1 : Hid (#[.int .u8 0] = (bcells [0]).toArray) := Hid.mk' rfl
  have HOA1 : Hid (OwnB ((w1.alloc (.cells #[.int .u8 0] 5)).drew) base v l) := own_drew (HV1.out.below ((Below.refl _ _).alloc (Nat.le_refl _) _))
  have HGA1 : Hid (((w1.alloc (.cells #[.int .u8 0] 5)).drew).heap[w1.heap.size]? = some (.cells #[.int .u8 0] 5 (0, 0))) := (MapKept.heap_alloc w1 _).1
  have HBA1 : Hid (base ≤ ((w1.alloc (.cells #[.int .u8 0] 5)).drew).heap.size) := by
    have e : ((w1.alloc (.cells #[.int .u8 0] 5)).drew).heap.size = w1.heap.size + 1 := World.size_alloc _ _
    show base ≤ _
    rw [e]; omega
  have HKD1 : Hid (KeepV w1 w1.drew) := (KeepV.refl _).drew
  have HKA1 : Hid (KeepV w1 ((w1.alloc (.cells #[.int .u8 0] 5)).drew)) := ((KeepV.refl _).alloc _).drew
  have HGR1 : Hid (Grow base w1 ((w1.alloc (.cells #[.int .u8 0] 5)).drew)) := (Grow.alloc w1 (by omega) _).trans (Grow.drew _)
  have hc1 : ∀ w', KeepV w1 w' → w'.cell? ⟨w.heap.size, 0, none⟩ = some (.string N) := fun w' h => (h.box HB1.out).cell rfl
  go_wp2_with fail
  go_region_held3 (fun w' => KeepV w1 w') (first | with_reducible assumption | with_reducible exact HKD1.out | with_reducible exact HKA1.out | with_reducible exact KeepV.trans HKA1.out hkl | with_reducible exact KeepV.trans (KeepV.trans HKA1.out hkl) hkc) (first | (refine step_append_b _ (by rfl) _ _ (by rfl) base _ l [0] (by rfl) HOA1.out w1.heap.size _ HW1.out HGA1.out _ _ (by rfl) (by rfl) (by simp) HBA1.out (by first | omega | (simp; omega)) ?_; intro va la wa el ho hbl hkl) | (go_at_call 23; refine (HA1.out _ _ _ ho (Nat.le_trans HBA1.out (Grow.size hbl)) (by rw [el.out, List.length_append]; simp; omega)).mono ?_; rintro e wc ⟨vc, rfl, hoc, hbc, hkc⟩))
  have hl2 : (la ++ esc n).length ≤ 12000000001 := by
    rw [el.out, List.length_append, List.length_append]
    simp only [List.length_cons, List.length_nil]
    omega
  have HE2 : Hid (la ++ esc n = l ++ [0] ++ esc n) := Hid.mk' (by rw [el.out])
  have HV2 := Hid.mk' hoc
  have hkc2 : KeepV w1 wc := KeepV.trans (KeepV.trans HKA1.out hkl) hkc
  have HB2 := Hid.mk' (hkc2.box HB1.out)
  have HG2 : Hid (Grow base w wc) := HG1.out.trans (HGR1.out.trans (Grow.trans hbl hbc))
  have k3 := HB2.out.cell (j := 3) rfl
  have hsz2 : base ≤ wc.heap.size := by have := HG2.out.size; omega
  generalize la ++ esc n = l2 at *
  clear el ho hbl hkl hoc hbc hkc hkc2 HW1 HOA1 HGA1 HBA1 HKD1 HKA1 HGR1 hc1 HV1 HG1 HB1 HA1 k2
  clear la
  go_wp2
  go_ret
  exact ⟨_, rfl, by rw [← HE2.out]; exact HV2.out, HG2.out⟩

theorem appendVar_any (w : World) (base : Nat) (v : Value) (l : List UInt8) (x : Vr) (hv : OwnB w base v l) (hb : base ≤ w.heap.size) (hn : l.length ≤ 10000000000) (hn1 : x.name.length ≤ 1000000000) (hn2 : x.value.length ≤ 1000000000) :
    Calls Tryd.prog 15 #[v, .agg #[.string (bs x.name), .string (bs x.value), .bool x.user, .bool x.set]] w fun e w' => ∃ v', e = .returned v' ∧ OwnB w' base v' (l ++ x.text) ∧ Grow base w w' := by
  obtain ⟨n, y, u, s⟩ := x
  simp only at hn1 hn2
  have HA1 := Hid.mk' (fun W v l h1 h2 (h3 : l.length ≤ 10000000001) => appendWord_any W base v l n h1 h2 (by omega))
  have HA2 := Hid.mk' (fun W v l h1 h2 (h3 : l.length ≤ 13000000001) => appendWord_any W base v l y h1 h2 (by omega))
  cases u with
  | true =>
    cases s with
    | true => exact appendVar_true_true w base v l n y hv hb hn hn1 HA1 HA2
    | false => exact appendVar_true_false w base v l n y hv hb hn hn1 HA1 HA2
  | false =>
    cases s with
    | true => exact appendVar_false_true w base v l n y hv hb hn hn1 HA1 HA2
    | false => exact appendVar_false_false w base v l n y hv hb hn hn1 HA1 HA2
end Go.Proofs.YtbfiompbngpjoaaDoor.E
