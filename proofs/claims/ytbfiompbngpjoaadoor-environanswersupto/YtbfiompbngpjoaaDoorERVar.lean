/-
  Contract of environ.readVar; condition: a text of at most 10000000000 bytes.
-/
import Derived.Test.YtbfiompbngpjoaaDoorERWord
namespace Go.Proofs.YtbfiompbngpjoaaDoor.E
open Go.RowKit Go.Lib Go.Proofs.YtbfiompbngpjoaaDoor Go.Proofs.YtbfiompbngpjoaaDoor.W Go.Proofs.YtbfiompbngpjoaaDoor.Q Go.Proofs.YtbfiompbngpjoaaDoor.C

theorem zeroVar : ∀ w : World, (zeroValue 30).run Tryd.prog w = .ok (.agg [.string ⟨#[]⟩, .string ⟨#[]⟩, .bool false, .bool false].toArray) w := by
  obtain ⟨i, hi, hz, _⟩ := info_parts infoVar
  intro w
  simp [zeroValue, typeInfo, hi, hz]
theorem box4 {w : World} {b : Nat} {t : TypeId} {o0 o1 o2 o3 : Value} (h : Box w b t [o0, o1, o2, o3]) (v0 v1 v2 v3 : Value) : Box ((((w.setCell ⟨b, 0, none⟩ v0).setCell ⟨b, 1, none⟩ v1).setCell ⟨b, 2, none⟩ v2).setCell ⟨b, 3, none⟩ v3) b t [v0, v1, v2, v3] := (((h.setCell 0 v0).setCell 1 v1).setCell 2 v2).setCell 3 v3
theorem below4 {w W : World} {b B : Nat} (h : Below B W w) (hb : B ≤ b) (v0 v1 v2 v3 : Value) : Below B W ((((w.setCell ⟨b, 0, none⟩ v0).setCell ⟨b, 1, none⟩ v1).setCell ⟨b, 2, none⟩ v2).setCell ⟨b, 3, none⟩ v3) := (((h.setCell (p := ⟨b, 0, none⟩) hb v0).setCell (p := ⟨b, 1, none⟩) hb v1).setCell (p := ⟨b, 2, none⟩) hb v2).setCell (p := ⟨b, 3, none⟩) hb v3
theorem sizeVar : (Tryd.prog.info? 30).map (·.size) = some 4 := by
  obtain ⟨i, hi, _, hs, _⟩ := info_parts infoVar
  rw [hi]
  simp [hs]
/-- what readVar may answer at s -/
def VarAns (s : List UInt8) (x : Vr) (R : List UInt8) (ok : Bool) : Prop := (ok = true → var0 s = some (x, R) ∧ long x = false) ∧ (ok = false → ∀ y r, var0 s = some (y, r) → long y = true)
def RV (w : World) (s : List UInt8) (e : Ending) (w' : World) : Prop := ∃ (x : Vr) (R : List UInt8) (ok : Bool), e = .returned (.tuple #[.agg #[.string (bs x.name), .string (bs x.value), .bool x.user, .bool x.set], .string (bs R), .bool ok]) ∧ VarAns s x R ok ∧ Below w.heap.size w w'
theorem RV.mk {w : World} {s : List UInt8} {w' : World} (n y : ByteArray) (u st : Bool) (R : ByteArray) (ok : Bool) (x : Vr) (r : List UInt8) (hn : n = bs x.name) (hy : y = bs x.value) (hu : u = x.user) (hs : st = x.set) (hR : R = bs r) (ha : VarAns s x r ok) (hb : Below w.heap.size w w') : RV w s (.returned (.tuple #[.agg [.string n, .string y, .bool u, .bool st].toArray, .string R, .bool ok])) w' := by
  subst hn hy hu hs hR
  exact ⟨x, r, ok, rfl, ha, hb⟩
theorem VarAns.no {s : List UInt8} (x : Vr) (R : List UInt8) (h : var0 s = none) : VarAns s x R false := ⟨fun h => (by cases h), fun _ y r e => by rw [h] at e; cases e⟩
theorem VarAns.yes {s : List UInt8} {x : Vr} {R : List UInt8} {ok : Bool} (h : var0 s = some (x, R)) (ho : ok = !long x) : VarAns s x R ok := by
  subst ho
  refine ⟨fun e => ⟨h, by simpa using e⟩, fun e y r e2 => ?_⟩
  rw [h] at e2
  simp only [Option.some.injEq, Prod.mk.injEq] at e2
  obtain ⟨rfl, rfl⟩ := e2
  simpa using e
/-- a name that is too long, whatever stands behind it -/
theorem VarAns.long {b : UInt8} {t n r0 : List UInt8} (hw : word t = some (n, r0)) (hl : ¬ n.length ≤ 200) (x : Vr) (R : List UInt8) : VarAns (b :: t) x R false := by
  refine ⟨fun h => (by cases h), fun _ y r e => ?_⟩
  rw [var0] at e
  split at e
  · rw [hw] at e
    simp only [Option.bind_some] at e
    have hn : y.name = n := by
      cases r0 with
      | nil =>
        simp only [afterName, Option.some.injEq, Prod.mk.injEq] at e
        obtain ⟨rfl, _⟩ := e
        rfl
      | cons c q =>
        rw [afterName] at e
        split at e
        · cases hq : word q with
          | none => rw [hq] at e; cases e
          | some p =>
            rw [hq] at e
            simp only [Option.map_some, Option.some.injEq, Prod.mk.injEq] at e
            obtain ⟨rfl, _⟩ := e
            rfl
        · simp only [Option.some.injEq, Prod.mk.injEq] at e
          obtain ⟨rfl, _⟩ := e
          rfl
    unfold E.long
    rw [hn, decide_eq_true (by omega)]
    rfl
  · cases e

set_option maxHeartbeats 4000000 in
set_option maxRecDepth 100000 in
theorem readVar_else (b : UInt8) (t : List UInt8) (w : World) (h : isHead b = false) : Calls Tryd.prog 18 #[.string (bs (b :: t))] w (RV w (b :: t)) := by
  have h := of_decide_eq_false h
  have HA : Hid (var0 (b :: t) = none) := by rw [var0, show isHead b = false from decide_eq_false h]; exact Hid.mk' rfl
  have HZ := Hid.mk' zeroVar
  have hsz : (bs (b :: t)).size = t.length + 1 := by rw [bs_size]; rfl
  have hg : ∀ h : 0 < (bs (b :: t)).size, (bs (b :: t))[0]'h = b := fun _ => rfl
  have q0 : ((b.toNat : Int) != 0) = true := by rw [bne_iff_ne]; omega
  have q3 : ((b.toNat : Int) != 3) = true := by rw [bne_iff_ne]; omega
  have q0' : ¬ (b.toNat : Int) = 0 := by omega
  have q3' : ¬ (b.toNat : Int) = 3 := by omega
  generalize bs (b :: t) = S at *
  have hg := hg (by omega)
  go_enter Tryd.func18, Tryd.ntmps18
  go_wp2_with (refine wpList_alloc [.string ⟨#[]⟩, .string ⟨#[]⟩, .bool false, .bool false] 30 HZ.out rfl rfl ?_)
  intro w1 m1
  have HB := Hid.mk' (m1.below _ _ (Nat.le_refl _) (Below.refl _ w))
  have HX := Hid.mk' m1.box
  have f := m1.box.frozen
  have c0 := m1.box.cell (j := 0) rfl
  have c1 := m1.box.cell (j := 1) rfl
  have c2 := m1.box.cell (j := 2) rfl
  have c3 := m1.box.cell (j := 3) rfl
  clear m1
  go_wp2
  exact ret_box3 Tryd.results18 30 [.string ⟨#[]⟩, .string ⟨#[]⟩, .bool false, .bool false] w.heap.size _ Tryd.underlying30 rfl sizeVar _ _ rfl rfl rfl (box4 HX.out _ _ _ _) rfl (RV.mk _ _ _ _ _ _ ⟨[], [], false, false⟩ [] rfl rfl rfl rfl rfl (VarAns.no _ _ HA.out) (below4 HB.out (Nat.le_refl _) _ _ _ _))

set_option maxHeartbeats 8000000 in
set_option maxRecDepth 100000 in
theorem readVar_zero_no (t : List UInt8) (w : World) (N R : ByteArray) (H1 : Hid (∀ W, Calls Tryd.prog 25 #[.string (bs t)] W fun e w' => e = .returned (.tuple #[.string N, .string R, .bool false]) ∧ Below W.heap.size W w')) (HA : Hid (∀ w', Below w.heap.size w w' → RV w (0 :: t) (.returned (.tuple #[.agg [.string N, .string ⟨#[]⟩, .bool false, .bool false].toArray, .string R, .bool false])) w')) :
    Calls Tryd.prog 18 #[.string (bs (0 :: t))] w (RV w (0 :: t)) := by
  have HZ := Hid.mk' zeroVar
  have hsz : (bs (0 :: t)).size = t.length + 1 := by rw [bs_size]; rfl
  have hg : ∀ h : 0 < (bs (0 :: t)).size, (bs (0 :: t))[0]'h = 0 := fun _ => rfl
  have hx1 : (bs (0 :: t)).extract 1 (t.length + 1) = bs t := by rw [← hsz, bs_drop]; rfl
  generalize bs (0 :: t) = S at *
  generalize bs t = T at *
  have hg := hg (by omega)
  go_enter Tryd.func18, Tryd.ntmps18
  go_wp2_with (refine wpList_alloc [.string ⟨#[]⟩, .string ⟨#[]⟩, .bool false, .bool false] 30 HZ.out rfl rfl ?_)
  intro w1 m1
  have hlt := m1.lt
  have HB := Hid.mk' (m1.below _ _ (Nat.le_refl _) (Below.refl _ w))
  have HX := Hid.mk' m1.box
  clear m1
  go_wp2_with fail
  refine (H1.out _).mono ?_
  rintro e w3 ⟨rfl, hb3⟩
  have hA : Below w1.heap.size w1 (w1.alloc (.cells #[.string ⟨#[]⟩, .string ⟨#[]⟩, .bool false, .bool false] 30)) := (Below.refl _ _).alloc (Nat.le_refl _) _
  have hlt3 : w1.heap.size < w3.heap.size := by have := hb3.size; rw [World.size_alloc] at this; omega
  have HB3 := Hid.mk' (HB.out.trans ((hA.trans (hb3.mono (by rw [World.size_alloc]; omega))).mono (Nat.le_of_lt hlt)))
  have HX3 := Hid.mk' (HX.out.below (hA.trans (hb3.mono (by rw [World.size_alloc]; omega))) hlt)
  have HY3 := Hid.mk' ((Box.new w1 30 [.string ⟨#[]⟩, .string ⟨#[]⟩, .bool false, .bool false]).later hb3)
  clear hb3 hA HB HX H1
  have f := HX3.out.frozen
  have c0 := HX3.out.cell (j := 0) rfl
  have c1 := HX3.out.cell (j := 1) rfl
  have c2 := HX3.out.cell (j := 2) rfl
  have c3 := HX3.out.cell (j := 3) rfl
  have g := HY3.out.frozen
  have d0 := HY3.out.cell (j := 0) rfl
  have d1 := HY3.out.cell (j := 1) rfl
  have d2 := HY3.out.cell (j := 2) rfl
  have d3 := HY3.out.cell (j := 3) rfl
  have HX4 : Hid (Box (w3.setCell ⟨w1.heap.size, 0, none⟩ (.string N)) w.heap.size 30 [.string ⟨#[]⟩, .string ⟨#[]⟩, .bool false, .bool false]) := HX3.out.kept (setCell_other _ _ _ _ (by omega))
  have HB4 : Hid (Below w.heap.size w (w3.setCell ⟨w1.heap.size, 0, none⟩ (.string N))) := HB3.out.setCell (p := ⟨w1.heap.size, 0, none⟩) (Nat.le_of_lt hlt) _
  clear HX3 HY3 HB3
  go_wp2
  exact ret_box3 Tryd.results18 30 [.string N, .string ⟨#[]⟩, .bool false, .bool false] w.heap.size _ Tryd.underlying30 rfl sizeVar _ _ rfl rfl rfl (box4 HX4.out _ _ _ _) rfl (HA.out _ (below4 HB4.out (Nat.le_refl _) _ _ _ _))

set_option maxHeartbeats 8000000 in
set_option maxRecDepth 100000 in
theorem readVar_zero_last (t : List UInt8) (w : World) (N R : ByteArray) (H1 : Hid (∀ W, Calls Tryd.prog 25 #[.string (bs t)] W fun e w' => e = .returned (.tuple #[.string N, .string R, .bool true]) ∧ Below W.heap.size W w')) (HA : Hid (∀ w', Below w.heap.size w w' → RV w (0 :: t) (.returned (.tuple #[.agg [.string N, .string ⟨#[]⟩, .bool false, .bool false].toArray, .string R, .bool true])) w')) (hE : R.toList.isEmpty = true) :
    Calls Tryd.prog 18 #[.string (bs (0 :: t))] w (RV w (0 :: t)) := by
  have HZ := Hid.mk' zeroVar
  have hsz : (bs (0 :: t)).size = t.length + 1 := by rw [bs_size]; rfl
  have hg : ∀ h : 0 < (bs (0 :: t)).size, (bs (0 :: t))[0]'h = 0 := fun _ => rfl
  have hx1 : (bs (0 :: t)).extract 1 (t.length + 1) = bs t := by rw [← hsz, bs_drop]; rfl
  have hE : R.toList.isEmpty = true := hE
  generalize bs (0 :: t) = S at *
  generalize bs t = T at *
  have hg := hg (by omega)
  go_enter Tryd.func18, Tryd.ntmps18
  go_wp2_with (refine wpList_alloc [.string ⟨#[]⟩, .string ⟨#[]⟩, .bool false, .bool false] 30 HZ.out rfl rfl ?_)
  intro w1 m1
  have hlt := m1.lt
  have HB := Hid.mk' (m1.below _ _ (Nat.le_refl _) (Below.refl _ w))
  have HX := Hid.mk' m1.box
  clear m1
  go_wp2_with fail
  refine (H1.out _).mono ?_
  rintro e w3 ⟨rfl, hb3⟩
  have hA : Below w1.heap.size w1 (w1.alloc (.cells #[.string ⟨#[]⟩, .string ⟨#[]⟩, .bool false, .bool false] 30)) := (Below.refl _ _).alloc (Nat.le_refl _) _
  have hlt3 : w1.heap.size < w3.heap.size := by have := hb3.size; rw [World.size_alloc] at this; omega
  have HB3 := Hid.mk' (HB.out.trans ((hA.trans (hb3.mono (by rw [World.size_alloc]; omega))).mono (Nat.le_of_lt hlt)))
  have HX3 := Hid.mk' (HX.out.below (hA.trans (hb3.mono (by rw [World.size_alloc]; omega))) hlt)
  have HY3 := Hid.mk' ((Box.new w1 30 [.string ⟨#[]⟩, .string ⟨#[]⟩, .bool false, .bool false]).later hb3)
  clear hb3 hA HB HX H1
  have f := HX3.out.frozen
  have c0 := HX3.out.cell (j := 0) rfl
  have c1 := HX3.out.cell (j := 1) rfl
  have c2 := HX3.out.cell (j := 2) rfl
  have c3 := HX3.out.cell (j := 3) rfl
  have g := HY3.out.frozen
  have d0 := HY3.out.cell (j := 0) rfl
  have d1 := HY3.out.cell (j := 1) rfl
  have d2 := HY3.out.cell (j := 2) rfl
  have d3 := HY3.out.cell (j := 3) rfl
  have HX4 : Hid (Box (w3.setCell ⟨w1.heap.size, 0, none⟩ (.string N)) w.heap.size 30 [.string ⟨#[]⟩, .string ⟨#[]⟩, .bool false, .bool false]) := HX3.out.kept (setCell_other _ _ _ _ (by omega))
  have HB4 : Hid (Below w.heap.size w (w3.setCell ⟨w1.heap.size, 0, none⟩ (.string N))) := HB3.out.setCell (p := ⟨w1.heap.size, 0, none⟩) (Nat.le_of_lt hlt) _
  clear HX3 HY3 HB3
  go_wp2
  exact ret_box3 Tryd.results18 30 [.string N, .string ⟨#[]⟩, .bool false, .bool false] w.heap.size _ Tryd.underlying30 rfl sizeVar _ _ rfl rfl rfl (box4 HX4.out _ _ _ _) rfl (HA.out _ (below4 HB4.out (Nat.le_refl _) _ _ _ _))

set_option maxHeartbeats 8000000 in
set_option maxRecDepth 100000 in
theorem readVar_zero_next (t : List UInt8) (w : World) (N R : ByteArray) (H1 : Hid (∀ W, Calls Tryd.prog 25 #[.string (bs t)] W fun e w' => e = .returned (.tuple #[.string N, .string R, .bool true]) ∧ Below W.heap.size W w')) (HA : Hid (∀ w', Below w.heap.size w w' → RV w (0 :: t) (.returned (.tuple #[.agg [.string N, .string ⟨#[]⟩, .bool false, .bool false].toArray, .string R, .bool true])) w')) (hE : R.toList.isEmpty = false) (h0 : 0 < R.size) (q1 : ((R[0].toNat : Int) == 1) = false) :
    Calls Tryd.prog 18 #[.string (bs (0 :: t))] w (RV w (0 :: t)) := by
  have HZ := Hid.mk' zeroVar
  have hsz : (bs (0 :: t)).size = t.length + 1 := by rw [bs_size]; rfl
  have hg : ∀ h : 0 < (bs (0 :: t)).size, (bs (0 :: t))[0]'h = 0 := fun _ => rfl
  have hx1 : (bs (0 :: t)).extract 1 (t.length + 1) = bs t := by rw [← hsz, bs_drop]; rfl
  have hE : R.toList.isEmpty = false := hE
  generalize bs (0 :: t) = S at *
  generalize bs t = T at *
  have hg := hg (by omega)
  go_enter Tryd.func18, Tryd.ntmps18
  go_wp2_with (refine wpList_alloc [.string ⟨#[]⟩, .string ⟨#[]⟩, .bool false, .bool false] 30 HZ.out rfl rfl ?_)
  intro w1 m1
  have hlt := m1.lt
  have HB := Hid.mk' (m1.below _ _ (Nat.le_refl _) (Below.refl _ w))
  have HX := Hid.mk' m1.box
  clear m1
  go_wp2_with fail
  refine (H1.out _).mono ?_
  rintro e w3 ⟨rfl, hb3⟩
  have hA : Below w1.heap.size w1 (w1.alloc (.cells #[.string ⟨#[]⟩, .string ⟨#[]⟩, .bool false, .bool false] 30)) := (Below.refl _ _).alloc (Nat.le_refl _) _
  have hlt3 : w1.heap.size < w3.heap.size := by have := hb3.size; rw [World.size_alloc] at this; omega
  have HB3 := Hid.mk' (HB.out.trans ((hA.trans (hb3.mono (by rw [World.size_alloc]; omega))).mono (Nat.le_of_lt hlt)))
  have HX3 := Hid.mk' (HX.out.below (hA.trans (hb3.mono (by rw [World.size_alloc]; omega))) hlt)
  have HY3 := Hid.mk' ((Box.new w1 30 [.string ⟨#[]⟩, .string ⟨#[]⟩, .bool false, .bool false]).later hb3)
  clear hb3 hA HB HX H1
  have f := HX3.out.frozen
  have c0 := HX3.out.cell (j := 0) rfl
  have c1 := HX3.out.cell (j := 1) rfl
  have c2 := HX3.out.cell (j := 2) rfl
  have c3 := HX3.out.cell (j := 3) rfl
  have g := HY3.out.frozen
  have d0 := HY3.out.cell (j := 0) rfl
  have d1 := HY3.out.cell (j := 1) rfl
  have d2 := HY3.out.cell (j := 2) rfl
  have d3 := HY3.out.cell (j := 3) rfl
  have HX4 : Hid (Box (w3.setCell ⟨w1.heap.size, 0, none⟩ (.string N)) w.heap.size 30 [.string ⟨#[]⟩, .string ⟨#[]⟩, .bool false, .bool false]) := HX3.out.kept (setCell_other _ _ _ _ (by omega))
  have HB4 : Hid (Below w.heap.size w (w3.setCell ⟨w1.heap.size, 0, none⟩ (.string N))) := HB3.out.setCell (p := ⟨w1.heap.size, 0, none⟩) (Nat.le_of_lt hlt) _
  clear HX3 HY3 HB3
  go_wp2
  exact ret_box3 Tryd.results18 30 [.string N, .string ⟨#[]⟩, .bool false, .bool false] w.heap.size _ Tryd.underlying30 rfl sizeVar _ _ rfl rfl rfl (box4 HX4.out _ _ _ _) rfl (HA.out _ (below4 HB4.out (Nat.le_refl _) _ _ _ _))

set_option maxHeartbeats 8000000 in
set_option maxRecDepth 100000 in
theorem readVar_zero_set (t : List UInt8) (w : World) (q : List UInt8) (N R : ByteArray) (H1 : Hid (∀ W, Calls Tryd.prog 25 #[.string (bs t)] W fun e w' => e = .returned (.tuple #[.string N, .string R, .bool true]) ∧ Below W.heap.size W w')) (Y R2 : ByteArray) (ok2 : Bool) (H2 : Hid (∀ W, Calls Tryd.prog 25 #[.string (bs q)] W fun e w' => e = .returned (.tuple #[.string Y, .string R2, .bool ok2]) ∧ Below W.heap.size W w')) (HA : Hid (∀ w', Below w.heap.size w w' → RV w (0 :: t) (.returned (.tuple #[.agg [.string N, .string Y, .bool false, .bool true].toArray, .string R2, .bool ok2])) w')) (hE : R.toList.isEmpty = false) (hz2 : R.size ≤ 10000000000) (h0 : 0 < R.size) (hr0 : R[0] = 1) (hx2 : R.extract 1 R.size = bs q) :
    Calls Tryd.prog 18 #[.string (bs (0 :: t))] w (RV w (0 :: t)) := by
  have HZ := Hid.mk' zeroVar
  have hsz : (bs (0 :: t)).size = t.length + 1 := by rw [bs_size]; rfl
  have hg : ∀ h : 0 < (bs (0 :: t)).size, (bs (0 :: t))[0]'h = 0 := fun _ => rfl
  have hx1 : (bs (0 :: t)).extract 1 (t.length + 1) = bs t := by rw [← hsz, bs_drop]; rfl
  have hE : R.toList.isEmpty = false := hE
  generalize bs q = Q at *
  generalize bs (0 :: t) = S at *
  generalize bs t = T at *
  have hg := hg (by omega)
  go_enter Tryd.func18, Tryd.ntmps18
  go_wp2_with (refine wpList_alloc [.string ⟨#[]⟩, .string ⟨#[]⟩, .bool false, .bool false] 30 HZ.out rfl rfl ?_)
  intro w1 m1
  have hlt := m1.lt
  have HB := Hid.mk' (m1.below _ _ (Nat.le_refl _) (Below.refl _ w))
  have HX := Hid.mk' m1.box
  clear m1
  go_wp2_with fail
  refine (H1.out _).mono ?_
  rintro e w3 ⟨rfl, hb3⟩
  have hA : Below w1.heap.size w1 (w1.alloc (.cells #[.string ⟨#[]⟩, .string ⟨#[]⟩, .bool false, .bool false] 30)) := (Below.refl _ _).alloc (Nat.le_refl _) _
  have hlt3 : w1.heap.size < w3.heap.size := by have := hb3.size; rw [World.size_alloc] at this; omega
  have HB3 := Hid.mk' (HB.out.trans ((hA.trans (hb3.mono (by rw [World.size_alloc]; omega))).mono (Nat.le_of_lt hlt)))
  have HX3 := Hid.mk' (HX.out.below (hA.trans (hb3.mono (by rw [World.size_alloc]; omega))) hlt)
  have HY3 := Hid.mk' ((Box.new w1 30 [.string ⟨#[]⟩, .string ⟨#[]⟩, .bool false, .bool false]).later hb3)
  clear hb3 hA HB HX H1
  have g := HY3.out.frozen
  have d0 := HY3.out.cell (j := 0) rfl
  have d1 := HY3.out.cell (j := 1) rfl
  have d2 := HY3.out.cell (j := 2) rfl
  have d3 := HY3.out.cell (j := 3) rfl
  have HX4 : Hid (Box ((w3.setCell ⟨w1.heap.size, 0, none⟩ (.string N)).setCell ⟨w1.heap.size, 3, none⟩ (.bool true)) w.heap.size 30 [.string ⟨#[]⟩, .string ⟨#[]⟩, .bool false, .bool false]) := (HX3.out.kept (setCell_other _ _ _ _ (by omega))).kept (setCell_other _ _ _ _ (by omega))
  have HY4 : Hid (Box ((w3.setCell ⟨w1.heap.size, 0, none⟩ (.string N)).setCell ⟨w1.heap.size, 3, none⟩ (.bool true)) w1.heap.size 30 [.string N, .string ⟨#[]⟩, .bool false, .bool true]) := (HY3.out.setCell 0 _).setCell 3 _
  have HB4 : Hid (Below w.heap.size w ((w3.setCell ⟨w1.heap.size, 0, none⟩ (.string N)).setCell ⟨w1.heap.size, 3, none⟩ (.bool true))) := (HB3.out.setCell (p := ⟨w1.heap.size, 0, none⟩) (Nat.le_of_lt hlt) _).setCell (p := ⟨w1.heap.size, 3, none⟩) (Nat.le_of_lt hlt) _
  have HH : Hid (∀ W e w', W = ((w3.setCell ⟨w1.heap.size, 0, none⟩ (.string N)).setCell ⟨w1.heap.size, 3, none⟩ (.bool true)) → (e = Ending.returned (.tuple #[.string Y, .string R2, .bool ok2]) ∧ Below W.heap.size W w') → e = Ending.returned (.tuple #[.string Y, .string R2, .bool ok2]) ∧ Box w' w.heap.size 30 [.string ⟨#[]⟩, .string ⟨#[]⟩, .bool false, .bool false] ∧ Box w' w1.heap.size 30 [.string N, .string ⟨#[]⟩, .bool false, .bool true] ∧ Below w.heap.size w w') := by
    rintro W e w' rfl ⟨h1, h2⟩
    exact ⟨h1, HX4.out.later h2, HY4.out.later h2, HB4.out.trans (h2.mono HB4.out.size)⟩
  clear HX3 HY3 HB3 HX4 HY4 HB4
  go_wp2_with fail
  refine (H2.out _).mono ?_
  intro e w5 h5
  obtain ⟨rfl, hX5, hY5, hB5⟩ := HH.out _ _ _ rfl h5
  clear h5 HH H2 d0 d1 d2 d3 g
  have f := hX5.frozen
  have c0 := hX5.cell (j := 0) rfl
  have c1 := hX5.cell (j := 1) rfl
  have c2 := hX5.cell (j := 2) rfl
  have c3 := hX5.cell (j := 3) rfl
  have g := hY5.frozen
  have d0 := hY5.cell (j := 0) rfl
  have d1 := hY5.cell (j := 1) rfl
  have d2 := hY5.cell (j := 2) rfl
  have d3 := hY5.cell (j := 3) rfl
  have HX6 : Hid (Box (w5.setCell ⟨w1.heap.size, 1, none⟩ (.string Y)) w.heap.size 30 [.string ⟨#[]⟩, .string ⟨#[]⟩, .bool false, .bool false]) := hX5.kept (setCell_other _ _ _ _ (by omega))
  have HB6 : Hid (Below w.heap.size w (w5.setCell ⟨w1.heap.size, 1, none⟩ (.string Y))) := hB5.setCell (p := ⟨w1.heap.size, 1, none⟩) (Nat.le_of_lt hlt) _
  clear hX5 hY5 hB5
  go_wp2
  exact ret_box3 Tryd.results18 30 [.string N, .string Y, .bool false, .bool true] w.heap.size _ Tryd.underlying30 rfl sizeVar _ _ rfl rfl rfl (box4 HX6.out _ _ _ _) rfl (HA.out _ (below4 HB6.out (Nat.le_refl _) _ _ _ _))

set_option maxHeartbeats 8000000 in
set_option maxRecDepth 100000 in
theorem readVar_three_no (t : List UInt8) (w : World) (N R : ByteArray) (H1 : Hid (∀ W, Calls Tryd.prog 25 #[.string (bs t)] W fun e w' => e = .returned (.tuple #[.string N, .string R, .bool false]) ∧ Below W.heap.size W w')) (HA : Hid (∀ w', Below w.heap.size w w' → RV w (3 :: t) (.returned (.tuple #[.agg [.string N, .string ⟨#[]⟩, .bool true, .bool false].toArray, .string R, .bool false])) w')) :
    Calls Tryd.prog 18 #[.string (bs (3 :: t))] w (RV w (3 :: t)) := by
  have HZ := Hid.mk' zeroVar
  have hsz : (bs (3 :: t)).size = t.length + 1 := by rw [bs_size]; rfl
  have hg : ∀ h : 0 < (bs (3 :: t)).size, (bs (3 :: t))[0]'h = 3 := fun _ => rfl
  have hx1 : (bs (3 :: t)).extract 1 (t.length + 1) = bs t := by rw [← hsz, bs_drop]; rfl
  generalize bs (3 :: t) = S at *
  generalize bs t = T at *
  have hg := hg (by omega)
  go_enter Tryd.func18, Tryd.ntmps18
  go_wp2_with (refine wpList_alloc [.string ⟨#[]⟩, .string ⟨#[]⟩, .bool false, .bool false] 30 HZ.out rfl rfl ?_)
  intro w1 m1
  have hlt := m1.lt
  have HB := Hid.mk' (m1.below _ _ (Nat.le_refl _) (Below.refl _ w))
  have HX := Hid.mk' m1.box
  clear m1
  go_wp2_with fail
  refine (H1.out _).mono ?_
  rintro e w3 ⟨rfl, hb3⟩
  have hA : Below w1.heap.size w1 (w1.alloc (.cells #[.string ⟨#[]⟩, .string ⟨#[]⟩, .bool true, .bool false] 30)) := (Below.refl _ _).alloc (Nat.le_refl _) _
  have hlt3 : w1.heap.size < w3.heap.size := by have := hb3.size; rw [World.size_alloc] at this; omega
  have HB3 := Hid.mk' (HB.out.trans ((hA.trans (hb3.mono (by rw [World.size_alloc]; omega))).mono (Nat.le_of_lt hlt)))
  have HX3 := Hid.mk' (HX.out.below (hA.trans (hb3.mono (by rw [World.size_alloc]; omega))) hlt)
  have HY3 := Hid.mk' ((Box.new w1 30 [.string ⟨#[]⟩, .string ⟨#[]⟩, .bool true, .bool false]).later hb3)
  clear hb3 hA HB HX H1
  have f := HX3.out.frozen
  have c0 := HX3.out.cell (j := 0) rfl
  have c1 := HX3.out.cell (j := 1) rfl
  have c2 := HX3.out.cell (j := 2) rfl
  have c3 := HX3.out.cell (j := 3) rfl
  have g := HY3.out.frozen
  have d0 := HY3.out.cell (j := 0) rfl
  have d1 := HY3.out.cell (j := 1) rfl
  have d2 := HY3.out.cell (j := 2) rfl
  have d3 := HY3.out.cell (j := 3) rfl
  have HX4 : Hid (Box (w3.setCell ⟨w1.heap.size, 0, none⟩ (.string N)) w.heap.size 30 [.string ⟨#[]⟩, .string ⟨#[]⟩, .bool false, .bool false]) := HX3.out.kept (setCell_other _ _ _ _ (by omega))
  have HB4 : Hid (Below w.heap.size w (w3.setCell ⟨w1.heap.size, 0, none⟩ (.string N))) := HB3.out.setCell (p := ⟨w1.heap.size, 0, none⟩) (Nat.le_of_lt hlt) _
  clear HX3 HY3 HB3
  go_wp2
  exact ret_box3 Tryd.results18 30 [.string N, .string ⟨#[]⟩, .bool true, .bool false] w.heap.size _ Tryd.underlying30 rfl sizeVar _ _ rfl rfl rfl (box4 HX4.out _ _ _ _) rfl (HA.out _ (below4 HB4.out (Nat.le_refl _) _ _ _ _))

set_option maxHeartbeats 8000000 in
set_option maxRecDepth 100000 in
theorem readVar_three_last (t : List UInt8) (w : World) (N R : ByteArray) (H1 : Hid (∀ W, Calls Tryd.prog 25 #[.string (bs t)] W fun e w' => e = .returned (.tuple #[.string N, .string R, .bool true]) ∧ Below W.heap.size W w')) (HA : Hid (∀ w', Below w.heap.size w w' → RV w (3 :: t) (.returned (.tuple #[.agg [.string N, .string ⟨#[]⟩, .bool true, .bool false].toArray, .string R, .bool true])) w')) (hE : R.toList.isEmpty = true) :
    Calls Tryd.prog 18 #[.string (bs (3 :: t))] w (RV w (3 :: t)) := by
  have HZ := Hid.mk' zeroVar
  have hsz : (bs (3 :: t)).size = t.length + 1 := by rw [bs_size]; rfl
  have hg : ∀ h : 0 < (bs (3 :: t)).size, (bs (3 :: t))[0]'h = 3 := fun _ => rfl
  have hx1 : (bs (3 :: t)).extract 1 (t.length + 1) = bs t := by rw [← hsz, bs_drop]; rfl
  have hE : R.toList.isEmpty = true := hE
  generalize bs (3 :: t) = S at *
  generalize bs t = T at *
  have hg := hg (by omega)
  go_enter Tryd.func18, Tryd.ntmps18
  go_wp2_with (refine wpList_alloc [.string ⟨#[]⟩, .string ⟨#[]⟩, .bool false, .bool false] 30 HZ.out rfl rfl ?_)
  intro w1 m1
  have hlt := m1.lt
  have HB := Hid.mk' (m1.below _ _ (Nat.le_refl _) (Below.refl _ w))
  have HX := Hid.mk' m1.box
  clear m1
  go_wp2_with fail
  refine (H1.out _).mono ?_
  rintro e w3 ⟨rfl, hb3⟩
  have hA : Below w1.heap.size w1 (w1.alloc (.cells #[.string ⟨#[]⟩, .string ⟨#[]⟩, .bool true, .bool false] 30)) := (Below.refl _ _).alloc (Nat.le_refl _) _
  have hlt3 : w1.heap.size < w3.heap.size := by have := hb3.size; rw [World.size_alloc] at this; omega
  have HB3 := Hid.mk' (HB.out.trans ((hA.trans (hb3.mono (by rw [World.size_alloc]; omega))).mono (Nat.le_of_lt hlt)))
  have HX3 := Hid.mk' (HX.out.below (hA.trans (hb3.mono (by rw [World.size_alloc]; omega))) hlt)
  have HY3 := Hid.mk' ((Box.new w1 30 [.string ⟨#[]⟩, .string ⟨#[]⟩, .bool true, .bool false]).later hb3)
  clear hb3 hA HB HX H1
  have f := HX3.out.frozen
  have c0 := HX3.out.cell (j := 0) rfl
  have c1 := HX3.out.cell (j := 1) rfl
  have c2 := HX3.out.cell (j := 2) rfl
  have c3 := HX3.out.cell (j := 3) rfl
  have g := HY3.out.frozen
  have d0 := HY3.out.cell (j := 0) rfl
  have d1 := HY3.out.cell (j := 1) rfl
  have d2 := HY3.out.cell (j := 2) rfl
  have d3 := HY3.out.cell (j := 3) rfl
  have HX4 : Hid (Box (w3.setCell ⟨w1.heap.size, 0, none⟩ (.string N)) w.heap.size 30 [.string ⟨#[]⟩, .string ⟨#[]⟩, .bool false, .bool false]) := HX3.out.kept (setCell_other _ _ _ _ (by omega))
  have HB4 : Hid (Below w.heap.size w (w3.setCell ⟨w1.heap.size, 0, none⟩ (.string N))) := HB3.out.setCell (p := ⟨w1.heap.size, 0, none⟩) (Nat.le_of_lt hlt) _
  clear HX3 HY3 HB3
  go_wp2
  exact ret_box3 Tryd.results18 30 [.string N, .string ⟨#[]⟩, .bool true, .bool false] w.heap.size _ Tryd.underlying30 rfl sizeVar _ _ rfl rfl rfl (box4 HX4.out _ _ _ _) rfl (HA.out _ (below4 HB4.out (Nat.le_refl _) _ _ _ _))

set_option maxHeartbeats 8000000 in
set_option maxRecDepth 100000 in
theorem readVar_three_next (t : List UInt8) (w : World) (N R : ByteArray) (H1 : Hid (∀ W, Calls Tryd.prog 25 #[.string (bs t)] W fun e w' => e = .returned (.tuple #[.string N, .string R, .bool true]) ∧ Below W.heap.size W w')) (HA : Hid (∀ w', Below w.heap.size w w' → RV w (3 :: t) (.returned (.tuple #[.agg [.string N, .string ⟨#[]⟩, .bool true, .bool false].toArray, .string R, .bool true])) w')) (hE : R.toList.isEmpty = false) (h0 : 0 < R.size) (q1 : ((R[0].toNat : Int) == 1) = false) :
    Calls Tryd.prog 18 #[.string (bs (3 :: t))] w (RV w (3 :: t)) := by
  have HZ := Hid.mk' zeroVar
  have hsz : (bs (3 :: t)).size = t.length + 1 := by rw [bs_size]; rfl
  have hg : ∀ h : 0 < (bs (3 :: t)).size, (bs (3 :: t))[0]'h = 3 := fun _ => rfl
  have hx1 : (bs (3 :: t)).extract 1 (t.length + 1) = bs t := by rw [← hsz, bs_drop]; rfl
  have hE : R.toList.isEmpty = false := hE
  generalize bs (3 :: t) = S at *
  generalize bs t = T at *
  have hg := hg (by omega)
  go_enter Tryd.func18, Tryd.ntmps18
  go_wp2_with (refine wpList_alloc [.string ⟨#[]⟩, .string ⟨#[]⟩, .bool false, .bool false] 30 HZ.out rfl rfl ?_)
  intro w1 m1
  have hlt := m1.lt
  have HB := Hid.mk' (m1.below _ _ (Nat.le_refl _) (Below.refl _ w))
  have HX := Hid.mk' m1.box
  clear m1
  go_wp2_with fail
  refine (H1.out _).mono ?_
  rintro e w3 ⟨rfl, hb3⟩
  have hA : Below w1.heap.size w1 (w1.alloc (.cells #[.string ⟨#[]⟩, .string ⟨#[]⟩, .bool true, .bool false] 30)) := (Below.refl _ _).alloc (Nat.le_refl _) _
  have hlt3 : w1.heap.size < w3.heap.size := by have := hb3.size; rw [World.size_alloc] at this; omega
  have HB3 := Hid.mk' (HB.out.trans ((hA.trans (hb3.mono (by rw [World.size_alloc]; omega))).mono (Nat.le_of_lt hlt)))
  have HX3 := Hid.mk' (HX.out.below (hA.trans (hb3.mono (by rw [World.size_alloc]; omega))) hlt)
  have HY3 := Hid.mk' ((Box.new w1 30 [.string ⟨#[]⟩, .string ⟨#[]⟩, .bool true, .bool false]).later hb3)
  clear hb3 hA HB HX H1
  have f := HX3.out.frozen
  have c0 := HX3.out.cell (j := 0) rfl
  have c1 := HX3.out.cell (j := 1) rfl
  have c2 := HX3.out.cell (j := 2) rfl
  have c3 := HX3.out.cell (j := 3) rfl
  have g := HY3.out.frozen
  have d0 := HY3.out.cell (j := 0) rfl
  have d1 := HY3.out.cell (j := 1) rfl
  have d2 := HY3.out.cell (j := 2) rfl
  have d3 := HY3.out.cell (j := 3) rfl
  have HX4 : Hid (Box (w3.setCell ⟨w1.heap.size, 0, none⟩ (.string N)) w.heap.size 30 [.string ⟨#[]⟩, .string ⟨#[]⟩, .bool false, .bool false]) := HX3.out.kept (setCell_other _ _ _ _ (by omega))
  have HB4 : Hid (Below w.heap.size w (w3.setCell ⟨w1.heap.size, 0, none⟩ (.string N))) := HB3.out.setCell (p := ⟨w1.heap.size, 0, none⟩) (Nat.le_of_lt hlt) _
  clear HX3 HY3 HB3
  go_wp2
  exact ret_box3 Tryd.results18 30 [.string N, .string ⟨#[]⟩, .bool true, .bool false] w.heap.size _ Tryd.underlying30 rfl sizeVar _ _ rfl rfl rfl (box4 HX4.out _ _ _ _) rfl (HA.out _ (below4 HB4.out (Nat.le_refl _) _ _ _ _))

set_option maxHeartbeats 8000000 in
set_option maxRecDepth 100000 in
theorem readVar_three_set (t : List UInt8) (w : World) (q : List UInt8) (N R : ByteArray) (H1 : Hid (∀ W, Calls Tryd.prog 25 #[.string (bs t)] W fun e w' => e = .returned (.tuple #[.string N, .string R, .bool true]) ∧ Below W.heap.size W w')) (Y R2 : ByteArray) (ok2 : Bool) (H2 : Hid (∀ W, Calls Tryd.prog 25 #[.string (bs q)] W fun e w' => e = .returned (.tuple #[.string Y, .string R2, .bool ok2]) ∧ Below W.heap.size W w')) (HA : Hid (∀ w', Below w.heap.size w w' → RV w (3 :: t) (.returned (.tuple #[.agg [.string N, .string Y, .bool true, .bool true].toArray, .string R2, .bool ok2])) w')) (hE : R.toList.isEmpty = false) (hz2 : R.size ≤ 10000000000) (h0 : 0 < R.size) (hr0 : R[0] = 1) (hx2 : R.extract 1 R.size = bs q) :
    Calls Tryd.prog 18 #[.string (bs (3 :: t))] w (RV w (3 :: t)) := by
  have HZ := Hid.mk' zeroVar
  have hsz : (bs (3 :: t)).size = t.length + 1 := by rw [bs_size]; rfl
  have hg : ∀ h : 0 < (bs (3 :: t)).size, (bs (3 :: t))[0]'h = 3 := fun _ => rfl
  have hx1 : (bs (3 :: t)).extract 1 (t.length + 1) = bs t := by rw [← hsz, bs_drop]; rfl
  have hE : R.toList.isEmpty = false := hE
  generalize bs q = Q at *
  generalize bs (3 :: t) = S at *
  generalize bs t = T at *
  have hg := hg (by omega)
  go_enter Tryd.func18, Tryd.ntmps18
  go_wp2_with (refine wpList_alloc [.string ⟨#[]⟩, .string ⟨#[]⟩, .bool false, .bool false] 30 HZ.out rfl rfl ?_)
  intro w1 m1
  have hlt := m1.lt
  have HB := Hid.mk' (m1.below _ _ (Nat.le_refl _) (Below.refl _ w))
  have HX := Hid.mk' m1.box
  clear m1
  go_wp2_with fail
  refine (H1.out _).mono ?_
  rintro e w3 ⟨rfl, hb3⟩
  have hA : Below w1.heap.size w1 (w1.alloc (.cells #[.string ⟨#[]⟩, .string ⟨#[]⟩, .bool true, .bool false] 30)) := (Below.refl _ _).alloc (Nat.le_refl _) _
  have hlt3 : w1.heap.size < w3.heap.size := by have := hb3.size; rw [World.size_alloc] at this; omega
  have HB3 := Hid.mk' (HB.out.trans ((hA.trans (hb3.mono (by rw [World.size_alloc]; omega))).mono (Nat.le_of_lt hlt)))
  have HX3 := Hid.mk' (HX.out.below (hA.trans (hb3.mono (by rw [World.size_alloc]; omega))) hlt)
  have HY3 := Hid.mk' ((Box.new w1 30 [.string ⟨#[]⟩, .string ⟨#[]⟩, .bool true, .bool false]).later hb3)
  clear hb3 hA HB HX H1
  have g := HY3.out.frozen
  have d0 := HY3.out.cell (j := 0) rfl
  have d1 := HY3.out.cell (j := 1) rfl
  have d2 := HY3.out.cell (j := 2) rfl
  have d3 := HY3.out.cell (j := 3) rfl
  have HX4 : Hid (Box ((w3.setCell ⟨w1.heap.size, 0, none⟩ (.string N)).setCell ⟨w1.heap.size, 3, none⟩ (.bool true)) w.heap.size 30 [.string ⟨#[]⟩, .string ⟨#[]⟩, .bool false, .bool false]) := (HX3.out.kept (setCell_other _ _ _ _ (by omega))).kept (setCell_other _ _ _ _ (by omega))
  have HY4 : Hid (Box ((w3.setCell ⟨w1.heap.size, 0, none⟩ (.string N)).setCell ⟨w1.heap.size, 3, none⟩ (.bool true)) w1.heap.size 30 [.string N, .string ⟨#[]⟩, .bool true, .bool true]) := (HY3.out.setCell 0 _).setCell 3 _
  have HB4 : Hid (Below w.heap.size w ((w3.setCell ⟨w1.heap.size, 0, none⟩ (.string N)).setCell ⟨w1.heap.size, 3, none⟩ (.bool true))) := (HB3.out.setCell (p := ⟨w1.heap.size, 0, none⟩) (Nat.le_of_lt hlt) _).setCell (p := ⟨w1.heap.size, 3, none⟩) (Nat.le_of_lt hlt) _
  have HH : Hid (∀ W e w', W = ((w3.setCell ⟨w1.heap.size, 0, none⟩ (.string N)).setCell ⟨w1.heap.size, 3, none⟩ (.bool true)) → (e = Ending.returned (.tuple #[.string Y, .string R2, .bool ok2]) ∧ Below W.heap.size W w') → e = Ending.returned (.tuple #[.string Y, .string R2, .bool ok2]) ∧ Box w' w.heap.size 30 [.string ⟨#[]⟩, .string ⟨#[]⟩, .bool false, .bool false] ∧ Box w' w1.heap.size 30 [.string N, .string ⟨#[]⟩, .bool true, .bool true] ∧ Below w.heap.size w w') := by
    rintro W e w' rfl ⟨h1, h2⟩
    exact ⟨h1, HX4.out.later h2, HY4.out.later h2, HB4.out.trans (h2.mono HB4.out.size)⟩
  clear HX3 HY3 HB3 HX4 HY4 HB4
  go_wp2_with fail
  refine (H2.out _).mono ?_
  intro e w5 h5
  obtain ⟨rfl, hX5, hY5, hB5⟩ := HH.out _ _ _ rfl h5
  clear h5 HH H2 d0 d1 d2 d3 g
  have f := hX5.frozen
  have c0 := hX5.cell (j := 0) rfl
  have c1 := hX5.cell (j := 1) rfl
  have c2 := hX5.cell (j := 2) rfl
  have c3 := hX5.cell (j := 3) rfl
  have g := hY5.frozen
  have d0 := hY5.cell (j := 0) rfl
  have d1 := hY5.cell (j := 1) rfl
  have d2 := hY5.cell (j := 2) rfl
  have d3 := hY5.cell (j := 3) rfl
  have HX6 : Hid (Box (w5.setCell ⟨w1.heap.size, 1, none⟩ (.string Y)) w.heap.size 30 [.string ⟨#[]⟩, .string ⟨#[]⟩, .bool false, .bool false]) := hX5.kept (setCell_other _ _ _ _ (by omega))
  have HB6 : Hid (Below w.heap.size w (w5.setCell ⟨w1.heap.size, 1, none⟩ (.string Y))) := hB5.setCell (p := ⟨w1.heap.size, 1, none⟩) (Nat.le_of_lt hlt) _
  clear hX5 hY5 hB5
  go_wp2
  exact ret_box3 Tryd.results18 30 [.string N, .string Y, .bool true, .bool true] w.heap.size _ Tryd.underlying30 rfl sizeVar _ _ rfl rfl rfl (box4 HX6.out _ _ _ _) rfl (HA.out _ (below4 HB6.out (Nat.le_refl _) _ _ _ _))

theorem readVar_zero (t : List UInt8) (w : World) (hz : t.length ≤ 1000000000) : Calls Tryd.prog 18 #[.string (bs (0 :: t))] w (RV w (0 :: t)) := by
  have H0 : ∀ W, _ := fun W => readWord_any t W (by omega)
  have hv : ∀ p, word t = p → var0 (0 :: t) = p.bind fun p => afterName false p.1 p.2 := fun p hp => by rw [var0, if_pos (show isHead 0 = true from rfl), hp]; rfl
  cases hw : word t with
  | none =>
    rw [wordT_none hw] at H0
    exact readVar_zero_no t w _ _ (Hid.mk' H0) (Hid.mk' fun w' hb => RV.mk _ _ _ _ _ _ ⟨[], [], false, false⟩ [] rfl rfl rfl rfl rfl (VarAns.no _ _ (hv _ hw)) hb)
  | some p =>
    obtain ⟨n, r0⟩ := p
    rw [wordT_some hw] at H0
    have hv := hv _ hw
    simp only [Option.bind_some] at hv
    have hle := (word_some hw).1
    have hr0 : r0.length ≤ t.length := by rw [hle, List.length_append]; omega
    by_cases hn : n.length ≤ 200
    · simp only [decide_eq_true hn] at H0
      have hlong : ∀ y u s, long ⟨n, y, u, s⟩ = !decide (y.length ≤ 200) := fun y u s => by
        unfold long
        rw [decide_eq_false (p := 200 < n.length) (by omega), Bool.false_or]
        by_cases h : y.length ≤ 200
        · rw [decide_eq_true h, decide_eq_false (p := 200 < y.length) (by omega)]; rfl
        · rw [decide_eq_false h, decide_eq_true (p := 200 < y.length) (by omega)]; rfl
      cases r0 with
      | nil => exact readVar_zero_last t w _ _ (Hid.mk' H0) (Hid.mk' fun w' hb => RV.mk _ _ _ _ _ _ ⟨n, [], false, false⟩ [] rfl rfl rfl rfl rfl (VarAns.yes hv (by rw [hlong]; rfl)) hb) (by rw [bs_list]; rfl)
      | cons c q =>
        have hE : (bs (c :: q)).toList.isEmpty = false := by rw [bs_list]; rfl
        have h0 : 0 < (bs (c :: q)).size := by rw [bs_size]; simp
        by_cases hc : c.toNat = 1
        · have hc1 : c = 1 := UInt8.toNat_inj.1 hc
          subst hc1
          rw [afterName, if_pos (show (1 : UInt8).toNat = 1 from rfl)] at hv
          simp only [List.length_cons] at hr0
          have H2 : ∀ W, _ := fun W => readWord_any q W (by omega)
          have hbz : (bs (1 :: q)).size ≤ 10000000000 := by rw [bs_size, List.length_cons]; omega
          cases hw2 : word q with
          | none =>
            rw [wordT_none hw2] at H2
            rw [hw2] at hv
            exact readVar_zero_set t w q _ _ (Hid.mk' H0) _ _ _ (Hid.mk' H2) (Hid.mk' fun w' hb => RV.mk _ _ _ _ _ _ ⟨n, [], false, true⟩ [] rfl rfl rfl rfl rfl (VarAns.no _ _ hv) hb) hE hbz h0 rfl (by rw [bs_drop]; rfl)
          | some p2 =>
            obtain ⟨y, r1⟩ := p2
            rw [wordT_some hw2] at H2
            rw [hw2] at hv
            exact readVar_zero_set t w q _ _ (Hid.mk' H0) _ _ _ (Hid.mk' H2) (Hid.mk' fun w' hb => RV.mk _ _ _ _ _ _ ⟨n, y, false, true⟩ r1 rfl rfl rfl rfl rfl (VarAns.yes hv (by rw [hlong]; simp)) hb) hE hbz h0 rfl (by rw [bs_drop]; rfl)
        · rw [afterName, if_neg hc] at hv
          exact readVar_zero_next t w _ _ (Hid.mk' H0) (Hid.mk' fun w' hb => RV.mk _ _ _ _ _ _ ⟨n, [], false, false⟩ (c :: q) rfl rfl rfl rfl rfl (VarAns.yes hv (by rw [hlong]; rfl)) hb) hE h0 (by
            rw [beq_eq_false_iff_ne]
            show ((c.toNat : Int)) ≠ 1
            omega)
    · simp only [decide_eq_false hn] at H0
      exact readVar_zero_no t w _ _ (Hid.mk' H0) (Hid.mk' fun w' hb => RV.mk _ _ _ _ _ _ ⟨n, [], false, false⟩ r0 rfl rfl rfl rfl rfl (VarAns.long hw hn _ _) hb)

theorem readVar_three (t : List UInt8) (w : World) (hz : t.length ≤ 1000000000) : Calls Tryd.prog 18 #[.string (bs (3 :: t))] w (RV w (3 :: t)) := by
  have H0 : ∀ W, _ := fun W => readWord_any t W (by omega)
  have hv : ∀ p, word t = p → var0 (3 :: t) = p.bind fun p => afterName true p.1 p.2 := fun p hp => by rw [var0, if_pos (show isHead 3 = true from rfl), hp]; rfl
  cases hw : word t with
  | none =>
    rw [wordT_none hw] at H0
    exact readVar_three_no t w _ _ (Hid.mk' H0) (Hid.mk' fun w' hb => RV.mk _ _ _ _ _ _ ⟨[], [], true, false⟩ [] rfl rfl rfl rfl rfl (VarAns.no _ _ (hv _ hw)) hb)
  | some p =>
    obtain ⟨n, r0⟩ := p
    rw [wordT_some hw] at H0
    have hv := hv _ hw
    simp only [Option.bind_some] at hv
    have hle := (word_some hw).1
    have hr0 : r0.length ≤ t.length := by rw [hle, List.length_append]; omega
    by_cases hn : n.length ≤ 200
    · simp only [decide_eq_true hn] at H0
      have hlong : ∀ y u s, long ⟨n, y, u, s⟩ = !decide (y.length ≤ 200) := fun y u s => by
        unfold long
        rw [decide_eq_false (p := 200 < n.length) (by omega), Bool.false_or]
        by_cases h : y.length ≤ 200
        · rw [decide_eq_true h, decide_eq_false (p := 200 < y.length) (by omega)]; rfl
        · rw [decide_eq_false h, decide_eq_true (p := 200 < y.length) (by omega)]; rfl
      cases r0 with
      | nil => exact readVar_three_last t w _ _ (Hid.mk' H0) (Hid.mk' fun w' hb => RV.mk _ _ _ _ _ _ ⟨n, [], true, false⟩ [] rfl rfl rfl rfl rfl (VarAns.yes hv (by rw [hlong]; rfl)) hb) (by rw [bs_list]; rfl)
      | cons c q =>
        have hE : (bs (c :: q)).toList.isEmpty = false := by rw [bs_list]; rfl
        have h0 : 0 < (bs (c :: q)).size := by rw [bs_size]; simp
        by_cases hc : c.toNat = 1
        · have hc1 : c = 1 := UInt8.toNat_inj.1 hc
          subst hc1
          rw [afterName, if_pos (show (1 : UInt8).toNat = 1 from rfl)] at hv
          simp only [List.length_cons] at hr0
          have H2 : ∀ W, _ := fun W => readWord_any q W (by omega)
          have hbz : (bs (1 :: q)).size ≤ 10000000000 := by rw [bs_size, List.length_cons]; omega
          cases hw2 : word q with
          | none =>
            rw [wordT_none hw2] at H2
            rw [hw2] at hv
            exact readVar_three_set t w q _ _ (Hid.mk' H0) _ _ _ (Hid.mk' H2) (Hid.mk' fun w' hb => RV.mk _ _ _ _ _ _ ⟨n, [], true, true⟩ [] rfl rfl rfl rfl rfl (VarAns.no _ _ hv) hb) hE hbz h0 rfl (by rw [bs_drop]; rfl)
          | some p2 =>
            obtain ⟨y, r1⟩ := p2
            rw [wordT_some hw2] at H2
            rw [hw2] at hv
            exact readVar_three_set t w q _ _ (Hid.mk' H0) _ _ _ (Hid.mk' H2) (Hid.mk' fun w' hb => RV.mk _ _ _ _ _ _ ⟨n, y, true, true⟩ r1 rfl rfl rfl rfl rfl (VarAns.yes hv (by rw [hlong]; simp)) hb) hE hbz h0 rfl (by rw [bs_drop]; rfl)
        · rw [afterName, if_neg hc] at hv
          exact readVar_three_next t w _ _ (Hid.mk' H0) (Hid.mk' fun w' hb => RV.mk _ _ _ _ _ _ ⟨n, [], true, false⟩ (c :: q) rfl rfl rfl rfl rfl (VarAns.yes hv (by rw [hlong]; rfl)) hb) hE h0 (by
            rw [beq_eq_false_iff_ne]
            show ((c.toNat : Int)) ≠ 1
            omega)
    · simp only [decide_eq_false hn] at H0
      exact readVar_three_no t w _ _ (Hid.mk' H0) (Hid.mk' fun w' hb => RV.mk _ _ _ _ _ _ ⟨n, [], true, false⟩ r0 rfl rfl rfl rfl rfl (VarAns.long hw hn _ _) hb)

theorem readVar_any (b : UInt8) (t : List UInt8) (w : World) (hz : t.length ≤ 1000000000) : Calls Tryd.prog 18 #[.string (bs (b :: t))] w (RV w (b :: t)) := by
  cases hh : isHead b with
  | false => exact readVar_else b t w hh
  | true =>
    rcases of_decide_eq_true hh with h | h
    · obtain rfl : b = 0 := UInt8.toNat_inj.1 h
      exact readVar_zero t w hz
    · obtain rfl : b = 3 := UInt8.toNat_inj.1 h
      exact readVar_three t w hz
end Go.Proofs.YtbfiompbngpjoaaDoor.E
