/-
  Contract of about.Answer; condition: at most 2^43 names.
-/
import Derived.Test.YtgghplfcdkedcaaWOwn
import Derived.Test.YtgghplfcdkedcaaWEndWalk
import Derived.Deep.RegionHeld3
import Derived.Deep.DrawnRows
namespace Go.Proofs.Ytgghplfcdkedcaa.W
open Go.RowKit Go.Lib Go.Proofs.Ytgghplfcdkedcaa Go.Proofs.Ytgghplfcdkedcaa.Q

theorem infoSorts : (Try.prog.info? 30).map (fun i => (i.zero, i.size)) = some (some (.agg #[.slice none 0 0, .int .i64 0]), 2) := by kernel_rfl
theorem zeroSorts (w : World) : (zeroValue 30).run Try.prog w = .ok (.agg #[.slice none 0 0, .int .i64 0]) w := by
  cases hi : Try.prog.info? 30 with
  | none => have := infoSorts; rw [hi] at this; simp at this
  | some i =>
    have := infoSorts
    rw [hi] at this
    simp only [Option.map_some, Option.some.injEq, Prod.mk.injEq] at this
    simp [zeroValue, typeInfo, hi, this.1]

theorem keptA {w2 W wa : World} (hS : Below w2.heap.size w2 W) (hbl : ∀ B X, B ≤ W.heap.size → Below B X W → Below B X wa) : Below w2.heap.size w2 wa := hbl _ _ hS.size hS
theorem keptB {w2 W : World} {o : Obj} (hS : Below w2.heap.size w2 W) : Below w2.heap.size w2 (W.alloc o) := hS.alloc hS.size o

theorem keptC {w2 wa : World} {x y : Value} (h : Below w2.heap.size w2 wa) : Below w2.heap.size w2 ((wa.setCell ⟨w2.heap.size, 0, none⟩ x).setCell ⟨w2.heap.size, 1, none⟩ y) := (h.setCell (p := ⟨w2.heap.size, 0, none⟩) (Nat.le_refl _) x).setCell (p := ⟨w2.heap.size, 1, none⟩) (Nat.le_refl _) y
theorem OwnS.mono {w : World} {base b : Nat} {ad : Option Addr} {cap : Nat} {l : List ByteArray} (h : OwnS w base ad cap l) (hb : b ≤ base) : OwnS w b ad cap l := by
  refine ⟨h.1, ?_⟩
  rcases h.2 with hn | ⟨g, c, cur, fz, e, hbg, rest⟩
  · exact .inl hn
  · exact .inr ⟨g, c, cur, fz, e, by omega, rest⟩
theorem OwnS.far {w w' : World} {base : Nat} {ad : Option Addr} {cap : Nat} {l : List ByteArray} (h : OwnS w base ad cap l) (hk : ∀ k, base ≤ k → w'.heap[k]? = w.heap[k]?) : OwnS w' base ad cap l :=
  OwnR.keptAt h fun k hb => hk k (h.lt k hb).1

theorem sizeSorts : (Try.prog.info? 30).map (·.size) = some 2 := by kernel_rfl
theorem OwnS.far2 {w : World} {base b r : Nat} {x y : Value} {ad : Option Addr} {cap : Nat} {l : List ByteArray} (h : OwnS w base ad cap l) (hb : b ≤ base) (hr : r < base) : OwnS ((w.setCell ⟨r, 0, none⟩ x).setCell ⟨r, 1, none⟩ y) b ad cap l :=
  (OwnS.far h (fun k hk => by rw [setCell_other _ _ _ _ (by omega), setCell_other _ _ _ _ (by omega)])).mono hb

theorem nm_size {l : List ByteArray} {k : Int} (h : chk l k = 0) {j : Nat} : (nm l j).size ≤ 40 := by
  obtain ⟨h1, h8, hok, _, _⟩ := chk_ok h
  have hok := of_decide_eq_true hok
  have hm : min j (l.length - 1) < l.length := by omega
  have e : nm l j = l[min j (l.length - 1)] := by simp [nm, hm]
  have hn := (hok _ hm).1
  rw [e]
  unfold nameOk at hn
  rw [Bool.and_eq_true] at hn
  exact (of_decide_eq_true hn.1).2
/-- a block of another type is another one -/
theorem OwnS.other {w : World} {base b j : Nat} {ad : Option Addr} {cap : Nat} {l : List ByteArray} {q : List Value} (h : OwnS w base ad cap l) (hb : Box w b 30 q) (u : Value) : OwnS (w.setCell ⟨b, j, none⟩ u) base ad cap l :=
  OwnR.keptAt h fun k hk => by
    by_cases e : k = b
    · subst e
      obtain ⟨cur, fz, hc⟩ := OwnR.typed h k hk
      unfold Box at hb
      rw [hc] at hb
      simp at hb
    · exact setCell_other _ _ _ _ e

set_option maxHeartbeats 8000000 in
set_option maxRecDepth 100000 in
theorem Answer_bad (w : World) (v : Value) (l : List ByteArray) (k0 : Int) (d : ByteArray) (hv : RdS w v l) (hn : l.length ≤ 8796093022208) (h : (chk l k0 == 0) = false) :
    Calls Try.prog 12 #[.agg #[v, .int .i64 k0], .string d] w fun e w' => ∃ ad cap, e = .returned (.tuple #[.agg #[.slice ad l.length cap, .int .i64 k0], .string ⟨#[]⟩, .int .i64 (chk l k0)]) ∧ OwnS w' w.heap.size ad cap l ∧ Below w.heap.size w w' := by
  have HZ := Hid.mk' zeroSorts
  have HV := Hid.mk' hv
  obtain ⟨R, hR⟩ : ∃ R, chk l k0 = R := ⟨_, rfl⟩
  rw [hR] at h ⊢
  obtain ⟨a, c, rfl, hc, hr⟩ := hv
  clear hr
  go_enter Try.func12, Try.ntmps12
  go_wp2_with (refine wpList_box [.slice a l.length c, .int .i64 k0] 30 rfl _ rfl rfl ?_)
  intro w1 m1
  go_wp2_with (refine wpList_alloc [.slice none 0 0, .int .i64 0] 30 HZ.out rfl rfl ?_)
  intro w2 m2
  have hlt1 := m1.lt
  have hlt2 := m2.lt
  have HB2 := Hid.mk' (m2.below _ _ (Nat.le_of_lt hlt1) (m1.below _ _ (Nat.le_refl _) (Below.refl _ w)))
  have HT2 := Hid.mk' (m2.keep m1.box)
  have HR2 := Hid.mk' m2.box
  clear m1 m2
  have hc0 : ∀ w', Below w2.heap.size w2 w' → w'.cell? ⟨w.heap.size, 0, none⟩ = some (.slice a l.length c) := fun w' h => (HT2.out.later h).cell rfl
  have hc1 : ∀ w', Below w2.heap.size w2 w' → w'.cell? ⟨w.heap.size, 1, none⟩ = some (.int .i64 k0) := fun w' h => (HT2.out.later h).cell rfl
  have HVW : Hid (∀ W, Below w2.heap.size w2 W → RdS W (.slice a l.length c) l) := fun W hW => (HV.out.below HB2.out).below hW
  have H0 : Hid (Below w2.heap.size w2 w2.drew) := (Below.refl _ _).drew
  go_wp2_with fail
  go_region_held3 (fun w' => Below w2.heap.size w2 w') (first | with_reducible assumption | with_reducible exact H0.out | (refine keptA ?_ hbl; assumption) | (refine keptB ?_; assumption) | with_reducible exact keptB (keptA H0.out hbl) | with_reducible exact Below.drew (keptB (Below.refl _ _)) | (refine keptC ?_; assumption) | with_reducible exact keptC (keptA (Below.drew (keptB (Below.refl _ _))) hbl)) (((refine step_append_names _ (by rfl) _ _ (by rfl) _ none 0 (by rfl) (OwnS.nil _ _) _ l (by rfl) (HVW.out _ (by assumption)) (Nat.le_refl _) hn ?_; intro ad cap wa ho hbl; have hcl := fun p (hp : p.block < _) => Below.cell (hbl _ _ (Nat.le_refl _) (Below.refl _ _)) (p := p) hp; have hfr := fun p (hp : p.block < _) => Below.frozen (hbl _ _ (Nat.le_refl _) (Below.refl _ _)) (p := p) hp)))
  rotate_left
  · have hbe : Below w2.heap.size w2 wa := keptA (Below.drew (keptB (Below.refl _ _))) hbl
    have hlta : w2.heap.size < wa.heap.size := by
      have := (hbl _ _ (Nat.le_refl _) (Below.refl _ _)).size
      simp at this
      omega
    have HO : Hid (OwnS ((wa.setCell ⟨w2.heap.size, 0, none⟩ (.slice ad l.length cap)).setCell ⟨w2.heap.size, 1, none⟩ (.int .i64 k0)) w2.heap.size ad cap l) :=
      (OwnS.far ho (fun k hk => by
        have hk' : w2.heap.size < k := by simp at hk; omega
        rw [setCell_other _ _ _ _ (by omega), setCell_other _ _ _ _ (by omega)])).mono (by simp)
    have HX : Hid (Box ((wa.setCell ⟨w2.heap.size, 0, none⟩ (.slice ad l.length cap)).setCell ⟨w2.heap.size, 1, none⟩ (.int .i64 k0)) w2.heap.size 30 [.slice ad l.length cap, .int .i64 k0]) := by
      have h0 : Box wa w2.heap.size 30 [.slice none 0 0, .int .i64 0] := (Box.new w2 30 [.slice none 0 0, .int .i64 0]).drew.later (hbl _ _ (Nat.le_refl _) (Below.refl _ _))
      exact (h0.setCell 0 _).setCell 1 _
    have HBE := Hid.mk' (keptC (x := .slice ad l.length cap) (y := .int .i64 k0) hbe)
    have hOg : w2.heap.size ≤ w2.heap.size := Nat.le_refl _
    clear ho hbl hcl hfr hc0 hc1 H0 hbe hlta
    generalize (wa.setCell ⟨w2.heap.size, 0, none⟩ (.slice ad l.length cap)).setCell ⟨w2.heap.size, 1, none⟩ (.int .i64 k0) = w5 at *
    have HB5 := Hid.mk' (HB2.out.trans (HBE.out.mono HB2.out.size))
    have HR5 := Hid.mk' (HR2.out.later HBE.out)
    have hs5 := HBE.out.size
    have HC5 := Hid.mk' (Check_any w5 (.slice ad l.length cap) l k0 HO.out.rd (by omega))
    have d0 := HX.out.cell (j := 0) rfl
    have d1 := HX.out.cell (j := 1) rfl
    clear HT2 HV HVW HB2 HR2 HBE
    rw [hR] at HC5
    go_wp2_with fail
    refine HC5.out.mono ?_
    rintro e w6 ⟨rfl, hb6⟩
    have HB6 := Hid.mk' (HB5.out.trans (hb6.mono HB5.out.size))
    have HO6 := Hid.mk' (HO.out.below hb6)
    have HX6 := HX.out.later hb6
    have HR6 := Hid.mk' (HR5.out.later hb6)
    have d0 := HX6.cell (j := 0) rfl
    have d1 := HX6.cell (j := 1) rfl
    have r0 := HR6.out.cell (j := 0) rfl
    have r1 := HR6.out.cell (j := 1) rfl
    have r2 := HR6.out.frozen
    clear hb6 HB5 HO HR5 HX6
    go_wp2
    exact ret_box3 Try.results12 30 [.slice ad l.length cap, .int .i64 k0] w1.heap.size _ Try.underlying30 rfl sizeSorts _ _ rfl rfl rfl ((HR6.out.setCell 0 _).setCell 1 _) rfl ⟨ad, cap, rfl, OwnS.far2 HO6.out (by omega) hlt2, (HB6.out.setCell (p := ⟨w1.heap.size, 0, none⟩) (Nat.le_of_lt hlt1) _).setCell (p := ⟨w1.heap.size, 1, none⟩) (Nat.le_of_lt hlt1) _⟩
  · have hbe : Below w2.heap.size w2 wa := keptA H0.out hbl
    have HO : Hid (OwnS (wa.alloc (.cells #[.slice ad l.length cap, .int .i64 k0] 30)) w2.heap.size ad cap l) := (OwnS.below (ho.mono (by simp)) ((Below.refl _ _).alloc (Nat.le_refl _) _))
    have HX : Hid (Box (wa.alloc (.cells #[.slice ad l.length cap, .int .i64 k0] 30)) wa.heap.size 30 [.slice ad l.length cap, .int .i64 k0]) := Box.new wa _ _
    have HBE := Hid.mk' (keptB (o := .cells #[.slice ad l.length cap, .int .i64 k0] 30) hbe)
    have hOg : w2.heap.size ≤ wa.heap.size := hbe.size
    clear ho hbl hcl hfr hc0 hc1 H0 hbe
    generalize wa.alloc (.cells #[.slice ad l.length cap, .int .i64 k0] 30) = w5 at *
    have HB5 := Hid.mk' (HB2.out.trans (HBE.out.mono HB2.out.size))
    have HR5 := Hid.mk' (HR2.out.later HBE.out)
    have hs5 := HBE.out.size
    have HC5 := Hid.mk' (Check_any w5 (.slice ad l.length cap) l k0 HO.out.rd (by omega))
    have d0 := HX.out.cell (j := 0) rfl
    have d1 := HX.out.cell (j := 1) rfl
    clear HT2 HV HVW HB2 HR2 HBE
    rw [hR] at HC5
    go_wp2_with fail
    refine HC5.out.mono ?_
    rintro e w6 ⟨rfl, hb6⟩
    have HB6 := Hid.mk' (HB5.out.trans (hb6.mono HB5.out.size))
    have HO6 := Hid.mk' (HO.out.below hb6)
    have HX6 := HX.out.later hb6
    have HR6 := Hid.mk' (HR5.out.later hb6)
    have d0 := HX6.cell (j := 0) rfl
    have d1 := HX6.cell (j := 1) rfl
    have r0 := HR6.out.cell (j := 0) rfl
    have r1 := HR6.out.cell (j := 1) rfl
    have r2 := HR6.out.frozen
    clear hb6 HB5 HO HR5 HX6
    go_wp2
    exact ret_box3 Try.results12 30 [.slice ad l.length cap, .int .i64 k0] w1.heap.size _ Try.underlying30 rfl sizeSorts _ _ rfl rfl rfl ((HR6.out.setCell 0 _).setCell 1 _) rfl ⟨ad, cap, rfl, OwnS.far2 HO6.out (by omega) hlt2, (HB6.out.setCell (p := ⟨w1.heap.size, 0, none⟩) (Nat.le_of_lt hlt1) _).setCell (p := ⟨w1.heap.size, 1, none⟩) (Nat.le_of_lt hlt1) _⟩

set_option maxHeartbeats 8000000 in
set_option maxRecDepth 100000 in
theorem Answer_form (w : World) (v : Value) (l : List ByteArray) (k0 : Int) (d : ByteArray) (hv : RdS w v l) (hn : l.length ≤ 8796093022208) (h : chk l k0 = 0) (hd : (d.toList == [1]) = false) :
    Calls Try.prog 12 #[.agg #[v, .int .i64 k0], .string d] w fun e w' => ∃ ad cap, e = .returned (.tuple #[.agg #[.slice ad l.length cap, .int .i64 k0], .string ⟨#[]⟩, .int .i64 4]) ∧ OwnS w' w.heap.size ad cap l ∧ Below w.heap.size w w' := by
  have HZ := Hid.mk' zeroSorts
  have HV := Hid.mk' hv
  obtain ⟨a, c, rfl, hc, hr⟩ := hv
  clear hr
  go_enter Try.func12, Try.ntmps12
  go_wp2_with (refine wpList_box [.slice a l.length c, .int .i64 k0] 30 rfl _ rfl rfl ?_)
  intro w1 m1
  go_wp2_with (refine wpList_alloc [.slice none 0 0, .int .i64 0] 30 HZ.out rfl rfl ?_)
  intro w2 m2
  have hlt1 := m1.lt
  have hlt2 := m2.lt
  have HB2 := Hid.mk' (m2.below _ _ (Nat.le_of_lt hlt1) (m1.below _ _ (Nat.le_refl _) (Below.refl _ w)))
  have HT2 := Hid.mk' (m2.keep m1.box)
  have HR2 := Hid.mk' m2.box
  clear m1 m2
  have hc0 : ∀ w', Below w2.heap.size w2 w' → w'.cell? ⟨w.heap.size, 0, none⟩ = some (.slice a l.length c) := fun w' h => (HT2.out.later h).cell rfl
  have hc1 : ∀ w', Below w2.heap.size w2 w' → w'.cell? ⟨w.heap.size, 1, none⟩ = some (.int .i64 k0) := fun w' h => (HT2.out.later h).cell rfl
  have HVW : Hid (∀ W, Below w2.heap.size w2 W → RdS W (.slice a l.length c) l) := fun W hW => (HV.out.below HB2.out).below hW
  have H0 : Hid (Below w2.heap.size w2 w2.drew) := (Below.refl _ _).drew
  go_wp2_with fail
  go_region_held3 (fun w' => Below w2.heap.size w2 w') (first | with_reducible assumption | with_reducible exact H0.out | (refine keptA ?_ hbl; assumption) | (refine keptB ?_; assumption) | with_reducible exact keptB (keptA H0.out hbl) | with_reducible exact Below.drew (keptB (Below.refl _ _)) | (refine keptC ?_; assumption) | with_reducible exact keptC (keptA (Below.drew (keptB (Below.refl _ _))) hbl)) (((refine step_append_names _ (by rfl) _ _ (by rfl) _ none 0 (by rfl) (OwnS.nil _ _) _ l (by rfl) (HVW.out _ (by assumption)) (Nat.le_refl _) hn ?_; intro ad cap wa ho hbl; have hcl := fun p (hp : p.block < _) => Below.cell (hbl _ _ (Nat.le_refl _) (Below.refl _ _)) (p := p) hp; have hfr := fun p (hp : p.block < _) => Below.frozen (hbl _ _ (Nat.le_refl _) (Below.refl _ _)) (p := p) hp)))
  rotate_left
  · have hbe : Below w2.heap.size w2 wa := keptA (Below.drew (keptB (Below.refl _ _))) hbl
    have hlta : w2.heap.size < wa.heap.size := by
      have := (hbl _ _ (Nat.le_refl _) (Below.refl _ _)).size
      simp at this
      omega
    have HO : Hid (OwnS ((wa.setCell ⟨w2.heap.size, 0, none⟩ (.slice ad l.length cap)).setCell ⟨w2.heap.size, 1, none⟩ (.int .i64 k0)) w2.heap.size ad cap l) :=
      (OwnS.far ho (fun k hk => by
        have hk' : w2.heap.size < k := by simp at hk; omega
        rw [setCell_other _ _ _ _ (by omega), setCell_other _ _ _ _ (by omega)])).mono (by simp)
    have HX : Hid (Box ((wa.setCell ⟨w2.heap.size, 0, none⟩ (.slice ad l.length cap)).setCell ⟨w2.heap.size, 1, none⟩ (.int .i64 k0)) w2.heap.size 30 [.slice ad l.length cap, .int .i64 k0]) := by
      have h0 : Box wa w2.heap.size 30 [.slice none 0 0, .int .i64 0] := (Box.new w2 30 [.slice none 0 0, .int .i64 0]).drew.later (hbl _ _ (Nat.le_refl _) (Below.refl _ _))
      exact (h0.setCell 0 _).setCell 1 _
    have HBE := Hid.mk' (keptC (x := .slice ad l.length cap) (y := .int .i64 k0) hbe)
    have hOg : w2.heap.size ≤ w2.heap.size := Nat.le_refl _
    clear ho hbl hcl hfr hc0 hc1 H0 hbe hlta
    generalize (wa.setCell ⟨w2.heap.size, 0, none⟩ (.slice ad l.length cap)).setCell ⟨w2.heap.size, 1, none⟩ (.int .i64 k0) = w5 at *
    have HB5 := Hid.mk' (HB2.out.trans (HBE.out.mono HB2.out.size))
    have HR5 := Hid.mk' (HR2.out.later HBE.out)
    have hs5 := HBE.out.size
    have HC5 := Hid.mk' (Check_any w5 (.slice ad l.length cap) l k0 HO.out.rd (by omega))
    have d0 := HX.out.cell (j := 0) rfl
    have d1 := HX.out.cell (j := 1) rfl
    clear HT2 HV HVW HB2 HR2 HBE
    rw [h] at HC5
    go_wp2_with fail
    refine HC5.out.mono ?_
    rintro e w6 ⟨rfl, hb6⟩
    have HB6 := Hid.mk' (HB5.out.trans (hb6.mono HB5.out.size))
    have HO6 := Hid.mk' (HO.out.below hb6)
    have HX6 := HX.out.later hb6
    have HR6 := Hid.mk' (HR5.out.later hb6)
    have d0 := HX6.cell (j := 0) rfl
    have d1 := HX6.cell (j := 1) rfl
    have r0 := HR6.out.cell (j := 0) rfl
    have r1 := HR6.out.cell (j := 1) rfl
    have r2 := HR6.out.frozen
    clear hb6 HB5 HO HR5 HX6
    go_wp2
    exact ret_box3 Try.results12 30 [.slice ad l.length cap, .int .i64 k0] w1.heap.size _ Try.underlying30 rfl sizeSorts _ _ rfl rfl rfl ((HR6.out.setCell 0 _).setCell 1 _) rfl ⟨ad, cap, rfl, OwnS.far2 HO6.out (by omega) hlt2, (HB6.out.setCell (p := ⟨w1.heap.size, 0, none⟩) (Nat.le_of_lt hlt1) _).setCell (p := ⟨w1.heap.size, 1, none⟩) (Nat.le_of_lt hlt1) _⟩
  · have hbe : Below w2.heap.size w2 wa := keptA H0.out hbl
    have HO : Hid (OwnS (wa.alloc (.cells #[.slice ad l.length cap, .int .i64 k0] 30)) w2.heap.size ad cap l) := (OwnS.below (ho.mono (by simp)) ((Below.refl _ _).alloc (Nat.le_refl _) _))
    have HX : Hid (Box (wa.alloc (.cells #[.slice ad l.length cap, .int .i64 k0] 30)) wa.heap.size 30 [.slice ad l.length cap, .int .i64 k0]) := Box.new wa _ _
    have HBE := Hid.mk' (keptB (o := .cells #[.slice ad l.length cap, .int .i64 k0] 30) hbe)
    have hOg : w2.heap.size ≤ wa.heap.size := hbe.size
    clear ho hbl hcl hfr hc0 hc1 H0 hbe
    generalize wa.alloc (.cells #[.slice ad l.length cap, .int .i64 k0] 30) = w5 at *
    have HB5 := Hid.mk' (HB2.out.trans (HBE.out.mono HB2.out.size))
    have HR5 := Hid.mk' (HR2.out.later HBE.out)
    have hs5 := HBE.out.size
    have HC5 := Hid.mk' (Check_any w5 (.slice ad l.length cap) l k0 HO.out.rd (by omega))
    have d0 := HX.out.cell (j := 0) rfl
    have d1 := HX.out.cell (j := 1) rfl
    clear HT2 HV HVW HB2 HR2 HBE
    rw [h] at HC5
    go_wp2_with fail
    refine HC5.out.mono ?_
    rintro e w6 ⟨rfl, hb6⟩
    have HB6 := Hid.mk' (HB5.out.trans (hb6.mono HB5.out.size))
    have HO6 := Hid.mk' (HO.out.below hb6)
    have HX6 := HX.out.later hb6
    have HR6 := Hid.mk' (HR5.out.later hb6)
    have d0 := HX6.cell (j := 0) rfl
    have d1 := HX6.cell (j := 1) rfl
    have r0 := HR6.out.cell (j := 0) rfl
    have r1 := HR6.out.cell (j := 1) rfl
    have r2 := HR6.out.frozen
    clear hb6 HB5 HO HR5 HX6
    go_wp2
    exact ret_box3 Try.results12 30 [.slice ad l.length cap, .int .i64 k0] w1.heap.size _ Try.underlying30 rfl sizeSorts _ _ rfl rfl rfl ((HR6.out.setCell 0 _).setCell 1 _) rfl ⟨ad, cap, rfl, OwnS.far2 HO6.out (by omega) hlt2, (HB6.out.setCell (p := ⟨w1.heap.size, 0, none⟩) (Nat.le_of_lt hlt1) _).setCell (p := ⟨w1.heap.size, 1, none⟩) (Nat.le_of_lt hlt1) _⟩

set_option maxHeartbeats 8000000 in
set_option maxRecDepth 100000 in
theorem Answer_ok (w : World) (v : Value) (l : List ByteArray) (k : Nat) (hv : RdS w v l) (hn : l.length ≤ 8796093022208) (h : chk l (k : Int) = 0) (h0 : 0 < l.length) (hk : k ≤ l.length) :
    Calls Try.prog 12 #[.agg #[v, .int .i64 (k : Int)], .string ⟨#[1]⟩] w fun e w' => ∃ ad cap, e = .returned (.tuple #[.agg #[.slice ad l.length cap, .int .i64 (nx l k : Int)], .string (⟨#[0]⟩ ++ nm l k), .int .i64 0]) ∧ OwnS w' w.heap.size ad cap l ∧ Below w.heap.size w w' := by
  have HZ := Hid.mk' zeroSorts
  have HV := Hid.mk' hv
  obtain ⟨x, hx⟩ : ∃ x, nm l k = x := ⟨_, rfl⟩
  obtain ⟨y, hy⟩ : ∃ y, nx l k = y := ⟨_, rfl⟩
  have hxs := nm_size h (j := k)
  rw [hx, hy]
  rw [hx] at hxs
  obtain ⟨a, c, rfl, hc, hr⟩ := hv
  clear hr
  go_enter Try.func12, Try.ntmps12
  go_wp2_with (refine wpList_box [.slice a l.length c, .int .i64 (k : Int)] 30 rfl _ rfl rfl ?_)
  intro w1 m1
  go_wp2_with (refine wpList_alloc [.slice none 0 0, .int .i64 0] 30 HZ.out rfl rfl ?_)
  intro w2 m2
  have hlt1 := m1.lt
  have hlt2 := m2.lt
  have HB2 := Hid.mk' (m2.below _ _ (Nat.le_of_lt hlt1) (m1.below _ _ (Nat.le_refl _) (Below.refl _ w)))
  have HT2 := Hid.mk' (m2.keep m1.box)
  have HR2 := Hid.mk' m2.box
  clear m1 m2
  have hc0 : ∀ w', Below w2.heap.size w2 w' → w'.cell? ⟨w.heap.size, 0, none⟩ = some (.slice a l.length c) := fun w' h => (HT2.out.later h).cell rfl
  have hc1 : ∀ w', Below w2.heap.size w2 w' → w'.cell? ⟨w.heap.size, 1, none⟩ = some (.int .i64 (k : Int)) := fun w' h => (HT2.out.later h).cell rfl
  have HVW : Hid (∀ W, Below w2.heap.size w2 W → RdS W (.slice a l.length c) l) := fun W hW => (HV.out.below HB2.out).below hW
  have H0 : Hid (Below w2.heap.size w2 w2.drew) := (Below.refl _ _).drew
  go_wp2_with fail
  go_region_held3 (fun w' => Below w2.heap.size w2 w') (first | with_reducible assumption | with_reducible exact H0.out | (refine keptA ?_ hbl; assumption) | (refine keptB ?_; assumption) | with_reducible exact keptB (keptA H0.out hbl) | with_reducible exact Below.drew (keptB (Below.refl _ _)) | (refine keptC ?_; assumption) | with_reducible exact keptC (keptA (Below.drew (keptB (Below.refl _ _))) hbl)) (((refine step_append_names _ (by rfl) _ _ (by rfl) _ none 0 (by rfl) (OwnS.nil _ _) _ l (by rfl) (HVW.out _ (by assumption)) (Nat.le_refl _) hn ?_; intro ad cap wa ho hbl; have hcl := fun p (hp : p.block < _) => Below.cell (hbl _ _ (Nat.le_refl _) (Below.refl _ _)) (p := p) hp; have hfr := fun p (hp : p.block < _) => Below.frozen (hbl _ _ (Nat.le_refl _) (Below.refl _ _)) (p := p) hp)))
  rotate_left
  · have hbe : Below w2.heap.size w2 wa := keptA (Below.drew (keptB (Below.refl _ _))) hbl
    have hlta : w2.heap.size < wa.heap.size := by
      have := (hbl _ _ (Nat.le_refl _) (Below.refl _ _)).size
      simp at this
      omega
    have HO : Hid (OwnS ((wa.setCell ⟨w2.heap.size, 0, none⟩ (.slice ad l.length cap)).setCell ⟨w2.heap.size, 1, none⟩ (.int .i64 (k : Int))) w2.heap.size ad cap l) :=
      (OwnS.far ho (fun k hk => by
        have hk' : w2.heap.size < k := by simp at hk; omega
        rw [setCell_other _ _ _ _ (by omega), setCell_other _ _ _ _ (by omega)])).mono (by simp)
    have HX : Hid (Box ((wa.setCell ⟨w2.heap.size, 0, none⟩ (.slice ad l.length cap)).setCell ⟨w2.heap.size, 1, none⟩ (.int .i64 (k : Int))) w2.heap.size 30 [.slice ad l.length cap, .int .i64 (k : Int)]) := by
      have h0 : Box wa w2.heap.size 30 [.slice none 0 0, .int .i64 0] := (Box.new w2 30 [.slice none 0 0, .int .i64 0]).drew.later (hbl _ _ (Nat.le_refl _) (Below.refl _ _))
      exact (h0.setCell 0 _).setCell 1 _
    have HBE := Hid.mk' (keptC (x := .slice ad l.length cap) (y := .int .i64 (k : Int)) hbe)
    have hOg : w2.heap.size ≤ w2.heap.size := Nat.le_refl _
    clear ho hbl hcl hfr hc0 hc1 H0 hbe hlta
    generalize (wa.setCell ⟨w2.heap.size, 0, none⟩ (.slice ad l.length cap)).setCell ⟨w2.heap.size, 1, none⟩ (.int .i64 (k : Int)) = w5 at *
    have HB5 := Hid.mk' (HB2.out.trans (HBE.out.mono HB2.out.size))
    have HR5 := Hid.mk' (HR2.out.later HBE.out)
    have hs5 := HBE.out.size
    have HC5 := Hid.mk' (Check_any w5 (.slice ad l.length cap) l (k : Int) HO.out.rd (by omega))
    have d0 := HX.out.cell (j := 0) rfl
    have d1 := HX.out.cell (j := 1) rfl
    clear HT2 HV HVW HB2 HR2 HBE
    rw [h] at HC5
    go_wp2_with fail
    refine HC5.out.mono ?_
    rintro e w6 ⟨rfl, hb6⟩
    have HB6 := Hid.mk' (HB5.out.trans (hb6.mono HB5.out.size))
    have HO6 := Hid.mk' (HO.out.below hb6)
    have HX6 := Hid.mk' (HX.out.later hb6)
    have HR6 := Hid.mk' (HR5.out.later hb6)
    have d0 := HX6.out.cell (j := 0) rfl
    have d1 := HX6.out.cell (j := 1) rfl
    have HN6 := Hid.mk' (next_any w6 (.slice ad l.length cap) l k HO6.out.rd (by omega) h0 hk)
    rw [hx, hy] at HN6
    clear hb6 HB5 HO HR5 HX
    go_wp2_with fail
    refine HN6.out.mono ?_
    rintro e w7 ⟨rfl, hb7⟩
    have HB7 := Hid.mk' (HB6.out.trans (hb7.mono HB6.out.size))
    have HO7 := Hid.mk' (HO6.out.below hb7)
    have HX7 := Hid.mk' (HX6.out.later hb7)
    have HR7 := Hid.mk' (HR6.out.later hb7)
    have d0 := HX7.out.cell (j := 0) rfl
    have d1 := HX7.out.cell (j := 1) rfl
    have d2 := HX7.out.frozen
    clear hb7 HB6 HO6 HR6 HX6 HN6
    have HO8 : Hid (∀ u, OwnS (w7.setCell ⟨w2.heap.size, 1, none⟩ u) w2.heap.size ad cap l) := fun u => HO7.out.other HX7.out u
    have r0 : ∀ u, (w7.setCell ⟨w2.heap.size, 1, none⟩ u).cell? ⟨w1.heap.size, 0, none⟩ = some (.slice none 0 0) := fun u => (HR7.out.kept (setCell_other _ _ _ _ (by omega))).cell rfl
    have r1 : ∀ u, (w7.setCell ⟨w2.heap.size, 1, none⟩ u).cell? ⟨w1.heap.size, 1, none⟩ = some (.int .i64 0) := fun u => (HR7.out.kept (setCell_other _ _ _ _ (by omega))).cell rfl
    have r2 : ∀ u j, (w7.setCell ⟨w2.heap.size, 1, none⟩ u).frozen? ⟨w1.heap.size, j, none⟩ = false := fun u j => (HR7.out.kept (setCell_other _ _ _ _ (by omega))).frozen j
    go_wp2
    exact ret_box3 Try.results12 30 [.slice ad l.length cap, .int .i64 (y : Int)] w1.heap.size _ Try.underlying30 rfl sizeSorts _ _ rfl rfl rfl (((HR7.out.kept (setCell_other _ _ _ _ (by omega))).setCell 0 _).setCell 1 _) rfl ⟨ad, cap, rfl, OwnS.far2 (HO8.out (.int .i64 (y : Int))) (by omega) hlt2, ((HB7.out.setCell (p := ⟨w2.heap.size, 1, none⟩) (show w.heap.size ≤ w2.heap.size by omega) _).setCell (p := ⟨w1.heap.size, 0, none⟩) (Nat.le_of_lt hlt1) _).setCell (p := ⟨w1.heap.size, 1, none⟩) (Nat.le_of_lt hlt1) _⟩
  · have hbe : Below w2.heap.size w2 wa := keptA H0.out hbl
    have HO : Hid (OwnS (wa.alloc (.cells #[.slice ad l.length cap, .int .i64 (k : Int)] 30)) w2.heap.size ad cap l) := (OwnS.below (ho.mono (by simp)) ((Below.refl _ _).alloc (Nat.le_refl _) _))
    have HX : Hid (Box (wa.alloc (.cells #[.slice ad l.length cap, .int .i64 (k : Int)] 30)) wa.heap.size 30 [.slice ad l.length cap, .int .i64 (k : Int)]) := Box.new wa _ _
    have HBE := Hid.mk' (keptB (o := .cells #[.slice ad l.length cap, .int .i64 (k : Int)] 30) hbe)
    have hOg : w2.heap.size ≤ wa.heap.size := hbe.size
    clear ho hbl hcl hfr hc0 hc1 H0 hbe
    generalize wa.alloc (.cells #[.slice ad l.length cap, .int .i64 (k : Int)] 30) = w5 at *
    have HB5 := Hid.mk' (HB2.out.trans (HBE.out.mono HB2.out.size))
    have HR5 := Hid.mk' (HR2.out.later HBE.out)
    have hs5 := HBE.out.size
    have HC5 := Hid.mk' (Check_any w5 (.slice ad l.length cap) l (k : Int) HO.out.rd (by omega))
    have d0 := HX.out.cell (j := 0) rfl
    have d1 := HX.out.cell (j := 1) rfl
    clear HT2 HV HVW HB2 HR2 HBE
    rw [h] at HC5
    go_wp2_with fail
    refine HC5.out.mono ?_
    rintro e w6 ⟨rfl, hb6⟩
    have HB6 := Hid.mk' (HB5.out.trans (hb6.mono HB5.out.size))
    have HO6 := Hid.mk' (HO.out.below hb6)
    have HX6 := Hid.mk' (HX.out.later hb6)
    have HR6 := Hid.mk' (HR5.out.later hb6)
    have d0 := HX6.out.cell (j := 0) rfl
    have d1 := HX6.out.cell (j := 1) rfl
    have HN6 := Hid.mk' (next_any w6 (.slice ad l.length cap) l k HO6.out.rd (by omega) h0 hk)
    rw [hx, hy] at HN6
    clear hb6 HB5 HO HR5 HX
    go_wp2_with fail
    refine HN6.out.mono ?_
    rintro e w7 ⟨rfl, hb7⟩
    have HB7 := Hid.mk' (HB6.out.trans (hb7.mono HB6.out.size))
    have HO7 := Hid.mk' (HO6.out.below hb7)
    have HX7 := Hid.mk' (HX6.out.later hb7)
    have HR7 := Hid.mk' (HR6.out.later hb7)
    have d0 := HX7.out.cell (j := 0) rfl
    have d1 := HX7.out.cell (j := 1) rfl
    have d2 := HX7.out.frozen
    clear hb7 HB6 HO6 HR6 HX6 HN6
    have HO8 : Hid (∀ u, OwnS (w7.setCell ⟨wa.heap.size, 1, none⟩ u) w2.heap.size ad cap l) := fun u => HO7.out.other HX7.out u
    have r0 : ∀ u, (w7.setCell ⟨wa.heap.size, 1, none⟩ u).cell? ⟨w1.heap.size, 0, none⟩ = some (.slice none 0 0) := fun u => (HR7.out.kept (setCell_other _ _ _ _ (by omega))).cell rfl
    have r1 : ∀ u, (w7.setCell ⟨wa.heap.size, 1, none⟩ u).cell? ⟨w1.heap.size, 1, none⟩ = some (.int .i64 0) := fun u => (HR7.out.kept (setCell_other _ _ _ _ (by omega))).cell rfl
    have r2 : ∀ u j, (w7.setCell ⟨wa.heap.size, 1, none⟩ u).frozen? ⟨w1.heap.size, j, none⟩ = false := fun u j => (HR7.out.kept (setCell_other _ _ _ _ (by omega))).frozen j
    go_wp2
    exact ret_box3 Try.results12 30 [.slice ad l.length cap, .int .i64 (y : Int)] w1.heap.size _ Try.underlying30 rfl sizeSorts _ _ rfl rfl rfl (((HR7.out.kept (setCell_other _ _ _ _ (by omega))).setCell 0 _).setCell 1 _) rfl ⟨ad, cap, rfl, OwnS.far2 (HO8.out (.int .i64 (y : Int))) (by omega) hlt2, ((HB7.out.setCell (p := ⟨wa.heap.size, 1, none⟩) (show w.heap.size ≤ wa.heap.size by omega) _).setCell (p := ⟨w1.heap.size, 0, none⟩) (Nat.le_of_lt hlt1) _).setCell (p := ⟨w1.heap.size, 1, none⟩) (Nat.le_of_lt hlt1) _⟩
end Go.Proofs.Ytgghplfcdkedcaa.W
