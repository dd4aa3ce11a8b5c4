/-
  The walk of farkeep.AboutOwn: it returns true and writes nothing old; conditions: at most 2^43 names, none of more than 2^63 - 1 bytes.
-/
import Derived.Test.YtgghplfcdkedcaaWAns
import Derived.Test.YtgghplfcdkedcaaWSorts
namespace Go.Proofs.Ytgghplfcdkedcaa.W
open Go.RowKit Go.Lib Go.Proofs.Ytgghplfcdkedcaa Go.Proofs.Ytgghplfcdkedcaa.Q

theorem setCell_block {w : World} {b : Nat} {arr : Array Value} {t : TypeId} {fz : Nat × Nat} (h : w.heap[b]? = some (.cells arr t fz)) (k : Nat) (v : Value) : (w.setCell ⟨b, k, none⟩ v).heap[b]? = some (.cells (arr.setIfInBounds k v) t fz) := by
  rw [setCell_eq_setRow w b k arr t fz v h]
  exact setRow_heap w b arr _ t fz h
theorem free_frozen {w : World} {g j : Nat} {cur : Array Value} {t : TypeId} {fz : Nat × Nat} (hg : w.heap[g]? = some (.cells cur t fz)) (hf : Free cur fz) (hj : j < cur.size) : w.frozen? ⟨g, j, none⟩ = false := by
  obtain ⟨lo, hi⟩ := fz
  rcases hf with h | h
  · simp only [Prod.mk.injEq] at h
    obtain ⟨rfl, rfl⟩ := h
    simp [World.frozen?, hg]
  · simp only at h
    simp only [World.frozen?, hg, Bool.and_eq_false_iff, decide_eq_false_iff_not]
    left
    omega
/-- a block that may be written -/
def Room (w : World) (g n : Nat) : Prop := ∃ cur fz, w.heap[g]? = some (.cells cur 9 fz) ∧ Free cur fz ∧ cur.size = n
theorem Room.cell {w : World} {g n : Nat} (h : Room w g n) {j : Nat} (hj : j < n) : (∃ x, w.cell? ⟨g, j, none⟩ = some x) ∧ w.frozen? ⟨g, j, none⟩ = false := by
  obtain ⟨cur, fz, hg, hf, hs⟩ := h
  exact ⟨⟨cur[j]'(by omega), by rw [cell_of_row w g j cur _ fz hg]; simp [show j < cur.size by omega]⟩, free_frozen hg hf (by omega)⟩
theorem Room.set {w : World} {g n : Nat} (h : Room w g n) (j : Nat) (v : Value) : Room (w.setCell ⟨g, j, none⟩ v) g n := by
  obtain ⟨cur, fz, hg, hf, hs⟩ := h
  refine ⟨_, fz, setCell_block hg j v, ?_, by simpa using hs⟩
  rcases hf with h | h
  · exact .inl h
  · exact .inr (by simpa using h)
theorem OwnS.room {w : World} {base g cap : Nat} {l : List ByteArray} (h : OwnS w base (some ⟨g, 0, none⟩) cap l) : base ≤ g ∧ l.length ≤ cap ∧ cap ≤ maxLen ∧ Room w g cap := by
  rcases h.2 with ⟨e, _⟩ | ⟨g', c, cur, fz, e, hb, hg, hf, hn, hm, hs, _⟩
  · simp at e
  · simp only [Value.slice.injEq, Option.some.injEq, Addr.mk.injEq, and_true] at e
    obtain ⟨⟨rfl, _⟩, _, rfl⟩ := e
    exact ⟨hb, hn, hm, cur, fz, hg, hf, by simpa using hs⟩
theorem OwnS.shape {w : World} {base cap : Nat} {ad : Option Addr} {l : List ByteArray} (h : OwnS w base ad cap l) : (ad = none ∧ cap = 0 ∧ l = []) ∨ ∃ g, ad = some ⟨g, 0, none⟩ := by
  rcases h.2 with ⟨e, e2⟩ | ⟨g', c, cur, fz, e, _⟩
  · simp only [Value.slice.injEq] at e
    exact .inl ⟨e.1, e.2.2, List.length_eq_zero_iff.1 e2⟩
  · simp only [Value.slice.injEq] at e
    exact .inr ⟨g', e.1⟩

def OwState (w2 : World) (g cap : Nat) (s55 : Value) (wr : World) : Prop :=
  ∃ j : Nat, j ≤ cap ∧ s55 = .int .i64 (j : Int) ∧ Below w2.heap.size w2 wr ∧ Room wr g cap

set_option maxHeartbeats 8000000 in
set_option maxRecDepth 100000 in
theorem Own_err (v : Value) (l : List ByteArray) (k0 : Int) (d : ByteArray) (f : Int) (w : World) (hv : RdS w v l) (hn : l.length ≤ 8796093022208)
    (HA : Hid (∀ W, RdS W v l → Calls Try.prog 12 #[.agg #[v, .int .i64 k0], .string d] W fun e w' => ∃ ad cap, e = .returned (.tuple #[.agg #[.slice ad l.length cap, .int .i64 k0], .string ⟨#[]⟩, .int .i64 f]) ∧ OwnS w' W.heap.size ad cap l ∧ Below W.heap.size W w'))
    (hf : f = 1 ∨ f = 4) :
    Calls Try.prog 8 #[.agg #[v, .int .i64 k0], .string d] w fun e w' => e = .returned (.bool true) ∧ Below w.heap.size w w' := by
  have HV := Hid.mk' hv
  have HL := Hid.mk' lives_any
  obtain ⟨a, c, rfl, hc, hr⟩ := hv
  clear hr
  rcases hf with rfl | rfl
  all_goals
    go_enter Try.func8, Try.ntmps8
    go_wp2_with (refine wpList_box [.slice a l.length c, .int .i64 k0] 30 rfl _ rfl rfl ?_)
    intro w1 m1
    have HB1 := Hid.mk' (m1.below _ _ (Nat.le_refl _) (Below.refl _ w))
    have HT1 := Hid.mk' m1.box
    have HC1 := Hid.mk' (Clone_any w1 _ l (HV.out.below HB1.out) hn)
    have c0 := HT1.out.cell (j := 0) rfl
    have c1 := HT1.out.cell (j := 1) rfl
    clear m1
    go_wp2_with fail
    refine HC1.out.mono ?_
    rintro e w2 ⟨adB, capB, rfl, hoB, hb2⟩
    have HB2 := Hid.mk' (HB1.out.trans (hb2.mono HB1.out.size))
    have HT2 := Hid.mk' (HT1.out.later hb2)
    have HRB := Hid.mk' hoB.rd
    have HV2 := Hid.mk' (HV.out.below HB2.out)
    have HA2 := Hid.mk' (HA.out w2 HV2.out)
    clear hb2 hoB HT1 HB1 HC1 c0 c1 HA HV
    have c0 := HT2.out.cell (j := 0) rfl
    have c1 := HT2.out.cell (j := 1) rfl
    go_wp2_with fail
    refine HA2.out.mono ?_
    rintro e w3 ⟨ad, cap, rfl, ho, hb3⟩
    have hsh := ho.shape
    have HO4 := Hid.mk' (ho.below ((Below.refl _ _).alloc (Nat.le_refl _) (.cells #[.slice ad l.length cap, .int .i64 k0] 30)))
    have HX4 : Hid (Box (w3.alloc (.cells #[.slice ad l.length cap, .int .i64 k0] 30)) w3.heap.size 30 [.slice ad l.length cap, .int .i64 k0]) := Box.new w3 _ _
    have HD4 := Hid.mk' (hb3.alloc hb3.size (.cells #[.slice ad l.length cap, .int .i64 k0] 30))
    have hs4 := HD4.out.size
    have e0 := (HT2.out.later HD4.out).cell (j := 0) rfl
    have e1 := (HT2.out.later HD4.out).cell (j := 1) rfl
    have HE4 := Hid.mk' (Equal_same _ (.slice a l.length c) (.slice adB l.length capB) l (HV2.out.below HD4.out) (HRB.out.below HD4.out) (by omega))
    clear ho hb3 HA2 c0 c1
    go_wp2_with fail
    generalize w3.alloc (.cells #[.slice ad l.length cap, .int .i64 k0] 30) = w4 at *
    refine HE4.out.mono ?_
    rintro e w5 ⟨rfl, q, rfl⟩
    have HD5 := Hid.mk' (below_drewN HD4.out q)
    have HO5 := Hid.mk' (HO4.out.below (below_drewN (Below.refl _ _) q))
    have HX5 := Hid.mk' (HX4.out.later (below_drewN (Below.refl _ _) q))
    have e0 := (HT2.out.later HD5.out).cell (j := 0) rfl
    have e1 := (HT2.out.later HD5.out).cell (j := 1) rfl
    have x0 := HX5.out.cell (j := 0) rfl
    have x1 := HX5.out.cell (j := 1) rfl
    clear HD4 HO4 HX4 HE4 hs4
    generalize w4.drewN q = w5 at *
    have HE5 := Hid.mk' (Equal_same _ (.slice ad l.length cap) (.slice adB l.length capB) l HO5.out.rd (HRB.out.below HD5.out) (by omega))
    go_wp2_with fail
    refine HE5.out.mono ?_
    rintro e w6 ⟨rfl, q2, rfl⟩
    have HD6 := Hid.mk' (below_drewN HD5.out q2)
    have HO6 := Hid.mk' (HO5.out.below (below_drewN (Below.refl _ _) q2))
    have HX6 := Hid.mk' (HX5.out.later (below_drewN (Below.refl _ _) q2))
    clear HE5 HD5 HO5 HX5 x0 x1 e0 e1
    have e0 := (HT2.out.later HD6.out).cell (j := 0) rfl
    have e1 := (HT2.out.later HD6.out).cell (j := 1) rfl
    have x0 := HX6.out.cell (j := 0) rfl
    have x1 := HX6.out.cell (j := 1) rfl
    generalize w5.drewN q2 = w6 at *
    have hs6 := HD6.out.size
    rcases hsh with ⟨rfl, rfl, rfl⟩ | ⟨g, rfl⟩
    · clear HO6 HX6 hs6
      go_wp2_with fail
      go_loopw [55] (fun s55 wr => s55 = .int .i64 0 ∧ wr = w6) (fun _ _ => 0)
      case atStart => exact ⟨rfl, rfl⟩
      case round =>
        obtain ⟨rfl, rfl⟩ := hrel
        have HE7 : Hid (∀ W, Below w2.heap.size w2 W → Calls Try.prog 15 #[.slice a ([] : List ByteArray).length c, .slice adB ([] : List ByteArray).length capB] W fun e w' => e = .returned (.bool true) ∧ ∃ q, w' = W.drewN q) := fun W hW => Equal_same W _ _ [] (HV2.out.below hW) (HRB.out.below hW) (by first | omega | simp)
        go_wp2_with fail
        refine (HL.out _).mono ?_
        rintro e w7 ⟨rfl, hb7⟩
        have HD7 := Hid.mk' (HD6.out.trans (hb7.mono HD6.out.size))
        have f0 := (HT2.out.later HD7.out).cell (j := 0) rfl
        have f1 := (HT2.out.later HD7.out).cell (j := 1) rfl
        clear hb7 HD6 HL
        go_wp2_with fail
        refine (HE7.out _ HD7.out).mono ?_
        rintro e w8 ⟨rfl, q8, rfl⟩
        have HD8 := Hid.mk' (below_drewN HD7.out q8)
        have f0 := (HT2.out.later HD8.out).cell (j := 0) rfl
        have f1 := (HT2.out.later HD8.out).cell (j := 1) rfl
        clear HD7 HE7
        generalize w7.drewN q8 = w8 at *
        have HBF := Hid.mk' (HB2.out.trans (HD8.out.mono HB2.out.size))
        clear HD8
        go_wp2
        go_ret
        exact ⟨rfl, HBF.out⟩
    · obtain ⟨hg, hlc, hcm, hrm⟩ := HO6.out.room
      have HRM := Hid.mk' hrm
      have hcm' : cap ≤ 9223372036854775807 := by simpa [maxLen] using hcm
      clear hrm HO6 HX6 hs6 hcm
      go_wp2_with fail
      go_loopw [55] (fun s55 wr => OwState w2 g cap s55 wr) (fun i _ => cap - (RowKit.intOf i).toNat)
      case atStart => exact ⟨0, Nat.zero_le _, rfl, HD6.out, HRM.out⟩
      case round =>
        obtain ⟨j, hj, rfl, hbl, hrm⟩ := hrel
        clear x0 x1 e0 e1 HRM HD6
        by_cases hjl : j < cap
        · obtain ⟨⟨x, y0⟩, y1⟩ := hrm.cell hjl
          have HBL := Hid.mk' hbl
          have HRM := Hid.mk' hrm
          clear hbl hrm HL HT2 HRB HV2
          go_wp2
          go_roundw
          case rel => exact ⟨j + 1, by omega, by go_num, HBL.out.setCell (p := ⟨g, j, none⟩) hg _, HRM.out.set j _⟩
          case measure => simp [RowKit.intOf]; omega
        · obtain rfl : j = cap := by omega
          have HBL := Hid.mk' hbl
          clear hbl hrm
          have HE7 : Hid (∀ W, Below w2.heap.size w2 W → Calls Try.prog 15 #[.slice a l.length c, .slice adB l.length capB] W fun e w' => e = .returned (.bool true) ∧ ∃ q, w' = W.drewN q) := fun W hW => Equal_same W _ _ l (HV2.out.below hW) (HRB.out.below hW) (by first | omega | simp)
          go_wp2_with fail
          refine (HL.out _).mono ?_
          rintro e w7 ⟨rfl, hb7⟩
          have HD7 := Hid.mk' (HBL.out.trans (hb7.mono HBL.out.size))
          have f0 := (HT2.out.later HD7.out).cell (j := 0) rfl
          have f1 := (HT2.out.later HD7.out).cell (j := 1) rfl
          clear hb7 HBL HL
          go_wp2_with fail
          refine (HE7.out _ HD7.out).mono ?_
          rintro e w8 ⟨rfl, q8, rfl⟩
          have HD8 := Hid.mk' (below_drewN HD7.out q8)
          have f0 := (HT2.out.later HD8.out).cell (j := 0) rfl
          have f1 := (HT2.out.later HD8.out).cell (j := 1) rfl
          clear HD7 HE7
          generalize w7.drewN q8 = w8 at *
          have HBF := Hid.mk' (HB2.out.trans (HD8.out.mono HB2.out.size))
          clear HD8
          go_wp2
          go_ret
          exact ⟨rfl, HBF.out⟩

set_option maxHeartbeats 8000000 in
set_option maxRecDepth 100000 in
theorem Own_ok (v : Value) (l : List ByteArray) (k0 : Int) (d : ByteArray) (y : Int) (s : ByteArray) (w : World) (hv : RdS w v l) (hn : l.length ≤ 8796093022208)
    (HA : Hid (∀ W, RdS W v l → Calls Try.prog 12 #[.agg #[v, .int .i64 k0], .string d] W fun e w' => ∃ ad cap, e = .returned (.tuple #[.agg #[.slice ad l.length cap, .int .i64 y], .string s, .int .i64 0]) ∧ OwnS w' W.heap.size ad cap l ∧ Below W.heap.size W w'))
    (HSR : Hid (∀ W, RdS W v l → Calls Try.prog 13 #[.agg #[v, .int .i64 k0]] W fun e w' => e = .returned (.int .i64 0) ∧ Below W.heap.size W w')) :
    Calls Try.prog 8 #[.agg #[v, .int .i64 k0], .string d] w fun e w' => e = .returned (.bool true) ∧ Below w.heap.size w w' := by
  have HV := Hid.mk' hv
  have HL := Hid.mk' lives_any
  obtain ⟨a, c, rfl, hc, hr⟩ := hv
  clear hr
  all_goals
    go_enter Try.func8, Try.ntmps8
    go_wp2_with (refine wpList_box [.slice a l.length c, .int .i64 k0] 30 rfl _ rfl rfl ?_)
    intro w1 m1
    have HB1 := Hid.mk' (m1.below _ _ (Nat.le_refl _) (Below.refl _ w))
    have HT1 := Hid.mk' m1.box
    have HC1 := Hid.mk' (Clone_any w1 _ l (HV.out.below HB1.out) hn)
    have c0 := HT1.out.cell (j := 0) rfl
    have c1 := HT1.out.cell (j := 1) rfl
    clear m1
    go_wp2_with fail
    refine HC1.out.mono ?_
    rintro e w2 ⟨adB, capB, rfl, hoB, hb2⟩
    have HB2 := Hid.mk' (HB1.out.trans (hb2.mono HB1.out.size))
    have HT2 := Hid.mk' (HT1.out.later hb2)
    have HRB := Hid.mk' hoB.rd
    have HV2 := Hid.mk' (HV.out.below HB2.out)
    have HA2 := Hid.mk' (HA.out w2 HV2.out)
    clear hb2 hoB HT1 HB1 HC1 c0 c1 HA HV
    have c0 := HT2.out.cell (j := 0) rfl
    have c1 := HT2.out.cell (j := 1) rfl
    go_wp2_with fail
    refine HA2.out.mono ?_
    rintro e w3 ⟨ad, cap, rfl, ho, hb3⟩
    have hsh := ho.shape
    have HO4 := Hid.mk' (ho.below ((Below.refl _ _).alloc (Nat.le_refl _) (.cells #[.slice ad l.length cap, .int .i64 y] 30)))
    have HX4 : Hid (Box (w3.alloc (.cells #[.slice ad l.length cap, .int .i64 y] 30)) w3.heap.size 30 [.slice ad l.length cap, .int .i64 y]) := Box.new w3 _ _
    have HD4 := Hid.mk' (hb3.alloc hb3.size (.cells #[.slice ad l.length cap, .int .i64 y] 30))
    have hs4 := HD4.out.size
    have e0 := (HT2.out.later HD4.out).cell (j := 0) rfl
    have e1 := (HT2.out.later HD4.out).cell (j := 1) rfl
    have HE4 := Hid.mk' (Equal_same _ (.slice a l.length c) (.slice adB l.length capB) l (HV2.out.below HD4.out) (HRB.out.below HD4.out) (by omega))
    clear ho hb3 HA2 c0 c1
    go_wp2_with fail
    generalize w3.alloc (.cells #[.slice ad l.length cap, .int .i64 y] 30) = w4 at *
    refine HE4.out.mono ?_
    rintro e w5 ⟨rfl, q, rfl⟩
    have HD5 := Hid.mk' (below_drewN HD4.out q)
    have HO5 := Hid.mk' (HO4.out.below (below_drewN (Below.refl _ _) q))
    have HX5 := Hid.mk' (HX4.out.later (below_drewN (Below.refl _ _) q))
    have e0 := (HT2.out.later HD5.out).cell (j := 0) rfl
    have e1 := (HT2.out.later HD5.out).cell (j := 1) rfl
    have x0 := HX5.out.cell (j := 0) rfl
    have x1 := HX5.out.cell (j := 1) rfl
    clear HD4 HO4 HX4 HE4 hs4
    generalize w4.drewN q = w5 at *
    have HD6 := HD5
    have HO6 := HO5
    have HX6 := HX5
    clear HD5 HO5 HX5
    obtain ⟨w6, hw6⟩ : ∃ w6, w6 = w5 := ⟨_, rfl⟩
    subst hw6
    have hs6 := HD6.out.size
    rcases hsh with ⟨rfl, rfl, rfl⟩ | ⟨g, rfl⟩
    · clear HO6 HX6 hs6
      go_wp2_with fail
      go_loopw [55] (fun s55 wr => s55 = .int .i64 0 ∧ wr = w6) (fun _ _ => 0)
      case atStart => exact ⟨rfl, rfl⟩
      case round =>
        obtain ⟨rfl, rfl⟩ := hrel
        have HE7 : Hid (∀ W, Below w2.heap.size w2 W → Calls Try.prog 15 #[.slice a ([] : List ByteArray).length c, .slice adB ([] : List ByteArray).length capB] W fun e w' => e = .returned (.bool true) ∧ ∃ q, w' = W.drewN q) := fun W hW => Equal_same W _ _ [] (HV2.out.below hW) (HRB.out.below hW) (by first | omega | simp)
        go_wp2_with fail
        refine (HL.out _).mono ?_
        rintro e w7 ⟨rfl, hb7⟩
        have HD7 := Hid.mk' (HD6.out.trans (hb7.mono HD6.out.size))
        have f0 := (HT2.out.later HD7.out).cell (j := 0) rfl
        have f1 := (HT2.out.later HD7.out).cell (j := 1) rfl
        clear hb7 HD6 HL
        go_wp2_with fail
        refine (HE7.out _ HD7.out).mono ?_
        rintro e w8 ⟨rfl, q8, rfl⟩
        have HD8 := Hid.mk' (below_drewN HD7.out q8)
        have f0 := (HT2.out.later HD8.out).cell (j := 0) rfl
        have f1 := (HT2.out.later HD8.out).cell (j := 1) rfl
        clear HD7 HE7
        generalize w7.drewN q8 = w8 at *
        have HS8 := Hid.mk' (HSR.out w8 (HV2.out.below HD8.out))
        go_wp2_with fail
        refine HS8.out.mono ?_
        rintro e w9 ⟨rfl, hb9⟩
        have HBF := Hid.mk' ((HB2.out.trans (HD8.out.mono HB2.out.size)).trans (hb9.mono (Nat.le_trans HB2.out.size HD8.out.size)))
        clear hb9 HD8
        go_wp2
        go_ret
        exact ⟨rfl, HBF.out⟩
    · obtain ⟨hg, hlc, hcm, hrm⟩ := HO6.out.room
      have HRM := Hid.mk' hrm
      have hcm' : cap ≤ 9223372036854775807 := by simpa [maxLen] using hcm
      clear hrm HO6 HX6 hs6 hcm
      go_wp2_with fail
      go_loopw [55] (fun s55 wr => OwState w2 g cap s55 wr) (fun i _ => cap - (RowKit.intOf i).toNat)
      case atStart => exact ⟨0, Nat.zero_le _, rfl, HD6.out, HRM.out⟩
      case round =>
        obtain ⟨j, hj, rfl, hbl, hrm⟩ := hrel
        clear x0 x1 e0 e1 HRM HD6
        by_cases hjl : j < cap
        · obtain ⟨⟨x, y0⟩, y1⟩ := hrm.cell hjl
          have HBL := Hid.mk' hbl
          have HRM := Hid.mk' hrm
          clear hbl hrm HL HT2 HRB HV2 HSR
          go_wp2
          go_roundw
          case rel => exact ⟨j + 1, by omega, by go_num, HBL.out.setCell (p := ⟨g, j, none⟩) hg _, HRM.out.set j _⟩
          case measure => simp [RowKit.intOf]; omega
        · obtain rfl : j = cap := by omega
          have HBL := Hid.mk' hbl
          clear hbl hrm
          have HE7 : Hid (∀ W, Below w2.heap.size w2 W → Calls Try.prog 15 #[.slice a l.length c, .slice adB l.length capB] W fun e w' => e = .returned (.bool true) ∧ ∃ q, w' = W.drewN q) := fun W hW => Equal_same W _ _ l (HV2.out.below hW) (HRB.out.below hW) (by first | omega | simp)
          go_wp2_with fail
          refine (HL.out _).mono ?_
          rintro e w7 ⟨rfl, hb7⟩
          have HD7 := Hid.mk' (HBL.out.trans (hb7.mono HBL.out.size))
          have f0 := (HT2.out.later HD7.out).cell (j := 0) rfl
          have f1 := (HT2.out.later HD7.out).cell (j := 1) rfl
          clear hb7 HBL HL
          go_wp2_with fail
          refine (HE7.out _ HD7.out).mono ?_
          rintro e w8 ⟨rfl, q8, rfl⟩
          have HD8 := Hid.mk' (below_drewN HD7.out q8)
          have f0 := (HT2.out.later HD8.out).cell (j := 0) rfl
          have f1 := (HT2.out.later HD8.out).cell (j := 1) rfl
          clear HD7 HE7
          generalize w7.drewN q8 = w8 at *
          have HS8 := Hid.mk' (HSR.out w8 (HV2.out.below HD8.out))
          go_wp2_with fail
          refine HS8.out.mono ?_
          rintro e w9 ⟨rfl, hb9⟩
          have HBF := Hid.mk' ((HB2.out.trans (HD8.out.mono HB2.out.size)).trans (hb9.mono (Nat.le_trans HB2.out.size HD8.out.size)))
          clear hb9 HD8
          go_wp2
          go_ret
          exact ⟨rfl, HBF.out⟩

theorem AboutOwn_any (v : Value) (l : List ByteArray) (k : Int) (d : ByteArray) (w : World) (hv : RdS w v l) (hn : l.length ≤ 8796093022208) (hsz : ∀ k (h : k < l.length), (l[k]).size ≤ maxLen) :
    Calls Try.prog 8 #[.agg #[v, .int .i64 k], .string d] w fun e w' => e = .returned (.bool true) ∧ Below w.heap.size w w' := by
  rcases chk_cases l k with h | h | h
  · by_cases hd : d = ⟨#[1]⟩
    · subst hd
      obtain ⟨h1, _, _, h0, hk⟩ := chk_ok h
      obtain ⟨m, rfl⟩ : ∃ m : Nat, k = (m : Int) := ⟨k.toNat, by omega⟩
      refine Own_ok v l (m : Int) ⟨#[1]⟩ _ _ w hv hn (fun W hW => Answer_ok W v l m hW hn h (by omega) (by omega)) (fun W hW => ?_)
      have := Sorts_any W v l (m : Int) hW (by omega) hsz
      rwa [h] at this
    · have hd' : (d.toList == [1]) = false := by
        have := same_bytes d ⟨#[1]⟩
        rw [decide_eq_false hd] at this
        rw [show (⟨#[1]⟩ : ByteArray).toList = [1] by rw [ByteArray.toList_eq]] at this
        exact this
      exact Own_err v l k d 4 w hv hn (fun W hW => Answer_form W v l k d hW hn h hd') (.inr rfl)
  · exact Own_err v l k d (chk l k) w hv hn (fun W hW => Answer_bad W v l k d hW hn (by rw [h]; rfl)) (.inl h)
  · exact Own_err v l k d (chk l k) w hv hn (fun W hW => Answer_bad W v l k d hW hn (by rw [h]; rfl)) (.inr h)
end Go.Proofs.Ytgghplfcdkedcaa.W
