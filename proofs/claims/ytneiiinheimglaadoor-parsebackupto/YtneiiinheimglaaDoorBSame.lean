/-
  Contracts of slices.Equal at []int, farref.SameAct and farref.SameActs where both read the same; condition: at most 2^44 ints an act.
-/
import Derived.Test.YtneiiinheimglaaDoorBFeed
namespace Go.Proofs.YtneiiinheimglaaDoor.B
open Go.RowKit Go.Lib Go.Proofs.YtneiiinheimglaaDoor Go.Proofs.YtneiiinheimglaaDoor.W Go.Proofs.YtneiiinheimglaaDoor.Q Go.Proofs.YtneiiinheimglaaDoor.C Go.Proofs.YtneiiinheimglaaDoor.Z

set_option maxHeartbeats 4000000 in
theorem Equal_same (w : World) (v1 v2 : Value) (l : List Int) (h1 : RdI w v1 l) (h2 : RdI w v2 l) (hn : l.length ≤ 17592186044416) :
    Calls Tryd.prog 35 #[v1, v2] w fun e w' => e = .returned (.bool true) ∧ ∃ q, w' = w.drewN q := by
  obtain ⟨a1, c1, rfl, hc1, hr1⟩ := h1
  obtain ⟨a2, c2, rfl, hc2, hr2⟩ := h2
  go_enter Tryd.func35, Tryd.ntmps35
  go_wp2_with fail
  go_loopw [13] (fun s13 wr => ∃ k q : Nat, k ≤ l.length ∧ s13 = .int .i64 (k : Int) ∧ wr = w.drewN q) (fun i _ => l.length - (RowKit.intOf i).toNat)
  case atStart => exact ⟨0, 0, Nat.zero_le _, rfl, rfl⟩
  case round =>
    obtain ⟨k, q, hk, rfl, rfl⟩ := hrel
    by_cases hlt : k < l.length
    · rcases hr1 with h0 | ⟨b1, o1, rfl, t1, _⟩
      · subst h0; simp at hlt
      rcases hr2 with h0 | ⟨b2, o2, rfl, t2, _⟩
      · subst h0; simp at hlt
      have e1 := t1 k hlt
      have e2 := t2 k hlt
      have f1 : (w.drewN q).cell? ⟨b1, o1 + k, none⟩ = some (.int .i64 l[k]) := by rw [World.cell?_drewN]; exact e1
      have f2 : (w.drewN q).cell? ⟨b2, o2 + k, none⟩ = some (.int .i64 l[k]) := by rw [World.cell?_drewN]; exact e2
      clear t1 t2 e1 e2
      generalize l[k] = x at *
      have HD : Hid (∀ n, ∃ q', (w.drewN q).drewN n = w.drewN q') := fun n => ⟨_, World.drewN_drewN w q n⟩
      generalize w.drewN q = W at *
      go_wp2_with fail
      go_quiet (fail)
      go_wp2
      go_roundw
      case rel => obtain ⟨q', e⟩ := HD.out nq; exact ⟨k + 1, q', by omega, by go_num, e⟩
      case measure => simp [RowKit.intOf]; omega
    · obtain rfl : k = l.length := by omega
      clear hr1 hr2
      go_wp2
      go_ret
      exact ⟨rfl, q, rfl⟩

theorem same_self (s : ByteArray) : (s.toList == s.toList) = true := by simp
set_option maxHeartbeats 4000000 in
set_option maxRecDepth 100000 in
theorem SameAct_same (y : Ac) (va vb : Value) (w : World) (ha : RdI w va y.args) (hb : RdI w vb y.args) (hn : y.args.length ≤ 17592186044416) :
    Calls Tryd.prog 17 #[.agg (acells y va).toArray, .agg (acells y vb).toArray] w fun e w' => e = .returned (.bool true) ∧ Below w.heap.size w w' := by
  have H := Hid.mk' (fun W (hW : Below w.heap.size w W) => Equal_same W va vb y.args (ha.below hW) (hb.below hW) hn)
  have HW : Hid (Below w.heap.size w ((w.alloc (.cells (acells y va).toArray 35)).alloc (.cells (acells y vb).toArray 35))) := ((Below.refl _ _).alloc (Nat.le_refl _) _).alloc (by simp) _
  have HE := Hid.mk' (H.out _ HW.out)
  obtain ⟨a1, c1, e1, _⟩ := ha
  obtain ⟨a2, c2, e2, _⟩ := hb
  have s1 := same_self (bs y.inter)
  have s2 := same_self (bs y.text)
  subst e1 e2
  unfold acells at *
  generalize bs y.inter = S1 at *
  generalize bs y.text = S2 at *
  clear H
  go_enter Tryd.func17, Tryd.ntmps17
  go_wp2_with fail
  refine HE.out.mono ?_
  rintro e w2 ⟨rfl, q, rfl⟩
  have HF := Hid.mk' (below_drewN HW.out q)
  clear HE HW
  go_wp2
  go_ret
  exact ⟨rfl, HF.out⟩

set_option maxHeartbeats 8000000 in
set_option maxRecDepth 100000 in
theorem EqualFunc_same (L : List Ac) (v1 v2 : Value) (w : World) (h1 : RdA w v1 L) (h2 : RdA w v2 L) (hn : ∀ y ∈ L, y.args.length ≤ 17592186044416) (hL : L.length ≤ 17592186044416) :
    Calls Tryd.prog 16 #[v1, v2, .func (.func 17) #[] #[]] w fun e w' => e = .returned (.bool true) ∧ Below w.heap.size w w' := by
  obtain ⟨a1, c1, xs, rfl, hc1, ex, hx, hr1⟩ := h1
  obtain ⟨a2, c2, ys, rfl, hc2, ey, hy, hr2⟩ := h2
  have lx : xs.length = L.length := by rw [← ex]; simp
  have ly : ys.length = L.length := by rw [← ey]; simp
  have HC : Hid (∀ k (h : k < L.length), ∃ b1 o1 b2 o2 va vb, a1 = some ⟨b1, o1, none⟩ ∧ a2 = some ⟨b2, o2, none⟩ ∧ RdI w va (L[k]).args ∧ RdI w vb (L[k]).args ∧ (∀ W, Below w.heap.size w W → ∀ i u, (acells L[k] va)[i]? = some u → W.cell? ⟨b1, o1 + k * 6 + i, none⟩ = some u) ∧ (∀ W, Below w.heap.size w W → ∀ i u, (acells L[k] vb)[i]? = some u → W.cell? ⟨b2, o2 + k * 6 + i, none⟩ = some u)) := by
    intro k h
    rcases hr1 with h0 | ⟨b1, o1, e1, hb1, t1⟩
    · rw [h0] at h; simp at h
    rcases hr2 with h0 | ⟨b2, o2, e2, hb2, t2⟩
    · rw [h0] at h; simp at h
    have kx : k < xs.length := by omega
    have ky : k < ys.length := by omega
    have fx : xs[k].1 = L[k] := by simp only [← ex, List.getElem_map]
    have fy : ys[k].1 = L[k] := by simp only [← ey, List.getElem_map]
    refine ⟨b1, o1, b2, o2, xs[k].2, ys[k].2, e1, e2, ?_, ?_, fun W hW i u hu => ?_, fun W hW i u hu => ?_⟩
    · have := hx xs[k] (List.getElem_mem kx); rwa [fx] at this
    · have := hy ys[k] (List.getElem_mem ky); rwa [fy] at this
    · have hi : i < 6 := by have := (List.getElem?_eq_some_iff.1 hu).1; simpa [acells] using this
      have e := asC_at xs k kx i hi
      rw [fx, hu] at e
      have := t1 _ _ e
      rw [← Nat.add_assoc] at this
      exact (hW.cell (p := ⟨b1, _, none⟩) hb1).trans this
    · have hi : i < 6 := by have := (List.getElem?_eq_some_iff.1 hu).1; simpa [acells] using this
      have e := asC_at ys k ky i hi
      rw [fy, hu] at e
      have := t2 _ _ e
      rw [← Nat.add_assoc] at this
      exact (hW.cell (p := ⟨b2, _, none⟩) hb2).trans this
  have HN : Hid (∀ k (h : k < L.length), (L[k]).args.length ≤ 17592186044416) := fun k h => hn _ (List.getElem_mem h)
  have HS := Hid.mk' (fun y va vb W ha hb hn => SameAct_same y va vb W ha hb hn)
  clear hr1 hr2 hx hy ex ey lx ly hn
  go_enter Tryd.func16, Tryd.ntmps16
  go_wp2_with fail
  go_loopw [17] (fun s17 wr => ∃ k : Nat, k ≤ L.length ∧ s17 = .int .i64 (k : Int) ∧ Hid (Below w.heap.size w wr)) (fun i _ => L.length - (RowKit.intOf i).toNat)
  case atStart => exact ⟨0, Nat.zero_le _, rfl, Below.refl _ _⟩
  case round =>
    obtain ⟨k, hk, rfl, HB⟩ := hrel
    by_cases hlt : k < L.length
    · obtain ⟨b1, o1, b2, o2, va, vb, ea, eb, ra, rb, t1, t2⟩ := HC.out k hlt
      subst ea eb
      have hsw := HB.out.size
      have hl := HN.out k hlt
      have HB1 : Hid (∀ W o, Below w.heap.size w W → Below w.heap.size w (W.alloc o)) := fun W o h => h.alloc h.size o
      have HBB : Hid (Below w.heap.size w ((wr.alloc (.cells (acells L[k] va).toArray 35)).alloc (.cells (acells L[k] vb).toArray 35))) := HB1.out _ _ (HB1.out _ _ HB.out)
      have HS2 := Hid.mk' (HS.out L[k] va vb _ (ra.below HBB.out) (rb.below HBB.out) hl)
      have HNX : Hid (∀ W, Below ((wr.alloc (.cells (acells L[k] va).toArray 35)).alloc (.cells (acells L[k] vb).toArray 35)).heap.size ((wr.alloc (.cells (acells L[k] va).toArray 35)).alloc (.cells (acells L[k] vb).toArray 35)) W → Below w.heap.size w W) := fun W hW => HBB.out.trans (Below.mono hW HBB.out.size)
      have HW1 := Hid.mk' (HB1.out _ (.cells (acells L[k] va).toArray 35) HB.out)
      have p0 := t1 _ HB.out 0 _ rfl
      have p1 := t1 _ HB.out 1 _ rfl
      have p2 := t1 _ HB.out 2 _ rfl
      have p3 := t1 _ HB.out 3 _ rfl
      have p4 := t1 _ HB.out 4 _ rfl
      have p5 := t1 _ HB.out 5 _ rfl
      have q0 := t2 _ HW1.out 0 _ rfl
      have q1 := t2 _ HW1.out 1 _ rfl
      have q2 := t2 _ HW1.out 2 _ rfl
      have q3 := t2 _ HW1.out 3 _ rfl
      have q4 := t2 _ HW1.out 4 _ rfl
      have q5 := t2 _ HW1.out 5 _ rfl
      rw [Nat.add_zero] at p0 q0
      obtain ⟨aa, ca, ea, _⟩ := ra
      obtain ⟨ab, cb, eb, _⟩ := rb
      subst ea eb
      unfold acells at *
      generalize L[k] = y at *
      clear t1 t2 HC HN HS HB HB1 HBB HW1
      go_wp2_with fail
      refine HS2.out.mono ?_
      rintro e w2 ⟨rfl, hb⟩
      have HB2 := Hid.mk' (HNX.out w2 hb)
      clear hb HS2 HNX p0 p1 p2 p3 p4 p5 q0 q1 q2 q3 q4 q5
      go_wp2
      go_roundw
      case rel => exact ⟨k + 1, by omega, by go_num, HB2⟩
      case measure => simp [RowKit.intOf]; omega
    · obtain rfl : k = L.length := by omega
      clear HC HN HS
      go_wp2
      go_ret
      exact ⟨rfl, HB.out⟩

set_option maxHeartbeats 1000000 in
theorem SameActs_same (L : List Ac) (v1 v2 : Value) (w : World) (h1 : RdA w v1 L) (h2 : RdA w v2 L) (hn : ∀ y ∈ L, y.args.length ≤ 17592186044416) (hL : L.length ≤ 17592186044416) :
    Calls Tryd.prog 9 #[v1, v2] w fun e w' => e = .returned (.bool true) ∧ Below w.heap.size w w' := by
  have HE := Hid.mk' (EqualFunc_same L v1 v2 w h1 h2 hn hL)
  clear h1 h2
  go_enter Tryd.func9, Tryd.ntmps9
  go_wp2_with fail
  refine HE.out.mono ?_
  rintro e w2 ⟨rfl, hb⟩
  have HB := Hid.mk' hb
  clear hb HE
  go_wp2
  go_ret
  exact ⟨rfl, HB.out⟩
end Go.Proofs.YtneiiinheimglaaDoor.B
