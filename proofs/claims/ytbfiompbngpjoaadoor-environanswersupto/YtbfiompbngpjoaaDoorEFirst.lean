/-
  Contract of environ.first; condition: at most 2^44 variables.
-/
import Derived.Test.YtbfiompbngpjoaaDoorEWanted
namespace Go.Proofs.YtbfiompbngpjoaaDoor.E
open Go.RowKit Go.Lib Go.Proofs.YtbfiompbngpjoaaDoor Go.Proofs.YtbfiompbngpjoaaDoor.W Go.Proofs.YtbfiompbngpjoaaDoor.Q Go.Proofs.YtbfiompbngpjoaaDoor.C

theorem ones4 (a b : ByteArray) (c d : Bool) : ∀ v ∈ [Value.string a, .string b, .bool c, .bool d], v.oneCell' = true := by
  intro u hu
  simp at hu
  rcases hu with rfl | rfl | rfl | rfl <;> rfl
theorem same_no1 {v w : Vr} (h : v.name ≠ w.name) : same v w = false := by unfold same; rw [decide_eq_false h]; rfl
theorem same_no2 {v w : Vr} (h : v.user ≠ w.user) : same v w = false := by unfold same; rw [decide_eq_false h, Bool.and_false]
theorem same_yes {v w : Vr} (h : v.name = w.name) (h2 : v.user = w.user) : same v w = true := by unfold same; rw [decide_eq_true h, decide_eq_true h2]; rfl
theorem alloc_cell {w : World} {b j : Nat} {v : Value} (o : Obj) (h : w.cell? ⟨b, j, none⟩ = some v) (hb : b < w.heap.size) : (w.alloc o).cell? ⟨b, j, none⟩ = some v := by
  have hA : Below w.heap.size w (w.alloc o) := (Below.refl _ _).alloc (Nat.le_refl _) o
  rw [hA.cell (p := ⟨b, j, none⟩) hb]
  exact h

set_option maxHeartbeats 8000000 in
set_option maxRecDepth 100000 in
theorem first_any (w : World) (v : Value) (l : List Vr) (x : Vr) (hv : RdV w v l) (hn : l.length ≤ 17592186044416) :
    Calls Tryd.prog 27 #[v, .agg #[.string (bs x.name), .string (bs x.value), .bool x.user, .bool x.set]] w fun e w' => e = .returned (.agg #[.string (bs (firstOf l x).name), .string (bs (firstOf l x).value), .bool (firstOf l x).user, .bool (firstOf l x).set]) ∧ Below w.heap.size w w' := by
  have HZ := Hid.mk' zeroVar
  have HY : Hid (∀ k (h : k < l.length), same l[k] x = true → (∀ a (_ : a < k) (h : a < l.length), same l[a] x = false) → bs l[k].name = bs (firstOf l x).name ∧ bs l[k].value = bs (firstOf l x).value ∧ l[k].user = (firstOf l x).user ∧ l[k].set = (firstOf l x).set) := fun k h h1 h2 => by rw [firstOf_at x l k h h1 h2]; exact ⟨rfl, rfl, rfl, rfl⟩
  have HN : Hid ((∀ a (h : a < l.length), same l[a] x = false) → bs x.name = bs (firstOf l x).name ∧ bs x.value = bs (firstOf l x).value ∧ x.user = (firstOf l x).user ∧ x.set = (firstOf l x).set) := fun h => by rw [firstOf_none x l h]; exact ⟨rfl, rfl, rfl, rfl⟩
  obtain ⟨a, c, rfl, hc, hr⟩ := hv
  generalize bs (firstOf l x).name = q0 at *
  generalize bs (firstOf l x).value = q1 at *
  generalize (firstOf l x).user = q2 at *
  generalize (firstOf l x).set = q3 at *
  go_enter Tryd.func27, Tryd.ntmps27
  go_wp2_with (refine wpList_box [.string (bs x.name), .string (bs x.value), .bool x.user, .bool x.set] 30 rfl _ rfl rfl ?_)
  intro w1 m1
  go_wp2_with (refine wpList_alloc [.string ⟨#[]⟩, .string ⟨#[]⟩, .bool false, .bool false] 30 HZ.out rfl rfl ?_)
  intro w2 m2
  have hlt1 := m1.lt
  have hlt2 := m2.lt
  have HB2 := Hid.mk' (m2.below _ _ (Nat.le_of_lt hlt1) (m1.below _ _ (Nat.le_refl _) (Below.refl _ w)))
  have HX2 := Hid.mk' (m2.keep m1.box)
  have HR2 := Hid.mk' m2.box
  clear m1 m2 HZ
  go_wp2_with fail
  go_loopg [9] l.length (fun g s wr => VState w2 l (fun y => same y x) g s wr)
  case atStart => exact ⟨0, Nat.zero_le _, by omega, rfl, fun a h => absurd h (Nat.not_lt_zero a), Below.refl _ _⟩
  case round =>
    obtain ⟨k, hk, hg, rfl, HA, HB⟩ := hrel
    have hs := HB.out.size
    have HBW := Hid.mk' (HB2.out.trans (HB.out.mono (Nat.le_trans (Nat.le_of_lt hlt1) (Nat.le_of_lt hlt2))))
    have HXr := Hid.mk' (HX2.out.later HB.out)
    have HRr := Hid.mk' (HR2.out.later HB.out)
    have bx : w.heap.size < wr.heap.size := by omega
    have br : w1.heap.size < wr.heap.size := by omega
    by_cases hlt : k < l.length
    · rcases hr with h0 | ⟨b, o, rfl, t, hb⟩
      · subst h0; simp at hlt
      obtain ⟨t0, t1, t2, t3⟩ := (t k hlt).below HBW.out hb
      have HB3 := fun cs => Hid.mk' (HB.out.alloc hs (.cells cs 30))
      have HBW3 := fun cs => Hid.mk' (HBW.out.alloc HBW.out.size (.cells cs 30))
      have x0 := fun o => alloc_cell o (HXr.out.cell (j := 0) rfl) bx
      have x2 := fun o => alloc_cell o (HXr.out.cell (j := 2) rfl) bx
      by_cases hnm : l[k].name = x.name
      · have hq : ((bs l[k].name).toList == (bs x.name).toList) = true := by rw [bs_beq]; exact decide_eq_true hnm
        by_cases hu : l[k].user = x.user
        · obtain ⟨e0, e1, e2, e3⟩ := HY.out k hlt (same_yes hnm hu) HA.out
          have hR3 := fun cs => HRr.out.alloc (.cells cs 30)
          rw [← hu] at x2
          have HR3 := Hid.mk' hR3
          have HST : Hid (∀ cs w4, Stored (wr.alloc (.cells cs 30)) w4 w1.heap.size 30 [.string (bs l[k].name), .string (bs l[k].value), .bool l[k].user, .bool l[k].set] → Below w.heap.size w w4) := fun cs w4 h => h.below _ _ (Nat.le_of_lt hlt1) (HBW3 cs).out
          clear HY HN HA t hR3 HX2 HR2 HXr HRr hu hnm
          generalize bs l[k].name = y0 at *
          generalize bs l[k].value = y1 at *
          generalize l[k].user = y2 at *
          generalize l[k].set = y3 at *
          generalize bs x.name = z0 at *
          subst e0 e1 e2 e3
          go_wp2_with (refine wpList_store_box 30 30 _ [.string y0, .string y1, .bool y2, .bool y3] w1.heap.size sizeVar (ones4 _ _ _ _) (HR3.out _) rfl rfl _ _ rfl rfl rfl ?_)
          intro w4 m4
          have HX4 := Hid.mk' m4.box
          have HB4 := Hid.mk' (HST.out _ _ m4)
          clear m4 HST HR3
          go_wp2
          exact ret_box Tryd.results27 30 [.string y0, .string y1, .bool y2, .bool y3] w1.heap.size _ Tryd.underlying30 rfl sizeVar rfl HX4.out rfl ⟨rfl, HB4.out⟩
        · have HA2 := Hid.mk' (more (p := fun y => same y x) HA.out hlt (same_no2 hu))
          have hub : (l[k].user == x.user) = false := beq_eq_false_iff_ne.2 hu
          clear HY HN HA t HX2 HR2 HXr HRr
          generalize bs l[k].name = y0 at *
          generalize bs l[k].value = y1 at *
          generalize l[k].user = y2 at *
          generalize l[k].set = y3 at *
          generalize bs x.name = z0 at *
          go_wp2
          go_roundg (l.length - (k + 1))
          case measure => omega
          case rel => exact ⟨k + 1, by omega, by omega, by go_num, HA2, HB3 _⟩
      · have HA2 := Hid.mk' (more (p := fun y => same y x) HA.out hlt (same_no1 hnm))
        have hq : ((bs l[k].name).toList == (bs x.name).toList) = false := by rw [bs_beq]; exact decide_eq_false hnm
        clear HY HN HA t HX2 HR2 HXr HRr
        generalize bs l[k].name = y0 at *
        generalize bs l[k].value = y1 at *
        generalize l[k].user = y2 at *
        generalize l[k].set = y3 at *
        generalize bs x.name = z0 at *
        go_wp2
        go_roundg (l.length - (k + 1))
        case measure => omega
        case rel => exact ⟨k + 1, by omega, by omega, by go_num, HA2, HB3 _⟩
    · obtain rfl : k = l.length := by omega
      obtain ⟨e0, e1, e2, e3⟩ := HN.out (fun k h => HA.out k h h)
      have x0 := HXr.out.cell (j := 0) rfl
      have x1 := HXr.out.cell (j := 1) rfl
      have x2 := HXr.out.cell (j := 2) rfl
      have x3 := HXr.out.cell (j := 3) rfl
      have r0 := HRr.out.cell (j := 0) rfl
      have r1 := HRr.out.cell (j := 1) rfl
      have r2 := HRr.out.cell (j := 2) rfl
      have r3 := HRr.out.cell (j := 3) rfl
      have rf := HRr.out.frozen
      clear HY HN HA HX2 HR2 HXr
      generalize bs x.name = y0 at *
      generalize bs x.value = y1 at *
      generalize x.user = y2 at *
      generalize x.set = y3 at *
      subst e0 e1 e2 e3
      go_wp2
      exact ret_box Tryd.results27 30 [.string y0, .string y1, .bool y2, .bool y3] w1.heap.size _ Tryd.underlying30 rfl sizeVar rfl (box4 HRr.out _ _ _ _) rfl ⟨rfl, below4 HBW.out (Nat.le_of_lt hlt1) _ _ _ _⟩
end Go.Proofs.YtbfiompbngpjoaaDoor.E
