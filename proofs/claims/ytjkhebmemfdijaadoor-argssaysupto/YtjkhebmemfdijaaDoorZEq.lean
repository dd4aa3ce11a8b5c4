/-
  Contracts of slices.Equal at []int where both read the same, of args.Get and of farkeep.argsLives; condition: at most 2^44 ints.
-/
import Derived.Test.YtjkhebmemfdijaaDoorZRead
namespace Go.Proofs.YtjkhebmemfdijaaDoor.Z
open Go.RowKit Go.Lib Go.Proofs.YtjkhebmemfdijaaDoor Go.Proofs.YtjkhebmemfdijaaDoor.W Go.Proofs.YtjkhebmemfdijaaDoor.Q Go.Proofs.YtjkhebmemfdijaaDoor.C

set_option maxHeartbeats 4000000 in
theorem Equal_same (w : World) (v1 v2 : Value) (l : List Int) (h1 : RdI w v1 l) (h2 : RdI w v2 l) (hn : l.length ≤ 17592186044416) :
    Calls Tryd.prog 10 #[v1, v2] w fun e w' => e = .returned (.bool true) ∧ ∃ q, w' = w.drewN q := by
  obtain ⟨a1, c1, rfl, hc1, hr1⟩ := h1
  obtain ⟨a2, c2, rfl, hc2, hr2⟩ := h2
  go_enter Tryd.func10, Tryd.ntmps10
  go_wp2_with fail
  go_loopw [13] (fun s13 wr => ∃ k q : Nat, k ≤ l.length ∧ s13 = .int .i64 (k : Int) ∧ wr = w.drewN q) (fun i _ => l.length - (RowKit.intOf i).toNat)
  case atStart => exact ⟨0, 0, Nat.zero_le _, rfl, rfl⟩
  case round =>
    obtain ⟨k, q, hk, rfl, rfl⟩ := hrel
    by_cases hlt : k < l.length
    · rcases hr1 with h0 | ⟨b1, o1, rfl, t1, _⟩
      · subst h0; simp at hlt
      rcases hr2 with h0 | ⟨b2, o2, rfl, t2, _⟩
      · subst h0; simp at hlt
      have e1 := t1 k hlt
      have e2 := t2 k hlt
      have f1 : (w.drewN q).cell? ⟨b1, o1 + k, none⟩ = some (.int .i64 l[k]) := by rw [World.cell?_drewN]; exact e1
      have f2 : (w.drewN q).cell? ⟨b2, o2 + k, none⟩ = some (.int .i64 l[k]) := by rw [World.cell?_drewN]; exact e2
      clear t1 t2 e1 e2
      generalize l[k] = x at *
      have HD : Hid (∀ n, ∃ q', (w.drewN q).drewN n = w.drewN q') := fun n => ⟨_, World.drewN_drewN w q n⟩
      generalize w.drewN q = W at *
      go_wp2_with fail
      go_quiet (fail)
      go_wp2
      go_roundw
      case rel => obtain ⟨q', e⟩ := HD.out nq; exact ⟨k + 1, q', by omega, by go_num, e⟩
      case measure => simp [RowKit.intOf]; omega
    · obtain rfl : k = l.length := by omega
      clear hr1 hr2
      go_wp2
      go_ret
      exact ⟨rfl, q, rfl⟩

theorem RdI.lit (w : World) (l : List Int) (t : TypeId) : RdI (w.alloc (.cells (icells l).toArray t)) (.slice (some ⟨w.heap.size, 0, none⟩) l.length l.length) l := by
  refine ⟨_, _, rfl, Nat.le_refl _, .inr ⟨w.heap.size, 0, rfl, fun j hj => ?_, by simp⟩⟩
  rw [Nat.zero_add, cell_of_row _ _ _ _ _ _ (MapKept.heap_alloc w _).1]
  simp [icells, hj]

/-- number i of l -/
def getT (l : List Int) (i none : Int) : Int := if h : 0 ≤ i ∧ i < l.length then (if l[i.toNat]'(by omega) = -1 then none else l[i.toNat]'(by omega)) else none

set_option maxHeartbeats 1000000 in
theorem Get_any (v : Value) (l : List Int) (i no : Int) (w : World) (h : RdI w v l) :
    Calls Tryd.prog 11 #[v, .int .i64 i, .int .i64 no] w fun e w' => e = .returned (.int .i64 (getT l i no)) ∧ w' = w := by
  obtain ⟨a, c, rfl, hc, hr⟩ := h
  by_cases h0 : i < 0
  · have e : getT l i no = no := dif_neg (by omega)
    rw [e]
    clear hr
    go_enter Tryd.func11, Tryd.ntmps11
    go_wp2
    go_ret
    exact ⟨rfl, rfl⟩
  by_cases h1 : (l.length : Int) ≤ i
  · have e : getT l i no = no := dif_neg (by omega)
    rw [e]
    clear hr
    go_enter Tryd.func11, Tryd.ntmps11
    go_wp2
    go_ret
    exact ⟨rfl, rfl⟩
  obtain ⟨k, rfl⟩ : ∃ k : Nat, i = (k : Int) := ⟨i.toNat, by omega⟩
  have hk : k < l.length := by omega
  have e : getT l (k : Int) no = if l[k] = -1 then no else l[k] := dif_pos (by omega)
  rw [e]
  rcases hr with h | ⟨b, off, rfl, ht, hb⟩
  · subst h; simp at hk
  have c1 := ht k hk
  clear ht e
  generalize l[k] = x at *
  by_cases hx : x = -1
  · subst hx
    rw [if_pos rfl]
    go_enter Tryd.func11, Tryd.ntmps11
    go_wp2
    go_ret
    exact ⟨rfl, rfl⟩
  · rw [if_neg hx]
    have hx2 : (x == -1) = false := beq_false_of_ne hx
    go_enter Tryd.func11, Tryd.ntmps11
    go_wp2
    go_ret
    exact ⟨rfl, rfl⟩

theorem lives_read : readT [55, 59, 59, 57, 57, 57, 57, 57] = ([7, -1, 16383], 0) := by decide +kernel

set_option maxHeartbeats 2000000 in
theorem lives_any (w : World) : Calls Tryd.prog 12 #[] w fun e w' => e = .returned (.bool true) ∧ Below w.heap.size w w' := by
  have HR := Hid.mk' (Read_any [55, 59, 59, 57, 57, 57, 57, 57] w (by decide))
  rw [lives_read] at HR
  have hb : bs [55, 59, 59, 57, 57, 57, 57, 57] = { data := #[55, 59, 59, 57, 57, 57, 57, 57] } := rfl
  rw [hb] at HR
  clear hb
  go_enter Tryd.func12, Tryd.ntmps12
  go_wp2_with fail
  refine HR.out.mono ?_
  rintro e w1 ⟨v, rfl, ho, hB⟩
  have hv := RdI.own ho
  have HB := Hid.mk' hB
  have HEQ : Hid (Calls Tryd.prog 10 #[v, .slice (some ⟨w1.heap.size, 0, none⟩) 3 3] (w1.alloc (.cells #[.int .i64 7, .int .i64 (-1), .int .i64 16383] 3)) fun e w' => e = .returned (.bool true) ∧ ∃ q, w' = (w1.alloc (.cells #[.int .i64 7, .int .i64 (-1), .int .i64 16383] 3)).drewN q) :=
    Equal_same _ _ _ [7, -1, 16383] (hv.below ((Below.refl _ _).alloc (Nat.le_refl _) _)) (RdI.lit w1 [7, -1, 16383] 3) (by simp)
  have HG : Hid (∀ q, Calls Tryd.prog 11 #[v, .int .i64 1, .int .i64 5] ((w1.alloc (.cells #[.int .i64 7, .int .i64 (-1), .int .i64 16383] 3)).drewN q) fun e w' => e = .returned (.int .i64 5) ∧ w' = (w1.alloc (.cells #[.int .i64 7, .int .i64 (-1), .int .i64 16383] 3)).drewN q) := fun q =>
    Get_any v [7, -1, 16383] 1 5 _ (hv.below (below_drewN ((Below.refl _ _).alloc (Nat.le_refl _) _) q))
  have HF : Hid (∀ q, Below w.heap.size w ((w1.alloc (.cells #[.int .i64 7, .int .i64 (-1), .int .i64 16383] 3)).drewN q)) := fun q => below_drewN (hB.alloc hB.size _) q
  clear ho hv hB HB HR
  go_wp2_with fail
  refine HEQ.out.mono ?_
  rintro e w2 ⟨rfl, q, rfl⟩
  have HG1 := Hid.mk' (HG.out q)
  have HF1 := Hid.mk' (HF.out q)
  clear HG HF HEQ
  go_wp2_with fail
  refine HG1.out.mono ?_
  rintro e w2 ⟨rfl, rfl⟩
  go_wp2
  go_ret
  exact ⟨rfl, HF1.out⟩
end Go.Proofs.YtjkhebmemfdijaaDoor.Z
