/-
  Contract of slices.Equal at []int over slices that read the same; the walk of farkeep.PageSame: it returns true; condition: the table page.lineSigns holds what its initialiser lays.
-/
import Derived.Test.YtmniifmgliklnaaDoorGWrite
namespace Go.Proofs.YtmniifmgliklnaaDoor.G
open Go.RowKit Go.Lib Go.Proofs.YtmniifmgliklnaaDoor

set_option maxHeartbeats 4000000 in
theorem Equal_same (w : World) (v1 v2 : Value) (l : List Int) (h1 : RdI w v1 l) (h2 : RdI w v2 l) (hn : l.length ≤ 17592186044416) :
    Calls Tryd.prog 16 #[v1, v2] w fun e w' => e = .returned (.bool true) ∧ ∃ q, w' = w.drewN q := by
  obtain ⟨a1, c1, rfl, hc1, hr1⟩ := h1
  obtain ⟨a2, c2, rfl, hc2, hr2⟩ := h2
  go_enter Tryd.func16, Tryd.ntmps16
  go_wp2_with fail
  go_loopw [13] (fun s13 wr => ∃ k q : Nat, k ≤ l.length ∧ s13 = .int .i64 (k : Int) ∧ wr = w.drewN q) (fun i _ => l.length - (RowKit.intOf i).toNat)
  case atStart => exact ⟨0, 0, Nat.zero_le _, rfl, rfl⟩
  case round =>
    obtain ⟨k, q, hk, rfl, rfl⟩ := hrel
    by_cases hlt : k < l.length
    · rcases hr1 with h0 | ⟨b1, o1, rfl, t1, _⟩
      · subst h0; simp at hlt
      rcases hr2 with h0 | ⟨b2, o2, rfl, t2, _⟩
      · subst h0; simp at hlt
      have e1 := t1 k hlt
      have e2 := t2 k hlt
      have f1 : (w.drewN q).cell? ⟨b1, o1 + k, none⟩ = some (.int .i64 l[k]) := by rw [World.cell?_drewN]; exact e1
      have f2 : (w.drewN q).cell? ⟨b2, o2 + k, none⟩ = some (.int .i64 l[k]) := by rw [World.cell?_drewN]; exact e2
      clear t1 t2 e1 e2
      generalize l[k] = x at *
      have HD : Hid (∀ n, ∃ q', (w.drewN q).drewN n = w.drewN q') := fun n => ⟨_, World.drewN_drewN w q n⟩
      generalize w.drewN q = W at *
      go_wp2_with fail
      go_quiet (fail)
      go_wp2
      go_roundw
      case rel => obtain ⟨q', e⟩ := HD.out nq; exact ⟨k + 1, q', by omega, by go_num, e⟩
      case measure => simp [RowKit.intOf]; omega
    · obtain rfl : k = l.length := by omega
      clear hr1 hr2
      go_wp2
      go_ret
      exact ⟨rfl, q, rfl⟩

/-- the signs of a byte on the first pages -/
def same (b : UInt8) (k : Nat) : List Int := (List.range k).map fun (i : Nat) => sg ((i : Int) + 1) b.toNat
theorem same_len (b : UInt8) (k : Nat) : (same b k).length = k := by simp [same]
theorem same_snoc (b : UInt8) (k : Nat) : same b (k + 1) = same b k ++ [sg ((k : Int) + 1) b.toNat] := by
  simp [same, List.range_succ]
set_option maxRecDepth 100000 in
theorem same_low : ∀ n, n < 95 → (List.range 4).map (fun (i : Nat) => sg ((i : Int) + 1) n) = [(n : Int), n, n, if n = 35 then 163 else n] := by decide +kernel
theorem same4 (b : UInt8) (h : b.toNat < 95) : same b 4 = [(b.toNat : Int), b.toNat, b.toNat, if b.toNat = 35 then 163 else (b.toNat : Int)] := same_low b.toNat h

def SState (w : World) (b : UInt8) (s3 s4 : Value) (wr : World) : Prop :=
  ∃ k : Nat, k ≤ 4 ∧ s4 = .int .i64 ((k : Int) + 1) ∧ OwnI wr w.heap.size s3 (same b k) ∧ Below w.heap.size w wr

theorem RdI.three {w : World} {g cap : Nat} {x y : Int} (h : RdI w (.slice (some ⟨g, 0, none⟩) 4 cap) [x, x, x, y]) : RdI w (.slice (some ⟨g, 0, none⟩) 3 cap) [x, x, x] := by
  obtain ⟨a, c, e, hc, hr⟩ := h
  simp only [Value.slice.injEq] at e
  obtain ⟨rfl, _, rfl⟩ := e
  rcases hr with h0 | ⟨b, off, e2, t, hb⟩
  · cases h0
  · refine ⟨_, _, rfl, by simp at hc ⊢; omega, .inr ⟨b, off, e2, fun j hj => ?_, hb⟩⟩
    have hj3 : j < 3 := hj
    have := t j (show j < 4 by omega)
    rw [this]
    rcases (by omega : j = 0 ∨ j = 1 ∨ j = 2) with rfl | rfl | rfl <;> rfl
theorem RdI.lit (w : World) (l : List Int) (t : TypeId) : RdI (w.alloc (.cells (icells l).toArray t)) (.slice (some ⟨w.heap.size, 0, none⟩) l.length l.length) l := by
  refine ⟨_, _, rfl, Nat.le_refl _, .inr ⟨w.heap.size, 0, rfl, fun j hj => ?_, by simp⟩⟩
  rw [Nat.zero_add, cell_of_row _ _ _ _ _ _ (MapKept.heap_alloc w _).1]
  simp [icells, hj]

set_option maxHeartbeats 8000000 in
set_option maxRecDepth 100000 in
theorem PageSame_any (b : UInt8) (w : World) (hT : Tab w) :
    Calls Tryd.prog 7 #[.int .u8 (b.toNat : Int)] w fun e w' => e = .returned (.bool true) ∧ Below w.heap.size w w' := by
  have HR : Hid (∀ w1, Below w.heap.size w w1 → ∀ k : Nat, k < 4 → Calls Tryd.prog 8 #[.int .i64 ((k : Int) + 1), .int .u8 (b.toNat : Int)] w1 fun e w' => e = .returned (.tuple #[.int .i64 (sg ((k : Int) + 1) b.toNat), .int .i64 0]) ∧ w' = w1) := fun w1 hb k hk => by
    have := Rune_any ((k : Int) + 1) b w1 (hT.below hb)
    have hp : isP ((k : Int) + 1) = true := decide_eq_true (by omega)
    rw [if_pos hp, if_pos hp] at this
    exact this
  have HL : Hid (∀ w1, Below w.heap.size w w1 → Calls Tryd.prog 17 #[] w1 fun e w' => e = .returned (.bool true) ∧ w' = w1) := fun w1 hb => lives_any w1 (hT.below hb)
  have HS0 : Hid (SState w b (.slice none 0 0) (.int .i64 1) w) := ⟨0, by omega, rfl, OwnI.nil _ _, Below.refl _ _⟩
  have hbn := b.toNat_lt
  have hb1 : (b.toNat : Int) < 256 := by omega
  have hb0 : 0 ≤ (b.toNat : Int) := by omega
  have H4 : Hid (b.toNat < 95 → same b 4 = [(b.toNat : Int), b.toNat, b.toNat, if b.toNat = 35 then 163 else (b.toNat : Int)]) := same4 b
  clear hT
  go_enter Tryd.func7, Tryd.ntmps7
  go_wp2_with fail
  go_loopw [3, 4] (fun s3 s4 wr => SState w b s3 s4 wr) (fun _ i _ => 5 - (RowKit.intOf i).toNat)
  case atStart => exact HS0.out
  case round =>
    obtain ⟨k, hk, rfl, ho, hbl⟩ := hrel
    clear HS0
    have HB := Hid.mk' hbl
    have hswr := hbl.size
    by_cases hlt : k < 4
    · have HK := Hid.mk' (HR.out wr hbl k hlt)
      have hsn := same_snoc b k
      have hln := same_len b k
      have HSN : Hid (∀ w' v', OwnI w' w.heap.size v' (same b k ++ [sg ((k : Int) + 1) b.toNat]) → OwnI w' w.heap.size v' (same b (k + 1))) := fun w' v' h => by rw [hsn]; exact h
      clear hsn hbl
      generalize sg ((k : Int) + 1) b.toNat = x at *
      generalize same b k = X at *
      have HW : Hid (#[.int .i64 x] = (icells [x]).toArray) := Hid.mk' rfl
      have hk1 : (k : Int) + 1 ≤ 4 := by omega
      clear H4
      generalize (b.toNat : Int) = y at *
      go_wp2_with fail
      refine HK.out.mono ?_
      rintro e w2 ⟨rfl, rfl⟩
      go_wp2_with (at_builtin; refine wpList_append_i _ (by rfl) _ _ rfl w.heap.size u3 X [x] rfl ho _ HW.out _ _ rfl rfl (by simp) hswr ?c1 ?_)
      case c1 => simp; omega
      intro v' w' ho' hbl
      have HO := Hid.mk' (HSN.out w' v' ho')
      have HB2 := Hid.mk' (hbl _ _ (Nat.le_refl _) HB.out)
      clear ho' hbl ho
      go_wp2
      go_roundw
      case rel => exact ⟨k + 1, by omega, by go_num, HO.out, HB2.out⟩
      case measure => simp [RowKit.intOf]; omega
    · obtain rfl : k = 4 := by omega
      have HL1 := Hid.mk' (HL.out wr hbl)
      clear HL HR hbl
      by_cases h95 : b.toNat < 95
      · have e4 := H4.out h95
        rw [e4] at ho
        have hlt : (b.toNat : Int) < 95 := by omega
        have HRD := Hid.mk' (RdI.own ho)
        unfold OwnI at ho
        rcases ho.form with ⟨_, e⟩ | ⟨g, cap, rfl, _, hg, hc⟩
        · simp at e
        have hcg := ho.cells (g := g) rfl 3 (.int .i64 (if b.toNat = 35 then 163 else (b.toNat : Int))) (by simp [icells])
        rw [show (⟨g, 0, none⟩ : Addr).add 3 = ⟨g, 3, none⟩ from rfl] at hcg
        simp only [List.length_cons, List.length_nil, Nat.reduceAdd] at hc HRD ⊢
        have HE : Hid (∀ W, Below wr.heap.size wr W → Calls Tryd.prog 16 #[.slice (some ⟨g, 0, none⟩) 3 cap, .slice (some ⟨W.heap.size, 0, none⟩) 3 3] (W.alloc (.cells #[.int .i64 (b.toNat : Int), .int .i64 (b.toNat : Int), .int .i64 (b.toNat : Int)] 3)) fun e w' => e = .returned (.bool true) ∧ ∃ q, w' = (W.alloc (.cells #[.int .i64 (b.toNat : Int), .int .i64 (b.toNat : Int), .int .i64 (b.toNat : Int)] 3)).drewN q) := fun W hW =>
          Equal_same _ _ _ [(b.toNat : Int), b.toNat, b.toNat] ((HRD.out.three.below hW).below ((Below.refl _ _).alloc (Nat.le_refl _) _)) (RdI.lit W [(b.toNat : Int), b.toNat, b.toNat] 3) (by simp)
        clear ho e4 H4 HRD
        by_cases h35 : b.toNat = 35
        · rw [if_pos h35] at hcg
          have y35 : (b.toNat : Int) = 35 := by omega
          generalize (b.toNat : Int) = y at *
          subst y35
          have HE1 := Hid.mk' (HE.out wr (Below.refl _ _))
          have hcg1 : ∀ q o, ((wr.alloc o).drewN q).cell? ⟨g, 3, none⟩ = some (.int .i64 163) := fun q o => by rw [World.cell?_drewN, World.cell?_alloc_past (hn := by omega)]; exact hcg
          go_wp2_with fail
          refine HL1.out.mono ?_
          rintro e w2 ⟨rfl, rfl⟩
          go_wp2_with fail
          refine HE1.out.mono ?_
          rintro e w2 ⟨rfl, q, rfl⟩
          go_wp2
          go_ret
          exact ⟨rfl, below_drewN (HB.out.alloc hswr _) q⟩
        · rw [if_neg h35] at hcg
          have y35 : ((b.toNat : Int) != 35) = true := by simp; omega
          generalize (b.toNat : Int) = y at *
          have HE1 := Hid.mk' (HE.out wr (Below.refl _ _))
          have hcg1 : ∀ q o, ((wr.alloc o).drewN q).cell? ⟨g, 3, none⟩ = some (.int .i64 y) := fun q o => by rw [World.cell?_drewN, World.cell?_alloc_past (hn := by omega)]; exact hcg
          go_wp2_with fail
          refine HL1.out.mono ?_
          rintro e w2 ⟨rfl, rfl⟩
          go_wp2_with fail
          refine HE1.out.mono ?_
          rintro e w2 ⟨rfl, q, rfl⟩
          go_wp2
          go_ret
          exact ⟨rfl, below_drewN (HB.out.alloc hswr _) q⟩
      · have hge : (95 : Int) ≤ (b.toNat : Int) := by omega
        clear ho H4
        generalize (b.toNat : Int) = y at *
        go_wp2_with fail
        refine HL1.out.mono ?_
        rintro e w2 ⟨rfl, rfl⟩
        go_wp2
        go_ret
        exact ⟨rfl, HB.out⟩
end Go.Proofs.YtmniifmgliklnaaDoor.G
