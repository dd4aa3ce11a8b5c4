/-
  Contract of slices.Equal at []int over slices that are read, and of farkeep.utfLives: it returns true; conditions: at most 1000000000 numbers each; the two tables of unicode/utf8 hold what their initialisers lay.
-/
import Derived.Test.YtjnopjjbndknfaaDoorUEnc
namespace Go.Proofs.YtjnopjjbndknfaaDoor.U
open Go.RowKit Go.Lib Go.Proofs.YtjnopjjbndknfaaDoor

set_option maxHeartbeats 800000 in
theorem Equal_len (w : World) (a1 a2 : Option Addr) (n1 n2 c1 c2 : Nat) (_hn1 : n1 ≤ 1000000000) (_hn2 : n2 ≤ 1000000000) (hne : n1 ≠ n2) :
    Calls Tryd.prog 21 #[.slice a1 n1 c1, .slice a2 n2 c2] w fun e w' => e = .returned (.bool false) ∧ ∃ q, w' = w.drewN q := by
  have hb : ((n1 : Int) != (n2 : Int)) = true := by rw [bne_iff_ne]; omega
  clear hne
  go_enter Tryd.func21, Tryd.ntmps21
  go_wp2
  go_ret
  exact ⟨rfl, 0, rfl⟩
set_option maxHeartbeats 800000 in
theorem Equal_none (w : World) (a1 a2 : Option Addr) (c1 c2 : Nat) :
    Calls Tryd.prog 21 #[.slice a1 0 c1, .slice a2 0 c2] w fun e w' => e = .returned (.bool true) ∧ ∃ q, w' = w.drewN q := by
  go_enter Tryd.func21, Tryd.ntmps21
  go_wp2_with fail
  go_loop [13] (fun i => i = .int .i64 0) (fun _ => 0)
  case atStart => exact rfl
  case round =>
    subst hrel
    go_wp2
    go_ret
    exact ⟨rfl, 0, rfl⟩

theorem Equal_any (w : World) (v1 v2 : Value) (l m : List Int) (h1 : RdI w v1 l) (h2 : RdI w v2 m) (hn : l.length ≤ 1000000000) (hm : m.length ≤ 1000000000) :
    Calls Tryd.prog 21 #[v1, v2] w fun e w' => e = .returned (.bool (l == m)) ∧ ∃ q, w' = w.drewN q := by
  obtain ⟨a1, c1, rfl, hc1, hr1⟩ := h1
  obtain ⟨a2, c2, rfl, hc2, hr2⟩ := h2
  by_cases hne : l.length = m.length
  · by_cases h0 : l = []
    · have e2 : m = [] := List.length_eq_zero_iff.1 (by rw [← hne, h0]; rfl)
      subst h0; subst e2
      exact Equal_none w a1 a2 c1 c2
    · rcases hr1 with h | ⟨b1, o1, rfl, t1, _⟩
      · exact absurd h h0
      rcases hr2 with h | ⟨b2, o2, rfl, t2, _⟩
      · exact absurd (List.length_eq_zero_iff.1 (by rw [hne, h]; rfl)) h0
      have H := Tryd.slices_Equal_int b1 o1 l.length c1 b2 o2 m.length c2 l m w (Nat.le_refl _) (Nat.le_refl _) (by omega) (by omega) (fun j hj => by rw [t1 j hj]; simp [List.getD, hj]) (fun j hj => by rw [t2 j hj]; simp [List.getD, hj])
      rw [List.take_length, List.take_length] at H
      exact H
  · have : (l == m) = false := by rw [beq_eq_false_iff_ne]; exact fun e => hne (by rw [e])
    rw [this]
    exact Equal_len w a1 a2 _ _ c1 c2 hn hm hne

theorem RdI.alloc {w : World} {v : Value} {l : List Int} (h : RdI w v l) (o : Obj) : RdI (w.alloc o) v l := h.below ((Below.refl _ _).alloc (Nat.le_refl _) _)
theorem RdI.lit (w : World) (l : List Int) (t : TypeId) : RdI (w.alloc (.cells (icells l).toArray t)) (.slice (some ⟨w.heap.size, 0, none⟩) l.length l.length) l := by
  refine ⟨_, _, rfl, Nat.le_refl _, .inr ⟨w.heap.size, 0, rfl, fun j hj => ?_, by simp⟩⟩
  rw [Nat.zero_add, cell_of_row _ _ _ _ _ _ (MapKept.heap_alloc w _).1]
  simp [icells, hj]

theorem lives_rd : rd ([226] ++ [130, 172, 226, 97, 240, 159]) = ([240, 159], [8364, 65533, 97]) := by
  rw [rd_step (by decide) (by decide)]
  have e1 : first ([226] ++ [130, 172, 226, 97, 240, 159]) = (8364, 3) := by decide
  rw [e1]
  simp only [List.cons_append, List.nil_append, List.drop_succ_cons, List.drop_zero]
  rw [rd_step (by decide) (by decide)]
  have e2 : first [226, 97, 240, 159] = (65533, 1) := by decide
  rw [e2]
  simp only [List.drop_succ_cons, List.drop_zero]
  rw [rd_step (by decide) (by decide)]
  have e3 : first [97, 240, 159] = (97, 1) := by decide
  rw [e3]
  simp only [List.drop_succ_cons, List.drop_zero]
  rw [rd_stop (.inr (by decide))]

theorem lives_eq (w1 : World) (v : Value) {base : Nat} (ho : OwnR w1 base 3 1 v (ints [8364, 65533, 97]).length (icells (ints [8364, 65533, 97]))) :
    Calls Tryd.prog 21 #[v, .slice (some ⟨w1.heap.size, 0, none⟩) 3 3] (w1.alloc (.cells #[.int .i64 8364, .int .i64 65533, .int .i64 97] 3)) fun e w' => e = .returned (.bool true) ∧ ∃ q, w' = (w1.alloc (.cells #[.int .i64 8364, .int .i64 65533, .int .i64 97] 3)).drewN q := by
  have H := Equal_any _ v _ (ints [8364, 65533, 97]) [8364, 65533, 97] ((RdI.own ho).alloc _) (RdI.lit w1 [8364, 65533, 97] 3) (by decide) (by decide)
  have e : ((ints [8364, 65533, 97]) == [8364, 65533, 97]) = true := by decide
  rw [e] at H
  exact H
theorem lives_enc (W : World) : Calls Tryd.prog 23 #[.slice (some ⟨W.heap.size, 0, none⟩) 1 1] (W.alloc (.cells #[.int .i64 8364] 3)) fun e w' => e = .returned (.string ⟨#[226, 130, 172]⟩) ∧ Below (W.alloc (.cells #[.int .i64 8364] 3)).heap.size (W.alloc (.cells #[.int .i64 8364] 3)) w' := by
  have H := Encode_any _ [8364] _ (RdI.lit W [8364] 3) (by decide)
  have e : encAll [8364] = [226, 130, 172] := by decide
  rw [e] at H
  exact H

set_option maxHeartbeats 4000000 in
set_option maxRecDepth 100000 in
theorem lives_any (w : World) (hT : Tabs w) : Calls Tryd.prog 25 #[] w fun e w' => e = .returned (.bool true) ∧ Below w.heap.size w w' := by
  have HF := Feed_ok [226] [130, 172, 226, 97, 240, 159] w hT (.inr (by decide)) (by decide)
  rw [lives_rd] at HF
  clear hT
  go_enter Tryd.func25, Tryd.ntmps25
  go_wp2_with fail
  refine HF.mono ?_
  rintro e w1 ⟨v, rfl, ho, hb1⟩
  have HB := Hid.mk' hb1
  have hs1 := hb1.size
  have HE : Hid (Calls Tryd.prog 21 #[v, .slice (some ⟨w1.heap.size, 0, none⟩) 3 3] (w1.alloc (.cells #[.int .i64 8364, .int .i64 65533, .int .i64 97] 3)) fun e w' => e = .returned (.bool true) ∧ ∃ q, w' = (w1.alloc (.cells #[.int .i64 8364, .int .i64 65533, .int .i64 97] 3)).drewN q) :=
    lives_eq w1 v ho
  clear ho hb1 HF
  go_wp2_with fail
  refine HE.out.mono ?_
  rintro e w2 ⟨rfl, q, rfl⟩
  have HN : ∀ W : World, Hid (Calls Tryd.prog 23 #[.slice (some ⟨W.heap.size, 0, none⟩) 1 1] (W.alloc (.cells #[.int .i64 8364] 3)) fun e w' => e = .returned (.string ⟨#[226, 130, 172]⟩) ∧ Below (W.alloc (.cells #[.int .i64 8364] 3)).heap.size (W.alloc (.cells #[.int .i64 8364] 3)) w') := fun W =>
    lives_enc W
  have HN2 := HN ((w1.alloc (.cells #[.int .i64 8364, .int .i64 65533, .int .i64 97] 3)).drewN q)
  have hsz : ((w1.alloc (.cells #[.int .i64 8364, .int .i64 65533, .int .i64 97] 3)).drewN q).heap.size = w1.heap.size + 1 := by simp
  rw [hsz] at HN2
  clear HN HE hsz
  go_wp2_with fail
  refine HN2.out.mono ?_
  rintro e w3 ⟨rfl, hb3⟩
  have HB3 : Hid (Below w.heap.size w w3) := ((below_drewN (HB.out.alloc hs1 _) q).alloc (by simp; omega) _).trans (hb3.mono (by simp; omega))
  clear hb3
  go_wp2
  go_ret
  exact ⟨rfl, HB3.out⟩
end Go.Proofs.YtjnopjjbndknfaaDoor.U
