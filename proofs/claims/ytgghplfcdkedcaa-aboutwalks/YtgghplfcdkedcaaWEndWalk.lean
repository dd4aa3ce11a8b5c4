/-
  The walk of farkeep.AboutEnd: it returns true and writes nothing old; condition: at most 2^44 names.
-/
import Derived.Test.YtgghplfcdkedcaaWLives
namespace Go.Proofs.Ytgghplfcdkedcaa.W
open Go.RowKit Go.Lib Go.Proofs.Ytgghplfcdkedcaa Go.Proofs.Ytgghplfcdkedcaa.Q

theorem chk_ok {l : List ByteArray} {k : Int} (h : chk l k = 0) : 1 ≤ l.length ∧ l.length ≤ 8 ∧ areOk l = true ∧ 0 ≤ k ∧ k ≤ l.length := by
  unfold chk at h
  split at h
  · cases h
  · split at h
    · cases h
    · split at h
      · cases h
      · next h1 h2 h3 =>
        refine ⟨by omega, by omega, ?_, by omega, by omega⟩
        cases e : areOk l with
        | true => rfl
        | false => exact absurd e h2
theorem chk_cases (l : List ByteArray) (k : Int) : chk l k = 0 ∨ chk l k = 1 ∨ chk l k = 4 := by
  unfold chk
  repeat' split
  all_goals simp

theorem walkL_get (l : List ByteArray) (n j : Nat) (h : j < (walkL l n).length) : (walkL l n)[j] = nm l (j % (l.length + 1)) := by simp [walkL]
theorem walkL_front (l : List ByteArray) (n : Nat) (h : l.length ≤ n) : (walkL l n).take l.length = l := by
  apply List.ext_getElem
  · simp [walkL_length, h]
  · intro j h1 h2
    rw [List.getElem_take, walkL_get, Nat.mod_eq_of_lt (by omega), nm_lt h2]
theorem walkL_again (l : List ByteArray) : (walkL l (2 * l.length + 2)).drop (l.length + 1) = (walkL l (2 * l.length + 2)).take (l.length + 1) := by
  apply List.ext_getElem
  · simp [walkL_length]; omega
  · intro j h1 h2
    rw [List.getElem_take, List.getElem_drop, walkL_get, walkL_get, Nat.add_mod_left]

theorem RdS.behind {w : World} {b off n c : Nat} {l : List ByteArray} (h : RdS w (.slice (some ⟨b, off, none⟩) n c) l) (m : Nat) (hm : m ≤ l.length) : RdS w (.slice (some ⟨b, off + m, none⟩) (n - m) (c - m)) (l.drop m) := by
  obtain ⟨a', c', e, hc, hr⟩ := h
  simp only [Value.slice.injEq] at e
  obtain ⟨rfl, rfl, rfl⟩ := e
  refine ⟨_, _, by rw [List.length_drop], by rw [List.length_drop]; omega, ?_⟩
  rcases hr with rfl | ⟨b', off', e2, t, hb⟩
  · exact .inl (by simp)
  · simp only [Option.some.injEq, Addr.mk.injEq, and_true] at e2
    obtain ⟨rfl, rfl⟩ := e2
    refine .inr ⟨b, off + m, rfl, fun j hj => ?_, hb⟩
    rw [List.length_drop] at hj
    rw [Nat.add_assoc, t (m + j) (by omega)]
    simp

set_option maxHeartbeats 4000000 in
theorem End_bad (v : Value) (l : List ByteArray) (w : World) (hv : RdS w v l) (hn : l.length ≤ 17592186044416) (h : chk l 0 = 1 ∨ chk l 0 = 4) :
    Calls Try.prog 7 #[v] w fun e w' => e = .returned (.bool true) ∧ Below w.heap.size w w' := by
  have HW := Hid.mk' (Walk_bad w v l (2 * (l.length : Int) + 2) hv hn (by rcases h with h | h <;> rw [h] <;> rfl))
  have HL := Hid.mk' lives_any
  obtain ⟨a, c, rfl, hc, hr⟩ := hv
  clear hr
  generalize chk l 0 = R at *
  rcases h with rfl | rfl
  all_goals
    go_enter Try.func7, Try.ntmps7
    go_wp2_with fail
    refine HW.out.mono ?_
    rintro e w1 ⟨rfl, hb1⟩
    have HB1 := Hid.mk' hb1
    clear hb1 HW
    go_wp2_with fail
    refine (HL.out _).mono ?_
    rintro e w2 ⟨rfl, hb2⟩
    have HB2 := Hid.mk' (HB1.out.trans (hb2.mono HB1.out.size))
    clear hb2 HB1
    go_wp2_with fail
    refine (HL.out _).mono ?_
    rintro e w3 ⟨rfl, hb3⟩
    have HB3 := Hid.mk' (HB2.out.trans (hb3.mono HB2.out.size))
    clear hb3 HB2
    go_wp2
    go_ret
    exact ⟨rfl, HB3.out⟩

set_option maxHeartbeats 4000000 in
set_option maxRecDepth 100000 in
theorem End_ok (v : Value) (l : List ByteArray) (w : World) (hv : RdS w v l) (h : chk l 0 = 0) :
    Calls Try.prog 7 #[v] w fun e w' => e = .returned (.bool true) ∧ Below w.heap.size w w' := by
  obtain ⟨h1, h8, hok, _, _⟩ := chk_ok h
  have hok := of_decide_eq_true hok
  have HW : Hid (Calls Try.prog 17 #[v, .int .i64 (2 * (l.length : Int) + 2)] w fun e w' => ∃ g, e = .returned (.tuple #[.slice (some ⟨g, 0, none⟩) (2 * l.length + 2) (2 * l.length + 2), .int .i64 0]) ∧ Box w' g 9 (scells (walkL l (2 * l.length + 2))) ∧ w.heap.size ≤ g ∧ Below w.heap.size w w') := Walk_ok w v l (2 * l.length + 2) hv (by omega) h (by omega) (by omega)
  have HL := Hid.mk' lives_any
  have HV := Hid.mk' hv
  obtain ⟨a, c, rfl, hc, hr⟩ := hv
  clear hr h
  go_enter Try.func7, Try.ntmps7
  go_wp2_with fail
  refine HW.out.mono ?_
  rintro e w1 ⟨g, rfl, hbx, hwg, hb1⟩
  have HB1 := Hid.mk' hb1
  have HX1 := Hid.mk' hbx
  clear hb1 HW hbx
  go_wp2_with fail
  refine (HL.out _).mono ?_
  rintro e w2 ⟨rfl, hb2⟩
  have HB2 := Hid.mk' (HB1.out.trans (hb2.mono HB1.out.size))
  have HX2 := Hid.mk' (HX1.out.later hb2)
  clear hb2 HB1 HX1
  have HR1 : Hid (RdS w2 (.slice (some ⟨g, 0, none⟩) (2 * l.length + 2) (2 * l.length + 2)) (walkL l (2 * l.length + 2))) := by
    have := RdS.box HX2.out (2 * l.length + 2) (by rw [walkL_length]; omega)
    rwa [walkL_length] at this
  have HE1 : Hid (∀ q, Calls Try.prog 15 #[.slice (some ⟨g, 0, none⟩) l.length (2 * l.length + 2), .slice a l.length c] (w2.drewN q) fun e w' => e = .returned (.bool true) ∧ ∃ n, w' = (w2.drewN q).drewN n) := fun q => by
    have r1 := HR1.out.front l.length (by rw [walkL_length]; omega)
    rw [walkL_front l _ (by omega)] at r1
    exact Equal_same _ _ _ l (r1.below (below_drewN (Below.refl _ _) q)) ((HV.out.below HB2.out).below (below_drewN (Below.refl _ _) q)) (by omega)
  have HE2 : Hid (∀ q, Calls Try.prog 15 #[.slice (some ⟨g, 0, none⟩) (l.length + 1) (2 * l.length + 2), .slice (some ⟨g, l.length + 1, none⟩) (2 * l.length + 1 - l.length) (2 * l.length + 1 - l.length)] (w2.drewN q) fun e w' => e = .returned (.bool true) ∧ ∃ n, w' = (w2.drewN q).drewN n) := fun q => by
    have r1 := HR1.out.front (l.length + 1) (by rw [walkL_length]; omega)
    have r2 := HR1.out.behind (l.length + 1) (by rw [walkL_length]; omega)
    rw [walkL_again l, Nat.zero_add, show 2 * l.length + 2 - (l.length + 1) = 2 * l.length + 1 - l.length by omega] at r2
    exact Equal_same _ _ _ _ (r1.below (below_drewN (Below.refl _ _) q)) (r2.below (below_drewN (Below.refl _ _) q)) (by rw [List.length_take, walkL_length]; omega)
  have HC : Hid (∀ j (hj : j < 2 * l.length + 2), w2.cell? ⟨g, j, none⟩ = some (.string (nm l (j % (l.length + 1))))) := fun j hj => HX2.out.cell (by simp [scells, walkL, hj])
  have e1 := HC.out l.length (by omega)
  have e2 := HC.out (l.length - 1) (by omega)
  rw [Nat.mod_eq_of_lt (by omega), nm_last (by omega)] at e1
  rw [Nat.mod_eq_of_lt (by omega), nm_lt (by omega)] at e2
  have hk1 : (l.length : Int) - 1 = ((l.length - 1 : Nat) : Int) := by omega
  have hk2 : ((l.length : Int) - 1).toNat = l.length - 1 := by omega
  have HOK := Hid.mk' hok
  clear HR1 HV HL HX2
  generalize l[l.length - 1]'(by omega) = x at *
  clear hok
  go_wp2_with fail
  go_quiet ((go_at_call 15; first | with_reducible exact Calls.quiet_of (HE1.out _) | with_reducible exact Calls.quiet_of (HE2.out _)))
  have HB3 := Hid.mk' (below_drewN HB2.out nq)
  have HC3 : Hid (∀ j (hj : j < 2 * l.length + 2), (w2.drewN nq).cell? ⟨g, j, none⟩ = some (.string (nm l (j % (l.length + 1))))) := fun j hj => by rw [World.cell?_drewN]; exact HC.out j hj
  clear e1 e2 hk1 hk2 HE1 HE2 HC HB2
  generalize w2.drewN nq = w3 at *
  go_wp2_with fail
  go_loopw [6] (fun s6 wr => ∃ k q : Nat, 1 ≤ k ∧ k ≤ l.length ∧ s6 = .int .i64 (k : Int) ∧ wr = w3.drewN q) (fun i _ => l.length - (RowKit.intOf i).toNat)
  case atStart => exact ⟨1, 0, by omega, by omega, rfl, rfl⟩
  case round =>
    obtain ⟨k, q, hk1, hk, rfl, rfl⟩ := hrel
    by_cases hlt : k < l.length
    · have e1 := HC3.out k (by omega)
      have e2 := HC3.out (k - 1) (by omega)
      rw [Nat.mod_eq_of_lt (by omega), nm_lt hlt] at e1
      rw [Nat.mod_eq_of_lt (by omega), nm_lt (by omega)] at e2
      have f1 : (w3.drewN q).cell? ⟨g, k, none⟩ = some (.string l[k]) := by rw [World.cell?_drewN]; exact e1
      have f2 : (w3.drewN q).cell? ⟨g, k - 1, none⟩ = some (.string (l[k - 1]'(by omega))) := by rw [World.cell?_drewN]; exact e2
      have hne : (l[k].toList == (l[k - 1]'(by omega)).toList) = false := by
        rw [same_bytes]
        refine decide_eq_false (fun e => ?_)
        have hh := (HOK.out k hlt).2
        have hm : has (l.take k) l[k] = true := has_mem.2 (by
          rw [List.mem_take_iff_getElem]
          exact ⟨k - 1, by omega, e.symm⟩)
        rw [hh] at hm
        cases hm
      have hk2 : (k : Int) - 1 = ((k - 1 : Nat) : Int) := by omega
      have hk3 : ((k : Int) - 1).toNat = k - 1 := by omega
      clear e1 e2 HC3 HOK
      generalize l[k] = x1 at *
      generalize l[k - 1]'(by omega) = x2 at *
      have HD : Hid (∀ n, ∃ q', (w3.drewN q).drewN n = w3.drewN q') := fun n => ⟨_, World.drewN_drewN w3 q n⟩
      generalize w3.drewN q = W at *
      go_wp2_with fail
      go_quiet (fail)
      go_wp2
      go_roundw
      case rel => obtain ⟨q', e⟩ := HD.out nq; exact ⟨k + 1, q', by omega, by omega, by go_num, e⟩
      case measure => simp [RowKit.intOf]; omega
    · obtain rfl : k = l.length := by omega
      have HB4 := Hid.mk' (below_drewN HB3.out q)
      clear HC3 HOK HB3
      go_wp2
      go_ret
      exact ⟨rfl, HB4.out⟩

theorem AboutEnd_any (v : Value) (l : List ByteArray) (w : World) (hv : RdS w v l) (hn : l.length ≤ 17592186044416) :
    Calls Try.prog 7 #[v] w fun e w' => e = .returned (.bool true) ∧ Below w.heap.size w w' := by
  rcases chk_cases l 0 with h | h
  · exact End_ok v l w hv h
  · exact End_bad v l w hv hn h
end Go.Proofs.Ytgghplfcdkedcaa.W
