/-
  The walk of farlaw.AboutWalks: it returns true and writes nothing old; conditions: at most 2^44 names, none of more than 2^63 - 1 bytes.
-/
import Derived.Test.YtgghplfcdkedcaaWWalked
import Derived.Test.YtgghplfcdkedcaaWEndWalk
namespace Go.Proofs.Ytgghplfcdkedcaa.W
open Go.RowKit Go.Lib Go.Proofs.Ytgghplfcdkedcaa Go.Proofs.Ytgghplfcdkedcaa.Q

set_option maxHeartbeats 4000000 in
theorem Walks_bad (v : Value) (l : List ByteArray) (n : Int) (w : World) (hv : RdS w v l) (hn : l.length ≤ 17592186044416) (hsz : ∀ k (h : k < l.length), (l[k]).size ≤ maxLen) (h : chk l 0 = 1 ∨ chk l 0 = 4) :
    Calls Try.prog 5 #[v, .int .i64 n] w fun e w' => e = .returned (.bool true) ∧ Below w.heap.size w w' := by
  have HW := Hid.mk' (Walk_bad w v l n hv hn (by rcases h with h | h <;> rw [h] <;> rfl))
  have HS : Hid (∀ W, Below w.heap.size w W → Calls Try.prog 13 #[.agg #[v, .int .i64 0]] W fun e w' => e = .returned (.int .i64 (chk l 0)) ∧ Below W.heap.size W w') := fun W hW => Sorts_any W v l 0 (hv.below hW) hn hsz
  obtain ⟨a, c, rfl, hc, hr⟩ := hv
  clear hr hsz
  generalize chk l 0 = R at *
  rcases h with rfl | rfl
  all_goals
    go_enter Try.func5, Try.ntmps5
    go_wp2_with fail
    refine HW.out.mono ?_
    rintro e w1 ⟨rfl, hb1⟩
    have HB1 := Hid.mk' hb1
    have HS1 := Hid.mk' (HS.out w1 hb1)
    clear hb1 HW HS
    go_wp2_with fail
    refine HS1.out.mono ?_
    rintro e w2 ⟨rfl, hb2⟩
    have HB2 := Hid.mk' (HB1.out.trans (hb2.mono HB1.out.size))
    clear hb2 HB1 HS1
    go_wp2
    go_ret
    exact ⟨rfl, HB2.out⟩

set_option maxHeartbeats 4000000 in
theorem Walks_times (v : Value) (l : List ByteArray) (n : Int) (w : World) (hv : RdS w v l) (hn : l.length ≤ 17592186044416) (hsz : ∀ k (h : k < l.length), (l[k]).size ≤ maxLen) (h : chk l 0 = 0) (ht : ¬ (0 ≤ n ∧ n ≤ 100)) :
    Calls Try.prog 5 #[v, .int .i64 n] w fun e w' => e = .returned (.bool true) ∧ Below w.heap.size w w' := by
  have HW := Hid.mk' (Walk_times w v l n hv hn h ht)
  have HS : Hid (∀ W, Below w.heap.size w W → Calls Try.prog 13 #[.agg #[v, .int .i64 0]] W fun e w' => e = .returned (.int .i64 0) ∧ Below W.heap.size W w') := fun W hW => by
    have := Sorts_any W v l 0 (hv.below hW) hn hsz
    rwa [h] at this
  have HT := Hid.mk' (Between_any n 0 100)
  rw [show btw n 0 100 = false from decide_eq_false ht] at HT
  obtain ⟨a, c, rfl, hc, hr⟩ := hv
  clear hr hsz ht h
  go_enter Try.func5, Try.ntmps5
  go_wp2_with fail
  refine HW.out.mono ?_
  rintro e w1 ⟨rfl, hb1⟩
  have HB1 := Hid.mk' hb1
  have HS1 := Hid.mk' (HS.out w1 hb1)
  clear hb1 HW HS
  go_wp2_with fail
  refine HS1.out.mono ?_
  rintro e w2 ⟨rfl, hb2⟩
  have HB2 := Hid.mk' (HB1.out.trans (hb2.mono HB1.out.size))
  clear hb2 HB1 HS1
  go_wp2_with fail
  refine (HT.out _).mono ?_
  rintro e w3 ⟨rfl, rfl⟩
  go_wp2
  go_ret
  exact ⟨rfl, HB2.out⟩

set_option maxHeartbeats 4000000 in
set_option maxRecDepth 100000 in
theorem Walks_ok (v : Value) (l : List ByteArray) (n : Nat) (w : World) (hv : RdS w v l) (hn : l.length ≤ 17592186044416) (hsz : ∀ k (h : k < l.length), (l[k]).size ≤ maxLen) (h : chk l 0 = 0) (ht : n ≤ 100) :
    Calls Try.prog 5 #[v, .int .i64 (n : Int)] w fun e w' => e = .returned (.bool true) ∧ Below w.heap.size w w' := by
  obtain ⟨h1, h8, _, _, _⟩ := chk_ok h
  have HW := Hid.mk' (Walk_ok w v l n hv hn h (by omega) ht)
  have HS : Hid (∀ W, Below w.heap.size w W → Calls Try.prog 13 #[.agg #[v, .int .i64 0]] W fun e w' => e = .returned (.int .i64 0) ∧ Below W.heap.size W w') := fun W hW => by
    have := Sorts_any W v l 0 (hv.below hW) hn hsz
    rwa [h] at this
  have HT := Hid.mk' (Between_any (n : Int) 0 100)
  rw [show btw (n : Int) 0 100 = true from decide_eq_true (by omega)] at HT
  have HK : Hid (∀ W, Below w.heap.size w W → ∀ k : Nat, k ≤ 100 → Calls Try.prog 16 #[v, .int .i64 (k : Int)] W fun e w' => e = .returned (.string (nm l (k % (l.length + 1)))) ∧ w' = W) := fun W hW k hk => Walked_any W v l k (hv.below hW) hn (by omega) (by omega)
  obtain ⟨a, c, rfl, hc, hr⟩ := hv
  clear hr hsz h
  go_enter Try.func5, Try.ntmps5
  go_wp2_with fail
  refine HW.out.mono ?_
  rintro e w1 ⟨g, rfl, hbx, _, hb1⟩
  have HB1 := Hid.mk' hb1
  have HX1 := Hid.mk' hbx
  have HS1 := Hid.mk' (HS.out w1 hb1)
  clear hb1 HW HS hbx
  go_wp2_with fail
  refine HS1.out.mono ?_
  rintro e w2 ⟨rfl, hb2⟩
  have HB2 := Hid.mk' (HB1.out.trans (hb2.mono HB1.out.size))
  have HX2 := Hid.mk' (HX1.out.later hb2)
  clear hb2 HB1 HS1 HX1
  go_wp2_with fail
  refine (HT.out _).mono ?_
  rintro e w3 ⟨rfl, rfl⟩
  have HC : Hid (∀ j (hj : j < n), w3.cell? ⟨g, j, none⟩ = some (.string (nm l (j % (l.length + 1))))) := fun j hj => HX2.out.cell (by simp [scells, walkL, hj])
  clear HT HX2
  go_wp2_with fail
  go_loopw [52] (fun s52 wr => ∃ k q : Nat, k ≤ n ∧ s52 = .int .i64 (k : Int) ∧ wr = w3.drewN q) (fun i _ => n - (RowKit.intOf i).toNat)
  case atStart => exact ⟨0, 0, by omega, rfl, rfl⟩
  case round =>
    obtain ⟨k, q, hk, rfl, rfl⟩ := hrel
    by_cases hlt : k < n
    · have f1 : (w3.drewN q).cell? ⟨g, k, none⟩ = some (.string (nm l (k % (l.length + 1)))) := by rw [World.cell?_drewN]; exact HC.out k hlt
      have HKk : Hid (∀ m, Calls Try.prog 16 #[.slice a l.length c, .int .i64 (k : Int)] ((w3.drewN q).drewN m) fun e w' => e = .returned (.string (nm l (k % (l.length + 1)))) ∧ w' = (w3.drewN q).drewN m) := fun m => HK.out _ (below_drewN (below_drewN HB2.out q) m) k (by omega)
      have HD : Hid (∀ n, ∃ q', (w3.drewN q).drewN n = w3.drewN q') := fun n => ⟨_, World.drewN_drewN w3 q n⟩
      clear HK HC
      generalize w3.drewN q = W at *
      generalize nm l (k % (l.length + 1)) = x at *
      go_wp2_with fail
      go_quiet ((go_at_call 16; with_reducible exact Calls.quiet_of_same (HKk.out _)))
      go_wp2
      go_roundw
      case rel => obtain ⟨q', e⟩ := HD.out nq; exact ⟨k + 1, q', by omega, by go_num, e⟩
      case measure => simp [RowKit.intOf]; omega
    · obtain rfl : k = n := by omega
      have HB4 := Hid.mk' (below_drewN HB2.out q)
      clear HC HK HB2
      go_wp2
      go_ret
      exact ⟨rfl, HB4.out⟩

theorem AboutWalks_any (v : Value) (l : List ByteArray) (n : Int) (w : World) (hv : RdS w v l) (hn : l.length ≤ 17592186044416) (hsz : ∀ k (h : k < l.length), (l[k]).size ≤ maxLen) :
    Calls Try.prog 5 #[v, .int .i64 n] w fun e w' => e = .returned (.bool true) ∧ Below w.heap.size w w' := by
  rcases chk_cases l 0 with h | h
  · by_cases ht : 0 ≤ n ∧ n ≤ 100
    · obtain ⟨m, rfl⟩ : ∃ m : Nat, n = (m : Int) := ⟨n.toNat, by omega⟩
      exact Walks_ok v l m w hv hn hsz h (by omega)
    · exact Walks_times v l n w hv hn hsz h ht
  · exact Walks_bad v l n w hv hn hsz h
end Go.Proofs.Ytgghplfcdkedcaa.W
