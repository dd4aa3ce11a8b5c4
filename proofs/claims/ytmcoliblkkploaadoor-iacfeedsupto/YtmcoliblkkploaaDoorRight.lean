/-
  Contract of farref.WireRight: it tells what iac.Check tells; conditions: at most 1000000000 bytes in the wire's Buf.
-/
import Derived.Test.YtmcoliblkkploaaDoorLaw2
namespace Go.Proofs.YtmcoliblkkploaaDoor
open Go.RowKit

set_option maxHeartbeats 400000 in
theorem Between_yes (n a b : Int) (w : World) (h1 : a ≤ n) (h2 : n ≤ b) : Calls Tryd.prog 28 #[.int .i64 n, .int .i64 a, .int .i64 b] w fun e w' => e = .returned (.bool true) ∧ w = w' := by
  go_enter Tryd.func28, Tryd.ntmps28
  go_wp2
  go_ret
  exact ⟨rfl, rfl⟩
set_option maxHeartbeats 400000 in
theorem Between_no (n a b : Int) (w : World) (h : ¬ (a ≤ n ∧ n ≤ b)) : Calls Tryd.prog 28 #[.int .i64 n, .int .i64 a, .int .i64 b] w fun e w' => e = .returned (.bool false) ∧ w = w' := by
  by_cases h1 : a ≤ n
  · have h2 : ¬ n ≤ b := fun e => h ⟨h1, e⟩
    clear h
    go_enter Tryd.func28, Tryd.ntmps28
    go_wp2
    go_ret
    exact ⟨rfl, rfl⟩
  · clear h
    go_enter Tryd.func28, Tryd.ntmps28
    go_wp2
    go_ret
    exact ⟨rfl, rfl⟩
theorem Between_any (n a b : Int) (w : World) : Calls Tryd.prog 28 #[.int .i64 n, .int .i64 a, .int .i64 b] w fun e w' => e = .returned (.bool (decide (a ≤ n ∧ n ≤ b))) ∧ w = w' := by
  by_cases h : a ≤ n ∧ n ≤ b
  · rw [decide_eq_true h]; exact Between_yes n a b w h.1 h.2
  · rw [decide_eq_false h]; exact Between_no n a b w h

set_option maxHeartbeats 2000000 in
theorem WireRight_2 (x : Wr) (w : World) (hm : x.mode = 2) :
    Calls Tryd.prog 9 #[x.val] w fun e w' => e = .returned (.int .i64 (if x.ok = true then 0 else 4)) ∧ Below w.heap.size w w' := by
  have hok : x.ok = (decide (251 ≤ x.cmd ∧ x.cmd ≤ 254) && x.eq ⟨2, x.cmd, 0, [], false⟩) := by rw [Wr.ok, if_neg (by omega), if_pos hm, hm]
  rw [hok]
  clear hok
  obtain ⟨mode, cmd, opt, buf, over⟩ := x
  simp only at hm
  subst hm
  simp only [Wr.val]
  have he := fun W => Wr.run_eq ⟨2, cmd, opt, buf, over⟩ ⟨2, cmd, 0, [], false⟩ W
  simp only [Wr.val] at he
  generalize Wr.eq ⟨2, cmd, opt, buf, over⟩ ⟨2, cmd, 0, [], false⟩ = B at *
  by_cases hc : 251 ≤ cmd ∧ cmd ≤ 254
  · rw [decide_eq_true hc]
    cases B with
    | true =>
      go_enter Tryd.func9, Tryd.ntmps9
      go_wp2_with fail
      refine (Between_yes 2 0 5 _ (by omega) (by omega)).mono ?_
      rintro e w' ⟨rfl, rfl⟩
      go_wp2_with fail
      refine (Between_yes cmd 251 254 _ hc.1 hc.2).mono ?_
      rintro e w' ⟨rfl, rfl⟩
      go_wp2
      go_ret
      exact ⟨rfl, (Below.refl _ _).alloc (Nat.le_refl _) _⟩
    | false =>
      go_enter Tryd.func9, Tryd.ntmps9
      go_wp2_with fail
      refine (Between_yes 2 0 5 _ (by omega) (by omega)).mono ?_
      rintro e w' ⟨rfl, rfl⟩
      go_wp2_with fail
      refine (Between_yes cmd 251 254 _ hc.1 hc.2).mono ?_
      rintro e w' ⟨rfl, rfl⟩
      go_wp2
      go_ret
      exact ⟨rfl, (Below.refl _ _).alloc (Nat.le_refl _) _⟩
  · rw [decide_eq_false hc]
    go_enter Tryd.func9, Tryd.ntmps9
    go_wp2_with fail
    refine (Between_yes 2 0 5 _ (by omega) (by omega)).mono ?_
    rintro e w' ⟨rfl, rfl⟩
    go_wp2_with fail
    refine (Between_no cmd 251 254 _ hc).mono ?_
    rintro e w' ⟨rfl, rfl⟩
    go_wp2
    go_ret
    exact ⟨rfl, (Below.refl _ _).alloc (Nat.le_refl _) _⟩

set_option maxHeartbeats 4000000 in
theorem WireRight_lt (x : Wr) (w : World) (h2 : x.mode ≠ 2) (h4 : x.mode < 4) :
    Calls Tryd.prog 9 #[x.val] w fun e w' => e = .returned (.int .i64 (if x.ok = true then 0 else 4)) ∧ Below w.heap.size w w' := by
  by_cases h0 : 0 ≤ x.mode
  · have hm : x.mode = 0 ∨ x.mode = 1 ∨ x.mode = 3 := by omega
    have hok : x.ok = x.eq ⟨x.mode, 0, 0, [], false⟩ := by rw [Wr.ok, if_pos hm]
    rw [hok]
    clear hok hm
    obtain ⟨mode, cmd, opt, buf, over⟩ := x
    simp only at h0 h2 h4
    simp only [Wr.val]
    have he := fun W => Wr.run_eq ⟨mode, cmd, opt, buf, over⟩ ⟨mode, 0, 0, [], false⟩ W
    simp only [Wr.val] at he
    generalize Wr.eq ⟨mode, cmd, opt, buf, over⟩ ⟨mode, 0, 0, [], false⟩ = B at *
    have hn : (mode == 2) = false := beq_eq_false_iff_ne.2 h2
    clear h2
    cases B with
    | true =>
      go_enter Tryd.func9, Tryd.ntmps9
      go_wp2_with fail
      refine (Between_yes mode 0 5 _ h0 (by omega)).mono ?_
      rintro e w' ⟨rfl, rfl⟩
      go_wp2
      go_ret
      exact ⟨rfl, (Below.refl _ _).alloc (Nat.le_refl _) _⟩
    | false =>
      go_enter Tryd.func9, Tryd.ntmps9
      go_wp2_with fail
      refine (Between_yes mode 0 5 _ h0 (by omega)).mono ?_
      rintro e w' ⟨rfl, rfl⟩
      go_wp2
      go_ret
      exact ⟨rfl, (Below.refl _ _).alloc (Nat.le_refl _) _⟩
  · have hok : x.ok = false := by rw [Wr.ok, if_neg (by omega), if_neg (by omega), if_neg (by omega)]
    rw [hok]
    clear hok
    obtain ⟨mode, cmd, opt, buf, over⟩ := x
    simp only at h0 h2 h4
    simp only [Wr.val]
    have hn : (mode == 2) = false := beq_eq_false_iff_ne.2 h2
    clear h2
    · go_enter Tryd.func9, Tryd.ntmps9
      go_wp2_with fail
      refine (Between_no mode 0 5 _ (by omega)).mono ?_
      rintro e w' ⟨rfl, rfl⟩
      go_wp2
      go_ret
      exact ⟨rfl, (Below.refl _ _).alloc (Nat.le_refl _) _⟩

set_option maxHeartbeats 8000000 in
theorem WireRight_ge (x : Wr) (w : World) (h4 : 4 ≤ x.mode) (hb : x.buf.length ≤ 1000000000) :
    Calls Tryd.prog 9 #[x.val] w fun e w' => e = .returned (.int .i64 (if x.ok = true then 0 else 4)) ∧ Below w.heap.size w w' := by
  have hn : (x.mode == 2) = false := beq_eq_false_iff_ne.2 (by omega)
  have hl : ¬ x.mode < 4 := by omega
  by_cases h5 : x.mode ≤ 5
  · have hok : x.ok = (x.cmd == 0 && (decide (0 ≤ x.opt ∧ x.opt ≤ 255) && areWords x.buf x.over)) := by rw [Wr.ok, if_neg (by omega), if_neg (by omega), if_pos (by omega)]
    obtain ⟨mode, cmd, opt, buf, over⟩ := x
    simp only at hok h4 h5 hn hl hb
    rw [hok]
    clear hok
    simp only [Wr.val]
    by_cases hc : cmd = 0
    · subst hc
      by_cases ho : 0 ≤ opt ∧ opt ≤ 255
      · rw [decide_eq_true ho]
        by_cases hq : buf.length ≤ 4096
        · cases over with
          | true =>
            by_cases he : buf = []
            · have ew : areWords buf true = true := by simp [areWords, he]
              rw [ew]
              have heb : (buf == []) = true := by simp [he]
              clear ew he
              go_enter Tryd.func9, Tryd.ntmps9
              go_wp2_with fail
              refine (Between_yes mode 0 5 _ (by omega) h5).mono ?_
              rintro e w' ⟨rfl, rfl⟩
              go_wp2_with fail
              refine (Between_yes opt 0 255 _ ho.1 ho.2).mono ?_
              rintro e w' ⟨rfl, rfl⟩
              go_wp2
              go_ret
              exact ⟨rfl, (Below.refl _ _).alloc (Nat.le_refl _) _⟩
            · have ew : areWords buf true = false := by simp [areWords, he]
              rw [ew]
              have heb : (buf == []) = false := by simp [he]
              clear ew he
              go_enter Tryd.func9, Tryd.ntmps9
              go_wp2_with fail
              refine (Between_yes mode 0 5 _ (by omega) h5).mono ?_
              rintro e w' ⟨rfl, rfl⟩
              go_wp2_with fail
              refine (Between_yes opt 0 255 _ ho.1 ho.2).mono ?_
              rintro e w' ⟨rfl, rfl⟩
              go_wp2
              go_ret
              exact ⟨rfl, (Below.refl _ _).alloc (Nat.le_refl _) _⟩
          | false =>
            have ew : areWords buf false = true := by simp [areWords, hq]
            rw [ew]
            clear ew
            go_enter Tryd.func9, Tryd.ntmps9
            go_wp2_with fail
            refine (Between_yes mode 0 5 _ (by omega) h5).mono ?_
            rintro e w' ⟨rfl, rfl⟩
            go_wp2_with fail
            refine (Between_yes opt 0 255 _ ho.1 ho.2).mono ?_
            rintro e w' ⟨rfl, rfl⟩
            go_wp2
            go_ret
            exact ⟨rfl, (Below.refl _ _).alloc (Nat.le_refl _) _⟩
        · have ew : areWords buf over = false := by
            unfold areWords
            split
            · have : buf ≠ [] := fun e => hq (by simp [e])
              simpa using this
            · simpa using hq
          rw [ew]
          clear ew
          go_enter Tryd.func9, Tryd.ntmps9
          go_wp2_with fail
          refine (Between_yes mode 0 5 _ (by omega) h5).mono ?_
          rintro e w' ⟨rfl, rfl⟩
          go_wp2_with fail
          refine (Between_yes opt 0 255 _ ho.1 ho.2).mono ?_
          rintro e w' ⟨rfl, rfl⟩
          go_wp2
          go_ret
          exact ⟨rfl, (Below.refl _ _).alloc (Nat.le_refl _) _⟩
      · rw [decide_eq_false ho]
        go_enter Tryd.func9, Tryd.ntmps9
        go_wp2_with fail
        refine (Between_yes mode 0 5 _ (by omega) h5).mono ?_
        rintro e w' ⟨rfl, rfl⟩
        go_wp2_with fail
        refine (Between_no opt 0 255 _ ho).mono ?_
        rintro e w' ⟨rfl, rfl⟩
        go_wp2
        go_ret
        exact ⟨by simp, (Below.refl _ _).alloc (Nat.le_refl _) _⟩
    · have hcb : (cmd == 0) = false := beq_eq_false_iff_ne.2 hc
      rw [hcb]
      clear hc
      go_enter Tryd.func9, Tryd.ntmps9
      go_wp2_with fail
      refine (Between_yes mode 0 5 _ (by omega) h5).mono ?_
      rintro e w' ⟨rfl, rfl⟩
      go_wp2_with fail
      go_ret
      exact ⟨by simp, (Below.refl _ _).alloc (Nat.le_refl _) _⟩
  · have hok : x.ok = false := by rw [Wr.ok, if_neg (by omega), if_neg (by omega), if_neg (by omega)]
    rw [hok]
    clear hok
    obtain ⟨mode, cmd, opt, buf, over⟩ := x
    simp only at h4 h5 hn hl hb
    simp only [Wr.val]
    go_enter Tryd.func9, Tryd.ntmps9
    go_wp2_with fail
    refine (Between_no mode 0 5 _ (by omega)).mono ?_
    rintro e w' ⟨rfl, rfl⟩
    go_wp2_with fail
    go_ret
    exact ⟨by simp, (Below.refl _ _).alloc (Nat.le_refl _) _⟩

theorem WireRight_any (x : Wr) (w : World) (hb : x.buf.length ≤ 1000000000) :
    Calls Tryd.prog 9 #[x.val] w fun e w' => e = .returned (.int .i64 (if x.ok = true then 0 else 4)) ∧ Below w.heap.size w w' := by
  by_cases h2 : x.mode = 2
  · exact WireRight_2 x w h2
  by_cases h4 : x.mode < 4
  · exact WireRight_lt x w h2 h4
  · exact WireRight_ge x w (by omega) hb
end Go.Proofs.YtmcoliblkkploaaDoor
