/-
  The walk of farlaw.AboutAnswers: it returns true and writes nothing old; conditions: at most 2^43 names, none of more than 2^63 - 1 bytes.
-/
import Derived.Test.YtgghplfcdkedcaaWAns
import Derived.Test.YtgghplfcdkedcaaWWalked
namespace Go.Proofs.Ytgghplfcdkedcaa.W
open Go.RowKit Go.Lib Go.Proofs.Ytgghplfcdkedcaa Go.Proofs.Ytgghplfcdkedcaa.Q

set_option maxHeartbeats 8000000 in
/-- where it is refused -/
theorem Answers_err (v : Value) (l : List ByteArray) (k0 : Int) (d : ByteArray) (R f : Int) (w : World) (hv : RdS w v l) (hn : l.length ≤ 8796093022208)
    (HA : Hid (∀ W, RdS W v l → Calls Try.prog 12 #[.agg #[v, .int .i64 k0], .string d] W fun e w' => ∃ ad cap, e = .returned (.tuple #[.agg #[.slice ad l.length cap, .int .i64 k0], .string ⟨#[]⟩, .int .i64 f]) ∧ OwnS w' W.heap.size ad cap l ∧ Below W.heap.size W w'))
    (HS : Hid (∀ W, RdS W v l → Calls Try.prog 13 #[.agg #[v, .int .i64 k0]] W fun e w' => e = .returned (.int .i64 R) ∧ Below W.heap.size W w'))
    (HC : Hid (∀ W, RdS W v l → Calls Try.prog 14 #[.agg #[v, .int .i64 k0]] W fun e w' => e = .returned (.int .i64 R) ∧ Below W.heap.size W w'))
    (hR : (R = 1 ∧ f = 1) ∨ (R = 4 ∧ f = 4) ∨ (R = 0 ∧ f = 4 ∧ (d.toList == [1]) = false)) :
    Calls Try.prog 4 #[.agg #[v, .int .i64 k0], .string d] w fun e w' => e = .returned (.bool true) ∧ Below w.heap.size w w' := by
  have HV := Hid.mk' hv
  obtain ⟨a, c, rfl, hc, hr⟩ := hv
  clear hr
  rcases hR with ⟨rfl, rfl⟩ | ⟨rfl, rfl⟩ | ⟨rfl, rfl, hd⟩
  all_goals
    go_enter Try.func4, Try.ntmps4
    go_wp2_with (refine wpList_box [.slice a l.length c, .int .i64 k0] 30 rfl _ rfl rfl ?_)
    intro w1 m1
    have hlt1 := m1.lt
    have HB1 := Hid.mk' (m1.below _ _ (Nat.le_refl _) (Below.refl _ w))
    have HT1 := Hid.mk' m1.box
    have HA1 := Hid.mk' (HA.out w1 (HV.out.below HB1.out))
    have c0 := HT1.out.cell (j := 0) rfl
    have c1 := HT1.out.cell (j := 1) rfl
    clear m1 HA
    go_wp2_with fail
    refine HA1.out.mono ?_
    rintro e w2 ⟨ad, cap, rfl, ho, hb2⟩
    have HO3 := Hid.mk' (ho.below ((Below.refl _ _).alloc (Nat.le_refl _) (.cells #[.slice ad l.length cap, .int .i64 k0] 30)))
    have HX3 : Hid (Box (w2.alloc (.cells #[.slice ad l.length cap, .int .i64 k0] 30)) w2.heap.size 30 [.slice ad l.length cap, .int .i64 k0]) := Box.new w2 _ _
    have HT3 := Hid.mk' ((HT1.out.later hb2).alloc (.cells #[.slice ad l.length cap, .int .i64 k0] 30))
    have HB3 := Hid.mk' ((HB1.out.trans (hb2.mono HB1.out.size)).alloc (Nat.le_trans HB1.out.size hb2.size) (.cells #[.slice ad l.length cap, .int .i64 k0] 30))
    have e0 := HT3.out.cell (j := 0) rfl
    have e1 := HT3.out.cell (j := 1) rfl
    clear ho hb2 HT1 HB1 HA1 c0 c1
    go_wp2_with fail
    generalize w2.alloc (.cells #[.slice ad l.length cap, .int .i64 k0] 30) = w3 at *
    refine (HS.out _ (HV.out.below HB3.out)).mono ?_
    rintro e w4 ⟨rfl, hb4⟩
    have HB4 := Hid.mk' (HB3.out.trans (hb4.mono HB3.out.size))
    have HO4 := Hid.mk' (HO3.out.below hb4)
    have HX4 := Hid.mk' (HX3.out.later hb4)
    have HT4 := Hid.mk' (HT3.out.later hb4)
    clear hb4 HB3 HO3 HX3 HT3 e0 e1
    have e0 := HT4.out.cell (j := 0) rfl
    have e1 := HT4.out.cell (j := 1) rfl
    go_wp2_with fail
    refine (HC.out _ (HV.out.below HB4.out)).mono ?_
    rintro e w5 ⟨rfl, hb5⟩
    have HB5 := Hid.mk' (HB4.out.trans (hb5.mono HB4.out.size))
    have HO5 := Hid.mk' (HO4.out.below hb5)
    have HX5 := Hid.mk' (HX4.out.later hb5)
    have HT5 := Hid.mk' (HT4.out.later hb5)
    clear hb5 HB4 HO4 HX4 HT4 e0 e1
    have e0 := HT5.out.cell (j := 0) rfl
    have e1 := HT5.out.cell (j := 1) rfl
    have x0 := HX5.out.cell (j := 0) rfl
    have x1 := HX5.out.cell (j := 1) rfl
    have HE := Hid.mk' (Equal_same w5 (.slice ad l.length cap) (.slice a l.length c) l HO5.out.rd (HV.out.below HB5.out) (by omega))
    go_wp2_with fail
    refine HE.out.mono ?_
    rintro e w6 ⟨rfl, q, rfl⟩
    have HB6 := Hid.mk' (below_drewN HB5.out q)
    clear HB5 HO5 HX5 HT5
    go_wp2
    go_ret
    exact ⟨rfl, HB6.out⟩

theorem nx_int (l : List ByteArray) (k : Nat) (hk : k ≤ l.length) : ((k : Int) + 1).tmod ((l.length : Int) + 1) = (nx l k : Int) := by
  rw [Int.tmod_eq_emod_of_nonneg (by omega)]
  unfold nx
  split
  · next h => rw [h]; simp
  · rw [Int.emod_eq_of_lt (by omega) (by omega)]; omega

set_option maxHeartbeats 8000000 in
set_option maxRecDepth 100000 in
theorem Answers_ok (v : Value) (l : List ByteArray) (k : Nat) (w : World) (hv : RdS w v l) (hn : l.length ≤ 8796093022208) (hsz : ∀ k (h : k < l.length), (l[k]).size ≤ maxLen) (h : chk l (k : Int) = 0) :
    Calls Try.prog 4 #[.agg #[v, .int .i64 (k : Int)], .string ⟨#[1]⟩] w fun e w' => e = .returned (.bool true) ∧ Below w.heap.size w w' := by
  obtain ⟨h1, h8, _, _, hk'⟩ := chk_ok h
  have hk : k ≤ l.length := by omega
  obtain ⟨x, hx⟩ : ∃ x, nm l k = x := ⟨_, rfl⟩
  obtain ⟨y, hy⟩ : ∃ y, nx l k = y := ⟨_, rfl⟩
  have hxs := nm_size h (j := k)
  rw [hx] at hxs
  have HA : Hid (∀ W, RdS W v l → Calls Try.prog 12 #[.agg #[v, .int .i64 (k : Int)], .string ⟨#[1]⟩] W fun e w' => ∃ ad cap, e = .returned (.tuple #[.agg #[.slice ad l.length cap, .int .i64 (y : Int)], .string (⟨#[0]⟩ ++ x), .int .i64 0]) ∧ OwnS w' W.heap.size ad cap l ∧ Below W.heap.size W w') := fun W hW => by
    have := Answer_ok W v l k hW hn h (by omega) hk
    rwa [hx, hy] at this
  have HS : Hid (∀ W, RdS W v l → Calls Try.prog 13 #[.agg #[v, .int .i64 (k : Int)]] W fun e w' => e = .returned (.int .i64 0) ∧ Below W.heap.size W w') := fun W hW => by
    have := Sorts_any W v l (k : Int) hW (by omega) hsz
    rwa [h] at this
  have HC : Hid (∀ W, RdS W v l → Calls Try.prog 14 #[.agg #[v, .int .i64 (k : Int)]] W fun e w' => e = .returned (.int .i64 0) ∧ Below W.heap.size W w') := fun W hW => by
    have := Check_any W v l (k : Int) hW (by omega)
    rwa [h] at this
  have HK : Hid (∀ W, RdS W v l → Calls Try.prog 16 #[v, .int .i64 (k : Int)] W fun e w' => e = .returned (.string x) ∧ w' = W) := fun W hW => by
    have := Walked_any W v l k hW (by omega) (by omega) (by omega)
    rwa [Nat.mod_eq_of_lt (by omega), hx] at this
  have hmod : ((k : Int) + 1).tmod ((l.length : Int) + 1) = (y : Int) := by rw [nx_int l k hk, hy]
  have hmod2 : ((k : Int) + 1) % ((l.length : Int) + 1) = (y : Int) := by rw [← hmod, Int.tmod_eq_emod_of_nonneg (by omega)]
  have HV := Hid.mk' hv
  obtain ⟨a, c, rfl, hc, hr⟩ := hv
  clear hr hsz h hx hy hk'
  go_enter Try.func4, Try.ntmps4
  go_wp2_with (refine wpList_box [.slice a l.length c, .int .i64 (k : Int)] 30 rfl _ rfl rfl ?_)
  intro w1 m1
  have hlt1 := m1.lt
  have HB1 := Hid.mk' (m1.below _ _ (Nat.le_refl _) (Below.refl _ w))
  have HT1 := Hid.mk' m1.box
  have HA1 := Hid.mk' (HA.out w1 (HV.out.below HB1.out))
  have c0 := HT1.out.cell (j := 0) rfl
  have c1 := HT1.out.cell (j := 1) rfl
  clear m1 HA
  go_wp2_with fail
  refine HA1.out.mono ?_
  rintro e w2 ⟨ad, cap, rfl, ho, hb2⟩
  have HO3 := Hid.mk' (ho.below ((Below.refl _ _).alloc (Nat.le_refl _) (.cells #[.slice ad l.length cap, .int .i64 (y : Int)] 30)))
  have HX3 : Hid (Box (w2.alloc (.cells #[.slice ad l.length cap, .int .i64 (y : Int)] 30)) w2.heap.size 30 [.slice ad l.length cap, .int .i64 (y : Int)]) := Box.new w2 _ _
  have HT3 := Hid.mk' ((HT1.out.later hb2).alloc (.cells #[.slice ad l.length cap, .int .i64 (y : Int)] 30))
  have HB3 := Hid.mk' ((HB1.out.trans (hb2.mono HB1.out.size)).alloc (Nat.le_trans HB1.out.size hb2.size) (.cells #[.slice ad l.length cap, .int .i64 (y : Int)] 30))
  have e0 := HT3.out.cell (j := 0) rfl
  have e1 := HT3.out.cell (j := 1) rfl
  clear ho hb2 HT1 HB1 HA1 c0 c1
  go_wp2_with fail
  generalize w2.alloc (.cells #[.slice ad l.length cap, .int .i64 (y : Int)] 30) = w3 at *
  refine (HS.out _ (HV.out.below HB3.out)).mono ?_
  rintro e w4 ⟨rfl, hb4⟩
  have HB4 := Hid.mk' (HB3.out.trans (hb4.mono HB3.out.size))
  have HO4 := Hid.mk' (HO3.out.below hb4)
  have HX4 := Hid.mk' (HX3.out.later hb4)
  have HT4 := Hid.mk' (HT3.out.later hb4)
  clear hb4 HB3 HO3 HX3 HT3 e0 e1
  have e0 := HT4.out.cell (j := 0) rfl
  have e1 := HT4.out.cell (j := 1) rfl
  go_wp2_with fail
  refine (HC.out _ (HV.out.below HB4.out)).mono ?_
  rintro e w5 ⟨rfl, hb5⟩
  have HB5 := Hid.mk' (HB4.out.trans (hb5.mono HB4.out.size))
  have HO5 := Hid.mk' (HO4.out.below hb5)
  have HX5 := Hid.mk' (HX4.out.later hb5)
  have HT5 := Hid.mk' (HT4.out.later hb5)
  clear hb5 HB4 HO4 HX4 HT4 e0 e1
  have e0 := HT5.out.cell (j := 0) rfl
  have e1 := HT5.out.cell (j := 1) rfl
  have x0 := HX5.out.cell (j := 0) rfl
  have x1 := HX5.out.cell (j := 1) rfl
  have HE : Hid (∀ n, Calls Try.prog 15 #[.slice ad l.length cap, .slice a l.length c] (w5.drewN n) fun e w' => e = .returned (.bool true) ∧ ∃ q, w' = (w5.drewN n).drewN q) := fun n => Equal_same _ _ _ l (HO5.out.rd.below (below_drewN (Below.refl _ _) n)) ((HV.out.below HB5.out).below (below_drewN (Below.refl _ _) n)) (by omega)
  have HK5 : Hid (∀ n, Calls Try.prog 16 #[.slice a l.length c, .int .i64 (k : Int)] (w5.drewN n) fun e w' => e = .returned (.string x) ∧ w' = w5.drewN n) := fun n => HK.out _ ((HV.out.below HB5.out).below (below_drewN (Below.refl _ _) n))
  clear HO5 HX5 HT5 HK
  go_wp2_with fail
  go_quiet ((first | (go_at_call 15; with_reducible exact Calls.quiet_of (HE.out _)) | (go_at_call 16; with_reducible exact Calls.quiet_of_same (HK5.out _))))
  have HB6 := Hid.mk' (below_drewN HB5.out nq)
  clear HB5
  go_wp2
  go_ret
  exact ⟨rfl, HB6.out⟩

theorem AboutAnswers_any (v : Value) (l : List ByteArray) (k : Int) (d : ByteArray) (w : World) (hv : RdS w v l) (hn : l.length ≤ 8796093022208) (hsz : ∀ k (h : k < l.length), (l[k]).size ≤ maxLen) :
    Calls Try.prog 4 #[.agg #[v, .int .i64 k], .string d] w fun e w' => e = .returned (.bool true) ∧ Below w.heap.size w w' := by
  have HS : Hid (∀ W, RdS W v l → Calls Try.prog 13 #[.agg #[v, .int .i64 k]] W fun e w' => e = .returned (.int .i64 (chk l k)) ∧ Below W.heap.size W w') := fun W hW => Sorts_any W v l k hW (by omega) hsz
  have HC : Hid (∀ W, RdS W v l → Calls Try.prog 14 #[.agg #[v, .int .i64 k]] W fun e w' => e = .returned (.int .i64 (chk l k)) ∧ Below W.heap.size W w') := fun W hW => Check_any W v l k hW (by omega)
  rcases chk_cases l k with h | h | h
  · by_cases hd : d = ⟨#[1]⟩
    · subst hd
      obtain ⟨_, _, _, h0, _⟩ := chk_ok h
      obtain ⟨m, rfl⟩ : ∃ m : Nat, k = (m : Int) := ⟨k.toNat, by omega⟩
      exact Answers_ok v l m w hv hn hsz h
    · have hd' : (d.toList == [1]) = false := by
        have := same_bytes d ⟨#[1]⟩
        rw [decide_eq_false hd] at this
        rw [show (⟨#[1]⟩ : ByteArray).toList = [1] by rw [ByteArray.toList_eq]] at this
        exact this
      exact Answers_err v l k d (chk l k) 4 w hv hn (fun W hW => Answer_form W v l k d hW hn h hd') HS HC (.inr (.inr ⟨h, rfl, hd'⟩))
  · exact Answers_err v l k d (chk l k) (chk l k) w hv hn (fun W hW => Answer_bad W v l k d hW hn (by rw [h]; rfl)) HS HC (.inl ⟨h, h⟩)
  · exact Answers_err v l k d (chk l k) (chk l k) w hv hn (fun W hW => Answer_bad W v l k d hW hn (by rw [h]; rfl)) HS HC (.inr (.inl ⟨h, h⟩))
end Go.Proofs.Ytgghplfcdkedcaa.W
