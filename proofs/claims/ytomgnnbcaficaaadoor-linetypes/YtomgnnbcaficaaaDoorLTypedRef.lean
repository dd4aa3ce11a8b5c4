/-
  Contract of farref.Typed: it does what the plain step does; conditions: Keys of 38 bytes, a set of four words of 64 bits, a line of fewer than 1024 bytes.
-/
import Derived.Test.YtomgnnbcaficaaaDoorLRef
import Derived.Test.YtomgnnbcaficaaaDoorLTake
import Derived.Test.YtomgnnbcaficaaaDoorHHas
import Derived.Test.YtomgnnbcaficaaaDoorLShelf
namespace Go.Proofs.YtomgnnbcaficaaaDoor.L
open Go.RowKit Go.Lib Go.Proofs.YtomgnnbcaficaaaDoor Go.Proofs.YtomgnnbcaficaaaDoor.W Go.Proofs.YtomgnnbcaficaaaDoor.Q

theorem rep_rub : ∀ n, Lib.repeatL [8, 32, 8] n = rub n
  | 0 => rfl
  | n + 1 => by
    have h := rep_rub n
    simp only [Lib.repeatL] at *
    simp [h, rub]
theorem Repeat_rub (n : Nat) (hn : n ≤ 4096) (W : World) : Calls Tryd.prog 24 #[.string { data := #[8, 32, 8] }, .int .i64 (n : Int)] W fun e w' => e = .returned (.string (bs (rub n))) ∧ Below W.heap.size W w' := by
  have h := Tryd.strings_Repeat { data := #[8, 32, 8] } n W (by omega) (by show 3 * n ≤ 140737488355328; omega)
  rw [show ({ data := #[8, 32, 8] } : ByteArray).data.toList = [8, 32, 8] from rfl, rep_rub] at h
  exact h
/-- what a typed byte does, as the document tells it -/
def Tpd (w : World) (o : Out) (e : Ending) (w' : World) : Prop := e = .returned (.tuple #[.string (bs o.ed.buf), .bool o.ed.q, .string (bs o.sent.flatten), .string (bs o.echo)]) ∧ Below w.heap.size w w'
theorem put_full {B : List UInt8} {c : UInt8} {e : Bool} (h : (B ++ [c]).length = 1024 ∨ e = true) : put B c e = ⟨⟨[], false⟩, [B ++ [c]], [c]⟩ := by unfold put; rw [if_pos h]
theorem put_more {B : List UInt8} {c : UInt8} {e : Bool} (h : ¬ ((B ++ [c]).length = 1024 ∨ e = true)) : put B c e = ⟨⟨B ++ [c], false⟩, [], [c]⟩ := by unfold put; rw [if_neg h]
theorem results_tmp4 {fn : Func} {t u v x : Tmp} (h : fn.results = #[.tmp t, .tmp u, .tmp v, .tmp x]) (tmps : Array Value) (P : Program) (w : World) :
    (results fn tmps).run P w = .ok (.tuple #[tmps.getD t undef, tmps.getD u undef, tmps.getD v undef, tmps.getD x undef]) w := by
  simp [results, h]
theorem bs_nil : bs [] = ⟨#[]⟩ := rfl
theorem bs_cut (l : List UInt8) (n : Nat) : (bs l).extract 0 n = bs (l.take n) := by
  rw [show bs l = (⟨l.toArray⟩ : ByteArray) from rfl, extract_mk, List.drop_zero, Nat.sub_zero]
  rfl

set_option maxHeartbeats 8000000 in
set_option maxRecDepth 100000 in
theorem typed_qf (k : List UInt8) (hk : k.length = 38) (M : List Nat) (hM : H.okW M) (B : List UInt8) (q : Bool) (c : UInt8) (hq : q = true) (hf : B.length + 1 = 1024) (w : World) :
    Calls Tryd.prog 29 #[.string (bs B), .bool q, .agg (bcells k).toArray, .agg (H.ucells M).toArray, .int .i64 (c.toNat : Int)] w fun e w' => Tpd w (step (KK k M) ⟨B, q⟩ c) e w' := by
  have he : step (KK k M) ⟨B, q⟩ c = ⟨⟨[], false⟩, [B ++ [c]], [c]⟩ := by
    have h : step (KK k M) ⟨B, q⟩ c = put B c false := by unfold step; rw [if_pos hq]
    rw [h]
    exact put_full (.inl (by rw [List.length_append, List.length_singleton]; exact hf))
  unfold Tpd
  rw [he]
  clear he
  dsimp only
  rw [List.flatten_cons, List.flatten_nil, List.append_nil]
  have hBc : B.length + 1 ≤ 9223372036854775807 := by omega
  have hBd : ¬ 9223372036854775807 < B.length + 1 := by omega
  have hff : ((B.length : Int) + 1 == 1024) = true := by rw [beq_iff_eq]; omega
  have HSK := Hid.mk' (K.sizeKV k hk)
  have HSM := Hid.mk' (H.sizeMV hM)
  have hsB := bs_size B
  have HBY := Hid.mk' (Bytes_one c)
  have hsC : (bs [c]).size = 1 := rfl
  rw [← bs_app, bs_nil]
  subst hq
  generalize bs [c] = C1 at *
  generalize bs B = X at *
  generalize hl : bcells k = l at *
  generalize hm : H.ucells M = m at *
  clear hl hm
  generalize hz : (c.toNat : Int) = z at *
  clear hz
  clear hf
  go_enter Tryd.func29, Tryd.ntmps29
  go_wp2_with (refine wpList_box l 26 rfl _ rfl rfl ?_)
  intro w1 m1
  go_wp2_with (refine wpList_box m 30 rfl _ rfl rfl ?_)
  intro w2 m2
  have z1 := m1.lt
  have z2 := m2.lt
  have bk := Hid.mk' (m2.keep m1.box)
  have bm := Hid.mk' m2.box
  have HB2 := Hid.mk' (m2.below w.heap.size w (Nat.le_of_lt m1.lt) (m1.below _ _ (Nat.le_refl _) (Below.refl _ w)))
  clear m1 m2
  go_wp2_with fail
  refine (HBY.out _).mono ?_
  rintro e w3 ⟨rfl, hw3⟩
  have bkw3 := Hid.mk' (bk.out.later hw3)
  have bmw3 := Hid.mk' (bm.out.later hw3)
  have HBw3 := Hid.mk' (HB2.out.trans (Below.mono hw3 HB2.out.size))
  clear bk bm HB2 hw3
  go_wp2_with fail
  refine (HBY.out _).mono ?_
  rintro e w4 ⟨rfl, hw4⟩
  have bkw4 := Hid.mk' (bkw3.out.later hw4)
  have bmw4 := Hid.mk' (bmw3.out.later hw4)
  have HBw4 := Hid.mk' (HBw3.out.trans (Below.mono hw4 HBw3.out.size))
  clear bkw3 bmw3 HBw3 hw4
  go_wp2
  refine bodyPost_ret (results_tmp4 rfl _ _ _) rfl ?_
  exact ⟨rfl, HBw4.out⟩

set_option maxHeartbeats 8000000 in
set_option maxRecDepth 100000 in
theorem typed_qm (k : List UInt8) (hk : k.length = 38) (M : List Nat) (hM : H.okW M) (B : List UInt8) (hB : B.length < 1024) (q : Bool) (c : UInt8) (hq : q = true) (hf : ¬ B.length + 1 = 1024) (w : World) :
    Calls Tryd.prog 29 #[.string (bs B), .bool q, .agg (bcells k).toArray, .agg (H.ucells M).toArray, .int .i64 (c.toNat : Int)] w fun e w' => Tpd w (step (KK k M) ⟨B, q⟩ c) e w' := by
  have he : step (KK k M) ⟨B, q⟩ c = ⟨⟨B ++ [c], false⟩, [], [c]⟩ := by
    have h : step (KK k M) ⟨B, q⟩ c = put B c false := by unfold step; rw [if_pos hq]
    rw [h]
    exact put_more (fun e => e.elim (fun e => hf (by rw [List.length_append, List.length_singleton] at e; exact e)) (fun e => by cases e))
  unfold Tpd
  rw [he]
  clear he
  dsimp only
  rw [List.flatten_nil]
  have hBc : B.length + 1 ≤ 9223372036854775807 := by omega
  have hBd : ¬ 9223372036854775807 < B.length + 1 := by omega
  have hff : ((B.length : Int) + 1 == 1024) = false := beq_false_of_ne (by omega)
  have HSK := Hid.mk' (K.sizeKV k hk)
  have HSM := Hid.mk' (H.sizeMV hM)
  have hsB := bs_size B
  have HBY := Hid.mk' (Bytes_one c)
  have hsC : (bs [c]).size = 1 := rfl
  rw [← bs_app, bs_nil]
  subst hq
  generalize bs [c] = C1 at *
  generalize bs B = X at *
  generalize hl : bcells k = l at *
  generalize hm : H.ucells M = m at *
  clear hl hm
  generalize hz : (c.toNat : Int) = z at *
  clear hz
  clear hf
  go_enter Tryd.func29, Tryd.ntmps29
  go_wp2_with (refine wpList_box l 26 rfl _ rfl rfl ?_)
  intro w1 m1
  go_wp2_with (refine wpList_box m 30 rfl _ rfl rfl ?_)
  intro w2 m2
  have z1 := m1.lt
  have z2 := m2.lt
  have bk := Hid.mk' (m2.keep m1.box)
  have bm := Hid.mk' m2.box
  have HB2 := Hid.mk' (m2.below w.heap.size w (Nat.le_of_lt m1.lt) (m1.below _ _ (Nat.le_refl _) (Below.refl _ w)))
  clear m1 m2
  go_wp2_with fail
  refine (HBY.out _).mono ?_
  rintro e w3 ⟨rfl, hw3⟩
  have bkw3 := Hid.mk' (bk.out.later hw3)
  have bmw3 := Hid.mk' (bm.out.later hw3)
  have HBw3 := Hid.mk' (HB2.out.trans (Below.mono hw3 HB2.out.size))
  clear bk bm HB2 hw3
  go_wp2_with fail
  refine (HBY.out _).mono ?_
  rintro e w4 ⟨rfl, hw4⟩
  have bkw4 := Hid.mk' (bkw3.out.later hw4)
  have bmw4 := Hid.mk' (bmw3.out.later hw4)
  have HBw4 := Hid.mk' (HBw3.out.trans (Below.mono hw4 HBw3.out.size))
  clear bkw3 bmw3 HBw3 hw4
  go_wp2
  refine bodyPost_ret (results_tmp4 rfl _ _ _) rfl ?_
  exact ⟨rfl, HBw4.out⟩

set_option maxHeartbeats 8000000 in
set_option maxRecDepth 100000 in
theorem typed_quote (k : List UInt8) (hk : k.length = 38) (M : List Nat) (hM : H.okW M) (B : List UInt8) (q : Bool) (c : UInt8) (hq : q = false) (h14 : isK k 14 c = true) (w : World) :
    Calls Tryd.prog 29 #[.string (bs B), .bool q, .agg (bcells k).toArray, .agg (H.ucells M).toArray, .int .i64 (c.toNat : Int)] w fun e w' => Tpd w (step (KK k M) ⟨B, q⟩ c) e w' := by
  have he : step (KK k M) ⟨B, q⟩ c = ⟨⟨B, true⟩, [], []⟩ := by unfold step; simp [hq, show (KK k M).quote c = true from h14]
  unfold Tpd
  rw [he]
  clear he
  dsimp only
  rw [List.flatten_nil]
  have HSK := Hid.mk' (K.sizeKV k hk)
  have HSM := Hid.mk' (H.sizeMV hM)
  have hsB := bs_size B
  have HK14 : Hid (∀ W, Calls Tryd.prog 18 #[.agg (bcells k).toArray, .int .i64 14] W fun e w' => e = .returned (.int .i64 (keyI k 14)) ∧ Below W.heap.size W w') := fun W => KeyOf_any k hk 14 (by omega) W
  have g14 : ((c.toNat : Int) == keyI k 14) = true := by rw [keyI_is]; exact h14
  rw [bs_nil]
  generalize bs B = X at *
  subst hq
  generalize keyI k 14 = K14 at *
  generalize hl : bcells k = l at *
  generalize hm : H.ucells M = m at *
  clear hl hm
  generalize hz : (c.toNat : Int) = z at *
  clear hz
  clear hk hM h14
  go_enter Tryd.func29, Tryd.ntmps29
  go_wp2_with (refine wpList_box l 26 rfl _ rfl rfl ?_)
  intro w1 m1
  go_wp2_with (refine wpList_box m 30 rfl _ rfl rfl ?_)
  intro w2 m2
  have z1 := m1.lt
  have z2 := m2.lt
  have bk := Hid.mk' (m2.keep m1.box)
  have bm := Hid.mk' m2.box
  have HB2 := Hid.mk' (m2.below w.heap.size w (Nat.le_of_lt m1.lt) (m1.below _ _ (Nat.le_refl _) (Below.refl _ w)))
  clear m1 m2
  go_wp2_with (with_reducible refine wpList_load_box 26 26 l w.heap.size _ Tryd.underlying26 rfl HSK.out bk.out rfl _ rfl rfl ?_)
  refine (HK14.out _).mono ?_
  rintro e w3 ⟨rfl, hw3⟩
  have bkw3 := Hid.mk' (bk.out.later hw3)
  have bmw3 := Hid.mk' (bm.out.later hw3)
  have HBw3 := Hid.mk' (HB2.out.trans (Below.mono hw3 HB2.out.size))
  clear bk bm HB2 hw3
  go_wp2
  refine bodyPost_ret (results_tmp4 rfl _ _ _) rfl ?_
  exact ⟨rfl, HBw3.out⟩

set_option maxHeartbeats 8000000 in
set_option maxRecDepth 100000 in
theorem typed_show (k : List UInt8) (hk : k.length = 38) (M : List Nat) (hM : H.okW M) (B : List UInt8) (hB : B.length < 1024) (q : Bool) (c : UInt8) (hq : q = false) (h14 : isK k 14 c = false) (h10 : isK k 10 c = false) (h12 : isK k 12 c = false) (h11 : isK k 11 c = false) (h13 : isK k 13 c = true) (w : World) :
    Calls Tryd.prog 29 #[.string (bs B), .bool q, .agg (bcells k).toArray, .agg (H.ucells M).toArray, .int .i64 (c.toNat : Int)] w fun e w' => Tpd w (step (KK k M) ⟨B, q⟩ c) e w' := by
  have he : step (KK k M) ⟨B, q⟩ c = ⟨⟨B, false⟩, [], 13 :: 10 :: B⟩ := by unfold step; simp [hq, show (KK k M).quote c = false from h14, show (KK k M).char c = false from h10, show (KK k M).word c = false from h12, show (KK k M).line c = false from h11, show (KK k M).show' c = true from h13]
  unfold Tpd
  rw [he]
  clear he
  dsimp only
  rw [List.flatten_nil]
  have hBc : 2 + B.length ≤ 9223372036854775807 := by omega
  have hBd : ¬ 9223372036854775807 < 2 + B.length := by omega
  have hsh : bs (13 :: 10 :: B) = { data := #[13, 10] } ++ bs B := (bs_app [13, 10] B).symm
  have HSK := Hid.mk' (K.sizeKV k hk)
  have HSM := Hid.mk' (H.sizeMV hM)
  have hsB := bs_size B
  have HK14 : Hid (∀ W, Calls Tryd.prog 18 #[.agg (bcells k).toArray, .int .i64 14] W fun e w' => e = .returned (.int .i64 (keyI k 14)) ∧ Below W.heap.size W w') := fun W => KeyOf_any k hk 14 (by omega) W
  have g14 : ((c.toNat : Int) == keyI k 14) = false := by rw [keyI_is]; exact h14
  have HK10 : Hid (∀ W, Calls Tryd.prog 18 #[.agg (bcells k).toArray, .int .i64 10] W fun e w' => e = .returned (.int .i64 (keyI k 10)) ∧ Below W.heap.size W w') := fun W => KeyOf_any k hk 10 (by omega) W
  have g10 : ((c.toNat : Int) == keyI k 10) = false := by rw [keyI_is]; exact h10
  have HK12 : Hid (∀ W, Calls Tryd.prog 18 #[.agg (bcells k).toArray, .int .i64 12] W fun e w' => e = .returned (.int .i64 (keyI k 12)) ∧ Below W.heap.size W w') := fun W => KeyOf_any k hk 12 (by omega) W
  have g12 : ((c.toNat : Int) == keyI k 12) = false := by rw [keyI_is]; exact h12
  have HK11 : Hid (∀ W, Calls Tryd.prog 18 #[.agg (bcells k).toArray, .int .i64 11] W fun e w' => e = .returned (.int .i64 (keyI k 11)) ∧ Below W.heap.size W w') := fun W => KeyOf_any k hk 11 (by omega) W
  have g11 : ((c.toNat : Int) == keyI k 11) = false := by rw [keyI_is]; exact h11
  have HK13 : Hid (∀ W, Calls Tryd.prog 18 #[.agg (bcells k).toArray, .int .i64 13] W fun e w' => e = .returned (.int .i64 (keyI k 13)) ∧ Below W.heap.size W w') := fun W => KeyOf_any k hk 13 (by omega) W
  have g13 : ((c.toNat : Int) == keyI k 13) = true := by rw [keyI_is]; exact h13
  rw [bs_nil, hsh]
  clear hsh
  generalize bs B = X at *
  subst hq
  generalize keyI k 14 = K14 at *
  generalize keyI k 10 = K10 at *
  generalize keyI k 12 = K12 at *
  generalize keyI k 11 = K11 at *
  generalize keyI k 13 = K13 at *
  generalize hl : bcells k = l at *
  generalize hm : H.ucells M = m at *
  clear hl hm
  generalize hz : (c.toNat : Int) = z at *
  clear hz
  clear hk hM h14 h10 h12 h11 h13
  go_enter Tryd.func29, Tryd.ntmps29
  go_wp2_with (refine wpList_box l 26 rfl _ rfl rfl ?_)
  intro w1 m1
  go_wp2_with (refine wpList_box m 30 rfl _ rfl rfl ?_)
  intro w2 m2
  have z1 := m1.lt
  have z2 := m2.lt
  have bk := Hid.mk' (m2.keep m1.box)
  have bm := Hid.mk' m2.box
  have HB2 := Hid.mk' (m2.below w.heap.size w (Nat.le_of_lt m1.lt) (m1.below _ _ (Nat.le_refl _) (Below.refl _ w)))
  clear m1 m2
  go_wp2_with (with_reducible refine wpList_load_box 26 26 l w.heap.size _ Tryd.underlying26 rfl HSK.out bk.out rfl _ rfl rfl ?_)
  refine (HK14.out _).mono ?_
  rintro e w3 ⟨rfl, hw3⟩
  have bkw3 := Hid.mk' (bk.out.later hw3)
  have bmw3 := Hid.mk' (bm.out.later hw3)
  have HBw3 := Hid.mk' (HB2.out.trans (Below.mono hw3 HB2.out.size))
  clear bk bm HB2 hw3
  go_wp2_with (with_reducible refine wpList_load_box 26 26 l w.heap.size _ Tryd.underlying26 rfl HSK.out bkw3.out rfl _ rfl rfl ?_)
  refine (HK10.out _).mono ?_
  rintro e w4 ⟨rfl, hw4⟩
  have bkw4 := Hid.mk' (bkw3.out.later hw4)
  have bmw4 := Hid.mk' (bmw3.out.later hw4)
  have HBw4 := Hid.mk' (HBw3.out.trans (Below.mono hw4 HBw3.out.size))
  clear bkw3 bmw3 HBw3 hw4
  go_wp2_with (with_reducible refine wpList_load_box 26 26 l w.heap.size _ Tryd.underlying26 rfl HSK.out bkw4.out rfl _ rfl rfl ?_)
  refine (HK12.out _).mono ?_
  rintro e w5 ⟨rfl, hw5⟩
  have bkw5 := Hid.mk' (bkw4.out.later hw5)
  have bmw5 := Hid.mk' (bmw4.out.later hw5)
  have HBw5 := Hid.mk' (HBw4.out.trans (Below.mono hw5 HBw4.out.size))
  clear bkw4 bmw4 HBw4 hw5
  go_wp2_with (with_reducible refine wpList_load_box 26 26 l w.heap.size _ Tryd.underlying26 rfl HSK.out bkw5.out rfl _ rfl rfl ?_)
  refine (HK11.out _).mono ?_
  rintro e w6 ⟨rfl, hw6⟩
  have bkw6 := Hid.mk' (bkw5.out.later hw6)
  have bmw6 := Hid.mk' (bmw5.out.later hw6)
  have HBw6 := Hid.mk' (HBw5.out.trans (Below.mono hw6 HBw5.out.size))
  clear bkw5 bmw5 HBw5 hw6
  go_wp2_with (with_reducible refine wpList_load_box 26 26 l w.heap.size _ Tryd.underlying26 rfl HSK.out bkw6.out rfl _ rfl rfl ?_)
  refine (HK13.out _).mono ?_
  rintro e w7 ⟨rfl, hw7⟩
  have bkw7 := Hid.mk' (bkw6.out.later hw7)
  have bmw7 := Hid.mk' (bmw6.out.later hw7)
  have HBw7 := Hid.mk' (HBw6.out.trans (Below.mono hw7 HBw6.out.size))
  clear bkw6 bmw6 HBw6 hw7
  go_wp2
  refine bodyPost_ret (results_tmp4 rfl _ _ _) rfl ?_
  exact ⟨rfl, HBw7.out⟩

set_option maxHeartbeats 8000000 in
set_option maxRecDepth 100000 in
theorem typed_line (k : List UInt8) (hk : k.length = 38) (M : List Nat) (hM : H.okW M) (B : List UInt8) (hB : B.length < 1024) (q : Bool) (c : UInt8) (hq : q = false) (h14 : isK k 14 c = false) (h10 : isK k 10 c = false) (h12 : isK k 12 c = false) (h11 : isK k 11 c = true) (w : World) :
    Calls Tryd.prog 29 #[.string (bs B), .bool q, .agg (bcells k).toArray, .agg (H.ucells M).toArray, .int .i64 (c.toNat : Int)] w fun e w' => Tpd w (step (KK k M) ⟨B, q⟩ c) e w' := by
  have he : step (KK k M) ⟨B, q⟩ c = ⟨⟨[], false⟩, [], rub B.length⟩ := by unfold step; simp [hq, show (KK k M).quote c = false from h14, show (KK k M).char c = false from h10, show (KK k M).word c = false from h12, show (KK k M).line c = true from h11, gone]
  unfold Tpd
  rw [he]
  clear he
  dsimp only
  rw [List.flatten_nil]
  have HRB := Hid.mk' (fun W => Repeat_rub (B.length) (by omega) W)
  have HSK := Hid.mk' (K.sizeKV k hk)
  have HSM := Hid.mk' (H.sizeMV hM)
  have hsB := bs_size B
  have HK14 : Hid (∀ W, Calls Tryd.prog 18 #[.agg (bcells k).toArray, .int .i64 14] W fun e w' => e = .returned (.int .i64 (keyI k 14)) ∧ Below W.heap.size W w') := fun W => KeyOf_any k hk 14 (by omega) W
  have g14 : ((c.toNat : Int) == keyI k 14) = false := by rw [keyI_is]; exact h14
  have HK10 : Hid (∀ W, Calls Tryd.prog 18 #[.agg (bcells k).toArray, .int .i64 10] W fun e w' => e = .returned (.int .i64 (keyI k 10)) ∧ Below W.heap.size W w') := fun W => KeyOf_any k hk 10 (by omega) W
  have g10 : ((c.toNat : Int) == keyI k 10) = false := by rw [keyI_is]; exact h10
  have HK12 : Hid (∀ W, Calls Tryd.prog 18 #[.agg (bcells k).toArray, .int .i64 12] W fun e w' => e = .returned (.int .i64 (keyI k 12)) ∧ Below W.heap.size W w') := fun W => KeyOf_any k hk 12 (by omega) W
  have g12 : ((c.toNat : Int) == keyI k 12) = false := by rw [keyI_is]; exact h12
  have HK11 : Hid (∀ W, Calls Tryd.prog 18 #[.agg (bcells k).toArray, .int .i64 11] W fun e w' => e = .returned (.int .i64 (keyI k 11)) ∧ Below W.heap.size W w') := fun W => KeyOf_any k hk 11 (by omega) W
  have g11 : ((c.toNat : Int) == keyI k 11) = true := by rw [keyI_is]; exact h11
  rw [bs_nil]
  generalize bs (rub B.length) = RU at *
  generalize bs B = X at *
  subst hq
  generalize keyI k 14 = K14 at *
  generalize keyI k 10 = K10 at *
  generalize keyI k 12 = K12 at *
  generalize keyI k 11 = K11 at *
  generalize hl : bcells k = l at *
  generalize hm : H.ucells M = m at *
  clear hl hm
  generalize hz : (c.toNat : Int) = z at *
  clear hz
  clear hk hM h14 h10 h12 h11
  go_enter Tryd.func29, Tryd.ntmps29
  go_wp2_with (refine wpList_box l 26 rfl _ rfl rfl ?_)
  intro w1 m1
  go_wp2_with (refine wpList_box m 30 rfl _ rfl rfl ?_)
  intro w2 m2
  have z1 := m1.lt
  have z2 := m2.lt
  have bk := Hid.mk' (m2.keep m1.box)
  have bm := Hid.mk' m2.box
  have HB2 := Hid.mk' (m2.below w.heap.size w (Nat.le_of_lt m1.lt) (m1.below _ _ (Nat.le_refl _) (Below.refl _ w)))
  clear m1 m2
  go_wp2_with (with_reducible refine wpList_load_box 26 26 l w.heap.size _ Tryd.underlying26 rfl HSK.out bk.out rfl _ rfl rfl ?_)
  refine (HK14.out _).mono ?_
  rintro e w3 ⟨rfl, hw3⟩
  have bkw3 := Hid.mk' (bk.out.later hw3)
  have bmw3 := Hid.mk' (bm.out.later hw3)
  have HBw3 := Hid.mk' (HB2.out.trans (Below.mono hw3 HB2.out.size))
  clear bk bm HB2 hw3
  go_wp2_with (with_reducible refine wpList_load_box 26 26 l w.heap.size _ Tryd.underlying26 rfl HSK.out bkw3.out rfl _ rfl rfl ?_)
  refine (HK10.out _).mono ?_
  rintro e w4 ⟨rfl, hw4⟩
  have bkw4 := Hid.mk' (bkw3.out.later hw4)
  have bmw4 := Hid.mk' (bmw3.out.later hw4)
  have HBw4 := Hid.mk' (HBw3.out.trans (Below.mono hw4 HBw3.out.size))
  clear bkw3 bmw3 HBw3 hw4
  go_wp2_with (with_reducible refine wpList_load_box 26 26 l w.heap.size _ Tryd.underlying26 rfl HSK.out bkw4.out rfl _ rfl rfl ?_)
  refine (HK12.out _).mono ?_
  rintro e w5 ⟨rfl, hw5⟩
  have bkw5 := Hid.mk' (bkw4.out.later hw5)
  have bmw5 := Hid.mk' (bmw4.out.later hw5)
  have HBw5 := Hid.mk' (HBw4.out.trans (Below.mono hw5 HBw4.out.size))
  clear bkw4 bmw4 HBw4 hw5
  go_wp2_with (with_reducible refine wpList_load_box 26 26 l w.heap.size _ Tryd.underlying26 rfl HSK.out bkw5.out rfl _ rfl rfl ?_)
  refine (HK11.out _).mono ?_
  rintro e w6 ⟨rfl, hw6⟩
  have bkw6 := Hid.mk' (bkw5.out.later hw6)
  have bmw6 := Hid.mk' (bmw5.out.later hw6)
  have HBw6 := Hid.mk' (HBw5.out.trans (Below.mono hw6 HBw5.out.size))
  clear bkw5 bmw5 HBw5 hw6
  go_wp2_with fail
  refine (HRB.out _).mono ?_
  rintro e w7 ⟨rfl, hw7⟩
  have bkw7 := Hid.mk' (bkw6.out.later hw7)
  have bmw7 := Hid.mk' (bmw6.out.later hw7)
  have HBw7 := Hid.mk' (HBw6.out.trans (Below.mono hw7 HBw6.out.size))
  clear bkw6 bmw6 HBw6 hw7
  go_wp2
  refine bodyPost_ret (results_tmp4 rfl _ _ _) rfl ?_
  exact ⟨rfl, HBw7.out⟩

set_option maxHeartbeats 8000000 in
set_option maxRecDepth 100000 in
theorem typed_char0 (k : List UInt8) (hk : k.length = 38) (M : List Nat) (hM : H.okW M) (B : List UInt8) (hB : B.length < 1024) (q : Bool) (c : UInt8) (hq : q = false) (hn : B = []) (h14 : isK k 14 c = false) (h10 : isK k 10 c = true) (w : World) :
    Calls Tryd.prog 29 #[.string (bs B), .bool q, .agg (bcells k).toArray, .agg (H.ucells M).toArray, .int .i64 (c.toNat : Int)] w fun e w' => Tpd w (step (KK k M) ⟨B, q⟩ c) e w' := by
  have he : step (KK k M) ⟨B, q⟩ c = ⟨⟨[], false⟩, [], []⟩ := by
    have h : step (KK k M) ⟨B, q⟩ c = gone B B.dropLast := by unfold step; simp [hq, show (KK k M).quote c = false from h14, show (KK k M).char c = true from h10]
    rw [h, hn]
    rfl
  unfold Tpd
  rw [he]
  clear he
  dsimp only
  rw [List.flatten_nil]
  have HSK := Hid.mk' (K.sizeKV k hk)
  have HSM := Hid.mk' (H.sizeMV hM)
  have hsB := bs_size B
  have HK14 : Hid (∀ W, Calls Tryd.prog 18 #[.agg (bcells k).toArray, .int .i64 14] W fun e w' => e = .returned (.int .i64 (keyI k 14)) ∧ Below W.heap.size W w') := fun W => KeyOf_any k hk 14 (by omega) W
  have g14 : ((c.toNat : Int) == keyI k 14) = false := by rw [keyI_is]; exact h14
  have HK10 : Hid (∀ W, Calls Tryd.prog 18 #[.agg (bcells k).toArray, .int .i64 10] W fun e w' => e = .returned (.int .i64 (keyI k 10)) ∧ Below W.heap.size W w') := fun W => KeyOf_any k hk 10 (by omega) W
  have g10 : ((c.toNat : Int) == keyI k 10) = true := by rw [keyI_is]; exact h10
  have HRB : Hid (∀ W, Calls Tryd.prog 24 #[.string { data := #[8, 32, 8] }, .int .i64 0] W fun e w' => e = .returned (.string { data := #[] }) ∧ Below W.heap.size W w') := fun W => Repeat_rub 0 (by omega) W
  subst hn
  rw [bs_nil] at *
  subst hq
  generalize keyI k 14 = K14 at *
  generalize keyI k 10 = K10 at *
  generalize hl : bcells k = l at *
  generalize hm : H.ucells M = m at *
  clear hl hm
  generalize hz : (c.toNat : Int) = z at *
  clear hz
  clear hk hM hB h14 h10
  go_enter Tryd.func29, Tryd.ntmps29
  go_wp2_with (refine wpList_box l 26 rfl _ rfl rfl ?_)
  intro w1 m1
  go_wp2_with (refine wpList_box m 30 rfl _ rfl rfl ?_)
  intro w2 m2
  have z1 := m1.lt
  have z2 := m2.lt
  have bk := Hid.mk' (m2.keep m1.box)
  have bm := Hid.mk' m2.box
  have HB2 := Hid.mk' (m2.below w.heap.size w (Nat.le_of_lt m1.lt) (m1.below _ _ (Nat.le_refl _) (Below.refl _ w)))
  clear m1 m2
  go_wp2_with (with_reducible refine wpList_load_box 26 26 l w.heap.size _ Tryd.underlying26 rfl HSK.out bk.out rfl _ rfl rfl ?_)
  refine (HK14.out _).mono ?_
  rintro e w3 ⟨rfl, hw3⟩
  have bkw3 := Hid.mk' (bk.out.later hw3)
  have bmw3 := Hid.mk' (bm.out.later hw3)
  have HBw3 := Hid.mk' (HB2.out.trans (Below.mono hw3 HB2.out.size))
  clear bk bm HB2 hw3
  go_wp2_with (with_reducible refine wpList_load_box 26 26 l w.heap.size _ Tryd.underlying26 rfl HSK.out bkw3.out rfl _ rfl rfl ?_)
  refine (HK10.out _).mono ?_
  rintro e w4 ⟨rfl, hw4⟩
  have bkw4 := Hid.mk' (bkw3.out.later hw4)
  have bmw4 := Hid.mk' (bmw3.out.later hw4)
  have HBw4 := Hid.mk' (HBw3.out.trans (Below.mono hw4 HBw3.out.size))
  clear bkw3 bmw3 HBw3 hw4
  go_wp2_with fail
  refine (HRB.out _).mono ?_
  rintro e w5 ⟨rfl, hw5⟩
  have bkw5 := Hid.mk' (bkw4.out.later hw5)
  have bmw5 := Hid.mk' (bmw4.out.later hw5)
  have HBw5 := Hid.mk' (HBw4.out.trans (Below.mono hw5 HBw4.out.size))
  clear bkw4 bmw4 HBw4 hw5
  go_wp2
  refine bodyPost_ret (results_tmp4 rfl _ _ _) rfl ?_
  exact ⟨rfl, HBw5.out⟩

set_option maxHeartbeats 8000000 in
set_option maxRecDepth 100000 in
theorem typed_char1 (k : List UInt8) (hk : k.length = 38) (M : List Nat) (hM : H.okW M) (B : List UInt8) (hB : B.length < 1024) (q : Bool) (c : UInt8) (hq : q = false) (n : Nat) (hn : B.length = n + 1) (h14 : isK k 14 c = false) (h10 : isK k 10 c = true) (w : World) :
    Calls Tryd.prog 29 #[.string (bs B), .bool q, .agg (bcells k).toArray, .agg (H.ucells M).toArray, .int .i64 (c.toNat : Int)] w fun e w' => Tpd w (step (KK k M) ⟨B, q⟩ c) e w' := by
  have he : step (KK k M) ⟨B, q⟩ c = ⟨⟨B.take n, false⟩, [], rub 1⟩ := by
    have h : step (KK k M) ⟨B, q⟩ c = gone B B.dropLast := by unfold step; simp [hq, show (KK k M).quote c = false from h14, show (KK k M).char c = true from h10]
    rw [h]
    unfold gone
    rw [List.length_dropLast, List.dropLast_eq_take, hn]
    congr 2
    omega
  unfold Tpd
  rw [he]
  clear he
  dsimp only
  rw [List.flatten_nil]
  have HSK := Hid.mk' (K.sizeKV k hk)
  have HSM := Hid.mk' (H.sizeMV hM)
  have hsB := bs_size B
  have HK14 : Hid (∀ W, Calls Tryd.prog 18 #[.agg (bcells k).toArray, .int .i64 14] W fun e w' => e = .returned (.int .i64 (keyI k 14)) ∧ Below W.heap.size W w') := fun W => KeyOf_any k hk 14 (by omega) W
  have g14 : ((c.toNat : Int) == keyI k 14) = false := by rw [keyI_is]; exact h14
  have HK10 : Hid (∀ W, Calls Tryd.prog 18 #[.agg (bcells k).toArray, .int .i64 10] W fun e w' => e = .returned (.int .i64 (keyI k 10)) ∧ Below W.heap.size W w') := fun W => KeyOf_any k hk 10 (by omega) W
  have g10 : ((c.toNat : Int) == keyI k 10) = true := by rw [keyI_is]; exact h10
  have HRB : Hid (∀ W, Calls Tryd.prog 24 #[.string { data := #[8, 32, 8] }, .int .i64 ((n : Int) + 1 - (n : Int))] W fun e w' => e = .returned (.string (bs (rub 1))) ∧ Below W.heap.size W w') := fun W => by
    have h := Repeat_rub 1 (by omega) W
    rw [show ((1 : Nat) : Int) = (n : Int) + 1 - (n : Int) by omega] at h
    exact h
  have hcut := bs_cut B n
  have hsL : (bs (B.take n)).size = n := by rw [bs_size, List.length_take]; omega
  have hne : (bs B).toList.isEmpty = false := by
    rw [bs_list]
    cases B with
    | nil => simp at hn
    | cons _ _ => rfl
  have hne2 : ((bs B).toList == []) = false := by
    rw [bs_list]
    cases B with
    | nil => simp at hn
    | cons _ _ => rfl
  rw [hn] at hsB
  rw [bs_nil]
  generalize bs (rub 1) = RU at *
  generalize bs (B.take n) = L1 at *
  generalize bs B = X at *
  have hnB : n + 1 < 1024 := by omega
  subst hq
  generalize keyI k 14 = K14 at *
  generalize keyI k 10 = K10 at *
  generalize hl : bcells k = l at *
  generalize hm : H.ucells M = m at *
  clear hl hm
  generalize hz : (c.toNat : Int) = z at *
  clear hz
  clear hk hM hB h14 h10 hn
  go_enter Tryd.func29, Tryd.ntmps29
  go_wp2_with (refine wpList_box l 26 rfl _ rfl rfl ?_)
  intro w1 m1
  go_wp2_with (refine wpList_box m 30 rfl _ rfl rfl ?_)
  intro w2 m2
  have z1 := m1.lt
  have z2 := m2.lt
  have bk := Hid.mk' (m2.keep m1.box)
  have bm := Hid.mk' m2.box
  have HB2 := Hid.mk' (m2.below w.heap.size w (Nat.le_of_lt m1.lt) (m1.below _ _ (Nat.le_refl _) (Below.refl _ w)))
  clear m1 m2
  go_wp2_with (with_reducible refine wpList_load_box 26 26 l w.heap.size _ Tryd.underlying26 rfl HSK.out bk.out rfl _ rfl rfl ?_)
  refine (HK14.out _).mono ?_
  rintro e w3 ⟨rfl, hw3⟩
  have bkw3 := Hid.mk' (bk.out.later hw3)
  have bmw3 := Hid.mk' (bm.out.later hw3)
  have HBw3 := Hid.mk' (HB2.out.trans (Below.mono hw3 HB2.out.size))
  clear bk bm HB2 hw3
  go_wp2_with (with_reducible refine wpList_load_box 26 26 l w.heap.size _ Tryd.underlying26 rfl HSK.out bkw3.out rfl _ rfl rfl ?_)
  refine (HK10.out _).mono ?_
  rintro e w4 ⟨rfl, hw4⟩
  have bkw4 := Hid.mk' (bkw3.out.later hw4)
  have bmw4 := Hid.mk' (bmw3.out.later hw4)
  have HBw4 := Hid.mk' (HBw3.out.trans (Below.mono hw4 HBw3.out.size))
  clear bkw3 bmw3 HBw3 hw4
  go_wp2_with fail
  refine (HRB.out _).mono ?_
  rintro e w5 ⟨rfl, hw5⟩
  have bkw5 := Hid.mk' (bkw4.out.later hw5)
  have bmw5 := Hid.mk' (bmw4.out.later hw5)
  have HBw5 := Hid.mk' (HBw4.out.trans (Below.mono hw5 HBw4.out.size))
  clear bkw4 bmw4 HBw4 hw5
  go_wp2
  refine bodyPost_ret (results_tmp4 rfl _ _ _) rfl ?_
  exact ⟨rfl, HBw5.out⟩

set_option maxHeartbeats 8000000 in
set_option maxRecDepth 100000 in
theorem typed_word (k : List UInt8) (hk : k.length = 38) (M : List Nat) (hM : H.okW M) (B : List UInt8) (hB : B.length < 1024) (q : Bool) (c : UInt8) (hq : q = false) (h14 : isK k 14 c = false) (h10 : isK k 10 c = false) (h12 : isK k 12 c = true) (w : World) :
    Calls Tryd.prog 29 #[.string (bs B), .bool q, .agg (bcells k).toArray, .agg (H.ucells M).toArray, .int .i64 (c.toNat : Int)] w fun e w' => Tpd w (step (KK k M) ⟨B, q⟩ c) e w' := by
  have he : step (KK k M) ⟨B, q⟩ c = ⟨⟨B.take (ws B), false⟩, [], rub (B.length - ws B)⟩ := by
    have h : step (KK k M) ⟨B, q⟩ c = gone B (cutW B) := by unfold step; simp [hq, show (KK k M).quote c = false from h14, show (KK k M).char c = false from h10, show (KK k M).word c = true from h12]
    rw [h]
    unfold gone
    rw [cutW_length, cutW_ws]
  unfold Tpd
  rw [he]
  clear he
  dsimp only
  rw [List.flatten_nil]
  have HSK := Hid.mk' (K.sizeKV k hk)
  have HSM := Hid.mk' (H.sizeMV hM)
  have hsB := bs_size B
  have HK14 : Hid (∀ W, Calls Tryd.prog 18 #[.agg (bcells k).toArray, .int .i64 14] W fun e w' => e = .returned (.int .i64 (keyI k 14)) ∧ Below W.heap.size W w') := fun W => KeyOf_any k hk 14 (by omega) W
  have g14 : ((c.toNat : Int) == keyI k 14) = false := by rw [keyI_is]; exact h14
  have HK10 : Hid (∀ W, Calls Tryd.prog 18 #[.agg (bcells k).toArray, .int .i64 10] W fun e w' => e = .returned (.int .i64 (keyI k 10)) ∧ Below W.heap.size W w') := fun W => KeyOf_any k hk 10 (by omega) W
  have g10 : ((c.toNat : Int) == keyI k 10) = false := by rw [keyI_is]; exact h10
  have HK12 : Hid (∀ W, Calls Tryd.prog 18 #[.agg (bcells k).toArray, .int .i64 12] W fun e w' => e = .returned (.int .i64 (keyI k 12)) ∧ Below W.heap.size W w') := fun W => KeyOf_any k hk 12 (by omega) W
  have g12 : ((c.toNat : Int) == keyI k 12) = true := by rw [keyI_is]; exact h12
  have HTR := Hid.mk' (strTrim_any B (by omega))
  have HLI := Hid.mk' (strLast_any (B.take (tz B B.length)) (by rw [List.length_take]; omega))
  have htl : (B.take (tz B B.length)).length = tz B B.length := by rw [List.length_take]; have := tz_len B B.length; omega
  have hlw : lw (B.take (tz B B.length)) (B.take (tz B B.length)).length = ws B := by
    unfold ws lw
    rw [htl, List.take_take, Nat.min_self]
  rw [hlw] at HLI
  have hcut : (bs (B.take (tz B B.length))).extract 0 (ws B) = bs (B.take (ws B)) := by
    rw [bs_cut, List.take_take, Nat.min_eq_left (show ws B ≤ tz B B.length from lw_le _ _)]
  have hsT : (bs (B.take (tz B B.length))).size = tz B B.length := by rw [bs_size, htl]
  have hwt : ws B ≤ tz B B.length := lw_le _ _
  have hsL : (bs (B.take (ws B))).size = ws B := by rw [bs_size, List.length_take]; have := ws_le B; omega
  have hwb := ws_le B
  have HRB : Hid (∀ W, Calls Tryd.prog 24 #[.string { data := #[8, 32, 8] }, .int .i64 ((B.length : Int) - (ws B : Int))] W fun e w' => e = .returned (.string (bs (rub (B.length - ws B)))) ∧ Below W.heap.size W w') := fun W => by
    have h := Repeat_rub (B.length - ws B) (by omega) W
    rw [show ((B.length - ws B : Nat) : Int) = (B.length : Int) - (ws B : Int) by omega] at h
    exact h
  have htb := tz_len B B.length
  rw [bs_nil]
  generalize bs (rub (B.length - ws B)) = RU at *
  generalize bs (B.take (ws B)) = L1 at *
  generalize bs (B.take (tz B B.length)) = L2 at *
  generalize ws B = nw at *
  generalize tz B B.length = nt at *
  generalize bs B = X at *
  subst hq
  generalize keyI k 14 = K14 at *
  generalize keyI k 10 = K10 at *
  generalize keyI k 12 = K12 at *
  generalize hl : bcells k = l at *
  generalize hm : H.ucells M = m at *
  clear hl hm
  generalize hz : (c.toNat : Int) = z at *
  clear hz
  clear hk hM h14 h10 h12 htl hlw
  go_enter Tryd.func29, Tryd.ntmps29
  go_wp2_with (refine wpList_box l 26 rfl _ rfl rfl ?_)
  intro w1 m1
  go_wp2_with (refine wpList_box m 30 rfl _ rfl rfl ?_)
  intro w2 m2
  have z1 := m1.lt
  have z2 := m2.lt
  have bk := Hid.mk' (m2.keep m1.box)
  have bm := Hid.mk' m2.box
  have HB2 := Hid.mk' (m2.below w.heap.size w (Nat.le_of_lt m1.lt) (m1.below _ _ (Nat.le_refl _) (Below.refl _ w)))
  clear m1 m2
  go_wp2_with (with_reducible refine wpList_load_box 26 26 l w.heap.size _ Tryd.underlying26 rfl HSK.out bk.out rfl _ rfl rfl ?_)
  refine (HK14.out _).mono ?_
  rintro e w3 ⟨rfl, hw3⟩
  have bkw3 := Hid.mk' (bk.out.later hw3)
  have bmw3 := Hid.mk' (bm.out.later hw3)
  have HBw3 := Hid.mk' (HB2.out.trans (Below.mono hw3 HB2.out.size))
  clear bk bm HB2 hw3
  go_wp2_with (with_reducible refine wpList_load_box 26 26 l w.heap.size _ Tryd.underlying26 rfl HSK.out bkw3.out rfl _ rfl rfl ?_)
  refine (HK10.out _).mono ?_
  rintro e w4 ⟨rfl, hw4⟩
  have bkw4 := Hid.mk' (bkw3.out.later hw4)
  have bmw4 := Hid.mk' (bmw3.out.later hw4)
  have HBw4 := Hid.mk' (HBw3.out.trans (Below.mono hw4 HBw3.out.size))
  clear bkw3 bmw3 HBw3 hw4
  go_wp2_with (with_reducible refine wpList_load_box 26 26 l w.heap.size _ Tryd.underlying26 rfl HSK.out bkw4.out rfl _ rfl rfl ?_)
  refine (HK12.out _).mono ?_
  rintro e w5 ⟨rfl, hw5⟩
  have bkw5 := Hid.mk' (bkw4.out.later hw5)
  have bmw5 := Hid.mk' (bmw4.out.later hw5)
  have HBw5 := Hid.mk' (HBw4.out.trans (Below.mono hw5 HBw4.out.size))
  clear bkw4 bmw4 HBw4 hw5
  go_wp2_with fail
  refine (HTR.out _).mono ?_
  rintro e wx ⟨rfl, rfl⟩
  go_wp2_with fail
  refine (HLI.out _).mono ?_
  rintro e wx ⟨rfl, rfl⟩
  go_wp2_with fail
  refine (HRB.out _).mono ?_
  rintro e w6 ⟨rfl, hw6⟩
  have bkw6 := Hid.mk' (bkw5.out.later hw6)
  have bmw6 := Hid.mk' (bmw5.out.later hw6)
  have HBw6 := Hid.mk' (HBw5.out.trans (Below.mono hw6 HBw5.out.size))
  clear bkw5 bmw5 HBw5 hw6
  go_wp2
  refine bodyPost_ret (results_tmp4 rfl _ _ _) rfl ?_
  exact ⟨rfl, HBw6.out⟩

set_option maxHeartbeats 8000000 in
set_option maxRecDepth 100000 in
theorem typed_pf (k : List UInt8) (hk : k.length = 38) (M : List Nat) (hM : H.okW M) (B : List UInt8) (q : Bool) (c : UInt8) (hq : q = false) (h14 : isK k 14 c = false) (h10 : isK k 10 c = false) (h12 : isK k 12 c = false) (h11 : isK k 11 c = false) (h13 : isK k 13 c = false) (hf : B.length + 1 = 1024) (w : World) :
    Calls Tryd.prog 29 #[.string (bs B), .bool q, .agg (bcells k).toArray, .agg (H.ucells M).toArray, .int .i64 (c.toNat : Int)] w fun e w' => Tpd w (step (KK k M) ⟨B, q⟩ c) e w' := by
  have he : step (KK k M) ⟨B, q⟩ c = ⟨⟨[], false⟩, [B ++ [c]], [c]⟩ := by
    rw [step_plain (K := KK k M) (e := ⟨B, q⟩) hq (show plainB (KK k M) c from ⟨h14, h10, h12, h11, h13⟩)]
    exact put_full (.inl (by rw [List.length_append, List.length_singleton]; exact hf))
  unfold Tpd
  rw [he]
  clear he
  dsimp only
  rw [List.flatten_cons, List.flatten_nil, List.append_nil]
  have hBc : B.length + 1 ≤ 9223372036854775807 := by omega
  have hBd : ¬ 9223372036854775807 < B.length + 1 := by omega
  have hff : ((B.length : Int) + 1 == 1024) = true := by rw [beq_iff_eq]; omega
  have HSK := Hid.mk' (K.sizeKV k hk)
  have HSM := Hid.mk' (H.sizeMV hM)
  have hsB := bs_size B
  have HK14 : Hid (∀ W, Calls Tryd.prog 18 #[.agg (bcells k).toArray, .int .i64 14] W fun e w' => e = .returned (.int .i64 (keyI k 14)) ∧ Below W.heap.size W w') := fun W => KeyOf_any k hk 14 (by omega) W
  have g14 : ((c.toNat : Int) == keyI k 14) = false := by rw [keyI_is]; exact h14
  have HK10 : Hid (∀ W, Calls Tryd.prog 18 #[.agg (bcells k).toArray, .int .i64 10] W fun e w' => e = .returned (.int .i64 (keyI k 10)) ∧ Below W.heap.size W w') := fun W => KeyOf_any k hk 10 (by omega) W
  have g10 : ((c.toNat : Int) == keyI k 10) = false := by rw [keyI_is]; exact h10
  have HK12 : Hid (∀ W, Calls Tryd.prog 18 #[.agg (bcells k).toArray, .int .i64 12] W fun e w' => e = .returned (.int .i64 (keyI k 12)) ∧ Below W.heap.size W w') := fun W => KeyOf_any k hk 12 (by omega) W
  have g12 : ((c.toNat : Int) == keyI k 12) = false := by rw [keyI_is]; exact h12
  have HK11 : Hid (∀ W, Calls Tryd.prog 18 #[.agg (bcells k).toArray, .int .i64 11] W fun e w' => e = .returned (.int .i64 (keyI k 11)) ∧ Below W.heap.size W w') := fun W => KeyOf_any k hk 11 (by omega) W
  have g11 : ((c.toNat : Int) == keyI k 11) = false := by rw [keyI_is]; exact h11
  have HK13 : Hid (∀ W, Calls Tryd.prog 18 #[.agg (bcells k).toArray, .int .i64 13] W fun e w' => e = .returned (.int .i64 (keyI k 13)) ∧ Below W.heap.size W w') := fun W => KeyOf_any k hk 13 (by omega) W
  have g13 : ((c.toNat : Int) == keyI k 13) = false := by rw [keyI_is]; exact h13
  have HBY := Hid.mk' (Bytes_one c)
  have hsC : (bs [c]).size = 1 := rfl
  have HIM := Hid.mk' (fun W => H.InMask_any M hM c.toNat c.toNat_lt W)
  unfold H.MV at HIM
  have HLL : Hid (0 + 38 ≤ (bcells k).length) := by rw [Hid, bcells_length, hk]; decide
  have HLT : Hid (Value.agg (((bcells k).drop 0).take 38).toArray = .agg (bcells k).toArray) := by rw [Hid, List.drop_zero, List.take_of_length_le (by rw [bcells_length, hk]; decide)]
  have HML : Hid (0 + 4 ≤ (H.ucells M).length) := by rw [Hid, H.ucells_length, hM.1]; decide
  have HMT : Hid (Value.agg (((H.ucells M).drop 0).take 4).toArray = .agg (H.ucells M).toArray) := by rw [Hid, List.drop_zero, List.take_of_length_le (by rw [H.ucells_length, hM.1]; decide)]
  rw [← bs_app, bs_nil]
  subst hq
  generalize bs [c] = C1 at *
  generalize bs B = X at *
  generalize hmm : H.mem M c.toNat = mm at *
  clear hmm
  generalize keyI k 14 = K14 at *
  generalize keyI k 10 = K10 at *
  generalize keyI k 12 = K12 at *
  generalize keyI k 11 = K11 at *
  generalize keyI k 13 = K13 at *
  generalize hl : bcells k = l at *
  generalize hm : H.ucells M = m at *
  clear hl hm
  generalize hz : (c.toNat : Int) = z at *
  clear hz
  clear hf hk hM h14 h10 h12 h11 h13
  go_enter Tryd.func29, Tryd.ntmps29
  go_wp2_with (refine wpList_box l 26 rfl _ rfl rfl ?_)
  intro w1 m1
  go_wp2_with (refine wpList_box m 30 rfl _ rfl rfl ?_)
  intro w2 m2
  have z1 := m1.lt
  have z2 := m2.lt
  have bk := Hid.mk' (m2.keep m1.box)
  have bm := Hid.mk' m2.box
  have HB2 := Hid.mk' (m2.below w.heap.size w (Nat.le_of_lt m1.lt) (m1.below _ _ (Nat.le_refl _) (Below.refl _ w)))
  clear m1 m2
  go_wp2_with (with_reducible refine wpList_load_box 26 26 l w.heap.size _ Tryd.underlying26 rfl HSK.out bk.out rfl _ rfl rfl ?_)
  refine (HK14.out _).mono ?_
  rintro e w3 ⟨rfl, hw3⟩
  have bkw3 := Hid.mk' (bk.out.later hw3)
  have bmw3 := Hid.mk' (bm.out.later hw3)
  have HBw3 := Hid.mk' (HB2.out.trans (Below.mono hw3 HB2.out.size))
  clear bk bm HB2 hw3
  go_wp2_with (with_reducible refine wpList_load_box 26 26 l w.heap.size _ Tryd.underlying26 rfl HSK.out bkw3.out rfl _ rfl rfl ?_)
  refine (HK10.out _).mono ?_
  rintro e w4 ⟨rfl, hw4⟩
  have bkw4 := Hid.mk' (bkw3.out.later hw4)
  have bmw4 := Hid.mk' (bmw3.out.later hw4)
  have HBw4 := Hid.mk' (HBw3.out.trans (Below.mono hw4 HBw3.out.size))
  clear bkw3 bmw3 HBw3 hw4
  go_wp2_with (with_reducible refine wpList_load_box 26 26 l w.heap.size _ Tryd.underlying26 rfl HSK.out bkw4.out rfl _ rfl rfl ?_)
  refine (HK12.out _).mono ?_
  rintro e w5 ⟨rfl, hw5⟩
  have bkw5 := Hid.mk' (bkw4.out.later hw5)
  have bmw5 := Hid.mk' (bmw4.out.later hw5)
  have HBw5 := Hid.mk' (HBw4.out.trans (Below.mono hw5 HBw4.out.size))
  clear bkw4 bmw4 HBw4 hw5
  go_wp2_with (with_reducible refine wpList_load_box 26 26 l w.heap.size _ Tryd.underlying26 rfl HSK.out bkw5.out rfl _ rfl rfl ?_)
  refine (HK11.out _).mono ?_
  rintro e w6 ⟨rfl, hw6⟩
  have bkw6 := Hid.mk' (bkw5.out.later hw6)
  have bmw6 := Hid.mk' (bmw5.out.later hw6)
  have HBw6 := Hid.mk' (HBw5.out.trans (Below.mono hw6 HBw5.out.size))
  clear bkw5 bmw5 HBw5 hw6
  go_wp2_with (with_reducible refine wpList_load_box 26 26 l w.heap.size _ Tryd.underlying26 rfl HSK.out bkw6.out rfl _ rfl rfl ?_)
  refine (HK13.out _).mono ?_
  rintro e w7 ⟨rfl, hw7⟩
  have bkw7 := Hid.mk' (bkw6.out.later hw7)
  have bmw7 := Hid.mk' (bmw6.out.later hw7)
  have HBw7 := Hid.mk' (HBw6.out.trans (Below.mono hw7 HBw6.out.size))
  clear bkw6 bmw6 HBw6 hw7
  go_wp2_with fail
  refine (HBY.out _).mono ?_
  rintro e w8 ⟨rfl, hw8⟩
  have bkw8 := Hid.mk' (bkw7.out.later hw8)
  have bmw8 := Hid.mk' (bmw7.out.later hw8)
  have HBw8 := Hid.mk' (HBw7.out.trans (Below.mono hw8 HBw7.out.size))
  clear bkw7 bmw7 HBw7 hw8
  go_wp2_with fail
  refine (HBY.out _).mono ?_
  rintro e w9 ⟨rfl, hw9⟩
  have bkw9 := Hid.mk' (bkw8.out.later hw9)
  have bmw9 := Hid.mk' (bmw8.out.later hw9)
  have HBw9 := Hid.mk' (HBw8.out.trans (Below.mono hw9 HBw8.out.size))
  clear bkw8 bmw8 HBw8 hw9
  go_wp2
  refine bodyPost_ret (results_tmp4 rfl _ _ _) rfl ?_
  exact ⟨rfl, HBw9.out⟩

set_option maxHeartbeats 8000000 in
set_option maxRecDepth 100000 in
theorem typed_p13 (k : List UInt8) (hk : k.length = 38) (M : List Nat) (hM : H.okW M) (B : List UInt8) (hB : B.length < 1024) (q : Bool) (c : UInt8) (hq : q = false) (h14 : isK k 14 c = false) (h10 : isK k 10 c = false) (h12 : isK k 12 c = false) (h11 : isK k 11 c = false) (h13 : isK k 13 c = false) (hf : ¬ B.length + 1 = 1024) (h13c : (c.toNat : Int) = 13) (hend : isEnd k M c = true) (w : World) :
    Calls Tryd.prog 29 #[.string (bs B), .bool q, .agg (bcells k).toArray, .agg (H.ucells M).toArray, .int .i64 (c.toNat : Int)] w fun e w' => Tpd w (step (KK k M) ⟨B, q⟩ c) e w' := by
  have he : step (KK k M) ⟨B, q⟩ c = ⟨⟨[], false⟩, [B ++ [c]], [c]⟩ := by
    rw [step_plain (K := KK k M) (e := ⟨B, q⟩) hq (show plainB (KK k M) c from ⟨h14, h10, h12, h11, h13⟩)]
    exact put_full (.inr hend)
  unfold Tpd
  rw [he]
  clear he
  dsimp only
  rw [List.flatten_cons, List.flatten_nil, List.append_nil]
  have hBc : B.length + 1 ≤ 9223372036854775807 := by omega
  have hBd : ¬ 9223372036854775807 < B.length + 1 := by omega
  have hff : ((B.length : Int) + 1 == 1024) = false := beq_false_of_ne (by omega)
  have HSK := Hid.mk' (K.sizeKV k hk)
  have HSM := Hid.mk' (H.sizeMV hM)
  have hsB := bs_size B
  have HK14 : Hid (∀ W, Calls Tryd.prog 18 #[.agg (bcells k).toArray, .int .i64 14] W fun e w' => e = .returned (.int .i64 (keyI k 14)) ∧ Below W.heap.size W w') := fun W => KeyOf_any k hk 14 (by omega) W
  have g14 : ((c.toNat : Int) == keyI k 14) = false := by rw [keyI_is]; exact h14
  have HK10 : Hid (∀ W, Calls Tryd.prog 18 #[.agg (bcells k).toArray, .int .i64 10] W fun e w' => e = .returned (.int .i64 (keyI k 10)) ∧ Below W.heap.size W w') := fun W => KeyOf_any k hk 10 (by omega) W
  have g10 : ((c.toNat : Int) == keyI k 10) = false := by rw [keyI_is]; exact h10
  have HK12 : Hid (∀ W, Calls Tryd.prog 18 #[.agg (bcells k).toArray, .int .i64 12] W fun e w' => e = .returned (.int .i64 (keyI k 12)) ∧ Below W.heap.size W w') := fun W => KeyOf_any k hk 12 (by omega) W
  have g12 : ((c.toNat : Int) == keyI k 12) = false := by rw [keyI_is]; exact h12
  have HK11 : Hid (∀ W, Calls Tryd.prog 18 #[.agg (bcells k).toArray, .int .i64 11] W fun e w' => e = .returned (.int .i64 (keyI k 11)) ∧ Below W.heap.size W w') := fun W => KeyOf_any k hk 11 (by omega) W
  have g11 : ((c.toNat : Int) == keyI k 11) = false := by rw [keyI_is]; exact h11
  have HK13 : Hid (∀ W, Calls Tryd.prog 18 #[.agg (bcells k).toArray, .int .i64 13] W fun e w' => e = .returned (.int .i64 (keyI k 13)) ∧ Below W.heap.size W w') := fun W => KeyOf_any k hk 13 (by omega) W
  have g13 : ((c.toNat : Int) == keyI k 13) = false := by rw [keyI_is]; exact h13
  have HBY := Hid.mk' (Bytes_one c)
  have hsC : (bs [c]).size = 1 := rfl
  have HIM := Hid.mk' (fun W => H.InMask_any M hM c.toNat c.toNat_lt W)
  unfold H.MV at HIM
  have HLL : Hid (0 + 38 ≤ (bcells k).length) := by rw [Hid, bcells_length, hk]; decide
  have HLT : Hid (Value.agg (((bcells k).drop 0).take 38).toArray = .agg (bcells k).toArray) := by rw [Hid, List.drop_zero, List.take_of_length_le (by rw [bcells_length, hk]; decide)]
  have HML : Hid (0 + 4 ≤ (H.ucells M).length) := by rw [Hid, H.ucells_length, hM.1]; decide
  have HMT : Hid (Value.agg (((H.ucells M).drop 0).take 4).toArray = .agg (H.ucells M).toArray) := by rw [Hid, List.drop_zero, List.take_of_length_le (by rw [H.ucells_length, hM.1]; decide)]
  have y13 : ((c.toNat : Int) == 13) = true := by rw [h13c]; rfl
  rw [← bs_app, bs_nil]
  subst hq
  generalize bs [c] = C1 at *
  generalize bs B = X at *
  generalize hmm : H.mem M c.toNat = mm at *
  clear hmm
  generalize keyI k 14 = K14 at *
  generalize keyI k 10 = K10 at *
  generalize keyI k 12 = K12 at *
  generalize keyI k 11 = K11 at *
  generalize keyI k 13 = K13 at *
  generalize hl : bcells k = l at *
  generalize hm : H.ucells M = m at *
  clear hl hm
  generalize hz : (c.toNat : Int) = z at *
  clear hz
  subst h13c
  clear hf hk hM h14 h10 h12 h11 h13
  go_enter Tryd.func29, Tryd.ntmps29
  go_wp2_with (refine wpList_box l 26 rfl _ rfl rfl ?_)
  intro w1 m1
  go_wp2_with (refine wpList_box m 30 rfl _ rfl rfl ?_)
  intro w2 m2
  have z1 := m1.lt
  have z2 := m2.lt
  have bk := Hid.mk' (m2.keep m1.box)
  have bm := Hid.mk' m2.box
  have HB2 := Hid.mk' (m2.below w.heap.size w (Nat.le_of_lt m1.lt) (m1.below _ _ (Nat.le_refl _) (Below.refl _ w)))
  clear m1 m2
  go_wp2_with (with_reducible refine wpList_load_box 26 26 l w.heap.size _ Tryd.underlying26 rfl HSK.out bk.out rfl _ rfl rfl ?_)
  refine (HK14.out _).mono ?_
  rintro e w3 ⟨rfl, hw3⟩
  have bkw3 := Hid.mk' (bk.out.later hw3)
  have bmw3 := Hid.mk' (bm.out.later hw3)
  have HBw3 := Hid.mk' (HB2.out.trans (Below.mono hw3 HB2.out.size))
  clear bk bm HB2 hw3
  go_wp2_with (with_reducible refine wpList_load_box 26 26 l w.heap.size _ Tryd.underlying26 rfl HSK.out bkw3.out rfl _ rfl rfl ?_)
  refine (HK10.out _).mono ?_
  rintro e w4 ⟨rfl, hw4⟩
  have bkw4 := Hid.mk' (bkw3.out.later hw4)
  have bmw4 := Hid.mk' (bmw3.out.later hw4)
  have HBw4 := Hid.mk' (HBw3.out.trans (Below.mono hw4 HBw3.out.size))
  clear bkw3 bmw3 HBw3 hw4
  go_wp2_with (with_reducible refine wpList_load_box 26 26 l w.heap.size _ Tryd.underlying26 rfl HSK.out bkw4.out rfl _ rfl rfl ?_)
  refine (HK12.out _).mono ?_
  rintro e w5 ⟨rfl, hw5⟩
  have bkw5 := Hid.mk' (bkw4.out.later hw5)
  have bmw5 := Hid.mk' (bmw4.out.later hw5)
  have HBw5 := Hid.mk' (HBw4.out.trans (Below.mono hw5 HBw4.out.size))
  clear bkw4 bmw4 HBw4 hw5
  go_wp2_with (with_reducible refine wpList_load_box 26 26 l w.heap.size _ Tryd.underlying26 rfl HSK.out bkw5.out rfl _ rfl rfl ?_)
  refine (HK11.out _).mono ?_
  rintro e w6 ⟨rfl, hw6⟩
  have bkw6 := Hid.mk' (bkw5.out.later hw6)
  have bmw6 := Hid.mk' (bmw5.out.later hw6)
  have HBw6 := Hid.mk' (HBw5.out.trans (Below.mono hw6 HBw5.out.size))
  clear bkw5 bmw5 HBw5 hw6
  go_wp2_with (with_reducible refine wpList_load_box 26 26 l w.heap.size _ Tryd.underlying26 rfl HSK.out bkw6.out rfl _ rfl rfl ?_)
  refine (HK13.out _).mono ?_
  rintro e w7 ⟨rfl, hw7⟩
  have bkw7 := Hid.mk' (bkw6.out.later hw7)
  have bmw7 := Hid.mk' (bmw6.out.later hw7)
  have HBw7 := Hid.mk' (HBw6.out.trans (Below.mono hw7 HBw6.out.size))
  clear bkw6 bmw6 HBw6 hw7
  go_wp2_with fail
  refine (HBY.out _).mono ?_
  rintro e w8 ⟨rfl, hw8⟩
  have bkw8 := Hid.mk' (bkw7.out.later hw8)
  have bmw8 := Hid.mk' (bmw7.out.later hw8)
  have HBw8 := Hid.mk' (HBw7.out.trans (Below.mono hw8 HBw7.out.size))
  clear bkw7 bmw7 HBw7 hw8
  go_wp2_with fail
  refine (HBY.out _).mono ?_
  rintro e w9 ⟨rfl, hw9⟩
  have bkw9 := Hid.mk' (bkw8.out.later hw9)
  have bmw9 := Hid.mk' (bmw8.out.later hw9)
  have HBw9 := Hid.mk' (HBw8.out.trans (Below.mono hw9 HBw8.out.size))
  clear bkw8 bmw8 HBw8 hw9
  go_wp2
  refine bodyPost_ret (results_tmp4 rfl _ _ _) rfl ?_
  exact ⟨rfl, HBw9.out⟩

set_option maxHeartbeats 8000000 in
set_option maxRecDepth 100000 in
theorem typed_p10 (k : List UInt8) (hk : k.length = 38) (M : List Nat) (hM : H.okW M) (B : List UInt8) (hB : B.length < 1024) (q : Bool) (c : UInt8) (hq : q = false) (h14 : isK k 14 c = false) (h10 : isK k 10 c = false) (h12 : isK k 12 c = false) (h11 : isK k 11 c = false) (h13 : isK k 13 c = false) (hf : ¬ B.length + 1 = 1024) (h13c : ¬ (c.toNat : Int) = 13) (h10c : (c.toNat : Int) = 10) (hend : isEnd k M c = true) (w : World) :
    Calls Tryd.prog 29 #[.string (bs B), .bool q, .agg (bcells k).toArray, .agg (H.ucells M).toArray, .int .i64 (c.toNat : Int)] w fun e w' => Tpd w (step (KK k M) ⟨B, q⟩ c) e w' := by
  have he : step (KK k M) ⟨B, q⟩ c = ⟨⟨[], false⟩, [B ++ [c]], [c]⟩ := by
    rw [step_plain (K := KK k M) (e := ⟨B, q⟩) hq (show plainB (KK k M) c from ⟨h14, h10, h12, h11, h13⟩)]
    exact put_full (.inr hend)
  unfold Tpd
  rw [he]
  clear he
  dsimp only
  rw [List.flatten_cons, List.flatten_nil, List.append_nil]
  have hBc : B.length + 1 ≤ 9223372036854775807 := by omega
  have hBd : ¬ 9223372036854775807 < B.length + 1 := by omega
  have hff : ((B.length : Int) + 1 == 1024) = false := beq_false_of_ne (by omega)
  have HSK := Hid.mk' (K.sizeKV k hk)
  have HSM := Hid.mk' (H.sizeMV hM)
  have hsB := bs_size B
  have HK14 : Hid (∀ W, Calls Tryd.prog 18 #[.agg (bcells k).toArray, .int .i64 14] W fun e w' => e = .returned (.int .i64 (keyI k 14)) ∧ Below W.heap.size W w') := fun W => KeyOf_any k hk 14 (by omega) W
  have g14 : ((c.toNat : Int) == keyI k 14) = false := by rw [keyI_is]; exact h14
  have HK10 : Hid (∀ W, Calls Tryd.prog 18 #[.agg (bcells k).toArray, .int .i64 10] W fun e w' => e = .returned (.int .i64 (keyI k 10)) ∧ Below W.heap.size W w') := fun W => KeyOf_any k hk 10 (by omega) W
  have g10 : ((c.toNat : Int) == keyI k 10) = false := by rw [keyI_is]; exact h10
  have HK12 : Hid (∀ W, Calls Tryd.prog 18 #[.agg (bcells k).toArray, .int .i64 12] W fun e w' => e = .returned (.int .i64 (keyI k 12)) ∧ Below W.heap.size W w') := fun W => KeyOf_any k hk 12 (by omega) W
  have g12 : ((c.toNat : Int) == keyI k 12) = false := by rw [keyI_is]; exact h12
  have HK11 : Hid (∀ W, Calls Tryd.prog 18 #[.agg (bcells k).toArray, .int .i64 11] W fun e w' => e = .returned (.int .i64 (keyI k 11)) ∧ Below W.heap.size W w') := fun W => KeyOf_any k hk 11 (by omega) W
  have g11 : ((c.toNat : Int) == keyI k 11) = false := by rw [keyI_is]; exact h11
  have HK13 : Hid (∀ W, Calls Tryd.prog 18 #[.agg (bcells k).toArray, .int .i64 13] W fun e w' => e = .returned (.int .i64 (keyI k 13)) ∧ Below W.heap.size W w') := fun W => KeyOf_any k hk 13 (by omega) W
  have g13 : ((c.toNat : Int) == keyI k 13) = false := by rw [keyI_is]; exact h13
  have HBY := Hid.mk' (Bytes_one c)
  have hsC : (bs [c]).size = 1 := rfl
  have HIM := Hid.mk' (fun W => H.InMask_any M hM c.toNat c.toNat_lt W)
  unfold H.MV at HIM
  have HLL : Hid (0 + 38 ≤ (bcells k).length) := by rw [Hid, bcells_length, hk]; decide
  have HLT : Hid (Value.agg (((bcells k).drop 0).take 38).toArray = .agg (bcells k).toArray) := by rw [Hid, List.drop_zero, List.take_of_length_le (by rw [bcells_length, hk]; decide)]
  have HML : Hid (0 + 4 ≤ (H.ucells M).length) := by rw [Hid, H.ucells_length, hM.1]; decide
  have HMT : Hid (Value.agg (((H.ucells M).drop 0).take 4).toArray = .agg (H.ucells M).toArray) := by rw [Hid, List.drop_zero, List.take_of_length_le (by rw [H.ucells_length, hM.1]; decide)]
  have y13 : ((c.toNat : Int) == 13) = false := beq_false_of_ne h13c
  have y10 : ((c.toNat : Int) == 10) = true := by rw [h10c]; rfl
  rw [← bs_app, bs_nil]
  subst hq
  generalize bs [c] = C1 at *
  generalize bs B = X at *
  generalize hmm : H.mem M c.toNat = mm at *
  clear hmm
  generalize keyI k 14 = K14 at *
  generalize keyI k 10 = K10 at *
  generalize keyI k 12 = K12 at *
  generalize keyI k 11 = K11 at *
  generalize keyI k 13 = K13 at *
  generalize hl : bcells k = l at *
  generalize hm : H.ucells M = m at *
  clear hl hm
  generalize hz : (c.toNat : Int) = z at *
  clear hz
  subst h10c
  clear hf hk hM h14 h10 h12 h11 h13
  go_enter Tryd.func29, Tryd.ntmps29
  go_wp2_with (refine wpList_box l 26 rfl _ rfl rfl ?_)
  intro w1 m1
  go_wp2_with (refine wpList_box m 30 rfl _ rfl rfl ?_)
  intro w2 m2
  have z1 := m1.lt
  have z2 := m2.lt
  have bk := Hid.mk' (m2.keep m1.box)
  have bm := Hid.mk' m2.box
  have HB2 := Hid.mk' (m2.below w.heap.size w (Nat.le_of_lt m1.lt) (m1.below _ _ (Nat.le_refl _) (Below.refl _ w)))
  clear m1 m2
  go_wp2_with (with_reducible refine wpList_load_box 26 26 l w.heap.size _ Tryd.underlying26 rfl HSK.out bk.out rfl _ rfl rfl ?_)
  refine (HK14.out _).mono ?_
  rintro e w3 ⟨rfl, hw3⟩
  have bkw3 := Hid.mk' (bk.out.later hw3)
  have bmw3 := Hid.mk' (bm.out.later hw3)
  have HBw3 := Hid.mk' (HB2.out.trans (Below.mono hw3 HB2.out.size))
  clear bk bm HB2 hw3
  go_wp2_with (with_reducible refine wpList_load_box 26 26 l w.heap.size _ Tryd.underlying26 rfl HSK.out bkw3.out rfl _ rfl rfl ?_)
  refine (HK10.out _).mono ?_
  rintro e w4 ⟨rfl, hw4⟩
  have bkw4 := Hid.mk' (bkw3.out.later hw4)
  have bmw4 := Hid.mk' (bmw3.out.later hw4)
  have HBw4 := Hid.mk' (HBw3.out.trans (Below.mono hw4 HBw3.out.size))
  clear bkw3 bmw3 HBw3 hw4
  go_wp2_with (with_reducible refine wpList_load_box 26 26 l w.heap.size _ Tryd.underlying26 rfl HSK.out bkw4.out rfl _ rfl rfl ?_)
  refine (HK12.out _).mono ?_
  rintro e w5 ⟨rfl, hw5⟩
  have bkw5 := Hid.mk' (bkw4.out.later hw5)
  have bmw5 := Hid.mk' (bmw4.out.later hw5)
  have HBw5 := Hid.mk' (HBw4.out.trans (Below.mono hw5 HBw4.out.size))
  clear bkw4 bmw4 HBw4 hw5
  go_wp2_with (with_reducible refine wpList_load_box 26 26 l w.heap.size _ Tryd.underlying26 rfl HSK.out bkw5.out rfl _ rfl rfl ?_)
  refine (HK11.out _).mono ?_
  rintro e w6 ⟨rfl, hw6⟩
  have bkw6 := Hid.mk' (bkw5.out.later hw6)
  have bmw6 := Hid.mk' (bmw5.out.later hw6)
  have HBw6 := Hid.mk' (HBw5.out.trans (Below.mono hw6 HBw5.out.size))
  clear bkw5 bmw5 HBw5 hw6
  go_wp2_with (with_reducible refine wpList_load_box 26 26 l w.heap.size _ Tryd.underlying26 rfl HSK.out bkw6.out rfl _ rfl rfl ?_)
  refine (HK13.out _).mono ?_
  rintro e w7 ⟨rfl, hw7⟩
  have bkw7 := Hid.mk' (bkw6.out.later hw7)
  have bmw7 := Hid.mk' (bmw6.out.later hw7)
  have HBw7 := Hid.mk' (HBw6.out.trans (Below.mono hw7 HBw6.out.size))
  clear bkw6 bmw6 HBw6 hw7
  go_wp2_with fail
  refine (HBY.out _).mono ?_
  rintro e w8 ⟨rfl, hw8⟩
  have bkw8 := Hid.mk' (bkw7.out.later hw8)
  have bmw8 := Hid.mk' (bmw7.out.later hw8)
  have HBw8 := Hid.mk' (HBw7.out.trans (Below.mono hw8 HBw7.out.size))
  clear bkw7 bmw7 HBw7 hw8
  go_wp2_with fail
  refine (HBY.out _).mono ?_
  rintro e w9 ⟨rfl, hw9⟩
  have bkw9 := Hid.mk' (bkw8.out.later hw9)
  have bmw9 := Hid.mk' (bmw8.out.later hw9)
  have HBw9 := Hid.mk' (HBw8.out.trans (Below.mono hw9 HBw8.out.size))
  clear bkw8 bmw8 HBw8 hw9
  go_wp2
  refine bodyPost_ret (results_tmp4 rfl _ _ _) rfl ?_
  exact ⟨rfl, HBw9.out⟩

set_option maxHeartbeats 8000000 in
set_option maxRecDepth 100000 in
theorem typed_p17 (k : List UInt8) (hk : k.length = 38) (M : List Nat) (hM : H.okW M) (B : List UInt8) (hB : B.length < 1024) (q : Bool) (c : UInt8) (hq : q = false) (h14 : isK k 14 c = false) (h10 : isK k 10 c = false) (h12 : isK k 12 c = false) (h11 : isK k 11 c = false) (h13 : isK k 13 c = false) (hf : ¬ B.length + 1 = 1024) (h13c : ¬ (c.toNat : Int) = 13) (h10c : ¬ (c.toNat : Int) = 10) (h17 : isK k 17 c = true) (hend : isEnd k M c = true) (w : World) :
    Calls Tryd.prog 29 #[.string (bs B), .bool q, .agg (bcells k).toArray, .agg (H.ucells M).toArray, .int .i64 (c.toNat : Int)] w fun e w' => Tpd w (step (KK k M) ⟨B, q⟩ c) e w' := by
  have he : step (KK k M) ⟨B, q⟩ c = ⟨⟨[], false⟩, [B ++ [c]], [c]⟩ := by
    rw [step_plain (K := KK k M) (e := ⟨B, q⟩) hq (show plainB (KK k M) c from ⟨h14, h10, h12, h11, h13⟩)]
    exact put_full (.inr hend)
  unfold Tpd
  rw [he]
  clear he
  dsimp only
  rw [List.flatten_cons, List.flatten_nil, List.append_nil]
  have hBc : B.length + 1 ≤ 9223372036854775807 := by omega
  have hBd : ¬ 9223372036854775807 < B.length + 1 := by omega
  have hff : ((B.length : Int) + 1 == 1024) = false := beq_false_of_ne (by omega)
  have HSK := Hid.mk' (K.sizeKV k hk)
  have HSM := Hid.mk' (H.sizeMV hM)
  have hsB := bs_size B
  have HK14 : Hid (∀ W, Calls Tryd.prog 18 #[.agg (bcells k).toArray, .int .i64 14] W fun e w' => e = .returned (.int .i64 (keyI k 14)) ∧ Below W.heap.size W w') := fun W => KeyOf_any k hk 14 (by omega) W
  have g14 : ((c.toNat : Int) == keyI k 14) = false := by rw [keyI_is]; exact h14
  have HK10 : Hid (∀ W, Calls Tryd.prog 18 #[.agg (bcells k).toArray, .int .i64 10] W fun e w' => e = .returned (.int .i64 (keyI k 10)) ∧ Below W.heap.size W w') := fun W => KeyOf_any k hk 10 (by omega) W
  have g10 : ((c.toNat : Int) == keyI k 10) = false := by rw [keyI_is]; exact h10
  have HK12 : Hid (∀ W, Calls Tryd.prog 18 #[.agg (bcells k).toArray, .int .i64 12] W fun e w' => e = .returned (.int .i64 (keyI k 12)) ∧ Below W.heap.size W w') := fun W => KeyOf_any k hk 12 (by omega) W
  have g12 : ((c.toNat : Int) == keyI k 12) = false := by rw [keyI_is]; exact h12
  have HK11 : Hid (∀ W, Calls Tryd.prog 18 #[.agg (bcells k).toArray, .int .i64 11] W fun e w' => e = .returned (.int .i64 (keyI k 11)) ∧ Below W.heap.size W w') := fun W => KeyOf_any k hk 11 (by omega) W
  have g11 : ((c.toNat : Int) == keyI k 11) = false := by rw [keyI_is]; exact h11
  have HK13 : Hid (∀ W, Calls Tryd.prog 18 #[.agg (bcells k).toArray, .int .i64 13] W fun e w' => e = .returned (.int .i64 (keyI k 13)) ∧ Below W.heap.size W w') := fun W => KeyOf_any k hk 13 (by omega) W
  have g13 : ((c.toNat : Int) == keyI k 13) = false := by rw [keyI_is]; exact h13
  have HK17 : Hid (∀ W, Calls Tryd.prog 18 #[.agg (bcells k).toArray, .int .i64 17] W fun e w' => e = .returned (.int .i64 (keyI k 17)) ∧ Below W.heap.size W w') := fun W => KeyOf_any k hk 17 (by omega) W
  have g17 : ((c.toNat : Int) == keyI k 17) = true := by rw [keyI_is]; exact h17
  have HBY := Hid.mk' (Bytes_one c)
  have hsC : (bs [c]).size = 1 := rfl
  have HIM := Hid.mk' (fun W => H.InMask_any M hM c.toNat c.toNat_lt W)
  unfold H.MV at HIM
  have HLL : Hid (0 + 38 ≤ (bcells k).length) := by rw [Hid, bcells_length, hk]; decide
  have HLT : Hid (Value.agg (((bcells k).drop 0).take 38).toArray = .agg (bcells k).toArray) := by rw [Hid, List.drop_zero, List.take_of_length_le (by rw [bcells_length, hk]; decide)]
  have HML : Hid (0 + 4 ≤ (H.ucells M).length) := by rw [Hid, H.ucells_length, hM.1]; decide
  have HMT : Hid (Value.agg (((H.ucells M).drop 0).take 4).toArray = .agg (H.ucells M).toArray) := by rw [Hid, List.drop_zero, List.take_of_length_le (by rw [H.ucells_length, hM.1]; decide)]
  have y13 : ((c.toNat : Int) == 13) = false := beq_false_of_ne h13c
  have y10 : ((c.toNat : Int) == 10) = false := beq_false_of_ne h10c
  rw [← bs_app, bs_nil]
  subst hq
  generalize bs [c] = C1 at *
  generalize bs B = X at *
  generalize hmm : H.mem M c.toNat = mm at *
  clear hmm
  generalize keyI k 14 = K14 at *
  generalize keyI k 10 = K10 at *
  generalize keyI k 12 = K12 at *
  generalize keyI k 11 = K11 at *
  generalize keyI k 13 = K13 at *
  generalize keyI k 17 = K17 at *
  generalize hl : bcells k = l at *
  generalize hm : H.ucells M = m at *
  clear hl hm
  generalize hz : (c.toNat : Int) = z at *
  clear hz
  clear hf hk hM h14 h10 h12 h11 h13
  go_enter Tryd.func29, Tryd.ntmps29
  go_wp2_with (refine wpList_box l 26 rfl _ rfl rfl ?_)
  intro w1 m1
  go_wp2_with (refine wpList_box m 30 rfl _ rfl rfl ?_)
  intro w2 m2
  have z1 := m1.lt
  have z2 := m2.lt
  have bk := Hid.mk' (m2.keep m1.box)
  have bm := Hid.mk' m2.box
  have HB2 := Hid.mk' (m2.below w.heap.size w (Nat.le_of_lt m1.lt) (m1.below _ _ (Nat.le_refl _) (Below.refl _ w)))
  clear m1 m2
  go_wp2_with (with_reducible refine wpList_load_box 26 26 l w.heap.size _ Tryd.underlying26 rfl HSK.out bk.out rfl _ rfl rfl ?_)
  refine (HK14.out _).mono ?_
  rintro e w3 ⟨rfl, hw3⟩
  have bkw3 := Hid.mk' (bk.out.later hw3)
  have bmw3 := Hid.mk' (bm.out.later hw3)
  have HBw3 := Hid.mk' (HB2.out.trans (Below.mono hw3 HB2.out.size))
  clear bk bm HB2 hw3
  go_wp2_with (with_reducible refine wpList_load_box 26 26 l w.heap.size _ Tryd.underlying26 rfl HSK.out bkw3.out rfl _ rfl rfl ?_)
  refine (HK10.out _).mono ?_
  rintro e w4 ⟨rfl, hw4⟩
  have bkw4 := Hid.mk' (bkw3.out.later hw4)
  have bmw4 := Hid.mk' (bmw3.out.later hw4)
  have HBw4 := Hid.mk' (HBw3.out.trans (Below.mono hw4 HBw3.out.size))
  clear bkw3 bmw3 HBw3 hw4
  go_wp2_with (with_reducible refine wpList_load_box 26 26 l w.heap.size _ Tryd.underlying26 rfl HSK.out bkw4.out rfl _ rfl rfl ?_)
  refine (HK12.out _).mono ?_
  rintro e w5 ⟨rfl, hw5⟩
  have bkw5 := Hid.mk' (bkw4.out.later hw5)
  have bmw5 := Hid.mk' (bmw4.out.later hw5)
  have HBw5 := Hid.mk' (HBw4.out.trans (Below.mono hw5 HBw4.out.size))
  clear bkw4 bmw4 HBw4 hw5
  go_wp2_with (with_reducible refine wpList_load_box 26 26 l w.heap.size _ Tryd.underlying26 rfl HSK.out bkw5.out rfl _ rfl rfl ?_)
  refine (HK11.out _).mono ?_
  rintro e w6 ⟨rfl, hw6⟩
  have bkw6 := Hid.mk' (bkw5.out.later hw6)
  have bmw6 := Hid.mk' (bmw5.out.later hw6)
  have HBw6 := Hid.mk' (HBw5.out.trans (Below.mono hw6 HBw5.out.size))
  clear bkw5 bmw5 HBw5 hw6
  go_wp2_with (with_reducible refine wpList_load_box 26 26 l w.heap.size _ Tryd.underlying26 rfl HSK.out bkw6.out rfl _ rfl rfl ?_)
  refine (HK13.out _).mono ?_
  rintro e w7 ⟨rfl, hw7⟩
  have bkw7 := Hid.mk' (bkw6.out.later hw7)
  have bmw7 := Hid.mk' (bmw6.out.later hw7)
  have HBw7 := Hid.mk' (HBw6.out.trans (Below.mono hw7 HBw6.out.size))
  clear bkw6 bmw6 HBw6 hw7
  go_wp2_with fail
  refine (HBY.out _).mono ?_
  rintro e w8 ⟨rfl, hw8⟩
  have bkw8 := Hid.mk' (bkw7.out.later hw8)
  have bmw8 := Hid.mk' (bmw7.out.later hw8)
  have HBw8 := Hid.mk' (HBw7.out.trans (Below.mono hw8 HBw7.out.size))
  clear bkw7 bmw7 HBw7 hw8
  go_wp2_with (first | (refine wpList_load_g 26 26 l w.heap.size 0 38 _ Tryd.underlying26 rfl K.sizeK bkw8.out HLL.out rfl _ rfl rfl (.agg l.toArray) HLT.out ?_) | (refine wpList_load_g 30 30 m w1.heap.size 0 4 _ Tryd.underlying30 rfl H.sizeM bmw8.out HML.out rfl _ rfl rfl (.agg m.toArray) HMT.out ?_))
  refine (HK17.out _).mono ?_
  rintro e w9 ⟨rfl, hw9⟩
  have bkw9 := Hid.mk' (bkw8.out.later hw9)
  have bmw9 := Hid.mk' (bmw8.out.later hw9)
  have HBw9 := Hid.mk' (HBw8.out.trans (Below.mono hw9 HBw8.out.size))
  clear bkw8 bmw8 HBw8 hw9
  go_wp2_with fail
  refine (HBY.out _).mono ?_
  rintro e w10 ⟨rfl, hw10⟩
  have bkw10 := Hid.mk' (bkw9.out.later hw10)
  have bmw10 := Hid.mk' (bmw9.out.later hw10)
  have HBw10 := Hid.mk' (HBw9.out.trans (Below.mono hw10 HBw9.out.size))
  clear bkw9 bmw9 HBw9 hw10
  go_wp2
  refine bodyPost_ret (results_tmp4 rfl _ _ _) rfl ?_
  exact ⟨rfl, HBw10.out⟩

set_option maxHeartbeats 8000000 in
set_option maxRecDepth 100000 in
theorem typed_p18 (k : List UInt8) (hk : k.length = 38) (M : List Nat) (hM : H.okW M) (B : List UInt8) (hB : B.length < 1024) (q : Bool) (c : UInt8) (hq : q = false) (h14 : isK k 14 c = false) (h10 : isK k 10 c = false) (h12 : isK k 12 c = false) (h11 : isK k 11 c = false) (h13 : isK k 13 c = false) (hf : ¬ B.length + 1 = 1024) (h13c : ¬ (c.toNat : Int) = 13) (h10c : ¬ (c.toNat : Int) = 10) (h17 : isK k 17 c = false) (h18 : isK k 18 c = true) (hend : isEnd k M c = true) (w : World) :
    Calls Tryd.prog 29 #[.string (bs B), .bool q, .agg (bcells k).toArray, .agg (H.ucells M).toArray, .int .i64 (c.toNat : Int)] w fun e w' => Tpd w (step (KK k M) ⟨B, q⟩ c) e w' := by
  have he : step (KK k M) ⟨B, q⟩ c = ⟨⟨[], false⟩, [B ++ [c]], [c]⟩ := by
    rw [step_plain (K := KK k M) (e := ⟨B, q⟩) hq (show plainB (KK k M) c from ⟨h14, h10, h12, h11, h13⟩)]
    exact put_full (.inr hend)
  unfold Tpd
  rw [he]
  clear he
  dsimp only
  rw [List.flatten_cons, List.flatten_nil, List.append_nil]
  have hBc : B.length + 1 ≤ 9223372036854775807 := by omega
  have hBd : ¬ 9223372036854775807 < B.length + 1 := by omega
  have hff : ((B.length : Int) + 1 == 1024) = false := beq_false_of_ne (by omega)
  have HSK := Hid.mk' (K.sizeKV k hk)
  have HSM := Hid.mk' (H.sizeMV hM)
  have hsB := bs_size B
  have HK14 : Hid (∀ W, Calls Tryd.prog 18 #[.agg (bcells k).toArray, .int .i64 14] W fun e w' => e = .returned (.int .i64 (keyI k 14)) ∧ Below W.heap.size W w') := fun W => KeyOf_any k hk 14 (by omega) W
  have g14 : ((c.toNat : Int) == keyI k 14) = false := by rw [keyI_is]; exact h14
  have HK10 : Hid (∀ W, Calls Tryd.prog 18 #[.agg (bcells k).toArray, .int .i64 10] W fun e w' => e = .returned (.int .i64 (keyI k 10)) ∧ Below W.heap.size W w') := fun W => KeyOf_any k hk 10 (by omega) W
  have g10 : ((c.toNat : Int) == keyI k 10) = false := by rw [keyI_is]; exact h10
  have HK12 : Hid (∀ W, Calls Tryd.prog 18 #[.agg (bcells k).toArray, .int .i64 12] W fun e w' => e = .returned (.int .i64 (keyI k 12)) ∧ Below W.heap.size W w') := fun W => KeyOf_any k hk 12 (by omega) W
  have g12 : ((c.toNat : Int) == keyI k 12) = false := by rw [keyI_is]; exact h12
  have HK11 : Hid (∀ W, Calls Tryd.prog 18 #[.agg (bcells k).toArray, .int .i64 11] W fun e w' => e = .returned (.int .i64 (keyI k 11)) ∧ Below W.heap.size W w') := fun W => KeyOf_any k hk 11 (by omega) W
  have g11 : ((c.toNat : Int) == keyI k 11) = false := by rw [keyI_is]; exact h11
  have HK13 : Hid (∀ W, Calls Tryd.prog 18 #[.agg (bcells k).toArray, .int .i64 13] W fun e w' => e = .returned (.int .i64 (keyI k 13)) ∧ Below W.heap.size W w') := fun W => KeyOf_any k hk 13 (by omega) W
  have g13 : ((c.toNat : Int) == keyI k 13) = false := by rw [keyI_is]; exact h13
  have HK17 : Hid (∀ W, Calls Tryd.prog 18 #[.agg (bcells k).toArray, .int .i64 17] W fun e w' => e = .returned (.int .i64 (keyI k 17)) ∧ Below W.heap.size W w') := fun W => KeyOf_any k hk 17 (by omega) W
  have g17 : ((c.toNat : Int) == keyI k 17) = false := by rw [keyI_is]; exact h17
  have HK18 : Hid (∀ W, Calls Tryd.prog 18 #[.agg (bcells k).toArray, .int .i64 18] W fun e w' => e = .returned (.int .i64 (keyI k 18)) ∧ Below W.heap.size W w') := fun W => KeyOf_any k hk 18 (by omega) W
  have g18 : ((c.toNat : Int) == keyI k 18) = true := by rw [keyI_is]; exact h18
  have HBY := Hid.mk' (Bytes_one c)
  have hsC : (bs [c]).size = 1 := rfl
  have HIM := Hid.mk' (fun W => H.InMask_any M hM c.toNat c.toNat_lt W)
  unfold H.MV at HIM
  have HLL : Hid (0 + 38 ≤ (bcells k).length) := by rw [Hid, bcells_length, hk]; decide
  have HLT : Hid (Value.agg (((bcells k).drop 0).take 38).toArray = .agg (bcells k).toArray) := by rw [Hid, List.drop_zero, List.take_of_length_le (by rw [bcells_length, hk]; decide)]
  have HML : Hid (0 + 4 ≤ (H.ucells M).length) := by rw [Hid, H.ucells_length, hM.1]; decide
  have HMT : Hid (Value.agg (((H.ucells M).drop 0).take 4).toArray = .agg (H.ucells M).toArray) := by rw [Hid, List.drop_zero, List.take_of_length_le (by rw [H.ucells_length, hM.1]; decide)]
  have y13 : ((c.toNat : Int) == 13) = false := beq_false_of_ne h13c
  have y10 : ((c.toNat : Int) == 10) = false := beq_false_of_ne h10c
  rw [← bs_app, bs_nil]
  subst hq
  generalize bs [c] = C1 at *
  generalize bs B = X at *
  generalize hmm : H.mem M c.toNat = mm at *
  clear hmm
  generalize keyI k 14 = K14 at *
  generalize keyI k 10 = K10 at *
  generalize keyI k 12 = K12 at *
  generalize keyI k 11 = K11 at *
  generalize keyI k 13 = K13 at *
  generalize keyI k 17 = K17 at *
  generalize keyI k 18 = K18 at *
  generalize hl : bcells k = l at *
  generalize hm : H.ucells M = m at *
  clear hl hm
  generalize hz : (c.toNat : Int) = z at *
  clear hz
  clear hf hk hM h14 h10 h12 h11 h13
  go_enter Tryd.func29, Tryd.ntmps29
  go_wp2_with (refine wpList_box l 26 rfl _ rfl rfl ?_)
  intro w1 m1
  go_wp2_with (refine wpList_box m 30 rfl _ rfl rfl ?_)
  intro w2 m2
  have z1 := m1.lt
  have z2 := m2.lt
  have bk := Hid.mk' (m2.keep m1.box)
  have bm := Hid.mk' m2.box
  have HB2 := Hid.mk' (m2.below w.heap.size w (Nat.le_of_lt m1.lt) (m1.below _ _ (Nat.le_refl _) (Below.refl _ w)))
  clear m1 m2
  go_wp2_with (with_reducible refine wpList_load_box 26 26 l w.heap.size _ Tryd.underlying26 rfl HSK.out bk.out rfl _ rfl rfl ?_)
  refine (HK14.out _).mono ?_
  rintro e w3 ⟨rfl, hw3⟩
  have bkw3 := Hid.mk' (bk.out.later hw3)
  have bmw3 := Hid.mk' (bm.out.later hw3)
  have HBw3 := Hid.mk' (HB2.out.trans (Below.mono hw3 HB2.out.size))
  clear bk bm HB2 hw3
  go_wp2_with (with_reducible refine wpList_load_box 26 26 l w.heap.size _ Tryd.underlying26 rfl HSK.out bkw3.out rfl _ rfl rfl ?_)
  refine (HK10.out _).mono ?_
  rintro e w4 ⟨rfl, hw4⟩
  have bkw4 := Hid.mk' (bkw3.out.later hw4)
  have bmw4 := Hid.mk' (bmw3.out.later hw4)
  have HBw4 := Hid.mk' (HBw3.out.trans (Below.mono hw4 HBw3.out.size))
  clear bkw3 bmw3 HBw3 hw4
  go_wp2_with (with_reducible refine wpList_load_box 26 26 l w.heap.size _ Tryd.underlying26 rfl HSK.out bkw4.out rfl _ rfl rfl ?_)
  refine (HK12.out _).mono ?_
  rintro e w5 ⟨rfl, hw5⟩
  have bkw5 := Hid.mk' (bkw4.out.later hw5)
  have bmw5 := Hid.mk' (bmw4.out.later hw5)
  have HBw5 := Hid.mk' (HBw4.out.trans (Below.mono hw5 HBw4.out.size))
  clear bkw4 bmw4 HBw4 hw5
  go_wp2_with (with_reducible refine wpList_load_box 26 26 l w.heap.size _ Tryd.underlying26 rfl HSK.out bkw5.out rfl _ rfl rfl ?_)
  refine (HK11.out _).mono ?_
  rintro e w6 ⟨rfl, hw6⟩
  have bkw6 := Hid.mk' (bkw5.out.later hw6)
  have bmw6 := Hid.mk' (bmw5.out.later hw6)
  have HBw6 := Hid.mk' (HBw5.out.trans (Below.mono hw6 HBw5.out.size))
  clear bkw5 bmw5 HBw5 hw6
  go_wp2_with (with_reducible refine wpList_load_box 26 26 l w.heap.size _ Tryd.underlying26 rfl HSK.out bkw6.out rfl _ rfl rfl ?_)
  refine (HK13.out _).mono ?_
  rintro e w7 ⟨rfl, hw7⟩
  have bkw7 := Hid.mk' (bkw6.out.later hw7)
  have bmw7 := Hid.mk' (bmw6.out.later hw7)
  have HBw7 := Hid.mk' (HBw6.out.trans (Below.mono hw7 HBw6.out.size))
  clear bkw6 bmw6 HBw6 hw7
  go_wp2_with fail
  refine (HBY.out _).mono ?_
  rintro e w8 ⟨rfl, hw8⟩
  have bkw8 := Hid.mk' (bkw7.out.later hw8)
  have bmw8 := Hid.mk' (bmw7.out.later hw8)
  have HBw8 := Hid.mk' (HBw7.out.trans (Below.mono hw8 HBw7.out.size))
  clear bkw7 bmw7 HBw7 hw8
  go_wp2_with (first | (refine wpList_load_g 26 26 l w.heap.size 0 38 _ Tryd.underlying26 rfl K.sizeK bkw8.out HLL.out rfl _ rfl rfl (.agg l.toArray) HLT.out ?_) | (refine wpList_load_g 30 30 m w1.heap.size 0 4 _ Tryd.underlying30 rfl H.sizeM bmw8.out HML.out rfl _ rfl rfl (.agg m.toArray) HMT.out ?_))
  refine (HK17.out _).mono ?_
  rintro e w9 ⟨rfl, hw9⟩
  have bkw9 := Hid.mk' (bkw8.out.later hw9)
  have bmw9 := Hid.mk' (bmw8.out.later hw9)
  have HBw9 := Hid.mk' (HBw8.out.trans (Below.mono hw9 HBw8.out.size))
  clear bkw8 bmw8 HBw8 hw9
  go_wp2_with (first | (refine wpList_load_g 26 26 l w.heap.size 0 38 _ Tryd.underlying26 rfl K.sizeK bkw9.out HLL.out rfl _ rfl rfl (.agg l.toArray) HLT.out ?_) | (refine wpList_load_g 30 30 m w1.heap.size 0 4 _ Tryd.underlying30 rfl H.sizeM bmw9.out HML.out rfl _ rfl rfl (.agg m.toArray) HMT.out ?_))
  refine (HK18.out _).mono ?_
  rintro e w10 ⟨rfl, hw10⟩
  have bkw10 := Hid.mk' (bkw9.out.later hw10)
  have bmw10 := Hid.mk' (bmw9.out.later hw10)
  have HBw10 := Hid.mk' (HBw9.out.trans (Below.mono hw10 HBw9.out.size))
  clear bkw9 bmw9 HBw9 hw10
  go_wp2_with fail
  refine (HBY.out _).mono ?_
  rintro e w11 ⟨rfl, hw11⟩
  have bkw11 := Hid.mk' (bkw10.out.later hw11)
  have bmw11 := Hid.mk' (bmw10.out.later hw11)
  have HBw11 := Hid.mk' (HBw10.out.trans (Below.mono hw11 HBw10.out.size))
  clear bkw10 bmw10 HBw10 hw11
  go_wp2
  refine bodyPost_ret (results_tmp4 rfl _ _ _) rfl ?_
  exact ⟨rfl, HBw11.out⟩

set_option maxHeartbeats 8000000 in
set_option maxRecDepth 100000 in
theorem typed_pm (k : List UInt8) (hk : k.length = 38) (M : List Nat) (hM : H.okW M) (B : List UInt8) (hB : B.length < 1024) (q : Bool) (c : UInt8) (hq : q = false) (h14 : isK k 14 c = false) (h10 : isK k 10 c = false) (h12 : isK k 12 c = false) (h11 : isK k 11 c = false) (h13 : isK k 13 c = false) (hf : ¬ B.length + 1 = 1024) (h13c : ¬ (c.toNat : Int) = 13) (h10c : ¬ (c.toNat : Int) = 10) (h17 : isK k 17 c = false) (h18 : isK k 18 c = false) (hme : H.mem M c.toNat = true) (hend : isEnd k M c = true) (w : World) :
    Calls Tryd.prog 29 #[.string (bs B), .bool q, .agg (bcells k).toArray, .agg (H.ucells M).toArray, .int .i64 (c.toNat : Int)] w fun e w' => Tpd w (step (KK k M) ⟨B, q⟩ c) e w' := by
  have he : step (KK k M) ⟨B, q⟩ c = ⟨⟨[], false⟩, [B ++ [c]], [c]⟩ := by
    rw [step_plain (K := KK k M) (e := ⟨B, q⟩) hq (show plainB (KK k M) c from ⟨h14, h10, h12, h11, h13⟩)]
    exact put_full (.inr hend)
  unfold Tpd
  rw [he]
  clear he
  dsimp only
  rw [List.flatten_cons, List.flatten_nil, List.append_nil]
  have hBc : B.length + 1 ≤ 9223372036854775807 := by omega
  have hBd : ¬ 9223372036854775807 < B.length + 1 := by omega
  have hff : ((B.length : Int) + 1 == 1024) = false := beq_false_of_ne (by omega)
  have HSK := Hid.mk' (K.sizeKV k hk)
  have HSM := Hid.mk' (H.sizeMV hM)
  have hsB := bs_size B
  have HK14 : Hid (∀ W, Calls Tryd.prog 18 #[.agg (bcells k).toArray, .int .i64 14] W fun e w' => e = .returned (.int .i64 (keyI k 14)) ∧ Below W.heap.size W w') := fun W => KeyOf_any k hk 14 (by omega) W
  have g14 : ((c.toNat : Int) == keyI k 14) = false := by rw [keyI_is]; exact h14
  have HK10 : Hid (∀ W, Calls Tryd.prog 18 #[.agg (bcells k).toArray, .int .i64 10] W fun e w' => e = .returned (.int .i64 (keyI k 10)) ∧ Below W.heap.size W w') := fun W => KeyOf_any k hk 10 (by omega) W
  have g10 : ((c.toNat : Int) == keyI k 10) = false := by rw [keyI_is]; exact h10
  have HK12 : Hid (∀ W, Calls Tryd.prog 18 #[.agg (bcells k).toArray, .int .i64 12] W fun e w' => e = .returned (.int .i64 (keyI k 12)) ∧ Below W.heap.size W w') := fun W => KeyOf_any k hk 12 (by omega) W
  have g12 : ((c.toNat : Int) == keyI k 12) = false := by rw [keyI_is]; exact h12
  have HK11 : Hid (∀ W, Calls Tryd.prog 18 #[.agg (bcells k).toArray, .int .i64 11] W fun e w' => e = .returned (.int .i64 (keyI k 11)) ∧ Below W.heap.size W w') := fun W => KeyOf_any k hk 11 (by omega) W
  have g11 : ((c.toNat : Int) == keyI k 11) = false := by rw [keyI_is]; exact h11
  have HK13 : Hid (∀ W, Calls Tryd.prog 18 #[.agg (bcells k).toArray, .int .i64 13] W fun e w' => e = .returned (.int .i64 (keyI k 13)) ∧ Below W.heap.size W w') := fun W => KeyOf_any k hk 13 (by omega) W
  have g13 : ((c.toNat : Int) == keyI k 13) = false := by rw [keyI_is]; exact h13
  have HK17 : Hid (∀ W, Calls Tryd.prog 18 #[.agg (bcells k).toArray, .int .i64 17] W fun e w' => e = .returned (.int .i64 (keyI k 17)) ∧ Below W.heap.size W w') := fun W => KeyOf_any k hk 17 (by omega) W
  have g17 : ((c.toNat : Int) == keyI k 17) = false := by rw [keyI_is]; exact h17
  have HK18 : Hid (∀ W, Calls Tryd.prog 18 #[.agg (bcells k).toArray, .int .i64 18] W fun e w' => e = .returned (.int .i64 (keyI k 18)) ∧ Below W.heap.size W w') := fun W => KeyOf_any k hk 18 (by omega) W
  have g18 : ((c.toNat : Int) == keyI k 18) = false := by rw [keyI_is]; exact h18
  have HBY := Hid.mk' (Bytes_one c)
  have hsC : (bs [c]).size = 1 := rfl
  have HIM := Hid.mk' (fun W => H.InMask_any M hM c.toNat c.toNat_lt W)
  unfold H.MV at HIM
  have HLL : Hid (0 + 38 ≤ (bcells k).length) := by rw [Hid, bcells_length, hk]; decide
  have HLT : Hid (Value.agg (((bcells k).drop 0).take 38).toArray = .agg (bcells k).toArray) := by rw [Hid, List.drop_zero, List.take_of_length_le (by rw [bcells_length, hk]; decide)]
  have HML : Hid (0 + 4 ≤ (H.ucells M).length) := by rw [Hid, H.ucells_length, hM.1]; decide
  have HMT : Hid (Value.agg (((H.ucells M).drop 0).take 4).toArray = .agg (H.ucells M).toArray) := by rw [Hid, List.drop_zero, List.take_of_length_le (by rw [H.ucells_length, hM.1]; decide)]
  have y13 : ((c.toNat : Int) == 13) = false := beq_false_of_ne h13c
  have y10 : ((c.toNat : Int) == 10) = false := beq_false_of_ne h10c
  rw [hme] at HIM
  rw [← bs_app, bs_nil]
  subst hq
  generalize bs [c] = C1 at *
  generalize bs B = X at *
  generalize hmm : H.mem M c.toNat = mm at *
  clear hmm
  generalize keyI k 14 = K14 at *
  generalize keyI k 10 = K10 at *
  generalize keyI k 12 = K12 at *
  generalize keyI k 11 = K11 at *
  generalize keyI k 13 = K13 at *
  generalize keyI k 17 = K17 at *
  generalize keyI k 18 = K18 at *
  generalize hl : bcells k = l at *
  generalize hm : H.ucells M = m at *
  clear hl hm
  generalize hz : (c.toNat : Int) = z at *
  clear hz
  clear hf hk hM h14 h10 h12 h11 h13
  go_enter Tryd.func29, Tryd.ntmps29
  go_wp2_with (refine wpList_box l 26 rfl _ rfl rfl ?_)
  intro w1 m1
  go_wp2_with (refine wpList_box m 30 rfl _ rfl rfl ?_)
  intro w2 m2
  have z1 := m1.lt
  have z2 := m2.lt
  have bk := Hid.mk' (m2.keep m1.box)
  have bm := Hid.mk' m2.box
  have HB2 := Hid.mk' (m2.below w.heap.size w (Nat.le_of_lt m1.lt) (m1.below _ _ (Nat.le_refl _) (Below.refl _ w)))
  clear m1 m2
  go_wp2_with (with_reducible refine wpList_load_box 26 26 l w.heap.size _ Tryd.underlying26 rfl HSK.out bk.out rfl _ rfl rfl ?_)
  refine (HK14.out _).mono ?_
  rintro e w3 ⟨rfl, hw3⟩
  have bkw3 := Hid.mk' (bk.out.later hw3)
  have bmw3 := Hid.mk' (bm.out.later hw3)
  have HBw3 := Hid.mk' (HB2.out.trans (Below.mono hw3 HB2.out.size))
  clear bk bm HB2 hw3
  go_wp2_with (with_reducible refine wpList_load_box 26 26 l w.heap.size _ Tryd.underlying26 rfl HSK.out bkw3.out rfl _ rfl rfl ?_)
  refine (HK10.out _).mono ?_
  rintro e w4 ⟨rfl, hw4⟩
  have bkw4 := Hid.mk' (bkw3.out.later hw4)
  have bmw4 := Hid.mk' (bmw3.out.later hw4)
  have HBw4 := Hid.mk' (HBw3.out.trans (Below.mono hw4 HBw3.out.size))
  clear bkw3 bmw3 HBw3 hw4
  go_wp2_with (with_reducible refine wpList_load_box 26 26 l w.heap.size _ Tryd.underlying26 rfl HSK.out bkw4.out rfl _ rfl rfl ?_)
  refine (HK12.out _).mono ?_
  rintro e w5 ⟨rfl, hw5⟩
  have bkw5 := Hid.mk' (bkw4.out.later hw5)
  have bmw5 := Hid.mk' (bmw4.out.later hw5)
  have HBw5 := Hid.mk' (HBw4.out.trans (Below.mono hw5 HBw4.out.size))
  clear bkw4 bmw4 HBw4 hw5
  go_wp2_with (with_reducible refine wpList_load_box 26 26 l w.heap.size _ Tryd.underlying26 rfl HSK.out bkw5.out rfl _ rfl rfl ?_)
  refine (HK11.out _).mono ?_
  rintro e w6 ⟨rfl, hw6⟩
  have bkw6 := Hid.mk' (bkw5.out.later hw6)
  have bmw6 := Hid.mk' (bmw5.out.later hw6)
  have HBw6 := Hid.mk' (HBw5.out.trans (Below.mono hw6 HBw5.out.size))
  clear bkw5 bmw5 HBw5 hw6
  go_wp2_with (with_reducible refine wpList_load_box 26 26 l w.heap.size _ Tryd.underlying26 rfl HSK.out bkw6.out rfl _ rfl rfl ?_)
  refine (HK13.out _).mono ?_
  rintro e w7 ⟨rfl, hw7⟩
  have bkw7 := Hid.mk' (bkw6.out.later hw7)
  have bmw7 := Hid.mk' (bmw6.out.later hw7)
  have HBw7 := Hid.mk' (HBw6.out.trans (Below.mono hw7 HBw6.out.size))
  clear bkw6 bmw6 HBw6 hw7
  go_wp2_with fail
  refine (HBY.out _).mono ?_
  rintro e w8 ⟨rfl, hw8⟩
  have bkw8 := Hid.mk' (bkw7.out.later hw8)
  have bmw8 := Hid.mk' (bmw7.out.later hw8)
  have HBw8 := Hid.mk' (HBw7.out.trans (Below.mono hw8 HBw7.out.size))
  clear bkw7 bmw7 HBw7 hw8
  go_wp2_with (first | (refine wpList_load_g 26 26 l w.heap.size 0 38 _ Tryd.underlying26 rfl K.sizeK bkw8.out HLL.out rfl _ rfl rfl (.agg l.toArray) HLT.out ?_) | (refine wpList_load_g 30 30 m w1.heap.size 0 4 _ Tryd.underlying30 rfl H.sizeM bmw8.out HML.out rfl _ rfl rfl (.agg m.toArray) HMT.out ?_))
  refine (HK17.out _).mono ?_
  rintro e w9 ⟨rfl, hw9⟩
  have bkw9 := Hid.mk' (bkw8.out.later hw9)
  have bmw9 := Hid.mk' (bmw8.out.later hw9)
  have HBw9 := Hid.mk' (HBw8.out.trans (Below.mono hw9 HBw8.out.size))
  clear bkw8 bmw8 HBw8 hw9
  go_wp2_with (first | (refine wpList_load_g 26 26 l w.heap.size 0 38 _ Tryd.underlying26 rfl K.sizeK bkw9.out HLL.out rfl _ rfl rfl (.agg l.toArray) HLT.out ?_) | (refine wpList_load_g 30 30 m w1.heap.size 0 4 _ Tryd.underlying30 rfl H.sizeM bmw9.out HML.out rfl _ rfl rfl (.agg m.toArray) HMT.out ?_))
  refine (HK18.out _).mono ?_
  rintro e w10 ⟨rfl, hw10⟩
  have bkw10 := Hid.mk' (bkw9.out.later hw10)
  have bmw10 := Hid.mk' (bmw9.out.later hw10)
  have HBw10 := Hid.mk' (HBw9.out.trans (Below.mono hw10 HBw9.out.size))
  clear bkw9 bmw9 HBw9 hw10
  go_wp2_with (first | (refine wpList_load_g 26 26 l w.heap.size 0 38 _ Tryd.underlying26 rfl K.sizeK bkw10.out HLL.out rfl _ rfl rfl (.agg l.toArray) HLT.out ?_) | (refine wpList_load_g 30 30 m w1.heap.size 0 4 _ Tryd.underlying30 rfl H.sizeM bmw10.out HML.out rfl _ rfl rfl (.agg m.toArray) HMT.out ?_))
  refine (HIM.out _).mono ?_
  rintro e w11 ⟨rfl, hw11⟩
  have bkw11 := Hid.mk' (bkw10.out.later hw11)
  have bmw11 := Hid.mk' (bmw10.out.later hw11)
  have HBw11 := Hid.mk' (HBw10.out.trans (Below.mono hw11 HBw10.out.size))
  clear bkw10 bmw10 HBw10 hw11
  go_wp2_with fail
  refine (HBY.out _).mono ?_
  rintro e w12 ⟨rfl, hw12⟩
  have bkw12 := Hid.mk' (bkw11.out.later hw12)
  have bmw12 := Hid.mk' (bmw11.out.later hw12)
  have HBw12 := Hid.mk' (HBw11.out.trans (Below.mono hw12 HBw11.out.size))
  clear bkw11 bmw11 HBw11 hw12
  go_wp2
  refine bodyPost_ret (results_tmp4 rfl _ _ _) rfl ?_
  exact ⟨rfl, HBw12.out⟩

set_option maxHeartbeats 8000000 in
set_option maxRecDepth 100000 in
theorem typed_pn (k : List UInt8) (hk : k.length = 38) (M : List Nat) (hM : H.okW M) (B : List UInt8) (hB : B.length < 1024) (q : Bool) (c : UInt8) (hq : q = false) (h14 : isK k 14 c = false) (h10 : isK k 10 c = false) (h12 : isK k 12 c = false) (h11 : isK k 11 c = false) (h13 : isK k 13 c = false) (hf : ¬ B.length + 1 = 1024) (h13c : ¬ (c.toNat : Int) = 13) (h10c : ¬ (c.toNat : Int) = 10) (h17 : isK k 17 c = false) (h18 : isK k 18 c = false) (hme : H.mem M c.toNat = false) (hend : isEnd k M c = false) (w : World) :
    Calls Tryd.prog 29 #[.string (bs B), .bool q, .agg (bcells k).toArray, .agg (H.ucells M).toArray, .int .i64 (c.toNat : Int)] w fun e w' => Tpd w (step (KK k M) ⟨B, q⟩ c) e w' := by
  have he : step (KK k M) ⟨B, q⟩ c = ⟨⟨B ++ [c], false⟩, [], [c]⟩ := by
    rw [step_plain (K := KK k M) (e := ⟨B, q⟩) hq (show plainB (KK k M) c from ⟨h14, h10, h12, h11, h13⟩)]
    exact put_more (fun e => e.elim (fun e => hf (by rw [List.length_append, List.length_singleton] at e; exact e)) (fun e => by rw [show (KK k M).ends c = isEnd k M c from rfl, hend] at e; cases e))
  unfold Tpd
  rw [he]
  clear he
  dsimp only
  rw [List.flatten_nil]
  have hBc : B.length + 1 ≤ 9223372036854775807 := by omega
  have hBd : ¬ 9223372036854775807 < B.length + 1 := by omega
  have hff : ((B.length : Int) + 1 == 1024) = false := beq_false_of_ne (by omega)
  have HSK := Hid.mk' (K.sizeKV k hk)
  have HSM := Hid.mk' (H.sizeMV hM)
  have hsB := bs_size B
  have HK14 : Hid (∀ W, Calls Tryd.prog 18 #[.agg (bcells k).toArray, .int .i64 14] W fun e w' => e = .returned (.int .i64 (keyI k 14)) ∧ Below W.heap.size W w') := fun W => KeyOf_any k hk 14 (by omega) W
  have g14 : ((c.toNat : Int) == keyI k 14) = false := by rw [keyI_is]; exact h14
  have HK10 : Hid (∀ W, Calls Tryd.prog 18 #[.agg (bcells k).toArray, .int .i64 10] W fun e w' => e = .returned (.int .i64 (keyI k 10)) ∧ Below W.heap.size W w') := fun W => KeyOf_any k hk 10 (by omega) W
  have g10 : ((c.toNat : Int) == keyI k 10) = false := by rw [keyI_is]; exact h10
  have HK12 : Hid (∀ W, Calls Tryd.prog 18 #[.agg (bcells k).toArray, .int .i64 12] W fun e w' => e = .returned (.int .i64 (keyI k 12)) ∧ Below W.heap.size W w') := fun W => KeyOf_any k hk 12 (by omega) W
  have g12 : ((c.toNat : Int) == keyI k 12) = false := by rw [keyI_is]; exact h12
  have HK11 : Hid (∀ W, Calls Tryd.prog 18 #[.agg (bcells k).toArray, .int .i64 11] W fun e w' => e = .returned (.int .i64 (keyI k 11)) ∧ Below W.heap.size W w') := fun W => KeyOf_any k hk 11 (by omega) W
  have g11 : ((c.toNat : Int) == keyI k 11) = false := by rw [keyI_is]; exact h11
  have HK13 : Hid (∀ W, Calls Tryd.prog 18 #[.agg (bcells k).toArray, .int .i64 13] W fun e w' => e = .returned (.int .i64 (keyI k 13)) ∧ Below W.heap.size W w') := fun W => KeyOf_any k hk 13 (by omega) W
  have g13 : ((c.toNat : Int) == keyI k 13) = false := by rw [keyI_is]; exact h13
  have HK17 : Hid (∀ W, Calls Tryd.prog 18 #[.agg (bcells k).toArray, .int .i64 17] W fun e w' => e = .returned (.int .i64 (keyI k 17)) ∧ Below W.heap.size W w') := fun W => KeyOf_any k hk 17 (by omega) W
  have g17 : ((c.toNat : Int) == keyI k 17) = false := by rw [keyI_is]; exact h17
  have HK18 : Hid (∀ W, Calls Tryd.prog 18 #[.agg (bcells k).toArray, .int .i64 18] W fun e w' => e = .returned (.int .i64 (keyI k 18)) ∧ Below W.heap.size W w') := fun W => KeyOf_any k hk 18 (by omega) W
  have g18 : ((c.toNat : Int) == keyI k 18) = false := by rw [keyI_is]; exact h18
  have HBY := Hid.mk' (Bytes_one c)
  have hsC : (bs [c]).size = 1 := rfl
  have HIM := Hid.mk' (fun W => H.InMask_any M hM c.toNat c.toNat_lt W)
  unfold H.MV at HIM
  have HLL : Hid (0 + 38 ≤ (bcells k).length) := by rw [Hid, bcells_length, hk]; decide
  have HLT : Hid (Value.agg (((bcells k).drop 0).take 38).toArray = .agg (bcells k).toArray) := by rw [Hid, List.drop_zero, List.take_of_length_le (by rw [bcells_length, hk]; decide)]
  have HML : Hid (0 + 4 ≤ (H.ucells M).length) := by rw [Hid, H.ucells_length, hM.1]; decide
  have HMT : Hid (Value.agg (((H.ucells M).drop 0).take 4).toArray = .agg (H.ucells M).toArray) := by rw [Hid, List.drop_zero, List.take_of_length_le (by rw [H.ucells_length, hM.1]; decide)]
  have y13 : ((c.toNat : Int) == 13) = false := beq_false_of_ne h13c
  have y10 : ((c.toNat : Int) == 10) = false := beq_false_of_ne h10c
  rw [hme] at HIM
  rw [← bs_app, bs_nil]
  subst hq
  generalize bs [c] = C1 at *
  generalize bs B = X at *
  generalize hmm : H.mem M c.toNat = mm at *
  clear hmm
  generalize keyI k 14 = K14 at *
  generalize keyI k 10 = K10 at *
  generalize keyI k 12 = K12 at *
  generalize keyI k 11 = K11 at *
  generalize keyI k 13 = K13 at *
  generalize keyI k 17 = K17 at *
  generalize keyI k 18 = K18 at *
  generalize hl : bcells k = l at *
  generalize hm : H.ucells M = m at *
  clear hl hm
  generalize hz : (c.toNat : Int) = z at *
  clear hz
  clear hf hk hM h14 h10 h12 h11 h13
  go_enter Tryd.func29, Tryd.ntmps29
  go_wp2_with (refine wpList_box l 26 rfl _ rfl rfl ?_)
  intro w1 m1
  go_wp2_with (refine wpList_box m 30 rfl _ rfl rfl ?_)
  intro w2 m2
  have z1 := m1.lt
  have z2 := m2.lt
  have bk := Hid.mk' (m2.keep m1.box)
  have bm := Hid.mk' m2.box
  have HB2 := Hid.mk' (m2.below w.heap.size w (Nat.le_of_lt m1.lt) (m1.below _ _ (Nat.le_refl _) (Below.refl _ w)))
  clear m1 m2
  go_wp2_with (with_reducible refine wpList_load_box 26 26 l w.heap.size _ Tryd.underlying26 rfl HSK.out bk.out rfl _ rfl rfl ?_)
  refine (HK14.out _).mono ?_
  rintro e w3 ⟨rfl, hw3⟩
  have bkw3 := Hid.mk' (bk.out.later hw3)
  have bmw3 := Hid.mk' (bm.out.later hw3)
  have HBw3 := Hid.mk' (HB2.out.trans (Below.mono hw3 HB2.out.size))
  clear bk bm HB2 hw3
  go_wp2_with (with_reducible refine wpList_load_box 26 26 l w.heap.size _ Tryd.underlying26 rfl HSK.out bkw3.out rfl _ rfl rfl ?_)
  refine (HK10.out _).mono ?_
  rintro e w4 ⟨rfl, hw4⟩
  have bkw4 := Hid.mk' (bkw3.out.later hw4)
  have bmw4 := Hid.mk' (bmw3.out.later hw4)
  have HBw4 := Hid.mk' (HBw3.out.trans (Below.mono hw4 HBw3.out.size))
  clear bkw3 bmw3 HBw3 hw4
  go_wp2_with (with_reducible refine wpList_load_box 26 26 l w.heap.size _ Tryd.underlying26 rfl HSK.out bkw4.out rfl _ rfl rfl ?_)
  refine (HK12.out _).mono ?_
  rintro e w5 ⟨rfl, hw5⟩
  have bkw5 := Hid.mk' (bkw4.out.later hw5)
  have bmw5 := Hid.mk' (bmw4.out.later hw5)
  have HBw5 := Hid.mk' (HBw4.out.trans (Below.mono hw5 HBw4.out.size))
  clear bkw4 bmw4 HBw4 hw5
  go_wp2_with (with_reducible refine wpList_load_box 26 26 l w.heap.size _ Tryd.underlying26 rfl HSK.out bkw5.out rfl _ rfl rfl ?_)
  refine (HK11.out _).mono ?_
  rintro e w6 ⟨rfl, hw6⟩
  have bkw6 := Hid.mk' (bkw5.out.later hw6)
  have bmw6 := Hid.mk' (bmw5.out.later hw6)
  have HBw6 := Hid.mk' (HBw5.out.trans (Below.mono hw6 HBw5.out.size))
  clear bkw5 bmw5 HBw5 hw6
  go_wp2_with (with_reducible refine wpList_load_box 26 26 l w.heap.size _ Tryd.underlying26 rfl HSK.out bkw6.out rfl _ rfl rfl ?_)
  refine (HK13.out _).mono ?_
  rintro e w7 ⟨rfl, hw7⟩
  have bkw7 := Hid.mk' (bkw6.out.later hw7)
  have bmw7 := Hid.mk' (bmw6.out.later hw7)
  have HBw7 := Hid.mk' (HBw6.out.trans (Below.mono hw7 HBw6.out.size))
  clear bkw6 bmw6 HBw6 hw7
  go_wp2_with fail
  refine (HBY.out _).mono ?_
  rintro e w8 ⟨rfl, hw8⟩
  have bkw8 := Hid.mk' (bkw7.out.later hw8)
  have bmw8 := Hid.mk' (bmw7.out.later hw8)
  have HBw8 := Hid.mk' (HBw7.out.trans (Below.mono hw8 HBw7.out.size))
  clear bkw7 bmw7 HBw7 hw8
  go_wp2_with (first | (refine wpList_load_g 26 26 l w.heap.size 0 38 _ Tryd.underlying26 rfl K.sizeK bkw8.out HLL.out rfl _ rfl rfl (.agg l.toArray) HLT.out ?_) | (refine wpList_load_g 30 30 m w1.heap.size 0 4 _ Tryd.underlying30 rfl H.sizeM bmw8.out HML.out rfl _ rfl rfl (.agg m.toArray) HMT.out ?_))
  refine (HK17.out _).mono ?_
  rintro e w9 ⟨rfl, hw9⟩
  have bkw9 := Hid.mk' (bkw8.out.later hw9)
  have bmw9 := Hid.mk' (bmw8.out.later hw9)
  have HBw9 := Hid.mk' (HBw8.out.trans (Below.mono hw9 HBw8.out.size))
  clear bkw8 bmw8 HBw8 hw9
  go_wp2_with (first | (refine wpList_load_g 26 26 l w.heap.size 0 38 _ Tryd.underlying26 rfl K.sizeK bkw9.out HLL.out rfl _ rfl rfl (.agg l.toArray) HLT.out ?_) | (refine wpList_load_g 30 30 m w1.heap.size 0 4 _ Tryd.underlying30 rfl H.sizeM bmw9.out HML.out rfl _ rfl rfl (.agg m.toArray) HMT.out ?_))
  refine (HK18.out _).mono ?_
  rintro e w10 ⟨rfl, hw10⟩
  have bkw10 := Hid.mk' (bkw9.out.later hw10)
  have bmw10 := Hid.mk' (bmw9.out.later hw10)
  have HBw10 := Hid.mk' (HBw9.out.trans (Below.mono hw10 HBw9.out.size))
  clear bkw9 bmw9 HBw9 hw10
  go_wp2_with (first | (refine wpList_load_g 26 26 l w.heap.size 0 38 _ Tryd.underlying26 rfl K.sizeK bkw10.out HLL.out rfl _ rfl rfl (.agg l.toArray) HLT.out ?_) | (refine wpList_load_g 30 30 m w1.heap.size 0 4 _ Tryd.underlying30 rfl H.sizeM bmw10.out HML.out rfl _ rfl rfl (.agg m.toArray) HMT.out ?_))
  refine (HIM.out _).mono ?_
  rintro e w11 ⟨rfl, hw11⟩
  have bkw11 := Hid.mk' (bkw10.out.later hw11)
  have bmw11 := Hid.mk' (bmw10.out.later hw11)
  have HBw11 := Hid.mk' (HBw10.out.trans (Below.mono hw11 HBw10.out.size))
  clear bkw10 bmw10 HBw10 hw11
  go_wp2_with fail
  refine (HBY.out _).mono ?_
  rintro e w12 ⟨rfl, hw12⟩
  have bkw12 := Hid.mk' (bkw11.out.later hw12)
  have bmw12 := Hid.mk' (bmw11.out.later hw12)
  have HBw12 := Hid.mk' (HBw11.out.trans (Below.mono hw12 HBw11.out.size))
  clear bkw11 bmw11 HBw11 hw12
  go_wp2
  refine bodyPost_ret (results_tmp4 rfl _ _ _) rfl ?_
  exact ⟨rfl, HBw12.out⟩

theorem Typed_any (k : List UInt8) (hk : k.length = 38) (M : List Nat) (hM : H.okW M) (B : List UInt8) (hB : B.length < 1024) (q : Bool) (c : UInt8) (w : World) :
    Calls Tryd.prog 29 #[.string (bs B), .bool q, .agg (bcells k).toArray, .agg (H.ucells M).toArray, .int .i64 (c.toNat : Int)] w fun e w' => Tpd w (step (KK k M) ⟨B, q⟩ c) e w' := by
  cases hq : q with
  | true =>
    by_cases hf : B.length + 1 = 1024
    · exact typed_qf k hk M hM B true c rfl hf w
    · exact typed_qm k hk M hM B hB true c rfl hf w
  | false =>
    cases h14 : isK k 14 c with
    | true => exact typed_quote k hk M hM B false c rfl h14 w
    | false =>
      cases h10 : isK k 10 c with
      | true =>
        cases hl : B.length with
        | zero => exact typed_char0 k hk M hM B hB false c rfl (List.length_eq_zero_iff.1 hl) h14 h10 w
        | succ n => exact typed_char1 k hk M hM B hB false c rfl n hl h14 h10 w
      | false =>
        cases h12 : isK k 12 c with
        | true => exact typed_word k hk M hM B hB false c rfl h14 h10 h12 w
        | false =>
          cases h11 : isK k 11 c with
          | true => exact typed_line k hk M hM B hB false c rfl h14 h10 h12 h11 w
          | false =>
            cases h13 : isK k 13 c with
            | true => exact typed_show k hk M hM B hB false c rfl h14 h10 h12 h11 h13 w
            | false =>
              by_cases hf : B.length + 1 = 1024
              · exact typed_pf k hk M hM B false c rfl h14 h10 h12 h11 h13 hf w
              have e13 : (13 : UInt8).toNat = 13 := rfl
              have e10 : (10 : UInt8).toNat = 10 := rfl
              by_cases y13 : (c.toNat : Int) = 13
              · exact typed_p13 k hk M hM B hB false c rfl h14 h10 h12 h11 h13 hf y13 (by unfold isEnd; rw [decide_eq_true (.inl (UInt8.toNat_inj.1 (by omega)))]; rfl) w
              by_cases y10 : (c.toNat : Int) = 10
              · exact typed_p10 k hk M hM B hB false c rfl h14 h10 h12 h11 h13 hf y13 y10 (by unfold isEnd; rw [decide_eq_true (.inr (UInt8.toNat_inj.1 (by omega)))]; rfl) w
              have hd : decide (c = 13 ∨ c = 10) = false := decide_eq_false (fun e => e.elim (fun e => y13 (by rw [e]; rfl)) (fun e => y10 (by rw [e]; rfl)))
              cases h17 : isK k 17 c with
              | true => exact typed_p17 k hk M hM B hB false c rfl h14 h10 h12 h11 h13 hf y13 y10 h17 (by unfold isEnd; rw [hd, h17]; rfl) w
              | false =>
                cases h18 : isK k 18 c with
                | true => exact typed_p18 k hk M hM B hB false c rfl h14 h10 h12 h11 h13 hf y13 y10 h17 h18 (by unfold isEnd; rw [hd, h17, h18]; rfl) w
                | false =>
                  cases hme : H.mem M c.toNat with
                  | true => exact typed_pm k hk M hM B hB false c rfl h14 h10 h12 h11 h13 hf y13 y10 h17 h18 hme (by unfold isEnd; rw [hd, h17, h18, hme]; rfl) w
                  | false => exact typed_pn k hk M hM B hB false c rfl h14 h10 h12 h11 h13 hf y13 y10 h17 h18 hme (by unfold isEnd; rw [hd, h17, h18, hme]; rfl) w
end Go.Proofs.YtomgnnbcaficaaaDoor.L
