/-
  The walk of farkeep.LineCuts; conditions: Keys of 38 bytes, a set of four words of 64 bits, texts of at most 2^47 bytes.
-/
import Derived.Test.YtomgnnbcaficaaaDoorLLives
namespace Go.Proofs.YtomgnnbcaficaaaDoor.L
open Go.RowKit Go.Lib Go.Proofs.YtomgnnbcaficaaaDoor Go.Proofs.YtomgnnbcaficaaaDoor.W Go.Proofs.YtomgnnbcaficaaaDoor.Q

theorem typeT_form (k : List UInt8) (M : List Nat) (B T : List UInt8) (q : Bool) : (ref B.length k T.length = 0 ∧ typeT k M B q T = (runS (KK k M) ⟨B, q, [], []⟩ T, 0)) ∨ (ref B.length k T.length ≠ 0 ∧ typeT k M B q T = (⟨B, q, [], []⟩, ref B.length k T.length)) := by
  unfold typeT
  by_cases h : ref B.length k T.length = 0
  · exact .inl ⟨h, if_pos h⟩
  · exact .inr ⟨h, if_neg h⟩
theorem ref_zero {n : Nat} {k : List UInt8} {m : Nat} : ref n k m = 0 ↔ n < 1024 ∧ K.chk k = 0 ∧ m ≤ 4096 := by
  unfold ref
  constructor
  · intro h
    split at h
    · cases h
    split at h
    · split at h
      · cases h
      · rename_i h1 h2 h3
        exact ⟨by omega, h2, by omega⟩
    · rename_i h1 h2
      exact absurd h h2
  · rintro ⟨h1, h2, h3⟩
    rw [if_neg (by omega), if_pos h2, if_neg (by omega)]
theorem runS_two (K : Ks) (B : List UInt8) (q : Bool) (a b : List UInt8) : runS K ⟨B, q, [], []⟩ (a ++ b) = ⟨(runS K ⟨(runS K ⟨B, q, [], []⟩ a).buf, (runS K ⟨B, q, [], []⟩ a).q, [], []⟩ b).buf, (runS K ⟨(runS K ⟨B, q, [], []⟩ a).buf, (runS K ⟨B, q, [], []⟩ a).q, [], []⟩ b).q, (runS K ⟨B, q, [], []⟩ a).ls ++ (runS K ⟨(runS K ⟨B, q, [], []⟩ a).buf, (runS K ⟨B, q, [], []⟩ a).q, [], []⟩ b).ls, (runS K ⟨B, q, [], []⟩ a).echo ++ (runS K ⟨(runS K ⟨B, q, [], []⟩ a).buf, (runS K ⟨B, q, [], []⟩ a).q, [], []⟩ b).echo⟩ := by
  simp only [runS, run_app, List.nil_append]
theorem runS_small (K : Ks) (B : List UInt8) (q : Bool) (a : List UInt8) (h : B.length < 1024) : (runS K ⟨B, q, [], []⟩ a).buf.length < 1024 := run_small K a ⟨B, q⟩ h
theorem runS_room (K : Ks) (B : List UInt8) (q : Bool) (h : B.length < 1024) (a : List UInt8) : room (runS K ⟨B, q, [], []⟩ a) a.length := by
  have key : ∀ n, n ≤ a.length → room (runS K ⟨B, q, [], []⟩ (a.take n)) n := fun n => by
    induction n with
    | zero => intro _; rw [List.take_zero, runS_nil]; exact ⟨h, Nat.le_refl _, Nat.le_refl _⟩
    | succ n ih =>
      intro hn
      rw [List.take_succ_eq_append_getElem (by omega), runS_snoc]
      exact stepS_room _ _ _ _ (ih (by omega))
  have := key a.length (Nat.le_refl _)
  rwa [List.take_length] at this

theorem src_rd {w : World} {ad : Option Addr} {n c : Nat} {l : List (List UInt8)} (h : RdS w (.slice ad n c) (l.map bs)) : Src Tryd.prog 1 31 (.slice ad n c) l.length (scells l) w := by
  obtain ⟨a', c', e, hc, hr⟩ := h
  simp only [Value.slice.injEq, List.length_map] at e
  obtain ⟨rfl, rfl, rfl⟩ := e
  rcases hr with h0 | ⟨b, off, rfl, ht, _⟩
  · have : l = [] := List.map_eq_nil_iff.1 h0
    subst this
    cases ad with
    | none => exact Src.ofNil _ Tryd.underlying31 _
    | some ad => exact Src.ofSlice _ Tryd.underlying31 _ _ _ _ rfl (fun j u hu => by simp [scells] at hu) (scells_one [])
  · refine Src.ofSlice _ Tryd.underlying31 _ _ _ _ (by rw [scells_length, Nat.mul_one]) (fun j u hu => ?_) (scells_one l)
    have hj : j < l.length := by have := (List.getElem?_eq_some_iff.1 hu).1; rwa [scells_length] at this
    have hadd : (⟨b, off, none⟩ : Addr).add j = ⟨b, off + j, none⟩ := by unfold Addr.add; split <;> simp_all
    rw [hadd, ht j (by rw [List.length_map]; exact hj)]
    simpa [scells, hj] using hu
/-- lines put behind lines that the call owns -/
theorem wpList_lines {w : World} {ops : Array Oper} {rest : List Oper} {o : Oper} {a : Act} {Q : Exit → Act → World → Prop} (hwd : Region.wanted o (yielded ops a.tmps) = true) (sl x : Operand)
    (ho : o.op = .call { callee := .builtin .append, args := #[sl, x], argTypes := #[31, 31] }) (base : Nat) (al : Option Addr) (n cl : Nat) (l : List (List UInt8)) (hsl : a.eval sl = .slice al n cl) (hn : n = l.length) (hown : OwnL w base al cl l)
    (xv : Value) (hx : a.eval x = xv) (m : Nat) (l2 : List (List UInt8)) (hS : Src Tryd.prog 1 31 xv m (scells l2) w) (hlen : l.length + l2.length ≤ 1000000000) (hbase : base ≤ w.heap.size)
    (next : ∀ al' n' cl' w', Hid (n' = (l ++ l2).length) → Hid (OwnR w' base 9 1 (.slice al' n' cl') n' (scells (l ++ l2))) → (∀ B W, B ≤ base → Below B W w → Below B W w') → wpList Tryd.prog ops Q rest (a.put o.dst (.slice al' n' cl')) w') : wpList Tryd.prog ops Q (o :: rest) a w := by
  subst hn
  obtain ⟨i0, hi, hz0, hz1, hz2⟩ := info_parts infoString
  have hm : m = l2.length := by have := hS.newsLen; rw [scells_length] at this; omega
  obtain ⟨al', cl', w', hr, hA⟩ := run_append_1 (P := Tryd.prog) w 31 31 o.type base 9 i0 (.string ⟨#[]⟩) 16 Tryd.underlying31 hi hz0 hz1 hz2 rfl al l.length cl (scells l) hown xv m (scells l2) hS (by unfold maxLen; omega) (by omega) hbase
  rw [← scells_app] at hA
  refine wpList_step fun K hK => ?_
  rw [if_pos hwd]
  unfold Oper.wp execOp
  simp only [ho, resolve, invoke, builtin, Sem.run_bind, Sem.run_pure, Result.andThen_ok, List.map_toArray, List.map_cons, List.map_nil, hsl, hx, hr]
  refine hK _ _ (next al' (l.length + m) cl' w' (by rw [Hid, List.length_append, hm]) hA.own fun B W hB hBW => hBW.grown hA.grown (by omega) (fun g hg => ?_))
  have := (hown.lt g (by rw [ownBlock_slice]; exact hg)).1
  omega

/-- Type as the walks call it -/
theorem type_call (k : List UInt8) (hk : k.length = 38) (M : List Nat) (hM : H.okW M) (B T : List UInt8) (q : Bool) (w : World) (x1 x2 : ByteArray) (p : S × Int) (hp : typeT k M B q T = p) (h1 : bs p.1.buf = x1) (h2 : bs p.1.echo = x2) :
    Calls Tryd.prog 9 #[.agg #[.string (bs B), .bool q], .agg (bcells k).toArray, .agg (H.ucells M).toArray, .string (bs T)] w fun e w' => ∃ al cl n, Hid (n = p.1.ls.length) ∧ e = .returned (.tuple #[.agg #[.string x1, .bool p.1.q], .slice al n cl, .string x2, .int .i64 p.2]) ∧ OwnL w' w.heap.size al cl p.1.ls ∧ Below w.heap.size w w' := by
  refine (Type_any k hk M hM B T q w).mono fun e w' h => ?_
  obtain ⟨al, cl, e1, e2, e3⟩ := h
  subst hp h1 h2
  exact ⟨al, cl, _, rfl, e1, e2, e3⟩

set_option maxHeartbeats 16000000 in
set_option maxRecDepth 100000 in
theorem LineCuts_bad (k : List UInt8) (hk : k.length = 38) (M : List Nat) (hM : H.okW M) (B T : List UInt8) (q : Bool) (T2 : ByteArray) (w : World) (hr : ref B.length k T.length ≠ 0) :
    Calls Tryd.prog 4 #[.agg #[.string (bs B), .bool q], .agg (bcells k).toArray, .agg (H.ucells M).toArray, .string (bs T), .string T2] w fun e w' => e = .returned (.bool true) ∧ Below w.heap.size w w' := by
  have HT := Hid.mk' (fun W => type_call k hk M hM B T q W (bs B) (bs []) (⟨B, q, [], []⟩, ref B.length k T.length) ((typeT_form k M B T q).elim (fun h => absurd h.1 hr) (fun h => h.2)) rfl rfl)
  have HLV := Hid.mk' lives_any
  have HSK := Hid.mk' (K.sizeKV k hk)
  have HSM := Hid.mk' (H.sizeMV hM)
  have HSE : Hid ((Tryd.prog.info? 23).map (·.size) = some ([Value.string (bs B), Value.bool q]).length) := sizeE
  have hr1 : (ref B.length k T.length != 0) = true := bne_iff_ne.2 hr
  have hr2 : (ref B.length k T.length == 0) = false := beq_false_of_ne hr
  generalize ref B.length k T.length = r at *
  generalize bs [] = X2 at *
  generalize bs B = X at *
  generalize bs T = T1 at *
  generalize bcells k = l at *
  generalize H.ucells M = m at *
  clear hr hk hM
  go_enter Tryd.func4, Tryd.ntmps4
  have HB_0 := Hid.mk' (Below.refl w.heap.size w)
  go_wp2_with (refine wpList_box ([.string X, .bool q]) 23 rfl _ rfl rfl ?_)
  intro w1 mw1
  have zw1 := mw1.lt
  have Hw1 : Below w.heap.size w w1 := mw1.below _ _ (Nat.le_refl _) (Below.refl _ _)
  have Xw1 := mw1.box
  have HB_w1 := Hid.mk' (HB_0.out.trans (Below.mono Hw1 HB_0.out.size))
  clear HB_0
  have be_w1 := Hid.mk' Xw1
  clear mw1 Hw1 Xw1
  go_wp2_with (refine wpList_box (l) 26 rfl _ rfl rfl ?_)
  intro w2 mw2
  have zw2 := mw2.lt
  have Hw2 : Below w1.heap.size w1 w2 := mw2.below _ _ (Nat.le_refl _) (Below.refl _ _)
  have Xw2 := mw2.box
  have HB_w2 := Hid.mk' (HB_w1.out.trans (Below.mono Hw2 HB_w1.out.size))
  have be_w2 := Hid.mk' (be_w1.out.later Hw2)
  clear HB_w1 be_w1
  have bk_w2 := Hid.mk' Xw2
  clear mw2 Hw2 Xw2
  go_wp2_with (refine wpList_box (m) 30 rfl _ rfl rfl ?_)
  intro w3 mw3
  have zw3 := mw3.lt
  have Hw3 : Below w2.heap.size w2 w3 := mw3.below _ _ (Nat.le_refl _) (Below.refl _ _)
  have Xw3 := mw3.box
  have HB_w3 := Hid.mk' (HB_w2.out.trans (Below.mono Hw3 HB_w2.out.size))
  have be_w3 := Hid.mk' (be_w2.out.later Hw3)
  have bk_w3 := Hid.mk' (bk_w2.out.later Hw3)
  clear HB_w2 be_w2 bk_w2
  have bm_w3 := Hid.mk' Xw3
  clear mw3 Hw3 Xw3
  go_wp2_with (first | (with_reducible refine wpList_load_box 23 23 ([.string X, .bool q]) w.heap.size _ Tryd.underlying23 rfl HSE.out be_w3.out rfl _ rfl rfl ?_) | (with_reducible refine wpList_load_box 26 26 (l) w1.heap.size _ Tryd.underlying26 rfl HSK.out bk_w3.out rfl _ rfl rfl ?_) | (with_reducible refine wpList_load_box 30 30 (m) w2.heap.size _ Tryd.underlying30 rfl HSM.out bm_w3.out rfl _ rfl rfl ?_))
  refine (HT.out _).mono ?_
  rintro e w4 ⟨al1, cl1, n1, hn1, rfl, ho1, hw4⟩
  have zw4 := hw4.size
  have HB_w4 := Hid.mk' (HB_w3.out.trans (Below.mono hw4 HB_w3.out.size))
  have be_w4 := Hid.mk' (be_w3.out.later hw4)
  have bk_w4 := Hid.mk' (bk_w3.out.later hw4)
  have bm_w4 := Hid.mk' (bm_w3.out.later hw4)
  clear HB_w3 be_w3 bk_w3 bm_w3
  clear hw4
  have ol_4 := Hid.mk' (ho1)
  go_wp2_with (first | (refine wpList_alloc [.string ⟨#[]⟩, .bool false] 23 zeroE rfl rfl ?_))
  intro w5 mw5
  have zw5 := mw5.lt
  have Yw5 := Hid.mk' mw5.box
  have HSw5 : Hid (∀ W', Stored w5 W' w4.heap.size 23 ([.string X, .bool q]) → Below w4.heap.size w4 W') := fun W' s' => s'.below _ _ (Nat.le_refl _) (mw5.below _ _ (Nat.le_refl _) (Below.refl _ _))
  clear mw5
  go_wp2_with (refine wpList_store_box 23 23 [.string ⟨#[]⟩, .bool false] ([.string X, .bool q]) w4.heap.size sizeE (edCells_one _ _) Yw5.out rfl rfl _ _ rfl rfl rfl ?_)
  intro w6 sw6
  have zw6 : w4.heap.size < w6.heap.size := sw6.box.lt
  have Hw6 := HSw5.out w6 sw6
  have Xw6 := sw6.box
  have HB_w6 := Hid.mk' (HB_w4.out.trans (Below.mono Hw6 HB_w4.out.size))
  have be_w6 := Hid.mk' (be_w4.out.later Hw6)
  have bk_w6 := Hid.mk' (bk_w4.out.later Hw6)
  have bm_w6 := Hid.mk' (bm_w4.out.later Hw6)
  have ol_w6 := Hid.mk' (ol_4.out.below Hw6)
  clear HB_w4 be_w4 bk_w4 bm_w4 ol_4
  have bx_w6 := Hid.mk' Xw6
  clear sw6 Hw6 Xw6 Yw5 HSw5 zw5
  go_wp2_with (fail)
  refine (HLV.out _).mono ?_
  rintro e w7 ⟨rfl, hw7⟩
  have zw7 := hw7.size
  have HB_w7 := Hid.mk' (HB_w6.out.trans (Below.mono hw7 HB_w6.out.size))
  have be_w7 := Hid.mk' (be_w6.out.later hw7)
  have bk_w7 := Hid.mk' (bk_w6.out.later hw7)
  have bm_w7 := Hid.mk' (bm_w6.out.later hw7)
  have ol_w7 := Hid.mk' (ol_w6.out.below hw7)
  have bx_w7 := Hid.mk' (bx_w6.out.later hw7)
  clear HB_w6 be_w6 bk_w6 bm_w6 ol_w6 bx_w6
  clear hw7
  obtain rfl : n1 = 0 := hn1.out
  go_wp2_with (fail)
  refine (HLV.out _).mono ?_
  rintro e w8 ⟨rfl, hw8⟩
  have zw8 := hw8.size
  have HB_w8 := Hid.mk' (HB_w7.out.trans (Below.mono hw8 HB_w7.out.size))
  have be_w8 := Hid.mk' (be_w7.out.later hw8)
  have bk_w8 := Hid.mk' (bk_w7.out.later hw8)
  have bm_w8 := Hid.mk' (bm_w7.out.later hw8)
  have ol_w8 := Hid.mk' (ol_w7.out.below hw8)
  have bx_w8 := Hid.mk' (bx_w7.out.later hw8)
  clear HB_w7 be_w7 bk_w7 bm_w7 ol_w7 bx_w7
  clear hw8
  have e0 := be_w8.out.cell (j := 0) rfl
  have e1 := be_w8.out.cell (j := 1) rfl
  have e2 := bx_w8.out.cell (j := 0) rfl
  have e3 := bx_w8.out.cell (j := 1) rfl
  go_wp2
  go_ret
  exact ⟨rfl, HB_w8.out⟩

theorem own_of {w : World} {base : Nat} {al : Option Addr} {cl : Nat} {l : List (List UInt8)} (h : OwnS w base al cl (l.map bs)) : OwnL w base al cl l := by
  unfold OwnL
  unfold OwnS at h
  rw [List.length_map] at h
  have e : W.scells (l.map bs) = scells l := by simp [W.scells, scells]
  rwa [e] at h
theorem rd_n {w : World} {base : Nat} {al : Option Addr} {n cl : Nat} {l : List (List UInt8)} (hn : n = l.length) (h : OwnR w base 9 1 (.slice al n cl) n (scells l)) : RdS w (.slice al n cl) (l.map bs) := by
  subst hn
  exact OwnL.rd h

set_option maxHeartbeats 16000000 in
set_option maxRecDepth 100000 in
theorem LineCuts_long (k : List UInt8) (hk : k.length = 38) (M : List Nat) (hM : H.okW M) (B T : List UInt8) (q : Bool) (T2 : ByteArray) (w : World) (hr : ref B.length k T.length = 0) (hT2 : T2.size ≤ 140737488355328) (hs : 4096 < T.length + T2.size) :
    Calls Tryd.prog 4 #[.agg #[.string (bs B), .bool q], .agg (bcells k).toArray, .agg (H.ucells M).toArray, .string (bs T), .string T2] w fun e w' => e = .returned (.bool true) ∧ Below w.heap.size w w' := by
  have HT := Hid.mk' (fun W => type_call k hk M hM B T q W _ _ _ ((typeT_form k M B T q).elim (fun h => h.2) (fun h => absurd hr h.1)) rfl rfl)
  have HLV := Hid.mk' lives_any
  have HSK := Hid.mk' (K.sizeKV k hk)
  have HSM := Hid.mk' (H.sizeMV hM)
  have HSE : Hid ((Tryd.prog.info? 23).map (·.size) = some ([Value.string (bs B), Value.bool q]).length) := sizeE
  have hT := (ref_zero.1 hr).2.2
  have hsz := bs_size T
  have hs1 : (4096 : Int) < (T.length : Int) + (T2.size : Int) := by omega
  have hs2 : (T.length : Int) + (T2.size : Int) ≤ 9223372036854775807 := by omega
  generalize runS (KK k M) ⟨B, q, [], []⟩ T = s1 at *
  generalize bs s1.buf = X1 at *
  generalize bs s1.echo = X2 at *
  generalize bs B = X at *
  generalize bs T = T1 at *
  generalize bcells k = l at *
  generalize H.ucells M = m at *
  clear hr hk hM hs
  go_enter Tryd.func4, Tryd.ntmps4
  have HB_0 := Hid.mk' (Below.refl w.heap.size w)
  go_wp2_with (refine wpList_box ([.string X, .bool q]) 23 rfl _ rfl rfl ?_)
  intro w1 mw1
  have zw1 := mw1.lt
  have Hw1 : Below w.heap.size w w1 := mw1.below _ _ (Nat.le_refl _) (Below.refl _ _)
  have Xw1 := mw1.box
  have HB_w1 := Hid.mk' (HB_0.out.trans (Below.mono Hw1 HB_0.out.size))
  clear HB_0
  have be_w1 := Hid.mk' Xw1
  clear mw1 Hw1 Xw1
  go_wp2_with (refine wpList_box (l) 26 rfl _ rfl rfl ?_)
  intro w2 mw2
  have zw2 := mw2.lt
  have Hw2 : Below w1.heap.size w1 w2 := mw2.below _ _ (Nat.le_refl _) (Below.refl _ _)
  have Xw2 := mw2.box
  have HB_w2 := Hid.mk' (HB_w1.out.trans (Below.mono Hw2 HB_w1.out.size))
  have be_w2 := Hid.mk' (be_w1.out.later Hw2)
  clear HB_w1 be_w1
  have bk_w2 := Hid.mk' Xw2
  clear mw2 Hw2 Xw2
  go_wp2_with (refine wpList_box (m) 30 rfl _ rfl rfl ?_)
  intro w3 mw3
  have zw3 := mw3.lt
  have Hw3 : Below w2.heap.size w2 w3 := mw3.below _ _ (Nat.le_refl _) (Below.refl _ _)
  have Xw3 := mw3.box
  have HB_w3 := Hid.mk' (HB_w2.out.trans (Below.mono Hw3 HB_w2.out.size))
  have be_w3 := Hid.mk' (be_w2.out.later Hw3)
  have bk_w3 := Hid.mk' (bk_w2.out.later Hw3)
  clear HB_w2 be_w2 bk_w2
  have bm_w3 := Hid.mk' Xw3
  clear mw3 Hw3 Xw3
  go_wp2_with (first | (with_reducible refine wpList_load_box 23 23 ([.string X, .bool q]) w.heap.size _ Tryd.underlying23 rfl HSE.out be_w3.out rfl _ rfl rfl ?_) | (with_reducible refine wpList_load_box 26 26 (l) w1.heap.size _ Tryd.underlying26 rfl HSK.out bk_w3.out rfl _ rfl rfl ?_) | (with_reducible refine wpList_load_box 30 30 (m) w2.heap.size _ Tryd.underlying30 rfl HSM.out bm_w3.out rfl _ rfl rfl ?_))
  refine (HT.out _).mono ?_
  rintro e w4 ⟨al1, cl1, n1, hn1, rfl, ho1, hw4⟩
  have zw4 := hw4.size
  have HB_w4 := Hid.mk' (HB_w3.out.trans (Below.mono hw4 HB_w3.out.size))
  have be_w4 := Hid.mk' (be_w3.out.later hw4)
  have bk_w4 := Hid.mk' (bk_w3.out.later hw4)
  have bm_w4 := Hid.mk' (bm_w3.out.later hw4)
  clear HB_w3 be_w3 bk_w3 bm_w3
  clear hw4
  have ol_4 := Hid.mk' (ho1)
  go_wp2_with (first | (refine wpList_alloc [.string ⟨#[]⟩, .bool false] 23 zeroE rfl rfl ?_))
  intro w5 mw5
  have zw5 := mw5.lt
  have Yw5 := Hid.mk' mw5.box
  have HSw5 : Hid (∀ W', Stored w5 W' w4.heap.size 23 ([.string X1, .bool s1.q]) → Below w4.heap.size w4 W') := fun W' s' => s'.below _ _ (Nat.le_refl _) (mw5.below _ _ (Nat.le_refl _) (Below.refl _ _))
  clear mw5
  go_wp2_with (refine wpList_store_box 23 23 [.string ⟨#[]⟩, .bool false] ([.string X1, .bool s1.q]) w4.heap.size sizeE (edCells_one _ _) Yw5.out rfl rfl _ _ rfl rfl rfl ?_)
  intro w6 sw6
  have zw6 : w4.heap.size < w6.heap.size := sw6.box.lt
  have Hw6 := HSw5.out w6 sw6
  have Xw6 := sw6.box
  have HB_w6 := Hid.mk' (HB_w4.out.trans (Below.mono Hw6 HB_w4.out.size))
  have be_w6 := Hid.mk' (be_w4.out.later Hw6)
  have bk_w6 := Hid.mk' (bk_w4.out.later Hw6)
  have bm_w6 := Hid.mk' (bm_w4.out.later Hw6)
  have ol_w6 := Hid.mk' (ol_4.out.below Hw6)
  clear HB_w4 be_w4 bk_w4 bm_w4 ol_4
  have bx_w6 := Hid.mk' Xw6
  clear sw6 Hw6 Xw6 Yw5 HSw5 zw5
  go_wp2_with (fail)
  refine (HLV.out _).mono ?_
  rintro e w7 ⟨rfl, hw7⟩
  have zw7 := hw7.size
  have HB_w7 := Hid.mk' (HB_w6.out.trans (Below.mono hw7 HB_w6.out.size))
  have be_w7 := Hid.mk' (be_w6.out.later hw7)
  have bk_w7 := Hid.mk' (bk_w6.out.later hw7)
  have bm_w7 := Hid.mk' (bm_w6.out.later hw7)
  have ol_w7 := Hid.mk' (ol_w6.out.below hw7)
  have bx_w7 := Hid.mk' (bx_w6.out.later hw7)
  clear HB_w6 be_w6 bk_w6 bm_w6 ol_w6 bx_w6
  clear hw7
  go_wp2_with (fail)
  refine (HLV.out _).mono ?_
  rintro e w8 ⟨rfl, hw8⟩
  have zw8 := hw8.size
  have HB_w8 := Hid.mk' (HB_w7.out.trans (Below.mono hw8 HB_w7.out.size))
  have be_w8 := Hid.mk' (be_w7.out.later hw8)
  have bk_w8 := Hid.mk' (bk_w7.out.later hw8)
  have bm_w8 := Hid.mk' (bm_w7.out.later hw8)
  have ol_w8 := Hid.mk' (ol_w7.out.below hw8)
  have bx_w8 := Hid.mk' (bx_w7.out.later hw8)
  clear HB_w7 be_w7 bk_w7 bm_w7 ol_w7 bx_w7
  clear hw8
  go_wp2
  go_ret
  exact ⟨rfl, HB_w8.out⟩

set_option maxHeartbeats 32000000 in
set_option maxRecDepth 100000 in
theorem LineCuts_ok (k : List UInt8) (hk : k.length = 38) (M : List Nat) (hM : H.okW M) (B T T2 : List UInt8) (q : Bool) (w : World) (hr : ref B.length k T.length = 0) (hs : T.length + T2.length ≤ 4096) :
    Calls Tryd.prog 4 #[.agg #[.string (bs B), .bool q], .agg (bcells k).toArray, .agg (H.ucells M).toArray, .string (bs T), .string (bs T2)] w fun e w' => e = .returned (.bool true) ∧ Below w.heap.size w w' := by
  obtain ⟨hB, hc, hT⟩ := ref_zero.1 hr
  have ht1 : typeT k M B q T = (runS (KK k M) ⟨B, q, [], []⟩ T, 0) := (typeT_form k M B T q).elim (fun h => h.2) (fun h => absurd hr h.1)
  have hB1 := runS_small (KK k M) B q T hB
  have hr2 : ref (runS (KK k M) ⟨B, q, [], []⟩ T).buf.length k T2.length = 0 := ref_zero.2 ⟨hB1, hc, by omega⟩
  have ht2 : typeT k M (runS (KK k M) ⟨B, q, [], []⟩ T).buf (runS (KK k M) ⟨B, q, [], []⟩ T).q T2 = (runS (KK k M) ⟨(runS (KK k M) ⟨B, q, [], []⟩ T).buf, (runS (KK k M) ⟨B, q, [], []⟩ T).q, [], []⟩ T2, 0) := (typeT_form k M _ T2 _).elim (fun h => h.2) (fun h => absurd hr2 h.1)
  have hr3 : ref B.length k (T ++ T2).length = 0 := ref_zero.2 ⟨hB, hc, by rw [List.length_append]; omega⟩
  have ht3 : typeT k M B q (T ++ T2) = (runS (KK k M) ⟨B, q, [], []⟩ (T ++ T2), 0) := (typeT_form k M B (T ++ T2) q).elim (fun h => h.2) (fun h => absurd hr3 h.1)
  rw [runS_two] at ht3
  have hm1 := runS_room (KK k M) B q hB T
  have hm2 := runS_room (KK k M) (runS (KK k M) ⟨B, q, [], []⟩ T).buf (runS (KK k M) ⟨B, q, [], []⟩ T).q hB1 T2
  generalize hg1 : runS (KK k M) ⟨B, q, [], []⟩ T = s1 at *
  generalize hg2 : runS (KK k M) ⟨s1.buf, s1.q, [], []⟩ T2 = s2 at *
  clear hg1 hg2
  have HT1 := Hid.mk' (fun W => type_call k hk M hM B T q W _ _ _ ht1 rfl rfl)
  have HT2 := Hid.mk' (fun W => type_call k hk M hM s1.buf T2 s1.q W _ _ _ ht2 rfl rfl)
  have HT3 : Hid (∀ W, Calls Tryd.prog 9 #[.agg #[.string (bs B), .bool q], .agg (bcells k).toArray, .agg (H.ucells M).toArray, .string (bs T ++ bs T2)] W fun e w' => ∃ al cl n, Hid (n = (s1.ls ++ s2.ls).length) ∧ e = .returned (.tuple #[.agg #[.string (bs s2.buf), .bool s2.q], .slice al n cl, .string (bs s1.echo ++ bs s2.echo), .int .i64 0]) ∧ OwnL w' W.heap.size al cl (s1.ls ++ s2.ls) ∧ Below W.heap.size W w') := fun W => by
    rw [bs_app T T2]
    exact type_call k hk M hM B (T ++ T2) q W _ _ _ ht3 rfl (bs_app _ _).symm
  have HLV := Hid.mk' lives_any
  have HSK := Hid.mk' (K.sizeKV k hk)
  have HSM := Hid.mk' (H.sizeMV hM)
  have HSE : Hid ((Tryd.prog.info? 23).map (·.size) = some ([Value.string (bs B), Value.bool q]).length) := sizeE
  have HSE1 : Hid ((Tryd.prog.info? 23).map (·.size) = some ([Value.string (bs s1.buf), Value.bool s1.q]).length) := sizeE
  have HLN : Hid (s1.ls.length ≤ 4096 ∧ s2.ls.length ≤ 4096) := ⟨by have := hm1.2.1; omega, by have := hm2.2.1; omega⟩
  have HCL : Hid (∀ W v, RdS W v (s1.ls.map bs) → Calls Tryd.prog 14 #[v] W fun e w' => ∃ ad cap nc, Hid (nc = s1.ls.length) ∧ e = .returned (.slice ad nc cap) ∧ OwnL w' W.heap.size ad cap s1.ls ∧ Below W.heap.size W w') := fun W v h => by
    refine (Clone_any W v (s1.ls.map bs) h (by rw [List.length_map]; have := HLN.out; omega)).mono fun e w' h2 => ?_
    obtain ⟨ad, cap, e1, e2, e3⟩ := h2
    exact ⟨ad, cap, _, List.length_map _, e1, own_of e2, e3⟩
  have HEQ := Hid.mk' (fun W v1 v2 h1 h2 => Equal_same W v1 v2 ((s1.ls ++ s2.ls).map bs) h1 h2 (by rw [List.length_map, List.length_append]; have := HLN.out; omega))
  have hsz := bs_size T
  have hsz2 := bs_size T2
  have hsx := bs_size s1.echo
  have hsy := bs_size s2.echo
  have g1 : ¬ (4096 : Int) < (T.length : Int) + (T2.length : Int) := by omega
  have g2 : (T.length : Int) + (T2.length : Int) ≤ 9223372036854775807 := by omega
  have g3 : T.length + T2.length ≤ 9223372036854775807 := by omega
  have g4 : ¬ 9223372036854775807 < T.length + T2.length := by omega
  have hm3 := hm1.2.2
  have hm4 := hm2.2.2
  have g5 : s1.echo.length + s2.echo.length ≤ 9223372036854775807 := by omega
  have g6 : ¬ 9223372036854775807 < s1.echo.length + s2.echo.length := by omega
  clear hm1 hm2 hm3 hm4
  generalize bs s1.buf = X1 at *
  generalize bs s1.echo = E1 at *
  generalize bs s2.buf = X2 at *
  generalize bs s2.echo = E2 at *
  generalize bs B = X at *
  generalize bs T = A1 at *
  generalize bs T2 = A2 at *
  generalize bcells k = l at *
  generalize H.ucells M = m at *
  clear hr hr2 hr3 ht1 ht2 ht3 hB hB1 hc hk hM hs hT
  go_enter Tryd.func4, Tryd.ntmps4
  have HB_0 := Hid.mk' (Below.refl w.heap.size w)
  go_wp2_with (refine wpList_box ([.string X, .bool q]) 23 rfl _ rfl rfl ?_)
  intro w1 mw1
  have zw1 := mw1.lt
  have Hw1 : Below w.heap.size w w1 := mw1.below _ _ (Nat.le_refl _) (Below.refl _ _)
  have Xw1 := mw1.box
  have HB_w1 := Hid.mk' (HB_0.out.trans (Below.mono Hw1 HB_0.out.size))
  clear HB_0
  have be_w1 := Hid.mk' Xw1
  clear mw1 Hw1 Xw1
  go_wp2_with (refine wpList_box (l) 26 rfl _ rfl rfl ?_)
  intro w2 mw2
  have zw2 := mw2.lt
  have Hw2 : Below w1.heap.size w1 w2 := mw2.below _ _ (Nat.le_refl _) (Below.refl _ _)
  have Xw2 := mw2.box
  have HB_w2 := Hid.mk' (HB_w1.out.trans (Below.mono Hw2 HB_w1.out.size))
  have be_w2 := Hid.mk' (be_w1.out.later Hw2)
  clear HB_w1 be_w1
  have bk_w2 := Hid.mk' Xw2
  clear mw2 Hw2 Xw2
  go_wp2_with (refine wpList_box (m) 30 rfl _ rfl rfl ?_)
  intro w3 mw3
  have zw3 := mw3.lt
  have Hw3 : Below w2.heap.size w2 w3 := mw3.below _ _ (Nat.le_refl _) (Below.refl _ _)
  have Xw3 := mw3.box
  have HB_w3 := Hid.mk' (HB_w2.out.trans (Below.mono Hw3 HB_w2.out.size))
  have be_w3 := Hid.mk' (be_w2.out.later Hw3)
  have bk_w3 := Hid.mk' (bk_w2.out.later Hw3)
  clear HB_w2 be_w2 bk_w2
  have bm_w3 := Hid.mk' Xw3
  clear mw3 Hw3 Xw3
  go_wp2_with (first | (with_reducible refine wpList_load_box 23 23 ([.string X, .bool q]) w.heap.size _ Tryd.underlying23 rfl HSE.out be_w3.out rfl _ rfl rfl ?_) | (with_reducible refine wpList_load_box 26 26 (l) w1.heap.size _ Tryd.underlying26 rfl HSK.out bk_w3.out rfl _ rfl rfl ?_) | (with_reducible refine wpList_load_box 30 30 (m) w2.heap.size _ Tryd.underlying30 rfl HSM.out bm_w3.out rfl _ rfl rfl ?_))
  refine (HT1.out _).mono ?_
  rintro e w4 ⟨al1, cl1, n1, hn1, rfl, ho1, hw4⟩
  have zw4 := hw4.size
  have HB_w4 := Hid.mk' (HB_w3.out.trans (Below.mono hw4 HB_w3.out.size))
  have be_w4 := Hid.mk' (be_w3.out.later hw4)
  have bk_w4 := Hid.mk' (bk_w3.out.later hw4)
  have bm_w4 := Hid.mk' (bm_w3.out.later hw4)
  clear HB_w3 be_w3 bk_w3 bm_w3
  clear hw4
  have ol1_4 := Hid.mk' (ho1)
  go_wp2_with (first | (refine wpList_alloc [.string ⟨#[]⟩, .bool false] 23 zeroE rfl rfl ?_))
  intro w5 mw5
  have zw5 := mw5.lt
  have Yw5 := Hid.mk' mw5.box
  have HSw5 : Hid (∀ W', Stored w5 W' w4.heap.size 23 ([.string X1, .bool s1.q]) → Below w4.heap.size w4 W') := fun W' s' => s'.below _ _ (Nat.le_refl _) (mw5.below _ _ (Nat.le_refl _) (Below.refl _ _))
  clear mw5
  go_wp2_with (refine wpList_store_box 23 23 [.string ⟨#[]⟩, .bool false] ([.string X1, .bool s1.q]) w4.heap.size sizeE (edCells_one _ _) Yw5.out rfl rfl _ _ rfl rfl rfl ?_)
  intro w6 sw6
  have zw6 : w4.heap.size < w6.heap.size := sw6.box.lt
  have Hw6 := HSw5.out w6 sw6
  have Xw6 := sw6.box
  have HB_w6 := Hid.mk' (HB_w4.out.trans (Below.mono Hw6 HB_w4.out.size))
  have be_w6 := Hid.mk' (be_w4.out.later Hw6)
  have bk_w6 := Hid.mk' (bk_w4.out.later Hw6)
  have bm_w6 := Hid.mk' (bm_w4.out.later Hw6)
  have ol1_w6 := Hid.mk' (ol1_4.out.below Hw6)
  clear HB_w4 be_w4 bk_w4 bm_w4 ol1_4
  have bx_w6 := Hid.mk' Xw6
  clear sw6 Hw6 Xw6 Yw5 HSw5 zw5
  go_wp2_with (fail)
  refine (HLV.out _).mono ?_
  rintro e w7 ⟨rfl, hw7⟩
  have zw7 := hw7.size
  have HB_w7 := Hid.mk' (HB_w6.out.trans (Below.mono hw7 HB_w6.out.size))
  have be_w7 := Hid.mk' (be_w6.out.later hw7)
  have bk_w7 := Hid.mk' (bk_w6.out.later hw7)
  have bm_w7 := Hid.mk' (bm_w6.out.later hw7)
  have ol1_w7 := Hid.mk' (ol1_w6.out.below hw7)
  have bx_w7 := Hid.mk' (bx_w6.out.later hw7)
  clear HB_w6 be_w6 bk_w6 bm_w6 ol1_w6 bx_w6
  clear hw7
  go_wp2_with (first | (with_reducible refine wpList_load_box 23 23 ([.string X, .bool q]) w.heap.size _ Tryd.underlying23 rfl HSE.out be_w7.out rfl _ rfl rfl ?_) | (with_reducible refine wpList_load_box 26 26 (l) w1.heap.size _ Tryd.underlying26 rfl HSK.out bk_w7.out rfl _ rfl rfl ?_) | (with_reducible refine wpList_load_box 30 30 (m) w2.heap.size _ Tryd.underlying30 rfl HSM.out bm_w7.out rfl _ rfl rfl ?_) | (with_reducible refine wpList_load_box 23 23 ([.string X1, .bool s1.q]) w4.heap.size _ Tryd.underlying23 rfl HSE1.out bx_w7.out rfl _ rfl rfl ?_))
  refine (HT2.out _).mono ?_
  rintro e w8 ⟨al2, cl2, n2, hn2, rfl, ho2, hw8⟩
  have zw8 := hw8.size
  have HB_w8 := Hid.mk' (HB_w7.out.trans (Below.mono hw8 HB_w7.out.size))
  have be_w8 := Hid.mk' (be_w7.out.later hw8)
  have bk_w8 := Hid.mk' (bk_w7.out.later hw8)
  have bm_w8 := Hid.mk' (bm_w7.out.later hw8)
  have ol1_w8 := Hid.mk' (ol1_w7.out.below hw8)
  have bx_w8 := Hid.mk' (bx_w7.out.later hw8)
  clear HB_w7 be_w7 bk_w7 bm_w7 ol1_w7 bx_w7
  clear hw8
  have ol2_8 := Hid.mk' (ho2)
  go_wp2_with (first | (refine wpList_alloc [.string ⟨#[]⟩, .bool false] 23 zeroE rfl rfl ?_))
  intro w9 mw9
  have zw9 := mw9.lt
  have Yw9 := Hid.mk' mw9.box
  have HSw9 : Hid (∀ W', Stored w9 W' w8.heap.size 23 ([.string X2, .bool s2.q]) → Below w8.heap.size w8 W') := fun W' s' => s'.below _ _ (Nat.le_refl _) (mw9.below _ _ (Nat.le_refl _) (Below.refl _ _))
  clear mw9
  go_wp2_with (refine wpList_store_box 23 23 [.string ⟨#[]⟩, .bool false] ([.string X2, .bool s2.q]) w8.heap.size sizeE (edCells_one _ _) Yw9.out rfl rfl _ _ rfl rfl rfl ?_)
  intro w10 sw10
  have zw10 : w8.heap.size < w10.heap.size := sw10.box.lt
  have Hw10 := HSw9.out w10 sw10
  have Xw10 := sw10.box
  have HB_w10 := Hid.mk' (HB_w8.out.trans (Below.mono Hw10 HB_w8.out.size))
  have be_w10 := Hid.mk' (be_w8.out.later Hw10)
  have bk_w10 := Hid.mk' (bk_w8.out.later Hw10)
  have bm_w10 := Hid.mk' (bm_w8.out.later Hw10)
  have ol1_w10 := Hid.mk' (ol1_w8.out.below Hw10)
  have bx_w10 := Hid.mk' (bx_w8.out.later Hw10)
  have ol2_w10 := Hid.mk' (ol2_8.out.below Hw10)
  clear HB_w8 be_w8 bk_w8 bm_w8 ol1_w8 bx_w8 ol2_8
  have by_w10 := Hid.mk' Xw10
  clear sw10 Hw10 Xw10 Yw9 HSw9 zw9
  go_wp2_with (first | (with_reducible refine wpList_load_box 23 23 ([.string X, .bool q]) w.heap.size _ Tryd.underlying23 rfl HSE.out be_w10.out rfl _ rfl rfl ?_) | (with_reducible refine wpList_load_box 26 26 (l) w1.heap.size _ Tryd.underlying26 rfl HSK.out bk_w10.out rfl _ rfl rfl ?_) | (with_reducible refine wpList_load_box 30 30 (m) w2.heap.size _ Tryd.underlying30 rfl HSM.out bm_w10.out rfl _ rfl rfl ?_) | (with_reducible refine wpList_load_box 23 23 ([.string X1, .bool s1.q]) w4.heap.size _ Tryd.underlying23 rfl HSE1.out bx_w10.out rfl _ rfl rfl ?_))
  refine (HT3.out _).mono ?_
  rintro e w11 ⟨al3, cl3, n3, hn3, rfl, ho3, hw11⟩
  have zw11 := hw11.size
  have HB_w11 := Hid.mk' (HB_w10.out.trans (Below.mono hw11 HB_w10.out.size))
  have be_w11 := Hid.mk' (be_w10.out.later hw11)
  have bk_w11 := Hid.mk' (bk_w10.out.later hw11)
  have bm_w11 := Hid.mk' (bm_w10.out.later hw11)
  have ol1_w11 := Hid.mk' (ol1_w10.out.below hw11)
  have bx_w11 := Hid.mk' (bx_w10.out.later hw11)
  have ol2_w11 := Hid.mk' (ol2_w10.out.below hw11)
  have by_w11 := Hid.mk' (by_w10.out.later hw11)
  clear HB_w10 be_w10 bk_w10 bm_w10 ol1_w10 bx_w10 ol2_w10 by_w10
  clear hw11
  have ol3_11 := Hid.mk' (ho3)
  go_wp2_with (first | (refine wpList_alloc [.string ⟨#[]⟩, .bool false] 23 zeroE rfl rfl ?_))
  intro w12 mw12
  have zw12 := mw12.lt
  have Yw12 := Hid.mk' mw12.box
  have HSw12 : Hid (∀ W', Stored w12 W' w11.heap.size 23 ([.string X2, .bool s2.q]) → Below w11.heap.size w11 W') := fun W' s' => s'.below _ _ (Nat.le_refl _) (mw12.below _ _ (Nat.le_refl _) (Below.refl _ _))
  clear mw12
  go_wp2_with (refine wpList_store_box 23 23 [.string ⟨#[]⟩, .bool false] ([.string X2, .bool s2.q]) w11.heap.size sizeE (edCells_one _ _) Yw12.out rfl rfl _ _ rfl rfl rfl ?_)
  intro w13 sw13
  have zw13 : w11.heap.size < w13.heap.size := sw13.box.lt
  have Hw13 := HSw12.out w13 sw13
  have Xw13 := sw13.box
  have HB_w13 := Hid.mk' (HB_w11.out.trans (Below.mono Hw13 HB_w11.out.size))
  have be_w13 := Hid.mk' (be_w11.out.later Hw13)
  have bk_w13 := Hid.mk' (bk_w11.out.later Hw13)
  have bm_w13 := Hid.mk' (bm_w11.out.later Hw13)
  have ol1_w13 := Hid.mk' (ol1_w11.out.below Hw13)
  have bx_w13 := Hid.mk' (bx_w11.out.later Hw13)
  have ol2_w13 := Hid.mk' (ol2_w11.out.below Hw13)
  have by_w13 := Hid.mk' (by_w11.out.later Hw13)
  have ol3_w13 := Hid.mk' (ol3_11.out.below Hw13)
  clear HB_w11 be_w11 bk_w11 bm_w11 ol1_w11 bx_w11 ol2_w11 by_w11 ol3_11
  have bz_w13 := Hid.mk' Xw13
  clear sw13 Hw13 Xw13 Yw12 HSw12 zw12
  have e0 := by_w13.out.cell (j := 0) rfl
  have e1 := by_w13.out.cell (j := 1) rfl
  have e2 := bz_w13.out.cell (j := 0) rfl
  have e3 := bz_w13.out.cell (j := 1) rfl
  have HR1 : Hid (RdS w13 (.slice al1 n1 cl1) (s1.ls.map bs)) := rd_n hn1.out (by rw [hn1.out]; exact ol1_w13.out)
  go_wp2_with fail
  refine (HCL.out _ _ HR1.out).mono ?_
  rintro e wc ⟨alc, clc, nc, hnc, rfl, hoc, hbc⟩
  have HOC := Hid.mk' hoc
  have HBC := Hid.mk' hbc
  have zc := hbc.size
  have HR2 : Hid (RdS wc (.slice al2 n2 cl2) (s2.ls.map bs)) := (rd_n hn2.out (by rw [hn2.out]; exact ol2_w13.out)).below hbc
  clear hoc hbc
  go_wp2_with (refine wpList_lines rfl _ _ rfl _ alc nc clc s1.ls rfl hnc.out HOC.out (.slice al2 n2 cl2) rfl s2.ls.length s2.ls (src_rd HR2.out) (by have := HLN.out; omega) (by omega) ?_)
  intro al4 n4 cl4 wd hn4 ho4 hb4
  have HBD := Hid.mk' (hb4 w13.heap.size w13 (Nat.le_refl _) HBC.out)
  have HR4 := Hid.mk' (rd_n (by rw [List.length_append]; exact hn4.out) ho4.out)
  have HR3 : Hid (RdS wd (.slice al3 n3 cl3) ((s1.ls ++ s2.ls).map bs)) := (rd_n (by first | exact hn3.out | (rw [List.length_append]; exact hn3.out)) (by have h := ol3_w13.out; unfold OwnL at h; rw [hn3.out]; exact h)).below HBD.out
  have HF := Hid.mk' (HB_w13.out.trans (Below.mono HBD.out HB_w13.out.size))
  clear ho4 hb4 HR2 HR1 HOC HBC
  go_wp2_with fail
  refine (HEQ.out _ _ _ HR3.out HR4.out).mono ?_
  rintro e wf ⟨rfl, nq, rfl⟩
  go_wp2
  go_ret
  exact ⟨rfl, below_drewN HF.out _⟩

theorem LineCuts_any (k : List UInt8) (hk : k.length = 38) (M : List Nat) (hM : H.okW M) (B T T2 : List UInt8) (q : Bool) (w : World) (hT2 : T2.length ≤ 140737488355328) :
    Calls Tryd.prog 4 #[EV (bs B) q, K.KV k, H.MV M, .string (bs T), .string (bs T2)] w fun e w' => e = .returned (.bool true) ∧ Below w.heap.size w w' := by
  by_cases hr : ref B.length k T.length = 0
  · by_cases hs : T.length + T2.length ≤ 4096
    · exact LineCuts_ok k hk M hM B T T2 q w hr hs
    · exact LineCuts_long k hk M hM B T q (bs T2) w hr (by rw [bs_size]; exact hT2) (by rw [bs_size]; omega)
  · exact LineCuts_bad k hk M hM B T q (bs T2) w hr
end Go.Proofs.YtomgnnbcaficaaaDoor.L
