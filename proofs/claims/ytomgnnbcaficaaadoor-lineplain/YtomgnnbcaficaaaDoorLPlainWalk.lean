/-
  The walk of farkeep.LinePlain; conditions: Keys of 38 bytes, a set of four words of 64 bits.
-/
import Derived.Test.YtomgnnbcaficaaaDoorLEnds
import Derived.Test.YtomgnnbcaficaaaDoorLJoin
import Derived.Deep.RegionHeld3
import Derived.BigQuiet
namespace Go.Proofs.YtomgnnbcaficaaaDoor.L
open Go.RowKit Go.Lib Go.Proofs.YtomgnnbcaficaaaDoor Go.Proofs.YtomgnnbcaficaaaDoor.W Go.Proofs.YtomgnnbcaficaaaDoor.Q

theorem exec_loadKp (ρ : Operand → Value) (x : Operand) (dst : Option Tmp) (t : TypeId) (pos : String) (af : Array Edge) (g : Option (Nat × Bool)) (w : World) (h : Lies w (ρ x) 38) :
    (execOp ρ { dst := dst, op := .load 26 x, type := t, pos := pos, after := af, guard := g }).run Tryd.prog w = .ok (.value (.agg (Q.rowAt w (ρ x) 38).toArray)) w :=
  exec_load 26 38 _ Tryd.underlying26 rfl K.sizeK ρ x dst t pos af g w h
/-- lines put behind lines that the call owns, at one operation -/
theorem oper_lines {w : World} {o : Oper} {a : Act} {ops : Array Oper} {Q : Exit → Act → World → Prop} {K : Act → World → Prop} {X : Prop} (hwd : Region.wanted o (yielded ops a.tmps) = true) (sl x : Operand)
    (ho : o.op = .call { callee := .builtin .append, args := #[sl, x], argTypes := #[31, 31] }) (base : Nat) (al : Option Addr) (n cl : Nat) (l : List (List UInt8)) (hsl : a.eval sl = .slice al n cl) (hn : n = l.length) (hown : OwnL w base al cl l)
    (xv : Value) (hx : a.eval x = xv) (m : Nat) (l2 : List (List UInt8)) (hS : Src Tryd.prog 1 31 xv m (scells l2) w) (hlen : l.length + l2.length ≤ 1000000000) (hbase : base ≤ w.heap.size)
    (next : ∀ al' n' cl' w', Hid (n' = (l ++ l2).length) → Hid (OwnR w' base 9 1 (.slice al' n' cl') n' (scells (l ++ l2))) → (∀ B W, B ≤ base → Below B W w → Below B W w') → K (a.put o.dst (.slice al' n' cl')) w') : if Region.wanted o (yielded ops a.tmps) = true then Oper.wp Tryd.prog o a w K Q else X := by
  subst hn
  obtain ⟨i0, hi, hz0, hz1, hz2⟩ := info_parts infoString
  have hm : m = l2.length := by have := hS.newsLen; rw [scells_length] at this; omega
  obtain ⟨al', cl', w', hr, hA⟩ := run_append_1 (P := Tryd.prog) w 31 31 o.type base 9 i0 (.string ⟨#[]⟩) 16 Tryd.underlying31 hi hz0 hz1 hz2 rfl al l.length cl (scells l) hown xv m (scells l2) hS (by unfold maxLen; omega) (by omega) hbase
  rw [← scells_app] at hA
  rw [if_pos hwd]
  unfold Oper.wp execOp
  simp only [ho, resolve, invoke, builtin, Sem.run_bind, Sem.run_pure, Result.andThen_ok, List.map_toArray, List.map_cons, List.map_nil, hsl, hx, hr]
  refine next al' (l.length + m) cl' w' (by rw [Hid, List.length_append, hm]) hA.own fun B W hB hBW => hBW.grown hA.grown (by omega) (fun g hg => ?_)
  have := (hown.lt g (by rw [ownBlock_slice]; exact hg)).1
  omega
theorem open_inner {K : Ks} {l : List UInt8} (h : open' K l) : inner K l := fun _ _ x hx => h x (List.mem_of_getElem? hx)

theorem join_flat (l : List (List UInt8)) : Lib.join l [] = l.flatten := by
  cases l with
  | nil => rfl
  | cons x r =>
    rw [Lib.join_cons]
    unfold Lib.joinTail
    simp
theorem map_bs (l : List (List UInt8)) : (l.map bs).map (fun x => x.data.toList) = l := by
  rw [List.map_map]
  exact List.map_id'' (fun x => rfl) l
theorem Join_any (L : List (List UInt8)) (W : World) (al : Option Addr) (c : Nat) (h : RdS W (.slice al L.length c) (L.map bs)) (h1 : L.flatten.length ≤ 140737488355328) (h2 : L.length ≤ 140737488355328) :
    Calls Tryd.prog 19 #[.slice al L.length c, .string { data := #[] }] W fun e w' => e = .returned (.string (bs L.flatten)) ∧ Below W.heap.size W w' := by
  obtain ⟨a', c', e, hc, hr⟩ := h
  simp only [Value.slice.injEq, List.length_map] at e
  obtain ⟨rfl, _, rfl⟩ := e
  rcases hr with h0 | ⟨b, off, rfl, ht, hb⟩
  · obtain rfl : L = [] := List.map_eq_nil_iff.1 h0
    exact (Tryd.strings_Join_none al c { data := #[] } W).mono fun e w' h => ⟨h.1, h.2 ▸ Below.refl _ _⟩
  · have hj := Tryd.strings_Join b off c (L.map bs) { data := #[] } W (fun j x hx => by
      obtain ⟨hl, rfl⟩ := List.getElem?_eq_some_iff.1 hx
      exact ht j hl) hb (by rw [List.length_map]; exact h2) (by rw [List.length_map]; rw [List.length_map] at hc; exact hc) (by rw [map_bs, show ({ data := #[] } : ByteArray).data.toList = [] from rfl, join_flat]; exact h1)
    rw [map_bs, show ({ data := #[] } : ByteArray).data.toList = [] from rfl, join_flat, List.length_map] at hj
    exact hj

set_option maxHeartbeats 16000000 in
set_option maxRecDepth 100000 in
theorem LinePlain_bad (k : List UInt8) (hk : k.length = 38) (M : List Nat) (hM : H.okW M) (T : List UInt8) (w : World) (hr : ref 0 k T.length ≠ 0) :
    Calls Tryd.prog 5 #[.agg (bcells k).toArray, .agg (H.ucells M).toArray, .string (bs T)] w fun e w' => e = .returned (.bool true) ∧ Below w.heap.size w w' := by
  have HT := Hid.mk' (fun W => type_call k hk M hM [] T false W (bs []) (bs []) (⟨[], false, [], []⟩, ref 0 k T.length) ((typeT_form k M [] T false).elim (fun h => absurd h.1 hr) (fun h => h.2)) rfl rfl)
  have HLV := Hid.mk' lives_any
  have HSK := Hid.mk' (K.sizeKV k hk)
  have HSM := Hid.mk' (H.sizeMV hM)
  have HE : Hid (∀ w, (Instr.build 23 #[]).run Tryd.prog w = .ok (.agg [.string (bs []), .bool false].toArray) w) := fun w => buildE w
  have hr1 : (ref 0 k T.length != 0) = true := bne_iff_ne.2 hr
  generalize ref 0 k T.length = r at *
  generalize bs T = T1 at *
  generalize bs [] = X at *
  generalize bcells k = l at *
  generalize H.ucells M = m at *
  clear hr hk hM
  go_enter Tryd.func5, Tryd.ntmps5
  have HB_0 := Hid.mk' (Below.refl w.heap.size w)
  go_wp2_with (refine wpList_box (l) 26 rfl _ rfl rfl ?_)
  intro w1 mw1
  have zw1 := mw1.lt
  have Hw1 : Below w.heap.size w w1 := mw1.below _ _ (Nat.le_refl _) (Below.refl _ _)
  have Xw1 := mw1.box
  have HB_w1 := Hid.mk' (HB_0.out.trans (Below.mono Hw1 HB_0.out.size))
  clear HB_0
  have bk_w1 := Hid.mk' Xw1
  clear mw1 Hw1 Xw1
  go_wp2_with (refine wpList_box (m) 30 rfl _ rfl rfl ?_)
  intro w2 mw2
  have zw2 := mw2.lt
  have Hw2 : Below w1.heap.size w1 w2 := mw2.below _ _ (Nat.le_refl _) (Below.refl _ _)
  have Xw2 := mw2.box
  have HB_w2 := Hid.mk' (HB_w1.out.trans (Below.mono Hw2 HB_w1.out.size))
  have bk_w2 := Hid.mk' (bk_w1.out.later Hw2)
  clear HB_w1 bk_w1
  have bm_w2 := Hid.mk' Xw2
  clear mw2 Hw2 Xw2
  go_wp2_with (first | (with_reducible refine wpList_load_box 26 26 (l) w.heap.size _ Tryd.underlying26 rfl HSK.out bk_w2.out rfl _ rfl rfl ?_) | (with_reducible refine wpList_load_box 30 30 (m) w1.heap.size _ Tryd.underlying30 rfl HSM.out bm_w2.out rfl _ rfl rfl ?_) | (refine wpList_build0 [.string X, .bool false] 23 (HE.out _) rfl rfl ?_))
  refine (HT.out _).mono ?_
  rintro e w3 ⟨al1, cl1, n1, hn1, rfl, ho1, hw3⟩
  have zw3 := hw3.size
  have HB_w3 := Hid.mk' (HB_w2.out.trans (Below.mono hw3 HB_w2.out.size))
  have bk_w3 := Hid.mk' (bk_w2.out.later hw3)
  have bm_w3 := Hid.mk' (bm_w2.out.later hw3)
  clear HB_w2 bk_w2 bm_w2
  clear hw3
  go_wp2_with (first | (refine wpList_alloc [.string ⟨#[]⟩, .bool false] 23 zeroE rfl rfl ?_))
  intro w4 mw4
  have zw4 := mw4.lt
  have Yw4 := Hid.mk' mw4.box
  have HSw4 : Hid (∀ W', Stored w4 W' w3.heap.size 23 ([.string X, .bool false]) → Below w3.heap.size w3 W') := fun W' s' => s'.below _ _ (Nat.le_refl _) (mw4.below _ _ (Nat.le_refl _) (Below.refl _ _))
  clear mw4
  go_wp2_with (refine wpList_store_box 23 23 [.string ⟨#[]⟩, .bool false] ([.string X, .bool false]) w3.heap.size sizeE (edCells_one _ _) Yw4.out rfl rfl _ _ rfl rfl rfl ?_)
  intro w5 sw5
  have zw5 : w3.heap.size < w5.heap.size := sw5.box.lt
  have Hw5 := HSw4.out w5 sw5
  have Xw5 := sw5.box
  have HB_w5 := Hid.mk' (HB_w3.out.trans (Below.mono Hw5 HB_w3.out.size))
  have bk_w5 := Hid.mk' (bk_w3.out.later Hw5)
  have bm_w5 := Hid.mk' (bm_w3.out.later Hw5)
  clear HB_w3 bk_w3 bm_w3
  have bx_w5 := Hid.mk' Xw5
  clear sw5 Hw5 Xw5 Yw4 HSw4 zw4
  go_wp2_with (fail)
  refine (HLV.out _).mono ?_
  rintro e w6 ⟨rfl, hw6⟩
  have zw6 := hw6.size
  have HB_w6 := Hid.mk' (HB_w5.out.trans (Below.mono hw6 HB_w5.out.size))
  have bk_w6 := Hid.mk' (bk_w5.out.later hw6)
  have bm_w6 := Hid.mk' (bm_w5.out.later hw6)
  have bx_w6 := Hid.mk' (bx_w5.out.later hw6)
  clear HB_w5 bk_w5 bm_w5 bx_w5
  clear hw6
  go_wp2_with (fail)
  refine (HLV.out _).mono ?_
  rintro e w7 ⟨rfl, hw7⟩
  have zw7 := hw7.size
  have HB_w7 := Hid.mk' (HB_w6.out.trans (Below.mono hw7 HB_w6.out.size))
  have bk_w7 := Hid.mk' (bk_w6.out.later hw7)
  have bm_w7 := Hid.mk' (bm_w6.out.later hw7)
  have bx_w7 := Hid.mk' (bx_w6.out.later hw7)
  clear HB_w6 bk_w6 bm_w6 bx_w6
  clear hw7
  go_wp2
  go_ret
  exact ⟨rfl, HB_w7.out⟩

set_option maxHeartbeats 32000000 in
set_option maxRecDepth 100000 in
theorem LinePlain_ok (k : List UInt8) (hk : k.length = 38) (M : List Nat) (hM : H.okW M) (T : List UInt8) (w : World) (hr : ref 0 k T.length = 0) :
    Calls Tryd.prog 5 #[.agg (bcells k).toArray, .agg (H.ucells M).toArray, .string (bs T)] w fun e w' => e = .returned (.bool true) ∧ Below w.heap.size w w' := by
  obtain ⟨_, hc, hT⟩ := ref_zero.1 hr
  have ht1 : typeT k M [] false T = (runS (KK k M) ⟨[], false, [], []⟩ T, 0) := (typeT_form k M [] T false).elim (fun h => h.2) (fun h => absurd hr h.1)
  have hm1 := (runS_room (KK k M) [] false (by decide) T).2.1
  have HP : Hid ((∀ c ∈ T, sp k c = false) → (runS (KK k M) ⟨[], false, [], []⟩ T).ls.flatten ++ (runS (KK k M) ⟨[], false, [], []⟩ T).buf = T ∧ (runS (KK k M) ⟨[], false, [], []⟩ T).echo = T ∧ (runS (KK k M) ⟨[], false, [], []⟩ T).q = false ∧ (∀ t ∈ (runS (KK k M) ⟨[], false, [], []⟩ T).ls, whole (KK k M) t) ∧ open' (KK k M) (runS (KK k M) ⟨[], false, [], []⟩ T).buf) := fun h => by
    have h1 := run_plain (KK k M) T ⟨[], false⟩ rfl (fun b hb => sp_plain (h b hb))
    have h2 := run_lines (KK k M) T ⟨[], false⟩ rfl (fun x hx => by cases hx) (fun b hb => sp_plain (h b hb))
    exact ⟨h1.1, h1.2.1, h1.2.2, h2.1, h2.2⟩
  generalize runS (KK k M) ⟨[], false, [], []⟩ T = s1 at *
  have HT := Hid.mk' (fun W => type_call k hk M hM [] T false W _ _ _ ht1 rfl rfl)
  have HLV := Hid.mk' lives_any
  have HSK := Hid.mk' (K.sizeKV k hk)
  have HSM := Hid.mk' (H.sizeMV hM)
  have HKL : Hid ((bcells k).length = 38) := by rw [Hid, bcells_length, hk]
  have HE : Hid (∀ w, (Instr.build 23 #[]).run Tryd.prog w = .ok (.agg [.string (bs []), .bool false].toArray) w) := fun w => buildE w
  have HSP := Hid.mk' (fun c W => special_any k hk c W)
  have HEN := Hid.mk' (fun c bm bk W hBK hBM => ends_any k hk M hM c bm bk W hBK hBM)
  have HLN : Hid (s1.ls.length ≤ 4096) := by rw [Hid]; have : (0 : Nat) = ([] : List UInt8).length := rfl; omega
  have hsz := bs_size T
  have HGT : Hid (∀ n (h : n < T.length) (h2 : n < (bs T).size), (bs T)[n]'h2 = T[n]'h) := fun n h h2 => bs_get T n h h2
  have HTM : Hid (∀ n (h : n < T.length), (∀ c ∈ T.take n, sp k c = false) → sp k (T[n]'h) = false → ∀ c ∈ T.take (n + 1), sp k c = false) := fun n h h1 h2 c hc => by
    rw [List.take_succ_eq_append_getElem h] at hc
    rcases List.mem_append.1 hc with h3 | h3
    · exact h1 c h3
    · simp only [List.mem_singleton] at h3
      rw [h3]; exact h2
  have HTA : Hid (T.take T.length = T) := List.take_length
  have HTT : Hid (bs T = bs T) := rfl
  have g0 : (T.length : Int) ≤ 9223372036854775807 := by omega
  unfold KK at HP
  generalize hT1 : bs T = T1 at *
  have HT1 := Hid.mk' hT1
  clear hT1
  generalize hX : bs [] = X at *
  clear hX
  generalize bcells k = l at *
  generalize H.ucells M = m at *
  clear hr ht1 hc hk hM hm1
  go_enter Tryd.func5, Tryd.ntmps5
  have HB_0 := Hid.mk' (Below.refl w.heap.size w)
  go_wp2_with (refine wpList_box (l) 26 rfl _ rfl rfl ?_)
  intro w1 mw1
  have zw1 := mw1.lt
  have Hw1 : Below w.heap.size w w1 := mw1.below _ _ (Nat.le_refl _) (Below.refl _ _)
  have Xw1 := mw1.box
  have HB_w1 := Hid.mk' (HB_0.out.trans (Below.mono Hw1 HB_0.out.size))
  clear HB_0
  have bk_w1 := Hid.mk' Xw1
  clear mw1 Hw1 Xw1
  go_wp2_with (refine wpList_box (m) 30 rfl _ rfl rfl ?_)
  intro w2 mw2
  have zw2 := mw2.lt
  have Hw2 : Below w1.heap.size w1 w2 := mw2.below _ _ (Nat.le_refl _) (Below.refl _ _)
  have Xw2 := mw2.box
  have HB_w2 := Hid.mk' (HB_w1.out.trans (Below.mono Hw2 HB_w1.out.size))
  have bk_w2 := Hid.mk' (bk_w1.out.later Hw2)
  clear HB_w1 bk_w1
  have bm_w2 := Hid.mk' Xw2
  clear mw2 Hw2 Xw2
  go_wp2_with (first | (with_reducible refine wpList_load_box 26 26 (l) w.heap.size _ Tryd.underlying26 rfl HSK.out bk_w2.out rfl _ rfl rfl ?_) | (with_reducible refine wpList_load_box 30 30 (m) w1.heap.size _ Tryd.underlying30 rfl HSM.out bm_w2.out rfl _ rfl rfl ?_) | (refine wpList_build0 [.string X, .bool false] 23 (HE.out _) rfl rfl ?_))
  refine (HT.out _).mono ?_
  rintro e w3 ⟨al1, cl1, n1, hn1, rfl, ho1, hw3⟩
  have zw3 := hw3.size
  have HB_w3 := Hid.mk' (HB_w2.out.trans (Below.mono hw3 HB_w2.out.size))
  have bk_w3 := Hid.mk' (bk_w2.out.later hw3)
  have bm_w3 := Hid.mk' (bm_w2.out.later hw3)
  clear HB_w2 bk_w2 bm_w2
  clear hw3
  have ol_3 := Hid.mk' (ho1)
  go_wp2_with (first | (refine wpList_alloc [.string ⟨#[]⟩, .bool false] 23 zeroE rfl rfl ?_))
  intro w4 mw4
  have zw4 := mw4.lt
  have Yw4 := Hid.mk' mw4.box
  have HSw4 : Hid (∀ W', Stored w4 W' w3.heap.size 23 ([.string (bs s1.buf), .bool s1.q]) → Below w3.heap.size w3 W') := fun W' s' => s'.below _ _ (Nat.le_refl _) (mw4.below _ _ (Nat.le_refl _) (Below.refl _ _))
  clear mw4
  go_wp2_with (refine wpList_store_box 23 23 [.string ⟨#[]⟩, .bool false] ([.string (bs s1.buf), .bool s1.q]) w3.heap.size sizeE (edCells_one _ _) Yw4.out rfl rfl _ _ rfl rfl rfl ?_)
  intro w5 sw5
  have zw5 : w3.heap.size < w5.heap.size := sw5.box.lt
  have Hw5 := HSw4.out w5 sw5
  have Xw5 := sw5.box
  have HB_w5 := Hid.mk' (HB_w3.out.trans (Below.mono Hw5 HB_w3.out.size))
  have bk_w5 := Hid.mk' (bk_w3.out.later Hw5)
  have bm_w5 := Hid.mk' (bm_w3.out.later Hw5)
  have ol_w5 := Hid.mk' (ol_3.out.below Hw5)
  clear HB_w3 bk_w3 bm_w3 ol_3
  have bx_w5 := Hid.mk' Xw5
  clear sw5 Hw5 Xw5 Yw4 HSw4 zw4
  go_wp2_with (fail)
  refine (HLV.out _).mono ?_
  rintro e w6 ⟨rfl, hw6⟩
  have zw6 := hw6.size
  have HB_w6 := Hid.mk' (HB_w5.out.trans (Below.mono hw6 HB_w5.out.size))
  have bk_w6 := Hid.mk' (bk_w5.out.later hw6)
  have bm_w6 := Hid.mk' (bm_w5.out.later hw6)
  have ol_w6 := Hid.mk' (ol_w5.out.below hw6)
  have bx_w6 := Hid.mk' (bx_w5.out.later hw6)
  clear HB_w5 bk_w5 bm_w5 ol_w5 bx_w5
  clear hw6
  have BK := bk_w6
  have BM := bm_w6
  have BX := bx_w6
  have OL := ol_w6
  have HB := HB_w6
  clear bk_w6 bm_w6 bx_w6 ol_w6 HB_w6 HT
  have HST : Hid (∃ n : Nat, n ≤ T.length ∧ T.length - n ≤ T.length ∧ (Value.int .i64 0) = .int .i64 (n : Int) ∧ Hid (∀ c ∈ T.take n, sp k c = false) ∧ Hid (Below w6.heap.size w6 w6)) := ⟨0, Nat.zero_le _, by omega, rfl, fun c hc => by simp at hc, Below.refl _ _⟩
  go_wp2_with fail
  go_loopg [37] T.length (fun g s37 wr => ∃ n : Nat, n ≤ T.length ∧ T.length - n ≤ g ∧ s37 = .int .i64 (n : Int) ∧ Hid (∀ c ∈ T.take n, sp k c = false) ∧ Hid (Below w6.heap.size w6 wr))
  case atStart => exact HST.out
  case round =>
    obtain ⟨n, hn, hg, rfl, HO, HW⟩ := hrel
    have HG := Hid.mk' hg
    clear hg HST
    by_cases hlt : n < T.length
    · have hgt := HGT.out n hlt (by rw [hsz]; exact hlt)
      have HTM1 := Hid.mk' (HTM.out n hlt HO.out)
      have HS1 := Hid.mk' (HSP.out (T[n]'hlt))
      clear HTM HGT HSP HTA HO HP
      generalize T[n]'hlt = c at *
      generalize sp k c = sc at *
      generalize hyy : (c.toNat : Int) = y at *
      have HY := Hid.mk' hyy
      clear hyy
      have hE : Below wr.heap.size wr.drew wr.drew := Below.refl _ _
      have BKD : Hid (Box wr.drew w.heap.size 26 l) := (BK.out.later HW.out).drew
      have HWD : Hid (Below w6.heap.size w6 wr.drew) := HW.out.drew
      have zr := HW.out.size
      have l0 : ∀ w', Below wr.heap.size wr.drew w' → Lies w' (.pointer (some ⟨w.heap.size, 0, none⟩)) 38 := fun w' h => (BKD.out.later h).lies0 HKL.out
      have r0 : ∀ w', Below wr.heap.size wr.drew w' → Q.rowAt w' (.pointer (some ⟨w.heap.size, 0, none⟩)) 38 = l := fun w' h => (BKD.out.later h).row0 HKL.out
      clear HW
      cases sc with
      | true =>
        go_wp2_with fail
        refine wp_region_noPanic ?_
        refine wp_region_held_drew (S := fun w' => Below wr.heap.size wr.drew w') (by kernel_rfl) hE (fun hHeld => ?_)
        refine wpAnyH_take (i := 0) (oi := { dst := some 40, op := Go.Op.load 26 (Go.Operand.tmp 3), type := 26, pos := _, after := #[], guard := none }) (v := .agg l.toArray) rfl (by kernel_rfl) (by kernel_rfl) (by kernel_rfl) (fun _ _ _ h => h) (Or.inl ⟨by rfl, fun w' hSw => ?_⟩) (by assumption) ?_
        · exact (exec_loadKp _ _ _ _ _ _ _ _ (l0 _ hSw)).trans (congrArg (fun z : List Value => Result.ok (Next.value (.agg z.toArray)) w') (r0 _ hSw))
        (try simp only [Act.put]); (try simp only [List.setIfInBounds_toArray]); (try simp only [List.set_cons_succ]); (try simp only [List.set_cons_zero])
        refine wpAnyH_take (i := 1) (oi := { dst := some 41, op := Go.Op.move (Go.Operand.tmp 2), type := 9, pos := _, after := #[], guard := none }) (v := .string T1) rfl (by kernel_rfl) (by kernel_rfl) (by kernel_rfl) (fun _ _ _ h => h) (Or.inl ⟨by rfl, fun w' hSw => ?_⟩) (by assumption) ?_
        · (try dsimp only at hSw); go_simp
        (try simp only [Act.put]); (try simp only [List.setIfInBounds_toArray]); (try simp only [List.set_cons_succ]); (try simp only [List.set_cons_zero])
        refine wpAnyH_take (i := 2) (oi := { dst := some 42, op := Go.Op.move (Go.Operand.tmp 11), type := 3, pos := _, after := #[], guard := none }) (v := .int .i64 (n : Int)) rfl (by kernel_rfl) (by kernel_rfl) (by kernel_rfl) (fun _ _ _ h => h) (Or.inl ⟨by rfl, fun w' hSw => ?_⟩) (by assumption) ?_
        · (try dsimp only at hSw); go_simp
        (try simp only [Act.put]); (try simp only [List.setIfInBounds_toArray]); (try simp only [List.set_cons_succ]); (try simp only [List.set_cons_zero])
        refine wpAnyH_take (i := 3) (oi := { dst := some 43, op := Go.Op.index 9 (Go.Operand.tmp 41) (Go.Operand.tmp 42), type := 5, pos := _, after := #[{ on := 1, ground := Go.Ground.data }, { on := 2, ground := Go.Ground.data }], guard := none }) (v := .int .u8 y) rfl (by kernel_rfl) (by kernel_rfl) (by kernel_rfl) (fun _ _ _ h => h) (Or.inl ⟨by rfl, fun w' hSw => ?_⟩) (by assumption) ?_
        · (try dsimp only at hSw); go_simp; exact HY.out
        (try simp only [Act.put]); (try simp only [List.setIfInBounds_toArray]); (try simp only [List.set_cons_succ]); (try simp only [List.set_cons_zero])
        refine wpAnyH_ready (rs := [4]) (by kernel_rfl) (by simp) ?_
        refine AllReadyH.cons (o := { dst := some 44, op := Go.Op.call { callee := Go.Callee.value (Go.Operand.func 15), args := #[Go.Operand.tmp 40, Go.Operand.tmp 43], argTypes := #[26, 5] }, type := 4, pos := _, after := #[{ on := 0, ground := Go.Ground.data }, { on := 3, ground := Go.Ground.data }], guard := none }) rfl (fun K hK => ?_) ?_
        · skip
          go_simp
          refine (HS1.out _).mono ?_
          rintro e v1 ⟨rfl, hbv1⟩
          have e1 : Below wr.heap.size wr.drew v1 := Below.trans hE (Below.mono hbv1 (by have hz := Below.size hE; exact hz))
          go_wp2_with fail
          refine hK.out _ _ e1 (fun hHeld => ?_)
          clear hK K
          (try simp only [Act.put]); (try simp only [List.setIfInBounds_toArray]); (try simp only [List.set_cons_succ]); (try simp only [List.set_cons_zero])
          refine wpAnyH_done (by kernel_rfl) ?_ _
          refine NoPanic.normal ?_
          have HF := Hid.mk' (HB.out.trans (Below.mono (HWD.out.trans (Below.mono e1 zr)) HB.out.size))
          clear e1
          go_wp2
          go_ret
          exact ⟨rfl, HF.out⟩
        exact AllReadyH.nil
      | false =>
        have HTM2 := Hid.mk' (HTM1.out rfl)
        go_wp2_with fail
        refine wp_region_noPanic ?_
        refine wp_region_held_drew (S := fun w' => Below wr.heap.size wr.drew w') (by kernel_rfl) hE (fun hHeld => ?_)
        refine wpAnyH_take (i := 0) (oi := { dst := some 40, op := Go.Op.load 26 (Go.Operand.tmp 3), type := 26, pos := _, after := #[], guard := none }) (v := .agg l.toArray) rfl (by kernel_rfl) (by kernel_rfl) (by kernel_rfl) (fun _ _ _ h => h) (Or.inl ⟨by rfl, fun w' hSw => ?_⟩) (by assumption) ?_
        · exact (exec_loadKp _ _ _ _ _ _ _ _ (l0 _ hSw)).trans (congrArg (fun z : List Value => Result.ok (Next.value (.agg z.toArray)) w') (r0 _ hSw))
        (try simp only [Act.put]); (try simp only [List.setIfInBounds_toArray]); (try simp only [List.set_cons_succ]); (try simp only [List.set_cons_zero])
        refine wpAnyH_take (i := 1) (oi := { dst := some 41, op := Go.Op.move (Go.Operand.tmp 2), type := 9, pos := _, after := #[], guard := none }) (v := .string T1) rfl (by kernel_rfl) (by kernel_rfl) (by kernel_rfl) (fun _ _ _ h => h) (Or.inl ⟨by rfl, fun w' hSw => ?_⟩) (by assumption) ?_
        · (try dsimp only at hSw); go_simp
        (try simp only [Act.put]); (try simp only [List.setIfInBounds_toArray]); (try simp only [List.set_cons_succ]); (try simp only [List.set_cons_zero])
        refine wpAnyH_take (i := 2) (oi := { dst := some 42, op := Go.Op.move (Go.Operand.tmp 11), type := 3, pos := _, after := #[], guard := none }) (v := .int .i64 (n : Int)) rfl (by kernel_rfl) (by kernel_rfl) (by kernel_rfl) (fun _ _ _ h => h) (Or.inl ⟨by rfl, fun w' hSw => ?_⟩) (by assumption) ?_
        · (try dsimp only at hSw); go_simp
        (try simp only [Act.put]); (try simp only [List.setIfInBounds_toArray]); (try simp only [List.set_cons_succ]); (try simp only [List.set_cons_zero])
        refine wpAnyH_take (i := 3) (oi := { dst := some 43, op := Go.Op.index 9 (Go.Operand.tmp 41) (Go.Operand.tmp 42), type := 5, pos := _, after := #[{ on := 1, ground := Go.Ground.data }, { on := 2, ground := Go.Ground.data }], guard := none }) (v := .int .u8 y) rfl (by kernel_rfl) (by kernel_rfl) (by kernel_rfl) (fun _ _ _ h => h) (Or.inl ⟨by rfl, fun w' hSw => ?_⟩) (by assumption) ?_
        · (try dsimp only at hSw); go_simp; exact HY.out
        (try simp only [Act.put]); (try simp only [List.setIfInBounds_toArray]); (try simp only [List.set_cons_succ]); (try simp only [List.set_cons_zero])
        refine wpAnyH_ready (rs := [4]) (by kernel_rfl) (by simp) ?_
        refine AllReadyH.cons (o := { dst := some 44, op := Go.Op.call { callee := Go.Callee.value (Go.Operand.func 15), args := #[Go.Operand.tmp 40, Go.Operand.tmp 43], argTypes := #[26, 5] }, type := 4, pos := _, after := #[{ on := 0, ground := Go.Ground.data }, { on := 3, ground := Go.Ground.data }], guard := none }) rfl (fun K hK => ?_) ?_
        · skip
          go_simp
          refine (HS1.out _).mono ?_
          rintro e v1 ⟨rfl, hbv1⟩
          have e1 : Below wr.heap.size wr.drew v1 := Below.trans hE (Below.mono hbv1 (by have hz := Below.size hE; exact hz))
          go_wp2_with fail
          refine hK.out _ _ e1 (fun hHeld => ?_)
          clear hK K
          (try simp only [Act.put]); (try simp only [List.setIfInBounds_toArray]); (try simp only [List.set_cons_succ]); (try simp only [List.set_cons_zero])
          refine wpAnyH_done (by kernel_rfl) ?_ _
          refine NoPanic.normal ?_
          have HF := Hid.mk' (HWD.out.trans (Below.mono e1 zr))
          clear e1
          go_wp2
          go_roundg (T.length - (n + 1))
          case measure => have := HG.out; omega
          case rel => exact ⟨n + 1, by omega, Nat.le_refl _, by go_num, HTM2, HF⟩
        exact AllReadyH.nil
    · obtain rfl : n = T.length := by omega
      rw [HTA.out] at HO
      obtain ⟨hp1, hp2, hp3, hp4, hp5⟩ := HP.out HO.out
      clear HO HTM HGT HSP HTA HP
      have BK1 := Hid.mk' (BK.out.later HW.out)
      have BM1 := Hid.mk' (BM.out.later HW.out)
      have BX1 := Hid.mk' (BX.out.later HW.out)
      have OL1 := Hid.mk' (OL.out.below HW.out)
      have HB1 := Hid.mk' (HB.out.trans (Below.mono HW.out HB.out.size))
      clear BK BM BX OL HB HW HG
      obtain ⟨bu, q1, L, E1⟩ := s1
      dsimp only at *
      subst hp3
      replace hp2 := hp2.symm
      subst hp2
      have hp6 := HT1.out
      subst hp6
      clear HT1
      have HLEN : Hid (∀ t ∈ L ++ [bu], t.length ≤ T.length) := fun t ht => by
        rw [← hp1, List.length_append]
        rcases List.mem_append.1 ht with h | h
        · have := (List.sublist_flatten_of_mem h).length_le; omega
        · simp only [List.mem_singleton] at h; subst h; omega
      have HIN : Hid (∀ t ∈ L ++ [bu], ∀ i (h : i + 1 < t.length), isEnd k M (t[i]'(by omega)) = false) := fun t ht i h => by
        rcases List.mem_append.1 ht with h1 | h1
        · exact (hp4 t h1).2.1 i h _ (List.getElem?_eq_getElem (by omega))
        · simp only [List.mem_singleton] at h1; subst h1; exact hp5 _ (List.getElem_mem _)
      have HWH : Hid (∀ t ∈ L, ∃ u, t.length = u + 1 ∧ (u : Int) + 1 ≤ 9223372036854775807 ∧ (t.length = 1024 ∨ ∃ h : u < t.length, isEnd k M (t[u]'h) = true)) := fun t ht => by
        obtain ⟨h1, _, h3⟩ := hp4 t ht
        have h4 := List.length_pos_iff.2 h1
        have h5 := HLEN.out t (List.mem_append_left _ ht)
        refine ⟨t.length - 1, by omega, by omega, ?_⟩
        rcases h3 with h3 | ⟨x, hx, he⟩
        · exact .inl h3
        · refine .inr ⟨by omega, ?_⟩
          rw [List.getLast?_eq_getElem?, List.getElem?_eq_getElem (by omega)] at hx
          rw [Option.some.inj hx]
          exact he
      have HFL : Hid (L.flatten.length ≤ 4096) := by
        have := congrArg List.length hp1
        rw [List.length_append] at this
        rw [Hid]; omega
      have HJN : Hid (∀ W c, RdS W (.slice al1 L.length c) (L.map bs) → Calls Tryd.prog 19 #[.slice al1 L.length c, .string { data := #[] }] W fun e w' => e = .returned (.string (bs L.flatten)) ∧ Below W.heap.size W w') := fun W c h => Join_any L W al1 c h (by have := HFL.out; omega) (by have := HLN.out; omega)
      have hjt : bs L.flatten ++ bs bu = bs T := by rw [bs_app, hp1]
      have hjs := bs_size L.flatten
      have hbz := bs_size bu
      have hjl := congrArg List.length hp1
      rw [List.length_append] at hjl
      have j1 : L.flatten.length + bu.length ≤ 9223372036854775807 := by omega
      have j2 : ¬ 9223372036854775807 < L.flatten.length + bu.length := by omega
      have HJT := Hid.mk' hjt
      have HCL : Hid (∀ W v, RdS W v (L.map bs) → Calls Tryd.prog 14 #[v] W fun e w' => ∃ ad cap nc, Hid (nc = L.length) ∧ e = .returned (.slice ad nc cap) ∧ OwnL w' W.heap.size ad cap L ∧ Below W.heap.size W w') := fun W v h => by
        refine (Clone_any W v (L.map bs) h (by rw [List.length_map]; have := HLN.out; omega)).mono fun e w' h2 => ?_
        obtain ⟨ad, cap, e1, e2, e3⟩ := h2
        exact ⟨ad, cap, _, List.length_map _, e1, own_of e2, e3⟩
      obtain rfl : n1 = L.length := hn1.out
      clear hn1 hp1 hp4 hp5 hjt hjl
      generalize bs L.flatten = J at *
      generalize bs T = T1 at *
      generalize hX1 : bs bu = X1 at *
      have HX1 := Hid.mk' hX1
      clear hX1
      have BKD := Hid.mk' BK1.out.drew
      have BMD := Hid.mk' BM1.out.drew
      have BXD := Hid.mk' BX1.out.drew
      have HBD := Hid.mk' HB1.out.drew
      have hE : Below wr.heap.size wr.drew wr.drew := Below.refl _ _
      have HR0 : Hid (RdS wr.drew (.slice al1 L.length cl1) (L.map bs)) := (rd_n rfl OL1.out).below (Below.refl _ _).drew
      have HRA : ∀ w', Below wr.heap.size wr.drew w' → RdS w' (.slice al1 L.length cl1) (L.map bs) := fun w' h => HR0.out.below h
      have lc0 : ∀ w', Below wr.heap.size wr.drew w' → w'.cell? ⟨w3.heap.size, 0, none⟩ = some (.string X1) := fun w' h => (BXD.out.later h).cell (j := 0) rfl
      clear BK1 BM1 BX1 HB1 OL1
      have hmf : ∀ (fn : Fn) (first cap : Array Value) (w : World), (Instr.makeFunc fn first cap).run Tryd.prog w = .ok (.func fn first cap) w := fun _ _ _ _ => rfl
      go_wp2_with fail
      refine wp_region_noPanic ?_
      refine wp_region_held_drew (S := fun w' => Below wr.heap.size wr.drew w') (by kernel_rfl) hE (fun hHeld => ?_)
      refine wpAnyH_take (i := 0) (oi := { dst := some 47, op := Go.Op.move (Go.Operand.tmp 8), type := 31, pos := _, after := #[], guard := none }) (v := .slice al1 L.length cl1) rfl (by kernel_rfl) (by kernel_rfl) (by kernel_rfl) (fun _ _ _ h => h) (Or.inl ⟨by rfl, fun w' hSw => ?_⟩) (by assumption) ?_
      · (try dsimp only at hSw); go_simp
      (try simp only [Act.put]); (try simp only [List.setIfInBounds_toArray]); (try simp only [List.set_cons_succ]); (try simp only [List.set_cons_zero])
      refine wpAnyH_take (i := 2) (oi := { dst := some 49, op := Go.Op.fieldAddr 23 (Go.Operand.tmp 7) 0, type := 0, pos := _, after := #[], guard := none }) (v := .pointer (some ⟨w3.heap.size, 0, none⟩)) rfl (by kernel_rfl) (by kernel_rfl) (by kernel_rfl) (fun _ _ _ h => h) (Or.inl ⟨by rfl, fun w' hSw => ?_⟩) (by assumption) ?_
      · (try dsimp only at hSw); go_simp
      (try simp only [Act.put]); (try simp only [List.setIfInBounds_toArray]); (try simp only [List.set_cons_succ]); (try simp only [List.set_cons_zero])
      refine wpAnyH_take (i := 3) (oi := { dst := some 50, op := Go.Op.load 9 (Go.Operand.tmp 49), type := 9, pos := _, after := #[{ on := 2, ground := Go.Ground.data }], guard := none }) (v := .string X1) rfl (by kernel_rfl) (by kernel_rfl) (by kernel_rfl) (fun _ _ _ h => h) (Or.inl ⟨by rfl, fun w' hSw => ?_⟩) (by assumption) ?_
      · have c0 := lc0 _ hSw; go_simp
      (try simp only [Act.put]); (try simp only [List.setIfInBounds_toArray]); (try simp only [List.set_cons_succ]); (try simp only [List.set_cons_zero])
      refine wpAnyH_take (i := 7) (oi := { dst := some 54, op := Go.Op.move (Go.Operand.const (Go.Value.int Go.IntKind.i64 0)), type := 3, pos := _, after := #[], guard := none }) (v := .int .i64 0) rfl (by kernel_rfl) (by kernel_rfl) (by kernel_rfl) (fun _ _ _ h => h) (Or.inl ⟨by rfl, fun w' hSw => ?_⟩) (by assumption) ?_
      · (try dsimp only at hSw); go_simp
      (try simp only [Act.put]); (try simp only [List.setIfInBounds_toArray]); (try simp only [List.set_cons_succ]); (try simp only [List.set_cons_zero])
      refine wpAnyH_ready (rs := [1, 4]) (by kernel_rfl) (by simp) ?_
      refine AllReadyH.cons (o := { dst := some 48, op := Go.Op.call { callee := Go.Callee.value (Go.Operand.func 14), args := #[Go.Operand.tmp 47], argTypes := #[31] }, type := 31, pos := _, after := #[{ on := 0, ground := Go.Ground.data }], guard := none }) rfl (fun K hK => ?_) ?_
      · skip
        go_simp
        refine (HCL.out _ _ (HRA _ hE)).mono ?_
        rintro e v1 ⟨alc, clc, nc, hnc, rfl, hoc, hbv1⟩
        have e1 : Below wr.heap.size wr.drew v1 := Below.trans hE (Below.mono hbv1 (by have hz := Below.size hE; exact hz))
        have ow0 := Hid.mk' hoc
        have zov1 := hbv1.size
        go_wp2_with fail
        refine hK.out _ _ e1 (fun hHeld => ?_)
        clear hK K
        (try simp only [Act.put]); (try simp only [List.setIfInBounds_toArray]); (try simp only [List.set_cons_succ]); (try simp only [List.set_cons_zero])
        refine wpAnyH_ready (rs := [4]) (by kernel_rfl) (by simp) ?_
        refine AllReadyH.cons (o := { dst := some 51, op := Go.Op.buildSlice 31 1 #[(0, Go.Operand.tmp 50)], type := 31, pos := _, after := #[{ on := 3, ground := Go.Ground.data }], guard := none }) rfl (fun K hK => ?_) ?_
        · skip
          go_simp
          have e2 : Below wr.heap.size wr.drew (v1.alloc (.cells #[.string X1] 9)) := Below.alloc e1 (by have hz := Below.size e1; exact hz) _
          have ow1 := Hid.mk' (ow0.out.below (Below.alloc (Below.refl v1.heap.size v1) (Nat.le_refl _) (.cells #[.string X1] 9)))
          have bx0 : Hid (Box (v1.alloc (.cells #[.string X1] 9)) v1.heap.size 9 [.string X1]) := Box.new v1 _ _
          refine hK.out _ _ e2 (fun hHeld => ?_)
          clear hK K
          (try simp only [Act.put]); (try simp only [List.setIfInBounds_toArray]); (try simp only [List.set_cons_succ]); (try simp only [List.set_cons_zero])
          refine wpAnyH_ready (rs := [5]) (by kernel_rfl) (by simp) ?_
          refine AllReadyH.cons (o := { dst := some 52, op := Go.Op.call { callee := Go.Callee.builtin Go.Builtin.append, args := #[Go.Operand.tmp 48, Go.Operand.tmp 51], argTypes := #[31, 31] }, type := 31, pos := _, after := #[{ on := 1, ground := Go.Ground.data }, { on := 4, ground := Go.Ground.data }, { on := 1, ground := Go.Ground.chain }], guard := none }) rfl (fun K hK => ?_) ?_
          · skip
            have hsl : RdS (v1.alloc (.cells #[.string X1] 9)) (.slice (some ⟨v1.heap.size, 0, none⟩) 1 1) ([bu].map bs) := RdS.box (l := [bs bu]) (by rw [HX1.out]; exact bx0.out) 1 (Nat.le_refl _)
            refine oper_lines (by rfl) _ _ rfl wr.drew.heap.size alc nc clc L rfl hnc.out ow1.out (.slice (some ⟨v1.heap.size, 0, none⟩) 1 1) rfl 1 [bu] (src_rd hsl) (by have := HLN.out; simp only [List.length_cons, List.length_nil]; omega) (by have hq := zov1; simp at hq ⊢; try omega) ?_
            intro al4 n4 cl4 v3 hn4 ho4 hb4
            have e3 : Below wr.heap.size wr.drew v3 := hb4 wr.heap.size wr.drew (by first | exact Nat.le_refl _ | (simp; try omega)) e2
            clear hb4
            refine hK.out _ _ e3 (fun hHeld => ?_)
            clear hK K
            (try simp only [Act.put]); (try simp only [List.setIfInBounds_toArray]); (try simp only [List.set_cons_succ]); (try simp only [List.set_cons_zero])
            refine wpAnyH_take (i := 6) (oi := { dst := some 53, op := Go.Op.call { callee := Go.Callee.builtin Go.Builtin.len, args := #[Go.Operand.tmp 52], argTypes := #[31] }, type := 3, pos := _, after := #[{ on := 5, ground := Go.Ground.data }], guard := none }) (v := .int .i64 (n4 : Int)) rfl (by kernel_rfl) (by kernel_rfl) (by kernel_rfl) (fun _ _ _ h => h) (Or.inl ⟨by rfl, fun w' hSw => ?_⟩) (by assumption) ?_
            · (try dsimp only at hSw); go_simp
            (try simp only [Act.put]); (try simp only [List.setIfInBounds_toArray]); (try simp only [List.set_cons_succ]); (try simp only [List.set_cons_zero])
            refine wpAnyH_done (by kernel_rfl) ?_ _
            refine NoPanic.normal ?_
            have BK2 := Hid.mk' (BKD.out.later e3)
            have BM2 := Hid.mk' (BMD.out.later e3)
            have BX2 := Hid.mk' (BXD.out.later e3)
            have HB2 := Hid.mk' (HBD.out.trans (Below.mono e3 (by have h := HBD.out.size; exact h)))
            have HR2 := Hid.mk' (HRA _ e3)
            have HA4 := Hid.mk' (rd_n (by rw [hn4.out]) ho4.out)
            obtain rfl : n4 = (L ++ [bu]).length := hn4.out
            clear hn4 ho4 e3
            generalize hwA : v3 = wA at *
            clear hwA
            obtain ⟨a4, c4, e4, hc4, hr4⟩ := HA4.out
            simp only [Value.slice.injEq, List.length_map] at e4
            obtain ⟨rfl, _, rfl⟩ := e4
            rcases hr4 with h0 | ⟨b4, o4, rfl, t4, hb4⟩
            · simp at h0
            have HC4 : Hid (∀ j (h : j < (L ++ [bu]).length), wA.cell? ⟨b4, o4 + j, none⟩ = some (.string (bs ((L ++ [bu])[j])))) := fun j h => by rw [t4 j (by rw [List.length_map]; exact h), List.getElem_map]
            obtain ⟨a5, c5, e5, hc5, hr5⟩ := HR2.out
            simp only [Value.slice.injEq, List.length_map] at e5
            obtain ⟨rfl, _, rfl⟩ := e5
            have HR5 : Hid (0 < L.length → ∃ b5 o5, al1 = some ⟨b5, o5, none⟩ ∧ b5 < wA.heap.size ∧ ∀ j (h : j < L.length), wA.cell? ⟨b5, o5 + j, none⟩ = some (.string (bs (L[j])))) := fun h9 => by
              rcases hr5 with h0 | ⟨b5, o5, e6, t5, hb5⟩
              · have := congrArg List.length h0; rw [List.length_map] at this; simp only [List.length_nil] at this; omega
              · exact ⟨b5, o5, e6, hb5, fun j h => by rw [t5 j (by rw [List.length_map]; exact h), List.getElem_map]⟩
            clear hr5 t4 hc4 hc5
            have g3 : ((L ++ [bu]).length : Int) ≤ 4097 := by have := HLN.out; simp only [List.length_append, List.length_singleton]; omega
            have g4 : (L.length : Int) ≤ 4096 := by have := HLN.out; omega
            generalize hL2 : L ++ [bu] = L2 at *
            clear hL2
            have g2 : (L2.length : Int) = (L2.length : Int) := rfl
            go_wp2_with fail
            go_loopg [54] L2.length (fun g s54 wq => ∃ n : Nat, n ≤ L2.length ∧ L2.length - n ≤ g ∧ s54 = .int .i64 (n : Int) ∧ Hid (Below wA.heap.size wA wq))
            case atStart => exact ⟨0, Nat.zero_le _, by omega, rfl, Below.refl _ _⟩
            case round =>
              obtain ⟨n, hn, hg, rfl, HW⟩ := hrel
              have HG := Hid.mk' hg
              clear hg
              obtain ⟨wq, hwq⟩ : ∃ wq, wq = wr := ⟨_, rfl⟩
              subst hwq
              by_cases hlt : n < L2.length
              · have e1 : wq.cell? ⟨b4, o4 + n, none⟩ = some (.string (bs (L2[n]'hlt))) := (HW.out.cell (p := ⟨b4, o4 + n, none⟩) hb4).trans (HC4.out n hlt)
                have HIN1 := Hid.mk' (HIN.out _ (List.getElem_mem hlt))
                have HLN1 := HLEN.out _ (List.getElem_mem hlt)
                have BK3 := Hid.mk' (BK2.out.later HW.out)
                have BM3 := Hid.mk' (BM2.out.later HW.out)
                clear HC4 HIN HLEN BK2 BM2 BX2 HB2 HR2 HA4 HR5 HWH HJN
                generalize L2[n]'hlt = t at *
                have hst := bs_size t
                have HGt : Hid (∀ n (h : n < t.length) (h2 : n < (bs t).size), (bs t)[n]'h2 = t[n]'h) := fun n h h2 => bs_get t n h h2
                generalize bs t = tt at *
                have hz2 : (n : Int) < (L2.length : Int) := by omega
                go_wp2_with fail
                go_loopg [15] t.length (fun g s15 wz => ∃ j : Nat, j ≤ t.length ∧ t.length - j ≤ g ∧ s15 = .int .i64 (j : Int) ∧ Hid (Below wq.heap.size wq wz))
                case atStart => exact ⟨0, Nat.zero_le _, by omega, rfl, Below.refl _ _⟩
                case round =>
                  obtain ⟨j, hj, hgj, rfl, HQ⟩ := hrel
                  have HGJ := Hid.mk' hgj
                  clear hgj
                  have hj0 : (j : Int) + 1 ≤ 9223372036854775807 := by omega
                  by_cases hjl : j + 1 < t.length
                  · have hjt : j < t.length := by omega
                    have hgt := HGt.out j hjt (by rw [hst]; exact hjt)
                    have HS := Hid.mk' (HEN.out (t[j]'hjt) _ _ wr (BK3.out.later HQ.out) (BM3.out.later HQ.out))
                    have hf := HIN1.out j hjl
                    rw [hf] at HS
                    have hj1 : (j : Int) + 1 < (t.length : Int) := by omega
                    clear HIN1 HGt hf
                    generalize t[j]'hjt = cc at *
                    go_wp2_with fail
                    refine HS.out.mono ?_
                    rintro e wv ⟨rfl, hv⟩
                    have HQ2 := Hid.mk' (HQ.out.trans (Below.mono hv HQ.out.size))
                    clear hv
                    go_wp2
                    go_roundg (t.length - (j + 1))
                    case measure => have := HGJ.out; omega
                    case rel => exact ⟨j + 1, by omega, Nat.le_refl _, by go_num, HQ2⟩
                  · have hj1 : ¬ (j : Int) + 1 < (t.length : Int) := by omega
                    have HW2 := Hid.mk' (HW.out.trans (Below.mono HQ.out HW.out.size))
                    clear HIN1 HGt
                    go_wp2
                    go_roundg (L2.length - (n + 1))
                    case measure => have := HG.out; omega
                    case rel => exact ⟨n + 1, by omega, Nat.le_refl _, by go_num, HW2⟩
              · obtain rfl : n = L2.length := by omega
                have BX6 := Hid.mk' (BX2.out.later HW.out)
                have BK6 := Hid.mk' (BK2.out.later HW.out)
                have BM6 := Hid.mk' (BM2.out.later HW.out)
                have HB6 := Hid.mk' (HB2.out.trans (Below.mono HW.out HB2.out.size))
                have HR6 := Hid.mk' (HR2.out.below HW.out)
                have HR7 : Hid (0 < L.length → ∃ b5 o5, al1 = some ⟨b5, o5, none⟩ ∧ b5 < wq.heap.size ∧ ∀ j (h : j < L.length), wq.cell? ⟨b5, o5 + j, none⟩ = some (.string (bs (L[j])))) := fun h9 => by
                  obtain ⟨b5, o5, e6, h6, h7⟩ := HR5.out h9
                  exact ⟨b5, o5, e6, by have := HW.out.size; omega, fun j h => (HW.out.cell (p := ⟨b5, o5 + j, none⟩) h6).trans (h7 j h)⟩
                clear HC4 HIN HLEN BK2 BM2 BX2 HB2 HR2 HA4 HR5 HG HW
                go_wp2_with fail
                go_loopg [73] L.length (fun g s73 wy => ∃ n : Nat, n ≤ L.length ∧ L.length - n ≤ g ∧ s73 = .int .i64 (n : Int) ∧ Hid (Below wq.heap.size wq wy))
                case atStart => exact ⟨0, Nat.zero_le _, by omega, rfl, Below.refl _ _⟩
                case round =>
                  obtain ⟨n, hn, hg, rfl, HW⟩ := hrel
                  have HG := Hid.mk' hg
                  clear hg
                  by_cases hlt3 : n < L.length
                  · obtain ⟨b5, o5, rfl, h6, h7⟩ := HR7.out (by omega)
                    have e1 : wr.cell? ⟨b5, o5 + n, none⟩ = some (.string (bs (L[n]'hlt3))) := (HW.out.cell (p := ⟨b5, o5 + n, none⟩) h6).trans (h7 n hlt3)
                    obtain ⟨u, hu, hz3, hcase⟩ := HWH.out _ (List.getElem_mem hlt3)
                    have BK8 := Hid.mk' (BK6.out.later HW.out)
                    have BM8 := Hid.mk' (BM6.out.later HW.out)
                    clear HR7 h7 HWH HJN BX6 HR6
                    generalize L[n]'hlt3 = t at *
                    have hst := bs_size t
                    rw [hu] at hst
                    have hgt := bs_get t u (by omega) (by rw [hst]; omega)
                    have HS := Hid.mk' (HEN.out (t[u]'(by omega)) _ _ wr BK8.out BM8.out)
                    have hem1 : (bs t).toList.isEmpty = false := by
                      rw [ByteArray.toList_eq]
                      cases t with
                      | nil => simp at hu
                      | cons a r => rfl
                    have hem2 : ((bs t).toList == []) = false := by
                      rw [ByteArray.toList_eq]
                      cases t with
                      | nil => simp at hu
                      | cons a r => rfl
                    have hcs : isEnd k M (t[u]'(by omega)) = true ∨ (isEnd k M (t[u]'(by omega)) = false ∧ u = 1023) := by
                      rcases hcase with h | ⟨h, h2⟩
                      · cases he : isEnd k M (t[u]'(by omega)) with
                        | true => exact .inl rfl
                        | false => exact .inr ⟨rfl, by omega⟩
                      · exact .inl h2
                    clear hcase
                    generalize isEnd k M (t[u]'(by omega)) = en at *
                    generalize t[u]'(by omega) = cc at *
                    generalize bs t = tt at *
                    have HCS := Hid.mk' hcs
                    clear hcs hu
                    go_wp2_with fail
                    refine HS.out.mono ?_
                    rintro e wv ⟨rfl, hv⟩
                    have HW2 := Hid.mk' (HW.out.trans (Below.mono hv HW.out.size))
                    clear hv
                    rcases HCS.out with rfl | ⟨rfl, rfl⟩
                    · go_wp2
                      go_roundg (L.length - (n + 1))
                      case measure => have := HG.out; omega
                      case rel => exact ⟨n + 1, by omega, Nat.le_refl _, by go_num, HW2⟩
                    · go_wp2
                      go_roundg (L.length - (n + 1))
                      case measure => have := HG.out; omega
                      case rel => exact ⟨n + 1, by omega, Nat.le_refl _, by go_num, HW2⟩
                  · obtain rfl : n = L.length := by omega
                    have HJ7 := Hid.mk' (HJN.out wr.drew cl1 ((HR6.out.below HW.out).below (Below.refl _ _).drew))
                    have BX7 := Hid.mk' (BX6.out.later HW.out).drew
                    have HB7 := Hid.mk' (HB6.out.trans (Below.mono HW.out HB6.out.size)).drew
                    have hE7 : Below wr.heap.size wr.drew wr.drew := Below.refl _ _
                    have lx0 : ∀ w', Below wr.heap.size wr.drew w' → w'.cell? ⟨w3.heap.size, 0, none⟩ = some (.string X1) := fun w' h => (BX7.out.later h).cell (j := 0) rfl
                    have lx1 : ∀ w', Below wr.heap.size wr.drew w' → w'.cell? ⟨w3.heap.size, 1, none⟩ = some (.bool false) := fun w' h => (BX7.out.later h).cell (j := 1) rfl
                    have hjt7 := HJT.out
                    clear HJN HR6 HR7 HWH BX6 BK6 BM6 HB6 HG HW
                    go_wp2_with fail
                    refine wp_region_noPanic ?_
                    refine wp_region_held_drew (S := fun w' => Below wr.heap.size wr.drew w') (by kernel_rfl) hE7 (fun hHeld => ?_)
                    refine wpAnyH_take (i := 0) (oi := { dst := some 95, op := Go.Op.move (Go.Operand.tmp 8), type := 31, pos := _, after := #[], guard := none }) (v := .slice al1 L.length cl1) rfl (by kernel_rfl) (by kernel_rfl) (by kernel_rfl) (fun _ _ _ h => h) (Or.inl ⟨by rfl, fun w' hSw => ?_⟩) (by assumption) ?_
                    · (try dsimp only at hSw); go_simp
                    (try simp only [Act.put]); (try simp only [List.setIfInBounds_toArray]); (try simp only [List.set_cons_succ]); (try simp only [List.set_cons_zero])
                    refine wpAnyH_take (i := 2) (oi := { dst := some 97, op := Go.Op.fieldAddr 23 (Go.Operand.tmp 7) 0, type := 0, pos := _, after := #[], guard := none }) (v := .pointer (some ⟨w3.heap.size, 0, none⟩)) rfl (by kernel_rfl) (by kernel_rfl) (by kernel_rfl) (fun _ _ _ h => h) (Or.inl ⟨by rfl, fun w' hSw => ?_⟩) (by assumption) ?_
                    · (try dsimp only at hSw); go_simp
                    (try simp only [Act.put]); (try simp only [List.setIfInBounds_toArray]); (try simp only [List.set_cons_succ]); (try simp only [List.set_cons_zero])
                    refine wpAnyH_take (i := 3) (oi := { dst := some 98, op := Go.Op.load 9 (Go.Operand.tmp 97), type := 9, pos := _, after := #[{ on := 2, ground := Go.Ground.data }], guard := none }) (v := .string X1) rfl (by kernel_rfl) (by kernel_rfl) (by kernel_rfl) (fun _ _ _ h => h) (Or.inl ⟨by rfl, fun w' hSw => ?_⟩) (by assumption) ?_
                    · have c0 := lx0 _ hSw; go_simp
                    (try simp only [Act.put]); (try simp only [List.setIfInBounds_toArray]); (try simp only [List.set_cons_succ]); (try simp only [List.set_cons_zero])
                    refine wpAnyH_take (i := 5) (oi := { dst := some 100, op := Go.Op.move (Go.Operand.tmp 2), type := 9, pos := _, after := #[], guard := none }) (v := .string T1) rfl (by kernel_rfl) (by kernel_rfl) (by kernel_rfl) (fun _ _ _ h => h) (Or.inl ⟨by rfl, fun w' hSw => ?_⟩) (by assumption) ?_
                    · (try dsimp only at hSw); go_simp
                    (try simp only [Act.put]); (try simp only [List.setIfInBounds_toArray]); (try simp only [List.set_cons_succ]); (try simp only [List.set_cons_zero])
                    refine wpAnyH_ready (rs := [1]) (by kernel_rfl) (by simp) ?_
                    refine AllReadyH.cons (o := { dst := some 96, op := Go.Op.call { callee := Go.Callee.value (Go.Operand.func 19), args := #[Go.Operand.tmp 95, Go.Operand.const (Go.Value.string { data := #[] })], argTypes := #[31, 9] }, type := 9, pos := _, after := #[{ on := 0, ground := Go.Ground.data }], guard := none }) rfl (fun K hK => ?_) ?_
                    · skip
                      go_simp
                      refine HJ7.out.mono ?_
                      rintro e v1 ⟨rfl, hbv1⟩
                      have e1 : Below wr.heap.size wr.drew v1 := Below.trans hE7 (Below.mono hbv1 (by have hz := Below.size hE7; exact hz))
                      go_wp2_with fail
                      refine hK.out _ _ e1 (fun hHeld => ?_)
                      clear hK K
                      (try simp only [Act.put]); (try simp only [List.setIfInBounds_toArray]); (try simp only [List.set_cons_succ]); (try simp only [List.set_cons_zero])
                      refine wpAnyH_take (i := 4) (oi := { dst := some 99, op := Go.Op.binOp Go.BinOp.add 9 (Go.Operand.tmp 96) (Go.Operand.tmp 98) 9, type := 9, pos := _, after := #[{ on := 1, ground := Go.Ground.data }, { on := 3, ground := Go.Ground.data }], guard := none }) (v := .string T1) rfl (by kernel_rfl) (by kernel_rfl) (by kernel_rfl) (fun _ _ _ h => h) (Or.inl ⟨by rfl, fun w' hSw => ?_⟩) (by assumption) ?_
                      · (try dsimp only at hSw); go_simp; (try rw [hjt7]); (try (rw [← List.length_flatten]; first | exact j1 | omega))
                      (try simp only [Act.put]); (try simp only [List.setIfInBounds_toArray]); (try simp only [List.set_cons_succ]); (try simp only [List.set_cons_zero])
                      refine wpAnyH_take (i := 6) (oi := { dst := some 101, op := Go.Op.binOp Go.BinOp.eql 9 (Go.Operand.tmp 99) (Go.Operand.tmp 100) 9, type := 4, pos := _, after := #[{ on := 4, ground := Go.Ground.data }, { on := 5, ground := Go.Ground.data }], guard := none }) (v := .bool true) rfl (by kernel_rfl) (by kernel_rfl) (by kernel_rfl) (fun _ _ _ h => h) (Or.inl ⟨by rfl, fun w' hSw => ?_⟩) (by assumption) ?_
                      · (try dsimp only at hSw); go_simp
                      (try simp only [Act.put]); (try simp only [List.setIfInBounds_toArray]); (try simp only [List.set_cons_succ]); (try simp only [List.set_cons_zero])
                      refine wpAnyH_take (i := 7) (oi := { dst := some 102, op := Go.Op.move (Go.Operand.tmp 101), type := 4, pos := _, after := #[{ on := 6, ground := Go.Ground.data }, { on := 1, ground := Go.Ground.chain }], guard := none }) (v := .bool true) rfl (by kernel_rfl) (by kernel_rfl) (by kernel_rfl) (fun _ _ _ h => h) (Or.inl ⟨by rfl, fun w' hSw => ?_⟩) (by assumption) ?_
                      · (try dsimp only at hSw); go_simp
                      (try simp only [Act.put]); (try simp only [List.setIfInBounds_toArray]); (try simp only [List.set_cons_succ]); (try simp only [List.set_cons_zero])
                      refine wpAnyH_take (i := 8) (oi := { dst := some 103, op := Go.Op.move (Go.Operand.tmp 9), type := 9, pos := _, after := #[{ on := 7, ground := Go.Ground.guard }], guard := some (7, true) }) (v := .string T1) rfl (by kernel_rfl) (by kernel_rfl) (by kernel_rfl) (fun _ _ _ h => h) (Or.inl ⟨by rfl, fun w' hSw => ?_⟩) (by assumption) ?_
                      · (try dsimp only at hSw); go_simp
                      (try simp only [Act.put]); (try simp only [List.setIfInBounds_toArray]); (try simp only [List.set_cons_succ]); (try simp only [List.set_cons_zero])
                      refine wpAnyH_take (i := 9) (oi := { dst := some 104, op := Go.Op.move (Go.Operand.tmp 2), type := 9, pos := _, after := #[{ on := 7, ground := Go.Ground.guard }], guard := some (7, true) }) (v := .string T1) rfl (by kernel_rfl) (by kernel_rfl) (by kernel_rfl) (fun _ _ _ h => h) (Or.inl ⟨by rfl, fun w' hSw => ?_⟩) (by assumption) ?_
                      · (try dsimp only at hSw); go_simp
                      (try simp only [Act.put]); (try simp only [List.setIfInBounds_toArray]); (try simp only [List.set_cons_succ]); (try simp only [List.set_cons_zero])
                      refine wpAnyH_take (i := 10) (oi := { dst := some 105, op := Go.Op.binOp Go.BinOp.eql 9 (Go.Operand.tmp 103) (Go.Operand.tmp 104) 9, type := 4, pos := _, after := #[{ on := 8, ground := Go.Ground.data }, { on := 9, ground := Go.Ground.data }, { on := 7, ground := Go.Ground.guard }], guard := some (7, true) }) (v := .bool true) rfl (by kernel_rfl) (by kernel_rfl) (by kernel_rfl) (fun _ _ _ h => h) (Or.inl ⟨by rfl, fun w' hSw => ?_⟩) (by assumption) ?_
                      · (try dsimp only at hSw); go_simp
                      (try simp only [Act.put]); (try simp only [List.setIfInBounds_toArray]); (try simp only [List.set_cons_succ]); (try simp only [List.set_cons_zero])
                      refine wpAnyH_take (i := 11) (oi := { dst := some 106, op := Go.Op.pick (Go.Operand.tmp 102) (Go.Operand.tmp 105) (Go.Operand.const (Go.Value.bool false)), type := 4, pos := _, after := #[{ on := 7, ground := Go.Ground.data }, { on := 10, ground := Go.Ground.data }], guard := none }) (v := .bool true) rfl (by kernel_rfl) (by kernel_rfl) (by kernel_rfl) (fun _ _ _ h => h) (Or.inl ⟨by rfl, fun w' hSw => ?_⟩) (by assumption) ?_
                      · (try dsimp only at hSw); go_simp
                      (try simp only [Act.put]); (try simp only [List.setIfInBounds_toArray]); (try simp only [List.set_cons_succ]); (try simp only [List.set_cons_zero])
                      refine wpAnyH_take (i := 12) (oi := { dst := some 107, op := Go.Op.move (Go.Operand.tmp 106), type := 4, pos := _, after := #[{ on := 11, ground := Go.Ground.data }, { on := 7, ground := Go.Ground.chain }], guard := none }) (v := .bool true) rfl (by kernel_rfl) (by kernel_rfl) (by kernel_rfl) (fun _ _ _ h => h) (Or.inl ⟨by rfl, fun w' hSw => ?_⟩) (by assumption) ?_
                      · (try dsimp only at hSw); go_simp
                      (try simp only [Act.put]); (try simp only [List.setIfInBounds_toArray]); (try simp only [List.set_cons_succ]); (try simp only [List.set_cons_zero])
                      refine wpAnyH_take (i := 13) (oi := { dst := some 108, op := Go.Op.fieldAddr 23 (Go.Operand.tmp 7) 1, type := 0, pos := _, after := #[{ on := 12, ground := Go.Ground.guard }], guard := some (12, true) }) (v := .pointer (some ⟨w3.heap.size, 1, none⟩)) rfl (by kernel_rfl) (by kernel_rfl) (by kernel_rfl) (fun _ _ _ h => h) (Or.inl ⟨by rfl, fun w' hSw => ?_⟩) (by assumption) ?_
                      · (try dsimp only at hSw); go_simp
                      (try simp only [Act.put]); (try simp only [List.setIfInBounds_toArray]); (try simp only [List.set_cons_succ]); (try simp only [List.set_cons_zero])
                      refine wpAnyH_take (i := 14) (oi := { dst := some 109, op := Go.Op.load 4 (Go.Operand.tmp 108), type := 4, pos := _, after := #[{ on := 13, ground := Go.Ground.data }, { on := 12, ground := Go.Ground.guard }], guard := some (12, true) }) (v := .bool false) rfl (by kernel_rfl) (by kernel_rfl) (by kernel_rfl) (fun _ _ _ h => h) (Or.inl ⟨by rfl, fun w' hSw => ?_⟩) (by assumption) ?_
                      · have c1 := lx1 _ hSw; go_simp
                      (try simp only [Act.put]); (try simp only [List.setIfInBounds_toArray]); (try simp only [List.set_cons_succ]); (try simp only [List.set_cons_zero])
                      refine wpAnyH_take (i := 15) (oi := { dst := some 110, op := Go.Op.unOp Go.UnOp.not 4 (Go.Operand.tmp 109), type := 4, pos := _, after := #[{ on := 14, ground := Go.Ground.data }, { on := 12, ground := Go.Ground.guard }], guard := some (12, true) }) (v := .bool true) rfl (by kernel_rfl) (by kernel_rfl) (by kernel_rfl) (fun _ _ _ h => h) (Or.inl ⟨by rfl, fun w' hSw => ?_⟩) (by assumption) ?_
                      · (try dsimp only at hSw); go_simp
                      (try simp only [Act.put]); (try simp only [List.setIfInBounds_toArray]); (try simp only [List.set_cons_succ]); (try simp only [List.set_cons_zero])
                      refine wpAnyH_take (i := 16) (oi := { dst := some 111, op := Go.Op.pick (Go.Operand.tmp 107) (Go.Operand.tmp 110) (Go.Operand.const (Go.Value.bool false)), type := 4, pos := _, after := #[{ on := 12, ground := Go.Ground.data }, { on := 15, ground := Go.Ground.data }], guard := none }) (v := .bool true) rfl (by kernel_rfl) (by kernel_rfl) (by kernel_rfl) (fun _ _ _ h => h) (Or.inl ⟨by rfl, fun w' hSw => ?_⟩) (by assumption) ?_
                      · (try dsimp only at hSw); go_simp
                      (try simp only [Act.put]); (try simp only [List.setIfInBounds_toArray]); (try simp only [List.set_cons_succ]); (try simp only [List.set_cons_zero])
                      refine wpAnyH_take (i := 17) (oi := { dst := some 6, op := Go.Op.assign (Go.Operand.tmp 111), type := 4, pos := _, after := #[{ on := 16, ground := Go.Ground.data }, { on := 12, ground := Go.Ground.chain }, { on := 0, ground := Go.Ground.phase }, { on := 1, ground := Go.Ground.phase }, { on := 2, ground := Go.Ground.phase }, { on := 3, ground := Go.Ground.phase }, { on := 4, ground := Go.Ground.phase }, { on := 5, ground := Go.Ground.phase }, { on := 6, ground := Go.Ground.phase }, { on := 7, ground := Go.Ground.phase }, { on := 8, ground := Go.Ground.phase }, { on := 9, ground := Go.Ground.phase }, { on := 10, ground := Go.Ground.phase }, { on := 11, ground := Go.Ground.phase }, { on := 12, ground := Go.Ground.phase }, { on := 13, ground := Go.Ground.phase }, { on := 14, ground := Go.Ground.phase }, { on := 15, ground := Go.Ground.phase }, { on := 16, ground := Go.Ground.phase }], guard := none }) (v := .bool true) rfl (by kernel_rfl) (by kernel_rfl) (by kernel_rfl) (fun _ _ _ h => h) (Or.inl ⟨by rfl, fun w' hSw => ?_⟩) (by assumption) ?_
                      · (try dsimp only at hSw); go_simp
                      (try simp only [Act.put]); (try simp only [List.setIfInBounds_toArray]); (try simp only [List.set_cons_succ]); (try simp only [List.set_cons_zero])
                      refine wpAnyH_done (by kernel_rfl) ?_ _
                      refine NoPanic.normal ?_
                      have HF := Hid.mk' (HB7.out.trans (Below.mono e1 (by have h := HB7.out.size; exact h)))
                      clear e1
                      go_wp2
                      go_ret
                      exact ⟨rfl, HF.out⟩
                    exact AllReadyH.nil
          exact AllReadyH.nil
        exact AllReadyH.nil
      refine AllReadyH.cons (o := { dst := some 51, op := Go.Op.buildSlice 31 1 #[(0, Go.Operand.tmp 50)], type := 31, pos := _, after := #[{ on := 3, ground := Go.Ground.data }], guard := none }) rfl (fun K hK => ?_) ?_
      · skip
        go_simp
        have e4 : Below wr.heap.size wr.drew (wr.drew.alloc (.cells #[.string X1] 9)) := Below.alloc hE (by have hz := Below.size hE; exact hz) _
        have bx1 : Hid (Box (wr.drew.alloc (.cells #[.string X1] 9)) wr.drew.heap.size 9 [.string X1]) := Box.new wr.drew _ _
        refine hK.out _ _ e4 (fun hHeld => ?_)
        clear hK K
        (try simp only [Act.put]); (try simp only [List.setIfInBounds_toArray]); (try simp only [List.set_cons_succ]); (try simp only [List.set_cons_zero])
        refine wpAnyH_ready (rs := [1]) (by kernel_rfl) (by simp) ?_
        refine AllReadyH.cons (o := { dst := some 48, op := Go.Op.call { callee := Go.Callee.value (Go.Operand.func 14), args := #[Go.Operand.tmp 47], argTypes := #[31] }, type := 31, pos := _, after := #[{ on := 0, ground := Go.Ground.data }], guard := none }) rfl (fun K hK => ?_) ?_
        · skip
          go_simp
          refine (HCL.out _ _ (HRA _ e4)).mono ?_
          rintro e v5 ⟨alc, clc, nc, hnc, rfl, hoc, hbv5⟩
          have e5 : Below wr.heap.size wr.drew v5 := Below.trans e4 (Below.mono hbv5 (by have hz := Below.size e4; exact hz))
          have bx2 := Hid.mk' (bx1.out.later hbv5)
          have ow2 := Hid.mk' hoc
          have zov5 := hbv5.size
          go_wp2_with fail
          refine hK.out _ _ e5 (fun hHeld => ?_)
          clear hK K
          (try simp only [Act.put]); (try simp only [List.setIfInBounds_toArray]); (try simp only [List.set_cons_succ]); (try simp only [List.set_cons_zero])
          refine wpAnyH_ready (rs := [5]) (by kernel_rfl) (by simp) ?_
          refine AllReadyH.cons (o := { dst := some 52, op := Go.Op.call { callee := Go.Callee.builtin Go.Builtin.append, args := #[Go.Operand.tmp 48, Go.Operand.tmp 51], argTypes := #[31, 31] }, type := 31, pos := _, after := #[{ on := 1, ground := Go.Ground.data }, { on := 4, ground := Go.Ground.data }, { on := 1, ground := Go.Ground.chain }], guard := none }) rfl (fun K hK => ?_) ?_
          · skip
            have hsl : RdS v5 (.slice (some ⟨wr.heap.size, 0, none⟩) 1 1) ([bu].map bs) := RdS.box (l := [bs bu]) (by rw [HX1.out]; exact bx2.out) 1 (Nat.le_refl _)
            refine oper_lines (by rfl) _ _ rfl (wr.drew.alloc (.cells #[.string X1] 9)).heap.size alc nc clc L rfl hnc.out ow2.out (.slice (some ⟨wr.heap.size, 0, none⟩) 1 1) rfl 1 [bu] (src_rd hsl) (by have := HLN.out; simp only [List.length_cons, List.length_nil]; omega) (by have hq := zov5; simp at hq ⊢; try omega) ?_
            intro al4 n4 cl4 v6 hn4 ho4 hb4
            have e6 : Below wr.heap.size wr.drew v6 := hb4 wr.heap.size wr.drew (by first | exact Nat.le_refl _ | (simp; try omega)) e5
            clear hb4
            refine hK.out _ _ e6 (fun hHeld => ?_)
            clear hK K
            (try simp only [Act.put]); (try simp only [List.setIfInBounds_toArray]); (try simp only [List.set_cons_succ]); (try simp only [List.set_cons_zero])
            refine wpAnyH_take (i := 6) (oi := { dst := some 53, op := Go.Op.call { callee := Go.Callee.builtin Go.Builtin.len, args := #[Go.Operand.tmp 52], argTypes := #[31] }, type := 3, pos := _, after := #[{ on := 5, ground := Go.Ground.data }], guard := none }) (v := .int .i64 (n4 : Int)) rfl (by kernel_rfl) (by kernel_rfl) (by kernel_rfl) (fun _ _ _ h => h) (Or.inl ⟨by rfl, fun w' hSw => ?_⟩) (by assumption) ?_
            · (try dsimp only at hSw); go_simp
            (try simp only [Act.put]); (try simp only [List.setIfInBounds_toArray]); (try simp only [List.set_cons_succ]); (try simp only [List.set_cons_zero])
            refine wpAnyH_done (by kernel_rfl) ?_ _
            refine NoPanic.normal ?_
            have BK2 := Hid.mk' (BKD.out.later e6)
            have BM2 := Hid.mk' (BMD.out.later e6)
            have BX2 := Hid.mk' (BXD.out.later e6)
            have HB2 := Hid.mk' (HBD.out.trans (Below.mono e6 (by have h := HBD.out.size; exact h)))
            have HR2 := Hid.mk' (HRA _ e6)
            have HA4 := Hid.mk' (rd_n (by rw [hn4.out]) ho4.out)
            obtain rfl : n4 = (L ++ [bu]).length := hn4.out
            clear hn4 ho4 e6
            generalize hwA : v6 = wA at *
            clear hwA
            obtain ⟨a4, c4, e4, hc4, hr4⟩ := HA4.out
            simp only [Value.slice.injEq, List.length_map] at e4
            obtain ⟨rfl, _, rfl⟩ := e4
            rcases hr4 with h0 | ⟨b4, o4, rfl, t4, hb4⟩
            · simp at h0
            have HC4 : Hid (∀ j (h : j < (L ++ [bu]).length), wA.cell? ⟨b4, o4 + j, none⟩ = some (.string (bs ((L ++ [bu])[j])))) := fun j h => by rw [t4 j (by rw [List.length_map]; exact h), List.getElem_map]
            obtain ⟨a5, c5, e5, hc5, hr5⟩ := HR2.out
            simp only [Value.slice.injEq, List.length_map] at e5
            obtain ⟨rfl, _, rfl⟩ := e5
            have HR5 : Hid (0 < L.length → ∃ b5 o5, al1 = some ⟨b5, o5, none⟩ ∧ b5 < wA.heap.size ∧ ∀ j (h : j < L.length), wA.cell? ⟨b5, o5 + j, none⟩ = some (.string (bs (L[j])))) := fun h9 => by
              rcases hr5 with h0 | ⟨b5, o5, e6, t5, hb5⟩
              · have := congrArg List.length h0; rw [List.length_map] at this; simp only [List.length_nil] at this; omega
              · exact ⟨b5, o5, e6, hb5, fun j h => by rw [t5 j (by rw [List.length_map]; exact h), List.getElem_map]⟩
            clear hr5 t4 hc4 hc5
            have g3 : ((L ++ [bu]).length : Int) ≤ 4097 := by have := HLN.out; simp only [List.length_append, List.length_singleton]; omega
            have g4 : (L.length : Int) ≤ 4096 := by have := HLN.out; omega
            generalize hL2 : L ++ [bu] = L2 at *
            clear hL2
            have g2 : (L2.length : Int) = (L2.length : Int) := rfl
            go_wp2_with fail
            go_loopg [54] L2.length (fun g s54 wq => ∃ n : Nat, n ≤ L2.length ∧ L2.length - n ≤ g ∧ s54 = .int .i64 (n : Int) ∧ Hid (Below wA.heap.size wA wq))
            case atStart => exact ⟨0, Nat.zero_le _, by omega, rfl, Below.refl _ _⟩
            case round =>
              obtain ⟨n, hn, hg, rfl, HW⟩ := hrel
              have HG := Hid.mk' hg
              clear hg
              obtain ⟨wq, hwq⟩ : ∃ wq, wq = wr := ⟨_, rfl⟩
              subst hwq
              by_cases hlt : n < L2.length
              · have e1 : wq.cell? ⟨b4, o4 + n, none⟩ = some (.string (bs (L2[n]'hlt))) := (HW.out.cell (p := ⟨b4, o4 + n, none⟩) hb4).trans (HC4.out n hlt)
                have HIN1 := Hid.mk' (HIN.out _ (List.getElem_mem hlt))
                have HLN1 := HLEN.out _ (List.getElem_mem hlt)
                have BK3 := Hid.mk' (BK2.out.later HW.out)
                have BM3 := Hid.mk' (BM2.out.later HW.out)
                clear HC4 HIN HLEN BK2 BM2 BX2 HB2 HR2 HA4 HR5 HWH HJN
                generalize L2[n]'hlt = t at *
                have hst := bs_size t
                have HGt : Hid (∀ n (h : n < t.length) (h2 : n < (bs t).size), (bs t)[n]'h2 = t[n]'h) := fun n h h2 => bs_get t n h h2
                generalize bs t = tt at *
                have hz2 : (n : Int) < (L2.length : Int) := by omega
                go_wp2_with fail
                go_loopg [15] t.length (fun g s15 wz => ∃ j : Nat, j ≤ t.length ∧ t.length - j ≤ g ∧ s15 = .int .i64 (j : Int) ∧ Hid (Below wq.heap.size wq wz))
                case atStart => exact ⟨0, Nat.zero_le _, by omega, rfl, Below.refl _ _⟩
                case round =>
                  obtain ⟨j, hj, hgj, rfl, HQ⟩ := hrel
                  have HGJ := Hid.mk' hgj
                  clear hgj
                  have hj0 : (j : Int) + 1 ≤ 9223372036854775807 := by omega
                  by_cases hjl : j + 1 < t.length
                  · have hjt : j < t.length := by omega
                    have hgt := HGt.out j hjt (by rw [hst]; exact hjt)
                    have HS := Hid.mk' (HEN.out (t[j]'hjt) _ _ wr (BK3.out.later HQ.out) (BM3.out.later HQ.out))
                    have hf := HIN1.out j hjl
                    rw [hf] at HS
                    have hj1 : (j : Int) + 1 < (t.length : Int) := by omega
                    clear HIN1 HGt hf
                    generalize t[j]'hjt = cc at *
                    go_wp2_with fail
                    refine HS.out.mono ?_
                    rintro e wv ⟨rfl, hv⟩
                    have HQ2 := Hid.mk' (HQ.out.trans (Below.mono hv HQ.out.size))
                    clear hv
                    go_wp2
                    go_roundg (t.length - (j + 1))
                    case measure => have := HGJ.out; omega
                    case rel => exact ⟨j + 1, by omega, Nat.le_refl _, by go_num, HQ2⟩
                  · have hj1 : ¬ (j : Int) + 1 < (t.length : Int) := by omega
                    have HW2 := Hid.mk' (HW.out.trans (Below.mono HQ.out HW.out.size))
                    clear HIN1 HGt
                    go_wp2
                    go_roundg (L2.length - (n + 1))
                    case measure => have := HG.out; omega
                    case rel => exact ⟨n + 1, by omega, Nat.le_refl _, by go_num, HW2⟩
              · obtain rfl : n = L2.length := by omega
                have BX6 := Hid.mk' (BX2.out.later HW.out)
                have BK6 := Hid.mk' (BK2.out.later HW.out)
                have BM6 := Hid.mk' (BM2.out.later HW.out)
                have HB6 := Hid.mk' (HB2.out.trans (Below.mono HW.out HB2.out.size))
                have HR6 := Hid.mk' (HR2.out.below HW.out)
                have HR7 : Hid (0 < L.length → ∃ b5 o5, al1 = some ⟨b5, o5, none⟩ ∧ b5 < wq.heap.size ∧ ∀ j (h : j < L.length), wq.cell? ⟨b5, o5 + j, none⟩ = some (.string (bs (L[j])))) := fun h9 => by
                  obtain ⟨b5, o5, e6, h6, h7⟩ := HR5.out h9
                  exact ⟨b5, o5, e6, by have := HW.out.size; omega, fun j h => (HW.out.cell (p := ⟨b5, o5 + j, none⟩) h6).trans (h7 j h)⟩
                clear HC4 HIN HLEN BK2 BM2 BX2 HB2 HR2 HA4 HR5 HG HW
                go_wp2_with fail
                go_loopg [73] L.length (fun g s73 wy => ∃ n : Nat, n ≤ L.length ∧ L.length - n ≤ g ∧ s73 = .int .i64 (n : Int) ∧ Hid (Below wq.heap.size wq wy))
                case atStart => exact ⟨0, Nat.zero_le _, by omega, rfl, Below.refl _ _⟩
                case round =>
                  obtain ⟨n, hn, hg, rfl, HW⟩ := hrel
                  have HG := Hid.mk' hg
                  clear hg
                  by_cases hlt3 : n < L.length
                  · obtain ⟨b5, o5, rfl, h6, h7⟩ := HR7.out (by omega)
                    have e1 : wr.cell? ⟨b5, o5 + n, none⟩ = some (.string (bs (L[n]'hlt3))) := (HW.out.cell (p := ⟨b5, o5 + n, none⟩) h6).trans (h7 n hlt3)
                    obtain ⟨u, hu, hz3, hcase⟩ := HWH.out _ (List.getElem_mem hlt3)
                    have BK8 := Hid.mk' (BK6.out.later HW.out)
                    have BM8 := Hid.mk' (BM6.out.later HW.out)
                    clear HR7 h7 HWH HJN BX6 HR6
                    generalize L[n]'hlt3 = t at *
                    have hst := bs_size t
                    rw [hu] at hst
                    have hgt := bs_get t u (by omega) (by rw [hst]; omega)
                    have HS := Hid.mk' (HEN.out (t[u]'(by omega)) _ _ wr BK8.out BM8.out)
                    have hem1 : (bs t).toList.isEmpty = false := by
                      rw [ByteArray.toList_eq]
                      cases t with
                      | nil => simp at hu
                      | cons a r => rfl
                    have hem2 : ((bs t).toList == []) = false := by
                      rw [ByteArray.toList_eq]
                      cases t with
                      | nil => simp at hu
                      | cons a r => rfl
                    have hcs : isEnd k M (t[u]'(by omega)) = true ∨ (isEnd k M (t[u]'(by omega)) = false ∧ u = 1023) := by
                      rcases hcase with h | ⟨h, h2⟩
                      · cases he : isEnd k M (t[u]'(by omega)) with
                        | true => exact .inl rfl
                        | false => exact .inr ⟨rfl, by omega⟩
                      · exact .inl h2
                    clear hcase
                    generalize isEnd k M (t[u]'(by omega)) = en at *
                    generalize t[u]'(by omega) = cc at *
                    generalize bs t = tt at *
                    have HCS := Hid.mk' hcs
                    clear hcs hu
                    go_wp2_with fail
                    refine HS.out.mono ?_
                    rintro e wv ⟨rfl, hv⟩
                    have HW2 := Hid.mk' (HW.out.trans (Below.mono hv HW.out.size))
                    clear hv
                    rcases HCS.out with rfl | ⟨rfl, rfl⟩
                    · go_wp2
                      go_roundg (L.length - (n + 1))
                      case measure => have := HG.out; omega
                      case rel => exact ⟨n + 1, by omega, Nat.le_refl _, by go_num, HW2⟩
                    · go_wp2
                      go_roundg (L.length - (n + 1))
                      case measure => have := HG.out; omega
                      case rel => exact ⟨n + 1, by omega, Nat.le_refl _, by go_num, HW2⟩
                  · obtain rfl : n = L.length := by omega
                    have HJ7 := Hid.mk' (HJN.out wr.drew cl1 ((HR6.out.below HW.out).below (Below.refl _ _).drew))
                    have BX7 := Hid.mk' (BX6.out.later HW.out).drew
                    have HB7 := Hid.mk' (HB6.out.trans (Below.mono HW.out HB6.out.size)).drew
                    have hE7 : Below wr.heap.size wr.drew wr.drew := Below.refl _ _
                    have lx0 : ∀ w', Below wr.heap.size wr.drew w' → w'.cell? ⟨w3.heap.size, 0, none⟩ = some (.string X1) := fun w' h => (BX7.out.later h).cell (j := 0) rfl
                    have lx1 : ∀ w', Below wr.heap.size wr.drew w' → w'.cell? ⟨w3.heap.size, 1, none⟩ = some (.bool false) := fun w' h => (BX7.out.later h).cell (j := 1) rfl
                    have hjt7 := HJT.out
                    clear HJN HR6 HR7 HWH BX6 BK6 BM6 HB6 HG HW
                    go_wp2_with fail
                    refine wp_region_noPanic ?_
                    refine wp_region_held_drew (S := fun w' => Below wr.heap.size wr.drew w') (by kernel_rfl) hE7 (fun hHeld => ?_)
                    refine wpAnyH_take (i := 0) (oi := { dst := some 95, op := Go.Op.move (Go.Operand.tmp 8), type := 31, pos := _, after := #[], guard := none }) (v := .slice al1 L.length cl1) rfl (by kernel_rfl) (by kernel_rfl) (by kernel_rfl) (fun _ _ _ h => h) (Or.inl ⟨by rfl, fun w' hSw => ?_⟩) (by assumption) ?_
                    · (try dsimp only at hSw); go_simp
                    (try simp only [Act.put]); (try simp only [List.setIfInBounds_toArray]); (try simp only [List.set_cons_succ]); (try simp only [List.set_cons_zero])
                    refine wpAnyH_take (i := 2) (oi := { dst := some 97, op := Go.Op.fieldAddr 23 (Go.Operand.tmp 7) 0, type := 0, pos := _, after := #[], guard := none }) (v := .pointer (some ⟨w3.heap.size, 0, none⟩)) rfl (by kernel_rfl) (by kernel_rfl) (by kernel_rfl) (fun _ _ _ h => h) (Or.inl ⟨by rfl, fun w' hSw => ?_⟩) (by assumption) ?_
                    · (try dsimp only at hSw); go_simp
                    (try simp only [Act.put]); (try simp only [List.setIfInBounds_toArray]); (try simp only [List.set_cons_succ]); (try simp only [List.set_cons_zero])
                    refine wpAnyH_take (i := 3) (oi := { dst := some 98, op := Go.Op.load 9 (Go.Operand.tmp 97), type := 9, pos := _, after := #[{ on := 2, ground := Go.Ground.data }], guard := none }) (v := .string X1) rfl (by kernel_rfl) (by kernel_rfl) (by kernel_rfl) (fun _ _ _ h => h) (Or.inl ⟨by rfl, fun w' hSw => ?_⟩) (by assumption) ?_
                    · have c0 := lx0 _ hSw; go_simp
                    (try simp only [Act.put]); (try simp only [List.setIfInBounds_toArray]); (try simp only [List.set_cons_succ]); (try simp only [List.set_cons_zero])
                    refine wpAnyH_take (i := 5) (oi := { dst := some 100, op := Go.Op.move (Go.Operand.tmp 2), type := 9, pos := _, after := #[], guard := none }) (v := .string T1) rfl (by kernel_rfl) (by kernel_rfl) (by kernel_rfl) (fun _ _ _ h => h) (Or.inl ⟨by rfl, fun w' hSw => ?_⟩) (by assumption) ?_
                    · (try dsimp only at hSw); go_simp
                    (try simp only [Act.put]); (try simp only [List.setIfInBounds_toArray]); (try simp only [List.set_cons_succ]); (try simp only [List.set_cons_zero])
                    refine wpAnyH_ready (rs := [1]) (by kernel_rfl) (by simp) ?_
                    refine AllReadyH.cons (o := { dst := some 96, op := Go.Op.call { callee := Go.Callee.value (Go.Operand.func 19), args := #[Go.Operand.tmp 95, Go.Operand.const (Go.Value.string { data := #[] })], argTypes := #[31, 9] }, type := 9, pos := _, after := #[{ on := 0, ground := Go.Ground.data }], guard := none }) rfl (fun K hK => ?_) ?_
                    · skip
                      go_simp
                      refine HJ7.out.mono ?_
                      rintro e v1 ⟨rfl, hbv1⟩
                      have e1 : Below wr.heap.size wr.drew v1 := Below.trans hE7 (Below.mono hbv1 (by have hz := Below.size hE7; exact hz))
                      go_wp2_with fail
                      refine hK.out _ _ e1 (fun hHeld => ?_)
                      clear hK K
                      (try simp only [Act.put]); (try simp only [List.setIfInBounds_toArray]); (try simp only [List.set_cons_succ]); (try simp only [List.set_cons_zero])
                      refine wpAnyH_take (i := 4) (oi := { dst := some 99, op := Go.Op.binOp Go.BinOp.add 9 (Go.Operand.tmp 96) (Go.Operand.tmp 98) 9, type := 9, pos := _, after := #[{ on := 1, ground := Go.Ground.data }, { on := 3, ground := Go.Ground.data }], guard := none }) (v := .string T1) rfl (by kernel_rfl) (by kernel_rfl) (by kernel_rfl) (fun _ _ _ h => h) (Or.inl ⟨by rfl, fun w' hSw => ?_⟩) (by assumption) ?_
                      · (try dsimp only at hSw); go_simp; (try rw [hjt7]); (try (rw [← List.length_flatten]; first | exact j1 | omega))
                      (try simp only [Act.put]); (try simp only [List.setIfInBounds_toArray]); (try simp only [List.set_cons_succ]); (try simp only [List.set_cons_zero])
                      refine wpAnyH_take (i := 6) (oi := { dst := some 101, op := Go.Op.binOp Go.BinOp.eql 9 (Go.Operand.tmp 99) (Go.Operand.tmp 100) 9, type := 4, pos := _, after := #[{ on := 4, ground := Go.Ground.data }, { on := 5, ground := Go.Ground.data }], guard := none }) (v := .bool true) rfl (by kernel_rfl) (by kernel_rfl) (by kernel_rfl) (fun _ _ _ h => h) (Or.inl ⟨by rfl, fun w' hSw => ?_⟩) (by assumption) ?_
                      · (try dsimp only at hSw); go_simp
                      (try simp only [Act.put]); (try simp only [List.setIfInBounds_toArray]); (try simp only [List.set_cons_succ]); (try simp only [List.set_cons_zero])
                      refine wpAnyH_take (i := 7) (oi := { dst := some 102, op := Go.Op.move (Go.Operand.tmp 101), type := 4, pos := _, after := #[{ on := 6, ground := Go.Ground.data }, { on := 1, ground := Go.Ground.chain }], guard := none }) (v := .bool true) rfl (by kernel_rfl) (by kernel_rfl) (by kernel_rfl) (fun _ _ _ h => h) (Or.inl ⟨by rfl, fun w' hSw => ?_⟩) (by assumption) ?_
                      · (try dsimp only at hSw); go_simp
                      (try simp only [Act.put]); (try simp only [List.setIfInBounds_toArray]); (try simp only [List.set_cons_succ]); (try simp only [List.set_cons_zero])
                      refine wpAnyH_take (i := 8) (oi := { dst := some 103, op := Go.Op.move (Go.Operand.tmp 9), type := 9, pos := _, after := #[{ on := 7, ground := Go.Ground.guard }], guard := some (7, true) }) (v := .string T1) rfl (by kernel_rfl) (by kernel_rfl) (by kernel_rfl) (fun _ _ _ h => h) (Or.inl ⟨by rfl, fun w' hSw => ?_⟩) (by assumption) ?_
                      · (try dsimp only at hSw); go_simp
                      (try simp only [Act.put]); (try simp only [List.setIfInBounds_toArray]); (try simp only [List.set_cons_succ]); (try simp only [List.set_cons_zero])
                      refine wpAnyH_take (i := 9) (oi := { dst := some 104, op := Go.Op.move (Go.Operand.tmp 2), type := 9, pos := _, after := #[{ on := 7, ground := Go.Ground.guard }], guard := some (7, true) }) (v := .string T1) rfl (by kernel_rfl) (by kernel_rfl) (by kernel_rfl) (fun _ _ _ h => h) (Or.inl ⟨by rfl, fun w' hSw => ?_⟩) (by assumption) ?_
                      · (try dsimp only at hSw); go_simp
                      (try simp only [Act.put]); (try simp only [List.setIfInBounds_toArray]); (try simp only [List.set_cons_succ]); (try simp only [List.set_cons_zero])
                      refine wpAnyH_take (i := 10) (oi := { dst := some 105, op := Go.Op.binOp Go.BinOp.eql 9 (Go.Operand.tmp 103) (Go.Operand.tmp 104) 9, type := 4, pos := _, after := #[{ on := 8, ground := Go.Ground.data }, { on := 9, ground := Go.Ground.data }, { on := 7, ground := Go.Ground.guard }], guard := some (7, true) }) (v := .bool true) rfl (by kernel_rfl) (by kernel_rfl) (by kernel_rfl) (fun _ _ _ h => h) (Or.inl ⟨by rfl, fun w' hSw => ?_⟩) (by assumption) ?_
                      · (try dsimp only at hSw); go_simp
                      (try simp only [Act.put]); (try simp only [List.setIfInBounds_toArray]); (try simp only [List.set_cons_succ]); (try simp only [List.set_cons_zero])
                      refine wpAnyH_take (i := 11) (oi := { dst := some 106, op := Go.Op.pick (Go.Operand.tmp 102) (Go.Operand.tmp 105) (Go.Operand.const (Go.Value.bool false)), type := 4, pos := _, after := #[{ on := 7, ground := Go.Ground.data }, { on := 10, ground := Go.Ground.data }], guard := none }) (v := .bool true) rfl (by kernel_rfl) (by kernel_rfl) (by kernel_rfl) (fun _ _ _ h => h) (Or.inl ⟨by rfl, fun w' hSw => ?_⟩) (by assumption) ?_
                      · (try dsimp only at hSw); go_simp
                      (try simp only [Act.put]); (try simp only [List.setIfInBounds_toArray]); (try simp only [List.set_cons_succ]); (try simp only [List.set_cons_zero])
                      refine wpAnyH_take (i := 12) (oi := { dst := some 107, op := Go.Op.move (Go.Operand.tmp 106), type := 4, pos := _, after := #[{ on := 11, ground := Go.Ground.data }, { on := 7, ground := Go.Ground.chain }], guard := none }) (v := .bool true) rfl (by kernel_rfl) (by kernel_rfl) (by kernel_rfl) (fun _ _ _ h => h) (Or.inl ⟨by rfl, fun w' hSw => ?_⟩) (by assumption) ?_
                      · (try dsimp only at hSw); go_simp
                      (try simp only [Act.put]); (try simp only [List.setIfInBounds_toArray]); (try simp only [List.set_cons_succ]); (try simp only [List.set_cons_zero])
                      refine wpAnyH_take (i := 13) (oi := { dst := some 108, op := Go.Op.fieldAddr 23 (Go.Operand.tmp 7) 1, type := 0, pos := _, after := #[{ on := 12, ground := Go.Ground.guard }], guard := some (12, true) }) (v := .pointer (some ⟨w3.heap.size, 1, none⟩)) rfl (by kernel_rfl) (by kernel_rfl) (by kernel_rfl) (fun _ _ _ h => h) (Or.inl ⟨by rfl, fun w' hSw => ?_⟩) (by assumption) ?_
                      · (try dsimp only at hSw); go_simp
                      (try simp only [Act.put]); (try simp only [List.setIfInBounds_toArray]); (try simp only [List.set_cons_succ]); (try simp only [List.set_cons_zero])
                      refine wpAnyH_take (i := 14) (oi := { dst := some 109, op := Go.Op.load 4 (Go.Operand.tmp 108), type := 4, pos := _, after := #[{ on := 13, ground := Go.Ground.data }, { on := 12, ground := Go.Ground.guard }], guard := some (12, true) }) (v := .bool false) rfl (by kernel_rfl) (by kernel_rfl) (by kernel_rfl) (fun _ _ _ h => h) (Or.inl ⟨by rfl, fun w' hSw => ?_⟩) (by assumption) ?_
                      · have c1 := lx1 _ hSw; go_simp
                      (try simp only [Act.put]); (try simp only [List.setIfInBounds_toArray]); (try simp only [List.set_cons_succ]); (try simp only [List.set_cons_zero])
                      refine wpAnyH_take (i := 15) (oi := { dst := some 110, op := Go.Op.unOp Go.UnOp.not 4 (Go.Operand.tmp 109), type := 4, pos := _, after := #[{ on := 14, ground := Go.Ground.data }, { on := 12, ground := Go.Ground.guard }], guard := some (12, true) }) (v := .bool true) rfl (by kernel_rfl) (by kernel_rfl) (by kernel_rfl) (fun _ _ _ h => h) (Or.inl ⟨by rfl, fun w' hSw => ?_⟩) (by assumption) ?_
                      · (try dsimp only at hSw); go_simp
                      (try simp only [Act.put]); (try simp only [List.setIfInBounds_toArray]); (try simp only [List.set_cons_succ]); (try simp only [List.set_cons_zero])
                      refine wpAnyH_take (i := 16) (oi := { dst := some 111, op := Go.Op.pick (Go.Operand.tmp 107) (Go.Operand.tmp 110) (Go.Operand.const (Go.Value.bool false)), type := 4, pos := _, after := #[{ on := 12, ground := Go.Ground.data }, { on := 15, ground := Go.Ground.data }], guard := none }) (v := .bool true) rfl (by kernel_rfl) (by kernel_rfl) (by kernel_rfl) (fun _ _ _ h => h) (Or.inl ⟨by rfl, fun w' hSw => ?_⟩) (by assumption) ?_
                      · (try dsimp only at hSw); go_simp
                      (try simp only [Act.put]); (try simp only [List.setIfInBounds_toArray]); (try simp only [List.set_cons_succ]); (try simp only [List.set_cons_zero])
                      refine wpAnyH_take (i := 17) (oi := { dst := some 6, op := Go.Op.assign (Go.Operand.tmp 111), type := 4, pos := _, after := #[{ on := 16, ground := Go.Ground.data }, { on := 12, ground := Go.Ground.chain }, { on := 0, ground := Go.Ground.phase }, { on := 1, ground := Go.Ground.phase }, { on := 2, ground := Go.Ground.phase }, { on := 3, ground := Go.Ground.phase }, { on := 4, ground := Go.Ground.phase }, { on := 5, ground := Go.Ground.phase }, { on := 6, ground := Go.Ground.phase }, { on := 7, ground := Go.Ground.phase }, { on := 8, ground := Go.Ground.phase }, { on := 9, ground := Go.Ground.phase }, { on := 10, ground := Go.Ground.phase }, { on := 11, ground := Go.Ground.phase }, { on := 12, ground := Go.Ground.phase }, { on := 13, ground := Go.Ground.phase }, { on := 14, ground := Go.Ground.phase }, { on := 15, ground := Go.Ground.phase }, { on := 16, ground := Go.Ground.phase }], guard := none }) (v := .bool true) rfl (by kernel_rfl) (by kernel_rfl) (by kernel_rfl) (fun _ _ _ h => h) (Or.inl ⟨by rfl, fun w' hSw => ?_⟩) (by assumption) ?_
                      · (try dsimp only at hSw); go_simp
                      (try simp only [Act.put]); (try simp only [List.setIfInBounds_toArray]); (try simp only [List.set_cons_succ]); (try simp only [List.set_cons_zero])
                      refine wpAnyH_done (by kernel_rfl) ?_ _
                      refine NoPanic.normal ?_
                      have HF := Hid.mk' (HB7.out.trans (Below.mono e1 (by have h := HB7.out.size; exact h)))
                      clear e1
                      go_wp2
                      go_ret
                      exact ⟨rfl, HF.out⟩
                    exact AllReadyH.nil
          exact AllReadyH.nil
        exact AllReadyH.nil
      exact AllReadyH.nil

theorem LinePlain_any (k : List UInt8) (hk : k.length = 38) (M : List Nat) (hM : H.okW M) (T : List UInt8) (w : World) :
    Calls Tryd.prog 5 #[.agg (bcells k).toArray, .agg (H.ucells M).toArray, .string (bs T)] w fun e w' => e = .returned (.bool true) ∧ Below w.heap.size w w' := by
  by_cases hr : ref 0 k T.length = 0
  · exact LinePlain_ok k hk M hM T w hr
  · exact LinePlain_bad k hk M hM T w hr
end Go.Proofs.YtomgnnbcaficaaaDoor.L
