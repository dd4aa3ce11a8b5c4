/-
  farkeep.UtfBack returns true; conditions: the two tables of unicode/utf8 hold what their initialisers lay; at most 1048576 numbers.
-/
import Derived.Test.YtjnopjjbndknfaaDoorUApp
import Derived.Test.YtjnopjjbndknfaaDoorURune
namespace Go.Proofs.YtjnopjjbndknfaaDoor.U
open Go.RowKit Go.Lib Go.Proofs.YtjnopjjbndknfaaDoor

theorem setCell_block {w : World} {b : Nat} {arr : Array Value} {T : TypeId} {fz : Nat × Nat} (h : w.heap[b]? = some (.cells arr T fz)) (j : Nat) (v : Value) : (w.setCell ⟨b, j, none⟩ v).heap[b]? = some (.cells (arr.setIfInBounds j v) T fz) := by
  rw [setCell_eq_setRow w b j arr T fz v h]
  exact setRow_heap w b arr _ T fz h

theorem own_set {w : World} {base g n cap : Nat} {e : TypeId} {xs : List Value} (h : OwnR w base e 1 (.slice (some ⟨g, 0, none⟩) n cap) n xs) (k : Nat) (hk : k < n) (u : Value) :
    OwnR (w.setCell ⟨g, k, none⟩ u) base e 1 (.slice (some ⟨g, 0, none⟩) n cap) n (xs.set k u) ∧ base ≤ g ∧ (∃ x, w.cell? ⟨g, k, none⟩ = some x ∧ xs[k]? = some x) ∧ w.frozen? ⟨g, k, none⟩ = false := by
  obtain ⟨hlen, h2⟩ := h
  rcases h2 with ⟨e0, _⟩ | ⟨g', cap', cur, fz, e0, hb, hg, hf, hnc, hcm, hcs, ht⟩
  · simp at e0
  · simp only [Value.slice.injEq, Option.some.injEq, Addr.mk.injEq, and_true, true_and] at e0
    obtain ⟨rfl, rfl⟩ := e0
    have hsz : k < cur.size := by omega
    have hxs : xs[k]? = some cur[k] := by
      rw [← ht, List.getElem?_take, if_pos (by omega)]
      simp [hsz]
    refine ⟨⟨by simpa using hlen, .inr ⟨g, cap, cur.setIfInBounds k u, fz, rfl, hb, setCell_block hg k u, ?_, hnc, hcm, by simpa using hcs, ?_⟩⟩, hb, ⟨cur[k], ?_, hxs⟩, ?_⟩
    · rcases hf with h | h
      · exact .inl h
      · exact .inr (by simpa using h)
    · rw [Array.toList_setIfInBounds, ← ht, List.take_set]
    · rw [cell_of_row w g k cur e fz hg]; simp [hsz]
    · simp only [World.frozen?, hg]
      rcases hf with rfl | h
      · simp
      · simp; omega

def fixZ (c : Int) : Int := if runeZ c = true then c else 65533
theorem fixZ_eq (c : Int) : fixZ c = ((fixR c : Nat) : Int) := by
  unfold fixZ fixR runeZ
  simp only [decide_eq_true_eq]
  by_cases h : (0 ≤ c ∧ c ≤ 55295) ∨ (57344 ≤ c ∧ c ≤ 1114111)
  · rw [if_pos h, if_pos (by omega)]; omega
  · rw [if_neg h, if_neg (by omega)]; rfl
def fixTo (k : Nat) (l : List Int) : List Int := (l.take k).map fixZ ++ l.drop k
theorem fixTo_len (k : Nat) (l : List Int) : (fixTo k l).length = l.length := by
  simp only [fixTo, List.length_append, List.length_map, List.length_take, List.length_drop]; omega
theorem fixTo_at (k : Nat) (l : List Int) (h : k < l.length) : (icells (fixTo k l))[k]? = some (.int .i64 l[k]) := by
  have : (fixTo k l)[k]? = some l[k] := by
    unfold fixTo
    rw [List.getElem?_append_right (by simp; omega)]
    simp [List.getElem?_drop, show min k l.length = k by omega, h]
  simp [icells, this]
theorem fixTo_step (k : Nat) (l : List Int) (h : k < l.length) : fixTo (k + 1) l = (fixTo k l).set k (fixZ l[k]) := by
  unfold fixTo
  have e1 : (l.take k).map fixZ ++ l.drop k = (l.take k).map fixZ ++ l[k] :: l.drop (k + 1) := by rw [List.drop_eq_getElem_cons h]
  have hlen : ((l.take k).map fixZ).length = k := by simp; omega
  rw [e1, List.set_append, if_neg (by omega), hlen, Nat.sub_self, List.set_cons_zero, List.take_succ_eq_append_getElem h, List.map_append, List.append_assoc]
  rfl
theorem fixTo_same (k : Nat) (l : List Int) (h : k < l.length) (hr : runeZ l[k] = true) : fixTo (k + 1) l = fixTo k l := by
  have : fixZ l[k] = l[k] := by unfold fixZ; rw [if_pos hr]
  unfold fixTo
  have e1 : (l.take k).map fixZ ++ l.drop k = (l.take k).map fixZ ++ l[k] :: l.drop (k + 1) := by rw [List.drop_eq_getElem_cons h]
  rw [e1, List.take_succ_eq_append_getElem h, List.map_append, List.append_assoc, List.map_cons, List.map_nil, this]
  rfl
theorem fixTo_all (l : List Int) : fixTo l.length l = ints (l.map fixR) := by
  unfold fixTo ints
  simp only [List.take_length, List.drop_length, List.append_nil, List.map_map]
  exact List.map_congr_left fun c _ => fixZ_eq c

def WState (w : World) (l : List Int) (B : Nat) (v i : Value) (wr : World) : Prop :=
  ∃ k : Nat, k ≤ l.length ∧ i = .int .i64 (k : Int) ∧ OwnR wr B 3 1 v l.length (icells (fixTo k l)) ∧ Below w.heap.size w wr ∧ w.heap.size ≤ B

set_option maxHeartbeats 8000000 in
set_option maxRecDepth 100000 in
theorem Back_neg (v0 : Value) (l : List Int) (at0 : Int) (w : World) (hT : Tabs w) (hv : RdI w v0 l) (hl : l.length ≤ 1048576) (A : Nat) (hA : A ≤ (encAll l).length) (hA0 : A = 0) (hat : at0 < 0) :
    Calls Tryd.prog 7 #[v0, .int .i64 at0] w fun e w' => e = .returned (.bool true) ∧ Below w.heap.size w w' := by
  have HCL := Hid.mk' (Clone_any w v0 l hv (by omega))
  have HEN : Hid (∀ wr, Below w.heap.size w wr → _) := fun wr hb => Encode_any v0 l wr (hv.below hb) (by omega)
  have HTB : Hid (∀ wr, Below w.heap.size w wr → Tabs wr) := fun wr hb => hT.below hb
  have HL : Hid (∀ wr, Below w.heap.size w wr → Calls Tryd.prog 25 #[] wr fun e w' => e = .returned (.bool true) ∧ Below wr.heap.size wr w') := fun wr hb => lives_any wr (hT.below hb)
  have hEl := encAll_len l
  have happ := rd_app _ ((encAll l).take A) ((encAll l).drop A) (Nat.le_refl _)
  rw [List.take_append_drop, rd_encAll] at happ
  have hx := rd_left _ ((encAll l).take A) (Nat.le_refl _)
  have hx2 := (rd_left _ ((rd ((encAll l).take A)).1 ++ (encAll l).drop A) (Nat.le_refl _)).2
  have hy : (rd ((rd ((encAll l).take A)).1 ++ (encAll l).drop A)).1 = [] := by rw [Prod.ext_iff] at happ; exact happ.1.symm
  have HLW : Hid (ints (rd ((encAll l).take A)).2 ++ ints (rd ((rd ((encAll l).take A)).1 ++ (encAll l).drop A)).2 = ints (l.map fixR)) := by
    rw [Prod.ext_iff] at happ
    have := happ.2
    simp only at this
    show _ = _
    rw [this]; simp [ints]
  have htl : ((encAll l).take A).length ≤ (encAll l).length := List.length_take_le' _ _
  have hdl : ((encAll l).drop A).length ≤ (encAll l).length := by simp
  have HF1 : Hid (∀ wr, Below w.heap.size w wr → _) := fun wr hb => Feed_ok [] ((encAll l).take A) wr (hT.below hb) (.inl rfl) (by simp only [List.length_nil]; omega)
  have HF2 : Hid (∀ wr, Below w.heap.size w wr → _) := fun wr hb => Feed_ok (rd ((encAll l).take A)).1 ((encAll l).drop A) wr (hT.below hb) hx.1 (by have := hx.2; omega)
  rw [hy] at HF2
  simp only [List.nil_append] at HF1
  have xt := take_list (encAll l) A
  have xd := rest_list (encAll l) A
  have hEs : (⟨(encAll l).toArray⟩ : ByteArray).size = (encAll l).length := by simp [ByteArray.size]
  have hk1 : (ints (rd ((encAll l).take A)).2).length ≤ 4194304 := by have := hx.2; simp [ints]; omega
  have hk2 : (ints (rd ((rd ((encAll l).take A)).1 ++ (encAll l).drop A)).2).length ≤ 8388608 := by have := hx.2; rw [List.length_append] at hx2; simp [ints]; omega
  have hA2 : (A : Int) ≤ ((⟨(encAll l).toArray⟩ : ByteArray).size : Int) := by omega
  have hES : (⟨(encAll l).toArray⟩ : ByteArray).size ≤ 4194304 := by omega

  clear happ hx hx2 hy htl hdl hEl hA hEs
  generalize ints (rd ((rd ((encAll l).take A)).1 ++ (encAll l).drop A)).2 = L2 at *
  generalize ints (rd ((encAll l).take A)).2 = L1 at *
  generalize (⟨(rd ((encAll l).take A)).1.toArray⟩ : ByteArray) = SX at *
  generalize (⟨((encAll l).take A).toArray⟩ : ByteArray) = ST at *
  generalize (⟨((encAll l).drop A).toArray⟩ : ByteArray) = SD at *
  generalize (⟨(encAll l).toArray⟩ : ByteArray) = SE at *
  have e0 : ST = ByteArray.empty := by rw [← xt, hA0]; simp
  have e1 : SD = SE := by rw [← xd, hA0]; simp
  subst e0
  subst e1
  clear xt xd hA0 hA2
  clear hT hv
  go_enter Tryd.func7, Tryd.ntmps7
  go_wp2_with fail
  refine HCL.out.mono ?_
  rintro e w1 ⟨v1, rfl, ho1, hb1⟩
  have HS : Hid (WState w l w.heap.size v1 (.int .i64 0) w1) := ⟨0, Nat.zero_le _, rfl, by simpa [fixTo] using ho1, hb1, Nat.le_refl _⟩
  obtain ⟨a1, c1, rfl⟩ : ∃ a c, v1 = .slice a l.length c := by
    rcases ho1.form with ⟨rfl, e⟩ | ⟨g, cap, rfl, _⟩
    · exact ⟨none, 0, by rw [e]⟩
    · exact ⟨_, _, rfl⟩
  clear ho1 hb1 HCL
  go_wp2_with fail
  go_loopw [19] (fun i wr => WState w l w.heap.size (.slice a1 l.length c1) i wr) (fun i _ => l.length - (RowKit.intOf i).toNat)
  case atStart => exact HS.out
  case round =>
    obtain ⟨k, hk, rfl, ho, hbl, _⟩ := hrel
    clear HS
    have HB := Hid.mk' hbl
    have hswr := hbl.size
    by_cases hlt : k < l.length
    · obtain ⟨g, rfl⟩ : ∃ g, a1 = some ⟨g, 0, none⟩ := by
        rcases ho.form with ⟨_, e⟩ | ⟨g, cap, e, _⟩
        · omega
        · simp at e; exact ⟨g, e.1⟩
      obtain ⟨hset, hbg, ⟨x, hx1, hx2⟩, hfr⟩ := own_set ho k hlt (.int .i64 65533)
      rw [fixTo_at k l hlt] at hx2
      obtain rfl := Option.some.inj hx2
      have HRN := Hid.mk' (Rune_any l[k] wr)
      cases hr : runeZ l[k] with
      | true =>
        rw [hr] at HRN
        rw [← fixTo_same k l hlt hr] at ho
        have HO := Hid.mk' ho
        clear ho hset hx2 hfr hbl hr
        generalize l[k] = ck at *
        go_wp2_with fail
        refine HRN.out.mono ?_
        rintro e w4 ⟨rfl, rfl⟩
        go_wp2
        go_roundw
        case rel => exact ⟨k + 1, by omega, by go_num, HO.out, HB.out, Nat.le_refl _⟩
        case measure => simp [RowKit.intOf]; omega
      | false =>
        rw [hr] at HRN
        have hst : icells (fixTo (k + 1) l) = (icells (fixTo k l)).set k (.int .i64 65533) := by
          rw [fixTo_step k l hlt]
          have : fixZ l[k] = 65533 := by unfold fixZ; rw [if_neg (by rw [hr]; decide)]
          rw [this]
          simp [icells, List.map_set]
        rw [← hst] at hset
        have HO := Hid.mk' hset
        have HB2 : Hid (Below w.heap.size w (wr.setCell ⟨g, k, none⟩ (.int .i64 65533))) := hbl.setCell hbg _
        clear ho hset hx2 hbl hr hst
        generalize l[k] = ck at *
        go_wp2_with fail
        refine HRN.out.mono ?_
        rintro e w4 ⟨rfl, rfl⟩
        go_wp2
        go_roundw
        case rel => exact ⟨k + 1, by omega, by go_num, HO.out, HB2.out, Nat.le_refl _⟩
        case measure => simp [RowKit.intOf]; omega
    · obtain rfl : k = l.length := by omega
      rw [fixTo_all] at ho
      have HWO := Hid.mk' ho
      clear ho hbl
      go_wp2_with fail
      refine (HEN.out wr HB.out).mono ?_
      rintro e w2 ⟨rfl, hb2⟩
      have HB2 : Hid (Below w.heap.size w w2) := HB.out.trans (hb2.mono hswr)
      have HW2 := Hid.mk' (keptBy HWO.out hb2)
      clear hb2 HWO HEN
      go_wp2_with fail
      refine (HF1.out w2 HB2.out).mono ?_
      rintro e w3 ⟨v3, rfl, ho3, hb3⟩
      have HB3 : Hid (Below w.heap.size w w3) := HB2.out.trans (hb3.mono HB2.out.size)
      have HW3 := Hid.mk' (keptBy HW2.out hb3)
      have HR3 := Hid.mk' (RdI.own ho3)
      clear hb3 ho3 HW2 HF1
      go_wp2_with fail
      refine (HF2.out w3 HB3.out).mono ?_
      rintro e w4 ⟨v4, rfl, ho4, hb4⟩
      have HB4 : Hid (Below w.heap.size w w4) := HB3.out.trans (hb4.mono HB3.out.size)
      have HW4 := Hid.mk' (keptBy HW3.out hb4)
      have HR4 := Hid.mk' (HR3.out.below hb4)
      have HM4 := Hid.mk' (RdI.own ho4)
      clear hb4 ho4 HW3 HR3 HF2
      go_wp2_with fail
      refine (HL.out w4 HB4.out).mono ?_
      rintro e w5 ⟨rfl, hb5⟩
      have HB5 : Hid (Below w.heap.size w w5) := HB4.out.trans (hb5.mono HB4.out.size)
      have HW5 := Hid.mk' (keptBy HW4.out hb5)
      have HR5 := Hid.mk' (HR4.out.below hb5)
      have HM5 := Hid.mk' (HM4.out.below hb5)
      clear hb5 HW4 HR4 HM4
      have HCL := Hid.mk' (Clone_any w5 v3 L1 HR5.out (by omega))
      go_wp2_with fail
      refine HCL.out.mono ?_
      rintro e w6 ⟨v6, rfl, ho6, hb6⟩
      have hs6 := hb6.size
      have HB6 : Hid (Below w.heap.size w w6) := HB5.out.trans (hb6.mono HB5.out.size)
      have HW6 := Hid.mk' (keptBy HW5.out hb6)
      have HM6 := Hid.mk' (HM5.out.below hb6)
      clear hb6 HCL HM5
      go_wp2_with (at_builtin; refine wpList_append_ints _ (by rfl) (.tmp 73) (.tmp 74) rfl w5.heap.size v6 L1 L2 rfl ho6 v4 rfl HM6.out ?c1 ?c2 ?_)
      case c1 => omega
      case c2 => omega
      intro v7 w7 ho7 hgr
      have hB5 := HB5.out.size
      have HB7 : Hid (Below w.heap.size w w7) := HB6.out.grown hgr (by omega) (fun k hk => by have := (ho6.lt k hk).1; omega)
      have HW7 := Hid.mk' (HW6.out.keptAt fun k hk => hgr.block k (HW6.out.lt k hk).2 (fun e => by
        have q1 := (ho6.lt k e.symm).1
        have q2 := (HW5.out.lt k hk).2
        omega))
      have ho7' : OwnR w7 w5.heap.size 3 1 v7 (L1 ++ L2).length (icells (L1 ++ L2)) := by
        first | exact ho7 | (rw [List.length_append]; exact ho7) | (have := ho7; simp only [List.length_append] at this ⊢; simpa using this)
      have hw7 : RdI w7 (.slice a1 l.length c1) (L1 ++ L2) := by
        have hq := HW7.out
        have hln : l.length = (ints (l.map fixR)).length := by simp [ints]
        rw [HLW.out]
        rw [hln] at hq ⊢
        exact RdI.own hq
      have heq := Equal_any w7 v7 _ (L1 ++ L2) (L1 ++ L2) (RdI.own ho7') hw7 (by rw [List.length_append]; omega) (by rw [List.length_append]; omega)
      rw [beq_self_eq_true] at heq
      have HEQ := Hid.mk' heq
      clear ho7 ho7' hw7 hgr heq ho6
      go_wp2_with fail
      refine HEQ.out.mono ?_
      rintro e w8 ⟨rfl, q, rfl⟩
      go_wp2
      go_ret
      exact ⟨rfl, below_drewN HB7.out q⟩

set_option maxHeartbeats 8000000 in
set_option maxRecDepth 100000 in
theorem Back_big (v0 : Value) (l : List Int) (at0 : Int) (w : World) (hT : Tabs w) (hv : RdI w v0 l) (hl : l.length ≤ 1048576) (A : Nat) (hA : A ≤ (encAll l).length) (hA0 : A = 0) (hn : ¬ at0 < 0) (hat0 : ((encAll l).length : Int) < at0) :
    Calls Tryd.prog 7 #[v0, .int .i64 at0] w fun e w' => e = .returned (.bool true) ∧ Below w.heap.size w w' := by
  have HCL := Hid.mk' (Clone_any w v0 l hv (by omega))
  have HEN : Hid (∀ wr, Below w.heap.size w wr → _) := fun wr hb => Encode_any v0 l wr (hv.below hb) (by omega)
  have HTB : Hid (∀ wr, Below w.heap.size w wr → Tabs wr) := fun wr hb => hT.below hb
  have HL : Hid (∀ wr, Below w.heap.size w wr → Calls Tryd.prog 25 #[] wr fun e w' => e = .returned (.bool true) ∧ Below wr.heap.size wr w') := fun wr hb => lives_any wr (hT.below hb)
  have hEl := encAll_len l
  have happ := rd_app _ ((encAll l).take A) ((encAll l).drop A) (Nat.le_refl _)
  rw [List.take_append_drop, rd_encAll] at happ
  have hx := rd_left _ ((encAll l).take A) (Nat.le_refl _)
  have hx2 := (rd_left _ ((rd ((encAll l).take A)).1 ++ (encAll l).drop A) (Nat.le_refl _)).2
  have hy : (rd ((rd ((encAll l).take A)).1 ++ (encAll l).drop A)).1 = [] := by rw [Prod.ext_iff] at happ; exact happ.1.symm
  have HLW : Hid (ints (rd ((encAll l).take A)).2 ++ ints (rd ((rd ((encAll l).take A)).1 ++ (encAll l).drop A)).2 = ints (l.map fixR)) := by
    rw [Prod.ext_iff] at happ
    have := happ.2
    simp only at this
    show _ = _
    rw [this]; simp [ints]
  have htl : ((encAll l).take A).length ≤ (encAll l).length := List.length_take_le' _ _
  have hdl : ((encAll l).drop A).length ≤ (encAll l).length := by simp
  have HF1 : Hid (∀ wr, Below w.heap.size w wr → _) := fun wr hb => Feed_ok [] ((encAll l).take A) wr (hT.below hb) (.inl rfl) (by simp only [List.length_nil]; omega)
  have HF2 : Hid (∀ wr, Below w.heap.size w wr → _) := fun wr hb => Feed_ok (rd ((encAll l).take A)).1 ((encAll l).drop A) wr (hT.below hb) hx.1 (by have := hx.2; omega)
  rw [hy] at HF2
  simp only [List.nil_append] at HF1
  have xt := take_list (encAll l) A
  have xd := rest_list (encAll l) A
  have hEs : (⟨(encAll l).toArray⟩ : ByteArray).size = (encAll l).length := by simp [ByteArray.size]
  have hk1 : (ints (rd ((encAll l).take A)).2).length ≤ 4194304 := by have := hx.2; simp [ints]; omega
  have hk2 : (ints (rd ((rd ((encAll l).take A)).1 ++ (encAll l).drop A)).2).length ≤ 8388608 := by have := hx.2; rw [List.length_append] at hx2; simp [ints]; omega
  have hA2 : (A : Int) ≤ ((⟨(encAll l).toArray⟩ : ByteArray).size : Int) := by omega
  have hES : (⟨(encAll l).toArray⟩ : ByteArray).size ≤ 4194304 := by omega
  have hat : ((⟨(encAll l).toArray⟩ : ByteArray).size : Int) < at0 := by omega
  clear hat0
  clear happ hx hx2 hy htl hdl hEl hA hEs
  generalize ints (rd ((rd ((encAll l).take A)).1 ++ (encAll l).drop A)).2 = L2 at *
  generalize ints (rd ((encAll l).take A)).2 = L1 at *
  generalize (⟨(rd ((encAll l).take A)).1.toArray⟩ : ByteArray) = SX at *
  generalize (⟨((encAll l).take A).toArray⟩ : ByteArray) = ST at *
  generalize (⟨((encAll l).drop A).toArray⟩ : ByteArray) = SD at *
  generalize (⟨(encAll l).toArray⟩ : ByteArray) = SE at *
  have e0 : ST = ByteArray.empty := by rw [← xt, hA0]; simp
  have e1 : SD = SE := by rw [← xd, hA0]; simp
  subst e0
  subst e1
  clear xt xd hA0 hA2
  clear hT hv
  go_enter Tryd.func7, Tryd.ntmps7
  go_wp2_with fail
  refine HCL.out.mono ?_
  rintro e w1 ⟨v1, rfl, ho1, hb1⟩
  have HS : Hid (WState w l w.heap.size v1 (.int .i64 0) w1) := ⟨0, Nat.zero_le _, rfl, by simpa [fixTo] using ho1, hb1, Nat.le_refl _⟩
  obtain ⟨a1, c1, rfl⟩ : ∃ a c, v1 = .slice a l.length c := by
    rcases ho1.form with ⟨rfl, e⟩ | ⟨g, cap, rfl, _⟩
    · exact ⟨none, 0, by rw [e]⟩
    · exact ⟨_, _, rfl⟩
  clear ho1 hb1 HCL
  go_wp2_with fail
  go_loopw [19] (fun i wr => WState w l w.heap.size (.slice a1 l.length c1) i wr) (fun i _ => l.length - (RowKit.intOf i).toNat)
  case atStart => exact HS.out
  case round =>
    obtain ⟨k, hk, rfl, ho, hbl, _⟩ := hrel
    clear HS
    have HB := Hid.mk' hbl
    have hswr := hbl.size
    by_cases hlt : k < l.length
    · obtain ⟨g, rfl⟩ : ∃ g, a1 = some ⟨g, 0, none⟩ := by
        rcases ho.form with ⟨_, e⟩ | ⟨g, cap, e, _⟩
        · omega
        · simp at e; exact ⟨g, e.1⟩
      obtain ⟨hset, hbg, ⟨x, hx1, hx2⟩, hfr⟩ := own_set ho k hlt (.int .i64 65533)
      rw [fixTo_at k l hlt] at hx2
      obtain rfl := Option.some.inj hx2
      have HRN := Hid.mk' (Rune_any l[k] wr)
      cases hr : runeZ l[k] with
      | true =>
        rw [hr] at HRN
        rw [← fixTo_same k l hlt hr] at ho
        have HO := Hid.mk' ho
        clear ho hset hx2 hfr hbl hr
        generalize l[k] = ck at *
        go_wp2_with fail
        refine HRN.out.mono ?_
        rintro e w4 ⟨rfl, rfl⟩
        go_wp2
        go_roundw
        case rel => exact ⟨k + 1, by omega, by go_num, HO.out, HB.out, Nat.le_refl _⟩
        case measure => simp [RowKit.intOf]; omega
      | false =>
        rw [hr] at HRN
        have hst : icells (fixTo (k + 1) l) = (icells (fixTo k l)).set k (.int .i64 65533) := by
          rw [fixTo_step k l hlt]
          have : fixZ l[k] = 65533 := by unfold fixZ; rw [if_neg (by rw [hr]; decide)]
          rw [this]
          simp [icells, List.map_set]
        rw [← hst] at hset
        have HO := Hid.mk' hset
        have HB2 : Hid (Below w.heap.size w (wr.setCell ⟨g, k, none⟩ (.int .i64 65533))) := hbl.setCell hbg _
        clear ho hset hx2 hbl hr hst
        generalize l[k] = ck at *
        go_wp2_with fail
        refine HRN.out.mono ?_
        rintro e w4 ⟨rfl, rfl⟩
        go_wp2
        go_roundw
        case rel => exact ⟨k + 1, by omega, by go_num, HO.out, HB2.out, Nat.le_refl _⟩
        case measure => simp [RowKit.intOf]; omega
    · obtain rfl : k = l.length := by omega
      rw [fixTo_all] at ho
      have HWO := Hid.mk' ho
      clear ho hbl
      go_wp2_with fail
      refine (HEN.out wr HB.out).mono ?_
      rintro e w2 ⟨rfl, hb2⟩
      have HB2 : Hid (Below w.heap.size w w2) := HB.out.trans (hb2.mono hswr)
      have HW2 := Hid.mk' (keptBy HWO.out hb2)
      clear hb2 HWO HEN
      go_wp2_with fail
      refine (HF1.out w2 HB2.out).mono ?_
      rintro e w3 ⟨v3, rfl, ho3, hb3⟩
      have HB3 : Hid (Below w.heap.size w w3) := HB2.out.trans (hb3.mono HB2.out.size)
      have HW3 := Hid.mk' (keptBy HW2.out hb3)
      have HR3 := Hid.mk' (RdI.own ho3)
      clear hb3 ho3 HW2 HF1
      go_wp2_with fail
      refine (HF2.out w3 HB3.out).mono ?_
      rintro e w4 ⟨v4, rfl, ho4, hb4⟩
      have HB4 : Hid (Below w.heap.size w w4) := HB3.out.trans (hb4.mono HB3.out.size)
      have HW4 := Hid.mk' (keptBy HW3.out hb4)
      have HR4 := Hid.mk' (HR3.out.below hb4)
      have HM4 := Hid.mk' (RdI.own ho4)
      clear hb4 ho4 HW3 HR3 HF2
      go_wp2_with fail
      refine (HL.out w4 HB4.out).mono ?_
      rintro e w5 ⟨rfl, hb5⟩
      have HB5 : Hid (Below w.heap.size w w5) := HB4.out.trans (hb5.mono HB4.out.size)
      have HW5 := Hid.mk' (keptBy HW4.out hb5)
      have HR5 := Hid.mk' (HR4.out.below hb5)
      have HM5 := Hid.mk' (HM4.out.below hb5)
      clear hb5 HW4 HR4 HM4
      have HCL := Hid.mk' (Clone_any w5 v3 L1 HR5.out (by omega))
      go_wp2_with fail
      refine HCL.out.mono ?_
      rintro e w6 ⟨v6, rfl, ho6, hb6⟩
      have hs6 := hb6.size
      have HB6 : Hid (Below w.heap.size w w6) := HB5.out.trans (hb6.mono HB5.out.size)
      have HW6 := Hid.mk' (keptBy HW5.out hb6)
      have HM6 := Hid.mk' (HM5.out.below hb6)
      clear hb6 HCL HM5
      go_wp2_with (at_builtin; refine wpList_append_ints _ (by rfl) (.tmp 73) (.tmp 74) rfl w5.heap.size v6 L1 L2 rfl ho6 v4 rfl HM6.out ?c1 ?c2 ?_)
      case c1 => omega
      case c2 => omega
      intro v7 w7 ho7 hgr
      have hB5 := HB5.out.size
      have HB7 : Hid (Below w.heap.size w w7) := HB6.out.grown hgr (by omega) (fun k hk => by have := (ho6.lt k hk).1; omega)
      have HW7 := Hid.mk' (HW6.out.keptAt fun k hk => hgr.block k (HW6.out.lt k hk).2 (fun e => by
        have q1 := (ho6.lt k e.symm).1
        have q2 := (HW5.out.lt k hk).2
        omega))
      have ho7' : OwnR w7 w5.heap.size 3 1 v7 (L1 ++ L2).length (icells (L1 ++ L2)) := by
        first | exact ho7 | (rw [List.length_append]; exact ho7) | (have := ho7; simp only [List.length_append] at this ⊢; simpa using this)
      have hw7 : RdI w7 (.slice a1 l.length c1) (L1 ++ L2) := by
        have hq := HW7.out
        have hln : l.length = (ints (l.map fixR)).length := by simp [ints]
        rw [HLW.out]
        rw [hln] at hq ⊢
        exact RdI.own hq
      have heq := Equal_any w7 v7 _ (L1 ++ L2) (L1 ++ L2) (RdI.own ho7') hw7 (by rw [List.length_append]; omega) (by rw [List.length_append]; omega)
      rw [beq_self_eq_true] at heq
      have HEQ := Hid.mk' heq
      clear ho7 ho7' hw7 hgr heq ho6
      go_wp2_with fail
      refine HEQ.out.mono ?_
      rintro e w8 ⟨rfl, q, rfl⟩
      go_wp2
      go_ret
      exact ⟨rfl, below_drewN HB7.out q⟩

set_option maxHeartbeats 8000000 in
set_option maxRecDepth 100000 in
theorem Back_in (v0 : Value) (l : List Int) (at0 : Int) (w : World) (hT : Tabs w) (hv : RdI w v0 l) (hl : l.length ≤ 1048576) (A : Nat) (hA : A ≤ (encAll l).length) (hA0 : at0 = (A : Int)) :
    Calls Tryd.prog 7 #[v0, .int .i64 at0] w fun e w' => e = .returned (.bool true) ∧ Below w.heap.size w w' := by
  have HCL := Hid.mk' (Clone_any w v0 l hv (by omega))
  have HEN : Hid (∀ wr, Below w.heap.size w wr → _) := fun wr hb => Encode_any v0 l wr (hv.below hb) (by omega)
  have HTB : Hid (∀ wr, Below w.heap.size w wr → Tabs wr) := fun wr hb => hT.below hb
  have HL : Hid (∀ wr, Below w.heap.size w wr → Calls Tryd.prog 25 #[] wr fun e w' => e = .returned (.bool true) ∧ Below wr.heap.size wr w') := fun wr hb => lives_any wr (hT.below hb)
  have hEl := encAll_len l
  have happ := rd_app _ ((encAll l).take A) ((encAll l).drop A) (Nat.le_refl _)
  rw [List.take_append_drop, rd_encAll] at happ
  have hx := rd_left _ ((encAll l).take A) (Nat.le_refl _)
  have hx2 := (rd_left _ ((rd ((encAll l).take A)).1 ++ (encAll l).drop A) (Nat.le_refl _)).2
  have hy : (rd ((rd ((encAll l).take A)).1 ++ (encAll l).drop A)).1 = [] := by rw [Prod.ext_iff] at happ; exact happ.1.symm
  have HLW : Hid (ints (rd ((encAll l).take A)).2 ++ ints (rd ((rd ((encAll l).take A)).1 ++ (encAll l).drop A)).2 = ints (l.map fixR)) := by
    rw [Prod.ext_iff] at happ
    have := happ.2
    simp only at this
    show _ = _
    rw [this]; simp [ints]
  have htl : ((encAll l).take A).length ≤ (encAll l).length := List.length_take_le' _ _
  have hdl : ((encAll l).drop A).length ≤ (encAll l).length := by simp
  have HF1 : Hid (∀ wr, Below w.heap.size w wr → _) := fun wr hb => Feed_ok [] ((encAll l).take A) wr (hT.below hb) (.inl rfl) (by simp only [List.length_nil]; omega)
  have HF2 : Hid (∀ wr, Below w.heap.size w wr → _) := fun wr hb => Feed_ok (rd ((encAll l).take A)).1 ((encAll l).drop A) wr (hT.below hb) hx.1 (by have := hx.2; omega)
  rw [hy] at HF2
  simp only [List.nil_append] at HF1
  have xt := take_list (encAll l) A
  have xd := rest_list (encAll l) A
  have hEs : (⟨(encAll l).toArray⟩ : ByteArray).size = (encAll l).length := by simp [ByteArray.size]
  have hk1 : (ints (rd ((encAll l).take A)).2).length ≤ 4194304 := by have := hx.2; simp [ints]; omega
  have hk2 : (ints (rd ((rd ((encAll l).take A)).1 ++ (encAll l).drop A)).2).length ≤ 8388608 := by have := hx.2; rw [List.length_append] at hx2; simp [ints]; omega
  have hA2 : (A : Int) ≤ ((⟨(encAll l).toArray⟩ : ByteArray).size : Int) := by omega
  have hES : (⟨(encAll l).toArray⟩ : ByteArray).size ≤ 4194304 := by omega
  subst hA0
  have hn : ¬ (A : Int) < 0 := by omega
  have hat : ¬ ((⟨(encAll l).toArray⟩ : ByteArray).size : Int) < (A : Int) := by omega
  clear happ hx hx2 hy htl hdl hEl hA hEs
  generalize ints (rd ((rd ((encAll l).take A)).1 ++ (encAll l).drop A)).2 = L2 at *
  generalize ints (rd ((encAll l).take A)).2 = L1 at *
  generalize (⟨(rd ((encAll l).take A)).1.toArray⟩ : ByteArray) = SX at *
  generalize (⟨((encAll l).take A).toArray⟩ : ByteArray) = ST at *
  generalize (⟨((encAll l).drop A).toArray⟩ : ByteArray) = SD at *
  generalize (⟨(encAll l).toArray⟩ : ByteArray) = SE at *
  clear hT hv
  go_enter Tryd.func7, Tryd.ntmps7
  go_wp2_with fail
  refine HCL.out.mono ?_
  rintro e w1 ⟨v1, rfl, ho1, hb1⟩
  have HS : Hid (WState w l w.heap.size v1 (.int .i64 0) w1) := ⟨0, Nat.zero_le _, rfl, by simpa [fixTo] using ho1, hb1, Nat.le_refl _⟩
  obtain ⟨a1, c1, rfl⟩ : ∃ a c, v1 = .slice a l.length c := by
    rcases ho1.form with ⟨rfl, e⟩ | ⟨g, cap, rfl, _⟩
    · exact ⟨none, 0, by rw [e]⟩
    · exact ⟨_, _, rfl⟩
  clear ho1 hb1 HCL
  go_wp2_with fail
  go_loopw [19] (fun i wr => WState w l w.heap.size (.slice a1 l.length c1) i wr) (fun i _ => l.length - (RowKit.intOf i).toNat)
  case atStart => exact HS.out
  case round =>
    obtain ⟨k, hk, rfl, ho, hbl, _⟩ := hrel
    clear HS
    have HB := Hid.mk' hbl
    have hswr := hbl.size
    by_cases hlt : k < l.length
    · obtain ⟨g, rfl⟩ : ∃ g, a1 = some ⟨g, 0, none⟩ := by
        rcases ho.form with ⟨_, e⟩ | ⟨g, cap, e, _⟩
        · omega
        · simp at e; exact ⟨g, e.1⟩
      obtain ⟨hset, hbg, ⟨x, hx1, hx2⟩, hfr⟩ := own_set ho k hlt (.int .i64 65533)
      rw [fixTo_at k l hlt] at hx2
      obtain rfl := Option.some.inj hx2
      have HRN := Hid.mk' (Rune_any l[k] wr)
      cases hr : runeZ l[k] with
      | true =>
        rw [hr] at HRN
        rw [← fixTo_same k l hlt hr] at ho
        have HO := Hid.mk' ho
        clear ho hset hx2 hfr hbl hr
        generalize l[k] = ck at *
        go_wp2_with fail
        refine HRN.out.mono ?_
        rintro e w4 ⟨rfl, rfl⟩
        go_wp2
        go_roundw
        case rel => exact ⟨k + 1, by omega, by go_num, HO.out, HB.out, Nat.le_refl _⟩
        case measure => simp [RowKit.intOf]; omega
      | false =>
        rw [hr] at HRN
        have hst : icells (fixTo (k + 1) l) = (icells (fixTo k l)).set k (.int .i64 65533) := by
          rw [fixTo_step k l hlt]
          have : fixZ l[k] = 65533 := by unfold fixZ; rw [if_neg (by rw [hr]; decide)]
          rw [this]
          simp [icells, List.map_set]
        rw [← hst] at hset
        have HO := Hid.mk' hset
        have HB2 : Hid (Below w.heap.size w (wr.setCell ⟨g, k, none⟩ (.int .i64 65533))) := hbl.setCell hbg _
        clear ho hset hx2 hbl hr hst
        generalize l[k] = ck at *
        go_wp2_with fail
        refine HRN.out.mono ?_
        rintro e w4 ⟨rfl, rfl⟩
        go_wp2
        go_roundw
        case rel => exact ⟨k + 1, by omega, by go_num, HO.out, HB2.out, Nat.le_refl _⟩
        case measure => simp [RowKit.intOf]; omega
    · obtain rfl : k = l.length := by omega
      rw [fixTo_all] at ho
      have HWO := Hid.mk' ho
      clear ho hbl
      go_wp2_with fail
      refine (HEN.out wr HB.out).mono ?_
      rintro e w2 ⟨rfl, hb2⟩
      have HB2 : Hid (Below w.heap.size w w2) := HB.out.trans (hb2.mono hswr)
      have HW2 := Hid.mk' (keptBy HWO.out hb2)
      clear hb2 HWO HEN
      go_wp2_with fail
      refine (HF1.out w2 HB2.out).mono ?_
      rintro e w3 ⟨v3, rfl, ho3, hb3⟩
      have HB3 : Hid (Below w.heap.size w w3) := HB2.out.trans (hb3.mono HB2.out.size)
      have HW3 := Hid.mk' (keptBy HW2.out hb3)
      have HR3 := Hid.mk' (RdI.own ho3)
      clear hb3 ho3 HW2 HF1
      go_wp2_with fail
      refine (HF2.out w3 HB3.out).mono ?_
      rintro e w4 ⟨v4, rfl, ho4, hb4⟩
      have HB4 : Hid (Below w.heap.size w w4) := HB3.out.trans (hb4.mono HB3.out.size)
      have HW4 := Hid.mk' (keptBy HW3.out hb4)
      have HR4 := Hid.mk' (HR3.out.below hb4)
      have HM4 := Hid.mk' (RdI.own ho4)
      clear hb4 ho4 HW3 HR3 HF2
      go_wp2_with fail
      refine (HL.out w4 HB4.out).mono ?_
      rintro e w5 ⟨rfl, hb5⟩
      have HB5 : Hid (Below w.heap.size w w5) := HB4.out.trans (hb5.mono HB4.out.size)
      have HW5 := Hid.mk' (keptBy HW4.out hb5)
      have HR5 := Hid.mk' (HR4.out.below hb5)
      have HM5 := Hid.mk' (HM4.out.below hb5)
      clear hb5 HW4 HR4 HM4
      have HCL := Hid.mk' (Clone_any w5 v3 L1 HR5.out (by omega))
      go_wp2_with fail
      refine HCL.out.mono ?_
      rintro e w6 ⟨v6, rfl, ho6, hb6⟩
      have hs6 := hb6.size
      have HB6 : Hid (Below w.heap.size w w6) := HB5.out.trans (hb6.mono HB5.out.size)
      have HW6 := Hid.mk' (keptBy HW5.out hb6)
      have HM6 := Hid.mk' (HM5.out.below hb6)
      clear hb6 HCL HM5
      go_wp2_with (at_builtin; refine wpList_append_ints _ (by rfl) (.tmp 73) (.tmp 74) rfl w5.heap.size v6 L1 L2 rfl ho6 v4 rfl HM6.out ?c1 ?c2 ?_)
      case c1 => omega
      case c2 => omega
      intro v7 w7 ho7 hgr
      have hB5 := HB5.out.size
      have HB7 : Hid (Below w.heap.size w w7) := HB6.out.grown hgr (by omega) (fun k hk => by have := (ho6.lt k hk).1; omega)
      have HW7 := Hid.mk' (HW6.out.keptAt fun k hk => hgr.block k (HW6.out.lt k hk).2 (fun e => by
        have q1 := (ho6.lt k e.symm).1
        have q2 := (HW5.out.lt k hk).2
        omega))
      have ho7' : OwnR w7 w5.heap.size 3 1 v7 (L1 ++ L2).length (icells (L1 ++ L2)) := by
        first | exact ho7 | (rw [List.length_append]; exact ho7) | (have := ho7; simp only [List.length_append] at this ⊢; simpa using this)
      have hw7 : RdI w7 (.slice a1 l.length c1) (L1 ++ L2) := by
        have hq := HW7.out
        have hln : l.length = (ints (l.map fixR)).length := by simp [ints]
        rw [HLW.out]
        rw [hln] at hq ⊢
        exact RdI.own hq
      have heq := Equal_any w7 v7 _ (L1 ++ L2) (L1 ++ L2) (RdI.own ho7') hw7 (by rw [List.length_append]; omega) (by rw [List.length_append]; omega)
      rw [beq_self_eq_true] at heq
      have HEQ := Hid.mk' heq
      clear ho7 ho7' hw7 hgr heq ho6
      go_wp2_with fail
      refine HEQ.out.mono ?_
      rintro e w8 ⟨rfl, q, rfl⟩
      go_wp2
      go_ret
      exact ⟨rfl, below_drewN HB7.out q⟩

theorem Back_any (v0 : Value) (l : List Int) (at0 : Int) (w : World) (hT : Tabs w) (hv : RdI w v0 l) (hl : l.length ≤ 1048576) :
    Calls Tryd.prog 7 #[v0, .int .i64 at0] w fun e w' => e = .returned (.bool true) ∧ Below w.heap.size w w' := by
  by_cases h1 : at0 < 0
  · exact Back_neg v0 l at0 w hT hv hl 0 (Nat.zero_le _) rfl h1
  by_cases h2 : ((encAll l).length : Int) < at0
  · exact Back_big v0 l at0 w hT hv hl 0 (Nat.zero_le _) rfl h1 h2
  · exact Back_in v0 l at0 w hT hv hl at0.toNat (by omega) (by omega)
end Go.Proofs.YtjnopjjbndknfaaDoor.U
