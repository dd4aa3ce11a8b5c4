/-
  The walk of farkeep.LineQuotes; conditions: Keys of 38 bytes, a set of four words of 64 bits, texts of at most 2^47 bytes.
-/
import Derived.Test.YtomgnnbcaficaaaDoorLBld
import Derived.Deep.RegionHeld3
import Derived.BigQuiet
namespace Go.Proofs.YtomgnnbcaficaaaDoor.L
open Go.RowKit Go.Lib Go.Proofs.YtomgnnbcaficaaaDoor Go.Proofs.YtomgnnbcaficaaaDoor.W Go.Proofs.YtomgnnbcaficaaaDoor.Q

theorem exec_loadKq (ρ : Operand → Value) (x : Operand) (dst : Option Tmp) (t : TypeId) (pos : String) (af : Array Edge) (g : Option (Nat × Bool)) (w : World) (h : Lies w (ρ x) 38) :
    (execOp ρ { dst := dst, op := .load 26 x, type := t, pos := pos, after := af, guard := g }).run Tryd.prog w = .ok (.value (.agg (Q.rowAt w (ρ x) 38).toArray)) w :=
  exec_load 26 38 _ Tryd.underlying26 rfl K.sizeK ρ x dst t pos af g w h
theorem exec_loadM (ρ : Operand → Value) (x : Operand) (dst : Option Tmp) (t : TypeId) (pos : String) (af : Array Edge) (g : Option (Nat × Bool)) (w : World) (h : Lies w (ρ x) 4) :
    (execOp ρ { dst := dst, op := .load 30 x, type := t, pos := pos, after := af, guard := g }).run Tryd.prog w = .ok (.value (.agg (Q.rowAt w (ρ x) 4).toArray)) w :=
  exec_load 30 4 _ Tryd.underlying30 rfl H.sizeM ρ x dst t pos af g w h
section
variable {P : Program} {ops : Array Oper} {rest : List Oper} {op : Oper} {a : Act} {w : World} {Q : Exit → Act → World → Prop}
/-- a struct that is built of nothing, where a guard stands -/
theorem wpList_build0g (l : List Value) (ty : TypeId) (hb : (Instr.build ty #[]).run P w = .ok (.agg l.toArray) w) (hwd : Region.wanted op (yielded ops a.tmps) = true) (ho : op.op = .build ty #[])
    (h : wpList P ops Q rest (a.put op.dst (.agg l.toArray)) w) : wpList P ops Q (op :: rest) a w := by
  refine wpList_step fun K hK => ?_
  rw [if_pos hwd]
  unfold Oper.wp execOp
  simp only [ho, List.map_toArray, List.map_nil, hb, Sem.run_bind, Sem.run_pure, Result.andThen_ok]
  exact hK _ _ h
end
theorem Box_others {w w' : World} {b b' : Nat} {t e : TypeId} {l : List Value} (h : Box w b t l) (ho : Lib.OthersKept e (some b') w w') (hne : b ≠ b') (ht : t ≠ e) : Box w' b t l :=
  ho b _ h (fun h2 => hne (Option.some.inj h2)) (fun c fz h2 => ht (by injection h2))

-- WALK
set_option maxHeartbeats 32000000 in
set_option maxRecDepth 100000 in
theorem LineQuotes_any (k : List UInt8) (hk : k.length = 38) (M : List Nat) (hM : H.okW M) (T : List UInt8) (w : World) (hT : T.length ≤ 140737488355328) :
    Calls Tryd.prog 6 #[.agg (bcells k).toArray, .agg (H.ucells M).toArray, .string (bs T)] w fun e w' => e = .returned (.bool true) ∧ Below w.heap.size w w' := by
  have HLV := Hid.mk' lives_any
  have HSK := Hid.mk' (K.sizeKV (qK k) (qK_len hk))
  have HKL : Hid ((bcells (qK k)).length = 38) := by rw [Hid, bcells_length, qK_len hk]
  have HML : Hid ((H.ucells M).length = 4) := by rw [Hid, H.ucells_length, hM.1]
  have HE : Hid (∀ w, (Instr.build 23 #[]).run Tryd.prog w = .ok (.agg #[.string { data := #[] }, .bool false]) w) := fun w => buildE w
  have HCK : Hid (∀ W, Calls Tryd.prog 12 #[.agg #[.string { data := #[] }, .bool false]] W fun e w' => e = .returned (.int .i64 0) ∧ Below W.heap.size W w') := fun W => lCheck_any { data := #[] } false W
  have hput : ((bcells k).set 14 (.int .u8 2)).set 33 (.int .u8 22) = bcells (qK k) := (K.bcells_put k 14 2 22).symm
  obtain ⟨u14, hu14⟩ : ∃ u, (bcells k)[14]? = some u := ⟨_, List.getElem?_eq_getElem (by rw [bcells_length, hk]; decide)⟩
  obtain ⟨u33, hu33⟩ : ∃ u, (bcells k)[33]? = some u := ⟨_, List.getElem?_eq_getElem (by rw [bcells_length, hk]; decide)⟩
  obtain ⟨Z1, Z2, r, HTY0, HKR, HCASE⟩ : ∃ Z1 Z2 : ByteArray, ∃ r : Int, Hid (T.length ≤ 1000 → ∀ W, Calls Tryd.prog 9 #[.agg #[.string { data := #[] }, .bool false], .agg (bcells (qK k)).toArray, .agg (H.ucells M).toArray, .string (bs (quoted 22 T))] W fun e w' => ∃ al cl n, Hid (n = 0) ∧ e = .returned (.tuple #[.agg #[.string Z1, .bool false], .slice al n cl, .string Z2, .int .i64 r]) ∧ Below W.heap.size W w') ∧ Hid (∀ W, Calls Tryd.prog 22 #[.agg (bcells (qK k)).toArray] W fun e w' => e = .returned (.int .i64 r) ∧ Below W.heap.size W w') ∧ Hid (r = 4 ∨ (r = 0 ∧ Z1 = bs T ∧ Z2 = bs T)) := by
    rcases chk_two (qK k) with hc | hc
    · refine ⟨bs T, bs T, 0, fun h W => ?_, fun W => ?_, .inr ⟨rfl, rfl, rfl⟩⟩
      · exact (type_call (qK k) (qK_len hk) M hM [] (quoted 22 T) false W _ _ _ (quoted_typed hk M T h hc) rfl rfl).mono fun e w' ⟨al, cl, n, hn, he, _, hb⟩ => ⟨al, cl, n, hn, he, hb⟩
      · have h := K.KeysRight_any (qK k) (qK_len hk) W
        rw [hc] at h
        exact h
    · refine ⟨bs [], bs [], 4, fun h W => ?_, fun W => ?_, .inl rfl⟩
      · exact (type_call (qK k) (qK_len hk) M hM [] (quoted 22 T) false W _ _ _ (quoted_bad M T hc) rfl rfl).mono fun e w' ⟨al, cl, n, hn, he, _, hb⟩ => ⟨al, cl, n, hn, he, hb⟩
      · have h := K.KeysRight_any (qK k) (qK_len hk) W
        rw [hc] at h
        exact h
  have HWS : Hid (T.length ≤ 1000 → ∀ b n, n < T.length → ∀ W, Lib.IsBuilderF 50 5 b b (Lib.byteCells (quoted 22 (T.take n))) W → b ≤ W.heap.size → Calls Tryd.prog 20 #[.pointer (some ⟨b, 0, none⟩), .string ({ data := #[22] } ++ (bs T).extract n (n + 1))] W fun e w' => e = .returned (.tuple #[.int .i64 2, .nilIface]) ∧ Lib.IsBuilderF 50 5 b b (Lib.byteCells (quoted 22 (T.take (n + 1)))) w' ∧ Below b W w') := fun hsm b n hn W hb hW => by
    have e1 : (bs T).extract n (n + 1) = bs [T[n]] := by
      rw [show bs T = (⟨T.toArray⟩ : ByteArray) from rfl, extract_mk]
      rw [show n + 1 - n = 1 by omega, List.drop_eq_getElem_cons hn]
      rfl
    have e2 : ({ data := #[22] } : ByteArray) ++ (bs T).extract n (n + 1) = bs [22, T[n]] := by rw [e1]; exact bs_app [22] [T[n]]
    have e3 : Lib.byteCells (quoted 22 (T.take (n + 1))) = Lib.byteCells (quoted 22 (T.take n)) ++ Lib.strCells (bs [22, T[n]]) := by
      rw [List.take_succ_eq_append_getElem hn, quoted_snoc]
      simp [Lib.byteCells, Lib.strCells, bs]
    have hs := WriteString_any b b _ (bs [22, T[n]]) W hb (by rw [byteCells_len, quoted_len, List.length_take, bs_size]; simp only [List.length_cons, List.length_nil]; omega) hW
    rw [e2]
    refine hs.mono fun e w' h => ?_
    obtain ⟨he, hA, hB, _⟩ := h
    refine ⟨by rw [he]; rfl, .inr (by rw [e3]; exact hA), hB⟩
  have HSG : Hid (∀ b W, Lib.IsBuilderF 50 5 b b (Lib.byteCells (quoted 22 T)) W → b ≤ W.heap.size → Calls Tryd.prog 21 #[.pointer (some ⟨b, 0, none⟩)] W fun e w' => e = .returned (.string (bs (quoted 22 T))) ∧ (Below b W w' ∧ Lib.OthersKept 5 (some b) W w')) := fun b W hb hW => (String_any b b (quoted 22 T) W hb hW).mono fun e w' h => ⟨h.1, h.2.2⟩
  have HTA : Hid (T.take T.length = T) := List.take_length
  have hsz := bs_size T
  generalize bs (quoted 22 T) = Q1 at *
  generalize bs T = T1 at *
  generalize bcells (qK k) = lq at *
  generalize bcells k = l at *
  generalize H.ucells M = m at *
  clear hk hM
  go_enter Tryd.func6, Tryd.ntmps6
  have HB_0 := Hid.mk' (Below.refl w.heap.size w)
  go_wp2_with (refine wpList_box (l) 26 rfl _ rfl rfl ?_)
  intro w1 mw1
  have zw1 := mw1.lt
  have Hw1 : Below w.heap.size w w1 := mw1.below _ _ (Nat.le_refl _) (Below.refl _ _)
  have Xw1 := mw1.box
  have HB_w1 := Hid.mk' (HB_0.out.trans (Below.mono Hw1 HB_0.out.size))
  clear HB_0
  have bk_w1 := Hid.mk' Xw1
  clear mw1 Hw1 Xw1
  go_wp2_with (refine wpList_box (m) 30 rfl _ rfl rfl ?_)
  intro w2 mw2
  have zw2 := mw2.lt
  have Hw2 : Below w1.heap.size w1 w2 := mw2.below _ _ (Nat.le_refl _) (Below.refl _ _)
  have Xw2 := mw2.box
  have HB_w2 := Hid.mk' (HB_w1.out.trans (Below.mono Hw2 HB_w1.out.size))
  have bk_w2 := Hid.mk' (bk_w1.out.later Hw2)
  clear HB_w1 bk_w1
  have bm_w2 := Hid.mk' Xw2
  clear mw2 Hw2 Xw2
  have c14 := bk_w2.out.cell hu14
  have c33 := bk_w2.out.cell hu33
  have f14 := bk_w2.out.frozen 14
  have f33 := bk_w2.out.frozen 33
  have S1 := Stored.cell bk_w2.out 14 (.int .u8 2)
  have S2 := Stored.cell S1.box 33 (.int .u8 22)
  have hne : w1.heap.size ≠ w.heap.size := by omega
  have zs : w2.heap.size = ((w2.setCell ⟨w.heap.size, 14, none⟩ (.int .u8 2)).setCell ⟨w.heap.size, 33, none⟩ (.int .u8 22)).heap.size := by simp
  have BM3 := Hid.mk' (S2.keep (S1.keep bm_w2.out hne) hne)
  have BK3 := Hid.mk' S2.box
  rw [hput] at BK3
  have HB3 := Hid.mk' ((HB_w2.out.setCell (p := ⟨w.heap.size, 14, none⟩) (Nat.le_refl _) (.int .u8 2)).setCell (p := ⟨w.heap.size, 33, none⟩) (Nat.le_refl _) (.int .u8 22))
  clear S1 S2 bk_w2 bm_w2 HB_w2 hput hne
  go_wp2_with fail
  refine (HLV.out _).mono ?_
  rintro e w4 ⟨rfl, h4⟩
  have BK4 := Hid.mk' (BK3.out.later h4)
  have BM4 := Hid.mk' (BM3.out.later h4)
  have HB4 := Hid.mk' (HB3.out.trans (Below.mono h4 HB3.out.size))
  clear h4 BK3 BM3 HB3 c14 c33 f14 f33 hu14 hu33 zs
  have y4 : w1.heap.size < w4.heap.size := BM4.out.lt
  have g0 : (T.length : Int) ≤ 9223372036854775807 := by omega
  by_cases hbig : 1000 < T.length
  · have g1 : (1000 : Int) < (T.length : Int) := by omega
    clear hbig HTY0 HWS HSG HKR HCASE HCK HE
    go_wp2_with fail
    refine (HLV.out _).mono ?_
    rintro e w5 ⟨rfl, h5⟩
    have HF := Hid.mk' (HB4.out.trans (Below.mono h5 HB4.out.size))
    clear h5
    go_wp2
    go_ret
    exact ⟨rfl, HF.out⟩
  · have g1 : ¬ (1000 : Int) < (T.length : Int) := by omega
    have HTY := Hid.mk' (HTY0.out (by omega))
    have HWR := Hid.mk' (HWS.out (by omega))
    clear HTY0 HWS hbig
    go_wp2_with (refine wpList_build0g [.string { data := #[] }, .bool false] 23 (HE.out _) rfl rfl ?_)
    refine (HCK.out _).mono ?_
    rintro e w5 ⟨rfl, h5⟩
    have BK5 := Hid.mk' (BK4.out.later h5)
    have BM5 := Hid.mk' (BM4.out.later h5)
    have HB5 := Hid.mk' (HB4.out.trans (Below.mono h5 HB4.out.size))
    have y5 := h5.size
    clear h5 BK4 BM4 HB4
    have yk : w.heap.size < w5.heap.size := by omega
    have ym : w1.heap.size < w5.heap.size := by omega
    clear y4 y5
    have HST : Hid (∃ n : Nat, n ≤ T.length ∧ T.length - n ≤ T.length ∧ (Value.int .i64 0) = .int .i64 (n : Int) ∧ Hid (Lib.IsBuilderF 50 5 w5.heap.size w5.heap.size (Lib.byteCells (quoted 22 (T.take n))) (w5.alloc (.cells #[.pointer none, .slice none 0 0] 50))) ∧ Hid (Box (w5.alloc (.cells #[.pointer none, .slice none 0 0] 50)) w.heap.size 26 lq) ∧ Hid (Box (w5.alloc (.cells #[.pointer none, .slice none 0 0] 50)) w1.heap.size 30 m) ∧ Hid (Below w.heap.size w (w5.alloc (.cells #[.pointer none, .slice none 0 0] 50))) ∧ Hid (w5.heap.size < (w5.alloc (.cells #[.pointer none, .slice none 0 0] 50)).heap.size)) :=
      ⟨0, Nat.zero_le _, by omega, rfl, Builder_new w5, BK5.out.alloc _, BM5.out.alloc _, HB5.out.alloc HB5.out.size _, by rw [Hid]; simp⟩
    clear BK5 BM5 HB5
    go_wp2_with fail
    go_loopg [32] T.length (fun g s32 wr => ∃ n : Nat, n ≤ T.length ∧ T.length - n ≤ g ∧ s32 = .int .i64 (n : Int) ∧ Hid (Lib.IsBuilderF 50 5 w5.heap.size w5.heap.size (Lib.byteCells (quoted 22 (T.take n))) wr) ∧ Hid (Box wr w.heap.size 26 lq) ∧ Hid (Box wr w1.heap.size 30 m) ∧ Hid (Below w.heap.size w wr) ∧ Hid (w5.heap.size < wr.heap.size))
    case atStart => exact HST.out
    case round =>
      obtain ⟨n, hn, hg, rfl, IB, BK, BM, HB, HZ⟩ := hrel
      have HG := Hid.mk' hg
      clear hg HST
      by_cases hlt : n < T.length
      · have HW1 := Hid.mk' (HWR.out w5.heap.size n hlt)
        have hx1 : n + 1 ≤ T.length := hlt
        have hx2 : (n : Int) + 1 ≤ 9223372036854775807 := by omega
        have hx3 : (n : Int) + 1 ≤ (T.length : Int) := by omega
        have hx4 : (0 : Int) ≤ (n : Int) + 1 := by omega
        clear HWR HSG HTY HKR HCASE HTA
        go_wp2_with fail
        refine (HW1.out _ IB.out (Nat.le_of_lt HZ.out)).mono ?_
        rintro e w6 ⟨rfl, hib, h6⟩
        have IB6 := Hid.mk' hib
        have BK6 := Hid.mk' (BK.out.below h6 yk)
        have BM6 := Hid.mk' (BM.out.below h6 ym)
        have HB6 := Hid.mk' (HB.out.trans (Below.mono h6 (by omega)))
        have HZ6 := Hid.mk' (Nat.lt_of_lt_of_le HZ.out h6.size)
        clear hib h6 IB BK BM HB HZ
        go_wp2
        go_roundg (T.length - (n + 1))
        case measure => have := HG.out; omega
        case rel => exact ⟨n + 1, by omega, Nat.le_refl _, by go_num, IB6, BK6, BM6, HB6, HZ6⟩
      · obtain rfl : n = T.length := by omega
        rw [HTA.out] at IB
        have HB0 := Hid.mk' HB.out.drew
        have IB0 : Hid (Lib.IsBuilderF 50 5 w5.heap.size w5.heap.size (Lib.byteCells (quoted 22 T)) wr.drew) := IB.out
        have zlt := HZ.out
        have zb0 : w5.heap.size ≤ wr.drew.heap.size := Nat.le_of_lt HZ.out
        have BKD := Hid.mk' BK.out.drew
        have BMD := Hid.mk' BM.out.drew
        clear HTA HWR IB BK BM HB HZ HG
        go_wp2_with fail
        have hE : Below w5.heap.size wr.drew wr.drew := Below.refl _ _
        have l0 : ∀ w', Below w5.heap.size wr.drew w' → Lies w' (.pointer (some ⟨w.heap.size, 0, none⟩)) 38 := fun w' h => (BKD.out.below h yk).lies0 HKL.out
        have r0 : ∀ w', Below w5.heap.size wr.drew w' → Q.rowAt w' (.pointer (some ⟨w.heap.size, 0, none⟩)) 38 = lq := fun w' h => (BKD.out.below h yk).row0 HKL.out
        have l1 : ∀ w', Below w5.heap.size wr.drew w' → Lies w' (.pointer (some ⟨w1.heap.size, 0, none⟩)) 4 := fun w' h => (BMD.out.below h ym).lies0 HML.out
        have r1 : ∀ w', Below w5.heap.size wr.drew w' → Q.rowAt w' (.pointer (some ⟨w1.heap.size, 0, none⟩)) 4 = m := fun w' h => (BMD.out.below h ym).row0 HML.out
        refine wp_region_noPanic ?_
        refine wp_region_held_drew (S := fun w' => Below w5.heap.size wr.drew w') (by kernel_rfl) hE (fun hHeld => ?_)
        refine wpAnyH_take (i := 0) (oi := { dst := some 44, op := Go.Op.build 23 #[], type := 23, pos := _, after := #[], guard := none }) (v := .agg #[.string { data := #[] }, .bool false]) rfl (by kernel_rfl) (by kernel_rfl) (by kernel_rfl) (fun _ _ _ h => h) (Or.inl ⟨by rfl, fun w' hSw => ?_⟩) (by assumption) ?_
        · unfold execOp; simp only [List.map_toArray, List.map_nil, HE.out, Sem.run_bind, Sem.run_pure, Result.andThen_ok]
        (try simp only [Act.put]); (try simp only [List.setIfInBounds_toArray]); (try simp only [List.set_cons_succ]); (try simp only [List.set_cons_zero])
        refine wpAnyH_take (i := 1) (oi := { dst := some 45, op := Go.Op.load 26 (Go.Operand.tmp 3), type := 26, pos := _, after := #[], guard := none }) (v := .agg lq.toArray) rfl (by kernel_rfl) (by kernel_rfl) (by kernel_rfl) (fun _ _ _ h => h) (Or.inl ⟨by rfl, fun w' hSw => ?_⟩) (by assumption) ?_
        · exact (exec_loadKq _ _ _ _ _ _ _ _ (l0 _ hSw)).trans (congrArg (fun z : List Value => Result.ok (Next.value (.agg z.toArray)) w') (r0 _ hSw))
        (try simp only [Act.put]); (try simp only [List.setIfInBounds_toArray]); (try simp only [List.set_cons_succ]); (try simp only [List.set_cons_zero])
        refine wpAnyH_take (i := 2) (oi := { dst := some 46, op := Go.Op.load 30 (Go.Operand.tmp 4), type := 30, pos := _, after := #[], guard := none }) (v := .agg m.toArray) rfl (by kernel_rfl) (by kernel_rfl) (by kernel_rfl) (fun _ _ _ h => h) (Or.inl ⟨by rfl, fun w' hSw => ?_⟩) (by assumption) ?_
        · exact (exec_loadM _ _ _ _ _ _ _ _ (l1 _ hSw)).trans (congrArg (fun z : List Value => Result.ok (Next.value (.agg z.toArray)) w') (r1 _ hSw))
        (try simp only [Act.put]); (try simp only [List.setIfInBounds_toArray]); (try simp only [List.set_cons_succ]); (try simp only [List.set_cons_zero])
        refine wpAnyH_ready (rs := [3, 10]) (by kernel_rfl) (by simp) ?_
        refine AllReadyH.cons (o := { dst := some 47, op := Go.Op.call { callee := Go.Callee.value (Go.Operand.func 21), args := #[Go.Operand.tmp 7], argTypes := #[50] }, type := 9, pos := _, after := #[], guard := none }) rfl (fun K hK => ?_) ?_
        · skip
          go_simp
          refine (HSG.out _ _ IB0.out (Nat.le_trans zb0 (Below.size hE))).mono ?_
          rintro e v1 ⟨rfl, hbv1, hov1⟩
          have e1 : Below w5.heap.size wr.drew v1 := Below.trans hE hbv1
          go_wp2_with fail
          refine hK.out _ _ e1 (fun hHeld => ?_)
          clear hK K
          (try simp only [Act.put]); (try simp only [List.setIfInBounds_toArray]); (try simp only [List.set_cons_succ]); (try simp only [List.set_cons_zero])
          refine wpAnyH_ready (rs := [4, 10]) (by kernel_rfl) (by simp) ?_
          refine AllReadyH.cons (o := { dst := some 48, op := Go.Op.call { callee := Go.Callee.value (Go.Operand.func 9), args := #[Go.Operand.tmp 44, Go.Operand.tmp 45, Go.Operand.tmp 46, Go.Operand.tmp 47], argTypes := #[23, 26, 30, 9] }, type := 33, pos := _, after := #[{ on := 0, ground := Go.Ground.data }, { on := 1, ground := Go.Ground.data }, { on := 2, ground := Go.Ground.data }, { on := 3, ground := Go.Ground.data }, { on := 3, ground := Go.Ground.chain }], guard := none }) rfl (fun K hK => ?_) ?_
          · skip
            go_simp
            refine (HTY.out _).mono ?_
            rintro e v2 ⟨al1, cl1, n1, hn1, rfl, hbv2⟩
            have e2 : Below w5.heap.size wr.drew v2 := Below.trans e1 (Below.mono hbv2 (Nat.le_trans zb0 (Below.size e1)))
            go_wp2_with fail
            refine hK.out _ _ e2 (fun hHeld => ?_)
            clear hK K
            (try simp only [Act.put]); (try simp only [List.setIfInBounds_toArray]); (try simp only [List.set_cons_succ]); (try simp only [List.set_cons_zero])
            refine wpAnyH_take (i := 5) (oi := { dst := some 43, op := Go.Op.move (Go.Operand.tmp 48), type := 33, pos := _, after := #[{ on := 4, ground := Go.Ground.data }], guard := none }) (v := .tuple #[.agg #[.string Z1, .bool false], .slice al1 n1 cl1, .string Z2, .int .i64 r]) rfl (by kernel_rfl) (by kernel_rfl) (by kernel_rfl) (fun _ _ _ h => h) (Or.inl ⟨by rfl, fun w' hSw => ?_⟩) (by assumption) ?_
            · (try dsimp only at hSw); go_simp
            (try simp only [Act.put]); (try simp only [List.setIfInBounds_toArray]); (try simp only [List.set_cons_succ]); (try simp only [List.set_cons_zero])
            refine wpAnyH_take (i := 6) (oi := { dst := some 49, op := Go.Op.extract (Go.Operand.tmp 43) 0, type := 23, pos := _, after := #[{ on := 5, ground := Go.Ground.data }], guard := none }) (v := .agg #[.string Z1, .bool false]) rfl (by kernel_rfl) (by kernel_rfl) (by kernel_rfl) (fun _ _ _ h => h) (Or.inl ⟨by rfl, fun w' hSw => ?_⟩) (by assumption) ?_
            · (try dsimp only at hSw); go_simp
            (try simp only [Act.put]); (try simp only [List.setIfInBounds_toArray]); (try simp only [List.set_cons_succ]); (try simp only [List.set_cons_zero])
            refine wpAnyH_take (i := 7) (oi := { dst := some 50, op := Go.Op.extract (Go.Operand.tmp 43) 1, type := 31, pos := _, after := #[{ on := 5, ground := Go.Ground.data }, { on := 11, ground := Go.Ground.gcOnly Go.Departure.lateStores }], guard := none }) (v := .slice al1 n1 cl1) rfl (by kernel_rfl) (by kernel_rfl) (by kernel_rfl) (fun _ _ _ h => h) (Or.inl ⟨by rfl, fun w' hSw => ?_⟩) (by assumption) ?_
            · (try dsimp only at hSw); go_simp
            (try simp only [Act.put]); (try simp only [List.setIfInBounds_toArray]); (try simp only [List.set_cons_succ]); (try simp only [List.set_cons_zero])
            refine wpAnyH_take (i := 8) (oi := { dst := some 51, op := Go.Op.extract (Go.Operand.tmp 43) 2, type := 9, pos := _, after := #[{ on := 5, ground := Go.Ground.data }, { on := 12, ground := Go.Ground.gcOnly Go.Departure.lateStores }], guard := none }) (v := .string Z2) rfl (by kernel_rfl) (by kernel_rfl) (by kernel_rfl) (fun _ _ _ h => h) (Or.inl ⟨by rfl, fun w' hSw => ?_⟩) (by assumption) ?_
            · (try dsimp only at hSw); go_simp
            (try simp only [Act.put]); (try simp only [List.setIfInBounds_toArray]); (try simp only [List.set_cons_succ]); (try simp only [List.set_cons_zero])
            refine wpAnyH_take (i := 9) (oi := { dst := some 52, op := Go.Op.extract (Go.Operand.tmp 43) 3, type := 32, pos := _, after := #[{ on := 5, ground := Go.Ground.data }, { on := 13, ground := Go.Ground.gcOnly Go.Departure.lateStores }], guard := none }) (v := .int .i64 r) rfl (by kernel_rfl) (by kernel_rfl) (by kernel_rfl) (fun _ _ _ h => h) (Or.inl ⟨by rfl, fun w' hSw => ?_⟩) (by assumption) ?_
            · (try dsimp only at hSw); go_simp
            (try simp only [Act.put]); (try simp only [List.setIfInBounds_toArray]); (try simp only [List.set_cons_succ]); (try simp only [List.set_cons_zero])
            refine wpAnyH_ready (rs := [10]) (by kernel_rfl) (by simp) ?_
            refine AllReadyH.cons (o := { dst := some 9, op := Go.Op.alloc 23, type := 0, pos := _, after := #[], guard := none }) rfl (fun K hK => ?_) ?_
            · skip
              go_simp
              have e3 : Below w5.heap.size wr.drew (v2.alloc (.cells #[.string { data := #[] }, .bool false] 23)) := Below.alloc e2 (Nat.le_trans zb0 (Below.size e2)) _
              have bx0 : Hid (Box (v2.alloc (.cells #[.string { data := #[] }, .bool false] 23)) v2.heap.size 23 [.string { data := #[] }, .bool false]) := Box.new v2 _ _
              have zb : w5.heap.size ≤ v2.heap.size := (Nat.le_trans zb0 (Below.size e2) : w5.heap.size ≤ _)
              refine hK.out _ _ e3 (fun hHeld => ?_)
              clear hK K
              (try simp only [Act.put]); (try simp only [List.setIfInBounds_toArray]); (try simp only [List.set_cons_succ]); (try simp only [List.set_cons_zero])
              refine wpAnyH_ready (rs := [11]) (by kernel_rfl) (by simp) ?_
              refine AllReadyH.cons (o := { dst := none, op := Go.Op.store 23 (Go.Operand.tmp 9) (Go.Operand.tmp 49), type := 0, pos := _, after := #[{ on := 10, ground := Go.Ground.data }, { on := 6, ground := Go.Ground.data }, { on := 4, ground := Go.Ground.chain }, { on := 0, ground := Go.Ground.phase }, { on := 1, ground := Go.Ground.phase }, { on := 2, ground := Go.Ground.phase }, { on := 3, ground := Go.Ground.phase }, { on := 4, ground := Go.Ground.phase }, { on := 5, ground := Go.Ground.phase }, { on := 6, ground := Go.Ground.phase }, { on := 7, ground := Go.Ground.textOnly Go.Departure.lateStores }, { on := 8, ground := Go.Ground.textOnly Go.Departure.lateStores }, { on := 9, ground := Go.Ground.textOnly Go.Departure.lateStores }, { on := 10, ground := Go.Ground.phase }], guard := none }) rfl (fun K hK => ?_) ?_
              · skip
                go_simp
                have e4 : Below w5.heap.size wr.drew (v2.alloc (.cells #[.string Z1, .bool false] 23)) := Below.alloc e2 (Nat.le_trans zb0 (Below.size e2)) _
                have bxf : Hid (Box (v2.alloc (.cells #[.string Z1, .bool false] 23)) v2.heap.size 23 [.string Z1, .bool false]) := Box.new v2 _ _
                refine hK.out _ _ e4 (fun hHeld => ?_)
                clear hK K
                (try simp only [Act.put]); (try simp only [List.setIfInBounds_toArray]); (try simp only [List.set_cons_succ]); (try simp only [List.set_cons_zero])
                refine wpAnyH_take (i := 12) (oi := { dst := some 10, op := Go.Op.assign (Go.Operand.tmp 50), type := 31, pos := _, after := #[{ on := 7, ground := Go.Ground.data }, { on := 11, ground := Go.Ground.chain }, { on := 0, ground := Go.Ground.phase }, { on := 1, ground := Go.Ground.phase }, { on := 2, ground := Go.Ground.phase }, { on := 3, ground := Go.Ground.phase }, { on := 4, ground := Go.Ground.phase }, { on := 5, ground := Go.Ground.phase }, { on := 6, ground := Go.Ground.phase }, { on := 7, ground := Go.Ground.phase }, { on := 8, ground := Go.Ground.textOnly Go.Departure.lateStores }, { on := 9, ground := Go.Ground.textOnly Go.Departure.lateStores }, { on := 10, ground := Go.Ground.phase }, { on := 11, ground := Go.Ground.phase }], guard := none }) (v := .slice al1 n1 cl1) rfl (by kernel_rfl) (by kernel_rfl) (by kernel_rfl) (fun _ _ _ h => h) (Or.inl ⟨by rfl, fun w' hSw => ?_⟩) (by assumption) ?_
                · (try dsimp only at hSw); go_simp
                (try simp only [Act.put]); (try simp only [List.setIfInBounds_toArray]); (try simp only [List.set_cons_succ]); (try simp only [List.set_cons_zero])
                refine wpAnyH_take (i := 13) (oi := { dst := some 11, op := Go.Op.assign (Go.Operand.tmp 51), type := 9, pos := _, after := #[{ on := 8, ground := Go.Ground.data }, { on := 12, ground := Go.Ground.chain }, { on := 0, ground := Go.Ground.phase }, { on := 1, ground := Go.Ground.phase }, { on := 2, ground := Go.Ground.phase }, { on := 3, ground := Go.Ground.phase }, { on := 4, ground := Go.Ground.phase }, { on := 5, ground := Go.Ground.phase }, { on := 6, ground := Go.Ground.phase }, { on := 7, ground := Go.Ground.phase }, { on := 8, ground := Go.Ground.phase }, { on := 9, ground := Go.Ground.textOnly Go.Departure.lateStores }, { on := 10, ground := Go.Ground.phase }, { on := 11, ground := Go.Ground.phase }, { on := 12, ground := Go.Ground.phase }], guard := none }) (v := .string Z2) rfl (by kernel_rfl) (by kernel_rfl) (by kernel_rfl) (fun _ _ _ h => h) (Or.inl ⟨by rfl, fun w' hSw => ?_⟩) (by assumption) ?_
                · (try dsimp only at hSw); go_simp
                (try simp only [Act.put]); (try simp only [List.setIfInBounds_toArray]); (try simp only [List.set_cons_succ]); (try simp only [List.set_cons_zero])
                refine wpAnyH_take (i := 14) (oi := { dst := some 12, op := Go.Op.assign (Go.Operand.tmp 52), type := 32, pos := _, after := #[{ on := 9, ground := Go.Ground.data }, { on := 13, ground := Go.Ground.chain }, { on := 0, ground := Go.Ground.phase }, { on := 1, ground := Go.Ground.phase }, { on := 2, ground := Go.Ground.phase }, { on := 3, ground := Go.Ground.phase }, { on := 4, ground := Go.Ground.phase }, { on := 5, ground := Go.Ground.phase }, { on := 6, ground := Go.Ground.phase }, { on := 7, ground := Go.Ground.phase }, { on := 8, ground := Go.Ground.phase }, { on := 9, ground := Go.Ground.phase }, { on := 10, ground := Go.Ground.phase }, { on := 11, ground := Go.Ground.phase }, { on := 12, ground := Go.Ground.phase }, { on := 13, ground := Go.Ground.phase }], guard := none }) (v := .int .i64 r) rfl (by kernel_rfl) (by kernel_rfl) (by kernel_rfl) (fun _ _ _ h => h) (Or.inl ⟨by rfl, fun w' hSw => ?_⟩) (by assumption) ?_
                · (try dsimp only at hSw); go_simp
                (try simp only [Act.put]); (try simp only [List.setIfInBounds_toArray]); (try simp only [List.set_cons_succ]); (try simp only [List.set_cons_zero])
                refine wpAnyH_done (by kernel_rfl) ?_ _
                refine NoPanic.normal ?_
                have HF := Hid.mk' (HB0.out.trans (Below.mono e4 (Nat.le_of_lt yk)))
                have BK7 := Hid.mk' (BKD.out.below e4 yk)
                generalize (v2.alloc (.cells #[.string Z1, .bool false] 23)) = wE at *
                obtain rfl : n1 = 0 := hn1.out
                clear e4
                go_wp2_with (with_reducible refine wpList_load_box 26 26 lq w.heap.size _ Tryd.underlying26 rfl HSK.out BK7.out rfl _ rfl rfl ?_)
                refine (HKR.out _).mono ?_
                rintro e wz ⟨rfl, hz⟩
                have HFz := Hid.mk' (HF.out.trans (Below.mono hz HF.out.size))
                have bxz := Hid.mk' (bxf.out.later hz)
                clear hz HF bxf
                have d0 := bxz.out.cell (j := 0) rfl
                have d1 := bxz.out.cell (j := 1) rfl
                rcases HCASE.out with rfl | ⟨rfl, rfl, rfl⟩
                · go_wp2
                  go_ret
                  exact ⟨rfl, HFz.out⟩
                · go_wp2
                  go_ret
                  exact ⟨rfl, HFz.out⟩
              exact AllReadyH.nil
            exact AllReadyH.nil
          refine AllReadyH.cons (o := { dst := some 9, op := Go.Op.alloc 23, type := 0, pos := _, after := #[], guard := none }) rfl (fun K hK => ?_) ?_
          · skip
            go_simp
            have e5 : Below w5.heap.size wr.drew (v1.alloc (.cells #[.string { data := #[] }, .bool false] 23)) := Below.alloc e1 (Nat.le_trans zb0 (Below.size e1)) _
            have bx1 : Hid (Box (v1.alloc (.cells #[.string { data := #[] }, .bool false] 23)) v1.heap.size 23 [.string { data := #[] }, .bool false]) := Box.new v1 _ _
            have zb : w5.heap.size ≤ v1.heap.size := (Nat.le_trans zb0 (Below.size e1) : w5.heap.size ≤ _)
            refine hK.out _ _ e5 (fun hHeld => ?_)
            clear hK K
            (try simp only [Act.put]); (try simp only [List.setIfInBounds_toArray]); (try simp only [List.set_cons_succ]); (try simp only [List.set_cons_zero])
            refine wpAnyH_ready (rs := [4]) (by kernel_rfl) (by simp) ?_
            refine AllReadyH.cons (o := { dst := some 48, op := Go.Op.call { callee := Go.Callee.value (Go.Operand.func 9), args := #[Go.Operand.tmp 44, Go.Operand.tmp 45, Go.Operand.tmp 46, Go.Operand.tmp 47], argTypes := #[23, 26, 30, 9] }, type := 33, pos := _, after := #[{ on := 0, ground := Go.Ground.data }, { on := 1, ground := Go.Ground.data }, { on := 2, ground := Go.Ground.data }, { on := 3, ground := Go.Ground.data }, { on := 3, ground := Go.Ground.chain }], guard := none }) rfl (fun K hK => ?_) ?_
            · skip
              go_simp
              refine (HTY.out _).mono ?_
              rintro e v6 ⟨al1, cl1, n1, hn1, rfl, hbv6⟩
              have e6 : Below w5.heap.size wr.drew v6 := Below.trans e5 (Below.mono hbv6 (Nat.le_trans zb0 (Below.size e5)))
              have bx2 := Hid.mk' (bx1.out.later hbv6)
              go_wp2_with fail
              refine hK.out _ _ e6 (fun hHeld => ?_)
              clear hK K
              (try simp only [Act.put]); (try simp only [List.setIfInBounds_toArray]); (try simp only [List.set_cons_succ]); (try simp only [List.set_cons_zero])
              refine wpAnyH_take (i := 5) (oi := { dst := some 43, op := Go.Op.move (Go.Operand.tmp 48), type := 33, pos := _, after := #[{ on := 4, ground := Go.Ground.data }], guard := none }) (v := .tuple #[.agg #[.string Z1, .bool false], .slice al1 n1 cl1, .string Z2, .int .i64 r]) rfl (by kernel_rfl) (by kernel_rfl) (by kernel_rfl) (fun _ _ _ h => h) (Or.inl ⟨by rfl, fun w' hSw => ?_⟩) (by assumption) ?_
              · (try dsimp only at hSw); go_simp
              (try simp only [Act.put]); (try simp only [List.setIfInBounds_toArray]); (try simp only [List.set_cons_succ]); (try simp only [List.set_cons_zero])
              refine wpAnyH_take (i := 6) (oi := { dst := some 49, op := Go.Op.extract (Go.Operand.tmp 43) 0, type := 23, pos := _, after := #[{ on := 5, ground := Go.Ground.data }], guard := none }) (v := .agg #[.string Z1, .bool false]) rfl (by kernel_rfl) (by kernel_rfl) (by kernel_rfl) (fun _ _ _ h => h) (Or.inl ⟨by rfl, fun w' hSw => ?_⟩) (by assumption) ?_
              · (try dsimp only at hSw); go_simp
              (try simp only [Act.put]); (try simp only [List.setIfInBounds_toArray]); (try simp only [List.set_cons_succ]); (try simp only [List.set_cons_zero])
              refine wpAnyH_take (i := 7) (oi := { dst := some 50, op := Go.Op.extract (Go.Operand.tmp 43) 1, type := 31, pos := _, after := #[{ on := 5, ground := Go.Ground.data }, { on := 11, ground := Go.Ground.gcOnly Go.Departure.lateStores }], guard := none }) (v := .slice al1 n1 cl1) rfl (by kernel_rfl) (by kernel_rfl) (by kernel_rfl) (fun _ _ _ h => h) (Or.inl ⟨by rfl, fun w' hSw => ?_⟩) (by assumption) ?_
              · (try dsimp only at hSw); go_simp
              (try simp only [Act.put]); (try simp only [List.setIfInBounds_toArray]); (try simp only [List.set_cons_succ]); (try simp only [List.set_cons_zero])
              refine wpAnyH_take (i := 8) (oi := { dst := some 51, op := Go.Op.extract (Go.Operand.tmp 43) 2, type := 9, pos := _, after := #[{ on := 5, ground := Go.Ground.data }, { on := 12, ground := Go.Ground.gcOnly Go.Departure.lateStores }], guard := none }) (v := .string Z2) rfl (by kernel_rfl) (by kernel_rfl) (by kernel_rfl) (fun _ _ _ h => h) (Or.inl ⟨by rfl, fun w' hSw => ?_⟩) (by assumption) ?_
              · (try dsimp only at hSw); go_simp
              (try simp only [Act.put]); (try simp only [List.setIfInBounds_toArray]); (try simp only [List.set_cons_succ]); (try simp only [List.set_cons_zero])
              refine wpAnyH_take (i := 9) (oi := { dst := some 52, op := Go.Op.extract (Go.Operand.tmp 43) 3, type := 32, pos := _, after := #[{ on := 5, ground := Go.Ground.data }, { on := 13, ground := Go.Ground.gcOnly Go.Departure.lateStores }], guard := none }) (v := .int .i64 r) rfl (by kernel_rfl) (by kernel_rfl) (by kernel_rfl) (fun _ _ _ h => h) (Or.inl ⟨by rfl, fun w' hSw => ?_⟩) (by assumption) ?_
              · (try dsimp only at hSw); go_simp
              (try simp only [Act.put]); (try simp only [List.setIfInBounds_toArray]); (try simp only [List.set_cons_succ]); (try simp only [List.set_cons_zero])
              refine wpAnyH_ready (rs := [11]) (by kernel_rfl) (by simp) ?_
              refine AllReadyH.cons (o := { dst := none, op := Go.Op.store 23 (Go.Operand.tmp 9) (Go.Operand.tmp 49), type := 0, pos := _, after := #[{ on := 10, ground := Go.Ground.data }, { on := 6, ground := Go.Ground.data }, { on := 4, ground := Go.Ground.chain }, { on := 0, ground := Go.Ground.phase }, { on := 1, ground := Go.Ground.phase }, { on := 2, ground := Go.Ground.phase }, { on := 3, ground := Go.Ground.phase }, { on := 4, ground := Go.Ground.phase }, { on := 5, ground := Go.Ground.phase }, { on := 6, ground := Go.Ground.phase }, { on := 7, ground := Go.Ground.textOnly Go.Departure.lateStores }, { on := 8, ground := Go.Ground.textOnly Go.Departure.lateStores }, { on := 9, ground := Go.Ground.textOnly Go.Departure.lateStores }, { on := 10, ground := Go.Ground.phase }], guard := none }) rfl (fun K hK => ?_) ?_
              · skip
                have c0 := bx2.out.cell (j := 0) rfl
                have c1 := bx2.out.cell (j := 1) rfl
                have f0 := bx2.out.frozen 0
                have f1 := bx2.out.frozen 1
                go_simp
                have e7 : Below w5.heap.size wr.drew ((v6.setCell ⟨v1.heap.size, 0, none⟩ (.string Z1)).setCell ⟨v1.heap.size, 1, none⟩ (.bool false)) := (e6.setCell (p := ⟨v1.heap.size, 0, none⟩) (by show w5.heap.size ≤ v1.heap.size; omega) _).setCell (p := ⟨v1.heap.size, 1, none⟩) (by show w5.heap.size ≤ v1.heap.size; omega) _
                have bxf : Hid (Box ((v6.setCell ⟨v1.heap.size, 0, none⟩ (.string Z1)).setCell ⟨v1.heap.size, 1, none⟩ (.bool false)) v1.heap.size 23 [.string Z1, .bool false]) := (bx2.out.setCell 0 (.string Z1)).setCell 1 (.bool false)
                clear c0 c1 f0 f1
                refine hK.out _ _ e7 (fun hHeld => ?_)
                clear hK K
                (try simp only [Act.put]); (try simp only [List.setIfInBounds_toArray]); (try simp only [List.set_cons_succ]); (try simp only [List.set_cons_zero])
                refine wpAnyH_take (i := 12) (oi := { dst := some 10, op := Go.Op.assign (Go.Operand.tmp 50), type := 31, pos := _, after := #[{ on := 7, ground := Go.Ground.data }, { on := 11, ground := Go.Ground.chain }, { on := 0, ground := Go.Ground.phase }, { on := 1, ground := Go.Ground.phase }, { on := 2, ground := Go.Ground.phase }, { on := 3, ground := Go.Ground.phase }, { on := 4, ground := Go.Ground.phase }, { on := 5, ground := Go.Ground.phase }, { on := 6, ground := Go.Ground.phase }, { on := 7, ground := Go.Ground.phase }, { on := 8, ground := Go.Ground.textOnly Go.Departure.lateStores }, { on := 9, ground := Go.Ground.textOnly Go.Departure.lateStores }, { on := 10, ground := Go.Ground.phase }, { on := 11, ground := Go.Ground.phase }], guard := none }) (v := .slice al1 n1 cl1) rfl (by kernel_rfl) (by kernel_rfl) (by kernel_rfl) (fun _ _ _ h => h) (Or.inl ⟨by rfl, fun w' hSw => ?_⟩) (by assumption) ?_
                · (try dsimp only at hSw); go_simp
                (try simp only [Act.put]); (try simp only [List.setIfInBounds_toArray]); (try simp only [List.set_cons_succ]); (try simp only [List.set_cons_zero])
                refine wpAnyH_take (i := 13) (oi := { dst := some 11, op := Go.Op.assign (Go.Operand.tmp 51), type := 9, pos := _, after := #[{ on := 8, ground := Go.Ground.data }, { on := 12, ground := Go.Ground.chain }, { on := 0, ground := Go.Ground.phase }, { on := 1, ground := Go.Ground.phase }, { on := 2, ground := Go.Ground.phase }, { on := 3, ground := Go.Ground.phase }, { on := 4, ground := Go.Ground.phase }, { on := 5, ground := Go.Ground.phase }, { on := 6, ground := Go.Ground.phase }, { on := 7, ground := Go.Ground.phase }, { on := 8, ground := Go.Ground.phase }, { on := 9, ground := Go.Ground.textOnly Go.Departure.lateStores }, { on := 10, ground := Go.Ground.phase }, { on := 11, ground := Go.Ground.phase }, { on := 12, ground := Go.Ground.phase }], guard := none }) (v := .string Z2) rfl (by kernel_rfl) (by kernel_rfl) (by kernel_rfl) (fun _ _ _ h => h) (Or.inl ⟨by rfl, fun w' hSw => ?_⟩) (by assumption) ?_
                · (try dsimp only at hSw); go_simp
                (try simp only [Act.put]); (try simp only [List.setIfInBounds_toArray]); (try simp only [List.set_cons_succ]); (try simp only [List.set_cons_zero])
                refine wpAnyH_take (i := 14) (oi := { dst := some 12, op := Go.Op.assign (Go.Operand.tmp 52), type := 32, pos := _, after := #[{ on := 9, ground := Go.Ground.data }, { on := 13, ground := Go.Ground.chain }, { on := 0, ground := Go.Ground.phase }, { on := 1, ground := Go.Ground.phase }, { on := 2, ground := Go.Ground.phase }, { on := 3, ground := Go.Ground.phase }, { on := 4, ground := Go.Ground.phase }, { on := 5, ground := Go.Ground.phase }, { on := 6, ground := Go.Ground.phase }, { on := 7, ground := Go.Ground.phase }, { on := 8, ground := Go.Ground.phase }, { on := 9, ground := Go.Ground.phase }, { on := 10, ground := Go.Ground.phase }, { on := 11, ground := Go.Ground.phase }, { on := 12, ground := Go.Ground.phase }, { on := 13, ground := Go.Ground.phase }], guard := none }) (v := .int .i64 r) rfl (by kernel_rfl) (by kernel_rfl) (by kernel_rfl) (fun _ _ _ h => h) (Or.inl ⟨by rfl, fun w' hSw => ?_⟩) (by assumption) ?_
                · (try dsimp only at hSw); go_simp
                (try simp only [Act.put]); (try simp only [List.setIfInBounds_toArray]); (try simp only [List.set_cons_succ]); (try simp only [List.set_cons_zero])
                refine wpAnyH_done (by kernel_rfl) ?_ _
                refine NoPanic.normal ?_
                have HF := Hid.mk' (HB0.out.trans (Below.mono e7 (Nat.le_of_lt yk)))
                have BK7 := Hid.mk' (BKD.out.below e7 yk)
                generalize ((v6.setCell ⟨v1.heap.size, 0, none⟩ (.string Z1)).setCell ⟨v1.heap.size, 1, none⟩ (.bool false)) = wE at *
                obtain rfl : n1 = 0 := hn1.out
                clear e7
                go_wp2_with (with_reducible refine wpList_load_box 26 26 lq w.heap.size _ Tryd.underlying26 rfl HSK.out BK7.out rfl _ rfl rfl ?_)
                refine (HKR.out _).mono ?_
                rintro e wz ⟨rfl, hz⟩
                have HFz := Hid.mk' (HF.out.trans (Below.mono hz HF.out.size))
                have bxz := Hid.mk' (bxf.out.later hz)
                clear hz HF bxf
                have d0 := bxz.out.cell (j := 0) rfl
                have d1 := bxz.out.cell (j := 1) rfl
                rcases HCASE.out with rfl | ⟨rfl, rfl, rfl⟩
                · go_wp2
                  go_ret
                  exact ⟨rfl, HFz.out⟩
                · go_wp2
                  go_ret
                  exact ⟨rfl, HFz.out⟩
              exact AllReadyH.nil
            exact AllReadyH.nil
          exact AllReadyH.nil
        refine AllReadyH.cons (o := { dst := some 9, op := Go.Op.alloc 23, type := 0, pos := _, after := #[], guard := none }) rfl (fun K hK => ?_) ?_
        · skip
          go_simp
          have e8 : Below w5.heap.size wr.drew (wr.drew.alloc (.cells #[.string { data := #[] }, .bool false] 23)) := Below.alloc hE (Nat.le_trans zb0 (Below.size hE)) _
          have bx3 : Hid (Box (wr.drew.alloc (.cells #[.string { data := #[] }, .bool false] 23)) wr.heap.size 23 [.string { data := #[] }, .bool false]) := Box.new wr.drew _ _
          have zb : w5.heap.size ≤ wr.heap.size := (Nat.le_trans zb0 (Below.size hE) : w5.heap.size ≤ _)
          refine hK.out _ _ e8 (fun hHeld => ?_)
          clear hK K
          (try simp only [Act.put]); (try simp only [List.setIfInBounds_toArray]); (try simp only [List.set_cons_succ]); (try simp only [List.set_cons_zero])
          refine wpAnyH_ready (rs := [3]) (by kernel_rfl) (by simp) ?_
          refine AllReadyH.cons (o := { dst := some 47, op := Go.Op.call { callee := Go.Callee.value (Go.Operand.func 21), args := #[Go.Operand.tmp 7], argTypes := #[50] }, type := 9, pos := _, after := #[], guard := none }) rfl (fun K hK => ?_) ?_
          · skip
            go_simp
            refine (HSG.out _ _ (Builder_later IB0.out (Below.alloc (Below.refl _ wr.drew) (Nat.le_refl _) _)) (Nat.le_trans zb0 (Below.size e8))).mono ?_
            rintro e v9 ⟨rfl, hbv9, hov9⟩
            have e9 : Below w5.heap.size wr.drew v9 := Below.trans e8 hbv9
            have bx4 := Hid.mk' (Box_others bx3.out hov9 (by show wr.heap.size ≠ w5.heap.size; omega) (by decide))
            go_wp2_with fail
            refine hK.out _ _ e9 (fun hHeld => ?_)
            clear hK K
            (try simp only [Act.put]); (try simp only [List.setIfInBounds_toArray]); (try simp only [List.set_cons_succ]); (try simp only [List.set_cons_zero])
            refine wpAnyH_ready (rs := [4]) (by kernel_rfl) (by simp) ?_
            refine AllReadyH.cons (o := { dst := some 48, op := Go.Op.call { callee := Go.Callee.value (Go.Operand.func 9), args := #[Go.Operand.tmp 44, Go.Operand.tmp 45, Go.Operand.tmp 46, Go.Operand.tmp 47], argTypes := #[23, 26, 30, 9] }, type := 33, pos := _, after := #[{ on := 0, ground := Go.Ground.data }, { on := 1, ground := Go.Ground.data }, { on := 2, ground := Go.Ground.data }, { on := 3, ground := Go.Ground.data }, { on := 3, ground := Go.Ground.chain }], guard := none }) rfl (fun K hK => ?_) ?_
            · skip
              go_simp
              refine (HTY.out _).mono ?_
              rintro e v10 ⟨al1, cl1, n1, hn1, rfl, hbv10⟩
              have e10 : Below w5.heap.size wr.drew v10 := Below.trans e9 (Below.mono hbv10 (Nat.le_trans zb0 (Below.size e9)))
              have bx5 := Hid.mk' (bx4.out.later hbv10)
              go_wp2_with fail
              refine hK.out _ _ e10 (fun hHeld => ?_)
              clear hK K
              (try simp only [Act.put]); (try simp only [List.setIfInBounds_toArray]); (try simp only [List.set_cons_succ]); (try simp only [List.set_cons_zero])
              refine wpAnyH_take (i := 5) (oi := { dst := some 43, op := Go.Op.move (Go.Operand.tmp 48), type := 33, pos := _, after := #[{ on := 4, ground := Go.Ground.data }], guard := none }) (v := .tuple #[.agg #[.string Z1, .bool false], .slice al1 n1 cl1, .string Z2, .int .i64 r]) rfl (by kernel_rfl) (by kernel_rfl) (by kernel_rfl) (fun _ _ _ h => h) (Or.inl ⟨by rfl, fun w' hSw => ?_⟩) (by assumption) ?_
              · (try dsimp only at hSw); go_simp
              (try simp only [Act.put]); (try simp only [List.setIfInBounds_toArray]); (try simp only [List.set_cons_succ]); (try simp only [List.set_cons_zero])
              refine wpAnyH_take (i := 6) (oi := { dst := some 49, op := Go.Op.extract (Go.Operand.tmp 43) 0, type := 23, pos := _, after := #[{ on := 5, ground := Go.Ground.data }], guard := none }) (v := .agg #[.string Z1, .bool false]) rfl (by kernel_rfl) (by kernel_rfl) (by kernel_rfl) (fun _ _ _ h => h) (Or.inl ⟨by rfl, fun w' hSw => ?_⟩) (by assumption) ?_
              · (try dsimp only at hSw); go_simp
              (try simp only [Act.put]); (try simp only [List.setIfInBounds_toArray]); (try simp only [List.set_cons_succ]); (try simp only [List.set_cons_zero])
              refine wpAnyH_take (i := 7) (oi := { dst := some 50, op := Go.Op.extract (Go.Operand.tmp 43) 1, type := 31, pos := _, after := #[{ on := 5, ground := Go.Ground.data }, { on := 11, ground := Go.Ground.gcOnly Go.Departure.lateStores }], guard := none }) (v := .slice al1 n1 cl1) rfl (by kernel_rfl) (by kernel_rfl) (by kernel_rfl) (fun _ _ _ h => h) (Or.inl ⟨by rfl, fun w' hSw => ?_⟩) (by assumption) ?_
              · (try dsimp only at hSw); go_simp
              (try simp only [Act.put]); (try simp only [List.setIfInBounds_toArray]); (try simp only [List.set_cons_succ]); (try simp only [List.set_cons_zero])
              refine wpAnyH_take (i := 8) (oi := { dst := some 51, op := Go.Op.extract (Go.Operand.tmp 43) 2, type := 9, pos := _, after := #[{ on := 5, ground := Go.Ground.data }, { on := 12, ground := Go.Ground.gcOnly Go.Departure.lateStores }], guard := none }) (v := .string Z2) rfl (by kernel_rfl) (by kernel_rfl) (by kernel_rfl) (fun _ _ _ h => h) (Or.inl ⟨by rfl, fun w' hSw => ?_⟩) (by assumption) ?_
              · (try dsimp only at hSw); go_simp
              (try simp only [Act.put]); (try simp only [List.setIfInBounds_toArray]); (try simp only [List.set_cons_succ]); (try simp only [List.set_cons_zero])
              refine wpAnyH_take (i := 9) (oi := { dst := some 52, op := Go.Op.extract (Go.Operand.tmp 43) 3, type := 32, pos := _, after := #[{ on := 5, ground := Go.Ground.data }, { on := 13, ground := Go.Ground.gcOnly Go.Departure.lateStores }], guard := none }) (v := .int .i64 r) rfl (by kernel_rfl) (by kernel_rfl) (by kernel_rfl) (fun _ _ _ h => h) (Or.inl ⟨by rfl, fun w' hSw => ?_⟩) (by assumption) ?_
              · (try dsimp only at hSw); go_simp
              (try simp only [Act.put]); (try simp only [List.setIfInBounds_toArray]); (try simp only [List.set_cons_succ]); (try simp only [List.set_cons_zero])
              refine wpAnyH_ready (rs := [11]) (by kernel_rfl) (by simp) ?_
              refine AllReadyH.cons (o := { dst := none, op := Go.Op.store 23 (Go.Operand.tmp 9) (Go.Operand.tmp 49), type := 0, pos := _, after := #[{ on := 10, ground := Go.Ground.data }, { on := 6, ground := Go.Ground.data }, { on := 4, ground := Go.Ground.chain }, { on := 0, ground := Go.Ground.phase }, { on := 1, ground := Go.Ground.phase }, { on := 2, ground := Go.Ground.phase }, { on := 3, ground := Go.Ground.phase }, { on := 4, ground := Go.Ground.phase }, { on := 5, ground := Go.Ground.phase }, { on := 6, ground := Go.Ground.phase }, { on := 7, ground := Go.Ground.textOnly Go.Departure.lateStores }, { on := 8, ground := Go.Ground.textOnly Go.Departure.lateStores }, { on := 9, ground := Go.Ground.textOnly Go.Departure.lateStores }, { on := 10, ground := Go.Ground.phase }], guard := none }) rfl (fun K hK => ?_) ?_
              · skip
                have c0 := bx5.out.cell (j := 0) rfl
                have c1 := bx5.out.cell (j := 1) rfl
                have f0 := bx5.out.frozen 0
                have f1 := bx5.out.frozen 1
                go_simp
                have e11 : Below w5.heap.size wr.drew ((v10.setCell ⟨wr.heap.size, 0, none⟩ (.string Z1)).setCell ⟨wr.heap.size, 1, none⟩ (.bool false)) := (e10.setCell (p := ⟨wr.heap.size, 0, none⟩) (by show w5.heap.size ≤ wr.heap.size; omega) _).setCell (p := ⟨wr.heap.size, 1, none⟩) (by show w5.heap.size ≤ wr.heap.size; omega) _
                have bxf : Hid (Box ((v10.setCell ⟨wr.heap.size, 0, none⟩ (.string Z1)).setCell ⟨wr.heap.size, 1, none⟩ (.bool false)) wr.heap.size 23 [.string Z1, .bool false]) := (bx5.out.setCell 0 (.string Z1)).setCell 1 (.bool false)
                clear c0 c1 f0 f1
                refine hK.out _ _ e11 (fun hHeld => ?_)
                clear hK K
                (try simp only [Act.put]); (try simp only [List.setIfInBounds_toArray]); (try simp only [List.set_cons_succ]); (try simp only [List.set_cons_zero])
                refine wpAnyH_take (i := 12) (oi := { dst := some 10, op := Go.Op.assign (Go.Operand.tmp 50), type := 31, pos := _, after := #[{ on := 7, ground := Go.Ground.data }, { on := 11, ground := Go.Ground.chain }, { on := 0, ground := Go.Ground.phase }, { on := 1, ground := Go.Ground.phase }, { on := 2, ground := Go.Ground.phase }, { on := 3, ground := Go.Ground.phase }, { on := 4, ground := Go.Ground.phase }, { on := 5, ground := Go.Ground.phase }, { on := 6, ground := Go.Ground.phase }, { on := 7, ground := Go.Ground.phase }, { on := 8, ground := Go.Ground.textOnly Go.Departure.lateStores }, { on := 9, ground := Go.Ground.textOnly Go.Departure.lateStores }, { on := 10, ground := Go.Ground.phase }, { on := 11, ground := Go.Ground.phase }], guard := none }) (v := .slice al1 n1 cl1) rfl (by kernel_rfl) (by kernel_rfl) (by kernel_rfl) (fun _ _ _ h => h) (Or.inl ⟨by rfl, fun w' hSw => ?_⟩) (by assumption) ?_
                · (try dsimp only at hSw); go_simp
                (try simp only [Act.put]); (try simp only [List.setIfInBounds_toArray]); (try simp only [List.set_cons_succ]); (try simp only [List.set_cons_zero])
                refine wpAnyH_take (i := 13) (oi := { dst := some 11, op := Go.Op.assign (Go.Operand.tmp 51), type := 9, pos := _, after := #[{ on := 8, ground := Go.Ground.data }, { on := 12, ground := Go.Ground.chain }, { on := 0, ground := Go.Ground.phase }, { on := 1, ground := Go.Ground.phase }, { on := 2, ground := Go.Ground.phase }, { on := 3, ground := Go.Ground.phase }, { on := 4, ground := Go.Ground.phase }, { on := 5, ground := Go.Ground.phase }, { on := 6, ground := Go.Ground.phase }, { on := 7, ground := Go.Ground.phase }, { on := 8, ground := Go.Ground.phase }, { on := 9, ground := Go.Ground.textOnly Go.Departure.lateStores }, { on := 10, ground := Go.Ground.phase }, { on := 11, ground := Go.Ground.phase }, { on := 12, ground := Go.Ground.phase }], guard := none }) (v := .string Z2) rfl (by kernel_rfl) (by kernel_rfl) (by kernel_rfl) (fun _ _ _ h => h) (Or.inl ⟨by rfl, fun w' hSw => ?_⟩) (by assumption) ?_
                · (try dsimp only at hSw); go_simp
                (try simp only [Act.put]); (try simp only [List.setIfInBounds_toArray]); (try simp only [List.set_cons_succ]); (try simp only [List.set_cons_zero])
                refine wpAnyH_take (i := 14) (oi := { dst := some 12, op := Go.Op.assign (Go.Operand.tmp 52), type := 32, pos := _, after := #[{ on := 9, ground := Go.Ground.data }, { on := 13, ground := Go.Ground.chain }, { on := 0, ground := Go.Ground.phase }, { on := 1, ground := Go.Ground.phase }, { on := 2, ground := Go.Ground.phase }, { on := 3, ground := Go.Ground.phase }, { on := 4, ground := Go.Ground.phase }, { on := 5, ground := Go.Ground.phase }, { on := 6, ground := Go.Ground.phase }, { on := 7, ground := Go.Ground.phase }, { on := 8, ground := Go.Ground.phase }, { on := 9, ground := Go.Ground.phase }, { on := 10, ground := Go.Ground.phase }, { on := 11, ground := Go.Ground.phase }, { on := 12, ground := Go.Ground.phase }, { on := 13, ground := Go.Ground.phase }], guard := none }) (v := .int .i64 r) rfl (by kernel_rfl) (by kernel_rfl) (by kernel_rfl) (fun _ _ _ h => h) (Or.inl ⟨by rfl, fun w' hSw => ?_⟩) (by assumption) ?_
                · (try dsimp only at hSw); go_simp
                (try simp only [Act.put]); (try simp only [List.setIfInBounds_toArray]); (try simp only [List.set_cons_succ]); (try simp only [List.set_cons_zero])
                refine wpAnyH_done (by kernel_rfl) ?_ _
                refine NoPanic.normal ?_
                have HF := Hid.mk' (HB0.out.trans (Below.mono e11 (Nat.le_of_lt yk)))
                have BK7 := Hid.mk' (BKD.out.below e11 yk)
                generalize ((v10.setCell ⟨wr.heap.size, 0, none⟩ (.string Z1)).setCell ⟨wr.heap.size, 1, none⟩ (.bool false)) = wE at *
                obtain rfl : n1 = 0 := hn1.out
                clear e11
                go_wp2_with (with_reducible refine wpList_load_box 26 26 lq w.heap.size _ Tryd.underlying26 rfl HSK.out BK7.out rfl _ rfl rfl ?_)
                refine (HKR.out _).mono ?_
                rintro e wz ⟨rfl, hz⟩
                have HFz := Hid.mk' (HF.out.trans (Below.mono hz HF.out.size))
                have bxz := Hid.mk' (bxf.out.later hz)
                clear hz HF bxf
                have d0 := bxz.out.cell (j := 0) rfl
                have d1 := bxz.out.cell (j := 1) rfl
                rcases HCASE.out with rfl | ⟨rfl, rfl, rfl⟩
                · go_wp2
                  go_ret
                  exact ⟨rfl, HFz.out⟩
                · go_wp2
                  go_ret
                  exact ⟨rfl, HFz.out⟩
              exact AllReadyH.nil
            exact AllReadyH.nil
          exact AllReadyH.nil
        exact AllReadyH.nil
end Go.Proofs.YtomgnnbcaficaaaDoor.L
