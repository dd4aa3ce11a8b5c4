/-
  Contract of slices.Clone at []int over a slice that is read; append of a slice of ints, whatever its length, also where the operation is guarded; conditions: the bounds that each names.
  farkeep.UtfBack returns true; conditions: the two tables of unicode/utf8 hold what their initialisers lay; at most 1048576 numbers.
  Contract of farref.Bytes: a string of the bytes that came in, one each; conditions: at most 100 of them.
-/
import Derived.Test.YtneiiinheimglaaGreatDoorJ14
import Derived.Laws.MakeOwn
namespace Go.Proofs.YtneiiinheimglaaGreatDoor.U
open Go.RowKit Go.Lib Go.Proofs.YtneiiinheimglaaGreatDoor


theorem run_append_zero {P : Program} (w : World) (t ty e : TypeId) (i : TypeInfo) (ht : P.underlying t = some (.slice e)) (hi : P.info? e = some i) (v : Value) (n : Nat)
    (hv : (v = .slice none 0 0 ∧ n = 0) ∨ ∃ g cap, v = .slice (some ⟨g, 0, none⟩) n cap ∧ n ≤ cap) (a : Option Addr) (c : Nat) :
    (Builtin.append_ #[t, t] ty #[v, .slice a 0 c]).run P w = .ok v w := by
  rcases hv with ⟨rfl, rfl⟩ | ⟨g, cap, rfl, h⟩
  · cases a with
    | none => simp [Builtin.append_, run_underlying ht, sizeOf, typeInfo, hi, Builtin.lenOf, Builtin.firstCells]
    | some a => simp [Builtin.append_, run_underlying ht, sizeOf, typeInfo, hi, Builtin.lenOf, Builtin.firstCells, loadCells, loadCellsFrom]
  · cases a with
    | none => simp [Builtin.append_, run_underlying ht, sizeOf, typeInfo, hi, Builtin.lenOf, Builtin.firstCells, h, storeCells]
    | some a => simp [Builtin.append_, run_underlying ht, sizeOf, typeInfo, hi, Builtin.lenOf, Builtin.firstCells, loadCells, loadCellsFrom, h, storeCells]

/-- append(x, y...): x owned, y only read -/
theorem run_append_ints (w : World) (ty : TypeId) (base : Nat) (v : Value) (l m : List Int) (hown : OwnR w base 3 1 v l.length (icells l)) (v2 : Value) (hm : RdI w v2 m) (hb : base ≤ w.heap.size) (hn : l.length + m.length ≤ 1000000000) :
    ∃ v' w', (Builtin.append_ #[22, 22] ty #[v, v2]).run Tryz.prog w = .ok v' w' ∧ OwnR w' base 3 1 v' (l ++ m).length (icells (l ++ m)) ∧ w.grownBy w' v.ownBlock := by
  obtain ⟨i0, hi, hz0, hz1, hz2⟩ := info_parts infoInt
  obtain ⟨a, cap, rfl, hc, hr⟩ := hm
  by_cases h0 : m = []
  · subst h0
    have hz := run_append_zero (P := Tryz.prog) w 22 ty 3 i0 Tryz.underlying22 hi v l.length (by
      rcases hown.form with h | ⟨g, c, e, _, _, h⟩
      · exact .inl h
      · exact .inr ⟨g, c, e, h⟩) a cap
    exact ⟨v, w, hz, by simpa using hown, World.grownBy.refl _ _⟩
  · rcases hr with h | ⟨b, off, rfl, hT, hbl⟩
    · exact absurd h h0
    have hadd : ∀ j, (⟨b, off, none⟩ : Addr).add j = ⟨b, off + j, none⟩ := fun j => by unfold Addr.add; split <;> simp_all
    have hnews : ∀ j u, (icells m)[j]? = some u → w.cell? ((⟨b, off, none⟩ : Addr).add j) = some u := by
      intro j u hu
      have hj : j < m.length := by have := (List.getElem?_eq_some_iff.1 hu).1; rwa [icells_length] at this
      rw [hadd, hT j hj]
      simpa [icells, hj] using hu
    obtain ⟨g, c2, w', a1, a2, a3, _, _⟩ := run_append_R (P := Tryz.prog) w 22 ty base 3 i0 (.int .i64 0) 1 8 Tryz.underlying22 hi hz0 hz1 hz2 rfl (by decide) v l.length (icells l) hown ⟨b, off, none⟩ m.length cap (icells m) (by simp [icells]) hnews (icells_one m) (by have : m.length ≠ 0 := fun e => h0 (List.length_eq_zero_iff.1 e); omega) (by unfold maxLen; omega) (by omega) hb _ rfl
    refine ⟨_, w', a1, ?_, a3⟩
    have e1 : (l ++ m).length = l.length + m.length := by simp
    have e2 : icells (l ++ m) = icells l ++ icells m := by simp [icells]
    rw [e1, e2]
    exact a2

theorem wpList_append_ints (w : World) {ops : Array Oper} {rest : List Oper} {o : Oper} {a : Act} {Q : Exit → Act → World → Prop} (hwd : Region.wanted o (yielded ops a.tmps) = true) (s x : Operand)
    (ho : o.op = .call { callee := .builtin .append, args := #[s, x], argTypes := #[22, 22] })
    (base : Nat) (v : Value) (l m : List Int) (hs : a.eval s = v) (hown : OwnR w base 3 1 v l.length (icells l)) (v2 : Value) (hx : a.eval x = v2) (hm : RdI w v2 m) (hb : base ≤ w.heap.size) (hn : l.length + m.length ≤ 1000000000)
    (h : ∀ v' w', OwnR w' base 3 1 v' (l ++ m).length (icells (l ++ m)) → w.grownBy w' v.ownBlock → wpList Tryz.prog ops Q rest (a.put o.dst v') w') : wpList Tryz.prog ops Q (o :: rest) a w := by
  refine wpList_step fun K hK => ?_
  rw [if_pos hwd]
  obtain ⟨v', w', hr, h2, h3⟩ := run_append_ints w o.type base v l m hown v2 hm hb hn
  unfold Oper.wp execOp
  simp only [ho, resolve, invoke, builtin, Sem.run_bind, Sem.run_pure, Result.andThen_ok, List.map_toArray, List.map_cons, List.map_nil, hs, hx, hr]
  exact hK _ _ (h v' w' h2 h3)

/-- what a row that grew leaves of another that is read: of blocks other than the row's own -/
theorem RdI.grown {w w' : World} {v : Value} {l : List Int} {row : Option Nat} (h : RdI w v l) (hg : w.grownBy w' row) (B : Nat) (hb : ∀ b off n c, v = .slice (some ⟨b, off, none⟩) n c → b < B) (hr : ∀ k, row = some k → B ≤ k) : RdI w' v l := by
  obtain ⟨a, cap, e, hc, hr2⟩ := h
  refine ⟨a, cap, e, hc, ?_⟩
  rcases hr2 with h | ⟨b, off, e2, hT, hbl⟩
  · exact .inl h
  · have hbB := hb b off _ _ (by rw [e, e2])
    have hblk : w'.heap[b]? = w.heap[b]? := hg.block b hbl (fun e => by have := hr b e.symm; omega)
    refine .inr ⟨b, off, e2, fun j hj => ?_, by have := hg.size; omega⟩
    have := hT j hj
    unfold World.cell? at this ⊢
    rw [hblk]; exact this
end Go.Proofs.YtneiiinheimglaaGreatDoor.U
namespace Go.Proofs.YtneiiinheimglaaGreatDoor.U
open Go.RowKit Go.Lib Go.Proofs.YtneiiinheimglaaGreatDoor

theorem setCell_block {w : World} {b : Nat} {arr : Array Value} {T : TypeId} {fz : Nat × Nat} (h : w.heap[b]? = some (.cells arr T fz)) (j : Nat) (v : Value) : (w.setCell ⟨b, j, none⟩ v).heap[b]? = some (.cells (arr.setIfInBounds j v) T fz) := by
  rw [setCell_eq_setRow w b j arr T fz v h]
  exact setRow_heap w b arr _ T fz h

theorem own_set {w : World} {base g n cap : Nat} {e : TypeId} {xs : List Value} (h : OwnR w base e 1 (.slice (some ⟨g, 0, none⟩) n cap) n xs) (k : Nat) (hk : k < n) (u : Value) :
    OwnR (w.setCell ⟨g, k, none⟩ u) base e 1 (.slice (some ⟨g, 0, none⟩) n cap) n (xs.set k u) ∧ base ≤ g ∧ (∃ x, w.cell? ⟨g, k, none⟩ = some x ∧ xs[k]? = some x) ∧ w.frozen? ⟨g, k, none⟩ = false := by
  obtain ⟨hlen, h2⟩ := h
  rcases h2 with ⟨e0, _⟩ | ⟨g', cap', cur, fz, e0, hb, hg, hf, hnc, hcm, hcs, ht⟩
  · simp at e0
  · simp only [Value.slice.injEq, Option.some.injEq, Addr.mk.injEq, and_true, true_and] at e0
    obtain ⟨rfl, rfl⟩ := e0
    have hsz : k < cur.size := by omega
    have hxs : xs[k]? = some cur[k] := by
      rw [← ht, List.getElem?_take, if_pos (by omega)]
      simp [hsz]
    refine ⟨⟨by simpa using hlen, .inr ⟨g, cap, cur.setIfInBounds k u, fz, rfl, hb, setCell_block hg k u, ?_, hnc, hcm, by simpa using hcs, ?_⟩⟩, hb, ⟨cur[k], ?_, hxs⟩, ?_⟩
    · rcases hf with h | h
      · exact .inl h
      · exact .inr (by simpa using h)
    · rw [Array.toList_setIfInBounds, ← ht, List.take_set]
    · rw [cell_of_row w g k cur e fz hg]; simp [hsz]
    · simp only [World.frozen?, hg]
      rcases hf with rfl | h
      · simp
      · simp; omega

def fixZ (c : Int) : Int := if runeZ c = true then c else 65533
theorem fixZ_eq (c : Int) : fixZ c = ((fixR c : Nat) : Int) := by
  unfold fixZ fixR runeZ
  simp only [decide_eq_true_eq]
  by_cases h : (0 ≤ c ∧ c ≤ 55295) ∨ (57344 ≤ c ∧ c ≤ 1114111)
  · rw [if_pos h, if_pos (by omega)]; omega
  · rw [if_neg h, if_neg (by omega)]; rfl
def fixTo (k : Nat) (l : List Int) : List Int := (l.take k).map fixZ ++ l.drop k
theorem fixTo_len (k : Nat) (l : List Int) : (fixTo k l).length = l.length := by
  simp only [fixTo, List.length_append, List.length_map, List.length_take, List.length_drop]; omega
theorem fixTo_at (k : Nat) (l : List Int) (h : k < l.length) : (icells (fixTo k l))[k]? = some (.int .i64 l[k]) := by
  have : (fixTo k l)[k]? = some l[k] := by
    unfold fixTo
    rw [List.getElem?_append_right (by simp; omega)]
    simp [List.getElem?_drop, show min k l.length = k by omega, h]
  simp [icells, this]
theorem fixTo_step (k : Nat) (l : List Int) (h : k < l.length) : fixTo (k + 1) l = (fixTo k l).set k (fixZ l[k]) := by
  unfold fixTo
  have e1 : (l.take k).map fixZ ++ l.drop k = (l.take k).map fixZ ++ l[k] :: l.drop (k + 1) := by rw [List.drop_eq_getElem_cons h]
  have hlen : ((l.take k).map fixZ).length = k := by simp; omega
  rw [e1, List.set_append, if_neg (by omega), hlen, Nat.sub_self, List.set_cons_zero, List.take_succ_eq_append_getElem h, List.map_append, List.append_assoc]
  rfl
theorem fixTo_same (k : Nat) (l : List Int) (h : k < l.length) (hr : runeZ l[k] = true) : fixTo (k + 1) l = fixTo k l := by
  have : fixZ l[k] = l[k] := by unfold fixZ; rw [if_pos hr]
  unfold fixTo
  have e1 : (l.take k).map fixZ ++ l.drop k = (l.take k).map fixZ ++ l[k] :: l.drop (k + 1) := by rw [List.drop_eq_getElem_cons h]
  rw [e1, List.take_succ_eq_append_getElem h, List.map_append, List.append_assoc, List.map_cons, List.map_nil, this]
  rfl
theorem fixTo_all (l : List Int) : fixTo l.length l = ints (l.map fixR) := by
  unfold fixTo ints
  simp only [List.take_length, List.drop_length, List.append_nil, List.map_map]
  exact List.map_congr_left fun c _ => fixZ_eq c

def WState (w : World) (l : List Int) (B : Nat) (v i : Value) (wr : World) : Prop :=
  ∃ k : Nat, k ≤ l.length ∧ i = .int .i64 (k : Int) ∧ OwnR wr B 3 1 v l.length (icells (fixTo k l)) ∧ Below w.heap.size w wr ∧ w.heap.size ≤ B




end Go.Proofs.YtneiiinheimglaaGreatDoor.U
namespace Go.Proofs.YtneiiinheimglaaGreatDoor.U
open Go.RowKit Go.Lib Go.Proofs.YtneiiinheimglaaGreatDoor

theorem infoByte : (Tryz.prog.info? 5).map (fun i => (i.zero, i.size, i.bytes)) = some (some (.int .u8 0), 1, 1) := by kernel_rfl

theorem take_set (l : List Value) (k : Nat) (v : Value) (h : k < l.length) : (l.set k v).take (k + 1) = l.take k ++ [v] := by
  have e : (l.set k v).take k = l.take k := by
    apply List.ext_getElem?
    intro i
    by_cases hi : i < k
    · simp [hi, show k ≠ i by omega]
    · simp [List.getElem?_take, hi]
  rw [List.take_succ_eq_append_getElem (by simpa using h), e]
  simp

def YState (w : World) (N : List UInt8) (i : Value) (wr : World) : Prop :=
  ∃ (k : Nat) (arr : Array Value), k ≤ N.length ∧ i = .int .i64 k ∧ wr.heap[w.heap.size]? = some (.cells arr 5 (0, 0)) ∧ arr.size = N.length ∧ arr.toList.take k = byteCells (N.take k) ∧ Below w.heap.size w wr ∧ w.heap.size < wr.heap.size

set_option maxHeartbeats 8000000 in
set_option maxRecDepth 100000 in
theorem Bytes_any (N : List UInt8) (g c : Nat) (w : World) (hn : N.length ≤ 100) (hc : ∀ k (h : k < N.length), w.cell? ⟨g, k, none⟩ = some (.int .i64 (N[k].toNat : Int))) (hg : g < w.heap.size) :
    Calls Tryz.prog 46 #[.slice (some ⟨g, 0, none⟩) N.length c] w fun e w' => e = .returned (.string ⟨N.toArray⟩) ∧ Below w.heap.size w w' := by
  obtain ⟨i0, hi, hz0, hz1, hz2⟩ := info_parts infoByte
  have hmk := run_makeSlice w 50 5 i0 (.int .u8 0) Tryz.underlying50 hi hz0 .i64 .i64 N.length N.length (by omega) (by omega) (by rw [hz1]; simp; omega) (by rw [hz2]; simp; omega) (by omega)
  rw [hz1] at hmk
  simp only [Int.toNat_natCast, Nat.mul_one] at hmk
  have HC := Hid.mk' hc
  have HS : Hid (YState w N (.int .i64 0) (w.alloc (.cells (madeCells (Value.int .u8 0).cells N.length) 5))) :=
    ⟨0, _, Nat.zero_le _, rfl, (MapKept.heap_alloc w _).1, size_madeCells _ _, by simp [byteCells], (Below.refl _ _).alloc (Nat.le_refl _) _, by simp⟩
  generalize madeCells (Value.int .u8 0).cells N.length = arr0 at *
  clear hc
  go_enter Tryz.func46, Tryz.ntmps46
  go_wp2_with fail
  go_loopw [11] (fun i wr => YState w N i wr) (fun i _ => N.length - (RowKit.intOf i).toNat)
  case atStart => exact HS.out
  case round =>
    obtain ⟨k, arr, hk, rfl, hblk, hsz, htk, hbl, hlt⟩ := hrel
    clear HS hmk
    have HB := Hid.mk' hbl
    have HK := Hid.mk' hblk
    have HT := Hid.mk' htk
    clear htk
    by_cases hl : k < N.length
    · have h1 : wr.cell? ⟨g, k, none⟩ = some (.int .i64 (N[k].toNat : Int)) := (hbl.cell (p := ⟨g, k, none⟩) hg).trans (HC.out k hl)
      have h2 : ∃ x, wr.cell? ⟨w.heap.size, k, none⟩ = some x := ⟨arr[k]'(by omega), by simp [World.cell?, hblk]⟩
      have h3 : ∀ j, wr.frozen? ⟨w.heap.size, j, none⟩ = false := fun j => by simp [World.frozen?, hblk]
      obtain ⟨x, h2⟩ := h2
      have hbn := N[k].toNat_lt
      have q1 : (0 : Int) ≤ (N[k].toNat : Int) := by omega
      have q2 : (N[k].toNat : Int) ≤ 255 := by omega
      have hts : N.take (k + 1) = N.take k ++ [N[k]] := List.take_succ_eq_append_getElem hl
      have HTS := Hid.mk' (show byteCells (N.take (k + 1)) = byteCells (N.take k) ++ [.int .u8 (N[k].toNat : Int)] by unfold byteCells; rw [hts, List.map_append]; rfl)
      clear hbl hblk hbn hts
      generalize (N[k].toNat : Int) = y at *
      go_wp2
      go_roundw
      case rel =>
        refine ⟨k + 1, arr.setIfInBounds k (.int .u8 y), by omega, by go_num, setCell_block HK.out _ _, by simpa using hsz, ?_, HB.out.setCell (by simp) _, by simpa using hlt⟩
        rw [HTS.out, ← HT.out]
        simp only [Array.toList_setIfInBounds]
        exact take_set _ _ _ (by simpa [hsz] using hl)
      case measure => simp [RowKit.intOf]; omega
    · obtain rfl : k = N.length := by omega
      have hown : OwnR wr 0 5 1 (.slice (some ⟨w.heap.size, 0, none⟩) N.length N.length) N.length (byteCells N) := by
        refine ⟨by simp [byteCells], .inr ⟨w.heap.size, N.length, arr, (0, 0), rfl, Nat.zero_le _, hblk, .inl rfl, Nat.le_refl _, by unfold maxLen; omega, by simpa using hsz, ?_⟩⟩
        have := HT.out
        rw [List.take_length] at this
        simpa using this
      have hstr : (convert 50 9 (.slice (some ⟨w.heap.size, 0, none⟩) N.length N.length)).run Tryz.prog wr = .ok (.string ⟨N.toArray⟩) wr := run_str hown
      clear hown hbl hblk
      go_wp2
      go_ret
      exact ⟨rfl, HB.out⟩

theorem Bytes_ints (N : List Nat) (w : World) (hN : ∀ x ∈ N, x < 256) (hn : N.length ≤ 100) :
    Calls Tryz.prog 46 #[.slice (some ⟨w.heap.size, 0, none⟩) N.length N.length] (w.alloc (.cells (icells (ints N)).toArray 3)) fun e w' => e = .returned (.string ⟨(N.map Nat.toUInt8).toArray⟩) ∧ Below w.heap.size w w' := by
  have hl : (N.map Nat.toUInt8).length = N.length := by simp
  have H := Bytes_any (N.map Nat.toUInt8) w.heap.size N.length (w.alloc (.cells (icells (ints N)).toArray 3)) (by omega) (fun k h => by
    rw [cell_of_row _ _ _ _ _ _ (MapKept.heap_alloc w _).1]
    have hk : k < N.length := by omega
    have := hN N[k] (List.getElem_mem hk)
    have e : (Nat.toUInt8 N[k]).toNat = N[k] := u8_nat this
    simp [icells, ints, hk]
    omega) (by simp)
  rw [hl] at H
  refine H.mono ?_
  rintro e w' ⟨rfl, hb⟩
  exact ⟨rfl, ((Below.refl _ _).alloc (Nat.le_refl _) _).trans (hb.mono (by simp))⟩

set_option maxHeartbeats 4000000 in
set_option maxRecDepth 100000 in
theorem RuneBytes_any (r : Nat) (w : World) (hr : isRune r) :
    Calls Tryz.prog 44 #[.int .i64 (r : Int)] w fun e w' => e = .returned (.string ⟨(encodeRune (r : Int)).toArray⟩) ∧ Below w.heap.size w w' := by
  rw [encN_eq hr]
  unfold isRune at hr
  unfold encN
  have hr2 : (r : Int) ≤ 1114111 := by omega
  have k1 : (0 : Int) ≤ (r : Int) := by omega
  by_cases c0 : r < 128
  · rw [if_pos c0]
    have H := Hid.mk' (Bytes_ints [r] w (by simp; omega) (by simp))
    have c0' : (r : Int) < 128 := by omega
    go_enter Tryz.func44, Tryz.ntmps44
    go_wp2_with fail
    refine H.out.mono ?_
    rintro e w1 ⟨rfl, hb1⟩
    have HB := Hid.mk' hb1
    clear hb1
    go_wp2
    go_ret
    exact ⟨rfl, HB.out⟩
  rw [if_neg c0]
  have c0' : ¬ (r : Int) < 128 := by omega
  by_cases c1 : r < 2048
  · rw [if_pos c1]
    have c1' : (r : Int) < 2048 := by omega
    have H := Bytes_ints [192 + r / 64, 128 + r % 64] w (by simp; omega) (by simp)
    have e : icells (ints [192 + r / 64, 128 + r % 64]) = [.int .i64 (192 + (r : Int) / 64), .int .i64 (128 + (r : Int) % 64)] := by simp [icells, ints]
    rw [e] at H
    generalize (⟨(List.map Nat.toUInt8 [192 + r / 64, 128 + r % 64]).toArray⟩ : ByteArray) = RS at *
    simp only [List.length_cons, List.length_nil, Nat.reduceAdd] at H
    have HH := Hid.mk' H
    clear H e
    go_enter Tryz.func44, Tryz.ntmps44
    go_wp2_with fail
    refine HH.out.mono ?_
    rintro e w1 ⟨rfl, hb1⟩
    have HB := Hid.mk' hb1
    clear hb1 HH
    go_wp2
    go_ret
    exact ⟨rfl, HB.out⟩
  rw [if_neg c1]
  have c1' : ¬ (r : Int) < 2048 := by omega
  by_cases c2 : r < 65536
  · rw [if_pos c2]
    have c2' : (r : Int) < 65536 := by omega
    have H := Bytes_ints [224 + r / 4096, 128 + r / 64 % 64, 128 + r % 64] w (by simp; omega) (by simp)
    have e : icells (ints [224 + r / 4096, 128 + r / 64 % 64, 128 + r % 64]) = [.int .i64 (224 + (r : Int) / 4096), .int .i64 (128 + (r : Int) / 64 % 64), .int .i64 (128 + (r : Int) % 64)] := by simp [icells, ints]
    rw [e] at H
    generalize (⟨(List.map Nat.toUInt8 [224 + r / 4096, 128 + r / 64 % 64, 128 + r % 64]).toArray⟩ : ByteArray) = RS at *
    simp only [List.length_cons, List.length_nil, Nat.reduceAdd] at H
    have HH := Hid.mk' H
    clear H e
    go_enter Tryz.func44, Tryz.ntmps44
    go_wp2_with fail
    refine HH.out.mono ?_
    rintro e w1 ⟨rfl, hb1⟩
    have HB := Hid.mk' hb1
    clear hb1 HH
    go_wp2
    go_ret
    exact ⟨rfl, HB.out⟩
  rw [if_neg c2]
  have c2' : ¬ (r : Int) < 65536 := by omega
  have H := Bytes_ints [240 + r / 262144, 128 + r / 4096 % 64, 128 + r / 64 % 64, 128 + r % 64] w (by simp; omega) (by simp)
  have e : icells (ints [240 + r / 262144, 128 + r / 4096 % 64, 128 + r / 64 % 64, 128 + r % 64]) = [.int .i64 (240 + (r : Int) / 262144), .int .i64 (128 + (r : Int) / 4096 % 64), .int .i64 (128 + (r : Int) / 64 % 64), .int .i64 (128 + (r : Int) % 64)] := by simp [icells, ints]
  rw [e] at H
  generalize (⟨(List.map Nat.toUInt8 [240 + r / 262144, 128 + r / 4096 % 64, 128 + r / 64 % 64, 128 + r % 64]).toArray⟩ : ByteArray) = RS at *
  simp only [List.length_cons, List.length_nil, Nat.reduceAdd] at H
  have HH := Hid.mk' H
  clear H e
  go_enter Tryz.func44, Tryz.ntmps44
  go_wp2_with fail
  refine HH.out.mono ?_
  rintro e w1 ⟨rfl, hb1⟩
  have HB := Hid.mk' hb1
  clear hb1 HH
  go_wp2
  go_ret
  exact ⟨rfl, HB.out⟩
end Go.Proofs.YtneiiinheimglaaGreatDoor.U
