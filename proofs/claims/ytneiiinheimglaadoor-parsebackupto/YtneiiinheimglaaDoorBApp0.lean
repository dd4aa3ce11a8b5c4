/-
  Append of ints, whatever they are, onto ints that a call owns; condition: at most 10^12 ints.
-/
import Derived.Test.YtneiiinheimglaaDoorZRead
import Derived.Deep.AppendSrc
import Derived.WalkSpells
import Derived.Lib.Slices
namespace Go.Proofs.YtneiiinheimglaaDoor.Z
open Go.RowKit Go.Lib Go.Proofs.YtneiiinheimglaaDoor Go.Proofs.YtneiiinheimglaaDoor.W Go.Proofs.YtneiiinheimglaaDoor.Q Go.Proofs.YtneiiinheimglaaDoor.C

def blk (ad : Option Addr) : Option Nat := ad.map (·.block)
theorem ownBlock_slice (ad : Option Addr) (n c : Nat) : (Value.slice ad n c).ownBlock = blk ad := by cases ad <;> rfl
/-- what an append leaves -/
structure App (w w' : World) (base : Nat) (e : TypeId) (ad ad' : Option Addr) (n' cap' : Nat) (xs : List Value) : Prop where
  own : OwnR w' base e 1 (.slice ad' n' cap') n' xs
  grown : w.grownBy w' (blk ad)
  at' : blk ad' = blk ad ∨ blk ad' = some w.heap.size

section
variable {P : Program} (w : World)
/-- append onto a row of one's own, of whatever is appended -/
theorem run_append_1 (t tx ty : TypeId) (base : Nat) (e : TypeId) (i : TypeInfo) (z : Value) (bytes : Nat) (ht : P.underlying t = some (.slice e)) (hi : P.info? e = some i) (hz : i.zero = some z)
    (hsize : i.size = 1) (hby : i.bytes = bytes) (hzs : z.cells.size = 1)
    (ad : Option Addr) (n cap : Nat) (xs : List Value) (hown : OwnR w base e 1 (.slice ad n cap) n xs) (x : Value) (m : Nat) (news : List Value) (hs : Src P 1 tx x m news w)
    (h63 : n + m ≤ maxLen) (hbytes : (n + m) * bytes ≤ 140737488355328) (hbase : base ≤ w.heap.size) :
    ∃ ad' cap' w', (Builtin.append_ #[t, tx] ty #[.slice ad n cap, x]).run P w = .ok (.slice ad' (n + m) cap') w' ∧ App w w' base e ad ad' (n + m) cap' (xs ++ news) := by
  have hs1 : Src P i.size tx x m news w := by rw [hsize]; exact hs
  have hxl : xs.length = n := by simpa using hown.1
  have hnl : news.length = m := by simpa using hs.newsLen
  have hlen : (xs ++ news).length = (n + m) * 1 := by rw [List.length_append, hxl, hnl, Nat.mul_one]
  have hsmall : n + m ≤ 9223372036854775807 := by simp only [maxLen] at h63; omega
  by_cases hroom : n + m ≤ cap
  · rcases hown.2 with ⟨hv, h0⟩ | ⟨g, cap2, cur, fz, hv, hbg, hg, hfz, hnc, hcm, hcs, htake⟩
    · simp only [Value.slice.injEq] at hv
      obtain ⟨rfl, _, rfl⟩ := hv
      obtain rfl : n = 0 := h0
      obtain rfl : m = 0 := by omega
      have hn0 : news = [] := List.length_eq_zero_iff.1 hnl
      have hx0 : xs = [] := List.length_eq_zero_iff.1 hxl
      subst hn0 hx0
      refine ⟨none, 0, w, ?_, ⟨OwnR.nil _ _ _ _, ⟨rfl, rfl, rfl, Nat.le_refl _, fun _ _ _ => rfl⟩, .inl rfl⟩⟩
      rcases hs.kind with ⟨e', hk⟩ | hk <;> simp [Builtin.append_, run_underlying ht, run_underlying hk, sizeOf, typeInfo, hi, hs.len, hs1.cells]
    · simp only [Value.slice.injEq] at hv
      obtain ⟨rfl, _, rfl⟩ := hv
      rw [Nat.mul_one] at hcs htake
      have hfit : n + 0 + news.length ≤ cur.size := by omega
      have hst : (storeCells ⟨g, n, none⟩ news 0).run P w = .ok () (w.setRow g (cur.toList.take n ++ news ++ cur.toList.drop (n + news.length)).toArray) := by
        rcases hfz with rfl | hfz
        · have := run_storeCells_at P g n e news 0 cur w hg hfit hs.one
          simpa using this
        · have := run_storeCells_B P g n e fz news 0 cur w hg hfz hfit hs.one
          simpa using this
      have hr : (Builtin.append_ #[t, tx] ty #[.slice (some ⟨g, 0, none⟩) n cap, x]).run P w = .ok (.slice (some ⟨g, 0, none⟩) (n + m) cap) (w.setRow g (cur.toList.take n ++ news ++ cur.toList.drop (n + news.length)).toArray) := by
        have hc := hs1.cells
        rcases hs.kind with ⟨e', hk⟩ | hk <;> (rw [hsize] at hc; simp [Builtin.append_, run_underlying ht, run_underlying hk, sizeOf, typeInfo, hi, hsize, hs.len, hroom, hc, Addr.add_lit, hst])
      have hsz2 : (cur.toList.take n ++ news ++ cur.toList.drop (n + news.length)).toArray.size = cur.size := by
        simp only [List.size_toArray, List.length_append, List.length_take, List.length_drop, Array.length_toList]
        omega
      refine ⟨some ⟨g, 0, none⟩, cap, _, hr, ⟨⟨hlen, .inr ⟨g, cap, _, fz, rfl, hbg, setRow_heap w g cur _ e fz hg, ?_, hroom, hcm, by rw [hsz2, Nat.mul_one]; exact hcs, ?_⟩⟩, ⟨rfl, rfl, rfl, by simp, fun k _ hk => setRow_other w g k _ (fun e => hk (by simp [blk, e]))⟩, .inl rfl⟩⟩
      · rcases hfz with h | h
        · exact .inl h
        · exact .inr (by rw [hsz2]; exact h)
      · rw [htake, ← hlen]
        exact List.take_left
  · have hold : (Builtin.firstCells i.size n (.slice ad n cap)).run P w.drew = .ok xs.toArray w.drew := by
      rcases hown.form with ⟨hv, h0⟩ | ⟨g, cap2, hv, _⟩
      · simp only [Value.slice.injEq] at hv
        obtain ⟨rfl, _, rfl⟩ := hv
        subst h0
        have : xs = [] := List.length_eq_zero_iff.1 hxl
        subst this
        exact run_firstCells_none w.drew i.size 0 0 0
      · simp only [Value.slice.injEq] at hv
        obtain ⟨rfl, _, rfl⟩ := hv
        exact run_firstCells_some w.drew i.size n ⟨g, 0, none⟩ n cap xs (by rw [hsize]; exact hown.1) (fun j u hu => hown.cells (g := g) rfl j u hu)
    have hr := run_append_grow_src (P := P) w t tx ty e i z ht hi hz ad n cap xs hold x m news hs1 (by omega) (by omega) (by rw [hby]; exact growslice_fits (by omega) hbytes)
    have hge := grownCap_ge w (n + m) cap e
    have hcm2 : grownCap w (n + m) cap e ≤ maxLen := grownCap_le_maxLen w (n + m) cap e h63
    refine ⟨_, _, _, hr, ⟨⟨hlen, .inr ⟨w.heap.size, _, _, (0, 0), rfl, hbase, heap_alloc_new w.drew _, .inl rfl, hge, hcm2, ?_, ?_⟩⟩, ⟨rfl, rfl, rfl, by simp, fun k hk hne => (World.grownBy_alloc w.drew _ _).block k hk hne⟩, .inr rfl⟩⟩
    · simp only [Array.size_append, List.size_toArray, size_zeroCells, List.length_append, hxl, hnl, hzs]
      omega
    · simp only [Array.toList_append]
      rw [← hlen]
      exact List.take_left
end

theorem src_ints {w : World} {ad : Option Addr} {n c : Nat} {l : List Int} (h : RdI w (.slice ad n c) l) : Src Tryd.prog 1 24 (.slice ad n c) l.length (icells l) w := by
  obtain ⟨a', c', e, hc, hr⟩ := h
  simp only [Value.slice.injEq] at e
  obtain ⟨rfl, rfl, rfl⟩ := e
  rcases hr with h0 | ⟨b, off, rfl, ht, _⟩
  · subst h0
    cases ad with
    | none => exact Src.ofNil _ Tryd.underlying24 _
    | some ad => exact Src.ofSlice _ Tryd.underlying24 _ _ _ _ rfl (fun j u hu => by simp [icells] at hu) (icells_one [])
  · refine Src.ofSlice _ Tryd.underlying24 _ _ _ _ (by rw [icells_length, Nat.mul_one]) (fun j u hu => ?_) (icells_one l)
    have hj : j < l.length := by have := (List.getElem?_eq_some_iff.1 hu).1; rwa [icells_length] at this
    have hadd : (⟨b, off, none⟩ : Addr).add j = ⟨b, off + j, none⟩ := by unfold Addr.add; split <;> simp_all
    rw [hadd, ht j hj]
    simpa [icells, hj] using hu
theorem RdI.len {w : World} {ad : Option Addr} {n c : Nat} {l : List Int} (h : RdI w (.slice ad n c) l) : n = l.length := by
  obtain ⟨a', c', e, hc, hr⟩ := h
  simp only [Value.slice.injEq] at e
  exact e.2.1
theorem OwnI.len {w : World} {base : Nat} {ad : Option Addr} {n c : Nat} {l : List Int} (h : OwnI w base (.slice ad n c) l) : n = l.length := (RdI.own h).len
theorem OwnI.form {w : World} {base : Nat} {v : Value} {l : List Int} (h : OwnI w base v l) : ∃ ad c, v = .slice ad l.length c := by
  obtain ⟨a, c, e, _⟩ := RdI.own h
  exact ⟨a, c, e⟩
/-- append(v, ints): v owned -/
theorem wpList_append_n {w : World} {o : Oper} {a : Act} {ops : Array Oper} {rest : List Oper} {Q : Exit → Act → World → Prop} (hwd : Region.wanted o (yielded ops a.tmps) = true) (sl x : Operand)
    (ho : o.op = .call { callee := .builtin .append, args := #[sl, x], argTypes := #[24, 24] }) (base : Nat) (al : Option Addr) (n cl : Nat) (l : List Int) (hsl : a.eval sl = .slice al n cl) (hown : OwnI w base (.slice al n cl) l)
    (ax : Option Addr) (nx cx : Nat) (l2 : List Int) (hx : a.eval x = .slice ax nx cx) (hr : RdI w (.slice ax nx cx) l2) (hlen : l.length + l2.length ≤ 1000000000000) (hbase : base ≤ w.heap.size)
    (next : ∀ al' n' cl' w', Hid (n' = (l ++ l2).length) → Hid (OwnI w' base (.slice al' n' cl') (l ++ l2)) → (∀ B W, B ≤ base → Below B W w → Below B W w') → wpList Tryd.prog ops Q rest (a.put o.dst (.slice al' n' cl')) w') : wpList Tryd.prog ops Q (o :: rest) a w := by
  obtain rfl := hown.len
  obtain ⟨i0, hi, hz0, hz1, hz2⟩ := info_parts infoInt
  obtain ⟨al', cl', w', hrun, hA⟩ := run_append_1 (P := Tryd.prog) w 24 24 o.type base 3 i0 (.int .i64 0) 8 Tryd.underlying24 hi hz0 hz1 hz2 rfl al l.length cl (icells l) hown (.slice ax nx cx) l2.length (icells l2) (src_ints hr) (by unfold maxLen; omega) (by omega) hbase
  rw [← icells_app] at hA
  refine wpList_step fun K hK => ?_
  rw [if_pos hwd]
  unfold Oper.wp execOp
  simp only [ho, resolve, invoke, builtin, Sem.run_bind, Sem.run_pure, Result.andThen_ok, List.map_toArray, List.map_cons, List.map_nil, hsl, hx, hrun]
  refine hK _ _ (next al' (l.length + l2.length) cl' w' (by rw [Hid, List.length_append]) ?_ fun B W hB hBW => hBW.grown hA.grown (by omega) (fun g hg => ?_))
  · rw [Hid]; unfold OwnI; rw [List.length_append]; exact hA.own
  · have := (hown.lt g (by rw [ownBlock_slice]; exact hg)).1
    omega

/-- append(v, ints) where a region draws: v owned -/
theorem step_append_ints {w : World} {o : Oper} {a : Act} {ops : Array Oper} {Q : Exit → Act → World → Prop} {K : Act → World → Prop} {X : Prop} (hgd : o.guard = none) (sl x : Operand)
    (ho : o.op = .call { callee := .builtin .append, args := #[sl, x], argTypes := #[24, 24] }) (base : Nat) (al : Option Addr) (n cl : Nat) (l : List Int) (hsl : a.eval sl = .slice al n cl) (hown : OwnI w base (.slice al n cl) l)
    (ax : Option Addr) (nx cx : Nat) (l2 : List Int) (hx : a.eval x = .slice ax nx cx) (hr : RdI w (.slice ax nx cx) l2) (hlen : l.length + l2.length ≤ 1000000000000) (hbase : base ≤ w.heap.size)
    (next : ∀ al' n' cl' w', Hid (n' = (l ++ l2).length) → RdI w' (.slice al' n' cl') (l ++ l2) → (∀ B W, B ≤ base → Below B W w → Below B W w') → (∀ (k : Nat) (cs : Array Value) (t : TypeId) (fz : Nat × Nat), t ≠ 3 → w.heap[k]? = some (.cells cs t fz) → w'.heap[k]? = some (.cells cs t fz)) → K (a.put o.dst (.slice al' n' cl')) w') : if Region.wanted o (yielded ops a.tmps) = true then Oper.wp Tryd.prog o a w K Q else X := by
  have hw : Region.wanted o (yielded ops a.tmps) = true := by simp [Region.wanted, hgd]
  rw [if_pos hw]
  obtain rfl := hown.len
  obtain ⟨i0, hi, hz0, hz1, hz2⟩ := info_parts infoInt
  obtain ⟨al', cl', w', hrun, hA⟩ := run_append_1 (P := Tryd.prog) w 24 24 o.type base 3 i0 (.int .i64 0) 8 Tryd.underlying24 hi hz0 hz1 hz2 rfl al l.length cl (icells l) hown (.slice ax nx cx) l2.length (icells l2) (src_ints hr) (by unfold maxLen; omega) (by omega) hbase
  rw [← icells_app] at hA
  unfold Oper.wp execOp
  simp only [ho, resolve, invoke, builtin, Sem.run_bind, Sem.run_pure, Result.andThen_ok, List.map_toArray, List.map_cons, List.map_nil, hsl, hx, hrun]
  refine next al' (l.length + l2.length) cl' w' (by rw [Hid, List.length_append]) ?_ (fun B W hB hBW => hBW.grown hA.grown (by omega) (fun g hg => ?_)) (fun k cs t fz ht hk => ?_)
  · have h2 : OwnI w' base (.slice al' (l.length + l2.length) cl') (l ++ l2) := by unfold OwnI; rw [List.length_append]; exact hA.own
    exact RdI.own h2
  · have := (hown.lt g (by rw [Z.ownBlock_slice]; exact hg)).1
    omega
  · rw [hA.grown.block k (Array.getElem?_eq_some_iff.1 hk).1 (fun e => by
      obtain ⟨cur, fz', hc⟩ := OwnR.typed hown k (by rw [Z.ownBlock_slice]; exact e.symm)
      rw [hk] at hc
      simp only [Option.some.injEq, Obj.cells.injEq] at hc
      exact ht hc.2.1)]
    exact hk
/-- append(v, ints) where a region draws: v owned -/
theorem step_append_own {w : World} {o : Oper} {a : Act} {ops : Array Oper} {Q : Exit → Act → World → Prop} {K : Act → World → Prop} {X : Prop} (hgd : o.guard = none) (sl x : Operand)
    (ho : o.op = .call { callee := .builtin .append, args := #[sl, x], argTypes := #[24, 24] }) (base : Nat) (al : Option Addr) (n cl : Nat) (l : List Int) (hsl : a.eval sl = .slice al n cl) (hown : OwnI w base (.slice al n cl) l)
    (ax : Option Addr) (nx cx : Nat) (l2 : List Int) (hx : a.eval x = .slice ax nx cx) (hr : RdI w (.slice ax nx cx) l2) (hlen : l.length + l2.length ≤ 1000000000000) (hbase : base ≤ w.heap.size)
    (next : ∀ al' n' cl' w', Hid (n' = (l ++ l2).length) → OwnI w' base (.slice al' n' cl') (l ++ l2) → (∀ B W, B ≤ base → Below B W w → Below B W w') → (∀ (k : Nat) (cs : Array Value) (t : TypeId) (fz : Nat × Nat), t ≠ 3 → w.heap[k]? = some (.cells cs t fz) → w'.heap[k]? = some (.cells cs t fz)) → K (a.put o.dst (.slice al' n' cl')) w') : if Region.wanted o (yielded ops a.tmps) = true then Oper.wp Tryd.prog o a w K Q else X := by
  have hw : Region.wanted o (yielded ops a.tmps) = true := by simp [Region.wanted, hgd]
  rw [if_pos hw]
  obtain rfl := hown.len
  obtain ⟨i0, hi, hz0, hz1, hz2⟩ := info_parts infoInt
  obtain ⟨al', cl', w', hrun, hA⟩ := run_append_1 (P := Tryd.prog) w 24 24 o.type base 3 i0 (.int .i64 0) 8 Tryd.underlying24 hi hz0 hz1 hz2 rfl al l.length cl (icells l) hown (.slice ax nx cx) l2.length (icells l2) (src_ints hr) (by unfold maxLen; omega) (by omega) hbase
  rw [← icells_app] at hA
  unfold Oper.wp execOp
  simp only [ho, resolve, invoke, builtin, Sem.run_bind, Sem.run_pure, Result.andThen_ok, List.map_toArray, List.map_cons, List.map_nil, hsl, hx, hrun]
  refine next al' (l.length + l2.length) cl' w' (by rw [Hid, List.length_append]) ?_ (fun B W hB hBW => hBW.grown hA.grown (by omega) (fun g hg => ?_)) (fun k cs t fz ht hk => ?_)
  · have h2 : OwnI w' base (.slice al' (l.length + l2.length) cl') (l ++ l2) := by unfold OwnI; rw [List.length_append]; exact hA.own
    exact h2
  · have := (hown.lt g (by rw [Z.ownBlock_slice]; exact hg)).1
    omega
  · rw [hA.grown.block k (Array.getElem?_eq_some_iff.1 hk).1 (fun e => by
      obtain ⟨cur, fz', hc⟩ := OwnR.typed hown k (by rw [Z.ownBlock_slice]; exact e.symm)
      rw [hk] at hc
      simp only [Option.some.injEq, Obj.cells.injEq] at hc
      exact ht hc.2.1)]
    exact hk
end Go.Proofs.YtneiiinheimglaaDoor.Z
