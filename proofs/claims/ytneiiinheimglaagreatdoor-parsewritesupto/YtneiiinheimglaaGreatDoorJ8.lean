/-
  Append of ints, whatever they are, onto ints that a call owns; condition: at most 10^12 ints.
  Append of acts onto acts that a call owns; condition: at most 2^40 acts.
  The walk of farkeep.ParseBack: it returns true; conditions: the tables of unicode/utf8 and internal/strconv.uint64pow10 hold what their initialisers lay; at most 2^20 acts, of texts and numbers of at most 2^20 each.
-/
import Derived.Test.YtneiiinheimglaaGreatDoorJ12
import Derived.Deep.AppendSrc
import Derived.WalkSpells
import Derived.Lib.Slices
import Derived.Test.YtneiiinheimglaaGreatDoorJ13
import Derived.Test.YtneiiinheimglaaGreatDoorBPW
import Derived.Test.YtneiiinheimglaaGreatDoorJ1
namespace Go.Proofs.YtneiiinheimglaaGreatDoor.Z
open Go.RowKit Go.Lib Go.Proofs.YtneiiinheimglaaGreatDoor Go.Proofs.YtneiiinheimglaaGreatDoor.W Go.Proofs.YtneiiinheimglaaGreatDoor.Q Go.Proofs.YtneiiinheimglaaGreatDoor.C

def blk (ad : Option Addr) : Option Nat := ad.map (·.block)
theorem ownBlock_slice (ad : Option Addr) (n c : Nat) : (Value.slice ad n c).ownBlock = blk ad := by cases ad <;> rfl
/-- what an append leaves -/
structure App (w w' : World) (base : Nat) (e : TypeId) (ad ad' : Option Addr) (n' cap' : Nat) (xs : List Value) : Prop where
  own : OwnR w' base e 1 (.slice ad' n' cap') n' xs
  grown : w.grownBy w' (blk ad)
  at' : blk ad' = blk ad ∨ blk ad' = some w.heap.size

section
variable {P : Program} (w : World)
/-- append onto a row of one's own, of whatever is appended -/
theorem run_append_1 (t tx ty : TypeId) (base : Nat) (e : TypeId) (i : TypeInfo) (z : Value) (bytes : Nat) (ht : P.underlying t = some (.slice e)) (hi : P.info? e = some i) (hz : i.zero = some z)
    (hsize : i.size = 1) (hby : i.bytes = bytes) (hzs : z.cells.size = 1)
    (ad : Option Addr) (n cap : Nat) (xs : List Value) (hown : OwnR w base e 1 (.slice ad n cap) n xs) (x : Value) (m : Nat) (news : List Value) (hs : Src P 1 tx x m news w)
    (h63 : n + m ≤ maxLen) (hbytes : (n + m) * bytes ≤ 140737488355328) (hbase : base ≤ w.heap.size) :
    ∃ ad' cap' w', (Builtin.append_ #[t, tx] ty #[.slice ad n cap, x]).run P w = .ok (.slice ad' (n + m) cap') w' ∧ App w w' base e ad ad' (n + m) cap' (xs ++ news) := by
  have hs1 : Src P i.size tx x m news w := by rw [hsize]; exact hs
  have hxl : xs.length = n := by simpa using hown.1
  have hnl : news.length = m := by simpa using hs.newsLen
  have hlen : (xs ++ news).length = (n + m) * 1 := by rw [List.length_append, hxl, hnl, Nat.mul_one]
  have hsmall : n + m ≤ 9223372036854775807 := by simp only [maxLen] at h63; omega
  by_cases hroom : n + m ≤ cap
  · rcases hown.2 with ⟨hv, h0⟩ | ⟨g, cap2, cur, fz, hv, hbg, hg, hfz, hnc, hcm, hcs, htake⟩
    · simp only [Value.slice.injEq] at hv
      obtain ⟨rfl, _, rfl⟩ := hv
      obtain rfl : n = 0 := h0
      obtain rfl : m = 0 := by omega
      have hn0 : news = [] := List.length_eq_zero_iff.1 hnl
      have hx0 : xs = [] := List.length_eq_zero_iff.1 hxl
      subst hn0 hx0
      refine ⟨none, 0, w, ?_, ⟨OwnR.nil _ _ _ _, ⟨rfl, rfl, rfl, Nat.le_refl _, fun _ _ _ => rfl⟩, .inl rfl⟩⟩
      rcases hs.kind with ⟨e', hk⟩ | hk <;> simp [Builtin.append_, run_underlying ht, run_underlying hk, sizeOf, typeInfo, hi, hs.len, hs1.cells]
    · simp only [Value.slice.injEq] at hv
      obtain ⟨rfl, _, rfl⟩ := hv
      rw [Nat.mul_one] at hcs htake
      have hfit : n + 0 + news.length ≤ cur.size := by omega
      have hst : (storeCells ⟨g, n, none⟩ news 0).run P w = .ok () (w.setRow g (cur.toList.take n ++ news ++ cur.toList.drop (n + news.length)).toArray) := by
        rcases hfz with rfl | hfz
        · have := run_storeCells_at P g n e news 0 cur w hg hfit hs.one
          simpa using this
        · have := run_storeCells_B P g n e fz news 0 cur w hg hfz hfit hs.one
          simpa using this
      have hr : (Builtin.append_ #[t, tx] ty #[.slice (some ⟨g, 0, none⟩) n cap, x]).run P w = .ok (.slice (some ⟨g, 0, none⟩) (n + m) cap) (w.setRow g (cur.toList.take n ++ news ++ cur.toList.drop (n + news.length)).toArray) := by
        have hc := hs1.cells
        rcases hs.kind with ⟨e', hk⟩ | hk <;> (rw [hsize] at hc; simp [Builtin.append_, run_underlying ht, run_underlying hk, sizeOf, typeInfo, hi, hsize, hs.len, hroom, hc, Addr.add_lit, hst])
      have hsz2 : (cur.toList.take n ++ news ++ cur.toList.drop (n + news.length)).toArray.size = cur.size := by
        simp only [List.size_toArray, List.length_append, List.length_take, List.length_drop, Array.length_toList]
        omega
      refine ⟨some ⟨g, 0, none⟩, cap, _, hr, ⟨⟨hlen, .inr ⟨g, cap, _, fz, rfl, hbg, setRow_heap w g cur _ e fz hg, ?_, hroom, hcm, by rw [hsz2, Nat.mul_one]; exact hcs, ?_⟩⟩, ⟨rfl, rfl, rfl, by simp, fun k _ hk => setRow_other w g k _ (fun e => hk (by simp [blk, e]))⟩, .inl rfl⟩⟩
      · rcases hfz with h | h
        · exact .inl h
        · exact .inr (by rw [hsz2]; exact h)
      · rw [htake, ← hlen]
        exact List.take_left
  · have hold : (Builtin.firstCells i.size n (.slice ad n cap)).run P w.drew = .ok xs.toArray w.drew := by
      rcases hown.form with ⟨hv, h0⟩ | ⟨g, cap2, hv, _⟩
      · simp only [Value.slice.injEq] at hv
        obtain ⟨rfl, _, rfl⟩ := hv
        subst h0
        have : xs = [] := List.length_eq_zero_iff.1 hxl
        subst this
        exact run_firstCells_none w.drew i.size 0 0 0
      · simp only [Value.slice.injEq] at hv
        obtain ⟨rfl, _, rfl⟩ := hv
        exact run_firstCells_some w.drew i.size n ⟨g, 0, none⟩ n cap xs (by rw [hsize]; exact hown.1) (fun j u hu => hown.cells (g := g) rfl j u hu)
    have hr := run_append_grow_src (P := P) w t tx ty e i z ht hi hz ad n cap xs hold x m news hs1 (by omega) (by omega) (by rw [hby]; exact growslice_fits (by omega) hbytes)
    have hge := grownCap_ge w (n + m) cap e
    have hcm2 : grownCap w (n + m) cap e ≤ maxLen := grownCap_le_maxLen w (n + m) cap e h63
    refine ⟨_, _, _, hr, ⟨⟨hlen, .inr ⟨w.heap.size, _, _, (0, 0), rfl, hbase, heap_alloc_new w.drew _, .inl rfl, hge, hcm2, ?_, ?_⟩⟩, ⟨rfl, rfl, rfl, by simp, fun k hk hne => (World.grownBy_alloc w.drew _ _).block k hk hne⟩, .inr rfl⟩⟩
    · simp only [Array.size_append, List.size_toArray, size_zeroCells, List.length_append, hxl, hnl, hzs]
      omega
    · simp only [Array.toList_append]
      rw [← hlen]
      exact List.take_left
end

theorem src_ints {w : World} {ad : Option Addr} {n c : Nat} {l : List Int} (h : RdI w (.slice ad n c) l) : Src Tryz.prog 1 22 (.slice ad n c) l.length (icells l) w := by
  obtain ⟨a', c', e, hc, hr⟩ := h
  simp only [Value.slice.injEq] at e
  obtain ⟨rfl, rfl, rfl⟩ := e
  rcases hr with h0 | ⟨b, off, rfl, ht, _⟩
  · subst h0
    cases ad with
    | none => exact Src.ofNil _ Tryz.underlying22 _
    | some ad => exact Src.ofSlice _ Tryz.underlying22 _ _ _ _ rfl (fun j u hu => by simp [icells] at hu) (icells_one [])
  · refine Src.ofSlice _ Tryz.underlying22 _ _ _ _ (by rw [icells_length, Nat.mul_one]) (fun j u hu => ?_) (icells_one l)
    have hj : j < l.length := by have := (List.getElem?_eq_some_iff.1 hu).1; rwa [icells_length] at this
    have hadd : (⟨b, off, none⟩ : Addr).add j = ⟨b, off + j, none⟩ := by unfold Addr.add; split <;> simp_all
    rw [hadd, ht j hj]
    simpa [icells, hj] using hu
theorem RdI.len {w : World} {ad : Option Addr} {n c : Nat} {l : List Int} (h : RdI w (.slice ad n c) l) : n = l.length := by
  obtain ⟨a', c', e, hc, hr⟩ := h
  simp only [Value.slice.injEq] at e
  exact e.2.1
theorem OwnI.len {w : World} {base : Nat} {ad : Option Addr} {n c : Nat} {l : List Int} (h : OwnI w base (.slice ad n c) l) : n = l.length := (RdI.own h).len
theorem OwnI.form {w : World} {base : Nat} {v : Value} {l : List Int} (h : OwnI w base v l) : ∃ ad c, v = .slice ad l.length c := by
  obtain ⟨a, c, e, _⟩ := RdI.own h
  exact ⟨a, c, e⟩
/-- append(v, ints): v owned -/
theorem wpList_append_n {w : World} {o : Oper} {a : Act} {ops : Array Oper} {rest : List Oper} {Q : Exit → Act → World → Prop} (hwd : Region.wanted o (yielded ops a.tmps) = true) (sl x : Operand)
    (ho : o.op = .call { callee := .builtin .append, args := #[sl, x], argTypes := #[22, 22] }) (base : Nat) (al : Option Addr) (n cl : Nat) (l : List Int) (hsl : a.eval sl = .slice al n cl) (hown : OwnI w base (.slice al n cl) l)
    (ax : Option Addr) (nx cx : Nat) (l2 : List Int) (hx : a.eval x = .slice ax nx cx) (hr : RdI w (.slice ax nx cx) l2) (hlen : l.length + l2.length ≤ 1000000000000) (hbase : base ≤ w.heap.size)
    (next : ∀ al' n' cl' w', Hid (n' = (l ++ l2).length) → Hid (OwnI w' base (.slice al' n' cl') (l ++ l2)) → (∀ B W, B ≤ base → Below B W w → Below B W w') → wpList Tryz.prog ops Q rest (a.put o.dst (.slice al' n' cl')) w') : wpList Tryz.prog ops Q (o :: rest) a w := by
  obtain rfl := hown.len
  obtain ⟨i0, hi, hz0, hz1, hz2⟩ := info_parts infoInt
  obtain ⟨al', cl', w', hrun, hA⟩ := run_append_1 (P := Tryz.prog) w 22 22 o.type base 3 i0 (.int .i64 0) 8 Tryz.underlying22 hi hz0 hz1 hz2 rfl al l.length cl (icells l) hown (.slice ax nx cx) l2.length (icells l2) (src_ints hr) (by unfold maxLen; omega) (by omega) hbase
  rw [← icells_app] at hA
  refine wpList_step fun K hK => ?_
  rw [if_pos hwd]
  unfold Oper.wp execOp
  simp only [ho, resolve, invoke, builtin, Sem.run_bind, Sem.run_pure, Result.andThen_ok, List.map_toArray, List.map_cons, List.map_nil, hsl, hx, hrun]
  refine hK _ _ (next al' (l.length + l2.length) cl' w' (by rw [Hid, List.length_append]) ?_ fun B W hB hBW => hBW.grown hA.grown (by omega) (fun g hg => ?_))
  · rw [Hid]; unfold OwnI; rw [List.length_append]; exact hA.own
  · have := (hown.lt g (by rw [ownBlock_slice]; exact hg)).1
    omega

/-- append(v, ints) where a region draws: v owned -/
theorem step_append_ints {w : World} {o : Oper} {a : Act} {ops : Array Oper} {Q : Exit → Act → World → Prop} {K : Act → World → Prop} {X : Prop} (hgd : o.guard = none) (sl x : Operand)
    (ho : o.op = .call { callee := .builtin .append, args := #[sl, x], argTypes := #[22, 22] }) (base : Nat) (al : Option Addr) (n cl : Nat) (l : List Int) (hsl : a.eval sl = .slice al n cl) (hown : OwnI w base (.slice al n cl) l)
    (ax : Option Addr) (nx cx : Nat) (l2 : List Int) (hx : a.eval x = .slice ax nx cx) (hr : RdI w (.slice ax nx cx) l2) (hlen : l.length + l2.length ≤ 1000000000000) (hbase : base ≤ w.heap.size)
    (next : ∀ al' n' cl' w', Hid (n' = (l ++ l2).length) → RdI w' (.slice al' n' cl') (l ++ l2) → (∀ B W, B ≤ base → Below B W w → Below B W w') → (∀ (k : Nat) (cs : Array Value) (t : TypeId) (fz : Nat × Nat), t ≠ 3 → w.heap[k]? = some (.cells cs t fz) → w'.heap[k]? = some (.cells cs t fz)) → K (a.put o.dst (.slice al' n' cl')) w') : if Region.wanted o (yielded ops a.tmps) = true then Oper.wp Tryz.prog o a w K Q else X := by
  have hw : Region.wanted o (yielded ops a.tmps) = true := by simp [Region.wanted, hgd]
  rw [if_pos hw]
  obtain rfl := hown.len
  obtain ⟨i0, hi, hz0, hz1, hz2⟩ := info_parts infoInt
  obtain ⟨al', cl', w', hrun, hA⟩ := run_append_1 (P := Tryz.prog) w 22 22 o.type base 3 i0 (.int .i64 0) 8 Tryz.underlying22 hi hz0 hz1 hz2 rfl al l.length cl (icells l) hown (.slice ax nx cx) l2.length (icells l2) (src_ints hr) (by unfold maxLen; omega) (by omega) hbase
  rw [← icells_app] at hA
  unfold Oper.wp execOp
  simp only [ho, resolve, invoke, builtin, Sem.run_bind, Sem.run_pure, Result.andThen_ok, List.map_toArray, List.map_cons, List.map_nil, hsl, hx, hrun]
  refine next al' (l.length + l2.length) cl' w' (by rw [Hid, List.length_append]) ?_ (fun B W hB hBW => hBW.grown hA.grown (by omega) (fun g hg => ?_)) (fun k cs t fz ht hk => ?_)
  · have h2 : OwnI w' base (.slice al' (l.length + l2.length) cl') (l ++ l2) := by unfold OwnI; rw [List.length_append]; exact hA.own
    exact RdI.own h2
  · have := (hown.lt g (by rw [Z.ownBlock_slice]; exact hg)).1
    omega
  · rw [hA.grown.block k (Array.getElem?_eq_some_iff.1 hk).1 (fun e => by
      obtain ⟨cur, fz', hc⟩ := OwnR.typed hown k (by rw [Z.ownBlock_slice]; exact e.symm)
      rw [hk] at hc
      simp only [Option.some.injEq, Obj.cells.injEq] at hc
      exact ht hc.2.1)]
    exact hk
/-- append(v, ints) where a region draws: v owned -/
theorem step_append_own {w : World} {o : Oper} {a : Act} {ops : Array Oper} {Q : Exit → Act → World → Prop} {K : Act → World → Prop} {X : Prop} (hgd : o.guard = none) (sl x : Operand)
    (ho : o.op = .call { callee := .builtin .append, args := #[sl, x], argTypes := #[22, 22] }) (base : Nat) (al : Option Addr) (n cl : Nat) (l : List Int) (hsl : a.eval sl = .slice al n cl) (hown : OwnI w base (.slice al n cl) l)
    (ax : Option Addr) (nx cx : Nat) (l2 : List Int) (hx : a.eval x = .slice ax nx cx) (hr : RdI w (.slice ax nx cx) l2) (hlen : l.length + l2.length ≤ 1000000000000) (hbase : base ≤ w.heap.size)
    (next : ∀ al' n' cl' w', Hid (n' = (l ++ l2).length) → OwnI w' base (.slice al' n' cl') (l ++ l2) → (∀ B W, B ≤ base → Below B W w → Below B W w') → (∀ (k : Nat) (cs : Array Value) (t : TypeId) (fz : Nat × Nat), t ≠ 3 → w.heap[k]? = some (.cells cs t fz) → w'.heap[k]? = some (.cells cs t fz)) → K (a.put o.dst (.slice al' n' cl')) w') : if Region.wanted o (yielded ops a.tmps) = true then Oper.wp Tryz.prog o a w K Q else X := by
  have hw : Region.wanted o (yielded ops a.tmps) = true := by simp [Region.wanted, hgd]
  rw [if_pos hw]
  obtain rfl := hown.len
  obtain ⟨i0, hi, hz0, hz1, hz2⟩ := info_parts infoInt
  obtain ⟨al', cl', w', hrun, hA⟩ := run_append_1 (P := Tryz.prog) w 22 22 o.type base 3 i0 (.int .i64 0) 8 Tryz.underlying22 hi hz0 hz1 hz2 rfl al l.length cl (icells l) hown (.slice ax nx cx) l2.length (icells l2) (src_ints hr) (by unfold maxLen; omega) (by omega) hbase
  rw [← icells_app] at hA
  unfold Oper.wp execOp
  simp only [ho, resolve, invoke, builtin, Sem.run_bind, Sem.run_pure, Result.andThen_ok, List.map_toArray, List.map_cons, List.map_nil, hsl, hx, hrun]
  refine next al' (l.length + l2.length) cl' w' (by rw [Hid, List.length_append]) ?_ (fun B W hB hBW => hBW.grown hA.grown (by omega) (fun g hg => ?_)) (fun k cs t fz ht hk => ?_)
  · have h2 : OwnI w' base (.slice al' (l.length + l2.length) cl') (l ++ l2) := by unfold OwnI; rw [List.length_append]; exact hA.own
    exact h2
  · have := (hown.lt g (by rw [Z.ownBlock_slice]; exact hg)).1
    omega
  · rw [hA.grown.block k (Array.getElem?_eq_some_iff.1 hk).1 (fun e => by
      obtain ⟨cur, fz', hc⟩ := OwnR.typed hown k (by rw [Z.ownBlock_slice]; exact e.symm)
      rw [hk] at hc
      simp only [Option.some.injEq, Obj.cells.injEq] at hc
      exact ht hc.2.1)]
    exact hk
end Go.Proofs.YtneiiinheimglaaGreatDoor.Z
namespace Go.Proofs.YtneiiinheimglaaGreatDoor.B
open Go.RowKit Go.Lib Go.Proofs.YtneiiinheimglaaGreatDoor Go.Proofs.YtneiiinheimglaaGreatDoor.W Go.Proofs.YtneiiinheimglaaGreatDoor.Q Go.Proofs.YtneiiinheimglaaGreatDoor.C Go.Proofs.YtneiiinheimglaaGreatDoor.Z

theorem run_append_zero {P : Program} (w : World) (t ty e : TypeId) (i : TypeInfo) (ht : P.underlying t = some (.slice e)) (hi : P.info? e = some i) (v : Value) (n : Nat)
    (hv : (v = .slice none 0 0 ∧ n = 0) ∨ ∃ g cap, v = .slice (some ⟨g, 0, none⟩) n cap ∧ n ≤ cap) (a : Option Addr) (c : Nat) :
    (Builtin.append_ #[t, t] ty #[v, .slice a 0 c]).run P w = .ok v w := by
  rcases hv with ⟨rfl, rfl⟩ | ⟨g, cap, rfl, h⟩
  · cases a with
    | none => simp [Builtin.append_, run_underlying ht, sizeOf, typeInfo, hi, Builtin.lenOf, Builtin.firstCells]
    | some a => simp [Builtin.append_, run_underlying ht, sizeOf, typeInfo, hi, Builtin.lenOf, Builtin.firstCells, loadCells, loadCellsFrom]
  · cases a with
    | none => simp [Builtin.append_, run_underlying ht, sizeOf, typeInfo, hi, Builtin.lenOf, Builtin.firstCells, h, storeCells]
    | some a => simp [Builtin.append_, run_underlying ht, sizeOf, typeInfo, hi, Builtin.lenOf, Builtin.firstCells, loadCells, loadCellsFrom, h, storeCells]

/-- all but the blocks of acts stay as they are -/
def KeepA (w w' : World) : Prop := ∀ (k : Nat) (cs : Array Value) (t : TypeId) (fz : Nat × Nat), t ≠ 24 → w.heap[k]? = some (.cells cs t fz) → w'.heap[k]? = some (.cells cs t fz)
theorem KeepA.ints {w w' : World} (h : KeepA w w') : KeepI w w' := fun k cs fz hk => h k cs _ fz (Ne.symm ai) hk
/-- append(x, y...): x owned, y only read -/
theorem run_append_acts (w : World) (ty : TypeId) (base : Nat) (ad : Option Addr) (cap : Nat) (xs : List (Ac × Value)) (L : List Ac) (hown : OwnA w base ad cap xs) (v2 : Value) (hm : RdAT w v2 L) (hb : base ≤ w.heap.size) (hn : xs.length + L.length ≤ 1099511627776) :
    ∃ ad' cap' ys w', (Builtin.append_ #[40, 40] ty #[.slice ad xs.length cap, v2]).run Tryz.prog w = .ok (.slice ad' (xs ++ ys).length cap') w' ∧ ys.map Prod.fst = L ∧ OwnA w' base ad' cap' (xs ++ ys) ∧ (∀ x ∈ ys, RdT w' x.2 x.1.args) ∧ KeepA w w' ∧ (∀ B X, B ≤ base → Below B X w → Below B X w') := by
  obtain ⟨i0, hi, hz0, hz1, hz2⟩ := info_parts infoAct
  obtain ⟨a, cap2, ys, rfl, hc, ey, hr, hx⟩ := hm
  have ly : ys.length = L.length := by rw [← ey]; simp
  unfold OwnA at hown
  by_cases h0 : L = []
  · subst h0
    have hy0 : ys = [] := List.length_eq_zero_iff.1 ly
    subst hy0
    have hz := run_append_zero (P := Tryz.prog) w 40 ty 24 i0 Tryz.underlying40 hi _ xs.length (by
      rcases hown.form with h | ⟨g, c, e, _, _, h⟩
      · exact .inl h
      · exact .inr ⟨g, c, e, h⟩) a cap2
    exact ⟨ad, cap, [], w, by simpa using hz, rfl, by simpa [OwnA] using hown, (fun x hx => by cases hx), (fun _ _ _ _ _ h => h), fun _ _ _ h => h⟩
  · rcases hx with h | ⟨g2, cur2, fz2, rfl, hg2, hT⟩
    · exact absurd h h0
    have hadd : ∀ j, (⟨g2, 0, none⟩ : Addr).add j = ⟨g2, j, none⟩ := fun j => by unfold Addr.add; split <;> simp_all
    obtain ⟨g, c2, w', a1, a2, a3, _, _⟩ := run_append_R (P := Tryz.prog) w 40 ty base 24 i0 (.agg #[.int .i64 0, .int .i64 0, .int .i64 0, .string ⟨#[]⟩, .slice none 0 0, .string ⟨#[]⟩]) 6 80 Tryz.underlying40 hi hz0 hz1 hz2 rfl (by decide) _ xs.length (asC xs) hown ⟨g2, 0, none⟩ L.length cap2 (asC ys) (by rw [asC_length, ly]) (fun j u hu => by
      rw [hadd, cell_of_row w g2 j cur2 _ fz2 hg2]
      exact hT j u hu) (asC_one ys (fun x hx => (hr x hx).one)) (by have : L.length ≠ 0 := fun e => h0 (List.length_eq_zero_iff.1 e); omega) (by unfold maxLen; omega) (by omega) hb _ rfl
    have hk : KeepA w w' := fun k cs t fz ht hk => by
      rw [a3.block k (Array.getElem?_eq_some_iff.1 hk).1 (fun e => by
        obtain ⟨cur, fz', hc⟩ := hown.typed k e.symm
        rw [hk] at hc
        simp only [Option.some.injEq, Obj.cells.injEq] at hc
        exact ht hc.2.1)]
      exact hk
    refine ⟨_, c2, ys, w', by rw [List.length_append, ly]; exact a1, ey, ?_, fun x hx => (hr x hx).keep hk.ints, hk, fun B X hB hBW => hBW.grown a3 (by omega) (fun k hk => by have := (hown.lt k hk).1; omega)⟩
    unfold OwnA
    rw [List.length_append, asC_app, ly]
    exact a2
theorem wpList_append_acts (w : World) {ops : Array Oper} {rest : List Oper} {o : Oper} {a : Act} {Q : Exit → Act → World → Prop} (hwd : Region.wanted o (yielded ops a.tmps) = true) (s x : Operand)
    (ho : o.op = .call { callee := .builtin .append, args := #[s, x], argTypes := #[40, 40] })
    (base : Nat) (ad : Option Addr) (cap : Nat) (xs : List (Ac × Value)) (L : List Ac) (n : Nat) (hs : a.eval s = .slice ad n cap) (hnl : n = xs.length) (hown : OwnA w base ad cap xs) (v2 : Value) (hx : a.eval x = v2) (hm : RdAT w v2 L) (hb : base ≤ w.heap.size) (hn : xs.length + L.length ≤ 1099511627776)
    (h : ∀ ad' cap' ys n' w', Hid (n' = (xs ++ ys).length) → ys.map Prod.fst = L → OwnA w' base ad' cap' (xs ++ ys) → (∀ x ∈ ys, RdT w' x.2 x.1.args) → KeepA w w' → (∀ B X, B ≤ base → Below B X w → Below B X w') → wpList Tryz.prog ops Q rest (a.put o.dst (.slice ad' n' cap')) w') : wpList Tryz.prog ops Q (o :: rest) a w := by
  refine wpList_step fun K hK => ?_
  rw [if_pos hwd]
  subst hnl
  obtain ⟨ad', cap', ys, w', hr, h1, h2, h3, h4, h5⟩ := run_append_acts w o.type base ad cap xs L hown v2 hm hb hn
  unfold Oper.wp execOp
  simp only [ho, resolve, invoke, builtin, Sem.run_bind, Sem.run_pure, Result.andThen_ok, List.map_toArray, List.map_cons, List.map_nil, hs, hx, hr]
  exact hK _ _ (h ad' cap' ys _ w' (Hid.mk' rfl) h1 h2 h3 h4 h5)

theorem step_append_acts {w : World} {o : Oper} {a : Act} {ops : Array Oper} {Q : Exit → Act → World → Prop} {K : Act → World → Prop} {X : Prop} (hgd : o.guard = none) (s x : Operand)
    (ho : o.op = .call { callee := .builtin .append, args := #[s, x], argTypes := #[40, 40] })
    (base : Nat) (ad : Option Addr) (cap : Nat) (xs : List (Ac × Value)) (L : List Ac) (n : Nat) (hs : a.eval s = .slice ad n cap) (hnl : n = xs.length) (hown : OwnA w base ad cap xs) (v2 : Value) (hx : a.eval x = v2) (hm : RdAT w v2 L) (hb : base ≤ w.heap.size) (hn : xs.length + L.length ≤ 1099511627776)
    (next : ∀ ad' cap' ys n' w', Hid (n' = (xs ++ ys).length) → ys.map Prod.fst = L → OwnA w' base ad' cap' (xs ++ ys) → (∀ x ∈ ys, RdT w' x.2 x.1.args) → KeepA w w' → (∀ B X, B ≤ base → Below B X w → Below B X w') → K (a.put o.dst (.slice ad' n' cap')) w') : if Region.wanted o (yielded ops a.tmps) = true then Oper.wp Tryz.prog o a w K Q else X := by
  have hw : Region.wanted o (yielded ops a.tmps) = true := by simp [Region.wanted, hgd]
  rw [if_pos hw]
  subst hnl
  obtain ⟨ad', cap', ys, w', hr, h1, h2, h3, h4, h5⟩ := run_append_acts w o.type base ad cap xs L hown v2 hm hb hn
  unfold Oper.wp execOp
  simp only [ho, resolve, invoke, builtin, Sem.run_bind, Sem.run_pure, Result.andThen_ok, List.map_toArray, List.map_cons, List.map_nil, hs, hx, hr]
  exact next ad' cap' ys _ w' (Hid.mk' rfl) h1 h2 h3 h4 h5
theorem RdAT.ownA {w : World} {base : Nat} {ad : Option Addr} {cap : Nat} {xs : List (Ac × Value)} (h : OwnA w base ad cap xs) (hr : ∀ x ∈ xs, RdT w x.2 x.1.args) : RdAT w (.slice ad xs.length cap) (xs.map Prod.fst) := by
  unfold OwnA OwnR at h
  rcases h.2 with ⟨e, h0⟩ | ⟨g, cap', cur, fz, e, _, hg, _, hc, _, _, ht⟩
  · have : xs = [] := List.length_eq_zero_iff.1 h0
    subst this
    simp only [Value.slice.injEq] at e
    obtain ⟨rfl, _, rfl⟩ := e
    exact RdAT.nil w
  · simp only [Value.slice.injEq] at e
    obtain ⟨rfl, _, rfl⟩ := e
    refine ⟨_, cap, xs, by simp, by simpa using hc, rfl, hr, .inr ⟨g, cur, fz, rfl, hg, fun j u hu => ?_⟩⟩
    rw [← ht, List.getElem?_take] at hu
    split at hu
    · simpa using hu
    · cases hu
theorem OwnA.of_box {w : World} {b base : Nat} {y : Ac} (h : Box w b 24 (acells y (.slice none 0 0))) (hb : base ≤ b) : OwnA w base (some ⟨b, 0, none⟩) 1 [(y, .slice none 0 0)] :=
  ⟨rfl, .inr ⟨b, 1, (acells y (.slice none 0 0)).toArray, (0, 0), rfl, hb, h, .inl rfl, Nat.le_refl _, by decide, rfl, rfl⟩⟩
end Go.Proofs.YtneiiinheimglaaGreatDoor.B
namespace Go.Proofs.YtneiiinheimglaaGreatDoor.B
open Go.RowKit Go.Lib Go.Proofs.YtneiiinheimglaaGreatDoor Go.Proofs.YtneiiinheimglaaGreatDoor.W Go.Proofs.YtneiiinheimglaaGreatDoor.Q Go.Proofs.YtneiiinheimglaaGreatDoor.C Go.Proofs.YtneiiinheimglaaGreatDoor.Z

def wA (a : Ac) : Bool := wB a.kind a.code a.mark a.inter a.args a.text
theorem wA_iff (a : Ac) : wA a = true ↔ wOk a := wB_iff a.kind a.code a.mark a.inter a.args a.text
theorem wL_len {a : Ac} (h : wOk a) : (wL a).length ≤ 2000 := by
  have h1 := wrT_rd (kd := a.kind) (cd := a.code) (mk := a.mark) (im := a.inter) (ar := a.args) (tx := a.text) h
  have h2 := wrT_len (kd := a.kind) (cd := a.code) (mk := a.mark) (im := a.inter) (ar := a.args) (tx := a.text) h
  have h3 := (U.rd_left _ (wrT a.kind a.code a.mark a.inter a.args a.text) (Nat.le_refl _)).2
  have h4 := congrArg List.length h1
  unfold U.ints at h4
  rw [List.length_map] at h4
  show (wL ⟨a.kind, a.code, a.mark, a.inter, a.args, a.text⟩).length ≤ 2000
  omega
def good (L : List Ac) (k : Nat) : List Ac := (L.take k).filter wA
def runesB (l : List Ac) : List Int := (l.map wL).flatten
theorem good_next (L : List Ac) (k : Nat) (h : k < L.length) : good L (k + 1) = good L k ++ (if wA L[k] then [L[k]] else []) := by
  unfold good
  rw [List.take_succ_eq_append_getElem h, List.filter_append]
  congr 1
  by_cases hw : wA L[k] = true
  · rw [if_pos hw, List.filter_cons_of_pos hw]; rfl
  · rw [if_neg hw, List.filter_cons_of_neg hw]; rfl
theorem good_len (L : List Ac) (k : Nat) : (good L k).length ≤ k := by
  unfold good
  have h1 := List.length_filter_le wA (L.take k)
  have h2 := List.length_take_le k L
  omega
theorem good_ok (L : List Ac) (k : Nat) : ∀ a ∈ good L k, wOk a := fun a ha => (wA_iff a).1 (List.mem_filter.1 ha).2
theorem runesB_app (a b : List Ac) : runesB (a ++ b) = runesB a ++ runesB b := by unfold runesB; rw [List.map_append, List.flatten_append]
theorem runesB_len : ∀ l : List Ac, (∀ a ∈ l, wOk a) → (runesB l).length ≤ 2000 * l.length
  | [], _ => Nat.zero_le _
  | a :: l, h => by
    have h1 := runesB_len l (fun x hx => h x (by simp [hx]))
    have h2 := wL_len (h a (by simp))
    show (wL a ++ runesB l).length ≤ _
    rw [List.length_append, List.length_cons]
    omega
/-- acts of a row that a call owns, of numbers that lie wherever they lie -/
def Ob (w0 : World) (base : Nat) (W : World) (v : Value) (L : List Ac) : Prop := ∃ ad cap xs, v = .slice ad xs.length cap ∧ xs.map Prod.fst = L ∧ OwnA W base ad cap xs ∧ ∀ x ∈ xs, RdI w0 x.2 x.1.args
theorem Ob.below {w0 W V : World} {base : Nat} {v : Value} {L : List Ac} (h : Ob w0 base W v L) (hb : Below W.heap.size W V) : Ob w0 base V v L := by
  obtain ⟨ad, cap, xs, e, ex, ho, hr⟩ := h
  exact ⟨ad, cap, xs, e, ex, ho.below hb, hr⟩
theorem Ob.rd {w0 W : World} {base : Nat} {v : Value} {L : List Ac} (h : Ob w0 base W v L) (hb : Below w0.heap.size w0 W) : RdA W v L := by
  obtain ⟨ad, cap, xs, e, ex, ho, hr⟩ := h
  rw [e, ← ex]
  exact RdA.own ho (fun x hx => (hr x hx).below hb)
def BState (w : World) (L : List Ac) (s3 s4 s14 : Value) (W : World) : Prop :=
  ∃ k : Nat, k ≤ L.length ∧ s14 = .int .i64 (k : Int) ∧ Hid (OwnI W w.heap.size s3 (runesB (good L k))) ∧ Hid (Ob w w.heap.size W s4 (good L k)) ∧ Hid (Below w.heap.size w W)
theorem kept_own {W V : World} {base : Nat} {t : TypeId} {v : Value} {n c : Nat} {l : List Value} (h : OwnR W base t c v n l) (hk : ∀ (k : Nat) (cs : Array Value) (fz : Nat × Nat), W.heap[k]? = some (.cells cs t fz) → V.heap[k]? = some (.cells cs t fz)) : OwnR V base t c v n l :=
  OwnR.keptAt h (fun k hb => by
    obtain ⟨cur, fz, hc⟩ := h.typed k hb
    rw [hc]
    exact hk k cur fz hc)
/-- what lives while the region is walked -/
structure Sk (w : World) (b6 : Nat) (y : Ac) (vy : Value) (W : World) : Prop where
  a : Box W b6 24 (acells y vy)
  b : Below w.heap.size w W
  le : w.heap.size ≤ b6
theorem step_append_one {w : World} {o : Oper} {a : Act} {ops : Array Oper} {Q : Exit → Act → World → Prop} {K : Act → World → Prop} {X : Prop} (hgd : o.guard = none) (s x : Operand)
    (ho : o.op = .call { callee := .builtin .append, args := #[s, x], argTypes := #[40, 40] })
    (base : Nat) (ad : Option Addr) (cap : Nat) (l : List (Ac × Value)) (n : Nat) (hs : a.eval s = .slice ad n cap) (hnl : n = l.length) (hown : OwnA w base ad cap l) (y : Ac) (vy : Value) (hy1 : vy.oneCell' = true) (g0 c : Nat) (hx : a.eval x = .slice (some ⟨g0, 0, none⟩) 1 c) (hg0 : Box w g0 24 (acells y vy)) (hb : base ≤ w.heap.size) (hn : l.length ≤ 1099511627776)
    (next : ∀ ad' cap' n' w', Hid (n' = (l ++ [(y, vy)]).length) → OwnA w' base ad' cap' (l ++ [(y, vy)]) → (∀ B W, B ≤ base → Below B W w → Below B W w') → (∀ k, k < w.heap.size → (Value.slice ad l.length cap).ownBlock ≠ some k → w'.heap[k]? = w.heap[k]?) → (∀ (k : Nat) (cs : Array Value) (t : TypeId) (fz : Nat × Nat), t ≠ 24 → w.heap[k]? = some (.cells cs t fz) → w'.heap[k]? = some (.cells cs t fz)) → K (a.put o.dst (.slice ad' n' cap')) w') : if Region.wanted o (yielded ops a.tmps) = true then Oper.wp Tryz.prog o a w K Q else X := by
  have hw : Region.wanted o (yielded ops a.tmps) = true := by simp [Region.wanted, hgd]
  rw [if_pos hw]
  subst hnl
  obtain ⟨i0, hi, hz0, hz1, hz2⟩ := info_parts infoAct
  unfold OwnA at hown
  obtain ⟨g, c2, w', a1, a2, a3, _, _⟩ := run_append_R (P := Tryz.prog) w 40 o.type base 24 i0 (.agg #[.int .i64 0, .int .i64 0, .int .i64 0, .string ⟨#[]⟩, .slice none 0 0, .string ⟨#[]⟩]) 6 80 Tryz.underlying40 hi hz0 hz1 hz2 rfl (by decide) (.slice ad l.length cap) l.length (asC l) hown ⟨g0, 0, none⟩ 1 c (asC [(y, vy)]) (by simp [asC, acells])
    (fun j u hu => World.news_of_block hg0 j u (by simpa [asC] using hu)) (asC_one [(y, vy)] (fun x hx => by rw [List.mem_singleton.1 hx]; exact hy1)) (by omega) (by unfold maxLen; omega) (by omega) hb _ rfl
  have e1 : (l ++ [(y, vy)]).length = l.length + 1 := by simp
  unfold Oper.wp execOp
  simp only [ho, resolve, invoke, builtin, Sem.run_bind, Sem.run_pure, Result.andThen_ok, List.map_toArray, List.map_cons, List.map_nil, hs, hx, a1]
  refine next _ c2 (l.length + 1) w' e1.symm ?_ (fun B W hB hBW => hBW.grown a3 (by omega) (fun k hk => by have := (hown.lt k hk).1; omega)) (fun k hk hne => a3.block k hk (fun e => hne e.symm)) (fun k cs t fz ht hk => ?_)
  · unfold OwnA
    rw [e1, asC_app]
    exact a2
  · rw [a3.block k (Array.getElem?_eq_some_iff.1 hk).1 (fun e => by
      obtain ⟨cur, fz', hc⟩ := hown.typed k e.symm
      rw [hk] at hc
      simp only [Option.some.injEq, Obj.cells.injEq] at hc
      exact ht hc.2.1)]
    exact hk
theorem RdI.one {w : World} {v : Value} {l : List Int} (h : RdI w v l) : v.oneCell' = true := by
  obtain ⟨a, c, e, _⟩ := h
  rw [e]; rfl
theorem small_args {p : Ps} (hp : right p) (l : List Int) : ∀ y ∈ (run p l).2, y.args.length ≤ 17592186044416 := by
  intro y hy
  have h := run_shape l hp y hy
  have h32 : ∀ s, (readT s).1.length ≤ 32 := fun s => by
    unfold readT
    split
    · exact rd_len s
    · exact Nat.zero_le _
  rcases h with h | ⟨h, _⟩ | ⟨h, _⟩ | ⟨h, _⟩ | ⟨h, _, _, _, _, s, _, _, e⟩ | ⟨h, _⟩
  · rw [h]; exact Nat.zero_le _
  · rw [h]; exact Nat.zero_le _
  · rw [h]; exact Nat.zero_le _
  · rw [h]; exact Nat.zero_le _
  · rw [e]; have := h32 s; omega
  · rw [h]; exact Nat.zero_le _


end Go.Proofs.YtneiiinheimglaaGreatDoor.B
