/-
  What farref.ActRunes answers, as plain facts: runes that make an act make it alone where it may be written, and nowhere else; append of ints that keeps other blocks; no condition but the bounds that each names.
-/
import Derived.Test.YtneiiinheimglaaGreatDoorJ8
import Derived.Test.YtneiiinheimglaaGreatDoorBParsed
import Derived.Test.YtneiiinheimglaaGreatDoorJ7
import Derived.Test.YtneiiinheimglaaGreatDoorZRef
import Derived.Test.YtneiiinheimglaaGreatDoorUUnr2
namespace Go.Proofs.YtneiiinheimglaaGreatDoor.B
open Go.RowKit Go.Lib Go.Proofs.YtneiiinheimglaaGreatDoor Go.Proofs.YtneiiinheimglaaGreatDoor.W Go.Proofs.YtneiiinheimglaaGreatDoor.Q Go.Proofs.YtneiiinheimglaaGreatDoor.C Go.Proofs.YtneiiinheimglaaGreatDoor.Z

/-- what ActRunes answers -/
def ARes (y : Ac) (l : List Int) (w : World) (e : Ending) (w' : World) : Prop :=
  ∃ v2, (wOk y → e = .returned (.tuple #[v2, .int .i64 0]) ∧ RdI w' v2 l) ∧ (¬ wOk y → e = .returned (.tuple #[.slice none 0 0, .int .i64 1])) ∧ Below w.heap.size w w'
theorem isRb_iff (c : Int) : isRb c = true ↔ isR c := decide_eq_true_iff
theorem act_ok {y : Ac} (h : wOk y) : run p0 (wL y) = (p0, [y]) ∧ ∀ c ∈ wL y, isRb c = true :=
  ⟨back h, fun c hc => (isRb_iff c).2 ((wrT_enc (kd := y.kind) (cd := y.code) (mk := y.mark) (im := y.inter) (ar := y.args) (tx := y.text) h).2.1 c hc)⟩
theorem st_zero {q : Ps} (hq : right q) (h : q.st = 0) : q = p0 := by
  have h1 : q.mark = 0 := hq.mark.elim id (fun h2 => by omega)
  have h2 : q.inter = [] := hq.inter.2 (by omega)
  have h3 : q.args = [] := hq.args.elim id (fun h2 => by omega)
  have h4 : q.text = [] := hq.text.elim id (fun h2 => by omega)
  obtain ⟨a, b, c, d, e⟩ := q
  dsimp only at *
  subst h h1 h2 h3 h4
  rfl
theorem args_ok {l : List Int} (h : (writeT l).2 = 0) : Z.okL l = true ∧ l.length ≤ 32 ∧ (writeT l).1 = Z.text l := by
  unfold writeT at h ⊢
  by_cases h1 : Z.okL l = true
  · rw [if_pos h1] at h ⊢
    by_cases h2 : 32 < l.length
    · rw [if_pos h2] at h; simp at h
    · rw [if_neg h2] at h ⊢; exact ⟨h1, by omega, rfl⟩
  · rw [if_neg h1] at h; simp at h
theorem ok_args {l : List Int} (h1 : Z.okL l = true) (h2 : l.length ≤ 32) : writeT l = (Z.text l, 0) := by
  unfold writeT
  rw [if_pos h1, if_neg (by omega)]
theorem act_of {y : Ac} (hk : 1 ≤ y.kind ∧ y.kind ≤ 5) (h4 : y.kind = 4 → (writeT y.args).2 = 0 ∧ (writeT y.args).1.length ≤ 100) (h1 : (run p0 (wL y)).1.st = 0) (h2 : (run p0 (wL y)).2 = [y]) (h3 : ∀ c ∈ wL y, isRb c = true) : wOk y :=
  forth hk (fun h => by
    have h5 := args_ok (h4 h).1
    exact ⟨h5.1, h5.2.1, h5.2.2 ▸ (h4 h).2⟩) (Prod.ext (st_zero (run_right _ right_p0) h1) h2) (fun c hc => (isRb_iff c).1 (h3 c hc))
theorem ok_kind {y : Ac} (h : wOk y) : 1 ≤ y.kind ∧ y.kind ≤ 5 := by
  rcases h with ⟨e, _⟩ | ⟨e, _⟩ | ⟨e, _⟩ | ⟨e, _⟩ | ⟨e, _⟩ <;> rw [e] <;> dsimp only <;> omega
theorem ok_four {y : Ac} (hk : y.kind = 4) (h : wOk y) : (writeT y.args).2 = 0 ∧ (writeT y.args).1.length ≤ 100 := by
  rcases h with ⟨e, _⟩ | ⟨e, _⟩ | ⟨e, _⟩ | ⟨_, _, _, _, _, h1, h2, h3⟩ | ⟨e, _⟩
  · rw [e] at hk; simp at hk
  · rw [e] at hk; simp at hk
  · rw [e] at hk; simp at hk
  · rw [ok_args h1 h2]; exact ⟨rfl, h3⟩
  · rw [e] at hk; simp at hk
theorem wL_one {y : Ac} (h : y.kind = 1 ∨ y.kind = 2) : wL y = [y.code] := by unfold wL; rw [if_pos h]
theorem wL_three {y : Ac} (h : y.kind = 3) : wL y = ([27] ++ asInts y.inter) ++ [y.code] := by
  unfold wL
  rw [if_neg (by omega), if_pos h]
  simp
theorem wL_four {y : Ac} (h : y.kind = 4) (h0 : (writeT y.args).2 = 0) : wL y = ((([27, 91] ++ (if y.mark = 0 then [] else [y.mark])) ++ asInts (writeT y.args).1) ++ asInts y.inter) ++ [y.code] := by
  rw [(args_ok h0).2.2]
  unfold wL
  rw [if_neg (by omega), if_neg (by omega), if_pos h]
  simp
theorem wL_five {y : Ac} (h : y.kind = 5) : wL y = ([27, 93] ++ runesOf y.text) ++ [7] := by
  unfold wL
  rw [if_neg (by omega), if_neg (by omega), if_neg (by omega)]
  simp
theorem few_args {p : Ps} (hp : right p) (l : List Int) : ∀ y ∈ (run p l).2, y.args.length ≤ 1000000000 := by
  intro y hy
  have h := run_shape l hp y hy
  have h32 : ∀ s, (readT s).1.length ≤ 32 := fun s => by
    unfold readT
    split
    · exact rd_len s
    · exact Nat.zero_le _
  rcases h with h | ⟨h, _⟩ | ⟨h, _⟩ | ⟨h, _⟩ | ⟨h, _, _, _, _, s, _, _, e⟩ | ⟨h, _⟩
  · rw [h]; exact Nat.zero_le _
  · rw [h]; exact Nat.zero_le _
  · rw [h]; exact Nat.zero_le _
  · rw [h]; exact Nat.zero_le _
  · rw [e]; have := h32 s; omega
  · rw [h]; exact Nat.zero_le _
theorem text_fits {l : List Int} (h : (writeT l).2 = 0) : (writeT l).1.length ≤ 2000 := by
  have h1 := args_ok h
  rw [h1.2.2]
  have h2 := text_length l (okL_right h1.1).1
  have h3 := h1.2.1
  omega
theorem runes_len (s : List UInt8) : (runesOf s).length ≤ s.length := by
  have h3 := (U.rd_left _ s (Nat.le_refl _)).2
  unfold runesOf
  rw [List.length_map]
  omega

theorem OwnI.lit (w : World) (base : Nat) (l : List Int) (hb : base ≤ w.heap.size) (hl : l.length ≤ 1000000) : OwnI (w.alloc (.cells (icells l).toArray 3)) base (.slice (some ⟨w.heap.size, 0, none⟩) l.length l.length) l :=
  ⟨by simp [icells], .inr ⟨w.heap.size, l.length, _, (0, 0), rfl, hb, (MapKept.heap_alloc w _).1, .inl rfl, Nat.le_refl _, by unfold maxLen; omega, by simp [icells], by simp [icells, List.take_of_length_le]⟩⟩
/-- append(v, ints) where a region draws: v owned; other blocks stay -/
theorem step_append_sep {w : World} {o : Oper} {a : Act} {ops : Array Oper} {Q : Exit → Act → World → Prop} {K : Act → World → Prop} {X : Prop} (hgd : o.guard = none) (sl x : Operand)
    (ho : o.op = .call { callee := .builtin .append, args := #[sl, x], argTypes := #[22, 22] }) (base : Nat) (al : Option Addr) (n cl : Nat) (l : List Int) (hsl : a.eval sl = .slice al n cl) (hown : OwnI w base (.slice al n cl) l)
    (ax : Option Addr) (nx cx : Nat) (l2 : List Int) (hx : a.eval x = .slice ax nx cx) (hr : RdI w (.slice ax nx cx) l2) (hlen : l.length + l2.length ≤ 1000000000000) (hbase : base ≤ w.heap.size)
    (next : ∀ al' n' cl' w', Hid (n' = (l ++ l2).length) → OwnI w' base (.slice al' n' cl') (l ++ l2) → (∀ B W, B ≤ base → Below B W w → Below B W w') → (∀ b t cs, Box w b t cs → Z.blk al ≠ some b → Box w' b t cs ∧ Z.blk al' ≠ some b) → K (a.put o.dst (.slice al' n' cl')) w') : if Region.wanted o (yielded ops a.tmps) = true then Oper.wp Tryz.prog o a w K Q else X := by
  have hw : Region.wanted o (yielded ops a.tmps) = true := by simp [Region.wanted, hgd]
  rw [if_pos hw]
  obtain rfl := hown.len
  obtain ⟨i0, hi, hz0, hz1, hz2⟩ := info_parts infoInt
  obtain ⟨al', cl', w', hrun, hA⟩ := run_append_1 (P := Tryz.prog) w 22 22 o.type base 3 i0 (.int .i64 0) 8 Tryz.underlying22 hi hz0 hz1 hz2 rfl al l.length cl (icells l) hown (.slice ax nx cx) l2.length (icells l2) (src_ints hr) (by unfold maxLen; omega) (by omega) hbase
  rw [← icells_app] at hA
  unfold Oper.wp execOp
  simp only [ho, resolve, invoke, builtin, Sem.run_bind, Sem.run_pure, Result.andThen_ok, List.map_toArray, List.map_cons, List.map_nil, hsl, hx, hrun]
  refine next al' (l.length + l2.length) cl' w' (by rw [Hid, List.length_append]) ?_ (fun B W hB hBW => hBW.grown hA.grown (by omega) (fun g hg => ?_)) (fun b t cs hb hne => ⟨hb.kept (hA.grown.block b hb.lt (fun e => hne e.symm)), fun e => ?_⟩)
  · have h2 : OwnI w' base (.slice al' (l.length + l2.length) cl') (l ++ l2) := by unfold OwnI; rw [List.length_append]; exact hA.own
    exact h2
  · have := (hown.lt g (by rw [Z.ownBlock_slice]; exact hg)).1
    omega
  · have hlt := hb.lt
    rcases hA.at' with h | h
    · exact hne (h ▸ e)
    · rw [e] at h
      simp only [Option.some.injEq] at h
      omega
/-- append(v, ints): v owned, the ints lie wherever they lie -/
theorem wpList_append_g (w : World) {ops : Array Oper} {rest : List Oper} {o : Oper} {a : Act} {Q : Exit → Act → World → Prop} (hwd : Region.wanted o (yielded ops a.tmps) = true) (s x : Operand)
    (ho : o.op = .call { callee := .builtin .append, args := #[s, x], argTypes := #[22, 22] })
    (base : Nat) (al : Option Addr) (n cl : Nat) (l : List Int) (hs : a.eval s = .slice al n cl) (hown : OwnI w base (.slice al n cl) l) (ax : Option Addr) (nx cx : Nat) (l2 : List Int) (hx : a.eval x = .slice ax nx cx) (hr : RdI w (.slice ax nx cx) l2) (hlen : l.length + l2.length ≤ 1000000000000) (hbase : base ≤ w.heap.size)
    (h : ∀ al' n' cl' w', Hid (n' = (l ++ l2).length) → OwnI w' base (.slice al' n' cl') (l ++ l2) → (∀ B W, B ≤ base → Below B W w → Below B W w') → wpList Tryz.prog ops Q rest (a.put o.dst (.slice al' n' cl')) w') : wpList Tryz.prog ops Q (o :: rest) a w := by
  obtain rfl := hown.len
  obtain ⟨i0, hi, hz0, hz1, hz2⟩ := info_parts infoInt
  obtain ⟨al', cl', w', hrun, hA⟩ := run_append_1 (P := Tryz.prog) w 22 22 o.type base 3 i0 (.int .i64 0) 8 Tryz.underlying22 hi hz0 hz1 hz2 rfl al l.length cl (icells l) hown (.slice ax nx cx) l2.length (icells l2) (src_ints hr) (by unfold maxLen; omega) (by omega) hbase
  rw [← icells_app] at hA
  refine wpList_step fun K hK => ?_
  rw [if_pos hwd]
  unfold Oper.wp execOp
  simp only [ho, resolve, invoke, builtin, Sem.run_bind, Sem.run_pure, Result.andThen_ok, List.map_toArray, List.map_cons, List.map_nil, hs, hx, hrun]
  refine hK _ _ (h al' (l.length + l2.length) cl' w' (by rw [Hid, List.length_append]) ?_ (fun B W hB hBW => hBW.grown hA.grown (by omega) (fun g hg => ?_)))
  · have h2 : OwnI w' base (.slice al' (l.length + l2.length) cl') (l ++ l2) := by unfold OwnI; rw [List.length_append]; exact hA.own
    exact h2
  · have := (hown.lt g (by rw [Z.ownBlock_slice]; exact hg)).1
    omega
/-- what lives while the runes are put together -/
structure Rw (w : World) (y : Ac) (vy : Value) (W : World) : Prop where
  a : Box W w.heap.size 24 (acells y vy)
  b : Below w.heap.size w W
theorem Rw.le {w W : World} {y : Ac} {vy : Value} (h : Rw w y vy W) : w.heap.size + 1 ≤ W.heap.size := h.a.lt
theorem Rw.drew {w W : World} {y : Ac} {vy : Value} (h : Rw w y vy W) : Rw w y vy W.drew := ⟨h.a.drew, h.b.drew⟩
theorem Rw.alloc {w W : World} {y : Ac} {vy : Value} (h : Rw w y vy W) (o : Obj) : Rw w y vy (W.alloc o) := ⟨h.a.alloc o, h.b.alloc h.b.size o⟩
theorem Rw.later {w W V : World} {y : Ac} {vy : Value} (h : Rw w y vy W) (hb : Below W.heap.size W V) : Rw w y vy V := ⟨h.a.later hb, h.b.trans (Below.mono hb h.b.size)⟩
theorem Rw.app {w W V : World} {y : Ac} {vy : Value} (h : Rw w y vy W) (hB : ∀ B X, B ≤ w.heap.size + 1 → Below B X W → Below B X V) : Rw w y vy V :=
  ⟨h.a.below (hB (w.heap.size + 1) W (Nat.le_refl _) (Below.refl _ _)) (Nat.lt_succ_self _), hB _ _ (Nat.le_succ _) h.b⟩
theorem Rw.new {w : World} (y : Ac) (vy : Value) : Rw w y vy (w.alloc (.cells (acells y vy).toArray 24)) := ⟨Box.new _ _ _, (Below.refl _ _).alloc (Nat.le_refl _) _⟩
theorem own_box {W : World} {B : Nat} {al : Option Addr} {n cl : Nat} {l : List Int} (h : OwnI W B (.slice al n cl) l) : Z.blk al ≠ some W.heap.size := fun e => by
  have h1 := (OwnR.lt h W.heap.size (by rw [Z.ownBlock_slice]; exact e)).2
  omega
theorem rd_one {W : World} {b : Nat} {c : Int} (h : Box W b 3 [.int .i64 c]) : RdI W (.slice (some ⟨b, 0, none⟩) 1 1) [c] :=
  ⟨_, _, rfl, Nat.le_refl _, .inr ⟨b, 0, rfl, fun j hj => by
    have hj0 : j = 0 := by simpa using hj
    subst hj0
    exact h.cell (j := 0) rfl, h.lt⟩⟩
/-- .. and while they are read again -/
structure Rt (w : World) (y : Ac) (vy : Value) (b6 : Nat) (q : Ps) (W : World) : Prop where
  r : Rw w y vy W
  p : Box W b6 39 (pcells q)
theorem Rt.drew {w W : World} {y : Ac} {vy : Value} {b6 : Nat} {q : Ps} (h : Rt w y vy b6 q W) : Rt w y vy b6 q W.drew := ⟨h.r.drew, h.p.drew⟩
theorem Rt.later {w W V : World} {y : Ac} {vy : Value} {b6 : Nat} {q : Ps} (h : Rt w y vy b6 q W) (hb : Below W.heap.size W V) : Rt w y vy b6 q V := ⟨h.r.later hb, h.p.later hb⟩
theorem rd_at {W : World} {al : Option Addr} {n cl : Nat} {l : List Int} (h : RdI W (.slice al n cl) l) (k : Nat) (hk : k < l.length) : ∃ b off, al = some ⟨b, off, none⟩ ∧ W.cell? ⟨b, off + k, none⟩ = some (.int .i64 l[k]) ∧ b < W.heap.size := by
  obtain ⟨a, c, e, _, hr⟩ := h
  simp only [Value.slice.injEq] at e
  rcases hr with h0 | ⟨b, off, e2, ht, hb⟩
  · subst h0; simp at hk
  · exact ⟨b, off, by rw [e.1, e2], ht k hk, hb⟩
theorem rd_act {W : World} {la : Option Addr} {n lc : Nat} {x : Ac} (h : RdAT W (.slice la n lc) [x]) : ∃ g vx, la = some ⟨g, 0, none⟩ ∧ RdI W vx x.args ∧ (∀ i u, (acells x vx)[i]? = some u → W.cell? ⟨g, i, none⟩ = some u) ∧ g < W.heap.size := by
  obtain ⟨a, c, xs, e, _, ex, hr, hx⟩ := h
  simp only [Value.slice.injEq] at e
  rcases hx with h0 | ⟨g, cur, fz, e2, hg, ht⟩
  · simp at h0
  · match xs, ex, hr, ht with
    | [z], ex, hr, ht =>
      have hz : z.1 = x := by simpa using ex
      refine ⟨g, z.2, by rw [e.1, e2], ?_, fun i u hu => ?_, (Array.getElem?_eq_some_iff.1 hg).1⟩
      · have := (hr z (by simp)).rd
        rwa [hz] at this
      · rw [cell_of_row W g i cur _ fz hg]
        exact ht i u (by simp only [asC, List.append_nil, hz]; exact hu)
end Go.Proofs.YtneiiinheimglaaGreatDoor.B
