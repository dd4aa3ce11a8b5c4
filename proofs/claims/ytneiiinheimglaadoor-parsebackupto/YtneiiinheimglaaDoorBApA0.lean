/-
  Append of acts onto acts that a call owns; condition: at most 2^40 acts.
-/
import Derived.Test.YtneiiinheimglaaDoorBFeed
namespace Go.Proofs.YtneiiinheimglaaDoor.B
open Go.RowKit Go.Lib Go.Proofs.YtneiiinheimglaaDoor Go.Proofs.YtneiiinheimglaaDoor.W Go.Proofs.YtneiiinheimglaaDoor.Q Go.Proofs.YtneiiinheimglaaDoor.C Go.Proofs.YtneiiinheimglaaDoor.Z

theorem run_append_zero {P : Program} (w : World) (t ty e : TypeId) (i : TypeInfo) (ht : P.underlying t = some (.slice e)) (hi : P.info? e = some i) (v : Value) (n : Nat)
    (hv : (v = .slice none 0 0 ∧ n = 0) ∨ ∃ g cap, v = .slice (some ⟨g, 0, none⟩) n cap ∧ n ≤ cap) (a : Option Addr) (c : Nat) :
    (Builtin.append_ #[t, t] ty #[v, .slice a 0 c]).run P w = .ok v w := by
  rcases hv with ⟨rfl, rfl⟩ | ⟨g, cap, rfl, h⟩
  · cases a with
    | none => simp [Builtin.append_, run_underlying ht, sizeOf, typeInfo, hi, Builtin.lenOf, Builtin.firstCells]
    | some a => simp [Builtin.append_, run_underlying ht, sizeOf, typeInfo, hi, Builtin.lenOf, Builtin.firstCells, loadCells, loadCellsFrom]
  · cases a with
    | none => simp [Builtin.append_, run_underlying ht, sizeOf, typeInfo, hi, Builtin.lenOf, Builtin.firstCells, h, storeCells]
    | some a => simp [Builtin.append_, run_underlying ht, sizeOf, typeInfo, hi, Builtin.lenOf, Builtin.firstCells, loadCells, loadCellsFrom, h, storeCells]

/-- all but the blocks of acts stay as they are -/
def KeepA (w w' : World) : Prop := ∀ (k : Nat) (cs : Array Value) (t : TypeId) (fz : Nat × Nat), t ≠ 35 → w.heap[k]? = some (.cells cs t fz) → w'.heap[k]? = some (.cells cs t fz)
theorem KeepA.ints {w w' : World} (h : KeepA w w') : KeepI w w' := fun k cs fz hk => h k cs _ fz (Ne.symm ai) hk
/-- append(x, y...): x owned, y only read -/
theorem run_append_acts (w : World) (ty : TypeId) (base : Nat) (ad : Option Addr) (cap : Nat) (xs : List (Ac × Value)) (L : List Ac) (hown : OwnA w base ad cap xs) (v2 : Value) (hm : RdAT w v2 L) (hb : base ≤ w.heap.size) (hn : xs.length + L.length ≤ 1099511627776) :
    ∃ ad' cap' ys w', (Builtin.append_ #[25, 25] ty #[.slice ad xs.length cap, v2]).run Tryd.prog w = .ok (.slice ad' (xs ++ ys).length cap') w' ∧ ys.map Prod.fst = L ∧ OwnA w' base ad' cap' (xs ++ ys) ∧ (∀ x ∈ ys, RdT w' x.2 x.1.args) ∧ KeepA w w' ∧ (∀ B X, B ≤ base → Below B X w → Below B X w') := by
  obtain ⟨i0, hi, hz0, hz1, hz2⟩ := info_parts infoAct
  obtain ⟨a, cap2, ys, rfl, hc, ey, hr, hx⟩ := hm
  have ly : ys.length = L.length := by rw [← ey]; simp
  unfold OwnA at hown
  by_cases h0 : L = []
  · subst h0
    have hy0 : ys = [] := List.length_eq_zero_iff.1 ly
    subst hy0
    have hz := run_append_zero (P := Tryd.prog) w 25 ty 35 i0 Tryd.underlying25 hi _ xs.length (by
      rcases hown.form with h | ⟨g, c, e, _, _, h⟩
      · exact .inl h
      · exact .inr ⟨g, c, e, h⟩) a cap2
    exact ⟨ad, cap, [], w, by simpa using hz, rfl, by simpa [OwnA] using hown, (fun x hx => by cases hx), (fun _ _ _ _ _ h => h), fun _ _ _ h => h⟩
  · rcases hx with h | ⟨g2, cur2, fz2, rfl, hg2, hT⟩
    · exact absurd h h0
    have hadd : ∀ j, (⟨g2, 0, none⟩ : Addr).add j = ⟨g2, j, none⟩ := fun j => by unfold Addr.add; split <;> simp_all
    obtain ⟨g, c2, w', a1, a2, a3, _, _⟩ := run_append_R (P := Tryd.prog) w 25 ty base 35 i0 (.agg #[.int .i64 0, .int .i64 0, .int .i64 0, .string ⟨#[]⟩, .slice none 0 0, .string ⟨#[]⟩]) 6 80 Tryd.underlying25 hi hz0 hz1 hz2 rfl (by decide) _ xs.length (asC xs) hown ⟨g2, 0, none⟩ L.length cap2 (asC ys) (by rw [asC_length, ly]) (fun j u hu => by
      rw [hadd, cell_of_row w g2 j cur2 _ fz2 hg2]
      exact hT j u hu) (asC_one ys (fun x hx => (hr x hx).one)) (by have : L.length ≠ 0 := fun e => h0 (List.length_eq_zero_iff.1 e); omega) (by unfold maxLen; omega) (by omega) hb _ rfl
    have hk : KeepA w w' := fun k cs t fz ht hk => by
      rw [a3.block k (Array.getElem?_eq_some_iff.1 hk).1 (fun e => by
        obtain ⟨cur, fz', hc⟩ := hown.typed k e.symm
        rw [hk] at hc
        simp only [Option.some.injEq, Obj.cells.injEq] at hc
        exact ht hc.2.1)]
      exact hk
    refine ⟨_, c2, ys, w', by rw [List.length_append, ly]; exact a1, ey, ?_, fun x hx => (hr x hx).keep hk.ints, hk, fun B X hB hBW => hBW.grown a3 (by omega) (fun k hk => by have := (hown.lt k hk).1; omega)⟩
    unfold OwnA
    rw [List.length_append, asC_app, ly]
    exact a2
theorem wpList_append_acts (w : World) {ops : Array Oper} {rest : List Oper} {o : Oper} {a : Act} {Q : Exit → Act → World → Prop} (hwd : Region.wanted o (yielded ops a.tmps) = true) (s x : Operand)
    (ho : o.op = .call { callee := .builtin .append, args := #[s, x], argTypes := #[25, 25] })
    (base : Nat) (ad : Option Addr) (cap : Nat) (xs : List (Ac × Value)) (L : List Ac) (n : Nat) (hs : a.eval s = .slice ad n cap) (hnl : n = xs.length) (hown : OwnA w base ad cap xs) (v2 : Value) (hx : a.eval x = v2) (hm : RdAT w v2 L) (hb : base ≤ w.heap.size) (hn : xs.length + L.length ≤ 1099511627776)
    (h : ∀ ad' cap' ys n' w', Hid (n' = (xs ++ ys).length) → ys.map Prod.fst = L → OwnA w' base ad' cap' (xs ++ ys) → (∀ x ∈ ys, RdT w' x.2 x.1.args) → KeepA w w' → (∀ B X, B ≤ base → Below B X w → Below B X w') → wpList Tryd.prog ops Q rest (a.put o.dst (.slice ad' n' cap')) w') : wpList Tryd.prog ops Q (o :: rest) a w := by
  refine wpList_step fun K hK => ?_
  rw [if_pos hwd]
  subst hnl
  obtain ⟨ad', cap', ys, w', hr, h1, h2, h3, h4, h5⟩ := run_append_acts w o.type base ad cap xs L hown v2 hm hb hn
  unfold Oper.wp execOp
  simp only [ho, resolve, invoke, builtin, Sem.run_bind, Sem.run_pure, Result.andThen_ok, List.map_toArray, List.map_cons, List.map_nil, hs, hx, hr]
  exact hK _ _ (h ad' cap' ys _ w' (Hid.mk' rfl) h1 h2 h3 h4 h5)

theorem step_append_acts {w : World} {o : Oper} {a : Act} {ops : Array Oper} {Q : Exit → Act → World → Prop} {K : Act → World → Prop} {X : Prop} (hgd : o.guard = none) (s x : Operand)
    (ho : o.op = .call { callee := .builtin .append, args := #[s, x], argTypes := #[25, 25] })
    (base : Nat) (ad : Option Addr) (cap : Nat) (xs : List (Ac × Value)) (L : List Ac) (n : Nat) (hs : a.eval s = .slice ad n cap) (hnl : n = xs.length) (hown : OwnA w base ad cap xs) (v2 : Value) (hx : a.eval x = v2) (hm : RdAT w v2 L) (hb : base ≤ w.heap.size) (hn : xs.length + L.length ≤ 1099511627776)
    (next : ∀ ad' cap' ys n' w', Hid (n' = (xs ++ ys).length) → ys.map Prod.fst = L → OwnA w' base ad' cap' (xs ++ ys) → (∀ x ∈ ys, RdT w' x.2 x.1.args) → KeepA w w' → (∀ B X, B ≤ base → Below B X w → Below B X w') → K (a.put o.dst (.slice ad' n' cap')) w') : if Region.wanted o (yielded ops a.tmps) = true then Oper.wp Tryd.prog o a w K Q else X := by
  have hw : Region.wanted o (yielded ops a.tmps) = true := by simp [Region.wanted, hgd]
  rw [if_pos hw]
  subst hnl
  obtain ⟨ad', cap', ys, w', hr, h1, h2, h3, h4, h5⟩ := run_append_acts w o.type base ad cap xs L hown v2 hm hb hn
  unfold Oper.wp execOp
  simp only [ho, resolve, invoke, builtin, Sem.run_bind, Sem.run_pure, Result.andThen_ok, List.map_toArray, List.map_cons, List.map_nil, hs, hx, hr]
  exact next ad' cap' ys _ w' (Hid.mk' rfl) h1 h2 h3 h4 h5
theorem RdAT.ownA {w : World} {base : Nat} {ad : Option Addr} {cap : Nat} {xs : List (Ac × Value)} (h : OwnA w base ad cap xs) (hr : ∀ x ∈ xs, RdT w x.2 x.1.args) : RdAT w (.slice ad xs.length cap) (xs.map Prod.fst) := by
  unfold OwnA OwnR at h
  rcases h.2 with ⟨e, h0⟩ | ⟨g, cap', cur, fz, e, _, hg, _, hc, _, _, ht⟩
  · have : xs = [] := List.length_eq_zero_iff.1 h0
    subst this
    simp only [Value.slice.injEq] at e
    obtain ⟨rfl, _, rfl⟩ := e
    exact RdAT.nil w
  · simp only [Value.slice.injEq] at e
    obtain ⟨rfl, _, rfl⟩ := e
    refine ⟨_, cap, xs, by simp, by simpa using hc, rfl, hr, .inr ⟨g, cur, fz, rfl, hg, fun j u hu => ?_⟩⟩
    rw [← ht, List.getElem?_take] at hu
    split at hu
    · simpa using hu
    · cases hu
theorem OwnA.of_box {w : World} {b base : Nat} {y : Ac} (h : Box w b 35 (acells y (.slice none 0 0))) (hb : base ≤ b) : OwnA w base (some ⟨b, 0, none⟩) 1 [(y, .slice none 0 0)] :=
  ⟨rfl, .inr ⟨b, 1, (acells y (.slice none 0 0)).toArray, (0, 0), rfl, hb, h, .inl rfl, Nat.le_refl _, by decide, rfl, rfl⟩⟩
end Go.Proofs.YtneiiinheimglaaDoor.B
