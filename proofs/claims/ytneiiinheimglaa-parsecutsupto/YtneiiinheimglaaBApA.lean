/-
  Append of acts onto acts that a call owns; contract of slices.Clone at []api.Act; condition: at most 2^40 acts.
-/
import Derived.Test.YtneiiinheimglaaBApp
import Derived.Test.YtneiiinheimglaaBFeed
namespace Go.Proofs.Ytneiiinheimglaa.B
open Go.RowKit Go.Lib Go.Proofs.Ytneiiinheimglaa Go.Proofs.Ytneiiinheimglaa.W Go.Proofs.Ytneiiinheimglaa.Q Go.Proofs.Ytneiiinheimglaa.C Go.Proofs.Ytneiiinheimglaa.Z

theorem run_append_zero {P : Program} (w : World) (t ty e : TypeId) (i : TypeInfo) (ht : P.underlying t = some (.slice e)) (hi : P.info? e = some i) (v : Value) (n : Nat)
    (hv : (v = .slice none 0 0 ∧ n = 0) ∨ ∃ g cap, v = .slice (some ⟨g, 0, none⟩) n cap ∧ n ≤ cap) (a : Option Addr) (c : Nat) :
    (Builtin.append_ #[t, t] ty #[v, .slice a 0 c]).run P w = .ok v w := by
  rcases hv with ⟨rfl, rfl⟩ | ⟨g, cap, rfl, h⟩
  · cases a with
    | none => simp [Builtin.append_, run_underlying ht, sizeOf, typeInfo, hi, Builtin.lenOf, Builtin.firstCells]
    | some a => simp [Builtin.append_, run_underlying ht, sizeOf, typeInfo, hi, Builtin.lenOf, Builtin.firstCells, loadCells, loadCellsFrom]
  · cases a with
    | none => simp [Builtin.append_, run_underlying ht, sizeOf, typeInfo, hi, Builtin.lenOf, Builtin.firstCells, h, storeCells]
    | some a => simp [Builtin.append_, run_underlying ht, sizeOf, typeInfo, hi, Builtin.lenOf, Builtin.firstCells, loadCells, loadCellsFrom, h, storeCells]

/-- all but the blocks of acts stay as they are -/
def KeepA (w w' : World) : Prop := ∀ (k : Nat) (cs : Array Value) (t : TypeId) (fz : Nat × Nat), t ≠ 34 → w.heap[k]? = some (.cells cs t fz) → w'.heap[k]? = some (.cells cs t fz)
theorem KeepA.ints {w w' : World} (h : KeepA w w') : KeepI w w' := fun k cs fz hk => h k cs _ fz (Ne.symm ai) hk
/-- append(x, y...): x owned, y only read -/
theorem run_append_acts (w : World) (ty : TypeId) (base : Nat) (ad : Option Addr) (cap : Nat) (xs : List (Ac × Value)) (L : List Ac) (hown : OwnA w base ad cap xs) (v2 : Value) (hm : RdAT w v2 L) (hb : base ≤ w.heap.size) (hn : xs.length + L.length ≤ 1099511627776) :
    ∃ ad' cap' ys w', (Builtin.append_ #[25, 25] ty #[.slice ad xs.length cap, v2]).run Try.prog w = .ok (.slice ad' (xs ++ ys).length cap') w' ∧ ys.map Prod.fst = L ∧ OwnA w' base ad' cap' (xs ++ ys) ∧ (∀ x ∈ ys, RdT w' x.2 x.1.args) ∧ KeepA w w' ∧ (∀ B X, B ≤ base → Below B X w → Below B X w') := by
  obtain ⟨i0, hi, hz0, hz1, hz2⟩ := info_parts infoAct
  obtain ⟨a, cap2, ys, rfl, hc, ey, hr, hx⟩ := hm
  have ly : ys.length = L.length := by rw [← ey]; simp
  unfold OwnA at hown
  by_cases h0 : L = []
  · subst h0
    have hy0 : ys = [] := List.length_eq_zero_iff.1 ly
    subst hy0
    have hz := run_append_zero (P := Try.prog) w 25 ty 34 i0 Try.underlying25 hi _ xs.length (by
      rcases hown.form with h | ⟨g, c, e, _, _, h⟩
      · exact .inl h
      · exact .inr ⟨g, c, e, h⟩) a cap2
    exact ⟨ad, cap, [], w, by simpa using hz, rfl, by simpa [OwnA] using hown, (fun x hx => by cases hx), (fun _ _ _ _ _ h => h), fun _ _ _ h => h⟩
  · rcases hx with h | ⟨g2, cur2, fz2, rfl, hg2, hT⟩
    · exact absurd h h0
    have hadd : ∀ j, (⟨g2, 0, none⟩ : Addr).add j = ⟨g2, j, none⟩ := fun j => by unfold Addr.add; split <;> simp_all
    obtain ⟨g, c2, w', a1, a2, a3, _, _⟩ := run_append_R (P := Try.prog) w 25 ty base 34 i0 (.agg #[.int .i64 0, .int .i64 0, .int .i64 0, .string ⟨#[]⟩, .slice none 0 0, .string ⟨#[]⟩]) 6 80 Try.underlying25 hi hz0 hz1 hz2 rfl (by decide) _ xs.length (asC xs) hown ⟨g2, 0, none⟩ L.length cap2 (asC ys) (by rw [asC_length, ly]) (fun j u hu => by
      rw [hadd, cell_of_row w g2 j cur2 _ fz2 hg2]
      exact hT j u hu) (asC_one ys (fun x hx => (hr x hx).one)) (by have : L.length ≠ 0 := fun e => h0 (List.length_eq_zero_iff.1 e); omega) (by unfold maxLen; omega) (by omega) hb _ rfl
    have hk : KeepA w w' := fun k cs t fz ht hk => by
      rw [a3.block k (Array.getElem?_eq_some_iff.1 hk).1 (fun e => by
        obtain ⟨cur, fz', hc⟩ := hown.typed k e.symm
        rw [hk] at hc
        simp only [Option.some.injEq, Obj.cells.injEq] at hc
        exact ht hc.2.1)]
      exact hk
    refine ⟨_, c2, ys, w', by rw [List.length_append, ly]; exact a1, ey, ?_, fun x hx => (hr x hx).keep hk.ints, hk, fun B X hB hBW => hBW.grown a3 (by omega) (fun k hk => by have := (hown.lt k hk).1; omega)⟩
    unfold OwnA
    rw [List.length_append, asC_app, ly]
    exact a2
theorem wpList_append_acts (w : World) {ops : Array Oper} {rest : List Oper} {o : Oper} {a : Act} {Q : Exit → Act → World → Prop} (hwd : Region.wanted o (yielded ops a.tmps) = true) (s x : Operand)
    (ho : o.op = .call { callee := .builtin .append, args := #[s, x], argTypes := #[25, 25] })
    (base : Nat) (ad : Option Addr) (cap : Nat) (xs : List (Ac × Value)) (L : List Ac) (n : Nat) (hs : a.eval s = .slice ad n cap) (hnl : n = xs.length) (hown : OwnA w base ad cap xs) (v2 : Value) (hx : a.eval x = v2) (hm : RdAT w v2 L) (hb : base ≤ w.heap.size) (hn : xs.length + L.length ≤ 1099511627776)
    (h : ∀ ad' cap' ys n' w', Hid (n' = (xs ++ ys).length) → ys.map Prod.fst = L → OwnA w' base ad' cap' (xs ++ ys) → (∀ x ∈ ys, RdT w' x.2 x.1.args) → KeepA w w' → (∀ B X, B ≤ base → Below B X w → Below B X w') → wpList Try.prog ops Q rest (a.put o.dst (.slice ad' n' cap')) w') : wpList Try.prog ops Q (o :: rest) a w := by
  refine wpList_step fun K hK => ?_
  rw [if_pos hwd]
  subst hnl
  obtain ⟨ad', cap', ys, w', hr, h1, h2, h3, h4, h5⟩ := run_append_acts w o.type base ad cap xs L hown v2 hm hb hn
  unfold Oper.wp execOp
  simp only [ho, resolve, invoke, builtin, Sem.run_bind, Sem.run_pure, Result.andThen_ok, List.map_toArray, List.map_cons, List.map_nil, hs, hx, hr]
  exact hK _ _ (h ad' cap' ys _ w' (Hid.mk' rfl) h1 h2 h3 h4 h5)

set_option maxHeartbeats 4000000 in
theorem CloneA_any (w : World) (v : Value) (L : List Ac) (hv : RdAT w v L) (hn : L.length ≤ 1099511627776) :
    Calls Try.prog 10 #[v] w fun e w' => ∃ ad cap xs n, e = .returned (.slice ad n cap) ∧ Hid (n = xs.length) ∧ xs.map Prod.fst = L ∧ OwnA w' w.heap.size ad cap xs ∧ (∀ x ∈ xs, RdT w' x.2 x.1.args) ∧ Below w.heap.size w w' := by
  have HB := Hid.mk' ((Below.refl w.heap.size w).alloc (Nat.le_refl _) (.cells #[] 34))
  have HV := Hid.mk' (hv.below HB.out)
  have HO : Hid (OwnA (w.alloc (.cells #[] 34)) w.heap.size (some ⟨w.heap.size, 0, none⟩) 0 []) := ⟨rfl, .inr ⟨w.heap.size, 0, #[], (0, 0), rfl, Nat.le_refl _, (MapKept.heap_alloc w _).1, .inl rfl, Nat.le_refl _, by decide, rfl, rfl⟩⟩
  obtain ⟨a, c, xs, rfl, hc, ex, hr, hx⟩ := hv
  cases a with
  | none =>
    have hl : L = [] := by
      rcases hx with h | ⟨b, off, fz, e, _⟩
      · exact h
      · cases e
    subst hl
    have hq := fun W : World => Lib.run_eql_slice_nil (P := Try.prog) W 25 34 none 0 c 0 0 Try.underlying25
    go_enter Try.func10, Try.ntmps10
    go_wp2
    go_ret
    exact ⟨none, 0, [], 0, rfl, rfl, rfl, OwnA.nil _ _, (by simp), Below.refl _ _⟩
  | some a =>
    have hq := fun W : World => Lib.run_eql_slice_nil (P := Try.prog) W 25 34 (some a) L.length c 0 0 Try.underlying25
    clear hr hx ex
    go_enter Try.func10, Try.ntmps10
    go_wp2_with (at_builtin; refine wpList_append_acts _ (by rfl) _ _ rfl w.heap.size _ _ [] L _ rfl rfl HO.out _ rfl HV.out (by simp) (by simpa using hn) ?_)
    intro ad cap ys n' w' hn' hl' ho hr2 hk hb
    have HO1 := Hid.mk' ho
    have HR1 := Hid.mk' hr2
    have HB1 := Hid.mk' (hb _ _ (Nat.le_refl _) HB.out)
    clear ho hb hr2 hk
    go_wp2
    go_ret
    exact ⟨ad, cap, ys, n', rfl, hn', hl', HO1.out, fun x hx => HR1.out x.1 x.2 hx, HB1.out⟩
end Go.Proofs.Ytneiiinheimglaa.B
