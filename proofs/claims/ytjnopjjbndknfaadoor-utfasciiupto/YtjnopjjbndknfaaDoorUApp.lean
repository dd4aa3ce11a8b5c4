/-
  Contract of slices.Clone at []int over a slice that is read; append of a slice of ints, whatever its length, also where the operation is guarded; conditions: the bounds that each names.
-/
import Derived.Test.YtjnopjjbndknfaaDoorULives
namespace Go.Proofs.YtjnopjjbndknfaaDoor.U
open Go.RowKit Go.Lib Go.Proofs.YtjnopjjbndknfaaDoor

theorem Clone_any (w : World) (v : Value) (l : List Int) (h : RdI w v l) (hn : l.length ≤ 1000000000) :
    Calls Tryd.prog 26 #[v] w fun e w' => ∃ v', e = .returned v' ∧ OwnR w' w.heap.size 3 1 v' l.length (icells l) ∧ Below w.heap.size w w' := by
  obtain ⟨a, cap, rfl, hc, hr⟩ := h
  rcases hr with rfl | ⟨b, off, rfl, hT, hb⟩
  · cases a with
    | none =>
      refine (Tryd.slices_Clone_int_nil 0 cap w).mono ?_
      rintro e w' ⟨rfl, rfl⟩
      exact ⟨_, rfl, OwnR.nil _ _ _ _, Below.refl _ _⟩
    | some a =>
      refine (Tryd.slices_Clone_int_zero a cap w).mono ?_
      rintro e w' ⟨v', rfl, ho, _, hb⟩
      exact ⟨v', rfl, OwnR.of ho, hb⟩
  · refine (Tryd.slices_Clone_int b off l.length cap l w (Nat.le_refl _) (by omega) (fun j hj => by rw [hT j hj]; simp [List.getD, hj])).mono ?_
    rintro e w' ⟨v', rfl, ho, _, hb⟩
    rw [List.take_length] at ho
    exact ⟨v', rfl, OwnR.of ho, hb⟩

theorem run_append_zero {P : Program} (w : World) (t ty e : TypeId) (i : TypeInfo) (ht : P.underlying t = some (.slice e)) (hi : P.info? e = some i) (v : Value) (n : Nat)
    (hv : (v = .slice none 0 0 ∧ n = 0) ∨ ∃ g cap, v = .slice (some ⟨g, 0, none⟩) n cap ∧ n ≤ cap) (a : Option Addr) (c : Nat) :
    (Builtin.append_ #[t, t] ty #[v, .slice a 0 c]).run P w = .ok v w := by
  rcases hv with ⟨rfl, rfl⟩ | ⟨g, cap, rfl, h⟩
  · cases a with
    | none => simp [Builtin.append_, run_underlying ht, sizeOf, typeInfo, hi, Builtin.lenOf, Builtin.firstCells]
    | some a => simp [Builtin.append_, run_underlying ht, sizeOf, typeInfo, hi, Builtin.lenOf, Builtin.firstCells, loadCells, loadCellsFrom]
  · cases a with
    | none => simp [Builtin.append_, run_underlying ht, sizeOf, typeInfo, hi, Builtin.lenOf, Builtin.firstCells, h, storeCells]
    | some a => simp [Builtin.append_, run_underlying ht, sizeOf, typeInfo, hi, Builtin.lenOf, Builtin.firstCells, loadCells, loadCellsFrom, h, storeCells]

/-- append(x, y...): x owned, y only read -/
theorem run_append_ints (w : World) (ty : TypeId) (base : Nat) (v : Value) (l m : List Int) (hown : OwnR w base 3 1 v l.length (icells l)) (v2 : Value) (hm : RdI w v2 m) (hb : base ≤ w.heap.size) (hn : l.length + m.length ≤ 1000000000) :
    ∃ v' w', (Builtin.append_ #[38, 38] ty #[v, v2]).run Tryd.prog w = .ok v' w' ∧ OwnR w' base 3 1 v' (l ++ m).length (icells (l ++ m)) ∧ w.grownBy w' v.ownBlock := by
  obtain ⟨i0, hi, hz0, hz1, hz2⟩ := info_parts infoInt
  obtain ⟨a, cap, rfl, hc, hr⟩ := hm
  by_cases h0 : m = []
  · subst h0
    have hz := run_append_zero (P := Tryd.prog) w 38 ty 3 i0 Tryd.underlying38 hi v l.length (by
      rcases hown.form with h | ⟨g, c, e, _, _, h⟩
      · exact .inl h
      · exact .inr ⟨g, c, e, h⟩) a cap
    exact ⟨v, w, hz, by simpa using hown, World.grownBy.refl _ _⟩
  · rcases hr with h | ⟨b, off, rfl, hT, hbl⟩
    · exact absurd h h0
    have hadd : ∀ j, (⟨b, off, none⟩ : Addr).add j = ⟨b, off + j, none⟩ := fun j => by unfold Addr.add; split <;> simp_all
    have hnews : ∀ j u, (icells m)[j]? = some u → w.cell? ((⟨b, off, none⟩ : Addr).add j) = some u := by
      intro j u hu
      have hj : j < m.length := by have := (List.getElem?_eq_some_iff.1 hu).1; rwa [icells_length] at this
      rw [hadd, hT j hj]
      simpa [icells, hj] using hu
    obtain ⟨g, c2, w', a1, a2, a3, _, _⟩ := run_append_R (P := Tryd.prog) w 38 ty base 3 i0 (.int .i64 0) 1 8 Tryd.underlying38 hi hz0 hz1 hz2 rfl (by decide) v l.length (icells l) hown ⟨b, off, none⟩ m.length cap (icells m) (by simp [icells]) hnews (icells_one m) (by have : m.length ≠ 0 := fun e => h0 (List.length_eq_zero_iff.1 e); omega) (by unfold maxLen; omega) (by omega) hb _ rfl
    refine ⟨_, w', a1, ?_, a3⟩
    have e1 : (l ++ m).length = l.length + m.length := by simp
    have e2 : icells (l ++ m) = icells l ++ icells m := by simp [icells]
    rw [e1, e2]
    exact a2

theorem wpList_append_ints (w : World) {ops : Array Oper} {rest : List Oper} {o : Oper} {a : Act} {Q : Exit → Act → World → Prop} (hwd : Region.wanted o (yielded ops a.tmps) = true) (s x : Operand)
    (ho : o.op = .call { callee := .builtin .append, args := #[s, x], argTypes := #[38, 38] })
    (base : Nat) (v : Value) (l m : List Int) (hs : a.eval s = v) (hown : OwnR w base 3 1 v l.length (icells l)) (v2 : Value) (hx : a.eval x = v2) (hm : RdI w v2 m) (hb : base ≤ w.heap.size) (hn : l.length + m.length ≤ 1000000000)
    (h : ∀ v' w', OwnR w' base 3 1 v' (l ++ m).length (icells (l ++ m)) → w.grownBy w' v.ownBlock → wpList Tryd.prog ops Q rest (a.put o.dst v') w') : wpList Tryd.prog ops Q (o :: rest) a w := by
  refine wpList_step fun K hK => ?_
  rw [if_pos hwd]
  obtain ⟨v', w', hr, h2, h3⟩ := run_append_ints w o.type base v l m hown v2 hm hb hn
  unfold Oper.wp execOp
  simp only [ho, resolve, invoke, builtin, Sem.run_bind, Sem.run_pure, Result.andThen_ok, List.map_toArray, List.map_cons, List.map_nil, hs, hx, hr]
  exact hK _ _ (h v' w' h2 h3)

/-- what a row that grew leaves of another that is read: of blocks other than the row's own -/
theorem RdI.grown {w w' : World} {v : Value} {l : List Int} {row : Option Nat} (h : RdI w v l) (hg : w.grownBy w' row) (B : Nat) (hb : ∀ b off n c, v = .slice (some ⟨b, off, none⟩) n c → b < B) (hr : ∀ k, row = some k → B ≤ k) : RdI w' v l := by
  obtain ⟨a, cap, e, hc, hr2⟩ := h
  refine ⟨a, cap, e, hc, ?_⟩
  rcases hr2 with h | ⟨b, off, e2, hT, hbl⟩
  · exact .inl h
  · have hbB := hb b off _ _ (by rw [e, e2])
    have hblk : w'.heap[b]? = w.heap[b]? := hg.block b hbl (fun e => by have := hr b e.symm; omega)
    refine .inr ⟨b, off, e2, fun j hj => ?_, by have := hg.size; omega⟩
    have := hT j hj
    unfold World.cell? at this ⊢
    rw [hblk]; exact this
end Go.Proofs.YtjnopjjbndknfaaDoor.U
