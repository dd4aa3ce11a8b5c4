/-
  Laws: a set of bytes is the same as itself. No condition but four words.
-/
import Derived.Test.YtipdnkkkigmkdaaDoorHCells
import Derived.ChangeKeysEq
namespace Go.Proofs.YtipdnkkkigmkdaaDoor.H
open Go.RowKit Go.Proofs.YtipdnkkkigmkdaaDoor Go.Proofs.YtipdnkkkigmkdaaDoor.W Go.Proofs.YtipdnkkkigmkdaaDoor.Q

section
variable {P : Program}
theorem eqItems_refl (d : Nat) {e : TypeId} {k : IntKind} (he : P.underlying e = some (.int k)) (w : World) (xs : Array Value) : ∀ is : List Nat, (∀ i ∈ is, ∃ k' v, xs[i]? = some (.int k' v)) → (Op.eqItems (d + 1) e 1 xs xs is).run P w = .ok true w
  | [], _ => by simp [Op.eqItems]
  | i :: is, h => by
    obtain ⟨k', v, hv⟩ := h i (by simp)
    have hp : (part e xs (i * 1)).run P w = .ok (.int k' v) w := by
      simp [part, isAgg, run_underlying he, hv]
    have ih := eqItems_refl d he w xs is (fun j hj => h j (by simp [hj]))
    simp only [Op.eqItems, Sem.run_bind, hp, Result.andThen_ok, run_equalIn_int w d e k' k v v he, beq_self_eq_true, Bool.not_true, Bool.false_eq_true, if_false]
    exact ih
theorem equalIn_row (d n : Nat) {t e : TypeId} {k : IntKind} (ht : P.underlying t = some (.array n e)) (he : P.underlying e = some (.int k)) (hc : (P.info? e).map (·.size) = some 1) (w : World) (xs : Array Value) (h : ∀ i, i < n → ∃ k' v, xs[i]? = some (.int k' v)) :
    (Op.equalIn (d + 2) t (.agg xs) (.agg xs)).run P w = .ok true w := by
  cases hi : P.info? e with
  | none => rw [hi] at hc; simp at hc
  | some i =>
    have hs : P.cellsOf e = 1 := by unfold Program.cellsOf; rw [hc]; rfl
    rw [run_equalIn_array w (d + 1) xs xs ht hi, hs]
    exact eqItems_refl d he w xs _ fun i hi => h i (List.mem_range.1 hi)
theorem part_row {t : TypeId} {d : TypeDesc} (ht : P.underlying t = some d) (hd : d.isRow = true) {n : Nat} (hi : (P.info? t).map (·.size) = some n) (w : World) (xs : Array Value) (o : Nat) : (part t xs o).run P w = .ok (.agg (xs.extract o (o + n))) w := by
  cases hq : P.info? t with
  | none => simp [hq] at hi
  | some i =>
    have hs : i.size = n := by simpa [hq] using hi
    have hagg : (isAgg t).run P w = .ok true w := by
      unfold isAgg
      rw [Sem.run_bind, run_underlying ht w]
      cases d <;> simp_all
    simp [part, Sem.run_bind, hagg, sizeOf, typeInfo, hq, hs]
theorem eqFields_refl (d : Nat) (w : World) (xs : Array Value) : ∀ fs : List Field, (∀ f ∈ fs, ∃ v, (part f.type xs f.offset).run P w = .ok v w ∧ (Op.equalIn d f.type v v).run P w = .ok true w) → (Op.eqFields d xs xs fs).run P w = .ok true w
  | [], _ => by simp [Op.eqFields]
  | f :: fs, h => by
    have ih := eqFields_refl d w xs fs (fun g hg => h g (by simp [hg]))
    obtain ⟨v, h1, h2⟩ := h f (by simp)
    unfold Op.eqFields
    split
    · simp only [Sem.run_bind, h1, h2, Result.andThen_ok, Bool.not_true, Bool.false_eq_true, if_false]
      exact ih
    · exact ih
end


theorem fieldsM : (Tryd.prog.fieldsOf 25).toList.map (fun f => (f.type, f.offset)) = [(23, 0)] := by kernel_rfl
theorem underM : Tryd.prog.underlying 25 = some (.struct (Tryd.prog.fieldsOf 25)) := by kernel_rfl
theorem heldM : Tryd.prog.stoodInHeld 25 = false := by kernel_rfl
theorem guardM : Tryd.prog.eqGuardType Tryd.prog.depth 25 = false := by kernel_rfl
theorem oneU64 : (Tryd.prog.info? 22).map (·.size) = some 1 := by kernel_rfl
theorem rowsM : (Tryd.prog.info? 23).map (·.size) = some 4 := by kernel_rfl
theorem ext_getM {M : List Nat} (hM : M.length = 4) : ∀ i, i < 4 → ∃ kd v, ((ucells M).toArray.extract 0 (0 + 4))[i]? = some (.int kd v) := fun i hi => by
  have hl : (ucells M).length = 4 := by rw [ucells_length, hM]
  refine ⟨.u64, ((M.getD i 0 : Nat) : Int), ?_⟩
  rw [Array.getElem?_extract, if_pos (by simp; omega)]
  have h := ucells_get M i (by omega)
  rw [← h]
  simp
theorem equalM (M : List Nat) (hM : M.length = 4) (w : World) : (Op.equalIn 10000 25 (MV M) (MV M)).run Tryd.prog w = .ok true w := by
  unfold MV
  rw [run_equalIn_struct w 9999 25 _ _ underM heldM]
  refine eqFields_refl 9999 w _ _ fun f hf => ?_
  have hm : (f.type, f.offset) ∈ [(23, 0)] := by
    rw [← fieldsM]
    exact List.mem_map.2 ⟨f, hf, rfl⟩
  simp only [List.mem_cons, Prod.mk.injEq, List.not_mem_nil, or_false] at hm
  obtain ⟨e1, e2⟩ := hm
  rw [e1, e2]
  exact ⟨_, part_row Tryd.underlying23 rfl rowsM w _ _, equalIn_row 9997 4 Tryd.underlying23 Tryd.underlying22 oneU64 w _ (ext_getM hM)⟩

/-- two sets that are the same -/
def SameM (v u : Value) : Prop := ∃ M : List Nat, M.length = 4 ∧ v = .agg (ucells M).toArray ∧ u = .agg (ucells M).toArray
theorem sameM {M : List Nat} (hM : M.length = 4) : SameM (.agg (ucells M).toArray) (.agg (ucells M).toArray) := ⟨M, hM, rfl, rfl⟩
theorem exec_eqlM (ρ : Operand → Value) (x y : Operand) (t2 : TypeId) (dst : Option Tmp) (t : TypeId) (pos : String) (af : Array Edge) (g : Option (Nat × Bool)) (w : World) (h : SameM (ρ x) (ρ y)) :
    (execOp ρ { dst := dst, op := .binOp .eql 25 x y t2, type := t, pos := pos, after := af, guard := g }).run Tryd.prog w = .ok (.value (.bool true)) w := by
  obtain ⟨M, hM, e1, e2⟩ := h
  have he := equalM M hM w
  unfold MV at he
  unfold execOp
  simp only [e1, e2, Sem.run_bind, run_eqGuard_agg w .eql _ x y _ _ guardM, Result.andThen_ok, run_eql_struct, he, Sem.run_pure]
theorem exec_neqM (ρ : Operand → Value) (x y : Operand) (t2 : TypeId) (dst : Option Tmp) (t : TypeId) (pos : String) (af : Array Edge) (g : Option (Nat × Bool)) (w : World) (h : SameM (ρ x) (ρ y)) :
    (execOp ρ { dst := dst, op := .binOp .neq 25 x y t2, type := t, pos := pos, after := af, guard := g }).run Tryd.prog w = .ok (.value (.bool false)) w := by
  obtain ⟨M, hM, e1, e2⟩ := h
  have he := equalM M hM w
  unfold MV at he
  unfold execOp
  simp only [e1, e2, Sem.run_bind, run_eqGuard_agg w .neq _ x y _ _ guardM, Result.andThen_ok, run_neq_struct, he, Sem.run_pure, Bool.not_true]
end Go.Proofs.YtipdnkkkigmkdaaDoor.H
