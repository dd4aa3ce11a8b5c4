/-
  Laws: a Neg is the same as itself, and so are the states of one end. No condition.
-/
import Derived.Test.YtfehlfjondelnabQTake
import Derived.ChangeKeysEq
namespace Go.Proofs.Ytfehlfjondelnab.Q
open Go.RowKit Go.Proofs.Ytfehlfjondelnab

section
variable {P : Program}
theorem eqItems_refl (d : Nat) {e : TypeId} {k : IntKind} (he : P.underlying e = some (.int k)) (w : World) (xs : Array Value) : ∀ is : List Nat, (∀ i ∈ is, ∃ k' v, xs[i]? = some (.int k' v)) → (Op.eqItems (d + 1) e 1 xs xs is).run P w = .ok true w
  | [], _ => by simp [Op.eqItems]
  | i :: is, h => by
    obtain ⟨k', v, hv⟩ := h i (by simp)
    have hp : (part e xs (i * 1)).run P w = .ok (.int k' v) w := by
      simp [part, isAgg, run_underlying he, hv]
    have ih := eqItems_refl d he w xs is (fun j hj => h j (by simp [hj]))
    simp only [Op.eqItems, Sem.run_bind, hp, Result.andThen_ok, run_equalIn_int w d e k' k v v he, beq_self_eq_true, Bool.not_true, Bool.false_eq_true, if_false]
    exact ih
theorem equalIn_row (d n : Nat) {t e : TypeId} {k : IntKind} (ht : P.underlying t = some (.array n e)) (he : P.underlying e = some (.int k)) (hc : (P.info? e).map (·.size) = some 1) (w : World) (xs : Array Value) (h : ∀ i, i < n → ∃ k' v, xs[i]? = some (.int k' v)) :
    (Op.equalIn (d + 2) t (.agg xs) (.agg xs)).run P w = .ok true w := by
  cases hi : P.info? e with
  | none => rw [hi] at hc; simp at hc
  | some i =>
    have hs : P.cellsOf e = 1 := by unfold Program.cellsOf; rw [hc]; rfl
    rw [run_equalIn_array w (d + 1) xs xs ht hi, hs]
    exact eqItems_refl d he w xs _ fun i hi => h i (List.mem_range.1 hi)
theorem part_row {t : TypeId} {d : TypeDesc} (ht : P.underlying t = some d) (hd : d.isRow = true) {n : Nat} (hi : (P.info? t).map (·.size) = some n) (w : World) (xs : Array Value) (o : Nat) : (part t xs o).run P w = .ok (.agg (xs.extract o (o + n))) w := by
  cases hq : P.info? t with
  | none => simp [hq] at hi
  | some i =>
    have hs : i.size = n := by simpa [hq] using hi
    have hagg : (isAgg t).run P w = .ok true w := by
      unfold isAgg
      rw [Sem.run_bind, run_underlying ht w]
      cases d <;> simp_all
    simp [part, Sem.run_bind, hagg, sizeOf, typeInfo, hq, hs]
theorem eqFields_refl (d : Nat) (w : World) (xs : Array Value) : ∀ fs : List Field, (∀ f ∈ fs, ∃ v, (part f.type xs f.offset).run P w = .ok v w ∧ (Op.equalIn d f.type v v).run P w = .ok true w) → (Op.eqFields d xs xs fs).run P w = .ok true w
  | [], _ => by simp [Op.eqFields]
  | f :: fs, h => by
    have ih := eqFields_refl d w xs fs (fun g hg => h g (by simp [hg]))
    obtain ⟨v, h1, h2⟩ := h f (by simp)
    unfold Op.eqFields
    split
    · simp only [Sem.run_bind, h1, h2, Result.andThen_ok, Bool.not_true, Bool.false_eq_true, if_false]
      exact ih
    · exact ih
end

theorem fields32 : (Try.prog.fieldsOf 31).toList.map (fun f => (f.type, f.offset)) = [(27, 0), (27, 256), (29, 512), (29, 516)] := by kernel_rfl
theorem under32 : Try.prog.underlying 31 = some (.struct (Try.prog.fieldsOf 31)) := by kernel_rfl
theorem held32 : Try.prog.stoodInHeld 31 = false := by kernel_rfl
theorem guard32 : Try.prog.eqGuardType Try.prog.depth 31 = false := by kernel_rfl
theorem guard28 : Try.prog.eqGuardType Try.prog.depth 27 = false := by kernel_rfl
theorem one5 : (Try.prog.info? 5).map (·.size) = some 1 := by kernel_rfl
theorem one29 : (Try.prog.info? 28).map (·.size) = some 1 := by kernel_rfl
theorem rows28 : (Try.prog.info? 27).map (·.size) = some 256 := by kernel_rfl

theorem NegL.int {l : List Value} (h : NegL l) {j : Nat} (hj : j < 520) : ∃ k v, l[j]? = some (.int k v) := by
  by_cases h1 : j < 512
  · exact ⟨_, _, (h.byte h1).1⟩
  · exact ⟨_, _, (h.word (by omega) hj).1⟩
theorem ext_get {l : List Value} (h : NegL l) (o n : Nat) (hn : o + n ≤ 520) : ∀ i, i < n → ∃ k v, (l.toArray.extract o (o + n))[i]? = some (.int k v) := fun i hi => by
  obtain ⟨k, v, e⟩ := h.int (j := o + i) (by omega)
  have hl := h.len
  refine ⟨k, v, ?_⟩
  rw [Array.getElem?_extract, if_pos (by simp; omega)]
  simpa using e

theorem equal32 (l : List Value) (hl : NegL l) (w : World) : (Op.equalIn 10000 31 (.agg l.toArray) (.agg l.toArray)).run Try.prog w = .ok true w := by
  rw [run_equalIn_struct w 9999 31 _ _ under32 held32]
  refine eqFields_refl 9999 w _ _ fun f hf => ?_
  have hm : (f.type, f.offset) ∈ [(27, 0), (27, 256), (29, 512), (29, 516)] := by
    rw [← fields32]
    exact List.mem_map.2 ⟨f, hf, rfl⟩
  simp only [List.mem_cons, Prod.mk.injEq, List.not_mem_nil, or_false] at hm
  rcases hm with ⟨e1, e2⟩ | ⟨e1, e2⟩ | ⟨e1, e2⟩ | ⟨e1, e2⟩ <;> rw [e1, e2]
  · exact ⟨_, part_row Try.underlying27 rfl rows28 w _ _, equalIn_row 9997 256 Try.underlying27 Try.underlying5 one5 w _ (ext_get hl 0 256 (by omega))⟩
  · exact ⟨_, part_row Try.underlying27 rfl rows28 w _ _, equalIn_row 9997 256 Try.underlying27 Try.underlying5 one5 w _ (ext_get hl 256 256 (by omega))⟩
  · exact ⟨_, part_row Try.underlying29 rfl size30 w _ _, equalIn_row 9997 4 Try.underlying29 Try.underlying28 one29 w _ (ext_get hl 512 4 (by omega))⟩
  · exact ⟨_, part_row Try.underlying29 rfl size30 w _ _, equalIn_row 9997 4 Try.underlying29 Try.underlying28 one29 w _ (ext_get hl 516 4 (by omega))⟩

/-- two Negs that are the same -/
def SameN (v u : Value) : Prop := ∃ l, NegL l ∧ v = .agg l.toArray ∧ u = .agg l.toArray
theorem NegL.same {l : List Value} (h : NegL l) : SameN (.agg l.toArray) (.agg l.toArray) := ⟨l, h, rfl, rfl⟩
/-- two rows of states that are the same -/
def SameH (v u : Value) : Prop := ∃ xs : Array Value, (∀ i, i < 256 → ∃ k v, xs[i]? = some (.int k v)) ∧ v = .agg xs ∧ u = .agg xs

theorem exec_eql32 (ρ : Operand → Value) (x y : Operand) (t2 : TypeId) (dst : Option Tmp) (t : TypeId) (pos : String) (af : Array Edge) (g : Option (Nat × Bool)) (w : World) (h : SameN (ρ x) (ρ y)) :
    (execOp ρ { dst := dst, op := .binOp .eql 31 x y t2, type := t, pos := pos, after := af, guard := g }).run Try.prog w = .ok (.value (.bool true)) w := by
  obtain ⟨l, hl, e1, e2⟩ := h
  unfold execOp
  simp only [e1, e2, Sem.run_bind, run_eqGuard_agg w .eql _ x y _ _ guard32, Result.andThen_ok, run_eql_struct, equal32 l hl, Sem.run_pure]
theorem exec_neq32 (ρ : Operand → Value) (x y : Operand) (t2 : TypeId) (dst : Option Tmp) (t : TypeId) (pos : String) (af : Array Edge) (g : Option (Nat × Bool)) (w : World) (h : SameN (ρ x) (ρ y)) :
    (execOp ρ { dst := dst, op := .binOp .neq 31 x y t2, type := t, pos := pos, after := af, guard := g }).run Try.prog w = .ok (.value (.bool false)) w := by
  obtain ⟨l, hl, e1, e2⟩ := h
  unfold execOp
  simp only [e1, e2, Sem.run_bind, run_eqGuard_agg w .neq _ x y _ _ guard32, Result.andThen_ok, run_neq_struct, equal32 l hl, Sem.run_pure, Bool.not_true]
theorem exec_neq28 (ρ : Operand → Value) (x y : Operand) (t2 : TypeId) (dst : Option Tmp) (t : TypeId) (pos : String) (af : Array Edge) (g : Option (Nat × Bool)) (w : World) (h : SameH (ρ x) (ρ y)) :
    (execOp ρ { dst := dst, op := .binOp .neq 27 x y t2, type := t, pos := pos, after := af, guard := g }).run Try.prog w = .ok (.value (.bool false)) w := by
  obtain ⟨xs, hx, e1, e2⟩ := h
  unfold execOp
  simp only [e1, e2, Sem.run_bind, run_eqGuard_agg w .neq _ x y _ _ guard28, Result.andThen_ok, run_neq_struct, equalIn_row 9998 256 Try.underlying27 Try.underlying5 one5 w xs hx, Sem.run_pure, Bool.not_true]
end Go.Proofs.Ytfehlfjondelnab.Q
