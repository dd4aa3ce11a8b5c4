/-
  Laws: Keys are the same as themselves. No condition but 38 bytes.
-/
import Derived.Test.YtfipmggdpigbkaaKCells
import Derived.ChangeKeysEq
namespace Go.Proofs.Ytfipmggdpigbkaa.K
open Go.RowKit Go.Proofs.Ytfipmggdpigbkaa Go.Proofs.Ytfipmggdpigbkaa.W Go.Proofs.Ytfipmggdpigbkaa.Q

section
variable {P : Program}
theorem eqItems_refl (d : Nat) {e : TypeId} {k : IntKind} (he : P.underlying e = some (.int k)) (w : World) (xs : Array Value) : ∀ is : List Nat, (∀ i ∈ is, ∃ k' v, xs[i]? = some (.int k' v)) → (Op.eqItems (d + 1) e 1 xs xs is).run P w = .ok true w
  | [], _ => by simp [Op.eqItems]
  | i :: is, h => by
    obtain ⟨k', v, hv⟩ := h i (by simp)
    have hp : (part e xs (i * 1)).run P w = .ok (.int k' v) w := by
      simp [part, isAgg, run_underlying he, hv]
    have ih := eqItems_refl d he w xs is (fun j hj => h j (by simp [hj]))
    simp only [Op.eqItems, Sem.run_bind, hp, Result.andThen_ok, run_equalIn_int w d e k' k v v he, beq_self_eq_true, Bool.not_true, Bool.false_eq_true, if_false]
    exact ih
theorem equalIn_row (d n : Nat) {t e : TypeId} {k : IntKind} (ht : P.underlying t = some (.array n e)) (he : P.underlying e = some (.int k)) (hc : (P.info? e).map (·.size) = some 1) (w : World) (xs : Array Value) (h : ∀ i, i < n → ∃ k' v, xs[i]? = some (.int k' v)) :
    (Op.equalIn (d + 2) t (.agg xs) (.agg xs)).run P w = .ok true w := by
  cases hi : P.info? e with
  | none => rw [hi] at hc; simp at hc
  | some i =>
    have hs : P.cellsOf e = 1 := by unfold Program.cellsOf; rw [hc]; rfl
    rw [run_equalIn_array w (d + 1) xs xs ht hi, hs]
    exact eqItems_refl d he w xs _ fun i hi => h i (List.mem_range.1 hi)
theorem part_row {t : TypeId} {d : TypeDesc} (ht : P.underlying t = some d) (hd : d.isRow = true) {n : Nat} (hi : (P.info? t).map (·.size) = some n) (w : World) (xs : Array Value) (o : Nat) : (part t xs o).run P w = .ok (.agg (xs.extract o (o + n))) w := by
  cases hq : P.info? t with
  | none => simp [hq] at hi
  | some i =>
    have hs : i.size = n := by simpa [hq] using hi
    have hagg : (isAgg t).run P w = .ok true w := by
      unfold isAgg
      rw [Sem.run_bind, run_underlying ht w]
      cases d <;> simp_all
    simp [part, Sem.run_bind, hagg, sizeOf, typeInfo, hq, hs]
theorem eqFields_refl (d : Nat) (w : World) (xs : Array Value) : ∀ fs : List Field, (∀ f ∈ fs, ∃ v, (part f.type xs f.offset).run P w = .ok v w ∧ (Op.equalIn d f.type v v).run P w = .ok true w) → (Op.eqFields d xs xs fs).run P w = .ok true w
  | [], _ => by simp [Op.eqFields]
  | f :: fs, h => by
    have ih := eqFields_refl d w xs fs (fun g hg => h g (by simp [hg]))
    obtain ⟨v, h1, h2⟩ := h f (by simp)
    unfold Op.eqFields
    split
    · simp only [Sem.run_bind, h1, h2, Result.andThen_ok, Bool.not_true, Bool.false_eq_true, if_false]
      exact ih
    · exact ih
end


theorem fieldsK : (Try.prog.fieldsOf 24).toList.map (fun f => (f.type, f.offset)) = [(22, 0), (22, 19)] := by kernel_rfl
theorem underK : Try.prog.underlying 24 = some (.struct (Try.prog.fieldsOf 24)) := by kernel_rfl
theorem heldK : Try.prog.stoodInHeld 24 = false := by kernel_rfl
theorem guardK : Try.prog.eqGuardType Try.prog.depth 24 = false := by kernel_rfl
theorem oneU8 : (Try.prog.info? 5).map (·.size) = some 1 := by kernel_rfl
theorem rowsL : (Try.prog.info? 22).map (·.size) = some 19 := by kernel_rfl
theorem ext_getK {k : List UInt8} (hk : k.length = 38) (o n : Nat) (hn : o + n ≤ 38) : ∀ i, i < n → ∃ kd v, ((bcells k).toArray.extract o (o + n))[i]? = some (.int kd v) := fun i hi => by
  have hl : (bcells k).length = 38 := by rw [bcells_length, hk]
  refine ⟨.u8, ((k.getD (o + i) 0).toNat : Int), ?_⟩
  rw [Array.getElem?_extract, if_pos (by simp; omega)]
  have h := bcells_get k (o + i) (by omega)
  rw [← h]
  simp
theorem equalK (k : List UInt8) (hk : k.length = 38) (w : World) : (Op.equalIn 10000 24 (KV k) (KV k)).run Try.prog w = .ok true w := by
  unfold KV
  rw [run_equalIn_struct w 9999 24 _ _ underK heldK]
  refine eqFields_refl 9999 w _ _ fun f hf => ?_
  have hm : (f.type, f.offset) ∈ [(22, 0), (22, 19)] := by
    rw [← fieldsK]
    exact List.mem_map.2 ⟨f, hf, rfl⟩
  simp only [List.mem_cons, Prod.mk.injEq, List.not_mem_nil, or_false] at hm
  rcases hm with ⟨e1, e2⟩ | ⟨e1, e2⟩ <;> rw [e1, e2]
  · exact ⟨_, part_row Try.underlying22 rfl rowsL w _ _, equalIn_row 9997 19 Try.underlying22 Try.underlying5 oneU8 w _ (ext_getK hk 0 19 (by omega))⟩
  · exact ⟨_, part_row Try.underlying22 rfl rowsL w _ _, equalIn_row 9997 19 Try.underlying22 Try.underlying5 oneU8 w _ (ext_getK hk 19 19 (by omega))⟩

/-- two Keys that are the same -/
def SameK (v u : Value) : Prop := ∃ k : List UInt8, k.length = 38 ∧ v = .agg (bcells k).toArray ∧ u = .agg (bcells k).toArray
theorem sameK {k : List UInt8} (hk : k.length = 38) : SameK (.agg (bcells k).toArray) (.agg (bcells k).toArray) := ⟨k, hk, rfl, rfl⟩
theorem exec_eqlK (ρ : Operand → Value) (x y : Operand) (t2 : TypeId) (dst : Option Tmp) (t : TypeId) (pos : String) (af : Array Edge) (g : Option (Nat × Bool)) (w : World) (h : SameK (ρ x) (ρ y)) :
    (execOp ρ { dst := dst, op := .binOp .eql 24 x y t2, type := t, pos := pos, after := af, guard := g }).run Try.prog w = .ok (.value (.bool true)) w := by
  obtain ⟨k, hk, e1, e2⟩ := h
  have he := equalK k hk w
  unfold KV at he
  unfold execOp
  simp only [e1, e2, Sem.run_bind, run_eqGuard_agg w .eql _ x y _ _ guardK, Result.andThen_ok, run_eql_struct, he, Sem.run_pure]
end Go.Proofs.Ytfipmggdpigbkaa.K
