/-
  A law, of no program: a store of a row of cells in a region that draws its order; no condition but those that it names.
-/
import Derived.Test.YtfipmggdpigbkaaKAlloc
namespace Go.Proofs.Ytfipmggdpigbkaa.K
open Go.RowKit Go.Proofs.Ytfipmggdpigbkaa Go.Proofs.Ytfipmggdpigbkaa.W Go.Proofs.Ytfipmggdpigbkaa.Q

section
variable {P : Program} {ops : Array Oper} {o : Oper} {a : Act} {w : World} {K : Act → World → Prop} {Q : Exit → Act → World → Prop} {E : Prop}
theorem step_store (ty : TypeId) (cs : List Value) (b : Nat) (hi : (P.info? ty).map (·.size) = some cs.length) (h1 : ∀ v ∈ cs, v.oneCell' = true) (hB : HasBox w b ty cs.length) (hgd : o.guard = none) (x y : Operand) (ho : o.op = .store ty x y) (hd : o.dst = none) (hx : a.eval x = .pointer (some ⟨b, 0, none⟩)) (hy : a.eval y = .agg cs.toArray)
    (h : ∀ w', Stored w w' b ty cs → K a w') : if Region.wanted o (yielded ops a.tmps) = true then Oper.wp P o a w K Q else E := by
  have hw : Region.wanted o (yielded ops a.tmps) = true := by simp [Region.wanted, hgd]
  rw [if_pos hw]
  obtain ⟨q, hq, hl⟩ := hB
  have s := Stored.cells hq 0 cs
  rw [lay_whole _ _ hl] at s
  have hK := h _ s
  unfold Oper.wp execOp
  simp only [ho, hx, hy, Instr.storeAt, Instr.sureAddr, Sem.run_bind, Sem.run_pure, Result.andThen_ok]
  rw [run_storeVar_mid w b 0 ty cs.toArray (by rw [List.size_toArray]; exact hq.there (by omega)) (by simpa using hi) (all_oneCell_toArray h1)]
  have e : a.put o.dst undef = a := by rw [hd]; rfl
  rw [← e] at hK
  exact hK
end

end Go.Proofs.Ytfipmggdpigbkaa.K
