/-
  Contract of slc.settle; conditions: both threes are of one function, his level is at most 3.
-/
import Derived.Test.YtfipmggdpigbkaaKTri
import Derived.ChangeKeysEq
namespace Go.Proofs.Ytfipmggdpigbkaa.K
open Go.RowKit Go.Proofs.Ytfipmggdpigbkaa Go.Proofs.Ytfipmggdpigbkaa.W Go.Proofs.Ytfipmggdpigbkaa.Q

/-- what we hold behind what he holds, the three bytes that are said, and whether they are -/
def st3 (f o y L c : UInt8) (sure : Bool) : (UInt8 × UInt8) × (UInt8 × UInt8 × UInt8) × Bool :=
  if L = o ∧ c = y then ((o, y), (0, 0, 0), false)
  else if sure then (if L = 3 then ((o, y), (0, 0, 0), false) else ((L, c), (0, 0, 0), false))
  else if L = 0 then ((L, c), (f, 128 + L, c), true)
  else if L = 3 then ((o, y), (f, o, y), true)
  else if o = 1 then (if L = 1 then ((0, 0), (f, 0, 0), true) else ((o, y), (f, o, y), true))
  else ((L, c), (f, 128 + L, c), true)
def outT (r : (UInt8 × UInt8) × (UInt8 × UInt8 × UInt8) × Bool) : List UInt8 := if r.2.2 then [r.2.1.1, r.2.1.2.1, r.2.1.2.2] else []

theorem st3_say (f o y g c : UInt8) : st3 f o y (g % 4) c (decide (128 ≤ g)) = ((( say o y g c).1, (say o y g c).2.1), (st3 f o y (g % 4) c (decide (128 ≤ g))).2) ∧ outT (st3 f o y (g % 4) c (decide (128 ≤ g))) = outB f (say o y g c).2.2 := by
  unfold st3 say outT
  simp only [decide_eq_true_eq]
  by_cases h1 : g % 4 = o ∧ c = y
  · simp only [h1, and_self, if_true]; (refine ⟨?_, ?_⟩ <;> first | rfl | trivial | simp [outB])
  · simp only [h1, if_false]
    by_cases h2 : 128 ≤ g
    · simp only [h2, if_true]
      by_cases h3 : g % 4 = 3
      · simp only [h3, if_true]; (refine ⟨?_, ?_⟩ <;> first | rfl | trivial | simp [outB])
      · simp only [h3, if_false]; (refine ⟨?_, ?_⟩ <;> first | rfl | trivial | simp [outB])
    · simp only [h2, if_false]
      by_cases h0 : g % 4 = 0
      · simp only [h0, if_true]; (refine ⟨?_, ?_⟩ <;> first | rfl | trivial | simp [outB])
      · simp only [h0, if_false]
        by_cases h3 : g % 4 = 3
        · simp only [h3, if_true]; (refine ⟨?_, ?_⟩ <;> first | rfl | trivial | simp [outB])
        · simp only [h3, if_false]
          by_cases ho : o = 1
          · simp only [ho, if_true]
            by_cases h4 : g % 4 = 1
            · simp only [h4, if_true]; (refine ⟨?_, ?_⟩ <;> first | rfl | trivial | simp [outB])
            · simp only [h4, if_false]; (refine ⟨?_, ?_⟩ <;> first | rfl | trivial | simp [outB])
          · simp only [ho, if_false]; (refine ⟨?_, ?_⟩ <;> first | rfl | trivial | simp [outB])

theorem guardT : Try.prog.eqGuardType Try.prog.depth 41 = false := by kernel_rfl
theorem oneB : (Try.prog.info? 5).map (·.size) = some 1 := by kernel_rfl
theorem equalT (f g c f' g' c' : UInt8) (w : World) : (Op.equalIn 10000 41 (T3 f g c) (T3 f' g' c')).run Try.prog w = .ok (decide (f = f' ∧ g = g' ∧ c = c')) w := by
  obtain ⟨i, hi, h0, h1, h2⟩ := info_parts infoByte
  have hs : Try.prog.cellsOf 5 = 1 := by unfold Program.cellsOf; rw [oneB]; rfl
  unfold T3
  rw [run_equalIn_array w 9999 _ _ Try.underlying41 hi, hs]
  simp [List.range, List.range.loop, Op.eqItems, part, isAgg, run_underlying Try.underlying5]
  have e : ∀ a b : UInt8, (Op.equalIn 9999 5 (.int .u8 (a.toNat : Int)) (.int .u8 (b.toNat : Int))).run Try.prog w = .ok (decide (a = b)) w := fun a b => by
    rw [run_equalIn_int w 9998 5 .u8 .u8 _ _ Try.underlying5]
    congr 1
    rw [Bool.eq_iff_iff, beq_iff_eq, decide_eq_true_eq, ← UInt8.toNat_inj]
    omega
  simp only [e, Result.andThen_ok]
  by_cases h1 : f = f' <;> by_cases h2 : g = g' <;> by_cases h3 : c = c' <;> simp [h1, h2, h3]

section
variable {ops : Array Oper} {rest : List Oper} {op : Oper} {a : Act} {w : World} {Q : Exit → Act → World → Prop}
/-- two threes are held against each other -/
theorem wpList_eqlT (f g c f' g' c' : UInt8) (b : Bool) (hb : decide (f = f' ∧ g = g' ∧ c = c') = b) (t2 : TypeId) (hgd : op.guard = none) (x y : Operand) (ho : op.op = .binOp .eql 41 x y t2) (hx : a.eval x = T3 f g c) (hy : a.eval y = T3 f' g' c')
    (h : wpList Try.prog ops Q rest (a.put op.dst (.bool b)) w) : wpList Try.prog ops Q (op :: rest) a w :=
  wpList_plain hgd fun _ hK => by
    have e1 : (T3 f g c) = .agg #[.int .u8 (f.toNat : Int), .int .u8 (g.toNat : Int), .int .u8 (c.toNat : Int)] := rfl
    have e2 : (T3 f' g' c') = .agg #[.int .u8 (f'.toNat : Int), .int .u8 (g'.toNat : Int), .int .u8 (c'.toNat : Int)] := rfl
    have he := equalT f g c f' g' c' w
    rw [hb, e1, e2] at he
    unfold Oper.wp execOp
    simp only [ho, hx, hy, e1, e2, Sem.run_bind, run_eqGuard_agg w .eql _ x y _ _ guardT, Result.andThen_ok, run_eql_struct, he, Sem.run_pure]
    exact hK _ _ h
end

def RS (r : (UInt8 × UInt8) × (UInt8 × UInt8 × UInt8) × Bool) (f : UInt8) : Value := .tuple #[T3 f r.1.1 r.1.2, T3 r.2.1.1 r.2.1.2.1 r.2.1.2.2, .bool r.2.2]

theorem le3 (L : UInt8) (h : L.toNat ≤ 3) : L = 0 ∨ L = 1 ∨ L = 2 ∨ L = 3 := by
  have h0 : L.toNat = 0 ∨ L.toNat = 1 ∨ L.toNat = 2 ∨ L.toNat = 3 := by omega
  rcases h0 with h | h | h | h
  · exact .inl (UInt8.toNat_inj.1 h)
  · exact .inr (.inl (UInt8.toNat_inj.1 h))
  · exact .inr (.inr (.inl (UInt8.toNat_inj.1 h)))
  · exact .inr (.inr (.inr (UInt8.toNat_inj.1 h)))

end Go.Proofs.Ytfipmggdpigbkaa.K
