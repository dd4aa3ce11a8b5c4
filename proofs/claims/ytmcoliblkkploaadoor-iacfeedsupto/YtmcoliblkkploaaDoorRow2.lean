/-
  How arguments are opened: a wire, a token, a slice of tokens, read as data; how their bulk bounds them; no condition.
-/
import Derived.Test.YtmcoliblkkploaaDoorRow
import Derived.Test.YtmcoliblkkploaaDoorMrg
import Derived.Lib.SmallJoins
import Derived.Deep.Slices
namespace Go.Proofs.YtmcoliblkkploaaDoor
open Go.ChangeShapes Go.WideShapes Go.ChangeAt Go.RowKit

def Wr.dat {H : Type} (x : Wr) : DataW H := .agg [.lit (.int .i64 x.mode), .lit (.int .i64 x.cmd), .lit (.int .i64 x.opt), .lit (.string x.buf), .lit (.bool x.over)]
def Tk.dat {H : Type} (t : Tk) : DataW H := .agg [.lit (.int .i64 t.kind), .lit (.int .i64 t.cmd), .lit (.int .i64 t.opt), .lit (.string t.data)]

theorem cells_int : Tryd.prog.cellsOf 3 = 1 := by kernel_rfl
theorem cells_string : Tryd.prog.cellsOf 9 = 1 := by kernel_rfl
theorem cells_bool : Tryd.prog.cellsOf 4 = 1 := by kernel_rfl
theorem cells_wire : Tryd.prog.cellsOf 23 = 5 := by kernel_rfl
theorem cells_tok : Tryd.prog.cellsOf 34 = 4 := by kernel_rfl

theorem list5 {α : Type} {l : List α} (h : l.length = 5) : ∃ a b c d e, l = [a, b, c, d, e] := by
  match l, h with
  | [a, b, c, d, e], _ => exact ⟨a, b, c, d, e, rfl⟩
theorem list4 {α : Type} {l : List α} (h : l.length = 4) : ∃ a b c d, l = [a, b, c, d] := by
  match l, h with
  | [a, b, c, d], _ => exact ⟨a, b, c, d, rfl⟩

section
variable {H : Type} {enc : TypeId × Value → H} {w : World} {base : Nat} {spare : Nat → Bool} {held : Bool}

theorem trod5 {P : Program} {t : TypeId} {f0 f1 f2 f3 f4 : Field} {fuel : Nat} {cs : List Value} {x : DataW H × List MemPlace} (ht : P.underlying t = some (.struct #[f0, f1, f2, f3, f4])) (h : DataW.trod enc P w base spare held fuel t cs = some x) :
    ∃ y0 y1 y2 y3 y4 n, x = (.agg [y0.1, y1.1, y2.1, y3.1, y4.1], y0.2 ++ (y1.2 ++ (y2.2 ++ (y3.2 ++ y4.2)))) ∧ cs.length = P.cellsOf t ∧
      DataW.trod enc P w base spare held n f0.type ((cs.drop f0.offset).take (P.cellsOf f0.type)) = some y0 ∧ DataW.trod enc P w base spare held n f1.type ((cs.drop f1.offset).take (P.cellsOf f1.type)) = some y1 ∧
      DataW.trod enc P w base spare held n f2.type ((cs.drop f2.offset).take (P.cellsOf f2.type)) = some y2 ∧ DataW.trod enc P w base spare held n f3.type ((cs.drop f3.offset).take (P.cellsOf f3.type)) = some y3 ∧
      DataW.trod enc P w base spare held n f4.type ((cs.drop f4.offset).take (P.cellsOf f4.type)) = some y4 := by
  obtain ⟨xs, n, _, rfl, hl, hlen, hf⟩ := DataW.trod_struct ht h
  obtain ⟨y0, y1, y2, y3, y4, rfl⟩ := list5 hlen
  exact ⟨y0, y1, y2, y3, y4, n, by simp, hl, by simpa using hf 0 f0 rfl, by simpa using hf 1 f1 rfl, by simpa using hf 2 f2 rfl, by simpa using hf 3 f3 rfl, by simpa using hf 4 f4 rfl⟩

theorem trod_wire {fuel : Nat} {cs : List Value} {y : DataW H × List MemPlace} (h : DataW.trod enc Tryd.prog w base spare held fuel 23 cs = some y) :
    ∃ x : Wr, cs = [.int .i64 x.mode, .int .i64 x.cmd, .int .i64 x.opt, .string ⟨x.buf.toArray⟩, .bool x.over] ∧ y = (x.dat, []) := by
  obtain ⟨y0, y1, y2, y3, y4, n, rfl, hl, f0, f1, f2, f3, f4⟩ := trod5 Tryd.underlying23 h
  rw [cells_wire] at hl
  obtain ⟨c0, c1, c2, c3, c4, rfl⟩ := list5 hl
  obtain ⟨a0, e0, rfl, _⟩ := DataW.trod_int Tryd.underlying3 f0
  obtain ⟨a1, e1, rfl, _⟩ := DataW.trod_int Tryd.underlying3 f1
  obtain ⟨a2, e2, rfl, _⟩ := DataW.trod_int Tryd.underlying3 f2
  obtain ⟨a3, e3, rfl, _⟩ := DataW.trod_string Tryd.underlying9 f3
  obtain ⟨a4, e4, rfl⟩ := DataW.trod_bool Tryd.underlying4 f4
  rw [cells_int] at e0 e1 e2
  rw [cells_string] at e3
  rw [cells_bool] at e4
  simp at e0 e1 e2 e3 e4
  subst e0; subst e1; subst e2; subst e3; subst e4
  exact ⟨⟨a0, a1, a2, a3.data.toList, a4⟩, rfl, rfl⟩

theorem trod_tok {fuel : Nat} {cs : List Value} {y : DataW H × List MemPlace} (h : DataW.trod enc Tryd.prog w base spare held fuel 34 cs = some y) :
    ∃ t : Tk, cs = tcells t ∧ y = (t.dat, []) := by
  obtain ⟨y0, y1, y2, y3, n, rfl, hl, f0, f1, f2, f3⟩ := Joins.trod_struct4 Tryd.underlying34 h
  rw [cells_tok] at hl
  obtain ⟨c0, c1, c2, c3, rfl⟩ := list4 hl
  obtain ⟨a0, e0, rfl, _⟩ := DataW.trod_int Tryd.underlying3 f0
  obtain ⟨a1, e1, rfl, _⟩ := DataW.trod_int Tryd.underlying3 f1
  obtain ⟨a2, e2, rfl, _⟩ := DataW.trod_int Tryd.underlying3 f2
  obtain ⟨a3, e3, rfl, _⟩ := DataW.trod_string Tryd.underlying9 f3
  rw [cells_int] at e0 e1 e2
  rw [cells_string] at e3
  simp at e0 e1 e2 e3
  subst e0; subst e1; subst e2; subst e3
  exact ⟨⟨a0, a1, a2, a3.data.toList⟩, rfl, rfl⟩

theorem open_wire {r : Reach} {b0 : Nat} {v : Value} {d : DataW H} {p : List MemPlace} (hv : Value.okWide Tryd.prog w r b0 23 v) (h : DataW.Trod enc Tryd.prog w base spare held 23 v d p) : ∃ x : Wr, v = x.val ∧ d = x.dat ∧ p = [] := by
  obtain ⟨cs, rfl, _⟩ := okWide_struct Tryd.underlying23 hv
  obtain ⟨fuel, hf⟩ := h
  obtain ⟨x, e, hx⟩ := trod_wire hf
  simp only [Prod.mk.injEq] at hx
  refine ⟨x, ?_, hx.1, hx.2⟩
  simp only [Value.cells] at e
  unfold Wr.val
  congr 1
  exact Array.toList_inj.1 e
theorem open_tok {r : Reach} {b0 : Nat} {v : Value} {d : DataW H} {p : List MemPlace} (hv : Value.okWide Tryd.prog w r b0 34 v) (h : DataW.Trod enc Tryd.prog w base spare held 34 v d p) : ∃ t : Tk, v = t.val ∧ d = t.dat ∧ p = [] := by
  obtain ⟨cs, rfl, _⟩ := okWide_struct Tryd.underlying34 hv
  obtain ⟨fuel, hf⟩ := h
  obtain ⟨x, e, hx⟩ := trod_tok hf
  simp only [Prod.mk.injEq] at hx
  refine ⟨x, ?_, hx.1, hx.2⟩
  simp only [Value.cells] at e
  unfold Tk.val
  congr 1
  exact Array.toList_inj.1 e
end

theorem bulk_wire {H : Type} (x : Wr) : x.buf.length ≤ Rows.uptoBulk (Wr.dat (H := H) x) := by
  simp only [Wr.dat, Rows.uptoBulk, Rows.uptoBulkAll]
  omega
theorem bulk_tok {H : Type} (t : Tk) : t.data.length + 1 ≤ Rows.uptoBulk (Tk.dat (H := H) t) := by
  simp only [Tk.dat, Rows.uptoBulk, Rows.uptoBulkAll]
  omega
end Go.Proofs.YtmcoliblkkploaaDoor
