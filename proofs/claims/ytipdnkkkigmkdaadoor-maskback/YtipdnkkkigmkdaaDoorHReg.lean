/-
  Laws: what a region that draws its order keeps; a set of bytes read, stored and compared there. No condition but those that each names.
-/
import Derived.Test.YtipdnkkkigmkdaaDoorHCells
import Derived.Deep.RegionHeld3
namespace Go.Proofs.YtipdnkkkigmkdaaDoor.H
open Go.RowKit Go.Lib Go.Proofs.YtipdnkkkigmkdaaDoor Go.Proofs.YtipdnkkkigmkdaaDoor.W Go.Proofs.YtipdnkkkigmkdaaDoor.Q

/-- nothing old has become other -/
def Ext (w w' : World) : Prop := Below w.heap.size w w'
theorem Ext.refl (w : World) : Ext w w := Below.refl _ w
theorem Ext.trans {a b c : World} (h : Ext a b) (h2 : Ext b c) : Ext a c := Below.trans h (Below.mono h2 (Below.size h))
theorem Ext.size {a b : World} (h : Ext a b) : a.heap.size ≤ b.heap.size := Below.size h
theorem ext_of {w w' : World} (h : Below w.heap.size w w') : Ext w w' := h

theorem exec_loadM (ρ : Operand → Value) (x : Operand) (dst : Option Tmp) (t : TypeId) (pos : String) (af : Array Edge) (g : Option (Nat × Bool)) (w : World) (h : Lies w (ρ x) 4) :
    (execOp ρ { dst := dst, op := .load 25 x, type := t, pos := pos, after := af, guard := g }).run Tryd.prog w = .ok (.value (.agg (Q.rowAt w (ρ x) 4).toArray)) w :=
  exec_load 25 4 _ Tryd.underlying25 rfl sizeM ρ x dst t pos af g w h
end Go.Proofs.YtipdnkkkigmkdaaDoor.H
