/-
  What the rows of the door's seat want besides: a world in which the listed tables lie; no condition.
-/
import Derived.Test.YtipdnkkkigmkdaaDoorCards
import Derived.Test.YtipdnkkkigmkdaaDoorTie
import Derived.Test.YtipdnkkkigmkdaaDoorHRow
import Derived.Deep.DeepHandedRow
import Derived.Deep.DeepLaidRun
import Derived.Lib.LaidTab
import Derived.PinnedBridge
import Derived.MakeChecks
import Derived.Shelf.Vars
namespace Go.Proofs.YtipdnkkkigmkdaaDoor.H
open Go.ChangeShapes Go.WideShapes Go.ChangeAt Go.RowKit Go.Lib Go.Proofs.YtipdnkkkigmkdaaDoor

/-- the two tables laid into a world -/
def withTables (w : World) : World :=
  { w with heap := (w.heap.modify 1 (fun o => match o with
      | .cells _ t frozen => .cells ((Pinned.utf8FirstZ.map fun (n : Nat) => Value.int .u8 (n : Int)).toArray) t frozen
      | o => o)).modify 2 (fun o => match o with
      | .cells _ t frozen => .cells (#[.int .u8 128, .int .u8 191, .int .u8 160, .int .u8 191, .int .u8 128, .int .u8 159, .int .u8 144, .int .u8 191, .int .u8 128, .int .u8 143] ++ Array.replicate 22 (.int .u8 0)) t frozen
      | o => o) }
end Go.Proofs.YtipdnkkkigmkdaaDoor.H
