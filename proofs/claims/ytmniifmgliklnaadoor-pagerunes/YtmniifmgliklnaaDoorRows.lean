/-
  NARROWER THAN 'FOR EVERY INPUT', by the rows' own cells (each row's printed sentence says how): PageSays: laid · PageReads: laid · PageBack: laid · PageRunes: laid · PageSame: laid.
  DERIVED. THE GIVEN ROWS OF THIS SEAT. 5 by the template 'for every input the law returns true; each argument reads behind the call as it read before'; 0 by the template 'total and deterministic' (their statements: YtmniifmgliklnaaDoorTotals.lean).
  GIVEN WITH THE SEED: the statements are not yours to turn. If you find one false, say at which input.
  Laid BY PROGRAM, IN A SANDBOX (cutbox-rows.mjs): the forced cells as the released guide's own fill.sh prints them over the translation 496a86159b27ef98… (all of the seat's roots in one cut). By AI agents, Wed Nov 11 2026. No macro, syntax, notation, axiom, sorry.
-/
import Derived.Test.YtmniifmgliklnaaDoorChecked
import GoSem.Claim
import GoSem.ClaimJoined
import GoSem.ClaimMapViews
import Derived.JoinedTies
import Derived.KernelRfl
namespace Go.Proofs.YtmniifmgliklnaaDoor
/- THE CELL 'sum', in the pinned program and in every row, IS THE sha256 OF THE DUMP (.gsa) THAT YtmniifmgliklnaaDoorProg.lean LOADS. Nothing in Lean hashes anything: it is a label: what it is worth is what the hold of that sum in a sandbox is worth. -/
noncomputable def Tryd.pinned : Pinned := { name := "ytmniifmgliklnaadoor", sum := "496a86159b27ef98c6c0855a6f584a4a4ba8eada8a533d2297f3e18e2ee12337", checked := Tryd.checked }
namespace Rows
def none {H : Type} : Left H := { results := [], args := [] }

/- WHAT THE LISTED PACKAGE-LEVEL VARIABLES READ AS WHEN THE CALL BEGINS. Each datum BY PROGRAM (the guide's laid-datum.mjs) off the statement by which the dump's own 'gosem.cut.vars' lays the variable. In a bare row this is a premise. The card (YtmniifmgliklnaaDoorCards.lean) ties it to the program's text. -/
def laid_farwriter_page_lineSigns {H : Type} : DataW H := .agg [.lit (.int .i64 160), .lit (.int .i64 9670), .lit (.int .i64 9618), .lit (.int .i64 9225), .lit (.int .i64 9228), .lit (.int .i64 9229), .lit (.int .i64 9226), .lit (.int .i64 176), .lit (.int .i64 177), .lit (.int .i64 9252), .lit (.int .i64 9227), .lit (.int .i64 9496), .lit (.int .i64 9488), .lit (.int .i64 9484), .lit (.int .i64 9492), .lit (.int .i64 9532), .lit (.int .i64 9146), .lit (.int .i64 9147), .lit (.int .i64 9472), .lit (.int .i64 9148), .lit (.int .i64 9149), .lit (.int .i64 9500), .lit (.int .i64 9508), .lit (.int .i64 9524), .lit (.int .i64 9516), .lit (.int .i64 9474), .lit (.int .i64 8804), .lit (.int .i64 8805), .lit (.int .i64 960), .lit (.int .i64 8800), .lit (.int .i64 163), .lit (.int .i64 183)]

/-- 'farlaw.PageSays': WHATEVER THE INPUT: true; the input reads as it did. -/
def pageSaysSpec : ChangeSpec := { name := "pageSays", fn := fun _ => fun
  | [d1, d2, d3] => { results := [.lit (.bool true)], args := [d1, d2, d3] }
  | _ => none }
def pageSaysRow : OpenClaim := { program := "ytmniifmgliklnaadoor", sum := "496a86159b27ef98c6c0855a6f584a4a4ba8eada8a533d2297f3e18e2ee12337", func := "farwriter/farlaw.PageSays", spec := "pageSays", named := ["farwriter/page.lineSigns"], apart := false, laid := [("farwriter/page.lineSigns", laid_farwriter_page_lineSigns)] }
def PageSaysSaid : Prop := pageSaysRow.holds Tryd.pinned (OpenSpec.ofChange pageSaysSpec)

/-- ITS FALSE NEIGHBOUR: 'it returns false'. Refute it at one input. -/
def pageSaysWrong : ChangeSpec := { name := "pageSays", fn := fun _ => fun
  | [d1, d2, d3] => { results := [.lit (.bool false)], args := [d1, d2, d3] }
  | _ => none }
def PageSaysWrongFalsely : Prop := pageSaysRow.holds Tryd.pinned (OpenSpec.ofChange pageSaysWrong)

/-- 'farlaw.PageReads': WHATEVER THE INPUT: true; the input reads as it did. -/
def pageReadsSpec : ChangeSpec := { name := "pageReads", fn := fun _ => fun
  | [d1, d2, d3] => { results := [.lit (.bool true)], args := [d1, d2, d3] }
  | _ => none }
def pageReadsRow : OpenClaim := { program := "ytmniifmgliklnaadoor", sum := "496a86159b27ef98c6c0855a6f584a4a4ba8eada8a533d2297f3e18e2ee12337", func := "farwriter/farlaw.PageReads", spec := "pageReads", named := ["farwriter/page.lineSigns"], apart := false, laid := [("farwriter/page.lineSigns", laid_farwriter_page_lineSigns)] }
def PageReadsSaid : Prop := pageReadsRow.holds Tryd.pinned (OpenSpec.ofChange pageReadsSpec)

/-- ITS FALSE NEIGHBOUR: 'it returns false'. Refute it at one input. -/
def pageReadsWrong : ChangeSpec := { name := "pageReads", fn := fun _ => fun
  | [d1, d2, d3] => { results := [.lit (.bool false)], args := [d1, d2, d3] }
  | _ => none }
def PageReadsWrongFalsely : Prop := pageReadsRow.holds Tryd.pinned (OpenSpec.ofChange pageReadsWrong)

/-- 'farkeep.PageBack': WHATEVER THE INPUT: true; the input reads as it did. -/
def pageBackSpec : ChangeSpec := { name := "pageBack", fn := fun _ => fun
  | [d1, d2] => { results := [.lit (.bool true)], args := [d1, d2] }
  | _ => none }
def pageBackRow : OpenClaim := { program := "ytmniifmgliklnaadoor", sum := "496a86159b27ef98c6c0855a6f584a4a4ba8eada8a533d2297f3e18e2ee12337", func := "farwriter/farkeep.PageBack", spec := "pageBack", named := ["farwriter/page.lineSigns"], apart := false, laid := [("farwriter/page.lineSigns", laid_farwriter_page_lineSigns)] }
def PageBackSaid : Prop := pageBackRow.holds Tryd.pinned (OpenSpec.ofChange pageBackSpec)

/-- ITS FALSE NEIGHBOUR: 'it returns false'. Refute it at one input. -/
def pageBackWrong : ChangeSpec := { name := "pageBack", fn := fun _ => fun
  | [d1, d2] => { results := [.lit (.bool false)], args := [d1, d2] }
  | _ => none }
def PageBackWrongFalsely : Prop := pageBackRow.holds Tryd.pinned (OpenSpec.ofChange pageBackWrong)

/-- 'farkeep.PageRunes': WHATEVER THE INPUT: true; the input reads as it did. -/
def pageRunesSpec : ChangeSpec := { name := "pageRunes", fn := fun _ => fun
  | [d1, d2] => { results := [.lit (.bool true)], args := [d1, d2] }
  | _ => none }
def pageRunesRow : OpenClaim := { program := "ytmniifmgliklnaadoor", sum := "496a86159b27ef98c6c0855a6f584a4a4ba8eada8a533d2297f3e18e2ee12337", func := "farwriter/farkeep.PageRunes", spec := "pageRunes", named := ["farwriter/page.lineSigns"], apart := false, laid := [("farwriter/page.lineSigns", laid_farwriter_page_lineSigns)] }
def PageRunesSaid : Prop := pageRunesRow.holds Tryd.pinned (OpenSpec.ofChange pageRunesSpec)

/-- ITS FALSE NEIGHBOUR: 'it returns false'. Refute it at one input. -/
def pageRunesWrong : ChangeSpec := { name := "pageRunes", fn := fun _ => fun
  | [d1, d2] => { results := [.lit (.bool false)], args := [d1, d2] }
  | _ => none }
def PageRunesWrongFalsely : Prop := pageRunesRow.holds Tryd.pinned (OpenSpec.ofChange pageRunesWrong)

/-- 'farkeep.PageSame': WHATEVER THE INPUT: true; the input reads as it did. -/
def pageSameSpec : ChangeSpec := { name := "pageSame", fn := fun _ => fun
  | [d] => { results := [.lit (.bool true)], args := [d] }
  | _ => none }
def pageSameRow : OpenClaim := { program := "ytmniifmgliklnaadoor", sum := "496a86159b27ef98c6c0855a6f584a4a4ba8eada8a533d2297f3e18e2ee12337", func := "farwriter/farkeep.PageSame", spec := "pageSame", named := ["farwriter/page.lineSigns"], apart := false, laid := [("farwriter/page.lineSigns", laid_farwriter_page_lineSigns)] }
def PageSameSaid : Prop := pageSameRow.holds Tryd.pinned (OpenSpec.ofChange pageSameSpec)

/-- ITS FALSE NEIGHBOUR: 'it returns false'. Refute it at one input. -/
def pageSameWrong : ChangeSpec := { name := "pageSame", fn := fun _ => fun
  | [d] => { results := [.lit (.bool false)], args := [d] }
  | _ => none }
def PageSameWrongFalsely : Prop := pageSameRow.holds Tryd.pinned (OpenSpec.ofChange pageSameWrong)

/- THE SECOND FORM. 'bulk': how many values and letters a reading holds, each counted each time it is reached (what is shared counts as often as it is met; a slice's spare places count too). A statement '..UptoSaid' is the law's where the arguments, and the package variables that the reading takes, are together of bulk at most 1048576: NARROWER than '..Said'. Prove '..Said' where nothing that the law and all that it calls make is longer than what came in: it says more and counts as full. Else prove '..UptoSaid'. A law counts once. -/
mutual
def uptoBulk {H : Type} : DataW H → Nat
  | .lit (.string bytes) => bytes.length + 1
  | .lit _ => 1
  | .nil => 1
  | .ptr d => uptoBulk d + 1
  | .slice elems spare => uptoBulkAll elems + uptoBulkAll spare + 1
  | .agg parts => uptoBulkAll parts + 1
  | .iface _ d => uptoBulk d + 1
  | .map entries => uptoBulkEntries entries + 1
  | .held _ => 1
def uptoBulkAll {H : Type} : List (DataW H) → Nat
  | [] => 0
  | d :: r => uptoBulk d + uptoBulkAll r
def uptoBulkEntries {H : Type} : List (Lit × DataW H) → Nat
  | [] => 0
  | x :: r => uptoBulkEntry x + uptoBulkEntries r
def uptoBulkEntry {H : Type} : Lit × DataW H → Nat
  | (.string bytes, d) => bytes.length + uptoBulk d + 1
  | (_, d) => uptoBulk d + 1
 end
def uptoSmall : (H : Type) → List (DataW H) → Bool := fun _ ds => decide (uptoBulkAll ds ≤ 1048576)
def OpenSpec.upto (s : _root_.Go.ChangeSpec) : _root_.Go.OpenSpec := { _root_.Go.OpenSpec.ofChange s with cond := some uptoSmall }

/-- 'farlaw.PageSays', WHERE WHAT IT READS IS OF BULK AT MOST 1048576: true; the input reads as it did. -/
def pageSaysUptoRow : OpenClaim := { program := "ytmniifmgliklnaadoor", sum := "496a86159b27ef98c6c0855a6f584a4a4ba8eada8a533d2297f3e18e2ee12337", func := "farwriter/farlaw.PageSays", spec := "pageSays", named := ["farwriter/page.lineSigns"], apart := false, laid := [("farwriter/page.lineSigns", laid_farwriter_page_lineSigns)], narrowed := true }
def PageSaysUptoSaid : Prop := pageSaysUptoRow.holds Tryd.pinned (OpenSpec.upto pageSaysSpec)

/-- 'farlaw.PageReads', WHERE WHAT IT READS IS OF BULK AT MOST 1048576: true; the input reads as it did. -/
def pageReadsUptoRow : OpenClaim := { program := "ytmniifmgliklnaadoor", sum := "496a86159b27ef98c6c0855a6f584a4a4ba8eada8a533d2297f3e18e2ee12337", func := "farwriter/farlaw.PageReads", spec := "pageReads", named := ["farwriter/page.lineSigns"], apart := false, laid := [("farwriter/page.lineSigns", laid_farwriter_page_lineSigns)], narrowed := true }
def PageReadsUptoSaid : Prop := pageReadsUptoRow.holds Tryd.pinned (OpenSpec.upto pageReadsSpec)

/-- 'farkeep.PageBack', WHERE WHAT IT READS IS OF BULK AT MOST 1048576: true; the input reads as it did. -/
def pageBackUptoRow : OpenClaim := { program := "ytmniifmgliklnaadoor", sum := "496a86159b27ef98c6c0855a6f584a4a4ba8eada8a533d2297f3e18e2ee12337", func := "farwriter/farkeep.PageBack", spec := "pageBack", named := ["farwriter/page.lineSigns"], apart := false, laid := [("farwriter/page.lineSigns", laid_farwriter_page_lineSigns)], narrowed := true }
def PageBackUptoSaid : Prop := pageBackUptoRow.holds Tryd.pinned (OpenSpec.upto pageBackSpec)

/-- 'farkeep.PageRunes', WHERE WHAT IT READS IS OF BULK AT MOST 1048576: true; the input reads as it did. -/
def pageRunesUptoRow : OpenClaim := { program := "ytmniifmgliklnaadoor", sum := "496a86159b27ef98c6c0855a6f584a4a4ba8eada8a533d2297f3e18e2ee12337", func := "farwriter/farkeep.PageRunes", spec := "pageRunes", named := ["farwriter/page.lineSigns"], apart := false, laid := [("farwriter/page.lineSigns", laid_farwriter_page_lineSigns)], narrowed := true }
def PageRunesUptoSaid : Prop := pageRunesUptoRow.holds Tryd.pinned (OpenSpec.upto pageRunesSpec)

/-- 'farkeep.PageSame', WHERE WHAT IT READS IS OF BULK AT MOST 1048576: true; the input reads as it did. -/
def pageSameUptoRow : OpenClaim := { program := "ytmniifmgliklnaadoor", sum := "496a86159b27ef98c6c0855a6f584a4a4ba8eada8a533d2297f3e18e2ee12337", func := "farwriter/farkeep.PageSame", spec := "pageSame", named := ["farwriter/page.lineSigns"], apart := false, laid := [("farwriter/page.lineSigns", laid_farwriter_page_lineSigns)], narrowed := true }
def PageSameUptoSaid : Prop := pageSameUptoRow.holds Tryd.pinned (OpenSpec.upto pageSameSpec)

end Rows
end Go.Proofs.YtmniifmgliklnaaDoor
