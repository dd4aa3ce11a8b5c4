/-
  What a row's list of laid tables gives: that internal/strconv.uint64pow10 and the tables of unicode/utf8 hold what their initialisers lay; no condition.
-/
import Derived.Test.YtneiiinheimglaaDoorBRowD
import Derived.Test.YtneiiinheimglaaDoorBWr
import Derived.Test.YtneiiinheimglaaDoorUShelf
import Derived.Test.YtneiiinheimglaaDoorUFull
import Derived.Lib.LaidU8T
namespace Go.Proofs.YtneiiinheimglaaDoor.B
open Go.ChangeShapes Go.WideShapes Go.ChangeAt Go.RowKit Go.Lib Go.Proofs.YtneiiinheimglaaDoor Go.Proofs.YtneiiinheimglaaDoor.Z

theorem pow_eq : (Rows.laid_internal_strconv_uint64pow10 : DataW Unit) = Lib.tabData .u64 Lib.pow10Tab := by kernel_rfl
/-- what the rows' lists give -/
theorem tab_of {W : World} {x y : String × DataW Unit} {r : List (String × DataW Unit)} (h : laidMet Tryd.prog (x :: y :: ("internal/strconv.uint64pow10", Rows.laid_internal_strconv_uint64pow10) :: r) W) : Tab W := by
  have h2 := h.tail.tail
  rw [pow_eq] at h2
  exact Lib.tabIs_of_head (g := 3) (t := 127) (e := 110) (n := 20) (by kernel_rfl) (by kernel_rfl) Tryd.underlying127 Tryd.underlying110 (by kernel_rfl) (by kernel_rfl) h2
theorem types : U8Types Tryd.prog Tryd.lays197_ren := { t5 := Tryd.underlying5, t119 := Tryd.underlying86, t138 := Tryd.underlying88, t139 := Tryd.underlying89 }
theorem extra : U8Extra Tryd.prog Tryd.lays197_ren := { n3 := by kernel_rfl, n4 := by kernel_rfl, y3 := by kernel_rfl, y4 := by kernel_rfl, c5 := by kernel_rfl, c119 := by kernel_rfl, c138 := by kernel_rfl }

theorem accept_eq : (Rows.laid_unicode_utf8_acceptRanges : DataW Unit) = acceptData := by kernel_rfl

theorem utabs_of {W : World} {l : List (String × DataW Unit)} (h : laidMet Tryd.prog l W) (h1 : ("unicode/utf8.first", (Rows.laid_unicode_utf8_first : DataW Unit)) ∈ l) (h2 : ("unicode/utf8.acceptRanges", (Rows.laid_unicode_utf8_acceptRanges : DataW Unit)) ∈ l) : U.Tabs W := by
  have h3 := laidMet.reads h (n := "unicode/utf8.first") (d := Rows.laid_unicode_utf8_first) h1
  have h4 := laidMet.reads h (n := "unicode/utf8.acceptRanges") (d := Rows.laid_unicode_utf8_acceptRanges) h2
  rw [show Rows.laid_unicode_utf8_first = firstData from Pinned.utf8First_eq] at h3
  rw [accept_eq] at h4
  exact utf8Tabs_of_readsT types extra h3 h4
end Go.Proofs.YtneiiinheimglaaDoor.B
