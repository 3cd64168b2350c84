/-
  WHAT THE ROWS' LISTED TABLE GIVES THE WALKS: strconv's powers of ten.
-/
import Derived.Test.YtangbokcdgganaaGreatDoorMb
import Derived.Test.YtangbokcdgganaaGreatDoorRows
import Derived.LaidMore
import Derived.LaidLaws
import Derived.LaidHandle
import Derived.Lib.LaidTab
import Derived.Stop.LaidErr
namespace Go.Proofs.YtangbokcdgganaaGreatDoor
open Go.RowKit Go.ChangeShapes Go.WideShapes

namespace Rl
theorem tb_of {W : World} (h : laidMet Tryz.prog [("math/bits.deBruijn32tab", Rows.laid_math_bits_deBruijn32tab), ("math/bits.deBruijn64tab", Rows.laid_math_bits_deBruijn64tab), ("internal/strconv.uint64pow10", Rows.laid_internal_strconv_uint64pow10), ("unicode/utf8.acceptRanges", Rows.laid_unicode_utf8_acceptRanges), ("unicode/utf8.first", Rows.laid_unicode_utf8_first)] W) : Tb W := by
  have h2 := laidMet.tail (laidMet.tail h)
  exact Lib.tabIs_of_head (k := .u64) (zs := Lib.pow10Tab) tb_g (by kernel_rfl) Tryz.underlying175 Tryz.underlying146 (by kernel_rfl) (by kernel_rfl) h2
end Rl
end Go.Proofs.YtangbokcdgganaaGreatDoor
