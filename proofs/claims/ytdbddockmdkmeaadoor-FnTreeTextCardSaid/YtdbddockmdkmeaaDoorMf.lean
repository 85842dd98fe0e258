/- The powers of ten that the library's conversion of numbers reads lie as the text lays them: out of a row's condition. -/
import Derived.Test.YtdbddockmdkmeaaDoorRows
import Derived.Test.YtdbddockmdkmeaaDoorProg
import Derived.Lib.ItoaNum
import Derived.Lib.LaidTab
import Derived.Stop.LaidErr
import Derived.Test.YtdbddockmdkmeaaDoorSz
namespace Go.Proofs.YtdbddockmdkmeaaDoor
open Go.RowKit

theorem gPow : Tryd.prog.globalNamed "internal/strconv.uint64pow10" = some 5 := by kernel_rfl
theorem tPow : (Tryd.prog.globals[5]?).map (·.type) = some 161 := by kernel_rfl
theorem cPow : Tryd.prog.cellsOf 161 = 20 := by kernel_rfl
theorem cPow1 : Tryd.prog.cellsOf 144 = 1 := by kernel_rfl
set_option maxRecDepth 100000 in
theorem pow_of_laid {W : World} {rest : List (String × DataW Unit)} (h : laidMet Tryd.prog (("math/bits.deBruijn32tab", Rows.laid_math_bits_deBruijn32tab) :: ("math/bits.deBruijn64tab", Rows.laid_math_bits_deBruijn64tab) :: ("internal/strconv.uint64pow10", Rows.laid_internal_strconv_uint64pow10) :: rest) W) :
    Lib.TabIs Tryd.prog W "internal/strconv.uint64pow10" .u64 Lib.pow10Tab := by
  have e : (Rows.laid_internal_strconv_uint64pow10 : DataW Unit) = Lib.tabData .u64 Lib.pow10Tab := by kernel_rfl
  rw [e] at h
  exact Lib.tabIs_of_head gPow tPow Tryd.underlying161 Tryd.underlying144 cPow1 cPow (laidMet.tail (laidMet.tail h))

end Go.Proofs.YtdbddockmdkmeaaDoor
