/- Joined: Mf Hx. -/
import Derived.Test.YtdbddockmdkmeaaDoorRows
import Derived.Test.YtdbddockmdkmeaaDoorProg
import Derived.Lib.ItoaNum
import Derived.Lib.LaidTab
import Derived.Stop.LaidErr
import Derived.Test.YtdbddockmdkmeaaDoorU01
import Derived.Test.YtdbddockmdkmeaaDoorU05
/- The powers of ten that the library's conversion of numbers reads lie as the text lays them: out of a row's condition. -/
namespace Go.Proofs.YtdbddockmdkmeaaDoor
open Go.RowKit

theorem gPow : Tryd.prog.globalNamed "internal/strconv.uint64pow10" = some 5 := by kernel_rfl
theorem tPow : (Tryd.prog.globals[5]?).map (·.type) = some 161 := by kernel_rfl
theorem cPow : Tryd.prog.cellsOf 161 = 20 := by kernel_rfl
theorem cPow1 : Tryd.prog.cellsOf 144 = 1 := by kernel_rfl
set_option maxRecDepth 100000 in
theorem pow_of_laid {W : World} {rest : List (String × DataW Unit)} (h : laidMet Tryd.prog (("math/bits.deBruijn32tab", Rows.laid_math_bits_deBruijn32tab) :: ("math/bits.deBruijn64tab", Rows.laid_math_bits_deBruijn64tab) :: ("internal/strconv.uint64pow10", Rows.laid_internal_strconv_uint64pow10) :: rest) W) :
    Lib.TabIs Tryd.prog W "internal/strconv.uint64pow10" .u64 Lib.pow10Tab := by
  have e : (Rows.laid_internal_strconv_uint64pow10 : DataW Unit) = Lib.tabData .u64 Lib.pow10Tab := by kernel_rfl
  rw [e] at h
  exact Lib.tabIs_of_head gPow tPow Tryd.underlying161 Tryd.underlying144 cPow1 cPow (laidMet.tail (laidMet.tail h))

end Go.Proofs.YtdbddockmdkmeaaDoor
/- The library's two errors of reading lie as the text lays them: out of a row's condition. -/
namespace Go.Proofs.YtdbddockmdkmeaaDoor
open Go.RowKit

theorem var_below12 {P : Program} {w w' : World} {n : String} {cs : Array Value} (h : w.var? P n = some cs) (hb : Below w.heap.size w w') : w'.var? P n = some cs := by
  unfold World.var? at *
  cases hg : P.globalNamed n with
  | none => simp [hg] at h
  | some g =>
    simp only [hg, Option.bind_some] at h ⊢
    have hlt : g < w.heap.size := by
      rcases Nat.lt_or_ge g w.heap.size with h' | h'
      · exact h'
      · rw [Array.getElem?_eq_none h'] at h; simp at h
    rw [hb.block g hlt]
    exact h
theorem star12 : "*errors.errorString" = "*" ++ "errors.errorString" := by decide
theorem row12 : ∀ u, Tryd.prog.typeName? 3 u = some "*errors.errorString" → u = 168 := fun u h =>
  typeName_ptr_named (nm := "errors.errorString") (by rw [← star12]; kernel_rfl) (by kernel_rfl) (by decide) u (by rw [← star12]; exact h)
theorem gSyn12 : Tryd.prog.globalNamed "strconv.ErrSyntax" = some 3 := by kernel_rfl
theorem gRng12 : Tryd.prog.globalNamed "strconv.ErrRange" = some 4 := by kernel_rfl
theorem tSyn12 : (Tryd.prog.globals[3]?).map (·.type) = some 99 := by kernel_rfl
theorem tRng12 : (Tryd.prog.globals[4]?).map (·.type) = some 99 := by kernel_rfl
theorem cES12 : Tryd.prog.cellsOf 170 = 1 := by kernel_rfl
theorem cStr12 : Tryd.prog.cellsOf 9 = 1 := by kernel_rfl
theorem errs_of_laid {W : World} {x : String × DataW Unit} {rest : List (String × DataW Unit)} (h : laidMet Tryd.prog (("math/bits.deBruijn32tab", Rows.laid_math_bits_deBruijn32tab) :: ("math/bits.deBruijn64tab", Rows.laid_math_bits_deBruijn64tab) :: ("internal/strconv.uint64pow10", Rows.laid_internal_strconv_uint64pow10) :: x :: ("strconv.ErrRange", Rows.laid_strconv_ErrRange) :: ("strconv.ErrSyntax", Rows.laid_strconv_ErrSyntax) :: rest) W) : Errs12 W := by
  have h4 := laidMet.tail (laidMet.tail (laidMet.tail (laidMet.tail h)))
  obtain ⟨a1, s1, hv1, -, -, -⟩ := laid_sentinel h4 gRng12 tRng12 Tryd.underlying99 row12 Tryd.underlying168 Tryd.underlying170 rfl rfl Tryd.underlying9 cES12 cStr12
  obtain ⟨a0, s0, hv0, -, -, -⟩ := laid_sentinel (laidMet.tail h4) gSyn12 tSyn12 Tryd.underlying99 row12 Tryd.underlying168 Tryd.underlying170 rfl rfl Tryd.underlying9 cES12 cStr12
  exact ⟨_, _, _, _, fun w' hb => ⟨var_below12 hv0 hb, var_below12 hv1 hb⟩⟩

end Go.Proofs.YtdbddockmdkmeaaDoor
