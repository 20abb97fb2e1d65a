/-
  Fail8: What the list of FailNone's row gives.
-/
import Derived.Test.YtioigoipggnkpaaDoorPk25
import Derived.Lib.LaidTab
import Derived.Stop.LaidErr
import Derived.LaidLaws

namespace Go.Proofs.YtioigoipggnkpaaDoor
open Go.RowKit

set_option maxRecDepth 100000 in
theorem fwn_of {W : World} (h : laidMetH Tryd.prog Rows.failNoneRow.laid W) : ErrT W ∧ PowTab W := by
  have h' : laidMet Tryd.prog (("math/bits.deBruijn32tab", Rows.laid_math_bits_deBruijn32tab) :: ("math/bits.deBruijn64tab", Rows.laid_math_bits_deBruijn64tab) :: ("internal/strconv.uint64pow10", Rows.laid_internal_strconv_uint64pow10) :: []) W ∧ handlesMet Tryd.prog [("errors.errorType", Rows.laid_errors_errorType)] W := h
  refine ⟨errT_of h'.2 (List.mem_singleton.2 rfl), ?_⟩
  have gP : Tryd.prog.globalNamed "internal/strconv.uint64pow10" = some 1 := by kernel_rfl
  have gT : (Tryd.prog.globals[1]?).map (·.type) = some 105 := by kernel_rfl
  have c1 : Tryd.prog.cellsOf 64 = 1 := by kernel_rfl
  have c2 : Tryd.prog.cellsOf 105 = 20 := by kernel_rfl
  exact Lib.tabIs_of_head (k := .u64) (zs := Lib.pow10Tab) gP gT Tryd.underlying105 Tryd.underlying64 c1 c2 h'.1.tail.tail
end Go.Proofs.YtioigoipggnkpaaDoor
