/-
  Fail7: What a row's list of variables gives the three statements of chapter 6.
-/
import Derived.Test.YtioigoipggnkpaaDoorPk24
import Derived.Test.YtioigoipggnkpaaDoorRows
import Derived.LaidHandle

namespace Go.Proofs.YtioigoipggnkpaaDoor
open Go.RowKit

theorem errT_of {W : World} {L : List (String × DataW Unit)} (h : handlesMet Tryd.prog L W) (hm : ("errors.errorType", (Rows.laid_errors_errorType : DataW Unit)) ∈ L) : ErrT W := by
  obtain ⟨name, u, ty, e1, e2, e3, e4, e5⟩ := h _ hm
  have en : name = [101, 114, 114, 111, 114] := (Option.some.inj e1).symm
  subst en
  have rt : (Tryd.prog.cutTypes.find? (·.1 == "internal/reflectlite.rtype")).map (·.2) = some 77 := by kernel_rfl
  obtain rfl := Option.some.inj (rt.symm.trans e2)
  have hsz : Tryd.prog.types.size = 241 - 100 := by kernel_rfl
  have one : ((List.range (241 - 100)).filter fun t => Tryd.prog.rowNamed t [101, 114, 114, 111, 114]) = [28] := by kernel_rfl
  have hmm : ty ∈ (List.range (241 - 100)).filter fun t => Tryd.prog.rowNamed t [101, 114, 114, 111, 114] := List.mem_filter.2 ⟨List.mem_range.2 (by rw [← hsz]; exact e3), e4⟩
  rw [one] at hmm
  obtain rfl := List.mem_singleton.1 hmm
  have hh : typeHandle Tryd.prog 28 = .pointer (some ⟨4, 28, none⟩) := by kernel_rfl
  rw [hh] at e5
  have et : Tryd.prog.globalNamed "errors.errorType" = some 0 := by kernel_rfl
  unfold ErrT
  rw [World.var?_cell et e5 0]
  rfl
set_option maxRecDepth 100000 in
theorem fw_of {W : World} (h : laidMetH Tryd.prog Rows.failKindsRow.laid W) : ErrT W := by
  have h' : laidMet Tryd.prog [] W ∧ handlesMet Tryd.prog [("errors.errorType", Rows.laid_errors_errorType)] W := h
  exact errT_of h'.2 (List.mem_singleton.2 rfl)
end Go.Proofs.YtioigoipggnkpaaDoor
