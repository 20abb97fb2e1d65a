/-
  LaidD: The world in which errors.errorType holds its value; what a call that only adds new memory leaves of its arguments.
-/
import Derived.Test.YtkkjkohmekbdbaaDoorRows
import Derived.Test.YtkkjkohmekbdbaaDoorPk3
import Derived.Test.YtkkjkohmekbdbaaDoorPk10
import Derived.WalkKit
import Derived.ProofKit
import Derived.OpenShut
import Derived.Carry
import Derived.Deep.DeepHandedRow
import Derived.Deep.Matrix
import Derived.LaidHandle

namespace Go.Proofs.YtkkjkohmekbdbaaDoor
open Go.ChangeShapes Go.WideShapes Go.ChangeAt Go.RowKit

theorem own : ownKnob Tryd.prog.godebug = none := by kernel_rfl
theorem laidOut : laidOutB Tryd.prog = true := by kernel_rfl

def layAt (g : Nat) (v : Value) (h : Array Obj) : Array Obj :=
  h.modify g fun
    | .cells _ t frozen => .cells #[v] t frozen
    | o => o
/-- A world for the witness: the settled one, the handle laid. -/
noncomputable def laidWorld (os : Os) : World :=
  { World.holding Tryd.prog os ⟨#[], #[], []⟩ with heap := layAt 1 (.iface 124 (.agg #[.pointer (some ⟨2, 38, none⟩)])) ((World.holding Tryd.prog os ⟨#[], #[], []⟩).heap) }

/-- What a law's proof ends with: true is returned and nothing old has changed, so every argument reads as it did. -/
theorem post_true {H : Type} {enc : TypeId × Value → H} {f : Func} {s : ChangeSpec} {W W' : World} {args : Array Value} {ds gs : List (DataW H)} {before : List MemPlace} {tb : TypeId}
    (hW : DataW.Whole enc Tryd.prog f.params.toList s.vars false W args.toList ds gs before) (hv : s.vars = [])
    (hb : Below W.heap.size W W') (hr : f.resultTypes = #[tb]) (htb : Tryd.prog.underlying tb = some .bool)
    (hp : ∀ t ∈ f.params.toList, Tryd.prog.readableRec t = true ∧ t < Tryd.prog.types.size)
    (h1 : (s.fn H (ds ++ gs)).results = [.lit (.bool true)]) (h2 : (s.fn H (ds ++ gs)).args = ds) (h3 : (s.fn H (ds ++ gs)).vars = []) :
    s.post enc Tryd.prog f false true false false W args (.bool true) W' := by
  have hlt := hW.lt
  have hW' := hW
  obtain ⟨p, q, hA, hV, rfl, _, _⟩ := hW
  rw [hv] at hV
  obtain ⟨rfl, rfl⟩ := trodVars_none hV
  have carry : ∀ (ts : List TypeId) (vs : List Value) (ds : List (DataW H)) (p : List MemPlace), (∀ t ∈ ts, Tryd.prog.readableRec t = true ∧ t < Tryd.prog.types.size) → (∀ x ∈ p, x.block < W.heap.size) → DataW.TrodAll enc Tryd.prog W 0 (fun _ => true) true ts vs ds p →
      DataW.TrodAll enc Tryd.prog W' 0 (fun b => decide (b < W.heap.size)) true ts vs ds p := by
    intro ts
    induction ts with
    | nil =>
      intro vs ds p _ _ h
      obtain ⟨rfl, rfl, rfl⟩ := trodAll_nil h
      exact trodAll_mk0
    | cons t ts ih =>
      intro vs ds p hp hl h
      obtain ⟨v, vs, d, ds', a, b, rfl, rfl, rfl, h1, h2⟩ := trodAll_cons h
      exact trodAll_cons_mk (Below.trod laidOut (hp t (by simp)).1 (hp t (by simp)).2 h1 hb (fun x hx => hl x (by simp [hx]))) (ih _ _ _ (fun t ht => hp t (by simp [ht])) (fun x hx => hl x (by simp [hx])) h2)
  refine ⟨ds, [], p ++ [], [], p, [], hW', ?_, ?_, ?_, hb.frame _, fun h => by cases h⟩
  · rw [h1, hr]
    exact trodAll_cons_mk (shut_bool htb true) trodAll_mk0
  · rw [h2]
    exact carry _ _ _ _ hp (fun x hx => hlt x (by simp [hx])) hA
  · rw [h3, hv]
    rfl
theorem errT_of {W : World} {L : List (String × DataW Unit)} (h : handlesMet Tryd.prog L W) (hm : ("errors.errorType", (Rows.laid_errors_errorType : DataW Unit)) ∈ L) : ErrT W := by
  obtain ⟨name, u, ty, e1, e2, e3, e4, e5⟩ := h _ hm
  have en : name = [101, 114, 114, 111, 114] := (Option.some.inj e1).symm
  subst en
  have rt : (Tryd.prog.cutTypes.find? (·.1 == "internal/reflectlite.rtype")).map (·.2) = some 124 := by kernel_rfl
  obtain rfl := Option.some.inj (rt.symm.trans e2)
  have hsz : Tryd.prog.types.size = 269 - 100 := by kernel_rfl
  have one : ((List.range (269 - 100)).filter fun t => Tryd.prog.rowNamed t [101, 114, 114, 111, 114]) = [38] := by kernel_rfl
  have hmm : ty ∈ (List.range (269 - 100)).filter fun t => Tryd.prog.rowNamed t [101, 114, 114, 111, 114] := List.mem_filter.2 ⟨List.mem_range.2 (by rw [← hsz]; exact e3), e4⟩
  rw [one] at hmm
  obtain rfl := List.mem_singleton.1 hmm
  have hh : typeHandle Tryd.prog 38 = .pointer (some ⟨2, 38, none⟩) := by kernel_rfl
  rw [hh] at e5
  have et : Tryd.prog.globalNamed "errors.errorType" = some 1 := by kernel_rfl
  unfold ErrT
  rw [World.var?_cell et e5 0]
  rfl

set_option maxRecDepth 100000 in
theorem fw_of {W : World} (h : laidMetH Tryd.prog [("errors.errorType", Rows.laid_errors_errorType)] W) : ErrT W := by
  have h' : laidMet Tryd.prog [] W ∧ handlesMet Tryd.prog [("errors.errorType", Rows.laid_errors_errorType)] W := h
  exact errT_of h'.2 (List.mem_singleton.2 rfl)
end Go.Proofs.YtkkjkohmekbdbaaDoor
