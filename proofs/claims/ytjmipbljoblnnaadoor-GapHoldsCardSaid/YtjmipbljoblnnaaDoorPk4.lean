/-
  LaidG: What every proof of a row of this seat needs: the world in which the listed variables hold their values, and what a call that only adds new memory leaves of its arguments.
-/
import Derived.Test.YtjmipbljoblnnaaDoorRows
import Derived.Test.YtjmipbljoblnnaaDoorPk3
import Derived.WalkKit
import Derived.ProofKit
import Derived.OpenShut
import Derived.Carry
import Derived.Deep.DeepHandedRow
import Derived.Deep.Matrix

namespace Go.Proofs.YtjmipbljoblnnaaDoor
open Go.ChangeShapes Go.WideShapes Go.ChangeAt Go.RowKit

theorem own : ownKnob Tryd.prog.godebug = none := by kernel_rfl
theorem laidOut : laidOutB Tryd.prog = true := by kernel_rfl

/-- The cells of a laid table. -/
def flat0 : DataW Unit → List Value
  | .lit (.int k n) => [.int k n]
  | _ => []
def flat1 : DataW Unit → List Value
  | .lit (.int k n) => [.int k n]
  | .agg l => l.flatMap flat0
  | _ => []
def flat2 : DataW Unit → List Value
  | .agg l => l.flatMap flat1
  | _ => []
def layIn (g : Nat) (d : DataW Unit) (h : Array Obj) : Array Obj :=
  h.modify g fun
    | .cells _ t frozen => .cells (flat2 d).toArray t frozen
    | o => o

/-- A world for the witness: the settled one, the tables holding what is listed. -/
noncomputable def laidWorld (os : Os) : World :=
  { World.holding Tryd.prog os ⟨#[], #[], []⟩ with heap := layIn 1 Rows.laid_math_bits_deBruijn64tab (World.holding Tryd.prog os ⟨#[], #[], []⟩).heap }

/-- A readable row of words, as the walks want it. -/
theorem rdv_of {W : World} {a : Option Addr} {l c : Nat} {zs : List Int} (hlc : l ≤ c) (hc : c ≤ maxLen) (hz : zs.length = c) (hwf : ∀ n ∈ zs, (Lit.int .u64 n).wf = true) (h0 : a = none → c = 0)
    (hcell : ∀ a', a = some a' → ∀ i, i < c → W.cell? (a'.add i) = some (.int .u64 (zs.getD i 0))) : RdV W (.slice a l c) (zs.take l) := by
  have hlen : (zs.take l).length = l := by rw [List.length_take]; omega
  refine ⟨a, c, by rw [hlen], by omega, by simpa [maxLen] using hc, ?_, ?_⟩
  · by_cases hl : l = 0
    · left
      subst hl
      rfl
    · cases a with
      | none =>
        have := h0 rfl
        omega
      | some a' =>
        obtain ⟨b, off, spot⟩ := a'
        have hcell' := hcell _ rfl
        have hspot : spot = none := by simpa [Addr.add] using World.cell?_spot (hcell' 0 (by omega))
        subst hspot
        refine Or.inr ⟨b, off, rfl, fun j hj => ?_⟩
        have hj' : j < l := by omega
        have hc' := hcell' j (by omega)
        rw [add_plain] at hc'
        rw [hc']
        simp [List.getD, hj']
  · intro n hn
    have := hwf n (List.mem_of_mem_take hn)
    simp [Lit.wf, IntKind.min, IntKind.max, IntKind.signed, IntKind.bits] at this
    unfold B64
    omega

set_option maxRecDepth 100000 in
/-- An argument that is a row of words. -/
theorem open_words {H : Type} {enc : TypeId × Value → H} {base : Nat} {W : World} {t e : TypeId} {v : Value} {d : DataW H} {ps : List MemPlace} (ht : Tryd.prog.underlying t = some (.slice e)) (he : Tryd.prog.underlying e = some (.int .u64)) (hce : Tryd.prog.cellsOf e = 1)
    (hval : Value.okWide Tryd.prog W .any base t v) (hd : DataW.Trod enc Tryd.prog W 0 (fun _ => true) true t v d ps) : ∃ l, RdV W v l := by
  obtain ⟨a0, len, cap, rfl⟩ := okWide_slice ht hval
  obtain ⟨fuel, hf⟩ := hd
  rcases open_ints ht he hce hf with ⟨hcs, hx⟩ | ⟨a, len', cap', zs, hcs, _, hl, hm, hz, hx, hcell, hwz⟩
  · simp [Value.cells] at hcs
    obtain ⟨rfl, rfl, rfl⟩ := hcs
    exact ⟨[], none, 0, rfl, Nat.le_refl _, by omega, Or.inl rfl, fun _ h => by cases h⟩
  · simp [Value.cells] at hcs
    obtain ⟨rfl, rfl, rfl⟩ := hcs
    simp only [if_true] at hz
    exact ⟨_, rdv_of hl hm hz hwz (fun h => by cases h) (fun a' h i hi => by cases h; exact hcell i (by omega))⟩

/-- What a law's proof ends with: true is returned and nothing old has changed, so every argument reads as it did. -/
theorem post_true {H : Type} {enc : TypeId × Value → H} {f : Func} {s : ChangeSpec} {W W' : World} {args : Array Value} {ds gs : List (DataW H)} {before : List MemPlace} {tb : TypeId}
    (hW : DataW.Whole enc Tryd.prog f.params.toList s.vars false W args.toList ds gs before) (hv : s.vars = [])
    (hb : Below W.heap.size W W') (hr : f.resultTypes = #[tb]) (htb : Tryd.prog.underlying tb = some .bool)
    (hp : ∀ t ∈ f.params.toList, Tryd.prog.readableRec t = true ∧ t < Tryd.prog.types.size)
    (h1 : (s.fn H (ds ++ gs)).results = [.lit (.bool true)]) (h2 : (s.fn H (ds ++ gs)).args = ds) (h3 : (s.fn H (ds ++ gs)).vars = []) :
    s.post enc Tryd.prog f false true false false W args (.bool true) W' := by
  have hlt := hW.lt
  have hW' := hW
  obtain ⟨p, q, hA, hV, rfl, _, _⟩ := hW
  rw [hv] at hV
  obtain ⟨rfl, rfl⟩ := trodVars_none hV
  have carry : ∀ (ts : List TypeId) (vs : List Value) (ds : List (DataW H)) (p : List MemPlace), (∀ t ∈ ts, Tryd.prog.readableRec t = true ∧ t < Tryd.prog.types.size) → (∀ x ∈ p, x.block < W.heap.size) → DataW.TrodAll enc Tryd.prog W 0 (fun _ => true) true ts vs ds p →
      DataW.TrodAll enc Tryd.prog W' 0 (fun b => decide (b < W.heap.size)) true ts vs ds p := by
    intro ts
    induction ts with
    | nil =>
      intro vs ds p _ _ h
      obtain ⟨rfl, rfl, rfl⟩ := trodAll_nil h
      exact trodAll_mk0
    | cons t ts ih =>
      intro vs ds p hp hl h
      obtain ⟨v, vs, d, ds', a, b, rfl, rfl, rfl, h1, h2⟩ := trodAll_cons h
      exact trodAll_cons_mk (Below.trod laidOut (hp t (by simp)).1 (hp t (by simp)).2 h1 hb (fun x hx => hl x (by simp [hx]))) (ih _ _ _ (fun t ht => hp t (by simp [ht])) (fun x hx => hl x (by simp [hx])) h2)
  refine ⟨ds, [], p ++ [], [], p, [], hW', ?_, ?_, ?_, hb.frame _, fun h => by cases h⟩
  · rw [h1, hr]
    exact trodAll_cons_mk (shut_bool htb true) trodAll_mk0
  · rw [h2]
    exact carry _ _ _ _ hp (fun x hx => hlt x (by simp [hx])) hA
  · rw [h3, hv]
    rfl
end Go.Proofs.YtjmipbljoblnnaaDoor
