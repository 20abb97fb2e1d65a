/- The statement WholeOrders is true: its row, and its card. -/
import Derived.Test.YtfhknnmffppfgaaDoorCards
import Derived.Test.YtfhknnmffppfgaaDoorTie
import Derived.Test.YtfhknnmffppfgaaDoorLaid
import Derived.Test.YtfhknnmffppfgaaDoorOrdersL
import Derived.Laws.IdiomArrays
import Derived.ChangeArms
namespace Go.Proofs.YtfhknnmffppfgaaDoor.WholeOrdersRow
open Go.ChangeShapes Go.WideShapes Go.ChangeAt Go.RowKit Go.Deep

theorem list3 {l : List Value} (h : l.length = 3) : ∃ x y z, l = [x, y, z] := by
  match l, h with
  | [x, y, z], _ => exact ⟨x, y, z, rfl⟩
/-- An element of an array that is a row of words. -/
theorem words_cell {H : Type} {enc : TypeId × Value → H} {W : World} {fuel : Nat} {c : Value} {y : DataW H × List MemPlace} (hf : DataW.trod enc Tryd.prog W 0 (fun _ => true) true fuel 22 [c] = some y) : ∃ l, RdV W c l := by
  rcases open_ints Tryd.underlying22 Tryd.underlying37 (by kernel_rfl) hf with ⟨hcs, hx⟩ | ⟨a, len', cap', zs, hcs, _, hl, hm, hz, hx, hcell, hwz⟩
  · simp at hcs
    subst hcs
    exact ⟨[], none, 0, rfl, Nat.le_refl _, by omega, Or.inl rfl, fun _ h => by cases h⟩
  · simp at hcs
    subst hcs
    simp only [if_true] at hz
    exact ⟨_, rdv_of hl hm hz hwz (fun h => by cases h) (fun a' h i hi => by cases h; exact hcell i (by omega))⟩
set_option maxRecDepth 100000 in
/-- What the walk gives, for every argument. -/
theorem contract {H : Type} (enc : TypeId × Value → H) (W : World) (base : Nat) (args : Array Value) (ds gs : List (DataW H)) (before : List MemPlace)
    (hval : ∀ (j : Nat) t v, Tryd.f9.params[j]? = some t → args[j]? = some v → Value.okWide Tryd.prog W .any base t v)
    (hW : DataW.Whole enc Tryd.prog Tryd.f9.params.toList Rows.wholeOrdersSpec.vars false W args.toList ds gs before) :
    Calls Tryd.prog 9 args W fun e W' => ∃ v, e = .returned v ∧ Rows.wholeOrdersSpec.post enc Tryd.prog Tryd.f9 false true false false W args v W' := by
  have hW' := hW
  obtain ⟨p, q, hA0, hV, rfl, hfz, hnd⟩ := hW
  have hA : DataW.TrodAll enc Tryd.prog W 0 (fun _ => true) true Tryd.f9.params.toList args.toList ds p := hA0
  rw [Tryd.params9] at hA hval
  obtain ⟨v0, vs0, d0, ds0, p0, q0, e0, rfl, rfl, h0, hr0⟩ := trodAll_cons hA
  obtain ⟨v1, vs1, d1, ds1, p1, q1, e1, rfl, rfl, h1, hr1⟩ := trodAll_cons hr0
  obtain ⟨rfl, rfl, rfl⟩ := trodAll_nil hr1
  subst e1
  obtain rfl : args = #[v0, v1] := by cases args; simp_all
  obtain ⟨rfl, rfl⟩ := trodVars_none hV
  obtain ⟨cs, rfl, hsz, _⟩ : ∃ cs, v0 = .agg cs ∧ cs.size = Tryd.prog.cellsOf 81 ∧ Row.okWide Tryd.prog W .any base 81 cs := by
    have := hval 0 _ v0 rfl rfl
    simpa [Value.okWide, Tryd.underlying81] using this
  obtain ⟨ct, rfl, htz, _⟩ : ∃ cs, v1 = .agg cs ∧ cs.size = Tryd.prog.cellsOf 82 ∧ Row.okWide Tryd.prog W .any base 82 cs := by
    have := hval 1 _ v1 rfl rfl
    simpa [Value.okWide, Tryd.underlying82] using this
  rw [show Tryd.prog.cellsOf 81 = 3 by kernel_rfl] at hsz
  rw [show Tryd.prog.cellsOf 82 = 3 by kernel_rfl] at htz
  obtain ⟨cs⟩ := cs
  obtain ⟨ct⟩ := ct
  obtain ⟨x0, x1, x2, rfl⟩ := list3 hsz
  obtain ⟨z0, z1, z2, rfl⟩ := list3 htz
  obtain ⟨f0, hf0⟩ := h0
  obtain ⟨f1, hf1⟩ := h1
  obtain ⟨y0, y1, y2, m, -, hy0, hy1, hy2⟩ := trod_array3 Tryd.underlying81 (by kernel_rfl) hf0
  obtain ⟨g0, g1, g2, m', -, hg0, hg1, hg2⟩ := trod_array3 Tryd.underlying82 (by kernel_rfl) hf1
  obtain ⟨lA, aA, cA, rfl, rA1, rA2, rA3, rA4⟩ := words_cell hy0
  obtain ⟨lB, aB, cB, rfl, rB1, rB2, rB3, rB4⟩ := words_cell hy1
  obtain ⟨lC, aC, cC, rfl, rC1, rC2, rC3, rC4⟩ := words_cell hy2
  obtain ⟨q0', e0', -⟩ := DataW.trod_bool Tryd.underlying4 hg0
  obtain ⟨q1', e1', -⟩ := DataW.trod_bool Tryd.underlying4 hg1
  obtain ⟨q2', e2', -⟩ := DataW.trod_bool Tryd.underlying4 hg2
  simp at e0' e1' e2'
  subst e0' e1' e2'
  have walk : Calls Tryd.prog 9 #[.agg #[.slice aA lA.length cA, .slice aB lB.length cB, .slice aC lC.length cC], .agg #[.bool q0', .bool q1', .bool q2']] W fun e w' => RetV W (.bool true) e w' := by
    by_cases h : lA.length ≤ 40 ∧ lB.length ≤ 40 ∧ lC.length ≤ 40
    · exact orders_ok aA aB aC _ _ _ cA cB cC q0' q1' q2' W ⟨lA, ⟨aA, cA, rfl, rA1, rA2, rA3, rA4⟩, rfl, h.1⟩ ⟨lB, ⟨aB, cB, rfl, rB1, rB2, rB3, rB4⟩, rfl, h.2.1⟩ ⟨lC, ⟨aC, cC, rfl, rC1, rC2, rC3, rC4⟩, rfl, h.2.2⟩ h.1 h.2.1 h.2.2
    · exact orders_heavy aA aB aC _ _ _ cA cB cC q0' q1' q2' W (by omega) (by omega) (by omega) h
  clear hA0
  refine walk.mono fun e W' ⟨he, hg⟩ => ?_
  subst he
  exact ⟨_, rfl, post_true hW' rfl hg rfl Tryd.underlying4 (fun t ht => by
    rw [Tryd.params9] at ht
    simp at ht
    rcases ht with rfl | rfl <;> exact ⟨by kernel_rfl, of_decide_eq_true (by kernel_rfl)⟩) rfl rfl rfl⟩

theorem laid_met (os : Os) : laidMet Tryd.prog Rows.wholeOrdersRow.laid ((laidWorld os).forCall (fun _ _ => 0) ⟨#[], #[.agg #[.slice none 0 0, .slice none 0 0, .slice none 0 0], .agg #[.bool false, .bool false, .bool false]], []⟩).memory :=
  laidMet_of_run' 8 (by kernel_rfl) (by kernel_rfl)
theorem reads (os : Os) {H : Type} (enc : TypeId × Value → H) : ∃ places, DataW.whole enc Tryd.prog ((laidWorld os).forCall (fun _ _ => 0) ⟨#[], #[.agg #[.slice none 0 0, .slice none 0 0, .slice none 0 0], .agg #[.bool false, .bool false, .bool false]], []⟩).memory Tryd.f9.params.toList Rows.wholeOrdersSpec.vars false #[Value.agg #[.slice none 0 0, .slice none 0 0, .slice none 0 0], Value.agg #[.bool false, .bool false, .bool false]].toList 8 = some ([.agg [.nil, .nil, .nil], .agg [.lit (.bool false), .lit (.bool false), .lit (.bool false)]], [], places) :=
  ⟨[], by kernel_rfl⟩

set_option maxRecDepth 100000 in
theorem lifted (os : Os) (started : os.Started) (H : Type) (enc : TypeId × Value → H) (F : Stop.Interp) :
    ReturnsInHanded {} Tryd.checked os 9 .any ((OpenSpec.ofChange Rows.wholeOrdersSpec).preRow enc Tryd.prog Tryd.f9 Rows.wholeOrdersRow.domain false Rows.wholeOrdersRow.laid) (((OpenSpec.ofChange Rows.wholeOrdersSpec).at F).post enc Tryd.prog Tryd.f9 false true false false) := by
  obtain ⟨places, hx⟩ := reads os enc
  refine returnsInHanded_of_row (C := Tryd.checked) (s := OpenSpec.ofChange Rows.wholeOrdersSpec) own started (by kernel_rfl) Tryd.func9
    (witness_row_at (enc := enc) (C := Tryd.checked) false (laidWorld os) #[.agg #[.slice none 0 0, .slice none 0 0, .slice none 0 0], .agg #[.bool false, .bool false, .bool false]] rfl (by kernel_rfl) (by kernel_rfl) (by kernel_rfl)
      (OpenSpec.preRow_of_cond 8 hx (by kernel_rfl) (fun k hk => by cases hk) (by kernel_rfl) (laid_met os))) ?_
  intro W base args ds gs before hval hW _ _ _ _ _ _
  exact contract enc W base args ds gs before hval hW

theorem said : Rows.WholeOrdersSaid :=
  OpenClaim.holds_of_cond 9 Tryd.f9 rfl rfl rfl rfl rfl rfl rfl ⟨rfl, rfl, rfl, rfl, rfl⟩ rfl rfl rfl rfl rfl (by kernel_rfl) Tryd.func9 (by kernel_rfl)
    (of_decide_eq_true (by kernel_rfl)) (by unfold Func.isWrapper; first | (rw [if_pos (by decide +kernel)]; kernel_rfl) | (rw [if_neg (by decide +kernel)]; exact ⟨rfl, rfl⟩))
    (fun os started H enc _ F => by rw [OpenClaim.pre_eq_preRow]; exact lifted os started H enc F)

/-- No parameter wants a stand-in; the program's own looks are off: what the card asks. -/
theorem plain (f : FuncId) (fn : Func) (hf : Tryd.pinned.checked.prog.funcNamed "compass/compasslaw2.WholeOrders" = some f) (hfn : Tryd.pinned.checked.prog.funcs[f]? = some fn) :
    false = Tryd.pinned.checked.prog.looks [] ∧ ∀ (j : Nat) t, fn.params[j]? = some t → Tryd.pinned.checked.prog.wantsStandIn t = false := by
  obtain rfl : f = 9 := Option.some.inj ((show Tryd.prog.funcNamed "compass/compasslaw2.WholeOrders" = some 9 by kernel_rfl).symm.trans hf) |>.symm
  obtain rfl : fn = Tryd.f9 := (Option.some.inj (Tryd.func9.symm.trans hfn)).symm
  refine ⟨by kernel_rfl, fun j t ht => ?_⟩
  rw [Tryd.params9] at ht
  have ht' := Array.mem_of_getElem? ht
  simp at ht'
  rcases ht' with rfl | rfl
  · exact (show Tryd.prog.wantsStandIn 81 = false by kernel_rfl)
  · exact (show Tryd.prog.wantsStandIn 82 = false by kernel_rfl)

/-- The card. -/
theorem card : Rows.WholeOrdersCardSaid :=
  Claim7.holds_tied_plain_at .later [] _ _ _ _ said (fun _ h => by cases h) (by kernel_rfl) (fun _ h => by cases h) wholeOrders_row_tie rfl ⟨rfl, rfl⟩ (by kernel_rfl) rfl plain (by kernel_rfl)

end Go.Proofs.YtfhknnmffppfgaaDoor.WholeOrdersRow
