/- The statement NatSums is true: its row, and its card. -/
import Derived.Test.YtmbkhapldbeocaaDoorCards
import Derived.Test.YtmbkhapldbeocaaDoorTie
import Derived.Test.YtmbkhapldbeocaaDoorLaid
import Derived.Test.YtmbkhapldbeocaaDoorSums
namespace Go.Proofs.YtmbkhapldbeocaaDoor.NatSumsRow
open Go.ChangeShapes Go.WideShapes Go.ChangeAt Go.RowKit Go.Deep

theorem cells22 : Tryd.prog.cellsOf 22 = 1 := by kernel_rfl
theorem cells6 : Tryd.prog.cellsOf 58 = 1 := by kernel_rfl

set_option maxRecDepth 100000 in
/-- An argument that is a row of rows of words. -/
theorem open_rows {H : Type} {enc : TypeId × Value → H} {base : Nat} {W : World} {v : Value} {d : DataW H} {ps : List MemPlace} (hval : Value.okWide Tryd.prog W .any base 53 v) (hd : DataW.Trod enc Tryd.prog W 0 (fun _ => true) true 53 v d ps) :
    ∃ (a : Option Addr) (n cap : Nat) (vs : List Value) (ls : List (List Int)), v = .slice a n cap ∧ n = vs.length ∧ ls.length = vs.length ∧ n ≤ cap ∧ cap ≤ 9223372036854775807 ∧ RdRow W a vs ∧ ∀ j, j < vs.length → RdV W (vs.getD j undef) (ls.getD j []) := by
  obtain ⟨a0, n, cap, rfl⟩ := okWide_slice Tryd.underlying53 hval
  obtain ⟨fuel, hf⟩ := hd
  rcases open_int_rows Tryd.underlying53 Tryd.underlying22 Tryd.underlying58 cells22 cells6 hf with ⟨hcs, hx⟩ | ⟨a, n', cap', A, L, C, Z, hcs, _, hl, hm, hx, hr⟩
  · simp [Value.cells] at hcs
    obtain ⟨rfl, rfl, rfl⟩ := hcs
    exact ⟨none, 0, 0, [], [], rfl, rfl, rfl, Nat.le_refl _, by omega, Or.inl rfl, fun j hj => by cases hj⟩
  · simp [Value.cells] at hcs
    obtain ⟨rfl, rfl, rfl⟩ := hcs
    refine ⟨some a, n, cap, (List.range n).map fun r => .slice (A r) (L r) (C r), (List.range n).map fun r => (Z r).take (L r), rfl, by simp, by simp, hl, by simpa [maxLen] using hm, ?_, ?_⟩
    · by_cases h0 : n = 0
      · left
        subst h0
        rfl
      · obtain ⟨b, off, spot⟩ := a
        have hspot : spot = none := by simpa [Addr.add] using World.cell?_spot ((hr 0 (by omega)).1)
        subst hspot
        refine Or.inr ⟨b, off, rfl, fun j v hv => ?_⟩
        have hj : j < n := by simpa using (List.getElem?_eq_some_iff.1 hv).1
        simp [hj] at hv
        subst hv
        rw [← add_plain]
        exact (hr j (by omega)).1
    · intro j hj
      have hj' : j < n := by simpa using hj
      obtain ⟨_, h1, h2, h3, h4, h5, h6⟩ := hr j (by omega)
      simp [List.getD, hj']
      exact rdv_of h1 h2 h3 h4 h5 (fun a' ha i hi => (h6 a' ha).2 i hi)

set_option maxRecDepth 100000 in
/-- What the walk gives, for every argument. -/
theorem contract {H : Type} (enc : TypeId × Value → H) (W : World) (base : Nat) (args : Array Value) (ds gs : List (DataW H)) (before : List MemPlace)
    (hval : ∀ (j : Nat) t v, Tryd.f7.params[j]? = some t → args[j]? = some v → Value.okWide Tryd.prog W .any base t v)
    (hW : DataW.Whole enc Tryd.prog Tryd.f7.params.toList Rows.natSumsSpec.vars false W args.toList ds gs before) :
    Calls Tryd.prog 7 args W fun e W' => ∃ v, e = .returned v ∧ Rows.natSumsSpec.post enc Tryd.prog Tryd.f7 false true false false W args v W' := by
  have hW' := hW
  obtain ⟨p, q, hA0, hV, rfl, hfz, hnd⟩ := hW
  have hA : DataW.TrodAll enc Tryd.prog W 0 (fun _ => true) true Tryd.f7.params.toList args.toList ds p := hA0
  rw [Tryd.params7] at hA hval
  obtain ⟨v0, v1, d0, d1, p0, p1, rfl, rfl, rfl, h0, h1⟩ := trodAll_two hA
  obtain ⟨rfl, rfl⟩ := trodVars_none hV
  obtain ⟨m, rfl, rfl, rfl, wm⟩ := open_int Tryd.underlying3 (hval 1 _ v1 rfl rfl) h1
  obtain ⟨a, n, cap, vs, ls, rfl, hn, hls, hl, hm, hrow, hel⟩ := open_rows (hval 0 _ v0 rfl rfl) h0
  have walk : Calls Tryd.prog 7 #[.slice a n cap, .int .i64 m] W fun e w' => RetV W (.bool true) e w' := by
    by_cases h12 : 12 < n
    · exact sums_many a n cap m W h12
    · by_cases hb : lightB ls = true
      · exact sums_light a n cap vs ls m W hn hls hl hm (by omega) hrow hel hb
      · refine sums_heavy a n cap vs ls m W hn hls hl hm (by omega) hrow (fun j hj => ?_) (fun j => ?_) (by simpa using hb)
        · obtain ⟨ao, c, h, _⟩ := hel j hj
          exact ⟨ao, c, h⟩
        · by_cases hj : j < vs.length
          · obtain ⟨ao, c, _, h1, h2, _⟩ := hel j hj
            omega
          · have hz : ls[j]? = none := List.getElem?_eq_none (by omega)
            simp [List.getD, hz]
  clear hA0
  refine walk.mono fun e W' ⟨he, hg⟩ => ?_
  subst he
  exact ⟨_, rfl, post_true hW' rfl hg rfl Tryd.underlying4 (fun t ht => by
    rw [Tryd.params7] at ht
    simp at ht
    rcases ht with rfl | rfl <;> exact ⟨by kernel_rfl, of_decide_eq_true (by kernel_rfl)⟩) rfl rfl rfl⟩

theorem laid_met (os : Os) : laidMet Tryd.prog Rows.natSumsRow.laid ((laidWorld os).forCall (fun _ _ => 0) ⟨#[], #[.slice none 0 0, .int .i64 0], []⟩).memory :=
  laidMet_of_run' 8 (by kernel_rfl) (by kernel_rfl)
theorem reads (os : Os) {H : Type} (enc : TypeId × Value → H) : ∃ places, DataW.whole enc Tryd.prog ((laidWorld os).forCall (fun _ _ => 0) ⟨#[], #[.slice none 0 0, .int .i64 0], []⟩).memory Tryd.f7.params.toList Rows.natSumsSpec.vars false #[Value.slice none 0 0, Value.int .i64 0].toList 8 = some ([.nil, .lit (.int .i64 0)], [], places) :=
  ⟨[], by kernel_rfl⟩

set_option maxRecDepth 100000 in
theorem lifted (os : Os) (started : os.Started) (H : Type) (enc : TypeId × Value → H) (F : Stop.Interp) :
    ReturnsInHanded {} Tryd.checked os 7 .any ((OpenSpec.ofChange Rows.natSumsSpec).preRow enc Tryd.prog Tryd.f7 Rows.natSumsRow.domain false Rows.natSumsRow.laid) (((OpenSpec.ofChange Rows.natSumsSpec).at F).post enc Tryd.prog Tryd.f7 false true false false) := by
  obtain ⟨places, hx⟩ := reads os enc
  refine returnsInHanded_of_row (C := Tryd.checked) (s := OpenSpec.ofChange Rows.natSumsSpec) own started (by kernel_rfl) Tryd.func7
    (witness_row_at (enc := enc) (C := Tryd.checked) false (laidWorld os) #[.slice none 0 0, .int .i64 0] rfl (by kernel_rfl) (by kernel_rfl) (by kernel_rfl)
      (OpenSpec.preRow_of_cond 8 hx (by kernel_rfl) (fun k hk => by cases hk) (by kernel_rfl) (laid_met os))) ?_
  intro W base args ds gs before hval hW _ _ _ _ _ _
  exact contract enc W base args ds gs before hval hW

theorem said : Rows.NatSumsSaid :=
  OpenClaim.holds_of_cond 7 Tryd.f7 rfl rfl rfl rfl rfl rfl rfl ⟨rfl, rfl, rfl, rfl, rfl⟩ rfl rfl rfl rfl rfl (by kernel_rfl) Tryd.func7 (by kernel_rfl)
    (of_decide_eq_true (by kernel_rfl)) (by unfold Func.isWrapper; first | (rw [if_pos (by decide +kernel)]; kernel_rfl) | (rw [if_neg (by decide +kernel)]; exact ⟨rfl, rfl⟩))
    (fun os started H enc _ F => by rw [OpenClaim.pre_eq_preRow]; exact lifted os started H enc F)

/-- No parameter wants a stand-in; the program's own looks are off: what the card asks. -/
theorem plain (f : FuncId) (fn : Func) (hf : Tryd.pinned.checked.prog.funcNamed "compass/compasslaw1.NatSums" = some f) (hfn : Tryd.pinned.checked.prog.funcs[f]? = some fn) :
    false = Tryd.pinned.checked.prog.looks [] ∧ ∀ (j : Nat) t, fn.params[j]? = some t → Tryd.pinned.checked.prog.wantsStandIn t = false := by
  obtain rfl : f = 7 := Option.some.inj ((show Tryd.prog.funcNamed "compass/compasslaw1.NatSums" = some 7 by kernel_rfl).symm.trans hf) |>.symm
  obtain rfl : fn = Tryd.f7 := (Option.some.inj (Tryd.func7.symm.trans hfn)).symm
  refine ⟨by kernel_rfl, fun j t ht => ?_⟩
  rw [Tryd.params7] at ht
  have ht' := Array.mem_of_getElem? ht
  simp at ht'
  rcases ht' with rfl | rfl
  · exact (show Tryd.prog.wantsStandIn 53 = false by kernel_rfl)
  · exact (show Tryd.prog.wantsStandIn 3 = false by kernel_rfl)

/-- The card. -/
theorem card : Rows.NatSumsCardSaid :=
  Claim7.holds_tied_plain_at .later [] _ _ _ _ said (fun _ h => by cases h) (by kernel_rfl) (fun _ h => by cases h) natSums_row_tie rfl ⟨rfl, rfl⟩ (by kernel_rfl) rfl plain (by kernel_rfl)

end Go.Proofs.YtmbkhapldbeocaaDoor.NatSumsRow
