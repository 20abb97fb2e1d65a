/- The statement FloBetween is true: its row, and its card. -/
import Derived.Test.YtfanhllcoaondaaDoorCards
import Derived.Test.YtfanhllcoaondaaDoorTie
import Derived.Test.YtfanhllcoaondaaDoorPk4
import Derived.Test.YtfanhllcoaondaaDoorPk31
import Derived.Lib.LaidTab
import Derived.Deep.Strs
import Derived.Laws.Cover2
namespace Go.Proofs.YtfanhllcoaondaaDoor.FloBetweenRow
open Go.ChangeShapes Go.WideShapes Go.ChangeAt Go.RowKit Go.Deep

theorem cells6 : Tryd.prog.cellsOf 56 = 1 := by kernel_rfl
theorem int_lim {m : Int} (h : (Lit.int .i64 m).wf = true) : -9223372036854775808 ≤ m ∧ m ≤ 9223372036854775807 := by
  simp [Lit.wf, IntKind.min, IntKind.max, IntKind.signed, IntKind.bits] at h
  omega
theorem gTab : Tryd.prog.globalNamed "math/bits.deBruijn64tab" = some 1 := by kernel_rfl
theorem gTabType : (Tryd.prog.globals[1]?).map (·.type) = some 135 := by kernel_rfl
theorem cellsTab : Tryd.prog.cellsOf 135 = 64 := by kernel_rfl
theorem cells8 : Tryd.prog.cellsOf 5 = 1 := by kernel_rfl

/-- What the row's list gives: the table lies in its variable. -/
theorem table {W : World} {rest : List (String × DataW Unit)} (h : laidMet Tryd.prog (("math/bits.deBruijn64tab", Rows.laid_math_bits_deBruijn64tab) :: rest) W) : Tab64 W := by
  have ht := Lib.tabIs_of_head (k := .u8) (zs := Lib.deBruijn64tab.map Int.ofNat) gTab gTabType Tryd.underlying135 Tryd.underlying5 cells8 cellsTab h
  intro j hj
  have hc := ht.cell gTab j (by simpa using hj)
  rw [hc]
  simp [List.getD, hj]

set_option maxRecDepth 100000 in
/-- An argument that is a number as it is handed in. -/
theorem open_num {H : Type} {enc : TypeId × Value → H} {base : Nat} {W : World} {v : Value} {d : DataW H} {ps : List MemPlace}
    (hval : Value.okWide Tryd.prog W .any base 59 v) (hd : DataW.Trod enc Tryd.prog W 0 (fun _ => true) true 59 v d ps) :
    ∃ (p : Bool) (l : List Int) (a : Option Addr) (c : Nat) (E : Int), v = .agg #[.bool p, .slice a l.length c, .int .i64 E] ∧ l.length ≤ c ∧ c ≤ 9223372036854775807 ∧ Rd W a l ∧ Lim B64 l ∧ (Lit.int .i64 E).wf = true := by
  obtain ⟨cs, rfl, hsz, _⟩ : ∃ cs, v = .agg cs ∧ cs.size = Tryd.prog.cellsOf 59 ∧ Row.okWide Tryd.prog W .any base 59 cs := by
    simpa [Value.okWide, Tryd.underlying59] using hval
  rw [show Tryd.prog.cellsOf 59 = 3 by kernel_rfl] at hsz
  obtain ⟨cs⟩ := cs
  obtain ⟨x0, x1, x2, rfl⟩ : ∃ x y z, cs = [x, y, z] := by
    match cs, hsz with
    | [x, y, z], _ => exact ⟨x, y, z, rfl⟩
  obtain ⟨fuel, hf⟩ := hd
  obtain ⟨y0, y1, y2, m, -, -, hy0, hy1, hy2⟩ := trod_struct3 Tryd.underlying59 hf
  have c0 : Tryd.prog.cellsOf 4 = 1 := by kernel_rfl
  have c1 : Tryd.prog.cellsOf 22 = 1 := by kernel_rfl
  have c2 : Tryd.prog.cellsOf 3 = 1 := by kernel_rfl
  simp only [c0, c1, c2, Value.cells, List.drop_succ_cons, List.drop_zero, List.take_succ_cons, List.take_zero] at hy0 hy1 hy2
  obtain ⟨p, e0, -⟩ := DataW.trod_bool Tryd.underlying4 hy0
  obtain ⟨E, e2, -, hE⟩ := DataW.trod_int Tryd.underlying3 hy2
  simp only [List.cons.injEq, and_true] at e0 e2
  subst e0 e2
  rcases open_ints Tryd.underlying22 Tryd.underlying56 (by kernel_rfl) hy1 with ⟨hcs, hx⟩ | ⟨a, len', cap', zs, hcs, _, hl, hm, hz, hx, hcell, hwz⟩
  · simp only [List.cons.injEq, and_true] at hcs
    subst hcs
    exact ⟨p, [], none, 0, E, rfl, Nat.le_refl _, by omega, Or.inl rfl, (fun _ h => by cases h), hE⟩
  · simp only [List.cons.injEq, and_true] at hcs
    subst hcs
    simp only [if_true] at hz
    obtain ⟨lw, a1, c1', he, h1, h2, h3, h4⟩ : ∃ lw, RdV W (.slice (some a) len' cap') lw := ⟨_, rdv_of hl hm hz hwz (fun h => by cases h) (fun a' h i hi => by cases h; exact hcell i (by omega))⟩
    refine ⟨p, _, a1, c1', E, ?_, h1, h2, h3, h4, hE⟩
    rw [he]

set_option maxRecDepth 100000 in
/-- What the walk gives, for every argument. -/
theorem contract {H : Type} (enc : TypeId × Value → H) (W : World) (base : Nat) (args : Array Value) (ds gs : List (DataW H)) (before : List MemPlace)
    (hval : ∀ (j : Nat) t v, Tryd.f5.params[j]? = some t → args[j]? = some v → Value.okWide Tryd.prog W .any base t v)
    (hW : DataW.Whole enc Tryd.prog Tryd.f5.params.toList Rows.floBetweenSpec.vars false W args.toList ds gs before) (hL : laidMetH Tryd.prog Rows.floBetweenRow.laid W) :
    Calls Tryd.prog 5 args W fun e W' => ∃ v, e = .returned v ∧ Rows.floBetweenSpec.post enc Tryd.prog Tryd.f5 false true false false W args v W' := by
  have hW' := hW
  obtain ⟨p, q, hA0, hV, rfl, hfz, hnd⟩ := hW
  have hA : DataW.TrodAll enc Tryd.prog W 0 (fun _ => true) true Tryd.f5.params.toList args.toList ds p := hA0
  rw [Tryd.params5] at hA hval
  obtain ⟨v0, vs0, d0, ds0, p0, q0, e0, rfl, rfl, h0, hr0⟩ := trodAll_cons hA
  obtain ⟨v1, vs1, d1, ds1, p1, q1, rfl, rfl, rfl, h1, hr1⟩ := trodAll_cons hr0
  obtain ⟨rfl, rfl, rfl⟩ := trodAll_nil hr1
  obtain rfl : args = #[v0, v1] := by cases args; simp_all
  obtain ⟨rfl, rfl⟩ := trodVars_none hV
  obtain ⟨V, rfl, rfl, rfl, wV⟩ := open_float Tryd.underlying60 (hval 1 _ v1 rfl rfl) h1
  obtain ⟨pX, lX, aX, cX, EX, rfl, hX1, hX2, rX, limX, wX⟩ := open_num (hval 0 _ v0 rfl rfl) h0
  have walk : Calls Tryd.prog 5 #[.agg #[.bool pX, .slice aX lX.length cX, .int .i64 EX], .float .f64 V] W fun e w' => RetV W (.bool true) e w' := by
    have hT := table hL
    have hV : V < 18446744073709551616 := by simpa [Lit.wf] using wV
    by_cases h : lX.length ≤ 40 ∧ -3000 ≤ EX ∧ EX ≤ 3000
    · exact btw_ok pX aX lX.length cX lX EX V W rfl rX limX h.1 h.2.1 h.2.2 hV hT
    · exact btw_heavy pX aX lX.length cX EX V W (by omega) (by omega) hT
  clear hA0
  refine walk.mono fun e W' ⟨he, hg⟩ => ?_
  subst he
  exact ⟨_, rfl, post_true hW' rfl hg rfl Tryd.underlying4 (fun t ht => by
    rw [Tryd.params5] at ht
    simp at ht
    rcases ht with rfl | rfl <;> exact ⟨by kernel_rfl, of_decide_eq_true (by kernel_rfl)⟩) rfl rfl rfl⟩

theorem laid_met (os : Os) : laidMet Tryd.prog Rows.floBetweenRow.laid ((laidWorld os).forCall (fun _ _ => 0) ⟨#[], #[.agg #[.bool false, .slice none 0 0, .int .i64 0], .float .f64 0], []⟩).memory :=
  laidMet_of_run' 8 (by kernel_rfl) (by kernel_rfl)
theorem reads (os : Os) {H : Type} (enc : TypeId × Value → H) : ∃ places, DataW.whole enc Tryd.prog ((laidWorld os).forCall (fun _ _ => 0) ⟨#[], #[.agg #[.bool false, .slice none 0 0, .int .i64 0], .float .f64 0], []⟩).memory Tryd.f5.params.toList Rows.floBetweenSpec.vars false #[Value.agg #[.bool false, .slice none 0 0, .int .i64 0], Value.float .f64 0].toList 8 = some ([.agg [.lit (.bool false), .nil, .lit (.int .i64 0)], .lit (.float .f64 0)], [], places) :=
  ⟨[], by kernel_rfl⟩

set_option maxRecDepth 100000 in
theorem lifted (os : Os) (started : os.Started) (H : Type) (enc : TypeId × Value → H) (F : Stop.Interp) :
    ReturnsInHanded {} Tryd.checked os 5 .any ((OpenSpec.ofChange Rows.floBetweenSpec).preRow enc Tryd.prog Tryd.f5 Rows.floBetweenRow.domain false Rows.floBetweenRow.laid) (((OpenSpec.ofChange Rows.floBetweenSpec).at F).post enc Tryd.prog Tryd.f5 false true false false) := by
  obtain ⟨places, hx⟩ := reads os enc
  refine returnsInHanded_of_row (C := Tryd.checked) (s := OpenSpec.ofChange Rows.floBetweenSpec) own started (by kernel_rfl) Tryd.func5
    (witness_row_at (enc := enc) (C := Tryd.checked) false (laidWorld os) #[.agg #[.bool false, .slice none 0 0, .int .i64 0], .float .f64 0] rfl (by kernel_rfl) (by kernel_rfl) (by kernel_rfl)
      (OpenSpec.preRow_of_cond 8 hx (by kernel_rfl) (fun k hk => by cases hk) (by kernel_rfl) (laid_met os))) ?_
  intro W base args ds gs before hval hW _ _ _ hL _ _
  exact contract enc W base args ds gs before hval hW hL

theorem said : Rows.FloBetweenSaid :=
  OpenClaim.holds_of_cond 5 Tryd.f5 rfl rfl rfl rfl rfl rfl rfl ⟨rfl, rfl, rfl, rfl, rfl⟩ rfl rfl rfl rfl rfl (by kernel_rfl) Tryd.func5 (by kernel_rfl)
    (of_decide_eq_true (by kernel_rfl)) (by unfold Func.isWrapper; first | (rw [if_pos (by decide +kernel)]; kernel_rfl) | (rw [if_neg (by decide +kernel)]; exact ⟨rfl, rfl⟩))
    (fun os started H enc _ F => by rw [OpenClaim.pre_eq_preRow]; exact lifted os started H enc F)

/-- No parameter wants a stand-in; the program's own looks are off: what the card asks. -/
theorem plain (f : FuncId) (fn : Func) (hf : Tryd.pinned.checked.prog.funcNamed "compass/compasslaw4.FloBetween" = some f) (hfn : Tryd.pinned.checked.prog.funcs[f]? = some fn) :
    false = Tryd.pinned.checked.prog.looks [] ∧ ∀ (j : Nat) t, fn.params[j]? = some t → Tryd.pinned.checked.prog.wantsStandIn t = false := by
  obtain rfl : f = 5 := Option.some.inj ((show Tryd.prog.funcNamed "compass/compasslaw4.FloBetween" = some 5 by kernel_rfl).symm.trans hf) |>.symm
  obtain rfl : fn = Tryd.f5 := (Option.some.inj (Tryd.func5.symm.trans hfn)).symm
  refine ⟨by kernel_rfl, fun j t ht => ?_⟩
  rw [Tryd.params5] at ht
  have ht' := Array.mem_of_getElem? ht
  simp at ht'
  rcases ht' with rfl | rfl
  · exact (show Tryd.prog.wantsStandIn 59 = false by kernel_rfl)
  · exact (show Tryd.prog.wantsStandIn 60 = false by kernel_rfl)

/-- The card. -/
theorem card : Rows.FloBetweenCardSaid :=
  Claim7.holds_tied_plain_at .later [] _ _ _ _ said (fun _ h => by cases h) (by kernel_rfl) (fun _ h => by cases h) floBetween_row_tie rfl ⟨rfl, rfl⟩ (by kernel_rfl) rfl plain (by kernel_rfl)

end Go.Proofs.YtfanhllcoaondaaDoor.FloBetweenRow
