/- The statement FloTells is true: its row, and its card. -/
import Derived.Test.YtfanhllcoaondaaGreatDoorCards
import Derived.Test.YtfanhllcoaondaaGreatDoorTie
import Derived.Test.YtfanhllcoaondaaGreatDoorPk4
import Derived.Test.YtfanhllcoaondaaGreatDoorPk30
import Derived.Lib.LaidTab
import Derived.Deep.Strs
import Derived.Laws.Cover2
namespace Go.Proofs.YtfanhllcoaondaaGreatDoor.FloTellsRow
open Go.ChangeShapes Go.WideShapes Go.ChangeAt Go.RowKit Go.Deep

theorem cells6 : Tryz.prog.cellsOf 78 = 1 := by kernel_rfl
theorem int_lim {m : Int} (h : (Lit.int .i64 m).wf = true) : -9223372036854775808 ≤ m ∧ m ≤ 9223372036854775807 := by
  simp [Lit.wf, IntKind.min, IntKind.max, IntKind.signed, IntKind.bits] at h
  omega
theorem gTab : Tryz.prog.globalNamed "math/bits.deBruijn64tab" = some 3 := by kernel_rfl
theorem gTabType : (Tryz.prog.globals[3]?).map (·.type) = some 186 := by kernel_rfl
theorem cellsTab : Tryz.prog.cellsOf 186 = 64 := by kernel_rfl
theorem cells8 : Tryz.prog.cellsOf 5 = 1 := by kernel_rfl

/-- What the row's list gives: the table lies in its variable. -/
theorem table {W : World} {rest : List (String × DataW Unit)} (h : laidMet Tryz.prog (("math/bits.deBruijn64tab", Rows.laid_math_bits_deBruijn64tab) :: rest) W) : Tab64 W := by
  have ht := Lib.tabIs_of_head (k := .u8) (zs := Lib.deBruijn64tab.map Int.ofNat) gTab gTabType Tryz.underlying186 Tryz.underlying5 cells8 cellsTab h
  intro j hj
  have hc := ht.cell gTab j (by simpa using hj)
  rw [hc]
  simp [List.getD, hj]

set_option maxRecDepth 100000 in
/-- An argument that is a number as it is handed in. -/
theorem open_num {H : Type} {enc : TypeId × Value → H} {base : Nat} {W : World} {v : Value} {d : DataW H} {ps : List MemPlace}
    (hval : Value.okWide Tryz.prog W .any base 55 v) (hd : DataW.Trod enc Tryz.prog W 0 (fun _ => true) true 55 v d ps) :
    ∃ (p : Bool) (l : List Int) (a : Option Addr) (c : Nat) (E : Int), v = .agg #[.bool p, .slice a l.length c, .int .i64 E] ∧ l.length ≤ c ∧ c ≤ 9223372036854775807 ∧ Rd W a l ∧ Lim B64 l ∧ (Lit.int .i64 E).wf = true := by
  obtain ⟨cs, rfl, hsz, _⟩ : ∃ cs, v = .agg cs ∧ cs.size = Tryz.prog.cellsOf 55 ∧ Row.okWide Tryz.prog W .any base 55 cs := by
    simpa [Value.okWide, Tryz.underlying55] using hval
  rw [show Tryz.prog.cellsOf 55 = 3 by kernel_rfl] at hsz
  obtain ⟨cs⟩ := cs
  obtain ⟨x0, x1, x2, rfl⟩ : ∃ x y z, cs = [x, y, z] := by
    match cs, hsz with
    | [x, y, z], _ => exact ⟨x, y, z, rfl⟩
  obtain ⟨fuel, hf⟩ := hd
  obtain ⟨y0, y1, y2, m, -, -, hy0, hy1, hy2⟩ := trod_struct3 Tryz.underlying55 hf
  have c0 : Tryz.prog.cellsOf 4 = 1 := by kernel_rfl
  have c1 : Tryz.prog.cellsOf 22 = 1 := by kernel_rfl
  have c2 : Tryz.prog.cellsOf 3 = 1 := by kernel_rfl
  simp only [c0, c1, c2, Value.cells, List.drop_succ_cons, List.drop_zero, List.take_succ_cons, List.take_zero] at hy0 hy1 hy2
  obtain ⟨p, e0, -⟩ := DataW.trod_bool Tryz.underlying4 hy0
  obtain ⟨E, e2, -, hE⟩ := DataW.trod_int Tryz.underlying3 hy2
  simp only [List.cons.injEq, and_true] at e0 e2
  subst e0 e2
  rcases open_ints Tryz.underlying22 Tryz.underlying78 (by kernel_rfl) hy1 with ⟨hcs, hx⟩ | ⟨a, len', cap', zs, hcs, _, hl, hm, hz, hx, hcell, hwz⟩
  · simp only [List.cons.injEq, and_true] at hcs
    subst hcs
    exact ⟨p, [], none, 0, E, rfl, Nat.le_refl _, by omega, Or.inl rfl, (fun _ h => by cases h), hE⟩
  · simp only [List.cons.injEq, and_true] at hcs
    subst hcs
    simp only [if_true] at hz
    obtain ⟨lw, a1, c1', he, h1, h2, h3, h4⟩ : ∃ lw, RdV W (.slice (some a) len' cap') lw := ⟨_, rdv_of hl hm hz hwz (fun h => by cases h) (fun a' h i hi => by cases h; exact hcell i (by omega))⟩
    refine ⟨p, _, a1, c1', E, ?_, h1, h2, h3, h4, hE⟩
    rw [he]

set_option maxRecDepth 100000 in
/-- What the walk gives, for every argument. -/
theorem contract {H : Type} (enc : TypeId × Value → H) (W : World) (base : Nat) (args : Array Value) (ds gs : List (DataW H)) (before : List MemPlace)
    (hval : ∀ (j : Nat) t v, Tryz.f4.params[j]? = some t → args[j]? = some v → Value.okWide Tryz.prog W .any base t v)
    (hW : DataW.Whole enc Tryz.prog Tryz.f4.params.toList Rows.floTellsSpec.vars false W args.toList ds gs before) (hL : laidMetH Tryz.prog Rows.floTellsRow.laid W) :
    Calls Tryz.prog 4 args W fun e W' => ∃ v, e = .returned v ∧ Rows.floTellsSpec.post enc Tryz.prog Tryz.f4 false true false false W args v W' := by
  have hW' := hW
  obtain ⟨p, q, hA0, hV, rfl, hfz, hnd⟩ := hW
  have hA : DataW.TrodAll enc Tryz.prog W 0 (fun _ => true) true Tryz.f4.params.toList args.toList ds p := hA0
  rw [Tryz.params4] at hA hval
  obtain ⟨v0, vs0, d0, ds0, p0, q0, e0, rfl, rfl, h0, hr0⟩ := trodAll_cons hA
  obtain ⟨v1, vs1, d1, ds1, p1, q1, rfl, rfl, rfl, h1, hr1⟩ := trodAll_cons hr0
  obtain ⟨v2, vs2, d2, ds2, p2, q2, rfl, rfl, rfl, h2, hr2⟩ := trodAll_cons hr1
  obtain ⟨rfl, rfl, rfl⟩ := trodAll_nil hr2
  obtain rfl : args = #[v0, v1, v2] := by cases args; simp_all
  obtain ⟨rfl, rfl⟩ := trodVars_none hV
  obtain ⟨B, rfl, rfl, rfl, wB⟩ := open_int Tryz.underlying3 (hval 2 _ v2 rfl rfl) h2
  obtain ⟨pX, lX, aX, cX, EX, rfl, hX1, hX2, rX, limX, wX⟩ := open_num (hval 1 _ v1 rfl rfl) h1
  obtain ⟨V, rfl, rfl, rfl, wV⟩ := open_float Tryz.underlying53 (hval 0 _ v0 rfl rfl) h0
  have walk : Calls Tryz.prog 4 #[.float .f64 V, .agg #[.bool pX, .slice aX lX.length cX, .int .i64 EX], .int .i64 B] W fun e w' => RetV W (.bool true) e w' := by
    have hT := table hL
    have hV : V < 18446744073709551616 := by simpa [Lit.wf] using wV
    by_cases h : lX.length ≤ 40 ∧ -3000 ≤ EX ∧ EX ≤ 3000
    · by_cases hf : rg V < INF
      · exact ftell_fin V pX aX lX.length cX lX EX B W rfl rX limX h.1 h.2.1 h.2.2 hV hT hf
      · exact ftell_inf V pX aX lX.length cX lX EX B W rfl rX limX h.1 h.2.1 h.2.2 hV hT hf
    · exact ftell_heavy V pX aX lX.length cX EX B W (by omega) (by omega) hT
  clear hA0
  refine walk.mono fun e W' ⟨he, hg⟩ => ?_
  subst he
  exact ⟨_, rfl, post_true hW' rfl hg rfl Tryz.underlying4 (fun t ht => by
    rw [Tryz.params4] at ht
    simp at ht
    rcases ht with rfl | rfl | rfl <;> exact ⟨by kernel_rfl, of_decide_eq_true (by kernel_rfl)⟩) rfl rfl rfl⟩

theorem laid_met (os : Os) : laidMet Tryz.prog Rows.floTellsRow.laid ((laidWorld os).forCall (fun _ _ => 0) ⟨#[], #[.float .f64 0, .agg #[.bool false, .slice none 0 0, .int .i64 0], .int .i64 0], []⟩).memory :=
  laidMet_of_run' 8 (by kernel_rfl) (by kernel_rfl)
theorem reads (os : Os) {H : Type} (enc : TypeId × Value → H) : ∃ places, DataW.whole enc Tryz.prog ((laidWorld os).forCall (fun _ _ => 0) ⟨#[], #[.float .f64 0, .agg #[.bool false, .slice none 0 0, .int .i64 0], .int .i64 0], []⟩).memory Tryz.f4.params.toList Rows.floTellsSpec.vars false #[Value.float .f64 0, Value.agg #[.bool false, .slice none 0 0, .int .i64 0], Value.int .i64 0].toList 8 = some ([.lit (.float .f64 0), .agg [.lit (.bool false), .nil, .lit (.int .i64 0)], .lit (.int .i64 0)], [], places) :=
  ⟨[], by kernel_rfl⟩

set_option maxRecDepth 100000 in
theorem lifted (os : Os) (started : os.Started) (H : Type) (enc : TypeId × Value → H) (F : Stop.Interp) :
    ReturnsInHanded {} Tryz.checked os 4 .any ((OpenSpec.ofChange Rows.floTellsSpec).preRow enc Tryz.prog Tryz.f4 Rows.floTellsRow.domain false Rows.floTellsRow.laid) (((OpenSpec.ofChange Rows.floTellsSpec).at F).post enc Tryz.prog Tryz.f4 false true false false) := by
  obtain ⟨places, hx⟩ := reads os enc
  refine returnsInHanded_of_row (C := Tryz.checked) (s := OpenSpec.ofChange Rows.floTellsSpec) own started (by kernel_rfl) Tryz.func4
    (witness_row_at (enc := enc) (C := Tryz.checked) false (laidWorld os) #[.float .f64 0, .agg #[.bool false, .slice none 0 0, .int .i64 0], .int .i64 0] rfl (by kernel_rfl) (by kernel_rfl) (by kernel_rfl)
      (OpenSpec.preRow_of_cond 8 hx (by kernel_rfl) (fun k hk => by cases hk) (by kernel_rfl) (laid_met os))) ?_
  intro W base args ds gs before hval hW _ _ _ hL _ _
  exact contract enc W base args ds gs before hval hW hL

theorem said : Rows.FloTellsSaid :=
  OpenClaim.holds_of_cond 4 Tryz.f4 rfl rfl rfl rfl rfl rfl rfl ⟨rfl, rfl, rfl, rfl, rfl⟩ rfl rfl rfl rfl rfl (by kernel_rfl) Tryz.func4 (by kernel_rfl)
    (of_decide_eq_true (by kernel_rfl)) (by unfold Func.isWrapper; first | (rw [if_pos (by decide +kernel)]; kernel_rfl) | (rw [if_neg (by decide +kernel)]; exact ⟨rfl, rfl⟩))
    (fun os started H enc _ F => by rw [OpenClaim.pre_eq_preRow]; exact lifted os started H enc F)

/-- No parameter wants a stand-in; the program's own looks are off: what the card asks. -/
theorem plain (f : FuncId) (fn : Func) (hf : Tryz.pinned.checked.prog.funcNamed "compass/compasslaw4.FloTells" = some f) (hfn : Tryz.pinned.checked.prog.funcs[f]? = some fn) :
    false = Tryz.pinned.checked.prog.looks [] ∧ ∀ (j : Nat) t, fn.params[j]? = some t → Tryz.pinned.checked.prog.wantsStandIn t = false := by
  obtain rfl : f = 4 := Option.some.inj ((show Tryz.prog.funcNamed "compass/compasslaw4.FloTells" = some 4 by kernel_rfl).symm.trans hf) |>.symm
  obtain rfl : fn = Tryz.f4 := (Option.some.inj (Tryz.func4.symm.trans hfn)).symm
  refine ⟨by kernel_rfl, fun j t ht => ?_⟩
  rw [Tryz.params4] at ht
  have ht' := Array.mem_of_getElem? ht
  simp at ht'
  rcases ht' with rfl | rfl | rfl
  · exact (show Tryz.prog.wantsStandIn 53 = false by kernel_rfl)
  · exact (show Tryz.prog.wantsStandIn 55 = false by kernel_rfl)
  · exact (show Tryz.prog.wantsStandIn 3 = false by kernel_rfl)

/-- The card. -/
theorem card : Rows.FloTellsCardSaid :=
  Claim7.holds_tied_plain_at .later [] _ _ _ _ said (fun _ h => by cases h) (by kernel_rfl) (fun _ h => by cases h) floTells_row_tie rfl ⟨rfl, rfl⟩ (by kernel_rfl) rfl plain (by kernel_rfl)

end Go.Proofs.YtfanhllcoaondaaGreatDoor.FloTellsRow
