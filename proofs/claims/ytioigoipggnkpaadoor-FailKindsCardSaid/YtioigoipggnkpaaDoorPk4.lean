/-
  Err1: errors.Is over a chain of errors that the program made.
  Err2: errors.As of a chain of errors, at a variable of type *At.
  Err3: errors.As of a chain of errors: its first *At, or none.
  Err4: errors.As, whole.
-/
import Derived.Lib.Hide
import Derived.WalkLawsBesides
import Derived.WalkSpells
import Derived.Test.YtioigoipggnkpaaDoorChecked
import Derived.WalkKit
import Derived.LaidEql
import Derived.Stop.Asserts
import Derived.RowKitTokens
import Derived.Deep.LoopGhost
import Derived.Lib.IfaceEq
import Derived.Test.YtioigoipggnkpaaDoorPk2

namespace Go.Proofs.YtioigoipggnkpaaDoor
open Go.RowKit Go.Extern.Stop Go.Stop Go.Extern

theorem noIsE (v : Value) (xT : TypeId) (w : World) : (Instr.typeAssert (.iface 54 v) xT 79 true).run Tryd.prog w = .ok (.tuple #[.nilIface, .bool false]) w := run_typeAssert_lacksB Tryd.underlying79 (by kernel_rfl) (by kernel_rfl) v xT w
theorem noUnwrapE (v : Value) (xT : TypeId) (w : World) : (Instr.typeAssert (.iface 54 v) xT 82 true).run Tryd.prog w = .ok (.tuple #[.nilIface, .bool false]) w := run_typeAssert_lacksB Tryd.underlying82 (by kernel_rfl) (by kernel_rfl) v xT w
theorem noUnwrapsE (v : Value) (xT : TypeId) (w : World) : (Instr.typeAssert (.iface 54 v) xT 83 true).run Tryd.prog w = .ok (.tuple #[.nilIface, .bool false]) w := run_typeAssert_lacksB Tryd.underlying83 (by kernel_rfl) (by kernel_rfl) v xT w
theorem noIsK (v : Value) (xT : TypeId) (w : World) : (Instr.typeAssert (.iface 49 v) xT 79 true).run Tryd.prog w = .ok (.tuple #[.nilIface, .bool false]) w := run_typeAssert_lacksB Tryd.underlying79 (by kernel_rfl) (by kernel_rfl) v xT w
theorem noUnwrapK (v : Value) (xT : TypeId) (w : World) : (Instr.typeAssert (.iface 49 v) xT 82 true).run Tryd.prog w = .ok (.tuple #[.nilIface, .bool false]) w := run_typeAssert_lacksB Tryd.underlying82 (by kernel_rfl) (by kernel_rfl) v xT w
theorem noUnwrapsK (v : Value) (xT : TypeId) (w : World) : (Instr.typeAssert (.iface 49 v) xT 83 true).run Tryd.prog w = .ok (.tuple #[.nilIface, .bool false]) w := run_typeAssert_lacksB Tryd.underlying83 (by kernel_rfl) (by kernel_rfl) v xT w
theorem noIsA (v : Value) (xT : TypeId) (w : World) : (Instr.typeAssert (.iface 42 v) xT 79 true).run Tryd.prog w = .ok (.tuple #[.nilIface, .bool false]) w := run_typeAssert_lacksB Tryd.underlying79 (by kernel_rfl) (by kernel_rfl) v xT w
theorem hasUnwrapA (v : Value) (xT : TypeId) (w : World) : (Instr.typeAssert (.iface 42 v) xT 82 true).run Tryd.prog w = .ok (.tuple #[.iface 42 v, .bool true]) w := run_typeAssert_hasB Tryd.underlying82 (by kernel_rfl) v xT w
theorem noIsW (v : Value) (xT : TypeId) (w : World) : (Instr.typeAssert (.iface 57 v) xT 79 true).run Tryd.prog w = .ok (.tuple #[.nilIface, .bool false]) w := run_typeAssert_lacksB Tryd.underlying79 (by kernel_rfl) (by kernel_rfl) v xT w
theorem hasUnwrapW (v : Value) (xT : TypeId) (w : World) : (Instr.typeAssert (.iface 57 v) xT 82 true).run Tryd.prog w = .ok (.tuple #[.iface 57 v, .bool true]) w := run_typeAssert_hasB Tryd.underlying82 (by kernel_rfl) v xT w

/-- (*At).Unwrap. -/
theorem unwrap_at (p : Nat) (v : Value) (w : World) (h1 : w.cell? ⟨p, 1, none⟩ = some v) : Calls Tryd.prog 17 #[.pointer (some ⟨p, 0, none⟩)] w fun e w' => e = .returned v ∧ w = w' := by
  go_enter Tryd.func17, Tryd.ntmps17
  go_wp2_with fail
  go_ret
  exact ⟨rfl, rfl⟩
theorem unwrap_in (p : Nat) (v : Value) (w : World) (h1 : w.cell? ⟨p, 1, none⟩ = some v) : Calls Tryd.prog 81 #[.pointer (some ⟨p, 0, none⟩)] w fun e w' => e = .returned v ∧ w = w' := by
  go_enter Tryd.func81, Tryd.ntmps81
  go_wp2_with fail
  go_ret
  exact ⟨rfl, rfl⟩
theorem methodUnwrapA (v : Value) (w : World) : (Go.method 241 42 v "Unwrap").run Tryd.prog w = .ok (17, v) w := by kernel_rfl
theorem methodUnwrapW (v : Value) (w : World) : (Go.method 241 57 v "Unwrap").run Tryd.prog w = .ok (81, v) w := by kernel_rfl
theorem compK : (Tryd.prog.info? 49).map (·.comparable) = some true := by kernel_rfl

/-- A chain of wrapped errors, k of them, with the kind's number at its end, or nothing or another error, and its first *At. -/
inductive Ch (w : World) : Value → Option Int → Option (Nat × Int) → Nat → Prop where
  | nil : Ch w .nilIface none none 0
  | kind (n : Int) : Ch w (.iface 49 (.int .i64 n)) (some n) none 1
  | other (x : Value) : Ch w (.iface 54 x) none none 1
  | node {p k : Nat} {n : Int} {v : Value} {o : Option Int} {f : Option (Nat × Int)} : w.cell? ⟨p, 0, none⟩ = some (.int .i64 n) → w.cell? ⟨p, 1, none⟩ = some v → Ch w v o f k → Ch w (.iface 42 (.pointer (some ⟨p, 0, none⟩))) o (some (p, n)) (k + 1)
  | said {p k : Nat} {s : Value} {v : Value} {o : Option Int} {f : Option (Nat × Int)} : w.cell? ⟨p, 0, none⟩ = some s → w.cell? ⟨p, 1, none⟩ = some v → Ch w v o f k → Ch w (.iface 57 (.pointer (some ⟨p, 0, none⟩))) o f (k + 1)
theorem cell_under {w w' : World} {a : Addr} {v : Value} (hb : Below w.heap.size w w') (h : w.cell? a = some v) : w'.cell? a = some v := by
  rw [hb.cell (p := a) (World.block_lt_of_cell? _ _ h)]
  exact h
theorem Ch.under {w w' : World} {v : Value} {o : Option Int} {f : Option (Nat × Int)} {k : Nat} (h : Ch w v o f k) (hb : Below w.heap.size w w') : Ch w' v o f k := by
  induction h with
  | nil => exact .nil
  | kind n => exact .kind n
  | other x => exact .other x
  | node h1 h2 _ ih => exact .node (cell_under hb h1) (cell_under hb h2) ih
  | said h1 h2 _ ih => exact .said (cell_under hb h1) (cell_under hb h2) ih
theorem Ch.open {w : World} {v : Value} {o : Option Int} {f : Option (Nat × Int)} {k : Nat} (h : Ch w v o f k) (hk : 0 < k) :
    (∃ n, v = .iface 49 (.int .i64 n) ∧ o = Option.some n ∧ f = Option.none) ∨
    (∃ x, v = .iface 54 x ∧ o = Option.none ∧ f = Option.none) ∨
    (∃ p k2 n v2 f2, k = k2 + 1 ∧ v = .iface 42 (.pointer (Option.some ⟨p, 0, none⟩)) ∧ f = Option.some (p, n) ∧ w.cell? ⟨p, 0, none⟩ = Option.some (.int .i64 n) ∧ w.cell? ⟨p, 1, none⟩ = Option.some v2 ∧ Ch w v2 o f2 k2) ∨
    (∃ p k2 s v2, k = k2 + 1 ∧ v = .iface 57 (.pointer (Option.some ⟨p, 0, none⟩)) ∧ w.cell? ⟨p, 0, none⟩ = Option.some s ∧ w.cell? ⟨p, 1, none⟩ = Option.some v2 ∧ Ch w v2 o f k2) := by
  cases h with
  | nil => omega
  | kind n => exact Or.inl ⟨_, rfl, rfl, rfl⟩
  | other x => exact Or.inr (Or.inl ⟨_, rfl, rfl, rfl⟩)
  | node h1 h2 h3 => exact Or.inr (Or.inr (Or.inl ⟨_, _, _, _, _, rfl, rfl, rfl, h1, h2, h3⟩))
  | said h1 h2 h3 => exact Or.inr (Or.inr (Or.inr ⟨_, _, _, _, rfl, rfl, h1, h2, h3⟩))
theorem Ch.some {w : World} {v : Value} {o : Option Int} {f : Option (Nat × Int)} {k : Nat} (h : Ch w v o f k) : (k = 0 ∧ v = .nilIface ∧ o = none ∧ f = none) ∨ (0 < k ∧ ∃ t x, v = .iface t x) := by
  cases h with
  | nil => exact Or.inl ⟨rfl, rfl, rfl, rfl⟩
  | kind _ => exact Or.inr ⟨by omega, _, _, rfl⟩
  | other _ => exact Or.inr ⟨by omega, _, _, rfl⟩
  | node _ _ _ => exact Or.inr ⟨by omega, _, _, rfl⟩
  | said _ _ _ => exact Or.inr ⟨by omega, _, _, rfl⟩
set_option maxRecDepth 100000 in
set_option maxHeartbeats 2000000 in
/-- errors.is of a chain. -/
theorem is_chain {w : World} {v : Value} {o : Option Int} {f : Option (Nat × Int)} {k : Nat} (b : Int) (h : Ch w v o f k) (hk : 0 < k) :
    Calls Tryd.prog 28 #[v, .iface 49 (.int .i64 b), .bool true] w fun e w' => e = .returned (.bool (decide (o = some b))) ∧ w' = w := by
  have HH := Lib.hid h
  go_enter Tryd.func28, Tryd.ntmps28
  go_wp2_with fail
  go_loopg [0, 7, 8, 9, 10, 12, 13] k (fun kd e0 _ _ _ _ _ _ wr => 0 < kd ∧ Hid (∃ f, Ch w e0 o f kd) ∧ wr = w)
  case atStart => exact ⟨hk, Lib.hid ⟨f, HH.out⟩, rfl⟩
  case round =>
    obtain ⟨hk', HC, rfl⟩ := hrel
    clear HH h
    obtain ⟨f', hc⟩ := HC.out
    clear HC
    rcases hc.open hk' with ⟨n, rfl, rfl, rfl⟩ | ⟨x, rfl, rfl, rfl⟩ | ⟨p, k2, n, v2, f2, rfl, rfl, rfl, h0, h1, h2⟩ | ⟨p, k2, n, v2, rfl, rfl, h0, h1, h2⟩
    · clear hc
      have nE := noIsK
      have uE := noUnwrapK
      have vE := noUnwrapsK
      have heq := Lib.run_eql_iface_int (P := Tryd.prog) wr (k := .i64) n b Tryd.underlying28 compK Tryd.underlying49
      by_cases he : n = b
      · subst he
        rw [show (n == n) = true by simp] at heq
        go_wp2_with fail
        go_ret
        exact ⟨by simp, rfl⟩
      · rw [show (n == b) = false by simp [he]] at heq
        go_wp2_with fail
        go_ret
        exact ⟨by simp [he], rfl⟩
    · clear hc
      have nE := noIsE
      have uE := noUnwrapE
      have vE := noUnwrapsE
      have hty := run_eql_iface_types (P := Tryd.prog) 54 49 x (.int .i64 b) Tryd.underlying28 (by decide) wr
      go_wp2_with fail
      go_ret
      exact ⟨by simp, rfl⟩
    · clear hc h0
      have HC2 : Hid (∃ f, Ch wr v2 o f k2) := Lib.hid ⟨_, h2⟩
      have nA := noIsA
      have uA := hasUnwrapA
      have mA := methodUnwrapA
      have hty := run_eql_iface_types (P := Tryd.prog) 42 49 (.pointer (some ⟨p, 0, none⟩)) (.int .i64 b) Tryd.underlying28 (by decide) wr
      have HU := Lib.hid (unwrap_at p v2 wr h1)
      rcases h2.some with ⟨rfl, rfl, rfl, -⟩ | ⟨hk2, t2, x2, rfl⟩
      · clear h2
        go_wp2_with fail
        refine HU.out.mono ?_
        rintro e w' ⟨rfl, rfl⟩
        go_wp2_with fail
        go_ret
        exact ⟨by simp, rfl⟩
      · clear h2
        go_wp2_with fail
        refine HU.out.mono ?_
        rintro e w' ⟨rfl, rfl⟩
        go_wp2_with fail
        go_roundg k2
        case measure => omega
        case rel => exact ⟨hk2, HC2, rfl⟩
    · clear hc h0
      have HC2 : Hid (∃ f, Ch wr v2 o f k2) := Lib.hid ⟨_, h2⟩
      have nA := noIsW
      have uA := hasUnwrapW
      have mA := methodUnwrapW
      have hty := run_eql_iface_types (P := Tryd.prog) 57 49 (.pointer (some ⟨p, 0, none⟩)) (.int .i64 b) Tryd.underlying28 (by decide) wr
      have HU := Lib.hid (unwrap_in p v2 wr h1)
      rcases h2.some with ⟨rfl, rfl, rfl, -⟩ | ⟨hk2, t2, x2, rfl⟩
      · clear h2
        go_wp2_with fail
        refine HU.out.mono ?_
        rintro e w' ⟨rfl, rfl⟩
        go_wp2_with fail
        go_ret
        exact ⟨by simp, rfl⟩
      · clear h2
        go_wp2_with fail
        refine HU.out.mono ?_
        rintro e w' ⟨rfl, rfl⟩
        go_wp2_with fail
        go_roundg k2
        case measure => omega
        case rel => exact ⟨hk2, HC2, rfl⟩

theorem isTypeOf (v : Value) (w : World) : (Extern.ReflectliteType.typeOf #[.iface 49 v]).run Tryd.prog w = .ok (.iface 77 (.agg #[.pointer (some ⟨4, 49, none⟩)])) w := by kernel_rfl
theorem isComparable (w : World) : ((Extern.ReflectliteType.method fun t => do Extern.Rtype.noPackHeld "Comparable" t; (fun a => Value.bool a.comparable) <$> typeInfo t) #[.agg #[.pointer (some ⟨4, 49, none⟩)]]).run Tryd.prog w = .ok (.bool true) w := by kernel_rfl
theorem isMethodComparable (v : Value) (w : World) : (Go.method 241 77 v "Comparable").run Tryd.prog w = .ok (87, v) w := by kernel_rfl
set_option maxRecDepth 100000 in
/-- errors.Is of a chain. -/
theorem is_of {w : World} {v : Value} {o : Option Int} {f : Option (Nat × Int)} {k : Nat} (b : Int) (h : Ch w v o f k) :
    Calls Tryd.prog 10 #[v, .iface 49 (.int .i64 b)] w fun e w' => e = .returned (.bool (decide (o = some b))) ∧ w' = w := by
  rcases h.some with ⟨rfl, rfl, rfl, -⟩ | ⟨hk, t2, x2, rfl⟩
  · have hn := run_eql_iface_nil_left (P := Tryd.prog) w 49 (.int .i64 b) Tryd.underlying28
    go_enter Tryd.func10, Tryd.ntmps10
    go_wp2_with fail
    go_ret
    exact ⟨by simp, rfl⟩
  · have h8 := @run_callFunc_extern Tryd.prog 27 _ Extern.ReflectliteType.typeOf Tryd.func27 (by kernel_rfl) (by kernel_rfl) (by kernel_rfl) (by kernel_rfl)
    have h32 := @run_callFunc_extern Tryd.prog 87 _ (Extern.ReflectliteType.method fun t => do Extern.Rtype.noPackHeld "Comparable" t; pure (.bool (← typeInfo t).comparable)) Tryd.func87 (by kernel_rfl) (by kernel_rfl) (by kernel_rfl) (by kernel_rfl)
    have tT := isTypeOf
    have cT := isComparable
    have mR := isMethodComparable
    have HI := Lib.hid (is_chain b h hk)
    clear h
    go_enter Tryd.func10, Tryd.ntmps10
    go_wp2_with fail
    refine HI.out.mono ?_
    rintro e w' ⟨rfl, rfl⟩
    go_wp2_with fail
    go_ret
    exact ⟨rfl, rfl⟩
end Go.Proofs.YtioigoipggnkpaaDoor

namespace Go.Proofs.YtioigoipggnkpaaDoor
open Go.RowKit Go.Extern.Stop Go.Stop Go.Extern

/-- errors.As(nil, target). -/
theorem as_nil (t : Value) (w : World) : Calls Tryd.prog 16 #[.nilIface, t] w fun e w' => e = .returned (.bool false) ∧ w' = w := by
  go_enter Tryd.func16, Tryd.ntmps16
  go_wp2_with fail
  go_ret
  exact ⟨rfl, rfl⟩
theorem rfValueOf (t : Addr) (w : World) : (ReflectliteValue.unpack (.iface 44 (.pointer (some t)))).run Tryd.prog w
    = .ok (.agg #[.pointer (some ⟨4, 44, none⟩), .pointer (some ⟨w.heap.size, 0, none⟩), .int .u64 150]) (w.alloc (.cells #[.pointer (some t)] 44)) := by kernel_rfl
theorem rfType (a : Addr) (w : World) : (ReflectliteValue.methodAny (ReflectliteValue.valueError "reflectlite.Value.Type" 0) (fun t _ _ _ => ReflectliteType.toType t) #[.agg #[.pointer (some ⟨4, 44, none⟩), .pointer (some a), .int .u64 150]]).run Tryd.prog w
    = .ok (.iface 77 (.agg #[.pointer (some ⟨4, 44, none⟩)])) w := by kernel_rfl
theorem rfMethodKind (h : Value) (w : World) : (Go.method 241 77 (.agg #[h]) "Kind").run Tryd.prog w = .ok (75, h) w := by kernel_rfl
theorem rfKindPP (w : World) : ((ReflectliteType.abiMethod fun t => (fun a : Nat => Value.int IntKind.u8 (a : Int)) <$> Rtype.kind t) #[.pointer (some ⟨4, 44, none⟩)]).run Tryd.prog w = .ok (.int .u8 22) w := by kernel_rfl
theorem rfKindP (w : World) : ((ReflectliteType.abiMethod fun t => (fun a : Nat => Value.int IntKind.u8 (a : Int)) <$> Rtype.kind t) #[.pointer (some ⟨4, 42, none⟩)]).run Tryd.prog w = .ok (.int .u8 22) w := by kernel_rfl
theorem rfParts (a : Addr) (w : World) : (ReflectliteValue.parts (.agg #[.pointer (some ⟨4, 44, none⟩), .pointer (some a), .int .u64 150])).run Tryd.prog w = .ok (some (44, a, 150)) w := by kernel_rfl
theorem rfIsNil (a p : Addr) (W : World) (ha : W.cell? a = some (.pointer (some p))) :
    (ReflectliteValue.method (ReflectliteValue.valueError "reflectlite.Value.IsNil" 0) ReflectliteValue.isNil #[.agg #[.pointer (some ⟨4, 44, none⟩), .pointer (some a), .int .u64 150]]).run Tryd.prog W = .ok (.bool false) W := by
  change Sem.run Tryd.prog (ReflectliteValue.parts (.agg #[.pointer (some ⟨4, 44, none⟩), .pointer (some a), .int .u64 150]) >>= _) W = _
  simp only [Sem.run_bind, rfParts, Result.andThen]
  simp [ReflectliteValue.isNil, loadVar, isAgg, underlying, Tryd.underlying44, ha, Result.andThen]
theorem rfMethodElem (h : Value) (w : World) : (Go.method 241 77 (.agg #[h]) "Elem").run Tryd.prog w = .ok (88, .agg #[h]) w := by kernel_rfl
theorem rfMethodImplements (h : Value) (w : World) : (Go.method 241 77 (.agg #[h]) "Implements").run Tryd.prog w = .ok (89, .agg #[h]) w := by kernel_rfl
theorem rfMethodAssignableTo (h : Value) (w : World) : (Go.method 241 77 (.agg #[h]) "AssignableTo").run Tryd.prog w = .ok (86, .agg #[h]) w := by kernel_rfl
theorem rfElem (w : World) : (ReflectliteType.method ReflectliteType.elem #[.agg #[.pointer (some ⟨4, 44, none⟩)]]).run Tryd.prog w = .ok (.iface 77 (.agg #[.pointer (some ⟨4, 42, none⟩)])) w := by kernel_rfl
theorem rfImplements (w : World) : (ReflectliteType.relation "Implements" ReflectliteType.implements_ #[.agg #[.pointer (some ⟨4, 42, none⟩)], .iface 77 (.agg #[.pointer (some ⟨4, 28, none⟩)])]).run Tryd.prog w = .ok (.bool true) w := by kernel_rfl
theorem rfTypeOfA (v : Value) (w : World) : (ReflectliteType.typeOf #[.iface 42 v]).run Tryd.prog w = .ok (.iface 77 (.agg #[.pointer (some ⟨4, 42, none⟩)])) w := by kernel_rfl
theorem rfTypeOfE (v : Value) (w : World) : (ReflectliteType.typeOf #[.iface 54 v]).run Tryd.prog w = .ok (.iface 77 (.agg #[.pointer (some ⟨4, 54, none⟩)])) w := by kernel_rfl
theorem rfTypeOfK (v : Value) (w : World) : (ReflectliteType.typeOf #[.iface 49 v]).run Tryd.prog w = .ok (.iface 77 (.agg #[.pointer (some ⟨4, 49, none⟩)])) w := by kernel_rfl
theorem rfTypeOfW (v : Value) (w : World) : (ReflectliteType.typeOf #[.iface 57 v]).run Tryd.prog w = .ok (.iface 77 (.agg #[.pointer (some ⟨4, 57, none⟩)])) w := by kernel_rfl
theorem rfAssignA (w : World) : (ReflectliteType.relation "AssignableTo" ReflectliteType.assignableTo #[.agg #[.pointer (some ⟨4, 42, none⟩)], .iface 77 (.agg #[.pointer (some ⟨4, 42, none⟩)])]).run Tryd.prog w = .ok (.bool true) w := by kernel_rfl
theorem rfAssignE (w : World) : (ReflectliteType.relation "AssignableTo" ReflectliteType.assignableTo #[.agg #[.pointer (some ⟨4, 54, none⟩)], .iface 77 (.agg #[.pointer (some ⟨4, 42, none⟩)])]).run Tryd.prog w = .ok (.bool false) w := by kernel_rfl
theorem rfAssignK (w : World) : (ReflectliteType.relation "AssignableTo" ReflectliteType.assignableTo #[.agg #[.pointer (some ⟨4, 49, none⟩)], .iface 77 (.agg #[.pointer (some ⟨4, 42, none⟩)])]).run Tryd.prog w = .ok (.bool false) w := by kernel_rfl
theorem rfAssignW (w : World) : (ReflectliteType.relation "AssignableTo" ReflectliteType.assignableTo #[.agg #[.pointer (some ⟨4, 57, none⟩)], .iface 77 (.agg #[.pointer (some ⟨4, 42, none⟩)])]).run Tryd.prog w = .ok (.bool false) w := by kernel_rfl
theorem rfValueOfA (e : Addr) (w : World) : (ReflectliteValue.unpack (.iface 42 (.pointer (some e)))).run Tryd.prog w
    = .ok (.agg #[.pointer (some ⟨4, 42, none⟩), .pointer (some ⟨w.heap.size, 0, none⟩), .int .u64 150]) (w.alloc (.cells #[.pointer (some e)] 42)) := by kernel_rfl
theorem rfElemOf (w : World) : (Rtype.elem? 44).run Tryd.prog w = .ok (some 42) w := by kernel_rfl
theorem rfMk (p : Addr) (w : World) : (ReflectliteValue.mk 42 p ReflectliteValue.flagAddr).run Tryd.prog w = .ok (.agg #[.pointer (some ⟨4, 42, none⟩), .pointer (some p), .int .u64 406]) w := by kernel_rfl
theorem rfElemV (a p : Addr) (W : World) (ha : W.cell? a = some (.pointer (some p))) :
    (ReflectliteValue.method (ReflectliteValue.valueError "reflectlite.Value.Elem" 0) ReflectliteValue.elem #[.agg #[.pointer (some ⟨4, 44, none⟩), .pointer (some a), .int .u64 150]]).run Tryd.prog W
      = .ok (.agg #[.pointer (some ⟨4, 42, none⟩), .pointer (some p), .int .u64 406]) W := by
  change Sem.run Tryd.prog (ReflectliteValue.parts (.agg #[.pointer (some ⟨4, 44, none⟩), .pointer (some a), .int .u64 150]) >>= _) W = _
  simp only [Sem.run_bind, rfParts, Result.andThen]
  simp [ReflectliteValue.elem, loadVar, isAgg, underlying, Tryd.underlying44, ha, Result.andThen, rfElemOf, rfMk]
theorem rfPartsA4 (a : Addr) (w : World) : (ReflectliteValue.parts (.agg #[.pointer (some ⟨4, 42, none⟩), .pointer (some a), .int .u64 406])).run Tryd.prog w = .ok (some (42, a, 406)) w := by kernel_rfl
theorem rfPartsA1 (a : Addr) (w : World) : (ReflectliteValue.parts (.agg #[.pointer (some ⟨4, 42, none⟩), .pointer (some a), .int .u64 150])).run Tryd.prog w = .ok (some (42, a, 150)) w := by kernel_rfl
theorem rfDirect (w : World) : (Rtype.directlyAssignable 42 42).run Tryd.prog w = .ok true w := by kernel_rfl
theorem rfSet (ta b e : Addr) (old : Value) (W : World) (hb : W.cell? b = some (.pointer (some e))) (ht : W.cell? ta = some old) (hf : W.frozen? ta = false) :
    (ReflectliteValue.set #[.agg #[.pointer (some ⟨4, 42, none⟩), .pointer (some ta), .int .u64 406], .agg #[.pointer (some ⟨4, 42, none⟩), .pointer (some b), .int .u64 150]]).run Tryd.prog W
      = .ok (.tuple #[]) (W.setCell ta (.pointer (some e))) := by
  change Sem.run Tryd.prog (ReflectliteValue.parts (.agg #[.pointer (some ⟨4, 42, none⟩), .pointer (some ta), .int .u64 406]) >>= fun x => ReflectliteValue.parts (.agg #[.pointer (some ⟨4, 42, none⟩), .pointer (some b), .int .u64 150]) >>= _) W = _
  simp only [Sem.run_bind, rfPartsA4, rfPartsA1, Result.andThen]
  simp [ReflectliteValue.flagAddr, loadVar, isAgg, underlying, Tryd.underlying42, hb, Result.andThen, rfDirect, storeVar, Value.cells, storeCells, Addr.add]
  rw [run_store Tryd.prog W ta _ _ (by rfl)]
  simp [ht, hf]
end Go.Proofs.YtioigoipggnkpaaDoor

namespace Go.Proofs.YtioigoipggnkpaaDoor
open Go.RowKit Go.Extern.Stop Go.Stop Go.Extern

theorem noAsE (v : Value) (xT : TypeId) (w : World) : (Instr.typeAssert (.iface 54 v) xT 90 true).run Tryd.prog w = .ok (.tuple #[.nilIface, .bool false]) w := run_typeAssert_lacksB Tryd.underlying90 (by kernel_rfl) (by kernel_rfl) v xT w
theorem noAsK (v : Value) (xT : TypeId) (w : World) : (Instr.typeAssert (.iface 49 v) xT 90 true).run Tryd.prog w = .ok (.tuple #[.nilIface, .bool false]) w := run_typeAssert_lacksB Tryd.underlying90 (by kernel_rfl) (by kernel_rfl) v xT w
theorem noAsW (v : Value) (xT : TypeId) (w : World) : (Instr.typeAssert (.iface 57 v) xT 90 true).run Tryd.prog w = .ok (.tuple #[.nilIface, .bool false]) w := run_typeAssert_lacksB Tryd.underlying90 (by kernel_rfl) (by kernel_rfl) v xT w
/-- What errors.As leaves: nothing turned, or its variable at block t points at the first *At. -/
def AsOf (w : World) (t : Nat) (f : Option (Nat × Int)) (e : Ending) (w' : World) : Prop :=
  match f with
  | none => e = .returned (.bool false) ∧ Below w.heap.size w w'
  | some (p, _) => e = .returned (.bool true) ∧ w'.cell? ⟨t, 0, none⟩ = some (.pointer (some ⟨p, 0, none⟩)) ∧ Only t 0 1 w w'
set_option maxRecDepth 100000 in
set_option maxHeartbeats 4000000 in
theorem as_chain {w : World} {v : Value} {o : Option Int} {f : Option (Nat × Int)} {k t a : Nat} {old : Value} {tt : TypeId} (h : Ch w v o f k) (hk : 0 < k) (ha : w.cell? ⟨a, 0, none⟩ = some (.pointer (some ⟨t, 0, none⟩))) (hrow : w.heap[t]? = some (.cells #[old] tt (0, 0))) :
    Calls Tryd.prog 35 #[v, .iface 44 (.pointer (some ⟨t, 0, none⟩)), .agg #[.pointer (some ⟨4, 44, none⟩), .pointer (some ⟨a, 0, none⟩), .int .u64 150], .iface 77 (.agg #[.pointer (some ⟨4, 42, none⟩)])] w fun e w' => AsOf w t f e w' := by
  have hT := @run_callFunc_extern Tryd.prog 27 _ ReflectliteType.typeOf Tryd.func27 (by kernel_rfl) (by kernel_rfl) (by kernel_rfl) (by kernel_rfl)
  have hA := @run_callFunc_extern Tryd.prog 86 _ (ReflectliteType.relation "AssignableTo" ReflectliteType.assignableTo) Tryd.func86 (by kernel_rfl) (by kernel_rfl) (by kernel_rfl) (by kernel_rfl)
  have mA := rfMethodAssignableTo
  have ht : w.cell? ⟨t, 0, none⟩ = some old := cell_of_row w t 0 _ _ _ hrow
  have hf : w.frozen? ⟨t, 0, none⟩ = false := frozen_of_row w t 0 _ _ hrow
  have HROW := Lib.hid hrow
  clear hrow
  have htl : t < w.heap.size := World.block_lt_of_cell? (a := ⟨t, 0, none⟩) _ ht
  have hal : a < w.heap.size := World.block_lt_of_cell? (a := ⟨a, 0, none⟩) _ ha
  obtain ⟨w1, hw1⟩ : ∃ w1, w1 = w.alloc (.cells #[.pointer (some ⟨4, 44, none⟩), .pointer (some ⟨a, 0, none⟩), .int .u64 150] 68) := ⟨_, rfl⟩
  have HW1 := Lib.hid hw1
  have hb1 : Below w.heap.size w w1 := by rw [hw1]; exact (Below.refl _ _).alloc (Nat.le_refl _) _
  have HH := Lib.hid (h.under hb1)
  have hb1s : w1.heap.size = w.heap.size + 1 := by rw [hw1]; simp
  clear h hw1
  go_enter Tryd.func35, Tryd.ntmps35
  go_wp2_with fail
  rw [← HW1.out]
  go_loopg [0, 9, 10, 11, 12, 14, 15] k (fun kd e0 _ _ _ _ _ _ wr => 0 < kd ∧ Hid (∃ o, Ch w1 e0 o f kd) ∧ wr = w1)
  case atStart => exact ⟨hk, Lib.hid ⟨o, HH.out⟩, rfl⟩
  case round =>
    obtain ⟨hk', HC, rfl⟩ := hrel
    clear HH
    obtain ⟨o', hc⟩ := HC.out
    clear HC
    rcases hc.open hk' with ⟨n, rfl, rfl, rfl⟩ | ⟨x, rfl, rfl, rfl⟩ | ⟨p, k2, n, v2, f2, rfl, rfl, rfl, h0, h1, h2⟩ | ⟨p, k2, n, v2, rfl, rfl, h0, h1, h2⟩
    · clear hc
      have tT := rfTypeOfK
      have aT := rfAssignK
      have nE := noAsK
      have uE := noUnwrapK
      have vE := noUnwrapsK
      go_wp2_with fail
      go_ret
      exact ⟨rfl, hb1⟩
    · clear hc
      have tT := rfTypeOfE
      have aT := rfAssignE
      have nE := noAsE
      have uE := noUnwrapE
      have vE := noUnwrapsE
      go_wp2_with fail
      go_ret
      exact ⟨rfl, hb1⟩
    · clear hc h0 h1 h2
      have tT := rfTypeOfA
      have aT := rfAssignA
      have hE := @run_callFunc_extern Tryd.prog 39 _ (ReflectliteValue.method (ReflectliteValue.valueError "reflectlite.Value.Elem" 0) ReflectliteValue.elem) Tryd.func39 (by kernel_rfl) (by kernel_rfl) (by kernel_rfl) (by kernel_rfl)
      have hV := @run_callFunc_extern Tryd.prog 32 _ (fun args => ReflectliteValue.unpack (args.getD 0 (.tuple #[]))) Tryd.func32 (by kernel_rfl) (by kernel_rfl) (by kernel_rfl) (by kernel_rfl)
      have hS := @run_callFunc_extern Tryd.prog 40 _ ReflectliteValue.set Tryd.func40 (by kernel_rfl) (by kernel_rfl) (by kernel_rfl) (by kernel_rfl)
      have hc1 : wr.heap[w.heap.size]? = some (.cells #[.pointer (some ⟨4, 44, none⟩), .pointer (some ⟨a, 0, none⟩), .int .u64 150] 68 (0, 0)) := by rw [HW1.out]; exact heap_alloc_new w _
      have k0 : wr.cell? ⟨w.heap.size, 0, none⟩ = some (.pointer (some ⟨4, 44, none⟩)) := cell_of_row wr _ 0 _ _ _ hc1
      have k1 : wr.cell? ⟨w.heap.size, 1, none⟩ = some (.pointer (some ⟨a, 0, none⟩)) := cell_of_row wr _ 1 _ _ _ hc1
      have k2' : wr.cell? ⟨w.heap.size, 2, none⟩ = some (.int .u64 150) := cell_of_row wr _ 2 _ _ _ hc1
      have ha1 := cell_under hb1 ha
      have ht1 := cell_under hb1 ht
      have hf1 : wr.frozen? ⟨t, 0, none⟩ = false := by rw [World.frozen?_of_block (w := w) (hb1.block t htl)]; exact hf
      have el := rfElemV ⟨a, 0, none⟩ ⟨t, 0, none⟩ wr ha1
      have vo := rfValueOfA
      have hbx := (Below.refl wr.heap.size wr).alloc (Nat.le_refl _) (.cells #[.pointer (some ⟨p, 0, none⟩)] 42)
      have st := rfSet ⟨t, 0, none⟩ ⟨w.heap.size + 1, 0, none⟩ ⟨p, 0, none⟩ old (wr.alloc (.cells #[.pointer (some ⟨p, 0, none⟩)] 42)) (by rw [← hb1s]; simp) (cell_under hbx ht1) (by rw [World.frozen?_of_block (w := wr) (hbx.block t (by omega))]; exact hf1)
      have HFIN : Hid (((wr.setCell ⟨t, 0, none⟩ (.pointer (some ⟨p, 0, none⟩))).alloc (.cells #[.pointer (some ⟨p, 0, none⟩)] 42)).cell? ⟨t, 0, none⟩ = some (.pointer (some ⟨p, 0, none⟩)) ∧ Only t 0 1 w ((wr.setCell ⟨t, 0, none⟩ (.pointer (some ⟨p, 0, none⟩))).alloc (.cells #[.pointer (some ⟨p, 0, none⟩)] 42))) := Lib.hid (by
        have hr1 : wr.heap[t]? = some (.cells #[old] tt (0, 0)) := by rw [hb1.block t htl]; exact HROW.out
        have hr2 := cell_of_row _ t 0 _ _ _ (heap_setCell_same wr t 0 _ _ (.pointer (some ⟨p, 0, none⟩)) hr1)
        have hba := (Below.refl (wr.setCell ⟨t, 0, none⟩ (.pointer (some ⟨p, 0, none⟩))).heap.size (wr.setCell ⟨t, 0, none⟩ (.pointer (some ⟨p, 0, none⟩)))).alloc (Nat.le_refl _) (.cells #[.pointer (some ⟨p, 0, none⟩)] 42)
        exact ⟨cell_under hba hr2, ((Only.of_below hb1).trans (Only.store 0 _ (Nat.le_refl _) (by decide))).trans (Only.of_below hba)⟩)
      clear ha1 ht1 hf1 hbx hc1
      go_wp2_with fail
      go_ret
      exact ⟨rfl, HFIN.out⟩
    · clear hc h0
      have HC2 : Hid (∃ o, Ch wr v2 o f k2) := Lib.hid ⟨_, h2⟩
      have tT := rfTypeOfW
      have aT := rfAssignW
      have nA := noAsW
      have uA := hasUnwrapW
      have mU := methodUnwrapW
      have HU := Lib.hid (unwrap_in p v2 wr h1)
      rcases h2.some with ⟨rfl, rfl, rfl, rfl⟩ | ⟨hk2, t2, x2, rfl⟩
      · clear h2
        go_wp2_with fail
        refine HU.out.mono ?_
        rintro e w' ⟨rfl, rfl⟩
        go_wp2_with fail
        go_ret
        exact ⟨rfl, hb1⟩
      · clear h2
        go_wp2_with fail
        refine HU.out.mono ?_
        rintro e w' ⟨rfl, rfl⟩
        go_wp2_with fail
        go_roundg k2
        case measure => omega
        case rel => exact ⟨hk2, HC2, rfl⟩
end Go.Proofs.YtioigoipggnkpaaDoor

namespace Go.Proofs.YtioigoipggnkpaaDoor
open Go.RowKit Go.Extern.Stop Go.Stop Go.Extern

/-- The variable of package errors that holds the type error. -/
def ErrT (w : World) : Prop := w.cell? ⟨0, 0, none⟩ = some (.iface 77 (.agg #[.pointer (some ⟨4, 28, none⟩)]))
set_option maxRecDepth 100000 in
set_option maxHeartbeats 4000000 in
/-- errors.As of a chain, at a variable of type *At. -/
theorem as_of {w : World} {v : Value} {o : Option Int} {f : Option (Nat × Int)} {k t : Nat} {old : Value} {tt : TypeId} (h : Ch w v o f k) (hrow : w.heap[t]? = some (.cells #[old] tt (0, 0))) (hg : ErrT w) :
    Calls Tryd.prog 16 #[v, .iface 44 (.pointer (some ⟨t, 0, none⟩))] w fun e w' => AsOf w t f e w' := by
  rcases h.some with ⟨rfl, rfl, rfl, rfl⟩ | ⟨hk, t2, x2, rfl⟩
  · refine (as_nil _ w).mono ?_
    rintro e w' ⟨rfl, rfl⟩
    exact ⟨rfl, Below.refl _ _⟩
  · have hV := @run_callFunc_extern Tryd.prog 32 _ (fun args => ReflectliteValue.unpack (args.getD 0 (.tuple #[]))) Tryd.func32 (by kernel_rfl) (by kernel_rfl) (by kernel_rfl) (by kernel_rfl)
    have hTy := @run_callFunc_extern Tryd.prog 33 _ (ReflectliteValue.methodAny (ReflectliteValue.valueError "reflectlite.Value.Type" 0) (fun t _ _ _ => ReflectliteType.toType t)) Tryd.func33 (by kernel_rfl) (by kernel_rfl) (by kernel_rfl) (by kernel_rfl)
    have hN := @run_callFunc_extern Tryd.prog 34 _ (ReflectliteValue.method (ReflectliteValue.valueError "reflectlite.Value.IsNil" 0) ReflectliteValue.isNil) Tryd.func34 (by kernel_rfl) (by kernel_rfl) (by kernel_rfl) (by kernel_rfl)
    have hK := @run_callFunc_extern Tryd.prog 75 _ (ReflectliteType.abiMethod fun t => do pure (.int .u8 (← Rtype.kind t))) Tryd.func75 (by kernel_rfl) (by kernel_rfl) (by kernel_rfl) (by kernel_rfl)
    have hE := @run_callFunc_extern Tryd.prog 88 _ (ReflectliteType.method ReflectliteType.elem) Tryd.func88 (by kernel_rfl) (by kernel_rfl) (by kernel_rfl) (by kernel_rfl)
    have hI := @run_callFunc_extern Tryd.prog 89 _ (ReflectliteType.relation "Implements" ReflectliteType.implements_) Tryd.func89 (by kernel_rfl) (by kernel_rfl) (by kernel_rfl) (by kernel_rfl)
    have f6 := rfValueOf
    have f7 := rfType
    have mK := rfMethodKind
    have mE := rfMethodElem
    have mI := rfMethodImplements
    have kPP := rfKindPP
    have kP := rfKindP
    have e27 := rfElem
    have i25 := rfImplements
    have htl : t < w.heap.size := (Array.getElem?_eq_some_iff.1 hrow).1
    have hgl : 0 < w.heap.size := World.block_lt_of_cell? (a := ⟨0, 0, none⟩) _ hg
    obtain ⟨W2, hW2⟩ : ∃ W2, W2 = (w.alloc (.cells #[.pointer (some ⟨t, 0, none⟩)] 44)).alloc (.cells #[.pointer (some ⟨4, 44, none⟩), .pointer (some ⟨w.heap.size, 0, none⟩), .int .u64 150] 68) := ⟨_, rfl⟩
    have hb2 : Below w.heap.size w W2 := by rw [hW2]; exact ((Below.refl _ _).alloc (Nat.le_refl _) _).alloc (by simp) _
    have HC := Lib.hid (as_chain (a := w.heap.size) (h.under hb2) hk (by rw [hW2]; simp) ((hb2.block t htl).trans hrow))
    have n8 := rfIsNil ⟨w.heap.size, 0, none⟩ ⟨t, 0, none⟩ W2 (by rw [hW2]; simp)
    have hg2 := cell_under hb2 hg
    rw [hW2] at n8 hg2
    have HW := Lib.hid hW2
    have HB2 := Lib.hid hb2
    clear h hrow hW2 hb2 hg
    go_enter Tryd.func16, Tryd.ntmps16
    go_wp2_with fail
    rw [← HW.out]
    refine HC.out.mono ?_
    intro e w' has
    cases f with
    | none =>
      obtain ⟨rfl, hb⟩ := has
      go_wp2_with fail
      go_ret
      exact ⟨rfl, HB2.out.trans (hb.mono HB2.out.size)⟩
    | some pn =>
      obtain ⟨p, n⟩ := pn
      obtain ⟨rfl, hc, ho⟩ := has
      go_wp2_with fail
      go_ret
      exact ⟨rfl, hc, (Only.of_below HB2.out).trans ho⟩
end Go.Proofs.YtioigoipggnkpaaDoor
