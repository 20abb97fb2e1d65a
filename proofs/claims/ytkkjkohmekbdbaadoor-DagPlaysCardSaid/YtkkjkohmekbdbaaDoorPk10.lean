/-
  ErN: errors.Is and errors.As of chains of kinds and *At; package fail: Code, Where, Node.
-/
import Derived.Deep.LoopGhost
import Derived.Defers
import Derived.LaidEql
import Derived.Lib.Hide
import Derived.Lib.IfaceEq
import Derived.Recover
import Derived.RowKitTokens
import Derived.Stop.Asserts
import Derived.Test.YtkkjkohmekbdbaaDoorPk9
import Derived.Test.YtkkjkohmekbdbaaDoorChecked
import Derived.Test.YtkkjkohmekbdbaaDoorPk2
import Derived.WalkKit
import Derived.WalkLawsBesides
import Derived.WalkSpells

namespace Go.Proofs.YtkkjkohmekbdbaaDoor
open Go.RowKit Go.Extern.Stop Go.Stop Go.Extern

theorem noIsK (v : Value) (xT : TypeId) (w : World) : (Instr.typeAssert (.iface 74 v) xT 135 true).run Tryd.prog w = .ok (.tuple #[.nilIface, .bool false]) w := run_typeAssert_lacksB Tryd.underlying135 (by kernel_rfl) (by kernel_rfl) v xT w
theorem noUnwrapK (v : Value) (xT : TypeId) (w : World) : (Instr.typeAssert (.iface 74 v) xT 131 true).run Tryd.prog w = .ok (.tuple #[.nilIface, .bool false]) w := run_typeAssert_lacksB Tryd.underlying131 (by kernel_rfl) (by kernel_rfl) v xT w
theorem noUnwrapsK (v : Value) (xT : TypeId) (w : World) : (Instr.typeAssert (.iface 74 v) xT 132 true).run Tryd.prog w = .ok (.tuple #[.nilIface, .bool false]) w := run_typeAssert_lacksB Tryd.underlying132 (by kernel_rfl) (by kernel_rfl) v xT w
theorem noIsA (v : Value) (xT : TypeId) (w : World) : (Instr.typeAssert (.iface 69 v) xT 135 true).run Tryd.prog w = .ok (.tuple #[.nilIface, .bool false]) w := run_typeAssert_lacksB Tryd.underlying135 (by kernel_rfl) (by kernel_rfl) v xT w
theorem hasUnwrapA (v : Value) (xT : TypeId) (w : World) : (Instr.typeAssert (.iface 69 v) xT 131 true).run Tryd.prog w = .ok (.tuple #[.iface 69 v, .bool true]) w := run_typeAssert_hasB Tryd.underlying131 (by kernel_rfl) v xT w
/-- (*At).Unwrap. -/
theorem unwrap_at (p : Nat) (v : Value) (w : World) (h1 : w.cell? ⟨p, 1, none⟩ = some v) : Calls Tryd.prog 95 #[.pointer (some ⟨p, 0, none⟩)] w fun e w' => e = .returned v ∧ w = w' := by
  go_enter Tryd.func95, Tryd.ntmps95
  go_wp2_with fail
  go_ret
  exact ⟨rfl, rfl⟩
theorem methodUnwrapA (v : Value) (w : World) : (Go.method 269 69 v "Unwrap").run Tryd.prog w = .ok (95, v) w := by kernel_rfl
theorem compK : (Tryd.prog.info? 74).map (·.comparable) = some true := by kernel_rfl

/-- A chain of wrapped errors, k of them, with the kind's number at its end, or nothing or another error, and its first *At. -/
inductive Ch (w : World) : Value → Option Int → Option (Nat × Int) → Nat → Prop where
  | nil : Ch w .nilIface none none 0
  | kind (n : Int) : Ch w (.iface 74 (.int .i64 n)) (some n) none 1
  | node {p k : Nat} {n : Int} {v : Value} {o : Option Int} {f : Option (Nat × Int)} : w.cell? ⟨p, 0, none⟩ = some (.int .i64 n) → w.cell? ⟨p, 1, none⟩ = some v → Ch w v o f k → Ch w (.iface 69 (.pointer (some ⟨p, 0, none⟩))) o (some (p, n)) (k + 1)
theorem cell_under {w w' : World} {a : Addr} {v : Value} (hb : Below w.heap.size w w') (h : w.cell? a = some v) : w'.cell? a = some v := by
  rw [hb.cell (p := a) (World.block_lt_of_cell? _ _ h)]
  exact h
theorem Ch.under {w w' : World} {v : Value} {o : Option Int} {f : Option (Nat × Int)} {k : Nat} (h : Ch w v o f k) (hb : Below w.heap.size w w') : Ch w' v o f k := by
  induction h with
  | nil => exact .nil
  | kind n => exact .kind n
  | node h1 h2 _ ih => exact .node (cell_under hb h1) (cell_under hb h2) ih
theorem Ch.open {w : World} {v : Value} {o : Option Int} {f : Option (Nat × Int)} {k : Nat} (h : Ch w v o f k) (hk : 0 < k) :
    (∃ n, v = .iface 74 (.int .i64 n) ∧ o = Option.some n ∧ f = Option.none) ∨
    (∃ p k2 n v2 f2, k = k2 + 1 ∧ v = .iface 69 (.pointer (Option.some ⟨p, 0, none⟩)) ∧ f = Option.some (p, n) ∧ w.cell? ⟨p, 0, none⟩ = Option.some (.int .i64 n) ∧ w.cell? ⟨p, 1, none⟩ = Option.some v2 ∧ Ch w v2 o f2 k2) := by
  cases h with
  | nil => omega
  | kind n => exact Or.inl ⟨_, rfl, rfl, rfl⟩
  | node h1 h2 h3 => exact Or.inr ⟨_, _, _, _, _, rfl, rfl, rfl, h1, h2, h3⟩
theorem Ch.some {w : World} {v : Value} {o : Option Int} {f : Option (Nat × Int)} {k : Nat} (h : Ch w v o f k) : (k = 0 ∧ v = .nilIface ∧ o = none ∧ f = none) ∨ (0 < k ∧ ∃ t x, v = .iface t x) := by
  cases h with
  | nil => exact Or.inl ⟨rfl, rfl, rfl, rfl⟩
  | kind _ => exact Or.inr ⟨by omega, _, _, rfl⟩
  | node _ _ _ => exact Or.inr ⟨by omega, _, _, rfl⟩
set_option maxRecDepth 100000 in
set_option maxHeartbeats 2000000 in
/-- errors.is of a chain. -/
theorem is_chain {w : World} {v : Value} {o : Option Int} {f : Option (Nat × Int)} {k : Nat} (b : Int) (h : Ch w v o f k) (hk : 0 < k) :
    Calls Tryd.prog 62 #[v, .iface 74 (.int .i64 b), .bool true] w fun e w' => e = .returned (.bool (decide (o = some b))) ∧ w' = w := by
  have HH := Lib.hid h
  go_enter Tryd.func62, Tryd.ntmps62
  go_wp2_with fail
  go_loopg [0, 7, 8, 9, 10, 12, 13] k (fun kd e0 _ _ _ _ _ _ wr => 0 < kd ∧ Hid (∃ f, Ch w e0 o f kd) ∧ wr = w)
  case atStart => exact ⟨hk, Lib.hid ⟨f, HH.out⟩, rfl⟩
  case round =>
    obtain ⟨hk', HC, rfl⟩ := hrel
    clear HH h
    obtain ⟨f', hc⟩ := HC.out
    clear HC
    rcases hc.open hk' with ⟨n, rfl, rfl, rfl⟩ | ⟨p, k2, n, v2, f2, rfl, rfl, rfl, h0, h1, h2⟩
    · clear hc
      have nE := noIsK
      have uE := noUnwrapK
      have vE := noUnwrapsK
      have heq := Lib.run_eql_iface_int (P := Tryd.prog) wr (k := .i64) n b Tryd.underlying38 compK Tryd.underlying74
      by_cases he : n = b
      · subst he
        rw [show (n == n) = true by simp] at heq
        go_wp2_with fail
        go_ret
        exact ⟨by simp, rfl⟩
      · rw [show (n == b) = false by simp [he]] at heq
        go_wp2_with fail
        go_ret
        exact ⟨by simp [he], rfl⟩
    · clear hc h0
      have HC2 : Hid (∃ f, Ch wr v2 o f k2) := Lib.hid ⟨_, h2⟩
      have nA := noIsA
      have uA := hasUnwrapA
      have mA := methodUnwrapA
      have hty := run_eql_iface_types (P := Tryd.prog) 69 74 (.pointer (some ⟨p, 0, none⟩)) (.int .i64 b) Tryd.underlying38 (by decide) wr
      have HU := Lib.hid (unwrap_at p v2 wr h1)
      rcases h2.some with ⟨rfl, rfl, rfl, -⟩ | ⟨hk2, t2, x2, rfl⟩
      · clear h2
        go_wp2_with fail
        refine HU.out.mono ?_
        rintro e w' ⟨rfl, rfl⟩
        go_wp2_with fail
        go_ret
        exact ⟨by simp, rfl⟩
      · clear h2
        go_wp2_with fail
        refine HU.out.mono ?_
        rintro e w' ⟨rfl, rfl⟩
        go_wp2_with fail
        go_roundg k2
        case measure => omega
        case rel => exact ⟨hk2, HC2, rfl⟩
theorem isTypeOf (v : Value) (w : World) : (Extern.ReflectliteType.typeOf #[.iface 74 v]).run Tryd.prog w = .ok (.iface 124 (.agg #[.pointer (some ⟨2, 74, none⟩)])) w := by kernel_rfl
theorem isComparable (w : World) : ((Extern.ReflectliteType.method fun t => do Extern.Rtype.noPackHeld "Comparable" t; (fun a => Value.bool a.comparable) <$> typeInfo t) #[.agg #[.pointer (some ⟨2, 74, none⟩)]]).run Tryd.prog w = .ok (.bool true) w := by kernel_rfl
theorem isMethodComparable (v : Value) (w : World) : (Go.method 269 124 v "Comparable").run Tryd.prog w = .ok (102, v) w := by kernel_rfl
set_option maxRecDepth 100000 in
/-- errors.Is of a chain. -/
theorem is_of {w : World} {v : Value} {o : Option Int} {f : Option (Nat × Int)} {k : Nat} (b : Int) (h : Ch w v o f k) :
    Calls Tryd.prog 29 #[v, .iface 74 (.int .i64 b)] w fun e w' => e = .returned (.bool (decide (o = some b))) ∧ w' = w := by
  rcases h.some with ⟨rfl, rfl, rfl, -⟩ | ⟨hk, t2, x2, rfl⟩
  · have hn := run_eql_iface_nil_left (P := Tryd.prog) w 74 (.int .i64 b) Tryd.underlying38
    go_enter Tryd.func29, Tryd.ntmps29
    go_wp2_with fail
    go_ret
    exact ⟨by simp, rfl⟩
  · have h8 := @run_callFunc_extern Tryd.prog 61 _ Extern.ReflectliteType.typeOf Tryd.func61 (by kernel_rfl) (by kernel_rfl) (by kernel_rfl) (by kernel_rfl)
    have h32 := @run_callFunc_extern Tryd.prog 102 _ (Extern.ReflectliteType.method fun t => do Extern.Rtype.noPackHeld "Comparable" t; pure (.bool (← typeInfo t).comparable)) Tryd.func102 (by kernel_rfl) (by kernel_rfl) (by kernel_rfl) (by kernel_rfl)
    have tT := isTypeOf
    have cT := isComparable
    have mR := isMethodComparable
    have HI := Lib.hid (is_chain b h hk)
    clear h
    go_enter Tryd.func29, Tryd.ntmps29
    go_wp2_with fail
    refine HI.out.mono ?_
    rintro e w' ⟨rfl, rfl⟩
    go_wp2_with fail
    go_ret
    exact ⟨rfl, rfl⟩
/-- errors.As(nil, target). -/
theorem as_nil (t : Value) (w : World) : Calls Tryd.prog 27 #[.nilIface, t] w fun e w' => e = .returned (.bool false) ∧ w' = w := by
  go_enter Tryd.func27, Tryd.ntmps27
  go_wp2_with fail
  go_ret
  exact ⟨rfl, rfl⟩
theorem rfValueOf (t : Addr) (w : World) : (ReflectliteValue.unpack (.iface 71 (.pointer (some t)))).run Tryd.prog w
    = .ok (.agg #[.pointer (some ⟨2, 71, none⟩), .pointer (some ⟨w.heap.size, 0, none⟩), .int .u64 150]) (w.alloc (.cells #[.pointer (some t)] 71)) := by kernel_rfl
theorem rfType (a : Addr) (w : World) : (ReflectliteValue.methodAny (ReflectliteValue.valueError "reflectlite.Value.Type" 0) (fun t _ _ _ => ReflectliteType.toType t) #[.agg #[.pointer (some ⟨2, 71, none⟩), .pointer (some a), .int .u64 150]]).run Tryd.prog w
    = .ok (.iface 124 (.agg #[.pointer (some ⟨2, 71, none⟩)])) w := by kernel_rfl
theorem rfMethodKind (h : Value) (w : World) : (Go.method 269 124 (.agg #[h]) "Kind").run Tryd.prog w = .ok (91, h) w := by kernel_rfl
theorem rfKindPP (w : World) : ((ReflectliteType.abiMethod fun t => (fun a : Nat => Value.int IntKind.u8 (a : Int)) <$> Rtype.kind t) #[.pointer (some ⟨2, 71, none⟩)]).run Tryd.prog w = .ok (.int .u8 22) w := by kernel_rfl
theorem rfKindP (w : World) : ((ReflectliteType.abiMethod fun t => (fun a : Nat => Value.int IntKind.u8 (a : Int)) <$> Rtype.kind t) #[.pointer (some ⟨2, 69, none⟩)]).run Tryd.prog w = .ok (.int .u8 22) w := by kernel_rfl
theorem rfParts (a : Addr) (w : World) : (ReflectliteValue.parts (.agg #[.pointer (some ⟨2, 71, none⟩), .pointer (some a), .int .u64 150])).run Tryd.prog w = .ok (some (71, a, 150)) w := by kernel_rfl
theorem rfIsNil (a p : Addr) (W : World) (ha : W.cell? a = some (.pointer (some p))) :
    (ReflectliteValue.method (ReflectliteValue.valueError "reflectlite.Value.IsNil" 0) ReflectliteValue.isNil #[.agg #[.pointer (some ⟨2, 71, none⟩), .pointer (some a), .int .u64 150]]).run Tryd.prog W = .ok (.bool false) W := by
  change Sem.run Tryd.prog (ReflectliteValue.parts (.agg #[.pointer (some ⟨2, 71, none⟩), .pointer (some a), .int .u64 150]) >>= _) W = _
  simp only [Sem.run_bind, rfParts, Result.andThen]
  simp [ReflectliteValue.isNil, loadVar, isAgg, underlying, Tryd.underlying71, ha, Result.andThen]
theorem rfMethodElem (h : Value) (w : World) : (Go.method 269 124 (.agg #[h]) "Elem").run Tryd.prog w = .ok (103, .agg #[h]) w := by kernel_rfl
theorem rfMethodImplements (h : Value) (w : World) : (Go.method 269 124 (.agg #[h]) "Implements").run Tryd.prog w = .ok (104, .agg #[h]) w := by kernel_rfl
theorem rfMethodAssignableTo (h : Value) (w : World) : (Go.method 269 124 (.agg #[h]) "AssignableTo").run Tryd.prog w = .ok (101, .agg #[h]) w := by kernel_rfl
theorem rfElem (w : World) : (ReflectliteType.method ReflectliteType.elem #[.agg #[.pointer (some ⟨2, 71, none⟩)]]).run Tryd.prog w = .ok (.iface 124 (.agg #[.pointer (some ⟨2, 69, none⟩)])) w := by kernel_rfl
theorem rfImplements (w : World) : (ReflectliteType.relation "Implements" ReflectliteType.implements_ #[.agg #[.pointer (some ⟨2, 69, none⟩)], .iface 124 (.agg #[.pointer (some ⟨2, 38, none⟩)])]).run Tryd.prog w = .ok (.bool true) w := by kernel_rfl
theorem rfTypeOfA (v : Value) (w : World) : (ReflectliteType.typeOf #[.iface 69 v]).run Tryd.prog w = .ok (.iface 124 (.agg #[.pointer (some ⟨2, 69, none⟩)])) w := by kernel_rfl
theorem rfTypeOfK (v : Value) (w : World) : (ReflectliteType.typeOf #[.iface 74 v]).run Tryd.prog w = .ok (.iface 124 (.agg #[.pointer (some ⟨2, 74, none⟩)])) w := by kernel_rfl
theorem rfAssignA (w : World) : (ReflectliteType.relation "AssignableTo" ReflectliteType.assignableTo #[.agg #[.pointer (some ⟨2, 69, none⟩)], .iface 124 (.agg #[.pointer (some ⟨2, 69, none⟩)])]).run Tryd.prog w = .ok (.bool true) w := by kernel_rfl
theorem rfAssignK (w : World) : (ReflectliteType.relation "AssignableTo" ReflectliteType.assignableTo #[.agg #[.pointer (some ⟨2, 74, none⟩)], .iface 124 (.agg #[.pointer (some ⟨2, 69, none⟩)])]).run Tryd.prog w = .ok (.bool false) w := by kernel_rfl
theorem rfValueOfA (e : Addr) (w : World) : (ReflectliteValue.unpack (.iface 69 (.pointer (some e)))).run Tryd.prog w
    = .ok (.agg #[.pointer (some ⟨2, 69, none⟩), .pointer (some ⟨w.heap.size, 0, none⟩), .int .u64 150]) (w.alloc (.cells #[.pointer (some e)] 69)) := by kernel_rfl
theorem rfElemOf (w : World) : (Rtype.elem? 71).run Tryd.prog w = .ok (some 69) w := by kernel_rfl
theorem rfMk (p : Addr) (w : World) : (ReflectliteValue.mk 69 p ReflectliteValue.flagAddr).run Tryd.prog w = .ok (.agg #[.pointer (some ⟨2, 69, none⟩), .pointer (some p), .int .u64 406]) w := by kernel_rfl
theorem rfElemV (a p : Addr) (W : World) (ha : W.cell? a = some (.pointer (some p))) :
    (ReflectliteValue.method (ReflectliteValue.valueError "reflectlite.Value.Elem" 0) ReflectliteValue.elem #[.agg #[.pointer (some ⟨2, 71, none⟩), .pointer (some a), .int .u64 150]]).run Tryd.prog W
      = .ok (.agg #[.pointer (some ⟨2, 69, none⟩), .pointer (some p), .int .u64 406]) W := by
  change Sem.run Tryd.prog (ReflectliteValue.parts (.agg #[.pointer (some ⟨2, 71, none⟩), .pointer (some a), .int .u64 150]) >>= _) W = _
  simp only [Sem.run_bind, rfParts, Result.andThen]
  simp [ReflectliteValue.elem, loadVar, isAgg, underlying, Tryd.underlying71, ha, Result.andThen, rfElemOf, rfMk]
theorem rfPartsA4 (a : Addr) (w : World) : (ReflectliteValue.parts (.agg #[.pointer (some ⟨2, 69, none⟩), .pointer (some a), .int .u64 406])).run Tryd.prog w = .ok (some (69, a, 406)) w := by kernel_rfl
theorem rfPartsA1 (a : Addr) (w : World) : (ReflectliteValue.parts (.agg #[.pointer (some ⟨2, 69, none⟩), .pointer (some a), .int .u64 150])).run Tryd.prog w = .ok (some (69, a, 150)) w := by kernel_rfl
theorem rfDirect (w : World) : (Rtype.directlyAssignable 69 69).run Tryd.prog w = .ok true w := by kernel_rfl
theorem rfSet (ta b e : Addr) (old : Value) (W : World) (hb : W.cell? b = some (.pointer (some e))) (ht : W.cell? ta = some old) (hf : W.frozen? ta = false) :
    (ReflectliteValue.set #[.agg #[.pointer (some ⟨2, 69, none⟩), .pointer (some ta), .int .u64 406], .agg #[.pointer (some ⟨2, 69, none⟩), .pointer (some b), .int .u64 150]]).run Tryd.prog W
      = .ok (.tuple #[]) (W.setCell ta (.pointer (some e))) := by
  change Sem.run Tryd.prog (ReflectliteValue.parts (.agg #[.pointer (some ⟨2, 69, none⟩), .pointer (some ta), .int .u64 406]) >>= fun x => ReflectliteValue.parts (.agg #[.pointer (some ⟨2, 69, none⟩), .pointer (some b), .int .u64 150]) >>= _) W = _
  simp only [Sem.run_bind, rfPartsA4, rfPartsA1, Result.andThen]
  simp [ReflectliteValue.flagAddr, loadVar, isAgg, underlying, Tryd.underlying69, hb, Result.andThen, rfDirect, storeVar, Value.cells, storeCells, Addr.add]
  rw [run_store Tryd.prog W ta _ _ (by rfl)]
  simp [ht, hf]
theorem noAsK (v : Value) (xT : TypeId) (w : World) : (Instr.typeAssert (.iface 74 v) xT 128 true).run Tryd.prog w = .ok (.tuple #[.nilIface, .bool false]) w := run_typeAssert_lacksB Tryd.underlying128 (by kernel_rfl) (by kernel_rfl) v xT w
/-- What errors.As leaves: nothing turned, or its variable at block t points at the first *At. -/
def AsOf (w : World) (t : Nat) (f : Option (Nat × Int)) (e : Ending) (w' : World) : Prop :=
  match f with
  | none => e = .returned (.bool false) ∧ Below w.heap.size w w'
  | some (p, _) => e = .returned (.bool true) ∧ w'.cell? ⟨t, 0, none⟩ = some (.pointer (some ⟨p, 0, none⟩)) ∧ Only t 0 1 w w'
set_option maxRecDepth 100000 in
set_option maxHeartbeats 4000000 in
theorem as_chain {w : World} {v : Value} {o : Option Int} {f : Option (Nat × Int)} {k t a : Nat} {old : Value} {tt : TypeId} (h : Ch w v o f k) (hk : 0 < k) (ha : w.cell? ⟨a, 0, none⟩ = some (.pointer (some ⟨t, 0, none⟩))) (hrow : w.heap[t]? = some (.cells #[old] tt (0, 0))) :
    Calls Tryd.prog 60 #[v, .iface 71 (.pointer (some ⟨t, 0, none⟩)), .agg #[.pointer (some ⟨2, 71, none⟩), .pointer (some ⟨a, 0, none⟩), .int .u64 150], .iface 124 (.agg #[.pointer (some ⟨2, 69, none⟩)])] w fun e w' => AsOf w t f e w' := by
  have hT := @run_callFunc_extern Tryd.prog 61 _ ReflectliteType.typeOf Tryd.func61 (by kernel_rfl) (by kernel_rfl) (by kernel_rfl) (by kernel_rfl)
  have hA := @run_callFunc_extern Tryd.prog 101 _ (ReflectliteType.relation "AssignableTo" ReflectliteType.assignableTo) Tryd.func101 (by kernel_rfl) (by kernel_rfl) (by kernel_rfl) (by kernel_rfl)
  have mA := rfMethodAssignableTo
  have ht : w.cell? ⟨t, 0, none⟩ = some old := cell_of_row w t 0 _ _ _ hrow
  have hf : w.frozen? ⟨t, 0, none⟩ = false := frozen_of_row w t 0 _ _ hrow
  have HROW := Lib.hid hrow
  clear hrow
  have htl : t < w.heap.size := World.block_lt_of_cell? (a := ⟨t, 0, none⟩) _ ht
  have hal : a < w.heap.size := World.block_lt_of_cell? (a := ⟨a, 0, none⟩) _ ha
  obtain ⟨w1, hw1⟩ : ∃ w1, w1 = w.alloc (.cells #[.pointer (some ⟨2, 71, none⟩), .pointer (some ⟨a, 0, none⟩), .int .u64 150] 94) := ⟨_, rfl⟩
  have HW1 := Lib.hid hw1
  have hb1 : Below w.heap.size w w1 := by rw [hw1]; exact (Below.refl _ _).alloc (Nat.le_refl _) _
  have HH := Lib.hid (h.under hb1)
  have hb1s : w1.heap.size = w.heap.size + 1 := by rw [hw1]; simp
  clear h hw1
  go_enter Tryd.func60, Tryd.ntmps60
  go_wp2_with fail
  rw [← HW1.out]
  go_loopg [0, 9, 10, 11, 12, 14, 15] k (fun kd e0 _ _ _ _ _ _ wr => 0 < kd ∧ Hid (∃ o, Ch w1 e0 o f kd) ∧ wr = w1)
  case atStart => exact ⟨hk, Lib.hid ⟨o, HH.out⟩, rfl⟩
  case round =>
    obtain ⟨hk', HC, rfl⟩ := hrel
    clear HH
    obtain ⟨o', hc⟩ := HC.out
    clear HC
    rcases hc.open hk' with ⟨n, rfl, rfl, rfl⟩ | ⟨p, k2, n, v2, f2, rfl, rfl, rfl, h0, h1, h2⟩
    · clear hc
      have tT := rfTypeOfK
      have aT := rfAssignK
      have nE := noAsK
      have uE := noUnwrapK
      have vE := noUnwrapsK
      go_wp2_with fail
      go_ret
      exact ⟨rfl, hb1⟩
    · clear hc h0 h1 h2
      have tT := rfTypeOfA
      have aT := rfAssignA
      have hE := @run_callFunc_extern Tryd.prog 74 _ (ReflectliteValue.method (ReflectliteValue.valueError "reflectlite.Value.Elem" 0) ReflectliteValue.elem) Tryd.func74 (by kernel_rfl) (by kernel_rfl) (by kernel_rfl) (by kernel_rfl)
      have hV := @run_callFunc_extern Tryd.prog 57 _ (fun args => ReflectliteValue.unpack (args.getD 0 (.tuple #[]))) Tryd.func57 (by kernel_rfl) (by kernel_rfl) (by kernel_rfl) (by kernel_rfl)
      have hS := @run_callFunc_extern Tryd.prog 75 _ ReflectliteValue.set Tryd.func75 (by kernel_rfl) (by kernel_rfl) (by kernel_rfl) (by kernel_rfl)
      have hc1 : wr.heap[w.heap.size]? = some (.cells #[.pointer (some ⟨2, 71, none⟩), .pointer (some ⟨a, 0, none⟩), .int .u64 150] 94 (0, 0)) := by rw [HW1.out]; exact heap_alloc_new w _
      have k0 : wr.cell? ⟨w.heap.size, 0, none⟩ = some (.pointer (some ⟨2, 71, none⟩)) := cell_of_row wr _ 0 _ _ _ hc1
      have k1 : wr.cell? ⟨w.heap.size, 1, none⟩ = some (.pointer (some ⟨a, 0, none⟩)) := cell_of_row wr _ 1 _ _ _ hc1
      have k2' : wr.cell? ⟨w.heap.size, 2, none⟩ = some (.int .u64 150) := cell_of_row wr _ 2 _ _ _ hc1
      have ha1 := cell_under hb1 ha
      have ht1 := cell_under hb1 ht
      have hf1 : wr.frozen? ⟨t, 0, none⟩ = false := by rw [World.frozen?_of_block (w := w) (hb1.block t htl)]; exact hf
      have el := rfElemV ⟨a, 0, none⟩ ⟨t, 0, none⟩ wr ha1
      have vo := rfValueOfA
      have hbx := (Below.refl wr.heap.size wr).alloc (Nat.le_refl _) (.cells #[.pointer (some ⟨p, 0, none⟩)] 69)
      have st := rfSet ⟨t, 0, none⟩ ⟨w.heap.size + 1, 0, none⟩ ⟨p, 0, none⟩ old (wr.alloc (.cells #[.pointer (some ⟨p, 0, none⟩)] 69)) (by rw [← hb1s]; simp) (cell_under hbx ht1) (by rw [World.frozen?_of_block (w := wr) (hbx.block t (by omega))]; exact hf1)
      have HFIN : Hid (((wr.setCell ⟨t, 0, none⟩ (.pointer (some ⟨p, 0, none⟩))).alloc (.cells #[.pointer (some ⟨p, 0, none⟩)] 69)).cell? ⟨t, 0, none⟩ = some (.pointer (some ⟨p, 0, none⟩)) ∧ Only t 0 1 w ((wr.setCell ⟨t, 0, none⟩ (.pointer (some ⟨p, 0, none⟩))).alloc (.cells #[.pointer (some ⟨p, 0, none⟩)] 69))) := Lib.hid (by
        have hr1 : wr.heap[t]? = some (.cells #[old] tt (0, 0)) := by rw [hb1.block t htl]; exact HROW.out
        have hr2 := cell_of_row _ t 0 _ _ _ (heap_setCell_same wr t 0 _ _ (.pointer (some ⟨p, 0, none⟩)) hr1)
        have hba := (Below.refl (wr.setCell ⟨t, 0, none⟩ (.pointer (some ⟨p, 0, none⟩))).heap.size (wr.setCell ⟨t, 0, none⟩ (.pointer (some ⟨p, 0, none⟩)))).alloc (Nat.le_refl _) (.cells #[.pointer (some ⟨p, 0, none⟩)] 69)
        exact ⟨cell_under hba hr2, ((Only.of_below hb1).trans (Only.store 0 _ (Nat.le_refl _) (by decide))).trans (Only.of_below hba)⟩)
      clear ha1 ht1 hf1 hbx hc1
      go_wp2_with fail
      go_ret
      exact ⟨rfl, HFIN.out⟩
/-- The variable of package errors that holds the type error. -/
def ErrT (w : World) : Prop := w.cell? ⟨1, 0, none⟩ = some (.iface 124 (.agg #[.pointer (some ⟨2, 38, none⟩)]))
set_option maxRecDepth 100000 in
set_option maxHeartbeats 4000000 in
/-- errors.As of a chain, at a variable of type *At. -/
theorem as_of {w : World} {v : Value} {o : Option Int} {f : Option (Nat × Int)} {k t : Nat} {old : Value} {tt : TypeId} (h : Ch w v o f k) (hrow : w.heap[t]? = some (.cells #[old] tt (0, 0))) (hg : ErrT w) :
    Calls Tryd.prog 27 #[v, .iface 71 (.pointer (some ⟨t, 0, none⟩))] w fun e w' => AsOf w t f e w' := by
  rcases h.some with ⟨rfl, rfl, rfl, rfl⟩ | ⟨hk, t2, x2, rfl⟩
  · refine (as_nil _ w).mono ?_
    rintro e w' ⟨rfl, rfl⟩
    exact ⟨rfl, Below.refl _ _⟩
  · have hV := @run_callFunc_extern Tryd.prog 57 _ (fun args => ReflectliteValue.unpack (args.getD 0 (.tuple #[]))) Tryd.func57 (by kernel_rfl) (by kernel_rfl) (by kernel_rfl) (by kernel_rfl)
    have hTy := @run_callFunc_extern Tryd.prog 58 _ (ReflectliteValue.methodAny (ReflectliteValue.valueError "reflectlite.Value.Type" 0) (fun t _ _ _ => ReflectliteType.toType t)) Tryd.func58 (by kernel_rfl) (by kernel_rfl) (by kernel_rfl) (by kernel_rfl)
    have hN := @run_callFunc_extern Tryd.prog 59 _ (ReflectliteValue.method (ReflectliteValue.valueError "reflectlite.Value.IsNil" 0) ReflectliteValue.isNil) Tryd.func59 (by kernel_rfl) (by kernel_rfl) (by kernel_rfl) (by kernel_rfl)
    have hK := @run_callFunc_extern Tryd.prog 91 _ (ReflectliteType.abiMethod fun t => do pure (.int .u8 (← Rtype.kind t))) Tryd.func91 (by kernel_rfl) (by kernel_rfl) (by kernel_rfl) (by kernel_rfl)
    have hE := @run_callFunc_extern Tryd.prog 103 _ (ReflectliteType.method ReflectliteType.elem) Tryd.func103 (by kernel_rfl) (by kernel_rfl) (by kernel_rfl) (by kernel_rfl)
    have hI := @run_callFunc_extern Tryd.prog 104 _ (ReflectliteType.relation "Implements" ReflectliteType.implements_) Tryd.func104 (by kernel_rfl) (by kernel_rfl) (by kernel_rfl) (by kernel_rfl)
    have f6 := rfValueOf
    have f7 := rfType
    have mK := rfMethodKind
    have mE := rfMethodElem
    have mI := rfMethodImplements
    have kPP := rfKindPP
    have kP := rfKindP
    have e27 := rfElem
    have i25 := rfImplements
    have htl : t < w.heap.size := (Array.getElem?_eq_some_iff.1 hrow).1
    have hgl : 1 < w.heap.size := World.block_lt_of_cell? (a := ⟨1, 0, none⟩) _ hg
    obtain ⟨W2, hW2⟩ : ∃ W2, W2 = (w.alloc (.cells #[.pointer (some ⟨t, 0, none⟩)] 71)).alloc (.cells #[.pointer (some ⟨2, 71, none⟩), .pointer (some ⟨w.heap.size, 0, none⟩), .int .u64 150] 94) := ⟨_, rfl⟩
    have hb2 : Below w.heap.size w W2 := by rw [hW2]; exact ((Below.refl _ _).alloc (Nat.le_refl _) _).alloc (by simp) _
    have HC := Lib.hid (as_chain (a := w.heap.size) (h.under hb2) hk (by rw [hW2]; simp) ((hb2.block t htl).trans hrow))
    have n8 := rfIsNil ⟨w.heap.size, 0, none⟩ ⟨t, 0, none⟩ W2 (by rw [hW2]; simp)
    have hg2 := cell_under hb2 hg
    rw [hW2] at n8 hg2
    have HW := Lib.hid hW2
    have HB2 := Lib.hid hb2
    clear h hrow hW2 hb2 hg
    go_enter Tryd.func27, Tryd.ntmps27
    go_wp2_with fail
    rw [← HW.out]
    refine HC.out.mono ?_
    intro e w' has
    cases f with
    | none =>
      obtain ⟨rfl, hb⟩ := has
      go_wp2_with fail
      go_ret
      exact ⟨rfl, HB2.out.trans (hb.mono HB2.out.size)⟩
    | some pn =>
      obtain ⟨p, n⟩ := pn
      obtain ⟨rfl, hc, ho⟩ := has
      go_wp2_with fail
      go_ret
      exact ⟨rfl, hc, (Only.of_below HB2.out).trans ho⟩
/-- An error of the i-th kind. -/
abbrev kv (i : Nat) : Value := .iface 74 (.int .i64 ((i + 1 : Nat) : Int))
theorem hmf (fn : Fn) (first cap : Array Value) (w : World) : (Instr.makeFunc fn first cap).run Tryd.prog w = .ok (.func fn first cap) w := rfl
/-- The deferred closures, where nothing panics. -/
theorem code_idle (p : Addr) (w : World) :
    CallsD Tryd.prog 28 #[.pointer (some p)] .returning w fun e u' w' => e = .returned (.tuple #[]) ∧ u' = .returning ∧ w' = w := by
  refine callsD_of_wpS Tryd.func28 rfl fun c₀ cs hu => ?_
  apply wpS_seq
  apply wpS_region
  simp [wpOpsS, go_sem, recoverD, hu, Tryd.ntmps28, Exit.thenS]
  refine wpS_cond (t := false) (by simp [Act.eval, Array.replicate]) ?_
  simp only [Bool.false_eq_true, if_false]
  refine wpS_of_wp (wp_skip ?_)
  cases c₀
  simp_all [bodyPostS, results, Tryd.results28]
theorem where_idle (p q : Addr) (w : World) :
    CallsD Tryd.prog 26 #[.pointer (some p), .pointer (some q)] .returning w fun e u' w' => e = .returned (.tuple #[]) ∧ u' = .returning ∧ w' = w := by
  refine callsD_of_wpS Tryd.func26 rfl fun c₀ cs hu => ?_
  apply wpS_seq
  apply wpS_region
  simp [wpOpsS, go_sem, recoverD, hu, Tryd.ntmps26, Exit.thenS]
  refine wpS_cond (t := false) (by simp [Act.eval, Array.replicate]) ?_
  simp only [Bool.false_eq_true, if_false]
  refine wpS_of_wp (wp_skip ?_)
  cases c₀
  simp_all [bodyPostS, results, Tryd.results26]
set_option maxRecDepth 100000 in
theorem code_nil (w : World) : Calls Tryd.prog 9 #[.nilIface] w fun e w' => e = .returned (.int .i64 0) ∧ Below w.heap.size w w' := by
  have hm := hmf
  go_enter_defers Tryd.func9, Tryd.ntmps9
  go_wp2_with fail
  refine leaves_cons (f := 28) (args := #[.pointer (some ⟨w.heap.size, 0, none⟩)]) (by simp) (by simp [go_sem]) ?_
  refine (code_idle _ _).mono ?_
  rintro e u' w'' ⟨rfl, rfl, rfl⟩
  simp [Leaves, settle, results, Tryd.results9, go_sem]
  exact below_alloc w _
set_option maxRecDepth 100000 in
set_option maxHeartbeats 1000000 in
theorem code_of {w : World} {v : Value} {o : Option Int} {f : Option (Nat × Int)} {k : Nat} (h : Ch w v o f k) (hk : 0 < k) (c : Int) (hc : (o = some c ∧ 1 ≤ c ∧ c ≤ 7) ∨ (o = none ∧ c = 8)) :
    Calls Tryd.prog 9 #[v] w fun e w' => e = .returned (.int .i64 c) ∧ Below w.heap.size w w' := by
  rcases h.some with ⟨rfl, -⟩ | ⟨-, t2, x2, rfl⟩
  · omega
  · have hm := hmf
    have HH := Lib.hid (h.under (below_alloc w (.cells #[.int .i64 0] 3)))
    have HC := Lib.hid hc
    clear h hc
    go_enter_defers Tryd.func9, Tryd.ntmps9
    go_wp2_with fail
    go_loopw [3] (fun kk wi => ∃ j : Nat, 1 ≤ j ∧ j ≤ 8 ∧ kk = .int .i64 j ∧ Hid (∀ i : Nat, 1 ≤ i → i < j → o ≠ some (i : Int)) ∧ wi = w.alloc (.cells #[.int .i64 0] 3)) (fun kk _ => 8 - (intOf kk).toNat)
    case atStart => exact ⟨1, by decide, by decide, rfl, Lib.hid (fun i h1 h2 => by omega), rfl⟩
    case round =>
      obtain ⟨j, hj1, hj8, rfl, HN, rfl⟩ := hrel
      by_cases hj : j < 8
      · have hjI : (j : Int) < 8 := by omega
        have HI := Lib.hid (is_of (j : Int) HH.out)
        by_cases he : o = some (j : Int)
        · rw [show decide (o = some (j : Int)) = true by simp [he]] at HI
          have HE : Hid (c = (j : Int)) := Lib.hid (by
            rcases HC.out with ⟨h1, -, -⟩ | ⟨h1, -⟩
            · rw [he] at h1; exact (Option.some.inj h1).symm
            · rw [he] at h1; cases h1)
          clear he
          go_wp2_with fail
          refine HI.out.mono ?_
          rintro e w' ⟨rfl, rfl⟩
          go_wp2_with fail
          refine leaves_cons (f := 28) (args := #[.pointer (some ⟨w.heap.size, 0, none⟩)]) (by simp) (by simp [go_sem]) ?_
          refine (code_idle _ _).mono ?_
          rintro e u' w'' ⟨rfl, rfl, rfl⟩
          simp [Leaves, settle, results, Tryd.results9, go_sem]
          exact ⟨HE.out.symm, below_alloc w _⟩
        · rw [show decide (o = some (j : Int)) = false by simp [he]] at HI
          have HN2 : Hid (∀ i : Nat, 1 ≤ i → i < j + 1 → o ≠ some (i : Int)) := Lib.hid (fun i h1 h2 => by
            by_cases hij : i = j
            · subst hij; exact he
            · exact HN.out i h1 (by omega))
          clear he HN
          go_wp2_with fail
          refine HI.out.mono ?_
          rintro e w' ⟨rfl, rfl⟩
          go_wp2_with fail
          go_roundw
          case rel => exact ⟨j + 1, by omega, by omega, by go_num, HN2, trivial⟩
          case measure => simp [intOf]; omega
      · obtain rfl : j = 8 := by omega
        have HE : Hid (c = 8) := Lib.hid (by
          rcases HC.out with ⟨h1, h2, h3⟩ | ⟨-, h1⟩
          · exact absurd (by rw [h1]; congr 1; omega) (HN.out c.toNat (by omega) (by omega))
          · exact h1)
        clear hj HN
        go_wp2_with fail
        refine leaves_cons (f := 28) (args := #[.pointer (some ⟨w.heap.size, 0, none⟩)]) (by simp) (by simp [go_sem]) ?_
        refine (code_idle _ _).mono ?_
        rintro e u' w'' ⟨rfl, rfl, rfl⟩
        simp [Leaves, settle, results, Tryd.results9, go_sem]
        exact ⟨HE.out.symm, below_alloc w _⟩
/-- The number of a kind. -/
theorem code_kind {w : World} {v : Value} {f : Option (Nat × Int)} {k : Nat} (i : Nat) (hi : i < 7) (h : Ch w v (some ((i + 1 : Nat) : Int)) f k) :
    Calls Tryd.prog 9 #[v] w fun e w' => e = .returned (.int .i64 ((i + 1 : Nat) : Int)) ∧ Below w.heap.size w w' := by
  refine code_of h ?_ _ (Or.inl ⟨rfl, by omega, by omega⟩)
  rcases h.some with ⟨-, -, h0, -⟩ | ⟨h1, -⟩
  · cases h0
  · exact h1
theorem node_new (n : Int) (t : TypeId) (x : Value) (w : World) : Calls Tryd.prog 21 #[.int .i64 n, .iface t x] w fun e w' => e = .returned (.iface 69 (.pointer (some ⟨w.heap.size, 0, none⟩))) ∧ w' = w.alloc (.cells #[.int .i64 n, .iface t x] 73) := by
  go_enter Tryd.func21, Tryd.ntmps21
  go_wp2_with fail
  go_ret
  exact ⟨rfl, rfl⟩
theorem node_nil (n : Int) (w : World) : Calls Tryd.prog 21 #[.int .i64 n, .nilIface] w fun e w' => e = .returned (.iface 69 (.pointer (some ⟨w.heap.size, 0, none⟩))) ∧ w' = w.alloc (.cells #[.int .i64 n, .nilIface] 73) := by
  go_enter Tryd.func21, Tryd.ntmps21
  go_wp2_with fail
  go_ret
  exact ⟨rfl, rfl⟩
/-- The first *At of a chain has its index. -/
theorem Ch.first {w : World} {v : Value} {o : Option Int} {f : Option (Nat × Int)} {k : Nat} (h : Ch w v o f k) : ∀ {p : Nat} {n : Int}, f = Option.some (p, n) → w.cell? ⟨p, 0, none⟩ = Option.some (.int .i64 n) := by
  induction h with
  | nil => intro p n e; cases e
  | kind _ => intro p n e; cases e
  | node h1 _ _ _ => intro p n e; cases e; exact h1
def whereOf (f : Option (Nat × Int)) : Value := match f with
  | none => .tuple #[.int .i64 0, .bool false]
  | some (_, n) => .tuple #[.int .i64 n, .bool true]
set_option maxRecDepth 100000 in
set_option maxHeartbeats 1000000 in
theorem where_of {w : World} {v : Value} {o : Option Int} {f : Option (Nat × Int)} {k : Nat} (h : Ch w v o f k) (hg : ErrT w) :
    Calls Tryd.prog 8 #[v] w fun e w' => e = .returned (whereOf f) ∧ Below w.heap.size w w' := by
  have hm := hmf
  obtain ⟨W3, hW3⟩ : ∃ W3, W3 = ((w.alloc (.cells #[.int .i64 0] 3)).alloc (.cells #[.bool false] 4)).alloc (.cells #[.pointer none] 69) := ⟨_, rfl⟩
  have hb3 : Below w.heap.size w W3 := by rw [hW3]; exact (((below_alloc w _).alloc (by simp) _).alloc (by simp; omega) _)
  have hz3 : W3.heap.size = w.heap.size + 3 := by rw [hW3]; simp
  have ht3 : W3.heap[w.heap.size + 2]? = some (.cells #[.pointer none] 69 (0, 0)) := by
    rw [hW3]
    have := heap_alloc_new ((w.alloc (.cells #[.int .i64 0] 3)).alloc (.cells #[.bool false] 4)) (.cells #[.pointer none] 69)
    rw [show ((w.alloc (.cells #[.int .i64 0] 3)).alloc (.cells #[.bool false] 4)).heap.size = w.heap.size + 2 by simp] at this
    exact this
  have hr0 : W3.heap[w.heap.size]? = some (.cells #[.int .i64 0] 3 (0, 0)) := by
    rw [hW3, Below.heap_alloc _ _ _ (by simp; omega), Below.heap_alloc _ _ _ (by simp)]
    exact heap_alloc_new w _
  have hr1 : W3.heap[w.heap.size + 1]? = some (.cells #[.bool false] 4 (0, 0)) := by
    rw [hW3, Below.heap_alloc _ _ _ (by simp)]
    have := heap_alloc_new (w.alloc (.cells #[.int .i64 0] 3)) (.cells #[.bool false] 4)
    rw [show (w.alloc (.cells #[.int .i64 0] 3)).heap.size = w.heap.size + 1 by simp] at this
    exact this
  have HA := Lib.hid (as_of (t := w.heap.size + 2) (h.under hb3) ht3 (cell_under hb3 hg))
  have HW := Lib.hid hW3
  have HB := Lib.hid hb3
  have HR0 := Lib.hid hr0
  have HR1 := Lib.hid hr1
  have HT3 := Lib.hid ht3
  have HZ := Lib.hid hz3
  cases f with
  | none =>
    clear h hW3 hb3 hr0 hr1 ht3 hz3
    go_enter_defers Tryd.func8, Tryd.ntmps8
    go_wp2_with fail
    rw [← HW.out]
    refine HA.out.mono ?_
    rintro e w' ⟨rfl, hb⟩
    have hq : ∀ i, i < W3.heap.size → w'.heap[i]? = W3.heap[i]? := fun i hi => hb.block i hi
    have c0 : w'.cell? ⟨w.heap.size, 0, none⟩ = some (.int .i64 0) := cell_of_row _ _ 0 _ _ _ ((hq _ (by rw [HZ.out]; omega)).trans HR0.out)
    have c1 : w'.cell? ⟨w.heap.size + 1, 0, none⟩ = some (.bool false) := cell_of_row _ _ 0 _ _ _ ((hq _ (by rw [HZ.out]; omega)).trans HR1.out)
    have f0 : w'.frozen? ⟨w.heap.size, 0, none⟩ = false := frozen_of_row _ _ 0 _ _ ((hq _ (by rw [HZ.out]; omega)).trans HR0.out)
    have f1 : w'.frozen? ⟨w.heap.size + 1, 0, none⟩ = false := frozen_of_row _ _ 0 _ _ ((hq _ (by rw [HZ.out]; omega)).trans HR1.out)
    have ct : w'.cell? ⟨w.heap.size + 2, 0, none⟩ = some (.pointer none) := cell_of_row _ _ 0 _ _ _ ((hq _ (by rw [HZ.out]; omega)).trans HT3.out)
    have HB2 := Lib.hid (HB.out.trans (hb.mono HB.out.size))
    clear hb hq
    go_wp2_with fail
    refine leaves_cons (f := 26) (args := #[.pointer (some ⟨w.heap.size, 0, none⟩), .pointer (some ⟨w.heap.size + 1, 0, none⟩)]) (by simp) (by simp [go_sem]) ?_
    refine (where_idle _ _ _).mono ?_
    rintro e u' w'' ⟨rfl, rfl, rfl⟩
    simp [Leaves, settle, results, Tryd.results8, go_sem, c0, c1]
    exact ⟨rfl, (HB2.out.setCell (Nat.le_refl _) _).setCell (Nat.le_succ _) _⟩
  | some pn =>
    obtain ⟨p, n⟩ := pn
    have hp := h.first rfl
    have hpl := World.block_lt_of_cell? (a := ⟨p, 0, none⟩) _ hp
    have hpl' : p < w.heap.size := hpl
    have HP := Lib.hid (cell_under hb3 hp)
    clear h hW3 hb3 hr0 hr1 ht3 hz3 hp hpl
    go_enter_defers Tryd.func8, Tryd.ntmps8
    go_wp2_with fail
    rw [← HW.out]
    refine HA.out.mono ?_
    rintro e w' ⟨rfl, hc, ho⟩
    have hq : ∀ i, i < w.heap.size + 2 → w'.heap[i]? = W3.heap[i]? := fun i hi => ho.block i (by rw [HZ.out]; omega) (by omega)
    have c0 : w'.cell? ⟨w.heap.size, 0, none⟩ = some (.int .i64 0) := cell_of_row _ _ 0 _ _ _ ((hq _ (by omega)).trans HR0.out)
    have c1 : w'.cell? ⟨w.heap.size + 1, 0, none⟩ = some (.bool false) := cell_of_row _ _ 0 _ _ _ ((hq _ (by omega)).trans HR1.out)
    have f0 : w'.frozen? ⟨w.heap.size, 0, none⟩ = false := frozen_of_row _ _ 0 _ _ ((hq _ (by omega)).trans HR0.out)
    have f1 : w'.frozen? ⟨w.heap.size + 1, 0, none⟩ = false := frozen_of_row _ _ 0 _ _ ((hq _ (by omega)).trans HR1.out)
    have hp1 : w'.cell? ⟨p, 0, none⟩ = some (.int .i64 n) := by
      rw [World.cell?_of_block (w := W3) (hq p (by omega))]
      exact HP.out
    have HB2 := Lib.hid (HB.out.trans (ho.below (by omega) (by rw [HZ.out]; omega)))
    clear ho hq hpl'
    go_wp2_with fail
    refine leaves_cons (f := 26) (args := #[.pointer (some ⟨w.heap.size, 0, none⟩), .pointer (some ⟨w.heap.size + 1, 0, none⟩)]) (by simp) (by simp [go_sem]) ?_
    refine (where_idle _ _ _).mono ?_
    rintro e u' w'' ⟨rfl, rfl, rfl⟩
    simp [Leaves, settle, results, Tryd.results8, go_sem, c0, c1]
    exact ⟨rfl, (HB2.out.setCell (Nat.le_refl _) _).setCell (Nat.le_succ _) _⟩
end Go.Proofs.YtkkjkohmekbdbaaDoor
