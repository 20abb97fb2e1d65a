/-
  DagB: What the statements of stage 9 ask of package dag, in common: lists of ids, what a call leaves, several operands, the error of a node.
  DagC: What the statements of stage 9 ask of package dag (GapC's like): a Dag lies in blocks of its own.
  DagV: What package dag calls of package code: Valid.
  DagL: Two Dags apart; compasslaw9.alive.
  DagS: compasslaw9.DagShares: a number that is built twice.
  DagG: compasslaw9.DagGrows: what was put stays what it was.
  DagM: A Dag and the reference's book, apart; (*plain).chain; compasslaw9.DagMakes.
  DagN: The last region of compasslaw9.DagMakes: which calls have been made, and the Dag and the book then.
-/
import Derived.Test.YtkkjkohmekbdbaaPk26
import Derived.Test.YtkkjkohmekbdbaaPk21

namespace Go.Proofs.Ytkkjkohmekbdbaa
open Go.RowKit

/-- A slice of ints reads so. -/
def RdJ (w : World) (ao : Option Addr) (l : List Int) : Prop := l = [] ∨ ∃ b off, ao = some ⟨b, off, none⟩ ∧ ∀ (j : Nat) x, l[j]? = some x → w.cell? ⟨b, off + j, none⟩ = some (.int .i64 x)
theorem RdJ.at {w : World} {b off : Nat} {l : List Int} (h : RdJ w (some ⟨b, off, none⟩) l) {j : Nat} {x : Int} (hj : l[j]? = some x) : w.cell? ⟨b, off + j, none⟩ = some (.int .i64 x) := by
  rcases h with rfl | ⟨b', off', e, h⟩
  · simp at hj
  · simp only [Option.some.injEq, Addr.mk.injEq, and_true] at e
    obtain ⟨rfl, rfl⟩ := e
    exact h j x hj
theorem RdJ.some {w : World} {ao : Option Addr} {l : List Int} (h : RdJ w ao l) (hl : l ≠ []) : ∃ b off, ao = Option.some ⟨b, off, none⟩ ∧ b < w.heap.size := by
  rcases h with e | ⟨b, off, e, h⟩
  · exact absurd e hl
  · refine ⟨b, off, e, ?_⟩
    obtain ⟨n, hn⟩ : ∃ n, l[0]? = Option.some n := ⟨l[0]'(List.length_pos_iff.2 hl), by rw [List.getElem?_eq_getElem]⟩
    exact World.block_lt_of_cell? _ _ (h 0 n hn)
theorem RdJ.same {w w' : World} {ao : Option Addr} {l : List Int} (h : RdJ w ao l) (hb : ∀ b off, ao = Option.some ⟨b, off, none⟩ → l ≠ [] → w'.heap[b]? = w.heap[b]?) : RdJ w' ao l := by
  rcases h with e | ⟨b, off, e, h⟩
  · exact Or.inl e
  · by_cases hl : l = []
    · exact Or.inl hl
    · exact Or.inr ⟨b, off, e, fun j n hj => by rw [cell_same (w := w) (a := ⟨b, off + j, none⟩) (hb b off e hl)]; exact h j n hj⟩
theorem RdJ.below {w w' : World} {ao : Option Addr} {l : List Int} {B : Nat} (h : RdJ w ao l) (hb : Below B w w') (hB : ∀ b off, ao = Option.some ⟨b, off, none⟩ → l ≠ [] → b < B) : RdJ w' ao l := h.same fun b off e hl => hb.block b (hB b off e hl)
/-- A call of package dag: what it returns, the Dag then, the blocks that it has turned. -/
def RetD (D : World → Value → List Nd → Bool → (Nat → Prop) → Prop) (w : World) (d : Value) (l : List Nd) (s : Bool) (F : Nat → Prop) (v : Value) (e : Ending) (w' : World) : Prop :=
  e = .returned v ∧ ∃ F', D w' d l s F' ∧ (∀ k, F' k → F k ∨ w.heap.size ≤ k) ∧ Chg F w w'
/-- P902: several operands from left to right. -/
def nchain (s : Bool) (kind : Int) : List Int → Option Nat × List Nd → Option Nat × List Nd
  | [], r => r
  | b :: ids, r => nchain s kind ids (nput s r.2 (kind, 0, idI r.1, b))
def nmany (s : Bool) (kind : Int) (none : Nat) (l : List Nd) : List Int → Option Nat × List Nd
  | [] => nput s l (0, none, 0, 0)
  | i :: ids => nchain s kind ids (if 0 ≤ i ∧ i < (l.length : Int) then some i.toNat else .none, l)
abbrev F1 : Nat := 4607182418800017408
/-- The error of a node that may not be put behind n others. -/
def ErrAt (base : Nat) (w : World) (v : Value) (n : Int) : Prop := ∃ p, base ≤ p ∧ v = .iface 68 (.pointer (some ⟨p, 0, none⟩)) ∧ w.heap[p]? = some (.cells #[.int .i64 n, .iface 67 (.int .i64 1)] 70 (0, 0))
theorem ErrAt.keep {base : Nat} {w w' : World} {v : Value} {n : Int} (h : ErrAt base w v n) (hb : ∀ k, base ≤ k → k < w.heap.size → w'.heap[k]? = w.heap[k]?) : ErrAt base w' v n := by
  obtain ⟨p, h1, h2, h3⟩ := h
  exact ⟨p, h1, h2, (hb p h1 (Array.getElem?_eq_some_iff.1 h3).1).trans h3⟩
/-- P902: a whole number. -/
def nint (s : Bool) (l : List Nd) (x : Int) : Option Nat × List Nd := if -9007199254740992 ≤ x ∧ x ≤ 9007199254740992 then nput s l (0, floatOfInt .f64 x, 0, 0) else (none, l)
/-- P901: the node at a place. -/
def nodeAt (l : List Nd) (k : Int) : Nd := if 0 ≤ k then l[k.toNat]?.getD (0, 0, 0, 0) else (0, 0, 0, 0)
end Go.Proofs.Ytkkjkohmekbdbaa

namespace Go.Proofs.Ytkkjkohmekbdbaa
open Go.RowKit

structure DagC where
  D : World → Value → List Nd → Bool → (Nat → Prop) → Prop
  lt : ∀ {w d l s F}, D w d l s F → ∀ k, F k → k < w.heap.size
  keep : ∀ {w w' d l s F}, D w d l s F → (∀ k, F k → w'.heap[k]? = w.heap[k]?) → D w' d l s F
  form : ∀ {w d l s F}, D w d l s F → ∃ g, d = .pointer (some ⟨g, 0, none⟩)
  new : ∀ (w : World) (s : Bool), Calls Try.prog 7 #[.bool s] w fun e w' => ∃ d F, e = .returned d ∧ D w' d [] s F ∧ (∀ k, F k → w.heap.size ≤ k) ∧ Below w.heap.size w w'
  leaf : ∀ {w d l s F} (v : Nat), D w d l s F → l.length ≤ 10000 → v < 18446744073709551616 → Calls Try.prog 8 #[d, .float .f64 v] w fun e w' => RetD D w d (nput s l (0, v, 0, 0)).2 s F (.int .i64 (idI (nput s l (0, v, 0, 0)).1)) e w'
  sub : ∀ {w d l s F} (a b : Int), D w d l s F → l.length ≤ 10000 → Calls Try.prog 18 #[d, .int .i64 a, .int .i64 b] w fun e w' => RetD D w d (nput s l (2, 0, a, b)).2 s F (.int .i64 (idI (nput s l (2, 0, a, b)).1)) e w'
  root : ∀ {w d l s F} (a : Int), D w d l s F → l.length ≤ 10000 → Calls Try.prog 17 #[d, .int .i64 a] w fun e w' => RetD D w d (nput s l (5, 0, a, 0)).2 s F (.int .i64 (idI (nput s l (5, 0, a, 0)).1)) e w'
  add : ∀ {w d l s F} (ao : Option Addr) (c : Nat) (n : Nat) (ids : List Int), D w d l s F → l.length + ids.length ≤ 10000 → n = ids.length → n ≤ c → RdJ w ao ids → (∀ b off, ao = some ⟨b, off, none⟩ → ¬ F b ∧ b < w.heap.size) → Calls Try.prog 11 #[d, .slice ao n c] w fun e w' => RetD D w d (nmany s 1 0 l ids).2 s F (.int .i64 (idI (nmany s 1 0 l ids).1)) e w'
  mul : ∀ {w d l s F} (ao : Option Addr) (c : Nat) (n : Nat) (ids : List Int), D w d l s F → l.length + ids.length ≤ 10000 → n = ids.length → n ≤ c → RdJ w ao ids → (∀ b off, ao = some ⟨b, off, none⟩ → ¬ F b ∧ b < w.heap.size) → Calls Try.prog 12 #[d, .slice ao n c] w fun e w' => RetD D w d (nmany s 3 F1 l ids).2 s F (.int .i64 (idI (nmany s 3 F1 l ids).1)) e w'
  div : ∀ {w d l s F} (a b : Int), D w d l s F → l.length ≤ 10000 → Calls Try.prog 16 #[d, .int .i64 a, .int .i64 b] w fun e w' => RetD D w d (nput s l (4, 0, a, b)).2 s F (.int .i64 (idI (nput s l (4, 0, a, b)).1)) e w'
  int : ∀ {w d l s F} (x : Int), D w d l s F → l.length ≤ 10000 → -9223372036854775808 ≤ x → x ≤ 9223372036854775807 → Calls Try.prog 10 #[d, .int .i64 x] w fun e w' => RetD D w d (nint s l x).2 s F (.int .i64 (idI (nint s l x).1)) e w'
  put : ∀ {w d l s F} (n : Nd), D w d l s F → l.length ≤ 10000 → n.2.1 < 18446744073709551616 → Calls Try.prog 19 #[d, nval n] w fun e w' => ∃ err, RetD D w d (nput s l n).2 s F (.tuple #[.int .i64 (idI (nput s l n).1), err]) e w'
  all : ∀ {w d l s F}, D w d l s F → Calls Try.prog 14 #[d] w fun e w' => ∃ v, e = .returned v ∧ OwN w.heap.size w' v l ∧ Below w.heap.size w w'
  len : ∀ {w d l s F}, D w d l s F → Calls Try.prog 21 #[d] w fun e w' => e = .returned (.int .i64 (l.length : Int)) ∧ Below w.heap.size w w'
/-- A Dag in blocks from base on. -/
def St (C : DagC) (base : Nat) (w : World) (d : Value) (l : List Nd) (s : Bool) : Prop := ∃ F, C.D w d l s F ∧ ∀ k, F k → base ≤ k
def RetS (C : DagC) (base : Nat) (w : World) (d : Value) (r : Option Nat × List Nd) (s : Bool) (e : Ending) (w' : World) : Prop := e = .returned (.int .i64 (idI r.1)) ∧ St C base w' d r.2 s ∧ Below base w w'
variable {C : DagC} {base : Nat} {w : World} {d : Value} {l : List Nd} {s : Bool}
theorem RetD.st {F : Nat → Prop} {r : Option Nat × List Nd} {e : Ending} {w' : World} (hF : ∀ k, F k → base ≤ k) (hb : base ≤ w.heap.size) (h : RetD C.D w d r.2 s F (.int .i64 (idI r.1)) e w') : RetS C base w d r s e w' := by
  obtain ⟨e, F', h1, h2, h3⟩ := h
  refine ⟨e, ⟨F', h1, fun k hk => ?_⟩, h3.below hF hb⟩
  rcases h2 k hk with h4 | h4
  · exact hF k h4
  · omega
theorem St.below (h : St C base w d l s) {w' : World} (hb : Below w.heap.size w w') : St C base w' d l s := by
  obtain ⟨F, h1, h2⟩ := h
  exact ⟨F, C.keep h1 (fun k hk => hb.block k (C.lt h1 k hk)), h2⟩
theorem St.leaf (h : St C base w d l s) (hb : base ≤ w.heap.size) (hl : l.length ≤ 10000) {v : Nat} (hv : v < 18446744073709551616) : Calls Try.prog 8 #[d, .float .f64 v] w fun e w' => RetS C base w d (nput s l (0, v, 0, 0)) s e w' := by
  obtain ⟨F, h1, h2⟩ := h
  exact (C.leaf v h1 hl hv).mono fun e w' hr => RetD.st h2 hb hr
theorem St.sub (h : St C base w d l s) (hb : base ≤ w.heap.size) (hl : l.length ≤ 10000) (a b : Int) : Calls Try.prog 18 #[d, .int .i64 a, .int .i64 b] w fun e w' => RetS C base w d (nput s l (2, 0, a, b)) s e w' := by
  obtain ⟨F, h1, h2⟩ := h
  exact (C.sub a b h1 hl).mono fun e w' hr => RetD.st h2 hb hr
theorem St.root (h : St C base w d l s) (hb : base ≤ w.heap.size) (hl : l.length ≤ 10000) (a : Int) : Calls Try.prog 17 #[d, .int .i64 a] w fun e w' => RetS C base w d (nput s l (5, 0, a, 0)) s e w' := by
  obtain ⟨F, h1, h2⟩ := h
  exact (C.root a h1 hl).mono fun e w' hr => RetD.st h2 hb hr
theorem rdj_two (w : World) (x y : Int) (t : TypeId) {g : Nat} (hg : w.heap.size = g) : RdJ (w.alloc (.cells #[.int .i64 x, .int .i64 y] t)) (some ⟨g, 0, none⟩) [x, y] := by
  subst hg
  obtain ⟨h0, h1, -, -⟩ := slot2 (heap_alloc_new w (.cells #[.int .i64 x, .int .i64 y] t))
  refine Or.inr ⟨_, _, rfl, fun j z hj => ?_⟩
  match j, hj with
  | 0, hj => simp at hj; subst hj; exact h0
  | 1, hj => simp at hj; subst hj; exact h1
  | j + 2, hj => simp at hj
theorem St.two (h : St C base w d l s) (hb : base ≤ w.heap.size) (hl : l.length ≤ 9000) (x y : Int) {g : Nat} (hg : w.heap.size = g) {f : FuncId} {kind : Int} {none : Nat}
    (hc : ∀ {w d l s F} (ao : Option Addr) (c : Nat) (n : Nat) (ids : List Int), C.D w d l s F → l.length + ids.length ≤ 10000 → n = ids.length → n ≤ c → RdJ w ao ids → (∀ b off, ao = some ⟨b, off, .none⟩ → ¬ F b ∧ b < w.heap.size) → Calls Try.prog f #[d, .slice ao n c] w fun e w' => RetD C.D w d (nmany s kind none l ids).2 s F (.int .i64 (idI (nmany s kind none l ids).1)) e w') :
    Calls Try.prog f #[d, .slice (some ⟨g, 0, .none⟩) 2 2] (w.alloc (.cells #[.int .i64 x, .int .i64 y] 3)) fun e w' => RetS C base w d (nmany s kind none l [x, y]) s e w' := by
  obtain ⟨F, h1, h2⟩ := h
  have hba := below_alloc w (.cells #[.int .i64 x, .int .i64 y] 3)
  have h3 := C.keep h1 (fun k hk => hba.block k (C.lt h1 k hk))
  refine (hc (some ⟨g, 0, .none⟩) 2 2 [x, y] h3 (by simp; omega) rfl (Nat.le_refl _) (rdj_two w x y _ hg) ?_).mono fun e w' hr => ?_
  · intro b off e
    simp only [Option.some.injEq, Addr.mk.injEq, and_true] at e
    obtain ⟨rfl, -⟩ := e
    refine ⟨fun hF => ?_, by simp; omega⟩
    have := C.lt h1 _ hF
    omega
  · obtain ⟨h4, h5, h6⟩ := RetD.st (base := base) h2 (Nat.le_trans hb hba.size) hr
    exact ⟨h4, h5, (hba.mono hb).trans h6⟩
theorem St.add2 (h : St C base w d l s) (hb : base ≤ w.heap.size) (hl : l.length ≤ 9000) (x y : Int) {g : Nat} (hg : w.heap.size = g) : Calls Try.prog 11 #[d, .slice (some ⟨g, 0, none⟩) 2 2] (w.alloc (.cells #[.int .i64 x, .int .i64 y] 3)) fun e w' => RetS C base w d (nmany s 1 0 l [x, y]) s e w' :=
  h.two hb hl x y hg C.add
theorem St.mul2 (h : St C base w d l s) (hb : base ≤ w.heap.size) (hl : l.length ≤ 9000) (x y : Int) {g : Nat} (hg : w.heap.size = g) : Calls Try.prog 12 #[d, .slice (some ⟨g, 0, none⟩) 2 2] (w.alloc (.cells #[.int .i64 x, .int .i64 y] 3)) fun e w' => RetS C base w d (nmany s 3 F1 l [x, y]) s e w' :=
  h.two hb hl x y hg C.mul
theorem St.len (h : St C base w d l s) : Calls Try.prog 21 #[d] w fun e w' => e = .returned (.int .i64 (l.length : Int)) ∧ Below w.heap.size w w' := by
  obtain ⟨F, h1, h2⟩ := h
  exact C.len h1
theorem St.form (h : St C base w d l s) : ∃ g, d = .pointer (some ⟨g, 0, none⟩) := by
  obtain ⟨F, h1, h2⟩ := h
  exact C.form h1
theorem St.new (C : DagC) {base : Nat} (w : World) (s : Bool) (hb : base ≤ w.heap.size) : Calls Try.prog 7 #[.bool s] w fun e w' => ∃ d, e = .returned d ∧ St C base w' d [] s ∧ Below w.heap.size w w' := by
  refine (C.new w s).mono ?_
  rintro e w' ⟨d, F, rfl, h1, h2, h3⟩
  exact ⟨d, rfl, ⟨F, h1, fun k hk => Nat.le_trans hb (h2 k hk)⟩, h3⟩
/-- A Dag in blocks from base on, off the blocks X. -/
def StX (C : DagC) (base : Nat) (w : World) (d : Value) (l : List Nd) (s : Bool) (X : Nat → Prop) : Prop := ∃ F, C.D w d l s F ∧ (∀ k, F k → base ≤ k ∧ ¬ X k)
/-- What such a call leaves: the old blocks off the Dag's own. -/
def Left (base : Nat) (X : Nat → Prop) (w w' : World) : Prop := Below base w w' ∧ ∀ k, X k → k < w.heap.size → w'.heap[k]? = w.heap[k]?
theorem RetD.stx {X F : Nat → Prop} {v : Value} {l' : List Nd} {e : Ending} {w' : World} (hF : ∀ k, F k → base ≤ k ∧ ¬ X k) (hX : ∀ k, X k → k < w.heap.size) (hb : base ≤ w.heap.size) (h : RetD C.D w d l' s F v e w') : e = .returned v ∧ StX C base w' d l' s X ∧ Left base X w w' := by
  obtain ⟨e, F', h1, h2, h3⟩ := h
  refine ⟨e, ⟨F', h1, fun k hk => ?_⟩, h3.below (fun k hk => (hF k hk).1) hb, fun k hk hlt => h3.block k hlt (fun hf => (hF k hf).2 hk)⟩
  rcases h2 k hk with h4 | h4
  · exact hF k h4
  · exact ⟨by omega, fun hx => by have := hX k hx; omega⟩
theorem StX.put {X : Nat → Prop} (h : StX C base w d l s X) (hX : ∀ k, X k → k < w.heap.size) (hb : base ≤ w.heap.size) (hl : l.length ≤ 10000) (n : Nd) (hn : n.2.1 < 18446744073709551616) : Calls Try.prog 19 #[d, nval n] w fun e w' => ∃ err, e = .returned (.tuple #[.int .i64 (idI (nput s l n).1), err]) ∧ StX C base w' d (nput s l n).2 s X ∧ Left base X w w' := by
  obtain ⟨F, h1, h2⟩ := h
  exact (C.put n h1 hl hn).mono fun e w' ⟨err, hr⟩ => ⟨err, RetD.stx h2 hX hb hr⟩
theorem StX.all {X : Nat → Prop} (h : StX C base w d l s X) : Calls Try.prog 14 #[d] w fun e w' => ∃ v, e = .returned v ∧ OwN w.heap.size w' v l ∧ StX C base w' d l s (fun k => v.ownBlock = some k) ∧ Below w.heap.size w w' := by
  obtain ⟨F, h1, h2⟩ := h
  refine (C.all h1).mono fun e w' ⟨v, e1, h3, h4⟩ => ⟨v, e1, h3, ⟨F, C.keep h1 (fun k hk => h4.block k (C.lt h1 k hk)), fun k hk => ⟨(h2 k hk).1, fun hv => ?_⟩⟩, h4⟩
  have := (h3.lt k hv).1
  have := C.lt h1 k hk
  omega
theorem StX.below {X : Nat → Prop} (h : StX C base w d l s X) {w' : World} (hb : Below w.heap.size w w') : StX C base w' d l s X := by
  obtain ⟨F, h1, h2⟩ := h
  exact ⟨F, C.keep h1 (fun k hk => hb.block k (C.lt h1 k hk)), h2⟩
theorem StX.len {X : Nat → Prop} (h : StX C base w d l s X) : Calls Try.prog 21 #[d] w fun e w' => e = .returned (.int .i64 (l.length : Int)) ∧ Below w.heap.size w w' := by
  obtain ⟨F, h1, h2⟩ := h
  exact C.len h1
theorem St.off (h : St C base w d l s) : StX C base w d l s (fun _ => False) := by
  obtain ⟨F, h1, h2⟩ := h
  exact ⟨F, h1, fun k hk => ⟨h2 k hk, fun h => h⟩⟩
theorem StX.form {X : Nat → Prop} (h : StX C base w d l s X) : ∃ g, d = .pointer (some ⟨g, 0, none⟩) := by
  obtain ⟨F, h1, h2⟩ := h
  exact C.form h1
end Go.Proofs.Ytkkjkohmekbdbaa

namespace Go.Proofs.Ytkkjkohmekbdbaa
open Go.RowKit

set_option maxRecDepth 100000 in
theorem upto_num (last v : Int) (w : World) : Calls Try.prog 36 #[.int .i64 last, .int .i64 v] w fun e w' => e = .returned (.bool (decide (0 ≤ v ∧ v ≤ last))) ∧ w = w' := by
  have key : ∀ r : Bool, r = decide (0 ≤ v ∧ v ≤ last) → Hid (decide (0 ≤ v ∧ v ≤ last) = r) := fun r h => Lib.hid h.symm
  by_cases h0 : 0 ≤ v
  · have l0 : decide (0 ≤ v) = true := decide_eq_true h0
    by_cases h1 : v ≤ last
    · have l1 : decide (v ≤ last) = true := decide_eq_true h1
      have HR := key true (by simp [h0, h1])
      clear key h0 h1
      go_enter Try.func36, Try.ntmps36
      go_wp2
      go_ret
      exact ⟨congrArg (fun r => Ending.returned (Value.bool r)) HR.out.symm, rfl⟩
    · have l1 : decide (v ≤ last) = false := decide_eq_false h1
      have HR := key false (by simp [h1])
      clear key h0 h1
      go_enter Try.func36, Try.ntmps36
      go_wp2
      go_ret
      exact ⟨congrArg (fun r => Ending.returned (Value.bool r)) HR.out.symm, rfl⟩
  · have l0 : decide (0 ≤ v) = false := decide_eq_false h0
    have HR := key false (by simp [h0])
    clear key h0
    go_enter Try.func36, Try.ntmps36
    go_wp2
    go_ret
    exact ⟨congrArg (fun r => Ending.returned (Value.bool r)) HR.out.symm, rfl⟩
/-- The greatest second operand. -/
def nlast (k : Int) : Int := if k = 5 then 0 else 65535
theorem nvalid_yes {k a b : Int} {v : Nat} (h : 1 ≤ k ∧ k ≤ 5 ∧ v = 0 ∧ 0 ≤ a ∧ a ≤ 65535 ∧ 0 ≤ b ∧ b ≤ nlast k) : true = nvalid (k, v, a, b) := by
  have hk : ¬ k = 0 := by omega
  unfold nlast at h
  unfold nvalid
  rw [if_neg hk]
  refine (decide_eq_true ?_).symm
  simp only
  split at h
  · rename_i h5; rw [if_pos h5]; omega
  · rename_i h5; rw [if_neg h5]; omega
theorem nvalid_no {k a b : Int} {v : Nat} (hk : ¬ k = 0) (h : ¬ (1 ≤ k ∧ k ≤ 5 ∧ v = 0 ∧ 0 ≤ a ∧ a ≤ 65535 ∧ 0 ≤ b ∧ b ≤ nlast k)) : false = nvalid (k, v, a, b) := by
  unfold nlast at h
  unfold nvalid
  rw [if_neg hk]
  refine (decide_eq_false ?_).symm
  simp only
  split at h
  · rename_i h5; rw [if_pos h5]; omega
  · rename_i h5; rw [if_neg h5]; omega
set_option maxRecDepth 100000 in
set_option maxHeartbeats 2000000 in
/-- code.Valid. -/
theorem cvalid_num (x : Nd) (w : World) : Calls Try.prog 34 #[nval x] w fun e w' => RetV w (.bool (nvalid x)) e w' := by
  obtain ⟨k, v, a, b⟩ := x
  have hr := bits_run
  have HU := Lib.hid upto_num
  obtain ⟨w1, hw1⟩ : ∃ w1, w.alloc (.cells #[.int .i64 k, .float .f64 v, .int .i64 a, .int .i64 b] 35) = w1 := ⟨_, rfl⟩
  have hb1 : Below w.heap.size w w1 := hw1 ▸ below_alloc w _
  have hc1 : w1.heap[w.heap.size]? = some (.cells #[.int .i64 k, .float .f64 v, .int .i64 a, .int .i64 b] 35 (0, 0)) := hw1 ▸ heap_alloc_new w _
  obtain ⟨p0, p1, p2, p3⟩ := slot4 hc1
  have key : ∀ r : Bool, r = nvalid (k, v, a, b) → Hid (nvalid (k, v, a, b) = r) := fun r h => Lib.hid h.symm
  simp only [nval]
  clear hc1
  by_cases hk : k = 0
  · subst hk
    by_cases ha : a = 0
    · subst ha
      by_cases hb : b = 0
      · subst hb
        have HR := key true (by simp [nvalid])
        clear key
        go_enter Try.func34, Try.ntmps34
        go_wp2_with fail
        go_ret
        exact ⟨congrArg (fun r => Ending.returned (Value.bool r)) HR.out.symm, hb1⟩
      · obtain ⟨d0, d1, d2⟩ := bne_of hb
        have HR := key false (by simp [nvalid, hb])
        clear key
        go_enter Try.func34, Try.ntmps34
        go_wp2_with fail
        go_ret
        exact ⟨congrArg (fun r => Ending.returned (Value.bool r)) HR.out.symm, hb1⟩
    · obtain ⟨d0, d1, d2⟩ := bne_of ha
      have HR := key false (by simp [nvalid, ha])
      clear key
      go_enter Try.func34, Try.ntmps34
      go_wp2_with fail
      go_ret
      exact ⟨congrArg (fun r => Ending.returned (Value.bool r)) HR.out.symm, hb1⟩
  · obtain ⟨e0, e1, e2⟩ := bne_of hk
    by_cases hk1 : k = 1
    · clear e0 e1 e2 hk; skip
      subst hk1
      by_cases hv : v = 0
      · subst hv
        by_cases ha : 0 ≤ a ∧ a ≤ 65535
        · have U1 : decide (0 ≤ a ∧ a ≤ 65535) = true := decide_eq_true ha
          by_cases hb : 0 ≤ b ∧ b ≤ 65535
          · have U2 : decide (0 ≤ b ∧ b ≤ 65535) = true := decide_eq_true hb
            have HR := key true (nvalid_yes (by have e : nlast 1 = 65535 := rfl; rw [e]; omega))
            clear key
            go_enter Try.func34, Try.ntmps34
            go_wp2_with (first | (go_at_call 36; refine (HU.out _ _ _).mono ?_; rintro e w' ⟨rfl, rfl⟩; try simp only [U1, U2]))
            go_ret
            exact ⟨congrArg (fun r => Ending.returned (Value.bool r)) HR.out.symm, hb1⟩
          · have U2 : decide (0 ≤ b ∧ b ≤ 65535) = false := decide_eq_false hb
            have HR := key false (nvalid_no (by decide) (by have e : nlast 1 = 65535 := rfl; rw [e]; omega))
            clear key
            go_enter Try.func34, Try.ntmps34
            go_wp2_with (first | (go_at_call 36; refine (HU.out _ _ _).mono ?_; rintro e w' ⟨rfl, rfl⟩; try simp only [U1, U2]))
            go_ret
            exact ⟨congrArg (fun r => Ending.returned (Value.bool r)) HR.out.symm, hb1⟩
        · have U1 : decide (0 ≤ a ∧ a ≤ 65535) = false := decide_eq_false ha
          have HR := key false (nvalid_no (by decide) (by have e : nlast 1 = 65535 := rfl; rw [e]; omega))
          clear key
          go_enter Try.func34, Try.ntmps34
          go_wp2_with (first | (go_at_call 36; refine (HU.out _ _ _).mono ?_; rintro e w' ⟨rfl, rfl⟩; try simp only [U1]))
          go_ret
          exact ⟨congrArg (fun r => Ending.returned (Value.bool r)) HR.out.symm, hb1⟩
      · obtain ⟨g0, g1, g2⟩ := bne_of (x := (v : Int)) (y := 0) (by omega)
        have HR := key false (nvalid_no (by decide) (by have e : nlast 1 = 65535 := rfl; rw [e]; omega))
        clear key
        go_enter Try.func34, Try.ntmps34
        go_wp2_with fail
        go_ret
        exact ⟨congrArg (fun r => Ending.returned (Value.bool r)) HR.out.symm, hb1⟩
    · obtain ⟨e10, e11, e12⟩ := bne_of hk1
      by_cases hk2 : k = 2
      · clear e0 e1 e2 hk; skip
        subst hk2
        by_cases hv : v = 0
        · subst hv
          by_cases ha : 0 ≤ a ∧ a ≤ 65535
          · have U1 : decide (0 ≤ a ∧ a ≤ 65535) = true := decide_eq_true ha
            by_cases hb : 0 ≤ b ∧ b ≤ 65535
            · have U2 : decide (0 ≤ b ∧ b ≤ 65535) = true := decide_eq_true hb
              have HR := key true (nvalid_yes (by have e : nlast 2 = 65535 := rfl; rw [e]; omega))
              clear key
              go_enter Try.func34, Try.ntmps34
              go_wp2_with (first | (go_at_call 36; refine (HU.out _ _ _).mono ?_; rintro e w' ⟨rfl, rfl⟩; try simp only [U1, U2]))
              go_ret
              exact ⟨congrArg (fun r => Ending.returned (Value.bool r)) HR.out.symm, hb1⟩
            · have U2 : decide (0 ≤ b ∧ b ≤ 65535) = false := decide_eq_false hb
              have HR := key false (nvalid_no (by decide) (by have e : nlast 2 = 65535 := rfl; rw [e]; omega))
              clear key
              go_enter Try.func34, Try.ntmps34
              go_wp2_with (first | (go_at_call 36; refine (HU.out _ _ _).mono ?_; rintro e w' ⟨rfl, rfl⟩; try simp only [U1, U2]))
              go_ret
              exact ⟨congrArg (fun r => Ending.returned (Value.bool r)) HR.out.symm, hb1⟩
          · have U1 : decide (0 ≤ a ∧ a ≤ 65535) = false := decide_eq_false ha
            have HR := key false (nvalid_no (by decide) (by have e : nlast 2 = 65535 := rfl; rw [e]; omega))
            clear key
            go_enter Try.func34, Try.ntmps34
            go_wp2_with (first | (go_at_call 36; refine (HU.out _ _ _).mono ?_; rintro e w' ⟨rfl, rfl⟩; try simp only [U1]))
            go_ret
            exact ⟨congrArg (fun r => Ending.returned (Value.bool r)) HR.out.symm, hb1⟩
        · obtain ⟨g0, g1, g2⟩ := bne_of (x := (v : Int)) (y := 0) (by omega)
          have HR := key false (nvalid_no (by decide) (by have e : nlast 2 = 65535 := rfl; rw [e]; omega))
          clear key
          go_enter Try.func34, Try.ntmps34
          go_wp2_with fail
          go_ret
          exact ⟨congrArg (fun r => Ending.returned (Value.bool r)) HR.out.symm, hb1⟩
      · obtain ⟨e20, e21, e22⟩ := bne_of hk2
        by_cases hk3 : k = 3
        · clear e0 e1 e2 hk; skip
          subst hk3
          by_cases hv : v = 0
          · subst hv
            by_cases ha : 0 ≤ a ∧ a ≤ 65535
            · have U1 : decide (0 ≤ a ∧ a ≤ 65535) = true := decide_eq_true ha
              by_cases hb : 0 ≤ b ∧ b ≤ 65535
              · have U2 : decide (0 ≤ b ∧ b ≤ 65535) = true := decide_eq_true hb
                have HR := key true (nvalid_yes (by have e : nlast 3 = 65535 := rfl; rw [e]; omega))
                clear key
                go_enter Try.func34, Try.ntmps34
                go_wp2_with (first | (go_at_call 36; refine (HU.out _ _ _).mono ?_; rintro e w' ⟨rfl, rfl⟩; try simp only [U1, U2]))
                go_ret
                exact ⟨congrArg (fun r => Ending.returned (Value.bool r)) HR.out.symm, hb1⟩
              · have U2 : decide (0 ≤ b ∧ b ≤ 65535) = false := decide_eq_false hb
                have HR := key false (nvalid_no (by decide) (by have e : nlast 3 = 65535 := rfl; rw [e]; omega))
                clear key
                go_enter Try.func34, Try.ntmps34
                go_wp2_with (first | (go_at_call 36; refine (HU.out _ _ _).mono ?_; rintro e w' ⟨rfl, rfl⟩; try simp only [U1, U2]))
                go_ret
                exact ⟨congrArg (fun r => Ending.returned (Value.bool r)) HR.out.symm, hb1⟩
            · have U1 : decide (0 ≤ a ∧ a ≤ 65535) = false := decide_eq_false ha
              have HR := key false (nvalid_no (by decide) (by have e : nlast 3 = 65535 := rfl; rw [e]; omega))
              clear key
              go_enter Try.func34, Try.ntmps34
              go_wp2_with (first | (go_at_call 36; refine (HU.out _ _ _).mono ?_; rintro e w' ⟨rfl, rfl⟩; try simp only [U1]))
              go_ret
              exact ⟨congrArg (fun r => Ending.returned (Value.bool r)) HR.out.symm, hb1⟩
          · obtain ⟨g0, g1, g2⟩ := bne_of (x := (v : Int)) (y := 0) (by omega)
            have HR := key false (nvalid_no (by decide) (by have e : nlast 3 = 65535 := rfl; rw [e]; omega))
            clear key
            go_enter Try.func34, Try.ntmps34
            go_wp2_with fail
            go_ret
            exact ⟨congrArg (fun r => Ending.returned (Value.bool r)) HR.out.symm, hb1⟩
        · obtain ⟨e30, e31, e32⟩ := bne_of hk3
          by_cases hk4 : k = 4
          · clear e0 e1 e2 hk; skip
            subst hk4
            by_cases hv : v = 0
            · subst hv
              by_cases ha : 0 ≤ a ∧ a ≤ 65535
              · have U1 : decide (0 ≤ a ∧ a ≤ 65535) = true := decide_eq_true ha
                by_cases hb : 0 ≤ b ∧ b ≤ 65535
                · have U2 : decide (0 ≤ b ∧ b ≤ 65535) = true := decide_eq_true hb
                  have HR := key true (nvalid_yes (by have e : nlast 4 = 65535 := rfl; rw [e]; omega))
                  clear key
                  go_enter Try.func34, Try.ntmps34
                  go_wp2_with (first | (go_at_call 36; refine (HU.out _ _ _).mono ?_; rintro e w' ⟨rfl, rfl⟩; try simp only [U1, U2]))
                  go_ret
                  exact ⟨congrArg (fun r => Ending.returned (Value.bool r)) HR.out.symm, hb1⟩
                · have U2 : decide (0 ≤ b ∧ b ≤ 65535) = false := decide_eq_false hb
                  have HR := key false (nvalid_no (by decide) (by have e : nlast 4 = 65535 := rfl; rw [e]; omega))
                  clear key
                  go_enter Try.func34, Try.ntmps34
                  go_wp2_with (first | (go_at_call 36; refine (HU.out _ _ _).mono ?_; rintro e w' ⟨rfl, rfl⟩; try simp only [U1, U2]))
                  go_ret
                  exact ⟨congrArg (fun r => Ending.returned (Value.bool r)) HR.out.symm, hb1⟩
              · have U1 : decide (0 ≤ a ∧ a ≤ 65535) = false := decide_eq_false ha
                have HR := key false (nvalid_no (by decide) (by have e : nlast 4 = 65535 := rfl; rw [e]; omega))
                clear key
                go_enter Try.func34, Try.ntmps34
                go_wp2_with (first | (go_at_call 36; refine (HU.out _ _ _).mono ?_; rintro e w' ⟨rfl, rfl⟩; try simp only [U1]))
                go_ret
                exact ⟨congrArg (fun r => Ending.returned (Value.bool r)) HR.out.symm, hb1⟩
            · obtain ⟨g0, g1, g2⟩ := bne_of (x := (v : Int)) (y := 0) (by omega)
              have HR := key false (nvalid_no (by decide) (by have e : nlast 4 = 65535 := rfl; rw [e]; omega))
              clear key
              go_enter Try.func34, Try.ntmps34
              go_wp2_with fail
              go_ret
              exact ⟨congrArg (fun r => Ending.returned (Value.bool r)) HR.out.symm, hb1⟩
          · obtain ⟨e40, e41, e42⟩ := bne_of hk4
            by_cases hk5 : k = 5
            · clear e0 e1 e2 hk; skip
              subst hk5
              by_cases hv : v = 0
              · subst hv
                by_cases ha : 0 ≤ a ∧ a ≤ 65535
                · have U1 : decide (0 ≤ a ∧ a ≤ 65535) = true := decide_eq_true ha
                  by_cases hb : 0 ≤ b ∧ b ≤ 0
                  · have U2 : decide (0 ≤ b ∧ b ≤ 0) = true := decide_eq_true hb
                    have HR := key true (nvalid_yes (by have e : nlast 5 = 0 := rfl; rw [e]; omega))
                    clear key
                    go_enter Try.func34, Try.ntmps34
                    go_wp2_with (first | (go_at_call 36; refine (HU.out _ _ _).mono ?_; rintro e w' ⟨rfl, rfl⟩; try simp only [U1, U2]))
                    go_ret
                    exact ⟨congrArg (fun r => Ending.returned (Value.bool r)) HR.out.symm, hb1⟩
                  · have U2 : decide (0 ≤ b ∧ b ≤ 0) = false := decide_eq_false hb
                    have HR := key false (nvalid_no (by decide) (by have e : nlast 5 = 0 := rfl; rw [e]; omega))
                    clear key
                    go_enter Try.func34, Try.ntmps34
                    go_wp2_with (first | (go_at_call 36; refine (HU.out _ _ _).mono ?_; rintro e w' ⟨rfl, rfl⟩; try simp only [U1, U2]))
                    go_ret
                    exact ⟨congrArg (fun r => Ending.returned (Value.bool r)) HR.out.symm, hb1⟩
                · have U1 : decide (0 ≤ a ∧ a ≤ 65535) = false := decide_eq_false ha
                  have HR := key false (nvalid_no (by decide) (by have e : nlast 5 = 0 := rfl; rw [e]; omega))
                  clear key
                  go_enter Try.func34, Try.ntmps34
                  go_wp2_with (first | (go_at_call 36; refine (HU.out _ _ _).mono ?_; rintro e w' ⟨rfl, rfl⟩; try simp only [U1]))
                  go_ret
                  exact ⟨congrArg (fun r => Ending.returned (Value.bool r)) HR.out.symm, hb1⟩
              · obtain ⟨g0, g1, g2⟩ := bne_of (x := (v : Int)) (y := 0) (by omega)
                have HR := key false (nvalid_no (by decide) (by have e : nlast 5 = 0 := rfl; rw [e]; omega))
                clear key
                go_enter Try.func34, Try.ntmps34
                go_wp2_with fail
                go_ret
                exact ⟨congrArg (fun r => Ending.returned (Value.bool r)) HR.out.symm, hb1⟩
            · obtain ⟨e50, e51, e52⟩ := bne_of hk5
              have HR := key false (by unfold nvalid; rw [if_neg hk]; exact (decide_eq_false (by simp only []; omega)).symm)
              clear key
              go_enter Try.func34, Try.ntmps34
              go_wp2_with fail
              go_ret
              exact ⟨congrArg (fun r => Ending.returned (Value.bool r)) HR.out.symm, hb1⟩
set_option maxRecDepth 100000 in
/-- (*Dag).Len. -/
theorem dlen_num {g n c : Nat} {ao : Option Addr} {m : Option Nat} (w : World) (h : w.heap[g]? = some (.cells #[.slice ao n c, .map m] 54 (0, 0))) : Calls Try.prog 21 #[.pointer (some ⟨g, 0, none⟩)] w fun e w' => e = .returned (.int .i64 (n : Int)) ∧ w = w' := by
  obtain ⟨p0, p1, -, -⟩ := slot2 h
  go_enter Try.func21, Try.ntmps21
  go_wp2_with fail
  go_ret
  exact ⟨rfl, rfl⟩
set_option maxRecDepth 100000 in
theorem dlen_nil (w : World) : Calls Try.prog 21 #[.pointer none] w fun e w' => e = .returned (.int .i64 0) ∧ w = w' := by
  go_enter Try.func21, Try.ntmps21
  go_wp2_with fail
  go_ret
  exact ⟨rfl, rfl⟩
set_option maxRecDepth 100000 in
/-- (*Dag).has, of a Dag of n nodes. -/
theorem dhas_any {d : Value} {n : Int} (x : Int) (w : World) (hl : Calls Try.prog 21 #[d] w fun e w' => e = .returned (.int .i64 n) ∧ w = w') : Calls Try.prog 33 #[d, .int .i64 x] w fun e w' => e = .returned (.bool (decide (0 ≤ x ∧ x < n))) ∧ w = w' := by
  have key : ∀ r : Bool, r = decide (0 ≤ x ∧ x < n) → Hid (decide (0 ≤ x ∧ x < n) = r) := fun r h => Lib.hid h.symm
  have HL := Lib.hid hl
  clear hl
  by_cases h0 : 0 ≤ x
  · have l0 : decide (0 ≤ x) = true := decide_eq_true h0
    by_cases h1 : x < n
    · have l1 : decide (x < n) = true := decide_eq_true h1
      have HR := key true (by simp [h0, h1])
      clear key h0 h1
      go_enter Try.func33, Try.ntmps33
      go_wp2_with fail
      refine HL.out.mono ?_
      rintro e w' ⟨rfl, rfl⟩
      go_wp2_with fail
      go_ret
      exact ⟨congrArg (fun r => Ending.returned (Value.bool r)) HR.out.symm, rfl⟩
    · have l1 : decide (x < n) = false := decide_eq_false h1
      have HR := key false (by simp [h1])
      clear key h0 h1
      go_enter Try.func33, Try.ntmps33
      go_wp2_with fail
      refine HL.out.mono ?_
      rintro e w' ⟨rfl, rfl⟩
      go_wp2_with fail
      go_ret
      exact ⟨congrArg (fun r => Ending.returned (Value.bool r)) HR.out.symm, rfl⟩
  · have l0 : decide (0 ≤ x) = false := decide_eq_false h0
    have HR := key false (by simp [h0])
    clear key h0
    go_enter Try.func33, Try.ntmps33
    go_wp2_with fail
    go_ret
    exact ⟨congrArg (fun r => Ending.returned (Value.bool r)) HR.out.symm, rfl⟩
end Go.Proofs.Ytkkjkohmekbdbaa

namespace Go.Proofs.Ytkkjkohmekbdbaa
open Go.RowKit

/-- Two Dags in blocks from base on that lie apart. -/
def St2 (C : DagC) (base : Nat) (w : World) (d1 : Value) (l1 : List Nd) (s1 : Bool) (d2 : Value) (l2 : List Nd) (s2 : Bool) : Prop := ∃ F G, C.D w d1 l1 s1 F ∧ C.D w d2 l2 s2 G ∧ (∀ k, F k → base ≤ k) ∧ (∀ k, G k → base ≤ k) ∧ ∀ k, F k → ¬ G k
theorem St2.swap {C : DagC} {base : Nat} {w : World} {d1 d2 : Value} {l1 l2 : List Nd} {s1 s2 : Bool} (h : St2 C base w d1 l1 s1 d2 l2 s2) : St2 C base w d2 l2 s2 d1 l1 s1 := by
  obtain ⟨F, G, h1, h2, h3, h4, h5⟩ := h
  exact ⟨G, F, h2, h1, h4, h3, fun k hg hf => h5 k hf hg⟩
/-- A call on the first. -/
theorem St2.call {C : DagC} {base : Nat} {w w1 : World} {d1 d2 : Value} {l1 l2 : List Nd} {s1 s2 : Bool} {f : FuncId} {args : Array Value} {r : Option Nat × List Nd} (h : St2 C base w d1 l1 s1 d2 l2 s2) (hb : base ≤ w.heap.size) (hw : Below w.heap.size w w1)
    (hc : ∀ F, C.D w1 d1 l1 s1 F → (∀ k, F k → k < w.heap.size) → Calls Try.prog f args w1 fun e w' => RetD C.D w1 d1 r.2 s1 F (.int .i64 (idI r.1)) e w') :
    Calls Try.prog f args w1 fun e w' => e = .returned (.int .i64 (idI r.1)) ∧ St2 C base w' d1 r.2 s1 d2 l2 s2 ∧ Below base w w' := by
  obtain ⟨F, G, h1, h2, h3, h4, h5⟩ := h
  have g1 := C.keep h1 (fun k hk => hw.block k (C.lt h1 k hk))
  have g2 := C.keep h2 (fun k hk => hw.block k (C.lt h2 k hk))
  refine (hc F g1 (C.lt h1)).mono ?_
  rintro e w' ⟨rfl, F', a1, a2, a3⟩
  have hs := hw.size
  refine ⟨rfl, ⟨F', G, a1, C.keep g2 (fun k hk => a3.block k (C.lt g2 k hk) (fun hF => h5 k hF hk)), fun k hk => ?_, h4, fun k hk hg => ?_⟩, (hw.mono hb).trans (a3.below h3 (by omega))⟩
  · rcases a2 k hk with h | h
    · exact h3 k h
    · omega
  · rcases a2 k hk with h | h
    · exact h5 k h hg
    · have := C.lt h2 k hg
      omega
theorem leaf_ok {len v : Nat} (hv : rg v < INF) : nbad len (0, v, 0, 0) = false := by unfold nbad nvalid; simp [hv]
theorem f1_fin : rg F1 < INF := by decide
set_option maxRecDepth 100000 in
set_option maxHeartbeats 2000000 in
theorem dalive (C : DagC) (w : World) : Calls Try.prog 6 #[] w fun e w' => RetV w (.bool true) e w' := by
  have p1 : ∀ s, nput s [] (0, F1, 0, 0) = (some 0, [(0, F1, 0, 0)]) := fun s => nput_new (leaf_ok f1_fin) (fun _ => rfl)
  have p2 : nput true [(0, F1, 0, 0)] (0, F1, 0, 0) = (some 0, [(0, F1, 0, 0)]) := nput_old (leaf_ok f1_fin) (by decide)
  have p3 : nput false [(0, F1, 0, 0)] (0, F1, 0, 0) = (some 1, [(0, F1, 0, 0), (0, F1, 0, 0)]) := nput_new (leaf_ok f1_fin) (fun h => nomatch h)
  have p4 : nmany true 1 0 [(0, F1, 0, 0)] [0, 0] = (some 1, [(0, F1, 0, 0), (1, 0, 0, 0)]) := by decide
  go_enter Try.func6, Try.ntmps6
  go_wp2_with fail
  refine (C.new w true).mono ?_
  rintro e w1 ⟨d1, F, rfl, h1, h2, h3⟩
  obtain ⟨g1, rfl⟩ := C.form h1
  go_wp2_with fail
  refine (C.new w1 false).mono ?_
  rintro e w2 ⟨d2, G, rfl, k1, k2, k3⟩
  obtain ⟨g2, rfl⟩ := C.form k1
  have hs1 := h3.size
  have S2 : St2 C w.heap.size w2 (.pointer (some ⟨g1, 0, none⟩)) [] true (.pointer (some ⟨g2, 0, none⟩)) [] false :=
    ⟨F, G, C.keep h1 (fun k hk => k3.block k (C.lt h1 k hk)), k1, h2, fun k hk => Nat.le_trans hs1 (k2 k hk), fun k hF hG => by have := C.lt h1 k hF; have := k2 k hG; omega⟩
  have hb2 : Below w.heap.size w w2 := h3.trans (k3.mono hs1)
  clear h1 h2 h3 k1 k2 k3 hs1
  go_wp2_with fail
  refine (S2.call (r := nput true [] (0, F1, 0, 0)) hb2.size (Below.refl _ _) (fun F hD _ => C.leaf F1 hD (by decide) (by decide))).mono ?_
  rw [p1]
  rintro e w3 ⟨rfl, S3, hb3⟩
  replace hb3 := hb2.trans hb3
  clear S2 hb2
  go_wp2_with fail
  refine (S3.call (r := nput true [(0, F1, 0, 0)] (0, F1, 0, 0)) hb3.size (Below.refl _ _) (fun F hD _ => C.leaf F1 hD (by decide) (by decide))).mono ?_
  rw [p2]
  rintro e w4 ⟨rfl, S4, hb4⟩
  replace hb4 := hb3.trans hb4
  clear S3 hb3
  go_wp2_with fail
  refine (S4.swap.call (r := nput false [] (0, F1, 0, 0)) hb4.size (Below.refl _ _) (fun F hD _ => C.leaf F1 hD (by decide) (by decide))).mono ?_
  rw [p1]
  rintro e w5 ⟨rfl, S5, hb5⟩
  replace hb5 := hb4.trans hb5
  clear S4 hb4
  go_wp2_with fail
  refine (S5.call (r := nput false [(0, F1, 0, 0)] (0, F1, 0, 0)) hb5.size (Below.refl _ _) (fun F hD _ => C.leaf F1 hD (by decide) (by decide))).mono ?_
  rw [p3]
  rintro e w6 ⟨rfl, S6, hb6⟩
  replace hb6 := hb5.trans hb6
  clear S5 hb5
  go_wp2_with fail
  refine (S6.swap.call (r := nmany true 1 0 [(0, F1, 0, 0)] [0, 0]) hb6.size (below_alloc _ _) (fun F hD hlt => C.add (some ⟨w6.heap.size, 0, none⟩) 2 2 [0, 0] hD (by decide) rfl (Nat.le_refl _) (rdj_two w6 0 0 _ rfl) (fun b off e => by
    simp only [Option.some.injEq, Addr.mk.injEq, and_true] at e
    obtain ⟨rfl, -⟩ := e
    exact ⟨fun hF => Nat.lt_irrefl _ (hlt _ hF), by simp⟩))).mono ?_
  rw [p4]
  rintro e w7 ⟨rfl, S7, hb7⟩
  replace hb7 := hb6.trans hb7
  clear S6 hb6
  obtain ⟨F7, G7, hD7, -⟩ := S7
  go_wp2_with fail
  refine (C.len hD7).mono ?_
  rintro e w8 ⟨rfl, hb8⟩
  go_wp2_with fail
  go_ret
  exact ⟨rfl, hb7.trans (hb8.mono hb7.size)⟩
end Go.Proofs.Ytkkjkohmekbdbaa

namespace Go.Proofs.Ytkkjkohmekbdbaa
open Go.RowKit

theorem nput_len (s : Bool) (l : List Nd) (n : Nd) : (nput s l n).2.length ≤ l.length + 1 := by
  unfold nput
  split
  · exact Nat.le_succ _
  · split
    · split
      · exact Nat.le_succ _
      · simp
    · simp
theorem nchain_len (s : Bool) (kind : Int) (ids : List Int) (r : Option Nat × List Nd) : (nchain s kind ids r).2.length ≤ r.2.length + ids.length := by
  induction ids generalizing r with
  | nil => exact Nat.le_refl _
  | cons b ids ih =>
    have h1 := ih (nput s r.2 (kind, 0, idI r.1, b))
    have h2 := nput_len s r.2 (kind, 0, idI r.1, b)
    show (nchain s kind ids (nput s r.2 (kind, 0, idI r.1, b))).2.length ≤ _
    simp only [List.length_cons]
    omega
theorem nmany_len (s : Bool) (kind : Int) (none : Nat) (l : List Nd) (ids : List Int) : (nmany s kind none l ids).2.length ≤ l.length + ids.length + 1 := by
  cases ids with
  | nil =>
    have := nput_len s l (0, none, 0, 0)
    exact this
  | cons i ids =>
    have := nchain_len s kind ids (if 0 ≤ i ∧ i < (l.length : Int) then some i.toNat else .none, l)
    simp only [List.length_cons]
    exact Nat.le_trans this (by simp only []; omega)
def lw (x : Int) : Nat := floatOfInt .f64 (2 + x.tmod 5)
def bsel (x : Int) : Int := (x.tmod 4 + 4).tmod 4
/-- One step of a number that is made. -/
def bstep (s : Bool) (r : Option Nat × List Nd) (x : Int) : Option Nat × List Nd :=
  if bsel x = 0 then nmany s 1 0 (nput s r.2 (0, lw x, 0, 0)).2 [idI r.1, idI (nput s r.2 (0, lw x, 0, 0)).1]
  else if bsel x = 1 then nput s (nput s r.2 (0, lw x, 0, 0)).2 (2, 0, idI (nput s r.2 (0, lw x, 0, 0)).1, idI r.1)
  else if bsel x = 2 then nmany s 3 F1 (nput s r.2 (0, lw x, 0, 0)).2 [idI r.1, idI r.1]
  else nput s (nput s r.2 (0, lw x, 0, 0)).2 (5, 0, idI r.1, 0)
def nbuild (s : Bool) (l : List Nd) (ls : List Int) : Option Nat × List Nd := ls.foldl (bstep s) (nput s l (0, F1, 0, 0))
theorem bstep_len (s : Bool) (r : Option Nat × List Nd) (x : Int) : (bstep s r x).2.length ≤ r.2.length + 4 := by
  have h0 := nput_len s r.2 (0, lw x, 0, 0)
  unfold bstep
  split
  · have := nmany_len s 1 0 (nput s r.2 (0, lw x, 0, 0)).2 [idI r.1, idI (nput s r.2 (0, lw x, 0, 0)).1]
    simp only [List.length_cons, List.length_nil] at this
    omega
  · split
    · have := nput_len s (nput s r.2 (0, lw x, 0, 0)).2 (2, 0, idI (nput s r.2 (0, lw x, 0, 0)).1, idI r.1)
      omega
    · split
      · have := nmany_len s 3 F1 (nput s r.2 (0, lw x, 0, 0)).2 [idI r.1, idI r.1]
        simp only [List.length_cons, List.length_nil] at this
        omega
      · have := nput_len s (nput s r.2 (0, lw x, 0, 0)).2 (5, 0, idI r.1, 0)
        omega
theorem tmod5 (x : Int) : -4 ≤ x.tmod 5 ∧ x.tmod 5 ≤ 4 := by
  have h1 := Int.tmod_lt_of_pos x (show (0 : Int) < 5 by decide)
  have h2 := Int.lt_tmod_of_pos x (show (0 : Int) < 5 by decide)
  omega
theorem tmod4 (x : Int) : -3 ≤ x.tmod 4 ∧ x.tmod 4 ≤ 3 := by
  have h1 := Int.tmod_lt_of_pos x (show (0 : Int) < 4 by decide)
  have h2 := Int.lt_tmod_of_pos x (show (0 : Int) < 4 by decide)
  omega
theorem lw_ok (x : Int) : lw x < 18446744073709551616 ∧ rg (lw x) < INF := by
  have h := tmod5 x
  unfold lw
  generalize x.tmod 5 = y at h
  have : y = -4 ∨ y = -3 ∨ y = -2 ∨ y = -1 ∨ y = 0 ∨ y = 1 ∨ y = 2 ∨ y = 3 ∨ y = 4 := by omega
  rcases this with rfl | rfl | rfl | rfl | rfl | rfl | rfl | rfl | rfl <;> decide +kernel
set_option maxRecDepth 100000 in
set_option maxHeartbeats 4000000 in
theorem build_num {C : DagC} {base : Nat} {w : World} {d : Value} {l : List Nd} {s : Bool} {ao : Option Addr} {n c : Nat} {ls : List Int} (h : St C base w d l s) (hb : base ≤ w.heap.size) (hl : l.length ≤ 1000) (hn : n = ls.length) (hr : RdJ w ao ls) (hrb : ∀ b off, ao = some ⟨b, off, none⟩ → ls ≠ [] → b < base) (h20 : n ≤ 20) (hrg : ∀ x ∈ ls, -9223372036854775808 ≤ x ∧ x ≤ 9223372036854775807) :
    Calls Try.prog 22 #[d, .slice ao n c] w fun e w' => RetS C base w d (nbuild s l ls) s e w' := by
  obtain ⟨g, rfl⟩ := h.form
  have HN := Lib.hid hn
  have HR := Lib.hid hr
  have HRB := Lib.hid hrb
  have HRG := Lib.hid hrg
  clear hn hr hrb hrg
  have hl0 := nput_len s l (0, F1, 0, 0)
  go_enter Try.func22, Try.ntmps22
  go_wp2_with fail
  refine (h.leaf hb (by omega) (v := F1) (by decide)).mono ?_
  rintro e w1 ⟨rfl, h1, hb1⟩
  obtain ⟨r0, hr0⟩ : ∃ r, nput s l (0, F1, 0, 0) = r := ⟨_, rfl⟩
  rw [hr0] at h1 hl0
  have HR0 := Lib.hid hr0
  go_wp2_with fail
  clear hr0
  go_loopw [5, 6] (fun i j wr => ∃ (k : Nat) (r : Option Nat × List Nd), k ≤ n ∧ i = .int .i64 (idI r.1) ∧ j = .int .i64 k ∧ r = (ls.take k).foldl (bstep s) r0 ∧ St C base wr (.pointer (some ⟨g, 0, none⟩)) r.2 s ∧ Below base w wr ∧ r.2.length ≤ 1001 + 4 * k) (fun _ j _ => n - (intOf j).toNat)
  case atStart => exact ⟨0, r0, Nat.zero_le _, rfl, rfl, rfl, h1, hb1, by omega⟩
  case round =>
    obtain ⟨k, r, hk, rfl, rfl, hfold, hst, hbr, hlen⟩ := hrel
    by_cases hlt : k < n
    · have hne : ls ≠ [] := by intro e; have := HN.out; subst e; simp at this; omega
      obtain ⟨b0, o0, rfl, -⟩ := HR.out.some hne
      obtain ⟨x, hx⟩ : ∃ x, ls[k]? = some x := ⟨ls[k]'(by have := HN.out; omega), by rw [List.getElem?_eq_getElem]⟩
      have hcell : wr.cell? ⟨b0, o0 + k, none⟩ = some (.int .i64 x) := (HR.out.below hbr HRB.out).at hx
      obtain ⟨hx0, hx1⟩ := HRG.out x (List.mem_of_getElem? hx)
      have hbs : base ≤ wr.heap.size := Nat.le_trans hb hbr.size
      have hm5 := tmod5 x
      have hm4 := tmod4 x
      have hx5 : floatOfInt .f64 (2 + x.tmod 5) = lw x := rfl
      obtain ⟨q, hq⟩ : ∃ q, (x.tmod 4 + 4).tmod 4 = q := ⟨_, rfl⟩
      have HQ : Hid (bsel x = q) := Lib.hid hq
      have HX := Lib.hid hx
      have HF := Lib.hid hfold
      have hl1 := nput_len s r.2 (0, lw x, 0, 0)
      have hlb := bstep_len s r x
      clear hx hne hfold
      go_wp2_with fail
      refine (hst.leaf hbs (by omega) (v := lw x) (lw_ok x).1).mono ?_
      rintro e w2 ⟨rfl, h2, hb2⟩
      obtain ⟨p, hp⟩ : ∃ p, nput s r.2 (0, lw x, 0, 0) = p := ⟨_, rfl⟩
      rw [hp] at h2 hl1
      have HP := Lib.hid hp
      have hbs2 : base ≤ w2.heap.size := Nat.le_trans hbs hb2.size
      have hcell2 : w2.cell? ⟨b0, o0 + k, none⟩ = some (.int .i64 x) := (HR.out.below (hbr.trans hb2) HRB.out).at HX.out
      have hbw2 := hbr.trans hb2
      clear hcell hst hbr hb2
      have next : ∀ (r' : Option Nat × List Nd), bstep s r x = r' → r' = (ls.take (k + 1)).foldl (bstep s) r0 := fun r' e => by
        rw [List.take_add_one, HX.out, List.foldl_append, ← HF.out]
        exact e.symm
      have NX := Lib.hid next
      clear next
      by_cases q0 : q = 0
      · subst q0
        go_wp2_with fail
        clear hp
        refine (h2.add2 hbs2 (by omega) (idI r.1) (idI p.1) rfl).mono ?_
        rintro e w3 ⟨rfl, h3, hb3⟩
        obtain ⟨r3, hr3⟩ : ∃ r3, nmany s 1 0 p.2 [idI r.1, idI p.1] = r3 := ⟨_, rfl⟩
        have hr4 : bstep s r x = r3 := by
          unfold bstep
          rw [HQ.out, HP.out]
          rw [if_pos rfl]; exact hr3
        rw [hr4] at hlb
        rw [hr3] at h3
        have HR4 := Lib.hid (NX.out r3 hr4)
        clear hr4
        go_wp2_with fail
        clear hr3
        go_roundw
        case rel => exact ⟨k + 1, r3, by omega, rfl, by go_num, HR4.out, h3, hbw2.trans hb3, by omega⟩
        case measure => simp [intOf]; omega
      · obtain ⟨a0, a1, a2⟩ := bne_of q0
        by_cases q1 : q = 1
        · subst q1
          go_wp2_with fail
          clear hp
          refine (h2.sub hbs2 (by omega) (idI p.1) (idI r.1)).mono ?_
          rintro e w3 ⟨rfl, h3, hb3⟩
          obtain ⟨r3, hr3⟩ : ∃ r3, nput s p.2 (2, 0, idI p.1, idI r.1) = r3 := ⟨_, rfl⟩
          have hr4 : bstep s r x = r3 := by
            unfold bstep
            rw [HQ.out, HP.out]
            rw [if_neg (by decide), if_pos rfl]; exact hr3
          rw [hr4] at hlb
          rw [hr3] at h3
          have HR4 := Lib.hid (NX.out r3 hr4)
          clear hr4
          go_wp2_with fail
          clear hr3
          go_roundw
          case rel => exact ⟨k + 1, r3, by omega, rfl, by go_num, HR4.out, h3, hbw2.trans hb3, by omega⟩
          case measure => simp [intOf]; omega
        · obtain ⟨c0, c1, c2⟩ := bne_of q1
          by_cases q2 : q = 2
          · subst q2
            go_wp2_with fail
            clear hp
            refine (h2.mul2 hbs2 (by omega) (idI r.1) (idI r.1) rfl).mono ?_
            rintro e w3 ⟨rfl, h3, hb3⟩
            obtain ⟨r3, hr3⟩ : ∃ r3, nmany s 3 F1 p.2 [idI r.1, idI r.1] = r3 := ⟨_, rfl⟩
            have hr4 : bstep s r x = r3 := by
              unfold bstep
              rw [HQ.out, HP.out]
              rw [if_neg (by decide), if_neg (by decide), if_pos rfl]; exact hr3
            rw [hr4] at hlb
            rw [hr3] at h3
            have HR4 := Lib.hid (NX.out r3 hr4)
            clear hr4
            go_wp2_with fail
            clear hr3
            go_roundw
            case rel => exact ⟨k + 1, r3, by omega, rfl, by go_num, HR4.out, h3, hbw2.trans hb3, by omega⟩
            case measure => simp [intOf]; omega
          · obtain ⟨f0, f1, f2⟩ := bne_of q2
            go_wp2_with fail
            clear hp
            refine (h2.root hbs2 (by omega) (idI r.1)).mono ?_
            rintro e w3 ⟨rfl, h3, hb3⟩
            obtain ⟨r3, hr3⟩ : ∃ r3, nput s p.2 (5, 0, idI r.1, 0) = r3 := ⟨_, rfl⟩
            have hr4 : bstep s r x = r3 := by
              unfold bstep
              rw [HQ.out, HP.out]
              rw [if_neg q0, if_neg q1, if_neg q2]; exact hr3
            rw [hr4] at hlb
            rw [hr3] at h3
            have HR4 := Lib.hid (NX.out r3 hr4)
            clear hr4
            go_wp2_with fail
            clear hr3
            go_roundw
            case rel => exact ⟨k + 1, r3, by omega, rfl, by go_num, HR4.out, h3, hbw2.trans hb3, by omega⟩
            case measure => simp [intOf]; omega
    · have hkn : k = n := by omega
      subst hkn
      have he : r = nbuild s l ls := by
        rw [hfold, HN.out, List.take_length, ← HR0.out]
        rfl
      have HE := Lib.hid (And.intro he hst)
      clear he hst hfold
      go_wp2_with fail
      go_ret
      obtain ⟨he, hst⟩ := HE.out
      rw [← he]
      exact ⟨rfl, hst, hbr⟩
theorem op_ok {len : Nat} {k : Int} {a b : Nat} (hk : k = 1 ∨ k = 2 ∨ k = 3) (ha : a < len) (hb : b < len) (ha2 : a ≤ 65535) (hb2 : b ≤ 65535) : nbad len (k, 0, (a : Int), (b : Int)) = false := by
  unfold nbad nvalid
  rcases hk with rfl | rfl | rfl <;> simp <;> omega
theorem root_ok {len : Nat} {a : Nat} (ha : a < len) (ha2 : a ≤ 65535) : nbad len (5, 0, (a : Int), 0) = false := by
  unfold nbad nvalid
  simp
  omega
theorem nmany_two (s : Bool) (kind : Int) (none : Nat) (l : List Nd) (i : Nat) (b : Int) (h : i < l.length) : nmany s kind none l [(i : Int), b] = nput s l (kind, 0, (i : Int), b) := by
  show nchain s kind [b] (if 0 ≤ (i : Int) ∧ (i : Int) < (l.length : Int) then some (i : Int).toNat else .none, l) = _
  rw [if_pos ⟨by omega, by omega⟩]
  rfl
theorem nfind_more {l : List Nd} {n : Nd} {k : Nat} (h : nfind l n = some k) : k < l.length ∧ ∀ t, nfind (l ++ t) n = some k := by
  induction l generalizing k with
  | nil => exact nomatch h
  | cons x l ih =>
    unfold nfind at h
    by_cases hx : x = n
    · rw [if_pos hx] at h
      simp only [Option.some.injEq] at h
      subst h
      exact ⟨by simp, fun t => by show nfind (x :: (l ++ t)) n = _; unfold nfind; rw [if_pos hx]⟩
    · rw [if_neg hx] at h
      obtain ⟨j, hj, rfl⟩ := Option.map_eq_some_iff.1 h
      obtain ⟨h1, h2⟩ := ih hj
      exact ⟨by simp; omega, fun t => by show nfind (x :: (l ++ t)) n = _; unfold nfind; rw [if_neg hx, h2 t]; rfl⟩
theorem nfind_new {l : List Nd} {n : Nd} (h : nfind l n = none) (t : List Nd) : nfind (l ++ [n] ++ t) n = some l.length := by
  induction l with
  | nil => show nfind (n :: t) n = _; unfold nfind; rw [if_pos rfl]; rfl
  | cons x l ih =>
    unfold nfind at h
    by_cases hx : x = n
    · rw [if_pos hx] at h; exact nomatch h
    · rw [if_neg hx] at h
      have h' : nfind l n = none := by
        cases hf : nfind l n with
        | none => rfl
        | some k => rw [hf] at h; exact nomatch h
      show nfind (x :: (l ++ [n] ++ t)) n = _
      unfold nfind
      rw [if_neg hx, ih h']
      rfl
/-- A put that finds itself again in all longer lists. -/
structure Put1 (r : Option Nat × List Nd) (l : List Nd) (f : List Nd → Option Nat × List Nd) : Prop where
  ex : ∃ i t, r = (some i, l ++ t) ∧ i < (l ++ t).length ∧ ∀ u, f (l ++ t ++ u) = (some i, l ++ t ++ u)
theorem nput_true {l : List Nd} {n : Nd} (hg : ∀ len, l.length ≤ len → nbad len n = false) : Put1 (nput true l n) l (fun L => nput true L n) := by
  constructor
  cases hf : nfind l n with
  | some k =>
    obtain ⟨h1, h2⟩ := nfind_more hf
    refine ⟨k, [], ?_, by simpa using h1, fun u => ?_⟩
    · rw [nput_old (hg _ (Nat.le_refl _)) hf, List.append_nil]
    · rw [List.append_nil]
      exact nput_old (hg _ (by simp)) (h2 u)
  | none =>
    refine ⟨l.length, [n], nput_new (hg _ (Nat.le_refl _)) (fun _ => hf), by simp, fun u => ?_⟩
    exact nput_old (hg _ (by rw [List.length_append, List.length_append]; omega)) (nfind_new hf u)
theorem bstep_true {i : Nat} {l : List Nd} (x : Int) (hi : i < l.length) (hl : l.length ≤ 60000) : Put1 (bstep true (some i, l) x) l (fun L => bstep true (some i, L) x) := by
  obtain ⟨j, t, hp, hj, hst⟩ := (nput_true (l := l) (n := (0, lw x, 0, 0)) (fun _ _ => leaf_ok (lw_ok x).2)).ex
  have hlen := nput_len true l (0, lw x, 0, 0)
  rw [hp] at hlen
  simp only at hlen hst
  have hi' : i < (l ++ t).length := by rw [List.length_append]; omega
  have fin : ∀ n, (∀ len, (l ++ t).length ≤ len → nbad len n = false) → (bstep true (some i, l) x = nput true (l ++ t) n) → (∀ L, (l ++ t).length ≤ L.length → nput true L (0, lw x, 0, 0) = (some j, L) → bstep true (some i, L) x = nput true L n) → Put1 (bstep true (some i, l) x) l (fun L => bstep true (some i, L) x) := by
    intro n hg e1 e2
    obtain ⟨k, u, hk, hk2, hks⟩ := (nput_true hg).ex
    refine ⟨k, t ++ u, ?_, by rw [← List.append_assoc]; exact hk2, fun z => ?_⟩
    · rw [e1, hk, List.append_assoc]
    · have e3 : l ++ (t ++ u) ++ z = l ++ t ++ (u ++ z) := by simp only [List.append_assoc]
      show bstep true (some i, l ++ (t ++ u) ++ z) x = _
      rw [e3, e2 _ (by simp) (hst _)]
      have := hks z
      simp only [List.append_assoc] at this ⊢
      exact this
  unfold bstep at fin ⊢
  simp only [hp] at fin ⊢
  by_cases q0 : bsel x = 0
  · simp only [if_pos q0] at fin ⊢
    refine fin (1, 0, (i : Int), (j : Int)) (fun len hle => op_ok (Or.inl rfl) (by omega) (by omega) (by omega) (by omega)) (nmany_two true 1 0 _ i _ hi') (fun L hL hp' => ?_)
    rw [hp']
    exact nmany_two true 1 0 L i _ (show i < L.length by omega)
  · simp only [if_neg q0] at fin ⊢
    by_cases q1 : bsel x = 1
    · simp only [if_pos q1] at fin ⊢
      refine fin (2, 0, (j : Int), (i : Int)) (fun len hle => op_ok (Or.inr (Or.inl rfl)) (by omega) (by omega) (by omega) (by omega)) rfl (fun L hL hp' => ?_)
      rw [hp']
      rfl
    · simp only [if_neg q1] at fin ⊢
      by_cases q2 : bsel x = 2
      · simp only [if_pos q2] at fin ⊢
        refine fin (3, 0, (i : Int), (i : Int)) (fun len hle => op_ok (Or.inr (Or.inr rfl)) (by omega) (by omega) (by omega) (by omega)) (nmany_two true 3 F1 _ i _ hi') (fun L hL hp' => ?_)
        rw [hp']
        exact nmany_two true 3 F1 L i _ (show i < L.length by omega)
      · simp only [if_neg q2] at fin ⊢
        refine fin (5, 0, (i : Int), 0) (fun len hle => root_ok (by omega) (by omega)) rfl (fun L hL hp' => ?_)
        rw [hp']
        rfl
theorem fold_true (ls : List Int) {i : Nat} {l : List Nd} (hi : i < l.length) (hl : l.length + 4 * ls.length ≤ 60000) : Put1 (ls.foldl (bstep true) (some i, l)) l (fun L => ls.foldl (bstep true) (some i, L)) := by
  induction ls generalizing i l with
  | nil => exact ⟨i, [], by simp, by simpa using hi, fun u => rfl⟩
  | cons x ls ih =>
    simp only [List.length_cons] at hl
    obtain ⟨j, t, h1, h2, h3⟩ := (bstep_true x hi (by omega)).ex
    have hlen := bstep_len true (some i, l) x
    rw [h1] at hlen
    simp only at hlen h3
    obtain ⟨k, u, k1, k2, k3⟩ := (ih h2 (by omega)).ex
    refine ⟨k, t ++ u, ?_, by rw [← List.append_assoc]; exact k2, fun z => ?_⟩
    · show ls.foldl (bstep true) (bstep true (some i, l) x) = _
      rw [h1, k1, List.append_assoc]
    · show ls.foldl (bstep true) (bstep true (some i, l ++ (t ++ u) ++ z) x) = _
      have e3 : l ++ (t ++ u) ++ z = l ++ t ++ (u ++ z) := by simp only [List.append_assoc]
      rw [e3, h3]
      have := k3 z
      simp only [List.append_assoc] at this ⊢
      exact this
theorem shares_true (ls : List Int) (hl : ls.length ≤ 20) : ∃ a L, nbuild true [] ls = (some a, L) ∧ L.length ≤ 100 ∧ nbuild true L ls = (some a, L) := by
  have p1 : nput true [] (0, F1, 0, 0) = (some 0, [(0, F1, 0, 0)]) := nput_new (leaf_ok f1_fin) (fun _ => rfl)
  obtain ⟨k, u, k1, k2, k3⟩ := (fold_true ls (i := 0) (l := [(0, F1, 0, 0)]) (by simp) (by simp; omega)).ex
  have hlen : ∀ (ls : List Int) (r : Option Nat × List Nd), (ls.foldl (bstep true) r).2.length ≤ r.2.length + 4 * ls.length := by
    intro ls
    induction ls with
    | nil => intro r; simp
    | cons x ls ih =>
      intro r
      have h1 := ih (bstep true r x)
      have h2 := bstep_len true r x
      simp only [List.foldl_cons, List.length_cons]
      omega
  refine ⟨k, [(0, F1, 0, 0)] ++ u, ?_, ?_, ?_⟩
  · unfold nbuild; rw [p1, k1]
  · have := hlen ls (some 0, [(0, F1, 0, 0)])
    rw [k1] at this
    simp only [List.length_cons, List.length_nil] at this
    exact Nat.le_trans this (by omega)
  · unfold nbuild
    rw [nput_old (k := 0) (leaf_ok f1_fin) rfl]
    have := k3 []
    rw [List.append_nil] at this
    exact this
theorem bstep_false {i : Nat} {l : List Nd} (x : Int) (hi : i < l.length) (hl : l.length ≤ 60000) : ∃ L, bstep false (some i, l) x = (some (l.length + 1), L) ∧ L.length = l.length + 2 := by
  have hp : nput false l (0, lw x, 0, 0) = (some l.length, l ++ [(0, lw x, 0, 0)]) := nput_new (leaf_ok (lw_ok x).2) (fun h => nomatch h)
  have hn : ∀ n, nbad (l ++ [(0, lw x, 0, 0)]).length n = false → nput false (l ++ [(0, lw x, 0, 0)]) n = (some (l.length + 1), l ++ [(0, lw x, 0, 0)] ++ [n]) := fun n h => by
    rw [nput_new (s := false) h (fun h => nomatch h)]
    simp
  have hll : (l ++ [((0, lw x, 0, 0) : Nd)]).length = l.length + 1 := by simp
  unfold bstep
  simp only [hp]
  by_cases q0 : bsel x = 0
  · rw [if_pos q0]
    refine ⟨_, (nmany_two false 1 0 _ i _ (by omega)).trans (hn _ (op_ok (Or.inl rfl) (by omega) (by omega) (by omega) (by omega))), by simp⟩
  · rw [if_neg q0]
    by_cases q1 : bsel x = 1
    · rw [if_pos q1]
      exact ⟨_, hn (2, 0, ((l.length : Nat) : Int), (i : Int)) (op_ok (Or.inr (Or.inl rfl)) (by omega) (by omega) (by omega) (by omega)), by simp⟩
    · rw [if_neg q1]
      by_cases q2 : bsel x = 2
      · rw [if_pos q2]
        exact ⟨_, (nmany_two false 3 F1 _ i _ (by omega)).trans (hn _ (op_ok (Or.inr (Or.inr rfl)) (by omega) (by omega) (by omega) (by omega))), by simp⟩
      · rw [if_neg q2]
        exact ⟨_, hn (5, 0, (i : Int), 0) (root_ok (by omega) (by omega)), by simp⟩
theorem fold_false (ls : List Int) {i : Nat} {l : List Nd} (hi : i + 1 = l.length) (hl : l.length + 2 * ls.length ≤ 60000) : ∃ L, ls.foldl (bstep false) (some i, l) = (some (i + 2 * ls.length), L) ∧ L.length = l.length + 2 * ls.length := by
  induction ls generalizing i l with
  | nil => exact ⟨l, rfl, rfl⟩
  | cons x ls ih =>
    simp only [List.length_cons] at hl
    obtain ⟨L, h1, h2⟩ := bstep_false (i := i) (l := l) x (by omega) (by omega)
    obtain ⟨M, h3, h4⟩ := ih (i := l.length + 1) (l := L) (by omega) (by omega)
    refine ⟨M, ?_, by simp only [List.length_cons]; omega⟩
    rw [List.foldl_cons, h1, h3]
    simp only [List.length_cons]
    congr 2
    omega
theorem shares_false (ls : List Int) (l : List Nd) (hl : l.length ≤ 100) (hls : ls.length ≤ 20) : ∃ L, nbuild false l ls = (some (l.length + 2 * ls.length), L) ∧ L.length = l.length + 1 + 2 * ls.length := by
  have hp : nput false l (0, F1, 0, 0) = (some l.length, l ++ [(0, F1, 0, 0)]) := nput_new (leaf_ok f1_fin) (fun h => nomatch h)
  obtain ⟨L, h1, h2⟩ := fold_false ls (i := l.length) (l := l ++ [(0, F1, 0, 0)]) (by simp) (by simp; omega)
  refine ⟨L, ?_, by rw [h2]; simp⟩
  unfold nbuild
  rw [hp]
  exact h1
set_option maxRecDepth 100000 in
set_option maxHeartbeats 4000000 in
theorem shares_ok (C : DagC) {w : World} {ao : Option Addr} {n c : Nat} {ls : List Int} (s : Bool) (hn : n = ls.length) (hr : RdJ w ao ls) (hrb : ∀ b off, ao = some ⟨b, off, none⟩ → ls ≠ [] → b < w.heap.size) (hrg : ∀ x ∈ ls, -9223372036854775808 ≤ x ∧ x ≤ 9223372036854775807) :
    Calls Try.prog 5 #[.slice ao n c, .bool s] w fun e w' => RetV w (.bool true) e w' := by
  have HA := Lib.hid (dalive C)
  have HN := Lib.hid hn
  have HR := Lib.hid hr
  have HRB := Lib.hid hrb
  have HRG := Lib.hid hrg
  clear hn hr hrb hrg
  by_cases h0 : n < 1
  · have d0 : decide ((n : Int) < 1) = true := by simp; omega
    go_enter Try.func5, Try.ntmps5
    go_wp2_with fail
    refine (HA.out _).mono ?_
    rintro e w1 ⟨rfl, hb1⟩
    go_wp2_with fail
    go_ret
    exact ⟨rfl, hb1⟩
  · have d0 : decide ((n : Int) < 1) = false := by simp; omega
    by_cases h2 : 20 < n
    · have d1 : decide ((20 : Int) < (n : Int)) = true := by simp; omega
      go_enter Try.func5, Try.ntmps5
      go_wp2_with fail
      refine (HA.out _).mono ?_
      rintro e w1 ⟨rfl, hb1⟩
      go_wp2_with fail
      go_ret
      exact ⟨rfl, hb1⟩
    · have d1 : decide ((20 : Int) < (n : Int)) = false := by simp; omega
      have HL : Hid (ls.length ≤ 20) := Lib.hid (by have := HN.out; omega)
      cases s with
      | true =>
        go_enter Try.func5, Try.ntmps5
        go_wp2_with fail
        refine (HA.out _).mono ?_
        rintro e w1 ⟨rfl, hb1⟩
        go_wp2_with fail
        refine (St.new C (base := w.heap.size) w1 true hb1.size).mono ?_
        rintro e w2 ⟨d, rfl, S2, hb2⟩
        replace hb2 := hb1.trans (hb2.mono hb1.size)
        clear hb1
        obtain ⟨g, rfl⟩ := S2.form
        go_wp2_with fail
        refine (build_num S2 hb2.size (by simp) HN.out (HR.out.below hb2 HRB.out) HRB.out (by omega) HRG.out).mono ?_
        rintro e w3 ⟨rfl, S3, hb3⟩
        replace hb3 := hb2.trans hb3
        clear S2 hb2
        obtain ⟨a, L, e1, e2, e3⟩ := shares_true ls HL.out
        have HE3 := Lib.hid e3
        obtain ⟨m, hm⟩ : ∃ m, L.length = m := ⟨_, rfl⟩
        rw [e1] at S3
        have hge : decide ((0 : Int) ≤ idI (some a)) = true := by show decide ((0 : Int) ≤ (a : Int)) = true; simp
        have HE1 := Lib.hid e1
        clear e3
        go_wp2_with fail
        refine S3.len.mono ?_
        rintro e w4 ⟨rfl, hb4⟩
        replace S3 := S3.below hb4
        replace hb4 := hb3.trans (hb4.mono hb3.size)
        clear hb3
        go_wp2_with fail
        refine (build_num S3 hb4.size (show L.length ≤ 1000 by omega) HN.out (HR.out.below hb4 HRB.out) HRB.out (by omega) HRG.out).mono ?_
        rintro e w5 ⟨rfl, S5, hb5⟩
        have e3 := HE3.out
        rw [e3] at S5
        replace hb5 := hb4.trans hb5
        clear S3 hb4
        go_wp2_with fail
        refine S5.len.mono ?_
        rintro e w6 ⟨rfl, hb6⟩
        go_wp2_with fail
        go_ret
        exact ⟨rfl, hb5.trans (hb6.mono hb5.size)⟩
      | false =>
        go_enter Try.func5, Try.ntmps5
        go_wp2_with fail
        refine (HA.out _).mono ?_
        rintro e w1 ⟨rfl, hb1⟩
        go_wp2_with fail
        refine (St.new C (base := w.heap.size) w1 false hb1.size).mono ?_
        rintro e w2 ⟨d, rfl, S2, hb2⟩
        replace hb2 := hb1.trans (hb2.mono hb1.size)
        clear hb1
        obtain ⟨g, rfl⟩ := S2.form
        go_wp2_with fail
        refine (build_num S2 hb2.size (by simp) HN.out (HR.out.below hb2 HRB.out) HRB.out (by omega) HRG.out).mono ?_
        rintro e w3 ⟨rfl, S3, hb3⟩
        replace hb3 := hb2.trans hb3
        clear S2 hb2
        obtain ⟨L, e1, e2⟩ := shares_false ls [] (by simp) HL.out
        obtain ⟨M, f1, f2⟩ := shares_false ls L (by simp at e2; have := HL.out; omega) HL.out
        obtain ⟨m, hm⟩ : ∃ m, L.length = m := ⟨_, rfl⟩
        obtain ⟨q, hq⟩ : ∃ q, M.length = q := ⟨_, rfl⟩
        have hls := HL.out
        obtain ⟨t, ht⟩ : ∃ t, ls.length = t := ⟨_, rfl⟩
        rw [ht] at e1 e2 f1 f2 hls
        rw [hm] at e2 f1 f2
        rw [hq] at f2
        simp only [List.length_nil, Nat.zero_add] at e1 e2
        have HF1 := Lib.hid f1
        rw [e1] at S3
        have hge : decide ((0 : Int) ≤ idI (some (2 * t))) = true := by show decide ((0 : Int) ≤ ((2 * t : Nat) : Int)) = true; exact decide_eq_true (by omega)
        have hs1 : idI (some (2 * t)) + (m : Int) = idI (some (m + 2 * t)) := by show ((2 * t : Nat) : Int) + (m : Int) = ((m + 2 * t : Nat) : Int); omega
        have hs2 : (2 : Int) * (m : Int) = (q : Int) := by omega
        have hq3 : (q : Int) ≤ 1000 := by omega
        have hm3 : (m : Int) ≤ 1000 := by omega
        have hid1 : idI (some (m + 2 * t)) ≤ 1000 ∧ 0 ≤ idI (some (m + 2 * t)) := by show ((m + 2 * t : Nat) : Int) ≤ 1000 ∧ (0 : Int) ≤ ((m + 2 * t : Nat) : Int); omega
        have HE1 := Lib.hid e1
        clear f1 ht e2 f2
        go_wp2_with fail
        refine S3.len.mono ?_
        rintro e w4 ⟨rfl, hb4⟩
        replace S3 := S3.below hb4
        replace hb4 := hb3.trans (hb4.mono hb3.size)
        clear hb3
        go_wp2_with fail
        refine (build_num S3 hb4.size (show L.length ≤ 1000 by omega) HN.out (HR.out.below hb4 HRB.out) HRB.out (by omega) HRG.out).mono ?_
        rintro e w5 ⟨rfl, S5, hb5⟩
        have f1 := HF1.out
        rw [f1] at S5
        replace hb5 := hb4.trans hb5
        clear S3 hb4
        go_wp2_with fail
        refine S5.len.mono ?_
        rintro e w6 ⟨rfl, hb6⟩
        go_wp2_with fail
        go_ret
        exact ⟨rfl, hb5.trans (hb6.mono hb5.size)⟩
end Go.Proofs.Ytkkjkohmekbdbaa

namespace Go.Proofs.Ytkkjkohmekbdbaa
open Go.RowKit

theorem nput_cases (s : Bool) (l : List Nd) (n : Nd) : (nput s l n).2 = l ∨ ((nput s l n).2 = l ++ [n] ∧ (s = true → nfind l n = none)) := by
  unfold nput
  split
  · exact Or.inl rfl
  · split
    · split
      · exact Or.inl rfl
      · rename_i h
        exact Or.inr ⟨rfl, fun _ => h⟩
    · rename_i h
      exact Or.inr ⟨rfl, fun hs => absurd hs h⟩
theorem nfind_ne {l : List Nd} {n y : Nd} {k : Nat} (h : nfind l n = none) (hk : l[k]? = some y) : y ≠ n := by
  induction l generalizing k with
  | nil => simp at hk
  | cons x l ih =>
    unfold nfind at h
    by_cases hx : x = n
    · rw [if_pos hx] at h; exact nomatch h
    · rw [if_neg hx] at h
      cases k with
      | zero =>
        simp only [List.getElem?_cons_zero, Option.some.injEq] at hk
        exact hk ▸ hx
      | succ k =>
        refine ih (k := k) ?_ (by simpa using hk)
        cases hf : nfind l n with
        | none => rfl
        | some j => rw [hf] at h; exact nomatch h
set_option maxRecDepth 100000 in
set_option maxHeartbeats 4000000 in
theorem grows_ok (C : DagC) {w : World} {ao : Option Addr} {n c : Nat} {ls : List Nd} (s : Bool) (hn : n = ls.length) (hr : RdN w ao ls) (hrb : ∀ b off, ao = some ⟨b, off, none⟩ → ls ≠ [] → b < w.heap.size) (hrg : ∀ x ∈ ls, x.2.1 < 18446744073709551616) :
    Calls Try.prog 4 #[.slice ao n c, .bool s] w fun e w' => RetV w (.bool true) e w' := by
  have HA := Lib.hid (dalive C)
  have HN := Lib.hid hn
  have HR := Lib.hid hr
  have HRB := Lib.hid hrb
  have HRG := Lib.hid hrg
  clear hn hr hrb hrg
  by_cases h2 : 60 < n
  · have d1 : decide ((60 : Int) < (n : Int)) = true := by simp; omega
    go_enter Try.func4, Try.ntmps4
    go_wp2_with fail
    refine (HA.out _).mono ?_
    rintro e w1 ⟨rfl, hb1⟩
    go_wp2_with fail
    go_ret
    exact ⟨rfl, hb1⟩
  · have d1 : decide ((60 : Int) < (n : Int)) = false := by simp; omega
    go_enter Try.func4, Try.ntmps4
    go_wp2_with fail
    refine (HA.out _).mono ?_
    rintro e w1 ⟨rfl, hb1⟩
    go_wp2_with fail
    refine (St.new C (base := w.heap.size) w1 s hb1.size).mono ?_
    rintro e w2 ⟨d, rfl, S2, hb2⟩
    replace hb2 := hb1.trans (hb2.mono hb1.size)
    clear hb1
    obtain ⟨g, rfl⟩ := S2.form
    have S2' : StX C w.heap.size w2 (.pointer (some ⟨g, 0, none⟩)) [] s (fun k => (Value.slice none 0 0).ownBlock = some k) := by
      obtain ⟨F, a1, a2⟩ := S2
      exact ⟨F, a1, fun k hk => ⟨a2 k hk, fun h => nomatch h⟩⟩
    clear S2
    go_wp2_with fail
    go_loopw [6, 7] (fun v i wr => ∃ (k : Nat) (L : List Nd) (wa : Option Addr) (p cw : Nat), k ≤ n ∧ i = .int .i64 k ∧ v = .slice wa p cw ∧ L.length = p ∧ p ≤ k ∧ OwN w.heap.size wr (.slice wa p cw) L ∧ StX C w.heap.size wr (.pointer (some ⟨g, 0, none⟩)) L s (fun b => (Value.slice wa p cw).ownBlock = some b) ∧ Below w.heap.size w wr) (fun _ i _ => n - (intOf i).toNat)
    case atStart => exact ⟨0, [], none, 0, 0, Nat.zero_le _, rfl, rfl, rfl, Nat.le_refl _, OwN.nil _ _, S2', hb2⟩
    case round =>
      obtain ⟨k, L, wa, p, cw, hk, rfl, rfl, hlen, hpk, hown, hst, hb0⟩ := hrel
      have HL := Lib.hid hlen
      clear hlen S2'
      by_cases hlt : k < n
      · have hne : ls ≠ [] := by intro e; have := HN.out; subst e; simp at this; omega
        obtain ⟨b0, o0, rfl, -⟩ := HR.out.some hne
        obtain ⟨x, hx⟩ : ∃ x, ls[k]? = some x := ⟨ls[k]'(by have := HN.out; omega), by rw [List.getElem?_eq_getElem]⟩
        have hrl : RdN wr (some ⟨b0, o0, none⟩) ls := HR.out.same fun b off e hl => hb0.block b (HRB.out b off e hl)
        obtain ⟨i0, i1, i2, i3⟩ := hrl.at hx
        have hxv := HRG.out x (List.mem_of_getElem? hx)
        have HX := Lib.hid hx
        clear hrl hx hne
        go_wp2_with fail
        refine (hst.put (fun b hb => (hown.lt b hb).2) hb0.size (by have := HL.out; omega) x hxv).mono ?_
        rintro e w3 ⟨err, rfl, h3, hl3⟩
        obtain ⟨L', hL'⟩ : ∃ L', (nput s L x).2 = L' := ⟨_, rfl⟩
        have hcs := nput_cases s L x
        rw [hL'] at h3 hcs
        have hown3 : OwN w.heap.size w3 (.slice wa p cw) L := hown.same fun b hb => hl3.2 b hb (hown.lt b hb).2
        have hb3 := hb0.trans hl3.1
        have HC := Lib.hid hcs
        clear hcs hL' hown hst hl3 i0 i1 i2 i3 hb0
        go_wp2_with fail
        refine h3.all.mono ?_
        rintro e w4 ⟨va, rfl, ho4, h4, hb4⟩
        have hown4 := hown3.below hb4
        have hbw4 := hb3.trans (hb4.mono hb3.size)
        have hsz3 := hb3.size
        clear hown3 h3 hb4 hb3
        obtain ⟨aa, ca, rfl, hca1, hca2, hrda, -⟩ := ho4.form
        obtain ⟨m, hm⟩ : ∃ m, L'.length = m := ⟨_, rfl⟩
        rw [hm] at hca1 ho4 h4
        have HM := Lib.hid hm
        have hmp : m = p ∨ m = p + 1 := by
          rcases HC.out with h | ⟨h, -⟩
          · left; rw [← hm, h]; exact HL.out
          · right; rw [← hm, h, List.length_append, HL.out]; rfl
        have HRA := Lib.hid hrda
        have HOA := Lib.hid (OwN.base ho4 hsz3)
        have HW := Lib.hid hown4
        have HS4 := Lib.hid h4
        have e1 : decide ((m : Int) < (p : Int)) = false := by simp; omega
        have e2 : decide ((p : Int) + 1 < (m : Int)) = false := by simp; omega
        clear hrda ho4 hown4 h4
        rw [hm]
        clear hm
        go_wp2_with fail
        go_loopw [9] (fun i wr => ∃ q : Nat, q ≤ p ∧ i = .int .i64 q ∧ Below w4.heap.size w4 wr) (fun i _ => p - (intOf i).toNat)
        case atStart => exact ⟨0, Nat.zero_le _, rfl, Below.refl _ _⟩
        case round =>
          obtain ⟨q, hq, rfl, hbr⟩ := hrel
          by_cases hqp : q < p
          · have hqm' : q < m := by omega
            obtain ⟨y, hy2⟩ : ∃ y, L[q]? = some y := ⟨L[q]'(by have := HL.out; omega), by rw [List.getElem?_eq_getElem]⟩
            have hy1 : L'[q]? = some y := by
              rcases HC.out with h | ⟨h, -⟩ <;> rw [h]
              · exact hy2
              · rw [List.getElem?_append_left (by have := HL.out; omega)]; exact hy2
            obtain ⟨b1, o1, rfl, -⟩ := HRA.out.some (by intro e; rw [e] at hy1; simp at hy1)
            obtain ⟨wa', cw', hwv, -, -, hrw, -⟩ := HW.out.form
            rw [HL.out] at hwv
            simp only [Value.slice.injEq, true_and] at hwv
            obtain ⟨rfl, rfl⟩ := hwv
            obtain ⟨b2, o2, rfl, -⟩ := hrw.some (by intro e; rw [e] at hy2; simp at hy2)
            have hra := HRA.out.below hbr
            replace hrw := hrw.below hbr
            have HSE := Lib.hid (same_nd y y)
            rw [decide_eq_true rfl] at HSE
            go_upto_region 17 with fail
            refine wp_region_slots (by kernel_rfl) [56, 57, 58, 59, 60, 61, 62, 63, 64, 65] (fun w' => (RdN w' (some ⟨b1, o1, none⟩) L') ∧ (RdN w' (some ⟨b2, o2, none⟩) L) ∧ (Below wr.heap.size wr w')) (Said [Is (.slice (some ⟨b1, o1, none⟩) m ca), Is (.int .i64 (q : Int)), Is (.pointer (some ⟨b1, o1 + q * 4, none⟩)), Is (.agg #[.int .i64 y.1, .float .f64 y.2.1, .int .i64 y.2.2.1, .int .i64 y.2.2.2]), Is (.slice (some ⟨b2, o2, none⟩) p cw), Is (.int .i64 (q : Int)), Is (.pointer (some ⟨b2, o2 + q * 4, none⟩)), Is (.agg #[.int .i64 y.1, .float .f64 y.2.1, .int .i64 y.2.2.1, .int .i64 y.2.2.2]), Is (.bool true), Is (.bool false)]) (by kernel_rfl) (by kernel_rfl) (by kernel_rfl) (by kernel_rfl) (Said.keep ?keep1) ⟨hra.below (bdn (Below.refl _ _) 1), hrw.below (bdn (Below.refl _ _) 1), bdn (Below.refl _ _) 1⟩ (l := [0, 1, 2, 3, 4, 5, 6, 7, 8, 9]) (by kernel_rfl) ?step1 ?fin1
            case keep1 =>
              refine List.forall_mem_cons.2 ⟨Is.keeps _, ?_⟩
              refine List.forall_mem_cons.2 ⟨Is.keeps _, ?_⟩
              refine List.forall_mem_cons.2 ⟨Is.keeps _, ?_⟩
              refine List.forall_mem_cons.2 ⟨Is.keeps _, ?_⟩
              refine List.forall_mem_cons.2 ⟨Is.keeps _, ?_⟩
              refine List.forall_mem_cons.2 ⟨Is.keeps _, ?_⟩
              refine List.forall_mem_cons.2 ⟨Is.keeps _, ?_⟩
              refine List.forall_mem_cons.2 ⟨Is.keeps _, ?_⟩
              refine List.forall_mem_cons.2 ⟨Is.keeps _, ?_⟩
              refine List.forall_mem_cons.2 ⟨Is.keeps _, ?_⟩
              exact fun _ h => nomatch h
            case step1 =>
              refine List.forall_mem_cons.2 ⟨?_, ?_⟩
              · refine SlotStep.plain rfl rfl rfl ?_
                intro tm ws hsame hS hg K hK
                have e8 : tm[8]? = some (.slice (some ⟨b1, o1, none⟩) m ca) := hsame.2 8 rfl
                go_simp
                exact hK _ _ (Below.refl _ _) hS rfl
              refine List.forall_mem_cons.2 ⟨?_, ?_⟩
              · refine SlotStep.plain rfl rfl rfl ?_
                intro tm ws hsame hS hg K hK
                have e9 : tm[9]? = some (.int .i64 (q : Int)) := hsame.2 9 rfl
                go_simp
                exact hK _ _ (Below.refl _ _) hS rfl
              refine List.forall_mem_cons.2 ⟨?_, ?_⟩
              · refine SlotStep.plain rfl rfl rfl ?_
                intro tm ws hsame hS hg K hK
                obtain ⟨v56, e56, rfl⟩ := hg 0 (by kernel_rfl) _ 56 rfl rfl
                obtain ⟨v57, e57, rfl⟩ := hg 1 (by kernel_rfl) _ 57 rfl rfl
                go_simp
                exact hK _ _ (Below.refl _ _) hS rfl
              refine List.forall_mem_cons.2 ⟨?_, ?_⟩
              · refine SlotStep.plain rfl rfl rfl ?_
                intro tm ws hsame hS hg K hK
                obtain ⟨v58, e58, rfl⟩ := hg 2 (by kernel_rfl) _ 58 rfl rfl
                obtain ⟨k0, k1, k2, k3⟩ := (hS.1).at hy1
                go_simp
                exact hK _ _ (Below.refl _ _) hS rfl
              refine List.forall_mem_cons.2 ⟨?_, ?_⟩
              · refine SlotStep.plain rfl rfl rfl ?_
                intro tm ws hsame hS hg K hK
                have e6 : tm[6]? = some (.slice (some ⟨b2, o2, none⟩) p cw) := hsame.2 6 rfl
                go_simp
                exact hK _ _ (Below.refl _ _) hS rfl
              refine List.forall_mem_cons.2 ⟨?_, ?_⟩
              · refine SlotStep.plain rfl rfl rfl ?_
                intro tm ws hsame hS hg K hK
                have e9 : tm[9]? = some (.int .i64 (q : Int)) := hsame.2 9 rfl
                go_simp
                exact hK _ _ (Below.refl _ _) hS rfl
              refine List.forall_mem_cons.2 ⟨?_, ?_⟩
              · refine SlotStep.plain rfl rfl rfl ?_
                intro tm ws hsame hS hg K hK
                obtain ⟨v60, e60, rfl⟩ := hg 4 (by kernel_rfl) _ 60 rfl rfl
                obtain ⟨v61, e61, rfl⟩ := hg 5 (by kernel_rfl) _ 61 rfl rfl
                go_simp
                exact hK _ _ (Below.refl _ _) hS rfl
              refine List.forall_mem_cons.2 ⟨?_, ?_⟩
              · refine SlotStep.plain rfl rfl rfl ?_
                intro tm ws hsame hS hg K hK
                obtain ⟨v62, e62, rfl⟩ := hg 6 (by kernel_rfl) _ 62 rfl rfl
                obtain ⟨k0, k1, k2, k3⟩ := (hS.2.1).at hy2
                go_simp
                exact hK _ _ (Below.refl _ _) hS rfl
              refine List.forall_mem_cons.2 ⟨?_, ?_⟩
              · refine SlotStep.plain rfl rfl rfl ?_
                intro tm ws hsame hS hg K hK
                obtain ⟨v59, e59, rfl⟩ := hg 3 (by kernel_rfl) _ 59 rfl rfl
                obtain ⟨v63, e63, rfl⟩ := hg 7 (by kernel_rfl) _ 63 rfl rfl
                go_simp
                refine (HSE.out ws).mono ?_
                rintro e wm ⟨rfl, hb⟩
                exact hK _ _ hb (⟨(hS.1).below (hb), (hS.2.1).below (hb), (hS.2.2).trans (Below.mono (hb) (hS.2.2).size)⟩) rfl
              refine List.forall_mem_cons.2 ⟨?_, ?_⟩
              · refine SlotStep.plain rfl rfl rfl ?_
                intro tm ws hsame hS hg K hK
                obtain ⟨v64, e64, rfl⟩ := hg 8 (by kernel_rfl) _ 64 rfl rfl
                go_simp
                exact hK _ _ (Below.refl _ _) hS rfl
              exact fun _ h => nomatch h
            case fin1 =>
              intro tm w5 hsame hS hgot
              obtain ⟨u', hu, htm⟩ := hsame.form (by kernel_rfl)
              obtain ⟨vS, eS, rfl⟩ := hgot 9 _ 65 rfl rfl
              have hS1 := hu _ _ eS
              have hb5 := hS.2.2
              clear hgot hu hsame eS hS
              rw [htm]
              clear htm tm
              simp only [List.foldl_cons, List.foldl_nil, List.setIfInBounds_toArray, List.set_cons_zero, List.set_cons_succ, hS1]
              clear hS1
              go_wp2_with fail
              go_roundw
              case rel => exact ⟨q + 1, by omega, by go_num, hbr.trans (hb5.mono hbr.size)⟩
              case measure => simp [intOf]; omega
          · go_wp2_with fail
            go_loopw [10] (fun i wr => ∃ q : Nat, q ≤ m ∧ i = .int .i64 q ∧ Below w4.heap.size w4 wr) (fun i _ => m - (intOf i).toNat)
            case atStart => exact ⟨0, Nat.zero_le _, rfl, hbr⟩
            case round =>
              clear hbr hq hqp
              obtain ⟨q, hq, rfl, hbr⟩ := hrel
              have NEXT : ∀ wz, Below w4.heap.size w4 wz → Hid (∃ (k' : Nat) (L : List Nd) (wa : Option Addr) (p cw : Nat), k' ≤ n ∧ (Value.int .i64 ((k : Int) + 1)) = .int .i64 k' ∧ (Value.slice aa m ca) = .slice wa p cw ∧ L.length = p ∧ p ≤ k' ∧ OwN w.heap.size wz (.slice wa p cw) L ∧ StX C w.heap.size wz (.pointer (some ⟨g, 0, none⟩)) L s (fun b => (Value.slice wa p cw).ownBlock = some b) ∧ Below w.heap.size w wz) := fun wz hz => Lib.hid
                ⟨k + 1, L', aa, m, ca, by omega, by go_num, rfl, HM.out, by omega, HOA.out.below hz, HS4.out.below hz, hbw4.trans (hz.mono hbw4.size)⟩
              by_cases hqm : q + 1 < m
              · have e3 : decide ((q : Int) + 1 < (m : Int)) = true := by simp; omega
                cases s with
                | false =>
                  go_wp2_with fail
                  go_roundw
                  case rel => exact (NEXT _ hbr).out
                  case measure => simp [intOf]; omega
                | true =>
                  obtain ⟨y, hy1⟩ : ∃ y, L'[q]? = some y := ⟨L'[q]'(by have := HM.out; omega), by rw [List.getElem?_eq_getElem]⟩
                  obtain ⟨b1, o1, rfl, -⟩ := HRA.out.some (by intro e; rw [e] at hy1; simp at hy1)
                  have hra := HRA.out.below hbr
                  rcases hmp with hmp | hmp
                  · have e4 : decide (p < m) = false := by simp; omega
                    have hqm' : q < m := by omega
                    clear hmp
                    go_upto_region 22 with fail
                    refine wp_region_slots (by kernel_rfl) [76, 77, 78, 79, 80, 81, 82, 83, 84, 85, 86, 87, 88, 89, 90, 91, 92, 93] (fun w' => (RdN w' (some ⟨b1, o1, none⟩) L') ∧ (Below wr.heap.size wr w')) (Said [Is (.slice (some ⟨b1, o1, none⟩) m ca), Is (.int .i64 (m : Int)), Is (.slice wa p cw), Is (.int .i64 (p : Int)), Is (.bool false), Is (.bool false), Is undef, Is undef, Is undef, Is undef, Is undef, Is undef, Is undef, Is undef, Is undef, Is undef, Is undef, Is (.bool false)]) (by kernel_rfl) (by kernel_rfl) (by kernel_rfl) (by kernel_rfl) (Said.keep ?keep2) ⟨hra.below (bdn (Below.refl _ _) 1), bdn (Below.refl _ _) 1⟩ (l := [0, 1, 2, 3, 4, 5, 6, 7, 8, 9, 10, 11, 12, 13, 14, 15, 16, 17]) (by kernel_rfl) ?step2 ?fin2
                    case keep2 =>
                      refine List.forall_mem_cons.2 ⟨Is.keeps _, ?_⟩
                      refine List.forall_mem_cons.2 ⟨Is.keeps _, ?_⟩
                      refine List.forall_mem_cons.2 ⟨Is.keeps _, ?_⟩
                      refine List.forall_mem_cons.2 ⟨Is.keeps _, ?_⟩
                      refine List.forall_mem_cons.2 ⟨Is.keeps _, ?_⟩
                      refine List.forall_mem_cons.2 ⟨Is.keeps _, ?_⟩
                      refine List.forall_mem_cons.2 ⟨Is.keeps _, ?_⟩
                      refine List.forall_mem_cons.2 ⟨Is.keeps _, ?_⟩
                      refine List.forall_mem_cons.2 ⟨Is.keeps _, ?_⟩
                      refine List.forall_mem_cons.2 ⟨Is.keeps _, ?_⟩
                      refine List.forall_mem_cons.2 ⟨Is.keeps _, ?_⟩
                      refine List.forall_mem_cons.2 ⟨Is.keeps _, ?_⟩
                      refine List.forall_mem_cons.2 ⟨Is.keeps _, ?_⟩
                      refine List.forall_mem_cons.2 ⟨Is.keeps _, ?_⟩
                      refine List.forall_mem_cons.2 ⟨Is.keeps _, ?_⟩
                      refine List.forall_mem_cons.2 ⟨Is.keeps _, ?_⟩
                      refine List.forall_mem_cons.2 ⟨Is.keeps _, ?_⟩
                      refine List.forall_mem_cons.2 ⟨Is.keeps _, ?_⟩
                      exact fun _ h => nomatch h
                    case step2 =>
                      refine List.forall_mem_cons.2 ⟨?_, ?_⟩
                      · refine SlotStep.plain rfl rfl rfl ?_
                        intro tm ws hsame hS hg K hK
                        have e8 : tm[8]? = some (.slice (some ⟨b1, o1, none⟩) m ca) := hsame.2 8 rfl
                        go_simp
                        exact hK _ _ (Below.refl _ _) hS rfl
                      refine List.forall_mem_cons.2 ⟨?_, ?_⟩
                      · refine SlotStep.plain rfl rfl rfl ?_
                        intro tm ws hsame hS hg K hK
                        obtain ⟨v76, e76, rfl⟩ := hg 0 (by kernel_rfl) _ 76 rfl rfl
                        go_simp
                        exact hK _ _ (Below.refl _ _) hS rfl
                      refine List.forall_mem_cons.2 ⟨?_, ?_⟩
                      · refine SlotStep.plain rfl rfl rfl ?_
                        intro tm ws hsame hS hg K hK
                        have e6 : tm[6]? = some (.slice wa p cw) := hsame.2 6 rfl
                        go_simp
                        exact hK _ _ (Below.refl _ _) hS rfl
                      refine List.forall_mem_cons.2 ⟨?_, ?_⟩
                      · refine SlotStep.plain rfl rfl rfl ?_
                        intro tm ws hsame hS hg K hK
                        obtain ⟨v78, e78, rfl⟩ := hg 2 (by kernel_rfl) _ 78 rfl rfl
                        go_simp
                        exact hK _ _ (Below.refl _ _) hS rfl
                      refine List.forall_mem_cons.2 ⟨?_, ?_⟩
                      · refine SlotStep.plain rfl rfl rfl ?_
                        intro tm ws hsame hS hg K hK
                        obtain ⟨v77, e77, rfl⟩ := hg 1 (by kernel_rfl) _ 77 rfl rfl
                        obtain ⟨v79, e79, rfl⟩ := hg 3 (by kernel_rfl) _ 79 rfl rfl
                        go_simp
                        exact hK _ _ (Below.refl _ _) hS rfl
                      refine List.forall_mem_cons.2 ⟨?_, ?_⟩
                      · refine SlotStep.plain rfl rfl rfl ?_
                        intro tm ws hsame hS hg K hK
                        obtain ⟨v80, e80, rfl⟩ := hg 4 (by kernel_rfl) _ 80 rfl rfl
                        go_simp
                        exact hK _ _ (Below.refl _ _) hS rfl
                      refine List.forall_mem_cons.2 ⟨?_, ?_⟩
                      · exact SlotStep.skip rfl rfl 5 true rfl rfl (by kernel_rfl) (fun _ _ h => h) (fun _ => rfl)
                      refine List.forall_mem_cons.2 ⟨?_, ?_⟩
                      · exact SlotStep.skip rfl rfl 5 true rfl rfl (by kernel_rfl) (fun _ _ h => h) (fun _ => rfl)
                      refine List.forall_mem_cons.2 ⟨?_, ?_⟩
                      · exact SlotStep.skip rfl rfl 5 true rfl rfl (by kernel_rfl) (fun _ _ h => h) (fun _ => rfl)
                      refine List.forall_mem_cons.2 ⟨?_, ?_⟩
                      · exact SlotStep.skip rfl rfl 5 true rfl rfl (by kernel_rfl) (fun _ _ h => h) (fun _ => rfl)
                      refine List.forall_mem_cons.2 ⟨?_, ?_⟩
                      · exact SlotStep.skip rfl rfl 5 true rfl rfl (by kernel_rfl) (fun _ _ h => h) (fun _ => rfl)
                      refine List.forall_mem_cons.2 ⟨?_, ?_⟩
                      · exact SlotStep.skip rfl rfl 5 true rfl rfl (by kernel_rfl) (fun _ _ h => h) (fun _ => rfl)
                      refine List.forall_mem_cons.2 ⟨?_, ?_⟩
                      · exact SlotStep.skip rfl rfl 5 true rfl rfl (by kernel_rfl) (fun _ _ h => h) (fun _ => rfl)
                      refine List.forall_mem_cons.2 ⟨?_, ?_⟩
                      · exact SlotStep.skip rfl rfl 5 true rfl rfl (by kernel_rfl) (fun _ _ h => h) (fun _ => rfl)
                      refine List.forall_mem_cons.2 ⟨?_, ?_⟩
                      · exact SlotStep.skip rfl rfl 5 true rfl rfl (by kernel_rfl) (fun _ _ h => h) (fun _ => rfl)
                      refine List.forall_mem_cons.2 ⟨?_, ?_⟩
                      · exact SlotStep.skip rfl rfl 5 true rfl rfl (by kernel_rfl) (fun _ _ h => h) (fun _ => rfl)
                      refine List.forall_mem_cons.2 ⟨?_, ?_⟩
                      · exact SlotStep.skip rfl rfl 5 true rfl rfl (by kernel_rfl) (fun _ _ h => h) (fun _ => rfl)
                      refine List.forall_mem_cons.2 ⟨?_, ?_⟩
                      · refine SlotStep.plain rfl rfl rfl ?_
                        intro tm ws hsame hS hg K hK
                        obtain ⟨v81, e81, rfl⟩ := hg 5 (by kernel_rfl) _ 81 rfl rfl
                        obtain ⟨v92, e92, rfl⟩ := hg 16 (by kernel_rfl) _ 92 rfl rfl
                        go_simp
                        exact hK _ _ (Below.refl _ _) hS rfl
                      exact fun _ h => nomatch h
                    case fin2 =>
                      intro tm w5 hsame hS hgot
                      obtain ⟨u', hu, htm⟩ := hsame.form (by kernel_rfl)
                      obtain ⟨vS, eS, rfl⟩ := hgot 17 _ 93 rfl rfl
                      have hS1 := hu _ _ eS
                      have hb5 := hS.2
                      clear hgot hu hsame eS hS
                      rw [htm]
                      clear htm tm
                      simp only [List.foldl_cons, List.foldl_nil, List.setIfInBounds_toArray, List.set_cons_zero, List.set_cons_succ, hS1]
                      clear hS1
                      go_wp2_with fail
                      go_roundw
                      case rel => exact ⟨q + 1, by omega, by go_num, hbr.trans (hb5.mono hbr.size)⟩
                      case measure => simp [intOf]; omega
                  · have e4 : decide (p < m) = true := by simp; omega
                    have e5 : (m : Int) - 1 = (p : Int) := by omega
                    have e6 : IntKind.i64.wrap (p : Int) = (p : Int) := by rw [IntKind.wrap_i64]; omega
                    obtain ⟨hLx, hnf⟩ : L' = L ++ [x] ∧ nfind L x = none := by
                      rcases HC.out with h | ⟨h, h'⟩
                      · exfalso; have a1 := HM.out; have a2 := HL.out; rw [h] at a1; omega
                      · exact ⟨h, h' rfl⟩
                    have hx1 : L'[p]? = some x := by
                      rw [hLx, ← HL.out]; simp
                    have hyx : y ≠ x := nfind_ne hnf (k := q) (by rw [hLx, List.getElem?_append_left (by have := HL.out; omega)] at hy1; exact hy1)
                    have HSE := Lib.hid (same_nd y x)
                    rw [decide_eq_false hyx] at HSE
                    have hqm' : q < m := by omega
                    have hpm : p < m := by omega
                    clear hyx hnf hLx hmp
                    go_upto_region 22 with fail
                    refine wp_region_slots (by kernel_rfl) [76, 77, 78, 79, 80, 81, 82, 83, 84, 85, 86, 87, 88, 89, 90, 91, 92, 93] (fun w' => (RdN w' (some ⟨b1, o1, none⟩) L') ∧ (Below wr.heap.size wr w')) (Said [Is (.slice (some ⟨b1, o1, none⟩) m ca), Is (.int .i64 (m : Int)), Is (.slice wa p cw), Is (.int .i64 (p : Int)), Is (.bool true), Is (.bool true), Is (.slice (some ⟨b1, o1, none⟩) m ca), Is (.int .i64 (q : Int)), Is (.pointer (some ⟨b1, o1 + q * 4, none⟩)), Is (.agg #[.int .i64 y.1, .float .f64 y.2.1, .int .i64 y.2.2.1, .int .i64 y.2.2.2]), Is (.slice (some ⟨b1, o1, none⟩) m ca), Is (.slice (some ⟨b1, o1, none⟩) m ca), Is (.int .i64 (m : Int)), Is (.int .i64 (p : Int)), Is (.pointer (some ⟨b1, o1 + p * 4, none⟩)), Is (.agg #[.int .i64 x.1, .float .f64 x.2.1, .int .i64 x.2.2.1, .int .i64 x.2.2.2]), Is (.bool false), Is (.bool false)]) (by kernel_rfl) (by kernel_rfl) (by kernel_rfl) (by kernel_rfl) (Said.keep ?keep3) ⟨hra.below (bdn (Below.refl _ _) 1), bdn (Below.refl _ _) 1⟩ (l := [0, 1, 2, 3, 4, 5, 6, 7, 8, 9, 10, 11, 12, 13, 14, 15, 16, 17]) (by kernel_rfl) ?step3 ?fin3
                    case keep3 =>
                      refine List.forall_mem_cons.2 ⟨Is.keeps _, ?_⟩
                      refine List.forall_mem_cons.2 ⟨Is.keeps _, ?_⟩
                      refine List.forall_mem_cons.2 ⟨Is.keeps _, ?_⟩
                      refine List.forall_mem_cons.2 ⟨Is.keeps _, ?_⟩
                      refine List.forall_mem_cons.2 ⟨Is.keeps _, ?_⟩
                      refine List.forall_mem_cons.2 ⟨Is.keeps _, ?_⟩
                      refine List.forall_mem_cons.2 ⟨Is.keeps _, ?_⟩
                      refine List.forall_mem_cons.2 ⟨Is.keeps _, ?_⟩
                      refine List.forall_mem_cons.2 ⟨Is.keeps _, ?_⟩
                      refine List.forall_mem_cons.2 ⟨Is.keeps _, ?_⟩
                      refine List.forall_mem_cons.2 ⟨Is.keeps _, ?_⟩
                      refine List.forall_mem_cons.2 ⟨Is.keeps _, ?_⟩
                      refine List.forall_mem_cons.2 ⟨Is.keeps _, ?_⟩
                      refine List.forall_mem_cons.2 ⟨Is.keeps _, ?_⟩
                      refine List.forall_mem_cons.2 ⟨Is.keeps _, ?_⟩
                      refine List.forall_mem_cons.2 ⟨Is.keeps _, ?_⟩
                      refine List.forall_mem_cons.2 ⟨Is.keeps _, ?_⟩
                      refine List.forall_mem_cons.2 ⟨Is.keeps _, ?_⟩
                      exact fun _ h => nomatch h
                    case step3 =>
                      refine List.forall_mem_cons.2 ⟨?_, ?_⟩
                      · refine SlotStep.plain rfl rfl rfl ?_
                        intro tm ws hsame hS hg K hK
                        have e8 : tm[8]? = some (.slice (some ⟨b1, o1, none⟩) m ca) := hsame.2 8 rfl
                        go_simp
                        exact hK _ _ (Below.refl _ _) hS rfl
                      refine List.forall_mem_cons.2 ⟨?_, ?_⟩
                      · refine SlotStep.plain rfl rfl rfl ?_
                        intro tm ws hsame hS hg K hK
                        obtain ⟨v76, e76, rfl⟩ := hg 0 (by kernel_rfl) _ 76 rfl rfl
                        go_simp
                        exact hK _ _ (Below.refl _ _) hS rfl
                      refine List.forall_mem_cons.2 ⟨?_, ?_⟩
                      · refine SlotStep.plain rfl rfl rfl ?_
                        intro tm ws hsame hS hg K hK
                        have e6 : tm[6]? = some (.slice wa p cw) := hsame.2 6 rfl
                        go_simp
                        exact hK _ _ (Below.refl _ _) hS rfl
                      refine List.forall_mem_cons.2 ⟨?_, ?_⟩
                      · refine SlotStep.plain rfl rfl rfl ?_
                        intro tm ws hsame hS hg K hK
                        obtain ⟨v78, e78, rfl⟩ := hg 2 (by kernel_rfl) _ 78 rfl rfl
                        go_simp
                        exact hK _ _ (Below.refl _ _) hS rfl
                      refine List.forall_mem_cons.2 ⟨?_, ?_⟩
                      · refine SlotStep.plain rfl rfl rfl ?_
                        intro tm ws hsame hS hg K hK
                        obtain ⟨v77, e77, rfl⟩ := hg 1 (by kernel_rfl) _ 77 rfl rfl
                        obtain ⟨v79, e79, rfl⟩ := hg 3 (by kernel_rfl) _ 79 rfl rfl
                        go_simp
                        exact hK _ _ (Below.refl _ _) hS rfl
                      refine List.forall_mem_cons.2 ⟨?_, ?_⟩
                      · refine SlotStep.plain rfl rfl rfl ?_
                        intro tm ws hsame hS hg K hK
                        obtain ⟨v80, e80, rfl⟩ := hg 4 (by kernel_rfl) _ 80 rfl rfl
                        go_simp
                        exact hK _ _ (Below.refl _ _) hS rfl
                      refine List.forall_mem_cons.2 ⟨?_, ?_⟩
                      · refine SlotStep.guarded rfl rfl 5 rfl rfl (by kernel_rfl) (fun _ _ h => h) ?_
                        intro tm ws hsame hS hg K hK
                        have e8 : tm[8]? = some (.slice (some ⟨b1, o1, none⟩) m ca) := hsame.2 8 rfl
                        go_simp
                        exact hK _ _ (Below.refl _ _) hS rfl
                      refine List.forall_mem_cons.2 ⟨?_, ?_⟩
                      · refine SlotStep.guarded rfl rfl 5 rfl rfl (by kernel_rfl) (fun _ _ h => h) ?_
                        intro tm ws hsame hS hg K hK
                        have e10 : tm[10]? = some (.int .i64 (q : Int)) := hsame.2 10 rfl
                        go_simp
                        exact hK _ _ (Below.refl _ _) hS rfl
                      refine List.forall_mem_cons.2 ⟨?_, ?_⟩
                      · refine SlotStep.guarded rfl rfl 5 rfl rfl (by kernel_rfl) (fun _ _ h => h) ?_
                        intro tm ws hsame hS hg K hK
                        obtain ⟨v82, e82, rfl⟩ := hg 6 (by kernel_rfl) _ 82 rfl rfl
                        obtain ⟨v83, e83, rfl⟩ := hg 7 (by kernel_rfl) _ 83 rfl rfl
                        go_simp
                        exact hK _ _ (Below.refl _ _) hS rfl
                      refine List.forall_mem_cons.2 ⟨?_, ?_⟩
                      · refine SlotStep.guarded rfl rfl 5 rfl rfl (by kernel_rfl) (fun _ _ h => h) ?_
                        intro tm ws hsame hS hg K hK
                        obtain ⟨v84, e84, rfl⟩ := hg 8 (by kernel_rfl) _ 84 rfl rfl
                        obtain ⟨k0, k1, k2, k3⟩ := (hS.1).at hy1
                        go_simp
                        exact hK _ _ (Below.refl _ _) hS rfl
                      refine List.forall_mem_cons.2 ⟨?_, ?_⟩
                      · refine SlotStep.guarded rfl rfl 5 rfl rfl (by kernel_rfl) (fun _ _ h => h) ?_
                        intro tm ws hsame hS hg K hK
                        have e8 : tm[8]? = some (.slice (some ⟨b1, o1, none⟩) m ca) := hsame.2 8 rfl
                        go_simp
                        exact hK _ _ (Below.refl _ _) hS rfl
                      refine List.forall_mem_cons.2 ⟨?_, ?_⟩
                      · refine SlotStep.guarded rfl rfl 5 rfl rfl (by kernel_rfl) (fun _ _ h => h) ?_
                        intro tm ws hsame hS hg K hK
                        have e8 : tm[8]? = some (.slice (some ⟨b1, o1, none⟩) m ca) := hsame.2 8 rfl
                        go_simp
                        exact hK _ _ (Below.refl _ _) hS rfl
                      refine List.forall_mem_cons.2 ⟨?_, ?_⟩
                      · refine SlotStep.guarded rfl rfl 5 rfl rfl (by kernel_rfl) (fun _ _ h => h) ?_
                        intro tm ws hsame hS hg K hK
                        obtain ⟨v87, e87, rfl⟩ := hg 11 (by kernel_rfl) _ 87 rfl rfl
                        go_simp
                        exact hK _ _ (Below.refl _ _) hS rfl
                      refine List.forall_mem_cons.2 ⟨?_, ?_⟩
                      · refine SlotStep.guarded rfl rfl 5 rfl rfl (by kernel_rfl) (fun _ _ h => h) ?_
                        intro tm ws hsame hS hg K hK
                        obtain ⟨v88, e88, rfl⟩ := hg 12 (by kernel_rfl) _ 88 rfl rfl
                        go_simp
                        exact hK _ _ (Below.refl _ _) hS rfl
                      refine List.forall_mem_cons.2 ⟨?_, ?_⟩
                      · refine SlotStep.guarded rfl rfl 5 rfl rfl (by kernel_rfl) (fun _ _ h => h) ?_
                        intro tm ws hsame hS hg K hK
                        obtain ⟨v86, e86, rfl⟩ := hg 10 (by kernel_rfl) _ 86 rfl rfl
                        obtain ⟨v89, e89, rfl⟩ := hg 13 (by kernel_rfl) _ 89 rfl rfl
                        go_simp
                        exact hK _ _ (Below.refl _ _) hS rfl
                      refine List.forall_mem_cons.2 ⟨?_, ?_⟩
                      · refine SlotStep.guarded rfl rfl 5 rfl rfl (by kernel_rfl) (fun _ _ h => h) ?_
                        intro tm ws hsame hS hg K hK
                        obtain ⟨v90, e90, rfl⟩ := hg 14 (by kernel_rfl) _ 90 rfl rfl
                        obtain ⟨k0, k1, k2, k3⟩ := (hS.1).at hx1
                        go_simp
                        exact hK _ _ (Below.refl _ _) hS rfl
                      refine List.forall_mem_cons.2 ⟨?_, ?_⟩
                      · refine SlotStep.guarded rfl rfl 5 rfl rfl (by kernel_rfl) (fun _ _ h => h) ?_
                        intro tm ws hsame hS hg K hK
                        obtain ⟨v85, e85, rfl⟩ := hg 9 (by kernel_rfl) _ 85 rfl rfl
                        obtain ⟨v91, e91, rfl⟩ := hg 15 (by kernel_rfl) _ 91 rfl rfl
                        go_simp
                        refine (HSE.out ws).mono ?_
                        rintro e wm ⟨rfl, hb⟩
                        exact hK _ _ hb (⟨(hS.1).below (hb), (hS.2).trans (Below.mono (hb) (hS.2).size)⟩) rfl
                      refine List.forall_mem_cons.2 ⟨?_, ?_⟩
                      · refine SlotStep.plain rfl rfl rfl ?_
                        intro tm ws hsame hS hg K hK
                        obtain ⟨v81, e81, rfl⟩ := hg 5 (by kernel_rfl) _ 81 rfl rfl
                        obtain ⟨v92, e92, rfl⟩ := hg 16 (by kernel_rfl) _ 92 rfl rfl
                        go_simp
                        exact hK _ _ (Below.refl _ _) hS rfl
                      exact fun _ h => nomatch h
                    case fin3 =>
                      intro tm w5 hsame hS hgot
                      obtain ⟨u', hu, htm⟩ := hsame.form (by kernel_rfl)
                      obtain ⟨vS, eS, rfl⟩ := hgot 17 _ 93 rfl rfl
                      have hS1 := hu _ _ eS
                      have hb5 := hS.2
                      clear hgot hu hsame eS hS
                      rw [htm]
                      clear htm tm
                      simp only [List.foldl_cons, List.foldl_nil, List.setIfInBounds_toArray, List.set_cons_zero, List.set_cons_succ, hS1]
                      clear hS1
                      go_wp2_with fail
                      go_roundw
                      case rel => exact ⟨q + 1, by omega, by go_num, hbr.trans (hb5.mono hbr.size)⟩
                      case measure => simp [intOf]; omega
              · have e3 : decide ((q : Int) + 1 < (m : Int)) = false := by simp; omega
                go_wp2_with fail
                go_roundw
                case rel => exact (NEXT _ hbr).out
                case measure => simp [intOf]; omega
      · have hkn : k = n := by omega
        go_wp2_with fail
        refine hst.len.mono ?_
        rintro e w3 ⟨rfl, hb3⟩
        have hlen := HL.out
        go_wp2_with fail
        go_ret
        exact ⟨rfl, hb0.trans (hb3.mono hb0.size)⟩
end Go.Proofs.Ytkkjkohmekbdbaa

namespace Go.Proofs.Ytkkjkohmekbdbaa
open Go.RowKit

/-- A Dag and the reference's book, in blocks from base on, that lie apart. -/
def SP (C : DagC) (base : Nat) (w : World) (d : Value) (g : Nat) (l m : List Nd) (s : Bool) : Prop := ∃ F v, C.D w d l s F ∧ PL base w g v m s ∧ ∀ k, F k → base ≤ k ∧ ¬ FP g v k
def RetP2 (C : DagC) (base : Nat) (w : World) (d : Value) (g : Nat) (l m : List Nd) (s : Bool) (x : Int) (e : Ending) (w' : World) : Prop := e = .returned (.int .i64 x) ∧ SP C base w' d g l m s ∧ Below base w w'
variable {C : DagC} {base : Nat} {w : World} {d : Value} {g : Nat} {l m : List Nd} {s : Bool}
theorem SP.below (h : SP C base w d g l m s) {w' : World} (hb : Below w.heap.size w w') : SP C base w' d g l m s := by
  obtain ⟨F, v, h1, h2, h3⟩ := h
  exact ⟨F, v, C.keep h1 (fun k hk => hb.block k (C.lt h1 k hk)), h2.below hb, h3⟩
theorem SP.form (h : SP C base w d g l m s) : ∃ q, d = .pointer (some ⟨q, 0, none⟩) := by
  obtain ⟨F, v, h1, h2, h3⟩ := h
  exact C.form h1
theorem SP.dag (h : SP C base w d g l m s) (hb : base ≤ w.heap.size) {f : FuncId} {args : Array Value} {r : Option Nat × List Nd}
    (hc : ∀ F, C.D w d l s F → (∀ k, F k → base ≤ k) → Calls Try.prog f args w fun e w' => RetD C.D w d r.2 s F (.int .i64 (idI r.1)) e w') :
    Calls Try.prog f args w fun e w' => RetP2 C base w d g r.2 m s (idI r.1) e w' := by
  obtain ⟨F, v, h1, h2, h3⟩ := h
  refine (hc F h1 (fun k hk => (h3 k hk).1)).mono ?_
  rintro e w' ⟨rfl, F', a1, a2, a3⟩
  refine ⟨rfl, ⟨F', v, a1, h2.fr a3 (fun k hk hf => (h3 k hf).2 hk), fun k hk => ?_⟩, a3.below (fun k hk => (h3 k hk).1) hb⟩
  rcases a2 k hk with h | h
  · exact h3 k h
  · exact ⟨by omega, fun hf => by have := (h2.lt k hf).2; omega⟩
theorem SP.put (h : SP C base w d g l m s) (hb : base ≤ w.heap.size) (hm : m.length ≤ 100000) (n : Nd) (hn : n.2.1 < 18446744073709551616) :
    Calls Try.prog 9 #[.pointer (some ⟨g, 0, none⟩), nval n] w fun e w' => RetP2 C base w d g l (nput s m n).2 s (idI (nput s m n).1) e w' := by
  obtain ⟨F, v, h1, h2, h3⟩ := h
  refine (plain_put n h2 hm hn hb).mono ?_
  rintro e w' ⟨rfl, v', a1, a2, a3⟩
  refine ⟨rfl, ⟨F, v', C.keep h1 (fun k hk => a3.block k (C.lt h1 k hk) (h3 k hk).2), a1, fun k hk => ⟨(h3 k hk).1, fun hf => ?_⟩⟩, a3.below (fun k hk => (h2.lt k hk).1) hb⟩
  rcases a2 k hf with h | h
  · exact (h3 k hk).2 h
  · have := C.lt h1 k hk
    omega
/-- The book's row, as it reads. -/
theorem SP.row (h : SP C base w d g l m s) : ∃ a c, w.cell? ⟨g, 0, none⟩ = some (.slice a m.length c) ∧ RdN w a m := by
  obtain ⟨F, v, h1, h2, h3⟩ := h
  obtain ⟨a, c, rfl, -, -, hr, -⟩ := h2.2.1.form
  exact ⟨a, c, (slot2 h2.1).1, hr⟩
theorem SP.all (h : SP C base w d g l m s) : Calls Try.prog 14 #[d] w fun e w' => ∃ a c, e = .returned (.slice a l.length c) ∧ RdN w' a l ∧ SP C base w' d g l m s ∧ Below w.heap.size w w' := by
  have h0 := h
  obtain ⟨F, v, h1, h2, h3⟩ := h
  refine (C.all h1).mono ?_
  rintro e w' ⟨u, rfl, ho, hb⟩
  obtain ⟨a, c, rfl, -, -, hr, -⟩ := ho.form
  exact ⟨a, c, rfl, hr, h0.below hb, hb⟩
def nstart (m : List Nd) (i : Int) : Option Nat := if 0 ≤ i ∧ i < (m.length : Int) then some i.toNat else none
def nchain0 (s : Bool) (kind : Int) (m : List Nd) : List Int → Option Nat × List Nd
  | [] => (none, m)
  | i :: ids => nchain s kind ids (nstart m i, m)
theorem nmany_eq (s : Bool) (kind : Int) (z : Nat) (m : List Nd) (ids : List Int) (h : ids ≠ []) : nmany s kind z m ids = nchain0 s kind m ids := by
  cases ids with
  | nil => exact absurd rfl h
  | cons i ids => rfl
theorem nchain_append (s : Bool) (kind : Int) (a b : List Int) (r : Option Nat × List Nd) : nchain s kind (a ++ b) r = nchain s kind b (nchain s kind a r) := by
  induction a generalizing r with
  | nil => rfl
  | cons x a ih => exact ih _
theorem nput_le (s : Bool) (l : List Nd) (n : Nd) : (nput s l n).2.length ≤ l.length + 1 := by
  rcases nput_cases s l n with h | ⟨h, -⟩ <;> rw [h]
  · omega
  · simp
theorem idI_start (m : List Nd) (i : Int) : idI (nstart m i) = if 0 ≤ i ∧ i < (m.length : Int) then i else -1 := by
  unfold nstart
  by_cases h : 0 ≤ i ∧ i < (m.length : Int)
  · rw [if_pos h, if_pos h]; show ((i.toNat : Nat) : Int) = i; omega
  · rw [if_neg h, if_neg h]; rfl
set_option maxRecDepth 100000 in
set_option maxHeartbeats 4000000 in
theorem SP.chain (h : SP C base w d g l m s) (hb : base ≤ w.heap.size) (hm : m.length ≤ 1000) (kind : Int) {ao : Option Addr} {n c : Nat} {ids : List Int} (hn : n = ids.length) (hne : ids ≠ []) (h20 : n ≤ 100) (hr : RdJ w ao ids) (hrb : ∀ b off, ao = some ⟨b, off, none⟩ → ids ≠ [] → b < base) :
    Calls Try.prog 15 #[.pointer (some ⟨g, 0, none⟩), .int .i64 kind, .slice ao n c] w fun e w' => RetP2 C base w d g l (nchain0 s kind m ids).2 s (idI (nchain0 s kind m ids).1) e w' := by
  have HN := Lib.hid hn
  have HRB := Lib.hid hrb
  have HR := Lib.hid hr
  obtain ⟨i0, rest, rfl⟩ : ∃ i rest, ids = i :: rest := by
    cases ids with
    | nil => exact absurd rfl hne
    | cons i rest => exact ⟨i, rest, rfl⟩
  obtain ⟨b0, o0, rfl, -⟩ := hr.some (by simp)
  have c0 : w.cell? ⟨b0, o0, none⟩ = some (.int .i64 i0) := hr.at (j := 0) rfl
  obtain ⟨ra, rc, hrow, -⟩ := h.row
  obtain ⟨p, hp⟩ : ∃ p, m.length = p := ⟨_, rfl⟩
  rw [hp] at hrow hm
  have HP := Lib.hid hp
  have hn1 : 1 ≤ n := by have := HN.out; simp at this; omega
  have hid := idI_start m i0
  rw [hp] at hid
  have HID := Lib.hid hid
  clear hn hne hr hrb hp hid
  -- what stands in front of the loop
  have START : ∀ (x : Int), x = (if 0 ≤ i0 ∧ i0 < (p : Int) then i0 else -1) → Hid (x = idI (nstart m i0)) := fun x hx => Lib.hid (hx.trans HID.out.symm)
  by_cases hi : i0 < 0
  · have d0 : decide (i0 < 0) = true := by simp; omega
    have HST := START (-1) (by split <;> omega)
    clear START
    go_enter Try.func15, Try.ntmps15
    go_wp2_with fail
    go_loopw [7, 8] (fun v i wr => ∃ (k : Nat) (r : Option Nat × List Nd), 1 ≤ k ∧ k ≤ n ∧ i = .int .i64 k ∧ v = .int .i64 (idI r.1) ∧ r = nchain s kind (rest.take (k - 1)) (nstart m i0, m) ∧ SP C base wr d g l r.2 s ∧ Below base w wr ∧ r.2.length ≤ 1000 + k) (fun _ i _ => n - (intOf i).toNat)
    case atStart => exact ⟨1, (nstart m i0, m), Nat.le_refl _, hn1, rfl, congrArg (Value.int .i64) HST.out, rfl, h, Below.refl _ _, by have := HP.out; simp only []; omega⟩
    case round =>
      obtain ⟨k, r, hk1, hk, rfl, rfl, hch, hsp, hbr, hlen⟩ := hrel
      by_cases hlt : k < n
      · obtain ⟨x, hx⟩ : ∃ x, rest[k - 1]? = some x := ⟨rest[k - 1]'(by have := HN.out; simp at this; omega), by rw [List.getElem?_eq_getElem]⟩
        have hxk : (i0 :: rest)[k]? = some x := by
          obtain ⟨j, rfl⟩ : ∃ j, k = j + 1 := ⟨k - 1, by omega⟩
          simpa using hx
        have ck : wr.cell? ⟨b0, o0 + k, none⟩ = some (.int .i64 x) := (HR.out.below hbr HRB.out).at hxk
        have hcx : nchain s kind (rest.take k) (nstart m i0, m) = nput s r.2 (kind, 0, idI r.1, x) := by
          obtain ⟨j, rfl⟩ : ∃ j, k = j + 1 := ⟨k - 1, by omega⟩
          rw [List.take_add_one, show rest[j]? = some x from hx, nchain_append, show rest.take j = rest.take (j + 1 - 1) from rfl, ← hch]
          rfl
        have hl2 := nput_le s r.2 (kind, 0, idI r.1, x)
        have HC := Lib.hid hcx
        have hbs := Nat.le_trans hb hbr.size
        clear hcx hx hxk hch
        go_wp2_with fail
        refine (hsp.put hbs (by omega) (kind, 0, idI r.1, x) (by simp)).mono ?_
        rintro e w2 ⟨rfl, hsp2, hb2⟩
        go_wp2_with fail
        go_roundw
        case rel => exact ⟨k + 1, nput s r.2 (kind, 0, idI r.1, x), by omega, by omega, by go_num, rfl, HC.out.symm, hsp2, hbr.trans hb2, by omega⟩
        case measure => simp [intOf]; omega
      · have hkn : k - 1 = rest.length := by have := HN.out; simp at this; omega
        have he : r = nchain0 s kind m (i0 :: rest) := by rw [hch, hkn, List.take_length]; rfl
        have HE := Lib.hid he
        clear he hch hkn
        go_wp2_with fail
        go_ret
        rw [← HE.out]
        exact ⟨rfl, hsp, hbr⟩
  · have d0 : decide (i0 < 0) = false := by simp; omega
    by_cases hi2 : (p : Int) ≤ i0
    · have d1 : decide ((p : Int) ≤ i0) = true := by simp; omega
      have HST := START (-1) (by split <;> omega)
      clear START
      go_enter Try.func15, Try.ntmps15
      go_wp2_with fail
      go_loopw [7, 8] (fun v i wr => ∃ (k : Nat) (r : Option Nat × List Nd), 1 ≤ k ∧ k ≤ n ∧ i = .int .i64 k ∧ v = .int .i64 (idI r.1) ∧ r = nchain s kind (rest.take (k - 1)) (nstart m i0, m) ∧ SP C base wr d g l r.2 s ∧ Below base w wr ∧ r.2.length ≤ 1000 + k) (fun _ i _ => n - (intOf i).toNat)
      case atStart => exact ⟨1, (nstart m i0, m), Nat.le_refl _, hn1, rfl, congrArg (Value.int .i64) HST.out, rfl, h, Below.refl _ _, by have := HP.out; simp only []; omega⟩
      case round =>
        obtain ⟨k, r, hk1, hk, rfl, rfl, hch, hsp, hbr, hlen⟩ := hrel
        by_cases hlt : k < n
        · obtain ⟨x, hx⟩ : ∃ x, rest[k - 1]? = some x := ⟨rest[k - 1]'(by have := HN.out; simp at this; omega), by rw [List.getElem?_eq_getElem]⟩
          have hxk : (i0 :: rest)[k]? = some x := by
            obtain ⟨j, rfl⟩ : ∃ j, k = j + 1 := ⟨k - 1, by omega⟩
            simpa using hx
          have ck : wr.cell? ⟨b0, o0 + k, none⟩ = some (.int .i64 x) := (HR.out.below hbr HRB.out).at hxk
          have hcx : nchain s kind (rest.take k) (nstart m i0, m) = nput s r.2 (kind, 0, idI r.1, x) := by
            obtain ⟨j, rfl⟩ : ∃ j, k = j + 1 := ⟨k - 1, by omega⟩
            rw [List.take_add_one, show rest[j]? = some x from hx, nchain_append, show rest.take j = rest.take (j + 1 - 1) from rfl, ← hch]
            rfl
          have hl2 := nput_le s r.2 (kind, 0, idI r.1, x)
          have HC := Lib.hid hcx
          have hbs := Nat.le_trans hb hbr.size
          clear hcx hx hxk hch
          go_wp2_with fail
          refine (hsp.put hbs (by omega) (kind, 0, idI r.1, x) (by simp)).mono ?_
          rintro e w2 ⟨rfl, hsp2, hb2⟩
          go_wp2_with fail
          go_roundw
          case rel => exact ⟨k + 1, nput s r.2 (kind, 0, idI r.1, x), by omega, by omega, by go_num, rfl, HC.out.symm, hsp2, hbr.trans hb2, by omega⟩
          case measure => simp [intOf]; omega
        · have hkn : k - 1 = rest.length := by have := HN.out; simp at this; omega
          have he : r = nchain0 s kind m (i0 :: rest) := by rw [hch, hkn, List.take_length]; rfl
          have HE := Lib.hid he
          clear he hch hkn
          go_wp2_with fail
          go_ret
          rw [← HE.out]
          exact ⟨rfl, hsp, hbr⟩
    · have d1 : decide ((p : Int) ≤ i0) = false := by simp; omega
      have HST := START (i0) (by split <;> omega)
      clear START
      go_enter Try.func15, Try.ntmps15
      go_wp2_with fail
      go_loopw [7, 8] (fun v i wr => ∃ (k : Nat) (r : Option Nat × List Nd), 1 ≤ k ∧ k ≤ n ∧ i = .int .i64 k ∧ v = .int .i64 (idI r.1) ∧ r = nchain s kind (rest.take (k - 1)) (nstart m i0, m) ∧ SP C base wr d g l r.2 s ∧ Below base w wr ∧ r.2.length ≤ 1000 + k) (fun _ i _ => n - (intOf i).toNat)
      case atStart => exact ⟨1, (nstart m i0, m), Nat.le_refl _, hn1, rfl, congrArg (Value.int .i64) HST.out, rfl, h, Below.refl _ _, by have := HP.out; simp only []; omega⟩
      case round =>
        obtain ⟨k, r, hk1, hk, rfl, rfl, hch, hsp, hbr, hlen⟩ := hrel
        by_cases hlt : k < n
        · obtain ⟨x, hx⟩ : ∃ x, rest[k - 1]? = some x := ⟨rest[k - 1]'(by have := HN.out; simp at this; omega), by rw [List.getElem?_eq_getElem]⟩
          have hxk : (i0 :: rest)[k]? = some x := by
            obtain ⟨j, rfl⟩ : ∃ j, k = j + 1 := ⟨k - 1, by omega⟩
            simpa using hx
          have ck : wr.cell? ⟨b0, o0 + k, none⟩ = some (.int .i64 x) := (HR.out.below hbr HRB.out).at hxk
          have hcx : nchain s kind (rest.take k) (nstart m i0, m) = nput s r.2 (kind, 0, idI r.1, x) := by
            obtain ⟨j, rfl⟩ : ∃ j, k = j + 1 := ⟨k - 1, by omega⟩
            rw [List.take_add_one, show rest[j]? = some x from hx, nchain_append, show rest.take j = rest.take (j + 1 - 1) from rfl, ← hch]
            rfl
          have hl2 := nput_le s r.2 (kind, 0, idI r.1, x)
          have HC := Lib.hid hcx
          have hbs := Nat.le_trans hb hbr.size
          clear hcx hx hxk hch
          go_wp2_with fail
          refine (hsp.put hbs (by omega) (kind, 0, idI r.1, x) (by simp)).mono ?_
          rintro e w2 ⟨rfl, hsp2, hb2⟩
          go_wp2_with fail
          go_roundw
          case rel => exact ⟨k + 1, nput s r.2 (kind, 0, idI r.1, x), by omega, by omega, by go_num, rfl, HC.out.symm, hsp2, hbr.trans hb2, by omega⟩
          case measure => simp [intOf]; omega
        · have hkn : k - 1 = rest.length := by have := HN.out; simp at this; omega
          have he : r = nchain0 s kind m (i0 :: rest) := by rw [hch, hkn, List.take_length]; rfl
          have HE := Lib.hid he
          clear he hch hkn
          go_wp2_with fail
          go_ret
          rw [← HE.out]
          exact ⟨rfl, hsp, hbr⟩
theorem nchain_le (s : Bool) (kind : Int) (ids : List Int) (r : Option Nat × List Nd) : (nchain s kind ids r).2.length ≤ r.2.length + ids.length := by
  induction ids generalizing r with
  | nil => exact Nat.le_refl _
  | cons b ids ih =>
    have h1 := ih (nput s r.2 (kind, 0, idI r.1, b))
    have h2 := nput_le s r.2 (kind, 0, idI r.1, b)
    show (nchain s kind ids (nput s r.2 (kind, 0, idI r.1, b))).2.length ≤ _
    simp only [List.length_cons]
    omega
theorem nchain0_le (s : Bool) (kind : Int) (m : List Nd) (ids : List Int) : (nchain0 s kind m ids).2.length ≤ m.length + ids.length := by
  cases ids with
  | nil => exact Nat.le_refl _
  | cons i ids =>
    have := nchain_le s kind ids (nstart m i, m)
    simp only [List.length_cons]
    exact Nat.le_trans this (by simp only []; omega)
theorem floatOfInt_lt (v : Int) : floatOfInt .f64 v < 18446744073709551616 := by
  have h := floatOfInt_wf .f64 v
  simpa [Lit.wf] using h
/-- A slice of float64 reads so. -/
def RdF (w : World) (ao : Option Addr) (l : List Nat) : Prop := l = [] ∨ ∃ b off, ao = some ⟨b, off, none⟩ ∧ ∀ (j : Nat) x, l[j]? = some x → w.cell? ⟨b, off + j, none⟩ = some (.float .f64 x)
theorem RdF.at {w : World} {b off : Nat} {l : List Nat} (h : RdF w (some ⟨b, off, none⟩) l) {j : Nat} {x : Nat} (hj : l[j]? = some x) : w.cell? ⟨b, off + j, none⟩ = some (.float .f64 x) := by
  rcases h with rfl | ⟨b', off', e, h⟩
  · simp at hj
  · simp only [Option.some.injEq, Addr.mk.injEq, and_true] at e
    obtain ⟨rfl, rfl⟩ := e
    exact h j x hj
theorem RdF.some {w : World} {ao : Option Addr} {l : List Nat} (h : RdF w ao l) (hl : l ≠ []) : ∃ b off, ao = Option.some ⟨b, off, none⟩ := by
  rcases h with e | ⟨b, off, e, h⟩
  · exact absurd e hl
  · exact ⟨b, off, e⟩
theorem RdF.below {w w' : World} {ao : Option Addr} {l : List Nat} {B : Nat} (h : RdF w ao l) (hb : Below B w w') (hB : ∀ b off, ao = Option.some ⟨b, off, none⟩ → l ≠ [] → b < B) : RdF w' ao l := by
  rcases h with e | ⟨b, off, e, h⟩
  · exact Or.inl e
  · by_cases hl : l = []
    · exact Or.inl hl
    · exact Or.inr ⟨b, off, e, fun j n hj => by rw [cell_same (w := w) (a := ⟨b, off + j, none⟩) (hb.block b (hB b off e hl))]; exact h j n hj⟩
end Go.Proofs.Ytkkjkohmekbdbaa

namespace Go.Proofs.Ytkkjkohmekbdbaa
open Go.RowKit

/-- A slot's plain value. -/
def Is0 (x v : Value) : Prop := v = x
def IsRowV (n : Nat) (v : Value) : Prop := ∃ a c, v = .slice a n c
/-- SP with the book's row named. -/
def SPV (C : DagC) (base : Nat) (w : World) (d : Value) (g : Nat) (l m : List Nd) (p : Nat) (ra : Option Addr) (rc : Nat) : Prop := ∃ F, C.D w d l false F ∧ PL base w g (.slice ra p rc) m false ∧ ∀ k, F k → base ≤ k ∧ ¬ FP g (.slice ra p rc) k
theorem SP.named {C : DagC} {base : Nat} {w : World} {d : Value} {g : Nat} {l m : List Nd} (h : SP C base w d g l m false) : ∃ ra rc, SPV C base w d g l m m.length ra rc := by
  obtain ⟨F, v, h1, h2, h3⟩ := h
  obtain ⟨a, c, rfl, -, -, hr, -⟩ := h2.2.1.form
  exact ⟨a, c, F, h1, h2, h3⟩
section
variable {C : DagC} {base : Nat} {w w' : World} {d : Value} {g : Nat} {l m : List Nd} {p : Nat} {ra : Option Addr} {rc : Nat}
theorem SPV.below (h : SPV C base w d g l m p ra rc) (hb : Below w.heap.size w w') : SPV C base w' d g l m p ra rc := by
  obtain ⟨F, h1, h2, h3⟩ := h
  exact ⟨F, C.keep h1 (fun k hk => hb.block k (C.lt h1 k hk)), h2.below hb, h3⟩
theorem SPV.row (h : SPV C base w d g l m p ra rc) : w.cell? ⟨g, 0, none⟩ = some (.slice ra p rc) ∧ RdN w ra m := by
  obtain ⟨F, h1, h2, h3⟩ := h
  obtain ⟨a, c, e, -, -, hr, -⟩ := h2.2.1.form
  simp only [Value.slice.injEq] at e
  obtain ⟨rfl, -, rfl⟩ := e
  exact ⟨(slot2 h2.1).1, hr⟩
theorem SPV.dag (h : SPV C base w d g l m p ra rc) (hb : base ≤ w.heap.size) {f : FuncId} {args : Array Value} {r : Option Nat × List Nd}
    (hc : ∀ F, C.D w d l false F → (∀ k, F k → base ≤ k) → Calls Try.prog f args w fun e w' => RetD C.D w d r.2 false F (.int .i64 (idI r.1)) e w') :
    Calls Try.prog f args w fun e w' => e = .returned (.int .i64 (idI r.1)) ∧ SPV C base w' d g r.2 m p ra rc ∧ Below base w w' := by
  obtain ⟨F, h1, h2, h3⟩ := h
  refine (hc F h1 (fun k hk => (h3 k hk).1)).mono ?_
  rintro e w' ⟨rfl, F', a1, a2, a3⟩
  refine ⟨rfl, ⟨F', a1, h2.fr a3 (fun k hk hf => (h3 k hf).2 hk), fun k hk => ?_⟩, a3.below (fun k hk => (h3 k hk).1) hb⟩
  rcases a2 k hk with h | h
  · exact h3 k h
  · exact ⟨by omega, fun hf => by have := (h2.lt k hf).2; omega⟩
theorem SPV.all (h : SPV C base w d g l m p ra rc) : Calls Try.prog 14 #[d] w fun e w' => ∃ a c, e = .returned (.slice a l.length c) ∧ RdN w' a l ∧ SPV C base w' d g l m p ra rc ∧ Below w.heap.size w w' := by
  have h0 := h
  obtain ⟨F, h1, h2, h3⟩ := h
  refine (C.all h1).mono ?_
  rintro e w' ⟨u, rfl, ho, hb⟩
  obtain ⟨a, c, rfl, -, -, hr, -⟩ := ho.form
  exact ⟨a, c, rfl, hr, h0.below hb, hb⟩
end
/-- What has been done: pending, done. -/
abbrev Pe (a : Array Bool) (i : Nat) : Prop := a.getD i true = false
abbrev Do (a : Array Bool) (i : Nat) : Prop := a.getD i false = true
theorem do_pe {a : Array Bool} {i : Nat} (h : Do a i) (k : Pe a i) : False := by
  simp only [Do, Pe, Array.getD_eq_getD_getElem?] at h k
  cases e : a[i]? with
  | none => rw [e] at h; cases h
  | some x => rw [e] at h k; simp only [Option.getD_some] at h k; rw [h] at k; cases k
theorem Pe.set {a : Array Bool} {i j : Nat} (h : Pe a i) (hne : j ≠ i) : Pe (a.setIfInBounds j true) i := by show (a.setIfInBounds j true).getD i true = false; rw [getD_set_ne true hne]; exact h
theorem Do.set {a : Array Bool} {i j : Nat} (h : Do a i) (hne : j ≠ i) : Do (a.setIfInBounds j true) i := by show (a.setIfInBounds j true).getD i false = true; rw [getD_set_ne false hne]; exact h
theorem Do.now {a : Array Bool} {i n : Nat} (hsz : a.size = n) (hi : i < n) : Do (a.setIfInBounds i true) i := by
  show (a.setIfInBounds i true).getD i false = true
  rw [Array.getD_eq_getD_getElem?, Array.getElem?_setIfInBounds_self_of_lt (by omega)]
  rfl
/-- The last region of DagMakes: which calls have been made, and the Dag then. -/
def S26 (C : DagC) (base : Nat) (w0 : World) (dq g : Nat) (ra : Option Addr) (rc : Nat) (m0 m1 m2 m3 : List Nd) (p : Nat) (a : Array Bool) (tm : Array Value) (w : World) : Prop :=
  (Below base w0 w ∧ base ≤ w0.heap.size) ∧ ((Pe a 12 ∧ Pe a 19 ∧ Pe a 29 ∧ Pe a 35 ∧ SPV C base w (.pointer (some ⟨dq, 0, none⟩)) g m0 m3 p ra rc) ∨ (Do a 12 ∧ Pe a 19 ∧ Pe a 29 ∧ Pe a 35 ∧ SPV C base w (.pointer (some ⟨dq, 0, none⟩)) g m1 m3 p ra rc) ∨ (Do a 19 ∧ Pe a 29 ∧ Pe a 35 ∧ SPV C base w (.pointer (some ⟨dq, 0, none⟩)) g m2 m3 p ra rc ∧ Do a 12) ∨
    (Do a 29 ∧ Pe a 35 ∧ SPV C base w (.pointer (some ⟨dq, 0, none⟩)) g m3 m3 p ra rc ∧ Do a 12 ∧ Do a 19) ∨ (Do a 35 ∧ SPV C base w (.pointer (some ⟨dq, 0, none⟩)) g m3 m3 p ra rc ∧ Do a 12 ∧ Do a 19 ∧ Do a 29 ∧ ∃ ea ec, tm[161]? = some (.slice ea p ec) ∧ RdN w ea m3)) ∧ m3.length = p
section
variable {C : DagC} {base : Nat} {w0 w w' : World} {dq g : Nat} {ra : Option Addr} {rc : Nat} {m0 m1 m2 m3 : List Nd} {p : Nat} {a : Array Bool} {tm : Array Value}
theorem S26.stay (h : S26 C base w0 dq g ra rc m0 m1 m2 m3 p a tm w) {i d : Nat} {v : Value} (hi : i ≠ 12 ∧ i ≠ 19 ∧ i ≠ 29 ∧ i ≠ 35) (hd : d ≠ 161) (hb : Below w.heap.size w w') : S26 C base w0 dq g ra rc m0 m1 m2 m3 p (a.setIfInBounds i true) (tm.setIfInBounds d v) w' := by
  obtain ⟨⟨h1, h0⟩, h2, h3⟩ := h
  obtain ⟨i1, i2, i3, i4⟩ := hi
  refine ⟨⟨h1.trans (hb.mono (Nat.le_trans h0 h1.size)), h0⟩, ?_, h3⟩
  rcases h2 with ⟨a1, a2, a3, a4, hs⟩ | ⟨a1, a2, a3, a4, hs⟩ | ⟨a1, a2, a3, hs, a4⟩ | ⟨a1, a2, hs, a3, a4⟩ | ⟨a1, hs, a2, a3, a4, ea, ec, e1, e2⟩
  · exact Or.inl ⟨a1.set i1, a2.set i2, a3.set i3, a4.set i4, hs.below hb⟩
  · exact Or.inr (Or.inl ⟨a1.set i1, a2.set i2, a3.set i3, a4.set i4, hs.below hb⟩)
  · exact Or.inr (Or.inr (Or.inl ⟨a1.set i2, a2.set i3, a3.set i4, hs.below hb, a4.set i1⟩))
  · exact Or.inr (Or.inr (Or.inr (Or.inl ⟨a1.set i3, a2.set i4, hs.below hb, a3.set i1, a4.set i2⟩)))
  · exact Or.inr (Or.inr (Or.inr (Or.inr ⟨a1.set i4, hs.below hb, a2.set i1, a3.set i2, a4.set i3, ea, ec, by rw [Array.getElem?_setIfInBounds_ne hd]; exact e1, e2.below hb⟩)))
theorem S26.at0 (h : S26 C base w0 dq g ra rc m0 m1 m2 m3 p a tm w) (hu : Pe a 12) : SPV C base w (.pointer (some ⟨dq, 0, none⟩)) g m0 m3 p ra rc ∧ Below base w0 w := by
  obtain ⟨⟨h1, h0⟩, h2, h3⟩ := h
  rcases h2 with ⟨a1, a2, a3, a4, hs⟩ | ⟨a1, a2, a3, a4, hs⟩ | ⟨a1, a2, a3, hs, a4⟩ | ⟨a1, a2, hs, a3, a4⟩ | ⟨a1, hs, a2, a3, a4, ea, ec, e1, e2⟩
  · exact ⟨hs, h1⟩
  · exact (do_pe a1 hu).elim
  · exact (do_pe a4 hu).elim
  · exact (do_pe a3 hu).elim
  · exact (do_pe a2 hu).elim
theorem S26.at1 (h : S26 C base w0 dq g ra rc m0 m1 m2 m3 p a tm w) (hd : Do a 12) (hu : Pe a 19) : SPV C base w (.pointer (some ⟨dq, 0, none⟩)) g m1 m3 p ra rc ∧ Below base w0 w := by
  obtain ⟨⟨h1, h0⟩, h2, h3⟩ := h
  rcases h2 with ⟨a1, a2, a3, a4, hs⟩ | ⟨a1, a2, a3, a4, hs⟩ | ⟨a1, a2, a3, hs, a4⟩ | ⟨a1, a2, hs, a3, a4⟩ | ⟨a1, hs, a2, a3, a4, ea, ec, e1, e2⟩
  · exact (do_pe hd a1).elim
  · exact ⟨hs, h1⟩
  · exact (do_pe a1 hu).elim
  · exact (do_pe a4 hu).elim
  · exact (do_pe a3 hu).elim
theorem S26.at2 (h : S26 C base w0 dq g ra rc m0 m1 m2 m3 p a tm w) (hd : Do a 19) (hu : Pe a 29) : SPV C base w (.pointer (some ⟨dq, 0, none⟩)) g m2 m3 p ra rc ∧ Below base w0 w := by
  obtain ⟨⟨h1, h0⟩, h2, h3⟩ := h
  rcases h2 with ⟨a1, a2, a3, a4, hs⟩ | ⟨a1, a2, a3, a4, hs⟩ | ⟨a1, a2, a3, hs, a4⟩ | ⟨a1, a2, hs, a3, a4⟩ | ⟨a1, hs, a2, a3, a4, ea, ec, e1, e2⟩
  · exact (do_pe hd a2).elim
  · exact (do_pe hd a2).elim
  · exact ⟨hs, h1⟩
  · exact (do_pe a1 hu).elim
  · exact (do_pe a4 hu).elim
theorem S26.at3 (h : S26 C base w0 dq g ra rc m0 m1 m2 m3 p a tm w) (hd : Do a 29) (hu : Pe a 35) : SPV C base w (.pointer (some ⟨dq, 0, none⟩)) g m3 m3 p ra rc ∧ Below base w0 w := by
  obtain ⟨⟨h1, h0⟩, h2, h3⟩ := h
  rcases h2 with ⟨a1, a2, a3, a4, hs⟩ | ⟨a1, a2, a3, a4, hs⟩ | ⟨a1, a2, a3, hs, a4⟩ | ⟨a1, a2, hs, a3, a4⟩ | ⟨a1, hs, a2, a3, a4, ea, ec, e1, e2⟩
  · exact (do_pe hd a3).elim
  · exact (do_pe hd a3).elim
  · exact (do_pe hd a2).elim
  · exact ⟨hs, h1⟩
  · exact (do_pe a1 hu).elim
theorem S26.at4 (h : S26 C base w0 dq g ra rc m0 m1 m2 m3 p a tm w) (hd : Do a 35) : ∃ ea ec, tm[161]? = some (.slice ea p ec) ∧ RdN w ea m3 := by
  obtain ⟨⟨h1, h0⟩, h2, h3⟩ := h
  rcases h2 with ⟨a1, a2, a3, a4, hs⟩ | ⟨a1, a2, a3, a4, hs⟩ | ⟨a1, a2, a3, hs, a4⟩ | ⟨a1, a2, hs, a3, a4⟩ | ⟨a1, hs, a2, a3, a4, ea, ec, e1, e2⟩
  · exact (do_pe hd a4).elim
  · exact (do_pe hd a4).elim
  · exact (do_pe hd a3).elim
  · exact (do_pe hd a2).elim
  · exact ⟨ea, ec, e1, e2⟩
theorem S26.row (h : S26 C base w0 dq g ra rc m0 m1 m2 m3 p a tm w) : w.cell? ⟨g, 0, none⟩ = some (.slice ra p rc) ∧ RdN w ra m3 := by
  obtain ⟨⟨h1, h0⟩, h2, h3⟩ := h
  rcases h2 with ⟨a1, a2, a3, a4, hs⟩ | ⟨a1, a2, a3, a4, hs⟩ | ⟨a1, a2, a3, hs, a4⟩ | ⟨a1, a2, hs, a3, a4⟩ | ⟨a1, hs, a2, a3, a4, ea, ec, e1, e2⟩ <;> exact hs.row
theorem S26.to1 (hsz : a.size = 43) (h : S26 C base w0 dq g ra rc m0 m1 m2 m3 p a tm w) (hu : Pe a 12) {tm' : Array Value} (hs' : SPV C base w' (.pointer (some ⟨dq, 0, none⟩)) g m1 m3 p ra rc) (hb : Below base w0 w') : S26 C base w0 dq g ra rc m0 m1 m2 m3 p (a.setIfInBounds 12 true) tm' w' := by
  obtain ⟨⟨h1, h0⟩, h2, h3⟩ := h
  refine ⟨⟨hb, h0⟩, ?_, h3⟩
  rcases h2 with ⟨a1, a2, a3, a4, hs⟩ | ⟨a1, a2, a3, a4, hs⟩ | ⟨a1, a2, a3, hs, a4⟩ | ⟨a1, a2, hs, a3, a4⟩ | ⟨a1, hs, a2, a3, a4, ea, ec, e1, e2⟩
  · exact Or.inr (Or.inl ⟨Do.now hsz (by decide), a2.set (by decide), a3.set (by decide), a4.set (by decide), hs'⟩)
  · exact (do_pe a1 hu).elim
  · exact (do_pe a4 hu).elim
  · exact (do_pe a3 hu).elim
  · exact (do_pe a2 hu).elim
theorem S26.to2 (hsz : a.size = 43) (h : S26 C base w0 dq g ra rc m0 m1 m2 m3 p a tm w) (hd : Do a 12) (hu : Pe a 19) {tm' : Array Value} (hs' : SPV C base w' (.pointer (some ⟨dq, 0, none⟩)) g m2 m3 p ra rc) (hb : Below base w0 w') : S26 C base w0 dq g ra rc m0 m1 m2 m3 p (a.setIfInBounds 19 true) tm' w' := by
  obtain ⟨⟨h1, h0⟩, h2, h3⟩ := h
  refine ⟨⟨hb, h0⟩, ?_, h3⟩
  rcases h2 with ⟨a1, a2, a3, a4, hs⟩ | ⟨a1, a2, a3, a4, hs⟩ | ⟨a1, a2, a3, hs, a4⟩ | ⟨a1, a2, hs, a3, a4⟩ | ⟨a1, hs, a2, a3, a4, ea, ec, e1, e2⟩
  · exact (do_pe hd a1).elim
  · exact Or.inr (Or.inr (Or.inl ⟨Do.now hsz (by decide), a3.set (by decide), a4.set (by decide), hs', a1.set (by decide)⟩))
  · exact (do_pe a1 hu).elim
  · exact (do_pe a4 hu).elim
  · exact (do_pe a3 hu).elim
theorem S26.to3 (hsz : a.size = 43) (h : S26 C base w0 dq g ra rc m0 m1 m2 m3 p a tm w) (hd : Do a 19) (hu : Pe a 29) {tm' : Array Value} (hs' : SPV C base w' (.pointer (some ⟨dq, 0, none⟩)) g m3 m3 p ra rc) (hb : Below base w0 w') : S26 C base w0 dq g ra rc m0 m1 m2 m3 p (a.setIfInBounds 29 true) tm' w' := by
  obtain ⟨⟨h1, h0⟩, h2, h3⟩ := h
  refine ⟨⟨hb, h0⟩, ?_, h3⟩
  rcases h2 with ⟨a1, a2, a3, a4, hs⟩ | ⟨a1, a2, a3, a4, hs⟩ | ⟨a1, a2, a3, hs, a4⟩ | ⟨a1, a2, hs, a3, a4⟩ | ⟨a1, hs, a2, a3, a4, ea, ec, e1, e2⟩
  · exact (do_pe hd a2).elim
  · exact (do_pe hd a2).elim
  · exact Or.inr (Or.inr (Or.inr (Or.inl ⟨Do.now hsz (by decide), a3.set (by decide), hs', a4.set (by decide), a1.set (by decide)⟩)))
  · exact (do_pe a1 hu).elim
  · exact (do_pe a4 hu).elim
theorem S26.to4 (hsz : a.size = 43) (h : S26 C base w0 dq g ra rc m0 m1 m2 m3 p a tm w) (hd : Do a 29) (hu : Pe a 35) {ea : Option Addr} {ec : Nat} (hlt : 161 < tm.size) (hs' : SPV C base w' (.pointer (some ⟨dq, 0, none⟩)) g m3 m3 p ra rc) (hb : Below base w0 w') (hre : RdN w' ea m3) : S26 C base w0 dq g ra rc m0 m1 m2 m3 p (a.setIfInBounds 35 true) (tm.setIfInBounds 161 (.slice ea p ec)) w' := by
  obtain ⟨⟨h1, h0⟩, h2, h3⟩ := h
  refine ⟨⟨hb, h0⟩, ?_, h3⟩
  rcases h2 with ⟨a1, a2, a3, a4, hs⟩ | ⟨a1, a2, a3, a4, hs⟩ | ⟨a1, a2, a3, hs, a4⟩ | ⟨a1, a2, hs, a3, a4⟩ | ⟨a1, hs, a2, a3, a4, ea', ec', e1, e2⟩
  · exact (do_pe hd a3).elim
  · exact (do_pe hd a3).elim
  · exact (do_pe hd a2).elim
  · exact Or.inr (Or.inr (Or.inr (Or.inr ⟨Do.now hsz (by decide), hs', a3.set (by decide), a4.set (by decide), a1.set (by decide), ea, ec, by rw [Array.getElem?_setIfInBounds_self_of_lt hlt], hre⟩)))
  · exact (do_pe a1 hu).elim
end
end Go.Proofs.Ytkkjkohmekbdbaa
