/-
  DagP: What the statement DagPlays asks of package dag; a Dag, the reference's book of nodes and the book of lists apart.
  DagPL: Two Dags apart; compasslaw9.alive.
  DagPy: compasslaw9.DagPlays: every nodes, put one by one.
-/
import Derived.Test.YtkkjkohmekbdbaaDoorPk29
import Derived.Test.YtkkjkohmekbdbaaDoorPk10
import Derived.Test.YtkkjkohmekbdbaaDoorPk30

namespace Go.Proofs.YtkkjkohmekbdbaaDoor
open Go.RowKit

theorem ErrAt.ch {base : Nat} {w : World} {v : Value} {n : Int} (h : ErrAt base w v n) : ∃ p, Ch w v (some 1) (some (p, n)) 2 := by
  obtain ⟨p, -, rfl, hp⟩ := h
  exact ⟨p, Ch.node (cell_of_row w p 0 _ _ _ hp) (cell_of_row w p 1 _ _ _ hp) (Ch.kind 1)⟩
structure DagP where
  D : World → Value → List Nd → Bool → (Nat → Prop) → Prop
  lt : ∀ {w d l s F}, D w d l s F → ∀ k, F k → k < w.heap.size
  keep : ∀ {w w' d l s F}, D w d l s F → (∀ k, F k → w'.heap[k]? = w.heap[k]?) → D w' d l s F
  form : ∀ {w d l s F}, D w d l s F → ∃ g, d = .pointer (some ⟨g, 0, none⟩)
  new : ∀ (w : World) (s : Bool), Calls Tryd.prog 5 #[.bool s] w fun e w' => ∃ d F, e = .returned d ∧ D w' d [] s F ∧ (∀ k, F k → w.heap.size ≤ k) ∧ Below w.heap.size w w'
  leaf : ∀ {w d l s F} (v : Nat), D w d l s F → l.length ≤ 10000 → v < 18446744073709551616 → Calls Tryd.prog 16 #[d, .float .f64 v] w fun e w' => RetD D w d (nput s l (0, v, 0, 0)).2 s F (.int .i64 (idI (nput s l (0, v, 0, 0)).1)) e w'
  add : ∀ {w d l s F} (ao : Option Addr) (c : Nat) (n : Nat) (ids : List Int), D w d l s F → l.length + ids.length ≤ 10000 → n = ids.length → n ≤ c → RdJ w ao ids → (∀ b off, ao = some ⟨b, off, none⟩ → ¬ F b ∧ b < w.heap.size) → Calls Tryd.prog 17 #[d, .slice ao n c] w fun e w' => RetD D w d (nmany s 1 0 l ids).2 s F (.int .i64 (idI (nmany s 1 0 l ids).1)) e w'
  put : ∀ {w d l s F} (n : Nd), D w d l s F → l.length ≤ 10000 → n.2.1 < 18446744073709551616 → Calls Tryd.prog 6 #[d, nval n] w fun e w' => ∃ err, RetD D w d (nput s l n).2 s F (.tuple #[.int .i64 (idI (nput s l n).1), err]) e w' ∧ ((nput s l n).1 = none → ErrAt w.heap.size w' err (l.length : Int)) ∧ ((nput s l n).1 ≠ none → err = .nilIface)
  all : ∀ {w d l s F}, D w d l s F → Calls Tryd.prog 10 #[d] w fun e w' => ∃ v, e = .returned v ∧ OwN w.heap.size w' v l ∧ Below w.heap.size w w'
  len : ∀ {w d l s F}, D w d l s F → Calls Tryd.prog 13 #[d] w fun e w' => e = .returned (.int .i64 (l.length : Int)) ∧ Below w.heap.size w w'
  node : ∀ {w d l s F} (k : Int), D w d l s F → l.length ≤ 10000 → -9223372036854775808 ≤ k → k ≤ 9223372036854775807 → Calls Tryd.prog 12 #[d, .int .i64 k] w fun e w' => e = .returned (.tuple #[nval (nodeAt l k), .bool (decide (0 ≤ k ∧ k < (l.length : Int)))]) ∧ Below w.heap.size w w'
  nnode : ∀ (w : World) (k : Int), Calls Tryd.prog 12 #[.pointer none, .int .i64 k] w fun e w' => e = .returned (.tuple #[nval (0, 0, 0, 0), .bool false]) ∧ Below w.heap.size w w'
  nput0 : ∀ (w : World), Calls Tryd.prog 6 #[.pointer none, nval (0, 0, 0, 0)] w fun e w' => ∃ err f k, e = .returned (.tuple #[.int .i64 (-1), err]) ∧ Ch w' err (some 1) f k ∧ 0 < k ∧ Below w.heap.size w w'
  nlen : ∀ (w : World), Calls Tryd.prog 13 #[.pointer none] w fun e w' => e = .returned (.int .i64 0) ∧ Below w.heap.size w w'
  nall : ∀ (w : World), Calls Tryd.prog 10 #[.pointer none] w fun e w' => ∃ a c, e = .returned (.slice a 0 c) ∧ Below w.heap.size w w'
  nleaf : ∀ (w : World), Calls Tryd.prog 16 #[.pointer none, .float .f64 F1] w fun e w' => e = .returned (.int .i64 (-1)) ∧ Below w.heap.size w w'
  nadd : ∀ (w : World) (g c : Nat) (x : Int), w.cell? ⟨g, 0, none⟩ = some (.int .i64 x) → Calls Tryd.prog 17 #[.pointer none, .slice (some ⟨g, 0, none⟩) 1 c] w fun e w' => e = .returned (.int .i64 (-1)) ∧ Below w.heap.size w w'
/-- The blocks of a book of lists. -/
def BX (g : Nat) (r s : Value) (vs us : List Value) (k : Nat) : Prop := k = g ∨ r.ownBlock = some k ∨ s.ownBlock = some k ∨ (∃ v ∈ vs, v.ownBlock = some k) ∨ (∃ u ∈ us, u.ownBlock = some k)
theorem OwSN.same {base : Nat} {w w' : World} {v : Value} {vs : List Value} (h : OwSN base w v vs) (hb : ∀ g, v.ownBlock = some g → w'.heap[g]? = w.heap[g]?) : OwSN base w' v vs :=
  ⟨h.1, by
    rcases h.2 with h2 | ⟨g, cap, cur, hv, hg, hh, r⟩
    · exact Or.inl h2
    · exact Or.inr ⟨g, cap, cur, hv, hg, (hb g (by rw [hv]; rfl)).trans hh, r⟩⟩
theorem NLists.same {w w' : World} {vs : List Value} {ls : List (List Nd)} (h : NLists w vs ls) (hb : ∀ v ∈ vs, ∀ g, v.ownBlock = some g → w'.heap[g]? = w.heap[g]?) : NLists w' vs ls := by
  induction h with
  | nil => exact .nil
  | cons ho _ ih =>
    obtain ⟨base, ho⟩ := ho
    exact .cons ⟨base, ho.same fun g hg => hb _ (List.mem_cons_self ..) g hg⟩ (ih fun v hv => hb v (List.mem_cons_of_mem _ hv))
theorem BKN.same {B : Nat} {w w' : World} {g : Nat} {r s : Value} {vs us : List Value} {ls : List (List Nd)} (h : BKN B w g r s vs us ls) (hb : ∀ k, BX g r s vs us k → w'.heap[k]? = w.heap[k]?) : BKN B w' g r s vs us ls :=
  ⟨(hb g (Or.inl rfl)).trans h.book, h.row.same fun k hk => hb k (Or.inr (Or.inl hk)), h.was.same fun k hk => hb k (Or.inr (Or.inr (Or.inl hk))), h.apart,
   h.kept.same fun v hv k hk => hb k (Or.inr (Or.inr (Or.inr (Or.inl ⟨v, hv, hk⟩)))), h.copies.same fun v hv k hk => hb k (Or.inr (Or.inr (Or.inr (Or.inr ⟨v, hv, hk⟩)))), h.off, h.blk, h.hg⟩
theorem BKN.bx {B : Nat} {w : World} {g : Nat} {r s : Value} {vs us : List Value} {ls : List (List Nd)} (h : BKN B w g r s vs us ls) : ∀ k, BX g r s vs us k → k < w.heap.size := by
  rintro k (rfl | hk | hk | ⟨v, hv, hk⟩ | ⟨v, hv, hk⟩)
  · exact h.lt
  · exact (h.row.lt k hk).2
  · exact (h.was.lt k hk).2
  · exact h.kept.lt v hv k hk
  · exact h.copies.lt v hv k hk
/-- A Dag, the reference's book of nodes and the book of lists, apart; and a list's block X. -/
structure PS (C : DagP) (base : Nat) (w0 w : World) (d : Value) (LD : List Nd) (s : Bool) (gp : Nat) (pv : Value) (LP : List Nd) (gk : Nat) (r q : Value) (vs us : List Value) (ls : List (List Nd)) (X : Nat → Prop) : Prop where
  dag : ∃ F, C.D w d LD s F ∧ ∀ k, F k → base ≤ k ∧ ¬ FP gp pv k ∧ ¬ BX gk r q vs us k ∧ ¬ X k
  plain : PL base w gp pv LP s
  book : BKN base w gk r q vs us ls
  apart : ∀ k, FP gp pv k → ¬ BX gk r q vs us k ∧ ¬ X k
  offx : ∀ k, BX gk r q vs us k → ¬ X k
  short : ∀ (i : Nat) l, ls[i]? = some l → l.length ≤ 10000
  below : Below base w0 w
section
variable {C : DagP} {base : Nat} {w0 w w' : World} {d : Value} {LD LP : List Nd} {s : Bool} {gp gk : Nat} {pv r q : Value} {vs us : List Value} {ls : List (List Nd)} {X : Nat → Prop}
theorem PS.size (h : PS C base w0 w d LD s gp pv LP gk r q vs us ls X) : base ≤ w.heap.size := by
  have := h.book.lt
  have := h.book.hg
  omega
theorem PS.under (h : PS C base w0 w d LD s gp pv LP gk r q vs us ls X) (hb : Below w.heap.size w w') : PS C base w0 w' d LD s gp pv LP gk r q vs us ls X := by
  obtain ⟨F, h1, h2⟩ := h.dag
  exact ⟨⟨F, C.keep h1 (fun k hk => hb.block k (C.lt h1 k hk)), h2⟩, h.plain.below hb, h.book.under hb, h.apart, h.offx, h.short, h.below.trans (hb.mono h.size)⟩
theorem PS.form (h : PS C base w0 w d LD s gp pv LP gk r q vs us ls X) : ∃ g, d = .pointer (some ⟨g, 0, none⟩) := by
  obtain ⟨F, h1, h2⟩ := h.dag
  exact C.form h1
theorem PS.put (h : PS C base w0 w d LD s gp pv LP gk r q vs us ls (fun _ => False)) (hl : LD.length ≤ 10000) (n : Nd) (hn : n.2.1 < 18446744073709551616) : Calls Tryd.prog 6 #[d, nval n] w fun e w' => ∃ err, e = .returned (.tuple #[.int .i64 (idI (nput s LD n).1), err]) ∧ PS C base w0 w' d (nput s LD n).2 s gp pv LP gk r q vs us ls (fun _ => False) ∧ ((nput s LD n).1 = none → ErrAt w.heap.size w' err (LD.length : Int)) ∧ ((nput s LD n).1 ≠ none → err = .nilIface) ∧ w.heap.size ≤ w'.heap.size := by
  obtain ⟨F, h1, h2⟩ := h.dag
  refine (C.put n h1 hl hn).mono ?_
  rintro e w' ⟨err, ⟨rfl, F', a1, a2, a3⟩, a4, a5⟩
  have hsz := h.size
  refine ⟨err, rfl, ⟨⟨F', a1, fun k hk => ?_⟩, h.plain.fr a3 (fun k hk hF => (h2 k hF).2.1 hk), h.book.same (fun k hk => a3.block k (h.book.bx k hk) (fun hF => (h2 k hF).2.2.1 hk)), h.apart, h.offx, h.short, h.below.trans (a3.below (fun k hk => (h2 k hk).1) hsz)⟩, a4, a5, a3.size⟩
  rcases a2 k hk with hF | hF
  · exact h2 k hF
  · refine ⟨Nat.le_trans hsz hF, fun hp => ?_, fun hx => ?_, fun h => h⟩
    · have := (h.plain.lt k hp).2
      omega
    · have := h.book.bx k hx
      omega
theorem PS.pput (h : PS C base w0 w d LD s gp pv LP gk r q vs us ls (fun _ => False)) (hl : LP.length ≤ 100000) (n : Nd) (hn : n.2.1 < 18446744073709551616) : Calls Tryd.prog 7 #[.pointer (some ⟨gp, 0, none⟩), nval n] w fun e w' => e = .returned (.int .i64 (idI (nput s LP n).1)) ∧ (∃ pv', PS C base w0 w' d LD s gp pv' (nput s LP n).2 gk r q vs us ls (fun _ => False)) ∧ Chg (FP gp pv) w w' := by
  refine (plain_put n h.plain hl hn h.size).mono ?_
  rintro e w' ⟨rfl, pv', a1, a2, a3⟩
  obtain ⟨F, h1, h2⟩ := h.dag
  have hsz := h.size
  refine ⟨rfl, ⟨pv', ⟨⟨F, C.keep h1 (fun k hk => a3.block k (C.lt h1 k hk) (h2 k hk).2.1), fun k hk => ⟨(h2 k hk).1, fun hp => ?_, (h2 k hk).2.2.1, fun h => h⟩⟩, a1, h.book.same (fun k hk => a3.block k (h.book.bx k hk) (fun hp => (h.apart k hp).1 hk)), fun k hp => ⟨fun hx => ?_, fun h => h⟩, h.offx, h.short, h.below.trans (a3.below (fun k hk => (h.plain.lt k hk).1) hsz)⟩⟩, a3⟩
  · rcases a2 k hp with hF | hF
    · exact (h2 k hk).2.1 hF
    · have := C.lt h1 k hk
      omega
  · rcases a2 k hp with hF | hF
    · exact (h.apart k hF).1 hx
    · have := h.book.bx k hx
      omega
theorem PS.all (h : PS C base w0 w d LD s gp pv LP gk r q vs us ls (fun _ => False)) : Calls Tryd.prog 10 #[d] w fun e w' => ∃ v, e = .returned v ∧ OwN w.heap.size w' v LD ∧ PS C base w0 w' d LD s gp pv LP gk r q vs us ls (fun k => v.ownBlock = some k) := by
  obtain ⟨F, h1, h2⟩ := h.dag
  refine (C.all h1).mono ?_
  rintro e w' ⟨v, rfl, hO, hb⟩
  have h' := h.under hb
  refine ⟨v, rfl, hO, ⟨⟨F, C.keep h1 (fun k hk => hb.block k (C.lt h1 k hk)), fun k hk => ⟨(h2 k hk).1, (h2 k hk).2.1, (h2 k hk).2.2.1, fun hv => ?_⟩⟩, h'.plain, h'.book, fun k hp => ⟨(h.apart k hp).1, fun hv => ?_⟩, fun k hx hv => ?_, h.short, h'.below⟩⟩
  · have := (hO.lt k hv).1
    have := C.lt h1 k hk
    omega
  · have := (hO.lt k hv).1
    have := (h.plain.lt k hp).2
    omega
  · have := (hO.lt k hv).1
    have := h.book.bx k hx
    omega
theorem PS.keep {v : Value} {z : Nat} {l : List Nd} (h : PS C base w0 w d LD s gp pv LP gk r q vs us ls (fun k => v.ownBlock = some k)) (hO : OwN z w v l) (hz : base ≤ z) (hlen : vs.length ≤ 200) (hll : l.length ≤ 10000) : Calls Tryd.prog 11 #[.pointer (some ⟨gk, 0, none⟩), v] w fun e w' => e = .returned (.tuple #[]) ∧ (∃ r' q' u, PS C base w0 w' d LD s gp pv LP gk r' q' (vs ++ [v]) (us ++ [u]) (ls ++ [l]) (fun _ => False)) ∧ OwN z w' v l := by
  refine (nkeep_num h.book hO (fun u hu => ?_) hz hlen (by omega)).mono ?_
  · cases hub : u.ownBlock with
    | none => exact Or.inl rfl
    | some b => exact Or.inr fun e => h.offx b (Or.inr (Or.inr (Or.inr (Or.inl ⟨u, hu, hub⟩)))) e.symm
  rintro e w' ⟨rfl, ⟨r', q', u, hbk, a1, a2, a3⟩, hb, hc⟩
  obtain ⟨F, h1, h2⟩ := h.dag
  have kf : ∀ k, KF gk r q k → BX gk r q vs us k := by
    rintro k (rfl | hk | hk)
    · exact Or.inl rfl
    · exact Or.inr (Or.inl hk)
    · exact Or.inr (Or.inr (Or.inl hk))
  have bx : ∀ k, BX gk r' q' (vs ++ [v]) (us ++ [u]) k → BX gk r q vs us k ∨ v.ownBlock = some k ∨ w.heap.size ≤ k := by
    rintro k (rfl | hk | hk | ⟨x, hx, hk⟩ | ⟨x, hx, hk⟩)
    · exact Or.inl (Or.inl rfl)
    · exact (a1 k hk).elim (fun h => Or.inl (Or.inr (Or.inl h))) (fun h => Or.inr (Or.inr h))
    · exact (a2 k hk).elim (fun h => Or.inl (Or.inr (Or.inr (Or.inl h)))) (fun h => Or.inr (Or.inr h))
    · rcases List.mem_append.1 hx with hx | hx
      · exact Or.inl (Or.inr (Or.inr (Or.inr (Or.inl ⟨x, hx, hk⟩))))
      · obtain rfl := List.mem_singleton.1 hx
        exact Or.inr (Or.inl hk)
    · rcases List.mem_append.1 hx with hx | hx
      · exact Or.inl (Or.inr (Or.inr (Or.inr (Or.inr ⟨x, hx, hk⟩))))
      · obtain rfl := List.mem_singleton.1 hx
        exact Or.inr (Or.inr (a3 k hk))
  refine ⟨rfl, ⟨r', q', u, ⟨⟨F, C.keep h1 (fun k hk => hc.block k (C.lt h1 k hk) (fun hf => (h2 k hk).2.2.1 (kf k hf))), fun k hk => ⟨(h2 k hk).1, (h2 k hk).2.1, fun hx => ?_, fun h => h⟩⟩, h.plain.fr hc (fun k hk hf => (h.apart k hk).1 (kf k hf)), hbk, fun k hp => ⟨fun hx => ?_, fun h => h⟩, fun _ _ h => h, fun i l' hi => ?_, h.below.trans hb⟩⟩, hO.fr hc (fun k hk hf => h.offx k (kf k hf) hk)⟩
  · rcases bx k hx with h3 | h3 | h3
    · exact (h2 k hk).2.2.1 h3
    · exact (h2 k hk).2.2.2 h3
    · have := C.lt h1 k hk
      omega
  · rcases bx k hx with h3 | h3 | h3
    · exact (h.apart k hp).1 h3
    · exact (h.apart k hp).2 h3
    · have := (h.plain.lt k hp).2
      omega
  · by_cases hi2 : i < ls.length
    · rw [List.getElem?_append_left hi2] at hi
      exact h.short i l' hi
    · rw [List.getElem?_append_right (by omega)] at hi
      have hm := List.mem_of_getElem? hi
      obtain rfl := List.mem_singleton.1 hm
      exact hll
theorem PS.len (h : PS C base w0 w d LD s gp pv LP gk r q vs us ls X) : Calls Tryd.prog 13 #[d] w fun e w' => e = .returned (.int .i64 (LD.length : Int)) ∧ Below w.heap.size w w' := by
  obtain ⟨F, h1, h2⟩ := h.dag
  exact C.len h1
theorem PS.node (h : PS C base w0 w d LD s gp pv LP gk r q vs us ls X) (hl : LD.length ≤ 10000) (k : Int) (hk1 : -9223372036854775808 ≤ k) (hk2 : k ≤ 9223372036854775807) : Calls Tryd.prog 12 #[d, .int .i64 k] w fun e w' => e = .returned (.tuple #[nval (nodeAt LD k), .bool (decide (0 ≤ k ∧ k < (LD.length : Int)))]) ∧ Below w.heap.size w w' := by
  obtain ⟨F, h1, h2⟩ := h.dag
  exact C.node k h1 hl hk1 hk2
end
end Go.Proofs.YtkkjkohmekbdbaaDoor

namespace Go.Proofs.YtkkjkohmekbdbaaDoor
open Go.RowKit

theorem rdj_two (w : World) (x y : Int) (t : TypeId) {g : Nat} (hg : w.heap.size = g) : RdJ (w.alloc (.cells #[.int .i64 x, .int .i64 y] t)) (some ⟨g, 0, none⟩) [x, y] := by
  subst hg
  obtain ⟨h0, h1, -, -⟩ := slot2 (heap_alloc_new w (.cells #[.int .i64 x, .int .i64 y] t))
  refine Or.inr ⟨_, _, rfl, fun j z hj => ?_⟩
  match j, hj with
  | 0, hj => simp at hj; subst hj; exact h0
  | 1, hj => simp at hj; subst hj; exact h1
  | j + 2, hj => simp at hj
/-- Two Dags in blocks from base on that lie apart. -/
def St2 (C : DagP) (base : Nat) (w : World) (d1 : Value) (l1 : List Nd) (s1 : Bool) (d2 : Value) (l2 : List Nd) (s2 : Bool) : Prop := ∃ F G, C.D w d1 l1 s1 F ∧ C.D w d2 l2 s2 G ∧ (∀ k, F k → base ≤ k) ∧ (∀ k, G k → base ≤ k) ∧ ∀ k, F k → ¬ G k
theorem St2.swap {C : DagP} {base : Nat} {w : World} {d1 d2 : Value} {l1 l2 : List Nd} {s1 s2 : Bool} (h : St2 C base w d1 l1 s1 d2 l2 s2) : St2 C base w d2 l2 s2 d1 l1 s1 := by
  obtain ⟨F, G, h1, h2, h3, h4, h5⟩ := h
  exact ⟨G, F, h2, h1, h4, h3, fun k hg hf => h5 k hf hg⟩
/-- A call on the first. -/
theorem St2.call {C : DagP} {base : Nat} {w w1 : World} {d1 d2 : Value} {l1 l2 : List Nd} {s1 s2 : Bool} {f : FuncId} {args : Array Value} {r : Option Nat × List Nd} (h : St2 C base w d1 l1 s1 d2 l2 s2) (hb : base ≤ w.heap.size) (hw : Below w.heap.size w w1)
    (hc : ∀ F, C.D w1 d1 l1 s1 F → (∀ k, F k → k < w.heap.size) → Calls Tryd.prog f args w1 fun e w' => RetD C.D w1 d1 r.2 s1 F (.int .i64 (idI r.1)) e w') :
    Calls Tryd.prog f args w1 fun e w' => e = .returned (.int .i64 (idI r.1)) ∧ St2 C base w' d1 r.2 s1 d2 l2 s2 ∧ Below base w w' := by
  obtain ⟨F, G, h1, h2, h3, h4, h5⟩ := h
  have g1 := C.keep h1 (fun k hk => hw.block k (C.lt h1 k hk))
  have g2 := C.keep h2 (fun k hk => hw.block k (C.lt h2 k hk))
  refine (hc F g1 (C.lt h1)).mono ?_
  rintro e w' ⟨rfl, F', a1, a2, a3⟩
  have hs := hw.size
  refine ⟨rfl, ⟨F', G, a1, C.keep g2 (fun k hk => a3.block k (C.lt g2 k hk) (fun hF => h5 k hF hk)), fun k hk => ?_, h4, fun k hk hg => ?_⟩, (hw.mono hb).trans (a3.below h3 (by omega))⟩
  · rcases a2 k hk with h | h
    · exact h3 k h
    · omega
  · rcases a2 k hk with h | h
    · exact h5 k h hg
    · have := C.lt h2 k hg
      omega
theorem leaf_ok {len v : Nat} (hv : rg v < INF) : nbad len (0, v, 0, 0) = false := by unfold nbad nvalid; simp [hv]
theorem f1_fin : rg F1 < INF := by decide
set_option maxRecDepth 100000 in
set_option maxHeartbeats 2000000 in
theorem dalive (C : DagP) (w : World) : Calls Tryd.prog 4 #[] w fun e w' => RetV w (.bool true) e w' := by
  have p1 : ∀ s, nput s [] (0, F1, 0, 0) = (some 0, [(0, F1, 0, 0)]) := fun s => nput_new (leaf_ok f1_fin) (fun _ => rfl)
  have p2 : nput true [(0, F1, 0, 0)] (0, F1, 0, 0) = (some 0, [(0, F1, 0, 0)]) := nput_old (leaf_ok f1_fin) (by decide)
  have p3 : nput false [(0, F1, 0, 0)] (0, F1, 0, 0) = (some 1, [(0, F1, 0, 0), (0, F1, 0, 0)]) := nput_new (leaf_ok f1_fin) (fun h => nomatch h)
  have p4 : nmany true 1 0 [(0, F1, 0, 0)] [0, 0] = (some 1, [(0, F1, 0, 0), (1, 0, 0, 0)]) := by decide
  go_enter Tryd.func4, Tryd.ntmps4
  go_wp2_with fail
  refine (C.new w true).mono ?_
  rintro e w1 ⟨d1, F, rfl, h1, h2, h3⟩
  obtain ⟨g1, rfl⟩ := C.form h1
  go_wp2_with fail
  refine (C.new w1 false).mono ?_
  rintro e w2 ⟨d2, G, rfl, k1, k2, k3⟩
  obtain ⟨g2, rfl⟩ := C.form k1
  have hs1 := h3.size
  have S2 : St2 C w.heap.size w2 (.pointer (some ⟨g1, 0, none⟩)) [] true (.pointer (some ⟨g2, 0, none⟩)) [] false :=
    ⟨F, G, C.keep h1 (fun k hk => k3.block k (C.lt h1 k hk)), k1, h2, fun k hk => Nat.le_trans hs1 (k2 k hk), fun k hF hG => by have := C.lt h1 k hF; have := k2 k hG; omega⟩
  have hb2 : Below w.heap.size w w2 := h3.trans (k3.mono hs1)
  clear h1 h2 h3 k1 k2 k3 hs1
  go_wp2_with fail
  refine (S2.call (r := nput true [] (0, F1, 0, 0)) hb2.size (Below.refl _ _) (fun F hD _ => C.leaf F1 hD (by decide) (by decide))).mono ?_
  rw [p1]
  rintro e w3 ⟨rfl, S3, hb3⟩
  replace hb3 := hb2.trans hb3
  clear S2 hb2
  go_wp2_with fail
  refine (S3.call (r := nput true [(0, F1, 0, 0)] (0, F1, 0, 0)) hb3.size (Below.refl _ _) (fun F hD _ => C.leaf F1 hD (by decide) (by decide))).mono ?_
  rw [p2]
  rintro e w4 ⟨rfl, S4, hb4⟩
  replace hb4 := hb3.trans hb4
  clear S3 hb3
  go_wp2_with fail
  refine (S4.swap.call (r := nput false [] (0, F1, 0, 0)) hb4.size (Below.refl _ _) (fun F hD _ => C.leaf F1 hD (by decide) (by decide))).mono ?_
  rw [p1]
  rintro e w5 ⟨rfl, S5, hb5⟩
  replace hb5 := hb4.trans hb5
  clear S4 hb4
  go_wp2_with fail
  refine (S5.call (r := nput false [(0, F1, 0, 0)] (0, F1, 0, 0)) hb5.size (Below.refl _ _) (fun F hD _ => C.leaf F1 hD (by decide) (by decide))).mono ?_
  rw [p3]
  rintro e w6 ⟨rfl, S6, hb6⟩
  replace hb6 := hb5.trans hb6
  clear S5 hb5
  go_wp2_with fail
  refine (S6.swap.call (r := nmany true 1 0 [(0, F1, 0, 0)] [0, 0]) hb6.size (below_alloc _ _) (fun F hD hlt => C.add (some ⟨w6.heap.size, 0, none⟩) 2 2 [0, 0] hD (by decide) rfl (Nat.le_refl _) (rdj_two w6 0 0 _ rfl) (fun b off e => by
    simp only [Option.some.injEq, Addr.mk.injEq, and_true] at e
    obtain ⟨rfl, -⟩ := e
    exact ⟨fun hF => Nat.lt_irrefl _ (hlt _ hF), by simp⟩))).mono ?_
  rw [p4]
  rintro e w7 ⟨rfl, S7, hb7⟩
  replace hb7 := hb6.trans hb7
  clear S6 hb6
  obtain ⟨F7, G7, hD7, -⟩ := S7
  go_wp2_with fail
  refine (C.len hD7).mono ?_
  rintro e w8 ⟨rfl, hb8⟩
  go_wp2_with fail
  go_ret
  exact ⟨rfl, hb7.trans (hb8.mono hb7.size)⟩
end Go.Proofs.YtkkjkohmekbdbaaDoor

namespace Go.Proofs.YtkkjkohmekbdbaaDoor
open Go.RowKit

theorem run_store_fl {P : Program} {w : World} {a : Addr} {m : Mode} (k : FloatKind) (n : Nat) : (store a (.float k n) m).run P w = stored P w a (.float k n) m := run_store P w a _ m rfl
attribute [local go_sem] run_store_fl
theorem nput_len (s : Bool) (l : List Nd) (n : Nd) : (nput s l n).2.length ≤ l.length + 1 := by
  unfold nput
  split
  · simp
  · split
    · split <;> simp
    · simp
theorem nfind_lt {l : List Nd} {n : Nd} {k : Nat} (h : nfind l n = some k) : k < l.length := by
  induction l generalizing k with
  | nil => cases h
  | cons x l ih =>
    unfold nfind at h
    by_cases hx : x = n
    · rw [if_pos hx] at h
      obtain rfl := Option.some.inj h
      simp
    · rw [if_neg hx] at h
      cases hf : nfind l n with
      | none => rw [hf] at h; cases h
      | some j =>
        rw [hf] at h
        obtain rfl := Option.some.inj h
        have := ih hf
        simp
        omega
theorem nput_id {s : Bool} {l : List Nd} {n : Nd} {id : Nat} {l' : List Nd} (h : nput s l n = (some id, l')) : id < l'.length := by
  unfold nput at h
  split at h
  · cases h
  · split at h
    · split at h
      · rename_i j hj
        simp only [Prod.mk.injEq, Option.some.injEq] at h
        obtain ⟨rfl, rfl⟩ := h
        exact nfind_lt hj
      · simp only [Prod.mk.injEq, Option.some.injEq] at h
        obtain ⟨rfl, rfl⟩ := h
        simp
    · simp only [Prod.mk.injEq, Option.some.injEq] at h
      obtain ⟨rfl, rfl⟩ := h
      simp
theorem PS.start {base : Nat} {w0 w : World} {d : Value} {s : Bool} {F : Nat → Prop} (C : DagP) (h : C.D w d [] s F) (hF : ∀ k, F k → base ≤ k) (hb : Below base w0 w) (hbw : base ≤ w.heap.size) :
    PS C base w0 ((w.alloc (.cells #[.slice none 0 0, .bool s] 28)).alloc (.cells #[.slice none 0 0, .slice none 0 0, .slice none 0 0, .slice none 0 0, .slice none 0 0, .slice none 0 0, .slice none 0 0, .slice none 0 0, .slice none 0 0, .slice none 0 0] 36)) d [] s w.heap.size (.slice none 0 0) [] (w.heap.size + 1) (.slice none 0 0) (.slice none 0 0) [] [] [] (fun _ => False) := by
  have b1 := below_alloc w (.cells #[.slice none 0 0, .bool s] 28)
  have b2 := below_alloc (w.alloc (.cells #[.slice none 0 0, .bool s] 28)) (.cells #[.slice none 0 0, .slice none 0 0, .slice none 0 0, .slice none 0 0, .slice none 0 0, .slice none 0 0, .slice none 0 0, .slice none 0 0, .slice none 0 0, .slice none 0 0] 36)
  have b12 := b1.trans (b2.mono b1.size)
  have hn := heap_alloc_new (w.alloc (.cells #[.slice none 0 0, .bool s] 28)) (.cells #[.slice none 0 0, .slice none 0 0, .slice none 0 0, .slice none 0 0, .slice none 0 0, .slice none 0 0, .slice none 0 0, .slice none 0 0, .slice none 0 0, .slice none 0 0] 36)
  rw [heap_alloc_size'] at hn
  have bx : ∀ k, BX (w.heap.size + 1) (.slice none 0 0) (.slice none 0 0) [] [] k → k = w.heap.size + 1 := by
    rintro k (h | h | h | ⟨v, hv, -⟩ | ⟨v, hv, -⟩)
    · exact h
    · cases h
    · cases h
    · cases hv
    · cases hv
  have fp : ∀ k, FP w.heap.size (.slice none 0 0) k → k = w.heap.size := by
    rintro k (h | h)
    · exact h
    · cases h
  refine ⟨⟨F, C.keep h (fun k hk => b12.block k (C.lt h k hk)), fun k hk => ⟨hF k hk, fun hp => ?_, fun hx => ?_, fun h => h⟩⟩, ⟨slot_kept (heap_alloc_new w _) b2, OwN.nil _ _, hbw⟩, ⟨hn, OwSN.nil _ _, OwSN.nil _ _, Or.inl rfl, .nil, .nil, trivial, fun v hv => (by cases hv), Nat.le_succ_of_le hbw⟩, fun k hp => ⟨fun hx => ?_, fun h => h⟩, fun _ _ h => h, fun i l hi => (by simp at hi), hb.trans (b12.mono hbw)⟩
  · have := C.lt h k hk
    have := fp k hp
    omega
  · have := C.lt h k hk
    have := bx k hx
    omega
  · have := fp k hp
    have := bx k hx
    omega
set_option maxRecDepth 100000 in
set_option maxHeartbeats 4000000 in
theorem plays_ok (C : DagP) {w : World} {ao : Option Addr} {n c : Nat} {ls : List Nd} (s : Bool) (at' : Int) (hg : ErrT w) (ha1 : -9223372036854775808 ≤ at') (ha2 : at' ≤ 9223372036854775807) (hn : n = ls.length) (hr : RdN w ao ls) (hrb : ∀ b off, ao = some ⟨b, off, none⟩ → ls ≠ [] → b < w.heap.size) (hrg : ∀ x ∈ ls, x.2.1 < 18446744073709551616) :
    Calls Tryd.prog 3 #[.slice ao n c, .bool s, .int .i64 at'] w fun e w' => RetV w (.bool true) e w' := by
  have HA := Lib.hid (dalive C)
  have HG := Lib.hid hg
  have HN := Lib.hid hn
  have HR := Lib.hid hr
  have HRB := Lib.hid hrb
  have HRG := Lib.hid hrg
  clear hn hr hrb hrg hg
  by_cases h2 : 120 < n
  · have d1 : decide ((120 : Int) < (n : Int)) = true := by simp; omega
    go_enter Tryd.func3, Tryd.ntmps3
    go_wp2_with fail
    refine (HA.out _).mono ?_
    rintro e w1 ⟨rfl, hb1⟩
    go_wp2_with fail
    go_ret
    exact ⟨rfl, hb1⟩
  · have d1 : decide ((120 : Int) < (n : Int)) = false := by simp; omega
    go_enter Tryd.func3, Tryd.ntmps3
    go_wp2_with fail
    refine (HA.out _).mono ?_
    rintro e w1 ⟨rfl, hb1⟩
    go_wp2_with fail
    refine (C.new w1 s).mono ?_
    rintro e w2 ⟨d, F2, rfl, D2, F2b, hb2⟩
    replace hb2 := hb1.trans (hb2.mono hb1.size)
    have hs1 := hb1.size
    clear hb1
    obtain ⟨g, rfl⟩ := C.form D2
    obtain ⟨gp, hgp⟩ : ∃ gp, w2.heap.size = gp := ⟨_, rfl⟩
    have HP0 := Lib.hid (PS.start (w0 := w) C D2 (fun k hk => Nat.le_trans hs1 (F2b k hk)) hb2 hb2.size)
    rw [hgp] at HP0
    clear D2 F2b hs1
    go_wp2_with fail
    go_loopw [10, 11, 12, 13, 14, 15, 16, 17, 18, 19, 20] (fun i _ _ _ _ _ _ _ _ _ _ wr => ∃ (k : Nat) (L : List Nd) (pa : Option Addr) (m pc : Nat) (r q : Value) (vs us : List Value) (lk : List (List Nd)), k ≤ n ∧ i = .int .i64 k ∧ L.length = m ∧ m ≤ k ∧ vs.length = k ∧ Hid (PS C w.heap.size w wr (.pointer (some ⟨g, 0, none⟩)) L s gp (.slice pa m pc) L (gp + 1) r q vs us lk (fun _ => False))) (fun i _ _ _ _ _ _ _ _ _ _ _ => n - (intOf i).toNat)
    case atStart => exact ⟨0, [], none, 0, 0, _, _, [], [], [], Nat.zero_le _, rfl, rfl, Nat.le_refl _, rfl, HP0⟩
    case round =>
      obtain ⟨k, L, pa, m, pc, r, q, vs, us, lk, hk, rfl, hlen, hmk, hvs, HP⟩ := hrel
      have HL := Lib.hid hlen
      have HV := Lib.hid hvs
      clear hlen hvs HP0
      by_cases hlt : k < n
      · have hne : ls ≠ [] := by intro e; have := HN.out; subst e; simp at this; omega
        obtain ⟨b0, o0, rfl, -⟩ := HR.out.some hne
        obtain ⟨x, hx⟩ : ∃ x, ls[k]? = some x := ⟨ls[k]'(by have := HN.out; omega), by rw [List.getElem?_eq_getElem]⟩
        have HARG : Hid (∀ wz, Below w.heap.size w wz → RdN wz (some ⟨b0, o0, none⟩) ls) := Lib.hid fun wz hz => HR.out.same fun b off e hl => hz.block b (HRB.out b off e hl)
        obtain ⟨i0, i1, i2, i3⟩ := (HARG.out _ HP.out.below).at hx
        have hxv := HRG.out x (List.mem_of_getElem? hx)
        have HX := Lib.hid hx
        have c0 : wr.cell? ⟨gp, 0, none⟩ = some (.slice pa m pc) := cell_of_row wr gp 0 _ _ _ HP.out.plain.1
        obtain ⟨rr, hrr⟩ : ∃ rr, nput s L x = rr := ⟨_, rfl⟩
        have HRR := Lib.hid hrr
        have HPUT := Lib.hid (HP.out.put (by have := HL.out; omega) x hxv)
        have HLL := Lib.hid (nput_len s L x)
        rw [hrr] at HPUT HLL
        obtain ⟨o, L'⟩ := rr
        simp only at HPUT HLL
        clear hx hne hrr
        go_wp2_with fail
        refine HPUT.out.mono ?_
        rintro e w3 ⟨err, rfl, hp3, he1, he2, hsz3⟩
        have HP3 := Lib.hid hp3
        have HE1 := Lib.hid he1
        have HE2 := Lib.hid he2
        clear hp3 HPUT i0 i1 i2 i3 c0 he1 he2
        obtain ⟨i0, i1, i2, i3⟩ := (HARG.out _ HP3.out.below).at HX.out
        have HFP : Hid (∀ j, FP gp (.slice pa m pc) j → j < wr.heap.size) := Lib.hid fun j hj => (HP.out.plain.lt j hj).2
        clear HP
        have HQ := Lib.hid (HP3.out.pput (by have := HL.out; omega) x hxv)
        rw [HRR.out] at HQ
        simp only at HQ
        obtain ⟨wv, hwv⟩ : ∃ wv : Int, idI o = wv := ⟨_, rfl⟩
        rw [hwv] at HQ ⊢
        have HWV := Lib.hid hwv
        clear hwv
        go_wp2_with fail
        refine HQ.out.mono ?_
        rintro e w4 ⟨rfl, ⟨pv', hp4⟩, hc4⟩
        have HE4 : Hid (o = none → ∃ pe, err = .iface 69 (.pointer (some ⟨pe, 0, none⟩)) ∧ Ch w4 err (some 1) (some (pe, (m : Int))) 2) := Lib.hid fun ho => by
          obtain ⟨pe, a1, rfl, a3⟩ := (HE1.out ho).keep (w' := w4) (fun j h1 h2 => hc4.block j h2 (fun hf => by have := HFP.out j hf; omega))
          rw [HL.out] at a3
          exact ⟨pe, rfl, Ch.node (cell_of_row w4 pe 0 _ _ _ a3) (cell_of_row w4 pe 1 _ _ _ a3) (Ch.kind 1)⟩
        clear HP3 HQ HFP HE1 i0 i1 i2 i3 hsz3 hc4 HARG HX
        obtain ⟨m', hm'⟩ : ∃ m', L'.length = m' := ⟨_, rfl⟩
        have HM := Lib.hid hm'
        have hmb : m' ≤ k + 1 := by have h1 := HLL.out; have h2 := HL.out; omega
        obtain ⟨pa', pc', hpv, hpc1, hpc2, hrp, -⟩ := hp4.plain.2.1.form
        rw [hm'] at hpv hpc1
        subst hpv
        have HP4 := Lib.hid hp4
        clear hp4 hm' hrp HLL HRR
        go_upto_region 14 with fail
        go_cut [78] from 69 to 78 (fun s78 wx => s78 = .bool false ∧ w4 = wx)
        case first =>
          cases o with
          | none =>
            obtain ⟨pe, rfl, -⟩ := HE4.out rfl
            have hw : -1 = wv := HWV.out
            subst hw
            go_wp2_with fail
            go_meet
            exact ⟨rfl, rfl⟩
          | some id =>
            have he := HE2.out (by simp)
            subst he
            have hw : (id : Int) = wv := HWV.out
            subst hw
            have hd0 : (decide ((0 : Int) ≤ (id : Int))) = true := by simp
            go_wp2_with fail
            go_meet
            exact ⟨rfl, rfl⟩
        case rest =>
          obtain ⟨rfl, rfl⟩ := hcut
          go_upto_if 80 with fail
          go_cut [15, 16] from 81 to 97 (fun _ _ wx => Hid (PS C w.heap.size w wx (.pointer (some ⟨g, 0, none⟩)) L' s gp (.slice pa' m' pc') L' (gp + 1) r q vs us lk (fun _ => False)))
          case first =>
            cases o with
            | none =>
              obtain ⟨pe, rfl, hch⟩ := HE4.out rfl
              have hw : -1 = wv := HWV.out
              subst hw
              have HCH := Lib.hid hch
              have HWH := Lib.hid (where_of hch (cell_under (HP4.out.below) HG.out))
              clear hch
              go_wp2_with fail
              refine HWH.out.mono ?_
              rintro e w5 ⟨rfl, hb5⟩
              rw [show whereOf (some (pe, (m : Int))) = .tuple #[.int .i64 (m : Int), .bool true] from rfl]
              have HP5 := Lib.hid (HP4.out.under hb5)
              have HCO := Lib.hid (code_of (HCH.out.under hb5) (by decide) 1 (Or.inl ⟨rfl, by decide, by decide⟩))
              clear hb5 HCH HWH
              go_wp2_with fail
              refine HCO.out.mono ?_
              rintro e w6 ⟨rfl, hb6⟩
              have HP6 := Lib.hid (HP5.out.under hb6)
              clear hb6
              go_wp2_with fail
              go_meet
              exact HP6
            | some id =>
              have hw : (id : Int) = wv := HWV.out
              subst hw
              have hd0 : ¬ ((id : Int) < 0) := by omega
              go_wp2_with fail
              go_meet
              exact HP4
          case rest =>
            obtain ⟨w7, hw7⟩ : ∃ w7, w7 = wc := ⟨_, rfl⟩
            subst hw7
            have HP7 := hcut
            have HALL := Lib.hid HP7.out.all
            have hz7 := HP7.out.size
            clear hcut HP4 HE2 HE4 HWV
            go_wp2_with fail
            refine HALL.out.mono ?_
            rintro e w8 ⟨va, rfl, ho8, hp8⟩
            have HK := Lib.hid (hp8.keep ho8 hz7 (by have := HV.out; omega) (by have := HM.out; omega))
            obtain ⟨aa, ca, rfl, hca1, hca2, -, -⟩ := ho8.form
            have hm8 := HM.out
            rw [hm8] at HK hca1 ⊢
            clear ho8 hp8 HALL HP7 hm8
            go_wp2_with fail
            refine HK.out.mono ?_
            rintro e w9 ⟨rfl, ⟨r', q', u, hp9⟩, ho9⟩
            have HP9 := Lib.hid hp9
            have HO9 := Lib.hid ho9
            obtain ⟨nd, hnd⟩ : ∃ nd, nodeAt L' at' = nd := ⟨_, rfl⟩
            obtain ⟨bi, hbi⟩ : ∃ bi, decide (0 ≤ at' ∧ at' < (m' : Int)) = bi := ⟨_, rfl⟩
            have hnode := hp9.node (by have := HM.out; omega) at' ha1 ha2
            rw [HM.out, hnd, hbi] at hnode
            have HNODE := Lib.hid hnode
            have HND := Lib.hid hnd
            have HBI := Lib.hid hbi
            clear hnode hnd hbi hp9 ho9 HK
            obtain ⟨n0, n1, n2, n3⟩ := nd
            simp only [nval] at HNODE
            go_wp2_with fail
            refine HNODE.out.mono ?_
            rintro e w10 ⟨rfl, hb10⟩
            have HP10 := Lib.hid (HP9.out.under hb10)
            have HO10 := Lib.hid (HO9.out.below hb10)
            clear hb10 HP9 HO9 HNODE
            go_upto_region 23 with fail
            obtain ⟨gn, hgn⟩ : ∃ gn, w10.heap.size = gn := ⟨_, rfl⟩
            obtain ⟨w11, hw11⟩ : ∃ w11, w10.alloc (.cells #[.int .i64 n0, .float .f64 n1, .int .i64 n2, .int .i64 n3] 43) = w11 := ⟨_, rfl⟩
            have hal : Below w10.heap.size w10 w11 := hw11 ▸ below_alloc w10 _
            have HNN : Hid (w11.heap[w10.heap.size]? = some (.cells #[.int .i64 n0, .float .f64 n1, .int .i64 n2, .int .i64 n3] 43 (0, 0))) := Lib.hid (hw11 ▸ heap_alloc_new w10 _)
            have HP11 := Lib.hid (HP10.out.under hal)
            have HO11 := Lib.hid (HO10.out.below hal)
            rw [hw11, hgn]
            rw [hgn] at HNN
            have c0 : w11.cell? ⟨gp, 0, none⟩ = some (.slice pa' m' pc') := cell_of_row w11 gp 0 _ _ _ HP11.out.plain.1
            clear hal hw11 hgn HP10 HO10
            go_cut [20] from 109 to 119 (fun s20 wx => s20 = .bool bi ∧ w11 = wx)
            case first =>
              have hb := HBI.out
              by_cases h1 : 0 ≤ at'
              · by_cases h3 : at' < (m' : Int)
                · have hbi : true = bi := by rw [← hb]; simp [h1, h3]
                  subst hbi
                  clear hb
                  go_wp2_with fail
                  go_meet
                  exact ⟨rfl, rfl⟩
                · have hbi : false = bi := by rw [← hb]; simp [h3]
                  subst hbi
                  clear hb
                  go_wp2_with fail
                  go_meet
                  exact ⟨rfl, rfl⟩
              · have hbi : false = bi := by rw [← hb]; simp [h1]
                subst hbi
                clear hb
                go_wp2_with fail
                go_meet
                exact ⟨rfl, rfl⟩
            case rest =>
              obtain ⟨rfl, rfl⟩ := hcut
              clear c0
              cases bi with
              | false =>
                obtain ⟨e0, e1, e2, e3⟩ : n0 = 0 ∧ n1 = 0 ∧ n2 = 0 ∧ n3 = 0 := by
                  have h1 := HND.out
                  have h2 := of_decide_eq_false HBI.out
                  unfold nodeAt at h1
                  split at h1
                  · rename_i h3
                    rw [List.getElem?_eq_none (by have := HM.out; omega)] at h1
                    simpa using h1.symm
                  · simpa using h1.symm
                subst e0 e1 e2 e3
                have HSE := Lib.hid (same_nd (0, 0, 0, 0) (0, 0, 0, 0))
                rw [decide_eq_true rfl] at HSE
                go_upto_region 24 with fail
                refine wp_region_slots (by kernel_rfl) [120, 121, 122, 123, 124, 125, 126, 127, 128, 129, 130, 131, 132, 133, 134, 135, 136, 137, 138, 139, 140, 141, 142, 143, 144, 145, 146, 147, 148, 149, 150, 151, 152, 153, 154, 155, 156, 157, 158, 159, 160, 161, 162, 163, 164, 165, 166] (fun w' => (PS C w.heap.size w w' (.pointer (some ⟨g, 0, none⟩)) L' s gp (.slice pa' m' pc') L' (gp + 1) r' q' (vs ++ [Value.slice aa m' ca]) (us ++ [u]) (lk ++ [L']) (fun _ => False)) ∧ (OwN w7.heap.size w' (.slice aa m' ca) L') ∧ (w'.heap[gn]? = some (.cells #[.int .i64 0, .float .f64 0, .int .i64 0, .int .i64 0] 43 (0, 0))) ∧ (Below w11.heap.size w11 w')) (Said [Is (.pointer (some ⟨g, 0, none⟩)), Is (.int .i64 (m' : Int)), Is (.pointer (some ⟨gp, 0, none⟩)), Is (.pointer (some ⟨gp, 0, none⟩)), Is (.pointer (some ⟨gp, 0, none⟩)), Is (.slice pa' m' pc'), Is (.int .i64 (m' : Int)), Is (.bool false), Is (.bool false), Is (.slice aa m' ca), Is (.pointer (some ⟨gp, 0, none⟩)), Is (.pointer (some ⟨gp, 0, none⟩)), Is (.pointer (some ⟨gp, 0, none⟩)), Is (.slice pa' m' pc'), Is (.bool true), Is (.bool false), Is (.bool false), Is (.bool false), Is (.bool false), Is (.bool false), Is (.bool false), Is (.bool false), Is (.bool false), Is (.bool false), Is (.bool false), Is undef, Is undef, Is undef, Is undef, Is undef, Is undef, Is undef, Is undef, Is undef, Is undef, Is (.bool false), Is (.bool false), Is (.bool false), Is (.bool false), Is (.bool true), Is (.bool true), Is (.agg #[.int .i64 0, .float .f64 0, .int .i64 0, .int .i64 0]), Is (.agg #[.int .i64 0, .float .f64 0, .int .i64 0, .int .i64 0]), Is (.bool true), Is (.bool false), Is (.bool false), Is (.bool false)]) (by kernel_rfl) (by kernel_rfl) (by kernel_rfl) (by kernel_rfl) (Said.keep ?keep1) ⟨HP11.out.under (bdn (Below.refl _ _) 1), HO11.out.below (bdn (Below.refl _ _) 1), slot_kept HNN.out (bdn (Below.refl _ _) 1), bdn (Below.refl _ _) 1⟩ (l := [0, 1, 2, 3, 4, 5, 6, 7, 8, 9, 10, 11, 12, 13, 14, 15, 16, 17, 18, 19, 20, 21, 22, 23, 24, 25, 26, 27, 28, 29, 30, 31, 32, 33, 34, 35, 36, 37, 38, 39, 40, 41, 42, 43, 44, 45, 46]) (by kernel_rfl) ?step1 ?fin1
                case keep1 =>
                  refine List.forall_mem_cons.2 ⟨Is.keeps _, ?_⟩
                  refine List.forall_mem_cons.2 ⟨Is.keeps _, ?_⟩
                  refine List.forall_mem_cons.2 ⟨Is.keeps _, ?_⟩
                  refine List.forall_mem_cons.2 ⟨Is.keeps _, ?_⟩
                  refine List.forall_mem_cons.2 ⟨Is.keeps _, ?_⟩
                  refine List.forall_mem_cons.2 ⟨Is.keeps _, ?_⟩
                  refine List.forall_mem_cons.2 ⟨Is.keeps _, ?_⟩
                  refine List.forall_mem_cons.2 ⟨Is.keeps _, ?_⟩
                  refine List.forall_mem_cons.2 ⟨Is.keeps _, ?_⟩
                  refine List.forall_mem_cons.2 ⟨Is.keeps _, ?_⟩
                  refine List.forall_mem_cons.2 ⟨Is.keeps _, ?_⟩
                  refine List.forall_mem_cons.2 ⟨Is.keeps _, ?_⟩
                  refine List.forall_mem_cons.2 ⟨Is.keeps _, ?_⟩
                  refine List.forall_mem_cons.2 ⟨Is.keeps _, ?_⟩
                  refine List.forall_mem_cons.2 ⟨Is.keeps _, ?_⟩
                  refine List.forall_mem_cons.2 ⟨Is.keeps _, ?_⟩
                  refine List.forall_mem_cons.2 ⟨Is.keeps _, ?_⟩
                  refine List.forall_mem_cons.2 ⟨Is.keeps _, ?_⟩
                  refine List.forall_mem_cons.2 ⟨Is.keeps _, ?_⟩
                  refine List.forall_mem_cons.2 ⟨Is.keeps _, ?_⟩
                  refine List.forall_mem_cons.2 ⟨Is.keeps _, ?_⟩
                  refine List.forall_mem_cons.2 ⟨Is.keeps _, ?_⟩
                  refine List.forall_mem_cons.2 ⟨Is.keeps _, ?_⟩
                  refine List.forall_mem_cons.2 ⟨Is.keeps _, ?_⟩
                  refine List.forall_mem_cons.2 ⟨Is.keeps _, ?_⟩
                  refine List.forall_mem_cons.2 ⟨Is.keeps _, ?_⟩
                  refine List.forall_mem_cons.2 ⟨Is.keeps _, ?_⟩
                  refine List.forall_mem_cons.2 ⟨Is.keeps _, ?_⟩
                  refine List.forall_mem_cons.2 ⟨Is.keeps _, ?_⟩
                  refine List.forall_mem_cons.2 ⟨Is.keeps _, ?_⟩
                  refine List.forall_mem_cons.2 ⟨Is.keeps _, ?_⟩
                  refine List.forall_mem_cons.2 ⟨Is.keeps _, ?_⟩
                  refine List.forall_mem_cons.2 ⟨Is.keeps _, ?_⟩
                  refine List.forall_mem_cons.2 ⟨Is.keeps _, ?_⟩
                  refine List.forall_mem_cons.2 ⟨Is.keeps _, ?_⟩
                  refine List.forall_mem_cons.2 ⟨Is.keeps _, ?_⟩
                  refine List.forall_mem_cons.2 ⟨Is.keeps _, ?_⟩
                  refine List.forall_mem_cons.2 ⟨Is.keeps _, ?_⟩
                  refine List.forall_mem_cons.2 ⟨Is.keeps _, ?_⟩
                  refine List.forall_mem_cons.2 ⟨Is.keeps _, ?_⟩
                  refine List.forall_mem_cons.2 ⟨Is.keeps _, ?_⟩
                  refine List.forall_mem_cons.2 ⟨Is.keeps _, ?_⟩
                  refine List.forall_mem_cons.2 ⟨Is.keeps _, ?_⟩
                  refine List.forall_mem_cons.2 ⟨Is.keeps _, ?_⟩
                  refine List.forall_mem_cons.2 ⟨Is.keeps _, ?_⟩
                  refine List.forall_mem_cons.2 ⟨Is.keeps _, ?_⟩
                  refine List.forall_mem_cons.2 ⟨Is.keeps _, ?_⟩
                  exact fun _ h => nomatch h
                case step1 =>
                  refine List.forall_mem_cons.2 ⟨?_, ?_⟩
                  · refine SlotStep.plain rfl rfl rfl ?_
                    intro tm ws hsame hS hg K hK
                    have e7 : tm[7]? = some (.pointer (some ⟨g, 0, none⟩)) := hsame.2 7 rfl
                    go_simp
                    exact hK _ _ (Below.refl _ _) hS rfl
                  refine List.forall_mem_cons.2 ⟨?_, ?_⟩
                  · refine SlotStep.plain rfl rfl rfl ?_
                    intro tm ws hsame hS hg K hK
                    obtain ⟨v120, e120, rfl⟩ := hg 0 (by kernel_rfl) _ 120 rfl rfl
                    go_simp
                    refine ((hS.1).len).mono ?_
                    rintro e wm ⟨rfl, hb⟩
                    rw [HM.out]
                    exact hK _ _ hb (⟨(hS.1).under (hb), (hS.2.1).below (hb), slot_kept (hS.2.2.1) (hb), (hS.2.2.2).trans (Below.mono (hb) (hS.2.2.2).size)⟩) rfl
                  refine List.forall_mem_cons.2 ⟨?_, ?_⟩
                  · refine SlotStep.plain rfl rfl rfl ?_
                    intro tm ws hsame hS hg K hK
                    have e8 : tm[8]? = some (.pointer (some ⟨gp, 0, none⟩)) := hsame.2 8 rfl
                    go_simp
                    exact hK _ _ (Below.refl _ _) hS rfl
                  refine List.forall_mem_cons.2 ⟨?_, ?_⟩
                  · refine SlotStep.plain rfl rfl rfl ?_
                    intro tm ws hsame hS hg K hK
                    obtain ⟨v122, e122, rfl⟩ := hg 2 (by kernel_rfl) _ 122 rfl rfl
                    go_simp
                    exact hK _ _ (Below.refl _ _) hS rfl
                  refine List.forall_mem_cons.2 ⟨?_, ?_⟩
                  · refine SlotStep.plain rfl rfl rfl ?_
                    intro tm ws hsame hS hg K hK
                    obtain ⟨v123, e123, rfl⟩ := hg 3 (by kernel_rfl) _ 123 rfl rfl
                    go_simp
                    exact hK _ _ (Below.refl _ _) hS rfl
                  refine List.forall_mem_cons.2 ⟨?_, ?_⟩
                  · refine SlotStep.plain rfl rfl rfl ?_
                    intro tm ws hsame hS hg K hK
                    obtain ⟨v124, e124, rfl⟩ := hg 4 (by kernel_rfl) _ 124 rfl rfl
                    have k0 := cell_of_row ws gp 0 _ _ _ (hS.1).plain.1
                    go_simp
                    exact hK _ _ (Below.refl _ _) hS rfl
                  refine List.forall_mem_cons.2 ⟨?_, ?_⟩
                  · refine SlotStep.plain rfl rfl rfl ?_
                    intro tm ws hsame hS hg K hK
                    obtain ⟨v125, e125, rfl⟩ := hg 5 (by kernel_rfl) _ 125 rfl rfl
                    go_simp
                    exact hK _ _ (Below.refl _ _) hS rfl
                  refine List.forall_mem_cons.2 ⟨?_, ?_⟩
                  · refine SlotStep.plain rfl rfl rfl ?_
                    intro tm ws hsame hS hg K hK
                    obtain ⟨v121, e121, rfl⟩ := hg 1 (by kernel_rfl) _ 121 rfl rfl
                    obtain ⟨v126, e126, rfl⟩ := hg 6 (by kernel_rfl) _ 126 rfl rfl
                    go_simp
                    exact hK _ _ (Below.refl _ _) hS rfl
                  refine List.forall_mem_cons.2 ⟨?_, ?_⟩
                  · refine SlotStep.plain rfl rfl rfl ?_
                    intro tm ws hsame hS hg K hK
                    obtain ⟨v127, e127, rfl⟩ := hg 7 (by kernel_rfl) _ 127 rfl rfl
                    go_simp
                    exact hK _ _ (Below.refl _ _) hS rfl
                  refine List.forall_mem_cons.2 ⟨?_, ?_⟩
                  · refine SlotStep.guardedNot rfl rfl 8 rfl rfl (by kernel_rfl) (fun _ _ h => h) ?_
                    intro tm ws hsame hS hg K hK
                    have e17 : tm[17]? = some ((.slice aa m' ca)) := hsame.2 17 rfl
                    go_simp
                    exact hK _ _ (Below.refl _ _) hS rfl
                  refine List.forall_mem_cons.2 ⟨?_, ?_⟩
                  · refine SlotStep.guardedNot rfl rfl 8 rfl rfl (by kernel_rfl) (fun _ _ h => h) ?_
                    intro tm ws hsame hS hg K hK
                    have e8 : tm[8]? = some (.pointer (some ⟨gp, 0, none⟩)) := hsame.2 8 rfl
                    go_simp
                    exact hK _ _ (Below.refl _ _) hS rfl
                  refine List.forall_mem_cons.2 ⟨?_, ?_⟩
                  · refine SlotStep.guardedNot rfl rfl 8 rfl rfl (by kernel_rfl) (fun _ _ h => h) ?_
                    intro tm ws hsame hS hg K hK
                    obtain ⟨v130, e130, rfl⟩ := hg 10 (by kernel_rfl) _ 130 rfl rfl
                    go_simp
                    exact hK _ _ (Below.refl _ _) hS rfl
                  refine List.forall_mem_cons.2 ⟨?_, ?_⟩
                  · refine SlotStep.guardedNot rfl rfl 8 rfl rfl (by kernel_rfl) (fun _ _ h => h) ?_
                    intro tm ws hsame hS hg K hK
                    obtain ⟨v131, e131, rfl⟩ := hg 11 (by kernel_rfl) _ 131 rfl rfl
                    go_simp
                    exact hK _ _ (Below.refl _ _) hS rfl
                  refine List.forall_mem_cons.2 ⟨?_, ?_⟩
                  · refine SlotStep.guardedNot rfl rfl 8 rfl rfl (by kernel_rfl) (fun _ _ h => h) ?_
                    intro tm ws hsame hS hg K hK
                    obtain ⟨v132, e132, rfl⟩ := hg 12 (by kernel_rfl) _ 132 rfl rfl
                    have k0 := cell_of_row ws gp 0 _ _ _ (hS.1).plain.1
                    go_simp
                    exact hK _ _ (Below.refl _ _) hS rfl
                  refine List.forall_mem_cons.2 ⟨?_, ?_⟩
                  · refine SlotStep.guardedNot rfl rfl 8 rfl rfl (by kernel_rfl) (fun _ _ h => h) ?_
                    intro tm ws hsame hS hg K hK
                    obtain ⟨v129, e129, rfl⟩ := hg 9 (by kernel_rfl) _ 129 rfl rfl
                    obtain ⟨v133, e133, rfl⟩ := hg 13 (by kernel_rfl) _ 133 rfl rfl
                    obtain ⟨a9, c9, e9, -, -, r9, -⟩ := (hS.1).plain.2.1.form
                    simp only [Value.slice.injEq] at e9
                    obtain ⟨rfl, -, rfl⟩ := e9
                    obtain ⟨a8, c8, e8, -, -, r8, -⟩ := (hS.2.1).form
                    simp only [Value.slice.injEq] at e8
                    obtain ⟨rfl, -, rfl⟩ := e8
                    go_simp
                    refine (samen_yes HM.out.symm HM.out.symm r8 r9 (by have := HM.out; omega)).mono ?_
                    rintro e wm ⟨rfl, hb⟩
                    exact hK _ _ hb (⟨(hS.1).under (hb), (hS.2.1).below (hb), slot_kept (hS.2.2.1) (hb), (hS.2.2.2).trans (Below.mono (hb) (hS.2.2.2).size)⟩) rfl
                  refine List.forall_mem_cons.2 ⟨?_, ?_⟩
                  · refine SlotStep.guardedNot rfl rfl 8 rfl rfl (by kernel_rfl) (fun _ _ h => h) ?_
                    intro tm ws hsame hS hg K hK
                    obtain ⟨v134, e134, rfl⟩ := hg 14 (by kernel_rfl) _ 134 rfl rfl
                    go_simp
                    exact hK _ _ (Below.refl _ _) hS rfl
                  refine List.forall_mem_cons.2 ⟨?_, ?_⟩
                  · refine SlotStep.plain rfl rfl rfl ?_
                    intro tm ws hsame hS hg K hK
                    obtain ⟨v128, e128, rfl⟩ := hg 8 (by kernel_rfl) _ 128 rfl rfl
                    obtain ⟨v135, e135, rfl⟩ := hg 15 (by kernel_rfl) _ 135 rfl rfl
                    go_simp
                    exact hK _ _ (Below.refl _ _) hS rfl
                  refine List.forall_mem_cons.2 ⟨?_, ?_⟩
                  · refine SlotStep.plain rfl rfl rfl ?_
                    intro tm ws hsame hS hg K hK
                    obtain ⟨v136, e136, rfl⟩ := hg 16 (by kernel_rfl) _ 136 rfl rfl
                    go_simp
                    exact hK _ _ (Below.refl _ _) hS rfl
                  refine List.forall_mem_cons.2 ⟨?_, ?_⟩
                  · refine SlotStep.guardedNot rfl rfl 17 rfl rfl (by kernel_rfl) (fun _ _ h => h) ?_
                    intro tm ws hsame hS hg K hK
                    have e19 : tm[19]? = some (.bool false) := hsame.2 19 rfl
                    go_simp
                    exact hK _ _ (Below.refl _ _) hS rfl
                  refine List.forall_mem_cons.2 ⟨?_, ?_⟩
                  · refine SlotStep.guardedNot rfl rfl 17 rfl rfl (by kernel_rfl) (fun _ _ h => h) ?_
                    intro tm ws hsame hS hg K hK
                    have e20 : tm[20]? = some (.bool false) := hsame.2 20 rfl
                    go_simp
                    exact hK _ _ (Below.refl _ _) hS rfl
                  refine List.forall_mem_cons.2 ⟨?_, ?_⟩
                  · refine SlotStep.guardedNot rfl rfl 17 rfl rfl (by kernel_rfl) (fun _ _ h => h) ?_
                    intro tm ws hsame hS hg K hK
                    obtain ⟨v138, e138, rfl⟩ := hg 18 (by kernel_rfl) _ 138 rfl rfl
                    obtain ⟨v139, e139, rfl⟩ := hg 19 (by kernel_rfl) _ 139 rfl rfl
                    go_simp
                    exact hK _ _ (Below.refl _ _) hS rfl
                  refine List.forall_mem_cons.2 ⟨?_, ?_⟩
                  · refine SlotStep.plain rfl rfl rfl ?_
                    intro tm ws hsame hS hg K hK
                    obtain ⟨v137, e137, rfl⟩ := hg 17 (by kernel_rfl) _ 137 rfl rfl
                    obtain ⟨v140, e140, rfl⟩ := hg 20 (by kernel_rfl) _ 140 rfl rfl
                    go_simp
                    exact hK _ _ (Below.refl _ _) hS rfl
                  refine List.forall_mem_cons.2 ⟨?_, ?_⟩
                  · refine SlotStep.plain rfl rfl rfl ?_
                    intro tm ws hsame hS hg K hK
                    obtain ⟨v141, e141, rfl⟩ := hg 21 (by kernel_rfl) _ 141 rfl rfl
                    go_simp
                    exact hK _ _ (Below.refl _ _) hS rfl
                  refine List.forall_mem_cons.2 ⟨?_, ?_⟩
                  · refine SlotStep.guardedNot rfl rfl 22 rfl rfl (by kernel_rfl) (fun _ _ h => h) ?_
                    intro tm ws hsame hS hg K hK
                    have e20 : tm[20]? = some (.bool false) := hsame.2 20 rfl
                    go_simp
                    exact hK _ _ (Below.refl _ _) hS rfl
                  refine List.forall_mem_cons.2 ⟨?_, ?_⟩
                  · refine SlotStep.guardedNot rfl rfl 22 rfl rfl (by kernel_rfl) (fun _ _ h => h) ?_
                    intro tm ws hsame hS hg K hK
                    obtain ⟨v143, e143, rfl⟩ := hg 23 (by kernel_rfl) _ 143 rfl rfl
                    go_simp
                    exact hK _ _ (Below.refl _ _) hS rfl
                  refine List.forall_mem_cons.2 ⟨?_, ?_⟩
                  · exact SlotStep.skip rfl rfl 24 true rfl rfl (by kernel_rfl) (fun _ _ h => h) (fun _ => rfl)
                  refine List.forall_mem_cons.2 ⟨?_, ?_⟩
                  · exact SlotStep.skip rfl rfl 24 true rfl rfl (by kernel_rfl) (fun _ _ h => h) (fun _ => rfl)
                  refine List.forall_mem_cons.2 ⟨?_, ?_⟩
                  · exact SlotStep.skip rfl rfl 24 true rfl rfl (by kernel_rfl) (fun _ _ h => h) (fun _ => rfl)
                  refine List.forall_mem_cons.2 ⟨?_, ?_⟩
                  · exact SlotStep.skip rfl rfl 24 true rfl rfl (by kernel_rfl) (fun _ _ h => h) (fun _ => rfl)
                  refine List.forall_mem_cons.2 ⟨?_, ?_⟩
                  · exact SlotStep.skip rfl rfl 24 true rfl rfl (by kernel_rfl) (fun _ _ h => h) (fun _ => rfl)
                  refine List.forall_mem_cons.2 ⟨?_, ?_⟩
                  · exact SlotStep.skip rfl rfl 24 true rfl rfl (by kernel_rfl) (fun _ _ h => h) (fun _ => rfl)
                  refine List.forall_mem_cons.2 ⟨?_, ?_⟩
                  · exact SlotStep.skip rfl rfl 24 true rfl rfl (by kernel_rfl) (fun _ _ h => h) (fun _ => rfl)
                  refine List.forall_mem_cons.2 ⟨?_, ?_⟩
                  · exact SlotStep.skip rfl rfl 24 true rfl rfl (by kernel_rfl) (fun _ _ h => h) (fun _ => rfl)
                  refine List.forall_mem_cons.2 ⟨?_, ?_⟩
                  · exact SlotStep.skip rfl rfl 24 true rfl rfl (by kernel_rfl) (fun _ _ h => h) (fun _ => rfl)
                  refine List.forall_mem_cons.2 ⟨?_, ?_⟩
                  · exact SlotStep.skip rfl rfl 24 true rfl rfl (by kernel_rfl) (fun _ _ h => h) (fun _ => rfl)
                  refine List.forall_mem_cons.2 ⟨?_, ?_⟩
                  · refine SlotStep.guardedNot rfl rfl 22 rfl rfl (by kernel_rfl) (fun _ _ h => h) ?_
                    intro tm ws hsame hS hg K hK
                    obtain ⟨v144, e144, rfl⟩ := hg 24 (by kernel_rfl) _ 144 rfl rfl
                    obtain ⟨v154, e154, rfl⟩ := hg 34 (by kernel_rfl) _ 154 rfl rfl
                    go_simp
                    exact hK _ _ (Below.refl _ _) hS rfl
                  refine List.forall_mem_cons.2 ⟨?_, ?_⟩
                  · refine SlotStep.plain rfl rfl rfl ?_
                    intro tm ws hsame hS hg K hK
                    obtain ⟨v142, e142, rfl⟩ := hg 22 (by kernel_rfl) _ 142 rfl rfl
                    obtain ⟨v155, e155, rfl⟩ := hg 35 (by kernel_rfl) _ 155 rfl rfl
                    go_simp
                    exact hK _ _ (Below.refl _ _) hS rfl
                  refine List.forall_mem_cons.2 ⟨?_, ?_⟩
                  · refine SlotStep.plain rfl rfl rfl ?_
                    intro tm ws hsame hS hg K hK
                    obtain ⟨v156, e156, rfl⟩ := hg 36 (by kernel_rfl) _ 156 rfl rfl
                    go_simp
                    exact hK _ _ (Below.refl _ _) hS rfl
                  refine List.forall_mem_cons.2 ⟨?_, ?_⟩
                  · refine SlotStep.guardedNot rfl rfl 37 rfl rfl (by kernel_rfl) (fun _ _ h => h) ?_
                    intro tm ws hsame hS hg K hK
                    have e20 : tm[20]? = some (.bool false) := hsame.2 20 rfl
                    go_simp
                    exact hK _ _ (Below.refl _ _) hS rfl
                  refine List.forall_mem_cons.2 ⟨?_, ?_⟩
                  · refine SlotStep.guardedNot rfl rfl 37 rfl rfl (by kernel_rfl) (fun _ _ h => h) ?_
                    intro tm ws hsame hS hg K hK
                    obtain ⟨v158, e158, rfl⟩ := hg 38 (by kernel_rfl) _ 158 rfl rfl
                    go_simp
                    exact hK _ _ (Below.refl _ _) hS rfl
                  refine List.forall_mem_cons.2 ⟨?_, ?_⟩
                  · refine SlotStep.guardedNot rfl rfl 37 rfl rfl (by kernel_rfl) (fun _ _ h => h) ?_
                    intro tm ws hsame hS hg K hK
                    obtain ⟨v159, e159, rfl⟩ := hg 39 (by kernel_rfl) _ 159 rfl rfl
                    go_simp
                    exact hK _ _ (Below.refl _ _) hS rfl
                  refine List.forall_mem_cons.2 ⟨?_, ?_⟩
                  · refine SlotStep.guarded rfl rfl 40 rfl rfl (by kernel_rfl) (fun _ _ h => h) ?_
                    intro tm ws hsame hS hg K hK
                    have e18 : tm[18]? = some (.pointer (some ⟨gn, 0, none⟩)) := hsame.2 18 rfl
                    obtain ⟨k0, k1, k2, k3⟩ := slot4 (hS.2.2.1)
                    go_simp
                    exact hK _ _ (Below.refl _ _) hS rfl
                  refine List.forall_mem_cons.2 ⟨?_, ?_⟩
                  · refine SlotStep.guarded rfl rfl 40 rfl rfl (by kernel_rfl) (fun _ _ h => h) ?_
                    intro tm ws hsame hS hg K hK
                    go_simp
                    exact hK _ _ (Below.refl _ _) hS rfl
                  refine List.forall_mem_cons.2 ⟨?_, ?_⟩
                  · refine SlotStep.guarded rfl rfl 40 rfl rfl (by kernel_rfl) (fun _ _ h => h) ?_
                    intro tm ws hsame hS hg K hK
                    obtain ⟨v161, e161, rfl⟩ := hg 41 (by kernel_rfl) _ 161 rfl rfl
                    obtain ⟨v162, e162, rfl⟩ := hg 42 (by kernel_rfl) _ 162 rfl rfl
                    go_simp
                    refine (HSE.out ws).mono ?_
                    rintro e wm ⟨rfl, hb⟩
                    exact hK _ _ hb (⟨(hS.1).under (hb), (hS.2.1).below (hb), slot_kept (hS.2.2.1) (hb), (hS.2.2.2).trans (Below.mono (hb) (hS.2.2.2).size)⟩) rfl
                  refine List.forall_mem_cons.2 ⟨?_, ?_⟩
                  · refine SlotStep.guarded rfl rfl 40 rfl rfl (by kernel_rfl) (fun _ _ h => h) ?_
                    intro tm ws hsame hS hg K hK
                    obtain ⟨v163, e163, rfl⟩ := hg 43 (by kernel_rfl) _ 163 rfl rfl
                    go_simp
                    exact hK _ _ (Below.refl _ _) hS rfl
                  refine List.forall_mem_cons.2 ⟨?_, ?_⟩
                  · refine SlotStep.guardedNot rfl rfl 37 rfl rfl (by kernel_rfl) (fun _ _ h => h) ?_
                    intro tm ws hsame hS hg K hK
                    obtain ⟨v160, e160, rfl⟩ := hg 40 (by kernel_rfl) _ 160 rfl rfl
                    obtain ⟨v164, e164, rfl⟩ := hg 44 (by kernel_rfl) _ 164 rfl rfl
                    go_simp
                    exact hK _ _ (Below.refl _ _) hS rfl
                  refine List.forall_mem_cons.2 ⟨?_, ?_⟩
                  · refine SlotStep.plain rfl rfl rfl ?_
                    intro tm ws hsame hS hg K hK
                    obtain ⟨v157, e157, rfl⟩ := hg 37 (by kernel_rfl) _ 157 rfl rfl
                    obtain ⟨v165, e165, rfl⟩ := hg 45 (by kernel_rfl) _ 165 rfl rfl
                    go_simp
                    exact hK _ _ (Below.refl _ _) hS rfl
                  exact fun _ h => nomatch h
                case fin1 =>
                  intro tm w12 hsame hS hgot
                  obtain ⟨u', hu, htm⟩ := hsame.form (by kernel_rfl)
                  obtain ⟨vS, eS, rfl⟩ := hgot 46 _ 166 rfl rfl
                  have hS1 := hu _ _ eS
                  have HPN := Lib.hid (hS.1)
                  clear hgot hu hsame eS hS
                  rw [htm]
                  clear htm tm
                  simp only [List.foldl_cons, List.foldl_nil, List.setIfInBounds_toArray, List.set_cons_zero, List.set_cons_succ, hS1]
                  clear hS1
                  go_wp2_with fail
                  go_roundw
                  case rel => exact ⟨k + 1, L', _, m', pc', r', q', _, _, _, by omega, by go_num, HM.out, by omega, by rw [List.length_append, HV.out]; rfl, HPN⟩
                  case measure => simp [intOf]; omega
              | true =>
                obtain ⟨h1, h3⟩ := of_decide_eq_true HBI.out
                obtain ⟨j, rfl⟩ := Int.eq_ofNat_of_zero_le h1
                have hjm : j < m' := by omega
                have hxj : L'[j]? = some (n0, n1, n2, n3) := by
                  have h4 := HND.out
                  unfold nodeAt at h4
                  rw [if_pos h1, Int.toNat_natCast, List.getElem?_eq_getElem (by have := HM.out; omega)] at h4
                  rw [List.getElem?_eq_getElem (by have := HM.out; omega), ← h4]
                  rfl
                have HSE := Lib.hid (same_nd (n0, n1, n2, n3) (n0, n1, n2, n3))
                rw [decide_eq_true rfl] at HSE
                obtain ⟨pb, po, rfl⟩ : ∃ pb po, pa' = some ⟨pb, po, none⟩ := by
                  obtain ⟨a9, c9, e9, -, -, r9, -⟩ := HP11.out.plain.2.1.form
                  simp only [Value.slice.injEq] at e9
                  obtain ⟨rfl, -, rfl⟩ := e9
                  obtain ⟨pb, po, h5, -⟩ := r9.some (by intro e; rw [e] at hxj; simp at hxj)
                  exact ⟨pb, po, h5⟩
                go_upto_region 24 with fail
                refine wp_region_slots (by kernel_rfl) [120, 121, 122, 123, 124, 125, 126, 127, 128, 129, 130, 131, 132, 133, 134, 135, 136, 137, 138, 139, 140, 141, 142, 143, 144, 145, 146, 147, 148, 149, 150, 151, 152, 153, 154, 155, 156, 157, 158, 159, 160, 161, 162, 163, 164, 165, 166] (fun w' => (PS C w.heap.size w w' (.pointer (some ⟨g, 0, none⟩)) L' s gp (.slice (some ⟨pb, po, none⟩) m' pc') L' (gp + 1) r' q' (vs ++ [Value.slice aa m' ca]) (us ++ [u]) (lk ++ [L']) (fun _ => False)) ∧ (OwN w7.heap.size w' (.slice aa m' ca) L') ∧ (w'.heap[gn]? = some (.cells #[.int .i64 n0, .float .f64 n1, .int .i64 n2, .int .i64 n3] 43 (0, 0))) ∧ (Below w11.heap.size w11 w')) (Said [Is (.pointer (some ⟨g, 0, none⟩)), Is (.int .i64 (m' : Int)), Is (.pointer (some ⟨gp, 0, none⟩)), Is (.pointer (some ⟨gp, 0, none⟩)), Is (.pointer (some ⟨gp, 0, none⟩)), Is (.slice (some ⟨pb, po, none⟩) m' pc'), Is (.int .i64 (m' : Int)), Is (.bool false), Is (.bool false), Is (.slice aa m' ca), Is (.pointer (some ⟨gp, 0, none⟩)), Is (.pointer (some ⟨gp, 0, none⟩)), Is (.pointer (some ⟨gp, 0, none⟩)), Is (.slice (some ⟨pb, po, none⟩) m' pc'), Is (.bool true), Is (.bool false), Is (.bool false), Is (.bool false), Is (.bool true), Is (.bool true), Is (.bool false), Is (.bool false), Is (.bool false), Is (.bool true), Is (.bool true), Is (.agg #[.int .i64 n0, .float .f64 n1, .int .i64 n2, .int .i64 n3]), Is (.pointer (some ⟨gp, 0, none⟩)), Is (.pointer (some ⟨gp, 0, none⟩)), Is (.pointer (some ⟨gp, 0, none⟩)), Is (.slice (some ⟨pb, po, none⟩) m' pc'), Is (.int .i64 (j : Int)), Is (.pointer (some ⟨pb, po + j * 4, none⟩)), Is (.agg #[.int .i64 n0, .float .f64 n1, .int .i64 n2, .int .i64 n3]), Is (.bool true), Is (.bool false), Is (.bool false), Is (.bool false), Is (.bool false), Is (.bool true), Is (.bool false), Is (.bool false), Is undef, Is undef, Is undef, Is undef, Is (.bool false), Is (.bool false)]) (by kernel_rfl) (by kernel_rfl) (by kernel_rfl) (by kernel_rfl) (Said.keep ?keep2) ⟨HP11.out.under (bdn (Below.refl _ _) 1), HO11.out.below (bdn (Below.refl _ _) 1), slot_kept HNN.out (bdn (Below.refl _ _) 1), bdn (Below.refl _ _) 1⟩ (l := [0, 1, 2, 3, 4, 5, 6, 7, 8, 9, 10, 11, 12, 13, 14, 15, 16, 17, 18, 19, 20, 21, 22, 23, 24, 25, 26, 27, 28, 29, 30, 31, 32, 33, 34, 35, 36, 37, 38, 39, 40, 41, 42, 43, 44, 45, 46]) (by kernel_rfl) ?step2 ?fin2
                case keep2 =>
                  refine List.forall_mem_cons.2 ⟨Is.keeps _, ?_⟩
                  refine List.forall_mem_cons.2 ⟨Is.keeps _, ?_⟩
                  refine List.forall_mem_cons.2 ⟨Is.keeps _, ?_⟩
                  refine List.forall_mem_cons.2 ⟨Is.keeps _, ?_⟩
                  refine List.forall_mem_cons.2 ⟨Is.keeps _, ?_⟩
                  refine List.forall_mem_cons.2 ⟨Is.keeps _, ?_⟩
                  refine List.forall_mem_cons.2 ⟨Is.keeps _, ?_⟩
                  refine List.forall_mem_cons.2 ⟨Is.keeps _, ?_⟩
                  refine List.forall_mem_cons.2 ⟨Is.keeps _, ?_⟩
                  refine List.forall_mem_cons.2 ⟨Is.keeps _, ?_⟩
                  refine List.forall_mem_cons.2 ⟨Is.keeps _, ?_⟩
                  refine List.forall_mem_cons.2 ⟨Is.keeps _, ?_⟩
                  refine List.forall_mem_cons.2 ⟨Is.keeps _, ?_⟩
                  refine List.forall_mem_cons.2 ⟨Is.keeps _, ?_⟩
                  refine List.forall_mem_cons.2 ⟨Is.keeps _, ?_⟩
                  refine List.forall_mem_cons.2 ⟨Is.keeps _, ?_⟩
                  refine List.forall_mem_cons.2 ⟨Is.keeps _, ?_⟩
                  refine List.forall_mem_cons.2 ⟨Is.keeps _, ?_⟩
                  refine List.forall_mem_cons.2 ⟨Is.keeps _, ?_⟩
                  refine List.forall_mem_cons.2 ⟨Is.keeps _, ?_⟩
                  refine List.forall_mem_cons.2 ⟨Is.keeps _, ?_⟩
                  refine List.forall_mem_cons.2 ⟨Is.keeps _, ?_⟩
                  refine List.forall_mem_cons.2 ⟨Is.keeps _, ?_⟩
                  refine List.forall_mem_cons.2 ⟨Is.keeps _, ?_⟩
                  refine List.forall_mem_cons.2 ⟨Is.keeps _, ?_⟩
                  refine List.forall_mem_cons.2 ⟨Is.keeps _, ?_⟩
                  refine List.forall_mem_cons.2 ⟨Is.keeps _, ?_⟩
                  refine List.forall_mem_cons.2 ⟨Is.keeps _, ?_⟩
                  refine List.forall_mem_cons.2 ⟨Is.keeps _, ?_⟩
                  refine List.forall_mem_cons.2 ⟨Is.keeps _, ?_⟩
                  refine List.forall_mem_cons.2 ⟨Is.keeps _, ?_⟩
                  refine List.forall_mem_cons.2 ⟨Is.keeps _, ?_⟩
                  refine List.forall_mem_cons.2 ⟨Is.keeps _, ?_⟩
                  refine List.forall_mem_cons.2 ⟨Is.keeps _, ?_⟩
                  refine List.forall_mem_cons.2 ⟨Is.keeps _, ?_⟩
                  refine List.forall_mem_cons.2 ⟨Is.keeps _, ?_⟩
                  refine List.forall_mem_cons.2 ⟨Is.keeps _, ?_⟩
                  refine List.forall_mem_cons.2 ⟨Is.keeps _, ?_⟩
                  refine List.forall_mem_cons.2 ⟨Is.keeps _, ?_⟩
                  refine List.forall_mem_cons.2 ⟨Is.keeps _, ?_⟩
                  refine List.forall_mem_cons.2 ⟨Is.keeps _, ?_⟩
                  refine List.forall_mem_cons.2 ⟨Is.keeps _, ?_⟩
                  refine List.forall_mem_cons.2 ⟨Is.keeps _, ?_⟩
                  refine List.forall_mem_cons.2 ⟨Is.keeps _, ?_⟩
                  refine List.forall_mem_cons.2 ⟨Is.keeps _, ?_⟩
                  refine List.forall_mem_cons.2 ⟨Is.keeps _, ?_⟩
                  refine List.forall_mem_cons.2 ⟨Is.keeps _, ?_⟩
                  exact fun _ h => nomatch h
                case step2 =>
                  refine List.forall_mem_cons.2 ⟨?_, ?_⟩
                  · refine SlotStep.plain rfl rfl rfl ?_
                    intro tm ws hsame hS hg K hK
                    have e7 : tm[7]? = some (.pointer (some ⟨g, 0, none⟩)) := hsame.2 7 rfl
                    go_simp
                    exact hK _ _ (Below.refl _ _) hS rfl
                  refine List.forall_mem_cons.2 ⟨?_, ?_⟩
                  · refine SlotStep.plain rfl rfl rfl ?_
                    intro tm ws hsame hS hg K hK
                    obtain ⟨v120, e120, rfl⟩ := hg 0 (by kernel_rfl) _ 120 rfl rfl
                    go_simp
                    refine ((hS.1).len).mono ?_
                    rintro e wm ⟨rfl, hb⟩
                    rw [HM.out]
                    exact hK _ _ hb (⟨(hS.1).under (hb), (hS.2.1).below (hb), slot_kept (hS.2.2.1) (hb), (hS.2.2.2).trans (Below.mono (hb) (hS.2.2.2).size)⟩) rfl
                  refine List.forall_mem_cons.2 ⟨?_, ?_⟩
                  · refine SlotStep.plain rfl rfl rfl ?_
                    intro tm ws hsame hS hg K hK
                    have e8 : tm[8]? = some (.pointer (some ⟨gp, 0, none⟩)) := hsame.2 8 rfl
                    go_simp
                    exact hK _ _ (Below.refl _ _) hS rfl
                  refine List.forall_mem_cons.2 ⟨?_, ?_⟩
                  · refine SlotStep.plain rfl rfl rfl ?_
                    intro tm ws hsame hS hg K hK
                    obtain ⟨v122, e122, rfl⟩ := hg 2 (by kernel_rfl) _ 122 rfl rfl
                    go_simp
                    exact hK _ _ (Below.refl _ _) hS rfl
                  refine List.forall_mem_cons.2 ⟨?_, ?_⟩
                  · refine SlotStep.plain rfl rfl rfl ?_
                    intro tm ws hsame hS hg K hK
                    obtain ⟨v123, e123, rfl⟩ := hg 3 (by kernel_rfl) _ 123 rfl rfl
                    go_simp
                    exact hK _ _ (Below.refl _ _) hS rfl
                  refine List.forall_mem_cons.2 ⟨?_, ?_⟩
                  · refine SlotStep.plain rfl rfl rfl ?_
                    intro tm ws hsame hS hg K hK
                    obtain ⟨v124, e124, rfl⟩ := hg 4 (by kernel_rfl) _ 124 rfl rfl
                    have k0 := cell_of_row ws gp 0 _ _ _ (hS.1).plain.1
                    go_simp
                    exact hK _ _ (Below.refl _ _) hS rfl
                  refine List.forall_mem_cons.2 ⟨?_, ?_⟩
                  · refine SlotStep.plain rfl rfl rfl ?_
                    intro tm ws hsame hS hg K hK
                    obtain ⟨v125, e125, rfl⟩ := hg 5 (by kernel_rfl) _ 125 rfl rfl
                    go_simp
                    exact hK _ _ (Below.refl _ _) hS rfl
                  refine List.forall_mem_cons.2 ⟨?_, ?_⟩
                  · refine SlotStep.plain rfl rfl rfl ?_
                    intro tm ws hsame hS hg K hK
                    obtain ⟨v121, e121, rfl⟩ := hg 1 (by kernel_rfl) _ 121 rfl rfl
                    obtain ⟨v126, e126, rfl⟩ := hg 6 (by kernel_rfl) _ 126 rfl rfl
                    go_simp
                    exact hK _ _ (Below.refl _ _) hS rfl
                  refine List.forall_mem_cons.2 ⟨?_, ?_⟩
                  · refine SlotStep.plain rfl rfl rfl ?_
                    intro tm ws hsame hS hg K hK
                    obtain ⟨v127, e127, rfl⟩ := hg 7 (by kernel_rfl) _ 127 rfl rfl
                    go_simp
                    exact hK _ _ (Below.refl _ _) hS rfl
                  refine List.forall_mem_cons.2 ⟨?_, ?_⟩
                  · refine SlotStep.guardedNot rfl rfl 8 rfl rfl (by kernel_rfl) (fun _ _ h => h) ?_
                    intro tm ws hsame hS hg K hK
                    have e17 : tm[17]? = some ((.slice aa m' ca)) := hsame.2 17 rfl
                    go_simp
                    exact hK _ _ (Below.refl _ _) hS rfl
                  refine List.forall_mem_cons.2 ⟨?_, ?_⟩
                  · refine SlotStep.guardedNot rfl rfl 8 rfl rfl (by kernel_rfl) (fun _ _ h => h) ?_
                    intro tm ws hsame hS hg K hK
                    have e8 : tm[8]? = some (.pointer (some ⟨gp, 0, none⟩)) := hsame.2 8 rfl
                    go_simp
                    exact hK _ _ (Below.refl _ _) hS rfl
                  refine List.forall_mem_cons.2 ⟨?_, ?_⟩
                  · refine SlotStep.guardedNot rfl rfl 8 rfl rfl (by kernel_rfl) (fun _ _ h => h) ?_
                    intro tm ws hsame hS hg K hK
                    obtain ⟨v130, e130, rfl⟩ := hg 10 (by kernel_rfl) _ 130 rfl rfl
                    go_simp
                    exact hK _ _ (Below.refl _ _) hS rfl
                  refine List.forall_mem_cons.2 ⟨?_, ?_⟩
                  · refine SlotStep.guardedNot rfl rfl 8 rfl rfl (by kernel_rfl) (fun _ _ h => h) ?_
                    intro tm ws hsame hS hg K hK
                    obtain ⟨v131, e131, rfl⟩ := hg 11 (by kernel_rfl) _ 131 rfl rfl
                    go_simp
                    exact hK _ _ (Below.refl _ _) hS rfl
                  refine List.forall_mem_cons.2 ⟨?_, ?_⟩
                  · refine SlotStep.guardedNot rfl rfl 8 rfl rfl (by kernel_rfl) (fun _ _ h => h) ?_
                    intro tm ws hsame hS hg K hK
                    obtain ⟨v132, e132, rfl⟩ := hg 12 (by kernel_rfl) _ 132 rfl rfl
                    have k0 := cell_of_row ws gp 0 _ _ _ (hS.1).plain.1
                    go_simp
                    exact hK _ _ (Below.refl _ _) hS rfl
                  refine List.forall_mem_cons.2 ⟨?_, ?_⟩
                  · refine SlotStep.guardedNot rfl rfl 8 rfl rfl (by kernel_rfl) (fun _ _ h => h) ?_
                    intro tm ws hsame hS hg K hK
                    obtain ⟨v129, e129, rfl⟩ := hg 9 (by kernel_rfl) _ 129 rfl rfl
                    obtain ⟨v133, e133, rfl⟩ := hg 13 (by kernel_rfl) _ 133 rfl rfl
                    obtain ⟨a9, c9, e9, -, -, r9, -⟩ := (hS.1).plain.2.1.form
                    simp only [Value.slice.injEq] at e9
                    obtain ⟨rfl, -, rfl⟩ := e9
                    obtain ⟨a8, c8, e8, -, -, r8, -⟩ := (hS.2.1).form
                    simp only [Value.slice.injEq] at e8
                    obtain ⟨rfl, -, rfl⟩ := e8
                    go_simp
                    refine (samen_yes HM.out.symm HM.out.symm r8 r9 (by have := HM.out; omega)).mono ?_
                    rintro e wm ⟨rfl, hb⟩
                    exact hK _ _ hb (⟨(hS.1).under (hb), (hS.2.1).below (hb), slot_kept (hS.2.2.1) (hb), (hS.2.2.2).trans (Below.mono (hb) (hS.2.2.2).size)⟩) rfl
                  refine List.forall_mem_cons.2 ⟨?_, ?_⟩
                  · refine SlotStep.guardedNot rfl rfl 8 rfl rfl (by kernel_rfl) (fun _ _ h => h) ?_
                    intro tm ws hsame hS hg K hK
                    obtain ⟨v134, e134, rfl⟩ := hg 14 (by kernel_rfl) _ 134 rfl rfl
                    go_simp
                    exact hK _ _ (Below.refl _ _) hS rfl
                  refine List.forall_mem_cons.2 ⟨?_, ?_⟩
                  · refine SlotStep.plain rfl rfl rfl ?_
                    intro tm ws hsame hS hg K hK
                    obtain ⟨v128, e128, rfl⟩ := hg 8 (by kernel_rfl) _ 128 rfl rfl
                    obtain ⟨v135, e135, rfl⟩ := hg 15 (by kernel_rfl) _ 135 rfl rfl
                    go_simp
                    exact hK _ _ (Below.refl _ _) hS rfl
                  refine List.forall_mem_cons.2 ⟨?_, ?_⟩
                  · refine SlotStep.plain rfl rfl rfl ?_
                    intro tm ws hsame hS hg K hK
                    obtain ⟨v136, e136, rfl⟩ := hg 16 (by kernel_rfl) _ 136 rfl rfl
                    go_simp
                    exact hK _ _ (Below.refl _ _) hS rfl
                  refine List.forall_mem_cons.2 ⟨?_, ?_⟩
                  · refine SlotStep.guardedNot rfl rfl 17 rfl rfl (by kernel_rfl) (fun _ _ h => h) ?_
                    intro tm ws hsame hS hg K hK
                    have e19 : tm[19]? = some (.bool true) := hsame.2 19 rfl
                    go_simp
                    exact hK _ _ (Below.refl _ _) hS rfl
                  refine List.forall_mem_cons.2 ⟨?_, ?_⟩
                  · refine SlotStep.guardedNot rfl rfl 17 rfl rfl (by kernel_rfl) (fun _ _ h => h) ?_
                    intro tm ws hsame hS hg K hK
                    have e20 : tm[20]? = some (.bool true) := hsame.2 20 rfl
                    go_simp
                    exact hK _ _ (Below.refl _ _) hS rfl
                  refine List.forall_mem_cons.2 ⟨?_, ?_⟩
                  · refine SlotStep.guardedNot rfl rfl 17 rfl rfl (by kernel_rfl) (fun _ _ h => h) ?_
                    intro tm ws hsame hS hg K hK
                    obtain ⟨v138, e138, rfl⟩ := hg 18 (by kernel_rfl) _ 138 rfl rfl
                    obtain ⟨v139, e139, rfl⟩ := hg 19 (by kernel_rfl) _ 139 rfl rfl
                    go_simp
                    exact hK _ _ (Below.refl _ _) hS rfl
                  refine List.forall_mem_cons.2 ⟨?_, ?_⟩
                  · refine SlotStep.plain rfl rfl rfl ?_
                    intro tm ws hsame hS hg K hK
                    obtain ⟨v137, e137, rfl⟩ := hg 17 (by kernel_rfl) _ 137 rfl rfl
                    obtain ⟨v140, e140, rfl⟩ := hg 20 (by kernel_rfl) _ 140 rfl rfl
                    go_simp
                    exact hK _ _ (Below.refl _ _) hS rfl
                  refine List.forall_mem_cons.2 ⟨?_, ?_⟩
                  · refine SlotStep.plain rfl rfl rfl ?_
                    intro tm ws hsame hS hg K hK
                    obtain ⟨v141, e141, rfl⟩ := hg 21 (by kernel_rfl) _ 141 rfl rfl
                    go_simp
                    exact hK _ _ (Below.refl _ _) hS rfl
                  refine List.forall_mem_cons.2 ⟨?_, ?_⟩
                  · refine SlotStep.guardedNot rfl rfl 22 rfl rfl (by kernel_rfl) (fun _ _ h => h) ?_
                    intro tm ws hsame hS hg K hK
                    have e20 : tm[20]? = some (.bool true) := hsame.2 20 rfl
                    go_simp
                    exact hK _ _ (Below.refl _ _) hS rfl
                  refine List.forall_mem_cons.2 ⟨?_, ?_⟩
                  · refine SlotStep.guardedNot rfl rfl 22 rfl rfl (by kernel_rfl) (fun _ _ h => h) ?_
                    intro tm ws hsame hS hg K hK
                    obtain ⟨v143, e143, rfl⟩ := hg 23 (by kernel_rfl) _ 143 rfl rfl
                    go_simp
                    exact hK _ _ (Below.refl _ _) hS rfl
                  refine List.forall_mem_cons.2 ⟨?_, ?_⟩
                  · refine SlotStep.guarded rfl rfl 24 rfl rfl (by kernel_rfl) (fun _ _ h => h) ?_
                    intro tm ws hsame hS hg K hK
                    have e18 : tm[18]? = some (.pointer (some ⟨gn, 0, none⟩)) := hsame.2 18 rfl
                    obtain ⟨k0, k1, k2, k3⟩ := slot4 (hS.2.2.1)
                    go_simp
                    exact hK _ _ (Below.refl _ _) hS rfl
                  refine List.forall_mem_cons.2 ⟨?_, ?_⟩
                  · refine SlotStep.guarded rfl rfl 24 rfl rfl (by kernel_rfl) (fun _ _ h => h) ?_
                    intro tm ws hsame hS hg K hK
                    have e8 : tm[8]? = some (.pointer (some ⟨gp, 0, none⟩)) := hsame.2 8 rfl
                    go_simp
                    exact hK _ _ (Below.refl _ _) hS rfl
                  refine List.forall_mem_cons.2 ⟨?_, ?_⟩
                  · refine SlotStep.guarded rfl rfl 24 rfl rfl (by kernel_rfl) (fun _ _ h => h) ?_
                    intro tm ws hsame hS hg K hK
                    obtain ⟨v146, e146, rfl⟩ := hg 26 (by kernel_rfl) _ 146 rfl rfl
                    go_simp
                    exact hK _ _ (Below.refl _ _) hS rfl
                  refine List.forall_mem_cons.2 ⟨?_, ?_⟩
                  · refine SlotStep.guarded rfl rfl 24 rfl rfl (by kernel_rfl) (fun _ _ h => h) ?_
                    intro tm ws hsame hS hg K hK
                    obtain ⟨v147, e147, rfl⟩ := hg 27 (by kernel_rfl) _ 147 rfl rfl
                    go_simp
                    exact hK _ _ (Below.refl _ _) hS rfl
                  refine List.forall_mem_cons.2 ⟨?_, ?_⟩
                  · refine SlotStep.guarded rfl rfl 24 rfl rfl (by kernel_rfl) (fun _ _ h => h) ?_
                    intro tm ws hsame hS hg K hK
                    obtain ⟨v148, e148, rfl⟩ := hg 28 (by kernel_rfl) _ 148 rfl rfl
                    have k0 := cell_of_row ws gp 0 _ _ _ (hS.1).plain.1
                    go_simp
                    exact hK _ _ (Below.refl _ _) hS rfl
                  refine List.forall_mem_cons.2 ⟨?_, ?_⟩
                  · refine SlotStep.guarded rfl rfl 24 rfl rfl (by kernel_rfl) (fun _ _ h => h) ?_
                    intro tm ws hsame hS hg K hK
                    have e2 : tm[2]? = some (.int .i64 (j : Int)) := hsame.2 2 rfl
                    go_simp
                    exact hK _ _ (Below.refl _ _) hS rfl
                  refine List.forall_mem_cons.2 ⟨?_, ?_⟩
                  · refine SlotStep.guarded rfl rfl 24 rfl rfl (by kernel_rfl) (fun _ _ h => h) ?_
                    intro tm ws hsame hS hg K hK
                    obtain ⟨v149, e149, rfl⟩ := hg 29 (by kernel_rfl) _ 149 rfl rfl
                    obtain ⟨v150, e150, rfl⟩ := hg 30 (by kernel_rfl) _ 150 rfl rfl
                    go_simp
                    exact hK _ _ (Below.refl _ _) hS rfl
                  refine List.forall_mem_cons.2 ⟨?_, ?_⟩
                  · refine SlotStep.guarded rfl rfl 24 rfl rfl (by kernel_rfl) (fun _ _ h => h) ?_
                    intro tm ws hsame hS hg K hK
                    obtain ⟨v151, e151, rfl⟩ := hg 31 (by kernel_rfl) _ 151 rfl rfl
                    obtain ⟨a9, c9, e9, -, -, r9, -⟩ := (hS.1).plain.2.1.form
                    simp only [Value.slice.injEq] at e9
                    obtain ⟨rfl, -, rfl⟩ := e9
                    obtain ⟨k0, k1, k2, k3⟩ := r9.at hxj
                    go_simp
                    exact hK _ _ (Below.refl _ _) hS rfl
                  refine List.forall_mem_cons.2 ⟨?_, ?_⟩
                  · refine SlotStep.guarded rfl rfl 24 rfl rfl (by kernel_rfl) (fun _ _ h => h) ?_
                    intro tm ws hsame hS hg K hK
                    obtain ⟨v145, e145, rfl⟩ := hg 25 (by kernel_rfl) _ 145 rfl rfl
                    obtain ⟨v152, e152, rfl⟩ := hg 32 (by kernel_rfl) _ 152 rfl rfl
                    go_simp
                    refine (HSE.out ws).mono ?_
                    rintro e wm ⟨rfl, hb⟩
                    exact hK _ _ hb (⟨(hS.1).under (hb), (hS.2.1).below (hb), slot_kept (hS.2.2.1) (hb), (hS.2.2.2).trans (Below.mono (hb) (hS.2.2.2).size)⟩) rfl
                  refine List.forall_mem_cons.2 ⟨?_, ?_⟩
                  · refine SlotStep.guarded rfl rfl 24 rfl rfl (by kernel_rfl) (fun _ _ h => h) ?_
                    intro tm ws hsame hS hg K hK
                    obtain ⟨v153, e153, rfl⟩ := hg 33 (by kernel_rfl) _ 153 rfl rfl
                    go_simp
                    exact hK _ _ (Below.refl _ _) hS rfl
                  refine List.forall_mem_cons.2 ⟨?_, ?_⟩
                  · refine SlotStep.guardedNot rfl rfl 22 rfl rfl (by kernel_rfl) (fun _ _ h => h) ?_
                    intro tm ws hsame hS hg K hK
                    obtain ⟨v144, e144, rfl⟩ := hg 24 (by kernel_rfl) _ 144 rfl rfl
                    obtain ⟨v154, e154, rfl⟩ := hg 34 (by kernel_rfl) _ 154 rfl rfl
                    go_simp
                    exact hK _ _ (Below.refl _ _) hS rfl
                  refine List.forall_mem_cons.2 ⟨?_, ?_⟩
                  · refine SlotStep.plain rfl rfl rfl ?_
                    intro tm ws hsame hS hg K hK
                    obtain ⟨v142, e142, rfl⟩ := hg 22 (by kernel_rfl) _ 142 rfl rfl
                    obtain ⟨v155, e155, rfl⟩ := hg 35 (by kernel_rfl) _ 155 rfl rfl
                    go_simp
                    exact hK _ _ (Below.refl _ _) hS rfl
                  refine List.forall_mem_cons.2 ⟨?_, ?_⟩
                  · refine SlotStep.plain rfl rfl rfl ?_
                    intro tm ws hsame hS hg K hK
                    obtain ⟨v156, e156, rfl⟩ := hg 36 (by kernel_rfl) _ 156 rfl rfl
                    go_simp
                    exact hK _ _ (Below.refl _ _) hS rfl
                  refine List.forall_mem_cons.2 ⟨?_, ?_⟩
                  · refine SlotStep.guardedNot rfl rfl 37 rfl rfl (by kernel_rfl) (fun _ _ h => h) ?_
                    intro tm ws hsame hS hg K hK
                    have e20 : tm[20]? = some (.bool true) := hsame.2 20 rfl
                    go_simp
                    exact hK _ _ (Below.refl _ _) hS rfl
                  refine List.forall_mem_cons.2 ⟨?_, ?_⟩
                  · refine SlotStep.guardedNot rfl rfl 37 rfl rfl (by kernel_rfl) (fun _ _ h => h) ?_
                    intro tm ws hsame hS hg K hK
                    obtain ⟨v158, e158, rfl⟩ := hg 38 (by kernel_rfl) _ 158 rfl rfl
                    go_simp
                    exact hK _ _ (Below.refl _ _) hS rfl
                  refine List.forall_mem_cons.2 ⟨?_, ?_⟩
                  · refine SlotStep.guardedNot rfl rfl 37 rfl rfl (by kernel_rfl) (fun _ _ h => h) ?_
                    intro tm ws hsame hS hg K hK
                    obtain ⟨v159, e159, rfl⟩ := hg 39 (by kernel_rfl) _ 159 rfl rfl
                    go_simp
                    exact hK _ _ (Below.refl _ _) hS rfl
                  refine List.forall_mem_cons.2 ⟨?_, ?_⟩
                  · exact SlotStep.skip rfl rfl 40 true rfl rfl (by kernel_rfl) (fun _ _ h => h) (fun _ => rfl)
                  refine List.forall_mem_cons.2 ⟨?_, ?_⟩
                  · exact SlotStep.skip rfl rfl 40 true rfl rfl (by kernel_rfl) (fun _ _ h => h) (fun _ => rfl)
                  refine List.forall_mem_cons.2 ⟨?_, ?_⟩
                  · exact SlotStep.skip rfl rfl 40 true rfl rfl (by kernel_rfl) (fun _ _ h => h) (fun _ => rfl)
                  refine List.forall_mem_cons.2 ⟨?_, ?_⟩
                  · exact SlotStep.skip rfl rfl 40 true rfl rfl (by kernel_rfl) (fun _ _ h => h) (fun _ => rfl)
                  refine List.forall_mem_cons.2 ⟨?_, ?_⟩
                  · refine SlotStep.guardedNot rfl rfl 37 rfl rfl (by kernel_rfl) (fun _ _ h => h) ?_
                    intro tm ws hsame hS hg K hK
                    obtain ⟨v160, e160, rfl⟩ := hg 40 (by kernel_rfl) _ 160 rfl rfl
                    obtain ⟨v164, e164, rfl⟩ := hg 44 (by kernel_rfl) _ 164 rfl rfl
                    go_simp
                    exact hK _ _ (Below.refl _ _) hS rfl
                  refine List.forall_mem_cons.2 ⟨?_, ?_⟩
                  · refine SlotStep.plain rfl rfl rfl ?_
                    intro tm ws hsame hS hg K hK
                    obtain ⟨v157, e157, rfl⟩ := hg 37 (by kernel_rfl) _ 157 rfl rfl
                    obtain ⟨v165, e165, rfl⟩ := hg 45 (by kernel_rfl) _ 165 rfl rfl
                    go_simp
                    exact hK _ _ (Below.refl _ _) hS rfl
                  exact fun _ h => nomatch h
                case fin2 =>
                  intro tm w12 hsame hS hgot
                  obtain ⟨u', hu, htm⟩ := hsame.form (by kernel_rfl)
                  obtain ⟨vS, eS, rfl⟩ := hgot 46 _ 166 rfl rfl
                  have hS1 := hu _ _ eS
                  have HPN := Lib.hid (hS.1)
                  clear hgot hu hsame eS hS
                  rw [htm]
                  clear htm tm
                  simp only [List.foldl_cons, List.foldl_nil, List.setIfInBounds_toArray, List.set_cons_zero, List.set_cons_succ, hS1]
                  clear hS1
                  go_wp2_with fail
                  go_roundw
                  case rel => exact ⟨k + 1, L', _, m', pc', r', q', _, _, _, by omega, by go_num, HM.out, by omega, by rw [List.length_append, HV.out]; rfl, HPN⟩
                  case measure => simp [intOf]; omega
      · clear HRG
        have hnode := C.nnode wr at'
        simp only [nval] at hnode
        go_wp2_with fail
        refine hnode.mono ?_
        rintro e y1 ⟨rfl, hb1⟩
        have HP1 := Lib.hid ((HP.out.under hb1).under (below_alloc y1 (.cells #[.int .i64 0, .float .f64 0, .int .i64 0, .int .i64 0] 43)))
        clear hb1 hnode HP
        go_wp2_with fail
        refine (C.nput0 _).mono ?_
        rintro e y2 ⟨err, f, kk, rfl, hch, hkk, hb2⟩
        have HP2 := Lib.hid (HP1.out.under hb2)
        have HCO := Lib.hid (code_of hch hkk 1 (Or.inl ⟨rfl, by decide, by decide⟩))
        clear hb2 HP1 hch
        go_wp2_with fail
        refine HCO.out.mono ?_
        rintro e y3 ⟨rfl, hb3⟩
        have HP3 := Lib.hid (HP2.out.under hb3)
        clear hb3 HP2 HCO
        go_wp2_with fail
        refine (C.nlen _).mono ?_
        rintro e y4 ⟨rfl, hb4⟩
        have HP4 := Lib.hid (HP3.out.under hb4)
        clear hb4 HP3
        go_wp2_with fail
        refine (C.nall _).mono ?_
        rintro e y5 ⟨za, zc, rfl, hb5⟩
        have HP5 := Lib.hid (HP4.out.under hb5)
        clear hb5 HP4
        go_wp2_with fail
        refine (C.nleaf _).mono ?_
        rintro e y6 ⟨rfl, hb6⟩
        have HP6 := Lib.hid ((HP5.out.under hb6).under (below_alloc y6 (.cells #[.int .i64 0] 3)))
        clear hb6 HP5
        go_wp2_with fail
        refine (C.nadd _ _ _ 0 (cell_of_row _ _ 0 _ _ _ (heap_alloc_new y6 _))).mono ?_
        rintro e y7 ⟨rfl, hb7⟩
        have HP7 := Lib.hid (HP6.out.under hb7)
        clear hb7 HP6
        go_wp2_with fail
        refine (napart_num HP7.out.book (by have := HV.out; omega) HP7.out.short).mono ?_
        rintro e y8 ⟨rfl, hb8⟩
        go_wp2_with fail
        go_ret
        exact ⟨rfl, HP7.out.below.trans hb8⟩
end Go.Proofs.YtkkjkohmekbdbaaDoor
