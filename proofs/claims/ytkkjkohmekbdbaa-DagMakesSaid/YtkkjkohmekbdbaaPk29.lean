/-
  Nb1: compassbook's lists of nodes: the kinds of which none is kept; appends, copies, marks.
-/
import Derived.Test.YtkkjkohmekbdbaaPk26
import Derived.Laws.AppendOwn
import Derived.Deep.RegionLaw

namespace Go.Proofs.Ytkkjkohmekbdbaa
open Go.RowKit

/-- The marks of list i from the place f on. -/
def nmark (i k : Nat) : Nd := (0, 0, -1000 * (i : Int) - (k : Int) - 1, 0)
def nmarks (i f n : Nat) : List Nd := (List.range n).map fun k => nmark i (f + k)
theorem nmarks_length (i f n : Nat) : (nmarks i f n).length = n := by simp [nmarks]
theorem nmarks_succ (i f n : Nat) : nmarks i f (n + 1) = nmarks i f n ++ [nmark i (f + n)] := by
  simp [nmarks, List.range_succ]
theorem nmarks_append (i n k : Nat) : nmarks i 0 n ++ nmarks i n k = nmarks i 0 (n + k) := by
  induction k with
  | zero => simp [nmarks]
  | succ k ih => rw [nmarks_succ, ← List.append_assoc, ih, Nat.add_succ, nmarks_succ, Nat.zero_add]
theorem nmarks_get (i f n k : Nat) (h : k < n) : (nmarks i f n)[k]? = some (nmark i (f + k)) := by
  simp [nmarks, h]
theorem OwN.slice {base : Nat} {w : World} {v : Value} {l : List Nd} (h : OwN base w v l) : ∃ a n c, v = .slice a n c := by
  obtain ⟨a, c, rfl, _⟩ := h.form
  exact ⟨a, _, c, rfl⟩
theorem OwN.base0 {base : Nat} {w : World} {v : Value} {l : List Nd} (h : OwN base w v l) : OwN 0 w v l := h.base (Nat.zero_le _)
theorem OwN.only' {base : Nat} {w w' : World} {v : Value} {l : List Nd} {b lo hi : Nat} (h : OwN base w v l) (ho : Only b lo hi w w') (hne : v.ownBlock ≠ some b) : OwN base w' v l :=
  h.same fun g hg => ho.block g (h.lt g hg).2 (fun e => hne (by rw [hg, e]))
theorem nbelow_grown {B : Nat} {w0 w w' : World} {row : Option Nat} (h : Below B w0 w) (hg : w.grownBy w' row) (hB : B ≤ w.heap.size) (hrow : ∀ b, row = some b → B ≤ b) : Below B w0 w' :=
  ⟨hg.os.trans h.os, hg.tape.trans h.tape, hg.output.trans h.output, Nat.le_trans h.size hg.size, fun k hk => (hg.block k (by omega) (fun e => by have := hrow k e.symm; omega)).trans (h.block k hk)⟩
/-- append(out, nodes ..), out of the call's own. -/
theorem wpList_append_nodes_at {P : Program} (w : World) {ops : Array Oper} {rest : List Oper} {o : Oper} {a : Act} {Q : Exit → Act → World → Prop} (hgd : o.guard = none) (s x : Operand) (t : TypeId)
    (ho : o.op = .call { callee := .builtin .append, args := #[s, x], argTypes := #[t, t] }) (ht : P.underlying t = some (.slice 35)) (hi : (P.info? 35).map (fun i => (i.zero, i.size, i.bytes)) = some (some (.agg #[.int .i64 0, .float .f64 0, .int .i64 0, .int .i64 0]), 4, 32))
    (base : Nat) (v : Value) (l : List Nd) (hs : a.eval s = v) (hown : OwN base w v l)
    (ad : Addr) (m c : Nat) (lm : List Nd) (hx : a.eval x = .slice (some ad) m c) (hm : lm.length = m) (hnews : ∀ j u, (ncells lm)[j]? = some u → w.cell? (ad.add j) = some u)
    (hM : l.length + m ≤ 1000000) (hbase : base ≤ w.heap.size)
    (hK : ∀ v' w', OwN base w' v' (l ++ lm) → w.grownBy w' v.ownBlock → (v'.ownBlock = v.ownBlock ∨ v'.ownBlock = some w.heap.size) → wpList P ops Q rest (a.put o.dst v') w') : wpList P ops Q (o :: rest) a w := by
  obtain ⟨i, h2, h3, h4, h5⟩ := node_parts hi
  refine wpList_append_own_at w hgd s x t ho base 35 i _ 4 32 ht h2 h3 h4 h5 rfl (by decide) v l.length (ncells l) hs hown ad m c (ncells lm) hx (by rw [ncells_length, hm]) hnews (ncells_one lm) (by unfold maxLen; omega) (by omega) hbase fun v' w' hown' hgr _ hat => ?_
  refine hK v' w' ?_ hgr hat
  unfold OwN
  rw [List.length_append, hm, ncells_append]
  exact hown'
theorem wpList_append_nodes {P : Program} (w : World) {ops : Array Oper} {rest : List Oper} {o : Oper} {a : Act} {Q : Exit → Act → World → Prop} (hgd : o.guard = none) (s x : Operand) (t : TypeId)
    (ho : o.op = .call { callee := .builtin .append, args := #[s, x], argTypes := #[t, t] }) (ht : P.underlying t = some (.slice 35)) (hi : (P.info? 35).map (fun i => (i.zero, i.size, i.bytes)) = some (some (.agg #[.int .i64 0, .float .f64 0, .int .i64 0, .int .i64 0]), 4, 32))
    (base : Nat) (v : Value) (l : List Nd) (hs : a.eval s = v) (hown : OwN base w v l)
    (ad : Addr) (m c : Nat) (lm : List Nd) (hx : a.eval x = .slice (some ad) m c) (hm : lm.length = m) (hnews : ∀ j u, (ncells lm)[j]? = some u → w.cell? (ad.add j) = some u)
    (hM : l.length + m ≤ 1000000) (hbase : base ≤ w.heap.size)
    (hK : ∀ v' w', OwN base w' v' (l ++ lm) → Below base w w' → wpList P ops Q rest (a.put o.dst v') w') : wpList P ops Q (o :: rest) a w :=
  wpList_append_nodes_at w hgd s x t ho ht hi base v l hs hown ad m c lm hx hm hnews hM hbase fun v' w' h1 h2 _ => hK v' w' h1 (nbelow_grown (Below.refl _ _) h2 hbase fun b hb => (hown.lt b hb).1)
theorem rdn_news {w : World} {b off : Nat} {l : List Nd} (h : RdN w (some ⟨b, off, none⟩) l) : ∀ j u, (ncells l)[j]? = some u → w.cell? ((⟨b, off, none⟩ : Addr).add j) = some u := by
  intro j u hj
  have hlt : j < l.length * 4 := by rw [← ncells_length]; exact (List.getElem?_eq_some_iff.1 hj).1
  obtain ⟨n, hn⟩ : ∃ n, l[j / 4]? = some n := ⟨l[j / 4]'(by omega), by rw [List.getElem?_eq_getElem]⟩
  obtain ⟨c0, c1, c2, c3⟩ := ncells_get hn
  obtain ⟨a0, a1, a2, a3⟩ := h.at hn
  rw [addr_add]
  have hd := Nat.div_add_mod j 4
  have hm := Nat.mod_lt j (show 4 > 0 by decide)
  obtain ⟨q, hq⟩ : ∃ q, j / 4 = q := ⟨_, rfl⟩
  rw [hq] at c0 c1 c2 c3 a0 a1 a2 a3 hd
  rcases (by omega : j % 4 = 0 ∨ j % 4 = 1 ∨ j % 4 = 2 ∨ j % 4 = 3) with e | e | e | e
  · obtain rfl : j = q * 4 := by omega
    rw [hj] at c0; rw [a0, ← c0]
  · obtain rfl : j = q * 4 + 1 := by omega
    rw [hj] at c1; rw [← Nat.add_assoc, a1, ← c1]
  · obtain rfl : j = q * 4 + 2 := by omega
    rw [hj] at c2; rw [← Nat.add_assoc, a2, ← c2]
  · obtain rfl : j = q * 4 + 3 := by omega
    rw [hj] at c3; rw [← Nat.add_assoc, a3, ← c3]
/-- append([]api.Node(nil), l...): a copy. -/
theorem wpList_append_nil_nodes {P : Program} (w : World) {ops : Array Oper} {rest : List Oper} {o : Oper} {a : Act} {Q : Exit → Act → World → Prop} (hgd : o.guard = none) (s x : Operand) (t : TypeId)
    (ho : o.op = .call { callee := .builtin .append, args := #[s, x], argTypes := #[t, t] }) (ht : P.underlying t = some (.slice 35)) (hi : (P.info? 35).map (fun i => (i.zero, i.size, i.bytes)) = some (some (.agg #[.int .i64 0, .float .f64 0, .int .i64 0, .int .i64 0]), 4, 32))
    (hs : a.eval s = .slice none 0 0) (ao : Option Addr) (n c : Nat) (l : List Nd) (hx : a.eval x = .slice ao n c) (hn : n = l.length) (hr : RdN w ao l) (hM : n ≤ 1000000)
    (hK : ∀ v' w', OwN w.heap.size w' v' l → Below w.heap.size w w' → wpList P ops Q rest (a.put o.dst v') w') : wpList P ops Q (o :: rest) a w := by
  by_cases hl : l = []
  · subst hl
    obtain rfl : n = 0 := hn
    obtain ⟨i, h2, h3, h4, h5⟩ := node_parts hi
    refine wpList_plain hgd fun K hK' => ?_
    have hrun : (Builtin.append_ #[t, t] o.type #[.slice none 0 0, .slice ao 0 c]).run P w = .ok (.slice none 0 0) w := by
      cases ao <;> simp [Builtin.append_, run_underlying ht, sizeOf, typeInfo, h2, Builtin.lenOf, Builtin.firstCells, loadCells, loadCellsFrom]
    unfold Oper.wp execOp
    simp only [ho, resolve, invoke, builtin, Sem.run_bind, Sem.run_pure, Result.andThen_ok, List.map_toArray, List.map_cons, List.map_nil, hs, hx, hrun]
    exact hK' _ _ (hK _ _ (OwN.nil _ _) (Below.refl _ _))
  · obtain ⟨b, off, rfl, -⟩ := hr.some hl
    refine wpList_append_nodes w hgd s x t ho ht hi w.heap.size (.slice none 0 0) [] hs (OwN.nil _ _) ⟨b, off, none⟩ n c l hx hn.symm (rdn_news hr) (by simpa using hM) (Nat.le_refl _) fun v' w' h1 h2 => hK v' w' ?_ h2
    simpa using h1
/-- A row of nodes of the call's own, made anew. -/
def RetOwN (w : World) (l : List Nd) (e : Ending) (w' : World) : Prop := ∃ v, e = .returned v ∧ OwN w.heap.size w' v l ∧ Below w.heap.size w w'
end Go.Proofs.Ytkkjkohmekbdbaa
