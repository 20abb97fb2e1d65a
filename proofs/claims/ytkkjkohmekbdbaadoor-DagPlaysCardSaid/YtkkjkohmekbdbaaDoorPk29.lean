/-
  Nb1: compassbook's lists of nodes: the kinds of which none is kept; appends, copies, marks.
  Nb2: compassbook's lists of nodes: rows of lists; the lists that are kept.
  Nb3: compassbook's lists of nodes: do they stay what they were; are they marked?
  Nb5: compassbook's lists of nodes: marks are put into them.
  Nb7: compassbook's lists of nodes: what holds while they are grown.
  Nb8: compassbook's lists of nodes are grown.
  Nb9: compassbook's lists of nodes: one more is kept.
  NbA: compassbook's lists of nodes: are they what they were, and does none share memory with another one?
-/
import Derived.Test.YtkkjkohmekbdbaaDoorPk28
import Derived.Laws.AppendOwn
import Derived.Deep.RegionLaw
import Derived.Test.YtkkjkohmekbdbaaDoorPk26

namespace Go.Proofs.YtkkjkohmekbdbaaDoor
open Go.RowKit

set_option maxRecDepth 100000 in
theorem stillInts_z {w : World} {g : Nat} (h : w.cell? ⟨g, 0, none⟩ = some (.slice none 0 0)) : Calls Tryd.prog 35 #[.pointer (some ⟨g, 0, none⟩)] w fun e w' => e = .returned (.bool true) ∧ w = w' := by
  go_enter Tryd.func35, Tryd.ntmps35
  go_wp2_with fail
  refine wp_loop_rounds 1 ?_
  rw [rounds_succ]
  go_wp2_with fail
  go_ret
  exact ⟨rfl, rfl⟩
set_option maxRecDepth 100000 in
theorem growInts_z {w : World} {g : Nat} (h : w.cell? ⟨g, 0, none⟩ = some (.slice none 0 0)) : Calls Tryd.prog 45 #[.pointer (some ⟨g, 0, none⟩)] w fun e w' => e = .returned (.slice none 0 0) ∧ w = w' := by
  go_enter Tryd.func45, Tryd.ntmps45
  go_wp2_with fail
  refine wp_loop_rounds 1 ?_
  rw [rounds_succ]
  go_wp2_with fail
  go_ret
  exact ⟨rfl, rfl⟩
set_option maxRecDepth 100000 in
theorem markedInts_z (w : World) : Calls Tryd.prog 50 #[.slice none 0 0] w fun e w' => e = .returned (.bool true) ∧ w = w' := by
  go_enter Tryd.func50, Tryd.ntmps50
  go_wp2_with fail
  refine wp_loop_rounds 1 ?_
  rw [rounds_succ]
  go_wp2_with fail
  go_ret
  exact ⟨rfl, rfl⟩
set_option maxRecDepth 100000 in
theorem putInts_z {w : World} {g : Nat} (h : w.cell? ⟨g, 0, none⟩ = some (.slice none 0 0)) : Calls Tryd.prog 41 #[.pointer (some ⟨g, 0, none⟩)] w fun e w' => e = .returned (.tuple #[]) ∧ w = w' := by
  go_enter Tryd.func41, Tryd.ntmps41
  go_wp2_with fail
  refine wp_loop_rounds 1 ?_
  rw [rounds_succ]
  go_wp2_with fail
  go_end0
  exact ⟨rfl, rfl⟩
set_option maxRecDepth 100000 in
theorem stillLimbs_z {w : World} {g : Nat} (h : w.cell? ⟨g, 2, none⟩ = some (.slice none 0 0)) : Calls Tryd.prog 36 #[.pointer (some ⟨g, 0, none⟩)] w fun e w' => e = .returned (.bool true) ∧ w = w' := by
  go_enter Tryd.func36, Tryd.ntmps36
  go_wp2_with fail
  refine wp_loop_rounds 1 ?_
  rw [rounds_succ]
  go_wp2_with fail
  go_ret
  exact ⟨rfl, rfl⟩
set_option maxRecDepth 100000 in
theorem growLimbs_z {w : World} {g : Nat} (h : w.cell? ⟨g, 2, none⟩ = some (.slice none 0 0)) : Calls Tryd.prog 46 #[.pointer (some ⟨g, 0, none⟩)] w fun e w' => e = .returned (.slice none 0 0) ∧ w = w' := by
  go_enter Tryd.func46, Tryd.ntmps46
  go_wp2_with fail
  refine wp_loop_rounds 1 ?_
  rw [rounds_succ]
  go_wp2_with fail
  go_ret
  exact ⟨rfl, rfl⟩
set_option maxRecDepth 100000 in
theorem markedLimbs_z (w : World) : Calls Tryd.prog 51 #[.slice none 0 0] w fun e w' => e = .returned (.bool true) ∧ w = w' := by
  go_enter Tryd.func51, Tryd.ntmps51
  go_wp2_with fail
  refine wp_loop_rounds 1 ?_
  rw [rounds_succ]
  go_wp2_with fail
  go_ret
  exact ⟨rfl, rfl⟩
set_option maxRecDepth 100000 in
theorem putLimbs_z {w : World} {g : Nat} (h : w.cell? ⟨g, 2, none⟩ = some (.slice none 0 0)) : Calls Tryd.prog 42 #[.pointer (some ⟨g, 0, none⟩)] w fun e w' => e = .returned (.tuple #[]) ∧ w = w' := by
  go_enter Tryd.func42, Tryd.ntmps42
  go_wp2_with fail
  refine wp_loop_rounds 1 ?_
  rw [rounds_succ]
  go_wp2_with fail
  go_end0
  exact ⟨rfl, rfl⟩
set_option maxRecDepth 100000 in
theorem stillPairs_z {w : World} {g : Nat} (h : w.cell? ⟨g, 6, none⟩ = some (.slice none 0 0)) : Calls Tryd.prog 38 #[.pointer (some ⟨g, 0, none⟩)] w fun e w' => e = .returned (.bool true) ∧ w = w' := by
  go_enter Tryd.func38, Tryd.ntmps38
  go_wp2_with fail
  refine wp_loop_rounds 1 ?_
  rw [rounds_succ]
  go_wp2_with fail
  go_ret
  exact ⟨rfl, rfl⟩
set_option maxRecDepth 100000 in
theorem growPairs_z {w : World} {g : Nat} (h : w.cell? ⟨g, 6, none⟩ = some (.slice none 0 0)) : Calls Tryd.prog 48 #[.pointer (some ⟨g, 0, none⟩)] w fun e w' => e = .returned (.slice none 0 0) ∧ w = w' := by
  go_enter Tryd.func48, Tryd.ntmps48
  go_wp2_with fail
  refine wp_loop_rounds 1 ?_
  rw [rounds_succ]
  go_wp2_with fail
  go_ret
  exact ⟨rfl, rfl⟩
set_option maxRecDepth 100000 in
theorem markedPairs_z (w : World) : Calls Tryd.prog 53 #[.slice none 0 0] w fun e w' => e = .returned (.bool true) ∧ w = w' := by
  go_enter Tryd.func53, Tryd.ntmps53
  go_wp2_with fail
  refine wp_loop_rounds 1 ?_
  rw [rounds_succ]
  go_wp2_with fail
  go_ret
  exact ⟨rfl, rfl⟩
set_option maxRecDepth 100000 in
theorem putPairs_z {w : World} {g : Nat} (h : w.cell? ⟨g, 6, none⟩ = some (.slice none 0 0)) : Calls Tryd.prog 44 #[.pointer (some ⟨g, 0, none⟩)] w fun e w' => e = .returned (.tuple #[]) ∧ w = w' := by
  go_enter Tryd.func44, Tryd.ntmps44
  go_wp2_with fail
  refine wp_loop_rounds 1 ?_
  rw [rounds_succ]
  go_wp2_with fail
  go_end0
  exact ⟨rfl, rfl⟩
set_option maxRecDepth 100000 in
theorem stillSteps_z {w : World} {g : Nat} (h : w.cell? ⟨g, 8, none⟩ = some (.slice none 0 0)) : Calls Tryd.prog 39 #[.pointer (some ⟨g, 0, none⟩)] w fun e w' => e = .returned (.bool true) ∧ w = w' := by
  go_enter Tryd.func39, Tryd.ntmps39
  go_wp2_with fail
  refine wp_loop_rounds 1 ?_
  rw [rounds_succ]
  go_wp2_with fail
  go_ret
  exact ⟨rfl, rfl⟩
set_option maxRecDepth 100000 in
theorem growSteps_z {w : World} {g : Nat} (h : w.cell? ⟨g, 8, none⟩ = some (.slice none 0 0)) : Calls Tryd.prog 49 #[.pointer (some ⟨g, 0, none⟩)] w fun e w' => e = .returned (.slice none 0 0) ∧ w = w' := by
  go_enter Tryd.func49, Tryd.ntmps49
  go_wp2_with fail
  refine wp_loop_rounds 1 ?_
  rw [rounds_succ]
  go_wp2_with fail
  go_ret
  exact ⟨rfl, rfl⟩
set_option maxRecDepth 100000 in
theorem markedSteps_z (w : World) : Calls Tryd.prog 54 #[.slice none 0 0] w fun e w' => e = .returned (.bool true) ∧ w = w' := by
  go_enter Tryd.func54, Tryd.ntmps54
  go_wp2_with fail
  refine wp_loop_rounds 1 ?_
  rw [rounds_succ]
  go_wp2_with fail
  go_ret
  exact ⟨rfl, rfl⟩
set_option maxRecDepth 100000 in
theorem putSteps_z {w : World} {g : Nat} (h : w.cell? ⟨g, 8, none⟩ = some (.slice none 0 0)) : Calls Tryd.prog 40 #[.pointer (some ⟨g, 0, none⟩)] w fun e w' => e = .returned (.tuple #[]) ∧ w = w' := by
  go_enter Tryd.func40, Tryd.ntmps40
  go_wp2_with fail
  refine wp_loop_rounds 1 ?_
  rw [rounds_succ]
  go_wp2_with fail
  go_end0
  exact ⟨rfl, rfl⟩
/-- The marks of list i from the place f on. -/
def nmark (i k : Nat) : Nd := (0, 0, -1000 * (i : Int) - (k : Int) - 1, 0)
def nmarks (i f n : Nat) : List Nd := (List.range n).map fun k => nmark i (f + k)
theorem nmarks_length (i f n : Nat) : (nmarks i f n).length = n := by simp [nmarks]
theorem nmarks_succ (i f n : Nat) : nmarks i f (n + 1) = nmarks i f n ++ [nmark i (f + n)] := by
  simp [nmarks, List.range_succ]
theorem nmarks_append (i n k : Nat) : nmarks i 0 n ++ nmarks i n k = nmarks i 0 (n + k) := by
  induction k with
  | zero => simp [nmarks]
  | succ k ih => rw [nmarks_succ, ← List.append_assoc, ih, Nat.add_succ, nmarks_succ, Nat.zero_add]
theorem nmarks_get (i f n k : Nat) (h : k < n) : (nmarks i f n)[k]? = some (nmark i (f + k)) := by
  simp [nmarks, h]
theorem OwN.slice {base : Nat} {w : World} {v : Value} {l : List Nd} (h : OwN base w v l) : ∃ a n c, v = .slice a n c := by
  obtain ⟨a, c, rfl, _⟩ := h.form
  exact ⟨a, _, c, rfl⟩
theorem OwN.base0 {base : Nat} {w : World} {v : Value} {l : List Nd} (h : OwN base w v l) : OwN 0 w v l := h.base (Nat.zero_le _)
theorem OwN.only' {base : Nat} {w w' : World} {v : Value} {l : List Nd} {b lo hi : Nat} (h : OwN base w v l) (ho : Only b lo hi w w') (hne : v.ownBlock ≠ some b) : OwN base w' v l :=
  h.same fun g hg => ho.block g (h.lt g hg).2 (fun e => hne (by rw [hg, e]))
theorem nbelow_grown {B : Nat} {w0 w w' : World} {row : Option Nat} (h : Below B w0 w) (hg : w.grownBy w' row) (hB : B ≤ w.heap.size) (hrow : ∀ b, row = some b → B ≤ b) : Below B w0 w' :=
  ⟨hg.os.trans h.os, hg.tape.trans h.tape, hg.output.trans h.output, Nat.le_trans h.size hg.size, fun k hk => (hg.block k (by omega) (fun e => by have := hrow k e.symm; omega)).trans (h.block k hk)⟩
/-- append(out, nodes ..), out of the call's own. -/
theorem wpList_append_nodes_at {P : Program} (w : World) {ops : Array Oper} {rest : List Oper} {o : Oper} {a : Act} {Q : Exit → Act → World → Prop} (hgd : o.guard = none) (s x : Operand) (t : TypeId)
    (ho : o.op = .call { callee := .builtin .append, args := #[s, x], argTypes := #[t, t] }) (ht : P.underlying t = some (.slice 43)) (hi : (P.info? 43).map (fun i => (i.zero, i.size, i.bytes)) = some (some (.agg #[.int .i64 0, .float .f64 0, .int .i64 0, .int .i64 0]), 4, 32))
    (base : Nat) (v : Value) (l : List Nd) (hs : a.eval s = v) (hown : OwN base w v l)
    (ad : Addr) (m c : Nat) (lm : List Nd) (hx : a.eval x = .slice (some ad) m c) (hm : lm.length = m) (hnews : ∀ j u, (ncells lm)[j]? = some u → w.cell? (ad.add j) = some u)
    (hM : l.length + m ≤ 1000000) (hbase : base ≤ w.heap.size)
    (hK : ∀ v' w', OwN base w' v' (l ++ lm) → w.grownBy w' v.ownBlock → (v'.ownBlock = v.ownBlock ∨ v'.ownBlock = some w.heap.size) → wpList P ops Q rest (a.put o.dst v') w') : wpList P ops Q (o :: rest) a w := by
  obtain ⟨i, h2, h3, h4, h5⟩ := node_parts hi
  refine wpList_append_own_at w hgd s x t ho base 43 i _ 4 32 ht h2 h3 h4 h5 rfl (by decide) v l.length (ncells l) hs hown ad m c (ncells lm) hx (by rw [ncells_length, hm]) hnews (ncells_one lm) (by unfold maxLen; omega) (by omega) hbase fun v' w' hown' hgr _ hat => ?_
  refine hK v' w' ?_ hgr hat
  unfold OwN
  rw [List.length_append, hm, ncells_append]
  exact hown'
theorem wpList_append_nodes {P : Program} (w : World) {ops : Array Oper} {rest : List Oper} {o : Oper} {a : Act} {Q : Exit → Act → World → Prop} (hgd : o.guard = none) (s x : Operand) (t : TypeId)
    (ho : o.op = .call { callee := .builtin .append, args := #[s, x], argTypes := #[t, t] }) (ht : P.underlying t = some (.slice 43)) (hi : (P.info? 43).map (fun i => (i.zero, i.size, i.bytes)) = some (some (.agg #[.int .i64 0, .float .f64 0, .int .i64 0, .int .i64 0]), 4, 32))
    (base : Nat) (v : Value) (l : List Nd) (hs : a.eval s = v) (hown : OwN base w v l)
    (ad : Addr) (m c : Nat) (lm : List Nd) (hx : a.eval x = .slice (some ad) m c) (hm : lm.length = m) (hnews : ∀ j u, (ncells lm)[j]? = some u → w.cell? (ad.add j) = some u)
    (hM : l.length + m ≤ 1000000) (hbase : base ≤ w.heap.size)
    (hK : ∀ v' w', OwN base w' v' (l ++ lm) → Below base w w' → wpList P ops Q rest (a.put o.dst v') w') : wpList P ops Q (o :: rest) a w :=
  wpList_append_nodes_at w hgd s x t ho ht hi base v l hs hown ad m c lm hx hm hnews hM hbase fun v' w' h1 h2 _ => hK v' w' h1 (nbelow_grown (Below.refl _ _) h2 hbase fun b hb => (hown.lt b hb).1)
theorem rdn_news {w : World} {b off : Nat} {l : List Nd} (h : RdN w (some ⟨b, off, none⟩) l) : ∀ j u, (ncells l)[j]? = some u → w.cell? ((⟨b, off, none⟩ : Addr).add j) = some u := by
  intro j u hj
  have hlt : j < l.length * 4 := by rw [← ncells_length]; exact (List.getElem?_eq_some_iff.1 hj).1
  obtain ⟨n, hn⟩ : ∃ n, l[j / 4]? = some n := ⟨l[j / 4]'(by omega), by rw [List.getElem?_eq_getElem]⟩
  obtain ⟨c0, c1, c2, c3⟩ := ncells_get hn
  obtain ⟨a0, a1, a2, a3⟩ := h.at hn
  rw [addr_add]
  have hd := Nat.div_add_mod j 4
  have hm := Nat.mod_lt j (show 4 > 0 by decide)
  obtain ⟨q, hq⟩ : ∃ q, j / 4 = q := ⟨_, rfl⟩
  rw [hq] at c0 c1 c2 c3 a0 a1 a2 a3 hd
  rcases (by omega : j % 4 = 0 ∨ j % 4 = 1 ∨ j % 4 = 2 ∨ j % 4 = 3) with e | e | e | e
  · obtain rfl : j = q * 4 := by omega
    rw [hj] at c0; rw [a0, ← c0]
  · obtain rfl : j = q * 4 + 1 := by omega
    rw [hj] at c1; rw [← Nat.add_assoc, a1, ← c1]
  · obtain rfl : j = q * 4 + 2 := by omega
    rw [hj] at c2; rw [← Nat.add_assoc, a2, ← c2]
  · obtain rfl : j = q * 4 + 3 := by omega
    rw [hj] at c3; rw [← Nat.add_assoc, a3, ← c3]
/-- append([]api.Node(nil), l...): a copy. -/
theorem wpList_append_nil_nodes {P : Program} (w : World) {ops : Array Oper} {rest : List Oper} {o : Oper} {a : Act} {Q : Exit → Act → World → Prop} (hgd : o.guard = none) (s x : Operand) (t : TypeId)
    (ho : o.op = .call { callee := .builtin .append, args := #[s, x], argTypes := #[t, t] }) (ht : P.underlying t = some (.slice 43)) (hi : (P.info? 43).map (fun i => (i.zero, i.size, i.bytes)) = some (some (.agg #[.int .i64 0, .float .f64 0, .int .i64 0, .int .i64 0]), 4, 32))
    (hs : a.eval s = .slice none 0 0) (ao : Option Addr) (n c : Nat) (l : List Nd) (hx : a.eval x = .slice ao n c) (hn : n = l.length) (hr : RdN w ao l) (hM : n ≤ 1000000)
    (hK : ∀ v' w', OwN w.heap.size w' v' l → Below w.heap.size w w' → wpList P ops Q rest (a.put o.dst v') w') : wpList P ops Q (o :: rest) a w := by
  by_cases hl : l = []
  · subst hl
    obtain rfl : n = 0 := hn
    obtain ⟨i, h2, h3, h4, h5⟩ := node_parts hi
    refine wpList_plain hgd fun K hK' => ?_
    have hrun : (Builtin.append_ #[t, t] o.type #[.slice none 0 0, .slice ao 0 c]).run P w = .ok (.slice none 0 0) w := by
      cases ao <;> simp [Builtin.append_, run_underlying ht, sizeOf, typeInfo, h2, Builtin.lenOf, Builtin.firstCells, loadCells, loadCellsFrom]
    unfold Oper.wp execOp
    simp only [ho, resolve, invoke, builtin, Sem.run_bind, Sem.run_pure, Result.andThen_ok, List.map_toArray, List.map_cons, List.map_nil, hs, hx, hrun]
    exact hK' _ _ (hK _ _ (OwN.nil _ _) (Below.refl _ _))
  · obtain ⟨b, off, rfl, -⟩ := hr.some hl
    refine wpList_append_nodes w hgd s x t ho ht hi w.heap.size (.slice none 0 0) [] hs (OwN.nil _ _) ⟨b, off, none⟩ n c l hx hn.symm (rdn_news hr) (by simpa using hM) (Nat.le_refl _) fun v' w' h1 h2 => hK v' w' ?_ h2
    simpa using h1
set_option maxRecDepth 100000 in
theorem ncopy_any (ao : Option Addr) (n cap : Nat) (l : List Nd) (w : World) (hn : n = l.length) (h : RdN w ao l) (hM : n ≤ 1000000) :
    Calls Tryd.prog 31 #[.slice ao n cap] w fun e w' => ∃ v, e = .returned v ∧ OwN w.heap.size w' v l ∧ Below w.heap.size w w' := by
  have HN := Lib.hid hn
  clear hn
  go_enter Tryd.func31, Tryd.ntmps31
  go_wp2_with (at_builtin; (refine wpList_append_nil_nodes _ rfl _ _ 22 rfl Tryd.underlying22 info_node rfl ao n cap l rfl HN.out h hM ?_; intro v1 w1 hO1 hb1))
  go_ret
  exact ⟨v1, rfl, hO1, hb1⟩
/-- A row of nodes of the call's own, made anew. -/
def RetOwN (w : World) (l : List Nd) (e : Ending) (w' : World) : Prop := ∃ v, e = .returned v ∧ OwN w.heap.size w' v l ∧ Below w.heap.size w w'
set_option maxRecDepth 100000 in
set_option maxHeartbeats 1000000 in
theorem nmark_num (i f n : Nat) (w : World) (hi : i ≤ 300) (hf : f ≤ 100000) (hn : n ≤ 100000) :
    Calls Tryd.prog 70 #[.int .i64 (i : Int), .int .i64 (f : Int), .int .i64 (n : Int)] w fun e w' => RetOwN w (nmarks i f n) e w' := by
  have hfn : (f : Int) + (n : Int) = ((f + n : Nat) : Int) := by omega
  obtain ⟨t, ht⟩ : ∃ t, f + n = t := ⟨_, rfl⟩
  rw [ht] at hfn
  have HT := Lib.hid ht
  have htb : t ≤ 200000 := by omega
  clear ht
  go_enter Tryd.func70, Tryd.ntmps70
  go_wp2_with fail
  go_loopw [7, 8] (fun v ii wr => ∃ k x : Nat, k ≤ n ∧ ii = .int .i64 (x : Int) ∧ Hid (f + k = x) ∧ OwN w.heap.size wr v (nmarks i f k) ∧ Below w.heap.size w wr) (fun _ ii _ => t - (intOf ii).toNat)
  case atStart => exact ⟨0, f, Nat.zero_le _, rfl, Lib.hid (Nat.add_zero f), OwN.nil _ _, Below.refl _ _⟩
  case round =>
    obtain ⟨k, x, hk, rfl, HX, hO, hb⟩ := hrel
    have hxk := HX.out
    have htt := HT.out
    by_cases hlt : k < n
    · have hxt : (x : Int) < (t : Int) := by omega
      have hxb : x ≤ 200000 := by omega
      obtain ⟨p, hp⟩ : ∃ p : Int, -1000 * (i : Int) = p := ⟨_, rfl⟩
      obtain ⟨y, hy⟩ : ∃ y : Int, p - (x : Int) - 1 = y := ⟨_, rfl⟩
      have hpb : -300000 ≤ p ∧ p ≤ 0 := by omega
      have hyb : -1000000 ≤ y ∧ y ≤ 0 := by omega
      have hlen : (nmarks i f k).length + 1 ≤ 1000000 := by rw [nmarks_length]; omega
      have HY : Hid (nmarks i f k ++ [(0, 0, y, 0)] = nmarks i f (k + 1)) := Lib.hid (by rw [nmarks_succ, ← hy, ← hp, hxk]; rfl)
      clear hxk htt
      go_wp2_with (at_builtin; refine wpList_append_nodes _ rfl (.tmp 17) (.tmp 24) 22 rfl Tryd.underlying22 info_node w.heap.size _ (nmarks i f k) rfl (hO.alloc _) ⟨wr.heap.size, 0, none⟩ 1 1 [(0, 0, y, 0)] rfl rfl (node_new1 _ (0, 0, y, 0) _) hlen (by have := hb.size; simp; omega) ?_; intro v' w1 hO1 hb1)
      have hb2 : Below w.heap.size w w1 := hb.trans ((((Below.refl _ wr).alloc hb.size _).mono (Nat.le_refl _)).trans hb1)
      have hO2 : OwN w.heap.size w1 v' (nmarks i f (k + 1)) := by rw [← HY.out]; exact hO1
      clear hO1 hb1 hO hb
      go_wp2_with fail
      go_roundw
      case rel => exact ⟨k + 1, x + 1, by omega, by go_num, Lib.hid (by have := HX.out; omega), hO2, hb2⟩
      case measure => simp [intOf]; omega
    · have hxt : ¬ (x : Int) < (t : Int) := by omega
      have hkn : k = n := by omega
      subst hkn
      clear hxk htt
      go_wp2_with fail
      go_ret
      exact ⟨_, rfl, hO, hb⟩
end Go.Proofs.YtkkjkohmekbdbaaDoor

namespace Go.Proofs.YtkkjkohmekbdbaaDoor
open Go.RowKit

theorem info_nlist : (Tryd.prog.info? 22).map (fun i => (i.zero, i.size, i.bytes)) = some (some (.slice none 0 0), 1, 24) := by kernel_rfl
/-- A row of the call's own whose cells are the values vs (slices of []uint64). -/
def OwSN (base : Nat) (w : World) (v : Value) (vs : List Value) : Prop := w.ownsRow base 22 1 v vs.length vs

theorem OwSN.nil (base : Nat) (w : World) : OwSN base w (.slice none 0 0) [] := World.ownsRow_nil _ _ _ _
theorem OwSN.form {base : Nat} {w : World} {v : Value} {vs : List Value} (h : OwSN base w v vs) : ∃ ao cap, v = .slice ao vs.length cap ∧ vs.length ≤ cap ∧ cap ≤ 9223372036854775807 ∧ RdRow w ao vs := by
  obtain ⟨h1, h2⟩ := h
  rcases h2 with ⟨rfl, h0⟩ | ⟨g, cap, cur, rfl, hg, hh, hn, hm, hc, ht⟩
  · obtain rfl : vs = [] := List.eq_nil_of_length_eq_zero h0
    exact ⟨none, 0, rfl, Nat.le_refl _, by omega, Or.inl rfl⟩
  · refine ⟨_, cap, rfl, hn, by simpa [maxLen] using hm, Or.inr ⟨g, 0, rfl, fun j v hv => ?_⟩⟩
    have hj : j < vs.length := (List.getElem?_eq_some_iff.1 hv).1
    rw [cell_of_row w g _ cur _ _ hh]
    have : (cur.toList.take (vs.length * 1))[j]? = vs[j]? := by rw [ht]
    rw [List.getElem?_take, if_pos (by omega), hv] at this
    simpa using this
theorem OwSN.lt {base : Nat} {w : World} {v : Value} {vs : List Value} (h : OwSN base w v vs) : ∀ g, v.ownBlock = some g → base ≤ g ∧ g < w.heap.size := by
  intro g hg
  rcases h.2 with ⟨rfl, _⟩ | ⟨g', cap, cur, rfl, hb, hh, _⟩
  · simp [Value.ownBlock] at hg
  · simp only [Value.ownBlock, Option.some.injEq] at hg
    subst hg
    exact ⟨hb, (Array.getElem?_eq_some_iff.1 hh).1⟩
theorem OwSN.grown {base : Nat} {w w' : World} {v : Value} {vs : List Value} {row : Option Nat} (h : OwSN base w v vs) (hg : w.grownBy w' row) (hne : ∀ g, v.ownBlock = some g → row ≠ some g) : OwSN base w' v vs := by
  refine ⟨h.1, ?_⟩
  rcases h.2 with h2 | ⟨g, cap, cur, rfl, hb, hh, r⟩
  · exact Or.inl h2
  · refine Or.inr ⟨g, cap, cur, rfl, hb, ?_, r⟩
    rw [hg.block g (Array.getElem?_eq_some_iff.1 hh).1 (fun e => hne g rfl e.symm)]
    exact hh
theorem OwSN.below {base : Nat} {w w' : World} {v : Value} {vs : List Value} (h : OwSN base w v vs) (hb : Below w.heap.size w w') : OwSN base w' v vs :=
  ⟨h.1, by
    rcases h.2 with h2 | ⟨g, cap, cur, hv, hg, hh, r⟩
    · exact Or.inl h2
    · exact Or.inr ⟨g, cap, cur, hv, hg, (hb.block g (Array.getElem?_eq_some_iff.1 hh).1).trans hh, r⟩⟩
theorem OwSN.alloc {base : Nat} {w : World} {v : Value} {vs : List Value} (h : OwSN base w v vs) (o : Obj) : OwSN base (w.alloc o) v vs := World.ownsRow.alloc h o
/-- append(out, values ..), out of the call's own. -/
theorem wpList_append_nlists {P : Program} (w : World) {ops : Array Oper} {rest : List Oper} {o : Oper} {a : Act} {Q : Exit → Act → World → Prop} (hgd : o.guard = none) (s x : Operand) (t : TypeId)
    (ho : o.op = .call { callee := .builtin .append, args := #[s, x], argTypes := #[t, t] }) (ht : P.underlying t = some (.slice 22)) (hi : (P.info? 22).map (fun i => (i.zero, i.size, i.bytes)) = some (some (.slice none 0 0), 1, 24))
    (base : Nat) (v : Value) (vs : List Value) (hs : a.eval s = v) (hown : OwSN base w v vs)
    (ad : Addr) (m c : Nat) (us : List Value) (hx : a.eval x = .slice (some ad) m c) (hm : us.length = m) (hnews : ∀ j u, us[j]? = some u → w.cell? (ad.add j) = some u) (h1 : ∀ u ∈ us, u.oneCell' = true)
    (hM : vs.length + m ≤ 4294967296) (hbase : base ≤ w.heap.size)
    (hK : ∀ v' w', OwSN base w' v' (vs ++ us) → w.grownBy w' v.ownBlock → (v'.ownBlock = v.ownBlock ∨ v'.ownBlock = some w.heap.size) → wpList P ops Q rest (a.put o.dst v') w') : wpList P ops Q (o :: rest) a w := by
  obtain ⟨i, h2, h3, h4, h5⟩ := info_parts hi
  refine wpList_append_own_at w hgd s x t ho base 22 i (.slice none 0 0) 1 24 ht h2 h3 h4 h5 rfl (by decide) v vs.length vs hs hown ad m c us hx (by rw [hm, Nat.mul_one]) hnews h1 (by unfold maxLen; omega) (by omega) hbase fun v' w' hown' hgr _ hat => ?_
  refine hK v' w' ?_ hgr hat
  unfold OwSN
  rw [List.length_append, hm]
  exact hown'

/-- The block of a list, if it has one, lies apart from the block g. -/
def OffN (v : Value) (g : Nat) : Prop := v.ownBlock ≠ some g
theorem own_grown {base : Nat} {w w' : World} {v : Value} {l : List Nd} {row : Option Nat} (h : OwN base w v l) (hg : w.grownBy w' row) (hne : v.ownBlock = none ∨ v.ownBlock ≠ row) : OwN base w' v l := World.ownsRow.kept h hg hne
theorem own_ltb {base : Nat} {w : World} {v : Value} {l : List Nd} (h : OwN base w v l) : ∀ k, v.ownBlock = some k → base ≤ k ∧ k < w.heap.size := World.ownsRow.lt h
/-- A list's block holds words, a row's block lists: they differ. -/
theorem own_off {base base' : Nat} {w : World} {v r : Value} {l : List Nd} {vs : List Value} (h : OwN base w v l) (k : OwSN base' w r vs) : v.ownBlock = none ∨ v.ownBlock ≠ r.ownBlock := by
  rcases h.2 with ⟨rfl, _⟩ | ⟨g, cap, cur, rfl, _, hg, _⟩
  · exact Or.inl rfl
  · refine Or.inr ?_
    rcases k.2 with ⟨rfl, _⟩ | ⟨g', cap', cur', rfl, _, hg', _⟩
    · simp [Value.ownBlock]
    · intro e
      simp only [Value.ownBlock, Option.some.injEq] at e
      subst e
      rw [hg] at hg'
      simp at hg'
/-- The book's own block: its lists' row and the copies' row, nothing else. -/
def BookN (w : World) (g : Nat) (r s : Value) : Prop := w.heap[g]? = some (.cells #[.slice none 0 0, .slice none 0 0, .slice none 0 0, .slice none 0 0, r, s, .slice none 0 0, .slice none 0 0, .slice none 0 0, .slice none 0 0] 36 (0, 0))
/-- NLists of the call's own, each with its words. -/
inductive NLists (w : World) : List Value → List (List Nd) → Prop where
  | nil : NLists w [] []
  | cons {v : Value} {vs : List Value} {l : List Nd} {ls : List (List Nd)} : (∃ base, OwN base w v l) → NLists w vs ls → NLists w (v :: vs) (l :: ls)
/-- No two of the lists have a block together. -/
def AllOffN : List Value → Prop
  | [] => True
  | v :: vs => (∀ u ∈ vs, v.ownBlock = none ∨ v.ownBlock ≠ u.ownBlock) ∧ AllOffN vs
theorem NLists.length {w : World} {vs : List Value} {ls : List (List Nd)} (h : NLists w vs ls) : vs.length = ls.length := by
  induction h with
  | nil => rfl
  | cons _ _ ih => simp [ih]
theorem NLists.get {w : World} {vs : List Value} {ls : List (List Nd)} (h : NLists w vs ls) : ∀ {i : Nat} {v : Value}, vs[i]? = some v → ∃ l base, ls[i]? = some l ∧ OwN base w v l := by
  induction h with
  | nil => intro i v h; simp at h
  | cons ho _ ih =>
    intro i v hv
    cases i with
    | zero =>
      obtain ⟨base, ho⟩ := ho
      simp only [List.getElem?_cons_zero, Option.some.injEq] at hv
      subst hv
      exact ⟨_, base, rfl, ho⟩
    | succ i =>
      rw [List.getElem?_cons_succ] at hv
      obtain ⟨l, base, h1, h2⟩ := ih hv
      exact ⟨l, base, by rw [List.getElem?_cons_succ]; exact h1, h2⟩
theorem NLists.grown {w w' : World} {vs : List Value} {ls : List (List Nd)} {row : Option Nat} (h : NLists w vs ls) (hg : w.grownBy w' row) (hne : ∀ v ∈ vs, v.ownBlock = none ∨ v.ownBlock ≠ row) : NLists w' vs ls := by
  induction h with
  | nil => exact .nil
  | cons ho _ ih =>
    obtain ⟨base, ho⟩ := ho
    exact .cons ⟨base, own_grown ho hg (hne _ (List.mem_cons_self ..))⟩ (ih fun v hv => hne v (List.mem_cons_of_mem _ hv))
theorem NLists.under {w w' : World} {vs : List Value} {ls : List (List Nd)} (h : NLists w vs ls) (hb : Below w.heap.size w w') : NLists w' vs ls := by
  induction h with
  | nil => exact .nil
  | cons ho _ ih =>
    obtain ⟨base, ho⟩ := ho
    exact .cons ⟨base, ho.below hb⟩ ih
theorem NLists.append {w : World} {vs us : List Value} {ls ms : List (List Nd)} (h : NLists w vs ls) (k : NLists w us ms) : NLists w (vs ++ us) (ls ++ ms) := by
  induction h with
  | nil => exact k
  | cons ho _ ih => exact .cons ho ih
theorem NLists.off_row {w : World} {vs : List Value} {ls : List (List Nd)} {base : Nat} {r : Value} {us : List Value} (h : NLists w vs ls) (hr : OwSN base w r us) : ∀ v ∈ vs, v.ownBlock = none ∨ v.ownBlock ≠ r.ownBlock := by
  induction h with
  | nil => intro v hv; simp at hv
  | cons ho _ ih =>
    intro v hv
    rcases List.mem_cons.1 hv with rfl | hv
    · obtain ⟨base, ho⟩ := ho
      exact own_off ho hr
    · exact ih v hv
theorem NLists.off_cells {w : World} {vs : List Value} {ls : List (List Nd)} {g : Nat} {cs : Array Value} {t : TypeId} {fr : Nat × Nat} (h : NLists w vs ls) (hg : w.heap[g]? = some (.cells cs t fr)) (ht : t ≠ 43) : ∀ v ∈ vs, v.ownBlock = none ∨ v.ownBlock ≠ some g := by
  induction h with
  | nil => intro v hv; simp at hv
  | cons ho _ ih =>
    intro v hv
    rcases List.mem_cons.1 hv with rfl | hv
    · obtain ⟨base, ho⟩ := ho
      rcases ho.2 with ⟨rfl, _⟩ | ⟨g', cap, cur, rfl, _, hg', _⟩
      · exact Or.inl rfl
      · refine Or.inr fun e => ?_
        simp only [Value.ownBlock, Option.some.injEq] at e
        subst e
        rw [hg'] at hg
        simp only [Option.some.injEq, Obj.cells.injEq] at hg
        exact ht hg.2.1.symm
    · exact ih v hv
end Go.Proofs.YtkkjkohmekbdbaaDoor

namespace Go.Proofs.YtkkjkohmekbdbaaDoor
open Go.RowKit

theorem same_own {base base' : Nat} {w : World} {a a2 : Option Addr} {n c n2 c2 : Nat} {l : List Nd} (h1 : OwN base w (.slice a n c) l) (g1 : OwN base' w (.slice a2 n2 c2) l) (hl : l.length ≤ 1000000) :
    Calls Tryd.prog 14 #[.slice a n c, .slice a2 n2 c2] w fun e w' => RetV w (.bool true) e w' := by
  obtain ⟨a', c', he, q1, q2, q3, -⟩ := h1.form
  obtain ⟨a'', c'', he', r1, r2, r3, -⟩ := g1.form
  simp only [Value.slice.injEq] at he he'
  obtain ⟨rfl, rfl, rfl⟩ := he
  obtain ⟨rfl, rfl, rfl⟩ := he'
  exact samen_yes rfl rfl q3 r3 hl
theorem OwSN.at {base : Nat} {w : World} {ao : Option Addr} {n c : Nat} {vs : List Value} (h : OwSN base w (.slice ao n c) vs) {k : Nat} (hk : k < vs.length) : n = vs.length ∧ n ≤ c ∧ c ≤ 9223372036854775807 ∧ ∃ b off v, ao = some ⟨b, off, none⟩ ∧ vs[k]? = some v ∧ w.cell? ⟨b, off + k, none⟩ = some v := by
  obtain ⟨ao', cap, he, h1, h2, h3⟩ := h.form
  simp only [Value.slice.injEq] at he
  obtain ⟨rfl, rfl, rfl⟩ := he
  refine ⟨rfl, h1, h2, ?_⟩
  rcases h3 with rfl | ⟨b, off, rfl, hc⟩
  · simp at hk
  · obtain ⟨v, hv⟩ : ∃ v, vs[k]? = some v := ⟨_, List.getElem?_eq_getElem hk⟩
    exact ⟨b, off, v, rfl, hv, hc k v hv⟩
theorem NLists.slice {w : World} {vs : List Value} {ls : List (List Nd)} (h : NLists w vs ls) {i : Nat} {v : Value} (hv : vs[i]? = some v) : ∃ a n c l base, v = .slice a n c ∧ ls[i]? = some l ∧ OwN base w (.slice a n c) l := by
  obtain ⟨l, base, h1, h2⟩ := h.get hv
  obtain ⟨a, n, c, rfl⟩ := h2.slice
  exact ⟨a, n, c, l, base, rfl, h1, h2⟩
set_option maxRecDepth 100000 in
set_option maxHeartbeats 2000000 in
theorem nstill_num {w : World} {g b1 b2 : Nat} {ra sa : Option Addr} {rn rc sn sc : Nat} {vs us : List Value} {ls : List (List Nd)} (hB : BookN w g (.slice ra rn rc) (.slice sa sn sc)) (hr : OwSN b1 w (.slice ra rn rc) vs) (hs : OwSN b2 w (.slice sa sn sc) us) (hv : NLists w vs ls) (hu : NLists w us ls) (hn : rn = vs.length) (hM : rn ≤ 1000) (hL : ∀ (i : Nat) (l : List Nd), ls[i]? = some l → l.length ≤ 1000000) :
    Calls Tryd.prog 37 #[.pointer (some ⟨g, 0, none⟩)] w fun e w' => RetV w (.bool true) e w' := by
  have hl1 := hv.length
  have hl2 := hu.length
  have HN := Lib.hid hn
  have HLL := Lib.hid hL
  have HL : Hid (us.length = vs.length) := Lib.hid (by omega)
  clear hn hl1 hl2 hL
  go_enter Tryd.func37, Tryd.ntmps37
  go_wp2_with fail
  go_loopw [3] (fun ii wr => ∃ k : Nat, k ≤ rn ∧ ii = .int .i64 k ∧ Below w.heap.size w wr) (fun ii _ => rn - (intOf ii).toNat)
  case atStart => exact ⟨0, Nat.zero_le _, rfl, Below.refl _ _⟩
  case round =>
    obtain ⟨k, hk, rfl, hb⟩ := hrel
    have hc : wr.heap[g]? = some (.cells #[.slice none 0 0, .slice none 0 0, .slice none 0 0, .slice none 0 0, .slice ra rn rc, .slice sa sn sc, .slice none 0 0, .slice none 0 0, .slice none 0 0, .slice none 0 0] 36 (0, 0)) := slot_kept hB hb
    have c2 := cell_of_row wr g 4 _ _ _ hc
    have c3 := cell_of_row wr g 5 _ _ _ hc
    by_cases hlt : k < rn
    · have hkv : k < vs.length := by rw [← HN.out]; exact hlt
      have hku : k < us.length := by rw [HL.out]; exact hkv
      obtain ⟨-, hrc1, hrc2, rb, ro, v, rfl, hv1, hcv⟩ := hr.at hkv
      obtain ⟨hsn, hsc1, hsc2, sb, so, u, rfl, hu1, hcu⟩ := hs.at hku
      obtain ⟨a, n, c, l, base, rfl, hl, ho⟩ := hv.slice hv1
      obtain ⟨a2, n2, c2', l', base', rfl, hl', ho'⟩ := hu.slice hu1
      obtain rfl : l = l' := by rw [hl] at hl'; exact Option.some.inj hl'
      have HB9 := Lib.hid (HLL.out k l hl)
      have hsk : k < sn := by rw [hsn]; exact hku
      have hcv' := cell_after hb hcv
      have hcu' := cell_after hb hcu
      have hlt' : (k : Int) < (rn : Int) := by omega
      replace ho := ho.below hb
      replace ho' := ho'.below hb
      clear hv1 hu1 hl hl' hkv hku hcv hcu hsn
      go_upto_region 4 with fail
      refine wp_region_slots (by kernel_rfl) [13, 14, 15, 16, 17, 18, 19, 20, 21, 22, 23, 24, 25, 26, 27, 28] (fun w' => (w'.heap[g]? = some (.cells #[.slice none 0 0, .slice none 0 0, .slice none 0 0, .slice none 0 0, .slice (some ⟨rb, ro, none⟩) rn rc, .slice (some ⟨sb, so, none⟩) sn sc, .slice none 0 0, .slice none 0 0, .slice none 0 0, .slice none 0 0] 36 (0, 0))) ∧ (w'.cell? ⟨rb, ro + k, none⟩ = some (.slice a n c)) ∧ (w'.cell? ⟨sb, so + k, none⟩ = some (.slice a2 n2 c2')) ∧ (OwN base w' (.slice a n c) l) ∧ (OwN base' w' (.slice a2 n2 c2') l) ∧ (Below wr.heap.size wr w')) (Said [Is (.pointer (some ⟨g, 0, none⟩)), Is (.pointer (some ⟨g, 0, none⟩)), Is (.pointer (some ⟨g, 4, none⟩)), Is (.slice (some ⟨rb, ro, none⟩) rn rc), Is (.int .i64 (k : Int)), Is (.pointer (some ⟨rb, ro + k, none⟩)), Is (.slice a n c), Is (.pointer (some ⟨g, 0, none⟩)), Is (.pointer (some ⟨g, 0, none⟩)), Is (.pointer (some ⟨g, 5, none⟩)), Is (.slice (some ⟨sb, so, none⟩) sn sc), Is (.int .i64 (k : Int)), Is (.pointer (some ⟨sb, so + k, none⟩)), Is (.slice a2 n2 c2'), Is (.bool true), Is (.bool false)]) (by kernel_rfl) (by kernel_rfl) (by kernel_rfl) (by kernel_rfl) (Said.keep ?keep) ⟨slot_kept hc (bdn (Below.refl _ _) 1), cell_after (bdn (Below.refl _ _) 1) hcv', cell_after (bdn (Below.refl _ _) 1) hcu', ho.below (bdn (Below.refl _ _) 1), ho'.below (bdn (Below.refl _ _) 1), bdn (Below.refl _ _) 1⟩ (l := [0, 1, 2, 3, 4, 5, 6, 7, 8, 9, 10, 11, 12, 13, 14, 15]) (by kernel_rfl) ?step ?fin
      case keep =>
        refine List.forall_mem_cons.2 ⟨Is.keeps _, ?_⟩
        refine List.forall_mem_cons.2 ⟨Is.keeps _, ?_⟩
        refine List.forall_mem_cons.2 ⟨Is.keeps _, ?_⟩
        refine List.forall_mem_cons.2 ⟨Is.keeps _, ?_⟩
        refine List.forall_mem_cons.2 ⟨Is.keeps _, ?_⟩
        refine List.forall_mem_cons.2 ⟨Is.keeps _, ?_⟩
        refine List.forall_mem_cons.2 ⟨Is.keeps _, ?_⟩
        refine List.forall_mem_cons.2 ⟨Is.keeps _, ?_⟩
        refine List.forall_mem_cons.2 ⟨Is.keeps _, ?_⟩
        refine List.forall_mem_cons.2 ⟨Is.keeps _, ?_⟩
        refine List.forall_mem_cons.2 ⟨Is.keeps _, ?_⟩
        refine List.forall_mem_cons.2 ⟨Is.keeps _, ?_⟩
        refine List.forall_mem_cons.2 ⟨Is.keeps _, ?_⟩
        refine List.forall_mem_cons.2 ⟨Is.keeps _, ?_⟩
        refine List.forall_mem_cons.2 ⟨Is.keeps _, ?_⟩
        refine List.forall_mem_cons.2 ⟨Is.keeps _, ?_⟩
        exact fun _ h => nomatch h
      case step =>
        refine List.forall_mem_cons.2 ⟨?_, ?_⟩
        · refine SlotStep.plain rfl rfl rfl ?_
          intro tm ws hsame hS hg K hK
          have e0 : tm[0]? = some (.pointer (some ⟨g, 0, none⟩)) := hsame.2 0 rfl
          go_simp
          exact hK _ _ (Below.refl _ _) hS rfl
        refine List.forall_mem_cons.2 ⟨?_, ?_⟩
        · refine SlotStep.plain rfl rfl rfl ?_
          intro tm ws hsame hS hg K hK
          obtain ⟨v13, e13, rfl⟩ := hg 0 (by kernel_rfl) _ 13 rfl rfl
          go_simp
          exact hK _ _ (Below.refl _ _) hS rfl
        refine List.forall_mem_cons.2 ⟨?_, ?_⟩
        · refine SlotStep.plain rfl rfl rfl ?_
          intro tm ws hsame hS hg K hK
          obtain ⟨v14, e14, rfl⟩ := hg 1 (by kernel_rfl) _ 14 rfl rfl
          go_simp
          exact hK _ _ (Below.refl _ _) hS rfl
        refine List.forall_mem_cons.2 ⟨?_, ?_⟩
        · refine SlotStep.plain rfl rfl rfl ?_
          intro tm ws hsame hS hg K hK
          obtain ⟨v15, e15, rfl⟩ := hg 2 (by kernel_rfl) _ 15 rfl rfl
          have cc := cell_of_row ws g 4 _ _ _ (hS.1)
          go_simp
          exact hK _ _ (Below.refl _ _) hS rfl
        refine List.forall_mem_cons.2 ⟨?_, ?_⟩
        · refine SlotStep.plain rfl rfl rfl ?_
          intro tm ws hsame hS hg K hK
          have e3 : tm[3]? = some (.int .i64 (k : Int)) := hsame.2 3 rfl
          go_simp
          exact hK _ _ (Below.refl _ _) hS rfl
        refine List.forall_mem_cons.2 ⟨?_, ?_⟩
        · refine SlotStep.plain rfl rfl rfl ?_
          intro tm ws hsame hS hg K hK
          obtain ⟨v16, e16, rfl⟩ := hg 3 (by kernel_rfl) _ 16 rfl rfl
          obtain ⟨v17, e17, rfl⟩ := hg 4 (by kernel_rfl) _ 17 rfl rfl
          go_simp
          exact hK _ _ (Below.refl _ _) hS rfl
        refine List.forall_mem_cons.2 ⟨?_, ?_⟩
        · refine SlotStep.plain rfl rfl rfl ?_
          intro tm ws hsame hS hg K hK
          obtain ⟨v18, e18, rfl⟩ := hg 5 (by kernel_rfl) _ 18 rfl rfl
          have cc := hS.2.1
          go_simp
          exact hK _ _ (Below.refl _ _) hS rfl
        refine List.forall_mem_cons.2 ⟨?_, ?_⟩
        · refine SlotStep.plain rfl rfl rfl ?_
          intro tm ws hsame hS hg K hK
          have e0 : tm[0]? = some (.pointer (some ⟨g, 0, none⟩)) := hsame.2 0 rfl
          go_simp
          exact hK _ _ (Below.refl _ _) hS rfl
        refine List.forall_mem_cons.2 ⟨?_, ?_⟩
        · refine SlotStep.plain rfl rfl rfl ?_
          intro tm ws hsame hS hg K hK
          obtain ⟨v20, e20, rfl⟩ := hg 7 (by kernel_rfl) _ 20 rfl rfl
          go_simp
          exact hK _ _ (Below.refl _ _) hS rfl
        refine List.forall_mem_cons.2 ⟨?_, ?_⟩
        · refine SlotStep.plain rfl rfl rfl ?_
          intro tm ws hsame hS hg K hK
          obtain ⟨v21, e21, rfl⟩ := hg 8 (by kernel_rfl) _ 21 rfl rfl
          go_simp
          exact hK _ _ (Below.refl _ _) hS rfl
        refine List.forall_mem_cons.2 ⟨?_, ?_⟩
        · refine SlotStep.plain rfl rfl rfl ?_
          intro tm ws hsame hS hg K hK
          obtain ⟨v22, e22, rfl⟩ := hg 9 (by kernel_rfl) _ 22 rfl rfl
          have cc := cell_of_row ws g 5 _ _ _ (hS.1)
          go_simp
          exact hK _ _ (Below.refl _ _) hS rfl
        refine List.forall_mem_cons.2 ⟨?_, ?_⟩
        · refine SlotStep.plain rfl rfl rfl ?_
          intro tm ws hsame hS hg K hK
          have e3 : tm[3]? = some (.int .i64 (k : Int)) := hsame.2 3 rfl
          go_simp
          exact hK _ _ (Below.refl _ _) hS rfl
        refine List.forall_mem_cons.2 ⟨?_, ?_⟩
        · refine SlotStep.plain rfl rfl rfl ?_
          intro tm ws hsame hS hg K hK
          obtain ⟨v23, e23, rfl⟩ := hg 10 (by kernel_rfl) _ 23 rfl rfl
          obtain ⟨v24, e24, rfl⟩ := hg 11 (by kernel_rfl) _ 24 rfl rfl
          go_simp
          exact hK _ _ (Below.refl _ _) hS rfl
        refine List.forall_mem_cons.2 ⟨?_, ?_⟩
        · refine SlotStep.plain rfl rfl rfl ?_
          intro tm ws hsame hS hg K hK
          obtain ⟨v25, e25, rfl⟩ := hg 12 (by kernel_rfl) _ 25 rfl rfl
          have cc := hS.2.2.1
          go_simp
          exact hK _ _ (Below.refl _ _) hS rfl
        refine List.forall_mem_cons.2 ⟨?_, ?_⟩
        · refine SlotStep.plain rfl rfl rfl ?_
          intro tm ws hsame hS hg K hK
          obtain ⟨v19, e19, rfl⟩ := hg 6 (by kernel_rfl) _ 19 rfl rfl
          obtain ⟨v26, e26, rfl⟩ := hg 13 (by kernel_rfl) _ 26 rfl rfl
          go_simp
          refine (same_own hS.2.2.2.1 hS.2.2.2.2.1 HB9.out).mono ?_
          rintro e wm ⟨rfl, hb⟩
          exact hK _ _ hb (⟨slot_kept (hS.1) (hb), cell_after (hb) (hS.2.1), cell_after (hb) (hS.2.2.1), (hS.2.2.2.1).below (hb), (hS.2.2.2.2.1).below (hb), (hS.2.2.2.2.2).trans (Below.mono (hb) (hS.2.2.2.2.2).size)⟩) rfl
        refine List.forall_mem_cons.2 ⟨?_, ?_⟩
        · refine SlotStep.plain rfl rfl rfl ?_
          intro tm ws hsame hS hg K hK
          obtain ⟨v27, e27, rfl⟩ := hg 14 (by kernel_rfl) _ 27 rfl rfl
          go_simp
          exact hK _ _ (Below.refl _ _) hS rfl
        exact fun _ h => nomatch h
      case fin =>
        intro tm w8 hsame hS hgot
        obtain ⟨u, hu, htm⟩ := hsame.form (by kernel_rfl)
        obtain ⟨v28, e28, rfl⟩ := hgot 15 _ 28 rfl rfl
        have h28 := hu _ _ e28
        have hb8 := hS.2.2.2.2.2
        clear hgot hu hsame e28 hS
        rw [htm]
        clear htm tm
        simp only [List.foldl_cons, List.foldl_nil, List.setIfInBounds_toArray, List.set_cons_zero, List.set_cons_succ, h28]
        clear h28
        have hbb := hb.trans (hb8.mono hb.size)
        clear hb8 hb
        go_wp2_with fail
        go_roundw
        case rel => exact ⟨k + 1, by omega, by go_num, hbb⟩
        case measure => simp [intOf]; omega
    · obtain rfl : k = rn := by omega
      go_wp2_with fail
      go_ret
      exact ⟨rfl, hb⟩
def IsOwnN (l : List Nd) (v : Value) (w : World) : Prop := ∃ a n c, v = .slice a n c ∧ ∃ base, OwN base w (.slice a n c) l
theorem IsOwnN.keeps (l : List Nd) : Keeps (IsOwnN l) := fun _ _ _ hb ⟨a, n, c, h1, base, h2⟩ => ⟨a, n, c, h1, base, h2.below hb⟩
set_option maxRecDepth 100000 in
set_option maxHeartbeats 2000000 in
theorem nmarked_num {w : World} {b1 : Nat} {ra : Option Addr} {rn rc : Nat} {vs : List Value} {ls : List (List Nd)} (hr : OwSN b1 w (.slice ra rn rc) vs) (hv : NLists w vs ls) (hn : rn = vs.length) (hM : rn ≤ 300) (hmk : ∀ (i : Nat) (l : List Nd), ls[i]? = some l → l = nmarks i 0 l.length ∧ l.length ≤ 100000) :
    Calls Tryd.prog 52 #[.slice ra rn rc] w fun e w' => RetV w (.bool true) e w' := by
  have HN := Lib.hid hn
  have HMK := Lib.hid hmk
  clear hn hmk
  go_enter Tryd.func52, Tryd.ntmps52
  go_wp2_with fail
  go_loopw [3] (fun ii wr => ∃ k : Nat, k ≤ rn ∧ ii = .int .i64 k ∧ Below w.heap.size w wr) (fun ii _ => rn - (intOf ii).toNat)
  case atStart => exact ⟨0, Nat.zero_le _, rfl, Below.refl _ _⟩
  case round =>
    obtain ⟨k, hk, rfl, hb⟩ := hrel
    by_cases hlt : k < rn
    · have hkv : k < vs.length := by rw [← HN.out]; exact hlt
      obtain ⟨-, hrc1, hrc2, rb, ro, v, rfl, hv1, hcv⟩ := hr.at hkv
      obtain ⟨a, n, c, l, base, rfl, hl, ho⟩ := hv.slice hv1
      obtain ⟨hl2, hl3⟩ := HMK.out k l hl
      have hn2 : n = l.length := by
        obtain ⟨a', c', he, -⟩ := ho.form
        simp only [Value.slice.injEq] at he
        exact he.2.1
      rw [← hn2] at hl2 hl3
      have HB9 : Hid (l.length ≤ 1000000) := Lib.hid (by omega)
      have hmk := fun w' => nmark_num k 0 n w' (by omega) (by decide) hl3
      rw [← hl2] at hmk
      have HMC := Lib.hid hmk
      have hcv' := cell_after hb hcv
      have hlt' : (k : Int) < (rn : Int) := by omega
      replace ho := ho.below hb
      clear hv1 hl hkv hcv hl2 hn2 hmk
      go_upto_region 4 with fail
      refine wp_region_slots (by kernel_rfl) [10, 11, 12, 13, 14, 15, 16, 17, 18, 19, 20, 21, 22] (fun w' => (w'.cell? ⟨rb, ro + k, none⟩ = some (.slice a n c)) ∧ (OwN base w' (.slice a n c) l) ∧ (Below wr.heap.size wr w')) (Said [Is (.slice (some ⟨rb, ro, none⟩) rn rc), Is (.int .i64 (k : Int)), Is (.pointer (some ⟨rb, ro + k, none⟩)), Is (.slice a n c), Is (.int .i64 (k : Int)), Is (.slice (some ⟨rb, ro, none⟩) rn rc), Is (.int .i64 (k : Int)), Is (.pointer (some ⟨rb, ro + k, none⟩)), Is (.slice a n c), Is (.int .i64 (n : Int)), IsOwnN l, Is (.bool true), Is (.bool false)]) (by kernel_rfl) (by kernel_rfl) (by kernel_rfl) (by kernel_rfl) (Said.keep ?keep) ⟨cell_after (bdn (Below.refl _ _) 1) hcv', ho.below (bdn (Below.refl _ _) 1), bdn (Below.refl _ _) 1⟩ (l := [0, 1, 2, 3, 4, 5, 6, 7, 8, 9, 10, 11, 12]) (by kernel_rfl) ?step ?fin
      case keep =>
        refine List.forall_mem_cons.2 ⟨Is.keeps _, ?_⟩
        refine List.forall_mem_cons.2 ⟨Is.keeps _, ?_⟩
        refine List.forall_mem_cons.2 ⟨Is.keeps _, ?_⟩
        refine List.forall_mem_cons.2 ⟨Is.keeps _, ?_⟩
        refine List.forall_mem_cons.2 ⟨Is.keeps _, ?_⟩
        refine List.forall_mem_cons.2 ⟨Is.keeps _, ?_⟩
        refine List.forall_mem_cons.2 ⟨Is.keeps _, ?_⟩
        refine List.forall_mem_cons.2 ⟨Is.keeps _, ?_⟩
        refine List.forall_mem_cons.2 ⟨Is.keeps _, ?_⟩
        refine List.forall_mem_cons.2 ⟨Is.keeps _, ?_⟩
        refine List.forall_mem_cons.2 ⟨IsOwnN.keeps _, ?_⟩
        refine List.forall_mem_cons.2 ⟨Is.keeps _, ?_⟩
        refine List.forall_mem_cons.2 ⟨Is.keeps _, ?_⟩
        exact fun _ h => nomatch h
      case step =>
        refine List.forall_mem_cons.2 ⟨?_, ?_⟩
        · refine SlotStep.plain rfl rfl rfl ?_
          intro tm ws hsame hS hg K hK
          have e0 : tm[0]? = some (.slice (some ⟨rb, ro, none⟩) rn rc) := hsame.2 0 rfl
          go_simp
          exact hK _ _ (Below.refl _ _) hS rfl
        refine List.forall_mem_cons.2 ⟨?_, ?_⟩
        · refine SlotStep.plain rfl rfl rfl ?_
          intro tm ws hsame hS hg K hK
          have e3 : tm[3]? = some (.int .i64 (k : Int)) := hsame.2 3 rfl
          go_simp
          exact hK _ _ (Below.refl _ _) hS rfl
        refine List.forall_mem_cons.2 ⟨?_, ?_⟩
        · refine SlotStep.plain rfl rfl rfl ?_
          intro tm ws hsame hS hg K hK
          obtain ⟨v10, e10, rfl⟩ := hg 0 (by kernel_rfl) _ 10 rfl rfl
          obtain ⟨v11, e11, rfl⟩ := hg 1 (by kernel_rfl) _ 11 rfl rfl
          go_simp
          exact hK _ _ (Below.refl _ _) hS rfl
        refine List.forall_mem_cons.2 ⟨?_, ?_⟩
        · refine SlotStep.plain rfl rfl rfl ?_
          intro tm ws hsame hS hg K hK
          obtain ⟨v12, e12, rfl⟩ := hg 2 (by kernel_rfl) _ 12 rfl rfl
          have cc := hS.1
          go_simp
          exact hK _ _ (Below.refl _ _) hS rfl
        refine List.forall_mem_cons.2 ⟨?_, ?_⟩
        · refine SlotStep.plain rfl rfl rfl ?_
          intro tm ws hsame hS hg K hK
          have e3 : tm[3]? = some (.int .i64 (k : Int)) := hsame.2 3 rfl
          go_simp
          exact hK _ _ (Below.refl _ _) hS rfl
        refine List.forall_mem_cons.2 ⟨?_, ?_⟩
        · refine SlotStep.plain rfl rfl rfl ?_
          intro tm ws hsame hS hg K hK
          have e0 : tm[0]? = some (.slice (some ⟨rb, ro, none⟩) rn rc) := hsame.2 0 rfl
          go_simp
          exact hK _ _ (Below.refl _ _) hS rfl
        refine List.forall_mem_cons.2 ⟨?_, ?_⟩
        · refine SlotStep.plain rfl rfl rfl ?_
          intro tm ws hsame hS hg K hK
          have e3 : tm[3]? = some (.int .i64 (k : Int)) := hsame.2 3 rfl
          go_simp
          exact hK _ _ (Below.refl _ _) hS rfl
        refine List.forall_mem_cons.2 ⟨?_, ?_⟩
        · refine SlotStep.plain rfl rfl rfl ?_
          intro tm ws hsame hS hg K hK
          obtain ⟨v15, e15, rfl⟩ := hg 5 (by kernel_rfl) _ 15 rfl rfl
          obtain ⟨v16, e16, rfl⟩ := hg 6 (by kernel_rfl) _ 16 rfl rfl
          go_simp
          exact hK _ _ (Below.refl _ _) hS rfl
        refine List.forall_mem_cons.2 ⟨?_, ?_⟩
        · refine SlotStep.plain rfl rfl rfl ?_
          intro tm ws hsame hS hg K hK
          obtain ⟨v17, e17, rfl⟩ := hg 7 (by kernel_rfl) _ 17 rfl rfl
          have cc := hS.1
          go_simp
          exact hK _ _ (Below.refl _ _) hS rfl
        refine List.forall_mem_cons.2 ⟨?_, ?_⟩
        · refine SlotStep.plain rfl rfl rfl ?_
          intro tm ws hsame hS hg K hK
          obtain ⟨v18, e18, rfl⟩ := hg 8 (by kernel_rfl) _ 18 rfl rfl
          go_simp
          exact hK _ _ (Below.refl _ _) hS rfl
        refine List.forall_mem_cons.2 ⟨?_, ?_⟩
        · refine SlotStep.plain rfl rfl rfl ?_
          intro tm ws hsame hS hg K hK
          obtain ⟨v14, e14, rfl⟩ := hg 4 (by kernel_rfl) _ 14 rfl rfl
          obtain ⟨v19, e19, rfl⟩ := hg 9 (by kernel_rfl) _ 19 rfl rfl
          go_simp
          refine (HMC.out ws).mono ?_
          rintro e wm ⟨vO, rfl, hO, hb⟩
          obtain ⟨aO, nO, cO, rfl⟩ := hO.slice
          exact hK _ _ hb (⟨cell_after (hb) (hS.1), (hS.2.1).below (hb), (hS.2.2).trans (Below.mono (hb) (hS.2.2).size)⟩) ⟨aO, nO, cO, rfl, _, hO⟩
        refine List.forall_mem_cons.2 ⟨?_, ?_⟩
        · refine SlotStep.plain rfl rfl rfl ?_
          intro tm ws hsame hS hg K hK
          obtain ⟨v13, e13, rfl⟩ := hg 3 (by kernel_rfl) _ 13 rfl rfl
          obtain ⟨v20, e20, ⟨a20, n20, c20, rfl, g20⟩⟩ := hg 10 (by kernel_rfl) _ 20 rfl rfl
          obtain ⟨base2, g2⟩ := g20
          go_simp
          refine (same_own hS.2.1 g2 HB9.out).mono ?_
          rintro e wm ⟨rfl, hb⟩
          exact hK _ _ hb (⟨cell_after (hb) (hS.1), (hS.2.1).below (hb), (hS.2.2).trans (Below.mono (hb) (hS.2.2).size)⟩) rfl
        refine List.forall_mem_cons.2 ⟨?_, ?_⟩
        · refine SlotStep.plain rfl rfl rfl ?_
          intro tm ws hsame hS hg K hK
          obtain ⟨v21, e21, rfl⟩ := hg 11 (by kernel_rfl) _ 21 rfl rfl
          go_simp
          exact hK _ _ (Below.refl _ _) hS rfl
        exact fun _ h => nomatch h
      case fin =>
        intro tm w8 hsame hS hgot
        obtain ⟨u, hu, htm⟩ := hsame.form (by kernel_rfl)
        obtain ⟨v22, e22, rfl⟩ := hgot 12 _ 22 rfl rfl
        have h22 := hu _ _ e22
        have hb8 := hS.2.2
        clear hgot hu hsame e22 hS
        rw [htm]
        clear htm tm
        simp only [List.foldl_cons, List.foldl_nil, List.setIfInBounds_toArray, List.set_cons_zero, List.set_cons_succ, h22]
        clear h22
        have hbb := hb.trans (hb8.mono hb.size)
        clear hb8 hb
        go_wp2_with fail
        go_roundw
        case rel => exact ⟨k + 1, by omega, by go_num, hbb⟩
        case measure => simp [intOf]; omega
    · obtain rfl : k = rn := by omega
      go_wp2_with fail
      go_ret
      exact ⟨rfl, hb⟩
end Go.Proofs.YtkkjkohmekbdbaaDoor

namespace Go.Proofs.YtkkjkohmekbdbaaDoor
open Go.RowKit

theorem run_store_flt {P : Program} {w : World} {a : Addr} {m : Mode} (k : FloatKind) (n : Nat) : (store a (.float k n) m).run P w = stored P w a (.float k n) m := run_store P w a _ m rfl
attribute [local go_sem] run_store_flt
/-- One node of a row is turned. -/
def setN (w : World) (b j : Nat) (x : Nd) : World := (((w.setCell ⟨b, j * 4, none⟩ (.int .i64 x.1)).setCell ⟨b, j * 4 + 1, none⟩ (.float .f64 x.2.1)).setCell ⟨b, j * 4 + 2, none⟩ (.int .i64 x.2.2.1)).setCell ⟨b, j * 4 + 3, none⟩ (.int .i64 x.2.2.2)
theorem setN_only (w : World) {b j hi : Nat} (x : Nd) (h : j * 4 + 3 < hi) : Only b 0 hi w (setN w b j x) :=
  (((Only.store (j * 4) _ (Nat.zero_le _) (by omega)).trans (Only.store (j * 4 + 1) _ (Nat.zero_le _) (by omega))).trans (Only.store (j * 4 + 2) _ (Nat.zero_le _) (by omega))).trans (Only.store (j * 4 + 3) _ (Nat.zero_le _) (by omega))
theorem ncells_set (l : List Nd) (j : Nat) (x : Nd) (hj : j < l.length) : ncells (l.set j x) = ((((ncells l).set (j * 4) (.int .i64 x.1)).set (j * 4 + 1) (.float .f64 x.2.1)).set (j * 4 + 2) (.int .i64 x.2.2.1)).set (j * 4 + 3) (.int .i64 x.2.2.2) := by
  induction l generalizing j with
  | nil => simp at hj
  | cons m l ih =>
    have e : ncells (m :: l) = ncell m ++ ncells l := rfl
    have hl : (ncell m).length = 4 := rfl
    rw [e]
    cases j with
    | zero => rfl
    | succ j =>
      have e2 : ncells ((m :: l).set (j + 1) x) = ncell m ++ ncells (l.set j x) := rfl
      rw [e2, ih j (by simpa using hj), show (j + 1) * 4 = (ncell m).length + j * 4 by omega, Nat.add_assoc, Nat.add_assoc, Nat.add_assoc]
      rw [List.set_append_right _ _ (by omega), List.set_append_right _ _ (by omega), List.set_append_right _ _ (by omega), List.set_append_right _ _ (by omega)]
      simp only [Nat.add_sub_cancel_left]
theorem OwN.store {base : Nat} {w : World} {b n cap j : Nat} {l : List Nd} (x : Nd) (h : OwN base w (.slice (some ⟨b, 0, none⟩) n cap) l) (hj : j < l.length) : OwN base (setN w b j x) (.slice (some ⟨b, 0, none⟩) n cap) (l.set j x) := by
  obtain ⟨h1, h2⟩ := h
  rcases h2 with ⟨h, _⟩ | ⟨g', cap', cur, hv, hg, hh, hn, hm, hc, ht⟩
  · simp at h
  · simp only [Value.slice.injEq, Option.some.injEq, Addr.mk.injEq, and_true] at hv
    obtain ⟨rfl, rfl, rfl⟩ := hv
    have e1 := heap_setCell_same _ _ (j * 4 + 3) _ _ (.int .i64 x.2.2.2) (heap_setCell_same _ _ (j * 4 + 2) _ _ (.int .i64 x.2.2.1) (heap_setCell_same _ _ (j * 4 + 1) _ _ (.float .f64 x.2.1) (heap_setCell_same w b (j * 4) _ _ (.int .i64 x.1) hh)))
    refine ⟨by rw [ncells_length], Or.inr ⟨b, cap, _, by rw [List.length_set], hg, e1, by rw [List.length_set]; exact hn, hm, by simp only [Array.size_setIfInBounds]; exact hc, ?_⟩⟩
    rw [List.length_set, ncells_set _ _ _ hj, ← ht]
    simp only [Array.toList_setIfInBounds, List.take_set]
/-- Its cells may be turned. -/
theorem OwN.free {base : Nat} {w : World} {b n cap : Nat} {l : List Nd} (h : OwN base w (.slice (some ⟨b, 0, none⟩) n cap) l) (k : Nat) : w.frozen? ⟨b, k, none⟩ = false := by
  rcases h.2 with ⟨h, _⟩ | ⟨g', cap', cur, hv, hg, hh, -⟩
  · simp at h
  · simp only [Value.slice.injEq, Option.some.injEq, Addr.mk.injEq, and_true] at hv
    obtain ⟨rfl, -, rfl⟩ := hv
    exact frozen_of_row w b k _ _ hh
theorem nmix_length (m l : List Nd) (j : Nat) (h : m.length = l.length) (hj : j ≤ l.length) : (m.take j ++ l.drop j).length = l.length := by
  rw [List.length_append, List.length_take, List.length_drop]; omega
theorem nmix_set (m l : List Nd) (j : Nat) (x : Nd) (h : m.length = l.length) (hx : m[j]? = some x) : (m.take j ++ l.drop j).set j x = m.take (j + 1) ++ l.drop (j + 1) := by
  have hj : j < m.length := (List.getElem?_eq_some_iff.1 hx).1
  apply List.ext_getElem?
  intro i
  rw [List.getElem?_set]
  by_cases hij : j = i
  · subst hij
    rw [if_pos rfl, if_pos (by rw [nmix_length m l j h (by omega)]; omega), List.getElem?_append_left (by rw [List.length_take]; omega), List.getElem?_take, if_pos (by omega), hx]
  · rw [if_neg hij]
    rcases Nat.lt_or_ge i j with h1 | h1
    · rw [List.getElem?_append_left (by rw [List.length_take]; omega), List.getElem?_append_left (by rw [List.length_take]; omega), List.getElem?_take, List.getElem?_take, if_pos h1, if_pos (by omega)]
    · rw [List.getElem?_append_right (by rw [List.length_take]; omega), List.getElem?_append_right (by rw [List.length_take]; omega), List.length_take, List.length_take, List.getElem?_drop, List.getElem?_drop]
      congr 1; omega
theorem own_first {base : Nat} {w : World} {a : Option Addr} {n cap : Nat} {l : List Nd} (h : OwN base w (.slice a n cap) l) (hn : 0 < n) : ∃ b, a = some ⟨b, 0, none⟩ := by
  rcases h.2 with ⟨h1, h2⟩ | ⟨b, cap, cur, h1, _⟩
  · simp only [Value.slice.injEq] at h1
    omega
  · simp only [Value.slice.injEq] at h1
    exact ⟨b, h1.1⟩
theorem OwSN.only {base : Nat} {w w' : World} {v : Value} {vs : List Value} {b lo hi : Nat} (h : OwSN base w v vs) (ho : Only b lo hi w w') (hne : v.ownBlock ≠ some b) : OwSN base w' v vs := by
  refine ⟨h.1, ?_⟩
  rcases h.2 with h2 | ⟨g, cap, cur, rfl, hb, hh, r⟩
  · exact Or.inl h2
  · refine Or.inr ⟨g, cap, cur, rfl, hb, ?_, r⟩
    rw [ho.block g (Array.getElem?_eq_some_iff.1 hh).1 (fun e => hne (by simp [Value.ownBlock, e]))]
    exact hh
/-- One list's words are turned. -/
theorem NLists.set {w w' : World} {b lo hi base : Nat} {l' : List Nd} (ho : Only b lo hi w w') : ∀ {vs : List Value} {ls : List (List Nd)} {k : Nat} {v : Value}, NLists w vs ls → AllOffN vs → vs[k]? = some v → v.ownBlock = some b → OwN base w' v l' → NLists w' vs (ls.set k l') := by
  intro vs ls k v h
  have away : ∀ {vs : List Value} {ls : List (List Nd)}, NLists w vs ls → (∀ u ∈ vs, u.ownBlock ≠ some b) → NLists w' vs ls := by
    intro vs ls h
    induction h with
    | nil => intro _; exact .nil
    | cons hl _ ih =>
      intro hne
      obtain ⟨base, hl⟩ := hl
      exact .cons ⟨base, hl.only' ho (hne _ (List.mem_cons_self ..))⟩ (ih fun u hu => hne u (List.mem_cons_of_mem _ hu))
  induction h generalizing k with
  | nil => intro _ h; simp at h
  | cons hl hr ih =>
    intro ha hk hv hO
    cases k with
    | zero =>
      simp only [List.getElem?_cons_zero, Option.some.injEq] at hk
      subst hk
      refine .cons ⟨base, hO⟩ (away hr fun u hu => ?_)
      rcases ha.1 u hu with h | h
      · rw [hv] at h; cases h
      · rw [hv] at h; exact fun e => h e.symm
    | succ k =>
      rw [List.getElem?_cons_succ] at hk
      obtain ⟨base', hl⟩ := hl
      refine .cons ⟨base', hl.only' ho ?_⟩ (ih ha.2 hk hv hO)
      rcases ha.1 _ (List.mem_of_getElem? hk) with h | h
      · rw [h]; simp
      · rw [hv] at h; exact h
theorem bookn_only {w w' : World} {g b lo hi : Nat} {r s : Value} (h : BookN w g r s) (ho : Only b lo hi w w') (hne : b ≠ g) : BookN w' g r s :=
  (ho.block g (Array.getElem?_eq_some_iff.1 h).1 (fun e => hne e.symm)).trans h
theorem own_book {base : Nat} {w : World} {b g n cap : Nat} {l : List Nd} {r s : Value} (h : OwN base w (.slice (some ⟨b, 0, none⟩) n cap) l) (hB : BookN w g r s) : b ≠ g := by
  rintro rfl
  rcases h.2 with ⟨h1, _⟩ | ⟨g', cap', cur, he, _, hg, _⟩
  · cases h1
  · simp only [Value.slice.injEq, Option.some.injEq, Addr.mk.injEq] at he
    obtain ⟨⟨rfl, -⟩, -⟩ := he
    unfold BookN at hB
    rw [hB] at hg
    simp only [Option.some.injEq, Obj.cells.injEq] at hg
    exact absurd hg.2.1 (by decide)
theorem nset_same {ls : List (List Nd)} {k : Nat} {l : List Nd} (h : ls[k]? = some l) : ls.set k l = ls := by
  apply List.ext_getElem?
  intro i
  rw [List.getElem?_set]
  by_cases hij : k = i
  · subst hij
    rw [if_pos rfl, if_pos (List.getElem?_eq_some_iff.1 h).1, h]
  · rw [if_neg hij]
/-- The first k lists are marked. -/
def HalfN (ls ls' : List (List Nd)) (k : Nat) : Prop := ∀ (i : Nat) (l : List Nd), ls[i]? = some l → ls'[i]? = some (if i < k then nmarks i 0 l.length else l)
theorem HalfN.step {ls ls' : List (List Nd)} {k : Nat} (h : HalfN ls ls' k) {l : List Nd} (hl : ls[k]? = some l) : HalfN ls (ls'.set k (nmarks k 0 l.length)) (k + 1) := by
  intro i m hm
  have h1 := h i m hm
  rw [List.getElem?_set]
  by_cases hik : k = i
  · subst hik
    rw [hl] at hm
    obtain rfl := Option.some.inj hm
    rw [if_pos rfl, if_pos (List.getElem?_eq_some_iff.1 h1).1, if_pos (by omega)]
  · rw [if_neg hik, h1]
    by_cases h2 : i < k
    · rw [if_pos h2, if_pos (by omega)]
    · rw [if_neg h2, if_neg (by omega)]
set_option maxRecDepth 100000 in
set_option maxHeartbeats 2000000 in
theorem bput_num {w : World} {g b1 B : Nat} {ra sa : Option Addr} {rn rc sn sc : Nat} {vs : List Value} {ls : List (List Nd)} (hB : BookN w g (.slice ra rn rc) (.slice sa sn sc)) (hr : OwSN b1 w (.slice ra rn rc) vs) (hv : NLists w vs ls) (ha : AllOffN vs) (hn : rn = vs.length) (hM : rn ≤ 300) (hlen : ∀ (i : Nat) (l : List Nd), ls[i]? = some l → l.length ≤ 100000) (hBv : ∀ v ∈ vs, ∀ b, v.ownBlock = some b → B ≤ b) (hBw : B ≤ w.heap.size) :
    Calls Tryd.prog 43 #[.pointer (some ⟨g, 0, none⟩)] w fun e w' => e = .returned (.tuple #[]) ∧ BookN w' g (.slice ra rn rc) (.slice sa sn sc) ∧ OwSN b1 w' (.slice ra rn rc) vs ∧ (∃ ls', NLists w' vs ls' ∧ HalfN ls ls' rn) ∧ Below B w w' := by
  have HN := Lib.hid hn
  have HLN := Lib.hid hlen
  have HBV := Lib.hid hBv
  have HA := Lib.hid ha
  have hl1 := hv.length
  have HL1 := Lib.hid hl1
  clear hn hlen hBv ha hl1
  go_enter Tryd.func43, Tryd.ntmps43
  go_wp2_with fail
  go_loopw [2, 3, 4] (fun ii _mm _kk wr => ∃ (k : Nat) (ls' : List (List Nd)), k ≤ rn ∧ ii = .int .i64 k ∧ BookN wr g (.slice ra rn rc) (.slice sa sn sc) ∧ OwSN b1 wr (.slice ra rn rc) vs ∧ Hid (NLists wr vs ls') ∧ Hid (HalfN ls ls' k) ∧ Below B w wr) (fun ii _ _ _ => rn - (intOf ii).toNat)
  case atStart => exact ⟨0, ls, Nat.zero_le _, rfl, hB, hr, Lib.hid hv, Lib.hid (fun i l h => by rw [if_neg (by omega)]; exact h), Below.refl _ _⟩
  case round =>
    obtain ⟨k, ls', hk, rfl, hBr, hrr, HK, HH, hb⟩ := hrel
    have c2 := cell_of_row wr g 4 _ _ _ hBr
    by_cases hlt : k < rn
    · have hkv : k < vs.length := by rw [← HN.out]; exact hlt
      obtain ⟨-, hrc1, hrc2, rb, ro, v, rfl, hv1, hcv⟩ := hrr.at hkv
      obtain ⟨l0, hl0⟩ : ∃ l0, ls[k]? = some l0 := ⟨_, List.getElem?_eq_getElem (by rw [← HL1.out]; exact hkv)⟩
      have hl0' := HH.out k l0 hl0
      rw [if_neg (by omega)] at hl0'
      obtain ⟨a, n, c, l, base, rfl, hl, ho⟩ := HK.out.slice hv1
      obtain rfl : l0 = l := by rw [hl] at hl0'; exact (Option.some.inj hl0').symm
      have hn2 : n = l0.length := by
        obtain ⟨a', c', he, -⟩ := ho.form
        simp only [Value.slice.injEq] at he
        exact he.2.1
      have hl3 := HLN.out k l0 hl0
      rw [← hn2] at hl3
      have hmk := nmark_num k 0 n wr (by omega) (by decide) hl3
      have HMC := Lib.hid hmk
      have hlt' : (k : Int) < (rn : Int) := by omega
      have HN2 := Lib.hid hn2
      have HL0 := Lib.hid hl0
      have HL := Lib.hid hl
      have HV1 := Lib.hid hv1
      have HO := Lib.hid ho
      clear hl0 hl0' hl hn2 hmk ho hv1 hkv
      go_wp2_with fail
      refine HMC.out.mono ?_
      rintro e w1 ⟨mv, rfl, hOm, hb1⟩
      obtain ⟨ma, mn, mc, rfl⟩ := hOm.slice
      have hmn : mn = n := by
        obtain ⟨a', c', he, -⟩ := hOm.form
        simp only [Value.slice.injEq] at he
        rw [he.2.1, nmarks_length]
      subst hmn
      have HOFF : Hid (∀ b, (Value.slice a mn c).ownBlock = some b → (Value.slice ma mn mc).ownBlock ≠ some b) := Lib.hid (by
        intro b h1 h2
        have h3 := (own_ltb HO.out b h1).2
        have h4 := (own_ltb hOm b h2).1
        omega)
      have hB1 : BookN w1 g (.slice (some ⟨rb, ro, none⟩) rn rc) (.slice sa sn sc) := slot_kept hBr hb1
      have hr1 := hrr.below hb1
      have hbw1 : Below B w w1 := hb.trans (hb1.mono (by have := hb.size; omega))
      have HK1 := Lib.hid (HK.out.under hb1)
      obtain ⟨z0, hz0⟩ : ∃ z0, wr.heap.size = z0 := ⟨_, rfl⟩
      rw [hz0] at hOm
      clear hz0
      clear hb1 hBr hrr c2 hcv
      go_wp2_with fail
      go_loopw [4] (fun jj wi => ∃ j : Nat, j ≤ mn ∧ jj = .int .i64 j ∧ BookN wi g (.slice (some ⟨rb, ro, none⟩) rn rc) (.slice sa sn sc) ∧ OwSN b1 wi (.slice (some ⟨rb, ro, none⟩) rn rc) vs ∧ Hid (NLists wi vs (ls'.set k ((nmarks k 0 mn).take j ++ l0.drop j))) ∧ OwN z0 wi (.slice ma mn mc) (nmarks k 0 mn) ∧ Below B w wi) (fun jj _ => mn - (intOf jj).toNat)
      case atStart => exact ⟨0, Nat.zero_le _, rfl, hB1, hr1, Lib.hid (by rw [List.take_zero, List.nil_append, List.drop_zero, nset_same HL.out]; exact HK1.out), hOm, hbw1⟩
      case round =>
        obtain ⟨j, hj, rfl, hBi, hri, HKI, hOi, hbi⟩ := hrel
        clear hB1 hr1 hOm hbw1 HK1
        have c2 := cell_of_row wr g 4 _ _ _ hBi
        by_cases hjn : j < mn
        · obtain ⟨x, hx⟩ : ∃ x, nmark k (0 + j) = x := ⟨_, rfl⟩
          have hxm : (nmarks k 0 mn)[j]? = some x := by rw [nmarks_get k 0 mn j hjn, hx]
          clear hx
          have HX := Lib.hid hxm
          have hml := nmarks_length k 0 mn
          obtain ⟨a', n', c', l1, base1, he1, hl1, ho1⟩ := HKI.out.slice HV1.out
          simp only [Value.slice.injEq] at he1
          obtain ⟨rfl, rfl, rfl⟩ := he1
          have hl2 : (ls'.set k ((nmarks k 0 mn).take j ++ l0.drop j))[k]? = some ((nmarks k 0 mn).take j ++ l0.drop j) := by
            rw [List.getElem?_set, if_pos rfl, if_pos (List.getElem?_eq_some_iff.1 HL.out).1]
          rw [hl2] at hl1
          obtain rfl := Option.some.inj hl1
          obtain ⟨b, rfl⟩ := own_first ho1 (by omega)
          obtain ⟨mb, rfl⟩ := own_first hOi (by omega)
          have hlm : ((nmarks k 0 mn).take j ++ l0.drop j).length = mn := by rw [nmix_length _ _ _ (by rw [hml]; exact HN2.out) (by rw [← HN2.out]; exact hj)]; exact HN2.out.symm
          obtain ⟨o, ho⟩ : ∃ o, ((nmarks k 0 mn).take j ++ l0.drop j)[j]? = some o := ⟨_, List.getElem?_eq_getElem (by rw [hlm]; exact hjn)⟩
          obtain ⟨ma', mc', hme, hmnc1, hmnc2, hrdi, -⟩ := hOi.form
          rw [hml] at hme hmnc1
          simp only [Value.slice.injEq, true_and] at hme
          obtain ⟨rfl, rfl⟩ := hme
          obtain ⟨ta', tc', hte, hnc1, hnc2, hrdt, -⟩ := ho1.form
          rw [hlm] at hte hnc1
          simp only [Value.slice.injEq, true_and] at hte
          obtain ⟨rfl, rfl⟩ := hte
          obtain ⟨m0, m1, m2, m3⟩ := hrdi.at hxm
          obtain ⟨t0, t1, t2, t3⟩ := hrdt.at ho
          rw [Nat.zero_add] at m0 m1 m2 m3 t0 t1 t2 t3
          have fr0 := ho1.free (j * 4)
          have fr1 := ho1.free (j * 4 + 1)
          have fr2 := ho1.free (j * 4 + 2)
          have fr3 := ho1.free (j * 4 + 3)
          obtain ⟨-, hrc1', hrc2', rb', ro', v', he2, hv2, hcv2⟩ := hri.at (k := k) (by rw [← HN.out]; exact hlt)
          simp only [Option.some.injEq, Addr.mk.injEq, and_true] at he2
          obtain ⟨rfl, rfl⟩ := he2
          rw [HV1.out] at hv2
          obtain rfl := (Option.some.inj hv2).symm
          have hjI : (j : Int) < (mn : Int) := by omega
          have HS : Hid (BookN (setN wr b j x) g (.slice (some ⟨rb, ro, none⟩) rn rc) (.slice sa sn sc) ∧ OwSN b1 (setN wr b j x) (.slice (some ⟨rb, ro, none⟩) rn rc) vs ∧ NLists (setN wr b j x) vs (ls'.set k ((nmarks k 0 mn).take (j + 1) ++ l0.drop (j + 1))) ∧ OwN z0 (setN wr b j x) (.slice (some ⟨mb, 0, none⟩) mn mc) (nmarks k 0 mn) ∧ Below B w (setN wr b j x)) := Lib.hid (by
            have hon : Only b 0 (mn * 4) wr (setN wr b j x) := setN_only wr x (by omega)
            have hO2 := ho1.store x (j := j) (by rw [hlm]; exact hjn)
            rw [nmix_set _ _ _ _ (by rw [hml]; exact HN2.out) hxm] at hO2
            have hB2 := HBV.out _ (List.mem_of_getElem? HV1.out) b rfl
            have hne := own_book ho1 hBi
            refine ⟨bookn_only hBi hon hne, hri.only hon ?_, ?_, hOi.only' hon (HOFF.out b rfl), hbi.trans (hon.below hB2 (by have := hbi.size; omega))⟩
            · rcases own_off ho1 hri with h | h
              · cases h
              · exact fun e => h e.symm
            · have := NLists.set hon HKI.out HA.out HV1.out rfl hO2
              rwa [List.set_set] at this)
          obtain ⟨x0, x1, x2, x3⟩ := x
          obtain ⟨o0, o1, o2, o3⟩ := o
          simp only at m0 m1 m2 m3 t0 t1 t2 t3
          clear hl2 hl1 ho1 hv2 hxm hml HX ho hrdi hrdt hlm
          go_upto_region 7 with fail
          go_region
          obtain ⟨hB2, hr2, hk2, hO2, hb2⟩ := HS.out
          have HK2 := Lib.hid (hk2.under (Below.refl _ _).drew)
          clear HS hk2 hBi hri HKI hOi hbi
          go_wp2_with fail
          go_roundw
          case rel => exact ⟨j + 1, by omega, by go_num, hB2, hr2, HK2, hO2, hb2.drew⟩
          case measure => simp [intOf]; omega
        · obtain rfl : j = mn := by omega
          have hfull : Hid (NLists wr vs (ls'.set k (nmarks k 0 j))) := Lib.hid (by
            have := HKI.out
            rwa [List.take_of_length_le (by rw [nmarks_length]; exact Nat.le_refl _), List.drop_of_length_le (by rw [← HN2.out]; exact Nat.le_refl _), List.append_nil] at this)
          have hhalf : Hid (HalfN ls (ls'.set k (nmarks k 0 j)) (k + 1)) := Lib.hid (by
            have := HH.out.step HL0.out
            rwa [← HN2.out] at this)
          clear HKI
          go_wp2_with fail
          go_roundw
          case rel => exact ⟨k + 1, _, by omega, by go_num, hBi, hri, hfull, hhalf, hbi⟩
          case measure => simp [intOf]; omega
    · obtain rfl : k = rn := by omega
      go_wp2_with fail
      go_end0
      exact ⟨rfl, hBr, hrr, ⟨ls', HK.out, HH.out⟩, hb⟩
end Go.Proofs.YtkkjkohmekbdbaaDoor

namespace Go.Proofs.YtkkjkohmekbdbaaDoor
open Go.RowKit

theorem nrow_prefix {w : World} {base g n m cap size : Nat} {e : TypeId} {xs news : List Value} (hx : xs.length = n * size) (h : w.ownsRow base e size (.slice (some ⟨g, 0, none⟩) (n + m) cap) (n + m) (xs ++ news)) : w.ownsRow base e size (.slice (some ⟨g, 0, none⟩) n cap) n xs := by
  refine ⟨hx, ?_⟩
  rcases h.2 with ⟨h1, _⟩ | ⟨g', cap', cur, he, hb, hg, h1, h2, h3, h4⟩
  · cases h1
  · simp only [Value.slice.injEq, Option.some.injEq, Addr.mk.injEq] at he
    obtain ⟨⟨rfl, -⟩, -, rfl⟩ := he
    refine Or.inr ⟨g, cap, cur, rfl, hb, hg, by omega, h2, h3, ?_⟩
    have h5 := congrArg (List.take (n * size)) h4
    rw [List.take_take, Nat.min_eq_left (Nat.mul_le_mul_right _ (by omega)), ← hx, List.take_left] at h5
    rw [← hx]
    exact h5
theorem nrun_keep {P : Program} (w : World) (base : Nat) (t ty e : TypeId) (i : TypeInfo) (z : Value) (size bytes : Nat) (ht : P.underlying t = some (.slice e)) (hi : P.info? e = some i) (hz : i.zero = some z)
    (hsize : i.size = size) (hby : i.bytes = bytes) (hzs : z.cells.size = size) (hsz : 0 < size)
    (v : Value) (n : Nat) (xs : List Value) (hown : w.ownsRow base e size v n xs)
    (a : Addr) (m c : Nat) (news : List Value) (hl : news.length = m * size) (hnews : ∀ j u, news[j]? = some u → w.cell? (a.add j) = some u) (h1 : ∀ u ∈ news, u.oneCell' = true)
    (h63 : n + m ≤ maxLen) (hbytes : (n + m) * bytes ≤ 140737488355328) (hbase : base ≤ w.heap.size) :
    ∃ v' w', (Builtin.append_ #[t, t] ty #[v, .slice (some a) m c]).run P w = .ok v' w' ∧ w'.ownsRow base e size v' (n + m) (xs ++ news) ∧ w.grownBy w' v.ownBlock ∧ (v'.ownBlock = v.ownBlock ∨ v'.ownBlock = some w.heap.size) ∧ w'.ownsRow base e size v n xs := by
  obtain ⟨v', w', hr, h2, h3, h4, h5⟩ := run_append_own_at (P := P) w base t ty e i z size bytes ht hi hz hsize hby hzs hsz v n xs hown a m c news hl hnews h1 h63 hbytes hbase
  refine ⟨v', w', hr, h2, h3, h5, ?_⟩
  rcases hown.2 with ⟨rfl, rfl⟩ | ⟨g, cap, cur, rfl, hbg, hg, hnc, hcm, hcs, htake⟩
  · have hx : xs = [] := List.eq_nil_of_length_eq_zero (by simpa using hown.1)
    subst hx
    exact World.ownsRow_nil _ _ _ _
  · by_cases hroom : n + m ≤ cap
    · have hfit : n * i.size + news.length ≤ cur.size := by rw [hl, hcs, hsize, ← Nat.add_mul]; exact Nat.mul_le_mul_right _ hroom
      have hr2 := run_append_room (P := P) w t ty e i ht hi g n cap cur hg a m c news (by rw [hl, hsize]) hnews h1 hroom hfit
      rw [hr] at hr2
      simp only [Result.ok.injEq] at hr2
      obtain ⟨rfl, rfl⟩ := hr2
      exact nrow_prefix hown.1 h2
    · have holds : ∀ j u, xs[j]? = some u → w.cell? ((⟨g, 0, none⟩ : Addr).add j) = some u := hown.cells (g := g) rfl
      have hr2 := run_append_grow (P := P) w t ty e i z ht hi hz ⟨g, 0, none⟩ n cap xs (by rw [hown.1, hsize]) holds a m c news (by rw [hl, hsize]) hnews (by omega) (by simp only [maxLen] at h63; omega) (growslice_fits (by omega) (by rw [hby]; exact hbytes))
      rw [hr] at hr2
      simp only [Result.ok.injEq] at hr2
      obtain ⟨rfl, rfl⟩ := hr2
      exact World.ownsRow.alloc (w := w.drew) hown _
/-- append(out, nodes ..): the new row, and the old one as it was. -/
theorem wpList_append_nkeep {P : Program} (w : World) {ops : Array Oper} {rest : List Oper} {o : Oper} {a : Act} {Q : Exit → Act → World → Prop} (hgd : o.guard = none) (s x : Operand) (t : TypeId)
    (ho : o.op = .call { callee := .builtin .append, args := #[s, x], argTypes := #[t, t] }) (ht : P.underlying t = some (.slice 43)) (hi : (P.info? 43).map (fun i => (i.zero, i.size, i.bytes)) = some (some (.agg #[.int .i64 0, .float .f64 0, .int .i64 0, .int .i64 0]), 4, 32))
    (base : Nat) (v : Value) (l : List Nd) (hs : a.eval s = v) (hown : OwN base w v l)
    (ad : Addr) (m c : Nat) (lm : List Nd) (hx : a.eval x = .slice (some ad) m c) (hm : lm.length = m) (hnews : ∀ j u, (ncells lm)[j]? = some u → w.cell? (ad.add j) = some u)
    (hM : l.length + m ≤ 1000000) (hbase : base ≤ w.heap.size)
    (hK : ∀ v' w', OwN base w' v' (l ++ lm) → w.grownBy w' v.ownBlock → (v'.ownBlock = v.ownBlock ∨ v'.ownBlock = some w.heap.size) → OwN base w' v l → wpList P ops Q rest (a.put o.dst v') w') : wpList P ops Q (o :: rest) a w := by
  obtain ⟨i, h2, h3, h4, h5⟩ := node_parts hi
  refine wpList_plain hgd fun K hK' => ?_
  obtain ⟨v', w', hr, g2, g3, g4, g5⟩ := nrun_keep (P := P) w base t o.type 43 i _ 4 32 ht h2 h3 h4 h5 rfl (by decide) v l.length (ncells l) hown ad m c (ncells lm) (by rw [ncells_length, hm]) hnews (ncells_one _) (by unfold maxLen; omega) (by omega) hbase
  unfold Oper.wp execOp
  simp only [ho, resolve, invoke, builtin, Sem.run_bind, Sem.run_pure, Result.andThen_ok, List.map_toArray, List.map_cons, List.map_nil, hs, hx, hr]
  refine hK' _ _ (hK v' w' ?_ g3 g4 g5)
  unfold OwN
  rw [List.length_append, hm, ncells_append]
  exact g2
theorem NLists.of_get {w : World} : ∀ {vs : List Value} {ls : List (List Nd)}, vs.length = ls.length → (∀ (i : Nat) (v : Value) (l : List Nd), vs[i]? = some v → ls[i]? = some l → ∃ base, OwN base w v l) → NLists w vs ls := by
  intro vs
  induction vs with
  | nil =>
    intro ls hl _
    cases ls with
    | nil => exact .nil
    | cons l ls => simp at hl
  | cons v vs ih =>
    intro ls hl h
    cases ls with
    | nil => simp at hl
    | cons l ls => exact .cons (h 0 v l rfl rfl) (ih (by simpa using hl) fun i v' l' h1 h2 => h (i + 1) v' l' (by rw [List.getElem?_cons_succ]; exact h1) (by rw [List.getElem?_cons_succ]; exact h2))
theorem nnewsv (w : World) (a : Value) (t : TypeId) : ∀ j u, [a][j]? = some u → (w.alloc (.cells #[a] t)).cell? ((⟨w.heap.size, 0, none⟩ : Addr).add j) = some u := by
  intro j u hj
  rw [addr_add_none, Nat.zero_add, World.cell?_alloc_new]
  match j, hj with
  | 0, h => exact h
theorem NLists.get2 {w : World} {vs : List Value} {ls : List (List Nd)} (h : NLists w vs ls) {i : Nat} {v : Value} {l : List Nd} (hv : vs[i]? = some v) (hl : ls[i]? = some l) : ∃ base, OwN base w v l := by
  obtain ⟨l', base, h1, h2⟩ := h.get hv
  rw [hl] at h1
  obtain rfl := Option.some.inj h1
  exact ⟨base, h2⟩
theorem AllOffN.get {vs : List Value} (h : AllOffN vs) : ∀ {i j : Nat} {u v : Value}, vs[i]? = some u → vs[j]? = some v → i ≠ j → u.ownBlock = none ∨ u.ownBlock ≠ v.ownBlock := by
  induction vs with
  | nil => intro i j u v hi; simp at hi
  | cons x vs ih =>
    intro i j u v hi hj hij
    cases i with
    | zero =>
      cases j with
      | zero => exact absurd rfl hij
      | succ j =>
        simp only [List.getElem?_cons_zero, Option.some.injEq] at hi
        rw [List.getElem?_cons_succ] at hj
        subst hi
        exact h.1 v (List.mem_of_getElem? hj)
    | succ i =>
      rw [List.getElem?_cons_succ] at hi
      cases j with
      | zero =>
        simp only [List.getElem?_cons_zero, Option.some.injEq] at hj
        subst hj
        rcases h.1 u (List.mem_of_getElem? hi) with h1 | h1
        · cases hu : u.ownBlock with
          | none => exact Or.inl rfl
          | some b => right; rw [h1]; simp
        · exact Or.inr fun e => h1 e.symm
      | succ j =>
        rw [List.getElem?_cons_succ] at hj
        exact ih h.2 hi hj (by omega)
theorem bookn_grown {w w' : World} {g : Nat} {r s : Value} {row : Option Nat} (h : BookN w g r s) (hg : w.grownBy w' row) (hne : row ≠ some g) : BookN w' g r s :=
  (hg.block g (Array.getElem?_eq_some_iff.1 h).1 (fun e => hne e.symm)).trans h
theorem own_bookb {base : Nat} {w : World} {g : Nat} {v : Value} {l : List Nd} {r s : Value} (h : OwN base w v l) (hB : BookN w g r s) : v.ownBlock ≠ some g := by
  rcases h.2 with ⟨rfl, _⟩ | ⟨g', cap', cur, rfl, _, hg, _⟩
  · simp [Value.ownBlock]
  · intro e
    simp only [Value.ownBlock, Option.some.injEq] at e
    subst e
    unfold BookN at hB
    rw [hB] at hg
    simp only [Option.some.injEq, Obj.cells.injEq] at hg
    exact absurd hg.2.1 (by decide)
theorem owsn_bookb {base : Nat} {w : World} {g : Nat} {v : Value} {us : List Value} {r s : Value} (h : OwSN base w v us) (hB : BookN w g r s) : v.ownBlock ≠ some g := by
  rcases h.2 with ⟨rfl, _⟩ | ⟨g', cap', cur, rfl, _, hg, _⟩
  · simp [Value.ownBlock]
  · intro e
    simp only [Value.ownBlock, Option.some.injEq] at e
    subst e
    unfold BookN at hB
    rw [hB] at hg
    simp only [Option.some.injEq, Obj.cells.injEq] at hg
    exact absurd hg.2.1 (by decide)
/-- Two rows that lie in one block have one capacity. -/
theorem nsame_cap {b b' : Nat} {w : World} {v : Value} {l l' : List Nd} {a : Option Addr} {n c : Nat} (h : OwN b w (.slice a n c) l) (k : OwN b' w v l') (hl : l' ≠ []) (he : v.ownBlock = (Value.slice a n c).ownBlock) : v = .slice a l'.length c := by
  rcases k.2 with ⟨rfl, h0⟩ | ⟨g, cap, cur, rfl, _, hg, _, _, hc, _⟩
  · exact absurd (List.eq_nil_of_length_eq_zero h0) hl
  · rcases h.2 with ⟨h1, _⟩ | ⟨g', cap', cur', h1, _, hg', _, _, hc', _⟩
    · rw [h1] at he
      simp [Value.ownBlock] at he
    · rw [h1] at he
      simp only [Value.ownBlock, Option.some.injEq] at he
      subst he
      rw [hg] at hg'
      simp only [Option.some.injEq, Obj.cells.injEq] at hg'
      obtain ⟨rfl, -⟩ := hg'
      simp only [Value.slice.injEq] at h1
      obtain ⟨rfl, -, rfl⟩ := h1
      simp only [Value.slice.injEq, true_and]
      omega
theorem ncells_nmarks (k n m : Nat) : ncells (nmarks k 0 (n + m)) = ncells (nmarks k 0 n) ++ ncells (nmarks k n m) := by
  rw [← ncells_append, nmarks_append]
/-- The beginning of a list's row is a list, too. -/
theorem own_front {base : Nat} {w : World} {a : Option Addr} {k n m c : Nat} (h : OwN base w (.slice a (n + m) c) (nmarks k 0 (n + m))) : OwN base w (.slice a n c) (nmarks k 0 n) := by
  have h' := h
  unfold OwN at h'
  rw [nmarks_length, ncells_nmarks] at h'
  rcases h.2 with ⟨h1, _⟩ | ⟨g, cap, cur, h1, _⟩
  · simp only [Value.slice.injEq] at h1
    obtain ⟨rfl, h2, rfl⟩ := h1
    obtain rfl : n = 0 := by omega
    exact OwN.nil _ _
  · simp only [Value.slice.injEq] at h1
    obtain ⟨rfl, -, rfl⟩ := h1
    have := nrow_prefix (by rw [ncells_length, nmarks_length]) h'
    unfold OwN
    rw [nmarks_length]
    exact this
/-- What stands while the lists are grown. -/
structure GSN (w : World) (g : Nat) (r : Value) (B : Nat) (vs : List Value) (ls : List (List Nd)) : Prop where
  hB : B ≤ w.heap.size
  off : AllOffN vs
  blk : ∀ v ∈ vs, ∀ b, v.ownBlock = some b → B ≤ b ∧ b < w.heap.size
  rlt : ∀ b, r.ownBlock = some b → b < w.heap.size
  mks : ∀ (i : Nat) (l : List Nd), ls[i]? = some l → l = nmarks i 0 l.length ∧ l.length ≤ 90000
/-- Before the k-th round. -/
structure GON (w : World) (g : Nat) (r s : Value) (b1 B : Nat) (vs : List Value) (ls : List (List Nd)) (k : Nat) (wr : World) (out : Value) (us : List Value) (ls' : List (List Nd)) : Prop where
  len : us.length = k
  mks : ∀ (i : Nat) (l : List Nd), i < k → ls[i]? = some l → ls'[i]? = some (nmarks i 0 (l.length + 72))
  kept : NLists wr vs ls
  put : NLists wr us ls'
  row : OwSN w.heap.size wr out us
  book : BookN wr g r s
  rows : OwSN b1 wr r vs
  below : Below B w wr
  al : ∀ (i : Nat) u v, us[i]? = some u → vs[i]? = some v → u.ownBlock = v.ownBlock ∨ ∃ b, u.ownBlock = some b ∧ w.heap.size ≤ b
/-- Within the k-th round: the list in hand has p nmarks. -/
structure GIN (w : World) (g : Nat) (r s : Value) (b1 B : Nat) (vs : List Value) (ls : List (List Nd)) (k : Nat) (out : Value) (us : List Value) (ls' : List (List Nd)) (z : Nat) (vk : Value) (n : Nat) (wi : World) (lv : Value) (p : Nat) : Prop where
  own : OwN 0 wi lv (nmarks k 0 p)
  alias : (n ≤ p ∧ ∃ a c, vk = .slice a n c ∧ lv = .slice a p c) ∨ (∃ b, lv.ownBlock = some b ∧ z ≤ b)
  kept : NLists wi vs ls
  put : NLists wi us ls'
  row : OwSN w.heap.size wi out us
  book : BookN wi g r s
  rows : OwSN b1 wi r vs
  below : Below B w wi
  size : z ≤ wi.heap.size

section
variable {w : World} {g : Nat} {r s : Value} {b1 B : Nat} {vs : List Value} {ls : List (List Nd)} {k : Nat} {wr : World} {out : Value} {us : List Value} {ls' : List (List Nd)} {z : Nat} {vk : Value} {n : Nat} {wi : World} {lv : Value} {p : Nat}

theorem GON.start (h : GON w g r s b1 B vs ls k wr out us ls') (hv : vs[k]? = some vk) (hl : ls[k]? = some (nmarks k 0 n)) : GIN w g r s b1 B vs ls k out us ls' wr.heap.size vk n wr vk n := by
  obtain ⟨base, ho⟩ := h.kept.get2 hv hl
  obtain ⟨a, c, rfl, -⟩ := ho.form
  rw [nmarks_length]
  rw [nmarks_length] at ho
  exact ⟨ho.base0, Or.inl ⟨Nat.le_refl _, a, c, rfl, rfl⟩, h.kept, h.put, h.row, h.book, h.rows, h.below, Nat.le_refl _⟩
theorem GIN.under (hz : w.heap.size ≤ z) (hS : GSN w g r B vs ls) (h : GIN w g r s b1 B vs ls k out us ls' z vk n wi lv p) {w1 : World} (hb : Below wi.heap.size wi w1) : GIN w g r s b1 B vs ls k out us ls' z vk n w1 lv p :=
  ⟨h.own.below hb, h.alias, h.kept.under hb, h.put.under hb, h.row.below hb, slot_kept h.book hb, h.rows.below hb, h.below.trans (hb.mono (by have := hS.hB; have := h.size; omega)), Nat.le_trans h.size hb.size⟩
/-- The block of the list in hand is none of the others'. -/
theorem GIN.away (hz : w.heap.size ≤ z) (hS : GSN w g r B vs ls) (h : GIN w g r s b1 B vs ls k out us ls' z vk n wi lv p) (hv : vs[k]? = some vk) {i : Nat} {v : Value} (hi : vs[i]? = some v) (hik : i ≠ k) : v.ownBlock = none ∨ v.ownBlock ≠ lv.ownBlock := by
  rcases h.alias with ⟨-, a, c, h1, h2⟩ | ⟨b, h1, h2⟩
  · have h3 := hS.off.get hi hv hik
    have e : vk.ownBlock = lv.ownBlock := by rw [h1, h2]; cases a <;> rfl
    rw [e] at h3
    exact h3
  · right
    rw [h1]
    intro e
    have := (hS.blk v (List.mem_of_getElem? hi) b e).2
    omega
theorem GIN.append (hz : w.heap.size ≤ z) (hS : GSN w g r B vs ls) (h : GIN w g r s b1 B vs ls k out us ls' z vk n wi lv p) (hv : vs[k]? = some vk) (hl : ls[k]? = some (nmarks k 0 n)) (hlen : us.length = k)
    (hal : ∀ (i : Nat) u v, us[i]? = some u → vs[i]? = some v → u.ownBlock = v.ownBlock ∨ ∃ b, u.ownBlock = some b ∧ w.heap.size ≤ b) (hus : ∀ u ∈ us, ∀ b, u.ownBlock = some b → b < z)
    {w2 : World} {v' : Value} {m : Nat} (hm : 0 < m) (hg : wi.grownBy w2 lv.ownBlock) (hat : v'.ownBlock = lv.ownBlock ∨ v'.ownBlock = some wi.heap.size) (ho : OwN 0 w2 v' (nmarks k 0 (p + m))) (hk : OwN 0 w2 lv (nmarks k 0 p)) : GIN w g r s b1 B vs ls k out us ls' z vk n w2 v' (p + m) := by
  have hne : nmarks k 0 (p + m) ≠ [] := by
    intro e
    have := congrArg List.length e
    rw [nmarks_length] at this
    simp at this
    omega
  have hB := hS.hB
  have hsz := h.size
  have hvkb : ∀ b, vk.ownBlock = some b → B ≤ b ∧ b < w.heap.size := hS.blk vk (List.mem_of_getElem? hv)
  have hlvb : ∀ b, lv.ownBlock = some b → B ≤ b := by
    intro b hb
    rcases h.alias with ⟨-, a, c, h1, h2⟩ | ⟨b', h1, h2⟩
    · have e : vk.ownBlock = lv.ownBlock := by rw [h1, h2]; cases a <;> rfl
      rw [← e] at hb
      exact (hvkb b hb).1
    · rw [h1] at hb
      obtain rfl := Option.some.inj hb
      omega
  refine ⟨ho, ?_, ?_, ?_, ?_, ?_, ?_, ?_, ?_⟩
  · rcases hat with hat | hat
    · rcases h.alias with ⟨hnp, a, c, h1, h2⟩ | ⟨b, h1, h2⟩
      · left
        refine ⟨by omega, a, c, h1, ?_⟩
        rw [h2] at hk hat
        have := nsame_cap hk ho hne hat
        rwa [nmarks_length] at this
      · right
        exact ⟨b, hat.trans h1, h2⟩
    · right
      exact ⟨_, hat, h.size⟩
  · refine NLists.of_get h.kept.length fun i v l hi hli => ?_
    by_cases hik : i = k
    · subst hik
      rw [hv] at hi
      obtain rfl := Option.some.inj hi
      rw [hl] at hli
      obtain rfl := Option.some.inj hli
      rcases h.alias with ⟨hnp, a, c, h1, h2⟩ | ⟨b, h1, h2⟩
      · obtain ⟨d, rfl⟩ : ∃ d, p = n + d := ⟨p - n, by omega⟩
        rw [h2] at hk
        rw [h1]
        exact ⟨0, own_front hk⟩
      · obtain ⟨base, h3⟩ := h.kept.get2 hv hl
        refine ⟨base, own_grown h3 hg (Or.inr ?_)⟩
        rw [h1]
        intro e
        have := (hvkb b e).2
        omega
    · obtain ⟨base, h3⟩ := h.kept.get2 hi hli
      exact ⟨base, own_grown h3 hg (h.away hz hS hv hi hik)⟩
  · refine h.put.grown hg fun u hu => ?_
    obtain ⟨i, hi⟩ := List.getElem?_of_mem hu
    have hik : i < k := by rw [← hlen]; exact (List.getElem?_eq_some_iff.1 hi).1
    have hkv : k < vs.length := (List.getElem?_eq_some_iff.1 hv).1
    obtain ⟨v, hvi⟩ : ∃ v, vs[i]? = some v := ⟨_, List.getElem?_eq_getElem (by omega)⟩
    have haw := h.away hz hS hv hvi (by omega)
    rcases hal i u v hi hvi with h1 | ⟨b, h1, h2⟩
    · rw [h1]; exact haw
    · right
      have hbz := hus u hu b h1
      rw [h1]
      intro e
      rcases h.alias with ⟨-, a, c, h3, h4⟩ | ⟨b', h3, h4⟩
      · have e2 : vk.ownBlock = lv.ownBlock := by rw [h3, h4]; cases a <;> rfl
        rw [← e2] at e
        have := (hvkb b e.symm).2
        omega
      · rw [h3] at e
        obtain rfl := Option.some.inj e
        omega
  · refine h.row.grown hg fun b hb e => ?_
    rcases own_off h.own h.row with h1 | h1
    · rw [h1] at e; cases e
    · exact h1 (e.trans hb.symm)
  · exact bookn_grown h.book hg (own_bookb h.own h.book)
  · refine h.rows.grown hg fun b hb e => ?_
    rcases own_off h.own h.rows with h1 | h1
    · rw [h1] at e; cases e
    · exact h1 (e.trans hb.symm)
  · exact nbelow_grown h.below hg (by omega) hlvb
  · exact Nat.le_trans h.size hg.size
theorem GIN.done (hz : w.heap.size ≤ z) (hS : GSN w g r B vs ls) (h : GIN w g r s b1 B vs ls k out us ls' z vk n wi lv (n + 72)) (hv : vs[k]? = some vk) (hl : ls[k]? = some (nmarks k 0 n)) (hlen : us.length = k)
    (hmk : ∀ (i : Nat) (l : List Nd), i < k → ls[i]? = some l → ls'[i]? = some (nmarks i 0 (l.length + 72)))
    (hal : ∀ (i : Nat) u v, us[i]? = some u → vs[i]? = some v → u.ownBlock = v.ownBlock ∨ ∃ b, u.ownBlock = some b ∧ w.heap.size ≤ b)
    {w2 : World} {out' : Value} (ho : OwSN w.heap.size w2 out' (us ++ [lv])) (hg : wi.grownBy w2 out.ownBlock) : GON w g r s b1 B vs ls (k + 1) w2 out' (us ++ [lv]) (ls' ++ [nmarks k 0 (n + 72)]) := by
  have hB := hS.hB
  have hsz := h.size
  have hlen' : ls'.length = k := by rw [← h.put.length, hlen]
  refine ⟨by rw [List.length_append, hlen]; rfl, ?_, ?_, ?_, ho, ?_, ?_, ?_, ?_⟩
  · intro i l hi hli
    by_cases hik : i < k
    · rw [List.getElem?_append_left (by omega)]
      exact hmk i l hik hli
    · obtain rfl : i = k := by omega
      rw [hl] at hli
      obtain rfl := Option.some.inj hli
      rw [List.getElem?_append_right (by omega), hlen', Nat.sub_self, nmarks_length]
      rfl
  · exact h.kept.grown hg (h.kept.off_row h.row)
  · refine (h.put.grown hg (h.put.off_row h.row)).append (.cons ⟨0, ?_⟩ .nil)
    exact own_grown h.own hg (own_off h.own h.row)
  · exact bookn_grown h.book hg (owsn_bookb h.row h.book)
  · refine h.rows.grown hg fun b hb e => ?_
    have h1 := hS.rlt b hb
    have h2 := (h.row.lt b e).1
    omega
  · exact nbelow_grown h.below hg (by omega) (fun b hb => by have := (h.row.lt b hb).1; omega)
  · intro i u v hi hvi
    by_cases hik : i < k
    · rw [List.getElem?_append_left (by omega)] at hi
      exact hal i u v hi hvi
    · rw [List.getElem?_append_right (by omega)] at hi
      have hi0 : i - us.length = 0 := by
        have := (List.getElem?_eq_some_iff.1 hi).1
        simp at this
        omega
      obtain rfl : i = k := by omega
      rw [hi0] at hi
      simp only [List.getElem?_cons_zero, Option.some.injEq] at hi
      subst hi
      rw [hv] at hvi
      obtain rfl := Option.some.inj hvi
      rcases h.alias with ⟨-, a, c, h1, h2⟩ | ⟨b, h1, h2⟩
      · left
        rw [h1, h2]
        cases a <;> rfl
      · right
        exact ⟨b, h1, by omega⟩
end
end Go.Proofs.YtkkjkohmekbdbaaDoor

namespace Go.Proofs.YtkkjkohmekbdbaaDoor
open Go.RowKit

theorem NLists.lt {w : World} {vs : List Value} {ls : List (List Nd)} (h : NLists w vs ls) : ∀ u ∈ vs, ∀ b, u.ownBlock = some b → b < w.heap.size := by
  induction h with
  | nil => intro u hu; simp at hu
  | cons ho _ ih =>
    intro u hu
    rcases List.mem_cons.1 hu with rfl | hu
    · obtain ⟨base, ho⟩ := ho
      exact fun b hb => (own_ltb ho b hb).2
    · exact ih u hu
/-- A row that is not empty lies in a block, at its start. -/
theorem own_at {base : Nat} {w : World} {a : Option Addr} {n c : Nat} {k f m : Nat} (h : OwN base w (.slice a n c) (nmarks k f (m + 1))) : n = m + 1 ∧ ∃ g, a = some ⟨g, 0, none⟩ ∧ ∀ j u, (ncells (nmarks k f (m + 1)))[j]? = some u → w.cell? ((⟨g, 0, none⟩ : Addr).add j) = some u := by
  obtain ⟨a', c', he, -, -, hr, -⟩ := h.form
  rw [nmarks_length] at he
  simp only [Value.slice.injEq] at he
  obtain ⟨rfl, rfl, rfl⟩ := he
  obtain ⟨g, rfl⟩ := own_first h (Nat.succ_pos _)
  exact ⟨rfl, g, rfl, rdn_news hr⟩
set_option maxRecDepth 100000 in
set_option maxHeartbeats 2000000 in
theorem ngrow_num {w : World} {g b1 B : Nat} {ra : Option Addr} {rn rc : Nat} {s : Value} {vs : List Value} {ls : List (List Nd)} (hB : BookN w g (.slice ra rn rc) s) (hr : OwSN b1 w (.slice ra rn rc) vs) (hv : NLists w vs ls) (hS : GSN w g (.slice ra rn rc) B vs ls) (hn : rn = vs.length) (hM : rn ≤ 300) :
    Calls Tryd.prog 47 #[.pointer (some ⟨g, 0, none⟩)] w fun e w' => ∃ out us ls', e = .returned out ∧ GON w g (.slice ra rn rc) s b1 B vs ls rn w' out us ls' := by
  have HN := Lib.hid hn
  have HS := Lib.hid hS
  have hl1 := hv.length
  have HL1 := Lib.hid hl1
  have h0 : Hid (GON w g (.slice ra rn rc) s b1 B vs ls 0 w (.slice none 0 0) [] []) := Lib.hid ⟨rfl, fun i l h => absurd h (Nat.not_lt_zero _), hv, .nil, OwSN.nil _ _, hB, hr, Below.refl _ _, fun i u v h => by simp at h⟩
  clear hn hS hl1 hB hr hv
  go_enter Tryd.func47, Tryd.ntmps47
  go_wp2_with fail
  go_loopw [3, 4, 5, 6] (fun oo ii _ll _nn wr => ∃ (k : Nat) (oa : Option Addr) (oc : Nat) (us : List Value) (ls' : List (List Nd)), k ≤ rn ∧ oo = .slice oa k oc ∧ ii = .int .i64 k ∧ Hid (GON w g (.slice ra rn rc) s b1 B vs ls k wr (.slice oa k oc) us ls')) (fun _ ii _ _ _ => rn - (intOf ii).toNat)
  case atStart => exact ⟨0, none, 0, [], [], Nat.zero_le _, rfl, rfl, h0⟩
  case round =>
    obtain ⟨k, oa, oc, us, ls', hk, rfl, rfl, HG⟩ := hrel
    clear h0
    have hBr := HG.out.book
    have c2 := cell_of_row wr g 4 _ _ _ hBr
    by_cases hlt : k < rn
    · have hkv : k < vs.length := by rw [← HN.out]; exact hlt
      obtain ⟨-, hrc1, hrc2, rb, ro, v, rfl, hv1, hcv⟩ := HG.out.rows.at hkv
      obtain ⟨l0, hl0⟩ : ∃ l0, ls[k]? = some l0 := ⟨_, List.getElem?_eq_getElem (by rw [← HL1.out]; exact hkv)⟩
      obtain ⟨hm1, hm2⟩ := HS.out.mks k l0 hl0
      obtain ⟨n, hnl⟩ : ∃ n, l0.length = n := ⟨_, rfl⟩
      rw [hnl] at hm1 hm2
      subst hm1
      have hI := HG.out.start hv1 hl0
      obtain ⟨a, c, hvv, q1, q2, -⟩ := hI.own.form
      rw [nmarks_length] at hvv q1
      subst hvv
      obtain ⟨z, hz⟩ : ∃ z, wr.heap.size = z := ⟨_, rfl⟩
      have HZ : Hid (w.heap.size ≤ z ∧ ∀ u ∈ us, ∀ b, u.ownBlock = some b → b < z) := Lib.hid (by rw [← hz]; exact ⟨HG.out.below.size, HG.out.put.lt⟩)
      rw [hz] at hI
      have HI := Lib.hid hI
      have HV1 := Lib.hid hv1
      have HL0 := Lib.hid hl0
      have hlt' : (k : Int) < (rn : Int) := by omega
      clear hkv hv1 hl0 hnl hI hz hBr
      go_wp2_with fail
      go_loopw [5, 6] (fun lv nn wi => ∃ (j : Nat) (a1 : Option Addr) (c1 : Nat), j ≤ 12 ∧ lv = .slice a1 (n + j) c1 ∧ nn = .int .i64 j ∧ Hid (GIN w g (.slice (some ⟨rb, ro, none⟩) rn rc) s b1 B vs ls k (.slice oa k oc) us ls' z (.slice a n c) n wi (.slice a1 (n + j) c1) (n + j))) (fun _ nn _ => 12 - (intOf nn).toNat)
      case atStart => exact ⟨0, a, c, Nat.zero_le _, rfl, rfl, HI⟩
      case round =>
        obtain ⟨j, a1, c1, hj, rfl, rfl, HIJ⟩ := hrel
        obtain ⟨p, hp⟩ : ∃ p, n + j = p := ⟨_, rfl⟩
        rw [hp] at HIJ ⊢
        obtain ⟨a1', c1', hlv, q3, q4, -⟩ := HIJ.out.own.form
        rw [nmarks_length] at hlv q3
        simp only [Value.slice.injEq] at hlv
        obtain ⟨rfl, -, rfl⟩ := hlv
        have hpb : p ≤ 90012 := by omega
        by_cases hjn : j < 12
        · have hpn : p + 1 ≤ 100012 := by omega
          have HP := Lib.hid hp
          have HMC := Lib.hid (nmark_num k p 1 wr (by omega) (by omega) (by decide))
          have hjI : (j : Int) < 12 := by omega
          clear hp
          go_wp2_with fail
          refine HMC.out.mono ?_
          rintro e w1 ⟨mv, rfl, hOm, hb1⟩
          obtain ⟨ma, mn, mc, rfl⟩ := hOm.slice
          obtain ⟨rfl, mg, rfl, hnews⟩ := own_at (m := 0) hOm
          have HI1 := Lib.hid (HIJ.out.under HZ.out.1 HS.out hb1)
          have hO1 := HI1.out.own
          clear hOm hb1 HMC HIJ
          go_wp2_with (at_builtin; refine wpList_append_nkeep _ rfl (.tmp 27) (.tmp 31) 22 rfl Tryd.underlying22 info_node 0 (.slice a1 p c1) (nmarks k 0 p) rfl hO1 ⟨mg, 0, none⟩ 1 mc (nmarks k p 1) rfl (nmarks_length _ _ _) hnews (by rw [nmarks_length]; omega) (Nat.zero_le _) ?_; intro v' w2 hO2 hg2 hat2 hk2)
          rw [nmarks_append] at hO2
          have HI2 := Lib.hid (HI1.out.append HZ.out.1 HS.out HV1.out HL0.out HG.out.len HG.out.al HZ.out.2 (by decide) hg2 hat2 hO2 hk2)
          clear hO2 hg2 hat2 hk2 HI1 hO1 hnews
          go_wp2_with fail
          go_roundw
          case rel =>
            obtain ⟨a2, c2', hv2, -⟩ := HI2.out.own.form
            rw [nmarks_length] at hv2
            refine ⟨j + 1, a2, c2', by omega, by rw [← Nat.add_assoc, HP.out]; exact hv2, by go_num, ?_⟩
            rw [← Nat.add_assoc, HP.out, ← hv2]
            exact HI2
          case measure => simp [intOf]; omega
        · obtain rfl : j = 12 := by omega
          have HMC := Lib.hid (nmark_num k p 60 wr (by omega) (by omega) (by decide))
          have HP : Hid (p + 60 = n + 72) := Lib.hid (by omega)
          clear hp
          go_wp2_with fail
          refine HMC.out.mono ?_
          rintro e w1 ⟨mv, rfl, hOm, hb1⟩
          obtain ⟨ma, mn, mc, rfl⟩ := hOm.slice
          obtain ⟨rfl, mg, rfl, hnews⟩ := own_at (m := 59) hOm
          have HI1 := Lib.hid (HIJ.out.under HZ.out.1 HS.out hb1)
          have hO1 := HI1.out.own
          clear hOm hb1 HMC HIJ
          go_wp2_with (at_builtin; first | (refine wpList_append_nkeep _ rfl (.tmp 34) (.tmp 38) 22 rfl Tryd.underlying22 info_node 0 (.slice a1 p c1) (nmarks k 0 p) rfl hO1 ⟨mg, 0, none⟩ 60 mc (nmarks k p 60) rfl (nmarks_length _ _ _) hnews (by rw [nmarks_length]; omega) (Nat.zero_le _) ?_; intro v' w2 hO2 hg2 hat2 hk2; rw [nmarks_append] at hO2; have HI2 := Lib.hid (HI1.out.append HZ.out.1 HS.out HV1.out HL0.out HG.out.len HG.out.al HZ.out.2 (by decide) hg2 hat2 hO2 hk2); rw [HP.out] at HI2; obtain ⟨a2, n2, c2', rfl⟩ := hO2.slice; clear hO2 hg2 hat2 hk2 HI1 hO1 hnews; have HI3 := Lib.hid (HI2.out.under HZ.out.1 HS.out (below_alloc w2 (.cells #[.slice a2 n2 c2'] 22)))) | (refine wpList_append_nlists _ rfl (.tmp 33) (.tmp 40) 32 rfl Tryd.underlying32 info_nlist w.heap.size (.slice oa k oc) us rfl HI3.out.row ⟨w2.heap.size, 0, none⟩ 1 1 [.slice a2 n2 c2'] rfl rfl (nnewsv _ _ _) (by intro u hu; obtain rfl := List.mem_singleton.1 hu; rfl) (by rw [HG.out.len]; omega) (by have := HZ.out.1; have := HI3.out.size; omega) ?_; intro v3 w3 hO3 hg3 _))
          have HG3 := Lib.hid (HI3.out.done HZ.out.1 HS.out HV1.out HL0.out HG.out.len HG.out.mks HG.out.al hO3 hg3)
          clear hO3 hg3 HI3 HI2
          go_roundw
          case rel =>
            obtain ⟨a3, c3', hv3, -⟩ := HG3.out.row.form
            rw [HG3.out.len] at hv3
            subst hv3
            exact ⟨k + 1, a3, c3', _, _, by omega, rfl, by go_num, HG3⟩
          case measure => simp [intOf]; omega
    · obtain rfl : k = rn := by omega
      go_wp2_with fail
      go_ret
      exact ⟨_, _, _, rfl, HG.out⟩
end Go.Proofs.YtkkjkohmekbdbaaDoor

namespace Go.Proofs.YtkkjkohmekbdbaaDoor
open Go.RowKit

theorem heap_alloc_size' (w : World) (o : Obj) : (w.alloc o).heap.size = w.heap.size + 1 := by simp
/-- append(out, values ..), out of the call's own, as one step of a region that draws. -/
theorem step_append_nlists {P : Program} (w : World) {ops : Array Oper} {o : Oper} {a : Act} {K : Act → World → Prop} {Q : Exit → Act → World → Prop} {E : Prop} (hgd : o.guard = none) (s x : Operand) (t : TypeId)
    (ho : o.op = .call { callee := .builtin .append, args := #[s, x], argTypes := #[t, t] }) (ht : P.underlying t = some (.slice 22)) (hi : (P.info? 22).map (fun i => (i.zero, i.size, i.bytes)) = some (some (.slice none 0 0), 1, 24))
    (base : Nat) (v : Value) (vs : List Value) (hs : a.eval s = v) (hown : OwSN base w v vs)
    (ad : Addr) (m c : Nat) (us : List Value) (hx : a.eval x = .slice (some ad) m c) (hm : us.length = m) (hnews : ∀ j u, us[j]? = some u → w.cell? (ad.add j) = some u) (h1 : ∀ u ∈ us, u.oneCell' = true)
    (hM : vs.length + m ≤ 4294967296) (hbase : base ≤ w.heap.size)
    (hK : ∀ v' w', OwSN base w' v' (vs ++ us) → w.grownBy w' v.ownBlock → (v'.ownBlock = v.ownBlock ∨ v'.ownBlock = some w.heap.size) → K (a.put o.dst v') w') : if Region.wanted o (yielded ops a.tmps) = true then Oper.wp P o a w K Q else E := by
  have hw : Region.wanted o (yielded ops a.tmps) = true := by simp [Region.wanted, hgd]
  rw [if_pos hw]
  obtain ⟨i, h2, h3, h4, h5⟩ := info_parts hi
  obtain ⟨v', w', hr, g2, g3, g4, g5⟩ := run_append_own_at (P := P) w base t o.type 22 i (.slice none 0 0) 1 24 ht h2 h3 h4 h5 rfl (by decide) v vs.length vs hown ad m c us (by rw [hm, Nat.mul_one]) hnews h1 (by unfold maxLen; omega) (by omega) hbase
  unfold Oper.wp execOp
  simp only [ho, resolve, invoke, builtin, Sem.run_bind, Sem.run_pure, Result.andThen_ok, List.map_toArray, List.map_cons, List.map_nil, hs, hx, hr]
  refine hK v' w' ?_ g3 g5
  unfold OwSN
  rw [List.length_append, hm]
  exact g2

/-- No block of words has turned. -/
structure FrN (w w' : World) : Prop where
  size : w.heap.size ≤ w'.heap.size
  block : ∀ (k : Nat) (cur : Array Value), w.heap[k]? = some (Obj.cells cur 43 (0, 0)) → w'.heap[k]? = w.heap[k]?
theorem FrN.refl (w : World) : FrN w w := ⟨Nat.le_refl _, fun _ _ _ => rfl⟩
theorem FrN.trans {u v w : World} (h : FrN u v) (k : FrN v w) : FrN u w := ⟨Nat.le_trans h.size k.size, fun b cur hc => (k.block b cur ((h.block b cur hc).trans hc)).trans (h.block b cur hc)⟩
theorem FrN.of_below {w w' : World} (h : Below w.heap.size w w') : FrN w w' := ⟨h.size, fun k _ hc => h.block k (Array.getElem?_eq_some_iff.1 hc).1⟩
theorem FrN.grown {w w' : World} {row : Option Nat} (hg : w.grownBy w' row) (h : ∀ k, row = some k → ∃ (cur : Array Value) (t : TypeId), w.heap[k]? = some (Obj.cells cur t (0, 0)) ∧ t ≠ 43) : FrN w w' :=
  ⟨hg.size, fun k cur hc => hg.block k (Array.getElem?_eq_some_iff.1 hc).1 (fun e => by
    obtain ⟨cur', t, h1, h2⟩ := h k e.symm
    rw [hc] at h1
    simp only [Option.some.injEq, Obj.cells.injEq] at h1
    exact h2 h1.2.1.symm)⟩
theorem OwN.frn {base : Nat} {w w' : World} {v : Value} {l : List Nd} (h : OwN base w v l) (hf : FrN w w') : OwN base w' v l := by
  refine ⟨h.1, ?_⟩
  rcases h.2 with h2 | ⟨g, cap, cur, rfl, hb, hh, r⟩
  · exact Or.inl h2
  · exact Or.inr ⟨g, cap, cur, rfl, hb, (hf.block g cur hh).trans hh, r⟩
theorem FrN.set {w : World} {g : Nat} {r s : Value} (h : BookN w g r s) (k : Nat) (v : Value) : FrN w (w.setCell ⟨g, k, none⟩ v) :=
  ⟨by simp [World.setCell], fun b cur hc => heap_setCell_other w ⟨g, k, none⟩ b v (fun e => by
    subst e
    unfold BookN at h
    rw [hc] at h
    simp only [Option.some.injEq, Obj.cells.injEq] at h
    exact absurd h.2.1 (by decide))⟩
theorem NLists.fr {w w' : World} {vs : List Value} {ls : List (List Nd)} (h : NLists w vs ls) (hf : FrN w w') : NLists w' vs ls := by
  induction h with
  | nil => exact .nil
  | cons ho _ ih =>
    obtain ⟨base, ho⟩ := ho
    exact .cons ⟨base, ho.frn hf⟩ ih
theorem OwSN.slice {base : Nat} {w : World} {v : Value} {vs : List Value} (h : OwSN base w v vs) : ∃ a n c, v = .slice a n c := by
  obtain ⟨a, c, rfl, _⟩ := h.form
  exact ⟨a, _, c, rfl⟩
theorem OwSN.typed {base : Nat} {w : World} {v : Value} {vs : List Value} (h : OwSN base w v vs) : ∀ k, v.ownBlock = some k → ∃ (cur : Array Value) (t : TypeId), w.heap[k]? = some (Obj.cells cur t (0, 0)) ∧ t ≠ 43 := by
  intro k hk
  rcases h.2 with ⟨rfl, _⟩ | ⟨g, cap, cur, rfl, _, hh, _⟩
  · simp [Value.ownBlock] at hk
  · simp only [Value.ownBlock, Option.some.injEq] at hk
    subst hk
    exact ⟨cur, _, hh, by decide⟩
theorem bookn_set4 {w : World} {g : Nat} {r s : Value} (h : BookN w g r s) (v : Value) : BookN (w.setCell ⟨g, 4, none⟩ v) g v s := heap_setCell_same w g 4 _ _ v h
theorem bookn_set5 {w : World} {g : Nat} {r s : Value} (h : BookN w g r s) (v : Value) : BookN (w.setCell ⟨g, 5, none⟩ v) g r v := heap_setCell_same w g 5 _ _ v h
theorem OwSN.set {base : Nat} {w : World} {v : Value} {vs : List Value} {g k : Nat} {u : Value} (h : OwSN base w v vs) (hne : v.ownBlock ≠ some g) : OwSN base (w.setCell ⟨g, k, none⟩ u) v vs :=
  h.only (Only.store k u (Nat.zero_le _) (Nat.lt_succ_self _)) hne
theorem nbelow_set {B : Nat} {w0 w : World} {g k : Nat} {u : Value} (h : Below B w0 w) (hg : B ≤ g) (hB : B ≤ w.heap.size) : Below B w0 (w.setCell ⟨g, k, none⟩ u) :=
  h.trans ((Only.store (b := g) (lo := 0) (hi := k + 1) k u (Nat.zero_le _) (Nat.lt_succ_self _)).below hg hB)
theorem alloffn_snoc {vs : List Value} {v : Value} (h : AllOffN vs) (hv : ∀ u ∈ vs, u.ownBlock = none ∨ u.ownBlock ≠ v.ownBlock) : AllOffN (vs ++ [v]) := by
  induction vs with
  | nil => exact ⟨fun u hu => by simp at hu, trivial⟩
  | cons x vs ih =>
    refine ⟨fun u hu => ?_, ih h.2 fun u hu => hv u (List.mem_cons_of_mem _ hu)⟩
    rcases List.mem_append.1 hu with hu | hu
    · exact h.1 u hu
    · obtain rfl := List.mem_singleton.1 hu
      exact hv x (List.mem_cons_self ..)
theorem chg_grown {w w' : World} {row : Option Nat} (hg : w.grownBy w' row) : Chg (fun k => row = some k) w w' := ⟨hg.os, hg.tape, hg.output, hg.size, fun k hk hF => hg.block k hk (fun e => hF e.symm)⟩
theorem chg_set (w : World) (g k : Nat) (v : Value) : Chg (fun j => j = g) w (w.setCell ⟨g, k, none⟩ v) := Chg.only (Only.store (b := g) (lo := 0) (hi := k + 1) k v (Nat.zero_le _) (Nat.lt_succ_self _)) rfl
theorem chg_first {w w1 : World} {row : Option Nat} (hg : w.grownBy w1 row) (g k : Nat) (v : Value) : Chg (fun j => j = g ∨ row = some j) w (w1.setCell ⟨g, k, none⟩ v) :=
  ((chg_grown hg).mono fun _ h => Or.inr h).trans ((chg_set w1 g k v).mono fun _ h => Or.inl h) (fun _ h => Or.inl h)
/-- The blocks that turn when one more list is kept. -/
def KF (g : Nat) (r s : Value) (k : Nat) : Prop := k = g ∨ r.ownBlock = some k ∨ s.ownBlock = some k
/-- A book that keeps the lists vs (and their copies us), which read as ls. -/
structure BKN (B : Nat) (w : World) (g : Nat) (r s : Value) (vs us : List Value) (ls : List (List Nd)) : Prop where
  book : BookN w g r s
  row : OwSN B w r vs
  was : OwSN B w s us
  apart : r.ownBlock = none ∨ r.ownBlock ≠ s.ownBlock
  kept : NLists w vs ls
  copies : NLists w us ls
  off : AllOffN vs
  blk : ∀ v ∈ vs, ∀ b, v.ownBlock = some b → B ≤ b
  hg : B ≤ g
theorem BKN.under {B : Nat} {w w' : World} {g : Nat} {r s : Value} {vs us : List Value} {ls : List (List Nd)} (h : BKN B w g r s vs us ls) (hb : Below w.heap.size w w') : BKN B w' g r s vs us ls :=
  ⟨slot_kept h.book hb, h.row.below hb, h.was.below hb, h.apart, h.kept.under hb, h.copies.under hb, h.off, h.blk, h.hg⟩
theorem BKN.lt {B : Nat} {w : World} {g : Nat} {r s : Value} {vs us : List Value} {ls : List (List Nd)} (h : BKN B w g r s vs us ls) : g < w.heap.size := (Array.getElem?_eq_some_iff.1 h.book).1
/-- The rows have grown by one list. -/
theorem BKN.first {B : Nat} {w : World} {g : Nat} {r s : Value} {vs us : List Value} {ls : List (List Nd)} (h : BKN B w g r s vs us ls) {w1 : World} {r' v : Value} (ho : OwSN B w1 r' (vs ++ [v])) (hg : w.grownBy w1 r.ownBlock) (hat : r'.ownBlock = r.ownBlock ∨ r'.ownBlock = some w.heap.size) :
    BookN w1 g r s ∧ BookN (w1.setCell ⟨g, 4, none⟩ r') g r' s ∧ OwSN B (w1.setCell ⟨g, 4, none⟩ r') r' (vs ++ [v]) ∧ OwSN B (w1.setCell ⟨g, 4, none⟩ r') s us ∧ (r'.ownBlock = none ∨ r'.ownBlock ≠ s.ownBlock) ∧ FrN w (w1.setCell ⟨g, 4, none⟩ r') ∧ Below B w (w1.setCell ⟨g, 4, none⟩ r') ∧ Chg (fun k => k = g ∨ r.ownBlock = some k) w (w1.setCell ⟨g, 4, none⟩ r') := by
  have hlt := h.lt
  have hgB := h.hg
  have hs2 : s.ownBlock ≠ some g := owsn_bookb h.was h.book
  have hb1 : BookN w1 g r s := bookn_grown h.book hg (owsn_bookb h.row h.book)
  have hwas1 : OwSN B w1 s us := h.was.grown hg fun b hb e => by
    rcases h.apart with h1 | h1
    · rw [h1] at e; cases e
    · exact h1 (e.trans hb.symm)
  refine ⟨hb1, bookn_set4 hb1 _, ho.set (owsn_bookb ho hb1), hwas1.set hs2, ?_, (FrN.grown hg h.row.typed).trans (FrN.set hb1 _ _), ?_, chg_first hg g 4 r'⟩
  · rcases hat with h1 | h1
    · rw [h1]; exact h.apart
    · right
      rw [h1]
      intro e
      have := (h.was.lt _ e.symm).2
      omega
  · exact nbelow_set (nbelow_grown (Below.refl _ _) hg (by omega) fun b hb => (h.row.lt b hb).1) hgB (by have := hg.size; omega)
/-- The copies' row has grown by one list. -/
theorem BKN.second {B : Nat} {w : World} {g : Nat} {r s : Value} {us : List Value} {vs : List Value} (hbk : BookN w g r s) (hr : OwSN B w r vs) (hs : OwSN B w s us) (hap : r.ownBlock = none ∨ r.ownBlock ≠ s.ownBlock) (hgB : B ≤ g) {w1 : World} {s' u : Value} (ho : OwSN B w1 s' (us ++ [u])) (hg : w.grownBy w1 s.ownBlock) (hat : s'.ownBlock = s.ownBlock ∨ s'.ownBlock = some w.heap.size) :
    BookN w1 g r s ∧ BookN (w1.setCell ⟨g, 5, none⟩ s') g r s' ∧ OwSN B (w1.setCell ⟨g, 5, none⟩ s') r vs ∧ OwSN B (w1.setCell ⟨g, 5, none⟩ s') s' (us ++ [u]) ∧ (r.ownBlock = none ∨ r.ownBlock ≠ s'.ownBlock) ∧ FrN w (w1.setCell ⟨g, 5, none⟩ s') ∧ Below B w (w1.setCell ⟨g, 5, none⟩ s') ∧ Chg (fun k => k = g ∨ s.ownBlock = some k) w (w1.setCell ⟨g, 5, none⟩ s') := by
  have hlt : g < w.heap.size := (Array.getElem?_eq_some_iff.1 hbk).1
  have hr2 : r.ownBlock ≠ some g := owsn_bookb hr hbk
  have hb1 : BookN w1 g r s := bookn_grown hbk hg (owsn_bookb hs hbk)
  have hr1 : OwSN B w1 r vs := hr.grown hg fun b hb e => by
    rcases hap with h1 | h1
    · rw [h1] at hb; cases hb
    · exact h1 (hb.trans e.symm)
  refine ⟨hb1, bookn_set5 hb1 _, hr1.set hr2, ho.set (owsn_bookb ho hb1), ?_, (FrN.grown hg hs.typed).trans (FrN.set hb1 _ _), ?_, chg_first hg g 5 s'⟩
  · rcases hat with h1 | h1
    · rw [h1]; exact hap
    · right
      rw [h1]
      intro e
      have := (hr.lt _ e).2
      omega
  · exact nbelow_set (nbelow_grown (Below.refl _ _) hg (by omega) fun b hb => (hs.lt b hb).1) hgB (by have := hg.size; omega)
set_option maxRecDepth 100000 in
set_option maxHeartbeats 2000000 in
theorem nkeep_num {B base : Nat} {w : World} {g : Nat} {r s v : Value} {vs us : List Value} {ls : List (List Nd)} {l : List Nd} (h : BKN B w g r s vs us ls) (hv : OwN base w v l) (hoff : ∀ u ∈ vs, u.ownBlock = none ∨ u.ownBlock ≠ v.ownBlock) (hb : B ≤ base) (hlen : vs.length ≤ 200) (hll : l.length ≤ 100000) :
    Calls Tryd.prog 11 #[.pointer (some ⟨g, 0, none⟩), v] w fun e w' => e = .returned (.tuple #[]) ∧ (∃ r' s' u, BKN B w' g r' s' (vs ++ [v]) (us ++ [u]) (ls ++ [l]) ∧ (∀ k, r'.ownBlock = some k → r.ownBlock = some k ∨ w.heap.size ≤ k) ∧ (∀ k, s'.ownBlock = some k → s.ownBlock = some k ∨ w.heap.size ≤ k) ∧ (∀ k, u.ownBlock = some k → w.heap.size ≤ k)) ∧ Below B w w' ∧ Chg (KF g r s) w w' := by
  have hlen2 : us.length = vs.length := by rw [h.kept.length, h.copies.length]
  have hlt := h.lt
  have hgB := h.hg
  obtain ⟨ra, rc, hre, hrc1, hrc2, -⟩ := h.row.form
  obtain ⟨sa, sc, hse, hsc1, hsc2, -⟩ := h.was.form
  obtain ⟨rn, hrn⟩ : ∃ rn, vs.length = rn := ⟨_, rfl⟩
  rw [hlen2] at hse hsc1
  rw [hrn] at hre hrc1 hlen hse hsc1
  subst hre hse
  obtain ⟨a, n, c, rfl⟩ := hv.slice
  have HRN := Lib.hid hrn
  have HL2 := Lib.hid hlen2
  have HB := Lib.hid h
  have HV := Lib.hid hv
  have HOFF := Lib.hid hoff
  have hBk := h.book
  have c2 : w.cell? ⟨g, 4, none⟩ = some (.slice ra rn rc) := cell_of_row w g 4 _ _ _ hBk
  have hbs : B ≤ w.heap.size := by omega
  have hal := Lib.hid (h.under (below_alloc w (.cells #[.slice a n c] 22)))
  have hrI : (rn : Int) < 250 := by omega
  clear hrn hlen2 h hv hoff hBk hsc1
  go_enter Tryd.func11, Tryd.ntmps11
  go_upto_region 2 with (at_builtin; refine wpList_append_nlists _ rfl (.tmp 14) (.tmp 16) 32 rfl Tryd.underlying32 info_nlist B (.slice ra rn rc) vs rfl hal.out.row ⟨w.heap.size, 0, none⟩ 1 1 [.slice a n c] rfl rfl (nnewsv _ _ _) (by intro u hu; obtain rfl := List.mem_singleton.1 hu; rfl) (by rw [HRN.out]; omega) (by have := hal.out.lt; omega) ?_; intro r' w1 hO1 hg1 hat1; obtain ⟨qa, qn, qc, rfl⟩ := hO1.slice; have HF := Lib.hid (hal.out.first hO1 hg1 hat1); have hb1 := HF.out.1; have c2' : w1.cell? ⟨g, 4, none⟩ = some (.slice ra rn rc) := cell_of_row w1 g 4 _ _ _ hb1; have f2' := frozen_of_row w1 g 4 _ _ hb1; clear hb1)
  clear c2 c2' f2' hal
  obtain ⟨w2, hw2⟩ : ∃ w2, w2 = w1.setCell ⟨g, 4, none⟩ (.slice qa qn qc) := ⟨_, rfl⟩
  rw [← hw2]
  obtain ⟨-, hbk2, hr2, hs2, hap2, hf2, hbl2, hch2⟩ := HF.out
  rw [← hw2] at hbk2 hr2 hs2 hf2 hbl2 hch2
  have HAT1 := Lib.hid hat1
  clear HF hO1 hg1 hat1 hw2
  have hf02 := (FrN.of_below (below_alloc w _)).trans hf2
  have hb02 := ((below_alloc w _).mono hbs).trans hbl2
  have HCH2 : Hid (Chg (KF g (.slice ra rn rc) (.slice sa rn sc)) w w2) := Lib.hid ((Chg.of (below_alloc w _)).trans (hch2.mono fun k h => h.elim Or.inl fun h => Or.inr (Or.inl h)) fun _ h => Or.inl h)
  have c3 : w2.cell? ⟨g, 5, none⟩ = some (.slice sa rn sc) := cell_of_row w2 g 5 _ _ _ hbk2
  have hz2 : B ≤ w2.heap.size := by have := hb02.size; omega
  obtain ⟨hnl, hrd⟩ : n = l.length ∧ RdN w2 a l := by
    obtain ⟨a', c', he, -, -, h3, -⟩ := (HV.out.frn hf02).form
    simp only [Value.slice.injEq] at he
    obtain ⟨rfl, rfl, rfl⟩ := he
    exact ⟨rfl, h3⟩
  have HNL := Lib.hid hnl
  have HRD := Lib.hid hrd
  have HBK2 := Lib.hid hbk2
  have HR2 := Lib.hid hr2
  have HS2 := Lib.hid hs2
  have HAP2 := Lib.hid hap2
  have HF2 := Lib.hid hf02
  have HBL2 := Lib.hid hb02
  clear hbk2 hr2 hs2 hap2 hf02 hb02 hf2 hbl2 hnl hrd hch2
  go_region_law (first
    | (refine step_append_nlists _ rfl (.tmp 24) (.tmp 27) 32 rfl Tryd.underlying32 info_nlist B (.slice sa rn sc) us (by simp [Act.eval]) (HS3.out.alloc _) ⟨w3.heap.size, 0, none⟩ 1 1 [.slice ua un uc] (by simp [Act.eval]) rfl (nnewsv _ _ _) (by intro u hu; obtain rfl := List.mem_singleton.1 hu; rfl) (by rw [HL2.out, HRN.out]; omega) (by simp; omega) ?_; intro s' w4 hO4 hg4 hat4; obtain ⟨za, zn, zc, rfl⟩ := hO4.slice; have HAT4 := Lib.hid hat4; have HT := Lib.hid (BKN.second (slot_kept HBK3.out (below_alloc w3 _)) (HR3.out.alloc _) (HS3.out.alloc _) HAP2.out hgB hO4 hg4 hat4); have hb4 := HT.out.1; have c3 : w4.cell? ⟨g, 5, none⟩ = some (.slice sa rn sc) := cell_of_row w4 g 5 _ _ _ hb4; have f3 := frozen_of_row w4 g 5 _ _ hb4; clear hb4)
    | (go_simp; go_at_call 31; refine (ncopy_any a n c l _ HNL.out (by exact HRD.out) (by rw [HNL.out]; omega)).mono ?_; rintro e w3 ⟨u, rfl, hOu, hb3⟩; obtain ⟨ua, un, uc, rfl⟩ := hOu.slice; have hb23 : Below w2.heap.size w2 w3 := ⟨hb3.os, hb3.tape, hb3.output, hb3.size, hb3.block⟩; have HBK3 := Lib.hid (slot_kept HBK2.out hb23); have HR3 := Lib.hid (HR2.out.below hb23); have HS3 := Lib.hid (HS2.out.below hb23); have HOU := Lib.hid hOu; have HB23 := Lib.hid hb23; have c3' : w3.cell? ⟨g, 5, none⟩ = some (.slice sa rn sc) := cell_of_row w3 g 5 _ _ _ HBK3.out; have c3'' : (w3.alloc (.cells #[.slice ua un uc] 22)).cell? ⟨g, 5, none⟩ = some (.slice sa rn sc) := cell_of_row _ g 5 _ _ _ (slot_kept HBK3.out (below_alloc w3 _)); have hz3 : B ≤ w3.heap.size := (by have := hb23.size; omega); clear hb3 hb23 hOu))
  all_goals
    go_end0
    obtain ⟨-, hbk, hr, hs, hap, hf, hbl, hch⟩ := HT.out
    have hf34 := (FrN.of_below (below_alloc w3 (.cells #[.slice ua un uc] 22))).trans hf
    have hf04 := HF2.out.trans ((FrN.of_below HB23.out).trans hf34)
    have hbl4 := HBL2.out.trans ((HB23.out.mono hz2).trans (((below_alloc w3 (.cells #[.slice ua un uc] 22)).mono hz3).trans hbl))
    have hz02 : w.heap.size ≤ w2.heap.size := HCH2.out.size
    have hz23 : w2.heap.size ≤ w3.heap.size := HB23.out.size
    refine ⟨rfl, ⟨_, _, .slice ua un uc, ⟨hbk, hr, hs, hap, (HB.out.kept.fr hf04).append (.cons ⟨base, HV.out.frn hf04⟩ .nil), (HB.out.copies.fr hf04).append (.cons ⟨_, HOU.out.frn hf34⟩ .nil), alloffn_snoc HB.out.off HOFF.out, ?_, hgB⟩, ?_, ?_, ?_⟩, hbl4, ?_⟩
    · intro u hu b hub
      rcases List.mem_append.1 hu with hu | hu
      · exact HB.out.blk u hu b hub
      · obtain rfl := List.mem_singleton.1 hu
        have := (own_ltb HV.out b hub).1
        omega
    · intro k hk
      rcases HAT1.out with h1 | h1
      · exact Or.inl (h1.symm.trans hk)
      · rw [h1] at hk
        simp only [Option.some.injEq, heap_alloc_size'] at hk
        omega
    · intro k hk
      rcases HAT4.out with h1 | h1
      · exact Or.inl (h1.symm.trans hk)
      · rw [h1] at hk
        simp only [Option.some.injEq, heap_alloc_size'] at hk
        omega
    · intro k hk
      exact Nat.le_trans hz02 (own_ltb HOU.out k hk).1
    · refine (HCH2.out.trans (Chg.of (F := fun _ => False) HB23.out) fun _ h => nomatch h).trans ((Chg.of (below_alloc w3 (.cells #[.slice ua un uc] 22))).trans (hch.mono fun k h => ?_) fun _ h => Or.inl h) fun _ h => Or.inl h
      exact h.elim Or.inl fun h => Or.inr (Or.inr h)
end Go.Proofs.YtkkjkohmekbdbaaDoor

namespace Go.Proofs.YtkkjkohmekbdbaaDoor
open Go.RowKit

theorem HalfN.marks {ls ls' : List (List Nd)} {k : Nat} (h : HalfN ls ls' k) (hk : k = ls.length) (hl : ls'.length = ls.length) {m : Nat} (hm : ∀ (i : Nat) (l : List Nd), ls[i]? = some l → l.length ≤ m) : ∀ (i : Nat) (l : List Nd), ls'[i]? = some l → l = Proofs.YtkkjkohmekbdbaaDoor.nmarks i 0 l.length ∧ l.length ≤ m := by
  intro i l hi
  have hil : i < ls.length := by rw [← hl]; exact (List.getElem?_eq_some_iff.1 hi).1
  obtain ⟨l0, h0⟩ : ∃ l0, ls[i]? = some l0 := ⟨_, List.getElem?_eq_getElem hil⟩
  have h1 := h i l0 h0
  rw [if_pos (by omega), hi] at h1
  obtain rfl := Option.some.inj h1
  rw [nmarks_length]
  exact ⟨rfl, hm i l0 h0⟩
theorem GON.marks {w : World} {g : Nat} {r s : Value} {b1 B : Nat} {vs : List Value} {ls : List (List Nd)} {k : Nat} {wr : World} {out : Value} {us : List Value} {ls' : List (List Nd)} (h : GON w g r s b1 B vs ls k wr out us ls') (hk : k = ls.length) {m : Nat} (hm : ∀ (i : Nat) (l : List Nd), ls[i]? = some l → l.length ≤ m) : ∀ (i : Nat) (l : List Nd), ls'[i]? = some l → l = Proofs.YtkkjkohmekbdbaaDoor.nmarks i 0 l.length ∧ l.length ≤ m + 72 := by
  intro i l hi
  have hlen : ls'.length = k := by rw [← h.put.length, h.len]
  have hil : i < ls.length := by rw [← hk, ← hlen]; exact (List.getElem?_eq_some_iff.1 hi).1
  obtain ⟨l0, h0⟩ : ∃ l0, ls[i]? = some l0 := ⟨_, List.getElem?_eq_getElem hil⟩
  have h1 := h.mks i l0 (by omega) h0
  rw [hi] at h1
  obtain rfl := Option.some.inj h1
  rw [nmarks_length]
  exact ⟨rfl, by have := hm i l0 h0; omega⟩
theorem bookn_cells {w : World} {g : Nat} {r s : Value} (h : BookN w g r s) : w.cell? ⟨g, 0, none⟩ = some (.slice none 0 0) ∧ w.cell? ⟨g, 2, none⟩ = some (.slice none 0 0) ∧ w.cell? ⟨g, 6, none⟩ = some (.slice none 0 0) ∧ w.cell? ⟨g, 8, none⟩ = some (.slice none 0 0) ∧ w.cell? ⟨g, 4, none⟩ = some r :=
  ⟨cell_of_row w g 0 _ _ _ h, cell_of_row w g 2 _ _ _ h, cell_of_row w g 6 _ _ _ h, cell_of_row w g 8 _ _ _ h, cell_of_row w g 4 _ _ _ h⟩
set_option maxRecDepth 100000 in
set_option maxHeartbeats 2000000 in
theorem napart_num {B : Nat} {w : World} {g : Nat} {r s : Value} {vs us : List Value} {ls : List (List Nd)} (h : BKN B w g r s vs us ls) (hlen : vs.length ≤ 300) (hl : ∀ (i : Nat) (l : List Nd), ls[i]? = some l → l.length ≤ 10000) :
    Calls Tryd.prog 18 #[.pointer (some ⟨g, 0, none⟩)] w fun e w' => e = .returned (.bool true) ∧ Below B w w' := by
  have hlen2 : us.length = vs.length := by rw [h.kept.length, h.copies.length]
  have hlen3 := h.kept.length
  have hBw : B ≤ w.heap.size := by have := h.lt; have := h.hg; omega
  obtain ⟨ra, rc, hre, -, -, -⟩ := h.row.form
  obtain ⟨sa, sc, hse, -, -, -⟩ := h.was.form
  obtain ⟨rn, hrn⟩ : ∃ rn, vs.length = rn := ⟨_, rfl⟩
  rw [hlen2] at hse
  rw [hrn] at hre hse hlen hlen3
  subst hre hse
  have HRN := Lib.hid hrn
  have HL3 := Lib.hid hlen3
  have HL := Lib.hid hl
  have HB := Lib.hid h
  obtain ⟨c0, c2, -, -, -⟩ := bookn_cells h.book
  clear hrn hlen2 hlen3 h hl
  go_enter Tryd.func18, Tryd.ntmps18
  go_wp2_with fail
  refine (stillInts_z c0).mono ?_
  rintro e w' ⟨rfl, rfl⟩
  clear c0
  go_wp2_with fail
  refine (stillLimbs_z c2).mono ?_
  rintro e w' ⟨rfl, rfl⟩
  clear c2
  go_wp2_with fail
  refine (nstill_num HB.out.book HB.out.row HB.out.was HB.out.kept HB.out.copies HRN.out.symm (by omega) (fun i l hi => by have := HL.out i l hi; omega)).mono ?_
  rintro e w1 ⟨rfl, hb1⟩
  have HB1 := Lib.hid (HB.out.under hb1)
  have hw1 : Below B w w1 := hb1.mono hBw
  obtain ⟨c0, c2, c6, c8, -⟩ := bookn_cells HB1.out.book
  clear hb1 HB
  go_wp2_with fail
  refine (stillPairs_z c6).mono ?_
  rintro e w' ⟨rfl, rfl⟩
  go_wp2_with fail
  refine (stillSteps_z c8).mono ?_
  rintro e w' ⟨rfl, rfl⟩
  go_wp2_with fail
  refine (putSteps_z c8).mono ?_
  rintro e w' ⟨rfl, rfl⟩
  go_wp2_with fail
  refine (putInts_z c0).mono ?_
  rintro e w' ⟨rfl, rfl⟩
  go_wp2_with fail
  refine (putLimbs_z c2).mono ?_
  rintro e w' ⟨rfl, rfl⟩
  clear c0 c2 c6 c8
  go_wp2_with fail
  refine (bput_num HB1.out.book HB1.out.row HB1.out.kept HB1.out.off HRN.out.symm (by omega) (fun i l hi => by have := HL.out i l hi; omega) HB1.out.blk (by have := hw1.size; omega)).mono ?_
  rintro e w2 ⟨rfl, hbk2, hro2, ⟨ls2, hk2, hh2⟩, hb2⟩
  have hw2 := hw1.trans hb2
  have hlen2 : ls2.length = ls.length := by rw [← hk2.length, HRN.out, HL3.out]
  have HMK := Lib.hid (hh2.marks HL3.out hlen2 HL.out)
  have HS2 : Hid (GSN w2 g (.slice ra rn rc) B vs ls2) := Lib.hid ⟨by have := hw2.size; omega, HB1.out.off, fun v hv b hb => ⟨HB1.out.blk v hv b hb, hk2.lt v hv b hb⟩, fun b hb => (hro2.lt b hb).2, fun i l hi => ⟨(HMK.out i l hi).1, by have := (HMK.out i l hi).2; omega⟩⟩
  have HRN2 : Hid (rn = ls2.length) := Lib.hid (by rw [hlen2]; exact HL3.out)
  have HK2 := Lib.hid hk2
  have HBK2 := Lib.hid hbk2
  have HRO2 := Lib.hid hro2
  obtain ⟨c0, c2, c6, c8, -⟩ := bookn_cells hbk2
  clear hb2 hh2 hlen2 hk2 hbk2 hro2 HB1 hw1 HL HL3
  go_wp2_with fail
  refine (putPairs_z c6).mono ?_
  rintro e w' ⟨rfl, rfl⟩
  go_wp2_with fail
  refine (growInts_z c0).mono ?_
  rintro e w' ⟨rfl, rfl⟩
  go_wp2_with fail
  refine (growLimbs_z c2).mono ?_
  rintro e w' ⟨rfl, rfl⟩
  clear c0 c2 c6 c8
  go_wp2_with fail
  refine (ngrow_num HBK2.out HRO2.out HK2.out HS2.out HRN.out.symm hlen).mono ?_
  rintro e w3 ⟨out, us3, ls3, rfl, hG⟩
  have hw3 := hw2.trans hG.below
  obtain ⟨oa, oc, ho, -, -, -⟩ := hG.row.form
  rw [hG.len] at ho
  subst ho
  have HG := Lib.hid hG
  have HM3 := Lib.hid (hG.marks HRN2.out (fun i l hi => (HMK.out i l hi).2))
  obtain ⟨c0, c2, c6, c8, c4⟩ := bookn_cells hG.book
  have hb3w : B ≤ w3.heap.size := by have := hw3.size; omega
  clear hG hw2 HBK2 HRO2 HK2 HS2
  go_wp2_with fail
  refine (growPairs_z c6).mono ?_
  rintro e w' ⟨rfl, rfl⟩
  go_wp2_with fail
  refine (growSteps_z c8).mono ?_
  rintro e w' ⟨rfl, rfl⟩
  go_wp2_with fail
  refine (markedInts_z w3).mono ?_
  rintro e w' ⟨rfl, rfl⟩
  go_wp2_with fail
  refine (markedInts_z w3).mono ?_
  rintro e w' ⟨rfl, rfl⟩
  go_wp2_with fail
  refine (markedLimbs_z w3).mono ?_
  rintro e w' ⟨rfl, rfl⟩
  go_wp2_with fail
  refine (markedLimbs_z w3).mono ?_
  rintro e w' ⟨rfl, rfl⟩
  go_wp2_with fail
  refine (nmarked_num HG.out.row HG.out.put (by rw [HG.out.len]) hlen (fun i l hi => ⟨(HM3.out i l hi).1, by have := (HM3.out i l hi).2; omega⟩)).mono ?_
  rintro e w4 ⟨rfl, hb4⟩
  have hw4 := hw3.trans (hb4.mono hb3w)
  have c4' := cell_after hb4 c4
  have c6' := cell_after hb4 c6
  have c8' := cell_after hb4 c8
  have hk4 := HG.out.kept.under hb4
  have hr4 := HG.out.rows.below hb4
  have hb4w : B ≤ w4.heap.size := by have := hw4.size; omega
  clear c0 c2 c4 c6 c8 hw3 hb4 HG HM3
  go_wp2_with fail
  refine (nmarked_num hr4 hk4 HRN.out.symm hlen (fun i l hi => ⟨(HMK.out i l hi).1, by have := (HMK.out i l hi).2; omega⟩)).mono ?_
  rintro e w5 ⟨rfl, hb5⟩
  have hw5 := hw4.trans (hb5.mono hb4w)
  have c6 := cell_after hb5 c6'
  have c8 := cell_after hb5 c8'
  clear c4' c6' c8' hk4 hr4 hb5 hw4
  go_wp2_with fail
  refine (markedPairs_z w5).mono ?_
  rintro e w' ⟨rfl, rfl⟩
  go_wp2_with fail
  refine (markedPairs_z w5).mono ?_
  rintro e w' ⟨rfl, rfl⟩
  go_wp2_with fail
  refine (markedSteps_z w5).mono ?_
  rintro e w' ⟨rfl, rfl⟩
  go_wp2_with fail
  refine (markedSteps_z w5).mono ?_
  rintro e w' ⟨rfl, rfl⟩
  go_wp2_with fail
  go_ret
  exact ⟨rfl, hw5⟩
end Go.Proofs.YtkkjkohmekbdbaaDoor
