/-
  Nod2: The reference's book of nodes: (*plain).put.
-/
import Derived.Test.YtkkjkohmekbdbaaDoorPk27
import Derived.Test.YtkkjkohmekbdbaaDoorPk23
import Derived.Deep.RegionLaw

namespace Go.Proofs.YtkkjkohmekbdbaaDoor
open Go.RowKit

theorem info_node : (Tryd.prog.info? 43).map (fun i => (i.zero, i.size, i.bytes)) = some (some (.agg #[.int .i64 0, .float .f64 0, .int .i64 0, .int .i64 0]), 4, 32) := by kernel_rfl
theorem node_parts {P : Program} (h : (P.info? 43).map (fun i => (i.zero, i.size, i.bytes)) = some (some (.agg #[.int .i64 0, .float .f64 0, .int .i64 0, .int .i64 0]), 4, 32)) : ∃ i, P.info? 43 = some i ∧ i.zero = some (.agg #[.int .i64 0, .float .f64 0, .int .i64 0, .int .i64 0]) ∧ i.size = 4 ∧ i.bytes = 32 := by
  obtain ⟨i, h1, h2⟩ := Option.map_eq_some_iff.1 h
  simp only [Prod.mk.injEq] at h2
  exact ⟨i, h1, h2.1, h2.2.1, h2.2.2⟩
theorem ncells_one (l : List Nd) : ∀ u ∈ ncells l, u.oneCell' = true := by
  intro u hu
  obtain ⟨n, -, hn⟩ := List.mem_flatMap.1 hu
  simp only [ncell, List.mem_cons, List.not_mem_nil, or_false] at hn
  rcases hn with rfl | rfl | rfl | rfl <;> rfl
/-- append(l, a node), l of the call's own, as one step of a region that draws. -/
theorem step_append_node {P : Program} (w : World) {ops : Array Oper} {o : Oper} {a : Act} {K : Act → World → Prop} {Q : Exit → Act → World → Prop} {E : Prop} (hgd : o.guard = none) (s x : Operand) (t : TypeId)
    (ho : o.op = .call { callee := .builtin .append, args := #[s, x], argTypes := #[t, t] }) (ht : P.underlying t = some (.slice 43)) (hi : (P.info? 43).map (fun i => (i.zero, i.size, i.bytes)) = some (some (.agg #[.int .i64 0, .float .f64 0, .int .i64 0, .int .i64 0]), 4, 32))
    (base : Nat) (v : Value) (vs : List Nd) (hs : a.eval s = v) (hown : OwN base w v vs)
    (ad : Addr) (m c : Nat) (us : List Nd) (hx : a.eval x = .slice (some ad) m c) (hm : us.length = m) (hnews : ∀ j u, (ncells us)[j]? = some u → w.cell? (ad.add j) = some u)
    (hM : vs.length + m ≤ 1000000) (hbase : base ≤ w.heap.size)
    (hK : ∀ v' w', OwN base w' v' (vs ++ us) → w.grownBy w' v.ownBlock → (v'.ownBlock = v.ownBlock ∨ v'.ownBlock = some w.heap.size) → K (a.put o.dst v') w') : if Region.wanted o (yielded ops a.tmps) = true then Oper.wp P o a w K Q else E := by
  have hw : Region.wanted o (yielded ops a.tmps) = true := by simp [Region.wanted, hgd]
  rw [if_pos hw]
  obtain ⟨i, h2, h3, h4, h5⟩ := node_parts hi
  obtain ⟨v', w', hr, g2, g3, g4, g5⟩ := run_append_own_at (P := P) w base t o.type 43 i _ 4 32 ht h2 h3 h4 h5 rfl (by decide) v vs.length (ncells vs) hown ad m c (ncells us) (by rw [ncells_length, hm]) hnews (ncells_one us) (by unfold maxLen; omega) (by omega) hbase
  unfold Oper.wp execOp
  simp only [ho, resolve, invoke, builtin, Sem.run_bind, Sem.run_pure, Result.andThen_ok, List.map_toArray, List.map_cons, List.map_nil, hs, hx, hr]
  refine hK v' w' ?_ g3 g5
  unfold OwN
  rw [List.length_append, hm, ncells_append]
  exact g2
theorem addr_add (b o j : Nat) : (⟨b, o, none⟩ : Addr).add j = ⟨b, o + j, none⟩ := by
  unfold Addr.add
  split
  · rename_i h; subst h; rfl
  · rfl
theorem node_new1 (w : World) (n : Nd) (t : TypeId) : ∀ j u, (ncells [n])[j]? = some u → (w.alloc (.cells #[.int .i64 n.1, .float .f64 n.2.1, .int .i64 n.2.2.1, .int .i64 n.2.2.2] t)).cell? ((⟨w.heap.size, 0, none⟩ : Addr).add j) = some u := by
  intro j u hj
  have e : ncells [n] = ncell n := by simp [ncells]
  rw [e] at hj
  obtain ⟨p0, p1, p2, p3⟩ := slot4 (heap_alloc_new w (.cells #[.int .i64 n.1, .float .f64 n.2.1, .int .i64 n.2.2.1, .int .i64 n.2.2.2] t))
  rw [addr_add, Nat.zero_add]
  match j, hj with
  | 0, hj => simp only [ncell, List.getElem?_cons_zero, Option.some.injEq] at hj; subst hj; exact p0
  | 1, hj => simp only [ncell, List.getElem?_cons_succ, List.getElem?_cons_zero, Option.some.injEq] at hj; subst hj; exact p1
  | 2, hj => simp only [ncell, List.getElem?_cons_succ, List.getElem?_cons_zero, Option.some.injEq] at hj; subst hj; exact p2
  | 3, hj => simp only [ncell, List.getElem?_cons_succ, List.getElem?_cons_zero, Option.some.injEq] at hj; subst hj; exact p3
  | j + 4, hj => simp [ncell] at hj
/-- P901: a node that may not be put behind so many. -/
def nbad (len : Nat) (n : Nd) : Bool := !nvalid n || (if n.1 = 0 then decide (¬ rg n.2.1 < INF) else decide ((len : Int) ≤ n.2.2.1 ∨ (n.1 ≠ 5 ∧ (len : Int) ≤ n.2.2.2)))
/-- The first place of a node. -/
def nfind : List Nd → Nd → Option Nat
  | [], _ => none
  | x :: l, n => if x = n then some 0 else (nfind l n).map (· + 1)
theorem nfind_none {l : List Nd} {n : Nd} (h : ∀ j : Nat, j < l.length → l[j]? ≠ some n) : nfind l n = none := by
  induction l with
  | nil => rfl
  | cons x l ih =>
    have h0 := h 0 (by simp)
    simp only [List.getElem?_cons_zero, ne_eq, Option.some.injEq] at h0
    unfold nfind
    rw [if_neg h0, ih (fun j hj => by have := h (j + 1) (by simp; omega); simpa using this)]
    rfl
theorem nfind_some {l : List Nd} {n : Nd} {k : Nat} (hk : l[k]? = some n) (h : ∀ j : Nat, j < k → l[j]? ≠ some n) : nfind l n = some k := by
  induction l generalizing k with
  | nil => simp at hk
  | cons x l ih =>
    unfold nfind
    cases k with
    | zero =>
      simp only [List.getElem?_cons_zero, Option.some.injEq] at hk
      rw [if_pos hk]
    | succ k =>
      have h0 := h 0 (by omega)
      simp only [List.getElem?_cons_zero, ne_eq, Option.some.injEq] at h0
      rw [if_neg h0, ih (k := k) (by simpa using hk) (fun j hj => by have := h (j + 1) (by omega); simpa using this)]
      rfl
/-- P901: what a node that is put becomes, and the nodes then. -/
def nput (s : Bool) (l : List Nd) (n : Nd) : Option Nat × List Nd :=
  if nbad l.length n then (none, l) else if s then (match nfind l n with | some i => (some i, l) | none => (some l.length, l ++ [n])) else (some l.length, l ++ [n])
def idI : Option Nat → Int
  | some i => (i : Int)
  | none => -1
theorem nput_bad {s : Bool} {l : List Nd} {n : Nd} (h : nbad l.length n = true) : nput s l n = (none, l) := by unfold nput; rw [if_pos h]
theorem nput_old {l : List Nd} {n : Nd} {k : Nat} (h : nbad l.length n = false) (hk : nfind l n = some k) : nput true l n = (some k, l) := by unfold nput; rw [h, hk]; rfl
theorem nput_new {s : Bool} {l : List Nd} {n : Nd} (h : nbad l.length n = false) (hk : s = true → nfind l n = none) : nput s l n = (some l.length, l ++ [n]) := by
  unfold nput
  rw [h]
  cases s
  · rfl
  · rw [hk rfl]; rfl
/-- The reference's book lies in a block of its own. -/
def PL (base : Nat) (w : World) (g : Nat) (v : Value) (l : List Nd) (s : Bool) : Prop := w.heap[g]? = some (.cells #[v, .bool s] 28 (0, 0)) ∧ OwN base w v l ∧ base ≤ g
/-- The blocks of the book. -/
def FP (g : Nat) (v : Value) (k : Nat) : Prop := k = g ∨ v.ownBlock = some k
theorem PL.same {base : Nat} {w w' : World} {g : Nat} {v : Value} {l : List Nd} {s : Bool} (h : PL base w g v l s) (hb : ∀ k, FP g v k → w'.heap[k]? = w.heap[k]?) : PL base w' g v l s :=
  ⟨(hb g (Or.inl rfl)).trans h.1, h.2.1.same fun k hk => hb k (Or.inr hk), h.2.2⟩
theorem PL.lt {base : Nat} {w : World} {g : Nat} {v : Value} {l : List Nd} {s : Bool} (h : PL base w g v l s) : ∀ k, FP g v k → base ≤ k ∧ k < w.heap.size := by
  rintro k (rfl | hk)
  · exact ⟨h.2.2, (Array.getElem?_eq_some_iff.1 h.1).1⟩
  · exact h.2.1.lt k hk
theorem PL.below {base : Nat} {w w' : World} {g : Nat} {v : Value} {l : List Nd} {s : Bool} (h : PL base w g v l s) (hb : Below w.heap.size w w') : PL base w' g v l s := h.same fun k hk => hb.block k (h.lt k hk).2
theorem PL.fr {base : Nat} {w w' : World} {g : Nat} {v : Value} {l : List Nd} {s : Bool} {F : Nat → Prop} (h : PL base w g v l s) (hb : Chg F w w') (hF : ∀ k, FP g v k → ¬ F k) : PL base w' g v l s := h.same fun k hk => hb.block k (h.lt k hk).2 (hF k hk)
/-- A node has been put into the book. -/
def RetPut (base : Nat) (w : World) (g : Nat) (v : Value) (l : List Nd) (s : Bool) (n : Nd) (e : Ending) (w' : World) : Prop :=
  e = .returned (.int .i64 (idI (nput s l n).1)) ∧ ∃ v', PL base w' g v' (nput s l n).2 s ∧ (∀ k, FP g v' k → FP g v k ∨ w.heap.size ≤ k) ∧ Chg (FP g v) w w'
theorem plain_set {w : World} {g : Nat} {x y : Value} (h0 : w.cell? ⟨g, 0, none⟩ = some x) (h1 : w.cell? ⟨g, 1, none⟩ = some y) (u : Value) : (w.setCell ⟨g, 0, none⟩ u).cell? ⟨g, 0, none⟩ = some u ∧ (w.setCell ⟨g, 0, none⟩ u).cell? ⟨g, 1, none⟩ = some y := by
  constructor
  · exact World.cell?_setCell_same _ _ _ h0
  · refine (World.cell?_setCell_other _ _ _ _ ?_).trans h1
    simp
theorem put_new {base : Nat} {w wr w5 : World} {g n : Nat} {va : Option Addr} {vc : Nat} {v' : Value} {l : List Nd} {s : Bool} {nd : Nd} {o : Obj} (hP : PL base w g (.slice va n vc) l s) (hg : nbad l.length nd = false) (hf : s = true → nfind l nd = none) (hb : Below w.heap.size w wr)
    (hO : OwN base w5 v' (l ++ [nd])) (hgr : (wr.alloc o).grownBy w5 (Value.slice va n vc).ownBlock) (hat : v'.ownBlock = (Value.slice va n vc).ownBlock ∨ v'.ownBlock = some (wr.alloc o).heap.size) (he : w5.heap[g]? = some (.cells #[.slice va n vc, .bool s] 28 (0, 0))) :
    RetPut base w g (.slice va n vc) l s nd (.returned (.int .i64 (l.length : Int))) (w5.setCell ⟨g, 0, none⟩ v') := by
  unfold RetPut
  rw [nput_new hg hf]
  have hgw := (hP.lt g (Or.inl rfl)).2
  have hne : ∀ k, v'.ownBlock = some k → k ≠ g := by
    rintro k hk rfl
    rcases hO.2 with ⟨rfl, -⟩ | ⟨g', cap, cur, rfl, -, hh, -⟩
    · simp [Value.ownBlock] at hk
    · simp only [Value.ownBlock, Option.some.injEq] at hk
      subst hk
      rw [he] at hh
      simp only [Option.some.injEq, Obj.cells.injEq] at hh
      exact absurd hh.2.1 (by decide)
  have hsz := hb.size
  refine ⟨rfl, v', ⟨?_, hO.same fun k hk => heap_setCell_other _ _ _ _ (hne k hk), hP.2.2⟩, ?_, ?_⟩
  · rw [heap_setCell_same w5 g 0 _ _ _ he]; rfl
  · rintro k (rfl | hk)
    · exact Or.inl (Or.inl rfl)
    · rcases hat with h | h
      · exact Or.inl (Or.inr (h ▸ hk))
      · right
        rw [h] at hk
        simp only [Option.some.injEq] at hk
        subst hk
        simp
        omega
  · have c1 : Chg (FP g (.slice va n vc)) w (wr.alloc o) := Chg.of (hb.trans ((below_alloc wr o).mono hb.size))
    have c2 : Chg (FP g (.slice va n vc)) (wr.alloc o) w5 := ⟨hgr.os, hgr.tape, hgr.output, hgr.size, fun k hk hF => hgr.block k hk (fun e => hF (Or.inr e.symm))⟩
    have c3 : Chg (FP g (.slice va n vc)) w5 (w5.setCell ⟨g, 0, none⟩ v') := Chg.only (Only.store (b := g) (lo := 0) (hi := 1) 0 v' (Nat.le_refl _) (by decide)) (Or.inl rfl)
    exact (c1.trans c2 (fun x hx => Or.inl hx)).trans c3 (fun x hx => Or.inl hx)
theorem OwN.alloc {base : Nat} {w : World} {v : Value} {l : List Nd} (h : OwN base w v l) (o : Obj) : OwN base (w.alloc o) v l := World.ownsRow.alloc h o
/-- The book's own block is not the one that an append turns. -/
theorem put_kept {base : Nat} {w w' : World} {g : Nat} {v : Value} {cs : Array Value} {l : List Nd} {o : Obj} (hd : w.heap[g]? = some (.cells cs 28 (0, 0))) (hO : OwN base w v l) (hg : (w.alloc o).grownBy w' v.ownBlock) : w'.heap[g]? = some (.cells cs 28 (0, 0)) := by
  have hlt : g < w.heap.size := (Array.getElem?_eq_some_iff.1 hd).1
  rw [hg.block g (by simp; omega) (fun e => ?_)]
  · exact slot_kept hd (below_alloc w o)
  · rcases hO.2 with ⟨rfl, -⟩ | ⟨g', cap, cur, rfl, -, hh, -⟩
    · simp [Value.ownBlock] at e
    · simp only [Value.ownBlock, Option.some.injEq] at e
      subst e
      rw [hd] at hh
      simp only [Option.some.injEq, Obj.cells.injEq] at hh
      exact absurd hh.2.1 (by decide)
theorem put_old {base : Nat} {w w' : World} {g : Nat} {v : Value} {l : List Nd} {n : Nd} {q : Nat} (hP : PL base w g v l true) (hg : nbad l.length n = false) (h1 : l[q]? = some n) (h2 : ∀ j : Nat, j < q → l[j]? ≠ some n) (hw : Below w.heap.size w w') : RetPut base w g v l true n (.returned (.int .i64 (q : Int))) w' := by
  unfold RetPut
  rw [nput_old hg (nfind_some h1 h2)]
  exact ⟨rfl, v, hP.below hw, fun k hk => Or.inl hk, Chg.of hw⟩
set_option maxRecDepth 100000 in
set_option maxHeartbeats 4000000 in
theorem plain_put {base : Nat} {w : World} {g : Nat} {vl : Value} {l : List Nd} {s : Bool} (nd : Nd) (h : PL base w g vl l s) (hl : l.length ≤ 100000) (hv : nd.2.1 < 18446744073709551616) (hbs : base ≤ w.heap.size) :
    Calls Tryd.prog 7 #[.pointer (some ⟨g, 0, none⟩), nval nd] w fun e w' => RetPut base w g vl l s nd e w' := by
  obtain ⟨k, v, a, b⟩ := nd
  obtain ⟨va, vc, rfl, hvc, hvc2, hrd, hblk⟩ := h.2.1.form
  obtain ⟨n, hn⟩ : ∃ n, l.length = n := ⟨_, rfl⟩
  have HP := Lib.hid h
  have HN := Lib.hid hn
  have HRD := Lib.hid hrd
  have hc := h.1
  have hgw := (h.lt g (Or.inl rfl)).2
  rw [hn] at hvc hl hc
  simp only [nval]
  simp only at hv
  have HVD := Lib.hid (valid_nd (k, v, a, b))
  simp only [nval] at HVD
  have HFI := Lib.hid (fun w => rfin_num v w hv)
  have HSM := Lib.hid (fun x => same_nd x (k, v, a, b))
  simp only [nval] at HSM
  obtain ⟨w1, hw1⟩ : ∃ w1, w.alloc (.cells #[.int .i64 k, .float .f64 v, .int .i64 a, .int .i64 b] 43) = w1 := ⟨_, rfl⟩
  have hb1 : Below w.heap.size w w1 := hw1 ▸ below_alloc w _
  have hc1 : w1.heap[w.heap.size]? = some (.cells #[.int .i64 k, .float .f64 v, .int .i64 a, .int .i64 b] 43 (0, 0)) := hw1 ▸ heap_alloc_new w _
  have hc2 : w1.heap[g]? = some (.cells #[.slice va n vc, .bool s] 28 (0, 0)) := slot_kept hc hb1
  have hsz := hb1.size
  -- what a bad node gives
  have HBAD : nbad n (k, v, a, b) = true → Hid (∀ w', Below w.heap.size w w' → RetPut base w g (.slice va l.length vc) l s (k, v, a, b) (.returned (.int .i64 (-1))) w') := fun hb => Lib.hid fun w' hw => by
    have e := nput_bad (s := s) (l := l) (n := (k, v, a, b)) (by rw [HN.out]; exact hb)
    unfold RetPut
    rw [e]
    exact ⟨rfl, _, HP.out.below hw, fun k hk => Or.inl hk, Chg.of hw⟩
  rw [hn]
  rw [hn] at HBAD HP
  clear h hn hrd hblk hc
  by_cases hval : nvalid (k, v, a, b) = true
  · rw [hval] at HVD
    by_cases hk : k = 0
    · subst hk
      by_cases hf : rg v < INF
      · rw [decide_eq_true hf] at HFI
        have HG : Hid (nbad n (0, v, a, b) = false) := Lib.hid (by unfold nbad; rw [hval]; simp [hf])
        clear hval hf
        clear HBAD
        go_enter Tryd.func7, Tryd.ntmps7
        go_upto_region 1 with fail
        refine wp_region_slots (by kernel_rfl) [6, 7, 8, 9, 10, 11, 12, 13, 14, 15, 16, 17, 18, 19, 20, 21, 22, 23, 24, 25, 26, 27, 28, 29, 30, 31, 32, 33, 34, 35, 36, 37, 38, 39, 40, 41, 42, 43, 44, 45, 46, 47, 48, 49] (fun w' => (w'.heap[w.heap.size]? = some (.cells #[.int .i64 0, .float .f64 v, .int .i64 a, .int .i64 b] 43 (0, 0))) ∧ (w'.heap[g]? = some (.cells #[.slice va n vc, .bool s] 28 (0, 0))) ∧ (Below w1.heap.size w1 w')) (Said [Is (.agg #[.int .i64 0, .float .f64 v, .int .i64 a, .int .i64 b]), Is (.bool true), Is (.bool false), Is (.bool false), Is (.pointer (some ⟨w.heap.size, 0, none⟩)), Is (.int .i64 0), Is (.bool true), Is (.bool true), Is (.pointer (some ⟨w.heap.size, 1, none⟩)), Is (.float .f64 v), Is (.bool true), Is (.bool false), Is (.bool false), Is (.bool false), Is (.bool false), Is (.pointer (some ⟨w.heap.size, 0, none⟩)), Is (.int .i64 0), Is (.bool false), Is (.bool false), Is undef, Is undef, Is undef, Is undef, Is undef, Is undef, Is undef, Is undef, Is undef, Is undef, Is undef, Is undef, Is undef, Is undef, Is undef, Is undef, Is undef, Is undef, Is undef, Is undef, Is undef, Is undef, Is undef, Is (.bool false), Is (.bool false)]) (by kernel_rfl) (by kernel_rfl) (by kernel_rfl) (by kernel_rfl) (Said.keep ?keep1) ⟨slot_kept hc1 (bdn (Below.refl _ _) 1), slot_kept hc2 (bdn (Below.refl _ _) 1), bdn (Below.refl _ _) 1⟩ (l := [0, 1, 2, 3, 4, 5, 6, 7, 8, 9, 10, 11, 12, 13, 14, 15, 16, 17, 18, 19, 20, 21, 22, 23, 24, 25, 26, 27, 28, 29, 30, 31, 32, 33, 34, 35, 36, 37, 38, 39, 40, 41, 42, 43]) (by kernel_rfl) ?step1 ?fin1
        case keep1 =>
          refine List.forall_mem_cons.2 ⟨Is.keeps _, ?_⟩
          refine List.forall_mem_cons.2 ⟨Is.keeps _, ?_⟩
          refine List.forall_mem_cons.2 ⟨Is.keeps _, ?_⟩
          refine List.forall_mem_cons.2 ⟨Is.keeps _, ?_⟩
          refine List.forall_mem_cons.2 ⟨Is.keeps _, ?_⟩
          refine List.forall_mem_cons.2 ⟨Is.keeps _, ?_⟩
          refine List.forall_mem_cons.2 ⟨Is.keeps _, ?_⟩
          refine List.forall_mem_cons.2 ⟨Is.keeps _, ?_⟩
          refine List.forall_mem_cons.2 ⟨Is.keeps _, ?_⟩
          refine List.forall_mem_cons.2 ⟨Is.keeps _, ?_⟩
          refine List.forall_mem_cons.2 ⟨Is.keeps _, ?_⟩
          refine List.forall_mem_cons.2 ⟨Is.keeps _, ?_⟩
          refine List.forall_mem_cons.2 ⟨Is.keeps _, ?_⟩
          refine List.forall_mem_cons.2 ⟨Is.keeps _, ?_⟩
          refine List.forall_mem_cons.2 ⟨Is.keeps _, ?_⟩
          refine List.forall_mem_cons.2 ⟨Is.keeps _, ?_⟩
          refine List.forall_mem_cons.2 ⟨Is.keeps _, ?_⟩
          refine List.forall_mem_cons.2 ⟨Is.keeps _, ?_⟩
          refine List.forall_mem_cons.2 ⟨Is.keeps _, ?_⟩
          refine List.forall_mem_cons.2 ⟨Is.keeps _, ?_⟩
          refine List.forall_mem_cons.2 ⟨Is.keeps _, ?_⟩
          refine List.forall_mem_cons.2 ⟨Is.keeps _, ?_⟩
          refine List.forall_mem_cons.2 ⟨Is.keeps _, ?_⟩
          refine List.forall_mem_cons.2 ⟨Is.keeps _, ?_⟩
          refine List.forall_mem_cons.2 ⟨Is.keeps _, ?_⟩
          refine List.forall_mem_cons.2 ⟨Is.keeps _, ?_⟩
          refine List.forall_mem_cons.2 ⟨Is.keeps _, ?_⟩
          refine List.forall_mem_cons.2 ⟨Is.keeps _, ?_⟩
          refine List.forall_mem_cons.2 ⟨Is.keeps _, ?_⟩
          refine List.forall_mem_cons.2 ⟨Is.keeps _, ?_⟩
          refine List.forall_mem_cons.2 ⟨Is.keeps _, ?_⟩
          refine List.forall_mem_cons.2 ⟨Is.keeps _, ?_⟩
          refine List.forall_mem_cons.2 ⟨Is.keeps _, ?_⟩
          refine List.forall_mem_cons.2 ⟨Is.keeps _, ?_⟩
          refine List.forall_mem_cons.2 ⟨Is.keeps _, ?_⟩
          refine List.forall_mem_cons.2 ⟨Is.keeps _, ?_⟩
          refine List.forall_mem_cons.2 ⟨Is.keeps _, ?_⟩
          refine List.forall_mem_cons.2 ⟨Is.keeps _, ?_⟩
          refine List.forall_mem_cons.2 ⟨Is.keeps _, ?_⟩
          refine List.forall_mem_cons.2 ⟨Is.keeps _, ?_⟩
          refine List.forall_mem_cons.2 ⟨Is.keeps _, ?_⟩
          refine List.forall_mem_cons.2 ⟨Is.keeps _, ?_⟩
          refine List.forall_mem_cons.2 ⟨Is.keeps _, ?_⟩
          refine List.forall_mem_cons.2 ⟨Is.keeps _, ?_⟩
          exact fun _ h => nomatch h
        case step1 =>
          refine List.forall_mem_cons.2 ⟨?_, ?_⟩
          · refine SlotStep.plain rfl rfl rfl ?_
            intro tm ws hsame hS hg K hK
            have e3 : tm[3]? = some (.pointer (some ⟨w.heap.size, 0, none⟩)) := hsame.2 3 rfl
            obtain ⟨k0, k1, k2, k3⟩ := slot4 (hS.1)
            go_simp
            exact hK _ _ (Below.refl _ _) hS rfl
          refine List.forall_mem_cons.2 ⟨?_, ?_⟩
          · refine SlotStep.plain rfl rfl rfl ?_
            intro tm ws hsame hS hg K hK
            obtain ⟨v6, e6, rfl⟩ := hg 0 (by kernel_rfl) _ 6 rfl rfl
            go_simp
            refine (HVD.out ws).mono ?_
            rintro e wm ⟨rfl, hb⟩
            exact hK _ _ hb (⟨slot_kept (hS.1) (hb), slot_kept (hS.2.1) (hb), (hS.2.2).trans (Below.mono (hb) (hS.2.2).size)⟩) rfl
          refine List.forall_mem_cons.2 ⟨?_, ?_⟩
          · refine SlotStep.plain rfl rfl rfl ?_
            intro tm ws hsame hS hg K hK
            obtain ⟨v7, e7, rfl⟩ := hg 1 (by kernel_rfl) _ 7 rfl rfl
            go_simp
            exact hK _ _ (Below.refl _ _) hS rfl
          refine List.forall_mem_cons.2 ⟨?_, ?_⟩
          · refine SlotStep.plain rfl rfl rfl ?_
            intro tm ws hsame hS hg K hK
            obtain ⟨v8, e8, rfl⟩ := hg 2 (by kernel_rfl) _ 8 rfl rfl
            go_simp
            exact hK _ _ (Below.refl _ _) hS rfl
          refine List.forall_mem_cons.2 ⟨?_, ?_⟩
          · refine SlotStep.guardedNot rfl rfl 3 rfl rfl (by kernel_rfl) (fun _ _ h => h) ?_
            intro tm ws hsame hS hg K hK
            have e3 : tm[3]? = some (.pointer (some ⟨w.heap.size, 0, none⟩)) := hsame.2 3 rfl
            go_simp
            exact hK _ _ (Below.refl _ _) hS rfl
          refine List.forall_mem_cons.2 ⟨?_, ?_⟩
          · refine SlotStep.guardedNot rfl rfl 3 rfl rfl (by kernel_rfl) (fun _ _ h => h) ?_
            intro tm ws hsame hS hg K hK
            obtain ⟨v10, e10, rfl⟩ := hg 4 (by kernel_rfl) _ 10 rfl rfl
            obtain ⟨k0, k1, k2, k3⟩ := slot4 (hS.1)
            go_simp
            exact hK _ _ (Below.refl _ _) hS rfl
          refine List.forall_mem_cons.2 ⟨?_, ?_⟩
          · refine SlotStep.guardedNot rfl rfl 3 rfl rfl (by kernel_rfl) (fun _ _ h => h) ?_
            intro tm ws hsame hS hg K hK
            obtain ⟨v11, e11, rfl⟩ := hg 5 (by kernel_rfl) _ 11 rfl rfl
            go_simp
            exact hK _ _ (Below.refl _ _) hS rfl
          refine List.forall_mem_cons.2 ⟨?_, ?_⟩
          · refine SlotStep.guardedNot rfl rfl 3 rfl rfl (by kernel_rfl) (fun _ _ h => h) ?_
            intro tm ws hsame hS hg K hK
            obtain ⟨v12, e12, rfl⟩ := hg 6 (by kernel_rfl) _ 12 rfl rfl
            go_simp
            exact hK _ _ (Below.refl _ _) hS rfl
          refine List.forall_mem_cons.2 ⟨?_, ?_⟩
          · refine SlotStep.guarded rfl rfl 7 rfl rfl (by kernel_rfl) (fun _ _ h => h) ?_
            intro tm ws hsame hS hg K hK
            have e3 : tm[3]? = some (.pointer (some ⟨w.heap.size, 0, none⟩)) := hsame.2 3 rfl
            go_simp
            exact hK _ _ (Below.refl _ _) hS rfl
          refine List.forall_mem_cons.2 ⟨?_, ?_⟩
          · refine SlotStep.guarded rfl rfl 7 rfl rfl (by kernel_rfl) (fun _ _ h => h) ?_
            intro tm ws hsame hS hg K hK
            obtain ⟨v14, e14, rfl⟩ := hg 8 (by kernel_rfl) _ 14 rfl rfl
            obtain ⟨k0, k1, k2, k3⟩ := slot4 (hS.1)
            go_simp
            exact hK _ _ (Below.refl _ _) hS rfl
          refine List.forall_mem_cons.2 ⟨?_, ?_⟩
          · refine SlotStep.guarded rfl rfl 7 rfl rfl (by kernel_rfl) (fun _ _ h => h) ?_
            intro tm ws hsame hS hg K hK
            obtain ⟨v15, e15, rfl⟩ := hg 9 (by kernel_rfl) _ 15 rfl rfl
            go_simp
            refine (HFI.out ws).mono ?_
            rintro e wm ⟨rfl, rfl⟩
            exact hK _ _ (Below.refl _ _) hS rfl
          refine List.forall_mem_cons.2 ⟨?_, ?_⟩
          · refine SlotStep.guarded rfl rfl 7 rfl rfl (by kernel_rfl) (fun _ _ h => h) ?_
            intro tm ws hsame hS hg K hK
            obtain ⟨v16, e16, rfl⟩ := hg 10 (by kernel_rfl) _ 16 rfl rfl
            go_simp
            exact hK _ _ (Below.refl _ _) hS rfl
          refine List.forall_mem_cons.2 ⟨?_, ?_⟩
          · refine SlotStep.guardedNot rfl rfl 3 rfl rfl (by kernel_rfl) (fun _ _ h => h) ?_
            intro tm ws hsame hS hg K hK
            obtain ⟨v13, e13, rfl⟩ := hg 7 (by kernel_rfl) _ 13 rfl rfl
            obtain ⟨v17, e17, rfl⟩ := hg 11 (by kernel_rfl) _ 17 rfl rfl
            go_simp
            exact hK _ _ (Below.refl _ _) hS rfl
          refine List.forall_mem_cons.2 ⟨?_, ?_⟩
          · refine SlotStep.plain rfl rfl rfl ?_
            intro tm ws hsame hS hg K hK
            obtain ⟨v9, e9, rfl⟩ := hg 3 (by kernel_rfl) _ 9 rfl rfl
            obtain ⟨v18, e18, rfl⟩ := hg 12 (by kernel_rfl) _ 18 rfl rfl
            go_simp
            exact hK _ _ (Below.refl _ _) hS rfl
          refine List.forall_mem_cons.2 ⟨?_, ?_⟩
          · refine SlotStep.plain rfl rfl rfl ?_
            intro tm ws hsame hS hg K hK
            obtain ⟨v19, e19, rfl⟩ := hg 13 (by kernel_rfl) _ 19 rfl rfl
            go_simp
            exact hK _ _ (Below.refl _ _) hS rfl
          refine List.forall_mem_cons.2 ⟨?_, ?_⟩
          · refine SlotStep.guardedNot rfl rfl 14 rfl rfl (by kernel_rfl) (fun _ _ h => h) ?_
            intro tm ws hsame hS hg K hK
            have e3 : tm[3]? = some (.pointer (some ⟨w.heap.size, 0, none⟩)) := hsame.2 3 rfl
            go_simp
            exact hK _ _ (Below.refl _ _) hS rfl
          refine List.forall_mem_cons.2 ⟨?_, ?_⟩
          · refine SlotStep.guardedNot rfl rfl 14 rfl rfl (by kernel_rfl) (fun _ _ h => h) ?_
            intro tm ws hsame hS hg K hK
            obtain ⟨v21, e21, rfl⟩ := hg 15 (by kernel_rfl) _ 21 rfl rfl
            obtain ⟨k0, k1, k2, k3⟩ := slot4 (hS.1)
            go_simp
            exact hK _ _ (Below.refl _ _) hS rfl
          refine List.forall_mem_cons.2 ⟨?_, ?_⟩
          · refine SlotStep.guardedNot rfl rfl 14 rfl rfl (by kernel_rfl) (fun _ _ h => h) ?_
            intro tm ws hsame hS hg K hK
            obtain ⟨v22, e22, rfl⟩ := hg 16 (by kernel_rfl) _ 22 rfl rfl
            go_simp
            exact hK _ _ (Below.refl _ _) hS rfl
          refine List.forall_mem_cons.2 ⟨?_, ?_⟩
          · refine SlotStep.guardedNot rfl rfl 14 rfl rfl (by kernel_rfl) (fun _ _ h => h) ?_
            intro tm ws hsame hS hg K hK
            obtain ⟨v23, e23, rfl⟩ := hg 17 (by kernel_rfl) _ 23 rfl rfl
            go_simp
            exact hK _ _ (Below.refl _ _) hS rfl
          refine List.forall_mem_cons.2 ⟨?_, ?_⟩
          · exact SlotStep.skip rfl rfl 18 true rfl rfl (by kernel_rfl) (fun _ _ h => h) (fun _ => rfl)
          refine List.forall_mem_cons.2 ⟨?_, ?_⟩
          · exact SlotStep.skip rfl rfl 18 true rfl rfl (by kernel_rfl) (fun _ _ h => h) (fun _ => rfl)
          refine List.forall_mem_cons.2 ⟨?_, ?_⟩
          · exact SlotStep.skip rfl rfl 18 true rfl rfl (by kernel_rfl) (fun _ _ h => h) (fun _ => rfl)
          refine List.forall_mem_cons.2 ⟨?_, ?_⟩
          · exact SlotStep.skip rfl rfl 18 true rfl rfl (by kernel_rfl) (fun _ _ h => h) (fun _ => rfl)
          refine List.forall_mem_cons.2 ⟨?_, ?_⟩
          · exact SlotStep.skip rfl rfl 18 true rfl rfl (by kernel_rfl) (fun _ _ h => h) (fun _ => rfl)
          refine List.forall_mem_cons.2 ⟨?_, ?_⟩
          · exact SlotStep.skip rfl rfl 18 true rfl rfl (by kernel_rfl) (fun _ _ h => h) (fun _ => rfl)
          refine List.forall_mem_cons.2 ⟨?_, ?_⟩
          · exact SlotStep.skip rfl rfl 18 true rfl rfl (by kernel_rfl) (fun _ _ h => h) (fun _ => rfl)
          refine List.forall_mem_cons.2 ⟨?_, ?_⟩
          · exact SlotStep.skip rfl rfl 18 true rfl rfl (by kernel_rfl) (fun _ _ h => h) (fun _ => rfl)
          refine List.forall_mem_cons.2 ⟨?_, ?_⟩
          · exact SlotStep.skip rfl rfl 18 true rfl rfl (by kernel_rfl) (fun _ _ h => h) (fun _ => rfl)
          refine List.forall_mem_cons.2 ⟨?_, ?_⟩
          · exact SlotStep.skipU rfl rfl 27 false rfl rfl (by kernel_rfl) (fun _ _ h => h) (fun _ => rfl)
          refine List.forall_mem_cons.2 ⟨?_, ?_⟩
          · exact SlotStep.skipU rfl rfl 27 false rfl rfl (by kernel_rfl) (fun _ _ h => h) (fun _ => rfl)
          refine List.forall_mem_cons.2 ⟨?_, ?_⟩
          · exact SlotStep.skipU rfl rfl 27 false rfl rfl (by kernel_rfl) (fun _ _ h => h) (fun _ => rfl)
          refine List.forall_mem_cons.2 ⟨?_, ?_⟩
          · exact SlotStep.skipU rfl rfl 27 false rfl rfl (by kernel_rfl) (fun _ _ h => h) (fun _ => rfl)
          refine List.forall_mem_cons.2 ⟨?_, ?_⟩
          · exact SlotStep.skipU rfl rfl 31 true rfl rfl (by kernel_rfl) (fun _ _ h => h) (fun _ => rfl)
          refine List.forall_mem_cons.2 ⟨?_, ?_⟩
          · exact SlotStep.skipU rfl rfl 31 true rfl rfl (by kernel_rfl) (fun _ _ h => h) (fun _ => rfl)
          refine List.forall_mem_cons.2 ⟨?_, ?_⟩
          · exact SlotStep.skipU rfl rfl 31 true rfl rfl (by kernel_rfl) (fun _ _ h => h) (fun _ => rfl)
          refine List.forall_mem_cons.2 ⟨?_, ?_⟩
          · exact SlotStep.skipU rfl rfl 31 true rfl rfl (by kernel_rfl) (fun _ _ h => h) (fun _ => rfl)
          refine List.forall_mem_cons.2 ⟨?_, ?_⟩
          · exact SlotStep.skipU rfl rfl 31 true rfl rfl (by kernel_rfl) (fun _ _ h => h) (fun _ => rfl)
          refine List.forall_mem_cons.2 ⟨?_, ?_⟩
          · exact SlotStep.skipU rfl rfl 31 true rfl rfl (by kernel_rfl) (fun _ _ h => h) (fun _ => rfl)
          refine List.forall_mem_cons.2 ⟨?_, ?_⟩
          · exact SlotStep.skipU rfl rfl 31 true rfl rfl (by kernel_rfl) (fun _ _ h => h) (fun _ => rfl)
          refine List.forall_mem_cons.2 ⟨?_, ?_⟩
          · exact SlotStep.skipU rfl rfl 31 true rfl rfl (by kernel_rfl) (fun _ _ h => h) (fun _ => rfl)
          refine List.forall_mem_cons.2 ⟨?_, ?_⟩
          · exact SlotStep.skipU rfl rfl 27 false rfl rfl (by kernel_rfl) (fun _ _ h => h) (fun _ => rfl)
          refine List.forall_mem_cons.2 ⟨?_, ?_⟩
          · exact SlotStep.skip rfl rfl 18 true rfl rfl (by kernel_rfl) (fun _ _ h => h) (fun _ => rfl)
          refine List.forall_mem_cons.2 ⟨?_, ?_⟩
          · refine SlotStep.guardedNot rfl rfl 14 rfl rfl (by kernel_rfl) (fun _ _ h => h) ?_
            intro tm ws hsame hS hg K hK
            obtain ⟨v24, e24, rfl⟩ := hg 18 (by kernel_rfl) _ 24 rfl rfl
            obtain ⟨v47, e47, rfl⟩ := hg 41 (by kernel_rfl) _ 47 rfl rfl
            go_simp
            exact hK _ _ (Below.refl _ _) hS rfl
          refine List.forall_mem_cons.2 ⟨?_, ?_⟩
          · refine SlotStep.plain rfl rfl rfl ?_
            intro tm ws hsame hS hg K hK
            obtain ⟨v20, e20, rfl⟩ := hg 14 (by kernel_rfl) _ 20 rfl rfl
            obtain ⟨v48, e48, rfl⟩ := hg 42 (by kernel_rfl) _ 48 rfl rfl
            go_simp
            exact hK _ _ (Below.refl _ _) hS rfl
          exact fun _ h => nomatch h
        case fin1 =>
          intro tm w3 hsame hS hgot
          obtain ⟨u, hu, htm⟩ := hsame.form (by kernel_rfl)
          obtain ⟨v49, e49, rfl⟩ := hgot 43 _ 49 rfl rfl
          have h49 := hu _ _ e49
          have hc1' := hS.1
          have hc2' := hS.2.1
          have hb3 := hS.2.2
          clear hgot hu hsame e49 hS hc1 hc2
          rw [htm]
          clear htm tm
          simp only [List.foldl_cons, List.foldl_nil, List.setIfInBounds_toArray, List.set_cons_zero, List.set_cons_succ, h49]
          clear h49
          go_wp2_with fail
          go_loopw [5] (fun i wr => ∃ q : Nat, q ≤ n ∧ i = .int .i64 q ∧ Below w3.heap.size w3 wr ∧ (∀ j : Nat, j < q → l[j]? ≠ some (0, v, a, b)) ∧ (0 < q → s = true)) (fun i _ => n - (intOf i).toNat)
          case atStart => exact ⟨0, Nat.zero_le _, rfl, Below.refl _ _, fun j hj => absurd hj (Nat.not_lt_zero _), fun h => absurd h (Nat.lt_irrefl _)⟩
          case round =>
            obtain ⟨q, hq, rfl, hbr, hno, hs0⟩ := hrel
            have hd1 := slot_kept hc1' hbr
            have hd2 := slot_kept hc2' hbr
            have hb0r := hb1.trans ((hb3.trans (hbr.mono hb3.size)).mono hb1.size)
            obtain ⟨m0, m1, m2, m3⟩ := slot4 hd1
            obtain ⟨p0, p1, p2, p3⟩ := slot2 hd2
            by_cases hlt : q < n
            · by_cases hss : s = true
              · subst hss
                have hl0 : l ≠ [] := by intro e; have := HN.out; subst e; simp at this; omega
                obtain ⟨b0, o0, rfl, -⟩ := HRD.out.some hl0
                have hrr := HRD.out.below hb0r
                obtain ⟨x, hx⟩ : ∃ x, l[q]? = some x := ⟨l[q]'(by have := HN.out; omega), by rw [List.getElem?_eq_getElem]⟩
                clear hl0 hs0
                go_upto_region 6 with fail
                clear m0 m1 m2 m3 p0 p1 p2 p3
                by_cases hxe : x = (0, v, a, b)
                · have hx' : l[q]? = some (0, v, a, b) := hxe ▸ hx
                  have HSE := Lib.hid (HSM.out x)
                  rw [decide_eq_true hxe] at HSE
                  clear hxe
                  refine wp_region_slots (by kernel_rfl) [65, 66, 67, 68, 69, 70, 71, 72, 73] (fun w' => (w'.heap[w.heap.size]? = some (.cells #[.int .i64 0, .float .f64 v, .int .i64 a, .int .i64 b] 43 (0, 0))) ∧ (w'.heap[g]? = some (.cells #[.slice (some ⟨b0, o0, none⟩) n vc, .bool true] 28 (0, 0))) ∧ (RdN w' (some ⟨b0, o0, none⟩) l) ∧ (Below wr.heap.size wr w')) (Said [Is (.pointer (some ⟨g, 0, none⟩)), Is (.pointer (some ⟨g, 0, none⟩)), Is (.pointer (some ⟨g, 0, none⟩)), Is (.slice (some ⟨b0, o0, none⟩) n vc), Is (.int .i64 (q : Int)), Is (.pointer (some ⟨b0, o0 + q * 4, none⟩)), Is (.agg #[.int .i64 x.1, .float .f64 x.2.1, .int .i64 x.2.2.1, .int .i64 x.2.2.2]), Is (.agg #[.int .i64 0, .float .f64 v, .int .i64 a, .int .i64 b]), Is (.bool true)]) (by kernel_rfl) (by kernel_rfl) (by kernel_rfl) (by kernel_rfl) (Said.keep ?keep2) ⟨slot_kept hd1 (bdn (Below.refl _ _) 1), slot_kept hd2 (bdn (Below.refl _ _) 1), hrr.below (bdn (Below.refl _ _) 1), bdn (Below.refl _ _) 1⟩ (l := [0, 1, 2, 3, 4, 5, 6, 7, 8]) (by kernel_rfl) ?step2 ?fin2
                  case keep2 =>
                    refine List.forall_mem_cons.2 ⟨Is.keeps _, ?_⟩
                    refine List.forall_mem_cons.2 ⟨Is.keeps _, ?_⟩
                    refine List.forall_mem_cons.2 ⟨Is.keeps _, ?_⟩
                    refine List.forall_mem_cons.2 ⟨Is.keeps _, ?_⟩
                    refine List.forall_mem_cons.2 ⟨Is.keeps _, ?_⟩
                    refine List.forall_mem_cons.2 ⟨Is.keeps _, ?_⟩
                    refine List.forall_mem_cons.2 ⟨Is.keeps _, ?_⟩
                    refine List.forall_mem_cons.2 ⟨Is.keeps _, ?_⟩
                    refine List.forall_mem_cons.2 ⟨Is.keeps _, ?_⟩
                    exact fun _ h => nomatch h
                  case step2 =>
                    refine List.forall_mem_cons.2 ⟨?_, ?_⟩
                    · refine SlotStep.plain rfl rfl rfl ?_
                      intro tm ws hsame hS hg K hK
                      have e0 : tm[0]? = some (.pointer (some ⟨g, 0, none⟩)) := hsame.2 0 rfl
                      go_simp
                      exact hK _ _ (Below.refl _ _) hS rfl
                    refine List.forall_mem_cons.2 ⟨?_, ?_⟩
                    · refine SlotStep.plain rfl rfl rfl ?_
                      intro tm ws hsame hS hg K hK
                      obtain ⟨v65, e65, rfl⟩ := hg 0 (by kernel_rfl) _ 65 rfl rfl
                      go_simp
                      exact hK _ _ (Below.refl _ _) hS rfl
                    refine List.forall_mem_cons.2 ⟨?_, ?_⟩
                    · refine SlotStep.plain rfl rfl rfl ?_
                      intro tm ws hsame hS hg K hK
                      obtain ⟨v66, e66, rfl⟩ := hg 1 (by kernel_rfl) _ 66 rfl rfl
                      go_simp
                      exact hK _ _ (Below.refl _ _) hS rfl
                    refine List.forall_mem_cons.2 ⟨?_, ?_⟩
                    · refine SlotStep.plain rfl rfl rfl ?_
                      intro tm ws hsame hS hg K hK
                      obtain ⟨v67, e67, rfl⟩ := hg 2 (by kernel_rfl) _ 67 rfl rfl
                      obtain ⟨k0, k1, -, -⟩ := slot2 (hS.2.1)
                      go_simp
                      exact hK _ _ (Below.refl _ _) hS rfl
                    refine List.forall_mem_cons.2 ⟨?_, ?_⟩
                    · refine SlotStep.plain rfl rfl rfl ?_
                      intro tm ws hsame hS hg K hK
                      have e5 : tm[5]? = some (.int .i64 (q : Int)) := hsame.2 5 rfl
                      go_simp
                      exact hK _ _ (Below.refl _ _) hS rfl
                    refine List.forall_mem_cons.2 ⟨?_, ?_⟩
                    · refine SlotStep.plain rfl rfl rfl ?_
                      intro tm ws hsame hS hg K hK
                      obtain ⟨v68, e68, rfl⟩ := hg 3 (by kernel_rfl) _ 68 rfl rfl
                      obtain ⟨v69, e69, rfl⟩ := hg 4 (by kernel_rfl) _ 69 rfl rfl
                      go_simp
                      exact hK _ _ (Below.refl _ _) hS rfl
                    refine List.forall_mem_cons.2 ⟨?_, ?_⟩
                    · refine SlotStep.plain rfl rfl rfl ?_
                      intro tm ws hsame hS hg K hK
                      obtain ⟨v70, e70, rfl⟩ := hg 5 (by kernel_rfl) _ 70 rfl rfl
                      obtain ⟨k0, k1, k2, k3⟩ := (hS.2.2.1).at hx
                      go_simp
                      exact hK _ _ (Below.refl _ _) hS rfl
                    refine List.forall_mem_cons.2 ⟨?_, ?_⟩
                    · refine SlotStep.plain rfl rfl rfl ?_
                      intro tm ws hsame hS hg K hK
                      have e3 : tm[3]? = some (.pointer (some ⟨w.heap.size, 0, none⟩)) := hsame.2 3 rfl
                      obtain ⟨k0, k1, k2, k3⟩ := slot4 (hS.1)
                      go_simp
                      exact hK _ _ (Below.refl _ _) hS rfl
                    refine List.forall_mem_cons.2 ⟨?_, ?_⟩
                    · refine SlotStep.plain rfl rfl rfl ?_
                      intro tm ws hsame hS hg K hK
                      obtain ⟨v71, e71, rfl⟩ := hg 6 (by kernel_rfl) _ 71 rfl rfl
                      obtain ⟨v72, e72, rfl⟩ := hg 7 (by kernel_rfl) _ 72 rfl rfl
                      go_simp
                      refine (HSE.out ws).mono ?_
                      rintro e wm ⟨rfl, hb⟩
                      exact hK _ _ hb (⟨slot_kept (hS.1) (hb), slot_kept (hS.2.1) (hb), (hS.2.2.1).below (hb), (hS.2.2.2).trans (Below.mono (hb) (hS.2.2.2).size)⟩) rfl
                    exact fun _ h => nomatch h
                  case fin2 =>
                    intro tm w4 hsame hS hgot
                    obtain ⟨u', hu, htm⟩ := hsame.form (by kernel_rfl)
                    obtain ⟨v73, e73, rfl⟩ := hgot 8 _ 73 rfl rfl
                    have h73 := hu _ _ e73
                    have hb4 := hS.2.2.2
                    clear hgot hu hsame e73 hS hd1 hd2 hrr
                    rw [htm]
                    clear htm tm
                    simp only [List.foldl_cons, List.foldl_nil, List.setIfInBounds_toArray, List.set_cons_zero, List.set_cons_succ, h73]
                    clear h73
                    go_wp2_with fail
                    go_ret
                    refine put_old HP.out (by rw [HN.out]; exact HG.out) hx' hno ?_
                    exact hb1.trans ((hb3.trans ((hbr.trans (hb4.mono hbr.size)).mono hb3.size)).mono hb1.size)
                · have HSE := Lib.hid (HSM.out x)
                  rw [decide_eq_false hxe] at HSE
                  refine wp_region_slots (by kernel_rfl) [65, 66, 67, 68, 69, 70, 71, 72, 73] (fun w' => (w'.heap[w.heap.size]? = some (.cells #[.int .i64 0, .float .f64 v, .int .i64 a, .int .i64 b] 43 (0, 0))) ∧ (w'.heap[g]? = some (.cells #[.slice (some ⟨b0, o0, none⟩) n vc, .bool true] 28 (0, 0))) ∧ (RdN w' (some ⟨b0, o0, none⟩) l) ∧ (Below wr.heap.size wr w')) (Said [Is (.pointer (some ⟨g, 0, none⟩)), Is (.pointer (some ⟨g, 0, none⟩)), Is (.pointer (some ⟨g, 0, none⟩)), Is (.slice (some ⟨b0, o0, none⟩) n vc), Is (.int .i64 (q : Int)), Is (.pointer (some ⟨b0, o0 + q * 4, none⟩)), Is (.agg #[.int .i64 x.1, .float .f64 x.2.1, .int .i64 x.2.2.1, .int .i64 x.2.2.2]), Is (.agg #[.int .i64 0, .float .f64 v, .int .i64 a, .int .i64 b]), Is (.bool false)]) (by kernel_rfl) (by kernel_rfl) (by kernel_rfl) (by kernel_rfl) (Said.keep ?keep3) ⟨slot_kept hd1 (bdn (Below.refl _ _) 1), slot_kept hd2 (bdn (Below.refl _ _) 1), hrr.below (bdn (Below.refl _ _) 1), bdn (Below.refl _ _) 1⟩ (l := [0, 1, 2, 3, 4, 5, 6, 7, 8]) (by kernel_rfl) ?step3 ?fin3
                  case keep3 =>
                    refine List.forall_mem_cons.2 ⟨Is.keeps _, ?_⟩
                    refine List.forall_mem_cons.2 ⟨Is.keeps _, ?_⟩
                    refine List.forall_mem_cons.2 ⟨Is.keeps _, ?_⟩
                    refine List.forall_mem_cons.2 ⟨Is.keeps _, ?_⟩
                    refine List.forall_mem_cons.2 ⟨Is.keeps _, ?_⟩
                    refine List.forall_mem_cons.2 ⟨Is.keeps _, ?_⟩
                    refine List.forall_mem_cons.2 ⟨Is.keeps _, ?_⟩
                    refine List.forall_mem_cons.2 ⟨Is.keeps _, ?_⟩
                    refine List.forall_mem_cons.2 ⟨Is.keeps _, ?_⟩
                    exact fun _ h => nomatch h
                  case step3 =>
                    refine List.forall_mem_cons.2 ⟨?_, ?_⟩
                    · refine SlotStep.plain rfl rfl rfl ?_
                      intro tm ws hsame hS hg K hK
                      have e0 : tm[0]? = some (.pointer (some ⟨g, 0, none⟩)) := hsame.2 0 rfl
                      go_simp
                      exact hK _ _ (Below.refl _ _) hS rfl
                    refine List.forall_mem_cons.2 ⟨?_, ?_⟩
                    · refine SlotStep.plain rfl rfl rfl ?_
                      intro tm ws hsame hS hg K hK
                      obtain ⟨v65, e65, rfl⟩ := hg 0 (by kernel_rfl) _ 65 rfl rfl
                      go_simp
                      exact hK _ _ (Below.refl _ _) hS rfl
                    refine List.forall_mem_cons.2 ⟨?_, ?_⟩
                    · refine SlotStep.plain rfl rfl rfl ?_
                      intro tm ws hsame hS hg K hK
                      obtain ⟨v66, e66, rfl⟩ := hg 1 (by kernel_rfl) _ 66 rfl rfl
                      go_simp
                      exact hK _ _ (Below.refl _ _) hS rfl
                    refine List.forall_mem_cons.2 ⟨?_, ?_⟩
                    · refine SlotStep.plain rfl rfl rfl ?_
                      intro tm ws hsame hS hg K hK
                      obtain ⟨v67, e67, rfl⟩ := hg 2 (by kernel_rfl) _ 67 rfl rfl
                      obtain ⟨k0, k1, -, -⟩ := slot2 (hS.2.1)
                      go_simp
                      exact hK _ _ (Below.refl _ _) hS rfl
                    refine List.forall_mem_cons.2 ⟨?_, ?_⟩
                    · refine SlotStep.plain rfl rfl rfl ?_
                      intro tm ws hsame hS hg K hK
                      have e5 : tm[5]? = some (.int .i64 (q : Int)) := hsame.2 5 rfl
                      go_simp
                      exact hK _ _ (Below.refl _ _) hS rfl
                    refine List.forall_mem_cons.2 ⟨?_, ?_⟩
                    · refine SlotStep.plain rfl rfl rfl ?_
                      intro tm ws hsame hS hg K hK
                      obtain ⟨v68, e68, rfl⟩ := hg 3 (by kernel_rfl) _ 68 rfl rfl
                      obtain ⟨v69, e69, rfl⟩ := hg 4 (by kernel_rfl) _ 69 rfl rfl
                      go_simp
                      exact hK _ _ (Below.refl _ _) hS rfl
                    refine List.forall_mem_cons.2 ⟨?_, ?_⟩
                    · refine SlotStep.plain rfl rfl rfl ?_
                      intro tm ws hsame hS hg K hK
                      obtain ⟨v70, e70, rfl⟩ := hg 5 (by kernel_rfl) _ 70 rfl rfl
                      obtain ⟨k0, k1, k2, k3⟩ := (hS.2.2.1).at hx
                      go_simp
                      exact hK _ _ (Below.refl _ _) hS rfl
                    refine List.forall_mem_cons.2 ⟨?_, ?_⟩
                    · refine SlotStep.plain rfl rfl rfl ?_
                      intro tm ws hsame hS hg K hK
                      have e3 : tm[3]? = some (.pointer (some ⟨w.heap.size, 0, none⟩)) := hsame.2 3 rfl
                      obtain ⟨k0, k1, k2, k3⟩ := slot4 (hS.1)
                      go_simp
                      exact hK _ _ (Below.refl _ _) hS rfl
                    refine List.forall_mem_cons.2 ⟨?_, ?_⟩
                    · refine SlotStep.plain rfl rfl rfl ?_
                      intro tm ws hsame hS hg K hK
                      obtain ⟨v71, e71, rfl⟩ := hg 6 (by kernel_rfl) _ 71 rfl rfl
                      obtain ⟨v72, e72, rfl⟩ := hg 7 (by kernel_rfl) _ 72 rfl rfl
                      go_simp
                      refine (HSE.out ws).mono ?_
                      rintro e wm ⟨rfl, hb⟩
                      exact hK _ _ hb (⟨slot_kept (hS.1) (hb), slot_kept (hS.2.1) (hb), (hS.2.2.1).below (hb), (hS.2.2.2).trans (Below.mono (hb) (hS.2.2.2).size)⟩) rfl
                    exact fun _ h => nomatch h
                  case fin3 =>
                    intro tm w4 hsame hS hgot
                    obtain ⟨u', hu, htm⟩ := hsame.form (by kernel_rfl)
                    obtain ⟨v73, e73, rfl⟩ := hgot 8 _ 73 rfl rfl
                    have h73 := hu _ _ e73
                    have hb4 := hS.2.2.2
                    clear hgot hu hsame e73 hS hd1 hd2 hrr
                    rw [htm]
                    clear htm tm
                    simp only [List.foldl_cons, List.foldl_nil, List.setIfInBounds_toArray, List.set_cons_zero, List.set_cons_succ, h73]
                    clear h73
                    go_wp2_with fail
                    go_roundw
                    case rel =>
                      refine ⟨q + 1, by omega, by go_num, hbr.trans (hb4.mono hbr.size), fun j hj => ?_, fun _ => by trivial⟩
                      rcases Nat.lt_or_ge j q with h | h
                      · exact hno j h
                      · obtain rfl : j = q := by omega
                        rw [hx]
                        exact fun e => hxe (Option.some.inj e)
                    case measure => simp [intOf]; omega
              · have hnn : Hid (s = true → nfind l (0, v, a, b) = none) := Lib.hid fun h => absurd h hss
                have hsf : s = false := by cases s; rfl; exact absurd rfl hss
                clear hss hno hs0
                have hOr : OwN base wr (.slice va n vc) l := HP.out.2.1.below hb0r
                have hszr := hb0r.size
                have hww : w1.heap.size ≤ wr.heap.size := by have := hb3.size; have := hbr.size; omega
                have hgr : g < wr.heap.size := (Array.getElem?_eq_some_iff.1 hd2).1
                have pA := (slot2 (slot_kept hd2 (below_alloc wr (.cells #[.int .i64 0, .float .f64 v, .int .i64 a, .int .i64 b] 43)))).1
                go_wp2_with fail
                go_region_law (refine step_append_node _ rfl (.tmp 79) (.tmp 81) 22 rfl Tryd.underlying22 info_node base (.slice va n vc) l (by simp [Act.eval]) (OwN.alloc (w := wr.drew) hOr _) ⟨wr.heap.size, 0, none⟩ 1 1 [(0, v, a, b)] (by simp [Act.eval]) rfl (node_new1 wr.drew (0, v, a, b) _) (by rw [HN.out]; omega) (by simp; omega) ?_; intro v' w5 hO5 hg5 hat5; obtain ⟨m5, hm5⟩ : ∃ m5, (l ++ [(0, v, a, b)]).length = m5 := ⟨_, rfl⟩; obtain ⟨qa, qc, hqv, -, -, -, -⟩ := hO5.form; rw [hm5] at hqv; subst hqv; have he5 : w5.heap[g]? = some (.cells #[.slice va n vc, .bool s] 28 (0, 0)) := put_kept (w := wr.drew) hd2 hOr hg5; obtain ⟨p0', p1', p2', p3'⟩ := slot2 he5; have hsub : (m5 : Int) - 1 = (n : Int) := (by have h9 := HN.out; have h8 : (l ++ [(0, v, a, b)]).length = l.length + 1 := List.length_append; omega); have HA := Lib.hid (put_new (wr := wr.drew) (o := .cells #[.int .i64 0, .float .f64 v, .int .i64 a, .int .i64 b] 43) HP.out (by rw [HN.out]; exact HG.out) hnn.out hb0r.drew hO5 hg5 hat5 he5); rw [HN.out] at HA; clear hO5 hg5 hat5 he5 hm5)
                all_goals
                  obtain ⟨r0, r1⟩ := plain_set p0' p1' (.slice qa m5 qc)
                  clear p0' p1' p2' p3'
                  go_wp2_with fail
                  go_ret
                  exact HA.out
            · have hqn : n = q := by omega
              subst hqn
              have hnn : Hid (s = true → nfind l (0, v, a, b) = none) := Lib.hid fun _ => nfind_none fun j hj => hno j (by rw [← HN.out]; exact hj)
              clear hno hs0
              have hOr : OwN base wr (.slice va n vc) l := HP.out.2.1.below hb0r
              have hszr := hb0r.size
              have hww : w1.heap.size ≤ wr.heap.size := by have := hb3.size; have := hbr.size; omega
              have hgr : g < wr.heap.size := (Array.getElem?_eq_some_iff.1 hd2).1
              have pA := (slot2 (slot_kept hd2 (below_alloc wr (.cells #[.int .i64 0, .float .f64 v, .int .i64 a, .int .i64 b] 43)))).1
              go_wp2_with fail
              go_region_law (refine step_append_node _ rfl (.tmp 79) (.tmp 81) 22 rfl Tryd.underlying22 info_node base (.slice va n vc) l (by simp [Act.eval]) (OwN.alloc (w := wr.drew) hOr _) ⟨wr.heap.size, 0, none⟩ 1 1 [(0, v, a, b)] (by simp [Act.eval]) rfl (node_new1 wr.drew (0, v, a, b) _) (by rw [HN.out]; omega) (by simp; omega) ?_; intro v' w5 hO5 hg5 hat5; obtain ⟨m5, hm5⟩ : ∃ m5, (l ++ [(0, v, a, b)]).length = m5 := ⟨_, rfl⟩; obtain ⟨qa, qc, hqv, -, -, -, -⟩ := hO5.form; rw [hm5] at hqv; subst hqv; have he5 : w5.heap[g]? = some (.cells #[.slice va n vc, .bool s] 28 (0, 0)) := put_kept (w := wr.drew) hd2 hOr hg5; obtain ⟨p0', p1', p2', p3'⟩ := slot2 he5; have hsub : (m5 : Int) - 1 = (n : Int) := (by have h9 := HN.out; have h8 : (l ++ [(0, v, a, b)]).length = l.length + 1 := List.length_append; omega); have HA := Lib.hid (put_new (wr := wr.drew) (o := .cells #[.int .i64 0, .float .f64 v, .int .i64 a, .int .i64 b] 43) HP.out (by rw [HN.out]; exact HG.out) hnn.out hb0r.drew hO5 hg5 hat5 he5); rw [HN.out] at HA; clear hO5 hg5 hat5 he5 hm5)
              all_goals
                obtain ⟨r0, r1⟩ := plain_set p0' p1' (.slice qa m5 qc)
                clear p0' p1' p2' p3'
                go_wp2_with fail
                go_ret
                exact HA.out
      · rw [decide_eq_false hf] at HFI
        have HR := HBAD (by unfold nbad; simp [hf])
        clear hval hf
        clear HBAD
        go_enter Tryd.func7, Tryd.ntmps7
        go_upto_region 1 with fail
        refine wp_region_slots (by kernel_rfl) [6, 7, 8, 9, 10, 11, 12, 13, 14, 15, 16, 17, 18, 19, 20, 21, 22, 23, 24, 25, 26, 27, 28, 29, 30, 31, 32, 33, 34, 35, 36, 37, 38, 39, 40, 41, 42, 43, 44, 45, 46, 47, 48, 49] (fun w' => (w'.heap[w.heap.size]? = some (.cells #[.int .i64 0, .float .f64 v, .int .i64 a, .int .i64 b] 43 (0, 0))) ∧ (w'.heap[g]? = some (.cells #[.slice va n vc, .bool s] 28 (0, 0))) ∧ (Below w1.heap.size w1 w')) (Said [Is (.agg #[.int .i64 0, .float .f64 v, .int .i64 a, .int .i64 b]), Is (.bool true), Is (.bool false), Is (.bool false), Is (.pointer (some ⟨w.heap.size, 0, none⟩)), Is (.int .i64 0), Is (.bool true), Is (.bool true), Is (.pointer (some ⟨w.heap.size, 1, none⟩)), Is (.float .f64 v), Is (.bool false), Is (.bool true), Is (.bool true), Is (.bool true), Is (.bool true), Is undef, Is undef, Is undef, Is undef, Is undef, Is undef, Is undef, Is undef, Is undef, Is undef, Is undef, Is undef, Is undef, Is undef, Is undef, Is undef, Is undef, Is undef, Is undef, Is undef, Is undef, Is undef, Is undef, Is undef, Is undef, Is undef, Is undef, Is undef, Is (.bool true)]) (by kernel_rfl) (by kernel_rfl) (by kernel_rfl) (by kernel_rfl) (Said.keep ?keep4) ⟨slot_kept hc1 (bdn (Below.refl _ _) 1), slot_kept hc2 (bdn (Below.refl _ _) 1), bdn (Below.refl _ _) 1⟩ (l := [0, 1, 2, 3, 4, 5, 6, 7, 8, 9, 10, 11, 12, 13, 14, 15, 16, 17, 18, 19, 20, 21, 22, 23, 24, 25, 26, 27, 28, 29, 30, 31, 32, 33, 34, 35, 36, 37, 38, 39, 40, 41, 42, 43]) (by kernel_rfl) ?step4 ?fin4
        case keep4 =>
          refine List.forall_mem_cons.2 ⟨Is.keeps _, ?_⟩
          refine List.forall_mem_cons.2 ⟨Is.keeps _, ?_⟩
          refine List.forall_mem_cons.2 ⟨Is.keeps _, ?_⟩
          refine List.forall_mem_cons.2 ⟨Is.keeps _, ?_⟩
          refine List.forall_mem_cons.2 ⟨Is.keeps _, ?_⟩
          refine List.forall_mem_cons.2 ⟨Is.keeps _, ?_⟩
          refine List.forall_mem_cons.2 ⟨Is.keeps _, ?_⟩
          refine List.forall_mem_cons.2 ⟨Is.keeps _, ?_⟩
          refine List.forall_mem_cons.2 ⟨Is.keeps _, ?_⟩
          refine List.forall_mem_cons.2 ⟨Is.keeps _, ?_⟩
          refine List.forall_mem_cons.2 ⟨Is.keeps _, ?_⟩
          refine List.forall_mem_cons.2 ⟨Is.keeps _, ?_⟩
          refine List.forall_mem_cons.2 ⟨Is.keeps _, ?_⟩
          refine List.forall_mem_cons.2 ⟨Is.keeps _, ?_⟩
          refine List.forall_mem_cons.2 ⟨Is.keeps _, ?_⟩
          refine List.forall_mem_cons.2 ⟨Is.keeps _, ?_⟩
          refine List.forall_mem_cons.2 ⟨Is.keeps _, ?_⟩
          refine List.forall_mem_cons.2 ⟨Is.keeps _, ?_⟩
          refine List.forall_mem_cons.2 ⟨Is.keeps _, ?_⟩
          refine List.forall_mem_cons.2 ⟨Is.keeps _, ?_⟩
          refine List.forall_mem_cons.2 ⟨Is.keeps _, ?_⟩
          refine List.forall_mem_cons.2 ⟨Is.keeps _, ?_⟩
          refine List.forall_mem_cons.2 ⟨Is.keeps _, ?_⟩
          refine List.forall_mem_cons.2 ⟨Is.keeps _, ?_⟩
          refine List.forall_mem_cons.2 ⟨Is.keeps _, ?_⟩
          refine List.forall_mem_cons.2 ⟨Is.keeps _, ?_⟩
          refine List.forall_mem_cons.2 ⟨Is.keeps _, ?_⟩
          refine List.forall_mem_cons.2 ⟨Is.keeps _, ?_⟩
          refine List.forall_mem_cons.2 ⟨Is.keeps _, ?_⟩
          refine List.forall_mem_cons.2 ⟨Is.keeps _, ?_⟩
          refine List.forall_mem_cons.2 ⟨Is.keeps _, ?_⟩
          refine List.forall_mem_cons.2 ⟨Is.keeps _, ?_⟩
          refine List.forall_mem_cons.2 ⟨Is.keeps _, ?_⟩
          refine List.forall_mem_cons.2 ⟨Is.keeps _, ?_⟩
          refine List.forall_mem_cons.2 ⟨Is.keeps _, ?_⟩
          refine List.forall_mem_cons.2 ⟨Is.keeps _, ?_⟩
          refine List.forall_mem_cons.2 ⟨Is.keeps _, ?_⟩
          refine List.forall_mem_cons.2 ⟨Is.keeps _, ?_⟩
          refine List.forall_mem_cons.2 ⟨Is.keeps _, ?_⟩
          refine List.forall_mem_cons.2 ⟨Is.keeps _, ?_⟩
          refine List.forall_mem_cons.2 ⟨Is.keeps _, ?_⟩
          refine List.forall_mem_cons.2 ⟨Is.keeps _, ?_⟩
          refine List.forall_mem_cons.2 ⟨Is.keeps _, ?_⟩
          refine List.forall_mem_cons.2 ⟨Is.keeps _, ?_⟩
          exact fun _ h => nomatch h
        case step4 =>
          refine List.forall_mem_cons.2 ⟨?_, ?_⟩
          · refine SlotStep.plain rfl rfl rfl ?_
            intro tm ws hsame hS hg K hK
            have e3 : tm[3]? = some (.pointer (some ⟨w.heap.size, 0, none⟩)) := hsame.2 3 rfl
            obtain ⟨k0, k1, k2, k3⟩ := slot4 (hS.1)
            go_simp
            exact hK _ _ (Below.refl _ _) hS rfl
          refine List.forall_mem_cons.2 ⟨?_, ?_⟩
          · refine SlotStep.plain rfl rfl rfl ?_
            intro tm ws hsame hS hg K hK
            obtain ⟨v6, e6, rfl⟩ := hg 0 (by kernel_rfl) _ 6 rfl rfl
            go_simp
            refine (HVD.out ws).mono ?_
            rintro e wm ⟨rfl, hb⟩
            exact hK _ _ hb (⟨slot_kept (hS.1) (hb), slot_kept (hS.2.1) (hb), (hS.2.2).trans (Below.mono (hb) (hS.2.2).size)⟩) rfl
          refine List.forall_mem_cons.2 ⟨?_, ?_⟩
          · refine SlotStep.plain rfl rfl rfl ?_
            intro tm ws hsame hS hg K hK
            obtain ⟨v7, e7, rfl⟩ := hg 1 (by kernel_rfl) _ 7 rfl rfl
            go_simp
            exact hK _ _ (Below.refl _ _) hS rfl
          refine List.forall_mem_cons.2 ⟨?_, ?_⟩
          · refine SlotStep.plain rfl rfl rfl ?_
            intro tm ws hsame hS hg K hK
            obtain ⟨v8, e8, rfl⟩ := hg 2 (by kernel_rfl) _ 8 rfl rfl
            go_simp
            exact hK _ _ (Below.refl _ _) hS rfl
          refine List.forall_mem_cons.2 ⟨?_, ?_⟩
          · refine SlotStep.guardedNot rfl rfl 3 rfl rfl (by kernel_rfl) (fun _ _ h => h) ?_
            intro tm ws hsame hS hg K hK
            have e3 : tm[3]? = some (.pointer (some ⟨w.heap.size, 0, none⟩)) := hsame.2 3 rfl
            go_simp
            exact hK _ _ (Below.refl _ _) hS rfl
          refine List.forall_mem_cons.2 ⟨?_, ?_⟩
          · refine SlotStep.guardedNot rfl rfl 3 rfl rfl (by kernel_rfl) (fun _ _ h => h) ?_
            intro tm ws hsame hS hg K hK
            obtain ⟨v10, e10, rfl⟩ := hg 4 (by kernel_rfl) _ 10 rfl rfl
            obtain ⟨k0, k1, k2, k3⟩ := slot4 (hS.1)
            go_simp
            exact hK _ _ (Below.refl _ _) hS rfl
          refine List.forall_mem_cons.2 ⟨?_, ?_⟩
          · refine SlotStep.guardedNot rfl rfl 3 rfl rfl (by kernel_rfl) (fun _ _ h => h) ?_
            intro tm ws hsame hS hg K hK
            obtain ⟨v11, e11, rfl⟩ := hg 5 (by kernel_rfl) _ 11 rfl rfl
            go_simp
            exact hK _ _ (Below.refl _ _) hS rfl
          refine List.forall_mem_cons.2 ⟨?_, ?_⟩
          · refine SlotStep.guardedNot rfl rfl 3 rfl rfl (by kernel_rfl) (fun _ _ h => h) ?_
            intro tm ws hsame hS hg K hK
            obtain ⟨v12, e12, rfl⟩ := hg 6 (by kernel_rfl) _ 12 rfl rfl
            go_simp
            exact hK _ _ (Below.refl _ _) hS rfl
          refine List.forall_mem_cons.2 ⟨?_, ?_⟩
          · refine SlotStep.guarded rfl rfl 7 rfl rfl (by kernel_rfl) (fun _ _ h => h) ?_
            intro tm ws hsame hS hg K hK
            have e3 : tm[3]? = some (.pointer (some ⟨w.heap.size, 0, none⟩)) := hsame.2 3 rfl
            go_simp
            exact hK _ _ (Below.refl _ _) hS rfl
          refine List.forall_mem_cons.2 ⟨?_, ?_⟩
          · refine SlotStep.guarded rfl rfl 7 rfl rfl (by kernel_rfl) (fun _ _ h => h) ?_
            intro tm ws hsame hS hg K hK
            obtain ⟨v14, e14, rfl⟩ := hg 8 (by kernel_rfl) _ 14 rfl rfl
            obtain ⟨k0, k1, k2, k3⟩ := slot4 (hS.1)
            go_simp
            exact hK _ _ (Below.refl _ _) hS rfl
          refine List.forall_mem_cons.2 ⟨?_, ?_⟩
          · refine SlotStep.guarded rfl rfl 7 rfl rfl (by kernel_rfl) (fun _ _ h => h) ?_
            intro tm ws hsame hS hg K hK
            obtain ⟨v15, e15, rfl⟩ := hg 9 (by kernel_rfl) _ 15 rfl rfl
            go_simp
            refine (HFI.out ws).mono ?_
            rintro e wm ⟨rfl, rfl⟩
            exact hK _ _ (Below.refl _ _) hS rfl
          refine List.forall_mem_cons.2 ⟨?_, ?_⟩
          · refine SlotStep.guarded rfl rfl 7 rfl rfl (by kernel_rfl) (fun _ _ h => h) ?_
            intro tm ws hsame hS hg K hK
            obtain ⟨v16, e16, rfl⟩ := hg 10 (by kernel_rfl) _ 16 rfl rfl
            go_simp
            exact hK _ _ (Below.refl _ _) hS rfl
          refine List.forall_mem_cons.2 ⟨?_, ?_⟩
          · refine SlotStep.guardedNot rfl rfl 3 rfl rfl (by kernel_rfl) (fun _ _ h => h) ?_
            intro tm ws hsame hS hg K hK
            obtain ⟨v13, e13, rfl⟩ := hg 7 (by kernel_rfl) _ 13 rfl rfl
            obtain ⟨v17, e17, rfl⟩ := hg 11 (by kernel_rfl) _ 17 rfl rfl
            go_simp
            exact hK _ _ (Below.refl _ _) hS rfl
          refine List.forall_mem_cons.2 ⟨?_, ?_⟩
          · refine SlotStep.plain rfl rfl rfl ?_
            intro tm ws hsame hS hg K hK
            obtain ⟨v9, e9, rfl⟩ := hg 3 (by kernel_rfl) _ 9 rfl rfl
            obtain ⟨v18, e18, rfl⟩ := hg 12 (by kernel_rfl) _ 18 rfl rfl
            go_simp
            exact hK _ _ (Below.refl _ _) hS rfl
          refine List.forall_mem_cons.2 ⟨?_, ?_⟩
          · refine SlotStep.plain rfl rfl rfl ?_
            intro tm ws hsame hS hg K hK
            obtain ⟨v19, e19, rfl⟩ := hg 13 (by kernel_rfl) _ 19 rfl rfl
            go_simp
            exact hK _ _ (Below.refl _ _) hS rfl
          refine List.forall_mem_cons.2 ⟨?_, ?_⟩
          · exact SlotStep.skip rfl rfl 14 false rfl rfl (by kernel_rfl) (fun _ _ h => h) (fun _ => rfl)
          refine List.forall_mem_cons.2 ⟨?_, ?_⟩
          · exact SlotStep.skip rfl rfl 14 false rfl rfl (by kernel_rfl) (fun _ _ h => h) (fun _ => rfl)
          refine List.forall_mem_cons.2 ⟨?_, ?_⟩
          · exact SlotStep.skip rfl rfl 14 false rfl rfl (by kernel_rfl) (fun _ _ h => h) (fun _ => rfl)
          refine List.forall_mem_cons.2 ⟨?_, ?_⟩
          · exact SlotStep.skip rfl rfl 14 false rfl rfl (by kernel_rfl) (fun _ _ h => h) (fun _ => rfl)
          refine List.forall_mem_cons.2 ⟨?_, ?_⟩
          · exact SlotStep.skipU rfl rfl 18 true rfl rfl (by kernel_rfl) (fun _ _ h => h) (fun _ => rfl)
          refine List.forall_mem_cons.2 ⟨?_, ?_⟩
          · exact SlotStep.skipU rfl rfl 18 true rfl rfl (by kernel_rfl) (fun _ _ h => h) (fun _ => rfl)
          refine List.forall_mem_cons.2 ⟨?_, ?_⟩
          · exact SlotStep.skipU rfl rfl 18 true rfl rfl (by kernel_rfl) (fun _ _ h => h) (fun _ => rfl)
          refine List.forall_mem_cons.2 ⟨?_, ?_⟩
          · exact SlotStep.skipU rfl rfl 18 true rfl rfl (by kernel_rfl) (fun _ _ h => h) (fun _ => rfl)
          refine List.forall_mem_cons.2 ⟨?_, ?_⟩
          · exact SlotStep.skipU rfl rfl 18 true rfl rfl (by kernel_rfl) (fun _ _ h => h) (fun _ => rfl)
          refine List.forall_mem_cons.2 ⟨?_, ?_⟩
          · exact SlotStep.skipU rfl rfl 18 true rfl rfl (by kernel_rfl) (fun _ _ h => h) (fun _ => rfl)
          refine List.forall_mem_cons.2 ⟨?_, ?_⟩
          · exact SlotStep.skipU rfl rfl 18 true rfl rfl (by kernel_rfl) (fun _ _ h => h) (fun _ => rfl)
          refine List.forall_mem_cons.2 ⟨?_, ?_⟩
          · exact SlotStep.skipU rfl rfl 18 true rfl rfl (by kernel_rfl) (fun _ _ h => h) (fun _ => rfl)
          refine List.forall_mem_cons.2 ⟨?_, ?_⟩
          · exact SlotStep.skipU rfl rfl 18 true rfl rfl (by kernel_rfl) (fun _ _ h => h) (fun _ => rfl)
          refine List.forall_mem_cons.2 ⟨?_, ?_⟩
          · exact SlotStep.skipU rfl rfl 27 false rfl rfl (by kernel_rfl) (fun _ _ h => h) (fun _ => rfl)
          refine List.forall_mem_cons.2 ⟨?_, ?_⟩
          · exact SlotStep.skipU rfl rfl 27 false rfl rfl (by kernel_rfl) (fun _ _ h => h) (fun _ => rfl)
          refine List.forall_mem_cons.2 ⟨?_, ?_⟩
          · exact SlotStep.skipU rfl rfl 27 false rfl rfl (by kernel_rfl) (fun _ _ h => h) (fun _ => rfl)
          refine List.forall_mem_cons.2 ⟨?_, ?_⟩
          · exact SlotStep.skipU rfl rfl 27 false rfl rfl (by kernel_rfl) (fun _ _ h => h) (fun _ => rfl)
          refine List.forall_mem_cons.2 ⟨?_, ?_⟩
          · exact SlotStep.skipU rfl rfl 31 true rfl rfl (by kernel_rfl) (fun _ _ h => h) (fun _ => rfl)
          refine List.forall_mem_cons.2 ⟨?_, ?_⟩
          · exact SlotStep.skipU rfl rfl 31 true rfl rfl (by kernel_rfl) (fun _ _ h => h) (fun _ => rfl)
          refine List.forall_mem_cons.2 ⟨?_, ?_⟩
          · exact SlotStep.skipU rfl rfl 31 true rfl rfl (by kernel_rfl) (fun _ _ h => h) (fun _ => rfl)
          refine List.forall_mem_cons.2 ⟨?_, ?_⟩
          · exact SlotStep.skipU rfl rfl 31 true rfl rfl (by kernel_rfl) (fun _ _ h => h) (fun _ => rfl)
          refine List.forall_mem_cons.2 ⟨?_, ?_⟩
          · exact SlotStep.skipU rfl rfl 31 true rfl rfl (by kernel_rfl) (fun _ _ h => h) (fun _ => rfl)
          refine List.forall_mem_cons.2 ⟨?_, ?_⟩
          · exact SlotStep.skipU rfl rfl 31 true rfl rfl (by kernel_rfl) (fun _ _ h => h) (fun _ => rfl)
          refine List.forall_mem_cons.2 ⟨?_, ?_⟩
          · exact SlotStep.skipU rfl rfl 31 true rfl rfl (by kernel_rfl) (fun _ _ h => h) (fun _ => rfl)
          refine List.forall_mem_cons.2 ⟨?_, ?_⟩
          · exact SlotStep.skipU rfl rfl 31 true rfl rfl (by kernel_rfl) (fun _ _ h => h) (fun _ => rfl)
          refine List.forall_mem_cons.2 ⟨?_, ?_⟩
          · exact SlotStep.skipU rfl rfl 27 false rfl rfl (by kernel_rfl) (fun _ _ h => h) (fun _ => rfl)
          refine List.forall_mem_cons.2 ⟨?_, ?_⟩
          · exact SlotStep.skipU rfl rfl 18 true rfl rfl (by kernel_rfl) (fun _ _ h => h) (fun _ => rfl)
          refine List.forall_mem_cons.2 ⟨?_, ?_⟩
          · exact SlotStep.skip rfl rfl 14 false rfl rfl (by kernel_rfl) (fun _ _ h => h) (fun _ => rfl)
          refine List.forall_mem_cons.2 ⟨?_, ?_⟩
          · refine SlotStep.plain rfl rfl rfl ?_
            intro tm ws hsame hS hg K hK
            obtain ⟨v20, e20, rfl⟩ := hg 14 (by kernel_rfl) _ 20 rfl rfl
            obtain ⟨v48, e48, rfl⟩ := hg 42 (by kernel_rfl) _ 48 rfl rfl
            go_simp
            exact hK _ _ (Below.refl _ _) hS rfl
          exact fun _ h => nomatch h
        case fin4 =>
          intro tm w3 hsame hS hgot
          obtain ⟨u, hu, htm⟩ := hsame.form (by kernel_rfl)
          obtain ⟨v49, e49, rfl⟩ := hgot 43 _ 49 rfl rfl
          have h49 := hu _ _ e49
          have hc1' := hS.1
          have hc2' := hS.2.1
          have hb3 := hS.2.2
          clear hgot hu hsame e49 hS hc1 hc2
          rw [htm]
          clear htm tm
          simp only [List.foldl_cons, List.foldl_nil, List.setIfInBounds_toArray, List.set_cons_zero, List.set_cons_succ, h49]
          clear h49
          go_wp2_with fail
          go_ret
          exact HR.out w3 (hb1.trans (hb3.mono hb1.size))
    · obtain ⟨d0, d1, d2⟩ := bne_of hk
      by_cases ha : (n : Int) ≤ a
      · have ha1 : decide ((n : Int) ≤ a) = true := decide_eq_true ha
        have HR := HBAD (by unfold nbad; simp [hk, ha])
        clear hval ha
        clear HBAD
        go_enter Tryd.func7, Tryd.ntmps7
        go_upto_region 1 with fail
        refine wp_region_slots (by kernel_rfl) [6, 7, 8, 9, 10, 11, 12, 13, 14, 15, 16, 17, 18, 19, 20, 21, 22, 23, 24, 25, 26, 27, 28, 29, 30, 31, 32, 33, 34, 35, 36, 37, 38, 39, 40, 41, 42, 43, 44, 45, 46, 47, 48, 49] (fun w' => (w'.heap[w.heap.size]? = some (.cells #[.int .i64 k, .float .f64 v, .int .i64 a, .int .i64 b] 43 (0, 0))) ∧ (w'.heap[g]? = some (.cells #[.slice va n vc, .bool s] 28 (0, 0))) ∧ (Below w1.heap.size w1 w')) (Said [Is (.agg #[.int .i64 k, .float .f64 v, .int .i64 a, .int .i64 b]), Is (.bool true), Is (.bool false), Is (.bool false), Is (.pointer (some ⟨w.heap.size, 0, none⟩)), Is (.int .i64 k), Is (.bool false), Is (.bool false), Is undef, Is undef, Is undef, Is undef, Is (.bool false), Is (.bool false), Is (.bool false), Is (.pointer (some ⟨w.heap.size, 0, none⟩)), Is (.int .i64 k), Is (.bool true), Is (.bool true), Is (.pointer (some ⟨w.heap.size, 2, none⟩)), Is (.int .i64 a), Is (.pointer (some ⟨g, 0, none⟩)), Is (.pointer (some ⟨g, 0, none⟩)), Is (.pointer (some ⟨g, 0, none⟩)), Is (.slice va n vc), Is (.int .i64 n), Is (.bool true), Is (.bool true), Is undef, Is undef, Is undef, Is undef, Is undef, Is undef, Is undef, Is undef, Is undef, Is undef, Is undef, Is undef, Is undef, Is (.bool true), Is (.bool true), Is (.bool true)]) (by kernel_rfl) (by kernel_rfl) (by kernel_rfl) (by kernel_rfl) (Said.keep ?keep5) ⟨slot_kept hc1 (bdn (Below.refl _ _) 1), slot_kept hc2 (bdn (Below.refl _ _) 1), bdn (Below.refl _ _) 1⟩ (l := [0, 1, 2, 3, 4, 5, 6, 7, 8, 9, 10, 11, 12, 13, 14, 15, 16, 17, 18, 19, 20, 21, 22, 23, 24, 25, 26, 27, 28, 29, 30, 31, 32, 33, 34, 35, 36, 37, 38, 39, 40, 41, 42, 43]) (by kernel_rfl) ?step5 ?fin5
        case keep5 =>
          refine List.forall_mem_cons.2 ⟨Is.keeps _, ?_⟩
          refine List.forall_mem_cons.2 ⟨Is.keeps _, ?_⟩
          refine List.forall_mem_cons.2 ⟨Is.keeps _, ?_⟩
          refine List.forall_mem_cons.2 ⟨Is.keeps _, ?_⟩
          refine List.forall_mem_cons.2 ⟨Is.keeps _, ?_⟩
          refine List.forall_mem_cons.2 ⟨Is.keeps _, ?_⟩
          refine List.forall_mem_cons.2 ⟨Is.keeps _, ?_⟩
          refine List.forall_mem_cons.2 ⟨Is.keeps _, ?_⟩
          refine List.forall_mem_cons.2 ⟨Is.keeps _, ?_⟩
          refine List.forall_mem_cons.2 ⟨Is.keeps _, ?_⟩
          refine List.forall_mem_cons.2 ⟨Is.keeps _, ?_⟩
          refine List.forall_mem_cons.2 ⟨Is.keeps _, ?_⟩
          refine List.forall_mem_cons.2 ⟨Is.keeps _, ?_⟩
          refine List.forall_mem_cons.2 ⟨Is.keeps _, ?_⟩
          refine List.forall_mem_cons.2 ⟨Is.keeps _, ?_⟩
          refine List.forall_mem_cons.2 ⟨Is.keeps _, ?_⟩
          refine List.forall_mem_cons.2 ⟨Is.keeps _, ?_⟩
          refine List.forall_mem_cons.2 ⟨Is.keeps _, ?_⟩
          refine List.forall_mem_cons.2 ⟨Is.keeps _, ?_⟩
          refine List.forall_mem_cons.2 ⟨Is.keeps _, ?_⟩
          refine List.forall_mem_cons.2 ⟨Is.keeps _, ?_⟩
          refine List.forall_mem_cons.2 ⟨Is.keeps _, ?_⟩
          refine List.forall_mem_cons.2 ⟨Is.keeps _, ?_⟩
          refine List.forall_mem_cons.2 ⟨Is.keeps _, ?_⟩
          refine List.forall_mem_cons.2 ⟨Is.keeps _, ?_⟩
          refine List.forall_mem_cons.2 ⟨Is.keeps _, ?_⟩
          refine List.forall_mem_cons.2 ⟨Is.keeps _, ?_⟩
          refine List.forall_mem_cons.2 ⟨Is.keeps _, ?_⟩
          refine List.forall_mem_cons.2 ⟨Is.keeps _, ?_⟩
          refine List.forall_mem_cons.2 ⟨Is.keeps _, ?_⟩
          refine List.forall_mem_cons.2 ⟨Is.keeps _, ?_⟩
          refine List.forall_mem_cons.2 ⟨Is.keeps _, ?_⟩
          refine List.forall_mem_cons.2 ⟨Is.keeps _, ?_⟩
          refine List.forall_mem_cons.2 ⟨Is.keeps _, ?_⟩
          refine List.forall_mem_cons.2 ⟨Is.keeps _, ?_⟩
          refine List.forall_mem_cons.2 ⟨Is.keeps _, ?_⟩
          refine List.forall_mem_cons.2 ⟨Is.keeps _, ?_⟩
          refine List.forall_mem_cons.2 ⟨Is.keeps _, ?_⟩
          refine List.forall_mem_cons.2 ⟨Is.keeps _, ?_⟩
          refine List.forall_mem_cons.2 ⟨Is.keeps _, ?_⟩
          refine List.forall_mem_cons.2 ⟨Is.keeps _, ?_⟩
          refine List.forall_mem_cons.2 ⟨Is.keeps _, ?_⟩
          refine List.forall_mem_cons.2 ⟨Is.keeps _, ?_⟩
          refine List.forall_mem_cons.2 ⟨Is.keeps _, ?_⟩
          exact fun _ h => nomatch h
        case step5 =>
          refine List.forall_mem_cons.2 ⟨?_, ?_⟩
          · refine SlotStep.plain rfl rfl rfl ?_
            intro tm ws hsame hS hg K hK
            have e3 : tm[3]? = some (.pointer (some ⟨w.heap.size, 0, none⟩)) := hsame.2 3 rfl
            obtain ⟨k0, k1, k2, k3⟩ := slot4 (hS.1)
            go_simp
            exact hK _ _ (Below.refl _ _) hS rfl
          refine List.forall_mem_cons.2 ⟨?_, ?_⟩
          · refine SlotStep.plain rfl rfl rfl ?_
            intro tm ws hsame hS hg K hK
            obtain ⟨v6, e6, rfl⟩ := hg 0 (by kernel_rfl) _ 6 rfl rfl
            go_simp
            refine (HVD.out ws).mono ?_
            rintro e wm ⟨rfl, hb⟩
            exact hK _ _ hb (⟨slot_kept (hS.1) (hb), slot_kept (hS.2.1) (hb), (hS.2.2).trans (Below.mono (hb) (hS.2.2).size)⟩) rfl
          refine List.forall_mem_cons.2 ⟨?_, ?_⟩
          · refine SlotStep.plain rfl rfl rfl ?_
            intro tm ws hsame hS hg K hK
            obtain ⟨v7, e7, rfl⟩ := hg 1 (by kernel_rfl) _ 7 rfl rfl
            go_simp
            exact hK _ _ (Below.refl _ _) hS rfl
          refine List.forall_mem_cons.2 ⟨?_, ?_⟩
          · refine SlotStep.plain rfl rfl rfl ?_
            intro tm ws hsame hS hg K hK
            obtain ⟨v8, e8, rfl⟩ := hg 2 (by kernel_rfl) _ 8 rfl rfl
            go_simp
            exact hK _ _ (Below.refl _ _) hS rfl
          refine List.forall_mem_cons.2 ⟨?_, ?_⟩
          · refine SlotStep.guardedNot rfl rfl 3 rfl rfl (by kernel_rfl) (fun _ _ h => h) ?_
            intro tm ws hsame hS hg K hK
            have e3 : tm[3]? = some (.pointer (some ⟨w.heap.size, 0, none⟩)) := hsame.2 3 rfl
            go_simp
            exact hK _ _ (Below.refl _ _) hS rfl
          refine List.forall_mem_cons.2 ⟨?_, ?_⟩
          · refine SlotStep.guardedNot rfl rfl 3 rfl rfl (by kernel_rfl) (fun _ _ h => h) ?_
            intro tm ws hsame hS hg K hK
            obtain ⟨v10, e10, rfl⟩ := hg 4 (by kernel_rfl) _ 10 rfl rfl
            obtain ⟨k0, k1, k2, k3⟩ := slot4 (hS.1)
            go_simp
            exact hK _ _ (Below.refl _ _) hS rfl
          refine List.forall_mem_cons.2 ⟨?_, ?_⟩
          · refine SlotStep.guardedNot rfl rfl 3 rfl rfl (by kernel_rfl) (fun _ _ h => h) ?_
            intro tm ws hsame hS hg K hK
            obtain ⟨v11, e11, rfl⟩ := hg 5 (by kernel_rfl) _ 11 rfl rfl
            go_simp
            exact hK _ _ (Below.refl _ _) hS rfl
          refine List.forall_mem_cons.2 ⟨?_, ?_⟩
          · refine SlotStep.guardedNot rfl rfl 3 rfl rfl (by kernel_rfl) (fun _ _ h => h) ?_
            intro tm ws hsame hS hg K hK
            obtain ⟨v12, e12, rfl⟩ := hg 6 (by kernel_rfl) _ 12 rfl rfl
            go_simp
            exact hK _ _ (Below.refl _ _) hS rfl
          refine List.forall_mem_cons.2 ⟨?_, ?_⟩
          · exact SlotStep.skip rfl rfl 7 true rfl rfl (by kernel_rfl) (fun _ _ h => h) (fun _ => rfl)
          refine List.forall_mem_cons.2 ⟨?_, ?_⟩
          · exact SlotStep.skip rfl rfl 7 true rfl rfl (by kernel_rfl) (fun _ _ h => h) (fun _ => rfl)
          refine List.forall_mem_cons.2 ⟨?_, ?_⟩
          · exact SlotStep.skip rfl rfl 7 true rfl rfl (by kernel_rfl) (fun _ _ h => h) (fun _ => rfl)
          refine List.forall_mem_cons.2 ⟨?_, ?_⟩
          · exact SlotStep.skip rfl rfl 7 true rfl rfl (by kernel_rfl) (fun _ _ h => h) (fun _ => rfl)
          refine List.forall_mem_cons.2 ⟨?_, ?_⟩
          · refine SlotStep.guardedNot rfl rfl 3 rfl rfl (by kernel_rfl) (fun _ _ h => h) ?_
            intro tm ws hsame hS hg K hK
            obtain ⟨v13, e13, rfl⟩ := hg 7 (by kernel_rfl) _ 13 rfl rfl
            obtain ⟨v17, e17, rfl⟩ := hg 11 (by kernel_rfl) _ 17 rfl rfl
            go_simp
            exact hK _ _ (Below.refl _ _) hS rfl
          refine List.forall_mem_cons.2 ⟨?_, ?_⟩
          · refine SlotStep.plain rfl rfl rfl ?_
            intro tm ws hsame hS hg K hK
            obtain ⟨v9, e9, rfl⟩ := hg 3 (by kernel_rfl) _ 9 rfl rfl
            obtain ⟨v18, e18, rfl⟩ := hg 12 (by kernel_rfl) _ 18 rfl rfl
            go_simp
            exact hK _ _ (Below.refl _ _) hS rfl
          refine List.forall_mem_cons.2 ⟨?_, ?_⟩
          · refine SlotStep.plain rfl rfl rfl ?_
            intro tm ws hsame hS hg K hK
            obtain ⟨v19, e19, rfl⟩ := hg 13 (by kernel_rfl) _ 19 rfl rfl
            go_simp
            exact hK _ _ (Below.refl _ _) hS rfl
          refine List.forall_mem_cons.2 ⟨?_, ?_⟩
          · refine SlotStep.guardedNot rfl rfl 14 rfl rfl (by kernel_rfl) (fun _ _ h => h) ?_
            intro tm ws hsame hS hg K hK
            have e3 : tm[3]? = some (.pointer (some ⟨w.heap.size, 0, none⟩)) := hsame.2 3 rfl
            go_simp
            exact hK _ _ (Below.refl _ _) hS rfl
          refine List.forall_mem_cons.2 ⟨?_, ?_⟩
          · refine SlotStep.guardedNot rfl rfl 14 rfl rfl (by kernel_rfl) (fun _ _ h => h) ?_
            intro tm ws hsame hS hg K hK
            obtain ⟨v21, e21, rfl⟩ := hg 15 (by kernel_rfl) _ 21 rfl rfl
            obtain ⟨k0, k1, k2, k3⟩ := slot4 (hS.1)
            go_simp
            exact hK _ _ (Below.refl _ _) hS rfl
          refine List.forall_mem_cons.2 ⟨?_, ?_⟩
          · refine SlotStep.guardedNot rfl rfl 14 rfl rfl (by kernel_rfl) (fun _ _ h => h) ?_
            intro tm ws hsame hS hg K hK
            obtain ⟨v22, e22, rfl⟩ := hg 16 (by kernel_rfl) _ 22 rfl rfl
            go_simp
            exact hK _ _ (Below.refl _ _) hS rfl
          refine List.forall_mem_cons.2 ⟨?_, ?_⟩
          · refine SlotStep.guardedNot rfl rfl 14 rfl rfl (by kernel_rfl) (fun _ _ h => h) ?_
            intro tm ws hsame hS hg K hK
            obtain ⟨v23, e23, rfl⟩ := hg 17 (by kernel_rfl) _ 23 rfl rfl
            go_simp
            exact hK _ _ (Below.refl _ _) hS rfl
          refine List.forall_mem_cons.2 ⟨?_, ?_⟩
          · refine SlotStep.guarded rfl rfl 18 rfl rfl (by kernel_rfl) (fun _ _ h => h) ?_
            intro tm ws hsame hS hg K hK
            have e3 : tm[3]? = some (.pointer (some ⟨w.heap.size, 0, none⟩)) := hsame.2 3 rfl
            go_simp
            exact hK _ _ (Below.refl _ _) hS rfl
          refine List.forall_mem_cons.2 ⟨?_, ?_⟩
          · refine SlotStep.guarded rfl rfl 18 rfl rfl (by kernel_rfl) (fun _ _ h => h) ?_
            intro tm ws hsame hS hg K hK
            obtain ⟨v25, e25, rfl⟩ := hg 19 (by kernel_rfl) _ 25 rfl rfl
            obtain ⟨k0, k1, k2, k3⟩ := slot4 (hS.1)
            go_simp
            exact hK _ _ (Below.refl _ _) hS rfl
          refine List.forall_mem_cons.2 ⟨?_, ?_⟩
          · refine SlotStep.guarded rfl rfl 18 rfl rfl (by kernel_rfl) (fun _ _ h => h) ?_
            intro tm ws hsame hS hg K hK
            have e0 : tm[0]? = some (.pointer (some ⟨g, 0, none⟩)) := hsame.2 0 rfl
            go_simp
            exact hK _ _ (Below.refl _ _) hS rfl
          refine List.forall_mem_cons.2 ⟨?_, ?_⟩
          · refine SlotStep.guarded rfl rfl 18 rfl rfl (by kernel_rfl) (fun _ _ h => h) ?_
            intro tm ws hsame hS hg K hK
            obtain ⟨v27, e27, rfl⟩ := hg 21 (by kernel_rfl) _ 27 rfl rfl
            go_simp
            exact hK _ _ (Below.refl _ _) hS rfl
          refine List.forall_mem_cons.2 ⟨?_, ?_⟩
          · refine SlotStep.guarded rfl rfl 18 rfl rfl (by kernel_rfl) (fun _ _ h => h) ?_
            intro tm ws hsame hS hg K hK
            obtain ⟨v28, e28, rfl⟩ := hg 22 (by kernel_rfl) _ 28 rfl rfl
            go_simp
            exact hK _ _ (Below.refl _ _) hS rfl
          refine List.forall_mem_cons.2 ⟨?_, ?_⟩
          · refine SlotStep.guarded rfl rfl 18 rfl rfl (by kernel_rfl) (fun _ _ h => h) ?_
            intro tm ws hsame hS hg K hK
            obtain ⟨v29, e29, rfl⟩ := hg 23 (by kernel_rfl) _ 29 rfl rfl
            obtain ⟨k0, k1, -, -⟩ := slot2 (hS.2.1)
            go_simp
            exact hK _ _ (Below.refl _ _) hS rfl
          refine List.forall_mem_cons.2 ⟨?_, ?_⟩
          · refine SlotStep.guarded rfl rfl 18 rfl rfl (by kernel_rfl) (fun _ _ h => h) ?_
            intro tm ws hsame hS hg K hK
            obtain ⟨v30, e30, rfl⟩ := hg 24 (by kernel_rfl) _ 30 rfl rfl
            go_simp
            exact hK _ _ (Below.refl _ _) hS rfl
          refine List.forall_mem_cons.2 ⟨?_, ?_⟩
          · refine SlotStep.guarded rfl rfl 18 rfl rfl (by kernel_rfl) (fun _ _ h => h) ?_
            intro tm ws hsame hS hg K hK
            obtain ⟨v26, e26, rfl⟩ := hg 20 (by kernel_rfl) _ 26 rfl rfl
            obtain ⟨v31, e31, rfl⟩ := hg 25 (by kernel_rfl) _ 31 rfl rfl
            go_simp
            exact hK _ _ (Below.refl _ _) hS rfl
          refine List.forall_mem_cons.2 ⟨?_, ?_⟩
          · refine SlotStep.guarded rfl rfl 18 rfl rfl (by kernel_rfl) (fun _ _ h => h) ?_
            intro tm ws hsame hS hg K hK
            obtain ⟨v32, e32, rfl⟩ := hg 26 (by kernel_rfl) _ 32 rfl rfl
            go_simp
            exact hK _ _ (Below.refl _ _) hS rfl
          refine List.forall_mem_cons.2 ⟨?_, ?_⟩
          · exact SlotStep.skip rfl rfl 27 false rfl rfl (by kernel_rfl) (fun _ _ h => h) (fun _ => rfl)
          refine List.forall_mem_cons.2 ⟨?_, ?_⟩
          · exact SlotStep.skip rfl rfl 27 false rfl rfl (by kernel_rfl) (fun _ _ h => h) (fun _ => rfl)
          refine List.forall_mem_cons.2 ⟨?_, ?_⟩
          · exact SlotStep.skip rfl rfl 27 false rfl rfl (by kernel_rfl) (fun _ _ h => h) (fun _ => rfl)
          refine List.forall_mem_cons.2 ⟨?_, ?_⟩
          · exact SlotStep.skip rfl rfl 27 false rfl rfl (by kernel_rfl) (fun _ _ h => h) (fun _ => rfl)
          refine List.forall_mem_cons.2 ⟨?_, ?_⟩
          · exact SlotStep.skipU rfl rfl 31 true rfl rfl (by kernel_rfl) (fun _ _ h => h) (fun _ => rfl)
          refine List.forall_mem_cons.2 ⟨?_, ?_⟩
          · exact SlotStep.skipU rfl rfl 31 true rfl rfl (by kernel_rfl) (fun _ _ h => h) (fun _ => rfl)
          refine List.forall_mem_cons.2 ⟨?_, ?_⟩
          · exact SlotStep.skipU rfl rfl 31 true rfl rfl (by kernel_rfl) (fun _ _ h => h) (fun _ => rfl)
          refine List.forall_mem_cons.2 ⟨?_, ?_⟩
          · exact SlotStep.skipU rfl rfl 31 true rfl rfl (by kernel_rfl) (fun _ _ h => h) (fun _ => rfl)
          refine List.forall_mem_cons.2 ⟨?_, ?_⟩
          · exact SlotStep.skipU rfl rfl 31 true rfl rfl (by kernel_rfl) (fun _ _ h => h) (fun _ => rfl)
          refine List.forall_mem_cons.2 ⟨?_, ?_⟩
          · exact SlotStep.skipU rfl rfl 31 true rfl rfl (by kernel_rfl) (fun _ _ h => h) (fun _ => rfl)
          refine List.forall_mem_cons.2 ⟨?_, ?_⟩
          · exact SlotStep.skipU rfl rfl 31 true rfl rfl (by kernel_rfl) (fun _ _ h => h) (fun _ => rfl)
          refine List.forall_mem_cons.2 ⟨?_, ?_⟩
          · exact SlotStep.skipU rfl rfl 31 true rfl rfl (by kernel_rfl) (fun _ _ h => h) (fun _ => rfl)
          refine List.forall_mem_cons.2 ⟨?_, ?_⟩
          · exact SlotStep.skip rfl rfl 27 false rfl rfl (by kernel_rfl) (fun _ _ h => h) (fun _ => rfl)
          refine List.forall_mem_cons.2 ⟨?_, ?_⟩
          · refine SlotStep.guarded rfl rfl 18 rfl rfl (by kernel_rfl) (fun _ _ h => h) ?_
            intro tm ws hsame hS hg K hK
            obtain ⟨v33, e33, rfl⟩ := hg 27 (by kernel_rfl) _ 33 rfl rfl
            obtain ⟨v46, e46, rfl⟩ := hg 40 (by kernel_rfl) _ 46 rfl rfl
            go_simp
            exact hK _ _ (Below.refl _ _) hS rfl
          refine List.forall_mem_cons.2 ⟨?_, ?_⟩
          · refine SlotStep.guardedNot rfl rfl 14 rfl rfl (by kernel_rfl) (fun _ _ h => h) ?_
            intro tm ws hsame hS hg K hK
            obtain ⟨v24, e24, rfl⟩ := hg 18 (by kernel_rfl) _ 24 rfl rfl
            obtain ⟨v47, e47, rfl⟩ := hg 41 (by kernel_rfl) _ 47 rfl rfl
            go_simp
            exact hK _ _ (Below.refl _ _) hS rfl
          refine List.forall_mem_cons.2 ⟨?_, ?_⟩
          · refine SlotStep.plain rfl rfl rfl ?_
            intro tm ws hsame hS hg K hK
            obtain ⟨v20, e20, rfl⟩ := hg 14 (by kernel_rfl) _ 20 rfl rfl
            obtain ⟨v48, e48, rfl⟩ := hg 42 (by kernel_rfl) _ 48 rfl rfl
            go_simp
            exact hK _ _ (Below.refl _ _) hS rfl
          exact fun _ h => nomatch h
        case fin5 =>
          intro tm w3 hsame hS hgot
          obtain ⟨u, hu, htm⟩ := hsame.form (by kernel_rfl)
          obtain ⟨v49, e49, rfl⟩ := hgot 43 _ 49 rfl rfl
          have h49 := hu _ _ e49
          have hc1' := hS.1
          have hc2' := hS.2.1
          have hb3 := hS.2.2
          clear hgot hu hsame e49 hS hc1 hc2
          rw [htm]
          clear htm tm
          simp only [List.foldl_cons, List.foldl_nil, List.setIfInBounds_toArray, List.set_cons_zero, List.set_cons_succ, h49]
          clear h49
          go_wp2_with fail
          go_ret
          exact HR.out w3 (hb1.trans (hb3.mono hb1.size))
      · have ha1 : decide ((n : Int) ≤ a) = false := decide_eq_false ha
        by_cases h5 : k = 5
        · subst h5
          have HG : Hid (nbad n (5, v, a, b) = false) := Lib.hid (by unfold nbad; rw [hval]; simp; omega)
          clear hval ha
          clear HBAD
          go_enter Tryd.func7, Tryd.ntmps7
          go_upto_region 1 with fail
          refine wp_region_slots (by kernel_rfl) [6, 7, 8, 9, 10, 11, 12, 13, 14, 15, 16, 17, 18, 19, 20, 21, 22, 23, 24, 25, 26, 27, 28, 29, 30, 31, 32, 33, 34, 35, 36, 37, 38, 39, 40, 41, 42, 43, 44, 45, 46, 47, 48, 49] (fun w' => (w'.heap[w.heap.size]? = some (.cells #[.int .i64 5, .float .f64 v, .int .i64 a, .int .i64 b] 43 (0, 0))) ∧ (w'.heap[g]? = some (.cells #[.slice va n vc, .bool s] 28 (0, 0))) ∧ (Below w1.heap.size w1 w')) (Said [Is (.agg #[.int .i64 5, .float .f64 v, .int .i64 a, .int .i64 b]), Is (.bool true), Is (.bool false), Is (.bool false), Is (.pointer (some ⟨w.heap.size, 0, none⟩)), Is (.int .i64 5), Is (.bool false), Is (.bool false), Is undef, Is undef, Is undef, Is undef, Is (.bool false), Is (.bool false), Is (.bool false), Is (.pointer (some ⟨w.heap.size, 0, none⟩)), Is (.int .i64 5), Is (.bool true), Is (.bool true), Is (.pointer (some ⟨w.heap.size, 2, none⟩)), Is (.int .i64 a), Is (.pointer (some ⟨g, 0, none⟩)), Is (.pointer (some ⟨g, 0, none⟩)), Is (.pointer (some ⟨g, 0, none⟩)), Is (.slice va n vc), Is (.int .i64 n), Is (.bool false), Is (.bool false), Is (.pointer (some ⟨w.heap.size, 0, none⟩)), Is (.int .i64 5), Is (.bool false), Is (.bool false), Is undef, Is undef, Is undef, Is undef, Is undef, Is undef, Is undef, Is undef, Is (.bool false), Is (.bool false), Is (.bool false), Is (.bool false)]) (by kernel_rfl) (by kernel_rfl) (by kernel_rfl) (by kernel_rfl) (Said.keep ?keep6) ⟨slot_kept hc1 (bdn (Below.refl _ _) 1), slot_kept hc2 (bdn (Below.refl _ _) 1), bdn (Below.refl _ _) 1⟩ (l := [0, 1, 2, 3, 4, 5, 6, 7, 8, 9, 10, 11, 12, 13, 14, 15, 16, 17, 18, 19, 20, 21, 22, 23, 24, 25, 26, 27, 28, 29, 30, 31, 32, 33, 34, 35, 36, 37, 38, 39, 40, 41, 42, 43]) (by kernel_rfl) ?step6 ?fin6
          case keep6 =>
            refine List.forall_mem_cons.2 ⟨Is.keeps _, ?_⟩
            refine List.forall_mem_cons.2 ⟨Is.keeps _, ?_⟩
            refine List.forall_mem_cons.2 ⟨Is.keeps _, ?_⟩
            refine List.forall_mem_cons.2 ⟨Is.keeps _, ?_⟩
            refine List.forall_mem_cons.2 ⟨Is.keeps _, ?_⟩
            refine List.forall_mem_cons.2 ⟨Is.keeps _, ?_⟩
            refine List.forall_mem_cons.2 ⟨Is.keeps _, ?_⟩
            refine List.forall_mem_cons.2 ⟨Is.keeps _, ?_⟩
            refine List.forall_mem_cons.2 ⟨Is.keeps _, ?_⟩
            refine List.forall_mem_cons.2 ⟨Is.keeps _, ?_⟩
            refine List.forall_mem_cons.2 ⟨Is.keeps _, ?_⟩
            refine List.forall_mem_cons.2 ⟨Is.keeps _, ?_⟩
            refine List.forall_mem_cons.2 ⟨Is.keeps _, ?_⟩
            refine List.forall_mem_cons.2 ⟨Is.keeps _, ?_⟩
            refine List.forall_mem_cons.2 ⟨Is.keeps _, ?_⟩
            refine List.forall_mem_cons.2 ⟨Is.keeps _, ?_⟩
            refine List.forall_mem_cons.2 ⟨Is.keeps _, ?_⟩
            refine List.forall_mem_cons.2 ⟨Is.keeps _, ?_⟩
            refine List.forall_mem_cons.2 ⟨Is.keeps _, ?_⟩
            refine List.forall_mem_cons.2 ⟨Is.keeps _, ?_⟩
            refine List.forall_mem_cons.2 ⟨Is.keeps _, ?_⟩
            refine List.forall_mem_cons.2 ⟨Is.keeps _, ?_⟩
            refine List.forall_mem_cons.2 ⟨Is.keeps _, ?_⟩
            refine List.forall_mem_cons.2 ⟨Is.keeps _, ?_⟩
            refine List.forall_mem_cons.2 ⟨Is.keeps _, ?_⟩
            refine List.forall_mem_cons.2 ⟨Is.keeps _, ?_⟩
            refine List.forall_mem_cons.2 ⟨Is.keeps _, ?_⟩
            refine List.forall_mem_cons.2 ⟨Is.keeps _, ?_⟩
            refine List.forall_mem_cons.2 ⟨Is.keeps _, ?_⟩
            refine List.forall_mem_cons.2 ⟨Is.keeps _, ?_⟩
            refine List.forall_mem_cons.2 ⟨Is.keeps _, ?_⟩
            refine List.forall_mem_cons.2 ⟨Is.keeps _, ?_⟩
            refine List.forall_mem_cons.2 ⟨Is.keeps _, ?_⟩
            refine List.forall_mem_cons.2 ⟨Is.keeps _, ?_⟩
            refine List.forall_mem_cons.2 ⟨Is.keeps _, ?_⟩
            refine List.forall_mem_cons.2 ⟨Is.keeps _, ?_⟩
            refine List.forall_mem_cons.2 ⟨Is.keeps _, ?_⟩
            refine List.forall_mem_cons.2 ⟨Is.keeps _, ?_⟩
            refine List.forall_mem_cons.2 ⟨Is.keeps _, ?_⟩
            refine List.forall_mem_cons.2 ⟨Is.keeps _, ?_⟩
            refine List.forall_mem_cons.2 ⟨Is.keeps _, ?_⟩
            refine List.forall_mem_cons.2 ⟨Is.keeps _, ?_⟩
            refine List.forall_mem_cons.2 ⟨Is.keeps _, ?_⟩
            refine List.forall_mem_cons.2 ⟨Is.keeps _, ?_⟩
            exact fun _ h => nomatch h
          case step6 =>
            refine List.forall_mem_cons.2 ⟨?_, ?_⟩
            · refine SlotStep.plain rfl rfl rfl ?_
              intro tm ws hsame hS hg K hK
              have e3 : tm[3]? = some (.pointer (some ⟨w.heap.size, 0, none⟩)) := hsame.2 3 rfl
              obtain ⟨k0, k1, k2, k3⟩ := slot4 (hS.1)
              go_simp
              exact hK _ _ (Below.refl _ _) hS rfl
            refine List.forall_mem_cons.2 ⟨?_, ?_⟩
            · refine SlotStep.plain rfl rfl rfl ?_
              intro tm ws hsame hS hg K hK
              obtain ⟨v6, e6, rfl⟩ := hg 0 (by kernel_rfl) _ 6 rfl rfl
              go_simp
              refine (HVD.out ws).mono ?_
              rintro e wm ⟨rfl, hb⟩
              exact hK _ _ hb (⟨slot_kept (hS.1) (hb), slot_kept (hS.2.1) (hb), (hS.2.2).trans (Below.mono (hb) (hS.2.2).size)⟩) rfl
            refine List.forall_mem_cons.2 ⟨?_, ?_⟩
            · refine SlotStep.plain rfl rfl rfl ?_
              intro tm ws hsame hS hg K hK
              obtain ⟨v7, e7, rfl⟩ := hg 1 (by kernel_rfl) _ 7 rfl rfl
              go_simp
              exact hK _ _ (Below.refl _ _) hS rfl
            refine List.forall_mem_cons.2 ⟨?_, ?_⟩
            · refine SlotStep.plain rfl rfl rfl ?_
              intro tm ws hsame hS hg K hK
              obtain ⟨v8, e8, rfl⟩ := hg 2 (by kernel_rfl) _ 8 rfl rfl
              go_simp
              exact hK _ _ (Below.refl _ _) hS rfl
            refine List.forall_mem_cons.2 ⟨?_, ?_⟩
            · refine SlotStep.guardedNot rfl rfl 3 rfl rfl (by kernel_rfl) (fun _ _ h => h) ?_
              intro tm ws hsame hS hg K hK
              have e3 : tm[3]? = some (.pointer (some ⟨w.heap.size, 0, none⟩)) := hsame.2 3 rfl
              go_simp
              exact hK _ _ (Below.refl _ _) hS rfl
            refine List.forall_mem_cons.2 ⟨?_, ?_⟩
            · refine SlotStep.guardedNot rfl rfl 3 rfl rfl (by kernel_rfl) (fun _ _ h => h) ?_
              intro tm ws hsame hS hg K hK
              obtain ⟨v10, e10, rfl⟩ := hg 4 (by kernel_rfl) _ 10 rfl rfl
              obtain ⟨k0, k1, k2, k3⟩ := slot4 (hS.1)
              go_simp
              exact hK _ _ (Below.refl _ _) hS rfl
            refine List.forall_mem_cons.2 ⟨?_, ?_⟩
            · refine SlotStep.guardedNot rfl rfl 3 rfl rfl (by kernel_rfl) (fun _ _ h => h) ?_
              intro tm ws hsame hS hg K hK
              obtain ⟨v11, e11, rfl⟩ := hg 5 (by kernel_rfl) _ 11 rfl rfl
              go_simp
              exact hK _ _ (Below.refl _ _) hS rfl
            refine List.forall_mem_cons.2 ⟨?_, ?_⟩
            · refine SlotStep.guardedNot rfl rfl 3 rfl rfl (by kernel_rfl) (fun _ _ h => h) ?_
              intro tm ws hsame hS hg K hK
              obtain ⟨v12, e12, rfl⟩ := hg 6 (by kernel_rfl) _ 12 rfl rfl
              go_simp
              exact hK _ _ (Below.refl _ _) hS rfl
            refine List.forall_mem_cons.2 ⟨?_, ?_⟩
            · exact SlotStep.skip rfl rfl 7 true rfl rfl (by kernel_rfl) (fun _ _ h => h) (fun _ => rfl)
            refine List.forall_mem_cons.2 ⟨?_, ?_⟩
            · exact SlotStep.skip rfl rfl 7 true rfl rfl (by kernel_rfl) (fun _ _ h => h) (fun _ => rfl)
            refine List.forall_mem_cons.2 ⟨?_, ?_⟩
            · exact SlotStep.skip rfl rfl 7 true rfl rfl (by kernel_rfl) (fun _ _ h => h) (fun _ => rfl)
            refine List.forall_mem_cons.2 ⟨?_, ?_⟩
            · exact SlotStep.skip rfl rfl 7 true rfl rfl (by kernel_rfl) (fun _ _ h => h) (fun _ => rfl)
            refine List.forall_mem_cons.2 ⟨?_, ?_⟩
            · refine SlotStep.guardedNot rfl rfl 3 rfl rfl (by kernel_rfl) (fun _ _ h => h) ?_
              intro tm ws hsame hS hg K hK
              obtain ⟨v13, e13, rfl⟩ := hg 7 (by kernel_rfl) _ 13 rfl rfl
              obtain ⟨v17, e17, rfl⟩ := hg 11 (by kernel_rfl) _ 17 rfl rfl
              go_simp
              exact hK _ _ (Below.refl _ _) hS rfl
            refine List.forall_mem_cons.2 ⟨?_, ?_⟩
            · refine SlotStep.plain rfl rfl rfl ?_
              intro tm ws hsame hS hg K hK
              obtain ⟨v9, e9, rfl⟩ := hg 3 (by kernel_rfl) _ 9 rfl rfl
              obtain ⟨v18, e18, rfl⟩ := hg 12 (by kernel_rfl) _ 18 rfl rfl
              go_simp
              exact hK _ _ (Below.refl _ _) hS rfl
            refine List.forall_mem_cons.2 ⟨?_, ?_⟩
            · refine SlotStep.plain rfl rfl rfl ?_
              intro tm ws hsame hS hg K hK
              obtain ⟨v19, e19, rfl⟩ := hg 13 (by kernel_rfl) _ 19 rfl rfl
              go_simp
              exact hK _ _ (Below.refl _ _) hS rfl
            refine List.forall_mem_cons.2 ⟨?_, ?_⟩
            · refine SlotStep.guardedNot rfl rfl 14 rfl rfl (by kernel_rfl) (fun _ _ h => h) ?_
              intro tm ws hsame hS hg K hK
              have e3 : tm[3]? = some (.pointer (some ⟨w.heap.size, 0, none⟩)) := hsame.2 3 rfl
              go_simp
              exact hK _ _ (Below.refl _ _) hS rfl
            refine List.forall_mem_cons.2 ⟨?_, ?_⟩
            · refine SlotStep.guardedNot rfl rfl 14 rfl rfl (by kernel_rfl) (fun _ _ h => h) ?_
              intro tm ws hsame hS hg K hK
              obtain ⟨v21, e21, rfl⟩ := hg 15 (by kernel_rfl) _ 21 rfl rfl
              obtain ⟨k0, k1, k2, k3⟩ := slot4 (hS.1)
              go_simp
              exact hK _ _ (Below.refl _ _) hS rfl
            refine List.forall_mem_cons.2 ⟨?_, ?_⟩
            · refine SlotStep.guardedNot rfl rfl 14 rfl rfl (by kernel_rfl) (fun _ _ h => h) ?_
              intro tm ws hsame hS hg K hK
              obtain ⟨v22, e22, rfl⟩ := hg 16 (by kernel_rfl) _ 22 rfl rfl
              go_simp
              exact hK _ _ (Below.refl _ _) hS rfl
            refine List.forall_mem_cons.2 ⟨?_, ?_⟩
            · refine SlotStep.guardedNot rfl rfl 14 rfl rfl (by kernel_rfl) (fun _ _ h => h) ?_
              intro tm ws hsame hS hg K hK
              obtain ⟨v23, e23, rfl⟩ := hg 17 (by kernel_rfl) _ 23 rfl rfl
              go_simp
              exact hK _ _ (Below.refl _ _) hS rfl
            refine List.forall_mem_cons.2 ⟨?_, ?_⟩
            · refine SlotStep.guarded rfl rfl 18 rfl rfl (by kernel_rfl) (fun _ _ h => h) ?_
              intro tm ws hsame hS hg K hK
              have e3 : tm[3]? = some (.pointer (some ⟨w.heap.size, 0, none⟩)) := hsame.2 3 rfl
              go_simp
              exact hK _ _ (Below.refl _ _) hS rfl
            refine List.forall_mem_cons.2 ⟨?_, ?_⟩
            · refine SlotStep.guarded rfl rfl 18 rfl rfl (by kernel_rfl) (fun _ _ h => h) ?_
              intro tm ws hsame hS hg K hK
              obtain ⟨v25, e25, rfl⟩ := hg 19 (by kernel_rfl) _ 25 rfl rfl
              obtain ⟨k0, k1, k2, k3⟩ := slot4 (hS.1)
              go_simp
              exact hK _ _ (Below.refl _ _) hS rfl
            refine List.forall_mem_cons.2 ⟨?_, ?_⟩
            · refine SlotStep.guarded rfl rfl 18 rfl rfl (by kernel_rfl) (fun _ _ h => h) ?_
              intro tm ws hsame hS hg K hK
              have e0 : tm[0]? = some (.pointer (some ⟨g, 0, none⟩)) := hsame.2 0 rfl
              go_simp
              exact hK _ _ (Below.refl _ _) hS rfl
            refine List.forall_mem_cons.2 ⟨?_, ?_⟩
            · refine SlotStep.guarded rfl rfl 18 rfl rfl (by kernel_rfl) (fun _ _ h => h) ?_
              intro tm ws hsame hS hg K hK
              obtain ⟨v27, e27, rfl⟩ := hg 21 (by kernel_rfl) _ 27 rfl rfl
              go_simp
              exact hK _ _ (Below.refl _ _) hS rfl
            refine List.forall_mem_cons.2 ⟨?_, ?_⟩
            · refine SlotStep.guarded rfl rfl 18 rfl rfl (by kernel_rfl) (fun _ _ h => h) ?_
              intro tm ws hsame hS hg K hK
              obtain ⟨v28, e28, rfl⟩ := hg 22 (by kernel_rfl) _ 28 rfl rfl
              go_simp
              exact hK _ _ (Below.refl _ _) hS rfl
            refine List.forall_mem_cons.2 ⟨?_, ?_⟩
            · refine SlotStep.guarded rfl rfl 18 rfl rfl (by kernel_rfl) (fun _ _ h => h) ?_
              intro tm ws hsame hS hg K hK
              obtain ⟨v29, e29, rfl⟩ := hg 23 (by kernel_rfl) _ 29 rfl rfl
              obtain ⟨k0, k1, -, -⟩ := slot2 (hS.2.1)
              go_simp
              exact hK _ _ (Below.refl _ _) hS rfl
            refine List.forall_mem_cons.2 ⟨?_, ?_⟩
            · refine SlotStep.guarded rfl rfl 18 rfl rfl (by kernel_rfl) (fun _ _ h => h) ?_
              intro tm ws hsame hS hg K hK
              obtain ⟨v30, e30, rfl⟩ := hg 24 (by kernel_rfl) _ 30 rfl rfl
              go_simp
              exact hK _ _ (Below.refl _ _) hS rfl
            refine List.forall_mem_cons.2 ⟨?_, ?_⟩
            · refine SlotStep.guarded rfl rfl 18 rfl rfl (by kernel_rfl) (fun _ _ h => h) ?_
              intro tm ws hsame hS hg K hK
              obtain ⟨v26, e26, rfl⟩ := hg 20 (by kernel_rfl) _ 26 rfl rfl
              obtain ⟨v31, e31, rfl⟩ := hg 25 (by kernel_rfl) _ 31 rfl rfl
              go_simp
              exact hK _ _ (Below.refl _ _) hS rfl
            refine List.forall_mem_cons.2 ⟨?_, ?_⟩
            · refine SlotStep.guarded rfl rfl 18 rfl rfl (by kernel_rfl) (fun _ _ h => h) ?_
              intro tm ws hsame hS hg K hK
              obtain ⟨v32, e32, rfl⟩ := hg 26 (by kernel_rfl) _ 32 rfl rfl
              go_simp
              exact hK _ _ (Below.refl _ _) hS rfl
            refine List.forall_mem_cons.2 ⟨?_, ?_⟩
            · refine SlotStep.guardedNot rfl rfl 27 rfl rfl (by kernel_rfl) (fun _ _ h => h) ?_
              intro tm ws hsame hS hg K hK
              have e3 : tm[3]? = some (.pointer (some ⟨w.heap.size, 0, none⟩)) := hsame.2 3 rfl
              go_simp
              exact hK _ _ (Below.refl _ _) hS rfl
            refine List.forall_mem_cons.2 ⟨?_, ?_⟩
            · refine SlotStep.guardedNot rfl rfl 27 rfl rfl (by kernel_rfl) (fun _ _ h => h) ?_
              intro tm ws hsame hS hg K hK
              obtain ⟨v34, e34, rfl⟩ := hg 28 (by kernel_rfl) _ 34 rfl rfl
              obtain ⟨k0, k1, k2, k3⟩ := slot4 (hS.1)
              go_simp
              exact hK _ _ (Below.refl _ _) hS rfl
            refine List.forall_mem_cons.2 ⟨?_, ?_⟩
            · refine SlotStep.guardedNot rfl rfl 27 rfl rfl (by kernel_rfl) (fun _ _ h => h) ?_
              intro tm ws hsame hS hg K hK
              obtain ⟨v35, e35, rfl⟩ := hg 29 (by kernel_rfl) _ 35 rfl rfl
              go_simp
              exact hK _ _ (Below.refl _ _) hS rfl
            refine List.forall_mem_cons.2 ⟨?_, ?_⟩
            · refine SlotStep.guardedNot rfl rfl 27 rfl rfl (by kernel_rfl) (fun _ _ h => h) ?_
              intro tm ws hsame hS hg K hK
              obtain ⟨v36, e36, rfl⟩ := hg 30 (by kernel_rfl) _ 36 rfl rfl
              go_simp
              exact hK _ _ (Below.refl _ _) hS rfl
            refine List.forall_mem_cons.2 ⟨?_, ?_⟩
            · exact SlotStep.skip rfl rfl 31 true rfl rfl (by kernel_rfl) (fun _ _ h => h) (fun _ => rfl)
            refine List.forall_mem_cons.2 ⟨?_, ?_⟩
            · exact SlotStep.skip rfl rfl 31 true rfl rfl (by kernel_rfl) (fun _ _ h => h) (fun _ => rfl)
            refine List.forall_mem_cons.2 ⟨?_, ?_⟩
            · exact SlotStep.skip rfl rfl 31 true rfl rfl (by kernel_rfl) (fun _ _ h => h) (fun _ => rfl)
            refine List.forall_mem_cons.2 ⟨?_, ?_⟩
            · exact SlotStep.skip rfl rfl 31 true rfl rfl (by kernel_rfl) (fun _ _ h => h) (fun _ => rfl)
            refine List.forall_mem_cons.2 ⟨?_, ?_⟩
            · exact SlotStep.skip rfl rfl 31 true rfl rfl (by kernel_rfl) (fun _ _ h => h) (fun _ => rfl)
            refine List.forall_mem_cons.2 ⟨?_, ?_⟩
            · exact SlotStep.skip rfl rfl 31 true rfl rfl (by kernel_rfl) (fun _ _ h => h) (fun _ => rfl)
            refine List.forall_mem_cons.2 ⟨?_, ?_⟩
            · exact SlotStep.skip rfl rfl 31 true rfl rfl (by kernel_rfl) (fun _ _ h => h) (fun _ => rfl)
            refine List.forall_mem_cons.2 ⟨?_, ?_⟩
            · exact SlotStep.skip rfl rfl 31 true rfl rfl (by kernel_rfl) (fun _ _ h => h) (fun _ => rfl)
            refine List.forall_mem_cons.2 ⟨?_, ?_⟩
            · refine SlotStep.guardedNot rfl rfl 27 rfl rfl (by kernel_rfl) (fun _ _ h => h) ?_
              intro tm ws hsame hS hg K hK
              obtain ⟨v37, e37, rfl⟩ := hg 31 (by kernel_rfl) _ 37 rfl rfl
              obtain ⟨v45, e45, rfl⟩ := hg 39 (by kernel_rfl) _ 45 rfl rfl
              go_simp
              exact hK _ _ (Below.refl _ _) hS rfl
            refine List.forall_mem_cons.2 ⟨?_, ?_⟩
            · refine SlotStep.guarded rfl rfl 18 rfl rfl (by kernel_rfl) (fun _ _ h => h) ?_
              intro tm ws hsame hS hg K hK
              obtain ⟨v33, e33, rfl⟩ := hg 27 (by kernel_rfl) _ 33 rfl rfl
              obtain ⟨v46, e46, rfl⟩ := hg 40 (by kernel_rfl) _ 46 rfl rfl
              go_simp
              exact hK _ _ (Below.refl _ _) hS rfl
            refine List.forall_mem_cons.2 ⟨?_, ?_⟩
            · refine SlotStep.guardedNot rfl rfl 14 rfl rfl (by kernel_rfl) (fun _ _ h => h) ?_
              intro tm ws hsame hS hg K hK
              obtain ⟨v24, e24, rfl⟩ := hg 18 (by kernel_rfl) _ 24 rfl rfl
              obtain ⟨v47, e47, rfl⟩ := hg 41 (by kernel_rfl) _ 47 rfl rfl
              go_simp
              exact hK _ _ (Below.refl _ _) hS rfl
            refine List.forall_mem_cons.2 ⟨?_, ?_⟩
            · refine SlotStep.plain rfl rfl rfl ?_
              intro tm ws hsame hS hg K hK
              obtain ⟨v20, e20, rfl⟩ := hg 14 (by kernel_rfl) _ 20 rfl rfl
              obtain ⟨v48, e48, rfl⟩ := hg 42 (by kernel_rfl) _ 48 rfl rfl
              go_simp
              exact hK _ _ (Below.refl _ _) hS rfl
            exact fun _ h => nomatch h
          case fin6 =>
            intro tm w3 hsame hS hgot
            obtain ⟨u, hu, htm⟩ := hsame.form (by kernel_rfl)
            obtain ⟨v49, e49, rfl⟩ := hgot 43 _ 49 rfl rfl
            have h49 := hu _ _ e49
            have hc1' := hS.1
            have hc2' := hS.2.1
            have hb3 := hS.2.2
            clear hgot hu hsame e49 hS hc1 hc2
            rw [htm]
            clear htm tm
            simp only [List.foldl_cons, List.foldl_nil, List.setIfInBounds_toArray, List.set_cons_zero, List.set_cons_succ, h49]
            clear h49
            go_wp2_with fail
            go_loopw [5] (fun i wr => ∃ q : Nat, q ≤ n ∧ i = .int .i64 q ∧ Below w3.heap.size w3 wr ∧ (∀ j : Nat, j < q → l[j]? ≠ some (5, v, a, b)) ∧ (0 < q → s = true)) (fun i _ => n - (intOf i).toNat)
            case atStart => exact ⟨0, Nat.zero_le _, rfl, Below.refl _ _, fun j hj => absurd hj (Nat.not_lt_zero _), fun h => absurd h (Nat.lt_irrefl _)⟩
            case round =>
              obtain ⟨q, hq, rfl, hbr, hno, hs0⟩ := hrel
              have hd1 := slot_kept hc1' hbr
              have hd2 := slot_kept hc2' hbr
              have hb0r := hb1.trans ((hb3.trans (hbr.mono hb3.size)).mono hb1.size)
              obtain ⟨m0, m1, m2, m3⟩ := slot4 hd1
              obtain ⟨p0, p1, p2, p3⟩ := slot2 hd2
              by_cases hlt : q < n
              · by_cases hss : s = true
                · subst hss
                  have hl0 : l ≠ [] := by intro e; have := HN.out; subst e; simp at this; omega
                  obtain ⟨b0, o0, rfl, -⟩ := HRD.out.some hl0
                  have hrr := HRD.out.below hb0r
                  obtain ⟨x, hx⟩ : ∃ x, l[q]? = some x := ⟨l[q]'(by have := HN.out; omega), by rw [List.getElem?_eq_getElem]⟩
                  clear hl0 hs0
                  go_upto_region 6 with fail
                  clear m0 m1 m2 m3 p0 p1 p2 p3
                  by_cases hxe : x = (5, v, a, b)
                  · have hx' : l[q]? = some (5, v, a, b) := hxe ▸ hx
                    have HSE := Lib.hid (HSM.out x)
                    rw [decide_eq_true hxe] at HSE
                    clear hxe
                    refine wp_region_slots (by kernel_rfl) [65, 66, 67, 68, 69, 70, 71, 72, 73] (fun w' => (w'.heap[w.heap.size]? = some (.cells #[.int .i64 5, .float .f64 v, .int .i64 a, .int .i64 b] 43 (0, 0))) ∧ (w'.heap[g]? = some (.cells #[.slice (some ⟨b0, o0, none⟩) n vc, .bool true] 28 (0, 0))) ∧ (RdN w' (some ⟨b0, o0, none⟩) l) ∧ (Below wr.heap.size wr w')) (Said [Is (.pointer (some ⟨g, 0, none⟩)), Is (.pointer (some ⟨g, 0, none⟩)), Is (.pointer (some ⟨g, 0, none⟩)), Is (.slice (some ⟨b0, o0, none⟩) n vc), Is (.int .i64 (q : Int)), Is (.pointer (some ⟨b0, o0 + q * 4, none⟩)), Is (.agg #[.int .i64 x.1, .float .f64 x.2.1, .int .i64 x.2.2.1, .int .i64 x.2.2.2]), Is (.agg #[.int .i64 5, .float .f64 v, .int .i64 a, .int .i64 b]), Is (.bool true)]) (by kernel_rfl) (by kernel_rfl) (by kernel_rfl) (by kernel_rfl) (Said.keep ?keep7) ⟨slot_kept hd1 (bdn (Below.refl _ _) 1), slot_kept hd2 (bdn (Below.refl _ _) 1), hrr.below (bdn (Below.refl _ _) 1), bdn (Below.refl _ _) 1⟩ (l := [0, 1, 2, 3, 4, 5, 6, 7, 8]) (by kernel_rfl) ?step7 ?fin7
                    case keep7 =>
                      refine List.forall_mem_cons.2 ⟨Is.keeps _, ?_⟩
                      refine List.forall_mem_cons.2 ⟨Is.keeps _, ?_⟩
                      refine List.forall_mem_cons.2 ⟨Is.keeps _, ?_⟩
                      refine List.forall_mem_cons.2 ⟨Is.keeps _, ?_⟩
                      refine List.forall_mem_cons.2 ⟨Is.keeps _, ?_⟩
                      refine List.forall_mem_cons.2 ⟨Is.keeps _, ?_⟩
                      refine List.forall_mem_cons.2 ⟨Is.keeps _, ?_⟩
                      refine List.forall_mem_cons.2 ⟨Is.keeps _, ?_⟩
                      refine List.forall_mem_cons.2 ⟨Is.keeps _, ?_⟩
                      exact fun _ h => nomatch h
                    case step7 =>
                      refine List.forall_mem_cons.2 ⟨?_, ?_⟩
                      · refine SlotStep.plain rfl rfl rfl ?_
                        intro tm ws hsame hS hg K hK
                        have e0 : tm[0]? = some (.pointer (some ⟨g, 0, none⟩)) := hsame.2 0 rfl
                        go_simp
                        exact hK _ _ (Below.refl _ _) hS rfl
                      refine List.forall_mem_cons.2 ⟨?_, ?_⟩
                      · refine SlotStep.plain rfl rfl rfl ?_
                        intro tm ws hsame hS hg K hK
                        obtain ⟨v65, e65, rfl⟩ := hg 0 (by kernel_rfl) _ 65 rfl rfl
                        go_simp
                        exact hK _ _ (Below.refl _ _) hS rfl
                      refine List.forall_mem_cons.2 ⟨?_, ?_⟩
                      · refine SlotStep.plain rfl rfl rfl ?_
                        intro tm ws hsame hS hg K hK
                        obtain ⟨v66, e66, rfl⟩ := hg 1 (by kernel_rfl) _ 66 rfl rfl
                        go_simp
                        exact hK _ _ (Below.refl _ _) hS rfl
                      refine List.forall_mem_cons.2 ⟨?_, ?_⟩
                      · refine SlotStep.plain rfl rfl rfl ?_
                        intro tm ws hsame hS hg K hK
                        obtain ⟨v67, e67, rfl⟩ := hg 2 (by kernel_rfl) _ 67 rfl rfl
                        obtain ⟨k0, k1, -, -⟩ := slot2 (hS.2.1)
                        go_simp
                        exact hK _ _ (Below.refl _ _) hS rfl
                      refine List.forall_mem_cons.2 ⟨?_, ?_⟩
                      · refine SlotStep.plain rfl rfl rfl ?_
                        intro tm ws hsame hS hg K hK
                        have e5 : tm[5]? = some (.int .i64 (q : Int)) := hsame.2 5 rfl
                        go_simp
                        exact hK _ _ (Below.refl _ _) hS rfl
                      refine List.forall_mem_cons.2 ⟨?_, ?_⟩
                      · refine SlotStep.plain rfl rfl rfl ?_
                        intro tm ws hsame hS hg K hK
                        obtain ⟨v68, e68, rfl⟩ := hg 3 (by kernel_rfl) _ 68 rfl rfl
                        obtain ⟨v69, e69, rfl⟩ := hg 4 (by kernel_rfl) _ 69 rfl rfl
                        go_simp
                        exact hK _ _ (Below.refl _ _) hS rfl
                      refine List.forall_mem_cons.2 ⟨?_, ?_⟩
                      · refine SlotStep.plain rfl rfl rfl ?_
                        intro tm ws hsame hS hg K hK
                        obtain ⟨v70, e70, rfl⟩ := hg 5 (by kernel_rfl) _ 70 rfl rfl
                        obtain ⟨k0, k1, k2, k3⟩ := (hS.2.2.1).at hx
                        go_simp
                        exact hK _ _ (Below.refl _ _) hS rfl
                      refine List.forall_mem_cons.2 ⟨?_, ?_⟩
                      · refine SlotStep.plain rfl rfl rfl ?_
                        intro tm ws hsame hS hg K hK
                        have e3 : tm[3]? = some (.pointer (some ⟨w.heap.size, 0, none⟩)) := hsame.2 3 rfl
                        obtain ⟨k0, k1, k2, k3⟩ := slot4 (hS.1)
                        go_simp
                        exact hK _ _ (Below.refl _ _) hS rfl
                      refine List.forall_mem_cons.2 ⟨?_, ?_⟩
                      · refine SlotStep.plain rfl rfl rfl ?_
                        intro tm ws hsame hS hg K hK
                        obtain ⟨v71, e71, rfl⟩ := hg 6 (by kernel_rfl) _ 71 rfl rfl
                        obtain ⟨v72, e72, rfl⟩ := hg 7 (by kernel_rfl) _ 72 rfl rfl
                        go_simp
                        refine (HSE.out ws).mono ?_
                        rintro e wm ⟨rfl, hb⟩
                        exact hK _ _ hb (⟨slot_kept (hS.1) (hb), slot_kept (hS.2.1) (hb), (hS.2.2.1).below (hb), (hS.2.2.2).trans (Below.mono (hb) (hS.2.2.2).size)⟩) rfl
                      exact fun _ h => nomatch h
                    case fin7 =>
                      intro tm w4 hsame hS hgot
                      obtain ⟨u', hu, htm⟩ := hsame.form (by kernel_rfl)
                      obtain ⟨v73, e73, rfl⟩ := hgot 8 _ 73 rfl rfl
                      have h73 := hu _ _ e73
                      have hb4 := hS.2.2.2
                      clear hgot hu hsame e73 hS hd1 hd2 hrr
                      rw [htm]
                      clear htm tm
                      simp only [List.foldl_cons, List.foldl_nil, List.setIfInBounds_toArray, List.set_cons_zero, List.set_cons_succ, h73]
                      clear h73
                      go_wp2_with fail
                      go_ret
                      refine put_old HP.out (by rw [HN.out]; exact HG.out) hx' hno ?_
                      exact hb1.trans ((hb3.trans ((hbr.trans (hb4.mono hbr.size)).mono hb3.size)).mono hb1.size)
                  · have HSE := Lib.hid (HSM.out x)
                    rw [decide_eq_false hxe] at HSE
                    refine wp_region_slots (by kernel_rfl) [65, 66, 67, 68, 69, 70, 71, 72, 73] (fun w' => (w'.heap[w.heap.size]? = some (.cells #[.int .i64 5, .float .f64 v, .int .i64 a, .int .i64 b] 43 (0, 0))) ∧ (w'.heap[g]? = some (.cells #[.slice (some ⟨b0, o0, none⟩) n vc, .bool true] 28 (0, 0))) ∧ (RdN w' (some ⟨b0, o0, none⟩) l) ∧ (Below wr.heap.size wr w')) (Said [Is (.pointer (some ⟨g, 0, none⟩)), Is (.pointer (some ⟨g, 0, none⟩)), Is (.pointer (some ⟨g, 0, none⟩)), Is (.slice (some ⟨b0, o0, none⟩) n vc), Is (.int .i64 (q : Int)), Is (.pointer (some ⟨b0, o0 + q * 4, none⟩)), Is (.agg #[.int .i64 x.1, .float .f64 x.2.1, .int .i64 x.2.2.1, .int .i64 x.2.2.2]), Is (.agg #[.int .i64 5, .float .f64 v, .int .i64 a, .int .i64 b]), Is (.bool false)]) (by kernel_rfl) (by kernel_rfl) (by kernel_rfl) (by kernel_rfl) (Said.keep ?keep8) ⟨slot_kept hd1 (bdn (Below.refl _ _) 1), slot_kept hd2 (bdn (Below.refl _ _) 1), hrr.below (bdn (Below.refl _ _) 1), bdn (Below.refl _ _) 1⟩ (l := [0, 1, 2, 3, 4, 5, 6, 7, 8]) (by kernel_rfl) ?step8 ?fin8
                    case keep8 =>
                      refine List.forall_mem_cons.2 ⟨Is.keeps _, ?_⟩
                      refine List.forall_mem_cons.2 ⟨Is.keeps _, ?_⟩
                      refine List.forall_mem_cons.2 ⟨Is.keeps _, ?_⟩
                      refine List.forall_mem_cons.2 ⟨Is.keeps _, ?_⟩
                      refine List.forall_mem_cons.2 ⟨Is.keeps _, ?_⟩
                      refine List.forall_mem_cons.2 ⟨Is.keeps _, ?_⟩
                      refine List.forall_mem_cons.2 ⟨Is.keeps _, ?_⟩
                      refine List.forall_mem_cons.2 ⟨Is.keeps _, ?_⟩
                      refine List.forall_mem_cons.2 ⟨Is.keeps _, ?_⟩
                      exact fun _ h => nomatch h
                    case step8 =>
                      refine List.forall_mem_cons.2 ⟨?_, ?_⟩
                      · refine SlotStep.plain rfl rfl rfl ?_
                        intro tm ws hsame hS hg K hK
                        have e0 : tm[0]? = some (.pointer (some ⟨g, 0, none⟩)) := hsame.2 0 rfl
                        go_simp
                        exact hK _ _ (Below.refl _ _) hS rfl
                      refine List.forall_mem_cons.2 ⟨?_, ?_⟩
                      · refine SlotStep.plain rfl rfl rfl ?_
                        intro tm ws hsame hS hg K hK
                        obtain ⟨v65, e65, rfl⟩ := hg 0 (by kernel_rfl) _ 65 rfl rfl
                        go_simp
                        exact hK _ _ (Below.refl _ _) hS rfl
                      refine List.forall_mem_cons.2 ⟨?_, ?_⟩
                      · refine SlotStep.plain rfl rfl rfl ?_
                        intro tm ws hsame hS hg K hK
                        obtain ⟨v66, e66, rfl⟩ := hg 1 (by kernel_rfl) _ 66 rfl rfl
                        go_simp
                        exact hK _ _ (Below.refl _ _) hS rfl
                      refine List.forall_mem_cons.2 ⟨?_, ?_⟩
                      · refine SlotStep.plain rfl rfl rfl ?_
                        intro tm ws hsame hS hg K hK
                        obtain ⟨v67, e67, rfl⟩ := hg 2 (by kernel_rfl) _ 67 rfl rfl
                        obtain ⟨k0, k1, -, -⟩ := slot2 (hS.2.1)
                        go_simp
                        exact hK _ _ (Below.refl _ _) hS rfl
                      refine List.forall_mem_cons.2 ⟨?_, ?_⟩
                      · refine SlotStep.plain rfl rfl rfl ?_
                        intro tm ws hsame hS hg K hK
                        have e5 : tm[5]? = some (.int .i64 (q : Int)) := hsame.2 5 rfl
                        go_simp
                        exact hK _ _ (Below.refl _ _) hS rfl
                      refine List.forall_mem_cons.2 ⟨?_, ?_⟩
                      · refine SlotStep.plain rfl rfl rfl ?_
                        intro tm ws hsame hS hg K hK
                        obtain ⟨v68, e68, rfl⟩ := hg 3 (by kernel_rfl) _ 68 rfl rfl
                        obtain ⟨v69, e69, rfl⟩ := hg 4 (by kernel_rfl) _ 69 rfl rfl
                        go_simp
                        exact hK _ _ (Below.refl _ _) hS rfl
                      refine List.forall_mem_cons.2 ⟨?_, ?_⟩
                      · refine SlotStep.plain rfl rfl rfl ?_
                        intro tm ws hsame hS hg K hK
                        obtain ⟨v70, e70, rfl⟩ := hg 5 (by kernel_rfl) _ 70 rfl rfl
                        obtain ⟨k0, k1, k2, k3⟩ := (hS.2.2.1).at hx
                        go_simp
                        exact hK _ _ (Below.refl _ _) hS rfl
                      refine List.forall_mem_cons.2 ⟨?_, ?_⟩
                      · refine SlotStep.plain rfl rfl rfl ?_
                        intro tm ws hsame hS hg K hK
                        have e3 : tm[3]? = some (.pointer (some ⟨w.heap.size, 0, none⟩)) := hsame.2 3 rfl
                        obtain ⟨k0, k1, k2, k3⟩ := slot4 (hS.1)
                        go_simp
                        exact hK _ _ (Below.refl _ _) hS rfl
                      refine List.forall_mem_cons.2 ⟨?_, ?_⟩
                      · refine SlotStep.plain rfl rfl rfl ?_
                        intro tm ws hsame hS hg K hK
                        obtain ⟨v71, e71, rfl⟩ := hg 6 (by kernel_rfl) _ 71 rfl rfl
                        obtain ⟨v72, e72, rfl⟩ := hg 7 (by kernel_rfl) _ 72 rfl rfl
                        go_simp
                        refine (HSE.out ws).mono ?_
                        rintro e wm ⟨rfl, hb⟩
                        exact hK _ _ hb (⟨slot_kept (hS.1) (hb), slot_kept (hS.2.1) (hb), (hS.2.2.1).below (hb), (hS.2.2.2).trans (Below.mono (hb) (hS.2.2.2).size)⟩) rfl
                      exact fun _ h => nomatch h
                    case fin8 =>
                      intro tm w4 hsame hS hgot
                      obtain ⟨u', hu, htm⟩ := hsame.form (by kernel_rfl)
                      obtain ⟨v73, e73, rfl⟩ := hgot 8 _ 73 rfl rfl
                      have h73 := hu _ _ e73
                      have hb4 := hS.2.2.2
                      clear hgot hu hsame e73 hS hd1 hd2 hrr
                      rw [htm]
                      clear htm tm
                      simp only [List.foldl_cons, List.foldl_nil, List.setIfInBounds_toArray, List.set_cons_zero, List.set_cons_succ, h73]
                      clear h73
                      go_wp2_with fail
                      go_roundw
                      case rel =>
                        refine ⟨q + 1, by omega, by go_num, hbr.trans (hb4.mono hbr.size), fun j hj => ?_, fun _ => by trivial⟩
                        rcases Nat.lt_or_ge j q with h | h
                        · exact hno j h
                        · obtain rfl : j = q := by omega
                          rw [hx]
                          exact fun e => hxe (Option.some.inj e)
                      case measure => simp [intOf]; omega
                · have hnn : Hid (s = true → nfind l (5, v, a, b) = none) := Lib.hid fun h => absurd h hss
                  have hsf : s = false := by cases s; rfl; exact absurd rfl hss
                  clear hss hno hs0
                  have hOr : OwN base wr (.slice va n vc) l := HP.out.2.1.below hb0r
                  have hszr := hb0r.size
                  have hww : w1.heap.size ≤ wr.heap.size := by have := hb3.size; have := hbr.size; omega
                  have hgr : g < wr.heap.size := (Array.getElem?_eq_some_iff.1 hd2).1
                  have pA := (slot2 (slot_kept hd2 (below_alloc wr (.cells #[.int .i64 5, .float .f64 v, .int .i64 a, .int .i64 b] 43)))).1
                  go_wp2_with fail
                  go_region_law (refine step_append_node _ rfl (.tmp 79) (.tmp 81) 22 rfl Tryd.underlying22 info_node base (.slice va n vc) l (by simp [Act.eval]) (OwN.alloc (w := wr.drew) hOr _) ⟨wr.heap.size, 0, none⟩ 1 1 [(5, v, a, b)] (by simp [Act.eval]) rfl (node_new1 wr.drew (5, v, a, b) _) (by rw [HN.out]; omega) (by simp; omega) ?_; intro v' w5 hO5 hg5 hat5; obtain ⟨m5, hm5⟩ : ∃ m5, (l ++ [(5, v, a, b)]).length = m5 := ⟨_, rfl⟩; obtain ⟨qa, qc, hqv, -, -, -, -⟩ := hO5.form; rw [hm5] at hqv; subst hqv; have he5 : w5.heap[g]? = some (.cells #[.slice va n vc, .bool s] 28 (0, 0)) := put_kept (w := wr.drew) hd2 hOr hg5; obtain ⟨p0', p1', p2', p3'⟩ := slot2 he5; have hsub : (m5 : Int) - 1 = (n : Int) := (by have h9 := HN.out; have h8 : (l ++ [(5, v, a, b)]).length = l.length + 1 := List.length_append; omega); have HA := Lib.hid (put_new (wr := wr.drew) (o := .cells #[.int .i64 5, .float .f64 v, .int .i64 a, .int .i64 b] 43) HP.out (by rw [HN.out]; exact HG.out) hnn.out hb0r.drew hO5 hg5 hat5 he5); rw [HN.out] at HA; clear hO5 hg5 hat5 he5 hm5)
                  all_goals
                    obtain ⟨r0, r1⟩ := plain_set p0' p1' (.slice qa m5 qc)
                    clear p0' p1' p2' p3'
                    go_wp2_with fail
                    go_ret
                    exact HA.out
              · have hqn : n = q := by omega
                subst hqn
                have hnn : Hid (s = true → nfind l (5, v, a, b) = none) := Lib.hid fun _ => nfind_none fun j hj => hno j (by rw [← HN.out]; exact hj)
                clear hno hs0
                have hOr : OwN base wr (.slice va n vc) l := HP.out.2.1.below hb0r
                have hszr := hb0r.size
                have hww : w1.heap.size ≤ wr.heap.size := by have := hb3.size; have := hbr.size; omega
                have hgr : g < wr.heap.size := (Array.getElem?_eq_some_iff.1 hd2).1
                have pA := (slot2 (slot_kept hd2 (below_alloc wr (.cells #[.int .i64 5, .float .f64 v, .int .i64 a, .int .i64 b] 43)))).1
                go_wp2_with fail
                go_region_law (refine step_append_node _ rfl (.tmp 79) (.tmp 81) 22 rfl Tryd.underlying22 info_node base (.slice va n vc) l (by simp [Act.eval]) (OwN.alloc (w := wr.drew) hOr _) ⟨wr.heap.size, 0, none⟩ 1 1 [(5, v, a, b)] (by simp [Act.eval]) rfl (node_new1 wr.drew (5, v, a, b) _) (by rw [HN.out]; omega) (by simp; omega) ?_; intro v' w5 hO5 hg5 hat5; obtain ⟨m5, hm5⟩ : ∃ m5, (l ++ [(5, v, a, b)]).length = m5 := ⟨_, rfl⟩; obtain ⟨qa, qc, hqv, -, -, -, -⟩ := hO5.form; rw [hm5] at hqv; subst hqv; have he5 : w5.heap[g]? = some (.cells #[.slice va n vc, .bool s] 28 (0, 0)) := put_kept (w := wr.drew) hd2 hOr hg5; obtain ⟨p0', p1', p2', p3'⟩ := slot2 he5; have hsub : (m5 : Int) - 1 = (n : Int) := (by have h9 := HN.out; have h8 : (l ++ [(5, v, a, b)]).length = l.length + 1 := List.length_append; omega); have HA := Lib.hid (put_new (wr := wr.drew) (o := .cells #[.int .i64 5, .float .f64 v, .int .i64 a, .int .i64 b] 43) HP.out (by rw [HN.out]; exact HG.out) hnn.out hb0r.drew hO5 hg5 hat5 he5); rw [HN.out] at HA; clear hO5 hg5 hat5 he5 hm5)
                all_goals
                  obtain ⟨r0, r1⟩ := plain_set p0' p1' (.slice qa m5 qc)
                  clear p0' p1' p2' p3'
                  go_wp2_with fail
                  go_ret
                  exact HA.out
        · obtain ⟨f0, f1, f2⟩ := bne_of h5
          by_cases hB : (n : Int) ≤ b
          · have hb2 : decide ((n : Int) ≤ b) = true := decide_eq_true hB
            have HR := HBAD (by unfold nbad; simp [hk, h5, hB])
            clear hval ha hB
            clear HBAD
            go_enter Tryd.func7, Tryd.ntmps7
            go_upto_region 1 with fail
            refine wp_region_slots (by kernel_rfl) [6, 7, 8, 9, 10, 11, 12, 13, 14, 15, 16, 17, 18, 19, 20, 21, 22, 23, 24, 25, 26, 27, 28, 29, 30, 31, 32, 33, 34, 35, 36, 37, 38, 39, 40, 41, 42, 43, 44, 45, 46, 47, 48, 49] (fun w' => (w'.heap[w.heap.size]? = some (.cells #[.int .i64 k, .float .f64 v, .int .i64 a, .int .i64 b] 43 (0, 0))) ∧ (w'.heap[g]? = some (.cells #[.slice va n vc, .bool s] 28 (0, 0))) ∧ (Below w1.heap.size w1 w')) (Said [Is (.agg #[.int .i64 k, .float .f64 v, .int .i64 a, .int .i64 b]), Is (.bool true), Is (.bool false), Is (.bool false), Is (.pointer (some ⟨w.heap.size, 0, none⟩)), Is (.int .i64 k), Is (.bool false), Is (.bool false), Is undef, Is undef, Is undef, Is undef, Is (.bool false), Is (.bool false), Is (.bool false), Is (.pointer (some ⟨w.heap.size, 0, none⟩)), Is (.int .i64 k), Is (.bool true), Is (.bool true), Is (.pointer (some ⟨w.heap.size, 2, none⟩)), Is (.int .i64 a), Is (.pointer (some ⟨g, 0, none⟩)), Is (.pointer (some ⟨g, 0, none⟩)), Is (.pointer (some ⟨g, 0, none⟩)), Is (.slice va n vc), Is (.int .i64 n), Is (.bool false), Is (.bool false), Is (.pointer (some ⟨w.heap.size, 0, none⟩)), Is (.int .i64 k), Is (.bool true), Is (.bool true), Is (.pointer (some ⟨w.heap.size, 3, none⟩)), Is (.int .i64 b), Is (.pointer (some ⟨g, 0, none⟩)), Is (.pointer (some ⟨g, 0, none⟩)), Is (.pointer (some ⟨g, 0, none⟩)), Is (.slice va n vc), Is (.int .i64 n), Is (.bool true), Is (.bool true), Is (.bool true), Is (.bool true), Is (.bool true)]) (by kernel_rfl) (by kernel_rfl) (by kernel_rfl) (by kernel_rfl) (Said.keep ?keep9) ⟨slot_kept hc1 (bdn (Below.refl _ _) 1), slot_kept hc2 (bdn (Below.refl _ _) 1), bdn (Below.refl _ _) 1⟩ (l := [0, 1, 2, 3, 4, 5, 6, 7, 8, 9, 10, 11, 12, 13, 14, 15, 16, 17, 18, 19, 20, 21, 22, 23, 24, 25, 26, 27, 28, 29, 30, 31, 32, 33, 34, 35, 36, 37, 38, 39, 40, 41, 42, 43]) (by kernel_rfl) ?step9 ?fin9
            case keep9 =>
              refine List.forall_mem_cons.2 ⟨Is.keeps _, ?_⟩
              refine List.forall_mem_cons.2 ⟨Is.keeps _, ?_⟩
              refine List.forall_mem_cons.2 ⟨Is.keeps _, ?_⟩
              refine List.forall_mem_cons.2 ⟨Is.keeps _, ?_⟩
              refine List.forall_mem_cons.2 ⟨Is.keeps _, ?_⟩
              refine List.forall_mem_cons.2 ⟨Is.keeps _, ?_⟩
              refine List.forall_mem_cons.2 ⟨Is.keeps _, ?_⟩
              refine List.forall_mem_cons.2 ⟨Is.keeps _, ?_⟩
              refine List.forall_mem_cons.2 ⟨Is.keeps _, ?_⟩
              refine List.forall_mem_cons.2 ⟨Is.keeps _, ?_⟩
              refine List.forall_mem_cons.2 ⟨Is.keeps _, ?_⟩
              refine List.forall_mem_cons.2 ⟨Is.keeps _, ?_⟩
              refine List.forall_mem_cons.2 ⟨Is.keeps _, ?_⟩
              refine List.forall_mem_cons.2 ⟨Is.keeps _, ?_⟩
              refine List.forall_mem_cons.2 ⟨Is.keeps _, ?_⟩
              refine List.forall_mem_cons.2 ⟨Is.keeps _, ?_⟩
              refine List.forall_mem_cons.2 ⟨Is.keeps _, ?_⟩
              refine List.forall_mem_cons.2 ⟨Is.keeps _, ?_⟩
              refine List.forall_mem_cons.2 ⟨Is.keeps _, ?_⟩
              refine List.forall_mem_cons.2 ⟨Is.keeps _, ?_⟩
              refine List.forall_mem_cons.2 ⟨Is.keeps _, ?_⟩
              refine List.forall_mem_cons.2 ⟨Is.keeps _, ?_⟩
              refine List.forall_mem_cons.2 ⟨Is.keeps _, ?_⟩
              refine List.forall_mem_cons.2 ⟨Is.keeps _, ?_⟩
              refine List.forall_mem_cons.2 ⟨Is.keeps _, ?_⟩
              refine List.forall_mem_cons.2 ⟨Is.keeps _, ?_⟩
              refine List.forall_mem_cons.2 ⟨Is.keeps _, ?_⟩
              refine List.forall_mem_cons.2 ⟨Is.keeps _, ?_⟩
              refine List.forall_mem_cons.2 ⟨Is.keeps _, ?_⟩
              refine List.forall_mem_cons.2 ⟨Is.keeps _, ?_⟩
              refine List.forall_mem_cons.2 ⟨Is.keeps _, ?_⟩
              refine List.forall_mem_cons.2 ⟨Is.keeps _, ?_⟩
              refine List.forall_mem_cons.2 ⟨Is.keeps _, ?_⟩
              refine List.forall_mem_cons.2 ⟨Is.keeps _, ?_⟩
              refine List.forall_mem_cons.2 ⟨Is.keeps _, ?_⟩
              refine List.forall_mem_cons.2 ⟨Is.keeps _, ?_⟩
              refine List.forall_mem_cons.2 ⟨Is.keeps _, ?_⟩
              refine List.forall_mem_cons.2 ⟨Is.keeps _, ?_⟩
              refine List.forall_mem_cons.2 ⟨Is.keeps _, ?_⟩
              refine List.forall_mem_cons.2 ⟨Is.keeps _, ?_⟩
              refine List.forall_mem_cons.2 ⟨Is.keeps _, ?_⟩
              refine List.forall_mem_cons.2 ⟨Is.keeps _, ?_⟩
              refine List.forall_mem_cons.2 ⟨Is.keeps _, ?_⟩
              refine List.forall_mem_cons.2 ⟨Is.keeps _, ?_⟩
              exact fun _ h => nomatch h
            case step9 =>
              refine List.forall_mem_cons.2 ⟨?_, ?_⟩
              · refine SlotStep.plain rfl rfl rfl ?_
                intro tm ws hsame hS hg K hK
                have e3 : tm[3]? = some (.pointer (some ⟨w.heap.size, 0, none⟩)) := hsame.2 3 rfl
                obtain ⟨k0, k1, k2, k3⟩ := slot4 (hS.1)
                go_simp
                exact hK _ _ (Below.refl _ _) hS rfl
              refine List.forall_mem_cons.2 ⟨?_, ?_⟩
              · refine SlotStep.plain rfl rfl rfl ?_
                intro tm ws hsame hS hg K hK
                obtain ⟨v6, e6, rfl⟩ := hg 0 (by kernel_rfl) _ 6 rfl rfl
                go_simp
                refine (HVD.out ws).mono ?_
                rintro e wm ⟨rfl, hb⟩
                exact hK _ _ hb (⟨slot_kept (hS.1) (hb), slot_kept (hS.2.1) (hb), (hS.2.2).trans (Below.mono (hb) (hS.2.2).size)⟩) rfl
              refine List.forall_mem_cons.2 ⟨?_, ?_⟩
              · refine SlotStep.plain rfl rfl rfl ?_
                intro tm ws hsame hS hg K hK
                obtain ⟨v7, e7, rfl⟩ := hg 1 (by kernel_rfl) _ 7 rfl rfl
                go_simp
                exact hK _ _ (Below.refl _ _) hS rfl
              refine List.forall_mem_cons.2 ⟨?_, ?_⟩
              · refine SlotStep.plain rfl rfl rfl ?_
                intro tm ws hsame hS hg K hK
                obtain ⟨v8, e8, rfl⟩ := hg 2 (by kernel_rfl) _ 8 rfl rfl
                go_simp
                exact hK _ _ (Below.refl _ _) hS rfl
              refine List.forall_mem_cons.2 ⟨?_, ?_⟩
              · refine SlotStep.guardedNot rfl rfl 3 rfl rfl (by kernel_rfl) (fun _ _ h => h) ?_
                intro tm ws hsame hS hg K hK
                have e3 : tm[3]? = some (.pointer (some ⟨w.heap.size, 0, none⟩)) := hsame.2 3 rfl
                go_simp
                exact hK _ _ (Below.refl _ _) hS rfl
              refine List.forall_mem_cons.2 ⟨?_, ?_⟩
              · refine SlotStep.guardedNot rfl rfl 3 rfl rfl (by kernel_rfl) (fun _ _ h => h) ?_
                intro tm ws hsame hS hg K hK
                obtain ⟨v10, e10, rfl⟩ := hg 4 (by kernel_rfl) _ 10 rfl rfl
                obtain ⟨k0, k1, k2, k3⟩ := slot4 (hS.1)
                go_simp
                exact hK _ _ (Below.refl _ _) hS rfl
              refine List.forall_mem_cons.2 ⟨?_, ?_⟩
              · refine SlotStep.guardedNot rfl rfl 3 rfl rfl (by kernel_rfl) (fun _ _ h => h) ?_
                intro tm ws hsame hS hg K hK
                obtain ⟨v11, e11, rfl⟩ := hg 5 (by kernel_rfl) _ 11 rfl rfl
                go_simp
                exact hK _ _ (Below.refl _ _) hS rfl
              refine List.forall_mem_cons.2 ⟨?_, ?_⟩
              · refine SlotStep.guardedNot rfl rfl 3 rfl rfl (by kernel_rfl) (fun _ _ h => h) ?_
                intro tm ws hsame hS hg K hK
                obtain ⟨v12, e12, rfl⟩ := hg 6 (by kernel_rfl) _ 12 rfl rfl
                go_simp
                exact hK _ _ (Below.refl _ _) hS rfl
              refine List.forall_mem_cons.2 ⟨?_, ?_⟩
              · exact SlotStep.skip rfl rfl 7 true rfl rfl (by kernel_rfl) (fun _ _ h => h) (fun _ => rfl)
              refine List.forall_mem_cons.2 ⟨?_, ?_⟩
              · exact SlotStep.skip rfl rfl 7 true rfl rfl (by kernel_rfl) (fun _ _ h => h) (fun _ => rfl)
              refine List.forall_mem_cons.2 ⟨?_, ?_⟩
              · exact SlotStep.skip rfl rfl 7 true rfl rfl (by kernel_rfl) (fun _ _ h => h) (fun _ => rfl)
              refine List.forall_mem_cons.2 ⟨?_, ?_⟩
              · exact SlotStep.skip rfl rfl 7 true rfl rfl (by kernel_rfl) (fun _ _ h => h) (fun _ => rfl)
              refine List.forall_mem_cons.2 ⟨?_, ?_⟩
              · refine SlotStep.guardedNot rfl rfl 3 rfl rfl (by kernel_rfl) (fun _ _ h => h) ?_
                intro tm ws hsame hS hg K hK
                obtain ⟨v13, e13, rfl⟩ := hg 7 (by kernel_rfl) _ 13 rfl rfl
                obtain ⟨v17, e17, rfl⟩ := hg 11 (by kernel_rfl) _ 17 rfl rfl
                go_simp
                exact hK _ _ (Below.refl _ _) hS rfl
              refine List.forall_mem_cons.2 ⟨?_, ?_⟩
              · refine SlotStep.plain rfl rfl rfl ?_
                intro tm ws hsame hS hg K hK
                obtain ⟨v9, e9, rfl⟩ := hg 3 (by kernel_rfl) _ 9 rfl rfl
                obtain ⟨v18, e18, rfl⟩ := hg 12 (by kernel_rfl) _ 18 rfl rfl
                go_simp
                exact hK _ _ (Below.refl _ _) hS rfl
              refine List.forall_mem_cons.2 ⟨?_, ?_⟩
              · refine SlotStep.plain rfl rfl rfl ?_
                intro tm ws hsame hS hg K hK
                obtain ⟨v19, e19, rfl⟩ := hg 13 (by kernel_rfl) _ 19 rfl rfl
                go_simp
                exact hK _ _ (Below.refl _ _) hS rfl
              refine List.forall_mem_cons.2 ⟨?_, ?_⟩
              · refine SlotStep.guardedNot rfl rfl 14 rfl rfl (by kernel_rfl) (fun _ _ h => h) ?_
                intro tm ws hsame hS hg K hK
                have e3 : tm[3]? = some (.pointer (some ⟨w.heap.size, 0, none⟩)) := hsame.2 3 rfl
                go_simp
                exact hK _ _ (Below.refl _ _) hS rfl
              refine List.forall_mem_cons.2 ⟨?_, ?_⟩
              · refine SlotStep.guardedNot rfl rfl 14 rfl rfl (by kernel_rfl) (fun _ _ h => h) ?_
                intro tm ws hsame hS hg K hK
                obtain ⟨v21, e21, rfl⟩ := hg 15 (by kernel_rfl) _ 21 rfl rfl
                obtain ⟨k0, k1, k2, k3⟩ := slot4 (hS.1)
                go_simp
                exact hK _ _ (Below.refl _ _) hS rfl
              refine List.forall_mem_cons.2 ⟨?_, ?_⟩
              · refine SlotStep.guardedNot rfl rfl 14 rfl rfl (by kernel_rfl) (fun _ _ h => h) ?_
                intro tm ws hsame hS hg K hK
                obtain ⟨v22, e22, rfl⟩ := hg 16 (by kernel_rfl) _ 22 rfl rfl
                go_simp
                exact hK _ _ (Below.refl _ _) hS rfl
              refine List.forall_mem_cons.2 ⟨?_, ?_⟩
              · refine SlotStep.guardedNot rfl rfl 14 rfl rfl (by kernel_rfl) (fun _ _ h => h) ?_
                intro tm ws hsame hS hg K hK
                obtain ⟨v23, e23, rfl⟩ := hg 17 (by kernel_rfl) _ 23 rfl rfl
                go_simp
                exact hK _ _ (Below.refl _ _) hS rfl
              refine List.forall_mem_cons.2 ⟨?_, ?_⟩
              · refine SlotStep.guarded rfl rfl 18 rfl rfl (by kernel_rfl) (fun _ _ h => h) ?_
                intro tm ws hsame hS hg K hK
                have e3 : tm[3]? = some (.pointer (some ⟨w.heap.size, 0, none⟩)) := hsame.2 3 rfl
                go_simp
                exact hK _ _ (Below.refl _ _) hS rfl
              refine List.forall_mem_cons.2 ⟨?_, ?_⟩
              · refine SlotStep.guarded rfl rfl 18 rfl rfl (by kernel_rfl) (fun _ _ h => h) ?_
                intro tm ws hsame hS hg K hK
                obtain ⟨v25, e25, rfl⟩ := hg 19 (by kernel_rfl) _ 25 rfl rfl
                obtain ⟨k0, k1, k2, k3⟩ := slot4 (hS.1)
                go_simp
                exact hK _ _ (Below.refl _ _) hS rfl
              refine List.forall_mem_cons.2 ⟨?_, ?_⟩
              · refine SlotStep.guarded rfl rfl 18 rfl rfl (by kernel_rfl) (fun _ _ h => h) ?_
                intro tm ws hsame hS hg K hK
                have e0 : tm[0]? = some (.pointer (some ⟨g, 0, none⟩)) := hsame.2 0 rfl
                go_simp
                exact hK _ _ (Below.refl _ _) hS rfl
              refine List.forall_mem_cons.2 ⟨?_, ?_⟩
              · refine SlotStep.guarded rfl rfl 18 rfl rfl (by kernel_rfl) (fun _ _ h => h) ?_
                intro tm ws hsame hS hg K hK
                obtain ⟨v27, e27, rfl⟩ := hg 21 (by kernel_rfl) _ 27 rfl rfl
                go_simp
                exact hK _ _ (Below.refl _ _) hS rfl
              refine List.forall_mem_cons.2 ⟨?_, ?_⟩
              · refine SlotStep.guarded rfl rfl 18 rfl rfl (by kernel_rfl) (fun _ _ h => h) ?_
                intro tm ws hsame hS hg K hK
                obtain ⟨v28, e28, rfl⟩ := hg 22 (by kernel_rfl) _ 28 rfl rfl
                go_simp
                exact hK _ _ (Below.refl _ _) hS rfl
              refine List.forall_mem_cons.2 ⟨?_, ?_⟩
              · refine SlotStep.guarded rfl rfl 18 rfl rfl (by kernel_rfl) (fun _ _ h => h) ?_
                intro tm ws hsame hS hg K hK
                obtain ⟨v29, e29, rfl⟩ := hg 23 (by kernel_rfl) _ 29 rfl rfl
                obtain ⟨k0, k1, -, -⟩ := slot2 (hS.2.1)
                go_simp
                exact hK _ _ (Below.refl _ _) hS rfl
              refine List.forall_mem_cons.2 ⟨?_, ?_⟩
              · refine SlotStep.guarded rfl rfl 18 rfl rfl (by kernel_rfl) (fun _ _ h => h) ?_
                intro tm ws hsame hS hg K hK
                obtain ⟨v30, e30, rfl⟩ := hg 24 (by kernel_rfl) _ 30 rfl rfl
                go_simp
                exact hK _ _ (Below.refl _ _) hS rfl
              refine List.forall_mem_cons.2 ⟨?_, ?_⟩
              · refine SlotStep.guarded rfl rfl 18 rfl rfl (by kernel_rfl) (fun _ _ h => h) ?_
                intro tm ws hsame hS hg K hK
                obtain ⟨v26, e26, rfl⟩ := hg 20 (by kernel_rfl) _ 26 rfl rfl
                obtain ⟨v31, e31, rfl⟩ := hg 25 (by kernel_rfl) _ 31 rfl rfl
                go_simp
                exact hK _ _ (Below.refl _ _) hS rfl
              refine List.forall_mem_cons.2 ⟨?_, ?_⟩
              · refine SlotStep.guarded rfl rfl 18 rfl rfl (by kernel_rfl) (fun _ _ h => h) ?_
                intro tm ws hsame hS hg K hK
                obtain ⟨v32, e32, rfl⟩ := hg 26 (by kernel_rfl) _ 32 rfl rfl
                go_simp
                exact hK _ _ (Below.refl _ _) hS rfl
              refine List.forall_mem_cons.2 ⟨?_, ?_⟩
              · refine SlotStep.guardedNot rfl rfl 27 rfl rfl (by kernel_rfl) (fun _ _ h => h) ?_
                intro tm ws hsame hS hg K hK
                have e3 : tm[3]? = some (.pointer (some ⟨w.heap.size, 0, none⟩)) := hsame.2 3 rfl
                go_simp
                exact hK _ _ (Below.refl _ _) hS rfl
              refine List.forall_mem_cons.2 ⟨?_, ?_⟩
              · refine SlotStep.guardedNot rfl rfl 27 rfl rfl (by kernel_rfl) (fun _ _ h => h) ?_
                intro tm ws hsame hS hg K hK
                obtain ⟨v34, e34, rfl⟩ := hg 28 (by kernel_rfl) _ 34 rfl rfl
                obtain ⟨k0, k1, k2, k3⟩ := slot4 (hS.1)
                go_simp
                exact hK _ _ (Below.refl _ _) hS rfl
              refine List.forall_mem_cons.2 ⟨?_, ?_⟩
              · refine SlotStep.guardedNot rfl rfl 27 rfl rfl (by kernel_rfl) (fun _ _ h => h) ?_
                intro tm ws hsame hS hg K hK
                obtain ⟨v35, e35, rfl⟩ := hg 29 (by kernel_rfl) _ 35 rfl rfl
                go_simp
                exact hK _ _ (Below.refl _ _) hS rfl
              refine List.forall_mem_cons.2 ⟨?_, ?_⟩
              · refine SlotStep.guardedNot rfl rfl 27 rfl rfl (by kernel_rfl) (fun _ _ h => h) ?_
                intro tm ws hsame hS hg K hK
                obtain ⟨v36, e36, rfl⟩ := hg 30 (by kernel_rfl) _ 36 rfl rfl
                go_simp
                exact hK _ _ (Below.refl _ _) hS rfl
              refine List.forall_mem_cons.2 ⟨?_, ?_⟩
              · refine SlotStep.guarded rfl rfl 31 rfl rfl (by kernel_rfl) (fun _ _ h => h) ?_
                intro tm ws hsame hS hg K hK
                have e3 : tm[3]? = some (.pointer (some ⟨w.heap.size, 0, none⟩)) := hsame.2 3 rfl
                go_simp
                exact hK _ _ (Below.refl _ _) hS rfl
              refine List.forall_mem_cons.2 ⟨?_, ?_⟩
              · refine SlotStep.guarded rfl rfl 31 rfl rfl (by kernel_rfl) (fun _ _ h => h) ?_
                intro tm ws hsame hS hg K hK
                obtain ⟨v38, e38, rfl⟩ := hg 32 (by kernel_rfl) _ 38 rfl rfl
                obtain ⟨k0, k1, k2, k3⟩ := slot4 (hS.1)
                go_simp
                exact hK _ _ (Below.refl _ _) hS rfl
              refine List.forall_mem_cons.2 ⟨?_, ?_⟩
              · refine SlotStep.guarded rfl rfl 31 rfl rfl (by kernel_rfl) (fun _ _ h => h) ?_
                intro tm ws hsame hS hg K hK
                have e0 : tm[0]? = some (.pointer (some ⟨g, 0, none⟩)) := hsame.2 0 rfl
                go_simp
                exact hK _ _ (Below.refl _ _) hS rfl
              refine List.forall_mem_cons.2 ⟨?_, ?_⟩
              · refine SlotStep.guarded rfl rfl 31 rfl rfl (by kernel_rfl) (fun _ _ h => h) ?_
                intro tm ws hsame hS hg K hK
                obtain ⟨v40, e40, rfl⟩ := hg 34 (by kernel_rfl) _ 40 rfl rfl
                go_simp
                exact hK _ _ (Below.refl _ _) hS rfl
              refine List.forall_mem_cons.2 ⟨?_, ?_⟩
              · refine SlotStep.guarded rfl rfl 31 rfl rfl (by kernel_rfl) (fun _ _ h => h) ?_
                intro tm ws hsame hS hg K hK
                obtain ⟨v41, e41, rfl⟩ := hg 35 (by kernel_rfl) _ 41 rfl rfl
                go_simp
                exact hK _ _ (Below.refl _ _) hS rfl
              refine List.forall_mem_cons.2 ⟨?_, ?_⟩
              · refine SlotStep.guarded rfl rfl 31 rfl rfl (by kernel_rfl) (fun _ _ h => h) ?_
                intro tm ws hsame hS hg K hK
                obtain ⟨v42, e42, rfl⟩ := hg 36 (by kernel_rfl) _ 42 rfl rfl
                obtain ⟨k0, k1, -, -⟩ := slot2 (hS.2.1)
                go_simp
                exact hK _ _ (Below.refl _ _) hS rfl
              refine List.forall_mem_cons.2 ⟨?_, ?_⟩
              · refine SlotStep.guarded rfl rfl 31 rfl rfl (by kernel_rfl) (fun _ _ h => h) ?_
                intro tm ws hsame hS hg K hK
                obtain ⟨v43, e43, rfl⟩ := hg 37 (by kernel_rfl) _ 43 rfl rfl
                go_simp
                exact hK _ _ (Below.refl _ _) hS rfl
              refine List.forall_mem_cons.2 ⟨?_, ?_⟩
              · refine SlotStep.guarded rfl rfl 31 rfl rfl (by kernel_rfl) (fun _ _ h => h) ?_
                intro tm ws hsame hS hg K hK
                obtain ⟨v39, e39, rfl⟩ := hg 33 (by kernel_rfl) _ 39 rfl rfl
                obtain ⟨v44, e44, rfl⟩ := hg 38 (by kernel_rfl) _ 44 rfl rfl
                go_simp
                exact hK _ _ (Below.refl _ _) hS rfl
              refine List.forall_mem_cons.2 ⟨?_, ?_⟩
              · refine SlotStep.guardedNot rfl rfl 27 rfl rfl (by kernel_rfl) (fun _ _ h => h) ?_
                intro tm ws hsame hS hg K hK
                obtain ⟨v37, e37, rfl⟩ := hg 31 (by kernel_rfl) _ 37 rfl rfl
                obtain ⟨v45, e45, rfl⟩ := hg 39 (by kernel_rfl) _ 45 rfl rfl
                go_simp
                exact hK _ _ (Below.refl _ _) hS rfl
              refine List.forall_mem_cons.2 ⟨?_, ?_⟩
              · refine SlotStep.guarded rfl rfl 18 rfl rfl (by kernel_rfl) (fun _ _ h => h) ?_
                intro tm ws hsame hS hg K hK
                obtain ⟨v33, e33, rfl⟩ := hg 27 (by kernel_rfl) _ 33 rfl rfl
                obtain ⟨v46, e46, rfl⟩ := hg 40 (by kernel_rfl) _ 46 rfl rfl
                go_simp
                exact hK _ _ (Below.refl _ _) hS rfl
              refine List.forall_mem_cons.2 ⟨?_, ?_⟩
              · refine SlotStep.guardedNot rfl rfl 14 rfl rfl (by kernel_rfl) (fun _ _ h => h) ?_
                intro tm ws hsame hS hg K hK
                obtain ⟨v24, e24, rfl⟩ := hg 18 (by kernel_rfl) _ 24 rfl rfl
                obtain ⟨v47, e47, rfl⟩ := hg 41 (by kernel_rfl) _ 47 rfl rfl
                go_simp
                exact hK _ _ (Below.refl _ _) hS rfl
              refine List.forall_mem_cons.2 ⟨?_, ?_⟩
              · refine SlotStep.plain rfl rfl rfl ?_
                intro tm ws hsame hS hg K hK
                obtain ⟨v20, e20, rfl⟩ := hg 14 (by kernel_rfl) _ 20 rfl rfl
                obtain ⟨v48, e48, rfl⟩ := hg 42 (by kernel_rfl) _ 48 rfl rfl
                go_simp
                exact hK _ _ (Below.refl _ _) hS rfl
              exact fun _ h => nomatch h
            case fin9 =>
              intro tm w3 hsame hS hgot
              obtain ⟨u, hu, htm⟩ := hsame.form (by kernel_rfl)
              obtain ⟨v49, e49, rfl⟩ := hgot 43 _ 49 rfl rfl
              have h49 := hu _ _ e49
              have hc1' := hS.1
              have hc2' := hS.2.1
              have hb3 := hS.2.2
              clear hgot hu hsame e49 hS hc1 hc2
              rw [htm]
              clear htm tm
              simp only [List.foldl_cons, List.foldl_nil, List.setIfInBounds_toArray, List.set_cons_zero, List.set_cons_succ, h49]
              clear h49
              go_wp2_with fail
              go_ret
              exact HR.out w3 (hb1.trans (hb3.mono hb1.size))
          · have hb2 : decide ((n : Int) ≤ b) = false := decide_eq_false hB
            have HG : Hid (nbad n (k, v, a, b) = false) := Lib.hid (by unfold nbad; rw [hval]; simp [hk]; omega)
            clear hval ha hB
            clear HBAD
            go_enter Tryd.func7, Tryd.ntmps7
            go_upto_region 1 with fail
            refine wp_region_slots (by kernel_rfl) [6, 7, 8, 9, 10, 11, 12, 13, 14, 15, 16, 17, 18, 19, 20, 21, 22, 23, 24, 25, 26, 27, 28, 29, 30, 31, 32, 33, 34, 35, 36, 37, 38, 39, 40, 41, 42, 43, 44, 45, 46, 47, 48, 49] (fun w' => (w'.heap[w.heap.size]? = some (.cells #[.int .i64 k, .float .f64 v, .int .i64 a, .int .i64 b] 43 (0, 0))) ∧ (w'.heap[g]? = some (.cells #[.slice va n vc, .bool s] 28 (0, 0))) ∧ (Below w1.heap.size w1 w')) (Said [Is (.agg #[.int .i64 k, .float .f64 v, .int .i64 a, .int .i64 b]), Is (.bool true), Is (.bool false), Is (.bool false), Is (.pointer (some ⟨w.heap.size, 0, none⟩)), Is (.int .i64 k), Is (.bool false), Is (.bool false), Is undef, Is undef, Is undef, Is undef, Is (.bool false), Is (.bool false), Is (.bool false), Is (.pointer (some ⟨w.heap.size, 0, none⟩)), Is (.int .i64 k), Is (.bool true), Is (.bool true), Is (.pointer (some ⟨w.heap.size, 2, none⟩)), Is (.int .i64 a), Is (.pointer (some ⟨g, 0, none⟩)), Is (.pointer (some ⟨g, 0, none⟩)), Is (.pointer (some ⟨g, 0, none⟩)), Is (.slice va n vc), Is (.int .i64 n), Is (.bool false), Is (.bool false), Is (.pointer (some ⟨w.heap.size, 0, none⟩)), Is (.int .i64 k), Is (.bool true), Is (.bool true), Is (.pointer (some ⟨w.heap.size, 3, none⟩)), Is (.int .i64 b), Is (.pointer (some ⟨g, 0, none⟩)), Is (.pointer (some ⟨g, 0, none⟩)), Is (.pointer (some ⟨g, 0, none⟩)), Is (.slice va n vc), Is (.int .i64 n), Is (.bool false), Is (.bool false), Is (.bool false), Is (.bool false), Is (.bool false)]) (by kernel_rfl) (by kernel_rfl) (by kernel_rfl) (by kernel_rfl) (Said.keep ?keep10) ⟨slot_kept hc1 (bdn (Below.refl _ _) 1), slot_kept hc2 (bdn (Below.refl _ _) 1), bdn (Below.refl _ _) 1⟩ (l := [0, 1, 2, 3, 4, 5, 6, 7, 8, 9, 10, 11, 12, 13, 14, 15, 16, 17, 18, 19, 20, 21, 22, 23, 24, 25, 26, 27, 28, 29, 30, 31, 32, 33, 34, 35, 36, 37, 38, 39, 40, 41, 42, 43]) (by kernel_rfl) ?step10 ?fin10
            case keep10 =>
              refine List.forall_mem_cons.2 ⟨Is.keeps _, ?_⟩
              refine List.forall_mem_cons.2 ⟨Is.keeps _, ?_⟩
              refine List.forall_mem_cons.2 ⟨Is.keeps _, ?_⟩
              refine List.forall_mem_cons.2 ⟨Is.keeps _, ?_⟩
              refine List.forall_mem_cons.2 ⟨Is.keeps _, ?_⟩
              refine List.forall_mem_cons.2 ⟨Is.keeps _, ?_⟩
              refine List.forall_mem_cons.2 ⟨Is.keeps _, ?_⟩
              refine List.forall_mem_cons.2 ⟨Is.keeps _, ?_⟩
              refine List.forall_mem_cons.2 ⟨Is.keeps _, ?_⟩
              refine List.forall_mem_cons.2 ⟨Is.keeps _, ?_⟩
              refine List.forall_mem_cons.2 ⟨Is.keeps _, ?_⟩
              refine List.forall_mem_cons.2 ⟨Is.keeps _, ?_⟩
              refine List.forall_mem_cons.2 ⟨Is.keeps _, ?_⟩
              refine List.forall_mem_cons.2 ⟨Is.keeps _, ?_⟩
              refine List.forall_mem_cons.2 ⟨Is.keeps _, ?_⟩
              refine List.forall_mem_cons.2 ⟨Is.keeps _, ?_⟩
              refine List.forall_mem_cons.2 ⟨Is.keeps _, ?_⟩
              refine List.forall_mem_cons.2 ⟨Is.keeps _, ?_⟩
              refine List.forall_mem_cons.2 ⟨Is.keeps _, ?_⟩
              refine List.forall_mem_cons.2 ⟨Is.keeps _, ?_⟩
              refine List.forall_mem_cons.2 ⟨Is.keeps _, ?_⟩
              refine List.forall_mem_cons.2 ⟨Is.keeps _, ?_⟩
              refine List.forall_mem_cons.2 ⟨Is.keeps _, ?_⟩
              refine List.forall_mem_cons.2 ⟨Is.keeps _, ?_⟩
              refine List.forall_mem_cons.2 ⟨Is.keeps _, ?_⟩
              refine List.forall_mem_cons.2 ⟨Is.keeps _, ?_⟩
              refine List.forall_mem_cons.2 ⟨Is.keeps _, ?_⟩
              refine List.forall_mem_cons.2 ⟨Is.keeps _, ?_⟩
              refine List.forall_mem_cons.2 ⟨Is.keeps _, ?_⟩
              refine List.forall_mem_cons.2 ⟨Is.keeps _, ?_⟩
              refine List.forall_mem_cons.2 ⟨Is.keeps _, ?_⟩
              refine List.forall_mem_cons.2 ⟨Is.keeps _, ?_⟩
              refine List.forall_mem_cons.2 ⟨Is.keeps _, ?_⟩
              refine List.forall_mem_cons.2 ⟨Is.keeps _, ?_⟩
              refine List.forall_mem_cons.2 ⟨Is.keeps _, ?_⟩
              refine List.forall_mem_cons.2 ⟨Is.keeps _, ?_⟩
              refine List.forall_mem_cons.2 ⟨Is.keeps _, ?_⟩
              refine List.forall_mem_cons.2 ⟨Is.keeps _, ?_⟩
              refine List.forall_mem_cons.2 ⟨Is.keeps _, ?_⟩
              refine List.forall_mem_cons.2 ⟨Is.keeps _, ?_⟩
              refine List.forall_mem_cons.2 ⟨Is.keeps _, ?_⟩
              refine List.forall_mem_cons.2 ⟨Is.keeps _, ?_⟩
              refine List.forall_mem_cons.2 ⟨Is.keeps _, ?_⟩
              refine List.forall_mem_cons.2 ⟨Is.keeps _, ?_⟩
              exact fun _ h => nomatch h
            case step10 =>
              refine List.forall_mem_cons.2 ⟨?_, ?_⟩
              · refine SlotStep.plain rfl rfl rfl ?_
                intro tm ws hsame hS hg K hK
                have e3 : tm[3]? = some (.pointer (some ⟨w.heap.size, 0, none⟩)) := hsame.2 3 rfl
                obtain ⟨k0, k1, k2, k3⟩ := slot4 (hS.1)
                go_simp
                exact hK _ _ (Below.refl _ _) hS rfl
              refine List.forall_mem_cons.2 ⟨?_, ?_⟩
              · refine SlotStep.plain rfl rfl rfl ?_
                intro tm ws hsame hS hg K hK
                obtain ⟨v6, e6, rfl⟩ := hg 0 (by kernel_rfl) _ 6 rfl rfl
                go_simp
                refine (HVD.out ws).mono ?_
                rintro e wm ⟨rfl, hb⟩
                exact hK _ _ hb (⟨slot_kept (hS.1) (hb), slot_kept (hS.2.1) (hb), (hS.2.2).trans (Below.mono (hb) (hS.2.2).size)⟩) rfl
              refine List.forall_mem_cons.2 ⟨?_, ?_⟩
              · refine SlotStep.plain rfl rfl rfl ?_
                intro tm ws hsame hS hg K hK
                obtain ⟨v7, e7, rfl⟩ := hg 1 (by kernel_rfl) _ 7 rfl rfl
                go_simp
                exact hK _ _ (Below.refl _ _) hS rfl
              refine List.forall_mem_cons.2 ⟨?_, ?_⟩
              · refine SlotStep.plain rfl rfl rfl ?_
                intro tm ws hsame hS hg K hK
                obtain ⟨v8, e8, rfl⟩ := hg 2 (by kernel_rfl) _ 8 rfl rfl
                go_simp
                exact hK _ _ (Below.refl _ _) hS rfl
              refine List.forall_mem_cons.2 ⟨?_, ?_⟩
              · refine SlotStep.guardedNot rfl rfl 3 rfl rfl (by kernel_rfl) (fun _ _ h => h) ?_
                intro tm ws hsame hS hg K hK
                have e3 : tm[3]? = some (.pointer (some ⟨w.heap.size, 0, none⟩)) := hsame.2 3 rfl
                go_simp
                exact hK _ _ (Below.refl _ _) hS rfl
              refine List.forall_mem_cons.2 ⟨?_, ?_⟩
              · refine SlotStep.guardedNot rfl rfl 3 rfl rfl (by kernel_rfl) (fun _ _ h => h) ?_
                intro tm ws hsame hS hg K hK
                obtain ⟨v10, e10, rfl⟩ := hg 4 (by kernel_rfl) _ 10 rfl rfl
                obtain ⟨k0, k1, k2, k3⟩ := slot4 (hS.1)
                go_simp
                exact hK _ _ (Below.refl _ _) hS rfl
              refine List.forall_mem_cons.2 ⟨?_, ?_⟩
              · refine SlotStep.guardedNot rfl rfl 3 rfl rfl (by kernel_rfl) (fun _ _ h => h) ?_
                intro tm ws hsame hS hg K hK
                obtain ⟨v11, e11, rfl⟩ := hg 5 (by kernel_rfl) _ 11 rfl rfl
                go_simp
                exact hK _ _ (Below.refl _ _) hS rfl
              refine List.forall_mem_cons.2 ⟨?_, ?_⟩
              · refine SlotStep.guardedNot rfl rfl 3 rfl rfl (by kernel_rfl) (fun _ _ h => h) ?_
                intro tm ws hsame hS hg K hK
                obtain ⟨v12, e12, rfl⟩ := hg 6 (by kernel_rfl) _ 12 rfl rfl
                go_simp
                exact hK _ _ (Below.refl _ _) hS rfl
              refine List.forall_mem_cons.2 ⟨?_, ?_⟩
              · exact SlotStep.skip rfl rfl 7 true rfl rfl (by kernel_rfl) (fun _ _ h => h) (fun _ => rfl)
              refine List.forall_mem_cons.2 ⟨?_, ?_⟩
              · exact SlotStep.skip rfl rfl 7 true rfl rfl (by kernel_rfl) (fun _ _ h => h) (fun _ => rfl)
              refine List.forall_mem_cons.2 ⟨?_, ?_⟩
              · exact SlotStep.skip rfl rfl 7 true rfl rfl (by kernel_rfl) (fun _ _ h => h) (fun _ => rfl)
              refine List.forall_mem_cons.2 ⟨?_, ?_⟩
              · exact SlotStep.skip rfl rfl 7 true rfl rfl (by kernel_rfl) (fun _ _ h => h) (fun _ => rfl)
              refine List.forall_mem_cons.2 ⟨?_, ?_⟩
              · refine SlotStep.guardedNot rfl rfl 3 rfl rfl (by kernel_rfl) (fun _ _ h => h) ?_
                intro tm ws hsame hS hg K hK
                obtain ⟨v13, e13, rfl⟩ := hg 7 (by kernel_rfl) _ 13 rfl rfl
                obtain ⟨v17, e17, rfl⟩ := hg 11 (by kernel_rfl) _ 17 rfl rfl
                go_simp
                exact hK _ _ (Below.refl _ _) hS rfl
              refine List.forall_mem_cons.2 ⟨?_, ?_⟩
              · refine SlotStep.plain rfl rfl rfl ?_
                intro tm ws hsame hS hg K hK
                obtain ⟨v9, e9, rfl⟩ := hg 3 (by kernel_rfl) _ 9 rfl rfl
                obtain ⟨v18, e18, rfl⟩ := hg 12 (by kernel_rfl) _ 18 rfl rfl
                go_simp
                exact hK _ _ (Below.refl _ _) hS rfl
              refine List.forall_mem_cons.2 ⟨?_, ?_⟩
              · refine SlotStep.plain rfl rfl rfl ?_
                intro tm ws hsame hS hg K hK
                obtain ⟨v19, e19, rfl⟩ := hg 13 (by kernel_rfl) _ 19 rfl rfl
                go_simp
                exact hK _ _ (Below.refl _ _) hS rfl
              refine List.forall_mem_cons.2 ⟨?_, ?_⟩
              · refine SlotStep.guardedNot rfl rfl 14 rfl rfl (by kernel_rfl) (fun _ _ h => h) ?_
                intro tm ws hsame hS hg K hK
                have e3 : tm[3]? = some (.pointer (some ⟨w.heap.size, 0, none⟩)) := hsame.2 3 rfl
                go_simp
                exact hK _ _ (Below.refl _ _) hS rfl
              refine List.forall_mem_cons.2 ⟨?_, ?_⟩
              · refine SlotStep.guardedNot rfl rfl 14 rfl rfl (by kernel_rfl) (fun _ _ h => h) ?_
                intro tm ws hsame hS hg K hK
                obtain ⟨v21, e21, rfl⟩ := hg 15 (by kernel_rfl) _ 21 rfl rfl
                obtain ⟨k0, k1, k2, k3⟩ := slot4 (hS.1)
                go_simp
                exact hK _ _ (Below.refl _ _) hS rfl
              refine List.forall_mem_cons.2 ⟨?_, ?_⟩
              · refine SlotStep.guardedNot rfl rfl 14 rfl rfl (by kernel_rfl) (fun _ _ h => h) ?_
                intro tm ws hsame hS hg K hK
                obtain ⟨v22, e22, rfl⟩ := hg 16 (by kernel_rfl) _ 22 rfl rfl
                go_simp
                exact hK _ _ (Below.refl _ _) hS rfl
              refine List.forall_mem_cons.2 ⟨?_, ?_⟩
              · refine SlotStep.guardedNot rfl rfl 14 rfl rfl (by kernel_rfl) (fun _ _ h => h) ?_
                intro tm ws hsame hS hg K hK
                obtain ⟨v23, e23, rfl⟩ := hg 17 (by kernel_rfl) _ 23 rfl rfl
                go_simp
                exact hK _ _ (Below.refl _ _) hS rfl
              refine List.forall_mem_cons.2 ⟨?_, ?_⟩
              · refine SlotStep.guarded rfl rfl 18 rfl rfl (by kernel_rfl) (fun _ _ h => h) ?_
                intro tm ws hsame hS hg K hK
                have e3 : tm[3]? = some (.pointer (some ⟨w.heap.size, 0, none⟩)) := hsame.2 3 rfl
                go_simp
                exact hK _ _ (Below.refl _ _) hS rfl
              refine List.forall_mem_cons.2 ⟨?_, ?_⟩
              · refine SlotStep.guarded rfl rfl 18 rfl rfl (by kernel_rfl) (fun _ _ h => h) ?_
                intro tm ws hsame hS hg K hK
                obtain ⟨v25, e25, rfl⟩ := hg 19 (by kernel_rfl) _ 25 rfl rfl
                obtain ⟨k0, k1, k2, k3⟩ := slot4 (hS.1)
                go_simp
                exact hK _ _ (Below.refl _ _) hS rfl
              refine List.forall_mem_cons.2 ⟨?_, ?_⟩
              · refine SlotStep.guarded rfl rfl 18 rfl rfl (by kernel_rfl) (fun _ _ h => h) ?_
                intro tm ws hsame hS hg K hK
                have e0 : tm[0]? = some (.pointer (some ⟨g, 0, none⟩)) := hsame.2 0 rfl
                go_simp
                exact hK _ _ (Below.refl _ _) hS rfl
              refine List.forall_mem_cons.2 ⟨?_, ?_⟩
              · refine SlotStep.guarded rfl rfl 18 rfl rfl (by kernel_rfl) (fun _ _ h => h) ?_
                intro tm ws hsame hS hg K hK
                obtain ⟨v27, e27, rfl⟩ := hg 21 (by kernel_rfl) _ 27 rfl rfl
                go_simp
                exact hK _ _ (Below.refl _ _) hS rfl
              refine List.forall_mem_cons.2 ⟨?_, ?_⟩
              · refine SlotStep.guarded rfl rfl 18 rfl rfl (by kernel_rfl) (fun _ _ h => h) ?_
                intro tm ws hsame hS hg K hK
                obtain ⟨v28, e28, rfl⟩ := hg 22 (by kernel_rfl) _ 28 rfl rfl
                go_simp
                exact hK _ _ (Below.refl _ _) hS rfl
              refine List.forall_mem_cons.2 ⟨?_, ?_⟩
              · refine SlotStep.guarded rfl rfl 18 rfl rfl (by kernel_rfl) (fun _ _ h => h) ?_
                intro tm ws hsame hS hg K hK
                obtain ⟨v29, e29, rfl⟩ := hg 23 (by kernel_rfl) _ 29 rfl rfl
                obtain ⟨k0, k1, -, -⟩ := slot2 (hS.2.1)
                go_simp
                exact hK _ _ (Below.refl _ _) hS rfl
              refine List.forall_mem_cons.2 ⟨?_, ?_⟩
              · refine SlotStep.guarded rfl rfl 18 rfl rfl (by kernel_rfl) (fun _ _ h => h) ?_
                intro tm ws hsame hS hg K hK
                obtain ⟨v30, e30, rfl⟩ := hg 24 (by kernel_rfl) _ 30 rfl rfl
                go_simp
                exact hK _ _ (Below.refl _ _) hS rfl
              refine List.forall_mem_cons.2 ⟨?_, ?_⟩
              · refine SlotStep.guarded rfl rfl 18 rfl rfl (by kernel_rfl) (fun _ _ h => h) ?_
                intro tm ws hsame hS hg K hK
                obtain ⟨v26, e26, rfl⟩ := hg 20 (by kernel_rfl) _ 26 rfl rfl
                obtain ⟨v31, e31, rfl⟩ := hg 25 (by kernel_rfl) _ 31 rfl rfl
                go_simp
                exact hK _ _ (Below.refl _ _) hS rfl
              refine List.forall_mem_cons.2 ⟨?_, ?_⟩
              · refine SlotStep.guarded rfl rfl 18 rfl rfl (by kernel_rfl) (fun _ _ h => h) ?_
                intro tm ws hsame hS hg K hK
                obtain ⟨v32, e32, rfl⟩ := hg 26 (by kernel_rfl) _ 32 rfl rfl
                go_simp
                exact hK _ _ (Below.refl _ _) hS rfl
              refine List.forall_mem_cons.2 ⟨?_, ?_⟩
              · refine SlotStep.guardedNot rfl rfl 27 rfl rfl (by kernel_rfl) (fun _ _ h => h) ?_
                intro tm ws hsame hS hg K hK
                have e3 : tm[3]? = some (.pointer (some ⟨w.heap.size, 0, none⟩)) := hsame.2 3 rfl
                go_simp
                exact hK _ _ (Below.refl _ _) hS rfl
              refine List.forall_mem_cons.2 ⟨?_, ?_⟩
              · refine SlotStep.guardedNot rfl rfl 27 rfl rfl (by kernel_rfl) (fun _ _ h => h) ?_
                intro tm ws hsame hS hg K hK
                obtain ⟨v34, e34, rfl⟩ := hg 28 (by kernel_rfl) _ 34 rfl rfl
                obtain ⟨k0, k1, k2, k3⟩ := slot4 (hS.1)
                go_simp
                exact hK _ _ (Below.refl _ _) hS rfl
              refine List.forall_mem_cons.2 ⟨?_, ?_⟩
              · refine SlotStep.guardedNot rfl rfl 27 rfl rfl (by kernel_rfl) (fun _ _ h => h) ?_
                intro tm ws hsame hS hg K hK
                obtain ⟨v35, e35, rfl⟩ := hg 29 (by kernel_rfl) _ 35 rfl rfl
                go_simp
                exact hK _ _ (Below.refl _ _) hS rfl
              refine List.forall_mem_cons.2 ⟨?_, ?_⟩
              · refine SlotStep.guardedNot rfl rfl 27 rfl rfl (by kernel_rfl) (fun _ _ h => h) ?_
                intro tm ws hsame hS hg K hK
                obtain ⟨v36, e36, rfl⟩ := hg 30 (by kernel_rfl) _ 36 rfl rfl
                go_simp
                exact hK _ _ (Below.refl _ _) hS rfl
              refine List.forall_mem_cons.2 ⟨?_, ?_⟩
              · refine SlotStep.guarded rfl rfl 31 rfl rfl (by kernel_rfl) (fun _ _ h => h) ?_
                intro tm ws hsame hS hg K hK
                have e3 : tm[3]? = some (.pointer (some ⟨w.heap.size, 0, none⟩)) := hsame.2 3 rfl
                go_simp
                exact hK _ _ (Below.refl _ _) hS rfl
              refine List.forall_mem_cons.2 ⟨?_, ?_⟩
              · refine SlotStep.guarded rfl rfl 31 rfl rfl (by kernel_rfl) (fun _ _ h => h) ?_
                intro tm ws hsame hS hg K hK
                obtain ⟨v38, e38, rfl⟩ := hg 32 (by kernel_rfl) _ 38 rfl rfl
                obtain ⟨k0, k1, k2, k3⟩ := slot4 (hS.1)
                go_simp
                exact hK _ _ (Below.refl _ _) hS rfl
              refine List.forall_mem_cons.2 ⟨?_, ?_⟩
              · refine SlotStep.guarded rfl rfl 31 rfl rfl (by kernel_rfl) (fun _ _ h => h) ?_
                intro tm ws hsame hS hg K hK
                have e0 : tm[0]? = some (.pointer (some ⟨g, 0, none⟩)) := hsame.2 0 rfl
                go_simp
                exact hK _ _ (Below.refl _ _) hS rfl
              refine List.forall_mem_cons.2 ⟨?_, ?_⟩
              · refine SlotStep.guarded rfl rfl 31 rfl rfl (by kernel_rfl) (fun _ _ h => h) ?_
                intro tm ws hsame hS hg K hK
                obtain ⟨v40, e40, rfl⟩ := hg 34 (by kernel_rfl) _ 40 rfl rfl
                go_simp
                exact hK _ _ (Below.refl _ _) hS rfl
              refine List.forall_mem_cons.2 ⟨?_, ?_⟩
              · refine SlotStep.guarded rfl rfl 31 rfl rfl (by kernel_rfl) (fun _ _ h => h) ?_
                intro tm ws hsame hS hg K hK
                obtain ⟨v41, e41, rfl⟩ := hg 35 (by kernel_rfl) _ 41 rfl rfl
                go_simp
                exact hK _ _ (Below.refl _ _) hS rfl
              refine List.forall_mem_cons.2 ⟨?_, ?_⟩
              · refine SlotStep.guarded rfl rfl 31 rfl rfl (by kernel_rfl) (fun _ _ h => h) ?_
                intro tm ws hsame hS hg K hK
                obtain ⟨v42, e42, rfl⟩ := hg 36 (by kernel_rfl) _ 42 rfl rfl
                obtain ⟨k0, k1, -, -⟩ := slot2 (hS.2.1)
                go_simp
                exact hK _ _ (Below.refl _ _) hS rfl
              refine List.forall_mem_cons.2 ⟨?_, ?_⟩
              · refine SlotStep.guarded rfl rfl 31 rfl rfl (by kernel_rfl) (fun _ _ h => h) ?_
                intro tm ws hsame hS hg K hK
                obtain ⟨v43, e43, rfl⟩ := hg 37 (by kernel_rfl) _ 43 rfl rfl
                go_simp
                exact hK _ _ (Below.refl _ _) hS rfl
              refine List.forall_mem_cons.2 ⟨?_, ?_⟩
              · refine SlotStep.guarded rfl rfl 31 rfl rfl (by kernel_rfl) (fun _ _ h => h) ?_
                intro tm ws hsame hS hg K hK
                obtain ⟨v39, e39, rfl⟩ := hg 33 (by kernel_rfl) _ 39 rfl rfl
                obtain ⟨v44, e44, rfl⟩ := hg 38 (by kernel_rfl) _ 44 rfl rfl
                go_simp
                exact hK _ _ (Below.refl _ _) hS rfl
              refine List.forall_mem_cons.2 ⟨?_, ?_⟩
              · refine SlotStep.guardedNot rfl rfl 27 rfl rfl (by kernel_rfl) (fun _ _ h => h) ?_
                intro tm ws hsame hS hg K hK
                obtain ⟨v37, e37, rfl⟩ := hg 31 (by kernel_rfl) _ 37 rfl rfl
                obtain ⟨v45, e45, rfl⟩ := hg 39 (by kernel_rfl) _ 45 rfl rfl
                go_simp
                exact hK _ _ (Below.refl _ _) hS rfl
              refine List.forall_mem_cons.2 ⟨?_, ?_⟩
              · refine SlotStep.guarded rfl rfl 18 rfl rfl (by kernel_rfl) (fun _ _ h => h) ?_
                intro tm ws hsame hS hg K hK
                obtain ⟨v33, e33, rfl⟩ := hg 27 (by kernel_rfl) _ 33 rfl rfl
                obtain ⟨v46, e46, rfl⟩ := hg 40 (by kernel_rfl) _ 46 rfl rfl
                go_simp
                exact hK _ _ (Below.refl _ _) hS rfl
              refine List.forall_mem_cons.2 ⟨?_, ?_⟩
              · refine SlotStep.guardedNot rfl rfl 14 rfl rfl (by kernel_rfl) (fun _ _ h => h) ?_
                intro tm ws hsame hS hg K hK
                obtain ⟨v24, e24, rfl⟩ := hg 18 (by kernel_rfl) _ 24 rfl rfl
                obtain ⟨v47, e47, rfl⟩ := hg 41 (by kernel_rfl) _ 47 rfl rfl
                go_simp
                exact hK _ _ (Below.refl _ _) hS rfl
              refine List.forall_mem_cons.2 ⟨?_, ?_⟩
              · refine SlotStep.plain rfl rfl rfl ?_
                intro tm ws hsame hS hg K hK
                obtain ⟨v20, e20, rfl⟩ := hg 14 (by kernel_rfl) _ 20 rfl rfl
                obtain ⟨v48, e48, rfl⟩ := hg 42 (by kernel_rfl) _ 48 rfl rfl
                go_simp
                exact hK _ _ (Below.refl _ _) hS rfl
              exact fun _ h => nomatch h
            case fin10 =>
              intro tm w3 hsame hS hgot
              obtain ⟨u, hu, htm⟩ := hsame.form (by kernel_rfl)
              obtain ⟨v49, e49, rfl⟩ := hgot 43 _ 49 rfl rfl
              have h49 := hu _ _ e49
              have hc1' := hS.1
              have hc2' := hS.2.1
              have hb3 := hS.2.2
              clear hgot hu hsame e49 hS hc1 hc2
              rw [htm]
              clear htm tm
              simp only [List.foldl_cons, List.foldl_nil, List.setIfInBounds_toArray, List.set_cons_zero, List.set_cons_succ, h49]
              clear h49
              go_wp2_with fail
              go_loopw [5] (fun i wr => ∃ q : Nat, q ≤ n ∧ i = .int .i64 q ∧ Below w3.heap.size w3 wr ∧ (∀ j : Nat, j < q → l[j]? ≠ some (k, v, a, b)) ∧ (0 < q → s = true)) (fun i _ => n - (intOf i).toNat)
              case atStart => exact ⟨0, Nat.zero_le _, rfl, Below.refl _ _, fun j hj => absurd hj (Nat.not_lt_zero _), fun h => absurd h (Nat.lt_irrefl _)⟩
              case round =>
                obtain ⟨q, hq, rfl, hbr, hno, hs0⟩ := hrel
                have hd1 := slot_kept hc1' hbr
                have hd2 := slot_kept hc2' hbr
                have hb0r := hb1.trans ((hb3.trans (hbr.mono hb3.size)).mono hb1.size)
                obtain ⟨m0, m1, m2, m3⟩ := slot4 hd1
                obtain ⟨p0, p1, p2, p3⟩ := slot2 hd2
                by_cases hlt : q < n
                · by_cases hss : s = true
                  · subst hss
                    have hl0 : l ≠ [] := by intro e; have := HN.out; subst e; simp at this; omega
                    obtain ⟨b0, o0, rfl, -⟩ := HRD.out.some hl0
                    have hrr := HRD.out.below hb0r
                    obtain ⟨x, hx⟩ : ∃ x, l[q]? = some x := ⟨l[q]'(by have := HN.out; omega), by rw [List.getElem?_eq_getElem]⟩
                    clear hl0 hs0
                    go_upto_region 6 with fail
                    clear m0 m1 m2 m3 p0 p1 p2 p3
                    by_cases hxe : x = (k, v, a, b)
                    · have hx' : l[q]? = some (k, v, a, b) := hxe ▸ hx
                      have HSE := Lib.hid (HSM.out x)
                      rw [decide_eq_true hxe] at HSE
                      clear hxe
                      refine wp_region_slots (by kernel_rfl) [65, 66, 67, 68, 69, 70, 71, 72, 73] (fun w' => (w'.heap[w.heap.size]? = some (.cells #[.int .i64 k, .float .f64 v, .int .i64 a, .int .i64 b] 43 (0, 0))) ∧ (w'.heap[g]? = some (.cells #[.slice (some ⟨b0, o0, none⟩) n vc, .bool true] 28 (0, 0))) ∧ (RdN w' (some ⟨b0, o0, none⟩) l) ∧ (Below wr.heap.size wr w')) (Said [Is (.pointer (some ⟨g, 0, none⟩)), Is (.pointer (some ⟨g, 0, none⟩)), Is (.pointer (some ⟨g, 0, none⟩)), Is (.slice (some ⟨b0, o0, none⟩) n vc), Is (.int .i64 (q : Int)), Is (.pointer (some ⟨b0, o0 + q * 4, none⟩)), Is (.agg #[.int .i64 x.1, .float .f64 x.2.1, .int .i64 x.2.2.1, .int .i64 x.2.2.2]), Is (.agg #[.int .i64 k, .float .f64 v, .int .i64 a, .int .i64 b]), Is (.bool true)]) (by kernel_rfl) (by kernel_rfl) (by kernel_rfl) (by kernel_rfl) (Said.keep ?keep11) ⟨slot_kept hd1 (bdn (Below.refl _ _) 1), slot_kept hd2 (bdn (Below.refl _ _) 1), hrr.below (bdn (Below.refl _ _) 1), bdn (Below.refl _ _) 1⟩ (l := [0, 1, 2, 3, 4, 5, 6, 7, 8]) (by kernel_rfl) ?step11 ?fin11
                      case keep11 =>
                        refine List.forall_mem_cons.2 ⟨Is.keeps _, ?_⟩
                        refine List.forall_mem_cons.2 ⟨Is.keeps _, ?_⟩
                        refine List.forall_mem_cons.2 ⟨Is.keeps _, ?_⟩
                        refine List.forall_mem_cons.2 ⟨Is.keeps _, ?_⟩
                        refine List.forall_mem_cons.2 ⟨Is.keeps _, ?_⟩
                        refine List.forall_mem_cons.2 ⟨Is.keeps _, ?_⟩
                        refine List.forall_mem_cons.2 ⟨Is.keeps _, ?_⟩
                        refine List.forall_mem_cons.2 ⟨Is.keeps _, ?_⟩
                        refine List.forall_mem_cons.2 ⟨Is.keeps _, ?_⟩
                        exact fun _ h => nomatch h
                      case step11 =>
                        refine List.forall_mem_cons.2 ⟨?_, ?_⟩
                        · refine SlotStep.plain rfl rfl rfl ?_
                          intro tm ws hsame hS hg K hK
                          have e0 : tm[0]? = some (.pointer (some ⟨g, 0, none⟩)) := hsame.2 0 rfl
                          go_simp
                          exact hK _ _ (Below.refl _ _) hS rfl
                        refine List.forall_mem_cons.2 ⟨?_, ?_⟩
                        · refine SlotStep.plain rfl rfl rfl ?_
                          intro tm ws hsame hS hg K hK
                          obtain ⟨v65, e65, rfl⟩ := hg 0 (by kernel_rfl) _ 65 rfl rfl
                          go_simp
                          exact hK _ _ (Below.refl _ _) hS rfl
                        refine List.forall_mem_cons.2 ⟨?_, ?_⟩
                        · refine SlotStep.plain rfl rfl rfl ?_
                          intro tm ws hsame hS hg K hK
                          obtain ⟨v66, e66, rfl⟩ := hg 1 (by kernel_rfl) _ 66 rfl rfl
                          go_simp
                          exact hK _ _ (Below.refl _ _) hS rfl
                        refine List.forall_mem_cons.2 ⟨?_, ?_⟩
                        · refine SlotStep.plain rfl rfl rfl ?_
                          intro tm ws hsame hS hg K hK
                          obtain ⟨v67, e67, rfl⟩ := hg 2 (by kernel_rfl) _ 67 rfl rfl
                          obtain ⟨k0, k1, -, -⟩ := slot2 (hS.2.1)
                          go_simp
                          exact hK _ _ (Below.refl _ _) hS rfl
                        refine List.forall_mem_cons.2 ⟨?_, ?_⟩
                        · refine SlotStep.plain rfl rfl rfl ?_
                          intro tm ws hsame hS hg K hK
                          have e5 : tm[5]? = some (.int .i64 (q : Int)) := hsame.2 5 rfl
                          go_simp
                          exact hK _ _ (Below.refl _ _) hS rfl
                        refine List.forall_mem_cons.2 ⟨?_, ?_⟩
                        · refine SlotStep.plain rfl rfl rfl ?_
                          intro tm ws hsame hS hg K hK
                          obtain ⟨v68, e68, rfl⟩ := hg 3 (by kernel_rfl) _ 68 rfl rfl
                          obtain ⟨v69, e69, rfl⟩ := hg 4 (by kernel_rfl) _ 69 rfl rfl
                          go_simp
                          exact hK _ _ (Below.refl _ _) hS rfl
                        refine List.forall_mem_cons.2 ⟨?_, ?_⟩
                        · refine SlotStep.plain rfl rfl rfl ?_
                          intro tm ws hsame hS hg K hK
                          obtain ⟨v70, e70, rfl⟩ := hg 5 (by kernel_rfl) _ 70 rfl rfl
                          obtain ⟨k0, k1, k2, k3⟩ := (hS.2.2.1).at hx
                          go_simp
                          exact hK _ _ (Below.refl _ _) hS rfl
                        refine List.forall_mem_cons.2 ⟨?_, ?_⟩
                        · refine SlotStep.plain rfl rfl rfl ?_
                          intro tm ws hsame hS hg K hK
                          have e3 : tm[3]? = some (.pointer (some ⟨w.heap.size, 0, none⟩)) := hsame.2 3 rfl
                          obtain ⟨k0, k1, k2, k3⟩ := slot4 (hS.1)
                          go_simp
                          exact hK _ _ (Below.refl _ _) hS rfl
                        refine List.forall_mem_cons.2 ⟨?_, ?_⟩
                        · refine SlotStep.plain rfl rfl rfl ?_
                          intro tm ws hsame hS hg K hK
                          obtain ⟨v71, e71, rfl⟩ := hg 6 (by kernel_rfl) _ 71 rfl rfl
                          obtain ⟨v72, e72, rfl⟩ := hg 7 (by kernel_rfl) _ 72 rfl rfl
                          go_simp
                          refine (HSE.out ws).mono ?_
                          rintro e wm ⟨rfl, hb⟩
                          exact hK _ _ hb (⟨slot_kept (hS.1) (hb), slot_kept (hS.2.1) (hb), (hS.2.2.1).below (hb), (hS.2.2.2).trans (Below.mono (hb) (hS.2.2.2).size)⟩) rfl
                        exact fun _ h => nomatch h
                      case fin11 =>
                        intro tm w4 hsame hS hgot
                        obtain ⟨u', hu, htm⟩ := hsame.form (by kernel_rfl)
                        obtain ⟨v73, e73, rfl⟩ := hgot 8 _ 73 rfl rfl
                        have h73 := hu _ _ e73
                        have hb4 := hS.2.2.2
                        clear hgot hu hsame e73 hS hd1 hd2 hrr
                        rw [htm]
                        clear htm tm
                        simp only [List.foldl_cons, List.foldl_nil, List.setIfInBounds_toArray, List.set_cons_zero, List.set_cons_succ, h73]
                        clear h73
                        go_wp2_with fail
                        go_ret
                        refine put_old HP.out (by rw [HN.out]; exact HG.out) hx' hno ?_
                        exact hb1.trans ((hb3.trans ((hbr.trans (hb4.mono hbr.size)).mono hb3.size)).mono hb1.size)
                    · have HSE := Lib.hid (HSM.out x)
                      rw [decide_eq_false hxe] at HSE
                      refine wp_region_slots (by kernel_rfl) [65, 66, 67, 68, 69, 70, 71, 72, 73] (fun w' => (w'.heap[w.heap.size]? = some (.cells #[.int .i64 k, .float .f64 v, .int .i64 a, .int .i64 b] 43 (0, 0))) ∧ (w'.heap[g]? = some (.cells #[.slice (some ⟨b0, o0, none⟩) n vc, .bool true] 28 (0, 0))) ∧ (RdN w' (some ⟨b0, o0, none⟩) l) ∧ (Below wr.heap.size wr w')) (Said [Is (.pointer (some ⟨g, 0, none⟩)), Is (.pointer (some ⟨g, 0, none⟩)), Is (.pointer (some ⟨g, 0, none⟩)), Is (.slice (some ⟨b0, o0, none⟩) n vc), Is (.int .i64 (q : Int)), Is (.pointer (some ⟨b0, o0 + q * 4, none⟩)), Is (.agg #[.int .i64 x.1, .float .f64 x.2.1, .int .i64 x.2.2.1, .int .i64 x.2.2.2]), Is (.agg #[.int .i64 k, .float .f64 v, .int .i64 a, .int .i64 b]), Is (.bool false)]) (by kernel_rfl) (by kernel_rfl) (by kernel_rfl) (by kernel_rfl) (Said.keep ?keep12) ⟨slot_kept hd1 (bdn (Below.refl _ _) 1), slot_kept hd2 (bdn (Below.refl _ _) 1), hrr.below (bdn (Below.refl _ _) 1), bdn (Below.refl _ _) 1⟩ (l := [0, 1, 2, 3, 4, 5, 6, 7, 8]) (by kernel_rfl) ?step12 ?fin12
                      case keep12 =>
                        refine List.forall_mem_cons.2 ⟨Is.keeps _, ?_⟩
                        refine List.forall_mem_cons.2 ⟨Is.keeps _, ?_⟩
                        refine List.forall_mem_cons.2 ⟨Is.keeps _, ?_⟩
                        refine List.forall_mem_cons.2 ⟨Is.keeps _, ?_⟩
                        refine List.forall_mem_cons.2 ⟨Is.keeps _, ?_⟩
                        refine List.forall_mem_cons.2 ⟨Is.keeps _, ?_⟩
                        refine List.forall_mem_cons.2 ⟨Is.keeps _, ?_⟩
                        refine List.forall_mem_cons.2 ⟨Is.keeps _, ?_⟩
                        refine List.forall_mem_cons.2 ⟨Is.keeps _, ?_⟩
                        exact fun _ h => nomatch h
                      case step12 =>
                        refine List.forall_mem_cons.2 ⟨?_, ?_⟩
                        · refine SlotStep.plain rfl rfl rfl ?_
                          intro tm ws hsame hS hg K hK
                          have e0 : tm[0]? = some (.pointer (some ⟨g, 0, none⟩)) := hsame.2 0 rfl
                          go_simp
                          exact hK _ _ (Below.refl _ _) hS rfl
                        refine List.forall_mem_cons.2 ⟨?_, ?_⟩
                        · refine SlotStep.plain rfl rfl rfl ?_
                          intro tm ws hsame hS hg K hK
                          obtain ⟨v65, e65, rfl⟩ := hg 0 (by kernel_rfl) _ 65 rfl rfl
                          go_simp
                          exact hK _ _ (Below.refl _ _) hS rfl
                        refine List.forall_mem_cons.2 ⟨?_, ?_⟩
                        · refine SlotStep.plain rfl rfl rfl ?_
                          intro tm ws hsame hS hg K hK
                          obtain ⟨v66, e66, rfl⟩ := hg 1 (by kernel_rfl) _ 66 rfl rfl
                          go_simp
                          exact hK _ _ (Below.refl _ _) hS rfl
                        refine List.forall_mem_cons.2 ⟨?_, ?_⟩
                        · refine SlotStep.plain rfl rfl rfl ?_
                          intro tm ws hsame hS hg K hK
                          obtain ⟨v67, e67, rfl⟩ := hg 2 (by kernel_rfl) _ 67 rfl rfl
                          obtain ⟨k0, k1, -, -⟩ := slot2 (hS.2.1)
                          go_simp
                          exact hK _ _ (Below.refl _ _) hS rfl
                        refine List.forall_mem_cons.2 ⟨?_, ?_⟩
                        · refine SlotStep.plain rfl rfl rfl ?_
                          intro tm ws hsame hS hg K hK
                          have e5 : tm[5]? = some (.int .i64 (q : Int)) := hsame.2 5 rfl
                          go_simp
                          exact hK _ _ (Below.refl _ _) hS rfl
                        refine List.forall_mem_cons.2 ⟨?_, ?_⟩
                        · refine SlotStep.plain rfl rfl rfl ?_
                          intro tm ws hsame hS hg K hK
                          obtain ⟨v68, e68, rfl⟩ := hg 3 (by kernel_rfl) _ 68 rfl rfl
                          obtain ⟨v69, e69, rfl⟩ := hg 4 (by kernel_rfl) _ 69 rfl rfl
                          go_simp
                          exact hK _ _ (Below.refl _ _) hS rfl
                        refine List.forall_mem_cons.2 ⟨?_, ?_⟩
                        · refine SlotStep.plain rfl rfl rfl ?_
                          intro tm ws hsame hS hg K hK
                          obtain ⟨v70, e70, rfl⟩ := hg 5 (by kernel_rfl) _ 70 rfl rfl
                          obtain ⟨k0, k1, k2, k3⟩ := (hS.2.2.1).at hx
                          go_simp
                          exact hK _ _ (Below.refl _ _) hS rfl
                        refine List.forall_mem_cons.2 ⟨?_, ?_⟩
                        · refine SlotStep.plain rfl rfl rfl ?_
                          intro tm ws hsame hS hg K hK
                          have e3 : tm[3]? = some (.pointer (some ⟨w.heap.size, 0, none⟩)) := hsame.2 3 rfl
                          obtain ⟨k0, k1, k2, k3⟩ := slot4 (hS.1)
                          go_simp
                          exact hK _ _ (Below.refl _ _) hS rfl
                        refine List.forall_mem_cons.2 ⟨?_, ?_⟩
                        · refine SlotStep.plain rfl rfl rfl ?_
                          intro tm ws hsame hS hg K hK
                          obtain ⟨v71, e71, rfl⟩ := hg 6 (by kernel_rfl) _ 71 rfl rfl
                          obtain ⟨v72, e72, rfl⟩ := hg 7 (by kernel_rfl) _ 72 rfl rfl
                          go_simp
                          refine (HSE.out ws).mono ?_
                          rintro e wm ⟨rfl, hb⟩
                          exact hK _ _ hb (⟨slot_kept (hS.1) (hb), slot_kept (hS.2.1) (hb), (hS.2.2.1).below (hb), (hS.2.2.2).trans (Below.mono (hb) (hS.2.2.2).size)⟩) rfl
                        exact fun _ h => nomatch h
                      case fin12 =>
                        intro tm w4 hsame hS hgot
                        obtain ⟨u', hu, htm⟩ := hsame.form (by kernel_rfl)
                        obtain ⟨v73, e73, rfl⟩ := hgot 8 _ 73 rfl rfl
                        have h73 := hu _ _ e73
                        have hb4 := hS.2.2.2
                        clear hgot hu hsame e73 hS hd1 hd2 hrr
                        rw [htm]
                        clear htm tm
                        simp only [List.foldl_cons, List.foldl_nil, List.setIfInBounds_toArray, List.set_cons_zero, List.set_cons_succ, h73]
                        clear h73
                        go_wp2_with fail
                        go_roundw
                        case rel =>
                          refine ⟨q + 1, by omega, by go_num, hbr.trans (hb4.mono hbr.size), fun j hj => ?_, fun _ => by trivial⟩
                          rcases Nat.lt_or_ge j q with h | h
                          · exact hno j h
                          · obtain rfl : j = q := by omega
                            rw [hx]
                            exact fun e => hxe (Option.some.inj e)
                        case measure => simp [intOf]; omega
                  · have hnn : Hid (s = true → nfind l (k, v, a, b) = none) := Lib.hid fun h => absurd h hss
                    have hsf : s = false := by cases s; rfl; exact absurd rfl hss
                    clear hss hno hs0
                    have hOr : OwN base wr (.slice va n vc) l := HP.out.2.1.below hb0r
                    have hszr := hb0r.size
                    have hww : w1.heap.size ≤ wr.heap.size := by have := hb3.size; have := hbr.size; omega
                    have hgr : g < wr.heap.size := (Array.getElem?_eq_some_iff.1 hd2).1
                    have pA := (slot2 (slot_kept hd2 (below_alloc wr (.cells #[.int .i64 k, .float .f64 v, .int .i64 a, .int .i64 b] 43)))).1
                    go_wp2_with fail
                    go_region_law (refine step_append_node _ rfl (.tmp 79) (.tmp 81) 22 rfl Tryd.underlying22 info_node base (.slice va n vc) l (by simp [Act.eval]) (OwN.alloc (w := wr.drew) hOr _) ⟨wr.heap.size, 0, none⟩ 1 1 [(k, v, a, b)] (by simp [Act.eval]) rfl (node_new1 wr.drew (k, v, a, b) _) (by rw [HN.out]; omega) (by simp; omega) ?_; intro v' w5 hO5 hg5 hat5; obtain ⟨m5, hm5⟩ : ∃ m5, (l ++ [(k, v, a, b)]).length = m5 := ⟨_, rfl⟩; obtain ⟨qa, qc, hqv, -, -, -, -⟩ := hO5.form; rw [hm5] at hqv; subst hqv; have he5 : w5.heap[g]? = some (.cells #[.slice va n vc, .bool s] 28 (0, 0)) := put_kept (w := wr.drew) hd2 hOr hg5; obtain ⟨p0', p1', p2', p3'⟩ := slot2 he5; have hsub : (m5 : Int) - 1 = (n : Int) := (by have h9 := HN.out; have h8 : (l ++ [(k, v, a, b)]).length = l.length + 1 := List.length_append; omega); have HA := Lib.hid (put_new (wr := wr.drew) (o := .cells #[.int .i64 k, .float .f64 v, .int .i64 a, .int .i64 b] 43) HP.out (by rw [HN.out]; exact HG.out) hnn.out hb0r.drew hO5 hg5 hat5 he5); rw [HN.out] at HA; clear hO5 hg5 hat5 he5 hm5)
                    all_goals
                      obtain ⟨r0, r1⟩ := plain_set p0' p1' (.slice qa m5 qc)
                      clear p0' p1' p2' p3'
                      go_wp2_with fail
                      go_ret
                      exact HA.out
                · have hqn : n = q := by omega
                  subst hqn
                  have hnn : Hid (s = true → nfind l (k, v, a, b) = none) := Lib.hid fun _ => nfind_none fun j hj => hno j (by rw [← HN.out]; exact hj)
                  clear hno hs0
                  have hOr : OwN base wr (.slice va n vc) l := HP.out.2.1.below hb0r
                  have hszr := hb0r.size
                  have hww : w1.heap.size ≤ wr.heap.size := by have := hb3.size; have := hbr.size; omega
                  have hgr : g < wr.heap.size := (Array.getElem?_eq_some_iff.1 hd2).1
                  have pA := (slot2 (slot_kept hd2 (below_alloc wr (.cells #[.int .i64 k, .float .f64 v, .int .i64 a, .int .i64 b] 43)))).1
                  go_wp2_with fail
                  go_region_law (refine step_append_node _ rfl (.tmp 79) (.tmp 81) 22 rfl Tryd.underlying22 info_node base (.slice va n vc) l (by simp [Act.eval]) (OwN.alloc (w := wr.drew) hOr _) ⟨wr.heap.size, 0, none⟩ 1 1 [(k, v, a, b)] (by simp [Act.eval]) rfl (node_new1 wr.drew (k, v, a, b) _) (by rw [HN.out]; omega) (by simp; omega) ?_; intro v' w5 hO5 hg5 hat5; obtain ⟨m5, hm5⟩ : ∃ m5, (l ++ [(k, v, a, b)]).length = m5 := ⟨_, rfl⟩; obtain ⟨qa, qc, hqv, -, -, -, -⟩ := hO5.form; rw [hm5] at hqv; subst hqv; have he5 : w5.heap[g]? = some (.cells #[.slice va n vc, .bool s] 28 (0, 0)) := put_kept (w := wr.drew) hd2 hOr hg5; obtain ⟨p0', p1', p2', p3'⟩ := slot2 he5; have hsub : (m5 : Int) - 1 = (n : Int) := (by have h9 := HN.out; have h8 : (l ++ [(k, v, a, b)]).length = l.length + 1 := List.length_append; omega); have HA := Lib.hid (put_new (wr := wr.drew) (o := .cells #[.int .i64 k, .float .f64 v, .int .i64 a, .int .i64 b] 43) HP.out (by rw [HN.out]; exact HG.out) hnn.out hb0r.drew hO5 hg5 hat5 he5); rw [HN.out] at HA; clear hO5 hg5 hat5 he5 hm5)
                  all_goals
                    obtain ⟨r0, r1⟩ := plain_set p0' p1' (.slice qa m5 qc)
                    clear p0' p1' p2' p3'
                    go_wp2_with fail
                    go_ret
                    exact HA.out
  · rw [Bool.eq_false_iff.2 hval] at HVD
    have HR := HBAD (by unfold nbad; rw [Bool.eq_false_iff.2 hval]; rfl)
    clear hval
    clear HBAD
    go_enter Tryd.func7, Tryd.ntmps7
    go_upto_region 1 with fail
    refine wp_region_slots (by kernel_rfl) [6, 7, 8, 9, 10, 11, 12, 13, 14, 15, 16, 17, 18, 19, 20, 21, 22, 23, 24, 25, 26, 27, 28, 29, 30, 31, 32, 33, 34, 35, 36, 37, 38, 39, 40, 41, 42, 43, 44, 45, 46, 47, 48, 49] (fun w' => (w'.heap[w.heap.size]? = some (.cells #[.int .i64 k, .float .f64 v, .int .i64 a, .int .i64 b] 43 (0, 0))) ∧ (w'.heap[g]? = some (.cells #[.slice va n vc, .bool s] 28 (0, 0))) ∧ (Below w1.heap.size w1 w')) (Said [Is (.agg #[.int .i64 k, .float .f64 v, .int .i64 a, .int .i64 b]), Is (.bool false), Is (.bool true), Is (.bool true), Is undef, Is undef, Is undef, Is undef, Is undef, Is undef, Is undef, Is undef, Is undef, Is (.bool true), Is (.bool true), Is undef, Is undef, Is undef, Is undef, Is undef, Is undef, Is undef, Is undef, Is undef, Is undef, Is undef, Is undef, Is undef, Is undef, Is undef, Is undef, Is undef, Is undef, Is undef, Is undef, Is undef, Is undef, Is undef, Is undef, Is undef, Is undef, Is undef, Is undef, Is (.bool true)]) (by kernel_rfl) (by kernel_rfl) (by kernel_rfl) (by kernel_rfl) (Said.keep ?keep13) ⟨slot_kept hc1 (bdn (Below.refl _ _) 1), slot_kept hc2 (bdn (Below.refl _ _) 1), bdn (Below.refl _ _) 1⟩ (l := [0, 1, 2, 3, 4, 5, 6, 7, 8, 9, 10, 11, 12, 13, 14, 15, 16, 17, 18, 19, 20, 21, 22, 23, 24, 25, 26, 27, 28, 29, 30, 31, 32, 33, 34, 35, 36, 37, 38, 39, 40, 41, 42, 43]) (by kernel_rfl) ?step13 ?fin13
    case keep13 =>
      refine List.forall_mem_cons.2 ⟨Is.keeps _, ?_⟩
      refine List.forall_mem_cons.2 ⟨Is.keeps _, ?_⟩
      refine List.forall_mem_cons.2 ⟨Is.keeps _, ?_⟩
      refine List.forall_mem_cons.2 ⟨Is.keeps _, ?_⟩
      refine List.forall_mem_cons.2 ⟨Is.keeps _, ?_⟩
      refine List.forall_mem_cons.2 ⟨Is.keeps _, ?_⟩
      refine List.forall_mem_cons.2 ⟨Is.keeps _, ?_⟩
      refine List.forall_mem_cons.2 ⟨Is.keeps _, ?_⟩
      refine List.forall_mem_cons.2 ⟨Is.keeps _, ?_⟩
      refine List.forall_mem_cons.2 ⟨Is.keeps _, ?_⟩
      refine List.forall_mem_cons.2 ⟨Is.keeps _, ?_⟩
      refine List.forall_mem_cons.2 ⟨Is.keeps _, ?_⟩
      refine List.forall_mem_cons.2 ⟨Is.keeps _, ?_⟩
      refine List.forall_mem_cons.2 ⟨Is.keeps _, ?_⟩
      refine List.forall_mem_cons.2 ⟨Is.keeps _, ?_⟩
      refine List.forall_mem_cons.2 ⟨Is.keeps _, ?_⟩
      refine List.forall_mem_cons.2 ⟨Is.keeps _, ?_⟩
      refine List.forall_mem_cons.2 ⟨Is.keeps _, ?_⟩
      refine List.forall_mem_cons.2 ⟨Is.keeps _, ?_⟩
      refine List.forall_mem_cons.2 ⟨Is.keeps _, ?_⟩
      refine List.forall_mem_cons.2 ⟨Is.keeps _, ?_⟩
      refine List.forall_mem_cons.2 ⟨Is.keeps _, ?_⟩
      refine List.forall_mem_cons.2 ⟨Is.keeps _, ?_⟩
      refine List.forall_mem_cons.2 ⟨Is.keeps _, ?_⟩
      refine List.forall_mem_cons.2 ⟨Is.keeps _, ?_⟩
      refine List.forall_mem_cons.2 ⟨Is.keeps _, ?_⟩
      refine List.forall_mem_cons.2 ⟨Is.keeps _, ?_⟩
      refine List.forall_mem_cons.2 ⟨Is.keeps _, ?_⟩
      refine List.forall_mem_cons.2 ⟨Is.keeps _, ?_⟩
      refine List.forall_mem_cons.2 ⟨Is.keeps _, ?_⟩
      refine List.forall_mem_cons.2 ⟨Is.keeps _, ?_⟩
      refine List.forall_mem_cons.2 ⟨Is.keeps _, ?_⟩
      refine List.forall_mem_cons.2 ⟨Is.keeps _, ?_⟩
      refine List.forall_mem_cons.2 ⟨Is.keeps _, ?_⟩
      refine List.forall_mem_cons.2 ⟨Is.keeps _, ?_⟩
      refine List.forall_mem_cons.2 ⟨Is.keeps _, ?_⟩
      refine List.forall_mem_cons.2 ⟨Is.keeps _, ?_⟩
      refine List.forall_mem_cons.2 ⟨Is.keeps _, ?_⟩
      refine List.forall_mem_cons.2 ⟨Is.keeps _, ?_⟩
      refine List.forall_mem_cons.2 ⟨Is.keeps _, ?_⟩
      refine List.forall_mem_cons.2 ⟨Is.keeps _, ?_⟩
      refine List.forall_mem_cons.2 ⟨Is.keeps _, ?_⟩
      refine List.forall_mem_cons.2 ⟨Is.keeps _, ?_⟩
      refine List.forall_mem_cons.2 ⟨Is.keeps _, ?_⟩
      exact fun _ h => nomatch h
    case step13 =>
      refine List.forall_mem_cons.2 ⟨?_, ?_⟩
      · refine SlotStep.plain rfl rfl rfl ?_
        intro tm ws hsame hS hg K hK
        have e3 : tm[3]? = some (.pointer (some ⟨w.heap.size, 0, none⟩)) := hsame.2 3 rfl
        obtain ⟨k0, k1, k2, k3⟩ := slot4 (hS.1)
        go_simp
        exact hK _ _ (Below.refl _ _) hS rfl
      refine List.forall_mem_cons.2 ⟨?_, ?_⟩
      · refine SlotStep.plain rfl rfl rfl ?_
        intro tm ws hsame hS hg K hK
        obtain ⟨v6, e6, rfl⟩ := hg 0 (by kernel_rfl) _ 6 rfl rfl
        go_simp
        refine (HVD.out ws).mono ?_
        rintro e wm ⟨rfl, hb⟩
        exact hK _ _ hb (⟨slot_kept (hS.1) (hb), slot_kept (hS.2.1) (hb), (hS.2.2).trans (Below.mono (hb) (hS.2.2).size)⟩) rfl
      refine List.forall_mem_cons.2 ⟨?_, ?_⟩
      · refine SlotStep.plain rfl rfl rfl ?_
        intro tm ws hsame hS hg K hK
        obtain ⟨v7, e7, rfl⟩ := hg 1 (by kernel_rfl) _ 7 rfl rfl
        go_simp
        exact hK _ _ (Below.refl _ _) hS rfl
      refine List.forall_mem_cons.2 ⟨?_, ?_⟩
      · refine SlotStep.plain rfl rfl rfl ?_
        intro tm ws hsame hS hg K hK
        obtain ⟨v8, e8, rfl⟩ := hg 2 (by kernel_rfl) _ 8 rfl rfl
        go_simp
        exact hK _ _ (Below.refl _ _) hS rfl
      refine List.forall_mem_cons.2 ⟨?_, ?_⟩
      · exact SlotStep.skip rfl rfl 3 false rfl rfl (by kernel_rfl) (fun _ _ h => h) (fun _ => rfl)
      refine List.forall_mem_cons.2 ⟨?_, ?_⟩
      · exact SlotStep.skip rfl rfl 3 false rfl rfl (by kernel_rfl) (fun _ _ h => h) (fun _ => rfl)
      refine List.forall_mem_cons.2 ⟨?_, ?_⟩
      · exact SlotStep.skip rfl rfl 3 false rfl rfl (by kernel_rfl) (fun _ _ h => h) (fun _ => rfl)
      refine List.forall_mem_cons.2 ⟨?_, ?_⟩
      · exact SlotStep.skip rfl rfl 3 false rfl rfl (by kernel_rfl) (fun _ _ h => h) (fun _ => rfl)
      refine List.forall_mem_cons.2 ⟨?_, ?_⟩
      · exact SlotStep.skipU rfl rfl 7 true rfl rfl (by kernel_rfl) (fun _ _ h => h) (fun _ => rfl)
      refine List.forall_mem_cons.2 ⟨?_, ?_⟩
      · exact SlotStep.skipU rfl rfl 7 true rfl rfl (by kernel_rfl) (fun _ _ h => h) (fun _ => rfl)
      refine List.forall_mem_cons.2 ⟨?_, ?_⟩
      · exact SlotStep.skipU rfl rfl 7 true rfl rfl (by kernel_rfl) (fun _ _ h => h) (fun _ => rfl)
      refine List.forall_mem_cons.2 ⟨?_, ?_⟩
      · exact SlotStep.skipU rfl rfl 7 true rfl rfl (by kernel_rfl) (fun _ _ h => h) (fun _ => rfl)
      refine List.forall_mem_cons.2 ⟨?_, ?_⟩
      · exact SlotStep.skip rfl rfl 3 false rfl rfl (by kernel_rfl) (fun _ _ h => h) (fun _ => rfl)
      refine List.forall_mem_cons.2 ⟨?_, ?_⟩
      · refine SlotStep.plain rfl rfl rfl ?_
        intro tm ws hsame hS hg K hK
        obtain ⟨v9, e9, rfl⟩ := hg 3 (by kernel_rfl) _ 9 rfl rfl
        obtain ⟨v18, e18, rfl⟩ := hg 12 (by kernel_rfl) _ 18 rfl rfl
        go_simp
        exact hK _ _ (Below.refl _ _) hS rfl
      refine List.forall_mem_cons.2 ⟨?_, ?_⟩
      · refine SlotStep.plain rfl rfl rfl ?_
        intro tm ws hsame hS hg K hK
        obtain ⟨v19, e19, rfl⟩ := hg 13 (by kernel_rfl) _ 19 rfl rfl
        go_simp
        exact hK _ _ (Below.refl _ _) hS rfl
      refine List.forall_mem_cons.2 ⟨?_, ?_⟩
      · exact SlotStep.skip rfl rfl 14 false rfl rfl (by kernel_rfl) (fun _ _ h => h) (fun _ => rfl)
      refine List.forall_mem_cons.2 ⟨?_, ?_⟩
      · exact SlotStep.skip rfl rfl 14 false rfl rfl (by kernel_rfl) (fun _ _ h => h) (fun _ => rfl)
      refine List.forall_mem_cons.2 ⟨?_, ?_⟩
      · exact SlotStep.skip rfl rfl 14 false rfl rfl (by kernel_rfl) (fun _ _ h => h) (fun _ => rfl)
      refine List.forall_mem_cons.2 ⟨?_, ?_⟩
      · exact SlotStep.skip rfl rfl 14 false rfl rfl (by kernel_rfl) (fun _ _ h => h) (fun _ => rfl)
      refine List.forall_mem_cons.2 ⟨?_, ?_⟩
      · exact SlotStep.skipU rfl rfl 18 true rfl rfl (by kernel_rfl) (fun _ _ h => h) (fun _ => rfl)
      refine List.forall_mem_cons.2 ⟨?_, ?_⟩
      · exact SlotStep.skipU rfl rfl 18 true rfl rfl (by kernel_rfl) (fun _ _ h => h) (fun _ => rfl)
      refine List.forall_mem_cons.2 ⟨?_, ?_⟩
      · exact SlotStep.skipU rfl rfl 18 true rfl rfl (by kernel_rfl) (fun _ _ h => h) (fun _ => rfl)
      refine List.forall_mem_cons.2 ⟨?_, ?_⟩
      · exact SlotStep.skipU rfl rfl 18 true rfl rfl (by kernel_rfl) (fun _ _ h => h) (fun _ => rfl)
      refine List.forall_mem_cons.2 ⟨?_, ?_⟩
      · exact SlotStep.skipU rfl rfl 18 true rfl rfl (by kernel_rfl) (fun _ _ h => h) (fun _ => rfl)
      refine List.forall_mem_cons.2 ⟨?_, ?_⟩
      · exact SlotStep.skipU rfl rfl 18 true rfl rfl (by kernel_rfl) (fun _ _ h => h) (fun _ => rfl)
      refine List.forall_mem_cons.2 ⟨?_, ?_⟩
      · exact SlotStep.skipU rfl rfl 18 true rfl rfl (by kernel_rfl) (fun _ _ h => h) (fun _ => rfl)
      refine List.forall_mem_cons.2 ⟨?_, ?_⟩
      · exact SlotStep.skipU rfl rfl 18 true rfl rfl (by kernel_rfl) (fun _ _ h => h) (fun _ => rfl)
      refine List.forall_mem_cons.2 ⟨?_, ?_⟩
      · exact SlotStep.skipU rfl rfl 18 true rfl rfl (by kernel_rfl) (fun _ _ h => h) (fun _ => rfl)
      refine List.forall_mem_cons.2 ⟨?_, ?_⟩
      · exact SlotStep.skipU rfl rfl 27 false rfl rfl (by kernel_rfl) (fun _ _ h => h) (fun _ => rfl)
      refine List.forall_mem_cons.2 ⟨?_, ?_⟩
      · exact SlotStep.skipU rfl rfl 27 false rfl rfl (by kernel_rfl) (fun _ _ h => h) (fun _ => rfl)
      refine List.forall_mem_cons.2 ⟨?_, ?_⟩
      · exact SlotStep.skipU rfl rfl 27 false rfl rfl (by kernel_rfl) (fun _ _ h => h) (fun _ => rfl)
      refine List.forall_mem_cons.2 ⟨?_, ?_⟩
      · exact SlotStep.skipU rfl rfl 27 false rfl rfl (by kernel_rfl) (fun _ _ h => h) (fun _ => rfl)
      refine List.forall_mem_cons.2 ⟨?_, ?_⟩
      · exact SlotStep.skipU rfl rfl 31 true rfl rfl (by kernel_rfl) (fun _ _ h => h) (fun _ => rfl)
      refine List.forall_mem_cons.2 ⟨?_, ?_⟩
      · exact SlotStep.skipU rfl rfl 31 true rfl rfl (by kernel_rfl) (fun _ _ h => h) (fun _ => rfl)
      refine List.forall_mem_cons.2 ⟨?_, ?_⟩
      · exact SlotStep.skipU rfl rfl 31 true rfl rfl (by kernel_rfl) (fun _ _ h => h) (fun _ => rfl)
      refine List.forall_mem_cons.2 ⟨?_, ?_⟩
      · exact SlotStep.skipU rfl rfl 31 true rfl rfl (by kernel_rfl) (fun _ _ h => h) (fun _ => rfl)
      refine List.forall_mem_cons.2 ⟨?_, ?_⟩
      · exact SlotStep.skipU rfl rfl 31 true rfl rfl (by kernel_rfl) (fun _ _ h => h) (fun _ => rfl)
      refine List.forall_mem_cons.2 ⟨?_, ?_⟩
      · exact SlotStep.skipU rfl rfl 31 true rfl rfl (by kernel_rfl) (fun _ _ h => h) (fun _ => rfl)
      refine List.forall_mem_cons.2 ⟨?_, ?_⟩
      · exact SlotStep.skipU rfl rfl 31 true rfl rfl (by kernel_rfl) (fun _ _ h => h) (fun _ => rfl)
      refine List.forall_mem_cons.2 ⟨?_, ?_⟩
      · exact SlotStep.skipU rfl rfl 31 true rfl rfl (by kernel_rfl) (fun _ _ h => h) (fun _ => rfl)
      refine List.forall_mem_cons.2 ⟨?_, ?_⟩
      · exact SlotStep.skipU rfl rfl 27 false rfl rfl (by kernel_rfl) (fun _ _ h => h) (fun _ => rfl)
      refine List.forall_mem_cons.2 ⟨?_, ?_⟩
      · exact SlotStep.skipU rfl rfl 18 true rfl rfl (by kernel_rfl) (fun _ _ h => h) (fun _ => rfl)
      refine List.forall_mem_cons.2 ⟨?_, ?_⟩
      · exact SlotStep.skip rfl rfl 14 false rfl rfl (by kernel_rfl) (fun _ _ h => h) (fun _ => rfl)
      refine List.forall_mem_cons.2 ⟨?_, ?_⟩
      · refine SlotStep.plain rfl rfl rfl ?_
        intro tm ws hsame hS hg K hK
        obtain ⟨v20, e20, rfl⟩ := hg 14 (by kernel_rfl) _ 20 rfl rfl
        obtain ⟨v48, e48, rfl⟩ := hg 42 (by kernel_rfl) _ 48 rfl rfl
        go_simp
        exact hK _ _ (Below.refl _ _) hS rfl
      exact fun _ h => nomatch h
    case fin13 =>
      intro tm w3 hsame hS hgot
      obtain ⟨u, hu, htm⟩ := hsame.form (by kernel_rfl)
      obtain ⟨v49, e49, rfl⟩ := hgot 43 _ 49 rfl rfl
      have h49 := hu _ _ e49
      have hc1' := hS.1
      have hc2' := hS.2.1
      have hb3 := hS.2.2
      clear hgot hu hsame e49 hS hc1 hc2
      rw [htm]
      clear htm tm
      simp only [List.foldl_cons, List.foldl_nil, List.setIfInBounds_toArray, List.set_cons_zero, List.set_cons_succ, h49]
      clear h49
      go_wp2_with fail
      go_ret
      exact HR.out w3 (hb1.trans (hb3.mono hb1.size))
end Go.Proofs.YtkkjkohmekbdbaaDoor
