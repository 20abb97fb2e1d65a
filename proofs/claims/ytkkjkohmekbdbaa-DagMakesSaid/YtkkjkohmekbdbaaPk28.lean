/-
  DagK: Package dag's map from a node's key to its id, as a block of entries in the order of the ids.
  DagT: A Dag of package dag in memory; Put's test of a node.
  DagQ: (*Dag).Put.
  DagR: (*Dag).Put: a node that is new to a Dag that shares; all together.
  DagU: The calls of package dag that come to Put: id, Leaf, Sub, Div, Root, Int; New.
  DagX: Package dag: sums and products of several.
-/
import Derived.Test.YtkkjkohmekbdbaaPk27
import Derived.DeepKeys4
import Derived.Maps.Keyed
import Derived.Maps.OwnOps

namespace Go.Proofs.Ytkkjkohmekbdbaa
open Go.RowKit
open Go.ChangeMaps (setBlock heap_setBlock_same heap_setBlock_other)

/-- What a node's fields are as a key. -/
abbrev nkey (n : Nd) : Value := .agg #[.int .i64 n.1, .int .u64 (n.2.1 : Int), .int .i64 n.2.2.1, .int .i64 n.2.2.2]
/-- Its fields are numbers of their kinds. -/
def NOk (n : Nd) : Prop := -9223372036854775808 ≤ n.1 ∧ n.1 ≤ 9223372036854775807 ∧ n.2.1 < 18446744073709551616 ∧ -9223372036854775808 ≤ n.2.2.1 ∧ n.2.2.1 ≤ 9223372036854775807 ∧ -9223372036854775808 ≤ n.2.2.2 ∧ n.2.2.2 ≤ 9223372036854775807
theorem NOk.of_good {len : Nat} {n : Nd} (h : nbad len n = false) (hv : n.2.1 < 18446744073709551616) : NOk n := by
  unfold nbad nvalid at h
  unfold NOk
  by_cases hk : n.1 = 0
  · rw [if_pos hk, if_pos hk] at h
    simp only [Bool.or_eq_false_iff, Bool.not_eq_false', decide_eq_true_eq] at h
    omega
  · rw [if_neg hk, if_neg hk] at h
    simp only [Bool.or_eq_false_iff, Bool.not_eq_false', decide_eq_true_eq] at h
    obtain ⟨⟨h1, h2, h3, h4, h5, h6⟩, -⟩ := h
    split at h6 <;> omega
set_option maxRecDepth 100000 in
theorem laid_out : laidOutB Try.prog = true := by kernel_rfl
theorem key_row : (63 : TypeId) < Try.prog.types.size := of_decide_eq_true (by kernel_rfl)
theorem key_wide : (match Try.prog.underlying 63 with | some (.array _ _) | some (.struct _) => true | _ => false) = true := by rw [Try.underlying63]
set_option maxRecDepth 100000 in
theorem key_law : WideMaps.KeyLaw Try.prog 63 := deep_law_laid laid_out (m := 2) (by omega) key_row (by kernel_rfl) key_wide
set_option maxRecDepth 100000 in
theorem key_type : Try.prog.keyType 63 = true := by kernel_rfl
theorem key_cells : Try.prog.cellsOf 63 = 4 := by kernel_rfl
theorem int_cells : Try.prog.cellsOf 3 = 1 := by kernel_rfl
theorem u64_cells : Try.prog.cellsOf 57 = 1 := by kernel_rfl
theorem key_formed (x y z u : Value) : (Value.agg #[x, y, z, u]).formed Try.prog 63 = true := by simp [Value.formed, Try.underlying63, key_cells]
theorem int_zero (w : World) : (zeroValue 3).run Try.prog w = .ok (.int .i64 0) w := by kernel_rfl
theorem nkey_inj {x y : Nd} (h : nkey x = nkey y) : x = y := by
  obtain ⟨k, v, a, b⟩ := x
  obtain ⟨k', v', a', b'⟩ := y
  simp only [nkey, Value.agg.injEq, Array.mk.injEq, List.cons.injEq, Value.int.injEq, true_and, and_true] at h
  obtain ⟨rfl, h2, rfl, rfl⟩ := h
  obtain rfl : v = v' := by omega
  rfl
theorem nkey_lits (d : Nat) {k a b v : Int} (w1 : (Lit.int .i64 k).wf = true) (w2 : (Lit.int .u64 v).wf = true) (w3 : (Lit.int .i64 a).wf = true) (w4 : (Lit.int .i64 b).wf = true) :
    ∃ ls, Try.prog.keyLits (d + 2) 63 [.int .i64 k, .int .u64 v, .int .i64 a, .int .i64 b] = some ls := by
  simp [Program.keyLits, Try.underlying63, Try.underlying3, Try.underlying57, key_cells, int_cells, u64_cells, w1, w2, w3, w4]
theorem nkey_lit {n : Nd} (h : NOk n) : ∃ s, keyOf Try.prog 63 (nkey n) = some s := by
  obtain ⟨k, v, a, b⟩ := n
  obtain ⟨h1, h2, h3, h4, h5, h6, h7⟩ := h
  simp only at h1 h2 h3 h4 h5 h6 h7
  obtain ⟨d, hd⟩ : ∃ d, Try.prog.types.size + 1 = d + 2 := ⟨Try.prog.types.size - 1, by have h0 : (0 : Nat) < Try.prog.types.size := Nat.lt_of_le_of_lt (Nat.zero_le _) key_row; omega⟩
  obtain ⟨ls, hls⟩ := nkey_lits d (WalkArith.wf_i64 (n := k) (by omega)) (WalkArith.wf_u64 (n := (v : Int)) (by omega)) (WalkArith.wf_i64 (n := a) (by omega)) (WalkArith.wf_i64 (n := b) (by omega))
  refine ⟨.string (keyBytes ls), ?_⟩
  unfold keyOf
  rw [Try.underlying63]
  simp only [key_type, key_formed, Bool.and_true, if_true, Value.cells, hd, hls, Option.map_some]
/-- The map's entries: the nodes' keys and their places. -/
def Ents (es : Array MapEntry) (l : List Nd) : Prop := es.size = l.length ∧ ∀ (j : Nat) n, l[j]? = some n → ∃ c, es[j]? = some ⟨nkey n, .int .i64 (j : Int), c⟩
theorem Ents.nil : Ents #[] [] := ⟨rfl, fun j n h => by simp at h⟩
theorem Ents.keys {es : Array MapEntry} {l : List Nd} (h : Ents es l) (hok : ∀ x ∈ l, NOk x) : ∀ e ∈ es.toList, ∃ s, keyOf Try.prog 63 e.key = some s := by
  intro e he
  obtain ⟨j, hj, hje⟩ := List.getElem_of_mem he
  have hjl : j < l.length := by rw [← h.1]; simpa using hj
  obtain ⟨c, hc⟩ := h.2 j l[j] (List.getElem?_eq_getElem hjl)
  have : es.toList[j]? = some e := by rw [List.getElem?_eq_getElem hj, hje]
  rw [Array.getElem?_toList, hc] at this
  simp only [Option.some.injEq] at this
  subst this
  exact nkey_lit (hok _ (List.getElem_mem hjl))
theorem Ents.find {es : Array MapEntry} {l : List Nd} (h : Ents es l) (hok : ∀ x ∈ l, NOk x) (hd : l.Nodup) {n : Nd} (hn : NOk n) (w : World) :
    (∃ j, nfind l n = some j ∧ (Instr.findKey 63 (nkey n) es.toList).run Try.prog w = .ok (some (j, .int .i64 (j : Int))) w) ∨ (nfind l n = none ∧ (Instr.findKey 63 (nkey n) es.toList).run Try.prog w = .ok none w) := by
  obtain ⟨s, hs⟩ := nkey_lit hn
  rcases key_law.find w hs es.toList (h.keys hok) with ⟨h1, h2⟩ | ⟨j, e, h1, h2, h3⟩
  · right
    refine ⟨nfind_none fun j hj hx => ?_, h1⟩
    obtain ⟨c, hc⟩ := h.2 j n hx
    exact h2 _ (Array.mem_toList_iff.2 (Array.mem_of_getElem? hc)) rfl
  · left
    rw [Array.getElem?_toList] at h2
    have hjl : j < l.length := by rw [← h.1]; exact (Array.getElem?_eq_some_iff.1 h2).1
    obtain ⟨c, hc⟩ := h.2 j l[j] (List.getElem?_eq_getElem hjl)
    rw [h2] at hc
    simp only [Option.some.injEq] at hc
    subst hc
    have hx : l[j] = n := nkey_inj h3
    refine ⟨j, nfind_some (by rw [List.getElem?_eq_getElem hjl, hx]) (fun i hi e => ?_), h1⟩
    have hil : i < l.length := by omega
    rw [List.getElem?_eq_getElem hil] at e
    simp only [Option.some.injEq] at e
    exact List.pairwise_iff_getElem.1 hd i j hil hjl hi (e.trans hx.symm)
/-- 'id, ok := m[k]' in the map of a Dag that shares. -/
theorem look_old {es : Array MapEntry} {l : List Nd} {clock g j : Nat} {w : World} (hb : w.heap[g]? = some (.map es clock)) (h : Ents es l) (hok : ∀ x ∈ l, NOk x) (hd : l.Nodup) {n : Nd} (hn : NOk n) (hf : nfind l n = some j) :
    (Instr.lookup 52 (.map (some g)) (nkey n) true).run Try.prog w = .ok (.tuple #[.int .i64 (j : Int), .bool true]) w := by
  obtain ⟨s, hs⟩ := nkey_lit hn
  rcases h.find hok hd hn w with ⟨i, h1, h2⟩ | ⟨h1, -⟩
  · obtain rfl : i = j := by rw [hf] at h1; simpa using h1.symm
    simp [Instr.lookup, run_underlying Try.underlying52, Go.MapKept.run_getObj_map hb, key_law.check w _ hs, h2, Result.andThen]
  · rw [hf] at h1; cases h1
theorem look_new {es : Array MapEntry} {l : List Nd} {clock g : Nat} {w : World} (hb : w.heap[g]? = some (.map es clock)) (h : Ents es l) (hok : ∀ x ∈ l, NOk x) (hd : l.Nodup) {n : Nd} (hn : NOk n) (hf : nfind l n = none) :
    (Instr.lookup 52 (.map (some g)) (nkey n) true).run Try.prog w = .ok (.tuple #[.int .i64 0, .bool false]) w := by
  obtain ⟨s, hs⟩ := nkey_lit hn
  rcases h.find hok hd hn w with ⟨i, h1, -⟩ | ⟨-, h2⟩
  · rw [hf] at h1; cases h1
  · simp [Instr.lookup, run_underlying Try.underlying52, Go.MapKept.run_getObj_map hb, key_law.check w _ hs, h2, int_zero w, Result.andThen]
theorem look_none {n : Nd} (hn : NOk n) (w : World) : (Instr.lookup 52 (.map none) (nkey n) true).run Try.prog w = .ok (.tuple #[.int .i64 0, .bool false]) w := by
  obtain ⟨s, hs⟩ := nkey_lit hn
  rcases Ents.nil.find (fun _ h => by simp at h) List.nodup_nil hn w with ⟨i, h1, -⟩ | ⟨-, h2⟩
  · cases h1
  · simp at h2
    simp [Instr.lookup, run_underlying Try.underlying52, key_law.check w _ hs, h2, int_zero w, Result.andThen]
/-- 'm[k] = id' at a key that isn't there. -/
theorem put_key {es : Array MapEntry} {l : List Nd} {clock g : Nat} {w : World} (hb : w.heap[g]? = some (.map es clock)) (h : Ents es l) (hok : ∀ x ∈ l, NOk x) (hd : l.Nodup) {n : Nd} (hn : NOk n) (hf : nfind l n = none) (v : Value) :
    (Instr.mapUpdate 52 (.map (some g)) (nkey n) v).run Try.prog w = .ok () (setBlock w g (.map (es.push ⟨nkey n, v, clock⟩) (clock + 1))) := by
  obtain ⟨s, hs⟩ := nkey_lit hn
  rcases h.find hok hd hn w with ⟨i, h1, -⟩ | ⟨-, h2⟩
  · rw [hf] at h1; cases h1
  · simp [Instr.mapUpdate, run_underlying Try.underlying52, Go.MapKept.run_getObj_map hb, key_law.check w _ hs, h2, Go.MapKept.run_setObj_map _ hb, Result.andThen, setBlock]
theorem Ents.push {es : Array MapEntry} {l : List Nd} (h : Ents es l) (n : Nd) (c : Nat) : Ents (es.push ⟨nkey n, .int .i64 (l.length : Int), c⟩) (l ++ [n]) := by
  refine ⟨by simp [h.1], fun j x hx => ?_⟩
  rcases Nat.lt_or_ge j l.length with hj | hj
  · rw [List.getElem?_append_left hj] at hx
    obtain ⟨c', hc⟩ := h.2 j x hx
    exact ⟨c', by rw [Array.getElem?_push, if_neg (by rw [h.1]; omega)]; exact hc⟩
  · rw [List.getElem?_append_right hj] at hx
    have : j = l.length := by
      rcases Nat.lt_or_ge (j - l.length) 1 with h1 | h1
      · omega
      · rw [List.getElem?_eq_none (by simpa using h1)] at hx; cases hx
    subst this
    simp only [Nat.sub_self, List.getElem?_cons_zero, Option.some.injEq] at hx
    subst hx
    exact ⟨c, by rw [Array.getElem?_push, if_pos h.1.symm]⟩
theorem nfind_none_iff {l : List Nd} {n : Nd} (h : nfind l n = none) : n ∉ l := by
  induction l with
  | nil => simp
  | cons x l ih =>
    unfold nfind at h
    split at h
    · cases h
    · rename_i hne
      simp only [Option.map_eq_none_iff] at h
      simp only [List.mem_cons, not_or]
      exact ⟨fun e => hne e.symm, ih h⟩
theorem nodup_snoc {l : List Nd} {n : Nd} (h : l.Nodup) (hn : n ∉ l) : (l ++ [n]).Nodup := by
  rw [List.nodup_append]
  refine ⟨h, by simp, fun a ha b hb e => ?_⟩
  simp only [List.mem_singleton] at hb
  subst hb
  exact hn (e ▸ ha)
/-- A store into a map as one step of a region that draws. -/
theorem step_mapUpdate {P : Program} (w : World) {ops : Array Oper} {o : Oper} {a : Act} {K : Act → World → Prop} {Q : Exit → Act → World → Prop} {E : Prop} (hgd : o.guard = none) (m x v : Operand) (t : TypeId)
    (ho : o.op = Op.mapUpdate t m x v) (mv key val : Value) (hm : a.eval m = mv) (hx : a.eval x = key) (hv : a.eval v = val) (w' : World) (hr : (Instr.mapUpdate t mv key val).run P w = .ok () w')
    (hK : K (a.put o.dst undef) w') : if Region.wanted o (yielded ops a.tmps) = true then Oper.wp P o a w K Q else E := by
  have hw : Region.wanted o (yielded ops a.tmps) = true := by simp [Region.wanted, hgd]
  rw [if_pos hw]
  unfold Oper.wp
  simp [execOp, ho, hm, hx, hv, hr, Result.andThen]
  exact hK
theorem chg_setBlock {F : Nat → Prop} {w : World} {g clock : Nat} {es : Array MapEntry} (hb : w.heap[g]? = some (.map es clock)) (o : Obj) (hF : F g) : Chg F w (setBlock w g o) :=
  ⟨rfl, rfl, rfl, by simp [setBlock], fun k _ hk => heap_setBlock_other hb o (fun e => hk (e ▸ hF))⟩
end Go.Proofs.Ytkkjkohmekbdbaa

namespace Go.Proofs.Ytkkjkohmekbdbaa
open Go.RowKit
open Go.ChangeMaps (setBlock heap_setBlock_same heap_setBlock_other)

/-- A Dag: its block, its nodes, its map. -/
def DA (w : World) (g : Nat) (v : Value) (m : Option Nat) (l : List Nd) (s : Bool) : Prop :=
  w.heap[g]? = some (.cells #[v, .map m] 54 (0, 0)) ∧ OwN 0 w v l ∧ (l = [] → v = .slice none 0 0) ∧ (∀ n ∈ l, NOk n) ∧
  ((s = false ∧ m = none) ∨ (s = true ∧ l.Nodup ∧ ∃ gm es clock, m = some gm ∧ w.heap[gm]? = some (.map es clock) ∧ Ents es l))
/-- Its blocks. -/
def FD (g : Nat) (v : Value) (m : Option Nat) (k : Nat) : Prop := k = g ∨ v.ownBlock = some k ∨ m = some k
def DD (w : World) (d : Value) (l : List Nd) (s : Bool) (F : Nat → Prop) : Prop := ∃ g v m, d = .pointer (some ⟨g, 0, none⟩) ∧ DA w g v m l s ∧ F = FD g v m
section
variable {w : World} {g : Nat} {v : Value} {m : Option Nat} {l : List Nd} {s : Bool}
theorem DA.lt (h : DA w g v m l s) : ∀ k, FD g v m k → k < w.heap.size := by
  obtain ⟨h1, h2, -, -, h3⟩ := h
  rintro k (rfl | hk | hk)
  · exact (Array.getElem?_eq_some_iff.1 h1).1
  · exact (h2.lt k hk).2
  · rcases h3 with ⟨-, rfl⟩ | ⟨-, -, gm, es, clock, rfl, h4, -⟩
    · cases hk
    · simp only [Option.some.injEq] at hk
      subst hk
      exact (Array.getElem?_eq_some_iff.1 h4).1
theorem DA.same (h : DA w g v m l s) {w' : World} (hb : ∀ k, FD g v m k → w'.heap[k]? = w.heap[k]?) : DA w' g v m l s := by
  obtain ⟨h1, h2, h3, h4, h5⟩ := h
  refine ⟨(hb g (Or.inl rfl)).trans h1, h2.same fun k hk => hb k (Or.inr (Or.inl hk)), h3, h4, ?_⟩
  rcases h5 with h5 | ⟨h5, h6, gm, es, clock, rfl, h7, h8⟩
  · exact Or.inl h5
  · exact Or.inr ⟨h5, h6, gm, es, clock, rfl, (hb gm (Or.inr (Or.inr rfl))).trans h7, h8⟩
theorem DA.below (h : DA w g v m l s) {w' : World} (hb : Below w.heap.size w w') : DA w' g v m l s := h.same fun k hk => hb.block k (h.lt k hk)
theorem DA.dd (h : DA w g v m l s) : DD w (.pointer (some ⟨g, 0, none⟩)) l s (FD g v m) := ⟨g, v, m, rfl, h, rfl⟩
theorem DA.len (h : DA w g v m l s) : Calls Try.prog 21 #[.pointer (some ⟨g, 0, none⟩)] w fun e w' => e = .returned (.int .i64 (l.length : Int)) ∧ w = w' := by
  obtain ⟨ao, cap, rfl, -⟩ := h.2.1.form
  exact dlen_num w h.1
theorem DA.has (h : DA w g v m l s) (x : Int) : Calls Try.prog 33 #[.pointer (some ⟨g, 0, none⟩), .int .i64 x] w fun e w' => e = .returned (.bool (decide (0 ≤ x ∧ x < (l.length : Int)))) ∧ w = w' := dhas_any x w h.len
end
theorem dd_lt {w : World} {d : Value} {l : List Nd} {s : Bool} {F : Nat → Prop} (h : DD w d l s F) : ∀ k, F k → k < w.heap.size := by
  obtain ⟨g, v, m, rfl, h1, rfl⟩ := h
  exact h1.lt
theorem dd_keep {w w' : World} {d : Value} {l : List Nd} {s : Bool} {F : Nat → Prop} (h : DD w d l s F) (hb : ∀ k, F k → w'.heap[k]? = w.heap[k]?) : DD w' d l s F := by
  obtain ⟨g, v, m, rfl, h1, rfl⟩ := h
  exact ⟨g, v, m, rfl, h1.same hb, rfl⟩
theorem dd_form {w : World} {d : Value} {l : List Nd} {s : Bool} {F : Nat → Prop} (h : DD w d l s F) : ∃ g, d = .pointer (some ⟨g, 0, none⟩) := by
  obtain ⟨g, v, m, rfl, h1, rfl⟩ := h
  exact ⟨g, rfl⟩
set_option maxRecDepth 100000 in
set_option maxHeartbeats 2000000 in
/-- (*Dag).fits. -/
theorem dfits_num {w : World} {g : Nat} {vs : Value} {m : Option Nat} {l : List Nd} {s : Bool} (h : DA w g vs m l s) (nd : Nd) (hv : nd.2.1 < 18446744073709551616) :
    Calls Try.prog 30 #[.pointer (some ⟨g, 0, none⟩), nval nd] w fun e w' => e = .returned (.bool (!nbad l.length nd)) ∧ Below w.heap.size w w' := by
  obtain ⟨k, v, a, b⟩ := nd
  obtain ⟨n, hn⟩ : ∃ n, l.length = n := ⟨_, rfl⟩
  have HH := Lib.hid h
  have HN := Lib.hid hn
  rw [hn]
  simp only at hv
  simp only [nval]
  have HVD := Lib.hid (cvalid_num (k, v, a, b))
  simp only [nval] at HVD
  have HFI := Lib.hid (fun w => finite_num v w hv)
  obtain ⟨w1, hw1⟩ : ∃ w1, w.alloc (.cells #[.int .i64 k, .float .f64 v, .int .i64 a, .int .i64 b] 35) = w1 := ⟨_, rfl⟩
  have hb1 : Below w.heap.size w w1 := hw1 ▸ below_alloc w _
  have hc1 : w1.heap[w.heap.size]? = some (.cells #[.int .i64 k, .float .f64 v, .int .i64 a, .int .i64 b] 35 (0, 0)) := hw1 ▸ heap_alloc_new w _
  have hsz := hb1.size
  obtain ⟨q0, q1, q2, q3⟩ := slot4 hc1
  have key : ∀ r : Bool, r = !nbad n (k, v, a, b) → Hid ((!nbad n (k, v, a, b)) = r) := fun r h => Lib.hid h.symm
  clear h hn
  by_cases hval : nvalid (k, v, a, b) = true
  · rw [hval] at HVD
    by_cases hk : k = 0
    · subst hk
      have HR := key (decide (rg v < INF)) (by unfold nbad; rw [hval]; simp only [if_pos, Bool.not_true, Bool.false_or, decide_not, Bool.not_not])
      obtain ⟨fr, hfr⟩ : ∃ fr, decide (rg v < INF) = fr := ⟨_, rfl⟩
      rw [hfr] at HR HFI
      clear key hval hfr
      go_enter Try.func30, Try.ntmps30
      go_wp2_with fail
      refine (HVD.out _).mono ?_
      rintro e w2 ⟨rfl, hb2⟩
      clear q0 q1 q2 q3
      have hbw : Below w.heap.size w w2 := hb1.trans (hb2.mono hsz)
      obtain ⟨q0, q1, q2, q3⟩ := slot4 (slot_kept hc1 hb2)
      clear hc1
      go_wp2_with fail
      refine (HFI.out _).mono ?_
      rintro e w3 ⟨rfl, rfl⟩
      go_wp2_with fail
      go_ret
      exact ⟨congrArg (fun r => Ending.returned (Value.bool r)) HR.out.symm, hbw⟩
    · obtain ⟨d0, d1, d2⟩ := bne_of hk
      by_cases ha : 0 ≤ a ∧ a < (n : Int)
      · have HR := key (decide (0 ≤ b ∧ b < (n : Int))) (by unfold nbad; unfold nvalid at hval ⊢; simp only [if_neg hk] at hval ⊢; rw [hval]; simp only [decide_eq_true_eq] at hval; by_cases h5 : k = 5 <;> by_cases hB : 0 ≤ b ∧ b < (n : Int) <;> simp [h5, hB] <;> simp [h5] at hval <;> omega)
        obtain ⟨fr, hfr⟩ : ∃ fr, decide (0 ≤ b ∧ b < (n : Int)) = fr := ⟨_, rfl⟩
        have HA1 : Hid (decide (0 ≤ a ∧ a < (n : Int)) = true) := Lib.hid (decide_eq_true ha)
        have HB1 := Lib.hid hfr
        rw [hfr] at HR
        clear key hval hfr ha hk
        go_enter Try.func30, Try.ntmps30
        go_wp2_with fail
        refine (HVD.out _).mono ?_
        rintro e w2 ⟨rfl, hb2⟩
        clear q0 q1 q2 q3
        have hbw : Below w.heap.size w w2 := hb1.trans (hb2.mono hsz)
        obtain ⟨q0, q1, q2, q3⟩ := slot4 (slot_kept hc1 hb2)
        clear hc1
        have hHA := fun x => (HH.out.below hbw).has x
        have HHA := Lib.hid hHA
        clear hHA
        rw [HN.out] at HHA
        go_wp2_with fail
        refine (HHA.out a).mono ?_
        rintro e w3 ⟨rfl, rfl⟩
        rw [HA1.out]
        go_wp2_with fail
        refine (HHA.out b).mono ?_
        rintro e w3 ⟨rfl, rfl⟩
        rw [HB1.out]
        go_wp2_with fail
        go_ret
        exact ⟨congrArg (fun r => Ending.returned (Value.bool r)) HR.out.symm, hbw⟩
      · have HR := key false (by unfold nbad; unfold nvalid at hval ⊢; simp only [if_neg hk] at hval ⊢; rw [hval]; simp only [decide_eq_true_eq] at hval; simp; omega)
        have HA1 : Hid (decide (0 ≤ a ∧ a < (n : Int)) = false) := Lib.hid (decide_eq_false ha)
        clear key hval ha hk
        go_enter Try.func30, Try.ntmps30
        go_wp2_with fail
        refine (HVD.out _).mono ?_
        rintro e w2 ⟨rfl, hb2⟩
        clear q0 q1 q2 q3
        have hbw : Below w.heap.size w w2 := hb1.trans (hb2.mono hsz)
        obtain ⟨q0, q1, q2, q3⟩ := slot4 (slot_kept hc1 hb2)
        clear hc1
        have hHA := fun x => (HH.out.below hbw).has x
        have HHA := Lib.hid hHA
        clear hHA
        rw [HN.out] at HHA
        go_wp2_with fail
        refine (HHA.out a).mono ?_
        rintro e w3 ⟨rfl, rfl⟩
        rw [HA1.out]
        go_wp2_with fail
        go_ret
        exact ⟨congrArg (fun r => Ending.returned (Value.bool r)) HR.out.symm, hbw⟩
  · have hval := Bool.eq_false_iff.2 hval
    rw [hval] at HVD
    have HR := key false (by unfold nbad; rw [hval]; rfl)
    clear key hval
    go_enter Try.func30, Try.ntmps30
    go_wp2_with fail
    refine (HVD.out _).mono ?_
    rintro e w2 ⟨rfl, hb2⟩
    clear q0 q1 q2 q3
    have hbw : Below w.heap.size w w2 := hb1.trans (hb2.mono hsz)
    obtain ⟨q0, q1, q2, q3⟩ := slot4 (slot_kept hc1 hb2)
    clear hc1
    go_wp2_with fail
    go_ret
    exact ⟨congrArg (fun r => Ending.returned (Value.bool r)) HR.out.symm, hbw⟩
end Go.Proofs.Ytkkjkohmekbdbaa

namespace Go.Proofs.Ytkkjkohmekbdbaa
open Go.RowKit
open Go.ChangeMaps (setBlock heap_setBlock_same heap_setBlock_other)

theorem dmal (w : World) : Calls Try.prog 29 #[] w fun e w' => e = .returned (.iface 67 (.int .i64 1)) ∧ w = w' := by
  go_enter Try.func29, Try.ntmps29
  go_wp2_with fail
  go_ret
  exact ⟨rfl, rfl⟩
theorem dnode (n : Int) (t : TypeId) (x : Value) (w : World) : Calls Try.prog 31 #[.int .i64 n, .iface t x] w fun e w' => e = .returned (.iface 68 (.pointer (some ⟨w.heap.size, 0, none⟩))) ∧ w' = w.alloc (.cells #[.int .i64 n, .iface t x] 70) := by
  go_enter Try.func31, Try.ntmps31
  go_wp2_with fail
  go_ret
  exact ⟨rfl, rfl⟩
/-- A node has been put, or not: what Put returns, the Dag then. -/
def RetDP (w : World) (g : Nat) (v : Value) (m : Option Nat) (l : List Nd) (s : Bool) (n : Nd) (e : Ending) (w' : World) : Prop :=
  ∃ err, RetD DD w (.pointer (some ⟨g, 0, none⟩)) (nput s l n).2 s (FD g v m) (.tuple #[.int .i64 (idI (nput s l n).1), err]) e w' ∧ ((nput s l n).1 = none → ErrAt w.heap.size w' err (l.length : Int)) ∧ ((nput s l n).1 ≠ none → err = .nilIface)
section
variable {w : World} {g : Nat} {v : Value} {m : Option Nat} {l : List Nd} {s : Bool} {nd : Nd}
theorem retp_bad (h : DA w g v m l s) (hg : nbad l.length nd = true) {w2 : World} (hb : Below w.heap.size w w2) :
    RetDP w g v m l s nd (.returned (.tuple #[.int .i64 (-1), .iface 68 (.pointer (some ⟨w2.heap.size, 0, none⟩))])) (w2.alloc (.cells #[.int .i64 (l.length : Int), .iface 67 (.int .i64 1)] 70)) := by
  have hb2 := hb.trans ((below_alloc w2 (.cells #[.int .i64 (l.length : Int), .iface 67 (.int .i64 1)] 70)).mono hb.size)
  unfold RetDP
  rw [nput_bad hg]
  exact ⟨_, ⟨rfl, _, (h.below hb2).dd, fun k hk => Or.inl hk, Chg.of hb2⟩, fun _ => ⟨_, hb.size, rfl, heap_alloc_new w2 _⟩, fun h => absurd rfl h⟩
theorem retp_old (h : DA w g v m l true) (hg : nbad l.length nd = false) {j : Nat} (hj : nfind l nd = some j) {w2 : World} (hb : Below w.heap.size w w2) :
    RetDP w g v m l true nd (.returned (.tuple #[.int .i64 (j : Int), .nilIface])) w2 := by
  unfold RetDP
  rw [nput_old hg hj]
  exact ⟨_, ⟨rfl, _, (h.below hb).dd, fun k hk => Or.inl hk, Chg.of hb⟩, fun h => by simp at h, fun _ => rfl⟩
/-- The Dag's block and its map's are not the block that an append turns. -/
theorem DA.apart (h : DA w g v m l s) : (∀ k, v.ownBlock = some k → k ≠ g ∧ m ≠ some k) ∧ m ≠ some g := by
  obtain ⟨h1, h2, -, -, h3⟩ := h
  have hm : ∀ k, m = some k → ∃ es clock, w.heap[k]? = some (.map es clock) := by
    intro k hk
    rcases h3 with ⟨-, rfl⟩ | ⟨-, -, gm, es, clock, rfl, h4, -⟩
    · cases hk
    · simp only [Option.some.injEq] at hk
      subst hk
      exact ⟨es, clock, h4⟩
  refine ⟨fun k hk => ?_, fun hg => ?_⟩
  · rcases h2.2 with ⟨rfl, -⟩ | ⟨g', cap, cur, rfl, -, hh, -⟩
    · simp [Value.ownBlock] at hk
    · simp only [Value.ownBlock, Option.some.injEq] at hk
      subst hk
      refine ⟨fun e => ?_, fun e => ?_⟩
      · subst e
        rw [h1] at hh
        simp only [Option.some.injEq, Obj.cells.injEq] at hh
        exact absurd hh.2.1 (by decide)
      · obtain ⟨es, clock, h5⟩ := hm _ e
        rw [h5] at hh
        simp at hh
  · obtain ⟨es, clock, h5⟩ := hm _ hg
    rw [h5] at h1
    simp at h1
/-- The Dag's own block is not the one that an append turns. -/
theorem dput_kept {base : Nat} {w w' : World} {g : Nat} {v : Value} {cs : Array Value} {l : List Nd} {o : Obj} (hd : w.heap[g]? = some (.cells cs 54 (0, 0))) (hO : OwN base w v l) (hg : (w.alloc o).grownBy w' v.ownBlock) : w'.heap[g]? = some (.cells cs 54 (0, 0)) := by
  have hlt : g < w.heap.size := (Array.getElem?_eq_some_iff.1 hd).1
  rw [hg.block g (by simp; omega) (fun e => ?_)]
  · exact slot_kept hd (below_alloc w o)
  · rcases hO.2 with ⟨rfl, -⟩ | ⟨g', cap, cur, rfl, -, hh, -⟩
    · simp [Value.ownBlock] at e
    · simp only [Value.ownBlock, Option.some.injEq] at e
      subst e
      rw [hd] at hh
      simp only [Option.some.injEq, Obj.cells.injEq] at hh
      exact absurd hh.2.1 (by decide)
/-- What an append to a Dag's nodes and the store behind it leave. -/
theorem da_app {wr w5 : World} {v' : Value} {o : Obj} (h : DA w g v m l s) (hb : Below w.heap.size w wr) (hO : OwN 0 w5 v' (l ++ [nd])) (hgr : (wr.alloc o).grownBy w5 v.ownBlock) (hat : v'.ownBlock = v.ownBlock ∨ v'.ownBlock = some (wr.alloc o).heap.size)
    (he : w5.heap[g]? = some (.cells #[v, .map m] 54 (0, 0))) :
    (w5.setCell ⟨g, 0, none⟩ v').heap[g]? = some (.cells #[v', .map m] 54 (0, 0)) ∧ OwN 0 (w5.setCell ⟨g, 0, none⟩ v') v' (l ++ [nd]) ∧ (∀ gm o, m = some gm → w.heap[gm]? = some o → (w5.setCell ⟨g, 0, none⟩ v').heap[gm]? = some o) ∧
      (∀ k, FD g v' m k → FD g v m k ∨ w.heap.size ≤ k) ∧ Chg (FD g v m) w (w5.setCell ⟨g, 0, none⟩ v') := by
  obtain ⟨hap, hmg⟩ := h.apart
  have hsz := hb.size
  have hgw := h.lt g (Or.inl rfl)
  have hne : ∀ k, v'.ownBlock = some k → k ≠ g := by
    rintro k hk rfl
    rcases hat with e | e
    · exact (hap k (e ▸ hk)).1 rfl
    · rw [e] at hk
      simp at hk
      omega
  have hmm : ∀ gm, m = some gm → w5.heap[gm]? = (wr.alloc o).heap[gm]? := by
    intro gm hm
    refine hgr.block gm (by have := h.lt gm (Or.inr (Or.inr hm)); simp; omega) (fun e => (hap gm e.symm).2 hm)
  refine ⟨?_, hO.same fun k hk => heap_setCell_other _ _ _ _ (hne k hk), ?_, ?_, ?_⟩
  · rw [heap_setCell_same w5 g 0 _ _ _ he]; rfl
  · intro gm o' hm ho
    rw [heap_setCell_other _ _ _ _ (fun e => hmg (by rw [← show gm = g from e]; exact hm)), hmm gm hm]
    have hlt := h.lt gm (Or.inr (Or.inr hm))
    rw [((below_alloc wr o).mono hsz).block gm hlt, hb.block gm hlt]
    exact ho
  · rintro k (rfl | hk | hk)
    · exact Or.inl (Or.inl rfl)
    · rcases hat with e | e
      · exact Or.inl (Or.inr (Or.inl (e ▸ hk)))
      · right
        rw [e] at hk
        simp at hk
        omega
    · exact Or.inl (Or.inr (Or.inr hk))
  · have c1 : Chg (FD g v m) w (wr.alloc o) := Chg.of (hb.trans ((below_alloc wr o).mono hb.size))
    have c2 : Chg (FD g v m) (wr.alloc o) w5 := ⟨hgr.os, hgr.tape, hgr.output, hgr.size, fun k hk hF => hgr.block k hk (fun e => hF (Or.inr (Or.inl e.symm)))⟩
    have c3 : Chg (FD g v m) w5 (w5.setCell ⟨g, 0, none⟩ v') := Chg.only (Only.store (b := g) (lo := 0) (hi := 1) 0 v' (Nat.le_refl _) (by decide)) (Or.inl rfl)
    exact (c1.trans c2 (fun x hx => Or.inl hx)).trans c3 (fun x hx => Or.inl hx)
theorem all_snoc (h : ∀ n ∈ l, NOk n) (hok : NOk nd) : ∀ n ∈ l ++ [nd], NOk n := by
  intro n hn
  rcases List.mem_append.1 hn with h1 | h1
  · exact h n h1
  · simp only [List.mem_singleton] at h1
    exact h1 ▸ hok
/-- A Dag that doesn't share has grown by a node. -/
theorem retp_plain {wr w5 : World} {v' : Value} {o : Obj} (h : DA w g v none l false) (hg : nbad l.length nd = false) (hok : NOk nd) (hb : Below w.heap.size w wr) (hO : OwN 0 w5 v' (l ++ [nd])) (hgr : (wr.alloc o).grownBy w5 v.ownBlock)
    (hat : v'.ownBlock = v.ownBlock ∨ v'.ownBlock = some (wr.alloc o).heap.size) (he : w5.heap[g]? = some (.cells #[v, .map none] 54 (0, 0))) :
    RetDP w g v none l false nd (.returned (.tuple #[.int .i64 (l.length : Int), .nilIface])) (w5.setCell ⟨g, 0, none⟩ v') := by
  obtain ⟨h1, h2, -, h4, h5⟩ := da_app h hb hO hgr hat he
  unfold RetDP
  rw [nput_new hg (fun e => by cases e)]
  have hd : DA (w5.setCell ⟨g, 0, none⟩ v') g v' none (l ++ [nd]) false := ⟨h1, h2, fun e => by simp at e, all_snoc h.2.2.2.1 hok, Or.inl ⟨rfl, rfl⟩⟩
  exact ⟨_, ⟨rfl, _, hd.dd, h4, h5⟩, fun h => by simp at h, fun _ => rfl⟩
/-- A Dag that shares has grown by a node. -/
theorem retp_new {wr w5 w6 : World} {v' : Value} {o : Obj} {gm : Nat} {es : Array MapEntry} {clock : Nat} (h : DA w g v (some gm) l true) (hm : w.heap[gm]? = some (.map es clock)) (hE : Ents es l) (hg : nbad l.length nd = false) (hok : NOk nd) (hf : nfind l nd = none) (hb : Below w.heap.size w wr) (hO : OwN 0 w5 v' (l ++ [nd])) (hgr : (wr.alloc o).grownBy w5 v.ownBlock)
    (hat : v'.ownBlock = v.ownBlock ∨ v'.ownBlock = some (wr.alloc o).heap.size) (he : w5.heap[g]? = some (.cells #[v, .map (some gm)] 54 (0, 0))) (h6 : Below (w5.setCell ⟨g, 0, none⟩ v').heap.size (w5.setCell ⟨g, 0, none⟩ v') w6) :
    RetDP w g v (some gm) l true nd (.returned (.tuple #[.int .i64 (l.length : Int), .nilIface])) (setBlock w6 gm (.map (es.push ⟨nkey nd, .int .i64 (l.length : Int), clock⟩) (clock + 1))) := by
  obtain ⟨h1, h2, h3, h4, h5⟩ := da_app h hb hO hgr hat he
  obtain ⟨-, hmg⟩ := h.apart
  have hm5 := h3 gm _ rfl hm
  have hm6 : w6.heap[gm]? = some (.map es clock) := by rw [h6.block gm (Array.getElem?_eq_some_iff.1 hm5).1]; exact hm5
  have hnd : l.Nodup := by
    rcases h.2.2.2.2 with ⟨e, -⟩ | ⟨-, h, -⟩
    · cases e
    · exact h
  have hvg : ∀ k, v'.ownBlock = some k → k ≠ gm := by
    rintro k hk rfl
    rcases h2.2 with ⟨rfl, -⟩ | ⟨g', cap, cur, rfl, -, hh, -⟩
    · simp [Value.ownBlock] at hk
    · simp only [Value.ownBlock, Option.some.injEq] at hk
      subst hk
      rw [hm5] at hh
      simp at hh
  unfold RetDP
  rw [nput_new hg (fun _ => hf)]
  have hd : DA (setBlock w6 gm (.map (es.push ⟨nkey nd, .int .i64 (l.length : Int), clock⟩) (clock + 1))) g v' (some gm) (l ++ [nd]) true := by
    refine ⟨?_, (h2.below h6).same fun k hk => heap_setBlock_other hm6 _ (hvg k hk), fun e => by simp at e, all_snoc h.2.2.2.1 hok, Or.inr ⟨rfl, nodup_snoc hnd (nfind_none_iff hf), gm, _, _, rfl, heap_setBlock_same hm6 _, hE.push nd clock⟩⟩
    rw [heap_setBlock_other hm6 _ (fun e => hmg (by rw [e])), h6.block g (Array.getElem?_eq_some_iff.1 h1).1]
    exact h1
  exact ⟨_, ⟨rfl, _, hd.dd, h4, (h5.trans (Chg.of h6) (fun x hx => Or.inl hx)).trans (chg_setBlock hm6 _ (Or.inr (Or.inr rfl))) (fun x hx => Or.inl hx)⟩, fun h => by simp at h, fun _ => rfl⟩
end
set_option maxRecDepth 100000 in
set_option maxHeartbeats 4000000 in
theorem dput_bad {w : World} {g : Nat} {vl : Value} {m : Option Nat} {l : List Nd} {s : Bool} (nd : Nd) (h : DA w g vl m l s) (hv : nd.2.1 < 18446744073709551616) (hbad : nbad l.length nd = true) :
    Calls Try.prog 19 #[.pointer (some ⟨g, 0, none⟩), nval nd] w fun e w' => RetDP w g vl m l s nd e w' := by
  obtain ⟨k, v, a, b⟩ := nd
  have HG := Lib.hid hbad
  have HP := Lib.hid h
  have HFT := Lib.hid (fun (w' : World) (hb : Below w.heap.size w w') => dfits_num (h.below hb) (k, v, a, b) hv)
  simp only [nval] at HFT
  rw [hbad] at HFT
  obtain ⟨n, hn⟩ : ∃ n, l.length = n := ⟨_, rfl⟩
  have HN := Lib.hid hn
  simp only [nval]
  obtain ⟨w1, hw1⟩ : ∃ w1, w.alloc (.cells #[.int .i64 k, .float .f64 v, .int .i64 a, .int .i64 b] 35) = w1 := ⟨_, rfl⟩
  have hb1 : Below w.heap.size w w1 := hw1 ▸ below_alloc w _
  have hc1 : w1.heap[w.heap.size]? = some (.cells #[.int .i64 k, .float .f64 v, .int .i64 a, .int .i64 b] 35 (0, 0)) := hw1 ▸ heap_alloc_new w _
  have hsz := hb1.size
  have HRB := Lib.hid (fun (w2 : World) (hb : Below w.heap.size w w2) => retp_bad h hbad hb)
  rw [hn] at HRB
  clear h hn hbad
  go_enter Try.func19, Try.ntmps19
  obtain ⟨q0, q1, q2, q3⟩ := slot4 hc1
  go_wp2_with fail
  refine (HFT.out _ hb1).mono ?_
  rintro e w2 ⟨rfl, hb2⟩
  clear q0 q1 q2 q3
  have hbw : Below w.heap.size w w2 := hb1.trans (hb2.mono hsz)
  have HLN := Lib.hid ((HP.out.below hbw).len)
  rw [HN.out] at HLN
  go_wp2_with fail
  refine HLN.out.mono ?_
  rintro e w5 ⟨rfl, rfl⟩
  go_wp2_with fail
  refine (dmal _).mono ?_
  rintro e w5 ⟨rfl, rfl⟩
  go_wp2_with fail
  refine (dnode _ _ _ _).mono ?_
  rintro e w5 ⟨rfl, rfl⟩
  go_wp2_with fail
  go_ret2
  exact HRB.out _ hbw
set_option maxRecDepth 100000 in
set_option maxHeartbeats 4000000 in
theorem dput_plain {w : World} {g : Nat} {vl : Value} {m : Option Nat} {l : List Nd} (nd : Nd) (h : DA w g vl m l false) (hl : l.length ≤ 10000) (hv : nd.2.1 < 18446744073709551616) (hgood : nbad l.length nd = false) :
    Calls Try.prog 19 #[.pointer (some ⟨g, 0, none⟩), nval nd] w fun e w' => RetDP w g vl m l false nd e w' := by
  obtain ⟨k, v, a, b⟩ := nd
  have HOK := Lib.hid (NOk.of_good hgood hv)
  have HG := Lib.hid hgood
  have HFT := Lib.hid (fun (w' : World) (hb : Below w.heap.size w w') => dfits_num (h.below hb) (k, v, a, b) hv)
  simp only [nval] at HFT
  rw [hgood] at HFT
  obtain rfl : m = none := by
    rcases h.2.2.2.2 with ⟨-, h⟩ | ⟨h, -⟩
    · exact h
    · cases h
  obtain ⟨va, vc, rfl, hvc, hvc2, hrd, hblk⟩ := h.2.1.form
  obtain ⟨n, hn⟩ : ∃ n, l.length = n := ⟨_, rfl⟩
  have HP := Lib.hid h
  have HN := Lib.hid hn
  have hc := h.1
  have hgw := h.lt g (Or.inl rfl)
  rw [hn] at hvc hl hc
  simp only [nval]
  obtain ⟨w1, hw1⟩ : ∃ w1, w.alloc (.cells #[.int .i64 k, .float .f64 v, .int .i64 a, .int .i64 b] 35) = w1 := ⟨_, rfl⟩
  have hb1 : Below w.heap.size w w1 := hw1 ▸ below_alloc w _
  have hc1 : w1.heap[w.heap.size]? = some (.cells #[.int .i64 k, .float .f64 v, .int .i64 a, .int .i64 b] 35 (0, 0)) := hw1 ▸ heap_alloc_new w _
  have hsz := hb1.size
  rw [hn]
  rw [hn] at HP
  have hr := bits_run
  have hneq := fun (w : World) (r : Option Nat) => run_neq_map_nil w _ _ _ r Try.underlying52
  clear h hn hrd hblk hgood
  go_enter Try.func19, Try.ntmps19
  obtain ⟨q0, q1, q2, q3⟩ := slot4 hc1
  go_wp2_with fail
  refine (HFT.out _ hb1).mono ?_
  rintro e w2 ⟨rfl, hb2⟩
  clear q0 q1 q2 q3
  have hd1 := slot_kept hc1 hb2
  have hbw : Below w.heap.size w w2 := hb1.trans (hb2.mono hsz)
  have hd2 := slot_kept hc hbw
  obtain ⟨q0, q1, q2, q3⟩ := slot4 hd1
  obtain ⟨p0, p1, -, -⟩ := slot2 hd2
  obtain ⟨z0, z1, z2, z3⟩ := slot4 (slot_kept hd1 (below_alloc w2 (.cells #[.int .i64 0, .int .u64 0, .int .i64 0, .int .i64 0] 63)))
  go_wp2_with fail
  go_region
  obtain ⟨w3, hw3⟩ : ∃ w3, (w2.alloc (.cells #[.int .i64 k, .int .u64 (v : Int), .int .i64 a, .int .i64 b] 63)).drew = w3 := ⟨_, rfl⟩
  have hb3 : Below w2.heap.size w2 w3 := hw3 ▸ (below_alloc w2 _).drew
  have hk3 : w3.heap[w2.heap.size]? = some (.cells #[.int .i64 k, .int .u64 (v : Int), .int .i64 a, .int .i64 b] 63 (0, 0)) := hw3 ▸ heap_alloc_new w2 _
  rw [hw3]
  have hd1 := slot_kept hd1 hb3
  have hd2 := slot_kept hd2 hb3
  have hbw := hbw.trans (hb3.mono hbw.size)
  clear q0 q1 q2 q3 p0 p1 z0 z1 z2 z3 hw3 hb2
  obtain ⟨q0, q1, q2, q3⟩ := slot4 hd1
  obtain ⟨p0, p1, -, -⟩ := slot2 hd2
  obtain ⟨z0, z1, z2, z3⟩ := slot4 hk3
  have hlk := look_none HOK.out
  simp only [nkey] at hlk
  go_wp2_with fail
  go_quiet (fail)
  obtain ⟨w4, hw4⟩ : ∃ w4, w3.drewN nq = w4 := ⟨_, rfl⟩
  have hb4 : Below w3.heap.size w3 w4 := hw4 ▸ bdn (Below.refl _ _) nq
  rw [hw4]
  have hd1 := slot_kept hd1 hb4
  have hd2 := slot_kept hd2 hb4
  have hk3 := slot_kept hk3 hb4
  have hbw := hbw.trans (hb4.mono hbw.size)
  have HLN := Lib.hid ((HP.out.below hbw).len)
  rw [HN.out] at HLN
  have hge : decide ((n : Int) ≥ 20000) = false := decide_eq_false (by omega)
  clear q0 q1 q2 q3 p0 p1 z0 z1 z2 z3 hw4 hlk hb3 hb4
  obtain ⟨q0, q1, q2, q3⟩ := slot4 hd1
  obtain ⟨p0, p1, -, -⟩ := slot2 hd2
  go_wp2_with fail
  refine HLN.out.mono ?_
  rintro e w5 ⟨rfl, rfl⟩
  have hOr : OwN 0 w4 (.slice va n vc) l := HP.out.2.1.below hbw
  have hszr := hbw.size
  have hgr : g < w4.heap.size := (Array.getElem?_eq_some_iff.1 hd2).1
  have pA := (slot2 (slot_kept hd2 (below_alloc w4 (.cells #[.int .i64 k, .float .f64 v, .int .i64 a, .int .i64 b] 35)))).1
  go_wp2_with fail
  go_region_law (refine step_append_node _ rfl (.tmp 51) (.tmp 53) 28 rfl Try.underlying28 info_node 0 (.slice va n vc) l (by simp [Act.eval]) (OwN.alloc (w := w4.drew) hOr _) ⟨w4.heap.size, 0, none⟩ 1 1 [(k, v, a, b)] (by simp [Act.eval]) rfl (node_new1 w4.drew (k, v, a, b) _) (by rw [HN.out]; omega) (by simp) ?_; intro v' w5 hO5 hg5 hat5; obtain ⟨m5, hm5⟩ : ∃ m5, (l ++ [(k, v, a, b)]).length = m5 := ⟨_, rfl⟩; obtain ⟨qa, qc, hqv, -, -, -, -⟩ := hO5.form; rw [hm5] at hqv; subst hqv; have he5 : w5.heap[g]? = some (.cells #[.slice va n vc, .map none] 54 (0, 0)) := dput_kept (w := w4.drew) hd2 hOr hg5; obtain ⟨p0', p1', p2', p3'⟩ := slot2 he5; have HA := Lib.hid (retp_plain (wr := w4.drew) (o := .cells #[.int .i64 k, .float .f64 v, .int .i64 a, .int .i64 b] 35) HP.out HG.out HOK.out hbw.drew hO5 hg5 hat5 he5); rw [HN.out] at HA; clear hO5 hg5 hat5 he5 hm5)
  all_goals
    obtain ⟨r0, r1⟩ := plain_set p0' p1' (.slice qa m5 qc)
    clear p0' p1' p2' p3'
    go_wp2_with fail
    go_ret2
    exact HA.out
set_option maxRecDepth 100000 in
set_option maxHeartbeats 4000000 in
theorem dput_old {w : World} {g : Nat} {vl : Value} {m : Option Nat} {l : List Nd} (nd : Nd) (h : DA w g vl m l true) (hv : nd.2.1 < 18446744073709551616) (hgood : nbad l.length nd = false) {j : Nat} (hfind : nfind l nd = some j) :
    Calls Try.prog 19 #[.pointer (some ⟨g, 0, none⟩), nval nd] w fun e w' => RetDP w g vl m l true nd e w' := by
  obtain ⟨k, v, a, b⟩ := nd
  have HOK := Lib.hid (NOk.of_good hgood hv)
  have HG := Lib.hid hgood
  have HFT := Lib.hid (fun (w' : World) (hb : Below w.heap.size w w') => dfits_num (h.below hb) (k, v, a, b) hv)
  simp only [nval] at HFT
  rw [hgood] at HFT
  obtain ⟨hnd, gm, es, clock, rfl, hm, hE⟩ : l.Nodup ∧ ∃ gm es clock, m = some gm ∧ w.heap[gm]? = some (.map es clock) ∧ Ents es l := by
    rcases h.2.2.2.2 with ⟨h, -⟩ | ⟨-, h⟩
    · cases h
    · exact h
  have HM := Lib.hid (fun (w' : World) (hb : Below w.heap.size w w') => (hb.block gm (h.lt gm (Or.inr (Or.inr rfl)))).trans hm)
  have HAL := Lib.hid h.2.2.2.1
  have HE := Lib.hid hE
  have HND := Lib.hid hnd
  have HM0 := Lib.hid hm
  clear hm hE hnd
  obtain ⟨va, vc, rfl, hvc, hvc2, hrd, hblk⟩ := h.2.1.form
  obtain ⟨n, hn⟩ : ∃ n, l.length = n := ⟨_, rfl⟩
  have HP := Lib.hid h
  have HN := Lib.hid hn
  have hc := h.1
  have hgw := h.lt g (Or.inl rfl)
  have HF := Lib.hid hfind
  rw [hn] at hvc hc
  simp only [nval]
  obtain ⟨w1, hw1⟩ : ∃ w1, w.alloc (.cells #[.int .i64 k, .float .f64 v, .int .i64 a, .int .i64 b] 35) = w1 := ⟨_, rfl⟩
  have hb1 : Below w.heap.size w w1 := hw1 ▸ below_alloc w _
  have hc1 : w1.heap[w.heap.size]? = some (.cells #[.int .i64 k, .float .f64 v, .int .i64 a, .int .i64 b] 35 (0, 0)) := hw1 ▸ heap_alloc_new w _
  have hsz := hb1.size
  rw [hn]
  rw [hn] at HP
  have hr := bits_run
  have hneq := fun (w : World) (r : Option Nat) => run_neq_map_nil w _ _ _ r Try.underlying52
  clear h hn hrd hblk hgood hfind
  go_enter Try.func19, Try.ntmps19
  obtain ⟨q0, q1, q2, q3⟩ := slot4 hc1
  go_wp2_with fail
  refine (HFT.out _ hb1).mono ?_
  rintro e w2 ⟨rfl, hb2⟩
  clear q0 q1 q2 q3
  have hd1 := slot_kept hc1 hb2
  have hbw : Below w.heap.size w w2 := hb1.trans (hb2.mono hsz)
  have hb12 := hbw
  have hgne : g ≠ w2.heap.size := by have := hb12.size; omega
  have hd2 := slot_kept hc hbw
  obtain ⟨q0, q1, q2, q3⟩ := slot4 hd1
  obtain ⟨p0, p1, -, -⟩ := slot2 hd2
  obtain ⟨z0, z1, z2, z3⟩ := slot4 (slot_kept hd1 (below_alloc w2 (.cells #[.int .i64 0, .int .u64 0, .int .i64 0, .int .i64 0] 63)))
  go_wp2_with fail
  go_region
  obtain ⟨w3, hw3⟩ : ∃ w3, (w2.alloc (.cells #[.int .i64 k, .int .u64 (v : Int), .int .i64 a, .int .i64 b] 63)).drew = w3 := ⟨_, rfl⟩
  have hb3 : Below w2.heap.size w2 w3 := hw3 ▸ (below_alloc w2 _).drew
  have hk3 : w3.heap[w2.heap.size]? = some (.cells #[.int .i64 k, .int .u64 (v : Int), .int .i64 a, .int .i64 b] 63 (0, 0)) := hw3 ▸ heap_alloc_new w2 _
  rw [hw3]
  have hd1 := slot_kept hd1 hb3
  have hd2 := slot_kept hd2 hb3
  have hbw := hbw.trans (hb3.mono hbw.size)
  clear q0 q1 q2 q3 p0 p1 z0 z1 z2 z3 hw3 hb2
  obtain ⟨q0, q1, q2, q3⟩ := slot4 hd1
  obtain ⟨p0, p1, -, -⟩ := slot2 hd2
  obtain ⟨z0, z1, z2, z3⟩ := slot4 hk3
  have hlk := fun nq : Nat => look_old (w := w3.drewN nq) (HM.out _ (bdn hbw nq)) HE.out HAL.out HND.out HOK.out HF.out
  simp only [nkey] at hlk
  go_wp2_with fail
  go_quiet (fail)
  have hb4 : Below w.heap.size w (w3.drewN nq) := bdn hbw nq
  go_wp2_with fail
  go_ret2
  exact retp_old HP.out HG.out HF.out hb4
end Go.Proofs.Ytkkjkohmekbdbaa

namespace Go.Proofs.Ytkkjkohmekbdbaa
open Go.RowKit
open Go.ChangeMaps (setBlock heap_setBlock_same heap_setBlock_other)

set_option maxRecDepth 100000 in
set_option maxHeartbeats 4000000 in
theorem dput_new {w : World} {g : Nat} {vl : Value} {m : Option Nat} {l : List Nd} (nd : Nd) (h : DA w g vl m l true) (hl : l.length ≤ 10000) (hv : nd.2.1 < 18446744073709551616) (hgood : nbad l.length nd = false) (hfind : nfind l nd = none) :
    Calls Try.prog 19 #[.pointer (some ⟨g, 0, none⟩), nval nd] w fun e w' => RetDP w g vl m l true nd e w' := by
  obtain ⟨k, v, a, b⟩ := nd
  have HOK := Lib.hid (NOk.of_good hgood hv)
  have HG := Lib.hid hgood
  have HFT := Lib.hid (fun (w' : World) (hb : Below w.heap.size w w') => dfits_num (h.below hb) (k, v, a, b) hv)
  simp only [nval] at HFT
  rw [hgood] at HFT
  obtain ⟨hnd, gm, es, clock, rfl, hm, hE⟩ : l.Nodup ∧ ∃ gm es clock, m = some gm ∧ w.heap[gm]? = some (.map es clock) ∧ Ents es l := by
    rcases h.2.2.2.2 with ⟨h, -⟩ | ⟨-, h⟩
    · cases h
    · exact h
  have HM := Lib.hid (fun (w' : World) (hb : Below w.heap.size w w') => (hb.block gm (h.lt gm (Or.inr (Or.inr rfl)))).trans hm)
  have HAL := Lib.hid h.2.2.2.1
  have HE := Lib.hid hE
  have HND := Lib.hid hnd
  have HM0 := Lib.hid hm
  clear hm hE hnd
  obtain ⟨va, vc, rfl, hvc, hvc2, hrd, hblk⟩ := h.2.1.form
  obtain ⟨n, hn⟩ : ∃ n, l.length = n := ⟨_, rfl⟩
  have HP := Lib.hid h
  have HN := Lib.hid hn
  have hc := h.1
  have hgw := h.lt g (Or.inl rfl)
  have HF := Lib.hid hfind
  rw [hn] at hvc hl hc
  simp only [nval]
  obtain ⟨w1, hw1⟩ : ∃ w1, w.alloc (.cells #[.int .i64 k, .float .f64 v, .int .i64 a, .int .i64 b] 35) = w1 := ⟨_, rfl⟩
  have hb1 : Below w.heap.size w w1 := hw1 ▸ below_alloc w _
  have hc1 : w1.heap[w.heap.size]? = some (.cells #[.int .i64 k, .float .f64 v, .int .i64 a, .int .i64 b] 35 (0, 0)) := hw1 ▸ heap_alloc_new w _
  have hsz := hb1.size
  rw [hn]
  rw [hn] at HP
  have hr := bits_run
  have hneq := fun (w : World) (r : Option Nat) => run_neq_map_nil w _ _ _ r Try.underlying52
  clear h hn hrd hblk hgood hfind
  go_enter Try.func19, Try.ntmps19
  obtain ⟨q0, q1, q2, q3⟩ := slot4 hc1
  go_wp2_with fail
  refine (HFT.out _ hb1).mono ?_
  rintro e w2 ⟨rfl, hb2⟩
  clear q0 q1 q2 q3
  have hd1 := slot_kept hc1 hb2
  have hbw : Below w.heap.size w w2 := hb1.trans (hb2.mono hsz)
  have hb12 := hbw
  have hgne : g ≠ w2.heap.size := by have := hb12.size; omega
  have hd2 := slot_kept hc hbw
  obtain ⟨q0, q1, q2, q3⟩ := slot4 hd1
  obtain ⟨p0, p1, -, -⟩ := slot2 hd2
  obtain ⟨z0, z1, z2, z3⟩ := slot4 (slot_kept hd1 (below_alloc w2 (.cells #[.int .i64 0, .int .u64 0, .int .i64 0, .int .i64 0] 63)))
  go_wp2_with fail
  go_region
  obtain ⟨w3, hw3⟩ : ∃ w3, (w2.alloc (.cells #[.int .i64 k, .int .u64 (v : Int), .int .i64 a, .int .i64 b] 63)).drew = w3 := ⟨_, rfl⟩
  have hb3 : Below w2.heap.size w2 w3 := hw3 ▸ (below_alloc w2 _).drew
  have hk3 : w3.heap[w2.heap.size]? = some (.cells #[.int .i64 k, .int .u64 (v : Int), .int .i64 a, .int .i64 b] 63 (0, 0)) := hw3 ▸ heap_alloc_new w2 _
  rw [hw3]
  have hd1 := slot_kept hd1 hb3
  have hd2 := slot_kept hd2 hb3
  have hbw := hbw.trans (hb3.mono hbw.size)
  clear q0 q1 q2 q3 p0 p1 z0 z1 z2 z3 hw3 hb2
  obtain ⟨q0, q1, q2, q3⟩ := slot4 hd1
  obtain ⟨p0, p1, -, -⟩ := slot2 hd2
  obtain ⟨z0, z1, z2, z3⟩ := slot4 hk3
  have hlk := fun nq : Nat => look_new (w := w3.drewN nq) (HM.out _ (bdn hbw nq)) HE.out HAL.out HND.out HOK.out HF.out
  simp only [nkey] at hlk
  go_wp2_with fail
  go_quiet (fail)
  obtain ⟨w4, hw4⟩ : ∃ w4, w3.drewN nq = w4 := ⟨_, rfl⟩
  have hb4 : Below w3.heap.size w3 w4 := hw4 ▸ bdn (Below.refl _ _) nq
  rw [hw4]
  have hd1 := slot_kept hd1 hb4
  have hd2 := slot_kept hd2 hb4
  have hk3 := slot_kept hk3 hb4
  have hbw := hbw.trans (hb4.mono hbw.size)
  have HLN := Lib.hid ((HP.out.below hbw).len)
  rw [HN.out] at HLN
  have hge : decide ((n : Int) ≥ 20000) = false := decide_eq_false (by omega)
  clear q0 q1 q2 q3 p0 p1 z0 z1 z2 z3 hw4 hlk hb3 hb4
  obtain ⟨q0, q1, q2, q3⟩ := slot4 hd1
  obtain ⟨p0, p1, -, -⟩ := slot2 hd2
  go_wp2_with fail
  refine HLN.out.mono ?_
  rintro e w5 ⟨rfl, rfl⟩
  have hOr : OwN 0 w4 (.slice va n vc) l := HP.out.2.1.below hbw
  have hszr := hbw.size
  have hHK : ∀ W : World, (w4.drew.alloc (.cells #[.int .i64 k, .float .f64 v, .int .i64 a, .int .i64 b] 35)).grownBy W (Value.slice va n vc).ownBlock → W.heap[w2.heap.size]? = some (.cells #[.int .i64 k, .int .u64 (v : Int), .int .i64 a, .int .i64 b] 63 (0, 0)) := fun W hW => by
    have hlt : w2.heap.size < w4.heap.size := (Array.getElem?_eq_some_iff.1 hk3).1
    rw [hW.block w2.heap.size (by simp; omega) (fun e => by have := (HP.out.2.1.lt _ e.symm).2; have := hb12.size; omega)]
    exact slot_kept (w1 := w4.drew) hk3 (below_alloc w4.drew _)
  have HK := Lib.hid hHK
  clear hHK
  have hgr : g < w4.heap.size := (Array.getElem?_eq_some_iff.1 hd2).1
  have pA := (slot2 (slot_kept hd2 (below_alloc w4 (.cells #[.int .i64 k, .float .f64 v, .int .i64 a, .int .i64 b] 35)))).1
  go_wp2_with fail
  go_region_law (refine step_append_node _ rfl (.tmp 51) (.tmp 53) 28 rfl Try.underlying28 info_node 0 (.slice va n vc) l (by simp [Act.eval]) (OwN.alloc (w := w4.drew) hOr _) ⟨w4.heap.size, 0, none⟩ 1 1 [(k, v, a, b)] (by simp [Act.eval]) rfl (node_new1 w4.drew (k, v, a, b) _) (by rw [HN.out]; omega) (by simp) ?_; intro v' w5 hO5 hg5 hat5; obtain ⟨m5, hm5⟩ : ∃ m5, (l ++ [(k, v, a, b)]).length = m5 := ⟨_, rfl⟩; obtain ⟨qa, qc, hqv, -, -, -, -⟩ := hO5.form; rw [hm5] at hqv; subst hqv; have he5 : w5.heap[g]? = some (.cells #[.slice va n vc, .map (some gm)] 54 (0, 0)) := dput_kept (w := w4.drew) hd2 hOr hg5; have hk5 : w5.heap[w2.heap.size]? = some (.cells #[.int .i64 k, .int .u64 (v : Int), .int .i64 a, .int .i64 b] 63 (0, 0)) := HK.out w5 hg5; obtain ⟨p0', p1', p2', p3'⟩ := slot2 he5; have HA := Lib.hid (fun w6 => retp_new (w6 := w6) (wr := w4.drew) (o := .cells #[.int .i64 k, .float .f64 v, .int .i64 a, .int .i64 b] 35) HP.out HM0.out HE.out HG.out HOK.out HF.out hbw.drew hO5 hg5 hat5 he5); have HM5 := Lib.hid ((da_app HP.out hbw.drew hO5 hg5 hat5 he5).2.2.1 gm _ rfl HM0.out); rw [HN.out] at HA; clear hO5 hg5 hat5 he5 hm5)
  all_goals
    obtain ⟨r0, r1⟩ := plain_set p0' p1' (.slice qa m5 qc)
    have hk6 := (heap_setCell_other w5 ⟨g, 0, none⟩ w2.heap.size (.slice qa m5 qc) (by simp; omega)).trans hk5
    clear p0' p1' p2' p3' q0 q1 q2 q3 p0 p1
    go_wp2_with fail
    obtain ⟨w6, hw6⟩ : ∃ w6, w5.setCell ⟨g, 0, none⟩ (.slice qa m5 qc) = w6 := ⟨_, rfl⟩
    rw [hw6] at r0 r1 hk6 HM5 HA
    rw [hw6]
    obtain ⟨z0, z1, z2, z3⟩ := slot4 hk6
    have hmu := put_key (w := w6.drew) HM5.out HE.out HAL.out HND.out HOK.out HF.out (.int .i64 (n : Int))
    simp only [nkey] at hmu
    clear hk6 hk5 hw6 hd1 hd2 hk3 pA
    go_region
    go_wp2_with fail
    go_ret2
    exact HA.out _ (Below.refl _ _).drew
/-- (*Dag).Put. -/
theorem dput_num {w : World} {g : Nat} {vl : Value} {m : Option Nat} {l : List Nd} {s : Bool} (nd : Nd) (h : DA w g vl m l s) (hl : l.length ≤ 10000) (hv : nd.2.1 < 18446744073709551616) :
    Calls Try.prog 19 #[.pointer (some ⟨g, 0, none⟩), nval nd] w fun e w' => RetDP w g vl m l s nd e w' := by
  by_cases hb : nbad l.length nd = true
  · exact dput_bad nd h hv hb
  · have hg := Bool.eq_false_iff.2 hb
    cases s
    · exact dput_plain nd h hl hv hg
    · cases hf : nfind l nd with
      | none => exact dput_new nd h hl hv hg hf
      | some j => exact dput_old nd h hv hg hf
end Go.Proofs.Ytkkjkohmekbdbaa

namespace Go.Proofs.Ytkkjkohmekbdbaa
open Go.RowKit

theorem RetD.pre {D : World → Value → List Nd → Bool → (Nat → Prop) → Prop} {w w1 : World} {d : Value} {l : List Nd} {s : Bool} {F : Nat → Prop} {v : Value} {e : Ending} {w' : World} (hb : Below w.heap.size w w1) (h : RetD D w1 d l s F v e w') : RetD D w d l s F v e w' := by
  obtain ⟨h1, F', h2, h3, h4⟩ := h
  have hsz := hb.size
  exact ⟨h1, F', h2, fun k hk => (h3 k hk).imp_right fun h => Nat.le_trans hsz h, (Chg.of hb).trans h4 (fun x hx => Or.inl hx)⟩
theorem RetD.val {D : World → Value → List Nd → Bool → (Nat → Prop) → Prop} {w : World} {d : Value} {l : List Nd} {s : Bool} {F : Nat → Prop} {v v' : Value} {e : Ending} {w' : World} (h : RetD D w d l s F v e w') : RetD D w d l s F v' (.returned v') w' := ⟨rfl, h.2⟩
/-- A call that puts one node: its id. -/
def RetI (w : World) (g : Nat) (v : Value) (m : Option Nat) (s : Bool) (r : Option Nat × List Nd) (e : Ending) (w' : World) : Prop := RetD DD w (.pointer (some ⟨g, 0, none⟩)) r.2 s (FD g v m) (.int .i64 (idI r.1)) e w'
/-- What is laid open of it in a walk. -/
theorem RetI.open {w : World} {g : Nat} {v : Value} {m : Option Nat} {s : Bool} {r : Option Nat × List Nd} {e : Ending} {w' : World} (h : RetI w g v m s r e w') : ∃ x : Int, e = .returned (.int .i64 x) ∧ Hid (RetI w g v m s r (.returned (.int .i64 x)) w') := by
  obtain ⟨h1, h2⟩ := h
  exact ⟨_, h1, Lib.hid ⟨rfl, h2⟩⟩
set_option maxRecDepth 100000 in
set_option maxHeartbeats 2000000 in
/-- (*Dag).id. -/
theorem did_num {w : World} {g : Nat} {vl : Value} {m : Option Nat} {l : List Nd} {s : Bool} (nd : Nd) (h : DA w g vl m l s) (hl : l.length ≤ 10000) (hv : nd.2.1 < 18446744073709551616) :
    Calls Try.prog 23 #[.pointer (some ⟨g, 0, none⟩), nval nd] w fun e w' => RetI w g vl m s (nput s l nd) e w' := by
  obtain ⟨w1, hw1⟩ : ∃ w1, w.alloc (.cells #[.int .i64 nd.1, .float .f64 nd.2.1, .int .i64 nd.2.2.1, .int .i64 nd.2.2.2] 35) = w1 := ⟨_, rfl⟩
  have hb1 : Below w.heap.size w w1 := hw1 ▸ below_alloc w _
  obtain ⟨q0, q1, q2, q3⟩ := slot4 (hw1 ▸ heap_alloc_new w (.cells #[.int .i64 nd.1, .float .f64 nd.2.1, .int .i64 nd.2.2.1, .int .i64 nd.2.2.2] 35) : w1.heap[w.heap.size]? = some (.cells #[.int .i64 nd.1, .float .f64 nd.2.1, .int .i64 nd.2.2.1, .int .i64 nd.2.2.2] 35 (0, 0)))
  have HPUT := dput_num nd (h.below hb1) hl hv
  unfold RetDP at HPUT
  obtain ⟨q, L, hq⟩ : ∃ q L, nput s l nd = (q, L) := ⟨_, _, rfl⟩
  rw [hq] at HPUT ⊢
  obtain ⟨k, v, a, b⟩ := nd
  simp only at HPUT q0 q1 q2 q3 hw1
  simp only [nval] at HPUT ⊢
  have HPUT := Lib.hid HPUT
  clear h hl hv hq
  go_enter Try.func23, Try.ntmps23
  go_wp2_with fail
  refine HPUT.out.mono ?_
  rintro e w2 ⟨err, ⟨rfl, HR⟩, h1, h2⟩
  have HR := Lib.hid HR
  cases q with
  | none =>
    obtain ⟨p, -, rfl, -⟩ := h1 rfl
    clear h1 h2 q0 q1 q2 q3
    go_wp2_with fail
    go_ret
    exact RetD.pre hb1 ⟨rfl, HR.out⟩
  | some i =>
    obtain rfl := h2 (by simp)
    clear h1 h2 q0 q1 q2 q3
    go_wp2_with fail
    go_ret
    exact RetD.pre hb1 ⟨rfl, HR.out⟩
set_option maxRecDepth 100000 in
theorem dleaf_num {w : World} {g : Nat} {vl : Value} {m : Option Nat} {l : List Nd} {s : Bool} (v : Nat) (hv : v < 18446744073709551616) (h : DA w g vl m l s) (hl : l.length ≤ 10000) :
    Calls Try.prog 8 #[.pointer (some ⟨g, 0, none⟩), .float .f64 v] w fun e w' => RetI w g vl m s (nput s l (0, v, 0, 0)) e w' := by
  have HI := Lib.hid (did_num (0, v, 0, 0) h hl hv)
  simp only [nval] at HI
  obtain ⟨r, hr⟩ : ∃ r, nput s l (0, v, 0, 0) = r := ⟨_, rfl⟩
  rw [hr] at HI ⊢
  clear h hl hr hv
  go_enter Try.func8, Try.ntmps8
  go_wp2_with fail
  refine HI.out.mono ?_
  intro e w2 hR
  obtain ⟨x, rfl, HR⟩ := hR.open
  clear hR
  go_wp2_with fail
  go_ret
  exact HR.out
set_option maxRecDepth 100000 in
theorem dsub_num {w : World} {g : Nat} {vl : Value} {m : Option Nat} {l : List Nd} {s : Bool} (a b : Int) (h : DA w g vl m l s) (hl : l.length ≤ 10000) :
    Calls Try.prog 18 #[.pointer (some ⟨g, 0, none⟩), .int .i64 a, .int .i64 b] w fun e w' => RetI w g vl m s (nput s l (2, 0, a, b)) e w' := by
  have HI := Lib.hid (did_num (2, 0, a, b) h hl (by show (0 : Nat) < _; decide))
  simp only [nval] at HI
  obtain ⟨r, hr⟩ : ∃ r, nput s l (2, 0, a, b) = r := ⟨_, rfl⟩
  rw [hr] at HI ⊢
  clear h hl hr
  go_enter Try.func18, Try.ntmps18
  go_wp2_with fail
  refine HI.out.mono ?_
  intro e w2 hR
  obtain ⟨x, rfl, HR⟩ := hR.open
  clear hR
  go_wp2_with fail
  go_ret
  exact HR.out
set_option maxRecDepth 100000 in
theorem ddiv_num {w : World} {g : Nat} {vl : Value} {m : Option Nat} {l : List Nd} {s : Bool} (a b : Int) (h : DA w g vl m l s) (hl : l.length ≤ 10000) :
    Calls Try.prog 16 #[.pointer (some ⟨g, 0, none⟩), .int .i64 a, .int .i64 b] w fun e w' => RetI w g vl m s (nput s l (4, 0, a, b)) e w' := by
  have HI := Lib.hid (did_num (4, 0, a, b) h hl (by show (0 : Nat) < _; decide))
  simp only [nval] at HI
  obtain ⟨r, hr⟩ : ∃ r, nput s l (4, 0, a, b) = r := ⟨_, rfl⟩
  rw [hr] at HI ⊢
  clear h hl hr
  go_enter Try.func16, Try.ntmps16
  go_wp2_with fail
  refine HI.out.mono ?_
  intro e w2 hR
  obtain ⟨x, rfl, HR⟩ := hR.open
  clear hR
  go_wp2_with fail
  go_ret
  exact HR.out
set_option maxRecDepth 100000 in
theorem droot_num {w : World} {g : Nat} {vl : Value} {m : Option Nat} {l : List Nd} {s : Bool} (a : Int) (h : DA w g vl m l s) (hl : l.length ≤ 10000) :
    Calls Try.prog 17 #[.pointer (some ⟨g, 0, none⟩), .int .i64 a] w fun e w' => RetI w g vl m s (nput s l (5, 0, a, 0)) e w' := by
  have HI := Lib.hid (did_num (5, 0, a, 0) h hl (by show (0 : Nat) < _; decide))
  simp only [nval] at HI
  obtain ⟨r, hr⟩ : ∃ r, nput s l (5, 0, a, 0) = r := ⟨_, rfl⟩
  rw [hr] at HI ⊢
  clear h hl hr
  go_enter Try.func17, Try.ntmps17
  go_wp2_with fail
  refine HI.out.mono ?_
  intro e w2 hR
  obtain ⟨x, rfl, HR⟩ := hR.open
  clear hR
  go_wp2_with fail
  go_ret
  exact HR.out
theorem floatOfInt_lt64 (v : Int) : floatOfInt .f64 v < 18446744073709551616 := by
  have h := floatOfInt_wf .f64 v
  simpa [Lit.wf] using h
set_option maxRecDepth 100000 in
/-- (*Dag).Int. -/
theorem dint_num {w : World} {g : Nat} {vl : Value} {m : Option Nat} {l : List Nd} {s : Bool} (x : Int) (h : DA w g vl m l s) (hl : l.length ≤ 10000) (_hx : -9223372036854775808 ≤ x) (_hx2 : x ≤ 9223372036854775807) :
    Calls Try.prog 10 #[.pointer (some ⟨g, 0, none⟩), .int .i64 x] w fun e w' => RetI w g vl m s (nint s l x) e w' := by
  have HI := Lib.hid (dleaf_num (floatOfInt .f64 x) (floatOfInt_lt64 x) h hl)
  have HN : Hid (∀ w', Below w.heap.size w w' → RetI w g vl m s (none, l) (.returned (.int .i64 (-1))) w') := Lib.hid fun w' hb => ⟨rfl, _, (h.below hb).dd, fun k hk => Or.inl hk, Chg.of hb⟩
  obtain ⟨f, hf⟩ : ∃ f, floatOfInt .f64 x = f := ⟨_, rfl⟩
  by_cases h1 : x < -9007199254740992
  · have e : nint s l x = (none, l) := by unfold nint; rw [if_neg (by omega)]
    have l1 : decide (x < -9007199254740992) = true := decide_eq_true h1
    rw [e]
    clear h hl HI e h1 hf
    go_enter Try.func10, Try.ntmps10
    go_wp2_with fail
    go_ret
    exact HN.out _ (Below.refl _ _)
  · have l1 : decide (x < -9007199254740992) = false := decide_eq_false h1
    by_cases h2 : x > 9007199254740992
    · have e : nint s l x = (none, l) := by unfold nint; rw [if_neg (by omega)]
      have l2 : decide (9007199254740992 < x) = true := decide_eq_true h2
      rw [e]
      clear h hl HI e h1 h2 hf
      go_enter Try.func10, Try.ntmps10
      go_wp2_with fail
      go_ret
      exact HN.out _ (Below.refl _ _)
    · have e : nint s l x = nput s l (0, f, 0, 0) := by unfold nint; rw [if_pos (by omega), hf]
      have l2 : decide (9007199254740992 < x) = false := decide_eq_false h2
      rw [e]
      rw [hf] at HI
      clear h hl HN e h1 h2
      go_enter Try.func10, Try.ntmps10
      go_wp2_with fail
      refine HI.out.mono ?_
      intro e w2 hR
      obtain ⟨y, rfl, HR⟩ := hR.open
      clear hR
      go_wp2_with fail
      go_ret
      exact HR.out
set_option maxRecDepth 100000 in
/-- dag.New. -/
theorem dnew_num (w : World) (s : Bool) : Calls Try.prog 7 #[.bool s] w fun e w' => ∃ d F, e = .returned d ∧ DD w' d [] s F ∧ (∀ k, F k → w.heap.size ≤ k) ∧ Below w.heap.size w w' := by
  cases s
  · go_enter Try.func7, Try.ntmps7
    go_wp2_with fail
    go_ret
    refine ⟨_, _, rfl, ⟨w.heap.size, .slice none 0 0, none, rfl, ⟨heap_alloc_new w _, OwN.nil _ _, fun _ => rfl, fun n h => by simp at h, Or.inl ⟨rfl, rfl⟩⟩, rfl⟩, ?_, below_alloc w _⟩
    rintro k (rfl | hk | hk)
    · exact Nat.le_refl _
    · simp [Value.ownBlock] at hk
    · cases hk
  · have hmm := @run_makeMap Try.prog
    go_enter Try.func7, Try.ntmps7
    go_wp2_with fail
    go_ret
    have hm : ((w.alloc (.cells #[.slice none 0 0, .map (some (w.heap.size + 1))] 54)).alloc (.map #[] 0)).heap[w.heap.size + 1]? = some (.map #[] 0) := by
      have := heap_alloc_new (w.alloc (.cells #[.slice none 0 0, .map (some (w.heap.size + 1))] 54)) (.map #[] 0)
      simpa using this
    refine ⟨_, _, rfl, ⟨w.heap.size, .slice none 0 0, some (w.heap.size + 1), rfl, ⟨slot_kept (heap_alloc_new w _) (below_alloc _ _), OwN.nil _ _, fun _ => rfl, fun n h => by simp at h, Or.inr ⟨rfl, List.nodup_nil, w.heap.size + 1, #[], 0, rfl, hm, Ents.nil⟩⟩, rfl⟩, ?_, (below_alloc w _).trans ((below_alloc _ _).mono (below_alloc w _).size)⟩
    rintro k (rfl | hk | hk)
    · exact Nat.le_refl _
    · simp [Value.ownBlock] at hk
    · simp only [Option.some.injEq] at hk
      omega
end Go.Proofs.Ytkkjkohmekbdbaa

namespace Go.Proofs.Ytkkjkohmekbdbaa
open Go.RowKit

theorem nput_le1 (s : Bool) (l : List Nd) (n : Nd) : (nput s l n).2.length ≤ l.length + 1 := by
  unfold nput
  split
  · exact Nat.le_succ _
  · split
    · split
      · exact Nat.le_succ _
      · simp
    · simp
theorem nchain_le1 (s : Bool) (kind : Int) (ids : List Int) (r : Option Nat × List Nd) : (nchain s kind ids r).2.length ≤ r.2.length + ids.length := by
  induction ids generalizing r with
  | nil => exact Nat.le_refl _
  | cons b ids ih =>
    have h1 := ih (nput s r.2 (kind, 0, idI r.1, b))
    have h2 := nput_le1 s r.2 (kind, 0, idI r.1, b)
    show (nchain s kind ids _).2.length ≤ _
    simp only [List.length_cons]
    omega
theorem nchain_none (s : Bool) {kind : Int} (hk : kind ≠ 0) (ids : List Int) (l : List Nd) : nchain s kind ids (none, l) = (none, l) := by
  induction ids with
  | nil => rfl
  | cons b ids ih =>
    show nchain s kind ids (nput s l (kind, 0, -1, b)) = _
    rw [nput_bad]
    · exact ih
    · unfold nbad nvalid
      rw [if_neg hk]
      simp
theorem nchain_snoc (s : Bool) (kind : Int) (ids : List Int) (b : Int) (r : Option Nat × List Nd) : nchain s kind (ids ++ [b]) r = nput s (nchain s kind ids r).2 (kind, 0, idI (nchain s kind ids r).1, b) := by
  induction ids generalizing r with
  | nil => rfl
  | cons c ids ih => exact ih _
/-- A Dag behind a call: the next call goes on from there. -/
theorem RetI.next {w : World} {g : Nat} {v : Value} {m : Option Nat} {s : Bool} {r : Option Nat × List Nd} {y : Int} {w1 : World} (h : RetI w g v m s r (.returned (.int .i64 y)) w1) : y = idI r.1 ∧ Chg (FD g v m) w w1 ∧ ∃ v' m', DA w1 g v' m' r.2 s ∧ ∀ r2 e w2, RetI w1 g v' m' s r2 e w2 → RetI w g v m s r2 e w2 := by
  obtain ⟨h1, F', ⟨g', v', m', hp, hd, rfl⟩, h2, h3⟩ := h
  simp only [Value.pointer.injEq, Option.some.injEq, Addr.mk.injEq, and_true] at hp
  subst hp
  simp only [Ending.returned.injEq, Value.int.injEq, true_and] at h1
  refine ⟨h1, h3, v', m', hd, ?_⟩
  rintro r2 e w2 ⟨k1, F2, k2, k3, k4⟩
  refine ⟨k1, F2, k2, fun k hk => ?_, h3.trans k4 h2⟩
  have hsz := h3.size
  rcases k3 k hk with k5 | k5
  · exact h2 k k5
  · exact Or.inr (by omega)
set_option maxRecDepth 100000 in
set_option maxHeartbeats 2000000 in
theorem dcomb_num {w : World} {g : Nat} {vl : Value} {m : Option Nat} {l : List Nd} {s : Bool} {b off c n : Nat} {rest : List Int} (kind i : Int) (hk : kind ≠ 0) (h : DA w g vl m l s) (hl : l.length + rest.length ≤ 10000) (hn : n = rest.length + 1) (hnc : n ≤ c)
    (hr : RdJ w (some ⟨b, off, none⟩) (i :: rest)) (hoff : ¬ FD g vl m b ∧ b < w.heap.size) :
    Calls Try.prog 26 #[.pointer (some ⟨g, 0, none⟩), .int .i64 kind, .slice (some ⟨b, off, none⟩) n c] w fun e w' => RetI w g vl m s (nmany s kind 0 l (i :: rest)) e w' := by
  have HH := Lib.hid h
  have h0 : w.cell? ⟨b, off, none⟩ = some (.int .i64 i) := hr.at (j := 0) rfl
  have HRD := Lib.hid hr
  have HHS := Lib.hid (h.has i)
  obtain ⟨p, hp⟩ : ∃ p, rest.length = p := ⟨_, rfl⟩
  have HP := Lib.hid hp
  rw [hp] at hn hl
  subst hn
  have HL := Lib.hid hl
  have hpb : p ≤ 10000 := by omega
  have HOFF := Lib.hid hoff
  by_cases hi : 0 ≤ i ∧ i < (l.length : Int)
  · have e : nmany s kind 0 l (i :: rest) = nchain s kind rest (some i.toNat, l) := by show nchain s kind rest _ = _; rw [if_pos hi]
    have hx : i = idI (some i.toNat) := by show i = ((i.toNat : Nat) : Int); omega
    rw [e]
    rw [decide_eq_true hi] at HHS
    have HX := Lib.hid hx
    have HFIN : Hid (RetI w g vl m s (some i.toNat, l) (.returned (.int .i64 i)) w) := Lib.hid ⟨by rw [← hx], _, h.dd, fun k hk => Or.inl hk, Chg.refl _ _⟩
    have HK := Lib.hid hk
    clear h hr hp e hi hx hk hl hoff
    by_cases hc : c = 1
    · obtain rfl : p = 0 := by omega
      subst hc
      go_enter Try.func26, Try.ntmps26
      go_wp2_with fail
      refine HHS.out.mono ?_
      rintro e w2 ⟨rfl, rfl⟩
      go_wp2_with fail
      refine wp_loop_rounds 1 ?_
      rw [rounds_succ]
      go_wp2_with fail
      go_ret
      obtain rfl : rest = [] := List.eq_nil_of_length_eq_zero HP.out
      exact HFIN.out
    · have hc1 : 1 < c := by omega
      go_enter Try.func26, Try.ntmps26
      go_wp2_with fail
      refine HHS.out.mono ?_
      rintro e w2 ⟨rfl, rfl⟩
      clear HHS h0
      go_wp2_with fail
      go_loopw [7, 9, 20] (fun o _ ii wr => ∃ q : Nat, q ≤ p ∧ ii = .int .i64 (q : Int) ∧ ∃ y : Int, o = .int .i64 y ∧ Hid (RetI w g vl m s (nchain s kind (rest.take q) (some i.toNat, l)) (.returned (.int .i64 y)) wr)) (fun _ _ ii _ => p - (intOf ii).toNat)
      case atStart => exact ⟨0, Nat.zero_le _, rfl, i, rfl, HFIN⟩
      case round =>
        obtain ⟨q, hq, rfl, y, rfl, HR⟩ := hrel
        clear HFIN
        by_cases hlt : q < p
        · obtain ⟨x, hx⟩ : ∃ x, rest[q]? = some x := ⟨rest[q]'(by have := HP.out; omega), by rw [List.getElem?_eq_getElem]⟩
          obtain ⟨hy, hch, v', m', hd, hnext⟩ := HR.out.next
          have hc0 : wr.cell? ⟨b, off + 1 + q, none⟩ = some (.int .i64 x) := by
            rw [cell_same (w := w) (a := ⟨b, off + 1 + q, none⟩) (hch.block b HOFF.out.2 HOFF.out.1), show off + 1 + q = off + (q + 1) by omega]
            exact HRD.out.at (j := q + 1) hx
          have hle : (nchain s kind (rest.take q) (some i.toNat, l)).2.length ≤ 10000 := by
            have h1 := nchain_le1 s kind (rest.take q) (some i.toNat, l)
            have h2 : (rest.take q).length ≤ q := by rw [List.length_take]; omega
            have h3 := HL.out
            simp only at h1
            omega
          have HID := Lib.hid (did_num (kind, 0, y, x) hd hle (by show (0 : Nat) < _; decide))
          have HNX := Lib.hid hnext
          have hstep : nput s (nchain s kind (rest.take q) (some i.toNat, l)).2 (kind, 0, y, x) = nchain s kind (rest.take (q + 1)) (some i.toNat, l) := by
            rw [List.take_add_one, hx, Option.toList_some, nchain_snoc, hy]
          rw [hstep] at HID
          simp only [nval] at HID
          have HX2 := Lib.hid hx
          clear hy hch hd hnext hle hstep hx HR
          go_wp2_with fail
          refine HID.out.mono ?_
          intro e w2 hR
          obtain ⟨z, rfl, HZ⟩ := hR.open
          clear hR
          go_wp2_with fail
          go_roundw
          case rel => exact ⟨q + 1, by omega, by go_num, z, rfl, Lib.hid (HNX.out _ _ _ HZ.out)⟩
          case measure => simp [intOf]; omega
        · obtain rfl : q = p := by omega
          have e : rest.take q = rest := List.take_of_length_le (by have := HP.out; omega)
          rw [e] at HR
          clear hlt e
          go_wp2_with fail
          go_ret
          exact HR.out
  · have e : nmany s kind 0 l (i :: rest) = (none, l) := by show nchain s kind rest _ = _; rw [if_neg hi]; exact nchain_none s hk rest l
    rw [e]
    rw [decide_eq_false hi] at HHS
    clear h hr hp e hi hk hl hoff
    go_enter Try.func26, Try.ntmps26
    go_wp2_with fail
    refine HHS.out.mono ?_
    rintro e w2 ⟨rfl, rfl⟩
    go_wp2_with fail
    go_ret
    exact ⟨rfl, _, HH.out.dd, fun k hk => Or.inl hk, Chg.refl _ _⟩
end Go.Proofs.Ytkkjkohmekbdbaa
