/-
  DagPc: Package dag keeps what the statement DagPlays asks of it: Node, the calls on a nil Dag, and what is walked already.
-/
import Derived.Test.YtkkjkohmekbdbaaDoorPk31
import Derived.Test.YtkkjkohmekbdbaaDoorPk33

namespace Go.Proofs.YtkkjkohmekbdbaaDoor
open Go.RowKit

theorem run_store_fln {P : Program} {w : World} {a : Addr} {m : Mode} (k : FloatKind) (n : Nat) : (store a (.float k n) m).run P w = stored P w a (.float k n) m := run_store P w a _ m rfl
attribute [local go_sem] run_store_fln
set_option maxRecDepth 100000 in
set_option maxHeartbeats 1000000 in
/-- Node, where there is none. -/
theorem dget_no {d : Value} {n : Int} (k : Int) (w : World) (hl : ∀ w', Below w.heap.size w w' → Calls Tryd.prog 13 #[d] w' fun e w'' => e = .returned (.int .i64 n) ∧ w' = w'') (hk : ¬ (0 ≤ k ∧ k < n)) :
    Calls Tryd.prog 12 #[d, .int .i64 k] w fun e w' => e = .returned (.tuple #[nval (0, 0, 0, 0), .bool false]) ∧ Below w.heap.size w w' := by
  have hb1 := below_alloc w (.cells #[.int .i64 0, .float .f64 0, .int .i64 0, .int .i64 0] 43)
  have hha := dhas_any k _ (hl _ hb1)
  rw [decide_eq_false hk] at hha
  have HHA := Lib.hid hha
  have hend : (w.alloc (.cells #[.int .i64 0, .float .f64 0, .int .i64 0, .int .i64 0] 43)).heap[w.heap.size]? = some (.cells #[.int .i64 0, .float .f64 0, .int .i64 0, .int .i64 0] 43 (0, 0)) := heap_alloc_new w _
  clear hha hl hk
  go_enter Tryd.func12, Tryd.ntmps12
  go_wp2_with fail
  refine HHA.out.mono ?_
  rintro e w' ⟨rfl, rfl⟩
  go_wp2_with fail
  refine bodyPost_ret (results_cell_tmp' rfl _ _ _ w.heap.size 43 _ (0, 0) _ rfl hend Tryd.underlying43 (by kernel_rfl)) rfl ?_
  exact ⟨rfl, hb1⟩
set_option maxRecDepth 100000 in
set_option maxHeartbeats 1000000 in
/-- Node, where there is one. -/
theorem dget_yes {w : World} {g : Nat} {vl : Value} {m : Option Nat} {l : List Nd} {s : Bool} (h : DA w g vl m l s) (j : Nat) (hj : j < l.length) (hl : l.length ≤ 10001) :
    Calls Tryd.prog 12 #[.pointer (some ⟨g, 0, none⟩), .int .i64 (j : Int)] w fun e w' => e = .returned (.tuple #[nval (nodeAt l (j : Int)), .bool true]) ∧ Below w.heap.size w w' := by
  obtain ⟨va, vc, rfl, hvc, hvc2, hrd, hblk⟩ := h.2.1.form
  obtain ⟨n, hn⟩ : ∃ n, l.length = n := ⟨_, rfl⟩
  obtain ⟨x, hx⟩ : ∃ x, l[j]? = some x := ⟨l[j], List.getElem?_eq_getElem hj⟩
  have hb1 := below_alloc w (.cells #[.int .i64 0, .float .f64 0, .int .i64 0, .int .i64 0] 43)
  obtain ⟨p0, p1, -, -⟩ := slot2 (slot_kept h.1 hb1)
  have hl0 : l ≠ [] := by intro e; subst e; simp at hj
  obtain ⟨b0, o0, rfl, -⟩ := hrd.some hl0
  obtain ⟨c0, c1, c2, c3⟩ := (hrd.below hb1).at hx
  have hha := (h.below hb1).has (j : Int)
  rw [hn] at p0 hvc hj hl hha
  rw [decide_eq_true (by omega)] at hha
  have HHA := Lib.hid hha
  have e : nodeAt l (j : Int) = x := by
    unfold nodeAt
    rw [if_pos (by omega), show ((j : Int)).toNat = j by omega, hx]
    rfl
  rw [e]
  obtain ⟨k, v, a, b⟩ := x
  simp only at c0 c1 c2 c3
  simp only [nval]
  have hend : (w.alloc (.cells #[.int .i64 k, .float .f64 v, .int .i64 a, .int .i64 b] 43)).heap[w.heap.size]? = some (.cells #[.int .i64 k, .float .f64 v, .int .i64 a, .int .i64 b] 43 (0, 0)) := heap_alloc_new w _
  clear h hn hx hrd hblk hl0 e hha
  go_enter Tryd.func12, Tryd.ntmps12
  go_wp2_with fail
  refine HHA.out.mono ?_
  rintro e w' ⟨rfl, rfl⟩
  go_wp2_with fail
  refine bodyPost_ret (results_cell_tmp' rfl _ _ _ w.heap.size 43 _ (0, 0) _ rfl hend Tryd.underlying43 (by kernel_rfl)) rfl ?_
  exact ⟨rfl, below_alloc w _⟩
set_option maxRecDepth 100000 in
/-- Put, on no Dag. -/
theorem dput_nil (w : World) (x : Nd) : Calls Tryd.prog 6 #[.pointer none, nval x] w fun e w' => e = .returned (.tuple #[.int .i64 (-1), .iface 74 (.int .i64 1)]) ∧ Below w.heap.size w w' := by
  obtain ⟨k, v, a, b⟩ := x
  simp only [nval]
  have hb1 := below_alloc w (.cells #[.int .i64 k, .float .f64 v, .int .i64 a, .int .i64 b] 43)
  go_enter Tryd.func6, Tryd.ntmps6
  go_wp2_with fail
  refine (dmal _).mono ?_
  rintro e w' ⟨rfl, rfl⟩
  go_wp2_with fail
  go_ret2
  exact ⟨rfl, hb1⟩
set_option maxRecDepth 100000 in
theorem did_nil (w : World) (x : Nd) : Calls Tryd.prog 33 #[.pointer none, nval x] w fun e w' => e = .returned (.int .i64 (-1)) ∧ Below w.heap.size w w' := by
  have HP := Lib.hid (fun w => dput_nil w x)
  obtain ⟨k, v, a, b⟩ := x
  simp only [nval] at HP ⊢
  obtain ⟨w1, hw1⟩ : ∃ w1, w.alloc (.cells #[.int .i64 k, .float .f64 v, .int .i64 a, .int .i64 b] 43) = w1 := ⟨_, rfl⟩
  have hb1 : Below w.heap.size w w1 := hw1 ▸ below_alloc w _
  obtain ⟨q0, q1, q2, q3⟩ := slot4 (hw1 ▸ heap_alloc_new w _ : w1.heap[w.heap.size]? = some (.cells #[.int .i64 k, .float .f64 v, .int .i64 a, .int .i64 b] 43 (0, 0)))
  go_enter Tryd.func33, Tryd.ntmps33
  go_wp2_with fail
  refine (HP.out _).mono ?_
  rintro e w2 ⟨rfl, hb2⟩
  clear q0 q1 q2 q3
  go_wp2_with fail
  go_ret
  exact ⟨rfl, hb1.trans (hb2.mono hb1.size)⟩
set_option maxRecDepth 100000 in
theorem dleaf_nil (w : World) : Calls Tryd.prog 16 #[.pointer none, .float .f64 F1] w fun e w' => e = .returned (.int .i64 (-1)) ∧ Below w.heap.size w w' := by
  have HI := Lib.hid (fun w => did_nil w (0, F1, 0, 0))
  simp only [nval] at HI
  go_enter Tryd.func16, Tryd.ntmps16
  go_wp2_with fail
  refine (HI.out _).mono ?_
  rintro e w2 ⟨rfl, hb2⟩
  go_wp2_with fail
  go_ret
  exact ⟨rfl, hb2⟩
set_option maxRecDepth 100000 in
theorem dcomb_nil (w : World) (g c : Nat) (x kind : Int) (h : w.cell? ⟨g, 0, none⟩ = some (.int .i64 x)) : Calls Tryd.prog 34 #[.pointer none, .int .i64 kind, .slice (some ⟨g, 0, none⟩) 1 c] w fun e w' => e = .returned (.int .i64 (-1)) ∧ Below w.heap.size w w' := by
  have hha := dhas_any x w (dlen_nil w)
  rw [decide_eq_false (by omega)] at hha
  have HHA := Lib.hid hha
  clear hha
  go_enter Tryd.func34, Tryd.ntmps34
  go_wp2_with fail
  refine HHA.out.mono ?_
  rintro e w2 ⟨rfl, rfl⟩
  go_wp2_with fail
  go_ret
  exact ⟨rfl, Below.refl _ _⟩
set_option maxRecDepth 100000 in
theorem dadd_nil (w : World) (g c : Nat) (x : Int) (h : w.cell? ⟨g, 0, none⟩ = some (.int .i64 x)) : Calls Tryd.prog 17 #[.pointer none, .slice (some ⟨g, 0, none⟩) 1 c] w fun e w' => e = .returned (.int .i64 (-1)) ∧ Below w.heap.size w w' := by
  have HC := Lib.hid (dcomb_nil w g c x 1 h)
  clear h
  go_enter Tryd.func17, Tryd.ntmps17
  go_wp2_with fail
  refine HC.out.mono ?_
  rintro e w2 ⟨rfl, hb2⟩
  go_wp2_with fail
  go_ret
  exact ⟨rfl, hb2⟩
set_option maxRecDepth 100000 in
theorem dall_nil (w : World) : Calls Tryd.prog 10 #[.pointer none] w fun e w' => e = .returned (.slice none 0 0) ∧ Below w.heap.size w w' := by
  go_enter Tryd.func10, Tryd.ntmps10
  go_wp2_with fail
  go_ret
  exact ⟨rfl, Below.refl _ _⟩
/-- A Dag of at most so many nodes. -/
def DC (w : World) (d : Value) (l : List Nd) (s : Bool) (F : Nat → Prop) : Prop := DD w d l s F ∧ l.length ≤ 10001
theorem RetI.con {w : World} {g : Nat} {v : Value} {m : Option Nat} {s : Bool} {r : Option Nat × List Nd} {e : Ending} {w' : World} (h : RetI w g v m s r e w') (hl : r.2.length ≤ 10001) : RetD DC w (.pointer (some ⟨g, 0, none⟩)) r.2 s (FD g v m) (.int .i64 (idI r.1)) e w' := by
  obtain ⟨h1, F', h2, h3⟩ := h
  exact ⟨h1, F', ⟨h2, hl⟩, h3⟩
theorem nput_max {s : Bool} {l : List Nd} (n : Nd) (h : l.length ≤ 10000) : (nput s l n).2.length ≤ 10001 := Nat.le_trans (nput_le1 s l n) (by omega)
theorem nmany_max {s : Bool} {l : List Nd} {kind : Int} {z : Nat} {ids : List Int} (h : l.length + ids.length ≤ 10000) : (nmany s kind z l ids).2.length ≤ 10001 := by
  cases ids with
  | nil => exact nput_max _ (by simpa using h)
  | cons i rest =>
    have h1 := nchain_le1 s kind rest (if 0 ≤ i ∧ i < (l.length : Int) then some i.toNat else none, l)
    simp only [List.length_cons] at h
    show (nchain s kind rest _).2.length ≤ _
    simp only at h1
    omega
theorem nodeAt_no {l : List Nd} {k : Int} (h : ¬ (0 ≤ k ∧ k < (l.length : Int))) : nodeAt l k = (0, 0, 0, 0) := by
  unfold nodeAt
  split
  · rename_i h0
    rw [List.getElem?_eq_none (by omega)]
    rfl
  · rfl
/-- What is asked of package dag. -/
def dagp : DagP where
  D := DC
  lt h := dd_lt h.1
  keep h hb := ⟨dd_keep h.1 hb, h.2⟩
  form h := dd_form h.1
  new w s := (dnew_num w s).mono fun e w' ⟨d, F, h1, h2, h3⟩ => ⟨d, F, h1, ⟨h2, by simp⟩, h3⟩
  leaf := by
    rintro w d l s F v ⟨⟨g, vl, m, rfl, hd, rfl⟩, -⟩ hl hv
    exact (dleaf_num v hv hd hl).mono fun e w' h => h.con (nput_max _ hl)
  add := by
    rintro w d l s F ao c n ids ⟨⟨g, vl, m, rfl, hd, rfl⟩, -⟩ hl hn hnc hr hoff
    exact (dadd_num ao c n ids hd hl hn hnc hr hoff).mono fun e w' h => h.con (nmany_max hl)
  put := by
    rintro w d l s F n ⟨⟨g, vl, m, rfl, hd, rfl⟩, -⟩ hl hv
    refine (dput_num n hd hl hv).mono fun e w' h => ?_
    obtain ⟨err, ⟨h1, F', h2, h3⟩, h4, h5⟩ := h
    exact ⟨err, ⟨h1, F', ⟨h2, nput_max n hl⟩, h3⟩, h4, h5⟩
  all := by
    rintro w d l s F ⟨⟨g, vl, m, rfl, hd, rfl⟩, hl⟩
    exact dall_num hd (by omega)
  len := by
    rintro w d l s F ⟨⟨g, vl, m, rfl, hd, rfl⟩, -⟩
    refine hd.len.mono fun e w' h => ?_
    obtain ⟨rfl, rfl⟩ := h
    exact ⟨rfl, Below.refl _ _⟩
  node := by
    rintro w d l s F k ⟨⟨g, vl, m, rfl, hd, rfl⟩, hl⟩ - - -
    by_cases hk : 0 ≤ k ∧ k < (l.length : Int)
    · obtain ⟨j, rfl⟩ : ∃ j : Nat, k = (j : Int) := ⟨k.toNat, by omega⟩
      rw [decide_eq_true hk]
      exact dget_yes hd j (by omega) hl
    · rw [decide_eq_false hk, nodeAt_no hk]
      exact dget_no k w (fun w' hb => (hd.below hb).len) hk
  nnode w k := dget_no k w (fun w' _ => dlen_nil w') (by omega)
  nput0 w := (dput_nil w (0, 0, 0, 0)).mono fun e w' ⟨h1, h2⟩ => ⟨_, _, _, h1, Ch.kind 1, by decide, h2⟩
  nlen w := (dlen_nil w).mono fun e w' h => ⟨h.1, h.2 ▸ Below.refl _ _⟩
  nall w := (dall_nil w).mono fun e w' ⟨h1, h2⟩ => ⟨none, 0, h1, h2⟩
  nleaf w := dleaf_nil w
  nadd w g c x h := dadd_nil w g c x h
end Go.Proofs.YtkkjkohmekbdbaaDoor
