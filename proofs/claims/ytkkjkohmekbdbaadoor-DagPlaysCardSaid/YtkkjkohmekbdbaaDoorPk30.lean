/-
  DagB: What the statements of stage 9 ask of package dag, in common: lists of ids, what a call leaves, several operands, the error of a node.
  DagV: What package dag calls of package code: Valid.
-/
import Derived.Test.YtkkjkohmekbdbaaDoorPk28

namespace Go.Proofs.YtkkjkohmekbdbaaDoor
open Go.RowKit

/-- A slice of ints reads so. -/
def RdJ (w : World) (ao : Option Addr) (l : List Int) : Prop := l = [] ∨ ∃ b off, ao = some ⟨b, off, none⟩ ∧ ∀ (j : Nat) x, l[j]? = some x → w.cell? ⟨b, off + j, none⟩ = some (.int .i64 x)
theorem RdJ.at {w : World} {b off : Nat} {l : List Int} (h : RdJ w (some ⟨b, off, none⟩) l) {j : Nat} {x : Int} (hj : l[j]? = some x) : w.cell? ⟨b, off + j, none⟩ = some (.int .i64 x) := by
  rcases h with rfl | ⟨b', off', e, h⟩
  · simp at hj
  · simp only [Option.some.injEq, Addr.mk.injEq, and_true] at e
    obtain ⟨rfl, rfl⟩ := e
    exact h j x hj
theorem RdJ.some {w : World} {ao : Option Addr} {l : List Int} (h : RdJ w ao l) (hl : l ≠ []) : ∃ b off, ao = Option.some ⟨b, off, none⟩ ∧ b < w.heap.size := by
  rcases h with e | ⟨b, off, e, h⟩
  · exact absurd e hl
  · refine ⟨b, off, e, ?_⟩
    obtain ⟨n, hn⟩ : ∃ n, l[0]? = Option.some n := ⟨l[0]'(List.length_pos_iff.2 hl), by rw [List.getElem?_eq_getElem]⟩
    exact World.block_lt_of_cell? _ _ (h 0 n hn)
theorem RdJ.same {w w' : World} {ao : Option Addr} {l : List Int} (h : RdJ w ao l) (hb : ∀ b off, ao = Option.some ⟨b, off, none⟩ → l ≠ [] → w'.heap[b]? = w.heap[b]?) : RdJ w' ao l := by
  rcases h with e | ⟨b, off, e, h⟩
  · exact Or.inl e
  · by_cases hl : l = []
    · exact Or.inl hl
    · exact Or.inr ⟨b, off, e, fun j n hj => by rw [cell_same (w := w) (a := ⟨b, off + j, none⟩) (hb b off e hl)]; exact h j n hj⟩
theorem RdJ.below {w w' : World} {ao : Option Addr} {l : List Int} {B : Nat} (h : RdJ w ao l) (hb : Below B w w') (hB : ∀ b off, ao = Option.some ⟨b, off, none⟩ → l ≠ [] → b < B) : RdJ w' ao l := h.same fun b off e hl => hb.block b (hB b off e hl)
/-- A call of package dag: what it returns, the Dag then, the blocks that it has turned. -/
def RetD (D : World → Value → List Nd → Bool → (Nat → Prop) → Prop) (w : World) (d : Value) (l : List Nd) (s : Bool) (F : Nat → Prop) (v : Value) (e : Ending) (w' : World) : Prop :=
  e = .returned v ∧ ∃ F', D w' d l s F' ∧ (∀ k, F' k → F k ∨ w.heap.size ≤ k) ∧ Chg F w w'
/-- P902: several operands from left to right. -/
def nchain (s : Bool) (kind : Int) : List Int → Option Nat × List Nd → Option Nat × List Nd
  | [], r => r
  | b :: ids, r => nchain s kind ids (nput s r.2 (kind, 0, idI r.1, b))
def nmany (s : Bool) (kind : Int) (none : Nat) (l : List Nd) : List Int → Option Nat × List Nd
  | [] => nput s l (0, none, 0, 0)
  | i :: ids => nchain s kind ids (if 0 ≤ i ∧ i < (l.length : Int) then some i.toNat else .none, l)
abbrev F1 : Nat := 4607182418800017408
/-- The error of a node that may not be put behind n others. -/
def ErrAt (base : Nat) (w : World) (v : Value) (n : Int) : Prop := ∃ p, base ≤ p ∧ v = .iface 69 (.pointer (some ⟨p, 0, none⟩)) ∧ w.heap[p]? = some (.cells #[.int .i64 n, .iface 74 (.int .i64 1)] 73 (0, 0))
theorem ErrAt.keep {base : Nat} {w w' : World} {v : Value} {n : Int} (h : ErrAt base w v n) (hb : ∀ k, base ≤ k → k < w.heap.size → w'.heap[k]? = w.heap[k]?) : ErrAt base w' v n := by
  obtain ⟨p, h1, h2, h3⟩ := h
  exact ⟨p, h1, h2, (hb p h1 (Array.getElem?_eq_some_iff.1 h3).1).trans h3⟩
/-- P902: a whole number. -/
def nint (s : Bool) (l : List Nd) (x : Int) : Option Nat × List Nd := if -9007199254740992 ≤ x ∧ x ≤ 9007199254740992 then nput s l (0, floatOfInt .f64 x, 0, 0) else (none, l)
/-- P901: the node at a place. -/
def nodeAt (l : List Nd) (k : Int) : Nd := if 0 ≤ k then l[k.toNat]?.getD (0, 0, 0, 0) else (0, 0, 0, 0)
end Go.Proofs.YtkkjkohmekbdbaaDoor

namespace Go.Proofs.YtkkjkohmekbdbaaDoor
open Go.RowKit

set_option maxRecDepth 100000 in
theorem upto_num (last v : Int) (w : World) : Calls Tryd.prog 72 #[.int .i64 last, .int .i64 v] w fun e w' => e = .returned (.bool (decide (0 ≤ v ∧ v ≤ last))) ∧ w = w' := by
  have key : ∀ r : Bool, r = decide (0 ≤ v ∧ v ≤ last) → Hid (decide (0 ≤ v ∧ v ≤ last) = r) := fun r h => Lib.hid h.symm
  by_cases h0 : 0 ≤ v
  · have l0 : decide (0 ≤ v) = true := decide_eq_true h0
    by_cases h1 : v ≤ last
    · have l1 : decide (v ≤ last) = true := decide_eq_true h1
      have HR := key true (by simp [h0, h1])
      clear key h0 h1
      go_enter Tryd.func72, Tryd.ntmps72
      go_wp2
      go_ret
      exact ⟨congrArg (fun r => Ending.returned (Value.bool r)) HR.out.symm, rfl⟩
    · have l1 : decide (v ≤ last) = false := decide_eq_false h1
      have HR := key false (by simp [h1])
      clear key h0 h1
      go_enter Tryd.func72, Tryd.ntmps72
      go_wp2
      go_ret
      exact ⟨congrArg (fun r => Ending.returned (Value.bool r)) HR.out.symm, rfl⟩
  · have l0 : decide (0 ≤ v) = false := decide_eq_false h0
    have HR := key false (by simp [h0])
    clear key h0
    go_enter Tryd.func72, Tryd.ntmps72
    go_wp2
    go_ret
    exact ⟨congrArg (fun r => Ending.returned (Value.bool r)) HR.out.symm, rfl⟩
/-- The greatest second operand. -/
def nlast (k : Int) : Int := if k = 5 then 0 else 65535
theorem nvalid_yes {k a b : Int} {v : Nat} (h : 1 ≤ k ∧ k ≤ 5 ∧ v = 0 ∧ 0 ≤ a ∧ a ≤ 65535 ∧ 0 ≤ b ∧ b ≤ nlast k) : true = nvalid (k, v, a, b) := by
  have hk : ¬ k = 0 := by omega
  unfold nlast at h
  unfold nvalid
  rw [if_neg hk]
  refine (decide_eq_true ?_).symm
  simp only
  split at h
  · rename_i h5; rw [if_pos h5]; omega
  · rename_i h5; rw [if_neg h5]; omega
theorem nvalid_no {k a b : Int} {v : Nat} (hk : ¬ k = 0) (h : ¬ (1 ≤ k ∧ k ≤ 5 ∧ v = 0 ∧ 0 ≤ a ∧ a ≤ 65535 ∧ 0 ≤ b ∧ b ≤ nlast k)) : false = nvalid (k, v, a, b) := by
  unfold nlast at h
  unfold nvalid
  rw [if_neg hk]
  refine (decide_eq_false ?_).symm
  simp only
  split at h
  · rename_i h5; rw [if_pos h5]; omega
  · rename_i h5; rw [if_neg h5]; omega
set_option maxRecDepth 100000 in
set_option maxHeartbeats 2000000 in
/-- code.Valid. -/
theorem cvalid_num (x : Nd) (w : World) : Calls Tryd.prog 55 #[nval x] w fun e w' => RetV w (.bool (nvalid x)) e w' := by
  obtain ⟨k, v, a, b⟩ := x
  have hr := bits_run
  have HU := Lib.hid upto_num
  obtain ⟨w1, hw1⟩ : ∃ w1, w.alloc (.cells #[.int .i64 k, .float .f64 v, .int .i64 a, .int .i64 b] 43) = w1 := ⟨_, rfl⟩
  have hb1 : Below w.heap.size w w1 := hw1 ▸ below_alloc w _
  have hc1 : w1.heap[w.heap.size]? = some (.cells #[.int .i64 k, .float .f64 v, .int .i64 a, .int .i64 b] 43 (0, 0)) := hw1 ▸ heap_alloc_new w _
  obtain ⟨p0, p1, p2, p3⟩ := slot4 hc1
  have key : ∀ r : Bool, r = nvalid (k, v, a, b) → Hid (nvalid (k, v, a, b) = r) := fun r h => Lib.hid h.symm
  simp only [nval]
  clear hc1
  by_cases hk : k = 0
  · subst hk
    by_cases ha : a = 0
    · subst ha
      by_cases hb : b = 0
      · subst hb
        have HR := key true (by simp [nvalid])
        clear key
        go_enter Tryd.func55, Tryd.ntmps55
        go_wp2_with fail
        go_ret
        exact ⟨congrArg (fun r => Ending.returned (Value.bool r)) HR.out.symm, hb1⟩
      · obtain ⟨d0, d1, d2⟩ := bne_of hb
        have HR := key false (by simp [nvalid, hb])
        clear key
        go_enter Tryd.func55, Tryd.ntmps55
        go_wp2_with fail
        go_ret
        exact ⟨congrArg (fun r => Ending.returned (Value.bool r)) HR.out.symm, hb1⟩
    · obtain ⟨d0, d1, d2⟩ := bne_of ha
      have HR := key false (by simp [nvalid, ha])
      clear key
      go_enter Tryd.func55, Tryd.ntmps55
      go_wp2_with fail
      go_ret
      exact ⟨congrArg (fun r => Ending.returned (Value.bool r)) HR.out.symm, hb1⟩
  · obtain ⟨e0, e1, e2⟩ := bne_of hk
    by_cases hk1 : k = 1
    · clear e0 e1 e2 hk; skip
      subst hk1
      by_cases hv : v = 0
      · subst hv
        by_cases ha : 0 ≤ a ∧ a ≤ 65535
        · have U1 : decide (0 ≤ a ∧ a ≤ 65535) = true := decide_eq_true ha
          by_cases hb : 0 ≤ b ∧ b ≤ 65535
          · have U2 : decide (0 ≤ b ∧ b ≤ 65535) = true := decide_eq_true hb
            have HR := key true (nvalid_yes (by have e : nlast 1 = 65535 := rfl; rw [e]; omega))
            clear key
            go_enter Tryd.func55, Tryd.ntmps55
            go_wp2_with (first | (go_at_call 72; refine (HU.out _ _ _).mono ?_; rintro e w' ⟨rfl, rfl⟩; try simp only [U1, U2]))
            go_ret
            exact ⟨congrArg (fun r => Ending.returned (Value.bool r)) HR.out.symm, hb1⟩
          · have U2 : decide (0 ≤ b ∧ b ≤ 65535) = false := decide_eq_false hb
            have HR := key false (nvalid_no (by decide) (by have e : nlast 1 = 65535 := rfl; rw [e]; omega))
            clear key
            go_enter Tryd.func55, Tryd.ntmps55
            go_wp2_with (first | (go_at_call 72; refine (HU.out _ _ _).mono ?_; rintro e w' ⟨rfl, rfl⟩; try simp only [U1, U2]))
            go_ret
            exact ⟨congrArg (fun r => Ending.returned (Value.bool r)) HR.out.symm, hb1⟩
        · have U1 : decide (0 ≤ a ∧ a ≤ 65535) = false := decide_eq_false ha
          have HR := key false (nvalid_no (by decide) (by have e : nlast 1 = 65535 := rfl; rw [e]; omega))
          clear key
          go_enter Tryd.func55, Tryd.ntmps55
          go_wp2_with (first | (go_at_call 72; refine (HU.out _ _ _).mono ?_; rintro e w' ⟨rfl, rfl⟩; try simp only [U1]))
          go_ret
          exact ⟨congrArg (fun r => Ending.returned (Value.bool r)) HR.out.symm, hb1⟩
      · obtain ⟨g0, g1, g2⟩ := bne_of (x := (v : Int)) (y := 0) (by omega)
        have HR := key false (nvalid_no (by decide) (by have e : nlast 1 = 65535 := rfl; rw [e]; omega))
        clear key
        go_enter Tryd.func55, Tryd.ntmps55
        go_wp2_with fail
        go_ret
        exact ⟨congrArg (fun r => Ending.returned (Value.bool r)) HR.out.symm, hb1⟩
    · obtain ⟨e10, e11, e12⟩ := bne_of hk1
      by_cases hk2 : k = 2
      · clear e0 e1 e2 hk; skip
        subst hk2
        by_cases hv : v = 0
        · subst hv
          by_cases ha : 0 ≤ a ∧ a ≤ 65535
          · have U1 : decide (0 ≤ a ∧ a ≤ 65535) = true := decide_eq_true ha
            by_cases hb : 0 ≤ b ∧ b ≤ 65535
            · have U2 : decide (0 ≤ b ∧ b ≤ 65535) = true := decide_eq_true hb
              have HR := key true (nvalid_yes (by have e : nlast 2 = 65535 := rfl; rw [e]; omega))
              clear key
              go_enter Tryd.func55, Tryd.ntmps55
              go_wp2_with (first | (go_at_call 72; refine (HU.out _ _ _).mono ?_; rintro e w' ⟨rfl, rfl⟩; try simp only [U1, U2]))
              go_ret
              exact ⟨congrArg (fun r => Ending.returned (Value.bool r)) HR.out.symm, hb1⟩
            · have U2 : decide (0 ≤ b ∧ b ≤ 65535) = false := decide_eq_false hb
              have HR := key false (nvalid_no (by decide) (by have e : nlast 2 = 65535 := rfl; rw [e]; omega))
              clear key
              go_enter Tryd.func55, Tryd.ntmps55
              go_wp2_with (first | (go_at_call 72; refine (HU.out _ _ _).mono ?_; rintro e w' ⟨rfl, rfl⟩; try simp only [U1, U2]))
              go_ret
              exact ⟨congrArg (fun r => Ending.returned (Value.bool r)) HR.out.symm, hb1⟩
          · have U1 : decide (0 ≤ a ∧ a ≤ 65535) = false := decide_eq_false ha
            have HR := key false (nvalid_no (by decide) (by have e : nlast 2 = 65535 := rfl; rw [e]; omega))
            clear key
            go_enter Tryd.func55, Tryd.ntmps55
            go_wp2_with (first | (go_at_call 72; refine (HU.out _ _ _).mono ?_; rintro e w' ⟨rfl, rfl⟩; try simp only [U1]))
            go_ret
            exact ⟨congrArg (fun r => Ending.returned (Value.bool r)) HR.out.symm, hb1⟩
        · obtain ⟨g0, g1, g2⟩ := bne_of (x := (v : Int)) (y := 0) (by omega)
          have HR := key false (nvalid_no (by decide) (by have e : nlast 2 = 65535 := rfl; rw [e]; omega))
          clear key
          go_enter Tryd.func55, Tryd.ntmps55
          go_wp2_with fail
          go_ret
          exact ⟨congrArg (fun r => Ending.returned (Value.bool r)) HR.out.symm, hb1⟩
      · obtain ⟨e20, e21, e22⟩ := bne_of hk2
        by_cases hk3 : k = 3
        · clear e0 e1 e2 hk; skip
          subst hk3
          by_cases hv : v = 0
          · subst hv
            by_cases ha : 0 ≤ a ∧ a ≤ 65535
            · have U1 : decide (0 ≤ a ∧ a ≤ 65535) = true := decide_eq_true ha
              by_cases hb : 0 ≤ b ∧ b ≤ 65535
              · have U2 : decide (0 ≤ b ∧ b ≤ 65535) = true := decide_eq_true hb
                have HR := key true (nvalid_yes (by have e : nlast 3 = 65535 := rfl; rw [e]; omega))
                clear key
                go_enter Tryd.func55, Tryd.ntmps55
                go_wp2_with (first | (go_at_call 72; refine (HU.out _ _ _).mono ?_; rintro e w' ⟨rfl, rfl⟩; try simp only [U1, U2]))
                go_ret
                exact ⟨congrArg (fun r => Ending.returned (Value.bool r)) HR.out.symm, hb1⟩
              · have U2 : decide (0 ≤ b ∧ b ≤ 65535) = false := decide_eq_false hb
                have HR := key false (nvalid_no (by decide) (by have e : nlast 3 = 65535 := rfl; rw [e]; omega))
                clear key
                go_enter Tryd.func55, Tryd.ntmps55
                go_wp2_with (first | (go_at_call 72; refine (HU.out _ _ _).mono ?_; rintro e w' ⟨rfl, rfl⟩; try simp only [U1, U2]))
                go_ret
                exact ⟨congrArg (fun r => Ending.returned (Value.bool r)) HR.out.symm, hb1⟩
            · have U1 : decide (0 ≤ a ∧ a ≤ 65535) = false := decide_eq_false ha
              have HR := key false (nvalid_no (by decide) (by have e : nlast 3 = 65535 := rfl; rw [e]; omega))
              clear key
              go_enter Tryd.func55, Tryd.ntmps55
              go_wp2_with (first | (go_at_call 72; refine (HU.out _ _ _).mono ?_; rintro e w' ⟨rfl, rfl⟩; try simp only [U1]))
              go_ret
              exact ⟨congrArg (fun r => Ending.returned (Value.bool r)) HR.out.symm, hb1⟩
          · obtain ⟨g0, g1, g2⟩ := bne_of (x := (v : Int)) (y := 0) (by omega)
            have HR := key false (nvalid_no (by decide) (by have e : nlast 3 = 65535 := rfl; rw [e]; omega))
            clear key
            go_enter Tryd.func55, Tryd.ntmps55
            go_wp2_with fail
            go_ret
            exact ⟨congrArg (fun r => Ending.returned (Value.bool r)) HR.out.symm, hb1⟩
        · obtain ⟨e30, e31, e32⟩ := bne_of hk3
          by_cases hk4 : k = 4
          · clear e0 e1 e2 hk; skip
            subst hk4
            by_cases hv : v = 0
            · subst hv
              by_cases ha : 0 ≤ a ∧ a ≤ 65535
              · have U1 : decide (0 ≤ a ∧ a ≤ 65535) = true := decide_eq_true ha
                by_cases hb : 0 ≤ b ∧ b ≤ 65535
                · have U2 : decide (0 ≤ b ∧ b ≤ 65535) = true := decide_eq_true hb
                  have HR := key true (nvalid_yes (by have e : nlast 4 = 65535 := rfl; rw [e]; omega))
                  clear key
                  go_enter Tryd.func55, Tryd.ntmps55
                  go_wp2_with (first | (go_at_call 72; refine (HU.out _ _ _).mono ?_; rintro e w' ⟨rfl, rfl⟩; try simp only [U1, U2]))
                  go_ret
                  exact ⟨congrArg (fun r => Ending.returned (Value.bool r)) HR.out.symm, hb1⟩
                · have U2 : decide (0 ≤ b ∧ b ≤ 65535) = false := decide_eq_false hb
                  have HR := key false (nvalid_no (by decide) (by have e : nlast 4 = 65535 := rfl; rw [e]; omega))
                  clear key
                  go_enter Tryd.func55, Tryd.ntmps55
                  go_wp2_with (first | (go_at_call 72; refine (HU.out _ _ _).mono ?_; rintro e w' ⟨rfl, rfl⟩; try simp only [U1, U2]))
                  go_ret
                  exact ⟨congrArg (fun r => Ending.returned (Value.bool r)) HR.out.symm, hb1⟩
              · have U1 : decide (0 ≤ a ∧ a ≤ 65535) = false := decide_eq_false ha
                have HR := key false (nvalid_no (by decide) (by have e : nlast 4 = 65535 := rfl; rw [e]; omega))
                clear key
                go_enter Tryd.func55, Tryd.ntmps55
                go_wp2_with (first | (go_at_call 72; refine (HU.out _ _ _).mono ?_; rintro e w' ⟨rfl, rfl⟩; try simp only [U1]))
                go_ret
                exact ⟨congrArg (fun r => Ending.returned (Value.bool r)) HR.out.symm, hb1⟩
            · obtain ⟨g0, g1, g2⟩ := bne_of (x := (v : Int)) (y := 0) (by omega)
              have HR := key false (nvalid_no (by decide) (by have e : nlast 4 = 65535 := rfl; rw [e]; omega))
              clear key
              go_enter Tryd.func55, Tryd.ntmps55
              go_wp2_with fail
              go_ret
              exact ⟨congrArg (fun r => Ending.returned (Value.bool r)) HR.out.symm, hb1⟩
          · obtain ⟨e40, e41, e42⟩ := bne_of hk4
            by_cases hk5 : k = 5
            · clear e0 e1 e2 hk; skip
              subst hk5
              by_cases hv : v = 0
              · subst hv
                by_cases ha : 0 ≤ a ∧ a ≤ 65535
                · have U1 : decide (0 ≤ a ∧ a ≤ 65535) = true := decide_eq_true ha
                  by_cases hb : 0 ≤ b ∧ b ≤ 0
                  · have U2 : decide (0 ≤ b ∧ b ≤ 0) = true := decide_eq_true hb
                    have HR := key true (nvalid_yes (by have e : nlast 5 = 0 := rfl; rw [e]; omega))
                    clear key
                    go_enter Tryd.func55, Tryd.ntmps55
                    go_wp2_with (first | (go_at_call 72; refine (HU.out _ _ _).mono ?_; rintro e w' ⟨rfl, rfl⟩; try simp only [U1, U2]))
                    go_ret
                    exact ⟨congrArg (fun r => Ending.returned (Value.bool r)) HR.out.symm, hb1⟩
                  · have U2 : decide (0 ≤ b ∧ b ≤ 0) = false := decide_eq_false hb
                    have HR := key false (nvalid_no (by decide) (by have e : nlast 5 = 0 := rfl; rw [e]; omega))
                    clear key
                    go_enter Tryd.func55, Tryd.ntmps55
                    go_wp2_with (first | (go_at_call 72; refine (HU.out _ _ _).mono ?_; rintro e w' ⟨rfl, rfl⟩; try simp only [U1, U2]))
                    go_ret
                    exact ⟨congrArg (fun r => Ending.returned (Value.bool r)) HR.out.symm, hb1⟩
                · have U1 : decide (0 ≤ a ∧ a ≤ 65535) = false := decide_eq_false ha
                  have HR := key false (nvalid_no (by decide) (by have e : nlast 5 = 0 := rfl; rw [e]; omega))
                  clear key
                  go_enter Tryd.func55, Tryd.ntmps55
                  go_wp2_with (first | (go_at_call 72; refine (HU.out _ _ _).mono ?_; rintro e w' ⟨rfl, rfl⟩; try simp only [U1]))
                  go_ret
                  exact ⟨congrArg (fun r => Ending.returned (Value.bool r)) HR.out.symm, hb1⟩
              · obtain ⟨g0, g1, g2⟩ := bne_of (x := (v : Int)) (y := 0) (by omega)
                have HR := key false (nvalid_no (by decide) (by have e : nlast 5 = 0 := rfl; rw [e]; omega))
                clear key
                go_enter Tryd.func55, Tryd.ntmps55
                go_wp2_with fail
                go_ret
                exact ⟨congrArg (fun r => Ending.returned (Value.bool r)) HR.out.symm, hb1⟩
            · obtain ⟨e50, e51, e52⟩ := bne_of hk5
              have HR := key false (by unfold nvalid; rw [if_neg hk]; exact (decide_eq_false (by simp only []; omega)).symm)
              clear key
              go_enter Tryd.func55, Tryd.ntmps55
              go_wp2_with fail
              go_ret
              exact ⟨congrArg (fun r => Ending.returned (Value.bool r)) HR.out.symm, hb1⟩
set_option maxRecDepth 100000 in
/-- (*Dag).Len. -/
theorem dlen_num {g n c : Nat} {ao : Option Addr} {m : Option Nat} (w : World) (h : w.heap[g]? = some (.cells #[.slice ao n c, .map m] 60 (0, 0))) : Calls Tryd.prog 13 #[.pointer (some ⟨g, 0, none⟩)] w fun e w' => e = .returned (.int .i64 (n : Int)) ∧ w = w' := by
  obtain ⟨p0, p1, -, -⟩ := slot2 h
  go_enter Tryd.func13, Tryd.ntmps13
  go_wp2_with fail
  go_ret
  exact ⟨rfl, rfl⟩
set_option maxRecDepth 100000 in
theorem dlen_nil (w : World) : Calls Tryd.prog 13 #[.pointer none] w fun e w' => e = .returned (.int .i64 0) ∧ w = w' := by
  go_enter Tryd.func13, Tryd.ntmps13
  go_wp2_with fail
  go_ret
  exact ⟨rfl, rfl⟩
set_option maxRecDepth 100000 in
/-- (*Dag).has, of a Dag of n nodes. -/
theorem dhas_any {d : Value} {n : Int} (x : Int) (w : World) (hl : Calls Tryd.prog 13 #[d] w fun e w' => e = .returned (.int .i64 n) ∧ w = w') : Calls Tryd.prog 32 #[d, .int .i64 x] w fun e w' => e = .returned (.bool (decide (0 ≤ x ∧ x < n))) ∧ w = w' := by
  have key : ∀ r : Bool, r = decide (0 ≤ x ∧ x < n) → Hid (decide (0 ≤ x ∧ x < n) = r) := fun r h => Lib.hid h.symm
  have HL := Lib.hid hl
  clear hl
  by_cases h0 : 0 ≤ x
  · have l0 : decide (0 ≤ x) = true := decide_eq_true h0
    by_cases h1 : x < n
    · have l1 : decide (x < n) = true := decide_eq_true h1
      have HR := key true (by simp [h0, h1])
      clear key h0 h1
      go_enter Tryd.func32, Tryd.ntmps32
      go_wp2_with fail
      refine HL.out.mono ?_
      rintro e w' ⟨rfl, rfl⟩
      go_wp2_with fail
      go_ret
      exact ⟨congrArg (fun r => Ending.returned (Value.bool r)) HR.out.symm, rfl⟩
    · have l1 : decide (x < n) = false := decide_eq_false h1
      have HR := key false (by simp [h1])
      clear key h0 h1
      go_enter Tryd.func32, Tryd.ntmps32
      go_wp2_with fail
      refine HL.out.mono ?_
      rintro e w' ⟨rfl, rfl⟩
      go_wp2_with fail
      go_ret
      exact ⟨congrArg (fun r => Ending.returned (Value.bool r)) HR.out.symm, rfl⟩
  · have l0 : decide (0 ≤ x) = false := decide_eq_false h0
    have HR := key false (by simp [h0])
    clear key h0
    go_enter Tryd.func32, Tryd.ntmps32
    go_wp2_with fail
    go_ret
    exact ⟨congrArg (fun r => Ending.returned (Value.bool r)) HR.out.symm, rfl⟩
end Go.Proofs.YtkkjkohmekbdbaaDoor
