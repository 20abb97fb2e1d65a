/-
  DagW: Package dag: Add, Mul, All.
-/
import Derived.Test.YtkkjkohmekbdbaaDoorPk32
import Derived.Test.YtkkjkohmekbdbaaDoorPk29

namespace Go.Proofs.YtkkjkohmekbdbaaDoor
open Go.RowKit

set_option maxRecDepth 100000 in
set_option maxHeartbeats 1000000 in
/-- slices.Clone of nodes. -/
theorem clone_num (ao : Option Addr) (n c : Nat) (l : List Nd) (w : World) (hn : n = l.length) (h : RdN w ao l) (h0 : l = [] → ao = none ∧ c = 0) (hl : n ≤ 1000000) : Calls Tryd.prog 30 #[.slice ao n c] w fun e w' => RetOwN w l e w' := by
  by_cases hl0 : l = []
  · obtain ⟨rfl, rfl⟩ := h0 hl0
    subst hl0
    obtain rfl : n = 0 := hn
    have heq := fun w : World => Lib.run_eql_slice_nil w 22 _ none 0 0 0 0 Tryd.underlying22
    go_enter Tryd.func30, Tryd.ntmps30
    go_wp2_with fail
    go_ret
    exact ⟨_, rfl, OwN.nil _ _, Below.refl _ _⟩
  · obtain ⟨b, off, rfl, hb⟩ := h.some hl0
    have heq := fun w : World => Lib.run_eql_slice_nil w 22 _ (some ⟨b, off, none⟩) n c 0 0 Tryd.underlying22
    have HN := Lib.hid hn
    have HR := Lib.hid h
    have hO : OwN w.heap.size (w.alloc (.cells #[] 43)) (.slice (some ⟨w.heap.size, 0, none⟩) 0 0) [] := ⟨rfl, Or.inr ⟨w.heap.size, 0, #[], rfl, Nat.le_refl _, heap_alloc_new w _, Nat.le_refl _, by unfold maxLen; omega, rfl, rfl⟩⟩
    have hr1 := h.below (below_alloc w (.cells #[] 43))
    clear hn h h0 hl0
    go_enter Tryd.func30, Tryd.ntmps30
    go_wp2_with (at_builtin; (refine wpList_append_nodes _ rfl _ _ 22 rfl Tryd.underlying22 info_node w.heap.size (.slice (some ⟨w.heap.size, 0, none⟩) 0 0) [] rfl hO ⟨b, off, none⟩ n c l rfl HN.out.symm (rdn_news hr1) (by simpa using hl) (by simp) ?_; intro v1 w1 hO1 hb1))
    go_ret
    exact ⟨v1, rfl, by simpa using hO1, (below_alloc w _).trans (hb1.mono (Nat.le_refl _))⟩
set_option maxRecDepth 100000 in
/-- (*Dag).All. -/
theorem dall_num {w : World} {g : Nat} {vl : Value} {m : Option Nat} {l : List Nd} {s : Bool} (h : DA w g vl m l s) (hl : l.length ≤ 100000) :
    Calls Tryd.prog 10 #[.pointer (some ⟨g, 0, none⟩)] w fun e w' => RetOwN w l e w' := by
  obtain ⟨va, vc, rfl, hvc, hvc2, hrd, hblk⟩ := h.2.1.form
  obtain ⟨p0, p1, -, -⟩ := slot2 h.1
  have HC := Lib.hid (clone_num va l.length vc l w rfl hrd (fun e => by have := h.2.2.1 e; simp only [Value.slice.injEq] at this; exact ⟨this.1, this.2.2⟩) (by omega))
  obtain ⟨n, hn⟩ : ∃ n, l.length = n := ⟨_, rfl⟩
  rw [hn] at HC p0
  clear h hl hvc hvc2 hrd hblk hn
  go_enter Tryd.func10, Tryd.ntmps10
  go_wp2_with fail
  refine HC.out.mono ?_
  rintro e w2 ⟨v2, rfl, hO, hb⟩
  go_wp2_with fail
  go_ret
  exact ⟨v2, rfl, hO, hb⟩
set_option maxRecDepth 100000 in
theorem dadd_num {w : World} {g : Nat} {vl : Value} {m : Option Nat} {l : List Nd} {s : Bool} (ao : Option Addr) (c n : Nat) (ids : List Int) (h : DA w g vl m l s) (hl : l.length + ids.length ≤ 10000) (hn : n = ids.length) (hnc : n ≤ c) (hr : RdJ w ao ids) (hoff : ∀ b off, ao = some ⟨b, off, none⟩ → ¬ FD g vl m b ∧ b < w.heap.size) :
    Calls Tryd.prog 17 #[.pointer (some ⟨g, 0, none⟩), .slice ao n c] w fun e w' => RetI w g vl m s (nmany s 1 0 l ids) e w' := by
  cases ids with
  | nil =>
    obtain rfl : n = 0 := hn
    have HI := Lib.hid (dleaf_num 0 (by decide) h (by simpa using hl))
    rw [show nmany s 1 0 l [] = nput s l (0, 0, 0, 0) from rfl]
    obtain ⟨r, hr0⟩ : ∃ r, nput s l (0, 0, 0, 0) = r := ⟨_, rfl⟩
    rw [hr0] at HI ⊢
    clear h hl hr hoff hr0
    go_enter Tryd.func17, Tryd.ntmps17
    go_wp2_with fail
    refine HI.out.mono ?_
    intro e w2 hR
    obtain ⟨x, rfl, HR⟩ := hR.open
    clear hR
    go_wp2_with fail
    go_ret
    exact HR.out
  | cons i rest =>
    obtain ⟨b, off, rfl, -⟩ := hr.some (by simp)
    have HI := Lib.hid (dcomb_num 1 i (by decide) h (by simp only [List.length_cons] at hl; omega) (by simpa using hn) hnc hr (hoff b off rfl))
    have e0 : nmany s 1 0 l (i :: rest) = nmany s 1 0 l (i :: rest) := rfl
    rw [e0]
    obtain ⟨r, hr0⟩ : ∃ r, nmany s 1 0 l (i :: rest) = r := ⟨_, rfl⟩
    rw [hr0] at HI ⊢
    have hn0 : ((n : Int) == 0) = false := by simp only [List.length_cons] at hn; simp; omega
    clear h hl hr hoff hr0 hn hnc e0
    go_enter Tryd.func17, Tryd.ntmps17
    go_wp2_with fail
    refine HI.out.mono ?_
    intro e w2 hR
    obtain ⟨x, rfl, HR⟩ := hR.open
    clear hR
    go_wp2_with fail
    go_ret
    exact HR.out
end Go.Proofs.YtkkjkohmekbdbaaDoor
