/-
  DagW: Package dag: Add, Mul, All.
  DagCc: Package dag keeps what the statements DagShares, DagGrows and DagMakes ask of it.
-/
import Derived.Test.YtkkjkohmekbdbaaPk28
import Derived.Test.YtkkjkohmekbdbaaPk29
import Derived.Test.YtkkjkohmekbdbaaPk27

namespace Go.Proofs.Ytkkjkohmekbdbaa
open Go.RowKit

set_option maxRecDepth 100000 in
set_option maxHeartbeats 1000000 in
/-- slices.Clone of nodes. -/
theorem clone_num (ao : Option Addr) (n c : Nat) (l : List Nd) (w : World) (hn : n = l.length) (h : RdN w ao l) (h0 : l = [] → ao = none ∧ c = 0) (hl : n ≤ 1000000) : Calls Try.prog 28 #[.slice ao n c] w fun e w' => RetOwN w l e w' := by
  by_cases hl0 : l = []
  · obtain ⟨rfl, rfl⟩ := h0 hl0
    subst hl0
    obtain rfl : n = 0 := hn
    have heq := fun w : World => Lib.run_eql_slice_nil w 28 _ none 0 0 0 0 Try.underlying28
    go_enter Try.func28, Try.ntmps28
    go_wp2_with fail
    go_ret
    exact ⟨_, rfl, OwN.nil _ _, Below.refl _ _⟩
  · obtain ⟨b, off, rfl, hb⟩ := h.some hl0
    have heq := fun w : World => Lib.run_eql_slice_nil w 28 _ (some ⟨b, off, none⟩) n c 0 0 Try.underlying28
    have HN := Lib.hid hn
    have HR := Lib.hid h
    have hO : OwN w.heap.size (w.alloc (.cells #[] 35)) (.slice (some ⟨w.heap.size, 0, none⟩) 0 0) [] := ⟨rfl, Or.inr ⟨w.heap.size, 0, #[], rfl, Nat.le_refl _, heap_alloc_new w _, Nat.le_refl _, by unfold maxLen; omega, rfl, rfl⟩⟩
    have hr1 := h.below (below_alloc w (.cells #[] 35))
    clear hn h h0 hl0
    go_enter Try.func28, Try.ntmps28
    go_wp2_with (at_builtin; (refine wpList_append_nodes _ rfl _ _ 28 rfl Try.underlying28 info_node w.heap.size (.slice (some ⟨w.heap.size, 0, none⟩) 0 0) [] rfl hO ⟨b, off, none⟩ n c l rfl HN.out.symm (rdn_news hr1) (by simpa using hl) (by simp) ?_; intro v1 w1 hO1 hb1))
    go_ret
    exact ⟨v1, rfl, by simpa using hO1, (below_alloc w _).trans (hb1.mono (Nat.le_refl _))⟩
set_option maxRecDepth 100000 in
/-- (*Dag).All. -/
theorem dall_num {w : World} {g : Nat} {vl : Value} {m : Option Nat} {l : List Nd} {s : Bool} (h : DA w g vl m l s) (hl : l.length ≤ 100000) :
    Calls Try.prog 14 #[.pointer (some ⟨g, 0, none⟩)] w fun e w' => RetOwN w l e w' := by
  obtain ⟨va, vc, rfl, hvc, hvc2, hrd, hblk⟩ := h.2.1.form
  obtain ⟨p0, p1, -, -⟩ := slot2 h.1
  have HC := Lib.hid (clone_num va l.length vc l w rfl hrd (fun e => by have := h.2.2.1 e; simp only [Value.slice.injEq] at this; exact ⟨this.1, this.2.2⟩) (by omega))
  obtain ⟨n, hn⟩ : ∃ n, l.length = n := ⟨_, rfl⟩
  rw [hn] at HC p0
  clear h hl hvc hvc2 hrd hblk hn
  go_enter Try.func14, Try.ntmps14
  go_wp2_with fail
  refine HC.out.mono ?_
  rintro e w2 ⟨v2, rfl, hO, hb⟩
  go_wp2_with fail
  go_ret
  exact ⟨v2, rfl, hO, hb⟩
set_option maxRecDepth 100000 in
theorem dadd_num {w : World} {g : Nat} {vl : Value} {m : Option Nat} {l : List Nd} {s : Bool} (ao : Option Addr) (c n : Nat) (ids : List Int) (h : DA w g vl m l s) (hl : l.length + ids.length ≤ 10000) (hn : n = ids.length) (hnc : n ≤ c) (hr : RdJ w ao ids) (hoff : ∀ b off, ao = some ⟨b, off, none⟩ → ¬ FD g vl m b ∧ b < w.heap.size) :
    Calls Try.prog 11 #[.pointer (some ⟨g, 0, none⟩), .slice ao n c] w fun e w' => RetI w g vl m s (nmany s 1 0 l ids) e w' := by
  cases ids with
  | nil =>
    obtain rfl : n = 0 := hn
    have HI := Lib.hid (dleaf_num 0 (by decide) h (by simpa using hl))
    rw [show nmany s 1 0 l [] = nput s l (0, 0, 0, 0) from rfl]
    obtain ⟨r, hr0⟩ : ∃ r, nput s l (0, 0, 0, 0) = r := ⟨_, rfl⟩
    rw [hr0] at HI ⊢
    clear h hl hr hoff hr0
    go_enter Try.func11, Try.ntmps11
    go_wp2_with fail
    refine HI.out.mono ?_
    intro e w2 hR
    obtain ⟨x, rfl, HR⟩ := hR.open
    clear hR
    go_wp2_with fail
    go_ret
    exact HR.out
  | cons i rest =>
    obtain ⟨b, off, rfl, -⟩ := hr.some (by simp)
    have HI := Lib.hid (dcomb_num 1 i (by decide) h (by simp only [List.length_cons] at hl; omega) (by simpa using hn) hnc hr (hoff b off rfl))
    have e0 : nmany s 1 0 l (i :: rest) = nmany s 1 0 l (i :: rest) := rfl
    rw [e0]
    obtain ⟨r, hr0⟩ : ∃ r, nmany s 1 0 l (i :: rest) = r := ⟨_, rfl⟩
    rw [hr0] at HI ⊢
    have hn0 : ((n : Int) == 0) = false := by simp only [List.length_cons] at hn; simp; omega
    clear h hl hr hoff hr0 hn hnc e0
    go_enter Try.func11, Try.ntmps11
    go_wp2_with fail
    refine HI.out.mono ?_
    intro e w2 hR
    obtain ⟨x, rfl, HR⟩ := hR.open
    clear hR
    go_wp2_with fail
    go_ret
    exact HR.out
set_option maxRecDepth 100000 in
theorem dmul_num {w : World} {g : Nat} {vl : Value} {m : Option Nat} {l : List Nd} {s : Bool} (ao : Option Addr) (c n : Nat) (ids : List Int) (h : DA w g vl m l s) (hl : l.length + ids.length ≤ 10000) (hn : n = ids.length) (hnc : n ≤ c) (hr : RdJ w ao ids) (hoff : ∀ b off, ao = some ⟨b, off, none⟩ → ¬ FD g vl m b ∧ b < w.heap.size) :
    Calls Try.prog 12 #[.pointer (some ⟨g, 0, none⟩), .slice ao n c] w fun e w' => RetI w g vl m s (nmany s 3 F1 l ids) e w' := by
  cases ids with
  | nil =>
    obtain rfl : n = 0 := hn
    have HI := Lib.hid (dleaf_num F1 (by decide) h (by simpa using hl))
    rw [show nmany s 3 F1 l [] = nput s l (0, F1, 0, 0) from rfl]
    obtain ⟨r, hr0⟩ : ∃ r, nput s l (0, F1, 0, 0) = r := ⟨_, rfl⟩
    rw [hr0] at HI ⊢
    clear h hl hr hoff hr0
    go_enter Try.func12, Try.ntmps12
    go_wp2_with fail
    refine HI.out.mono ?_
    intro e w2 hR
    obtain ⟨x, rfl, HR⟩ := hR.open
    clear hR
    go_wp2_with fail
    go_ret
    exact HR.out
  | cons i rest =>
    obtain ⟨b, off, rfl, -⟩ := hr.some (by simp)
    have HI := Lib.hid (dcomb_num 3 i (by decide) h (by simp only [List.length_cons] at hl; omega) (by simpa using hn) hnc hr (hoff b off rfl))
    have e0 : nmany s 3 F1 l (i :: rest) = nmany s 3 0 l (i :: rest) := rfl
    rw [e0]
    obtain ⟨r, hr0⟩ : ∃ r, nmany s 3 0 l (i :: rest) = r := ⟨_, rfl⟩
    rw [hr0] at HI ⊢
    have hn0 : ((n : Int) == 0) = false := by simp only [List.length_cons] at hn; simp; omega
    clear h hl hr hoff hr0 hn hnc e0
    go_enter Try.func12, Try.ntmps12
    go_wp2_with fail
    refine HI.out.mono ?_
    intro e w2 hR
    obtain ⟨x, rfl, HR⟩ := hR.open
    clear hR
    go_wp2_with fail
    go_ret
    exact HR.out
end Go.Proofs.Ytkkjkohmekbdbaa

namespace Go.Proofs.Ytkkjkohmekbdbaa
open Go.RowKit

/-- A Dag of at most so many nodes. -/
def DC (w : World) (d : Value) (l : List Nd) (s : Bool) (F : Nat → Prop) : Prop := DD w d l s F ∧ l.length ≤ 10001
theorem RetI.con {w : World} {g : Nat} {v : Value} {m : Option Nat} {s : Bool} {r : Option Nat × List Nd} {e : Ending} {w' : World} (h : RetI w g v m s r e w') (hl : r.2.length ≤ 10001) : RetD DC w (.pointer (some ⟨g, 0, none⟩)) r.2 s (FD g v m) (.int .i64 (idI r.1)) e w' := by
  obtain ⟨h1, F', h2, h3⟩ := h
  exact ⟨h1, F', ⟨h2, hl⟩, h3⟩
theorem nput_max {s : Bool} {l : List Nd} (n : Nd) (h : l.length ≤ 10000) : (nput s l n).2.length ≤ 10001 := Nat.le_trans (nput_le1 s l n) (by omega)
theorem nint_max {s : Bool} {l : List Nd} (x : Int) (h : l.length ≤ 10000) : (nint s l x).2.length ≤ 10001 := by
  unfold nint
  split
  · exact nput_max _ h
  · show l.length ≤ 10001
    omega
theorem nmany_max {s : Bool} {l : List Nd} {kind : Int} {z : Nat} {ids : List Int} (h : l.length + ids.length ≤ 10000) : (nmany s kind z l ids).2.length ≤ 10001 := by
  cases ids with
  | nil => exact nput_max _ (by simpa using h)
  | cons i rest =>
    have h1 := nchain_le1 s kind rest (if 0 ≤ i ∧ i < (l.length : Int) then some i.toNat else none, l)
    simp only [List.length_cons] at h
    show (nchain s kind rest _).2.length ≤ _
    simp only at h1
    omega
/-- What is asked of package dag. -/
def dagc : DagC where
  D := DC
  lt h := dd_lt h.1
  keep h hb := ⟨dd_keep h.1 hb, h.2⟩
  form h := dd_form h.1
  new w s := (dnew_num w s).mono fun e w' ⟨d, F, h1, h2, h3⟩ => ⟨d, F, h1, ⟨h2, by simp⟩, h3⟩
  leaf := by
    rintro w d l s F v ⟨⟨g, vl, m, rfl, hd, rfl⟩, -⟩ hl hv
    exact (dleaf_num v hv hd hl).mono fun e w' h => h.con (nput_max _ hl)
  sub := by
    rintro w d l s F a b ⟨⟨g, vl, m, rfl, hd, rfl⟩, -⟩ hl
    exact (dsub_num a b hd hl).mono fun e w' h => h.con (nput_max _ hl)
  root := by
    rintro w d l s F a ⟨⟨g, vl, m, rfl, hd, rfl⟩, -⟩ hl
    exact (droot_num a hd hl).mono fun e w' h => h.con (nput_max _ hl)
  div := by
    rintro w d l s F a b ⟨⟨g, vl, m, rfl, hd, rfl⟩, -⟩ hl
    exact (ddiv_num a b hd hl).mono fun e w' h => h.con (nput_max _ hl)
  add := by
    rintro w d l s F ao c n ids ⟨⟨g, vl, m, rfl, hd, rfl⟩, -⟩ hl hn hnc hr hoff
    exact (dadd_num ao c n ids hd hl hn hnc hr hoff).mono fun e w' h => h.con (nmany_max hl)
  mul := by
    rintro w d l s F ao c n ids ⟨⟨g, vl, m, rfl, hd, rfl⟩, -⟩ hl hn hnc hr hoff
    exact (dmul_num ao c n ids hd hl hn hnc hr hoff).mono fun e w' h => h.con (nmany_max hl)
  int := by
    rintro w d l s F x ⟨⟨g, vl, m, rfl, hd, rfl⟩, -⟩ hl h1 h2
    exact (dint_num x hd hl h1 h2).mono fun e w' h => h.con (nint_max x hl)
  put := by
    rintro w d l s F n ⟨⟨g, vl, m, rfl, hd, rfl⟩, -⟩ hl hv
    refine (dput_num n hd hl hv).mono fun e w' h => ?_
    obtain ⟨err, ⟨h1, F', h2, h3⟩, -⟩ := h
    exact ⟨err, h1, F', ⟨h2, nput_max n hl⟩, h3⟩
  all := by
    rintro w d l s F ⟨⟨g, vl, m, rfl, hd, rfl⟩, hl⟩
    exact dall_num hd (by omega)
  len := by
    rintro w d l s F ⟨⟨g, vl, m, rfl, hd, rfl⟩, -⟩
    refine hd.len.mono fun e w' h => ?_
    obtain ⟨rfl, rfl⟩ := h
    exact ⟨rfl, Below.refl _ _⟩
end Go.Proofs.Ytkkjkohmekbdbaa
