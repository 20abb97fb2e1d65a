/-
  Fail1: Package fail: the kinds, Node, In, Code, Where.
-/
import Derived.Test.YtioigoipggnkpaaDoorPk4
import Derived.Defers
import Derived.Recover

namespace Go.Proofs.YtioigoipggnkpaaDoor
open Go.RowKit

/-- The texts of the seven kinds. -/
def kindT (i : Nat) : List UInt8 := ([[109, 97, 108, 102, 111, 114, 109, 101, 100], [100, 105, 118, 105, 115, 105, 111, 110, 32, 98, 121, 32, 122, 101, 114, 111], [114, 111, 111, 116, 32, 111, 102, 32, 97, 32, 110, 101, 103, 97, 116, 105, 118, 101, 32, 110, 117, 109, 98, 101, 114], [105, 110, 118, 97, 108, 105, 100], [100, 101, 103, 101, 110, 101, 114, 97, 116, 101], [110, 111, 32, 115, 99, 114, 105, 112, 116], [108, 105, 109, 105, 116]] : List (List UInt8)).getD i []
def kindS (i : Nat) : ByteArray := ⟨(kindT i).toArray⟩
/-- An error of the i-th kind. -/
abbrev kv (i : Nat) : Value := .iface 49 (.int .i64 ((i + 1 : Nat) : Int))
theorem hmf (fn : Fn) (first cap : Array Value) (w : World) : (Instr.makeFunc fn first cap).run Tryd.prog w = .ok (.func fn first cap) w := rfl
theorem below_alloc (w : World) (o : Obj) : Below w.heap.size w (w.alloc o) := (Below.refl _ _).alloc (Nat.le_refl _) o
/-- The deferred closures, where nothing panics. -/
theorem code_idle (p : Addr) (w : World) :
    CallsD Tryd.prog 26 #[.pointer (some p)] .returning w fun e u' w' => e = .returned (.tuple #[]) ∧ u' = .returning ∧ w' = w := by
  refine callsD_of_wpS Tryd.func26 rfl fun c₀ cs hu => ?_
  apply wpS_seq
  apply wpS_region
  simp [wpOpsS, go_sem, recoverD, hu, Tryd.ntmps26, Exit.thenS]
  refine wpS_cond (t := false) (by simp [Act.eval, Array.replicate]) ?_
  simp only [Bool.false_eq_true, if_false]
  refine wpS_of_wp (wp_skip ?_)
  cases c₀
  simp_all [bodyPostS, results, Tryd.results26]
theorem where_idle (p q : Addr) (w : World) :
    CallsD Tryd.prog 29 #[.pointer (some p), .pointer (some q)] .returning w fun e u' w' => e = .returned (.tuple #[]) ∧ u' = .returning ∧ w' = w := by
  refine callsD_of_wpS Tryd.func29 rfl fun c₀ cs hu => ?_
  apply wpS_seq
  apply wpS_region
  simp [wpOpsS, go_sem, recoverD, hu, Tryd.ntmps29, Exit.thenS]
  refine wpS_cond (t := false) (by simp [Act.eval, Array.replicate]) ?_
  simp only [Bool.false_eq_true, if_false]
  refine wpS_of_wp (wp_skip ?_)
  cases c₀
  simp_all [bodyPostS, results, Tryd.results29]
theorem plain_idle (p : Addr) (w : World) :
    CallsD Tryd.prog 48 #[.pointer (some p)] .returning w fun e u' w' => e = .returned (.tuple #[]) ∧ u' = .returning ∧ w' = w := by
  refine callsD_of_wpS Tryd.func48 rfl fun c₀ cs hu => ?_
  apply wpS_seq
  apply wpS_region
  simp [wpOpsS, go_sem, recoverD, hu, Tryd.ntmps48, Exit.thenS]
  refine wpS_cond (t := false) (by simp [Act.eval, Array.replicate]) ?_
  simp only [Bool.false_eq_true, if_false]
  refine wpS_of_wp (wp_skip ?_)
  cases c₀
  simp_all [bodyPostS, results, Tryd.results48]
set_option maxRecDepth 100000 in
theorem code_nil (w : World) : Calls Tryd.prog 9 #[.nilIface] w fun e w' => e = .returned (.int .i64 0) ∧ Below w.heap.size w w' := by
  have hm := hmf
  go_enter_defers Tryd.func9, Tryd.ntmps9
  go_wp2_with fail
  refine leaves_cons (f := 26) (args := #[.pointer (some ⟨w.heap.size, 0, none⟩)]) (by simp) (by simp [go_sem]) ?_
  refine (code_idle _ _).mono ?_
  rintro e u' w'' ⟨rfl, rfl, rfl⟩
  simp [Leaves, settle, results, Tryd.results9, go_sem]
  exact below_alloc w _
set_option maxRecDepth 100000 in
set_option maxHeartbeats 1000000 in
theorem code_of {w : World} {v : Value} {o : Option Int} {f : Option (Nat × Int)} {k : Nat} (h : Ch w v o f k) (hk : 0 < k) (c : Int) (hc : (o = some c ∧ 1 ≤ c ∧ c ≤ 7) ∨ (o = none ∧ c = 8)) :
    Calls Tryd.prog 9 #[v] w fun e w' => e = .returned (.int .i64 c) ∧ Below w.heap.size w w' := by
  rcases h.some with ⟨rfl, -⟩ | ⟨-, t2, x2, rfl⟩
  · omega
  · have hm := hmf
    have HH := Lib.hid (h.under (below_alloc w (.cells #[.int .i64 0] 3)))
    have HC := Lib.hid hc
    clear h hc
    go_enter_defers Tryd.func9, Tryd.ntmps9
    go_wp2_with fail
    go_loopw [3] (fun kk wi => ∃ j : Nat, 1 ≤ j ∧ j ≤ 8 ∧ kk = .int .i64 j ∧ Hid (∀ i : Nat, 1 ≤ i → i < j → o ≠ some (i : Int)) ∧ wi = w.alloc (.cells #[.int .i64 0] 3)) (fun kk _ => 8 - (intOf kk).toNat)
    case atStart => exact ⟨1, by decide, by decide, rfl, Lib.hid (fun i h1 h2 => by omega), rfl⟩
    case round =>
      obtain ⟨j, hj1, hj8, rfl, HN, rfl⟩ := hrel
      by_cases hj : j < 8
      · have hjI : (j : Int) < 8 := by omega
        have HI := Lib.hid (is_of (j : Int) HH.out)
        by_cases he : o = some (j : Int)
        · rw [show decide (o = some (j : Int)) = true by simp [he]] at HI
          have HE : Hid (c = (j : Int)) := Lib.hid (by
            rcases HC.out with ⟨h1, -, -⟩ | ⟨h1, -⟩
            · rw [he] at h1; exact (Option.some.inj h1).symm
            · rw [he] at h1; cases h1)
          clear he
          go_wp2_with fail
          refine HI.out.mono ?_
          rintro e w' ⟨rfl, rfl⟩
          go_wp2_with fail
          refine leaves_cons (f := 26) (args := #[.pointer (some ⟨w.heap.size, 0, none⟩)]) (by simp) (by simp [go_sem]) ?_
          refine (code_idle _ _).mono ?_
          rintro e u' w'' ⟨rfl, rfl, rfl⟩
          simp [Leaves, settle, results, Tryd.results9, go_sem]
          exact ⟨HE.out.symm, below_alloc w _⟩
        · rw [show decide (o = some (j : Int)) = false by simp [he]] at HI
          have HN2 : Hid (∀ i : Nat, 1 ≤ i → i < j + 1 → o ≠ some (i : Int)) := Lib.hid (fun i h1 h2 => by
            by_cases hij : i = j
            · subst hij; exact he
            · exact HN.out i h1 (by omega))
          clear he HN
          go_wp2_with fail
          refine HI.out.mono ?_
          rintro e w' ⟨rfl, rfl⟩
          go_wp2_with fail
          go_roundw
          case rel => exact ⟨j + 1, by omega, by omega, by go_num, HN2, trivial⟩
          case measure => simp [intOf]; omega
      · obtain rfl : j = 8 := by omega
        have HE : Hid (c = 8) := Lib.hid (by
          rcases HC.out with ⟨h1, h2, h3⟩ | ⟨-, h1⟩
          · exact absurd (by rw [h1]; congr 1; omega) (HN.out c.toNat (by omega) (by omega))
          · exact h1)
        clear hj HN
        go_wp2_with fail
        refine leaves_cons (f := 26) (args := #[.pointer (some ⟨w.heap.size, 0, none⟩)]) (by simp) (by simp [go_sem]) ?_
        refine (code_idle _ _).mono ?_
        rintro e u' w'' ⟨rfl, rfl, rfl⟩
        simp [Leaves, settle, results, Tryd.results9, go_sem]
        exact ⟨HE.out.symm, below_alloc w _⟩
/-- The number of a kind. -/
theorem code_kind {w : World} {v : Value} {f : Option (Nat × Int)} {k : Nat} (i : Nat) (hi : i < 7) (h : Ch w v (some ((i + 1 : Nat) : Int)) f k) :
    Calls Tryd.prog 9 #[v] w fun e w' => e = .returned (.int .i64 ((i + 1 : Nat) : Int)) ∧ Below w.heap.size w w' := by
  refine code_of h ?_ _ (Or.inl ⟨rfl, by omega, by omega⟩)
  rcases h.some with ⟨-, -, h0, -⟩ | ⟨h1, -⟩
  · cases h0
  · exact h1
theorem node_new (n : Int) (t : TypeId) (x : Value) (w : World) : Calls Tryd.prog 14 #[.int .i64 n, .iface t x] w fun e w' => e = .returned (.iface 42 (.pointer (some ⟨w.heap.size, 0, none⟩))) ∧ w' = w.alloc (.cells #[.int .i64 n, .iface t x] 46) := by
  go_enter Tryd.func14, Tryd.ntmps14
  go_wp2_with fail
  go_ret
  exact ⟨rfl, rfl⟩
theorem node_nil (n : Int) (w : World) : Calls Tryd.prog 14 #[.int .i64 n, .nilIface] w fun e w' => e = .returned (.iface 42 (.pointer (some ⟨w.heap.size, 0, none⟩))) ∧ w' = w.alloc (.cells #[.int .i64 n, .nilIface] 46) := by
  go_enter Tryd.func14, Tryd.ntmps14
  go_wp2_with fail
  go_ret
  exact ⟨rfl, rfl⟩
theorem in_nil (s : ByteArray) (w : World) : Calls Tryd.prog 13 #[.string s, .nilIface] w fun e w' => e = .returned .nilIface ∧ w' = w := by
  go_enter Tryd.func13, Tryd.ntmps13
  go_wp2_with fail
  go_ret
  exact ⟨rfl, rfl⟩
theorem in_new (s : ByteArray) (t : TypeId) (x : Value) (w : World) : Calls Tryd.prog 13 #[.string s, .iface t x] w fun e w' => e = .returned (.iface 57 (.pointer (some ⟨w.heap.size, 0, none⟩))) ∧ w' = w.alloc (.cells #[.string s, .iface t x] 59) := by
  go_enter Tryd.func13, Tryd.ntmps13
  go_wp2_with fail
  go_ret
  exact ⟨rfl, rfl⟩
set_option maxRecDepth 100000 in
theorem err_new (s : ByteArray) (w : World) : Calls Tryd.prog 12 #[.string s] w fun e w' => e = .returned (.iface 54 (.pointer (some ⟨w.heap.size, 0, none⟩))) ∧ w' = w.alloc (.cells #[.string s] 56) := by
  go_enter Tryd.func12, Tryd.ntmps12
  go_wp2_with fail
  go_ret
  exact ⟨rfl, rfl⟩
/-- The first *At of a chain has its index. -/
theorem Ch.first {w : World} {v : Value} {o : Option Int} {f : Option (Nat × Int)} {k : Nat} (h : Ch w v o f k) : ∀ {p : Nat} {n : Int}, f = Option.some (p, n) → w.cell? ⟨p, 0, none⟩ = Option.some (.int .i64 n) := by
  induction h with
  | nil => intro p n e; cases e
  | kind _ => intro p n e; cases e
  | other _ => intro p n e; cases e
  | node h1 _ _ _ => intro p n e; cases e; exact h1
  | said _ _ _ ih => intro p n e; exact ih e
def whereOf (f : Option (Nat × Int)) : Value := match f with
  | none => .tuple #[.int .i64 0, .bool false]
  | some (_, n) => .tuple #[.int .i64 n, .bool true]
set_option maxRecDepth 100000 in
set_option maxHeartbeats 1000000 in
theorem where_of {w : World} {v : Value} {o : Option Int} {f : Option (Nat × Int)} {k : Nat} (h : Ch w v o f k) (hg : ErrT w) :
    Calls Tryd.prog 11 #[v] w fun e w' => e = .returned (whereOf f) ∧ Below w.heap.size w w' := by
  have hm := hmf
  obtain ⟨W3, hW3⟩ : ∃ W3, W3 = ((w.alloc (.cells #[.int .i64 0] 3)).alloc (.cells #[.bool false] 4)).alloc (.cells #[.pointer none] 42) := ⟨_, rfl⟩
  have hb3 : Below w.heap.size w W3 := by rw [hW3]; exact (((below_alloc w _).alloc (by simp) _).alloc (by simp; omega) _)
  have hz3 : W3.heap.size = w.heap.size + 3 := by rw [hW3]; simp
  have ht3 : W3.heap[w.heap.size + 2]? = some (.cells #[.pointer none] 42 (0, 0)) := by
    rw [hW3]
    have := heap_alloc_new ((w.alloc (.cells #[.int .i64 0] 3)).alloc (.cells #[.bool false] 4)) (.cells #[.pointer none] 42)
    rw [show ((w.alloc (.cells #[.int .i64 0] 3)).alloc (.cells #[.bool false] 4)).heap.size = w.heap.size + 2 by simp] at this
    exact this
  have hr0 : W3.heap[w.heap.size]? = some (.cells #[.int .i64 0] 3 (0, 0)) := by
    rw [hW3, Below.heap_alloc _ _ _ (by simp; omega), Below.heap_alloc _ _ _ (by simp)]
    exact heap_alloc_new w _
  have hr1 : W3.heap[w.heap.size + 1]? = some (.cells #[.bool false] 4 (0, 0)) := by
    rw [hW3, Below.heap_alloc _ _ _ (by simp)]
    have := heap_alloc_new (w.alloc (.cells #[.int .i64 0] 3)) (.cells #[.bool false] 4)
    rw [show (w.alloc (.cells #[.int .i64 0] 3)).heap.size = w.heap.size + 1 by simp] at this
    exact this
  have HA := Lib.hid (as_of (t := w.heap.size + 2) (h.under hb3) ht3 (cell_under hb3 hg))
  have HW := Lib.hid hW3
  have HB := Lib.hid hb3
  have HR0 := Lib.hid hr0
  have HR1 := Lib.hid hr1
  have HT3 := Lib.hid ht3
  have HZ := Lib.hid hz3
  cases f with
  | none =>
    clear h hW3 hb3 hr0 hr1 ht3 hz3
    go_enter_defers Tryd.func11, Tryd.ntmps11
    go_wp2_with fail
    rw [← HW.out]
    refine HA.out.mono ?_
    rintro e w' ⟨rfl, hb⟩
    have hq : ∀ i, i < W3.heap.size → w'.heap[i]? = W3.heap[i]? := fun i hi => hb.block i hi
    have c0 : w'.cell? ⟨w.heap.size, 0, none⟩ = some (.int .i64 0) := cell_of_row _ _ 0 _ _ _ ((hq _ (by rw [HZ.out]; omega)).trans HR0.out)
    have c1 : w'.cell? ⟨w.heap.size + 1, 0, none⟩ = some (.bool false) := cell_of_row _ _ 0 _ _ _ ((hq _ (by rw [HZ.out]; omega)).trans HR1.out)
    have f0 : w'.frozen? ⟨w.heap.size, 0, none⟩ = false := frozen_of_row _ _ 0 _ _ ((hq _ (by rw [HZ.out]; omega)).trans HR0.out)
    have f1 : w'.frozen? ⟨w.heap.size + 1, 0, none⟩ = false := frozen_of_row _ _ 0 _ _ ((hq _ (by rw [HZ.out]; omega)).trans HR1.out)
    have ct : w'.cell? ⟨w.heap.size + 2, 0, none⟩ = some (.pointer none) := cell_of_row _ _ 0 _ _ _ ((hq _ (by rw [HZ.out]; omega)).trans HT3.out)
    have HB2 := Lib.hid (HB.out.trans (hb.mono HB.out.size))
    clear hb hq
    go_wp2_with fail
    refine leaves_cons (f := 29) (args := #[.pointer (some ⟨w.heap.size, 0, none⟩), .pointer (some ⟨w.heap.size + 1, 0, none⟩)]) (by simp) (by simp [go_sem]) ?_
    refine (where_idle _ _ _).mono ?_
    rintro e u' w'' ⟨rfl, rfl, rfl⟩
    simp [Leaves, settle, results, Tryd.results11, go_sem, c0, c1]
    exact ⟨rfl, (HB2.out.setCell (Nat.le_refl _) _).setCell (Nat.le_succ _) _⟩
  | some pn =>
    obtain ⟨p, n⟩ := pn
    have hp := h.first rfl
    have hpl := World.block_lt_of_cell? (a := ⟨p, 0, none⟩) _ hp
    have hpl' : p < w.heap.size := hpl
    have HP := Lib.hid (cell_under hb3 hp)
    clear h hW3 hb3 hr0 hr1 ht3 hz3 hp hpl
    go_enter_defers Tryd.func11, Tryd.ntmps11
    go_wp2_with fail
    rw [← HW.out]
    refine HA.out.mono ?_
    rintro e w' ⟨rfl, hc, ho⟩
    have hq : ∀ i, i < w.heap.size + 2 → w'.heap[i]? = W3.heap[i]? := fun i hi => ho.block i (by rw [HZ.out]; omega) (by omega)
    have c0 : w'.cell? ⟨w.heap.size, 0, none⟩ = some (.int .i64 0) := cell_of_row _ _ 0 _ _ _ ((hq _ (by omega)).trans HR0.out)
    have c1 : w'.cell? ⟨w.heap.size + 1, 0, none⟩ = some (.bool false) := cell_of_row _ _ 0 _ _ _ ((hq _ (by omega)).trans HR1.out)
    have f0 : w'.frozen? ⟨w.heap.size, 0, none⟩ = false := frozen_of_row _ _ 0 _ _ ((hq _ (by omega)).trans HR0.out)
    have f1 : w'.frozen? ⟨w.heap.size + 1, 0, none⟩ = false := frozen_of_row _ _ 0 _ _ ((hq _ (by omega)).trans HR1.out)
    have hp1 : w'.cell? ⟨p, 0, none⟩ = some (.int .i64 n) := by
      rw [World.cell?_of_block (w := W3) (hq p (by omega))]
      exact HP.out
    have HB2 := Lib.hid (HB.out.trans (ho.below (by omega) (by rw [HZ.out]; omega)))
    clear ho hq hpl'
    go_wp2_with fail
    refine leaves_cons (f := 29) (args := #[.pointer (some ⟨w.heap.size, 0, none⟩), .pointer (some ⟨w.heap.size + 1, 0, none⟩)]) (by simp) (by simp [go_sem]) ?_
    refine (where_idle _ _ _).mono ?_
    rintro e u' w'' ⟨rfl, rfl, rfl⟩
    simp [Leaves, settle, results, Tryd.results11, go_sem, c0, c1]
    exact ⟨rfl, (HB2.out.setCell (Nat.le_refl _) _).setCell (Nat.le_succ _) _⟩
end Go.Proofs.YtioigoipggnkpaaDoor
