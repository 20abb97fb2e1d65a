/-
  The walk of the statement WholeOrders.
-/
import Derived.Test.YtfhknnmffppfgaaDoorWholeT
import Derived.Test.YtfhknnmffppfgaaDoorAlive2
import Derived.Test.YtfhknnmffppfgaaDoorDigitsL
import Derived.Test.YtfhknnmffppfgaaDoorSlots
import Derived.Deep.RegionHeld3
import Derived.Deep.DrawnRows
import Derived.Deep.DeepCutAuto
namespace Go.Proofs.YtfhknnmffppfgaaDoor
open Go.RowKit
attribute [local go_sem ↓] Go.wp_at_zero Go.wp_at_succ

theorem held3_below {g : Nat} {p0 p1 p2 : Bool} {a0 a1 a2 : Option Addr} {n0 n1 n2 c0 c1 c2 : Nat} {N0 N1 N2 : Int} {w0 w w' : World} (hb : Below w.heap.size w w') (h : w.cell? ⟨g, 0, none⟩ = some (.bool p0) ∧ w.cell? ⟨g, 1, none⟩ = some (.slice a0 n0 c0) ∧ w.cell? ⟨g, 2, none⟩ = some (.bool p1) ∧ w.cell? ⟨g, 3, none⟩ = some (.slice a1 n1 c1) ∧ w.cell? ⟨g, 4, none⟩ = some (.bool p2) ∧ w.cell? ⟨g, 5, none⟩ = some (.slice a2 n2 c2) ∧ Num w (.slice a0 n0 c0) N0 40 ∧ Num w (.slice a1 n1 c1) N1 40 ∧ Num w (.slice a2 n2 c2) N2 40 ∧ Below w0.heap.size w0 w) : w'.cell? ⟨g, 0, none⟩ = some (.bool p0) ∧ w'.cell? ⟨g, 1, none⟩ = some (.slice a0 n0 c0) ∧ w'.cell? ⟨g, 2, none⟩ = some (.bool p1) ∧ w'.cell? ⟨g, 3, none⟩ = some (.slice a1 n1 c1) ∧ w'.cell? ⟨g, 4, none⟩ = some (.bool p2) ∧ w'.cell? ⟨g, 5, none⟩ = some (.slice a2 n2 c2) ∧ Num w' (.slice a0 n0 c0) N0 40 ∧ Num w' (.slice a1 n1 c1) N1 40 ∧ Num w' (.slice a2 n2 c2) N2 40 ∧ Below w0.heap.size w0 w' := by
  obtain ⟨k0, k1, k2, k3, k4, k5, h0, h1, h2, h4⟩ := h
  exact ⟨cell_after hb k0, cell_after hb k1, cell_after hb k2, cell_after hb k3, cell_after hb k4, cell_after hb k5, h0.below hb, h1.below hb, h2.below hb, h4.trans (hb.mono h4.size)⟩
theorem held3_n0 {g : Nat} {p0 p1 p2 : Bool} {a0 a1 a2 : Option Addr} {n0 n1 n2 c0 c1 c2 : Nat} {N0 N1 N2 : Int} {w0 w : World} (h : w.cell? ⟨g, 0, none⟩ = some (.bool p0) ∧ w.cell? ⟨g, 1, none⟩ = some (.slice a0 n0 c0) ∧ w.cell? ⟨g, 2, none⟩ = some (.bool p1) ∧ w.cell? ⟨g, 3, none⟩ = some (.slice a1 n1 c1) ∧ w.cell? ⟨g, 4, none⟩ = some (.bool p2) ∧ w.cell? ⟨g, 5, none⟩ = some (.slice a2 n2 c2) ∧ Num w (.slice a0 n0 c0) N0 40 ∧ Num w (.slice a1 n1 c1) N1 40 ∧ Num w (.slice a2 n2 c2) N2 40 ∧ Below w0.heap.size w0 w) : Num w (.slice a0 n0 c0) N0 40 := h.2.2.2.2.2.2.1
theorem held3_n1 {g : Nat} {p0 p1 p2 : Bool} {a0 a1 a2 : Option Addr} {n0 n1 n2 c0 c1 c2 : Nat} {N0 N1 N2 : Int} {w0 w : World} (h : w.cell? ⟨g, 0, none⟩ = some (.bool p0) ∧ w.cell? ⟨g, 1, none⟩ = some (.slice a0 n0 c0) ∧ w.cell? ⟨g, 2, none⟩ = some (.bool p1) ∧ w.cell? ⟨g, 3, none⟩ = some (.slice a1 n1 c1) ∧ w.cell? ⟨g, 4, none⟩ = some (.bool p2) ∧ w.cell? ⟨g, 5, none⟩ = some (.slice a2 n2 c2) ∧ Num w (.slice a0 n0 c0) N0 40 ∧ Num w (.slice a1 n1 c1) N1 40 ∧ Num w (.slice a2 n2 c2) N2 40 ∧ Below w0.heap.size w0 w) : Num w (.slice a1 n1 c1) N1 40 := h.2.2.2.2.2.2.2.1
theorem held3_n2 {g : Nat} {p0 p1 p2 : Bool} {a0 a1 a2 : Option Addr} {n0 n1 n2 c0 c1 c2 : Nat} {N0 N1 N2 : Int} {w0 w : World} (h : w.cell? ⟨g, 0, none⟩ = some (.bool p0) ∧ w.cell? ⟨g, 1, none⟩ = some (.slice a0 n0 c0) ∧ w.cell? ⟨g, 2, none⟩ = some (.bool p1) ∧ w.cell? ⟨g, 3, none⟩ = some (.slice a1 n1 c1) ∧ w.cell? ⟨g, 4, none⟩ = some (.bool p2) ∧ w.cell? ⟨g, 5, none⟩ = some (.slice a2 n2 c2) ∧ Num w (.slice a0 n0 c0) N0 40 ∧ Num w (.slice a1 n1 c1) N1 40 ∧ Num w (.slice a2 n2 c2) N2 40 ∧ Below w0.heap.size w0 w) : Num w (.slice a2 n2 c2) N2 40 := h.2.2.2.2.2.2.2.2.1
theorem held3_base {g : Nat} {p0 p1 p2 : Bool} {a0 a1 a2 : Option Addr} {n0 n1 n2 c0 c1 c2 : Nat} {N0 N1 N2 : Int} {w0 w : World} (h : w.cell? ⟨g, 0, none⟩ = some (.bool p0) ∧ w.cell? ⟨g, 1, none⟩ = some (.slice a0 n0 c0) ∧ w.cell? ⟨g, 2, none⟩ = some (.bool p1) ∧ w.cell? ⟨g, 3, none⟩ = some (.slice a1 n1 c1) ∧ w.cell? ⟨g, 4, none⟩ = some (.bool p2) ∧ w.cell? ⟨g, 5, none⟩ = some (.slice a2 n2 c2) ∧ Num w (.slice a0 n0 c0) N0 40 ∧ Num w (.slice a1 n1 c1) N1 40 ∧ Num w (.slice a2 n2 c2) N2 40 ∧ Below w0.heap.size w0 w) : Below w0.heap.size w0 w := h.2.2.2.2.2.2.2.2.2

theorem light_three_at (a1 a2 a3 : Option Addr) (n1 n2 n3 c1 c2 c3 : Nat) (t : TypeId) (w : World) (g : Nat) (hg : w.heap.size = g) (h1 : n1 ≤ 9223372036854775807) (h2 : n2 ≤ 9223372036854775807) (h3 : n3 ≤ 9223372036854775807) :
    Calls Tryd.prog 11 #[.slice (some ⟨g, 0, none⟩) 3 3] (w.alloc (.cells #[.slice a1 n1 c1, .slice a2 n2 c2, .slice a3 n3 c3] t)) fun e w' => e = .returned (.bool (decide (n1 ≤ 40) && (decide (n2 ≤ 40) && decide (n3 ≤ 40)))) ∧ w' = w.alloc (.cells #[.slice a1 n1 c1, .slice a2 n2 c2, .slice a3 n3 c3] t) := by
  subst hg
  refine (light_any (some ⟨w.heap.size, 0, none⟩) 3 3 [.slice a1 n1 c1, .slice a2 n2 c2, .slice a3 n3 c3] [List.replicate n1 0, List.replicate n2 0, List.replicate n3 0] _ rfl rfl (Nat.le_refl _) (by decide) (row_new w [.slice a1 n1 c1, .slice a2 n2 c2, .slice a3 n3 c3] t) ?_ ?_).mono ?_
  · intro j hj
    match j, hj with
    | 0, _ => exact ⟨a1, c1, by simp⟩
    | 1, _ => exact ⟨a2, c2, by simp⟩
    | 2, _ => exact ⟨a3, c3, by simp⟩
  · intro j
    match j with
    | 0 => simpa using h1
    | 1 => simpa using h2
    | 2 => simpa using h3
    | j + 3 => simp
  · rintro e w' ⟨rfl, rfl⟩
    refine ⟨?_, rfl⟩
    simp [lightB]

theorem cmpI_lt_iff' (a b : Int) : (cmpI a b = -1 ∧ a < b) ∨ (cmpI a b = 0 ∧ a = b) ∨ (cmpI a b = 1 ∧ b < a) := by
  rcases Int.lt_trichotomy a b with h | h | h
  · exact .inl ⟨cmpI_lt h, h⟩
  · exact .inr (.inl ⟨cmpI_eq h, h⟩)
  · exact .inr (.inr ⟨cmpI_gt h, h⟩)
theorem cmpI_flip (a b : Int) : cmpI b a = -cmpI a b := by
  rcases cmpI_lt_iff' a b with ⟨h, k⟩ | ⟨h, k⟩ | ⟨h, k⟩
  · rw [h, cmpI_gt k]; rfl
  · rw [h, cmpI_eq k.symm]; rfl
  · rw [h, cmpI_lt k]
theorem cmpI_shift (a b c : Int) : cmpI (a + c) (b + c) = cmpI a b := by
  rcases cmpI_lt_iff' a b with ⟨h, k⟩ | ⟨h, k⟩ | ⟨h, k⟩
  · rw [h, cmpI_lt (by omega)]
  · rw [h, cmpI_eq (by omega)]
  · rw [h, cmpI_gt (by omega)]
theorem cmpI_neg (a b : Int) : cmpI (-a) (-b) = cmpI b a := by
  rcases cmpI_lt_iff' b a with ⟨h, k⟩ | ⟨h, k⟩ | ⟨h, k⟩
  · rw [h, cmpI_lt (by omega)]
  · rw [h, cmpI_eq (by omega)]
  · rw [h, cmpI_gt (by omega)]
theorem cmpI_diff (a b : Int) : cmpI (a - b) 0 = cmpI a b := by
  rcases cmpI_lt_iff' a b with ⟨h, k⟩ | ⟨h, k⟩ | ⟨h, k⟩
  · rw [h, cmpI_lt (by omega)]
  · rw [h, cmpI_eq (by omega)]
  · rw [h, cmpI_gt (by omega)]
theorem cmpI_trans (a b c : Int) : ¬ (cmpI a b ≤ 0 ∧ cmpI b c ≤ 0 ∧ 0 < cmpI a c) ∧ ¬ (0 ≤ cmpI a b ∧ 0 ≤ cmpI b c ∧ cmpI a c < 0) := by
  have h1 := cmpI_lt_iff' a b
  have h2 := cmpI_lt_iff' b c
  have h3 := cmpI_lt_iff' a c
  omega
/-- The integers of the array that have been made so far. -/
def Made (g k : Nat) (w : World) (v0 v1 v2 : Value) : Prop :=
  (1 ≤ k → ∃ N, NewN (g + 1) w v0 N 40) ∧ (2 ≤ k → ∃ N, NewN (g + 1) w v1 N 40) ∧ (3 ≤ k → ∃ N, NewN (g + 1) w v2 N 40)
theorem Made.below {g k : Nat} {w w' : World} {v0 v1 v2 : Value} (h : Made g k w v0 v1 v2) (hb : Below w.heap.size w w') : Made g k w' v0 v1 v2 :=
  ⟨fun hk => (h.1 hk).imp fun _ h => h.below hb, fun hk => (h.2.1 hk).imp fun _ h => h.below hb, fun hk => (h.2.2 hk).imp fun _ h => h.below hb⟩
theorem Made.only {g k lo hi : Nat} {w w' : World} {v0 v1 v2 : Value} (h : Made g k w v0 v1 v2) (ho : Only g lo hi w w') : Made g k w' v0 v1 v2 :=
  ⟨fun hk => (h.1 hk).imp fun _ h => h.only ho (Nat.lt_succ_self g), fun hk => (h.2.1 hk).imp fun _ h => h.only ho (Nat.lt_succ_self g), fun hk => (h.2.2 hk).imp fun _ h => h.only ho (Nat.lt_succ_self g)⟩
theorem six_set (j : Nat) {w : World} {g : Nat} {cs : Array Value} {t : TypeId} (u v : Value) (h : w.heap[g]? = some (.cells cs t (0, 0))) :
    ((w.setCell ⟨g, j, none⟩ u).setCell ⟨g, j + 1, none⟩ v).heap[g]? = some (.cells ((cs.setIfInBounds j u).setIfInBounds (j + 1) v) t (0, 0)) := by
  have h1 := heap_setCell_same w g j _ t u h
  have h2 := heap_setCell_same (w.setCell ⟨g, j, none⟩ u) g (j + 1) _ t v h1
  rw [h2]
theorem six_only (j : Nat) {w : World} {g : Nat} (u v : Value) : Only g j (j + 2) w ((w.setCell ⟨g, j, none⟩ u).setCell ⟨g, j + 1, none⟩ v) :=
  (Only.store j u (Nat.le_refl _) (by omega)).trans (Only.store (j + 1) v (by omega) (by omega))
theorem row_cell {w : World} {g : Nat} {cs : Array Value} {t : TypeId} (h : w.heap[g]? = some (.cells cs t (0, 0))) (j : Nat) (x : Value) (hx : cs[j]? = some x) : w.cell? ⟨g, j, none⟩ = some x := by
  rw [cell_of_row w g j _ t _ h]; exact hx
set_option maxRecDepth 100000 in
theorem orders_heavy (aA aB aC : Option Addr) (nA nB nC cA cB cC : Nat) (q0 q1 q2 : Bool) (w : World) (h1 : nA ≤ 9223372036854775807) (h2 : nB ≤ 9223372036854775807) (h3 : nC ≤ 9223372036854775807) (h : ¬ (nA ≤ 40 ∧ nB ≤ 40 ∧ nC ≤ 40)) :
    Calls Tryd.prog 9 #[.agg #[.slice aA nA cA, .slice aB nB cB, .slice aC nC cC], .agg #[.bool q0, .bool q1, .bool q2]] w fun e w' => RetV w (.bool true) e w' := by
  have hl := light_three_at aA aB aC nA nB nC cA cB cC 22 ((w.alloc (.cells #[.slice aA nA cA, .slice aB nB cB, .slice aC nC cC] 81)).alloc (.cells #[.bool q0, .bool q1, .bool q2] 82)) (w.heap.size + 2) (by simp) h1 h2 h3
  rw [show (decide (nA ≤ 40) && (decide (nB ≤ 40) && decide (nC ≤ 40))) = false by simpa using h] at hl
  have HL := Lib.hid hl
  have hb0 := below_alloc w (.cells #[.slice aA nA cA, .slice aB nB cB, .slice aC nC cC] 81)
  have hb1 := hb0.alloc (Nat.le_of_lt (by simp)) (.cells #[.bool q0, .bool q1, .bool q2] 82)
  have hb2 := hb1.alloc (Nat.le_of_lt (by simp; omega)) (.cells #[Value.slice aA nA cA, Value.slice aB nB cB, Value.slice aC nC cC] 22)
  clear hl h
  go_enter Tryd.func9, Tryd.ntmps9
  go_wp2_with fail
  refine HL.out.mono ?_
  rintro e w' ⟨rfl, rfl⟩
  go_wp2_with fail
  refine (alive2_yes _).mono ?_
  rintro e w1 ⟨rfl, hb⟩
  go_wp2_with fail
  go_ret
  exact ⟨rfl, hb2.trans (hb.mono hb2.size)⟩

set_option maxRecDepth 100000 in
set_option maxHeartbeats 4000000 in
theorem orders_ok (aA aB aC : Option Addr) (nA nB nC cA cB cC : Nat) (q0 q1 q2 : Bool) {A B C : Int} (w : World) (hA : Num w (.slice aA nA cA) A 40) (hB : Num w (.slice aB nB cB) B 40) (hC : Num w (.slice aC nC cC) C 40) (hlA : nA ≤ 40) (hlB : nB ≤ 40) (hlC : nC ≤ 40) :
    Calls Tryd.prog 9 #[.agg #[.slice aA nA cA, .slice aB nB cB, .slice aC nC cC], .agg #[.bool q0, .bool q1, .bool q2]] w fun e w' => RetV w (.bool true) e w' := by
  have hl := light_three_at aA aB aC nA nB nC cA cB cC 22 ((w.alloc (.cells #[.slice aA nA cA, .slice aB nB cB, .slice aC nC cC] 81)).alloc (.cells #[.bool q0, .bool q1, .bool q2] 82)) (w.heap.size + 2) (by simp) (by omega) (by omega) (by omega)
  rw [show (decide (nA ≤ 40) && (decide (nB ≤ 40) && decide (nC ≤ 40))) = true by simp; omega] at hl
  have HL := Lib.hid hl
  have hb0 := below_alloc w (.cells #[.slice aA nA cA, .slice aB nB cB, .slice aC nC cC] 81)
  have hb1 := hb0.alloc (Nat.le_of_lt (by simp)) (.cells #[.bool q0, .bool q1, .bool q2] 82)
  have hb2 := hb1.alloc (Nat.le_of_lt (by simp; omega)) (.cells #[Value.slice aA nA cA, Value.slice aB nB cB, Value.slice aC nC cC] 22)
  have sA := slot_kept (slot_kept (heap_alloc_new w (.cells #[.slice aA nA cA, .slice aB nB cB, .slice aC nC cC] 81)) (below_alloc _ (.cells #[.bool q0, .bool q1, .bool q2] 82))) (below_alloc _ (.cells #[Value.slice aA nA cA, Value.slice aB nB cB, Value.slice aC nC cC] 22))
  have sB := slot_kept (heap_alloc2_new w (.cells #[.slice aA nA cA, .slice aB nB cB, .slice aC nC cC] 81) (.cells #[.bool q0, .bool q1, .bool q2] 82)) (below_alloc _ (.cells #[Value.slice aA nA cA, Value.slice aB nB cB, Value.slice aC nC cC] 22))
  clear hl
  go_enter Tryd.func9, Tryd.ntmps9
  go_wp2_with fail
  refine HL.out.mono ?_
  rintro e w' ⟨rfl, rfl⟩
  go_wp2_with fail
  refine (alive2_yes _).mono ?_
  rintro e w1 ⟨rfl, hb⟩
  have tA := slot_kept sA hb
  have tB := slot_kept sB hb
  have hbw := hb2.trans (hb.mono hb2.size)
  have hsz1 : w.heap.size + 3 ≤ w1.heap.size := by have := hb.size; simpa using this
  replace hA := hA.below hbw
  replace hB := hB.below hbw
  replace hC := hC.below hbw
  clear sA sB hb hb0 hb1 hb2 HL
  go_wp2_with fail
  go_loopw [6] (fun ii wr => ∃ (k : Nat) (x : Int) (p0 p1 p2 : Bool) (a0 a1 a2 : Option Addr) (n0 n1 n2 c0 c1 c2 : Nat), k ≤ 3 ∧ x = (k : Int) ∧ ii = .int .i64 x ∧ wr.heap[w1.heap.size]? = some (.cells #[.bool p0, .slice a0 n0 c0, .bool p1, .slice a1 n1 c1, .bool p2, .slice a2 n2 c2] 83 (0, 0)) ∧ Below w1.heap.size w1 wr ∧ w1.heap.size < wr.heap.size ∧ Hid (Made w1.heap.size k wr (.slice a0 n0 c0) (.slice a1 n1 c1) (.slice a2 n2 c2)))
    (fun ii _ => 3 - (intOf ii).toNat)
  case atStart => exact ⟨0, 0, false, false, false, none, none, none, 0, 0, 0, 0, 0, 0, by omega, rfl, rfl, heap_alloc_new w1 _, below_alloc w1 _, by simp, ⟨fun h => by omega, fun h => by omega, fun h => by omega⟩⟩
  case round =>
    obtain ⟨k, x, p0, p1, p2, a0, a1, a2, n0, n1, n2, c0, c1, c2, hk, hxk, rfl, hblk, hbr, hgs, HM⟩ := hrel
    have hsa := slot_kept tA hbr
    have hsb := slot_kept tB hbr
    have hA2 := hA.below hbr
    have hB2 := hB.below hbr
    have hC2 := hC.below hbr
    have hk4 : k = 0 ∨ k = 1 ∨ k = 2 ∨ k = 3 := by omega
    rcases hk4 with rfl | rfl | rfl | rfl
    · obtain rfl : x = 0 := by omega
      have m0 : wr.drew.cell? ⟨w.heap.size + 1, 0, none⟩ = some (.bool q0) := row_cell hsb 0 _ rfl
      have m1 : wr.drew.cell? ⟨w.heap.size, 0, none⟩ = some (.slice aA nA cA) := row_cell hsa 0 _ rfl
      have hN : Num wr.drew (.slice aA nA cA) A 40 := hA2.below (bdn (Below.refl _ _) 1)
      have hblk' : wr.drew.heap[w1.heap.size]? = some (.cells #[.bool p0, .slice a0 n0 c0, .bool p1, .slice a1 n1 c1, .bool p2, .slice a2 n2 c2] 83 (0, 0)) := hblk
      have HBK := Lib.hid hblk'
      clear hblk hblk' hxk hk
      go_wp2_with fail
      go_region_with (go_at_call 56; refine (make_num q0 hN (by decide)).mono ?_; rintro e w4 ⟨pZ, aZ, nZ, cZ, NZ, rfl, hZ, -, -, hb4⟩; have hq := slot_kept HBK.out hb4; have s0 := row_cell hq 0 _ rfl; have s1 := row_cell hq 1 _ rfl; have f0 := frozen_of_row w4 w1.heap.size 0 _ 83 hq; have f1 := frozen_of_row w4 w1.heap.size 1 _ 83 hq)
      all_goals
        go_wp2_with fail
        go_roundw
        case rel =>
          have hz1 : Below w1.heap.size w1 w4 := (hbr.trans ((bdn (Below.refl wr.heap.size wr) 1).mono hbr.size)).trans (hb4.mono hbr.size)
          have ho := six_only (w := w4) (g := w1.heap.size) 0 (.bool pZ) (.slice aZ nZ cZ)
          have HM2 := ((HM.out.below (bdn (Below.refl wr.heap.size wr) 1)).below hb4).only ho
          have hZ2 := (hZ.base (show w1.heap.size + 1 ≤ wr.drew.heap.size from hgs)).only ho (Nat.lt_succ_self _)
          exact ⟨1, 1, pZ, p1, p2, aZ, a1, a2, nZ, n1, n2, cZ, c1, c2, by omega, rfl, by go_num, six_set 0 _ _ hq, hz1.trans (ho.below (Nat.le_refl _) hz1.size), Nat.lt_of_lt_of_le hgs (by simpa using hb4.size), ⟨fun _ => ⟨NZ, hZ2⟩, fun h => by omega, fun h => by omega⟩⟩
        case measure => simp [intOf]
    · obtain rfl : x = 1 := by omega
      have m0 : wr.drew.cell? ⟨w.heap.size + 1, 1, none⟩ = some (.bool q1) := row_cell hsb 1 _ rfl
      have m1 : wr.drew.cell? ⟨w.heap.size, 1, none⟩ = some (.slice aB nB cB) := row_cell hsa 1 _ rfl
      have hN : Num wr.drew (.slice aB nB cB) B 40 := hB2.below (bdn (Below.refl _ _) 1)
      have hblk' : wr.drew.heap[w1.heap.size]? = some (.cells #[.bool p0, .slice a0 n0 c0, .bool p1, .slice a1 n1 c1, .bool p2, .slice a2 n2 c2] 83 (0, 0)) := hblk
      have HBK := Lib.hid hblk'
      clear hblk hblk' hxk hk
      go_wp2_with fail
      go_region_with (go_at_call 56; refine (make_num q1 hN (by decide)).mono ?_; rintro e w4 ⟨pZ, aZ, nZ, cZ, NZ, rfl, hZ, -, -, hb4⟩; have hq := slot_kept HBK.out hb4; have s0 := row_cell hq 2 _ rfl; have s1 := row_cell hq 3 _ rfl; have f0 := frozen_of_row w4 w1.heap.size 2 _ 83 hq; have f1 := frozen_of_row w4 w1.heap.size 3 _ 83 hq)
      all_goals
        go_wp2_with fail
        go_roundw
        case rel =>
          have hz1 : Below w1.heap.size w1 w4 := (hbr.trans ((bdn (Below.refl wr.heap.size wr) 1).mono hbr.size)).trans (hb4.mono hbr.size)
          have ho := six_only (w := w4) (g := w1.heap.size) 2 (.bool pZ) (.slice aZ nZ cZ)
          have HM2 := ((HM.out.below (bdn (Below.refl wr.heap.size wr) 1)).below hb4).only ho
          have hZ2 := (hZ.base (show w1.heap.size + 1 ≤ wr.drew.heap.size from hgs)).only ho (Nat.lt_succ_self _)
          exact ⟨2, 2, p0, pZ, p2, a0, aZ, a2, n0, nZ, n2, c0, cZ, c2, by omega, rfl, by go_num, six_set 2 _ _ hq, hz1.trans (ho.below (Nat.le_refl _) hz1.size), Nat.lt_of_lt_of_le hgs (by simpa using hb4.size), ⟨fun _ => HM2.1 (by omega), fun _ => ⟨NZ, hZ2⟩, fun h => by omega⟩⟩
        case measure => simp [intOf]
    · obtain rfl : x = 2 := by omega
      have m0 : wr.drew.cell? ⟨w.heap.size + 1, 2, none⟩ = some (.bool q2) := row_cell hsb 2 _ rfl
      have m1 : wr.drew.cell? ⟨w.heap.size, 2, none⟩ = some (.slice aC nC cC) := row_cell hsa 2 _ rfl
      have hN : Num wr.drew (.slice aC nC cC) C 40 := hC2.below (bdn (Below.refl _ _) 1)
      have hblk' : wr.drew.heap[w1.heap.size]? = some (.cells #[.bool p0, .slice a0 n0 c0, .bool p1, .slice a1 n1 c1, .bool p2, .slice a2 n2 c2] 83 (0, 0)) := hblk
      have HBK := Lib.hid hblk'
      clear hblk hblk' hxk hk
      go_wp2_with fail
      go_region_with (go_at_call 56; refine (make_num q2 hN (by decide)).mono ?_; rintro e w4 ⟨pZ, aZ, nZ, cZ, NZ, rfl, hZ, -, -, hb4⟩; have hq := slot_kept HBK.out hb4; have s0 := row_cell hq 4 _ rfl; have s1 := row_cell hq 5 _ rfl; have f0 := frozen_of_row w4 w1.heap.size 4 _ 83 hq; have f1 := frozen_of_row w4 w1.heap.size 5 _ 83 hq)
      all_goals
        go_wp2_with fail
        go_roundw
        case rel =>
          have hz1 : Below w1.heap.size w1 w4 := (hbr.trans ((bdn (Below.refl wr.heap.size wr) 1).mono hbr.size)).trans (hb4.mono hbr.size)
          have ho := six_only (w := w4) (g := w1.heap.size) 4 (.bool pZ) (.slice aZ nZ cZ)
          have HM2 := ((HM.out.below (bdn (Below.refl wr.heap.size wr) 1)).below hb4).only ho
          have hZ2 := (hZ.base (show w1.heap.size + 1 ≤ wr.drew.heap.size from hgs)).only ho (Nat.lt_succ_self _)
          exact ⟨3, 3, p0, p1, pZ, a0, a1, aZ, n0, n1, nZ, c0, c1, cZ, by omega, rfl, by go_num, six_set 4 _ _ hq, hz1.trans (ho.below (Nat.le_refl _) hz1.size), Nat.lt_of_lt_of_le hgs (by simpa using hb4.size), ⟨fun _ => HM2.1 (by omega), fun _ => HM2.2.1 (by omega), fun _ => ⟨NZ, hZ2⟩⟩⟩
        case measure => simp [intOf]
    · obtain rfl : x = 3 := by omega
      obtain ⟨M0, M1, M2⟩ := HM.out
      obtain ⟨N0, h0⟩ := M0 (by omega)
      obtain ⟨N1, h1⟩ := M1 (by omega)
      obtain ⟨N2, h2⟩ := M2 (by omega)
      clear hxk hk HM M0 M1 M2 hA hB hC hA2 hB2 hC2 hsa hsb tA tB
      go_wp2_with fail
      have hS8 : wr.drew.cell? ⟨w1.heap.size, 0, none⟩ = some (.bool p0) ∧ wr.drew.cell? ⟨w1.heap.size, 1, none⟩ = some (.slice a0 n0 c0) ∧ wr.drew.cell? ⟨w1.heap.size, 2, none⟩ = some (.bool p1) ∧ wr.drew.cell? ⟨w1.heap.size, 3, none⟩ = some (.slice a1 n1 c1) ∧ wr.drew.cell? ⟨w1.heap.size, 4, none⟩ = some (.bool p2) ∧ wr.drew.cell? ⟨w1.heap.size, 5, none⟩ = some (.slice a2 n2 c2) ∧ Num wr.drew (.slice a0 n0 c0) N0 40 ∧ Num wr.drew (.slice a1 n1 c1) N1 40 ∧ Num wr.drew (.slice a2 n2 c2) N2 40 ∧ Below w1.heap.size w1 wr.drew :=
        ⟨row_cell hblk 0 _ rfl, row_cell hblk 1 _ rfl, row_cell hblk 2 _ rfl, row_cell hblk 3 _ rfl, row_cell hblk 4 _ rfl, row_cell hblk 5 _ rfl, h0.num.below (bdn (Below.refl _ _) 1), h1.num.below (bdn (Below.refl _ _) 1), h2.num.below (bdn (Below.refl _ _) 1), bdn hbr 1⟩
      clear hblk h0 h1 h2 hbr hgs
      obtain ⟨s01, e01⟩ : ∃ s, cmpI (sg p0 N0) (sg p1 N1) = s := ⟨_, rfl⟩
      obtain ⟨s12, e12⟩ : ∃ s, cmpI (sg p1 N1) (sg p2 N2) = s := ⟨_, rfl⟩
      obtain ⟨s02, e02⟩ : ∃ s, cmpI (sg p0 N0) (sg p2 N2) = s := ⟨_, rfl⟩
      obtain ⟨ns, hns⟩ : ∃ s, IntKind.i64.wrap (-s01) = s := ⟨_, rfl⟩
      have hneg := cmpI_range (sg p0 N0) (sg p1 N1)
      rw [e01] at hneg
      have hns1 : ns = -s01 := by rw [← hns, IntKind.wrap_i64]; rcases hneg with h | h | h <;> rw [h] <;> decide
      have hnn : IntKind.i64.wrap (-ns) = s01 := by rw [hns1, IntKind.wrap_i64]; rcases hneg with h | h | h <;> rw [h] <;> decide
      have e10 : cmpI (sg p1 N1) (sg p0 N0) = ns := by rw [hns1, ← e01]; exact cmpI_flip _ _
      have eadd : cmpI (sg p0 N0 + sg p2 N2) (sg p1 N1 + sg p2 N2) = s01 := by rw [← e01]; exact cmpI_shift _ _ _
      have enot : cmpI (-(sg p0 N0)) (-(sg p1 N1)) = ns := by rw [← e10]; exact cmpI_neg _ _
      have esub : cmpI (sg p0 N0 - sg p1 N1) 0 = s01 := by rw [← e01]; exact cmpI_diff _ _
      have ebak : cmpI (sg p0 N0 - sg p1 N1 + sg p1 N1) (sg p0 N0) = 0 := cmpI_eq (by omega)
      have hT := cmpI_trans (sg p0 N0) (sg p1 N1) (sg p2 N2)
      rw [e01, e12, e02] at hT
      obtain ⟨hT1, hT2⟩ := hT
      have H01 := Lib.hid e01
      have H12 := Lib.hid e12
      have H02 := Lib.hid e02
      have H10 := Lib.hid e10
      have HAD := Lib.hid eadd
      have HNO := Lib.hid enot
      have HSU := Lib.hid esub
      have HBA := Lib.hid ebak
      clear e01 e12 e02 e10 eadd enot esub ebak hns1 hneg
      go_wp2_with fail
      refine wp_region_slots (by kernel_rfl) [37, 38, 39, 40, 41, 42, 43, 44, 45, 46, 47, 48, 49, 50, 51, 7, 8, 9] (fun w' => w'.cell? ⟨w1.heap.size, 0, none⟩ = some (.bool p0) ∧ w'.cell? ⟨w1.heap.size, 1, none⟩ = some (.slice a0 n0 c0) ∧ w'.cell? ⟨w1.heap.size, 2, none⟩ = some (.bool p1) ∧ w'.cell? ⟨w1.heap.size, 3, none⟩ = some (.slice a1 n1 c1) ∧ w'.cell? ⟨w1.heap.size, 4, none⟩ = some (.bool p2) ∧ w'.cell? ⟨w1.heap.size, 5, none⟩ = some (.slice a2 n2 c2) ∧ Num w' (.slice a0 n0 c0) N0 40 ∧ Num w' (.slice a1 n1 c1) N1 40 ∧ Num w' (.slice a2 n2 c2) N2 40 ∧ Below w1.heap.size w1 w') (Said [Is (.pointer (some ⟨w1.heap.size, 0, none⟩)), Is (.agg #[.bool p0, .slice a0 n0 c0]), Is (.pointer (some ⟨w1.heap.size, 2, none⟩)), Is (.agg #[.bool p1, .slice a1 n1 c1]), Is (.int .i64 s01), Is (.pointer (some ⟨w1.heap.size, 2, none⟩)), Is (.agg #[.bool p1, .slice a1 n1 c1]), Is (.pointer (some ⟨w1.heap.size, 4, none⟩)), Is (.agg #[.bool p2, .slice a2 n2 c2]), Is (.int .i64 s12), Is (.pointer (some ⟨w1.heap.size, 0, none⟩)), Is (.agg #[.bool p0, .slice a0 n0 c0]), Is (.pointer (some ⟨w1.heap.size, 4, none⟩)), Is (.agg #[.bool p2, .slice a2 n2 c2]), Is (.int .i64 s02), Is (.int .i64 s01), Is (.int .i64 s12), Is (.int .i64 s02)]) (by kernel_rfl) (by kernel_rfl) (by kernel_rfl) (by kernel_rfl) (Said.keep ?keep) hS8 (l := [0, 1, 2, 3, 4, 5, 6, 7, 8, 9, 10, 11, 12, 13, 14, 15, 16, 17]) (by kernel_rfl) ?step ?fin
      case keep =>
        refine List.forall_mem_cons.2 ⟨Is.keeps _, ?_⟩
        refine List.forall_mem_cons.2 ⟨Is.keeps _, ?_⟩
        refine List.forall_mem_cons.2 ⟨Is.keeps _, ?_⟩
        refine List.forall_mem_cons.2 ⟨Is.keeps _, ?_⟩
        refine List.forall_mem_cons.2 ⟨Is.keeps _, ?_⟩
        refine List.forall_mem_cons.2 ⟨Is.keeps _, ?_⟩
        refine List.forall_mem_cons.2 ⟨Is.keeps _, ?_⟩
        refine List.forall_mem_cons.2 ⟨Is.keeps _, ?_⟩
        refine List.forall_mem_cons.2 ⟨Is.keeps _, ?_⟩
        refine List.forall_mem_cons.2 ⟨Is.keeps _, ?_⟩
        refine List.forall_mem_cons.2 ⟨Is.keeps _, ?_⟩
        refine List.forall_mem_cons.2 ⟨Is.keeps _, ?_⟩
        refine List.forall_mem_cons.2 ⟨Is.keeps _, ?_⟩
        refine List.forall_mem_cons.2 ⟨Is.keeps _, ?_⟩
        refine List.forall_mem_cons.2 ⟨Is.keeps _, ?_⟩
        refine List.forall_mem_cons.2 ⟨Is.keeps _, ?_⟩
        refine List.forall_mem_cons.2 ⟨Is.keeps _, ?_⟩
        refine List.forall_mem_cons.2 ⟨Is.keeps _, ?_⟩
        exact fun _ h => nomatch h
      case step =>
        refine List.forall_mem_cons.2 ⟨?_, ?_⟩
        · refine SlotStep.plain rfl rfl rfl ?_
          intro tm ws hsame hS hg K hK
          have e5 : tm[5]? = some (.pointer (some ⟨w1.heap.size, 0, none⟩)) := hsame.2 5 rfl
          go_simp
          exact hK _ _ (Below.refl _ _) hS rfl
        refine List.forall_mem_cons.2 ⟨?_, ?_⟩
        · refine SlotStep.plain rfl rfl rfl ?_
          intro tm ws hsame hS hg K hK
          obtain ⟨v37, e37, rfl⟩ := hg 0 (by kernel_rfl) _ 37 rfl rfl
          go_simp
          exact hK _ _ (Below.refl _ _) hS rfl
        refine List.forall_mem_cons.2 ⟨?_, ?_⟩
        · refine SlotStep.plain rfl rfl rfl ?_
          intro tm ws hsame hS hg K hK
          have e5 : tm[5]? = some (.pointer (some ⟨w1.heap.size, 0, none⟩)) := hsame.2 5 rfl
          go_simp
          exact hK _ _ (Below.refl _ _) hS rfl
        refine List.forall_mem_cons.2 ⟨?_, ?_⟩
        · refine SlotStep.plain rfl rfl rfl ?_
          intro tm ws hsame hS hg K hK
          obtain ⟨v39, e39, rfl⟩ := hg 2 (by kernel_rfl) _ 39 rfl rfl
          go_simp
          exact hK _ _ (Below.refl _ _) hS rfl
        refine List.forall_mem_cons.2 ⟨?_, ?_⟩
        · refine SlotStep.plain rfl rfl rfl ?_
          intro tm ws hsame hS hg K hK
          obtain ⟨v38, e38, rfl⟩ := hg 1 (by kernel_rfl) _ 38 rfl rfl
          obtain ⟨v40, e40, rfl⟩ := hg 3 (by kernel_rfl) _ 40 rfl rfl
          go_simp
          refine (cmpw_num p0 p1 (held3_n0 hS) (held3_n1 hS) (by decide) (by decide)).mono ?_
          rintro e w2 ⟨rfl, hb⟩
          rw [H01.out]
          exact hK _ _ hb (held3_below hb hS) rfl
        refine List.forall_mem_cons.2 ⟨?_, ?_⟩
        · refine SlotStep.plain rfl rfl rfl ?_
          intro tm ws hsame hS hg K hK
          have e5 : tm[5]? = some (.pointer (some ⟨w1.heap.size, 0, none⟩)) := hsame.2 5 rfl
          go_simp
          exact hK _ _ (Below.refl _ _) hS rfl
        refine List.forall_mem_cons.2 ⟨?_, ?_⟩
        · refine SlotStep.plain rfl rfl rfl ?_
          intro tm ws hsame hS hg K hK
          obtain ⟨v42, e42, rfl⟩ := hg 5 (by kernel_rfl) _ 42 rfl rfl
          go_simp
          exact hK _ _ (Below.refl _ _) hS rfl
        refine List.forall_mem_cons.2 ⟨?_, ?_⟩
        · refine SlotStep.plain rfl rfl rfl ?_
          intro tm ws hsame hS hg K hK
          have e5 : tm[5]? = some (.pointer (some ⟨w1.heap.size, 0, none⟩)) := hsame.2 5 rfl
          go_simp
          exact hK _ _ (Below.refl _ _) hS rfl
        refine List.forall_mem_cons.2 ⟨?_, ?_⟩
        · refine SlotStep.plain rfl rfl rfl ?_
          intro tm ws hsame hS hg K hK
          obtain ⟨v44, e44, rfl⟩ := hg 7 (by kernel_rfl) _ 44 rfl rfl
          go_simp
          exact hK _ _ (Below.refl _ _) hS rfl
        refine List.forall_mem_cons.2 ⟨?_, ?_⟩
        · refine SlotStep.plain rfl rfl rfl ?_
          intro tm ws hsame hS hg K hK
          obtain ⟨v43, e43, rfl⟩ := hg 6 (by kernel_rfl) _ 43 rfl rfl
          obtain ⟨v45, e45, rfl⟩ := hg 8 (by kernel_rfl) _ 45 rfl rfl
          go_simp
          refine (cmpw_num p1 p2 (held3_n1 hS) (held3_n2 hS) (by decide) (by decide)).mono ?_
          rintro e w2 ⟨rfl, hb⟩
          rw [H12.out]
          exact hK _ _ hb (held3_below hb hS) rfl
        refine List.forall_mem_cons.2 ⟨?_, ?_⟩
        · refine SlotStep.plain rfl rfl rfl ?_
          intro tm ws hsame hS hg K hK
          have e5 : tm[5]? = some (.pointer (some ⟨w1.heap.size, 0, none⟩)) := hsame.2 5 rfl
          go_simp
          exact hK _ _ (Below.refl _ _) hS rfl
        refine List.forall_mem_cons.2 ⟨?_, ?_⟩
        · refine SlotStep.plain rfl rfl rfl ?_
          intro tm ws hsame hS hg K hK
          obtain ⟨v47, e47, rfl⟩ := hg 10 (by kernel_rfl) _ 47 rfl rfl
          go_simp
          exact hK _ _ (Below.refl _ _) hS rfl
        refine List.forall_mem_cons.2 ⟨?_, ?_⟩
        · refine SlotStep.plain rfl rfl rfl ?_
          intro tm ws hsame hS hg K hK
          have e5 : tm[5]? = some (.pointer (some ⟨w1.heap.size, 0, none⟩)) := hsame.2 5 rfl
          go_simp
          exact hK _ _ (Below.refl _ _) hS rfl
        refine List.forall_mem_cons.2 ⟨?_, ?_⟩
        · refine SlotStep.plain rfl rfl rfl ?_
          intro tm ws hsame hS hg K hK
          obtain ⟨v49, e49, rfl⟩ := hg 12 (by kernel_rfl) _ 49 rfl rfl
          go_simp
          exact hK _ _ (Below.refl _ _) hS rfl
        refine List.forall_mem_cons.2 ⟨?_, ?_⟩
        · refine SlotStep.plain rfl rfl rfl ?_
          intro tm ws hsame hS hg K hK
          obtain ⟨v48, e48, rfl⟩ := hg 11 (by kernel_rfl) _ 48 rfl rfl
          obtain ⟨v50, e50, rfl⟩ := hg 13 (by kernel_rfl) _ 50 rfl rfl
          go_simp
          refine (cmpw_num p0 p2 (held3_n0 hS) (held3_n2 hS) (by decide) (by decide)).mono ?_
          rintro e w2 ⟨rfl, hb⟩
          rw [H02.out]
          exact hK _ _ hb (held3_below hb hS) rfl
        refine List.forall_mem_cons.2 ⟨?_, ?_⟩
        · refine SlotStep.plain rfl rfl rfl ?_
          intro tm ws hsame hS hg K hK
          obtain ⟨v41, e41, rfl⟩ := hg 4 (by kernel_rfl) _ 41 rfl rfl
          go_simp
          exact hK _ _ (Below.refl _ _) hS rfl
        refine List.forall_mem_cons.2 ⟨?_, ?_⟩
        · refine SlotStep.plain rfl rfl rfl ?_
          intro tm ws hsame hS hg K hK
          obtain ⟨v46, e46, rfl⟩ := hg 9 (by kernel_rfl) _ 46 rfl rfl
          go_simp
          exact hK _ _ (Below.refl _ _) hS rfl
        refine List.forall_mem_cons.2 ⟨?_, ?_⟩
        · refine SlotStep.plain rfl rfl rfl ?_
          intro tm ws hsame hS hg K hK
          obtain ⟨v51, e51, rfl⟩ := hg 14 (by kernel_rfl) _ 51 rfl rfl
          go_simp
          exact hK _ _ (Below.refl _ _) hS rfl
        exact fun _ h => nomatch h
      case fin =>
        intro tm w8 hsame hS hgot
        obtain ⟨u, hu, htm⟩ := hsame.form (by kernel_rfl)
        have h7 : u 7 = .int .i64 s01 := (by obtain ⟨v, e, h⟩ := hgot 15 _ 7 rfl rfl; rw [hu _ _ e]; exact h)
        have h8 : u 8 = .int .i64 s12 := (by obtain ⟨v, e, h⟩ := hgot 16 _ 8 rfl rfl; rw [hu _ _ e]; exact h)
        have h9 : u 9 = .int .i64 s02 := (by obtain ⟨v, e, h⟩ := hgot 17 _ 9 rfl rfl; rw [hu _ _ e]; exact h)
        clear hgot hu hsame hS8
        rw [htm]
        clear htm tm
        simp only [List.foldl_cons, List.foldl_nil, List.setIfInBounds_toArray, List.set_cons_zero, List.set_cons_succ, h7, h8, h9]
        clear h7 h8 h9
        have hS9 := hS
        obtain ⟨k0, k1, k2, k3, k4, k5, -, -, -, -⟩ := hS9
        go_upto_region 9 with fail
        go_cut [83] from 52 to 83 (fun s83 wx => s83 = .bool false ∧ wx.cell? ⟨w1.heap.size, 0, none⟩ = some (.bool p0) ∧ wx.cell? ⟨w1.heap.size, 1, none⟩ = some (.slice a0 n0 c0) ∧ wx.cell? ⟨w1.heap.size, 2, none⟩ = some (.bool p1) ∧ wx.cell? ⟨w1.heap.size, 3, none⟩ = some (.slice a1 n1 c1) ∧ wx.cell? ⟨w1.heap.size, 4, none⟩ = some (.bool p2) ∧ wx.cell? ⟨w1.heap.size, 5, none⟩ = some (.slice a2 n2 c2) ∧ Num wx (.slice a0 n0 c0) N0 40 ∧ Num wx (.slice a1 n1 c1) N1 40 ∧ Num wx (.slice a2 n2 c2) N2 40 ∧ Below w1.heap.size w1 wx)
        case first =>
          go_wp2_with (go_at_call 44; refine (cmpw_num p1 p0 (held3_n1 hS) (held3_n0 hS) (by decide) (by decide)).mono ?_; rw [H10.out]; rintro e w2 ⟨rfl, hb⟩)
          all_goals
            go_meet
            exact ⟨by first | rfl | (refine congrArg Value.bool ?_; simp only [Bool.or_eq_false_iff, decide_eq_false_iff_not]; omega), held3_below hb hS⟩
        case rest =>
          clear hS k0 k1 k2 k3 k4 k5
          obtain ⟨rfl, hS⟩ := hcut
          have hS9 := hS
          obtain ⟨k0, k1, k2, k3, k4, k5, -, -, -, -⟩ := hS9
          go_wp2_with fail
          refine wp_region_slots (by kernel_rfl) [84, 85, 86, 87, 88, 89, 90, 91, 92, 93, 94, 95, 96, 97, 98, 99, 100, 101, 102, 103, 104, 105, 106, 107, 108, 109, 110, 111, 112, 113, 114, 115, 116, 117, 118, 119, 120, 121, 122, 123, 124, 125, 126, 127, 128, 129, 130, 131, 132, 133, 134, 135, 4] (fun w' => w'.cell? ⟨w1.heap.size, 0, none⟩ = some (.bool p0) ∧ w'.cell? ⟨w1.heap.size, 1, none⟩ = some (.slice a0 n0 c0) ∧ w'.cell? ⟨w1.heap.size, 2, none⟩ = some (.bool p1) ∧ w'.cell? ⟨w1.heap.size, 3, none⟩ = some (.slice a1 n1 c1) ∧ w'.cell? ⟨w1.heap.size, 4, none⟩ = some (.bool p2) ∧ w'.cell? ⟨w1.heap.size, 5, none⟩ = some (.slice a2 n2 c2) ∧ Num w' (.slice a0 n0 c0) N0 40 ∧ Num w' (.slice a1 n1 c1) N1 40 ∧ Num w' (.slice a2 n2 c2) N2 40 ∧ Below w1.heap.size w1 w') (Said [Is (.pointer (some ⟨w1.heap.size, 0, none⟩)), Is (.agg #[.bool p0, .slice a0 n0 c0]), Is (.pointer (some ⟨w1.heap.size, 4, none⟩)), Is (.agg #[.bool p2, .slice a2 n2 c2]), IsRow p2 a2 n2 c2, IsW (sg p0 N0 + sg p2 N2) 41, Is (.pointer (some ⟨w1.heap.size, 2, none⟩)), Is (.agg #[.bool p1, .slice a1 n1 c1]), Is (.pointer (some ⟨w1.heap.size, 4, none⟩)), Is (.agg #[.bool p2, .slice a2 n2 c2]), IsRow p2 a2 n2 c2, IsW (sg p1 N1 + sg p2 N2) 41, Is (.int .i64 s01), Is (.int .i64 s01), Is (.bool true), Is (.bool true), Is (.pointer (some ⟨w1.heap.size, 0, none⟩)), Is (.agg #[.bool p0, .slice a0 n0 c0]), IsW (-(sg p0 N0)) 40, Is (.pointer (some ⟨w1.heap.size, 2, none⟩)), Is (.agg #[.bool p1, .slice a1 n1 c1]), IsW (-(sg p1 N1)) 40, Is (.int .i64 ns), Is (.int .i64 s01), Is (.int .i64 ns), Is (.bool true), Is (.bool true), Is (.bool true), Is (.pointer (some ⟨w1.heap.size, 0, none⟩)), Is (.agg #[.bool p0, .slice a0 n0 c0]), Is (.pointer (some ⟨w1.heap.size, 2, none⟩)), Is (.agg #[.bool p1, .slice a1 n1 c1]), IsW (sg p0 N0 - sg p1 N1) 41, Is (.int .i64 s01), Is (.int .i64 s01), Is (.bool true), Is (.bool true), Is (.bool true), Is (.pointer (some ⟨w1.heap.size, 0, none⟩)), Is (.agg #[.bool p0, .slice a0 n0 c0]), Is (.pointer (some ⟨w1.heap.size, 2, none⟩)), Is (.agg #[.bool p1, .slice a1 n1 c1]), IsW (sg p0 N0 - sg p1 N1) 41, Is (.pointer (some ⟨w1.heap.size, 2, none⟩)), Is (.agg #[.bool p1, .slice a1 n1 c1]), IsRow p1 a1 n1 c1, IsW (sg p0 N0 - sg p1 N1 + sg p1 N1) 42, Is (.pointer (some ⟨w1.heap.size, 0, none⟩)), Is (.agg #[.bool p0, .slice a0 n0 c0]), Is (.int .i64 0), Is (.bool true), Is (.bool true), Is (.bool true)]) (by kernel_rfl) (by kernel_rfl) (by kernel_rfl) (by kernel_rfl) (Said.keep ?keep) (held3_below (bdn (Below.refl _ _) 1) hS) (l := [0, 1, 2, 3, 4, 5, 6, 7, 8, 9, 10, 11, 12, 13, 14, 15, 16, 17, 18, 19, 20, 21, 22, 23, 24, 25, 26, 27, 28, 29, 30, 31, 32, 33, 34, 35, 36, 37, 38, 39, 40, 41, 42, 43, 44, 45, 46, 47, 48, 49, 50, 51, 52]) (by kernel_rfl) ?step ?fin
          case keep =>
            refine List.forall_mem_cons.2 ⟨Is.keeps _, ?_⟩
            refine List.forall_mem_cons.2 ⟨Is.keeps _, ?_⟩
            refine List.forall_mem_cons.2 ⟨Is.keeps _, ?_⟩
            refine List.forall_mem_cons.2 ⟨Is.keeps _, ?_⟩
            refine List.forall_mem_cons.2 ⟨IsRow.keeps _ _ _ _, ?_⟩
            refine List.forall_mem_cons.2 ⟨IsW.keeps _ _, ?_⟩
            refine List.forall_mem_cons.2 ⟨Is.keeps _, ?_⟩
            refine List.forall_mem_cons.2 ⟨Is.keeps _, ?_⟩
            refine List.forall_mem_cons.2 ⟨Is.keeps _, ?_⟩
            refine List.forall_mem_cons.2 ⟨Is.keeps _, ?_⟩
            refine List.forall_mem_cons.2 ⟨IsRow.keeps _ _ _ _, ?_⟩
            refine List.forall_mem_cons.2 ⟨IsW.keeps _ _, ?_⟩
            refine List.forall_mem_cons.2 ⟨Is.keeps _, ?_⟩
            refine List.forall_mem_cons.2 ⟨Is.keeps _, ?_⟩
            refine List.forall_mem_cons.2 ⟨Is.keeps _, ?_⟩
            refine List.forall_mem_cons.2 ⟨Is.keeps _, ?_⟩
            refine List.forall_mem_cons.2 ⟨Is.keeps _, ?_⟩
            refine List.forall_mem_cons.2 ⟨Is.keeps _, ?_⟩
            refine List.forall_mem_cons.2 ⟨IsW.keeps _ _, ?_⟩
            refine List.forall_mem_cons.2 ⟨Is.keeps _, ?_⟩
            refine List.forall_mem_cons.2 ⟨Is.keeps _, ?_⟩
            refine List.forall_mem_cons.2 ⟨IsW.keeps _ _, ?_⟩
            refine List.forall_mem_cons.2 ⟨Is.keeps _, ?_⟩
            refine List.forall_mem_cons.2 ⟨Is.keeps _, ?_⟩
            refine List.forall_mem_cons.2 ⟨Is.keeps _, ?_⟩
            refine List.forall_mem_cons.2 ⟨Is.keeps _, ?_⟩
            refine List.forall_mem_cons.2 ⟨Is.keeps _, ?_⟩
            refine List.forall_mem_cons.2 ⟨Is.keeps _, ?_⟩
            refine List.forall_mem_cons.2 ⟨Is.keeps _, ?_⟩
            refine List.forall_mem_cons.2 ⟨Is.keeps _, ?_⟩
            refine List.forall_mem_cons.2 ⟨Is.keeps _, ?_⟩
            refine List.forall_mem_cons.2 ⟨Is.keeps _, ?_⟩
            refine List.forall_mem_cons.2 ⟨IsW.keeps _ _, ?_⟩
            refine List.forall_mem_cons.2 ⟨Is.keeps _, ?_⟩
            refine List.forall_mem_cons.2 ⟨Is.keeps _, ?_⟩
            refine List.forall_mem_cons.2 ⟨Is.keeps _, ?_⟩
            refine List.forall_mem_cons.2 ⟨Is.keeps _, ?_⟩
            refine List.forall_mem_cons.2 ⟨Is.keeps _, ?_⟩
            refine List.forall_mem_cons.2 ⟨Is.keeps _, ?_⟩
            refine List.forall_mem_cons.2 ⟨Is.keeps _, ?_⟩
            refine List.forall_mem_cons.2 ⟨Is.keeps _, ?_⟩
            refine List.forall_mem_cons.2 ⟨Is.keeps _, ?_⟩
            refine List.forall_mem_cons.2 ⟨IsW.keeps _ _, ?_⟩
            refine List.forall_mem_cons.2 ⟨Is.keeps _, ?_⟩
            refine List.forall_mem_cons.2 ⟨Is.keeps _, ?_⟩
            refine List.forall_mem_cons.2 ⟨IsRow.keeps _ _ _ _, ?_⟩
            refine List.forall_mem_cons.2 ⟨IsW.keeps _ _, ?_⟩
            refine List.forall_mem_cons.2 ⟨Is.keeps _, ?_⟩
            refine List.forall_mem_cons.2 ⟨Is.keeps _, ?_⟩
            refine List.forall_mem_cons.2 ⟨Is.keeps _, ?_⟩
            refine List.forall_mem_cons.2 ⟨Is.keeps _, ?_⟩
            refine List.forall_mem_cons.2 ⟨Is.keeps _, ?_⟩
            refine List.forall_mem_cons.2 ⟨Is.keeps _, ?_⟩
            exact fun _ h => nomatch h
          case step =>
            refine List.forall_mem_cons.2 ⟨?_, ?_⟩
            · refine SlotStep.plain rfl rfl rfl ?_
              intro tm ws hsame hS hg K hK
              have e5 : tm[5]? = some (.pointer (some ⟨w1.heap.size, 0, none⟩)) := hsame.2 5 rfl
              go_simp
              exact hK _ _ (Below.refl _ _) hS rfl
            refine List.forall_mem_cons.2 ⟨?_, ?_⟩
            · refine SlotStep.plain rfl rfl rfl ?_
              intro tm ws hsame hS hg K hK
              obtain ⟨v84, e84, rfl⟩ := hg 0 (by kernel_rfl) _ 84 rfl rfl
              go_simp
              exact hK _ _ (Below.refl _ _) hS rfl
            refine List.forall_mem_cons.2 ⟨?_, ?_⟩
            · refine SlotStep.plain rfl rfl rfl ?_
              intro tm ws hsame hS hg K hK
              have e5 : tm[5]? = some (.pointer (some ⟨w1.heap.size, 0, none⟩)) := hsame.2 5 rfl
              go_simp
              exact hK _ _ (Below.refl _ _) hS rfl
            refine List.forall_mem_cons.2 ⟨?_, ?_⟩
            · refine SlotStep.plain rfl rfl rfl ?_
              intro tm ws hsame hS hg K hK
              obtain ⟨v86, e86, rfl⟩ := hg 2 (by kernel_rfl) _ 86 rfl rfl
              go_simp
              exact hK _ _ (Below.refl _ _) hS rfl
            refine List.forall_mem_cons.2 ⟨?_, ?_⟩
            · refine SlotStep.plain rfl rfl rfl ?_
              intro tm ws hsame hS hg K hK
              obtain ⟨v87, e87, rfl⟩ := hg 3 (by kernel_rfl) _ 87 rfl rfl
              go_simp
              exact hK _ _ (below_alloc _ _) (held3_below (below_alloc _ _) hS) ⟨_, rfl, new_cell.1, new_cell.2⟩
            refine List.forall_mem_cons.2 ⟨?_, ?_⟩
            · refine SlotStep.plain rfl rfl rfl ?_
              intro tm ws hsame hS hg K hK
              obtain ⟨v85, e85, rfl⟩ := hg 1 (by kernel_rfl) _ 85 rfl rfl
              obtain ⟨v88, e88, ⟨r88, rfl, x88, y88⟩⟩ := hg 4 (by kernel_rfl) _ 88 rfl rfl
              go_simp
              refine (addw1_in p0 p2 x88 y88 (held3_n0 hS) (held3_n2 hS) (by decide)).mono ?_
              rintro e w2 ⟨pR, aR, nR, cR, NR, rfl, hR, hz, -, hb⟩
              exact hK _ _ hb (held3_below hb hS) ⟨pR, aR, nR, cR, NR, rfl, hR.num, hz⟩
            refine List.forall_mem_cons.2 ⟨?_, ?_⟩
            · refine SlotStep.plain rfl rfl rfl ?_
              intro tm ws hsame hS hg K hK
              have e5 : tm[5]? = some (.pointer (some ⟨w1.heap.size, 0, none⟩)) := hsame.2 5 rfl
              go_simp
              exact hK _ _ (Below.refl _ _) hS rfl
            refine List.forall_mem_cons.2 ⟨?_, ?_⟩
            · refine SlotStep.plain rfl rfl rfl ?_
              intro tm ws hsame hS hg K hK
              obtain ⟨v90, e90, rfl⟩ := hg 6 (by kernel_rfl) _ 90 rfl rfl
              go_simp
              exact hK _ _ (Below.refl _ _) hS rfl
            refine List.forall_mem_cons.2 ⟨?_, ?_⟩
            · refine SlotStep.plain rfl rfl rfl ?_
              intro tm ws hsame hS hg K hK
              have e5 : tm[5]? = some (.pointer (some ⟨w1.heap.size, 0, none⟩)) := hsame.2 5 rfl
              go_simp
              exact hK _ _ (Below.refl _ _) hS rfl
            refine List.forall_mem_cons.2 ⟨?_, ?_⟩
            · refine SlotStep.plain rfl rfl rfl ?_
              intro tm ws hsame hS hg K hK
              obtain ⟨v92, e92, rfl⟩ := hg 8 (by kernel_rfl) _ 92 rfl rfl
              go_simp
              exact hK _ _ (Below.refl _ _) hS rfl
            refine List.forall_mem_cons.2 ⟨?_, ?_⟩
            · refine SlotStep.plain rfl rfl rfl ?_
              intro tm ws hsame hS hg K hK
              obtain ⟨v93, e93, rfl⟩ := hg 9 (by kernel_rfl) _ 93 rfl rfl
              go_simp
              exact hK _ _ (below_alloc _ _) (held3_below (below_alloc _ _) hS) ⟨_, rfl, new_cell.1, new_cell.2⟩
            refine List.forall_mem_cons.2 ⟨?_, ?_⟩
            · refine SlotStep.plain rfl rfl rfl ?_
              intro tm ws hsame hS hg K hK
              obtain ⟨v91, e91, rfl⟩ := hg 7 (by kernel_rfl) _ 91 rfl rfl
              obtain ⟨v94, e94, ⟨r94, rfl, x94, y94⟩⟩ := hg 10 (by kernel_rfl) _ 94 rfl rfl
              go_simp
              refine (addw1_in p1 p2 x94 y94 (held3_n1 hS) (held3_n2 hS) (by decide)).mono ?_
              rintro e w2 ⟨pR, aR, nR, cR, NR, rfl, hR, hz, -, hb⟩
              exact hK _ _ hb (held3_below hb hS) ⟨pR, aR, nR, cR, NR, rfl, hR.num, hz⟩
            refine List.forall_mem_cons.2 ⟨?_, ?_⟩
            · refine SlotStep.plain rfl rfl rfl ?_
              intro tm ws hsame hS hg K hK
              obtain ⟨v89, e89, ⟨p89, a89, n89, c89, N89, rfl, g89, z89⟩⟩ := hg 5 (by kernel_rfl) _ 89 rfl rfl
              obtain ⟨v95, e95, ⟨p95, a95, n95, c95, N95, rfl, g95, z95⟩⟩ := hg 11 (by kernel_rfl) _ 95 rfl rfl
              go_simp
              refine (cmpw_num p89 p95 g89 g95 (by decide) (by decide)).mono ?_
              rw [← z89, ← z95, HAD.out]
              rintro e w2 ⟨rfl, hb⟩
              exact hK _ _ hb (held3_below hb hS) rfl
            refine List.forall_mem_cons.2 ⟨?_, ?_⟩
            · refine SlotStep.plain rfl rfl rfl ?_
              intro tm ws hsame hS hg K hK
              have e7 : tm[7]? = some (.int .i64 s01) := hsame.2 7 rfl
              go_simp
              exact hK _ _ (Below.refl _ _) hS rfl
            refine List.forall_mem_cons.2 ⟨?_, ?_⟩
            · refine SlotStep.plain rfl rfl rfl ?_
              intro tm ws hsame hS hg K hK
              obtain ⟨v96, e96, rfl⟩ := hg 12 (by kernel_rfl) _ 96 rfl rfl
              obtain ⟨v97, e97, rfl⟩ := hg 13 (by kernel_rfl) _ 97 rfl rfl
              go_simp
              exact hK _ _ (Below.refl _ _) hS rfl
            refine List.forall_mem_cons.2 ⟨?_, ?_⟩
            · refine SlotStep.plain rfl rfl rfl ?_
              intro tm ws hsame hS hg K hK
              obtain ⟨v98, e98, rfl⟩ := hg 14 (by kernel_rfl) _ 98 rfl rfl
              go_simp
              exact hK _ _ (Below.refl _ _) hS rfl
            refine List.forall_mem_cons.2 ⟨?_, ?_⟩
            · refine SlotStep.guarded rfl rfl 15 rfl rfl (by kernel_rfl) (fun _ _ h => h) ?_
              intro tm ws hsame hS hg K hK
              have e5 : tm[5]? = some (.pointer (some ⟨w1.heap.size, 0, none⟩)) := hsame.2 5 rfl
              go_simp
              exact hK _ _ (Below.refl _ _) hS rfl
            refine List.forall_mem_cons.2 ⟨?_, ?_⟩
            · refine SlotStep.guarded rfl rfl 15 rfl rfl (by kernel_rfl) (fun _ _ h => h) ?_
              intro tm ws hsame hS hg K hK
              obtain ⟨v100, e100, rfl⟩ := hg 16 (by kernel_rfl) _ 100 rfl rfl
              go_simp
              exact hK _ _ (Below.refl _ _) hS rfl
            refine List.forall_mem_cons.2 ⟨?_, ?_⟩
            · refine SlotStep.guarded rfl rfl 15 rfl rfl (by kernel_rfl) (fun _ _ h => h) ?_
              intro tm ws hsame hS hg K hK
              obtain ⟨v101, e101, rfl⟩ := hg 17 (by kernel_rfl) _ 101 rfl rfl
              go_simp
              refine (not_num p0 (held3_n0 hS) (by decide)).mono ?_
              rintro e w2 ⟨pR, aR, nR, cR, NR, rfl, hR, hz, -, hb⟩
              exact hK _ _ hb (held3_below hb hS) ⟨pR, aR, nR, cR, NR, rfl, hR.num, hz⟩
            refine List.forall_mem_cons.2 ⟨?_, ?_⟩
            · refine SlotStep.guarded rfl rfl 15 rfl rfl (by kernel_rfl) (fun _ _ h => h) ?_
              intro tm ws hsame hS hg K hK
              have e5 : tm[5]? = some (.pointer (some ⟨w1.heap.size, 0, none⟩)) := hsame.2 5 rfl
              go_simp
              exact hK _ _ (Below.refl _ _) hS rfl
            refine List.forall_mem_cons.2 ⟨?_, ?_⟩
            · refine SlotStep.guarded rfl rfl 15 rfl rfl (by kernel_rfl) (fun _ _ h => h) ?_
              intro tm ws hsame hS hg K hK
              obtain ⟨v103, e103, rfl⟩ := hg 19 (by kernel_rfl) _ 103 rfl rfl
              go_simp
              exact hK _ _ (Below.refl _ _) hS rfl
            refine List.forall_mem_cons.2 ⟨?_, ?_⟩
            · refine SlotStep.guarded rfl rfl 15 rfl rfl (by kernel_rfl) (fun _ _ h => h) ?_
              intro tm ws hsame hS hg K hK
              obtain ⟨v104, e104, rfl⟩ := hg 20 (by kernel_rfl) _ 104 rfl rfl
              go_simp
              refine (not_num p1 (held3_n1 hS) (by decide)).mono ?_
              rintro e w2 ⟨pR, aR, nR, cR, NR, rfl, hR, hz, -, hb⟩
              exact hK _ _ hb (held3_below hb hS) ⟨pR, aR, nR, cR, NR, rfl, hR.num, hz⟩
            refine List.forall_mem_cons.2 ⟨?_, ?_⟩
            · refine SlotStep.guarded rfl rfl 15 rfl rfl (by kernel_rfl) (fun _ _ h => h) ?_
              intro tm ws hsame hS hg K hK
              obtain ⟨v102, e102, ⟨p102, a102, n102, c102, N102, rfl, g102, z102⟩⟩ := hg 18 (by kernel_rfl) _ 102 rfl rfl
              obtain ⟨v105, e105, ⟨p105, a105, n105, c105, N105, rfl, g105, z105⟩⟩ := hg 21 (by kernel_rfl) _ 105 rfl rfl
              go_simp
              refine (cmpw_num p102 p105 g102 g105 (by decide) (by decide)).mono ?_
              rw [← z102, ← z105, HNO.out]
              rintro e w2 ⟨rfl, hb⟩
              exact hK _ _ hb (held3_below hb hS) rfl
            refine List.forall_mem_cons.2 ⟨?_, ?_⟩
            · refine SlotStep.guarded rfl rfl 15 rfl rfl (by kernel_rfl) (fun _ _ h => h) ?_
              intro tm ws hsame hS hg K hK
              have e7 : tm[7]? = some (.int .i64 s01) := hsame.2 7 rfl
              go_simp
              exact hK _ _ (Below.refl _ _) hS rfl
            refine List.forall_mem_cons.2 ⟨?_, ?_⟩
            · refine SlotStep.guarded rfl rfl 15 rfl rfl (by kernel_rfl) (fun _ _ h => h) ?_
              intro tm ws hsame hS hg K hK
              obtain ⟨v107, e107, rfl⟩ := hg 23 (by kernel_rfl) _ 107 rfl rfl
              go_simp
              exact hK _ _ (Below.refl _ _) hS rfl
            refine List.forall_mem_cons.2 ⟨?_, ?_⟩
            · refine SlotStep.guarded rfl rfl 15 rfl rfl (by kernel_rfl) (fun _ _ h => h) ?_
              intro tm ws hsame hS hg K hK
              obtain ⟨v106, e106, rfl⟩ := hg 22 (by kernel_rfl) _ 106 rfl rfl
              obtain ⟨v108, e108, rfl⟩ := hg 24 (by kernel_rfl) _ 108 rfl rfl
              go_simp
              exact hK _ _ (Below.refl _ _) hS rfl
            refine List.forall_mem_cons.2 ⟨?_, ?_⟩
            · refine SlotStep.plain rfl rfl rfl ?_
              intro tm ws hsame hS hg K hK
              obtain ⟨v99, e99, rfl⟩ := hg 15 (by kernel_rfl) _ 99 rfl rfl
              obtain ⟨v109, e109, rfl⟩ := hg 25 (by kernel_rfl) _ 109 rfl rfl
              go_simp
              exact hK _ _ (Below.refl _ _) hS rfl
            refine List.forall_mem_cons.2 ⟨?_, ?_⟩
            · refine SlotStep.plain rfl rfl rfl ?_
              intro tm ws hsame hS hg K hK
              obtain ⟨v110, e110, rfl⟩ := hg 26 (by kernel_rfl) _ 110 rfl rfl
              go_simp
              exact hK _ _ (Below.refl _ _) hS rfl
            refine List.forall_mem_cons.2 ⟨?_, ?_⟩
            · refine SlotStep.guarded rfl rfl 27 rfl rfl (by kernel_rfl) (fun _ _ h => h) ?_
              intro tm ws hsame hS hg K hK
              have e5 : tm[5]? = some (.pointer (some ⟨w1.heap.size, 0, none⟩)) := hsame.2 5 rfl
              go_simp
              exact hK _ _ (Below.refl _ _) hS rfl
            refine List.forall_mem_cons.2 ⟨?_, ?_⟩
            · refine SlotStep.guarded rfl rfl 27 rfl rfl (by kernel_rfl) (fun _ _ h => h) ?_
              intro tm ws hsame hS hg K hK
              obtain ⟨v112, e112, rfl⟩ := hg 28 (by kernel_rfl) _ 112 rfl rfl
              go_simp
              exact hK _ _ (Below.refl _ _) hS rfl
            refine List.forall_mem_cons.2 ⟨?_, ?_⟩
            · refine SlotStep.guarded rfl rfl 27 rfl rfl (by kernel_rfl) (fun _ _ h => h) ?_
              intro tm ws hsame hS hg K hK
              have e5 : tm[5]? = some (.pointer (some ⟨w1.heap.size, 0, none⟩)) := hsame.2 5 rfl
              go_simp
              exact hK _ _ (Below.refl _ _) hS rfl
            refine List.forall_mem_cons.2 ⟨?_, ?_⟩
            · refine SlotStep.guarded rfl rfl 27 rfl rfl (by kernel_rfl) (fun _ _ h => h) ?_
              intro tm ws hsame hS hg K hK
              obtain ⟨v114, e114, rfl⟩ := hg 30 (by kernel_rfl) _ 114 rfl rfl
              go_simp
              exact hK _ _ (Below.refl _ _) hS rfl
            refine List.forall_mem_cons.2 ⟨?_, ?_⟩
            · refine SlotStep.guarded rfl rfl 27 rfl rfl (by kernel_rfl) (fun _ _ h => h) ?_
              intro tm ws hsame hS hg K hK
              obtain ⟨v113, e113, rfl⟩ := hg 29 (by kernel_rfl) _ 113 rfl rfl
              obtain ⟨v115, e115, rfl⟩ := hg 31 (by kernel_rfl) _ 115 rfl rfl
              go_simp
              refine (subw_num p0 p1 (held3_n0 hS) (held3_n1 hS) (by decide)).mono ?_
              rintro e w2 ⟨pR, aR, nR, cR, NR, rfl, hR, hz, -, hb⟩
              exact hK _ _ hb (held3_below hb hS) ⟨pR, aR, nR, cR, NR, rfl, hR.num, hz⟩
            refine List.forall_mem_cons.2 ⟨?_, ?_⟩
            · refine SlotStep.guarded rfl rfl 27 rfl rfl (by kernel_rfl) (fun _ _ h => h) ?_
              intro tm ws hsame hS hg K hK
              obtain ⟨v116, e116, ⟨p116, a116, n116, c116, N116, rfl, g116, z116⟩⟩ := hg 32 (by kernel_rfl) _ 116 rfl rfl
              go_simp
              refine (sign_num p116 g116 (by decide)).mono ?_
              rw [← z116, HSU.out]
              rintro e w2 ⟨rfl, hb⟩
              exact hK _ _ hb (held3_below hb hS) rfl
            refine List.forall_mem_cons.2 ⟨?_, ?_⟩
            · refine SlotStep.guarded rfl rfl 27 rfl rfl (by kernel_rfl) (fun _ _ h => h) ?_
              intro tm ws hsame hS hg K hK
              have e7 : tm[7]? = some (.int .i64 s01) := hsame.2 7 rfl
              go_simp
              exact hK _ _ (Below.refl _ _) hS rfl
            refine List.forall_mem_cons.2 ⟨?_, ?_⟩
            · refine SlotStep.guarded rfl rfl 27 rfl rfl (by kernel_rfl) (fun _ _ h => h) ?_
              intro tm ws hsame hS hg K hK
              obtain ⟨v117, e117, rfl⟩ := hg 33 (by kernel_rfl) _ 117 rfl rfl
              obtain ⟨v118, e118, rfl⟩ := hg 34 (by kernel_rfl) _ 118 rfl rfl
              go_simp
              exact hK _ _ (Below.refl _ _) hS rfl
            refine List.forall_mem_cons.2 ⟨?_, ?_⟩
            · refine SlotStep.plain rfl rfl rfl ?_
              intro tm ws hsame hS hg K hK
              obtain ⟨v111, e111, rfl⟩ := hg 27 (by kernel_rfl) _ 111 rfl rfl
              obtain ⟨v119, e119, rfl⟩ := hg 35 (by kernel_rfl) _ 119 rfl rfl
              go_simp
              exact hK _ _ (Below.refl _ _) hS rfl
            refine List.forall_mem_cons.2 ⟨?_, ?_⟩
            · refine SlotStep.plain rfl rfl rfl ?_
              intro tm ws hsame hS hg K hK
              obtain ⟨v120, e120, rfl⟩ := hg 36 (by kernel_rfl) _ 120 rfl rfl
              go_simp
              exact hK _ _ (Below.refl _ _) hS rfl
            refine List.forall_mem_cons.2 ⟨?_, ?_⟩
            · refine SlotStep.guarded rfl rfl 37 rfl rfl (by kernel_rfl) (fun _ _ h => h) ?_
              intro tm ws hsame hS hg K hK
              have e5 : tm[5]? = some (.pointer (some ⟨w1.heap.size, 0, none⟩)) := hsame.2 5 rfl
              go_simp
              exact hK _ _ (Below.refl _ _) hS rfl
            refine List.forall_mem_cons.2 ⟨?_, ?_⟩
            · refine SlotStep.guarded rfl rfl 37 rfl rfl (by kernel_rfl) (fun _ _ h => h) ?_
              intro tm ws hsame hS hg K hK
              obtain ⟨v122, e122, rfl⟩ := hg 38 (by kernel_rfl) _ 122 rfl rfl
              go_simp
              exact hK _ _ (Below.refl _ _) hS rfl
            refine List.forall_mem_cons.2 ⟨?_, ?_⟩
            · refine SlotStep.guarded rfl rfl 37 rfl rfl (by kernel_rfl) (fun _ _ h => h) ?_
              intro tm ws hsame hS hg K hK
              have e5 : tm[5]? = some (.pointer (some ⟨w1.heap.size, 0, none⟩)) := hsame.2 5 rfl
              go_simp
              exact hK _ _ (Below.refl _ _) hS rfl
            refine List.forall_mem_cons.2 ⟨?_, ?_⟩
            · refine SlotStep.guarded rfl rfl 37 rfl rfl (by kernel_rfl) (fun _ _ h => h) ?_
              intro tm ws hsame hS hg K hK
              obtain ⟨v124, e124, rfl⟩ := hg 40 (by kernel_rfl) _ 124 rfl rfl
              go_simp
              exact hK _ _ (Below.refl _ _) hS rfl
            refine List.forall_mem_cons.2 ⟨?_, ?_⟩
            · refine SlotStep.guarded rfl rfl 37 rfl rfl (by kernel_rfl) (fun _ _ h => h) ?_
              intro tm ws hsame hS hg K hK
              obtain ⟨v123, e123, rfl⟩ := hg 39 (by kernel_rfl) _ 123 rfl rfl
              obtain ⟨v125, e125, rfl⟩ := hg 41 (by kernel_rfl) _ 125 rfl rfl
              go_simp
              refine (subw_num p0 p1 (held3_n0 hS) (held3_n1 hS) (by decide)).mono ?_
              rintro e w2 ⟨pR, aR, nR, cR, NR, rfl, hR, hz, -, hb⟩
              exact hK _ _ hb (held3_below hb hS) ⟨pR, aR, nR, cR, NR, rfl, hR.num, hz⟩
            refine List.forall_mem_cons.2 ⟨?_, ?_⟩
            · refine SlotStep.guarded rfl rfl 37 rfl rfl (by kernel_rfl) (fun _ _ h => h) ?_
              intro tm ws hsame hS hg K hK
              have e5 : tm[5]? = some (.pointer (some ⟨w1.heap.size, 0, none⟩)) := hsame.2 5 rfl
              go_simp
              exact hK _ _ (Below.refl _ _) hS rfl
            refine List.forall_mem_cons.2 ⟨?_, ?_⟩
            · refine SlotStep.guarded rfl rfl 37 rfl rfl (by kernel_rfl) (fun _ _ h => h) ?_
              intro tm ws hsame hS hg K hK
              obtain ⟨v127, e127, rfl⟩ := hg 43 (by kernel_rfl) _ 127 rfl rfl
              go_simp
              exact hK _ _ (Below.refl _ _) hS rfl
            refine List.forall_mem_cons.2 ⟨?_, ?_⟩
            · refine SlotStep.guarded rfl rfl 37 rfl rfl (by kernel_rfl) (fun _ _ h => h) ?_
              intro tm ws hsame hS hg K hK
              obtain ⟨v128, e128, rfl⟩ := hg 44 (by kernel_rfl) _ 128 rfl rfl
              go_simp
              exact hK _ _ (below_alloc _ _) (held3_below (below_alloc _ _) hS) ⟨_, rfl, new_cell.1, new_cell.2⟩
            refine List.forall_mem_cons.2 ⟨?_, ?_⟩
            · refine SlotStep.guarded rfl rfl 37 rfl rfl (by kernel_rfl) (fun _ _ h => h) ?_
              intro tm ws hsame hS hg K hK
              obtain ⟨v126, e126, ⟨p126, a126, n126, c126, N126, rfl, g126, z126⟩⟩ := hg 42 (by kernel_rfl) _ 126 rfl rfl
              obtain ⟨v129, e129, ⟨r129, rfl, x129, y129⟩⟩ := hg 45 (by kernel_rfl) _ 129 rfl rfl
              go_simp
              refine (addw1_in p126 p1 x129 y129 g126 ((held3_n1 hS).mono (show 40 ≤ 41 by decide)) (by decide)).mono ?_
              rintro e w2 ⟨pR, aR, nR, cR, NR, rfl, hR, hz, -, hb⟩
              exact hK _ _ hb (held3_below hb hS) ⟨pR, aR, nR, cR, NR, rfl, hR.num, by rw [z126]; exact hz⟩
            refine List.forall_mem_cons.2 ⟨?_, ?_⟩
            · refine SlotStep.guarded rfl rfl 37 rfl rfl (by kernel_rfl) (fun _ _ h => h) ?_
              intro tm ws hsame hS hg K hK
              have e5 : tm[5]? = some (.pointer (some ⟨w1.heap.size, 0, none⟩)) := hsame.2 5 rfl
              go_simp
              exact hK _ _ (Below.refl _ _) hS rfl
            refine List.forall_mem_cons.2 ⟨?_, ?_⟩
            · refine SlotStep.guarded rfl rfl 37 rfl rfl (by kernel_rfl) (fun _ _ h => h) ?_
              intro tm ws hsame hS hg K hK
              obtain ⟨v131, e131, rfl⟩ := hg 47 (by kernel_rfl) _ 131 rfl rfl
              go_simp
              exact hK _ _ (Below.refl _ _) hS rfl
            refine List.forall_mem_cons.2 ⟨?_, ?_⟩
            · refine SlotStep.guarded rfl rfl 37 rfl rfl (by kernel_rfl) (fun _ _ h => h) ?_
              intro tm ws hsame hS hg K hK
              obtain ⟨v130, e130, ⟨p130, a130, n130, c130, N130, rfl, g130, z130⟩⟩ := hg 46 (by kernel_rfl) _ 130 rfl rfl
              obtain ⟨v132, e132, rfl⟩ := hg 48 (by kernel_rfl) _ 132 rfl rfl
              go_simp
              refine (cmpw_num p130 p0 g130 (held3_n0 hS) (by decide) (by decide)).mono ?_
              rw [← z130, HBA.out]
              rintro e w2 ⟨rfl, hb⟩
              exact hK _ _ hb (held3_below hb hS) rfl
            refine List.forall_mem_cons.2 ⟨?_, ?_⟩
            · refine SlotStep.guarded rfl rfl 37 rfl rfl (by kernel_rfl) (fun _ _ h => h) ?_
              intro tm ws hsame hS hg K hK
              obtain ⟨v133, e133, rfl⟩ := hg 49 (by kernel_rfl) _ 133 rfl rfl
              go_simp
              exact hK _ _ (Below.refl _ _) hS rfl
            refine List.forall_mem_cons.2 ⟨?_, ?_⟩
            · refine SlotStep.plain rfl rfl rfl ?_
              intro tm ws hsame hS hg K hK
              obtain ⟨v121, e121, rfl⟩ := hg 37 (by kernel_rfl) _ 121 rfl rfl
              obtain ⟨v134, e134, rfl⟩ := hg 50 (by kernel_rfl) _ 134 rfl rfl
              go_simp
              exact hK _ _ (Below.refl _ _) hS rfl
            refine List.forall_mem_cons.2 ⟨?_, ?_⟩
            · refine SlotStep.plain rfl rfl rfl ?_
              intro tm ws hsame hS hg K hK
              obtain ⟨v135, e135, rfl⟩ := hg 51 (by kernel_rfl) _ 135 rfl rfl
              go_simp
              exact hK _ _ (Below.refl _ _) hS rfl
            exact fun _ h => nomatch h
          case fin =>
            intro tm w9 hsame hS hgot
            have h4 : tm[4]? = some (.bool true) := (by obtain ⟨v, e, h⟩ := hgot 52 _ 4 rfl rfl; rw [e]; exact congrArg some h)
            have hb9 := held3_base hS
            have h5 : tm.getD 4 undef = .bool true := by rw [Array.getD_eq_getD_getElem?, h4]; rfl
            go_wp2_with fail
            go_ret
            exact ⟨congrArg Ending.returned h5, hbw.trans (hb9.mono hbw.size)⟩
end Go.Proofs.YtfhknnmffppfgaaDoor
