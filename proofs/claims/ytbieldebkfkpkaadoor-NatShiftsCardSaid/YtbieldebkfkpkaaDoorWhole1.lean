/-
  Contracts of package whole: what its values are, Make, Of, Sign.
-/
import Derived.Test.YtbieldebkfkpkaaDoorNum
namespace Go.Proofs.YtbieldebkfkpkaaDoor
open Go.RowKit

/-- An amount with a sign. -/
def sg (neg : Bool) (N : Int) : Int := if neg = true then -N else N
theorem sg_true (N : Int) : sg true N = -N := rfl
theorem sg_false (N : Int) : sg false N = N := rfl
theorem sg_not (neg : Bool) (N : Int) : sg (!neg) N = -sg neg N := by cases neg <;> simp [sg]

/-- A function has returned an integer in a row of the call's own, in its one form. -/
def RetW (w : World) (Z : Int) (m : Nat) (e : Ending) (w' : World) : Prop :=
  ∃ neg a n c N, e = .returned (.agg #[.bool neg, .slice a n c]) ∧ NewN w.heap.size w' (.slice a n c) N m ∧ Z = sg neg N ∧ (neg = true → N ≠ 0) ∧ Below w.heap.size w w'
def RetSg (neg : Bool) (a : Option Addr) (n c : Nat) (N : Int) (w : World) (e : Ending) (w' : World) : Prop :=
  ∃ neg', e = .returned (.agg #[.bool neg', .slice a n c]) ∧ sg neg' N = sg neg N ∧ (neg' = true → N ≠ 0) ∧ Below w.heap.size w w'

set_option maxRecDepth 100000 in
theorem signed_num {base : Nat} {w : World} (neg : Bool) {a : Option Addr} {n c : Nat} {N : Int} {m : Nat} (h : NewN base w (.slice a n c) N m) :
    Calls Tryd.prog 78 #[.bool neg, .slice a n c] w fun e w' => RetSg neg a n c N w e w' := by
  have hb := fun x => below_alloc w (.cells #[.bool x, .slice a n c] 45)
  have hl := h.len.1
  have HL := Lib.hid hl
  clear hl h
  go_enter Tryd.func78, Tryd.ntmps78
  go_wp2_with fail
  all_goals rename_i hneg
  · refine bodyPost_ret (v := .agg #[.bool (decide (0 < n)), .slice a n c]) (results_cell_row rfl _ _ w.heap.size 45 _ (0, 0) _ rfl (heap_alloc_new w _) Tryd.underlying45 rfl (by kernel_rfl)) rfl ?_
    refine ⟨decide (0 < n), rfl, ?_, ?_, hb _⟩
    · by_cases h0 : n = 0
      · have := HL.out.1 h0
        simp [h0, this, sg]
      · have : decide (0 < n) = true := by simp; omega
        rw [this, hneg]
    · intro h1 h2
      have := HL.out.2 h2
      simp at h1; omega
  · refine bodyPost_ret (v := .agg #[.bool false, .slice a n c]) (results_cell_row rfl _ _ w.heap.size 45 _ (0, 0) _ rfl (heap_alloc_new w _) Tryd.underlying45 rfl (by kernel_rfl)) rfl ?_
    exact ⟨false, rfl, by simp [hneg], by simp, hb _⟩

/-- The cells of a variable of two fields. -/
theorem slot2 {w : World} {g : Nat} {x y : Value} {t : TypeId} (h : w.heap[g]? = some (.cells #[x, y] t (0, 0))) :
    w.cell? ⟨g, 0, none⟩ = some x ∧ w.cell? ⟨g, 1, none⟩ = some y ∧ w.frozen? ⟨g, 0, none⟩ = false ∧ w.frozen? ⟨g, 1, none⟩ = false :=
  ⟨cell_of_row w g 0 _ t _ h, cell_of_row w g 1 _ t _ h, frozen_of_row w g 0 _ t h, frozen_of_row w g 1 _ t h⟩
theorem slot_kept {w1 w2 : World} {g : Nat} {o : Obj} (h : w1.heap[g]? = some o) (hb : Below w1.heap.size w1 w2) : w2.heap[g]? = some o := by
  rw [hb.block _ (Array.getElem?_eq_some_iff.1 h).1]; exact h
theorem slot_set {w : World} {g : Nat} {x y u v : Value} {t : TypeId} (h : w.heap[g]? = some (.cells #[x, y] t (0, 0))) :
    ((w.setCell ⟨g, 0, none⟩ u).setCell ⟨g, 1, none⟩ v).heap[g]? = some (.cells #[u, v] t (0, 0)) := by
  have h1 := heap_setCell_same w g 0 _ t u h
  have h2 := heap_setCell_same (w.setCell ⟨g, 0, none⟩ u) g 1 _ t v h1
  rw [h2]; rfl
theorem slot_only {w : World} {g : Nat} (u v : Value) : Only g 0 2 w ((w.setCell ⟨g, 0, none⟩ u).setCell ⟨g, 1, none⟩ v) :=
  (Only.store 0 u (Nat.le_refl _) (by decide)).trans (Only.store 1 v (by decide) (by decide))
set_option maxRecDepth 100000 in
theorem make_num {w : World} (neg : Bool) {a : Option Addr} {n c : Nat} {N : Int} {m : Nat} (h : Num w (.slice a n c) N m) (hm : m ≤ 100000) :
    Calls Tryd.prog 46 #[.bool neg, .slice a n c] w fun e w' => RetW w (sg neg N) m e w' := by
  go_enter Tryd.func46, Tryd.ntmps46
  have hb0 := below_alloc w (.cells #[.bool false, .slice none 0 0] 45)
  go_wp2_with fail
  refine (of_num (h.below hb0) hm).mono ?_
  rintro e w1 ⟨a1, n1, c1', rfl, h1, hb1⟩
  go_wp2_with fail
  refine (signed_num neg h1).mono ?_
  rintro e w2 ⟨neg', rfl, hs, hz, hb2⟩
  have hblk := slot_kept (slot_kept (heap_alloc_new w _) hb1) hb2
  obtain ⟨c0, c1, f0, f1⟩ := slot2 hblk
  have hend := slot_set (u := .bool neg') (v := .slice a1 n1 c1') hblk
  have hon := slot_only (w := w2) (g := w.heap.size) (.bool neg') (.slice a1 n1 c1')
  have hsz := hb1.size
  have hbw := hb0.trans (hb1.mono hb0.size)
  replace hbw := hbw.trans (hb2.mono hbw.size)
  have hfin := hbw.trans (hon.below (Nat.le_refl _) hbw.size)
  go_wp2_with fail
  refine bodyPost_ret (v := .agg #[.bool neg', .slice a1 n1 c1']) (results_cell_row rfl _ _ w.heap.size 45 _ (0, 0) _ rfl hend Tryd.underlying45 rfl (by kernel_rfl)) rfl ?_
  refine ⟨neg', a1, n1, c1', N, rfl, ?_, hs.symm, hz, hfin⟩
  exact ((h1.below hb2).only hon (by simp)).base (by simp)

/-- What is known when a result that lies in a variable of its own has been stored. -/
theorem slot_end {w w2 : World} {x y : Value} {t : TypeId} {base : Nat} {neg' : Bool} {a : Option Addr} {n c : Nat} {N Z : Int} {m : Nat} {g : Nat} (hblk : w2.heap[g]? = some (.cells #[x, y] t (0, 0))) (hbw : Below w.heap.size w w2) (hg : w.heap.size ≤ g)
    (h : NewN base w2 (.slice a n c) N m) (hbase : g < base) (hs : sg neg' N = Z) (hz : neg' = true → N ≠ 0) :
    ((w2.setCell ⟨g, 0, none⟩ (.bool neg')).setCell ⟨g, 1, none⟩ (.slice a n c)).heap[g]? = some (.cells #[.bool neg', .slice a n c] t (0, 0)) ∧
    RetW w Z m (.returned (.agg #[.bool neg', .slice a n c])) ((w2.setCell ⟨g, 0, none⟩ (.bool neg')).setCell ⟨g, 1, none⟩ (.slice a n c)) := by
  have hon := slot_only (w := w2) (g := g) (.bool neg') (.slice a n c)
  exact ⟨slot_set hblk, neg', a, n, c, N, rfl, (h.only hon hbase).base (Nat.le_trans hg (Nat.le_of_lt hbase)), hs.symm, hz, hbw.trans (hon.below hg hbw.size)⟩

theorem of1_at (x : Int) (t : TypeId) (w : World) (g : Nat) (hg : w.heap.size = g) (h0 : 0 ≤ x) (h1 : x ≤ 18446744073709551615) :
    Calls Tryd.prog 54 #[.slice (some ⟨g, 0, none⟩) 1 1] (w.alloc (.cells #[.int .u64 x] t)) fun e w' => RetN w x 1 e w' := by
  subst hg
  exact of1_num x t w h0 h1
theorem add2_at {w : World} {u v : Value} {A B : Int} {m k p : Nat} {t : TypeId} {g : Nat} (hg : w.heap.size = g) (h : Num w u A m) (g' : Num w v B k) (hm : m < p) (hk : k < p) (hp : p ≤ 100000) :
    Calls Tryd.prog 53 #[.slice (some ⟨g, 0, none⟩) 2 2] (w.alloc (.cells #[u, v] t)) fun e w' => RetN w (A + B) p e w' := by
  subst hg
  exact add2_num h g' hm hk hp

set_option maxRecDepth 100000 in
theorem wof_num (v : Int) (w : World) (h0 : -9223372036854775808 ≤ v) (h1 : v ≤ 9223372036854775807) :
    Calls Tryd.prog 47 #[.int .i64 v] w fun e w' => RetW w v 1 e w' := by
  have hb0 := below_alloc w (.cells #[.bool false, .slice none 0 0] 45)
  obtain ⟨x, hx⟩ : ∃ x : Int, x = if v < 0 then -v else v := ⟨_, rfl⟩
  have hx0 : 0 ≤ x := by rw [hx]; split <;> omega
  have hx1 : x ≤ 18446744073709551615 := by rw [hx]; split <;> omega
  have hsx : sg (decide (v < 0)) x = v := by rw [hx]; by_cases h : v < 0 <;> simp [sg, h]
  have HSX := Lib.hid hsx
  obtain ⟨y, hy⟩ : ∃ y, IntKind.u64.wrap v = y := ⟨_, rfl⟩
  have hyx : v < 0 → IntKind.u64.wrap (-y) = x := by
    intro h; rw [hx, if_pos h, ← hy, IntKind.wrap_u64, IntKind.wrap_u64]; omega
  have hyx2 : ¬ v < 0 → y = x := by
    intro h; rw [hx, if_neg h, ← hy, IntKind.wrap_u64]; omega
  clear hx hsx
  by_cases hv : v < 0
  · have hw := hyx hv
    clear hyx hyx2
    rw [show decide (v < 0) = true by simpa using hv] at HSX
    go_enter Tryd.func47, Tryd.ntmps47
    go_wp2_with fail
    refine (of1_at x _ _ _ (by simp) hx0 hx1).mono ?_
    rintro e w1 ⟨a1, n1, c1', rfl, h1, hb1⟩
    go_wp2_with fail
    refine (signed_num true h1).mono ?_
    rintro e w2 ⟨neg', rfl, hs, hz, hb2⟩
    have hblk := slot_kept (slot_kept (heap_alloc_new w _) hb1) hb2
    obtain ⟨k0, k1, f0, f1⟩ := slot2 hblk
    have hsz := hb1.size
    have hbw := hb0.trans (hb1.mono hb0.size)
    replace hbw := hbw.trans (hb2.mono hbw.size)
    obtain ⟨hend, hret⟩ := slot_end hblk hbw (Nat.le_refl _) (h1.below hb2) (by simp) (hs.trans HSX.out) hz
    go_wp2_with fail
    exact bodyPost_ret (results_cell_row rfl _ _ w.heap.size 45 _ (0, 0) _ rfl hend Tryd.underlying45 rfl (by kernel_rfl)) rfl hret
  · have hw := hyx2 hv
    clear hyx hyx2
    subst hw
    rw [show decide (v < 0) = false by simpa using hv] at HSX
    go_enter Tryd.func47, Tryd.ntmps47
    go_wp2_with fail
    refine (of1_at y _ _ _ (by simp) hx0 hx1).mono ?_
    rintro e w1 ⟨a1, n1, c1', rfl, h1, hb1⟩
    go_wp2_with fail
    refine (signed_num false h1).mono ?_
    rintro e w2 ⟨neg', rfl, hs, hz, hb2⟩
    have hblk := slot_kept (slot_kept (heap_alloc_new w _) hb1) hb2
    obtain ⟨k0, k1, f0, f1⟩ := slot2 hblk
    have hsz := hb1.size
    have hbw := hb0.trans (hb1.mono hb0.size)
    replace hbw := hbw.trans (hb2.mono hbw.size)
    obtain ⟨hend, hret⟩ := slot_end hblk hbw (Nat.le_refl _) (h1.below hb2) (by simp) (hs.trans HSX.out) hz
    go_wp2_with fail
    exact bodyPost_ret (results_cell_row rfl _ _ w.heap.size 45 _ (0, 0) _ rfl hend Tryd.underlying45 rfl (by kernel_rfl)) rfl hret

set_option maxRecDepth 100000 in
theorem sign_num {w : World} (neg : Bool) {a : Option Addr} {n c : Nat} {N : Int} {m : Nat} (h : Num w (.slice a n c) N m) (hm : m ≤ 100000) :
    Calls Tryd.prog 36 #[.agg #[.bool neg, .slice a n c]] w fun e w' => RetV w (.int .i64 (cmpI (sg neg N) 0)) e w' := by
  have hb0 := below_alloc w (.cells #[.bool neg, .slice a n c] 45)
  have hz := nb_zero_iff h.nonneg
  have hn0 := h.nonneg
  obtain ⟨t, ht⟩ : ∃ t, t = nb N := ⟨_, rfl⟩
  have HB := Lib.hid (bits_num (h.below hb0) hm)
  rw [← ht] at hz HB
  clear ht
  by_cases h0 : N = 0
  · rw [decide_eq_true h0] at hz
    have hv : cmpI (sg neg N) 0 = 0 := cmpI_eq (by rw [h0]; cases neg <;> rfl)
    rw [hv]
    clear hv h0 h
    go_enter Tryd.func36, Tryd.ntmps36
    go_wp2_with fail
    refine HB.out.mono ?_
    rintro e w' ⟨rfl, rfl⟩
    go_wp2_with fail
    go_ret
    exact ⟨rfl, hb0⟩
  · rw [decide_eq_false h0] at hz
    cases neg with
    | true =>
      have hv : cmpI (sg true N) 0 = -1 := cmpI_lt (by rw [sg_true]; omega)
      rw [hv]
      clear hv h0 h
      go_enter Tryd.func36, Tryd.ntmps36
      go_wp2_with fail
      refine HB.out.mono ?_
      rintro e w' ⟨rfl, rfl⟩
      go_wp2_with fail
      go_ret
      exact ⟨rfl, hb0⟩
    | false =>
      have hv : cmpI (sg false N) 0 = 1 := cmpI_gt (by rw [sg_false]; omega)
      rw [hv]
      clear hv h0 h
      go_enter Tryd.func36, Tryd.ntmps36
      go_wp2_with fail
      refine HB.out.mono ?_
      rintro e w' ⟨rfl, rfl⟩
      go_wp2_with fail
      go_ret
      exact ⟨rfl, hb0⟩

set_option maxRecDepth 100000 in
theorem not_num {w : World} (neg : Bool) {a : Option Addr} {n c : Nat} {N : Int} {m : Nat} (h : Num w (.slice a n c) N m) (hm : m ≤ 100000) :
    Calls Tryd.prog 37 #[.agg #[.bool neg, .slice a n c]] w fun e w' => RetW w (-sg neg N) m e w' := by
  have hb0 := below_alloc w (.cells #[.bool neg, .slice a n c] 45)
  have hb1 := hb0.alloc (Nat.le_of_lt (by simp)) (.cells #[.bool false, .slice none 0 0] 45)
  go_enter Tryd.func37, Tryd.ntmps37
  go_wp2_with fail
  refine (make_num (!neg) (h.below hb1) hm).mono ?_
  rintro e w1 ⟨neg', a1, n1, c1', N1, rfl, h1, hs, hz, hb2⟩
  have hblk := slot_kept (heap_alloc2_new w _ _) hb2
  obtain ⟨k0, k1, f0, f1⟩ := slot2 hblk
  have hsz := hb2.size
  have hbw := hb1.trans (hb2.mono hb1.size)
  obtain ⟨hend, hret⟩ := slot_end (Z := -sg neg N) hblk hbw (by omega) h1 (by simp) (by rw [← hs, sg_not]) hz
  go_wp2_with fail
  exact bodyPost_ret (results_cell_row rfl _ _ (w.heap.size + 1) 45 _ (0, 0) _ rfl hend Tryd.underlying45 rfl (by kernel_rfl)) rfl hret
end Go.Proofs.YtbieldebkfkpkaaDoor
