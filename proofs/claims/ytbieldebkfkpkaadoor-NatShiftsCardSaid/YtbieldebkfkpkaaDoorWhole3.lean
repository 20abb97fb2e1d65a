/-
  Contracts of package whole: difference, Shl, Text, Quo.
-/
import Derived.Test.YtbieldebkfkpkaaDoorWhole2
import Derived.Test.YtbieldebkfkpkaaDoorNum2
namespace Go.Proofs.YtbieldebkfkpkaaDoor
open Go.RowKit

theorem NewN.mono {base : Nat} {w : World} {v : Value} {N : Int} {m k : Nat} (h : NewN base w v N m) (hk : m ≤ k) : NewN base w v N k := by
  obtain ⟨l, h1, h2, h3, h4⟩ := h
  exact ⟨l, h1, h2, h3, by omega⟩

set_option maxRecDepth 100000 in
set_option maxHeartbeats 1000000 in
theorem diff_num {w : World} {a : Option Addr} {n c : Nat} {A : Int} {m : Nat} {a' : Option Addr} {n' c' : Nat} {B : Int} {m' p : Nat} (hA : Num w (.slice a n c) A m) (hB : Num w (.slice a' n' c') B m') (hm : m ≤ p) (hm' : m' ≤ p) (hp : p ≤ 100000) :
    Calls Tryd.prog 82 #[.slice a n c, .slice a' n' c'] w fun e w' => RetW w (A - B) p e w' := by
  have hb0 := below_alloc w (.cells #[.bool false, .slice none 0 0] 45)
  have HA := hA.below hb0
  have HB := hB.below hb0
  have s0 := heap_alloc_new w (.cells #[.bool false, .slice none 0 0] 45)
  rcases Int.lt_or_le A B with hlt | hle
  · go_enter Tryd.func82, Tryd.ntmps82
    go_wp2_with fail
    refine (sub_num_no HA HB hlt).mono ?_
    rintro e w1 ⟨rfl, hb1⟩
    have s1 := slot_kept s0 hb1
    go_wp2_with fail
    refine (sub_num (HB.below hb1) (HA.below hb1) (by omega) (Int.le_of_lt hlt)).mono ?_
    rintro e w2 ⟨a1, n1, c1', rfl, h1, hb2⟩
    have s2 := slot_kept s1 hb2
    go_wp2_with fail
    refine (signed_num true h1).mono ?_
    rintro e w3 ⟨neg', rfl, hs, hz, hb3⟩
    have s3 := slot_kept s2 hb3
    obtain ⟨k0, k1, f0, f1⟩ := slot2 s3
    have hbw := hb0.trans (hb1.mono hb0.size)
    replace hbw := hbw.trans (hb2.mono hbw.size)
    replace hbw := hbw.trans (hb3.mono hbw.size)
    have hz1 := hb1.size
    obtain ⟨hend, hret⟩ := slot_end s3 hbw (Nat.le_refl _) ((h1.below hb3).mono hm') (by simp at hz1; omega) (show sg neg' (B - A) = A - B by rw [hs, sg_true]; omega) hz
    go_wp2_with fail
    exact bodyPost_ret (results_cell_row rfl _ _ w.heap.size 45 _ (0, 0) _ rfl hend Tryd.underlying45 rfl (by kernel_rfl)) rfl hret
  · go_enter Tryd.func82, Tryd.ntmps82
    go_wp2_with fail
    refine (sub_num HA HB (by omega) hle).mono ?_
    rintro e w2 ⟨a1, n1, c1', rfl, h1, hb2⟩
    have s2 := slot_kept s0 hb2
    go_wp2_with fail
    refine (signed_num false h1).mono ?_
    rintro e w3 ⟨neg', rfl, hs, hz, hb3⟩
    have s3 := slot_kept s2 hb3
    obtain ⟨k0, k1, f0, f1⟩ := slot2 s3
    have hbw := hb0.trans (hb2.mono hb0.size)
    replace hbw := hbw.trans (hb3.mono hbw.size)
    obtain ⟨hend, hret⟩ := slot_end s3 hbw (Nat.le_refl _) ((h1.below hb3).mono hm) (by simp) (show sg neg' (A - B) = A - B by rw [hs, sg_false]) hz
    go_wp2_with fail
    exact bodyPost_ret (results_cell_row rfl _ _ w.heap.size 45 _ (0, 0) _ rfl hend Tryd.underlying45 rfl (by kernel_rfl)) rfl hret

/-- The amount of a quotient that whole.Int.Quo returns. -/
def qm (neg up : Bool) (N D : Int) : Int := if N % D ≠ 0 ∧ neg ≠ up then N / D + 1 else N / D

theorem results_cell_tmp' {fn : Func} {p u : Tmp} {ty : TypeId} (h : fn.results = #[.cell p ty, .tmp u]) (tmps : Array Value) (P : Program) (w : World) (g : Nat) (t : TypeId) (cs : Array Value) (fr : Nat × Nat) (fs : Array Field)
    (hp : tmps.getD p undef = .pointer (some ⟨g, 0, none⟩)) (hg : w.heap[g]? = some (.cells cs t fr))
    (hu : P.underlying ty = some (.struct fs)) (hi : (P.info? ty).map (·.size) = some cs.size) :
    (results fn tmps).run P w = .ok (.tuple #[.agg cs, tmps.getD u undef]) w := by
  have hp' : tmps[p]?.getD undef = .pointer (some ⟨g, 0, none⟩) := by simpa using hp
  simp [results, h, hp', asAddr, run_loadVar_row w g t ty cs fr (.struct fs) hg hu rfl hi, Result.andThen]

/-- What whole.Int.Quo returns where the divisor is not 0. -/
def RetQ (w : World) (Z : Int) (m : Nat) (e : Ending) (w' : World) : Prop :=
  ∃ neg a n c N, e = .returned (.tuple #[.agg #[.bool neg, .slice a n c], .bool true]) ∧ NewN w.heap.size w' (.slice a n c) N m ∧ Z = sg neg N ∧ (neg = true → N ≠ 0) ∧ Below w.heap.size w w'
/-- What is known when a result that lies in a variable of its own has been stored; the parts. -/
theorem slot_end2 {w w2 : World} {x y : Value} {t : TypeId} {base : Nat} {neg' : Bool} {a : Option Addr} {n c : Nat} {N : Int} {m : Nat} {g : Nat} (hblk : w2.heap[g]? = some (.cells #[x, y] t (0, 0))) (hbw : Below w.heap.size w w2) (hg : w.heap.size ≤ g)
    (h : NewN base w2 (.slice a n c) N m) (hbase : g < base) :
    ((w2.setCell ⟨g, 0, none⟩ (.bool neg')).setCell ⟨g, 1, none⟩ (.slice a n c)).heap[g]? = some (.cells #[.bool neg', .slice a n c] t (0, 0)) ∧
    NewN w.heap.size ((w2.setCell ⟨g, 0, none⟩ (.bool neg')).setCell ⟨g, 1, none⟩ (.slice a n c)) (.slice a n c) N m ∧ Below w.heap.size w ((w2.setCell ⟨g, 0, none⟩ (.bool neg')).setCell ⟨g, 1, none⟩ (.slice a n c)) := by
  have hon := slot_only (w := w2) (g := g) (.bool neg') (.slice a n c)
  exact ⟨slot_set hblk, (h.only hon hbase).base (Nat.le_trans hg (Nat.le_of_lt hbase)), hbw.trans (hon.below hg hbw.size)⟩
theorem heap_alloc3_new (w : World) (A B C : Obj) : (((w.alloc A).alloc B).alloc C).heap[w.heap.size + 2]? = some C := by
  have h := heap_alloc_new ((w.alloc A).alloc B) C
  have e : ((w.alloc A).alloc B).heap.size = w.heap.size + 2 := by simp
  rwa [e] at h

set_option maxRecDepth 100000 in
set_option maxHeartbeats 2000000 in
theorem quo_zero {w : World} (p q up : Bool) {a : Option Addr} {n c : Nat} {A : Int} {m : Nat} {a' : Option Addr} {n' c' : Nat} {m' : Nat} (hA : Num w (.slice a n c) A m) (hB : Num w (.slice a' n' c') 0 m') :
    Calls Tryd.prog 30 #[.agg #[.bool p, .slice a n c], .agg #[.bool q, .slice a' n' c'], .bool up] w fun e w' => RetV w (.tuple #[.agg #[.bool false, .slice none 0 0], .bool false]) e w' := by
  have hb0 := below_alloc w (.cells #[.bool p, .slice a n c] 45)
  have hb1 := hb0.alloc (Nat.le_of_lt (by simp)) (.cells #[.bool q, .slice a' n' c'] 45)
  have hb2 := hb1.alloc (Nat.le_of_lt (by simp; omega)) (.cells #[.bool false, .slice none 0 0] 45)
  have HA := hA.below hb2
  have HB := hB.below hb2
  have s0 := heap_alloc3_new w (.cells #[.bool p, .slice a n c] 45) (.cells #[.bool q, .slice a' n' c'] 45) (.cells #[.bool false, .slice none 0 0] 45)
  obtain ⟨ng, hng⟩ : ∃ ng, (!(p == q)) = ng := ⟨_, rfl⟩
  have hnil : NewN (w.heap.size + 3) (((w.alloc (.cells #[.bool p, .slice a n c] 45)).alloc (.cells #[.bool q, .slice a' n' c'] 45)).alloc (.cells #[.bool false, .slice none 0 0] 45)) (.slice none 0 0) 0 0 := ⟨[], Ow.nil _ _, Can.nil _, rfl, Nat.le_refl _⟩
  go_enter Tryd.func30, Tryd.ntmps30
  go_wp2_with fail
  refine (dm_num0 HA HB).mono ?_
  rintro e w' ⟨rfl, rfl⟩
  go_wp2_with fail
  refine (signed_num ng hnil).mono ?_
  rintro e w3 ⟨neg', rfl, hs, hz, hb3⟩
  obtain rfl : neg' = false := by
    cases neg' with
    | false => rfl
    | true => exact absurd rfl (hz rfl)
  have s3 := slot_kept s0 hb3
  obtain ⟨k0, k1, f0, f1⟩ := slot2 s3
  have hbw := hb2.trans (hb3.mono hb2.size)
  have hon := slot_only (w := w3) (g := w.heap.size + 2) (.bool false) (.slice none 0 0)
  have hend := slot_set (u := .bool false) (v := .slice none 0 0) s3
  have hfin := hbw.trans (hon.below (Nat.le_add_right _ _) hbw.size)
  go_wp2_with fail
  refine bodyPost_ret (results_cell_tmp' rfl _ _ _ (w.heap.size + 2) 45 _ (0, 0) _ rfl hend Tryd.underlying45 (by kernel_rfl)) rfl ?_
  exact ⟨rfl, hfin⟩

set_option maxRecDepth 100000 in
set_option maxHeartbeats 2000000 in
theorem quo_num {w : World} (p q up : Bool) {a : Option Addr} {n c : Nat} {A : Int} {m : Nat} {a' : Option Addr} {n' c' : Nat} {B : Int} {m' r : Nat} (hA : Num w (.slice a n c) A m) (hB : Num w (.slice a' n' c') B m') (hB0 : B ≠ 0) (hm : m ≤ 150) (hm' : m' ≤ 1000) (hr1 : 1 ≤ m) (hr : m + 1 ≤ r) (hr2 : r ≤ 1000) :
    Calls Tryd.prog 30 #[.agg #[.bool p, .slice a n c], .agg #[.bool q, .slice a' n' c'], .bool up] w fun e w' => RetQ w (sg (!(p == q)) (qm (!(p == q)) up A B)) r e w' := by
  have hb0 := below_alloc w (.cells #[.bool p, .slice a n c] 45)
  have hb1 := hb0.alloc (Nat.le_of_lt (by simp)) (.cells #[.bool q, .slice a' n' c'] 45)
  have hb2 := hb1.alloc (Nat.le_of_lt (by simp; omega)) (.cells #[.bool false, .slice none 0 0] 45)
  have HA := hA.below hb2
  have HB := hB.below hb2
  have s0 := heap_alloc3_new w (.cells #[.bool p, .slice a n c] 45) (.cells #[.bool q, .slice a' n' c'] 45) (.cells #[.bool false, .slice none 0 0] 45)
  have t0 := slot_kept (heap_alloc2_old w (.cells #[.bool p, .slice a n c] 45) (.cells #[.bool q, .slice a' n' c'] 45)) (below_alloc _ (.cells #[.bool false, .slice none 0 0] 45))
  have u0 := slot_kept (heap_alloc2_new w (.cells #[.bool p, .slice a n c] 45) (.cells #[.bool q, .slice a' n' c'] 45)) (below_alloc _ (.cells #[.bool false, .slice none 0 0] 45))
  obtain ⟨ng, hng⟩ : ∃ ng, (!(p == q)) = ng := ⟨_, rfl⟩
  rw [hng]
  go_enter Tryd.func30, Tryd.ntmps30
  go_wp2_with fail
  refine (dm_num HA HB hm (by omega) hB0).mono ?_
  rintro e w1 ⟨aQ, nQ, cQ, aR, nR, cR, rfl, hQ, hR, -, hbN⟩
  have s1 := slot_kept s0 hbN
  obtain ⟨e0, e1, ef0, ef1⟩ := slot2 (slot_kept t0 hbN)
  obtain ⟨g0, g1, gf0, gf1⟩ := slot2 (slot_kept u0 hbN)
  have hbw := hb2.trans (hbN.mono hb2.size)
  have hsz := hbN.size
  have hw1 : w.heap.size + 3 ≤ w1.heap.size := by simp at hsz; omega
  have hQ3 : NewN (w.heap.size + 3) w1 (.slice aQ nQ cQ) (A / B) m := hQ.base (by simp)
  by_cases hadd : A % B ≠ 0 ∧ ng ≠ up
  · have hqm : qm ng up A B = A / B + 1 := by rw [qm, if_pos hadd]
    have HQM := Lib.hid hqm
    have hnR : 0 < nR := by
      have := hR.len.1
      by_cases h0 : nR = 0
      · exact absurd (this.1 h0) hadd.1
      · omega
    have hnu : (!(ng == up)) = true := by have := hadd.2; simpa using this
    have hnRI : (0 : Int) < (nR : Int) := by omega
    clear hadd hqm hR
    go_wp2_with fail
    refine (of1_num 1 _ w1 (by decide) (by decide)).mono ?_
    rintro e w2 ⟨a1, n1, c1, rfl, h1, hb3⟩
    have s2 := slot_kept s1 hb3
    have hbw2 := hbw.trans (hb3.mono hbw.size)
    go_wp2_with fail
    refine (add2_num (p := r) (hQ.num.below hb3) h1.num (by omega) (by omega) (by omega)).mono ?_
    rintro e w3 ⟨a2, n2, c2, rfl, h2, hb4⟩
    have s3 := slot_kept s2 hb4
    have hbw3 := hbw2.trans (hb4.mono hbw2.size)
    have h23 : w1.heap.size ≤ w2.heap.size := hb3.size
    go_wp2_with fail
    refine (signed_num ng h2).mono ?_
    rintro e w4 ⟨neg', rfl, hs, hz, hb5⟩
    have s4 := slot_kept s3 hb5
    obtain ⟨k0, k1, f0, f1⟩ := slot2 s4
    have hbw4 := hbw3.trans (hb5.mono hbw3.size)
    obtain ⟨hend, hN, hfin⟩ := slot_end2 (neg' := neg') s4 hbw4 (Nat.le_add_right _ _) (h2.below hb5) (by omega)
    go_wp2_with fail
    refine bodyPost_ret (results_cell_tmp' rfl _ _ _ (w.heap.size + 2) 45 _ (0, 0) _ rfl hend Tryd.underlying45 (by kernel_rfl)) rfl ?_
    exact ⟨neg', _, _, _, _, rfl, hN, by rw [hs, HQM.out], hz, hfin⟩
  · have hqm : qm ng up A B = A / B := by rw [qm, if_neg hadd]
    have HQM := Lib.hid hqm
    have hcase : (nR : Int) = 0 ∧ nR = 0 ∨ 0 < nR ∧ (!(ng == up)) = false := by
      by_cases h0 : nR = 0
      · exact Or.inl ⟨by omega, h0⟩
      · right
        refine ⟨by omega, ?_⟩
        have := hR.len.1
        have h1 : A % B ≠ 0 := fun e => h0 (this.2 e)
        have h2 : ng = up := by
          by_cases e : ng = up
          · exact e
          · exact absurd ⟨h1, e⟩ hadd
        simp [h2]
    clear hadd hqm hR
    rcases hcase with ⟨h0, rfl⟩ | ⟨h0, hnu⟩
    · go_wp2_with fail
      refine (signed_num ng hQ3).mono ?_
      rintro e w4 ⟨neg', rfl, hs, hz, hb5⟩
      have s4 := slot_kept s1 hb5
      obtain ⟨k0, k1, f0, f1⟩ := slot2 s4
      have hbw4 := hbw.trans (hb5.mono hbw.size)
      obtain ⟨hend, hN, hfin⟩ := slot_end2 (neg' := neg') s4 hbw4 (Nat.le_add_right _ _) ((hQ3.below hb5).mono (show m ≤ r by omega)) (by omega)
      go_wp2_with fail
      refine bodyPost_ret (results_cell_tmp' rfl _ _ _ (w.heap.size + 2) 45 _ (0, 0) _ rfl hend Tryd.underlying45 (by kernel_rfl)) rfl ?_
      exact ⟨neg', _, _, _, _, rfl, hN, by rw [hs, HQM.out], hz, hfin⟩
    · have hnRI : (0 : Int) < (nR : Int) := by omega
      go_wp2_with fail
      refine (signed_num ng hQ3).mono ?_
      rintro e w4 ⟨neg', rfl, hs, hz, hb5⟩
      have s4 := slot_kept s1 hb5
      obtain ⟨k0, k1, f0, f1⟩ := slot2 s4
      have hbw4 := hbw.trans (hb5.mono hbw.size)
      obtain ⟨hend, hN, hfin⟩ := slot_end2 (neg' := neg') s4 hbw4 (Nat.le_add_right _ _) ((hQ3.below hb5).mono (show m ≤ r by omega)) (by omega)
      go_wp2_with fail
      refine bodyPost_ret (results_cell_tmp' rfl _ _ _ (w.heap.size + 2) 45 _ (0, 0) _ rfl hend Tryd.underlying45 (by kernel_rfl)) rfl ?_
      exact ⟨neg', _, _, _, _, rfl, hN, by rw [hs, HQM.out], hz, hfin⟩

end Go.Proofs.YtbieldebkfkpkaaDoor
