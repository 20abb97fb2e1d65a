/-
  The first look of the statements on integers ('alive'): its answer is true.
-/
import Derived.Test.YtbieldebkfkpkaaDoorWhole4
namespace Go.Proofs.YtbieldebkfkpkaaDoor
open Go.RowKit

theorem sg_inv_neg {neg : Bool} {N Z : Int} (h : Z = sg neg N) (h0 : 0 ≤ N) (hz : Z < 0) : neg = true ∧ N = -Z := by
  cases neg with
  | true => rw [sg_true] at h; exact ⟨rfl, by omega⟩
  | false => rw [sg_false] at h; omega
theorem sg_inv_pos {neg : Bool} {N Z : Int} (h : Z = sg neg N) (h0 : 0 ≤ N) (hc : neg = true → N ≠ 0) (hz : 0 ≤ Z) : neg = false ∧ N = Z := by
  cases neg with
  | true => rw [sg_true] at h; have := hc rfl; omega
  | false => rw [sg_false] at h; exact ⟨rfl, h.symm⟩

theorem heap_alloc_new' (w : World) (o : Obj) (g : Nat) (hg : w.heap.size = g) : (w.alloc o).heap[g]? = some o := by
  subst hg; exact heap_alloc_new w o

set_option maxRecDepth 100000 in
set_option maxHeartbeats 4000000 in
theorem alive2_yes (w : World) : Calls Tryd.prog 28 #[] w fun e w' => RetV w (.bool true) e w' := by
  have t4 : (⟨#[45]⟩ : ByteArray) ++ strOfNums (txt 19 4) = ⟨#[45, 52]⟩ := by decide +kernel
  have t3 : (⟨#[45]⟩ : ByteArray) ++ strOfNums (txt 19 3) = ⟨#[45, 51]⟩ := by decide +kernel
  have hsn : cmpI (sg true 7) 0 = -1 := by decide
  have H4 := Lib.hid t4
  have H3 := Lib.hid t3
  have HS := Lib.hid hsn
  clear t4 t3 hsn
  go_enter Tryd.func28, Tryd.ntmps28
  go_wp2_with fail
  refine (wof_num (-7) w (by decide) (by decide)).mono ?_
  rintro e w1 ⟨n1, a1, k1, c1, N1, rfl, h1, z1, hc1, hb1⟩
  obtain ⟨rfl, rfl⟩ := sg_inv_neg z1 h1.num.nonneg (by decide)
  have hbw := hb1
  go_wp2_with fail
  refine (wof_num 2 w1 (by decide) (by decide)).mono ?_
  rintro e w2 ⟨n2, a2, k2, c2, N2, rfl, h2, z2, hc2, hb2⟩
  obtain ⟨rfl, rfl⟩ := sg_inv_pos z2 h2.num.nonneg hc2 (by decide)
  replace hbw := hbw.trans (hb2.mono hbw.size)
  go_wp2_with fail
  refine (quo_num (r := 2) true false false (h1.num.below hb2) h2.num (by decide) (by decide) (by decide) (by decide) (by decide) (by decide)).mono ?_
  rintro e w3 ⟨n3, a3, k3, c3, N3, rfl, h3, z3, hc3, hb3⟩
  obtain ⟨rfl, rfl⟩ := sg_inv_neg (Z := -4) (by rw [← z3]; decide) h3.num.nonneg (by decide)
  replace hbw := hbw.trans (hb3.mono hbw.size)
  have s3 := heap_alloc_new w3 (.cells #[.bool true, .slice a3 k3 c3] 45)
  have bA := below_alloc w3 (.cells #[.bool true, .slice a3 k3 c3] 45)
  have num3 := h3.num.below bA
  replace hbw := hbw.trans (bA.mono hbw.size)
  clear h1 h2 h3 z1 z2 z3 hb1 hb2 hb3 hc1 hc2 hc3
  go_wp2_with fail
  refine (wof_num (-7) _ (by decide) (by decide)).mono ?_
  rintro e w4 ⟨n1, a1, k1, c1, N1, rfl, h1, z1, hc1, hb1⟩
  obtain ⟨rfl, rfl⟩ := sg_inv_neg z1 h1.num.nonneg (by decide)
  replace hbw := hbw.trans (hb1.mono hbw.size)
  replace num3 := num3.below hb1
  replace s3 := slot_kept s3 hb1
  go_wp2_with fail
  refine (wof_num 2 w4 (by decide) (by decide)).mono ?_
  rintro e w5 ⟨n2, a2, k2, c2, N2, rfl, h2, z2, hc2, hb2⟩
  obtain ⟨rfl, rfl⟩ := sg_inv_pos z2 h2.num.nonneg hc2 (by decide)
  replace hbw := hbw.trans (hb2.mono hbw.size)
  replace num3 := num3.below hb2
  replace s3 := slot_kept s3 hb2
  go_wp2_with fail
  refine (quo_num (r := 2) true false true (h1.num.below hb2) h2.num (by decide) (by decide) (by decide) (by decide) (by decide) (by decide)).mono ?_
  rintro e w6 ⟨n3, a6, k6, c6, N3, rfl, h3, z3, hc3, hb3⟩
  obtain ⟨rfl, rfl⟩ := sg_inv_neg (Z := -3) (by rw [← z3]; decide) h3.num.nonneg (by decide)
  replace hbw := hbw.trans (hb3.mono hbw.size)
  replace num3 := num3.below hb3
  replace s3 := slot_kept s3 hb3
  have s6 := heap_alloc_new w6 (.cells #[.bool true, .slice a6 k6 c6] 45)
  have bB := below_alloc w6 (.cells #[.bool true, .slice a6 k6 c6] 45)
  have num6 := h3.num.below bB
  replace hbw := hbw.trans (bB.mono hbw.size)
  replace num3 := num3.below bB
  replace s3 := slot_kept s3 bB
  clear h1 h2 h3 z1 z2 z3 hb1 hb2 hb3 hc1 hc2 hc3 bA bB
  obtain ⟨g3a, g3b, g3c, g3d⟩ := slot2 s3
  go_wp2_with fail
  refine (textw_neg num3 (by decide) (by decide) (by decide)).mono ?_
  rintro e w7 ⟨rfl, hb7⟩
  rw [show - -4 = (4 : Int) by decide, H4.out]
  replace s6 := slot_kept s6 hb7
  replace num6 := num6.below hb7
  replace hbw := hbw.trans (hb7.mono hbw.size)
  obtain ⟨g6a, g6b, g6c, g6d⟩ := slot2 s6
  clear g3a g3b g3c g3d s3
  go_wp2_with fail
  refine (textw_neg num6 (by decide) (by decide) (by decide)).mono ?_
  rintro e w8 ⟨rfl, hb8⟩
  rw [show - -3 = (3 : Int) by decide, H3.out]
  replace hbw := hbw.trans (hb8.mono hbw.size)
  go_wp2_with fail
  refine (wof_num (-7) _ (by decide) (by decide)).mono ?_
  rintro e w9 ⟨n1, a1, k1, c1, N1, rfl, h1, z1, hc1, hb1⟩
  obtain ⟨rfl, rfl⟩ := sg_inv_neg z1 h1.num.nonneg (by decide)
  replace hbw := hbw.trans (hb1.mono hbw.size)
  go_wp2_with fail
  refine (sign_num true h1.num (by decide)).mono ?_
  rintro e w10 ⟨rfl, hb2⟩
  rw [show - -7 = (7 : Int) by decide, HS.out]
  replace hbw := hbw.trans (hb2.mono hbw.size)
  go_wp2_with fail
  go_ret
  exact ⟨rfl, hbw⟩
end Go.Proofs.YtbieldebkfkpkaaDoor
