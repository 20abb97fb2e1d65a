/-
  The walk of the statement NatDivides.
-/
import Derived.Test.YtfhknnmffppfgaaDoorSqrt
namespace Go.Proofs.YtfhknnmffppfgaaDoor
open Go.RowKit

theorem sq_root {A : Int} (h : 0 ≤ A) : IsRoot (A * A) A := by
  have e : (A + 1) * (A + 1) = A * A + 2 * A + 1 := by grind
  exact ⟨h, Int.le_refl _, by omega⟩
theorem sq_root2 {A : Int} (h : 0 ≤ A) : IsRoot (A * A + (A + A)) A := by
  have e : (A + 1) * (A + 1) = A * A + 2 * A + 1 := by grind
  exact ⟨h, by omega, by omega⟩

set_option maxRecDepth 100000 in
theorem divides_heavy (aa ab : Option Addr) (na n ca cb : Nat) (w : World) (ha : na ≤ 9223372036854775807) (hb : n ≤ 9223372036854775807) (h : ¬ (na ≤ 40 ∧ n ≤ 40)) :
    Calls Tryd.prog 3 #[.slice aa na ca, .slice ab n cb] w fun e w' => RetV w (.bool true) e w' := by
  have hl := light_two aa ab na n ca cb 22 w ha hb
  rw [show (decide (na ≤ 40) && decide (n ≤ 40)) = false by simpa using h] at hl
  have HL := Lib.hid hl
  clear hl h
  go_enter Tryd.func3, Tryd.ntmps3
  go_wp2_with fail
  refine HL.out.mono ?_
  rintro e w' ⟨rfl, rfl⟩
  go_wp2_with fail
  refine (alive_yes _).mono ?_
  rintro e w1 ⟨rfl, hb⟩
  go_wp2_with fail
  go_ret
  exact ⟨rfl, (below_alloc w _).trans (hb.mono (by simp))⟩

set_option maxRecDepth 100000 in
set_option maxHeartbeats 8000000 in
theorem divides_zero (aA : Option Addr) (nA cA : Nat) (aB : Option Addr) (nB cB : Nat) (w : World) {A : Int} (hA : Num w (.slice aA nA cA) A 40) (hB : Num w (.slice aB nB cB) 0 40) (hlA : nA ≤ 40) (hlB : nB ≤ 40) :
    Calls Tryd.prog 3 #[.slice aA nA cA, .slice aB nB cB] w fun e w' => RetV w (.bool true) e w' := by
  have hl := light_two aA aB nA nB cA cB 22 w (by omega) (by omega)
  rw [show (decide (nA ≤ 40) && decide (nB ≤ 40)) = true by simp; omega] at hl
  have HL := Lib.hid hl
  have hA0 := hA.nonneg
  obtain ⟨tb, htb⟩ : ∃ tb, tb = nb 0 := ⟨_, rfl⟩
  have hzb : ((tb : Int) == 0) = true := by rw [htb]; rfl
  have HTB := Lib.hid htb
  clear hl htb
  go_enter Tryd.func3, Tryd.ntmps3
  go_wp2_with fail
  refine HL.out.mono ?_
  rintro e w' ⟨rfl, rfl⟩
  have hbw := below_alloc w (.cells #[Value.slice aA nA cA, Value.slice aB nB cB] 22)
  replace hA := hA.below hbw
  replace hB := hB.below hbw
  clear HL
  go_wp2_with fail
  refine (alive_yes _).mono ?_
  rintro e w1 ⟨rfl, hbN⟩
  replace hbw := hbw.trans (hbN.mono hbw.size)
  replace hA := hA.below hbN
  replace hB := hB.below hbN
  clear hbN
  go_wp2_with fail
  refine (dm_num0 hA hB).mono ?_
  rintro e w' ⟨rfl, rfl⟩
  go_wp2_with fail
  refine (mul_num 3 hA hA (p := 80) (by decide) (by decide) (by decide)).mono ?_
  rintro e w2 ⟨aS, nS, cS, rfl, hS, hbN⟩
  replace hS := hS.base hbw.size
  replace hbw := hbw.trans (hbN.mono hbw.size)
  replace hA := hA.below hbN
  replace hB := hB.below hbN
  clear hbN
  go_wp2_with fail
  refine (sqrt_num _ hS.num (by decide) (Nat.le_refl _)).mono ?_
  rintro e w3 ⟨T, hT, aT, nT, cT, aZ, nZ, cZ, rfl, hTT, hZ, hbN⟩
  replace hTT := hTT.base hbw.size
  replace hZ := hZ.base hbw.size
  replace hbw := hbw.trans (hbN.mono hbw.size)
  replace hA := hA.below hbN
  replace hB := hB.below hbN
  replace hS := hS.below hbN
  clear hbN
  obtain rfl : T = A := root_unique hT (sq_root hA0)
  obtain rfl : nZ = 0 := hZ.len.1.2 (by omega)
  go_wp2_with fail
  refine (add2_num (p := 41) hA hA (by decide) (by decide) (by decide)).mono ?_
  rintro e w4 ⟨aD, nD, cD, rfl, hD, hbN⟩
  replace hD := hD.base hbw.size
  replace hbw := hbw.trans (hbN.mono hbw.size)
  replace hA := hA.below hbN
  replace hB := hB.below hbN
  replace hS := hS.below hbN
  replace hTT := hTT.below hbN
  replace hZ := hZ.below hbN
  clear hbN
  go_wp2_with fail
  refine (add2_num (p := 82) hS.num hD.num (by decide) (by decide) (by decide)).mono ?_
  rintro e w5 ⟨aE, nE, cE, rfl, hE, hbN⟩
  replace hE := hE.base hbw.size
  replace hbw := hbw.trans (hbN.mono hbw.size)
  replace hA := hA.below hbN
  replace hB := hB.below hbN
  replace hS := hS.below hbN
  replace hTT := hTT.below hbN
  replace hZ := hZ.below hbN
  replace hD := hD.below hbN
  clear hbN
  go_wp2_with fail
  refine (sqrt_num _ hE.num (by decide) (Nat.le_refl _)).mono ?_
  rintro e w6 ⟨U, hU, aU, nU, cU, aM, nM, cM, rfl, hUU, hM, hbN⟩
  replace hUU := hUU.base hbw.size
  replace hM := hM.base hbw.size
  replace hbw := hbw.trans (hbN.mono hbw.size)
  replace hA := hA.below hbN
  replace hB := hB.below hbN
  replace hS := hS.below hbN
  replace hTT := hTT.below hbN
  replace hZ := hZ.below hbN
  replace hD := hD.below hbN
  replace hE := hE.below hbN
  clear hbN
  obtain rfl : U = T := root_unique hU (sq_root2 hA0)
  go_wp2_with fail
  refine (cmp_num hTT.num hA).mono ?_
  rintro e w7 ⟨rfl, hbN⟩
  replace hbw := hbw.trans (hbN.mono hbw.size)
  replace hA := hA.below hbN
  replace hB := hB.below hbN
  replace hS := hS.below hbN
  replace hTT := hTT.below hbN
  replace hZ := hZ.below hbN
  replace hD := hD.below hbN
  replace hE := hE.below hbN
  replace hUU := hUU.below hbN
  replace hM := hM.below hbN
  clear hbN
  rw [cmpI_eq rfl]
  go_wp2_with fail
  refine (cmp_num hUU.num hA).mono ?_
  rintro e w8 ⟨rfl, hbN⟩
  replace hbw := hbw.trans (hbN.mono hbw.size)
  replace hA := hA.below hbN
  replace hB := hB.below hbN
  replace hS := hS.below hbN
  replace hTT := hTT.below hbN
  replace hZ := hZ.below hbN
  replace hD := hD.below hbN
  replace hE := hE.below hbN
  replace hUU := hUU.below hbN
  replace hM := hM.below hbN
  clear hbN
  rw [cmpI_eq rfl]
  go_wp2_with fail
  refine (add2_num (p := 41) hA hA (by decide) (by decide) (by decide)).mono ?_
  rintro e w9 ⟨aG, nG, cG, rfl, hG, hbN⟩
  replace hG := hG.base hbw.size
  replace hbw := hbw.trans (hbN.mono hbw.size)
  replace hA := hA.below hbN
  replace hB := hB.below hbN
  replace hS := hS.below hbN
  replace hTT := hTT.below hbN
  replace hZ := hZ.below hbN
  replace hD := hD.below hbN
  replace hE := hE.below hbN
  replace hUU := hUU.below hbN
  replace hM := hM.below hbN
  clear hbN
  go_wp2_with fail
  refine (cmp_num hM.num hG.num).mono ?_
  rintro e w10 ⟨rfl, hbN⟩
  replace hbw := hbw.trans (hbN.mono hbw.size)
  replace hA := hA.below hbN
  replace hB := hB.below hbN
  replace hS := hS.below hbN
  replace hTT := hTT.below hbN
  replace hZ := hZ.below hbN
  replace hD := hD.below hbN
  replace hE := hE.below hbN
  replace hUU := hUU.below hbN
  replace hM := hM.below hbN
  replace hG := hG.below hbN
  clear hbN
  rw [cmpI_eq (by omega)]
  go_wp2_with fail
  refine (bits_num hB (by decide)).mono ?_
  rintro e w' ⟨rfl, rfl⟩
  rw [← HTB.out]
  go_wp2_with fail
  go_ret
  exact ⟨rfl, hbw⟩

set_option maxRecDepth 100000 in
set_option maxHeartbeats 8000000 in
theorem divides_more (aA : Option Addr) (nA cA : Nat) (aB : Option Addr) (nB cB : Nat) (w : World) {A B : Int} (hA : Num w (.slice aA nA cA) A 40) (hB : Num w (.slice aB nB cB) B 40) (hB0 : B ≠ 0) (hlA : nA ≤ 40) (hlB : nB ≤ 40) :
    Calls Tryd.prog 3 #[.slice aA nA cA, .slice aB nB cB] w fun e w' => RetV w (.bool true) e w' := by
  have hl := light_two aA aB nA nB cA cB 22 w (by omega) (by omega)
  rw [show (decide (nA ≤ 40) && decide (nB ≤ 40)) = true by simp; omega] at hl
  have HL := Lib.hid hl
  have hA0 := hA.nonneg
  obtain ⟨tb, htb⟩ : ∃ tb, tb = nb B := ⟨_, rfl⟩
  have hzb : ((tb : Int) == 0) = false := by rw [htb, nb_zero_iff hB.nonneg]; simpa using hB0
  have HTB := Lib.hid htb
  clear hl htb
  go_enter Tryd.func3, Tryd.ntmps3
  go_wp2_with fail
  refine HL.out.mono ?_
  rintro e w' ⟨rfl, rfl⟩
  have hbw := below_alloc w (.cells #[Value.slice aA nA cA, Value.slice aB nB cB] 22)
  replace hA := hA.below hbw
  replace hB := hB.below hbw
  clear HL
  go_wp2_with fail
  refine (alive_yes _).mono ?_
  rintro e w1 ⟨rfl, hbN⟩
  replace hbw := hbw.trans (hbN.mono hbw.size)
  replace hA := hA.below hbN
  replace hB := hB.below hbN
  clear hbN
  go_wp2_with fail
  refine (dm_num hA hB (by decide) (by decide) hB0).mono ?_
  rintro e w2 ⟨aQ, nQ, cQ, aR, nR, cR, rfl, hQ, hR, -, hbN⟩
  replace hQ := hQ.base hbw.size
  replace hR := hR.base hbw.size
  replace hbw := hbw.trans (hbN.mono hbw.size)
  replace hA := hA.below hbN
  replace hB := hB.below hbN
  clear hbN
  go_wp2_with fail
  refine (mul_num 3 hA hA (p := 80) (by decide) (by decide) (by decide)).mono ?_
  rintro e w3 ⟨aS, nS, cS, rfl, hS, hbN⟩
  replace hS := hS.base hbw.size
  replace hbw := hbw.trans (hbN.mono hbw.size)
  replace hA := hA.below hbN
  replace hB := hB.below hbN
  replace hQ := hQ.below hbN
  replace hR := hR.below hbN
  clear hbN
  go_wp2_with fail
  refine (sqrt_num _ hS.num (by decide) (Nat.le_refl _)).mono ?_
  rintro e w4 ⟨T, hT, aT, nT, cT, aZ, nZ, cZ, rfl, hTT, hZ, hbN⟩
  replace hTT := hTT.base hbw.size
  replace hZ := hZ.base hbw.size
  replace hbw := hbw.trans (hbN.mono hbw.size)
  replace hA := hA.below hbN
  replace hB := hB.below hbN
  replace hQ := hQ.below hbN
  replace hR := hR.below hbN
  replace hS := hS.below hbN
  clear hbN
  obtain rfl : T = A := root_unique hT (sq_root hA0)
  obtain rfl : nZ = 0 := hZ.len.1.2 (by omega)
  go_wp2_with fail
  refine (add2_num (p := 41) hA hA (by decide) (by decide) (by decide)).mono ?_
  rintro e w5 ⟨aD, nD, cD, rfl, hD, hbN⟩
  replace hD := hD.base hbw.size
  replace hbw := hbw.trans (hbN.mono hbw.size)
  replace hA := hA.below hbN
  replace hB := hB.below hbN
  replace hQ := hQ.below hbN
  replace hR := hR.below hbN
  replace hS := hS.below hbN
  replace hTT := hTT.below hbN
  replace hZ := hZ.below hbN
  clear hbN
  go_wp2_with fail
  refine (add2_num (p := 82) hS.num hD.num (by decide) (by decide) (by decide)).mono ?_
  rintro e w6 ⟨aE, nE, cE, rfl, hE, hbN⟩
  replace hE := hE.base hbw.size
  replace hbw := hbw.trans (hbN.mono hbw.size)
  replace hA := hA.below hbN
  replace hB := hB.below hbN
  replace hQ := hQ.below hbN
  replace hR := hR.below hbN
  replace hS := hS.below hbN
  replace hTT := hTT.below hbN
  replace hZ := hZ.below hbN
  replace hD := hD.below hbN
  clear hbN
  go_wp2_with fail
  refine (sqrt_num _ hE.num (by decide) (Nat.le_refl _)).mono ?_
  rintro e w7 ⟨U, hU, aU, nU, cU, aM, nM, cM, rfl, hUU, hM, hbN⟩
  replace hUU := hUU.base hbw.size
  replace hM := hM.base hbw.size
  replace hbw := hbw.trans (hbN.mono hbw.size)
  replace hA := hA.below hbN
  replace hB := hB.below hbN
  replace hQ := hQ.below hbN
  replace hR := hR.below hbN
  replace hS := hS.below hbN
  replace hTT := hTT.below hbN
  replace hZ := hZ.below hbN
  replace hD := hD.below hbN
  replace hE := hE.below hbN
  clear hbN
  obtain rfl : U = T := root_unique hU (sq_root2 hA0)
  go_wp2_with fail
  refine (cmp_num hTT.num hA).mono ?_
  rintro e w8 ⟨rfl, hbN⟩
  replace hbw := hbw.trans (hbN.mono hbw.size)
  replace hA := hA.below hbN
  replace hB := hB.below hbN
  replace hQ := hQ.below hbN
  replace hR := hR.below hbN
  replace hS := hS.below hbN
  replace hTT := hTT.below hbN
  replace hZ := hZ.below hbN
  replace hD := hD.below hbN
  replace hE := hE.below hbN
  replace hUU := hUU.below hbN
  replace hM := hM.below hbN
  clear hbN
  rw [cmpI_eq rfl]
  go_wp2_with fail
  refine (cmp_num hUU.num hA).mono ?_
  rintro e w9 ⟨rfl, hbN⟩
  replace hbw := hbw.trans (hbN.mono hbw.size)
  replace hA := hA.below hbN
  replace hB := hB.below hbN
  replace hQ := hQ.below hbN
  replace hR := hR.below hbN
  replace hS := hS.below hbN
  replace hTT := hTT.below hbN
  replace hZ := hZ.below hbN
  replace hD := hD.below hbN
  replace hE := hE.below hbN
  replace hUU := hUU.below hbN
  replace hM := hM.below hbN
  clear hbN
  rw [cmpI_eq rfl]
  go_wp2_with fail
  refine (add2_num (p := 41) hA hA (by decide) (by decide) (by decide)).mono ?_
  rintro e w10 ⟨aG, nG, cG, rfl, hG, hbN⟩
  replace hG := hG.base hbw.size
  replace hbw := hbw.trans (hbN.mono hbw.size)
  replace hA := hA.below hbN
  replace hB := hB.below hbN
  replace hQ := hQ.below hbN
  replace hR := hR.below hbN
  replace hS := hS.below hbN
  replace hTT := hTT.below hbN
  replace hZ := hZ.below hbN
  replace hD := hD.below hbN
  replace hE := hE.below hbN
  replace hUU := hUU.below hbN
  replace hM := hM.below hbN
  clear hbN
  go_wp2_with fail
  refine (cmp_num hM.num hG.num).mono ?_
  rintro e w11 ⟨rfl, hbN⟩
  replace hbw := hbw.trans (hbN.mono hbw.size)
  replace hA := hA.below hbN
  replace hB := hB.below hbN
  replace hQ := hQ.below hbN
  replace hR := hR.below hbN
  replace hS := hS.below hbN
  replace hTT := hTT.below hbN
  replace hZ := hZ.below hbN
  replace hD := hD.below hbN
  replace hE := hE.below hbN
  replace hUU := hUU.below hbN
  replace hM := hM.below hbN
  replace hG := hG.below hbN
  clear hbN
  rw [cmpI_eq (by omega)]
  go_wp2_with fail
  refine (bits_num hB (by decide)).mono ?_
  rintro e w' ⟨rfl, rfl⟩
  rw [← HTB.out]
  go_wp2_with fail
  refine (cmp_num hR.num hB).mono ?_
  rintro e w12 ⟨rfl, hbN⟩
  replace hbw := hbw.trans (hbN.mono hbw.size)
  replace hA := hA.below hbN
  replace hB := hB.below hbN
  replace hQ := hQ.below hbN
  replace hR := hR.below hbN
  replace hS := hS.below hbN
  replace hTT := hTT.below hbN
  replace hZ := hZ.below hbN
  replace hD := hD.below hbN
  replace hE := hE.below hbN
  replace hUU := hUU.below hbN
  replace hM := hM.below hbN
  replace hG := hG.below hbN
  clear hbN
  rw [cmpI_lt (Int.emod_lt_of_pos _ (by have := hB.nonneg; omega))]
  go_wp2_with fail
  refine (mul_num 4 hQ.num hB (p := 80) (by decide) (by decide) (by decide)).mono ?_
  rintro e w13 ⟨aV, nV, cV, rfl, hV, hbN⟩
  replace hV := hV.base hbw.size
  replace hbw := hbw.trans (hbN.mono hbw.size)
  replace hA := hA.below hbN
  replace hB := hB.below hbN
  replace hQ := hQ.below hbN
  replace hR := hR.below hbN
  replace hS := hS.below hbN
  replace hTT := hTT.below hbN
  replace hZ := hZ.below hbN
  replace hD := hD.below hbN
  replace hE := hE.below hbN
  replace hUU := hUU.below hbN
  replace hM := hM.below hbN
  replace hG := hG.below hbN
  clear hbN
  go_wp2_with fail
  refine (add2_num (p := 90) hV.num hR.num (by decide) (by decide) (by decide)).mono ?_
  rintro e w14 ⟨aX, nX, cX, rfl, hX, hbN⟩
  replace hX := hX.base hbw.size
  replace hbw := hbw.trans (hbN.mono hbw.size)
  replace hA := hA.below hbN
  replace hB := hB.below hbN
  replace hQ := hQ.below hbN
  replace hR := hR.below hbN
  replace hS := hS.below hbN
  replace hTT := hTT.below hbN
  replace hZ := hZ.below hbN
  replace hD := hD.below hbN
  replace hE := hE.below hbN
  replace hUU := hUU.below hbN
  replace hM := hM.below hbN
  replace hG := hG.below hbN
  replace hV := hV.below hbN
  clear hbN
  go_wp2_with fail
  refine (cmp_num hX.num hA).mono ?_
  rintro e w15 ⟨rfl, hbN⟩
  replace hbw := hbw.trans (hbN.mono hbw.size)
  replace hA := hA.below hbN
  replace hB := hB.below hbN
  replace hQ := hQ.below hbN
  replace hR := hR.below hbN
  replace hS := hS.below hbN
  replace hTT := hTT.below hbN
  replace hZ := hZ.below hbN
  replace hD := hD.below hbN
  replace hE := hE.below hbN
  replace hUU := hUU.below hbN
  replace hM := hM.below hbN
  replace hG := hG.below hbN
  replace hV := hV.below hbN
  replace hX := hX.below hbN
  clear hbN
  rw [cmpI_eq (by rw [Int.mul_comm]; exact Int.mul_ediv_add_emod _ _)]
  go_wp2_with fail
  go_ret
  exact ⟨rfl, hbw⟩
end Go.Proofs.YtfhknnmffppfgaaDoor
