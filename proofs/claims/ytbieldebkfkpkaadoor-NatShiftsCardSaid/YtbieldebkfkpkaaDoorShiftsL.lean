/-
  The walk of the statement NatShifts.
-/
import Derived.Test.YtbieldebkfkpkaaDoorShiftB
import Derived.Test.YtbieldebkfkpkaaDoorSqrt
namespace Go.Proofs.YtbieldebkfkpkaaDoor
open Go.RowKit

theorem ten_800 {A : Int} (h : A < B64 ^ 40) : A < 10 ^ 800 := by
  have e : B64 ^ 40 < 10 ^ 800 := by decide +kernel
  omega
theorem RetN.nil {w : World} {m : Nat} {e : Ending} {w' : World} (h : e = .returned (.slice none 0 0) ∧ w = w') : RetN w 0 m e w' := by
  obtain ⟨rfl, rfl⟩ := h
  exact ⟨none, 0, 0, rfl, ⟨[], Ow.nil _ _, Can.nil _, rfl, Nat.zero_le _⟩, Below.refl _ _⟩
set_option maxRecDepth 100000 in
theorem shifts_heavy (aA : Option Addr) (nA cA : Nat) (n : Int) (w : World) (h : 40 < nA) (hn : nA ≤ 9223372036854775807) :
    Calls Tryd.prog 3 #[.slice aA nA cA, .int .i64 n] w fun e w' => RetV w (.bool true) e w' := by
  have hl := light_one_at aA nA cA 22 w w.heap.size rfl hn
  rw [show decide (nA ≤ 40) = false by simp; omega] at hl
  have HL := Lib.hid hl
  have hb0 := below_alloc w (.cells #[Value.slice aA nA cA] 22)
  clear hl h
  go_enter Tryd.func3, Tryd.ntmps3
  go_wp2_with fail
  refine HL.out.mono ?_
  rintro e w' ⟨rfl, rfl⟩
  go_wp2_with fail
  refine (alive_yes _).mono ?_
  rintro e w1 ⟨rfl, hb⟩
  go_wp2_with fail
  go_ret
  exact ⟨rfl, hb0.trans (hb.mono hb0.size)⟩

set_option maxRecDepth 100000 in
set_option maxHeartbeats 2000000 in
theorem shifts_up (aA : Option Addr) (nA cA : Nat) (l : List Int) (k : Nat) (hk : k ≤ 5000) (w : World) (hn : nA = l.length) (hc1 : nA ≤ cA) (hc2 : cA ≤ 9223372036854775807) (hr : Rd w aA l) (hl : Lim B64 l) (h40 : nA ≤ 40) (hT : Tab64 w) :
    Calls Tryd.prog 3 #[.slice aA nA cA, .int .i64 (k : Int)] w fun e w' => RetV w (.bool true) e w' := by
  have hlt := light_one_at aA nA cA 22 w w.heap.size rfl (by omega)
  rw [show decide (nA ≤ 40) = true by simp; omega] at hlt
  have HL := Lib.hid hlt
  obtain ⟨A, hAe⟩ : ∃ A, A = vb B64 l := ⟨_, rfl⟩
  have hA : Num w (.slice aA nA cA) A 40 := ⟨l, ⟨aA, cA, by rw [hn], by rw [← hn]; exact hc1, hc2, hr, hl⟩, hAe.symm, by rw [← hn]; exact h40⟩
  have hb0 := below_alloc w (.cells #[Value.slice aA nA cA] 22)
  have HN := Lib.hid hn
  have HAE := Lib.hid hAe
  clear hlt hn hAe
  go_enter Tryd.func3, Tryd.ntmps3
  go_wp2_with fail
  refine HL.out.mono ?_
  rintro e w' ⟨rfl, rfl⟩
  go_wp2_with fail
  refine (alive_yes _).mono ?_
  rintro e w1 ⟨rfl, hb⟩
  have hbw1 := hb0.trans (hb.mono hb0.size)
  clear hb hb0 HL
  go_wp2_with fail
  refine (from_num (hA.below hbw1) (by decide)).mono ?_
  rintro e w2 ⟨aX, nX, cX, rfl, hX, hb2⟩
  have hbw2 := hbw1.trans (hb2.mono hbw1.size)
  clear hb2 hbw1
  go_wp2_with fail
  refine (lent_any aA nA cA l w2 HN.out (hr.below hbw2) (by unfold MaxW; omega)).mono ?_
  rintro e w3 ⟨gm, cm, rfl, hcm1, hcm2, hatm, hb3⟩
  have hM : Num w3 (.slice (some ⟨gm, 0, none⟩) nA cm) A 40 := ⟨l, ⟨some ⟨gm, 0, none⟩, cm, by rw [HN.out], by rw [← HN.out]; omega, hcm2, by have := Rd.of_at (hatm.take l.length); rwa [List.take_left] at this, hl⟩, HAE.out.symm, by rw [← HN.out]; exact h40⟩
  replace hX := hX.below hb3
  have hbw3 := hbw2.trans (hb3.mono hbw2.size)
  clear hb3 hbw2
  go_wp2_with fail
  refine (shl_num k (p := 40 + k / 64 + 1) hM (by omega) (Nat.le_refl _) (by decide)).mono ?_
  rintro e w4 ⟨aU, nU, cU, rfl, hU, hb4⟩
  have hbw4 := hbw3.trans (hb4.mono hbw3.size)
  replace hX := hX.below hb4
  replace hM := hM.below hb4
  replace hatm := hatm.below hb4
  clear hb4 hbw3
  go_wp2_with fail
  refine (shr_num k hM (by omega) (by decide)).mono ?_
  rintro e w5 ⟨aD, nD, cD, rfl, hD, hb5⟩
  have hbw5 := hbw4.trans (hb5.mono hbw4.size)
  replace hX := hX.below hb5
  replace hM := hM.below hb5
  replace hatm := hatm.below hb5
  replace hU := hU.below hb5
  clear hb5 hbw4
  go_wp2_with fail
  refine (sqrt_num (nb A) hM (by decide) (Nat.le_refl _)).mono ?_
  rintro e w6 ⟨R, hroot, aR, nR, cR, aS, nS, cS, rfl, hR, hS, hb6⟩
  have HROOT := Lib.hid hroot
  have hbw6 := hbw5.trans (hb6.mono hbw5.size)
  replace hX := hX.below hb6
  replace hM := hM.below hb6
  replace hatm := hatm.below hb6
  replace hU := hU.below hb6
  replace hD := hD.below hb6
  clear hb6 hbw5 hroot
  go_wp2_with fail
  refine (rsqrt_num hX (by decide)).mono ?_
  rintro e w7 ⟨R', hroot', aQ, nQ, cQ, rfl, hQ, hb7⟩
  obtain rfl : R' = R := root_unique hroot' HROOT.out
  have hbw7 := hbw6.trans (hb7.mono hbw6.size)
  replace hX := hX.below hb7
  replace hM := hM.below hb7
  replace hatm := hatm.below hb7
  replace hU := hU.below hb7
  replace hD := hD.below hb7
  replace hR := hR.below hb7
  replace hS := hS.below hb7
  clear hb7 hbw6 hroot'
  go_wp2_with fail
  refine (rshl_num k (p := 80 + k / 32 + 1) hX (by omega) (Nat.le_refl _) (by decide)).mono ?_
  rintro e w8 ⟨aL, nL, cL, rfl, hL, hb⟩
  have hbw8 := hbw7.trans (hb.mono hbw7.size)
  replace hX := hX.below hb
  replace hM := hM.below hb
  replace hatm := hatm.below hb
  replace hU := hU.below hb
  replace hD := hD.below hb
  replace hR := hR.below hb
  replace hS := hS.below hb
  replace hQ := hQ.below hb
  clear hb hbw7
  go_wp2_with fail
  refine (rshr_num k hX (by omega) (by decide)).mono ?_
  rintro e w9 ⟨aG, nG, cG, rfl, hG, hb⟩
  have hbw9 := hbw8.trans (hb.mono hbw8.size)
  replace hX := hX.below hb
  replace hM := hM.below hb
  replace hatm := hatm.below hb
  replace hU := hU.below hb
  replace hD := hD.below hb
  replace hR := hR.below hb
  replace hS := hS.below hb
  replace hQ := hQ.below hb
  replace hL := hL.below hb
  clear hb hbw8
  go_wp2_with fail
  refine (text_any hM (by decide) (by decide)).mono ?_
  rintro e w10 ⟨rfl, hb⟩
  have hbw10 := hbw9.trans (hb.mono hbw9.size)
  replace hX := hX.below hb
  replace hM := hM.below hb
  replace hatm := hatm.below hb
  replace hU := hU.below hb
  replace hD := hD.below hb
  replace hR := hR.below hb
  replace hS := hS.below hb
  replace hQ := hQ.below hb
  replace hL := hL.below hb
  replace hG := hG.below hb
  clear hb hbw9
  go_wp2_with fail
  refine (parse_num (m := 40) (n := 800) hM.nonneg hM.lt (ten_800 hM.lt) (by decide)).mono ?_
  rintro e w11 ⟨aT, nT, cT, rfl, hT2, hb⟩
  have hbw11 := hbw10.trans (hb.mono hbw10.size)
  replace hX := hX.below hb
  replace hM := hM.below hb
  replace hatm := hatm.below hb
  replace hU := hU.below hb
  replace hD := hD.below hb
  replace hR := hR.below hb
  replace hS := hS.below hb
  replace hQ := hQ.below hb
  replace hL := hL.below hb
  replace hG := hG.below hb
  clear hb hbw10
  go_wp2_with fail
  refine (is_num hU hL (by omega)).mono ?_
  rintro e w12 ⟨rfl, hb⟩
  have hbw12 := hbw11.trans (hb.mono hbw11.size)
  replace hX := hX.below hb
  replace hM := hM.below hb
  replace hatm := hatm.below hb
  replace hU := hU.below hb
  replace hD := hD.below hb
  replace hR := hR.below hb
  replace hS := hS.below hb
  replace hQ := hQ.below hb
  replace hL := hL.below hb
  replace hG := hG.below hb
  replace hT2 := hT2.below hb
  clear hb hbw11
  go_wp2_with fail
  refine (is_num hD hG (by decide)).mono ?_
  rintro e w13 ⟨rfl, hb⟩
  have hbw13 := hbw12.trans (hb.mono hbw12.size)
  replace hX := hX.below hb
  replace hM := hM.below hb
  replace hatm := hatm.below hb
  replace hU := hU.below hb
  replace hD := hD.below hb
  replace hR := hR.below hb
  replace hS := hS.below hb
  replace hQ := hQ.below hb
  replace hL := hL.below hb
  replace hG := hG.below hb
  replace hT2 := hT2.below hb
  clear hb hbw12
  go_wp2_with fail
  refine (is_num hR hQ (by decide)).mono ?_
  rintro e w14 ⟨rfl, hb⟩
  have hbw14 := hbw13.trans (hb.mono hbw13.size)
  replace hX := hX.below hb
  replace hM := hM.below hb
  replace hatm := hatm.below hb
  replace hU := hU.below hb
  replace hD := hD.below hb
  replace hR := hR.below hb
  replace hS := hS.below hb
  replace hQ := hQ.below hb
  replace hL := hL.below hb
  replace hG := hG.below hb
  replace hT2 := hT2.below hb
  clear hb hbw13
  go_wp2_with fail
  refine (rmul_num (p := 162) hQ hQ (by decide) (by decide)).mono ?_
  rintro e w15 ⟨aP, nP, cP, rfl, hP, hb⟩
  have hbw15 := hbw14.trans (hb.mono hbw14.size)
  replace hX := hX.below hb
  replace hM := hM.below hb
  replace hatm := hatm.below hb
  replace hU := hU.below hb
  replace hD := hD.below hb
  replace hR := hR.below hb
  replace hS := hS.below hb
  replace hQ := hQ.below hb
  replace hL := hL.below hb
  replace hG := hG.below hb
  replace hT2 := hT2.below hb
  clear hb hbw14
  go_wp2_with fail
  refine (rsub_num hX hP HROOT.out.2.1 (by decide)).mono ?_
  rintro e w16 ⟨aE, nE, cE, rfl, hE, hb⟩
  have hbw16 := hbw15.trans (hb.mono hbw15.size)
  replace hX := hX.below hb
  replace hM := hM.below hb
  replace hatm := hatm.below hb
  replace hU := hU.below hb
  replace hD := hD.below hb
  replace hR := hR.below hb
  replace hS := hS.below hb
  replace hQ := hQ.below hb
  replace hL := hL.below hb
  replace hG := hG.below hb
  replace hT2 := hT2.below hb
  replace hP := hP.below hb
  clear hb hbw15
  go_wp2_with fail
  refine (is_num hS hE (by decide)).mono ?_
  rintro e w17 ⟨rfl, hb⟩
  have hbw17 := hbw16.trans (hb.mono hbw16.size)
  replace hX := hX.below hb
  replace hM := hM.below hb
  replace hatm := hatm.below hb
  replace hU := hU.below hb
  replace hD := hD.below hb
  replace hR := hR.below hb
  replace hS := hS.below hb
  replace hQ := hQ.below hb
  replace hL := hL.below hb
  replace hG := hG.below hb
  replace hT2 := hT2.below hb
  replace hP := hP.below hb
  replace hE := hE.below hb
  clear hb hbw16
  go_wp2_with fail
  refine (bits_num hM (by decide)).mono ?_
  rintro e w' ⟨rfl, rfl⟩
  go_wp2_with fail
  refine (rbits_num hX (by decide)).mono ?_
  rintro e w' ⟨rfl, rfl⟩
  have hTw := hT.below hbw17
  go_wp2_with fail
  refine (lowall_num hM (by decide) hTw).mono ?_
  rintro e w' ⟨t1, rfl, ht1, rfl⟩
  go_wp2_with fail
  refine (rlowall_num hX (by decide)).mono ?_
  rintro e w' ⟨t2, rfl, ht2, rfl⟩
  obtain rfl : t1 = t2 := lowOf_unique ht1 ht2
  clear ht1 ht2 hTw
  go_wp2_with fail
  refine (text_any hM (by decide) (by decide)).mono ?_
  rintro e w18 ⟨rfl, hb⟩
  have hbw18 := hbw17.trans (hb.mono hbw17.size)
  replace hX := hX.below hb
  replace hM := hM.below hb
  replace hatm := hatm.below hb
  replace hU := hU.below hb
  replace hD := hD.below hb
  replace hR := hR.below hb
  replace hS := hS.below hb
  replace hQ := hQ.below hb
  replace hL := hL.below hb
  replace hG := hG.below hb
  replace hT2 := hT2.below hb
  replace hP := hP.below hb
  replace hE := hE.below hb
  clear hb hbw17
  go_wp2_with fail
  refine (rtextn_num (n := 800) hX (ten_800 hM.lt) (by decide) (by decide)).mono ?_
  rintro e w19 ⟨rfl, hb⟩
  have hbw19 := hbw18.trans (hb.mono hbw18.size)
  replace hX := hX.below hb
  replace hM := hM.below hb
  replace hatm := hatm.below hb
  replace hU := hU.below hb
  replace hD := hD.below hb
  replace hR := hR.below hb
  replace hS := hS.below hb
  replace hQ := hQ.below hb
  replace hL := hL.below hb
  replace hG := hG.below hb
  replace hT2 := hT2.below hb
  replace hP := hP.below hb
  replace hE := hE.below hb
  clear hb hbw18
  go_wp2_with fail
  refine (is_num hT2 hX (by decide)).mono ?_
  rintro e w20 ⟨rfl, hb⟩
  have hbw20 := hbw19.trans (hb.mono hbw19.size)
  replace hX := hX.below hb
  replace hM := hM.below hb
  replace hatm := hatm.below hb
  replace hU := hU.below hb
  replace hD := hD.below hb
  replace hR := hR.below hb
  replace hS := hS.below hb
  replace hQ := hQ.below hb
  replace hL := hL.below hb
  replace hG := hG.below hb
  replace hT2 := hT2.below hb
  replace hP := hP.below hb
  replace hE := hE.below hb
  clear hb hbw19
  go_wp2_with fail
  refine (stays_yes gm nA cm aA cA l w20 HN.out hcm1 hcm2 hc1 hc2 hatm (hr.below hbw20)).mono ?_
  rintro e w21 ⟨rfl, hb⟩
  have hbw21 := hbw20.trans (hb.mono hbw20.size)
  replace hX := hX.below hb
  replace hM := hM.below hb
  replace hatm := hatm.below hb
  replace hU := hU.below hb
  replace hD := hD.below hb
  replace hR := hR.below hb
  replace hS := hS.below hb
  replace hQ := hQ.below hb
  replace hL := hL.below hb
  replace hG := hG.below hb
  replace hT2 := hT2.below hb
  replace hP := hP.below hb
  replace hE := hE.below hb
  clear hb hbw20
  go_wp2_with fail
  go_ret
  exact ⟨rfl, hbw21⟩

set_option maxRecDepth 100000 in
set_option maxHeartbeats 2000000 in
theorem shifts_down (aA : Option Addr) (nA cA : Nat) (l : List Int) (k : Nat) (n : Int) (hk : k ≤ 5000) (hk1 : 1 ≤ k) (hnk : n = -(k : Int)) (w : World) (hn : nA = l.length) (hc1 : nA ≤ cA) (hc2 : cA ≤ 9223372036854775807) (hr : Rd w aA l) (hl : Lim B64 l) (h40 : nA ≤ 40) (hT : Tab64 w) :
    Calls Tryd.prog 3 #[.slice aA nA cA, .int .i64 n] w fun e w' => RetV w (.bool true) e w' := by
  have hlt := light_one_at aA nA cA 22 w w.heap.size rfl (by omega)
  rw [show decide (nA ≤ 40) = true by simp; omega] at hlt
  have HL := Lib.hid hlt
  obtain ⟨A, hAe⟩ : ∃ A, A = vb B64 l := ⟨_, rfl⟩
  have hA : Num w (.slice aA nA cA) A 40 := ⟨l, ⟨aA, cA, by rw [hn], by rw [← hn]; exact hc1, hc2, hr, hl⟩, hAe.symm, by rw [← hn]; exact h40⟩
  have hb0 := below_alloc w (.cells #[Value.slice aA nA cA] 22)
  have HN := Lib.hid hn
  have HAE := Lib.hid hAe
  clear hlt hn hAe
  have hng : IntKind.i64.wrap (-n) = (k : Int) := by rw [IntKind.wrap_i64]; omega
  have hng2 : -n = (k : Int) := by omega
  have hn0 : n < 0 := by omega
  have hn1 : -5000 ≤ n := by omega
  have hnk' : n = -(k : Int) := by omega
  have HNK := Lib.hid hnk'
  clear hnk hnk'
  go_enter Tryd.func3, Tryd.ntmps3
  go_wp2_with fail
  refine HL.out.mono ?_
  rintro e w' ⟨rfl, rfl⟩
  go_wp2_with fail
  refine (alive_yes _).mono ?_
  rintro e w1 ⟨rfl, hb⟩
  have hbw1 := hb0.trans (hb.mono hb0.size)
  clear hb hb0 HL
  go_wp2_with fail
  refine (from_num (hA.below hbw1) (by decide)).mono ?_
  rintro e w2 ⟨aX, nX, cX, rfl, hX, hb2⟩
  have hbw2 := hbw1.trans (hb2.mono hbw1.size)
  clear hb2 hbw1
  go_wp2_with fail
  refine (lent_any aA nA cA l w2 HN.out (hr.below hbw2) (by unfold MaxW; omega)).mono ?_
  rintro e w3 ⟨gm, cm, rfl, hcm1, hcm2, hatm, hb3⟩
  have hM : Num w3 (.slice (some ⟨gm, 0, none⟩) nA cm) A 40 := ⟨l, ⟨some ⟨gm, 0, none⟩, cm, by rw [HN.out], by rw [← HN.out]; omega, hcm2, by have := Rd.of_at (hatm.take l.length); rwa [List.take_left] at this, hl⟩, HAE.out.symm, by rw [← HN.out]; exact h40⟩
  replace hX := hX.below hb3
  have hbw3 := hbw2.trans (hb3.mono hbw2.size)
  clear hb3 hbw2
  go_wp2_with fail
  refine ((by rw [HNK.out]; exact shl_neg_num k hM (by omega) (by decide) : Calls Tryd.prog 11 #[.slice (some ⟨gm, 0, none⟩) nA cm, .int .i64 n] w3 fun e w' => RetN w3 (A / 2 ^ k) 40 e w')).mono ?_
  rintro e w4 ⟨aU, nU, cU, rfl, hU, hb4⟩
  have hbw4 := hbw3.trans (hb4.mono hbw3.size)
  replace hX := hX.below hb4
  replace hM := hM.below hb4
  replace hatm := hatm.below hb4
  clear hb4 hbw3
  go_wp2_with fail
  refine ((by rw [HNK.out]; exact shr_neg_num k (p := 40 + k / 64 + 1) hM (by omega) (Nat.le_refl _) (by decide) : Calls Tryd.prog 12 #[.slice (some ⟨gm, 0, none⟩) nA cm, .int .i64 n] w4 fun e w' => RetN w4 (A * 2 ^ k) (40 + k / 64 + 1) e w')).mono ?_
  rintro e w5 ⟨aD, nD, cD, rfl, hD, hb5⟩
  have hbw5 := hbw4.trans (hb5.mono hbw4.size)
  replace hX := hX.below hb5
  replace hM := hM.below hb5
  replace hatm := hatm.below hb5
  replace hU := hU.below hb5
  clear hb5 hbw4
  go_wp2_with fail
  refine (sqrt_num (nb A) hM (by decide) (Nat.le_refl _)).mono ?_
  rintro e w6 ⟨R, hroot, aR, nR, cR, aS, nS, cS, rfl, hR, hS, hb6⟩
  have HROOT := Lib.hid hroot
  have hbw6 := hbw5.trans (hb6.mono hbw5.size)
  replace hX := hX.below hb6
  replace hM := hM.below hb6
  replace hatm := hatm.below hb6
  replace hU := hU.below hb6
  replace hD := hD.below hb6
  clear hb6 hbw5 hroot
  go_wp2_with fail
  refine (rsqrt_num hX (by decide)).mono ?_
  rintro e w7 ⟨R', hroot', aQ, nQ, cQ, rfl, hQ, hb7⟩
  obtain rfl : R' = R := root_unique hroot' HROOT.out
  have hbw7 := hbw6.trans (hb7.mono hbw6.size)
  replace hX := hX.below hb7
  replace hM := hM.below hb7
  replace hatm := hatm.below hb7
  replace hU := hU.below hb7
  replace hD := hD.below hb7
  replace hR := hR.below hb7
  replace hS := hS.below hb7
  clear hb7 hbw6 hroot'
  go_wp2_with fail
  refine (rshr_num k hX (by omega) (by decide)).mono ?_
  rintro e w8 ⟨aL, nL, cL, rfl, hL, hb⟩
  have hbw8 := hbw7.trans (hb.mono hbw7.size)
  replace hX := hX.below hb
  replace hM := hM.below hb
  replace hatm := hatm.below hb
  replace hU := hU.below hb
  replace hD := hD.below hb
  replace hR := hR.below hb
  replace hS := hS.below hb
  replace hQ := hQ.below hb
  clear hb hbw7
  go_wp2_with fail
  refine (rshl_num k (p := 80 + k / 32 + 1) hX (by omega) (Nat.le_refl _) (by decide)).mono ?_
  rintro e w9 ⟨aG, nG, cG, rfl, hG, hb⟩
  have hbw9 := hbw8.trans (hb.mono hbw8.size)
  replace hX := hX.below hb
  replace hM := hM.below hb
  replace hatm := hatm.below hb
  replace hU := hU.below hb
  replace hD := hD.below hb
  replace hR := hR.below hb
  replace hS := hS.below hb
  replace hQ := hQ.below hb
  replace hL := hL.below hb
  clear hb hbw8
  go_wp2_with fail
  refine (text_any hM (by decide) (by decide)).mono ?_
  rintro e w10 ⟨rfl, hb⟩
  have hbw10 := hbw9.trans (hb.mono hbw9.size)
  replace hX := hX.below hb
  replace hM := hM.below hb
  replace hatm := hatm.below hb
  replace hU := hU.below hb
  replace hD := hD.below hb
  replace hR := hR.below hb
  replace hS := hS.below hb
  replace hQ := hQ.below hb
  replace hL := hL.below hb
  replace hG := hG.below hb
  clear hb hbw9
  go_wp2_with fail
  refine (parse_num (m := 40) (n := 800) hM.nonneg hM.lt (ten_800 hM.lt) (by decide)).mono ?_
  rintro e w11 ⟨aT, nT, cT, rfl, hT2, hb⟩
  have hbw11 := hbw10.trans (hb.mono hbw10.size)
  replace hX := hX.below hb
  replace hM := hM.below hb
  replace hatm := hatm.below hb
  replace hU := hU.below hb
  replace hD := hD.below hb
  replace hR := hR.below hb
  replace hS := hS.below hb
  replace hQ := hQ.below hb
  replace hL := hL.below hb
  replace hG := hG.below hb
  clear hb hbw10
  go_wp2_with fail
  refine (is_num hU hL (by decide)).mono ?_
  rintro e w12 ⟨rfl, hb⟩
  have hbw12 := hbw11.trans (hb.mono hbw11.size)
  replace hX := hX.below hb
  replace hM := hM.below hb
  replace hatm := hatm.below hb
  replace hU := hU.below hb
  replace hD := hD.below hb
  replace hR := hR.below hb
  replace hS := hS.below hb
  replace hQ := hQ.below hb
  replace hL := hL.below hb
  replace hG := hG.below hb
  replace hT2 := hT2.below hb
  clear hb hbw11
  go_wp2_with fail
  refine (is_num hD hG (by omega)).mono ?_
  rintro e w13 ⟨rfl, hb⟩
  have hbw13 := hbw12.trans (hb.mono hbw12.size)
  replace hX := hX.below hb
  replace hM := hM.below hb
  replace hatm := hatm.below hb
  replace hU := hU.below hb
  replace hD := hD.below hb
  replace hR := hR.below hb
  replace hS := hS.below hb
  replace hQ := hQ.below hb
  replace hL := hL.below hb
  replace hG := hG.below hb
  replace hT2 := hT2.below hb
  clear hb hbw12
  go_wp2_with fail
  refine (is_num hR hQ (by decide)).mono ?_
  rintro e w14 ⟨rfl, hb⟩
  have hbw14 := hbw13.trans (hb.mono hbw13.size)
  replace hX := hX.below hb
  replace hM := hM.below hb
  replace hatm := hatm.below hb
  replace hU := hU.below hb
  replace hD := hD.below hb
  replace hR := hR.below hb
  replace hS := hS.below hb
  replace hQ := hQ.below hb
  replace hL := hL.below hb
  replace hG := hG.below hb
  replace hT2 := hT2.below hb
  clear hb hbw13
  go_wp2_with fail
  refine (rmul_num (p := 162) hQ hQ (by decide) (by decide)).mono ?_
  rintro e w15 ⟨aP, nP, cP, rfl, hP, hb⟩
  have hbw15 := hbw14.trans (hb.mono hbw14.size)
  replace hX := hX.below hb
  replace hM := hM.below hb
  replace hatm := hatm.below hb
  replace hU := hU.below hb
  replace hD := hD.below hb
  replace hR := hR.below hb
  replace hS := hS.below hb
  replace hQ := hQ.below hb
  replace hL := hL.below hb
  replace hG := hG.below hb
  replace hT2 := hT2.below hb
  clear hb hbw14
  go_wp2_with fail
  refine (rsub_num hX hP HROOT.out.2.1 (by decide)).mono ?_
  rintro e w16 ⟨aE, nE, cE, rfl, hE, hb⟩
  have hbw16 := hbw15.trans (hb.mono hbw15.size)
  replace hX := hX.below hb
  replace hM := hM.below hb
  replace hatm := hatm.below hb
  replace hU := hU.below hb
  replace hD := hD.below hb
  replace hR := hR.below hb
  replace hS := hS.below hb
  replace hQ := hQ.below hb
  replace hL := hL.below hb
  replace hG := hG.below hb
  replace hT2 := hT2.below hb
  replace hP := hP.below hb
  clear hb hbw15
  go_wp2_with fail
  refine (is_num hS hE (by decide)).mono ?_
  rintro e w17 ⟨rfl, hb⟩
  have hbw17 := hbw16.trans (hb.mono hbw16.size)
  replace hX := hX.below hb
  replace hM := hM.below hb
  replace hatm := hatm.below hb
  replace hU := hU.below hb
  replace hD := hD.below hb
  replace hR := hR.below hb
  replace hS := hS.below hb
  replace hQ := hQ.below hb
  replace hL := hL.below hb
  replace hG := hG.below hb
  replace hT2 := hT2.below hb
  replace hP := hP.below hb
  replace hE := hE.below hb
  clear hb hbw16
  go_wp2_with fail
  refine (bits_num hM (by decide)).mono ?_
  rintro e w' ⟨rfl, rfl⟩
  go_wp2_with fail
  refine (rbits_num hX (by decide)).mono ?_
  rintro e w' ⟨rfl, rfl⟩
  have hTw := hT.below hbw17
  go_wp2_with fail
  refine (lowall_num hM (by decide) hTw).mono ?_
  rintro e w' ⟨t1, rfl, ht1, rfl⟩
  go_wp2_with fail
  refine (rlowall_num hX (by decide)).mono ?_
  rintro e w' ⟨t2, rfl, ht2, rfl⟩
  obtain rfl : t1 = t2 := lowOf_unique ht1 ht2
  clear ht1 ht2 hTw
  go_wp2_with fail
  refine (text_any hM (by decide) (by decide)).mono ?_
  rintro e w18 ⟨rfl, hb⟩
  have hbw18 := hbw17.trans (hb.mono hbw17.size)
  replace hX := hX.below hb
  replace hM := hM.below hb
  replace hatm := hatm.below hb
  replace hU := hU.below hb
  replace hD := hD.below hb
  replace hR := hR.below hb
  replace hS := hS.below hb
  replace hQ := hQ.below hb
  replace hL := hL.below hb
  replace hG := hG.below hb
  replace hT2 := hT2.below hb
  replace hP := hP.below hb
  replace hE := hE.below hb
  clear hb hbw17
  go_wp2_with fail
  refine (rtextn_num (n := 800) hX (ten_800 hM.lt) (by decide) (by decide)).mono ?_
  rintro e w19 ⟨rfl, hb⟩
  have hbw19 := hbw18.trans (hb.mono hbw18.size)
  replace hX := hX.below hb
  replace hM := hM.below hb
  replace hatm := hatm.below hb
  replace hU := hU.below hb
  replace hD := hD.below hb
  replace hR := hR.below hb
  replace hS := hS.below hb
  replace hQ := hQ.below hb
  replace hL := hL.below hb
  replace hG := hG.below hb
  replace hT2 := hT2.below hb
  replace hP := hP.below hb
  replace hE := hE.below hb
  clear hb hbw18
  go_wp2_with fail
  refine (is_num hT2 hX (by decide)).mono ?_
  rintro e w20 ⟨rfl, hb⟩
  have hbw20 := hbw19.trans (hb.mono hbw19.size)
  replace hX := hX.below hb
  replace hM := hM.below hb
  replace hatm := hatm.below hb
  replace hU := hU.below hb
  replace hD := hD.below hb
  replace hR := hR.below hb
  replace hS := hS.below hb
  replace hQ := hQ.below hb
  replace hL := hL.below hb
  replace hG := hG.below hb
  replace hT2 := hT2.below hb
  replace hP := hP.below hb
  replace hE := hE.below hb
  clear hb hbw19
  go_wp2_with fail
  refine (stays_yes gm nA cm aA cA l w20 HN.out hcm1 hcm2 hc1 hc2 hatm (hr.below hbw20)).mono ?_
  rintro e w21 ⟨rfl, hb⟩
  have hbw21 := hbw20.trans (hb.mono hbw20.size)
  replace hX := hX.below hb
  replace hM := hM.below hb
  replace hatm := hatm.below hb
  replace hU := hU.below hb
  replace hD := hD.below hb
  replace hR := hR.below hb
  replace hS := hS.below hb
  replace hQ := hQ.below hb
  replace hL := hL.below hb
  replace hG := hG.below hb
  replace hT2 := hT2.below hb
  replace hP := hP.below hb
  replace hE := hE.below hb
  clear hb hbw20
  go_wp2_with fail
  go_ret
  exact ⟨rfl, hbw21⟩

set_option maxRecDepth 100000 in
set_option maxHeartbeats 2000000 in
theorem shifts_above (aA : Option Addr) (nA cA : Nat) (l : List Int) (n : Int) (h : 16777216 < n) (hi0 : -9223372036854775808 ≤ n) (hi1 : n ≤ 9223372036854775807) (w : World) (hn : nA = l.length) (hc1 : nA ≤ cA) (hc2 : cA ≤ 9223372036854775807) (hr : Rd w aA l) (hl : Lim B64 l) (h40 : nA ≤ 40) (hT : Tab64 w) :
    Calls Tryd.prog 3 #[.slice aA nA cA, .int .i64 n] w fun e w' => RetV w (.bool true) e w' := by
  have hlt := light_one_at aA nA cA 22 w w.heap.size rfl (by omega)
  rw [show decide (nA ≤ 40) = true by simp; omega] at hlt
  have HL := Lib.hid hlt
  obtain ⟨A, hAe⟩ : ∃ A, A = vb B64 l := ⟨_, rfl⟩
  have hA : Num w (.slice aA nA cA) A 40 := ⟨l, ⟨aA, cA, by rw [hn], by rw [← hn]; exact hc1, hc2, hr, hl⟩, hAe.symm, by rw [← hn]; exact h40⟩
  have hb0 := below_alloc w (.cells #[Value.slice aA nA cA] 22)
  have HN := Lib.hid hn
  have HAE := Lib.hid hAe
  clear hlt hn hAe
  have hn0 : ¬ n < 0 := by omega
  have hn1 : 5000 < n := by omega
  have hn2 : 16777216 < n := h
  have hne : (n == -16777216) = false := by simp; omega
  go_enter Tryd.func3, Tryd.ntmps3
  go_wp2_with fail
  refine HL.out.mono ?_
  rintro e w' ⟨rfl, rfl⟩
  go_wp2_with fail
  refine (alive_yes _).mono ?_
  rintro e w1 ⟨rfl, hb⟩
  have hbw1 := hb0.trans (hb.mono hb0.size)
  clear hb hb0 HL
  go_wp2_with fail
  refine (from_num (hA.below hbw1) (by decide)).mono ?_
  rintro e w2 ⟨aX, nX, cX, rfl, hX, hb2⟩
  have hbw2 := hbw1.trans (hb2.mono hbw1.size)
  clear hb2 hbw1
  go_wp2_with fail
  refine (lent_any aA nA cA l w2 HN.out (hr.below hbw2) (by unfold MaxW; omega)).mono ?_
  rintro e w3 ⟨gm, cm, rfl, hcm1, hcm2, hatm, hb3⟩
  have hM : Num w3 (.slice (some ⟨gm, 0, none⟩) nA cm) A 40 := ⟨l, ⟨some ⟨gm, 0, none⟩, cm, by rw [HN.out], by rw [← HN.out]; omega, hcm2, by have := Rd.of_at (hatm.take l.length); rwa [List.take_left] at this, hl⟩, HAE.out.symm, by rw [← HN.out]; exact h40⟩
  replace hX := hX.below hb3
  have hbw3 := hbw2.trans (hb3.mono hbw2.size)
  clear hb3 hbw2
  go_wp2_with fail
  refine (((shl_out (w := w3) (some ⟨gm, 0, none⟩) nA cm n (Or.inl h)).mono fun e w' hh => RetN.nil (m := 1) hh)).mono ?_
  rintro e w4 ⟨aU, nU, cU, rfl, hU, hb4⟩
  have hbw4 := hbw3.trans (hb4.mono hbw3.size)
  replace hX := hX.below hb4
  replace hM := hM.below hb4
  replace hatm := hatm.below hb4
  clear hb4 hbw3
  go_wp2_with fail
  refine (((shr_out (w := w4) (some ⟨gm, 0, none⟩) nA cm n hi0 hi1 (Or.inl h)).mono fun e w' hh => RetN.nil (m := 1) hh)).mono ?_
  rintro e w5 ⟨aD, nD, cD, rfl, hD, hb5⟩
  have hbw5 := hbw4.trans (hb5.mono hbw4.size)
  replace hX := hX.below hb5
  replace hM := hM.below hb5
  replace hatm := hatm.below hb5
  replace hU := hU.below hb5
  clear hb5 hbw4
  go_wp2_with fail
  refine (sqrt_num (nb A) hM (by decide) (Nat.le_refl _)).mono ?_
  rintro e w6 ⟨R, hroot, aR, nR, cR, aS, nS, cS, rfl, hR, hS, hb6⟩
  have HROOT := Lib.hid hroot
  have hbw6 := hbw5.trans (hb6.mono hbw5.size)
  replace hX := hX.below hb6
  replace hM := hM.below hb6
  replace hatm := hatm.below hb6
  replace hU := hU.below hb6
  replace hD := hD.below hb6
  clear hb6 hbw5 hroot
  go_wp2_with fail
  refine (rsqrt_num hX (by decide)).mono ?_
  rintro e w7 ⟨R', hroot', aQ, nQ, cQ, rfl, hQ, hb7⟩
  obtain rfl : R' = R := root_unique hroot' HROOT.out
  have hbw7 := hbw6.trans (hb7.mono hbw6.size)
  replace hX := hX.below hb7
  replace hM := hM.below hb7
  replace hatm := hatm.below hb7
  replace hU := hU.below hb7
  replace hD := hD.below hb7
  replace hR := hR.below hb7
  replace hS := hS.below hb7
  clear hb7 hbw6 hroot'
  have hL := RN.nil w7 1
  have hG := RN.nil w7 1
  go_wp2_with fail
  refine (text_any hM (by decide) (by decide)).mono ?_
  rintro e w8 ⟨rfl, hb⟩
  have hbw8 := hbw7.trans (hb.mono hbw7.size)
  replace hX := hX.below hb
  replace hM := hM.below hb
  replace hatm := hatm.below hb
  replace hU := hU.below hb
  replace hD := hD.below hb
  replace hR := hR.below hb
  replace hS := hS.below hb
  replace hQ := hQ.below hb
  replace hL := hL.below hb
  replace hG := hG.below hb
  clear hb hbw7
  go_wp2_with fail
  refine (parse_num (m := 40) (n := 800) hM.nonneg hM.lt (ten_800 hM.lt) (by decide)).mono ?_
  rintro e w9 ⟨aT, nT, cT, rfl, hT2, hb⟩
  have hbw9 := hbw8.trans (hb.mono hbw8.size)
  replace hX := hX.below hb
  replace hM := hM.below hb
  replace hatm := hatm.below hb
  replace hU := hU.below hb
  replace hD := hD.below hb
  replace hR := hR.below hb
  replace hS := hS.below hb
  replace hQ := hQ.below hb
  replace hL := hL.below hb
  replace hG := hG.below hb
  clear hb hbw8
  go_wp2_with fail
  refine (is_num hU hL (by decide)).mono ?_
  rintro e w10 ⟨rfl, hb⟩
  have hbw10 := hbw9.trans (hb.mono hbw9.size)
  replace hX := hX.below hb
  replace hM := hM.below hb
  replace hatm := hatm.below hb
  replace hU := hU.below hb
  replace hD := hD.below hb
  replace hR := hR.below hb
  replace hS := hS.below hb
  replace hQ := hQ.below hb
  replace hL := hL.below hb
  replace hG := hG.below hb
  replace hT2 := hT2.below hb
  clear hb hbw9
  go_wp2_with fail
  refine (is_num hD hG (by decide)).mono ?_
  rintro e w11 ⟨rfl, hb⟩
  have hbw11 := hbw10.trans (hb.mono hbw10.size)
  replace hX := hX.below hb
  replace hM := hM.below hb
  replace hatm := hatm.below hb
  replace hU := hU.below hb
  replace hD := hD.below hb
  replace hR := hR.below hb
  replace hS := hS.below hb
  replace hQ := hQ.below hb
  replace hL := hL.below hb
  replace hG := hG.below hb
  replace hT2 := hT2.below hb
  clear hb hbw10
  go_wp2_with fail
  refine (is_num hR hQ (by decide)).mono ?_
  rintro e w12 ⟨rfl, hb⟩
  have hbw12 := hbw11.trans (hb.mono hbw11.size)
  replace hX := hX.below hb
  replace hM := hM.below hb
  replace hatm := hatm.below hb
  replace hU := hU.below hb
  replace hD := hD.below hb
  replace hR := hR.below hb
  replace hS := hS.below hb
  replace hQ := hQ.below hb
  replace hL := hL.below hb
  replace hG := hG.below hb
  replace hT2 := hT2.below hb
  clear hb hbw11
  go_wp2_with fail
  refine (rmul_num (p := 162) hQ hQ (by decide) (by decide)).mono ?_
  rintro e w13 ⟨aP, nP, cP, rfl, hP, hb⟩
  have hbw13 := hbw12.trans (hb.mono hbw12.size)
  replace hX := hX.below hb
  replace hM := hM.below hb
  replace hatm := hatm.below hb
  replace hU := hU.below hb
  replace hD := hD.below hb
  replace hR := hR.below hb
  replace hS := hS.below hb
  replace hQ := hQ.below hb
  replace hL := hL.below hb
  replace hG := hG.below hb
  replace hT2 := hT2.below hb
  clear hb hbw12
  go_wp2_with fail
  refine (rsub_num hX hP HROOT.out.2.1 (by decide)).mono ?_
  rintro e w14 ⟨aE, nE, cE, rfl, hE, hb⟩
  have hbw14 := hbw13.trans (hb.mono hbw13.size)
  replace hX := hX.below hb
  replace hM := hM.below hb
  replace hatm := hatm.below hb
  replace hU := hU.below hb
  replace hD := hD.below hb
  replace hR := hR.below hb
  replace hS := hS.below hb
  replace hQ := hQ.below hb
  replace hL := hL.below hb
  replace hG := hG.below hb
  replace hT2 := hT2.below hb
  replace hP := hP.below hb
  clear hb hbw13
  go_wp2_with fail
  refine (is_num hS hE (by decide)).mono ?_
  rintro e w15 ⟨rfl, hb⟩
  have hbw15 := hbw14.trans (hb.mono hbw14.size)
  replace hX := hX.below hb
  replace hM := hM.below hb
  replace hatm := hatm.below hb
  replace hU := hU.below hb
  replace hD := hD.below hb
  replace hR := hR.below hb
  replace hS := hS.below hb
  replace hQ := hQ.below hb
  replace hL := hL.below hb
  replace hG := hG.below hb
  replace hT2 := hT2.below hb
  replace hP := hP.below hb
  replace hE := hE.below hb
  clear hb hbw14
  go_wp2_with fail
  refine (bits_num hM (by decide)).mono ?_
  rintro e w' ⟨rfl, rfl⟩
  go_wp2_with fail
  refine (rbits_num hX (by decide)).mono ?_
  rintro e w' ⟨rfl, rfl⟩
  have hTw := hT.below hbw15
  go_wp2_with fail
  refine (lowall_num hM (by decide) hTw).mono ?_
  rintro e w' ⟨t1, rfl, ht1, rfl⟩
  go_wp2_with fail
  refine (rlowall_num hX (by decide)).mono ?_
  rintro e w' ⟨t2, rfl, ht2, rfl⟩
  obtain rfl : t1 = t2 := lowOf_unique ht1 ht2
  clear ht1 ht2 hTw
  go_wp2_with fail
  refine (text_any hM (by decide) (by decide)).mono ?_
  rintro e w16 ⟨rfl, hb⟩
  have hbw16 := hbw15.trans (hb.mono hbw15.size)
  replace hX := hX.below hb
  replace hM := hM.below hb
  replace hatm := hatm.below hb
  replace hU := hU.below hb
  replace hD := hD.below hb
  replace hR := hR.below hb
  replace hS := hS.below hb
  replace hQ := hQ.below hb
  replace hL := hL.below hb
  replace hG := hG.below hb
  replace hT2 := hT2.below hb
  replace hP := hP.below hb
  replace hE := hE.below hb
  clear hb hbw15
  go_wp2_with fail
  refine (rtextn_num (n := 800) hX (ten_800 hM.lt) (by decide) (by decide)).mono ?_
  rintro e w17 ⟨rfl, hb⟩
  have hbw17 := hbw16.trans (hb.mono hbw16.size)
  replace hX := hX.below hb
  replace hM := hM.below hb
  replace hatm := hatm.below hb
  replace hU := hU.below hb
  replace hD := hD.below hb
  replace hR := hR.below hb
  replace hS := hS.below hb
  replace hQ := hQ.below hb
  replace hL := hL.below hb
  replace hG := hG.below hb
  replace hT2 := hT2.below hb
  replace hP := hP.below hb
  replace hE := hE.below hb
  clear hb hbw16
  go_wp2_with fail
  refine (is_num hT2 hX (by decide)).mono ?_
  rintro e w18 ⟨rfl, hb⟩
  have hbw18 := hbw17.trans (hb.mono hbw17.size)
  replace hX := hX.below hb
  replace hM := hM.below hb
  replace hatm := hatm.below hb
  replace hU := hU.below hb
  replace hD := hD.below hb
  replace hR := hR.below hb
  replace hS := hS.below hb
  replace hQ := hQ.below hb
  replace hL := hL.below hb
  replace hG := hG.below hb
  replace hT2 := hT2.below hb
  replace hP := hP.below hb
  replace hE := hE.below hb
  clear hb hbw17
  go_wp2_with fail
  refine (stays_yes gm nA cm aA cA l w18 HN.out hcm1 hcm2 hc1 hc2 hatm (hr.below hbw18)).mono ?_
  rintro e w19 ⟨rfl, hb⟩
  have hbw19 := hbw18.trans (hb.mono hbw18.size)
  replace hX := hX.below hb
  replace hM := hM.below hb
  replace hatm := hatm.below hb
  replace hU := hU.below hb
  replace hD := hD.below hb
  replace hR := hR.below hb
  replace hS := hS.below hb
  replace hQ := hQ.below hb
  replace hL := hL.below hb
  replace hG := hG.below hb
  replace hT2 := hT2.below hb
  replace hP := hP.below hb
  replace hE := hE.below hb
  clear hb hbw18
  go_wp2_with fail
  go_ret
  exact ⟨rfl, hbw19⟩

set_option maxRecDepth 100000 in
set_option maxHeartbeats 2000000 in
theorem shifts_below (aA : Option Addr) (nA cA : Nat) (l : List Int) (n : Int) (h : n < -16777216) (hi0 : -9223372036854775808 ≤ n) (hi1 : n ≤ 9223372036854775807) (w : World) (hn : nA = l.length) (hc1 : nA ≤ cA) (hc2 : cA ≤ 9223372036854775807) (hr : Rd w aA l) (hl : Lim B64 l) (h40 : nA ≤ 40) (hT : Tab64 w) :
    Calls Tryd.prog 3 #[.slice aA nA cA, .int .i64 n] w fun e w' => RetV w (.bool true) e w' := by
  have hlt := light_one_at aA nA cA 22 w w.heap.size rfl (by omega)
  rw [show decide (nA ≤ 40) = true by simp; omega] at hlt
  have HL := Lib.hid hlt
  obtain ⟨A, hAe⟩ : ∃ A, A = vb B64 l := ⟨_, rfl⟩
  have hA : Num w (.slice aA nA cA) A 40 := ⟨l, ⟨aA, cA, by rw [hn], by rw [← hn]; exact hc1, hc2, hr, hl⟩, hAe.symm, by rw [← hn]; exact h40⟩
  have hb0 := below_alloc w (.cells #[Value.slice aA nA cA] 22)
  have HN := Lib.hid hn
  have HAE := Lib.hid hAe
  clear hlt hn hAe
  have hn0 : n < 0 := by omega
  have hn1 : n < -5000 := by omega
  have hn2 : n < -16777216 := h
  have hne : (n == -16777216) = false := by simp; omega
  go_enter Tryd.func3, Tryd.ntmps3
  go_wp2_with fail
  refine HL.out.mono ?_
  rintro e w' ⟨rfl, rfl⟩
  go_wp2_with fail
  refine (alive_yes _).mono ?_
  rintro e w1 ⟨rfl, hb⟩
  have hbw1 := hb0.trans (hb.mono hb0.size)
  clear hb hb0 HL
  go_wp2_with fail
  refine (from_num (hA.below hbw1) (by decide)).mono ?_
  rintro e w2 ⟨aX, nX, cX, rfl, hX, hb2⟩
  have hbw2 := hbw1.trans (hb2.mono hbw1.size)
  clear hb2 hbw1
  go_wp2_with fail
  refine (lent_any aA nA cA l w2 HN.out (hr.below hbw2) (by unfold MaxW; omega)).mono ?_
  rintro e w3 ⟨gm, cm, rfl, hcm1, hcm2, hatm, hb3⟩
  have hM : Num w3 (.slice (some ⟨gm, 0, none⟩) nA cm) A 40 := ⟨l, ⟨some ⟨gm, 0, none⟩, cm, by rw [HN.out], by rw [← HN.out]; omega, hcm2, by have := Rd.of_at (hatm.take l.length); rwa [List.take_left] at this, hl⟩, HAE.out.symm, by rw [← HN.out]; exact h40⟩
  replace hX := hX.below hb3
  have hbw3 := hbw2.trans (hb3.mono hbw2.size)
  clear hb3 hbw2
  go_wp2_with fail
  refine (((shl_out (w := w3) (some ⟨gm, 0, none⟩) nA cm n (Or.inr h)).mono fun e w' hh => RetN.nil (m := 1) hh)).mono ?_
  rintro e w4 ⟨aU, nU, cU, rfl, hU, hb4⟩
  have hbw4 := hbw3.trans (hb4.mono hbw3.size)
  replace hX := hX.below hb4
  replace hM := hM.below hb4
  replace hatm := hatm.below hb4
  clear hb4 hbw3
  go_wp2_with fail
  refine (((shr_out (w := w4) (some ⟨gm, 0, none⟩) nA cm n hi0 hi1 (Or.inr h)).mono fun e w' hh => RetN.nil (m := 1) hh)).mono ?_
  rintro e w5 ⟨aD, nD, cD, rfl, hD, hb5⟩
  have hbw5 := hbw4.trans (hb5.mono hbw4.size)
  replace hX := hX.below hb5
  replace hM := hM.below hb5
  replace hatm := hatm.below hb5
  replace hU := hU.below hb5
  clear hb5 hbw4
  go_wp2_with fail
  refine (sqrt_num (nb A) hM (by decide) (Nat.le_refl _)).mono ?_
  rintro e w6 ⟨R, hroot, aR, nR, cR, aS, nS, cS, rfl, hR, hS, hb6⟩
  have HROOT := Lib.hid hroot
  have hbw6 := hbw5.trans (hb6.mono hbw5.size)
  replace hX := hX.below hb6
  replace hM := hM.below hb6
  replace hatm := hatm.below hb6
  replace hU := hU.below hb6
  replace hD := hD.below hb6
  clear hb6 hbw5 hroot
  go_wp2_with fail
  refine (rsqrt_num hX (by decide)).mono ?_
  rintro e w7 ⟨R', hroot', aQ, nQ, cQ, rfl, hQ, hb7⟩
  obtain rfl : R' = R := root_unique hroot' HROOT.out
  have hbw7 := hbw6.trans (hb7.mono hbw6.size)
  replace hX := hX.below hb7
  replace hM := hM.below hb7
  replace hatm := hatm.below hb7
  replace hU := hU.below hb7
  replace hD := hD.below hb7
  replace hR := hR.below hb7
  replace hS := hS.below hb7
  clear hb7 hbw6 hroot'
  have hL := RN.nil w7 1
  have hG := RN.nil w7 1
  go_wp2_with fail
  refine (text_any hM (by decide) (by decide)).mono ?_
  rintro e w8 ⟨rfl, hb⟩
  have hbw8 := hbw7.trans (hb.mono hbw7.size)
  replace hX := hX.below hb
  replace hM := hM.below hb
  replace hatm := hatm.below hb
  replace hU := hU.below hb
  replace hD := hD.below hb
  replace hR := hR.below hb
  replace hS := hS.below hb
  replace hQ := hQ.below hb
  replace hL := hL.below hb
  replace hG := hG.below hb
  clear hb hbw7
  go_wp2_with fail
  refine (parse_num (m := 40) (n := 800) hM.nonneg hM.lt (ten_800 hM.lt) (by decide)).mono ?_
  rintro e w9 ⟨aT, nT, cT, rfl, hT2, hb⟩
  have hbw9 := hbw8.trans (hb.mono hbw8.size)
  replace hX := hX.below hb
  replace hM := hM.below hb
  replace hatm := hatm.below hb
  replace hU := hU.below hb
  replace hD := hD.below hb
  replace hR := hR.below hb
  replace hS := hS.below hb
  replace hQ := hQ.below hb
  replace hL := hL.below hb
  replace hG := hG.below hb
  clear hb hbw8
  go_wp2_with fail
  refine (is_num hU hL (by decide)).mono ?_
  rintro e w10 ⟨rfl, hb⟩
  have hbw10 := hbw9.trans (hb.mono hbw9.size)
  replace hX := hX.below hb
  replace hM := hM.below hb
  replace hatm := hatm.below hb
  replace hU := hU.below hb
  replace hD := hD.below hb
  replace hR := hR.below hb
  replace hS := hS.below hb
  replace hQ := hQ.below hb
  replace hL := hL.below hb
  replace hG := hG.below hb
  replace hT2 := hT2.below hb
  clear hb hbw9
  go_wp2_with fail
  refine (is_num hD hG (by decide)).mono ?_
  rintro e w11 ⟨rfl, hb⟩
  have hbw11 := hbw10.trans (hb.mono hbw10.size)
  replace hX := hX.below hb
  replace hM := hM.below hb
  replace hatm := hatm.below hb
  replace hU := hU.below hb
  replace hD := hD.below hb
  replace hR := hR.below hb
  replace hS := hS.below hb
  replace hQ := hQ.below hb
  replace hL := hL.below hb
  replace hG := hG.below hb
  replace hT2 := hT2.below hb
  clear hb hbw10
  go_wp2_with fail
  refine (is_num hR hQ (by decide)).mono ?_
  rintro e w12 ⟨rfl, hb⟩
  have hbw12 := hbw11.trans (hb.mono hbw11.size)
  replace hX := hX.below hb
  replace hM := hM.below hb
  replace hatm := hatm.below hb
  replace hU := hU.below hb
  replace hD := hD.below hb
  replace hR := hR.below hb
  replace hS := hS.below hb
  replace hQ := hQ.below hb
  replace hL := hL.below hb
  replace hG := hG.below hb
  replace hT2 := hT2.below hb
  clear hb hbw11
  go_wp2_with fail
  refine (rmul_num (p := 162) hQ hQ (by decide) (by decide)).mono ?_
  rintro e w13 ⟨aP, nP, cP, rfl, hP, hb⟩
  have hbw13 := hbw12.trans (hb.mono hbw12.size)
  replace hX := hX.below hb
  replace hM := hM.below hb
  replace hatm := hatm.below hb
  replace hU := hU.below hb
  replace hD := hD.below hb
  replace hR := hR.below hb
  replace hS := hS.below hb
  replace hQ := hQ.below hb
  replace hL := hL.below hb
  replace hG := hG.below hb
  replace hT2 := hT2.below hb
  clear hb hbw12
  go_wp2_with fail
  refine (rsub_num hX hP HROOT.out.2.1 (by decide)).mono ?_
  rintro e w14 ⟨aE, nE, cE, rfl, hE, hb⟩
  have hbw14 := hbw13.trans (hb.mono hbw13.size)
  replace hX := hX.below hb
  replace hM := hM.below hb
  replace hatm := hatm.below hb
  replace hU := hU.below hb
  replace hD := hD.below hb
  replace hR := hR.below hb
  replace hS := hS.below hb
  replace hQ := hQ.below hb
  replace hL := hL.below hb
  replace hG := hG.below hb
  replace hT2 := hT2.below hb
  replace hP := hP.below hb
  clear hb hbw13
  go_wp2_with fail
  refine (is_num hS hE (by decide)).mono ?_
  rintro e w15 ⟨rfl, hb⟩
  have hbw15 := hbw14.trans (hb.mono hbw14.size)
  replace hX := hX.below hb
  replace hM := hM.below hb
  replace hatm := hatm.below hb
  replace hU := hU.below hb
  replace hD := hD.below hb
  replace hR := hR.below hb
  replace hS := hS.below hb
  replace hQ := hQ.below hb
  replace hL := hL.below hb
  replace hG := hG.below hb
  replace hT2 := hT2.below hb
  replace hP := hP.below hb
  replace hE := hE.below hb
  clear hb hbw14
  go_wp2_with fail
  refine (bits_num hM (by decide)).mono ?_
  rintro e w' ⟨rfl, rfl⟩
  go_wp2_with fail
  refine (rbits_num hX (by decide)).mono ?_
  rintro e w' ⟨rfl, rfl⟩
  have hTw := hT.below hbw15
  go_wp2_with fail
  refine (lowall_num hM (by decide) hTw).mono ?_
  rintro e w' ⟨t1, rfl, ht1, rfl⟩
  go_wp2_with fail
  refine (rlowall_num hX (by decide)).mono ?_
  rintro e w' ⟨t2, rfl, ht2, rfl⟩
  obtain rfl : t1 = t2 := lowOf_unique ht1 ht2
  clear ht1 ht2 hTw
  go_wp2_with fail
  refine (text_any hM (by decide) (by decide)).mono ?_
  rintro e w16 ⟨rfl, hb⟩
  have hbw16 := hbw15.trans (hb.mono hbw15.size)
  replace hX := hX.below hb
  replace hM := hM.below hb
  replace hatm := hatm.below hb
  replace hU := hU.below hb
  replace hD := hD.below hb
  replace hR := hR.below hb
  replace hS := hS.below hb
  replace hQ := hQ.below hb
  replace hL := hL.below hb
  replace hG := hG.below hb
  replace hT2 := hT2.below hb
  replace hP := hP.below hb
  replace hE := hE.below hb
  clear hb hbw15
  go_wp2_with fail
  refine (rtextn_num (n := 800) hX (ten_800 hM.lt) (by decide) (by decide)).mono ?_
  rintro e w17 ⟨rfl, hb⟩
  have hbw17 := hbw16.trans (hb.mono hbw16.size)
  replace hX := hX.below hb
  replace hM := hM.below hb
  replace hatm := hatm.below hb
  replace hU := hU.below hb
  replace hD := hD.below hb
  replace hR := hR.below hb
  replace hS := hS.below hb
  replace hQ := hQ.below hb
  replace hL := hL.below hb
  replace hG := hG.below hb
  replace hT2 := hT2.below hb
  replace hP := hP.below hb
  replace hE := hE.below hb
  clear hb hbw16
  go_wp2_with fail
  refine (is_num hT2 hX (by decide)).mono ?_
  rintro e w18 ⟨rfl, hb⟩
  have hbw18 := hbw17.trans (hb.mono hbw17.size)
  replace hX := hX.below hb
  replace hM := hM.below hb
  replace hatm := hatm.below hb
  replace hU := hU.below hb
  replace hD := hD.below hb
  replace hR := hR.below hb
  replace hS := hS.below hb
  replace hQ := hQ.below hb
  replace hL := hL.below hb
  replace hG := hG.below hb
  replace hT2 := hT2.below hb
  replace hP := hP.below hb
  replace hE := hE.below hb
  clear hb hbw17
  go_wp2_with fail
  refine (stays_yes gm nA cm aA cA l w18 HN.out hcm1 hcm2 hc1 hc2 hatm (hr.below hbw18)).mono ?_
  rintro e w19 ⟨rfl, hb⟩
  have hbw19 := hbw18.trans (hb.mono hbw18.size)
  replace hX := hX.below hb
  replace hM := hM.below hb
  replace hatm := hatm.below hb
  replace hU := hU.below hb
  replace hD := hD.below hb
  replace hR := hR.below hb
  replace hS := hS.below hb
  replace hQ := hQ.below hb
  replace hL := hL.below hb
  replace hG := hG.below hb
  replace hT2 := hT2.below hb
  replace hP := hP.below hb
  replace hE := hE.below hb
  clear hb hbw18
  go_wp2_with fail
  go_ret
  exact ⟨rfl, hbw19⟩

set_option maxRecDepth 100000 in
set_option maxHeartbeats 2000000 in
theorem shifts_far (aA : Option Addr) (nA cA : Nat) (l : List Int) (k : Nat) (hk : 5000 < k) (hk2 : k ≤ 16777216) (w : World) (hn : nA = l.length) (hc1 : nA ≤ cA) (hc2 : cA ≤ 9223372036854775807) (hr : Rd w aA l) (hl : Lim B64 l) (h40 : nA ≤ 40) (_hT : Tab64 w) :
    Calls Tryd.prog 3 #[.slice aA nA cA, .int .i64 (k : Int)] w fun e w' => RetV w (.bool true) e w' := by
  have hlt := light_one_at aA nA cA 22 w w.heap.size rfl (by omega)
  rw [show decide (nA ≤ 40) = true by simp; omega] at hlt
  have HL := Lib.hid hlt
  obtain ⟨A, hAe⟩ : ∃ A, A = vb B64 l := ⟨_, rfl⟩
  have hA : Num w (.slice aA nA cA) A 40 := ⟨l, ⟨aA, cA, by rw [hn], by rw [← hn]; exact hc1, hc2, hr, hl⟩, hAe.symm, by rw [← hn]; exact h40⟩
  have hb0 := below_alloc w (.cells #[Value.slice aA nA cA] 22)
  have HN := Lib.hid hn
  have HAE := Lib.hid hAe
  clear hlt hn hAe
  go_enter Tryd.func3, Tryd.ntmps3
  go_wp2_with fail
  refine HL.out.mono ?_
  rintro e w' ⟨rfl, rfl⟩
  go_wp2_with fail
  refine (alive_yes _).mono ?_
  rintro e w1 ⟨rfl, hb⟩
  have hbw1 := hb0.trans (hb.mono hb0.size)
  clear hb hb0 HL
  go_wp2_with fail
  refine (from_num (hA.below hbw1) (by decide)).mono ?_
  rintro e w2 ⟨aX, nX, cX, rfl, hX, hb2⟩
  have hbw2 := hbw1.trans (hb2.mono hbw1.size)
  clear hb2 hbw1
  go_wp2_with fail
  refine (lent_any aA nA cA l w2 HN.out (hr.below hbw2) (by unfold MaxW; omega)).mono ?_
  rintro e w3 ⟨gm, cm, rfl, hcm1, hcm2, hatm, hb3⟩
  have hM : Num w3 (.slice (some ⟨gm, 0, none⟩) nA cm) A 40 := ⟨l, ⟨some ⟨gm, 0, none⟩, cm, by rw [HN.out], by rw [← HN.out]; omega, hcm2, by have := Rd.of_at (hatm.take l.length); rwa [List.take_left] at this, hl⟩, HAE.out.symm, by rw [← HN.out]; exact h40⟩
  replace hX := hX.below hb3
  have hbw3 := hbw2.trans (hb3.mono hbw2.size)
  clear hb3 hbw2
  go_wp2_with fail
  refine (shl_num k (p := 40 + k / 64 + 1) hM (by omega) (Nat.le_refl _) (by decide)).mono ?_
  rintro e w4 ⟨aU, nU, cU, rfl, hU, hb4⟩
  have hbw4 := hbw3.trans (hb4.mono hbw3.size)
  replace hX := hX.below hb4
  replace hM := hM.below hb4
  replace hatm := hatm.below hb4
  clear hb4 hbw3
  go_wp2_with fail
  refine (shr_num k hM (by omega) (by decide)).mono ?_
  rintro e w5 ⟨aD, nD, cD, rfl, hD, hb5⟩
  have hbw5 := hbw4.trans (hb5.mono hbw4.size)
  replace hX := hX.below hb5
  replace hM := hM.below hb5
  replace hatm := hatm.below hb5
  replace hU := hU.below hb5
  clear hb5 hbw4
  go_wp2_with fail
  refine (sqrt_num (nb A) hM (by decide) (Nat.le_refl _)).mono ?_
  rintro e w6 ⟨R, hroot, aR, nR, cR, aS, nS, cS, rfl, hR, hS, hb6⟩
  have HROOT := Lib.hid hroot
  have hbw6 := hbw5.trans (hb6.mono hbw5.size)
  replace hX := hX.below hb6
  replace hM := hM.below hb6
  replace hatm := hatm.below hb6
  replace hU := hU.below hb6
  replace hD := hD.below hb6
  clear hb6 hbw5 hroot
  go_wp2_with fail
  refine (rsqrt_num hX (by decide)).mono ?_
  rintro e w7 ⟨R', hroot', aQ, nQ, cQ, rfl, hQ, hb7⟩
  obtain rfl : R' = R := root_unique hroot' HROOT.out
  have hbw7 := hbw6.trans (hb7.mono hbw6.size)
  replace hX := hX.below hb7
  replace hM := hM.below hb7
  replace hatm := hatm.below hb7
  replace hU := hU.below hb7
  replace hD := hD.below hb7
  replace hR := hR.below hb7
  replace hS := hS.below hb7
  clear hb7 hbw6 hroot'
  go_wp2_with fail
  refine (bits_num hM (by decide)).mono ?_
  rintro e w' ⟨rfl, rfl⟩
  go_wp2_with fail
  refine (rbits_num hX (by decide)).mono ?_
  rintro e w' ⟨rfl, rfl⟩
  go_wp2_with fail
  go_ret
  exact ⟨rfl, hbw7⟩

set_option maxRecDepth 100000 in
set_option maxHeartbeats 2000000 in
theorem shifts_deep (aA : Option Addr) (nA cA : Nat) (l : List Int) (k : Nat) (n : Int) (hk : 5000 < k) (hk2 : k < 16777216) (hnk : n = -(k : Int)) (w : World) (hn : nA = l.length) (hc1 : nA ≤ cA) (hc2 : cA ≤ 9223372036854775807) (hr : Rd w aA l) (hl : Lim B64 l) (h40 : nA ≤ 40) (_hT : Tab64 w) :
    Calls Tryd.prog 3 #[.slice aA nA cA, .int .i64 n] w fun e w' => RetV w (.bool true) e w' := by
  have hlt := light_one_at aA nA cA 22 w w.heap.size rfl (by omega)
  rw [show decide (nA ≤ 40) = true by simp; omega] at hlt
  have HL := Lib.hid hlt
  obtain ⟨A, hAe⟩ : ∃ A, A = vb B64 l := ⟨_, rfl⟩
  have hA : Num w (.slice aA nA cA) A 40 := ⟨l, ⟨aA, cA, by rw [hn], by rw [← hn]; exact hc1, hc2, hr, hl⟩, hAe.symm, by rw [← hn]; exact h40⟩
  have hb0 := below_alloc w (.cells #[Value.slice aA nA cA] 22)
  have HN := Lib.hid hn
  have HAE := Lib.hid hAe
  clear hlt hn hAe
  have hn0 : n < 0 := by omega
  have hn1 : n < -5000 := by omega
  have hn2 : -16777216 < n := by omega
  have hne : (n != -16777216) = true := by simp; omega
  have HNK := Lib.hid hnk
  clear hnk
  go_enter Tryd.func3, Tryd.ntmps3
  go_wp2_with fail
  refine HL.out.mono ?_
  rintro e w' ⟨rfl, rfl⟩
  go_wp2_with fail
  refine (alive_yes _).mono ?_
  rintro e w1 ⟨rfl, hb⟩
  have hbw1 := hb0.trans (hb.mono hb0.size)
  clear hb hb0 HL
  go_wp2_with fail
  refine (from_num (hA.below hbw1) (by decide)).mono ?_
  rintro e w2 ⟨aX, nX, cX, rfl, hX, hb2⟩
  have hbw2 := hbw1.trans (hb2.mono hbw1.size)
  clear hb2 hbw1
  go_wp2_with fail
  refine (lent_any aA nA cA l w2 HN.out (hr.below hbw2) (by unfold MaxW; omega)).mono ?_
  rintro e w3 ⟨gm, cm, rfl, hcm1, hcm2, hatm, hb3⟩
  have hM : Num w3 (.slice (some ⟨gm, 0, none⟩) nA cm) A 40 := ⟨l, ⟨some ⟨gm, 0, none⟩, cm, by rw [HN.out], by rw [← HN.out]; omega, hcm2, by have := Rd.of_at (hatm.take l.length); rwa [List.take_left] at this, hl⟩, HAE.out.symm, by rw [← HN.out]; exact h40⟩
  replace hX := hX.below hb3
  have hbw3 := hbw2.trans (hb3.mono hbw2.size)
  clear hb3 hbw2
  go_wp2_with fail
  refine ((by rw [HNK.out]; exact shl_neg_num k hM (by omega) (by decide) : Calls Tryd.prog 11 #[.slice (some ⟨gm, 0, none⟩) nA cm, .int .i64 n] w3 fun e w' => RetN w3 (A / 2 ^ k) 40 e w')).mono ?_
  rintro e w4 ⟨aU, nU, cU, rfl, hU, hb4⟩
  have hbw4 := hbw3.trans (hb4.mono hbw3.size)
  replace hX := hX.below hb4
  replace hM := hM.below hb4
  replace hatm := hatm.below hb4
  clear hb4 hbw3
  go_wp2_with fail
  refine ((by rw [HNK.out]; exact shr_neg_num k (p := 40 + k / 64 + 1) hM (by omega) (Nat.le_refl _) (by decide) : Calls Tryd.prog 12 #[.slice (some ⟨gm, 0, none⟩) nA cm, .int .i64 n] w4 fun e w' => RetN w4 (A * 2 ^ k) (40 + k / 64 + 1) e w')).mono ?_
  rintro e w5 ⟨aD, nD, cD, rfl, hD, hb5⟩
  have hbw5 := hbw4.trans (hb5.mono hbw4.size)
  replace hX := hX.below hb5
  replace hM := hM.below hb5
  replace hatm := hatm.below hb5
  replace hU := hU.below hb5
  clear hb5 hbw4
  go_wp2_with fail
  refine (sqrt_num (nb A) hM (by decide) (Nat.le_refl _)).mono ?_
  rintro e w6 ⟨R, hroot, aR, nR, cR, aS, nS, cS, rfl, hR, hS, hb6⟩
  have HROOT := Lib.hid hroot
  have hbw6 := hbw5.trans (hb6.mono hbw5.size)
  replace hX := hX.below hb6
  replace hM := hM.below hb6
  replace hatm := hatm.below hb6
  replace hU := hU.below hb6
  replace hD := hD.below hb6
  clear hb6 hbw5 hroot
  go_wp2_with fail
  refine (rsqrt_num hX (by decide)).mono ?_
  rintro e w7 ⟨R', hroot', aQ, nQ, cQ, rfl, hQ, hb7⟩
  obtain rfl : R' = R := root_unique hroot' HROOT.out
  have hbw7 := hbw6.trans (hb7.mono hbw6.size)
  replace hX := hX.below hb7
  replace hM := hM.below hb7
  replace hatm := hatm.below hb7
  replace hU := hU.below hb7
  replace hD := hD.below hb7
  replace hR := hR.below hb7
  replace hS := hS.below hb7
  clear hb7 hbw6 hroot'
  go_wp2_with fail
  refine (bits_num hM (by decide)).mono ?_
  rintro e w' ⟨rfl, rfl⟩
  go_wp2_with fail
  refine (rbits_num hX (by decide)).mono ?_
  rintro e w' ⟨rfl, rfl⟩
  go_wp2_with fail
  go_ret
  exact ⟨rfl, hbw7⟩

set_option maxRecDepth 100000 in
set_option maxHeartbeats 2000000 in
theorem shifts_edge (aA : Option Addr) (nA cA : Nat) (l : List Int) (k : Nat) (n : Int) (hk : k ≤ 16777216) (hk2 : k = 16777216) (hnn : n = -16777216) (w : World) (hn : nA = l.length) (hc1 : nA ≤ cA) (hc2 : cA ≤ 9223372036854775807) (hr : Rd w aA l) (hl : Lim B64 l) (h40 : nA ≤ 40) (_hT : Tab64 w) :
    Calls Tryd.prog 3 #[.slice aA nA cA, .int .i64 n] w fun e w' => RetV w (.bool true) e w' := by
  have hlt := light_one_at aA nA cA 22 w w.heap.size rfl (by omega)
  rw [show decide (nA ≤ 40) = true by simp; omega] at hlt
  have HL := Lib.hid hlt
  obtain ⟨A, hAe⟩ : ∃ A, A = vb B64 l := ⟨_, rfl⟩
  have hA : Num w (.slice aA nA cA) A 40 := ⟨l, ⟨aA, cA, by rw [hn], by rw [← hn]; exact hc1, hc2, hr, hl⟩, hAe.symm, by rw [← hn]; exact h40⟩
  have hb0 := below_alloc w (.cells #[Value.slice aA nA cA] 22)
  have HN := Lib.hid hn
  have HAE := Lib.hid hAe
  clear hlt hn hAe
  have hn0 : n < 0 := by omega
  have hn1 : n < -5000 := by omega
  have hn2 : ¬ -16777216 < n := by omega
  have hne : (n == -16777216) = true := by simp; omega
  have hnk : n = -(k : Int) := by omega
  have HNK := Lib.hid hnk
  clear hnk hnn hk2
  go_enter Tryd.func3, Tryd.ntmps3
  go_wp2_with fail
  refine HL.out.mono ?_
  rintro e w' ⟨rfl, rfl⟩
  go_wp2_with fail
  refine (alive_yes _).mono ?_
  rintro e w1 ⟨rfl, hb⟩
  have hbw1 := hb0.trans (hb.mono hb0.size)
  clear hb hb0 HL
  go_wp2_with fail
  refine (from_num (hA.below hbw1) (by decide)).mono ?_
  rintro e w2 ⟨aX, nX, cX, rfl, hX, hb2⟩
  have hbw2 := hbw1.trans (hb2.mono hbw1.size)
  clear hb2 hbw1
  go_wp2_with fail
  refine (lent_any aA nA cA l w2 HN.out (hr.below hbw2) (by unfold MaxW; omega)).mono ?_
  rintro e w3 ⟨gm, cm, rfl, hcm1, hcm2, hatm, hb3⟩
  have hM : Num w3 (.slice (some ⟨gm, 0, none⟩) nA cm) A 40 := ⟨l, ⟨some ⟨gm, 0, none⟩, cm, by rw [HN.out], by rw [← HN.out]; omega, hcm2, by have := Rd.of_at (hatm.take l.length); rwa [List.take_left] at this, hl⟩, HAE.out.symm, by rw [← HN.out]; exact h40⟩
  replace hX := hX.below hb3
  have hbw3 := hbw2.trans (hb3.mono hbw2.size)
  clear hb3 hbw2
  go_wp2_with fail
  refine ((by rw [HNK.out]; exact shl_neg_num k hM (by omega) (by decide) : Calls Tryd.prog 11 #[.slice (some ⟨gm, 0, none⟩) nA cm, .int .i64 n] w3 fun e w' => RetN w3 (A / 2 ^ k) 40 e w')).mono ?_
  rintro e w4 ⟨aU, nU, cU, rfl, hU, hb4⟩
  have hbw4 := hbw3.trans (hb4.mono hbw3.size)
  replace hX := hX.below hb4
  replace hM := hM.below hb4
  replace hatm := hatm.below hb4
  clear hb4 hbw3
  go_wp2_with fail
  refine ((by rw [HNK.out]; exact shr_neg_num k (p := 40 + k / 64 + 1) hM (by omega) (Nat.le_refl _) (by decide) : Calls Tryd.prog 12 #[.slice (some ⟨gm, 0, none⟩) nA cm, .int .i64 n] w4 fun e w' => RetN w4 (A * 2 ^ k) (40 + k / 64 + 1) e w')).mono ?_
  rintro e w5 ⟨aD, nD, cD, rfl, hD, hb5⟩
  have hbw5 := hbw4.trans (hb5.mono hbw4.size)
  replace hX := hX.below hb5
  replace hM := hM.below hb5
  replace hatm := hatm.below hb5
  replace hU := hU.below hb5
  clear hb5 hbw4
  go_wp2_with fail
  refine (sqrt_num (nb A) hM (by decide) (Nat.le_refl _)).mono ?_
  rintro e w6 ⟨R, hroot, aR, nR, cR, aS, nS, cS, rfl, hR, hS, hb6⟩
  have HROOT := Lib.hid hroot
  have hbw6 := hbw5.trans (hb6.mono hbw5.size)
  replace hX := hX.below hb6
  replace hM := hM.below hb6
  replace hatm := hatm.below hb6
  replace hU := hU.below hb6
  replace hD := hD.below hb6
  clear hb6 hbw5 hroot
  go_wp2_with fail
  refine (rsqrt_num hX (by decide)).mono ?_
  rintro e w7 ⟨R', hroot', aQ, nQ, cQ, rfl, hQ, hb7⟩
  obtain rfl : R' = R := root_unique hroot' HROOT.out
  have hbw7 := hbw6.trans (hb7.mono hbw6.size)
  replace hX := hX.below hb7
  replace hM := hM.below hb7
  replace hatm := hatm.below hb7
  replace hU := hU.below hb7
  replace hD := hD.below hb7
  replace hR := hR.below hb7
  replace hS := hS.below hb7
  clear hb7 hbw6 hroot'
  go_wp2_with fail
  go_ret
  exact ⟨rfl, hbw7⟩
end Go.Proofs.YtbieldebkfkpkaaDoor
