/-
  The walk of the statement NatPowers.
-/
import Derived.Test.YtfhknnmffppfgaaDoorTextN
import Derived.Test.YtfhknnmffppfgaaDoorDivides
import Derived.Test.YtfhknnmffppfgaaDoorParse2
import Derived.Test.YtfhknnmffppfgaaDoorLow
namespace Go.Proofs.YtfhknnmffppfgaaDoor
open Go.RowKit

theorem low_num {w : World} {u : Value} {N : Int} {m : Nat} (h : Num w u N m) (hm : m ≤ 1000) (hT : Tab64 w) (hnz : N ≠ 0) :
    Calls Tryd.prog 24 #[u] w fun e w' => ∃ t : Nat, e = .returned (.int .i64 t) ∧ IsLow N t ∧ t ≤ 64 * m ∧ w = w' := by
  obtain ⟨a, n, c, l, rfl, h1, h2, h3, h4, h5, rfl, h7⟩ := h.open
  refine (low_any a n c l w h1 h2 h3 h4 h5 (by unfold MaxW; omega) hT hnz).mono ?_
  rintro e w' ⟨t, h1, h2, h3, h4⟩
  exact ⟨t, h1, h2, by omega, h4⟩

theorem low_pow {n t : Nat} (h : IsLow (2 ^ n) t) : t = n := by
  obtain ⟨z, hz⟩ := h
  have hp := pow2_pos n
  have ht := pow2_pos t
  have hz1 : 0 < 2 * z + 1 := by
    rcases Int.lt_or_le 0 (2 * z + 1) with a | a
    · exact a
    · have := Int.mul_nonpos_of_nonneg_of_nonpos (Int.le_of_lt ht) a
      omega
  rcases Nat.lt_trichotomy t n with a | a | a
  · obtain ⟨k, hk⟩ := Nat.le.dest (Nat.succ_le_of_lt a)
    rw [← hk, show t.succ + k = t + (k + 1) by omega, Int.pow_add] at hz
    have e := Int.eq_of_mul_eq_mul_left (by omega : (2:Int) ^ t ≠ 0) hz
    rw [Int.pow_succ] at e
    omega
  · exact a
  · have h1 : (2 : Int) ^ n < 2 ^ t := by
      have h2 : (2 : Int) ^ (n + 1) ≤ 2 ^ t := pow_le_pow (by decide) a
      rw [Int.pow_succ] at h2
      omega
    have h3 := Int.mul_le_mul_of_nonneg_left (show 1 ≤ 2 * z + 1 by omega) (Int.le_of_lt ht)
    omega

theorem parse_num {w : World} {N : Int} {m n : Nat} (h0 : 0 ≤ N) (hN : N < B64 ^ m) (hn : N < 10 ^ n) (hn2 : n ≤ 19999) :
    Calls Tryd.prog 21 #[.string (strOfNums (dec N))] w fun e w' => RetSN w N m e w' := by
  obtain ⟨h1, h2, h3⟩ := dec_spec h0
  have h4 := dec_len h0 hn
  refine (parse_any (strOfNums (dec N)) w (by rw [dec_size]; exact h3) (by rw [dec_size]; omega)).mono ?_
  rintro e w' ⟨v, l, rfl, hO, hc, hv, hb⟩
  rw [dec_bytes, h2, if_pos rfl, h1] at hv
  rw [dec_bytes, h2]
  obtain ⟨a, k, c, rfl⟩ := hO.slice
  exact ⟨a, k, c, rfl, hO.newn hc hv hN, hb⟩

theorem shl_neg_num {w : World} {u : Value} {N : Int} {m : Nat} (k : Nat) (h : Num w u N m) (hk : k ≤ 16777216) (hm : m ≤ 100000) :
    Calls Tryd.prog 19 #[u, .int .i64 (-(k : Int))] w fun e w' => RetN w (N / 2 ^ k) m e w' := by
  have hs := shr_lt (k := k) h.lt h.nonneg
  obtain ⟨a, n, c, l, rfl, h1, h2, h3, h4, h5, rfl, h7⟩ := h.open
  by_cases hk0 : k = 0
  · subst hk0
    refine (shl_up a n c l 0 w h1 h2 h3 h4 h5 (by decide) (by unfold MaxW; omega)).mono fun e w' hr => ?_
    have : RetNum w (vb B64 l / 2 ^ 0) e w' := by simpa using hr
    exact this.retn hs
  · exact (shl_down a n c l k w h1 h2 h3 h4 h5 (by omega) hk (by unfold MaxW; omega)).mono fun e w' hr => hr.retn hs

theorem nb_pow (n : Nat) : nb (2 ^ n) = n + 1 := nb_eq (by omega) (Int.le_refl _) (by rw [Int.pow_succ]; have := pow2_pos n; omega)
theorem nb_pow_pred (n : Nat) : nb (2 ^ n - 1) = n := by
  by_cases h : n = 0
  · subst h; decide
  · have e : (2 : Int) ^ n = 2 ^ (n - 1) * 2 := by rw [← Int.pow_succ]; congr 1; omega
    have := pow2_pos (n - 1)
    exact nb_eq (by omega) (by omega) (by omega)

set_option maxRecDepth 100000 in
theorem powers_range (n k : Int) (w : World) (h : n < 0 ∨ 900 < n ∨ k < 0 ∨ 3 < k) :
    Calls Tryd.prog 4 #[.int .i64 n, .int .i64 k] w fun e w' => RetV w (.bool true) e w' := by
  have walk : ∀ (_ : n < 0 ∨ ¬ n < 0 ∧ 900 < n ∨ ¬ n < 0 ∧ ¬ 900 < n ∧ k < 0 ∨ ¬ n < 0 ∧ ¬ 900 < n ∧ ¬ k < 0 ∧ 3 < k), Calls Tryd.prog 4 #[.int .i64 n, .int .i64 k] w fun e w' => RetV w (.bool true) e w' := by
    rintro (h1 | ⟨h1, h2⟩ | ⟨h1, h2, h3⟩ | ⟨h1, h2, h3, h4⟩)
    all_goals
      clear h
      go_enter Tryd.func4, Tryd.ntmps4
      go_wp2_with fail
      refine (alive_yes _).mono ?_
      rintro e w1 ⟨rfl, hb⟩
      go_wp2_with fail
      go_ret
      exact ⟨rfl, hb⟩
  exact walk (by omega)

set_option maxRecDepth 100000 in
set_option maxHeartbeats 8000000 in
theorem powers_ok (n : Nat) (k : Int) (w : World) (hn : n ≤ 900) (hk0 : 0 ≤ k) (hk : k ≤ 3) (hT : Tab64 w) :
    Calls Tryd.prog 4 #[.int .i64 n, .int .i64 k] w fun e w' => RetV w (.bool true) e w' := by
  obtain ⟨P, hP⟩ : ∃ P, (2 : Int) ^ n = P := ⟨_, rfl⟩
  obtain ⟨n2, hn2⟩ : ∃ n2, n2 = 2 * n := ⟨_, rfl⟩
  obtain ⟨n1, hn1⟩ : ∃ n1, n1 = n + 1 := ⟨_, rfl⟩
  have hP1 : 1 ≤ P := by have := pow2_pos n; omega
  have hnI : (n : Int) ≤ 900 := by omega
  have h2I : 2 * (n : Int) = (n2 : Int) := by omega
  have h1I : (n : Int) + 1 = (n1 : Int) := by omega
  have hn20 : n2 ≤ 1800 := by omega
  have hkw : IntKind.u64.wrap k = k := by rw [IntKind.wrap_u64]; omega
  have HPP : Hid ((2 : Int) ^ n2 = P * P) := by show _ = _; rw [hn2, show 2 * n = n + n by omega, Int.pow_add, hP]
  have HNB : Hid (nb P = n1) := by show _ = _; rw [← hP, hn1]; exact nb_pow n
  have HNL : Hid (nb (P - 1) = n) := by show _ = _; rw [← hP]; exact nb_pow_pred n
  have HP := Lib.hid hP
  have HT := Lib.hid hT
  clear hP hn2 hn1 hT
  go_enter Tryd.func4, Tryd.ntmps4
  have hbw : Below w.heap.size w w := Below.refl _ _
  go_wp2_with fail
  refine (alive_yes _).mono ?_
  rintro e w1 ⟨rfl, hbN⟩
  replace hbw := hbw.trans (hbN.mono hbw.size)
  clear hbN
  have hT0 := HT.out.below hbw
  go_wp2_with fail
  refine (of1_num 1 _ _ (by decide) (by decide)).mono ?_
  rintro e w2 ⟨aA, nA, cA, rfl, hA, hbN⟩
  replace hA := hA.base hbw.size
  replace hbw := hbw.trans (hbN.mono hbw.size)
  replace hT0 := hT0.below hbN
  clear hbN
  go_wp2_with fail
  refine (shl_num (p := 16) n hA.num (by omega) (by omega) (by decide)).mono ?_
  rintro e w3 ⟨aP, nP, cP, rfl, hP, hbN⟩
  replace hP := hP.base hbw.size
  replace hbw := hbw.trans (hbN.mono hbw.size)
  replace hT0 := hT0.below hbN
  replace hA := hA.below hbN
  clear hbN
  rw [Int.one_mul, HP.out] at hP
  go_wp2_with fail
  refine (of1_num k _ _ (by omega) (by omega)).mono ?_
  rintro e w4 ⟨aK, nK, cK, rfl, hK, hbN⟩
  replace hK := hK.base hbw.size
  replace hbw := hbw.trans (hbN.mono hbw.size)
  replace hT0 := hT0.below hbN
  replace hA := hA.below hbN
  replace hP := hP.below hbN
  clear hbN
  go_wp2_with fail
  refine (add2_num (p := 17) hP.num hK.num (by decide) (by decide) (by decide)).mono ?_
  rintro e w5 ⟨aQ, nQ, cQ, rfl, hQ, hbN⟩
  replace hQ := hQ.base hbw.size
  replace hbw := hbw.trans (hbN.mono hbw.size)
  replace hT0 := hT0.below hbN
  replace hA := hA.below hbN
  replace hP := hP.below hbN
  replace hK := hK.below hbN
  clear hbN
  obtain ⟨Q, hQe⟩ : ∃ Q, P + k = Q := ⟨_, rfl⟩
  rw [hQe] at hQ
  have hQ0 : 0 ≤ Q := by omega
  have HQ := Lib.hid hQe
  clear hQe
  go_wp2_with fail
  refine (of1_num 1 _ _ (by decide) (by decide)).mono ?_
  rintro e w6 ⟨aB, nB, cB, rfl, hB, hbN⟩
  replace hB := hB.base hbw.size
  replace hbw := hbw.trans (hbN.mono hbw.size)
  replace hT0 := hT0.below hbN
  replace hA := hA.below hbN
  replace hP := hP.below hbN
  replace hK := hK.below hbN
  replace hQ := hQ.below hbN
  clear hbN
  go_wp2_with fail
  refine (shl_num (p := 31) n2 hB.num (by omega) (by omega) (by decide)).mono ?_
  rintro e w7 ⟨aD, nD, cD, rfl, hD, hbN⟩
  replace hD := hD.base hbw.size
  replace hbw := hbw.trans (hbN.mono hbw.size)
  replace hT0 := hT0.below hbN
  replace hA := hA.below hbN
  replace hP := hP.below hbN
  replace hK := hK.below hbN
  replace hQ := hQ.below hbN
  replace hB := hB.below hbN
  clear hbN
  rw [Int.one_mul, HPP.out] at hD
  go_wp2_with fail
  refine (sqrt_num _ hD.num (by decide) (Nat.le_refl _)).mono ?_
  rintro e w8 ⟨R, hR, aR, nR, cR, aS, nS, cS, rfl, hRR, hS, hbN⟩
  replace hRR := hRR.base hbw.size
  replace hS := hS.base hbw.size
  replace hbw := hbw.trans (hbN.mono hbw.size)
  replace hT0 := hT0.below hbN
  replace hA := hA.below hbN
  replace hP := hP.below hbN
  replace hK := hK.below hbN
  replace hQ := hQ.below hbN
  replace hB := hB.below hbN
  replace hD := hD.below hbN
  clear hbN
  obtain rfl : R = P := root_unique hR (sq_root (by omega))
  obtain rfl : nS = 0 := hS.len.1.2 (by omega)
  obtain ⟨T, hTe⟩ : ∃ T, T = strOfNums (dec Q) := ⟨_, rfl⟩
  have hQlt : Q < B64 ^ 17 := hQ.num.lt
  have hQten : Q < 10 ^ 400 := by
    have e : B64 ^ 17 < 10 ^ 400 := by decide +kernel
    omega
  have HTX := fun w1 (hx : Num w1 (.slice aQ nQ cQ) Q 17) => text_any hx (by decide) (by decide)
  have HPA := fun w1 => parse_num (w := w1) hQ0 hQlt hQten (by decide)
  rw [← hTe] at HTX HPA
  clear hTe hQten hQlt
  go_wp2_with fail
  refine (HTX _ hQ.num).mono ?_
  rintro e w9 ⟨rfl, hbN⟩
  replace hbw := hbw.trans (hbN.mono hbw.size)
  replace hT0 := hT0.below hbN
  replace hA := hA.below hbN
  replace hP := hP.below hbN
  replace hK := hK.below hbN
  replace hQ := hQ.below hbN
  replace hB := hB.below hbN
  replace hD := hD.below hbN
  replace hRR := hRR.below hbN
  replace hS := hS.below hbN
  clear hbN
  go_wp2_with fail
  refine (HPA _).mono ?_
  rintro e w10 ⟨aT, nT, cT, rfl, hTT, hbN⟩
  replace hTT := hTT.base hbw.size
  replace hbw := hbw.trans (hbN.mono hbw.size)
  replace hT0 := hT0.below hbN
  replace hA := hA.below hbN
  replace hP := hP.below hbN
  replace hK := hK.below hbN
  replace hQ := hQ.below hbN
  replace hB := hB.below hbN
  replace hD := hD.below hbN
  replace hRR := hRR.below hbN
  replace hS := hS.below hbN
  clear hbN
  go_wp2_with fail
  refine (of1_num 1 _ _ (by decide) (by decide)).mono ?_
  rintro e w11 ⟨aC, nC, cC, rfl, hC, hbN⟩
  replace hC := hC.base hbw.size
  replace hbw := hbw.trans (hbN.mono hbw.size)
  replace hT0 := hT0.below hbN
  replace hA := hA.below hbN
  replace hP := hP.below hbN
  replace hK := hK.below hbN
  replace hQ := hQ.below hbN
  replace hB := hB.below hbN
  replace hD := hD.below hbN
  replace hRR := hRR.below hbN
  replace hS := hS.below hbN
  replace hTT := hTT.below hbN
  clear hbN
  go_wp2_with fail
  refine (sub_num hP.num hC.num (by decide) (by omega)).mono ?_
  rintro e w12 ⟨aL, nL, cL, rfl, hL, hbN⟩
  replace hL := hL.base hbw.size
  replace hbw := hbw.trans (hbN.mono hbw.size)
  replace hT0 := hT0.below hbN
  replace hA := hA.below hbN
  replace hP := hP.below hbN
  replace hK := hK.below hbN
  replace hQ := hQ.below hbN
  replace hB := hB.below hbN
  replace hD := hD.below hbN
  replace hRR := hRR.below hbN
  replace hS := hS.below hbN
  replace hTT := hTT.below hbN
  replace hC := hC.below hbN
  clear hbN
  go_wp2_with fail
  refine (bits_num hP.num (by decide)).mono ?_
  rintro e w' ⟨rfl, rfl⟩
  rw [HNB.out]
  go_wp2_with fail
  refine (low_num hP.num (by decide) hT0 (by omega)).mono ?_
  rintro e w' ⟨tl, rfl, hlow, -, rfl⟩
  obtain rfl : tl = n := low_pow (by rw [HP.out]; exact hlow)
  go_wp2_with fail
  refine (cmp_num hRR.num hP.num).mono ?_
  rintro e w13 ⟨rfl, hbN⟩
  replace hbw := hbw.trans (hbN.mono hbw.size)
  replace hT0 := hT0.below hbN
  replace hA := hA.below hbN
  replace hP := hP.below hbN
  replace hK := hK.below hbN
  replace hQ := hQ.below hbN
  replace hB := hB.below hbN
  replace hD := hD.below hbN
  replace hRR := hRR.below hbN
  replace hS := hS.below hbN
  replace hTT := hTT.below hbN
  replace hC := hC.below hbN
  replace hL := hL.below hbN
  clear hbN
  rw [cmpI_eq rfl]
  go_wp2_with fail
  refine (cmp_num hTT.num hQ.num).mono ?_
  rintro e w14 ⟨rfl, hbN⟩
  replace hbw := hbw.trans (hbN.mono hbw.size)
  replace hT0 := hT0.below hbN
  replace hA := hA.below hbN
  replace hP := hP.below hbN
  replace hK := hK.below hbN
  replace hQ := hQ.below hbN
  replace hB := hB.below hbN
  replace hD := hD.below hbN
  replace hRR := hRR.below hbN
  replace hS := hS.below hbN
  replace hTT := hTT.below hbN
  replace hC := hC.below hbN
  replace hL := hL.below hbN
  clear hbN
  rw [cmpI_eq rfl]
  go_wp2_with fail
  refine (bits_num hL.num (by decide)).mono ?_
  rintro e w' ⟨rfl, rfl⟩
  rw [HNL.out]
  go_wp2_with fail
  refine (shr_num tl hP.num (by omega) (by decide)).mono ?_
  rintro e w15 ⟨aU, nU, cU, rfl, hU, hbN⟩
  replace hU := hU.base hbw.size
  replace hbw := hbw.trans (hbN.mono hbw.size)
  replace hT0 := hT0.below hbN
  replace hA := hA.below hbN
  replace hP := hP.below hbN
  replace hK := hK.below hbN
  replace hQ := hQ.below hbN
  replace hB := hB.below hbN
  replace hD := hD.below hbN
  replace hRR := hRR.below hbN
  replace hS := hS.below hbN
  replace hTT := hTT.below hbN
  replace hC := hC.below hbN
  replace hL := hL.below hbN
  clear hbN
  rw [HP.out, Int.ediv_self (by omega)] at hU
  go_wp2_with fail
  refine (of1_num 1 _ _ (by decide) (by decide)).mono ?_
  rintro e w16 ⟨aE, nE, cE, rfl, hE, hbN⟩
  replace hE := hE.base hbw.size
  replace hbw := hbw.trans (hbN.mono hbw.size)
  replace hT0 := hT0.below hbN
  replace hA := hA.below hbN
  replace hP := hP.below hbN
  replace hK := hK.below hbN
  replace hQ := hQ.below hbN
  replace hB := hB.below hbN
  replace hD := hD.below hbN
  replace hRR := hRR.below hbN
  replace hS := hS.below hbN
  replace hTT := hTT.below hbN
  replace hC := hC.below hbN
  replace hL := hL.below hbN
  replace hU := hU.below hbN
  clear hbN
  go_wp2_with fail
  refine (cmp_num hU.num hE.num).mono ?_
  rintro e w17 ⟨rfl, hbN⟩
  replace hbw := hbw.trans (hbN.mono hbw.size)
  replace hT0 := hT0.below hbN
  replace hA := hA.below hbN
  replace hP := hP.below hbN
  replace hK := hK.below hbN
  replace hQ := hQ.below hbN
  replace hB := hB.below hbN
  replace hD := hD.below hbN
  replace hRR := hRR.below hbN
  replace hS := hS.below hbN
  replace hTT := hTT.below hbN
  replace hC := hC.below hbN
  replace hL := hL.below hbN
  replace hU := hU.below hbN
  replace hE := hE.below hbN
  clear hbN
  rw [cmpI_eq rfl]
  go_wp2_with fail
  refine (shr_num tl hL.num (by omega) (by decide)).mono ?_
  rintro e w18 ⟨aV, nV, cV, rfl, hV, hbN⟩
  replace hV := hV.base hbw.size
  replace hbw := hbw.trans (hbN.mono hbw.size)
  replace hT0 := hT0.below hbN
  replace hA := hA.below hbN
  replace hP := hP.below hbN
  replace hK := hK.below hbN
  replace hQ := hQ.below hbN
  replace hB := hB.below hbN
  replace hD := hD.below hbN
  replace hRR := hRR.below hbN
  replace hS := hS.below hbN
  replace hTT := hTT.below hbN
  replace hC := hC.below hbN
  replace hL := hL.below hbN
  replace hU := hU.below hbN
  replace hE := hE.below hbN
  clear hbN
  rw [HP.out, Int.ediv_eq_zero_of_lt (show 0 ≤ R - 1 by omega) (by omega)] at hV
  obtain rfl : nV = 0 := hV.len.1.2 rfl
  go_wp2_with fail
  refine (shl_neg_num tl hL.num (by omega) (by decide)).mono ?_
  rintro e w19 ⟨aX, nX, cX, rfl, hX, hbN⟩
  replace hX := hX.base hbw.size
  replace hbw := hbw.trans (hbN.mono hbw.size)
  replace hT0 := hT0.below hbN
  replace hA := hA.below hbN
  replace hP := hP.below hbN
  replace hK := hK.below hbN
  replace hQ := hQ.below hbN
  replace hB := hB.below hbN
  replace hD := hD.below hbN
  replace hRR := hRR.below hbN
  replace hS := hS.below hbN
  replace hTT := hTT.below hbN
  replace hC := hC.below hbN
  replace hL := hL.below hbN
  replace hU := hU.below hbN
  replace hE := hE.below hbN
  replace hV := hV.below hbN
  clear hbN
  rw [HP.out, Int.ediv_eq_zero_of_lt (show 0 ≤ R - 1 by omega) (by omega)] at hX
  go_wp2_with fail
  refine (shr_num tl hL.num (by omega) (by decide)).mono ?_
  rintro e w20 ⟨aY, nY, cY, rfl, hY, hbN⟩
  replace hY := hY.base hbw.size
  replace hbw := hbw.trans (hbN.mono hbw.size)
  replace hT0 := hT0.below hbN
  replace hA := hA.below hbN
  replace hP := hP.below hbN
  replace hK := hK.below hbN
  replace hQ := hQ.below hbN
  replace hB := hB.below hbN
  replace hD := hD.below hbN
  replace hRR := hRR.below hbN
  replace hS := hS.below hbN
  replace hTT := hTT.below hbN
  replace hC := hC.below hbN
  replace hL := hL.below hbN
  replace hU := hU.below hbN
  replace hE := hE.below hbN
  replace hV := hV.below hbN
  replace hX := hX.below hbN
  clear hbN
  rw [HP.out, Int.ediv_eq_zero_of_lt (show 0 ≤ R - 1 by omega) (by omega)] at hY
  go_wp2_with fail
  refine (cmp_num hX.num hY.num).mono ?_
  rintro e w21 ⟨rfl, hbN⟩
  replace hbw := hbw.trans (hbN.mono hbw.size)
  replace hT0 := hT0.below hbN
  replace hA := hA.below hbN
  replace hP := hP.below hbN
  replace hK := hK.below hbN
  replace hQ := hQ.below hbN
  replace hB := hB.below hbN
  replace hD := hD.below hbN
  replace hRR := hRR.below hbN
  replace hS := hS.below hbN
  replace hTT := hTT.below hbN
  replace hC := hC.below hbN
  replace hL := hL.below hbN
  replace hU := hU.below hbN
  replace hE := hE.below hbN
  replace hV := hV.below hbN
  replace hX := hX.below hbN
  replace hY := hY.below hbN
  clear hbN
  rw [cmpI_eq rfl]
  go_wp2_with fail
  go_ret
  exact ⟨rfl, hbw⟩
end Go.Proofs.YtfhknnmffppfgaaDoor
