/-
  Contract of nat.Sqrt for numbers of at most 140 words: the root and what is left.
-/
import Derived.Test.YtbieldebkfkpkaaDoorNum2
namespace Go.Proofs.YtbieldebkfkpkaaDoor
open Go.RowKit

theorem root_id1 {N H M1 M0 t r q u P : Int} (hN : N = (H * P + M1) * P + M0) (hr : r = H - t * t) (he : 2 * t * q + u = r * P + M1) : N = (t * P + q) * (t * P + q) + (u * P + M0) - q * q := by grind
theorem root_id2 {N R rest Q : Int} (h : N = R * R + rest - Q) : rest + R + (R - 1) - Q = N - (R - 1) * (R - 1) := by grind

/-- The top half's root is not small. -/
theorem root_big {H t p : Int} (hp : 1 ≤ p) (hH : 2 * (p * p) ≤ H) (h : IsRoot H t) : p ≤ t := by
  obtain ⟨h1, h2, h3⟩ := h
  rcases Int.lt_or_le t p with a | a
  · have h4 : (t + 1) * (t + 1) ≤ p * p := Int.mul_le_mul (by omega) (by omega) (by omega) (by omega)
    have h5 : 1 * 1 ≤ p * p := Int.mul_le_mul hp hp (by omega) (by omega)
    omega
  · exact a

/-- The root's upper half, its rest, and the quotient: the root, or one more. -/
theorem root_step {N H M1 M0 t q u P R rest : Int} (hP : 1 ≤ P) (hN : N = (H * P + M1) * P + M0) (h10 : 0 ≤ M1) (h11 : M1 < P) (h00 : 0 ≤ M0) (h01 : M0 < P) (ht : IsRoot H t) (hT : P ≤ 2 * t)
    (hq : q = ((H - t * t) * P + M1) / (2 * t)) (hu : u = ((H - t * t) * P + M1) % (2 * t)) (hR : R = t * P + q) (hrest : rest = u * P + M0) :
    0 ≤ q ∧ 0 ≤ u ∧ q ≤ P ∧ (q * q ≤ rest → IsRoot N R ∧ rest - q * q = N - R * R) ∧ (rest < q * q → 1 ≤ R ∧ IsRoot N (R - 1) ∧ rest + R + (R - 1) - q * q = N - (R - 1) * (R - 1)) := by
  obtain ⟨t0, t1, t2⟩ := ht
  obtain ⟨r, hr⟩ : ∃ r, r = H - t * t := ⟨_, rfl⟩
  rw [← hr] at hq hu
  have hr0 : 0 ≤ r := by omega
  have hr2 : r ≤ 2 * t := by
    have e : (t + 1) * (t + 1) = t * t + 2 * t + 1 := by grind
    omega
  have hrP : 0 ≤ r * P := Int.mul_nonneg hr0 (by omega)
  have hrP2 : r * P ≤ 2 * t * P := Int.mul_le_mul_of_nonneg_right hr2 (by omega)
  have htt : 0 < 2 * t := by omega
  have hq0 : 0 ≤ q := by rw [hq]; exact Int.ediv_nonneg (by omega) (by omega)
  have hu0 : 0 ≤ u := by rw [hu]; exact Int.emod_nonneg _ (by omega)
  have hu1 : u < 2 * t := by rw [hu]; exact Int.emod_lt_of_pos _ htt
  have hqP : q ≤ P := by
    have h1 : q < P + 1 := by
      rw [hq]
      refine Int.ediv_lt_of_lt_mul htt ?_
      have e : (P + 1) * (2 * t) = 2 * t * P + 2 * t := by grind
      omega
    omega
  have he : 2 * t * q + u = r * P + M1 := by rw [hq, hu]; exact Int.mul_ediv_add_emod _ _
  have hid := root_id1 hN hr he
  rw [← hR, ← hrest] at hid
  have hrest0 : 0 ≤ rest := by
    have := Int.mul_nonneg hu0 (show 0 ≤ P by omega)
    omega
  have hrest1 : rest < 2 * t * P := by
    have h1 : (u + 1) * P ≤ 2 * t * P := Int.mul_le_mul_of_nonneg_right (by omega) (by omega)
    have e : (u + 1) * P = u * P + P := by grind
    omega
  have htP : 0 ≤ t * P := Int.mul_nonneg t0 (by omega)
  have e2 : 2 * t * P = 2 * (t * P) := by grind
  have hR0 : 0 ≤ R := by omega
  have hqq : 0 ≤ q * q := Int.mul_nonneg hq0 hq0
  refine ⟨hq0, hu0, hqP, fun h => ⟨⟨hR0, by omega, ?_⟩, by omega⟩, fun h => ?_⟩
  · have e : (R + 1) * (R + 1) = R * R + 2 * R + 1 := by grind
    omega
  · have hq1 : 1 ≤ q := by
      rcases Int.lt_or_le q 1 with a | a
      · have e : q = 0 := by omega
        subst e; omega
      · exact a
    have hPP : q * q ≤ P * P := Int.mul_le_mul hqP hqP hq0 (by omega)
    have hPP2 : P * P ≤ 2 * t * P := Int.mul_le_mul_of_nonneg_right hT (by omega)
    have h3 := root_id2 hid
    refine ⟨by omega, ⟨by omega, by omega, ?_⟩, h3⟩
    have e : (R - 1 + 1) * (R - 1 + 1) = R * R := by grind
    omega

theorem NewN.tight {base : Nat} {w : World} {v : Value} {N : Int} {m k : Nat} (h : NewN base w v N m) (hk : N < B64 ^ k) : NewN base w v N k := by
  obtain ⟨l, h1, h2, h3, h4⟩ := h
  exact h1.newn h2 h3 hk

/-- What nat.Sqrt leaves. -/
def RetSq (w : World) (N : Int) (m : Nat) (e : Ending) (w' : World) : Prop := ∃ R, IsRoot N R ∧ RetN2 w R (N - R * R) m m e w'

theorem sq_le {N R : Int} (h : IsRoot N R) : R ≤ N := by
  obtain ⟨h0, h1, h2⟩ := h
  rcases Int.lt_or_le 0 R with a | a
  · have := Int.mul_le_mul_of_nonneg_left (show 1 ≤ R by omega) h0
    omega
  · have : 0 ≤ R * R := Int.mul_nonneg h0 h0
    omega

theorem sqrt_less {w : World} {u : Value} {N : Int} {m : Nat} (h : Num w u N m) (hm : m ≤ 140) (hs : nb N ≤ 64) : Calls Tryd.prog 13 #[u] w fun e w' => RetSq w N m e w' := by
  have hlt := h.lt
  have hn0 := h.nonneg
  have h64 : N < 18446744073709551616 := by
    rcases Int.lt_or_le 0 N with a | a
    · have h1 := (nb_spec a).2.1
      have h2 : (2:Int) ^ nb N ≤ 2 ^ 64 := pow_le_pow (by decide) hs
      have h3 : (2:Int) ^ 64 = 18446744073709551616 := by decide
      omega
    · omega
  obtain ⟨a, n, c, l, rfl, h1, h2, h3, h4, h5, rfl, h7⟩ := h.open
  refine (sqrt_small a n c l w h1 h2 h3 h4 h5 (by unfold MaxW; omega) h64).mono ?_
  rintro e w' ⟨R, hR, v1, l1, v2, l2, rfl, q1, q2, q3, r1, r2, r3, hb⟩
  obtain ⟨aq, nq, cq, rfl⟩ := q1.slice
  obtain ⟨ar, nr, cr, rfl⟩ := r1.slice
  have hle := sq_le hR
  have hRR : 0 ≤ R * R := Int.mul_nonneg hR.1 hR.1
  exact ⟨R, hR, aq, nq, cq, ar, nr, cr, rfl, q1.newn q2 q3 (by omega), r1.newn r2 r3 (by omega), hb⟩

theorem two_pow_sum {a b : Nat} : (2 : Int) ^ (a + b) = 2 ^ a * 2 ^ b := Int.pow_add ..

/-- nat.Sub of 1. -/
theorem sub_lit {w : World} {u : Value} {A : Int} {m : Nat} {t : TypeId} (h : Num w u A m) (h1 : 1 ≤ A) (hm : m ≤ 100000) :
    Calls Tryd.prog 64 #[u, .slice (some ⟨w.heap.size, 0, none⟩) 1 1] (w.alloc (.cells #[.int .u64 1] t)) fun e w' => RetSN w (A - 1) m e w' := by
  have hl : Lim B64 [1] := Lim.cons (by decide) (by decide) (Lim.nil _)
  have hn : Num (w.alloc (.cells #[.int .u64 1] t)) (.slice (some ⟨w.heap.size, 0, none⟩) 1 1) 1 1 := ⟨[1], ⟨_, 1, rfl, Nat.le_refl _, by decide, at_new w 1 t, hl⟩, by rw [vb_one], Nat.le_refl _⟩
  refine (sub_num (h.below (below_alloc w _)) hn hm h1).mono ?_
  rintro e w' ⟨a, n, c, rfl, hN, hb⟩
  exact ⟨a, n, c, rfl, hN.base (by simp), (below_alloc w _).trans (hb.mono (by simp))⟩

set_option maxRecDepth 100000 in
set_option maxHeartbeats 4000000 in
theorem sqrt_num : ∀ (s : Nat) {w : World} {u : Value} {N : Int} {m : Nat}, Num w u N m → m ≤ 140 → nb N ≤ s → Calls Tryd.prog 13 #[u] w fun e w' => RetSq w N m e w' := by
  intro s
  induction s using Nat.strongRecOn with
  | _ s ih =>
  intro w u N m hA hm hs
  by_cases hsm : nb N ≤ 64
  · exact sqrt_less hA hm hsm
  · obtain ⟨t, ht⟩ : ∃ t, nb N = t := ⟨_, rfl⟩
    rw [ht] at hs hsm
    have hN0 := hA.nonneg
    have hlt := hA.lt
    have hNp : 0 < N := by
      rcases Int.lt_or_le 0 N with a | a
      · exact a
      · have e : N = 0 := by omega
        rw [e, nb_zero] at ht; omega
    obtain ⟨b1, b2, _⟩ := nb_spec hNp
    rw [ht] at b1 b2
    have htm : t ≤ 64 * m := by
      rw [← ht]
      refine nb_le ?_
      rw [show (2:Int) ^ (64 * m) = B64 ^ m by rw [Int.pow_mul]; rfl]
      exact hlt
    obtain ⟨k, hk⟩ : ∃ k, k = t / 4 := ⟨_, rfl⟩
    obtain ⟨k2, hk2⟩ : ∃ k2, k2 = 2 * k := ⟨_, rfl⟩
    have hkI : ((t : Int)).tdiv 4 = (k : Int) := by rw [Int.tdiv_eq_ediv_of_nonneg (by omega)]; omega
    have hk2I : 2 * (k : Int) = (k2 : Int) := by omega
    have hk16 : 16 ≤ k := by omega
    have hkM : k ≤ 2240 := by omega
    have htI : ¬ (t : Int) ≤ 64 := by omega
    obtain ⟨P, hP⟩ : ∃ P, 2 ^ k = (P : Int) := ⟨_, rfl⟩
    obtain ⟨p, hp⟩ : ∃ p, 2 ^ (k - 1) = (p : Int) := ⟨_, rfl⟩
    have hp1 : 1 ≤ p := by have := pow2_pos (k - 1); omega
    have hPp : P = 2 * p := by rw [← hP, ← hp, show k = k - 1 + 1 by omega, Int.pow_succ, Nat.add_sub_cancel]; omega
    have hPP : (2:Int) ^ k2 = P * P := by rw [hk2, show 2 * k = k + k by omega, Int.pow_add, hP]
    obtain ⟨H, hH⟩ : ∃ H, N / 2 ^ k2 = H := ⟨_, rfl⟩
    obtain ⟨D, hD⟩ : ∃ D, N / 2 ^ k = D := ⟨_, rfl⟩
    obtain ⟨M1, hM1⟩ : ∃ M1, D % 2 ^ k = M1 := ⟨_, rfl⟩
    obtain ⟨M0, hM0⟩ : ∃ M0, N % 2 ^ k = M0 := ⟨_, rfl⟩
    have hP1 : 1 ≤ P := by omega
    have hHD : D / P = H := by rw [← hD, hP, Int.ediv_ediv_of_nonneg (by omega), ← hPP, hH]
    have hN : N = (H * P + M1) * P + M0 := by
      have e1 := Int.mul_ediv_add_emod N P
      have e2 := Int.mul_ediv_add_emod D P
      rw [← hP, hD, hM0, hP] at e1
      rw [hHD, ← hP, hM1, hP] at e2
      rw [← e1, ← e2, Int.mul_comm P H, Int.mul_comm P]
    have h10 : 0 ≤ M1 := by rw [← hM1, hP]; exact Int.emod_nonneg _ (by omega)
    have h11 : M1 < P := by rw [← hM1, hP]; exact Int.emod_lt_of_pos _ (by omega)
    have h00 : 0 ≤ M0 := by rw [← hM0, hP]; exact Int.emod_nonneg _ (by omega)
    have h01 : M0 < P := by rw [← hM0, hP]; exact Int.emod_lt_of_pos _ (by omega)
    have hHbig : 2 * (p * p) ≤ H := by
      rw [← hH]
      refine Int.le_ediv_of_mul_le (pow2_pos k2) ?_
      refine Int.le_trans ?_ b1
      rw [← hp, ← Int.pow_add, Int.mul_comm 2, ← Int.pow_succ, ← Int.pow_add]
      exact pow_le_pow (by decide) (by omega)
    have hHs : nb H < s := by
      have h1 : nb H ≤ t - k2 := by
        refine nb_le ?_
        rw [← hH]
        refine Int.ediv_lt_of_lt_mul (pow2_pos k2) ?_
        rw [← Int.pow_add, show t - k2 + k2 = t by omega]
        exact b2
      omega
    have HIH := fun (w1 : World) (v : Value) (hv : Num w1 v H m) => ih (nb H) hHs hv hm (Nat.le_refl _)
    have HB := Lib.hid (bits_num (m := m) hA (by omega))
    rw [ht] at HB
    have HT := Lib.hid hlt
    have HNN := Lib.hid hN
    have HH := Lib.hid hH
    have HD := Lib.hid hD
    have HM1 := Lib.hid hM1
    have HM0 := Lib.hid hM0
    have HP := Lib.hid hP
    have HBIG := Lib.hid hHbig
    have HPP := Lib.hid hPp
    have hbw : Below w.heap.size w w := Below.refl _ _
    clear ih ht hlt hN hH hD hM1 hM0 hP hHbig hPp hp hPP hHD hk hk2 b1 b2 hHs hs hsm htm
    go_enter Tryd.func13, Tryd.ntmps13
    go_wp2_with fail
    refine (HB.out).mono ?_
    rintro e w' ⟨rfl, rfl⟩
    go_wp2_with fail
    refine (shiftDown_num k2 hA (by omega) (by omega)).mono ?_
    rintro e w1 ⟨aH, nH, cH, rfl, hH, hbN⟩
    replace hH := hH.base hbw.size
    replace hbw := hbw.trans (hbN.mono hbw.size)
    replace hA := hA.below hbN
    clear hbN
    replace hH := hH.eq HH.out
    go_wp2_with fail
    refine (HIH _ _ hH.num).mono ?_
    rintro e w2 ⟨T, hRT, aT, nT, cT, aR, nR, cR, rfl, hT, hR, hbN⟩
    replace hT := hT.base hbw.size
    replace hR := hR.base hbw.size
    replace hbw := hbw.trans (hbN.mono hbw.size)
    replace hA := hA.below hbN
    replace hH := hH.below hbN
    clear hbN
    go_wp2_with fail
    refine (shiftUp_num (p := m + 36) k hR.num (by omega) (by omega) (by omega)).mono ?_
    rintro e w3 ⟨aS, nS, cS, rfl, hS, hbN⟩
    replace hS := hS.base hbw.size
    replace hbw := hbw.trans (hbN.mono hbw.size)
    replace hA := hA.below hbN
    replace hH := hH.below hbN
    replace hT := hT.below hbN
    replace hR := hR.below hbN
    clear hbN
    rw [HP.out] at hS
    go_wp2_with fail
    refine (shiftDown_num k hA (by omega) (by omega)).mono ?_
    rintro e w4 ⟨aD, nD, cD, rfl, hD, hbN⟩
    replace hD := hD.base hbw.size
    replace hbw := hbw.trans (hbN.mono hbw.size)
    replace hA := hA.below hbN
    replace hH := hH.below hbN
    replace hT := hT.below hbN
    replace hR := hR.below hbN
    replace hS := hS.below hbN
    clear hbN
    replace hD := hD.eq HD.out
    go_wp2_with fail
    refine (lowBits_num k hD.num (by omega) (by omega)).mono ?_
    rintro e w5 ⟨aL, nL, cL, rfl, hL, hbN⟩
    replace hL := hL.base hbw.size
    replace hbw := hbw.trans (hbN.mono hbw.size)
    replace hA := hA.below hbN
    replace hH := hH.below hbN
    replace hT := hT.below hbN
    replace hR := hR.below hbN
    replace hS := hS.below hbN
    replace hD := hD.below hbN
    clear hbN
    replace hL := hL.eq HM1.out
    have hTP : P ≤ 2 * T := by
      have h1 := root_big hp1 HBIG.out hRT
      have h2 := HPP.out
      omega
    have hT0 : 2 * T ≠ 0 := by omega
    go_wp2_with fail
    refine (add2_num (p := m + 40) hS.num hL.num (by omega) (by omega) (by omega)).mono ?_
    rintro e w6 ⟨aE, nE, cE, rfl, hE, hbN⟩
    replace hE := hE.base hbw.size
    replace hbw := hbw.trans (hbN.mono hbw.size)
    replace hA := hA.below hbN
    replace hH := hH.below hbN
    replace hT := hT.below hbN
    replace hR := hR.below hbN
    replace hS := hS.below hbN
    replace hD := hD.below hbN
    replace hL := hL.below hbN
    clear hbN
    obtain ⟨q, hq⟩ : ∃ q, ((H - T * T) * P + M1) / (2 * T) = q := ⟨_, rfl⟩
    obtain ⟨y, hy⟩ : ∃ y, ((H - T * T) * P + M1) % (2 * T) = y := ⟨_, rfl⟩
    obtain ⟨R0, hR0⟩ : ∃ R0, T * P + q = R0 := ⟨_, rfl⟩
    obtain ⟨Z, hZ⟩ : ∃ Z, y * P + M0 = Z := ⟨_, rfl⟩
    have hstep := root_step hP1 HNN.out h10 h11 h00 h01 hRT hTP hq.symm hy.symm hR0.symm hZ.symm
    have hE2 : (H - T * T) * P + M1 < B64 ^ m := by
      have h1 := HNN.out
      have h2 := HT.out
      have h3 : (H - T * T) * P ≤ H * P := Int.mul_le_mul_of_nonneg_right (by have := Int.mul_nonneg hRT.1 hRT.1; omega) (by omega)
      have h4 : (H * P + M1) * 1 ≤ (H * P + M1) * P := Int.mul_le_mul_of_nonneg_left hP1 (by have := hRT.2.1; have h5 := Int.mul_nonneg hRT.1 hRT.1; have h6 := Int.mul_nonneg (show 0 ≤ H by omega) (show 0 ≤ P by omega); omega)
      omega
    replace hE := hE.tight hE2
    have HQ := Lib.hid hq
    have HY := Lib.hid hy
    have HR0 := Lib.hid hR0
    have HZ := Lib.hid hZ
    clear hq hy hR0 hZ hE2
    go_wp2_with fail
    refine (shiftUp_num (p := m + 1) 1 hT.num (by omega) (by omega) (by omega)).mono ?_
    rintro e w7 ⟨aU, nU, cU, rfl, hU, hbN⟩
    replace hU := hU.base hbw.size
    replace hbw := hbw.trans (hbN.mono hbw.size)
    replace hA := hA.below hbN
    replace hH := hH.below hbN
    replace hT := hT.below hbN
    replace hR := hR.below hbN
    replace hS := hS.below hbN
    replace hD := hD.below hbN
    replace hL := hL.below hbN
    replace hE := hE.below hbN
    clear hbN
    replace hU := hU.eq (show T * 2 ^ 1 = 2 * T by omega)
    go_wp2_with fail
    refine (dm_num hE.num hU.num (by omega) (by omega) hT0).mono ?_
    rintro e w8 ⟨aQ, nQ, cQ, aY, nY, cY, rfl, hQ, hY, -, hbN⟩
    replace hQ := hQ.base hbw.size
    replace hY := hY.base hbw.size
    replace hbw := hbw.trans (hbN.mono hbw.size)
    replace hA := hA.below hbN
    replace hH := hH.below hbN
    replace hT := hT.below hbN
    replace hR := hR.below hbN
    replace hS := hS.below hbN
    replace hD := hD.below hbN
    replace hL := hL.below hbN
    replace hE := hE.below hbN
    replace hU := hU.below hbN
    clear hbN
    replace hQ := hQ.eq HQ.out
    replace hY := hY.eq HY.out
    go_wp2_with fail
    refine (shiftUp_num (p := m + 36) k hT.num (by omega) (by omega) (by omega)).mono ?_
    rintro e w9 ⟨aV, nV, cV, rfl, hV, hbN⟩
    replace hV := hV.base hbw.size
    replace hbw := hbw.trans (hbN.mono hbw.size)
    replace hA := hA.below hbN
    replace hH := hH.below hbN
    replace hT := hT.below hbN
    replace hR := hR.below hbN
    replace hS := hS.below hbN
    replace hD := hD.below hbN
    replace hL := hL.below hbN
    replace hE := hE.below hbN
    replace hU := hU.below hbN
    replace hQ := hQ.below hbN
    replace hY := hY.below hbN
    clear hbN
    rw [HP.out] at hV
    go_wp2_with fail
    refine (add2_num (p := m + 40) hV.num hQ.num (by omega) (by omega) (by omega)).mono ?_
    rintro e w10 ⟨aX, nX, cX, rfl, hX, hbN⟩
    replace hX := hX.base hbw.size
    replace hbw := hbw.trans (hbN.mono hbw.size)
    replace hA := hA.below hbN
    replace hH := hH.below hbN
    replace hT := hT.below hbN
    replace hR := hR.below hbN
    replace hS := hS.below hbN
    replace hD := hD.below hbN
    replace hL := hL.below hbN
    replace hE := hE.below hbN
    replace hU := hU.below hbN
    replace hQ := hQ.below hbN
    replace hY := hY.below hbN
    replace hV := hV.below hbN
    clear hbN
    replace hX := hX.eq HR0.out
    go_wp2_with fail
    refine (shiftUp_num (p := m + 40) k hY.num (by omega) (by omega) (by omega)).mono ?_
    rintro e w11 ⟨aG, nG, cG, rfl, hG, hbN⟩
    replace hG := hG.base hbw.size
    replace hbw := hbw.trans (hbN.mono hbw.size)
    replace hA := hA.below hbN
    replace hH := hH.below hbN
    replace hT := hT.below hbN
    replace hR := hR.below hbN
    replace hS := hS.below hbN
    replace hD := hD.below hbN
    replace hL := hL.below hbN
    replace hE := hE.below hbN
    replace hU := hU.below hbN
    replace hQ := hQ.below hbN
    replace hY := hY.below hbN
    replace hV := hV.below hbN
    replace hX := hX.below hbN
    clear hbN
    rw [HP.out] at hG
    go_wp2_with fail
    refine (lowBits_num k hA (by omega) (by omega)).mono ?_
    rintro e w12 ⟨aJ, nJ, cJ, rfl, hJ, hbN⟩
    replace hJ := hJ.base hbw.size
    replace hbw := hbw.trans (hbN.mono hbw.size)
    replace hA := hA.below hbN
    replace hH := hH.below hbN
    replace hT := hT.below hbN
    replace hR := hR.below hbN
    replace hS := hS.below hbN
    replace hD := hD.below hbN
    replace hL := hL.below hbN
    replace hE := hE.below hbN
    replace hU := hU.below hbN
    replace hQ := hQ.below hbN
    replace hY := hY.below hbN
    replace hV := hV.below hbN
    replace hX := hX.below hbN
    replace hG := hG.below hbN
    clear hbN
    replace hJ := hJ.eq HM0.out
    go_wp2_with fail
    refine (add2_num (p := m + 50) hG.num hJ.num (by omega) (by omega) (by omega)).mono ?_
    rintro e w13 ⟨aZ, nZ, cZ, rfl, hZ, hbN⟩
    replace hZ := hZ.base hbw.size
    replace hbw := hbw.trans (hbN.mono hbw.size)
    replace hA := hA.below hbN
    replace hH := hH.below hbN
    replace hT := hT.below hbN
    replace hR := hR.below hbN
    replace hS := hS.below hbN
    replace hD := hD.below hbN
    replace hL := hL.below hbN
    replace hE := hE.below hbN
    replace hU := hU.below hbN
    replace hQ := hQ.below hbN
    replace hY := hY.below hbN
    replace hV := hV.below hbN
    replace hX := hX.below hbN
    replace hG := hG.below hbN
    replace hJ := hJ.below hbN
    clear hbN
    replace hZ := hZ.eq HZ.out
    go_wp2_with fail
    refine (mul_num 40 hQ.num hQ.num (p := 2 * m) (by omega) (by omega) (by decide)).mono ?_
    rintro e w14 ⟨aK, nK, cK, rfl, hK, hbN⟩
    replace hK := hK.base hbw.size
    replace hbw := hbw.trans (hbN.mono hbw.size)
    replace hA := hA.below hbN
    replace hH := hH.below hbN
    replace hT := hT.below hbN
    replace hR := hR.below hbN
    replace hS := hS.below hbN
    replace hD := hD.below hbN
    replace hL := hL.below hbN
    replace hE := hE.below hbN
    replace hU := hU.below hbN
    replace hQ := hQ.below hbN
    replace hY := hY.below hbN
    replace hV := hV.below hbN
    replace hX := hX.below hbN
    replace hG := hG.below hbN
    replace hJ := hJ.below hbN
    replace hZ := hZ.below hbN
    clear hbN
    go_wp2_with fail
    refine (cmp_num hZ.num hK.num).mono ?_
    rintro e w15 ⟨rfl, hbN⟩
    replace hbw := hbw.trans (hbN.mono hbw.size)
    replace hA := hA.below hbN
    replace hH := hH.below hbN
    replace hT := hT.below hbN
    replace hR := hR.below hbN
    replace hS := hS.below hbN
    replace hD := hD.below hbN
    replace hL := hL.below hbN
    replace hE := hE.below hbN
    replace hU := hU.below hbN
    replace hQ := hQ.below hbN
    replace hY := hY.below hbN
    replace hV := hV.below hbN
    replace hX := hX.below hbN
    replace hG := hG.below hbN
    replace hJ := hJ.below hbN
    replace hZ := hZ.below hbN
    replace hK := hK.below hbN
    clear hbN
    rcases Int.lt_or_le Z (q * q) with hlt | hle
    · obtain ⟨hR01, hroot, hval⟩ := hstep.2.2.2.2 hlt
      rw [cmpI_lt hlt]
      go_wp2_with fail
      refine (sub_lit hX.num hR01 (by omega)).mono ?_
      rintro e w16 ⟨aF, nF, cF, rfl, hF, hbN⟩
      replace hF := hF.base hbw.size
      replace hbw := hbw.trans (hbN.mono hbw.size)
      replace hA := hA.below hbN
      replace hH := hH.below hbN
      replace hT := hT.below hbN
      replace hR := hR.below hbN
      replace hS := hS.below hbN
      replace hD := hD.below hbN
      replace hL := hL.below hbN
      replace hE := hE.below hbN
      replace hU := hU.below hbN
      replace hQ := hQ.below hbN
      replace hY := hY.below hbN
      replace hV := hV.below hbN
      replace hX := hX.below hbN
      replace hG := hG.below hbN
      replace hJ := hJ.below hbN
      replace hZ := hZ.below hbN
      replace hK := hK.below hbN
      clear hbN
      go_wp2_with fail
      refine (add3_num (p := 2 * m + 60) hZ.num hX.num hF.num (by omega) (by omega) (by omega) (by omega)).mono ?_
      rintro e w17 ⟨aO, nO, cO, rfl, hO, hbN⟩
      replace hO := hO.base hbw.size
      replace hbw := hbw.trans (hbN.mono hbw.size)
      replace hA := hA.below hbN
      replace hH := hH.below hbN
      replace hT := hT.below hbN
      replace hR := hR.below hbN
      replace hS := hS.below hbN
      replace hD := hD.below hbN
      replace hL := hL.below hbN
      replace hE := hE.below hbN
      replace hU := hU.below hbN
      replace hQ := hQ.below hbN
      replace hY := hY.below hbN
      replace hV := hV.below hbN
      replace hX := hX.below hbN
      replace hG := hG.below hbN
      replace hJ := hJ.below hbN
      replace hZ := hZ.below hbN
      replace hK := hK.below hbN
      replace hF := hF.below hbN
      clear hbN
      go_wp2_with fail
      refine (sub_num hO.num hK.num (by omega) (by have h1 := hroot.2.1; omega)).mono ?_
      rintro e w18 ⟨aC, nC, cC, rfl, hC, hbN⟩
      replace hC := hC.base hbw.size
      replace hbw := hbw.trans (hbN.mono hbw.size)
      replace hA := hA.below hbN
      replace hH := hH.below hbN
      replace hT := hT.below hbN
      replace hR := hR.below hbN
      replace hS := hS.below hbN
      replace hD := hD.below hbN
      replace hL := hL.below hbN
      replace hE := hE.below hbN
      replace hU := hU.below hbN
      replace hQ := hQ.below hbN
      replace hY := hY.below hbN
      replace hV := hV.below hbN
      replace hX := hX.below hbN
      replace hG := hG.below hbN
      replace hJ := hJ.below hbN
      replace hZ := hZ.below hbN
      replace hK := hK.below hbN
      replace hF := hF.below hbN
      replace hO := hO.below hbN
      clear hbN
      go_wp2_with fail
      go_ret2
      have hlt := HT.out
      have h1 := sq_le hroot
      have h2 := Int.mul_nonneg hroot.1 hroot.1
      exact ⟨R0 - 1, hroot, _, _, _, _, _, _, rfl, hF.tight (by omega), (hC.eq hval).tight (by omega), hbw⟩
    · have hcs : ¬ cmpI Z (q * q) < 0 := by
        rcases Int.lt_or_eq_of_le hle with h | h
        · rw [cmpI_gt h]; decide
        · rw [cmpI_eq h.symm]; decide
      obtain ⟨cc, hcc⟩ : ∃ cc, cc = cmpI Z (q * q) := ⟨_, rfl⟩
      rw [← hcc] at hcs ⊢
      clear hcc
      go_wp2_with fail
      refine (sub_num hZ.num hK.num (by omega) hle).mono ?_
      rintro e w16 ⟨aF, nF, cF, rfl, hF, hbN⟩
      replace hF := hF.base hbw.size
      replace hbw := hbw.trans (hbN.mono hbw.size)
      replace hA := hA.below hbN
      replace hH := hH.below hbN
      replace hT := hT.below hbN
      replace hR := hR.below hbN
      replace hS := hS.below hbN
      replace hD := hD.below hbN
      replace hL := hL.below hbN
      replace hE := hE.below hbN
      replace hU := hU.below hbN
      replace hQ := hQ.below hbN
      replace hY := hY.below hbN
      replace hV := hV.below hbN
      replace hX := hX.below hbN
      replace hG := hG.below hbN
      replace hJ := hJ.below hbN
      replace hZ := hZ.below hbN
      replace hK := hK.below hbN
      clear hbN
      go_wp2_with fail
      go_ret2
      obtain ⟨hroot, hval⟩ := hstep.2.2.2.1 hle
      have hlt := HT.out
      have h1 := sq_le hroot
      have h2 := Int.mul_nonneg hroot.1 hroot.1
      exact ⟨R0, hroot, _, _, _, _, _, _, rfl, hX.tight (by omega), (hF.eq hval).tight (by omega), hbw⟩
end Go.Proofs.YtbieldebkfkpkaaDoor
