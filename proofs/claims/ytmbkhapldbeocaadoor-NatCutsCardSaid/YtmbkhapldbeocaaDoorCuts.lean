/-
  The walk of the statement NatCuts.
-/
import Derived.Test.YtmbkhapldbeocaaDoorAlive
import Derived.Test.YtmbkhapldbeocaaDoorMul
namespace Go.Proofs.YtmbkhapldbeocaaDoor
open Go.RowKit

/-- 'Light' of three lists. -/
theorem light_three (a1 a2 a3 : Option Addr) (n1 n2 n3 c1 c2 c3 : Nat) (t : TypeId) (w : World) (h1 : n1 ≤ 9223372036854775807) (h2 : n2 ≤ 9223372036854775807) (h3 : n3 ≤ 9223372036854775807) :
    Calls Tryd.prog 10 #[.slice (some ⟨w.heap.size, 0, none⟩) 3 3] (w.alloc (.cells #[.slice a1 n1 c1, .slice a2 n2 c2, .slice a3 n3 c3] t)) fun e w' => e = .returned (.bool (decide (n1 ≤ 40) && (decide (n2 ≤ 40) && decide (n3 ≤ 40)))) ∧ w' = w.alloc (.cells #[.slice a1 n1 c1, .slice a2 n2 c2, .slice a3 n3 c3] t) := by
  refine (light_any (some ⟨w.heap.size, 0, none⟩) 3 3 [.slice a1 n1 c1, .slice a2 n2 c2, .slice a3 n3 c3] [List.replicate n1 0, List.replicate n2 0, List.replicate n3 0] _ rfl rfl (Nat.le_refl _) (by decide) (row_new w [.slice a1 n1 c1, .slice a2 n2 c2, .slice a3 n3 c3] t) ?_ ?_).mono ?_
  · intro j hj
    match j, hj with
    | 0, _ => exact ⟨a1, c1, by simp⟩
    | 1, _ => exact ⟨a2, c2, by simp⟩
    | 2, _ => exact ⟨a3, c3, by simp⟩
  · intro j
    match j with
    | 0 => simpa using h1
    | 1 => simpa using h2
    | 2 => simpa using h3
    | j + 3 => simp
  · rintro e w' ⟨rfl, rfl⟩
    refine ⟨?_, rfl⟩
    simp [lightB]

/-- nat.Add of four. -/
theorem add_four (v1 v2 v3 v4 : Value) (l1 l2 l3 l4 : List Int) (t : TypeId) (w : World) (h1 : RdV w v1 l1) (h2 : RdV w v2 l2) (h3 : RdV w v3 l3) (h4 : RdV w v4 l4) (m1 : l1.length < MaxW) (m2 : l2.length < MaxW) (m3 : l3.length < MaxW) (m4 : l4.length < MaxW) :
    Calls Tryd.prog 33 #[.slice (some ⟨w.heap.size, 0, none⟩) 4 4] (w.alloc (.cells #[v1, v2, v3, v4] t)) fun e w' => RetNum w (vb B64 l1 + (vb B64 l2 + (vb B64 l3 + vb B64 l4))) e w' := by
  have hb := below_alloc w (.cells #[v1, v2, v3, v4] t)
  refine (add_any (some ⟨w.heap.size, 0, none⟩) 4 4 [v1, v2, v3, v4] [l1, l2, l3, l4] _ rfl rfl (Nat.le_refl _) (by decide) (row_new w [v1, v2, v3, v4] t) ?_ ?_ (by decide)).mono ?_
  · intro j hj
    match j, hj with
    | 0, _ => exact h1.below hb
    | 1, _ => exact h2.below hb
    | 2, _ => exact h3.below hb
    | 3, _ => exact h4.below hb
  · intro j
    match j with
    | 0 => exact m1
    | 1 => exact m2
    | 2 => exact m3
    | 3 => exact m4
    | j + 4 => simp; decide
  · rintro e w' ⟨v, l, rfl, hO, hc, hv, hb2⟩
    refine ⟨v, l, rfl, hO.mono (by simp), hc, ?_, hb.trans (hb2.mono (by simp))⟩
    rw [hv]; simp [sumv]

theorem room100 {l : List Int} (hc : Can B64 l) (h : vb B64 l < B64 ^ 100) : l.length ≤ 100 := by
  by_cases hl : l = []
  · subst hl; simp
  · have h1 := hc.ge B64_pos hl
    rcases Nat.lt_or_ge 100 l.length with h2 | h2
    · have := pow_le_pow B64_pos (show 100 ≤ l.length - 1 by omega)
      omega
    · exact h2

/-- The numbers of the statement have room in a hundred words. -/
theorem cuts_room {A B C : Int} (a0 : 0 ≤ A) (a1 : A < B64 ^ 40) (b0 : 0 ≤ B) (b1 : B < B64 ^ 40) (c0 : 0 ≤ C) (c1 : C < B64 ^ 40) :
    A * B < B64 ^ 100 ∧ B * A < B64 ^ 100 ∧ B + C < B64 ^ 100 ∧ A * (B + C) < B64 ^ 100 ∧ A * C < B64 ^ 100 ∧ A * B + A * C < B64 ^ 100 ∧ A + B < B64 ^ 100 ∧ (A + B) * (A + B) < B64 ^ 100 ∧ A * A < B64 ^ 100 ∧ B * B < B64 ^ 100 ∧ A * A + (A * B + (B * A + B * B)) < B64 ^ 100 := by
  have hT : (1 : Int) ≤ B64 ^ 40 := pow_pos' B64_pos 40
  have e : B64 ^ 100 = B64 ^ 40 * B64 ^ 40 * B64 ^ 20 := by rw [← Int.pow_add, ← Int.pow_add]
  have h16 : (16 : Int) ≤ B64 ^ 20 := by decide +kernel
  generalize B64 ^ 40 = T at *
  have p1 := prod_lt a1 b1 a0 b0
  have p2 := prod_lt a1 c1 a0 c0
  have p3 := prod_lt a1 a1 a0 a0
  have p4 := prod_lt b1 b1 b0 b0
  have q1 : T ≤ T * T := by have := Int.mul_le_mul_of_nonneg_left hT (show 0 ≤ T by omega); omega
  have hY : 16 * (T * T) ≤ T * T * B64 ^ 20 := by have := Int.mul_le_mul_of_nonneg_left h16 (show 0 ≤ T * T by omega); omega
  rw [e]
  have r1 : A * (B + C) = A * B + A * C := Int.mul_add _ _ _
  have r2 : (A + B) * (A + B) = A * A + (A * B + (B * A + B * B)) := by rw [Int.add_mul, Int.mul_add, Int.mul_add]; omega
  have r3 : B * A = A * B := Int.mul_comm _ _
  rw [r1, r2, r3]
  generalize T * T = Y at *
  generalize Y * B64 ^ 20 = K at *
  refine ⟨?_, ?_, ?_, ?_, ?_, ?_, ?_, ?_, ?_, ?_, ?_⟩ <;> omega

set_option maxRecDepth 100000 in
theorem cuts_heavy (aa ab ac : Option Addr) (na nb' nc ca cb cc : Nat) (i k : Int) (w : World) (ha : na ≤ 9223372036854775807) (hb : nb' ≤ 9223372036854775807) (hc : nc ≤ 9223372036854775807) (h : ¬ (na ≤ 40 ∧ nb' ≤ 40 ∧ nc ≤ 40)) :
    Calls Tryd.prog 5 #[.slice aa na ca, .slice ab nb' cb, .slice ac nc cc, .int .i64 i, .int .i64 k] w fun e w' => RetV w (.bool true) e w' := by
  have hl := light_three aa ab ac na nb' nc ca cb cc 22 w ha hb hc
  rw [show (decide (na ≤ 40) && (decide (nb' ≤ 40) && decide (nc ≤ 40))) = false by simpa using h] at hl
  have HL := Lib.hid hl
  clear hl h
  go_enter Tryd.func5, Tryd.ntmps5
  go_wp2_with fail
  refine HL.out.mono ?_
  rintro e w' ⟨rfl, rfl⟩
  go_wp2_with fail
  refine (alive_yes _).mono ?_
  rintro e w1 ⟨rfl, hb⟩
  go_wp2_with fail
  go_ret
  exact ⟨rfl, (below_alloc w _).trans (hb.mono (by simp))⟩

set_option maxRecDepth 100000 in
set_option maxHeartbeats 8000000 in
theorem cuts_ok (aA : Option Addr) (nA cA : Nat) (lA : List Int) (aB : Option Addr) (nB cB : Nat) (lB : List Int) (aC : Option Addr) (nC cC : Nat) (lC : List Int) (i k : Int) (w : World) (qA : nA = lA.length) (qB : nB = lB.length) (qC : nC = lC.length)
    (hA1 : nA ≤ cA) (hA2 : cA ≤ 9223372036854775807) (hB1 : nB ≤ cB) (hB2 : cB ≤ 9223372036854775807) (hC1 : nC ≤ cC) (hC2 : cC ≤ 9223372036854775807) (rA : Rd w aA lA) (rB : Rd w aB lB) (rC : Rd w aC lC) (limA : Lim B64 lA) (limB : Lim B64 lB) (limC : Lim B64 lC)
    (hlA : nA ≤ 40) (hlB : nB ≤ 40) (hlC : nC ≤ 40) (hi : i ≤ 9223372036854775807) (hk : k ≤ 9223372036854775807) :
    Calls Tryd.prog 5 #[.slice aA nA cA, .slice aB nB cB, .slice aC nC cC, .int .i64 i, .int .i64 k] w fun e w' => RetV w (.bool true) e w' := by
  have hl := light_three aA aB aC nA nB nC cA cB cC 22 w (by omega) (by omega) (by omega)
  rw [show (decide (nA ≤ 40) && (decide (nB ≤ 40) && decide (nC ≤ 40))) = true by simp; omega] at hl
  have HL := Lib.hid hl
  have HNA := Lib.hid qA
  have HNB := Lib.hid qB
  have HNC := Lib.hid qC
  obtain ⟨A, hA⟩ : ∃ A, vb B64 lA = A := ⟨_, rfl⟩
  obtain ⟨B, hB⟩ : ∃ B, vb B64 lB = B := ⟨_, rfl⟩
  obtain ⟨C, hC⟩ : ∃ C, vb B64 lC = C := ⟨_, rfl⟩
  have lt40 : ∀ l : List Int, Lim B64 l → l.length ≤ 40 → vb B64 l < B64 ^ 40 := by
    intro l hl h
    have e1 := vb_lt B64_pos hl
    have e2 := pow_le_pow B64_pos h
    omega
  have hroom := cuts_room (A := A) (B := B) (C := C) (by rw [← hA]; exact vb_nonneg B64_pos limA) (by rw [← hA]; exact lt40 _ limA (by omega)) (by rw [← hB]; exact vb_nonneg B64_pos limB) (by rw [← hB]; exact lt40 _ limB (by omega)) (by rw [← hC]; exact vb_nonneg B64_pos limC) (by rw [← hC]; exact lt40 _ limC (by omega))
  have RM := Lib.hid hroom
  have HVA := Lib.hid hA
  have HVB := Lib.hid hB
  have HVC := Lib.hid hC
  clear hl hA hB hC hroom lt40 qA qB qC
  go_enter Tryd.func5, Tryd.ntmps5
  go_wp2_with fail
  refine HL.out.mono ?_
  rintro e w' ⟨rfl, rfl⟩
  have hba := below_alloc w (.cells #[Value.slice aA nA cA, Value.slice aB nB cB, Value.slice aC nC cC] 22)
  go_wp2_with fail
  refine (alive_yes _).mono ?_
  rintro e w1 ⟨rfl, hb1⟩
  have hbw := hba.trans (hb1.mono hba.size)
  replace rA := rA.below hbw
  replace rB := rB.below hbw
  replace rC := rC.below hbw
  clear hba hb1 HL
  go_wp2_with fail
  refine (mul_any i aA nA cA lA aB nB cB lB w1 HNA.out HNB.out hA1 hA2 hB1 hB2 rA rB limA limB (by omega) hi).mono ?_
  rintro e w2 ⟨vX, lX, rfl, hOX, canX, hvX, hbN⟩
  rw [HVA.out, HVB.out] at hvX
  have hlX : lX.length ≤ 100 := room100 canX (by rw [hvX]; exact RM.out.1)
  obtain ⟨aX, cX, rfl, hX1, hX2, rX⟩ := hOX.form
  obtain ⟨nX, hnX⟩ : ∃ nX, nX = lX.length := ⟨_, rfl⟩
  rw [← hnX] at hX1 hlX ⊢
  have HNX := Lib.hid hnX
  have HVX := Lib.hid hvX
  have limX := canX.lim
  replace hbw := hbw.trans (hbN.mono hbw.size)
  replace rA := rA.below hbN
  replace rB := rB.below hbN
  replace rC := rC.below hbN
  clear hnX hvX hOX hbN
  go_wp2_with fail
  refine (mul_any k aB nB cB lB aA nA cA lA w2 HNB.out HNA.out hB1 hB2 hA1 hA2 rB rA limB limA (by omega) hk).mono ?_
  rintro e w3 ⟨vY, lY, rfl, hOY, canY, hvY, hbN⟩
  rw [HVB.out, HVA.out] at hvY
  have hlY : lY.length ≤ 100 := room100 canY (by rw [hvY]; exact RM.out.2.1)
  obtain ⟨aY, cY, rfl, hY1, hY2, rY⟩ := hOY.form
  obtain ⟨nY, hnY⟩ : ∃ nY, nY = lY.length := ⟨_, rfl⟩
  rw [← hnY] at hY1 hlY ⊢
  have HNY := Lib.hid hnY
  have HVY := Lib.hid hvY
  have limY := canY.lim
  replace hbw := hbw.trans (hbN.mono hbw.size)
  replace rA := rA.below hbN
  replace rB := rB.below hbN
  replace rC := rC.below hbN
  replace rX := rX.below hbN
  clear hnY hvY hOY hbN
  have hxy : nY = nX := by rw [HNY.out, HNX.out, can_eq B64_pos canY canX (by rw [HVY.out, HVX.out, Int.mul_comm])]
  subst hxy
  have hself : ((nY : Int) == (nY : Int)) = true := by simp
  go_wp2_with fail
  refine (add_two (.slice aB nB cB) (.slice aC nC cC) lB lC 28 w3 ⟨aB, cB, by rw [HNB.out], by rw [← HNB.out]; exact hB1, hB2, rB, limB⟩ ⟨aC, cC, by rw [HNC.out], by rw [← HNC.out]; exact hC1, hC2, rC, limC⟩ (by rw [← HNB.out]; unfold MaxW; omega) (by rw [← HNC.out]; unfold MaxW; omega)).mono ?_
  rintro e w4 ⟨vD, lD, rfl, hOD, canD, hvD, hbN⟩
  rw [HVB.out, HVC.out] at hvD
  have hlD : lD.length ≤ 100 := room100 canD (by rw [hvD]; exact RM.out.2.2.1)
  obtain ⟨aD, cD, rfl, hD1, hD2, rD⟩ := hOD.form
  obtain ⟨nD, hnD⟩ : ∃ nD, nD = lD.length := ⟨_, rfl⟩
  rw [← hnD] at hD1 hlD ⊢
  have HND := Lib.hid hnD
  have HVD := Lib.hid hvD
  have limD := canD.lim
  replace hbw := hbw.trans (hbN.mono hbw.size)
  replace rA := rA.below hbN
  replace rB := rB.below hbN
  replace rC := rC.below hbN
  replace rX := rX.below hbN
  replace rY := rY.below hbN
  clear hnD hvD hOD hbN
  go_wp2_with fail
  refine (mul_any i aA nA cA lA aD nD cD lD w4 HNA.out HND.out hA1 hA2 hD1 hD2 rA rD limA limD (by omega) hi).mono ?_
  rintro e w5 ⟨vU, lU, rfl, hOU, canU, hvU, hbN⟩
  rw [HVA.out, HVD.out] at hvU
  have hlU : lU.length ≤ 100 := room100 canU (by rw [hvU]; exact RM.out.2.2.2.1)
  obtain ⟨aU, cU, rfl, hU1, hU2, rU⟩ := hOU.form
  obtain ⟨nU, hnU⟩ : ∃ nU, nU = lU.length := ⟨_, rfl⟩
  rw [← hnU] at hU1 hlU ⊢
  have HNU := Lib.hid hnU
  have HVU := Lib.hid hvU
  have limU := canU.lim
  replace hbw := hbw.trans (hbN.mono hbw.size)
  replace rA := rA.below hbN
  replace rB := rB.below hbN
  replace rC := rC.below hbN
  replace rX := rX.below hbN
  replace rY := rY.below hbN
  replace rD := rD.below hbN
  clear hnU hvU hOU hbN
  go_wp2_with fail
  refine (mul_any k aA nA cA lA aB nB cB lB w5 HNA.out HNB.out hA1 hA2 hB1 hB2 rA rB limA limB (by omega) hk).mono ?_
  rintro e w6 ⟨vE, lE, rfl, hOE, canE, hvE, hbN⟩
  rw [HVA.out, HVB.out] at hvE
  have hlE : lE.length ≤ 100 := room100 canE (by rw [hvE]; exact RM.out.1)
  obtain ⟨aE, cE, rfl, hE1, hE2, rE⟩ := hOE.form
  obtain ⟨nE, hnE⟩ : ∃ nE, nE = lE.length := ⟨_, rfl⟩
  rw [← hnE] at hE1 hlE ⊢
  have HNE := Lib.hid hnE
  have HVE := Lib.hid hvE
  have limE := canE.lim
  replace hbw := hbw.trans (hbN.mono hbw.size)
  replace rA := rA.below hbN
  replace rB := rB.below hbN
  replace rC := rC.below hbN
  replace rX := rX.below hbN
  replace rY := rY.below hbN
  replace rD := rD.below hbN
  replace rU := rU.below hbN
  clear hnE hvE hOE hbN
  go_wp2_with fail
  refine (mul_any 2 aA nA cA lA aC nC cC lC w6 HNA.out HNC.out hA1 hA2 hC1 hC2 rA rC limA limC (by omega) (by decide)).mono ?_
  rintro e w7 ⟨vF, lF, rfl, hOF, canF, hvF, hbN⟩
  rw [HVA.out, HVC.out] at hvF
  have hlF : lF.length ≤ 100 := room100 canF (by rw [hvF]; exact RM.out.2.2.2.2.1)
  obtain ⟨aF, cF, rfl, hF1, hF2, rF⟩ := hOF.form
  obtain ⟨nF, hnF⟩ : ∃ nF, nF = lF.length := ⟨_, rfl⟩
  rw [← hnF] at hF1 hlF ⊢
  have HNF := Lib.hid hnF
  have HVF := Lib.hid hvF
  have limF := canF.lim
  replace hbw := hbw.trans (hbN.mono hbw.size)
  replace rA := rA.below hbN
  replace rB := rB.below hbN
  replace rC := rC.below hbN
  replace rX := rX.below hbN
  replace rY := rY.below hbN
  replace rD := rD.below hbN
  replace rU := rU.below hbN
  replace rE := rE.below hbN
  clear hnF hvF hOF hbN
  go_wp2_with fail
  refine (add_two (.slice aE nE cE) (.slice aF nF cF) lE lF 28 w7 ⟨aE, cE, by rw [HNE.out], by rw [← HNE.out]; exact hE1, hE2, rE, limE⟩ ⟨aF, cF, by rw [HNF.out], by rw [← HNF.out]; exact hF1, hF2, rF, limF⟩ (by rw [← HNE.out]; unfold MaxW; omega) (by rw [← HNF.out]; unfold MaxW; omega)).mono ?_
  rintro e w8 ⟨vV, lV, rfl, hOV, canV, hvV, hbN⟩
  rw [HVE.out, HVF.out] at hvV
  have hlV : lV.length ≤ 100 := room100 canV (by rw [hvV]; exact RM.out.2.2.2.2.2.1)
  obtain ⟨aV, cV, rfl, hV1, hV2, rV⟩ := hOV.form
  obtain ⟨nV, hnV⟩ : ∃ nV, nV = lV.length := ⟨_, rfl⟩
  rw [← hnV] at hV1 hlV ⊢
  have HNV := Lib.hid hnV
  have HVV := Lib.hid hvV
  have limV := canV.lim
  replace hbw := hbw.trans (hbN.mono hbw.size)
  replace rA := rA.below hbN
  replace rB := rB.below hbN
  replace rC := rC.below hbN
  replace rX := rX.below hbN
  replace rY := rY.below hbN
  replace rD := rD.below hbN
  replace rU := rU.below hbN
  replace rE := rE.below hbN
  replace rF := rF.below hbN
  clear hnV hvV hOV hbN
  go_wp2_with fail
  refine (add_two (.slice aA nA cA) (.slice aB nB cB) lA lB 28 w8 ⟨aA, cA, by rw [HNA.out], by rw [← HNA.out]; exact hA1, hA2, rA, limA⟩ ⟨aB, cB, by rw [HNB.out], by rw [← HNB.out]; exact hB1, hB2, rB, limB⟩ (by rw [← HNA.out]; unfold MaxW; omega) (by rw [← HNB.out]; unfold MaxW; omega)).mono ?_
  rintro e w9 ⟨vS, lS, rfl, hOS, canS, hvS, hbN⟩
  rw [HVA.out, HVB.out] at hvS
  have hlS : lS.length ≤ 100 := room100 canS (by rw [hvS]; exact RM.out.2.2.2.2.2.2.1)
  obtain ⟨aS, cS, rfl, hS1, hS2, rS⟩ := hOS.form
  obtain ⟨nS, hnS⟩ : ∃ nS, nS = lS.length := ⟨_, rfl⟩
  rw [← hnS] at hS1 hlS ⊢
  have HNS := Lib.hid hnS
  have HVS := Lib.hid hvS
  have limS := canS.lim
  replace hbw := hbw.trans (hbN.mono hbw.size)
  replace rA := rA.below hbN
  replace rB := rB.below hbN
  replace rC := rC.below hbN
  replace rX := rX.below hbN
  replace rY := rY.below hbN
  replace rD := rD.below hbN
  replace rU := rU.below hbN
  replace rE := rE.below hbN
  replace rF := rF.below hbN
  replace rV := rV.below hbN
  clear hnS hvS hOS hbN
  go_wp2_with fail
  refine (mul_any k aS nS cS lS aS nS cS lS w9 HNS.out HNS.out hS1 hS2 hS1 hS2 rS rS limS limS (by omega) hk).mono ?_
  rintro e w10 ⟨vP, lP, rfl, hOP, canP, hvP, hbN⟩
  rw [HVS.out] at hvP
  have hlP : lP.length ≤ 100 := room100 canP (by rw [hvP]; exact RM.out.2.2.2.2.2.2.2.1)
  obtain ⟨aP, cP, rfl, hP1, hP2, rP⟩ := hOP.form
  obtain ⟨nP, hnP⟩ : ∃ nP, nP = lP.length := ⟨_, rfl⟩
  rw [← hnP] at hP1 hlP ⊢
  have HNP := Lib.hid hnP
  have HVP := Lib.hid hvP
  have limP := canP.lim
  replace hbw := hbw.trans (hbN.mono hbw.size)
  replace rA := rA.below hbN
  replace rB := rB.below hbN
  replace rC := rC.below hbN
  replace rX := rX.below hbN
  replace rY := rY.below hbN
  replace rD := rD.below hbN
  replace rU := rU.below hbN
  replace rE := rE.below hbN
  replace rF := rF.below hbN
  replace rV := rV.below hbN
  replace rS := rS.below hbN
  clear hnP hvP hOP hbN
  go_wp2_with fail
  refine (mul_any i aA nA cA lA aA nA cA lA w10 HNA.out HNA.out hA1 hA2 hA1 hA2 rA rA limA limA (by omega) hi).mono ?_
  rintro e w11 ⟨vG, lG, rfl, hOG, canG, hvG, hbN⟩
  rw [HVA.out] at hvG
  have hlG : lG.length ≤ 100 := room100 canG (by rw [hvG]; exact RM.out.2.2.2.2.2.2.2.2.1)
  obtain ⟨aG, cG, rfl, hG1, hG2, rG⟩ := hOG.form
  obtain ⟨nG, hnG⟩ : ∃ nG, nG = lG.length := ⟨_, rfl⟩
  rw [← hnG] at hG1 hlG ⊢
  have HNG := Lib.hid hnG
  have HVG := Lib.hid hvG
  have limG := canG.lim
  replace hbw := hbw.trans (hbN.mono hbw.size)
  replace rA := rA.below hbN
  replace rB := rB.below hbN
  replace rC := rC.below hbN
  replace rX := rX.below hbN
  replace rY := rY.below hbN
  replace rD := rD.below hbN
  replace rU := rU.below hbN
  replace rE := rE.below hbN
  replace rF := rF.below hbN
  replace rV := rV.below hbN
  replace rS := rS.below hbN
  replace rP := rP.below hbN
  clear hnG hvG hOG hbN
  go_wp2_with fail
  refine (mul_any i aB nB cB lB aB nB cB lB w11 HNB.out HNB.out hB1 hB2 hB1 hB2 rB rB limB limB (by omega) hi).mono ?_
  rintro e w12 ⟨vJ, lJ, rfl, hOJ, canJ, hvJ, hbN⟩
  rw [HVB.out] at hvJ
  have hlJ : lJ.length ≤ 100 := room100 canJ (by rw [hvJ]; exact RM.out.2.2.2.2.2.2.2.2.2.1)
  obtain ⟨aJ, cJ, rfl, hJ1, hJ2, rJ⟩ := hOJ.form
  obtain ⟨nJ, hnJ⟩ : ∃ nJ, nJ = lJ.length := ⟨_, rfl⟩
  rw [← hnJ] at hJ1 hlJ ⊢
  have HNJ := Lib.hid hnJ
  have HVJ := Lib.hid hvJ
  have limJ := canJ.lim
  replace hbw := hbw.trans (hbN.mono hbw.size)
  replace rA := rA.below hbN
  replace rB := rB.below hbN
  replace rC := rC.below hbN
  replace rX := rX.below hbN
  replace rY := rY.below hbN
  replace rD := rD.below hbN
  replace rU := rU.below hbN
  replace rE := rE.below hbN
  replace rF := rF.below hbN
  replace rV := rV.below hbN
  replace rS := rS.below hbN
  replace rP := rP.below hbN
  replace rG := rG.below hbN
  clear hnJ hvJ hOJ hbN
  go_wp2_with fail
  refine (add_four (.slice aG nG cG) (.slice aX nY cX) (.slice aY nY cY) (.slice aJ nJ cJ) lG lX lY lJ 28 w12 ⟨aG, cG, by rw [HNG.out], by rw [← HNG.out]; exact hG1, hG2, rG, limG⟩ ⟨aX, cX, by rw [HNX.out], by rw [← HNX.out]; exact hX1, hX2, rX, limX⟩ ⟨aY, cY, by rw [HNY.out], by rw [← HNY.out]; exact hY1, hY2, rY, limY⟩ ⟨aJ, cJ, by rw [HNJ.out], by rw [← HNJ.out]; exact hJ1, hJ2, rJ, limJ⟩ (by rw [← HNG.out]; unfold MaxW; omega) (by rw [← HNX.out]; unfold MaxW; omega) (by rw [← HNY.out]; unfold MaxW; omega) (by rw [← HNJ.out]; unfold MaxW; omega)).mono ?_
  rintro e w13 ⟨vQ, lQ, rfl, hOQ, canQ, hvQ, hbN⟩
  rw [HVG.out, HVX.out, HVY.out, HVJ.out] at hvQ
  have hlQ : lQ.length ≤ 100 := room100 canQ (by rw [hvQ]; exact RM.out.2.2.2.2.2.2.2.2.2.2)
  obtain ⟨aQ, cQ, rfl, hQ1, hQ2, rQ⟩ := hOQ.form
  obtain ⟨nQ, hnQ⟩ : ∃ nQ, nQ = lQ.length := ⟨_, rfl⟩
  rw [← hnQ] at hQ1 hlQ ⊢
  have HNQ := Lib.hid hnQ
  have HVQ := Lib.hid hvQ
  have limQ := canQ.lim
  replace hbw := hbw.trans (hbN.mono hbw.size)
  replace rA := rA.below hbN
  replace rB := rB.below hbN
  replace rC := rC.below hbN
  replace rX := rX.below hbN
  replace rY := rY.below hbN
  replace rD := rD.below hbN
  replace rU := rU.below hbN
  replace rE := rE.below hbN
  replace rF := rF.below hbN
  replace rV := rV.below hbN
  replace rS := rS.below hbN
  replace rP := rP.below hbN
  replace rG := rG.below hbN
  replace rJ := rJ.below hbN
  clear hnQ hvQ hOQ hbN
  go_wp2_with fail
  refine (cmp_any aX nY cX lX aY nY cY lY w13 HNX.out HNY.out hX1 hX2 hY1 hY2 rX rY limX limY).mono ?_
  rintro e w14 ⟨rfl, hbN⟩
  rw [show cmpI (vb B64 lX) (vb B64 lY) = 0 from cmpI_eq (by rw [HVX.out, HVY.out]; exact Int.mul_comm _ _)]
  replace hbw := hbw.trans (hbN.mono hbw.size)
  replace rA := rA.below hbN
  replace rB := rB.below hbN
  replace rC := rC.below hbN
  replace rX := rX.below hbN
  replace rY := rY.below hbN
  replace rD := rD.below hbN
  replace rU := rU.below hbN
  replace rE := rE.below hbN
  replace rF := rF.below hbN
  replace rV := rV.below hbN
  replace rS := rS.below hbN
  replace rP := rP.below hbN
  replace rG := rG.below hbN
  replace rJ := rJ.below hbN
  replace rQ := rQ.below hbN
  clear hbN
  go_wp2_with fail
  refine (cmp_any aU nU cU lU aV nV cV lV w14 HNU.out HNV.out hU1 hU2 hV1 hV2 rU rV limU limV).mono ?_
  rintro e w15 ⟨rfl, hbN⟩
  rw [show cmpI (vb B64 lU) (vb B64 lV) = 0 from cmpI_eq (by rw [HVU.out, HVV.out]; exact Int.mul_add _ _ _)]
  replace hbw := hbw.trans (hbN.mono hbw.size)
  replace rA := rA.below hbN
  replace rB := rB.below hbN
  replace rC := rC.below hbN
  replace rX := rX.below hbN
  replace rY := rY.below hbN
  replace rD := rD.below hbN
  replace rU := rU.below hbN
  replace rE := rE.below hbN
  replace rF := rF.below hbN
  replace rV := rV.below hbN
  replace rS := rS.below hbN
  replace rP := rP.below hbN
  replace rG := rG.below hbN
  replace rJ := rJ.below hbN
  replace rQ := rQ.below hbN
  clear hbN
  go_wp2_with fail
  refine (cmp_any aP nP cP lP aQ nQ cQ lQ w15 HNP.out HNQ.out hP1 hP2 hQ1 hQ2 rP rQ limP limQ).mono ?_
  rintro e w16 ⟨rfl, hbN⟩
  rw [show cmpI (vb B64 lP) (vb B64 lQ) = 0 from cmpI_eq (by rw [HVP.out, HVQ.out]; rw [Int.add_mul, Int.mul_add, Int.mul_add]; omega)]
  replace hbw := hbw.trans (hbN.mono hbw.size)
  replace rA := rA.below hbN
  replace rB := rB.below hbN
  replace rC := rC.below hbN
  replace rX := rX.below hbN
  replace rY := rY.below hbN
  replace rD := rD.below hbN
  replace rU := rU.below hbN
  replace rE := rE.below hbN
  replace rF := rF.below hbN
  replace rV := rV.below hbN
  replace rS := rS.below hbN
  replace rP := rP.below hbN
  replace rG := rG.below hbN
  replace rJ := rJ.below hbN
  replace rQ := rQ.below hbN
  clear hbN
  go_wp2_with fail
  go_ret
  exact ⟨rfl, hbw⟩
end Go.Proofs.YtmbkhapldbeocaaDoor
