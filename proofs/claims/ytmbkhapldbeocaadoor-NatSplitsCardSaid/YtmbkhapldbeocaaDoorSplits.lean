/-
  The walk of the statement NatSplits.
-/
import Derived.Test.YtmbkhapldbeocaaDoorAlive
import Derived.Test.YtmbkhapldbeocaaDoorShl
import Derived.Test.YtmbkhapldbeocaaDoorLow
import Derived.Test.YtmbkhapldbeocaaDoorRefShift
import Derived.Test.YtmbkhapldbeocaaDoorStr
namespace Go.Proofs.YtmbkhapldbeocaaDoor
open Go.RowKit

/-- 'Light' of one list. -/
theorem light_one (ao : Option Addr) (n cap : Nat) (t : TypeId) (w : World) (h1 : n ≤ 9223372036854775807) :
    Calls Tryd.prog 10 #[.slice (some ⟨w.heap.size, 0, none⟩) 1 1] (w.alloc (.cells #[.slice ao n cap] t)) fun e w' => e = .returned (.bool (decide (n ≤ 40))) ∧ w' = w.alloc (.cells #[.slice ao n cap] t) := by
  refine (light_any (some ⟨w.heap.size, 0, none⟩) 1 1 [.slice ao n cap] [List.replicate n 0] _ rfl rfl (Nat.le_refl _) (by decide) (row_new w [.slice ao n cap] t) ?_ ?_).mono ?_
  · intro j hj
    match j, hj with
    | 0, _ => exact ⟨ao, cap, by simp⟩
  · intro j
    match j with
    | 0 => simpa using h1
    | j + 1 => simp
  · rintro e w' ⟨rfl, rfl⟩
    refine ⟨?_, rfl⟩
    simp [lightB]

set_option maxRecDepth 100000 in
theorem splits_heavy (ao : Option Addr) (n cap : Nat) (N : Int) (w : World) (h1 : n ≤ cap) (h2 : cap ≤ 9223372036854775807) (h : 40 < n) :
    Calls Tryd.prog 9 #[.slice ao n cap, .int .i64 N] w fun e w' => RetV w (.bool true) e w' := by
  have hl := light_one ao n cap 22 w (by omega)
  rw [show decide (n ≤ 40) = false by simp; omega] at hl
  have HL := Lib.hid hl
  clear hl
  go_enter Tryd.func9, Tryd.ntmps9
  go_wp2_with fail
  refine HL.out.mono ?_
  rintro e w' ⟨rfl, rfl⟩
  go_wp2_with fail
  refine (alive_yes _).mono ?_
  rintro e w1 ⟨rfl, hb⟩
  go_wp2_with fail
  go_ret
  exact ⟨rfl, (below_alloc w _).trans (hb.mono (by simp))⟩

set_option maxRecDepth 100000 in
theorem splits_range (ao : Option Addr) (n cap : Nat) (N : Int) (w : World) (_h1 : n ≤ cap) (_h2 : cap ≤ 9223372036854775807) (h : n ≤ 40) (hN : N < 0 ∨ 3000 < N) :
    Calls Tryd.prog 9 #[.slice ao n cap, .int .i64 N] w fun e w' => RetV w (.bool true) e w' := by
  have hl := light_one ao n cap 22 w (by omega)
  rw [show decide (n ≤ 40) = true by simp; omega] at hl
  have HL := Lib.hid hl
  clear hl
  rcases hN with hN | hN
  · go_enter Tryd.func9, Tryd.ntmps9
    go_wp2_with fail
    refine HL.out.mono ?_
    rintro e w' ⟨rfl, rfl⟩
    go_wp2_with fail
    refine (alive_yes _).mono ?_
    rintro e w1 ⟨rfl, hb⟩
    go_wp2_with fail
    go_ret
    exact ⟨rfl, (below_alloc w _).trans (hb.mono (by simp))⟩
  · have hN2 : ¬ N < 0 := by omega
    go_enter Tryd.func9, Tryd.ntmps9
    go_wp2_with fail
    refine HL.out.mono ?_
    rintro e w' ⟨rfl, rfl⟩
    go_wp2_with fail
    refine (alive_yes _).mono ?_
    rintro e w1 ⟨rfl, hb⟩
    go_wp2_with fail
    go_ret
    exact ⟨rfl, (below_alloc w _).trans (hb.mono (by simp))⟩

theorem low_ge {N Q : Int} {k t : Nat} (h : IsLow N t) (hN : N = Q * 2 ^ k) : k ≤ t := by
  obtain ⟨z, hz⟩ := h
  rcases Nat.lt_or_ge t k with h1 | h1
  · exfalso
    have e : (2 : Int) ^ k = 2 ^ t * (2 ^ (k - t - 1) * 2) := by
      rw [← Int.pow_succ, ← Int.pow_add]
      congr 1
      omega
    have h2 : (2 : Int) ^ t * (2 * z + 1) = 2 ^ t * (Q * (2 ^ (k - t - 1) * 2)) := by
      rw [← hz, hN, e, Int.mul_left_comm]
    have h3 := Int.eq_of_mul_eq_mul_left (by have := pow2_pos t; omega) h2
    rw [← Int.mul_assoc] at h3
    omega
  · exact h1

theorem room40 {l : List Int} {A : Int} (hc : Can B64 l) (h : vb B64 l ≤ A) (hA : A < B64 ^ 40) : l.length ≤ 40 := room_of B64_pos hc (by omega)

set_option maxRecDepth 100000 in
set_option maxHeartbeats 8000000 in
theorem splits_ok (ao : Option Addr) (n cap : Nat) (l : List Int) (k : Nat) (w : World) (hn : n = l.length) (h1 : n ≤ cap) (h2 : cap ≤ 9223372036854775807) (hr : Rd w ao l) (hl : Lim B64 l) (h : n ≤ 40) (hk : k ≤ 3000) (hT : Tab64 w) :
    Calls Tryd.prog 9 #[.slice ao n cap, .int .i64 k] w fun e w' => RetV w (.bool true) e w' := by
  have hlo := light_one ao n cap 22 w (by omega)
  rw [show decide (n ≤ 40) = true by simp; omega] at hlo
  have HLO := Lib.hid hlo
  have hN1 : ¬ (k : Int) < 0 := by omega
  have hN2 : ¬ (3000 : Int) < (k : Int) := by omega
  obtain ⟨A, hA⟩ : ∃ A, A = vb B64 l := ⟨_, rfl⟩
  have hA0 : 0 ≤ A := by rw [hA]; exact vb_nonneg B64_pos hl
  have hA1 : A < B64 ^ 40 := by
    rw [hA]
    have e1 := vb_lt B64_pos hl
    have e2 := pow_le_pow B64_pos (show l.length ≤ 40 by omega)
    omega
  have hp := pow2_pos k
  obtain ⟨Q, hQ⟩ : ∃ Q, Q = A / 2 ^ k := ⟨_, rfl⟩
  obtain ⟨U, hU⟩ : ∃ U, U = Q * 2 ^ k := ⟨_, rfl⟩
  have hdm := Int.mul_ediv_add_emod A (2 ^ k)
  have hm0 := Int.emod_nonneg A (show (2 : Int) ^ k ≠ 0 by omega)
  have hm1 := Int.emod_lt_of_pos A hp
  rw [← hQ, Int.mul_comm, ← hU] at hdm
  have hUA : U ≤ A := by omega
  have hLk : A - U < 2 ^ k := by omega
  have hQ0 : 0 ≤ Q := by rw [hQ]; exact Int.ediv_nonneg hA0 (Int.le_of_lt hp)
  have hQA : Q ≤ A := by rw [hQ]; exact Int.ediv_le_self _ hA0
  have hU0 : 0 ≤ U := by rw [hU]; exact Int.mul_nonneg hQ0 (Int.le_of_lt hp)
  have hnbl : (nb (A - U) : Int) ≤ (k : Int) := by have := nb_le hLk; omega
  have HN := Lib.hid hn
  have HA := Lib.hid hA
  have HQ := Lib.hid hQ
  have HU := Lib.hid hU
  have HA1 := Lib.hid hA1
  have hM : n + 300000 ≤ MaxW := by unfold MaxW; omega
  have H40 : Hid (∀ l' : List Int, Can B64 l' → vb B64 l' ≤ A → l'.length ≤ 40) := fun l' hc hv => room40 hc hv hA1
  clear hlo hn hA hQ hA1 hp hdm hm0 hm1 hLk hU
  go_enter Tryd.func9, Tryd.ntmps9
  go_wp2_with fail
  refine HLO.out.mono ?_
  rintro e w' ⟨rfl, rfl⟩
  have hba := below_alloc w (.cells #[Value.slice ao n cap] 22)
  go_wp2_with fail
  refine (alive_yes _).mono ?_
  rintro e w1 ⟨rfl, hb1⟩
  have hbw1 : Below w.heap.size w w1 := hba.trans (hb1.mono hba.size)
  have hr1 := hr.below hbw1
  have hT1 := hT.below hbw1
  clear hba hb1 HLO hr hT
  go_wp2_with fail
  refine (shr_any ao n cap l k w1 HN.out h1 h2 hr1 hl (by omega) hM).mono ?_
  rintro e w2 ⟨v1, l1, rfl, hO1, hc1, hv1, hb2⟩
  rw [← HA.out, ← HQ.out] at hv1
  have hl1 := H40.out l1 hc1 (by omega)
  obtain ⟨a1, p1, rfl, hs1, hs1', hrd1⟩ := hO1.form
  obtain ⟨n1, hn1⟩ : ∃ n1, n1 = l1.length := ⟨_, rfl⟩
  rw [← hn1] at hs1 hl1 ⊢
  have HN1 := Lib.hid hn1
  have HV1 := Lib.hid hv1
  clear hn1 hv1 hO1
  go_wp2_with fail
  refine (shl_up a1 n1 p1 l1 k w2 HN1.out hs1 hs1' hrd1 hc1.lim (by omega) (by unfold MaxW; omega)).mono ?_
  rintro e w3 ⟨v2, l2, rfl, hO2, hc2, hv2, hb3⟩
  rw [HV1.out, ← HU.out] at hv2
  have hl2 := H40.out l2 hc2 (by omega)
  obtain ⟨a2, p2, rfl, hs2, hs2', hrd2⟩ := hO2.form
  obtain ⟨n2, hn2⟩ : ∃ n2, n2 = l2.length := ⟨_, rfl⟩
  rw [← hn2] at hs2 hl2 ⊢
  have HN2 := Lib.hid hn2
  have HV2 := Lib.hid hv2
  have hbw3 : Below w.heap.size w w3 := (hbw1.trans (hb2.mono hbw1.size)).trans (hb3.mono (Nat.le_trans hbw1.size hb2.size))
  have hb13 : Below w1.heap.size w1 w3 := hb2.trans (hb3.mono hb2.size)
  have hr3 := hr1.below hb13
  have hT3 := hT1.below hb13
  clear hn2 hv2 hO2 hrd1 hb2 hb3 hb13 hr1 hT1
  go_wp2_with fail
  refine (sub_yes ao n cap l a2 n2 p2 l2 w3 HN.out HN2.out h1 h2 hs2 hs2' hr3 hrd2 hl hc2.lim (by rw [HV2.out, ← HA.out]; exact hUA) (by omega)).mono ?_
  rintro e w4 ⟨v3, l3, rfl, hO3, hc3, hv3, hb4⟩
  rw [HV2.out, ← HA.out] at hv3
  have hl3 := H40.out l3 hc3 (by omega)
  obtain ⟨a3, p3, rfl, hs3, hs3', hrd3⟩ := hO3.form
  obtain ⟨n3, hn3⟩ : ∃ n3, n3 = l3.length := ⟨_, rfl⟩
  rw [← hn3] at hs3 hl3 ⊢
  have HN3 := Lib.hid hn3
  have HV3 := Lib.hid hv3
  have hbw4 : Below w.heap.size w w4 := hbw3.trans (hb4.mono hbw3.size)
  have hr4 := hr3.below hb4
  have hT4 := hT3.below hb4
  have hrd2' := hrd2.below hb4
  clear hn3 hv3 hO3 hb4 hr3 hT3 hrd2 hbw3
  go_wp2_with fail
  refine (bits_any a3 n3 p3 l3 w4 HN3.out hs3 hs3' hrd3 hc3.lim (by unfold MaxW; omega)).mono ?_
  rintro e w' ⟨rfl, rfl⟩
  rw [HV3.out]
  go_wp2_with fail
  have rdv2 : RdV w4 (.slice a2 n2 p2) l2 := ⟨a2, p2, by rw [HN2.out], by rw [← HN2.out]; exact hs2, hs2', hrd2', hc2.lim⟩
  have rdv3 : RdV w4 (.slice a3 n3 p3) l3 := ⟨a3, p3, by rw [HN3.out], by rw [← HN3.out]; exact hs3, hs3', hrd3, hc3.lim⟩
  refine (add_two (.slice a2 n2 p2) (.slice a3 n3 p3) l2 l3 28 w4 rdv2 rdv3 (by rw [← HN2.out]; unfold MaxW; omega) (by rw [← HN3.out]; unfold MaxW; omega)).mono ?_
  rintro e w5 ⟨v4, l4, rfl, hO4, hc4, hv4, hb5⟩
  rw [HV2.out, HV3.out] at hv4
  obtain ⟨a4, p4, rfl, hs4, hs4', hrd4⟩ := hO4.form
  obtain ⟨n4, hn4⟩ : ∃ n4, n4 = l4.length := ⟨_, rfl⟩
  rw [← hn4] at hs4 ⊢
  have HN4 := Lib.hid hn4
  have hcz : cmpI (vb B64 l4) (vb B64 l) = 0 := cmpI_eq (by rw [hv4, ← HA.out]; omega)
  have HCZ := Lib.hid hcz
  have hbw5 : Below w.heap.size w w5 := hbw4.trans (hb5.mono hbw4.size)
  have hr5 := hr4.below hb5
  have hT5 := hT4.below hb5
  have hrd2' := hrd2'.below hb5
  clear hn4 hv4 hO4 hcz hb5 hr4 hT4 hbw4 rdv2 rdv3
  go_wp2_with fail
  refine (cmp_any a4 n4 p4 l4 ao n cap l w5 HN4.out HN.out hs4 hs4' h1 h2 hrd4 hr5 hc4.lim hl).mono ?_
  rintro e w6 ⟨rfl, hb6⟩
  rw [HCZ.out]
  have hbw6 : Below w.heap.size w w6 := hbw5.trans (hb6.mono hbw5.size)
  have hr6 := hr5.below hb6
  have hT6 := hT5.below hb6
  have hrd2' := hrd2'.below hb6
  clear hb6 hr5 hT5 hbw5 hrd4 hrd3 HCZ
  go_wp2_with fail
  refine (bits_any a2 n2 p2 l2 w6 HN2.out hs2 hs2' hrd2' hc2.lim (by unfold MaxW; omega)).mono ?_
  rintro e w' ⟨rfl, rfl⟩
  rw [HV2.out]
  have hA32 : A < B32 ^ 80 := by
    have h3 := HA1.out
    have e : B64 ^ 40 = B32 ^ 80 := by decide +kernel
    rw [e] at h3
    exact h3
  have HA32 := Lib.hid hA32
  clear hA32
  by_cases hu : U = 0
  · have hnb : nb U = 0 := by rw [hu]; rfl
    rw [hnb]
    clear hnb hu
    go_wp2_with fail
    refine (from_any ao n cap l w6 HN.out h1 h2 hr6 hl (by unfold MaxW; omega)).mono ?_
    rintro e w7 ⟨a7, n7, p7, l7, rfl, hn7, hs7, hs7', hrd7, hc7, hv7, hb7, -⟩
    have hl7 : n7 ≤ 80 := by
      rw [hn7]
      exact room_of B32_pos hc7 (by rw [hv7, ← HA.out]; exact HA32.out)
    rw [← HA.out] at hv7
    have HN7 := Lib.hid hn7
    have HV7 := Lib.hid hv7
    have hbw7 : Below w.heap.size w w7 := hbw6.trans (hb7.mono hbw6.size)
    have hrd2c := hrd2'.below hb7
    clear hn7 hv7 hb7 hbw6 hr6 hT6 hrd2'
    go_wp2_with fail
    refine (rshr_any a7 n7 p7 l7 k w7 HN7.out hs7 hs7' hrd7 hc7.lim (by omega) (by unfold MaxW; omega)).mono ?_
    rintro e w8 ⟨a8, n8, p8, l8, rfl, hn8, hs8, hs8', hrd8, hc8, hv8, hb8, -⟩
    rw [HV7.out, ← HQ.out] at hv8
    have hl8 : n8 ≤ 80 := by
      rw [hn8]
      exact room_of B32_pos hc8 (by rw [hv8]; have := HA32.out; omega)
    have HN8 := Lib.hid hn8
    have HV8 := Lib.hid hv8
    have hbw8 : Below w.heap.size w w8 := hbw7.trans (hb8.mono hbw7.size)
    have hrd2d := hrd2c.below hb8
    clear hn8 hv8 hb8 hbw7 hrd2c hrd7
    go_wp2_with fail
    refine (rshl_any a8 n8 p8 l8 k w8 HN8.out hs8 hs8' hrd8 hc8.lim (by omega) (by unfold MaxW; omega)).mono ?_
    rintro e w9 ⟨a9, n9, p9, l9, rfl, hn9, hs9, hs9', hrd9, hc9, hv9, hb9, -⟩
    rw [HV8.out, ← HU.out] at hv9
    have hl9 : n9 ≤ 80 := by
      rw [hn9]
      exact room_of B32_pos hc9 (by rw [hv9]; have := HA32.out; omega)
    have HN9 := Lib.hid hn9
    have HV9 := Lib.hid hv9
    have hbw9 : Below w.heap.size w w9 := hbw8.trans (hb9.mono hbw8.size)
    have hrd2e := hrd2d.below hb9
    clear hn9 hv9 hb9 hbw8 hrd2d hrd8
    go_wp2_with fail
    refine (is_yes a2 n2 p2 l2 a9 n9 p9 l9 w9 HN2.out HN9.out hs2 hs2' hs9 hs9' hrd2e hrd9 hc2 hc9 (by rw [HV2.out, HV9.out]) (by unfold MaxW; omega)).mono ?_
    rintro e wz ⟨rfl, hbz⟩
    have hbwz : Below w.heap.size w wz := hbw9.trans (hbz.mono hbw9.size)
    go_wp2_with fail
    go_ret
    exact ⟨rfl, hbwz⟩
  · have hnb : ((nb U : Int) == 0) = false := by
      have := (nb_spec (show 0 < U by omega)).2.2
      rw [beq_eq_false_iff_ne]; omega
    go_wp2_with fail
    refine (low_any a2 n2 p2 l2 w6 HN2.out hs2 hs2' hrd2' hc2.lim (by unfold MaxW; omega) hT6 (by rw [HV2.out]; exact hu)).mono ?_
    rintro e w' ⟨t, rfl, hlow, htn, rfl⟩
    have hkt : k ≤ t := low_ge hlow (by rw [HV2.out]; exact HU.out)
    have hkt2 : (k : Int) ≤ (t : Int) := by omega
    clear hlow hnb hu
    go_wp2_with fail
    refine (from_any ao n cap l w6 HN.out h1 h2 hr6 hl (by unfold MaxW; omega)).mono ?_
    rintro e w7 ⟨a7, n7, p7, l7, rfl, hn7, hs7, hs7', hrd7, hc7, hv7, hb7, -⟩
    have hl7 : n7 ≤ 80 := by
      rw [hn7]
      exact room_of B32_pos hc7 (by rw [hv7, ← HA.out]; exact HA32.out)
    rw [← HA.out] at hv7
    have HN7 := Lib.hid hn7
    have HV7 := Lib.hid hv7
    have hbw7 : Below w.heap.size w w7 := hbw6.trans (hb7.mono hbw6.size)
    have hrd2c := hrd2'.below hb7
    clear hn7 hv7 hb7 hbw6 hr6 hT6 hrd2'
    go_wp2_with fail
    refine (rshr_any a7 n7 p7 l7 k w7 HN7.out hs7 hs7' hrd7 hc7.lim (by omega) (by unfold MaxW; omega)).mono ?_
    rintro e w8 ⟨a8, n8, p8, l8, rfl, hn8, hs8, hs8', hrd8, hc8, hv8, hb8, -⟩
    rw [HV7.out, ← HQ.out] at hv8
    have hl8 : n8 ≤ 80 := by
      rw [hn8]
      exact room_of B32_pos hc8 (by rw [hv8]; have := HA32.out; omega)
    have HN8 := Lib.hid hn8
    have HV8 := Lib.hid hv8
    have hbw8 : Below w.heap.size w w8 := hbw7.trans (hb8.mono hbw7.size)
    have hrd2d := hrd2c.below hb8
    clear hn8 hv8 hb8 hbw7 hrd2c hrd7
    go_wp2_with fail
    refine (rshl_any a8 n8 p8 l8 k w8 HN8.out hs8 hs8' hrd8 hc8.lim (by omega) (by unfold MaxW; omega)).mono ?_
    rintro e w9 ⟨a9, n9, p9, l9, rfl, hn9, hs9, hs9', hrd9, hc9, hv9, hb9, -⟩
    rw [HV8.out, ← HU.out] at hv9
    have hl9 : n9 ≤ 80 := by
      rw [hn9]
      exact room_of B32_pos hc9 (by rw [hv9]; have := HA32.out; omega)
    have HN9 := Lib.hid hn9
    have HV9 := Lib.hid hv9
    have hbw9 : Below w.heap.size w w9 := hbw8.trans (hb9.mono hbw8.size)
    have hrd2e := hrd2d.below hb9
    clear hn9 hv9 hb9 hbw8 hrd2d hrd8
    go_wp2_with fail
    refine (is_yes a2 n2 p2 l2 a9 n9 p9 l9 w9 HN2.out HN9.out hs2 hs2' hs9 hs9' hrd2e hrd9 hc2 hc9 (by rw [HV2.out, HV9.out]) (by unfold MaxW; omega)).mono ?_
    rintro e wz ⟨rfl, hbz⟩
    have hbwz : Below w.heap.size w wz := hbw9.trans (hbz.mono hbw9.size)
    go_wp2_with fail
    go_ret
    exact ⟨rfl, hbwz⟩
end Go.Proofs.YtmbkhapldbeocaaDoor
