/-
  RefFlt: The reference's cut, bits, Round.
  Flo5: The reference's Finite, Step, signed; the statement's own same; Step of what is no number.
  FloR: What the reference's Float makes of a number, as words.
  RefFlo: The reference's Float.
  Is3: compasslaw3.Is; the reference's Float of any number.
  FloB: compasslaw3's numbers as they are handed in: Light, Of.
-/
import Derived.Test.YtfanhllcoaondaaGreatDoorPk28
import Derived.Test.YtfanhllcoaondaaGreatDoorPk27

namespace Go.Proofs.YtfanhllcoaondaaGreatDoor
open Go.RowKit

set_option maxRecDepth 100000 in
theorem rbitsp_num (p : Nat) (w : World) (h1 : 1 ≤ p) (h2 : p ≤ 65536) : Calls Tryz.prog 139 #[.int .i64 (p : Int)] w fun e w' => RetB w (.int .i64 (p : Int)) e w' := by
  have e1 : max (p : Int) 1 = (p : Int) := by omega
  have e2 : min (p : Int) 65536 = (p : Int) := by omega
  go_enter Tryz.func139, Tryz.ntmps139
  go_wp2_with fail
  go_ret
  exact ⟨rfl, rfl⟩
/-- The amount to which N is cut at so many bits. -/
def cutV (N : Int) (p : Nat) (away : Bool) : Int := if nb N ≤ p then N else N / 2 ^ (nb N - p) + if (decide (¬ N / 2 ^ (nb N - p) * 2 ^ (nb N - p) = N) && away) = true then 1 else 0
set_option maxRecDepth 100000 in
set_option maxHeartbeats 1200000 in
theorem rcut_num {w : World} (L : Nat) (neg : Bool) {a : Option Addr} {n c : Nat} {N : Int} {m E0 b : Nat} (E dir : Int) (p : Nat) (h : RN w (.slice a n c) N m) (hE : E + (L : Int) = (E0 : Int)) (hm : m ≤ 1000) (hm2 : 2 ≤ m) (heb : E0 + 64 * (m + 1) ≤ b) (hLb : L ≤ b) (hb : b ≤ 900000) (hp1 : 1 ≤ p) (hp2 : p ≤ 65536) (hN : 0 < N) :
    Calls Tryz.prog 138 #[.bool neg, .slice a n c, .int .i64 E, .bool false, .int .i64 (p : Int), .int .i64 dir] w fun e w' => RetQZ L w (sg neg (cutV N p (neg == decide (dir < 0))) * 2 ^ (E0 + (nb N - p))) (m + 1) b e w' := by
  obtain ⟨w1, hw1⟩ : ∃ w1, w.alloc (.cells #[.bool false, .slice none 0 0, .int .i64 0] 63) = w1 := ⟨_, rfl⟩
  have hb1 : Below w.heap.size w w1 := hw1 ▸ below_alloc w _
  have hc1 : w1.heap[w.heap.size]? = some (.cells #[.bool false, .slice none 0 0, .int .i64 0] 63 (0, 0)) := hw1 ▸ heap_alloc_new w _
  replace h := h.below hb1
  have hnl : nb N ≤ 32 * m := by
    have hlt := h.lt
    obtain ⟨q1, q2, q3⟩ := nb_spec hN
    have h5 : (2 : Int) ^ (nb N - 1) < 2 ^ (32 * m) := by
      rw [show (2 : Int) ^ (32 * m) = B32 ^ m by rw [Int.pow_mul]; rfl]
      omega
    have := two_pow_lt_of h5
    omega
  have HBLK := Lib.hid hc1
  obtain ⟨V, hV⟩ : ∃ V, cutV N p (neg == decide (dir < 0)) = V := ⟨_, rfl⟩
  rw [hV]
  unfold cutV at hV
  have HBI := Lib.hid (rbits_num h (by omega))
  obtain ⟨B, hB⟩ : ∃ B, nb N = B := ⟨_, rfl⟩
  rw [hB] at hV hnl HBI ⊢
  clear hc1
  by_cases hs : B ≤ p
  · rw [if_pos hs] at hV
    subst hV
    have hn : ¬ (0 : Int) < (B : Int) - (p : Int) := by omega
    have e0 : B - p = 0 := by omega
    rw [e0, Nat.add_zero]
    have HMK := Lib.hid (qmake_num (b := b) L neg E hE (by omega) hLb h (by omega) (by omega) (by omega))
    have HBW := Lib.hid hb1
    have HBT := Lib.hid (Below.refl w1.heap.size w1)
    obtain ⟨T, hT⟩ : ∃ T : Int, (B : Int) - (p : Int) = T := ⟨_, rfl⟩
    rw [hT] at hn
    have hTb : -70000 ≤ T ∧ T ≤ 70000 := by omega
    clear hs e0 hB hnl heb h hb1
    go_enter Tryz.func138, Tryz.ntmps138
    go_wp2_with fail
    refine HBI.out.mono ?_
    rintro e w' ⟨rfl, rfl⟩
    go_wp2_with fail
    refine HMK.out.mono ?_
    rintro e wz ⟨pR, aR, nR, cR, ER, rfl, hr, hbz⟩
    have hblk := slot_kept HBLK.out (HBT.out.trans (hbz.mono HBT.out.size))
    obtain ⟨⟨k0, k1, k2⟩, f0, f1, f2⟩ := slot3 hblk
    have hend := slot3_set (u := .bool pR) (v := .slice aR nR cR) (s := .int .i64 ER) hblk
    have hon := slot3_only (w := wz) (g := w.heap.size) (.bool pR) (.slice aR nR cR) (.int .i64 ER)
    have hbx := HBW.out.trans (hbz.mono HBW.out.size)
    have HR : Hid (RetQZ L w (sg neg N * 2 ^ (E0)) (m + 1) b (.returned (.agg #[.bool pR, .slice aR nR cR, .int .i64 ER])) (((wz.setCell ⟨w.heap.size, 0, none⟩ (.bool pR)).setCell ⟨w.heap.size, 1, none⟩ (.slice aR nR cR)).setCell ⟨w.heap.size, 2, none⟩ (.int .i64 ER))) :=
      Lib.hid ⟨pR, aR, nR, cR, ER, rfl, (hr.var hblk hon).mono (Nat.le_succ m) (Nat.le_refl b), hbx.trans (hon.below (Nat.le_refl _) hbx.size)⟩
    clear hr hbz hon hbx
    go_wp2_with fail
    exact bodyPost_ret (results_cell_row rfl _ _ w.heap.size 63 _ (0, 0) _ rfl hend Tryz.underlying63 rfl (by kernel_rfl)) rfl HR.out
  · rw [if_neg hs] at hV
    obtain ⟨j, hj⟩ : ∃ j, B - p = j := ⟨_, rfl⟩
    rw [hj] at hV ⊢
    have hn : (0 : Int) < (j : Int) := by omega
    have hT : (B : Int) - (p : Int) = (j : Int) := by omega
    obtain ⟨E2, hE2⟩ : ∃ E2 : Int, E + (j : Int) = E2 := ⟨_, rfl⟩
    have hE2L : E2 + (L : Int) = ((E0 + j : Nat) : Int) := by omega
    have hE2b : -1000000 ≤ E2 ∧ E2 ≤ 1000000 := by omega
    have hjb : j ≤ 32 * m := by omega
    obtain ⟨M, hM⟩ : ∃ M, N / 2 ^ j = M := ⟨_, rfl⟩
    rw [hM] at hV
    have HSR := Lib.hid (rshr_num j h (by omega) (by omega))
    rw [hM] at HSR
    have HM := Lib.hid hM
    obtain ⟨rs, hrs⟩ : ∃ rs, decide (¬ M * 2 ^ j = N) = rs := ⟨_, rfl⟩
    obtain ⟨aw, haw⟩ : ∃ aw, (neg == decide (dir < 0)) = aw := ⟨_, rfl⟩
    rw [hrs, haw] at hV
    have HV := Lib.hid hV
    have hcz : (cmpI (M * 2 ^ j) N != 0) = rs := by
      rw [← hrs]
      rcases Int.lt_trichotomy (M * 2 ^ j) N with h1 | h1 | h1
      · rw [cmpI_lt h1, decide_eq_true (by omega)]; rfl
      · rw [cmpI_eq h1, decide_eq_false (by omega)]; rfl
      · rw [cmpI_gt h1, decide_eq_true (by omega)]; rfl
    obtain ⟨o, ho⟩ : ∃ o, cmpI (M * 2 ^ j) N = o := ⟨_, rfl⟩
    rw [ho] at hcz
    have HO := Lib.hid ho
    have HB1 := Lib.hid hb1
    have HH := Lib.hid h
    have HNB : Hid (j ≤ 32 * m ∧ m ≤ 1000 ∧ E0 + 64 * (m + 1) ≤ b ∧ L ≤ b ∧ b ≤ 900000) := Lib.hid ⟨hjb, hm, heb, hLb, hb⟩
    clear hs hB hnl heb hM hrs hV hb1 h ho hj
    go_enter Tryz.func138, Tryz.ntmps138
    go_wp2_with fail
    refine HBI.out.mono ?_
    rintro e w' ⟨rfl, rfl⟩
    go_wp2_with fail
    refine HSR.out.mono ?_
    rintro e w2 ⟨a2, n2, c2, rfl, h2, hb2⟩
    have H2 := Lib.hid h2
    have HB2 := Lib.hid hb2
    have HSL := Lib.hid (rshl_num (p := 3000) j h2 (by have := HNB.out; omega) (by have := HNB.out; omega) (by have := HNB.out; omega))
    clear h2 hb2
    go_wp2_with fail
    refine HSL.out.mono ?_
    rintro e w3 ⟨a3, n3, c3, rfl, h3, hb3⟩
    have HB3 := Lib.hid (HB2.out.trans (hb3.mono HB2.out.size))
    have h23 := H2.out.below hb3
    have hcm := rcmp_num h3 (HH.out.below HB3.out)
    rw [HO.out] at hcm
    have HCM := Lib.hid hcm
    have H23 := Lib.hid h23
    clear h3 hb3 hcm h23 HSL
    go_wp2_with fail
    refine HCM.out.mono ?_
    rintro e w4 ⟨rfl, hb4⟩
    have HBT := Lib.hid (HB3.out.trans (hb4.mono HB3.out.size))
    have HBW := Lib.hid (HB1.out.trans (HBT.out.mono HB1.out.size))
    have h24 := H23.out.below hb4
    have H24 := Lib.hid h24
    clear hb4 h24
    have HMK : Hid (Calls Tryz.prog 85 #[.bool neg, .slice a2 n2 c2, .int .i64 E2] w4 fun e w' => RetQZ L w4 (sg neg M * 2 ^ (E0 + j)) m b e w') := Lib.hid (qmake_num (b := b) L neg E2 hE2L (by have := HNB.out; omega) hLb H24.out (by have := HNB.out; omega) (by have := HNB.out; omega) (by have := HNB.out; omega))
    have arm : (rs && aw) = false → V = M := fun h => by
      have := HV.out
      rw [h] at this
      simpa using this.symm
    have ARM := Lib.hid arm
    clear arm
    cases rs
    · obtain rfl := ARM.out rfl
      go_wp2_with fail
      refine HMK.out.mono ?_
      rintro e wz ⟨pR, aR, nR, cR, ER, rfl, hr, hbz⟩
      have hblk := slot_kept HBLK.out (HBT.out.trans (hbz.mono HBT.out.size))
      obtain ⟨⟨k0, k1, k2⟩, f0, f1, f2⟩ := slot3 hblk
      have hend := slot3_set (u := .bool pR) (v := .slice aR nR cR) (s := .int .i64 ER) hblk
      have hon := slot3_only (w := wz) (g := w.heap.size) (.bool pR) (.slice aR nR cR) (.int .i64 ER)
      have hbx := HBW.out.trans (hbz.mono HBW.out.size)
      have HR : Hid (RetQZ L w (sg neg V * 2 ^ (E0 + j)) (m + 1) b (.returned (.agg #[.bool pR, .slice aR nR cR, .int .i64 ER])) (((wz.setCell ⟨w.heap.size, 0, none⟩ (.bool pR)).setCell ⟨w.heap.size, 1, none⟩ (.slice aR nR cR)).setCell ⟨w.heap.size, 2, none⟩ (.int .i64 ER))) :=
        Lib.hid ⟨pR, aR, nR, cR, ER, rfl, (hr.var hblk hon).mono (Nat.le_succ m) (Nat.le_refl b), hbx.trans (hon.below (Nat.le_refl _) hbx.size)⟩
      clear hr hbz hon hbx
      go_wp2_with fail
      exact bodyPost_ret (results_cell_row rfl _ _ w.heap.size 63 _ (0, 0) _ rfl hend Tryz.underlying63 rfl (by kernel_rfl)) rfl HR.out
    · cases aw
      · obtain rfl := ARM.out rfl
        go_wp2_with fail
        refine HMK.out.mono ?_
        rintro e wz ⟨pR, aR, nR, cR, ER, rfl, hr, hbz⟩
        have hblk := slot_kept HBLK.out (HBT.out.trans (hbz.mono HBT.out.size))
        obtain ⟨⟨k0, k1, k2⟩, f0, f1, f2⟩ := slot3 hblk
        have hend := slot3_set (u := .bool pR) (v := .slice aR nR cR) (s := .int .i64 ER) hblk
        have hon := slot3_only (w := wz) (g := w.heap.size) (.bool pR) (.slice aR nR cR) (.int .i64 ER)
        have hbx := HBW.out.trans (hbz.mono HBW.out.size)
        have HR : Hid (RetQZ L w (sg neg V * 2 ^ (E0 + j)) (m + 1) b (.returned (.agg #[.bool pR, .slice aR nR cR, .int .i64 ER])) (((wz.setCell ⟨w.heap.size, 0, none⟩ (.bool pR)).setCell ⟨w.heap.size, 1, none⟩ (.slice aR nR cR)).setCell ⟨w.heap.size, 2, none⟩ (.int .i64 ER))) :=
          Lib.hid ⟨pR, aR, nR, cR, ER, rfl, (hr.var hblk hon).mono (Nat.le_succ m) (Nat.le_refl b), hbx.trans (hon.below (Nat.le_refl _) hbx.size)⟩
        clear hr hbz hon hbx
        go_wp2_with fail
        exact bodyPost_ret (results_cell_row rfl _ _ w.heap.size 63 _ (0, 0) _ rfl hend Tryz.underlying63 rfl (by kernel_rfl)) rfl HR.out
      · have HV1 : Hid (M + 1 = V) := Lib.hid (by have := HV.out; simpa using this)
        have HSM := Lib.hid (small_num 1 w4 (by decide) (by decide))
        clear ARM HV HMK
        go_wp2_with fail
        refine HSM.out.mono ?_
        rintro e w5 ⟨a5, n5, c5, rfl, h5, hb5⟩
        have HB5 := Lib.hid hb5
        have hAD := radd_num (p := m + 1) (H24.out.below hb5) h5 (by omega) (by omega) (by have := HNB.out; omega)
        rw [HV1.out] at hAD
        have HAD := Lib.hid hAD
        clear h5 hb5 hAD HSM
        go_wp2_with fail
        refine HAD.out.mono ?_
        rintro e w6 ⟨a6, n6, c6, rfl, h6, hb6⟩
        have HBW6 := Lib.hid (HBW.out.trans ((HB5.out.trans (hb6.mono HB5.out.size)).mono HBW.out.size))
        have HBT6 := Lib.hid (HBT.out.trans ((HB5.out.trans (hb6.mono HB5.out.size)).mono HBT.out.size))
        have HMK : Hid (Calls Tryz.prog 85 #[.bool neg, .slice a6 n6 c6, .int .i64 E2] w6 fun e w' => RetQZ L w6 (sg neg V * 2 ^ (E0 + j)) (m + 1) b e w') := Lib.hid (qmake_num (b := b) L neg E2 hE2L (by have := HNB.out; omega) hLb h6 (by have := HNB.out; omega) (by have := HNB.out; omega) (by have := HNB.out; omega))
        clear h6 hb6 HAD
        go_wp2_with fail
        refine HMK.out.mono ?_
        rintro e wz ⟨pR, aR, nR, cR, ER, rfl, hr, hbz⟩
        have hblk := slot_kept HBLK.out (HBT6.out.trans (hbz.mono HBT6.out.size))
        obtain ⟨⟨k0, k1, k2⟩, f0, f1, f2⟩ := slot3 hblk
        have hend := slot3_set (u := .bool pR) (v := .slice aR nR cR) (s := .int .i64 ER) hblk
        have hon := slot3_only (w := wz) (g := w.heap.size) (.bool pR) (.slice aR nR cR) (.int .i64 ER)
        have hbx := HBW6.out.trans (hbz.mono HBW6.out.size)
        have HR : Hid (RetQZ L w (sg neg V * 2 ^ (E0 + j)) (m + 1) b (.returned (.agg #[.bool pR, .slice aR nR cR, .int .i64 ER])) (((wz.setCell ⟨w.heap.size, 0, none⟩ (.bool pR)).setCell ⟨w.heap.size, 1, none⟩ (.slice aR nR cR)).setCell ⟨w.heap.size, 2, none⟩ (.int .i64 ER))) :=
          Lib.hid ⟨pR, aR, nR, cR, ER, rfl, (hr.var hblk hon).mono (Nat.le_refl _) (Nat.le_refl b), hbx.trans (hon.below (Nat.le_refl _) hbx.size)⟩
        clear hr hbz hon hbx
        go_wp2_with fail
        exact bodyPost_ret (results_cell_row rfl _ _ w.heap.size 63 _ (0, 0) _ rfl hend Tryz.underlying63 rfl (by kernel_rfl)) rfl HR.out
set_option maxRecDepth 100000 in
set_option maxHeartbeats 1200000 in
theorem rround_num {w : World} (L : Nat) (neg : Bool) {a : Option Addr} {n c : Nat} {N : Int} {m E0 b : Nat} (E dir : Int) (p : Nat) (h : RN w (.slice a n c) N m) (hE : E + (L : Int) = (E0 : Int)) (hm : m ≤ 1000) (hm2 : 2 ≤ m) (heb : E0 + 64 * (m + 1) ≤ b) (hLb : L ≤ b) (hb : b ≤ 900000) (hp1 : 1 ≤ p) (hp2 : p ≤ 65536) (hN : 0 < N) :
    Calls Tryz.prog 98 #[.agg #[.bool neg, .slice a n c, .int .i64 E], .int .i64 (p : Int), .int .i64 dir] w fun e w' => RetQZ L w (sg neg (cutV N p (neg == decide (dir < 0))) * 2 ^ (E0 + (nb N - p))) (m + 1) b e w' := by
  obtain ⟨w1, hw1⟩ : ∃ w1, w.alloc (.cells #[.bool neg, .slice a n c, .int .i64 E] 63) = w1 := ⟨_, rfl⟩
  obtain ⟨w2, hw2⟩ : ∃ w2, w1.alloc (.cells #[.bool false, .slice none 0 0, .int .i64 0] 63) = w2 := ⟨_, rfl⟩
  have hb1 : Below w.heap.size w w1 := hw1 ▸ below_alloc w _
  have hb12 : Below w1.heap.size w1 w2 := hw2 ▸ below_alloc w1 _
  have hbw2 := hb1.trans (hb12.mono hb1.size)
  have hc1 : w2.heap[w.heap.size]? = some (.cells #[.bool neg, .slice a n c, .int .i64 E] 63 (0, 0)) := slot_kept (hw1 ▸ heap_alloc_new w _) hb12
  have hc2 : w2.heap[w1.heap.size]? = some (.cells #[.bool false, .slice none 0 0, .int .i64 0] 63 (0, 0)) := hw2 ▸ heap_alloc_new w1 _
  have hs1 : w.heap.size ≤ w1.heap.size := hb1.size
  replace h := h.below hbw2
  clear hb1 hb12
  go_enter Tryz.func98, Tryz.ntmps98
  go_upto_region 1 with fail
  refine wp_region_slots_tail (by kernel_rfl) 10 [7, 8, 9, 10, 11, 12, 13, 14, 15, 16] (fun w' => (w'.heap[w.heap.size]? = some (.cells #[.bool neg, .slice a n c, .int .i64 E] 63 (0, 0))) ∧ (w'.heap[w1.heap.size]? = some (.cells #[.bool false, .slice none 0 0, .int .i64 0] 63 (0, 0))) ∧ (RN w' (.slice a n c) N m) ∧ (Below w2.heap.size w2 w')) (Said [Is (.pointer (some ⟨w.heap.size, 0, none⟩)), Is (.bool neg), Is (.pointer (some ⟨w.heap.size, 1, none⟩)), Is (.slice a n c), Is (.pointer (some ⟨w.heap.size, 2, none⟩)), Is (.int .i64 E), Is (.int .i64 (p : Int)), Is (.int .i64 (p : Int)), Is (.int .i64 dir), IsQZ L (sg neg (cutV N p (neg == decide (dir < 0))) * 2 ^ (E0 + (nb N - p))) (m + 1) b]) (by kernel_rfl) (by kernel_rfl) (by kernel_rfl) (by kernel_rfl) (by kernel_rfl) (Said.keep ?keep) ⟨slot_kept hc1 (bdn (Below.refl _ _) 1), slot_kept hc2 (bdn (Below.refl _ _) 1), h.below (bdn (Below.refl _ _) 1), bdn (Below.refl _ _) 1⟩ (l := [0, 1, 2, 3, 4, 5, 6, 7, 8, 9]) (by kernel_rfl) ?step ?fin
  case keep =>
    refine List.forall_mem_cons.2 ⟨Is.keeps _, ?_⟩
    refine List.forall_mem_cons.2 ⟨Is.keeps _, ?_⟩
    refine List.forall_mem_cons.2 ⟨Is.keeps _, ?_⟩
    refine List.forall_mem_cons.2 ⟨Is.keeps _, ?_⟩
    refine List.forall_mem_cons.2 ⟨Is.keeps _, ?_⟩
    refine List.forall_mem_cons.2 ⟨Is.keeps _, ?_⟩
    refine List.forall_mem_cons.2 ⟨Is.keeps _, ?_⟩
    refine List.forall_mem_cons.2 ⟨Is.keeps _, ?_⟩
    refine List.forall_mem_cons.2 ⟨Is.keeps _, ?_⟩
    refine List.forall_mem_cons.2 ⟨IsQZ.keeps _ _ _ _, ?_⟩
    exact fun _ h => nomatch h
  case step =>
    refine List.forall_mem_cons.2 ⟨?_, ?_⟩
    · refine SlotStep.plain rfl rfl rfl ?_
      intro tm ws hsame hS hg K hK
      have e3 : tm[3]? = some (.pointer (some ⟨w.heap.size, 0, none⟩)) := hsame.2 3 rfl
      go_simp
      exact hK _ _ (Below.refl _ _) hS rfl
    refine List.forall_mem_cons.2 ⟨?_, ?_⟩
    · refine SlotStep.plain rfl rfl rfl ?_
      intro tm ws hsame hS hg K hK
      obtain ⟨v7, e7, rfl⟩ := hg 0 (by kernel_rfl) _ 7 rfl rfl
      obtain ⟨⟨k0, k1, k2⟩, -⟩ := slot3 (hS.1)
      go_simp
      exact hK _ _ (Below.refl _ _) hS rfl
    refine List.forall_mem_cons.2 ⟨?_, ?_⟩
    · refine SlotStep.plain rfl rfl rfl ?_
      intro tm ws hsame hS hg K hK
      have e3 : tm[3]? = some (.pointer (some ⟨w.heap.size, 0, none⟩)) := hsame.2 3 rfl
      go_simp
      exact hK _ _ (Below.refl _ _) hS rfl
    refine List.forall_mem_cons.2 ⟨?_, ?_⟩
    · refine SlotStep.plain rfl rfl rfl ?_
      intro tm ws hsame hS hg K hK
      obtain ⟨v9, e9, rfl⟩ := hg 2 (by kernel_rfl) _ 9 rfl rfl
      obtain ⟨⟨k0, k1, k2⟩, -⟩ := slot3 (hS.1)
      go_simp
      exact hK _ _ (Below.refl _ _) hS rfl
    refine List.forall_mem_cons.2 ⟨?_, ?_⟩
    · refine SlotStep.plain rfl rfl rfl ?_
      intro tm ws hsame hS hg K hK
      have e3 : tm[3]? = some (.pointer (some ⟨w.heap.size, 0, none⟩)) := hsame.2 3 rfl
      go_simp
      exact hK _ _ (Below.refl _ _) hS rfl
    refine List.forall_mem_cons.2 ⟨?_, ?_⟩
    · refine SlotStep.plain rfl rfl rfl ?_
      intro tm ws hsame hS hg K hK
      obtain ⟨v11, e11, rfl⟩ := hg 4 (by kernel_rfl) _ 11 rfl rfl
      obtain ⟨⟨k0, k1, k2⟩, -⟩ := slot3 (hS.1)
      go_simp
      exact hK _ _ (Below.refl _ _) hS rfl
    refine List.forall_mem_cons.2 ⟨?_, ?_⟩
    · refine SlotStep.plain rfl rfl rfl ?_
      intro tm ws hsame hS hg K hK
      have e1 : tm[1]? = some (.int .i64 (p : Int)) := hsame.2 1 rfl
      go_simp
      exact hK _ _ (Below.refl _ _) hS rfl
    refine List.forall_mem_cons.2 ⟨?_, ?_⟩
    · refine SlotStep.plain rfl rfl rfl ?_
      intro tm ws hsame hS hg K hK
      obtain ⟨v13, e13, rfl⟩ := hg 6 (by kernel_rfl) _ 13 rfl rfl
      go_simp
      refine (rbitsp_num p ws hp1 hp2).mono ?_
      rintro e wm ⟨rfl, rfl⟩
      exact hK _ _ (Below.refl _ _) hS rfl
    refine List.forall_mem_cons.2 ⟨?_, ?_⟩
    · refine SlotStep.plain rfl rfl rfl ?_
      intro tm ws hsame hS hg K hK
      have e2 : tm[2]? = some (.int .i64 dir) := hsame.2 2 rfl
      go_simp
      exact hK _ _ (Below.refl _ _) hS rfl
    refine List.forall_mem_cons.2 ⟨?_, ?_⟩
    · refine SlotStep.plain rfl rfl rfl ?_
      intro tm ws hsame hS hg K hK
      obtain ⟨v8, e8, rfl⟩ := hg 1 (by kernel_rfl) _ 8 rfl rfl
      obtain ⟨v10, e10, rfl⟩ := hg 3 (by kernel_rfl) _ 10 rfl rfl
      obtain ⟨v12, e12, rfl⟩ := hg 5 (by kernel_rfl) _ 12 rfl rfl
      obtain ⟨v14, e14, rfl⟩ := hg 7 (by kernel_rfl) _ 14 rfl rfl
      obtain ⟨v15, e15, rfl⟩ := hg 8 (by kernel_rfl) _ 15 rfl rfl
      go_simp
      refine (rcut_num L neg E dir p hS.2.2.1 hE hm hm2 heb hLb hb hp1 hp2 hN).mono ?_
      rintro e wm ⟨pR, aR, nR, cR, ER, rfl, hR, hb⟩
      exact hK _ _ hb (⟨slot_kept (hS.1) (hb), slot_kept (hS.2.1) (hb), (hS.2.2.1).below (hb), (hS.2.2.2).trans (Below.mono (hb) (hS.2.2.2).size)⟩) ⟨pR, aR, nR, cR, ER, rfl, hR⟩
    exact fun _ h => nomatch h
  case fin =>
    intro tm w8 hsame hS hgot
    obtain ⟨u, hu, htm⟩ := hsame.form (by kernel_rfl)
    obtain ⟨v16, e16, pR, aR, nR, cR, ER, rfl, hr⟩ := hgot 9 (by decide) _ 16 rfl rfl
    have h16 := hu _ _ e16
    obtain ⟨-, hblk, -, hb8⟩ := hS
    obtain ⟨⟨q0, q1, q2⟩, f0, f1, f2⟩ := slot3 hblk
    have hend := slot3_set (u := .bool pR) (v := .slice aR nR cR) (s := .int .i64 ER) hblk
    have hon := slot3_only (w := w8) (g := w1.heap.size) (.bool pR) (.slice aR nR cR) (.int .i64 ER)
    have hr' := hr.var hblk hon
    have hbz := hbw2.trans (hb8.mono hbw2.size)
    have HR : Hid (RetQZ L w (sg neg (cutV N p (neg == decide (dir < 0))) * 2 ^ (E0 + (nb N - p))) (m + 1) b (.returned (.agg #[.bool pR, .slice aR nR cR, .int .i64 ER])) (((w8.setCell ⟨w1.heap.size, 0, none⟩ (.bool pR)).setCell ⟨w1.heap.size, 1, none⟩ (.slice aR nR cR)).setCell ⟨w1.heap.size, 2, none⟩ (.int .i64 ER))) :=
      Lib.hid ⟨pR, aR, nR, cR, ER, rfl, hr', hbz.trans (hon.below hs1 hbz.size)⟩
    clear hgot hu hsame e16 hr hr'
    rw [htm]
    clear htm tm
    simp only [List.foldl_cons, List.foldl_nil, List.setIfInBounds_toArray, List.set_cons_zero, List.set_cons_succ, h16, List.drop_succ_cons, List.drop_zero]
    clear h16
    go_wp2_with fail
    exact bodyPost_ret (results_cell_row rfl _ _ w1.heap.size 63 _ (0, 0) _ rfl hend Tryz.underlying63 rfl (by kernel_rfl)) rfl HR.out
end Go.Proofs.YtfanhllcoaondaaGreatDoor

namespace Go.Proofs.YtfanhllcoaondaaGreatDoor
open Go.RowKit

theorem neg_lt {b : Nat} (hb : b < 18446744073709551616) : Op.negFloat .f64 b < 18446744073709551616 := by
  have e : Op.negFloat .f64 b = b ^^^ 2 ^ 63 := rfl
  rw [e]
  exact Nat.xor_lt_two_pow (n := 64) hb (by decide)
theorem neg_val {b : Nat} (hb : b < 18446744073709551616) : Op.negFloat .f64 b = if b < 9223372036854775808 then 9223372036854775808 + b else b - 9223372036854775808 := by
  obtain ⟨h1, h2⟩ := neg_word hb
  have h3 := neg_lt hb
  generalize Op.negFloat .f64 b = n at h1 h2 h3
  unfold rg at h1
  have e1 : fneg b = decide (9223372036854775808 ≤ b) := by
    unfold fneg
    by_cases h : 9223372036854775808 ≤ b
    · rw [decide_eq_true h, show b / 9223372036854775808 % 2 = 1 by omega]; rfl
    · rw [decide_eq_false h, show b / 9223372036854775808 % 2 = 0 by omega]; rfl
  have e2 : fneg n = decide (9223372036854775808 ≤ n) := by
    unfold fneg
    by_cases h : 9223372036854775808 ≤ n
    · rw [decide_eq_true h, show n / 9223372036854775808 % 2 = 1 by omega]; rfl
    · rw [decide_eq_false h, show n / 9223372036854775808 % 2 = 0 by omega]; rfl
  rw [e1, e2] at h2
  by_cases h : b < 9223372036854775808
  · rw [if_pos h]
    rw [decide_eq_false (show ¬ 9223372036854775808 ≤ b by omega)] at h2
    have : 9223372036854775808 ≤ n := by simpa using h2
    omega
  · rw [if_neg h]
    rw [decide_eq_true (show 9223372036854775808 ≤ b by omega)] at h2
    have : ¬ 9223372036854775808 ≤ n := by simpa using h2
    omega
theorem step_neg {b : Nat} (hb : b < 18446744073709551616) (h : rg b ≤ INF) : Op.negFloat .f64 (stepW (Op.negFloat .f64 b) false) = stepW b true := by
  have hI : INF = 9218868437227405312 := rfl
  have hn := neg_val hb
  obtain ⟨hr, -⟩ := neg_word hb
  by_cases h0 : rg b = 0
  · rw [stepW_zero (by rw [hr]; exact h0), stepW_zero h0]
    decide
  · rcases word_cases hb with ⟨e1, -⟩ | ⟨e1, -⟩
    · have hlt := rg_lt b
      rw [e1] at hn hlt
      rw [if_pos (rg_lt b)] at hn
      rw [e1, hn, stepW_neg h0 (rg_lt b), stepW_pos h0 (rg_lt b), if_neg (by decide), if_pos rfl, neg_val (by omega), if_neg (by omega)]
      omega
    · have hlt := rg_lt b
      rw [e1] at hn
      rw [if_neg (by omega)] at hn
      rw [show 9223372036854775808 + rg b - 9223372036854775808 = rg b by omega] at hn
      rw [e1, hn, stepW_neg h0 (rg_lt b), stepW_pos h0 (rg_lt b), if_neg (by decide), if_pos rfl]
      by_cases hi : rg b = INF
      · rw [if_pos hi, if_pos hi, neg_val (by omega), if_pos (by omega)]
      · rw [if_neg hi, if_neg hi, neg_val (by omega), if_pos (by omega)]
        omega
theorem feq_nan {b : Nat} (h : INF < rg b) : (FloatKind.f64.format.order b b == some Ordering.eq) = false := by
  show (Ieee.double.order b b == some Ordering.eq) = false
  rw [order_nan_left h]; rfl
theorem fne_nan {b : Nat} (h : INF < rg b) : (FloatKind.f64.format.order b b != some Ordering.eq) = true := by
  show (!(FloatKind.f64.format.order b b == some Ordering.eq)) = true
  rw [feq_nan h]; rfl
theorem fne_not {b : Nat} (h : rg b ≤ INF) : (FloatKind.f64.format.order b b != some Ordering.eq) = false := by
  show (!(FloatKind.f64.format.order b b == some Ordering.eq)) = false
  rw [feq_num h h, decide_eq_true rfl]; rfl
theorem feq_zero {b : Nat} (h : rg b ≤ INF) : (FloatKind.f64.format.order b 0 == some Ordering.eq) = decide (rg b = 0) := by
  have f0 : fv 0 = 0 := by decide
  rw [feq_num h (by decide), f0]
  by_cases e : rg b = 0
  · rw [decide_eq_true e, fv_def, e]
    exact decide_eq_true (by split <;> rfl)
  · rw [decide_eq_false e]
    refine decide_eq_false fun h0 => e (un_eq_zero ?_)
    rw [fv_def] at h0
    split at h0 <;> omega
set_option maxRecDepth 100000 in
theorem rfin_num (b : Nat) (w : World) (hb : b < 18446744073709551616) : Calls Tryz.prog 30 #[.float .f64 b] w fun e w' => RetB w (.bool (decide (rg b < INF))) e w' := by
  have h1 : (b : Int) / 4503599627370496 % 2048 = ((b / 4503599627370496 % 2048 : Nat) : Int) := by omega
  have hf : ((((b / 4503599627370496 % 2048 : Nat) : Int)) != 2047) = decide (rg b < INF) := by
    have h := field_inf (b := b)
    by_cases e : rg b < INF
    · rw [decide_eq_true e]
      simp only [bne_iff_ne, ne_eq]
      omega
    · rw [decide_eq_false e]
      simp only [bne_eq_false_iff_eq]
      omega
  obtain ⟨F, hF⟩ : ∃ F, b / 4503599627370496 % 2048 = F := ⟨_, rfl⟩
  rw [hF] at h1 hf
  obtain ⟨r, hr⟩ : ∃ r, decide (rg b < INF) = r := ⟨_, rfl⟩
  rw [hr] at hf ⊢
  clear hF hr
  go_enter Tryz.func30, Tryz.ntmps30
  go_wp2_with (simp only [bits_run])
  go_ret
  exact ⟨rfl, rfl⟩
set_option maxRecDepth 100000 in
/-- same of two words that are the same number. -/
theorem same_num (a b : Nat) (w : World) (ha : rg a ≤ INF) (hb : rg b ≤ INF) (h : fv a = fv b) : Calls Tryz.prog 32 #[.float .f64 a, .float .f64 b] w fun e w' => RetB w (.bool true) e w' := by
  have h1 : (FloatKind.f64.format.order a b == some Ordering.eq) = true := by rw [feq_num ha hb]; exact decide_eq_true h
  clear ha hb h
  go_enter Tryz.func32, Tryz.ntmps32
  go_wp2_with fail
  go_ret
  exact ⟨rfl, rfl⟩
set_option maxRecDepth 100000 in
theorem same_nan (b : Nat) (w : World) (h : INF < rg b) : Calls Tryz.prog 32 #[.float .f64 b, .float .f64 b] w fun e w' => RetB w (.bool true) e w' := by
  have h1 := feq_nan h
  have h2 := fne_nan h
  clear h
  go_enter Tryz.func32, Tryz.ntmps32
  go_wp2_with fail
  go_ret
  exact ⟨rfl, rfl⟩
set_option maxRecDepth 100000 in
theorem fsign_num (b : Nat) (neg : Bool) (w : World) : Calls Tryz.prog 97 #[.float .f64 b, .bool neg] w fun e w' => RetB w (.float .f64 (if neg then Op.negFloat .f64 b else b)) e w' := by
  cases neg
  all_goals
    go_enter Tryz.func97, Tryz.ntmps97
    go_wp2_with (simp only [unary_neg_float])
    go_ret
    exact ⟨rfl, rfl⟩
set_option maxRecDepth 100000 in
theorem rstep_up (b : Nat) (dir : Int) (w : World) (hd : ¬ dir < 0) (hb : b < 18446744073709551616) (h : rg b ≤ INF) : Calls Tryz.prog 34 #[.float .f64 b, .int .i64 dir] w fun e w' => RetB w (.float .f64 (stepW b false)) e w' := by
  have hI : INF = 9218868437227405312 := rfl
  have q1 := fne_not h
  have q2 := feq_zero h
  by_cases h0 : rg b = 0
  · rw [decide_eq_true h0] at q2
    rw [stepW_zero h0]
    clear h0 h hb
    go_enter Tryz.func34, Tryz.ntmps34
    go_wp2_with (first | simp only [bits_run] | simp only [frombits_run])
    go_ret
    exact ⟨rfl, rfl⟩
  · rw [decide_eq_false h0] at q2
    have hlt := rg_lt b
    rcases word_cases hb with ⟨e1, -⟩ | ⟨e1, -⟩
    · have es := stepW_pos (r := rg b) h0 (rg_lt b) false
      rw [if_neg (by decide), ← e1] at es
      rw [es]
      by_cases hi : b = INF
      · rw [if_pos hi]
        have hbI : b = 9218868437227405312 := by omega
        subst hbI
        clear es hi e1 hlt h0 h hb
        go_enter Tryz.func34, Tryz.ntmps34
        go_wp2_with (first | simp only [bits_run] | simp only [frombits_run])
        go_ret
        exact ⟨rfl, rfl⟩
      · rw [if_neg hi]
        have c1 : ((b : Int) == 9218868437227405312) = false := by simp; omega
        have c2 : ((b : Int) / 9223372036854775808 == 1) = false := by
          have : (b : Int) / 9223372036854775808 = 0 := by omega
          rw [this]; rfl
        have c3 : ((b : Int) + 1).toNat = b + 1 := by omega
        have C3 := Lib.hid c3
        have hb1 : b + 1 < 18446744073709551616 := by omega
        clear es hi e1 hlt h0 h hb c3
        go_enter Tryz.func34, Tryz.ntmps34
        go_wp2_with (first | simp only [bits_run] | simp only [frombits_run])
        go_ret
        exact ⟨congrArg (fun n => Ending.returned (Value.float FloatKind.f64 n)) C3.out, rfl⟩
    · have es : stepW b false = b - 1 := by
        rw [e1, stepW_neg h0 (rg_lt b), if_neg (by decide), ← e1]
      rw [es]
      have c1 : ((b : Int) == 9218868437227405312) = false := by simp; omega
      have c2 : ((b : Int) / 9223372036854775808 == 1) = true := by
        have : (b : Int) / 9223372036854775808 = 1 := by omega
        rw [this]; rfl
      have c3 : ((b : Int) - 1).toNat = b - 1 := by omega
      have C3 := Lib.hid c3
      have hb1 : 1 ≤ b := by omega
      clear es e1 hlt h0 h c3 C3
      go_enter Tryz.func34, Tryz.ntmps34
      go_wp2_with (first | simp only [bits_run] | simp only [frombits_run])
      go_ret
      exact ⟨rfl, rfl⟩
set_option maxRecDepth 100000 in
theorem rstep_num (b : Nat) (dir : Int) (w : World) (hb : b < 18446744073709551616) (h : rg b ≤ INF) : Calls Tryz.prog 34 #[.float .f64 b, .int .i64 dir] w fun e w' => RetB w (.float .f64 (stepW b (decide (dir < 0)))) e w' := by
  by_cases hd : dir < 0
  · rw [decide_eq_true hd]
    have q1 := fne_not h
    have hn := neg_word hb
    have HUP := Lib.hid (rstep_up (Op.negFloat .f64 b) 1 w (by decide) (neg_lt hb) (by rw [hn.1]; exact h))
    have HS := Lib.hid (step_neg hb h)
    clear hn h hb
    go_enter Tryz.func34, Tryz.ntmps34
    go_wp2_with (simp only [unary_neg_float])
    refine HUP.out.mono ?_
    rintro e w' ⟨rfl, rfl⟩
    go_wp2_with (simp only [unary_neg_float])
    go_ret
    exact ⟨congrArg (fun n => Ending.returned (Value.float FloatKind.f64 n)) HS.out, rfl⟩
  · rw [decide_eq_false hd]
    exact rstep_up b dir w hd hb h
set_option maxRecDepth 100000 in
theorem rstep_nan (b : Nat) (dir : Int) (w : World) (h : INF < rg b) : Calls Tryz.prog 34 #[.float .f64 b, .int .i64 dir] w fun e w' => RetB w (.float .f64 b) e w' := by
  have q1 := fne_nan h
  clear h
  go_enter Tryz.func34, Tryz.ntmps34
  go_wp2_with fail
  go_ret
  exact ⟨rfl, rfl⟩
set_option maxRecDepth 100000 in
theorem isnan_yes (b : Nat) (w : World) (h : INF < rg b) : Calls Tryz.prog 90 #[.float .f64 b] w fun e w' => RetB w (.bool true) e w' := by
  have h1 := fne_nan h
  clear h
  go_enter Tryz.func90, Tryz.ntmps90
  go_wp2_with fail
  go_ret
  exact ⟨rfl, rfl⟩
set_option maxRecDepth 100000 in
theorem step_nan (b : Nat) (dir : Int) (w : World) (h : INF < rg b) : Calls Tryz.prog 33 #[.float .f64 b, .int .i64 dir] w fun e w' => RetB w (.float .f64 b) e w' := by
  have HN := Lib.hid (isnan_yes b w h)
  clear h
  go_enter Tryz.func33, Tryz.ntmps33
  go_wp2_with fail
  refine HN.out.mono ?_
  rintro e w' ⟨rfl, rfl⟩
  go_wp2_with fail
  go_ret
  exact ⟨rfl, rfl⟩
end Go.Proofs.YtfanhllcoaondaaGreatDoor

namespace Go.Proofs.YtfanhllcoaondaaGreatDoor
open Go.RowKit

def sgn (neg : Bool) (r : Nat) : Nat := if neg then 9223372036854775808 + r else r
theorem neg_sgn {neg : Bool} {r : Nat} (h : r < 9223372036854775808) : (if neg then Op.negFloat .f64 r else r) = sgn neg r := by
  unfold sgn
  cases neg
  · rfl
  · rw [if_pos rfl, if_pos rfl, neg_val (by omega), if_pos h]
theorem sgW_sgn {neg : Bool} {R : Nat} (h : R ≠ 0) : sgW neg R = sgn neg R := by
  cases neg
  · rfl
  · exact if_neg h
/-- A word's step away from nought. -/
theorem step_away {neg : Bool} {R : Nat} (h : R < INF) : stepW (sgW neg R) neg = sgn neg (R + 1) := by
  have hI : INF = 9218868437227405312 := rfl
  by_cases h0 : R = 0
  · subst h0; cases neg <;> decide
  · cases neg
    · show stepW R false = R + 1
      rw [stepW_pos h0 (by omega), if_neg (by decide), if_neg (by omega)]
    · show stepW (if R = 0 then 0 else 9223372036854775808 + R) true = 9223372036854775808 + (R + 1)
      rw [if_neg h0, stepW_neg h0 (by omega), if_pos rfl, if_neg (by omega)]
      omega
theorem tz_tiny {N E : Int} (hN : 0 < N) (hT : (nb N : Int) + E ≤ -1074) : TZ 0 false N E := by
  refine ⟨by decide, fun h => (by cases h), fun _ K hK hEK => ?_⟩
  have e0 : (un (0 + 1) : Int) = 1 := by decide
  rw [un_zero, e0, Int.one_mul]
  have hp := pow2_pos (E + K).toNat
  have h0 : 0 < N * 2 ^ (E + K).toNat := Int.mul_pos hN hp
  refine ⟨by simpa using h0, fun _ => ?_⟩
  obtain ⟨-, h2, -⟩ := nb_spec hN
  have h3 : N * 2 ^ (E + K).toNat < 2 ^ nb N * 2 ^ (E + K).toNat := Int.mul_lt_mul_of_pos_right h2 hp
  rw [← Int.pow_add] at h3
  have h4 : (2 : Int) ^ (nb N + (E + K).toNat) ≤ 2 ^ (K - 1074) := pow_le_pow (by decide) (by omega)
  omega
theorem flo_small {neg : Bool} {N E : Int} {R : Nat} {ex down : Bool} (hN : 0 < N) (hT : (nb N : Int) + E ≤ -1074) (h : TZ R ex N E) : floW neg R ex down = if (neg == down) = true then sgn neg 1 else 0 := by
  obtain ⟨rfl, rfl⟩ := h.unique (tz_tiny hN hT)
  cases neg <;> cases down <;> decide
theorem tz_exact {N E : Int} {r L : Nat} (hr : r < INF) (hL : (L : Int) = E + 1074) (hu : (un r : Int) = N * 2 ^ L) : TZ r true N E := by
  refine ⟨hr, fun _ K hK hEK => ?_, fun h => by cases h⟩
  rw [hu, Int.mul_assoc, ← Int.pow_add]
  exact congrArg (fun n : Nat => N * (2 : Int) ^ n) (by omega)
theorem un_eq {r s : Nat} (h : (un r : Int) = (un s : Int)) : r = s := un_inj (by omega)
/-- The number at p bits: below, and just. -/
theorem cut_tz {N E : Int} {p j Lj : Nat} (hN : 0 < N) (hp : (p : Int) = min 53 ((nb N : Int) + E + 1074)) (hp1 : 1 ≤ p) (hj : nb N = p + j) (hj0 : 0 < j) (hL : (Lj : Int) = E + j + 1074) (hT : (nb N : Int) + E ≤ 1024) :
    ∃ man : Nat, (man : Int) = N / 2 ^ j ∧ man < 9007199254740992 ∧ (4503599627370496 ≤ man ∨ Lj = 0) ∧ 0 < man ∧ Lj ≤ 2045 ∧ ∃ ex, TZ (Lj * 4503599627370496 + man) ex N E ∧ (ex = true ↔ N / 2 ^ j * 2 ^ j = N) := by
  obtain ⟨h1, h2, -⟩ := nb_spec hN
  have hpj := pow2_pos j
  have h0 : 0 ≤ N / 2 ^ j := Int.ediv_nonneg (by omega) (by omega)
  obtain ⟨man, hm⟩ := Int.eq_ofNat_of_zero_le h0
  have hlo : (2 : Int) ^ (p - 1) ≤ N / 2 ^ j := by
    rw [Int.le_ediv_iff_mul_le hpj, ← Int.pow_add, show p - 1 + j = nb N - 1 by omega]
    exact h1
  have hhi : N / 2 ^ j < 2 ^ p := by
    rw [Int.ediv_lt_iff_lt_mul hpj, ← Int.pow_add, ← hj]
    exact h2
  have hp53 : p ≤ 53 := by omega
  have h53 : (2 : Int) ^ p ≤ 2 ^ 53 := pow_le_pow (by decide) hp53
  have e53 : (2 : Int) ^ 53 = 9007199254740992 := by decide
  have hpp := pow2_pos (p - 1)
  have hm2 : 4503599627370496 ≤ man ∨ Lj = 0 := by
    by_cases h : p = 53
    · left
      rw [h] at hlo
      have e52 : (2 : Int) ^ (53 - 1) = 4503599627370496 := by decide
      omega
    · right; omega
  have hL2 : Lj ≤ 2045 := by omega
  have hml : man < 9007199254740992 := by omega
  obtain ⟨t, ht⟩ := low_exists N (by omega)
  have hTZ := tz_cut (E := E) (t := t) hN hm.symm (by omega : (Lj : Int) = j + E + 1074) hml hm2 hL2 (Or.inr ⟨by omega, ht⟩)
  refine ⟨man, hm.symm, hml, hm2, by omega, hL2, _, hTZ, ?_⟩
  have hu : (un (Lj * 4503599627370496 + man) : Int) = (man : Int) * 2 ^ Lj := by
    rw [un_pack (by omega) hm2, cast_pow2]
  obtain ⟨K, hK⟩ : ∃ K : Nat, K = 1074 + E.natAbs := ⟨_, rfl⟩
  have hpw : (2 : Int) ^ Lj * 2 ^ (K - 1074) = 2 ^ j * 2 ^ (E + K).toNat := by
    rw [← Int.pow_add, ← Int.pow_add]
    exact congrArg (fun n : Nat => (2 : Int) ^ n) (by omega)
  have hq := pow2_pos (E + K).toNat
  rw [hm]
  constructor
  · intro h
    have h1 := hTZ.eq h K (by omega) (by omega)
    rw [hu, Int.mul_assoc, hpw, ← Int.mul_assoc] at h1
    exact Int.eq_of_mul_eq_mul_right (by omega) h1
  · intro h
    by_cases hx : decide (j ≤ t) = true
    · exact hx
    · have h1 := (hTZ.gt (by simpa using hx) K (by omega) (by omega)).1
      rw [hu, Int.mul_assoc, hpw, ← Int.mul_assoc] at h1
      change (man : Int) * 2 ^ j = N at h
      rw [h] at h1
      omega
theorem un_inf (L : Nat) (hL : L = 2046) : (un INF : Int) = 4503599627370496 * 2 ^ L := by
  have e : INF = L * 4503599627370496 + 4503599627370496 := by subst hL; decide
  rw [e, un_pack (by decide) (Or.inl (Nat.le_refl _)), cast_pow2]
  rfl
theorem flo_mid {neg down : Bool} {N E V : Int} {R p Lj r : Nat} {ex : Bool} (hN : 0 < N) (hp : (p : Int) = min 53 ((nb N : Int) + E + 1074)) (hp1 : 1 ≤ p) (hT : (nb N : Int) + E ≤ 1024) (h : TZ R ex N E) (hV : cutV N p (neg == down) = V) (hL : (Lj : Int) = E + ((nb N - p : Nat) : Int) + 1074) (hr : r ≤ INF) (hu : (un r : Int) = V * 2 ^ Lj) :
    floW neg R ex down = sgn neg r ∧ r ≠ 0 := by
  have hpL := pow2_pos Lj
  unfold cutV at hV
  by_cases hs : nb N ≤ p
  · rw [if_pos hs] at hV
    subst hV
    have e0 : nb N - p = 0 := by omega
    rw [e0] at hL
    have hrI : r < INF := by
      rcases Nat.lt_or_eq_of_le hr with h1 | h1
      · exact h1
      · exfalso
        obtain ⟨M, hM⟩ : ∃ M : Nat, M = 2046 := ⟨_, rfl⟩
        rw [h1, un_inf M hM] at hu
        obtain ⟨-, h2, -⟩ := nb_spec hN
        have h3 : N * 2 ^ Lj < 2 ^ nb N * 2 ^ Lj := Int.mul_lt_mul_of_pos_right h2 hpL
        rw [← Int.pow_add, ← hu] at h3
        have h4 : (2 : Int) ^ (nb N + Lj) ≤ 2 ^ (52 + M) := pow_le_pow (by decide) (by omega)
        rw [Int.pow_add 2 52 M, show (2 : Int) ^ 52 = 4503599627370496 by decide] at h4
        omega
    have hTZ := tz_exact (E := E) hrI (by omega) hu
    obtain ⟨rfl, rfl⟩ := h.unique hTZ
    have hr0 : R ≠ 0 := by
      rintro rfl
      have := Int.mul_pos hN hpL
      rw [← hu, un_zero] at this
      exact absurd this (by decide)
    refine ⟨?_, hr0⟩
    unfold floW
    rw [Bool.true_or, if_pos rfl]
    exact sgW_sgn hr0
  · rw [if_neg hs] at hV
    obtain ⟨j, hj⟩ : ∃ j, nb N - p = j := ⟨_, rfl⟩
    rw [hj] at hV hL
    obtain ⟨man, hm, hml, hm2, hm0, hL2, ex', hTZ, hex⟩ := cut_tz hN hp hp1 (by omega : nb N = p + j) (by omega) hL hT
    obtain ⟨rfl, rfl⟩ := h.unique hTZ
    have hu0 : (un (Lj * 4503599627370496 + man) : Int) = (man : Int) * 2 ^ Lj := by
      rw [un_pack (by omega) hm2, cast_pow2]
    have hu1 : (un (Lj * 4503599627370496 + man + 1) : Int) = ((man : Int) + 1) * 2 ^ Lj := by
      rw [Nat.add_assoc, un_pack (by omega) (by omega), cast_pow2]; rfl
    obtain ⟨R, hR⟩ : ∃ R, Lj * 4503599627370496 + man = R := ⟨_, rfl⟩
    rw [hR] at hu0 hu1 hTZ ⊢
    rw [← hm] at hV hex
    by_cases hx : ex = true
    · rw [decide_eq_false (show ¬ ¬ (man : Int) * 2 ^ j = N from fun hn => hn (hex.1 hx)), Bool.false_and, if_neg (by decide), Int.add_zero] at hV
      rw [← hV] at hu
      obtain rfl := un_eq (hu.trans hu0.symm)
      have hr0 : r ≠ 0 := by omega
      refine ⟨?_, hr0⟩
      unfold floW
      rw [hx, Bool.true_or, if_pos rfl]
      exact sgW_sgn hr0
    · rw [decide_eq_true (show ¬ (man : Int) * 2 ^ j = N from fun he => hx (hex.2 he)), Bool.true_and] at hV
      have hx' : ex = false := by simpa using hx
      by_cases ha : neg = down
      · subst ha
        rw [beq_self_eq_true, if_pos rfl] at hV
        rw [← hV] at hu
        obtain rfl := un_eq (hu.trans hu1.symm)
        refine ⟨?_, by omega⟩
        unfold floW
        have e1 : (neg != neg) = false := by cases neg <;> rfl
        rw [hx', e1, Bool.false_or, if_neg (by decide)]
        exact step_away hTZ.lt
      · have e1 : (neg == down) = false := by cases neg <;> cases down <;> first | rfl | exact absurd rfl ha
        have e2 : (neg != down) = true := by cases neg <;> cases down <;> first | rfl | exact absurd rfl ha
        rw [e1, if_neg (by decide), Int.add_zero] at hV
        rw [← hV] at hu
        obtain rfl := un_eq (hu.trans hu0.symm)
        have hr0 : r ≠ 0 := by omega
        refine ⟨?_, hr0⟩
        unfold floW
        rw [e2, Bool.or_true, if_pos rfl]
        exact sgW_sgn hr0
theorem cutV_pos {N : Int} {p : Nat} {aw : Bool} (hN : 0 < N) (hp1 : 1 ≤ p) : 0 < cutV N p aw ∧ (nb N ≤ p → cutV N p aw = N) ∧ (p < nb N → 2 ^ (p - 1) ≤ cutV N p aw ∧ cutV N p aw ≤ 2 ^ p ∧ (aw = false → cutV N p aw < 2 ^ p)) := by
  unfold cutV
  by_cases hs : nb N ≤ p
  · rw [if_pos hs]
    exact ⟨hN, fun _ => rfl, fun h => by omega⟩
  · rw [if_neg hs]
    obtain ⟨h1, h2, -⟩ := nb_spec hN
    obtain ⟨j, hj⟩ : ∃ j, nb N - p = j := ⟨_, rfl⟩
    rw [hj]
    have hpj := pow2_pos j
    have hlo : (2 : Int) ^ (p - 1) ≤ N / 2 ^ j := by
      rw [Int.le_ediv_iff_mul_le hpj, ← Int.pow_add, show p - 1 + j = nb N - 1 by omega]
      exact h1
    have hhi : N / 2 ^ j < 2 ^ p := by
      rw [Int.ediv_lt_iff_lt_mul hpj, ← Int.pow_add, show p + j = nb N by omega]
      exact h2
    have hpp := pow2_pos (p - 1)
    refine ⟨by split <;> omega, fun h => absurd h hs, fun _ => ⟨by split <;> omega, by split <;> omega, fun h => ?_⟩⟩
    rw [h, Bool.and_false, if_neg (by decide)]
    omega
theorem flo_big {neg down : Bool} {N E V : Int} {R p : Nat} {ex : Bool} (hN : 0 < N) (hp : (p : Int) = min 53 ((nb N : Int) + E + 1074)) (hp1 : 1 ≤ p) (h : TZ R ex N E) (hV : cutV N p (neg == down) = V) (hb : 1024 < (nb V : Int) + ((nb N - p : Nat) : Int) + E) :
    floW neg R ex down = if (neg == down) = true then sgn neg INF else sgn neg 9218868437227405311 := by
  obtain ⟨v0, v1, v2⟩ := cutV_pos (N := N) (p := p) (aw := neg == down) hN hp1
  rw [hV] at v0 v1 v2
  by_cases hT : 1024 < (nb N : Int) + E
  · obtain ⟨rfl, rfl⟩ := h.unique (tz_big hN (by omega))
    cases neg <;> cases down <;> decide
  · have hlt : p < nb N := by
      rcases Nat.lt_or_ge p (nb N) with h1 | h1
      · exact h1
      · rw [v1 h1] at hb; omega
    obtain ⟨q1, q2, q3⟩ := v2 hlt
    obtain ⟨n1, n2, -⟩ := nb_spec v0
    have hnV : nb V ≤ p + 1 := by
      have : (2 : Int) ^ (nb V - 1) < 2 ^ (p + 1) := by
        have := pow2_pos p
        rw [Int.pow_succ]; omega
      have := two_pow_lt_of this
      omega
    have hVp : V = 2 ^ p := by
      have : (2 : Int) ^ p ≤ 2 ^ (nb V - 1) := pow_le_pow (by decide) (by omega)
      omega
    have haw : (neg == down) = true := by
      cases hh : (neg == down)
      · have := q3 hh; omega
      · rfl
    have hp53 : p = 53 := by omega
    obtain ⟨Lj, hL⟩ := Int.eq_ofNat_of_zero_le (show 0 ≤ E + ((nb N - p : Nat) : Int) + 1074 by omega)
    rw [haw, if_pos rfl]
    refine (flo_mid (r := INF) hN hp hp1 (by omega) h hV hL.symm (Nat.le_refl _) ?_).1
    obtain ⟨M, hM⟩ : ∃ M : Nat, M = 2046 := ⟨_, rfl⟩
    rw [un_inf M hM, hVp, ← Int.pow_add, show (4503599627370496 : Int) = 2 ^ 52 by decide, ← Int.pow_add]
    exact congrArg (fun n : Nat => (2 : Int) ^ n) (by omega)
end Go.Proofs.YtfanhllcoaondaaGreatDoor

namespace Go.Proofs.YtfanhllcoaondaaGreatDoor
open Go.RowKit

theorem rqtop_val {neg : Bool} {N : Int} {e0 L : Nat} (hN : 0 < N) : rqtop L (sg neg N * 2 ^ e0) = (nb N : Int) + (e0 : Int) - (L : Int) := by
  have hp := pow2_pos e0
  have h1 : 0 < N * 2 ^ e0 := Int.mul_pos hN hp
  have ha := rz_abs (neg := neg) (N := N) (E := e0) (by omega) rfl
  unfold rqtop
  rw [if_neg (by rw [← sg_scale]; cases neg <;> simp only [sg_true, sg_false] <;> omega), ha, nb_shift _ hN]
  omega
theorem rz_pos {p q : Bool} {V N : Int} {a b : Nat} (hV : 0 < V) (hN : 0 ≤ N) (h : sg p V * 2 ^ a = sg q N * 2 ^ b) : V * 2 ^ a = N * 2 ^ b ∧ p = q ∧ 0 < N := by
  have h1 := rz_abs (neg := p) (N := V) (E := a) (by omega) rfl
  have h2 := rz_abs (neg := q) (N := N) (E := b) hN rfl
  rw [h] at h1
  have h3 := h1.symm.trans h2
  have hpa := Int.mul_pos hV (pow2_pos a)
  have hpb := pow2_pos b
  have hN0 : 0 < N := by
    rcases Int.lt_or_eq_of_le hN with h4 | h4
    · exact h4
    · rw [← h4, Int.zero_mul] at h3; omega
  refine ⟨h3, ?_, hN0⟩
  have hpn := Int.mul_pos hN0 hpb
  rw [← sg_scale, ← sg_scale] at h
  cases p <;> cases q <;> first | rfl | (simp only [sg_true, sg_false] at h; omega)
theorem odd_le {N V : Int} {a b : Nat} (hz : ∃ z, N = 2 * z + 1) (h : V * 2 ^ a = N * 2 ^ b) : a ≤ b := by
  rcases Nat.lt_or_ge b a with h1 | h1
  · exfalso
    obtain ⟨d, rfl⟩ := Nat.le.dest (show b + 1 ≤ a by omega)
    obtain ⟨z, rfl⟩ := hz
    have hp := pow2_pos b
    have e : V * 2 ^ (b + 1 + d) = V * 2 ^ d * 2 * 2 ^ b := by rw [Int.pow_add, Int.pow_succ]; grind
    rw [e] at h
    have := Int.eq_of_mul_eq_mul_right (by omega) h
    omega
  · exact h1
/-- What the rounded number's digits and exponent are, from the least place on. -/
theorem rf_scale {neg q : Bool} {V N E E' : Int} {j L E0 E0' Lj : Nat} (hV : 0 < V) (hV53 : V ≤ 9007199254740992) (hN : 0 ≤ N) (hz : ∃ z, N = 2 * z + 1) (h : sg neg V * 2 ^ (E0 + j) = sg q N * 2 ^ E0') (hE : E + (L : Int) = (E0 : Int)) (hE' : E' + (L : Int) = (E0' : Int)) (hL : (Lj : Int) = E + (j : Int) + 1074) (h1074 : 1074 ≤ L) :
    -1074 ≤ E' ∧ 0 < N ∧ N < 9007199254740992 ∧ N * 2 ^ (E' + 1074).toNat = V * 2 ^ Lj := by
  obtain ⟨h1, -, h3⟩ := rz_pos hV hN h
  have h4 := odd_le hz h1
  obtain ⟨M, hM⟩ : ∃ M, L - 1074 = M := ⟨_, rfl⟩
  have e1 : E0 + j = Lj + M := by omega
  have e2 : E0' = (E' + 1074).toNat + M := by omega
  have h5 : N * 2 ^ (E' + 1074).toNat = V * 2 ^ Lj := by
    rw [e1, e2, Int.pow_add, Int.pow_add, ← Int.mul_assoc, ← Int.mul_assoc] at h1
    have hp := pow2_pos M
    exact (Int.eq_of_mul_eq_mul_right (by omega) h1).symm
  refine ⟨by omega, h3, ?_, h5⟩
  obtain ⟨d, hd⟩ := Nat.le.dest (show Lj ≤ (E' + 1074).toNat by omega)
  rw [← hd, Int.pow_add, Int.mul_comm (2 ^ Lj), ← Int.mul_assoc] at h5
  have hp := pow2_pos Lj
  have h6 := Int.eq_of_mul_eq_mul_right (by omega) h5
  have hpd := pow2_pos d
  have h7 : N * 1 ≤ N * 2 ^ d := Int.mul_le_mul_of_nonneg_left (by omega) (by omega)
  obtain ⟨z, rfl⟩ := hz
  omega
theorem un_low {x : Nat} (h : x < 4503599627370496) : (un x : Int) = (x : Int) := by
  unfold un; rw [if_pos h]

set_option maxRecDepth 100000 in
set_option maxHeartbeats 4000000 in
theorem rfloat_pos {w : World} (L : Nat) (neg : Bool) {a : Option Addr} {n c : Nat} {N : Int} {m E0 b R : Nat} {ex : Bool} (E dir : Int) (h : RN w (.slice a n c) N m) (hE : E + (L : Int) = (E0 : Int)) (hodd : ∃ z, N = 2 * z + 1) (hL : 1074 ≤ L) (hm : m ≤ 1000) (hm2 : 2 ≤ m) (heb : E0 + 64 * (m + 1) ≤ b) (hLb : L ≤ b) (hb : b ≤ 200000) (hN : 0 < N) (htz : TZ R ex N E) :
    Calls Tryz.prog 36 #[.agg #[.bool neg, .slice a n c, .int .i64 E], .int .i64 dir] w fun e w' => RetV w (.float .f64 (floW neg R ex (decide (dir < 0)))) e w' := by
  obtain ⟨w1, hw1⟩ : ∃ w1, w.alloc (.cells #[.bool neg, .slice a n c, .int .i64 E] 63) = w1 := ⟨_, rfl⟩
  have hb1 : Below w.heap.size w w1 := hw1 ▸ below_alloc w _
  have hc1 : w1.heap[w.heap.size]? = some (.cells #[.bool neg, .slice a n c, .int .i64 E] 63 (0, 0)) := hw1 ▸ heap_alloc_new w _
  replace h := h.below hb1
  have hq : RQ L w1 (.agg #[.bool neg, .slice a n c, .int .i64 E]) (sg neg N * 2 ^ E0) m b := ⟨neg, a, n, c, N, E, E0, rfl, h, rfl, hE, fun h0 => by omega, fun _ => hodd, by omega⟩
  have HQ := Lib.hid hq
  obtain ⟨s, hs, hs0⟩ := rz_some (Z := sg neg N * 2 ^ E0) (by omega) (by omega) rfl
  have hsg := qsign_num hq
  rw [hs] at hsg
  have HSG := Lib.hid hsg
  have htop := rqtop_val (neg := neg) (e0 := E0) (L := L) hN
  obtain ⟨T, hT⟩ : ∃ T : Int, (nb N : Int) + E = T := ⟨_, rfl⟩
  rw [show (nb N : Int) + (E0 : Int) - (L : Int) = T by omega] at htop
  have HTOP := Lib.hid htop
  obtain ⟨P, hP⟩ : ∃ P : Int, min (53 : Int) (T + 1074) = P := ⟨_, rfl⟩
  obtain ⟨dn, hdn⟩ : ∃ dn, decide (dir < 0) = dn := ⟨_, rfl⟩
  rw [hdn]
  obtain ⟨aw, haw⟩ : ∃ aw, (neg == dn) = aw := ⟨_, rfl⟩
  have hTb : -300000 ≤ T ∧ T ≤ 300000 := by
    have : nb N ≤ 32 * m := by
      have hlt := h.lt
      obtain ⟨q1, q2, q3⟩ := nb_spec hN
      have h5 : (2 : Int) ^ (nb N - 1) < 2 ^ (32 * m) := by
        rw [show (2 : Int) ^ (32 * m) = B32 ^ m by rw [Int.pow_mul]; rfl]
        omega
      have := two_pow_lt_of h5
      omega
    omega
  have hnb : nb N ≤ 32000 := by
    have hlt := h.lt
    obtain ⟨q1, q2, q3⟩ := nb_spec hN
    have h5 : (2 : Int) ^ (nb N - 1) < 2 ^ (32 * m) := by
      rw [show (2 : Int) ^ (32 * m) = B32 ^ m by rw [Int.pow_mul]; rfl]
      omega
    have := two_pow_lt_of h5
    omega
  have HP := Lib.hid hP
  have HDN := Lib.hid hdn
  obtain ⟨⟨k0, k1, k2⟩, -⟩ := slot3 hc1
  clear hq hsg htop hs
  by_cases hp1 : P < 1
  · have hsm := flo_small (neg := neg) (down := dn) hN (by omega : (nb N : Int) + E ≤ -1074) htz
    rw [haw] at hsm
    rw [hsm]
    clear hsm htz
    go_enter Tryz.func36, Tryz.ntmps36
    go_wp2_with fail
    refine HSG.out.mono ?_
    rintro e w2 ⟨rfl, hb2⟩
    have HQ2 := Lib.hid (HQ.out.below hb2)
    have hbw2 := hb1.trans (hb2.mono hb1.size)
    have hc2 := slot_kept hc1 hb2
    have htp := qtop_num HQ2.out (by omega) hLb (by omega)
    rw [HTOP.out] at htp
    have HTP := Lib.hid htp
    clear k0 k1 k2 htp hc1 hb2
    obtain ⟨⟨k0, k1, k2⟩, -⟩ := slot3 hc2
    go_wp2_with fail
    refine HTP.out.mono ?_
    rintro e w3 ⟨rfl, hb3⟩
    have hbw3 := hbw2.trans (hb3.mono hbw2.size)
    have hc3 := slot_kept hc2 hb3
    clear k0 k1 k2 hc2 hb3 hbw2
    obtain ⟨⟨k0, k1, k2⟩, -⟩ := slot3 hc3
    cases aw
    · go_wp2_with fail
      go_ret
      exact ⟨rfl, hbw3⟩
    · go_upto_region 8 with fail
      refine wp_region_slots (by kernel_rfl) [27, 28, 29, 30, 4] (fun w' => (w'.heap[w.heap.size]? = some (.cells #[.bool neg, .slice a n c, .int .i64 E] 63 (0, 0))) ∧ (Below w3.heap.size w3 w')) (Said [Is (.float .f64 1), Is (.pointer (some ⟨w.heap.size, 0, none⟩)), Is (.bool neg), Is (.float .f64 (sgn neg 1)), Is (.float .f64 (sgn neg 1))]) (by kernel_rfl) (by kernel_rfl) (by kernel_rfl) (by kernel_rfl) (Said.keep ?keep) ⟨slot_kept hc3 (bdn (Below.refl _ _) 1), bdn (Below.refl _ _) 1⟩ (l := [0, 1, 2, 3, 4]) (by kernel_rfl) ?step ?fin
      case keep =>
        refine List.forall_mem_cons.2 ⟨Is.keeps _, ?_⟩
        refine List.forall_mem_cons.2 ⟨Is.keeps _, ?_⟩
        refine List.forall_mem_cons.2 ⟨Is.keeps _, ?_⟩
        refine List.forall_mem_cons.2 ⟨Is.keeps _, ?_⟩
        refine List.forall_mem_cons.2 ⟨Is.keeps _, ?_⟩
        exact fun _ h => nomatch h
      case step =>
        refine List.forall_mem_cons.2 ⟨?_, ?_⟩
        · refine SlotStep.plain rfl rfl rfl ?_
          intro tm ws hsame hS hg K hK
          go_simp
          simp only [frombits_run]
          exact hK _ _ (Below.refl _ _) hS rfl
        refine List.forall_mem_cons.2 ⟨?_, ?_⟩
        · refine SlotStep.plain rfl rfl rfl ?_
          intro tm ws hsame hS hg K hK
          have e2 : tm[2]? = some (.pointer (some ⟨w.heap.size, 0, none⟩)) := hsame.2 2 rfl
          go_simp
          exact hK _ _ (Below.refl _ _) hS rfl
        refine List.forall_mem_cons.2 ⟨?_, ?_⟩
        · refine SlotStep.plain rfl rfl rfl ?_
          intro tm ws hsame hS hg K hK
          obtain ⟨v28, e28, rfl⟩ := hg 1 (by kernel_rfl) _ 28 rfl rfl
          obtain ⟨⟨k0, k1, k2⟩, -⟩ := slot3 (hS.1)
          go_simp
          exact hK _ _ (Below.refl _ _) hS rfl
        refine List.forall_mem_cons.2 ⟨?_, ?_⟩
        · refine SlotStep.plain rfl rfl rfl ?_
          intro tm ws hsame hS hg K hK
          obtain ⟨v27, e27, rfl⟩ := hg 0 (by kernel_rfl) _ 27 rfl rfl
          obtain ⟨v29, e29, rfl⟩ := hg 2 (by kernel_rfl) _ 29 rfl rfl
          go_simp
          have hsn := fsign_num (1) neg ws
          rw [neg_sgn (by decide)] at hsn
          refine hsn.mono ?_
          rintro e' wm ⟨rfl, rfl⟩
          exact hK _ _ (Below.refl _ _) hS rfl
        refine List.forall_mem_cons.2 ⟨?_, ?_⟩
        · refine SlotStep.plain rfl rfl rfl ?_
          intro tm ws hsame hS hg K hK
          obtain ⟨v30, e30, rfl⟩ := hg 3 (by kernel_rfl) _ 30 rfl rfl
          go_simp
          exact hK _ _ (Below.refl _ _) hS rfl
        exact fun _ h => nomatch h
      case fin =>
        intro tm w8 hsame hS hgot
        obtain ⟨u, hu, htm⟩ := hsame.form (by kernel_rfl)
        obtain ⟨v4, e4, rfl⟩ := hgot 4 _ 4 rfl rfl
        have h4 := hu _ _ e4
        have hb8 := hS.2
        clear hgot hu hsame e4
        rw [htm]
        clear htm tm
        simp only [List.foldl_cons, List.foldl_nil, List.setIfInBounds_toArray, List.set_cons_zero, List.set_cons_succ, h4]
        clear h4
        go_wp2_with fail
        go_ret
        exact ⟨rfl, hbw3.trans (hb8.mono hbw3.size)⟩
  · obtain ⟨p, hp⟩ : ∃ p : Nat, (p : Int) = P := ⟨P.toNat, by omega⟩
    have hpp1 : 1 ≤ p := by omega
    have hpp2 : p ≤ 53 := by omega
    obtain ⟨j, hj⟩ : ∃ j, nb N - p = j := ⟨_, rfl⟩
    obtain ⟨V, hV⟩ : ∃ V, cutV N p (neg == dn) = V := ⟨_, rfl⟩
    obtain ⟨v0, v1, v2⟩ := cutV_pos (N := N) (p := p) (aw := neg == dn) hN hpp1
    rw [hV] at v0 v1 v2
    have hV53 : V ≤ 9007199254740992 := by
      have h53 : (2 : Int) ^ p ≤ 2 ^ 53 := pow_le_pow (by decide) hpp2
      have e53 : (2 : Int) ^ 53 = 9007199254740992 := by decide
      by_cases hs2 : nb N ≤ p
      · rw [v1 hs2]
        obtain ⟨-, q2, -⟩ := nb_spec hN
        have : (2 : Int) ^ nb N ≤ 2 ^ p := pow_le_pow (by decide) hs2
        omega
      · have := (v2 (by omega)).2.1
        omega
    have hpmin : (p : Int) = min 53 ((nb N : Int) + E + 1074) := by omega
    obtain ⟨Wd, hWd⟩ : ∃ Wd, floW neg R ex dn = Wd := ⟨_, rfl⟩
    rw [hWd]
    have hbig : 1024 < (nb V : Int) + (j : Int) + E → (if aw = true then sgn neg INF else sgn neg 9218868437227405311) = Wd := by
      intro hb'
      rw [← hWd, ← haw]
      exact (flo_big hN hpmin hpp1 htz hV (by rw [hj]; omega)).symm
    have hmid : ∀ (Lj r : Nat), (nb N : Int) + E ≤ 1024 → (Lj : Int) = E + (j : Int) + 1074 → r ≤ INF → (un r : Int) = V * 2 ^ Lj → sgn neg r = Wd := by
      intro Lj r hT' hL' hr' hu'
      rw [← hWd]
      exact (flo_mid hN hpmin hpp1 hT' htz hV (by rw [hj]; exact hL') hr' hu').1.symm
    have hVT : j + p ≤ nb V + j ∨ j = 0 := by
      by_cases hs2 : nb N ≤ p
      · right; omega
      · left
        have h8 := (v2 (by omega)).1
        obtain ⟨-, q2, -⟩ := nb_spec v0
        have : (2 : Int) ^ (p - 1) < 2 ^ nb V := by omega
        have := two_pow_lt_of this
        omega
    have hVN : j = 0 → V = N := fun h8 => v1 (by omega)
    have HBIG := Lib.hid hbig
    have HMID := Lib.hid hmid
    have HVN := Lib.hid hVN
    have HHH := Lib.hid h
    clear hbig hmid v1 v2 htz hVN h hWd
    go_enter Tryz.func36, Tryz.ntmps36
    go_wp2_with fail
    refine HSG.out.mono ?_
    rintro e w2 ⟨rfl, hb2⟩
    have HQ2 := Lib.hid (HQ.out.below hb2)
    have hbw2 := hb1.trans (hb2.mono hb1.size)
    have hc2 := slot_kept hc1 hb2
    have htp := qtop_num HQ2.out (by omega) hLb (by omega)
    rw [HTOP.out] at htp
    have HTP := Lib.hid htp
    have H2 := Lib.hid (HHH.out.below hb2)
    clear k0 k1 k2 htp hc1 hb2
    obtain ⟨⟨k0, k1, k2⟩, -⟩ := slot3 hc2
    go_wp2_with fail
    refine HTP.out.mono ?_
    rintro e w3 ⟨rfl, hb3⟩
    have hbw3 := hbw2.trans (hb3.mono hbw2.size)
    have hc3 := slot_kept hc2 hb3
    have hrd := rround_num L neg E dir p (H2.out.below hb3) hE hm hm2 heb hLb (by omega) hpp1 (by omega) hN
    rw [HDN.out, hV, hj, hp] at hrd
    have HRD := Lib.hid hrd
    clear k0 k1 k2 hc2 hb3 hbw2 hrd
    obtain ⟨⟨k0, k1, k2⟩, -⟩ := slot3 hc3
    have hp1f : ¬ P < 1 := by omega
    go_wp2_with fail
    refine HRD.out.mono ?_
    rintro e w4a ⟨pR, aR, nR, cR, ER, rfl, hr, hb4a⟩
    obtain ⟨w4, hw4⟩ : ∃ w4, w4a.alloc (.cells #[.bool pR, .slice aR nR cR, .int .i64 ER] 63) = w4 := ⟨_, rfl⟩
    have hb4b : Below w4a.heap.size w4a w4 := hw4 ▸ below_alloc w4a _
    have hd4 : w4.heap[w4a.heap.size]? = some (.cells #[.bool pR, .slice aR nR cR, .int .i64 ER] 63 (0, 0)) := hw4 ▸ heap_alloc_new w4a _
    have hb4 := hb4a.trans (hb4b.mono hb4a.size)
    have hc4 := slot_kept hc3 hb4
    have hbw4 := hbw3.trans (hb4.mono hbw3.size)
    have hr4 := hr.below hb4b
    have htp := qtop_num hr4 (by omega) hLb (by omega)
    have htv := rqtop_val (neg := neg) (e0 := E0 + j) (L := L) v0
    obtain ⟨T2, hT2⟩ : ∃ T2 : Int, (nb V : Int) + (j : Int) + E = T2 := ⟨_, rfl⟩
    rw [show (nb V : Int) + ((E0 + j : Nat) : Int) - (L : Int) = T2 by omega] at htv
    rw [htv] at htp
    have HTP2 := Lib.hid htp
    have HR4 := Lib.hid hr4
    clear htp htv hr hr4 hb4a hb4b hb4 hc3 k0 k1 k2 HRD HTP HSG
    obtain ⟨⟨k0, k1, k2⟩, -⟩ := slot3 hc4
    obtain ⟨⟨l0, l1, l2⟩, -⟩ := slot3 hd4
    go_wp2_with fail
    refine HTP2.out.mono ?_
    rintro e w5 ⟨rfl, hb5⟩
    have hbw5 := hbw4.trans (hb5.mono hbw4.size)
    have hc5 := slot_kept hc4 hb5
    have hd5 := slot_kept hd4 hb5
    have HR5 := Lib.hid (HR4.out.below hb5)
    clear k0 k1 k2 l0 l1 l2 hc4 hd4 hb5 hbw3 hbw4
    obtain ⟨⟨k0, k1, k2⟩, -⟩ := slot3 hc5
    obtain ⟨⟨l0, l1, l2⟩, -⟩ := slot3 hd5
    by_cases hT3 : 1024 < T2
    · have hf := HBIG.out (by omega)
      cases aw
      · have HF : Hid (sgn neg 9218868437227405311 = Wd) := Lib.hid hf
        clear hf
        have hsn := fsign_num 9218868437227405311 neg w5
        rw [neg_sgn (by decide)] at hsn
        have HSN := Lib.hid hsn
        clear hsn
        go_wp2_with fail
        refine HSN.out.mono ?_
        rintro e w' ⟨rfl, rfl⟩
        go_wp2_with fail
        go_ret
        exact ⟨congrArg (fun n => Ending.returned (Value.float FloatKind.f64 n)) HF.out, hbw5⟩
      · have HF : Hid (sgn neg INF = Wd) := Lib.hid hf
        clear hf
        go_upto_region 12 with fail
        refine wp_region_slots (by kernel_rfl) [39, 40, 41, 42, 4] (fun w' => (w'.heap[w.heap.size]? = some (.cells #[.bool neg, .slice a n c, .int .i64 E] 63 (0, 0))) ∧ (Below w5.heap.size w5 w')) (Said [Is (.float .f64 9218868437227405312), Is (.pointer (some ⟨w.heap.size, 0, none⟩)), Is (.bool neg), Is (.float .f64 Wd), Is (.float .f64 Wd)]) (by kernel_rfl) (by kernel_rfl) (by kernel_rfl) (by kernel_rfl) (Said.keep ?keep) ⟨slot_kept hc5 (bdn (Below.refl _ _) 1), bdn (Below.refl _ _) 1⟩ (l := [0, 1, 2, 3, 4]) (by kernel_rfl) ?step ?fin
        case keep =>
          refine List.forall_mem_cons.2 ⟨Is.keeps _, ?_⟩
          refine List.forall_mem_cons.2 ⟨Is.keeps _, ?_⟩
          refine List.forall_mem_cons.2 ⟨Is.keeps _, ?_⟩
          refine List.forall_mem_cons.2 ⟨Is.keeps _, ?_⟩
          refine List.forall_mem_cons.2 ⟨Is.keeps _, ?_⟩
          exact fun _ h => nomatch h
        case step =>
          refine List.forall_mem_cons.2 ⟨?_, ?_⟩
          · refine SlotStep.plain rfl rfl rfl ?_
            intro tm ws hsame hS hg K hK
            go_simp
            refine (inf_num ws).mono ?_
            rintro e wm ⟨rfl, rfl⟩
            exact hK _ _ (Below.refl _ _) hS rfl
          refine List.forall_mem_cons.2 ⟨?_, ?_⟩
          · refine SlotStep.plain rfl rfl rfl ?_
            intro tm ws hsame hS hg K hK
            have e2 : tm[2]? = some (.pointer (some ⟨w.heap.size, 0, none⟩)) := hsame.2 2 rfl
            go_simp
            exact hK _ _ (Below.refl _ _) hS rfl
          refine List.forall_mem_cons.2 ⟨?_, ?_⟩
          · refine SlotStep.plain rfl rfl rfl ?_
            intro tm ws hsame hS hg K hK
            obtain ⟨v40, e40, rfl⟩ := hg 1 (by kernel_rfl) _ 40 rfl rfl
            obtain ⟨⟨k0, k1, k2⟩, -⟩ := slot3 (hS.1)
            go_simp
            exact hK _ _ (Below.refl _ _) hS rfl
          refine List.forall_mem_cons.2 ⟨?_, ?_⟩
          · refine SlotStep.plain rfl rfl rfl ?_
            intro tm ws hsame hS hg K hK
            obtain ⟨v39, e39, rfl⟩ := hg 0 (by kernel_rfl) _ 39 rfl rfl
            obtain ⟨v41, e41, rfl⟩ := hg 2 (by kernel_rfl) _ 41 rfl rfl
            go_simp
            have hsn := fsign_num (9218868437227405312) neg ws
            rw [neg_sgn (by decide)] at hsn
            refine hsn.mono ?_
            rintro e' wm ⟨rfl, rfl⟩
            exact hK _ _ (Below.refl _ _) hS (congrArg (Value.float .f64) HF.out)
          refine List.forall_mem_cons.2 ⟨?_, ?_⟩
          · refine SlotStep.plain rfl rfl rfl ?_
            intro tm ws hsame hS hg K hK
            obtain ⟨v42, e42, rfl⟩ := hg 3 (by kernel_rfl) _ 42 rfl rfl
            go_simp
            exact hK _ _ (Below.refl _ _) hS rfl
          exact fun _ h => nomatch h
        case fin =>
          intro tm w8 hsame hS hgot
          obtain ⟨u, hu, htm⟩ := hsame.form (by kernel_rfl)
          obtain ⟨v4, e4, rfl⟩ := hgot 4 _ 4 rfl rfl
          have h4 := hu _ _ e4
          have hb8 := hS.2
          clear hgot hu hsame e4
          rw [htm]
          clear htm tm
          simp only [List.foldl_cons, List.foldl_nil, List.setIfInBounds_toArray, List.set_cons_zero, List.set_cons_succ, h4]
          clear h4
          go_wp2_with fail
          go_ret
          exact ⟨rfl, hbw5.trans (hb8.mono hbw5.size)⟩
    · obtain ⟨N', E0', hN', hz', hE', -, hodd', hE0'⟩ := HR5.out.open
      obtain ⟨-, -, hN0'⟩ := rz_pos v0 hN'.nonneg hz'
      obtain ⟨Lj, hLj⟩ := Int.eq_ofNat_of_zero_le (show 0 ≤ E + (j : Int) + 1074 by omega)
      obtain ⟨q1, -, q3, q4⟩ := rf_scale v0 hV53 hN'.nonneg (hodd' (by omega)) hz' hE hE' hLj.symm hL
      have hER : ER ≤ 200000 := by omega
      obtain ⟨U, hU⟩ : ∃ U, V * 2 ^ Lj = U := ⟨_, rfl⟩
      rw [hU] at q4
      have hm2 := HMID.out Lj
      rw [hU] at hm2
      have hTle : (nb N : Int) + E ≤ 1024 := by
        rcases hVT with h8 | h8
        · omega
        · have := HVN.out h8
          rw [this] at hT2
          omega
      have HM2 : Hid (∀ r, r ≤ INF → (un r : Int) = U → sgn neg r = Wd) := Lib.hid fun r h8 h9 => hm2 r hTle hLj.symm h8 h9
      -- how great it is
      have hUlt : Hid (∀ x : Int, ∀ q : Nat, 4503599627370496 ≤ x → x * 2 ^ q = U → q ≤ 2045) := Lib.hid (by
        intro x q h8 h9
        obtain ⟨-, n2, -⟩ := nb_spec v0
        have h10 : V * 2 ^ Lj < 2 ^ nb V * 2 ^ Lj := Int.mul_lt_mul_of_pos_right n2 (pow2_pos Lj)
        rw [hU, ← h9, ← Int.pow_add] at h10
        have h11 : (4503599627370496 : Int) * 2 ^ q ≤ x * 2 ^ q := Int.mul_le_mul_of_nonneg_right h8 (by have := pow2_pos q; omega)
        rw [show (4503599627370496 : Int) = 2 ^ 52 by decide, ← Int.pow_add] at h11
        have h12 : (2 : Int) ^ (52 + q) < 2 ^ (nb V + Lj) := by omega
        have := two_pow_lt_of h12
        omega)
      obtain ⟨a', n', c', l, he, g1, g2, g3, g4, g5, g6, g7⟩ := hN'.open
      simp only [Value.slice.injEq] at he
      obtain ⟨rfl, rfl, rfl⟩ := he
      have hne : l ≠ [] := by
        rintro rfl
        rw [← g6] at hN0'
        exact absurd hN0' (by decide)
      obtain ⟨bb, off, rfl, hat⟩ := g4.cases hne
      have hdig : Hid (∀ k, k < nR → ∃ d x : Int, w5.cell? ⟨bb, off + k, none⟩ = some (.int .u64 d) ∧ 0 ≤ d ∧ d < 4294967296 ∧ 0 ≤ x ∧ x * 4294967296 + d < 9007199254740992 ∧ vb B32 (l.drop (k + 1)) = x ∧ vb B32 (l.drop k) = x * 4294967296 + d) := Lib.hid (by
        intro k hk
        have hk' : k < l.length := by omega
        have hd := vb_drop B32 hk'
        have hb0 := g5.lim.getD B32_pos k
        have hx0 := vb_nonneg B32_pos (g5.lim.drop (k + 1))
        have hsp := vb_split B32 l k (by omega)
        have ht0 := vb_nonneg B32_pos (g5.lim.take k)
        have hp0 := pow_pos' B32_pos k
        have hge : vb B32 (l.drop k) ≤ N' := by
          rw [← g6]
          have h13 : 1 * vb B32 (l.drop k) ≤ B32 ^ k * vb B32 (l.drop k) := Int.mul_le_mul_of_nonneg_right (by omega) (vb_nonneg B32_pos (g5.lim.drop k))
          omega
        have e32 : (B32 : Int) = 4294967296 := rfl
        have hcell := hat k hk'
        obtain ⟨x, hx⟩ : ∃ x, vb B32 (l.drop (k + 1)) = x := ⟨_, rfl⟩
        obtain ⟨y, hy⟩ : ∃ y, vb B32 (l.drop k) = y := ⟨_, rfl⟩
        obtain ⟨d, hdd⟩ : ∃ d, l.getD k 0 = d := ⟨_, rfl⟩
        rw [hx, hy, hdd, e32] at hd
        rw [hdd, e32] at hb0
        rw [hx] at hx0
        rw [hy] at hge
        rw [hdd] at hcell
        refine ⟨d, x, hcell, hb0.1, hb0.2, hx0, by omega, hx, by rw [hy]; omega⟩)
      have hfull : Hid (vb B32 (l.drop 0) = N') := Lib.hid g6
      have hnil : Hid (vb B32 (l.drop nR) = 0) := Lib.hid (by rw [g1, List.drop_length]; rfl)
      have hn1 : 1 ≤ nR := by
        rw [g1]
        exact List.length_pos_iff.2 hne
      have hnM : nR ≤ 100000 := by omega
      have Q4 := Lib.hid q4
      have Q3 := Lib.hid q3
      have Q1 := Lib.hid q1
      have Q0 := Lib.hid hN0'
      have HG1 := Lib.hid g1
      clear hz' hodd' hE' hE0' hN' hN0' hLj q1 q3 q4 hU hm2 g1 g4 g5 g6 g7 hat hne v0 hV53 hT2 hVT HMID HVN HBIG HR5 HR4 HTP2 HQ HQ2 H2 HHH HTOP HDN HP hpmin
      go_wp2_with fail
      go_loop [8, 9] (fun vv ii => ∃ (k : Nat) (x : Int), k ≤ nR ∧ ii = .int .i64 ((k : Int) - 1) ∧ vv = .int .u64 x ∧ 0 ≤ x ∧ x < 9007199254740992 ∧ Hid (vb B32 (l.drop k) = x)) (fun _ ii => ((intOf ii) + 1).toNat)
      case atStart => exact ⟨nR, 0, Nat.le_refl _, rfl, rfl, by decide, by decide, hnil⟩
      case round =>
        obtain ⟨k, x, hk, rfl, rfl, hx0, hx1, HX⟩ := hrel
        by_cases hk0 : k = 0
        · subst hk0
          obtain rfl : x = N' := by rw [← HX.out, hfull.out]
          have hq3 := Q3.out
          have hq1 := Q1.out
          have hq0 := Q0.out
          clear hfull hnil hdig HX
          go_wp2_with fail
          go_loop [8, 10] (fun vv ee => ∃ (y e : Int), vv = .int .u64 y ∧ ee = .int .i64 e ∧ 0 < y ∧ y < 9007199254740992 ∧ -1074 ≤ e ∧ e ≤ 200000 ∧ Hid (y * 2 ^ (e + 1074).toNat = U)) (fun _ ee => ((intOf ee) + 1074).toNat)
          case atStart => exact ⟨x, ER, rfl, rfl, hq0, hq3, hq1, hER, Q4⟩
          case round =>
            obtain ⟨y, e, rfl, rfl, hy0, hy1, he0, he1, HY⟩ := hrel
            clear Q4 Q3 Q1 Q0 hq3 hq1 hq0 hx0 hx1
            by_cases hy : y < 4503599627370496
            · by_cases he : -1074 < e
              · have HY2 : Hid (y * 2 * 2 ^ (e - 1 + 1074).toNat = U) := Lib.hid (by
                  have := HY.out
                  rw [show (e + 1074).toNat = (e - 1 + 1074).toNat + 1 by omega, Int.pow_succ, Int.mul_comm (2 ^ _) 2, ← Int.mul_assoc] at this
                  exact this)
                go_wp2_with fail
                go_round
                case rel => exact ⟨y * 2, e - 1, by go_num, by go_num, by omega, by omega, by omega, by omega, HY2⟩
                case measure => simp [intOf]; omega
              · obtain rfl : e = -1074 := by omega
                obtain ⟨r, rfl⟩ := Int.eq_ofNat_of_zero_le (Int.le_of_lt hy0)
                have HF : Hid (sgn neg r = Wd) := Lib.hid (HM2.out r (by unfold INF; omega) (by rw [un_low (by omega)]; have := HY.out; simpa using this))
                have hr63 : r < 9223372036854775808 := by omega
                clear HY HM2 hUlt
                go_upto_region 23 with fail
                refine wp_region_slots (by kernel_rfl) [76, 77, 78, 79, 80, 4] (fun w' => (w'.heap[w.heap.size]? = some (.cells #[.bool neg, .slice a n c, .int .i64 E] 63 (0, 0))) ∧ (Below w5.heap.size w5 w')) (Said [Is (.int .u64 (r : Int)), Is (.float .f64 r), Is (.pointer (some ⟨w.heap.size, 0, none⟩)), Is (.bool neg), Is (.float .f64 Wd), Is (.float .f64 Wd)]) (by kernel_rfl) (by kernel_rfl) (by kernel_rfl) (by kernel_rfl) (Said.keep ?keep) ⟨slot_kept hc5 (bdn (Below.refl _ _) 1), bdn (Below.refl _ _) 1⟩ (l := [0, 1, 2, 3, 4, 5]) (by kernel_rfl) ?step ?fin
                case keep =>
                  refine List.forall_mem_cons.2 ⟨Is.keeps _, ?_⟩
                  refine List.forall_mem_cons.2 ⟨Is.keeps _, ?_⟩
                  refine List.forall_mem_cons.2 ⟨Is.keeps _, ?_⟩
                  refine List.forall_mem_cons.2 ⟨Is.keeps _, ?_⟩
                  refine List.forall_mem_cons.2 ⟨Is.keeps _, ?_⟩
                  refine List.forall_mem_cons.2 ⟨Is.keeps _, ?_⟩
                  exact fun _ h => nomatch h
                case step =>
                  refine List.forall_mem_cons.2 ⟨?_, ?_⟩
                  · refine SlotStep.plain rfl rfl rfl ?_
                    intro tm ws hsame hS hg K hK
                    have e8 : tm[8]? = some (.int .u64 (r : Int)) := hsame.2 8 rfl
                    go_simp
                    exact hK _ _ (Below.refl _ _) hS rfl
                  refine List.forall_mem_cons.2 ⟨?_, ?_⟩
                  · refine SlotStep.plain rfl rfl rfl ?_
                    intro tm ws hsame hS hg K hK
                    obtain ⟨v76, e76, rfl⟩ := hg 0 (by kernel_rfl) _ 76 rfl rfl
                    go_simp
                    simp only [frombits_run, Int.toNat_natCast]
                    exact hK _ _ (Below.refl _ _) hS rfl
                  refine List.forall_mem_cons.2 ⟨?_, ?_⟩
                  · refine SlotStep.plain rfl rfl rfl ?_
                    intro tm ws hsame hS hg K hK
                    have e2 : tm[2]? = some (.pointer (some ⟨w.heap.size, 0, none⟩)) := hsame.2 2 rfl
                    go_simp
                    exact hK _ _ (Below.refl _ _) hS rfl
                  refine List.forall_mem_cons.2 ⟨?_, ?_⟩
                  · refine SlotStep.plain rfl rfl rfl ?_
                    intro tm ws hsame hS hg K hK
                    obtain ⟨v78, e78, rfl⟩ := hg 2 (by kernel_rfl) _ 78 rfl rfl
                    obtain ⟨⟨k0, k1, k2⟩, -⟩ := slot3 (hS.1)
                    go_simp
                    exact hK _ _ (Below.refl _ _) hS rfl
                  refine List.forall_mem_cons.2 ⟨?_, ?_⟩
                  · refine SlotStep.plain rfl rfl rfl ?_
                    intro tm ws hsame hS hg K hK
                    obtain ⟨v77, e77, rfl⟩ := hg 1 (by kernel_rfl) _ 77 rfl rfl
                    obtain ⟨v79, e79, rfl⟩ := hg 3 (by kernel_rfl) _ 79 rfl rfl
                    go_simp
                    have hsn := fsign_num (r) neg ws
                    rw [neg_sgn hr63] at hsn
                    refine hsn.mono ?_
                    rintro e' wm ⟨rfl, rfl⟩
                    exact hK _ _ (Below.refl _ _) hS (congrArg (Value.float .f64) HF.out)
                  refine List.forall_mem_cons.2 ⟨?_, ?_⟩
                  · refine SlotStep.plain rfl rfl rfl ?_
                    intro tm ws hsame hS hg K hK
                    obtain ⟨v80, e80, rfl⟩ := hg 4 (by kernel_rfl) _ 80 rfl rfl
                    go_simp
                    exact hK _ _ (Below.refl _ _) hS rfl
                  exact fun _ h => nomatch h
                case fin =>
                  intro tm w8 hsame hS hgot
                  obtain ⟨u, hu, htm⟩ := hsame.form (by kernel_rfl)
                  obtain ⟨v4, e4, rfl⟩ := hgot 5 _ 4 rfl rfl
                  have h4 := hu _ _ e4
                  have hb8 := hS.2
                  clear hgot hu hsame e4
                  rw [htm]
                  clear htm tm
                  simp only [List.foldl_cons, List.foldl_nil, List.setIfInBounds_toArray, List.set_cons_zero, List.set_cons_succ, h4]
                  clear h4
                  go_wp2_with fail
                  go_ret
                  exact ⟨rfl, hbw5.trans (hb8.mono hbw5.size)⟩
            · obtain ⟨r, rfl⟩ := Int.eq_ofNat_of_zero_le (Int.le_of_lt hy0)
              obtain ⟨q, hq⟩ := Int.eq_ofNat_of_zero_le (show 0 ≤ e + 1074 by omega)
              have hyu := HY.out
              rw [hq, Int.toNat_natCast] at hyu
              have hq5 := hUlt.out _ q (by omega) hyu
              obtain ⟨rh, hrh⟩ : ∃ rh : Nat, q * 4503599627370496 + r = rh := ⟨_, rfl⟩
              have HF : Hid (sgn neg rh = Wd) := Lib.hid (HM2.out rh (by unfold INF; omega) (by rw [← hrh, un_pack (by omega) (Or.inl (by omega)), cast_pow2]; exact hyu))
              have hr63 : rh < 9223372036854775808 := by omega
              obtain ⟨s82, hs82⟩ : ∃ s82 : Int, (r : Int) - 4503599627370496 = s82 := ⟨_, rfl⟩
              obtain ⟨q5, hq5e⟩ : ∃ q5 : Int, e + 1075 = q5 := ⟨_, rfl⟩
              obtain ⟨s86, hs86⟩ : ∃ s86 : Int, q5 * 4503599627370496 = s86 := ⟨_, rfl⟩
              have hw82 : IntKind.u64.wrap s82 = s82 := by rw [IntKind.wrap_u64]; omega
              have hw84 : IntKind.i64.wrap q5 = q5 := by rw [IntKind.wrap_i64]; omega
              have hw85 : IntKind.u64.wrap q5 = q5 := by rw [IntKind.wrap_u64]; omega
              have hw86 : IntKind.u64.wrap s86 = s86 := by rw [IntKind.wrap_u64]; omega
              have hs87 : s82 + s86 = (rh : Int) := by omega
              have hw87 : IntKind.u64.wrap (rh : Int) = (rh : Int) := by rw [IntKind.wrap_u64]; omega
              clear HY HM2 hUlt hyu
              go_upto_region 24 with fail
              refine wp_region_slots (by kernel_rfl) [81, 82, 83, 84, 85, 86, 87, 88, 89, 90, 91, 4] (fun w' => (w'.heap[w.heap.size]? = some (.cells #[.bool neg, .slice a n c, .int .i64 E] 63 (0, 0))) ∧ (Below w5.heap.size w5 w')) (Said [Is (.int .u64 (r : Int)), Is (.int .u64 s82), Is (.int .i64 e), Is (.int .i64 q5), Is (.int .u64 q5), Is (.int .u64 s86), Is (.int .u64 (rh : Int)), Is (.float .f64 rh), Is (.pointer (some ⟨w.heap.size, 0, none⟩)), Is (.bool neg), Is (.float .f64 Wd), Is (.float .f64 Wd)]) (by kernel_rfl) (by kernel_rfl) (by kernel_rfl) (by kernel_rfl) (Said.keep ?keep) ⟨slot_kept hc5 (bdn (Below.refl _ _) 1), bdn (Below.refl _ _) 1⟩ (l := [0, 1, 2, 3, 4, 5, 6, 7, 8, 9, 10, 11]) (by kernel_rfl) ?step ?fin
              case keep =>
                refine List.forall_mem_cons.2 ⟨Is.keeps _, ?_⟩
                refine List.forall_mem_cons.2 ⟨Is.keeps _, ?_⟩
                refine List.forall_mem_cons.2 ⟨Is.keeps _, ?_⟩
                refine List.forall_mem_cons.2 ⟨Is.keeps _, ?_⟩
                refine List.forall_mem_cons.2 ⟨Is.keeps _, ?_⟩
                refine List.forall_mem_cons.2 ⟨Is.keeps _, ?_⟩
                refine List.forall_mem_cons.2 ⟨Is.keeps _, ?_⟩
                refine List.forall_mem_cons.2 ⟨Is.keeps _, ?_⟩
                refine List.forall_mem_cons.2 ⟨Is.keeps _, ?_⟩
                refine List.forall_mem_cons.2 ⟨Is.keeps _, ?_⟩
                refine List.forall_mem_cons.2 ⟨Is.keeps _, ?_⟩
                refine List.forall_mem_cons.2 ⟨Is.keeps _, ?_⟩
                exact fun _ h => nomatch h
              case step =>
                refine List.forall_mem_cons.2 ⟨?_, ?_⟩
                · refine SlotStep.plain rfl rfl rfl ?_
                  intro tm ws hsame hS hg K hK
                  have e8 : tm[8]? = some (.int .u64 (r : Int)) := hsame.2 8 rfl
                  go_simp
                  exact hK _ _ (Below.refl _ _) hS rfl
                refine List.forall_mem_cons.2 ⟨?_, ?_⟩
                · refine SlotStep.plain rfl rfl rfl ?_
                  intro tm ws hsame hS hg K hK
                  obtain ⟨v81, e81, rfl⟩ := hg 0 (by kernel_rfl) _ 81 rfl rfl
                  go_simp
                  exact hK _ _ (Below.refl _ _) hS rfl
                refine List.forall_mem_cons.2 ⟨?_, ?_⟩
                · refine SlotStep.plain rfl rfl rfl ?_
                  intro tm ws hsame hS hg K hK
                  have e10 : tm[10]? = some (.int .i64 e) := hsame.2 10 rfl
                  go_simp
                  exact hK _ _ (Below.refl _ _) hS rfl
                refine List.forall_mem_cons.2 ⟨?_, ?_⟩
                · refine SlotStep.plain rfl rfl rfl ?_
                  intro tm ws hsame hS hg K hK
                  obtain ⟨v83, e83, rfl⟩ := hg 2 (by kernel_rfl) _ 83 rfl rfl
                  go_simp
                  exact hK _ _ (Below.refl _ _) hS rfl
                refine List.forall_mem_cons.2 ⟨?_, ?_⟩
                · refine SlotStep.plain rfl rfl rfl ?_
                  intro tm ws hsame hS hg K hK
                  obtain ⟨v84, e84, rfl⟩ := hg 3 (by kernel_rfl) _ 84 rfl rfl
                  go_simp
                  exact hK _ _ (Below.refl _ _) hS rfl
                refine List.forall_mem_cons.2 ⟨?_, ?_⟩
                · refine SlotStep.plain rfl rfl rfl ?_
                  intro tm ws hsame hS hg K hK
                  obtain ⟨v85, e85, rfl⟩ := hg 4 (by kernel_rfl) _ 85 rfl rfl
                  go_simp
                  exact hK _ _ (Below.refl _ _) hS rfl
                refine List.forall_mem_cons.2 ⟨?_, ?_⟩
                · refine SlotStep.plain rfl rfl rfl ?_
                  intro tm ws hsame hS hg K hK
                  obtain ⟨v82, e82, rfl⟩ := hg 1 (by kernel_rfl) _ 82 rfl rfl
                  obtain ⟨v86, e86, rfl⟩ := hg 5 (by kernel_rfl) _ 86 rfl rfl
                  go_simp
                  exact hK _ _ (Below.refl _ _) hS rfl
                refine List.forall_mem_cons.2 ⟨?_, ?_⟩
                · refine SlotStep.plain rfl rfl rfl ?_
                  intro tm ws hsame hS hg K hK
                  obtain ⟨v87, e87, rfl⟩ := hg 6 (by kernel_rfl) _ 87 rfl rfl
                  go_simp
                  simp only [frombits_run, Int.toNat_natCast]
                  exact hK _ _ (Below.refl _ _) hS rfl
                refine List.forall_mem_cons.2 ⟨?_, ?_⟩
                · refine SlotStep.plain rfl rfl rfl ?_
                  intro tm ws hsame hS hg K hK
                  have e2 : tm[2]? = some (.pointer (some ⟨w.heap.size, 0, none⟩)) := hsame.2 2 rfl
                  go_simp
                  exact hK _ _ (Below.refl _ _) hS rfl
                refine List.forall_mem_cons.2 ⟨?_, ?_⟩
                · refine SlotStep.plain rfl rfl rfl ?_
                  intro tm ws hsame hS hg K hK
                  obtain ⟨v89, e89, rfl⟩ := hg 8 (by kernel_rfl) _ 89 rfl rfl
                  obtain ⟨⟨k0, k1, k2⟩, -⟩ := slot3 (hS.1)
                  go_simp
                  exact hK _ _ (Below.refl _ _) hS rfl
                refine List.forall_mem_cons.2 ⟨?_, ?_⟩
                · refine SlotStep.plain rfl rfl rfl ?_
                  intro tm ws hsame hS hg K hK
                  obtain ⟨v88, e88, rfl⟩ := hg 7 (by kernel_rfl) _ 88 rfl rfl
                  obtain ⟨v90, e90, rfl⟩ := hg 9 (by kernel_rfl) _ 90 rfl rfl
                  go_simp
                  have hsn := fsign_num (rh) neg ws
                  rw [neg_sgn hr63] at hsn
                  refine hsn.mono ?_
                  rintro e' wm ⟨rfl, rfl⟩
                  exact hK _ _ (Below.refl _ _) hS (congrArg (Value.float .f64) HF.out)
                refine List.forall_mem_cons.2 ⟨?_, ?_⟩
                · refine SlotStep.plain rfl rfl rfl ?_
                  intro tm ws hsame hS hg K hK
                  obtain ⟨v91, e91, rfl⟩ := hg 10 (by kernel_rfl) _ 91 rfl rfl
                  go_simp
                  exact hK _ _ (Below.refl _ _) hS rfl
                exact fun _ h => nomatch h
              case fin =>
                intro tm w8 hsame hS hgot
                obtain ⟨u, hu, htm⟩ := hsame.form (by kernel_rfl)
                obtain ⟨v4, e4, rfl⟩ := hgot 11 _ 4 rfl rfl
                have h4 := hu _ _ e4
                have hb8 := hS.2
                clear hgot hu hsame e4
                rw [htm]
                clear htm tm
                simp only [List.foldl_cons, List.foldl_nil, List.setIfInBounds_toArray, List.set_cons_zero, List.set_cons_succ, h4]
                clear h4
                go_wp2_with fail
                go_ret
                exact ⟨rfl, hbw5.trans (hb8.mono hbw5.size)⟩
        · obtain ⟨m', rfl⟩ : ∃ m', k = m' + 1 := ⟨k - 1, by omega⟩
          obtain ⟨d, x', hcd, hd0, hd1, hx0', hx1', hv1, hv2⟩ := hdig.out m' (by omega)
          obtain rfl : x' = x := by rw [← hv1, HX.out]
          have e0 : (((m' + 1 : Nat) : Int) - 1) = (m' : Int) := by omega
          rw [e0]
          have hm' : m' < nR := by omega
          obtain ⟨z, hz⟩ : ∃ z, x' * 4294967296 = z := ⟨_, rfl⟩
          rw [hz] at hx1' hv2
          have HV2 := Lib.hid hv2
          have hz0 : 0 ≤ z ∧ z < 9007199254740992 := by omega
          clear hv1 hv2 e0 HX hx0 hx1
          go_wp2_with fail
          go_round
          case rel => exact ⟨m', z + d, by omega, by go_num, by go_num, by omega, hx1', HV2⟩
          case measure => first | (simp [intOf]; done) | (simp [intOf]; omega)
end Go.Proofs.YtfanhllcoaondaaGreatDoor

namespace Go.Proofs.YtfanhllcoaondaaGreatDoor
open Go.RowKit

def IsSL (N : Int) (k : Nat) (v : Value) (w : World) : Prop := ∃ a n c, v = .slice a n c ∧ ∃ base, NewN base w (.slice a n c) N k
theorem IsSL.keeps (N : Int) (k : Nat) : Keeps (IsSL N k) := fun _ _ _ hb ⟨a, n, c, h1, base, h2⟩ => ⟨a, n, c, h1, base, h2.below hb⟩
theorem same_new {base base' : Nat} {w : World} {a a2 : Option Addr} {n c n2 c2 : Nat} {N : Int} {m k : Nat} (h : NewN base w (.slice a n c) N m) (g : NewN base' w (.slice a2 n2 c2) N k) :
    Calls Tryz.prog 56 #[.slice a n c, .slice a2 n2 c2] w fun e w' => RetV w (.bool true) e w' := by
  obtain ⟨l, h1, h2, h3, h4⟩ := h
  obtain ⟨l', g1, g2, g3, g4⟩ := g
  obtain rfl : l = l' := can_eq B64_pos h2 g2 (h3.trans g3.symm)
  obtain ⟨a', c', he, q1, q2, q3⟩ := h1.form
  obtain ⟨a'', c'', he', r1, r2, r3⟩ := g1.form
  simp only [Value.slice.injEq] at he he'
  obtain ⟨rfl, rfl, rfl⟩ := he
  obtain ⟨rfl, rfl, rfl⟩ := he'
  exact same_yes _ _ _ _ _ l w rfl q1 q2 r1 r2 q3 r3
theorem RQ.parts {L : Nat} {w : World} {q : Bool} {a2 : Option Addr} {n2 c2 : Nat} {G Z : Int} {m b : Nat} (hr : RQ L w (.agg #[.bool q, .slice a2 n2 c2, .int .i64 G]) Z m b) {p : Bool} {N E : Int} {E0 : Nat} (hN : 0 ≤ N) (ho : N ≠ 0 → ∃ z, N = 2 * z + 1) (h0 : N = 0 → p = false ∧ E = 0) (hE : E + (L : Int) = (E0 : Int)) (hv : sg p N * 2 ^ E0 = Z) :
    RN w (.slice a2 n2 c2) N m ∧ p = q ∧ E = G := by
  obtain ⟨M, G0, h1, h2, h3, h4, h5, -⟩ := hr.open
  rw [h2] at hv
  by_cases hz : N = 0
  · have hM : M = 0 := by
      have := rz_abs (neg := q) (N := M) (E := G0) h1.nonneg rfl
      rw [← hv, hz] at this
      have e : sg p 0 = 0 := by cases p <;> rfl
      rw [e, Int.zero_mul] at this
      have hp := pow2_pos G0
      rcases Int.lt_or_eq_of_le h1.nonneg with h6 | h6
      · have := Int.mul_pos h6 hp
        unfold absI at *
        simp at *
        omega
      · exact h6.symm
    obtain ⟨h6, h7⟩ := h4 hM
    obtain ⟨h8, h9⟩ := h0 hz
    rw [hz, ← hM]
    exact ⟨h1, by rw [h8, h6], by rw [h9, h7]⟩
  · obtain ⟨h6, h7, h8⟩ := rz_pos (by omega : 0 < N) h1.nonneg hv
    obtain ⟨h9, h10⟩ := odd_pow_unique h6 (ho hz) (h5 (by omega))
    rw [h10]
    exact ⟨h1, h7, by omega⟩
set_option maxRecDepth 100000 in
set_option maxHeartbeats 2000000 in
theorem is3_num {base : Nat} {w : World} {L : Nat} {p q : Bool} {a a2 : Option Addr} {n c n2 c2 : Nat} {N E G Z : Int} {m k b E0 : Nat} (hx : NewN base w (.slice a n c) N m) (hr : RQ L w (.agg #[.bool q, .slice a2 n2 c2, .int .i64 G]) Z k b) (ho : N ≠ 0 → ∃ z, N = 2 * z + 1) (h0 : N = 0 → p = false ∧ E = 0) (hE : E + (L : Int) = (E0 : Int)) (hv : sg p N * 2 ^ E0 = Z) (hk : k ≤ 10000) :
    Calls Tryz.prog 37 #[.agg #[.bool p, .slice a n c, .int .i64 E], .agg #[.bool q, .slice a2 n2 c2, .int .i64 G]] w fun e w' => RetV w (.bool true) e w' := by
  obtain ⟨w1, hw1⟩ : ∃ w1, w.alloc (.cells #[.bool p, .slice a n c, .int .i64 E] 60) = w1 := ⟨_, rfl⟩
  obtain ⟨w2, hw2⟩ : ∃ w2, w1.alloc (.cells #[.bool q, .slice a2 n2 c2, .int .i64 G] 63) = w2 := ⟨_, rfl⟩
  have hb1 : Below w.heap.size w w1 := hw1 ▸ below_alloc w _
  have hb12 : Below w1.heap.size w1 w2 := hw2 ▸ below_alloc w1 _
  have hbw2 := hb1.trans (hb12.mono hb1.size)
  have hc1 : w2.heap[w.heap.size]? = some (.cells #[.bool p, .slice a n c, .int .i64 E] 60 (0, 0)) := slot_kept (hw1 ▸ heap_alloc_new w _) hb12
  have hc2 : w2.heap[w1.heap.size]? = some (.cells #[.bool q, .slice a2 n2 c2, .int .i64 G] 63 (0, 0)) := hw2 ▸ heap_alloc_new w1 _
  have hN0 := hx.num.nonneg
  obtain ⟨hrn, rfl, rfl⟩ := hr.parts hN0 ho h0 hE hv
  have hsg := qsign_num (hr.below hbw2)
  have hln := hx.len.1
  replace hx := hx.below hbw2
  replace hrn := hrn.below hbw2
  obtain ⟨⟨k0, k1, k2⟩, -⟩ := slot3 hc1
  obtain ⟨⟨l0, l1, l2⟩, -⟩ := slot3 hc2
  by_cases hz : N = 0
  · obtain ⟨rfl, rfl⟩ := h0 hz
    have hn0 := hln.2 hz
    subst hn0
    have hs0 : cmpI Z 0 = 0 := by rw [← hv, hz]; simp [sg, cmpI_eq]
    rw [hs0] at hsg
    have HSG := Lib.hid hsg
    clear hsg hx hrn hr ho h0 hv hln hz hs0 hN0
    go_enter Tryz.func37, Tryz.ntmps37
    go_wp2_with fail
    refine HSG.out.mono ?_
    rintro e w3 ⟨rfl, hb3⟩
    have hbw3 := hbw2.trans (hb3.mono hbw2.size)
    have hc13 := slot_kept hc1 hb3
    clear k0 k1 k2 l0 l1 l2
    obtain ⟨⟨k0, k1, k2⟩, -⟩ := slot3 hc13
    go_wp2_with fail
    go_ret
    exact ⟨rfl, hbw3⟩
  · obtain ⟨s, hs, hs0⟩ := rz_some (p := p) hN0 hz hv.symm
    rw [hs] at hsg
    have HSG := Lib.hid hsg
    clear hsg hr ho h0 hv hln hz hs hN0
    go_enter Tryz.func37, Tryz.ntmps37
    go_wp2_with fail
    refine HSG.out.mono ?_
    rintro e w3 ⟨rfl, hb3⟩
    have hbw3 := hbw2.trans (hb3.mono hbw2.size)
    replace hc1 := slot_kept hc1 hb3
    replace hc2 := slot_kept hc2 hb3
    replace hx := hx.below hb3
    replace hrn := hrn.below hb3
    clear k0 k1 k2 l0 l1 l2 hb3 HSG
    go_upto_region 3 with fail
    refine wp_region_slots (by kernel_rfl) [24, 25, 26, 27, 28, 29, 30, 31, 32, 33, 34, 35, 36, 37, 38, 39, 40, 41, 42, 43, 44, 45, 4] (fun w' => (w'.heap[w.heap.size]? = some (.cells #[.bool p, .slice a n c, .int .i64 E] 60 (0, 0))) ∧ (w'.heap[w1.heap.size]? = some (.cells #[.bool p, .slice a2 n2 c2, .int .i64 E] 63 (0, 0))) ∧ (NewN base w' (.slice a n c) N m) ∧ (RN w' (.slice a2 n2 c2) N k) ∧ (Below w3.heap.size w3 w')) (Said [Is (.pointer (some ⟨w.heap.size, 0, none⟩)), Is (.pointer (some ⟨w.heap.size, 0, none⟩)), Is (.bool p), Is (.pointer (some ⟨w1.heap.size, 0, none⟩)), Is (.bool p), Is (.bool true), Is (.bool true), Is (.pointer (some ⟨w.heap.size, 2, none⟩)), Is (.int .i64 E), Is (.pointer (some ⟨w1.heap.size, 2, none⟩)), Is (.int .i64 E), Is (.bool true), Is (.bool true), Is (.bool true), Is (.pointer (some ⟨w.heap.size, 0, none⟩)), Is (.pointer (some ⟨w.heap.size, 1, none⟩)), Is (.slice a n c), Is (.pointer (some ⟨w1.heap.size, 1, none⟩)), Is (.slice a2 n2 c2), IsSL N (k + 1), Is (.bool true), Is (.bool true), Is (.bool true)]) (by kernel_rfl) (by kernel_rfl) (by kernel_rfl) (by kernel_rfl) (Said.keep ?keep) ⟨slot_kept hc1 (bdn (Below.refl _ _) 1), slot_kept hc2 (bdn (Below.refl _ _) 1), hx.below (bdn (Below.refl _ _) 1), hrn.below (bdn (Below.refl _ _) 1), bdn (Below.refl _ _) 1⟩ (l := [0, 1, 2, 3, 4, 5, 6, 7, 8, 9, 10, 11, 12, 13, 14, 15, 16, 17, 18, 19, 20, 21, 22]) (by kernel_rfl) ?step ?fin
    case keep =>
      refine List.forall_mem_cons.2 ⟨Is.keeps _, ?_⟩
      refine List.forall_mem_cons.2 ⟨Is.keeps _, ?_⟩
      refine List.forall_mem_cons.2 ⟨Is.keeps _, ?_⟩
      refine List.forall_mem_cons.2 ⟨Is.keeps _, ?_⟩
      refine List.forall_mem_cons.2 ⟨Is.keeps _, ?_⟩
      refine List.forall_mem_cons.2 ⟨Is.keeps _, ?_⟩
      refine List.forall_mem_cons.2 ⟨Is.keeps _, ?_⟩
      refine List.forall_mem_cons.2 ⟨Is.keeps _, ?_⟩
      refine List.forall_mem_cons.2 ⟨Is.keeps _, ?_⟩
      refine List.forall_mem_cons.2 ⟨Is.keeps _, ?_⟩
      refine List.forall_mem_cons.2 ⟨Is.keeps _, ?_⟩
      refine List.forall_mem_cons.2 ⟨Is.keeps _, ?_⟩
      refine List.forall_mem_cons.2 ⟨Is.keeps _, ?_⟩
      refine List.forall_mem_cons.2 ⟨Is.keeps _, ?_⟩
      refine List.forall_mem_cons.2 ⟨Is.keeps _, ?_⟩
      refine List.forall_mem_cons.2 ⟨Is.keeps _, ?_⟩
      refine List.forall_mem_cons.2 ⟨Is.keeps _, ?_⟩
      refine List.forall_mem_cons.2 ⟨Is.keeps _, ?_⟩
      refine List.forall_mem_cons.2 ⟨Is.keeps _, ?_⟩
      refine List.forall_mem_cons.2 ⟨IsSL.keeps _ _, ?_⟩
      refine List.forall_mem_cons.2 ⟨Is.keeps _, ?_⟩
      refine List.forall_mem_cons.2 ⟨Is.keeps _, ?_⟩
      refine List.forall_mem_cons.2 ⟨Is.keeps _, ?_⟩
      exact fun _ h => nomatch h
    case step =>
      refine List.forall_mem_cons.2 ⟨?_, ?_⟩
      · refine SlotStep.plain rfl rfl rfl ?_
        intro tm ws hsame hS hg K hK
        have e2 : tm[2]? = some (.pointer (some ⟨w.heap.size, 0, none⟩)) := hsame.2 2 rfl
        go_simp
        exact hK _ _ (Below.refl _ _) hS rfl
      refine List.forall_mem_cons.2 ⟨?_, ?_⟩
      · refine SlotStep.plain rfl rfl rfl ?_
        intro tm ws hsame hS hg K hK
        obtain ⟨v24, e24, rfl⟩ := hg 0 (by kernel_rfl) _ 24 rfl rfl
        go_simp
        exact hK _ _ (Below.refl _ _) hS rfl
      refine List.forall_mem_cons.2 ⟨?_, ?_⟩
      · refine SlotStep.plain rfl rfl rfl ?_
        intro tm ws hsame hS hg K hK
        obtain ⟨v25, e25, rfl⟩ := hg 1 (by kernel_rfl) _ 25 rfl rfl
        obtain ⟨⟨k0, k1, k2⟩, -⟩ := slot3 (hS.1)
        go_simp
        exact hK _ _ (Below.refl _ _) hS rfl
      refine List.forall_mem_cons.2 ⟨?_, ?_⟩
      · refine SlotStep.plain rfl rfl rfl ?_
        intro tm ws hsame hS hg K hK
        have e3 : tm[3]? = some (.pointer (some ⟨w1.heap.size, 0, none⟩)) := hsame.2 3 rfl
        go_simp
        exact hK _ _ (Below.refl _ _) hS rfl
      refine List.forall_mem_cons.2 ⟨?_, ?_⟩
      · refine SlotStep.plain rfl rfl rfl ?_
        intro tm ws hsame hS hg K hK
        obtain ⟨v27, e27, rfl⟩ := hg 3 (by kernel_rfl) _ 27 rfl rfl
        obtain ⟨⟨k0, k1, k2⟩, -⟩ := slot3 (hS.2.1)
        go_simp
        exact hK _ _ (Below.refl _ _) hS rfl
      refine List.forall_mem_cons.2 ⟨?_, ?_⟩
      · refine SlotStep.plain rfl rfl rfl ?_
        intro tm ws hsame hS hg K hK
        obtain ⟨v26, e26, rfl⟩ := hg 2 (by kernel_rfl) _ 26 rfl rfl
        obtain ⟨v28, e28, rfl⟩ := hg 4 (by kernel_rfl) _ 28 rfl rfl
        go_simp
        exact hK _ _ (Below.refl _ _) hS rfl
      refine List.forall_mem_cons.2 ⟨?_, ?_⟩
      · refine SlotStep.plain rfl rfl rfl ?_
        intro tm ws hsame hS hg K hK
        obtain ⟨v29, e29, rfl⟩ := hg 5 (by kernel_rfl) _ 29 rfl rfl
        go_simp
        exact hK _ _ (Below.refl _ _) hS rfl
      refine List.forall_mem_cons.2 ⟨?_, ?_⟩
      · refine SlotStep.guarded rfl rfl 6 rfl rfl (by kernel_rfl) (fun _ _ h => h) ?_
        intro tm ws hsame hS hg K hK
        have e2 : tm[2]? = some (.pointer (some ⟨w.heap.size, 0, none⟩)) := hsame.2 2 rfl
        go_simp
        exact hK _ _ (Below.refl _ _) hS rfl
      refine List.forall_mem_cons.2 ⟨?_, ?_⟩
      · refine SlotStep.guarded rfl rfl 6 rfl rfl (by kernel_rfl) (fun _ _ h => h) ?_
        intro tm ws hsame hS hg K hK
        obtain ⟨v31, e31, rfl⟩ := hg 7 (by kernel_rfl) _ 31 rfl rfl
        obtain ⟨⟨k0, k1, k2⟩, -⟩ := slot3 (hS.1)
        go_simp
        exact hK _ _ (Below.refl _ _) hS rfl
      refine List.forall_mem_cons.2 ⟨?_, ?_⟩
      · refine SlotStep.guarded rfl rfl 6 rfl rfl (by kernel_rfl) (fun _ _ h => h) ?_
        intro tm ws hsame hS hg K hK
        have e3 : tm[3]? = some (.pointer (some ⟨w1.heap.size, 0, none⟩)) := hsame.2 3 rfl
        go_simp
        exact hK _ _ (Below.refl _ _) hS rfl
      refine List.forall_mem_cons.2 ⟨?_, ?_⟩
      · refine SlotStep.guarded rfl rfl 6 rfl rfl (by kernel_rfl) (fun _ _ h => h) ?_
        intro tm ws hsame hS hg K hK
        obtain ⟨v33, e33, rfl⟩ := hg 9 (by kernel_rfl) _ 33 rfl rfl
        obtain ⟨⟨k0, k1, k2⟩, -⟩ := slot3 (hS.2.1)
        go_simp
        exact hK _ _ (Below.refl _ _) hS rfl
      refine List.forall_mem_cons.2 ⟨?_, ?_⟩
      · refine SlotStep.guarded rfl rfl 6 rfl rfl (by kernel_rfl) (fun _ _ h => h) ?_
        intro tm ws hsame hS hg K hK
        obtain ⟨v32, e32, rfl⟩ := hg 8 (by kernel_rfl) _ 32 rfl rfl
        obtain ⟨v34, e34, rfl⟩ := hg 10 (by kernel_rfl) _ 34 rfl rfl
        go_simp
        exact hK _ _ (Below.refl _ _) hS rfl
      refine List.forall_mem_cons.2 ⟨?_, ?_⟩
      · refine SlotStep.plain rfl rfl rfl ?_
        intro tm ws hsame hS hg K hK
        obtain ⟨v30, e30, rfl⟩ := hg 6 (by kernel_rfl) _ 30 rfl rfl
        obtain ⟨v35, e35, rfl⟩ := hg 11 (by kernel_rfl) _ 35 rfl rfl
        go_simp
        exact hK _ _ (Below.refl _ _) hS rfl
      refine List.forall_mem_cons.2 ⟨?_, ?_⟩
      · refine SlotStep.plain rfl rfl rfl ?_
        intro tm ws hsame hS hg K hK
        obtain ⟨v36, e36, rfl⟩ := hg 12 (by kernel_rfl) _ 36 rfl rfl
        go_simp
        exact hK _ _ (Below.refl _ _) hS rfl
      refine List.forall_mem_cons.2 ⟨?_, ?_⟩
      · refine SlotStep.guarded rfl rfl 13 rfl rfl (by kernel_rfl) (fun _ _ h => h) ?_
        intro tm ws hsame hS hg K hK
        have e2 : tm[2]? = some (.pointer (some ⟨w.heap.size, 0, none⟩)) := hsame.2 2 rfl
        go_simp
        exact hK _ _ (Below.refl _ _) hS rfl
      refine List.forall_mem_cons.2 ⟨?_, ?_⟩
      · refine SlotStep.guarded rfl rfl 13 rfl rfl (by kernel_rfl) (fun _ _ h => h) ?_
        intro tm ws hsame hS hg K hK
        obtain ⟨v38, e38, rfl⟩ := hg 14 (by kernel_rfl) _ 38 rfl rfl
        go_simp
        exact hK _ _ (Below.refl _ _) hS rfl
      refine List.forall_mem_cons.2 ⟨?_, ?_⟩
      · refine SlotStep.guarded rfl rfl 13 rfl rfl (by kernel_rfl) (fun _ _ h => h) ?_
        intro tm ws hsame hS hg K hK
        obtain ⟨v39, e39, rfl⟩ := hg 15 (by kernel_rfl) _ 39 rfl rfl
        obtain ⟨⟨k0, k1, k2⟩, -⟩ := slot3 (hS.1)
        go_simp
        exact hK _ _ (Below.refl _ _) hS rfl
      refine List.forall_mem_cons.2 ⟨?_, ?_⟩
      · refine SlotStep.guarded rfl rfl 13 rfl rfl (by kernel_rfl) (fun _ _ h => h) ?_
        intro tm ws hsame hS hg K hK
        have e3 : tm[3]? = some (.pointer (some ⟨w1.heap.size, 0, none⟩)) := hsame.2 3 rfl
        go_simp
        exact hK _ _ (Below.refl _ _) hS rfl
      refine List.forall_mem_cons.2 ⟨?_, ?_⟩
      · refine SlotStep.guarded rfl rfl 13 rfl rfl (by kernel_rfl) (fun _ _ h => h) ?_
        intro tm ws hsame hS hg K hK
        obtain ⟨v41, e41, rfl⟩ := hg 17 (by kernel_rfl) _ 41 rfl rfl
        obtain ⟨⟨k0, k1, k2⟩, -⟩ := slot3 (hS.2.1)
        go_simp
        exact hK _ _ (Below.refl _ _) hS rfl
      refine List.forall_mem_cons.2 ⟨?_, ?_⟩
      · refine SlotStep.guarded rfl rfl 13 rfl rfl (by kernel_rfl) (fun _ _ h => h) ?_
        intro tm ws hsame hS hg K hK
        obtain ⟨v42, e42, rfl⟩ := hg 18 (by kernel_rfl) _ 42 rfl rfl
        go_simp
        refine (limbs_num (k := k + 1) hS.2.2.2.1 (by omega) (by omega)).mono ?_
        rintro e wm ⟨aR, nR, cR, rfl, hR, hb⟩
        exact hK _ _ hb (⟨slot_kept (hS.1) (hb), slot_kept (hS.2.1) (hb), (hS.2.2.1).below (hb), (hS.2.2.2.1).below (hb), (hS.2.2.2.2).trans (Below.mono (hb) (hS.2.2.2.2).size)⟩) ⟨aR, nR, cR, rfl, _, hR⟩
      refine List.forall_mem_cons.2 ⟨?_, ?_⟩
      · refine SlotStep.guarded rfl rfl 13 rfl rfl (by kernel_rfl) (fun _ _ h => h) ?_
        intro tm ws hsame hS hg K hK
        obtain ⟨v40, e40, rfl⟩ := hg 16 (by kernel_rfl) _ 40 rfl rfl
        obtain ⟨v43, e43, ⟨a43, n43, c43, rfl, g43⟩⟩ := hg 19 (by kernel_rfl) _ 43 rfl rfl
        obtain ⟨base2, g2⟩ := g43
        go_simp
        refine (same_new hS.2.2.1 g2).mono ?_
        rintro e wm ⟨rfl, hb⟩
        exact hK _ _ hb (⟨slot_kept (hS.1) (hb), slot_kept (hS.2.1) (hb), (hS.2.2.1).below (hb), (hS.2.2.2.1).below (hb), (hS.2.2.2.2).trans (Below.mono (hb) (hS.2.2.2.2).size)⟩) rfl
      refine List.forall_mem_cons.2 ⟨?_, ?_⟩
      · refine SlotStep.plain rfl rfl rfl ?_
        intro tm ws hsame hS hg K hK
        obtain ⟨v37, e37, rfl⟩ := hg 13 (by kernel_rfl) _ 37 rfl rfl
        obtain ⟨v44, e44, rfl⟩ := hg 20 (by kernel_rfl) _ 44 rfl rfl
        go_simp
        exact hK _ _ (Below.refl _ _) hS rfl
      refine List.forall_mem_cons.2 ⟨?_, ?_⟩
      · refine SlotStep.plain rfl rfl rfl ?_
        intro tm ws hsame hS hg K hK
        obtain ⟨v45, e45, rfl⟩ := hg 21 (by kernel_rfl) _ 45 rfl rfl
        go_simp
        exact hK _ _ (Below.refl _ _) hS rfl
      exact fun _ h => nomatch h
    case fin =>
      intro tm w8 hsame hS hgot
      obtain ⟨u, hu, htm⟩ := hsame.form (by kernel_rfl)
      obtain ⟨v4, e4, rfl⟩ := hgot 22 _ 4 rfl rfl
      have h4 := hu _ _ e4
      have hb8 := hS.2.2.2.2
      clear hgot hu hsame e4
      rw [htm]
      clear htm tm
      simp only [List.foldl_cons, List.foldl_nil, List.setIfInBounds_toArray, List.set_cons_zero, List.set_cons_succ, h4]
      clear h4
      go_wp2_with fail
      go_ret
      exact ⟨rfl, hbw3.trans (hb8.mono hbw3.size)⟩

theorem tz_shift {R : Nat} {ex : Bool} {N E : Int} {d : Nat} (h : TZ R ex N (E + (d : Int))) : TZ R ex (N * 2 ^ d) E := by
  have key : ∀ K : Nat, 0 ≤ E + K → N * 2 ^ d * 2 ^ (E + K).toNat = N * 2 ^ (E + (d : Int) + K).toNat := by
    intro K hK
    rw [Int.mul_assoc, ← Int.pow_add]
    exact congrArg (fun n : Nat => N * (2 : Int) ^ n) (by omega)
  refine ⟨h.lt, fun hx K h1 h2 => ?_, fun hx K h1 h2 => ?_⟩
  · rw [key K h2]; exact h.eq hx K h1 (by omega)
  · rw [key K h2]; exact h.gt hx K h1 (by omega)
set_option maxRecDepth 100000 in
/-- The reference's Float of a number that is A times 2^e. -/
theorem rfloat_num {w : World} {L : Nat} {q : Bool} {a2 : Option Addr} {n2 c2 : Nat} {G : Int} {m b b2 R : Nat} {ex : Bool} {p : Bool} {A e : Int} {e0 : Nat} (dir : Int) (hr : RQ L w (.agg #[.bool q, .slice a2 n2 c2, .int .i64 G]) (sg p A * 2 ^ e0) m b) (hA : 0 ≤ A) (he : e + (L : Int) = (e0 : Int)) (hL : 1074 ≤ L) (hm : m ≤ 1000) (hm2 : 2 ≤ m) (heb : b + 64 * (m + 1) ≤ b2) (hLb : L ≤ b2) (hb : b2 ≤ 200000) (htz : TZ R ex A e) :
    Calls Tryz.prog 36 #[.agg #[.bool q, .slice a2 n2 c2, .int .i64 G], .int .i64 dir] w fun e w' => RetV w (.float .f64 (floW (p && decide (A ≠ 0)) R ex (decide (dir < 0)))) e w' := by
  obtain ⟨M, G0, h1, h2, h3, h4, h5, h6⟩ := hr.open
  by_cases hz : A = 0
  · have hM : M = 0 := by
      have := rz_abs (neg := q) (N := M) (E := G0) h1.nonneg rfl
      rw [← h2, hz] at this
      have e9 : sg p 0 = 0 := by cases p <;> rfl
      rw [e9, Int.zero_mul] at this
      have hp := pow2_pos G0
      rcases Int.lt_or_eq_of_le h1.nonneg with h6 | h6
      · have := Int.mul_pos h6 hp
        unfold absI at *
        simp at *
        omega
      · exact h6.symm
    subst hz
    obtain ⟨rfl, rfl⟩ := htz.unique (tz_zero e)
    have hW : floW (p && decide ((0 : Int) ≠ 0)) 0 true (decide (dir < 0)) = 0 := by
      have : (p && decide ((0 : Int) ≠ 0)) = false := by cases p <;> rfl
      rw [this]
      generalize decide (dir < 0) = d
      cases d <;> decide
    rw [hW]
    obtain ⟨w1, hw1⟩ : ∃ w1, w.alloc (.cells #[.bool q, .slice a2 n2 c2, .int .i64 G] 63) = w1 := ⟨_, rfl⟩
    have hb1 : Below w.heap.size w w1 := hw1 ▸ below_alloc w _
    have hc1 : w1.heap[w.heap.size]? = some (.cells #[.bool q, .slice a2 n2 c2, .int .i64 G] 63 (0, 0)) := hw1 ▸ heap_alloc_new w _
    have hsg := qsign_num (hr.below hb1)
    have hs0 : cmpI (sg p 0 * 2 ^ e0) 0 = 0 := by cases p <;> simp [sg, cmpI_eq]
    rw [hs0] at hsg
    have HSG := Lib.hid hsg
    obtain ⟨⟨k0, k1, k2⟩, -⟩ := slot3 hc1
    clear hsg hr h1 h2 h3 h4 h5 h6 htz hM hW hs0
    go_enter Tryz.func36, Tryz.ntmps36
    go_wp2_with fail
    refine HSG.out.mono ?_
    rintro e w2 ⟨rfl, hb2⟩
    go_wp2_with fail
    go_ret
    exact ⟨rfl, hb1.trans (hb2.mono hb1.size)⟩
  · obtain ⟨h7, h8, h9⟩ := rz_pos (by omega : 0 < A) h1.nonneg h2
    have hle := odd_le (h5 (by omega)) h7
    obtain ⟨d, hd⟩ := Nat.le.dest hle
    have hAM : A = M * 2 ^ d := by
      rw [← hd, Int.pow_add, Int.mul_comm (2 ^ e0), ← Int.mul_assoc] at h7
      have hp := pow2_pos e0
      exact Int.eq_of_mul_eq_mul_right (by omega) h7
    have hG : G = e + (d : Int) := by omega
    obtain ⟨R', ex', ht'⟩ := tz_exists (N := M) (E := G) h1.nonneg
    rw [hG] at ht'
    have ht2 := tz_shift ht'
    rw [← hAM] at ht2
    obtain ⟨rfl, rfl⟩ := htz.unique ht2
    rw [← hG] at ht'
    rw [decide_eq_true hz, Bool.and_true, h8]
    exact rfloat_pos L q G dir h1 h3 (h5 (by omega)) hL hm hm2 (by omega) hLb hb h9 ht'
end Go.Proofs.YtfanhllcoaondaaGreatDoor

namespace Go.Proofs.YtfanhllcoaondaaGreatDoor
open Go.RowKit

theorem oper_append_nil_words {P : Program} (w : World) {ops : Array Oper} {o : Oper} {a : Act} {K : Act → World → Prop} {Q : Exit → Act → World → Prop} (hgd : o.guard = none) (s x : Operand) (t : TypeId)
    (ho : o.op = .call { callee := .builtin .append, args := #[s, x], argTypes := #[t, t] }) (ht : P.underlying t = some (.slice 78)) (hi : (P.info? 78).map (fun i => (i.zero, i.size, i.bytes)) = some (some (.int .u64 0), 1, 8))
    (hs : a.eval s = .slice none 0 0) (ao : Option Addr) (n c : Nat) (l : List Int) (hx : a.eval x = .slice ao n c) (hn : n = l.length) (hr : Rd w ao l) (hM : n ≤ MaxW)
    (hK : ∀ v' w', Ow w.heap.size w' v' l → Below w.heap.size w w' → K (a.put o.dst v') w') : Oper.wp P o a w K Q := by
  by_cases hl : l = []
  · subst hl
    obtain rfl : n = 0 := hn
    obtain ⟨i, h2, h3, h4, h5⟩ := info_parts hi
    have hrun : (Builtin.append_ #[t, t] o.type #[.slice none 0 0, .slice ao 0 c]).run P w = .ok (.slice none 0 0) w := by
      cases ao <;> simp [Builtin.append_, run_underlying ht, sizeOf, typeInfo, h2, Builtin.lenOf, Builtin.firstCells, loadCells, loadCellsFrom]
    unfold Oper.wp execOp
    simp only [ho, resolve, invoke, builtin, Sem.run_bind, Sem.run_pure, Result.andThen_ok, List.map_toArray, List.map_cons, List.map_nil, hs, hx, hrun]
    exact hK _ _ (Ow.nil _ _) (Below.refl _ _)
  · obtain ⟨b, off, rfl, hat⟩ := hr.cases hl
    have h := step_append_words (ops := ops) (E := True) (K := K) (Q := Q) w hgd s x t ho ht hi w.heap.size (.slice none 0 0) [] hs (Ow.nil _ _) ⟨b, off, none⟩ n c l hx hn.symm (fun j hj => by rw [addr_add_none]; exact hat j hj) (by simpa using hM) (Nat.le_refl _) (fun v' w' h1 h2 => hK v' w' (by simpa using h1) h2)
    rwa [if_pos (by unfold Region.wanted; rw [hgd])] at h

set_option maxRecDepth 100000 in
set_option maxHeartbeats 1200000 in
theorem light3_num {w : World} (p : Bool) (a : Option Addr) (n c : Nat) (E : Int) (t : TypeId) (hn : n ≤ 9223372036854775807) :
    Calls Tryz.prog 25 #[.slice (some ⟨w.heap.size, 0, none⟩) 1 1] (w.alloc (.cells #[.bool p, .slice a n c, .int .i64 E] t)) fun e w' => RetV (w.alloc (.cells #[.bool p, .slice a n c, .int .i64 E] t)) (.bool (decide (n ≤ 40) && !(decide (E < -3000)) && !(decide (3000 < E)))) e w' := by
  obtain ⟨w1, hw1⟩ : ∃ w1, w.alloc (.cells #[.bool p, .slice a n c, .int .i64 E] t) = w1 := ⟨_, rfl⟩
  have hc1 : w1.heap[w.heap.size]? = some (.cells #[.bool p, .slice a n c, .int .i64 E] t (0, 0)) := hw1 ▸ heap_alloc_new w _
  rw [hw1]
  obtain ⟨⟨k0, k1, k2⟩, -⟩ := slot3 hc1
  have HL := Lib.hid (light_one_at a n c 22 w1 w1.heap.size rfl hn)
  have hb2 := below_alloc w1 (.cells #[Value.slice a n c] 22)
  obtain ⟨q, hq⟩ : ∃ q, decide (n ≤ 40) = q := ⟨_, rfl⟩
  rw [hq] at HL
  rw [hq]
  obtain ⟨w2, hw2⟩ : ∃ w2, w1.alloc (.cells #[Value.slice a n c] 22) = w2 := ⟨_, rfl⟩
  rw [hw2] at HL hb2
  have hc2 := slot_kept hc1 hb2
  obtain ⟨⟨l0, l1, l2⟩, -⟩ := slot3 hc2
  clear hq hw1 hc1 hc2
  cases q with
  | false =>
    go_enter Tryz.func25, Tryz.ntmps25
    go_wp2_with fail
    refine wp_loop_rounds 1 ?_
    rw [rounds_succ]
    go_wp2_with fail
    refine HL.out.mono ?_
    rintro e w' ⟨rfl, rfl⟩
    go_wp2_with fail
    go_ret
    exact ⟨rfl, hb2⟩
  | true =>
    by_cases h1 : E < -3000
    · have hv : (true && !(decide (E < -3000)) && !(decide (3000 < E))) = false := by rw [decide_eq_true h1]; rfl
      rw [hv]
      clear hv
      go_enter Tryz.func25, Tryz.ntmps25
      go_wp2_with fail
      refine wp_loop_rounds 1 ?_
      rw [rounds_succ]
      go_wp2_with fail
      refine HL.out.mono ?_
      rintro e w' ⟨rfl, rfl⟩
      go_wp2_with fail
      go_ret
      exact ⟨rfl, hb2⟩
    · by_cases h2 : 3000 < E
      · have hv : (true && !(decide (E < -3000)) && !(decide (3000 < E))) = false := by rw [decide_eq_true h2]; simp
        rw [hv]
        clear hv
        go_enter Tryz.func25, Tryz.ntmps25
        go_wp2_with fail
        refine wp_loop_rounds 1 ?_
        rw [rounds_succ]
        go_wp2_with fail
        refine HL.out.mono ?_
        rintro e w' ⟨rfl, rfl⟩
        go_wp2_with fail
        go_ret
        exact ⟨rfl, hb2⟩
      · have hv : (true && !(decide (E < -3000)) && !(decide (3000 < E))) = true := by rw [decide_eq_false h1, decide_eq_false h2]; rfl
        rw [hv]
        clear hv
        go_enter Tryz.func25, Tryz.ntmps25
        go_wp2_with fail
        refine wp_loop_rounds 2 ?_
        rw [rounds_succ]
        go_wp2_with fail
        refine HL.out.mono ?_
        rintro e w' ⟨rfl, rfl⟩
        go_wp2_with fail
        rw [rounds_succ]
        go_wp2_with fail
        go_ret
        exact ⟨rfl, hb2⟩
/-- Words in a row of the call's own. -/
def IsOw (l : List Int) (v : Value) (w : World) : Prop := ∃ a n c, v = .slice a n c ∧ ∃ base, Ow base w (.slice a n c) l
def IsOwB (p : Bool) (l : List Int) (v : Value) (w : World) : Prop := ∃ a n c, v = .agg #[.bool p, .slice a n c] ∧ ∃ base, Ow base w (.slice a n c) l
def IsOwC (p : Bool) (E : Int) (l : List Int) (v : Value) (w : World) : Prop := ∃ a n c, v = .agg #[.bool p, .slice a n c, .int .i64 E] ∧ ∃ base, Ow base w (.slice a n c) l
theorem IsOw.keeps (l : List Int) : Keeps (IsOw l) := fun _ _ _ hb ⟨a, n, c, h1, base, h2⟩ => ⟨a, n, c, h1, base, h2.below hb⟩
theorem IsOwB.keeps (p : Bool) (l : List Int) : Keeps (IsOwB p l) := fun _ _ _ hb ⟨a, n, c, h1, base, h2⟩ => ⟨a, n, c, h1, base, h2.below hb⟩
theorem IsOwC.keeps (p : Bool) (E : Int) (l : List Int) : Keeps (IsOwC p E l) := fun _ _ _ hb ⟨a, n, c, h1, base, h2⟩ => ⟨a, n, c, h1, base, h2.below hb⟩
theorem Num.var3 {w w' : World} {a : Option Addr} {n c : Nat} {N : Int} {m g lo hi : Nat} (h : Num w (.slice a n c) N m) {p : Bool} {a1 : Option Addr} {n1 c1 : Nat} {E : Int} {t : TypeId} (hv : w.heap[g]? = some (.cells #[.bool p, .slice a1 n1 c1, .int .i64 E] t (0, 0))) (ho : Only g lo hi w w') : Num w' (.slice a n c) N m := by
  obtain ⟨l, ⟨a', c', he, h1, h2, h3, h4⟩, h5, h6⟩ := h
  simp only [Value.slice.injEq] at he
  obtain ⟨rfl, rfl, rfl⟩ := he
  refine ⟨l, ⟨a, c, rfl, h1, h2, ?_, h4⟩, h5, h6⟩
  rcases h3 with h3 | ⟨b, o, rfl, hat⟩
  · exact Or.inl h3
  · by_cases hl : l = []
    · exact Or.inl hl
    · refine Or.inr ⟨b, o, rfl, ho.at' hat ?_⟩
      rintro rfl
      have hat0 := hat 0 (List.length_pos_iff.2 hl)
      rw [cell_of_row w b _ _ t _ hv] at hat0
      match o, hat0 with
      | 0, hat0 => simp at hat0
      | 1, hat0 => simp at hat0
      | 2, hat0 => simp at hat0
      | o + 3, hat0 => simp at hat0
def RetNO (w : World) (p : Bool) (N E : Int) (m : Nat) (e : Ending) (w' : World) : Prop := ∃ a n c, e = .returned (.agg #[.bool p, .slice a n c, .int .i64 E]) ∧ Num w' (.slice a n c) N m ∧ Below w.heap.size w w'
set_option maxRecDepth 100000 in
set_option maxHeartbeats 1200000 in
theorem numof_num {w : World} (p : Bool) (a : Option Addr) (n c : Nat) (l : List Int) (E : Int) (hn : n = l.length) (h : Rd w a l) (hl : Lim B64 l) (hM : n ≤ 40) :
    Calls Tryz.prog 27 #[.agg #[.bool p, .slice a n c, .int .i64 E]] w fun e w' => RetNO w p (vb B64 l) E 40 e w' := by
  have HN := Lib.hid hn
  have hMx : n ≤ MaxW := by unfold MaxW; omega
  obtain ⟨N, hN⟩ : ∃ N, vb B64 l = N := ⟨_, rfl⟩
  rw [hN]
  have HV := Lib.hid hN
  obtain ⟨w1, hw1⟩ : ∃ w1, w.alloc (.cells #[.bool p, .slice a n c, .int .i64 E] 55) = w1 := ⟨_, rfl⟩
  obtain ⟨w2, hw2⟩ : ∃ w2, w1.alloc (.cells #[.bool false, .slice none 0 0, .int .i64 0] 60) = w2 := ⟨_, rfl⟩
  have hb1 : Below w.heap.size w w1 := hw1 ▸ below_alloc w _
  have hb12 : Below w1.heap.size w1 w2 := hw2 ▸ below_alloc w1 _
  have hbw2 := hb1.trans (hb12.mono hb1.size)
  have hc1 : w2.heap[w.heap.size]? = some (.cells #[.bool p, .slice a n c, .int .i64 E] 55 (0, 0)) := slot_kept (hw1 ▸ heap_alloc_new w _) hb12
  have hc2 : w2.heap[w1.heap.size]? = some (.cells #[.bool false, .slice none 0 0, .int .i64 0] 60 (0, 0)) := hw2 ▸ heap_alloc_new w1 _
  have hs1 : w.heap.size ≤ w1.heap.size := hb1.size
  replace h := h.below hbw2
  clear hn hN hb1 hb12
  go_enter Tryz.func27, Tryz.ntmps27
  go_upto_region 1 with fail
  refine wp_region_slots_tail (by kernel_rfl) 9 [3, 4, 5, 6, 7, 8, 9, 10, 11] (fun w' => (w'.heap[w.heap.size]? = some (.cells #[.bool p, .slice a n c, .int .i64 E] 55 (0, 0))) ∧ (w'.heap[w1.heap.size]? = some (.cells #[.bool false, .slice none 0 0, .int .i64 0] 60 (0, 0))) ∧ (Rd w' a l) ∧ (Below w2.heap.size w2 w')) (Said [Is (.pointer (some ⟨w.heap.size, 0, none⟩)), Is (.bool p), Is (.pointer (some ⟨w.heap.size, 1, none⟩)), Is (.slice a n c), IsOw l, IsOwB p l, Is (.pointer (some ⟨w.heap.size, 2, none⟩)), Is (.int .i64 E), IsOwC p E l]) (by kernel_rfl) (by kernel_rfl) (by kernel_rfl) (by kernel_rfl) (by kernel_rfl) (Said.keep ?keep) ⟨slot_kept hc1 (bdn (Below.refl _ _) 1), slot_kept hc2 (bdn (Below.refl _ _) 1), h.below (bdn (Below.refl _ _) 1), bdn (Below.refl _ _) 1⟩ (l := [0, 1, 2, 3, 4, 5, 6, 7, 8]) (by kernel_rfl) ?step ?fin
  case keep =>
    refine List.forall_mem_cons.2 ⟨Is.keeps _, ?_⟩
    refine List.forall_mem_cons.2 ⟨Is.keeps _, ?_⟩
    refine List.forall_mem_cons.2 ⟨Is.keeps _, ?_⟩
    refine List.forall_mem_cons.2 ⟨Is.keeps _, ?_⟩
    refine List.forall_mem_cons.2 ⟨IsOw.keeps _, ?_⟩
    refine List.forall_mem_cons.2 ⟨IsOwB.keeps _ _, ?_⟩
    refine List.forall_mem_cons.2 ⟨Is.keeps _, ?_⟩
    refine List.forall_mem_cons.2 ⟨Is.keeps _, ?_⟩
    refine List.forall_mem_cons.2 ⟨IsOwC.keeps _ _ _, ?_⟩
    exact fun _ h => nomatch h
  case step =>
    refine List.forall_mem_cons.2 ⟨?_, ?_⟩
    · refine SlotStep.plain rfl rfl rfl ?_
      intro tm ws hsame hS hg K hK
      have e1 : tm[1]? = some (.pointer (some ⟨w.heap.size, 0, none⟩)) := hsame.2 1 rfl
      go_simp
      exact hK _ _ (Below.refl _ _) hS rfl
    refine List.forall_mem_cons.2 ⟨?_, ?_⟩
    · refine SlotStep.plain rfl rfl rfl ?_
      intro tm ws hsame hS hg K hK
      obtain ⟨v3, e3, rfl⟩ := hg 0 (by kernel_rfl) _ 3 rfl rfl
      obtain ⟨⟨k0, k1, k2⟩, -⟩ := slot3 (hS.1)
      go_simp
      exact hK _ _ (Below.refl _ _) hS rfl
    refine List.forall_mem_cons.2 ⟨?_, ?_⟩
    · refine SlotStep.plain rfl rfl rfl ?_
      intro tm ws hsame hS hg K hK
      have e1 : tm[1]? = some (.pointer (some ⟨w.heap.size, 0, none⟩)) := hsame.2 1 rfl
      go_simp
      exact hK _ _ (Below.refl _ _) hS rfl
    refine List.forall_mem_cons.2 ⟨?_, ?_⟩
    · refine SlotStep.plain rfl rfl rfl ?_
      intro tm ws hsame hS hg K hK
      obtain ⟨v5, e5, rfl⟩ := hg 2 (by kernel_rfl) _ 5 rfl rfl
      obtain ⟨⟨k0, k1, k2⟩, -⟩ := slot3 (hS.1)
      go_simp
      exact hK _ _ (Below.refl _ _) hS rfl
    refine List.forall_mem_cons.2 ⟨?_, ?_⟩
    · refine SlotStep.plain rfl rfl rfl ?_
      intro tm ws hsame hS hg K hK
      obtain ⟨v6, e6, rfl⟩ := hg 3 (by kernel_rfl) _ 6 rfl rfl
      refine oper_append_nil_words (ops := #[]) ws rfl (.const (.slice none 0 0)) (.tmp 6) 22 rfl Tryz.underlying22 info_u64 rfl a n c l (by simp [Act.eval, e6]) HN.out hS.2.2.1 hMx ?_
      intro v1 wm hO hb
      obtain ⟨aR, nR, cR, rfl⟩ := hO.slice
      exact hK _ _ hb (⟨slot_kept (hS.1) (hb), slot_kept (hS.2.1) (hb), (hS.2.2.1).below (hb), (hS.2.2.2).trans (Below.mono (hb) (hS.2.2.2).size)⟩) ⟨aR, nR, cR, rfl, _, hO⟩
    refine List.forall_mem_cons.2 ⟨?_, ?_⟩
    · refine SlotStep.plain rfl rfl rfl ?_
      intro tm ws hsame hS hg K hK
      obtain ⟨v4, e4, rfl⟩ := hg 1 (by kernel_rfl) _ 4 rfl rfl
      obtain ⟨v7, e7, ⟨a7, n7, c7, rfl, g7⟩⟩ := hg 4 (by kernel_rfl) _ 7 rfl rfl
      go_simp
      exact hK _ _ (Below.refl _ _) hS ⟨a7, n7, c7, rfl, g7⟩
    refine List.forall_mem_cons.2 ⟨?_, ?_⟩
    · refine SlotStep.plain rfl rfl rfl ?_
      intro tm ws hsame hS hg K hK
      have e1 : tm[1]? = some (.pointer (some ⟨w.heap.size, 0, none⟩)) := hsame.2 1 rfl
      go_simp
      exact hK _ _ (Below.refl _ _) hS rfl
    refine List.forall_mem_cons.2 ⟨?_, ?_⟩
    · refine SlotStep.plain rfl rfl rfl ?_
      intro tm ws hsame hS hg K hK
      obtain ⟨v9, e9, rfl⟩ := hg 6 (by kernel_rfl) _ 9 rfl rfl
      obtain ⟨⟨k0, k1, k2⟩, -⟩ := slot3 (hS.1)
      go_simp
      exact hK _ _ (Below.refl _ _) hS rfl
    refine List.forall_mem_cons.2 ⟨?_, ?_⟩
    · refine SlotStep.plain rfl rfl rfl ?_
      intro tm ws hsame hS hg K hK
      obtain ⟨v8, e8, ⟨a8, n8, c8, rfl, g8⟩⟩ := hg 5 (by kernel_rfl) _ 8 rfl rfl
      obtain ⟨v10, e10, rfl⟩ := hg 7 (by kernel_rfl) _ 10 rfl rfl
      go_simp
      exact hK _ _ (Below.refl _ _) hS ⟨a8, n8, c8, rfl, g8⟩
    exact fun _ h => nomatch h
  case fin =>
    intro tm w8 hsame hS hgot
    obtain ⟨u, hu, htm⟩ := hsame.form (by kernel_rfl)
    obtain ⟨v11, e11, aR, nR, cR, rfl, base, hO⟩ := hgot 8 (by decide) _ 11 rfl rfl
    have h11 := hu _ _ e11
    obtain ⟨-, hblk, -, hb8⟩ := hS
    obtain ⟨⟨q0, q1, q2⟩, f0, f1, f2⟩ := slot3 hblk
    have hnR : nR = l.length := by
      obtain ⟨_, _, he, -⟩ := hO.form
      cases he; rfl
    have hnum : Num w8 (.slice aR nR cR) N 40 := ⟨l, hO.rdv hl, HV.out, by rw [← HN.out]; exact hM⟩
    have hend := slot3_set (u := .bool p) (v := .slice aR nR cR) (s := .int .i64 E) hblk
    have hon := slot3_only (w := w8) (g := w1.heap.size) (.bool p) (.slice aR nR cR) (.int .i64 E)
    have hbz := hbw2.trans (hb8.mono hbw2.size)
    have HR : Hid (RetNO w p N E 40 (.returned (.agg #[.bool p, .slice aR nR cR, .int .i64 E])) (((w8.setCell ⟨w1.heap.size, 0, none⟩ (.bool p)).setCell ⟨w1.heap.size, 1, none⟩ (.slice aR nR cR)).setCell ⟨w1.heap.size, 2, none⟩ (.int .i64 E))) :=
      Lib.hid ⟨aR, nR, cR, rfl, hnum.var3 hblk hon, hbz.trans (hon.below hs1 hbz.size)⟩
    clear hgot hu hsame e11 hO hnum hnR
    rw [htm]
    clear htm tm
    simp only [List.foldl_cons, List.foldl_nil, List.setIfInBounds_toArray, List.set_cons_zero, List.set_cons_succ, h11, List.drop_succ_cons, List.drop_zero]
    clear h11
    go_wp2_with fail
    exact bodyPost_ret (results_cell_row rfl _ _ w1.heap.size 60 _ (0, 0) _ rfl hend Tryz.underlying60 rfl (by kernel_rfl)) rfl HR.out
end Go.Proofs.YtfanhllcoaondaaGreatDoor
