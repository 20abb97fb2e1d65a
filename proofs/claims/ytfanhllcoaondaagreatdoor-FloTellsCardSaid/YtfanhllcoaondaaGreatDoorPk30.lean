/-
  FloTel: The walk of the statement FloTells.
-/
import Derived.Test.YtfanhllcoaondaaGreatDoorPk29

namespace Go.Proofs.YtfanhllcoaondaaGreatDoor
open Go.RowKit

theorem step_rg {b : Nat} (dn : Bool) (hb : b < 18446744073709551616) (h : rg b ≤ INF) : rg (stepW b dn) ≤ INF := by
  have hI : INF = 9218868437227405312 := rfl
  by_cases h0 : rg b = 0
  · rw [stepW_zero h0]; cases dn <;> decide
  · have hlt := rg_lt b
    rcases word_cases hb with ⟨e1, -⟩ | ⟨e1, -⟩
    · rw [e1, stepW_pos h0 hlt]
      generalize rg b = r at *
      cases dn
      · rw [if_neg (by decide)]
        split
        · rw [(rg_pos (by omega)).1]; omega
        · rw [(rg_pos (by omega)).1]; omega
      · rw [if_pos rfl, (rg_pos (by omega)).1]; omega
    · rw [e1, stepW_neg h0 hlt]
      generalize rg b = r at *
      cases dn
      · rw [if_neg (by decide), show 9223372036854775808 + r - 1 = 9223372036854775808 + (r - 1) by omega, (rg_neg (by omega)).1]; omega
      · rw [if_pos rfl]
        split
        · rw [(rg_neg (by omega)).1]; omega
        · rw [show 9223372036854775808 + r + 1 = 9223372036854775808 + (r + 1) by omega, (rg_neg (by omega)).1]; omega
/-- The step of a word, whatever it is: both give the same word, and it is the same as itself. -/
theorem step_both (b : Nat) (dir : Int) (hb : b < 18446744073709551616) : ∃ s, (∀ w : World, Calls Tryz.prog 33 #[.float .f64 b, .int .i64 dir] w fun e w' => RetB w (.float .f64 s) e w') ∧
    (∀ w : World, Calls Tryz.prog 34 #[.float .f64 b, .int .i64 dir] w fun e w' => RetB w (.float .f64 s) e w') ∧
    ∀ w : World, Calls Tryz.prog 32 #[.float .f64 s, .float .f64 s] w fun e w' => RetB w (.bool true) e w' := by
  by_cases h : rg b ≤ INF
  · have hr := step_rg (decide (dir < 0)) hb h
    exact ⟨_, fun w => step_num b dir w hb h, fun w => rstep_num b dir w hb h, fun w => same_num _ _ w hr hr rfl⟩
  · have h' : INF < rg b := by omega
    exact ⟨b, fun w => step_nan b dir w h', fun w => rstep_nan b dir w h', fun w => same_nan b w h'⟩
theorem flo_back {p : Bool} {N E : Int} {b : Nat} (hf : rg b < INF) (hv : N * 2 ^ (E + 1074).toNat = (un (rg b) : Int)) (hE : -1074 ≤ E) (hp : N ≠ 0 → p = fneg b) :
    TZ (rg b) true N E ∧ ∀ dn, (FloatKind.f64.format.order (floW (p && decide (N ≠ 0)) (rg b) true dn) b == some Ordering.eq) = true := by
  obtain ⟨L, hL⟩ := Int.eq_ofNat_of_zero_le (show 0 ≤ E + 1074 by omega)
  rw [hL, Int.toNat_natCast] at hv
  refine ⟨tz_exact hf (by omega) hv.symm, fun dn => ?_⟩
  have e1 : floW (p && decide (N ≠ 0)) (rg b) true dn = sgW (p && decide (N ≠ 0)) (rg b) := by unfold floW; simp
  rw [e1, feq_num (by rw [(sgW_lt hf).2]; omega) (by omega)]
  refine decide_eq_true ?_
  rw [fv_sgW hf, fv_def]
  by_cases h0 : N = 0
  · rw [h0, Int.zero_mul] at hv
    rw [← hv]
    cases (p && decide (N ≠ 0)) <;> cases fneg b <;> rfl
  · rw [hp h0, decide_eq_true h0, Bool.and_true]
    rfl
theorem zero_rq (L : Nat) (w : World) (h : L ≤ 5000) : RQ L w (.agg #[.bool false, .slice none 0 0, .int .i64 0]) 0 0 5000 :=
  ⟨false, none, 0, 0, 0, 0, L, rfl, RN.nil _ _, by simp [sg], by omega, fun _ => ⟨rfl, rfl⟩, fun h => absurd rfl h, h⟩
theorem zero_new (base : Nat) (w : World) : NewN base w (.slice none 0 0) 0 1 := ⟨[], Ow.nil _ _, Can.nil _, rfl, Nat.zero_le _⟩

set_option maxRecDepth 100000 in
set_option maxHeartbeats 4000000 in
theorem ftell_inf (b : Nat) (p : Bool) (aA : Option Addr) (nA cA : Nat) (l : List Int) (E dir : Int) (w : World) (hnl : nA = l.length) (hr : Rd w aA l) (hl : Lim B64 l) (h40 : nA ≤ 40) (hE0 : -3000 ≤ E) (hE1 : E ≤ 3000) (hb : b < 18446744073709551616) (hT : Tab64 w) (hf : ¬ rg b < INF) :
    Calls Tryz.prog 4 #[.float .f64 b, .agg #[.bool p, .slice aA nA cA, .int .i64 E], .int .i64 dir] w fun e' w' => RetV w (.bool true) e' w' := by
  obtain ⟨w0, hw0⟩ : ∃ w0, w.alloc (.cells #[.bool p, .slice aA nA cA, .int .i64 E] 55) = w0 := ⟨_, rfl⟩
  have hb0 : Below w.heap.size w w0 := hw0 ▸ below_alloc w _
  have hc0 : w0.heap[w.heap.size]? = some (.cells #[.bool p, .slice aA nA cA, .int .i64 E] 55 (0, 0)) := hw0 ▸ heap_alloc_new w _
  obtain ⟨⟨k0, k1, k2⟩, -⟩ := slot3 hc0
  replace hr := hr.below hb0
  replace hT := hT.below hb0
  have hli := light3_num (w := w0) p aA nA cA E 55 (by omega)
  rw [show (decide (nA ≤ 40) && !(decide (E < -3000)) && !(decide (3000 < E))) = true by
    rw [decide_eq_true h40, decide_eq_false (by omega), decide_eq_false (by omega)]; rfl] at hli
  have HLI := Lib.hid hli
  have hbL := below_alloc w0 (.cells #[.bool p, .slice aA nA cA, .int .i64 E] 55)
  have HNL := Lib.hid hnl
  obtain ⟨A, hA⟩ : ∃ A, vb B64 l = A := ⟨_, rfl⟩
  have HA := Lib.hid hA
  have hA0 : 0 ≤ A := by rw [← hA]; exact vb_nonneg B64_pos hl
  obtain ⟨R, ex, htz⟩ := tz_exists (N := A) (E := E) hA0
  have hbt := btw (neg := p && decide (A ≠ 0)) htz
  obtain ⟨Wd, hWd⟩ : ∃ Wd, floW (p && decide (A ≠ 0)) R ex (decide (dir < 0)) = Wd := ⟨_, rfl⟩
  have hWI : rg Wd ≤ INF := by
    rw [← hWd]
    cases decide (dir < 0)
    · exact hbt.hi_rg
    · exact hbt.lo_rg
  have HWI := Lib.hid hWI
  have HWD := Lib.hid hWd
  have HTZ := Lib.hid htz
  have HST := Lib.hid (step_both b dir hb)
  have HA0 := Lib.hid hA0
  obtain ⟨L, hL⟩ : ∃ L : Nat, L = 4096 := ⟨_, rfl⟩
  obtain ⟨e0, he0⟩ := Int.eq_ofNat_of_zero_le (show 0 ≤ E + (L : Int) by omega)
  clear hli hnl hA htz hbt hWd hWI
  go_enter Tryz.func4, Tryz.ntmps4
  go_wp2_with fail
  refine HLI.out.mono ?_
  rintro e' w1 ⟨rfl, hb1⟩
  have hb01 := hbL.trans (hb1.mono hbL.size)
  replace hr := hr.below hb01
  replace hT := hT.below hb01
  have hbw1 := hb0.trans (hb01.mono hb0.size)
  replace hc0 := slot_kept hc0 hb01
  clear hbL hb1 hb01 HLI k0 k1 k2
  go_wp2_with fail
  refine (flive_yes _ hT).mono ?_
  rintro e' w2 ⟨rfl, hb2⟩
  replace hr := hr.below hb2
  replace hT := hT.below hb2
  have hbw2 := hbw1.trans (hb2.mono hbw1.size)
  replace hc0 := slot_kept hc0 hb2
  obtain ⟨⟨k0, k1, k2⟩, -⟩ := slot3 hc0
  have HOF := Lib.hid (numof_num p aA nA cA l E HNL.out hr hl h40)
  rw [HA.out] at HOF
  clear hb2 hbw1
  go_wp2_with fail
  refine HOF.out.mono ?_
  rintro e' w3 ⟨a, n, c, rfl, hN3, hb3⟩
  have hbw3 := hbw2.trans (hb3.mono hbw2.size)
  obtain ⟨w4, hw4⟩ : ∃ w4, w3.alloc (.cells #[.bool p, .slice a n c, .int .i64 E] 60) = w4 := ⟨_, rfl⟩
  have hb4 : Below w3.heap.size w3 w4 := hw4 ▸ below_alloc w3 _
  have hc1 : w4.heap[w3.heap.size]? = some (.cells #[.bool p, .slice a n c, .int .i64 E] 60 (0, 0)) := hw4 ▸ heap_alloc_new w3 _
  have hn := hN3.below hb4
  have hbw4 := hbw3.trans (hb4.mono hbw3.size)
  replace hT := (hT.below hb3).below hb4
  have HRF := Lib.hid (lref_num (w := w4) L (p := p) (E := E) (E0 := e0) (b := 12000) hn he0 (by decide) (by omega) (by omega) (by decide))
  clear hN3 hb3 hb4 hbw3 hbw2 hr k0 k1 k2 HOF hc0
  obtain ⟨⟨k0, k1, k2⟩, -⟩ := slot3 hc1
  go_wp2_with fail
  refine HRF.out.mono ?_
  rintro e' w5a ⟨pR, aR, nR, cR, ER, rfl, hq, hb5a⟩
  obtain ⟨w5, hw5⟩ : ∃ w5, w5a.alloc (.cells #[.bool pR, .slice aR nR cR, .int .i64 ER] 63) = w5 := ⟨_, rfl⟩
  have hb5b : Below w5a.heap.size w5a w5 := hw5 ▸ below_alloc w5a _
  have hc2 : w5.heap[w5a.heap.size]? = some (.cells #[.bool pR, .slice aR nR cR, .int .i64 ER] 63 (0, 0)) := hw5 ▸ heap_alloc_new w5a _
  have hb5 := hb5a.trans (hb5b.mono hb5a.size)
  have hq5 := hq.below hb5b
  replace hT := hT.below hb5
  replace hc1 := slot_kept hc1 hb5
  replace hn := hn.below hb5
  have hbw5 := hbw4.trans (hb5.mono hbw4.size)
  clear hq hb5a hb5b hb5 HRF hbw4 k0 k1 k2
  have HDY := Lib.hid (fdyad_inf b w5 hb (by omega))
  have HF1 := fun w' => Lib.hid (rfin_num b w' hb)
  have HF2 := fun w' => Lib.hid (finite_num b w' hb)
  rw [decide_eq_false hf] at HF1 HF2
  go_wp2_with fail
  refine HDY.out.mono ?_
  rintro e' w6a ⟨rfl, hb6a⟩
  have hb6b := below_alloc w6a (.cells #[.bool false, .slice none 0 0, .int .i64 0] 60)
  have hc3 := heap_alloc_new w6a (.cells #[.bool false, .slice none 0 0, .int .i64 0] 60)
  have hb6 := hb6a.trans (hb6b.mono hb6a.size)
  replace hT := hT.below hb6
  replace hc1 := slot_kept hc1 hb6
  replace hc2 := slot_kept hc2 hb6
  replace hn := hn.below hb6
  replace hq5 := hq5.below hb6
  have hbw6 := hbw5.trans (hb6.mono hbw5.size)
  obtain ⟨st, HS1, HS2, HS3⟩ := HST.out
  have HSTP := Lib.hid HS1
  have HRST := Lib.hid HS2
  have HSAM := Lib.hid HS3
  clear HS1 HS2 HS3 HST HDY hb6a hb6b hb6 hbw5
  go_upto_region 6 with fail
  refine wp_region_slots (by kernel_rfl) [29, 30, 31, 32, 33, 34, 35, 36, 37, 38, 39, 40, 41, 42, 43, 44, 45, 46, 47, 48, 49, 50, 51, 52, 53, 54, 55, 56, 57, 58] (fun w' => (w'.heap[w3.heap.size]? = some (.cells #[.bool p, .slice a n c, .int .i64 E] 60 (0, 0))) ∧ (w'.heap[w5a.heap.size]? = some (.cells #[.bool pR, .slice aR nR cR, .int .i64 ER] 63 (0, 0))) ∧ (w'.heap[w6a.heap.size]? = some (.cells #[.bool false, .slice none 0 0, .int .i64 0] 60 (0, 0))) ∧ (Num w' (.slice a n c) A 40) ∧ (RQ L w' (.agg #[.bool pR, .slice aR nR cR, .int .i64 ER]) (sg p A * 2 ^ e0) (2 * 40) 12000) ∧ (Tab64 w') ∧ (Below (w6a.alloc (.cells #[.bool false, .slice none 0 0, .int .i64 0] 60)).heap.size (w6a.alloc (.cells #[.bool false, .slice none 0 0, .int .i64 0] 60)) w')) (Said [Is (.bool false), Is (.float .f64 b), Is (.bool false), Is (.bool false), Is (.bool false), Is (.float .f64 b), Is (.bool false), Is (.bool false), Is (.bool false), Is (.bool false), Is (.bool false), Is (.float .f64 b), Is (.int .i64 dir), Is (.float .f64 st), Is (.float .f64 b), Is (.int .i64 dir), Is (.float .f64 st), Is (.bool true), Is (.bool false), Is (.bool false), Is (.bool false), Is (.agg #[.bool p, .slice a n c, .int .i64 E]), Is (.int .i64 dir), Is (.float .f64 Wd), Is (.agg #[.bool pR, .slice aR nR cR, .int .i64 ER]), Is (.int .i64 dir), Is (.float .f64 Wd), Is (.bool true), Is (.bool false), Is (.bool false)]) (by kernel_rfl) (by kernel_rfl) (by kernel_rfl) (by kernel_rfl) (Said.keep ?keep) ⟨slot_kept hc1 (bdn (Below.refl _ _) 1), slot_kept hc2 (bdn (Below.refl _ _) 1), slot_kept hc3 (bdn (Below.refl _ _) 1), hn.below (bdn (Below.refl _ _) 1), hq5.below (bdn (Below.refl _ _) 1), Tab64.below hT (bdn (Below.refl _ _) 1), bdn (Below.refl _ _) 1⟩ (l := [0, 1, 2, 3, 4, 5, 6, 7, 8, 9, 10, 11, 12, 13, 14, 15, 16, 17, 18, 19, 20, 21, 22, 23, 24, 25, 26, 27, 28, 29]) (by kernel_rfl) ?step ?fin
  case keep =>
    refine List.forall_mem_cons.2 ⟨Is.keeps _, ?_⟩
    refine List.forall_mem_cons.2 ⟨Is.keeps _, ?_⟩
    refine List.forall_mem_cons.2 ⟨Is.keeps _, ?_⟩
    refine List.forall_mem_cons.2 ⟨Is.keeps _, ?_⟩
    refine List.forall_mem_cons.2 ⟨Is.keeps _, ?_⟩
    refine List.forall_mem_cons.2 ⟨Is.keeps _, ?_⟩
    refine List.forall_mem_cons.2 ⟨Is.keeps _, ?_⟩
    refine List.forall_mem_cons.2 ⟨Is.keeps _, ?_⟩
    refine List.forall_mem_cons.2 ⟨Is.keeps _, ?_⟩
    refine List.forall_mem_cons.2 ⟨Is.keeps _, ?_⟩
    refine List.forall_mem_cons.2 ⟨Is.keeps _, ?_⟩
    refine List.forall_mem_cons.2 ⟨Is.keeps _, ?_⟩
    refine List.forall_mem_cons.2 ⟨Is.keeps _, ?_⟩
    refine List.forall_mem_cons.2 ⟨Is.keeps _, ?_⟩
    refine List.forall_mem_cons.2 ⟨Is.keeps _, ?_⟩
    refine List.forall_mem_cons.2 ⟨Is.keeps _, ?_⟩
    refine List.forall_mem_cons.2 ⟨Is.keeps _, ?_⟩
    refine List.forall_mem_cons.2 ⟨Is.keeps _, ?_⟩
    refine List.forall_mem_cons.2 ⟨Is.keeps _, ?_⟩
    refine List.forall_mem_cons.2 ⟨Is.keeps _, ?_⟩
    refine List.forall_mem_cons.2 ⟨Is.keeps _, ?_⟩
    refine List.forall_mem_cons.2 ⟨Is.keeps _, ?_⟩
    refine List.forall_mem_cons.2 ⟨Is.keeps _, ?_⟩
    refine List.forall_mem_cons.2 ⟨Is.keeps _, ?_⟩
    refine List.forall_mem_cons.2 ⟨Is.keeps _, ?_⟩
    refine List.forall_mem_cons.2 ⟨Is.keeps _, ?_⟩
    refine List.forall_mem_cons.2 ⟨Is.keeps _, ?_⟩
    refine List.forall_mem_cons.2 ⟨Is.keeps _, ?_⟩
    refine List.forall_mem_cons.2 ⟨Is.keeps _, ?_⟩
    refine List.forall_mem_cons.2 ⟨Is.keeps _, ?_⟩
    exact fun _ h => nomatch h
  case step =>
    refine List.forall_mem_cons.2 ⟨?_, ?_⟩
    · refine SlotStep.plain rfl rfl rfl ?_
      intro tm ws hsame hS hg K hK
      have e10 : tm[10]? = some (.bool false) := hsame.2 10 rfl
      go_simp
      exact hK _ _ (Below.refl _ _) hS rfl
    refine List.forall_mem_cons.2 ⟨?_, ?_⟩
    · refine SlotStep.plain rfl rfl rfl ?_
      intro tm ws hsame hS hg K hK
      have e0 : tm[0]? = some (.float .f64 b) := hsame.2 0 rfl
      go_simp
      exact hK _ _ (Below.refl _ _) hS rfl
    refine List.forall_mem_cons.2 ⟨?_, ?_⟩
    · refine SlotStep.plain rfl rfl rfl ?_
      intro tm ws hsame hS hg K hK
      obtain ⟨v30, e30, rfl⟩ := hg 1 (by kernel_rfl) _ 30 rfl rfl
      go_simp
      refine ((HF1 ws).out).mono ?_
      rintro e wm ⟨rfl, rfl⟩
      exact hK _ _ (Below.refl _ _) hS rfl
    refine List.forall_mem_cons.2 ⟨?_, ?_⟩
    · refine SlotStep.plain rfl rfl rfl ?_
      intro tm ws hsame hS hg K hK
      obtain ⟨v29, e29, rfl⟩ := hg 0 (by kernel_rfl) _ 29 rfl rfl
      obtain ⟨v31, e31, rfl⟩ := hg 2 (by kernel_rfl) _ 31 rfl rfl
      go_simp
      exact hK _ _ (Below.refl _ _) hS rfl
    refine List.forall_mem_cons.2 ⟨?_, ?_⟩
    · refine SlotStep.plain rfl rfl rfl ?_
      intro tm ws hsame hS hg K hK
      obtain ⟨v32, e32, rfl⟩ := hg 3 (by kernel_rfl) _ 32 rfl rfl
      go_simp
      exact hK _ _ (Below.refl _ _) hS rfl
    refine List.forall_mem_cons.2 ⟨?_, ?_⟩
    · refine SlotStep.guardedNot rfl rfl 4 rfl rfl (by kernel_rfl) (fun _ _ h => h) ?_
      intro tm ws hsame hS hg K hK
      have e0 : tm[0]? = some (.float .f64 b) := hsame.2 0 rfl
      go_simp
      exact hK _ _ (Below.refl _ _) hS rfl
    refine List.forall_mem_cons.2 ⟨?_, ?_⟩
    · refine SlotStep.guardedNot rfl rfl 4 rfl rfl (by kernel_rfl) (fun _ _ h => h) ?_
      intro tm ws hsame hS hg K hK
      obtain ⟨v34, e34, rfl⟩ := hg 5 (by kernel_rfl) _ 34 rfl rfl
      go_simp
      refine ((HF2 ws).out).mono ?_
      rintro e wm ⟨rfl, rfl⟩
      exact hK _ _ (Below.refl _ _) hS rfl
    refine List.forall_mem_cons.2 ⟨?_, ?_⟩
    · refine SlotStep.guardedNot rfl rfl 4 rfl rfl (by kernel_rfl) (fun _ _ h => h) ?_
      intro tm ws hsame hS hg K hK
      have e10 : tm[10]? = some (.bool false) := hsame.2 10 rfl
      go_simp
      exact hK _ _ (Below.refl _ _) hS rfl
    refine List.forall_mem_cons.2 ⟨?_, ?_⟩
    · refine SlotStep.guardedNot rfl rfl 4 rfl rfl (by kernel_rfl) (fun _ _ h => h) ?_
      intro tm ws hsame hS hg K hK
      obtain ⟨v35, e35, rfl⟩ := hg 6 (by kernel_rfl) _ 35 rfl rfl
      obtain ⟨v36, e36, rfl⟩ := hg 7 (by kernel_rfl) _ 36 rfl rfl
      go_simp
      exact hK _ _ (Below.refl _ _) hS rfl
    refine List.forall_mem_cons.2 ⟨?_, ?_⟩
    · refine SlotStep.plain rfl rfl rfl ?_
      intro tm ws hsame hS hg K hK
      obtain ⟨v33, e33, rfl⟩ := hg 4 (by kernel_rfl) _ 33 rfl rfl
      obtain ⟨v37, e37, rfl⟩ := hg 8 (by kernel_rfl) _ 37 rfl rfl
      go_simp
      exact hK _ _ (Below.refl _ _) hS rfl
    refine List.forall_mem_cons.2 ⟨?_, ?_⟩
    · refine SlotStep.plain rfl rfl rfl ?_
      intro tm ws hsame hS hg K hK
      obtain ⟨v38, e38, rfl⟩ := hg 9 (by kernel_rfl) _ 38 rfl rfl
      go_simp
      exact hK _ _ (Below.refl _ _) hS rfl
    refine List.forall_mem_cons.2 ⟨?_, ?_⟩
    · refine SlotStep.guardedNot rfl rfl 10 rfl rfl (by kernel_rfl) (fun _ _ h => h) ?_
      intro tm ws hsame hS hg K hK
      have e0 : tm[0]? = some (.float .f64 b) := hsame.2 0 rfl
      go_simp
      exact hK _ _ (Below.refl _ _) hS rfl
    refine List.forall_mem_cons.2 ⟨?_, ?_⟩
    · refine SlotStep.guardedNot rfl rfl 10 rfl rfl (by kernel_rfl) (fun _ _ h => h) ?_
      intro tm ws hsame hS hg K hK
      have e2 : tm[2]? = some (.int .i64 dir) := hsame.2 2 rfl
      go_simp
      exact hK _ _ (Below.refl _ _) hS rfl
    refine List.forall_mem_cons.2 ⟨?_, ?_⟩
    · refine SlotStep.guardedNot rfl rfl 10 rfl rfl (by kernel_rfl) (fun _ _ h => h) ?_
      intro tm ws hsame hS hg K hK
      obtain ⟨v40, e40, rfl⟩ := hg 11 (by kernel_rfl) _ 40 rfl rfl
      obtain ⟨v41, e41, rfl⟩ := hg 12 (by kernel_rfl) _ 41 rfl rfl
      go_simp
      refine (HSTP.out ws).mono ?_
      rintro e wm ⟨rfl, rfl⟩
      exact hK _ _ (Below.refl _ _) hS rfl
    refine List.forall_mem_cons.2 ⟨?_, ?_⟩
    · refine SlotStep.guardedNot rfl rfl 10 rfl rfl (by kernel_rfl) (fun _ _ h => h) ?_
      intro tm ws hsame hS hg K hK
      have e0 : tm[0]? = some (.float .f64 b) := hsame.2 0 rfl
      go_simp
      exact hK _ _ (Below.refl _ _) hS rfl
    refine List.forall_mem_cons.2 ⟨?_, ?_⟩
    · refine SlotStep.guardedNot rfl rfl 10 rfl rfl (by kernel_rfl) (fun _ _ h => h) ?_
      intro tm ws hsame hS hg K hK
      have e2 : tm[2]? = some (.int .i64 dir) := hsame.2 2 rfl
      go_simp
      exact hK _ _ (Below.refl _ _) hS rfl
    refine List.forall_mem_cons.2 ⟨?_, ?_⟩
    · refine SlotStep.guardedNot rfl rfl 10 rfl rfl (by kernel_rfl) (fun _ _ h => h) ?_
      intro tm ws hsame hS hg K hK
      obtain ⟨v43, e43, rfl⟩ := hg 14 (by kernel_rfl) _ 43 rfl rfl
      obtain ⟨v44, e44, rfl⟩ := hg 15 (by kernel_rfl) _ 44 rfl rfl
      go_simp
      refine (HRST.out ws).mono ?_
      rintro e wm ⟨rfl, rfl⟩
      exact hK _ _ (Below.refl _ _) hS rfl
    refine List.forall_mem_cons.2 ⟨?_, ?_⟩
    · refine SlotStep.guardedNot rfl rfl 10 rfl rfl (by kernel_rfl) (fun _ _ h => h) ?_
      intro tm ws hsame hS hg K hK
      obtain ⟨v42, e42, rfl⟩ := hg 13 (by kernel_rfl) _ 42 rfl rfl
      obtain ⟨v45, e45, rfl⟩ := hg 16 (by kernel_rfl) _ 45 rfl rfl
      go_simp
      refine (HSAM.out ws).mono ?_
      rintro e wm ⟨rfl, rfl⟩
      exact hK _ _ (Below.refl _ _) hS rfl
    refine List.forall_mem_cons.2 ⟨?_, ?_⟩
    · refine SlotStep.guardedNot rfl rfl 10 rfl rfl (by kernel_rfl) (fun _ _ h => h) ?_
      intro tm ws hsame hS hg K hK
      obtain ⟨v46, e46, rfl⟩ := hg 17 (by kernel_rfl) _ 46 rfl rfl
      go_simp
      exact hK _ _ (Below.refl _ _) hS rfl
    refine List.forall_mem_cons.2 ⟨?_, ?_⟩
    · refine SlotStep.plain rfl rfl rfl ?_
      intro tm ws hsame hS hg K hK
      obtain ⟨v39, e39, rfl⟩ := hg 10 (by kernel_rfl) _ 39 rfl rfl
      obtain ⟨v47, e47, rfl⟩ := hg 18 (by kernel_rfl) _ 47 rfl rfl
      go_simp
      exact hK _ _ (Below.refl _ _) hS rfl
    refine List.forall_mem_cons.2 ⟨?_, ?_⟩
    · refine SlotStep.plain rfl rfl rfl ?_
      intro tm ws hsame hS hg K hK
      obtain ⟨v48, e48, rfl⟩ := hg 19 (by kernel_rfl) _ 48 rfl rfl
      go_simp
      exact hK _ _ (Below.refl _ _) hS rfl
    refine List.forall_mem_cons.2 ⟨?_, ?_⟩
    · refine SlotStep.guardedNot rfl rfl 20 rfl rfl (by kernel_rfl) (fun _ _ h => h) ?_
      intro tm ws hsame hS hg K hK
      have e7 : tm[7]? = some (.pointer (some ⟨w3.heap.size, 0, none⟩)) := hsame.2 7 rfl
      obtain ⟨⟨k0, k1, k2⟩, -⟩ := slot3 (hS.1)
      go_simp
      exact hK _ _ (Below.refl _ _) hS rfl
    refine List.forall_mem_cons.2 ⟨?_, ?_⟩
    · refine SlotStep.guardedNot rfl rfl 20 rfl rfl (by kernel_rfl) (fun _ _ h => h) ?_
      intro tm ws hsame hS hg K hK
      have e2 : tm[2]? = some (.int .i64 dir) := hsame.2 2 rfl
      go_simp
      exact hK _ _ (Below.refl _ _) hS rfl
    refine List.forall_mem_cons.2 ⟨?_, ?_⟩
    · refine SlotStep.guardedNot rfl rfl 20 rfl rfl (by kernel_rfl) (fun _ _ h => h) ?_
      intro tm ws hsame hS hg K hK
      obtain ⟨v50, e50, rfl⟩ := hg 21 (by kernel_rfl) _ 50 rfl rfl
      obtain ⟨v51, e51, rfl⟩ := hg 22 (by kernel_rfl) _ 51 rfl rfl
      go_simp
      refine (float_num p E dir hS.2.2.2.1 (by decide) (by omega) (by omega) hS.2.2.2.2.2.1).mono ?_
      rintro e' wm ⟨R', ex', rfl, htz', hb⟩
      obtain ⟨rfl, rfl⟩ := htz'.unique HTZ.out
      exact hK _ _ hb (⟨slot_kept (hS.1) (hb), slot_kept (hS.2.1) (hb), slot_kept (hS.2.2.1) (hb), (hS.2.2.2.1).below (hb), (hS.2.2.2.2.1).below (hb), Tab64.below (hS.2.2.2.2.2.1) (hb), (hS.2.2.2.2.2.2).trans (Below.mono (hb) (hS.2.2.2.2.2.2).size)⟩) (congrArg (Value.float .f64) HWD.out)
    refine List.forall_mem_cons.2 ⟨?_, ?_⟩
    · refine SlotStep.guardedNot rfl rfl 20 rfl rfl (by kernel_rfl) (fun _ _ h => h) ?_
      intro tm ws hsame hS hg K hK
      have e8 : tm[8]? = some (.pointer (some ⟨w5a.heap.size, 0, none⟩)) := hsame.2 8 rfl
      obtain ⟨⟨k0, k1, k2⟩, -⟩ := slot3 (hS.2.1)
      go_simp
      exact hK _ _ (Below.refl _ _) hS rfl
    refine List.forall_mem_cons.2 ⟨?_, ?_⟩
    · refine SlotStep.guardedNot rfl rfl 20 rfl rfl (by kernel_rfl) (fun _ _ h => h) ?_
      intro tm ws hsame hS hg K hK
      have e2 : tm[2]? = some (.int .i64 dir) := hsame.2 2 rfl
      go_simp
      exact hK _ _ (Below.refl _ _) hS rfl
    refine List.forall_mem_cons.2 ⟨?_, ?_⟩
    · refine SlotStep.guardedNot rfl rfl 20 rfl rfl (by kernel_rfl) (fun _ _ h => h) ?_
      intro tm ws hsame hS hg K hK
      obtain ⟨v53, e53, rfl⟩ := hg 24 (by kernel_rfl) _ 53 rfl rfl
      obtain ⟨v54, e54, rfl⟩ := hg 25 (by kernel_rfl) _ 54 rfl rfl
      go_simp
      refine (rfloat_num (b2 := 20000) dir hS.2.2.2.2.1 HA0.out he0 (by omega) (by decide) (by decide) (by decide) (by omega) (by decide) HTZ.out).mono ?_
      rintro e' wm ⟨rfl, hb⟩
      exact hK _ _ hb (⟨slot_kept (hS.1) (hb), slot_kept (hS.2.1) (hb), slot_kept (hS.2.2.1) (hb), (hS.2.2.2.1).below (hb), (hS.2.2.2.2.1).below (hb), Tab64.below (hS.2.2.2.2.2.1) (hb), (hS.2.2.2.2.2.2).trans (Below.mono (hb) (hS.2.2.2.2.2.2).size)⟩) (congrArg (Value.float .f64) HWD.out)
    refine List.forall_mem_cons.2 ⟨?_, ?_⟩
    · refine SlotStep.guardedNot rfl rfl 20 rfl rfl (by kernel_rfl) (fun _ _ h => h) ?_
      intro tm ws hsame hS hg K hK
      obtain ⟨v52, e52, rfl⟩ := hg 23 (by kernel_rfl) _ 52 rfl rfl
      obtain ⟨v55, e55, rfl⟩ := hg 26 (by kernel_rfl) _ 55 rfl rfl
      go_simp
      refine (same_num Wd Wd ws HWI.out HWI.out rfl).mono ?_
      rintro e wm ⟨rfl, rfl⟩
      exact hK _ _ (Below.refl _ _) hS rfl
    refine List.forall_mem_cons.2 ⟨?_, ?_⟩
    · refine SlotStep.guardedNot rfl rfl 20 rfl rfl (by kernel_rfl) (fun _ _ h => h) ?_
      intro tm ws hsame hS hg K hK
      obtain ⟨v56, e56, rfl⟩ := hg 27 (by kernel_rfl) _ 56 rfl rfl
      go_simp
      exact hK _ _ (Below.refl _ _) hS rfl
    refine List.forall_mem_cons.2 ⟨?_, ?_⟩
    · refine SlotStep.plain rfl rfl rfl ?_
      intro tm ws hsame hS hg K hK
      obtain ⟨v49, e49, rfl⟩ := hg 20 (by kernel_rfl) _ 49 rfl rfl
      obtain ⟨v57, e57, rfl⟩ := hg 28 (by kernel_rfl) _ 57 rfl rfl
      go_simp
      exact hK _ _ (Below.refl _ _) hS rfl
    exact fun _ h => nomatch h
  case fin =>
    intro tm w7 hsame hS hgot
    obtain ⟨u, hu, htm⟩ := hsame.form (by kernel_rfl)
    obtain ⟨v58, e58, rfl⟩ := hgot 29 _ 58 rfl rfl
    have h58 := hu _ _ e58
    have hd3 := hS.2.2.1
    have hT7 := hS.2.2.2.2.2.1
    have hb7 := hS.2.2.2.2.2.2
    have hbw7 := hbw6.trans (hb7.mono hbw6.size)
    clear hgot hu hsame e58 hS hb7 hbw6 hT hc1 hc2 hc3 hn hq5 HSTP HRST HSAM HTZ HF1 HF2
    rw [htm]
    clear htm tm
    simp only [List.foldl_cons, List.foldl_nil, List.setIfInBounds_toArray, List.set_cons_zero, List.set_cons_succ, h58]
    clear h58
    obtain ⟨⟨k0, k1, k2⟩, -⟩ := slot3 hd3
    have HIS := Lib.hid (is3_num (L := 0) (p := false) (E := 0) (E0 := 0) (zero_new 0 w7) (zero_rq 0 w7 (by decide)) (fun h => absurd rfl h) (fun _ => ⟨rfl, rfl⟩) (by decide) (by decide) (by decide))
    go_wp2_with fail
    refine HIS.out.mono ?_
    rintro e' w8 ⟨rfl, hb8⟩
    go_wp2_with fail
    go_ret
    exact ⟨rfl, hbw7.trans (hb8.mono hbw7.size)⟩

set_option maxRecDepth 100000 in
set_option maxHeartbeats 4000000 in
theorem ftell_fin (b : Nat) (p : Bool) (aA : Option Addr) (nA cA : Nat) (l : List Int) (E dir : Int) (w : World) (hnl : nA = l.length) (hr : Rd w aA l) (hl : Lim B64 l) (h40 : nA ≤ 40) (hE0 : -3000 ≤ E) (hE1 : E ≤ 3000) (hb : b < 18446744073709551616) (hT : Tab64 w) (hf : rg b < INF) :
    Calls Tryz.prog 4 #[.float .f64 b, .agg #[.bool p, .slice aA nA cA, .int .i64 E], .int .i64 dir] w fun e' w' => RetV w (.bool true) e' w' := by
  obtain ⟨w0, hw0⟩ : ∃ w0, w.alloc (.cells #[.bool p, .slice aA nA cA, .int .i64 E] 55) = w0 := ⟨_, rfl⟩
  have hb0 : Below w.heap.size w w0 := hw0 ▸ below_alloc w _
  have hc0 : w0.heap[w.heap.size]? = some (.cells #[.bool p, .slice aA nA cA, .int .i64 E] 55 (0, 0)) := hw0 ▸ heap_alloc_new w _
  obtain ⟨⟨k0, k1, k2⟩, -⟩ := slot3 hc0
  replace hr := hr.below hb0
  replace hT := hT.below hb0
  have hli := light3_num (w := w0) p aA nA cA E 55 (by omega)
  rw [show (decide (nA ≤ 40) && !(decide (E < -3000)) && !(decide (3000 < E))) = true by
    rw [decide_eq_true h40, decide_eq_false (by omega), decide_eq_false (by omega)]; rfl] at hli
  have HLI := Lib.hid hli
  have hbL := below_alloc w0 (.cells #[.bool p, .slice aA nA cA, .int .i64 E] 55)
  have HNL := Lib.hid hnl
  obtain ⟨A, hA⟩ : ∃ A, vb B64 l = A := ⟨_, rfl⟩
  have HA := Lib.hid hA
  have hA0 : 0 ≤ A := by rw [← hA]; exact vb_nonneg B64_pos hl
  obtain ⟨R, ex, htz⟩ := tz_exists (N := A) (E := E) hA0
  have hbt := btw (neg := p && decide (A ≠ 0)) htz
  obtain ⟨Wd, hWd⟩ : ∃ Wd, floW (p && decide (A ≠ 0)) R ex (decide (dir < 0)) = Wd := ⟨_, rfl⟩
  have hWI : rg Wd ≤ INF := by
    rw [← hWd]
    cases decide (dir < 0)
    · exact hbt.hi_rg
    · exact hbt.lo_rg
  have HWI := Lib.hid hWI
  have HWD := Lib.hid hWd
  have HTZ := Lib.hid htz
  have HST := Lib.hid (step_both b dir hb)
  have HA0 := Lib.hid hA0
  obtain ⟨L, hL⟩ : ∃ L : Nat, L = 4096 := ⟨_, rfl⟩
  obtain ⟨e0, he0⟩ := Int.eq_ofNat_of_zero_le (show 0 ≤ E + (L : Int) by omega)
  clear hli hnl hA htz hbt hWd hWI
  go_enter Tryz.func4, Tryz.ntmps4
  go_wp2_with fail
  refine HLI.out.mono ?_
  rintro e' w1 ⟨rfl, hb1⟩
  have hb01 := hbL.trans (hb1.mono hbL.size)
  replace hr := hr.below hb01
  replace hT := hT.below hb01
  have hbw1 := hb0.trans (hb01.mono hb0.size)
  replace hc0 := slot_kept hc0 hb01
  clear hbL hb1 hb01 HLI k0 k1 k2
  go_wp2_with fail
  refine (flive_yes _ hT).mono ?_
  rintro e' w2 ⟨rfl, hb2⟩
  replace hr := hr.below hb2
  replace hT := hT.below hb2
  have hbw2 := hbw1.trans (hb2.mono hbw1.size)
  replace hc0 := slot_kept hc0 hb2
  obtain ⟨⟨k0, k1, k2⟩, -⟩ := slot3 hc0
  have HOF := Lib.hid (numof_num p aA nA cA l E HNL.out hr hl h40)
  rw [HA.out] at HOF
  clear hb2 hbw1
  go_wp2_with fail
  refine HOF.out.mono ?_
  rintro e' w3 ⟨a, n, c, rfl, hN3, hb3⟩
  have hbw3 := hbw2.trans (hb3.mono hbw2.size)
  obtain ⟨w4, hw4⟩ : ∃ w4, w3.alloc (.cells #[.bool p, .slice a n c, .int .i64 E] 60) = w4 := ⟨_, rfl⟩
  have hb4 : Below w3.heap.size w3 w4 := hw4 ▸ below_alloc w3 _
  have hc1 : w4.heap[w3.heap.size]? = some (.cells #[.bool p, .slice a n c, .int .i64 E] 60 (0, 0)) := hw4 ▸ heap_alloc_new w3 _
  have hn := hN3.below hb4
  have hbw4 := hbw3.trans (hb4.mono hbw3.size)
  replace hT := (hT.below hb3).below hb4
  have HRF := Lib.hid (lref_num (w := w4) L (p := p) (E := E) (E0 := e0) (b := 12000) hn he0 (by decide) (by omega) (by omega) (by decide))
  clear hN3 hb3 hb4 hbw3 hbw2 hr k0 k1 k2 HOF hc0
  obtain ⟨⟨k0, k1, k2⟩, -⟩ := slot3 hc1
  go_wp2_with fail
  refine HRF.out.mono ?_
  rintro e' w5a ⟨pR, aR, nR, cR, ER, rfl, hq, hb5a⟩
  obtain ⟨w5, hw5⟩ : ∃ w5, w5a.alloc (.cells #[.bool pR, .slice aR nR cR, .int .i64 ER] 63) = w5 := ⟨_, rfl⟩
  have hb5b : Below w5a.heap.size w5a w5 := hw5 ▸ below_alloc w5a _
  have hc2 : w5.heap[w5a.heap.size]? = some (.cells #[.bool pR, .slice aR nR cR, .int .i64 ER] 63 (0, 0)) := hw5 ▸ heap_alloc_new w5a _
  have hb5 := hb5a.trans (hb5b.mono hb5a.size)
  have hq5 := hq.below hb5b
  replace hT := hT.below hb5
  replace hc1 := slot_kept hc1 hb5
  replace hn := hn.below hb5
  have hbw5 := hbw4.trans (hb5.mono hbw4.size)
  clear hq hb5a hb5b hb5 HRF hbw4 k0 k1 k2
  have HDY := Lib.hid (fdyad_num b w5 hb hf hT)
  have HF1 := fun w' => Lib.hid (rfin_num b w' hb)
  have HF2 := fun w' => Lib.hid (finite_num b w' hb)
  rw [decide_eq_true hf] at HF1 HF2
  go_wp2_with fail
  refine HDY.out.mono ?_
  rintro e' w6a ⟨p1, a1, n1, c1, N1, E1, rfl, hN1, hEl1, hEh1, hv1, ho1, hz1, hb6a⟩
  obtain ⟨w6, hw6⟩ : ∃ w6, w6a.alloc (.cells #[.bool p1, .slice a1 n1 c1, .int .i64 E1] 60) = w6 := ⟨_, rfl⟩
  have hb6b : Below w6a.heap.size w6a w6 := hw6 ▸ below_alloc w6a _
  have hc3 : w6.heap[w6a.heap.size]? = some (.cells #[.bool p1, .slice a1 n1 c1, .int .i64 E1] 60 (0, 0)) := hw6 ▸ heap_alloc_new w6a _
  have hx1 := hN1.below hb6b
  have hb6 := hb6a.trans (hb6b.mono hb6a.size)
  replace hT := hT.below hb6
  replace hc1 := slot_kept hc1 hb6
  replace hc2 := slot_kept hc2 hb6
  replace hn := hn.below hb6
  replace hq5 := hq5.below hb6
  have hbw6 := hbw5.trans (hb6.mono hbw5.size)
  obtain ⟨st, HS1, HS2, HS3⟩ := HST.out
  have HSTP := Lib.hid HS1
  have HRST := Lib.hid HS2
  have HSAM := Lib.hid HS3
  clear HS1 HS2 HS3 HST HDY hb6a hb6b hb6 hbw5
  clear hN1
  go_upto_region 6 with fail
  refine wp_region_slots (by kernel_rfl) [29, 30, 31, 32, 33, 34, 35, 36, 37, 38, 39, 40, 41, 42, 43, 44, 45, 46, 47, 48, 49, 50, 51, 52, 53, 54, 55, 56, 57, 58] (fun w' => (w'.heap[w3.heap.size]? = some (.cells #[.bool p, .slice a n c, .int .i64 E] 60 (0, 0))) ∧ (w'.heap[w5a.heap.size]? = some (.cells #[.bool pR, .slice aR nR cR, .int .i64 ER] 63 (0, 0))) ∧ (w'.heap[w6a.heap.size]? = some (.cells #[.bool p1, .slice a1 n1 c1, .int .i64 E1] 60 (0, 0))) ∧ (Num w' (.slice a n c) A 40) ∧ (RQ L w' (.agg #[.bool pR, .slice aR nR cR, .int .i64 ER]) (sg p A * 2 ^ e0) (2 * 40) 12000) ∧ (NewN w5.heap.size w' (.slice a1 n1 c1) N1 1) ∧ (Tab64 w') ∧ (Below w6.heap.size w6 w')) (Said [Is (.bool true), Is (.float .f64 b), Is (.bool true), Is (.bool false), Is (.bool false), Is (.float .f64 b), Is (.bool true), Is (.bool true), Is (.bool false), Is (.bool false), Is (.bool false), Is (.float .f64 b), Is (.int .i64 dir), Is (.float .f64 st), Is (.float .f64 b), Is (.int .i64 dir), Is (.float .f64 st), Is (.bool true), Is (.bool false), Is (.bool false), Is (.bool false), Is (.agg #[.bool p, .slice a n c, .int .i64 E]), Is (.int .i64 dir), Is (.float .f64 Wd), Is (.agg #[.bool pR, .slice aR nR cR, .int .i64 ER]), Is (.int .i64 dir), Is (.float .f64 Wd), Is (.bool true), Is (.bool false), Is (.bool false)]) (by kernel_rfl) (by kernel_rfl) (by kernel_rfl) (by kernel_rfl) (Said.keep ?keep) ⟨slot_kept hc1 (bdn (Below.refl _ _) 1), slot_kept hc2 (bdn (Below.refl _ _) 1), slot_kept hc3 (bdn (Below.refl _ _) 1), hn.below (bdn (Below.refl _ _) 1), hq5.below (bdn (Below.refl _ _) 1), hx1.below (bdn (Below.refl _ _) 1), Tab64.below hT (bdn (Below.refl _ _) 1), bdn (Below.refl _ _) 1⟩ (l := [0, 1, 2, 3, 4, 5, 6, 7, 8, 9, 10, 11, 12, 13, 14, 15, 16, 17, 18, 19, 20, 21, 22, 23, 24, 25, 26, 27, 28, 29]) (by kernel_rfl) ?step ?fin
  case keep =>
    refine List.forall_mem_cons.2 ⟨Is.keeps _, ?_⟩
    refine List.forall_mem_cons.2 ⟨Is.keeps _, ?_⟩
    refine List.forall_mem_cons.2 ⟨Is.keeps _, ?_⟩
    refine List.forall_mem_cons.2 ⟨Is.keeps _, ?_⟩
    refine List.forall_mem_cons.2 ⟨Is.keeps _, ?_⟩
    refine List.forall_mem_cons.2 ⟨Is.keeps _, ?_⟩
    refine List.forall_mem_cons.2 ⟨Is.keeps _, ?_⟩
    refine List.forall_mem_cons.2 ⟨Is.keeps _, ?_⟩
    refine List.forall_mem_cons.2 ⟨Is.keeps _, ?_⟩
    refine List.forall_mem_cons.2 ⟨Is.keeps _, ?_⟩
    refine List.forall_mem_cons.2 ⟨Is.keeps _, ?_⟩
    refine List.forall_mem_cons.2 ⟨Is.keeps _, ?_⟩
    refine List.forall_mem_cons.2 ⟨Is.keeps _, ?_⟩
    refine List.forall_mem_cons.2 ⟨Is.keeps _, ?_⟩
    refine List.forall_mem_cons.2 ⟨Is.keeps _, ?_⟩
    refine List.forall_mem_cons.2 ⟨Is.keeps _, ?_⟩
    refine List.forall_mem_cons.2 ⟨Is.keeps _, ?_⟩
    refine List.forall_mem_cons.2 ⟨Is.keeps _, ?_⟩
    refine List.forall_mem_cons.2 ⟨Is.keeps _, ?_⟩
    refine List.forall_mem_cons.2 ⟨Is.keeps _, ?_⟩
    refine List.forall_mem_cons.2 ⟨Is.keeps _, ?_⟩
    refine List.forall_mem_cons.2 ⟨Is.keeps _, ?_⟩
    refine List.forall_mem_cons.2 ⟨Is.keeps _, ?_⟩
    refine List.forall_mem_cons.2 ⟨Is.keeps _, ?_⟩
    refine List.forall_mem_cons.2 ⟨Is.keeps _, ?_⟩
    refine List.forall_mem_cons.2 ⟨Is.keeps _, ?_⟩
    refine List.forall_mem_cons.2 ⟨Is.keeps _, ?_⟩
    refine List.forall_mem_cons.2 ⟨Is.keeps _, ?_⟩
    refine List.forall_mem_cons.2 ⟨Is.keeps _, ?_⟩
    refine List.forall_mem_cons.2 ⟨Is.keeps _, ?_⟩
    exact fun _ h => nomatch h
  case step =>
    refine List.forall_mem_cons.2 ⟨?_, ?_⟩
    · refine SlotStep.plain rfl rfl rfl ?_
      intro tm ws hsame hS hg K hK
      have e10 : tm[10]? = some (.bool true) := hsame.2 10 rfl
      go_simp
      exact hK _ _ (Below.refl _ _) hS rfl
    refine List.forall_mem_cons.2 ⟨?_, ?_⟩
    · refine SlotStep.plain rfl rfl rfl ?_
      intro tm ws hsame hS hg K hK
      have e0 : tm[0]? = some (.float .f64 b) := hsame.2 0 rfl
      go_simp
      exact hK _ _ (Below.refl _ _) hS rfl
    refine List.forall_mem_cons.2 ⟨?_, ?_⟩
    · refine SlotStep.plain rfl rfl rfl ?_
      intro tm ws hsame hS hg K hK
      obtain ⟨v30, e30, rfl⟩ := hg 1 (by kernel_rfl) _ 30 rfl rfl
      go_simp
      refine ((HF1 ws).out).mono ?_
      rintro e wm ⟨rfl, rfl⟩
      exact hK _ _ (Below.refl _ _) hS rfl
    refine List.forall_mem_cons.2 ⟨?_, ?_⟩
    · refine SlotStep.plain rfl rfl rfl ?_
      intro tm ws hsame hS hg K hK
      obtain ⟨v29, e29, rfl⟩ := hg 0 (by kernel_rfl) _ 29 rfl rfl
      obtain ⟨v31, e31, rfl⟩ := hg 2 (by kernel_rfl) _ 31 rfl rfl
      go_simp
      exact hK _ _ (Below.refl _ _) hS rfl
    refine List.forall_mem_cons.2 ⟨?_, ?_⟩
    · refine SlotStep.plain rfl rfl rfl ?_
      intro tm ws hsame hS hg K hK
      obtain ⟨v32, e32, rfl⟩ := hg 3 (by kernel_rfl) _ 32 rfl rfl
      go_simp
      exact hK _ _ (Below.refl _ _) hS rfl
    refine List.forall_mem_cons.2 ⟨?_, ?_⟩
    · refine SlotStep.guardedNot rfl rfl 4 rfl rfl (by kernel_rfl) (fun _ _ h => h) ?_
      intro tm ws hsame hS hg K hK
      have e0 : tm[0]? = some (.float .f64 b) := hsame.2 0 rfl
      go_simp
      exact hK _ _ (Below.refl _ _) hS rfl
    refine List.forall_mem_cons.2 ⟨?_, ?_⟩
    · refine SlotStep.guardedNot rfl rfl 4 rfl rfl (by kernel_rfl) (fun _ _ h => h) ?_
      intro tm ws hsame hS hg K hK
      obtain ⟨v34, e34, rfl⟩ := hg 5 (by kernel_rfl) _ 34 rfl rfl
      go_simp
      refine ((HF2 ws).out).mono ?_
      rintro e wm ⟨rfl, rfl⟩
      exact hK _ _ (Below.refl _ _) hS rfl
    refine List.forall_mem_cons.2 ⟨?_, ?_⟩
    · refine SlotStep.guardedNot rfl rfl 4 rfl rfl (by kernel_rfl) (fun _ _ h => h) ?_
      intro tm ws hsame hS hg K hK
      have e10 : tm[10]? = some (.bool true) := hsame.2 10 rfl
      go_simp
      exact hK _ _ (Below.refl _ _) hS rfl
    refine List.forall_mem_cons.2 ⟨?_, ?_⟩
    · refine SlotStep.guardedNot rfl rfl 4 rfl rfl (by kernel_rfl) (fun _ _ h => h) ?_
      intro tm ws hsame hS hg K hK
      obtain ⟨v35, e35, rfl⟩ := hg 6 (by kernel_rfl) _ 35 rfl rfl
      obtain ⟨v36, e36, rfl⟩ := hg 7 (by kernel_rfl) _ 36 rfl rfl
      go_simp
      exact hK _ _ (Below.refl _ _) hS rfl
    refine List.forall_mem_cons.2 ⟨?_, ?_⟩
    · refine SlotStep.plain rfl rfl rfl ?_
      intro tm ws hsame hS hg K hK
      obtain ⟨v33, e33, rfl⟩ := hg 4 (by kernel_rfl) _ 33 rfl rfl
      obtain ⟨v37, e37, rfl⟩ := hg 8 (by kernel_rfl) _ 37 rfl rfl
      go_simp
      exact hK _ _ (Below.refl _ _) hS rfl
    refine List.forall_mem_cons.2 ⟨?_, ?_⟩
    · refine SlotStep.plain rfl rfl rfl ?_
      intro tm ws hsame hS hg K hK
      obtain ⟨v38, e38, rfl⟩ := hg 9 (by kernel_rfl) _ 38 rfl rfl
      go_simp
      exact hK _ _ (Below.refl _ _) hS rfl
    refine List.forall_mem_cons.2 ⟨?_, ?_⟩
    · refine SlotStep.guardedNot rfl rfl 10 rfl rfl (by kernel_rfl) (fun _ _ h => h) ?_
      intro tm ws hsame hS hg K hK
      have e0 : tm[0]? = some (.float .f64 b) := hsame.2 0 rfl
      go_simp
      exact hK _ _ (Below.refl _ _) hS rfl
    refine List.forall_mem_cons.2 ⟨?_, ?_⟩
    · refine SlotStep.guardedNot rfl rfl 10 rfl rfl (by kernel_rfl) (fun _ _ h => h) ?_
      intro tm ws hsame hS hg K hK
      have e2 : tm[2]? = some (.int .i64 dir) := hsame.2 2 rfl
      go_simp
      exact hK _ _ (Below.refl _ _) hS rfl
    refine List.forall_mem_cons.2 ⟨?_, ?_⟩
    · refine SlotStep.guardedNot rfl rfl 10 rfl rfl (by kernel_rfl) (fun _ _ h => h) ?_
      intro tm ws hsame hS hg K hK
      obtain ⟨v40, e40, rfl⟩ := hg 11 (by kernel_rfl) _ 40 rfl rfl
      obtain ⟨v41, e41, rfl⟩ := hg 12 (by kernel_rfl) _ 41 rfl rfl
      go_simp
      refine (HSTP.out ws).mono ?_
      rintro e wm ⟨rfl, rfl⟩
      exact hK _ _ (Below.refl _ _) hS rfl
    refine List.forall_mem_cons.2 ⟨?_, ?_⟩
    · refine SlotStep.guardedNot rfl rfl 10 rfl rfl (by kernel_rfl) (fun _ _ h => h) ?_
      intro tm ws hsame hS hg K hK
      have e0 : tm[0]? = some (.float .f64 b) := hsame.2 0 rfl
      go_simp
      exact hK _ _ (Below.refl _ _) hS rfl
    refine List.forall_mem_cons.2 ⟨?_, ?_⟩
    · refine SlotStep.guardedNot rfl rfl 10 rfl rfl (by kernel_rfl) (fun _ _ h => h) ?_
      intro tm ws hsame hS hg K hK
      have e2 : tm[2]? = some (.int .i64 dir) := hsame.2 2 rfl
      go_simp
      exact hK _ _ (Below.refl _ _) hS rfl
    refine List.forall_mem_cons.2 ⟨?_, ?_⟩
    · refine SlotStep.guardedNot rfl rfl 10 rfl rfl (by kernel_rfl) (fun _ _ h => h) ?_
      intro tm ws hsame hS hg K hK
      obtain ⟨v43, e43, rfl⟩ := hg 14 (by kernel_rfl) _ 43 rfl rfl
      obtain ⟨v44, e44, rfl⟩ := hg 15 (by kernel_rfl) _ 44 rfl rfl
      go_simp
      refine (HRST.out ws).mono ?_
      rintro e wm ⟨rfl, rfl⟩
      exact hK _ _ (Below.refl _ _) hS rfl
    refine List.forall_mem_cons.2 ⟨?_, ?_⟩
    · refine SlotStep.guardedNot rfl rfl 10 rfl rfl (by kernel_rfl) (fun _ _ h => h) ?_
      intro tm ws hsame hS hg K hK
      obtain ⟨v42, e42, rfl⟩ := hg 13 (by kernel_rfl) _ 42 rfl rfl
      obtain ⟨v45, e45, rfl⟩ := hg 16 (by kernel_rfl) _ 45 rfl rfl
      go_simp
      refine (HSAM.out ws).mono ?_
      rintro e wm ⟨rfl, rfl⟩
      exact hK _ _ (Below.refl _ _) hS rfl
    refine List.forall_mem_cons.2 ⟨?_, ?_⟩
    · refine SlotStep.guardedNot rfl rfl 10 rfl rfl (by kernel_rfl) (fun _ _ h => h) ?_
      intro tm ws hsame hS hg K hK
      obtain ⟨v46, e46, rfl⟩ := hg 17 (by kernel_rfl) _ 46 rfl rfl
      go_simp
      exact hK _ _ (Below.refl _ _) hS rfl
    refine List.forall_mem_cons.2 ⟨?_, ?_⟩
    · refine SlotStep.plain rfl rfl rfl ?_
      intro tm ws hsame hS hg K hK
      obtain ⟨v39, e39, rfl⟩ := hg 10 (by kernel_rfl) _ 39 rfl rfl
      obtain ⟨v47, e47, rfl⟩ := hg 18 (by kernel_rfl) _ 47 rfl rfl
      go_simp
      exact hK _ _ (Below.refl _ _) hS rfl
    refine List.forall_mem_cons.2 ⟨?_, ?_⟩
    · refine SlotStep.plain rfl rfl rfl ?_
      intro tm ws hsame hS hg K hK
      obtain ⟨v48, e48, rfl⟩ := hg 19 (by kernel_rfl) _ 48 rfl rfl
      go_simp
      exact hK _ _ (Below.refl _ _) hS rfl
    refine List.forall_mem_cons.2 ⟨?_, ?_⟩
    · refine SlotStep.guardedNot rfl rfl 20 rfl rfl (by kernel_rfl) (fun _ _ h => h) ?_
      intro tm ws hsame hS hg K hK
      have e7 : tm[7]? = some (.pointer (some ⟨w3.heap.size, 0, none⟩)) := hsame.2 7 rfl
      obtain ⟨⟨k0, k1, k2⟩, -⟩ := slot3 (hS.1)
      go_simp
      exact hK _ _ (Below.refl _ _) hS rfl
    refine List.forall_mem_cons.2 ⟨?_, ?_⟩
    · refine SlotStep.guardedNot rfl rfl 20 rfl rfl (by kernel_rfl) (fun _ _ h => h) ?_
      intro tm ws hsame hS hg K hK
      have e2 : tm[2]? = some (.int .i64 dir) := hsame.2 2 rfl
      go_simp
      exact hK _ _ (Below.refl _ _) hS rfl
    refine List.forall_mem_cons.2 ⟨?_, ?_⟩
    · refine SlotStep.guardedNot rfl rfl 20 rfl rfl (by kernel_rfl) (fun _ _ h => h) ?_
      intro tm ws hsame hS hg K hK
      obtain ⟨v50, e50, rfl⟩ := hg 21 (by kernel_rfl) _ 50 rfl rfl
      obtain ⟨v51, e51, rfl⟩ := hg 22 (by kernel_rfl) _ 51 rfl rfl
      go_simp
      refine (float_num p E dir hS.2.2.2.1 (by decide) (by omega) (by omega) hS.2.2.2.2.2.2.1).mono ?_
      rintro e' wm ⟨R', ex', rfl, htz', hb⟩
      obtain ⟨rfl, rfl⟩ := htz'.unique HTZ.out
      exact hK _ _ hb (⟨slot_kept (hS.1) (hb), slot_kept (hS.2.1) (hb), slot_kept (hS.2.2.1) (hb), (hS.2.2.2.1).below (hb), (hS.2.2.2.2.1).below (hb), (hS.2.2.2.2.2.1).below (hb), Tab64.below (hS.2.2.2.2.2.2.1) (hb), (hS.2.2.2.2.2.2.2).trans (Below.mono (hb) (hS.2.2.2.2.2.2.2).size)⟩) (congrArg (Value.float .f64) HWD.out)
    refine List.forall_mem_cons.2 ⟨?_, ?_⟩
    · refine SlotStep.guardedNot rfl rfl 20 rfl rfl (by kernel_rfl) (fun _ _ h => h) ?_
      intro tm ws hsame hS hg K hK
      have e8 : tm[8]? = some (.pointer (some ⟨w5a.heap.size, 0, none⟩)) := hsame.2 8 rfl
      obtain ⟨⟨k0, k1, k2⟩, -⟩ := slot3 (hS.2.1)
      go_simp
      exact hK _ _ (Below.refl _ _) hS rfl
    refine List.forall_mem_cons.2 ⟨?_, ?_⟩
    · refine SlotStep.guardedNot rfl rfl 20 rfl rfl (by kernel_rfl) (fun _ _ h => h) ?_
      intro tm ws hsame hS hg K hK
      have e2 : tm[2]? = some (.int .i64 dir) := hsame.2 2 rfl
      go_simp
      exact hK _ _ (Below.refl _ _) hS rfl
    refine List.forall_mem_cons.2 ⟨?_, ?_⟩
    · refine SlotStep.guardedNot rfl rfl 20 rfl rfl (by kernel_rfl) (fun _ _ h => h) ?_
      intro tm ws hsame hS hg K hK
      obtain ⟨v53, e53, rfl⟩ := hg 24 (by kernel_rfl) _ 53 rfl rfl
      obtain ⟨v54, e54, rfl⟩ := hg 25 (by kernel_rfl) _ 54 rfl rfl
      go_simp
      refine (rfloat_num (b2 := 20000) dir hS.2.2.2.2.1 HA0.out he0 (by omega) (by decide) (by decide) (by decide) (by omega) (by decide) HTZ.out).mono ?_
      rintro e' wm ⟨rfl, hb⟩
      exact hK _ _ hb (⟨slot_kept (hS.1) (hb), slot_kept (hS.2.1) (hb), slot_kept (hS.2.2.1) (hb), (hS.2.2.2.1).below (hb), (hS.2.2.2.2.1).below (hb), (hS.2.2.2.2.2.1).below (hb), Tab64.below (hS.2.2.2.2.2.2.1) (hb), (hS.2.2.2.2.2.2.2).trans (Below.mono (hb) (hS.2.2.2.2.2.2.2).size)⟩) (congrArg (Value.float .f64) HWD.out)
    refine List.forall_mem_cons.2 ⟨?_, ?_⟩
    · refine SlotStep.guardedNot rfl rfl 20 rfl rfl (by kernel_rfl) (fun _ _ h => h) ?_
      intro tm ws hsame hS hg K hK
      obtain ⟨v52, e52, rfl⟩ := hg 23 (by kernel_rfl) _ 52 rfl rfl
      obtain ⟨v55, e55, rfl⟩ := hg 26 (by kernel_rfl) _ 55 rfl rfl
      go_simp
      refine (same_num Wd Wd ws HWI.out HWI.out rfl).mono ?_
      rintro e wm ⟨rfl, rfl⟩
      exact hK _ _ (Below.refl _ _) hS rfl
    refine List.forall_mem_cons.2 ⟨?_, ?_⟩
    · refine SlotStep.guardedNot rfl rfl 20 rfl rfl (by kernel_rfl) (fun _ _ h => h) ?_
      intro tm ws hsame hS hg K hK
      obtain ⟨v56, e56, rfl⟩ := hg 27 (by kernel_rfl) _ 56 rfl rfl
      go_simp
      exact hK _ _ (Below.refl _ _) hS rfl
    refine List.forall_mem_cons.2 ⟨?_, ?_⟩
    · refine SlotStep.plain rfl rfl rfl ?_
      intro tm ws hsame hS hg K hK
      obtain ⟨v49, e49, rfl⟩ := hg 20 (by kernel_rfl) _ 49 rfl rfl
      obtain ⟨v57, e57, rfl⟩ := hg 28 (by kernel_rfl) _ 57 rfl rfl
      go_simp
      exact hK _ _ (Below.refl _ _) hS rfl
    exact fun _ h => nomatch h
  case fin =>
    intro tm w7 hsame hS hgot
    obtain ⟨u, hu, htm⟩ := hsame.form (by kernel_rfl)
    obtain ⟨v58, e58, rfl⟩ := hgot 29 _ 58 rfl rfl
    have h58 := hu _ _ e58
    have hd3 := hS.2.2.1
    have hT7 := hS.2.2.2.2.2.2.1
    have hb7 := hS.2.2.2.2.2.2.2
    have hy1 := hS.2.2.2.2.2.1
    have hbw7 := hbw6.trans (hb7.mono hbw6.size)
    clear hgot hu hsame e58 hS hb7 hbw6 hT hc1 hc2 hc3 hn hq5 HSTP HRST HSAM HTZ HF1 HF2
    rw [htm]
    clear htm tm
    simp only [List.foldl_cons, List.foldl_nil, List.setIfInBounds_toArray, List.set_cons_zero, List.set_cons_succ, h58]
    clear h58
    have HV1 : Hid (sg p1 N1 * 2 ^ (E1 + 1074).toNat = fv b) := Lib.hid (by
      rw [fv_def, ← sg_scale, hv1]
      by_cases h0 : N1 = 0
      · rw [h0, Int.zero_mul] at hv1
        rw [← hv1]
        cases p1 <;> cases fneg b <;> rfl
      · rw [(ho1 h0).1]; rfl)
    obtain ⟨htb, hcb⟩ := flo_back (p := p1) hf hv1 hEl1 (fun h => (ho1 h).1)
    have HTB := Lib.hid htb
    obtain ⟨V1, hV1⟩ : ∃ V1, floW (p1 && decide (N1 ≠ 0)) (rg b) true (decide (dir < 0)) = V1 := ⟨_, rfl⟩
    obtain ⟨nd, hnd⟩ : ∃ nd, IntKind.i64.wrap (-dir) = nd := ⟨_, rfl⟩
    obtain ⟨V2, hV2⟩ : ∃ V2, floW (p1 && decide (N1 ≠ 0)) (rg b) true (decide (nd < 0)) = V2 := ⟨_, rfl⟩
    have o1 : (FloatKind.f64.format.order V1 b == some Ordering.eq) = true := by rw [← hV1]; exact hcb _
    have o2 : (FloatKind.f64.format.order V2 b == some Ordering.eq) = true := by rw [← hV2]; exact hcb _
    have HV1W := Lib.hid hV1
    have HV2W := Lib.hid hV2
    have HO1 := Lib.hid ho1
    have HZ1 := Lib.hid hz1
    have HFI := Lib.hid hf
    clear hv1 htb hcb hV1 hV2 ho1 hz1 hf
    go_upto_region 10 with fail
    refine wp_region_slots (by kernel_rfl) [64, 65, 66, 67, 68, 69, 70, 71, 72, 73, 74, 75, 76, 77, 78, 79, 80, 81, 82, 6] (fun w' => (w'.heap[w6a.heap.size]? = some (.cells #[.bool p1, .slice a1 n1 c1, .int .i64 E1] 60 (0, 0))) ∧ (NewN w5.heap.size w' (.slice a1 n1 c1) N1 1) ∧ (Tab64 w') ∧ (Below w7.heap.size w7 w')) (Said [Is (.agg #[.bool p1, .slice a1 n1 c1, .int .i64 E1]), Is (.float .f64 b), IsQZ 1074 (fv b) 2 2200, Is (.bool true), Is (.bool true), Is (.agg #[.bool p1, .slice a1 n1 c1, .int .i64 E1]), Is (.int .i64 dir), Is (.float .f64 V1), Is (.float .f64 b), Is (.bool true), Is (.bool true), Is (.bool true), Is (.agg #[.bool p1, .slice a1 n1 c1, .int .i64 E1]), Is (.int .i64 dir), Is (.int .i64 nd), Is (.float .f64 V2), Is (.float .f64 b), Is (.bool true), Is (.bool true), Is (.bool true)]) (by kernel_rfl) (by kernel_rfl) (by kernel_rfl) (by kernel_rfl) (Said.keep ?keep) ⟨slot_kept hd3 (bdn (Below.refl _ _) 1), hy1.below (bdn (Below.refl _ _) 1), Tab64.below hT7 (bdn (Below.refl _ _) 1), bdn (Below.refl _ _) 1⟩ (l := [0, 1, 2, 3, 4, 5, 6, 7, 8, 9, 10, 11, 12, 13, 14, 15, 16, 17, 18, 19]) (by kernel_rfl) ?step ?fin
    case keep =>
      refine List.forall_mem_cons.2 ⟨Is.keeps _, ?_⟩
      refine List.forall_mem_cons.2 ⟨Is.keeps _, ?_⟩
      refine List.forall_mem_cons.2 ⟨IsQZ.keeps _ _ _ _, ?_⟩
      refine List.forall_mem_cons.2 ⟨Is.keeps _, ?_⟩
      refine List.forall_mem_cons.2 ⟨Is.keeps _, ?_⟩
      refine List.forall_mem_cons.2 ⟨Is.keeps _, ?_⟩
      refine List.forall_mem_cons.2 ⟨Is.keeps _, ?_⟩
      refine List.forall_mem_cons.2 ⟨Is.keeps _, ?_⟩
      refine List.forall_mem_cons.2 ⟨Is.keeps _, ?_⟩
      refine List.forall_mem_cons.2 ⟨Is.keeps _, ?_⟩
      refine List.forall_mem_cons.2 ⟨Is.keeps _, ?_⟩
      refine List.forall_mem_cons.2 ⟨Is.keeps _, ?_⟩
      refine List.forall_mem_cons.2 ⟨Is.keeps _, ?_⟩
      refine List.forall_mem_cons.2 ⟨Is.keeps _, ?_⟩
      refine List.forall_mem_cons.2 ⟨Is.keeps _, ?_⟩
      refine List.forall_mem_cons.2 ⟨Is.keeps _, ?_⟩
      refine List.forall_mem_cons.2 ⟨Is.keeps _, ?_⟩
      refine List.forall_mem_cons.2 ⟨Is.keeps _, ?_⟩
      refine List.forall_mem_cons.2 ⟨Is.keeps _, ?_⟩
      refine List.forall_mem_cons.2 ⟨Is.keeps _, ?_⟩
      exact fun _ h => nomatch h
    case step =>
      refine List.forall_mem_cons.2 ⟨?_, ?_⟩
      · refine SlotStep.plain rfl rfl rfl ?_
        intro tm ws hsame hS hg K hK
        have e9 : tm[9]? = some (.pointer (some ⟨w6a.heap.size, 0, none⟩)) := hsame.2 9 rfl
        obtain ⟨⟨k0, k1, k2⟩, -⟩ := slot3 (hS.1)
        go_simp
        exact hK _ _ (Below.refl _ _) hS rfl
      refine List.forall_mem_cons.2 ⟨?_, ?_⟩
      · refine SlotStep.plain rfl rfl rfl ?_
        intro tm ws hsame hS hg K hK
        have e0 : tm[0]? = some (.float .f64 b) := hsame.2 0 rfl
        go_simp
        exact hK _ _ (Below.refl _ _) hS rfl
      refine List.forall_mem_cons.2 ⟨?_, ?_⟩
      · refine SlotStep.plain rfl rfl rfl ?_
        intro tm ws hsame hS hg K hK
        obtain ⟨v65, e65, rfl⟩ := hg 1 (by kernel_rfl) _ 65 rfl rfl
        go_simp
        refine (refof_num b ws hb HFI.out).mono ?_
        rintro e wm ⟨pZ, aZ, nZ, cZ, EZ, rfl, hZ, hb⟩
        exact hK _ _ hb (⟨slot_kept (hS.1) (hb), (hS.2.1).below (hb), Tab64.below (hS.2.2.1) (hb), (hS.2.2.2).trans (Below.mono (hb) (hS.2.2.2).size)⟩) ⟨pZ, aZ, nZ, cZ, EZ, rfl, hZ⟩
      refine List.forall_mem_cons.2 ⟨?_, ?_⟩
      · refine SlotStep.plain rfl rfl rfl ?_
        intro tm ws hsame hS hg K hK
        obtain ⟨v64, e64, rfl⟩ := hg 0 (by kernel_rfl) _ 64 rfl rfl
        obtain ⟨v66, e66, ⟨p66, a66, n66, c66, E66, rfl, g66⟩⟩ := hg 2 (by kernel_rfl) _ 66 rfl rfl
        go_simp
        refine (is3_num (E0 := (E1 + 1074).toNat) hS.2.1 g66 (fun h => (HO1.out h).2) HZ1.out (by omega) HV1.out (by decide)).mono ?_
        rintro e wm ⟨rfl, hb⟩
        exact hK _ _ hb (⟨slot_kept (hS.1) (hb), (hS.2.1).below (hb), Tab64.below (hS.2.2.1) (hb), (hS.2.2.2).trans (Below.mono (hb) (hS.2.2.2).size)⟩) rfl
      refine List.forall_mem_cons.2 ⟨?_, ?_⟩
      · refine SlotStep.plain rfl rfl rfl ?_
        intro tm ws hsame hS hg K hK
        obtain ⟨v67, e67, rfl⟩ := hg 3 (by kernel_rfl) _ 67 rfl rfl
        go_simp
        exact hK _ _ (Below.refl _ _) hS rfl
      refine List.forall_mem_cons.2 ⟨?_, ?_⟩
      · refine SlotStep.guarded rfl rfl 4 rfl rfl (by kernel_rfl) (fun _ _ h => h) ?_
        intro tm ws hsame hS hg K hK
        have e9 : tm[9]? = some (.pointer (some ⟨w6a.heap.size, 0, none⟩)) := hsame.2 9 rfl
        obtain ⟨⟨k0, k1, k2⟩, -⟩ := slot3 (hS.1)
        go_simp
        exact hK _ _ (Below.refl _ _) hS rfl
      refine List.forall_mem_cons.2 ⟨?_, ?_⟩
      · refine SlotStep.guarded rfl rfl 4 rfl rfl (by kernel_rfl) (fun _ _ h => h) ?_
        intro tm ws hsame hS hg K hK
        have e2 : tm[2]? = some (.int .i64 dir) := hsame.2 2 rfl
        go_simp
        exact hK _ _ (Below.refl _ _) hS rfl
      refine List.forall_mem_cons.2 ⟨?_, ?_⟩
      · refine SlotStep.guarded rfl rfl 4 rfl rfl (by kernel_rfl) (fun _ _ h => h) ?_
        intro tm ws hsame hS hg K hK
        obtain ⟨v69, e69, rfl⟩ := hg 5 (by kernel_rfl) _ 69 rfl rfl
        obtain ⟨v70, e70, rfl⟩ := hg 6 (by kernel_rfl) _ 70 rfl rfl
        go_simp
        refine (float_num p1 E1 dir (hS.2.1).num (by decide) (by omega) (by omega) hS.2.2.1).mono ?_
        rintro e' wm ⟨R', ex', rfl, htz', hb⟩
        obtain ⟨rfl, rfl⟩ := htz'.unique HTB.out
        exact hK _ _ hb (⟨slot_kept (hS.1) (hb), (hS.2.1).below (hb), Tab64.below (hS.2.2.1) (hb), (hS.2.2.2).trans (Below.mono (hb) (hS.2.2.2).size)⟩) (congrArg (Value.float .f64) HV1W.out)
      refine List.forall_mem_cons.2 ⟨?_, ?_⟩
      · refine SlotStep.guarded rfl rfl 4 rfl rfl (by kernel_rfl) (fun _ _ h => h) ?_
        intro tm ws hsame hS hg K hK
        have e0 : tm[0]? = some (.float .f64 b) := hsame.2 0 rfl
        go_simp
        exact hK _ _ (Below.refl _ _) hS rfl
      refine List.forall_mem_cons.2 ⟨?_, ?_⟩
      · refine SlotStep.guarded rfl rfl 4 rfl rfl (by kernel_rfl) (fun _ _ h => h) ?_
        intro tm ws hsame hS hg K hK
        obtain ⟨v71, e71, rfl⟩ := hg 7 (by kernel_rfl) _ 71 rfl rfl
        obtain ⟨v72, e72, rfl⟩ := hg 8 (by kernel_rfl) _ 72 rfl rfl
        go_simp
        exact hK _ _ (Below.refl _ _) hS rfl
      refine List.forall_mem_cons.2 ⟨?_, ?_⟩
      · refine SlotStep.plain rfl rfl rfl ?_
        intro tm ws hsame hS hg K hK
        obtain ⟨v68, e68, rfl⟩ := hg 4 (by kernel_rfl) _ 68 rfl rfl
        obtain ⟨v73, e73, rfl⟩ := hg 9 (by kernel_rfl) _ 73 rfl rfl
        go_simp
        exact hK _ _ (Below.refl _ _) hS rfl
      refine List.forall_mem_cons.2 ⟨?_, ?_⟩
      · refine SlotStep.plain rfl rfl rfl ?_
        intro tm ws hsame hS hg K hK
        obtain ⟨v74, e74, rfl⟩ := hg 10 (by kernel_rfl) _ 74 rfl rfl
        go_simp
        exact hK _ _ (Below.refl _ _) hS rfl
      refine List.forall_mem_cons.2 ⟨?_, ?_⟩
      · refine SlotStep.guarded rfl rfl 11 rfl rfl (by kernel_rfl) (fun _ _ h => h) ?_
        intro tm ws hsame hS hg K hK
        have e9 : tm[9]? = some (.pointer (some ⟨w6a.heap.size, 0, none⟩)) := hsame.2 9 rfl
        obtain ⟨⟨k0, k1, k2⟩, -⟩ := slot3 (hS.1)
        go_simp
        exact hK _ _ (Below.refl _ _) hS rfl
      refine List.forall_mem_cons.2 ⟨?_, ?_⟩
      · refine SlotStep.guarded rfl rfl 11 rfl rfl (by kernel_rfl) (fun _ _ h => h) ?_
        intro tm ws hsame hS hg K hK
        have e2 : tm[2]? = some (.int .i64 dir) := hsame.2 2 rfl
        go_simp
        exact hK _ _ (Below.refl _ _) hS rfl
      refine List.forall_mem_cons.2 ⟨?_, ?_⟩
      · refine SlotStep.guarded rfl rfl 11 rfl rfl (by kernel_rfl) (fun _ _ h => h) ?_
        intro tm ws hsame hS hg K hK
        obtain ⟨v77, e77, rfl⟩ := hg 13 (by kernel_rfl) _ 77 rfl rfl
        go_simp
        exact hK _ _ (Below.refl _ _) hS rfl
      refine List.forall_mem_cons.2 ⟨?_, ?_⟩
      · refine SlotStep.guarded rfl rfl 11 rfl rfl (by kernel_rfl) (fun _ _ h => h) ?_
        intro tm ws hsame hS hg K hK
        obtain ⟨v76, e76, rfl⟩ := hg 12 (by kernel_rfl) _ 76 rfl rfl
        obtain ⟨v78, e78, rfl⟩ := hg 14 (by kernel_rfl) _ 78 rfl rfl
        go_simp
        refine (float_num p1 E1 nd (hS.2.1).num (by decide) (by omega) (by omega) hS.2.2.1).mono ?_
        rintro e' wm ⟨R', ex', rfl, htz', hb⟩
        obtain ⟨rfl, rfl⟩ := htz'.unique HTB.out
        exact hK _ _ hb (⟨slot_kept (hS.1) (hb), (hS.2.1).below (hb), Tab64.below (hS.2.2.1) (hb), (hS.2.2.2).trans (Below.mono (hb) (hS.2.2.2).size)⟩) (congrArg (Value.float .f64) HV2W.out)
      refine List.forall_mem_cons.2 ⟨?_, ?_⟩
      · refine SlotStep.guarded rfl rfl 11 rfl rfl (by kernel_rfl) (fun _ _ h => h) ?_
        intro tm ws hsame hS hg K hK
        have e0 : tm[0]? = some (.float .f64 b) := hsame.2 0 rfl
        go_simp
        exact hK _ _ (Below.refl _ _) hS rfl
      refine List.forall_mem_cons.2 ⟨?_, ?_⟩
      · refine SlotStep.guarded rfl rfl 11 rfl rfl (by kernel_rfl) (fun _ _ h => h) ?_
        intro tm ws hsame hS hg K hK
        obtain ⟨v79, e79, rfl⟩ := hg 15 (by kernel_rfl) _ 79 rfl rfl
        obtain ⟨v80, e80, rfl⟩ := hg 16 (by kernel_rfl) _ 80 rfl rfl
        go_simp
        exact hK _ _ (Below.refl _ _) hS rfl
      refine List.forall_mem_cons.2 ⟨?_, ?_⟩
      · refine SlotStep.plain rfl rfl rfl ?_
        intro tm ws hsame hS hg K hK
        obtain ⟨v75, e75, rfl⟩ := hg 11 (by kernel_rfl) _ 75 rfl rfl
        obtain ⟨v81, e81, rfl⟩ := hg 17 (by kernel_rfl) _ 81 rfl rfl
        go_simp
        exact hK _ _ (Below.refl _ _) hS rfl
      refine List.forall_mem_cons.2 ⟨?_, ?_⟩
      · refine SlotStep.plain rfl rfl rfl ?_
        intro tm ws hsame hS hg K hK
        obtain ⟨v82, e82, rfl⟩ := hg 18 (by kernel_rfl) _ 82 rfl rfl
        go_simp
        exact hK _ _ (Below.refl _ _) hS rfl
      exact fun _ h => nomatch h
    case fin =>
      intro tm w8 hsame hS hgot
      obtain ⟨u, hu, htm⟩ := hsame.form (by kernel_rfl)
      obtain ⟨v6, e6, rfl⟩ := hgot 19 _ 6 rfl rfl
      have h6 := hu _ _ e6
      have hb8 := hS.2.2.2
      clear hgot hu hsame e6
      rw [htm]
      clear htm tm
      simp only [List.foldl_cons, List.foldl_nil, List.setIfInBounds_toArray, List.set_cons_zero, List.set_cons_succ, h6]
      clear h6
      go_wp2_with fail
      go_ret
      exact ⟨rfl, hbw7.trans (hb8.mono hbw7.size)⟩

set_option maxRecDepth 100000 in
theorem ftell_heavy (b : Nat) (p : Bool) (aA : Option Addr) (nA cA : Nat) (E dir : Int) (w : World) (h : 40 < nA ∨ E < -3000 ∨ 3000 < E) (hn : nA ≤ 9223372036854775807) (hT : Tab64 w) :
    Calls Tryz.prog 4 #[.float .f64 b, .agg #[.bool p, .slice aA nA cA, .int .i64 E], .int .i64 dir] w fun e' w' => RetV w (.bool true) e' w' := by
  obtain ⟨w0, hw0⟩ : ∃ w0, w.alloc (.cells #[.bool p, .slice aA nA cA, .int .i64 E] 55) = w0 := ⟨_, rfl⟩
  have hb0 : Below w.heap.size w w0 := hw0 ▸ below_alloc w _
  have hc0 : w0.heap[w.heap.size]? = some (.cells #[.bool p, .slice aA nA cA, .int .i64 E] 55 (0, 0)) := hw0 ▸ heap_alloc_new w _
  obtain ⟨⟨k0, k1, k2⟩, -⟩ := slot3 hc0
  have hli := light3_num (w := w0) p aA nA cA E 55 hn
  rw [show (decide (nA ≤ 40) && !(decide (E < -3000)) && !(decide (3000 < E))) = false by
    rcases h with h | h | h
    · rw [decide_eq_false (by omega)]; rfl
    · rw [decide_eq_true h]; simp
    · rw [decide_eq_true h]; simp] at hli
  have HLI := Lib.hid hli
  have hbL := below_alloc w0 (.cells #[.bool p, .slice aA nA cA, .int .i64 E] 55)
  clear hli h
  go_enter Tryz.func4, Tryz.ntmps4
  go_wp2_with fail
  refine HLI.out.mono ?_
  rintro e' w1 ⟨rfl, hb1⟩
  have hb01 := hbL.trans (hb1.mono hbL.size)
  have hbw1 := hb0.trans (hb01.mono hb0.size)
  go_wp2_with fail
  refine (flive_yes _ ((hT.below hb0).below hb01)).mono ?_
  rintro e' w2 ⟨rfl, hb2⟩
  go_wp2_with fail
  go_ret
  exact ⟨rfl, hbw1.trans (hb2.mono hbw1.size)⟩
end Go.Proofs.YtfanhllcoaondaaGreatDoor
