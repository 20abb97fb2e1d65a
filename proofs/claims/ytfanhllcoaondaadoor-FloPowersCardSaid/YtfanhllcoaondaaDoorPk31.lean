/-
  FloPow: The walk of the statement FloPowers.
  FloB: compasslaw3's numbers as they are handed in: Light, Of.
  FloC: Steps of float64 words there and back; the two words about a number. No program is spoken of here.
  FloBtw: The walk of the statement FloBetween.
-/
import Derived.Test.YtfanhllcoaondaaDoorPk30

namespace Go.Proofs.YtfanhllcoaondaaDoor
open Go.RowKit

theorem un_rung (e : Int) (h0 : -1074 ≤ e) (h1 : e ≤ 1023) : ∃ r, r < INF ∧ (un r : Int) = 2 ^ (e + 1074).toNat ∧ TZ r true 1 e := by
  have key : ∀ r : Nat, r < INF → (un r : Int) = 2 ^ (e + 1074).toNat → TZ r true 1 e := by
    intro r hr hu
    refine ⟨hr, fun _ K hK hEK => ?_, fun h => by cases h⟩
    rw [hu, Int.one_mul, ← Int.pow_add]
    exact congrArg (fun n : Nat => (2 : Int) ^ n) (by omega)
  by_cases hs : e < -1022
  · obtain ⟨q, hq⟩ := Int.eq_ofNat_of_zero_le (show 0 ≤ e + 1074 by omega)
    have hp : (2 : Nat) ^ q < 4503599627370496 := by
      have := Nat.pow_le_pow_right (show 0 < 2 by decide) (show q ≤ 51 by omega)
      have e2 : (2 : Nat) ^ 51 = 2251799813685248 := by decide
      omega
    have hu : (un (2 ^ q) : Int) = 2 ^ (e + 1074).toNat := by
      rw [hq, Int.toNat_natCast]
      unfold un
      rw [if_pos hp, Int.natCast_pow]; rfl
    have hr : 2 ^ q < INF := by unfold INF; omega
    exact ⟨2 ^ q, hr, hu, key _ hr hu⟩
  · obtain ⟨L, hL⟩ := Int.eq_ofNat_of_zero_le (show 0 ≤ e + 1022 by omega)
    have hr : L * 4503599627370496 + 4503599627370496 < INF := by unfold INF; omega
    have hu : (un (L * 4503599627370496 + 4503599627370496) : Int) = 2 ^ (e + 1074).toNat := by
      rw [un_pack (by decide) (Or.inl (by decide)), cast_pow2]
      have e2 : ((4503599627370496 : Nat) : Int) = 2 ^ 52 := by decide
      rw [e2, ← Int.pow_add]
      exact congrArg (fun n : Nat => (2 : Int) ^ n) (by omega)
    exact ⟨_, hr, hu, key _ hr hu⟩
theorem tz_pow_big {e : Int} (h : 1023 < e) : TZ 9218868437227405311 false 1 e := tz_big (by decide) (by
  have : nb 1 = 1 := by decide
  rw [this]; omega)
theorem tz_pow_small {e : Int} (h : e < -1074) : TZ 0 false 1 e := by
  refine ⟨by decide, fun h => (by cases h), fun _ K hK hEK => ?_⟩
  have e0 : (un (0 + 1) : Int) = 1 := by decide
  rw [un_zero, e0, Int.one_mul, Int.one_mul]
  refine ⟨by have := pow2_pos (e + K).toNat; simpa using this, fun _ => ?_⟩
  have h1 : (2 : Int) ^ ((e + K).toNat + 1) ≤ 2 ^ (K - 1074) := pow_le_pow (by decide) (by omega)
  rw [Int.pow_succ] at h1
  have := pow2_pos (e + K).toNat
  omega
theorem field_man (x y z : Value) (w : World) : (Instr.field 63 (.agg #[x, y, z]) 0).run Tryd.prog w = .ok (.agg #[x, y]) w := by kernel_rfl
theorem feq_self {b : Nat} (h : rg b ≤ INF) : (FloatKind.f64.format.order b b == some Ordering.eq) = true := by
  rw [feq_num h h]; exact decide_eq_true rfl
theorem top_max {N E : Int} (hE : -1074 ≤ E) (h0 : 0 ≤ N) (h : N * 2 ^ (E + 1074).toNat = (un (rg 9218868437227405311) : Int)) : dtop N E = 1024 := by
  have er : rg 9218868437227405311 = 9218868437227405311 := by decide
  obtain ⟨L, hL⟩ : ∃ L : Nat, L = 2045 := ⟨_, rfl⟩
  rw [er, un_max L hL] at h
  have hp := pow2_pos L
  have hq := pow2_pos (E + 1074).toNat
  have hN : 0 < N := by
    rcases Int.lt_or_eq_of_le h0 with h1 | h1
    · exact h1
    · rw [← h1, Int.zero_mul] at h
      omega
  have h1 := congrArg nb h
  rw [nb_shift _ hN, nb_shift _ (by decide), show nb 9007199254740991 = 53 from nb_eq (by decide) (by decide) (by decide)] at h1
  unfold dtop
  rw [if_neg (by omega)]
  omega

set_option maxRecDepth 100000 in
set_option maxHeartbeats 2000000 in
theorem fpow_big (e : Int) (h0 : 1023 < e) (h1 : e ≤ 1200) (w : World) (hT : Tab64 w) :
    Calls Tryd.prog 6 #[.int .i64 e] w fun e' w' => RetV w (.bool true) e' w' := by
  have hl1 : ¬ e < -1200 := by omega
  have hl2 : ¬ (1200 : Int) < e := by omega
  have HTZ := Lib.hid (tz_pow_big h0)
  have HLO : Hid (floW (false && decide ((1 : Int) ≠ 0)) 9218868437227405311 false (decide ((-1 : Int) < 0)) = 9218868437227405311) := Lib.hid (by decide)
  have HHI : Hid (floW (false && decide ((1 : Int) ≠ 0)) 9218868437227405311 false (decide ((1 : Int) < 0)) = 9218868437227405312) := Lib.hid (by decide)
  go_enter Tryd.func6, Tryd.ntmps6
  go_wp2_with fail
  refine (flive_yes w hT).mono ?_
  rintro e' w1 ⟨rfl, hb1⟩
  go_wp2_with fail
  refine (dof_num 1 w1 (by decide) (by decide) (hT.below hb1)).mono ?_
  intro e' w2 hr
  obtain ⟨a2, n2, c2, rfl, hN2, hb2⟩ := hr.odd ⟨0, by decide⟩
  have hbw2 := hb1.trans (hb2.mono hb1.size)
  have HM := Lib.hid (dmake_num false e hN2.num (by decide) (hT.below hbw2) (by omega) (by omega))
  clear hr hN2
  go_wp2_with (simp only [field_man])
  refine HM.out.mono ?_
  intro e' w3 hr
  obtain ⟨a, n, c, rfl, hN3, hb3⟩ := hr.odd ⟨0, by decide⟩
  have hbw3 := hbw2.trans (hb3.mono hbw2.size)
  clear hr HM
  obtain ⟨w4, hw4⟩ : ∃ w4, w3.alloc (.cells #[.bool false, .slice a n c, .int .i64 e] 63) = w4 := ⟨_, rfl⟩
  have hb4 : Below w3.heap.size w3 w4 := hw4 ▸ below_alloc w3 _
  have hc1 : w4.heap[w3.heap.size]? = some (.cells #[.bool false, .slice a n c, .int .i64 e] 63 (0, 0)) := hw4 ▸ heap_alloc_new w3 _
  have hn := hN3.num.below hb4
  have hbw4 := hbw3.trans (hb4.mono hbw3.size)
  replace hT := hT.below hbw4
  clear hN3 hb4 hbw3
  go_upto_region 4 with fail
  refine wp_region_slots (by kernel_rfl) [23, 24, 25, 26, 4, 5] (fun w' => (w'.heap[w3.heap.size]? = some (.cells #[.bool false, .slice a n c, .int .i64 e] 63 (0, 0))) ∧ (Num w' (.slice a n c) 1 1) ∧ (Tab64 w') ∧ (Below w4.heap.size w4 w')) (Said [Is (.agg #[.bool false, .slice a n c, .int .i64 e]), Is (.float .f64 9218868437227405311), Is (.agg #[.bool false, .slice a n c, .int .i64 e]), Is (.float .f64 9218868437227405312), Is (.float .f64 9218868437227405311), Is (.float .f64 9218868437227405312)]) (by kernel_rfl) (by kernel_rfl) (by kernel_rfl) (by kernel_rfl) (Said.keep ?keep) ⟨slot_kept hc1 (bdn (Below.refl _ _) 1), hn.below (bdn (Below.refl _ _) 1), Tab64.below hT (bdn (Below.refl _ _) 1), bdn (Below.refl _ _) 1⟩ (l := [0, 1, 2, 3, 4, 5]) (by kernel_rfl) ?step ?fin
  case keep =>
    refine List.forall_mem_cons.2 ⟨Is.keeps _, ?_⟩
    refine List.forall_mem_cons.2 ⟨Is.keeps _, ?_⟩
    refine List.forall_mem_cons.2 ⟨Is.keeps _, ?_⟩
    refine List.forall_mem_cons.2 ⟨Is.keeps _, ?_⟩
    refine List.forall_mem_cons.2 ⟨Is.keeps _, ?_⟩
    refine List.forall_mem_cons.2 ⟨Is.keeps _, ?_⟩
    exact fun _ h => nomatch h
  case step =>
    refine List.forall_mem_cons.2 ⟨?_, ?_⟩
    · refine SlotStep.plain rfl rfl rfl ?_
      intro tm ws hsame hS hg K hK
      have e3 : tm[3]? = some (.pointer (some ⟨w3.heap.size, 0, none⟩)) := hsame.2 3 rfl
      obtain ⟨⟨k0, k1, k2⟩, -⟩ := slot3 (hS.1)
      go_simp
      exact hK _ _ (Below.refl _ _) hS rfl
    refine List.forall_mem_cons.2 ⟨?_, ?_⟩
    · refine SlotStep.plain rfl rfl rfl ?_
      intro tm ws hsame hS hg K hK
      obtain ⟨v23, e23, rfl⟩ := hg 0 (by kernel_rfl) _ 23 rfl rfl
      go_simp
      refine (float_num false e (-1) hS.2.1 (by decide) (by omega) (by omega) hS.2.2.1).mono ?_
      rintro e' wm ⟨R, ex, rfl, htz', hb⟩
      obtain ⟨rfl, rfl⟩ := htz'.unique HTZ.out
      exact hK _ _ hb (⟨slot_kept (hS.1) (hb), (hS.2.1).below (hb), Tab64.below (hS.2.2.1) (hb), (hS.2.2.2).trans (Below.mono (hb) (hS.2.2.2).size)⟩) (congrArg (Value.float .f64) HLO.out)
    refine List.forall_mem_cons.2 ⟨?_, ?_⟩
    · refine SlotStep.plain rfl rfl rfl ?_
      intro tm ws hsame hS hg K hK
      have e3 : tm[3]? = some (.pointer (some ⟨w3.heap.size, 0, none⟩)) := hsame.2 3 rfl
      obtain ⟨⟨k0, k1, k2⟩, -⟩ := slot3 (hS.1)
      go_simp
      exact hK _ _ (Below.refl _ _) hS rfl
    refine List.forall_mem_cons.2 ⟨?_, ?_⟩
    · refine SlotStep.plain rfl rfl rfl ?_
      intro tm ws hsame hS hg K hK
      obtain ⟨v25, e25, rfl⟩ := hg 2 (by kernel_rfl) _ 25 rfl rfl
      go_simp
      refine (float_num false e 1 hS.2.1 (by decide) (by omega) (by omega) hS.2.2.1).mono ?_
      rintro e' wm ⟨R, ex, rfl, htz', hb⟩
      obtain ⟨rfl, rfl⟩ := htz'.unique HTZ.out
      exact hK _ _ hb (⟨slot_kept (hS.1) (hb), (hS.2.1).below (hb), Tab64.below (hS.2.2.1) (hb), (hS.2.2.2).trans (Below.mono (hb) (hS.2.2.2).size)⟩) (congrArg (Value.float .f64) HHI.out)
    refine List.forall_mem_cons.2 ⟨?_, ?_⟩
    · refine SlotStep.plain rfl rfl rfl ?_
      intro tm ws hsame hS hg K hK
      obtain ⟨v24, e24, rfl⟩ := hg 1 (by kernel_rfl) _ 24 rfl rfl
      go_simp
      exact hK _ _ (Below.refl _ _) hS rfl
    refine List.forall_mem_cons.2 ⟨?_, ?_⟩
    · refine SlotStep.plain rfl rfl rfl ?_
      intro tm ws hsame hS hg K hK
      obtain ⟨v26, e26, rfl⟩ := hg 3 (by kernel_rfl) _ 26 rfl rfl
      go_simp
      exact hK _ _ (Below.refl _ _) hS rfl
    exact fun _ h => nomatch h
  case fin =>
    intro tm w5 hsame hS hgot
    obtain ⟨u, hu, htm⟩ := hsame.form (by kernel_rfl)
    obtain ⟨v4, e4, rfl⟩ := hgot 4 _ 4 rfl rfl
    obtain ⟨v5, e5, rfl⟩ := hgot 5 _ 5 rfl rfl
    have h4 := hu _ _ e4
    have h5 := hu _ _ e5
    have hc5 := hS.1
    have hn5 := hS.2.1
    have hT5 := hS.2.2.1
    have hb5 := hS.2.2.2
    have hbw5 := hbw4.trans (hb5.mono hbw4.size)
    clear hgot hu hsame e4 e5 hS hb5 hbw4 hn hT hc1
    rw [htm]
    clear htm tm
    simp only [List.foldl_cons, List.foldl_nil, List.setIfInBounds_toArray, List.set_cons_zero, List.set_cons_succ, h4, h5]
    clear h4 h5
    have HD := Lib.hid (fdyad_num 9218868437227405311 w5 (by decide) (by decide) hT5)
    go_wp2_with fail
    refine HD.out.mono ?_
    rintro e' w6 ⟨p, a6, n6, c6, N, E, rfl, hN6, hE0, hE1, hv, hN0, hN1, hb6⟩
    have hbw6 := hbw5.trans (hb6.mono hbw5.size)
    obtain ⟨w7, hw7⟩ : ∃ w7, w6.alloc (.cells #[.bool p, .slice a6 n6 c6, .int .i64 E] 63) = w7 := ⟨_, rfl⟩
    have hb7 : Below w6.heap.size w6 w7 := hw7 ▸ below_alloc w6 _
    have hc7 : w7.heap[w6.heap.size]? = some (.cells #[.bool p, .slice a6 n6 c6, .int .i64 E] 63 (0, 0)) := hw7 ▸ heap_alloc_new w6 _
    have hbw7 := hbw6.trans (hb7.mono hbw6.size)
    obtain ⟨⟨k0, k1, k2⟩, -⟩ := slot3 hc7
    have htop := dtop_num p E (hN6.num.below hb7) (by decide) (by omega) (by omega)
    rw [top_max hE0 hN6.num.nonneg hv] at htop
    have HTP := Lib.hid htop
    have HF := fun (w' : World) => Lib.hid (finite_num 9218868437227405312 w' (by decide))
    rw [show decide (rg 9218868437227405312 < INF) = false by decide] at HF
    clear htop hv hN0 hN1 hN6 hc7
    go_wp2_with fail
    refine HTP.out.mono ?_
    rintro e' w8 ⟨rfl, hb8⟩
    go_wp2_with fail
    refine (HF w8).out.mono ?_
    rintro e' w' ⟨rfl, rfl⟩
    go_wp2_with fail
    go_ret
    exact ⟨rfl, hbw7.trans (hb8.mono hbw7.size)⟩

set_option maxRecDepth 100000 in
set_option maxHeartbeats 2000000 in
theorem fpow_small (e : Int) (h0 : e < -1074) (h1 : -1200 ≤ e) (w : World) (hT : Tab64 w) :
    Calls Tryd.prog 6 #[.int .i64 e] w fun e' w' => RetV w (.bool true) e' w' := by
  have hl1 : ¬ e < -1200 := by omega
  have hl2 : ¬ (1200 : Int) < e := by omega
  have HTZ := Lib.hid (tz_pow_small h0)
  have hh : ¬ (1023 : Int) < e := by omega
  have q0 : (FloatKind.f64.format.order 0 0 == some Ordering.eq) = true := feq_self (by decide)
  have q1 : (FloatKind.f64.format.order 1 0 == some Ordering.gt) = true := by rw [fgt_num (by decide) (by decide)]; decide
  have q2 : (FloatKind.f64.format.order 1 1 == some Ordering.eq) = true := feq_self (by decide)
  have HLO : Hid (floW (false && decide ((1 : Int) ≠ 0)) 0 false (decide ((-1 : Int) < 0)) = 0) := Lib.hid (by decide)
  have HHI : Hid (floW (false && decide ((1 : Int) ≠ 0)) 0 false (decide ((1 : Int) < 0)) = 1) := Lib.hid (by decide)
  go_enter Tryd.func6, Tryd.ntmps6
  go_wp2_with fail
  refine (flive_yes w hT).mono ?_
  rintro e' w1 ⟨rfl, hb1⟩
  go_wp2_with fail
  refine (dof_num 1 w1 (by decide) (by decide) (hT.below hb1)).mono ?_
  intro e' w2 hr
  obtain ⟨a2, n2, c2, rfl, hN2, hb2⟩ := hr.odd ⟨0, by decide⟩
  have hbw2 := hb1.trans (hb2.mono hb1.size)
  have HM := Lib.hid (dmake_num false e hN2.num (by decide) (hT.below hbw2) (by omega) (by omega))
  clear hr hN2
  go_wp2_with (simp only [field_man])
  refine HM.out.mono ?_
  intro e' w3 hr
  obtain ⟨a, n, c, rfl, hN3, hb3⟩ := hr.odd ⟨0, by decide⟩
  have hbw3 := hbw2.trans (hb3.mono hbw2.size)
  clear hr HM
  obtain ⟨w4, hw4⟩ : ∃ w4, w3.alloc (.cells #[.bool false, .slice a n c, .int .i64 e] 63) = w4 := ⟨_, rfl⟩
  have hb4 : Below w3.heap.size w3 w4 := hw4 ▸ below_alloc w3 _
  have hc1 : w4.heap[w3.heap.size]? = some (.cells #[.bool false, .slice a n c, .int .i64 e] 63 (0, 0)) := hw4 ▸ heap_alloc_new w3 _
  have hn := hN3.num.below hb4
  have hbw4 := hbw3.trans (hb4.mono hbw3.size)
  replace hT := hT.below hbw4
  clear hN3 hb4 hbw3
  go_upto_region 4 with fail
  refine wp_region_slots (by kernel_rfl) [23, 24, 25, 26, 4, 5] (fun w' => (w'.heap[w3.heap.size]? = some (.cells #[.bool false, .slice a n c, .int .i64 e] 63 (0, 0))) ∧ (Num w' (.slice a n c) 1 1) ∧ (Tab64 w') ∧ (Below w4.heap.size w4 w')) (Said [Is (.agg #[.bool false, .slice a n c, .int .i64 e]), Is (.float .f64 0), Is (.agg #[.bool false, .slice a n c, .int .i64 e]), Is (.float .f64 1), Is (.float .f64 0), Is (.float .f64 1)]) (by kernel_rfl) (by kernel_rfl) (by kernel_rfl) (by kernel_rfl) (Said.keep ?keep) ⟨slot_kept hc1 (bdn (Below.refl _ _) 1), hn.below (bdn (Below.refl _ _) 1), Tab64.below hT (bdn (Below.refl _ _) 1), bdn (Below.refl _ _) 1⟩ (l := [0, 1, 2, 3, 4, 5]) (by kernel_rfl) ?step ?fin
  case keep =>
    refine List.forall_mem_cons.2 ⟨Is.keeps _, ?_⟩
    refine List.forall_mem_cons.2 ⟨Is.keeps _, ?_⟩
    refine List.forall_mem_cons.2 ⟨Is.keeps _, ?_⟩
    refine List.forall_mem_cons.2 ⟨Is.keeps _, ?_⟩
    refine List.forall_mem_cons.2 ⟨Is.keeps _, ?_⟩
    refine List.forall_mem_cons.2 ⟨Is.keeps _, ?_⟩
    exact fun _ h => nomatch h
  case step =>
    refine List.forall_mem_cons.2 ⟨?_, ?_⟩
    · refine SlotStep.plain rfl rfl rfl ?_
      intro tm ws hsame hS hg K hK
      have e3 : tm[3]? = some (.pointer (some ⟨w3.heap.size, 0, none⟩)) := hsame.2 3 rfl
      obtain ⟨⟨k0, k1, k2⟩, -⟩ := slot3 (hS.1)
      go_simp
      exact hK _ _ (Below.refl _ _) hS rfl
    refine List.forall_mem_cons.2 ⟨?_, ?_⟩
    · refine SlotStep.plain rfl rfl rfl ?_
      intro tm ws hsame hS hg K hK
      obtain ⟨v23, e23, rfl⟩ := hg 0 (by kernel_rfl) _ 23 rfl rfl
      go_simp
      refine (float_num false e (-1) hS.2.1 (by decide) (by omega) (by omega) hS.2.2.1).mono ?_
      rintro e' wm ⟨R, ex, rfl, htz', hb⟩
      obtain ⟨rfl, rfl⟩ := htz'.unique HTZ.out
      exact hK _ _ hb (⟨slot_kept (hS.1) (hb), (hS.2.1).below (hb), Tab64.below (hS.2.2.1) (hb), (hS.2.2.2).trans (Below.mono (hb) (hS.2.2.2).size)⟩) (congrArg (Value.float .f64) HLO.out)
    refine List.forall_mem_cons.2 ⟨?_, ?_⟩
    · refine SlotStep.plain rfl rfl rfl ?_
      intro tm ws hsame hS hg K hK
      have e3 : tm[3]? = some (.pointer (some ⟨w3.heap.size, 0, none⟩)) := hsame.2 3 rfl
      obtain ⟨⟨k0, k1, k2⟩, -⟩ := slot3 (hS.1)
      go_simp
      exact hK _ _ (Below.refl _ _) hS rfl
    refine List.forall_mem_cons.2 ⟨?_, ?_⟩
    · refine SlotStep.plain rfl rfl rfl ?_
      intro tm ws hsame hS hg K hK
      obtain ⟨v25, e25, rfl⟩ := hg 2 (by kernel_rfl) _ 25 rfl rfl
      go_simp
      refine (float_num false e 1 hS.2.1 (by decide) (by omega) (by omega) hS.2.2.1).mono ?_
      rintro e' wm ⟨R, ex, rfl, htz', hb⟩
      obtain ⟨rfl, rfl⟩ := htz'.unique HTZ.out
      exact hK _ _ hb (⟨slot_kept (hS.1) (hb), (hS.2.1).below (hb), Tab64.below (hS.2.2.1) (hb), (hS.2.2.2).trans (Below.mono (hb) (hS.2.2.2).size)⟩) (congrArg (Value.float .f64) HHI.out)
    refine List.forall_mem_cons.2 ⟨?_, ?_⟩
    · refine SlotStep.plain rfl rfl rfl ?_
      intro tm ws hsame hS hg K hK
      obtain ⟨v24, e24, rfl⟩ := hg 1 (by kernel_rfl) _ 24 rfl rfl
      go_simp
      exact hK _ _ (Below.refl _ _) hS rfl
    refine List.forall_mem_cons.2 ⟨?_, ?_⟩
    · refine SlotStep.plain rfl rfl rfl ?_
      intro tm ws hsame hS hg K hK
      obtain ⟨v26, e26, rfl⟩ := hg 3 (by kernel_rfl) _ 26 rfl rfl
      go_simp
      exact hK _ _ (Below.refl _ _) hS rfl
    exact fun _ h => nomatch h
  case fin =>
    intro tm w5 hsame hS hgot
    obtain ⟨u, hu, htm⟩ := hsame.form (by kernel_rfl)
    obtain ⟨v4, e4, rfl⟩ := hgot 4 _ 4 rfl rfl
    obtain ⟨v5, e5, rfl⟩ := hgot 5 _ 5 rfl rfl
    have h4 := hu _ _ e4
    have h5 := hu _ _ e5
    have hc5 := hS.1
    have hn5 := hS.2.1
    have hT5 := hS.2.2.1
    have hb5 := hS.2.2.2
    have hbw5 := hbw4.trans (hb5.mono hbw4.size)
    clear hgot hu hsame e4 e5 hS hb5 hbw4 hn hT hc1
    rw [htm]
    clear htm tm
    simp only [List.foldl_cons, List.foldl_nil, List.setIfInBounds_toArray, List.set_cons_zero, List.set_cons_succ, h4, h5]
    clear h4 h5
    have HD := Lib.hid (fdyad_num 0 w5 (by decide) (by decide) hT5)
    go_wp2_with fail
    refine HD.out.mono ?_
    rintro e' w6 ⟨p, a6, n6, c6, N, E, rfl, hN6, hE0, hE1, hv, hN0, hN1, hb6⟩
    have hbw6 := hbw5.trans (hb6.mono hbw5.size)
    obtain ⟨w7, hw7⟩ : ∃ w7, w6.alloc (.cells #[.bool p, .slice a6 n6 c6, .int .i64 E] 63) = w7 := ⟨_, rfl⟩
    have hb7 : Below w6.heap.size w6 w7 := hw7 ▸ below_alloc w6 _
    have hc7 : w7.heap[w6.heap.size]? = some (.cells #[.bool p, .slice a6 n6 c6, .int .i64 E] 63 (0, 0)) := hw7 ▸ heap_alloc_new w6 _
    have hbw7 := hbw6.trans (hb7.mono hbw6.size)
    have HS := Lib.hid (step_num 0 1 w7 (by decide) (by decide))
    rw [show stepW 0 (decide ((1 : Int) < 0)) = 1 by decide] at HS
    clear hv hN0 hN1 hN6 hc7
    go_wp2_with fail
    refine HS.out.mono ?_
    rintro e' w' ⟨rfl, rfl⟩
    go_wp2_with fail
    go_ret
    exact ⟨rfl, hbw7⟩

set_option maxRecDepth 100000 in
set_option maxHeartbeats 2000000 in
theorem fpow_mid (e : Int) (h0 : -1074 ≤ e) (h1 : e ≤ 1023) (w : World) (hT : Tab64 w) :
    Calls Tryd.prog 6 #[.int .i64 e] w fun e' w' => RetV w (.bool true) e' w' := by
  have hl1 : ¬ e < -1200 := by omega
  have hl2 : ¬ (1200 : Int) < e := by omega
  obtain ⟨r, hr, hur, htz⟩ := un_rung e h0 h1
  have HTZ := Lib.hid htz
  have HUR := Lib.hid hur
  have hrp := rg_pos (r := r) (by unfold INF at hr; omega)
  have hrg : rg r < INF := by rw [hrp.1]; exact hr
  have HRP := Lib.hid hrp
  have hh : ¬ (1023 : Int) < e := by omega
  have hh2 : ¬ e < -1074 := by omega
  have q0 := feq_self (b := r) (Nat.le_of_lt hrg)
  clear htz hur hrp
  have HLO : Hid (floW (false && decide ((1 : Int) ≠ 0)) r true (decide ((-1 : Int) < 0)) = r) := Lib.hid rfl
  have HHI : Hid (floW (false && decide ((1 : Int) ≠ 0)) r true (decide ((1 : Int) < 0)) = r) := Lib.hid rfl
  go_enter Tryd.func6, Tryd.ntmps6
  go_wp2_with fail
  refine (flive_yes w hT).mono ?_
  rintro e' w1 ⟨rfl, hb1⟩
  go_wp2_with fail
  refine (dof_num 1 w1 (by decide) (by decide) (hT.below hb1)).mono ?_
  intro e' w2 hr
  obtain ⟨a2, n2, c2, rfl, hN2, hb2⟩ := hr.odd ⟨0, by decide⟩
  have hbw2 := hb1.trans (hb2.mono hb1.size)
  have HM := Lib.hid (dmake_num false e hN2.num (by decide) (hT.below hbw2) (by omega) (by omega))
  clear hr hN2
  go_wp2_with (simp only [field_man])
  refine HM.out.mono ?_
  intro e' w3 hr
  obtain ⟨a, n, c, rfl, hN3, hb3⟩ := hr.odd ⟨0, by decide⟩
  have hbw3 := hbw2.trans (hb3.mono hbw2.size)
  clear hr HM
  obtain ⟨w4, hw4⟩ : ∃ w4, w3.alloc (.cells #[.bool false, .slice a n c, .int .i64 e] 63) = w4 := ⟨_, rfl⟩
  have hb4 : Below w3.heap.size w3 w4 := hw4 ▸ below_alloc w3 _
  have hc1 : w4.heap[w3.heap.size]? = some (.cells #[.bool false, .slice a n c, .int .i64 e] 63 (0, 0)) := hw4 ▸ heap_alloc_new w3 _
  have hn := hN3.num.below hb4
  have hbw4 := hbw3.trans (hb4.mono hbw3.size)
  replace hT := hT.below hbw4
  clear hN3 hb4 hbw3
  go_upto_region 4 with fail
  refine wp_region_slots (by kernel_rfl) [23, 24, 25, 26, 4, 5] (fun w' => (w'.heap[w3.heap.size]? = some (.cells #[.bool false, .slice a n c, .int .i64 e] 63 (0, 0))) ∧ (Num w' (.slice a n c) 1 1) ∧ (Tab64 w') ∧ (Below w4.heap.size w4 w')) (Said [Is (.agg #[.bool false, .slice a n c, .int .i64 e]), Is (.float .f64 r), Is (.agg #[.bool false, .slice a n c, .int .i64 e]), Is (.float .f64 r), Is (.float .f64 r), Is (.float .f64 r)]) (by kernel_rfl) (by kernel_rfl) (by kernel_rfl) (by kernel_rfl) (Said.keep ?keep) ⟨slot_kept hc1 (bdn (Below.refl _ _) 1), hn.below (bdn (Below.refl _ _) 1), Tab64.below hT (bdn (Below.refl _ _) 1), bdn (Below.refl _ _) 1⟩ (l := [0, 1, 2, 3, 4, 5]) (by kernel_rfl) ?step ?fin
  case keep =>
    refine List.forall_mem_cons.2 ⟨Is.keeps _, ?_⟩
    refine List.forall_mem_cons.2 ⟨Is.keeps _, ?_⟩
    refine List.forall_mem_cons.2 ⟨Is.keeps _, ?_⟩
    refine List.forall_mem_cons.2 ⟨Is.keeps _, ?_⟩
    refine List.forall_mem_cons.2 ⟨Is.keeps _, ?_⟩
    refine List.forall_mem_cons.2 ⟨Is.keeps _, ?_⟩
    exact fun _ h => nomatch h
  case step =>
    refine List.forall_mem_cons.2 ⟨?_, ?_⟩
    · refine SlotStep.plain rfl rfl rfl ?_
      intro tm ws hsame hS hg K hK
      have e3 : tm[3]? = some (.pointer (some ⟨w3.heap.size, 0, none⟩)) := hsame.2 3 rfl
      obtain ⟨⟨k0, k1, k2⟩, -⟩ := slot3 (hS.1)
      go_simp
      exact hK _ _ (Below.refl _ _) hS rfl
    refine List.forall_mem_cons.2 ⟨?_, ?_⟩
    · refine SlotStep.plain rfl rfl rfl ?_
      intro tm ws hsame hS hg K hK
      obtain ⟨v23, e23, rfl⟩ := hg 0 (by kernel_rfl) _ 23 rfl rfl
      go_simp
      refine (float_num false e (-1) hS.2.1 (by decide) (by omega) (by omega) hS.2.2.1).mono ?_
      rintro e' wm ⟨R, ex, rfl, htz', hb⟩
      obtain ⟨rfl, rfl⟩ := htz'.unique HTZ.out
      exact hK _ _ hb (⟨slot_kept (hS.1) (hb), (hS.2.1).below (hb), Tab64.below (hS.2.2.1) (hb), (hS.2.2.2).trans (Below.mono (hb) (hS.2.2.2).size)⟩) (congrArg (Value.float .f64) HLO.out)
    refine List.forall_mem_cons.2 ⟨?_, ?_⟩
    · refine SlotStep.plain rfl rfl rfl ?_
      intro tm ws hsame hS hg K hK
      have e3 : tm[3]? = some (.pointer (some ⟨w3.heap.size, 0, none⟩)) := hsame.2 3 rfl
      obtain ⟨⟨k0, k1, k2⟩, -⟩ := slot3 (hS.1)
      go_simp
      exact hK _ _ (Below.refl _ _) hS rfl
    refine List.forall_mem_cons.2 ⟨?_, ?_⟩
    · refine SlotStep.plain rfl rfl rfl ?_
      intro tm ws hsame hS hg K hK
      obtain ⟨v25, e25, rfl⟩ := hg 2 (by kernel_rfl) _ 25 rfl rfl
      go_simp
      refine (float_num false e 1 hS.2.1 (by decide) (by omega) (by omega) hS.2.2.1).mono ?_
      rintro e' wm ⟨R, ex, rfl, htz', hb⟩
      obtain ⟨rfl, rfl⟩ := htz'.unique HTZ.out
      exact hK _ _ hb (⟨slot_kept (hS.1) (hb), (hS.2.1).below (hb), Tab64.below (hS.2.2.1) (hb), (hS.2.2.2).trans (Below.mono (hb) (hS.2.2.2).size)⟩) (congrArg (Value.float .f64) HHI.out)
    refine List.forall_mem_cons.2 ⟨?_, ?_⟩
    · refine SlotStep.plain rfl rfl rfl ?_
      intro tm ws hsame hS hg K hK
      obtain ⟨v24, e24, rfl⟩ := hg 1 (by kernel_rfl) _ 24 rfl rfl
      go_simp
      exact hK _ _ (Below.refl _ _) hS rfl
    refine List.forall_mem_cons.2 ⟨?_, ?_⟩
    · refine SlotStep.plain rfl rfl rfl ?_
      intro tm ws hsame hS hg K hK
      obtain ⟨v26, e26, rfl⟩ := hg 3 (by kernel_rfl) _ 26 rfl rfl
      go_simp
      exact hK _ _ (Below.refl _ _) hS rfl
    exact fun _ h => nomatch h
  case fin =>
    intro tm w5 hsame hS hgot
    obtain ⟨u, hu, htm⟩ := hsame.form (by kernel_rfl)
    obtain ⟨v4, e4, rfl⟩ := hgot 4 _ 4 rfl rfl
    obtain ⟨v5, e5, rfl⟩ := hgot 5 _ 5 rfl rfl
    have h4 := hu _ _ e4
    have h5 := hu _ _ e5
    have hc5 := hS.1
    have hn5 := hS.2.1
    have hT5 := hS.2.2.1
    have hb5 := hS.2.2.2
    have hbw5 := hbw4.trans (hb5.mono hbw4.size)
    clear hgot hu hsame e4 e5 hS hb5 hbw4 hn hT hc1
    rw [htm]
    clear htm tm
    simp only [List.foldl_cons, List.foldl_nil, List.setIfInBounds_toArray, List.set_cons_zero, List.set_cons_succ, h4, h5]
    clear h4 h5
    have HD := Lib.hid (fdyad_num r w5 (by unfold INF at hr; omega) hrg hT5)
    go_wp2_with fail
    refine HD.out.mono ?_
    rintro e' w6 ⟨p, a6, n6, c6, N, E, rfl, hN6, hE0, hE1, hv, hN0, hN1, hb6⟩
    have hbw6 := hbw5.trans (hb6.mono hbw5.size)
    obtain ⟨w7, hw7⟩ : ∃ w7, w6.alloc (.cells #[.bool p, .slice a6 n6 c6, .int .i64 E] 63) = w7 := ⟨_, rfl⟩
    have hb7 : Below w6.heap.size w6 w7 := hw7 ▸ below_alloc w6 _
    have hc7 : w7.heap[w6.heap.size]? = some (.cells #[.bool p, .slice a6 n6 c6, .int .i64 E] 63 (0, 0)) := hw7 ▸ heap_alloc_new w6 _
    have hbw7 := hbw6.trans (hb7.mono hbw6.size)
    have hNE : N = 1 ∧ E = e ∧ p = false := by
      rw [HRP.out.1, HUR.out] at hv
      have hNn : N ≠ 0 := by
        intro h
        rw [h, Int.zero_mul] at hv
        have := pow2_pos (e + 1074).toNat
        omega
      obtain ⟨h3, h4⟩ := hN0 hNn
      obtain ⟨h5, h6⟩ := odd_pow_unique (N' := 1) (t := (e + 1074).toNat) (by rw [hv, Int.one_mul]) h4 ⟨0, by decide⟩
      exact ⟨h6, by omega, by rw [h3]; exact HRP.out.2⟩
    obtain ⟨rfl, rfl, rfl⟩ := hNE
    obtain ⟨⟨k0, k1, k2⟩, -⟩ := slot3 hc7
    have hc8 := slot_kept (slot_kept hc5 hb6) hb7
    obtain ⟨⟨l0, l1, l2⟩, -⟩ := slot3 hc8
    have HP2 : ∀ i : Nat, (i : Int) = E - min E E ∨ (i : Int) = E - min E E → 1 + i / 64 + 1 ≤ 2 := by
      intro i hi
      have hi0 : i = 0 := by omega
      subst hi0
      decide
    have hcm := dcmp_num (P := 2) false false E E 1200 (hN6.num.below hb7) ((hn5.below hb6).below hb7) (by decide) (by omega) (by omega) (by omega) (by omega) HP2 (by decide) (by omega) (by omega)
    rw [cmpI_eq rfl] at hcm
    have HCM := Lib.hid hcm
    clear hcm hv hN0 hN1 hN6 hc7 hc8 hn5 hc5
    go_wp2_with fail
    refine HCM.out.mono ?_
    rintro e' w8 ⟨rfl, hb8⟩
    go_wp2_with fail
    go_ret
    exact ⟨rfl, hbw7.trans (hb8.mono hbw7.size)⟩

set_option maxRecDepth 100000 in
theorem fpow_out (e : Int) (h : e < -1200 ∨ 1200 < e) (w : World) (hT : Tab64 w) :
    Calls Tryd.prog 6 #[.int .i64 e] w fun e' w' => RetV w (.bool true) e' w' := by
  by_cases h1 : e < -1200
  · clear h
    go_enter Tryd.func6, Tryd.ntmps6
    go_wp2_with fail
    refine (flive_yes w hT).mono ?_
    rintro e' w1 ⟨rfl, hb1⟩
    go_wp2_with fail
    go_ret
    exact ⟨rfl, hb1⟩
  · have h2 : 1200 < e := h.resolve_left h1
    clear h
    go_enter Tryd.func6, Tryd.ntmps6
    go_wp2_with fail
    refine (flive_yes w hT).mono ?_
    rintro e' w1 ⟨rfl, hb1⟩
    go_wp2_with fail
    go_ret
    exact ⟨rfl, hb1⟩
end Go.Proofs.YtfanhllcoaondaaDoor

namespace Go.Proofs.YtfanhllcoaondaaDoor
open Go.RowKit

theorem oper_append_nil_words {P : Program} (w : World) {ops : Array Oper} {o : Oper} {a : Act} {K : Act → World → Prop} {Q : Exit → Act → World → Prop} (hgd : o.guard = none) (s x : Operand) (t : TypeId)
    (ho : o.op = .call { callee := .builtin .append, args := #[s, x], argTypes := #[t, t] }) (ht : P.underlying t = some (.slice 56)) (hi : (P.info? 56).map (fun i => (i.zero, i.size, i.bytes)) = some (some (.int .u64 0), 1, 8))
    (hs : a.eval s = .slice none 0 0) (ao : Option Addr) (n c : Nat) (l : List Int) (hx : a.eval x = .slice ao n c) (hn : n = l.length) (hr : Rd w ao l) (hM : n ≤ MaxW)
    (hK : ∀ v' w', Ow w.heap.size w' v' l → Below w.heap.size w w' → K (a.put o.dst v') w') : Oper.wp P o a w K Q := by
  by_cases hl : l = []
  · subst hl
    obtain rfl : n = 0 := hn
    obtain ⟨i, h2, h3, h4, h5⟩ := info_parts hi
    have hrun : (Builtin.append_ #[t, t] o.type #[.slice none 0 0, .slice ao 0 c]).run P w = .ok (.slice none 0 0) w := by
      cases ao <;> simp [Builtin.append_, run_underlying ht, sizeOf, typeInfo, h2, Builtin.lenOf, Builtin.firstCells, loadCells, loadCellsFrom]
    unfold Oper.wp execOp
    simp only [ho, resolve, invoke, builtin, Sem.run_bind, Sem.run_pure, Result.andThen_ok, List.map_toArray, List.map_cons, List.map_nil, hs, hx, hrun]
    exact hK _ _ (Ow.nil _ _) (Below.refl _ _)
  · obtain ⟨b, off, rfl, hat⟩ := hr.cases hl
    have h := step_append_words (ops := ops) (E := True) (K := K) (Q := Q) w hgd s x t ho ht hi w.heap.size (.slice none 0 0) [] hs (Ow.nil _ _) ⟨b, off, none⟩ n c l hx hn.symm (fun j hj => by rw [addr_add_none]; exact hat j hj) (by simpa using hM) (Nat.le_refl _) (fun v' w' h1 h2 => hK v' w' (by simpa using h1) h2)
    rwa [if_pos (by unfold Region.wanted; rw [hgd])] at h

set_option maxRecDepth 100000 in
set_option maxHeartbeats 1200000 in
theorem light3_num {w : World} (p : Bool) (a : Option Addr) (n c : Nat) (E : Int) (t : TypeId) (hn : n ≤ 9223372036854775807) :
    Calls Tryd.prog 38 #[.slice (some ⟨w.heap.size, 0, none⟩) 1 1] (w.alloc (.cells #[.bool p, .slice a n c, .int .i64 E] t)) fun e w' => RetV (w.alloc (.cells #[.bool p, .slice a n c, .int .i64 E] t)) (.bool (decide (n ≤ 40) && !(decide (E < -3000)) && !(decide (3000 < E)))) e w' := by
  obtain ⟨w1, hw1⟩ : ∃ w1, w.alloc (.cells #[.bool p, .slice a n c, .int .i64 E] t) = w1 := ⟨_, rfl⟩
  have hc1 : w1.heap[w.heap.size]? = some (.cells #[.bool p, .slice a n c, .int .i64 E] t (0, 0)) := hw1 ▸ heap_alloc_new w _
  rw [hw1]
  obtain ⟨⟨k0, k1, k2⟩, -⟩ := slot3 hc1
  have HL := Lib.hid (light_one_at a n c 22 w1 w1.heap.size rfl hn)
  have hb2 := below_alloc w1 (.cells #[Value.slice a n c] 22)
  obtain ⟨q, hq⟩ : ∃ q, decide (n ≤ 40) = q := ⟨_, rfl⟩
  rw [hq] at HL
  rw [hq]
  obtain ⟨w2, hw2⟩ : ∃ w2, w1.alloc (.cells #[Value.slice a n c] 22) = w2 := ⟨_, rfl⟩
  rw [hw2] at HL hb2
  have hc2 := slot_kept hc1 hb2
  obtain ⟨⟨l0, l1, l2⟩, -⟩ := slot3 hc2
  clear hq hw1 hc1 hc2
  cases q with
  | false =>
    go_enter Tryd.func38, Tryd.ntmps38
    go_wp2_with fail
    refine wp_loop_rounds 1 ?_
    rw [rounds_succ]
    go_wp2_with fail
    refine HL.out.mono ?_
    rintro e w' ⟨rfl, rfl⟩
    go_wp2_with fail
    go_ret
    exact ⟨rfl, hb2⟩
  | true =>
    by_cases h1 : E < -3000
    · have hv : (true && !(decide (E < -3000)) && !(decide (3000 < E))) = false := by rw [decide_eq_true h1]; rfl
      rw [hv]
      clear hv
      go_enter Tryd.func38, Tryd.ntmps38
      go_wp2_with fail
      refine wp_loop_rounds 1 ?_
      rw [rounds_succ]
      go_wp2_with fail
      refine HL.out.mono ?_
      rintro e w' ⟨rfl, rfl⟩
      go_wp2_with fail
      go_ret
      exact ⟨rfl, hb2⟩
    · by_cases h2 : 3000 < E
      · have hv : (true && !(decide (E < -3000)) && !(decide (3000 < E))) = false := by rw [decide_eq_true h2]; simp
        rw [hv]
        clear hv
        go_enter Tryd.func38, Tryd.ntmps38
        go_wp2_with fail
        refine wp_loop_rounds 1 ?_
        rw [rounds_succ]
        go_wp2_with fail
        refine HL.out.mono ?_
        rintro e w' ⟨rfl, rfl⟩
        go_wp2_with fail
        go_ret
        exact ⟨rfl, hb2⟩
      · have hv : (true && !(decide (E < -3000)) && !(decide (3000 < E))) = true := by rw [decide_eq_false h1, decide_eq_false h2]; rfl
        rw [hv]
        clear hv
        go_enter Tryd.func38, Tryd.ntmps38
        go_wp2_with fail
        refine wp_loop_rounds 2 ?_
        rw [rounds_succ]
        go_wp2_with fail
        refine HL.out.mono ?_
        rintro e w' ⟨rfl, rfl⟩
        go_wp2_with fail
        rw [rounds_succ]
        go_wp2_with fail
        go_ret
        exact ⟨rfl, hb2⟩
/-- Words in a row of the call's own. -/
def IsOw (l : List Int) (v : Value) (w : World) : Prop := ∃ a n c, v = .slice a n c ∧ ∃ base, Ow base w (.slice a n c) l
def IsOwB (p : Bool) (l : List Int) (v : Value) (w : World) : Prop := ∃ a n c, v = .agg #[.bool p, .slice a n c] ∧ ∃ base, Ow base w (.slice a n c) l
def IsOwC (p : Bool) (E : Int) (l : List Int) (v : Value) (w : World) : Prop := ∃ a n c, v = .agg #[.bool p, .slice a n c, .int .i64 E] ∧ ∃ base, Ow base w (.slice a n c) l
theorem IsOw.keeps (l : List Int) : Keeps (IsOw l) := fun _ _ _ hb ⟨a, n, c, h1, base, h2⟩ => ⟨a, n, c, h1, base, h2.below hb⟩
theorem IsOwB.keeps (p : Bool) (l : List Int) : Keeps (IsOwB p l) := fun _ _ _ hb ⟨a, n, c, h1, base, h2⟩ => ⟨a, n, c, h1, base, h2.below hb⟩
theorem IsOwC.keeps (p : Bool) (E : Int) (l : List Int) : Keeps (IsOwC p E l) := fun _ _ _ hb ⟨a, n, c, h1, base, h2⟩ => ⟨a, n, c, h1, base, h2.below hb⟩
theorem Num.var3 {w w' : World} {a : Option Addr} {n c : Nat} {N : Int} {m g lo hi : Nat} (h : Num w (.slice a n c) N m) {p : Bool} {a1 : Option Addr} {n1 c1 : Nat} {E : Int} {t : TypeId} (hv : w.heap[g]? = some (.cells #[.bool p, .slice a1 n1 c1, .int .i64 E] t (0, 0))) (ho : Only g lo hi w w') : Num w' (.slice a n c) N m := by
  obtain ⟨l, ⟨a', c', he, h1, h2, h3, h4⟩, h5, h6⟩ := h
  simp only [Value.slice.injEq] at he
  obtain ⟨rfl, rfl, rfl⟩ := he
  refine ⟨l, ⟨a, c, rfl, h1, h2, ?_, h4⟩, h5, h6⟩
  rcases h3 with h3 | ⟨b, o, rfl, hat⟩
  · exact Or.inl h3
  · by_cases hl : l = []
    · exact Or.inl hl
    · refine Or.inr ⟨b, o, rfl, ho.at' hat ?_⟩
      rintro rfl
      have hat0 := hat 0 (List.length_pos_iff.2 hl)
      rw [cell_of_row w b _ _ t _ hv] at hat0
      match o, hat0 with
      | 0, hat0 => simp at hat0
      | 1, hat0 => simp at hat0
      | 2, hat0 => simp at hat0
      | o + 3, hat0 => simp at hat0
def RetNO (w : World) (p : Bool) (N E : Int) (m : Nat) (e : Ending) (w' : World) : Prop := ∃ a n c, e = .returned (.agg #[.bool p, .slice a n c, .int .i64 E]) ∧ Num w' (.slice a n c) N m ∧ Below w.heap.size w w'
set_option maxRecDepth 100000 in
set_option maxHeartbeats 1200000 in
theorem numof_num {w : World} (p : Bool) (a : Option Addr) (n c : Nat) (l : List Int) (E : Int) (hn : n = l.length) (h : Rd w a l) (hl : Lim B64 l) (hM : n ≤ 40) :
    Calls Tryd.prog 40 #[.agg #[.bool p, .slice a n c, .int .i64 E]] w fun e w' => RetNO w p (vb B64 l) E 40 e w' := by
  have HN := Lib.hid hn
  have hMx : n ≤ MaxW := by unfold MaxW; omega
  obtain ⟨N, hN⟩ : ∃ N, vb B64 l = N := ⟨_, rfl⟩
  rw [hN]
  have HV := Lib.hid hN
  obtain ⟨w1, hw1⟩ : ∃ w1, w.alloc (.cells #[.bool p, .slice a n c, .int .i64 E] 59) = w1 := ⟨_, rfl⟩
  obtain ⟨w2, hw2⟩ : ∃ w2, w1.alloc (.cells #[.bool false, .slice none 0 0, .int .i64 0] 63) = w2 := ⟨_, rfl⟩
  have hb1 : Below w.heap.size w w1 := hw1 ▸ below_alloc w _
  have hb12 : Below w1.heap.size w1 w2 := hw2 ▸ below_alloc w1 _
  have hbw2 := hb1.trans (hb12.mono hb1.size)
  have hc1 : w2.heap[w.heap.size]? = some (.cells #[.bool p, .slice a n c, .int .i64 E] 59 (0, 0)) := slot_kept (hw1 ▸ heap_alloc_new w _) hb12
  have hc2 : w2.heap[w1.heap.size]? = some (.cells #[.bool false, .slice none 0 0, .int .i64 0] 63 (0, 0)) := hw2 ▸ heap_alloc_new w1 _
  have hs1 : w.heap.size ≤ w1.heap.size := hb1.size
  replace h := h.below hbw2
  clear hn hN hb1 hb12
  go_enter Tryd.func40, Tryd.ntmps40
  go_upto_region 1 with fail
  refine wp_region_slots_tail (by kernel_rfl) 9 [3, 4, 5, 6, 7, 8, 9, 10, 11] (fun w' => (w'.heap[w.heap.size]? = some (.cells #[.bool p, .slice a n c, .int .i64 E] 59 (0, 0))) ∧ (w'.heap[w1.heap.size]? = some (.cells #[.bool false, .slice none 0 0, .int .i64 0] 63 (0, 0))) ∧ (Rd w' a l) ∧ (Below w2.heap.size w2 w')) (Said [Is (.pointer (some ⟨w.heap.size, 0, none⟩)), Is (.bool p), Is (.pointer (some ⟨w.heap.size, 1, none⟩)), Is (.slice a n c), IsOw l, IsOwB p l, Is (.pointer (some ⟨w.heap.size, 2, none⟩)), Is (.int .i64 E), IsOwC p E l]) (by kernel_rfl) (by kernel_rfl) (by kernel_rfl) (by kernel_rfl) (by kernel_rfl) (Said.keep ?keep) ⟨slot_kept hc1 (bdn (Below.refl _ _) 1), slot_kept hc2 (bdn (Below.refl _ _) 1), h.below (bdn (Below.refl _ _) 1), bdn (Below.refl _ _) 1⟩ (l := [0, 1, 2, 3, 4, 5, 6, 7, 8]) (by kernel_rfl) ?step ?fin
  case keep =>
    refine List.forall_mem_cons.2 ⟨Is.keeps _, ?_⟩
    refine List.forall_mem_cons.2 ⟨Is.keeps _, ?_⟩
    refine List.forall_mem_cons.2 ⟨Is.keeps _, ?_⟩
    refine List.forall_mem_cons.2 ⟨Is.keeps _, ?_⟩
    refine List.forall_mem_cons.2 ⟨IsOw.keeps _, ?_⟩
    refine List.forall_mem_cons.2 ⟨IsOwB.keeps _ _, ?_⟩
    refine List.forall_mem_cons.2 ⟨Is.keeps _, ?_⟩
    refine List.forall_mem_cons.2 ⟨Is.keeps _, ?_⟩
    refine List.forall_mem_cons.2 ⟨IsOwC.keeps _ _ _, ?_⟩
    exact fun _ h => nomatch h
  case step =>
    refine List.forall_mem_cons.2 ⟨?_, ?_⟩
    · refine SlotStep.plain rfl rfl rfl ?_
      intro tm ws hsame hS hg K hK
      have e1 : tm[1]? = some (.pointer (some ⟨w.heap.size, 0, none⟩)) := hsame.2 1 rfl
      go_simp
      exact hK _ _ (Below.refl _ _) hS rfl
    refine List.forall_mem_cons.2 ⟨?_, ?_⟩
    · refine SlotStep.plain rfl rfl rfl ?_
      intro tm ws hsame hS hg K hK
      obtain ⟨v3, e3, rfl⟩ := hg 0 (by kernel_rfl) _ 3 rfl rfl
      obtain ⟨⟨k0, k1, k2⟩, -⟩ := slot3 (hS.1)
      go_simp
      exact hK _ _ (Below.refl _ _) hS rfl
    refine List.forall_mem_cons.2 ⟨?_, ?_⟩
    · refine SlotStep.plain rfl rfl rfl ?_
      intro tm ws hsame hS hg K hK
      have e1 : tm[1]? = some (.pointer (some ⟨w.heap.size, 0, none⟩)) := hsame.2 1 rfl
      go_simp
      exact hK _ _ (Below.refl _ _) hS rfl
    refine List.forall_mem_cons.2 ⟨?_, ?_⟩
    · refine SlotStep.plain rfl rfl rfl ?_
      intro tm ws hsame hS hg K hK
      obtain ⟨v5, e5, rfl⟩ := hg 2 (by kernel_rfl) _ 5 rfl rfl
      obtain ⟨⟨k0, k1, k2⟩, -⟩ := slot3 (hS.1)
      go_simp
      exact hK _ _ (Below.refl _ _) hS rfl
    refine List.forall_mem_cons.2 ⟨?_, ?_⟩
    · refine SlotStep.plain rfl rfl rfl ?_
      intro tm ws hsame hS hg K hK
      obtain ⟨v6, e6, rfl⟩ := hg 3 (by kernel_rfl) _ 6 rfl rfl
      refine oper_append_nil_words (ops := #[]) ws rfl (.const (.slice none 0 0)) (.tmp 6) 22 rfl Tryd.underlying22 info_u64 rfl a n c l (by simp [Act.eval, e6]) HN.out hS.2.2.1 hMx ?_
      intro v1 wm hO hb
      obtain ⟨aR, nR, cR, rfl⟩ := hO.slice
      exact hK _ _ hb (⟨slot_kept (hS.1) (hb), slot_kept (hS.2.1) (hb), (hS.2.2.1).below (hb), (hS.2.2.2).trans (Below.mono (hb) (hS.2.2.2).size)⟩) ⟨aR, nR, cR, rfl, _, hO⟩
    refine List.forall_mem_cons.2 ⟨?_, ?_⟩
    · refine SlotStep.plain rfl rfl rfl ?_
      intro tm ws hsame hS hg K hK
      obtain ⟨v4, e4, rfl⟩ := hg 1 (by kernel_rfl) _ 4 rfl rfl
      obtain ⟨v7, e7, ⟨a7, n7, c7, rfl, g7⟩⟩ := hg 4 (by kernel_rfl) _ 7 rfl rfl
      go_simp
      exact hK _ _ (Below.refl _ _) hS ⟨a7, n7, c7, rfl, g7⟩
    refine List.forall_mem_cons.2 ⟨?_, ?_⟩
    · refine SlotStep.plain rfl rfl rfl ?_
      intro tm ws hsame hS hg K hK
      have e1 : tm[1]? = some (.pointer (some ⟨w.heap.size, 0, none⟩)) := hsame.2 1 rfl
      go_simp
      exact hK _ _ (Below.refl _ _) hS rfl
    refine List.forall_mem_cons.2 ⟨?_, ?_⟩
    · refine SlotStep.plain rfl rfl rfl ?_
      intro tm ws hsame hS hg K hK
      obtain ⟨v9, e9, rfl⟩ := hg 6 (by kernel_rfl) _ 9 rfl rfl
      obtain ⟨⟨k0, k1, k2⟩, -⟩ := slot3 (hS.1)
      go_simp
      exact hK _ _ (Below.refl _ _) hS rfl
    refine List.forall_mem_cons.2 ⟨?_, ?_⟩
    · refine SlotStep.plain rfl rfl rfl ?_
      intro tm ws hsame hS hg K hK
      obtain ⟨v8, e8, ⟨a8, n8, c8, rfl, g8⟩⟩ := hg 5 (by kernel_rfl) _ 8 rfl rfl
      obtain ⟨v10, e10, rfl⟩ := hg 7 (by kernel_rfl) _ 10 rfl rfl
      go_simp
      exact hK _ _ (Below.refl _ _) hS ⟨a8, n8, c8, rfl, g8⟩
    exact fun _ h => nomatch h
  case fin =>
    intro tm w8 hsame hS hgot
    obtain ⟨u, hu, htm⟩ := hsame.form (by kernel_rfl)
    obtain ⟨v11, e11, aR, nR, cR, rfl, base, hO⟩ := hgot 8 (by decide) _ 11 rfl rfl
    have h11 := hu _ _ e11
    obtain ⟨-, hblk, -, hb8⟩ := hS
    obtain ⟨⟨q0, q1, q2⟩, f0, f1, f2⟩ := slot3 hblk
    have hnR : nR = l.length := by
      obtain ⟨_, _, he, -⟩ := hO.form
      cases he; rfl
    have hnum : Num w8 (.slice aR nR cR) N 40 := ⟨l, hO.rdv hl, HV.out, by rw [← HN.out]; exact hM⟩
    have hend := slot3_set (u := .bool p) (v := .slice aR nR cR) (s := .int .i64 E) hblk
    have hon := slot3_only (w := w8) (g := w1.heap.size) (.bool p) (.slice aR nR cR) (.int .i64 E)
    have hbz := hbw2.trans (hb8.mono hbw2.size)
    have HR : Hid (RetNO w p N E 40 (.returned (.agg #[.bool p, .slice aR nR cR, .int .i64 E])) (((w8.setCell ⟨w1.heap.size, 0, none⟩ (.bool p)).setCell ⟨w1.heap.size, 1, none⟩ (.slice aR nR cR)).setCell ⟨w1.heap.size, 2, none⟩ (.int .i64 E))) :=
      Lib.hid ⟨aR, nR, cR, rfl, hnum.var3 hblk hon, hbz.trans (hon.below hs1 hbz.size)⟩
    clear hgot hu hsame e11 hO hnum hnR
    rw [htm]
    clear htm tm
    simp only [List.foldl_cons, List.foldl_nil, List.setIfInBounds_toArray, List.set_cons_zero, List.set_cons_succ, h11, List.drop_succ_cons, List.drop_zero]
    clear h11
    go_wp2_with fail
    exact bodyPost_ret (results_cell_row rfl _ _ w1.heap.size 63 _ (0, 0) _ rfl hend Tryd.underlying63 rfl (by kernel_rfl)) rfl HR.out
end Go.Proofs.YtfanhllcoaondaaDoor

namespace Go.Proofs.YtfanhllcoaondaaDoor
open Go.RowKit

theorem word_cases {b : Nat} (hb : b < 18446744073709551616) : (b = rg b ∧ fneg b = false) ∨ (b = 9223372036854775808 + rg b ∧ fneg b = true) := by
  rcases Nat.lt_or_ge b 9223372036854775808 with h | h
  · exact Or.inl ⟨(rg_pos h).1.symm, (rg_pos h).2⟩
  · right
    have e : b = 9223372036854775808 + (b - 9223372036854775808) := by omega
    have h2 := rg_neg (r := b - 9223372036854775808) (by omega)
    rw [← e] at h2
    exact ⟨by rw [h2.1]; exact e, h2.2⟩
theorem rg_lt (b : Nat) : rg b < 9223372036854775808 := Nat.mod_lt _ (by decide)
/-- A word's step up and down, and back. -/
structure Steps (b : Nat) : Prop where
  up_lt : stepW b false < 18446744073709551616
  up_rg : rg (stepW b false) ≤ INF
  dn_lt : stepW b true < 18446744073709551616
  dn_rg : rg (stepW b true) ≤ INF
  up : fv b < fv (stepW b false)
  dn : fv (stepW b true) < fv b
  ub_rg : rg (stepW (stepW b false) true) ≤ INF
  ub : fv (stepW (stepW b false) true) = fv b
  db_rg : rg (stepW (stepW b true) false) ≤ INF
  db : fv (stepW (stepW b true) false) = fv b
theorem stepW_pos {r : Nat} (h0 : r ≠ 0) (h : r < 9223372036854775808) (dn : Bool) : stepW r dn = if dn then r - 1 else if r = INF then r else r + 1 := by
  unfold stepW
  rw [(rg_pos h).1, (rg_pos h).2, if_neg h0]
  rfl
theorem stepW_neg {r : Nat} (h0 : r ≠ 0) (h : r < 9223372036854775808) (dn : Bool) : stepW (9223372036854775808 + r) dn = if dn then (if r = INF then 9223372036854775808 + r else 9223372036854775808 + r + 1) else 9223372036854775808 + r - 1 := by
  unfold stepW
  rw [(rg_neg h).1, (rg_neg h).2, if_neg h0, if_pos rfl]
theorem stepW_zero {b : Nat} (h0 : rg b = 0) (dn : Bool) : stepW b dn = if dn then 9223372036854775809 else 1 := by
  unfold stepW
  rw [if_pos h0]
theorem steps {b : Nat} (hb : b < 18446744073709551616) (hf : rg b < INF) : Steps b := by
  have hI : INF = 9218868437227405312 := rfl
  have f1 : fv 1 = 1 := by decide
  have f0 : fv 0 = 0 := by decide
  have fm : fv 9223372036854775809 = -1 := by decide
  have fz : fv 9223372036854775808 = 0 := by decide
  by_cases h0 : rg b = 0
  · have e1 : stepW b false = 1 := stepW_zero h0 false
    have e2 : stepW b true = 9223372036854775809 := stepW_zero h0 true
    have e3 : stepW 1 true = 0 := by decide
    have e4 : stepW 9223372036854775809 false = 9223372036854775808 := by decide
    have fb : fv b = 0 := by rw [fv_def, h0]; split <;> rfl
    refine ⟨?_, ?_, ?_, ?_, ?_, ?_, ?_, ?_, ?_, ?_⟩
    · rw [e1]; decide
    · rw [e1]; decide
    · rw [e2]; decide
    · rw [e2]; decide
    · rw [e1, fb, f1]; decide
    · rw [e2, fb, fm]; decide
    · rw [e1, e3]; decide
    · rw [e1, e3, fb, f0]
    · rw [e2, e4]; decide
    · rw [e2, e4, fb, fz]
  · obtain ⟨r, hr⟩ : ∃ r, rg b = r := ⟨_, rfl⟩
    have hrl := rg_lt b
    rw [hr] at h0 hf hrl
    have l1 := un_step (r - 1)
    rw [show r - 1 + 1 = r by omega] at l1
    have l2 := un_step r
    rcases word_cases hb with ⟨e, -⟩ | ⟨e, -⟩
    · rw [hr] at e
      subst e
      have e1 : stepW b false = b + 1 := by rw [stepW_pos h0 hrl, if_neg (by decide), if_neg (by omega)]
      have e2 : stepW b true = b - 1 := by rw [stepW_pos h0 hrl, if_pos rfl]
      have e3 : stepW (b + 1) true = b := by rw [stepW_pos (by omega) (by omega), if_pos rfl]; omega
      have e4 : stepW (b - 1) false = b := by
        by_cases h1 : b = 1
        · subst h1; decide
        · rw [stepW_pos (by omega) (by omega), if_neg (by decide), if_neg (by omega)]; omega
      have r1 := (rg_pos (r := b + 1) (by omega)).1
      have r2 := (rg_pos (r := b - 1) (by omega)).1
      refine ⟨by omega, by rw [e1, r1]; omega, by omega, by rw [e2, r2]; omega, ?_, ?_, by rw [e1, e3, hr]; omega, by rw [e1, e3], by rw [e2, e4, hr]; omega, by rw [e2, e4]⟩
      · rw [e1, fv_pos (by omega), fv_pos (by omega)]; omega
      · rw [e2, fv_pos (by omega), fv_pos (by omega)]; omega
    · rw [hr] at e
      subst e
      have e1 : stepW (9223372036854775808 + r) false = 9223372036854775808 + (r - 1) := by rw [stepW_neg h0 hrl, if_neg (by decide)]; omega
      have e2 : stepW (9223372036854775808 + r) true = 9223372036854775808 + (r + 1) := by rw [stepW_neg h0 hrl, if_pos rfl, if_neg (by omega)]; omega
      have e3 : stepW (9223372036854775808 + (r - 1)) true = 9223372036854775808 + r := by
        by_cases h1 : r = 1
        · subst h1; decide
        · rw [stepW_neg (by omega) (by omega), if_pos rfl, if_neg (by omega)]; omega
      have e4 : stepW (9223372036854775808 + (r + 1)) false = 9223372036854775808 + r := by rw [stepW_neg (by omega) (by omega), if_neg (by decide)]; omega
      have r1 := (rg_neg (r := r - 1) (by omega)).1
      have r2 := (rg_neg (r := r + 1) (by omega)).1
      refine ⟨by omega, by rw [e1, r1]; omega, by omega, by rw [e2, r2]; omega, ?_, ?_, by rw [e1, e3, hr]; omega, by rw [e1, e3], by rw [e2, e4, hr]; omega, by rw [e2, e4]⟩
      · rw [e1, fv_neg (by omega), fv_neg (by omega)]; omega
      · rw [e2, fv_neg (by omega), fv_neg (by omega)]; omega

/-- The words about a number: what they are. -/
structure Btw (lo hi : Nat) (neg : Bool) (N E : Int) : Prop where
  lo_lt : lo < 18446744073709551616
  lo_rg : rg lo ≤ INF
  hi_lt : hi < 18446744073709551616
  hi_rg : rg hi ≤ INF
  le : fv lo ≤ fv hi
  next : fv lo ≠ fv hi → fv (stepW lo false) = fv hi ∧ rg (stepW lo false) ≤ INF
  one : rg lo < INF ∨ rg hi < INF
  low : rg lo < INF → ∀ K : Nat, 1074 ≤ K → 0 ≤ E + K → fv lo * 2 ^ (K - 1074) ≤ sg neg N * 2 ^ (E + K).toNat
  high : rg hi < INF → ∀ K : Nat, 1074 ≤ K → 0 ≤ E + K → sg neg N * 2 ^ (E + K).toNat ≤ fv hi * 2 ^ (K - 1074)
theorem fv_sgW {neg : Bool} {R : Nat} (h : R < INF) : fv (sgW neg R) = sg neg (un R : Int) := by
  have hI : INF = 9218868437227405312 := rfl
  cases neg
  · show fv R = (un R : Int)
    exact fv_pos (by omega)
  · show fv (if R = 0 then 0 else 9223372036854775808 + R) = -(un R : Int)
    by_cases h0 : R = 0
    · subst h0; decide
    · rw [if_neg h0]; exact fv_neg (by omega)
theorem sg_mul_le {p : Bool} {a b c d : Int} (h : a * c ≤ b * d) : p = false → sg p a * c ≤ sg p b * d := by
  intro e; subst e; exact h
theorem btw {neg : Bool} {R : Nat} {ex : Bool} {N E : Int} (h : TZ R ex N E) : Btw (floW neg R ex true) (floW neg R ex false) neg N E := by
  have hI : INF = 9218868437227405312 := rfl
  have hR := h.lt
  cases ex with
  | true =>
    have e1 : ∀ d, floW neg R true d = sgW neg R := fun d => by unfold floW; simp
    rw [e1, e1]
    obtain ⟨s1, s2⟩ := sgW_lt (neg := neg) hR
    have hv := fv_sgW (neg := neg) hR
    have key : ∀ K : Nat, 1074 ≤ K → 0 ≤ E + K → fv (sgW neg R) * 2 ^ (K - 1074) = sg neg N * 2 ^ (E + K).toNat := by
      intro K h1 h2
      have := h.eq rfl K h1 h2
      rw [hv, ← sg_scale, ← sg_scale, this]
    exact ⟨s1, by rw [s2]; omega, s1, by rw [s2]; omega, Int.le_refl _, fun h => absurd rfl h, Or.inl (by rw [s2]; exact hR), fun _ K h1 h2 => Int.le_of_eq (key K h1 h2), fun _ K h1 h2 => Int.le_of_eq (key K h1 h2).symm⟩
  | false =>
    have l2 := un_step R
    cases neg with
    | false =>
      have e1 : floW false R false true = R := rfl
      have e2 : floW false R false false = R + 1 := by
        show stepW R false = R + 1
        by_cases h0 : R = 0
        · subst h0; decide
        · rw [stepW_pos h0 (by omega), if_neg (by decide), if_neg (by omega)]
      have e3 : stepW R false = R + 1 := e2
      rw [e1, e2]
      have r1 := (rg_pos (r := R) (by omega)).1
      have r2 := (rg_pos (r := R + 1) (by omega)).1
      have v1 := fv_pos (r := R) (by omega)
      have v2 := fv_pos (r := R + 1) (by omega)
      refine ⟨by omega, by rw [r1]; omega, by omega, by rw [r2]; omega, by rw [v1, v2]; omega, fun _ => ⟨by rw [e3], by rw [e3, r2]; omega⟩, Or.inl (by rw [r1]; exact hR), fun _ K h1 h2 => ?_, fun hh K h1 h2 => ?_⟩
      · rw [v1, sg_false]
        exact Int.le_of_lt (h.gt rfl K h1 h2).1
      · rw [v2, sg_false]
        rw [r2] at hh
        exact Int.le_of_lt ((h.gt rfl K h1 h2).2 hh)
    | true =>
      have e1 : floW true R false true = 9223372036854775808 + (R + 1) := by
        show stepW (sgW true R) true = _
        by_cases h0 : R = 0
        · subst h0; decide
        · rw [show sgW true R = 9223372036854775808 + R from if_neg h0, stepW_neg h0 (by omega), if_pos rfl, if_neg (by omega)]; omega
      have e2 : floW true R false false = sgW true R := rfl
      rw [e1, e2]
      obtain ⟨s1, s2⟩ := sgW_lt (neg := true) hR
      have v2 := fv_sgW (neg := true) hR
      rw [sg_true] at v2
      have r1 := (rg_neg (r := R + 1) (by omega)).1
      have v1 := fv_neg (r := R + 1) (by omega)
      have e3 : stepW (9223372036854775808 + (R + 1)) false = 9223372036854775808 + R := by rw [stepW_neg (by omega) (by omega), if_neg (by decide)]; omega
      refine ⟨by omega, by rw [r1]; omega, s1, by rw [s2]; omega, by rw [v1, v2]; omega, fun _ => ⟨by rw [e3, v2, fv_neg (by omega)], by rw [e3, (rg_neg (by omega)).1]; omega⟩, Or.inr (by rw [s2]; exact hR), fun hh K h1 h2 => ?_, fun _ K h1 h2 => ?_⟩
      · rw [r1] at hh
        have := (h.gt rfl K h1 h2).2 hh
        rw [v1, sg_true, Int.neg_mul, Int.neg_mul]
        omega
      · have := (h.gt rfl K h1 h2).1
        rw [v2, sg_true, Int.neg_mul, Int.neg_mul]
        omega
end Go.Proofs.YtfanhllcoaondaaDoor

namespace Go.Proofs.YtfanhllcoaondaaDoor
open Go.RowKit

theorem fd_val {p : Bool} {N E : Int} {b : Nat} (hE : -1074 ≤ E) (hv : N * 2 ^ (E + 1074).toNat = (un (rg b) : Int)) (hp : N ≠ 0 → p = fneg b) (K : Nat) (hK : 1074 ≤ K) : sg p N * 2 ^ (E + K).toNat = fv b * 2 ^ (K - 1074) := by
  have e1 : sg p N * 2 ^ (E + 1074).toNat = fv b := by
    rw [fv_def, ← sg_scale, hv]
    by_cases h0 : N = 0
    · rw [h0, Int.zero_mul] at hv
      rw [← hv]
      cases p <;> cases fneg b <;> rfl
    · rw [hp h0]; rfl
  rw [← e1, Int.mul_assoc, ← Int.pow_add]
  exact congrArg (fun n : Nat => sg p N * (2 : Int) ^ n) (by omega)
theorem sg_and {p : Bool} {N : Int} : sg (p && decide (N ≠ 0)) N = sg p N := by
  by_cases h : N = 0
  · subst h; cases p <;> rfl
  · rw [decide_eq_true h, Bool.and_true]
theorem cmpI_nle {a b : Int} (h : a ≤ b) : ¬ 0 < cmpI a b := by
  rcases Int.lt_or_eq_of_le h with h | h
  · rw [cmpI_lt h]; decide
  · rw [cmpI_eq h]; decide
theorem cmpI_nge {a b : Int} (h : b ≤ a) : ¬ cmpI a b < 0 := by
  rcases Int.lt_or_eq_of_le h with h | h
  · rw [cmpI_gt h]; decide
  · rw [cmpI_eq h.symm]; decide
theorem fne_num {a b : Nat} (ha : rg a ≤ INF) (hb : rg b ≤ INF) : (FloatKind.f64.format.order a b != some Ordering.eq) = !decide (fv a = fv b) := by
  have := feq_num ha hb
  show (!(FloatKind.f64.format.order a b == some Ordering.eq)) = _
  rw [this]

set_option maxRecDepth 100000 in
set_option maxHeartbeats 4000000 in
theorem btw_ok (p : Bool) (aA : Option Addr) (nA cA : Nat) (l : List Int) (E : Int) (b : Nat) (w : World) (hnl : nA = l.length) (hr : Rd w aA l) (hl : Lim B64 l) (h40 : nA ≤ 40) (hE0 : -3000 ≤ E) (hE1 : E ≤ 3000) (hb : b < 18446744073709551616) (hT : Tab64 w) :
    Calls Tryd.prog 5 #[.agg #[.bool p, .slice aA nA cA, .int .i64 E], .float .f64 b] w fun e' w' => RetV w (.bool true) e' w' := by
  obtain ⟨w0, hw0⟩ : ∃ w0, w.alloc (.cells #[.bool p, .slice aA nA cA, .int .i64 E] 59) = w0 := ⟨_, rfl⟩
  have hb0 : Below w.heap.size w w0 := hw0 ▸ below_alloc w _
  have hc0 : w0.heap[w.heap.size]? = some (.cells #[.bool p, .slice aA nA cA, .int .i64 E] 59 (0, 0)) := hw0 ▸ heap_alloc_new w _
  obtain ⟨⟨k0, k1, k2⟩, -⟩ := slot3 hc0
  replace hr := hr.below hb0
  replace hT := hT.below hb0
  have hli := light3_num (w := w0) p aA nA cA E 59 (by omega)
  rw [show (decide (nA ≤ 40) && !(decide (E < -3000)) && !(decide (3000 < E))) = true by
    rw [decide_eq_true h40, decide_eq_false (by omega), decide_eq_false (by omega)]; rfl] at hli
  have HLI := Lib.hid hli
  have hbL := below_alloc w0 (.cells #[.bool p, .slice aA nA cA, .int .i64 E] 59)
  have HNL := Lib.hid hnl
  obtain ⟨A, hA⟩ : ∃ A, vb B64 l = A := ⟨_, rfl⟩
  have HA := Lib.hid hA
  have hA0 : 0 ≤ A := by rw [← hA]; exact vb_nonneg B64_pos hl
  obtain ⟨R, ex, htz⟩ := tz_exists (N := A) (E := E) hA0
  have hbt := btw (neg := p && decide (A ≠ 0)) htz
  obtain ⟨lo, hlo⟩ : ∃ lo, floW (p && decide (A ≠ 0)) R ex true = lo := ⟨_, rfl⟩
  obtain ⟨hi, hhi⟩ : ∃ hi, floW (p && decide (A ≠ 0)) R ex false = hi := ⟨_, rfl⟩
  rw [hlo, hhi] at hbt
  have HTZ := Lib.hid htz
  have HLO : Hid (floW (p && decide (A ≠ 0)) R ex (decide ((-1 : Int) < 0)) = lo) := Lib.hid hlo
  have HHI : Hid (floW (p && decide (A ≠ 0)) R ex (decide ((1 : Int) < 0)) = hi) := Lib.hid hhi
  have HBT := Lib.hid hbt
  clear hli hnl hA htz hlo hhi hbt
  go_enter Tryd.func5, Tryd.ntmps5
  go_wp2_with fail
  refine HLI.out.mono ?_
  rintro e' w1 ⟨rfl, hb1⟩
  have hb01 := hbL.trans (hb1.mono hbL.size)
  replace hr := hr.below hb01
  replace hT := hT.below hb01
  have hbw1 := hb0.trans (hb01.mono hb0.size)
  replace hc0 := slot_kept hc0 hb01
  clear hbL hb1 hb01 HLI k0 k1 k2
  go_wp2_with fail
  refine (flive_yes _ hT).mono ?_
  rintro e' w2 ⟨rfl, hb2⟩
  replace hr := hr.below hb2
  replace hT := hT.below hb2
  have hbw2 := hbw1.trans (hb2.mono hbw1.size)
  replace hc0 := slot_kept hc0 hb2
  obtain ⟨⟨k0, k1, k2⟩, -⟩ := slot3 hc0
  have HOF := Lib.hid (numof_num p aA nA cA l E HNL.out hr hl h40)
  rw [HA.out] at HOF
  clear hb2 hbw1
  go_wp2_with fail
  refine HOF.out.mono ?_
  rintro e' w3 ⟨a, n, c, rfl, hN3, hb3⟩
  have hbw3 := hbw2.trans (hb3.mono hbw2.size)
  obtain ⟨w4, hw4⟩ : ∃ w4, w3.alloc (.cells #[.bool p, .slice a n c, .int .i64 E] 63) = w4 := ⟨_, rfl⟩
  have hb4 : Below w3.heap.size w3 w4 := hw4 ▸ below_alloc w3 _
  have hc1 : w4.heap[w3.heap.size]? = some (.cells #[.bool p, .slice a n c, .int .i64 E] 63 (0, 0)) := hw4 ▸ heap_alloc_new w3 _
  have hn := hN3.below hb4
  have hbw4 := hbw3.trans (hb4.mono hbw3.size)
  replace hT := (hT.below hb3).below hb4
  clear hN3 hb3 hb4 hbw3 hbw2 hr k0 k1 k2 HOF hc0
  go_upto_region 4 with fail
  refine wp_region_slots (by kernel_rfl) [25, 26, 27, 28, 6, 7] (fun w' => (w'.heap[w3.heap.size]? = some (.cells #[.bool p, .slice a n c, .int .i64 E] 63 (0, 0))) ∧ (Num w' (.slice a n c) A 40) ∧ (Tab64 w') ∧ (Below w4.heap.size w4 w')) (Said [Is (.agg #[.bool p, .slice a n c, .int .i64 E]), Is (.float .f64 lo), Is (.agg #[.bool p, .slice a n c, .int .i64 E]), Is (.float .f64 hi), Is (.float .f64 lo), Is (.float .f64 hi)]) (by kernel_rfl) (by kernel_rfl) (by kernel_rfl) (by kernel_rfl) (Said.keep ?keep) ⟨slot_kept hc1 (bdn (Below.refl _ _) 1), hn.below (bdn (Below.refl _ _) 1), Tab64.below hT (bdn (Below.refl _ _) 1), bdn (Below.refl _ _) 1⟩ (l := [0, 1, 2, 3, 4, 5]) (by kernel_rfl) ?step ?fin
  case keep =>
    refine List.forall_mem_cons.2 ⟨Is.keeps _, ?_⟩
    refine List.forall_mem_cons.2 ⟨Is.keeps _, ?_⟩
    refine List.forall_mem_cons.2 ⟨Is.keeps _, ?_⟩
    refine List.forall_mem_cons.2 ⟨Is.keeps _, ?_⟩
    refine List.forall_mem_cons.2 ⟨Is.keeps _, ?_⟩
    refine List.forall_mem_cons.2 ⟨Is.keeps _, ?_⟩
    exact fun _ h => nomatch h
  case step =>
    refine List.forall_mem_cons.2 ⟨?_, ?_⟩
    · refine SlotStep.plain rfl rfl rfl ?_
      intro tm ws hsame hS hg K hK
      have e5 : tm[5]? = some (.pointer (some ⟨w3.heap.size, 0, none⟩)) := hsame.2 5 rfl
      obtain ⟨⟨k0, k1, k2⟩, -⟩ := slot3 (hS.1)
      go_simp
      exact hK _ _ (Below.refl _ _) hS rfl
    refine List.forall_mem_cons.2 ⟨?_, ?_⟩
    · refine SlotStep.plain rfl rfl rfl ?_
      intro tm ws hsame hS hg K hK
      obtain ⟨v25, e25, rfl⟩ := hg 0 (by kernel_rfl) _ 25 rfl rfl
      go_simp
      refine (float_num p E (-1) hS.2.1 (by decide) (by omega) (by omega) hS.2.2.1).mono ?_
      rintro e' wm ⟨R', ex', rfl, htz', hb⟩
      obtain ⟨rfl, rfl⟩ := htz'.unique HTZ.out
      exact hK _ _ hb (⟨slot_kept (hS.1) (hb), (hS.2.1).below (hb), Tab64.below (hS.2.2.1) (hb), (hS.2.2.2).trans (Below.mono (hb) (hS.2.2.2).size)⟩) (congrArg (Value.float .f64) HLO.out)
    refine List.forall_mem_cons.2 ⟨?_, ?_⟩
    · refine SlotStep.plain rfl rfl rfl ?_
      intro tm ws hsame hS hg K hK
      have e5 : tm[5]? = some (.pointer (some ⟨w3.heap.size, 0, none⟩)) := hsame.2 5 rfl
      obtain ⟨⟨k0, k1, k2⟩, -⟩ := slot3 (hS.1)
      go_simp
      exact hK _ _ (Below.refl _ _) hS rfl
    refine List.forall_mem_cons.2 ⟨?_, ?_⟩
    · refine SlotStep.plain rfl rfl rfl ?_
      intro tm ws hsame hS hg K hK
      obtain ⟨v27, e27, rfl⟩ := hg 2 (by kernel_rfl) _ 27 rfl rfl
      go_simp
      refine (float_num p E 1 hS.2.1 (by decide) (by omega) (by omega) hS.2.2.1).mono ?_
      rintro e' wm ⟨R', ex', rfl, htz', hb⟩
      obtain ⟨rfl, rfl⟩ := htz'.unique HTZ.out
      exact hK _ _ hb (⟨slot_kept (hS.1) (hb), (hS.2.1).below (hb), Tab64.below (hS.2.2.1) (hb), (hS.2.2.2).trans (Below.mono (hb) (hS.2.2.2).size)⟩) (congrArg (Value.float .f64) HHI.out)
    refine List.forall_mem_cons.2 ⟨?_, ?_⟩
    · refine SlotStep.plain rfl rfl rfl ?_
      intro tm ws hsame hS hg K hK
      obtain ⟨v26, e26, rfl⟩ := hg 1 (by kernel_rfl) _ 26 rfl rfl
      go_simp
      exact hK _ _ (Below.refl _ _) hS rfl
    refine List.forall_mem_cons.2 ⟨?_, ?_⟩
    · refine SlotStep.plain rfl rfl rfl ?_
      intro tm ws hsame hS hg K hK
      obtain ⟨v28, e28, rfl⟩ := hg 3 (by kernel_rfl) _ 28 rfl rfl
      go_simp
      exact hK _ _ (Below.refl _ _) hS rfl
    exact fun _ h => nomatch h
  case fin =>
    intro tm w5 hsame hS hgot
    obtain ⟨u, hu, htm⟩ := hsame.form (by kernel_rfl)
    obtain ⟨v6, e6, rfl⟩ := hgot 4 _ 6 rfl rfl
    obtain ⟨v7, e7, rfl⟩ := hgot 5 _ 7 rfl rfl
    have h6 := hu _ _ e6
    have h7 := hu _ _ e7
    have hc5 := hS.1
    have hn5 := hS.2.1
    have hT5 := hS.2.2.1
    have hb5 := hS.2.2.2
    have hbw5 := hbw4.trans (hb5.mono hbw4.size)
    clear hgot hu hsame e6 e7 hS hb5 hbw4 hn hT hc1 HLO HHI HTZ
    rw [htm]
    clear htm tm
    simp only [List.foldl_cons, List.foldl_nil, List.setIfInBounds_toArray, List.set_cons_zero, List.set_cons_succ, h6, h7]
    clear h6 h7
    have hbt := HBT.out
    have hgt : (FloatKind.f64.format.order lo hi == some Ordering.gt) = false := by
      rw [fgt_num hbt.lo_rg hbt.hi_rg]; exact decide_eq_false (by have := hbt.le; omega)
    have HSL := Lib.hid (step_num lo 1 w5 hbt.lo_lt hbt.lo_rg)
    rw [show decide ((1 : Int) < 0) = false by decide] at HSL
    -- the two words are one, or next to each other
    have hd : (FloatKind.f64.format.order lo hi != some Ordering.eq) = false ∨ ((FloatKind.f64.format.order lo hi != some Ordering.eq) = true ∧ (FloatKind.f64.format.order (stepW lo false) hi != some Ordering.eq) = false) := by
      rw [fne_num hbt.lo_rg hbt.hi_rg]
      by_cases h : fv lo = fv hi
      · left; rw [decide_eq_true h]; rfl
      · right
        obtain ⟨h1, h2⟩ := hbt.next h
        rw [fne_num h2 hbt.hi_rg, decide_eq_false h, decide_eq_true h1]
        exact ⟨rfl, rfl⟩
    -- what Dyad makes of a word, and how it stands to the number
    have HCL : ∀ (w' : World) (p1 : Bool) (a1 : Option Addr) (n1 c1 : Nat) (N1 E1 : Int), -1074 ≤ E1 → E1 ≤ 1100 → N1 * 2 ^ (E1 + 1074).toNat = (un (rg lo) : Int) → (N1 ≠ 0 → p1 = fneg lo ∧ ∃ z, N1 = 2 * z + 1) → rg lo < INF → Num w' (.slice a1 n1 c1) N1 40 → Num w' (.slice a n c) A 40 →
        ∃ r, ¬ 0 < r ∧ Hid (Calls Tryd.prog 44 #[.agg #[.bool p1, .slice a1 n1 c1, .int .i64 E1], .agg #[.bool p, .slice a n c, .int .i64 E]] w' fun e w'' => RetV w' (.int .i64 r) e w'') := by
      intro w' p1 a1 n1 c1 N1 E1 h1 h2 h3 h4 h5 h6 h7
      refine ⟨_, ?_, Lib.hid (dcmp_num (P := 120) p1 p E1 E 5000 h6 h7 (by decide) (by omega) (by omega) (by omega) (by omega) (by intro i hi; omega) (by decide) (by omega) (by omega))⟩
      rw [fd_val h1 h3 (fun h => (h4 h).1) 5000 (by decide)]
      refine cmpI_nle ?_
      have := hbt.low h5 5000 (by decide) (by omega)
      rwa [sg_and] at this
    have HCH : ∀ (w' : World) (p1 : Bool) (a1 : Option Addr) (n1 c1 : Nat) (N1 E1 : Int), -1074 ≤ E1 → E1 ≤ 1100 → N1 * 2 ^ (E1 + 1074).toNat = (un (rg hi) : Int) → (N1 ≠ 0 → p1 = fneg hi ∧ ∃ z, N1 = 2 * z + 1) → rg hi < INF → Num w' (.slice a1 n1 c1) N1 40 → Num w' (.slice a n c) A 40 →
        ∃ r, ¬ r < 0 ∧ Hid (Calls Tryd.prog 44 #[.agg #[.bool p1, .slice a1 n1 c1, .int .i64 E1], .agg #[.bool p, .slice a n c, .int .i64 E]] w' fun e w'' => RetV w' (.int .i64 r) e w'') := by
      intro w' p1 a1 n1 c1 N1 E1 h1 h2 h3 h4 h5 h6 h7
      refine ⟨_, ?_, Lib.hid (dcmp_num (P := 120) p1 p E1 E 5000 h6 h7 (by decide) (by omega) (by omega) (by omega) (by omega) (by intro i hi; omega) (by decide) (by omega) (by omega))⟩
      rw [fd_val h1 h3 (fun h => (h4 h).1) 5000 (by decide)]
      refine cmpI_nge ?_
      have := hbt.high h5 5000 (by decide) (by omega)
      rwa [sg_and] at this
    have HCLH := Lib.hid HCL
    have HCHH := Lib.hid HCH
    have hone := hbt.one
    have hllt := hbt.lo_lt
    have hhlt := hbt.hi_lt
    clear hbt HCL HCH HBT
    -- the float64 that is handed in
    have HV : (rg b < INF ∧ Hid (Steps b)) ∨ ¬ rg b < INF := by
      by_cases h : rg b < INF
      · exact Or.inl ⟨h, Lib.hid (steps hb h)⟩
      · exact Or.inr h
    have HVH := Lib.hid HV
    clear HV
    have HD2 := Lib.hid hd
    clear hd
    go_upto_region 5 with fail
    go_cut [42] from 29 to 42 (fun s42 wx => s42 = .bool false ∧ w5 = wx)
    case first =>
      rcases HD2.out with h1 | ⟨h1, h2⟩
      · go_wp2_with fail
        go_meet
        exact ⟨rfl, rfl⟩
      · go_wp2_with fail
        refine HSL.out.mono ?_
        rintro e' w' ⟨rfl, rfl⟩
        go_wp2_with fail
        go_meet
        exact ⟨rfl, rfl⟩
    case rest =>
      obtain ⟨rfl, rfl⟩ := hcut
      clear HSL HD2 hgt
      by_cases hfl : rg lo < INF
      · by_cases hfh : rg hi < INF
        · have HD1 := Lib.hid (fdyad_num lo w5 hllt hfl (hT5))
          go_wp2_with fail
          refine HD1.out.mono ?_
          rintro e' w6a ⟨p1, a1, n1, c1, N1, E1, rfl, hN1, hEl1, hEh1, hv1, ho1, -, hba1⟩
          obtain ⟨w6, hw6⟩ : ∃ w6, w6a.alloc (.cells #[.bool p1, .slice a1 n1 c1, .int .i64 E1] 63) = w6 := ⟨_, rfl⟩
          have hbb1 : Below w6a.heap.size w6a w6 := hw6 ▸ below_alloc w6a _
          have hcc1 : w6.heap[w6a.heap.size]? = some (.cells #[.bool p1, .slice a1 n1 c1, .int .i64 E1] 63 (0, 0)) := hw6 ▸ heap_alloc_new w6a _
          have hbt1 := hba1.trans (hbb1.mono hba1.size)
          have hbw6 := hbw5.trans (hbt1.mono hbw5.size)
          have hc6 := slot_kept hc5 hbt1
          have hn6 := hn5.below hbt1
          have hT6 := hT5.below hbt1
          have HD2 := Lib.hid (fdyad_num hi w6 hhlt hfh (hT6))
          go_wp2_with fail
          refine HD2.out.mono ?_
          rintro e' w7a ⟨p2, a2, n2, c2, N2, E2, rfl, hN2, hEl2, hEh2, hv2, ho2, -, hba2⟩
          obtain ⟨w7, hw7⟩ : ∃ w7, w7a.alloc (.cells #[.bool p2, .slice a2 n2 c2, .int .i64 E2] 63) = w7 := ⟨_, rfl⟩
          have hbb2 : Below w7a.heap.size w7a w7 := hw7 ▸ below_alloc w7a _
          have hcc2 : w7.heap[w7a.heap.size]? = some (.cells #[.bool p2, .slice a2 n2 c2, .int .i64 E2] 63 (0, 0)) := hw7 ▸ heap_alloc_new w7a _
          have hbt2 := hba2.trans (hbb2.mono hba2.size)
          have hbw7 := hbw6.trans (hbt2.mono hbw6.size)
          have hc7 := slot_kept hc6 hbt2
          have hn7 := hn6.below hbt2
          have hcc1' := slot_kept hcc1 hbt2
          obtain ⟨r1, hr1, HC1⟩ := HCLH.out w7 p1 a1 n1 c1 N1 E1 hEl1 hEh1 hv1 ho1 hfl (((hN1.num.mono (by decide : 1 ≤ 40)).below hbb1).below hbt2) hn7
          obtain ⟨⟨x0, x1, x2⟩, -⟩ := slot3 hcc1'
          obtain ⟨⟨y0, y1, y2⟩, -⟩ := slot3 hc7
          go_wp2_with fail
          refine HC1.out.mono ?_
          rintro e' w8 ⟨rfl, hb8⟩
          have hbw8 := hbw7.trans (hb8.mono hbw7.size)
          clear x0 x1 x2 y0 y1 y2
          obtain ⟨r2, hr2, HC2⟩ := HCHH.out w8 p2 a2 n2 c2 N2 E2 hEl2 hEh2 hv2 ho2 hfh (((hN2.num.mono (by decide : 1 ≤ 40)).below hbb2).below hb8) (hn7.below hb8)
          obtain ⟨⟨x0, x1, x2⟩, -⟩ := slot3 (slot_kept hcc2 hb8)
          obtain ⟨⟨y0, y1, y2⟩, -⟩ := slot3 (slot_kept hc7 hb8)
          go_wp2_with fail
          refine HC2.out.mono ?_
          rintro e' w9 ⟨rfl, hb9⟩
          have hbw9 := hbw8.trans (hb9.mono hbw8.size)
          clear x0 x1 x2 y0 y1 y2
          have HF := Lib.hid (finite_num b w9 hb)
          rcases HVH.out with ⟨hfin, HST⟩ | hinf
          · rw [decide_eq_true hfin] at HF
            have hst := HST.out
            have hbI : rg b ≤ INF := Nat.le_of_lt hfin
            have HU := Lib.hid (step_num b 1 w9 hb hbI)
            have HDn := Lib.hid (step_num b (-1) w9 hb hbI)
            have HUB := Lib.hid (step_num (stepW b false) (-1) w9 hst.up_lt hst.up_rg)
            have HDB := Lib.hid (step_num (stepW b true) 1 w9 hst.dn_lt hst.dn_rg)
            rw [show decide ((1 : Int) < 0) = false by decide] at HU HDB
            rw [show decide ((-1 : Int) < 0) = true by decide] at HDn HUB
            have o1 : (FloatKind.f64.format.order (stepW b false) b == some Ordering.gt) = true := by rw [fgt_num hst.up_rg hbI]; exact decide_eq_true hst.up
            have o2 : (FloatKind.f64.format.order (stepW b true) b == some Ordering.lt) = true := by rw [flt_num hst.dn_rg hbI]; exact decide_eq_true hst.dn
            have o3 : (FloatKind.f64.format.order (stepW (stepW b false) true) b == some Ordering.eq) = true := by rw [feq_num hst.ub_rg hbI]; exact decide_eq_true hst.ub
            have o4 : (FloatKind.f64.format.order (stepW (stepW b true) false) b == some Ordering.eq) = true := by rw [feq_num hst.db_rg hbI]; exact decide_eq_true hst.db
            clear hst
            go_wp2_with fail
            refine HF.out.mono ?_
            rintro e' w' ⟨rfl, rfl⟩
            go_wp2_with fail
            refine HU.out.mono ?_
            rintro e' w' ⟨rfl, rfl⟩
            go_wp2_with fail
            refine HDn.out.mono ?_
            rintro e' w' ⟨rfl, rfl⟩
            go_wp2_with fail
            refine HUB.out.mono ?_
            rintro e' w' ⟨rfl, rfl⟩
            go_wp2_with fail
            refine HDB.out.mono ?_
            rintro e' w' ⟨rfl, rfl⟩
            go_wp2_with fail
            go_ret
            exact ⟨rfl, hbw9⟩
          · rw [decide_eq_false hinf] at HF
            go_wp2_with fail
            refine HF.out.mono ?_
            rintro e' w' ⟨rfl, rfl⟩
            go_wp2_with fail
            go_ret
            exact ⟨rfl, hbw9⟩
        · have HD1 := Lib.hid (fdyad_num lo w5 hllt hfl (hT5))
          go_wp2_with fail
          refine HD1.out.mono ?_
          rintro e' w6a ⟨p1, a1, n1, c1, N1, E1, rfl, hN1, hEl1, hEh1, hv1, ho1, -, hba1⟩
          obtain ⟨w6, hw6⟩ : ∃ w6, w6a.alloc (.cells #[.bool p1, .slice a1 n1 c1, .int .i64 E1] 63) = w6 := ⟨_, rfl⟩
          have hbb1 : Below w6a.heap.size w6a w6 := hw6 ▸ below_alloc w6a _
          have hcc1 : w6.heap[w6a.heap.size]? = some (.cells #[.bool p1, .slice a1 n1 c1, .int .i64 E1] 63 (0, 0)) := hw6 ▸ heap_alloc_new w6a _
          have hbt1 := hba1.trans (hbb1.mono hba1.size)
          have hbw6 := hbw5.trans (hbt1.mono hbw5.size)
          have hc6 := slot_kept hc5 hbt1
          have hn6 := hn5.below hbt1
          have hT6 := hT5.below hbt1
          have HD2 := Lib.hid (fdyad_inf hi w6 hhlt (by omega))
          go_wp2_with fail
          refine HD2.out.mono ?_
          rintro e' w7a ⟨rfl, hba2⟩
          have hbb2 := below_alloc w7a (.cells #[.bool false, .slice none 0 0, .int .i64 0] 63)
          have hcc2 := heap_alloc_new w7a (.cells #[.bool false, .slice none 0 0, .int .i64 0] 63)
          have hbt2 := hba2.trans (hbb2.mono hba2.size)
          have hbw7 := hbw6.trans (hbt2.mono hbw6.size)
          have hc7 := slot_kept hc6 hbt2
          have hn7 := hn6.below hbt2
          have hcc1' := slot_kept hcc1 hbt2
          obtain ⟨r1, hr1, HC1⟩ := HCLH.out (w7a.alloc (.cells #[.bool false, .slice none 0 0, .int .i64 0] 63)) p1 a1 n1 c1 N1 E1 hEl1 hEh1 hv1 ho1 hfl (((hN1.num.mono (by decide : 1 ≤ 40)).below hbb1).below hbt2) hn7
          obtain ⟨⟨x0, x1, x2⟩, -⟩ := slot3 hcc1'
          obtain ⟨⟨y0, y1, y2⟩, -⟩ := slot3 hc7
          go_wp2_with fail
          refine HC1.out.mono ?_
          rintro e' w8 ⟨rfl, hb8⟩
          have hbw8 := hbw7.trans (hb8.mono hbw7.size)
          clear x0 x1 x2 y0 y1 y2
          have HF := Lib.hid (finite_num b w8 hb)
          rcases HVH.out with ⟨hfin, HST⟩ | hinf
          · rw [decide_eq_true hfin] at HF
            have hst := HST.out
            have hbI : rg b ≤ INF := Nat.le_of_lt hfin
            have HU := Lib.hid (step_num b 1 w8 hb hbI)
            have HDn := Lib.hid (step_num b (-1) w8 hb hbI)
            have HUB := Lib.hid (step_num (stepW b false) (-1) w8 hst.up_lt hst.up_rg)
            have HDB := Lib.hid (step_num (stepW b true) 1 w8 hst.dn_lt hst.dn_rg)
            rw [show decide ((1 : Int) < 0) = false by decide] at HU HDB
            rw [show decide ((-1 : Int) < 0) = true by decide] at HDn HUB
            have o1 : (FloatKind.f64.format.order (stepW b false) b == some Ordering.gt) = true := by rw [fgt_num hst.up_rg hbI]; exact decide_eq_true hst.up
            have o2 : (FloatKind.f64.format.order (stepW b true) b == some Ordering.lt) = true := by rw [flt_num hst.dn_rg hbI]; exact decide_eq_true hst.dn
            have o3 : (FloatKind.f64.format.order (stepW (stepW b false) true) b == some Ordering.eq) = true := by rw [feq_num hst.ub_rg hbI]; exact decide_eq_true hst.ub
            have o4 : (FloatKind.f64.format.order (stepW (stepW b true) false) b == some Ordering.eq) = true := by rw [feq_num hst.db_rg hbI]; exact decide_eq_true hst.db
            clear hst
            go_wp2_with fail
            refine HF.out.mono ?_
            rintro e' w' ⟨rfl, rfl⟩
            go_wp2_with fail
            refine HU.out.mono ?_
            rintro e' w' ⟨rfl, rfl⟩
            go_wp2_with fail
            refine HDn.out.mono ?_
            rintro e' w' ⟨rfl, rfl⟩
            go_wp2_with fail
            refine HUB.out.mono ?_
            rintro e' w' ⟨rfl, rfl⟩
            go_wp2_with fail
            refine HDB.out.mono ?_
            rintro e' w' ⟨rfl, rfl⟩
            go_wp2_with fail
            go_ret
            exact ⟨rfl, hbw8⟩
          · rw [decide_eq_false hinf] at HF
            go_wp2_with fail
            refine HF.out.mono ?_
            rintro e' w' ⟨rfl, rfl⟩
            go_wp2_with fail
            go_ret
            exact ⟨rfl, hbw8⟩
      · have hfh : rg hi < INF := hone.resolve_left hfl
        have HD1 := Lib.hid (fdyad_inf lo w5 hllt (by omega))
        go_wp2_with fail
        refine HD1.out.mono ?_
        rintro e' w6a ⟨rfl, hba1⟩
        have hbb1 := below_alloc w6a (.cells #[.bool false, .slice none 0 0, .int .i64 0] 63)
        have hcc1 := heap_alloc_new w6a (.cells #[.bool false, .slice none 0 0, .int .i64 0] 63)
        have hbt1 := hba1.trans (hbb1.mono hba1.size)
        have hbw6 := hbw5.trans (hbt1.mono hbw5.size)
        have hc6 := slot_kept hc5 hbt1
        have hn6 := hn5.below hbt1
        have hT6 := hT5.below hbt1
        have HD2 := Lib.hid (fdyad_num hi (w6a.alloc (.cells #[.bool false, .slice none 0 0, .int .i64 0] 63)) hhlt hfh (hT6))
        go_wp2_with fail
        refine HD2.out.mono ?_
        rintro e' w7a ⟨p2, a2, n2, c2, N2, E2, rfl, hN2, hEl2, hEh2, hv2, ho2, -, hba2⟩
        obtain ⟨w7, hw7⟩ : ∃ w7, w7a.alloc (.cells #[.bool p2, .slice a2 n2 c2, .int .i64 E2] 63) = w7 := ⟨_, rfl⟩
        have hbb2 : Below w7a.heap.size w7a w7 := hw7 ▸ below_alloc w7a _
        have hcc2 : w7.heap[w7a.heap.size]? = some (.cells #[.bool p2, .slice a2 n2 c2, .int .i64 E2] 63 (0, 0)) := hw7 ▸ heap_alloc_new w7a _
        have hbt2 := hba2.trans (hbb2.mono hba2.size)
        have hbw7 := hbw6.trans (hbt2.mono hbw6.size)
        have hc7 := slot_kept hc6 hbt2
        have hn7 := hn6.below hbt2
        have hcc1' := slot_kept hcc1 hbt2
        obtain ⟨r2, hr2, HC2⟩ := HCHH.out w7 p2 a2 n2 c2 N2 E2 hEl2 hEh2 hv2 ho2 hfh ((hN2.num.mono (by decide : 1 ≤ 40)).below hbb2) hn7
        obtain ⟨⟨x0, x1, x2⟩, -⟩ := slot3 hcc2
        obtain ⟨⟨y0, y1, y2⟩, -⟩ := slot3 hc7
        go_wp2_with fail
        refine HC2.out.mono ?_
        rintro e' w9 ⟨rfl, hb9⟩
        have hbw9 := hbw7.trans (hb9.mono hbw7.size)
        clear x0 x1 x2 y0 y1 y2
        have HF := Lib.hid (finite_num b w9 hb)
        rcases HVH.out with ⟨hfin, HST⟩ | hinf
        · rw [decide_eq_true hfin] at HF
          have hst := HST.out
          have hbI : rg b ≤ INF := Nat.le_of_lt hfin
          have HU := Lib.hid (step_num b 1 w9 hb hbI)
          have HDn := Lib.hid (step_num b (-1) w9 hb hbI)
          have HUB := Lib.hid (step_num (stepW b false) (-1) w9 hst.up_lt hst.up_rg)
          have HDB := Lib.hid (step_num (stepW b true) 1 w9 hst.dn_lt hst.dn_rg)
          rw [show decide ((1 : Int) < 0) = false by decide] at HU HDB
          rw [show decide ((-1 : Int) < 0) = true by decide] at HDn HUB
          have o1 : (FloatKind.f64.format.order (stepW b false) b == some Ordering.gt) = true := by rw [fgt_num hst.up_rg hbI]; exact decide_eq_true hst.up
          have o2 : (FloatKind.f64.format.order (stepW b true) b == some Ordering.lt) = true := by rw [flt_num hst.dn_rg hbI]; exact decide_eq_true hst.dn
          have o3 : (FloatKind.f64.format.order (stepW (stepW b false) true) b == some Ordering.eq) = true := by rw [feq_num hst.ub_rg hbI]; exact decide_eq_true hst.ub
          have o4 : (FloatKind.f64.format.order (stepW (stepW b true) false) b == some Ordering.eq) = true := by rw [feq_num hst.db_rg hbI]; exact decide_eq_true hst.db
          clear hst
          go_wp2_with fail
          refine HF.out.mono ?_
          rintro e' w' ⟨rfl, rfl⟩
          go_wp2_with fail
          refine HU.out.mono ?_
          rintro e' w' ⟨rfl, rfl⟩
          go_wp2_with fail
          refine HDn.out.mono ?_
          rintro e' w' ⟨rfl, rfl⟩
          go_wp2_with fail
          refine HUB.out.mono ?_
          rintro e' w' ⟨rfl, rfl⟩
          go_wp2_with fail
          refine HDB.out.mono ?_
          rintro e' w' ⟨rfl, rfl⟩
          go_wp2_with fail
          go_ret
          exact ⟨rfl, hbw9⟩
        · rw [decide_eq_false hinf] at HF
          go_wp2_with fail
          refine HF.out.mono ?_
          rintro e' w' ⟨rfl, rfl⟩
          go_wp2_with fail
          go_ret
          exact ⟨rfl, hbw9⟩

set_option maxRecDepth 100000 in
theorem btw_heavy (p : Bool) (aA : Option Addr) (nA cA : Nat) (E : Int) (b : Nat) (w : World) (h : 40 < nA ∨ E < -3000 ∨ 3000 < E) (hn : nA ≤ 9223372036854775807) (hT : Tab64 w) :
    Calls Tryd.prog 5 #[.agg #[.bool p, .slice aA nA cA, .int .i64 E], .float .f64 b] w fun e' w' => RetV w (.bool true) e' w' := by
  obtain ⟨w0, hw0⟩ : ∃ w0, w.alloc (.cells #[.bool p, .slice aA nA cA, .int .i64 E] 59) = w0 := ⟨_, rfl⟩
  have hb0 : Below w.heap.size w w0 := hw0 ▸ below_alloc w _
  have hc0 : w0.heap[w.heap.size]? = some (.cells #[.bool p, .slice aA nA cA, .int .i64 E] 59 (0, 0)) := hw0 ▸ heap_alloc_new w _
  obtain ⟨⟨k0, k1, k2⟩, -⟩ := slot3 hc0
  have hli := light3_num (w := w0) p aA nA cA E 59 hn
  rw [show (decide (nA ≤ 40) && !(decide (E < -3000)) && !(decide (3000 < E))) = false by
    rcases h with h | h | h
    · rw [decide_eq_false (by omega)]; rfl
    · rw [decide_eq_true h]; simp
    · rw [decide_eq_true h]; simp] at hli
  have HLI := Lib.hid hli
  have hbL := below_alloc w0 (.cells #[.bool p, .slice aA nA cA, .int .i64 E] 59)
  clear hli h
  go_enter Tryd.func5, Tryd.ntmps5
  go_wp2_with fail
  refine HLI.out.mono ?_
  rintro e' w1 ⟨rfl, hb1⟩
  have hb01 := hbL.trans (hb1.mono hbL.size)
  have hbw1 := hb0.trans (hb01.mono hb0.size)
  go_wp2_with fail
  refine (flive_yes _ ((hT.below hb0).below hb01)).mono ?_
  rintro e' w2 ⟨rfl, hb2⟩
  go_wp2_with fail
  go_ret
  exact ⟨rfl, hbw1.trans (hb2.mono hbw1.size)⟩
end Go.Proofs.YtfanhllcoaondaaDoor
