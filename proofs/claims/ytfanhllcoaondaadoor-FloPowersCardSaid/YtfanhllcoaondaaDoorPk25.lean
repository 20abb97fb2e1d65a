/-
  RefZC: The document's dyads as integers: Cmp.
  RefZR: The document's dyads as integers: Same.
  Whole5: Package whole: Floor, and integers in their one form as values.
  RefFloor: compasslaw2.floor: the document's quotient of integers, rounded down or up.
  LawIs: compasslaw2.Is: a real integer is the document's, laid as it should be.
  LawIs2: compasslaw2.Is at the level of integers: a result in its one form is the document's.
  WShiftsL: The walk of the statement WholeShifts.
-/
import Derived.Test.YtfanhllcoaondaaDoorPk24
import Derived.Test.YtfanhllcoaondaaDoorPk20
import Derived.Test.YtfanhllcoaondaaDoorPk21

namespace Go.Proofs.YtfanhllcoaondaaDoor
open Go.RowKit
theorem sign_tri {Z s : Int} (h : cmpI Z 0 = s) : (Z < 0 ∧ s = -1) ∨ (Z = 0 ∧ s = 0) ∨ (0 < Z ∧ s = 1) := by
  rcases Int.lt_trichotomy Z 0 with h0 | h0 | h0
  · left; rw [cmpI_lt h0] at h; exact ⟨h0, h.symm⟩
  · right; left; rw [h0] at h; exact ⟨h0, h.symm⟩
  · right; right; rw [cmpI_gt h0] at h; exact ⟨h0, h.symm⟩
theorem zcmp_signs {Zx Zy s t : Int} (hx : cmpI Zx 0 = s) (hy : cmpI Zy 0 = t) (h : s < t) : cmpI Zx Zy = -1 := by
  have h1 := sign_tri hx
  have h2 := sign_tri hy
  exact cmpI_lt (by omega)
theorem zcmp_signs' {Zx Zy s t : Int} (hx : cmpI Zx 0 = s) (hy : cmpI Zy 0 = t) (h : t < s) : cmpI Zx Zy = 1 := by
  have h1 := sign_tri hx
  have h2 := sign_tri hy
  exact cmpI_gt (by omega)
theorem zcmp_zeros {Zx Zy s t : Int} (hx : cmpI Zx 0 = s) (hy : cmpI Zy 0 = t) (h : s = 0) (h' : t = 0) : cmpI Zx Zy = 0 := by
  have h1 := sign_tri hx
  have h2 := sign_tri hy
  obtain rfl : Zx = 0 := by omega
  obtain rfl : Zy = 0 := by omega
  rfl
theorem cmp_sub {A B : Int} : cmpI (A - B) 0 = cmpI A B := by
  rcases Int.lt_trichotomy A B with h | h | h
  · rw [cmpI_lt h, cmpI_lt (by omega)]
  · subst h; rw [Int.sub_self]; unfold cmpI; simp
  · rw [cmpI_gt h, cmpI_gt (by omega)]
theorem nb_lt {A B : Int} (hA : 0 < A) (hB : 0 < B) (h : nb A < nb B) : A < B := by
  obtain ⟨-, h1, -⟩ := nb_spec hA
  obtain ⟨h2, -, -⟩ := nb_spec hB
  obtain ⟨d, hd⟩ : ∃ d, nb B - 1 = nb A + d := ⟨nb B - 1 - nb A, by omega⟩
  rw [hd, Int.pow_add] at h2
  have h3 := pow2_pos (nb A)
  have h4 := pow2_pos d
  have h5 : (2 : Int) ^ nb A * 1 ≤ 2 ^ nb A * 2 ^ d := Int.mul_le_mul_of_nonneg_left (by omega) (by omega)
  omega
theorem cmp_tops {Zx Zy s : Int} {T1 T2 : Nat} (hx : cmpI Zx 0 = s) (hy : cmpI Zy 0 = s) (hs : ¬s = 0) (h1 : nb (absI Zx) = T1) (h2 : nb (absI Zy) = T2) (hT : ¬T1 = T2) : cmpI Zx Zy = if (decide (T1 < T2) == decide (0 < s)) = true then -1 else 1 := by
  have hx' := sign_tri hx
  have hy' := sign_tri hy
  by_cases h0 : 0 < s
  · have ex : absI Zx = Zx := if_neg (by omega)
    have ey : absI Zy = Zy := if_neg (by omega)
    rw [ex] at h1
    rw [ey] at h2
    by_cases hlt : T1 < T2
    · rw [if_pos (by simp; omega), cmpI_lt (nb_lt (by omega) (by omega) (by omega))]
    · rw [if_neg (by simp; omega), cmpI_gt (nb_lt (by omega) (by omega) (by omega))]
  · have ex : absI Zx = -Zx := if_pos (by omega)
    have ey : absI Zy = -Zy := if_pos (by omega)
    rw [ex] at h1
    rw [ey] at h2
    by_cases hlt : T1 < T2
    · have := nb_lt (A := -Zx) (B := -Zy) (by omega) (by omega) (by omega)
      rw [if_neg (by simp; omega), cmpI_gt (by omega)]
    · have := nb_lt (A := -Zy) (B := -Zx) (by omega) (by omega) (by omega)
      rw [if_pos (by simp; omega), cmpI_lt (by omega)]
set_option maxRecDepth 100000 in
set_option maxHeartbeats 1200000 in
theorem rzcmp_num {w : World} {p q : Bool} {a a2 : Option Addr} {n c n2 c2 E G : Nat} {Zx Zy : Int} {m k b d : Nat} (P : Nat) (hX : RZ w (.agg #[.bool p, .slice a n c, .int .i64 (E : Int)]) Zx m b) (hY : RZ w (.agg #[.bool q, .slice a2 n2 c2, .int .i64 (G : Int)]) Zy k d) (hmP : m + b / 32 + 1 < P) (hkP : k + (d + 32 * k) / 32 + 1 < P) (hP : P ≤ 10000) (hb : b ≤ 200000) (hd : d + 32 * k ≤ 200000) :
    Calls Tryd.prog 16 #[.agg #[.bool p, .slice a n c, .int .i64 (E : Int)], .agg #[.bool q, .slice a2 n2 c2, .int .i64 (G : Int)]] w fun e w' => RetV w (.int .i64 (cmpI Zx Zy)) e w' := by
  obtain ⟨r, hr⟩ : ∃ r, b + d + 32 * k + 32 * P = r := ⟨_, rfl⟩
  have hbS : b + 32 * P ≤ r := by omega
  have hdS : d + 32 * k + 32 * P ≤ r := by omega
  have hb9 : b ≤ 1000000 := by omega
  have hd9 : d ≤ 1000000 := by omega
  have hm9 : m ≤ 10000 := by omega
  have hk9 : k ≤ 10000 := by omega
  clear hr
  obtain ⟨s, hsx⟩ : ∃ s, cmpI Zx 0 = s := ⟨_, rfl⟩
  obtain ⟨t, hsy⟩ : ∃ t, cmpI Zy 0 = t := ⟨_, rfl⟩
  obtain ⟨w1, hw1⟩ : ∃ w1, w.alloc (.cells #[.bool p, .slice a n c, .int .i64 (E : Int)] 31) = w1 := ⟨_, rfl⟩
  obtain ⟨w2, hw2⟩ : ∃ w2, w1.alloc (.cells #[.bool q, .slice a2 n2 c2, .int .i64 (G : Int)] 31) = w2 := ⟨_, rfl⟩
  have hb1 : Below w.heap.size w w1 := hw1 ▸ below_alloc w _
  have hb12 : Below w1.heap.size w1 w2 := hw2 ▸ below_alloc w1 _
  have hbw2 : Below w.heap.size w w2 := hb1.trans (hb12.mono hb1.size)
  have hc1 : w2.heap[w.heap.size]? = some (.cells #[.bool p, .slice a n c, .int .i64 (E : Int)] 31 (0, 0)) := slot_kept (hw1 ▸ heap_alloc_new w _) hb12
  have hc2 : w2.heap[w1.heap.size]? = some (.cells #[.bool q, .slice a2 n2 c2, .int .i64 (G : Int)] 31 (0, 0)) := hw2 ▸ heap_alloc_new w1 _
  replace hX := hX.below hbw2
  replace hY := hY.below hbw2
  clear hb12
  go_enter Tryd.func16, Tryd.ntmps16
  go_upto_region 1 with fail
  refine wp_region_slots (by kernel_rfl) [7, 8, 9, 10, 5, 6] (fun w' => w'.heap[w.heap.size]? = some (.cells #[.bool p, .slice a n c, .int .i64 (E : Int)] 31 (0, 0)) ∧ w'.heap[w1.heap.size]? = some (.cells #[.bool q, .slice a2 n2 c2, .int .i64 (G : Int)] 31 (0, 0)) ∧ RZ w' (.agg #[.bool p, .slice a n c, .int .i64 (E : Int)]) Zx m b ∧ RZ w' (.agg #[.bool q, .slice a2 n2 c2, .int .i64 (G : Int)]) Zy k d ∧ Below w2.heap.size w2 w') (Said [Is (.agg #[.bool p, .slice a n c, .int .i64 (E : Int)]), Is (.int .i64 s), Is (.agg #[.bool q, .slice a2 n2 c2, .int .i64 (G : Int)]), Is (.int .i64 t), Is (.int .i64 s), Is (.int .i64 t)]) (by kernel_rfl) (by kernel_rfl) (by kernel_rfl) (by kernel_rfl) (Said.keep ?keep) ⟨slot_kept hc1 (bdn (Below.refl _ _) 1), slot_kept hc2 (bdn (Below.refl _ _) 1), hX.below (bdn (Below.refl _ _) 1), hY.below (bdn (Below.refl _ _) 1), bdn (Below.refl _ _) 1⟩ (l := [0, 1, 2, 3, 4, 5]) (by kernel_rfl) ?step ?fin
  case keep =>
    refine List.forall_mem_cons.2 ⟨Is.keeps _, ?_⟩
    refine List.forall_mem_cons.2 ⟨Is.keeps _, ?_⟩
    refine List.forall_mem_cons.2 ⟨Is.keeps _, ?_⟩
    refine List.forall_mem_cons.2 ⟨Is.keeps _, ?_⟩
    refine List.forall_mem_cons.2 ⟨Is.keeps _, ?_⟩
    refine List.forall_mem_cons.2 ⟨Is.keeps _, ?_⟩
    exact fun _ h => nomatch h
  case step =>
    refine List.forall_mem_cons.2 ⟨?_, ?_⟩
    · refine SlotStep.plain rfl rfl rfl ?_
      intro tm ws hsame hS hg K hK
      have e2 : tm[2]? = some (.pointer (some ⟨w.heap.size, 0, none⟩)) := hsame.2 2 rfl
      obtain ⟨⟨k0, k1, k2⟩, -⟩ := slot3 hS.1
      go_simp
      exact hK _ _ (Below.refl _ _) hS rfl
    refine List.forall_mem_cons.2 ⟨?_, ?_⟩
    · refine SlotStep.plain rfl rfl rfl ?_
      intro tm ws hsame hS hg K hK
      obtain ⟨v7, e7, rfl⟩ := hg 0 (by kernel_rfl) _ 7 rfl rfl
      go_simp
      refine (rsign_num hS.2.2.1).mono ?_
      rw [hsx]
      rintro e wm ⟨rfl, hb⟩
      exact hK _ _ hb (⟨slot_kept hS.1 (hb), slot_kept hS.2.1 (hb), hS.2.2.1.below (hb), hS.2.2.2.1.below (hb), hS.2.2.2.2.trans (Below.mono (hb) hS.2.2.2.2.size)⟩) rfl
    refine List.forall_mem_cons.2 ⟨?_, ?_⟩
    · refine SlotStep.plain rfl rfl rfl ?_
      intro tm ws hsame hS hg K hK
      have e3 : tm[3]? = some (.pointer (some ⟨w1.heap.size, 0, none⟩)) := hsame.2 3 rfl
      obtain ⟨⟨k0, k1, k2⟩, -⟩ := slot3 hS.2.1
      go_simp
      exact hK _ _ (Below.refl _ _) hS rfl
    refine List.forall_mem_cons.2 ⟨?_, ?_⟩
    · refine SlotStep.plain rfl rfl rfl ?_
      intro tm ws hsame hS hg K hK
      obtain ⟨v9, e9, rfl⟩ := hg 2 (by kernel_rfl) _ 9 rfl rfl
      go_simp
      refine (rsign_num hS.2.2.2.1).mono ?_
      rw [hsy]
      rintro e wm ⟨rfl, hb⟩
      exact hK _ _ hb (⟨slot_kept hS.1 (hb), slot_kept hS.2.1 (hb), hS.2.2.1.below (hb), hS.2.2.2.1.below (hb), hS.2.2.2.2.trans (Below.mono (hb) hS.2.2.2.2.size)⟩) rfl
    refine List.forall_mem_cons.2 ⟨?_, ?_⟩
    · refine SlotStep.plain rfl rfl rfl ?_
      intro tm ws hsame hS hg K hK
      obtain ⟨v8, e8, rfl⟩ := hg 1 (by kernel_rfl) _ 8 rfl rfl
      go_simp
      exact hK _ _ (Below.refl _ _) hS rfl
    refine List.forall_mem_cons.2 ⟨?_, ?_⟩
    · refine SlotStep.plain rfl rfl rfl ?_
      intro tm ws hsame hS hg K hK
      obtain ⟨v10, e10, rfl⟩ := hg 3 (by kernel_rfl) _ 10 rfl rfl
      go_simp
      exact hK _ _ (Below.refl _ _) hS rfl
    exact fun _ h => nomatch h
  case fin =>
    intro tm w4 hsame hS hgot
    obtain ⟨u, hu, htm⟩ := hsame.form (by kernel_rfl)
    obtain ⟨v5, e5, rfl⟩ := hgot 4 _ 5 rfl rfl
    have h5 := hu _ _ e5
    obtain ⟨v6, e6, rfl⟩ := hgot 5 _ 6 rfl rfl
    have h6 := hu _ _ e6
    obtain ⟨hc1, hc2, hX, hY, hbn⟩ := hS
    have hbw4 := hbw2.trans (hbn.mono hbw2.size)
    clear hbn hgot hu hsame e5 e6
    rw [htm]
    clear htm tm
    simp only [List.foldl_cons, List.foldl_nil, List.setIfInBounds_toArray, List.set_cons_zero, List.set_cons_succ, h5, h6]
    clear h5 h6
    rcases Int.lt_trichotomy s t with hst | hst | hst
    · have HR := Lib.hid (zcmp_signs hsx hsy hst)
      have hne : (s == t) = false := by simp; omega
      clear hsx hsy
      go_wp2_with fail
      go_ret
      exact ⟨by rw [HR.out]; rfl, hbw4⟩
    · subst hst
      by_cases hsn : s = 0
      · have HR : Hid (cmpI Zx Zy = 0) := Lib.hid (zcmp_zeros hsx hsy hsn hsn)
        have hs0 : (s == 0) = true := by simp; omega
        clear hsx hsy hsn
        go_wp2_with fail
        go_ret
        exact ⟨by rw [HR.out]; rfl, hbw4⟩
      · have hs0 : (s == 0) = false := by simp; omega
        obtain ⟨T1, hT1⟩ : ∃ T1, nb (absI Zx) = T1 := ⟨_, rfl⟩
        obtain ⟨T2, hT2⟩ : ∃ T2, nb (absI Zy) = T2 := ⟨_, rfl⟩
        have HT1 := Lib.hid hT1
        have HT2 := Lib.hid hT2
        clear hT1 hT2
        by_cases hT : T1 = T2
        · have hnq : ((T1 : Int) != (T2 : Int)) = false := by simp; omega
          clear hsx hsy hT hsn
          go_upto_region 8 with fail
          refine wp_region_slots (by kernel_rfl) [28, 29, 30, 31, 32, 27] (fun w' => w'.heap[w.heap.size]? = some (.cells #[.bool p, .slice a n c, .int .i64 (E : Int)] 31 (0, 0)) ∧ w'.heap[w1.heap.size]? = some (.cells #[.bool q, .slice a2 n2 c2, .int .i64 (G : Int)] 31 (0, 0)) ∧ RZ w' (.agg #[.bool p, .slice a n c, .int .i64 (E : Int)]) Zx m b ∧ RZ w' (.agg #[.bool q, .slice a2 n2 c2, .int .i64 (G : Int)]) Zy k d ∧ Below w4.heap.size w4 w') (Said [Is (.agg #[.bool p, .slice a n c, .int .i64 (E : Int)]), Is (.int .i64 (T1 : Int)), Is (.agg #[.bool q, .slice a2 n2 c2, .int .i64 (G : Int)]), Is (.int .i64 (T2 : Int)), Is (.bool false), Is (.bool false)]) (by kernel_rfl) (by kernel_rfl) (by kernel_rfl) (by kernel_rfl) (Said.keep ?keep) ⟨slot_kept hc1 (bdn (Below.refl _ _) 1), slot_kept hc2 (bdn (Below.refl _ _) 1), hX.below (bdn (Below.refl _ _) 1), hY.below (bdn (Below.refl _ _) 1), bdn (Below.refl _ _) 1⟩ (l := [0, 1, 2, 3, 4, 5]) (by kernel_rfl) ?step ?fin
          case keep =>
            refine List.forall_mem_cons.2 ⟨Is.keeps _, ?_⟩
            refine List.forall_mem_cons.2 ⟨Is.keeps _, ?_⟩
            refine List.forall_mem_cons.2 ⟨Is.keeps _, ?_⟩
            refine List.forall_mem_cons.2 ⟨Is.keeps _, ?_⟩
            refine List.forall_mem_cons.2 ⟨Is.keeps _, ?_⟩
            refine List.forall_mem_cons.2 ⟨Is.keeps _, ?_⟩
            exact fun _ h => nomatch h
          case step =>
            refine List.forall_mem_cons.2 ⟨?_, ?_⟩
            · refine SlotStep.plain rfl rfl rfl ?_
              intro tm ws hsame hS hg K hK
              have e2 : tm[2]? = some (.pointer (some ⟨w.heap.size, 0, none⟩)) := hsame.2 2 rfl
              obtain ⟨⟨k0, k1, k2⟩, -⟩ := slot3 hS.1
              go_simp
              exact hK _ _ (Below.refl _ _) hS rfl
            refine List.forall_mem_cons.2 ⟨?_, ?_⟩
            · refine SlotStep.plain rfl rfl rfl ?_
              intro tm ws hsame hS hg K hK
              obtain ⟨v28, e28, rfl⟩ := hg 0 (by kernel_rfl) _ 28 rfl rfl
              go_simp
              refine (rtop_num hS.2.2.1 hb9 hm9).mono ?_
              rw [HT1.out]
              rintro e wm ⟨rfl, hb⟩
              exact hK _ _ hb (⟨slot_kept hS.1 (hb), slot_kept hS.2.1 (hb), hS.2.2.1.below (hb), hS.2.2.2.1.below (hb), hS.2.2.2.2.trans (Below.mono (hb) hS.2.2.2.2.size)⟩) rfl
            refine List.forall_mem_cons.2 ⟨?_, ?_⟩
            · refine SlotStep.plain rfl rfl rfl ?_
              intro tm ws hsame hS hg K hK
              have e3 : tm[3]? = some (.pointer (some ⟨w1.heap.size, 0, none⟩)) := hsame.2 3 rfl
              obtain ⟨⟨k0, k1, k2⟩, -⟩ := slot3 hS.2.1
              go_simp
              exact hK _ _ (Below.refl _ _) hS rfl
            refine List.forall_mem_cons.2 ⟨?_, ?_⟩
            · refine SlotStep.plain rfl rfl rfl ?_
              intro tm ws hsame hS hg K hK
              obtain ⟨v30, e30, rfl⟩ := hg 2 (by kernel_rfl) _ 30 rfl rfl
              go_simp
              refine (rtop_num hS.2.2.2.1 hd9 hk9).mono ?_
              rw [HT2.out]
              rintro e wm ⟨rfl, hb⟩
              exact hK _ _ hb (⟨slot_kept hS.1 (hb), slot_kept hS.2.1 (hb), hS.2.2.1.below (hb), hS.2.2.2.1.below (hb), hS.2.2.2.2.trans (Below.mono (hb) hS.2.2.2.2.size)⟩) rfl
            refine List.forall_mem_cons.2 ⟨?_, ?_⟩
            · refine SlotStep.plain rfl rfl rfl ?_
              intro tm ws hsame hS hg K hK
              obtain ⟨v29, e29, rfl⟩ := hg 1 (by kernel_rfl) _ 29 rfl rfl
              obtain ⟨v31, e31, rfl⟩ := hg 3 (by kernel_rfl) _ 31 rfl rfl
              go_simp
              exact hK _ _ (Below.refl _ _) hS (by first | rfl | exact congrArg Value.bool hnq)
            refine List.forall_mem_cons.2 ⟨?_, ?_⟩
            · refine SlotStep.plain rfl rfl rfl ?_
              intro tm ws hsame hS hg K hK
              obtain ⟨v32, e32, rfl⟩ := hg 4 (by kernel_rfl) _ 32 rfl rfl
              go_simp
              exact hK _ _ (Below.refl _ _) hS rfl
            exact fun _ h => nomatch h
          case fin =>
            intro tm w6 hsame hS hgot
            obtain ⟨u, hu, htm⟩ := hsame.form (by kernel_rfl)
            obtain ⟨v27, e27, rfl⟩ := hgot 5 _ 27 rfl rfl
            have h27 := hu _ _ e27
            obtain ⟨hc1, hc2, hX, hY, hbn⟩ := hS
            have hbw6 := hbw4.trans (hbn.mono hbw4.size)
            clear hbn hgot hu hsame e27
            rw [htm]
            clear htm tm
            simp only [List.foldl_cons, List.foldl_nil, List.setIfInBounds_toArray, List.set_cons_zero, List.set_cons_succ, h27]
            clear h27
            obtain ⟨⟨kx0, kx1, kx2⟩, -⟩ := slot3 hc1
            obtain ⟨⟨ky0, ky1, ky2⟩, -⟩ := slot3 hc2
            go_wp2_with fail
            refine (rzsub_num P r hX hY hmP hkP hP hb hd hbS hdS).mono ?_
            rintro e w8 ⟨pR, aR, nR, cR, ER, rfl, hR, hb8⟩
            go_wp2_with fail
            refine (rsign_num hR).mono ?_
            rw [cmp_sub]
            rintro e w9 ⟨rfl, hb9'⟩
            go_wp2_with fail
            go_ret
            exact ⟨rfl, (hbw6.trans (hb8.mono hbw6.size)).trans (hb9'.mono (hbw6.trans (hb8.mono hbw6.size)).size)⟩
        · have hnq : ((T1 : Int) != (T2 : Int)) = true := by simp; omega
          go_upto_region 8 with fail
          refine wp_region_slots (by kernel_rfl) [28, 29, 30, 31, 32, 27] (fun w' => w'.heap[w.heap.size]? = some (.cells #[.bool p, .slice a n c, .int .i64 (E : Int)] 31 (0, 0)) ∧ w'.heap[w1.heap.size]? = some (.cells #[.bool q, .slice a2 n2 c2, .int .i64 (G : Int)] 31 (0, 0)) ∧ RZ w' (.agg #[.bool p, .slice a n c, .int .i64 (E : Int)]) Zx m b ∧ RZ w' (.agg #[.bool q, .slice a2 n2 c2, .int .i64 (G : Int)]) Zy k d ∧ Below w4.heap.size w4 w') (Said [Is (.agg #[.bool p, .slice a n c, .int .i64 (E : Int)]), Is (.int .i64 (T1 : Int)), Is (.agg #[.bool q, .slice a2 n2 c2, .int .i64 (G : Int)]), Is (.int .i64 (T2 : Int)), Is (.bool true), Is (.bool true)]) (by kernel_rfl) (by kernel_rfl) (by kernel_rfl) (by kernel_rfl) (Said.keep ?keep) ⟨slot_kept hc1 (bdn (Below.refl _ _) 1), slot_kept hc2 (bdn (Below.refl _ _) 1), hX.below (bdn (Below.refl _ _) 1), hY.below (bdn (Below.refl _ _) 1), bdn (Below.refl _ _) 1⟩ (l := [0, 1, 2, 3, 4, 5]) (by kernel_rfl) ?step ?fin
          case keep =>
            refine List.forall_mem_cons.2 ⟨Is.keeps _, ?_⟩
            refine List.forall_mem_cons.2 ⟨Is.keeps _, ?_⟩
            refine List.forall_mem_cons.2 ⟨Is.keeps _, ?_⟩
            refine List.forall_mem_cons.2 ⟨Is.keeps _, ?_⟩
            refine List.forall_mem_cons.2 ⟨Is.keeps _, ?_⟩
            refine List.forall_mem_cons.2 ⟨Is.keeps _, ?_⟩
            exact fun _ h => nomatch h
          case step =>
            refine List.forall_mem_cons.2 ⟨?_, ?_⟩
            · refine SlotStep.plain rfl rfl rfl ?_
              intro tm ws hsame hS hg K hK
              have e2 : tm[2]? = some (.pointer (some ⟨w.heap.size, 0, none⟩)) := hsame.2 2 rfl
              obtain ⟨⟨k0, k1, k2⟩, -⟩ := slot3 hS.1
              go_simp
              exact hK _ _ (Below.refl _ _) hS rfl
            refine List.forall_mem_cons.2 ⟨?_, ?_⟩
            · refine SlotStep.plain rfl rfl rfl ?_
              intro tm ws hsame hS hg K hK
              obtain ⟨v28, e28, rfl⟩ := hg 0 (by kernel_rfl) _ 28 rfl rfl
              go_simp
              refine (rtop_num hS.2.2.1 hb9 hm9).mono ?_
              rw [HT1.out]
              rintro e wm ⟨rfl, hb⟩
              exact hK _ _ hb (⟨slot_kept hS.1 (hb), slot_kept hS.2.1 (hb), hS.2.2.1.below (hb), hS.2.2.2.1.below (hb), hS.2.2.2.2.trans (Below.mono (hb) hS.2.2.2.2.size)⟩) rfl
            refine List.forall_mem_cons.2 ⟨?_, ?_⟩
            · refine SlotStep.plain rfl rfl rfl ?_
              intro tm ws hsame hS hg K hK
              have e3 : tm[3]? = some (.pointer (some ⟨w1.heap.size, 0, none⟩)) := hsame.2 3 rfl
              obtain ⟨⟨k0, k1, k2⟩, -⟩ := slot3 hS.2.1
              go_simp
              exact hK _ _ (Below.refl _ _) hS rfl
            refine List.forall_mem_cons.2 ⟨?_, ?_⟩
            · refine SlotStep.plain rfl rfl rfl ?_
              intro tm ws hsame hS hg K hK
              obtain ⟨v30, e30, rfl⟩ := hg 2 (by kernel_rfl) _ 30 rfl rfl
              go_simp
              refine (rtop_num hS.2.2.2.1 hd9 hk9).mono ?_
              rw [HT2.out]
              rintro e wm ⟨rfl, hb⟩
              exact hK _ _ hb (⟨slot_kept hS.1 (hb), slot_kept hS.2.1 (hb), hS.2.2.1.below (hb), hS.2.2.2.1.below (hb), hS.2.2.2.2.trans (Below.mono (hb) hS.2.2.2.2.size)⟩) rfl
            refine List.forall_mem_cons.2 ⟨?_, ?_⟩
            · refine SlotStep.plain rfl rfl rfl ?_
              intro tm ws hsame hS hg K hK
              obtain ⟨v29, e29, rfl⟩ := hg 1 (by kernel_rfl) _ 29 rfl rfl
              obtain ⟨v31, e31, rfl⟩ := hg 3 (by kernel_rfl) _ 31 rfl rfl
              go_simp
              exact hK _ _ (Below.refl _ _) hS (by first | rfl | exact congrArg Value.bool hnq)
            refine List.forall_mem_cons.2 ⟨?_, ?_⟩
            · refine SlotStep.plain rfl rfl rfl ?_
              intro tm ws hsame hS hg K hK
              obtain ⟨v32, e32, rfl⟩ := hg 4 (by kernel_rfl) _ 32 rfl rfl
              go_simp
              exact hK _ _ (Below.refl _ _) hS rfl
            exact fun _ h => nomatch h
          case fin =>
            intro tm w6 hsame hS hgot
            obtain ⟨u, hu, htm⟩ := hsame.form (by kernel_rfl)
            obtain ⟨v27, e27, rfl⟩ := hgot 5 _ 27 rfl rfl
            have h27 := hu _ _ e27
            obtain ⟨hc1, hc2, hX, hY, hbn⟩ := hS
            have hbw6 := hbw4.trans (hbn.mono hbw4.size)
            clear hbn hgot hu hsame e27
            rw [htm]
            clear htm tm
            simp only [List.foldl_cons, List.foldl_nil, List.setIfInBounds_toArray, List.set_cons_zero, List.set_cons_succ, h27]
            clear h27
            obtain ⟨bl, hbl⟩ : ∃ bl, decide (T1 < T2) = bl := ⟨_, rfl⟩
            obtain ⟨bs, hbs⟩ : ∃ bs, decide (0 < s) = bs := ⟨_, rfl⟩
            have HB : Hid (cmpI Zx Zy = if (bl == bs) = true then -1 else 1) := by show _ = _; rw [← hbl, ← hbs]; exact cmp_tops hsx hsy hsn HT1.out HT2.out hT
            clear hsx hsy hsn hT
            go_upto_region 9 with fail
            refine wp_region_slots (by kernel_rfl) [33, 34, 35, 36, 37, 38, 39, 40] (fun w' => w'.heap[w.heap.size]? = some (.cells #[.bool p, .slice a n c, .int .i64 (E : Int)] 31 (0, 0)) ∧ w'.heap[w1.heap.size]? = some (.cells #[.bool q, .slice a2 n2 c2, .int .i64 (G : Int)] 31 (0, 0)) ∧ RZ w' (.agg #[.bool p, .slice a n c, .int .i64 (E : Int)]) Zx m b ∧ RZ w' (.agg #[.bool q, .slice a2 n2 c2, .int .i64 (G : Int)]) Zy k d ∧ Below w6.heap.size w6 w') (Said [Is (.agg #[.bool p, .slice a n c, .int .i64 (E : Int)]), Is (.int .i64 (T1 : Int)), Is (.agg #[.bool q, .slice a2 n2 c2, .int .i64 (G : Int)]), Is (.int .i64 (T2 : Int)), Is (.bool bl), Is (.int .i64 s), Is (.bool bs), Is (.bool (bl == bs))]) (by kernel_rfl) (by kernel_rfl) (by kernel_rfl) (by kernel_rfl) (Said.keep ?keep) ⟨slot_kept hc1 (bdn (Below.refl _ _) 1), slot_kept hc2 (bdn (Below.refl _ _) 1), hX.below (bdn (Below.refl _ _) 1), hY.below (bdn (Below.refl _ _) 1), bdn (Below.refl _ _) 1⟩ (l := [0, 1, 2, 3, 4, 5, 6, 7]) (by kernel_rfl) ?step ?fin
            case keep =>
              refine List.forall_mem_cons.2 ⟨Is.keeps _, ?_⟩
              refine List.forall_mem_cons.2 ⟨Is.keeps _, ?_⟩
              refine List.forall_mem_cons.2 ⟨Is.keeps _, ?_⟩
              refine List.forall_mem_cons.2 ⟨Is.keeps _, ?_⟩
              refine List.forall_mem_cons.2 ⟨Is.keeps _, ?_⟩
              refine List.forall_mem_cons.2 ⟨Is.keeps _, ?_⟩
              refine List.forall_mem_cons.2 ⟨Is.keeps _, ?_⟩
              refine List.forall_mem_cons.2 ⟨Is.keeps _, ?_⟩
              exact fun _ h => nomatch h
            case step =>
              refine List.forall_mem_cons.2 ⟨?_, ?_⟩
              · refine SlotStep.plain rfl rfl rfl ?_
                intro tm ws hsame hS hg K hK
                have e2 : tm[2]? = some (.pointer (some ⟨w.heap.size, 0, none⟩)) := hsame.2 2 rfl
                obtain ⟨⟨k0, k1, k2⟩, -⟩ := slot3 hS.1
                go_simp
                exact hK _ _ (Below.refl _ _) hS rfl
              refine List.forall_mem_cons.2 ⟨?_, ?_⟩
              · refine SlotStep.plain rfl rfl rfl ?_
                intro tm ws hsame hS hg K hK
                obtain ⟨v33, e33, rfl⟩ := hg 0 (by kernel_rfl) _ 33 rfl rfl
                go_simp
                refine (rtop_num hS.2.2.1 hb9 hm9).mono ?_
                rw [HT1.out]
                rintro e wm ⟨rfl, hb⟩
                exact hK _ _ hb (⟨slot_kept hS.1 (hb), slot_kept hS.2.1 (hb), hS.2.2.1.below (hb), hS.2.2.2.1.below (hb), hS.2.2.2.2.trans (Below.mono (hb) hS.2.2.2.2.size)⟩) rfl
              refine List.forall_mem_cons.2 ⟨?_, ?_⟩
              · refine SlotStep.plain rfl rfl rfl ?_
                intro tm ws hsame hS hg K hK
                have e3 : tm[3]? = some (.pointer (some ⟨w1.heap.size, 0, none⟩)) := hsame.2 3 rfl
                obtain ⟨⟨k0, k1, k2⟩, -⟩ := slot3 hS.2.1
                go_simp
                exact hK _ _ (Below.refl _ _) hS rfl
              refine List.forall_mem_cons.2 ⟨?_, ?_⟩
              · refine SlotStep.plain rfl rfl rfl ?_
                intro tm ws hsame hS hg K hK
                obtain ⟨v35, e35, rfl⟩ := hg 2 (by kernel_rfl) _ 35 rfl rfl
                go_simp
                refine (rtop_num hS.2.2.2.1 hd9 hk9).mono ?_
                rw [HT2.out]
                rintro e wm ⟨rfl, hb⟩
                exact hK _ _ hb (⟨slot_kept hS.1 (hb), slot_kept hS.2.1 (hb), hS.2.2.1.below (hb), hS.2.2.2.1.below (hb), hS.2.2.2.2.trans (Below.mono (hb) hS.2.2.2.2.size)⟩) rfl
              refine List.forall_mem_cons.2 ⟨?_, ?_⟩
              · refine SlotStep.plain rfl rfl rfl ?_
                intro tm ws hsame hS hg K hK
                obtain ⟨v34, e34, rfl⟩ := hg 1 (by kernel_rfl) _ 34 rfl rfl
                obtain ⟨v36, e36, rfl⟩ := hg 3 (by kernel_rfl) _ 36 rfl rfl
                go_simp
                exact hK _ _ (Below.refl _ _) hS (by first | rfl | exact congrArg Value.bool hbl)
              refine List.forall_mem_cons.2 ⟨?_, ?_⟩
              · refine SlotStep.plain rfl rfl rfl ?_
                intro tm ws hsame hS hg K hK
                have e5 : tm[5]? = some (.int .i64 s) := hsame.2 5 rfl
                go_simp
                exact hK _ _ (Below.refl _ _) hS rfl
              refine List.forall_mem_cons.2 ⟨?_, ?_⟩
              · refine SlotStep.plain rfl rfl rfl ?_
                intro tm ws hsame hS hg K hK
                obtain ⟨v38, e38, rfl⟩ := hg 5 (by kernel_rfl) _ 38 rfl rfl
                go_simp
                exact hK _ _ (Below.refl _ _) hS (by first | rfl | exact congrArg Value.bool hbs)
              refine List.forall_mem_cons.2 ⟨?_, ?_⟩
              · refine SlotStep.plain rfl rfl rfl ?_
                intro tm ws hsame hS hg K hK
                obtain ⟨v37, e37, rfl⟩ := hg 4 (by kernel_rfl) _ 37 rfl rfl
                obtain ⟨v39, e39, rfl⟩ := hg 6 (by kernel_rfl) _ 39 rfl rfl
                go_simp
                exact hK _ _ (Below.refl _ _) hS (by first | rfl | (cases bl <;> cases bs <;> rfl))
              exact fun _ h => nomatch h
            case fin =>
              intro tm w8 hsame hS hgot
              obtain ⟨u, hu, htm⟩ := hsame.form (by kernel_rfl)
              obtain ⟨v40, e40, rfl⟩ := hgot 7 _ 40 rfl rfl
              have h40 := hu _ _ e40
              obtain ⟨hc1, hc2, hX, hY, hbn⟩ := hS
              have hbw8 := hbw6.trans (hbn.mono hbw6.size)
              clear hbn hgot hu hsame e40
              rw [htm]
              clear htm tm
              simp only [List.foldl_cons, List.foldl_nil, List.setIfInBounds_toArray, List.set_cons_zero, List.set_cons_succ, h40]
              clear h40
              have hbr := HB.out
              cases hr : (bl == bs)
              · rw [hr] at hbr
                have HR : Hid (cmpI Zx Zy = 1) := Lib.hid hbr
                clear hbr
                go_wp2_with fail
                go_ret
                exact ⟨by rw [HR.out]; rfl, hbw8⟩
              · rw [hr] at hbr
                have HR : Hid (cmpI Zx Zy = -1) := Lib.hid hbr
                clear hbr
                go_wp2_with fail
                go_ret
                exact ⟨by rw [HR.out]; rfl, hbw8⟩
    · have HR := Lib.hid (zcmp_signs' hsx hsy hst)
      have hne : (s == t) = false := by simp; omega
      clear hsx hsy
      go_wp2_with fail
      go_ret
      exact ⟨by rw [HR.out]; rfl, hbw4⟩
end Go.Proofs.YtfanhllcoaondaaDoor

namespace Go.Proofs.YtfanhllcoaondaaDoor
open Go.RowKit
set_option maxRecDepth 100000 in
set_option maxHeartbeats 1200000 in
theorem rzsame_num {w : World} {p q : Bool} {a a2 : Option Addr} {n c n2 c2 E G : Nat} {Z : Int} {m k b d : Nat} (P : Nat) (hX : RZ w (.agg #[.bool p, .slice a n c, .int .i64 (E : Int)]) Z m b) (hY : RZ w (.agg #[.bool q, .slice a2 n2 c2, .int .i64 (G : Int)]) Z k d) (hmP : m + b / 32 + 1 < P) (hkP : k + (d + 32 * k) / 32 + 1 < P) (hP : P ≤ 10000) (hb : b ≤ 200000) (hd : d + 32 * k ≤ 200000) :
    Calls Tryd.prog 54 #[.agg #[.bool p, .slice a n c, .int .i64 (E : Int)], .agg #[.bool q, .slice a2 n2 c2, .int .i64 (G : Int)]] w fun e w' => RetV w (.bool true) e w' := by
  have hcz : cmpI Z Z = 0 := by unfold cmpI; simp
  obtain ⟨w1, hw1⟩ : ∃ w1, w.alloc (.cells #[.bool p, .slice a n c, .int .i64 (E : Int)] 31) = w1 := ⟨_, rfl⟩
  obtain ⟨w2, hw2⟩ : ∃ w2, w1.alloc (.cells #[.bool q, .slice a2 n2 c2, .int .i64 (G : Int)] 31) = w2 := ⟨_, rfl⟩
  have hb1 : Below w.heap.size w w1 := hw1 ▸ below_alloc w _
  have hb12 : Below w1.heap.size w1 w2 := hw2 ▸ below_alloc w1 _
  have hbw2 : Below w.heap.size w w2 := hb1.trans (hb12.mono hb1.size)
  have hc1 : w2.heap[w.heap.size]? = some (.cells #[.bool p, .slice a n c, .int .i64 (E : Int)] 31 (0, 0)) := slot_kept (hw1 ▸ heap_alloc_new w _) hb12
  have hc2 : w2.heap[w1.heap.size]? = some (.cells #[.bool q, .slice a2 n2 c2, .int .i64 (G : Int)] 31 (0, 0)) := hw2 ▸ heap_alloc_new w1 _
  obtain ⟨⟨kx0, kx1, kx2⟩, -⟩ := slot3 hc1
  obtain ⟨⟨ky0, ky1, ky2⟩, -⟩ := slot3 hc2
  replace hX := hX.below hbw2
  replace hY := hY.below hbw2
  clear hb12
  go_enter Tryd.func54, Tryd.ntmps54
  go_wp2_with fail
  refine (rzcmp_num P hX hY hmP hkP hP hb hd).mono ?_
  rw [hcz]
  rintro e w3 ⟨rfl, hb3⟩
  go_wp2_with fail
  go_ret
  exact ⟨rfl, hbw2.trans (hb3.mono hbw2.size)⟩

set_option maxRecDepth 100000 in
set_option maxHeartbeats 1200000 in
/-- compasslaw2.Ref: the document's dyad of a real integer. -/
theorem ref_num {w : World} {p : Bool} {a : Option Addr} {n c : Nat} {N : Int} {m : Nat} (h : Num w (.slice a n c) N m) (hm : m ≤ 5000) :
    Calls Tryd.prog 10 #[.agg #[.bool p, .slice a n c]] w fun e w' => RetZ w (sg p N) (2 * m) (64 * m) e w' := by
  obtain ⟨w1, hw1⟩ : ∃ w1, w.alloc (.cells #[.bool p, .slice a n c] 28) = w1 := ⟨_, rfl⟩
  obtain ⟨w2, hw2⟩ : ∃ w2, w1.alloc (.cells #[.bool false, .slice none 0 0, .int .i64 0] 31) = w2 := ⟨_, rfl⟩
  have hb1 : Below w.heap.size w w1 := hw1 ▸ below_alloc w _
  have hb12 : Below w1.heap.size w1 w2 := hw2 ▸ below_alloc w1 _
  have hbw2 : Below w.heap.size w w2 := hb1.trans (hb12.mono hb1.size)
  have hc1 : w2.heap[w.heap.size]? = some (.cells #[.bool p, .slice a n c] 28 (0, 0)) := slot_kept (hw1 ▸ heap_alloc_new w _) hb12
  have hc2 : w2.heap[w1.heap.size]? = some (.cells #[.bool false, .slice none 0 0, .int .i64 0] 31 (0, 0)) := hw2 ▸ heap_alloc_new w1 _
  replace h := h.below hbw2
  clear hb12
  go_enter Tryd.func10, Tryd.ntmps10
  go_upto_region 1 with fail
  refine wp_region_slots_tail (by kernel_rfl) 6 [3, 4, 5, 6, 7, 8] (fun w' => w'.heap[w.heap.size]? = some (.cells #[.bool p, .slice a n c] 28 (0, 0)) ∧ w'.heap[w1.heap.size]? = some (.cells #[.bool false, .slice none 0 0, .int .i64 0] 31 (0, 0)) ∧ Num w' (.slice a n c) N m ∧ Below w2.heap.size w2 w') (Said [Is (.pointer (some ⟨w.heap.size, 0, none⟩)), Is (.bool p), Is (.pointer (some ⟨w.heap.size, 1, none⟩)), Is (.slice a n c), IsRN N (2 * m), IsRZ (sg p N * 2 ^ 0) (2 * m) (0 + 32 * (2 * m))]) (by kernel_rfl) (by kernel_rfl) (by kernel_rfl) (by kernel_rfl) (by kernel_rfl) (Said.keep ?keep) ⟨slot_kept hc1 (bdn (Below.refl _ _) 1), slot_kept hc2 (bdn (Below.refl _ _) 1), h.below (bdn (Below.refl _ _) 1), bdn (Below.refl _ _) 1⟩ (l := [0, 1, 2, 3, 4, 5]) (by kernel_rfl) ?step ?fin
  case keep =>
    refine List.forall_mem_cons.2 ⟨Is.keeps _, ?_⟩
    refine List.forall_mem_cons.2 ⟨Is.keeps _, ?_⟩
    refine List.forall_mem_cons.2 ⟨Is.keeps _, ?_⟩
    refine List.forall_mem_cons.2 ⟨Is.keeps _, ?_⟩
    refine List.forall_mem_cons.2 ⟨IsRN.keeps _ _, ?_⟩
    refine List.forall_mem_cons.2 ⟨IsRZ.keeps _ _ _, ?_⟩
    exact fun _ h => nomatch h
  case step =>
    refine List.forall_mem_cons.2 ⟨?_, ?_⟩
    · refine SlotStep.plain rfl rfl rfl ?_
      intro tm ws hsame hS hg K hK
      have e1 : tm[1]? = some (.pointer (some ⟨w.heap.size, 0, none⟩)) := hsame.2 1 rfl
      go_simp
      exact hK _ _ (Below.refl _ _) hS rfl
    refine List.forall_mem_cons.2 ⟨?_, ?_⟩
    · refine SlotStep.plain rfl rfl rfl ?_
      intro tm ws hsame hS hg K hK
      obtain ⟨v3, e3, rfl⟩ := hg 0 (by kernel_rfl) _ 3 rfl rfl
      obtain ⟨k0, k1, -⟩ := slot2 hS.1
      go_simp
      exact hK _ _ (Below.refl _ _) hS rfl
    refine List.forall_mem_cons.2 ⟨?_, ?_⟩
    · refine SlotStep.plain rfl rfl rfl ?_
      intro tm ws hsame hS hg K hK
      have e1 : tm[1]? = some (.pointer (some ⟨w.heap.size, 0, none⟩)) := hsame.2 1 rfl
      go_simp
      exact hK _ _ (Below.refl _ _) hS rfl
    refine List.forall_mem_cons.2 ⟨?_, ?_⟩
    · refine SlotStep.plain rfl rfl rfl ?_
      intro tm ws hsame hS hg K hK
      obtain ⟨v5, e5, rfl⟩ := hg 2 (by kernel_rfl) _ 5 rfl rfl
      obtain ⟨k0, k1, -⟩ := slot2 hS.1
      go_simp
      exact hK _ _ (Below.refl _ _) hS rfl
    refine List.forall_mem_cons.2 ⟨?_, ?_⟩
    · refine SlotStep.plain rfl rfl rfl ?_
      intro tm ws hsame hS hg K hK
      obtain ⟨v6, e6, rfl⟩ := hg 3 (by kernel_rfl) _ 6 rfl rfl
      go_simp
      refine (from_num hS.2.2.1 (by omega)).mono ?_
      rintro e wm ⟨aR, nR, cR, rfl, hR, hb⟩
      exact hK _ _ hb (⟨slot_kept hS.1 (hb), slot_kept hS.2.1 (hb), hS.2.2.1.below (hb), hS.2.2.2.trans (Below.mono (hb) hS.2.2.2.size)⟩) ⟨aR, nR, cR, rfl, hR⟩
    refine List.forall_mem_cons.2 ⟨?_, ?_⟩
    · refine SlotStep.plain rfl rfl rfl ?_
      intro tm ws hsame hS hg K hK
      obtain ⟨v4, e4, rfl⟩ := hg 1 (by kernel_rfl) _ 4 rfl rfl
      obtain ⟨v7, e7, ⟨a7, n7, c7, rfl, g7⟩⟩ := hg 4 (by kernel_rfl) _ 7 rfl rfl
      go_simp
      refine (rmake_num p 0 g7 (by omega) (by omega)).mono ?_
      rintro e wm ⟨pR, aR, nR, cR, ER, rfl, hR, hb⟩
      exact hK _ _ hb (⟨slot_kept hS.1 (hb), slot_kept hS.2.1 (hb), hS.2.2.1.below (hb), hS.2.2.2.trans (Below.mono (hb) hS.2.2.2.size)⟩) ⟨pR, aR, nR, cR, ER, rfl, hR⟩
    exact fun _ h => nomatch h
  case fin =>
    intro tm w8 hsame hS hgot
    obtain ⟨u, hu, htm⟩ := hsame.form (by kernel_rfl)
    obtain ⟨v8, e8, pR, aR, nR, cR, ER, rfl, hr⟩ := hgot 5 (by decide) _ 8 rfl rfl
    have h8 := hu _ _ e8
    obtain ⟨-, hblk, -, hb8⟩ := hS
    obtain ⟨⟨q0, q1, q2⟩, f0, f1, f2⟩ := slot3 hblk
    have hend := slot3_set (u := .bool pR) (v := .slice aR nR cR) (s := .int .i64 (ER : Int)) hblk
    have hon := slot3_only (w := w8) (g := w1.heap.size) (.bool pR) (.slice aR nR cR) (.int .i64 (ER : Int))
    have hr' := ((hr.var hblk hon).eq (by rw [Int.pow_zero, Int.mul_one] : sg p N * 2 ^ 0 = sg p N)).mono (Nat.le_refl _) (by omega : 0 + 32 * (2 * m) ≤ 64 * m)
    have hbz := hbw2.trans (hb8.mono hbw2.size)
    have HR : Hid (RetZ w (sg p N) (2 * m) (64 * m) (.returned (.agg #[.bool pR, .slice aR nR cR, .int .i64 (ER : Int)])) (((w8.setCell ⟨w1.heap.size, 0, none⟩ (.bool pR)).setCell ⟨w1.heap.size, 1, none⟩ (.slice aR nR cR)).setCell ⟨w1.heap.size, 2, none⟩ (.int .i64 (ER : Int)))) :=
      Lib.hid ⟨pR, aR, nR, cR, ER, rfl, hr', hbz.trans (hon.below hb1.size hbz.size)⟩
    clear hgot hu hsame e8 hr hr'
    rw [htm]
    clear htm tm
    simp only [List.foldl_cons, List.foldl_nil, List.setIfInBounds_toArray, List.set_cons_zero, List.set_cons_succ, h8, List.drop_succ_cons, List.drop_zero]
    clear h8
    go_wp2_with fail
    exact bodyPost_ret (results_cell_row rfl _ _ w1.heap.size 31 _ (0, 0) _ rfl hend Tryd.underlying31 rfl (by kernel_rfl)) rfl HR.out
end Go.Proofs.YtfanhllcoaondaaDoor

namespace Go.Proofs.YtfanhllcoaondaaDoor
open Go.RowKit

theorem neg_floor {N : Int} {k t : Nat} (hN : N ≠ 0) (ht : LowOf N t) : (-N) / 2 ^ k = if t < k then -(N / 2 ^ k + 1) else -(N / 2 ^ k) := by
  have hp := pow2_pos k
  rcases ht with ⟨h1, -⟩ | ⟨-, z, hz⟩
  · exact absurd h1 hN
  · by_cases hk : t < k
    · rw [if_pos hk]
      have e1 := Int.mul_ediv_add_emod N (2 ^ k)
      have e2 := Int.emod_lt_of_pos N hp
      have e3 := Int.emod_nonneg N (by omega : (2 : Int) ^ k ≠ 0)
      have hr : N % 2 ^ k ≠ 0 := by
        intro h0
        rw [h0, Int.add_zero] at e1
        obtain ⟨d, rfl⟩ := Nat.le.dest hk
        have hp2 : (2 : Int) ^ (t + 1 + d) = 2 ^ t * (2 * 2 ^ d) := by rw [Int.pow_add, Int.pow_succ]; grind
        rw [hz, hp2, Int.mul_assoc] at e1
        have hpt := pow2_pos t
        have e4 := Int.eq_of_mul_eq_mul_left (by omega) e1
        rw [Int.mul_assoc] at e4
        omega
      refine ((Int.ediv_emod_unique hp (r := 2 ^ k - N % 2 ^ k) (q := -(N / 2 ^ k + 1))).2 ⟨?_, by omega, by omega⟩).1
      rw [Int.mul_neg, Int.mul_add, Int.mul_one]
      omega
    · rw [if_neg hk]
      obtain ⟨d, rfl⟩ := Nat.le.dest (show k ≤ t by omega)
      have e : N = 2 ^ k * (2 ^ d * (2 * z + 1)) := by rw [hz, Int.pow_add, Int.mul_assoc]
      rw [e, ← Int.mul_neg, Int.mul_ediv_cancel_left _ (by omega), Int.mul_ediv_cancel_left _ (by omega)]

set_option maxRecDepth 100000 in
set_option maxHeartbeats 1200000 in
/-- whole.Int.Floor: divided by a power of two, rounded down. -/
theorem floorw_num {w : World} (neg : Bool) {a : Option Addr} {n c : Nat} {N : Int} {m : Nat} (k : Nat) (h : Num w (.slice a n c) N m) (hk : k ≤ 16777216) (hm : m ≤ 1000) (hT : Tab64 w) :
    Calls Tryd.prog 34 #[.agg #[.bool neg, .slice a n c], .int .i64 k] w fun e w' => RetW w (sg neg N / 2 ^ k) (m + 1) e w' := by
  obtain ⟨w1, hw1⟩ : ∃ w1, w.alloc (.cells #[.bool neg, .slice a n c] 28) = w1 := ⟨_, rfl⟩
  obtain ⟨w2, hw2⟩ : ∃ w2, w1.alloc (.cells #[.bool false, .slice none 0 0] 28) = w2 := ⟨_, rfl⟩
  have hb1 : Below w.heap.size w w1 := hw1 ▸ below_alloc w _
  have hb12 : Below w1.heap.size w1 w2 := hw2 ▸ below_alloc w1 _
  have hbw2 : Below w.heap.size w w2 := hb1.trans (hb12.mono hb1.size)
  have hc1 : w2.heap[w.heap.size]? = some (.cells #[.bool neg, .slice a n c] 28 (0, 0)) := slot_kept (hw1 ▸ heap_alloc_new w _) hb12
  have hc2 : w2.heap[w1.heap.size]? = some (.cells #[.bool false, .slice none 0 0] 28 (0, 0)) := hw2 ▸ heap_alloc_new w1 _
  have hs1 : w.heap.size ≤ w1.heap.size := hb1.size
  have hs2 : w1.heap.size < w2.heap.size := (Array.getElem?_eq_some_iff.1 hc2).1
  have hk1 : ¬ (k : Int) < 0 := by omega
  have hk2 : ¬ (16777216 : Int) < (k : Int) := by omega
  replace h := h.below hbw2
  replace hT := hT.below hbw2
  have h0 := h.nonneg
  clear hb1 hb12
  obtain ⟨j0, j1, -, -⟩ := slot2 hc1
  go_enter Tryd.func34, Tryd.ntmps34
  go_wp2_with fail
  refine (shr_num k h hk (by omega)).mono ?_
  rintro e w3 ⟨aX, nX, cX, rfl, hX, hb3⟩
  have hc1' := slot_kept hc1 hb3
  have hc2' := slot_kept hc2 hb3
  clear j0 j1
  obtain ⟨k0, k1, -, -⟩ := slot2 hc1'
  have hbw3 := hbw2.trans (hb3.mono hbw2.size)
  have hs3 := hb3.size
  replace h := h.below hb3
  replace hT := hT.below hb3
  replace hX := hX.base (Nat.le_refl _)
  by_cases hneg : neg = true ∧ N ≠ 0
  · obtain ⟨rfl, hN⟩ := hneg
    have hv : cmpI (sg true N) 0 = -1 := cmpI_lt (by rw [sg_true]; omega)
    have hm1 : 1 ≤ m := by
      have := h.lt
      by_cases e : m = 0
      · subst e; simp at this; omega
      · omega
    have HS := Lib.hid (sign_num true h (by omega))
    rw [hv] at HS
    clear hv
    go_wp2_with fail
    refine HS.out.mono ?_
    rintro e w4 ⟨rfl, hb4⟩
    replace h := h.below hb4
    replace hT := hT.below hb4
    replace hX := hX.below hb4
    replace hc1' := slot_kept hc1' hb4
    replace hc2' := slot_kept hc2' hb4
    obtain ⟨q0, q1, -, -⟩ := slot2 hc1'
    have hbw4 := hbw3.trans (hb4.mono hbw3.size)
    clear HS k0 k1 hbw3 hc1 hc2 hbw2
    go_wp2_with fail
    refine (lowall_num h hm hT).mono ?_
    rintro e w5 ⟨t, rfl, ht, rfl⟩
    have hfl := neg_floor (k := k) hN ht
    by_cases htk : t < k
    · have htkI : (t : Int) < (k : Int) := by omega
      rw [if_pos htk] at hfl
      have HFL := Lib.hid hfl
      have HTK := Lib.hid htk
      clear hfl ht htk
      go_wp2_with fail
      refine (of1_num 1 _ w4 (by decide) (by decide)).mono ?_
      rintro e w5 ⟨a1, n1, c1, rfl, h1, hb5⟩
      replace hX := hX.below hb5
      replace hc1' := slot_kept hc1' hb5
      replace hc2' := slot_kept hc2' hb5
      have hbw5 := hbw4.trans (hb5.mono hbw4.size)
      go_wp2_with fail
      refine (add2_num (p := m + 1) hX.num h1.num (by omega) (by omega) (by omega)).mono ?_
      rintro e w6 ⟨a2, n2, c2, rfl, h2, hb6⟩
      replace hc1' := slot_kept hc1' hb6
      replace hc2' := slot_kept hc2' hb6
      obtain ⟨r0, r1, -, -⟩ := slot2 hc1'
      have hbw6 := hbw5.trans (hb6.mono hbw5.size)
      have hs4 := hb4.size
      have hs5 := hb5.size
      go_wp2_with fail
      refine (signed_num true h2).mono ?_
      rintro e w7 ⟨neg', rfl, hs, hz, hb7⟩
      replace hc2' := slot_kept hc2' hb7
      obtain ⟨z0, z1, f0, f1⟩ := slot2 hc2'
      have hbw7 := hbw6.trans (hb7.mono hbw6.size)
      obtain ⟨hend, hret⟩ := slot_end (Z := sg true N / 2 ^ k) hc2' hbw7 hs1 (h2.below hb7) (by omega) (by rw [hs, sg_true, sg_true, HFL.out]) hz
      go_wp2_with fail
      exact bodyPost_ret (results_cell_row rfl _ _ w1.heap.size 28 _ (0, 0) _ rfl hend Tryd.underlying28 rfl (by kernel_rfl)) rfl hret
    · have htkI : ¬ (t : Int) < (k : Int) := by omega
      rw [if_neg htk] at hfl
      have HFL := Lib.hid hfl
      clear hfl ht htk
      have hs4 := hb4.size
      go_wp2_with fail
      refine (signed_num true hX).mono ?_
      rintro e w7 ⟨neg', rfl, hs, hz, hb7⟩
      replace hc2' := slot_kept hc2' hb7
      obtain ⟨z0, z1, f0, f1⟩ := slot2 hc2'
      have hbw7 := hbw4.trans (hb7.mono hbw4.size)
      obtain ⟨hend, hret⟩ := slot_end (Z := sg true N / 2 ^ k) hc2' hbw7 hs1 ((hX.below hb7).mono (Nat.le_succ m)) (by omega) (by rw [hs, sg_true, sg_true, HFL.out]) hz
      go_wp2_with fail
      exact bodyPost_ret (results_cell_row rfl _ _ w1.heap.size 28 _ (0, 0) _ rfl hend Tryd.underlying28 rfl (by kernel_rfl)) rfl hret
  · have hv : ¬ cmpI (sg neg N) 0 < 0 := by
      cases neg with
      | false => rw [sg_false]; by_cases e : N = 0
                 · rw [cmpI_eq e]; decide
                 · rw [cmpI_gt (by omega)]; decide
      | true => by_cases e : N = 0
                · rw [cmpI_eq (by rw [e]; rfl)]; decide
                · exact absurd ⟨rfl, e⟩ hneg
    have hfl : sg neg N / 2 ^ k = sg neg (N / 2 ^ k) := by
      cases neg with
      | false => rfl
      | true => by_cases e : N = 0
                · rw [e]; simp [sg]
                · exact absurd ⟨rfl, e⟩ hneg
    obtain ⟨s, hs⟩ : ∃ s, cmpI (sg neg N) 0 = s := ⟨_, rfl⟩
    have HS := Lib.hid (sign_num neg h (by omega))
    rw [hs] at HS hv
    have HFL := Lib.hid hfl
    clear hfl hs hneg
    go_wp2_with fail
    refine HS.out.mono ?_
    rintro e w4 ⟨rfl, hb4⟩
    replace hX := hX.below hb4
    replace hc1' := slot_kept hc1' hb4
    replace hc2' := slot_kept hc2' hb4
    obtain ⟨q0, q1, -, -⟩ := slot2 hc1'
    have hbw4 := hbw3.trans (hb4.mono hbw3.size)
    have hs4 := hb4.size
    clear HS k0 k1 hbw3 hc1 hc2 hbw2
    go_wp2_with fail
    refine (signed_num neg hX).mono ?_
    rintro e w7 ⟨neg', rfl, hs, hz, hb7⟩
    replace hc2' := slot_kept hc2' hb7
    obtain ⟨z0, z1, f0, f1⟩ := slot2 hc2'
    have hbw7 := hbw4.trans (hb7.mono hbw4.size)
    obtain ⟨hend, hret⟩ := slot_end (Z := sg neg N / 2 ^ k) hc2' hbw7 hs1 ((hX.below hb7).mono (Nat.le_succ m)) (by omega) (by rw [hs, HFL.out]) hz
    go_wp2_with fail
    exact bodyPost_ret (results_cell_row rfl _ _ w1.heap.size 28 _ (0, 0) _ rfl hend Tryd.underlying28 rfl (by kernel_rfl)) rfl hret

/-- An integer in its one form, as a value of package whole. -/
def WN (w : World) (v : Value) (Z : Int) (m : Nat) : Prop := ∃ p a n c N base, v = .agg #[.bool p, .slice a n c] ∧ NewN base w (.slice a n c) N m ∧ Z = sg p N ∧ (p = true → N ≠ 0)
theorem WN.below {w w' : World} {v : Value} {Z : Int} {m : Nat} (h : WN w v Z m) (hb : Below w.heap.size w w') : WN w' v Z m := by
  obtain ⟨p, a, n, c, N, base, h1, h2, h3, h4⟩ := h
  exact ⟨p, a, n, c, N, base, h1, h2.below hb, h3, h4⟩
theorem RetW.wn {w w' : World} {Z : Int} {m : Nat} {e : Ending} (h : RetW w Z m e w') : ∃ v, e = .returned v ∧ WN w' v Z m ∧ Below w.heap.size w w' := by
  obtain ⟨p, a, n, c, N, h1, h2, h3, h4, h5⟩ := h
  exact ⟨_, h1, ⟨p, a, n, c, N, _, rfl, h2, h3, h4⟩, h5⟩
end Go.Proofs.YtfanhllcoaondaaDoor

namespace Go.Proofs.YtfanhllcoaondaaDoor
open Go.RowKit

/-- The quotient of integers, rounded down or up. -/
def fq (X Y : Int) (up : Bool) : Int := sg (!(decide (X < 0) == decide (Y < 0))) (qm (!(decide (X < 0) == decide (Y < 0))) up (X.natAbs : Int) (Y.natAbs : Int))
theorem sg_abs {p : Bool} {N : Int} (h : 0 ≤ N) : ((sg p N).natAbs : Int) = N := by
  cases p
  · rw [sg_false]; omega
  · rw [sg_true]; omega
theorem sg_lt {p : Bool} {N : Int} (h : 0 ≤ N) (hp : p = true → N ≠ 0) : decide (sg p N < 0) = p := by
  cases p
  · rw [sg_false]; simp; exact h
  · have := hp rfl
    rw [sg_true]; simp; omega
theorem fq_sg {p q up : Bool} {A B : Int} (hA : 0 ≤ A) (hB : 0 < B) : sg (!(p == q)) (qm (!(p == q)) up A B) = fq (sg p A) (sg q B) up := by
  unfold fq
  rw [sg_abs hA, sg_abs (Int.le_of_lt hB), sg_lt (Int.le_of_lt hB) (fun _ => by omega)]
  by_cases h0 : A = 0
  · subst h0
    have e : ∀ g, sg g (qm g up 0 B) = 0 := by intro g; cases g <;> simp [sg, qm]
    rw [e, e]
  · rw [sg_lt hA (fun _ => h0)]
theorem fq_pow {X : Int} {k : Nat} : fq X (2 ^ k) false = X / 2 ^ k := by
  have hp := pow2_pos k
  have hd : decide ((2 : Int) ^ k < 0) = false := by simp; omega
  have hn : (((2 : Int) ^ k).natAbs : Int) = 2 ^ k := by omega
  unfold fq
  rw [hd, hn]
  rcases Int.lt_or_le X 0 with h | h
  · have e1 : decide (X < 0) = true := by simpa using h
    have e2 : (X.natAbs : Int) = -X := by omega
    rw [e1, e2]
    have a1 := Int.mul_ediv_add_emod (-X) (2 ^ k)
    have a2 := Int.emod_lt_of_pos (-X) hp
    have a3 := Int.emod_nonneg (-X) (by omega : (2 : Int) ^ k ≠ 0)
    show -(qm true false (-X) (2 ^ k)) = _
    by_cases hr : -X % 2 ^ k = 0
    · rw [qm, if_neg (fun h => h.1 hr)]
      refine (((Int.ediv_emod_unique hp (r := 0) (q := -(-X / 2 ^ k))).2 ⟨?_, by omega, by omega⟩).1).symm
      rw [Int.mul_neg]; omega
    · rw [qm, if_pos ⟨hr, by decide⟩]
      refine (((Int.ediv_emod_unique hp (r := 2 ^ k - -X % 2 ^ k) (q := -(-X / 2 ^ k + 1))).2 ⟨?_, by omega, by omega⟩).1).symm
      rw [Int.mul_neg, Int.mul_add, Int.mul_one]; omega
  · have e1 : decide (X < 0) = false := by simp; omega
    have e2 : (X.natAbs : Int) = X := by omega
    rw [e1, e2]
    show qm false false X (2 ^ k) = _
    rw [qm, if_neg (fun h => h.2 rfl)]
theorem rz_parts {p : Bool} {N Z : Int} {E : Nat} (h0 : 0 ≤ N) (hz : Z = sg p N * 2 ^ E) (hn : N = 0 → p = false) : decide (Z < 0) = p ∧ (Z.natAbs : Int) = N * 2 ^ E := by
  have hp := pow2_pos E
  have hN : 0 ≤ N * 2 ^ E := Int.mul_nonneg h0 (Int.le_of_lt hp)
  rw [hz, ← sg_scale]
  refine ⟨sg_lt hN fun e => ?_, sg_abs hN⟩
  subst e
  intro e
  rcases Int.mul_eq_zero.1 e with h | h
  · exact absurd (hn h) (by decide)
  · omega

set_option maxRecDepth 100000 in
set_option maxHeartbeats 1200000 in
theorem rfloor_num {w : World} {p q up : Bool} {a a2 : Option Addr} {n c n2 c2 E G : Nat} {X Y : Int} {m k b d : Nat} (P P1 : Nat) (hX : RZ w (.agg #[.bool p, .slice a n c, .int .i64 (E : Int)]) X m b) (hY : RZ w (.agg #[.bool q, .slice a2 n2 c2, .int .i64 (G : Int)]) Y k d) (hY0 : Y ≠ 0) (hmP : m + b / 32 + 1 ≤ P) (hkP : k + d / 32 + 1 ≤ P) (hP1 : P < P1) (hP2 : 2 < P1) (hP : P1 ≤ 10000) (hb : b ≤ 200000) (hd : d ≤ 200000) :
    Calls Tryd.prog 14 #[.agg #[.bool p, .slice a n c, .int .i64 (E : Int)], .agg #[.bool q, .slice a2 n2 c2, .int .i64 (G : Int)], .bool up] w fun e w' => RetZ w (fq X Y up) P1 (32 * P1) e w' := by
  obtain ⟨w1, hw1⟩ : ∃ w1, w.alloc (.cells #[.bool p, .slice a n c, .int .i64 (E : Int)] 31) = w1 := ⟨_, rfl⟩
  obtain ⟨w2, hw2⟩ : ∃ w2, w1.alloc (.cells #[.bool q, .slice a2 n2 c2, .int .i64 (G : Int)] 31) = w2 := ⟨_, rfl⟩
  obtain ⟨w3, hw3⟩ : ∃ w3, w2.alloc (.cells #[.bool false, .slice none 0 0, .int .i64 0] 31) = w3 := ⟨_, rfl⟩
  have hb1 : Below w.heap.size w w1 := hw1 ▸ below_alloc w _
  have hb12 : Below w1.heap.size w1 w2 := hw2 ▸ below_alloc w1 _
  have hb23 : Below w2.heap.size w2 w3 := hw3 ▸ below_alloc w2 _
  have hbw2 : Below w.heap.size w w2 := hb1.trans (hb12.mono hb1.size)
  have hbw3 : Below w.heap.size w w3 := hbw2.trans (hb23.mono hbw2.size)
  have hc1 : w3.heap[w.heap.size]? = some (.cells #[.bool p, .slice a n c, .int .i64 (E : Int)] 31 (0, 0)) := slot_kept (slot_kept (hw1 ▸ heap_alloc_new w _) hb12) hb23
  have hc2 : w3.heap[w1.heap.size]? = some (.cells #[.bool q, .slice a2 n2 c2, .int .i64 (G : Int)] 31 (0, 0)) := slot_kept (hw2 ▸ heap_alloc_new w1 _) hb23
  have hc3 : w3.heap[w2.heap.size]? = some (.cells #[.bool false, .slice none 0 0, .int .i64 0] 31 (0, 0)) := hw3 ▸ heap_alloc_new w2 _
  have hs2 : w.heap.size ≤ w2.heap.size := hbw2.size
  obtain ⟨p', a', n', c', N, E', he, hx, hz, hz0, -, hEb⟩ := hX
  simp only [Value.agg.injEq, Array.mk.injEq, List.cons.injEq, Value.bool.injEq, Value.slice.injEq, Value.int.injEq, and_true, true_and] at he
  obtain ⟨rfl, ⟨rfl, rfl, rfl⟩, hE⟩ := he
  obtain rfl : E = E' := by omega
  obtain ⟨q', a', n', c', M, G', he, hy, hu, hu0, -, hGd⟩ := hY
  simp only [Value.agg.injEq, Array.mk.injEq, List.cons.injEq, Value.bool.injEq, Value.slice.injEq, Value.int.injEq, and_true, true_and] at he
  obtain ⟨rfl, ⟨rfl, rfl, rfl⟩, hG⟩ := he
  obtain rfl : G = G' := by omega
  obtain ⟨A, hA⟩ : ∃ A, N * 2 ^ E = A := ⟨_, rfl⟩
  obtain ⟨B, hB⟩ : ∃ B, M * 2 ^ G = B := ⟨_, rfl⟩
  obtain ⟨s1, s2⟩ := rz_parts hx.nonneg hz fun e => (hz0 e).1
  obtain ⟨s3, s4⟩ := rz_parts hy.nonneg hu fun e => (hu0 e).1
  rw [hA] at s2
  rw [hB] at s4
  have hB0 : B ≠ 0 := by omega
  obtain ⟨ng, hng⟩ : ∃ ng, (!(p == q)) = ng := ⟨_, rfl⟩
  have HQ : Hid (sg ng (qm ng up A B) * 2 ^ 0 = fq X Y up) := by
    show _ = _
    rw [Int.pow_zero, Int.mul_one, fq, s1, s2, s3, s4, hng]
  have hm3 : m + E / 32 + 1 ≤ P := Nat.le_trans (by have := Nat.div_le_div_right (c := 32) hEb; omega) hmP
  have hk3 : k + G / 32 + 1 ≤ P := Nat.le_trans (by have := Nat.div_le_div_right (c := 32) hGd; omega) hkP
  clear hmP hkP
  have hmP := hm3
  have hkP := hk3
  replace hx := hx.below hbw3
  replace hy := hy.below hbw3
  clear hm3 hk3 hb12 hb23 hb1 hbw2 hz hz0 hu hu0 s1 s2 s3 s4 hE hG
  go_enter Tryd.func14, Tryd.ntmps14
  go_upto_region 1 with fail
  refine wp_region_slots (by kernel_rfl) [12, 13, 14, 15, 16, 17, 18, 19, 20, 21, 7, 8] (fun w' => (w'.heap[w.heap.size]? = some (.cells #[.bool p, .slice a n c, .int .i64 (E : Int)] 31 (0, 0))) ∧ (w'.heap[w1.heap.size]? = some (.cells #[.bool q, .slice a2 n2 c2, .int .i64 (G : Int)] 31 (0, 0))) ∧ (w'.heap[w2.heap.size]? = some (.cells #[.bool false, .slice none 0 0, .int .i64 0] 31 (0, 0))) ∧ (RN w' (.slice a n c) N m) ∧ (RN w' (.slice a2 n2 c2) M k) ∧ (Below w3.heap.size w3 w')) (Said [Is (.pointer (some ⟨w.heap.size, 1, none⟩)), Is (.slice a n c), Is (.pointer (some ⟨w.heap.size, 2, none⟩)), Is (.int .i64 (E : Int)), IsRN A P, Is (.pointer (some ⟨w1.heap.size, 1, none⟩)), Is (.slice a2 n2 c2), Is (.pointer (some ⟨w1.heap.size, 2, none⟩)), Is (.int .i64 (G : Int)), IsRN B P, IsRN A P, IsRN B P]) (by kernel_rfl) (by kernel_rfl) (by kernel_rfl) (by kernel_rfl) (Said.keep ?keep) ⟨slot_kept hc1 (bdn (Below.refl _ _) 1), slot_kept hc2 (bdn (Below.refl _ _) 1), slot_kept hc3 (bdn (Below.refl _ _) 1), hx.below (bdn (Below.refl _ _) 1), hy.below (bdn (Below.refl _ _) 1), bdn (Below.refl _ _) 1⟩ (l := [0, 1, 2, 3, 4, 5, 6, 7, 8, 9, 10, 11]) (by kernel_rfl) ?step ?fin
  case keep =>
    refine List.forall_mem_cons.2 ⟨Is.keeps _, ?_⟩
    refine List.forall_mem_cons.2 ⟨Is.keeps _, ?_⟩
    refine List.forall_mem_cons.2 ⟨Is.keeps _, ?_⟩
    refine List.forall_mem_cons.2 ⟨Is.keeps _, ?_⟩
    refine List.forall_mem_cons.2 ⟨IsRN.keeps _ _, ?_⟩
    refine List.forall_mem_cons.2 ⟨Is.keeps _, ?_⟩
    refine List.forall_mem_cons.2 ⟨Is.keeps _, ?_⟩
    refine List.forall_mem_cons.2 ⟨Is.keeps _, ?_⟩
    refine List.forall_mem_cons.2 ⟨Is.keeps _, ?_⟩
    refine List.forall_mem_cons.2 ⟨IsRN.keeps _ _, ?_⟩
    refine List.forall_mem_cons.2 ⟨IsRN.keeps _ _, ?_⟩
    refine List.forall_mem_cons.2 ⟨IsRN.keeps _ _, ?_⟩
    exact fun _ h => nomatch h
  case step =>
    refine List.forall_mem_cons.2 ⟨?_, ?_⟩
    · refine SlotStep.plain rfl rfl rfl ?_
      intro tm ws hsame hS hg K hK
      have e3 : tm[3]? = some (.pointer (some ⟨w.heap.size, 0, none⟩)) := hsame.2 3 rfl
      go_simp
      exact hK _ _ (Below.refl _ _) hS rfl
    refine List.forall_mem_cons.2 ⟨?_, ?_⟩
    · refine SlotStep.plain rfl rfl rfl ?_
      intro tm ws hsame hS hg K hK
      obtain ⟨v12, e12, rfl⟩ := hg 0 (by kernel_rfl) _ 12 rfl rfl
      obtain ⟨⟨k0, k1, k2⟩, -⟩ := slot3 (hS.1)
      go_simp
      exact hK _ _ (Below.refl _ _) hS rfl
    refine List.forall_mem_cons.2 ⟨?_, ?_⟩
    · refine SlotStep.plain rfl rfl rfl ?_
      intro tm ws hsame hS hg K hK
      have e3 : tm[3]? = some (.pointer (some ⟨w.heap.size, 0, none⟩)) := hsame.2 3 rfl
      go_simp
      exact hK _ _ (Below.refl _ _) hS rfl
    refine List.forall_mem_cons.2 ⟨?_, ?_⟩
    · refine SlotStep.plain rfl rfl rfl ?_
      intro tm ws hsame hS hg K hK
      obtain ⟨v14, e14, rfl⟩ := hg 2 (by kernel_rfl) _ 14 rfl rfl
      obtain ⟨⟨k0, k1, k2⟩, -⟩ := slot3 (hS.1)
      go_simp
      exact hK _ _ (Below.refl _ _) hS rfl
    refine List.forall_mem_cons.2 ⟨?_, ?_⟩
    · refine SlotStep.plain rfl rfl rfl ?_
      intro tm ws hsame hS hg K hK
      obtain ⟨v13, e13, rfl⟩ := hg 1 (by kernel_rfl) _ 13 rfl rfl
      obtain ⟨v15, e15, rfl⟩ := hg 3 (by kernel_rfl) _ 15 rfl rfl
      go_simp
      refine (rshl_num (p := P) E hS.2.2.2.1 (by omega) hmP (by omega)).mono ?_
      rintro e wm ⟨aR, nR, cR, rfl, hR, hb⟩
      exact hK _ _ hb (⟨slot_kept (hS.1) (hb), slot_kept (hS.2.1) (hb), slot_kept (hS.2.2.1) (hb), (hS.2.2.2.1).below (hb), (hS.2.2.2.2.1).below (hb), (hS.2.2.2.2.2).trans (Below.mono (hb) (hS.2.2.2.2.2).size)⟩) ⟨aR, nR, cR, rfl, hR.eq hA⟩
    refine List.forall_mem_cons.2 ⟨?_, ?_⟩
    · refine SlotStep.plain rfl rfl rfl ?_
      intro tm ws hsame hS hg K hK
      have e4 : tm[4]? = some (.pointer (some ⟨w1.heap.size, 0, none⟩)) := hsame.2 4 rfl
      go_simp
      exact hK _ _ (Below.refl _ _) hS rfl
    refine List.forall_mem_cons.2 ⟨?_, ?_⟩
    · refine SlotStep.plain rfl rfl rfl ?_
      intro tm ws hsame hS hg K hK
      obtain ⟨v17, e17, rfl⟩ := hg 5 (by kernel_rfl) _ 17 rfl rfl
      obtain ⟨⟨k0, k1, k2⟩, -⟩ := slot3 (hS.2.1)
      go_simp
      exact hK _ _ (Below.refl _ _) hS rfl
    refine List.forall_mem_cons.2 ⟨?_, ?_⟩
    · refine SlotStep.plain rfl rfl rfl ?_
      intro tm ws hsame hS hg K hK
      have e4 : tm[4]? = some (.pointer (some ⟨w1.heap.size, 0, none⟩)) := hsame.2 4 rfl
      go_simp
      exact hK _ _ (Below.refl _ _) hS rfl
    refine List.forall_mem_cons.2 ⟨?_, ?_⟩
    · refine SlotStep.plain rfl rfl rfl ?_
      intro tm ws hsame hS hg K hK
      obtain ⟨v19, e19, rfl⟩ := hg 7 (by kernel_rfl) _ 19 rfl rfl
      obtain ⟨⟨k0, k1, k2⟩, -⟩ := slot3 (hS.2.1)
      go_simp
      exact hK _ _ (Below.refl _ _) hS rfl
    refine List.forall_mem_cons.2 ⟨?_, ?_⟩
    · refine SlotStep.plain rfl rfl rfl ?_
      intro tm ws hsame hS hg K hK
      obtain ⟨v18, e18, rfl⟩ := hg 6 (by kernel_rfl) _ 18 rfl rfl
      obtain ⟨v20, e20, rfl⟩ := hg 8 (by kernel_rfl) _ 20 rfl rfl
      go_simp
      refine (rshl_num (p := P) G hS.2.2.2.2.1 (by omega) hkP (by omega)).mono ?_
      rintro e wm ⟨aR, nR, cR, rfl, hR, hb⟩
      exact hK _ _ hb (⟨slot_kept (hS.1) (hb), slot_kept (hS.2.1) (hb), slot_kept (hS.2.2.1) (hb), (hS.2.2.2.1).below (hb), (hS.2.2.2.2.1).below (hb), (hS.2.2.2.2.2).trans (Below.mono (hb) (hS.2.2.2.2.2).size)⟩) ⟨aR, nR, cR, rfl, hR.eq hB⟩
    refine List.forall_mem_cons.2 ⟨?_, ?_⟩
    · refine SlotStep.plain rfl rfl rfl ?_
      intro tm ws hsame hS hg K hK
      obtain ⟨v16, e16, ⟨a16, n16, c16, rfl, g16⟩⟩ := hg 4 (by kernel_rfl) _ 16 rfl rfl
      go_simp
      exact hK _ _ (Below.refl _ _) hS ⟨a16, n16, c16, rfl, g16⟩
    refine List.forall_mem_cons.2 ⟨?_, ?_⟩
    · refine SlotStep.plain rfl rfl rfl ?_
      intro tm ws hsame hS hg K hK
      obtain ⟨v21, e21, ⟨a21, n21, c21, rfl, g21⟩⟩ := hg 9 (by kernel_rfl) _ 21 rfl rfl
      go_simp
      exact hK _ _ (Below.refl _ _) hS ⟨a21, n21, c21, rfl, g21⟩
    exact fun _ h => nomatch h
  case fin =>
    intro tm w8 hsame hS hgot
    obtain ⟨u, hu, htm⟩ := hsame.form (by kernel_rfl)
    obtain ⟨v7, e7, aA, nA, cA, rfl, hA7⟩ := hgot 10 _ 7 rfl rfl
    obtain ⟨v8, e8, aB, nB, cB, rfl, hB8⟩ := hgot 11 _ 8 rfl rfl
    have h7 := hu _ _ e7
    have h8 := hu _ _ e8
    obtain ⟨hc1, hc2, hc3, -, -, hb8⟩ := hS
    have hbw := hbw3.trans (hb8.mono hbw3.size)
    clear hgot hu hsame e7 e8 hbw3
    rw [htm]
    clear htm tm
    simp only [List.foldl_cons, List.foldl_nil, List.setIfInBounds_toArray, List.set_cons_zero, List.set_cons_succ, h7, h8]
    clear h7 h8
    go_wp2_with fail
    refine (rdm_num hA7 hB8 hB0 (by omega)).mono ?_
    rintro e w5 ⟨aQ, nQ, cQ, aR, nR, cR, rfl, hQ, hRm, hb5⟩
    replace hc1 := slot_kept hc1 hb5
    replace hc2 := slot_kept hc2 hb5
    replace hc3 := slot_kept hc3 hb5
    obtain ⟨⟨k0, k1, k2⟩, -⟩ := slot3 hc1
    obtain ⟨⟨q0, q1, q2⟩, -⟩ := slot3 hc2
    have hbw5 := hbw.trans (hb5.mono hbw.size)
    have hlenR := hRm.len.1
    clear hA7 hB8 hbw hRm
    by_cases hadd : A % B ≠ 0 ∧ ng ≠ up
    · have hqm : qm ng up A B = A / B + 1 := by rw [qm, if_pos hadd]
      rw [hqm] at HQ
      have hnR : 0 < nR := by
        by_cases h0 : nR = 0
        · exact absurd (hlenR.1 h0) hadd.1
        · omega
      have hnu : (!(ng == up)) = true := by have := hadd.2; simpa using this
      have hnRI : (0 : Int) < (nR : Int) := by omega
      clear hadd hqm hlenR
      go_wp2_with fail
      refine (small_num 1 _ (by decide) (by decide)).mono ?_
      rintro e w6 ⟨a1, n1, c1, rfl, h1, hb6⟩
      replace hQ := hQ.below hb6
      replace hc3 := slot_kept hc3 hb6
      have hbw6 := hbw5.trans (hb6.mono hbw5.size)
      go_wp2_with fail
      refine (radd_num (p := P1) hQ h1 (by omega) (by omega) (by omega)).mono ?_
      rintro e w7 ⟨a3, n3, c3, rfl, h3, hb7⟩
      replace hc3 := slot_kept hc3 hb7
      have hbw7 := hbw6.trans (hb7.mono hbw6.size)
      go_wp2_with fail
      refine (rmake_num ng 0 h3 (by omega) (by omega)).mono ?_
      rintro e w8 ⟨pR, aR, nR, cR, ER, rfl, hr, hb8⟩
      have hblk := slot_kept hc3 hb8
      obtain ⟨⟨z0, z1, z2⟩, f0, f1, f2⟩ := slot3 hblk
      have hend := slot3_set (u := .bool pR) (v := .slice aR nR cR) (s := .int .i64 (ER : Int)) hblk
      have hon := slot3_only (w := w8) (g := w2.heap.size) (.bool pR) (.slice aR nR cR) (.int .i64 (ER : Int))
      have hr' := ((hr.var hblk hon).eq HQ.out).mono (Nat.le_refl _) (by omega : 0 + 32 * P1 ≤ 32 * P1)
      have hbz := hbw7.trans (hb8.mono hbw7.size)
      have HR : Hid (RetZ w (fq X Y up) P1 (32 * P1) (.returned (.agg #[.bool pR, .slice aR nR cR, .int .i64 (ER : Int)])) (((w8.setCell ⟨w2.heap.size, 0, none⟩ (.bool pR)).setCell ⟨w2.heap.size, 1, none⟩ (.slice aR nR cR)).setCell ⟨w2.heap.size, 2, none⟩ (.int .i64 (ER : Int)))) :=
        Lib.hid ⟨pR, aR, nR, cR, ER, rfl, hr', hbz.trans (hon.below hs2 hbz.size)⟩
      clear hr hr'
      go_wp2_with fail
      exact bodyPost_ret (results_cell_row rfl _ _ w2.heap.size 31 _ (0, 0) _ rfl hend Tryd.underlying31 rfl (by kernel_rfl)) rfl HR.out
    · have hqm : qm ng up A B = A / B := by rw [qm, if_neg hadd]
      rw [hqm] at HQ
      have hcase : (nR : Int) = 0 ∧ nR = 0 ∨ 0 < nR ∧ (!(ng == up)) = false := by
        by_cases h0 : nR = 0
        · exact Or.inl ⟨by omega, h0⟩
        · right
          refine ⟨by omega, ?_⟩
          have h1 : A % B ≠ 0 := fun e => h0 (hlenR.2 e)
          have h2 : ng = up := by
            by_cases e : ng = up
            · exact e
            · exact absurd ⟨h1, e⟩ hadd
          simp [h2]
      clear hadd hqm hlenR
      replace hQ := hQ.mono (by omega : P ≤ P1)
      rcases hcase with ⟨h0, rfl⟩ | ⟨h0, hnu⟩
      · go_wp2_with fail
        refine (rmake_num ng 0 hQ (by omega) (by omega)).mono ?_
        rintro e w8 ⟨pR, aR, nR, cR, ER, rfl, hr, hb8⟩
        have hblk := slot_kept hc3 hb8
        obtain ⟨⟨z0, z1, z2⟩, f0, f1, f2⟩ := slot3 hblk
        have hend := slot3_set (u := .bool pR) (v := .slice aR nR cR) (s := .int .i64 (ER : Int)) hblk
        have hon := slot3_only (w := w8) (g := w2.heap.size) (.bool pR) (.slice aR nR cR) (.int .i64 (ER : Int))
        have hr' := ((hr.var hblk hon).eq HQ.out).mono (Nat.le_refl _) (by omega : 0 + 32 * P1 ≤ 32 * P1)
        have hbz := hbw5.trans (hb8.mono hbw5.size)
        have HR : Hid (RetZ w (fq X Y up) P1 (32 * P1) (.returned (.agg #[.bool pR, .slice aR nR cR, .int .i64 (ER : Int)])) (((w8.setCell ⟨w2.heap.size, 0, none⟩ (.bool pR)).setCell ⟨w2.heap.size, 1, none⟩ (.slice aR nR cR)).setCell ⟨w2.heap.size, 2, none⟩ (.int .i64 (ER : Int)))) :=
          Lib.hid ⟨pR, aR, nR, cR, ER, rfl, hr', hbz.trans (hon.below hs2 hbz.size)⟩
        clear hr hr'
        go_wp2_with fail
        exact bodyPost_ret (results_cell_row rfl _ _ w2.heap.size 31 _ (0, 0) _ rfl hend Tryd.underlying31 rfl (by kernel_rfl)) rfl HR.out
      · have hnRI : (0 : Int) < (nR : Int) := by omega
        go_wp2_with fail
        refine (rmake_num ng 0 hQ (by omega) (by omega)).mono ?_
        rintro e w8 ⟨pR, aR, nR, cR, ER, rfl, hr, hb8⟩
        have hblk := slot_kept hc3 hb8
        obtain ⟨⟨z0, z1, z2⟩, f0, f1, f2⟩ := slot3 hblk
        have hend := slot3_set (u := .bool pR) (v := .slice aR nR cR) (s := .int .i64 (ER : Int)) hblk
        have hon := slot3_only (w := w8) (g := w2.heap.size) (.bool pR) (.slice aR nR cR) (.int .i64 (ER : Int))
        have hr' := ((hr.var hblk hon).eq HQ.out).mono (Nat.le_refl _) (by omega : 0 + 32 * P1 ≤ 32 * P1)
        have hbz := hbw5.trans (hb8.mono hbw5.size)
        have HR : Hid (RetZ w (fq X Y up) P1 (32 * P1) (.returned (.agg #[.bool pR, .slice aR nR cR, .int .i64 (ER : Int)])) (((w8.setCell ⟨w2.heap.size, 0, none⟩ (.bool pR)).setCell ⟨w2.heap.size, 1, none⟩ (.slice aR nR cR)).setCell ⟨w2.heap.size, 2, none⟩ (.int .i64 (ER : Int)))) :=
          Lib.hid ⟨pR, aR, nR, cR, ER, rfl, hr', hbz.trans (hon.below hs2 hbz.size)⟩
        clear hr hr'
        go_wp2_with fail
        exact bodyPost_ret (results_cell_row rfl _ _ w2.heap.size 31 _ (0, 0) _ rfl hend Tryd.underlying31 rfl (by kernel_rfl)) rfl HR.out
end Go.Proofs.YtfanhllcoaondaaDoor

namespace Go.Proofs.YtfanhllcoaondaaDoor
open Go.RowKit

set_option maxRecDepth 100000 in
set_option maxHeartbeats 1200000 in
theorem isw_zero {w : World} {q : Bool} {a : Option Addr} {n c : Nat} {a2 : Option Addr} {n2 c2 E : Nat} {N : Int} {m k d : Nat} (P : Nat) (h : Num w (.slice a n c) N m) (hr : RZ w (.agg #[.bool q, .slice a2 n2 c2, .int .i64 (E : Int)]) (sg false N) k d) (hn : n = 0) (hmP : 4 * m + 1 < P) (hkP : k + (d + 32 * k) / 32 + 1 < P) (hP : P ≤ 10000) (hm : m ≤ 2000) (hd : d + 32 * k ≤ 200000) :
    Calls Tryd.prog 13 #[.agg #[.bool false, .slice a n c], .agg #[.bool q, .slice a2 n2 c2, .int .i64 (E : Int)]] w fun e w' => RetV w (.bool true) e w' := by
  have hz : ((n : Int) == 0) = true := by simp; omega
  have hdn : decide (0 < n) = false := by simp; omega
  clear hn
  obtain ⟨w1, hw1⟩ : ∃ w1, w.alloc (.cells #[.bool false, .slice a n c] 28) = w1 := ⟨_, rfl⟩
  obtain ⟨w2, hw2⟩ : ∃ w2, w1.alloc (.cells #[.bool q, .slice a2 n2 c2, .int .i64 (E : Int)] 31) = w2 := ⟨_, rfl⟩
  have hb1 : Below w.heap.size w w1 := hw1 ▸ below_alloc w _
  have hb12 : Below w1.heap.size w1 w2 := hw2 ▸ below_alloc w1 _
  have hbw2 : Below w.heap.size w w2 := hb1.trans (hb12.mono hb1.size)
  have hc1 : w2.heap[w.heap.size]? = some (.cells #[.bool false, .slice a n c] 28 (0, 0)) := slot_kept (hw1 ▸ heap_alloc_new w _) hb12
  have hc2 : w2.heap[w1.heap.size]? = some (.cells #[.bool q, .slice a2 n2 c2, .int .i64 (E : Int)] 31 (0, 0)) := hw2 ▸ heap_alloc_new w1 _
  replace h := h.below hbw2
  replace hr := hr.below hbw2
  clear hb12 hb1
  go_enter Tryd.func13, Tryd.ntmps13
  go_upto_region 1 with fail
  refine wp_region_slots (by kernel_rfl) [5, 6, 7, 8, 9, 10, 11, 12, 13, 14, 15, 16, 17, 18, 19, 20, 21, 22, 23, 24, 25, 26, 27, 28, 29, 30, 31, 32, 33, 34, 35, 36, 4] (fun w' => w'.heap[w.heap.size]? = some (.cells #[.bool false, .slice a n c] 28 (0, 0)) ∧ w'.heap[w1.heap.size]? = some (.cells #[.bool q, .slice a2 n2 c2, .int .i64 (E : Int)] 31 (0, 0)) ∧ Num w' (.slice a n c) N m ∧ RZ w' (.agg #[.bool q, .slice a2 n2 c2, .int .i64 (E : Int)]) (sg false N) k d ∧ (True) ∧ Below w2.heap.size w2 w') (Said [Is (.agg #[.bool false, .slice a n c]), IsRZ (sg false N) (2 * m) (64 * m), Is (.agg #[.bool q, .slice a2 n2 c2, .int .i64 (E : Int)]), Is (.bool true), Is (.bool true), Is (.pointer (some ⟨w.heap.size, 1, none⟩)), Is (.slice a n c), Is (.int .i64 (n : Int)), Is (.bool true), Is (.bool true), IsAny, IsAny, IsAny, IsAny, IsAny, IsAny, IsAny, IsAny, IsAny, Is (.bool true), Is (.bool true), Is (.bool true), Is (.pointer (some ⟨w.heap.size, 1, none⟩)), Is (.slice a n c), Is (.int .i64 (n : Int)), Is (.bool false), Is (.bool false), Is (.pointer (some ⟨w.heap.size, 0, none⟩)), Is (.bool false), Is (.bool true), Is (.bool true), Is (.bool true), Is (.bool true)]) (by kernel_rfl) (by kernel_rfl) (by kernel_rfl) (by kernel_rfl) (Said.keep ?keep) ⟨slot_kept hc1 (bdn (Below.refl _ _) 1), slot_kept hc2 (bdn (Below.refl _ _) 1), h.below (bdn (Below.refl _ _) 1), hr.below (bdn (Below.refl _ _) 1), trivial, bdn (Below.refl _ _) 1⟩ (l := [0, 1, 2, 3, 4, 5, 6, 7, 8, 9, 10, 11, 12, 13, 14, 15, 16, 17, 18, 19, 20, 21, 22, 23, 24, 25, 26, 27, 28, 29, 30, 31, 32]) (by kernel_rfl) ?step ?fin
  case keep =>
    refine List.forall_mem_cons.2 ⟨Is.keeps _, ?_⟩
    refine List.forall_mem_cons.2 ⟨IsRZ.keeps _ _ _, ?_⟩
    refine List.forall_mem_cons.2 ⟨Is.keeps _, ?_⟩
    refine List.forall_mem_cons.2 ⟨Is.keeps _, ?_⟩
    refine List.forall_mem_cons.2 ⟨Is.keeps _, ?_⟩
    refine List.forall_mem_cons.2 ⟨Is.keeps _, ?_⟩
    refine List.forall_mem_cons.2 ⟨Is.keeps _, ?_⟩
    refine List.forall_mem_cons.2 ⟨Is.keeps _, ?_⟩
    refine List.forall_mem_cons.2 ⟨Is.keeps _, ?_⟩
    refine List.forall_mem_cons.2 ⟨Is.keeps _, ?_⟩
    refine List.forall_mem_cons.2 ⟨IsAny.keeps, ?_⟩
    refine List.forall_mem_cons.2 ⟨IsAny.keeps, ?_⟩
    refine List.forall_mem_cons.2 ⟨IsAny.keeps, ?_⟩
    refine List.forall_mem_cons.2 ⟨IsAny.keeps, ?_⟩
    refine List.forall_mem_cons.2 ⟨IsAny.keeps, ?_⟩
    refine List.forall_mem_cons.2 ⟨IsAny.keeps, ?_⟩
    refine List.forall_mem_cons.2 ⟨IsAny.keeps, ?_⟩
    refine List.forall_mem_cons.2 ⟨IsAny.keeps, ?_⟩
    refine List.forall_mem_cons.2 ⟨IsAny.keeps, ?_⟩
    refine List.forall_mem_cons.2 ⟨Is.keeps _, ?_⟩
    refine List.forall_mem_cons.2 ⟨Is.keeps _, ?_⟩
    refine List.forall_mem_cons.2 ⟨Is.keeps _, ?_⟩
    refine List.forall_mem_cons.2 ⟨Is.keeps _, ?_⟩
    refine List.forall_mem_cons.2 ⟨Is.keeps _, ?_⟩
    refine List.forall_mem_cons.2 ⟨Is.keeps _, ?_⟩
    refine List.forall_mem_cons.2 ⟨Is.keeps _, ?_⟩
    refine List.forall_mem_cons.2 ⟨Is.keeps _, ?_⟩
    refine List.forall_mem_cons.2 ⟨Is.keeps _, ?_⟩
    refine List.forall_mem_cons.2 ⟨Is.keeps _, ?_⟩
    refine List.forall_mem_cons.2 ⟨Is.keeps _, ?_⟩
    refine List.forall_mem_cons.2 ⟨Is.keeps _, ?_⟩
    refine List.forall_mem_cons.2 ⟨Is.keeps _, ?_⟩
    refine List.forall_mem_cons.2 ⟨Is.keeps _, ?_⟩
    exact fun _ h => nomatch h
  case step =>
    refine List.forall_mem_cons.2 ⟨?_, ?_⟩
    · refine SlotStep.plain rfl rfl rfl ?_
      intro tm ws hsame hS hg K hK
      have e2 : tm[2]? = some (.pointer (some ⟨w.heap.size, 0, none⟩)) := hsame.2 2 rfl
      obtain ⟨k0, k1c, -⟩ := slot2 hS.1
      go_simp
      exact hK _ _ (Below.refl _ _) hS rfl
    refine List.forall_mem_cons.2 ⟨?_, ?_⟩
    · refine SlotStep.plain rfl rfl rfl ?_
      intro tm ws hsame hS hg K hK
      obtain ⟨v5, e5, rfl⟩ := hg 0 (by kernel_rfl) _ 5 rfl rfl
      go_simp
      refine (ref_num hS.2.2.1 (by omega)).mono ?_
      rintro e wm ⟨pR, aR, nR, cR, ER, rfl, hR, hb⟩
      exact hK _ _ hb (⟨slot_kept hS.1 (hb), slot_kept hS.2.1 (hb), hS.2.2.1.below (hb), hS.2.2.2.1.below (hb), trivial, hS.2.2.2.2.2.trans (Below.mono (hb) hS.2.2.2.2.2.size)⟩) ⟨pR, aR, nR, cR, ER, rfl, hR⟩
    refine List.forall_mem_cons.2 ⟨?_, ?_⟩
    · refine SlotStep.plain rfl rfl rfl ?_
      intro tm ws hsame hS hg K hK
      have e3 : tm[3]? = some (.pointer (some ⟨w1.heap.size, 0, none⟩)) := hsame.2 3 rfl
      obtain ⟨⟨k0, k1c, k2c⟩, -⟩ := slot3 hS.2.1
      go_simp
      exact hK _ _ (Below.refl _ _) hS rfl
    refine List.forall_mem_cons.2 ⟨?_, ?_⟩
    · refine SlotStep.plain rfl rfl rfl ?_
      intro tm ws hsame hS hg K hK
      obtain ⟨v6, e6, ⟨p6, a6, n6, c6, E6, rfl, g6⟩⟩ := hg 1 (by kernel_rfl) _ 6 rfl rfl
      obtain ⟨v7, e7, rfl⟩ := hg 2 (by kernel_rfl) _ 7 rfl rfl
      go_simp
      refine (rzsame_num P g6 hS.2.2.2.1 (by omega) hkP hP (by omega) hd).mono ?_
      rintro e wm ⟨rfl, hb⟩
      exact hK _ _ hb (⟨slot_kept hS.1 (hb), slot_kept hS.2.1 (hb), hS.2.2.1.below (hb), hS.2.2.2.1.below (hb), trivial, hS.2.2.2.2.2.trans (Below.mono (hb) hS.2.2.2.2.2.size)⟩) rfl
    refine List.forall_mem_cons.2 ⟨?_, ?_⟩
    · refine SlotStep.plain rfl rfl rfl ?_
      intro tm ws hsame hS hg K hK
      obtain ⟨v8, e8, rfl⟩ := hg 3 (by kernel_rfl) _ 8 rfl rfl
      go_simp
      exact hK _ _ (Below.refl _ _) hS rfl
    refine List.forall_mem_cons.2 ⟨?_, ?_⟩
    · refine SlotStep.guarded rfl rfl 4 rfl rfl (by kernel_rfl) (fun _ _ h => h) ?_
      intro tm ws hsame hS hg K hK
      have e2 : tm[2]? = some (.pointer (some ⟨w.heap.size, 0, none⟩)) := hsame.2 2 rfl
      go_simp
      exact hK _ _ (Below.refl _ _) hS rfl
    refine List.forall_mem_cons.2 ⟨?_, ?_⟩
    · refine SlotStep.guarded rfl rfl 4 rfl rfl (by kernel_rfl) (fun _ _ h => h) ?_
      intro tm ws hsame hS hg K hK
      obtain ⟨v10, e10, rfl⟩ := hg 5 (by kernel_rfl) _ 10 rfl rfl
      obtain ⟨k0, k1c, -⟩ := slot2 hS.1
      go_simp
      exact hK _ _ (Below.refl _ _) hS rfl
    refine List.forall_mem_cons.2 ⟨?_, ?_⟩
    · refine SlotStep.guarded rfl rfl 4 rfl rfl (by kernel_rfl) (fun _ _ h => h) ?_
      intro tm ws hsame hS hg K hK
      obtain ⟨v11, e11, rfl⟩ := hg 6 (by kernel_rfl) _ 11 rfl rfl
      go_simp
      exact hK _ _ (Below.refl _ _) hS rfl
    refine List.forall_mem_cons.2 ⟨?_, ?_⟩
    · refine SlotStep.guarded rfl rfl 4 rfl rfl (by kernel_rfl) (fun _ _ h => h) ?_
      intro tm ws hsame hS hg K hK
      obtain ⟨v12, e12, rfl⟩ := hg 7 (by kernel_rfl) _ 12 rfl rfl
      go_simp
      exact hK _ _ (Below.refl _ _) hS rfl
    refine List.forall_mem_cons.2 ⟨?_, ?_⟩
    · refine SlotStep.guarded rfl rfl 4 rfl rfl (by kernel_rfl) (fun _ _ h => h) ?_
      intro tm ws hsame hS hg K hK
      obtain ⟨v13, e13, rfl⟩ := hg 8 (by kernel_rfl) _ 13 rfl rfl
      go_simp
      exact hK _ _ (Below.refl _ _) hS rfl
    refine List.forall_mem_cons.2 ⟨?_, ?_⟩
    · exact SlotStep.skip rfl rfl 9 false rfl rfl (by kernel_rfl) (fun _ _ h => h) (fun _ => trivial)
    refine List.forall_mem_cons.2 ⟨?_, ?_⟩
    · exact SlotStep.skip rfl rfl 9 false rfl rfl (by kernel_rfl) (fun _ _ h => h) (fun _ => trivial)
    refine List.forall_mem_cons.2 ⟨?_, ?_⟩
    · exact SlotStep.skip rfl rfl 9 false rfl rfl (by kernel_rfl) (fun _ _ h => h) (fun _ => trivial)
    refine List.forall_mem_cons.2 ⟨?_, ?_⟩
    · exact SlotStep.skip rfl rfl 9 false rfl rfl (by kernel_rfl) (fun _ _ h => h) (fun _ => trivial)
    refine List.forall_mem_cons.2 ⟨?_, ?_⟩
    · exact SlotStep.skip rfl rfl 9 false rfl rfl (by kernel_rfl) (fun _ _ h => h) (fun _ => trivial)
    refine List.forall_mem_cons.2 ⟨?_, ?_⟩
    · exact SlotStep.skip rfl rfl 9 false rfl rfl (by kernel_rfl) (fun _ _ h => h) (fun _ => trivial)
    refine List.forall_mem_cons.2 ⟨?_, ?_⟩
    · exact SlotStep.skip rfl rfl 9 false rfl rfl (by kernel_rfl) (fun _ _ h => h) (fun _ => trivial)
    refine List.forall_mem_cons.2 ⟨?_, ?_⟩
    · exact SlotStep.skip rfl rfl 9 false rfl rfl (by kernel_rfl) (fun _ _ h => h) (fun _ => trivial)
    refine List.forall_mem_cons.2 ⟨?_, ?_⟩
    · exact SlotStep.skip rfl rfl 9 false rfl rfl (by kernel_rfl) (fun _ _ h => h) (fun _ => trivial)
    refine List.forall_mem_cons.2 ⟨?_, ?_⟩
    · refine SlotStep.guarded rfl rfl 4 rfl rfl (by kernel_rfl) (fun _ _ h => h) ?_
      intro tm ws hsame hS hg K hK
      obtain ⟨v14, e14, rfl⟩ := hg 9 (by kernel_rfl) _ 14 rfl rfl
      obtain ⟨v23, e23, -⟩ := hg 18 (by kernel_rfl) _ 23 rfl rfl
      go_simp
      exact hK _ _ (Below.refl _ _) hS rfl
    refine List.forall_mem_cons.2 ⟨?_, ?_⟩
    · refine SlotStep.plain rfl rfl rfl ?_
      intro tm ws hsame hS hg K hK
      obtain ⟨v9, e9, rfl⟩ := hg 4 (by kernel_rfl) _ 9 rfl rfl
      obtain ⟨v24, e24, rfl⟩ := hg 19 (by kernel_rfl) _ 24 rfl rfl
      go_simp
      exact hK _ _ (Below.refl _ _) hS rfl
    refine List.forall_mem_cons.2 ⟨?_, ?_⟩
    · refine SlotStep.plain rfl rfl rfl ?_
      intro tm ws hsame hS hg K hK
      obtain ⟨v25, e25, rfl⟩ := hg 20 (by kernel_rfl) _ 25 rfl rfl
      go_simp
      exact hK _ _ (Below.refl _ _) hS rfl
    refine List.forall_mem_cons.2 ⟨?_, ?_⟩
    · refine SlotStep.guarded rfl rfl 21 rfl rfl (by kernel_rfl) (fun _ _ h => h) ?_
      intro tm ws hsame hS hg K hK
      have e2 : tm[2]? = some (.pointer (some ⟨w.heap.size, 0, none⟩)) := hsame.2 2 rfl
      go_simp
      exact hK _ _ (Below.refl _ _) hS rfl
    refine List.forall_mem_cons.2 ⟨?_, ?_⟩
    · refine SlotStep.guarded rfl rfl 21 rfl rfl (by kernel_rfl) (fun _ _ h => h) ?_
      intro tm ws hsame hS hg K hK
      obtain ⟨v27, e27, rfl⟩ := hg 22 (by kernel_rfl) _ 27 rfl rfl
      obtain ⟨k0, k1c, -⟩ := slot2 hS.1
      go_simp
      exact hK _ _ (Below.refl _ _) hS rfl
    refine List.forall_mem_cons.2 ⟨?_, ?_⟩
    · refine SlotStep.guarded rfl rfl 21 rfl rfl (by kernel_rfl) (fun _ _ h => h) ?_
      intro tm ws hsame hS hg K hK
      obtain ⟨v28, e28, rfl⟩ := hg 23 (by kernel_rfl) _ 28 rfl rfl
      go_simp
      exact hK _ _ (Below.refl _ _) hS rfl
    refine List.forall_mem_cons.2 ⟨?_, ?_⟩
    · refine SlotStep.guarded rfl rfl 21 rfl rfl (by kernel_rfl) (fun _ _ h => h) ?_
      intro tm ws hsame hS hg K hK
      obtain ⟨v29, e29, rfl⟩ := hg 24 (by kernel_rfl) _ 29 rfl rfl
      go_simp
      exact hK _ _ (Below.refl _ _) hS (by first | rfl | exact congrArg Value.bool hdn)
    refine List.forall_mem_cons.2 ⟨?_, ?_⟩
    · refine SlotStep.guarded rfl rfl 21 rfl rfl (by kernel_rfl) (fun _ _ h => h) ?_
      intro tm ws hsame hS hg K hK
      obtain ⟨v30, e30, rfl⟩ := hg 25 (by kernel_rfl) _ 30 rfl rfl
      go_simp
      exact hK _ _ (Below.refl _ _) hS rfl
    refine List.forall_mem_cons.2 ⟨?_, ?_⟩
    · refine SlotStep.guardedNot rfl rfl 26 rfl rfl (by kernel_rfl) (fun _ _ h => h) ?_
      intro tm ws hsame hS hg K hK
      have e2 : tm[2]? = some (.pointer (some ⟨w.heap.size, 0, none⟩)) := hsame.2 2 rfl
      go_simp
      exact hK _ _ (Below.refl _ _) hS rfl
    refine List.forall_mem_cons.2 ⟨?_, ?_⟩
    · refine SlotStep.guardedNot rfl rfl 26 rfl rfl (by kernel_rfl) (fun _ _ h => h) ?_
      intro tm ws hsame hS hg K hK
      obtain ⟨v32, e32, rfl⟩ := hg 27 (by kernel_rfl) _ 32 rfl rfl
      obtain ⟨k0, k1c, -⟩ := slot2 hS.1
      go_simp
      exact hK _ _ (Below.refl _ _) hS rfl
    refine List.forall_mem_cons.2 ⟨?_, ?_⟩
    · refine SlotStep.guardedNot rfl rfl 26 rfl rfl (by kernel_rfl) (fun _ _ h => h) ?_
      intro tm ws hsame hS hg K hK
      obtain ⟨v33, e33, rfl⟩ := hg 28 (by kernel_rfl) _ 33 rfl rfl
      go_simp
      exact hK _ _ (Below.refl _ _) hS rfl
    refine List.forall_mem_cons.2 ⟨?_, ?_⟩
    · refine SlotStep.guarded rfl rfl 21 rfl rfl (by kernel_rfl) (fun _ _ h => h) ?_
      intro tm ws hsame hS hg K hK
      obtain ⟨v31, e31, rfl⟩ := hg 26 (by kernel_rfl) _ 31 rfl rfl
      obtain ⟨v34, e34, rfl⟩ := hg 29 (by kernel_rfl) _ 34 rfl rfl
      go_simp
      exact hK _ _ (Below.refl _ _) hS rfl
    refine List.forall_mem_cons.2 ⟨?_, ?_⟩
    · refine SlotStep.plain rfl rfl rfl ?_
      intro tm ws hsame hS hg K hK
      obtain ⟨v26, e26, rfl⟩ := hg 21 (by kernel_rfl) _ 26 rfl rfl
      obtain ⟨v35, e35, rfl⟩ := hg 30 (by kernel_rfl) _ 35 rfl rfl
      go_simp
      exact hK _ _ (Below.refl _ _) hS rfl
    refine List.forall_mem_cons.2 ⟨?_, ?_⟩
    · refine SlotStep.plain rfl rfl rfl ?_
      intro tm ws hsame hS hg K hK
      obtain ⟨v36, e36, rfl⟩ := hg 31 (by kernel_rfl) _ 36 rfl rfl
      go_simp
      exact hK _ _ (Below.refl _ _) hS rfl
    exact fun _ h => nomatch h
  case fin =>
    intro tm w8 hsame hS hgot
    obtain ⟨u, hu, htm⟩ := hsame.form (by kernel_rfl)
    obtain ⟨v4, e4, rfl⟩ := hgot 32 _ 4 rfl rfl
    have h4 := hu _ _ e4
    have hb8 := hS.2.2.2.2.2
    clear hgot hu hsame e4 hS
    rw [htm]
    clear htm tm
    simp only [List.foldl_cons, List.foldl_nil, List.setIfInBounds_toArray, List.set_cons_zero, List.set_cons_succ, h4]
    clear h4
    go_wp2_with fail
    go_ret
    exact ⟨rfl, hbw2.trans (hb8.mono hbw2.size)⟩

set_option maxRecDepth 100000 in
set_option maxHeartbeats 1200000 in
theorem isw_some {w : World} {p q : Bool} {bb o n c k1 : Nat} {x : Int} {a2 : Option Addr} {n2 c2 E : Nat} {N : Int} {m k d : Nat} (P : Nat) (h : Num w (.slice (some ⟨bb, o, none⟩) n c) N m) (hr : RZ w (.agg #[.bool q, .slice a2 n2 c2, .int .i64 (E : Int)]) (sg p N) k d) (hn : n = k1 + 1) (hcl : w.cell? ⟨bb, o + k1, none⟩ = some (.int .u64 x)) (hx : x ≠ 0) (hmP : 4 * m + 1 < P) (hkP : k + (d + 32 * k) / 32 + 1 < P) (hP : P ≤ 10000) (hm : m ≤ 2000) (hnm : n ≤ 100000) (hd : d + 32 * k ≤ 200000) :
    Calls Tryd.prog 13 #[.agg #[.bool p, .slice (some ⟨bb, o, none⟩) n c], .agg #[.bool q, .slice a2 n2 c2, .int .i64 (E : Int)]] w fun e w' => RetV w (.bool true) e w' := by
  have hz : ((n : Int) == 0) = false := by simp; omega
  have hdn : decide (0 < n) = true := by simp; omega
  have hxn : (x != 0) = true := by simpa using hx
  have hk : (n : Int) - 1 = (k1 : Int) := by omega
  have hkn : k1 < n := by omega
  have hwk : IntKind.i64.wrap (k1 : Int) = (k1 : Int) := by rw [IntKind.wrap_i64]; omega
  clear hn hx
  obtain ⟨w1, hw1⟩ : ∃ w1, w.alloc (.cells #[.bool p, .slice (some ⟨bb, o, none⟩) n c] 28) = w1 := ⟨_, rfl⟩
  obtain ⟨w2, hw2⟩ : ∃ w2, w1.alloc (.cells #[.bool q, .slice a2 n2 c2, .int .i64 (E : Int)] 31) = w2 := ⟨_, rfl⟩
  have hb1 : Below w.heap.size w w1 := hw1 ▸ below_alloc w _
  have hb12 : Below w1.heap.size w1 w2 := hw2 ▸ below_alloc w1 _
  have hbw2 : Below w.heap.size w w2 := hb1.trans (hb12.mono hb1.size)
  have hc1 : w2.heap[w.heap.size]? = some (.cells #[.bool p, .slice (some ⟨bb, o, none⟩) n c] 28 (0, 0)) := slot_kept (hw1 ▸ heap_alloc_new w _) hb12
  have hc2 : w2.heap[w1.heap.size]? = some (.cells #[.bool q, .slice a2 n2 c2, .int .i64 (E : Int)] 31 (0, 0)) := hw2 ▸ heap_alloc_new w1 _
  replace h := h.below hbw2
  replace hr := hr.below hbw2
  replace hcl := cell_after hbw2 hcl
  clear hb12 hb1
  go_enter Tryd.func13, Tryd.ntmps13
  go_upto_region 1 with fail
  refine wp_region_slots (by kernel_rfl) [5, 6, 7, 8, 9, 10, 11, 12, 13, 14, 15, 16, 17, 18, 19, 20, 21, 22, 23, 24, 25, 26, 27, 28, 29, 30, 31, 32, 33, 34, 35, 36, 4] (fun w' => w'.heap[w.heap.size]? = some (.cells #[.bool p, .slice (some ⟨bb, o, none⟩) n c] 28 (0, 0)) ∧ w'.heap[w1.heap.size]? = some (.cells #[.bool q, .slice a2 n2 c2, .int .i64 (E : Int)] 31 (0, 0)) ∧ Num w' (.slice (some ⟨bb, o, none⟩) n c) N m ∧ RZ w' (.agg #[.bool q, .slice a2 n2 c2, .int .i64 (E : Int)]) (sg p N) k d ∧ (w'.cell? ⟨bb, o + k1, none⟩ = some (.int .u64 x)) ∧ Below w2.heap.size w2 w') (Said [Is (.agg #[.bool p, .slice (some ⟨bb, o, none⟩) n c]), IsRZ (sg p N) (2 * m) (64 * m), Is (.agg #[.bool q, .slice a2 n2 c2, .int .i64 (E : Int)]), Is (.bool true), Is (.bool true), Is (.pointer (some ⟨w.heap.size, 1, none⟩)), Is (.slice (some ⟨bb, o, none⟩) n c), Is (.int .i64 (n : Int)), Is (.bool false), Is (.bool false), Is (.pointer (some ⟨w.heap.size, 1, none⟩)), Is (.slice (some ⟨bb, o, none⟩) n c), Is (.pointer (some ⟨w.heap.size, 1, none⟩)), Is (.slice (some ⟨bb, o, none⟩) n c), Is (.int .i64 (n : Int)), Is (.int .i64 (k1 : Int)), Is (.pointer (some ⟨bb, o + k1, none⟩)), Is (.int .u64 x), Is (.bool true), Is (.bool true), Is (.bool true), Is (.bool true), Is (.pointer (some ⟨w.heap.size, 1, none⟩)), Is (.slice (some ⟨bb, o, none⟩) n c), Is (.int .i64 (n : Int)), Is (.bool true), Is (.bool true), IsAny, IsAny, IsAny, Is (.bool true), Is (.bool true), Is (.bool true)]) (by kernel_rfl) (by kernel_rfl) (by kernel_rfl) (by kernel_rfl) (Said.keep ?keep) ⟨slot_kept hc1 (bdn (Below.refl _ _) 1), slot_kept hc2 (bdn (Below.refl _ _) 1), h.below (bdn (Below.refl _ _) 1), hr.below (bdn (Below.refl _ _) 1), cell_after (bdn (Below.refl _ _) 1) hcl, bdn (Below.refl _ _) 1⟩ (l := [0, 1, 2, 3, 4, 5, 6, 7, 8, 9, 10, 11, 12, 13, 14, 15, 16, 17, 18, 19, 20, 21, 22, 23, 24, 25, 26, 27, 28, 29, 30, 31, 32]) (by kernel_rfl) ?step ?fin
  case keep =>
    refine List.forall_mem_cons.2 ⟨Is.keeps _, ?_⟩
    refine List.forall_mem_cons.2 ⟨IsRZ.keeps _ _ _, ?_⟩
    refine List.forall_mem_cons.2 ⟨Is.keeps _, ?_⟩
    refine List.forall_mem_cons.2 ⟨Is.keeps _, ?_⟩
    refine List.forall_mem_cons.2 ⟨Is.keeps _, ?_⟩
    refine List.forall_mem_cons.2 ⟨Is.keeps _, ?_⟩
    refine List.forall_mem_cons.2 ⟨Is.keeps _, ?_⟩
    refine List.forall_mem_cons.2 ⟨Is.keeps _, ?_⟩
    refine List.forall_mem_cons.2 ⟨Is.keeps _, ?_⟩
    refine List.forall_mem_cons.2 ⟨Is.keeps _, ?_⟩
    refine List.forall_mem_cons.2 ⟨Is.keeps _, ?_⟩
    refine List.forall_mem_cons.2 ⟨Is.keeps _, ?_⟩
    refine List.forall_mem_cons.2 ⟨Is.keeps _, ?_⟩
    refine List.forall_mem_cons.2 ⟨Is.keeps _, ?_⟩
    refine List.forall_mem_cons.2 ⟨Is.keeps _, ?_⟩
    refine List.forall_mem_cons.2 ⟨Is.keeps _, ?_⟩
    refine List.forall_mem_cons.2 ⟨Is.keeps _, ?_⟩
    refine List.forall_mem_cons.2 ⟨Is.keeps _, ?_⟩
    refine List.forall_mem_cons.2 ⟨Is.keeps _, ?_⟩
    refine List.forall_mem_cons.2 ⟨Is.keeps _, ?_⟩
    refine List.forall_mem_cons.2 ⟨Is.keeps _, ?_⟩
    refine List.forall_mem_cons.2 ⟨Is.keeps _, ?_⟩
    refine List.forall_mem_cons.2 ⟨Is.keeps _, ?_⟩
    refine List.forall_mem_cons.2 ⟨Is.keeps _, ?_⟩
    refine List.forall_mem_cons.2 ⟨Is.keeps _, ?_⟩
    refine List.forall_mem_cons.2 ⟨Is.keeps _, ?_⟩
    refine List.forall_mem_cons.2 ⟨Is.keeps _, ?_⟩
    refine List.forall_mem_cons.2 ⟨IsAny.keeps, ?_⟩
    refine List.forall_mem_cons.2 ⟨IsAny.keeps, ?_⟩
    refine List.forall_mem_cons.2 ⟨IsAny.keeps, ?_⟩
    refine List.forall_mem_cons.2 ⟨Is.keeps _, ?_⟩
    refine List.forall_mem_cons.2 ⟨Is.keeps _, ?_⟩
    refine List.forall_mem_cons.2 ⟨Is.keeps _, ?_⟩
    exact fun _ h => nomatch h
  case step =>
    refine List.forall_mem_cons.2 ⟨?_, ?_⟩
    · refine SlotStep.plain rfl rfl rfl ?_
      intro tm ws hsame hS hg K hK
      have e2 : tm[2]? = some (.pointer (some ⟨w.heap.size, 0, none⟩)) := hsame.2 2 rfl
      obtain ⟨k0, k1c, -⟩ := slot2 hS.1
      go_simp
      exact hK _ _ (Below.refl _ _) hS rfl
    refine List.forall_mem_cons.2 ⟨?_, ?_⟩
    · refine SlotStep.plain rfl rfl rfl ?_
      intro tm ws hsame hS hg K hK
      obtain ⟨v5, e5, rfl⟩ := hg 0 (by kernel_rfl) _ 5 rfl rfl
      go_simp
      refine (ref_num hS.2.2.1 (by omega)).mono ?_
      rintro e wm ⟨pR, aR, nR, cR, ER, rfl, hR, hb⟩
      exact hK _ _ hb (⟨slot_kept hS.1 (hb), slot_kept hS.2.1 (hb), hS.2.2.1.below (hb), hS.2.2.2.1.below (hb), cell_after (hb) hS.2.2.2.2.1, hS.2.2.2.2.2.trans (Below.mono (hb) hS.2.2.2.2.2.size)⟩) ⟨pR, aR, nR, cR, ER, rfl, hR⟩
    refine List.forall_mem_cons.2 ⟨?_, ?_⟩
    · refine SlotStep.plain rfl rfl rfl ?_
      intro tm ws hsame hS hg K hK
      have e3 : tm[3]? = some (.pointer (some ⟨w1.heap.size, 0, none⟩)) := hsame.2 3 rfl
      obtain ⟨⟨k0, k1c, k2c⟩, -⟩ := slot3 hS.2.1
      go_simp
      exact hK _ _ (Below.refl _ _) hS rfl
    refine List.forall_mem_cons.2 ⟨?_, ?_⟩
    · refine SlotStep.plain rfl rfl rfl ?_
      intro tm ws hsame hS hg K hK
      obtain ⟨v6, e6, ⟨p6, a6, n6, c6, E6, rfl, g6⟩⟩ := hg 1 (by kernel_rfl) _ 6 rfl rfl
      obtain ⟨v7, e7, rfl⟩ := hg 2 (by kernel_rfl) _ 7 rfl rfl
      go_simp
      refine (rzsame_num P g6 hS.2.2.2.1 (by omega) hkP hP (by omega) hd).mono ?_
      rintro e wm ⟨rfl, hb⟩
      exact hK _ _ hb (⟨slot_kept hS.1 (hb), slot_kept hS.2.1 (hb), hS.2.2.1.below (hb), hS.2.2.2.1.below (hb), cell_after (hb) hS.2.2.2.2.1, hS.2.2.2.2.2.trans (Below.mono (hb) hS.2.2.2.2.2.size)⟩) rfl
    refine List.forall_mem_cons.2 ⟨?_, ?_⟩
    · refine SlotStep.plain rfl rfl rfl ?_
      intro tm ws hsame hS hg K hK
      obtain ⟨v8, e8, rfl⟩ := hg 3 (by kernel_rfl) _ 8 rfl rfl
      go_simp
      exact hK _ _ (Below.refl _ _) hS rfl
    refine List.forall_mem_cons.2 ⟨?_, ?_⟩
    · refine SlotStep.guarded rfl rfl 4 rfl rfl (by kernel_rfl) (fun _ _ h => h) ?_
      intro tm ws hsame hS hg K hK
      have e2 : tm[2]? = some (.pointer (some ⟨w.heap.size, 0, none⟩)) := hsame.2 2 rfl
      go_simp
      exact hK _ _ (Below.refl _ _) hS rfl
    refine List.forall_mem_cons.2 ⟨?_, ?_⟩
    · refine SlotStep.guarded rfl rfl 4 rfl rfl (by kernel_rfl) (fun _ _ h => h) ?_
      intro tm ws hsame hS hg K hK
      obtain ⟨v10, e10, rfl⟩ := hg 5 (by kernel_rfl) _ 10 rfl rfl
      obtain ⟨k0, k1c, -⟩ := slot2 hS.1
      go_simp
      exact hK _ _ (Below.refl _ _) hS rfl
    refine List.forall_mem_cons.2 ⟨?_, ?_⟩
    · refine SlotStep.guarded rfl rfl 4 rfl rfl (by kernel_rfl) (fun _ _ h => h) ?_
      intro tm ws hsame hS hg K hK
      obtain ⟨v11, e11, rfl⟩ := hg 6 (by kernel_rfl) _ 11 rfl rfl
      go_simp
      exact hK _ _ (Below.refl _ _) hS rfl
    refine List.forall_mem_cons.2 ⟨?_, ?_⟩
    · refine SlotStep.guarded rfl rfl 4 rfl rfl (by kernel_rfl) (fun _ _ h => h) ?_
      intro tm ws hsame hS hg K hK
      obtain ⟨v12, e12, rfl⟩ := hg 7 (by kernel_rfl) _ 12 rfl rfl
      go_simp
      exact hK _ _ (Below.refl _ _) hS rfl
    refine List.forall_mem_cons.2 ⟨?_, ?_⟩
    · refine SlotStep.guarded rfl rfl 4 rfl rfl (by kernel_rfl) (fun _ _ h => h) ?_
      intro tm ws hsame hS hg K hK
      obtain ⟨v13, e13, rfl⟩ := hg 8 (by kernel_rfl) _ 13 rfl rfl
      go_simp
      exact hK _ _ (Below.refl _ _) hS rfl
    refine List.forall_mem_cons.2 ⟨?_, ?_⟩
    · refine SlotStep.guardedNot rfl rfl 9 rfl rfl (by kernel_rfl) (fun _ _ h => h) ?_
      intro tm ws hsame hS hg K hK
      have e2 : tm[2]? = some (.pointer (some ⟨w.heap.size, 0, none⟩)) := hsame.2 2 rfl
      go_simp
      exact hK _ _ (Below.refl _ _) hS rfl
    refine List.forall_mem_cons.2 ⟨?_, ?_⟩
    · refine SlotStep.guardedNot rfl rfl 9 rfl rfl (by kernel_rfl) (fun _ _ h => h) ?_
      intro tm ws hsame hS hg K hK
      obtain ⟨v15, e15, rfl⟩ := hg 10 (by kernel_rfl) _ 15 rfl rfl
      obtain ⟨k0, k1c, -⟩ := slot2 hS.1
      go_simp
      exact hK _ _ (Below.refl _ _) hS rfl
    refine List.forall_mem_cons.2 ⟨?_, ?_⟩
    · refine SlotStep.guardedNot rfl rfl 9 rfl rfl (by kernel_rfl) (fun _ _ h => h) ?_
      intro tm ws hsame hS hg K hK
      have e2 : tm[2]? = some (.pointer (some ⟨w.heap.size, 0, none⟩)) := hsame.2 2 rfl
      go_simp
      exact hK _ _ (Below.refl _ _) hS rfl
    refine List.forall_mem_cons.2 ⟨?_, ?_⟩
    · refine SlotStep.guardedNot rfl rfl 9 rfl rfl (by kernel_rfl) (fun _ _ h => h) ?_
      intro tm ws hsame hS hg K hK
      obtain ⟨v17, e17, rfl⟩ := hg 12 (by kernel_rfl) _ 17 rfl rfl
      obtain ⟨k0, k1c, -⟩ := slot2 hS.1
      go_simp
      exact hK _ _ (Below.refl _ _) hS rfl
    refine List.forall_mem_cons.2 ⟨?_, ?_⟩
    · refine SlotStep.guardedNot rfl rfl 9 rfl rfl (by kernel_rfl) (fun _ _ h => h) ?_
      intro tm ws hsame hS hg K hK
      obtain ⟨v18, e18, rfl⟩ := hg 13 (by kernel_rfl) _ 18 rfl rfl
      go_simp
      exact hK _ _ (Below.refl _ _) hS rfl
    refine List.forall_mem_cons.2 ⟨?_, ?_⟩
    · refine SlotStep.guardedNot rfl rfl 9 rfl rfl (by kernel_rfl) (fun _ _ h => h) ?_
      intro tm ws hsame hS hg K hK
      obtain ⟨v19, e19, rfl⟩ := hg 14 (by kernel_rfl) _ 19 rfl rfl
      go_simp
      exact hK _ _ (Below.refl _ _) hS rfl
    refine List.forall_mem_cons.2 ⟨?_, ?_⟩
    · refine SlotStep.guardedNot rfl rfl 9 rfl rfl (by kernel_rfl) (fun _ _ h => h) ?_
      intro tm ws hsame hS hg K hK
      obtain ⟨v16, e16, rfl⟩ := hg 11 (by kernel_rfl) _ 16 rfl rfl
      obtain ⟨v20, e20, rfl⟩ := hg 15 (by kernel_rfl) _ 20 rfl rfl
      go_simp
      exact hK _ _ (Below.refl _ _) hS rfl
    refine List.forall_mem_cons.2 ⟨?_, ?_⟩
    · refine SlotStep.guardedNot rfl rfl 9 rfl rfl (by kernel_rfl) (fun _ _ h => h) ?_
      intro tm ws hsame hS hg K hK
      obtain ⟨v21, e21, rfl⟩ := hg 16 (by kernel_rfl) _ 21 rfl rfl
      have hcl := hS.2.2.2.2.1
      go_simp
      exact hK _ _ (Below.refl _ _) hS rfl
    refine List.forall_mem_cons.2 ⟨?_, ?_⟩
    · refine SlotStep.guardedNot rfl rfl 9 rfl rfl (by kernel_rfl) (fun _ _ h => h) ?_
      intro tm ws hsame hS hg K hK
      obtain ⟨v22, e22, rfl⟩ := hg 17 (by kernel_rfl) _ 22 rfl rfl
      go_simp
      exact hK _ _ (Below.refl _ _) hS (by first | rfl | exact congrArg Value.bool hxn)
    refine List.forall_mem_cons.2 ⟨?_, ?_⟩
    · refine SlotStep.guarded rfl rfl 4 rfl rfl (by kernel_rfl) (fun _ _ h => h) ?_
      intro tm ws hsame hS hg K hK
      obtain ⟨v14, e14, rfl⟩ := hg 9 (by kernel_rfl) _ 14 rfl rfl
      obtain ⟨v23, e23, rfl⟩ := hg 18 (by kernel_rfl) _ 23 rfl rfl
      go_simp
      exact hK _ _ (Below.refl _ _) hS rfl
    refine List.forall_mem_cons.2 ⟨?_, ?_⟩
    · refine SlotStep.plain rfl rfl rfl ?_
      intro tm ws hsame hS hg K hK
      obtain ⟨v9, e9, rfl⟩ := hg 4 (by kernel_rfl) _ 9 rfl rfl
      obtain ⟨v24, e24, rfl⟩ := hg 19 (by kernel_rfl) _ 24 rfl rfl
      go_simp
      exact hK _ _ (Below.refl _ _) hS rfl
    refine List.forall_mem_cons.2 ⟨?_, ?_⟩
    · refine SlotStep.plain rfl rfl rfl ?_
      intro tm ws hsame hS hg K hK
      obtain ⟨v25, e25, rfl⟩ := hg 20 (by kernel_rfl) _ 25 rfl rfl
      go_simp
      exact hK _ _ (Below.refl _ _) hS rfl
    refine List.forall_mem_cons.2 ⟨?_, ?_⟩
    · refine SlotStep.guarded rfl rfl 21 rfl rfl (by kernel_rfl) (fun _ _ h => h) ?_
      intro tm ws hsame hS hg K hK
      have e2 : tm[2]? = some (.pointer (some ⟨w.heap.size, 0, none⟩)) := hsame.2 2 rfl
      go_simp
      exact hK _ _ (Below.refl _ _) hS rfl
    refine List.forall_mem_cons.2 ⟨?_, ?_⟩
    · refine SlotStep.guarded rfl rfl 21 rfl rfl (by kernel_rfl) (fun _ _ h => h) ?_
      intro tm ws hsame hS hg K hK
      obtain ⟨v27, e27, rfl⟩ := hg 22 (by kernel_rfl) _ 27 rfl rfl
      obtain ⟨k0, k1c, -⟩ := slot2 hS.1
      go_simp
      exact hK _ _ (Below.refl _ _) hS rfl
    refine List.forall_mem_cons.2 ⟨?_, ?_⟩
    · refine SlotStep.guarded rfl rfl 21 rfl rfl (by kernel_rfl) (fun _ _ h => h) ?_
      intro tm ws hsame hS hg K hK
      obtain ⟨v28, e28, rfl⟩ := hg 23 (by kernel_rfl) _ 28 rfl rfl
      go_simp
      exact hK _ _ (Below.refl _ _) hS rfl
    refine List.forall_mem_cons.2 ⟨?_, ?_⟩
    · refine SlotStep.guarded rfl rfl 21 rfl rfl (by kernel_rfl) (fun _ _ h => h) ?_
      intro tm ws hsame hS hg K hK
      obtain ⟨v29, e29, rfl⟩ := hg 24 (by kernel_rfl) _ 29 rfl rfl
      go_simp
      exact hK _ _ (Below.refl _ _) hS (by first | rfl | exact congrArg Value.bool hdn)
    refine List.forall_mem_cons.2 ⟨?_, ?_⟩
    · refine SlotStep.guarded rfl rfl 21 rfl rfl (by kernel_rfl) (fun _ _ h => h) ?_
      intro tm ws hsame hS hg K hK
      obtain ⟨v30, e30, rfl⟩ := hg 25 (by kernel_rfl) _ 30 rfl rfl
      go_simp
      exact hK _ _ (Below.refl _ _) hS rfl
    refine List.forall_mem_cons.2 ⟨?_, ?_⟩
    · exact SlotStep.skip rfl rfl 26 false rfl rfl (by kernel_rfl) (fun _ _ h => h) (fun _ => trivial)
    refine List.forall_mem_cons.2 ⟨?_, ?_⟩
    · exact SlotStep.skip rfl rfl 26 false rfl rfl (by kernel_rfl) (fun _ _ h => h) (fun _ => trivial)
    refine List.forall_mem_cons.2 ⟨?_, ?_⟩
    · exact SlotStep.skip rfl rfl 26 false rfl rfl (by kernel_rfl) (fun _ _ h => h) (fun _ => trivial)
    refine List.forall_mem_cons.2 ⟨?_, ?_⟩
    · refine SlotStep.guarded rfl rfl 21 rfl rfl (by kernel_rfl) (fun _ _ h => h) ?_
      intro tm ws hsame hS hg K hK
      obtain ⟨v31, e31, rfl⟩ := hg 26 (by kernel_rfl) _ 31 rfl rfl
      obtain ⟨v34, e34, -⟩ := hg 29 (by kernel_rfl) _ 34 rfl rfl
      go_simp
      exact hK _ _ (Below.refl _ _) hS rfl
    refine List.forall_mem_cons.2 ⟨?_, ?_⟩
    · refine SlotStep.plain rfl rfl rfl ?_
      intro tm ws hsame hS hg K hK
      obtain ⟨v26, e26, rfl⟩ := hg 21 (by kernel_rfl) _ 26 rfl rfl
      obtain ⟨v35, e35, rfl⟩ := hg 30 (by kernel_rfl) _ 35 rfl rfl
      go_simp
      exact hK _ _ (Below.refl _ _) hS rfl
    refine List.forall_mem_cons.2 ⟨?_, ?_⟩
    · refine SlotStep.plain rfl rfl rfl ?_
      intro tm ws hsame hS hg K hK
      obtain ⟨v36, e36, rfl⟩ := hg 31 (by kernel_rfl) _ 36 rfl rfl
      go_simp
      exact hK _ _ (Below.refl _ _) hS rfl
    exact fun _ h => nomatch h
  case fin =>
    intro tm w8 hsame hS hgot
    obtain ⟨u, hu, htm⟩ := hsame.form (by kernel_rfl)
    obtain ⟨v4, e4, rfl⟩ := hgot 32 _ 4 rfl rfl
    have h4 := hu _ _ e4
    have hb8 := hS.2.2.2.2.2
    clear hgot hu hsame e4 hS
    rw [htm]
    clear htm tm
    simp only [List.foldl_cons, List.foldl_nil, List.setIfInBounds_toArray, List.set_cons_zero, List.set_cons_succ, h4]
    clear h4
    go_wp2_with fail
    go_ret
    exact ⟨rfl, hbw2.trans (hb8.mono hbw2.size)⟩
end Go.Proofs.YtfanhllcoaondaaDoor

namespace Go.Proofs.YtfanhllcoaondaaDoor
open Go.RowKit

def IsWN (Z : Int) (m : Nat) (v : Value) (w : World) : Prop := WN w v Z m
theorem IsWN.keeps (Z : Int) (m : Nat) : Keeps (IsWN Z m) := fun _ _ _ hb h => h.below hb
theorem isw_num {w : World} {v r : Value} {Z : Int} {m k d : Nat} (P : Nat) (hv : WN w v Z m) (hr : RZ w r Z k d) (hmP : 4 * m + 1 < P) (hkP : k + (d + 32 * k) / 32 + 1 < P) (hP : P ≤ 10000) (hm : m ≤ 2000) (hd : d + 32 * k ≤ 200000) :
    Calls Tryd.prog 13 #[v, r] w fun e w' => RetV w (.bool true) e w' := by
  obtain ⟨p, a, n, c, N, base, rfl, hN, rfl, hp⟩ := hv
  have hr' := hr
  obtain ⟨q, a2, n2, c2, M, E, rfl, -⟩ := hr'
  by_cases h0 : n = 0
  · have hN0 := hN.len.1.1 h0
    have hpf : p = false := by
      cases p with
      | false => rfl
      | true => exact absurd hN0 (hp rfl)
    subst hpf
    exact isw_zero P hN.num hr h0 hmP hkP hP hm hd
  · have hnum := hN.num
    obtain ⟨l, hO, hC, hV, hlen⟩ := hN
    have hnl : n = l.length := by
      obtain ⟨a', c', he, -⟩ := hO.form
      simp only [Value.slice.injEq] at he
      exact he.2.1
    have hne : l ≠ [] := by
      intro e
      rw [e] at hnl
      exact h0 hnl
    obtain ⟨g, n', cap, he, hn', h1, h2, hA, -, -⟩ := ow_row hO hne
    cases he
    have hlast := hC.top hne
    have hpos : 0 < l.length := by omega
    have hcell := hA.at'.get (j := l.length - 1) (by omega)
    exact isw_some P hnum hr (k1 := l.length - 1) (by omega) hcell hlast hmP hkP hP hm (by omega) hd
end Go.Proofs.YtfanhllcoaondaaDoor

namespace Go.Proofs.YtfanhllcoaondaaDoor
open Go.RowKit

theorem WN.nil (w : World) : WN w (.agg #[.bool false, .slice none 0 0]) 0 0 := ⟨false, none, 0, 0, 0, 0, rfl, ⟨[], Ow.nil _ _, Can.nil _, rfl, Nat.le_refl _⟩, rfl, fun h => by cases h⟩
theorem RZ.nil (w : World) : RZ w (.agg #[.bool false, .slice none 0 0, .int .i64 0]) 0 0 0 := ⟨false, none, 0, 0, 0, 0, rfl, RN.nil _ _, by simp [sg], fun _ => ⟨rfl, rfl⟩, fun h => absurd rfl h, Nat.le_refl _⟩

set_option maxRecDepth 100000 in
theorem shlw_low {w : World} (neg : Bool) (a : Option Addr) (n c : Nat) (k : Int) (h : k < 0) :
    Calls Tryd.prog 33 #[.agg #[.bool neg, .slice a n c], .int .i64 k] w fun e w' => RetV w (.agg #[.bool false, .slice none 0 0]) e w' := by
  obtain ⟨w1, hw1⟩ : ∃ w1, w.alloc (.cells #[.bool neg, .slice a n c] 28) = w1 := ⟨_, rfl⟩
  obtain ⟨w2, hw2⟩ : ∃ w2, w1.alloc (.cells #[.bool false, .slice none 0 0] 28) = w2 := ⟨_, rfl⟩
  have hb1 : Below w.heap.size w w1 := hw1 ▸ below_alloc w _
  have hb12 : Below w1.heap.size w1 w2 := hw2 ▸ below_alloc w1 _
  have hbw2 : Below w.heap.size w w2 := hb1.trans (hb12.mono hb1.size)
  have hc2 : w2.heap[w1.heap.size]? = some (.cells #[.bool false, .slice none 0 0] 28 (0, 0)) := hw2 ▸ heap_alloc_new w1 _
  have hs1 : w.heap.size ≤ w1.heap.size := hb1.size
  obtain ⟨k0, k1, f0, f1⟩ := slot2 hc2
  have hend := slot_set (u := .bool false) (v := .slice none 0 0) hc2
  have hfin := hbw2.trans ((slot_only (w := w2) (g := w1.heap.size) (.bool false) (.slice none 0 0)).below hs1 hbw2.size)
  have HF := Lib.hid hfin
  clear hb1 hb12 hfin
  go_enter Tryd.func33, Tryd.ntmps33
  go_wp2_with fail
  refine bodyPost_ret (results_cell_row rfl _ _ w1.heap.size 28 _ (0, 0) _ rfl hend Tryd.underlying28 rfl (by kernel_rfl)) rfl ?_
  exact ⟨rfl, HF.out⟩

set_option maxRecDepth 100000 in
theorem shlw_far {w : World} (neg : Bool) (a : Option Addr) (n c : Nat) (k : Int) (h : 16777216 < k) :
    Calls Tryd.prog 33 #[.agg #[.bool neg, .slice a n c], .int .i64 k] w fun e w' => RetV w (.agg #[.bool false, .slice none 0 0]) e w' := by
  obtain ⟨w1, hw1⟩ : ∃ w1, w.alloc (.cells #[.bool neg, .slice a n c] 28) = w1 := ⟨_, rfl⟩
  obtain ⟨w2, hw2⟩ : ∃ w2, w1.alloc (.cells #[.bool false, .slice none 0 0] 28) = w2 := ⟨_, rfl⟩
  have hb1 : Below w.heap.size w w1 := hw1 ▸ below_alloc w _
  have hb12 : Below w1.heap.size w1 w2 := hw2 ▸ below_alloc w1 _
  have hbw2 : Below w.heap.size w w2 := hb1.trans (hb12.mono hb1.size)
  have hc2 : w2.heap[w1.heap.size]? = some (.cells #[.bool false, .slice none 0 0] 28 (0, 0)) := hw2 ▸ heap_alloc_new w1 _
  have hs1 : w.heap.size ≤ w1.heap.size := hb1.size
  obtain ⟨k0, k1, f0, f1⟩ := slot2 hc2
  have hend := slot_set (u := .bool false) (v := .slice none 0 0) hc2
  have hfin := hbw2.trans ((slot_only (w := w2) (g := w1.heap.size) (.bool false) (.slice none 0 0)).below hs1 hbw2.size)
  have HF := Lib.hid hfin
  have hk0 : ¬ k < 0 := by omega
  clear hb1 hb12 hfin
  go_enter Tryd.func33, Tryd.ntmps33
  go_wp2_with fail
  refine bodyPost_ret (results_cell_row rfl _ _ w1.heap.size 28 _ (0, 0) _ rfl hend Tryd.underlying28 rfl (by kernel_rfl)) rfl ?_
  exact ⟨rfl, HF.out⟩

set_option maxRecDepth 100000 in
theorem floorw_low {w : World} (neg : Bool) (a : Option Addr) (n c : Nat) (k : Int) (h : k < 0) :
    Calls Tryd.prog 34 #[.agg #[.bool neg, .slice a n c], .int .i64 k] w fun e w' => RetV w (.agg #[.bool false, .slice none 0 0]) e w' := by
  obtain ⟨w1, hw1⟩ : ∃ w1, w.alloc (.cells #[.bool neg, .slice a n c] 28) = w1 := ⟨_, rfl⟩
  obtain ⟨w2, hw2⟩ : ∃ w2, w1.alloc (.cells #[.bool false, .slice none 0 0] 28) = w2 := ⟨_, rfl⟩
  have hb1 : Below w.heap.size w w1 := hw1 ▸ below_alloc w _
  have hb12 : Below w1.heap.size w1 w2 := hw2 ▸ below_alloc w1 _
  have hbw2 : Below w.heap.size w w2 := hb1.trans (hb12.mono hb1.size)
  have hc2 : w2.heap[w1.heap.size]? = some (.cells #[.bool false, .slice none 0 0] 28 (0, 0)) := hw2 ▸ heap_alloc_new w1 _
  have hs1 : w.heap.size ≤ w1.heap.size := hb1.size
  obtain ⟨k0, k1, f0, f1⟩ := slot2 hc2
  have hend := slot_set (u := .bool false) (v := .slice none 0 0) hc2
  have hfin := hbw2.trans ((slot_only (w := w2) (g := w1.heap.size) (.bool false) (.slice none 0 0)).below hs1 hbw2.size)
  have HF := Lib.hid hfin
  clear hb1 hb12 hfin
  go_enter Tryd.func34, Tryd.ntmps34
  go_wp2_with fail
  refine bodyPost_ret (results_cell_row rfl _ _ w1.heap.size 28 _ (0, 0) _ rfl hend Tryd.underlying28 rfl (by kernel_rfl)) rfl ?_
  exact ⟨rfl, HF.out⟩

set_option maxRecDepth 100000 in
theorem floorw_far {w : World} (neg : Bool) (a : Option Addr) (n c : Nat) (k : Int) (h : 16777216 < k) :
    Calls Tryd.prog 34 #[.agg #[.bool neg, .slice a n c], .int .i64 k] w fun e w' => RetV w (.agg #[.bool false, .slice none 0 0]) e w' := by
  obtain ⟨w1, hw1⟩ : ∃ w1, w.alloc (.cells #[.bool neg, .slice a n c] 28) = w1 := ⟨_, rfl⟩
  obtain ⟨w2, hw2⟩ : ∃ w2, w1.alloc (.cells #[.bool false, .slice none 0 0] 28) = w2 := ⟨_, rfl⟩
  have hb1 : Below w.heap.size w w1 := hw1 ▸ below_alloc w _
  have hb12 : Below w1.heap.size w1 w2 := hw2 ▸ below_alloc w1 _
  have hbw2 : Below w.heap.size w w2 := hb1.trans (hb12.mono hb1.size)
  have hc2 : w2.heap[w1.heap.size]? = some (.cells #[.bool false, .slice none 0 0] 28 (0, 0)) := hw2 ▸ heap_alloc_new w1 _
  have hs1 : w.heap.size ≤ w1.heap.size := hb1.size
  obtain ⟨k0, k1, f0, f1⟩ := slot2 hc2
  have hend := slot_set (u := .bool false) (v := .slice none 0 0) hc2
  have hfin := hbw2.trans ((slot_only (w := w2) (g := w1.heap.size) (.bool false) (.slice none 0 0)).below hs1 hbw2.size)
  have HF := Lib.hid hfin
  have hk0 : ¬ k < 0 := by omega
  clear hb1 hb12 hfin
  go_enter Tryd.func34, Tryd.ntmps34
  go_wp2_with fail
  refine bodyPost_ret (results_cell_row rfl _ _ w1.heap.size 28 _ (0, 0) _ rfl hend Tryd.underlying28 rfl (by kernel_rfl)) rfl ?_
  exact ⟨rfl, HF.out⟩

set_option maxRecDepth 100000 in
set_option maxHeartbeats 1200000 in
theorem wshifts_ok (neg : Bool) (aA : Option Addr) (nA cA : Nat) (l : List Int) (k : Nat) (hk : k ≤ 5000) (w : World) (hn : nA = l.length) (hc1 : nA ≤ cA) (hc2 : cA ≤ 9223372036854775807) (hr : Rd w aA l) (hl : Lim B64 l) (h40 : nA ≤ 40) (hT : Tab64 w) :
    Calls Tryd.prog 4 #[.bool neg, .slice aA nA cA, .int .i64 (k : Int)] w fun e w' => RetV w (.bool true) e w' := by
  have hlt := light_one_at aA nA cA 22 w w.heap.size rfl (by omega)
  rw [show decide (nA ≤ 40) = true by simp; omega] at hlt
  have HL := Lib.hid hlt
  obtain ⟨A, hAe⟩ : ∃ A, A = vb B64 l := ⟨_, rfl⟩
  have hA : Num w (.slice aA nA cA) A 40 := ⟨l, ⟨aA, cA, by rw [hn], by rw [← hn]; exact hc1, hc2, hr, hl⟩, hAe.symm, by rw [← hn]; exact h40⟩
  have hb0 := below_alloc w (.cells #[Value.slice aA nA cA] 22)
  clear hlt hn hAe hr hl hc1 hc2 h40
  have hk1 : ¬ (k : Int) < 0 := by omega
  have hk2 : ¬ (16777216 : Int) < (k : Int) := by omega
  have hk3 : ¬ (5000 : Int) < (k : Int) := by omega
  go_enter Tryd.func4, Tryd.ntmps4
  go_wp2_with fail
  refine HL.out.mono ?_
  rintro e w' ⟨rfl, rfl⟩
  go_wp2_with fail
  refine (alive2_yes _).mono ?_
  rintro e w1 ⟨rfl, hb⟩
  have hbw1 := hb0.trans (hb.mono hb0.size)
  obtain ⟨w2, hw2⟩ : ∃ w2, w1.alloc (.cells #[.bool neg, .slice aA nA cA] 28) = w2 := ⟨_, rfl⟩
  have hb2 : Below w1.heap.size w1 w2 := hw2 ▸ below_alloc w1 _
  have hc1 : w2.heap[w1.heap.size]? = some (.cells #[.bool neg, .slice aA nA cA] 28 (0, 0)) := hw2 ▸ heap_alloc_new w1 _
  obtain ⟨j0, j1, -, -⟩ := slot2 hc1
  have hbw2 := hbw1.trans (hb2.mono hbw1.size)
  clear hb hb0 HL hb2 hbw1
  replace hA := hA.below hbw2
  go_wp2_with fail
  refine (ref_num (p := neg) hA (by decide)).mono ?_
  rintro e w3 ⟨pR, aR, nR, cR, E, rfl, hR, hb3⟩
  obtain ⟨w4, hw4⟩ : ∃ w4, w3.alloc (.cells #[.bool pR, .slice aR nR cR, .int .i64 (E : Int)] 31) = w4 := ⟨_, rfl⟩
  have hb4 : Below w3.heap.size w3 w4 := hw4 ▸ below_alloc w3 _
  have hb34 := hb3.trans (hb4.mono hb3.size)
  have hc2 : w4.heap[w3.heap.size]? = some (.cells #[.bool pR, .slice aR nR cR, .int .i64 (E : Int)] 31 (0, 0)) := hw4 ▸ heap_alloc_new w3 _
  replace hc1 := slot_kept hc1 hb34
  replace hA := hA.below hb34
  replace hR := hR.below hb4
  have hbw4 := hbw2.trans (hb34.mono hbw2.size)
  clear hb34 hb3 hb4 hbw2 j0 j1
  go_wp2_with fail
  refine (small_num 1 _ (by decide) (by decide)).mono ?_
  rintro e w5 ⟨a1, n1, c1, rfl, h1, hb5⟩
  go_wp2_with fail
  refine (rshl_num (p := 160) k h1 (by omega) (by omega) (by decide)).mono ?_
  rintro e w6 ⟨a2, n2, c2, rfl, h2, hb6⟩
  go_wp2_with fail
  refine (rmake_num false 0 h2 (by decide) (by decide)).mono ?_
  rintro e w7 ⟨pQ, aQ, nQ, cQ, G, rfl, hQ, hb7⟩
  obtain ⟨w8, hw8⟩ : ∃ w8, w7.alloc (.cells #[.bool pQ, .slice aQ nQ cQ, .int .i64 (G : Int)] 31) = w8 := ⟨_, rfl⟩
  have hb8 : Below w7.heap.size w7 w8 := hw8 ▸ below_alloc w7 _
  have hb48 := ((hb5.trans (hb6.mono hb5.size)).trans (hb7.mono (hb5.trans (hb6.mono hb5.size)).size)).trans (hb8.mono ((hb5.trans (hb6.mono hb5.size)).trans (hb7.mono (hb5.trans (hb6.mono hb5.size)).size)).size)
  have hc3 : w8.heap[w7.heap.size]? = some (.cells #[.bool pQ, .slice aQ nQ cQ, .int .i64 (G : Int)] 31 (0, 0)) := hw8 ▸ heap_alloc_new w7 _
  replace hc1 := slot_kept hc1 hb48
  replace hc2 := slot_kept hc2 hb48
  replace hA := hA.below hb48
  replace hR := hR.below hb48
  have hQ' := ((hQ.below hb8).eq (show sg false (1 * 2 ^ k) * 2 ^ 0 = 2 ^ k by rw [sg_false]; simp)).mono (Nat.le_refl _) (show 0 + 32 * 160 ≤ 5120 by decide)
  have hbw8 := hbw4.trans (hb48.mono hbw4.size)
  replace hT := hT.below hbw8
  have hP2 := pow2_pos k
  have hP20 : (2 : Int) ^ k ≠ 0 := by omega
  have HP20 := Lib.hid hP20
  clear hb5 hb6 hb7 hb8 hb48 hbw4 hQ h1 h2 hP2 hP20
  go_upto_region 10 with fail
  refine wp_region_slots (by kernel_rfl) [48, 49, 50, 51, 52, 53, 54, 55, 56, 57, 58, 59, 60, 61, 62, 63, 6] (fun w' => (w'.heap[w1.heap.size]? = some (.cells #[.bool neg, .slice aA nA cA] 28 (0, 0))) ∧ (w'.heap[w3.heap.size]? = some (.cells #[.bool pR, .slice aR nR cR, .int .i64 (E : Int)] 31 (0, 0))) ∧ (w'.heap[w7.heap.size]? = some (.cells #[.bool pQ, .slice aQ nQ cQ, .int .i64 (G : Int)] 31 (0, 0))) ∧ (Num w' (.slice aA nA cA) A 40) ∧ (RZ w' (.agg #[.bool pR, .slice aR nR cR, .int .i64 (E : Int)]) (sg neg A) (2 * 40) (64 * 40)) ∧ (RZ w' (.agg #[.bool pQ, .slice aQ nQ cQ, .int .i64 (G : Int)]) (2 ^ k) 160 5120) ∧ (Tab64 w') ∧ (Below w8.heap.size w8 w')) (Said [Is (.agg #[.bool neg, .slice aA nA cA]), Is (.int .i64 (k : Int)), IsWN (sg neg A * 2 ^ k) 120, Is (.agg #[.bool pR, .slice aR nR cR, .int .i64 (E : Int)]), Is (.agg #[.bool pQ, .slice aQ nQ cQ, .int .i64 (G : Int)]), IsRZ (sg neg A * 2 ^ k) (2 * 40 + 160) (64 * 40 + 5120 + 32 * (2 * 40 + 160)), Is (.bool true), Is (.bool true), Is (.agg #[.bool neg, .slice aA nA cA]), Is (.int .i64 (k : Int)), IsWN (sg neg A / 2 ^ k) 41, Is (.agg #[.bool pR, .slice aR nR cR, .int .i64 (E : Int)]), Is (.agg #[.bool pQ, .slice aQ nQ cQ, .int .i64 (G : Int)]), IsRZ (sg neg A / 2 ^ k) 401 (32 * 401), Is (.bool true), Is (.bool true), Is (.bool true)]) (by kernel_rfl) (by kernel_rfl) (by kernel_rfl) (by kernel_rfl) (Said.keep ?keep) ⟨slot_kept hc1 (bdn (Below.refl _ _) 1), slot_kept hc2 (bdn (Below.refl _ _) 1), slot_kept hc3 (bdn (Below.refl _ _) 1), hA.below (bdn (Below.refl _ _) 1), hR.below (bdn (Below.refl _ _) 1), hQ'.below (bdn (Below.refl _ _) 1), Tab64.below hT (bdn (Below.refl _ _) 1), bdn (Below.refl _ _) 1⟩ (l := [0, 1, 2, 3, 4, 5, 6, 7, 8, 9, 10, 11, 12, 13, 14, 15, 16]) (by kernel_rfl) ?step ?fin
  case keep =>
    refine List.forall_mem_cons.2 ⟨Is.keeps _, ?_⟩
    refine List.forall_mem_cons.2 ⟨Is.keeps _, ?_⟩
    refine List.forall_mem_cons.2 ⟨IsWN.keeps _ _, ?_⟩
    refine List.forall_mem_cons.2 ⟨Is.keeps _, ?_⟩
    refine List.forall_mem_cons.2 ⟨Is.keeps _, ?_⟩
    refine List.forall_mem_cons.2 ⟨IsRZ.keeps _ _ _, ?_⟩
    refine List.forall_mem_cons.2 ⟨Is.keeps _, ?_⟩
    refine List.forall_mem_cons.2 ⟨Is.keeps _, ?_⟩
    refine List.forall_mem_cons.2 ⟨Is.keeps _, ?_⟩
    refine List.forall_mem_cons.2 ⟨Is.keeps _, ?_⟩
    refine List.forall_mem_cons.2 ⟨IsWN.keeps _ _, ?_⟩
    refine List.forall_mem_cons.2 ⟨Is.keeps _, ?_⟩
    refine List.forall_mem_cons.2 ⟨Is.keeps _, ?_⟩
    refine List.forall_mem_cons.2 ⟨IsRZ.keeps _ _ _, ?_⟩
    refine List.forall_mem_cons.2 ⟨Is.keeps _, ?_⟩
    refine List.forall_mem_cons.2 ⟨Is.keeps _, ?_⟩
    refine List.forall_mem_cons.2 ⟨Is.keeps _, ?_⟩
    exact fun _ h => nomatch h
  case step =>
    refine List.forall_mem_cons.2 ⟨?_, ?_⟩
    · refine SlotStep.plain rfl rfl rfl ?_
      intro tm ws hsame hS hg K hK
      have e7 : tm[7]? = some (.pointer (some ⟨w1.heap.size, 0, none⟩)) := hsame.2 7 rfl
      obtain ⟨k0, k1, -, -⟩ := slot2 (hS.1)
      go_simp
      exact hK _ _ (Below.refl _ _) hS rfl
    refine List.forall_mem_cons.2 ⟨?_, ?_⟩
    · refine SlotStep.plain rfl rfl rfl ?_
      intro tm ws hsame hS hg K hK
      have e2 : tm[2]? = some (.int .i64 (k : Int)) := hsame.2 2 rfl
      go_simp
      exact hK _ _ (Below.refl _ _) hS rfl
    refine List.forall_mem_cons.2 ⟨?_, ?_⟩
    · refine SlotStep.plain rfl rfl rfl ?_
      intro tm ws hsame hS hg K hK
      obtain ⟨v48, e48, rfl⟩ := hg 0 (by kernel_rfl) _ 48 rfl rfl
      obtain ⟨v49, e49, rfl⟩ := hg 1 (by kernel_rfl) _ 49 rfl rfl
      go_simp
      refine (shlw_num (p := 120) neg k hS.2.2.2.1 (by omega) (by omega) (by decide)).mono ?_
      intro e wm hw
      obtain ⟨vR, rfl, hR, hb⟩ := hw.wn
      exact hK _ _ hb (⟨slot_kept (hS.1) (hb), slot_kept (hS.2.1) (hb), slot_kept (hS.2.2.1) (hb), (hS.2.2.2.1).below (hb), (hS.2.2.2.2.1).below (hb), (hS.2.2.2.2.2.1).below (hb), Tab64.below (hS.2.2.2.2.2.2.1) (hb), (hS.2.2.2.2.2.2.2).trans (Below.mono (hb) (hS.2.2.2.2.2.2.2).size)⟩) hR
    refine List.forall_mem_cons.2 ⟨?_, ?_⟩
    · refine SlotStep.plain rfl rfl rfl ?_
      intro tm ws hsame hS hg K hK
      have e8 : tm[8]? = some (.pointer (some ⟨w3.heap.size, 0, none⟩)) := hsame.2 8 rfl
      obtain ⟨⟨k0, k1, k2⟩, -⟩ := slot3 (hS.2.1)
      go_simp
      exact hK _ _ (Below.refl _ _) hS rfl
    refine List.forall_mem_cons.2 ⟨?_, ?_⟩
    · refine SlotStep.plain rfl rfl rfl ?_
      intro tm ws hsame hS hg K hK
      have e9 : tm[9]? = some (.pointer (some ⟨w7.heap.size, 0, none⟩)) := hsame.2 9 rfl
      obtain ⟨⟨k0, k1, k2⟩, -⟩ := slot3 (hS.2.2.1)
      go_simp
      exact hK _ _ (Below.refl _ _) hS rfl
    refine List.forall_mem_cons.2 ⟨?_, ?_⟩
    · refine SlotStep.plain rfl rfl rfl ?_
      intro tm ws hsame hS hg K hK
      obtain ⟨v51, e51, rfl⟩ := hg 3 (by kernel_rfl) _ 51 rfl rfl
      obtain ⟨v52, e52, rfl⟩ := hg 4 (by kernel_rfl) _ 52 rfl rfl
      go_simp
      refine (rzmul_num hS.2.2.2.2.1 hS.2.2.2.2.2.1 (by decide) (by decide) (by decide) (by decide)).mono ?_
      rintro e wm ⟨pS, aS, nS, cS, ES, rfl, hS2, hb⟩
      exact hK _ _ hb (⟨slot_kept (hS.1) (hb), slot_kept (hS.2.1) (hb), slot_kept (hS.2.2.1) (hb), (hS.2.2.2.1).below (hb), (hS.2.2.2.2.1).below (hb), (hS.2.2.2.2.2.1).below (hb), Tab64.below (hS.2.2.2.2.2.2.1) (hb), (hS.2.2.2.2.2.2.2).trans (Below.mono (hb) (hS.2.2.2.2.2.2.2).size)⟩) ⟨pS, aS, nS, cS, ES, rfl, hS2⟩
    refine List.forall_mem_cons.2 ⟨?_, ?_⟩
    · refine SlotStep.plain rfl rfl rfl ?_
      intro tm ws hsame hS hg K hK
      obtain ⟨v50, e50, g50⟩ := hg 2 (by kernel_rfl) _ 50 rfl rfl
      obtain ⟨v53, e53, ⟨p53, a53, n53, c53, E53, rfl, g53⟩⟩ := hg 5 (by kernel_rfl) _ 53 rfl rfl
      go_simp
      refine (isw_num 1000 g50 g53 (by decide) (by decide) (by decide) (by decide) (by decide)).mono ?_
      rintro e wm ⟨rfl, hb⟩
      exact hK _ _ hb (⟨slot_kept (hS.1) (hb), slot_kept (hS.2.1) (hb), slot_kept (hS.2.2.1) (hb), (hS.2.2.2.1).below (hb), (hS.2.2.2.2.1).below (hb), (hS.2.2.2.2.2.1).below (hb), Tab64.below (hS.2.2.2.2.2.2.1) (hb), (hS.2.2.2.2.2.2.2).trans (Below.mono (hb) (hS.2.2.2.2.2.2.2).size)⟩) rfl
    refine List.forall_mem_cons.2 ⟨?_, ?_⟩
    · refine SlotStep.plain rfl rfl rfl ?_
      intro tm ws hsame hS hg K hK
      obtain ⟨v54, e54, rfl⟩ := hg 6 (by kernel_rfl) _ 54 rfl rfl
      go_simp
      exact hK _ _ (Below.refl _ _) hS rfl
    refine List.forall_mem_cons.2 ⟨?_, ?_⟩
    · refine SlotStep.guarded rfl rfl 7 rfl rfl (by kernel_rfl) (fun _ _ h => h) ?_
      intro tm ws hsame hS hg K hK
      have e7 : tm[7]? = some (.pointer (some ⟨w1.heap.size, 0, none⟩)) := hsame.2 7 rfl
      obtain ⟨k0, k1, -, -⟩ := slot2 (hS.1)
      go_simp
      exact hK _ _ (Below.refl _ _) hS rfl
    refine List.forall_mem_cons.2 ⟨?_, ?_⟩
    · refine SlotStep.guarded rfl rfl 7 rfl rfl (by kernel_rfl) (fun _ _ h => h) ?_
      intro tm ws hsame hS hg K hK
      have e2 : tm[2]? = some (.int .i64 (k : Int)) := hsame.2 2 rfl
      go_simp
      exact hK _ _ (Below.refl _ _) hS rfl
    refine List.forall_mem_cons.2 ⟨?_, ?_⟩
    · refine SlotStep.guarded rfl rfl 7 rfl rfl (by kernel_rfl) (fun _ _ h => h) ?_
      intro tm ws hsame hS hg K hK
      obtain ⟨v56, e56, rfl⟩ := hg 8 (by kernel_rfl) _ 56 rfl rfl
      obtain ⟨v57, e57, rfl⟩ := hg 9 (by kernel_rfl) _ 57 rfl rfl
      go_simp
      refine (floorw_num neg k hS.2.2.2.1 (by omega) (by decide) hS.2.2.2.2.2.2.1).mono ?_
      intro e wm hw
      obtain ⟨vR, rfl, hR, hb⟩ := hw.wn
      exact hK _ _ hb (⟨slot_kept (hS.1) (hb), slot_kept (hS.2.1) (hb), slot_kept (hS.2.2.1) (hb), (hS.2.2.2.1).below (hb), (hS.2.2.2.2.1).below (hb), (hS.2.2.2.2.2.1).below (hb), Tab64.below (hS.2.2.2.2.2.2.1) (hb), (hS.2.2.2.2.2.2.2).trans (Below.mono (hb) (hS.2.2.2.2.2.2.2).size)⟩) hR
    refine List.forall_mem_cons.2 ⟨?_, ?_⟩
    · refine SlotStep.guarded rfl rfl 7 rfl rfl (by kernel_rfl) (fun _ _ h => h) ?_
      intro tm ws hsame hS hg K hK
      have e8 : tm[8]? = some (.pointer (some ⟨w3.heap.size, 0, none⟩)) := hsame.2 8 rfl
      obtain ⟨⟨k0, k1, k2⟩, -⟩ := slot3 (hS.2.1)
      go_simp
      exact hK _ _ (Below.refl _ _) hS rfl
    refine List.forall_mem_cons.2 ⟨?_, ?_⟩
    · refine SlotStep.guarded rfl rfl 7 rfl rfl (by kernel_rfl) (fun _ _ h => h) ?_
      intro tm ws hsame hS hg K hK
      have e9 : tm[9]? = some (.pointer (some ⟨w7.heap.size, 0, none⟩)) := hsame.2 9 rfl
      obtain ⟨⟨k0, k1, k2⟩, -⟩ := slot3 (hS.2.2.1)
      go_simp
      exact hK _ _ (Below.refl _ _) hS rfl
    refine List.forall_mem_cons.2 ⟨?_, ?_⟩
    · refine SlotStep.guarded rfl rfl 7 rfl rfl (by kernel_rfl) (fun _ _ h => h) ?_
      intro tm ws hsame hS hg K hK
      obtain ⟨v59, e59, rfl⟩ := hg 11 (by kernel_rfl) _ 59 rfl rfl
      obtain ⟨v60, e60, rfl⟩ := hg 12 (by kernel_rfl) _ 60 rfl rfl
      go_simp
      refine (rfloor_num 400 401 hS.2.2.2.2.1 hS.2.2.2.2.2.1 HP20.out (by decide) (by decide) (by decide) (by decide) (by decide) (by decide) (by decide)).mono ?_
      rintro e wm ⟨pS, aS, nS, cS, ES, rfl, hS2, hb⟩
      exact hK _ _ hb (⟨slot_kept (hS.1) (hb), slot_kept (hS.2.1) (hb), slot_kept (hS.2.2.1) (hb), (hS.2.2.2.1).below (hb), (hS.2.2.2.2.1).below (hb), (hS.2.2.2.2.2.1).below (hb), Tab64.below (hS.2.2.2.2.2.2.1) (hb), (hS.2.2.2.2.2.2.2).trans (Below.mono (hb) (hS.2.2.2.2.2.2.2).size)⟩) ⟨pS, aS, nS, cS, ES, rfl, hS2.eq fq_pow⟩
    refine List.forall_mem_cons.2 ⟨?_, ?_⟩
    · refine SlotStep.guarded rfl rfl 7 rfl rfl (by kernel_rfl) (fun _ _ h => h) ?_
      intro tm ws hsame hS hg K hK
      obtain ⟨v58, e58, g58⟩ := hg 10 (by kernel_rfl) _ 58 rfl rfl
      obtain ⟨v61, e61, ⟨p61, a61, n61, c61, E61, rfl, g61⟩⟩ := hg 13 (by kernel_rfl) _ 61 rfl rfl
      go_simp
      refine (isw_num 1300 g58 g61 (by decide) (by decide) (by decide) (by decide) (by decide)).mono ?_
      rintro e wm ⟨rfl, hb⟩
      exact hK _ _ hb (⟨slot_kept (hS.1) (hb), slot_kept (hS.2.1) (hb), slot_kept (hS.2.2.1) (hb), (hS.2.2.2.1).below (hb), (hS.2.2.2.2.1).below (hb), (hS.2.2.2.2.2.1).below (hb), Tab64.below (hS.2.2.2.2.2.2.1) (hb), (hS.2.2.2.2.2.2.2).trans (Below.mono (hb) (hS.2.2.2.2.2.2.2).size)⟩) rfl
    refine List.forall_mem_cons.2 ⟨?_, ?_⟩
    · refine SlotStep.plain rfl rfl rfl ?_
      intro tm ws hsame hS hg K hK
      obtain ⟨v55, e55, rfl⟩ := hg 7 (by kernel_rfl) _ 55 rfl rfl
      obtain ⟨v62, e62, rfl⟩ := hg 14 (by kernel_rfl) _ 62 rfl rfl
      go_simp
      exact hK _ _ (Below.refl _ _) hS rfl
    refine List.forall_mem_cons.2 ⟨?_, ?_⟩
    · refine SlotStep.plain rfl rfl rfl ?_
      intro tm ws hsame hS hg K hK
      obtain ⟨v63, e63, rfl⟩ := hg 15 (by kernel_rfl) _ 63 rfl rfl
      go_simp
      exact hK _ _ (Below.refl _ _) hS rfl
    exact fun _ h => nomatch h
  case fin =>
    intro tm w9 hsame hS hgot
    obtain ⟨u, hu, htm⟩ := hsame.form (by kernel_rfl)
    obtain ⟨v6, e6, rfl⟩ := hgot 16 _ 6 rfl rfl
    have h6 := hu _ _ e6
    have hb9 := hS.2.2.2.2.2.2.2
    clear hgot hu hsame e6 hS
    rw [htm]
    clear htm tm
    simp only [List.foldl_cons, List.foldl_nil, List.setIfInBounds_toArray, List.set_cons_zero, List.set_cons_succ, h6]
    clear h6
    go_wp2_with fail
    go_ret
    exact ⟨rfl, hbw8.trans (hb9.mono hbw8.size)⟩

set_option maxRecDepth 100000 in
set_option maxHeartbeats 1200000 in
theorem wshifts_far (neg : Bool) (aA : Option Addr) (nA cA : Nat) (l : List Int) (k : Int) (hk : 5000 < k) (hk2 : k ≤ 16777216) (w : World) (hn : nA = l.length) (hc1 : nA ≤ cA) (hc2 : cA ≤ 9223372036854775807) (hr : Rd w aA l) (hl : Lim B64 l) (h40 : nA ≤ 40) :
    Calls Tryd.prog 4 #[.bool neg, .slice aA nA cA, .int .i64 k] w fun e w' => RetV w (.bool true) e w' := by
  have hlt := light_one_at aA nA cA 22 w w.heap.size rfl (by omega)
  rw [show decide (nA ≤ 40) = true by simp; omega] at hlt
  have HL := Lib.hid hlt
  obtain ⟨A, hAe⟩ : ∃ A, A = vb B64 l := ⟨_, rfl⟩
  have hA : Num w (.slice aA nA cA) A 40 := ⟨l, ⟨aA, cA, by rw [hn], by rw [← hn]; exact hc1, hc2, hr, hl⟩, hAe.symm, by rw [← hn]; exact h40⟩
  have hb0 := below_alloc w (.cells #[Value.slice aA nA cA] 22)
  clear hlt hn hAe hr hl hc1 hc2 h40
  have hk1 : ¬ k < 0 := by omega
  have hk3 : ¬ (16777216 : Int) < k := by omega
  go_enter Tryd.func4, Tryd.ntmps4
  go_wp2_with fail
  refine HL.out.mono ?_
  rintro e w' ⟨rfl, rfl⟩
  go_wp2_with fail
  refine (alive2_yes _).mono ?_
  rintro e w1 ⟨rfl, hb⟩
  have hbw1 := hb0.trans (hb.mono hb0.size)
  obtain ⟨w2, hw2⟩ : ∃ w2, w1.alloc (.cells #[.bool neg, .slice aA nA cA] 28) = w2 := ⟨_, rfl⟩
  have hb2 : Below w1.heap.size w1 w2 := hw2 ▸ below_alloc w1 _
  have hc1 : w2.heap[w1.heap.size]? = some (.cells #[.bool neg, .slice aA nA cA] 28 (0, 0)) := hw2 ▸ heap_alloc_new w1 _
  obtain ⟨j0, j1, -, -⟩ := slot2 hc1
  have hbw2 := hbw1.trans (hb2.mono hbw1.size)
  clear hb hb0 HL hb2 hbw1
  replace hA := hA.below hbw2
  go_wp2_with fail
  refine (ref_num (p := neg) hA (by decide)).mono ?_
  rintro e w3 ⟨pR, aR, nR, cR, E, rfl, hR, hb3⟩
  obtain ⟨w4, hw4⟩ : ∃ w4, w3.alloc (.cells #[.bool pR, .slice aR nR cR, .int .i64 (E : Int)] 31) = w4 := ⟨_, rfl⟩
  have hb4 : Below w3.heap.size w3 w4 := hw4 ▸ below_alloc w3 _
  have hb34 := hb3.trans (hb4.mono hb3.size)
  have hc2 : w4.heap[w3.heap.size]? = some (.cells #[.bool pR, .slice aR nR cR, .int .i64 (E : Int)] 31 (0, 0)) := hw4 ▸ heap_alloc_new w3 _
  replace hc1 := slot_kept hc1 hb34
  replace hA := hA.below hb34
  replace hR := hR.below hb4
  have hbw4 := hbw2.trans (hb34.mono hbw2.size)
  clear hb34 hb3 hb4 hbw2 j0 j1
  go_wp2_with fail
  go_ret
  exact ⟨rfl, hbw4⟩

set_option maxRecDepth 100000 in
set_option maxHeartbeats 1200000 in
theorem wshifts_low (neg : Bool) (aA : Option Addr) (nA cA : Nat) (l : List Int) (k : Int) (hk : k < 0) (w : World) (hn : nA = l.length) (hc1 : nA ≤ cA) (hc2 : cA ≤ 9223372036854775807) (hr : Rd w aA l) (hl : Lim B64 l) (h40 : nA ≤ 40) :
    Calls Tryd.prog 4 #[.bool neg, .slice aA nA cA, .int .i64 k] w fun e w' => RetV w (.bool true) e w' := by
  have hlt := light_one_at aA nA cA 22 w w.heap.size rfl (by omega)
  rw [show decide (nA ≤ 40) = true by simp; omega] at hlt
  have HL := Lib.hid hlt
  obtain ⟨A, hAe⟩ : ∃ A, A = vb B64 l := ⟨_, rfl⟩
  have hA : Num w (.slice aA nA cA) A 40 := ⟨l, ⟨aA, cA, by rw [hn], by rw [← hn]; exact hc1, hc2, hr, hl⟩, hAe.symm, by rw [← hn]; exact h40⟩
  have hb0 := below_alloc w (.cells #[Value.slice aA nA cA] 22)
  clear hlt hn hAe hr hl hc1 hc2 h40
  go_enter Tryd.func4, Tryd.ntmps4
  go_wp2_with fail
  refine HL.out.mono ?_
  rintro e w' ⟨rfl, rfl⟩
  go_wp2_with fail
  refine (alive2_yes _).mono ?_
  rintro e w1 ⟨rfl, hb⟩
  have hbw1 := hb0.trans (hb.mono hb0.size)
  obtain ⟨w2, hw2⟩ : ∃ w2, w1.alloc (.cells #[.bool neg, .slice aA nA cA] 28) = w2 := ⟨_, rfl⟩
  have hb2 : Below w1.heap.size w1 w2 := hw2 ▸ below_alloc w1 _
  have hc1 : w2.heap[w1.heap.size]? = some (.cells #[.bool neg, .slice aA nA cA] 28 (0, 0)) := hw2 ▸ heap_alloc_new w1 _
  obtain ⟨j0, j1, -, -⟩ := slot2 hc1
  have hbw2 := hbw1.trans (hb2.mono hbw1.size)
  clear hb hb0 HL hb2 hbw1
  replace hA := hA.below hbw2
  go_wp2_with fail
  refine (ref_num (p := neg) hA (by decide)).mono ?_
  rintro e w3 ⟨pR, aR, nR, cR, E, rfl, hR, hb3⟩
  obtain ⟨w4, hw4⟩ : ∃ w4, w3.alloc (.cells #[.bool pR, .slice aR nR cR, .int .i64 (E : Int)] 31) = w4 := ⟨_, rfl⟩
  have hb4 : Below w3.heap.size w3 w4 := hw4 ▸ below_alloc w3 _
  have hb34 := hb3.trans (hb4.mono hb3.size)
  have hc2 : w4.heap[w3.heap.size]? = some (.cells #[.bool pR, .slice aR nR cR, .int .i64 (E : Int)] 31 (0, 0)) := hw4 ▸ heap_alloc_new w3 _
  replace hc1 := slot_kept hc1 hb34
  replace hA := hA.below hb34
  replace hR := hR.below hb4
  have hbw4 := hbw2.trans (hb34.mono hbw2.size)
  clear hb34 hb3 hb4 hbw2 j0 j1
  obtain ⟨q0, q1, -, -⟩ := slot2 hc1
  go_wp2_with fail
  refine (shlw_low neg aA nA cA k hk).mono ?_
  rintro e w5 ⟨rfl, hb5⟩
  replace hc1 := slot_kept hc1 hb5
  clear q0 q1
  obtain ⟨q0, q1, -, -⟩ := slot2 hc1
  have hbw5 := hbw4.trans (hb5.mono hbw4.size)
  go_wp2_with fail
  refine (isw_num 10 (WN.nil _) (RZ.nil _) (by decide) (by decide) (by decide) (by decide) (by decide)).mono ?_
  rintro e w6 ⟨rfl, hb6⟩
  replace hc1 := slot_kept hc1 hb6
  clear q0 q1
  obtain ⟨q0, q1, -, -⟩ := slot2 hc1
  have hbw6 := hbw5.trans (hb6.mono hbw5.size)
  go_wp2_with fail
  refine (floorw_low neg aA nA cA k hk).mono ?_
  rintro e w7 ⟨rfl, hb7⟩
  have hbw7 := hbw6.trans (hb7.mono hbw6.size)
  go_wp2_with fail
  refine (isw_num 10 (WN.nil _) (RZ.nil _) (by decide) (by decide) (by decide) (by decide) (by decide)).mono ?_
  rintro e w8 ⟨rfl, hb8⟩
  go_wp2_with fail
  go_ret
  exact ⟨rfl, hbw7.trans (hb8.mono hbw7.size)⟩

set_option maxRecDepth 100000 in
set_option maxHeartbeats 1200000 in
theorem wshifts_above (neg : Bool) (aA : Option Addr) (nA cA : Nat) (l : List Int) (k : Int) (hk : 16777216 < k) (w : World) (hn : nA = l.length) (hc1 : nA ≤ cA) (hc2 : cA ≤ 9223372036854775807) (hr : Rd w aA l) (hl : Lim B64 l) (h40 : nA ≤ 40) :
    Calls Tryd.prog 4 #[.bool neg, .slice aA nA cA, .int .i64 k] w fun e w' => RetV w (.bool true) e w' := by
  have hlt := light_one_at aA nA cA 22 w w.heap.size rfl (by omega)
  rw [show decide (nA ≤ 40) = true by simp; omega] at hlt
  have HL := Lib.hid hlt
  obtain ⟨A, hAe⟩ : ∃ A, A = vb B64 l := ⟨_, rfl⟩
  have hA : Num w (.slice aA nA cA) A 40 := ⟨l, ⟨aA, cA, by rw [hn], by rw [← hn]; exact hc1, hc2, hr, hl⟩, hAe.symm, by rw [← hn]; exact h40⟩
  have hb0 := below_alloc w (.cells #[Value.slice aA nA cA] 22)
  clear hlt hn hAe hr hl hc1 hc2 h40
  have hk1 : ¬ k < 0 := by omega
  go_enter Tryd.func4, Tryd.ntmps4
  go_wp2_with fail
  refine HL.out.mono ?_
  rintro e w' ⟨rfl, rfl⟩
  go_wp2_with fail
  refine (alive2_yes _).mono ?_
  rintro e w1 ⟨rfl, hb⟩
  have hbw1 := hb0.trans (hb.mono hb0.size)
  obtain ⟨w2, hw2⟩ : ∃ w2, w1.alloc (.cells #[.bool neg, .slice aA nA cA] 28) = w2 := ⟨_, rfl⟩
  have hb2 : Below w1.heap.size w1 w2 := hw2 ▸ below_alloc w1 _
  have hc1 : w2.heap[w1.heap.size]? = some (.cells #[.bool neg, .slice aA nA cA] 28 (0, 0)) := hw2 ▸ heap_alloc_new w1 _
  obtain ⟨j0, j1, -, -⟩ := slot2 hc1
  have hbw2 := hbw1.trans (hb2.mono hbw1.size)
  clear hb hb0 HL hb2 hbw1
  replace hA := hA.below hbw2
  go_wp2_with fail
  refine (ref_num (p := neg) hA (by decide)).mono ?_
  rintro e w3 ⟨pR, aR, nR, cR, E, rfl, hR, hb3⟩
  obtain ⟨w4, hw4⟩ : ∃ w4, w3.alloc (.cells #[.bool pR, .slice aR nR cR, .int .i64 (E : Int)] 31) = w4 := ⟨_, rfl⟩
  have hb4 : Below w3.heap.size w3 w4 := hw4 ▸ below_alloc w3 _
  have hb34 := hb3.trans (hb4.mono hb3.size)
  have hc2 : w4.heap[w3.heap.size]? = some (.cells #[.bool pR, .slice aR nR cR, .int .i64 (E : Int)] 31 (0, 0)) := hw4 ▸ heap_alloc_new w3 _
  replace hc1 := slot_kept hc1 hb34
  replace hA := hA.below hb34
  replace hR := hR.below hb4
  have hbw4 := hbw2.trans (hb34.mono hbw2.size)
  clear hb34 hb3 hb4 hbw2 j0 j1
  obtain ⟨q0, q1, -, -⟩ := slot2 hc1
  go_wp2_with fail
  refine (shlw_far neg aA nA cA k hk).mono ?_
  rintro e w5 ⟨rfl, hb5⟩
  replace hc1 := slot_kept hc1 hb5
  clear q0 q1
  obtain ⟨q0, q1, -, -⟩ := slot2 hc1
  have hbw5 := hbw4.trans (hb5.mono hbw4.size)
  go_wp2_with fail
  refine (isw_num 10 (WN.nil _) (RZ.nil _) (by decide) (by decide) (by decide) (by decide) (by decide)).mono ?_
  rintro e w6 ⟨rfl, hb6⟩
  replace hc1 := slot_kept hc1 hb6
  clear q0 q1
  obtain ⟨q0, q1, -, -⟩ := slot2 hc1
  have hbw6 := hbw5.trans (hb6.mono hbw5.size)
  go_wp2_with fail
  refine (floorw_far neg aA nA cA k hk).mono ?_
  rintro e w7 ⟨rfl, hb7⟩
  have hbw7 := hbw6.trans (hb7.mono hbw6.size)
  go_wp2_with fail
  refine (isw_num 10 (WN.nil _) (RZ.nil _) (by decide) (by decide) (by decide) (by decide) (by decide)).mono ?_
  rintro e w8 ⟨rfl, hb8⟩
  go_wp2_with fail
  go_ret
  exact ⟨rfl, hbw7.trans (hb8.mono hbw7.size)⟩

set_option maxRecDepth 100000 in
set_option maxHeartbeats 1200000 in
theorem wshifts_heavy (neg : Bool) (aA : Option Addr) (nA cA : Nat) (k : Int) (w : World) (h : 40 < nA) (hn : nA ≤ 9223372036854775807) :
    Calls Tryd.prog 4 #[.bool neg, .slice aA nA cA, .int .i64 k] w fun e w' => RetV w (.bool true) e w' := by
  have hl := light_one_at aA nA cA 22 w w.heap.size rfl hn
  rw [show decide (nA ≤ 40) = false by simp; omega] at hl
  have HL := Lib.hid hl
  have hb0 := below_alloc w (.cells #[Value.slice aA nA cA] 22)
  clear hl h
  go_enter Tryd.func4, Tryd.ntmps4
  go_wp2_with fail
  refine HL.out.mono ?_
  rintro e w' ⟨rfl, rfl⟩
  go_wp2_with fail
  refine (alive2_yes _).mono ?_
  rintro e w1 ⟨rfl, hb⟩
  go_wp2_with fail
  go_ret
  exact ⟨rfl, hb0.trans (hb.mono hb0.size)⟩
end Go.Proofs.YtfanhllcoaondaaDoor
