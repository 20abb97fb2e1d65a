/-
  RefZC: The document's dyads as integers: Cmp.
  RefQ: Numbers as the document's own dyads hold them, exponents from -L on: as integers, L binary places up. Contracts of Make, Sign, Not, Top.
  RefQA: The document's dyads of any exponent: Add.
  RefQC: The document's dyads of any exponent: Sub, Cmp.
  RefZR: The document's dyads as integers: Same.
  LawIs: compasslaw2.Is: a real integer is the document's, laid as it should be.
  Whole5: Package whole: Floor, and integers in their one form as values.
  LawIs2: compasslaw2.Is at the level of integers: a result in its one form is the document's.
-/
import Derived.Test.YtjmipbljoblnnaaDoorPk25
import Derived.Test.YtjmipbljoblnnaaDoorPk22
import Derived.Test.YtjmipbljoblnnaaDoorPk21

namespace Go.Proofs.YtjmipbljoblnnaaDoor
open Go.RowKit
theorem sign_tri {Z s : Int} (h : cmpI Z 0 = s) : (Z < 0 ∧ s = -1) ∨ (Z = 0 ∧ s = 0) ∨ (0 < Z ∧ s = 1) := by
  rcases Int.lt_trichotomy Z 0 with h0 | h0 | h0
  · left; rw [cmpI_lt h0] at h; exact ⟨h0, h.symm⟩
  · right; left; rw [h0] at h; exact ⟨h0, h.symm⟩
  · right; right; rw [cmpI_gt h0] at h; exact ⟨h0, h.symm⟩
theorem zcmp_signs {Zx Zy s t : Int} (hx : cmpI Zx 0 = s) (hy : cmpI Zy 0 = t) (h : s < t) : cmpI Zx Zy = -1 := by
  have h1 := sign_tri hx
  have h2 := sign_tri hy
  exact cmpI_lt (by omega)
theorem zcmp_signs' {Zx Zy s t : Int} (hx : cmpI Zx 0 = s) (hy : cmpI Zy 0 = t) (h : t < s) : cmpI Zx Zy = 1 := by
  have h1 := sign_tri hx
  have h2 := sign_tri hy
  exact cmpI_gt (by omega)
theorem zcmp_zeros {Zx Zy s t : Int} (hx : cmpI Zx 0 = s) (hy : cmpI Zy 0 = t) (h : s = 0) (h' : t = 0) : cmpI Zx Zy = 0 := by
  have h1 := sign_tri hx
  have h2 := sign_tri hy
  obtain rfl : Zx = 0 := by omega
  obtain rfl : Zy = 0 := by omega
  rfl
theorem cmp_sub {A B : Int} : cmpI (A - B) 0 = cmpI A B := by
  rcases Int.lt_trichotomy A B with h | h | h
  · rw [cmpI_lt h, cmpI_lt (by omega)]
  · subst h; rw [Int.sub_self]; unfold cmpI; simp
  · rw [cmpI_gt h, cmpI_gt (by omega)]
theorem nb_lt {A B : Int} (hA : 0 < A) (hB : 0 < B) (h : nb A < nb B) : A < B := by
  obtain ⟨-, h1, -⟩ := nb_spec hA
  obtain ⟨h2, -, -⟩ := nb_spec hB
  obtain ⟨d, hd⟩ : ∃ d, nb B - 1 = nb A + d := ⟨nb B - 1 - nb A, by omega⟩
  rw [hd, Int.pow_add] at h2
  have h3 := pow2_pos (nb A)
  have h4 := pow2_pos d
  have h5 : (2 : Int) ^ nb A * 1 ≤ 2 ^ nb A * 2 ^ d := Int.mul_le_mul_of_nonneg_left (by omega) (by omega)
  omega
theorem cmp_tops {Zx Zy s : Int} {T1 T2 : Nat} (hx : cmpI Zx 0 = s) (hy : cmpI Zy 0 = s) (hs : ¬s = 0) (h1 : nb (absI Zx) = T1) (h2 : nb (absI Zy) = T2) (hT : ¬T1 = T2) : cmpI Zx Zy = if (decide (T1 < T2) == decide (0 < s)) = true then -1 else 1 := by
  have hx' := sign_tri hx
  have hy' := sign_tri hy
  by_cases h0 : 0 < s
  · have ex : absI Zx = Zx := if_neg (by omega)
    have ey : absI Zy = Zy := if_neg (by omega)
    rw [ex] at h1
    rw [ey] at h2
    by_cases hlt : T1 < T2
    · rw [if_pos (by simp; omega), cmpI_lt (nb_lt (by omega) (by omega) (by omega))]
    · rw [if_neg (by simp; omega), cmpI_gt (nb_lt (by omega) (by omega) (by omega))]
  · have ex : absI Zx = -Zx := if_pos (by omega)
    have ey : absI Zy = -Zy := if_pos (by omega)
    rw [ex] at h1
    rw [ey] at h2
    by_cases hlt : T1 < T2
    · have := nb_lt (A := -Zx) (B := -Zy) (by omega) (by omega) (by omega)
      rw [if_neg (by simp; omega), cmpI_gt (by omega)]
    · have := nb_lt (A := -Zy) (B := -Zx) (by omega) (by omega) (by omega)
      rw [if_pos (by simp; omega), cmpI_lt (by omega)]
set_option maxRecDepth 100000 in
set_option maxHeartbeats 1200000 in
theorem rzcmp_num {w : World} {p q : Bool} {a a2 : Option Addr} {n c n2 c2 E G : Nat} {Zx Zy : Int} {m k b d : Nat} (P : Nat) (hX : RZ w (.agg #[.bool p, .slice a n c, .int .i64 (E : Int)]) Zx m b) (hY : RZ w (.agg #[.bool q, .slice a2 n2 c2, .int .i64 (G : Int)]) Zy k d) (hmP : m + b / 32 + 1 < P) (hkP : k + (d + 32 * k) / 32 + 1 < P) (hP : P ≤ 10000) (hb : b ≤ 200000) (hd : d + 32 * k ≤ 200000) :
    Calls Tryd.prog 20 #[.agg #[.bool p, .slice a n c, .int .i64 (E : Int)], .agg #[.bool q, .slice a2 n2 c2, .int .i64 (G : Int)]] w fun e w' => RetV w (.int .i64 (cmpI Zx Zy)) e w' := by
  obtain ⟨r, hr⟩ : ∃ r, b + d + 32 * k + 32 * P = r := ⟨_, rfl⟩
  have hbS : b + 32 * P ≤ r := by omega
  have hdS : d + 32 * k + 32 * P ≤ r := by omega
  have hb9 : b ≤ 1000000 := by omega
  have hd9 : d ≤ 1000000 := by omega
  have hm9 : m ≤ 10000 := by omega
  have hk9 : k ≤ 10000 := by omega
  clear hr
  obtain ⟨s, hsx⟩ : ∃ s, cmpI Zx 0 = s := ⟨_, rfl⟩
  obtain ⟨t, hsy⟩ : ∃ t, cmpI Zy 0 = t := ⟨_, rfl⟩
  obtain ⟨w1, hw1⟩ : ∃ w1, w.alloc (.cells #[.bool p, .slice a n c, .int .i64 (E : Int)] 31) = w1 := ⟨_, rfl⟩
  obtain ⟨w2, hw2⟩ : ∃ w2, w1.alloc (.cells #[.bool q, .slice a2 n2 c2, .int .i64 (G : Int)] 31) = w2 := ⟨_, rfl⟩
  have hb1 : Below w.heap.size w w1 := hw1 ▸ below_alloc w _
  have hb12 : Below w1.heap.size w1 w2 := hw2 ▸ below_alloc w1 _
  have hbw2 : Below w.heap.size w w2 := hb1.trans (hb12.mono hb1.size)
  have hc1 : w2.heap[w.heap.size]? = some (.cells #[.bool p, .slice a n c, .int .i64 (E : Int)] 31 (0, 0)) := slot_kept (hw1 ▸ heap_alloc_new w _) hb12
  have hc2 : w2.heap[w1.heap.size]? = some (.cells #[.bool q, .slice a2 n2 c2, .int .i64 (G : Int)] 31 (0, 0)) := hw2 ▸ heap_alloc_new w1 _
  replace hX := hX.below hbw2
  replace hY := hY.below hbw2
  clear hb12
  go_enter Tryd.func20, Tryd.ntmps20
  go_upto_region 1 with fail
  refine wp_region_slots (by kernel_rfl) [7, 8, 9, 10, 5, 6] (fun w' => w'.heap[w.heap.size]? = some (.cells #[.bool p, .slice a n c, .int .i64 (E : Int)] 31 (0, 0)) ∧ w'.heap[w1.heap.size]? = some (.cells #[.bool q, .slice a2 n2 c2, .int .i64 (G : Int)] 31 (0, 0)) ∧ RZ w' (.agg #[.bool p, .slice a n c, .int .i64 (E : Int)]) Zx m b ∧ RZ w' (.agg #[.bool q, .slice a2 n2 c2, .int .i64 (G : Int)]) Zy k d ∧ Below w2.heap.size w2 w') (Said [Is (.agg #[.bool p, .slice a n c, .int .i64 (E : Int)]), Is (.int .i64 s), Is (.agg #[.bool q, .slice a2 n2 c2, .int .i64 (G : Int)]), Is (.int .i64 t), Is (.int .i64 s), Is (.int .i64 t)]) (by kernel_rfl) (by kernel_rfl) (by kernel_rfl) (by kernel_rfl) (Said.keep ?keep) ⟨slot_kept hc1 (bdn (Below.refl _ _) 1), slot_kept hc2 (bdn (Below.refl _ _) 1), hX.below (bdn (Below.refl _ _) 1), hY.below (bdn (Below.refl _ _) 1), bdn (Below.refl _ _) 1⟩ (l := [0, 1, 2, 3, 4, 5]) (by kernel_rfl) ?step ?fin
  case keep =>
    refine List.forall_mem_cons.2 ⟨Is.keeps _, ?_⟩
    refine List.forall_mem_cons.2 ⟨Is.keeps _, ?_⟩
    refine List.forall_mem_cons.2 ⟨Is.keeps _, ?_⟩
    refine List.forall_mem_cons.2 ⟨Is.keeps _, ?_⟩
    refine List.forall_mem_cons.2 ⟨Is.keeps _, ?_⟩
    refine List.forall_mem_cons.2 ⟨Is.keeps _, ?_⟩
    exact fun _ h => nomatch h
  case step =>
    refine List.forall_mem_cons.2 ⟨?_, ?_⟩
    · refine SlotStep.plain rfl rfl rfl ?_
      intro tm ws hsame hS hg K hK
      have e2 : tm[2]? = some (.pointer (some ⟨w.heap.size, 0, none⟩)) := hsame.2 2 rfl
      obtain ⟨⟨k0, k1, k2⟩, -⟩ := slot3 hS.1
      go_simp
      exact hK _ _ (Below.refl _ _) hS rfl
    refine List.forall_mem_cons.2 ⟨?_, ?_⟩
    · refine SlotStep.plain rfl rfl rfl ?_
      intro tm ws hsame hS hg K hK
      obtain ⟨v7, e7, rfl⟩ := hg 0 (by kernel_rfl) _ 7 rfl rfl
      go_simp
      refine (rsign_num hS.2.2.1).mono ?_
      rw [hsx]
      rintro e wm ⟨rfl, hb⟩
      exact hK _ _ hb (⟨slot_kept hS.1 (hb), slot_kept hS.2.1 (hb), hS.2.2.1.below (hb), hS.2.2.2.1.below (hb), hS.2.2.2.2.trans (Below.mono (hb) hS.2.2.2.2.size)⟩) rfl
    refine List.forall_mem_cons.2 ⟨?_, ?_⟩
    · refine SlotStep.plain rfl rfl rfl ?_
      intro tm ws hsame hS hg K hK
      have e3 : tm[3]? = some (.pointer (some ⟨w1.heap.size, 0, none⟩)) := hsame.2 3 rfl
      obtain ⟨⟨k0, k1, k2⟩, -⟩ := slot3 hS.2.1
      go_simp
      exact hK _ _ (Below.refl _ _) hS rfl
    refine List.forall_mem_cons.2 ⟨?_, ?_⟩
    · refine SlotStep.plain rfl rfl rfl ?_
      intro tm ws hsame hS hg K hK
      obtain ⟨v9, e9, rfl⟩ := hg 2 (by kernel_rfl) _ 9 rfl rfl
      go_simp
      refine (rsign_num hS.2.2.2.1).mono ?_
      rw [hsy]
      rintro e wm ⟨rfl, hb⟩
      exact hK _ _ hb (⟨slot_kept hS.1 (hb), slot_kept hS.2.1 (hb), hS.2.2.1.below (hb), hS.2.2.2.1.below (hb), hS.2.2.2.2.trans (Below.mono (hb) hS.2.2.2.2.size)⟩) rfl
    refine List.forall_mem_cons.2 ⟨?_, ?_⟩
    · refine SlotStep.plain rfl rfl rfl ?_
      intro tm ws hsame hS hg K hK
      obtain ⟨v8, e8, rfl⟩ := hg 1 (by kernel_rfl) _ 8 rfl rfl
      go_simp
      exact hK _ _ (Below.refl _ _) hS rfl
    refine List.forall_mem_cons.2 ⟨?_, ?_⟩
    · refine SlotStep.plain rfl rfl rfl ?_
      intro tm ws hsame hS hg K hK
      obtain ⟨v10, e10, rfl⟩ := hg 3 (by kernel_rfl) _ 10 rfl rfl
      go_simp
      exact hK _ _ (Below.refl _ _) hS rfl
    exact fun _ h => nomatch h
  case fin =>
    intro tm w4 hsame hS hgot
    obtain ⟨u, hu, htm⟩ := hsame.form (by kernel_rfl)
    obtain ⟨v5, e5, rfl⟩ := hgot 4 _ 5 rfl rfl
    have h5 := hu _ _ e5
    obtain ⟨v6, e6, rfl⟩ := hgot 5 _ 6 rfl rfl
    have h6 := hu _ _ e6
    obtain ⟨hc1, hc2, hX, hY, hbn⟩ := hS
    have hbw4 := hbw2.trans (hbn.mono hbw2.size)
    clear hbn hgot hu hsame e5 e6
    rw [htm]
    clear htm tm
    simp only [List.foldl_cons, List.foldl_nil, List.setIfInBounds_toArray, List.set_cons_zero, List.set_cons_succ, h5, h6]
    clear h5 h6
    rcases Int.lt_trichotomy s t with hst | hst | hst
    · have HR := Lib.hid (zcmp_signs hsx hsy hst)
      have hne : (s == t) = false := by simp; omega
      clear hsx hsy
      go_wp2_with fail
      go_ret
      exact ⟨by rw [HR.out]; rfl, hbw4⟩
    · subst hst
      by_cases hsn : s = 0
      · have HR : Hid (cmpI Zx Zy = 0) := Lib.hid (zcmp_zeros hsx hsy hsn hsn)
        have hs0 : (s == 0) = true := by simp; omega
        clear hsx hsy hsn
        go_wp2_with fail
        go_ret
        exact ⟨by rw [HR.out]; rfl, hbw4⟩
      · have hs0 : (s == 0) = false := by simp; omega
        obtain ⟨T1, hT1⟩ : ∃ T1, nb (absI Zx) = T1 := ⟨_, rfl⟩
        obtain ⟨T2, hT2⟩ : ∃ T2, nb (absI Zy) = T2 := ⟨_, rfl⟩
        have HT1 := Lib.hid hT1
        have HT2 := Lib.hid hT2
        clear hT1 hT2
        by_cases hT : T1 = T2
        · have hnq : ((T1 : Int) != (T2 : Int)) = false := by simp; omega
          clear hsx hsy hT hsn
          go_upto_region 8 with fail
          refine wp_region_slots (by kernel_rfl) [28, 29, 30, 31, 32, 27] (fun w' => w'.heap[w.heap.size]? = some (.cells #[.bool p, .slice a n c, .int .i64 (E : Int)] 31 (0, 0)) ∧ w'.heap[w1.heap.size]? = some (.cells #[.bool q, .slice a2 n2 c2, .int .i64 (G : Int)] 31 (0, 0)) ∧ RZ w' (.agg #[.bool p, .slice a n c, .int .i64 (E : Int)]) Zx m b ∧ RZ w' (.agg #[.bool q, .slice a2 n2 c2, .int .i64 (G : Int)]) Zy k d ∧ Below w4.heap.size w4 w') (Said [Is (.agg #[.bool p, .slice a n c, .int .i64 (E : Int)]), Is (.int .i64 (T1 : Int)), Is (.agg #[.bool q, .slice a2 n2 c2, .int .i64 (G : Int)]), Is (.int .i64 (T2 : Int)), Is (.bool false), Is (.bool false)]) (by kernel_rfl) (by kernel_rfl) (by kernel_rfl) (by kernel_rfl) (Said.keep ?keep) ⟨slot_kept hc1 (bdn (Below.refl _ _) 1), slot_kept hc2 (bdn (Below.refl _ _) 1), hX.below (bdn (Below.refl _ _) 1), hY.below (bdn (Below.refl _ _) 1), bdn (Below.refl _ _) 1⟩ (l := [0, 1, 2, 3, 4, 5]) (by kernel_rfl) ?step ?fin
          case keep =>
            refine List.forall_mem_cons.2 ⟨Is.keeps _, ?_⟩
            refine List.forall_mem_cons.2 ⟨Is.keeps _, ?_⟩
            refine List.forall_mem_cons.2 ⟨Is.keeps _, ?_⟩
            refine List.forall_mem_cons.2 ⟨Is.keeps _, ?_⟩
            refine List.forall_mem_cons.2 ⟨Is.keeps _, ?_⟩
            refine List.forall_mem_cons.2 ⟨Is.keeps _, ?_⟩
            exact fun _ h => nomatch h
          case step =>
            refine List.forall_mem_cons.2 ⟨?_, ?_⟩
            · refine SlotStep.plain rfl rfl rfl ?_
              intro tm ws hsame hS hg K hK
              have e2 : tm[2]? = some (.pointer (some ⟨w.heap.size, 0, none⟩)) := hsame.2 2 rfl
              obtain ⟨⟨k0, k1, k2⟩, -⟩ := slot3 hS.1
              go_simp
              exact hK _ _ (Below.refl _ _) hS rfl
            refine List.forall_mem_cons.2 ⟨?_, ?_⟩
            · refine SlotStep.plain rfl rfl rfl ?_
              intro tm ws hsame hS hg K hK
              obtain ⟨v28, e28, rfl⟩ := hg 0 (by kernel_rfl) _ 28 rfl rfl
              go_simp
              refine (rtop_num hS.2.2.1 hb9 hm9).mono ?_
              rw [HT1.out]
              rintro e wm ⟨rfl, hb⟩
              exact hK _ _ hb (⟨slot_kept hS.1 (hb), slot_kept hS.2.1 (hb), hS.2.2.1.below (hb), hS.2.2.2.1.below (hb), hS.2.2.2.2.trans (Below.mono (hb) hS.2.2.2.2.size)⟩) rfl
            refine List.forall_mem_cons.2 ⟨?_, ?_⟩
            · refine SlotStep.plain rfl rfl rfl ?_
              intro tm ws hsame hS hg K hK
              have e3 : tm[3]? = some (.pointer (some ⟨w1.heap.size, 0, none⟩)) := hsame.2 3 rfl
              obtain ⟨⟨k0, k1, k2⟩, -⟩ := slot3 hS.2.1
              go_simp
              exact hK _ _ (Below.refl _ _) hS rfl
            refine List.forall_mem_cons.2 ⟨?_, ?_⟩
            · refine SlotStep.plain rfl rfl rfl ?_
              intro tm ws hsame hS hg K hK
              obtain ⟨v30, e30, rfl⟩ := hg 2 (by kernel_rfl) _ 30 rfl rfl
              go_simp
              refine (rtop_num hS.2.2.2.1 hd9 hk9).mono ?_
              rw [HT2.out]
              rintro e wm ⟨rfl, hb⟩
              exact hK _ _ hb (⟨slot_kept hS.1 (hb), slot_kept hS.2.1 (hb), hS.2.2.1.below (hb), hS.2.2.2.1.below (hb), hS.2.2.2.2.trans (Below.mono (hb) hS.2.2.2.2.size)⟩) rfl
            refine List.forall_mem_cons.2 ⟨?_, ?_⟩
            · refine SlotStep.plain rfl rfl rfl ?_
              intro tm ws hsame hS hg K hK
              obtain ⟨v29, e29, rfl⟩ := hg 1 (by kernel_rfl) _ 29 rfl rfl
              obtain ⟨v31, e31, rfl⟩ := hg 3 (by kernel_rfl) _ 31 rfl rfl
              go_simp
              exact hK _ _ (Below.refl _ _) hS (by first | rfl | exact congrArg Value.bool hnq)
            refine List.forall_mem_cons.2 ⟨?_, ?_⟩
            · refine SlotStep.plain rfl rfl rfl ?_
              intro tm ws hsame hS hg K hK
              obtain ⟨v32, e32, rfl⟩ := hg 4 (by kernel_rfl) _ 32 rfl rfl
              go_simp
              exact hK _ _ (Below.refl _ _) hS rfl
            exact fun _ h => nomatch h
          case fin =>
            intro tm w6 hsame hS hgot
            obtain ⟨u, hu, htm⟩ := hsame.form (by kernel_rfl)
            obtain ⟨v27, e27, rfl⟩ := hgot 5 _ 27 rfl rfl
            have h27 := hu _ _ e27
            obtain ⟨hc1, hc2, hX, hY, hbn⟩ := hS
            have hbw6 := hbw4.trans (hbn.mono hbw4.size)
            clear hbn hgot hu hsame e27
            rw [htm]
            clear htm tm
            simp only [List.foldl_cons, List.foldl_nil, List.setIfInBounds_toArray, List.set_cons_zero, List.set_cons_succ, h27]
            clear h27
            obtain ⟨⟨kx0, kx1, kx2⟩, -⟩ := slot3 hc1
            obtain ⟨⟨ky0, ky1, ky2⟩, -⟩ := slot3 hc2
            go_wp2_with fail
            refine (rzsub_num P r hX hY hmP hkP hP hb hd hbS hdS).mono ?_
            rintro e w8 ⟨pR, aR, nR, cR, ER, rfl, hR, hb8⟩
            go_wp2_with fail
            refine (rsign_num hR).mono ?_
            rw [cmp_sub]
            rintro e w9 ⟨rfl, hb9'⟩
            go_wp2_with fail
            go_ret
            exact ⟨rfl, (hbw6.trans (hb8.mono hbw6.size)).trans (hb9'.mono (hbw6.trans (hb8.mono hbw6.size)).size)⟩
        · have hnq : ((T1 : Int) != (T2 : Int)) = true := by simp; omega
          go_upto_region 8 with fail
          refine wp_region_slots (by kernel_rfl) [28, 29, 30, 31, 32, 27] (fun w' => w'.heap[w.heap.size]? = some (.cells #[.bool p, .slice a n c, .int .i64 (E : Int)] 31 (0, 0)) ∧ w'.heap[w1.heap.size]? = some (.cells #[.bool q, .slice a2 n2 c2, .int .i64 (G : Int)] 31 (0, 0)) ∧ RZ w' (.agg #[.bool p, .slice a n c, .int .i64 (E : Int)]) Zx m b ∧ RZ w' (.agg #[.bool q, .slice a2 n2 c2, .int .i64 (G : Int)]) Zy k d ∧ Below w4.heap.size w4 w') (Said [Is (.agg #[.bool p, .slice a n c, .int .i64 (E : Int)]), Is (.int .i64 (T1 : Int)), Is (.agg #[.bool q, .slice a2 n2 c2, .int .i64 (G : Int)]), Is (.int .i64 (T2 : Int)), Is (.bool true), Is (.bool true)]) (by kernel_rfl) (by kernel_rfl) (by kernel_rfl) (by kernel_rfl) (Said.keep ?keep) ⟨slot_kept hc1 (bdn (Below.refl _ _) 1), slot_kept hc2 (bdn (Below.refl _ _) 1), hX.below (bdn (Below.refl _ _) 1), hY.below (bdn (Below.refl _ _) 1), bdn (Below.refl _ _) 1⟩ (l := [0, 1, 2, 3, 4, 5]) (by kernel_rfl) ?step ?fin
          case keep =>
            refine List.forall_mem_cons.2 ⟨Is.keeps _, ?_⟩
            refine List.forall_mem_cons.2 ⟨Is.keeps _, ?_⟩
            refine List.forall_mem_cons.2 ⟨Is.keeps _, ?_⟩
            refine List.forall_mem_cons.2 ⟨Is.keeps _, ?_⟩
            refine List.forall_mem_cons.2 ⟨Is.keeps _, ?_⟩
            refine List.forall_mem_cons.2 ⟨Is.keeps _, ?_⟩
            exact fun _ h => nomatch h
          case step =>
            refine List.forall_mem_cons.2 ⟨?_, ?_⟩
            · refine SlotStep.plain rfl rfl rfl ?_
              intro tm ws hsame hS hg K hK
              have e2 : tm[2]? = some (.pointer (some ⟨w.heap.size, 0, none⟩)) := hsame.2 2 rfl
              obtain ⟨⟨k0, k1, k2⟩, -⟩ := slot3 hS.1
              go_simp
              exact hK _ _ (Below.refl _ _) hS rfl
            refine List.forall_mem_cons.2 ⟨?_, ?_⟩
            · refine SlotStep.plain rfl rfl rfl ?_
              intro tm ws hsame hS hg K hK
              obtain ⟨v28, e28, rfl⟩ := hg 0 (by kernel_rfl) _ 28 rfl rfl
              go_simp
              refine (rtop_num hS.2.2.1 hb9 hm9).mono ?_
              rw [HT1.out]
              rintro e wm ⟨rfl, hb⟩
              exact hK _ _ hb (⟨slot_kept hS.1 (hb), slot_kept hS.2.1 (hb), hS.2.2.1.below (hb), hS.2.2.2.1.below (hb), hS.2.2.2.2.trans (Below.mono (hb) hS.2.2.2.2.size)⟩) rfl
            refine List.forall_mem_cons.2 ⟨?_, ?_⟩
            · refine SlotStep.plain rfl rfl rfl ?_
              intro tm ws hsame hS hg K hK
              have e3 : tm[3]? = some (.pointer (some ⟨w1.heap.size, 0, none⟩)) := hsame.2 3 rfl
              obtain ⟨⟨k0, k1, k2⟩, -⟩ := slot3 hS.2.1
              go_simp
              exact hK _ _ (Below.refl _ _) hS rfl
            refine List.forall_mem_cons.2 ⟨?_, ?_⟩
            · refine SlotStep.plain rfl rfl rfl ?_
              intro tm ws hsame hS hg K hK
              obtain ⟨v30, e30, rfl⟩ := hg 2 (by kernel_rfl) _ 30 rfl rfl
              go_simp
              refine (rtop_num hS.2.2.2.1 hd9 hk9).mono ?_
              rw [HT2.out]
              rintro e wm ⟨rfl, hb⟩
              exact hK _ _ hb (⟨slot_kept hS.1 (hb), slot_kept hS.2.1 (hb), hS.2.2.1.below (hb), hS.2.2.2.1.below (hb), hS.2.2.2.2.trans (Below.mono (hb) hS.2.2.2.2.size)⟩) rfl
            refine List.forall_mem_cons.2 ⟨?_, ?_⟩
            · refine SlotStep.plain rfl rfl rfl ?_
              intro tm ws hsame hS hg K hK
              obtain ⟨v29, e29, rfl⟩ := hg 1 (by kernel_rfl) _ 29 rfl rfl
              obtain ⟨v31, e31, rfl⟩ := hg 3 (by kernel_rfl) _ 31 rfl rfl
              go_simp
              exact hK _ _ (Below.refl _ _) hS (by first | rfl | exact congrArg Value.bool hnq)
            refine List.forall_mem_cons.2 ⟨?_, ?_⟩
            · refine SlotStep.plain rfl rfl rfl ?_
              intro tm ws hsame hS hg K hK
              obtain ⟨v32, e32, rfl⟩ := hg 4 (by kernel_rfl) _ 32 rfl rfl
              go_simp
              exact hK _ _ (Below.refl _ _) hS rfl
            exact fun _ h => nomatch h
          case fin =>
            intro tm w6 hsame hS hgot
            obtain ⟨u, hu, htm⟩ := hsame.form (by kernel_rfl)
            obtain ⟨v27, e27, rfl⟩ := hgot 5 _ 27 rfl rfl
            have h27 := hu _ _ e27
            obtain ⟨hc1, hc2, hX, hY, hbn⟩ := hS
            have hbw6 := hbw4.trans (hbn.mono hbw4.size)
            clear hbn hgot hu hsame e27
            rw [htm]
            clear htm tm
            simp only [List.foldl_cons, List.foldl_nil, List.setIfInBounds_toArray, List.set_cons_zero, List.set_cons_succ, h27]
            clear h27
            obtain ⟨bl, hbl⟩ : ∃ bl, decide (T1 < T2) = bl := ⟨_, rfl⟩
            obtain ⟨bs, hbs⟩ : ∃ bs, decide (0 < s) = bs := ⟨_, rfl⟩
            have HB : Hid (cmpI Zx Zy = if (bl == bs) = true then -1 else 1) := by show _ = _; rw [← hbl, ← hbs]; exact cmp_tops hsx hsy hsn HT1.out HT2.out hT
            clear hsx hsy hsn hT
            go_upto_region 9 with fail
            refine wp_region_slots (by kernel_rfl) [33, 34, 35, 36, 37, 38, 39, 40] (fun w' => w'.heap[w.heap.size]? = some (.cells #[.bool p, .slice a n c, .int .i64 (E : Int)] 31 (0, 0)) ∧ w'.heap[w1.heap.size]? = some (.cells #[.bool q, .slice a2 n2 c2, .int .i64 (G : Int)] 31 (0, 0)) ∧ RZ w' (.agg #[.bool p, .slice a n c, .int .i64 (E : Int)]) Zx m b ∧ RZ w' (.agg #[.bool q, .slice a2 n2 c2, .int .i64 (G : Int)]) Zy k d ∧ Below w6.heap.size w6 w') (Said [Is (.agg #[.bool p, .slice a n c, .int .i64 (E : Int)]), Is (.int .i64 (T1 : Int)), Is (.agg #[.bool q, .slice a2 n2 c2, .int .i64 (G : Int)]), Is (.int .i64 (T2 : Int)), Is (.bool bl), Is (.int .i64 s), Is (.bool bs), Is (.bool (bl == bs))]) (by kernel_rfl) (by kernel_rfl) (by kernel_rfl) (by kernel_rfl) (Said.keep ?keep) ⟨slot_kept hc1 (bdn (Below.refl _ _) 1), slot_kept hc2 (bdn (Below.refl _ _) 1), hX.below (bdn (Below.refl _ _) 1), hY.below (bdn (Below.refl _ _) 1), bdn (Below.refl _ _) 1⟩ (l := [0, 1, 2, 3, 4, 5, 6, 7]) (by kernel_rfl) ?step ?fin
            case keep =>
              refine List.forall_mem_cons.2 ⟨Is.keeps _, ?_⟩
              refine List.forall_mem_cons.2 ⟨Is.keeps _, ?_⟩
              refine List.forall_mem_cons.2 ⟨Is.keeps _, ?_⟩
              refine List.forall_mem_cons.2 ⟨Is.keeps _, ?_⟩
              refine List.forall_mem_cons.2 ⟨Is.keeps _, ?_⟩
              refine List.forall_mem_cons.2 ⟨Is.keeps _, ?_⟩
              refine List.forall_mem_cons.2 ⟨Is.keeps _, ?_⟩
              refine List.forall_mem_cons.2 ⟨Is.keeps _, ?_⟩
              exact fun _ h => nomatch h
            case step =>
              refine List.forall_mem_cons.2 ⟨?_, ?_⟩
              · refine SlotStep.plain rfl rfl rfl ?_
                intro tm ws hsame hS hg K hK
                have e2 : tm[2]? = some (.pointer (some ⟨w.heap.size, 0, none⟩)) := hsame.2 2 rfl
                obtain ⟨⟨k0, k1, k2⟩, -⟩ := slot3 hS.1
                go_simp
                exact hK _ _ (Below.refl _ _) hS rfl
              refine List.forall_mem_cons.2 ⟨?_, ?_⟩
              · refine SlotStep.plain rfl rfl rfl ?_
                intro tm ws hsame hS hg K hK
                obtain ⟨v33, e33, rfl⟩ := hg 0 (by kernel_rfl) _ 33 rfl rfl
                go_simp
                refine (rtop_num hS.2.2.1 hb9 hm9).mono ?_
                rw [HT1.out]
                rintro e wm ⟨rfl, hb⟩
                exact hK _ _ hb (⟨slot_kept hS.1 (hb), slot_kept hS.2.1 (hb), hS.2.2.1.below (hb), hS.2.2.2.1.below (hb), hS.2.2.2.2.trans (Below.mono (hb) hS.2.2.2.2.size)⟩) rfl
              refine List.forall_mem_cons.2 ⟨?_, ?_⟩
              · refine SlotStep.plain rfl rfl rfl ?_
                intro tm ws hsame hS hg K hK
                have e3 : tm[3]? = some (.pointer (some ⟨w1.heap.size, 0, none⟩)) := hsame.2 3 rfl
                obtain ⟨⟨k0, k1, k2⟩, -⟩ := slot3 hS.2.1
                go_simp
                exact hK _ _ (Below.refl _ _) hS rfl
              refine List.forall_mem_cons.2 ⟨?_, ?_⟩
              · refine SlotStep.plain rfl rfl rfl ?_
                intro tm ws hsame hS hg K hK
                obtain ⟨v35, e35, rfl⟩ := hg 2 (by kernel_rfl) _ 35 rfl rfl
                go_simp
                refine (rtop_num hS.2.2.2.1 hd9 hk9).mono ?_
                rw [HT2.out]
                rintro e wm ⟨rfl, hb⟩
                exact hK _ _ hb (⟨slot_kept hS.1 (hb), slot_kept hS.2.1 (hb), hS.2.2.1.below (hb), hS.2.2.2.1.below (hb), hS.2.2.2.2.trans (Below.mono (hb) hS.2.2.2.2.size)⟩) rfl
              refine List.forall_mem_cons.2 ⟨?_, ?_⟩
              · refine SlotStep.plain rfl rfl rfl ?_
                intro tm ws hsame hS hg K hK
                obtain ⟨v34, e34, rfl⟩ := hg 1 (by kernel_rfl) _ 34 rfl rfl
                obtain ⟨v36, e36, rfl⟩ := hg 3 (by kernel_rfl) _ 36 rfl rfl
                go_simp
                exact hK _ _ (Below.refl _ _) hS (by first | rfl | exact congrArg Value.bool hbl)
              refine List.forall_mem_cons.2 ⟨?_, ?_⟩
              · refine SlotStep.plain rfl rfl rfl ?_
                intro tm ws hsame hS hg K hK
                have e5 : tm[5]? = some (.int .i64 s) := hsame.2 5 rfl
                go_simp
                exact hK _ _ (Below.refl _ _) hS rfl
              refine List.forall_mem_cons.2 ⟨?_, ?_⟩
              · refine SlotStep.plain rfl rfl rfl ?_
                intro tm ws hsame hS hg K hK
                obtain ⟨v38, e38, rfl⟩ := hg 5 (by kernel_rfl) _ 38 rfl rfl
                go_simp
                exact hK _ _ (Below.refl _ _) hS (by first | rfl | exact congrArg Value.bool hbs)
              refine List.forall_mem_cons.2 ⟨?_, ?_⟩
              · refine SlotStep.plain rfl rfl rfl ?_
                intro tm ws hsame hS hg K hK
                obtain ⟨v37, e37, rfl⟩ := hg 4 (by kernel_rfl) _ 37 rfl rfl
                obtain ⟨v39, e39, rfl⟩ := hg 6 (by kernel_rfl) _ 39 rfl rfl
                go_simp
                exact hK _ _ (Below.refl _ _) hS (by first | rfl | (cases bl <;> cases bs <;> rfl))
              exact fun _ h => nomatch h
            case fin =>
              intro tm w8 hsame hS hgot
              obtain ⟨u, hu, htm⟩ := hsame.form (by kernel_rfl)
              obtain ⟨v40, e40, rfl⟩ := hgot 7 _ 40 rfl rfl
              have h40 := hu _ _ e40
              obtain ⟨hc1, hc2, hX, hY, hbn⟩ := hS
              have hbw8 := hbw6.trans (hbn.mono hbw6.size)
              clear hbn hgot hu hsame e40
              rw [htm]
              clear htm tm
              simp only [List.foldl_cons, List.foldl_nil, List.setIfInBounds_toArray, List.set_cons_zero, List.set_cons_succ, h40]
              clear h40
              have hbr := HB.out
              cases hr : (bl == bs)
              · rw [hr] at hbr
                have HR : Hid (cmpI Zx Zy = 1) := Lib.hid hbr
                clear hbr
                go_wp2_with fail
                go_ret
                exact ⟨by rw [HR.out]; rfl, hbw8⟩
              · rw [hr] at hbr
                have HR : Hid (cmpI Zx Zy = -1) := Lib.hid hbr
                clear hbr
                go_wp2_with fail
                go_ret
                exact ⟨by rw [HR.out]; rfl, hbw8⟩
    · have HR := Lib.hid (zcmp_signs' hsx hsy hst)
      have hne : (s == t) = false := by simp; omega
      clear hsx hsy
      go_wp2_with fail
      go_ret
      exact ⟨by rw [HR.out]; rfl, hbw4⟩
end Go.Proofs.YtjmipbljoblnnaaDoor

namespace Go.Proofs.YtjmipbljoblnnaaDoor
open Go.RowKit

/-- A dyad of the document's that is the integer Z, L places up. -/
def RQ (L : Nat) (w : World) (v : Value) (Z : Int) (m b : Nat) : Prop :=
  ∃ neg a n c N E E0, v = .agg #[.bool neg, .slice a n c, .int .i64 (E : Int)] ∧ RN w (.slice a n c) N m ∧ Z = sg neg N * 2 ^ (E0 : Nat) ∧ E + (L : Int) = (E0 : Int) ∧ (N = 0 → neg = false ∧ E = 0) ∧ (N ≠ 0 → ∃ z, N = 2 * z + 1) ∧ E0 ≤ b
def RetQZ (L : Nat) (w : World) (Z : Int) (m b : Nat) (e : Ending) (w' : World) : Prop :=
  ∃ neg a n c E, e = .returned (.agg #[.bool neg, .slice a n c, .int .i64 (E : Int)]) ∧ RQ L w' (.agg #[.bool neg, .slice a n c, .int .i64 (E : Int)]) Z m b ∧ Below w.heap.size w w'
theorem RQ.below {L : Nat} {w w' : World} {v : Value} {Z : Int} {m b : Nat} (h : RQ L w v Z m b) (hb : Below w.heap.size w w') : RQ L w' v Z m b := by
  obtain ⟨neg, a, n, c, N, E, E0, h1, h2, h3⟩ := h
  exact ⟨neg, a, n, c, N, E, E0, h1, h2.below hb, h3⟩
theorem RQ.eq {L : Nat} {w : World} {v : Value} {Z Z' : Int} {m b : Nat} (h : RQ L w v Z m b) (e : Z = Z') : RQ L w v Z' m b := e ▸ h
theorem RQ.mono {L : Nat} {w : World} {v : Value} {Z : Int} {m b m' b' : Nat} (h : RQ L w v Z m b) (hm : m ≤ m') (hb : b ≤ b') : RQ L w v Z m' b' := by
  obtain ⟨neg, a, n, c, N, E, E0, h1, h2, h3, h7, h4, h5, h6⟩ := h
  exact ⟨neg, a, n, c, N, E, E0, h1, h2.mono hm, h3, h7, h4, h5, Nat.le_trans h6 hb⟩
theorem RetQZ.mk {L : Nat} {w w' : World} {neg : Bool} {a : Option Addr} {n c : Nat} {N Z E : Int} {m b E0 : Nat} (h : RN w' (.slice a n c) N m) (hz : Z = sg neg N * 2 ^ E0) (hE0 : E + (L : Int) = (E0 : Int)) (h0 : N = 0 → neg = false ∧ E = 0) (h1 : N ≠ 0 → ∃ z, N = 2 * z + 1) (hE : E0 ≤ b) (hb : Below w.heap.size w w') :
    RetQZ L w Z m b (.returned (.agg #[.bool neg, .slice a n c, .int .i64 E])) w' :=
  ⟨neg, a, n, c, E, rfl, ⟨neg, a, n, c, N, E, E0, rfl, h, hz, hE0, h0, h1, hE⟩, hb⟩
set_option maxRecDepth 100000 in
set_option maxHeartbeats 1000000 in
theorem qmake_num {w : World} (L : Nat) (neg : Bool) {a : Option Addr} {n c : Nat} {N : Int} {m : Nat} (e : Int) {e0 : Nat} (he0 : e + (L : Int) = (e0 : Int)) {b : Nat} (heb : e0 + 32 * m ≤ b) (hLb : L ≤ b) (h : RN w (.slice a n c) N m) (he : e0 ≤ 1000000) (hL : L ≤ 1000000) (hm : m ≤ 10000) :
    Calls Tryd.prog 27 #[.bool neg, .slice a n c, .int .i64 (e : Int)] w fun e' w' => RetQZ L w (sg neg N * 2 ^ e0) m b e' w' := by
  have hb0 := below_alloc w (.cells #[.bool false, .slice none 0 0, .int .i64 0] 31)
  have hl := h.len.1
  have h0 := h.nonneg
  by_cases hn : n = 0
  · have hN : N = 0 := hl.1 hn
    have hz : ((n : Int) == 0) = true := by simp; omega
    have HN := Lib.hid hN
    clear hl hn hN
    go_enter Tryd.func27, Tryd.ntmps27
    go_wp2_with fail
    refine bodyPost_ret (v := .agg #[.bool false, .slice none 0 0, .int .i64 0]) (results_cell_row rfl _ _ w.heap.size 31 _ (0, 0) _ rfl (heap_alloc_new w _) Tryd.underlying31 rfl (by kernel_rfl)) rfl ?_
    exact RetQZ.mk (E0 := L) (RN.nil _ _) (by rw [HN.out]; cases neg <;> simp [sg]) (by omega) (fun _ => ⟨rfl, rfl⟩) (fun h => absurd rfl h) hLb hb0
  · have hN : N ≠ 0 := fun e => hn (hl.2 e)
    have hz : ((n : Int) == 0) = false := by simp; omega
    have hlt := h.lt
    have h' := h.below hb0
    have HN := Lib.hid hN
    clear hl hn hN
    go_enter Tryd.func27, Tryd.ntmps27
    go_wp2_with fail
    refine (rlowall_num h' (by omega)).mono ?_
    rintro e' w' ⟨t, rfl, ht, rfl⟩
    have htm := low_le ht h0 hlt
    go_wp2_with fail
    refine (rshr_num t h' (by omega) (by omega)).mono ?_
    rintro e' w2 ⟨a1, n1, c1, rfl, h1, hb2⟩
    have hblk := slot_kept (heap_alloc_new w (.cells #[.bool false, .slice none 0 0, .int .i64 0] 31)) hb2
    obtain ⟨⟨k0, k1, k2⟩, f0, f1, f2⟩ := slot3 hblk
    have hbw := hb0.trans (hb2.mono hb0.size)
    obtain ⟨E, hEI⟩ : ∃ E, e + (t : Int) = E := ⟨_, rfl⟩
    obtain ⟨E0, hE⟩ : ∃ E0, e0 + t = E0 := ⟨_, rfl⟩
    have hEE : E + (L : Int) = (E0 : Int) := by omega
    obtain ⟨hsp, hodd⟩ := low_split ht HN.out
    have hend := slot3_set (u := .bool neg) (v := .slice a1 n1 c1) (s := .int .i64 (E : Int)) hblk
    have hon := slot3_only (w := w2) (g := w.heap.size) (.bool neg) (.slice a1 n1 c1) (.int .i64 (E : Int))
    have hr := RN.var h1 hblk hon
    have hsg : sg neg (N / 2 ^ t) * 2 ^ t = sg neg N := by rw [← sg_scale, hsp]
    have hwr : wrap64 (E : Int) = (E : Int) := by unfold wrap64; omega
    have hret := RetQZ.mk (w := w) (Z := sg neg N * 2 ^ e0) (neg := neg) (b := b) (E := E) (E0 := E0) hr (by rw [← hE, Int.pow_add, Int.mul_comm (2 ^ e0) (2 ^ t), ← Int.mul_assoc, hsg]) hEE (fun h => by obtain ⟨z, hz'⟩ := hodd; omega) (fun _ => hodd) (by omega) (hbw.trans (hon.below (Nat.le_refl _) hbw.size))
    have HR := Lib.hid hret
    clear hret hr hsp hsg hodd hE ht htm h1 h' he0 hEE
    go_wp2_with fail
    exact bodyPost_ret (results_cell_row rfl _ _ w.heap.size 31 _ (0, 0) _ rfl hend Tryd.underlying31 rfl (by kernel_rfl)) rfl HR.out

set_option maxRecDepth 100000 in
theorem qsign_num {L : Nat} {w : World} {neg : Bool} {a : Option Addr} {n c : Nat} {E : Int} {Z : Int} {m b : Nat} (h : RQ L w (.agg #[.bool neg, .slice a n c, .int .i64 (E : Int)]) Z m b) :
    Calls Tryd.prog 17 #[.agg #[.bool neg, .slice a n c, .int .i64 (E : Int)]] w fun e w' => RetV w (.int .i64 (cmpI Z 0)) e w' := by
  obtain ⟨neg', a', n', c', N, E', E0, he, h1, h2, h7, h3, h4, h5⟩ := h
  simp only [Value.agg.injEq, Array.mk.injEq, List.cons.injEq, Value.bool.injEq, Value.slice.injEq, Value.int.injEq, and_true, true_and] at he
  obtain ⟨rfl, ⟨rfl, rfl, rfl⟩, rfl⟩ := he
  have hs := rz_sign h1.nonneg h2
  have hl := h1.len.1
  have hb0 := below_alloc w (.cells #[.bool neg, .slice a n c, .int .i64 (E : Int)] 31)
  by_cases hn : n = 0
  · rw [if_pos (hl.1 hn)] at hs
    have hz : ((n : Int) == 0) = true := by simp; omega
    have HS := Lib.hid hs
    clear hs hl hn h1 h2 h3 h4 h5 h7
    go_enter Tryd.func17, Tryd.ntmps17
    go_wp2_with fail
    go_ret
    exact ⟨by rw [HS.out]; rfl, hb0⟩
  · rw [if_neg (fun e => hn (hl.2 e))] at hs
    have hz : ((n : Int) == 0) = false := by simp; omega
    cases neg
    · have HS := Lib.hid hs
      clear hs hl hn h1 h2 h3 h4 h5 h7
      go_enter Tryd.func17, Tryd.ntmps17
      go_wp2_with fail
      go_ret
      exact ⟨by rw [HS.out]; rfl, hb0⟩
    · have HS := Lib.hid hs
      clear hs hl hn h1 h2 h3 h4 h5 h7
      go_enter Tryd.func17, Tryd.ntmps17
      go_wp2_with fail
      go_ret
      exact ⟨by rw [HS.out]; rfl, hb0⟩

theorem RQ.var {L : Nat} {w w' : World} {v : Value} {Z : Int} {m b g lo hi : Nat} (h : RQ L w v Z m b) {p : Bool} {a1 : Option Addr} {n1 c1 : Nat} {E : Int} {t : TypeId} (hv : w.heap[g]? = some (.cells #[.bool p, .slice a1 n1 c1, .int .i64 E] t (0, 0))) (ho : Only g lo hi w w') : RQ L w' v Z m b := by
  obtain ⟨neg, a, n, c, N, E', E0, h1, h2, h3⟩ := h
  exact ⟨neg, a, n, c, N, E', E0, h1, h2.var hv ho, h3⟩
theorem RQ.open {L : Nat} {w : World} {neg : Bool} {a : Option Addr} {n c : Nat} {E : Int} {Z : Int} {m b : Nat} (h : RQ L w (.agg #[.bool neg, .slice a n c, .int .i64 (E : Int)]) Z m b) :
    ∃ N, ∃ E0 : Nat, RN w (.slice a n c) N m ∧ Z = sg neg N * 2 ^ E0 ∧ E + (L : Int) = (E0 : Int) ∧ (N = 0 → neg = false ∧ E = 0) ∧ (N ≠ 0 → ∃ z, N = 2 * z + 1) ∧ E0 ≤ b := by
  obtain ⟨neg', a', n', c', N, E', E0, he, h1, h2, h7, h3, h4, h5⟩ := h
  simp only [Value.agg.injEq, Array.mk.injEq, List.cons.injEq, Value.bool.injEq, Value.slice.injEq, Value.int.injEq, and_true, true_and] at he
  obtain ⟨rfl, ⟨rfl, rfl, rfl⟩, rfl⟩ := he
  exact ⟨N, E0, h1, h2, h7, h3, h4, h5⟩
set_option maxRecDepth 100000 in
set_option maxHeartbeats 1000000 in
theorem qnot_num {L : Nat} {w : World} {neg : Bool} {a : Option Addr} {n c : Nat} {E : Int} {Z : Int} {m b : Nat} (h : RQ L w (.agg #[.bool neg, .slice a n c, .int .i64 (E : Int)]) Z m b) (hb : b ≤ 1000000) (hLb : L ≤ b) (hm : m ≤ 10000) :
    Calls Tryd.prog 34 #[.agg #[.bool neg, .slice a n c, .int .i64 (E : Int)]] w fun e w' => RetQZ L w (-Z) m (b + 32 * m) e w' := by
  obtain ⟨N, E0, h1, h2, h7, h3, h4, h5⟩ := h.open
  have hz := rz_neg h2
  obtain ⟨w1, hw1⟩ : ∃ w1, w.alloc (.cells #[.bool neg, .slice a n c, .int .i64 (E : Int)] 31) = w1 := ⟨_, rfl⟩
  have hb1 : Below w.heap.size w w1 := hw1 ▸ below_alloc w _
  have hc1 : w1.heap[w.heap.size]? = some (.cells #[.bool neg, .slice a n c, .int .i64 (E : Int)] 31 (0, 0)) := hw1 ▸ heap_alloc_new w _
  have hb2 := below_alloc w1 (.cells #[.bool false, .slice none 0 0, .int .i64 0] 31)
  have hc2 := heap_alloc_new w1 (.cells #[.bool false, .slice none 0 0, .int .i64 0] 31)
  have hk := slot_kept hc1 hb2
  obtain ⟨⟨k0, k1, k2⟩, -⟩ := slot3 hk
  have hb12 := hb1.trans (hb2.mono hb1.size)
  have h1' := h1.below hb12
  clear h h1 h2 h3 h4 hb2 hk hc1
  go_enter Tryd.func34, Tryd.ntmps34
  go_wp2_with fail
  refine (qmake_num (b := b + 32 * m) L (!neg) E h7 (by omega) (by omega) h1' (by omega) (by omega) hm).mono ?_
  rintro e' w3 ⟨neg', a1, n1, c1, E1, rfl, hr, hb3⟩
  have hblk := slot_kept hc2 hb3
  obtain ⟨⟨q0, q1, q2⟩, f0, f1, f2⟩ := slot3 hblk
  have hend := slot3_set (u := .bool neg') (v := .slice a1 n1 c1) (s := .int .i64 (E1 : Int)) hblk
  have hon := slot3_only (w := w3) (g := w1.heap.size) (.bool neg') (.slice a1 n1 c1) (.int .i64 (E1 : Int))
  have hr' := ((hr.var hblk hon).eq hz).mono (Nat.le_refl m) (Nat.le_refl (b + 32 * m))
  have hbw := hb12.trans (hb3.mono hb12.size)
  have hret : RetQZ L w (-Z) m (b + 32 * m) (.returned (.agg #[.bool neg', .slice a1 n1 c1, .int .i64 (E1 : Int)])) (((w3.setCell ⟨w1.heap.size, 0, none⟩ (.bool neg')).setCell ⟨w1.heap.size, 1, none⟩ (.slice a1 n1 c1)).setCell ⟨w1.heap.size, 2, none⟩ (.int .i64 (E1 : Int))) :=
    ⟨neg', a1, n1, c1, E1, rfl, hr', hbw.trans (hon.below hb1.size hbw.size)⟩
  have HR := Lib.hid hret
  clear hret hr hr' hz h1'
  go_wp2_with fail
  exact bodyPost_ret (results_cell_row rfl _ _ w1.heap.size 31 _ (0, 0) _ rfl hend Tryd.underlying31 rfl (by kernel_rfl)) rfl HR.out

/-- How great a number is that lies L places up. -/
def rqtop (L : Nat) (Z : Int) : Int := if Z = 0 then 0 else (nb (absI Z) : Int) - L
set_option maxRecDepth 100000 in
set_option maxHeartbeats 1000000 in
theorem qtop_num {L : Nat} {w : World} {neg : Bool} {a : Option Addr} {n c : Nat} {E : Int} {Z : Int} {m b : Nat} (h : RQ L w (.agg #[.bool neg, .slice a n c, .int .i64 (E : Int)]) Z m b) (hb : b ≤ 1000000) (hLb : L ≤ b) (hm : m ≤ 10000) :
    Calls Tryd.prog 44 #[.agg #[.bool neg, .slice a n c, .int .i64 (E : Int)]] w fun e w' => RetV w (.int .i64 (rqtop L Z)) e w' := by
  obtain ⟨N, E0, h1, h2, h7, h3, h4, h5⟩ := h.open
  have hs := rz_sign h1.nonneg h2
  have ha := rz_abs h1.nonneg h2
  obtain ⟨w1, hw1⟩ : ∃ w1, w.alloc (.cells #[.bool neg, .slice a n c, .int .i64 (E : Int)] 31) = w1 := ⟨_, rfl⟩
  have hb1 : Below w.heap.size w w1 := hw1 ▸ below_alloc w _
  have hc1 : w1.heap[w.heap.size]? = some (.cells #[.bool neg, .slice a n c, .int .i64 (E : Int)] 31 (0, 0)) := hw1 ▸ heap_alloc_new w _
  obtain ⟨⟨k0, k1, k2⟩, -⟩ := slot3 hc1
  have h' := h.below hb1
  by_cases hN : N = 0
  · rw [if_pos hN] at hs
    rw [hN, Int.zero_mul] at ha
    have HA : Hid (rqtop L Z = 0) := by show _ = _; unfold rqtop; rw [if_pos (by rw [h2, hN]; cases neg <;> simp [sg])]
    clear h h1 h2 h3 h4 hN ha h7
    go_enter Tryd.func44, Tryd.ntmps44
    go_wp2_with fail
    refine (qsign_num h').mono ?_
    rw [hs]
    rintro e w2 ⟨rfl, hb2⟩
    go_wp2_with fail
    go_ret
    exact ⟨by rw [HA.out]; rfl, hb1.trans (hb2.mono hb1.size)⟩
  · have h0 := h1.nonneg
    obtain ⟨s, hs1, hs0⟩ : ∃ s : Int, cmpI Z 0 = s ∧ (s == 0) = false := by
      refine ⟨_, rfl, ?_⟩
      rw [hs, if_neg hN]; cases neg <;> decide
    have hnb : nb (absI Z) = nb N + E0 := by rw [ha]; exact nb_shift E0 (by omega)
    have hZ0 : ¬ Z = 0 := by
      intro e0
      have := rz_abs h0 h2
      rw [e0] at this
      have h9 : 0 < N * 2 ^ E0 := Int.mul_pos (by omega) (pow2_pos E0)
      unfold absI at this
      simp at this
      omega
    have hnl : nb N ≤ 32 * m := by
      have hlt := h1.lt
      obtain ⟨q1, q2, q3⟩ := nb_spec (by omega : 0 < N)
      have h5 : (2 : Int) ^ (nb N - 1) < 2 ^ (32 * m) := by
        rw [show (2 : Int) ^ (32 * m) = B32 ^ m by rw [Int.pow_mul]; rfl]
        omega
      have := two_pow_lt_of h5
      omega
    obtain ⟨T, hT⟩ : ∃ T : Int, (nb N : Int) + E = T := ⟨_, rfl⟩
    have hTb : -1000000 ≤ T ∧ T ≤ 2000000 := by omega
    have HA : Hid (rqtop L Z = (T : Int)) := by show _ = _; unfold rqtop; rw [if_neg hZ0, hnb]; omega
    have hsum : ((nb N : Nat) : Int) + (E : Int) = (T : Int) := hT
    have hwr : IntKind.i64.wrap (T : Int) = (T : Int) := by rw [IntKind.wrap_i64]; omega
    clear h h2 h3 h4 hN ha hs hnb hnl hT h0 h7 hZ0
    go_enter Tryd.func44, Tryd.ntmps44
    go_wp2_with fail
    refine (qsign_num h').mono ?_
    rw [hs1]
    rintro e w2 ⟨rfl, hb2⟩
    have hcz := slot_kept hc1 hb2
    have h1' := (h1.below hb1).below hb2
    have hb3 := hb1.trans (hb2.mono hb1.size)
    clear h' h1 hb1 hb2 k0 k1 k2 hc1
    go_upto_region 3 with fail
    refine wp_region_slots (by kernel_rfl) [6, 7, 8, 9, 10, 11, 2] (fun w' => w'.heap[w.heap.size]? = some (.cells #[.bool neg, .slice a n c, .int .i64 (E : Int)] 31 (0, 0)) ∧ RN w' (.slice a n c) N m ∧ Below w2.heap.size w2 w') (Said [Is (.pointer (some ⟨w.heap.size, 1, none⟩)), Is (.slice a n c), Is (.int .i64 ((nb N : Nat) : Int)), Is (.pointer (some ⟨w.heap.size, 2, none⟩)), Is (.int .i64 (E : Int)), Is (.int .i64 (T : Int)), Is (.int .i64 (T : Int))]) (by kernel_rfl) (by kernel_rfl) (by kernel_rfl) (by kernel_rfl) (Said.keep ?keep) ⟨slot_kept hcz (bdn (Below.refl _ _) 1), h1'.below (bdn (Below.refl _ _) 1), bdn (Below.refl _ _) 1⟩ (l := [0, 1, 2, 3, 4, 5, 6]) (by kernel_rfl) ?step ?fin
    case keep =>
      refine List.forall_mem_cons.2 ⟨Is.keeps _, ?_⟩
      refine List.forall_mem_cons.2 ⟨Is.keeps _, ?_⟩
      refine List.forall_mem_cons.2 ⟨Is.keeps _, ?_⟩
      refine List.forall_mem_cons.2 ⟨Is.keeps _, ?_⟩
      refine List.forall_mem_cons.2 ⟨Is.keeps _, ?_⟩
      refine List.forall_mem_cons.2 ⟨Is.keeps _, ?_⟩
      refine List.forall_mem_cons.2 ⟨Is.keeps _, ?_⟩
      exact fun _ h => nomatch h
    case step =>
      refine List.forall_mem_cons.2 ⟨?_, ?_⟩
      · refine SlotStep.plain rfl rfl rfl ?_
        intro tm ws hsame hS hg K hK
        have e1 : tm[1]? = some (.pointer (some ⟨w.heap.size, 0, none⟩)) := hsame.2 1 rfl
        go_simp
        exact hK _ _ (Below.refl _ _) hS rfl
      refine List.forall_mem_cons.2 ⟨?_, ?_⟩
      · refine SlotStep.plain rfl rfl rfl ?_
        intro tm ws hsame hS hg K hK
        obtain ⟨v6, e6, rfl⟩ := hg 0 (by kernel_rfl) _ 6 rfl rfl
        obtain ⟨⟨k0, k1, k2⟩, -⟩ := slot3 hS.1
        go_simp
        exact hK _ _ (Below.refl _ _) hS rfl
      refine List.forall_mem_cons.2 ⟨?_, ?_⟩
      · refine SlotStep.plain rfl rfl rfl ?_
        intro tm ws hsame hS hg K hK
        obtain ⟨v7, e7, rfl⟩ := hg 1 (by kernel_rfl) _ 7 rfl rfl
        go_simp
        refine (rbits_num hS.2.1 (by omega)).mono ?_
        rintro e wm ⟨rfl, rfl⟩
        exact hK _ _ (Below.refl _ _) hS rfl
      refine List.forall_mem_cons.2 ⟨?_, ?_⟩
      · refine SlotStep.plain rfl rfl rfl ?_
        intro tm ws hsame hS hg K hK
        have e1 : tm[1]? = some (.pointer (some ⟨w.heap.size, 0, none⟩)) := hsame.2 1 rfl
        go_simp
        exact hK _ _ (Below.refl _ _) hS rfl
      refine List.forall_mem_cons.2 ⟨?_, ?_⟩
      · refine SlotStep.plain rfl rfl rfl ?_
        intro tm ws hsame hS hg K hK
        obtain ⟨v9, e9, rfl⟩ := hg 3 (by kernel_rfl) _ 9 rfl rfl
        obtain ⟨⟨k0, k1, k2⟩, -⟩ := slot3 hS.1
        go_simp
        exact hK _ _ (Below.refl _ _) hS rfl
      refine List.forall_mem_cons.2 ⟨?_, ?_⟩
      · refine SlotStep.plain rfl rfl rfl ?_
        intro tm ws hsame hS hg K hK
        obtain ⟨v8, e8, rfl⟩ := hg 2 (by kernel_rfl) _ 8 rfl rfl
        obtain ⟨v10, e10, rfl⟩ := hg 4 (by kernel_rfl) _ 10 rfl rfl
        go_simp
        exact hK _ _ (Below.refl _ _) hS rfl
      refine List.forall_mem_cons.2 ⟨?_, ?_⟩
      · refine SlotStep.plain rfl rfl rfl ?_
        intro tm ws hsame hS hg K hK
        obtain ⟨v11, e11, rfl⟩ := hg 5 (by kernel_rfl) _ 11 rfl rfl
        go_simp
        exact hK _ _ (Below.refl _ _) hS rfl
      exact fun _ h => nomatch h
    case fin =>
      intro tm w8 hsame hS hgot
      obtain ⟨u, hu, htm⟩ := hsame.form (by kernel_rfl)
      obtain ⟨v2, e2, rfl⟩ := hgot 6 _ 2 rfl rfl
      have h2 := hu _ _ e2
      have hb8 := hS.2.2
      clear hgot hu hsame e2 hS
      rw [htm]
      clear htm tm
      simp only [List.foldl_cons, List.foldl_nil, List.setIfInBounds_toArray, List.set_cons_zero, List.set_cons_succ, h2]
      clear h2
      go_wp2_with fail
      go_ret
      exact ⟨by rw [HA.out]; rfl, hb3.trans (hb8.mono hb3.size)⟩
end Go.Proofs.YtjmipbljoblnnaaDoor

namespace Go.Proofs.YtjmipbljoblnnaaDoor
open Go.RowKit
def IsQZ (L : Nat) (Z : Int) (m b : Nat) (v : Value) (w : World) : Prop := ∃ p a n c E, v = .agg #[.bool p, .slice a n c, .int .i64 (E : Int)] ∧ RQ L w (.agg #[.bool p, .slice a n c, .int .i64 (E : Int)]) Z m b
theorem IsQZ.keeps (L : Nat) (Z : Int) (m b : Nat) : Keeps (IsQZ L Z m b) := fun _ _ _ hb ⟨p, a, n, c, E, h1, h2⟩ => ⟨p, a, n, c, E, h1, h2.below hb⟩
set_option maxRecDepth 100000 in
set_option maxHeartbeats 1200000 in
theorem qadd_num {L : Nat} {w : World} {p q : Bool} {a a2 : Option Addr} {n c n2 c2 : Nat} {E G : Int} {Zx Zy : Int} {m k b d : Nat} (P s : Nat) (hX : RQ L w (.agg #[.bool p, .slice a n c, .int .i64 (E : Int)]) Zx m b) (hY : RQ L w (.agg #[.bool q, .slice a2 n2 c2, .int .i64 (G : Int)]) Zy k d) (hmP : m + b / 32 + 1 < P) (hkP : k + d / 32 + 1 < P) (hP : P ≤ 10000) (hb : b ≤ 200000) (hd : d ≤ 200000) (hLb : L ≤ b) (hbS : b + 32 * P ≤ s) (hdS : d + 32 * P ≤ s) :
    Calls Tryd.prog 9 #[.agg #[.bool p, .slice a n c, .int .i64 (E : Int)], .agg #[.bool q, .slice a2 n2 c2, .int .i64 (G : Int)]] w fun e w' => RetQZ L w (Zx + Zy) P s e w' := by
  obtain ⟨N, E0, h1, hz1, hEE, -, -, hE⟩ := hX.open
  obtain ⟨M, G0, h2, hz2, hGG, -, -, hG⟩ := hY.open
  have hN0 := h1.nonneg
  have hM0 := h2.nonneg
  obtain ⟨w1, hw1⟩ : ∃ w1, w.alloc (.cells #[.bool p, .slice a n c, .int .i64 (E : Int)] 31) = w1 := ⟨_, rfl⟩
  obtain ⟨w2, hw2⟩ : ∃ w2, w1.alloc (.cells #[.bool q, .slice a2 n2 c2, .int .i64 (G : Int)] 31) = w2 := ⟨_, rfl⟩
  obtain ⟨w3, hw3⟩ : ∃ w3, w2.alloc (.cells #[.bool false, .slice none 0 0, .int .i64 0] 31) = w3 := ⟨_, rfl⟩
  have hb1 : Below w.heap.size w w1 := hw1 ▸ below_alloc w _
  have hb12 : Below w1.heap.size w1 w2 := hw2 ▸ below_alloc w1 _
  have hb23 : Below w2.heap.size w2 w3 := hw3 ▸ below_alloc w2 _
  have hb2 : Below w.heap.size w w2 := hb1.trans (hb12.mono hb1.size)
  have hb3 : Below w.heap.size w w3 := hb2.trans (hb23.mono hb2.size)
  have hc1 : w3.heap[w.heap.size]? = some (.cells #[.bool p, .slice a n c, .int .i64 (E : Int)] 31 (0, 0)) := slot_kept (slot_kept (hw1 ▸ heap_alloc_new w _) hb12) hb23
  have hc2 : w3.heap[w1.heap.size]? = some (.cells #[.bool q, .slice a2 n2 c2, .int .i64 (G : Int)] 31 (0, 0)) := slot_kept (hw2 ▸ heap_alloc_new w1 _) hb23
  have hc3 : w3.heap[w2.heap.size]? = some (.cells #[.bool false, .slice none 0 0, .int .i64 0] 31 (0, 0)) := hw3 ▸ heap_alloc_new w2 _
  replace hX := hX.below hb3
  replace hY := hY.below hb3
  replace h1 := h1.below hb3
  replace h2 := h2.below hb3
  clear hb12 hb23
  obtain ⟨⟨kx0, kx1, kx2⟩, -⟩ := slot3 hc1
  by_cases hN : N = 0
  · have hZ := rz_none hN hz1
    have hsx : cmpI Zx 0 = 0 := by rw [hZ]; rfl
    have HZ := Lib.hid hZ
    have hkP' : k ≤ P := by omega
    have hdS' : d ≤ s := by omega
    clear hEE hGG hN hz1 hz2 h1 h2 hN0 hM0 hZ
    go_enter Tryd.func9, Tryd.ntmps9
    go_wp2_with fail
    refine (qsign_num hX).mono ?_
    rw [hsx]
    rintro e w4 ⟨rfl, hb4⟩
    have hY4 := hY.below hb4
    have hbw4 := hb3.trans (hb4.mono hb3.size)
    obtain ⟨⟨ky0, ky1, ky2⟩, -⟩ := slot3 (slot_kept hc2 hb4)
    have hblk := slot_kept hc3 hb4
    obtain ⟨⟨q0, q1, q2⟩, f0, f1, f2⟩ := slot3 hblk
    have hend := slot3_set (u := .bool q) (v := .slice a2 n2 c2) (s := .int .i64 (G : Int)) hblk
    have hon := slot3_only (w := w4) (g := w2.heap.size) (.bool q) (.slice a2 n2 c2) (.int .i64 (G : Int))
    have hr' := ((hY4.var hblk hon).eq (by rw [HZ.out, Int.zero_add] : Zy = Zx + Zy)).mono hkP' hdS'
    have HR : Hid (RetQZ L w (Zx + Zy) P s (.returned (.agg #[.bool q, .slice a2 n2 c2, .int .i64 (G : Int)])) (((w4.setCell ⟨w2.heap.size, 0, none⟩ (.bool q)).setCell ⟨w2.heap.size, 1, none⟩ (.slice a2 n2 c2)).setCell ⟨w2.heap.size, 2, none⟩ (.int .i64 (G : Int)))) :=
      Lib.hid ⟨_, _, _, _, _, rfl, hr', (hbw4).trans (hon.below hb2.size (hbw4).size)⟩
    clear hr' hY4 hY hX hsx
    go_wp2_with fail
    exact bodyPost_ret (results_cell_row rfl _ _ w2.heap.size 31 _ (0, 0) _ rfl hend Tryd.underlying31 rfl (by kernel_rfl)) rfl HR.out
  · obtain ⟨s1, hsx, hs1⟩ := rz_some hN0 hN hz1
    by_cases hM : M = 0
    · have hZ := rz_none hM hz2
      have hsy : cmpI Zy 0 = 0 := by rw [hZ]; rfl
      have HZ := Lib.hid hZ
      have hmP' : m ≤ P := by omega
      have hbS' : b ≤ s := by omega
      clear hEE hGG hN hM hz1 hz2 h1 h2 hN0 hM0 hZ
      go_enter Tryd.func9, Tryd.ntmps9
      go_wp2_with fail
      refine (qsign_num hX).mono ?_
      rw [hsx]
      rintro e w4 ⟨rfl, hb4⟩
      obtain ⟨⟨ky0, ky1, ky2⟩, -⟩ := slot3 (slot_kept hc2 hb4)
      have hc14 := slot_kept hc1 hb4
      have hc34 := slot_kept hc3 hb4
      have hbw4 := hb3.trans (hb4.mono hb3.size)
      clear kx0 kx1 kx2
      go_wp2_with fail
      refine (qsign_num (hY.below hb4)).mono ?_
      rw [hsy]
      rintro e w5 ⟨rfl, hb5⟩
      have hX5 := (hX.below hb4).below hb5
      have hbw5 := hbw4.trans (hb5.mono hbw4.size)
      obtain ⟨⟨kx0, kx1, kx2⟩, -⟩ := slot3 (slot_kept hc14 hb5)
      have hblk := slot_kept hc34 hb5
      obtain ⟨⟨q0, q1, q2⟩, f0, f1, f2⟩ := slot3 hblk
      have hend := slot3_set (u := .bool p) (v := .slice a n c) (s := .int .i64 (E : Int)) hblk
      have hon := slot3_only (w := w5) (g := w2.heap.size) (.bool p) (.slice a n c) (.int .i64 (E : Int))
      have hr' := ((hX5.var hblk hon).eq (by rw [HZ.out, Int.add_zero] : Zx = Zx + Zy)).mono hmP' hbS'
      have HR : Hid (RetQZ L w (Zx + Zy) P s (.returned (.agg #[.bool p, .slice a n c, .int .i64 (E : Int)])) (((w5.setCell ⟨w2.heap.size, 0, none⟩ (.bool p)).setCell ⟨w2.heap.size, 1, none⟩ (.slice a n c)).setCell ⟨w2.heap.size, 2, none⟩ (.int .i64 (E : Int)))) :=
        Lib.hid ⟨_, _, _, _, _, rfl, hr', (hbw5).trans (hon.below hb2.size (hbw5).size)⟩
      clear hr' hX5 hY hX hsx hsy ky0 ky1 ky2
      go_wp2_with fail
      exact bodyPost_ret (results_cell_row rfl _ _ w2.heap.size 31 _ (0, 0) _ rfl hend Tryd.underlying31 rfl (by kernel_rfl)) rfl HR.out
    · obtain ⟨s2, hsy, hs2⟩ := rz_some hM0 hM hz2
      clear hN hM
      go_enter Tryd.func9, Tryd.ntmps9
      go_wp2_with fail
      refine (qsign_num hX).mono ?_
      rw [hsx]
      rintro e w4 ⟨rfl, hb4⟩
      obtain ⟨⟨ky0, ky1, ky2⟩, -⟩ := slot3 (slot_kept hc2 hb4)
      have hc14 := slot_kept hc1 hb4
      have hc24 := slot_kept hc2 hb4
      have hc34 := slot_kept hc3 hb4
      have hbw4 := hb3.trans (hb4.mono hb3.size)
      clear kx0 kx1 kx2
      go_wp2_with fail
      refine (qsign_num (hY.below hb4)).mono ?_
      rw [hsy]
      rintro e w5 ⟨rfl, hb5⟩
      have hbw5 := hbw4.trans (hb5.mono hbw4.size)
      have hc15 := slot_kept hc14 hb5
      have hc25 := slot_kept hc24 hb5
      have hc35 := slot_kept hc34 hb5
      obtain ⟨⟨kx0, kx1, kx2⟩, -⟩ := slot3 hc15
      replace h1 := (h1.below hb4).below hb5
      replace h2 := (h2.below hb4).below hb5
      clear hX hY hb4 hb5 hc14 hc24 hc34 hc1 hc2 hc3 hsx hsy hs1 ky0 ky1 ky2
      obtain ⟨⟨ky0, ky1, ky2⟩, -⟩ := slot3 hc25
      obtain ⟨e, en, he1, he2, hee, hmin⟩ : ∃ (e : Int) (en : Nat), en ≤ E0 ∧ en ≤ G0 ∧ e + (L : Int) = (en : Int) ∧ min (E : Int) (G : Int) = e := ⟨min E G, min E0 G0, Nat.min_le_left _ _, Nat.min_le_right _ _, by omega, rfl⟩
      obtain ⟨i, hi⟩ : ∃ i, en + i = E0 := ⟨E0 - en, by omega⟩
      obtain ⟨j, hj⟩ : ∃ j, en + j = G0 := ⟨G0 - en, by omega⟩
      have hzx := rz_to hz1 hi
      have hzy := rz_to hz2 hj
      obtain ⟨P0, hP0⟩ : ∃ P0, P0 + 1 = P := ⟨P - 1, by omega⟩
      have hiI : (E : Int) - (e : Int) = (i : Int) := by omega
      have hjI : (G : Int) - (e : Int) = (j : Int) := by omega
      have hpi : m + i / 32 + 1 ≤ P0 := by omega
      have hpj : k + j / 32 + 1 ≤ P0 := by omega
      have hPP : P0 < P := by omega
      have hib : i ≤ 200000 := by omega
      have hjb : j ≤ 200000 := by omega
      have hmb : m ≤ 10000 := by omega
      have hkb : k ≤ 10000 := by omega
      have heb : en ≤ 200000 := by omega
      have hLs : L ≤ s := by omega
      have hL9 : L ≤ 1000000 := by omega
      have hwi : IntKind.i64.wrap (i : Int) = (i : Int) := by rw [IntKind.wrap_i64]; omega
      have hwj : IntKind.i64.wrap (j : Int) = (j : Int) := by rw [IntKind.wrap_i64]; omega
      have hes : en + 32 * P ≤ s := by omega
      obtain ⟨X, hXe⟩ : ∃ X, N * 2 ^ i = X := ⟨_, rfl⟩
      obtain ⟨Y, hYe⟩ : ∃ Y, M * 2 ^ j = Y := ⟨_, rfl⟩
      rw [hXe] at hzx
      rw [hYe] at hzy
      have HZX := Lib.hid hzx
      have HZY := Lib.hid hzy
      have HXE := Lib.hid hXe
      have HYE := Lib.hid hYe
      clear hz1 hz2 hzx hzy hi hj hXe hYe hP0 hmP hkP hbS hdS hN0 hM0 hE hG hEE hGG he1 he2 hLb
      go_upto_region 6 with fail
      refine wp_region_slots (by kernel_rfl) [21, 22, 23, 24, 25, 26, 27, 28, 29, 30, 31, 32, 33, 34, 6, 7] (fun w' => w'.heap[w.heap.size]? = some (.cells #[.bool p, .slice a n c, .int .i64 (E : Int)] 31 (0, 0)) ∧ w'.heap[w1.heap.size]? = some (.cells #[.bool q, .slice a2 n2 c2, .int .i64 (G : Int)] 31 (0, 0)) ∧ w'.heap[w2.heap.size]? = some (.cells #[.bool false, .slice none 0 0, .int .i64 0] 31 (0, 0)) ∧ RN w' (.slice a n c) N m ∧ RN w' (.slice a2 n2 c2) M k ∧ Below w5.heap.size w5 w') (Said [Is (.pointer (some ⟨w.heap.size, 1, none⟩)), Is (.slice a n c), Is (.pointer (some ⟨w.heap.size, 2, none⟩)), Is (.int .i64 (E : Int)), Is (.int .i64 (e : Int)), Is (.int .i64 (i : Int)), IsRN X P0, Is (.pointer (some ⟨w1.heap.size, 1, none⟩)), Is (.slice a2 n2 c2), Is (.pointer (some ⟨w1.heap.size, 2, none⟩)), Is (.int .i64 (G : Int)), Is (.int .i64 (e : Int)), Is (.int .i64 (j : Int)), IsRN Y P0, IsRN X P0, IsRN Y P0]) (by kernel_rfl) (by kernel_rfl) (by kernel_rfl) (by kernel_rfl) (Said.keep ?keep) ⟨slot_kept hc15 (bdn (Below.refl _ _) 1), slot_kept hc25 (bdn (Below.refl _ _) 1), slot_kept hc35 (bdn (Below.refl _ _) 1), h1.below (bdn (Below.refl _ _) 1), h2.below (bdn (Below.refl _ _) 1), bdn (Below.refl _ _) 1⟩ (l := [0, 1, 2, 3, 4, 5, 6, 7, 8, 9, 10, 11, 12, 13, 14, 15]) (by kernel_rfl) ?step ?fin
      case keep =>
        refine List.forall_mem_cons.2 ⟨Is.keeps _, ?_⟩
        refine List.forall_mem_cons.2 ⟨Is.keeps _, ?_⟩
        refine List.forall_mem_cons.2 ⟨Is.keeps _, ?_⟩
        refine List.forall_mem_cons.2 ⟨Is.keeps _, ?_⟩
        refine List.forall_mem_cons.2 ⟨Is.keeps _, ?_⟩
        refine List.forall_mem_cons.2 ⟨Is.keeps _, ?_⟩
        refine List.forall_mem_cons.2 ⟨IsRN.keeps _ _, ?_⟩
        refine List.forall_mem_cons.2 ⟨Is.keeps _, ?_⟩
        refine List.forall_mem_cons.2 ⟨Is.keeps _, ?_⟩
        refine List.forall_mem_cons.2 ⟨Is.keeps _, ?_⟩
        refine List.forall_mem_cons.2 ⟨Is.keeps _, ?_⟩
        refine List.forall_mem_cons.2 ⟨Is.keeps _, ?_⟩
        refine List.forall_mem_cons.2 ⟨Is.keeps _, ?_⟩
        refine List.forall_mem_cons.2 ⟨IsRN.keeps _ _, ?_⟩
        refine List.forall_mem_cons.2 ⟨IsRN.keeps _ _, ?_⟩
        refine List.forall_mem_cons.2 ⟨IsRN.keeps _ _, ?_⟩
        exact fun _ h => nomatch h
      case step =>
        refine List.forall_mem_cons.2 ⟨?_, ?_⟩
        · refine SlotStep.plain rfl rfl rfl ?_
          intro tm ws hsame hS hg K hK
          have e2 : tm[2]? = some (.pointer (some ⟨w.heap.size, 0, none⟩)) := hsame.2 2 rfl
          go_simp
          exact hK _ _ (Below.refl _ _) hS rfl
        refine List.forall_mem_cons.2 ⟨?_, ?_⟩
        · refine SlotStep.plain rfl rfl rfl ?_
          intro tm ws hsame hS hg K hK
          obtain ⟨v21, e21, rfl⟩ := hg 0 (by kernel_rfl) _ 21 rfl rfl
          obtain ⟨⟨k0, k1, k2⟩, -⟩ := slot3 hS.1
          go_simp
          exact hK _ _ (Below.refl _ _) hS rfl
        refine List.forall_mem_cons.2 ⟨?_, ?_⟩
        · refine SlotStep.plain rfl rfl rfl ?_
          intro tm ws hsame hS hg K hK
          have e2 : tm[2]? = some (.pointer (some ⟨w.heap.size, 0, none⟩)) := hsame.2 2 rfl
          go_simp
          exact hK _ _ (Below.refl _ _) hS rfl
        refine List.forall_mem_cons.2 ⟨?_, ?_⟩
        · refine SlotStep.plain rfl rfl rfl ?_
          intro tm ws hsame hS hg K hK
          obtain ⟨v23, e23, rfl⟩ := hg 2 (by kernel_rfl) _ 23 rfl rfl
          obtain ⟨⟨k0, k1, k2⟩, -⟩ := slot3 hS.1
          go_simp
          exact hK _ _ (Below.refl _ _) hS rfl
        refine List.forall_mem_cons.2 ⟨?_, ?_⟩
        · refine SlotStep.plain rfl rfl rfl ?_
          intro tm ws hsame hS hg K hK
          have e5 : tm[5]? = some (.int .i64 (e : Int)) := hsame.2 5 rfl
          go_simp
          exact hK _ _ (Below.refl _ _) hS rfl
        refine List.forall_mem_cons.2 ⟨?_, ?_⟩
        · refine SlotStep.plain rfl rfl rfl ?_
          intro tm ws hsame hS hg K hK
          obtain ⟨v24, e24, rfl⟩ := hg 3 (by kernel_rfl) _ 24 rfl rfl
          obtain ⟨v25, e25, rfl⟩ := hg 4 (by kernel_rfl) _ 25 rfl rfl
          go_simp
          exact hK _ _ (Below.refl _ _) hS rfl
        refine List.forall_mem_cons.2 ⟨?_, ?_⟩
        · refine SlotStep.plain rfl rfl rfl ?_
          intro tm ws hsame hS hg K hK
          obtain ⟨v22, e22, rfl⟩ := hg 1 (by kernel_rfl) _ 22 rfl rfl
          obtain ⟨v26, e26, rfl⟩ := hg 5 (by kernel_rfl) _ 26 rfl rfl
          go_simp
          refine (rshl_num i hS.2.2.2.1 (by omega) hpi (by omega)).mono ?_
          rw [HXE.out]
          rintro e wm ⟨aR, nR, cR, rfl, hR, hb⟩
          exact hK _ _ hb (⟨slot_kept hS.1 (hb), slot_kept hS.2.1 (hb), slot_kept hS.2.2.1 (hb), hS.2.2.2.1.below (hb), hS.2.2.2.2.1.below (hb), hS.2.2.2.2.2.trans (Below.mono (hb) hS.2.2.2.2.2.size)⟩) ⟨aR, nR, cR, rfl, hR⟩
        refine List.forall_mem_cons.2 ⟨?_, ?_⟩
        · refine SlotStep.plain rfl rfl rfl ?_
          intro tm ws hsame hS hg K hK
          have e3 : tm[3]? = some (.pointer (some ⟨w1.heap.size, 0, none⟩)) := hsame.2 3 rfl
          go_simp
          exact hK _ _ (Below.refl _ _) hS rfl
        refine List.forall_mem_cons.2 ⟨?_, ?_⟩
        · refine SlotStep.plain rfl rfl rfl ?_
          intro tm ws hsame hS hg K hK
          obtain ⟨v28, e28, rfl⟩ := hg 7 (by kernel_rfl) _ 28 rfl rfl
          obtain ⟨⟨k0, k1, k2⟩, -⟩ := slot3 hS.2.1
          go_simp
          exact hK _ _ (Below.refl _ _) hS rfl
        refine List.forall_mem_cons.2 ⟨?_, ?_⟩
        · refine SlotStep.plain rfl rfl rfl ?_
          intro tm ws hsame hS hg K hK
          have e3 : tm[3]? = some (.pointer (some ⟨w1.heap.size, 0, none⟩)) := hsame.2 3 rfl
          go_simp
          exact hK _ _ (Below.refl _ _) hS rfl
        refine List.forall_mem_cons.2 ⟨?_, ?_⟩
        · refine SlotStep.plain rfl rfl rfl ?_
          intro tm ws hsame hS hg K hK
          obtain ⟨v30, e30, rfl⟩ := hg 9 (by kernel_rfl) _ 30 rfl rfl
          obtain ⟨⟨k0, k1, k2⟩, -⟩ := slot3 hS.2.1
          go_simp
          exact hK _ _ (Below.refl _ _) hS rfl
        refine List.forall_mem_cons.2 ⟨?_, ?_⟩
        · refine SlotStep.plain rfl rfl rfl ?_
          intro tm ws hsame hS hg K hK
          have e5 : tm[5]? = some (.int .i64 (e : Int)) := hsame.2 5 rfl
          go_simp
          exact hK _ _ (Below.refl _ _) hS rfl
        refine List.forall_mem_cons.2 ⟨?_, ?_⟩
        · refine SlotStep.plain rfl rfl rfl ?_
          intro tm ws hsame hS hg K hK
          obtain ⟨v31, e31, rfl⟩ := hg 10 (by kernel_rfl) _ 31 rfl rfl
          obtain ⟨v32, e32, rfl⟩ := hg 11 (by kernel_rfl) _ 32 rfl rfl
          go_simp
          exact hK _ _ (Below.refl _ _) hS rfl
        refine List.forall_mem_cons.2 ⟨?_, ?_⟩
        · refine SlotStep.plain rfl rfl rfl ?_
          intro tm ws hsame hS hg K hK
          obtain ⟨v29, e29, rfl⟩ := hg 8 (by kernel_rfl) _ 29 rfl rfl
          obtain ⟨v33, e33, rfl⟩ := hg 12 (by kernel_rfl) _ 33 rfl rfl
          go_simp
          refine (rshl_num j hS.2.2.2.2.1 (by omega) hpj (by omega)).mono ?_
          rw [HYE.out]
          rintro e wm ⟨aR, nR, cR, rfl, hR, hb⟩
          exact hK _ _ hb (⟨slot_kept hS.1 (hb), slot_kept hS.2.1 (hb), slot_kept hS.2.2.1 (hb), hS.2.2.2.1.below (hb), hS.2.2.2.2.1.below (hb), hS.2.2.2.2.2.trans (Below.mono (hb) hS.2.2.2.2.2.size)⟩) ⟨aR, nR, cR, rfl, hR⟩
        refine List.forall_mem_cons.2 ⟨?_, ?_⟩
        · refine SlotStep.plain rfl rfl rfl ?_
          intro tm ws hsame hS hg K hK
          obtain ⟨v27, e27, ⟨a27, n27, c27, rfl, g27⟩⟩ := hg 6 (by kernel_rfl) _ 27 rfl rfl
          go_simp
          exact hK _ _ (Below.refl _ _) hS ⟨a27, n27, c27, rfl, g27⟩
        refine List.forall_mem_cons.2 ⟨?_, ?_⟩
        · refine SlotStep.plain rfl rfl rfl ?_
          intro tm ws hsame hS hg K hK
          obtain ⟨v34, e34, ⟨a34, n34, c34, rfl, g34⟩⟩ := hg 13 (by kernel_rfl) _ 34 rfl rfl
          go_simp
          exact hK _ _ (Below.refl _ _) hS ⟨a34, n34, c34, rfl, g34⟩
        exact fun _ h => nomatch h
      case fin =>
        intro tm w8 hsame hS hgot
        obtain ⟨u, hu, htm⟩ := hsame.form (by kernel_rfl)
        obtain ⟨v6, e6, ax, nx, cx, rfl, hx⟩ := hgot 14 _ 6 rfl rfl
        obtain ⟨v7, e7, ay, ny, cy, rfl, hy⟩ := hgot 15 _ 7 rfl rfl
        have h6 := hu _ _ e6
        have h7 := hu _ _ e7
        obtain ⟨hd1, hd2, hd3, -, -, hb8⟩ := hS
        have hbw8 := hbw5.trans (hb8.mono hbw5.size)
        clear hgot hu hsame e6 e7 hb8 h1 h2 hc15 hc25 hc35 kx0 kx1 kx2 ky0 ky1 ky2 hmin hiI hjI
        rw [htm]
        clear htm tm
        simp only [List.foldl_cons, List.foldl_nil, List.setIfInBounds_toArray, List.set_cons_zero, List.set_cons_succ, h6, h7]
        clear h6 h7
        obtain ⟨⟨kx0, kx1, kx2⟩, -⟩ := slot3 hd1
        obtain ⟨⟨ky0, ky1, ky2⟩, -⟩ := slot3 hd2
        by_cases hpq : p = q
        · have hpt : (p == q) = true := by rw [hpq]; exact beq_self_eq_true q
          have HV := Lib.hid (rz_same hpq HZX.out HZY.out)
          clear hpq HZX HZY
          go_upto_region 8 with fail
          refine wp_region_slots_tail (by kernel_rfl) 7 [41, 42, 43, 44, 45, 46, 47] (fun w' => w'.heap[w.heap.size]? = some (.cells #[.bool p, .slice a n c, .int .i64 (E : Int)] 31 (0, 0)) ∧ w'.heap[w1.heap.size]? = some (.cells #[.bool q, .slice a2 n2 c2, .int .i64 (G : Int)] 31 (0, 0)) ∧ w'.heap[w2.heap.size]? = some (.cells #[.bool false, .slice none 0 0, .int .i64 0] 31 (0, 0)) ∧ RN w' (.slice ax nx cx) X P0 ∧ RN w' (.slice ay ny cy) Y P0 ∧ Below w8.heap.size w8 w') (Said [Is (.pointer (some ⟨w.heap.size, 0, none⟩)), Is (.bool p), Is (.slice ax nx cx), Is (.slice ay ny cy), IsRN (X + Y) P, Is (.int .i64 (e : Int)), IsQZ L (sg p (X + Y) * 2 ^ en) P s]) (by kernel_rfl) (by kernel_rfl) (by kernel_rfl) (by kernel_rfl) (by kernel_rfl) (Said.keep ?keep) ⟨slot_kept hd1 (bdn (Below.refl _ _) 1), slot_kept hd2 (bdn (Below.refl _ _) 1), slot_kept hd3 (bdn (Below.refl _ _) 1), hx.below (bdn (Below.refl _ _) 1), hy.below (bdn (Below.refl _ _) 1), bdn (Below.refl _ _) 1⟩ (l := [0, 1, 2, 3, 4, 5, 6]) (by kernel_rfl) ?step ?fin
          case keep =>
            refine List.forall_mem_cons.2 ⟨Is.keeps _, ?_⟩
            refine List.forall_mem_cons.2 ⟨Is.keeps _, ?_⟩
            refine List.forall_mem_cons.2 ⟨Is.keeps _, ?_⟩
            refine List.forall_mem_cons.2 ⟨Is.keeps _, ?_⟩
            refine List.forall_mem_cons.2 ⟨IsRN.keeps _ _, ?_⟩
            refine List.forall_mem_cons.2 ⟨Is.keeps _, ?_⟩
            refine List.forall_mem_cons.2 ⟨IsQZ.keeps _ _ _ _, ?_⟩
            exact fun _ h => nomatch h
          case step =>
            refine List.forall_mem_cons.2 ⟨?_, ?_⟩
            · refine SlotStep.plain rfl rfl rfl ?_
              intro tm ws hsame hS hg K hK
              have e2 : tm[2]? = some (.pointer (some ⟨w.heap.size, 0, none⟩)) := hsame.2 2 rfl
              go_simp
              exact hK _ _ (Below.refl _ _) hS rfl
            refine List.forall_mem_cons.2 ⟨?_, ?_⟩
            · refine SlotStep.plain rfl rfl rfl ?_
              intro tm ws hsame hS hg K hK
              obtain ⟨v41, e41, rfl⟩ := hg 0 (by kernel_rfl) _ 41 rfl rfl
              obtain ⟨⟨k0, k1, k2⟩, -⟩ := slot3 hS.1
              go_simp
              exact hK _ _ (Below.refl _ _) hS rfl
            refine List.forall_mem_cons.2 ⟨?_, ?_⟩
            · refine SlotStep.plain rfl rfl rfl ?_
              intro tm ws hsame hS hg K hK
              have e6 : tm[6]? = some (.slice ax nx cx) := hsame.2 6 rfl
              go_simp
              exact hK _ _ (Below.refl _ _) hS rfl
            refine List.forall_mem_cons.2 ⟨?_, ?_⟩
            · refine SlotStep.plain rfl rfl rfl ?_
              intro tm ws hsame hS hg K hK
              have e7 : tm[7]? = some (.slice ay ny cy) := hsame.2 7 rfl
              go_simp
              exact hK _ _ (Below.refl _ _) hS rfl
            refine List.forall_mem_cons.2 ⟨?_, ?_⟩
            · refine SlotStep.plain rfl rfl rfl ?_
              intro tm ws hsame hS hg K hK
              obtain ⟨v43, e43, rfl⟩ := hg 2 (by kernel_rfl) _ 43 rfl rfl
              obtain ⟨v44, e44, rfl⟩ := hg 3 (by kernel_rfl) _ 44 rfl rfl
              go_simp
              refine (radd_num hS.2.2.2.1 hS.2.2.2.2.1 hPP hPP (by omega)).mono ?_
              rintro e wm ⟨aR, nR, cR, rfl, hR, hb⟩
              exact hK _ _ hb (⟨slot_kept hS.1 (hb), slot_kept hS.2.1 (hb), slot_kept hS.2.2.1 (hb), hS.2.2.2.1.below (hb), hS.2.2.2.2.1.below (hb), hS.2.2.2.2.2.trans (Below.mono (hb) hS.2.2.2.2.2.size)⟩) ⟨aR, nR, cR, rfl, hR⟩
            refine List.forall_mem_cons.2 ⟨?_, ?_⟩
            · refine SlotStep.plain rfl rfl rfl ?_
              intro tm ws hsame hS hg K hK
              have e5 : tm[5]? = some (.int .i64 (e : Int)) := hsame.2 5 rfl
              go_simp
              exact hK _ _ (Below.refl _ _) hS rfl
            refine List.forall_mem_cons.2 ⟨?_, ?_⟩
            · refine SlotStep.plain rfl rfl rfl ?_
              intro tm ws hsame hS hg K hK
              obtain ⟨v42, e42, rfl⟩ := hg 1 (by kernel_rfl) _ 42 rfl rfl
              obtain ⟨v45, e45, ⟨a45, n45, c45, rfl, g45⟩⟩ := hg 4 (by kernel_rfl) _ 45 rfl rfl
              obtain ⟨v46, e46, rfl⟩ := hg 5 (by kernel_rfl) _ 46 rfl rfl
              go_simp
              refine (qmake_num L p e hee hes hLs g45 (by omega) hL9 hP).mono ?_
              rintro e wm ⟨pR, aR, nR, cR, ER, rfl, hR, hb⟩
              exact hK _ _ hb (⟨slot_kept hS.1 (hb), slot_kept hS.2.1 (hb), slot_kept hS.2.2.1 (hb), hS.2.2.2.1.below (hb), hS.2.2.2.2.1.below (hb), hS.2.2.2.2.2.trans (Below.mono (hb) hS.2.2.2.2.2.size)⟩) ⟨pR, aR, nR, cR, ER, rfl, hR⟩
            exact fun _ h => nomatch h
          case fin =>
            intro tm wT hsame hS hgot
            obtain ⟨u, hu, htm⟩ := hsame.form (by kernel_rfl)
            obtain ⟨vT, eT, pR, aR, nR, cR, ER, rfl, hr⟩ := hgot 6 (by decide) _ 47 rfl rfl
            have hT := hu _ _ eT
            obtain ⟨-, -, hblk, -, -, hbT⟩ := hS
            obtain ⟨⟨q0, q1, q2⟩, f0, f1, f2⟩ := slot3 hblk
            have hend := slot3_set (u := .bool pR) (v := .slice aR nR cR) (s := .int .i64 (ER : Int)) hblk
            have hon := slot3_only (w := wT) (g := w2.heap.size) (.bool pR) (.slice aR nR cR) (.int .i64 (ER : Int))
            have hr' := ((hr.var hblk hon).eq HV.out).mono (Nat.le_refl _) (Nat.le_refl s)
            have hbz := hbw8.trans (hbT.mono hbw8.size)
            have HR : Hid (RetQZ L w (Zx + Zy) P s (.returned (.agg #[.bool pR, .slice aR nR cR, .int .i64 (ER : Int)])) (((wT.setCell ⟨w2.heap.size, 0, none⟩ (.bool pR)).setCell ⟨w2.heap.size, 1, none⟩ (.slice aR nR cR)).setCell ⟨w2.heap.size, 2, none⟩ (.int .i64 (ER : Int)))) :=
              Lib.hid ⟨pR, aR, nR, cR, ER, rfl, hr', hbz.trans (hon.below hb2.size hbz.size)⟩
            clear hgot hu hsame eT hr hr'
            rw [htm]
            clear htm tm
            simp only [List.foldl_cons, List.foldl_nil, List.setIfInBounds_toArray, List.set_cons_zero, List.set_cons_succ, hT, List.drop_succ_cons, List.drop_zero]
            clear hT
            go_wp2_with fail
            exact bodyPost_ret (results_cell_row rfl _ _ w2.heap.size 31 _ (0, 0) _ rfl hend Tryd.underlying31 rfl (by kernel_rfl)) rfl HR.out
        · have hpt : (p == q) = false := by cases p <;> cases q <;> first | rfl | exact absurd rfl hpq
          by_cases hle : Y ≤ X
          · obtain ⟨s3, hs3, hs30⟩ : ∃ s3 : Int, cmpI X Y = s3 ∧ 0 ≤ s3 := ⟨_, rfl, cmpI_ge hle⟩
            have HV := Lib.hid (rz_diff hpq HZX.out HZY.out)
            have HLE := Lib.hid hle
            clear hpq HZX HZY hle
            go_wp2_with fail
            refine (rcmp_num hx hy).mono ?_
            rw [hs3]
            rintro e' w9 ⟨rfl, hb9⟩
            have hle := HLE.out
            replace hd1 := slot_kept hd1 hb9
            replace hd2 := slot_kept hd2 hb9
            replace hd3 := slot_kept hd3 hb9
            replace hx := hx.below hb9
            replace hy := hy.below hb9
            have hbw9 := hbw8.trans (hb9.mono hbw8.size)
            clear hb9 kx0 kx1 kx2 ky0 ky1 ky2
            go_upto_region 10 with fail
            refine wp_region_slots_tail (by kernel_rfl) 7 [53, 54, 55, 56, 57, 58, 59] (fun w' => w'.heap[w.heap.size]? = some (.cells #[.bool p, .slice a n c, .int .i64 (E : Int)] 31 (0, 0)) ∧ w'.heap[w1.heap.size]? = some (.cells #[.bool q, .slice a2 n2 c2, .int .i64 (G : Int)] 31 (0, 0)) ∧ w'.heap[w2.heap.size]? = some (.cells #[.bool false, .slice none 0 0, .int .i64 0] 31 (0, 0)) ∧ RN w' (.slice ax nx cx) X P0 ∧ RN w' (.slice ay ny cy) Y P0 ∧ Below w9.heap.size w9 w') (Said [Is (.pointer (some ⟨w.heap.size, 0, none⟩)), Is (.bool p), Is (.slice ax nx cx), Is (.slice ay ny cy), IsRN (X - Y) P, Is (.int .i64 (e : Int)), IsQZ L (sg p (X - Y) * 2 ^ en) P s]) (by kernel_rfl) (by kernel_rfl) (by kernel_rfl) (by kernel_rfl) (by kernel_rfl) (Said.keep ?keep) ⟨slot_kept hd1 (bdn (Below.refl _ _) 1), slot_kept hd2 (bdn (Below.refl _ _) 1), slot_kept hd3 (bdn (Below.refl _ _) 1), hx.below (bdn (Below.refl _ _) 1), hy.below (bdn (Below.refl _ _) 1), bdn (Below.refl _ _) 1⟩ (l := [0, 1, 2, 3, 4, 5, 6]) (by kernel_rfl) ?step ?fin
            case keep =>
              refine List.forall_mem_cons.2 ⟨Is.keeps _, ?_⟩
              refine List.forall_mem_cons.2 ⟨Is.keeps _, ?_⟩
              refine List.forall_mem_cons.2 ⟨Is.keeps _, ?_⟩
              refine List.forall_mem_cons.2 ⟨Is.keeps _, ?_⟩
              refine List.forall_mem_cons.2 ⟨IsRN.keeps _ _, ?_⟩
              refine List.forall_mem_cons.2 ⟨Is.keeps _, ?_⟩
              refine List.forall_mem_cons.2 ⟨IsQZ.keeps _ _ _ _, ?_⟩
              exact fun _ h => nomatch h
            case step =>
              refine List.forall_mem_cons.2 ⟨?_, ?_⟩
              · refine SlotStep.plain rfl rfl rfl ?_
                intro tm ws hsame hS hg K hK
                have e2 : tm[2]? = some (.pointer (some ⟨w.heap.size, 0, none⟩)) := hsame.2 2 rfl
                go_simp
                exact hK _ _ (Below.refl _ _) hS rfl
              refine List.forall_mem_cons.2 ⟨?_, ?_⟩
              · refine SlotStep.plain rfl rfl rfl ?_
                intro tm ws hsame hS hg K hK
                obtain ⟨v53, e53, rfl⟩ := hg 0 (by kernel_rfl) _ 53 rfl rfl
                obtain ⟨⟨k0, k1, k2⟩, -⟩ := slot3 hS.1
                go_simp
                exact hK _ _ (Below.refl _ _) hS rfl
              refine List.forall_mem_cons.2 ⟨?_, ?_⟩
              · refine SlotStep.plain rfl rfl rfl ?_
                intro tm ws hsame hS hg K hK
                have e6 : tm[6]? = some (.slice ax nx cx) := hsame.2 6 rfl
                go_simp
                exact hK _ _ (Below.refl _ _) hS rfl
              refine List.forall_mem_cons.2 ⟨?_, ?_⟩
              · refine SlotStep.plain rfl rfl rfl ?_
                intro tm ws hsame hS hg K hK
                have e7 : tm[7]? = some (.slice ay ny cy) := hsame.2 7 rfl
                go_simp
                exact hK _ _ (Below.refl _ _) hS rfl
              refine List.forall_mem_cons.2 ⟨?_, ?_⟩
              · refine SlotStep.plain rfl rfl rfl ?_
                intro tm ws hsame hS hg K hK
                obtain ⟨v55, e55, rfl⟩ := hg 2 (by kernel_rfl) _ 55 rfl rfl
                obtain ⟨v56, e56, rfl⟩ := hg 3 (by kernel_rfl) _ 56 rfl rfl
                go_simp
                refine (rsub_num hS.2.2.2.1 hS.2.2.2.2.1 hle (by omega)).mono ?_
                rintro e wm ⟨aR, nR, cR, rfl, hR, hb⟩
                exact hK _ _ hb (⟨slot_kept hS.1 (hb), slot_kept hS.2.1 (hb), slot_kept hS.2.2.1 (hb), hS.2.2.2.1.below (hb), hS.2.2.2.2.1.below (hb), hS.2.2.2.2.2.trans (Below.mono (hb) hS.2.2.2.2.2.size)⟩) ⟨aR, nR, cR, rfl, hR.mono (Nat.le_of_lt hPP)⟩
              refine List.forall_mem_cons.2 ⟨?_, ?_⟩
              · refine SlotStep.plain rfl rfl rfl ?_
                intro tm ws hsame hS hg K hK
                have e5 : tm[5]? = some (.int .i64 (e : Int)) := hsame.2 5 rfl
                go_simp
                exact hK _ _ (Below.refl _ _) hS rfl
              refine List.forall_mem_cons.2 ⟨?_, ?_⟩
              · refine SlotStep.plain rfl rfl rfl ?_
                intro tm ws hsame hS hg K hK
                obtain ⟨v54, e54, rfl⟩ := hg 1 (by kernel_rfl) _ 54 rfl rfl
                obtain ⟨v57, e57, ⟨a57, n57, c57, rfl, g57⟩⟩ := hg 4 (by kernel_rfl) _ 57 rfl rfl
                obtain ⟨v58, e58, rfl⟩ := hg 5 (by kernel_rfl) _ 58 rfl rfl
                go_simp
                refine (qmake_num L p e hee hes hLs g57 (by omega) hL9 hP).mono ?_
                rintro e wm ⟨pR, aR, nR, cR, ER, rfl, hR, hb⟩
                exact hK _ _ hb (⟨slot_kept hS.1 (hb), slot_kept hS.2.1 (hb), slot_kept hS.2.2.1 (hb), hS.2.2.2.1.below (hb), hS.2.2.2.2.1.below (hb), hS.2.2.2.2.2.trans (Below.mono (hb) hS.2.2.2.2.2.size)⟩) ⟨pR, aR, nR, cR, ER, rfl, hR⟩
              exact fun _ h => nomatch h
            case fin =>
              intro tm wT hsame hS hgot
              obtain ⟨u, hu, htm⟩ := hsame.form (by kernel_rfl)
              obtain ⟨vT, eT, pR, aR, nR, cR, ER, rfl, hr⟩ := hgot 6 (by decide) _ 59 rfl rfl
              have hT := hu _ _ eT
              obtain ⟨-, -, hblk, -, -, hbT⟩ := hS
              obtain ⟨⟨q0, q1, q2⟩, f0, f1, f2⟩ := slot3 hblk
              have hend := slot3_set (u := .bool pR) (v := .slice aR nR cR) (s := .int .i64 (ER : Int)) hblk
              have hon := slot3_only (w := wT) (g := w2.heap.size) (.bool pR) (.slice aR nR cR) (.int .i64 (ER : Int))
              have hr' := ((hr.var hblk hon).eq HV.out).mono (Nat.le_refl _) (Nat.le_refl s)
              have hbz := hbw9.trans (hbT.mono hbw9.size)
              have HR : Hid (RetQZ L w (Zx + Zy) P s (.returned (.agg #[.bool pR, .slice aR nR cR, .int .i64 (ER : Int)])) (((wT.setCell ⟨w2.heap.size, 0, none⟩ (.bool pR)).setCell ⟨w2.heap.size, 1, none⟩ (.slice aR nR cR)).setCell ⟨w2.heap.size, 2, none⟩ (.int .i64 (ER : Int)))) :=
                Lib.hid ⟨pR, aR, nR, cR, ER, rfl, hr', hbz.trans (hon.below hb2.size hbz.size)⟩
              clear hgot hu hsame eT hr hr'
              rw [htm]
              clear htm tm
              simp only [List.foldl_cons, List.foldl_nil, List.setIfInBounds_toArray, List.set_cons_zero, List.set_cons_succ, hT, List.drop_succ_cons, List.drop_zero]
              clear hT
              go_wp2_with fail
              exact bodyPost_ret (results_cell_row rfl _ _ w2.heap.size 31 _ (0, 0) _ rfl hend Tryd.underlying31 rfl (by kernel_rfl)) rfl HR.out
          · have hlt : X < Y := by omega
            have hs3 : cmpI X Y = -1 := cmpI_lt hlt
            have HV := Lib.hid (rz_diff' hpq HZX.out HZY.out)
            have HLE : Hid (X ≤ Y) := Lib.hid (Int.le_of_lt hlt)
            clear hpq HZX HZY hle hlt
            go_wp2_with fail
            refine (rcmp_num hx hy).mono ?_
            rw [hs3]
            rintro e' w9 ⟨rfl, hb9⟩
            have hle := HLE.out
            replace hd1 := slot_kept hd1 hb9
            replace hd2 := slot_kept hd2 hb9
            replace hd3 := slot_kept hd3 hb9
            replace hx := hx.below hb9
            replace hy := hy.below hb9
            have hbw9 := hbw8.trans (hb9.mono hbw8.size)
            clear hb9 kx0 kx1 kx2 ky0 ky1 ky2
            go_upto_region 11 with fail
            refine wp_region_slots_tail (by kernel_rfl) 7 [60, 61, 62, 63, 64, 65, 66] (fun w' => w'.heap[w.heap.size]? = some (.cells #[.bool p, .slice a n c, .int .i64 (E : Int)] 31 (0, 0)) ∧ w'.heap[w1.heap.size]? = some (.cells #[.bool q, .slice a2 n2 c2, .int .i64 (G : Int)] 31 (0, 0)) ∧ w'.heap[w2.heap.size]? = some (.cells #[.bool false, .slice none 0 0, .int .i64 0] 31 (0, 0)) ∧ RN w' (.slice ax nx cx) X P0 ∧ RN w' (.slice ay ny cy) Y P0 ∧ Below w9.heap.size w9 w') (Said [Is (.pointer (some ⟨w1.heap.size, 0, none⟩)), Is (.bool q), Is (.slice ay ny cy), Is (.slice ax nx cx), IsRN (Y - X) P, Is (.int .i64 (e : Int)), IsQZ L (sg q (Y - X) * 2 ^ en) P s]) (by kernel_rfl) (by kernel_rfl) (by kernel_rfl) (by kernel_rfl) (by kernel_rfl) (Said.keep ?keep) ⟨slot_kept hd1 (bdn (Below.refl _ _) 1), slot_kept hd2 (bdn (Below.refl _ _) 1), slot_kept hd3 (bdn (Below.refl _ _) 1), hx.below (bdn (Below.refl _ _) 1), hy.below (bdn (Below.refl _ _) 1), bdn (Below.refl _ _) 1⟩ (l := [0, 1, 2, 3, 4, 5, 6]) (by kernel_rfl) ?step ?fin
            case keep =>
              refine List.forall_mem_cons.2 ⟨Is.keeps _, ?_⟩
              refine List.forall_mem_cons.2 ⟨Is.keeps _, ?_⟩
              refine List.forall_mem_cons.2 ⟨Is.keeps _, ?_⟩
              refine List.forall_mem_cons.2 ⟨Is.keeps _, ?_⟩
              refine List.forall_mem_cons.2 ⟨IsRN.keeps _ _, ?_⟩
              refine List.forall_mem_cons.2 ⟨Is.keeps _, ?_⟩
              refine List.forall_mem_cons.2 ⟨IsQZ.keeps _ _ _ _, ?_⟩
              exact fun _ h => nomatch h
            case step =>
              refine List.forall_mem_cons.2 ⟨?_, ?_⟩
              · refine SlotStep.plain rfl rfl rfl ?_
                intro tm ws hsame hS hg K hK
                have e3 : tm[3]? = some (.pointer (some ⟨w1.heap.size, 0, none⟩)) := hsame.2 3 rfl
                go_simp
                exact hK _ _ (Below.refl _ _) hS rfl
              refine List.forall_mem_cons.2 ⟨?_, ?_⟩
              · refine SlotStep.plain rfl rfl rfl ?_
                intro tm ws hsame hS hg K hK
                obtain ⟨v60, e60, rfl⟩ := hg 0 (by kernel_rfl) _ 60 rfl rfl
                obtain ⟨⟨k0, k1, k2⟩, -⟩ := slot3 hS.2.1
                go_simp
                exact hK _ _ (Below.refl _ _) hS rfl
              refine List.forall_mem_cons.2 ⟨?_, ?_⟩
              · refine SlotStep.plain rfl rfl rfl ?_
                intro tm ws hsame hS hg K hK
                have e7 : tm[7]? = some (.slice ay ny cy) := hsame.2 7 rfl
                go_simp
                exact hK _ _ (Below.refl _ _) hS rfl
              refine List.forall_mem_cons.2 ⟨?_, ?_⟩
              · refine SlotStep.plain rfl rfl rfl ?_
                intro tm ws hsame hS hg K hK
                have e6 : tm[6]? = some (.slice ax nx cx) := hsame.2 6 rfl
                go_simp
                exact hK _ _ (Below.refl _ _) hS rfl
              refine List.forall_mem_cons.2 ⟨?_, ?_⟩
              · refine SlotStep.plain rfl rfl rfl ?_
                intro tm ws hsame hS hg K hK
                obtain ⟨v62, e62, rfl⟩ := hg 2 (by kernel_rfl) _ 62 rfl rfl
                obtain ⟨v63, e63, rfl⟩ := hg 3 (by kernel_rfl) _ 63 rfl rfl
                go_simp
                refine (rsub_num hS.2.2.2.2.1 hS.2.2.2.1 hle (by omega)).mono ?_
                rintro e wm ⟨aR, nR, cR, rfl, hR, hb⟩
                exact hK _ _ hb (⟨slot_kept hS.1 (hb), slot_kept hS.2.1 (hb), slot_kept hS.2.2.1 (hb), hS.2.2.2.1.below (hb), hS.2.2.2.2.1.below (hb), hS.2.2.2.2.2.trans (Below.mono (hb) hS.2.2.2.2.2.size)⟩) ⟨aR, nR, cR, rfl, hR.mono (Nat.le_of_lt hPP)⟩
              refine List.forall_mem_cons.2 ⟨?_, ?_⟩
              · refine SlotStep.plain rfl rfl rfl ?_
                intro tm ws hsame hS hg K hK
                have e5 : tm[5]? = some (.int .i64 (e : Int)) := hsame.2 5 rfl
                go_simp
                exact hK _ _ (Below.refl _ _) hS rfl
              refine List.forall_mem_cons.2 ⟨?_, ?_⟩
              · refine SlotStep.plain rfl rfl rfl ?_
                intro tm ws hsame hS hg K hK
                obtain ⟨v61, e61, rfl⟩ := hg 1 (by kernel_rfl) _ 61 rfl rfl
                obtain ⟨v64, e64, ⟨a64, n64, c64, rfl, g64⟩⟩ := hg 4 (by kernel_rfl) _ 64 rfl rfl
                obtain ⟨v65, e65, rfl⟩ := hg 5 (by kernel_rfl) _ 65 rfl rfl
                go_simp
                refine (qmake_num L q e hee hes hLs g64 (by omega) hL9 hP).mono ?_
                rintro e wm ⟨pR, aR, nR, cR, ER, rfl, hR, hb⟩
                exact hK _ _ hb (⟨slot_kept hS.1 (hb), slot_kept hS.2.1 (hb), slot_kept hS.2.2.1 (hb), hS.2.2.2.1.below (hb), hS.2.2.2.2.1.below (hb), hS.2.2.2.2.2.trans (Below.mono (hb) hS.2.2.2.2.2.size)⟩) ⟨pR, aR, nR, cR, ER, rfl, hR⟩
              exact fun _ h => nomatch h
            case fin =>
              intro tm wT hsame hS hgot
              obtain ⟨u, hu, htm⟩ := hsame.form (by kernel_rfl)
              obtain ⟨vT, eT, pR, aR, nR, cR, ER, rfl, hr⟩ := hgot 6 (by decide) _ 66 rfl rfl
              have hT := hu _ _ eT
              obtain ⟨-, -, hblk, -, -, hbT⟩ := hS
              obtain ⟨⟨q0, q1, q2⟩, f0, f1, f2⟩ := slot3 hblk
              have hend := slot3_set (u := .bool pR) (v := .slice aR nR cR) (s := .int .i64 (ER : Int)) hblk
              have hon := slot3_only (w := wT) (g := w2.heap.size) (.bool pR) (.slice aR nR cR) (.int .i64 (ER : Int))
              have hr' := ((hr.var hblk hon).eq HV.out).mono (Nat.le_refl _) (Nat.le_refl s)
              have hbz := hbw9.trans (hbT.mono hbw9.size)
              have HR : Hid (RetQZ L w (Zx + Zy) P s (.returned (.agg #[.bool pR, .slice aR nR cR, .int .i64 (ER : Int)])) (((wT.setCell ⟨w2.heap.size, 0, none⟩ (.bool pR)).setCell ⟨w2.heap.size, 1, none⟩ (.slice aR nR cR)).setCell ⟨w2.heap.size, 2, none⟩ (.int .i64 (ER : Int)))) :=
                Lib.hid ⟨pR, aR, nR, cR, ER, rfl, hr', hbz.trans (hon.below hb2.size hbz.size)⟩
              clear hgot hu hsame eT hr hr'
              rw [htm]
              clear htm tm
              simp only [List.foldl_cons, List.foldl_nil, List.setIfInBounds_toArray, List.set_cons_zero, List.set_cons_succ, hT, List.drop_succ_cons, List.drop_zero]
              clear hT
              go_wp2_with fail
              exact bodyPost_ret (results_cell_row rfl _ _ w2.heap.size 31 _ (0, 0) _ rfl hend Tryd.underlying31 rfl (by kernel_rfl)) rfl HR.out
end Go.Proofs.YtjmipbljoblnnaaDoor

namespace Go.Proofs.YtjmipbljoblnnaaDoor
open Go.RowKit
set_option maxRecDepth 100000 in
set_option maxHeartbeats 1200000 in
theorem qsub_num {L : Nat} {w : World} {p q : Bool} {a a2 : Option Addr} {n c n2 c2 : Nat} {E G : Int} {Zx Zy : Int} {m k b d : Nat} (P s : Nat) (hX : RQ L w (.agg #[.bool p, .slice a n c, .int .i64 (E : Int)]) Zx m b) (hY : RQ L w (.agg #[.bool q, .slice a2 n2 c2, .int .i64 (G : Int)]) Zy k d) (hmP : m + b / 32 + 1 < P) (hkP : k + (d + 32 * k) / 32 + 1 < P) (hP : P ≤ 10000) (hb : b ≤ 200000) (hd : d + 32 * k ≤ 200000) (hLb : L ≤ b) (hLd : L ≤ d) (hbS : b + 32 * P ≤ s) (hdS : d + 32 * k + 32 * P ≤ s) :
    Calls Tryd.prog 10 #[.agg #[.bool p, .slice a n c, .int .i64 (E : Int)], .agg #[.bool q, .slice a2 n2 c2, .int .i64 (G : Int)]] w fun e w' => RetQZ L w (Zx - Zy) P s e w' := by
  obtain ⟨w1, hw1⟩ : ∃ w1, w.alloc (.cells #[.bool p, .slice a n c, .int .i64 (E : Int)] 31) = w1 := ⟨_, rfl⟩
  obtain ⟨w2, hw2⟩ : ∃ w2, w1.alloc (.cells #[.bool q, .slice a2 n2 c2, .int .i64 (G : Int)] 31) = w2 := ⟨_, rfl⟩
  obtain ⟨w3, hw3⟩ : ∃ w3, w2.alloc (.cells #[.bool false, .slice none 0 0, .int .i64 0] 31) = w3 := ⟨_, rfl⟩
  have hb1 : Below w.heap.size w w1 := hw1 ▸ below_alloc w _
  have hb12 : Below w1.heap.size w1 w2 := hw2 ▸ below_alloc w1 _
  have hb23 : Below w2.heap.size w2 w3 := hw3 ▸ below_alloc w2 _
  have hb2 : Below w.heap.size w w2 := hb1.trans (hb12.mono hb1.size)
  have hb3 : Below w.heap.size w w3 := hb2.trans (hb23.mono hb2.size)
  have hc1 : w3.heap[w.heap.size]? = some (.cells #[.bool p, .slice a n c, .int .i64 (E : Int)] 31 (0, 0)) := slot_kept (slot_kept (hw1 ▸ heap_alloc_new w _) hb12) hb23
  have hc2 : w3.heap[w1.heap.size]? = some (.cells #[.bool q, .slice a2 n2 c2, .int .i64 (G : Int)] 31 (0, 0)) := slot_kept (hw2 ▸ heap_alloc_new w1 _) hb23
  have hc3 : w3.heap[w2.heap.size]? = some (.cells #[.bool false, .slice none 0 0, .int .i64 0] 31 (0, 0)) := hw3 ▸ heap_alloc_new w2 _
  replace hX := hX.below hb3
  replace hY := hY.below hb3
  clear hb12 hb23
  go_enter Tryd.func10, Tryd.ntmps10
  go_upto_region 1 with fail
  refine wp_region_slots_tail (by kernel_rfl) 4 [5, 6, 7, 8] (fun w' => w'.heap[w.heap.size]? = some (.cells #[.bool p, .slice a n c, .int .i64 (E : Int)] 31 (0, 0)) ∧ w'.heap[w1.heap.size]? = some (.cells #[.bool q, .slice a2 n2 c2, .int .i64 (G : Int)] 31 (0, 0)) ∧ w'.heap[w2.heap.size]? = some (.cells #[.bool false, .slice none 0 0, .int .i64 0] 31 (0, 0)) ∧ RQ L w' (.agg #[.bool p, .slice a n c, .int .i64 (E : Int)]) Zx m b ∧ RQ L w' (.agg #[.bool q, .slice a2 n2 c2, .int .i64 (G : Int)]) Zy k d ∧ Below w3.heap.size w3 w') (Said [Is (.agg #[.bool p, .slice a n c, .int .i64 (E : Int)]), Is (.agg #[.bool q, .slice a2 n2 c2, .int .i64 (G : Int)]), IsQZ L (-Zy) k (d + 32 * k), IsQZ L (Zx + -Zy) P s]) (by kernel_rfl) (by kernel_rfl) (by kernel_rfl) (by kernel_rfl) (by kernel_rfl) (Said.keep ?keep) ⟨slot_kept hc1 (bdn (Below.refl _ _) 1), slot_kept hc2 (bdn (Below.refl _ _) 1), slot_kept hc3 (bdn (Below.refl _ _) 1), hX.below (bdn (Below.refl _ _) 1), hY.below (bdn (Below.refl _ _) 1), bdn (Below.refl _ _) 1⟩ (l := [0, 1, 2, 3]) (by kernel_rfl) ?step ?fin
  case keep =>
    refine List.forall_mem_cons.2 ⟨Is.keeps _, ?_⟩
    refine List.forall_mem_cons.2 ⟨Is.keeps _, ?_⟩
    refine List.forall_mem_cons.2 ⟨IsQZ.keeps _ _ _ _, ?_⟩
    refine List.forall_mem_cons.2 ⟨IsQZ.keeps _ _ _ _, ?_⟩
    exact fun _ h => nomatch h
  case step =>
    refine List.forall_mem_cons.2 ⟨?_, ?_⟩
    · refine SlotStep.plain rfl rfl rfl ?_
      intro tm ws hsame hS hg K hK
      have e2 : tm[2]? = some (.pointer (some ⟨w.heap.size, 0, none⟩)) := hsame.2 2 rfl
      obtain ⟨⟨k0, k1, k2⟩, -⟩ := slot3 hS.1
      go_simp
      exact hK _ _ (Below.refl _ _) hS rfl
    refine List.forall_mem_cons.2 ⟨?_, ?_⟩
    · refine SlotStep.plain rfl rfl rfl ?_
      intro tm ws hsame hS hg K hK
      have e3 : tm[3]? = some (.pointer (some ⟨w1.heap.size, 0, none⟩)) := hsame.2 3 rfl
      obtain ⟨⟨k0, k1, k2⟩, -⟩ := slot3 hS.2.1
      go_simp
      exact hK _ _ (Below.refl _ _) hS rfl
    refine List.forall_mem_cons.2 ⟨?_, ?_⟩
    · refine SlotStep.plain rfl rfl rfl ?_
      intro tm ws hsame hS hg K hK
      obtain ⟨v6, e6, rfl⟩ := hg 1 (by kernel_rfl) _ 6 rfl rfl
      go_simp
      refine (qnot_num hS.2.2.2.2.1 (by omega) (by omega) (by omega)).mono ?_
      rintro e wm ⟨pR, aR, nR, cR, ER, rfl, hR, hb⟩
      exact hK _ _ hb (⟨slot_kept hS.1 (hb), slot_kept hS.2.1 (hb), slot_kept hS.2.2.1 (hb), hS.2.2.2.1.below (hb), hS.2.2.2.2.1.below (hb), hS.2.2.2.2.2.trans (Below.mono (hb) hS.2.2.2.2.2.size)⟩) ⟨pR, aR, nR, cR, ER, rfl, hR⟩
    refine List.forall_mem_cons.2 ⟨?_, ?_⟩
    · refine SlotStep.plain rfl rfl rfl ?_
      intro tm ws hsame hS hg K hK
      obtain ⟨v5, e5, rfl⟩ := hg 0 (by kernel_rfl) _ 5 rfl rfl
      obtain ⟨v7, e7, ⟨p7, a7, n7, c7, E7, rfl, g7⟩⟩ := hg 2 (by kernel_rfl) _ 7 rfl rfl
      go_simp
      refine (qadd_num P s hS.2.2.2.1 g7 hmP hkP hP hb hd hLb hbS hdS).mono ?_
      rintro e wm ⟨pR, aR, nR, cR, ER, rfl, hR, hb⟩
      exact hK _ _ hb (⟨slot_kept hS.1 (hb), slot_kept hS.2.1 (hb), slot_kept hS.2.2.1 (hb), hS.2.2.2.1.below (hb), hS.2.2.2.2.1.below (hb), hS.2.2.2.2.2.trans (Below.mono (hb) hS.2.2.2.2.2.size)⟩) ⟨pR, aR, nR, cR, ER, rfl, hR⟩
    exact fun _ h => nomatch h
  case fin =>
    intro tm w8 hsame hS hgot
    obtain ⟨u, hu, htm⟩ := hsame.form (by kernel_rfl)
    obtain ⟨v8, e8, pR, aR, nR, cR, ER, rfl, hr⟩ := hgot 3 (by decide) _ 8 rfl rfl
    have h8 := hu _ _ e8
    obtain ⟨-, -, hblk, -, -, hb8⟩ := hS
    obtain ⟨⟨q0, q1, q2⟩, f0, f1, f2⟩ := slot3 hblk
    have hend := slot3_set (u := .bool pR) (v := .slice aR nR cR) (s := .int .i64 (ER : Int)) hblk
    have hon := slot3_only (w := w8) (g := w2.heap.size) (.bool pR) (.slice aR nR cR) (.int .i64 (ER : Int))
    have hr' := (hr.var hblk hon).eq (Int.sub_eq_add_neg).symm
    have hbw := hb3.trans (hb8.mono hb3.size)
    have HR : Hid (RetQZ L w (Zx - Zy) P s (.returned (.agg #[.bool pR, .slice aR nR cR, .int .i64 (ER : Int)])) (((w8.setCell ⟨w2.heap.size, 0, none⟩ (.bool pR)).setCell ⟨w2.heap.size, 1, none⟩ (.slice aR nR cR)).setCell ⟨w2.heap.size, 2, none⟩ (.int .i64 (ER : Int)))) :=
      Lib.hid ⟨pR, aR, nR, cR, ER, rfl, hr', hbw.trans (hon.below hb2.size hbw.size)⟩
    clear hgot hu hsame e8 hr hr'
    rw [htm]
    clear htm tm
    simp only [List.foldl_cons, List.foldl_nil, List.setIfInBounds_toArray, List.set_cons_zero, List.set_cons_succ, h8, List.drop_succ_cons, List.drop_zero]
    clear h8
    go_wp2_with fail
    exact bodyPost_ret (results_cell_row rfl _ _ w2.heap.size 31 _ (0, 0) _ rfl hend Tryd.underlying31 rfl (by kernel_rfl)) rfl HR.out
theorem cmp_qtops {L : Nat} {Zx Zy s T1 T2 : Int} (hx : cmpI Zx 0 = s) (hy : cmpI Zy 0 = s) (hs : ¬s = 0) (h1 : rqtop L Zx = T1) (h2 : rqtop L Zy = T2) (hT : ¬T1 = T2) : cmpI Zx Zy = if (decide (T1 < T2) == decide (0 < s)) = true then -1 else 1 := by
  have hx' := sign_tri hx
  have hy' := sign_tri hy
  unfold rqtop at h1 h2
  rw [if_neg (by omega)] at h1 h2
  have e : decide (T1 < T2) = decide (nb (absI Zx) < nb (absI Zy)) := by rw [decide_eq_decide]; omega
  rw [e]
  exact cmp_tops hx hy hs rfl rfl (by omega)
set_option maxRecDepth 100000 in
set_option maxHeartbeats 1200000 in
theorem qcmp_num {L : Nat} {w : World} {p q : Bool} {a a2 : Option Addr} {n c n2 c2 : Nat} {E G : Int} {Zx Zy : Int} {m k b d : Nat} (P : Nat) (hX : RQ L w (.agg #[.bool p, .slice a n c, .int .i64 (E : Int)]) Zx m b) (hY : RQ L w (.agg #[.bool q, .slice a2 n2 c2, .int .i64 (G : Int)]) Zy k d) (hmP : m + b / 32 + 1 < P) (hkP : k + (d + 32 * k) / 32 + 1 < P) (hP : P ≤ 10000) (hb : b ≤ 200000) (hd : d + 32 * k ≤ 200000) (hLb : L ≤ b) (hLd : L ≤ d) :
    Calls Tryd.prog 20 #[.agg #[.bool p, .slice a n c, .int .i64 (E : Int)], .agg #[.bool q, .slice a2 n2 c2, .int .i64 (G : Int)]] w fun e w' => RetV w (.int .i64 (cmpI Zx Zy)) e w' := by
  obtain ⟨r, hr⟩ : ∃ r, b + d + 32 * k + 32 * P = r := ⟨_, rfl⟩
  have hbS : b + 32 * P ≤ r := by omega
  have hdS : d + 32 * k + 32 * P ≤ r := by omega
  have hb9 : b ≤ 1000000 := by omega
  have hd9 : d ≤ 1000000 := by omega
  have hm9 : m ≤ 10000 := by omega
  have hk9 : k ≤ 10000 := by omega
  clear hr
  obtain ⟨s, hsx⟩ : ∃ s, cmpI Zx 0 = s := ⟨_, rfl⟩
  obtain ⟨t, hsy⟩ : ∃ t, cmpI Zy 0 = t := ⟨_, rfl⟩
  obtain ⟨w1, hw1⟩ : ∃ w1, w.alloc (.cells #[.bool p, .slice a n c, .int .i64 (E : Int)] 31) = w1 := ⟨_, rfl⟩
  obtain ⟨w2, hw2⟩ : ∃ w2, w1.alloc (.cells #[.bool q, .slice a2 n2 c2, .int .i64 (G : Int)] 31) = w2 := ⟨_, rfl⟩
  have hb1 : Below w.heap.size w w1 := hw1 ▸ below_alloc w _
  have hb12 : Below w1.heap.size w1 w2 := hw2 ▸ below_alloc w1 _
  have hbw2 : Below w.heap.size w w2 := hb1.trans (hb12.mono hb1.size)
  have hc1 : w2.heap[w.heap.size]? = some (.cells #[.bool p, .slice a n c, .int .i64 (E : Int)] 31 (0, 0)) := slot_kept (hw1 ▸ heap_alloc_new w _) hb12
  have hc2 : w2.heap[w1.heap.size]? = some (.cells #[.bool q, .slice a2 n2 c2, .int .i64 (G : Int)] 31 (0, 0)) := hw2 ▸ heap_alloc_new w1 _
  replace hX := hX.below hbw2
  replace hY := hY.below hbw2
  clear hb12
  go_enter Tryd.func20, Tryd.ntmps20
  go_upto_region 1 with fail
  refine wp_region_slots (by kernel_rfl) [7, 8, 9, 10, 5, 6] (fun w' => w'.heap[w.heap.size]? = some (.cells #[.bool p, .slice a n c, .int .i64 (E : Int)] 31 (0, 0)) ∧ w'.heap[w1.heap.size]? = some (.cells #[.bool q, .slice a2 n2 c2, .int .i64 (G : Int)] 31 (0, 0)) ∧ RQ L w' (.agg #[.bool p, .slice a n c, .int .i64 (E : Int)]) Zx m b ∧ RQ L w' (.agg #[.bool q, .slice a2 n2 c2, .int .i64 (G : Int)]) Zy k d ∧ Below w2.heap.size w2 w') (Said [Is (.agg #[.bool p, .slice a n c, .int .i64 (E : Int)]), Is (.int .i64 s), Is (.agg #[.bool q, .slice a2 n2 c2, .int .i64 (G : Int)]), Is (.int .i64 t), Is (.int .i64 s), Is (.int .i64 t)]) (by kernel_rfl) (by kernel_rfl) (by kernel_rfl) (by kernel_rfl) (Said.keep ?keep) ⟨slot_kept hc1 (bdn (Below.refl _ _) 1), slot_kept hc2 (bdn (Below.refl _ _) 1), hX.below (bdn (Below.refl _ _) 1), hY.below (bdn (Below.refl _ _) 1), bdn (Below.refl _ _) 1⟩ (l := [0, 1, 2, 3, 4, 5]) (by kernel_rfl) ?step ?fin
  case keep =>
    refine List.forall_mem_cons.2 ⟨Is.keeps _, ?_⟩
    refine List.forall_mem_cons.2 ⟨Is.keeps _, ?_⟩
    refine List.forall_mem_cons.2 ⟨Is.keeps _, ?_⟩
    refine List.forall_mem_cons.2 ⟨Is.keeps _, ?_⟩
    refine List.forall_mem_cons.2 ⟨Is.keeps _, ?_⟩
    refine List.forall_mem_cons.2 ⟨Is.keeps _, ?_⟩
    exact fun _ h => nomatch h
  case step =>
    refine List.forall_mem_cons.2 ⟨?_, ?_⟩
    · refine SlotStep.plain rfl rfl rfl ?_
      intro tm ws hsame hS hg K hK
      have e2 : tm[2]? = some (.pointer (some ⟨w.heap.size, 0, none⟩)) := hsame.2 2 rfl
      obtain ⟨⟨k0, k1, k2⟩, -⟩ := slot3 hS.1
      go_simp
      exact hK _ _ (Below.refl _ _) hS rfl
    refine List.forall_mem_cons.2 ⟨?_, ?_⟩
    · refine SlotStep.plain rfl rfl rfl ?_
      intro tm ws hsame hS hg K hK
      obtain ⟨v7, e7, rfl⟩ := hg 0 (by kernel_rfl) _ 7 rfl rfl
      go_simp
      refine (qsign_num hS.2.2.1).mono ?_
      rw [hsx]
      rintro e wm ⟨rfl, hb⟩
      exact hK _ _ hb (⟨slot_kept hS.1 (hb), slot_kept hS.2.1 (hb), hS.2.2.1.below (hb), hS.2.2.2.1.below (hb), hS.2.2.2.2.trans (Below.mono (hb) hS.2.2.2.2.size)⟩) rfl
    refine List.forall_mem_cons.2 ⟨?_, ?_⟩
    · refine SlotStep.plain rfl rfl rfl ?_
      intro tm ws hsame hS hg K hK
      have e3 : tm[3]? = some (.pointer (some ⟨w1.heap.size, 0, none⟩)) := hsame.2 3 rfl
      obtain ⟨⟨k0, k1, k2⟩, -⟩ := slot3 hS.2.1
      go_simp
      exact hK _ _ (Below.refl _ _) hS rfl
    refine List.forall_mem_cons.2 ⟨?_, ?_⟩
    · refine SlotStep.plain rfl rfl rfl ?_
      intro tm ws hsame hS hg K hK
      obtain ⟨v9, e9, rfl⟩ := hg 2 (by kernel_rfl) _ 9 rfl rfl
      go_simp
      refine (qsign_num hS.2.2.2.1).mono ?_
      rw [hsy]
      rintro e wm ⟨rfl, hb⟩
      exact hK _ _ hb (⟨slot_kept hS.1 (hb), slot_kept hS.2.1 (hb), hS.2.2.1.below (hb), hS.2.2.2.1.below (hb), hS.2.2.2.2.trans (Below.mono (hb) hS.2.2.2.2.size)⟩) rfl
    refine List.forall_mem_cons.2 ⟨?_, ?_⟩
    · refine SlotStep.plain rfl rfl rfl ?_
      intro tm ws hsame hS hg K hK
      obtain ⟨v8, e8, rfl⟩ := hg 1 (by kernel_rfl) _ 8 rfl rfl
      go_simp
      exact hK _ _ (Below.refl _ _) hS rfl
    refine List.forall_mem_cons.2 ⟨?_, ?_⟩
    · refine SlotStep.plain rfl rfl rfl ?_
      intro tm ws hsame hS hg K hK
      obtain ⟨v10, e10, rfl⟩ := hg 3 (by kernel_rfl) _ 10 rfl rfl
      go_simp
      exact hK _ _ (Below.refl _ _) hS rfl
    exact fun _ h => nomatch h
  case fin =>
    intro tm w4 hsame hS hgot
    obtain ⟨u, hu, htm⟩ := hsame.form (by kernel_rfl)
    obtain ⟨v5, e5, rfl⟩ := hgot 4 _ 5 rfl rfl
    have h5 := hu _ _ e5
    obtain ⟨v6, e6, rfl⟩ := hgot 5 _ 6 rfl rfl
    have h6 := hu _ _ e6
    obtain ⟨hc1, hc2, hX, hY, hbn⟩ := hS
    have hbw4 := hbw2.trans (hbn.mono hbw2.size)
    clear hbn hgot hu hsame e5 e6
    rw [htm]
    clear htm tm
    simp only [List.foldl_cons, List.foldl_nil, List.setIfInBounds_toArray, List.set_cons_zero, List.set_cons_succ, h5, h6]
    clear h5 h6
    rcases Int.lt_trichotomy s t with hst | hst | hst
    · have HR := Lib.hid (zcmp_signs hsx hsy hst)
      have hne : (s == t) = false := by simp; omega
      clear hsx hsy
      go_wp2_with fail
      go_ret
      exact ⟨by rw [HR.out]; rfl, hbw4⟩
    · subst hst
      by_cases hsn : s = 0
      · have HR : Hid (cmpI Zx Zy = 0) := Lib.hid (zcmp_zeros hsx hsy hsn hsn)
        have hs0 : (s == 0) = true := by simp; omega
        clear hsx hsy hsn
        go_wp2_with fail
        go_ret
        exact ⟨by rw [HR.out]; rfl, hbw4⟩
      · have hs0 : (s == 0) = false := by simp; omega
        obtain ⟨T1, hT1⟩ : ∃ T1, rqtop L Zx = T1 := ⟨_, rfl⟩
        obtain ⟨T2, hT2⟩ : ∃ T2, rqtop L Zy = T2 := ⟨_, rfl⟩
        have HT1 := Lib.hid hT1
        have HT2 := Lib.hid hT2
        clear hT1 hT2
        by_cases hT : T1 = T2
        · have hnq : ((T1 : Int) != (T2 : Int)) = false := by simp; omega
          clear hsx hsy hT hsn
          go_upto_region 8 with fail
          refine wp_region_slots (by kernel_rfl) [28, 29, 30, 31, 32, 27] (fun w' => w'.heap[w.heap.size]? = some (.cells #[.bool p, .slice a n c, .int .i64 (E : Int)] 31 (0, 0)) ∧ w'.heap[w1.heap.size]? = some (.cells #[.bool q, .slice a2 n2 c2, .int .i64 (G : Int)] 31 (0, 0)) ∧ RQ L w' (.agg #[.bool p, .slice a n c, .int .i64 (E : Int)]) Zx m b ∧ RQ L w' (.agg #[.bool q, .slice a2 n2 c2, .int .i64 (G : Int)]) Zy k d ∧ Below w4.heap.size w4 w') (Said [Is (.agg #[.bool p, .slice a n c, .int .i64 (E : Int)]), Is (.int .i64 (T1 : Int)), Is (.agg #[.bool q, .slice a2 n2 c2, .int .i64 (G : Int)]), Is (.int .i64 (T2 : Int)), Is (.bool false), Is (.bool false)]) (by kernel_rfl) (by kernel_rfl) (by kernel_rfl) (by kernel_rfl) (Said.keep ?keep) ⟨slot_kept hc1 (bdn (Below.refl _ _) 1), slot_kept hc2 (bdn (Below.refl _ _) 1), hX.below (bdn (Below.refl _ _) 1), hY.below (bdn (Below.refl _ _) 1), bdn (Below.refl _ _) 1⟩ (l := [0, 1, 2, 3, 4, 5]) (by kernel_rfl) ?step ?fin
          case keep =>
            refine List.forall_mem_cons.2 ⟨Is.keeps _, ?_⟩
            refine List.forall_mem_cons.2 ⟨Is.keeps _, ?_⟩
            refine List.forall_mem_cons.2 ⟨Is.keeps _, ?_⟩
            refine List.forall_mem_cons.2 ⟨Is.keeps _, ?_⟩
            refine List.forall_mem_cons.2 ⟨Is.keeps _, ?_⟩
            refine List.forall_mem_cons.2 ⟨Is.keeps _, ?_⟩
            exact fun _ h => nomatch h
          case step =>
            refine List.forall_mem_cons.2 ⟨?_, ?_⟩
            · refine SlotStep.plain rfl rfl rfl ?_
              intro tm ws hsame hS hg K hK
              have e2 : tm[2]? = some (.pointer (some ⟨w.heap.size, 0, none⟩)) := hsame.2 2 rfl
              obtain ⟨⟨k0, k1, k2⟩, -⟩ := slot3 hS.1
              go_simp
              exact hK _ _ (Below.refl _ _) hS rfl
            refine List.forall_mem_cons.2 ⟨?_, ?_⟩
            · refine SlotStep.plain rfl rfl rfl ?_
              intro tm ws hsame hS hg K hK
              obtain ⟨v28, e28, rfl⟩ := hg 0 (by kernel_rfl) _ 28 rfl rfl
              go_simp
              refine (qtop_num hS.2.2.1 hb9 hLb hm9).mono ?_
              rw [HT1.out]
              rintro e wm ⟨rfl, hb⟩
              exact hK _ _ hb (⟨slot_kept hS.1 (hb), slot_kept hS.2.1 (hb), hS.2.2.1.below (hb), hS.2.2.2.1.below (hb), hS.2.2.2.2.trans (Below.mono (hb) hS.2.2.2.2.size)⟩) rfl
            refine List.forall_mem_cons.2 ⟨?_, ?_⟩
            · refine SlotStep.plain rfl rfl rfl ?_
              intro tm ws hsame hS hg K hK
              have e3 : tm[3]? = some (.pointer (some ⟨w1.heap.size, 0, none⟩)) := hsame.2 3 rfl
              obtain ⟨⟨k0, k1, k2⟩, -⟩ := slot3 hS.2.1
              go_simp
              exact hK _ _ (Below.refl _ _) hS rfl
            refine List.forall_mem_cons.2 ⟨?_, ?_⟩
            · refine SlotStep.plain rfl rfl rfl ?_
              intro tm ws hsame hS hg K hK
              obtain ⟨v30, e30, rfl⟩ := hg 2 (by kernel_rfl) _ 30 rfl rfl
              go_simp
              refine (qtop_num hS.2.2.2.1 hd9 hLd hk9).mono ?_
              rw [HT2.out]
              rintro e wm ⟨rfl, hb⟩
              exact hK _ _ hb (⟨slot_kept hS.1 (hb), slot_kept hS.2.1 (hb), hS.2.2.1.below (hb), hS.2.2.2.1.below (hb), hS.2.2.2.2.trans (Below.mono (hb) hS.2.2.2.2.size)⟩) rfl
            refine List.forall_mem_cons.2 ⟨?_, ?_⟩
            · refine SlotStep.plain rfl rfl rfl ?_
              intro tm ws hsame hS hg K hK
              obtain ⟨v29, e29, rfl⟩ := hg 1 (by kernel_rfl) _ 29 rfl rfl
              obtain ⟨v31, e31, rfl⟩ := hg 3 (by kernel_rfl) _ 31 rfl rfl
              go_simp
              exact hK _ _ (Below.refl _ _) hS (by first | rfl | exact congrArg Value.bool hnq)
            refine List.forall_mem_cons.2 ⟨?_, ?_⟩
            · refine SlotStep.plain rfl rfl rfl ?_
              intro tm ws hsame hS hg K hK
              obtain ⟨v32, e32, rfl⟩ := hg 4 (by kernel_rfl) _ 32 rfl rfl
              go_simp
              exact hK _ _ (Below.refl _ _) hS rfl
            exact fun _ h => nomatch h
          case fin =>
            intro tm w6 hsame hS hgot
            obtain ⟨u, hu, htm⟩ := hsame.form (by kernel_rfl)
            obtain ⟨v27, e27, rfl⟩ := hgot 5 _ 27 rfl rfl
            have h27 := hu _ _ e27
            obtain ⟨hc1, hc2, hX, hY, hbn⟩ := hS
            have hbw6 := hbw4.trans (hbn.mono hbw4.size)
            clear hbn hgot hu hsame e27
            rw [htm]
            clear htm tm
            simp only [List.foldl_cons, List.foldl_nil, List.setIfInBounds_toArray, List.set_cons_zero, List.set_cons_succ, h27]
            clear h27
            obtain ⟨⟨kx0, kx1, kx2⟩, -⟩ := slot3 hc1
            obtain ⟨⟨ky0, ky1, ky2⟩, -⟩ := slot3 hc2
            go_wp2_with fail
            refine (qsub_num P r hX hY hmP hkP hP hb hd hLb hLd hbS hdS).mono ?_
            rintro e w8 ⟨pR, aR, nR, cR, ER, rfl, hR, hb8⟩
            go_wp2_with fail
            refine (qsign_num hR).mono ?_
            rw [cmp_sub]
            rintro e w9 ⟨rfl, hb9'⟩
            go_wp2_with fail
            go_ret
            exact ⟨rfl, (hbw6.trans (hb8.mono hbw6.size)).trans (hb9'.mono (hbw6.trans (hb8.mono hbw6.size)).size)⟩
        · have hnq : ((T1 : Int) != (T2 : Int)) = true := by simp; omega
          go_upto_region 8 with fail
          refine wp_region_slots (by kernel_rfl) [28, 29, 30, 31, 32, 27] (fun w' => w'.heap[w.heap.size]? = some (.cells #[.bool p, .slice a n c, .int .i64 (E : Int)] 31 (0, 0)) ∧ w'.heap[w1.heap.size]? = some (.cells #[.bool q, .slice a2 n2 c2, .int .i64 (G : Int)] 31 (0, 0)) ∧ RQ L w' (.agg #[.bool p, .slice a n c, .int .i64 (E : Int)]) Zx m b ∧ RQ L w' (.agg #[.bool q, .slice a2 n2 c2, .int .i64 (G : Int)]) Zy k d ∧ Below w4.heap.size w4 w') (Said [Is (.agg #[.bool p, .slice a n c, .int .i64 (E : Int)]), Is (.int .i64 (T1 : Int)), Is (.agg #[.bool q, .slice a2 n2 c2, .int .i64 (G : Int)]), Is (.int .i64 (T2 : Int)), Is (.bool true), Is (.bool true)]) (by kernel_rfl) (by kernel_rfl) (by kernel_rfl) (by kernel_rfl) (Said.keep ?keep) ⟨slot_kept hc1 (bdn (Below.refl _ _) 1), slot_kept hc2 (bdn (Below.refl _ _) 1), hX.below (bdn (Below.refl _ _) 1), hY.below (bdn (Below.refl _ _) 1), bdn (Below.refl _ _) 1⟩ (l := [0, 1, 2, 3, 4, 5]) (by kernel_rfl) ?step ?fin
          case keep =>
            refine List.forall_mem_cons.2 ⟨Is.keeps _, ?_⟩
            refine List.forall_mem_cons.2 ⟨Is.keeps _, ?_⟩
            refine List.forall_mem_cons.2 ⟨Is.keeps _, ?_⟩
            refine List.forall_mem_cons.2 ⟨Is.keeps _, ?_⟩
            refine List.forall_mem_cons.2 ⟨Is.keeps _, ?_⟩
            refine List.forall_mem_cons.2 ⟨Is.keeps _, ?_⟩
            exact fun _ h => nomatch h
          case step =>
            refine List.forall_mem_cons.2 ⟨?_, ?_⟩
            · refine SlotStep.plain rfl rfl rfl ?_
              intro tm ws hsame hS hg K hK
              have e2 : tm[2]? = some (.pointer (some ⟨w.heap.size, 0, none⟩)) := hsame.2 2 rfl
              obtain ⟨⟨k0, k1, k2⟩, -⟩ := slot3 hS.1
              go_simp
              exact hK _ _ (Below.refl _ _) hS rfl
            refine List.forall_mem_cons.2 ⟨?_, ?_⟩
            · refine SlotStep.plain rfl rfl rfl ?_
              intro tm ws hsame hS hg K hK
              obtain ⟨v28, e28, rfl⟩ := hg 0 (by kernel_rfl) _ 28 rfl rfl
              go_simp
              refine (qtop_num hS.2.2.1 hb9 hLb hm9).mono ?_
              rw [HT1.out]
              rintro e wm ⟨rfl, hb⟩
              exact hK _ _ hb (⟨slot_kept hS.1 (hb), slot_kept hS.2.1 (hb), hS.2.2.1.below (hb), hS.2.2.2.1.below (hb), hS.2.2.2.2.trans (Below.mono (hb) hS.2.2.2.2.size)⟩) rfl
            refine List.forall_mem_cons.2 ⟨?_, ?_⟩
            · refine SlotStep.plain rfl rfl rfl ?_
              intro tm ws hsame hS hg K hK
              have e3 : tm[3]? = some (.pointer (some ⟨w1.heap.size, 0, none⟩)) := hsame.2 3 rfl
              obtain ⟨⟨k0, k1, k2⟩, -⟩ := slot3 hS.2.1
              go_simp
              exact hK _ _ (Below.refl _ _) hS rfl
            refine List.forall_mem_cons.2 ⟨?_, ?_⟩
            · refine SlotStep.plain rfl rfl rfl ?_
              intro tm ws hsame hS hg K hK
              obtain ⟨v30, e30, rfl⟩ := hg 2 (by kernel_rfl) _ 30 rfl rfl
              go_simp
              refine (qtop_num hS.2.2.2.1 hd9 hLd hk9).mono ?_
              rw [HT2.out]
              rintro e wm ⟨rfl, hb⟩
              exact hK _ _ hb (⟨slot_kept hS.1 (hb), slot_kept hS.2.1 (hb), hS.2.2.1.below (hb), hS.2.2.2.1.below (hb), hS.2.2.2.2.trans (Below.mono (hb) hS.2.2.2.2.size)⟩) rfl
            refine List.forall_mem_cons.2 ⟨?_, ?_⟩
            · refine SlotStep.plain rfl rfl rfl ?_
              intro tm ws hsame hS hg K hK
              obtain ⟨v29, e29, rfl⟩ := hg 1 (by kernel_rfl) _ 29 rfl rfl
              obtain ⟨v31, e31, rfl⟩ := hg 3 (by kernel_rfl) _ 31 rfl rfl
              go_simp
              exact hK _ _ (Below.refl _ _) hS (by first | rfl | exact congrArg Value.bool hnq)
            refine List.forall_mem_cons.2 ⟨?_, ?_⟩
            · refine SlotStep.plain rfl rfl rfl ?_
              intro tm ws hsame hS hg K hK
              obtain ⟨v32, e32, rfl⟩ := hg 4 (by kernel_rfl) _ 32 rfl rfl
              go_simp
              exact hK _ _ (Below.refl _ _) hS rfl
            exact fun _ h => nomatch h
          case fin =>
            intro tm w6 hsame hS hgot
            obtain ⟨u, hu, htm⟩ := hsame.form (by kernel_rfl)
            obtain ⟨v27, e27, rfl⟩ := hgot 5 _ 27 rfl rfl
            have h27 := hu _ _ e27
            obtain ⟨hc1, hc2, hX, hY, hbn⟩ := hS
            have hbw6 := hbw4.trans (hbn.mono hbw4.size)
            clear hbn hgot hu hsame e27
            rw [htm]
            clear htm tm
            simp only [List.foldl_cons, List.foldl_nil, List.setIfInBounds_toArray, List.set_cons_zero, List.set_cons_succ, h27]
            clear h27
            obtain ⟨bl, hbl⟩ : ∃ bl, decide (T1 < T2) = bl := ⟨_, rfl⟩
            obtain ⟨bs, hbs⟩ : ∃ bs, decide (0 < s) = bs := ⟨_, rfl⟩
            have HB : Hid (cmpI Zx Zy = if (bl == bs) = true then -1 else 1) := by show _ = _; rw [← hbl, ← hbs]; exact cmp_qtops hsx hsy hsn HT1.out HT2.out hT
            clear hsx hsy hsn hT
            go_upto_region 9 with fail
            refine wp_region_slots (by kernel_rfl) [33, 34, 35, 36, 37, 38, 39, 40] (fun w' => w'.heap[w.heap.size]? = some (.cells #[.bool p, .slice a n c, .int .i64 (E : Int)] 31 (0, 0)) ∧ w'.heap[w1.heap.size]? = some (.cells #[.bool q, .slice a2 n2 c2, .int .i64 (G : Int)] 31 (0, 0)) ∧ RQ L w' (.agg #[.bool p, .slice a n c, .int .i64 (E : Int)]) Zx m b ∧ RQ L w' (.agg #[.bool q, .slice a2 n2 c2, .int .i64 (G : Int)]) Zy k d ∧ Below w6.heap.size w6 w') (Said [Is (.agg #[.bool p, .slice a n c, .int .i64 (E : Int)]), Is (.int .i64 (T1 : Int)), Is (.agg #[.bool q, .slice a2 n2 c2, .int .i64 (G : Int)]), Is (.int .i64 (T2 : Int)), Is (.bool bl), Is (.int .i64 s), Is (.bool bs), Is (.bool (bl == bs))]) (by kernel_rfl) (by kernel_rfl) (by kernel_rfl) (by kernel_rfl) (Said.keep ?keep) ⟨slot_kept hc1 (bdn (Below.refl _ _) 1), slot_kept hc2 (bdn (Below.refl _ _) 1), hX.below (bdn (Below.refl _ _) 1), hY.below (bdn (Below.refl _ _) 1), bdn (Below.refl _ _) 1⟩ (l := [0, 1, 2, 3, 4, 5, 6, 7]) (by kernel_rfl) ?step ?fin
            case keep =>
              refine List.forall_mem_cons.2 ⟨Is.keeps _, ?_⟩
              refine List.forall_mem_cons.2 ⟨Is.keeps _, ?_⟩
              refine List.forall_mem_cons.2 ⟨Is.keeps _, ?_⟩
              refine List.forall_mem_cons.2 ⟨Is.keeps _, ?_⟩
              refine List.forall_mem_cons.2 ⟨Is.keeps _, ?_⟩
              refine List.forall_mem_cons.2 ⟨Is.keeps _, ?_⟩
              refine List.forall_mem_cons.2 ⟨Is.keeps _, ?_⟩
              refine List.forall_mem_cons.2 ⟨Is.keeps _, ?_⟩
              exact fun _ h => nomatch h
            case step =>
              refine List.forall_mem_cons.2 ⟨?_, ?_⟩
              · refine SlotStep.plain rfl rfl rfl ?_
                intro tm ws hsame hS hg K hK
                have e2 : tm[2]? = some (.pointer (some ⟨w.heap.size, 0, none⟩)) := hsame.2 2 rfl
                obtain ⟨⟨k0, k1, k2⟩, -⟩ := slot3 hS.1
                go_simp
                exact hK _ _ (Below.refl _ _) hS rfl
              refine List.forall_mem_cons.2 ⟨?_, ?_⟩
              · refine SlotStep.plain rfl rfl rfl ?_
                intro tm ws hsame hS hg K hK
                obtain ⟨v33, e33, rfl⟩ := hg 0 (by kernel_rfl) _ 33 rfl rfl
                go_simp
                refine (qtop_num hS.2.2.1 hb9 hLb hm9).mono ?_
                rw [HT1.out]
                rintro e wm ⟨rfl, hb⟩
                exact hK _ _ hb (⟨slot_kept hS.1 (hb), slot_kept hS.2.1 (hb), hS.2.2.1.below (hb), hS.2.2.2.1.below (hb), hS.2.2.2.2.trans (Below.mono (hb) hS.2.2.2.2.size)⟩) rfl
              refine List.forall_mem_cons.2 ⟨?_, ?_⟩
              · refine SlotStep.plain rfl rfl rfl ?_
                intro tm ws hsame hS hg K hK
                have e3 : tm[3]? = some (.pointer (some ⟨w1.heap.size, 0, none⟩)) := hsame.2 3 rfl
                obtain ⟨⟨k0, k1, k2⟩, -⟩ := slot3 hS.2.1
                go_simp
                exact hK _ _ (Below.refl _ _) hS rfl
              refine List.forall_mem_cons.2 ⟨?_, ?_⟩
              · refine SlotStep.plain rfl rfl rfl ?_
                intro tm ws hsame hS hg K hK
                obtain ⟨v35, e35, rfl⟩ := hg 2 (by kernel_rfl) _ 35 rfl rfl
                go_simp
                refine (qtop_num hS.2.2.2.1 hd9 hLd hk9).mono ?_
                rw [HT2.out]
                rintro e wm ⟨rfl, hb⟩
                exact hK _ _ hb (⟨slot_kept hS.1 (hb), slot_kept hS.2.1 (hb), hS.2.2.1.below (hb), hS.2.2.2.1.below (hb), hS.2.2.2.2.trans (Below.mono (hb) hS.2.2.2.2.size)⟩) rfl
              refine List.forall_mem_cons.2 ⟨?_, ?_⟩
              · refine SlotStep.plain rfl rfl rfl ?_
                intro tm ws hsame hS hg K hK
                obtain ⟨v34, e34, rfl⟩ := hg 1 (by kernel_rfl) _ 34 rfl rfl
                obtain ⟨v36, e36, rfl⟩ := hg 3 (by kernel_rfl) _ 36 rfl rfl
                go_simp
                exact hK _ _ (Below.refl _ _) hS (by first | rfl | exact congrArg Value.bool hbl)
              refine List.forall_mem_cons.2 ⟨?_, ?_⟩
              · refine SlotStep.plain rfl rfl rfl ?_
                intro tm ws hsame hS hg K hK
                have e5 : tm[5]? = some (.int .i64 s) := hsame.2 5 rfl
                go_simp
                exact hK _ _ (Below.refl _ _) hS rfl
              refine List.forall_mem_cons.2 ⟨?_, ?_⟩
              · refine SlotStep.plain rfl rfl rfl ?_
                intro tm ws hsame hS hg K hK
                obtain ⟨v38, e38, rfl⟩ := hg 5 (by kernel_rfl) _ 38 rfl rfl
                go_simp
                exact hK _ _ (Below.refl _ _) hS (by first | rfl | exact congrArg Value.bool hbs)
              refine List.forall_mem_cons.2 ⟨?_, ?_⟩
              · refine SlotStep.plain rfl rfl rfl ?_
                intro tm ws hsame hS hg K hK
                obtain ⟨v37, e37, rfl⟩ := hg 4 (by kernel_rfl) _ 37 rfl rfl
                obtain ⟨v39, e39, rfl⟩ := hg 6 (by kernel_rfl) _ 39 rfl rfl
                go_simp
                exact hK _ _ (Below.refl _ _) hS (by first | rfl | (cases bl <;> cases bs <;> rfl))
              exact fun _ h => nomatch h
            case fin =>
              intro tm w8 hsame hS hgot
              obtain ⟨u, hu, htm⟩ := hsame.form (by kernel_rfl)
              obtain ⟨v40, e40, rfl⟩ := hgot 7 _ 40 rfl rfl
              have h40 := hu _ _ e40
              obtain ⟨hc1, hc2, hX, hY, hbn⟩ := hS
              have hbw8 := hbw6.trans (hbn.mono hbw6.size)
              clear hbn hgot hu hsame e40
              rw [htm]
              clear htm tm
              simp only [List.foldl_cons, List.foldl_nil, List.setIfInBounds_toArray, List.set_cons_zero, List.set_cons_succ, h40]
              clear h40
              have hbr := HB.out
              cases hr : (bl == bs)
              · rw [hr] at hbr
                have HR : Hid (cmpI Zx Zy = 1) := Lib.hid hbr
                clear hbr
                go_wp2_with fail
                go_ret
                exact ⟨by rw [HR.out]; rfl, hbw8⟩
              · rw [hr] at hbr
                have HR : Hid (cmpI Zx Zy = -1) := Lib.hid hbr
                clear hbr
                go_wp2_with fail
                go_ret
                exact ⟨by rw [HR.out]; rfl, hbw8⟩
    · have HR := Lib.hid (zcmp_signs' hsx hsy hst)
      have hne : (s == t) = false := by simp; omega
      clear hsx hsy
      go_wp2_with fail
      go_ret
      exact ⟨by rw [HR.out]; rfl, hbw4⟩
end Go.Proofs.YtjmipbljoblnnaaDoor

namespace Go.Proofs.YtjmipbljoblnnaaDoor
open Go.RowKit
end Go.Proofs.YtjmipbljoblnnaaDoor

namespace Go.Proofs.YtjmipbljoblnnaaDoor
open Go.RowKit

end Go.Proofs.YtjmipbljoblnnaaDoor

namespace Go.Proofs.YtjmipbljoblnnaaDoor
open Go.RowKit

theorem neg_floor {N : Int} {k t : Nat} (hN : N ≠ 0) (ht : LowOf N t) : (-N) / 2 ^ k = if t < k then -(N / 2 ^ k + 1) else -(N / 2 ^ k) := by
  have hp := pow2_pos k
  rcases ht with ⟨h1, -⟩ | ⟨-, z, hz⟩
  · exact absurd h1 hN
  · by_cases hk : t < k
    · rw [if_pos hk]
      have e1 := Int.mul_ediv_add_emod N (2 ^ k)
      have e2 := Int.emod_lt_of_pos N hp
      have e3 := Int.emod_nonneg N (by omega : (2 : Int) ^ k ≠ 0)
      have hr : N % 2 ^ k ≠ 0 := by
        intro h0
        rw [h0, Int.add_zero] at e1
        obtain ⟨d, rfl⟩ := Nat.le.dest hk
        have hp2 : (2 : Int) ^ (t + 1 + d) = 2 ^ t * (2 * 2 ^ d) := by rw [Int.pow_add, Int.pow_succ]; grind
        rw [hz, hp2, Int.mul_assoc] at e1
        have hpt := pow2_pos t
        have e4 := Int.eq_of_mul_eq_mul_left (by omega) e1
        rw [Int.mul_assoc] at e4
        omega
      refine ((Int.ediv_emod_unique hp (r := 2 ^ k - N % 2 ^ k) (q := -(N / 2 ^ k + 1))).2 ⟨?_, by omega, by omega⟩).1
      rw [Int.mul_neg, Int.mul_add, Int.mul_one]
      omega
    · rw [if_neg hk]
      obtain ⟨d, rfl⟩ := Nat.le.dest (show k ≤ t by omega)
      have e : N = 2 ^ k * (2 ^ d * (2 * z + 1)) := by rw [hz, Int.pow_add, Int.mul_assoc]
      rw [e, ← Int.mul_neg, Int.mul_ediv_cancel_left _ (by omega), Int.mul_ediv_cancel_left _ (by omega)]

/-- An integer in its one form, as a value of package whole. -/
def WN (w : World) (v : Value) (Z : Int) (m : Nat) : Prop := ∃ p a n c N base, v = .agg #[.bool p, .slice a n c] ∧ NewN base w (.slice a n c) N m ∧ Z = sg p N ∧ (p = true → N ≠ 0)
theorem WN.below {w w' : World} {v : Value} {Z : Int} {m : Nat} (h : WN w v Z m) (hb : Below w.heap.size w w') : WN w' v Z m := by
  obtain ⟨p, a, n, c, N, base, h1, h2, h3, h4⟩ := h
  exact ⟨p, a, n, c, N, base, h1, h2.below hb, h3, h4⟩
theorem RetW.wn {w w' : World} {Z : Int} {m : Nat} {e : Ending} (h : RetW w Z m e w') : ∃ v, e = .returned v ∧ WN w' v Z m ∧ Below w.heap.size w w' := by
  obtain ⟨p, a, n, c, N, h1, h2, h3, h4, h5⟩ := h
  exact ⟨_, h1, ⟨p, a, n, c, N, _, rfl, h2, h3, h4⟩, h5⟩
end Go.Proofs.YtjmipbljoblnnaaDoor

namespace Go.Proofs.YtjmipbljoblnnaaDoor
open Go.RowKit

def IsWN (Z : Int) (m : Nat) (v : Value) (w : World) : Prop := WN w v Z m
theorem IsWN.keeps (Z : Int) (m : Nat) : Keeps (IsWN Z m) := fun _ _ _ hb h => h.below hb
end Go.Proofs.YtjmipbljoblnnaaDoor
