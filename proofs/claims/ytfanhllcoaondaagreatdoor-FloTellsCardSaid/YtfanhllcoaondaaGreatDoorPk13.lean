/-
  Whole2: Contracts of package whole: Cmp.
-/
import Derived.Test.YtfanhllcoaondaaGreatDoorPk12
import Derived.Deep.RegionWith

namespace Go.Proofs.YtfanhllcoaondaaGreatDoor
open Go.RowKit

set_option maxRecDepth 100000 in
theorem isnan_int (s : Int) (w : World) : Calls Tryz.prog 142 #[.int .i64 s] w fun e w' => e = .returned (.bool false) ∧ w = w' := by
  go_enter Tryz.func142, Tryz.ntmps142
  go_wp2_with fail
  go_ret
  exact ⟨by simp, rfl⟩

set_option maxRecDepth 100000 in
theorem compare_int (s t : Int) (w : World) : Calls Tryz.prog 101 #[.int .i64 s, .int .i64 t] w fun e w' => e = .returned (.int .i64 (cmpI s t)) ∧ w = w' := by
  have key : ∀ c, cmpI s t = c → Hid (cmpI s t = c) := fun c h => h
  rcases Int.lt_trichotomy s t with h | h | h
  · have hv := Lib.hid (cmpI_lt h)
    have h2 : ¬ t < s := by omega
    go_enter Tryz.func101, Tryz.ntmps101
    go_wp2_with (go_at_call 142; refine (isnan_int _ _).mono ?_; rintro e w' ⟨rfl, rfl⟩)
    go_ret
    exact ⟨by rw [hv.out]; rfl, rfl⟩
  · have hv := Lib.hid (cmpI_eq h)
    have h1 : ¬ s < t := by omega
    have h2 : ¬ t < s := by omega
    clear h
    go_enter Tryz.func101, Tryz.ntmps101
    go_wp2_with (go_at_call 142; refine (isnan_int _ _).mono ?_; rintro e w' ⟨rfl, rfl⟩)
    go_ret
    exact ⟨by rw [hv.out]; rfl, rfl⟩
  · have hv := Lib.hid (cmpI_gt h)
    have h1 : ¬ s < t := by omega
    go_enter Tryz.func101, Tryz.ntmps101
    go_wp2_with (go_at_call 142; refine (isnan_int _ _).mono ?_; rintro e w' ⟨rfl, rfl⟩)
    go_ret
    exact ⟨by rw [hv.out]; rfl, rfl⟩

theorem cmpI_range (x y : Int) : cmpI x y = -1 ∨ cmpI x y = 0 ∨ cmpI x y = 1 := by
  rcases Int.lt_trichotomy x y with h | h | h
  · exact Or.inl (cmpI_lt h)
  · exact Or.inr (Or.inl (cmpI_eq h))
  · exact Or.inr (Or.inr (cmpI_gt h))
theorem cmpI_sign {x : Int} : (cmpI x 0 = -1 ↔ x < 0) ∧ (cmpI x 0 = 0 ↔ x = 0) ∧ (cmpI x 0 = 1 ↔ 0 < x) := by
  rcases Int.lt_trichotomy x 0 with h | h | h
  · rw [cmpI_lt h]; omega
  · rw [cmpI_eq h]; omega
  · rw [cmpI_gt h]; omega
/-- Signs that differ tell which one is greater. -/
theorem cmp_signs {x y : Int} (h : cmpI x 0 ≠ cmpI y 0) : cmpI (cmpI x 0) (cmpI y 0) = cmpI x y := by
  rcases Int.lt_trichotomy x 0 with a | a | a <;> rcases Int.lt_trichotomy y 0 with b | b | b
  · rw [cmpI_lt a, cmpI_lt b] at h; exact absurd rfl h
  · rw [cmpI_lt a, cmpI_eq b, cmpI_lt (show x < y by omega)]; decide
  · rw [cmpI_lt a, cmpI_gt b, cmpI_lt (show x < y by omega)]; decide
  · rw [cmpI_eq a, cmpI_lt b, cmpI_gt (show y < x by omega)]; decide
  · rw [cmpI_eq a, cmpI_eq b] at h; exact absurd rfl h
  · rw [cmpI_eq a, cmpI_gt b, cmpI_lt (show x < y by omega)]; decide
  · rw [cmpI_gt a, cmpI_lt b, cmpI_gt (show y < x by omega)]; decide
  · rw [cmpI_gt a, cmpI_eq b, cmpI_gt (show y < x by omega)]; decide
  · rw [cmpI_gt a, cmpI_gt b] at h; exact absurd rfl h
theorem cmp_amounts {n1 n2 : Bool} {A B : Int} (hA : 0 ≤ A) (hB : 0 ≤ B) (h : cmpI (sg n1 A) 0 = cmpI (sg n2 B) 0) : cmpI (sg n1 A) 0 * cmpI A B = cmpI (sg n1 A) (sg n2 B) := by
  have e := cmpI_sign (x := sg n1 A)
  have f := cmpI_sign (x := sg n2 B)
  rcases Int.lt_trichotomy (sg n1 A) 0 with a | a | a
  · have b : sg n2 B < 0 := f.1.1 (by rw [← h]; exact e.1.2 a)
    have h1 : n1 = true := by cases n1 with | true => rfl | false => rw [sg_false] at a; omega
    have h2 : n2 = true := by cases n2 with | true => rfl | false => rw [sg_false] at b; omega
    subst h1 h2
    rw [cmpI_lt a, sg_true, sg_true]
    rcases Int.lt_trichotomy A B with c | c | c
    · rw [cmpI_lt c, cmpI_gt (show -B < -A by omega)]; rfl
    · rw [cmpI_eq c, cmpI_eq (show -A = -B by omega)]; rfl
    · rw [cmpI_gt c, cmpI_lt (show -A < -B by omega)]; rfl
  · have b : sg n2 B = 0 := f.2.1.1 (by rw [← h]; exact e.2.1.2 a)
    rw [cmpI_eq a, cmpI_eq (show sg n1 A = sg n2 B by omega)]; omega
  · have b : 0 < sg n2 B := f.2.2.1 (by rw [← h]; exact e.2.2.2 a)
    have h1 : n1 = false := by cases n1 with | false => rfl | true => rw [sg_true] at a; omega
    have h2 : n2 = false := by cases n2 with | false => rfl | true => rw [sg_true] at b; omega
    subst h1 h2
    rw [cmpI_gt a, sg_false, sg_false]; omega

set_option maxRecDepth 100000 in
set_option maxHeartbeats 1000000 in
theorem cmpw_num {w : World} (p q : Bool) {a : Option Addr} {n c : Nat} {A : Int} {m : Nat} {a' : Option Addr} {n' c' : Nat} {B : Int} {m' : Nat} (hA : Num w (.slice a n c) A m) (hB : Num w (.slice a' n' c') B m') (hm : m ≤ 100000) (hm' : m' ≤ 100000) :
    Calls Tryz.prog 103 #[.agg #[.bool p, .slice a n c], .agg #[.bool q, .slice a' n' c']] w fun e w' => RetV w (.int .i64 (cmpI (sg p A) (sg q B))) e w' := by
  have hb0 := below_alloc w (.cells #[.bool p, .slice a n c] 58)
  have hb1 := hb0.alloc (Nat.le_of_lt (by simp)) (.cells #[.bool q, .slice a' n' c'] 58)
  obtain ⟨s, hs⟩ : ∃ s, s = cmpI (sg p A) 0 := ⟨_, rfl⟩
  obtain ⟨t, ht⟩ : ∃ t, t = cmpI (sg q B) 0 := ⟨_, rfl⟩
  go_enter Tryz.func103, Tryz.ntmps103
  have hb2 : Below w.heap.size w ((w.alloc (.cells #[.bool p, .slice a n c] 58)).alloc (.cells #[.bool q, .slice a' n' c'] 58)).drew := bdn hb1 1
  have HA := hA.below hb2
  have HB := hB.below hb2
  have r0 : ((w.alloc (.cells #[.bool p, .slice a n c] 58)).alloc (.cells #[.bool q, .slice a' n' c'] 58)).drew.heap[w.heap.size]? = some (.cells #[.bool p, .slice a n c] 58 (0, 0)) := heap_alloc2_old w _ _
  have r1 : ((w.alloc (.cells #[.bool p, .slice a n c] 58)).alloc (.cells #[.bool q, .slice a' n' c'] 58)).drew.heap[w.heap.size + 1]? = some (.cells #[.bool q, .slice a' n' c'] 58 (0, 0)) := heap_alloc2_new w _ _
  have HS := Lib.hid hs
  have HT := Lib.hid ht
  clear hs ht hA hB
  go_wp2_with fail
  go_region_with (go_at_call 130; refine (sign_num _ (by first | exact HA | exact HB | exact HA.below (by assumption) | exact HB.below (by assumption)) (by assumption)).mono ?_; rintro e wn ⟨rfl, hbn⟩; have q0 := (by first | exact slot_kept r0 hbn | exact slot_kept (slot_kept r0 (by assumption)) hbn); have q1 := (by first | exact slot_kept r1 hbn | exact slot_kept (slot_kept r1 (by assumption)) hbn); obtain ⟨c0, c1, f0, f1⟩ := slot2 q0; obtain ⟨d0, d1, g0, g1⟩ := slot2 q1)
  all_goals (
    rename_i v2 hbv _ _ _ _ _ _ _ _ _ _
    obtain ⟨w2, hw2⟩ : ∃ w2, w2 = wn := ⟨_, rfl⟩
    have HA2 := (HA.below hbv).below hbn
    have HB2 := (HB.below hbv).below hbn
    have hbw := hb2.trans (hbv.mono hb2.size)
    replace hbw := hbw.trans (hbn.mono hbw.size)
    clear HA HB r0 r1 q0 q1 hbn hbv hw2
    rw [← HS.out, ← HT.out]
    have hr := cmpI_range (sg p A) 0
    rw [← HS.out] at hr
    have hAB := cmpI_range A B
    by_cases hst : s = t
    · subst hst
      have key := cmp_amounts (n1 := p) (n2 := q) HA2.nonneg HB2.nonneg (by rw [← HS.out, ← HT.out])
      rw [← HS.out] at key
      have HK := Lib.hid key
      obtain ⟨x, hx⟩ : ∃ x, x = cmpI A B := ⟨_, rfl⟩
      have hwr : IntKind.i64.wrap (s * x) = s * x := by
        rw [IntKind.wrap_i64, hx]
        rcases hr with h | h | h <;> rcases hAB with k | k | k <;> rw [h, k] <;> decide
      have HX := Lib.hid hx
      clear key hx hr hAB HS HT
      go_wp2_with fail
      refine (cmp_num HA2 HB2).mono ?_
      rintro e w3 ⟨rfl, hb3⟩
      rw [← HX.out]
      go_wp2_with fail
      go_ret
      exact ⟨by rw [← HK.out, HX.out]; rfl, hbw.trans (hb3.mono hbw.size)⟩
    · have key := cmp_signs (x := sg p A) (y := sg q B) (by rw [← HS.out, ← HT.out]; exact hst)
      rw [← HS.out, ← HT.out] at key
      have HK := Lib.hid key
      have hne : (s == t) = false := by simpa using hst
      clear key hr hAB HS HT
      go_wp2_with fail
      refine (compare_int s t _).mono ?_
      rintro e w' ⟨rfl, rfl⟩
      go_wp2_with fail
      go_ret
      exact ⟨by rw [HK.out]; rfl, hbw⟩)
end Go.Proofs.YtfanhllcoaondaaGreatDoor
