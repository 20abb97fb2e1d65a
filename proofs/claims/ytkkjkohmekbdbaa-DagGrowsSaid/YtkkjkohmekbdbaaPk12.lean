/-
  Whole2: Contracts of package whole: Cmp.
-/
import Derived.Test.YtkkjkohmekbdbaaPk11
import Derived.Deep.RegionWith

namespace Go.Proofs.Ytkkjkohmekbdbaa
open Go.RowKit

theorem cmpI_range (x y : Int) : cmpI x y = -1 ∨ cmpI x y = 0 ∨ cmpI x y = 1 := by
  rcases Int.lt_trichotomy x y with h | h | h
  · exact Or.inl (cmpI_lt h)
  · exact Or.inr (Or.inl (cmpI_eq h))
  · exact Or.inr (Or.inr (cmpI_gt h))
theorem cmpI_sign {x : Int} : (cmpI x 0 = -1 ↔ x < 0) ∧ (cmpI x 0 = 0 ↔ x = 0) ∧ (cmpI x 0 = 1 ↔ 0 < x) := by
  rcases Int.lt_trichotomy x 0 with h | h | h
  · rw [cmpI_lt h]; omega
  · rw [cmpI_eq h]; omega
  · rw [cmpI_gt h]; omega
/-- Signs that differ tell which one is greater. -/
theorem cmp_signs {x y : Int} (h : cmpI x 0 ≠ cmpI y 0) : cmpI (cmpI x 0) (cmpI y 0) = cmpI x y := by
  rcases Int.lt_trichotomy x 0 with a | a | a <;> rcases Int.lt_trichotomy y 0 with b | b | b
  · rw [cmpI_lt a, cmpI_lt b] at h; exact absurd rfl h
  · rw [cmpI_lt a, cmpI_eq b, cmpI_lt (show x < y by omega)]; decide
  · rw [cmpI_lt a, cmpI_gt b, cmpI_lt (show x < y by omega)]; decide
  · rw [cmpI_eq a, cmpI_lt b, cmpI_gt (show y < x by omega)]; decide
  · rw [cmpI_eq a, cmpI_eq b] at h; exact absurd rfl h
  · rw [cmpI_eq a, cmpI_gt b, cmpI_lt (show x < y by omega)]; decide
  · rw [cmpI_gt a, cmpI_lt b, cmpI_gt (show y < x by omega)]; decide
  · rw [cmpI_gt a, cmpI_eq b, cmpI_gt (show y < x by omega)]; decide
  · rw [cmpI_gt a, cmpI_gt b] at h; exact absurd rfl h
theorem cmp_amounts {n1 n2 : Bool} {A B : Int} (hA : 0 ≤ A) (hB : 0 ≤ B) (h : cmpI (sg n1 A) 0 = cmpI (sg n2 B) 0) : cmpI (sg n1 A) 0 * cmpI A B = cmpI (sg n1 A) (sg n2 B) := by
  have e := cmpI_sign (x := sg n1 A)
  have f := cmpI_sign (x := sg n2 B)
  rcases Int.lt_trichotomy (sg n1 A) 0 with a | a | a
  · have b : sg n2 B < 0 := f.1.1 (by rw [← h]; exact e.1.2 a)
    have h1 : n1 = true := by cases n1 with | true => rfl | false => rw [sg_false] at a; omega
    have h2 : n2 = true := by cases n2 with | true => rfl | false => rw [sg_false] at b; omega
    subst h1 h2
    rw [cmpI_lt a, sg_true, sg_true]
    rcases Int.lt_trichotomy A B with c | c | c
    · rw [cmpI_lt c, cmpI_gt (show -B < -A by omega)]; rfl
    · rw [cmpI_eq c, cmpI_eq (show -A = -B by omega)]; rfl
    · rw [cmpI_gt c, cmpI_lt (show -A < -B by omega)]; rfl
  · have b : sg n2 B = 0 := f.2.1.1 (by rw [← h]; exact e.2.1.2 a)
    rw [cmpI_eq a, cmpI_eq (show sg n1 A = sg n2 B by omega)]; omega
  · have b : 0 < sg n2 B := f.2.2.1 (by rw [← h]; exact e.2.2.2 a)
    have h1 : n1 = false := by cases n1 with | false => rfl | true => rw [sg_true] at a; omega
    have h2 : n2 = false := by cases n2 with | false => rfl | true => rw [sg_true] at b; omega
    subst h1 h2
    rw [cmpI_gt a, sg_false, sg_false]; omega

end Go.Proofs.Ytkkjkohmekbdbaa
