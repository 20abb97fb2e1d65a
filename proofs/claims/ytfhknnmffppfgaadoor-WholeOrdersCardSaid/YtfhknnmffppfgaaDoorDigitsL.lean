/-
  The walk of the statement WholeDigits.
-/
import Derived.Test.YtfhknnmffppfgaaDoorWholeT
import Derived.Test.YtfhknnmffppfgaaDoorAlive2
import Derived.Deep.RegionHeld3
import Derived.Deep.DrawnRows
namespace Go.Proofs.YtfhknnmffppfgaaDoor
open Go.RowKit
attribute [local go_sem ↓] Go.wp_at_zero Go.wp_at_succ

theorem rdi_one {w : World} {g : Nat} {q : Bool} {a : Option Addr} {n c : Nat} {B : Int} (h0 : w.cell? ⟨g, 0, none⟩ = some (.bool q)) (h1 : w.cell? ⟨g, 1, none⟩ = some (.slice a n c)) : RdI w (some ⟨g, 0, none⟩) [(q, .slice a n c, B)] := by
  intro ad had j u hu
  cases had
  match j, hu with
  | 0, hu =>
    have e : u = .bool q := by simpa [cel] using hu.symm
    rw [e]; exact h0
  | 1, hu =>
    have e : u = .slice a n c := by simpa [cel] using hu.symm
    rw [e]; exact h1
  | j + 2, hu => simp [cel] at hu

/-- What the region's loads read, and what its calls ask. -/
theorem held_below {g : Nat} {neg : Bool} {a : Option Addr} {n c : Nat} {N : Int} {w0 w w' : World} (hb : Below w.heap.size w w') (h : w.cell? ⟨g, 0, none⟩ = some (.bool neg) ∧ w.cell? ⟨g, 1, none⟩ = some (.slice a n c) ∧ Num w (.slice a n c) N 1 ∧ Below w0.heap.size w0 w) :
    w'.cell? ⟨g, 0, none⟩ = some (.bool neg) ∧ w'.cell? ⟨g, 1, none⟩ = some (.slice a n c) ∧ Num w' (.slice a n c) N 1 ∧ Below w0.heap.size w0 w' := by
  obtain ⟨h1, h2, h3, h4⟩ := h
  refine ⟨?_, ?_, h3.below hb, h4.trans (hb.mono h4.size)⟩
  · rw [hb.cell (p := ⟨g, 0, none⟩) (World.block_lt_of_cell? (a := ⟨g, 0, none⟩) _ h1)]; exact h1
  · rw [hb.cell (p := ⟨g, 1, none⟩) (World.block_lt_of_cell? (a := ⟨g, 1, none⟩) _ h2)]; exact h2

theorem held_num {g : Nat} {neg : Bool} {a : Option Addr} {n c : Nat} {N : Int} {w0 w : World} (h : w.cell? ⟨g, 0, none⟩ = some (.bool neg) ∧ w.cell? ⟨g, 1, none⟩ = some (.slice a n c) ∧ Num w (.slice a n c) N 1 ∧ Below w0.heap.size w0 w) : Num w (.slice a n c) N 1 := h.2.2.1

theorem held_base {g : Nat} {neg : Bool} {a : Option Addr} {n c : Nat} {N : Int} {w0 w : World} (h : w.cell? ⟨g, 0, none⟩ = some (.bool neg) ∧ w.cell? ⟨g, 1, none⟩ = some (.slice a n c) ∧ Num w (.slice a n c) N 1 ∧ Below w0.heap.size w0 w) : Below w0.heap.size w0 w := h.2.2.2

theorem mulw1_in {w : World} (p q : Bool) {a : Option Addr} {n c : Nat} {A : Int} {m : Nat} {a' : Option Addr} {n' c' : Nat} {B : Int} {g : Nat} (h0 : w.cell? ⟨g, 0, none⟩ = some (.bool q)) (h1 : w.cell? ⟨g, 1, none⟩ = some (.slice a' n' c')) (hA : Num w (.slice a n c) A m) (hB : Num w (.slice a' n' c') B m) (hm : m ≤ 90) :
    Calls Tryd.prog 53 #[.agg #[.bool p, .slice a n c], .slice (some ⟨g, 0, none⟩) 1 1] w fun e w' => RetW w (sg p A * sg q B) (2 * m) e w' := by
  refine (mulw_num p hA g 0 1 1 [(q, .slice a' n' c', B)] rfl (Nat.le_refl _) (rdi_one h0 h1) ?_ (by decide) hm).mono ?_
  · intro e he
    rw [List.mem_singleton] at he
    subst he
    exact ⟨a', n', c', rfl, hB⟩
  · intro e w' h
    simpa [zprod, prodl] using h
theorem addw1_in {w : World} (p q : Bool) {a : Option Addr} {n c : Nat} {A : Int} {m : Nat} {a' : Option Addr} {n' c' : Nat} {B : Int} {g : Nat} (h0 : w.cell? ⟨g, 0, none⟩ = some (.bool q)) (h1 : w.cell? ⟨g, 1, none⟩ = some (.slice a' n' c')) (hA : Num w (.slice a n c) A m) (hB : Num w (.slice a' n' c') B m) (hm : m ≤ 1000) :
    Calls Tryd.prog 49 #[.agg #[.bool p, .slice a n c], .slice (some ⟨g, 0, none⟩) 1 1] w fun e w' => RetW w (sg p A + sg q B) (m + 1) e w' := by
  refine (addw_num p hA (some ⟨g, 0, none⟩) 1 1 [(q, .slice a' n' c', B)] rfl (fun h => by cases h) (rdi_one h0 h1) ?_ (by simp) hm).mono ?_
  · intro e he
    rw [List.mem_singleton] at he
    subst he
    exact ⟨a', n', c', rfl, hB⟩
  · intro e w' h
    simpa [zsum] using h
theorem new_cell {w : World} {x y : Value} {t : TypeId} : (w.alloc (.cells #[x, y] t)).cell? ⟨w.heap.size, 0, none⟩ = some x ∧ (w.alloc (.cells #[x, y] t)).cell? ⟨w.heap.size, 1, none⟩ = some y := by
  constructor <;> rw [World.cell?_alloc_new] <;> rfl

theorem cell_after {w w' : World} {g j : Nat} {x : Value} (hb : Below w.heap.size w w') (h : w.cell? ⟨g, j, none⟩ = some x) : w'.cell? ⟨g, j, none⟩ = some x := by
  rw [hb.cell (p := ⟨g, j, none⟩) (World.block_lt_of_cell? (a := ⟨g, j, none⟩) _ h)]; exact h
theorem sign_square {v : Int} : cmpI (v * v) 0 = cmpI v 0 * cmpI v 0 := by
  rcases Int.lt_trichotomy v 0 with h | h | h
  · have : 0 < v * v := Int.mul_pos_of_neg_of_neg h h
    rw [cmpI_lt h, cmpI_gt this]; rfl
  · subst h; rfl
  · have : 0 < v * v := Int.mul_pos h h
    rw [cmpI_gt h, cmpI_gt this]; rfl

set_option maxRecDepth 100000 in
set_option maxHeartbeats 40000000 in
theorem digits_ok (v : Int) (w : World) (h0 : -9223372036854775808 ≤ v) (h1 : v ≤ 9223372036854775807) :
    Calls Tryd.prog 10 #[.int .i64 v] w fun e w' => RetV w (.bool true) e w' := by
  go_enter Tryd.func10, Tryd.ntmps10
  go_wp2_with fail
  refine (alive2_yes w).mono ?_
  rintro e w1 ⟨rfl, hb1⟩
  go_wp2_with fail
  refine (wof_num v w1 h0 h1).mono ?_
  rintro e w2 ⟨neg, a, n, c, N, rfl, hN, hZ, hc, hb2⟩
  have hbw := hb1.trans (hb2.mono hb1.size)
  obtain ⟨w3, hw3⟩ : ∃ w3, w3 = w2.alloc (.cells #[.bool neg, .slice a n c] 54) := ⟨_, rfl⟩
  have s3 : w3.heap[w2.heap.size]? = some (.cells #[.bool neg, .slice a n c] 54 (0, 0)) := by rw [hw3]; exact heap_alloc_new w2 _
  have hb3 : Below w2.heap.size w2 w3 := by rw [hw3]; exact below_alloc w2 _
  have hbw3 := hbw.trans (hb3.mono hbw.size)
  have hN3 := hN.num.below hb3
  obtain ⟨g, hg⟩ : ∃ g, g = w2.heap.size := ⟨_, rfl⟩
  rw [← hg] at s3
  obtain ⟨k0, k1, -, -⟩ := slot2 s3
  obtain ⟨T, hT⟩ : ∃ T, T = tw v := ⟨_, rfl⟩
  have HTX : ∀ w1, Num w1 (.slice a n c) N 1 → Calls Tryd.prog 55 #[.agg #[.bool neg, .slice a n c]] w1 fun e w' => RetV w1 (.string T) e w' := by
    intro w1 h
    rw [hT, hZ]
    exact textw_num neg h
  have HDX : ∀ w1, Calls Tryd.prog 63 #[.int .i64 v] w1 fun e w' => RetV w1 (.string T) e w' := by
    intro w1
    rw [hT]
    exact rdigits_num v w1 h0 h1
  obtain ⟨s, hs⟩ : ∃ s, s = cmpI v 0 := ⟨_, rfl⟩
  have HSX : ∀ w1, Num w1 (.slice a n c) N 1 → Calls Tryd.prog 46 #[.agg #[.bool neg, .slice a n c]] w1 fun e w' => RetV w1 (.int .i64 s) e w' := by
    intro w1 h
    rw [hs, hZ]
    exact sign_num neg h (by decide)
  have HMX : ∀ w1 g1, Num w1 (.slice a n c) N 1 → w1.cell? ⟨g1, 0, none⟩ = some (.bool neg) → w1.cell? ⟨g1, 1, none⟩ = some (.slice a n c) → Calls Tryd.prog 53 #[.agg #[.bool neg, .slice a n c], .slice (some ⟨g1, 0, none⟩) 1 1] w1 fun e w' => RetW w1 (v * v) 2 e w' := by
    intro w1 g1 h c0 c1
    rw [hZ]
    exact mulw1_in neg neg c0 c1 h h (by decide)
  have HNX : ∀ w1, Num w1 (.slice a n c) N 1 → Calls Tryd.prog 47 #[.agg #[.bool neg, .slice a n c]] w1 fun e w' => RetW w1 (-v) 1 e w' := by
    intro w1 h
    rw [hZ]
    exact not_num neg h (by decide)
  have HLX : ∀ w1, Num w1 (.slice a n c) N 1 → Calls Tryd.prog 59 #[.agg #[.bool neg, .slice a n c], .int .i64 1] w1 fun e w' => RetW w1 (2 * v) 2 e w' := by
    intro w1 h
    rw [hZ, Int.mul_comm]
    exact shlw_num (p := 2) neg 1 h (by decide) (by decide) (by decide)
  have HAX : ∀ w1 g1, Num w1 (.slice a n c) N 1 → w1.cell? ⟨g1, 0, none⟩ = some (.bool neg) → w1.cell? ⟨g1, 1, none⟩ = some (.slice a n c) → Calls Tryd.prog 49 #[.agg #[.bool neg, .slice a n c], .slice (some ⟨g1, 0, none⟩) 1 1] w1 fun e w' => RetW w1 (2 * v) 2 e w' := by
    intro w1 g1 h c0 c1
    rw [show 2 * v = sg neg N + sg neg N by omega]
    exact addw1_in neg neg c0 c1 h h (by decide)
  obtain ⟨ss, hss⟩ : ∃ ss, s * s = ss := ⟨_, rfl⟩
  have hsr := cmpI_range v 0
  rw [← hs] at hsr
  have hwss : IntKind.i64.wrap (s * s) = ss := by
    rw [IntKind.wrap_i64, ← hss]
    rcases hsr with h | h | h <;> rw [h] <;> decide
  have HQX : ∀ w1 nM aM kM cM NM m, Num w1 (.slice aM kM cM) NM m → m ≤ 1000 → v * v = sg nM NM → Calls Tryd.prog 46 #[.agg #[.bool nM, .slice aM kM cM]] w1 fun e w' => RetV w1 (.int .i64 ss) e w' := by
    intro w1 nM aM kM cM NM m h hm hz
    rw [← hss, hs, ← sign_square, hz]
    exact sign_num nM h (by omega)
  have HOX : ∀ w1 nM aM kM cM NM m, Num w1 (.slice aM kM cM) NM m → m ≤ 1000 → 0 = sg nM NM → Calls Tryd.prog 46 #[.agg #[.bool nM, .slice aM kM cM]] w1 fun e w' => RetV w1 (.int .i64 0) e w' := by
    intro w1 nM aM kM cM NM m h hm hz
    have h2 := sign_num nM h (by omega)
    rw [cmpI_eq hz.symm] at h2
    exact h2
  have HPX : ∀ w1 g1 nN aN kN cN NN, Num w1 (.slice a n c) N 1 → w1.cell? ⟨g1, 0, none⟩ = some (.bool nN) → w1.cell? ⟨g1, 1, none⟩ = some (.slice aN kN cN) → Num w1 (.slice aN kN cN) NN 1 → -v = sg nN NN → Calls Tryd.prog 49 #[.agg #[.bool neg, .slice a n c], .slice (some ⟨g1, 0, none⟩) 1 1] w1 fun e w' => RetW w1 0 2 e w' := by
    intro w1 g1 nN aN kN cN NN h c0 c1 h2 hz
    rw [show (0 : Int) = sg neg N + sg nN NN by omega]
    exact addw1_in neg nN c0 c1 h h2 (by decide)
  have HCX : ∀ w1 p a1 k1 c1 N1 q a2 k2 c2 N2, Num w1 (.slice a1 k1 c1) N1 2 → Num w1 (.slice a2 k2 c2) N2 2 → 2 * v = sg p N1 → 2 * v = sg q N2 → Calls Tryd.prog 44 #[.agg #[.bool p, .slice a1 k1 c1], .agg #[.bool q, .slice a2 k2 c2]] w1 fun e w' => RetV w1 (.int .i64 0) e w' := by
    intro w1 p a1 k1 c1 N1 q a2 k2 c2 N2 h1 h2 z1 z2
    have h3 := cmpw_num p q h1 h2 (by decide) (by decide)
    rw [cmpI_eq (by omega)] at h3
    exact h3
  have hsgn := cmpI_sign (x := v)
  rw [← hs] at hsgn
  obtain ⟨b1, hb1e⟩ : ∃ b1, decide (v < 0) = b1 := ⟨_, rfl⟩
  have hb1s : decide (s < 0) = b1 := by
    rw [← hb1e, decide_eq_decide]
    rcases hsr with h | h | h <;> rw [h] at hsgn <;> omega
  obtain ⟨b2, hb2e⟩ : ∃ b2, (v == 0) = b2 := ⟨_, rfl⟩
  have hb2s : (s == 0) = b2 := by
    rw [← hb2e]
    by_cases hv0 : v = 0
    · rw [hsgn.2.1.2 hv0, hv0]
    · have : s ≠ 0 := fun e => hv0 (hsgn.2.1.1 e)
      rw [beq_eq_false_iff_ne.2 this, beq_eq_false_iff_ne.2 hv0]
  clear hT hZ hs hN s3 hb3 hb1 hb2 hss hsr hsgn
  go_wp2_with fail
  rw [← hw3, ← hg]
  clear hw3 hg
  clear hbw h0 h1
  go_region_held3 (fun w' => w'.cell? ⟨g, 0, none⟩ = some (.bool neg) ∧ w'.cell? ⟨g, 1, none⟩ = some (.slice a n c) ∧ Num w' (.slice a n c) N 1 ∧ Below w3.heap.size w3 w')
    (first
      | (exact ⟨k0, k1, hN3, Below.refl _ _⟩)
      | (exact held_below (bdn (Below.refl _ _) 1) ⟨k0, k1, hN3, Below.refl _ _⟩)
      | (refine held_below (by assumption) ?_; assumption)
      | (refine held_below (below_alloc _ _) ?_; assumption)
      | (fail))
    (first
      | (go_at_call 55; refine (HTX _ (held_num (by assumption))).mono ?_; rintro e wn ⟨rfl, hbn⟩)
      | (go_at_call 63; refine (HDX _).mono ?_; rintro e wn ⟨rfl, hbn⟩)
      | (go_at_call 53; refine (HMX _ _ (held_num (by assumption)) new_cell.1 new_cell.2).mono ?_; rintro e wn ⟨nM, aM, kM, cM, NM, rfl, hM, hMz, hMc, hbn⟩)
      | (go_at_call_of 46 (Value.agg #[.bool neg, .slice a n c]); refine (HSX _ (held_num (by assumption))).mono ?_; rintro e wn ⟨rfl, hbn⟩)
      | (go_at_call 46; refine (HQX _ _ _ _ _ _ _ hM.num (by decide) hMz).mono ?_; rintro e wn ⟨rfl, hbn⟩; clear hM hMz)
      | (go_at_call 47; refine (HNX _ (held_num (by assumption))).mono ?_; rintro e wn ⟨nN, aN, kN, cN, NN, rfl, hNN, hNz, hNc, hbn⟩)
      | (go_at_call 49; refine (HPX _ _ _ _ _ _ _ (held_num (by assumption)) new_cell.1 new_cell.2 (hNN.num.below (below_alloc _ _)) hNz).mono ?_; rintro e wn ⟨nP, aP, kP, cP, NP, rfl, hP, hPz, hPc, hbn⟩; clear hNN hNz)
      | (go_at_call 46; refine (HOX _ _ _ _ _ _ _ hP.num (by decide) hPz).mono ?_; rintro e wn ⟨rfl, hbn⟩; clear hP hPz)
      | (go_at_call 59; refine (HLX (World.alloc _ (.cells #[.bool neg, .slice a n c] 54)) (held_num (by assumption))).mono ?_; rintro e wn ⟨nL, aL, kL, cL, NL, rfl, hL, hLz, hLc, hbn⟩; have q0 := cell_after hbn new_cell.1; have q1 := cell_after hbn new_cell.2)
      | (go_at_call 59; refine (HLX _ (held_num (by assumption))).mono ?_; rintro e wn ⟨nL, aL, kL, cL, NL, rfl, hL, hLz, hLc, hbn⟩)
      | (go_at_call 49; refine (HAX _ _ (held_num (by assumption)) q0 q1).mono ?_; rintro e wn ⟨nR, aR, kR, cR, NR, rfl, hR, hRz, hRc, hbn⟩; have hL2 := hL.below hbn)
      | (go_at_call 49; refine (HAX _ _ (held_num (by assumption)) new_cell.1 new_cell.2).mono ?_; rintro e wn ⟨nR, aR, kR, cR, NR, rfl, hR, hRz, hRc, hbn⟩; have hL2 := (hL.below (below_alloc _ _)).below hbn)
      | (go_at_call 44; refine (HCX _ _ _ _ _ _ _ _ _ _ _ hL2.num hR.num hLz hRz).mono ?_; rintro e wn ⟨rfl, hbn⟩))
  all_goals
    have hb9 := held_base (by assumption)
    have hb8 := hbw3.trans (hb9.mono hbw3.size)
    go_wp2_with fail
    go_ret
    exact ⟨rfl, hb8⟩
end Go.Proofs.YtfhknnmffppfgaaDoor
