/-
  GapH: A float64's dyad against another dyad of the program's: what Has of a gap asks; flo.Finite and the order: what Known asks.
  GapK: Package gap: Known; math.Inf; All (for a text of my own: All wants a look at the landed code).
  GapN: min and max of four float64 that are numbers; the roundings of the operations' results: an end stepped outward.
  GapW: Package gap: outwards, around.
  GapO: Package gap: Add, Sub, Mul, Quo of gaps that are known.
  GapP: Package gap: Quo of gaps that are known.
  GapS: Package gap: Sqrt of a gap that is known; math.Sqrt.
  GapF: Package gap: Has: no float64 lies between a number and the float64 below it (above it).
  GapV: Package gap: At, Sign; compasslaw7.alive.
  GapCon: What GapHolds asks of package gap, of the landed code.
-/
import Derived.Test.YtjmipbljoblnnaaDoorPk29
import Derived.Test.YtjmipbljoblnnaaDoorPk28
import Derived.Test.YtjmipbljoblnnaaDoorPk27

namespace Go.Proofs.YtjmipbljoblnnaaDoor
open Go.RowKit

theorem flo_side {p : Bool} {N E : Int} {b : Nat} (j : Nat) (hE : -1074 ≤ E) (hv : N * 2 ^ (E + 1074).toNat = (un (rg b) : Int)) (hp : N ≠ 0 → p = fneg b) : sg p N * 2 ^ (E + ((1074 + j : Nat) : Int)).toNat = fv b * 2 ^ j := by
  have e1 : (E + ((1074 + j : Nat) : Int)).toNat = (E + 1074).toNat + j := by omega
  rw [e1, Int.pow_add, ← Int.mul_assoc]
  refine congrArg (· * (2 : Int) ^ j) ?_
  rw [fv_def, ← sg_scale, hv]
  by_cases h0 : N = 0
  · rw [h0, Int.zero_mul] at hv
    rw [← hv]
    cases p <;> cases fneg b <;> rfl
  · rw [hp h0]; rfl
theorem DQ.open {L : Nat} {w : World} {q : Bool} {a : Option Addr} {n c : Nat} {G Z : Int} {m b : Nat} (h : DQ L w (.agg #[.bool q, .slice a n c, .int .i64 G]) Z m b) :
    ∃ M, ∃ G0 : Nat, Num w (.slice a n c) M m ∧ Z = sg q M * 2 ^ G0 ∧ G + (L : Int) = (G0 : Int) ∧ G0 ≤ b := by
  obtain ⟨p, a', n', c', N, E, E0, he, h1, h2, h3, -, h5⟩ := h
  simp only [Value.agg.injEq, Array.mk.injEq, List.cons.injEq, Value.bool.injEq, Value.slice.injEq, Value.int.injEq, and_true, true_and] at he
  obtain ⟨rfl, ⟨rfl, rfl, rfl⟩, rfl⟩ := he
  exact ⟨N, E0, h1, h2, h3, h5⟩
/-- A step down that ends at a finite word has gone down. -/
theorem step_dn_lt {x : Nat} (hx : x < W64) (hr : rg x ≤ INF) (hl : rg (stepW x true) < INF) : stepW x true < W64 ∧ fv (stepW x true) < fv x := by
  rcases Nat.lt_or_ge (rg x) INF with h | h
  · exact ⟨(steps hx h).dn_lt, (steps hx h).dn⟩
  · have e : rg x = INF := Nat.le_antisymm hr h
    rcases word_cases hx with ⟨h1, -⟩ | ⟨h1, -⟩
    · rw [e] at h1
      subst h1
      refine ⟨by decide, ?_⟩
      have e2 : stepW INF true = INF - 1 := by decide
      rw [e2, fv_pos (by decide), fv_pos (by decide)]
      have := un_lt (show INF - 1 < INF by decide)
      omega
    · rw [e] at h1
      subst h1
      exact absurd hl (by decide)
theorem step_up_lt {x : Nat} (hx : x < W64) (hr : rg x ≤ INF) (hl : rg (stepW x false) < INF) : stepW x false < W64 ∧ fv x < fv (stepW x false) := by
  rcases Nat.lt_or_ge (rg x) INF with h | h
  · exact ⟨(steps hx h).up_lt, (steps hx h).up⟩
  · have e : rg x = INF := Nat.le_antisymm hr h
    rcases word_cases hx with ⟨h1, -⟩ | ⟨h1, -⟩
    · rw [e] at h1
      subst h1
      exact absurd hl (by decide)
    · rw [e] at h1
      subst h1
      refine ⟨by decide, ?_⟩
      have e2 : stepW (9223372036854775808 + INF) false = 9223372036854775808 + (INF - 1) := by decide
      rw [e2, fv_neg (by decide), fv_neg (by decide)]
      have := un_lt (show INF - 1 < INF by decide)
      omega
/-- The ends of a sum, stepped outward, hold every sum. -/
theorem sum_ends {a b c d x y l h : Nat} (hx : NearTo x (fv a + fv c)) (hy : NearTo y (fv b + fv d)) (hl : l < W64) (hlr : rg l ≤ INF) (hlx : fv l < fv x) (hh : h < W64) (hhr : rg h ≤ INF) (hhy : fv y < fv h) : SumG a b c d l h := by
  intro X Y hX hY
  have h1 := near_under1 hx hl hlr hlx
  have h2 := near_over1 hy hh hhr hhy
  unfold InG at hX hY
  omega
/-- The ends of a product: below and above the four products of the corners. -/
theorem mul_ends {a b c d p q r s l h : Nat} {K : Nat} (hK : K = 1074) (hp : NearR p (fv a * fv c) (2 ^ K)) (hq : NearR q (fv a * fv d) (2 ^ K)) (hr : NearR r (fv b * fv c) (2 ^ K)) (hs : NearR s (fv b * fv d) (2 ^ K))
    (hl : l < W64) (hlr : rg l ≤ INF) (l1 : fv l < fv p) (l2 : fv l < fv q) (l3 : fv l < fv r) (l4 : fv l < fv s) (hh : h < W64) (hhr : rg h ≤ INF) (h1 : fv p < fv h) (h2 : fv q < fv h) (h3 : fv r < fv h) (h4 : fv s < fv h) : MulG a b c d l h := by
  intro X Y hX hY K' hK'
  obtain rfl : K' = K := by omega
  have cast : ((2 ^ K' : Nat) : Int) = (2 : Int) ^ K' := by rw [Int.natCast_pow]; rfl
  constructor
  · refine mul_corners_low hX hY ?_ ?_ ?_ ?_ <;> rw [← cast]
    · exact near_under hp hl hlr l1
    · exact near_under hq hl hlr l2
    · exact near_under hr hl hlr l3
    · exact near_under hs hl hlr l4
  · refine mul_corners_high hX hY ?_ ?_ ?_ ?_ <;> rw [← cast]
    · exact near_over hp hh hhr h1
    · exact near_over hq hh hhr h2
    · exact near_over hr hh hhr h3
    · exact near_over hs hh hhr h4
theorem near_quo {x b c K : Nat} (h : NearR x ((if fneg c then -1 else 1) * fv b * (2 ^ K : Nat)) (un (rg c))) :
    (fneg c = false → ∀ y, y < W64 → rg y ≤ INF → (fv y < fv x → fv y * fv c ≤ fv b * 2 ^ K) ∧ (fv x < fv y → fv b * 2 ^ K ≤ fv y * fv c)) ∧
    (fneg c = true → ∀ y, y < W64 → rg y ≤ INF → (fv y < fv x → fv y * -fv c ≤ -fv b * 2 ^ K) ∧ (fv x < fv y → -fv b * 2 ^ K ≤ fv y * -fv c)) := by
  have cast : ((2 ^ K : Nat) : Int) = (2 : Int) ^ K := by rw [Int.natCast_pow]; rfl
  constructor
  · intro hs y hy hr
    have e : fv c = (un (rg c) : Int) := by rw [fv_def, hs]; rfl
    rw [hs, cast] at h
    simp only [Bool.false_eq_true, if_false, Int.one_mul] at h
    rw [e]
    exact ⟨near_under h hy hr, near_over h hy hr⟩
  · intro hs y hy hr
    have e : -fv c = (un (rg c) : Int) := by rw [fv_def, hs]; simp
    rw [hs, cast] at h
    simp only [if_true, Int.neg_mul, Int.one_mul] at h
    rw [e, Int.neg_mul]
    exact ⟨near_under h hy hr, near_over h hy hr⟩
theorem fneg_of_pos {c : Nat} (h : 0 < fv c) : fneg c = false := by
  rcases fv_cases c with ⟨h1, -⟩ | ⟨-, h1⟩
  · exact h1
  · omega
theorem fneg_of_neg {c : Nat} (h : fv c < 0) : fneg c = true := by
  rcases fv_cases c with ⟨-, h1⟩ | ⟨h1, -⟩
  · omega
  · exact h1
/-- The ends of a quotient: below and above the four quotients of the corners, where the divisor's range is above 0 or below 0. -/
theorem quo_ends {a b c d p q r s l h : Nat} {K : Nat} (hK : K = 1074) (hcd : 0 < fv c ∨ fv d < 0) (hle : fv c ≤ fv d)
    (hp : NearR p ((if fneg c then -1 else 1) * fv a * (2 ^ K : Nat)) (un (rg c))) (hq : NearR q ((if fneg d then -1 else 1) * fv a * (2 ^ K : Nat)) (un (rg d)))
    (hr : NearR r ((if fneg c then -1 else 1) * fv b * (2 ^ K : Nat)) (un (rg c))) (hs : NearR s ((if fneg d then -1 else 1) * fv b * (2 ^ K : Nat)) (un (rg d)))
    (hl : l < W64) (hlr : rg l ≤ INF) (l1 : fv l < fv p) (l2 : fv l < fv q) (l3 : fv l < fv r) (l4 : fv l < fv s) (hh : h < W64) (hhr : rg h ≤ INF) (h1 : fv p < fv h) (h2 : fv q < fv h) (h3 : fv r < fv h) (h4 : fv s < fv h) : QuoG a b c d l h := by
  intro X Y hX hY hY0 K' hK'
  obtain rfl : K' = K := by omega
  have hT : (0 : Int) ≤ 2 ^ K' := Int.le_of_lt (Int.pow_pos (by decide))
  unfold InG at hX hY
  rcases hcd with hc | hd
  · have sc := fneg_of_pos hc
    have sd := fneg_of_pos (show 0 < fv d by omega)
    have ea : absI Y = Y := by unfold absI; rw [if_neg (by omega)]
    rw [if_neg (by omega), ea]
    exact ⟨quo_corners_low hT hX.1 hY (((near_quo hp).1 sc l hl hlr).1 l1) (((near_quo hq).1 sd l hl hlr).1 l2),
      quo_corners_high hT hX.2 hY (((near_quo hr).1 sc h hh hhr).2 h3) (((near_quo hs).1 sd h hh hhr).2 h4)⟩
  · have sd := fneg_of_neg hd
    have sc := fneg_of_neg (show fv c < 0 by omega)
    have ea : absI Y = -Y := by unfold absI; rw [if_pos (by omega)]
    rw [if_pos (by omega), ea]
    exact ⟨quo_corners_low (c := -fv d) (d := -fv c) hT (Int.neg_le_neg hX.2) ⟨by omega, by omega⟩ (((near_quo hs).2 sd l hl hlr).1 l4) (((near_quo hr).2 sc l hl hlr).1 l3),
      quo_corners_high (c := -fv d) (d := -fv c) hT (Int.neg_le_neg hX.1) ⟨by omega, by omega⟩ (((near_quo hq).2 sd h hh hhr).2 h2) (((near_quo hp).2 sc h hh hhr).2 h1)⟩
/-- What a float64 root is: no float64 lies between it and the exact one. -/
structure RootF (b x K : Nat) : Prop where
  lt : x < W64
  rg : Go.Proofs.YtjmipbljoblnnaaDoor.rg x ≤ INF
  pos : 0 ≤ fv x
  up : ∀ y, y < W64 → Go.Proofs.YtjmipbljoblnnaaDoor.rg y ≤ INF → 0 ≤ fv y → fv y * fv y ≤ fv b * 2 ^ K → fv y ≤ fv x
  down : ∀ y, y < W64 → Go.Proofs.YtjmipbljoblnnaaDoor.rg y ≤ INF → 0 ≤ fv y → fv b * 2 ^ K ≤ fv y * fv y → fv x ≤ fv y
theorem fv_rung {y : Nat} (h : 0 ≤ fv y) : fv y = (un (rg y) : Int) := by
  rcases fv_cases y with ⟨-, h1⟩ | ⟨-, h1⟩
  · exact h1
  · omega
theorem sqrt_root {b K : Nat} (hb64 : b < W64) (hb : rg b < INF) (h0 : 0 ≤ fv b) (hK : K = 1074) : ∃ x, Ieee.double.sqrt b = some x ∧ RootF b x K := by
  by_cases hz : un (rg b) = 0
  · have hr := un_eq_zero hz
    have hfb : fv b = 0 := by rw [fv_rung h0, hz]; rfl
    have key : ∀ x, x < W64 → rg x ≤ INF → fv x = 0 → RootF b x K := fun x h1 h2 h3 => ⟨h1, h2, by omega, fun y _ _ hy hle => by
      rw [hfb, Int.zero_mul] at hle
      rcases Int.lt_or_eq_of_le hy with h4 | h4
      · have := Int.mul_pos h4 h4
        omega
      · omega, fun y _ _ hy _ => by omega⟩
    rcases word_cases hb64 with ⟨h1, -⟩ | ⟨h1, -⟩
    · rw [hr] at h1
      subst h1
      exact ⟨0, by decide, key 0 (by decide) (by decide) (by decide)⟩
    · rw [hr] at h1
      subst h1
      exact ⟨9223372036854775808, by decide, key _ (by decide) (by decide) (by decide)⟩
  · have hs : fneg b = false := by
      refine fneg_of_pos ?_
      rw [fv_rung h0]
      omega
    obtain ⟨r, e, hr, hup, hdn⟩ := fsqrt_num hb hs hz hK
    have hI : INF = 9218868437227405312 := rfl
    have hfr : fv r = (un r : Int) := fv_pos (by omega)
    have hrr : rg r = r := (rg_pos (by omega)).1
    have cast : ((un (rg b) * 2 ^ K : Nat) : Int) = (un (rg b) : Int) * 2 ^ K := by rw [Int.natCast_mul, Int.natCast_pow]; rfl
    refine ⟨r, e, (by show r < 18446744073709551616; omega), by rw [hrr]; exact hr, by rw [hfr]; omega, fun y hy hyr hy0 hle => ?_, fun y hy hyr hy0 hle => ?_⟩
    · rw [fv_rung hy0, fv_rung h0, ← cast] at hle
      have h1 := hup (rg y) hyr (by exact_mod_cast hle)
      rw [fv_rung hy0, hfr]
      exact_mod_cast un_le h1
    · rw [fv_rung hy0, fv_rung h0, ← cast] at hle
      have h1 := hdn (rg y) (by exact_mod_cast hle)
      rw [fv_rung hy0, hfr]
      exact_mod_cast un_le h1
/-- The ends of a root. -/
theorem root_ends {a b x y l h : Nat} {K : Nat} (hK : K = 1074) (hx : RootF a x K) (hy : RootF b y K) (hl : l < W64) (hlr : rg l ≤ INF) (hlx : fv l < fv x) (hh : h < W64) (hhr : rg h ≤ INF) (hhy : fv y < fv h) : RootG a b l h := by
  intro X hX hX0 K' hK'
  obtain rfl : K' = K := by omega
  have hT : (0 : Int) ≤ 2 ^ K' := Int.le_of_lt (Int.pow_pos (by decide))
  unfold InG at hX
  have hp := hy.pos
  refine ⟨?_, by omega, ?_⟩
  · rcases Int.lt_or_le 0 (fv l) with h1 | h1
    · right
      have h2 : fv l * fv l ≤ fv a * 2 ^ K' := by
        rcases Int.lt_or_le (fv a * 2 ^ K') (fv l * fv l) with h3 | h3
        · have := hx.down l hl hlr (Int.le_of_lt h1) (Int.le_of_lt h3)
          omega
        · exact h3
      exact Int.le_trans h2 (Int.mul_le_mul_of_nonneg_right hX.1 hT)
    · exact Or.inl h1
  · have h2 : fv b * 2 ^ K' ≤ fv h * fv h := by
      rcases Int.lt_or_le (fv h * fv h) (fv b * 2 ^ K') with h3 | h3
      · have := hy.up h hh hhr (by omega) (Int.le_of_lt h3)
        omega
      · exact h3
    exact Int.le_trans (Int.mul_le_mul_of_nonneg_right hX.2 hT) h2
end Go.Proofs.YtjmipbljoblnnaaDoor

namespace Go.Proofs.YtjmipbljoblnnaaDoor
open Go.RowKit

attribute [local go_sem] run_store_float
set_option maxRecDepth 100000 in
set_option maxHeartbeats 1000000 in
theorem gknown_yes {w : World} {l h : Nat} (hl : l < W64) (hh : h < W64) (hk : KG l h) : Calls Tryd.prog 18 #[G l h] w fun e w' => e = .returned (.bool true) ∧ Below w.heap.size w w' := by
  have HF1 := Lib.hid (fun w => finite_num l w hl)
  have HF2 := Lib.hid (fun w => finite_num h w hh)
  have hle := fle_num (Nat.le_of_lt hk.lf) (Nat.le_of_lt hk.hf)
  rw [decide_eq_true hk.le] at hle
  rw [decide_eq_true hk.lf] at HF1
  rw [decide_eq_true hk.hf] at HF2
  clear hk
  go_enter Tryd.func18, Tryd.ntmps18
  go_wp2_with fail
  refine (HF1.out _).mono ?_
  rintro e w' ⟨rfl, rfl⟩
  go_wp2_with fail
  refine (HF2.out _).mono ?_
  rintro e w' ⟨rfl, rfl⟩
  go_wp2_with fail
  go_ret
  exact ⟨rfl, below_alloc w _⟩
set_option maxRecDepth 100000 in
set_option maxHeartbeats 1000000 in
theorem gknown_no {w : World} {l h : Nat} (hl : l < W64) (hh : h < W64) (hk : ¬ KG l h) : Calls Tryd.prog 18 #[G l h] w fun e w' => e = .returned (.bool false) ∧ Below w.heap.size w w' := by
  have HF1 := Lib.hid (fun w => finite_num l w hl)
  have HF2 := Lib.hid (fun w => finite_num h w hh)
  by_cases h1 : rg l < INF
  · rw [decide_eq_true h1] at HF1
    by_cases h2 : rg h < INF
    · rw [decide_eq_true h2] at HF2
      have hle := fle_num (Nat.le_of_lt h1) (Nat.le_of_lt h2)
      rw [decide_eq_false (fun h3 => hk ⟨h1, h2, h3⟩)] at hle
      clear hk h1 h2
      go_enter Tryd.func18, Tryd.ntmps18
      go_wp2_with fail
      refine (HF1.out _).mono ?_
      rintro e w' ⟨rfl, rfl⟩
      go_wp2_with fail
      refine (HF2.out _).mono ?_
      rintro e w' ⟨rfl, rfl⟩
      go_wp2_with fail
      go_ret
      exact ⟨rfl, below_alloc w _⟩
    · rw [decide_eq_false h2] at HF2
      clear hk h1 h2
      go_enter Tryd.func18, Tryd.ntmps18
      go_wp2_with fail
      refine (HF1.out _).mono ?_
      rintro e w' ⟨rfl, rfl⟩
      go_wp2_with fail
      refine (HF2.out _).mono ?_
      rintro e w' ⟨rfl, rfl⟩
      go_wp2_with fail
      go_ret
      exact ⟨rfl, below_alloc w _⟩
  · rw [decide_eq_false h1] at HF1
    clear hk h1 HF2
    go_enter Tryd.func18, Tryd.ntmps18
    go_wp2_with fail
    refine (HF1.out _).mono ?_
    rintro e w' ⟨rfl, rfl⟩
    go_wp2_with fail
    go_ret
    exact ⟨rfl, below_alloc w _⟩
/-- Known, as GapHolds asks it. -/
theorem gknown (w : World) (l h : Nat) (hl : l < W64) (hh : h < W64) : Calls Tryd.prog 18 #[G l h] w fun e w' => ∃ r, e = .returned (.bool r) ∧ (r = true → KG l h) ∧ Below w.heap.size w w' := by
  by_cases hk : KG l h
  · refine (gknown_yes hl hh hk).mono ?_
    rintro e w' ⟨rfl, hb⟩
    exact ⟨true, rfl, fun _ => hk, hb⟩
  · refine (gknown_no hl hh hk).mono ?_
    rintro e w' ⟨rfl, hb⟩
    exact ⟨false, rfl, (fun h => nomatch h), hb⟩
set_option maxRecDepth 100000 in
theorem minf (w : World) (s : Int) (hs : s = 1 ∨ s = -1) : Calls Tryd.prog 49 #[.int .i64 s] w fun e w' => e = .returned (.float .f64 (if s = 1 then INF else 9223372036854775808 + INF)) ∧ w' = w := by
  have hr := frombits_run
  rcases hs with rfl | rfl
  · go_enter Tryd.func49, Tryd.ntmps49
    go_wp2_with fail
    go_ret
    exact ⟨rfl, rfl⟩
  · go_enter Tryd.func49, Tryd.ntmps49
    go_wp2_with fail
    go_ret
    exact ⟨rfl, rfl⟩
set_option maxRecDepth 100000 in
theorem gall (w : World) : Calls Tryd.prog 36 #[] w fun e w' => e = .returned (G (9223372036854775808 + INF) INF) ∧ Below w.heap.size w w' := by
  go_enter Tryd.func36, Tryd.ntmps36
  go_wp2_with fail
  refine (minf _ _ (Or.inr rfl)).mono ?_
  rintro e w' ⟨rfl, rfl⟩
  go_wp2_with fail
  refine (minf _ _ (Or.inl rfl)).mono ?_
  rintro e w' ⟨rfl, rfl⟩
  go_wp2_with fail
  refine bodyPost_ret (results_cell_row rfl _ _ w.heap.size 24 #[.float .f64 (9223372036854775808 + INF), .float .f64 INF] (0, 0) _ rfl ?_ Tryd.underlying24 rfl (by kernel_rfl)) rfl ⟨rfl, ?_⟩
  · exact heap_alloc_new w _
  · exact below_alloc w _
end Go.Proofs.YtjmipbljoblnnaaDoor

namespace Go.Proofs.YtjmipbljoblnnaaDoor
open Go.RowKit

theorem min2_run {P : Program} {b c : Nat} (hb : rg b ≤ INF) (hc : rg c ≤ INF) (w : World) : ∃ x, (Builtin.min2 (.float .f64 b) (.float .f64 c)).run P w = .ok (.float .f64 x) w ∧ (x = b ∨ x = c) ∧ fv x ≤ fv b ∧ fv x ≤ fv c := by
  have ho : FloatKind.f64.format.order b c = some (compare (fv b) (fv c)) := order_num hb hc
  rcases Int.lt_trichotomy (fv b) (fv c) with h | h | h
  · exact ⟨b, by simp [Builtin.min2, ho, cmp_int_lt h], Or.inl rfl, Int.le_refl _, by omega⟩
  · refine ⟨if (FloatKind.f64.decode b).neg then b else c, by simp [Builtin.min2, ho, cmp_int_eq h], ?_, ?_, ?_⟩ <;> split
    · exact Or.inl rfl
    · exact Or.inr rfl
    · omega
    · omega
    · omega
    · omega
  · exact ⟨c, by simp [Builtin.min2, ho, cmp_int_gt h], Or.inr rfl, by omega, Int.le_refl _⟩
theorem max2_run {P : Program} {b c : Nat} (hb : rg b ≤ INF) (hc : rg c ≤ INF) (w : World) : ∃ x, (Builtin.max2 (.float .f64 b) (.float .f64 c)).run P w = .ok (.float .f64 x) w ∧ (x = b ∨ x = c) ∧ fv b ≤ fv x ∧ fv c ≤ fv x := by
  have ho : FloatKind.f64.format.order b c = some (compare (fv b) (fv c)) := order_num hb hc
  rcases Int.lt_trichotomy (fv b) (fv c) with h | h | h
  · exact ⟨c, by simp [Builtin.max2, ho, cmp_int_lt h], Or.inr rfl, by omega, Int.le_refl _⟩
  · refine ⟨if (FloatKind.f64.decode b).neg then c else b, by simp [Builtin.max2, ho, cmp_int_eq h], ?_, ?_, ?_⟩ <;> split
    · exact Or.inr rfl
    · exact Or.inl rfl
    · omega
    · omega
    · omega
    · omega
  · exact ⟨b, by simp [Builtin.max2, ho, cmp_int_gt h], Or.inl rfl, Int.le_refl _, by omega⟩
/-- One of four words, at most (at least) each of them. -/
structure Least (x p q r s : Nat) : Prop where
  one : x = p ∨ x = q ∨ x = r ∨ x = s
  p : fv x ≤ fv p
  q : fv x ≤ fv q
  r : fv x ≤ fv r
  s : fv x ≤ fv s
structure Most (x p q r s : Nat) : Prop where
  one : x = p ∨ x = q ∨ x = r ∨ x = s
  p : fv p ≤ fv x
  q : fv q ≤ fv x
  r : fv r ≤ fv x
  s : fv s ≤ fv x
theorem min4_run {P : Program} (ts : Array TypeId) (t : TypeId) {p q r s : Nat} (hp : rg p ≤ INF) (hq : rg q ≤ INF) (hr : rg r ≤ INF) (hs : rg s ≤ INF) (w : World) :
    ∃ x, (Builtin.min_ ts t #[.float .f64 p, .float .f64 q, .float .f64 r, .float .f64 s]).run P w = .ok (.float .f64 x) w ∧ Least x p q r s := by
  obtain ⟨x1, e1, o1, a1, b1⟩ := min2_run (P := P) hp hq w
  obtain ⟨x2, e2, o2, a2, b2⟩ := min2_run (P := P) (b := x1) (by rcases o1 with rfl | rfl <;> assumption) hr w
  have g2 : rg x2 ≤ INF := by
    rcases o2 with rfl | rfl
    · rcases o1 with rfl | rfl <;> assumption
    · assumption
  obtain ⟨x3, e3, o3, a3, b3⟩ := min2_run (P := P) (b := x2) g2 hs w
  refine ⟨x3, by simp [Builtin.min_, e1, e2, e3, Result.andThen], ?_, by omega, by omega, by omega, by omega⟩
  rcases o3 with rfl | rfl
  · rcases o2 with rfl | rfl
    · rcases o1 with rfl | rfl
      · exact Or.inl rfl
      · exact Or.inr (Or.inl rfl)
    · exact Or.inr (Or.inr (Or.inl rfl))
  · exact Or.inr (Or.inr (Or.inr rfl))
theorem max4_run {P : Program} (ts : Array TypeId) (t : TypeId) {p q r s : Nat} (hp : rg p ≤ INF) (hq : rg q ≤ INF) (hr : rg r ≤ INF) (hs : rg s ≤ INF) (w : World) :
    ∃ x, (Builtin.max_ ts t #[.float .f64 p, .float .f64 q, .float .f64 r, .float .f64 s]).run P w = .ok (.float .f64 x) w ∧ Most x p q r s := by
  obtain ⟨x1, e1, o1, a1, b1⟩ := max2_run (P := P) hp hq w
  obtain ⟨x2, e2, o2, a2, b2⟩ := max2_run (P := P) (b := x1) (by rcases o1 with rfl | rfl <;> assumption) hr w
  have g2 : rg x2 ≤ INF := by
    rcases o2 with rfl | rfl
    · rcases o1 with rfl | rfl <;> assumption
    · assumption
  obtain ⟨x3, e3, o3, a3, b3⟩ := max2_run (P := P) (b := x2) g2 hs w
  refine ⟨x3, by simp [Builtin.max_, e1, e2, e3, Result.andThen], ?_, by omega, by omega, by omega, by omega⟩
  rcases o3 with rfl | rfl
  · rcases o2 with rfl | rfl
    · rcases o1 with rfl | rfl
      · exact Or.inl rfl
      · exact Or.inr (Or.inl rfl)
    · exact Or.inr (Or.inr (Or.inl rfl))
  · exact Or.inr (Or.inr (Or.inr rfl))
/-- The gap that package gap's outwards gives: the ends stepped outward, or the one from -Inf to Inf. -/
def outLo (lo hi : Nat) : Nat := if rg (stepW lo true) < INF ∧ rg (stepW hi false) < INF ∧ fv (stepW lo true) ≤ fv (stepW hi false) then stepW lo true else 9223372036854775808 + INF
def outHi (lo hi : Nat) : Nat := if rg (stepW lo true) < INF ∧ rg (stepW hi false) < INF ∧ fv (stepW lo true) ≤ fv (stepW hi false) then stepW hi false else INF
theorem out_yes {lo hi : Nat} (h : KG (stepW lo true) (stepW hi false)) : outLo lo hi = stepW lo true ∧ outHi lo hi = stepW hi false :=
  ⟨if_pos ⟨h.lf, h.hf, h.le⟩, if_pos ⟨h.lf, h.hf, h.le⟩⟩
theorem out_no {lo hi : Nat} (h : ¬ KG (stepW lo true) (stepW hi false)) : outLo lo hi = 9223372036854775808 + INF ∧ outHi lo hi = INF :=
  ⟨if_neg fun g => h ⟨g.1, g.2.1, g.2.2⟩, if_neg fun g => h ⟨g.1, g.2.1, g.2.2⟩⟩
/-- Where outwards gives a gap that is known, its ends have gone outward. -/
theorem out_known {lo hi : Nat} (h1 : lo < W64) (h2 : hi < W64) (r1 : rg lo ≤ INF) (r2 : rg hi ≤ INF) (hk : KG (outLo lo hi) (outHi lo hi)) :
    outLo lo hi < W64 ∧ outHi lo hi < W64 ∧ rg (outLo lo hi) ≤ INF ∧ rg (outHi lo hi) ≤ INF ∧ fv (outLo lo hi) < fv lo ∧ fv hi < fv (outHi lo hi) := by
  by_cases h : KG (stepW lo true) (stepW hi false)
  · obtain ⟨e1, e2⟩ := out_yes h
    rw [e1, e2] at hk ⊢
    obtain ⟨a1, a2⟩ := step_dn_lt h1 r1 hk.lf
    obtain ⟨b1, b2⟩ := step_up_lt h2 r2 hk.hf
    exact ⟨a1, b1, Nat.le_of_lt hk.lf, Nat.le_of_lt hk.hf, a2, b2⟩
  · obtain ⟨e1, e2⟩ := out_no h
    rw [e1, e2] at hk
    exact absurd hk.hf (by decide)
theorem out_lt {lo hi : Nat} (h1 : lo < W64) (h2 : hi < W64) (r1 : rg lo ≤ INF) (r2 : rg hi ≤ INF) : outLo lo hi < W64 ∧ outHi lo hi < W64 := by
  by_cases h : KG (stepW lo true) (stepW hi false)
  · obtain ⟨e1, e2⟩ := out_yes h
    rw [e1, e2]
    exact ⟨(step_dn_lt h1 r1 h.lf).1, (step_up_lt h2 r2 h.hf).1⟩
  · obtain ⟨e1, e2⟩ := out_no h
    rw [e1, e2]
    exact ⟨by decide, by decide⟩
theorem gap_end {w0 w : World} {g l h : Nat} {x y : Value} {t : TypeId} (hc : w.heap[g]? = some (.cells #[x, y] t (0, 0))) (hb : Below w0.heap.size w0 w) (hg : w0.heap.size ≤ g) :
    ((w.setCell ⟨g, 0, none⟩ (.float .f64 l)).setCell ⟨g, 1, none⟩ (.float .f64 h)).heap[g]? = some (.cells #[.float .f64 l, .float .f64 h] t (0, 0)) ∧ Below w0.heap.size w0 ((w.setCell ⟨g, 0, none⟩ (.float .f64 l)).setCell ⟨g, 1, none⟩ (.float .f64 h)) :=
  ⟨slot_set hc, hb.trans ((slot_only (w := w) (g := g) (.float .f64 l) (.float .f64 h)).below hg hb.size)⟩
end Go.Proofs.YtjmipbljoblnnaaDoor

namespace Go.Proofs.YtjmipbljoblnnaaDoor
open Go.RowKit

attribute [local go_sem] run_store_float
theorem step_lt {b : Nat} (d : Bool) (hb : b < W64) (h : rg b ≤ INF) : stepW b d < W64 := by
  have hI : INF = 9218868437227405312 := rfl
  have hW : W64 = 18446744073709551616 := rfl
  unfold stepW
  rcases word_cases hb with ⟨e, s⟩ | ⟨e, s⟩ <;> rw [s] <;> cases d <;> (repeat' split) <;> omega
set_option maxRecDepth 100000 in
set_option maxHeartbeats 1000000 in
theorem outwards_num {w : World} {lo hi : Nat} (h1 : lo < W64) (h2 : hi < W64) (r1 : rg lo ≤ INF) (r2 : rg hi ≤ INF) : Calls Tryd.prog 37 #[.float .f64 lo, .float .f64 hi] w fun e w' => e = .returned (G (outLo lo hi) (outHi lo hi)) ∧ Below w.heap.size w w' := by
  have l1 := step_lt true h1 r1
  have l2 := step_lt false h2 r2
  have HY := @out_yes lo hi
  have HN := @out_no lo hi
  have HS1 := Lib.hid (fun w => step_num lo (-1) w h1 r1)
  have HS2 := Lib.hid (fun w => step_num hi 1 w h2 r2)
  rw [show decide ((-1 : Int) < 0) = true from rfl] at HS1
  rw [show decide ((1 : Int) < 0) = false from rfl] at HS2
  obtain ⟨sl, esl⟩ : ∃ s, stepW lo true = s := ⟨_, rfl⟩
  obtain ⟨sh, esh⟩ : ∃ s, stepW hi false = s := ⟨_, rfl⟩
  rw [esl] at HS1 l1 HY HN
  rw [esh] at HS2 l2 HY HN
  clear esl esh h1 h2 r1 r2
  obtain ⟨ol, eol⟩ : ∃ s, outLo lo hi = s := ⟨_, rfl⟩
  obtain ⟨oh, eoh⟩ : ∃ s, outHi lo hi = s := ⟨_, rfl⟩
  rw [eol, eoh] at HY HN ⊢
  clear eol eoh
  have hb0 := (below_alloc w (.cells #[.float .f64 0, .float .f64 0] 24)).alloc (Nat.le_of_lt (by simp)) (.cells #[.float .f64 sl, .float .f64 sh] 24)
  by_cases hk : KG sl sh
  · obtain ⟨rfl, rfl⟩ := HY hk
    clear HY HN
    have HK := Lib.hid (fun w => gknown_yes (w := w) l1 l2 hk)
    clear hk l1 l2
    go_enter Tryd.func37, Tryd.ntmps37
    go_wp2_with fail
    refine (HS1.out _).mono ?_
    rintro e w' ⟨rfl, rfl⟩
    go_wp2_with fail
    refine (HS2.out _).mono ?_
    rintro e w' ⟨rfl, rfl⟩
    go_wp2_with fail
    refine (HK.out _).mono ?_
    rintro e w' ⟨rfl, hb⟩
    have hc0 := slot_kept (slot_kept (heap_alloc_new w _) (below_alloc _ _)) hb
    have hc1 := slot_kept (heap_alloc2_new w _ _) hb
    have hbw := hb0.trans (hb.mono hb0.size)
    obtain ⟨k0, k1, f0, f1⟩ := slot2 hc0
    obtain ⟨m0, m1, -, -⟩ := slot2 hc1
    obtain ⟨hend, hbe⟩ := gap_end (w0 := w) (l := ol) (h := oh) hc0 hbw (Nat.le_refl _)
    go_wp2_with fail
    exact bodyPost_ret (results_cell_row rfl _ _ w.heap.size 24 _ (0, 0) _ rfl hend Tryd.underlying24 rfl (by kernel_rfl)) rfl ⟨rfl, hbe⟩
  · obtain ⟨rfl, rfl⟩ := HN hk
    clear HY HN
    have HK := Lib.hid (fun w => gknown_no (w := w) l1 l2 hk)
    clear hk l1 l2
    go_enter Tryd.func37, Tryd.ntmps37
    go_wp2_with fail
    refine (HS1.out _).mono ?_
    rintro e w' ⟨rfl, rfl⟩
    go_wp2_with fail
    refine (HS2.out _).mono ?_
    rintro e w' ⟨rfl, rfl⟩
    go_wp2_with fail
    refine (HK.out _).mono ?_
    rintro e w' ⟨rfl, hb⟩
    have hc0 := slot_kept (slot_kept (heap_alloc_new w _) (below_alloc _ _)) hb
    have hbw := hb0.trans (hb.mono hb0.size)
    go_wp2_with fail
    refine (gall _).mono ?_
    rintro e w2 ⟨rfl, hb2⟩
    have hd0 := slot_kept hc0 hb2
    have hbw2 := hbw.trans (hb2.mono hbw.size)
    obtain ⟨k0, k1, f0, f1⟩ := slot2 hd0
    obtain ⟨hend, hbe⟩ := gap_end (w0 := w) (l := 9223372036854775808 + INF) (h := INF) hd0 hbw2 (Nat.le_refl _)
    go_wp2_with fail
    exact bodyPost_ret (results_cell_row rfl _ _ w.heap.size 24 _ (0, 0) _ rfl hend Tryd.underlying24 rfl (by kernel_rfl)) rfl ⟨rfl, hbe⟩
theorem Least.lt {x p q r s : Nat} (h : Least x p q r s) (hp : p < W64) (hq : q < W64) (hr : r < W64) (hs : s < W64) : x < W64 := by
  rcases h.one with e | e | e | e <;> rw [e] <;> assumption
theorem Least.rg {x p q r s : Nat} (h : Least x p q r s) (hp : rg p ≤ INF) (hq : Go.Proofs.YtjmipbljoblnnaaDoor.rg q ≤ INF) (hr : Go.Proofs.YtjmipbljoblnnaaDoor.rg r ≤ INF) (hs : Go.Proofs.YtjmipbljoblnnaaDoor.rg s ≤ INF) : Go.Proofs.YtjmipbljoblnnaaDoor.rg x ≤ INF := by
  rcases h.one with e | e | e | e <;> rw [e] <;> assumption
theorem Most.lt {x p q r s : Nat} (h : Most x p q r s) (hp : p < W64) (hq : q < W64) (hr : r < W64) (hs : s < W64) : x < W64 := by
  rcases h.one with e | e | e | e <;> rw [e] <;> assumption
theorem Most.rg {x p q r s : Nat} (h : Most x p q r s) (hp : rg p ≤ INF) (hq : Go.Proofs.YtjmipbljoblnnaaDoor.rg q ≤ INF) (hr : Go.Proofs.YtjmipbljoblnnaaDoor.rg r ≤ INF) (hs : Go.Proofs.YtjmipbljoblnnaaDoor.rg s ≤ INF) : Go.Proofs.YtjmipbljoblnnaaDoor.rg x ≤ INF := by
  rcases h.one with e | e | e | e <;> rw [e] <;> assumption
set_option maxRecDepth 100000 in
set_option maxHeartbeats 1000000 in
theorem around_num {w : World} {p q r s : Nat} (lp : p < W64) (lq : q < W64) (lr : r < W64) (ls : s < W64) (hp : rg p ≤ INF) (hq : rg q ≤ INF) (hr : rg r ≤ INF) (hs : rg s ≤ INF) :
    Calls Tryd.prog 39 #[.float .f64 p, .float .f64 q, .float .f64 r, .float .f64 s] w fun e w' => ∃ x y, e = .returned (G (outLo x y) (outHi x y)) ∧ Least x p q r s ∧ Most y p q r s ∧ Below w.heap.size w w' := by
  obtain ⟨w1, hw1⟩ : ∃ w1, w.alloc (.cells #[.float .f64 0, .float .f64 0] 24) = w1 := ⟨_, rfl⟩
  have hb1 : Below w.heap.size w w1 := hw1 ▸ below_alloc w _
  have hc1 : w1.heap[w.heap.size]? = some (.cells #[.float .f64 0, .float .f64 0] 24 (0, 0)) := hw1 ▸ heap_alloc_new w _
  obtain ⟨x, ex, hx⟩ := min4_run (P := Tryd.prog) #[22, 22, 22, 22] 22 hp hq hr hs w1
  obtain ⟨y, ey, hy⟩ := max4_run (P := Tryd.prog) #[22, 22, 22, 22] 22 hp hq hr hs w1
  have HO := Lib.hid (fun w => outwards_num (w := w) (hx.lt lp lq lr ls) (hy.lt lp lq lr ls) (hx.rg hp hq hr hs) (hy.rg hp hq hr hs))
  have HX := Lib.hid (And.intro hx hy)
  clear hx hy lp lq lr ls hp hq hr hs
  go_enter Tryd.func39, Tryd.ntmps39
  go_wp2_with fail
  refine (HO.out _).mono ?_
  rintro e w2 ⟨rfl, hb2⟩
  have hd1 := slot_kept hc1 hb2
  have hbw2 := hb1.trans (hb2.mono hb1.size)
  obtain ⟨k0, k1, f0, f1⟩ := slot2 hd1
  obtain ⟨hend, hbe⟩ := gap_end (w0 := w) (l := outLo x y) (h := outHi x y) hd1 hbw2 (Nat.le_refl _)
  go_wp2_with fail
  exact bodyPost_ret (results_cell_row rfl _ _ w.heap.size 24 _ (0, 0) _ rfl hend Tryd.underlying24 rfl (by kernel_rfl)) rfl ⟨x, y, rfl, HX.out.1, HX.out.2, hbe⟩
end Go.Proofs.YtjmipbljoblnnaaDoor

namespace Go.Proofs.YtjmipbljoblnnaaDoor
open Go.RowKit

attribute [local go_sem] run_store_float
theorem fop_run {op : BinOp} {x y z : Nat} (h : floatBits op .f64 x y = some z) (w : World) : (binOp op 22 (.float .f64 x) (.float .f64 y)).run Tryd.prog w = .ok (.float .f64 z) w := run_float_arith w op 22 .f64 x y z h
set_option maxRecDepth 100000 in
set_option maxHeartbeats 2000000 in
theorem gadd {w : World} {a b c d : Nat} (ha : a < W64) (hb : b < W64) (hc : c < W64) (hd : d < W64) (hab : KG a b) (hcd : KG c d) :
    Calls Tryd.prog 12 #[G a b, G c d] w fun e w' => RetG w (SumG a b c d) e w' := by
  obtain ⟨x, ex, hx⟩ := add_num hab.lf hcd.lf
  obtain ⟨y, ey, hy⟩ := add_num hab.hf hcd.hf
  have e1 := fop_run ex
  have e2 := fop_run ey
  have HO := Lib.hid (fun w => outwards_num (w := w) hx.lt hy.lt hx.rg hy.rg)
  have HE := Lib.hid (fun hk => out_known hx.lt hy.lt hx.rg hy.rg hk)
  have HL := Lib.hid (out_lt hx.lt hy.lt hx.rg hy.rg)
  have HX := Lib.hid (And.intro hx hy)
  clear ex ey hx hy
  have HK1 := Lib.hid (fun w => gknown_yes (w := w) ha hb hab)
  have HK2 := Lib.hid (fun w => gknown_yes (w := w) hc hd hcd)
  clear ha hb hc hd hab hcd
  obtain ⟨w1, hw1⟩ : ∃ w1, w.alloc (.cells #[.float .f64 a, .float .f64 b] 24) = w1 := ⟨_, rfl⟩
  obtain ⟨w2, hw2⟩ : ∃ w2, w1.alloc (.cells #[.float .f64 c, .float .f64 d] 24) = w2 := ⟨_, rfl⟩
  obtain ⟨w3, hw3⟩ : ∃ w3, w2.alloc (.cells #[.float .f64 0, .float .f64 0] 24) = w3 := ⟨_, rfl⟩
  have hb1 : Below w.heap.size w w1 := hw1 ▸ below_alloc w _
  have hb12 : Below w1.heap.size w1 w2 := hw2 ▸ below_alloc w1 _
  have hb23 : Below w2.heap.size w2 w3 := hw3 ▸ below_alloc w2 _
  have hb2 : Below w.heap.size w w2 := hb1.trans (hb12.mono hb1.size)
  have hb3 : Below w.heap.size w w3 := hb2.trans (hb23.mono hb2.size)
  have hg2 := hb2.size
  have ha3 : w3.heap[w.heap.size]? = some (.cells #[.float .f64 a, .float .f64 b] 24 (0, 0)) := slot_kept (slot_kept (hw1 ▸ heap_alloc_new w _) hb12) hb23
  have hc3 : w3.heap[w1.heap.size]? = some (.cells #[.float .f64 c, .float .f64 d] 24 (0, 0)) := slot_kept (hw2 ▸ heap_alloc_new w1 _) hb23
  have hr3 : w3.heap[w2.heap.size]? = some (.cells #[.float .f64 0, .float .f64 0] 24 (0, 0)) := hw3 ▸ heap_alloc_new w2 _
  clear hb1 hb12 hb23 hb2
  obtain ⟨k0, k1, -, -⟩ := slot2 ha3
  obtain ⟨m0, m1, -, -⟩ := slot2 hc3
  go_enter Tryd.func12, Tryd.ntmps12
  go_wp2_with fail
  refine (HK1.out _).mono ?_
  rintro e w4 ⟨rfl, hb4⟩
  have ha4 := slot_kept ha3 hb4
  have hc4 := slot_kept hc3 hb4
  have hr4 := slot_kept hr3 hb4
  have hbw4 := hb3.trans (hb4.mono hb3.size)
  clear k0 k1 m0 m1 ha3 hc3 hr3 hb4 hb3 HK1
  obtain ⟨k0, k1, -, -⟩ := slot2 ha4
  obtain ⟨m0, m1, -, -⟩ := slot2 hc4
  go_wp2_with fail
  refine (HK2.out _).mono ?_
  rintro e w5 ⟨rfl, hb5⟩
  have ha5 := slot_kept ha4 hb5
  have hc5 := slot_kept hc4 hb5
  have hr5 := slot_kept hr4 hb5
  have hbw5 := hbw4.trans (hb5.mono hbw4.size)
  clear k0 k1 m0 m1 ha4 hc4 hr4 hb5 hbw4 HK2
  obtain ⟨k0, k1, -, -⟩ := slot2 ha5
  obtain ⟨m0, m1, -, -⟩ := slot2 hc5
  go_wp2_with fail
  refine (HO.out _).mono ?_
  rintro e w6 ⟨rfl, hb6⟩
  have hr6 := slot_kept hr5 hb6
  have hbw6 := hbw5.trans (hb6.mono hbw5.size)
  clear k0 k1 m0 m1 ha5 hc5 hr5 hb6 hbw5
  obtain ⟨k0, k1, f0, f1⟩ := slot2 hr6
  obtain ⟨hend, hbe⟩ := gap_end (w0 := w) (l := outLo x y) (h := outHi x y) hr6 hbw6 hg2
  go_wp2_with fail
  refine bodyPost_ret (results_cell_row rfl _ _ w2.heap.size 24 _ (0, 0) _ rfl hend Tryd.underlying24 rfl (by kernel_rfl)) rfl ?_
  exact ⟨_, _, rfl, HL.out.1, HL.out.2, fun hk => by
    obtain ⟨h1, h2, h3, h4, h5, h6⟩ := HE.out hk
    exact sum_ends HX.out.1 HX.out.2 h1 h3 h5 h2 h4 h6, hbe⟩
/-- The ends of a difference. -/
theorem less_ends {a b c d x y l h : Nat} (hx : NearTo x (fv a - fv d)) (hy : NearTo y (fv b - fv c)) (hl : l < W64) (hlr : rg l ≤ INF) (hlx : fv l < fv x) (hh : h < W64) (hhr : rg h ≤ INF) (hhy : fv y < fv h) : LessG a b c d l h := by
  intro X Y hX hY
  have h1 := near_under1 hx hl hlr hlx
  have h2 := near_over1 hy hh hhr hhy
  unfold InG at hX hY
  omega
set_option maxRecDepth 100000 in
set_option maxHeartbeats 2000000 in
theorem gsub {w : World} {a b c d : Nat} (ha : a < W64) (hb : b < W64) (hc : c < W64) (hd : d < W64) (hab : KG a b) (hcd : KG c d) :
    Calls Tryd.prog 14 #[G a b, G c d] w fun e w' => RetG w (LessG a b c d) e w' := by
  obtain ⟨x, ex, hx⟩ := fsubr_num hab.lf hcd.hf
  obtain ⟨y, ey, hy⟩ := fsubr_num hab.hf hcd.lf
  have e1 := fop_run ex
  have e2 := fop_run ey
  have HO := Lib.hid (fun w => outwards_num (w := w) hx.lt hy.lt hx.rg hy.rg)
  have HE := Lib.hid (fun hk => out_known hx.lt hy.lt hx.rg hy.rg hk)
  have HL := Lib.hid (out_lt hx.lt hy.lt hx.rg hy.rg)
  have HX := Lib.hid (And.intro hx hy)
  clear ex ey hx hy
  have HK1 := Lib.hid (fun w => gknown_yes (w := w) ha hb hab)
  have HK2 := Lib.hid (fun w => gknown_yes (w := w) hc hd hcd)
  clear ha hb hc hd hab hcd
  obtain ⟨w1, hw1⟩ : ∃ w1, w.alloc (.cells #[.float .f64 a, .float .f64 b] 24) = w1 := ⟨_, rfl⟩
  obtain ⟨w2, hw2⟩ : ∃ w2, w1.alloc (.cells #[.float .f64 c, .float .f64 d] 24) = w2 := ⟨_, rfl⟩
  obtain ⟨w3, hw3⟩ : ∃ w3, w2.alloc (.cells #[.float .f64 0, .float .f64 0] 24) = w3 := ⟨_, rfl⟩
  have hb1 : Below w.heap.size w w1 := hw1 ▸ below_alloc w _
  have hb12 : Below w1.heap.size w1 w2 := hw2 ▸ below_alloc w1 _
  have hb23 : Below w2.heap.size w2 w3 := hw3 ▸ below_alloc w2 _
  have hb2 : Below w.heap.size w w2 := hb1.trans (hb12.mono hb1.size)
  have hb3 : Below w.heap.size w w3 := hb2.trans (hb23.mono hb2.size)
  have hg2 := hb2.size
  have ha3 : w3.heap[w.heap.size]? = some (.cells #[.float .f64 a, .float .f64 b] 24 (0, 0)) := slot_kept (slot_kept (hw1 ▸ heap_alloc_new w _) hb12) hb23
  have hc3 : w3.heap[w1.heap.size]? = some (.cells #[.float .f64 c, .float .f64 d] 24 (0, 0)) := slot_kept (hw2 ▸ heap_alloc_new w1 _) hb23
  have hr3 : w3.heap[w2.heap.size]? = some (.cells #[.float .f64 0, .float .f64 0] 24 (0, 0)) := hw3 ▸ heap_alloc_new w2 _
  clear hb1 hb12 hb23 hb2
  obtain ⟨k0, k1, -, -⟩ := slot2 ha3
  obtain ⟨m0, m1, -, -⟩ := slot2 hc3
  go_enter Tryd.func14, Tryd.ntmps14
  go_wp2_with fail
  refine (HK1.out _).mono ?_
  rintro e w4 ⟨rfl, hb4⟩
  have ha4 := slot_kept ha3 hb4
  have hc4 := slot_kept hc3 hb4
  have hr4 := slot_kept hr3 hb4
  have hbw4 := hb3.trans (hb4.mono hb3.size)
  clear k0 k1 m0 m1 ha3 hc3 hr3 hb4 hb3 HK1
  obtain ⟨k0, k1, -, -⟩ := slot2 ha4
  obtain ⟨m0, m1, -, -⟩ := slot2 hc4
  go_wp2_with fail
  refine (HK2.out _).mono ?_
  rintro e w5 ⟨rfl, hb5⟩
  have ha5 := slot_kept ha4 hb5
  have hc5 := slot_kept hc4 hb5
  have hr5 := slot_kept hr4 hb5
  have hbw5 := hbw4.trans (hb5.mono hbw4.size)
  clear k0 k1 m0 m1 ha4 hc4 hr4 hb5 hbw4 HK2
  obtain ⟨k0, k1, -, -⟩ := slot2 ha5
  obtain ⟨m0, m1, -, -⟩ := slot2 hc5
  go_wp2_with fail
  refine (HO.out _).mono ?_
  rintro e w6 ⟨rfl, hb6⟩
  have hr6 := slot_kept hr5 hb6
  have hbw6 := hbw5.trans (hb6.mono hbw5.size)
  clear k0 k1 m0 m1 ha5 hc5 hr5 hb6 hbw5
  obtain ⟨k0, k1, f0, f1⟩ := slot2 hr6
  obtain ⟨hend, hbe⟩ := gap_end (w0 := w) (l := outLo x y) (h := outHi x y) hr6 hbw6 hg2
  go_wp2_with fail
  refine bodyPost_ret (results_cell_row rfl _ _ w2.heap.size 24 _ (0, 0) _ rfl hend Tryd.underlying24 rfl (by kernel_rfl)) rfl ?_
  exact ⟨_, _, rfl, HL.out.1, HL.out.2, fun hk => by
    obtain ⟨h1, h2, h3, h4, h5, h6⟩ := HE.out hk
    exact less_ends HX.out.1 HX.out.2 h1 h3 h5 h2 h4 h6, hbe⟩
/-- Package gap's product (quotient) of four corners. -/
def FourG (op : BinOp) (N : Nat → Nat → Nat → Prop) (w : World) (a b c d : Nat) (e : Ending) (w' : World) : Prop := ∃ p q r s x y, e = .returned (G (outLo x y) (outHi x y)) ∧ (floatBits op .f64 a c = some p ∧ floatBits op .f64 a d = some q ∧ floatBits op .f64 b c = some r ∧ floatBits op .f64 b d = some s) ∧
    (N p a c ∧ N q a d ∧ N r b c ∧ N s b d) ∧ Least x p q r s ∧ Most y p q r s ∧ Below w.heap.size w w'
def NearM (x b c : Nat) : Prop := NearR x (fv b * fv c) (2 ^ 1074)
def NearQ (x b c : Nat) : Prop := NearR x ((if fneg c then -1 else 1) * fv b * (2 ^ 1074 : Nat)) (un (rg c))
set_option maxRecDepth 100000 in
set_option maxHeartbeats 2000000 in
theorem gmul4 {w : World} {a b c d : Nat} (ha : a < W64) (hb : b < W64) (hc : c < W64) (hd : d < W64) (hab : KG a b) (hcd : KG c d) :
    Calls Tryd.prog 15 #[G a b, G c d] w fun e w' => FourG .mul NearM w a b c d e w' := by
  obtain ⟨p, ep, hp⟩ := fmul_num (K := 1074) hab.lf hcd.lf rfl
  obtain ⟨q, eq, hq⟩ := fmul_num (K := 1074) hab.lf hcd.hf rfl
  obtain ⟨r, er, hr⟩ := fmul_num (K := 1074) hab.hf hcd.lf rfl
  obtain ⟨s, es, hs⟩ := fmul_num (K := 1074) hab.hf hcd.hf rfl
  have e1 := fop_run ep
  have e2 := fop_run eq
  have e3 := fop_run er
  have e4 := fop_run es
  have HO := Lib.hid (fun w => around_num (w := w) hp.lt hq.lt hr.lt hs.lt hp.rg hq.rg hr.rg hs.rg)
  have HE := Lib.hid (And.intro ep (And.intro eq (And.intro er es)))
  have HX := Lib.hid (And.intro hp (And.intro hq (And.intro hr hs)))
  clear ep eq er es hp hq hr hs
  have HK1 := Lib.hid (fun w => gknown_yes (w := w) ha hb hab)
  have HK2 := Lib.hid (fun w => gknown_yes (w := w) hc hd hcd)
  clear ha hb hc hd hab hcd
  obtain ⟨w1, hw1⟩ : ∃ w1, w.alloc (.cells #[.float .f64 a, .float .f64 b] 24) = w1 := ⟨_, rfl⟩
  obtain ⟨w2, hw2⟩ : ∃ w2, w1.alloc (.cells #[.float .f64 c, .float .f64 d] 24) = w2 := ⟨_, rfl⟩
  obtain ⟨w3, hw3⟩ : ∃ w3, w2.alloc (.cells #[.float .f64 0, .float .f64 0] 24) = w3 := ⟨_, rfl⟩
  have hb1 : Below w.heap.size w w1 := hw1 ▸ below_alloc w _
  have hb12 : Below w1.heap.size w1 w2 := hw2 ▸ below_alloc w1 _
  have hb23 : Below w2.heap.size w2 w3 := hw3 ▸ below_alloc w2 _
  have hb2 : Below w.heap.size w w2 := hb1.trans (hb12.mono hb1.size)
  have hb3 : Below w.heap.size w w3 := hb2.trans (hb23.mono hb2.size)
  have hg2 := hb2.size
  have ha3 : w3.heap[w.heap.size]? = some (.cells #[.float .f64 a, .float .f64 b] 24 (0, 0)) := slot_kept (slot_kept (hw1 ▸ heap_alloc_new w _) hb12) hb23
  have hc3 : w3.heap[w1.heap.size]? = some (.cells #[.float .f64 c, .float .f64 d] 24 (0, 0)) := slot_kept (hw2 ▸ heap_alloc_new w1 _) hb23
  have hr3 : w3.heap[w2.heap.size]? = some (.cells #[.float .f64 0, .float .f64 0] 24 (0, 0)) := hw3 ▸ heap_alloc_new w2 _
  clear hb1 hb12 hb23 hb2
  obtain ⟨k0, k1, -, -⟩ := slot2 ha3
  obtain ⟨m0, m1, -, -⟩ := slot2 hc3
  go_enter Tryd.func15, Tryd.ntmps15
  go_wp2_with fail
  refine (HK1.out _).mono ?_
  rintro e w4 ⟨rfl, hb4⟩
  have ha4 := slot_kept ha3 hb4
  have hc4 := slot_kept hc3 hb4
  have hr4 := slot_kept hr3 hb4
  have hbw4 := hb3.trans (hb4.mono hb3.size)
  clear k0 k1 m0 m1 ha3 hc3 hr3 hb4 hb3 HK1
  obtain ⟨k0, k1, -, -⟩ := slot2 ha4
  obtain ⟨m0, m1, -, -⟩ := slot2 hc4
  go_wp2_with fail
  refine (HK2.out _).mono ?_
  rintro e w5 ⟨rfl, hb5⟩
  have ha5 := slot_kept ha4 hb5
  have hc5 := slot_kept hc4 hb5
  have hr5 := slot_kept hr4 hb5
  have hbw5 := hbw4.trans (hb5.mono hbw4.size)
  clear k0 k1 m0 m1 ha4 hc4 hr4 hb5 hbw4 HK2
  obtain ⟨k0, k1, -, -⟩ := slot2 ha5
  obtain ⟨m0, m1, -, -⟩ := slot2 hc5
  go_wp2_with fail
  refine (HO.out _).mono ?_
  rintro e w6 ⟨x, y, rfl, hx, hy, hb6⟩
  have HM := Lib.hid (And.intro hx hy)
  clear hx hy
  have hr6 := slot_kept hr5 hb6
  have hbw6 := hbw5.trans (hb6.mono hbw5.size)
  clear k0 k1 m0 m1 ha5 hc5 hr5 hb6 hbw5
  obtain ⟨k0, k1, f0, f1⟩ := slot2 hr6
  obtain ⟨hend, hbe⟩ := gap_end (w0 := w) (l := outLo x y) (h := outHi x y) hr6 hbw6 hg2
  go_wp2_with fail
  refine bodyPost_ret (results_cell_row rfl _ _ w2.heap.size 24 _ (0, 0) _ rfl hend Tryd.underlying24 rfl (by kernel_rfl)) rfl ?_
  exact ⟨p, q, r, s, x, y, rfl, HE.out, HX.out, HM.out.1, HM.out.2, hbe⟩
theorem gmul {w : World} {a b c d : Nat} (ha : a < W64) (hb : b < W64) (hc : c < W64) (hd : d < W64) (hab : KG a b) (hcd : KG c d) :
    Calls Tryd.prog 15 #[G a b, G c d] w fun e w' => RetG w (MulG a b c d) e w' := by
  refine (gmul4 ha hb hc hd hab hcd).mono ?_
  rintro e w' ⟨p, q, r, s, x, y, rfl, -, ⟨hp, hq, hr, hs⟩, hx, hy, hb⟩
  have lx := hx.lt hp.lt hq.lt hr.lt hs.lt
  have ly := hy.lt hp.lt hq.lt hr.lt hs.lt
  have rx := hx.rg hp.rg hq.rg hr.rg hs.rg
  have ry := hy.rg hp.rg hq.rg hr.rg hs.rg
  refine ⟨_, _, rfl, (out_lt lx ly rx ry).1, (out_lt lx ly rx ry).2, fun hk => ?_, hb⟩
  obtain ⟨h1, h2, h3, h4, h5, h6⟩ := out_known lx ly rx ry hk
  have := hx.p
  have := hx.q
  have := hx.r
  have := hx.s
  have := hy.p
  have := hy.q
  have := hy.r
  have := hy.s
  exact mul_ends (K := 1074) rfl hp hq hr hs h1 h3 (by omega) (by omega) (by omega) (by omega) h2 h4 (by omega) (by omega) (by omega) (by omega)
end Go.Proofs.YtjmipbljoblnnaaDoor

namespace Go.Proofs.YtjmipbljoblnnaaDoor
open Go.RowKit

attribute [local go_sem] run_store_float
theorem fge_num {a b : Nat} (ha : rg a ≤ INF) (hb : rg b ≤ INF) : ((FloatKind.f64.format.order a b == some .gt) || (FloatKind.f64.format.order a b == some .eq)) = decide (fv b ≤ fv a) := by
  rw [fgt_num ha hb, feq_num ha hb]
  by_cases h : fv b ≤ fv a
  · rw [decide_eq_true h]
    rcases Int.lt_or_eq_of_le h with h1 | h1
    · rw [decide_eq_true h1]; rfl
    · rw [decide_eq_true h1.symm, Bool.or_true]
  · rw [decide_eq_false h, decide_eq_false (by omega), decide_eq_false (by omega)]; rfl
theorem un_pos {c : Nat} (h : fv c ≠ 0) : un (rg c) ≠ 0 := by
  rcases fv_cases c with ⟨-, e⟩ | ⟨-, e⟩ <;> omega
set_option maxRecDepth 100000 in
set_option maxHeartbeats 2000000 in
theorem gquo4a {w : World} {a b c d : Nat} (ha : a < W64) (hb : b < W64) (hc : c < W64) (hd : d < W64) (hab : KG a b) (hcd : KG c d) (h0 : 0 < fv c) :
    Calls Tryd.prog 16 #[G a b, G c d] w fun e w' => FourG .quo NearQ w a b c d e w' := by
  have hcle := hcd.le
  have z0 : rg 0 ≤ INF := by decide
  have f0 : fv 0 = 0 := by decide
  have hle := fle_num (Nat.le_of_lt hcd.lf) z0
  have hge := fge_num (Nat.le_of_lt hcd.hf) z0
  rw [f0] at hle hge
  rw [decide_eq_false (show ¬ fv c ≤ 0 by omega)] at hle
  obtain ⟨p, ep, hp⟩ := fquo_num (K := 1074) hab.lf hcd.lf (un_pos (by omega)) rfl
  obtain ⟨q, eq, hq⟩ := fquo_num (K := 1074) hab.lf hcd.hf (un_pos (by omega)) rfl
  obtain ⟨r, er, hr⟩ := fquo_num (K := 1074) hab.hf hcd.lf (un_pos (by omega)) rfl
  obtain ⟨s, es, hs⟩ := fquo_num (K := 1074) hab.hf hcd.hf (un_pos (by omega)) rfl
  have e1 := fop_run ep
  have e2 := fop_run eq
  have e3 := fop_run er
  have e4 := fop_run es
  have HO := Lib.hid (fun w => around_num (w := w) hp.lt hq.lt hr.lt hs.lt hp.rg hq.rg hr.rg hs.rg)
  have HE := Lib.hid (And.intro ep (And.intro eq (And.intro er es)))
  have HX := Lib.hid (And.intro hp (And.intro hq (And.intro hr hs)))
  clear ep eq er es hp hq hr hs
  clear hge hcle h0
  have HK1 := Lib.hid (fun w => gknown_yes (w := w) ha hb hab)
  have HK2 := Lib.hid (fun w => gknown_yes (w := w) hc hd hcd)
  clear ha hb hc hd hab hcd
  obtain ⟨w1, hw1⟩ : ∃ w1, w.alloc (.cells #[.float .f64 a, .float .f64 b] 24) = w1 := ⟨_, rfl⟩
  obtain ⟨w2, hw2⟩ : ∃ w2, w1.alloc (.cells #[.float .f64 c, .float .f64 d] 24) = w2 := ⟨_, rfl⟩
  obtain ⟨w3, hw3⟩ : ∃ w3, w2.alloc (.cells #[.float .f64 0, .float .f64 0] 24) = w3 := ⟨_, rfl⟩
  have hb1 : Below w.heap.size w w1 := hw1 ▸ below_alloc w _
  have hb12 : Below w1.heap.size w1 w2 := hw2 ▸ below_alloc w1 _
  have hb23 : Below w2.heap.size w2 w3 := hw3 ▸ below_alloc w2 _
  have hb2 : Below w.heap.size w w2 := hb1.trans (hb12.mono hb1.size)
  have hb3 : Below w.heap.size w w3 := hb2.trans (hb23.mono hb2.size)
  have hg2 := hb2.size
  have ha3 : w3.heap[w.heap.size]? = some (.cells #[.float .f64 a, .float .f64 b] 24 (0, 0)) := slot_kept (slot_kept (hw1 ▸ heap_alloc_new w _) hb12) hb23
  have hc3 : w3.heap[w1.heap.size]? = some (.cells #[.float .f64 c, .float .f64 d] 24 (0, 0)) := slot_kept (hw2 ▸ heap_alloc_new w1 _) hb23
  have hr3 : w3.heap[w2.heap.size]? = some (.cells #[.float .f64 0, .float .f64 0] 24 (0, 0)) := hw3 ▸ heap_alloc_new w2 _
  clear hb1 hb12 hb23 hb2
  obtain ⟨k0, k1, -, -⟩ := slot2 ha3
  obtain ⟨m0, m1, -, -⟩ := slot2 hc3
  go_enter Tryd.func16, Tryd.ntmps16
  go_wp2_with fail
  refine (HK1.out _).mono ?_
  rintro e w4 ⟨rfl, hb4⟩
  have ha4 := slot_kept ha3 hb4
  have hc4 := slot_kept hc3 hb4
  have hr4 := slot_kept hr3 hb4
  have hbw4 := hb3.trans (hb4.mono hb3.size)
  clear k0 k1 m0 m1 ha3 hc3 hr3 hb4 hb3 HK1
  obtain ⟨k0, k1, -, -⟩ := slot2 ha4
  obtain ⟨m0, m1, -, -⟩ := slot2 hc4
  go_wp2_with fail
  refine (HK2.out _).mono ?_
  rintro e w5 ⟨rfl, hb5⟩
  have ha5 := slot_kept ha4 hb5
  have hc5 := slot_kept hc4 hb5
  have hr5 := slot_kept hr4 hb5
  have hbw5 := hbw4.trans (hb5.mono hbw4.size)
  clear k0 k1 m0 m1 ha4 hc4 hr4 hb5 hbw4 HK2
  obtain ⟨k0, k1, -, -⟩ := slot2 ha5
  obtain ⟨m0, m1, -, -⟩ := slot2 hc5
  go_wp2_with fail
  refine (HO.out _).mono ?_
  rintro e w6 ⟨x, y, rfl, hx, hy, hb6⟩
  have HM := Lib.hid (And.intro hx hy)
  clear hx hy
  have hr6 := slot_kept hr5 hb6
  have hbw6 := hbw5.trans (hb6.mono hbw5.size)
  clear k0 k1 m0 m1 ha5 hc5 hr5 hb6 hbw5
  obtain ⟨k0, k1, f0, f1⟩ := slot2 hr6
  obtain ⟨hend, hbe⟩ := gap_end (w0 := w) (l := outLo x y) (h := outHi x y) hr6 hbw6 hg2
  go_wp2_with fail
  refine bodyPost_ret (results_cell_row rfl _ _ w2.heap.size 24 _ (0, 0) _ rfl hend Tryd.underlying24 rfl (by kernel_rfl)) rfl ?_
  exact ⟨p, q, r, s, x, y, rfl, HE.out, HX.out, HM.out.1, HM.out.2, hbe⟩
set_option maxRecDepth 100000 in
set_option maxHeartbeats 2000000 in
theorem gquo4b {w : World} {a b c d : Nat} (ha : a < W64) (hb : b < W64) (hc : c < W64) (hd : d < W64) (hab : KG a b) (hcd : KG c d) (h0 : fv d < 0) :
    Calls Tryd.prog 16 #[G a b, G c d] w fun e w' => FourG .quo NearQ w a b c d e w' := by
  have hcle := hcd.le
  have z0 : rg 0 ≤ INF := by decide
  have f0 : fv 0 = 0 := by decide
  have hle := fle_num (Nat.le_of_lt hcd.lf) z0
  have hge := fge_num (Nat.le_of_lt hcd.hf) z0
  rw [f0] at hle hge
  rw [decide_eq_true (show fv c ≤ 0 by omega)] at hle
  rw [decide_eq_false (show ¬ 0 ≤ fv d by omega)] at hge
  obtain ⟨p, ep, hp⟩ := fquo_num (K := 1074) hab.lf hcd.lf (un_pos (by omega)) rfl
  obtain ⟨q, eq, hq⟩ := fquo_num (K := 1074) hab.lf hcd.hf (un_pos (by omega)) rfl
  obtain ⟨r, er, hr⟩ := fquo_num (K := 1074) hab.hf hcd.lf (un_pos (by omega)) rfl
  obtain ⟨s, es, hs⟩ := fquo_num (K := 1074) hab.hf hcd.hf (un_pos (by omega)) rfl
  have e1 := fop_run ep
  have e2 := fop_run eq
  have e3 := fop_run er
  have e4 := fop_run es
  have HO := Lib.hid (fun w => around_num (w := w) hp.lt hq.lt hr.lt hs.lt hp.rg hq.rg hr.rg hs.rg)
  have HE := Lib.hid (And.intro ep (And.intro eq (And.intro er es)))
  have HX := Lib.hid (And.intro hp (And.intro hq (And.intro hr hs)))
  clear ep eq er es hp hq hr hs
  clear hcle h0
  have HK1 := Lib.hid (fun w => gknown_yes (w := w) ha hb hab)
  have HK2 := Lib.hid (fun w => gknown_yes (w := w) hc hd hcd)
  clear ha hb hc hd hab hcd
  obtain ⟨w1, hw1⟩ : ∃ w1, w.alloc (.cells #[.float .f64 a, .float .f64 b] 24) = w1 := ⟨_, rfl⟩
  obtain ⟨w2, hw2⟩ : ∃ w2, w1.alloc (.cells #[.float .f64 c, .float .f64 d] 24) = w2 := ⟨_, rfl⟩
  obtain ⟨w3, hw3⟩ : ∃ w3, w2.alloc (.cells #[.float .f64 0, .float .f64 0] 24) = w3 := ⟨_, rfl⟩
  have hb1 : Below w.heap.size w w1 := hw1 ▸ below_alloc w _
  have hb12 : Below w1.heap.size w1 w2 := hw2 ▸ below_alloc w1 _
  have hb23 : Below w2.heap.size w2 w3 := hw3 ▸ below_alloc w2 _
  have hb2 : Below w.heap.size w w2 := hb1.trans (hb12.mono hb1.size)
  have hb3 : Below w.heap.size w w3 := hb2.trans (hb23.mono hb2.size)
  have hg2 := hb2.size
  have ha3 : w3.heap[w.heap.size]? = some (.cells #[.float .f64 a, .float .f64 b] 24 (0, 0)) := slot_kept (slot_kept (hw1 ▸ heap_alloc_new w _) hb12) hb23
  have hc3 : w3.heap[w1.heap.size]? = some (.cells #[.float .f64 c, .float .f64 d] 24 (0, 0)) := slot_kept (hw2 ▸ heap_alloc_new w1 _) hb23
  have hr3 : w3.heap[w2.heap.size]? = some (.cells #[.float .f64 0, .float .f64 0] 24 (0, 0)) := hw3 ▸ heap_alloc_new w2 _
  clear hb1 hb12 hb23 hb2
  obtain ⟨k0, k1, -, -⟩ := slot2 ha3
  obtain ⟨m0, m1, -, -⟩ := slot2 hc3
  go_enter Tryd.func16, Tryd.ntmps16
  go_wp2_with fail
  refine (HK1.out _).mono ?_
  rintro e w4 ⟨rfl, hb4⟩
  have ha4 := slot_kept ha3 hb4
  have hc4 := slot_kept hc3 hb4
  have hr4 := slot_kept hr3 hb4
  have hbw4 := hb3.trans (hb4.mono hb3.size)
  clear k0 k1 m0 m1 ha3 hc3 hr3 hb4 hb3 HK1
  obtain ⟨k0, k1, -, -⟩ := slot2 ha4
  obtain ⟨m0, m1, -, -⟩ := slot2 hc4
  go_wp2_with fail
  refine (HK2.out _).mono ?_
  rintro e w5 ⟨rfl, hb5⟩
  have ha5 := slot_kept ha4 hb5
  have hc5 := slot_kept hc4 hb5
  have hr5 := slot_kept hr4 hb5
  have hbw5 := hbw4.trans (hb5.mono hbw4.size)
  clear k0 k1 m0 m1 ha4 hc4 hr4 hb5 hbw4 HK2
  obtain ⟨k0, k1, -, -⟩ := slot2 ha5
  obtain ⟨m0, m1, -, -⟩ := slot2 hc5
  go_wp2_with fail
  refine (HO.out _).mono ?_
  rintro e w6 ⟨x, y, rfl, hx, hy, hb6⟩
  have HM := Lib.hid (And.intro hx hy)
  clear hx hy
  have hr6 := slot_kept hr5 hb6
  have hbw6 := hbw5.trans (hb6.mono hbw5.size)
  clear k0 k1 m0 m1 ha5 hc5 hr5 hb6 hbw5
  obtain ⟨k0, k1, f0, f1⟩ := slot2 hr6
  obtain ⟨hend, hbe⟩ := gap_end (w0 := w) (l := outLo x y) (h := outHi x y) hr6 hbw6 hg2
  go_wp2_with fail
  refine bodyPost_ret (results_cell_row rfl _ _ w2.heap.size 24 _ (0, 0) _ rfl hend Tryd.underlying24 rfl (by kernel_rfl)) rfl ?_
  exact ⟨p, q, r, s, x, y, rfl, HE.out, HX.out, HM.out.1, HM.out.2, hbe⟩
set_option maxRecDepth 100000 in
set_option maxHeartbeats 2000000 in
theorem gquo0 {w : World} {a b c d : Nat} (ha : a < W64) (hb : b < W64) (hc : c < W64) (hd : d < W64) (hab : KG a b) (hcd : KG c d) (h0 : fv c ≤ 0) (h1 : 0 ≤ fv d) :
    Calls Tryd.prog 16 #[G a b, G c d] w fun e w' => e = .returned (G (9223372036854775808 + INF) INF) ∧ Below w.heap.size w w' := by
  have hcle := hcd.le
  have z0 : rg 0 ≤ INF := by decide
  have f0 : fv 0 = 0 := by decide
  have hle := fle_num (Nat.le_of_lt hcd.lf) z0
  have hge := fge_num (Nat.le_of_lt hcd.hf) z0
  rw [f0] at hle hge
  rw [decide_eq_true h0] at hle
  rw [decide_eq_true h1] at hge
  clear hcle h0 h1
  have HK1 := Lib.hid (fun w => gknown_yes (w := w) ha hb hab)
  have HK2 := Lib.hid (fun w => gknown_yes (w := w) hc hd hcd)
  clear ha hb hc hd hab hcd
  obtain ⟨w1, hw1⟩ : ∃ w1, w.alloc (.cells #[.float .f64 a, .float .f64 b] 24) = w1 := ⟨_, rfl⟩
  obtain ⟨w2, hw2⟩ : ∃ w2, w1.alloc (.cells #[.float .f64 c, .float .f64 d] 24) = w2 := ⟨_, rfl⟩
  obtain ⟨w3, hw3⟩ : ∃ w3, w2.alloc (.cells #[.float .f64 0, .float .f64 0] 24) = w3 := ⟨_, rfl⟩
  have hb1 : Below w.heap.size w w1 := hw1 ▸ below_alloc w _
  have hb12 : Below w1.heap.size w1 w2 := hw2 ▸ below_alloc w1 _
  have hb23 : Below w2.heap.size w2 w3 := hw3 ▸ below_alloc w2 _
  have hb2 : Below w.heap.size w w2 := hb1.trans (hb12.mono hb1.size)
  have hb3 : Below w.heap.size w w3 := hb2.trans (hb23.mono hb2.size)
  have hg2 := hb2.size
  have ha3 : w3.heap[w.heap.size]? = some (.cells #[.float .f64 a, .float .f64 b] 24 (0, 0)) := slot_kept (slot_kept (hw1 ▸ heap_alloc_new w _) hb12) hb23
  have hc3 : w3.heap[w1.heap.size]? = some (.cells #[.float .f64 c, .float .f64 d] 24 (0, 0)) := slot_kept (hw2 ▸ heap_alloc_new w1 _) hb23
  have hr3 : w3.heap[w2.heap.size]? = some (.cells #[.float .f64 0, .float .f64 0] 24 (0, 0)) := hw3 ▸ heap_alloc_new w2 _
  clear hb1 hb12 hb23 hb2
  obtain ⟨k0, k1, -, -⟩ := slot2 ha3
  obtain ⟨m0, m1, -, -⟩ := slot2 hc3
  go_enter Tryd.func16, Tryd.ntmps16
  go_wp2_with fail
  refine (HK1.out _).mono ?_
  rintro e w4 ⟨rfl, hb4⟩
  have ha4 := slot_kept ha3 hb4
  have hc4 := slot_kept hc3 hb4
  have hr4 := slot_kept hr3 hb4
  have hbw4 := hb3.trans (hb4.mono hb3.size)
  clear k0 k1 m0 m1 ha3 hc3 hr3 hb4 hb3 HK1
  obtain ⟨k0, k1, -, -⟩ := slot2 ha4
  obtain ⟨m0, m1, -, -⟩ := slot2 hc4
  go_wp2_with fail
  refine (HK2.out _).mono ?_
  rintro e w5 ⟨rfl, hb5⟩
  have ha5 := slot_kept ha4 hb5
  have hc5 := slot_kept hc4 hb5
  have hr5 := slot_kept hr4 hb5
  have hbw5 := hbw4.trans (hb5.mono hbw4.size)
  clear k0 k1 m0 m1 ha4 hc4 hr4 hb5 hbw4 HK2
  obtain ⟨k0, k1, -, -⟩ := slot2 ha5
  obtain ⟨m0, m1, -, -⟩ := slot2 hc5
  go_wp2_with fail
  refine (gall _).mono ?_
  rintro e w6 ⟨rfl, hb6⟩
  have hr6 := slot_kept hr5 hb6
  have hbw6 := hbw5.trans (hb6.mono hbw5.size)
  clear k0 k1 m0 m1 ha5 hc5 hr5 hb6 hbw5
  obtain ⟨k0, k1, f0, f1⟩ := slot2 hr6
  obtain ⟨hend, hbe⟩ := gap_end (w0 := w) (l := 9223372036854775808 + INF) (h := INF) hr6 hbw6 hg2
  go_wp2_with fail
  refine bodyPost_ret (results_cell_row rfl _ _ w2.heap.size 24 _ (0, 0) _ rfl hend Tryd.underlying24 rfl (by kernel_rfl)) rfl ?_
  exact ⟨rfl, hbe⟩
theorem gquo {w : World} {a b c d : Nat} (ha : a < W64) (hb : b < W64) (hc : c < W64) (hd : d < W64) (hab : KG a b) (hcd : KG c d) :
    Calls Tryd.prog 16 #[G a b, G c d] w fun e w' => RetG w (QuoG a b c d) e w' := by
  have key : (0 < fv c ∨ fv d < 0) → ∀ e w', FourG .quo NearQ w a b c d e w' → RetG w (QuoG a b c d) e w' := by
    rintro hcd0 e w' ⟨p, q, r, s, x, y, rfl, -, ⟨hp, hq, hr, hs⟩, hx, hy, hb⟩
    have lx := hx.lt hp.lt hq.lt hr.lt hs.lt
    have ly := hy.lt hp.lt hq.lt hr.lt hs.lt
    have rx := hx.rg hp.rg hq.rg hr.rg hs.rg
    have ry := hy.rg hp.rg hq.rg hr.rg hs.rg
    refine ⟨_, _, rfl, (out_lt lx ly rx ry).1, (out_lt lx ly rx ry).2, fun hk => ?_, hb⟩
    obtain ⟨h1, h2, h3, h4, h5, h6⟩ := out_known lx ly rx ry hk
    have := hx.p
    have := hx.q
    have := hx.r
    have := hx.s
    have := hy.p
    have := hy.q
    have := hy.r
    have := hy.s
    exact quo_ends (K := 1074) rfl hcd0 hcd.le hp hq hr hs h1 h3 (by omega) (by omega) (by omega) (by omega) h2 h4 (by omega) (by omega) (by omega) (by omega)
  rcases Int.lt_or_le 0 (fv c) with h0 | h0
  · exact (gquo4a ha hb hc hd hab hcd h0).mono (key (Or.inl h0))
  · rcases Int.lt_or_le (fv d) 0 with h1 | h1
    · exact (gquo4b ha hb hc hd hab hcd h1).mono (key (Or.inr h1))
    · refine (gquo0 ha hb hc hd hab hcd h0 h1).mono ?_
      rintro e w' ⟨rfl, hb⟩
      exact ⟨_, _, rfl, by decide, by decide, fun hk => absurd hk.hf (by decide), hb⟩
end Go.Proofs.YtjmipbljoblnnaaDoor

namespace Go.Proofs.YtjmipbljoblnnaaDoor
open Go.RowKit

attribute [local go_sem] run_store_float
theorem sqrt_run {b x : Nat} (h : Ieee.double.sqrt b = some x) (w : World) : (callFunc 53 #[.float .f64 b]).run Tryd.prog w = .ok (.value (.float .f64 x)) w := by
  rw [run_callFunc_extern Tryd.func53 (by kernel_rfl) (by kernel_rfl) (by kernel_rfl) (e := Extern.MathSqrt.sqrt) (by kernel_rfl)]
  have h' : FloatKind.f64.format.sqrt b = some x := h
  have e : Extern.MathSqrt.sqrt #[.float .f64 b] = (match FloatKind.f64.format.sqrt b with | some r => pure (.float .f64 r) | none => do pure (.float .f64 (← choose (.nanBits .f64 b b)))) := rfl
  rw [e, h']
  rfl
set_option maxRecDepth 100000 in
theorem msqrt_num {b x : Nat} (h : Ieee.double.sqrt b = some x) (w : World) : Calls Tryd.prog 45 #[.float .f64 b] w fun e w' => RetB w (.float .f64 x) e w' := by
  have hr := sqrt_run h
  clear h
  go_enter Tryd.func45, Tryd.ntmps45
  go_wp2_with fail
  go_ret
  exact ⟨rfl, rfl⟩
theorem maxz_run {P : Program} (ts : Array TypeId) (t : TypeId) {b : Nat} (hb : rg b ≤ INF) : ∃ x, (∀ w, (Builtin.max_ ts t #[.float .f64 b, .float .f64 0]).run P w = .ok (.float .f64 x) w) ∧ (x = b ∨ x = 0) ∧ fv b ≤ fv x := by
  have h0 : rg 0 ≤ INF := by decide
  have ho : FloatKind.f64.format.order b 0 = some (compare (fv b) (fv 0)) := order_num hb h0
  rcases Int.lt_trichotomy (fv b) (fv 0) with h | h | h
  · exact ⟨0, fun w => by simp [Builtin.max_, Builtin.max2, ho, cmp_int_lt h], Or.inr rfl, by omega⟩
  · refine ⟨if (FloatKind.f64.decode b).neg then 0 else b, fun w => by simp [Builtin.max_, Builtin.max2, ho, cmp_int_eq h], ?_, ?_⟩ <;> split
    · exact Or.inr rfl
    · exact Or.inl rfl
    · omega
    · omega
  · exact ⟨b, fun w => by simp [Builtin.max_, Builtin.max2, ho, cmp_int_gt h], Or.inl rfl, Int.le_refl _⟩
/-- A new variable of a gap. -/
def IsNewG (base : Nat) (v : Value) (w : World) : Prop := ∃ g, v = .pointer (some ⟨g, 0, none⟩) ∧ w.heap[g]? = some (.cells #[.float .f64 0, .float .f64 0] 24 (0, 0)) ∧ base ≤ g
theorem IsNewG.keeps (base : Nat) : Keeps (IsNewG base) := fun _ _ _ hb ⟨g, h1, h2, h3⟩ => ⟨g, h1, slot_kept h2 hb, h3⟩
set_option maxRecDepth 100000 in
set_option maxHeartbeats 2000000 in
theorem gsqrt {w : World} {a b : Nat} (ha : a < W64) (hb : b < W64) (hab : KG a b) :
    Calls Tryd.prog 21 #[G a b] w fun e w' => RetG w (RootG a b) e w' := by
  have HK := Lib.hid (fun w => gknown_yes (w := w) ha hb hab)
  have z0 : rg 0 ≤ INF := by decide
  have f0 : fv 0 = 0 := by decide
  have hlt := flt_num (Nat.le_of_lt hab.lf) z0
  rw [f0] at hlt
  obtain ⟨w1, hw1⟩ : ∃ w1, w.alloc (.cells #[.float .f64 a, .float .f64 b] 24) = w1 := ⟨_, rfl⟩
  obtain ⟨w2, hw2⟩ : ∃ w2, w1.alloc (.cells #[.float .f64 0, .float .f64 0] 24) = w2 := ⟨_, rfl⟩
  have hb1 : Below w.heap.size w w1 := hw1 ▸ below_alloc w _
  have hb12 : Below w1.heap.size w1 w2 := hw2 ▸ below_alloc w1 _
  have hb2 : Below w.heap.size w w2 := hb1.trans (hb12.mono hb1.size)
  have hg1 := hb1.size
  have hg2 : w1.heap.size < w2.heap.size := by rw [← hw2]; simp
  have ha2 : w2.heap[w.heap.size]? = some (.cells #[.float .f64 a, .float .f64 b] 24 (0, 0)) := slot_kept (hw1 ▸ heap_alloc_new w _) hb12
  have hr2 : w2.heap[w1.heap.size]? = some (.cells #[.float .f64 0, .float .f64 0] 24 (0, 0)) := hw2 ▸ heap_alloc_new w1 _
  obtain ⟨k0, k1, -, -⟩ := slot2 ha2
  clear hb1 hb12 z0 f0
  by_cases h0 : fv a < 0
  · rw [decide_eq_true h0] at hlt
    clear ha hb hab h0
    go_enter Tryd.func21, Tryd.ntmps21
    go_wp2_with fail
    refine (HK.out _).mono ?_
    rintro e w3 ⟨rfl, hb3⟩
    have ha3 := slot_kept ha2 hb3
    have hr3 := slot_kept hr2 hb3
    have hbw3 := hb2.trans (hb3.mono hb2.size)
    clear k0 k1 ha2 hr2 hb3 hb2 HK
    obtain ⟨k0, k1, -, -⟩ := slot2 ha3
    go_wp2_with fail
    refine (gall _).mono ?_
    rintro e w4 ⟨rfl, hb4⟩
    have hr4 := slot_kept hr3 hb4
    have hbw4 := hbw3.trans (hb4.mono hbw3.size)
    clear k0 k1 ha3 hr3 hb4 hbw3
    obtain ⟨k0, k1, f0, f1⟩ := slot2 hr4
    obtain ⟨hend, hbe⟩ := gap_end (w0 := w) (l := 9223372036854775808 + INF) (h := INF) hr4 hbw4 hg1
    go_wp2_with fail
    refine bodyPost_ret (results_cell_row rfl _ _ w1.heap.size 24 _ (0, 0) _ rfl hend Tryd.underlying24 rfl (by kernel_rfl)) rfl ?_
    exact ⟨_, _, rfl, by decide, by decide, fun hk => absurd hk.hf (by decide), hbe⟩
  · rw [decide_eq_false h0] at hlt
    have hle := hab.le
    obtain ⟨x, ex, hx⟩ := sqrt_root (K := 1074) ha hab.lf (by omega) rfl
    obtain ⟨y, ey, hy⟩ := sqrt_root (K := 1074) hb hab.hf (by omega) rfl
    have HM1 := Lib.hid (msqrt_num ex)
    have HM2 := Lib.hid (msqrt_num ey)
    have HO := Lib.hid (fun w => outwards_num (w := w) hx.lt hy.lt hx.rg hy.rg)
    obtain ⟨hll, hlh⟩ := out_lt hx.lt hy.lt hx.rg hy.rg
    have hlr : rg (outLo x y) ≤ INF := by
      by_cases h : KG (stepW x true) (stepW y false)
      · rw [(out_yes h).1]; exact Nat.le_of_lt h.lf
      · rw [(out_no h).1]; decide
    have HR : rg (outHi x y) < INF → RootG a b (outLo x y) (outHi x y) := by
      intro h1
      have h2 : KG (outLo x y) (outHi x y) := by
        by_cases h : KG (stepW x true) (stepW y false)
        · rw [(out_yes h).1, (out_yes h).2]; exact h
        · rw [(out_no h).2] at h1; exact absurd h1 (by decide)
      obtain ⟨e1, e2, e3, e4, e5, e6⟩ := out_known hx.lt hy.lt hx.rg hy.rg h2
      exact root_ends (K := 1074) rfl hx hy e1 e3 e5 e2 e4 e6
    obtain ⟨ol, eol⟩ : ∃ ol, outLo x y = ol := ⟨_, rfl⟩
    obtain ⟨oh, eoh⟩ : ∃ oh, outHi x y = oh := ⟨_, rfl⟩
    rw [eol] at hll hlr
    rw [eoh] at hlh
    rw [eol, eoh] at HO HR
    clear eol eoh
    obtain ⟨z, hz, hz1, hz2⟩ := maxz_run (P := Tryd.prog) #[22, 22] 22 hlr
    have HF : Hid (z < W64 ∧ oh < W64 ∧ (KG z oh → RootG a b z oh)) := by
      refine Lib.hid ⟨?_, hlh, fun hk => ?_⟩
      · rcases hz1 with e | e <;> rw [e]
        · exact hll
        · decide
      · rcases hz1 with e | e
        · rw [e]; exact HR hk.hf
        · rw [e]
          intro X hX hX0 K hK
          obtain ⟨-, r2, r3⟩ := HR hk.hf X hX hX0 K hK
          exact ⟨Or.inl (by decide), r2, r3⟩
    clear ha hb hab h0 hx hy ex ey hle hll hlh hlr HR hz1 hz2
    go_enter Tryd.func21, Tryd.ntmps21
    go_wp2_with fail
    refine (HK.out _).mono ?_
    rintro e w3 ⟨rfl, hb3⟩
    have ha3 := slot_kept ha2 hb3
    have hr3 := slot_kept hr2 hb3
    have hbw3 := hb2.trans (hb3.mono hb2.size)
    have hg3 := Nat.lt_of_lt_of_le hg2 hb3.size
    clear k0 k1 ha2 hr2 hb3 hb2 HK hg2
    obtain ⟨k0, k1, -, -⟩ := slot2 ha3
    go_upto_region 4 with fail
    refine wp_region_slots_tail (by kernel_rfl) 8 [13, 14, 15, 16, 17, 18, 19, 3] (fun w' => (w'.heap[w.heap.size]? = some (.cells #[.float .f64 a, .float .f64 b] 24 (0, 0))) ∧ (w'.heap[w1.heap.size]? = some (.cells #[.float .f64 0, .float .f64 0] 24 (0, 0))) ∧ (Below w3.heap.size w3 w')) (Said [Is (.pointer (some ⟨w.heap.size, 0, none⟩)), Is (.float .f64 a), Is (.float .f64 x), Is (.pointer (some ⟨w.heap.size, 1, none⟩)), Is (.float .f64 b), Is (.float .f64 y), Is (G ol oh), IsNewG w3.heap.size]) (by kernel_rfl) (by kernel_rfl) (by kernel_rfl) (by kernel_rfl) (by kernel_rfl) (Said.keep ?keep) ⟨slot_kept ha3 (bdn (Below.refl _ _) 1), slot_kept hr3 (bdn (Below.refl _ _) 1), bdn (Below.refl _ _) 1⟩ (l := [0, 1, 2, 3, 4, 5, 6, 7]) (by kernel_rfl) ?step ?fin
    case keep =>
      refine List.forall_mem_cons.2 ⟨Is.keeps _, ?_⟩
      refine List.forall_mem_cons.2 ⟨Is.keeps _, ?_⟩
      refine List.forall_mem_cons.2 ⟨Is.keeps _, ?_⟩
      refine List.forall_mem_cons.2 ⟨Is.keeps _, ?_⟩
      refine List.forall_mem_cons.2 ⟨Is.keeps _, ?_⟩
      refine List.forall_mem_cons.2 ⟨Is.keeps _, ?_⟩
      refine List.forall_mem_cons.2 ⟨Is.keeps _, ?_⟩
      refine List.forall_mem_cons.2 ⟨IsNewG.keeps _, ?_⟩
      exact fun _ h => nomatch h
    case step =>
      refine List.forall_mem_cons.2 ⟨?_, ?_⟩
      · refine SlotStep.plain rfl rfl rfl ?_
        intro tm ws hsame hS hg K hK
        have e1 : tm[1]? = some (.pointer (some ⟨w.heap.size, 0, none⟩)) := hsame.2 1 rfl
        go_simp
        exact hK _ _ (Below.refl _ _) hS rfl
      refine List.forall_mem_cons.2 ⟨?_, ?_⟩
      · refine SlotStep.plain rfl rfl rfl ?_
        intro tm ws hsame hS hg K hK
        obtain ⟨v13, e13, rfl⟩ := hg 0 (by kernel_rfl) _ 13 rfl rfl
        obtain ⟨k0, k1, -, -⟩ := slot2 (hS.1)
        go_simp
        exact hK _ _ (Below.refl _ _) hS rfl
      refine List.forall_mem_cons.2 ⟨?_, ?_⟩
      · refine SlotStep.plain rfl rfl rfl ?_
        intro tm ws hsame hS hg K hK
        obtain ⟨v14, e14, rfl⟩ := hg 1 (by kernel_rfl) _ 14 rfl rfl
        go_simp
        refine (HM1.out ws).mono ?_
        rintro e wm ⟨rfl, rfl⟩
        exact hK _ _ (Below.refl _ _) hS rfl
      refine List.forall_mem_cons.2 ⟨?_, ?_⟩
      · refine SlotStep.plain rfl rfl rfl ?_
        intro tm ws hsame hS hg K hK
        have e1 : tm[1]? = some (.pointer (some ⟨w.heap.size, 0, none⟩)) := hsame.2 1 rfl
        go_simp
        exact hK _ _ (Below.refl _ _) hS rfl
      refine List.forall_mem_cons.2 ⟨?_, ?_⟩
      · refine SlotStep.plain rfl rfl rfl ?_
        intro tm ws hsame hS hg K hK
        obtain ⟨v16, e16, rfl⟩ := hg 3 (by kernel_rfl) _ 16 rfl rfl
        obtain ⟨k0, k1, -, -⟩ := slot2 (hS.1)
        go_simp
        exact hK _ _ (Below.refl _ _) hS rfl
      refine List.forall_mem_cons.2 ⟨?_, ?_⟩
      · refine SlotStep.plain rfl rfl rfl ?_
        intro tm ws hsame hS hg K hK
        obtain ⟨v17, e17, rfl⟩ := hg 4 (by kernel_rfl) _ 17 rfl rfl
        go_simp
        refine (HM2.out ws).mono ?_
        rintro e wm ⟨rfl, rfl⟩
        exact hK _ _ (Below.refl _ _) hS rfl
      refine List.forall_mem_cons.2 ⟨?_, ?_⟩
      · refine SlotStep.plain rfl rfl rfl ?_
        intro tm ws hsame hS hg K hK
        obtain ⟨v15, e15, rfl⟩ := hg 2 (by kernel_rfl) _ 15 rfl rfl
        obtain ⟨v18, e18, rfl⟩ := hg 5 (by kernel_rfl) _ 18 rfl rfl
        go_simp
        refine (HO.out ws).mono ?_
        rintro e wm ⟨rfl, hb⟩
        exact hK _ _ hb (⟨slot_kept (hS.1) (hb), slot_kept (hS.2.1) (hb), (hS.2.2).trans (Below.mono (hb) (hS.2.2).size)⟩) rfl
      refine List.forall_mem_cons.2 ⟨?_, ?_⟩
      · refine SlotStep.plain rfl rfl rfl ?_
        intro tm ws hsame hS hg K hK
        have hb := below_alloc ws (.cells #[.float .f64 0, .float .f64 0] 24)
        go_simp
        exact hK _ _ hb (⟨slot_kept (hS.1) (hb), slot_kept (hS.2.1) (hb), (hS.2.2).trans (Below.mono (hb) (hS.2.2).size)⟩) ⟨_, rfl, heap_alloc_new _ _, (hS.2.2).size⟩
      exact fun _ h => nomatch h
    case fin =>
      intro tm w4 hsame hS hgot
      obtain ⟨u, hu, htm⟩ := hsame.form (by kernel_rfl)
      obtain ⟨v19, e19, rfl⟩ := hgot 6 (by decide) _ 19 rfl rfl
      obtain ⟨v3, e3, g, rfl, hg, hgl⟩ := hgot 7 (by decide) _ 3 rfl rfl
      have h19 := hu _ _ e19
      have h3 := hu _ _ e3
      have hr4 := hS.2.1
      have hbw4 := hbw3.trans (Below.mono (hS.2.2) hbw3.size)
      clear hgot hu hsame e19 e3 hS
      have hne : w1.heap.size ≠ g := by omega
      have hle0 : w.heap.size ≤ g := by omega
      obtain ⟨w5, hw5⟩ : ∃ w5, ((w4.setCell ⟨g, 0, none⟩ (.float .f64 ol)).setCell ⟨g, 1, none⟩ (.float .f64 oh)) = w5 := ⟨_, rfl⟩
      obtain ⟨w6, hw6⟩ : ∃ w6, w5.setCell ⟨g, 0, none⟩ (.float .f64 z) = w6 := ⟨_, rfl⟩
      have n5 : w5.heap[g]? = some (.cells #[.float .f64 ol, .float .f64 oh] 24 (0, 0)) := hw5 ▸ slot_set hg
      have n6 : w6.heap[g]? = some (.cells #[.float .f64 z, .float .f64 oh] 24 (0, 0)) := by
        rw [← hw6, heap_setCell_same w5 g 0 _ _ _ n5]; rfl
      have r5 : w5.heap[w1.heap.size]? = some (.cells #[.float .f64 0, .float .f64 0] 24 (0, 0)) := hw5 ▸ slot2_apart hr4 hne
      have r6 : w6.heap[w1.heap.size]? = some (.cells #[.float .f64 0, .float .f64 0] 24 (0, 0)) := by
        rw [← hw6, heap_setCell_other _ _ _ _ hne]; exact r5
      have b5 : Below w.heap.size w w5 := hw5 ▸ hbw4.trans ((slot_only (w := w4) (g := g) (.float .f64 ol) (.float .f64 oh)).below hle0 hbw4.size)
      have b6 : Below w.heap.size w w6 := hw6 ▸ b5.trans ((Only.store (lo := 0) (hi := 2) 0 (.float .f64 z) (Nat.le_refl _) (by decide)).below hle0 b5.size)
      obtain ⟨p0, p1, p2, p3⟩ := slot2 hg
      obtain ⟨q0, q1, q2, q3⟩ := slot2 n5
      obtain ⟨s0, s1, s2, s3⟩ := slot2 n6
      obtain ⟨t0, t1, t2, t3⟩ := slot2 r6
      obtain ⟨hend, hbe⟩ := gap_end (w0 := w) (l := z) (h := oh) r6 b6 hg1
      clear hg n5 n6 r5 r6 b5 b6 hr4 hbw4 hr3 ha3 hbw3
      rw [htm]
      clear htm tm
      simp only [List.foldl_cons, List.foldl_nil, List.setIfInBounds_toArray, List.set_cons_zero, List.set_cons_succ, h19, h3, List.drop_succ_cons, List.drop_zero]
      clear h19 h3
      go_wp2_with fail
      refine bodyPost_ret (results_cell_row rfl _ _ w1.heap.size 24 _ (0, 0) _ rfl hend Tryd.underlying24 rfl (by kernel_rfl)) rfl ?_
      exact ⟨_, _, rfl, HF.out.1, HF.out.2.1, HF.out.2.2, hbe⟩
end Go.Proofs.YtjmipbljoblnnaaDoor

namespace Go.Proofs.YtjmipbljoblnnaaDoor
open Go.RowKit

theorem floW_low {neg : Bool} {R : Nat} {ex : Bool} {N E : Int} {j G0 y : Nat} (h : TZ R ex N E) (hG : E + ((1074 + j : Nat) : Int) = (G0 : Int)) (hy : rg y < INF) (hle : fv y * 2 ^ j ≤ sg neg N * 2 ^ G0) : fv y ≤ fv (floW neg R ex true) := by
  have hI : INF = 9218868437227405312 := rfl
  have hR := h.lt
  have hp : (0 : Int) < 2 ^ j := Int.pow_pos (by decide)
  have e1 : (E + ((1074 + j : Nat) : Int)).toNat = G0 := by omega
  have e2 : 1074 + j - 1074 = j := by omega
  have hq : ex = true → (un R : Int) * 2 ^ j = N * 2 ^ G0 := fun g => by
    have := h.eq g (1074 + j) (by omega) (by omega)
    rwa [e1, e2] at this
  have hg : ex = false → (un R : Int) * 2 ^ j < N * 2 ^ G0 ∧ (R + 1 < INF → N * 2 ^ G0 < (un (R + 1) : Int) * 2 ^ j) := fun g => by
    have := h.gt g (1074 + j) (by omega) (by omega)
    rwa [e1, e2] at this
  have hlt : ∀ u v : Int, u * 2 ^ j ≤ v * 2 ^ j → u ≤ v := fun u v => fun g => Int.le_of_mul_le_mul_right g hp
  have hlt' : ∀ u v : Int, u * 2 ^ j < v * 2 ^ j → u < v := fun u v => fun g => Int.lt_of_mul_lt_mul_right g (Int.le_of_lt hp)
  cases neg with
  | false =>
    rw [sg_false] at hle
    have hf : floW false R ex true = R := by cases ex <;> rfl
    rw [hf, fv_pos (r := R) (by omega)]
    rcases fv_cases y with ⟨-, e⟩ | ⟨-, e⟩ <;> rw [e] at hle ⊢
    · cases ex with
      | true => rw [← hq rfl] at hle; exact hlt _ _ hle
      | false =>
        obtain ⟨g1, g2⟩ := hg rfl
        rcases Nat.lt_or_ge R (rg y) with hr | hr
        · have g3 := hlt' _ _ (Int.lt_of_le_of_lt hle (g2 (by omega)))
          have := un_le (show R + 1 ≤ rg y from hr)
          exfalso
          omega
        · have := un_le hr
          omega
    · omega
  | true =>
    rw [sg_true, Int.neg_mul] at hle
    cases ex with
    | true =>
      have hf : floW true R true true = sgW true R := rfl
      rw [hf, fv_sgW hR, sg_true]
      rw [← hq rfl, ← Int.neg_mul] at hle
      exact hlt _ _ hle
    | false =>
      obtain ⟨g1, g2⟩ := hg rfl
      have hf : floW true R false true = 9223372036854775808 + (R + 1) := by
        show stepW (sgW true R) true = _
        by_cases h0 : R = 0
        · subst h0; decide
        · rw [show sgW true R = 9223372036854775808 + R from if_neg h0, stepW_neg h0 (by omega), if_pos rfl, if_neg (by omega)]; omega
      rw [hf, fv_neg (r := R + 1) (by omega)]
      have g3 : fv y * 2 ^ j < -(un R : Int) * 2 ^ j := by rw [Int.neg_mul]; omega
      have g4 := hlt' _ _ g3
      rcases fv_cases y with ⟨-, e⟩ | ⟨-, e⟩ <;> rw [e] at g4 ⊢
      · omega
      · have hr : R < rg y := by
          rcases Nat.lt_or_ge R (rg y) with hr | hr
          · exact hr
          · have := un_le hr
            omega
        have := un_le (show R + 1 ≤ rg y from hr)
        omega
theorem floW_high {neg : Bool} {R : Nat} {ex : Bool} {N E : Int} {j G0 y : Nat} (h : TZ R ex N E) (hG : E + ((1074 + j : Nat) : Int) = (G0 : Int)) (hy : rg y < INF) (hle : sg neg N * 2 ^ G0 ≤ fv y * 2 ^ j) : fv (floW neg R ex false) ≤ fv y := by
  have hI : INF = 9218868437227405312 := rfl
  have hR := h.lt
  have hp : (0 : Int) < 2 ^ j := Int.pow_pos (by decide)
  have e1 : (E + ((1074 + j : Nat) : Int)).toNat = G0 := by omega
  have e2 : 1074 + j - 1074 = j := by omega
  have hq : ex = true → (un R : Int) * 2 ^ j = N * 2 ^ G0 := fun g => by
    have := h.eq g (1074 + j) (by omega) (by omega)
    rwa [e1, e2] at this
  have hg : ex = false → (un R : Int) * 2 ^ j < N * 2 ^ G0 ∧ (R + 1 < INF → N * 2 ^ G0 < (un (R + 1) : Int) * 2 ^ j) := fun g => by
    have := h.gt g (1074 + j) (by omega) (by omega)
    rwa [e1, e2] at this
  have hlt : ∀ u v : Int, u * 2 ^ j ≤ v * 2 ^ j → u ≤ v := fun u v => fun g => Int.le_of_mul_le_mul_right g hp
  have hlt' : ∀ u v : Int, u * 2 ^ j < v * 2 ^ j → u < v := fun u v => fun g => Int.lt_of_mul_lt_mul_right g (Int.le_of_lt hp)
  cases neg with
  | true =>
    rw [sg_true, Int.neg_mul] at hle
    have hf : floW true R ex false = sgW true R := by cases ex <;> rfl
    rw [hf, fv_sgW hR, sg_true]
    rcases fv_cases y with ⟨-, e⟩ | ⟨-, e⟩ <;> rw [e] at hle ⊢
    · omega
    · rw [Int.neg_mul] at hle
      have hle' : (un (rg y) : Int) * 2 ^ j ≤ N * 2 ^ G0 := by omega
      cases ex with
      | true =>
        rw [← hq rfl] at hle'
        have := hlt _ _ hle'
        omega
      | false =>
        obtain ⟨g1, g2⟩ := hg rfl
        rcases Nat.lt_or_ge R (rg y) with hr | hr
        · have g3 := hlt' _ _ (Int.lt_of_le_of_lt hle' (g2 (by omega)))
          have := un_le (show R + 1 ≤ rg y from hr)
          exfalso
          omega
        · have := un_le hr
          omega
  | false =>
    rw [sg_false] at hle
    cases ex with
    | true =>
      have hf : floW false R true false = R := rfl
      rw [hf, fv_pos (r := R) (by omega)]
      rw [← hq rfl] at hle
      exact hlt _ _ hle
    | false =>
      obtain ⟨g1, g2⟩ := hg rfl
      have hf : floW false R false false = R + 1 := by
        show stepW R false = R + 1
        by_cases h0 : R = 0
        · subst h0; decide
        · rw [stepW_pos h0 (by omega), if_neg (by decide), if_neg (by omega)]
      rw [hf, fv_pos (r := R + 1) (by omega)]
      have g4 := hlt' _ _ (Int.lt_of_lt_of_le g1 hle)
      rcases fv_cases y with ⟨-, e⟩ | ⟨-, e⟩ <;> rw [e] at g4 ⊢
      · have hr : R < rg y := by
          rcases Nat.lt_or_ge R (rg y) with hr | hr
          · exact hr
          · have := un_le hr
            omega
        have := un_le (show R + 1 ≤ rg y from hr)
        omega
      · omega
set_option maxRecDepth 100000 in
set_option maxHeartbeats 1000000 in
/-- Has, as GapHolds asks it. -/
theorem ghas (w : World) (l h j : Nat) (v : Value) (Z : Int) (m b : Nat) (hl : l < W64) (hh : h < W64) (hx : DQ (1074 + j) w v Z m b) (hm : m ≤ 300) (hb : b ≤ 40000) (hj : j ≤ 1074) (hin : KG l h → fv l * 2 ^ j ≤ Z ∧ Z ≤ fv h * 2 ^ j) (hT : Tab64 w) :
    Calls Tryd.prog 13 #[G l h, v] w fun e w' => e = .returned (.bool true) ∧ Below w.heap.size w w' := by
  obtain ⟨q, a, n, c, N, E, E0, rfl, hN, hZ, hE, hE0⟩ : ∃ q a n c N E, ∃ E0 : Nat, v = .agg #[.bool q, .slice a n c, .int .i64 E] ∧ Num w (.slice a n c) N m ∧ Z = sg q N * 2 ^ E0 ∧ E + ((1074 + j : Nat) : Int) = (E0 : Int) ∧ E0 ≤ b := by
    obtain ⟨p, a', n', c', N, E, E0, he, h1, h2, h3, -, h5⟩ := hx
    exact ⟨p, a', n', c', N, E, E0, he, h1, h2, h3, h5⟩
  by_cases hk : KG l h
  · obtain ⟨i1, i2⟩ := hin hk
    rw [hZ] at i1 i2
    have hneg : sg q N = sg (q && decide (N ≠ 0)) N := by
      by_cases h0 : N = 0
      · rw [h0]; cases q <;> rfl
      · rw [decide_eq_true h0, Bool.and_true]
    rw [hneg] at i1 i2
    have HRL := Lib.hid (Nat.le_of_lt hk.lf)
    have HRH := Lib.hid (Nat.le_of_lt hk.hf)
    have HD2 := Lib.hid (fun (R : Nat) (ex : Bool) (h : TZ R ex N E) => floW_low (y := l) h hE hk.lf i1)
    have HU2 := Lib.hid (fun (R : Nat) (ex : Bool) (g : TZ R ex N E) => floW_high (y := h) g hE hk.hf i2)
    have HK := Lib.hid (fun w => gknown_yes (w := w) hl hh hk)
    have HF := Lib.hid (fun (w' : World) (dir : Int) (hb' : Below w.heap.size w w') => float_num (w := w') q E dir (hN.below hb') (by omega) (by omega) (by omega) (hT.below hb'))
    clear hin hk hx hZ i1 i2 hneg hN hT hE hE0
    obtain ⟨ng, eng⟩ : ∃ ng, (q && decide (N ≠ 0)) = ng := ⟨_, rfl⟩
    rw [eng] at HD2 HU2 HF
    clear eng
    obtain ⟨w1, hw1⟩ : ∃ w1, w.alloc (.cells #[.float .f64 l, .float .f64 h] 24) = w1 := ⟨_, rfl⟩
    obtain ⟨w2, hw2⟩ : ∃ w2, w1.alloc (.cells #[.bool q, .slice a n c, .int .i64 E] 37) = w2 := ⟨_, rfl⟩
    have hb1 : Below w.heap.size w w1 := hw1 ▸ below_alloc w _
    have hb12 : Below w1.heap.size w1 w2 := hw2 ▸ below_alloc w1 _
    have hb2 : Below w.heap.size w w2 := hb1.trans (hb12.mono hb1.size)
    have hc1 : w2.heap[w.heap.size]? = some (.cells #[.float .f64 l, .float .f64 h] 24 (0, 0)) := slot_kept (hw1 ▸ heap_alloc_new w _) hb12
    have hc2 : w2.heap[w1.heap.size]? = some (.cells #[.bool q, .slice a n c, .int .i64 E] 37 (0, 0)) := hw2 ▸ heap_alloc_new w1 _
    obtain ⟨k0, k1, -, -⟩ := slot2 hc1
    clear hb12 hb1
    go_enter Tryd.func13, Tryd.ntmps13
    go_wp2_with fail
    refine (HK.out _).mono ?_
    rintro e w3 ⟨rfl, hb3⟩
    have hd1 := slot_kept hc1 hb3
    have hd2 := slot_kept hc2 hb3
    have hbw3 := hb2.trans (hb3.mono hb2.size)
    clear k0 k1 hc1 hc2 hb2 hb3
    go_upto_region 3 with fail
    refine wp_region_slots (by kernel_rfl) [8, 9, 10, 11, 12, 13, 14, 15, 16, 17, 18, 19, 4] (fun w' => (w'.heap[w.heap.size]? = some (.cells #[.float .f64 l, .float .f64 h] 24 (0, 0))) ∧ (w'.heap[w1.heap.size]? = some (.cells #[.bool q, .slice a n c, .int .i64 E] 37 (0, 0))) ∧ (Below w.heap.size w w')) (Said [Is (.pointer (some ⟨w.heap.size, 0, none⟩)), Is (.float .f64 l), Is (.agg #[.bool q, .slice a n c, .int .i64 E]), IsF (fun x => rg x ≤ INF ∧ fv l ≤ fv x), Is (.bool true), Is (.bool true), Is (.agg #[.bool q, .slice a n c, .int .i64 E]), IsF (fun x => rg x ≤ INF ∧ fv x ≤ fv h), Is (.pointer (some ⟨w.heap.size, 1, none⟩)), Is (.float .f64 h), Is (.bool true), Is (.bool true), Is (.bool true)]) (by kernel_rfl) (by kernel_rfl) (by kernel_rfl) (by kernel_rfl) (Said.keep ?keep) ⟨slot_kept hd1 (bdn (Below.refl _ _) 1), slot_kept hd2 (bdn (Below.refl _ _) 1), hbw3.trans (Below.mono (bdn (Below.refl _ _) 1) hbw3.size)⟩ (l := [0, 1, 2, 3, 4, 5, 6, 7, 8, 9, 10, 11, 12]) (by kernel_rfl) ?step ?fin
    case keep =>
      refine List.forall_mem_cons.2 ⟨Is.keeps _, ?_⟩
      refine List.forall_mem_cons.2 ⟨Is.keeps _, ?_⟩
      refine List.forall_mem_cons.2 ⟨Is.keeps _, ?_⟩
      refine List.forall_mem_cons.2 ⟨IsF.keeps _, ?_⟩
      refine List.forall_mem_cons.2 ⟨Is.keeps _, ?_⟩
      refine List.forall_mem_cons.2 ⟨Is.keeps _, ?_⟩
      refine List.forall_mem_cons.2 ⟨Is.keeps _, ?_⟩
      refine List.forall_mem_cons.2 ⟨IsF.keeps _, ?_⟩
      refine List.forall_mem_cons.2 ⟨Is.keeps _, ?_⟩
      refine List.forall_mem_cons.2 ⟨Is.keeps _, ?_⟩
      refine List.forall_mem_cons.2 ⟨Is.keeps _, ?_⟩
      refine List.forall_mem_cons.2 ⟨Is.keeps _, ?_⟩
      refine List.forall_mem_cons.2 ⟨Is.keeps _, ?_⟩
      exact fun _ h => nomatch h
    case step =>
      refine List.forall_mem_cons.2 ⟨?_, ?_⟩
      · refine SlotStep.plain rfl rfl rfl ?_
        intro tm ws hsame hS hg K hK
        have e2 : tm[2]? = some (.pointer (some ⟨w.heap.size, 0, none⟩)) := hsame.2 2 rfl
        go_simp
        exact hK _ _ (Below.refl _ _) hS rfl
      refine List.forall_mem_cons.2 ⟨?_, ?_⟩
      · refine SlotStep.plain rfl rfl rfl ?_
        intro tm ws hsame hS hg K hK
        obtain ⟨v8, e8, rfl⟩ := hg 0 (by kernel_rfl) _ 8 rfl rfl
        obtain ⟨k0, k1, -, -⟩ := slot2 (hS.1)
        go_simp
        exact hK _ _ (Below.refl _ _) hS rfl
      refine List.forall_mem_cons.2 ⟨?_, ?_⟩
      · refine SlotStep.plain rfl rfl rfl ?_
        intro tm ws hsame hS hg K hK
        have e3 : tm[3]? = some (.pointer (some ⟨w1.heap.size, 0, none⟩)) := hsame.2 3 rfl
        obtain ⟨⟨k0, k1, k2⟩, -⟩ := slot3 (hS.2.1)
        go_simp
        exact hK _ _ (Below.refl _ _) hS rfl
      refine List.forall_mem_cons.2 ⟨?_, ?_⟩
      · refine SlotStep.plain rfl rfl rfl ?_
        intro tm ws hsame hS hg K hK
        obtain ⟨v10, e10, rfl⟩ := hg 2 (by kernel_rfl) _ 10 rfl rfl
        go_simp
        refine (HF.out ws _ hS.2.2).mono ?_
        rintro e wm ⟨R, ex, rfl, htz, hb⟩
        exact hK _ _ hb (⟨slot_kept (hS.1) (hb), slot_kept (hS.2.1) (hb), (hS.2.2).trans (Below.mono (hb) (hS.2.2).size)⟩) ⟨_, rfl, (btw (neg := ng) htz).lo_rg, HD2.out R ex htz⟩
      refine List.forall_mem_cons.2 ⟨?_, ?_⟩
      · refine SlotStep.plain rfl rfl rfl ?_
        intro tm ws hsame hS hg K hK
        obtain ⟨v9, e9, rfl⟩ := hg 1 (by kernel_rfl) _ 9 rfl rfl
        obtain ⟨v11, e11, ⟨x11, rfl, g11⟩⟩ := hg 3 (by kernel_rfl) _ 11 rfl rfl
        have hle := fle_num HRL.out g11.1
        rw [decide_eq_true g11.2] at hle
        go_simp
        exact hK _ _ (Below.refl _ _) hS rfl
      refine List.forall_mem_cons.2 ⟨?_, ?_⟩
      · refine SlotStep.plain rfl rfl rfl ?_
        intro tm ws hsame hS hg K hK
        obtain ⟨v12, e12, rfl⟩ := hg 4 (by kernel_rfl) _ 12 rfl rfl
        go_simp
        exact hK _ _ (Below.refl _ _) hS rfl
      refine List.forall_mem_cons.2 ⟨?_, ?_⟩
      · refine SlotStep.guarded rfl rfl 5 rfl rfl (by kernel_rfl) (fun _ _ h => h) ?_
        intro tm ws hsame hS hg K hK
        have e3 : tm[3]? = some (.pointer (some ⟨w1.heap.size, 0, none⟩)) := hsame.2 3 rfl
        obtain ⟨⟨k0, k1, k2⟩, -⟩ := slot3 (hS.2.1)
        go_simp
        exact hK _ _ (Below.refl _ _) hS rfl
      refine List.forall_mem_cons.2 ⟨?_, ?_⟩
      · refine SlotStep.guarded rfl rfl 5 rfl rfl (by kernel_rfl) (fun _ _ h => h) ?_
        intro tm ws hsame hS hg K hK
        obtain ⟨v14, e14, rfl⟩ := hg 6 (by kernel_rfl) _ 14 rfl rfl
        go_simp
        refine (HF.out ws _ hS.2.2).mono ?_
        rintro e wm ⟨R, ex, rfl, htz, hb⟩
        exact hK _ _ hb (⟨slot_kept (hS.1) (hb), slot_kept (hS.2.1) (hb), (hS.2.2).trans (Below.mono (hb) (hS.2.2).size)⟩) ⟨_, rfl, (btw (neg := ng) htz).hi_rg, HU2.out R ex htz⟩
      refine List.forall_mem_cons.2 ⟨?_, ?_⟩
      · refine SlotStep.guarded rfl rfl 5 rfl rfl (by kernel_rfl) (fun _ _ h => h) ?_
        intro tm ws hsame hS hg K hK
        have e2 : tm[2]? = some (.pointer (some ⟨w.heap.size, 0, none⟩)) := hsame.2 2 rfl
        go_simp
        exact hK _ _ (Below.refl _ _) hS rfl
      refine List.forall_mem_cons.2 ⟨?_, ?_⟩
      · refine SlotStep.guarded rfl rfl 5 rfl rfl (by kernel_rfl) (fun _ _ h => h) ?_
        intro tm ws hsame hS hg K hK
        obtain ⟨v16, e16, rfl⟩ := hg 8 (by kernel_rfl) _ 16 rfl rfl
        obtain ⟨k0, k1, -, -⟩ := slot2 (hS.1)
        go_simp
        exact hK _ _ (Below.refl _ _) hS rfl
      refine List.forall_mem_cons.2 ⟨?_, ?_⟩
      · refine SlotStep.guarded rfl rfl 5 rfl rfl (by kernel_rfl) (fun _ _ h => h) ?_
        intro tm ws hsame hS hg K hK
        obtain ⟨v15, e15, ⟨x15, rfl, g15⟩⟩ := hg 7 (by kernel_rfl) _ 15 rfl rfl
        obtain ⟨v17, e17, rfl⟩ := hg 9 (by kernel_rfl) _ 17 rfl rfl
        have hle := fle_num g15.1 HRH.out
        rw [decide_eq_true g15.2] at hle
        go_simp
        exact hK _ _ (Below.refl _ _) hS rfl
      refine List.forall_mem_cons.2 ⟨?_, ?_⟩
      · refine SlotStep.plain rfl rfl rfl ?_
        intro tm ws hsame hS hg K hK
        obtain ⟨v13, e13, rfl⟩ := hg 5 (by kernel_rfl) _ 13 rfl rfl
        obtain ⟨v18, e18, rfl⟩ := hg 10 (by kernel_rfl) _ 18 rfl rfl
        go_simp
        exact hK _ _ (Below.refl _ _) hS rfl
      refine List.forall_mem_cons.2 ⟨?_, ?_⟩
      · refine SlotStep.plain rfl rfl rfl ?_
        intro tm ws hsame hS hg K hK
        obtain ⟨v19, e19, rfl⟩ := hg 11 (by kernel_rfl) _ 19 rfl rfl
        go_simp
        exact hK _ _ (Below.refl _ _) hS rfl
      exact fun _ h => nomatch h
    case fin =>
      intro tm w4 hsame hS hgot
      obtain ⟨u, hu, htm⟩ := hsame.form (by kernel_rfl)
      obtain ⟨v4, e4, rfl⟩ := hgot 12 _ 4 rfl rfl
      have h4 := hu _ _ e4
      have hbw4 := hS.2.2
      clear hgot hu hsame e4 hS
      rw [htm]
      clear htm tm
      simp only [List.foldl_cons, List.foldl_nil, List.setIfInBounds_toArray, List.set_cons_zero, List.set_cons_succ, h4]
      clear h4
      go_wp2_with fail
      go_ret
      exact ⟨rfl, hbw4⟩
  · have HK := Lib.hid (fun w => gknown_no (w := w) hl hh hk)
    clear hin hk hx hZ hN hT
    have hb2 := (below_alloc w (.cells #[.float .f64 l, .float .f64 h] 24)).alloc (Nat.le_of_lt (by simp)) (.cells #[.bool q, .slice a n c, .int .i64 E] 37)
    go_enter Tryd.func13, Tryd.ntmps13
    go_wp2_with fail
    refine (HK.out _).mono ?_
    rintro e w3 ⟨rfl, hb3⟩
    have hbw3 := hb2.trans (hb3.mono hb2.size)
    go_wp2_with fail
    go_ret
    exact ⟨rfl, hbw3⟩
end Go.Proofs.YtjmipbljoblnnaaDoor

namespace Go.Proofs.YtjmipbljoblnnaaDoor
open Go.RowKit

attribute [local go_sem] run_store_float
set_option maxRecDepth 100000 in
set_option maxHeartbeats 1000000 in
theorem gat_yes {w : World} {v : Nat} (hv : v < W64) (hf : rg v < INF) : Calls Tryd.prog 23 #[.float .f64 v] w fun e w' => e = .returned (G v v) ∧ Below w.heap.size w w' := by
  have HF := Lib.hid (fun w => finite_num v w hv)
  rw [decide_eq_true hf] at HF
  clear hf hv
  go_enter Tryd.func23, Tryd.ntmps23
  go_wp2_with fail
  refine (HF.out _).mono ?_
  rintro e w' ⟨rfl, rfl⟩
  go_wp2_with fail
  refine bodyPost_ret (results_cell_row rfl _ _ w.heap.size 24 #[.float .f64 v, .float .f64 v] (0, 0) _ rfl ?_ Tryd.underlying24 rfl (by kernel_rfl)) rfl ⟨rfl, ?_⟩
  · exact heap_alloc_new w _
  · exact below_alloc w _
set_option maxRecDepth 100000 in
set_option maxHeartbeats 1000000 in
theorem gat_no {w : World} {v : Nat} (hv : v < W64) (hf : ¬ rg v < INF) : Calls Tryd.prog 23 #[.float .f64 v] w fun e w' => e = .returned (G (9223372036854775808 + INF) INF) ∧ Below w.heap.size w w' := by
  have HF := Lib.hid (fun w => finite_num v w hv)
  rw [decide_eq_false hf] at HF
  clear hf hv
  obtain ⟨w1, hw1⟩ : ∃ w1, w.alloc (.cells #[.float .f64 0, .float .f64 0] 24) = w1 := ⟨_, rfl⟩
  have hb1 : Below w.heap.size w w1 := hw1 ▸ below_alloc w _
  have hc1 : w1.heap[w.heap.size]? = some (.cells #[.float .f64 0, .float .f64 0] 24 (0, 0)) := hw1 ▸ heap_alloc_new w _
  go_enter Tryd.func23, Tryd.ntmps23
  go_wp2_with fail
  refine (HF.out _).mono ?_
  rintro e w' ⟨rfl, rfl⟩
  go_wp2_with fail
  refine (gall _).mono ?_
  rintro e w2 ⟨rfl, hb2⟩
  have hd1 := slot_kept hc1 hb2
  have hbw2 := hb1.trans (hb2.mono hb1.size)
  obtain ⟨k0, k1, f0, f1⟩ := slot2 hd1
  obtain ⟨hend, hbe⟩ := gap_end (w0 := w) (l := 9223372036854775808 + INF) (h := INF) hd1 hbw2 (Nat.le_refl _)
  go_wp2_with fail
  exact bodyPost_ret (results_cell_row rfl _ _ w.heap.size 24 _ (0, 0) _ rfl hend Tryd.underlying24 rfl (by kernel_rfl)) rfl ⟨rfl, hbe⟩
/-- The sign of a gap of one number. -/
def RetGS (w : World) (v : Nat) (e : Ending) (w' : World) : Prop := ∃ s : Int, e = .returned (.tuple #[.int .i64 s, .bool true]) ∧ ((0 < s) ↔ 0 < fv v) ∧ (s < 0 ↔ fv v < 0) ∧ (s = -1 ∨ s = 0 ∨ s = 1) ∧ Below w.heap.size w w'
set_option maxRecDepth 100000 in
set_option maxHeartbeats 2000000 in
theorem gsign_one {w : World} {v : Nat} (hv : v < W64) (hf : rg v < INF) : Calls Tryd.prog 24 #[G v v] w fun e w' => RetGS w v e w' := by
  have HK := Lib.hid (fun w => gknown_yes (w := w) hv hv ⟨hf, hf, Int.le_refl _⟩)
  have z0 : rg 0 ≤ INF := by decide
  have f0 : fv 0 = 0 := by decide
  have hgt := fgt_num (Nat.le_of_lt hf) z0
  have hlt := flt_num (Nat.le_of_lt hf) z0
  have heq := feq_num (Nat.le_of_lt hf) (Nat.le_of_lt hf)
  rw [f0] at hgt hlt
  rw [decide_eq_true rfl] at heq
  obtain ⟨X, hX⟩ : ∃ X, fv v = X := ⟨_, rfl⟩
  have HV := Lib.hid hX
  rw [hX] at hgt hlt
  obtain ⟨w1, hw1⟩ : ∃ w1, w.alloc (.cells #[.float .f64 v, .float .f64 v] 24) = w1 := ⟨_, rfl⟩
  have hb1 : Below w.heap.size w w1 := hw1 ▸ below_alloc w _
  have hc1 : w1.heap[w.heap.size]? = some (.cells #[.float .f64 v, .float .f64 v] 24 (0, 0)) := hw1 ▸ heap_alloc_new w _
  obtain ⟨k0, k1, -, -⟩ := slot2 hc1
  clear hv hf z0 f0 hX
  rcases Int.lt_trichotomy X 0 with h | h | h
  · rw [decide_eq_false (by omega)] at hgt
    rw [decide_eq_true h] at hlt
    have HH := Lib.hid h
    clear h
    go_enter Tryd.func24, Tryd.ntmps24
    go_wp2_with fail
    refine (HK.out _).mono ?_
    rintro e w2 ⟨rfl, hb2⟩
    have hd1 := slot_kept hc1 hb2
    have hbw2 := hb1.trans (hb2.mono hb1.size)
    clear k0 k1
    obtain ⟨k0, k1, -, -⟩ := slot2 hd1
    go_wp2_with fail
    go_ret2
    have h := HH.out
    have e := HV.out
    exact ⟨-1, rfl, by omega, by omega, by omega, hbw2⟩
  · rw [decide_eq_false (by omega)] at hgt
    rw [decide_eq_false (by omega)] at hlt
    have HH := Lib.hid h
    clear h
    go_enter Tryd.func24, Tryd.ntmps24
    go_wp2_with fail
    refine (HK.out _).mono ?_
    rintro e w2 ⟨rfl, hb2⟩
    have hd1 := slot_kept hc1 hb2
    have hbw2 := hb1.trans (hb2.mono hb1.size)
    clear k0 k1
    obtain ⟨k0, k1, -, -⟩ := slot2 hd1
    go_wp2_with (go_region)
    go_ret2
    have h := HH.out
    have e := HV.out
    exact ⟨0, rfl, by omega, by omega, by omega, hbw2.drew⟩
  · rw [decide_eq_true h] at hgt
    have HH := Lib.hid h
    clear h hlt
    go_enter Tryd.func24, Tryd.ntmps24
    go_wp2_with fail
    refine (HK.out _).mono ?_
    rintro e w2 ⟨rfl, hb2⟩
    have hd1 := slot_kept hc1 hb2
    have hbw2 := hb1.trans (hb2.mono hb1.size)
    clear k0 k1
    obtain ⟨k0, k1, -, -⟩ := slot2 hd1
    go_wp2_with fail
    go_ret2
    have h := HH.out
    have e := HV.out
    exact ⟨1, rfl, by omega, by omega, by omega, hbw2⟩
theorem six : floatBits .mul .f64 4611686018427387904 4613937818241073152 = some 4618441417868443648 := by decide +kernel
theorem six_out : outLo 4618441417868443648 4618441417868443648 = 4618441417868443647 ∧ outHi 4618441417868443648 4618441417868443648 = 4618441417868443649 := by decide +kernel
theorem six_known : KG 4618441417868443647 4618441417868443649 := ⟨by decide, by decide, by decide +kernel⟩
theorem known_one {v : Nat} (h : rg v < INF) : KG v v := ⟨h, h, Int.le_refl _⟩
theorem six_lt : floatBits .sub .f64 4618441417868443649 4618441417868443647 = some 4386506037058863104 := by decide +kernel
theorem all_not : ¬ KG (9223372036854775808 + INF) INF := fun h => absurd h.hf (by decide)
set_option maxRecDepth 100000 in
set_option maxHeartbeats 2000000 in
theorem glive (w : World) : Calls Tryd.prog 5 #[] w fun e w' => e = .returned (.bool true) ∧ Below w.heap.size w w' := by
  have HA2 := Lib.hid (fun w => gat_yes (w := w) (v := 4611686018427387904) (by decide) (by decide))
  have HA3 := Lib.hid (fun w => gat_yes (w := w) (v := 4613937818241073152) (by decide) (by decide))
  have HA1 := Lib.hid (fun w => gat_yes (w := w) (v := 4607182418800017408) (by decide) (by decide))
  have HA0 := Lib.hid (fun w => gat_yes (w := w) (v := 0) (by decide) (by decide))
  have HM : Hid (∀ w, Calls Tryd.prog 15 #[G 4611686018427387904 4611686018427387904, G 4613937818241073152 4613937818241073152] w fun e w' => e = .returned (G 4618441417868443647 4618441417868443649) ∧ Below w.heap.size w w') := Lib.hid fun w => by
    refine (gmul4 (by decide) (by decide) (by decide) (by decide) (known_one (by decide)) (known_one (by decide))).mono ?_
    rintro e w' ⟨p, q, r, s, x, y, rfl, ⟨e1, e2, e3, e4⟩, -, hx, hy, hb⟩
    rw [six] at e1 e2 e3 e4
    cases e1; cases e2; cases e3; cases e4
    obtain rfl : x = 4618441417868443648 := by rcases hx.one with h | h | h | h <;> exact h
    obtain rfl : y = 4618441417868443648 := by rcases hy.one with h | h | h | h <;> exact h
    rw [six_out.1, six_out.2]
    exact ⟨rfl, hb⟩
  have HS := Lib.hid (fun w => gsign_one (w := w) (v := 4611686018427387904) (by decide) (by decide))
  have HK := Lib.hid (fun w => gknown_yes (w := w) (by decide) (by decide) six_known)
  have HQ := Lib.hid (fun w => gquo0 (w := w) (a := 4607182418800017408) (b := 4607182418800017408) (c := 0) (d := 0) (by decide) (by decide) (by decide) (by decide) (known_one (by decide)) (known_one (by decide)) (by decide) (by decide))
  have HN := Lib.hid (fun w => gknown_no (w := w) (l := 9223372036854775808 + INF) (h := INF) (by decide) (by decide) all_not)
  have hle : ((FloatKind.f64.format.order 4618441417868443647 4618441417868443648 == some .lt) || (FloatKind.f64.format.order 4618441417868443647 4618441417868443648 == some .eq)) = true := by decide +kernel
  have hge : ((FloatKind.f64.format.order 4618441417868443649 4618441417868443648 == some .gt) || (FloatKind.f64.format.order 4618441417868443649 4618441417868443648 == some .eq)) = true := by decide +kernel
  have hlt : (FloatKind.f64.format.order 4386506037058863104 4427486594234968593 == some .lt) = true := by decide +kernel
  have hsub := fop_run six_lt
  go_enter Tryd.func5, Tryd.ntmps5
  go_wp2_with fail
  refine (HA2.out _).mono ?_
  rintro e w1 ⟨rfl, hb1⟩
  go_wp2_with fail
  refine (HA3.out _).mono ?_
  rintro e w2 ⟨rfl, hb2⟩
  replace hb2 := hb1.trans (hb2.mono hb1.size)
  go_wp2_with fail
  refine (HM.out _).mono ?_
  rintro e w3 ⟨rfl, hb3⟩
  replace hb3 := hb2.trans (hb3.mono hb2.size)
  obtain ⟨w4, hw4⟩ : ∃ w4, w3.alloc (.cells #[.float .f64 4618441417868443647, .float .f64 4618441417868443649] 24) = w4 := ⟨_, rfl⟩
  have hc4 : w4.heap[w3.heap.size]? = some (.cells #[.float .f64 4618441417868443647, .float .f64 4618441417868443649] 24 (0, 0)) := hw4 ▸ heap_alloc_new w3 _
  have hb4 : Below w.heap.size w w4 := hw4 ▸ hb3.alloc hb3.size _
  clear hb1 hb2 hb3
  go_wp2_with fail
  refine (HA2.out _).mono ?_
  rintro e w5 ⟨rfl, hb5⟩
  have hc5 := slot_kept hc4 hb5
  replace hb5 := hb4.trans (hb5.mono hb4.size)
  clear hc4 hb4 hw4
  go_wp2_with fail
  refine (HS.out _).mono ?_
  rintro e w6 ⟨s, rfl, hs1, hs2, hs3, hb6⟩
  obtain rfl : s = 1 := by
    have h2 : 0 < fv 4611686018427387904 := by decide +kernel
    have := hs1.2 h2
    omega
  have hc6 := slot_kept hc5 hb6
  replace hb6 := hb5.trans (hb6.mono hb5.size)
  clear hc5 hb5 hs1 hs2 hs3
  obtain ⟨k0, k1, -, -⟩ := slot2 hc6
  go_wp2_with fail
  refine (HK.out _).mono ?_
  rintro e w7 ⟨rfl, hb7⟩
  have hc7 := slot_kept hc6 hb7
  replace hb7 := hb6.trans (hb7.mono hb6.size)
  clear hc6 hb6 k0 k1
  obtain ⟨k0, k1, -, -⟩ := slot2 hc7
  go_wp2_with fail
  refine (HA1.out _).mono ?_
  rintro e w8 ⟨rfl, hb8⟩
  replace hb8 := hb7.trans (hb8.mono hb7.size)
  clear hc7 hb7 k0 k1
  go_wp2_with fail
  refine (HA0.out _).mono ?_
  rintro e w9 ⟨rfl, hb9⟩
  replace hb9 := hb8.trans (hb9.mono hb8.size)
  clear hb8
  go_wp2_with fail
  refine (HQ.out _).mono ?_
  rintro e w10 ⟨rfl, hb10⟩
  replace hb10 := hb9.trans (hb10.mono hb9.size)
  clear hb9
  go_wp2_with fail
  refine (HN.out _).mono ?_
  rintro e w11 ⟨rfl, hb11⟩
  replace hb11 := hb10.trans (hb11.mono hb10.size)
  clear hb10
  go_wp2_with fail
  go_ret
  exact ⟨rfl, hb11⟩
end Go.Proofs.YtjmipbljoblnnaaDoor

namespace Go.Proofs.YtjmipbljoblnnaaDoor
open Go.RowKit

theorem gapc : GapC :=
  ⟨fun _ _ _ _ _ ha hb hc hd hab hcd _ => gadd ha hb hc hd hab hcd, fun _ _ _ _ _ ha hb hc hd hab hcd _ => gsub ha hb hc hd hab hcd,
    fun _ _ _ _ _ ha hb hc hd hab hcd _ => gmul ha hb hc hd hab hcd, fun _ _ _ _ _ ha hb hc hd hab hcd _ => gquo ha hb hc hd hab hcd,
    fun _ _ _ ha hb hab _ => gsqrt ha hb hab, fun w l h j v Z m b hl hh hx hm hb hj hin hT => ghas w l h j v Z m b hl hh hx hm hb hj hin hT,
    gknown, fun w _ => glive w⟩
end Go.Proofs.YtjmipbljoblnnaaDoor
