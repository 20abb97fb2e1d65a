/-
  FloMM: min and max of float64.
  Gap0: Gaps as pairs of words; what the statement GapHolds asks of package gap; compasslaw7.known.
  GapH: A float64's dyad against another dyad of the program's: what Has of a gap asks; flo.Finite and the order: what Known asks.
  GapK: Package gap: Known; math.Inf; All (for a text of my own: All wants a look at the landed code).
  GapN: min and max of four float64 that are numbers; the roundings of the operations' results: an end stepped outward.
  GapW: Package gap: outwards, around.
  GapO: Package gap: Add, Sub, Mul, Quo of gaps that are known.
  GapP: Package gap: Quo of gaps that are known.
  GapV: Package gap: At, Sign; compasslaw7.alive.
  GapA: compasslaw7.GapAt: of every float64: the gap of it alone; the unknown one of what is not finite.
-/
import Derived.Test.YtjmipbljoblnnaaPk26
import Derived.Laws.NewFold
import Derived.Test.YtjmipbljoblnnaaPk25

namespace Go.Proofs.Ytjmipbljoblnnaa
open Go.RowKit

def maxI (x y : Int) : Int := if x < y then y else x
def minI (x y : Int) : Int := if y < x then y else x
/-- What max or min of two words gives: one of them, the greater or lesser; or no number. -/
def MM (f : Int → Int → Int) (b c x : Nat) : Prop :=
  x < 18446744073709551616 ∧ ((rg b ≤ INF ∧ rg c ≤ INF ∧ rg x ≤ INF ∧ fv x = f (fv b) (fv c)) ∨ (INF < rg x ∧ (INF < rg b ∨ INF < rg c)))
theorem nan_word (t : Nat) : (t % 2) * 2 ^ 63 + 0x7ff0000000000000 + 1 + (t / 2) % (2 ^ 52 - 1) < 18446744073709551616 ∧ INF < rg ((t % 2) * 2 ^ 63 + 0x7ff0000000000000 + 1 + (t / 2) % (2 ^ 52 - 1)) := by
  unfold rg INF
  have h1 : (t / 2) % (2 ^ 52 - 1) < 4503599627370495 := Nat.mod_lt _ (by decide)
  have h2 : t % 2 < 2 := Nat.mod_lt _ (by decide)
  have e : (2 : Nat) ^ 63 = 9223372036854775808 := by decide
  rw [e]
  rcases (show t % 2 = 0 ∨ t % 2 = 1 by omega) with h | h <;> rw [h] <;> omega
def nanW (t : Nat) : Nat := (t % 2) * 2 ^ 63 + 0x7ff0000000000000 + 1 + (t / 2) % (2 ^ 52 - 1)
theorem ask_nan {P : Program} (m : Bool) (b c : Nat) (w : World) : (choose (.nanMinMax .f64 m b c)).run P w = .ok (nanW (w.tape w.drawn (.nanMinMax .f64 m b c))) w.drew := by
  rw [run_choose_drew, if_neg (by simp [Question.forced])]
  rfl
theorem max_run {P : Program} (ts : Array TypeId) (t : TypeId) (b c : Nat) (hb : b < 18446744073709551616) (hc : c < 18446744073709551616) (w : World) :
    ∃ x w', (Builtin.max_ ts t #[.float .f64 b, .float .f64 c]).run P w = .ok (.float .f64 x) w' ∧ MM maxI b c x ∧ (w' = w ∨ w' = w.drew) := by
  have nan : (INF < rg b ∨ INF < rg c) → FloatKind.f64.format.order b c = none → ∃ x w', (Builtin.max_ ts t #[.float .f64 b, .float .f64 c]).run P w = .ok (.float .f64 x) w' ∧ MM maxI b c x ∧ (w' = w ∨ w' = w.drew) := fun h ho =>
    ⟨nanW (w.tape w.drawn (.nanMinMax .f64 true b c)), w.drew, by simp [Builtin.max_, Builtin.max2, ho, Result.andThen]; rfl, ⟨(nan_word _).1, Or.inr ⟨(nan_word _).2, h⟩⟩, Or.inr rfl⟩
  rcases Nat.lt_or_ge INF (rg b) with hbn | hbn
  · exact nan (Or.inl hbn) (order_nan_left hbn)
  rcases Nat.lt_or_ge INF (rg c) with hcn | hcn
  · exact nan (Or.inr hcn) (order_nan_right hcn)
  have ho : FloatKind.f64.format.order b c = some (compare (fv b) (fv c)) := order_num hbn hcn
  rcases Int.lt_trichotomy (fv b) (fv c) with h | h | h
  · exact ⟨c, w, by simp [Builtin.max_, Builtin.max2, ho, cmp_int_lt h], ⟨hc, Or.inl ⟨hbn, hcn, hcn, by unfold maxI; rw [if_pos h]⟩⟩, Or.inl rfl⟩
  · refine ⟨if (FloatKind.f64.decode b).neg then c else b, w, by simp [Builtin.max_, Builtin.max2, ho, cmp_int_eq h], ?_, Or.inl rfl⟩
    split
    · exact ⟨hc, Or.inl ⟨hbn, hcn, hcn, by unfold maxI; rw [if_neg (by omega)]; exact h.symm⟩⟩
    · exact ⟨hb, Or.inl ⟨hbn, hcn, hbn, by unfold maxI; rw [if_neg (by omega)]⟩⟩
  · exact ⟨b, w, by simp [Builtin.max_, Builtin.max2, ho, cmp_int_gt h], ⟨hb, Or.inl ⟨hbn, hcn, hbn, by unfold maxI; rw [if_neg (by omega)]⟩⟩, Or.inl rfl⟩
theorem min_run {P : Program} (ts : Array TypeId) (t : TypeId) (b c : Nat) (hb : b < 18446744073709551616) (hc : c < 18446744073709551616) (w : World) :
    ∃ x w', (Builtin.min_ ts t #[.float .f64 b, .float .f64 c]).run P w = .ok (.float .f64 x) w' ∧ MM minI b c x ∧ (w' = w ∨ w' = w.drew) := by
  have nan : (INF < rg b ∨ INF < rg c) → FloatKind.f64.format.order b c = none → ∃ x w', (Builtin.min_ ts t #[.float .f64 b, .float .f64 c]).run P w = .ok (.float .f64 x) w' ∧ MM minI b c x ∧ (w' = w ∨ w' = w.drew) := fun h ho =>
    ⟨nanW (w.tape w.drawn (.nanMinMax .f64 false b c)), w.drew, by simp [Builtin.min_, Builtin.min2, ho, Result.andThen]; rfl, ⟨(nan_word _).1, Or.inr ⟨(nan_word _).2, h⟩⟩, Or.inr rfl⟩
  rcases Nat.lt_or_ge INF (rg b) with hbn | hbn
  · exact nan (Or.inl hbn) (order_nan_left hbn)
  rcases Nat.lt_or_ge INF (rg c) with hcn | hcn
  · exact nan (Or.inr hcn) (order_nan_right hcn)
  have ho : FloatKind.f64.format.order b c = some (compare (fv b) (fv c)) := order_num hbn hcn
  rcases Int.lt_trichotomy (fv b) (fv c) with h | h | h
  · exact ⟨b, w, by simp [Builtin.min_, Builtin.min2, ho, cmp_int_lt h], ⟨hb, Or.inl ⟨hbn, hcn, hbn, by unfold minI; rw [if_neg (by omega)]⟩⟩, Or.inl rfl⟩
  · refine ⟨if (FloatKind.f64.decode b).neg then b else c, w, by simp [Builtin.min_, Builtin.min2, ho, cmp_int_eq h], ?_, Or.inl rfl⟩
    split
    · exact ⟨hb, Or.inl ⟨hbn, hcn, hbn, by unfold minI; rw [if_neg (by omega)]⟩⟩
    · exact ⟨hc, Or.inl ⟨hbn, hcn, hcn, by unfold minI; rw [if_neg (by omega)]; exact h.symm⟩⟩
  · exact ⟨c, w, by simp [Builtin.min_, Builtin.min2, ho, cmp_int_gt h], ⟨hc, Or.inl ⟨hbn, hcn, hcn, by unfold minI; rw [if_pos h]⟩⟩, Or.inl rfl⟩
/-- A number moved into a finite range lies in it. -/
theorem clamp {x lo hi y z : Nat} (hlo : rg lo < INF) (hhi : rg hi < INF) (hle : fv lo ≤ fv hi) (h1 : MM maxI x lo y) (h2 : MM minI y hi z) : z < 18446744073709551616 ∧ (INF < rg z ∨ (rg z < INF ∧ fv lo ≤ fv z ∧ fv z ≤ fv hi)) := by
  refine ⟨h2.1, ?_⟩
  rcases h2.2 with ⟨a1, a2, a3, a4⟩ | ⟨a1, -⟩
  · right
    rcases h1.2 with ⟨b1, b2, b3, b4⟩ | ⟨b1, -⟩
    · have hm : fv lo ≤ fv y := by rw [b4]; unfold maxI; split <;> omega
      have h3 : fv lo ≤ fv z ∧ fv z ≤ fv hi := by rw [a4]; unfold minI; split <;> omega
      refine ⟨?_, h3⟩
      have hl := fv_bound hlo
      have hh := fv_bound hhi
      rcases Nat.lt_or_ge (rg z) INF with h | h
      · exact h
      · exfalso
        have e : rg z = INF := Nat.le_antisymm a3 h
        rcases fv_cases z with ⟨-, e2⟩ | ⟨-, e2⟩ <;> rw [e] at e2 <;> omega
    · omega
  · exact Or.inl a1
end Go.Proofs.Ytjmipbljoblnnaa

namespace Go.Proofs.Ytjmipbljoblnnaa
open Go.RowKit

abbrev W64 : Nat := 18446744073709551616
/-- A gap as a value. -/
abbrev G (l h : Nat) : Value := .agg #[.float .f64 l, .float .f64 h]
/-- The words of a gap that is known. -/
structure KG (l h : Nat) : Prop where
  lf : rg l < INF
  hf : rg h < INF
  le : fv l ≤ fv h
def RetG (w : World) (P : Nat → Nat → Prop) (e : Ending) (w' : World) : Prop :=
  ∃ l h, e = .returned (G l h) ∧ l < W64 ∧ h < W64 ∧ (KG l h → P l h) ∧ Below w.heap.size w w'
def InG (a b : Nat) (X : Int) : Prop := fv a ≤ X ∧ X ≤ fv b
def SumG (a b c d l h : Nat) : Prop := ∀ X Y, InG a b X → InG c d Y → fv l ≤ X + Y ∧ X + Y ≤ fv h
def LessG (a b c d l h : Nat) : Prop := ∀ X Y, InG a b X → InG c d Y → fv l ≤ X - Y ∧ X - Y ≤ fv h
def MulG (a b c d l h : Nat) : Prop := ∀ X Y, InG a b X → InG c d Y → ∀ K : Nat, K = 1074 → fv l * 2 ^ K ≤ X * Y ∧ X * Y ≤ fv h * 2 ^ K
def QuoG (a b c d l h : Nat) : Prop := ∀ X Y, InG a b X → InG c d Y → Y ≠ 0 → ∀ K : Nat, K = 1074 → fv l * absI Y ≤ (if Y < 0 then -X else X) * 2 ^ K ∧ (if Y < 0 then -X else X) * 2 ^ K ≤ fv h * absI Y
def RootG (a b l h : Nat) : Prop := ∀ X, InG a b X → 0 ≤ X → ∀ K : Nat, K = 1074 → (fv l ≤ 0 ∨ fv l * fv l ≤ X * 2 ^ K) ∧ 0 ≤ fv h ∧ X * 2 ^ K ≤ fv h * fv h
theorem run_store_float {P : Program} (w : World) (a : Addr) (m : Mode) (k : FloatKind) (b : Nat) : (store a (.float k b) m).run P w = stored P w a (.float k b) m := run_store P w a _ m rfl
theorem fle_num {a b : Nat} (ha : rg a ≤ INF) (hb : rg b ≤ INF) : ((FloatKind.f64.format.order a b == some .lt) || (FloatKind.f64.format.order a b == some .eq)) = decide (fv a ≤ fv b) := by
  rw [flt_num ha hb, feq_num ha hb]
  by_cases h : fv a ≤ fv b
  · rw [decide_eq_true h]
    rcases Int.lt_or_eq_of_le h with h1 | h1
    · rw [decide_eq_true h1]; rfl
    · rw [decide_eq_true h1, Bool.or_true]
  · rw [decide_eq_false h, decide_eq_false (by omega), decide_eq_false (by omega)]; rfl
theorem absI_pos {Y : Int} (h : Y ≠ 0) : 0 < absI Y := by unfold absI; split <;> omega
/-- A gap's end does not lie beyond the quotient rounded away from it. -/
theorem quo_low {x y dl Zr : Int} {K j : Nat} (hy : y ≠ 0) (h1 : dl * absI y ≤ (if y < 0 then -x else x) * 2 ^ K) (h2 : (if y < 0 then -x else x) * 2 ^ (K + j) ≤ Zr * absI y) : dl * 2 ^ j ≤ Zr := by
  have hp : (0 : Int) < 2 ^ j := Int.pow_pos (by decide)
  have h3 := Int.mul_le_mul_of_nonneg_right h1 (show (0 : Int) ≤ 2 ^ j by omega)
  rw [Int.pow_add, ← Int.mul_assoc] at h2
  refine Int.le_of_mul_le_mul_right (?_ : dl * 2 ^ j * absI y ≤ Zr * absI y) (absI_pos hy)
  rw [Int.mul_assoc, Int.mul_comm (2 ^ j), ← Int.mul_assoc]
  omega
theorem quo_high {x y dh Zr : Int} {K j : Nat} (hy : y ≠ 0) (h1 : (if y < 0 then -x else x) * 2 ^ K ≤ dh * absI y) (h2 : Zr * absI y ≤ (if y < 0 then -x else x) * 2 ^ (K + j)) : Zr ≤ dh * 2 ^ j := by
  have hp : (0 : Int) < 2 ^ j := Int.pow_pos (by decide)
  have h3 := Int.mul_le_mul_of_nonneg_right h1 (show (0 : Int) ≤ 2 ^ j by omega)
  rw [Int.pow_add, ← Int.mul_assoc] at h2
  refine Int.le_of_mul_le_mul_right (?_ : Zr * absI y ≤ dh * 2 ^ j * absI y) (absI_pos hy)
  rw [Int.mul_assoc dh, Int.mul_comm (2 ^ j) (absI y), ← Int.mul_assoc dh]
  omega
/-- Slots that hold a float64, or a gap. -/
def IsF (P : Nat → Prop) (v : Value) (_ : World) : Prop := ∃ x, v = .float .f64 x ∧ P x
theorem IsF.keeps (P : Nat → Prop) : Keeps (IsF P) := fun _ _ _ _ h => h
def IsG (P : Nat → Nat → Prop) (v : Value) (_ : World) : Prop := ∃ l h, v = G l h ∧ l < W64 ∧ h < W64 ∧ (KG l h → P l h)
theorem IsG.keeps (P : Nat → Nat → Prop) : Keeps (IsG P) := fun _ _ _ _ h => h
def IsDQ (L : Nat) (Z : Int) (m b : Nat) (v : Value) (w : World) : Prop := ∃ p a n c E, v = .agg #[.bool p, .slice a n c, .int .i64 E] ∧ DQ L w (.agg #[.bool p, .slice a n c, .int .i64 E]) Z m b
theorem IsDQ.keeps (L : Nat) (Z : Int) (m b : Nat) : Keeps (IsDQ L Z m b) := fun _ _ _ hb ⟨p, a, n, c, E, h1, h2⟩ => ⟨p, a, n, c, E, h1, h2.below hb⟩
theorem DQ.var {L : Nat} {w w' : World} {v : Value} {Z : Int} {m b g lo hi : Nat} (h : DQ L w v Z m b) {p : Bool} {a1 : Option Addr} {n1 c1 : Nat} {E : Int} {t : TypeId} (hv : w.heap[g]? = some (.cells #[.bool p, .slice a1 n1 c1, .int .i64 E] t (0, 0))) (ho : Only g lo hi w w') : DQ L w' v Z m b := by
  obtain ⟨q, a, n, c, N, E2, E0, h1, h2, h3⟩ := h
  exact ⟨q, a, n, c, N, E2, E0, h1, num_var3 h2 hv ho, h3⟩
/-- A slot that holds a rounded quotient. -/
def IsQuo (Lq : Nat) (Zx Zy dir : Int) (m b : Nat) (v : Value) (w : World) : Prop := ∃ p a n c E, v = .agg #[.bool p, .slice a n c, .int .i64 E] ∧ ∃ Zr, RQ Lq w (.agg #[.bool p, .slice a n c, .int .i64 E]) Zr m b ∧ (dir < 0 → Zr * absI Zy ≤ (if Zy < 0 then -Zx else Zx) * 2 ^ Lq) ∧ (0 < dir → (if Zy < 0 then -Zx else Zx) * 2 ^ Lq ≤ Zr * absI Zy)
theorem IsQuo.keeps (Lq : Nat) (Zx Zy dir : Int) (m b : Nat) : Keeps (IsQuo Lq Zx Zy dir m b) := fun _ _ _ hb ⟨p, a, n, c, E, h1, Zr, h2, h3⟩ => ⟨p, a, n, c, E, h1, Zr, h2.below hb, h3⟩
/-- Where x lies in a gap, or is no number. -/
def ClampP (a b z : Nat) : Prop := z < W64 ∧ (INF < rg z ∨ (rg z < INF ∧ fv a ≤ fv z ∧ fv z ≤ fv b))
end Go.Proofs.Ytjmipbljoblnnaa

namespace Go.Proofs.Ytjmipbljoblnnaa
open Go.RowKit

theorem flo_side {p : Bool} {N E : Int} {b : Nat} (j : Nat) (hE : -1074 ≤ E) (hv : N * 2 ^ (E + 1074).toNat = (un (rg b) : Int)) (hp : N ≠ 0 → p = fneg b) : sg p N * 2 ^ (E + ((1074 + j : Nat) : Int)).toNat = fv b * 2 ^ j := by
  have e1 : (E + ((1074 + j : Nat) : Int)).toNat = (E + 1074).toNat + j := by omega
  rw [e1, Int.pow_add, ← Int.mul_assoc]
  refine congrArg (· * (2 : Int) ^ j) ?_
  rw [fv_def, ← sg_scale, hv]
  by_cases h0 : N = 0
  · rw [h0, Int.zero_mul] at hv
    rw [← hv]
    cases p <;> cases fneg b <;> rfl
  · rw [hp h0]; rfl
theorem DQ.open {L : Nat} {w : World} {q : Bool} {a : Option Addr} {n c : Nat} {G Z : Int} {m b : Nat} (h : DQ L w (.agg #[.bool q, .slice a n c, .int .i64 G]) Z m b) :
    ∃ M, ∃ G0 : Nat, Num w (.slice a n c) M m ∧ Z = sg q M * 2 ^ G0 ∧ G + (L : Int) = (G0 : Int) ∧ G0 ≤ b := by
  obtain ⟨p, a', n', c', N, E, E0, he, h1, h2, h3, -, h5⟩ := h
  simp only [Value.agg.injEq, Array.mk.injEq, List.cons.injEq, Value.bool.injEq, Value.slice.injEq, Value.int.injEq, and_true, true_and] at he
  obtain ⟨rfl, ⟨rfl, rfl, rfl⟩, rfl⟩ := he
  exact ⟨N, E0, h1, h2, h3, h5⟩
/-- A step down that ends at a finite word has gone down. -/
theorem step_dn_lt {x : Nat} (hx : x < W64) (hr : rg x ≤ INF) (hl : rg (stepW x true) < INF) : stepW x true < W64 ∧ fv (stepW x true) < fv x := by
  rcases Nat.lt_or_ge (rg x) INF with h | h
  · exact ⟨(steps hx h).dn_lt, (steps hx h).dn⟩
  · have e : rg x = INF := Nat.le_antisymm hr h
    rcases word_cases hx with ⟨h1, -⟩ | ⟨h1, -⟩
    · rw [e] at h1
      subst h1
      refine ⟨by decide, ?_⟩
      have e2 : stepW INF true = INF - 1 := by decide
      rw [e2, fv_pos (by decide), fv_pos (by decide)]
      have := un_lt (show INF - 1 < INF by decide)
      omega
    · rw [e] at h1
      subst h1
      exact absurd hl (by decide)
theorem step_up_lt {x : Nat} (hx : x < W64) (hr : rg x ≤ INF) (hl : rg (stepW x false) < INF) : stepW x false < W64 ∧ fv x < fv (stepW x false) := by
  rcases Nat.lt_or_ge (rg x) INF with h | h
  · exact ⟨(steps hx h).up_lt, (steps hx h).up⟩
  · have e : rg x = INF := Nat.le_antisymm hr h
    rcases word_cases hx with ⟨h1, -⟩ | ⟨h1, -⟩
    · rw [e] at h1
      subst h1
      exact absurd hl (by decide)
    · rw [e] at h1
      subst h1
      refine ⟨by decide, ?_⟩
      have e2 : stepW (9223372036854775808 + INF) false = 9223372036854775808 + (INF - 1) := by decide
      rw [e2, fv_neg (by decide), fv_neg (by decide)]
      have := un_lt (show INF - 1 < INF by decide)
      omega
/-- The ends of a sum, stepped outward, hold every sum. -/
theorem sum_ends {a b c d x y l h : Nat} (hx : NearTo x (fv a + fv c)) (hy : NearTo y (fv b + fv d)) (hl : l < W64) (hlr : rg l ≤ INF) (hlx : fv l < fv x) (hh : h < W64) (hhr : rg h ≤ INF) (hhy : fv y < fv h) : SumG a b c d l h := by
  intro X Y hX hY
  have h1 := near_under1 hx hl hlr hlx
  have h2 := near_over1 hy hh hhr hhy
  unfold InG at hX hY
  omega
/-- The ends of a product: below and above the four products of the corners. -/
theorem mul_ends {a b c d p q r s l h : Nat} {K : Nat} (hK : K = 1074) (hp : NearR p (fv a * fv c) (2 ^ K)) (hq : NearR q (fv a * fv d) (2 ^ K)) (hr : NearR r (fv b * fv c) (2 ^ K)) (hs : NearR s (fv b * fv d) (2 ^ K))
    (hl : l < W64) (hlr : rg l ≤ INF) (l1 : fv l < fv p) (l2 : fv l < fv q) (l3 : fv l < fv r) (l4 : fv l < fv s) (hh : h < W64) (hhr : rg h ≤ INF) (h1 : fv p < fv h) (h2 : fv q < fv h) (h3 : fv r < fv h) (h4 : fv s < fv h) : MulG a b c d l h := by
  intro X Y hX hY K' hK'
  obtain rfl : K' = K := by omega
  have cast : ((2 ^ K' : Nat) : Int) = (2 : Int) ^ K' := by rw [Int.natCast_pow]; rfl
  constructor
  · refine mul_corners_low hX hY ?_ ?_ ?_ ?_ <;> rw [← cast]
    · exact near_under hp hl hlr l1
    · exact near_under hq hl hlr l2
    · exact near_under hr hl hlr l3
    · exact near_under hs hl hlr l4
  · refine mul_corners_high hX hY ?_ ?_ ?_ ?_ <;> rw [← cast]
    · exact near_over hp hh hhr h1
    · exact near_over hq hh hhr h2
    · exact near_over hr hh hhr h3
    · exact near_over hs hh hhr h4
theorem near_quo {x b c K : Nat} (h : NearR x ((if fneg c then -1 else 1) * fv b * (2 ^ K : Nat)) (un (rg c))) :
    (fneg c = false → ∀ y, y < W64 → rg y ≤ INF → (fv y < fv x → fv y * fv c ≤ fv b * 2 ^ K) ∧ (fv x < fv y → fv b * 2 ^ K ≤ fv y * fv c)) ∧
    (fneg c = true → ∀ y, y < W64 → rg y ≤ INF → (fv y < fv x → fv y * -fv c ≤ -fv b * 2 ^ K) ∧ (fv x < fv y → -fv b * 2 ^ K ≤ fv y * -fv c)) := by
  have cast : ((2 ^ K : Nat) : Int) = (2 : Int) ^ K := by rw [Int.natCast_pow]; rfl
  constructor
  · intro hs y hy hr
    have e : fv c = (un (rg c) : Int) := by rw [fv_def, hs]; rfl
    rw [hs, cast] at h
    simp only [Bool.false_eq_true, if_false, Int.one_mul] at h
    rw [e]
    exact ⟨near_under h hy hr, near_over h hy hr⟩
  · intro hs y hy hr
    have e : -fv c = (un (rg c) : Int) := by rw [fv_def, hs]; simp
    rw [hs, cast] at h
    simp only [if_true, Int.neg_mul, Int.one_mul] at h
    rw [e, Int.neg_mul]
    exact ⟨near_under h hy hr, near_over h hy hr⟩
theorem fneg_of_pos {c : Nat} (h : 0 < fv c) : fneg c = false := by
  rcases fv_cases c with ⟨h1, -⟩ | ⟨-, h1⟩
  · exact h1
  · omega
theorem fneg_of_neg {c : Nat} (h : fv c < 0) : fneg c = true := by
  rcases fv_cases c with ⟨-, h1⟩ | ⟨h1, -⟩
  · omega
  · exact h1
/-- The ends of a quotient: below and above the four quotients of the corners, where the divisor's range is above 0 or below 0. -/
theorem quo_ends {a b c d p q r s l h : Nat} {K : Nat} (hK : K = 1074) (hcd : 0 < fv c ∨ fv d < 0) (hle : fv c ≤ fv d)
    (hp : NearR p ((if fneg c then -1 else 1) * fv a * (2 ^ K : Nat)) (un (rg c))) (hq : NearR q ((if fneg d then -1 else 1) * fv a * (2 ^ K : Nat)) (un (rg d)))
    (hr : NearR r ((if fneg c then -1 else 1) * fv b * (2 ^ K : Nat)) (un (rg c))) (hs : NearR s ((if fneg d then -1 else 1) * fv b * (2 ^ K : Nat)) (un (rg d)))
    (hl : l < W64) (hlr : rg l ≤ INF) (l1 : fv l < fv p) (l2 : fv l < fv q) (l3 : fv l < fv r) (l4 : fv l < fv s) (hh : h < W64) (hhr : rg h ≤ INF) (h1 : fv p < fv h) (h2 : fv q < fv h) (h3 : fv r < fv h) (h4 : fv s < fv h) : QuoG a b c d l h := by
  intro X Y hX hY hY0 K' hK'
  obtain rfl : K' = K := by omega
  have hT : (0 : Int) ≤ 2 ^ K' := Int.le_of_lt (Int.pow_pos (by decide))
  unfold InG at hX hY
  rcases hcd with hc | hd
  · have sc := fneg_of_pos hc
    have sd := fneg_of_pos (show 0 < fv d by omega)
    have ea : absI Y = Y := by unfold absI; rw [if_neg (by omega)]
    rw [if_neg (by omega), ea]
    exact ⟨quo_corners_low hT hX.1 hY (((near_quo hp).1 sc l hl hlr).1 l1) (((near_quo hq).1 sd l hl hlr).1 l2),
      quo_corners_high hT hX.2 hY (((near_quo hr).1 sc h hh hhr).2 h3) (((near_quo hs).1 sd h hh hhr).2 h4)⟩
  · have sd := fneg_of_neg hd
    have sc := fneg_of_neg (show fv c < 0 by omega)
    have ea : absI Y = -Y := by unfold absI; rw [if_pos (by omega)]
    rw [if_pos (by omega), ea]
    exact ⟨quo_corners_low (c := -fv d) (d := -fv c) hT (Int.neg_le_neg hX.2) ⟨by omega, by omega⟩ (((near_quo hs).2 sd l hl hlr).1 l4) (((near_quo hr).2 sc l hl hlr).1 l3),
      quo_corners_high (c := -fv d) (d := -fv c) hT (Int.neg_le_neg hX.1) ⟨by omega, by omega⟩ (((near_quo hq).2 sd h hh hhr).2 h2) (((near_quo hp).2 sc h hh hhr).2 h1)⟩
/-- What a float64 root is: no float64 lies between it and the exact one. -/
structure RootF (b x K : Nat) : Prop where
  lt : x < W64
  rg : Go.Proofs.Ytjmipbljoblnnaa.rg x ≤ INF
  pos : 0 ≤ fv x
  up : ∀ y, y < W64 → Go.Proofs.Ytjmipbljoblnnaa.rg y ≤ INF → 0 ≤ fv y → fv y * fv y ≤ fv b * 2 ^ K → fv y ≤ fv x
  down : ∀ y, y < W64 → Go.Proofs.Ytjmipbljoblnnaa.rg y ≤ INF → 0 ≤ fv y → fv b * 2 ^ K ≤ fv y * fv y → fv x ≤ fv y
theorem fv_rung {y : Nat} (h : 0 ≤ fv y) : fv y = (un (rg y) : Int) := by
  rcases fv_cases y with ⟨-, h1⟩ | ⟨-, h1⟩
  · exact h1
  · omega
theorem sqrt_root {b K : Nat} (hb64 : b < W64) (hb : rg b < INF) (h0 : 0 ≤ fv b) (hK : K = 1074) : ∃ x, Ieee.double.sqrt b = some x ∧ RootF b x K := by
  by_cases hz : un (rg b) = 0
  · have hr := un_eq_zero hz
    have hfb : fv b = 0 := by rw [fv_rung h0, hz]; rfl
    have key : ∀ x, x < W64 → rg x ≤ INF → fv x = 0 → RootF b x K := fun x h1 h2 h3 => ⟨h1, h2, by omega, fun y _ _ hy hle => by
      rw [hfb, Int.zero_mul] at hle
      rcases Int.lt_or_eq_of_le hy with h4 | h4
      · have := Int.mul_pos h4 h4
        omega
      · omega, fun y _ _ hy _ => by omega⟩
    rcases word_cases hb64 with ⟨h1, -⟩ | ⟨h1, -⟩
    · rw [hr] at h1
      subst h1
      exact ⟨0, by decide, key 0 (by decide) (by decide) (by decide)⟩
    · rw [hr] at h1
      subst h1
      exact ⟨9223372036854775808, by decide, key _ (by decide) (by decide) (by decide)⟩
  · have hs : fneg b = false := by
      refine fneg_of_pos ?_
      rw [fv_rung h0]
      omega
    obtain ⟨r, e, hr, hup, hdn⟩ := fsqrt_num hb hs hz hK
    have hI : INF = 9218868437227405312 := rfl
    have hfr : fv r = (un r : Int) := fv_pos (by omega)
    have hrr : rg r = r := (rg_pos (by omega)).1
    have cast : ((un (rg b) * 2 ^ K : Nat) : Int) = (un (rg b) : Int) * 2 ^ K := by rw [Int.natCast_mul, Int.natCast_pow]; rfl
    refine ⟨r, e, (by show r < 18446744073709551616; omega), by rw [hrr]; exact hr, by rw [hfr]; omega, fun y hy hyr hy0 hle => ?_, fun y hy hyr hy0 hle => ?_⟩
    · rw [fv_rung hy0, fv_rung h0, ← cast] at hle
      have h1 := hup (rg y) hyr (by exact_mod_cast hle)
      rw [fv_rung hy0, hfr]
      exact_mod_cast un_le h1
    · rw [fv_rung hy0, fv_rung h0, ← cast] at hle
      have h1 := hdn (rg y) (by exact_mod_cast hle)
      rw [fv_rung hy0, hfr]
      exact_mod_cast un_le h1
/-- The ends of a root. -/
theorem root_ends {a b x y l h : Nat} {K : Nat} (hK : K = 1074) (hx : RootF a x K) (hy : RootF b y K) (hl : l < W64) (hlr : rg l ≤ INF) (hlx : fv l < fv x) (hh : h < W64) (hhr : rg h ≤ INF) (hhy : fv y < fv h) : RootG a b l h := by
  intro X hX hX0 K' hK'
  obtain rfl : K' = K := by omega
  have hT : (0 : Int) ≤ 2 ^ K' := Int.le_of_lt (Int.pow_pos (by decide))
  unfold InG at hX
  have hp := hy.pos
  refine ⟨?_, by omega, ?_⟩
  · rcases Int.lt_or_le 0 (fv l) with h1 | h1
    · right
      have h2 : fv l * fv l ≤ fv a * 2 ^ K' := by
        rcases Int.lt_or_le (fv a * 2 ^ K') (fv l * fv l) with h3 | h3
        · have := hx.down l hl hlr (Int.le_of_lt h1) (Int.le_of_lt h3)
          omega
        · exact h3
      exact Int.le_trans h2 (Int.mul_le_mul_of_nonneg_right hX.1 hT)
    · exact Or.inl h1
  · have h2 : fv b * 2 ^ K' ≤ fv h * fv h := by
      rcases Int.lt_or_le (fv h * fv h) (fv b * 2 ^ K') with h3 | h3
      · have := hy.up h hh hhr (by omega) (Int.le_of_lt h3)
        omega
      · exact h3
    exact Int.le_trans (Int.mul_le_mul_of_nonneg_right hX.2 hT) h2
end Go.Proofs.Ytjmipbljoblnnaa

namespace Go.Proofs.Ytjmipbljoblnnaa
open Go.RowKit

attribute [local go_sem] run_store_float
set_option maxRecDepth 100000 in
set_option maxHeartbeats 1000000 in
theorem gknown_yes {w : World} {l h : Nat} (hl : l < W64) (hh : h < W64) (hk : KG l h) : Calls Try.prog 7 #[G l h] w fun e w' => e = .returned (.bool true) ∧ Below w.heap.size w w' := by
  have HF1 := Lib.hid (fun w => finite_num l w hl)
  have HF2 := Lib.hid (fun w => finite_num h w hh)
  have hle := fle_num (Nat.le_of_lt hk.lf) (Nat.le_of_lt hk.hf)
  rw [decide_eq_true hk.le] at hle
  rw [decide_eq_true hk.lf] at HF1
  rw [decide_eq_true hk.hf] at HF2
  clear hk
  go_enter Try.func7, Try.ntmps7
  go_wp2_with fail
  refine (HF1.out _).mono ?_
  rintro e w' ⟨rfl, rfl⟩
  go_wp2_with fail
  refine (HF2.out _).mono ?_
  rintro e w' ⟨rfl, rfl⟩
  go_wp2_with fail
  go_ret
  exact ⟨rfl, below_alloc w _⟩
set_option maxRecDepth 100000 in
set_option maxHeartbeats 1000000 in
theorem gknown_no {w : World} {l h : Nat} (hl : l < W64) (hh : h < W64) (hk : ¬ KG l h) : Calls Try.prog 7 #[G l h] w fun e w' => e = .returned (.bool false) ∧ Below w.heap.size w w' := by
  have HF1 := Lib.hid (fun w => finite_num l w hl)
  have HF2 := Lib.hid (fun w => finite_num h w hh)
  by_cases h1 : rg l < INF
  · rw [decide_eq_true h1] at HF1
    by_cases h2 : rg h < INF
    · rw [decide_eq_true h2] at HF2
      have hle := fle_num (Nat.le_of_lt h1) (Nat.le_of_lt h2)
      rw [decide_eq_false (fun h3 => hk ⟨h1, h2, h3⟩)] at hle
      clear hk h1 h2
      go_enter Try.func7, Try.ntmps7
      go_wp2_with fail
      refine (HF1.out _).mono ?_
      rintro e w' ⟨rfl, rfl⟩
      go_wp2_with fail
      refine (HF2.out _).mono ?_
      rintro e w' ⟨rfl, rfl⟩
      go_wp2_with fail
      go_ret
      exact ⟨rfl, below_alloc w _⟩
    · rw [decide_eq_false h2] at HF2
      clear hk h1 h2
      go_enter Try.func7, Try.ntmps7
      go_wp2_with fail
      refine (HF1.out _).mono ?_
      rintro e w' ⟨rfl, rfl⟩
      go_wp2_with fail
      refine (HF2.out _).mono ?_
      rintro e w' ⟨rfl, rfl⟩
      go_wp2_with fail
      go_ret
      exact ⟨rfl, below_alloc w _⟩
  · rw [decide_eq_false h1] at HF1
    clear hk h1 HF2
    go_enter Try.func7, Try.ntmps7
    go_wp2_with fail
    refine (HF1.out _).mono ?_
    rintro e w' ⟨rfl, rfl⟩
    go_wp2_with fail
    go_ret
    exact ⟨rfl, below_alloc w _⟩
/-- Known, as GapHolds asks it. -/
theorem gknown (w : World) (l h : Nat) (hl : l < W64) (hh : h < W64) : Calls Try.prog 7 #[G l h] w fun e w' => ∃ r, e = .returned (.bool r) ∧ (r = true → KG l h) ∧ Below w.heap.size w w' := by
  by_cases hk : KG l h
  · refine (gknown_yes hl hh hk).mono ?_
    rintro e w' ⟨rfl, hb⟩
    exact ⟨true, rfl, fun _ => hk, hb⟩
  · refine (gknown_no hl hh hk).mono ?_
    rintro e w' ⟨rfl, hb⟩
    exact ⟨false, rfl, (fun h => nomatch h), hb⟩
set_option maxRecDepth 100000 in
theorem minf (w : World) (s : Int) (hs : s = 1 ∨ s = -1) : Calls Try.prog 14 #[.int .i64 s] w fun e w' => e = .returned (.float .f64 (if s = 1 then INF else 9223372036854775808 + INF)) ∧ w' = w := by
  have hr := frombits_run
  rcases hs with rfl | rfl
  · go_enter Try.func14, Try.ntmps14
    go_wp2_with fail
    go_ret
    exact ⟨rfl, rfl⟩
  · go_enter Try.func14, Try.ntmps14
    go_wp2_with fail
    go_ret
    exact ⟨rfl, rfl⟩
set_option maxRecDepth 100000 in
theorem gall (w : World) : Calls Try.prog 6 #[] w fun e w' => e = .returned (G (9223372036854775808 + INF) INF) ∧ Below w.heap.size w w' := by
  go_enter Try.func6, Try.ntmps6
  go_wp2_with fail
  refine (minf _ _ (Or.inr rfl)).mono ?_
  rintro e w' ⟨rfl, rfl⟩
  go_wp2_with fail
  refine (minf _ _ (Or.inl rfl)).mono ?_
  rintro e w' ⟨rfl, rfl⟩
  go_wp2_with fail
  refine bodyPost_ret (results_cell_row rfl _ _ w.heap.size 25 #[.float .f64 (9223372036854775808 + INF), .float .f64 INF] (0, 0) _ rfl ?_ Try.underlying25 rfl (by kernel_rfl)) rfl ⟨rfl, ?_⟩
  · exact heap_alloc_new w _
  · exact below_alloc w _
end Go.Proofs.Ytjmipbljoblnnaa

namespace Go.Proofs.Ytjmipbljoblnnaa
open Go.RowKit

theorem min2_run {P : Program} {b c : Nat} (hb : rg b ≤ INF) (hc : rg c ≤ INF) (w : World) : ∃ x, (Builtin.min2 (.float .f64 b) (.float .f64 c)).run P w = .ok (.float .f64 x) w ∧ (x = b ∨ x = c) ∧ fv x ≤ fv b ∧ fv x ≤ fv c := by
  have ho : FloatKind.f64.format.order b c = some (compare (fv b) (fv c)) := order_num hb hc
  rcases Int.lt_trichotomy (fv b) (fv c) with h | h | h
  · exact ⟨b, by simp [Builtin.min2, ho, cmp_int_lt h], Or.inl rfl, Int.le_refl _, by omega⟩
  · refine ⟨if (FloatKind.f64.decode b).neg then b else c, by simp [Builtin.min2, ho, cmp_int_eq h], ?_, ?_, ?_⟩ <;> split
    · exact Or.inl rfl
    · exact Or.inr rfl
    · omega
    · omega
    · omega
    · omega
  · exact ⟨c, by simp [Builtin.min2, ho, cmp_int_gt h], Or.inr rfl, by omega, Int.le_refl _⟩
theorem max2_run {P : Program} {b c : Nat} (hb : rg b ≤ INF) (hc : rg c ≤ INF) (w : World) : ∃ x, (Builtin.max2 (.float .f64 b) (.float .f64 c)).run P w = .ok (.float .f64 x) w ∧ (x = b ∨ x = c) ∧ fv b ≤ fv x ∧ fv c ≤ fv x := by
  have ho : FloatKind.f64.format.order b c = some (compare (fv b) (fv c)) := order_num hb hc
  rcases Int.lt_trichotomy (fv b) (fv c) with h | h | h
  · exact ⟨c, by simp [Builtin.max2, ho, cmp_int_lt h], Or.inr rfl, by omega, Int.le_refl _⟩
  · refine ⟨if (FloatKind.f64.decode b).neg then c else b, by simp [Builtin.max2, ho, cmp_int_eq h], ?_, ?_, ?_⟩ <;> split
    · exact Or.inr rfl
    · exact Or.inl rfl
    · omega
    · omega
    · omega
    · omega
  · exact ⟨b, by simp [Builtin.max2, ho, cmp_int_gt h], Or.inl rfl, Int.le_refl _, by omega⟩
/-- One of four words, at most (at least) each of them. -/
structure Least (x p q r s : Nat) : Prop where
  one : x = p ∨ x = q ∨ x = r ∨ x = s
  p : fv x ≤ fv p
  q : fv x ≤ fv q
  r : fv x ≤ fv r
  s : fv x ≤ fv s
structure Most (x p q r s : Nat) : Prop where
  one : x = p ∨ x = q ∨ x = r ∨ x = s
  p : fv p ≤ fv x
  q : fv q ≤ fv x
  r : fv r ≤ fv x
  s : fv s ≤ fv x
theorem min4_run {P : Program} (ts : Array TypeId) (t : TypeId) {p q r s : Nat} (hp : rg p ≤ INF) (hq : rg q ≤ INF) (hr : rg r ≤ INF) (hs : rg s ≤ INF) (w : World) :
    ∃ x, (Builtin.min_ ts t #[.float .f64 p, .float .f64 q, .float .f64 r, .float .f64 s]).run P w = .ok (.float .f64 x) w ∧ Least x p q r s := by
  obtain ⟨x1, e1, o1, a1, b1⟩ := min2_run (P := P) hp hq w
  obtain ⟨x2, e2, o2, a2, b2⟩ := min2_run (P := P) (b := x1) (by rcases o1 with rfl | rfl <;> assumption) hr w
  have g2 : rg x2 ≤ INF := by
    rcases o2 with rfl | rfl
    · rcases o1 with rfl | rfl <;> assumption
    · assumption
  obtain ⟨x3, e3, o3, a3, b3⟩ := min2_run (P := P) (b := x2) g2 hs w
  refine ⟨x3, by simp [Builtin.min_, e1, e2, e3, Result.andThen], ?_, by omega, by omega, by omega, by omega⟩
  rcases o3 with rfl | rfl
  · rcases o2 with rfl | rfl
    · rcases o1 with rfl | rfl
      · exact Or.inl rfl
      · exact Or.inr (Or.inl rfl)
    · exact Or.inr (Or.inr (Or.inl rfl))
  · exact Or.inr (Or.inr (Or.inr rfl))
theorem max4_run {P : Program} (ts : Array TypeId) (t : TypeId) {p q r s : Nat} (hp : rg p ≤ INF) (hq : rg q ≤ INF) (hr : rg r ≤ INF) (hs : rg s ≤ INF) (w : World) :
    ∃ x, (Builtin.max_ ts t #[.float .f64 p, .float .f64 q, .float .f64 r, .float .f64 s]).run P w = .ok (.float .f64 x) w ∧ Most x p q r s := by
  obtain ⟨x1, e1, o1, a1, b1⟩ := max2_run (P := P) hp hq w
  obtain ⟨x2, e2, o2, a2, b2⟩ := max2_run (P := P) (b := x1) (by rcases o1 with rfl | rfl <;> assumption) hr w
  have g2 : rg x2 ≤ INF := by
    rcases o2 with rfl | rfl
    · rcases o1 with rfl | rfl <;> assumption
    · assumption
  obtain ⟨x3, e3, o3, a3, b3⟩ := max2_run (P := P) (b := x2) g2 hs w
  refine ⟨x3, by simp [Builtin.max_, e1, e2, e3, Result.andThen], ?_, by omega, by omega, by omega, by omega⟩
  rcases o3 with rfl | rfl
  · rcases o2 with rfl | rfl
    · rcases o1 with rfl | rfl
      · exact Or.inl rfl
      · exact Or.inr (Or.inl rfl)
    · exact Or.inr (Or.inr (Or.inl rfl))
  · exact Or.inr (Or.inr (Or.inr rfl))
/-- The gap that package gap's outwards gives: the ends stepped outward, or the one from -Inf to Inf. -/
def outLo (lo hi : Nat) : Nat := if rg (stepW lo true) < INF ∧ rg (stepW hi false) < INF ∧ fv (stepW lo true) ≤ fv (stepW hi false) then stepW lo true else 9223372036854775808 + INF
def outHi (lo hi : Nat) : Nat := if rg (stepW lo true) < INF ∧ rg (stepW hi false) < INF ∧ fv (stepW lo true) ≤ fv (stepW hi false) then stepW hi false else INF
theorem out_yes {lo hi : Nat} (h : KG (stepW lo true) (stepW hi false)) : outLo lo hi = stepW lo true ∧ outHi lo hi = stepW hi false :=
  ⟨if_pos ⟨h.lf, h.hf, h.le⟩, if_pos ⟨h.lf, h.hf, h.le⟩⟩
theorem out_no {lo hi : Nat} (h : ¬ KG (stepW lo true) (stepW hi false)) : outLo lo hi = 9223372036854775808 + INF ∧ outHi lo hi = INF :=
  ⟨if_neg fun g => h ⟨g.1, g.2.1, g.2.2⟩, if_neg fun g => h ⟨g.1, g.2.1, g.2.2⟩⟩
/-- Where outwards gives a gap that is known, its ends have gone outward. -/
theorem out_known {lo hi : Nat} (h1 : lo < W64) (h2 : hi < W64) (r1 : rg lo ≤ INF) (r2 : rg hi ≤ INF) (hk : KG (outLo lo hi) (outHi lo hi)) :
    outLo lo hi < W64 ∧ outHi lo hi < W64 ∧ rg (outLo lo hi) ≤ INF ∧ rg (outHi lo hi) ≤ INF ∧ fv (outLo lo hi) < fv lo ∧ fv hi < fv (outHi lo hi) := by
  by_cases h : KG (stepW lo true) (stepW hi false)
  · obtain ⟨e1, e2⟩ := out_yes h
    rw [e1, e2] at hk ⊢
    obtain ⟨a1, a2⟩ := step_dn_lt h1 r1 hk.lf
    obtain ⟨b1, b2⟩ := step_up_lt h2 r2 hk.hf
    exact ⟨a1, b1, Nat.le_of_lt hk.lf, Nat.le_of_lt hk.hf, a2, b2⟩
  · obtain ⟨e1, e2⟩ := out_no h
    rw [e1, e2] at hk
    exact absurd hk.hf (by decide)
theorem out_lt {lo hi : Nat} (h1 : lo < W64) (h2 : hi < W64) (r1 : rg lo ≤ INF) (r2 : rg hi ≤ INF) : outLo lo hi < W64 ∧ outHi lo hi < W64 := by
  by_cases h : KG (stepW lo true) (stepW hi false)
  · obtain ⟨e1, e2⟩ := out_yes h
    rw [e1, e2]
    exact ⟨(step_dn_lt h1 r1 h.lf).1, (step_up_lt h2 r2 h.hf).1⟩
  · obtain ⟨e1, e2⟩ := out_no h
    rw [e1, e2]
    exact ⟨by decide, by decide⟩
theorem gap_end {w0 w : World} {g l h : Nat} {x y : Value} {t : TypeId} (hc : w.heap[g]? = some (.cells #[x, y] t (0, 0))) (hb : Below w0.heap.size w0 w) (hg : w0.heap.size ≤ g) :
    ((w.setCell ⟨g, 0, none⟩ (.float .f64 l)).setCell ⟨g, 1, none⟩ (.float .f64 h)).heap[g]? = some (.cells #[.float .f64 l, .float .f64 h] t (0, 0)) ∧ Below w0.heap.size w0 ((w.setCell ⟨g, 0, none⟩ (.float .f64 l)).setCell ⟨g, 1, none⟩ (.float .f64 h)) :=
  ⟨slot_set hc, hb.trans ((slot_only (w := w) (g := g) (.float .f64 l) (.float .f64 h)).below hg hb.size)⟩
end Go.Proofs.Ytjmipbljoblnnaa

namespace Go.Proofs.Ytjmipbljoblnnaa
open Go.RowKit

attribute [local go_sem] run_store_float
theorem step_lt {b : Nat} (d : Bool) (hb : b < W64) (h : rg b ≤ INF) : stepW b d < W64 := by
  have hI : INF = 9218868437227405312 := rfl
  have hW : W64 = 18446744073709551616 := rfl
  unfold stepW
  rcases word_cases hb with ⟨e, s⟩ | ⟨e, s⟩ <;> rw [s] <;> cases d <;> (repeat' split) <;> omega
set_option maxRecDepth 100000 in
set_option maxHeartbeats 1000000 in
theorem outwards_num {w : World} {lo hi : Nat} (h1 : lo < W64) (h2 : hi < W64) (r1 : rg lo ≤ INF) (r2 : rg hi ≤ INF) : Calls Try.prog 20 #[.float .f64 lo, .float .f64 hi] w fun e w' => e = .returned (G (outLo lo hi) (outHi lo hi)) ∧ Below w.heap.size w w' := by
  have l1 := step_lt true h1 r1
  have l2 := step_lt false h2 r2
  have HY := @out_yes lo hi
  have HN := @out_no lo hi
  have HS1 := Lib.hid (fun w => step_num lo (-1) w h1 r1)
  have HS2 := Lib.hid (fun w => step_num hi 1 w h2 r2)
  rw [show decide ((-1 : Int) < 0) = true from rfl] at HS1
  rw [show decide ((1 : Int) < 0) = false from rfl] at HS2
  obtain ⟨sl, esl⟩ : ∃ s, stepW lo true = s := ⟨_, rfl⟩
  obtain ⟨sh, esh⟩ : ∃ s, stepW hi false = s := ⟨_, rfl⟩
  rw [esl] at HS1 l1 HY HN
  rw [esh] at HS2 l2 HY HN
  clear esl esh h1 h2 r1 r2
  obtain ⟨ol, eol⟩ : ∃ s, outLo lo hi = s := ⟨_, rfl⟩
  obtain ⟨oh, eoh⟩ : ∃ s, outHi lo hi = s := ⟨_, rfl⟩
  rw [eol, eoh] at HY HN ⊢
  clear eol eoh
  have hb0 := (below_alloc w (.cells #[.float .f64 0, .float .f64 0] 25)).alloc (Nat.le_of_lt (by simp)) (.cells #[.float .f64 sl, .float .f64 sh] 25)
  by_cases hk : KG sl sh
  · obtain ⟨rfl, rfl⟩ := HY hk
    clear HY HN
    have HK := Lib.hid (fun w => gknown_yes (w := w) l1 l2 hk)
    clear hk l1 l2
    go_enter Try.func20, Try.ntmps20
    go_wp2_with fail
    refine (HS1.out _).mono ?_
    rintro e w' ⟨rfl, rfl⟩
    go_wp2_with fail
    refine (HS2.out _).mono ?_
    rintro e w' ⟨rfl, rfl⟩
    go_wp2_with fail
    refine (HK.out _).mono ?_
    rintro e w' ⟨rfl, hb⟩
    have hc0 := slot_kept (slot_kept (heap_alloc_new w _) (below_alloc _ _)) hb
    have hc1 := slot_kept (heap_alloc2_new w _ _) hb
    have hbw := hb0.trans (hb.mono hb0.size)
    obtain ⟨k0, k1, f0, f1⟩ := slot2 hc0
    obtain ⟨m0, m1, -, -⟩ := slot2 hc1
    obtain ⟨hend, hbe⟩ := gap_end (w0 := w) (l := ol) (h := oh) hc0 hbw (Nat.le_refl _)
    go_wp2_with fail
    exact bodyPost_ret (results_cell_row rfl _ _ w.heap.size 25 _ (0, 0) _ rfl hend Try.underlying25 rfl (by kernel_rfl)) rfl ⟨rfl, hbe⟩
  · obtain ⟨rfl, rfl⟩ := HN hk
    clear HY HN
    have HK := Lib.hid (fun w => gknown_no (w := w) l1 l2 hk)
    clear hk l1 l2
    go_enter Try.func20, Try.ntmps20
    go_wp2_with fail
    refine (HS1.out _).mono ?_
    rintro e w' ⟨rfl, rfl⟩
    go_wp2_with fail
    refine (HS2.out _).mono ?_
    rintro e w' ⟨rfl, rfl⟩
    go_wp2_with fail
    refine (HK.out _).mono ?_
    rintro e w' ⟨rfl, hb⟩
    have hc0 := slot_kept (slot_kept (heap_alloc_new w _) (below_alloc _ _)) hb
    have hbw := hb0.trans (hb.mono hb0.size)
    go_wp2_with fail
    refine (gall _).mono ?_
    rintro e w2 ⟨rfl, hb2⟩
    have hd0 := slot_kept hc0 hb2
    have hbw2 := hbw.trans (hb2.mono hbw.size)
    obtain ⟨k0, k1, f0, f1⟩ := slot2 hd0
    obtain ⟨hend, hbe⟩ := gap_end (w0 := w) (l := 9223372036854775808 + INF) (h := INF) hd0 hbw2 (Nat.le_refl _)
    go_wp2_with fail
    exact bodyPost_ret (results_cell_row rfl _ _ w.heap.size 25 _ (0, 0) _ rfl hend Try.underlying25 rfl (by kernel_rfl)) rfl ⟨rfl, hbe⟩
theorem Least.lt {x p q r s : Nat} (h : Least x p q r s) (hp : p < W64) (hq : q < W64) (hr : r < W64) (hs : s < W64) : x < W64 := by
  rcases h.one with e | e | e | e <;> rw [e] <;> assumption
theorem Least.rg {x p q r s : Nat} (h : Least x p q r s) (hp : rg p ≤ INF) (hq : Go.Proofs.Ytjmipbljoblnnaa.rg q ≤ INF) (hr : Go.Proofs.Ytjmipbljoblnnaa.rg r ≤ INF) (hs : Go.Proofs.Ytjmipbljoblnnaa.rg s ≤ INF) : Go.Proofs.Ytjmipbljoblnnaa.rg x ≤ INF := by
  rcases h.one with e | e | e | e <;> rw [e] <;> assumption
theorem Most.lt {x p q r s : Nat} (h : Most x p q r s) (hp : p < W64) (hq : q < W64) (hr : r < W64) (hs : s < W64) : x < W64 := by
  rcases h.one with e | e | e | e <;> rw [e] <;> assumption
theorem Most.rg {x p q r s : Nat} (h : Most x p q r s) (hp : rg p ≤ INF) (hq : Go.Proofs.Ytjmipbljoblnnaa.rg q ≤ INF) (hr : Go.Proofs.Ytjmipbljoblnnaa.rg r ≤ INF) (hs : Go.Proofs.Ytjmipbljoblnnaa.rg s ≤ INF) : Go.Proofs.Ytjmipbljoblnnaa.rg x ≤ INF := by
  rcases h.one with e | e | e | e <;> rw [e] <;> assumption
set_option maxRecDepth 100000 in
set_option maxHeartbeats 1000000 in
theorem around_num {w : World} {p q r s : Nat} (lp : p < W64) (lq : q < W64) (lr : r < W64) (ls : s < W64) (hp : rg p ≤ INF) (hq : rg q ≤ INF) (hr : rg r ≤ INF) (hs : rg s ≤ INF) :
    Calls Try.prog 17 #[.float .f64 p, .float .f64 q, .float .f64 r, .float .f64 s] w fun e w' => ∃ x y, e = .returned (G (outLo x y) (outHi x y)) ∧ Least x p q r s ∧ Most y p q r s ∧ Below w.heap.size w w' := by
  obtain ⟨w1, hw1⟩ : ∃ w1, w.alloc (.cells #[.float .f64 0, .float .f64 0] 25) = w1 := ⟨_, rfl⟩
  have hb1 : Below w.heap.size w w1 := hw1 ▸ below_alloc w _
  have hc1 : w1.heap[w.heap.size]? = some (.cells #[.float .f64 0, .float .f64 0] 25 (0, 0)) := hw1 ▸ heap_alloc_new w _
  obtain ⟨x, ex, hx⟩ := min4_run (P := Try.prog) #[22, 22, 22, 22] 22 hp hq hr hs w1
  obtain ⟨y, ey, hy⟩ := max4_run (P := Try.prog) #[22, 22, 22, 22] 22 hp hq hr hs w1
  have HO := Lib.hid (fun w => outwards_num (w := w) (hx.lt lp lq lr ls) (hy.lt lp lq lr ls) (hx.rg hp hq hr hs) (hy.rg hp hq hr hs))
  have HX := Lib.hid (And.intro hx hy)
  clear hx hy lp lq lr ls hp hq hr hs
  go_enter Try.func17, Try.ntmps17
  go_wp2_with fail
  refine (HO.out _).mono ?_
  rintro e w2 ⟨rfl, hb2⟩
  have hd1 := slot_kept hc1 hb2
  have hbw2 := hb1.trans (hb2.mono hb1.size)
  obtain ⟨k0, k1, f0, f1⟩ := slot2 hd1
  obtain ⟨hend, hbe⟩ := gap_end (w0 := w) (l := outLo x y) (h := outHi x y) hd1 hbw2 (Nat.le_refl _)
  go_wp2_with fail
  exact bodyPost_ret (results_cell_row rfl _ _ w.heap.size 25 _ (0, 0) _ rfl hend Try.underlying25 rfl (by kernel_rfl)) rfl ⟨x, y, rfl, HX.out.1, HX.out.2, hbe⟩
end Go.Proofs.Ytjmipbljoblnnaa

namespace Go.Proofs.Ytjmipbljoblnnaa
open Go.RowKit

attribute [local go_sem] run_store_float
theorem fop_run {op : BinOp} {x y z : Nat} (h : floatBits op .f64 x y = some z) (w : World) : (binOp op 22 (.float .f64 x) (.float .f64 y)).run Try.prog w = .ok (.float .f64 z) w := run_float_arith w op 22 .f64 x y z h
/-- The ends of a difference. -/
theorem less_ends {a b c d x y l h : Nat} (hx : NearTo x (fv a - fv d)) (hy : NearTo y (fv b - fv c)) (hl : l < W64) (hlr : rg l ≤ INF) (hlx : fv l < fv x) (hh : h < W64) (hhr : rg h ≤ INF) (hhy : fv y < fv h) : LessG a b c d l h := by
  intro X Y hX hY
  have h1 := near_under1 hx hl hlr hlx
  have h2 := near_over1 hy hh hhr hhy
  unfold InG at hX hY
  omega
/-- Package gap's product (quotient) of four corners. -/
def FourG (op : BinOp) (N : Nat → Nat → Nat → Prop) (w : World) (a b c d : Nat) (e : Ending) (w' : World) : Prop := ∃ p q r s x y, e = .returned (G (outLo x y) (outHi x y)) ∧ (floatBits op .f64 a c = some p ∧ floatBits op .f64 a d = some q ∧ floatBits op .f64 b c = some r ∧ floatBits op .f64 b d = some s) ∧
    (N p a c ∧ N q a d ∧ N r b c ∧ N s b d) ∧ Least x p q r s ∧ Most y p q r s ∧ Below w.heap.size w w'
def NearM (x b c : Nat) : Prop := NearR x (fv b * fv c) (2 ^ 1074)
def NearQ (x b c : Nat) : Prop := NearR x ((if fneg c then -1 else 1) * fv b * (2 ^ 1074 : Nat)) (un (rg c))
set_option maxRecDepth 100000 in
set_option maxHeartbeats 2000000 in
theorem gmul4 {w : World} {a b c d : Nat} (ha : a < W64) (hb : b < W64) (hc : c < W64) (hd : d < W64) (hab : KG a b) (hcd : KG c d) :
    Calls Try.prog 11 #[G a b, G c d] w fun e w' => FourG .mul NearM w a b c d e w' := by
  obtain ⟨p, ep, hp⟩ := fmul_num (K := 1074) hab.lf hcd.lf rfl
  obtain ⟨q, eq, hq⟩ := fmul_num (K := 1074) hab.lf hcd.hf rfl
  obtain ⟨r, er, hr⟩ := fmul_num (K := 1074) hab.hf hcd.lf rfl
  obtain ⟨s, es, hs⟩ := fmul_num (K := 1074) hab.hf hcd.hf rfl
  have e1 := fop_run ep
  have e2 := fop_run eq
  have e3 := fop_run er
  have e4 := fop_run es
  have HO := Lib.hid (fun w => around_num (w := w) hp.lt hq.lt hr.lt hs.lt hp.rg hq.rg hr.rg hs.rg)
  have HE := Lib.hid (And.intro ep (And.intro eq (And.intro er es)))
  have HX := Lib.hid (And.intro hp (And.intro hq (And.intro hr hs)))
  clear ep eq er es hp hq hr hs
  have HK1 := Lib.hid (fun w => gknown_yes (w := w) ha hb hab)
  have HK2 := Lib.hid (fun w => gknown_yes (w := w) hc hd hcd)
  clear ha hb hc hd hab hcd
  obtain ⟨w1, hw1⟩ : ∃ w1, w.alloc (.cells #[.float .f64 a, .float .f64 b] 25) = w1 := ⟨_, rfl⟩
  obtain ⟨w2, hw2⟩ : ∃ w2, w1.alloc (.cells #[.float .f64 c, .float .f64 d] 25) = w2 := ⟨_, rfl⟩
  obtain ⟨w3, hw3⟩ : ∃ w3, w2.alloc (.cells #[.float .f64 0, .float .f64 0] 25) = w3 := ⟨_, rfl⟩
  have hb1 : Below w.heap.size w w1 := hw1 ▸ below_alloc w _
  have hb12 : Below w1.heap.size w1 w2 := hw2 ▸ below_alloc w1 _
  have hb23 : Below w2.heap.size w2 w3 := hw3 ▸ below_alloc w2 _
  have hb2 : Below w.heap.size w w2 := hb1.trans (hb12.mono hb1.size)
  have hb3 : Below w.heap.size w w3 := hb2.trans (hb23.mono hb2.size)
  have hg2 := hb2.size
  have ha3 : w3.heap[w.heap.size]? = some (.cells #[.float .f64 a, .float .f64 b] 25 (0, 0)) := slot_kept (slot_kept (hw1 ▸ heap_alloc_new w _) hb12) hb23
  have hc3 : w3.heap[w1.heap.size]? = some (.cells #[.float .f64 c, .float .f64 d] 25 (0, 0)) := slot_kept (hw2 ▸ heap_alloc_new w1 _) hb23
  have hr3 : w3.heap[w2.heap.size]? = some (.cells #[.float .f64 0, .float .f64 0] 25 (0, 0)) := hw3 ▸ heap_alloc_new w2 _
  clear hb1 hb12 hb23 hb2
  obtain ⟨k0, k1, -, -⟩ := slot2 ha3
  obtain ⟨m0, m1, -, -⟩ := slot2 hc3
  go_enter Try.func11, Try.ntmps11
  go_wp2_with fail
  refine (HK1.out _).mono ?_
  rintro e w4 ⟨rfl, hb4⟩
  have ha4 := slot_kept ha3 hb4
  have hc4 := slot_kept hc3 hb4
  have hr4 := slot_kept hr3 hb4
  have hbw4 := hb3.trans (hb4.mono hb3.size)
  clear k0 k1 m0 m1 ha3 hc3 hr3 hb4 hb3 HK1
  obtain ⟨k0, k1, -, -⟩ := slot2 ha4
  obtain ⟨m0, m1, -, -⟩ := slot2 hc4
  go_wp2_with fail
  refine (HK2.out _).mono ?_
  rintro e w5 ⟨rfl, hb5⟩
  have ha5 := slot_kept ha4 hb5
  have hc5 := slot_kept hc4 hb5
  have hr5 := slot_kept hr4 hb5
  have hbw5 := hbw4.trans (hb5.mono hbw4.size)
  clear k0 k1 m0 m1 ha4 hc4 hr4 hb5 hbw4 HK2
  obtain ⟨k0, k1, -, -⟩ := slot2 ha5
  obtain ⟨m0, m1, -, -⟩ := slot2 hc5
  go_wp2_with fail
  refine (HO.out _).mono ?_
  rintro e w6 ⟨x, y, rfl, hx, hy, hb6⟩
  have HM := Lib.hid (And.intro hx hy)
  clear hx hy
  have hr6 := slot_kept hr5 hb6
  have hbw6 := hbw5.trans (hb6.mono hbw5.size)
  clear k0 k1 m0 m1 ha5 hc5 hr5 hb6 hbw5
  obtain ⟨k0, k1, f0, f1⟩ := slot2 hr6
  obtain ⟨hend, hbe⟩ := gap_end (w0 := w) (l := outLo x y) (h := outHi x y) hr6 hbw6 hg2
  go_wp2_with fail
  refine bodyPost_ret (results_cell_row rfl _ _ w2.heap.size 25 _ (0, 0) _ rfl hend Try.underlying25 rfl (by kernel_rfl)) rfl ?_
  exact ⟨p, q, r, s, x, y, rfl, HE.out, HX.out, HM.out.1, HM.out.2, hbe⟩
theorem gmul {w : World} {a b c d : Nat} (ha : a < W64) (hb : b < W64) (hc : c < W64) (hd : d < W64) (hab : KG a b) (hcd : KG c d) :
    Calls Try.prog 11 #[G a b, G c d] w fun e w' => RetG w (MulG a b c d) e w' := by
  refine (gmul4 ha hb hc hd hab hcd).mono ?_
  rintro e w' ⟨p, q, r, s, x, y, rfl, -, ⟨hp, hq, hr, hs⟩, hx, hy, hb⟩
  have lx := hx.lt hp.lt hq.lt hr.lt hs.lt
  have ly := hy.lt hp.lt hq.lt hr.lt hs.lt
  have rx := hx.rg hp.rg hq.rg hr.rg hs.rg
  have ry := hy.rg hp.rg hq.rg hr.rg hs.rg
  refine ⟨_, _, rfl, (out_lt lx ly rx ry).1, (out_lt lx ly rx ry).2, fun hk => ?_, hb⟩
  obtain ⟨h1, h2, h3, h4, h5, h6⟩ := out_known lx ly rx ry hk
  have := hx.p
  have := hx.q
  have := hx.r
  have := hx.s
  have := hy.p
  have := hy.q
  have := hy.r
  have := hy.s
  exact mul_ends (K := 1074) rfl hp hq hr hs h1 h3 (by omega) (by omega) (by omega) (by omega) h2 h4 (by omega) (by omega) (by omega) (by omega)
end Go.Proofs.Ytjmipbljoblnnaa

namespace Go.Proofs.Ytjmipbljoblnnaa
open Go.RowKit

attribute [local go_sem] run_store_float
theorem fge_num {a b : Nat} (ha : rg a ≤ INF) (hb : rg b ≤ INF) : ((FloatKind.f64.format.order a b == some .gt) || (FloatKind.f64.format.order a b == some .eq)) = decide (fv b ≤ fv a) := by
  rw [fgt_num ha hb, feq_num ha hb]
  by_cases h : fv b ≤ fv a
  · rw [decide_eq_true h]
    rcases Int.lt_or_eq_of_le h with h1 | h1
    · rw [decide_eq_true h1]; rfl
    · rw [decide_eq_true h1.symm, Bool.or_true]
  · rw [decide_eq_false h, decide_eq_false (by omega), decide_eq_false (by omega)]; rfl
theorem un_pos {c : Nat} (h : fv c ≠ 0) : un (rg c) ≠ 0 := by
  rcases fv_cases c with ⟨-, e⟩ | ⟨-, e⟩ <;> omega
set_option maxRecDepth 100000 in
set_option maxHeartbeats 2000000 in
theorem gquo4a {w : World} {a b c d : Nat} (ha : a < W64) (hb : b < W64) (hc : c < W64) (hd : d < W64) (hab : KG a b) (hcd : KG c d) (h0 : 0 < fv c) :
    Calls Try.prog 12 #[G a b, G c d] w fun e w' => FourG .quo NearQ w a b c d e w' := by
  have hcle := hcd.le
  have z0 : rg 0 ≤ INF := by decide
  have f0 : fv 0 = 0 := by decide
  have hle := fle_num (Nat.le_of_lt hcd.lf) z0
  have hge := fge_num (Nat.le_of_lt hcd.hf) z0
  rw [f0] at hle hge
  rw [decide_eq_false (show ¬ fv c ≤ 0 by omega)] at hle
  obtain ⟨p, ep, hp⟩ := fquo_num (K := 1074) hab.lf hcd.lf (un_pos (by omega)) rfl
  obtain ⟨q, eq, hq⟩ := fquo_num (K := 1074) hab.lf hcd.hf (un_pos (by omega)) rfl
  obtain ⟨r, er, hr⟩ := fquo_num (K := 1074) hab.hf hcd.lf (un_pos (by omega)) rfl
  obtain ⟨s, es, hs⟩ := fquo_num (K := 1074) hab.hf hcd.hf (un_pos (by omega)) rfl
  have e1 := fop_run ep
  have e2 := fop_run eq
  have e3 := fop_run er
  have e4 := fop_run es
  have HO := Lib.hid (fun w => around_num (w := w) hp.lt hq.lt hr.lt hs.lt hp.rg hq.rg hr.rg hs.rg)
  have HE := Lib.hid (And.intro ep (And.intro eq (And.intro er es)))
  have HX := Lib.hid (And.intro hp (And.intro hq (And.intro hr hs)))
  clear ep eq er es hp hq hr hs
  clear hge hcle h0
  have HK1 := Lib.hid (fun w => gknown_yes (w := w) ha hb hab)
  have HK2 := Lib.hid (fun w => gknown_yes (w := w) hc hd hcd)
  clear ha hb hc hd hab hcd
  obtain ⟨w1, hw1⟩ : ∃ w1, w.alloc (.cells #[.float .f64 a, .float .f64 b] 25) = w1 := ⟨_, rfl⟩
  obtain ⟨w2, hw2⟩ : ∃ w2, w1.alloc (.cells #[.float .f64 c, .float .f64 d] 25) = w2 := ⟨_, rfl⟩
  obtain ⟨w3, hw3⟩ : ∃ w3, w2.alloc (.cells #[.float .f64 0, .float .f64 0] 25) = w3 := ⟨_, rfl⟩
  have hb1 : Below w.heap.size w w1 := hw1 ▸ below_alloc w _
  have hb12 : Below w1.heap.size w1 w2 := hw2 ▸ below_alloc w1 _
  have hb23 : Below w2.heap.size w2 w3 := hw3 ▸ below_alloc w2 _
  have hb2 : Below w.heap.size w w2 := hb1.trans (hb12.mono hb1.size)
  have hb3 : Below w.heap.size w w3 := hb2.trans (hb23.mono hb2.size)
  have hg2 := hb2.size
  have ha3 : w3.heap[w.heap.size]? = some (.cells #[.float .f64 a, .float .f64 b] 25 (0, 0)) := slot_kept (slot_kept (hw1 ▸ heap_alloc_new w _) hb12) hb23
  have hc3 : w3.heap[w1.heap.size]? = some (.cells #[.float .f64 c, .float .f64 d] 25 (0, 0)) := slot_kept (hw2 ▸ heap_alloc_new w1 _) hb23
  have hr3 : w3.heap[w2.heap.size]? = some (.cells #[.float .f64 0, .float .f64 0] 25 (0, 0)) := hw3 ▸ heap_alloc_new w2 _
  clear hb1 hb12 hb23 hb2
  obtain ⟨k0, k1, -, -⟩ := slot2 ha3
  obtain ⟨m0, m1, -, -⟩ := slot2 hc3
  go_enter Try.func12, Try.ntmps12
  go_wp2_with fail
  refine (HK1.out _).mono ?_
  rintro e w4 ⟨rfl, hb4⟩
  have ha4 := slot_kept ha3 hb4
  have hc4 := slot_kept hc3 hb4
  have hr4 := slot_kept hr3 hb4
  have hbw4 := hb3.trans (hb4.mono hb3.size)
  clear k0 k1 m0 m1 ha3 hc3 hr3 hb4 hb3 HK1
  obtain ⟨k0, k1, -, -⟩ := slot2 ha4
  obtain ⟨m0, m1, -, -⟩ := slot2 hc4
  go_wp2_with fail
  refine (HK2.out _).mono ?_
  rintro e w5 ⟨rfl, hb5⟩
  have ha5 := slot_kept ha4 hb5
  have hc5 := slot_kept hc4 hb5
  have hr5 := slot_kept hr4 hb5
  have hbw5 := hbw4.trans (hb5.mono hbw4.size)
  clear k0 k1 m0 m1 ha4 hc4 hr4 hb5 hbw4 HK2
  obtain ⟨k0, k1, -, -⟩ := slot2 ha5
  obtain ⟨m0, m1, -, -⟩ := slot2 hc5
  go_wp2_with fail
  refine (HO.out _).mono ?_
  rintro e w6 ⟨x, y, rfl, hx, hy, hb6⟩
  have HM := Lib.hid (And.intro hx hy)
  clear hx hy
  have hr6 := slot_kept hr5 hb6
  have hbw6 := hbw5.trans (hb6.mono hbw5.size)
  clear k0 k1 m0 m1 ha5 hc5 hr5 hb6 hbw5
  obtain ⟨k0, k1, f0, f1⟩ := slot2 hr6
  obtain ⟨hend, hbe⟩ := gap_end (w0 := w) (l := outLo x y) (h := outHi x y) hr6 hbw6 hg2
  go_wp2_with fail
  refine bodyPost_ret (results_cell_row rfl _ _ w2.heap.size 25 _ (0, 0) _ rfl hend Try.underlying25 rfl (by kernel_rfl)) rfl ?_
  exact ⟨p, q, r, s, x, y, rfl, HE.out, HX.out, HM.out.1, HM.out.2, hbe⟩
set_option maxRecDepth 100000 in
set_option maxHeartbeats 2000000 in
theorem gquo4b {w : World} {a b c d : Nat} (ha : a < W64) (hb : b < W64) (hc : c < W64) (hd : d < W64) (hab : KG a b) (hcd : KG c d) (h0 : fv d < 0) :
    Calls Try.prog 12 #[G a b, G c d] w fun e w' => FourG .quo NearQ w a b c d e w' := by
  have hcle := hcd.le
  have z0 : rg 0 ≤ INF := by decide
  have f0 : fv 0 = 0 := by decide
  have hle := fle_num (Nat.le_of_lt hcd.lf) z0
  have hge := fge_num (Nat.le_of_lt hcd.hf) z0
  rw [f0] at hle hge
  rw [decide_eq_true (show fv c ≤ 0 by omega)] at hle
  rw [decide_eq_false (show ¬ 0 ≤ fv d by omega)] at hge
  obtain ⟨p, ep, hp⟩ := fquo_num (K := 1074) hab.lf hcd.lf (un_pos (by omega)) rfl
  obtain ⟨q, eq, hq⟩ := fquo_num (K := 1074) hab.lf hcd.hf (un_pos (by omega)) rfl
  obtain ⟨r, er, hr⟩ := fquo_num (K := 1074) hab.hf hcd.lf (un_pos (by omega)) rfl
  obtain ⟨s, es, hs⟩ := fquo_num (K := 1074) hab.hf hcd.hf (un_pos (by omega)) rfl
  have e1 := fop_run ep
  have e2 := fop_run eq
  have e3 := fop_run er
  have e4 := fop_run es
  have HO := Lib.hid (fun w => around_num (w := w) hp.lt hq.lt hr.lt hs.lt hp.rg hq.rg hr.rg hs.rg)
  have HE := Lib.hid (And.intro ep (And.intro eq (And.intro er es)))
  have HX := Lib.hid (And.intro hp (And.intro hq (And.intro hr hs)))
  clear ep eq er es hp hq hr hs
  clear hcle h0
  have HK1 := Lib.hid (fun w => gknown_yes (w := w) ha hb hab)
  have HK2 := Lib.hid (fun w => gknown_yes (w := w) hc hd hcd)
  clear ha hb hc hd hab hcd
  obtain ⟨w1, hw1⟩ : ∃ w1, w.alloc (.cells #[.float .f64 a, .float .f64 b] 25) = w1 := ⟨_, rfl⟩
  obtain ⟨w2, hw2⟩ : ∃ w2, w1.alloc (.cells #[.float .f64 c, .float .f64 d] 25) = w2 := ⟨_, rfl⟩
  obtain ⟨w3, hw3⟩ : ∃ w3, w2.alloc (.cells #[.float .f64 0, .float .f64 0] 25) = w3 := ⟨_, rfl⟩
  have hb1 : Below w.heap.size w w1 := hw1 ▸ below_alloc w _
  have hb12 : Below w1.heap.size w1 w2 := hw2 ▸ below_alloc w1 _
  have hb23 : Below w2.heap.size w2 w3 := hw3 ▸ below_alloc w2 _
  have hb2 : Below w.heap.size w w2 := hb1.trans (hb12.mono hb1.size)
  have hb3 : Below w.heap.size w w3 := hb2.trans (hb23.mono hb2.size)
  have hg2 := hb2.size
  have ha3 : w3.heap[w.heap.size]? = some (.cells #[.float .f64 a, .float .f64 b] 25 (0, 0)) := slot_kept (slot_kept (hw1 ▸ heap_alloc_new w _) hb12) hb23
  have hc3 : w3.heap[w1.heap.size]? = some (.cells #[.float .f64 c, .float .f64 d] 25 (0, 0)) := slot_kept (hw2 ▸ heap_alloc_new w1 _) hb23
  have hr3 : w3.heap[w2.heap.size]? = some (.cells #[.float .f64 0, .float .f64 0] 25 (0, 0)) := hw3 ▸ heap_alloc_new w2 _
  clear hb1 hb12 hb23 hb2
  obtain ⟨k0, k1, -, -⟩ := slot2 ha3
  obtain ⟨m0, m1, -, -⟩ := slot2 hc3
  go_enter Try.func12, Try.ntmps12
  go_wp2_with fail
  refine (HK1.out _).mono ?_
  rintro e w4 ⟨rfl, hb4⟩
  have ha4 := slot_kept ha3 hb4
  have hc4 := slot_kept hc3 hb4
  have hr4 := slot_kept hr3 hb4
  have hbw4 := hb3.trans (hb4.mono hb3.size)
  clear k0 k1 m0 m1 ha3 hc3 hr3 hb4 hb3 HK1
  obtain ⟨k0, k1, -, -⟩ := slot2 ha4
  obtain ⟨m0, m1, -, -⟩ := slot2 hc4
  go_wp2_with fail
  refine (HK2.out _).mono ?_
  rintro e w5 ⟨rfl, hb5⟩
  have ha5 := slot_kept ha4 hb5
  have hc5 := slot_kept hc4 hb5
  have hr5 := slot_kept hr4 hb5
  have hbw5 := hbw4.trans (hb5.mono hbw4.size)
  clear k0 k1 m0 m1 ha4 hc4 hr4 hb5 hbw4 HK2
  obtain ⟨k0, k1, -, -⟩ := slot2 ha5
  obtain ⟨m0, m1, -, -⟩ := slot2 hc5
  go_wp2_with fail
  refine (HO.out _).mono ?_
  rintro e w6 ⟨x, y, rfl, hx, hy, hb6⟩
  have HM := Lib.hid (And.intro hx hy)
  clear hx hy
  have hr6 := slot_kept hr5 hb6
  have hbw6 := hbw5.trans (hb6.mono hbw5.size)
  clear k0 k1 m0 m1 ha5 hc5 hr5 hb6 hbw5
  obtain ⟨k0, k1, f0, f1⟩ := slot2 hr6
  obtain ⟨hend, hbe⟩ := gap_end (w0 := w) (l := outLo x y) (h := outHi x y) hr6 hbw6 hg2
  go_wp2_with fail
  refine bodyPost_ret (results_cell_row rfl _ _ w2.heap.size 25 _ (0, 0) _ rfl hend Try.underlying25 rfl (by kernel_rfl)) rfl ?_
  exact ⟨p, q, r, s, x, y, rfl, HE.out, HX.out, HM.out.1, HM.out.2, hbe⟩
set_option maxRecDepth 100000 in
set_option maxHeartbeats 2000000 in
theorem gquo0 {w : World} {a b c d : Nat} (ha : a < W64) (hb : b < W64) (hc : c < W64) (hd : d < W64) (hab : KG a b) (hcd : KG c d) (h0 : fv c ≤ 0) (h1 : 0 ≤ fv d) :
    Calls Try.prog 12 #[G a b, G c d] w fun e w' => e = .returned (G (9223372036854775808 + INF) INF) ∧ Below w.heap.size w w' := by
  have hcle := hcd.le
  have z0 : rg 0 ≤ INF := by decide
  have f0 : fv 0 = 0 := by decide
  have hle := fle_num (Nat.le_of_lt hcd.lf) z0
  have hge := fge_num (Nat.le_of_lt hcd.hf) z0
  rw [f0] at hle hge
  rw [decide_eq_true h0] at hle
  rw [decide_eq_true h1] at hge
  clear hcle h0 h1
  have HK1 := Lib.hid (fun w => gknown_yes (w := w) ha hb hab)
  have HK2 := Lib.hid (fun w => gknown_yes (w := w) hc hd hcd)
  clear ha hb hc hd hab hcd
  obtain ⟨w1, hw1⟩ : ∃ w1, w.alloc (.cells #[.float .f64 a, .float .f64 b] 25) = w1 := ⟨_, rfl⟩
  obtain ⟨w2, hw2⟩ : ∃ w2, w1.alloc (.cells #[.float .f64 c, .float .f64 d] 25) = w2 := ⟨_, rfl⟩
  obtain ⟨w3, hw3⟩ : ∃ w3, w2.alloc (.cells #[.float .f64 0, .float .f64 0] 25) = w3 := ⟨_, rfl⟩
  have hb1 : Below w.heap.size w w1 := hw1 ▸ below_alloc w _
  have hb12 : Below w1.heap.size w1 w2 := hw2 ▸ below_alloc w1 _
  have hb23 : Below w2.heap.size w2 w3 := hw3 ▸ below_alloc w2 _
  have hb2 : Below w.heap.size w w2 := hb1.trans (hb12.mono hb1.size)
  have hb3 : Below w.heap.size w w3 := hb2.trans (hb23.mono hb2.size)
  have hg2 := hb2.size
  have ha3 : w3.heap[w.heap.size]? = some (.cells #[.float .f64 a, .float .f64 b] 25 (0, 0)) := slot_kept (slot_kept (hw1 ▸ heap_alloc_new w _) hb12) hb23
  have hc3 : w3.heap[w1.heap.size]? = some (.cells #[.float .f64 c, .float .f64 d] 25 (0, 0)) := slot_kept (hw2 ▸ heap_alloc_new w1 _) hb23
  have hr3 : w3.heap[w2.heap.size]? = some (.cells #[.float .f64 0, .float .f64 0] 25 (0, 0)) := hw3 ▸ heap_alloc_new w2 _
  clear hb1 hb12 hb23 hb2
  obtain ⟨k0, k1, -, -⟩ := slot2 ha3
  obtain ⟨m0, m1, -, -⟩ := slot2 hc3
  go_enter Try.func12, Try.ntmps12
  go_wp2_with fail
  refine (HK1.out _).mono ?_
  rintro e w4 ⟨rfl, hb4⟩
  have ha4 := slot_kept ha3 hb4
  have hc4 := slot_kept hc3 hb4
  have hr4 := slot_kept hr3 hb4
  have hbw4 := hb3.trans (hb4.mono hb3.size)
  clear k0 k1 m0 m1 ha3 hc3 hr3 hb4 hb3 HK1
  obtain ⟨k0, k1, -, -⟩ := slot2 ha4
  obtain ⟨m0, m1, -, -⟩ := slot2 hc4
  go_wp2_with fail
  refine (HK2.out _).mono ?_
  rintro e w5 ⟨rfl, hb5⟩
  have ha5 := slot_kept ha4 hb5
  have hc5 := slot_kept hc4 hb5
  have hr5 := slot_kept hr4 hb5
  have hbw5 := hbw4.trans (hb5.mono hbw4.size)
  clear k0 k1 m0 m1 ha4 hc4 hr4 hb5 hbw4 HK2
  obtain ⟨k0, k1, -, -⟩ := slot2 ha5
  obtain ⟨m0, m1, -, -⟩ := slot2 hc5
  go_wp2_with fail
  refine (gall _).mono ?_
  rintro e w6 ⟨rfl, hb6⟩
  have hr6 := slot_kept hr5 hb6
  have hbw6 := hbw5.trans (hb6.mono hbw5.size)
  clear k0 k1 m0 m1 ha5 hc5 hr5 hb6 hbw5
  obtain ⟨k0, k1, f0, f1⟩ := slot2 hr6
  obtain ⟨hend, hbe⟩ := gap_end (w0 := w) (l := 9223372036854775808 + INF) (h := INF) hr6 hbw6 hg2
  go_wp2_with fail
  refine bodyPost_ret (results_cell_row rfl _ _ w2.heap.size 25 _ (0, 0) _ rfl hend Try.underlying25 rfl (by kernel_rfl)) rfl ?_
  exact ⟨rfl, hbe⟩
theorem gquo {w : World} {a b c d : Nat} (ha : a < W64) (hb : b < W64) (hc : c < W64) (hd : d < W64) (hab : KG a b) (hcd : KG c d) :
    Calls Try.prog 12 #[G a b, G c d] w fun e w' => RetG w (QuoG a b c d) e w' := by
  have key : (0 < fv c ∨ fv d < 0) → ∀ e w', FourG .quo NearQ w a b c d e w' → RetG w (QuoG a b c d) e w' := by
    rintro hcd0 e w' ⟨p, q, r, s, x, y, rfl, -, ⟨hp, hq, hr, hs⟩, hx, hy, hb⟩
    have lx := hx.lt hp.lt hq.lt hr.lt hs.lt
    have ly := hy.lt hp.lt hq.lt hr.lt hs.lt
    have rx := hx.rg hp.rg hq.rg hr.rg hs.rg
    have ry := hy.rg hp.rg hq.rg hr.rg hs.rg
    refine ⟨_, _, rfl, (out_lt lx ly rx ry).1, (out_lt lx ly rx ry).2, fun hk => ?_, hb⟩
    obtain ⟨h1, h2, h3, h4, h5, h6⟩ := out_known lx ly rx ry hk
    have := hx.p
    have := hx.q
    have := hx.r
    have := hx.s
    have := hy.p
    have := hy.q
    have := hy.r
    have := hy.s
    exact quo_ends (K := 1074) rfl hcd0 hcd.le hp hq hr hs h1 h3 (by omega) (by omega) (by omega) (by omega) h2 h4 (by omega) (by omega) (by omega) (by omega)
  rcases Int.lt_or_le 0 (fv c) with h0 | h0
  · exact (gquo4a ha hb hc hd hab hcd h0).mono (key (Or.inl h0))
  · rcases Int.lt_or_le (fv d) 0 with h1 | h1
    · exact (gquo4b ha hb hc hd hab hcd h1).mono (key (Or.inr h1))
    · refine (gquo0 ha hb hc hd hab hcd h0 h1).mono ?_
      rintro e w' ⟨rfl, hb⟩
      exact ⟨_, _, rfl, by decide, by decide, fun hk => absurd hk.hf (by decide), hb⟩
end Go.Proofs.Ytjmipbljoblnnaa

namespace Go.Proofs.Ytjmipbljoblnnaa
open Go.RowKit

attribute [local go_sem] run_store_float
set_option maxRecDepth 100000 in
set_option maxHeartbeats 1000000 in
theorem gat_yes {w : World} {v : Nat} (hv : v < W64) (hf : rg v < INF) : Calls Try.prog 5 #[.float .f64 v] w fun e w' => e = .returned (G v v) ∧ Below w.heap.size w w' := by
  have HF := Lib.hid (fun w => finite_num v w hv)
  rw [decide_eq_true hf] at HF
  clear hf hv
  go_enter Try.func5, Try.ntmps5
  go_wp2_with fail
  refine (HF.out _).mono ?_
  rintro e w' ⟨rfl, rfl⟩
  go_wp2_with fail
  refine bodyPost_ret (results_cell_row rfl _ _ w.heap.size 25 #[.float .f64 v, .float .f64 v] (0, 0) _ rfl ?_ Try.underlying25 rfl (by kernel_rfl)) rfl ⟨rfl, ?_⟩
  · exact heap_alloc_new w _
  · exact below_alloc w _
set_option maxRecDepth 100000 in
set_option maxHeartbeats 1000000 in
theorem gat_no {w : World} {v : Nat} (hv : v < W64) (hf : ¬ rg v < INF) : Calls Try.prog 5 #[.float .f64 v] w fun e w' => e = .returned (G (9223372036854775808 + INF) INF) ∧ Below w.heap.size w w' := by
  have HF := Lib.hid (fun w => finite_num v w hv)
  rw [decide_eq_false hf] at HF
  clear hf hv
  obtain ⟨w1, hw1⟩ : ∃ w1, w.alloc (.cells #[.float .f64 0, .float .f64 0] 25) = w1 := ⟨_, rfl⟩
  have hb1 : Below w.heap.size w w1 := hw1 ▸ below_alloc w _
  have hc1 : w1.heap[w.heap.size]? = some (.cells #[.float .f64 0, .float .f64 0] 25 (0, 0)) := hw1 ▸ heap_alloc_new w _
  go_enter Try.func5, Try.ntmps5
  go_wp2_with fail
  refine (HF.out _).mono ?_
  rintro e w' ⟨rfl, rfl⟩
  go_wp2_with fail
  refine (gall _).mono ?_
  rintro e w2 ⟨rfl, hb2⟩
  have hd1 := slot_kept hc1 hb2
  have hbw2 := hb1.trans (hb2.mono hb1.size)
  obtain ⟨k0, k1, f0, f1⟩ := slot2 hd1
  obtain ⟨hend, hbe⟩ := gap_end (w0 := w) (l := 9223372036854775808 + INF) (h := INF) hd1 hbw2 (Nat.le_refl _)
  go_wp2_with fail
  exact bodyPost_ret (results_cell_row rfl _ _ w.heap.size 25 _ (0, 0) _ rfl hend Try.underlying25 rfl (by kernel_rfl)) rfl ⟨rfl, hbe⟩
/-- The sign of a gap of one number. -/
def RetGS (w : World) (v : Nat) (e : Ending) (w' : World) : Prop := ∃ s : Int, e = .returned (.tuple #[.int .i64 s, .bool true]) ∧ ((0 < s) ↔ 0 < fv v) ∧ (s < 0 ↔ fv v < 0) ∧ (s = -1 ∨ s = 0 ∨ s = 1) ∧ Below w.heap.size w w'
set_option maxRecDepth 100000 in
set_option maxHeartbeats 2000000 in
theorem gsign_one {w : World} {v : Nat} (hv : v < W64) (hf : rg v < INF) : Calls Try.prog 10 #[G v v] w fun e w' => RetGS w v e w' := by
  have HK := Lib.hid (fun w => gknown_yes (w := w) hv hv ⟨hf, hf, Int.le_refl _⟩)
  have z0 : rg 0 ≤ INF := by decide
  have f0 : fv 0 = 0 := by decide
  have hgt := fgt_num (Nat.le_of_lt hf) z0
  have hlt := flt_num (Nat.le_of_lt hf) z0
  have heq := feq_num (Nat.le_of_lt hf) (Nat.le_of_lt hf)
  rw [f0] at hgt hlt
  rw [decide_eq_true rfl] at heq
  obtain ⟨X, hX⟩ : ∃ X, fv v = X := ⟨_, rfl⟩
  have HV := Lib.hid hX
  rw [hX] at hgt hlt
  obtain ⟨w1, hw1⟩ : ∃ w1, w.alloc (.cells #[.float .f64 v, .float .f64 v] 25) = w1 := ⟨_, rfl⟩
  have hb1 : Below w.heap.size w w1 := hw1 ▸ below_alloc w _
  have hc1 : w1.heap[w.heap.size]? = some (.cells #[.float .f64 v, .float .f64 v] 25 (0, 0)) := hw1 ▸ heap_alloc_new w _
  obtain ⟨k0, k1, -, -⟩ := slot2 hc1
  clear hv hf z0 f0 hX
  rcases Int.lt_trichotomy X 0 with h | h | h
  · rw [decide_eq_false (by omega)] at hgt
    rw [decide_eq_true h] at hlt
    have HH := Lib.hid h
    clear h
    go_enter Try.func10, Try.ntmps10
    go_wp2_with fail
    refine (HK.out _).mono ?_
    rintro e w2 ⟨rfl, hb2⟩
    have hd1 := slot_kept hc1 hb2
    have hbw2 := hb1.trans (hb2.mono hb1.size)
    clear k0 k1
    obtain ⟨k0, k1, -, -⟩ := slot2 hd1
    go_wp2_with fail
    go_ret2
    have h := HH.out
    have e := HV.out
    exact ⟨-1, rfl, by omega, by omega, by omega, hbw2⟩
  · rw [decide_eq_false (by omega)] at hgt
    rw [decide_eq_false (by omega)] at hlt
    have HH := Lib.hid h
    clear h
    go_enter Try.func10, Try.ntmps10
    go_wp2_with fail
    refine (HK.out _).mono ?_
    rintro e w2 ⟨rfl, hb2⟩
    have hd1 := slot_kept hc1 hb2
    have hbw2 := hb1.trans (hb2.mono hb1.size)
    clear k0 k1
    obtain ⟨k0, k1, -, -⟩ := slot2 hd1
    go_wp2_with (go_region)
    go_ret2
    have h := HH.out
    have e := HV.out
    exact ⟨0, rfl, by omega, by omega, by omega, hbw2.drew⟩
  · rw [decide_eq_true h] at hgt
    have HH := Lib.hid h
    clear h hlt
    go_enter Try.func10, Try.ntmps10
    go_wp2_with fail
    refine (HK.out _).mono ?_
    rintro e w2 ⟨rfl, hb2⟩
    have hd1 := slot_kept hc1 hb2
    have hbw2 := hb1.trans (hb2.mono hb1.size)
    clear k0 k1
    obtain ⟨k0, k1, -, -⟩ := slot2 hd1
    go_wp2_with fail
    go_ret2
    have h := HH.out
    have e := HV.out
    exact ⟨1, rfl, by omega, by omega, by omega, hbw2⟩
theorem six : floatBits .mul .f64 4611686018427387904 4613937818241073152 = some 4618441417868443648 := by decide +kernel
theorem six_out : outLo 4618441417868443648 4618441417868443648 = 4618441417868443647 ∧ outHi 4618441417868443648 4618441417868443648 = 4618441417868443649 := by decide +kernel
theorem six_known : KG 4618441417868443647 4618441417868443649 := ⟨by decide, by decide, by decide +kernel⟩
theorem known_one {v : Nat} (h : rg v < INF) : KG v v := ⟨h, h, Int.le_refl _⟩
theorem six_lt : floatBits .sub .f64 4618441417868443649 4618441417868443647 = some 4386506037058863104 := by decide +kernel
theorem all_not : ¬ KG (9223372036854775808 + INF) INF := fun h => absurd h.hf (by decide)
set_option maxRecDepth 100000 in
set_option maxHeartbeats 2000000 in
theorem glive (w : World) : Calls Try.prog 4 #[] w fun e w' => e = .returned (.bool true) ∧ Below w.heap.size w w' := by
  have HA2 := Lib.hid (fun w => gat_yes (w := w) (v := 4611686018427387904) (by decide) (by decide))
  have HA3 := Lib.hid (fun w => gat_yes (w := w) (v := 4613937818241073152) (by decide) (by decide))
  have HA1 := Lib.hid (fun w => gat_yes (w := w) (v := 4607182418800017408) (by decide) (by decide))
  have HA0 := Lib.hid (fun w => gat_yes (w := w) (v := 0) (by decide) (by decide))
  have HM : Hid (∀ w, Calls Try.prog 11 #[G 4611686018427387904 4611686018427387904, G 4613937818241073152 4613937818241073152] w fun e w' => e = .returned (G 4618441417868443647 4618441417868443649) ∧ Below w.heap.size w w') := Lib.hid fun w => by
    refine (gmul4 (by decide) (by decide) (by decide) (by decide) (known_one (by decide)) (known_one (by decide))).mono ?_
    rintro e w' ⟨p, q, r, s, x, y, rfl, ⟨e1, e2, e3, e4⟩, -, hx, hy, hb⟩
    rw [six] at e1 e2 e3 e4
    cases e1; cases e2; cases e3; cases e4
    obtain rfl : x = 4618441417868443648 := by rcases hx.one with h | h | h | h <;> exact h
    obtain rfl : y = 4618441417868443648 := by rcases hy.one with h | h | h | h <;> exact h
    rw [six_out.1, six_out.2]
    exact ⟨rfl, hb⟩
  have HS := Lib.hid (fun w => gsign_one (w := w) (v := 4611686018427387904) (by decide) (by decide))
  have HK := Lib.hid (fun w => gknown_yes (w := w) (by decide) (by decide) six_known)
  have HQ := Lib.hid (fun w => gquo0 (w := w) (a := 4607182418800017408) (b := 4607182418800017408) (c := 0) (d := 0) (by decide) (by decide) (by decide) (by decide) (known_one (by decide)) (known_one (by decide)) (by decide) (by decide))
  have HN := Lib.hid (fun w => gknown_no (w := w) (l := 9223372036854775808 + INF) (h := INF) (by decide) (by decide) all_not)
  have hle : ((FloatKind.f64.format.order 4618441417868443647 4618441417868443648 == some .lt) || (FloatKind.f64.format.order 4618441417868443647 4618441417868443648 == some .eq)) = true := by decide +kernel
  have hge : ((FloatKind.f64.format.order 4618441417868443649 4618441417868443648 == some .gt) || (FloatKind.f64.format.order 4618441417868443649 4618441417868443648 == some .eq)) = true := by decide +kernel
  have hlt : (FloatKind.f64.format.order 4386506037058863104 4427486594234968593 == some .lt) = true := by decide +kernel
  have hsub := fop_run six_lt
  go_enter Try.func4, Try.ntmps4
  go_wp2_with fail
  refine (HA2.out _).mono ?_
  rintro e w1 ⟨rfl, hb1⟩
  go_wp2_with fail
  refine (HA3.out _).mono ?_
  rintro e w2 ⟨rfl, hb2⟩
  replace hb2 := hb1.trans (hb2.mono hb1.size)
  go_wp2_with fail
  refine (HM.out _).mono ?_
  rintro e w3 ⟨rfl, hb3⟩
  replace hb3 := hb2.trans (hb3.mono hb2.size)
  obtain ⟨w4, hw4⟩ : ∃ w4, w3.alloc (.cells #[.float .f64 4618441417868443647, .float .f64 4618441417868443649] 25) = w4 := ⟨_, rfl⟩
  have hc4 : w4.heap[w3.heap.size]? = some (.cells #[.float .f64 4618441417868443647, .float .f64 4618441417868443649] 25 (0, 0)) := hw4 ▸ heap_alloc_new w3 _
  have hb4 : Below w.heap.size w w4 := hw4 ▸ hb3.alloc hb3.size _
  clear hb1 hb2 hb3
  go_wp2_with fail
  refine (HA2.out _).mono ?_
  rintro e w5 ⟨rfl, hb5⟩
  have hc5 := slot_kept hc4 hb5
  replace hb5 := hb4.trans (hb5.mono hb4.size)
  clear hc4 hb4 hw4
  go_wp2_with fail
  refine (HS.out _).mono ?_
  rintro e w6 ⟨s, rfl, hs1, hs2, hs3, hb6⟩
  obtain rfl : s = 1 := by
    have h2 : 0 < fv 4611686018427387904 := by decide +kernel
    have := hs1.2 h2
    omega
  have hc6 := slot_kept hc5 hb6
  replace hb6 := hb5.trans (hb6.mono hb5.size)
  clear hc5 hb5 hs1 hs2 hs3
  obtain ⟨k0, k1, -, -⟩ := slot2 hc6
  go_wp2_with fail
  refine (HK.out _).mono ?_
  rintro e w7 ⟨rfl, hb7⟩
  have hc7 := slot_kept hc6 hb7
  replace hb7 := hb6.trans (hb7.mono hb6.size)
  clear hc6 hb6 k0 k1
  obtain ⟨k0, k1, -, -⟩ := slot2 hc7
  go_wp2_with fail
  refine (HA1.out _).mono ?_
  rintro e w8 ⟨rfl, hb8⟩
  replace hb8 := hb7.trans (hb8.mono hb7.size)
  clear hc7 hb7 k0 k1
  go_wp2_with fail
  refine (HA0.out _).mono ?_
  rintro e w9 ⟨rfl, hb9⟩
  replace hb9 := hb8.trans (hb9.mono hb8.size)
  clear hb8
  go_wp2_with fail
  refine (HQ.out _).mono ?_
  rintro e w10 ⟨rfl, hb10⟩
  replace hb10 := hb9.trans (hb10.mono hb9.size)
  clear hb9
  go_wp2_with fail
  refine (HN.out _).mono ?_
  rintro e w11 ⟨rfl, hb11⟩
  replace hb11 := hb10.trans (hb11.mono hb10.size)
  clear hb10
  go_wp2_with fail
  go_ret
  exact ⟨rfl, hb11⟩
end Go.Proofs.Ytjmipbljoblnnaa

namespace Go.Proofs.Ytjmipbljoblnnaa
open Go.RowKit

attribute [local go_sem] run_store_float
theorem feq_run {x y d : Nat} (h : (FloatKind.f64.format.order x y == some Ordering.eq) = true) (w : World) : (Op.equalIn (d + 1) 22 (.float .f64 x) (.float .f64 y)).run Try.prog w = .ok true w := by
  unfold Op.equalIn
  simp [Op.floatEq, h]
set_option maxRecDepth 100000 in
set_option maxHeartbeats 4000000 in
theorem gapat_ok (v : Nat) (w : World) (hv : v < W64) : Calls Try.prog 3 #[.float .f64 v] w fun e w' => RetV w (.bool true) e w' := by
  have HL := Lib.hid glive
  have HA := Lib.hid gall
  have HN := Lib.hid (fun w => gknown_no (w := w) (l := 9223372036854775808 + INF) (h := INF) (by decide) (by decide) all_not)
  have HI1 : Hid (∀ w, Calls Try.prog 8 #[.float .f64 (9223372036854775808 + INF), .int .i64 (-1)] w fun e w' => RetB w (.bool true) e w') := Lib.hid fun w => isinf_neg (9223372036854775808 + INF) w (by decide) (by decide)
  have HI2 : Hid (∀ w, Calls Try.prog 8 #[.float .f64 INF, .int .i64 1] w fun e w' => RetB w (.bool true) e w') := Lib.hid fun w => isinf_pos INF w (by decide)
  have HF := Lib.hid (fun w => rfin_num v w hv)
  by_cases hf : rg v < INF
  · rw [decide_eq_true hf] at HF
    have HAt := Lib.hid (fun w => gat_yes (w := w) hv hf)
    have HS := Lib.hid (fun w => gsign_one (w := w) hv hf)
    have HK := Lib.hid (fun w => gknown_yes (w := w) hv hv (known_one hf))
    have z0 : rg 0 ≤ INF := by decide
    have f0 : fv 0 = 0 := by decide
    have hgt := fgt_num (Nat.le_of_lt hf) z0
    have hlt := flt_num (Nat.le_of_lt hf) z0
    have heq := feq_num (Nat.le_of_lt hf) (Nat.le_of_lt hf)
    rw [f0] at hgt hlt
    rw [decide_eq_true rfl] at heq
    obtain ⟨X, hX⟩ : ∃ X, fv v = X := ⟨_, rfl⟩
    have HV := Lib.hid hX
    rw [hX] at hgt hlt
    clear hf hv z0 f0 hX
    go_enter Try.func3, Try.ntmps3
    go_wp2_with fail
    refine (HL.out _).mono ?_
    rintro e w1 ⟨rfl, hb1⟩
    go_wp2_with fail
    refine (HAt.out _).mono ?_
    rintro e w2 ⟨rfl, hb2⟩
    replace hb2 := hb1.trans (hb2.mono hb1.size)
    obtain ⟨w3, hw3⟩ : ∃ w3, w2.alloc (.cells #[.float .f64 v, .float .f64 v] 25) = w3 := ⟨_, rfl⟩
    have hc3 : w3.heap[w2.heap.size]? = some (.cells #[.float .f64 v, .float .f64 v] 25 (0, 0)) := hw3 ▸ heap_alloc_new w2 _
    have hb3 : Below w.heap.size w w3 := hw3 ▸ hb2.alloc hb2.size _
    clear hb1 hb2
    go_wp2_with fail
    refine (HA.out _).mono ?_
    rintro e w4 ⟨rfl, hb4⟩
    have hc4 := slot_kept hc3 hb4
    replace hb4 := hb3.trans (hb4.mono hb3.size)
    obtain ⟨w5, hw5⟩ : ∃ w5, w4.alloc (.cells #[.float .f64 (9223372036854775808 + INF), .float .f64 INF] 25) = w5 := ⟨_, rfl⟩
    have hb45 : Below w4.heap.size w4 w5 := hw5 ▸ below_alloc w4 _
    have hd5 : w5.heap[w4.heap.size]? = some (.cells #[.float .f64 (9223372036854775808 + INF), .float .f64 INF] 25 (0, 0)) := hw5 ▸ heap_alloc_new w4 _
    have hc5 := slot_kept hc4 hb45
    have hb5 := hb4.trans (hb45.mono hb4.size)
    clear hb3 hb4 hb45 hc3 hc4 hw3
    obtain ⟨k0, k1, -, -⟩ := slot2 hd5
    go_wp2_with fail
    refine (HN.out _).mono ?_
    rintro e w6 ⟨rfl, hb6⟩
    have hc6 := slot_kept hc5 hb6
    have hd6 := slot_kept hd5 hb6
    replace hb6 := hb5.trans (hb6.mono hb5.size)
    clear k0 k1 hc5 hd5 hb5 hw5
    obtain ⟨k0, k1, -, -⟩ := slot2 hd6
    go_wp2_with fail
    refine (HI1.out _).mono ?_
    rintro e w7 ⟨rfl, rfl⟩
    go_wp2_with fail
    refine (HI2.out _).mono ?_
    rintro e w7 ⟨rfl, rfl⟩
    go_wp2_with fail
    refine (HF.out _).mono ?_
    rintro e w7 ⟨rfl, rfl⟩
    clear k0 k1
    obtain ⟨k0, k1, -, -⟩ := slot2 hc6
    go_wp2_with fail
    refine (HS.out _).mono ?_
    rintro e w7 ⟨s, rfl, hs1, hs2, hs3, hb7⟩
    have hc7 := slot_kept hc6 hb7
    replace hb7 := hb6.trans (hb7.mono hb6.size)
    clear k0 k1 hc6 hd6 hb6
    obtain ⟨k0, k1, -, -⟩ := slot2 hc7
    have e0 := HV.out
    rw [e0] at hs1 hs2
    rcases hs3 with rfl | rfl | rfl
    · rw [decide_eq_false (by omega)] at hgt
      rw [decide_eq_true (by omega)] at hlt
      clear hs1 hs2 e0
      go_wp2_with fail
      refine (HK.out _).mono ?_
      rintro e w8 ⟨rfl, hb8⟩
      have hc8 := slot_kept hc7 hb8
      replace hb8 := hb7.trans (hb8.mono hb7.size)
      clear k0 k1 hc7 hb7
      obtain ⟨k0, k1, -, -⟩ := slot2 hc8
      go_wp2_with fail
      go_ret
      exact ⟨rfl, hb8⟩
    · rw [decide_eq_false (by omega)] at hgt
      rw [decide_eq_false (by omega)] at hlt
      clear hs1 hs2 e0
      go_wp2_with fail
      refine (HK.out _).mono ?_
      rintro e w8 ⟨rfl, hb8⟩
      have hc8 := slot_kept hc7 hb8
      replace hb8 := hb7.trans (hb8.mono hb7.size)
      clear k0 k1 hc7 hb7
      obtain ⟨k0, k1, -, -⟩ := slot2 hc8
      go_wp2_with fail
      go_ret
      exact ⟨rfl, hb8⟩
    · rw [decide_eq_true (by omega)] at hgt
      rw [decide_eq_false (by omega)] at hlt
      clear hs1 hs2 e0
      go_wp2_with fail
      refine (HK.out _).mono ?_
      rintro e w8 ⟨rfl, hb8⟩
      have hc8 := slot_kept hc7 hb8
      replace hb8 := hb7.trans (hb8.mono hb7.size)
      clear k0 k1 hc7 hb7
      obtain ⟨k0, k1, -, -⟩ := slot2 hc8
      go_wp2_with fail
      go_ret
      exact ⟨rfl, hb8⟩
  · rw [decide_eq_false hf] at HF
    have HAt := Lib.hid (fun w => gat_no (w := w) hv hf)
    clear hf hv
    have heq1 := feq_run (x := 9223372036854775808 + INF) (y := 9223372036854775808 + INF) (d := 9998) (by decide +kernel)
    have heq2 := feq_run (x := INF) (y := INF) (d := 9998) (by decide +kernel)
    go_enter Try.func3, Try.ntmps3
    go_wp2_with fail
    refine (HL.out _).mono ?_
    rintro e w1 ⟨rfl, hb1⟩
    go_wp2_with fail
    refine (HAt.out _).mono ?_
    rintro e w2 ⟨rfl, hb2⟩
    replace hb2 := hb1.trans (hb2.mono hb1.size)
    obtain ⟨w3, hw3⟩ : ∃ w3, w2.alloc (.cells #[.float .f64 (9223372036854775808 + INF), .float .f64 INF] 25) = w3 := ⟨_, rfl⟩
    have hc3 : w3.heap[w2.heap.size]? = some (.cells #[.float .f64 (9223372036854775808 + INF), .float .f64 INF] 25 (0, 0)) := hw3 ▸ heap_alloc_new w2 _
    have hb3 : Below w.heap.size w w3 := hw3 ▸ hb2.alloc hb2.size _
    clear hb1 hb2
    go_wp2_with fail
    refine (HA.out _).mono ?_
    rintro e w4 ⟨rfl, hb4⟩
    have hc4 := slot_kept hc3 hb4
    replace hb4 := hb3.trans (hb4.mono hb3.size)
    obtain ⟨w5, hw5⟩ : ∃ w5, w4.alloc (.cells #[.float .f64 (9223372036854775808 + INF), .float .f64 INF] 25) = w5 := ⟨_, rfl⟩
    have hb45 : Below w4.heap.size w4 w5 := hw5 ▸ below_alloc w4 _
    have hd5 : w5.heap[w4.heap.size]? = some (.cells #[.float .f64 (9223372036854775808 + INF), .float .f64 INF] 25 (0, 0)) := hw5 ▸ heap_alloc_new w4 _
    have hc5 := slot_kept hc4 hb45
    have hb5 := hb4.trans (hb45.mono hb4.size)
    clear hb3 hb4 hb45 hc3 hc4 hw3
    obtain ⟨k0, k1, -, -⟩ := slot2 hd5
    go_wp2_with fail
    refine (HN.out _).mono ?_
    rintro e w6 ⟨rfl, hb6⟩
    have hc6 := slot_kept hc5 hb6
    have hd6 := slot_kept hd5 hb6
    replace hb6 := hb5.trans (hb6.mono hb5.size)
    clear k0 k1 hc5 hd5 hb5 hw5
    obtain ⟨k0, k1, -, -⟩ := slot2 hd6
    go_wp2_with fail
    refine (HI1.out _).mono ?_
    rintro e w7 ⟨rfl, rfl⟩
    go_wp2_with fail
    refine (HI2.out _).mono ?_
    rintro e w7 ⟨rfl, rfl⟩
    go_wp2_with fail
    refine (HF.out _).mono ?_
    rintro e w7 ⟨rfl, rfl⟩
    obtain ⟨m0, m1, -, -⟩ := slot2 hc6
    go_wp2_with fail
    go_ret
    exact ⟨rfl, hb6⟩
end Go.Proofs.Ytjmipbljoblnnaa
