/-
  FloMM: min and max of float64.
  Gap0: Gaps as pairs of words; what the statement GapHolds asks of package gap; compasslaw7.known.
  Gap1: The walk of the statement GapHolds, over what it asks of package gap.
-/
import Derived.Test.YtjmipbljoblnnaaDoorPk27
import Derived.Laws.NewFold
import Derived.Test.YtjmipbljoblnnaaDoorPk28
import Derived.Test.YtjmipbljoblnnaaDoorPk25

namespace Go.Proofs.YtjmipbljoblnnaaDoor
open Go.RowKit

def maxI (x y : Int) : Int := if x < y then y else x
def minI (x y : Int) : Int := if y < x then y else x
/-- What max or min of two words gives: one of them, the greater or lesser; or no number. -/
def MM (f : Int → Int → Int) (b c x : Nat) : Prop :=
  x < 18446744073709551616 ∧ ((rg b ≤ INF ∧ rg c ≤ INF ∧ rg x ≤ INF ∧ fv x = f (fv b) (fv c)) ∨ (INF < rg x ∧ (INF < rg b ∨ INF < rg c)))
theorem nan_word (t : Nat) : (t % 2) * 2 ^ 63 + 0x7ff0000000000000 + 1 + (t / 2) % (2 ^ 52 - 1) < 18446744073709551616 ∧ INF < rg ((t % 2) * 2 ^ 63 + 0x7ff0000000000000 + 1 + (t / 2) % (2 ^ 52 - 1)) := by
  unfold rg INF
  have h1 : (t / 2) % (2 ^ 52 - 1) < 4503599627370495 := Nat.mod_lt _ (by decide)
  have h2 : t % 2 < 2 := Nat.mod_lt _ (by decide)
  have e : (2 : Nat) ^ 63 = 9223372036854775808 := by decide
  rw [e]
  rcases (show t % 2 = 0 ∨ t % 2 = 1 by omega) with h | h <;> rw [h] <;> omega
def nanW (t : Nat) : Nat := (t % 2) * 2 ^ 63 + 0x7ff0000000000000 + 1 + (t / 2) % (2 ^ 52 - 1)
theorem ask_nan {P : Program} (m : Bool) (b c : Nat) (w : World) : (choose (.nanMinMax .f64 m b c)).run P w = .ok (nanW (w.tape w.drawn (.nanMinMax .f64 m b c))) w.drew := by
  rw [run_choose_drew, if_neg (by simp [Question.forced])]
  rfl
theorem max_run {P : Program} (ts : Array TypeId) (t : TypeId) (b c : Nat) (hb : b < 18446744073709551616) (hc : c < 18446744073709551616) (w : World) :
    ∃ x w', (Builtin.max_ ts t #[.float .f64 b, .float .f64 c]).run P w = .ok (.float .f64 x) w' ∧ MM maxI b c x ∧ (w' = w ∨ w' = w.drew) := by
  have nan : (INF < rg b ∨ INF < rg c) → FloatKind.f64.format.order b c = none → ∃ x w', (Builtin.max_ ts t #[.float .f64 b, .float .f64 c]).run P w = .ok (.float .f64 x) w' ∧ MM maxI b c x ∧ (w' = w ∨ w' = w.drew) := fun h ho =>
    ⟨nanW (w.tape w.drawn (.nanMinMax .f64 true b c)), w.drew, by simp [Builtin.max_, Builtin.max2, ho, Result.andThen]; rfl, ⟨(nan_word _).1, Or.inr ⟨(nan_word _).2, h⟩⟩, Or.inr rfl⟩
  rcases Nat.lt_or_ge INF (rg b) with hbn | hbn
  · exact nan (Or.inl hbn) (order_nan_left hbn)
  rcases Nat.lt_or_ge INF (rg c) with hcn | hcn
  · exact nan (Or.inr hcn) (order_nan_right hcn)
  have ho : FloatKind.f64.format.order b c = some (compare (fv b) (fv c)) := order_num hbn hcn
  rcases Int.lt_trichotomy (fv b) (fv c) with h | h | h
  · exact ⟨c, w, by simp [Builtin.max_, Builtin.max2, ho, cmp_int_lt h], ⟨hc, Or.inl ⟨hbn, hcn, hcn, by unfold maxI; rw [if_pos h]⟩⟩, Or.inl rfl⟩
  · refine ⟨if (FloatKind.f64.decode b).neg then c else b, w, by simp [Builtin.max_, Builtin.max2, ho, cmp_int_eq h], ?_, Or.inl rfl⟩
    split
    · exact ⟨hc, Or.inl ⟨hbn, hcn, hcn, by unfold maxI; rw [if_neg (by omega)]; exact h.symm⟩⟩
    · exact ⟨hb, Or.inl ⟨hbn, hcn, hbn, by unfold maxI; rw [if_neg (by omega)]⟩⟩
  · exact ⟨b, w, by simp [Builtin.max_, Builtin.max2, ho, cmp_int_gt h], ⟨hb, Or.inl ⟨hbn, hcn, hbn, by unfold maxI; rw [if_neg (by omega)]⟩⟩, Or.inl rfl⟩
theorem min_run {P : Program} (ts : Array TypeId) (t : TypeId) (b c : Nat) (hb : b < 18446744073709551616) (hc : c < 18446744073709551616) (w : World) :
    ∃ x w', (Builtin.min_ ts t #[.float .f64 b, .float .f64 c]).run P w = .ok (.float .f64 x) w' ∧ MM minI b c x ∧ (w' = w ∨ w' = w.drew) := by
  have nan : (INF < rg b ∨ INF < rg c) → FloatKind.f64.format.order b c = none → ∃ x w', (Builtin.min_ ts t #[.float .f64 b, .float .f64 c]).run P w = .ok (.float .f64 x) w' ∧ MM minI b c x ∧ (w' = w ∨ w' = w.drew) := fun h ho =>
    ⟨nanW (w.tape w.drawn (.nanMinMax .f64 false b c)), w.drew, by simp [Builtin.min_, Builtin.min2, ho, Result.andThen]; rfl, ⟨(nan_word _).1, Or.inr ⟨(nan_word _).2, h⟩⟩, Or.inr rfl⟩
  rcases Nat.lt_or_ge INF (rg b) with hbn | hbn
  · exact nan (Or.inl hbn) (order_nan_left hbn)
  rcases Nat.lt_or_ge INF (rg c) with hcn | hcn
  · exact nan (Or.inr hcn) (order_nan_right hcn)
  have ho : FloatKind.f64.format.order b c = some (compare (fv b) (fv c)) := order_num hbn hcn
  rcases Int.lt_trichotomy (fv b) (fv c) with h | h | h
  · exact ⟨b, w, by simp [Builtin.min_, Builtin.min2, ho, cmp_int_lt h], ⟨hb, Or.inl ⟨hbn, hcn, hbn, by unfold minI; rw [if_neg (by omega)]⟩⟩, Or.inl rfl⟩
  · refine ⟨if (FloatKind.f64.decode b).neg then b else c, w, by simp [Builtin.min_, Builtin.min2, ho, cmp_int_eq h], ?_, Or.inl rfl⟩
    split
    · exact ⟨hb, Or.inl ⟨hbn, hcn, hbn, by unfold minI; rw [if_neg (by omega)]⟩⟩
    · exact ⟨hc, Or.inl ⟨hbn, hcn, hcn, by unfold minI; rw [if_neg (by omega)]; exact h.symm⟩⟩
  · exact ⟨c, w, by simp [Builtin.min_, Builtin.min2, ho, cmp_int_gt h], ⟨hc, Or.inl ⟨hbn, hcn, hcn, by unfold minI; rw [if_pos h]⟩⟩, Or.inl rfl⟩
/-- A number moved into a finite range lies in it. -/
theorem clamp {x lo hi y z : Nat} (hlo : rg lo < INF) (hhi : rg hi < INF) (hle : fv lo ≤ fv hi) (h1 : MM maxI x lo y) (h2 : MM minI y hi z) : z < 18446744073709551616 ∧ (INF < rg z ∨ (rg z < INF ∧ fv lo ≤ fv z ∧ fv z ≤ fv hi)) := by
  refine ⟨h2.1, ?_⟩
  rcases h2.2 with ⟨a1, a2, a3, a4⟩ | ⟨a1, -⟩
  · right
    rcases h1.2 with ⟨b1, b2, b3, b4⟩ | ⟨b1, -⟩
    · have hm : fv lo ≤ fv y := by rw [b4]; unfold maxI; split <;> omega
      have h3 : fv lo ≤ fv z ∧ fv z ≤ fv hi := by rw [a4]; unfold minI; split <;> omega
      refine ⟨?_, h3⟩
      have hl := fv_bound hlo
      have hh := fv_bound hhi
      rcases Nat.lt_or_ge (rg z) INF with h | h
      · exact h
      · exfalso
        have e : rg z = INF := Nat.le_antisymm a3 h
        rcases fv_cases z with ⟨-, e2⟩ | ⟨-, e2⟩ <;> rw [e] at e2 <;> omega
    · omega
  · exact Or.inl a1
end Go.Proofs.YtjmipbljoblnnaaDoor

namespace Go.Proofs.YtjmipbljoblnnaaDoor
open Go.RowKit

abbrev W64 : Nat := 18446744073709551616
/-- A gap as a value. -/
abbrev G (l h : Nat) : Value := .agg #[.float .f64 l, .float .f64 h]
/-- The words of a gap that is known. -/
structure KG (l h : Nat) : Prop where
  lf : rg l < INF
  hf : rg h < INF
  le : fv l ≤ fv h
def RetG (w : World) (P : Nat → Nat → Prop) (e : Ending) (w' : World) : Prop :=
  ∃ l h, e = .returned (G l h) ∧ l < W64 ∧ h < W64 ∧ (KG l h → P l h) ∧ Below w.heap.size w w'
def InG (a b : Nat) (X : Int) : Prop := fv a ≤ X ∧ X ≤ fv b
def SumG (a b c d l h : Nat) : Prop := ∀ X Y, InG a b X → InG c d Y → fv l ≤ X + Y ∧ X + Y ≤ fv h
def LessG (a b c d l h : Nat) : Prop := ∀ X Y, InG a b X → InG c d Y → fv l ≤ X - Y ∧ X - Y ≤ fv h
def MulG (a b c d l h : Nat) : Prop := ∀ X Y, InG a b X → InG c d Y → ∀ K : Nat, K = 1074 → fv l * 2 ^ K ≤ X * Y ∧ X * Y ≤ fv h * 2 ^ K
def QuoG (a b c d l h : Nat) : Prop := ∀ X Y, InG a b X → InG c d Y → Y ≠ 0 → ∀ K : Nat, K = 1074 → fv l * absI Y ≤ (if Y < 0 then -X else X) * 2 ^ K ∧ (if Y < 0 then -X else X) * 2 ^ K ≤ fv h * absI Y
def RootG (a b l h : Nat) : Prop := ∀ X, InG a b X → 0 ≤ X → ∀ K : Nat, K = 1074 → (fv l ≤ 0 ∨ fv l * fv l ≤ X * 2 ^ K) ∧ 0 ≤ fv h ∧ X * 2 ^ K ≤ fv h * fv h
/-- What the walk of GapHolds takes of package gap. -/
structure GapC : Prop where
  add : ∀ (w : World) (a b c d : Nat), a < W64 → b < W64 → c < W64 → d < W64 → KG a b → KG c d → Tab64 w → Calls Tryd.prog 12 #[G a b, G c d] w fun e w' => RetG w (SumG a b c d) e w'
  sub : ∀ (w : World) (a b c d : Nat), a < W64 → b < W64 → c < W64 → d < W64 → KG a b → KG c d → Tab64 w → Calls Tryd.prog 14 #[G a b, G c d] w fun e w' => RetG w (LessG a b c d) e w'
  mul : ∀ (w : World) (a b c d : Nat), a < W64 → b < W64 → c < W64 → d < W64 → KG a b → KG c d → Tab64 w → Calls Tryd.prog 15 #[G a b, G c d] w fun e w' => RetG w (MulG a b c d) e w'
  quo : ∀ (w : World) (a b c d : Nat), a < W64 → b < W64 → c < W64 → d < W64 → KG a b → KG c d → Tab64 w → Calls Tryd.prog 16 #[G a b, G c d] w fun e w' => RetG w (QuoG a b c d) e w'
  sqrt : ∀ (w : World) (a b : Nat), a < W64 → b < W64 → KG a b → Tab64 w → Calls Tryd.prog 21 #[G a b] w fun e w' => RetG w (RootG a b) e w'
  has : ∀ (w : World) (l h j : Nat) (v : Value) (Z : Int) (m b : Nat), l < W64 → h < W64 → DQ (1074 + j) w v Z m b → m ≤ 300 → b ≤ 40000 → j ≤ 1074 → (KG l h → fv l * 2 ^ j ≤ Z ∧ Z ≤ fv h * 2 ^ j) → Tab64 w → Calls Tryd.prog 13 #[G l h, v] w fun e w' => e = .returned (.bool true) ∧ Below w.heap.size w w'
  known : ∀ (w : World) (l h : Nat), l < W64 → h < W64 → Calls Tryd.prog 18 #[G l h] w fun e w' => ∃ r, e = .returned (.bool r) ∧ (r = true → KG l h) ∧ Below w.heap.size w w'
  alive : ∀ (w : World), Tab64 w → Calls Tryd.prog 5 #[] w fun e w' => e = .returned (.bool true) ∧ Below w.heap.size w w'
theorem run_store_float {P : Program} (w : World) (a : Addr) (m : Mode) (k : FloatKind) (b : Nat) : (store a (.float k b) m).run P w = stored P w a (.float k b) m := run_store P w a _ m rfl
theorem fle_num {a b : Nat} (ha : rg a ≤ INF) (hb : rg b ≤ INF) : ((FloatKind.f64.format.order a b == some .lt) || (FloatKind.f64.format.order a b == some .eq)) = decide (fv a ≤ fv b) := by
  rw [flt_num ha hb, feq_num ha hb]
  by_cases h : fv a ≤ fv b
  · rw [decide_eq_true h]
    rcases Int.lt_or_eq_of_le h with h1 | h1
    · rw [decide_eq_true h1]; rfl
    · rw [decide_eq_true h1, Bool.or_true]
  · rw [decide_eq_false h, decide_eq_false (by omega), decide_eq_false (by omega)]; rfl
set_option maxRecDepth 100000 in
set_option maxHeartbeats 1000000 in
theorem lknown_yes {w : World} {l h : Nat} (hl : l < W64) (hh : h < W64) (hk : KG l h) : Calls Tryd.prog 4 #[G l h] w fun e w' => e = .returned (.bool true) ∧ Below w.heap.size w w' := by
  have HF1 := Lib.hid (fun w => rfin_num l w hl)
  have HF2 := Lib.hid (fun w => rfin_num h w hh)
  have hle := fle_num (Nat.le_of_lt hk.lf) (Nat.le_of_lt hk.hf)
  rw [decide_eq_true hk.le] at hle
  rw [decide_eq_true hk.lf] at HF1
  rw [decide_eq_true hk.hf] at HF2
  clear hk
  go_enter Tryd.func4, Tryd.ntmps4
  go_wp2_with fail
  refine (HF1.out _).mono ?_
  rintro e w' ⟨rfl, rfl⟩
  go_wp2_with fail
  refine (HF2.out _).mono ?_
  rintro e w' ⟨rfl, rfl⟩
  go_wp2_with fail
  go_ret
  exact ⟨rfl, below_alloc w _⟩
set_option maxRecDepth 100000 in
set_option maxHeartbeats 1000000 in
theorem lknown_no {w : World} {l h : Nat} (hl : l < W64) (hh : h < W64) (hk : ¬ KG l h) : Calls Tryd.prog 4 #[G l h] w fun e w' => e = .returned (.bool false) ∧ Below w.heap.size w w' := by
  have HF1 := Lib.hid (fun w => rfin_num l w hl)
  have HF2 := Lib.hid (fun w => rfin_num h w hh)
  by_cases h1 : rg l < INF
  · rw [decide_eq_true h1] at HF1
    by_cases h2 : rg h < INF
    · rw [decide_eq_true h2] at HF2
      have hle := fle_num (Nat.le_of_lt h1) (Nat.le_of_lt h2)
      rw [decide_eq_false (fun h3 => hk ⟨h1, h2, h3⟩)] at hle
      clear hk h1 h2
      go_enter Tryd.func4, Tryd.ntmps4
      go_wp2_with fail
      refine (HF1.out _).mono ?_
      rintro e w' ⟨rfl, rfl⟩
      go_wp2_with fail
      refine (HF2.out _).mono ?_
      rintro e w' ⟨rfl, rfl⟩
      go_wp2_with fail
      go_ret
      exact ⟨rfl, below_alloc w _⟩
    · rw [decide_eq_false h2] at HF2
      clear hk h1 h2
      go_enter Tryd.func4, Tryd.ntmps4
      go_wp2_with fail
      refine (HF1.out _).mono ?_
      rintro e w' ⟨rfl, rfl⟩
      go_wp2_with fail
      refine (HF2.out _).mono ?_
      rintro e w' ⟨rfl, rfl⟩
      go_wp2_with fail
      go_ret
      exact ⟨rfl, below_alloc w _⟩
  · rw [decide_eq_false h1] at HF1
    clear hk h1 HF2
    go_enter Tryd.func4, Tryd.ntmps4
    go_wp2_with fail
    refine (HF1.out _).mono ?_
    rintro e w' ⟨rfl, rfl⟩
    go_wp2_with fail
    go_ret
    exact ⟨rfl, below_alloc w _⟩
theorem absI_pos {Y : Int} (h : Y ≠ 0) : 0 < absI Y := by unfold absI; split <;> omega
/-- A gap's end does not lie beyond the quotient rounded away from it. -/
theorem quo_low {x y dl Zr : Int} {K j : Nat} (hy : y ≠ 0) (h1 : dl * absI y ≤ (if y < 0 then -x else x) * 2 ^ K) (h2 : (if y < 0 then -x else x) * 2 ^ (K + j) ≤ Zr * absI y) : dl * 2 ^ j ≤ Zr := by
  have hp : (0 : Int) < 2 ^ j := Int.pow_pos (by decide)
  have h3 := Int.mul_le_mul_of_nonneg_right h1 (show (0 : Int) ≤ 2 ^ j by omega)
  rw [Int.pow_add, ← Int.mul_assoc] at h2
  refine Int.le_of_mul_le_mul_right (?_ : dl * 2 ^ j * absI y ≤ Zr * absI y) (absI_pos hy)
  rw [Int.mul_assoc, Int.mul_comm (2 ^ j), ← Int.mul_assoc]
  omega
theorem quo_high {x y dh Zr : Int} {K j : Nat} (hy : y ≠ 0) (h1 : (if y < 0 then -x else x) * 2 ^ K ≤ dh * absI y) (h2 : Zr * absI y ≤ (if y < 0 then -x else x) * 2 ^ (K + j)) : Zr ≤ dh * 2 ^ j := by
  have hp : (0 : Int) < 2 ^ j := Int.pow_pos (by decide)
  have h3 := Int.mul_le_mul_of_nonneg_right h1 (show (0 : Int) ≤ 2 ^ j by omega)
  rw [Int.pow_add, ← Int.mul_assoc] at h2
  refine Int.le_of_mul_le_mul_right (?_ : Zr * absI y ≤ dh * 2 ^ j * absI y) (absI_pos hy)
  rw [Int.mul_assoc dh, Int.mul_comm (2 ^ j) (absI y), ← Int.mul_assoc dh]
  omega
/-- Slots that hold a float64, or a gap. -/
def IsF (P : Nat → Prop) (v : Value) (_ : World) : Prop := ∃ x, v = .float .f64 x ∧ P x
theorem IsF.keeps (P : Nat → Prop) : Keeps (IsF P) := fun _ _ _ _ h => h
def IsG (P : Nat → Nat → Prop) (v : Value) (_ : World) : Prop := ∃ l h, v = G l h ∧ l < W64 ∧ h < W64 ∧ (KG l h → P l h)
theorem IsG.keeps (P : Nat → Nat → Prop) : Keeps (IsG P) := fun _ _ _ _ h => h
def IsDQ (L : Nat) (Z : Int) (m b : Nat) (v : Value) (w : World) : Prop := ∃ p a n c E, v = .agg #[.bool p, .slice a n c, .int .i64 E] ∧ DQ L w (.agg #[.bool p, .slice a n c, .int .i64 E]) Z m b
theorem IsDQ.keeps (L : Nat) (Z : Int) (m b : Nat) : Keeps (IsDQ L Z m b) := fun _ _ _ hb ⟨p, a, n, c, E, h1, h2⟩ => ⟨p, a, n, c, E, h1, h2.below hb⟩
/-- A new variable of one of the program's dyads. -/
def IsNewE (base : Nat) (v : Value) (w : World) : Prop := ∃ g, v = .pointer (some ⟨g, 0, none⟩) ∧ w.heap[g]? = some (.cells #[.bool false, .slice none 0 0, .int .i64 0] 37 (0, 0)) ∧ base ≤ g
theorem IsNewE.keeps (base : Nat) : Keeps (IsNewE base) := fun _ _ _ hb ⟨g, h1, h2, h3⟩ => ⟨g, h1, slot_kept h2 hb, h3⟩
theorem DQ.var {L : Nat} {w w' : World} {v : Value} {Z : Int} {m b g lo hi : Nat} (h : DQ L w v Z m b) {p : Bool} {a1 : Option Addr} {n1 c1 : Nat} {E : Int} {t : TypeId} (hv : w.heap[g]? = some (.cells #[.bool p, .slice a1 n1 c1, .int .i64 E] t (0, 0))) (ho : Only g lo hi w w') : DQ L w' v Z m b := by
  obtain ⟨q, a, n, c, N, E2, E0, h1, h2, h3⟩ := h
  exact ⟨q, a, n, c, N, E2, E0, h1, num_var3 h2 hv ho, h3⟩
/-- A slot that holds a rounded quotient. -/
def IsQuo (Lq : Nat) (Zx Zy dir : Int) (m b : Nat) (v : Value) (w : World) : Prop := ∃ p a n c E, v = .agg #[.bool p, .slice a n c, .int .i64 E] ∧ ∃ Zr, RQ Lq w (.agg #[.bool p, .slice a n c, .int .i64 E]) Zr m b ∧ (dir < 0 → Zr * absI Zy ≤ (if Zy < 0 then -Zx else Zx) * 2 ^ Lq) ∧ (0 < dir → (if Zy < 0 then -Zx else Zx) * 2 ^ Lq ≤ Zr * absI Zy)
theorem IsQuo.keeps (Lq : Nat) (Zx Zy dir : Int) (m b : Nat) : Keeps (IsQuo Lq Zx Zy dir m b) := fun _ _ _ hb ⟨p, a, n, c, E, h1, Zr, h2, h3⟩ => ⟨p, a, n, c, E, h1, Zr, h2.below hb, h3⟩
/-- Where x lies in a gap, or is no number. -/
def ClampP (a b z : Nat) : Prop := z < W64 ∧ (INF < rg z ∨ (rg z < INF ∧ fv a ≤ fv z ∧ fv z ≤ fv b))
end Go.Proofs.YtjmipbljoblnnaaDoor

namespace Go.Proofs.YtjmipbljoblnnaaDoor
open Go.RowKit

attribute [local go_sem] run_store_float
set_option maxRecDepth 100000 in
set_option maxHeartbeats 8000000 in
theorem gholds_ok (HG : GapC) (a b c d x y : Nat) (w : World) (ha64 : a < W64) (hb64 : b < W64) (hc64 : c < W64) (hd64 : d < W64) (hx64 : x < W64) (hy64 : y < W64) (hT : Tab64 w) :
    Calls Tryd.prog 3 #[G a b, G c d, .float .f64 x, .float .f64 y] w fun e w' => RetV w (.bool true) e w' := by
  obtain ⟨w1, hw1⟩ : ∃ w1, w.alloc (.cells #[.float .f64 a, .float .f64 b] 24) = w1 := ⟨_, rfl⟩
  obtain ⟨w2, hw2⟩ : ∃ w2, w1.alloc (.cells #[.float .f64 c, .float .f64 d] 24) = w2 := ⟨_, rfl⟩
  have hb1 : Below w.heap.size w w1 := hw1 ▸ below_alloc w _
  have hs1 : w1.heap.size = w.heap.size + 1 := by rw [← hw1]; simp
  have hb12 : Below w1.heap.size w1 w2 := hw2 ▸ below_alloc w1 _
  have HB2 := Lib.hid (hb1.trans (hb12.mono hb1.size))
  have HA2 : Hid (w2.heap[w.heap.size]? = some (.cells #[.float .f64 a, .float .f64 b] 24 (0, 0))) := Lib.hid (slot_kept (hw1 ▸ heap_alloc_new w _) hb12)
  have HC2 : Hid (w2.heap[w.heap.size + 1]? = some (.cells #[.float .f64 c, .float .f64 d] 24 (0, 0))) := Lib.hid (by rw [← hs1]; exact hw2 ▸ heap_alloc_new w1 _)
  have HT := Lib.hid hT
  have HW12 := Lib.hid (And.intro hw1 hw2)
  clear hb1 hb12 hs1 hT hw1 hw2
  by_cases hab : ¬ KG a b
  · have HK := Lib.hid (fun w => lknown_no (w := w) ha64 hb64 hab)
    clear hab
    go_enter Tryd.func3, Tryd.ntmps3
    go_wp2_with fail
    rw [HW12.out.1, HW12.out.2]
    refine (HK.out _).mono ?_
    rintro e w3 ⟨rfl, hb3⟩
    have HB3 := Lib.hid (HB2.out.trans (hb3.mono HB2.out.size))
    clear hb3
    go_wp2_with fail
    refine (HG.alive w3 (HT.out.below HB3.out)).mono ?_
    rintro e w4 ⟨rfl, hb4⟩
    have HB4 := Lib.hid (HB3.out.trans (hb4.mono HB3.out.size))
    clear hb4
    go_wp2_with fail
    go_ret
    exact ⟨rfl, HB4.out⟩
  rw [Classical.not_not] at hab
  have HK := Lib.hid (fun w => lknown_yes (w := w) ha64 hb64 hab)
  by_cases hcd : ¬ KG c d
  · have HK2 := Lib.hid (fun w => lknown_no (w := w) hc64 hd64 hcd)
    clear hab hcd
    go_enter Tryd.func3, Tryd.ntmps3
    go_wp2_with fail
    rw [HW12.out.1, HW12.out.2]
    refine (HK.out _).mono ?_
    rintro e w3 ⟨rfl, hb3⟩
    have HB3 := Lib.hid (HB2.out.trans (hb3.mono HB2.out.size))
    have hC3 := slot_kept HC2.out hb3
    obtain ⟨k0, k1, -, -⟩ := slot2 hC3
    clear hb3 hC3
    go_wp2_with fail
    refine (HK2.out _).mono ?_
    rintro e w4 ⟨rfl, hb4⟩
    have HB4 := Lib.hid (HB3.out.trans (hb4.mono HB3.out.size))
    clear hb4
    go_wp2_with fail
    refine (HG.alive w4 (HT.out.below HB4.out)).mono ?_
    rintro e w5 ⟨rfl, hb5⟩
    have HB5 := Lib.hid (HB4.out.trans (hb5.mono HB4.out.size))
    clear hb5
    go_wp2_with fail
    go_ret
    exact ⟨rfl, HB5.out⟩
  rw [Classical.not_not] at hcd
  have HK2 := Lib.hid (fun w => lknown_yes (w := w) hc64 hd64 hcd)
  have HAB := Lib.hid hab
  have HCD := Lib.hid hcd
  clear hab hcd
  go_enter Tryd.func3, Tryd.ntmps3
  go_wp2_with fail
  rw [HW12.out.1, HW12.out.2]
  refine (HK.out _).mono ?_
  rintro e w3 ⟨rfl, hb3⟩
  have HB3 := Lib.hid (HB2.out.trans (hb3.mono HB2.out.size))
  have HA3 := Lib.hid (slot_kept HA2.out hb3)
  have hC3 := slot_kept HC2.out hb3
  have HC3 := Lib.hid hC3
  obtain ⟨k0, k1, -, -⟩ := slot2 hC3
  clear hb3 hC3
  go_wp2_with fail
  refine (HK2.out _).mono ?_
  rintro e w4 ⟨rfl, hb4⟩
  have HB4 := Lib.hid (HB3.out.trans (hb4.mono HB3.out.size))
  have HA4 := Lib.hid (slot_kept HA3.out hb4)
  have HC4 := Lib.hid (slot_kept HC3.out hb4)
  clear hb4 k0 k1
  go_wp2_with fail
  refine (HG.alive w4 (HT.out.below HB4.out)).mono ?_
  rintro e w5 ⟨rfl, hb5⟩
  have HB5 := Lib.hid (HB4.out.trans (hb5.mono HB4.out.size))
  have hA := slot_kept HA4.out hb5
  have hC := slot_kept HC4.out hb5
  clear hb5 HA2 HC2 HA3 HC3 HA4 HC4 HB2 HB3 HB4 HK HK2 HW12
  go_upto_region 3 with fail
  refine wp_region_slotst_tail (by kernel_rfl) 15 [33, 34, 35, 36, 37, 38, 39, 40, 41, 42, 43, 44, 45, 46, 2] (fun tm w' => ((w'.heap[w.heap.size]? = some (.cells #[.float .f64 a, .float .f64 b] 24 (0, 0))) ∧ (w'.heap[w.heap.size + 1]? = some (.cells #[.float .f64 c, .float .f64 d] 24 (0, 0))) ∧ (Below w5.heap.size w5 w')) ∧ ∃ t, tm[2]? = some (.float .f64 t) ∧ t < W64) (Said [IsF (fun t => t < W64), Is (.pointer (some ⟨w.heap.size, 0, none⟩)), Is (.float .f64 a), IsF (fun z => ∃ t, MM maxI t a z), Is (.pointer (some ⟨w.heap.size, 1, none⟩)), Is (.float .f64 b), IsF (ClampP a b), Is (.float .f64 y), Is (.pointer (some ⟨w.heap.size + 1, 0, none⟩)), Is (.float .f64 c), IsF (MM maxI y c), Is (.pointer (some ⟨w.heap.size + 1, 1, none⟩)), Is (.float .f64 d), IsF (ClampP c d), IsF (ClampP a b)]) (by kernel_rfl) (by kernel_rfl) (by kernel_rfl) (by kernel_rfl) (by kernel_rfl) (Said.keep ?keep) ⟨⟨slot_kept hA (bdn (Below.refl _ _) 1), slot_kept hC (bdn (Below.refl _ _) 1), (bdn (Below.refl _ _) 1)⟩, x, rfl, hx64⟩ (l := [0, 1, 2, 3, 4, 5, 6, 7, 8, 9, 10, 11, 12, 13, 14]) (by kernel_rfl) ?step ?fin
  case keep =>
    refine List.forall_mem_cons.2 ⟨IsF.keeps _, ?_⟩
    refine List.forall_mem_cons.2 ⟨Is.keeps _, ?_⟩
    refine List.forall_mem_cons.2 ⟨Is.keeps _, ?_⟩
    refine List.forall_mem_cons.2 ⟨IsF.keeps _, ?_⟩
    refine List.forall_mem_cons.2 ⟨Is.keeps _, ?_⟩
    refine List.forall_mem_cons.2 ⟨Is.keeps _, ?_⟩
    refine List.forall_mem_cons.2 ⟨IsF.keeps _, ?_⟩
    refine List.forall_mem_cons.2 ⟨Is.keeps _, ?_⟩
    refine List.forall_mem_cons.2 ⟨Is.keeps _, ?_⟩
    refine List.forall_mem_cons.2 ⟨Is.keeps _, ?_⟩
    refine List.forall_mem_cons.2 ⟨IsF.keeps _, ?_⟩
    refine List.forall_mem_cons.2 ⟨Is.keeps _, ?_⟩
    refine List.forall_mem_cons.2 ⟨Is.keeps _, ?_⟩
    refine List.forall_mem_cons.2 ⟨IsF.keeps _, ?_⟩
    refine List.forall_mem_cons.2 ⟨IsF.keeps _, ?_⟩
    exact fun _ h => nomatch h
  case step =>
    refine List.forall_mem_cons.2 ⟨?_, ?_⟩
    · refine SlotStepT.plain rfl rfl rfl ?_
      intro tm ws hsame hSS hg K hK
      obtain ⟨hS, t2, e2, ht2⟩ := hSS
      go_simp
      exact hK _ _ (Below.refl _ _) ⟨hS, t2, (by rw [Array.getElem?_setIfInBounds_ne (by decide)]; exact e2), ht2⟩ ⟨t2, rfl, ht2⟩
    refine List.forall_mem_cons.2 ⟨?_, ?_⟩
    · refine SlotStepT.plain rfl rfl rfl ?_
      intro tm ws hsame hSS hg K hK
      obtain ⟨hS, t2, e2, ht2⟩ := hSS
      have e4 : tm[4]? = some (.pointer (some ⟨w.heap.size, 0, none⟩)) := hsame.2 4 rfl
      go_simp
      exact hK _ _ (Below.refl _ _) ⟨hS, t2, (by rw [Array.getElem?_setIfInBounds_ne (by decide)]; exact e2), ht2⟩ rfl
    refine List.forall_mem_cons.2 ⟨?_, ?_⟩
    · refine SlotStepT.plain rfl rfl rfl ?_
      intro tm ws hsame hSS hg K hK
      obtain ⟨hS, t2, e2, ht2⟩ := hSS
      obtain ⟨v34, e34, rfl⟩ := hg 1 (by kernel_rfl) _ 34 rfl rfl
      obtain ⟨k0, k1, -, -⟩ := slot2 (hS.1)
      go_simp
      exact hK _ _ (Below.refl _ _) ⟨hS, t2, (by rw [Array.getElem?_setIfInBounds_ne (by decide)]; exact e2), ht2⟩ rfl
    refine List.forall_mem_cons.2 ⟨?_, ?_⟩
    · refine SlotStepT.plain rfl rfl rfl ?_
      intro tm ws hsame hSS hg K hK
      obtain ⟨hS, t2, e2, ht2⟩ := hSS
      obtain ⟨v33, e33, ⟨x33, rfl, g33⟩⟩ := hg 0 (by kernel_rfl) _ 33 rfl rfl
      obtain ⟨v35, e35, rfl⟩ := hg 2 (by kernel_rfl) _ 35 rfl rfl
      obtain ⟨xr, wr, hrun, hmm, hwr⟩ := max_run (P := Tryd.prog) #[22, 22] 22 x33 a g33 ha64 ws
      have hbr : Below ws.heap.size ws wr := hwr.elim (fun h => h ▸ Below.refl _ _) (fun h => h ▸ (Below.refl _ _).drew)
      go_simp
      exact hK _ _ hbr ⟨⟨slot_kept hS.1 hbr, slot_kept hS.2.1 hbr, hS.2.2.trans (Below.mono hbr hS.2.2.size)⟩, t2, (by rw [Array.getElem?_setIfInBounds_ne (by decide)]; exact e2), ht2⟩ ⟨xr, rfl, x33, hmm⟩
    refine List.forall_mem_cons.2 ⟨?_, ?_⟩
    · refine SlotStepT.plain rfl rfl rfl ?_
      intro tm ws hsame hSS hg K hK
      obtain ⟨hS, t2, e2, ht2⟩ := hSS
      have e4 : tm[4]? = some (.pointer (some ⟨w.heap.size, 0, none⟩)) := hsame.2 4 rfl
      go_simp
      exact hK _ _ (Below.refl _ _) ⟨hS, t2, (by rw [Array.getElem?_setIfInBounds_ne (by decide)]; exact e2), ht2⟩ rfl
    refine List.forall_mem_cons.2 ⟨?_, ?_⟩
    · refine SlotStepT.plain rfl rfl rfl ?_
      intro tm ws hsame hSS hg K hK
      obtain ⟨hS, t2, e2, ht2⟩ := hSS
      obtain ⟨v37, e37, rfl⟩ := hg 4 (by kernel_rfl) _ 37 rfl rfl
      obtain ⟨k0, k1, -, -⟩ := slot2 (hS.1)
      go_simp
      exact hK _ _ (Below.refl _ _) ⟨hS, t2, (by rw [Array.getElem?_setIfInBounds_ne (by decide)]; exact e2), ht2⟩ rfl
    refine List.forall_mem_cons.2 ⟨?_, ?_⟩
    · refine SlotStepT.plain rfl rfl rfl ?_
      intro tm ws hsame hSS hg K hK
      obtain ⟨hS, t2, e2, ht2⟩ := hSS
      obtain ⟨v36, e36, ⟨x36, rfl, g36⟩⟩ := hg 3 (by kernel_rfl) _ 36 rfl rfl
      obtain ⟨v38, e38, rfl⟩ := hg 5 (by kernel_rfl) _ 38 rfl rfl
      obtain ⟨t36, m36⟩ := g36
      obtain ⟨xr, wr, hrun, hmm, hwr⟩ := min_run (P := Tryd.prog) #[22, 22] 22 x36 b m36.1 hb64 ws
      have hbr : Below ws.heap.size ws wr := hwr.elim (fun h => h ▸ Below.refl _ _) (fun h => h ▸ (Below.refl _ _).drew)
      go_simp
      exact hK _ _ hbr ⟨⟨slot_kept hS.1 hbr, slot_kept hS.2.1 hbr, hS.2.2.trans (Below.mono hbr hS.2.2.size)⟩, t2, (by rw [Array.getElem?_setIfInBounds_ne (by decide)]; exact e2), ht2⟩ ⟨xr, rfl, clamp HAB.out.lf HAB.out.hf HAB.out.le m36 hmm⟩
    refine List.forall_mem_cons.2 ⟨?_, ?_⟩
    · refine SlotStepT.plain rfl rfl rfl ?_
      intro tm ws hsame hSS hg K hK
      obtain ⟨hS, t2, e2, ht2⟩ := hSS
      have e3 : tm[3]? = some (.float .f64 y) := hsame.2 3 rfl
      go_simp
      exact hK _ _ (Below.refl _ _) ⟨hS, t2, (by rw [Array.getElem?_setIfInBounds_ne (by decide)]; exact e2), ht2⟩ rfl
    refine List.forall_mem_cons.2 ⟨?_, ?_⟩
    · refine SlotStepT.plain rfl rfl rfl ?_
      intro tm ws hsame hSS hg K hK
      obtain ⟨hS, t2, e2, ht2⟩ := hSS
      have e5 : tm[5]? = some (.pointer (some ⟨w.heap.size + 1, 0, none⟩)) := hsame.2 5 rfl
      go_simp
      exact hK _ _ (Below.refl _ _) ⟨hS, t2, (by rw [Array.getElem?_setIfInBounds_ne (by decide)]; exact e2), ht2⟩ rfl
    refine List.forall_mem_cons.2 ⟨?_, ?_⟩
    · refine SlotStepT.plain rfl rfl rfl ?_
      intro tm ws hsame hSS hg K hK
      obtain ⟨hS, t2, e2, ht2⟩ := hSS
      obtain ⟨v41, e41, rfl⟩ := hg 8 (by kernel_rfl) _ 41 rfl rfl
      obtain ⟨k0, k1, -, -⟩ := slot2 (hS.2.1)
      go_simp
      exact hK _ _ (Below.refl _ _) ⟨hS, t2, (by rw [Array.getElem?_setIfInBounds_ne (by decide)]; exact e2), ht2⟩ rfl
    refine List.forall_mem_cons.2 ⟨?_, ?_⟩
    · refine SlotStepT.plain rfl rfl rfl ?_
      intro tm ws hsame hSS hg K hK
      obtain ⟨hS, t2, e2, ht2⟩ := hSS
      obtain ⟨v40, e40, rfl⟩ := hg 7 (by kernel_rfl) _ 40 rfl rfl
      obtain ⟨v42, e42, rfl⟩ := hg 9 (by kernel_rfl) _ 42 rfl rfl
      obtain ⟨xr, wr, hrun, hmm, hwr⟩ := max_run (P := Tryd.prog) #[22, 22] 22 y c hy64 hc64 ws
      have hbr : Below ws.heap.size ws wr := hwr.elim (fun h => h ▸ Below.refl _ _) (fun h => h ▸ (Below.refl _ _).drew)
      go_simp
      exact hK _ _ hbr ⟨⟨slot_kept hS.1 hbr, slot_kept hS.2.1 hbr, hS.2.2.trans (Below.mono hbr hS.2.2.size)⟩, t2, (by rw [Array.getElem?_setIfInBounds_ne (by decide)]; exact e2), ht2⟩ ⟨xr, rfl, hmm⟩
    refine List.forall_mem_cons.2 ⟨?_, ?_⟩
    · refine SlotStepT.plain rfl rfl rfl ?_
      intro tm ws hsame hSS hg K hK
      obtain ⟨hS, t2, e2, ht2⟩ := hSS
      have e5 : tm[5]? = some (.pointer (some ⟨w.heap.size + 1, 0, none⟩)) := hsame.2 5 rfl
      go_simp
      exact hK _ _ (Below.refl _ _) ⟨hS, t2, (by rw [Array.getElem?_setIfInBounds_ne (by decide)]; exact e2), ht2⟩ rfl
    refine List.forall_mem_cons.2 ⟨?_, ?_⟩
    · refine SlotStepT.plain rfl rfl rfl ?_
      intro tm ws hsame hSS hg K hK
      obtain ⟨hS, t2, e2, ht2⟩ := hSS
      obtain ⟨v44, e44, rfl⟩ := hg 11 (by kernel_rfl) _ 44 rfl rfl
      obtain ⟨k0, k1, -, -⟩ := slot2 (hS.2.1)
      go_simp
      exact hK _ _ (Below.refl _ _) ⟨hS, t2, (by rw [Array.getElem?_setIfInBounds_ne (by decide)]; exact e2), ht2⟩ rfl
    refine List.forall_mem_cons.2 ⟨?_, ?_⟩
    · refine SlotStepT.plain rfl rfl rfl ?_
      intro tm ws hsame hSS hg K hK
      obtain ⟨hS, t2, e2, ht2⟩ := hSS
      obtain ⟨v43, e43, ⟨x43, rfl, g43⟩⟩ := hg 10 (by kernel_rfl) _ 43 rfl rfl
      obtain ⟨v45, e45, rfl⟩ := hg 12 (by kernel_rfl) _ 45 rfl rfl
      obtain ⟨xr, wr, hrun, hmm, hwr⟩ := min_run (P := Tryd.prog) #[22, 22] 22 x43 d g43.1 hd64 ws
      have hbr : Below ws.heap.size ws wr := hwr.elim (fun h => h ▸ Below.refl _ _) (fun h => h ▸ (Below.refl _ _).drew)
      go_simp
      exact hK _ _ hbr ⟨⟨slot_kept hS.1 hbr, slot_kept hS.2.1 hbr, hS.2.2.trans (Below.mono hbr hS.2.2.size)⟩, t2, (by rw [Array.getElem?_setIfInBounds_ne (by decide)]; exact e2), ht2⟩ ⟨xr, rfl, clamp HCD.out.lf HCD.out.hf HCD.out.le g43 hmm⟩
    refine List.forall_mem_cons.2 ⟨?_, ?_⟩
    · refine SlotStepT.plain rfl rfl rfl ?_
      intro tm ws hsame hSS hg K hK
      obtain ⟨hS, t2, e2, ht2⟩ := hSS
      obtain ⟨v39, e39, ⟨x39, rfl, g39⟩⟩ := hg 6 (by kernel_rfl) _ 39 rfl rfl
      go_simp
      exact hK _ _ (Below.refl _ _) ⟨hS, x39, (by rw [Array.getElem?_setIfInBounds_self, if_pos (by have hz := hsame.1; simp at hz; omega)]), g39.1⟩ ⟨x39, rfl, g39⟩
    exact fun _ h => nomatch h
  case fin =>
    intro tm w6 hsame hS hgot
    obtain ⟨u, hu, htm⟩ := hsame.form (by kernel_rfl)
    obtain ⟨v2, e2, z1, rfl, g39⟩ := hgot 14 (by decide) _ 2 rfl rfl
    obtain ⟨v46, e46, z2, rfl, g46⟩ := hgot 13 (by decide) _ 46 rfl rfl
    have h2 := hu _ _ e2
    have h46 := hu _ _ e46
    obtain ⟨⟨hA6, hC6, hb6⟩, -⟩ := hS
    have hbw6 := HB5.out.trans (hb6.mono HB5.out.size)
    clear hgot hu hsame e2 e46 hA hC
    rw [htm]
    clear htm tm
    simp only [List.foldl_cons, List.foldl_nil, List.setIfInBounds_toArray, List.set_cons_zero, List.set_cons_succ, h2, h46, List.drop_succ_cons, List.drop_zero]
    clear h2 h46
    have HF1 := Lib.hid (fun w => finite_num z1 w g39.1)
    have HF2 := Lib.hid (fun w => finite_num z2 w g46.1)
    have HBW6 := Lib.hid hbw6
    have HA6 := Lib.hid hA6
    have HC6 := Lib.hid hC6
    clear hb6 hbw6 hA6 hC6
    rcases g39 with ⟨hz1, hn1 | ⟨hf1, hl1, hh1⟩⟩
    · rw [decide_eq_false (by omega)] at HF1
      clear g46
      go_wp2_with fail
      refine (HF1.out _).mono ?_
      rintro e w' ⟨rfl, rfl⟩
      go_wp2_with fail
      go_ret
      exact ⟨rfl, HBW6.out⟩
    rcases g46 with ⟨hz2, hn2 | ⟨hf2, hl2, hh2⟩⟩
    · rw [decide_eq_true hf1] at HF1
      rw [decide_eq_false (by omega)] at HF2
      go_wp2_with fail
      refine (HF1.out _).mono ?_
      rintro e w' ⟨rfl, rfl⟩
      go_wp2_with fail
      refine (HF2.out _).mono ?_
      rintro e w' ⟨rfl, rfl⟩
      go_wp2_with fail
      go_ret
      exact ⟨rfl, HBW6.out⟩
    rw [decide_eq_true hf1] at HF1
    rw [decide_eq_true hf2] at HF2
    have HX := Lib.hid (And.intro hl1 hh1)
    have HY := Lib.hid (And.intro hl2 hh2)
    have HO1 := Lib.hid (fun w => refof_num z1 w hz1 hf1)
    have HO2 := Lib.hid (fun w => refof_num z2 w hz2 hf2)
    clear hz1 hz2 hf1 hf2 hl1 hh1 hl2 hh2
    go_wp2_with fail
    refine (HF1.out _).mono ?_
    rintro e w' ⟨rfl, rfl⟩
    go_wp2_with fail
    refine (HF2.out _).mono ?_
    rintro e w6 ⟨rfl, rfl⟩
    go_wp2_with fail
    refine (HO1.out _).mono ?_
    rintro e w7 ⟨p1, a1, n1, c1, E1, rfl, hq1, hb7⟩
    have HQ1 := Lib.hid hq1
    have HBW7 := Lib.hid (HBW6.out.trans (hb7.mono HBW6.out.size))
    have HA7 := Lib.hid (slot_kept HA6.out hb7)
    have HC7 := Lib.hid (slot_kept HC6.out hb7)
    clear hq1 hb7
    go_wp2_with fail
    refine (HO2.out _).mono ?_
    rintro e w8 ⟨p2, a2, n2, c2, E2, rfl, hq2, hb8⟩
    have HQ1b := Lib.hid (HQ1.out.below hb8)
    have HQ2 := Lib.hid hq2
    have HBW8 := Lib.hid (HBW7.out.trans (hb8.mono HBW7.out.size))
    have HA8 := Lib.hid (slot_kept HA7.out hb8)
    have HC8 := Lib.hid (slot_kept HC7.out hb8)
    clear hq2 hb8 HQ1 HO1 HO2 HF1 HF2
    go_upto_region 7 with fail
    obtain ⟨w9, hw9⟩ : ∃ w9, (w8.alloc (.cells #[.bool p1, .slice a1 n1 c1, .int .i64 E1] 31)).alloc (.cells #[.bool p2, .slice a2 n2 c2, .int .i64 E2] 31) = w9 := ⟨_, rfl⟩
    have hs8 : (w8.alloc (.cells #[.bool p1, .slice a1 n1 c1, .int .i64 E1] 31)).heap.size = w8.heap.size + 1 := by simp
    have hb8a := below_alloc w8 (.cells #[.bool p1, .slice a1 n1 c1, .int .i64 E1] 31)
    have hb8b : Below (w8.alloc (.cells #[.bool p1, .slice a1 n1 c1, .int .i64 E1] 31)).heap.size (w8.alloc (.cells #[.bool p1, .slice a1 n1 c1, .int .i64 E1] 31)) w9 := hw9 ▸ below_alloc _ _
    have hb89 : Below w8.heap.size w8 w9 := hb8a.trans (hb8b.mono (by rw [hs8]; omega))
    have HP9 : Hid (w9.heap[w8.heap.size]? = some (.cells #[.bool p1, .slice a1 n1 c1, .int .i64 E1] 31 (0, 0))) := Lib.hid (slot_kept (heap_alloc_new w8 _) hb8b)
    have HQ9 : Hid (w9.heap[w8.heap.size + 1]? = some (.cells #[.bool p2, .slice a2 n2 c2, .int .i64 E2] 31 (0, 0))) := Lib.hid (by rw [← hs8, ← hw9]; exact heap_alloc_new _ _)
    have HX9 := Lib.hid (HQ1b.out.below hb89)
    have HY9 := Lib.hid (HQ2.out.below hb89)
    have HBW9 := Lib.hid (HBW8.out.trans (hb89.mono HBW8.out.size))
    have HA9 := Lib.hid (slot_kept HA8.out hb89)
    have HC9 := Lib.hid (slot_kept HC8.out hb89)
    rw [hw9]
    clear hw9 hs8 hb8a hb8b hb89 HQ1b HQ2 HA8 HC8 HA7 HC7 HA6 HC6
    refine wp_region_slotst_tail (by kernel_rfl) 15 [59, 60, 61, 62, 63, 64, 65, 66, 67, 68, 69, 70, 11, 12, 13] (fun tm w' => Below w9.heap.size w9 w' ∧ Two 11 12 tm w' ∧ Two 11 13 tm w' ∧ Two 12 13 tm w') (Said [Is (.agg #[.bool p1, .slice a1 n1 c1, .int .i64 E1]), Is (.agg #[.bool p2, .slice a2 n2 c2, .int .i64 E2]), IsQZ 1074 (fv z1 + fv z2) 100 6000, IsDQ 1074 (fv z1 + fv z2) 50 6000, Is (.agg #[.bool p1, .slice a1 n1 c1, .int .i64 E1]), Is (.agg #[.bool p2, .slice a2 n2 c2, .int .i64 E2]), IsQZ 1074 (fv z1 - fv z2) 100 6000, IsDQ 1074 (fv z1 - fv z2) 50 6000, Is (.agg #[.bool p1, .slice a1 n1 c1, .int .i64 E1]), Is (.agg #[.bool p2, .slice a2 n2 c2, .int .i64 E2]), IsQZ (1074 + 1074) (fv z1 * fv z2) (2 + 2) (2200 + 2200 + 32 * (2 + 2)), IsDQ (1074 + 1074) (fv z1 * fv z2) 2 (2200 + 2200 + 32 * (2 + 2)), IsNewE w9.heap.size, IsNewE w9.heap.size, IsNewE w9.heap.size]) (by kernel_rfl) (by kernel_rfl) (by kernel_rfl) (by kernel_rfl) (by kernel_rfl) (Said.keep ?keep) ⟨bdn (Below.refl _ _) 1, Two.start (by rfl) (by rfl), Two.start (by rfl) (by rfl), Two.start (by rfl) (by rfl)⟩ (l := [0, 1, 2, 3, 4, 5, 6, 7, 8, 9, 10, 11, 12, 13, 14]) (by kernel_rfl) ?step ?fin
    case keep =>
      refine List.forall_mem_cons.2 ⟨Is.keeps _, ?_⟩
      refine List.forall_mem_cons.2 ⟨Is.keeps _, ?_⟩
      refine List.forall_mem_cons.2 ⟨IsQZ.keeps _ _ _ _, ?_⟩
      refine List.forall_mem_cons.2 ⟨IsDQ.keeps _ _ _ _, ?_⟩
      refine List.forall_mem_cons.2 ⟨Is.keeps _, ?_⟩
      refine List.forall_mem_cons.2 ⟨Is.keeps _, ?_⟩
      refine List.forall_mem_cons.2 ⟨IsQZ.keeps _ _ _ _, ?_⟩
      refine List.forall_mem_cons.2 ⟨IsDQ.keeps _ _ _ _, ?_⟩
      refine List.forall_mem_cons.2 ⟨Is.keeps _, ?_⟩
      refine List.forall_mem_cons.2 ⟨Is.keeps _, ?_⟩
      refine List.forall_mem_cons.2 ⟨IsQZ.keeps _ _ _ _, ?_⟩
      refine List.forall_mem_cons.2 ⟨IsDQ.keeps _ _ _ _, ?_⟩
      refine List.forall_mem_cons.2 ⟨IsNewE.keeps _, ?_⟩
      refine List.forall_mem_cons.2 ⟨IsNewE.keeps _, ?_⟩
      refine List.forall_mem_cons.2 ⟨IsNewE.keeps _, ?_⟩
      exact fun _ h => nomatch h
    case step =>
      refine List.forall_mem_cons.2 ⟨?_, ?_⟩
      · refine SlotStepT.plain rfl rfl rfl ?_
        intro tm ws hsame hS hg K hK
        have e9 : tm[9]? = some (.pointer (some ⟨w8.heap.size, 0, none⟩)) := hsame.2 9 rfl
        obtain ⟨⟨k0, k1, k2⟩, -⟩ := slot3 (slot_kept HP9.out hS.1)
        go_simp
        exact hK _ _ (Below.refl _ _) ⟨hS.1.trans (Below.mono (Below.refl ws.heap.size ws) hS.1.size), hS.2.1.other (Below.size (Below.refl ws.heap.size ws)) (by decide) (by decide), hS.2.2.1.other (Below.size (Below.refl ws.heap.size ws)) (by decide) (by decide), hS.2.2.2.other (Below.size (Below.refl ws.heap.size ws)) (by decide) (by decide)⟩ rfl
      refine List.forall_mem_cons.2 ⟨?_, ?_⟩
      · refine SlotStepT.plain rfl rfl rfl ?_
        intro tm ws hsame hS hg K hK
        have e10 : tm[10]? = some (.pointer (some ⟨w8.heap.size + 1, 0, none⟩)) := hsame.2 10 rfl
        obtain ⟨⟨k0, k1, k2⟩, -⟩ := slot3 (slot_kept HQ9.out hS.1)
        go_simp
        exact hK _ _ (Below.refl _ _) ⟨hS.1.trans (Below.mono (Below.refl ws.heap.size ws) hS.1.size), hS.2.1.other (Below.size (Below.refl ws.heap.size ws)) (by decide) (by decide), hS.2.2.1.other (Below.size (Below.refl ws.heap.size ws)) (by decide) (by decide), hS.2.2.2.other (Below.size (Below.refl ws.heap.size ws)) (by decide) (by decide)⟩ rfl
      refine List.forall_mem_cons.2 ⟨?_, ?_⟩
      · refine SlotStepT.plain rfl rfl rfl ?_
        intro tm ws hsame hS hg K hK
        obtain ⟨v59, e59, rfl⟩ := hg 0 (by kernel_rfl) _ 59 rfl rfl
        obtain ⟨v60, e60, rfl⟩ := hg 1 (by kernel_rfl) _ 60 rfl rfl
        go_simp
        refine (qadd_num 100 6000 (HX9.out.below hS.1) (HY9.out.below hS.1) (by decide) (by decide) (by decide) (by decide) (by decide) (by decide) (by decide) (by decide)).mono ?_
        rintro e wm ⟨pR, aR, nR, cR, ER, rfl, hR, hb⟩
        exact hK _ _ hb ⟨hS.1.trans (Below.mono (hb) hS.1.size), hS.2.1.other (Below.size (hb)) (by decide) (by decide), hS.2.2.1.other (Below.size (hb)) (by decide) (by decide), hS.2.2.2.other (Below.size (hb)) (by decide) (by decide)⟩ ⟨pR, aR, nR, cR, ER, rfl, hR⟩
      refine List.forall_mem_cons.2 ⟨?_, ?_⟩
      · refine SlotStepT.plain rfl rfl rfl ?_
        intro tm ws hsame hS hg K hK
        obtain ⟨v61, e61, ⟨p61, a61, n61, c61, E61, rfl, g61⟩⟩ := hg 2 (by kernel_rfl) _ 61 rfl rfl
        go_simp
        refine (real_num (k := 50) g61 (by decide) (by decide)).mono ?_
        rintro e wm ⟨pR, aR, nR, cR, ER, rfl, hR, hb⟩
        exact hK _ _ hb ⟨hS.1.trans (Below.mono (hb) hS.1.size), hS.2.1.other (Below.size (hb)) (by decide) (by decide), hS.2.2.1.other (Below.size (hb)) (by decide) (by decide), hS.2.2.2.other (Below.size (hb)) (by decide) (by decide)⟩ ⟨pR, aR, nR, cR, ER, rfl, hR⟩
      refine List.forall_mem_cons.2 ⟨?_, ?_⟩
      · refine SlotStepT.plain rfl rfl rfl ?_
        intro tm ws hsame hS hg K hK
        have e9 : tm[9]? = some (.pointer (some ⟨w8.heap.size, 0, none⟩)) := hsame.2 9 rfl
        obtain ⟨⟨k0, k1, k2⟩, -⟩ := slot3 (slot_kept HP9.out hS.1)
        go_simp
        exact hK _ _ (Below.refl _ _) ⟨hS.1.trans (Below.mono (Below.refl ws.heap.size ws) hS.1.size), hS.2.1.other (Below.size (Below.refl ws.heap.size ws)) (by decide) (by decide), hS.2.2.1.other (Below.size (Below.refl ws.heap.size ws)) (by decide) (by decide), hS.2.2.2.other (Below.size (Below.refl ws.heap.size ws)) (by decide) (by decide)⟩ rfl
      refine List.forall_mem_cons.2 ⟨?_, ?_⟩
      · refine SlotStepT.plain rfl rfl rfl ?_
        intro tm ws hsame hS hg K hK
        have e10 : tm[10]? = some (.pointer (some ⟨w8.heap.size + 1, 0, none⟩)) := hsame.2 10 rfl
        obtain ⟨⟨k0, k1, k2⟩, -⟩ := slot3 (slot_kept HQ9.out hS.1)
        go_simp
        exact hK _ _ (Below.refl _ _) ⟨hS.1.trans (Below.mono (Below.refl ws.heap.size ws) hS.1.size), hS.2.1.other (Below.size (Below.refl ws.heap.size ws)) (by decide) (by decide), hS.2.2.1.other (Below.size (Below.refl ws.heap.size ws)) (by decide) (by decide), hS.2.2.2.other (Below.size (Below.refl ws.heap.size ws)) (by decide) (by decide)⟩ rfl
      refine List.forall_mem_cons.2 ⟨?_, ?_⟩
      · refine SlotStepT.plain rfl rfl rfl ?_
        intro tm ws hsame hS hg K hK
        obtain ⟨v63, e63, rfl⟩ := hg 4 (by kernel_rfl) _ 63 rfl rfl
        obtain ⟨v64, e64, rfl⟩ := hg 5 (by kernel_rfl) _ 64 rfl rfl
        go_simp
        refine (qsub_num 100 6000 (HX9.out.below hS.1) (HY9.out.below hS.1) (by decide) (by decide) (by decide) (by decide) (by decide) (by decide) (by decide) (by decide) (by decide)).mono ?_
        rintro e wm ⟨pR, aR, nR, cR, ER, rfl, hR, hb⟩
        exact hK _ _ hb ⟨hS.1.trans (Below.mono (hb) hS.1.size), hS.2.1.other (Below.size (hb)) (by decide) (by decide), hS.2.2.1.other (Below.size (hb)) (by decide) (by decide), hS.2.2.2.other (Below.size (hb)) (by decide) (by decide)⟩ ⟨pR, aR, nR, cR, ER, rfl, hR⟩
      refine List.forall_mem_cons.2 ⟨?_, ?_⟩
      · refine SlotStepT.plain rfl rfl rfl ?_
        intro tm ws hsame hS hg K hK
        obtain ⟨v65, e65, ⟨p65, a65, n65, c65, E65, rfl, g65⟩⟩ := hg 6 (by kernel_rfl) _ 65 rfl rfl
        go_simp
        refine (real_num (k := 50) g65 (by decide) (by decide)).mono ?_
        rintro e wm ⟨pR, aR, nR, cR, ER, rfl, hR, hb⟩
        exact hK _ _ hb ⟨hS.1.trans (Below.mono (hb) hS.1.size), hS.2.1.other (Below.size (hb)) (by decide) (by decide), hS.2.2.1.other (Below.size (hb)) (by decide) (by decide), hS.2.2.2.other (Below.size (hb)) (by decide) (by decide)⟩ ⟨pR, aR, nR, cR, ER, rfl, hR⟩
      refine List.forall_mem_cons.2 ⟨?_, ?_⟩
      · refine SlotStepT.plain rfl rfl rfl ?_
        intro tm ws hsame hS hg K hK
        have e9 : tm[9]? = some (.pointer (some ⟨w8.heap.size, 0, none⟩)) := hsame.2 9 rfl
        obtain ⟨⟨k0, k1, k2⟩, -⟩ := slot3 (slot_kept HP9.out hS.1)
        go_simp
        exact hK _ _ (Below.refl _ _) ⟨hS.1.trans (Below.mono (Below.refl ws.heap.size ws) hS.1.size), hS.2.1.other (Below.size (Below.refl ws.heap.size ws)) (by decide) (by decide), hS.2.2.1.other (Below.size (Below.refl ws.heap.size ws)) (by decide) (by decide), hS.2.2.2.other (Below.size (Below.refl ws.heap.size ws)) (by decide) (by decide)⟩ rfl
      refine List.forall_mem_cons.2 ⟨?_, ?_⟩
      · refine SlotStepT.plain rfl rfl rfl ?_
        intro tm ws hsame hS hg K hK
        have e10 : tm[10]? = some (.pointer (some ⟨w8.heap.size + 1, 0, none⟩)) := hsame.2 10 rfl
        obtain ⟨⟨k0, k1, k2⟩, -⟩ := slot3 (slot_kept HQ9.out hS.1)
        go_simp
        exact hK _ _ (Below.refl _ _) ⟨hS.1.trans (Below.mono (Below.refl ws.heap.size ws) hS.1.size), hS.2.1.other (Below.size (Below.refl ws.heap.size ws)) (by decide) (by decide), hS.2.2.1.other (Below.size (Below.refl ws.heap.size ws)) (by decide) (by decide), hS.2.2.2.other (Below.size (Below.refl ws.heap.size ws)) (by decide) (by decide)⟩ rfl
      refine List.forall_mem_cons.2 ⟨?_, ?_⟩
      · refine SlotStepT.plain rfl rfl rfl ?_
        intro tm ws hsame hS hg K hK
        obtain ⟨v67, e67, rfl⟩ := hg 8 (by kernel_rfl) _ 67 rfl rfl
        obtain ⟨v68, e68, rfl⟩ := hg 9 (by kernel_rfl) _ 68 rfl rfl
        go_simp
        refine (qmul_num (HX9.out.below hS.1) (HY9.out.below hS.1) (by decide) (by decide) (by decide) (by decide) (by decide) (by decide)).mono ?_
        rintro e wm ⟨pR, aR, nR, cR, ER, rfl, hR, hb⟩
        exact hK _ _ hb ⟨hS.1.trans (Below.mono (hb) hS.1.size), hS.2.1.other (Below.size (hb)) (by decide) (by decide), hS.2.2.1.other (Below.size (hb)) (by decide) (by decide), hS.2.2.2.other (Below.size (hb)) (by decide) (by decide)⟩ ⟨pR, aR, nR, cR, ER, rfl, hR⟩
      refine List.forall_mem_cons.2 ⟨?_, ?_⟩
      · refine SlotStepT.plain rfl rfl rfl ?_
        intro tm ws hsame hS hg K hK
        obtain ⟨v69, e69, ⟨p69, a69, n69, c69, E69, rfl, g69⟩⟩ := hg 10 (by kernel_rfl) _ 69 rfl rfl
        go_simp
        refine (real_num (k := 2) g69 (by decide) (by decide)).mono ?_
        rintro e wm ⟨pR, aR, nR, cR, ER, rfl, hR, hb⟩
        exact hK _ _ hb ⟨hS.1.trans (Below.mono (hb) hS.1.size), hS.2.1.other (Below.size (hb)) (by decide) (by decide), hS.2.2.1.other (Below.size (hb)) (by decide) (by decide), hS.2.2.2.other (Below.size (hb)) (by decide) (by decide)⟩ ⟨pR, aR, nR, cR, ER, rfl, hR⟩
      refine List.forall_mem_cons.2 ⟨?_, ?_⟩
      · refine SlotStepT.plain rfl rfl rfl ?_
        intro tm ws hsame hS hg K hK
        go_simp
        exact hK _ _ (below_alloc _ _) ⟨hS.1.trans (Below.mono (below_alloc ws _) hS.1.size), hS.2.1.first (by decide), hS.2.2.1.first (by decide), hS.2.2.2.other (Below.size (below_alloc ws _)) (by decide) (by decide)⟩ ⟨_, rfl, heap_alloc_new _ _, hS.1.size⟩
      refine List.forall_mem_cons.2 ⟨?_, ?_⟩
      · refine SlotStepT.plain rfl rfl rfl ?_
        intro tm ws hsame hS hg K hK
        go_simp
        exact hK _ _ (below_alloc _ _) ⟨hS.1.trans (Below.mono (below_alloc ws _) hS.1.size), hS.2.1.second (by decide), hS.2.2.1.other (Below.size (below_alloc ws _)) (by decide) (by decide), hS.2.2.2.first (by decide)⟩ ⟨_, rfl, heap_alloc_new _ _, hS.1.size⟩
      refine List.forall_mem_cons.2 ⟨?_, ?_⟩
      · refine SlotStepT.plain rfl rfl rfl ?_
        intro tm ws hsame hS hg K hK
        go_simp
        exact hK _ _ (below_alloc _ _) ⟨hS.1.trans (Below.mono (below_alloc ws _) hS.1.size), hS.2.1.other (Below.size (below_alloc ws _)) (by decide) (by decide), hS.2.2.1.second (by decide), hS.2.2.2.second (by decide)⟩ ⟨_, rfl, heap_alloc_new _ _, hS.1.size⟩
      exact fun _ h => nomatch h
    case fin =>
      intro tm wr hsame hS hgot
      obtain ⟨u7, hu, htm⟩ := hsame.form (by kernel_rfl)
      obtain ⟨v62, e62, ps, az, ns, cs, Es, rfl, hs⟩ := hgot 3 (by decide) _ 62 rfl rfl
      obtain ⟨v66, e66, pl, al, nl, cl, El, rfl, hl⟩ := hgot 7 (by decide) _ 66 rfl rfl
      obtain ⟨v70, e70, pm, am, nm, cm, Em, rfl, hm⟩ := hgot 11 (by decide) _ 70 rfl rfl
      obtain ⟨v11, e11, gs, rfl, hcs, hgs⟩ := hgot 12 (by decide) _ 11 rfl rfl
      obtain ⟨v12, e12, gl, rfl, hcl, hgl⟩ := hgot 13 (by decide) _ 12 rfl rfl
      obtain ⟨v13, e13, gm, rfl, hcm, hgm⟩ := hgot 14 (by decide) _ 13 rfl rfl
      have h62 := hu _ _ e62
      have h66 := hu _ _ e66
      have h70 := hu _ _ e70
      have h11 := hu _ _ e11
      have h12 := hu _ _ e12
      have h13 := hu _ _ e13
      have hsl : gs ≠ gl := fun e => hS.2.1.2.2 gs e11 (e ▸ e12)
      have hsm : gs ≠ gm := fun e => hS.2.2.1.2.2 gs e11 (e ▸ e13)
      have hlm : gl ≠ gm := fun e => hS.2.2.2.2.2 gl e12 (e ▸ e13)
      have hb8 := hS.1
      obtain ⟨⟨x0, x1, x2⟩, f0, f1, f2⟩ := slot3 hcs
      have hcl' : (((wr.setCell ⟨gs, 0, none⟩ (.bool ps)).setCell ⟨gs, 1, none⟩ (.slice az ns cs)).setCell ⟨gs, 2, none⟩ (.int .i64 Es)).heap[gl]? = some (.cells #[.bool false, .slice none 0 0, .int .i64 0] 37 (0, 0)) := slot_apart hcl (Ne.symm hsl)
      have hcm' : (((wr.setCell ⟨gs, 0, none⟩ (.bool ps)).setCell ⟨gs, 1, none⟩ (.slice az ns cs)).setCell ⟨gs, 2, none⟩ (.int .i64 Es)).heap[gm]? = some (.cells #[.bool false, .slice none 0 0, .int .i64 0] 37 (0, 0)) := slot_apart hcm (Ne.symm hsm)
      obtain ⟨⟨y0, y1, y2⟩, j0, j1, j2⟩ := slot3 hcl'
      have hcm2 : ((((((wr.setCell ⟨gs, 0, none⟩ (.bool ps)).setCell ⟨gs, 1, none⟩ (.slice az ns cs)).setCell ⟨gs, 2, none⟩ (.int .i64 Es)).setCell ⟨gl, 0, none⟩ (.bool pl)).setCell ⟨gl, 1, none⟩ (.slice al nl cl)).setCell ⟨gl, 2, none⟩ (.int .i64 El)).heap[gm]? = some (.cells #[.bool false, .slice none 0 0, .int .i64 0] 37 (0, 0)) := slot_apart hcm' (Ne.symm hlm)
      obtain ⟨⟨u0, u1, u2⟩, i0, i1, i2⟩ := slot3 hcm2
      have hon1 := slot3_only (w := wr) (g := gs) (.bool ps) (.slice az ns cs) (.int .i64 Es)
      have hon2 := slot3_only (w := (((wr.setCell ⟨gs, 0, none⟩ (.bool ps)).setCell ⟨gs, 1, none⟩ (.slice az ns cs)).setCell ⟨gs, 2, none⟩ (.int .i64 Es))) (g := gl) (.bool pl) (.slice al nl cl) (.int .i64 El)
      have hon3 := slot3_only (w := ((((((wr.setCell ⟨gs, 0, none⟩ (.bool ps)).setCell ⟨gs, 1, none⟩ (.slice az ns cs)).setCell ⟨gs, 2, none⟩ (.int .i64 Es)).setCell ⟨gl, 0, none⟩ (.bool pl)).setCell ⟨gl, 1, none⟩ (.slice al nl cl)).setCell ⟨gl, 2, none⟩ (.int .i64 El))) (g := gm) (.bool pm) (.slice am nm cm) (.int .i64 Em)
      have hb9 := ((hb8.trans (hon1.below hgs hb8.size)).trans (hon2.below hgl (Nat.le_trans hb8.size hon1.size))).trans (hon3.below hgm (Nat.le_trans (Nat.le_trans hb8.size hon1.size) hon2.size))
      have HS10 := Lib.hid (((hs.var hcs hon1).var hcl' hon2).var hcm2 hon3)
      have HL10 := Lib.hid (((hl.var hcs hon1).var hcl' hon2).var hcm2 hon3)
      have HM10 := Lib.hid (((hm.var hcs hon1).var hcl' hon2).var hcm2 hon3)
      have HCS := Lib.hid (slot_apart (u := .bool pm) (v := .slice am nm cm) (s := .int .i64 Em) (slot_apart (u := .bool pl) (v := .slice al nl cl) (s := .int .i64 El) (slot3_set (u := .bool ps) (v := .slice az ns cs) (s := .int .i64 Es) hcs) hsl) hsm)
      have HCL := Lib.hid (slot_apart (u := .bool pm) (v := .slice am nm cm) (s := .int .i64 Em) (slot3_set (u := .bool pl) (v := .slice al nl cl) (s := .int .i64 El) hcl') hlm)
      have HCM := Lib.hid (slot3_set (u := .bool pm) (v := .slice am nm cm) (s := .int .i64 Em) hcm2)
      have HB10 := Lib.hid hb9
      obtain ⟨w10, hw10⟩ : ∃ w10, w10 = (((((((((wr.setCell ⟨gs, 0, none⟩ (.bool ps)).setCell ⟨gs, 1, none⟩ (.slice az ns cs)).setCell ⟨gs, 2, none⟩ (.int .i64 Es)).setCell ⟨gl, 0, none⟩ (.bool pl)).setCell ⟨gl, 1, none⟩ (.slice al nl cl)).setCell ⟨gl, 2, none⟩ (.int .i64 El)).setCell ⟨gm, 0, none⟩ (.bool pm)).setCell ⟨gm, 1, none⟩ (.slice am nm cm)).setCell ⟨gm, 2, none⟩ (.int .i64 Em)) := ⟨_, rfl⟩
      have HW10 := Lib.hid hw10
      rw [← hw10] at HS10 HL10 HM10 HCS HCL HCM HB10
      clear hw10 hgot hu hsame e62 e66 e70 e11 e12 e13 hS hb8 hb9 hcs hcl hcm hcl' hcm' hcm2 hon1 hon2 hon3 hs hl hm hsl hsm hlm hgs hgl hgm
      rw [htm]
      clear htm tm
      simp only [List.foldl_cons, List.foldl_nil, List.setIfInBounds_toArray, List.set_cons_zero, List.set_cons_succ, h62, h66, h70, h11, h12, h13, List.drop_succ_cons, List.drop_zero]
      clear h62 h66 h70 h11 h12 h13
      go_upto_region 8 with fail
      rw [← HW10.out]
      have HBW10 := Lib.hid (HBW9.out.trans (HB10.out.mono HBW9.out.size))
      have HA10 := Lib.hid (slot_kept HA9.out (show Below w9.heap.size w9 w10 from HB10.out))
      have HC10 := Lib.hid (slot_kept HC9.out HB10.out)
      have HP10 := Lib.hid (slot_kept HP9.out HB10.out)
      have HQ10 := Lib.hid (slot_kept HQ9.out HB10.out)
      have HX10 := Lib.hid (HX9.out.below HB10.out)
      have HY10 := Lib.hid (HY9.out.below HB10.out)
      clear HW10 HA9 HC9 HP9 HQ9 HX9 HY9 HB10 HBW9
      refine wp_region_slots (by kernel_rfl) [71, 72, 73, 74, 75, 76, 77, 78, 79, 80, 81, 82, 83, 84, 85, 86, 87, 88, 89, 90, 91, 92] (fun w' => (Below w10.heap.size w10 w')) (Said [Is (G a b), Is (G c d), IsG (SumG a b c d), Is (.agg #[.bool ps, .slice az ns cs, .int .i64 Es]), Is (.bool true), Is (.bool false), Is (.bool false), Is (G a b), Is (G c d), IsG (LessG a b c d), Is (.agg #[.bool pl, .slice al nl cl, .int .i64 El]), Is (.bool true), Is (.bool false), Is (.bool false), Is (.bool false), Is (G a b), Is (G c d), IsG (MulG a b c d), Is (.agg #[.bool pm, .slice am nm cm, .int .i64 Em]), Is (.bool true), Is (.bool false), Is (.bool false)]) (by kernel_rfl) (by kernel_rfl) (by kernel_rfl) (by kernel_rfl) (Said.keep ?keep) ((bdn (Below.refl _ _) 1)) (l := [0, 1, 2, 3, 4, 5, 6, 7, 8, 9, 10, 11, 12, 13, 14, 15, 16, 17, 18, 19, 20, 21]) (by kernel_rfl) ?step ?fin
      case keep =>
        refine List.forall_mem_cons.2 ⟨Is.keeps _, ?_⟩
        refine List.forall_mem_cons.2 ⟨Is.keeps _, ?_⟩
        refine List.forall_mem_cons.2 ⟨IsG.keeps _, ?_⟩
        refine List.forall_mem_cons.2 ⟨Is.keeps _, ?_⟩
        refine List.forall_mem_cons.2 ⟨Is.keeps _, ?_⟩
        refine List.forall_mem_cons.2 ⟨Is.keeps _, ?_⟩
        refine List.forall_mem_cons.2 ⟨Is.keeps _, ?_⟩
        refine List.forall_mem_cons.2 ⟨Is.keeps _, ?_⟩
        refine List.forall_mem_cons.2 ⟨Is.keeps _, ?_⟩
        refine List.forall_mem_cons.2 ⟨IsG.keeps _, ?_⟩
        refine List.forall_mem_cons.2 ⟨Is.keeps _, ?_⟩
        refine List.forall_mem_cons.2 ⟨Is.keeps _, ?_⟩
        refine List.forall_mem_cons.2 ⟨Is.keeps _, ?_⟩
        refine List.forall_mem_cons.2 ⟨Is.keeps _, ?_⟩
        refine List.forall_mem_cons.2 ⟨Is.keeps _, ?_⟩
        refine List.forall_mem_cons.2 ⟨Is.keeps _, ?_⟩
        refine List.forall_mem_cons.2 ⟨Is.keeps _, ?_⟩
        refine List.forall_mem_cons.2 ⟨IsG.keeps _, ?_⟩
        refine List.forall_mem_cons.2 ⟨Is.keeps _, ?_⟩
        refine List.forall_mem_cons.2 ⟨Is.keeps _, ?_⟩
        refine List.forall_mem_cons.2 ⟨Is.keeps _, ?_⟩
        refine List.forall_mem_cons.2 ⟨Is.keeps _, ?_⟩
        exact fun _ h => nomatch h
      case step =>
        refine List.forall_mem_cons.2 ⟨?_, ?_⟩
        · refine SlotStep.plain rfl rfl rfl ?_
          intro tm ws hsame hS hg K hK
          have e4 : tm[4]? = some (.pointer (some ⟨w.heap.size, 0, none⟩)) := hsame.2 4 rfl
          obtain ⟨k0, k1, -, -⟩ := slot2 (slot_kept HA10.out hS)
          go_simp
          exact hK _ _ (Below.refl _ _) hS rfl
        refine List.forall_mem_cons.2 ⟨?_, ?_⟩
        · refine SlotStep.plain rfl rfl rfl ?_
          intro tm ws hsame hS hg K hK
          have e5 : tm[5]? = some (.pointer (some ⟨w.heap.size + 1, 0, none⟩)) := hsame.2 5 rfl
          obtain ⟨k0, k1, -, -⟩ := slot2 (slot_kept HC10.out hS)
          go_simp
          exact hK _ _ (Below.refl _ _) hS rfl
        refine List.forall_mem_cons.2 ⟨?_, ?_⟩
        · refine SlotStep.plain rfl rfl rfl ?_
          intro tm ws hsame hS hg K hK
          obtain ⟨v71, e71, rfl⟩ := hg 0 (by kernel_rfl) _ 71 rfl rfl
          obtain ⟨v72, e72, rfl⟩ := hg 1 (by kernel_rfl) _ 72 rfl rfl
          go_simp
          refine (HG.add ws a b c d ha64 hb64 hc64 hd64 HAB.out HCD.out (HT.out.below (HBW10.out.trans (Below.mono hS HBW10.out.size)))).mono ?_
          rintro e wm ⟨lr, hr, rfl, q1, q2, q3, hb⟩
          exact hK _ _ hb ((hS.trans (Below.mono (hb) hS.size))) ⟨lr, hr, rfl, q1, q2, q3⟩
        refine List.forall_mem_cons.2 ⟨?_, ?_⟩
        · refine SlotStep.plain rfl rfl rfl ?_
          intro tm ws hsame hS hg K hK
          have e11 : tm[11]? = some (.pointer (some ⟨gs, 0, none⟩)) := hsame.2 11 rfl
          obtain ⟨⟨k0, k1, k2⟩, -⟩ := slot3 (slot_kept HCS.out hS)
          go_simp
          exact hK _ _ (Below.refl _ _) hS rfl
        refine List.forall_mem_cons.2 ⟨?_, ?_⟩
        · refine SlotStep.plain rfl rfl rfl ?_
          intro tm ws hsame hS hg K hK
          obtain ⟨v73, e73, ⟨l73, h73, rfl, j73, k73, g73⟩⟩ := hg 2 (by kernel_rfl) _ 73 rfl rfl
          obtain ⟨v74, e74, rfl⟩ := hg 3 (by kernel_rfl) _ 74 rfl rfl
          go_simp
          refine (HG.has ws l73 h73 0 _ (fv z1 + fv z2) 50 (6000) j73 k73 (HS10.out.below hS) (by decide) (by decide) (by decide) (fun hk => by have h := g73 hk _ _ HX.out HY.out; rw [Int.pow_zero, Int.mul_one, Int.mul_one]; exact h) (HT.out.below (HBW10.out.trans (Below.mono hS HBW10.out.size)))).mono ?_
          rintro e wm ⟨rfl, hb⟩
          exact hK _ _ hb ((hS.trans (Below.mono (hb) hS.size))) rfl
        refine List.forall_mem_cons.2 ⟨?_, ?_⟩
        · refine SlotStep.plain rfl rfl rfl ?_
          intro tm ws hsame hS hg K hK
          obtain ⟨v75, e75, rfl⟩ := hg 4 (by kernel_rfl) _ 75 rfl rfl
          go_simp
          exact hK _ _ (Below.refl _ _) hS rfl
        refine List.forall_mem_cons.2 ⟨?_, ?_⟩
        · refine SlotStep.plain rfl rfl rfl ?_
          intro tm ws hsame hS hg K hK
          obtain ⟨v76, e76, rfl⟩ := hg 5 (by kernel_rfl) _ 76 rfl rfl
          go_simp
          exact hK _ _ (Below.refl _ _) hS rfl
        refine List.forall_mem_cons.2 ⟨?_, ?_⟩
        · refine SlotStep.guardedNot rfl rfl 6 rfl rfl (by kernel_rfl) (fun _ _ h => h) ?_
          intro tm ws hsame hS hg K hK
          have e4 : tm[4]? = some (.pointer (some ⟨w.heap.size, 0, none⟩)) := hsame.2 4 rfl
          obtain ⟨k0, k1, -, -⟩ := slot2 (slot_kept HA10.out hS)
          go_simp
          exact hK _ _ (Below.refl _ _) hS rfl
        refine List.forall_mem_cons.2 ⟨?_, ?_⟩
        · refine SlotStep.guardedNot rfl rfl 6 rfl rfl (by kernel_rfl) (fun _ _ h => h) ?_
          intro tm ws hsame hS hg K hK
          have e5 : tm[5]? = some (.pointer (some ⟨w.heap.size + 1, 0, none⟩)) := hsame.2 5 rfl
          obtain ⟨k0, k1, -, -⟩ := slot2 (slot_kept HC10.out hS)
          go_simp
          exact hK _ _ (Below.refl _ _) hS rfl
        refine List.forall_mem_cons.2 ⟨?_, ?_⟩
        · refine SlotStep.guardedNot rfl rfl 6 rfl rfl (by kernel_rfl) (fun _ _ h => h) ?_
          intro tm ws hsame hS hg K hK
          obtain ⟨v78, e78, rfl⟩ := hg 7 (by kernel_rfl) _ 78 rfl rfl
          obtain ⟨v79, e79, rfl⟩ := hg 8 (by kernel_rfl) _ 79 rfl rfl
          go_simp
          refine (HG.sub ws a b c d ha64 hb64 hc64 hd64 HAB.out HCD.out (HT.out.below (HBW10.out.trans (Below.mono hS HBW10.out.size)))).mono ?_
          rintro e wm ⟨lr, hr, rfl, q1, q2, q3, hb⟩
          exact hK _ _ hb ((hS.trans (Below.mono (hb) hS.size))) ⟨lr, hr, rfl, q1, q2, q3⟩
        refine List.forall_mem_cons.2 ⟨?_, ?_⟩
        · refine SlotStep.guardedNot rfl rfl 6 rfl rfl (by kernel_rfl) (fun _ _ h => h) ?_
          intro tm ws hsame hS hg K hK
          have e12 : tm[12]? = some (.pointer (some ⟨gl, 0, none⟩)) := hsame.2 12 rfl
          obtain ⟨⟨k0, k1, k2⟩, -⟩ := slot3 (slot_kept HCL.out hS)
          go_simp
          exact hK _ _ (Below.refl _ _) hS rfl
        refine List.forall_mem_cons.2 ⟨?_, ?_⟩
        · refine SlotStep.guardedNot rfl rfl 6 rfl rfl (by kernel_rfl) (fun _ _ h => h) ?_
          intro tm ws hsame hS hg K hK
          obtain ⟨v80, e80, ⟨l80, h80, rfl, j80, k80, g80⟩⟩ := hg 9 (by kernel_rfl) _ 80 rfl rfl
          obtain ⟨v81, e81, rfl⟩ := hg 10 (by kernel_rfl) _ 81 rfl rfl
          go_simp
          refine (HG.has ws l80 h80 0 _ (fv z1 - fv z2) 50 (6000) j80 k80 (HL10.out.below hS) (by decide) (by decide) (by decide) (fun hk => by have h := g80 hk _ _ HX.out HY.out; rw [Int.pow_zero, Int.mul_one, Int.mul_one]; exact h) (HT.out.below (HBW10.out.trans (Below.mono hS HBW10.out.size)))).mono ?_
          rintro e wm ⟨rfl, hb⟩
          exact hK _ _ hb ((hS.trans (Below.mono (hb) hS.size))) rfl
        refine List.forall_mem_cons.2 ⟨?_, ?_⟩
        · refine SlotStep.guardedNot rfl rfl 6 rfl rfl (by kernel_rfl) (fun _ _ h => h) ?_
          intro tm ws hsame hS hg K hK
          obtain ⟨v82, e82, rfl⟩ := hg 11 (by kernel_rfl) _ 82 rfl rfl
          go_simp
          exact hK _ _ (Below.refl _ _) hS rfl
        refine List.forall_mem_cons.2 ⟨?_, ?_⟩
        · refine SlotStep.plain rfl rfl rfl ?_
          intro tm ws hsame hS hg K hK
          obtain ⟨v77, e77, rfl⟩ := hg 6 (by kernel_rfl) _ 77 rfl rfl
          obtain ⟨v83, e83, rfl⟩ := hg 12 (by kernel_rfl) _ 83 rfl rfl
          go_simp
          exact hK _ _ (Below.refl _ _) hS rfl
        refine List.forall_mem_cons.2 ⟨?_, ?_⟩
        · refine SlotStep.plain rfl rfl rfl ?_
          intro tm ws hsame hS hg K hK
          obtain ⟨v84, e84, rfl⟩ := hg 13 (by kernel_rfl) _ 84 rfl rfl
          go_simp
          exact hK _ _ (Below.refl _ _) hS rfl
        refine List.forall_mem_cons.2 ⟨?_, ?_⟩
        · refine SlotStep.guardedNot rfl rfl 14 rfl rfl (by kernel_rfl) (fun _ _ h => h) ?_
          intro tm ws hsame hS hg K hK
          have e4 : tm[4]? = some (.pointer (some ⟨w.heap.size, 0, none⟩)) := hsame.2 4 rfl
          obtain ⟨k0, k1, -, -⟩ := slot2 (slot_kept HA10.out hS)
          go_simp
          exact hK _ _ (Below.refl _ _) hS rfl
        refine List.forall_mem_cons.2 ⟨?_, ?_⟩
        · refine SlotStep.guardedNot rfl rfl 14 rfl rfl (by kernel_rfl) (fun _ _ h => h) ?_
          intro tm ws hsame hS hg K hK
          have e5 : tm[5]? = some (.pointer (some ⟨w.heap.size + 1, 0, none⟩)) := hsame.2 5 rfl
          obtain ⟨k0, k1, -, -⟩ := slot2 (slot_kept HC10.out hS)
          go_simp
          exact hK _ _ (Below.refl _ _) hS rfl
        refine List.forall_mem_cons.2 ⟨?_, ?_⟩
        · refine SlotStep.guardedNot rfl rfl 14 rfl rfl (by kernel_rfl) (fun _ _ h => h) ?_
          intro tm ws hsame hS hg K hK
          obtain ⟨v86, e86, rfl⟩ := hg 15 (by kernel_rfl) _ 86 rfl rfl
          obtain ⟨v87, e87, rfl⟩ := hg 16 (by kernel_rfl) _ 87 rfl rfl
          go_simp
          refine (HG.mul ws a b c d ha64 hb64 hc64 hd64 HAB.out HCD.out (HT.out.below (HBW10.out.trans (Below.mono hS HBW10.out.size)))).mono ?_
          rintro e wm ⟨lr, hr, rfl, q1, q2, q3, hb⟩
          exact hK _ _ hb ((hS.trans (Below.mono (hb) hS.size))) ⟨lr, hr, rfl, q1, q2, q3⟩
        refine List.forall_mem_cons.2 ⟨?_, ?_⟩
        · refine SlotStep.guardedNot rfl rfl 14 rfl rfl (by kernel_rfl) (fun _ _ h => h) ?_
          intro tm ws hsame hS hg K hK
          have e13 : tm[13]? = some (.pointer (some ⟨gm, 0, none⟩)) := hsame.2 13 rfl
          obtain ⟨⟨k0, k1, k2⟩, -⟩ := slot3 (slot_kept HCM.out hS)
          go_simp
          exact hK _ _ (Below.refl _ _) hS rfl
        refine List.forall_mem_cons.2 ⟨?_, ?_⟩
        · refine SlotStep.guardedNot rfl rfl 14 rfl rfl (by kernel_rfl) (fun _ _ h => h) ?_
          intro tm ws hsame hS hg K hK
          obtain ⟨v88, e88, ⟨l88, h88, rfl, j88, k88, g88⟩⟩ := hg 17 (by kernel_rfl) _ 88 rfl rfl
          obtain ⟨v89, e89, rfl⟩ := hg 18 (by kernel_rfl) _ 89 rfl rfl
          go_simp
          refine (HG.has ws l88 h88 1074 _ (fv z1 * fv z2) 2 (2200 + 2200 + 32 * (2 + 2)) j88 k88 (HM10.out.below hS) (by decide) (by decide) (by decide) (fun hk => g88 hk _ _ HX.out HY.out 1074 rfl) (HT.out.below (HBW10.out.trans (Below.mono hS HBW10.out.size)))).mono ?_
          rintro e wm ⟨rfl, hb⟩
          exact hK _ _ hb ((hS.trans (Below.mono (hb) hS.size))) rfl
        refine List.forall_mem_cons.2 ⟨?_, ?_⟩
        · refine SlotStep.guardedNot rfl rfl 14 rfl rfl (by kernel_rfl) (fun _ _ h => h) ?_
          intro tm ws hsame hS hg K hK
          obtain ⟨v90, e90, rfl⟩ := hg 19 (by kernel_rfl) _ 90 rfl rfl
          go_simp
          exact hK _ _ (Below.refl _ _) hS rfl
        refine List.forall_mem_cons.2 ⟨?_, ?_⟩
        · refine SlotStep.plain rfl rfl rfl ?_
          intro tm ws hsame hS hg K hK
          obtain ⟨v85, e85, rfl⟩ := hg 14 (by kernel_rfl) _ 85 rfl rfl
          obtain ⟨v91, e91, rfl⟩ := hg 20 (by kernel_rfl) _ 91 rfl rfl
          go_simp
          exact hK _ _ (Below.refl _ _) hS rfl
        exact fun _ h => nomatch h
      case fin =>
        intro tm w11 hsame hS hgot
        obtain ⟨u8, hu, htm⟩ := hsame.form (by kernel_rfl)
        obtain ⟨v92, e92, rfl⟩ := hgot 21 _ 92 rfl rfl
        have h92 := hu _ _ e92
        have HB11 := Lib.hid hS
        clear hgot hu hsame e92 hS
        rw [htm]
        clear htm tm
        simp only [List.foldl_cons, List.foldl_nil, List.setIfInBounds_toArray, List.set_cons_zero, List.set_cons_succ, h92]
        clear h92
        have HBW11 := Lib.hid (HBW10.out.trans (HB11.out.mono HBW10.out.size))
        have HA11 := Lib.hid (slot_kept HA10.out HB11.out)
        have hC11 := slot_kept HC10.out HB11.out
        have hA11 := HA11.out
        have HP11 := Lib.hid (slot_kept HP10.out HB11.out)
        have HQ11 := Lib.hid (slot_kept HQ10.out HB11.out)
        have HX11 := Lib.hid (HX10.out.below HB11.out)
        have HY11 := Lib.hid (HY10.out.below HB11.out)
        obtain ⟨a0, a1', -, -⟩ := slot2 hA11
        obtain ⟨c0, c1', -, -⟩ := slot2 hC11
        have HQU := Lib.hid (HG.quo w11 a b c d ha64 hb64 hc64 hd64 HAB.out HCD.out (HT.out.below HBW11.out))
        clear HA10 HC10 HP10 HQ10 HX10 HY10 HB11 HBW10 HCS HCL HCM HS10 HL10 HM10 hA11 hC11
        go_wp2_with fail
        refine HQU.out.mono ?_
        rintro e w12 ⟨dl, dh, rfl, hdl, hdh, hdk, hb12⟩
        go_upto_region 11 with fail
        obtain ⟨w13, hw13⟩ : ∃ w13, w12.alloc (.cells #[.float .f64 dl, .float .f64 dh] 24) = w13 := ⟨_, rfl⟩
        have hb1213 : Below w12.heap.size w12 w13 := hw13 ▸ below_alloc w12 _
        have hb1113 : Below w11.heap.size w11 w13 := hb12.trans (hb1213.mono hb12.size)
        have HD13 : Hid (w13.heap[w12.heap.size]? = some (.cells #[.float .f64 dl, .float .f64 dh] 24 (0, 0))) := Lib.hid (hw13 ▸ heap_alloc_new w12 _)
        have HBW13 := Lib.hid (HBW11.out.trans (hb1113.mono HBW11.out.size))
        have HA13 := Lib.hid (slot_kept HA11.out hb1113)
        have HP13 := Lib.hid (slot_kept HP11.out hb1113)
        have HQ13 := Lib.hid (slot_kept HQ11.out hb1113)
        have HX13 := Lib.hid (HX11.out.below hb1113)
        have HY13 := Lib.hid (HY11.out.below hb1113)
        have HDK := Lib.hid hdk
        rw [hw13]
        clear hw13 hb1213 hb1113 hb12 hdk HQU HA11 HP11 HQ11 HX11 HY11 HBW11 a0 a1' c0 c1'
        go_cut [102] from 96 to 102 (fun s102 wx => ∃ rb, s102 = .bool rb ∧ Hid (rb = true → KG dl dh ∧ fv z2 ≠ 0) ∧ Hid (Below w13.heap.size w13 wx))
        case first =>
          have hq13 := HQ13.out
          have HSI := Lib.hid (qsign_num HY13.out)
          obtain ⟨⟨q0, q1, q2⟩, -⟩ := slot3 hq13
          clear hq13
          by_cases hz : fv z2 = 0
          · rw [cmpI_eq hz] at HSI
            clear hz
            go_wp2_with fail
            refine HSI.out.mono ?_
            rintro e w14 ⟨rfl, hb14⟩
            go_wp2_with fail
            go_meet
            exact ⟨false, rfl, Lib.hid (fun h => by cases h), Lib.hid hb14⟩
          · obtain ⟨sy, hsy, hne⟩ : ∃ s, cmpI (fv z2) 0 = s ∧ ¬ s = 0 := ⟨_, rfl, by
              rcases Int.lt_trichotomy (fv z2) 0 with h | h | h
              · rw [cmpI_lt h]; decide
              · exact absurd h hz
              · rw [cmpI_gt h]; decide⟩
            rw [hsy] at HSI
            have HZ := Lib.hid hz
            clear hsy hz
            go_wp2_with fail
            refine HSI.out.mono ?_
            rintro e w14 ⟨rfl, hb14⟩
            have hd14 := slot_kept HD13.out hb14
            obtain ⟨d0, d1, -, -⟩ := slot2 hd14
            have HB14 := Lib.hid hb14
            clear hb14 hd14 q0 q1 q2
            go_wp2_with fail
            refine (HG.known w14 dl dh hdl hdh).mono ?_
            rintro e w15 ⟨r, rfl, hr, hb15⟩
            have HR := Lib.hid hr
            have HB15 := Lib.hid (HB14.out.trans (hb15.mono HB14.out.size))
            clear hr hb15
            go_wp2_with fail
            go_meet
            exact ⟨r, by simp [hne], Lib.hid (fun h => ⟨HR.out h, HZ.out⟩), HB15⟩
        case rest =>
          obtain ⟨rb, rfl, HRB, HB14⟩ := hcut
          obtain ⟨w14, hw14⟩ : ∃ w14, w14 = wc := ⟨_, rfl⟩
          subst hw14
          go_upto_if 102 with fail
          go_cut [15, 16] from 103 to 122 (fun _ _ wx => Hid (Below w13.heap.size w13 wx))
          case first =>
            cases rb
            · go_wp2_with fail
              go_meet
              exact HB14
            · have HKD := Lib.hid (HRB.out rfl).1
              have HY0 := Lib.hid (HRB.out rfl).2
              have HQG := Lib.hid (HDK.out HKD.out _ _ HX.out HY.out HY0.out 1074 rfl)
              obtain ⟨J, hJ⟩ : ∃ J, J = 2000 := ⟨_, rfl⟩
              have HJ := Lib.hid hJ
              clear hJ
              have HP14 := Lib.hid (slot_kept HP13.out HB14.out)
              have HQ14 := Lib.hid (slot_kept HQ13.out HB14.out)
              have HD14 := Lib.hid (slot_kept HD13.out HB14.out)
              have HX14 := Lib.hid (HX13.out.below HB14.out)
              have HY14 := Lib.hid (HY13.out.below HB14.out)
              go_upto_region 12 with fail
              refine wp_region_slotst_tail (by kernel_rfl) 8 [103, 104, 105, 106, 107, 108, 15, 16] (fun tm w' => Below w14.heap.size w14 w' ∧ Two 15 16 tm w') (Said [Is (.agg #[.bool p1, .slice a1 n1 c1, .int .i64 E1]), Is (.agg #[.bool p2, .slice a2 n2 c2, .int .i64 E2]), IsQuo (1074 + J) (fv z1) (fv z2) (-1) 301 30000, Is (.agg #[.bool p1, .slice a1 n1 c1, .int .i64 E1]), Is (.agg #[.bool p2, .slice a2 n2 c2, .int .i64 E2]), IsQuo (1074 + J) (fv z1) (fv z2) 1 301 30000, IsNewD w14.heap.size, IsNewD w14.heap.size]) (by kernel_rfl) (by kernel_rfl) (by kernel_rfl) (by kernel_rfl) (by kernel_rfl) (Said.keep ?keep) ⟨bdn (Below.refl _ _) 1, Two.start (by rfl) (by rfl)⟩ (l := [0, 1, 2, 3, 4, 5, 6, 7]) (by kernel_rfl) ?step ?fin
              case keep =>
                refine List.forall_mem_cons.2 ⟨Is.keeps _, ?_⟩
                refine List.forall_mem_cons.2 ⟨Is.keeps _, ?_⟩
                refine List.forall_mem_cons.2 ⟨IsQuo.keeps _ _ _ _ _ _, ?_⟩
                refine List.forall_mem_cons.2 ⟨Is.keeps _, ?_⟩
                refine List.forall_mem_cons.2 ⟨Is.keeps _, ?_⟩
                refine List.forall_mem_cons.2 ⟨IsQuo.keeps _ _ _ _ _ _, ?_⟩
                refine List.forall_mem_cons.2 ⟨IsNewD.keeps _, ?_⟩
                refine List.forall_mem_cons.2 ⟨IsNewD.keeps _, ?_⟩
                exact fun _ h => nomatch h
              case step =>
                refine List.forall_mem_cons.2 ⟨?_, ?_⟩
                · refine SlotStepT.plain rfl rfl rfl ?_
                  intro tm ws hsame hS hg K hK
                  have e9 : tm[9]? = some (.pointer (some ⟨w8.heap.size, 0, none⟩)) := hsame.2 9 rfl
                  obtain ⟨⟨k0, k1, k2⟩, -⟩ := slot3 (slot_kept HP14.out hS.1)
                  go_simp
                  exact hK _ _ (Below.refl _ _) ⟨hS.1.trans (Below.mono (Below.refl ws.heap.size ws) hS.1.size), hS.2.other (Below.size (Below.refl ws.heap.size ws)) (by decide) (by decide)⟩ rfl
                refine List.forall_mem_cons.2 ⟨?_, ?_⟩
                · refine SlotStepT.plain rfl rfl rfl ?_
                  intro tm ws hsame hS hg K hK
                  have e10 : tm[10]? = some (.pointer (some ⟨w8.heap.size + 1, 0, none⟩)) := hsame.2 10 rfl
                  obtain ⟨⟨k0, k1, k2⟩, -⟩ := slot3 (slot_kept HQ14.out hS.1)
                  go_simp
                  exact hK _ _ (Below.refl _ _) ⟨hS.1.trans (Below.mono (Below.refl ws.heap.size ws) hS.1.size), hS.2.other (Below.size (Below.refl ws.heap.size ws)) (by decide) (by decide)⟩ rfl
                refine List.forall_mem_cons.2 ⟨?_, ?_⟩
                · refine SlotStepT.plain rfl rfl rfl ?_
                  intro tm ws hsame hS hg K hK
                  obtain ⟨v103, e103, rfl⟩ := hg 0 (by kernel_rfl) _ 103 rfl rfl
                  obtain ⟨v104, e104, rfl⟩ := hg 1 (by kernel_rfl) _ 104 rfl rfl
                  go_simp
                  refine (rquo_num 200 (1074 + J) 30000 (-1) (HX14.out.below hS.1) (HY14.out.below hS.1) HY0.out (by decide) (by decide) (by decide) (by decide) (by decide) (by have := HJ.out; omega) (by have := HJ.out; omega) (by decide) (by decide)).mono ?_
                  rintro e wm ⟨Zr, ⟨pR, aR, nR, cR, ER, rfl, hR, hb⟩, hq1, hq2⟩
                  exact hK _ _ hb ⟨hS.1.trans (Below.mono (hb) hS.1.size), hS.2.other (Below.size (hb)) (by decide) (by decide)⟩ ⟨pR, aR, nR, cR, ER, rfl, Zr, hR, hq1, hq2⟩
                refine List.forall_mem_cons.2 ⟨?_, ?_⟩
                · refine SlotStepT.plain rfl rfl rfl ?_
                  intro tm ws hsame hS hg K hK
                  have e9 : tm[9]? = some (.pointer (some ⟨w8.heap.size, 0, none⟩)) := hsame.2 9 rfl
                  obtain ⟨⟨k0, k1, k2⟩, -⟩ := slot3 (slot_kept HP14.out hS.1)
                  go_simp
                  exact hK _ _ (Below.refl _ _) ⟨hS.1.trans (Below.mono (Below.refl ws.heap.size ws) hS.1.size), hS.2.other (Below.size (Below.refl ws.heap.size ws)) (by decide) (by decide)⟩ rfl
                refine List.forall_mem_cons.2 ⟨?_, ?_⟩
                · refine SlotStepT.plain rfl rfl rfl ?_
                  intro tm ws hsame hS hg K hK
                  have e10 : tm[10]? = some (.pointer (some ⟨w8.heap.size + 1, 0, none⟩)) := hsame.2 10 rfl
                  obtain ⟨⟨k0, k1, k2⟩, -⟩ := slot3 (slot_kept HQ14.out hS.1)
                  go_simp
                  exact hK _ _ (Below.refl _ _) ⟨hS.1.trans (Below.mono (Below.refl ws.heap.size ws) hS.1.size), hS.2.other (Below.size (Below.refl ws.heap.size ws)) (by decide) (by decide)⟩ rfl
                refine List.forall_mem_cons.2 ⟨?_, ?_⟩
                · refine SlotStepT.plain rfl rfl rfl ?_
                  intro tm ws hsame hS hg K hK
                  obtain ⟨v106, e106, rfl⟩ := hg 3 (by kernel_rfl) _ 106 rfl rfl
                  obtain ⟨v107, e107, rfl⟩ := hg 4 (by kernel_rfl) _ 107 rfl rfl
                  go_simp
                  refine (rquo_num 200 (1074 + J) 30000 1 (HX14.out.below hS.1) (HY14.out.below hS.1) HY0.out (by decide) (by decide) (by decide) (by decide) (by decide) (by have := HJ.out; omega) (by have := HJ.out; omega) (by decide) (by decide)).mono ?_
                  rintro e wm ⟨Zr, ⟨pR, aR, nR, cR, ER, rfl, hR, hb⟩, hq1, hq2⟩
                  exact hK _ _ hb ⟨hS.1.trans (Below.mono (hb) hS.1.size), hS.2.other (Below.size (hb)) (by decide) (by decide)⟩ ⟨pR, aR, nR, cR, ER, rfl, Zr, hR, hq1, hq2⟩
                refine List.forall_mem_cons.2 ⟨?_, ?_⟩
                · refine SlotStepT.plain rfl rfl rfl ?_
                  intro tm ws hsame hS hg K hK
                  go_simp
                  exact hK _ _ (below_alloc _ _) ⟨hS.1.trans (Below.mono (below_alloc ws _) hS.1.size), hS.2.first (by decide)⟩ ⟨_, rfl, heap_alloc_new _ _, hS.1.size⟩
                refine List.forall_mem_cons.2 ⟨?_, ?_⟩
                · refine SlotStepT.plain rfl rfl rfl ?_
                  intro tm ws hsame hS hg K hK
                  go_simp
                  exact hK _ _ (below_alloc _ _) ⟨hS.1.trans (Below.mono (below_alloc ws _) hS.1.size), hS.2.second (by decide)⟩ ⟨_, rfl, heap_alloc_new _ _, hS.1.size⟩
                exact fun _ h => nomatch h
              case fin =>
                intro tm wr2 hsame hS hgot
                obtain ⟨ux, hu, htm⟩ := hsame.form (by kernel_rfl)
                obtain ⟨va, ea, pu, au, nu, cu, Eu, rfl, Zl, qu, sl, -⟩ := hgot 2 (by decide) _ 105 rfl rfl
                obtain ⟨vb, eb, pv, av, nv, cv, Ev, rfl, Zh, qv, -, sh⟩ := hgot 5 (by decide) _ 108 rfl rfl
                obtain ⟨vc, ec, gu, rfl, hcu, hgu⟩ := hgot 6 (by decide) _ 15 rfl rfl
                obtain ⟨vd, ed, gv, rfl, hcv, hgv⟩ := hgot 7 (by decide) _ 16 rfl rfl
                have hfa := hu _ _ ea
                have hfb := hu _ _ eb
                have hfc := hu _ _ ec
                have hfd := hu _ _ ed
                have huv : gu ≠ gv := fun e => hS.2.2.2 gu ec (e ▸ ed)
                have hb8 := hS.1
                obtain ⟨⟨x0, x1, x2⟩, f0, f1, f2⟩ := slot3 hcu
                have hcv' : (((wr2.setCell ⟨gu, 0, none⟩ (.bool pu)).setCell ⟨gu, 1, none⟩ (.slice au nu cu)).setCell ⟨gu, 2, none⟩ (.int .i64 Eu)).heap[gv]? = some (.cells #[.bool false, .slice none 0 0, .int .i64 0] 31 (0, 0)) := slot_apart hcv (Ne.symm huv)
                obtain ⟨⟨y0, y1, y2⟩, j0, j1, j2⟩ := slot3 hcv'
                have hon1 := slot3_only (w := wr2) (g := gu) (.bool pu) (.slice au nu cu) (.int .i64 Eu)
                have hon2 := slot3_only (w := (((wr2.setCell ⟨gu, 0, none⟩ (.bool pu)).setCell ⟨gu, 1, none⟩ (.slice au nu cu)).setCell ⟨gu, 2, none⟩ (.int .i64 Eu))) (g := gv) (.bool pv) (.slice av nv cv) (.int .i64 Ev)
                have hb9 := (hb8.trans (hon1.below hgu hb8.size)).trans (hon2.below hgv (Nat.le_trans hb8.size hon1.size))
                have HCU := Lib.hid (slot_apart (u := .bool pv) (v := .slice av nv cv) (s := .int .i64 Ev) (slot3_set (u := .bool pu) (v := .slice au nu cu) (s := .int .i64 Eu) hcu) huv)
                have HCV := Lib.hid (slot3_set (u := .bool pv) (v := .slice av nv cv) (s := .int .i64 Ev) hcv')
                have HU := Lib.hid ((qu.var hcu hon1).var hcv' hon2)
                have HV := Lib.hid ((qv.var hcu hon1).var hcv' hon2)
                have HBN := Lib.hid hb9
                obtain ⟨q1, hq1⟩ : ∃ q, cmpI (fv dl * 2 ^ J) Zh = q := ⟨_, rfl⟩
                obtain ⟨q2, hq2⟩ : ∃ q, cmpI (fv dh * 2 ^ J) Zl = q := ⟨_, rfl⟩
                have hq := HQG.out
                have hn1 : ¬ 0 < q1 := by
                  rw [← hq1]
                  have h := quo_low HY0.out hq.1 (sh (by decide))
                  rcases Int.lt_or_eq_of_le h with h1 | h1
                  · rw [cmpI_lt h1]; decide
                  · rw [cmpI_eq h1]; decide
                have hn2 : ¬ q2 < 0 := by
                  rw [← hq2]
                  have h := quo_high HY0.out hq.2 (sl (by decide))
                  rcases Int.lt_or_eq_of_le h with h1 | h1
                  · rw [cmpI_gt h1]; decide
                  · rw [cmpI_eq h1.symm]; decide
                have HQ1 := Lib.hid hq1
                have HQ2 := Lib.hid hq2
                clear hq hq1 hq2 sl sh
                obtain ⟨w15, hwn⟩ : ∃ wn, wn = ((((((wr2.setCell ⟨gu, 0, none⟩ (.bool pu)).setCell ⟨gu, 1, none⟩ (.slice au nu cu)).setCell ⟨gu, 2, none⟩ (.int .i64 Eu)).setCell ⟨gv, 0, none⟩ (.bool pv)).setCell ⟨gv, 1, none⟩ (.slice av nv cv)).setCell ⟨gv, 2, none⟩ (.int .i64 Ev)) := ⟨_, rfl⟩
                have HWN := Lib.hid hwn
                rw [← hwn] at HCU HCV HU HV HBN
                clear hwn hgot hu hsame ea eb ec ed hS hb8 hb9 hcu hcv hcv' hon1 hon2 qu qv huv hgu hgv
                rw [htm]
                clear htm tm
                simp only [List.foldl_cons, List.foldl_nil, List.setIfInBounds_toArray, List.set_cons_zero, List.set_cons_succ, hfa, hfb, hfc, hfd, List.drop_succ_cons, List.drop_zero]
                clear hfa hfb hfc hfd
                have HD15 := Lib.hid (slot_kept HD14.out HBN.out)
                go_upto_region 13 with fail
                rw [← HWN.out]
                refine wp_region_slots (by kernel_rfl) [109, 110, 111, 112, 113, 114, 115, 116, 117, 118, 119, 120, 121, 122] (fun w' => (Below w15.heap.size w15 w')) (Said [Is (.pointer (some ⟨w12.heap.size, 0, none⟩)), Is (.float .f64 dl), IsQZ 1074 (fv dl) 2 2200, Is (.agg #[.bool pv, .slice av nv cv, .int .i64 Ev]), Is (.int .i64 q1), Is (.bool false), Is (.bool false), Is (.pointer (some ⟨w12.heap.size, 1, none⟩)), Is (.float .f64 dh), IsQZ 1074 (fv dh) 2 2200, Is (.agg #[.bool pu, .slice au nu cu, .int .i64 Eu]), Is (.int .i64 q2), Is (.bool false), Is (.bool false)]) (by kernel_rfl) (by kernel_rfl) (by kernel_rfl) (by kernel_rfl) (Said.keep ?keep) ((bdn (Below.refl _ _) 1)) (l := [0, 1, 2, 3, 4, 5, 6, 7, 8, 9, 10, 11, 12, 13]) (by kernel_rfl) ?step ?fin
                case keep =>
                  refine List.forall_mem_cons.2 ⟨Is.keeps _, ?_⟩
                  refine List.forall_mem_cons.2 ⟨Is.keeps _, ?_⟩
                  refine List.forall_mem_cons.2 ⟨IsQZ.keeps _ _ _ _, ?_⟩
                  refine List.forall_mem_cons.2 ⟨Is.keeps _, ?_⟩
                  refine List.forall_mem_cons.2 ⟨Is.keeps _, ?_⟩
                  refine List.forall_mem_cons.2 ⟨Is.keeps _, ?_⟩
                  refine List.forall_mem_cons.2 ⟨Is.keeps _, ?_⟩
                  refine List.forall_mem_cons.2 ⟨Is.keeps _, ?_⟩
                  refine List.forall_mem_cons.2 ⟨Is.keeps _, ?_⟩
                  refine List.forall_mem_cons.2 ⟨IsQZ.keeps _ _ _ _, ?_⟩
                  refine List.forall_mem_cons.2 ⟨Is.keeps _, ?_⟩
                  refine List.forall_mem_cons.2 ⟨Is.keeps _, ?_⟩
                  refine List.forall_mem_cons.2 ⟨Is.keeps _, ?_⟩
                  refine List.forall_mem_cons.2 ⟨Is.keeps _, ?_⟩
                  exact fun _ h => nomatch h
                case step =>
                  refine List.forall_mem_cons.2 ⟨?_, ?_⟩
                  · refine SlotStep.plain rfl rfl rfl ?_
                    intro tm ws hsame hS hg K hK
                    have e14 : tm[14]? = some (.pointer (some ⟨w12.heap.size, 0, none⟩)) := hsame.2 14 rfl
                    go_simp
                    exact hK _ _ (Below.refl _ _) hS rfl
                  refine List.forall_mem_cons.2 ⟨?_, ?_⟩
                  · refine SlotStep.plain rfl rfl rfl ?_
                    intro tm ws hsame hS hg K hK
                    obtain ⟨v109, e109, rfl⟩ := hg 0 (by kernel_rfl) _ 109 rfl rfl
                    obtain ⟨k0, k1, -, -⟩ := slot2 (slot_kept HD15.out hS)
                    go_simp
                    exact hK _ _ (Below.refl _ _) hS rfl
                  refine List.forall_mem_cons.2 ⟨?_, ?_⟩
                  · refine SlotStep.plain rfl rfl rfl ?_
                    intro tm ws hsame hS hg K hK
                    obtain ⟨v110, e110, rfl⟩ := hg 1 (by kernel_rfl) _ 110 rfl rfl
                    go_simp
                    refine (refof_num dl ws hdl HKD.out.lf).mono ?_
                    rintro e wm ⟨pR, aR, nR, cR, ER, rfl, hR, hb⟩
                    exact hK _ _ hb ((hS.trans (Below.mono (hb) hS.size))) ⟨pR, aR, nR, cR, ER, rfl, hR⟩
                  refine List.forall_mem_cons.2 ⟨?_, ?_⟩
                  · refine SlotStep.plain rfl rfl rfl ?_
                    intro tm ws hsame hS hg K hK
                    have e16 : tm[16]? = some (.pointer (some ⟨gv, 0, none⟩)) := hsame.2 16 rfl
                    obtain ⟨⟨k0, k1, k2⟩, -⟩ := slot3 (slot_kept HCV.out hS)
                    go_simp
                    exact hK _ _ (Below.refl _ _) hS rfl
                  refine List.forall_mem_cons.2 ⟨?_, ?_⟩
                  · refine SlotStep.plain rfl rfl rfl ?_
                    intro tm ws hsame hS hg K hK
                    obtain ⟨v111, e111, ⟨p111, a111, n111, c111, E111, rfl, g111⟩⟩ := hg 2 (by kernel_rfl) _ 111 rfl rfl
                    obtain ⟨v112, e112, rfl⟩ := hg 3 (by kernel_rfl) _ 112 rfl rfl
                    go_simp
                    refine (qcmp_num 2000 (g111.lift J) (HV.out.below hS) (by have := HJ.out; omega) (by decide) (by decide) (by have := HJ.out; omega) (by decide) (by omega) (by have := HJ.out; omega)).mono ?_
                    rw [HQ1.out]
                    rintro e wm ⟨rfl, hb⟩
                    exact hK _ _ hb ((hS.trans (Below.mono (hb) hS.size))) rfl
                  refine List.forall_mem_cons.2 ⟨?_, ?_⟩
                  · refine SlotStep.plain rfl rfl rfl ?_
                    intro tm ws hsame hS hg K hK
                    obtain ⟨v113, e113, rfl⟩ := hg 4 (by kernel_rfl) _ 113 rfl rfl
                    go_simp
                    exact hK _ _ (Below.refl _ _) hS rfl
                  refine List.forall_mem_cons.2 ⟨?_, ?_⟩
                  · refine SlotStep.plain rfl rfl rfl ?_
                    intro tm ws hsame hS hg K hK
                    obtain ⟨v114, e114, rfl⟩ := hg 5 (by kernel_rfl) _ 114 rfl rfl
                    go_simp
                    exact hK _ _ (Below.refl _ _) hS rfl
                  refine List.forall_mem_cons.2 ⟨?_, ?_⟩
                  · refine SlotStep.guardedNot rfl rfl 6 rfl rfl (by kernel_rfl) (fun _ _ h => h) ?_
                    intro tm ws hsame hS hg K hK
                    have e14 : tm[14]? = some (.pointer (some ⟨w12.heap.size, 0, none⟩)) := hsame.2 14 rfl
                    go_simp
                    exact hK _ _ (Below.refl _ _) hS rfl
                  refine List.forall_mem_cons.2 ⟨?_, ?_⟩
                  · refine SlotStep.guardedNot rfl rfl 6 rfl rfl (by kernel_rfl) (fun _ _ h => h) ?_
                    intro tm ws hsame hS hg K hK
                    obtain ⟨v116, e116, rfl⟩ := hg 7 (by kernel_rfl) _ 116 rfl rfl
                    obtain ⟨k0, k1, -, -⟩ := slot2 (slot_kept HD15.out hS)
                    go_simp
                    exact hK _ _ (Below.refl _ _) hS rfl
                  refine List.forall_mem_cons.2 ⟨?_, ?_⟩
                  · refine SlotStep.guardedNot rfl rfl 6 rfl rfl (by kernel_rfl) (fun _ _ h => h) ?_
                    intro tm ws hsame hS hg K hK
                    obtain ⟨v117, e117, rfl⟩ := hg 8 (by kernel_rfl) _ 117 rfl rfl
                    go_simp
                    refine (refof_num dh ws hdh HKD.out.hf).mono ?_
                    rintro e wm ⟨pR, aR, nR, cR, ER, rfl, hR, hb⟩
                    exact hK _ _ hb ((hS.trans (Below.mono (hb) hS.size))) ⟨pR, aR, nR, cR, ER, rfl, hR⟩
                  refine List.forall_mem_cons.2 ⟨?_, ?_⟩
                  · refine SlotStep.guardedNot rfl rfl 6 rfl rfl (by kernel_rfl) (fun _ _ h => h) ?_
                    intro tm ws hsame hS hg K hK
                    have e15 : tm[15]? = some (.pointer (some ⟨gu, 0, none⟩)) := hsame.2 15 rfl
                    obtain ⟨⟨k0, k1, k2⟩, -⟩ := slot3 (slot_kept HCU.out hS)
                    go_simp
                    exact hK _ _ (Below.refl _ _) hS rfl
                  refine List.forall_mem_cons.2 ⟨?_, ?_⟩
                  · refine SlotStep.guardedNot rfl rfl 6 rfl rfl (by kernel_rfl) (fun _ _ h => h) ?_
                    intro tm ws hsame hS hg K hK
                    obtain ⟨v118, e118, ⟨p118, a118, n118, c118, E118, rfl, g118⟩⟩ := hg 9 (by kernel_rfl) _ 118 rfl rfl
                    obtain ⟨v119, e119, rfl⟩ := hg 10 (by kernel_rfl) _ 119 rfl rfl
                    go_simp
                    refine (qcmp_num 2000 (g118.lift J) (HU.out.below hS) (by have := HJ.out; omega) (by decide) (by decide) (by have := HJ.out; omega) (by decide) (by omega) (by have := HJ.out; omega)).mono ?_
                    rw [HQ2.out]
                    rintro e wm ⟨rfl, hb⟩
                    exact hK _ _ hb ((hS.trans (Below.mono (hb) hS.size))) rfl
                  refine List.forall_mem_cons.2 ⟨?_, ?_⟩
                  · refine SlotStep.guardedNot rfl rfl 6 rfl rfl (by kernel_rfl) (fun _ _ h => h) ?_
                    intro tm ws hsame hS hg K hK
                    obtain ⟨v120, e120, rfl⟩ := hg 11 (by kernel_rfl) _ 120 rfl rfl
                    go_simp
                    exact hK _ _ (Below.refl _ _) hS rfl
                  refine List.forall_mem_cons.2 ⟨?_, ?_⟩
                  · refine SlotStep.plain rfl rfl rfl ?_
                    intro tm ws hsame hS hg K hK
                    obtain ⟨v115, e115, rfl⟩ := hg 6 (by kernel_rfl) _ 115 rfl rfl
                    obtain ⟨v121, e121, rfl⟩ := hg 12 (by kernel_rfl) _ 121 rfl rfl
                    go_simp
                    exact hK _ _ (Below.refl _ _) hS rfl
                  exact fun _ h => nomatch h
                case fin =>
                  intro tm w16 hsame hS hgot
                  obtain ⟨uy, hu, htm⟩ := hsame.form (by kernel_rfl)
                  obtain ⟨v122, e122, rfl⟩ := hgot 13 _ 122 rfl rfl
                  have h122 := hu _ _ e122
                  have HBX := Lib.hid hS
                  clear hgot hu hsame e122 hS
                  rw [htm]
                  clear htm tm
                  simp only [List.foldl_cons, List.foldl_nil, List.setIfInBounds_toArray, List.set_cons_zero, List.set_cons_succ, h122]
                  clear h122
                  go_wp2_with fail
                  go_meet
                  exact Lib.hid (HB14.out.trans ((HBN.out.trans (HBX.out.mono HBN.out.size)).mono HB14.out.size))
          case rest =>
            obtain ⟨w17, hw17⟩ : ∃ w17, w17 = wc := ⟨_, rfl⟩
            subst hw17
            have HBW17 := Lib.hid (HBW13.out.trans (hcut.out.mono HBW13.out.size))
            have hA17 := slot_kept HA13.out hcut.out
            have HP17 := Lib.hid (slot_kept HP13.out hcut.out)
            have HX17 := Lib.hid (HX13.out.below hcut.out)
            have HSQ := Lib.hid (HG.sqrt w17 a b ha64 hb64 HAB.out (HT.out.below HBW17.out))
            obtain ⟨a0, a1', -, -⟩ := slot2 hA17
            clear hcut hA17 HRB HB14 HA13 HP13 HQ13 HX13 HY13 HBW13 HD13
            go_wp2_with fail
            refine HSQ.out.mono ?_
            rintro e w18 ⟨rl, rh, rfl, hrl, hrh, hrk, hb18⟩
            have HRK := Lib.hid hrk
            clear a0 a1' hrk HSQ
            go_upto_region 16 with fail
            obtain ⟨w19, hw19⟩ : ∃ w19, w18.alloc (.cells #[.float .f64 rl, .float .f64 rh] 24) = w19 := ⟨_, rfl⟩
            have hb1819 : Below w18.heap.size w18 w19 := hw19 ▸ below_alloc w18 _
            have hb1719 : Below w17.heap.size w17 w19 := hb18.trans (hb1819.mono hb18.size)
            have HR19 : Hid (w19.heap[w18.heap.size]? = some (.cells #[.float .f64 rl, .float .f64 rh] 24 (0, 0))) := Lib.hid (hw19 ▸ heap_alloc_new w18 _)
            have HBW19 := Lib.hid (HBW17.out.trans (hb1719.mono HBW17.out.size))
            have hp19 := slot_kept HP17.out hb1719
            have HP19 := Lib.hid hp19
            have HX19 := Lib.hid (HX17.out.below hb1719)
            rw [hw19]
            clear hw19 hb1819 hb1719 hb18 HP17 HX17 HBW17
            have HSI := Lib.hid (qsign_num HX19.out)
            obtain ⟨⟨b0, b1', b2⟩, -⟩ := slot3 hp19
            clear hp19
            by_cases hneg : fv z1 < 0
            · rw [cmpI_lt hneg] at HSI
              clear hneg
              go_wp2_with fail
              refine HSI.out.mono ?_
              rintro e w20 ⟨rfl, hb20⟩
              have HB20 := Lib.hid (HBW19.out.trans (hb20.mono HBW19.out.size))
              clear hb20
              go_wp2_with fail
              go_ret
              exact ⟨rfl, HB20.out⟩
            obtain ⟨sx, hsx, hnn⟩ : ∃ s, cmpI (fv z1) 0 = s ∧ ¬ s < 0 := ⟨_, rfl, by
              rcases Int.lt_or_eq_of_le (Int.not_lt.1 hneg) with h | h
              · rw [cmpI_gt h]; decide
              · rw [cmpI_eq h.symm]; decide⟩
            rw [hsx] at HSI
            have HX0 := Lib.hid (Int.not_lt.1 hneg)
            have hnd : decide (sx < 0) = false := decide_eq_false hnn
            clear hsx hneg hnn
            go_wp2_with fail
            refine HSI.out.mono ?_
            rintro e w20 ⟨rfl, hb20⟩
            have hr20 := slot_kept HR19.out hb20
            obtain ⟨r0, r1, -, -⟩ := slot2 hr20
            have HR20 := Lib.hid hr20
            have HB20 := Lib.hid (HBW19.out.trans (hb20.mono HBW19.out.size))
            have HP20 := Lib.hid (slot_kept HP19.out hb20)
            have HX20 := Lib.hid (HX19.out.below hb20)
            clear hb20 hr20 b0 b1' b2 HR19 HP19 HX19
            go_wp2_with fail
            refine (HG.known w20 rl rh hrl hrh).mono ?_
            rintro e w21 ⟨r, rfl, hr, hb21⟩
            have HBW21 := Lib.hid (HB20.out.trans (hb21.mono HB20.out.size))
            have HR21 := Lib.hid (slot_kept HR20.out hb21)
            have HP21 := Lib.hid (slot_kept HP20.out hb21)
            have HX21 := Lib.hid (HX20.out.below hb21)
            have HHR := Lib.hid hr
            clear hb21 hr r0 r1 HR20 HP20 HX20 HSI
            cases r
            · go_wp2_with fail
              go_ret
              exact ⟨rfl, HBW21.out⟩
            obtain ⟨K1, hK1⟩ : ∃ K1, K1 = 1074 := ⟨_, rfl⟩
            have HK1 := Lib.hid hK1
            clear hK1
            have HKR := Lib.hid (HHR.out rfl)
            have HRG := Lib.hid (HRK.out HKR.out _ HX.out HX0.out K1 HK1.out)
            go_upto_region 18 with fail
            refine wp_region_slotst_tail (by kernel_rfl) 8 [133, 134, 135, 136, 137, 138, 18, 19] (fun tm w' => Below w21.heap.size w21 w' ∧ Two 18 19 tm w') (Said [Is (.pointer (some ⟨w18.heap.size, 0, none⟩)), Is (.float .f64 rl), IsQZ 1074 (fv rl) 2 2200, Is (.pointer (some ⟨w18.heap.size, 1, none⟩)), Is (.float .f64 rh), IsQZ 1074 (fv rh) 2 2200, IsNewD w21.heap.size, IsNewD w21.heap.size]) (by kernel_rfl) (by kernel_rfl) (by kernel_rfl) (by kernel_rfl) (by kernel_rfl) (Said.keep ?keep) ⟨bdn (Below.refl _ _) 1, Two.start (by rfl) (by rfl)⟩ (l := [0, 1, 2, 3, 4, 5, 6, 7]) (by kernel_rfl) ?step ?fin
            case keep =>
              refine List.forall_mem_cons.2 ⟨Is.keeps _, ?_⟩
              refine List.forall_mem_cons.2 ⟨Is.keeps _, ?_⟩
              refine List.forall_mem_cons.2 ⟨IsQZ.keeps _ _ _ _, ?_⟩
              refine List.forall_mem_cons.2 ⟨Is.keeps _, ?_⟩
              refine List.forall_mem_cons.2 ⟨Is.keeps _, ?_⟩
              refine List.forall_mem_cons.2 ⟨IsQZ.keeps _ _ _ _, ?_⟩
              refine List.forall_mem_cons.2 ⟨IsNewD.keeps _, ?_⟩
              refine List.forall_mem_cons.2 ⟨IsNewD.keeps _, ?_⟩
              exact fun _ h => nomatch h
            case step =>
              refine List.forall_mem_cons.2 ⟨?_, ?_⟩
              · refine SlotStepT.plain rfl rfl rfl ?_
                intro tm ws hsame hS hg K hK
                have e17 : tm[17]? = some (.pointer (some ⟨w18.heap.size, 0, none⟩)) := hsame.2 17 rfl
                go_simp
                exact hK _ _ (Below.refl _ _) ⟨hS.1.trans (Below.mono (Below.refl ws.heap.size ws) hS.1.size), hS.2.other (Below.size (Below.refl ws.heap.size ws)) (by decide) (by decide)⟩ rfl
              refine List.forall_mem_cons.2 ⟨?_, ?_⟩
              · refine SlotStepT.plain rfl rfl rfl ?_
                intro tm ws hsame hS hg K hK
                obtain ⟨v133, e133, rfl⟩ := hg 0 (by kernel_rfl) _ 133 rfl rfl
                obtain ⟨k0, k1, -, -⟩ := slot2 (slot_kept HR21.out hS.1)
                go_simp
                exact hK _ _ (Below.refl _ _) ⟨hS.1.trans (Below.mono (Below.refl ws.heap.size ws) hS.1.size), hS.2.other (Below.size (Below.refl ws.heap.size ws)) (by decide) (by decide)⟩ rfl
              refine List.forall_mem_cons.2 ⟨?_, ?_⟩
              · refine SlotStepT.plain rfl rfl rfl ?_
                intro tm ws hsame hS hg K hK
                obtain ⟨v134, e134, rfl⟩ := hg 1 (by kernel_rfl) _ 134 rfl rfl
                go_simp
                refine (refof_num rl ws hrl HKR.out.lf).mono ?_
                rintro e wm ⟨pR, aR, nR, cR, ER, rfl, hR, hb⟩
                exact hK _ _ hb ⟨hS.1.trans (Below.mono (hb) hS.1.size), hS.2.other (Below.size (hb)) (by decide) (by decide)⟩ ⟨pR, aR, nR, cR, ER, rfl, hR⟩
              refine List.forall_mem_cons.2 ⟨?_, ?_⟩
              · refine SlotStepT.plain rfl rfl rfl ?_
                intro tm ws hsame hS hg K hK
                have e17 : tm[17]? = some (.pointer (some ⟨w18.heap.size, 0, none⟩)) := hsame.2 17 rfl
                go_simp
                exact hK _ _ (Below.refl _ _) ⟨hS.1.trans (Below.mono (Below.refl ws.heap.size ws) hS.1.size), hS.2.other (Below.size (Below.refl ws.heap.size ws)) (by decide) (by decide)⟩ rfl
              refine List.forall_mem_cons.2 ⟨?_, ?_⟩
              · refine SlotStepT.plain rfl rfl rfl ?_
                intro tm ws hsame hS hg K hK
                obtain ⟨v136, e136, rfl⟩ := hg 3 (by kernel_rfl) _ 136 rfl rfl
                obtain ⟨k0, k1, -, -⟩ := slot2 (slot_kept HR21.out hS.1)
                go_simp
                exact hK _ _ (Below.refl _ _) ⟨hS.1.trans (Below.mono (Below.refl ws.heap.size ws) hS.1.size), hS.2.other (Below.size (Below.refl ws.heap.size ws)) (by decide) (by decide)⟩ rfl
              refine List.forall_mem_cons.2 ⟨?_, ?_⟩
              · refine SlotStepT.plain rfl rfl rfl ?_
                intro tm ws hsame hS hg K hK
                obtain ⟨v137, e137, rfl⟩ := hg 4 (by kernel_rfl) _ 137 rfl rfl
                go_simp
                refine (refof_num rh ws hrh HKR.out.hf).mono ?_
                rintro e wm ⟨pR, aR, nR, cR, ER, rfl, hR, hb⟩
                exact hK _ _ hb ⟨hS.1.trans (Below.mono (hb) hS.1.size), hS.2.other (Below.size (hb)) (by decide) (by decide)⟩ ⟨pR, aR, nR, cR, ER, rfl, hR⟩
              refine List.forall_mem_cons.2 ⟨?_, ?_⟩
              · refine SlotStepT.plain rfl rfl rfl ?_
                intro tm ws hsame hS hg K hK
                go_simp
                exact hK _ _ (below_alloc _ _) ⟨hS.1.trans (Below.mono (below_alloc ws _) hS.1.size), hS.2.first (by decide)⟩ ⟨_, rfl, heap_alloc_new _ _, hS.1.size⟩
              refine List.forall_mem_cons.2 ⟨?_, ?_⟩
              · refine SlotStepT.plain rfl rfl rfl ?_
                intro tm ws hsame hS hg K hK
                go_simp
                exact hK _ _ (below_alloc _ _) ⟨hS.1.trans (Below.mono (below_alloc ws _) hS.1.size), hS.2.second (by decide)⟩ ⟨_, rfl, heap_alloc_new _ _, hS.1.size⟩
              exact fun _ h => nomatch h
            case fin =>
              intro tm wr2 hsame hS hgot
              obtain ⟨ux, hu, htm⟩ := hsame.form (by kernel_rfl)
              obtain ⟨va, ea, pu, au, nu, cu, Eu, rfl, qu⟩ := hgot 2 (by decide) _ 135 rfl rfl
              obtain ⟨vb, eb, pv, av, nv, cv, Ev, rfl, qv⟩ := hgot 5 (by decide) _ 138 rfl rfl
              obtain ⟨vc, ec, gu, rfl, hcu, hgu⟩ := hgot 6 (by decide) _ 18 rfl rfl
              obtain ⟨vd, ed, gv, rfl, hcv, hgv⟩ := hgot 7 (by decide) _ 19 rfl rfl
              have hfa := hu _ _ ea
              have hfb := hu _ _ eb
              have hfc := hu _ _ ec
              have hfd := hu _ _ ed
              have huv : gu ≠ gv := fun e => hS.2.2.2 gu ec (e ▸ ed)
              have hb8 := hS.1
              obtain ⟨⟨x0, x1, x2⟩, f0, f1, f2⟩ := slot3 hcu
              have hcv' : (((wr2.setCell ⟨gu, 0, none⟩ (.bool pu)).setCell ⟨gu, 1, none⟩ (.slice au nu cu)).setCell ⟨gu, 2, none⟩ (.int .i64 Eu)).heap[gv]? = some (.cells #[.bool false, .slice none 0 0, .int .i64 0] 31 (0, 0)) := slot_apart hcv (Ne.symm huv)
              obtain ⟨⟨y0, y1, y2⟩, j0, j1, j2⟩ := slot3 hcv'
              have hon1 := slot3_only (w := wr2) (g := gu) (.bool pu) (.slice au nu cu) (.int .i64 Eu)
              have hon2 := slot3_only (w := (((wr2.setCell ⟨gu, 0, none⟩ (.bool pu)).setCell ⟨gu, 1, none⟩ (.slice au nu cu)).setCell ⟨gu, 2, none⟩ (.int .i64 Eu))) (g := gv) (.bool pv) (.slice av nv cv) (.int .i64 Ev)
              have hb9 := (hb8.trans (hon1.below hgu hb8.size)).trans (hon2.below hgv (Nat.le_trans hb8.size hon1.size))
              have HCU := Lib.hid (slot_apart (u := .bool pv) (v := .slice av nv cv) (s := .int .i64 Ev) (slot3_set (u := .bool pu) (v := .slice au nu cu) (s := .int .i64 Eu) hcu) huv)
              have HCV := Lib.hid (slot3_set (u := .bool pv) (v := .slice av nv cv) (s := .int .i64 Ev) hcv')
              have HU := Lib.hid ((qu.var hcu hon1).var hcv' hon2)
              have HV := Lib.hid ((qv.var hcu hon1).var hcv' hon2)
              have HBN := Lib.hid hb9
              obtain ⟨w22, hwn⟩ : ∃ wn, wn = ((((((wr2.setCell ⟨gu, 0, none⟩ (.bool pu)).setCell ⟨gu, 1, none⟩ (.slice au nu cu)).setCell ⟨gu, 2, none⟩ (.int .i64 Eu)).setCell ⟨gv, 0, none⟩ (.bool pv)).setCell ⟨gv, 1, none⟩ (.slice av nv cv)).setCell ⟨gv, 2, none⟩ (.int .i64 Ev)) := ⟨_, rfl⟩
              have HWN := Lib.hid hwn
              rw [← hwn] at HCU HCV HU HV HBN
              clear hwn hgot hu hsame ea eb ec ed hS hb8 hb9 hcu hcv hcv' hon1 hon2 qu qv huv hgu hgv
              rw [htm]
              clear htm tm
              simp only [List.foldl_cons, List.foldl_nil, List.setIfInBounds_toArray, List.set_cons_zero, List.set_cons_succ, hfa, hfb, hfc, hfd, List.drop_succ_cons, List.drop_zero]
              clear hfa hfb hfc hfd
              have HP22 := Lib.hid (slot_kept HP21.out HBN.out)
              have HX22 := Lib.hid (HX21.out.below HBN.out)
              obtain ⟨s1, hs1⟩ : ∃ q, cmpI (fv rl) 0 = q := ⟨_, rfl⟩
              obtain ⟨s2, hs2⟩ : ∃ q, cmpI (fv rh) 0 = q := ⟨_, rfl⟩
              obtain ⟨q3, hq3⟩ : ∃ q, cmpI (fv rl * fv rl) (fv z1 * 2 ^ K1) = q := ⟨_, rfl⟩
              obtain ⟨q4, hq4⟩ : ∃ q, cmpI (fv rh * fv rh) (fv z1 * 2 ^ K1) = q := ⟨_, rfl⟩
              have hn2 : ¬ s2 < 0 := by
                rw [← hs2]
                rcases Int.lt_or_eq_of_le HRG.out.2.1 with h1 | h1
                · rw [cmpI_gt h1]; decide
                · rw [cmpI_eq h1.symm]; decide
              have hn4 : ¬ q4 < 0 := by
                rw [← hq4]
                rcases Int.lt_or_eq_of_le HRG.out.2.2 with h1 | h1
                · rw [cmpI_gt h1]; decide
                · rw [cmpI_eq h1.symm]; decide
              have hm2 : 0 ≤ s2 := by omega
              have hm4 : 0 ≤ q4 := by omega
              have HS1 := Lib.hid hs1
              have HS2 := Lib.hid hs2
              have HQ3 := Lib.hid hq3
              have HQ4 := Lib.hid hq4
              by_cases hlow : fv rl ≤ 0
              · have hs1n : s1 ≤ 0 := by
                  rw [← hs1]
                  rcases Int.lt_or_eq_of_le hlow with h1 | h1
                  · rw [cmpI_lt h1]; decide
                  · rw [cmpI_eq h1]; decide
                clear hs1 hs2 hq3 hq4 hlow
                go_upto_region 19 with fail
                rw [← HWN.out]
                refine wp_region_slots (by kernel_rfl) [139, 140, 141, 142, 143, 144, 145, 146, 147, 148, 149, 150, 151, 152, 153, 154, 155, 156, 157, 158, 159, 160, 161, 162, 8] (fun w' => (Below w22.heap.size w22 w')) (Said [Is (.agg #[.bool pu, .slice au nu cu, .int .i64 Eu]), Is (.int .i64 s1), Is (.bool true), Is (.bool true), IsAny, IsAny, IsAny, IsAny, IsAny, IsAny, Is (.bool true), Is (.bool true), Is (.agg #[.bool pv, .slice av nv cv, .int .i64 Ev]), Is (.int .i64 s2), Is (.bool true), Is (.bool true), Is (.bool true), Is (.agg #[.bool pv, .slice av nv cv, .int .i64 Ev]), Is (.agg #[.bool pv, .slice av nv cv, .int .i64 Ev]), IsQZ (1074 + K1) (fv rh * fv rh) 4 5000, Is (.agg #[.bool p1, .slice a1 n1 c1, .int .i64 E1]), Is (.int .i64 q4), Is (.bool true), Is (.bool true), Is (.bool true)]) (by kernel_rfl) (by kernel_rfl) (by kernel_rfl) (by kernel_rfl) (Said.keep ?keep) ((bdn (Below.refl _ _) 1)) (l := [0, 1, 2, 3, 4, 5, 6, 7, 8, 9, 10, 11, 12, 13, 14, 15, 16, 17, 18, 19, 20, 21, 22, 23, 24]) (by kernel_rfl) ?step ?fin
                case keep =>
                  refine List.forall_mem_cons.2 ⟨Is.keeps _, ?_⟩
                  refine List.forall_mem_cons.2 ⟨Is.keeps _, ?_⟩
                  refine List.forall_mem_cons.2 ⟨Is.keeps _, ?_⟩
                  refine List.forall_mem_cons.2 ⟨Is.keeps _, ?_⟩
                  refine List.forall_mem_cons.2 ⟨IsAny.keeps, ?_⟩
                  refine List.forall_mem_cons.2 ⟨IsAny.keeps, ?_⟩
                  refine List.forall_mem_cons.2 ⟨IsAny.keeps, ?_⟩
                  refine List.forall_mem_cons.2 ⟨IsAny.keeps, ?_⟩
                  refine List.forall_mem_cons.2 ⟨IsAny.keeps, ?_⟩
                  refine List.forall_mem_cons.2 ⟨IsAny.keeps, ?_⟩
                  refine List.forall_mem_cons.2 ⟨Is.keeps _, ?_⟩
                  refine List.forall_mem_cons.2 ⟨Is.keeps _, ?_⟩
                  refine List.forall_mem_cons.2 ⟨Is.keeps _, ?_⟩
                  refine List.forall_mem_cons.2 ⟨Is.keeps _, ?_⟩
                  refine List.forall_mem_cons.2 ⟨Is.keeps _, ?_⟩
                  refine List.forall_mem_cons.2 ⟨Is.keeps _, ?_⟩
                  refine List.forall_mem_cons.2 ⟨Is.keeps _, ?_⟩
                  refine List.forall_mem_cons.2 ⟨Is.keeps _, ?_⟩
                  refine List.forall_mem_cons.2 ⟨Is.keeps _, ?_⟩
                  refine List.forall_mem_cons.2 ⟨IsQZ.keeps _ _ _ _, ?_⟩
                  refine List.forall_mem_cons.2 ⟨Is.keeps _, ?_⟩
                  refine List.forall_mem_cons.2 ⟨Is.keeps _, ?_⟩
                  refine List.forall_mem_cons.2 ⟨Is.keeps _, ?_⟩
                  refine List.forall_mem_cons.2 ⟨Is.keeps _, ?_⟩
                  refine List.forall_mem_cons.2 ⟨Is.keeps _, ?_⟩
                  exact fun _ h => nomatch h
                case step =>
                  refine List.forall_mem_cons.2 ⟨?_, ?_⟩
                  · refine SlotStep.plain rfl rfl rfl ?_
                    intro tm ws hsame hS hg K hK
                    have e18 : tm[18]? = some (.pointer (some ⟨gu, 0, none⟩)) := hsame.2 18 rfl
                    obtain ⟨⟨k0, k1, k2⟩, -⟩ := slot3 (slot_kept HCU.out hS)
                    go_simp
                    exact hK _ _ (Below.refl _ _) hS rfl
                  refine List.forall_mem_cons.2 ⟨?_, ?_⟩
                  · refine SlotStep.plain rfl rfl rfl ?_
                    intro tm ws hsame hS hg K hK
                    obtain ⟨v139, e139, rfl⟩ := hg 0 (by kernel_rfl) _ 139 rfl rfl
                    go_simp
                    refine (qsign_num (HU.out.below hS)).mono ?_
                    rw [HS1.out]
                    rintro e wm ⟨rfl, hb⟩
                    exact hK _ _ hb ((hS.trans (Below.mono (hb) hS.size))) rfl
                  refine List.forall_mem_cons.2 ⟨?_, ?_⟩
                  · refine SlotStep.plain rfl rfl rfl ?_
                    intro tm ws hsame hS hg K hK
                    obtain ⟨v140, e140, rfl⟩ := hg 1 (by kernel_rfl) _ 140 rfl rfl
                    go_simp
                    exact hK _ _ (Below.refl _ _) hS rfl
                  refine List.forall_mem_cons.2 ⟨?_, ?_⟩
                  · refine SlotStep.plain rfl rfl rfl ?_
                    intro tm ws hsame hS hg K hK
                    obtain ⟨v141, e141, rfl⟩ := hg 2 (by kernel_rfl) _ 141 rfl rfl
                    go_simp
                    exact hK _ _ (Below.refl _ _) hS rfl
                  refine List.forall_mem_cons.2 ⟨?_, ?_⟩
                  · exact SlotStep.skip rfl rfl 3 false rfl rfl (by kernel_rfl) (fun _ _ h => h) (fun _ => trivial)
                  refine List.forall_mem_cons.2 ⟨?_, ?_⟩
                  · exact SlotStep.skip rfl rfl 3 false rfl rfl (by kernel_rfl) (fun _ _ h => h) (fun _ => trivial)
                  refine List.forall_mem_cons.2 ⟨?_, ?_⟩
                  · exact SlotStep.skip rfl rfl 3 false rfl rfl (by kernel_rfl) (fun _ _ h => h) (fun _ => trivial)
                  refine List.forall_mem_cons.2 ⟨?_, ?_⟩
                  · exact SlotStep.skip rfl rfl 3 false rfl rfl (by kernel_rfl) (fun _ _ h => h) (fun _ => trivial)
                  refine List.forall_mem_cons.2 ⟨?_, ?_⟩
                  · exact SlotStep.skip rfl rfl 3 false rfl rfl (by kernel_rfl) (fun _ _ h => h) (fun _ => trivial)
                  refine List.forall_mem_cons.2 ⟨?_, ?_⟩
                  · exact SlotStep.skip rfl rfl 3 false rfl rfl (by kernel_rfl) (fun _ _ h => h) (fun _ => trivial)
                  refine List.forall_mem_cons.2 ⟨?_, ?_⟩
                  · refine SlotStep.plain rfl rfl rfl ?_
                    intro tm ws hsame hS hg K hK
                    obtain ⟨v142, e142, rfl⟩ := hg 3 (by kernel_rfl) _ 142 rfl rfl
                    obtain ⟨v148, e148, -⟩ := hg 9 (by kernel_rfl) _ 148 rfl rfl
                    go_simp
                    exact hK _ _ (Below.refl _ _) hS rfl
                  refine List.forall_mem_cons.2 ⟨?_, ?_⟩
                  · refine SlotStep.plain rfl rfl rfl ?_
                    intro tm ws hsame hS hg K hK
                    obtain ⟨v149, e149, rfl⟩ := hg 10 (by kernel_rfl) _ 149 rfl rfl
                    go_simp
                    exact hK _ _ (Below.refl _ _) hS rfl
                  refine List.forall_mem_cons.2 ⟨?_, ?_⟩
                  · refine SlotStep.guarded rfl rfl 11 rfl rfl (by kernel_rfl) (fun _ _ h => h) ?_
                    intro tm ws hsame hS hg K hK
                    have e19 : tm[19]? = some (.pointer (some ⟨gv, 0, none⟩)) := hsame.2 19 rfl
                    obtain ⟨⟨k0, k1, k2⟩, -⟩ := slot3 (slot_kept HCV.out hS)
                    go_simp
                    exact hK _ _ (Below.refl _ _) hS rfl
                  refine List.forall_mem_cons.2 ⟨?_, ?_⟩
                  · refine SlotStep.guarded rfl rfl 11 rfl rfl (by kernel_rfl) (fun _ _ h => h) ?_
                    intro tm ws hsame hS hg K hK
                    obtain ⟨v151, e151, rfl⟩ := hg 12 (by kernel_rfl) _ 151 rfl rfl
                    go_simp
                    refine (qsign_num (HV.out.below hS)).mono ?_
                    rw [HS2.out]
                    rintro e wm ⟨rfl, hb⟩
                    exact hK _ _ hb ((hS.trans (Below.mono (hb) hS.size))) rfl
                  refine List.forall_mem_cons.2 ⟨?_, ?_⟩
                  · refine SlotStep.guarded rfl rfl 11 rfl rfl (by kernel_rfl) (fun _ _ h => h) ?_
                    intro tm ws hsame hS hg K hK
                    obtain ⟨v152, e152, rfl⟩ := hg 13 (by kernel_rfl) _ 152 rfl rfl
                    go_simp
                    exact hK _ _ (Below.refl _ _) hS rfl
                  refine List.forall_mem_cons.2 ⟨?_, ?_⟩
                  · refine SlotStep.plain rfl rfl rfl ?_
                    intro tm ws hsame hS hg K hK
                    obtain ⟨v150, e150, rfl⟩ := hg 11 (by kernel_rfl) _ 150 rfl rfl
                    obtain ⟨v153, e153, rfl⟩ := hg 14 (by kernel_rfl) _ 153 rfl rfl
                    go_simp
                    exact hK _ _ (Below.refl _ _) hS rfl
                  refine List.forall_mem_cons.2 ⟨?_, ?_⟩
                  · refine SlotStep.plain rfl rfl rfl ?_
                    intro tm ws hsame hS hg K hK
                    obtain ⟨v154, e154, rfl⟩ := hg 15 (by kernel_rfl) _ 154 rfl rfl
                    go_simp
                    exact hK _ _ (Below.refl _ _) hS rfl
                  refine List.forall_mem_cons.2 ⟨?_, ?_⟩
                  · refine SlotStep.guarded rfl rfl 16 rfl rfl (by kernel_rfl) (fun _ _ h => h) ?_
                    intro tm ws hsame hS hg K hK
                    have e19 : tm[19]? = some (.pointer (some ⟨gv, 0, none⟩)) := hsame.2 19 rfl
                    obtain ⟨⟨k0, k1, k2⟩, -⟩ := slot3 (slot_kept HCV.out hS)
                    go_simp
                    exact hK _ _ (Below.refl _ _) hS rfl
                  refine List.forall_mem_cons.2 ⟨?_, ?_⟩
                  · refine SlotStep.guarded rfl rfl 16 rfl rfl (by kernel_rfl) (fun _ _ h => h) ?_
                    intro tm ws hsame hS hg K hK
                    have e19 : tm[19]? = some (.pointer (some ⟨gv, 0, none⟩)) := hsame.2 19 rfl
                    obtain ⟨⟨k0, k1, k2⟩, -⟩ := slot3 (slot_kept HCV.out hS)
                    go_simp
                    exact hK _ _ (Below.refl _ _) hS rfl
                  refine List.forall_mem_cons.2 ⟨?_, ?_⟩
                  · refine SlotStep.guarded rfl rfl 16 rfl rfl (by kernel_rfl) (fun _ _ h => h) ?_
                    intro tm ws hsame hS hg K hK
                    obtain ⟨v156, e156, rfl⟩ := hg 17 (by kernel_rfl) _ 156 rfl rfl
                    obtain ⟨v157, e157, rfl⟩ := hg 18 (by kernel_rfl) _ 157 rfl rfl
                    go_simp
                    refine (qmul_num (HV.out.below hS) (HV.out.below hS) (by decide) (by decide) (by decide) (by decide) (by decide) (by decide)).mono ?_
                    rintro e wm ⟨pR, aR, nR, cR, ER, rfl, hR, hb⟩
                    exact hK _ _ hb ((hS.trans (Below.mono (hb) hS.size))) ⟨pR, aR, nR, cR, ER, rfl, by rw [HK1.out]; exact hR.mono (by decide) (by decide)⟩
                  refine List.forall_mem_cons.2 ⟨?_, ?_⟩
                  · refine SlotStep.guarded rfl rfl 16 rfl rfl (by kernel_rfl) (fun _ _ h => h) ?_
                    intro tm ws hsame hS hg K hK
                    have e9 : tm[9]? = some (.pointer (some ⟨w8.heap.size, 0, none⟩)) := hsame.2 9 rfl
                    obtain ⟨⟨k0, k1, k2⟩, -⟩ := slot3 (slot_kept HP22.out hS)
                    go_simp
                    exact hK _ _ (Below.refl _ _) hS rfl
                  refine List.forall_mem_cons.2 ⟨?_, ?_⟩
                  · refine SlotStep.guarded rfl rfl 16 rfl rfl (by kernel_rfl) (fun _ _ h => h) ?_
                    intro tm ws hsame hS hg K hK
                    obtain ⟨v158, e158, ⟨p158, a158, n158, c158, E158, rfl, g158⟩⟩ := hg 19 (by kernel_rfl) _ 158 rfl rfl
                    obtain ⟨v159, e159, rfl⟩ := hg 20 (by kernel_rfl) _ 159 rfl rfl
                    go_simp
                    refine (qcmp_num 200 g158 ((HX22.out.below hS).lift K1) (by decide) (by have := HK1.out; omega) (by decide) (by decide) (by have := HK1.out; omega) (by have := HK1.out; omega) (by have := HK1.out; omega)).mono ?_
                    rw [HQ4.out]
                    rintro e wm ⟨rfl, hb⟩
                    exact hK _ _ hb ((hS.trans (Below.mono (hb) hS.size))) rfl
                  refine List.forall_mem_cons.2 ⟨?_, ?_⟩
                  · refine SlotStep.guarded rfl rfl 16 rfl rfl (by kernel_rfl) (fun _ _ h => h) ?_
                    intro tm ws hsame hS hg K hK
                    obtain ⟨v160, e160, rfl⟩ := hg 21 (by kernel_rfl) _ 160 rfl rfl
                    go_simp
                    exact hK _ _ (Below.refl _ _) hS rfl
                  refine List.forall_mem_cons.2 ⟨?_, ?_⟩
                  · refine SlotStep.plain rfl rfl rfl ?_
                    intro tm ws hsame hS hg K hK
                    obtain ⟨v155, e155, rfl⟩ := hg 16 (by kernel_rfl) _ 155 rfl rfl
                    obtain ⟨v161, e161, rfl⟩ := hg 22 (by kernel_rfl) _ 161 rfl rfl
                    go_simp
                    exact hK _ _ (Below.refl _ _) hS rfl
                  refine List.forall_mem_cons.2 ⟨?_, ?_⟩
                  · refine SlotStep.plain rfl rfl rfl ?_
                    intro tm ws hsame hS hg K hK
                    obtain ⟨v162, e162, rfl⟩ := hg 23 (by kernel_rfl) _ 162 rfl rfl
                    go_simp
                    exact hK _ _ (Below.refl _ _) hS rfl
                  exact fun _ h => nomatch h
                case fin =>
                  intro tm w23 hsame hS hgot
                  obtain ⟨uz, hu, htm⟩ := hsame.form (by kernel_rfl)
                  obtain ⟨v8, e8, rfl⟩ := hgot 24 _ 8 rfl rfl
                  have h8 := hu _ _ e8
                  have HBX := Lib.hid hS
                  clear hgot hu hsame e8 hS
                  rw [htm]
                  clear htm tm
                  simp only [List.foldl_cons, List.foldl_nil, List.setIfInBounds_toArray, List.set_cons_zero, List.set_cons_succ, h8]
                  clear h8
                  go_wp2_with fail
                  go_ret
                  exact ⟨rfl, HBW21.out.trans ((HBN.out.trans (HBX.out.mono HBN.out.size)).mono HBW21.out.size)⟩
              · have hs1n : ¬ s1 ≤ 0 := by
                  rw [← hs1, cmpI_gt (by omega)]; decide
                have hn3 : q3 ≤ 0 := by
                  rw [← hq3]
                  rcases HRG.out.1 with h0 | h0
                  · omega
                  · rcases Int.lt_or_eq_of_le h0 with h1 | h1
                    · rw [cmpI_lt h1]; decide
                    · rw [cmpI_eq h1]; decide
                clear hs1 hs2 hq3 hq4 hlow
                go_upto_region 19 with fail
                rw [← HWN.out]
                refine wp_region_slots (by kernel_rfl) [139, 140, 141, 142, 143, 144, 145, 146, 147, 148, 149, 150, 151, 152, 153, 154, 155, 156, 157, 158, 159, 160, 161, 162, 8] (fun w' => (Below w22.heap.size w22 w')) (Said [Is (.agg #[.bool pu, .slice au nu cu, .int .i64 Eu]), Is (.int .i64 s1), Is (.bool false), Is (.bool false), Is (.agg #[.bool pu, .slice au nu cu, .int .i64 Eu]), Is (.agg #[.bool pu, .slice au nu cu, .int .i64 Eu]), IsQZ (1074 + K1) (fv rl * fv rl) 4 5000, Is (.agg #[.bool p1, .slice a1 n1 c1, .int .i64 E1]), Is (.int .i64 q3), Is (.bool true), Is (.bool true), Is (.bool true), Is (.agg #[.bool pv, .slice av nv cv, .int .i64 Ev]), Is (.int .i64 s2), Is (.bool true), Is (.bool true), Is (.bool true), Is (.agg #[.bool pv, .slice av nv cv, .int .i64 Ev]), Is (.agg #[.bool pv, .slice av nv cv, .int .i64 Ev]), IsQZ (1074 + K1) (fv rh * fv rh) 4 5000, Is (.agg #[.bool p1, .slice a1 n1 c1, .int .i64 E1]), Is (.int .i64 q4), Is (.bool true), Is (.bool true), Is (.bool true)]) (by kernel_rfl) (by kernel_rfl) (by kernel_rfl) (by kernel_rfl) (Said.keep ?keep) ((bdn (Below.refl _ _) 1)) (l := [0, 1, 2, 3, 4, 5, 6, 7, 8, 9, 10, 11, 12, 13, 14, 15, 16, 17, 18, 19, 20, 21, 22, 23, 24]) (by kernel_rfl) ?step ?fin
                case keep =>
                  refine List.forall_mem_cons.2 ⟨Is.keeps _, ?_⟩
                  refine List.forall_mem_cons.2 ⟨Is.keeps _, ?_⟩
                  refine List.forall_mem_cons.2 ⟨Is.keeps _, ?_⟩
                  refine List.forall_mem_cons.2 ⟨Is.keeps _, ?_⟩
                  refine List.forall_mem_cons.2 ⟨Is.keeps _, ?_⟩
                  refine List.forall_mem_cons.2 ⟨Is.keeps _, ?_⟩
                  refine List.forall_mem_cons.2 ⟨IsQZ.keeps _ _ _ _, ?_⟩
                  refine List.forall_mem_cons.2 ⟨Is.keeps _, ?_⟩
                  refine List.forall_mem_cons.2 ⟨Is.keeps _, ?_⟩
                  refine List.forall_mem_cons.2 ⟨Is.keeps _, ?_⟩
                  refine List.forall_mem_cons.2 ⟨Is.keeps _, ?_⟩
                  refine List.forall_mem_cons.2 ⟨Is.keeps _, ?_⟩
                  refine List.forall_mem_cons.2 ⟨Is.keeps _, ?_⟩
                  refine List.forall_mem_cons.2 ⟨Is.keeps _, ?_⟩
                  refine List.forall_mem_cons.2 ⟨Is.keeps _, ?_⟩
                  refine List.forall_mem_cons.2 ⟨Is.keeps _, ?_⟩
                  refine List.forall_mem_cons.2 ⟨Is.keeps _, ?_⟩
                  refine List.forall_mem_cons.2 ⟨Is.keeps _, ?_⟩
                  refine List.forall_mem_cons.2 ⟨Is.keeps _, ?_⟩
                  refine List.forall_mem_cons.2 ⟨IsQZ.keeps _ _ _ _, ?_⟩
                  refine List.forall_mem_cons.2 ⟨Is.keeps _, ?_⟩
                  refine List.forall_mem_cons.2 ⟨Is.keeps _, ?_⟩
                  refine List.forall_mem_cons.2 ⟨Is.keeps _, ?_⟩
                  refine List.forall_mem_cons.2 ⟨Is.keeps _, ?_⟩
                  refine List.forall_mem_cons.2 ⟨Is.keeps _, ?_⟩
                  exact fun _ h => nomatch h
                case step =>
                  refine List.forall_mem_cons.2 ⟨?_, ?_⟩
                  · refine SlotStep.plain rfl rfl rfl ?_
                    intro tm ws hsame hS hg K hK
                    have e18 : tm[18]? = some (.pointer (some ⟨gu, 0, none⟩)) := hsame.2 18 rfl
                    obtain ⟨⟨k0, k1, k2⟩, -⟩ := slot3 (slot_kept HCU.out hS)
                    go_simp
                    exact hK _ _ (Below.refl _ _) hS rfl
                  refine List.forall_mem_cons.2 ⟨?_, ?_⟩
                  · refine SlotStep.plain rfl rfl rfl ?_
                    intro tm ws hsame hS hg K hK
                    obtain ⟨v139, e139, rfl⟩ := hg 0 (by kernel_rfl) _ 139 rfl rfl
                    go_simp
                    refine (qsign_num (HU.out.below hS)).mono ?_
                    rw [HS1.out]
                    rintro e wm ⟨rfl, hb⟩
                    exact hK _ _ hb ((hS.trans (Below.mono (hb) hS.size))) rfl
                  refine List.forall_mem_cons.2 ⟨?_, ?_⟩
                  · refine SlotStep.plain rfl rfl rfl ?_
                    intro tm ws hsame hS hg K hK
                    obtain ⟨v140, e140, rfl⟩ := hg 1 (by kernel_rfl) _ 140 rfl rfl
                    go_simp
                    exact hK _ _ (Below.refl _ _) hS rfl
                  refine List.forall_mem_cons.2 ⟨?_, ?_⟩
                  · refine SlotStep.plain rfl rfl rfl ?_
                    intro tm ws hsame hS hg K hK
                    obtain ⟨v141, e141, rfl⟩ := hg 2 (by kernel_rfl) _ 141 rfl rfl
                    go_simp
                    exact hK _ _ (Below.refl _ _) hS rfl
                  refine List.forall_mem_cons.2 ⟨?_, ?_⟩
                  · refine SlotStep.guardedNot rfl rfl 3 rfl rfl (by kernel_rfl) (fun _ _ h => h) ?_
                    intro tm ws hsame hS hg K hK
                    have e18 : tm[18]? = some (.pointer (some ⟨gu, 0, none⟩)) := hsame.2 18 rfl
                    obtain ⟨⟨k0, k1, k2⟩, -⟩ := slot3 (slot_kept HCU.out hS)
                    go_simp
                    exact hK _ _ (Below.refl _ _) hS rfl
                  refine List.forall_mem_cons.2 ⟨?_, ?_⟩
                  · refine SlotStep.guardedNot rfl rfl 3 rfl rfl (by kernel_rfl) (fun _ _ h => h) ?_
                    intro tm ws hsame hS hg K hK
                    have e18 : tm[18]? = some (.pointer (some ⟨gu, 0, none⟩)) := hsame.2 18 rfl
                    obtain ⟨⟨k0, k1, k2⟩, -⟩ := slot3 (slot_kept HCU.out hS)
                    go_simp
                    exact hK _ _ (Below.refl _ _) hS rfl
                  refine List.forall_mem_cons.2 ⟨?_, ?_⟩
                  · refine SlotStep.guardedNot rfl rfl 3 rfl rfl (by kernel_rfl) (fun _ _ h => h) ?_
                    intro tm ws hsame hS hg K hK
                    obtain ⟨v143, e143, rfl⟩ := hg 4 (by kernel_rfl) _ 143 rfl rfl
                    obtain ⟨v144, e144, rfl⟩ := hg 5 (by kernel_rfl) _ 144 rfl rfl
                    go_simp
                    refine (qmul_num (HU.out.below hS) (HU.out.below hS) (by decide) (by decide) (by decide) (by decide) (by decide) (by decide)).mono ?_
                    rintro e wm ⟨pR, aR, nR, cR, ER, rfl, hR, hb⟩
                    exact hK _ _ hb ((hS.trans (Below.mono (hb) hS.size))) ⟨pR, aR, nR, cR, ER, rfl, by rw [HK1.out]; exact hR.mono (by decide) (by decide)⟩
                  refine List.forall_mem_cons.2 ⟨?_, ?_⟩
                  · refine SlotStep.guardedNot rfl rfl 3 rfl rfl (by kernel_rfl) (fun _ _ h => h) ?_
                    intro tm ws hsame hS hg K hK
                    have e9 : tm[9]? = some (.pointer (some ⟨w8.heap.size, 0, none⟩)) := hsame.2 9 rfl
                    obtain ⟨⟨k0, k1, k2⟩, -⟩ := slot3 (slot_kept HP22.out hS)
                    go_simp
                    exact hK _ _ (Below.refl _ _) hS rfl
                  refine List.forall_mem_cons.2 ⟨?_, ?_⟩
                  · refine SlotStep.guardedNot rfl rfl 3 rfl rfl (by kernel_rfl) (fun _ _ h => h) ?_
                    intro tm ws hsame hS hg K hK
                    obtain ⟨v145, e145, ⟨p145, a145, n145, c145, E145, rfl, g145⟩⟩ := hg 6 (by kernel_rfl) _ 145 rfl rfl
                    obtain ⟨v146, e146, rfl⟩ := hg 7 (by kernel_rfl) _ 146 rfl rfl
                    go_simp
                    refine (qcmp_num 200 g145 ((HX22.out.below hS).lift K1) (by decide) (by have := HK1.out; omega) (by decide) (by decide) (by have := HK1.out; omega) (by have := HK1.out; omega) (by have := HK1.out; omega)).mono ?_
                    rw [HQ3.out]
                    rintro e wm ⟨rfl, hb⟩
                    exact hK _ _ hb ((hS.trans (Below.mono (hb) hS.size))) rfl
                  refine List.forall_mem_cons.2 ⟨?_, ?_⟩
                  · refine SlotStep.guardedNot rfl rfl 3 rfl rfl (by kernel_rfl) (fun _ _ h => h) ?_
                    intro tm ws hsame hS hg K hK
                    obtain ⟨v147, e147, rfl⟩ := hg 8 (by kernel_rfl) _ 147 rfl rfl
                    go_simp
                    exact hK _ _ (Below.refl _ _) hS rfl
                  refine List.forall_mem_cons.2 ⟨?_, ?_⟩
                  · refine SlotStep.plain rfl rfl rfl ?_
                    intro tm ws hsame hS hg K hK
                    obtain ⟨v142, e142, rfl⟩ := hg 3 (by kernel_rfl) _ 142 rfl rfl
                    obtain ⟨v148, e148, rfl⟩ := hg 9 (by kernel_rfl) _ 148 rfl rfl
                    go_simp
                    exact hK _ _ (Below.refl _ _) hS rfl
                  refine List.forall_mem_cons.2 ⟨?_, ?_⟩
                  · refine SlotStep.plain rfl rfl rfl ?_
                    intro tm ws hsame hS hg K hK
                    obtain ⟨v149, e149, rfl⟩ := hg 10 (by kernel_rfl) _ 149 rfl rfl
                    go_simp
                    exact hK _ _ (Below.refl _ _) hS rfl
                  refine List.forall_mem_cons.2 ⟨?_, ?_⟩
                  · refine SlotStep.guarded rfl rfl 11 rfl rfl (by kernel_rfl) (fun _ _ h => h) ?_
                    intro tm ws hsame hS hg K hK
                    have e19 : tm[19]? = some (.pointer (some ⟨gv, 0, none⟩)) := hsame.2 19 rfl
                    obtain ⟨⟨k0, k1, k2⟩, -⟩ := slot3 (slot_kept HCV.out hS)
                    go_simp
                    exact hK _ _ (Below.refl _ _) hS rfl
                  refine List.forall_mem_cons.2 ⟨?_, ?_⟩
                  · refine SlotStep.guarded rfl rfl 11 rfl rfl (by kernel_rfl) (fun _ _ h => h) ?_
                    intro tm ws hsame hS hg K hK
                    obtain ⟨v151, e151, rfl⟩ := hg 12 (by kernel_rfl) _ 151 rfl rfl
                    go_simp
                    refine (qsign_num (HV.out.below hS)).mono ?_
                    rw [HS2.out]
                    rintro e wm ⟨rfl, hb⟩
                    exact hK _ _ hb ((hS.trans (Below.mono (hb) hS.size))) rfl
                  refine List.forall_mem_cons.2 ⟨?_, ?_⟩
                  · refine SlotStep.guarded rfl rfl 11 rfl rfl (by kernel_rfl) (fun _ _ h => h) ?_
                    intro tm ws hsame hS hg K hK
                    obtain ⟨v152, e152, rfl⟩ := hg 13 (by kernel_rfl) _ 152 rfl rfl
                    go_simp
                    exact hK _ _ (Below.refl _ _) hS rfl
                  refine List.forall_mem_cons.2 ⟨?_, ?_⟩
                  · refine SlotStep.plain rfl rfl rfl ?_
                    intro tm ws hsame hS hg K hK
                    obtain ⟨v150, e150, rfl⟩ := hg 11 (by kernel_rfl) _ 150 rfl rfl
                    obtain ⟨v153, e153, rfl⟩ := hg 14 (by kernel_rfl) _ 153 rfl rfl
                    go_simp
                    exact hK _ _ (Below.refl _ _) hS rfl
                  refine List.forall_mem_cons.2 ⟨?_, ?_⟩
                  · refine SlotStep.plain rfl rfl rfl ?_
                    intro tm ws hsame hS hg K hK
                    obtain ⟨v154, e154, rfl⟩ := hg 15 (by kernel_rfl) _ 154 rfl rfl
                    go_simp
                    exact hK _ _ (Below.refl _ _) hS rfl
                  refine List.forall_mem_cons.2 ⟨?_, ?_⟩
                  · refine SlotStep.guarded rfl rfl 16 rfl rfl (by kernel_rfl) (fun _ _ h => h) ?_
                    intro tm ws hsame hS hg K hK
                    have e19 : tm[19]? = some (.pointer (some ⟨gv, 0, none⟩)) := hsame.2 19 rfl
                    obtain ⟨⟨k0, k1, k2⟩, -⟩ := slot3 (slot_kept HCV.out hS)
                    go_simp
                    exact hK _ _ (Below.refl _ _) hS rfl
                  refine List.forall_mem_cons.2 ⟨?_, ?_⟩
                  · refine SlotStep.guarded rfl rfl 16 rfl rfl (by kernel_rfl) (fun _ _ h => h) ?_
                    intro tm ws hsame hS hg K hK
                    have e19 : tm[19]? = some (.pointer (some ⟨gv, 0, none⟩)) := hsame.2 19 rfl
                    obtain ⟨⟨k0, k1, k2⟩, -⟩ := slot3 (slot_kept HCV.out hS)
                    go_simp
                    exact hK _ _ (Below.refl _ _) hS rfl
                  refine List.forall_mem_cons.2 ⟨?_, ?_⟩
                  · refine SlotStep.guarded rfl rfl 16 rfl rfl (by kernel_rfl) (fun _ _ h => h) ?_
                    intro tm ws hsame hS hg K hK
                    obtain ⟨v156, e156, rfl⟩ := hg 17 (by kernel_rfl) _ 156 rfl rfl
                    obtain ⟨v157, e157, rfl⟩ := hg 18 (by kernel_rfl) _ 157 rfl rfl
                    go_simp
                    refine (qmul_num (HV.out.below hS) (HV.out.below hS) (by decide) (by decide) (by decide) (by decide) (by decide) (by decide)).mono ?_
                    rintro e wm ⟨pR, aR, nR, cR, ER, rfl, hR, hb⟩
                    exact hK _ _ hb ((hS.trans (Below.mono (hb) hS.size))) ⟨pR, aR, nR, cR, ER, rfl, by rw [HK1.out]; exact hR.mono (by decide) (by decide)⟩
                  refine List.forall_mem_cons.2 ⟨?_, ?_⟩
                  · refine SlotStep.guarded rfl rfl 16 rfl rfl (by kernel_rfl) (fun _ _ h => h) ?_
                    intro tm ws hsame hS hg K hK
                    have e9 : tm[9]? = some (.pointer (some ⟨w8.heap.size, 0, none⟩)) := hsame.2 9 rfl
                    obtain ⟨⟨k0, k1, k2⟩, -⟩ := slot3 (slot_kept HP22.out hS)
                    go_simp
                    exact hK _ _ (Below.refl _ _) hS rfl
                  refine List.forall_mem_cons.2 ⟨?_, ?_⟩
                  · refine SlotStep.guarded rfl rfl 16 rfl rfl (by kernel_rfl) (fun _ _ h => h) ?_
                    intro tm ws hsame hS hg K hK
                    obtain ⟨v158, e158, ⟨p158, a158, n158, c158, E158, rfl, g158⟩⟩ := hg 19 (by kernel_rfl) _ 158 rfl rfl
                    obtain ⟨v159, e159, rfl⟩ := hg 20 (by kernel_rfl) _ 159 rfl rfl
                    go_simp
                    refine (qcmp_num 200 g158 ((HX22.out.below hS).lift K1) (by decide) (by have := HK1.out; omega) (by decide) (by decide) (by have := HK1.out; omega) (by have := HK1.out; omega) (by have := HK1.out; omega)).mono ?_
                    rw [HQ4.out]
                    rintro e wm ⟨rfl, hb⟩
                    exact hK _ _ hb ((hS.trans (Below.mono (hb) hS.size))) rfl
                  refine List.forall_mem_cons.2 ⟨?_, ?_⟩
                  · refine SlotStep.guarded rfl rfl 16 rfl rfl (by kernel_rfl) (fun _ _ h => h) ?_
                    intro tm ws hsame hS hg K hK
                    obtain ⟨v160, e160, rfl⟩ := hg 21 (by kernel_rfl) _ 160 rfl rfl
                    go_simp
                    exact hK _ _ (Below.refl _ _) hS rfl
                  refine List.forall_mem_cons.2 ⟨?_, ?_⟩
                  · refine SlotStep.plain rfl rfl rfl ?_
                    intro tm ws hsame hS hg K hK
                    obtain ⟨v155, e155, rfl⟩ := hg 16 (by kernel_rfl) _ 155 rfl rfl
                    obtain ⟨v161, e161, rfl⟩ := hg 22 (by kernel_rfl) _ 161 rfl rfl
                    go_simp
                    exact hK _ _ (Below.refl _ _) hS rfl
                  refine List.forall_mem_cons.2 ⟨?_, ?_⟩
                  · refine SlotStep.plain rfl rfl rfl ?_
                    intro tm ws hsame hS hg K hK
                    obtain ⟨v162, e162, rfl⟩ := hg 23 (by kernel_rfl) _ 162 rfl rfl
                    go_simp
                    exact hK _ _ (Below.refl _ _) hS rfl
                  exact fun _ h => nomatch h
                case fin =>
                  intro tm w23 hsame hS hgot
                  obtain ⟨uz, hu, htm⟩ := hsame.form (by kernel_rfl)
                  obtain ⟨v8, e8, rfl⟩ := hgot 24 _ 8 rfl rfl
                  have h8 := hu _ _ e8
                  have HBX := Lib.hid hS
                  clear hgot hu hsame e8 hS
                  rw [htm]
                  clear htm tm
                  simp only [List.foldl_cons, List.foldl_nil, List.setIfInBounds_toArray, List.set_cons_zero, List.set_cons_succ, h8]
                  clear h8
                  go_wp2_with fail
                  go_ret
                  exact ⟨rfl, HBW21.out.trans ((HBN.out.trans (HBX.out.mono HBN.out.size)).mono HBW21.out.size)⟩
end Go.Proofs.YtjmipbljoblnnaaDoor
