/-
  Num2: Products and quotients in the words of XNum. Slices of slices that the call itself makes.
  Sqrt: Contract of nat.Sqrt for numbers of at most 140 words: the root and what is left.
  Powers: Contract of nat.chunkPowers: 10^19 and its repeated squares.
-/
import Derived.Test.YtkkjkohmekbdbaaPk11
import Derived.Test.YtkkjkohmekbdbaaPk16
import Derived.Test.YtkkjkohmekbdbaaPk17
import Derived.Test.YtkkjkohmekbdbaaPk5
import Derived.Test.YtkkjkohmekbdbaaProg
import Derived.Maps.AppendAt

namespace Go.Proofs.Ytkkjkohmekbdbaa
open Go.RowKit


/-- The same, and true. -/
def RetDN (w : World) (N M : Int) (m k : Nat) (e : Ending) (w' : World) : Prop :=
  ∃ a n c a' n' c', e = .returned (.tuple #[.slice a n c, .slice a' n' c', .bool true]) ∧ NewN w.heap.size w' (.slice a n c) N m ∧ NewN w.heap.size w' (.slice a' n' c') M k ∧ Dis (.slice a n c) (.slice a' n' c') ∧ Below w.heap.size w w'

theorem At.grown {w w' : World} {b off : Nat} {l : List Int} {row : Option Nat} (h : At w b off l) (hg : w.grownBy w' row) (hne : row ≠ some b) : At w' b off l := by
  intro j hj
  have hl : l ≠ [] := by intro e; subst e; simp at hj
  rw [World.cell?_of_block (w := w) (hg.block b (h.lt hl) (fun e => hne e.symm))]
  exact h j hj
theorem Rd.grown {w w' : World} {ao : Option Addr} {l : List Int} {row : Option Nat} (h : Rd w ao l) (hg : w.grownBy w' row) (hne : l ≠ [] → ∀ b o, ao = some ⟨b, o, none⟩ → row ≠ some b) : Rd w' ao l := by
  rcases h with rfl | ⟨b, off, e, h⟩
  · exact Rd.nil _ _
  · by_cases hl : l = []
    · subst hl; exact Rd.nil _ _
    · exact Or.inr ⟨b, off, e, h.grown hg (hne hl b off e)⟩

theorem grown_below {B : Nat} {w w' : World} {row : Option Nat} (h : w.grownBy w' row) (hB : B ≤ w.heap.size) (hr : ∀ g, row = some g → B ≤ g) : Below B w w' := (Below.refl _ _).grown h hB hr

theorem newv1 (w : World) (a : Value) (t : TypeId) : ∀ j u, [a][j]? = some u → (w.alloc (.cells #[a] t)).cell? ((⟨w.heap.size, 0, none⟩ : Addr).add j) = some u := by
  intro j u hu
  rw [addr_add_none, Nat.zero_add, World.cell?_alloc_new]
  match j, hu with
  | 0, hu => simpa using hu

end Go.Proofs.Ytkkjkohmekbdbaa

namespace Go.Proofs.Ytkkjkohmekbdbaa
open Go.RowKit

theorem root_id1 {N H M1 M0 t r q u P : Int} (hN : N = (H * P + M1) * P + M0) (hr : r = H - t * t) (he : 2 * t * q + u = r * P + M1) : N = (t * P + q) * (t * P + q) + (u * P + M0) - q * q := by grind
theorem root_id2 {N R rest Q : Int} (h : N = R * R + rest - Q) : rest + R + (R - 1) - Q = N - (R - 1) * (R - 1) := by grind

/-- The top half's root is not small. -/
theorem root_big {H t p : Int} (hp : 1 ≤ p) (hH : 2 * (p * p) ≤ H) (h : IsRoot H t) : p ≤ t := by
  obtain ⟨h1, h2, h3⟩ := h
  rcases Int.lt_or_le t p with a | a
  · have h4 : (t + 1) * (t + 1) ≤ p * p := Int.mul_le_mul (by omega) (by omega) (by omega) (by omega)
    have h5 : 1 * 1 ≤ p * p := Int.mul_le_mul hp hp (by omega) (by omega)
    omega
  · exact a

/-- The root's upper half, its rest, and the quotient: the root, or one more. -/
theorem root_step {N H M1 M0 t q u P R rest : Int} (hP : 1 ≤ P) (hN : N = (H * P + M1) * P + M0) (h10 : 0 ≤ M1) (h11 : M1 < P) (h00 : 0 ≤ M0) (h01 : M0 < P) (ht : IsRoot H t) (hT : P ≤ 2 * t)
    (hq : q = ((H - t * t) * P + M1) / (2 * t)) (hu : u = ((H - t * t) * P + M1) % (2 * t)) (hR : R = t * P + q) (hrest : rest = u * P + M0) :
    0 ≤ q ∧ 0 ≤ u ∧ q ≤ P ∧ (q * q ≤ rest → IsRoot N R ∧ rest - q * q = N - R * R) ∧ (rest < q * q → 1 ≤ R ∧ IsRoot N (R - 1) ∧ rest + R + (R - 1) - q * q = N - (R - 1) * (R - 1)) := by
  obtain ⟨t0, t1, t2⟩ := ht
  obtain ⟨r, hr⟩ : ∃ r, r = H - t * t := ⟨_, rfl⟩
  rw [← hr] at hq hu
  have hr0 : 0 ≤ r := by omega
  have hr2 : r ≤ 2 * t := by
    have e : (t + 1) * (t + 1) = t * t + 2 * t + 1 := by grind
    omega
  have hrP : 0 ≤ r * P := Int.mul_nonneg hr0 (by omega)
  have hrP2 : r * P ≤ 2 * t * P := Int.mul_le_mul_of_nonneg_right hr2 (by omega)
  have htt : 0 < 2 * t := by omega
  have hq0 : 0 ≤ q := by rw [hq]; exact Int.ediv_nonneg (by omega) (by omega)
  have hu0 : 0 ≤ u := by rw [hu]; exact Int.emod_nonneg _ (by omega)
  have hu1 : u < 2 * t := by rw [hu]; exact Int.emod_lt_of_pos _ htt
  have hqP : q ≤ P := by
    have h1 : q < P + 1 := by
      rw [hq]
      refine Int.ediv_lt_of_lt_mul htt ?_
      have e : (P + 1) * (2 * t) = 2 * t * P + 2 * t := by grind
      omega
    omega
  have he : 2 * t * q + u = r * P + M1 := by rw [hq, hu]; exact Int.mul_ediv_add_emod _ _
  have hid := root_id1 hN hr he
  rw [← hR, ← hrest] at hid
  have hrest0 : 0 ≤ rest := by
    have := Int.mul_nonneg hu0 (show 0 ≤ P by omega)
    omega
  have hrest1 : rest < 2 * t * P := by
    have h1 : (u + 1) * P ≤ 2 * t * P := Int.mul_le_mul_of_nonneg_right (by omega) (by omega)
    have e : (u + 1) * P = u * P + P := by grind
    omega
  have htP : 0 ≤ t * P := Int.mul_nonneg t0 (by omega)
  have e2 : 2 * t * P = 2 * (t * P) := by grind
  have hR0 : 0 ≤ R := by omega
  have hqq : 0 ≤ q * q := Int.mul_nonneg hq0 hq0
  refine ⟨hq0, hu0, hqP, fun h => ⟨⟨hR0, by omega, ?_⟩, by omega⟩, fun h => ?_⟩
  · have e : (R + 1) * (R + 1) = R * R + 2 * R + 1 := by grind
    omega
  · have hq1 : 1 ≤ q := by
      rcases Int.lt_or_le q 1 with a | a
      · have e : q = 0 := by omega
        subst e; omega
      · exact a
    have hPP : q * q ≤ P * P := Int.mul_le_mul hqP hqP hq0 (by omega)
    have hPP2 : P * P ≤ 2 * t * P := Int.mul_le_mul_of_nonneg_right hT (by omega)
    have h3 := root_id2 hid
    refine ⟨by omega, ⟨by omega, by omega, ?_⟩, h3⟩
    have e : (R - 1 + 1) * (R - 1 + 1) = R * R := by grind
    omega

theorem NewN.tight {base : Nat} {w : World} {v : Value} {N : Int} {m k : Nat} (h : NewN base w v N m) (hk : N < B64 ^ k) : NewN base w v N k := by
  obtain ⟨l, h1, h2, h3, h4⟩ := h
  exact h1.newn h2 h3 hk

/-- What nat.Sqrt leaves. -/
def RetSq (w : World) (N : Int) (m : Nat) (e : Ending) (w' : World) : Prop := ∃ R, IsRoot N R ∧ RetN2 w R (N - R * R) m m e w'

theorem sq_le {N R : Int} (h : IsRoot N R) : R ≤ N := by
  obtain ⟨h0, h1, h2⟩ := h
  rcases Int.lt_or_le 0 R with a | a
  · have := Int.mul_le_mul_of_nonneg_left (show 1 ≤ R by omega) h0
    omega
  · have : 0 ≤ R * R := Int.mul_nonneg h0 h0
    omega

theorem two_pow_sum {a b : Nat} : (2 : Int) ^ (a + b) = 2 ^ a * 2 ^ b := Int.pow_add ..

end Go.Proofs.Ytkkjkohmekbdbaa

namespace Go.Proofs.Ytkkjkohmekbdbaa
open Go.RowKit

/-- 10^19, squared i times. -/
def pw (i : Nat) : Int := 10 ^ (19 * 2 ^ i)
theorem pw_succ (i : Nat) : pw i * pw i = pw (i + 1) := by
  unfold pw
  rw [← Int.pow_add]
  congr 1
  rw [Nat.pow_succ]; omega
theorem pw_pos (i : Nat) : 0 < pw i := Int.pow_pos (by decide)
theorem pw_ge (i : Nat) : (2 : Int) ^ i ≤ pw i := by
  unfold pw
  have h1 : (2 : Int) ^ i ≤ 10 ^ i := by
    induction i with
    | zero => decide
    | succ i ih =>
      rw [Int.pow_succ, Int.pow_succ]
      have : (0:Int) < 2 ^ i := Int.pow_pos (by decide)
      omega
  have h2 : i ≤ 19 * 2 ^ i := by have := Nat.lt_two_pow_self (n := i); omega
  exact Int.le_trans h1 (pow_le_pow (by decide) h2)

/-- A number that lies in memory, in no row that is being grown. -/
def NumX (w : World) (row : Option Nat) (v : Value) (N : Int) (m : Nat) : Prop := Num w v N m ∧ ∀ g, v.ownBlock = some g → row ≠ some g ∧ g < w.heap.size
theorem Num.grown {w w' : World} {row : Option Nat} {v : Value} {N : Int} {m : Nat} (h : Num w v N m) (hg : w.grownBy w' row) (hne : ∀ g, v.ownBlock = some g → row ≠ some g) : Num w' v N m := by
  obtain ⟨l, ⟨a, c, rfl, h1, h2, h3, h4⟩, h5, h6⟩ := h
  exact ⟨l, ⟨a, c, rfl, h1, h2, h3.grown hg (fun _ b o e => hne b (by rw [e]; rfl)), h4⟩, h5, h6⟩
theorem NumX.grown {w w' : World} {row row' : Option Nat} {v : Value} {N : Int} {m : Nat} (h : NumX w row v N m) (hg : w.grownBy w' row) (hr : row' = row ∨ row' = some w.heap.size) : NumX w' row' v N m := by
  obtain ⟨h1, h2⟩ := h
  refine ⟨h1.grown hg (fun g e => (h2 g e).1), fun g e => ⟨?_, ?_⟩⟩
  · have := h2 g e
    rcases hr with rfl | rfl
    · exact this.1
    · intro e2
      simp at e2
      omega
  · have := hg.size; have := (h2 g e).2; omega
theorem NumX.below {w w' : World} {row : Option Nat} {v : Value} {N : Int} {m : Nat} (h : NumX w row v N m) (hb : Below w.heap.size w w') : NumX w' row v N m :=
  ⟨h.1.below hb, fun g e => ⟨(h.2 g e).1, by have := hb.size; have := (h.2 g e).2; omega⟩⟩
theorem NumX.alloc {w : World} {row : Option Nat} {v : Value} {N : Int} {m : Nat} (h : NumX w row v N m) (o : Obj) : NumX (w.alloc o) row v N m := h.below (below_alloc w o)

/-- The powers in a row. -/
def PowX (w : World) (row : Option Nat) (vs : List Value) (m : Nat) : Prop := ∀ j, j < vs.length → NumX w row (vs.getD j undef) (pw j) m
theorem getD_snoc {vs : List Value} {v : Value} {j : Nat} : (vs ++ [v]).getD j undef = if j < vs.length then vs.getD j undef else if j = vs.length then v else undef := by
  rw [List.getD_eq_getElem?_getD, List.getElem?_append]
  split
  · rw [List.getD_eq_getElem?_getD]
  · rename_i h
    by_cases h2 : j = vs.length
    · subst h2; simp
    · rw [if_neg h2, List.getElem?_eq_none (by simp; omega)]; rfl

theorem nb_lt_self {N : Int} : N < 2 ^ nb N := by
  rcases Int.lt_or_le 0 N with h | h
  · exact (nb_spec h).2.1
  · have := pow2_pos (nb N); omega
theorem nb_ge {N : Int} {k : Nat} (h : (2 : Int) ^ k ≤ N) : k + 1 ≤ nb N := by
  rcases Nat.lt_or_ge k (nb N) with h1 | h1
  · exact h1
  · have h2 := nb_lt_self (N := N)
    have h3 : (2 : Int) ^ nb N ≤ 2 ^ k := pow_le_pow (by decide) h1
    omega
theorem break_lt {P N : Int} (hP : 0 < P) (h : nb N + 2 ≤ 2 * nb P) : N < P * P := by
  obtain ⟨h1, _, h3⟩ := nb_spec hP
  have h4 : (2 : Int) ^ nb N ≤ 2 ^ ((nb P - 1) + (nb P - 1)) := pow_le_pow (by decide) (by omega)
  rw [Int.pow_add] at h4
  have h5 : (2 : Int) ^ (nb P - 1) * 2 ^ (nb P - 1) ≤ P * P := Int.mul_le_mul h1 h1 (Int.le_of_lt (pow2_pos _)) (by omega)
  have := nb_lt_self (N := N)
  omega

end Go.Proofs.Ytkkjkohmekbdbaa
