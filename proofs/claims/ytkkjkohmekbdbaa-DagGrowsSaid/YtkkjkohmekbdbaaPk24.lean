/-
  ShiftB: Contract of the document's own Low: how many zero bits a number ends with. The document's own DivMod and Sqrt, at the level of numbers. Contracts of the statements' own lists: copies, lists that are lent with room behind them, and whether they have stayed as they were; append of words to nothing. Contract of the document's own Sub, of a number and one that is not above it. What the statement NatShifts wants besides: Low of every number, shifts by negative counts and out of range, one light list, equal numbers.
  RefZ: Integers as the document's own dyads hold them: a sign, an odd amount, a power of two. Contracts of Make, Sign and Not.
  SlotsT: A region that draws its order and ends with a forced tail, by what its slots hold, where the kept fact may speak of the slots, too; two new variables that lie apart.
-/
import Derived.Test.YtkkjkohmekbdbaaPk10
import Derived.Test.YtkkjkohmekbdbaaPk22
import Derived.Test.YtkkjkohmekbdbaaPk11
import Derived.Test.YtkkjkohmekbdbaaPk9
import Derived.Test.YtkkjkohmekbdbaaPk23
import Derived.Test.YtkkjkohmekbdbaaPk20
import Derived.Deep.DeepCutAuto
import Derived.Test.YtkkjkohmekbdbaaPk19
import Derived.Test.YtkkjkohmekbdbaaPk21

namespace Go.Proofs.Ytkkjkohmekbdbaa
open Go.RowKit


theorem low_digit {l : List Int} {i k : Nat} {x m : Int} (hi : i < l.length) (hk : k < 32) (hx : l.getD i 0 = x) (hz : vb B32 (l.take i) = 0) (hm : x = 2 ^ k * (2 * m + 1)) : IsLow (vb B32 l) (32 * i + k) := by
  refine ⟨m + 2 ^ (31 - k) * vb B32 (l.drop (i + 1)), ?_⟩
  rw [vb_split B32 l i (by omega), hz, vb_drop B32 hi, hx, hm]
  have e1 : B32 ^ i = 2 ^ (32 * i) := by rw [Int.pow_mul]; rfl
  have e2 : (B32 : Int) = 2 ^ k * (2 ^ (31 - k) * 2) := by
    rw [← Int.pow_succ, ← Int.pow_add, show k + (31 - k + 1) = 32 by omega]; rfl
  generalize vb B32 (l.drop (i + 1)) = R
  rw [e1, Int.pow_add, Int.zero_add]
  conv => lhs; rw [e2]
  rw [Int.mul_assoc (2 ^ (32 * i)) (2 ^ k)]
  congr 1
  rw [Int.mul_assoc (2 ^ k), ← Int.mul_add]
  congr 1
  rw [Int.mul_comm (2 ^ (31 - k)) 2, Int.mul_assoc, Int.mul_add]
  omega

/-- One more zero bit. -/
theorem bit_zero {x z : Int} {k : Nat} (hx : x % 2 ^ k = 0) (hz : x / 2 ^ k = z) (hb : z % 2 = 0) : x % 2 ^ (k + 1) = 0 := by
  have e := Int.mul_ediv_add_emod x (2 ^ k)
  rw [hz, hx] at e
  have e2 : x = 2 ^ (k + 1) * (z / 2) := by
    rw [Int.pow_succ, Int.mul_assoc, show 2 * (z / 2) = z by omega]; omega
  rw [e2, Int.mul_emod_right]
theorem bit_one {x z : Int} {k : Nat} (hx : x % 2 ^ k = 0) (hz : x / 2 ^ k = z) (hb : z % 2 = 1) : x = 2 ^ k * (2 * (z / 2) + 1) := by
  have e := Int.mul_ediv_add_emod x (2 ^ k)
  rw [hz, hx] at e
  rw [show 2 * (z / 2) + 1 = z by omega]; omega

theorem RdD.rn {w : World} {v : Value} {l : List Int} {N : Int} {m : Nat} (h : RdD w v l) (hv : vb B32 l = N) (hm : N < B32 ^ m) : RN w v N m := by
  obtain ⟨a, c, rfl, h2, h3, h4, h5⟩ := h
  exact ⟨l, a, c, rfl, h2, h3, h4, h5, hv, room_of B32_pos h5 (by rw [hv]; exact hm)⟩
theorem RetD2.retr {w : World} {Q R : Int} {m k : Nat} {e : Ending} {w' : World} (h : RetD2 w Q R e w') (hm : Q < B32 ^ m) (hk : R < B32 ^ k) : RetR2 w Q R m k e w' := by
  obtain ⟨aq, nq, cq, lq, ar, nr, cr, lr, rfl, h1, h2, h3, h4, h5⟩ := h
  exact ⟨aq, nq, cq, ar, nr, cr, rfl, h1.rn h2 hm, h3.rn h4 hk, h5⟩

/-- One step of Newton's from a number above the root. -/
theorem newton_pos {x r : Int} (hx : 0 < x) (hr : 0 < r) (h : x < (r + 1) * (r + 1)) : 0 < (r + x / r) / 2 := by
  by_cases h1 : r = 1
  · subst h1
    have : x / 1 = x := Int.ediv_one x
    rw [this]; omega
  · have : 0 ≤ x / r := Int.ediv_nonneg (by omega) (by omega)
    omega

/-- append(nothing, words ..). -/
theorem wpList_append_nil_words {P : Program} (w : World) {ops : Array Oper} {rest : List Oper} {o : Oper} {a : Act} {Q : Exit → Act → World → Prop} (hgd : o.guard = none) (s x : Operand) (t : TypeId)
    (ho : o.op = .call { callee := .builtin .append, args := #[s, x], argTypes := #[t, t] }) (ht : P.underlying t = some (.slice 57)) (hi : (P.info? 57).map (fun i => (i.zero, i.size, i.bytes)) = some (some (.int .u64 0), 1, 8))
    (hs : a.eval s = .slice none 0 0) (ao : Option Addr) (n c : Nat) (l : List Int) (hx : a.eval x = .slice ao n c) (hn : n = l.length) (hr : Rd w ao l) (hM : n ≤ MaxW)
    (hK : ∀ v' w', Ow w.heap.size w' v' l → Below w.heap.size w w' → wpList P ops Q rest (a.put o.dst v') w') : wpList P ops Q (o :: rest) a w := by
  by_cases hl : l = []
  · subst hl
    obtain rfl : n = 0 := hn
    obtain ⟨i, h2, h3, h4, h5⟩ := info_parts hi
    refine wpList_plain hgd fun K hK' => ?_
    have hrun : (Builtin.append_ #[t, t] o.type #[.slice none 0 0, .slice ao 0 c]).run P w = .ok (.slice none 0 0) w := by
      cases ao <;> simp [Builtin.append_, run_underlying ht, sizeOf, typeInfo, h2, Builtin.lenOf, Builtin.firstCells, loadCells, loadCellsFrom]
    unfold Oper.wp execOp
    simp only [ho, resolve, invoke, builtin, Sem.run_bind, Sem.run_pure, Result.andThen_ok, List.map_toArray, List.map_cons, List.map_nil, hs, hx, hrun]
    exact hK' _ _ (hK _ _ (Ow.nil _ _) (Below.refl _ _))
  · obtain ⟨b, off, rfl, hat⟩ := hr.cases hl
    refine wpList_append_words w hgd s x t ho ht hi w.heap.size (.slice none 0 0) [] hs (Ow.nil _ _) ⟨b, off, none⟩ n c l hx hn.symm (fun j hj => by rw [addr_add_none]; exact hat j hj) (by simpa using hM) (Nat.le_refl _) fun v' w' h1 h2 => hK v' w' ?_ h2
    simpa using h1

/-- A row of the call's own that is not empty lies in a block of its own. -/
theorem ow_row {base : Nat} {w : World} {v : Value} {l : List Int} (h : Ow base w v l) (hl : l ≠ []) : ∃ g n cap, v = .slice (some ⟨g, 0, none⟩) n cap ∧ n = l.length ∧ n ≤ cap ∧ cap ≤ 9223372036854775807 ∧ Arr w g 0 l ∧ base ≤ g ∧ g < w.heap.size := by
  have h' := h
  obtain ⟨ao, cap, rfl, h1, h2, h3⟩ := h.form
  rcases h.2 with ⟨hv, h0⟩ | ⟨g, cap', cur, hv, hg, hh, r⟩
  · exact absurd (List.eq_nil_of_length_eq_zero h0) hl
  · simp only [Value.slice.injEq] at hv
    obtain ⟨rfl, -, rfl⟩ := hv
    exact ⟨g, _, cap, rfl, rfl, h1, h2, h'.arr.1, hg, (Array.getElem?_eq_some_iff.1 hh).1⟩

theorem rsub_step {m : List Int} {p : Nat} {c o y b t E : Int} (hp : p < m.length) (ho : o = m.getD p 0) (hS : vb B32 m + E = t + B32 ^ p * c) :
    vb B32 (m.set p (o + b * 4294967296 - (c + y))) + (E + B32 ^ p * y) = t + B32 ^ (p + 1) * b := by
  rw [vb_set B32 m p _ hp, ← ho, Int.pow_succ, Int.mul_assoc]
  have e : B32 ^ p * (B32 * b) = B32 ^ p * c + B32 ^ p * y + B32 ^ p * (o + b * 4294967296 - (c + y) - o) := by
    rw [← Int.mul_add, ← Int.mul_add]
    congr 1
    unfold B32
    omega
  rw [e]
  omega
theorem take_getD_zero {l : List Int} {i : Nat} : vb B32 (l.take i) + B32 ^ i * l.getD i 0 = vb B32 (l.take (i + 1)) := by
  by_cases h : i < l.length
  · rw [vb_take_succ B32 h]
  · rw [List.take_of_length_le (by omega), List.take_of_length_le (by omega), List.getD_eq_getElem?_getD, List.getElem?_eq_none (by omega)]
    simp

/-- How many zero bits a number ends with; 0 of 0. -/
def LowOf (N : Int) (t : Nat) : Prop := (N = 0 ∧ t = 0) ∨ (N ≠ 0 ∧ IsLow N t)
theorem isLow_unique {N : Int} {s t : Nat} (h : IsLow N s) (k : IsLow N t) : s = t := by
  obtain ⟨x, hx⟩ := h
  obtain ⟨y, hy⟩ := k
  have key : ∀ {a b : Nat} {x y : Int}, a < b → (2 : Int) ^ a * (2 * x + 1) = 2 ^ b * (2 * y + 1) → False := by
    intro a b x y hab he
    obtain ⟨d, rfl⟩ := Nat.le.dest hab
    have e1 : (2 : Int) ^ (a + 1 + d) = 2 ^ a * (2 * 2 ^ d) := by
      rw [show a + 1 + d = a + (1 + d) by omega, Int.pow_add, Int.pow_add]; rfl
    rw [e1, Int.mul_assoc] at he
    have h2 := Int.eq_of_mul_eq_mul_left (by have := pow2_pos a; omega) he
    rw [Int.mul_assoc] at h2
    omega
  rcases Nat.lt_trichotomy s t with h | h | h
  · exact (key h (hx.symm.trans hy)).elim
  · exact h
  · exact (key h (hy.symm.trans hx)).elim
theorem lowOf_unique {N : Int} {s t : Nat} (h : LowOf N s) (k : LowOf N t) : s = t := by
  rcases h with ⟨h1, h2⟩ | ⟨h1, h2⟩ <;> rcases k with ⟨k1, k2⟩ | ⟨k1, k2⟩
  · omega
  · exact (k1 h1).elim
  · exact (h1 k1).elim
  · exact isLow_unique h2 k2

end Go.Proofs.Ytkkjkohmekbdbaa

namespace Go.Proofs.Ytkkjkohmekbdbaa
open Go.RowKit

/-- A dyad of the document's that is the integer Z. -/
def RZ (w : World) (v : Value) (Z : Int) (m b : Nat) : Prop :=
  ∃ neg a n c N E, v = .agg #[.bool neg, .slice a n c, .int .i64 ((E : Nat) : Int)] ∧ RN w (.slice a n c) N m ∧ Z = sg neg N * 2 ^ E ∧ (N = 0 → neg = false ∧ E = 0) ∧ (N ≠ 0 → ∃ z, N = 2 * z + 1) ∧ E ≤ b
def RetZ (w : World) (Z : Int) (m b : Nat) (e : Ending) (w' : World) : Prop :=
  ∃ neg a n c E, e = .returned (.agg #[.bool neg, .slice a n c, .int .i64 ((E : Nat) : Int)]) ∧ RZ w' (.agg #[.bool neg, .slice a n c, .int .i64 ((E : Nat) : Int)]) Z m b ∧ Below w.heap.size w w'
theorem RZ.below {w w' : World} {v : Value} {Z : Int} {m b : Nat} (h : RZ w v Z m b) (hb : Below w.heap.size w w') : RZ w' v Z m b := by
  obtain ⟨neg, a, n, c, N, E, h1, h2, h3⟩ := h
  exact ⟨neg, a, n, c, N, E, h1, h2.below hb, h3⟩
theorem RZ.eq {w : World} {v : Value} {Z Z' : Int} {m b : Nat} (h : RZ w v Z m b) (e : Z = Z') : RZ w v Z' m b := e ▸ h
theorem RZ.mono {w : World} {v : Value} {Z : Int} {m b m' b' : Nat} (h : RZ w v Z m b) (hm : m ≤ m') (hb : b ≤ b') : RZ w v Z m' b' := by
  obtain ⟨neg, a, n, c, N, E, h1, h2, h3, h4, h5, h6⟩ := h
  exact ⟨neg, a, n, c, N, E, h1, h2.mono hm, h3, h4, h5, Nat.le_trans h6 hb⟩

/-- The cells of a variable of three fields. -/
theorem slot3 {w : World} {g : Nat} {x y z : Value} {t : TypeId} (h : w.heap[g]? = some (.cells #[x, y, z] t (0, 0))) :
    (w.cell? ⟨g, 0, none⟩ = some x ∧ w.cell? ⟨g, 1, none⟩ = some y ∧ w.cell? ⟨g, 2, none⟩ = some z) ∧ w.frozen? ⟨g, 0, none⟩ = false ∧ w.frozen? ⟨g, 1, none⟩ = false ∧ w.frozen? ⟨g, 2, none⟩ = false :=
  ⟨⟨cell_of_row w g 0 _ t _ h, cell_of_row w g 1 _ t _ h, cell_of_row w g 2 _ t _ h⟩, frozen_of_row w g 0 _ t h, frozen_of_row w g 1 _ t h, frozen_of_row w g 2 _ t h⟩
theorem slot3_set {w : World} {g : Nat} {x y z u v s : Value} {t : TypeId} (h : w.heap[g]? = some (.cells #[x, y, z] t (0, 0))) :
    (((w.setCell ⟨g, 0, none⟩ u).setCell ⟨g, 1, none⟩ v).setCell ⟨g, 2, none⟩ s).heap[g]? = some (.cells #[u, v, s] t (0, 0)) := by
  have h1 := heap_setCell_same w g 0 _ t u h
  have h2 := heap_setCell_same (w.setCell ⟨g, 0, none⟩ u) g 1 _ t v h1
  have h3 := heap_setCell_same ((w.setCell ⟨g, 0, none⟩ u).setCell ⟨g, 1, none⟩ v) g 2 _ t s h2
  rw [h3]; rfl
theorem slot3_only {w : World} {g : Nat} (u v s : Value) : Only g 0 3 w (((w.setCell ⟨g, 0, none⟩ u).setCell ⟨g, 1, none⟩ v).setCell ⟨g, 2, none⟩ s) :=
  ((Only.store 0 u (Nat.le_refl _) (by decide)).trans (Only.store 1 v (by decide) (by decide))).trans (Only.store 2 s (by decide) (by decide))
/-- A number whose words do not lie in the block that is written. -/
theorem RN.only {w w' : World} {a : Option Addr} {n c : Nat} {N : Int} {m g lo hi : Nat} (h : RN w (.slice a n c) N m) (ho : Only g lo hi w w') (hne : n ≠ 0 → ∀ b o, a = some ⟨b, o, none⟩ → b ≠ g) : RN w' (.slice a n c) N m := by
  obtain ⟨l, a', c', he, h2, h3, h4, h5⟩ := h
  simp only [Value.slice.injEq] at he
  obtain ⟨rfl, rfl, rfl⟩ := he
  refine ⟨l, a, c, rfl, h2, h3, ?_, h5⟩
  rcases h4 with rfl | ⟨b, o, rfl, hat⟩
  · exact Rd.nil _ _
  · by_cases hl : l = []
    · subst hl; exact Rd.nil _ _
    · exact Or.inr ⟨b, o, rfl, ho.at' hat (hne (by intro e; exact hl (List.eq_nil_of_length_eq_zero e)) b o rfl)⟩
/-- Digits never lie in a variable of the program. -/
theorem RN.var {w w' : World} {a : Option Addr} {n c : Nat} {N : Int} {m g lo hi : Nat} (h : RN w (.slice a n c) N m) {p : Bool} {a1 : Option Addr} {n1 c1 : Nat} {E : Int} {t : TypeId} (hv : w.heap[g]? = some (.cells #[.bool p, .slice a1 n1 c1, .int .i64 E] t (0, 0))) (ho : Only g lo hi w w') : RN w' (.slice a n c) N m := by
  refine h.only ho fun hn b o e => ?_
  obtain ⟨l, a', c', he, h2, h3, h4, h5⟩ := h
  simp only [Value.slice.injEq] at he
  obtain ⟨rfl, rfl, rfl⟩ := he
  rintro rfl
  subst e
  have hat := h4.at' 0 (by omega)
  rw [cell_of_row w b _ _ t _ hv] at hat
  match o, hat with
  | 0, hat => simp at hat
  | 1, hat => simp at hat
  | 2, hat => simp at hat
  | o + 3, hat => simp at hat

/-- The one form of a number times a power of two. -/
theorem low_split {N : Int} {t : Nat} (h : LowOf N t) (hN : N ≠ 0) : N / 2 ^ t * 2 ^ t = N ∧ ∃ z, N / 2 ^ t = 2 * z + 1 := by
  rcases h with ⟨h1, -⟩ | ⟨-, z, hz⟩
  · exact (hN h1).elim
  · have hp := pow2_pos t
    have e : N / 2 ^ t = 2 * z + 1 := by rw [hz, Int.mul_ediv_cancel_left _ (by omega)]
    exact ⟨by rw [e, hz, Int.mul_comm], z, e⟩
theorem low_le {N : Int} {t m : Nat} (h : LowOf N t) (h0 : 0 ≤ N) (hN : N < B32 ^ m) : t ≤ 32 * m := by
  rcases h with ⟨-, h2⟩ | ⟨h1, z, hz⟩
  · omega
  · have hp := pow2_pos t
    have hz0 : 1 ≤ 2 * z + 1 := by
      rcases Int.lt_or_le (2 * z + 1) 1 with h3 | h3
      · exfalso
        have : 2 ^ t * (2 * z + 1) ≤ 2 ^ t * 0 := Int.mul_le_mul_of_nonneg_left (by omega) (by omega)
        omega
      · exact h3
    have h4 : (2 : Int) ^ t * 1 ≤ 2 ^ t * (2 * z + 1) := Int.mul_le_mul_of_nonneg_left hz0 (by omega)
    have h5 : (2 : Int) ^ t < 2 ^ (32 * m) := by
      rw [show (2 : Int) ^ (32 * m) = B32 ^ m by rw [Int.pow_mul]; rfl]
      omega
    have := two_pow_lt_of h5
    omega

theorem RetZ.mk {w w' : World} {neg : Bool} {a : Option Addr} {n c : Nat} {N Z : Int} {m b E : Nat} (h : RN w' (.slice a n c) N m) (hz : Z = sg neg N * 2 ^ E) (h0 : N = 0 → neg = false ∧ E = 0) (h1 : N ≠ 0 → ∃ z, N = 2 * z + 1) (hE : E ≤ b) (hb : Below w.heap.size w w') :
    RetZ w Z m b (.returned (.agg #[.bool neg, .slice a n c, .int .i64 ((E : Nat) : Int)])) w' :=
  ⟨neg, a, n, c, E, rfl, ⟨neg, a, n, c, N, E, rfl, h, hz, h0, h1, hE⟩, hb⟩
theorem rz_sign {neg : Bool} {N Z : Int} {E : Nat} (h : 0 ≤ N) (hz : Z = sg neg N * 2 ^ E) : cmpI Z 0 = if N = 0 then 0 else if neg = true then -1 else 1 := by
  have hp := pow2_pos E
  by_cases h0 : N = 0
  · rw [if_pos h0, hz, h0]
    cases neg <;> simp [sg, cmpI_eq]
  · rw [if_neg h0]
    have hN : 0 < N * 2 ^ E := Int.mul_pos (by omega) hp
    cases neg
    · rw [if_neg (by decide), hz, sg_false, cmpI_gt hN]
    · rw [if_pos rfl, hz, sg_true, Int.neg_mul, cmpI_lt (by omega)]
theorem RZ.var {w w' : World} {v : Value} {Z : Int} {m b g lo hi : Nat} (h : RZ w v Z m b) {p : Bool} {a1 : Option Addr} {n1 c1 : Nat} {E : Int} {t : TypeId} (hv : w.heap[g]? = some (.cells #[.bool p, .slice a1 n1 c1, .int .i64 E] t (0, 0))) (ho : Only g lo hi w w') : RZ w' v Z m b := by
  obtain ⟨neg, a, n, c, N, E', h1, h2, h3⟩ := h
  exact ⟨neg, a, n, c, N, E', h1, h2.var hv ho, h3⟩
theorem RZ.open {w : World} {neg : Bool} {a : Option Addr} {n c E : Nat} {Z : Int} {m b : Nat} (h : RZ w (.agg #[.bool neg, .slice a n c, .int .i64 (E : Int)]) Z m b) :
    ∃ N, RN w (.slice a n c) N m ∧ Z = sg neg N * 2 ^ E ∧ (N = 0 → neg = false ∧ E = 0) ∧ (N ≠ 0 → ∃ z, N = 2 * z + 1) ∧ E ≤ b := by
  obtain ⟨neg', a', n', c', N, E', he, h1, h2, h3, h4, h5⟩ := h
  simp only [Value.agg.injEq, Array.mk.injEq, List.cons.injEq, Value.bool.injEq, Value.slice.injEq, Value.int.injEq, and_true, true_and] at he
  obtain ⟨rfl, ⟨rfl, rfl, rfl⟩, hE⟩ := he
  obtain rfl : E = E' := by omega
  exact ⟨N, h1, h2, h3, h4, h5⟩
theorem rz_neg {neg : Bool} {N Z : Int} {E : Nat} (hz : Z = sg neg N * 2 ^ E) : sg (!neg) N * 2 ^ E = -Z := by
  rw [hz]; cases neg <;> simp [sg, Int.neg_mul]
theorem nb_shift {N : Int} (E : Nat) (h : 0 < N) : nb (N * 2 ^ E) = nb N + E := by
  obtain ⟨h1, h2, h3⟩ := nb_spec h
  have hp := pow2_pos E
  refine nb_eq (by omega) ?_ ?_
  · rw [show nb N + E - 1 = (nb N - 1) + E by omega, Int.pow_add]; exact Int.mul_le_mul_of_nonneg_right h1 (by omega)
  · rw [Int.pow_add]; exact Int.mul_lt_mul_of_pos_right h2 hp
def absI (Z : Int) : Int := if Z < 0 then -Z else Z
theorem rz_abs {neg : Bool} {N Z : Int} {E : Nat} (h : 0 ≤ N) (hz : Z = sg neg N * 2 ^ E) : absI Z = N * 2 ^ E := by
  have hp := pow2_pos E
  have h1 : 0 ≤ N * 2 ^ E := Int.mul_nonneg h (by omega)
  unfold absI
  cases neg
  · rw [hz, sg_false]; split <;> omega
  · rw [hz, sg_true, Int.neg_mul]; split <;> omega
end Go.Proofs.Ytkkjkohmekbdbaa

namespace Go.Proofs.Ytkkjkohmekbdbaa
open Go.RowKit

section
variable {P : Program} {ops : Array Oper} {Q : Exit → Act → World → Prop}
def SlotStepT (P : Program) (ops : Array Oper) (Q : Exit → Act → World → Prop) (ds : List Nat) (t0 : Array Value) (df : List Deferred) (S : Array Value → World → Prop) (F : Nat → Value → World → Prop) (i : Nat) : Prop :=
  ∀ tm w, Same ds t0 tm → S tm w → (∀ o, ops[i]? = some o → ∀ e ∈ o.after, Region.binds .any e = true → Got ops F tm w e.on) →
    wpOp P ops Q i (fun a' w' => ∃ v, a' = Act.put ⟨tm, df⟩ ((ops[i]?).bind (·.dst)) v ∧ S (Act.put ⟨tm, df⟩ ((ops[i]?).bind (·.dst)) v).tmps w' ∧ F i v w' ∧ Below w.heap.size w w') ⟨tm, df⟩ w

theorem slotst_tail_any {ds : List Nat} {t0 : Array Value} {df : List Deferred} {S : Array Value → World → Prop} {F : Nat → Value → World → Prop} {n : Nat}
    (hds : headIn ops n ds = true) (hlt : ∀ d ∈ ds, d < t0.size) (hap : headApart ops n = true) (hed : headBack ops n = true)
    (hsk : Region.sinkB .any ops n = true) (hch : Region.chainB .any ops n = true) (hn : n < ops.size)
    (hsq : Region.seqB .any ops (ops.size - n) n (headDone ops.size n) = true)
    (hk : ∀ i v w w', Below w.heap.size w w' → F i v w → F i v w')
    (hstep : ∀ i ∈ List.range n, SlotStepT P ops Q ds t0 df S F i)
    (hend : ∀ tm w, Same ds t0 tm → S tm w → (∀ i, i < n → Got ops F tm w i) → wpList P ops Q (ops.toList.drop n) ⟨tm, df⟩ w) :
    ∀ (k : Nat) (rem : List Nat) (listed : Array Bool) (tm : Array Value) (w : World), rem.length = k → HeadInv .any ops n listed → rem.Nodup → (∀ i, i ∈ rem ↔ i < n ∧ listed.getD i true = false) → Same ds t0 tm → S tm w → (∀ i, i < n → listed.getD i true = true → Got ops F tm w i) →
      wpAny P .any ops Q (k + (ops.size - n)) listed ⟨tm, df⟩ w := by
  intro k
  induction k with
  | zero =>
    intro rem listed tm w hlen inv hnd hrem hsame hS hgot
    obtain rfl : rem = [] := List.eq_nil_of_length_eq_zero hlen
    have hall : ∀ i, i < n → listed.getD i true = true := fun i hi => by
      cases h : listed.getD i true with
      | true => rfl
      | false => cases (hrem i).2 ⟨hi, h⟩
    have hl := headDone_eq inv hall
    have hlen2 : (ops.toList.drop n).length = ops.size - n := by simp
    rw [Nat.zero_add, ← hlen2]
    refine wpAny_of_seq (ops.toList.drop n) n listed _ w (fun j => by rw [List.getElem?_drop, Array.getElem?_toList]) (by rw [hlen2, hl]; exact hsq) (hend tm w hsame hS fun i hi => hgot i hi (hall i hi))
  | succ k ih =>
    intro rem listed tm w hlen inv hnd hrem hsame hS hgot
    rw [show k + 1 + (ops.size - n) = (k + (ops.size - n)) + 1 by omega]
    obtain ⟨i0, hi0⟩ : ∃ i0, i0 ∈ rem := by
      cases rem with
      | nil => simp at hlen
      | cons x l => exact ⟨x, List.mem_cons_self ..⟩
    have hu0 := (hrem i0).1 hi0
    refine ⟨fun hr => ?_, fun i hi => ?_⟩
    · exfalso
      have hall : ∀ i, i < n → listed.getD i true = true := by
        intro i
        induction i using Nat.strongRecOn with
        | ind i ihi =>
          intro hi
          cases h : listed.getD i true with
          | true => rfl
          | false =>
            exfalso
            have hed' := List.all_eq_true.1 hed i (List.mem_range.2 hi)
            have hi2 : i < ops.size := by omega
            have ho : ops[i]? = some ops[i] := getElem?_pos ops i hi2
            rw [ho] at hed'
            have hmem : i ∈ Region.ready .any ops listed := by
              refine mem_ready.2 ⟨h, _, ho, fun e he hb => ?_⟩
              have h1 := List.all_eq_true.1 hed' e (by simpa using he)
              simp only [hb, Bool.not_true, Bool.false_or, decide_eq_true_eq] at h1
              have h2 := ihi e.on h1 (by omega)
              have h3 : e.on < listed.size := by rw [inv.size]; omega
              simp [Array.getD_eq_getD_getElem?, h3] at h2 ⊢
              exact h2
            rw [hr] at hmem
            cases hmem
      rw [hall i0 hu0.1] at hu0
      cases hu0.2
    · have hin : i < n := by
        rcases Nat.lt_or_ge i n with h | h
        · exact h
        · exact absurd hi (tail_waits hsk hch hn inv _ i0 rfl hu0.1 hu0.2 i h)
      have hi' := hi
      obtain ⟨hun, o, ho, hafter⟩ := mem_ready.1 hi'
      have hlti : i < ops.size := by omega
      have hmem := (hrem i).2 ⟨hin, hun⟩
      have hback := List.all_eq_true.1 hed i (List.mem_range.2 hin)
      rw [ho] at hback
      refine wpOp_mono ?_ (hstep i (List.mem_range.2 hin) tm w hsame hS (fun o' ho' e he hb => ?_))
      · rintro a' w' ⟨v, rfl, hS', hF, hbel⟩
        have hsz : i < listed.size := by rw [inv.size]; exact hlti
        have hin2 := List.all_eq_true.1 hds i (List.mem_range.2 hin)
        simp only [ho, Option.bind_some] at hin2
        cases hd : o.dst with
        | none => rw [hd] at hin2; cases hin2
        | some d =>
          rw [hd] at hin2
          have hdd : ds.contains d = true := hin2
          have hdl : d < tm.size := by rw [hsame.1]; exact hlt d (List.contains_iff_mem.1 hdd)
          simp only [ho, Option.bind_some, hd]
          refine ih (rem.erase i) _ (tm.setIfInBounds d v) w' (by rw [List.length_erase_of_mem hmem]; omega) (inv.set hi hin) (hnd.erase i) (fun j => ?_) ⟨by simpa using hsame.1, fun t ht => ?_⟩ (by rw [ho, Option.bind_some, hd] at hS'; exact hS') fun j hjn hj => ?_
          · rw [hnd.mem_erase_iff, hrem j]
            by_cases hji : i = j
            · subst hji
              simp [Array.getD_eq_getD_getElem?, hsz]
            · rw [getD_set_ne true hji]
              constructor
              · rintro ⟨-, h⟩; exact h
              · intro h; exact ⟨Ne.symm hji, h⟩
          · have htd : d ≠ t := fun e => by subst e; rw [hdd] at ht; cases ht
            rw [Array.getElem?_setIfInBounds_ne htd]
            exact hsame.2 t ht
          · intro o' d' ho' hd'
            by_cases hji : j = i
            · subst hji
              rw [ho] at ho'; cases ho'
              rw [hd] at hd'; cases hd'
              exact ⟨v, by simp [hdl], hF⟩
            · rw [getD_set_ne true (Ne.symm hji)] at hj
              obtain ⟨v', h1, h2⟩ := hgot j hjn hj o' d' ho' hd'
              have h3 := List.all_eq_true.1 (List.all_eq_true.1 hap i (List.mem_range.2 hin)) j (List.mem_range.2 hjn)
              simp only [ho, ho', Option.bind_some, hd, hd', Bool.or_eq_true, beq_iff_eq, bne_iff_ne] at h3
              have hne : d ≠ d' := h3.resolve_left (fun e => hji e.symm)
              exact ⟨v', by rw [Array.getElem?_setIfInBounds_ne hne]; exact h1, hk _ _ _ _ hbel h2⟩
      · rw [ho] at ho'; cases ho'
        have h1 := List.all_eq_true.1 hback e (by simpa using he)
        simp only [hb, Bool.not_true, Bool.false_or, decide_eq_true_eq] at h1
        have h2 := hafter e he hb
        refine hgot e.on (by omega) ?_
        have h3 : e.on < listed.size := by rw [inv.size]; omega
        simp [Array.getD_eq_getD_getElem?, h3] at h2 ⊢
        exact h2

theorem wp_region_slotst_tail {id : Nat} {t0 : Array Value} {df : List Deferred} {w : World} (hm : P.follows .mixedOrders = true) (n : Nat) (ds : List Nat) (S : Array Value → World → Prop) (F : Nat → Value → World → Prop)
    (hds : headIn ops n ds = true) (hlt : (ds.all fun d => decide (d < t0.size)) = true) (hap : headApart ops n = true) (hed : headBack ops n = true)
    (htl : (Region.sinkB .any ops n && Region.chainB .any ops n && decide (n < ops.size) && Region.seqB .any ops (ops.size - n) n (headDone ops.size n)) = true)
    (hk : ∀ i v w w', Below w.heap.size w w' → F i v w → F i v w') (hS : S t0 w.drew)
    {l : List Nat} (hl : List.range n = l) (hstep : ∀ i ∈ l, SlotStepT P ops Q ds t0 df S F i)
    (hend : ∀ tm w, Same ds t0 tm → S tm w → (∀ i, i < n → Got ops F tm w i) → wpList P ops Q (ops.toList.drop n) ⟨tm, df⟩ w) :
    (Code.region id ops true).wp P Q ⟨t0, df⟩ w := by
  subst hl
  simp only [Bool.and_eq_true, decide_eq_true_eq] at htl
  obtain ⟨⟨⟨hsk, hch⟩, hn⟩, hsq⟩ := htl
  refine wp_region_any hm ?_
  have h := slotst_tail_any (P := P) (Q := Q) (df := df) hds (fun d hd => by simpa using List.all_eq_true.1 hlt d hd) hap hed hsk hch hn hsq hk hstep hend n (List.range n) (Array.replicate ops.size false) t0 w.drew (by simp) ⟨by simp, (fun j oj hj hl => (by rw [getD_replicate_false] at hl; cases hl)), (fun t ht ht' => (by simp [Array.getD_eq_getD_getElem?, ht']))⟩ List.nodup_range (fun i => by
    rw [List.mem_range]
    constructor
    · intro hi
      exact ⟨hi, by simp [Array.getD_eq_getD_getElem?, show i < ops.size by omega]⟩
    · exact fun h => h.1) ⟨rfl, fun _ _ => rfl⟩ hS (fun i hi hl => by
      simp [Array.getD_eq_getD_getElem?, show i < ops.size by omega] at hl)
  rwa [show n + (ops.size - n) = ops.size by omega] at h


/-- An operation that does not run since the one that guards it did not. -/
theorem SlotStep.skipU {ds : List Nat} {t0 : Array Value} {df : List Deferred} {S : World → Prop} {F : Nat → Value → World → Prop} {i : Nat} {o : Oper} {d : Nat} (ho : ops[i]? = some o) (hd : o.dst = some d) (j : Nat) (b : Bool) (hn : o.guard = some (j, b))
    {dj : Nat} (hj : (ops[j]?).bind (·.dst) = some dj) (hjd : ((o.after.toList.filter (Region.binds .any)).map (·.on)).contains j = true) (hF : ∀ v w, F j v w → v = undef) (hU : ∀ w, F i undef w) :
    SlotStep P ops Q ds t0 df S F i :=
  SlotStep.one ho hd fun tm w h1 h2 h3 K hK => by
    obtain ⟨oj, hoj, hdj⟩ := Option.bind_eq_some_iff.1 hj
    obtain ⟨v, e, hv⟩ := h3 j hjd oj dj hoj hdj
    rw [hF _ _ hv] at e
    have hy : yielded ops tm j = none := by
      unfold yielded
      rw [hj, Option.bind_some, e]
      rfl
    rw [if_neg (by unfold Region.wanted; rw [hn]; simp only [hy]; cases b <;> decide), hd]
    exact hK _ _ (Below.refl _ _) h2 (hU w)
theorem SlotStepT.plain {ds : List Nat} {t0 : Array Value} {df : List Deferred} {S : Array Value → World → Prop} {F : Nat → Value → World → Prop} {i : Nat} {o : Oper} {d : Nat} (ho : ops[i]? = some o) (hd : o.dst = some d) (hn : o.guard = none)
    (h : ∀ tm w, Same ds t0 tm → S tm w → (∀ j, ((o.after.toList.filter (Region.binds .any)).map (·.on)).contains j = true → Got ops F tm w j) →
      ∀ K : Act → World → Prop, (∀ v w', Below w.heap.size w w' → S (tm.setIfInBounds d v) w' → F i v w' → K ⟨tm.setIfInBounds d v, df⟩ w') → Oper.wp P o ⟨tm, df⟩ w K Q) :
    SlotStepT P ops Q ds t0 df S F i := by
  intro tm w hsame hS hgot
  refine wpOp_step ho fun K hK => ?_
  rw [if_pos (by unfold Region.wanted; rw [hn])]
  refine h tm w hsame hS (fun j hj => ?_) K fun v w' hb hS' hF => ?_
  · obtain ⟨e, he, rfl⟩ := List.mem_map.1 (List.contains_iff_mem.1 hj)
    obtain ⟨h1, h2⟩ := List.mem_filter.1 he
    exact hgot o ho e (by simpa using h1) h2
  · refine hK _ _ ⟨v, ?_, ?_, hF, hb⟩
    · rw [ho]
      show _ = Act.put ⟨tm, df⟩ o.dst v
      rw [hd]
      rfl
    · rw [ho]
      show S (Act.put ⟨tm, df⟩ o.dst v).tmps w'
      rw [hd]
      exact hS'
end

/-- The variables that two slots point to, once they are made, lie apart. -/
def Two (i j : Nat) (tm : Array Value) (w : World) : Prop :=
  (∀ g, tm[i]? = some (.pointer (some ⟨g, 0, none⟩)) → g < w.heap.size) ∧ (∀ g, tm[j]? = some (.pointer (some ⟨g, 0, none⟩)) → g < w.heap.size) ∧ ∀ g, tm[i]? = some (.pointer (some ⟨g, 0, none⟩)) → tm[j]? ≠ some (.pointer (some ⟨g, 0, none⟩))
theorem Two.start {i j : Nat} {t0 : Array Value} {w : World} (hi : t0[i]? = some undef) (hj : t0[j]? = some undef) : Two i j t0 w := by
  refine ⟨fun g h => ?_, fun g h => ?_, fun g h => ?_⟩
  · rw [hi] at h; cases h
  · rw [hj] at h; cases h
  · rw [hi] at h; cases h
theorem Two.other {i j d : Nat} {tm : Array Value} {w w' : World} {v : Value} (h : Two i j tm w) (hs : w.heap.size ≤ w'.heap.size) (hi : d ≠ i) (hj : d ≠ j) : Two i j (tm.setIfInBounds d v) w' := by
  refine ⟨fun g h1 => ?_, fun g h1 => ?_, fun g h1 => ?_⟩
  · rw [Array.getElem?_setIfInBounds_ne hi] at h1
    exact Nat.lt_of_lt_of_le (h.1 g h1) hs
  · rw [Array.getElem?_setIfInBounds_ne hj] at h1
    exact Nat.lt_of_lt_of_le (h.2.1 g h1) hs
  · rw [Array.getElem?_setIfInBounds_ne hi] at h1
    rw [Array.getElem?_setIfInBounds_ne hj]
    exact h.2.2 g h1
theorem Two.first {i j : Nat} {tm : Array Value} {w : World} {o : Obj} (h : Two i j tm w) (hij : i ≠ j) : Two i j (tm.setIfInBounds i (.pointer (some ⟨w.heap.size, 0, none⟩))) (w.alloc o) := by
  have key : ∀ g, (tm.setIfInBounds i (.pointer (some ⟨w.heap.size, 0, none⟩)))[i]? = some (.pointer (some ⟨g, 0, none⟩)) → g = w.heap.size := by
    intro g hg
    rw [Array.getElem?_setIfInBounds_self] at hg
    split at hg
    · simpa using hg.symm
    · cases hg
  refine ⟨fun g h1 => ?_, fun g h1 => ?_, fun g h1 => ?_⟩
  · rw [key g h1]; simp
  · rw [Array.getElem?_setIfInBounds_ne hij] at h1
    have := h.2.1 g h1
    simp; omega
  · rw [Array.getElem?_setIfInBounds_ne hij, key g h1]
    intro h2
    have := h.2.1 _ h2
    omega
theorem Two.second {i j : Nat} {tm : Array Value} {w : World} {o : Obj} (h : Two i j tm w) (hij : i ≠ j) : Two i j (tm.setIfInBounds j (.pointer (some ⟨w.heap.size, 0, none⟩))) (w.alloc o) := by
  have key : ∀ g, (tm.setIfInBounds j (.pointer (some ⟨w.heap.size, 0, none⟩)))[j]? = some (.pointer (some ⟨g, 0, none⟩)) → g = w.heap.size := by
    intro g hg
    rw [Array.getElem?_setIfInBounds_self] at hg
    split at hg
    · simpa using hg.symm
    · cases hg
  refine ⟨fun g h1 => ?_, fun g h1 => ?_, fun g h1 h2 => ?_⟩
  · rw [Array.getElem?_setIfInBounds_ne (Ne.symm hij)] at h1
    have := h.1 g h1
    simp; omega
  · rw [key g h1]; simp
  · rw [Array.getElem?_setIfInBounds_ne (Ne.symm hij)] at h1
    have := h.1 g h1
    have := key g h2
    omega
/-- The block of another variable stays when one is stored to. -/
theorem slot_apart {w : World} {g h : Nat} {o : Obj} {u v s : Value} (hg : w.heap[g]? = some o) (hne : g ≠ h) :
    (((w.setCell ⟨h, 0, none⟩ u).setCell ⟨h, 1, none⟩ v).setCell ⟨h, 2, none⟩ s).heap[g]? = some o := by
  rw [heap_setCell_other _ _ _ _ hne, heap_setCell_other _ _ _ _ hne, heap_setCell_other _ _ _ _ hne]
  exact hg
end Go.Proofs.Ytkkjkohmekbdbaa
