/-
  Num: Numbers as a caller of package nat holds them: a slice, the number that it reads as, and how many words it has at most. The contracts of package nat in these words.
  Whole1: Contracts of package whole: what its values are, Make, Of, Sign.
  Whole2: Contracts of package whole: Cmp.
  Mul64: Contract of math/bits.Mul64: the two words of a product of two words.
  AddProd: Contract of nat.addProduct: a number times a word is added to the first words of a row. Contract of nat.subProduct: a number times a word is taken from the first words of a row.
  MulPieces: Contract of nat.multiplyRows, and the law of clear on words. Contract of nat.multiplyPieces, what nat.multiply does on shorter numbers being given.
  Dist: Contract of nat.distance: the difference of two numbers without its sign, in a new row.
  MulHalves: Contract of nat.multiplyHalves, what nat.multiply does on shorter numbers being given.
-/
import Derived.Test.YtfanhllcoaondaaDoorPk3
import Derived.Test.YtfanhllcoaondaaDoorPk2
import Derived.Test.YtfanhllcoaondaaDoorPk1
import Derived.Deep.RegionWith
import Derived.Shelf.Bits.Mul64
import Derived.Lib.SliceRun
import Derived.StillTailTactics

namespace Go.Proofs.YtfanhllcoaondaaDoor
open Go.RowKit

/-- A slice reads as a number of at most m words. -/
def Num (w : World) (v : Value) (N : Int) (m : Nat) : Prop := ∃ l, RdV w v l ∧ vb B64 l = N ∧ l.length ≤ m
/-- A row of the call's own that holds a number, without zeros at its end. -/
def NewN (base : Nat) (w : World) (v : Value) (N : Int) (m : Nat) : Prop := ∃ l, Ow base w v l ∧ Can B64 l ∧ vb B64 l = N ∧ l.length ≤ m
/-- A function has returned such a row, and turned nothing that was there. -/
def RetN (w : World) (N : Int) (m : Nat) (e : Ending) (w' : World) : Prop := ∃ a n c, e = .returned (.slice a n c) ∧ NewN w.heap.size w' (.slice a n c) N m ∧ Below w.heap.size w w'

theorem Num.below {w w' : World} {v : Value} {N : Int} {m : Nat} (h : Num w v N m) (hb : Below w.heap.size w w') : Num w' v N m := by
  obtain ⟨l, h1, h2, h3⟩ := h
  exact ⟨l, h1.below hb, h2, h3⟩
theorem Num.mono {w : World} {v : Value} {N : Int} {m k : Nat} (h : Num w v N m) (hk : m ≤ k) : Num w v N k := by
  obtain ⟨l, h1, h2, h3⟩ := h
  exact ⟨l, h1, h2, by omega⟩
theorem Num.nonneg {w : World} {v : Value} {N : Int} {m : Nat} (h : Num w v N m) : 0 ≤ N := by
  obtain ⟨l, h1, rfl, h3⟩ := h
  exact vb_nonneg B64_pos h1.lim
theorem Num.lt {w : World} {v : Value} {N : Int} {m : Nat} (h : Num w v N m) : N < B64 ^ m := by
  obtain ⟨l, h1, rfl, h3⟩ := h
  exact Int.lt_of_lt_of_le (vb_lt B64_pos h1.lim) (pow_le_pow B64_pos h3)
theorem Num.open {w : World} {v : Value} {N : Int} {m : Nat} (h : Num w v N m) : ∃ a n c l, v = .slice a n c ∧ n = l.length ∧ n ≤ c ∧ c ≤ 9223372036854775807 ∧ Rd w a l ∧ Lim B64 l ∧ vb B64 l = N ∧ n ≤ m := by
  obtain ⟨l, ⟨a, c, rfl, h1, h2, h3, h4⟩, h5, h6⟩ := h
  exact ⟨a, _, c, l, rfl, rfl, h1, h2, h3, h4, h5, h6⟩
theorem NewN.num {base : Nat} {w : World} {v : Value} {N : Int} {m : Nat} (h : NewN base w v N m) : Num w v N m := by
  obtain ⟨l, h1, h2, h3, h4⟩ := h
  exact ⟨l, h1.rdv h2.lim, h3, h4⟩
theorem NewN.below {base : Nat} {w w' : World} {v : Value} {N : Int} {m : Nat} (h : NewN base w v N m) (hb : Below w.heap.size w w') : NewN base w' v N m := by
  obtain ⟨l, h1, h2⟩ := h
  exact ⟨l, h1.below hb, h2⟩
theorem NewN.base {base base' : Nat} {w : World} {v : Value} {N : Int} {m : Nat} (h : NewN base w v N m) (hb : base' ≤ base) : NewN base' w v N m := by
  obtain ⟨l, h1, h2⟩ := h
  exact ⟨l, h1.mono hb, h2⟩
theorem NewN.eq {base : Nat} {w : World} {v : Value} {N N' : Int} {m : Nat} (h : NewN base w v N m) (e : N = N') : NewN base w v N' m := e ▸ h
theorem Num.eq {w : World} {v : Value} {N N' : Int} {m : Nat} (h : Num w v N m) (e : N = N') : Num w v N' m := e ▸ h
theorem NewN.lt {base : Nat} {w : World} {v : Value} {N : Int} {m : Nat} (h : NewN base w v N m) : ∀ k, v.ownBlock = some k → base ≤ k ∧ k < w.heap.size := by
  obtain ⟨l, h1, h2⟩ := h
  exact fun k hk => World.ownsRow.lt h1 k hk
theorem NewN.only {base : Nat} {w w' : World} {v : Value} {N : Int} {m b lo hi : Nat} (h : NewN base w v N m) (ho : Only b lo hi w w') (hb : b < base) : NewN base w' v N m := by
  have hlt := h.lt
  obtain ⟨l, h1, h2⟩ := h
  exact ⟨l, h1.only' ho (by intro e; have := (hlt b e).1; omega), h2⟩
/-- No word is left of 0 alone. -/
theorem NewN.len {base : Nat} {w : World} {a : Option Addr} {n c : Nat} {N : Int} {m : Nat} (h : NewN base w (.slice a n c) N m) : (n = 0 ↔ N = 0) ∧ n ≤ m := by
  obtain ⟨l, h1, h2, h3, h4⟩ := h
  obtain ⟨a', c', he, _⟩ := h1.form
  simp only [Value.slice.injEq] at he
  obtain ⟨_, rfl, _⟩ := he
  refine ⟨⟨fun h0 => ?_, fun h0 => ?_⟩, h4⟩
  · rw [← h3, List.eq_nil_of_length_eq_zero h0]; rfl
  · rw [h2.eq_nil B64_pos (by rw [h3]; exact h0)]; rfl

theorem Ow.newn {base : Nat} {w : World} {v : Value} {l : List Int} {N : Int} {m : Nat} (h : Ow base w v l) (hc : Can B64 l) (hv : vb B64 l = N) (hm : N < B64 ^ m) : NewN base w v N m := ⟨l, h, hc, hv, room_of B64_pos hc (by rw [hv]; exact hm)⟩
theorem Ow.slice {base : Nat} {w : World} {v : Value} {l : List Int} (h : Ow base w v l) : ∃ a n c, v = .slice a n c := by
  obtain ⟨a, c, rfl, _⟩ := h.form
  exact ⟨a, _, c, rfl⟩
theorem RetNum.retn {w : World} {N : Int} {m : Nat} {e : Ending} {w' : World} (h : RetNum w N e w') (hm : N < B64 ^ m) : RetN w N m e w' := by
  obtain ⟨v, l, rfl, h1, h2, h3, h4⟩ := h
  obtain ⟨a, n, c, rfl⟩ := h1.slice
  exact ⟨a, n, c, rfl, h1.newn h2 h3 hm, h4⟩

theorem cmp_num {w : World} {u v : Value} {A B : Int} {m k : Nat} (h : Num w u A m) (g : Num w v B k) : Calls Tryd.prog 58 #[u, v] w fun e w' => RetV w (.int .i64 (cmpI A B)) e w' := by
  obtain ⟨a, n, c, l, rfl, h1, h2, h3, h4, h5, rfl, h7⟩ := h.open
  obtain ⟨a', n', c', l', rfl, g1, g2, g3, g4, g5, rfl, g7⟩ := g.open
  exact cmp_any a n c l a' n' c' l' w h1 g1 h2 h3 g2 g3 h4 g4 h5 g5

theorem two_pow_le {A B : Int} {m k p : Nat} (h : A < B64 ^ m) (g : B < B64 ^ k) (hm : m < p) (hk : k < p) : A + B < B64 ^ p := by
  have e : B64 ^ p = B64 ^ (p - 1) * 18446744073709551616 := by rw [show p = p - 1 + 1 by omega, Int.pow_succ, Nat.add_sub_cancel]; rfl
  have h1 := pow_le_pow B64_pos (show m ≤ p - 1 by omega)
  have h2 := pow_le_pow B64_pos (show k ≤ p - 1 by omega)
  have h3 := pow_pos' B64_pos (p - 1)
  omega

theorem add2_num {w : World} {u v : Value} {A B : Int} {m k p : Nat} {t : TypeId} (h : Num w u A m) (g : Num w v B k) (hm : m < p) (hk : k < p) (hp : p ≤ 100000) :
    Calls Tryd.prog 51 #[.slice (some ⟨w.heap.size, 0, none⟩) 2 2] (w.alloc (.cells #[u, v] t)) fun e w' => RetN w (A + B) p e w' := by
  have hs := two_pow_le h.lt g.lt hm hk
  obtain ⟨l, h1, rfl, h3⟩ := h
  obtain ⟨l', g1, rfl, g3⟩ := g
  exact (add_two u v l l' t w h1 g1 (by unfold MaxW; omega) (by unfold MaxW; omega)).mono fun e w' hr => hr.retn hs

theorem add3_num {w : World} {u v x : Value} {A B C : Int} {m k j p : Nat} {t : TypeId} (h : Num w u A m) (g : Num w v B k) (f : Num w x C j) (hm : m + 1 < p) (hk : k + 1 < p) (hj : j < p) (hp : p ≤ 100000) :
    Calls Tryd.prog 51 #[.slice (some ⟨w.heap.size, 0, none⟩) 3 3] (w.alloc (.cells #[u, v, x] t)) fun e w' => RetN w (A + B + C) p e w' := by
  have hs : A + B + C < B64 ^ p := two_pow_le (two_pow_le h.lt g.lt (show m < p - 1 by omega) (show k < p - 1 by omega)) f.lt (by omega) hj
  obtain ⟨l1, h1, rfl, h3⟩ := h
  obtain ⟨l2, g1, rfl, g3⟩ := g
  obtain ⟨l3, f1, rfl, f3⟩ := f
  have hb := below_alloc w (.cells #[u, v, x] t)
  refine (add_any (some ⟨w.heap.size, 0, none⟩) 3 3 [u, v, x] [l1, l2, l3] _ rfl rfl (Nat.le_refl _) (by decide) (row_new w [u, v, x] t) ?_ ?_ (by decide)).mono ?_
  · intro j hj
    match j, hj with
    | 0, _ => exact h1.below hb
    | 1, _ => exact g1.below hb
    | 2, _ => exact f1.below hb
  · intro j
    match j with
    | 0 => show l1.length < MaxW; unfold MaxW; omega
    | 1 => show l2.length < MaxW; unfold MaxW; omega
    | 2 => show l3.length < MaxW; unfold MaxW; omega
    | j + 3 => simp; decide
  · rintro e w' ⟨v, l, rfl, hO, hc, hv, hb2⟩
    refine RetNum.retn ⟨v, l, rfl, hO.mono (by simp), hc, ?_, hb.trans (hb2.mono (by simp))⟩ hs
    rw [hv]; simp [sumv]; omega

/-- A function has returned two such rows, that lie apart. -/
def RetN2 (w : World) (N M : Int) (m k : Nat) (e : Ending) (w' : World) : Prop :=
  ∃ a n c a' n' c', e = .returned (.tuple #[.slice a n c, .slice a' n' c']) ∧ NewN w.heap.size w' (.slice a n c) N m ∧ NewN w.heap.size w' (.slice a' n' c') M k ∧ Below w.heap.size w w'
/-- What nat.Sub returns where it can. -/
def RetSN (w : World) (N : Int) (m : Nat) (e : Ending) (w' : World) : Prop := ∃ a n c, e = .returned (.tuple #[.slice a n c, .bool true]) ∧ NewN w.heap.size w' (.slice a n c) N m ∧ Below w.heap.size w w'
theorem sub_num {w : World} {u v : Value} {A B : Int} {m k : Nat} (h : Num w u A m) (g : Num w v B k) (hm : m ≤ 100000) (hle : B ≤ A) :
    Calls Tryd.prog 93 #[u, v] w fun e w' => RetSN w (A - B) m e w' := by
  have hs : A - B < B64 ^ m := by have := h.lt; have := g.nonneg; omega
  obtain ⟨a, n, c, l, rfl, h1, h2, h3, h4, h5, rfl, h7⟩ := h.open
  obtain ⟨a', n', c', l', rfl, g1, g2, g3, g4, g5, rfl, g7⟩ := g.open
  refine (sub_yes a n c l a' n' c' l' w h1 g1 h2 h3 g2 g3 h4 g4 h5 g5 hle (by unfold MaxW; omega)).mono ?_
  rintro e w' ⟨v, l2, rfl, q1, q2, q3, hb⟩
  obtain ⟨aq, nq, cq, rfl⟩ := q1.slice
  exact ⟨aq, nq, cq, rfl, q1.newn q2 q3 hs, hb⟩
theorem sub_num_no {w : World} {u v : Value} {A B : Int} {m k : Nat} (h : Num w u A m) (g : Num w v B k) (hlt : A < B) :
    Calls Tryd.prog 93 #[u, v] w fun e w' => RetNo w e w' := by
  obtain ⟨a, n, c, l, rfl, h1, h2, h3, h4, h5, rfl, h7⟩ := h.open
  obtain ⟨a', n', c', l', rfl, g1, g2, g3, g4, g5, rfl, g7⟩ := g.open
  exact sub_no a n c l a' n' c' l' w h1 g1 h2 h3 g2 g3 h4 g4 h5 g5 hlt

theorem shl_lt {N : Int} {m k p : Nat} (h : N < B64 ^ m) (hp : m + k / 64 + 1 ≤ p) : N * 2 ^ k < B64 ^ p := by
  have h1 : (2 : Int) ^ k ≤ B64 ^ (k / 64 + 1) := by
    rw [show B64 ^ (k / 64 + 1) = 2 ^ (64 * (k / 64 + 1)) by rw [Int.pow_mul]; rfl]
    exact pow_le_pow (by decide) (by omega)
  have h2 := pow2_pos k
  have h3 : N * 2 ^ k < B64 ^ m * 2 ^ k := Int.mul_lt_mul_of_pos_right h h2
  have h4 : B64 ^ m * 2 ^ k ≤ B64 ^ m * B64 ^ (k / 64 + 1) := Int.mul_le_mul_of_nonneg_left h1 (Int.le_of_lt (pow_pos' B64_pos m))
  rw [← Int.pow_add] at h4
  have h5 := pow_le_pow B64_pos (show m + (k / 64 + 1) ≤ p by omega)
  omega
theorem shr_lt {N : Int} {m k : Nat} (h : N < B64 ^ m) (h0 : 0 ≤ N) : N / 2 ^ k < B64 ^ m := Int.lt_of_le_of_lt (Int.ediv_le_self _ h0) h

theorem shiftUp_num {w : World} {u : Value} {N : Int} {m p : Nat} (k : Nat) (h : Num w u N m) (hk : k ≤ 16777216) (hp : m + k / 64 + 1 ≤ p) (hm : m ≤ 100000) :
    Calls Tryd.prog 87 #[u, .int .i64 k] w fun e w' => RetN w (N * 2 ^ k) p e w' := by
  have hs := shl_lt h.lt hp
  obtain ⟨a, n, c, l, rfl, h1, h2, h3, h4, h5, rfl, h7⟩ := h.open
  exact (shiftUp_any a n c l k w h1 h2 h3 h4 h5 hk (by unfold MaxW; omega)).mono fun e w' hr => hr.retn hs
theorem shiftDown_num {w : World} {u : Value} {N : Int} {m : Nat} (k : Nat) (h : Num w u N m) (hk : k ≤ 16777216) (hm : m ≤ 100000) :
    Calls Tryd.prog 88 #[u, .int .i64 k] w fun e w' => RetN w (N / 2 ^ k) m e w' := by
  have hs := shr_lt (k := k) h.lt h.nonneg
  obtain ⟨a, n, c, l, rfl, h1, h2, h3, h4, h5, rfl, h7⟩ := h.open
  exact (shiftDown_any a n c l k w h1 h2 h3 h4 h5 hk (by unfold MaxW; omega)).mono fun e w' hr => hr.retn hs
theorem shl_num {w : World} {u : Value} {N : Int} {m p : Nat} (k : Nat) (h : Num w u N m) (hk : k ≤ 16777216) (hp : m + k / 64 + 1 ≤ p) (hm : m ≤ 100000) :
    Calls Tryd.prog 69 #[u, .int .i64 k] w fun e w' => RetN w (N * 2 ^ k) p e w' := by
  have hs := shl_lt h.lt hp
  obtain ⟨a, n, c, l, rfl, h1, h2, h3, h4, h5, rfl, h7⟩ := h.open
  exact (shl_up a n c l k w h1 h2 h3 h4 h5 hk (by unfold MaxW; omega)).mono fun e w' hr => hr.retn hs
theorem shr_num {w : World} {u : Value} {N : Int} {m : Nat} (k : Nat) (h : Num w u N m) (hk : k ≤ 16777216) (hm : m ≤ 100000) :
    Calls Tryd.prog 70 #[u, .int .i64 k] w fun e w' => RetN w (N / 2 ^ k) m e w' := by
  have hs := shr_lt (k := k) h.lt h.nonneg
  obtain ⟨a, n, c, l, rfl, h1, h2, h3, h4, h5, rfl, h7⟩ := h.open
  exact (shr_any a n c l k w h1 h2 h3 h4 h5 hk (by unfold MaxW; omega)).mono fun e w' hr => hr.retn hs
theorem bits_num {w : World} {u : Value} {N : Int} {m : Nat} (h : Num w u N m) (hm : m ≤ 100000) :
    Calls Tryd.prog 60 #[u] w fun e w' => e = .returned (.int .i64 (nb N)) ∧ w = w' := by
  obtain ⟨a, n, c, l, rfl, h1, h2, h3, h4, h5, rfl, h7⟩ := h.open
  exact bits_any a n c l w h1 h2 h3 h4 h5 (by unfold MaxW; omega)
theorem nb_zero_iff {N : Int} (h : 0 ≤ N) : (((nb N : Nat) : Int) == 0) = decide (N = 0) := by
  by_cases h0 : N = 0
  · subst h0; rfl
  · have h1 := (nb_spec (show 0 < N by omega)).2.2
    rw [decide_eq_false h0, beq_eq_false_iff_ne]; omega

theorem of_num {w : World} {u : Value} {N : Int} {m : Nat} (h : Num w u N m) (hm : m ≤ 100000) :
    Calls Tryd.prog 52 #[u] w fun e w' => RetN w N m e w' := by
  have hs := h.lt
  obtain ⟨a, n, c, l, rfl, h1, h2, h3, h4, h5, rfl, h7⟩ := h.open
  refine (of_any a n c l w h1 h2 h3 h4 (by unfold MaxW; omega)).mono ?_
  rintro e w' ⟨v, rfl, q1, hb⟩
  obtain ⟨aq, nq, cq, rfl⟩ := q1.slice
  exact ⟨aq, nq, cq, rfl, q1.newn (can_tr h5) (vb_tr _ _) hs, hb⟩
/-- nat.Of of one word. -/
theorem of1_num (x : Int) (t : TypeId) (w : World) (h0 : 0 ≤ x) (h1 : x ≤ 18446744073709551615) :
    Calls Tryd.prog 52 #[.slice (some ⟨w.heap.size, 0, none⟩) 1 1] (w.alloc (.cells #[.int .u64 x] t)) fun e w' => RetN w x 1 e w' := by
  have hl : Lim B64 [x] := Lim.cons h0 (by unfold B64; omega) (Lim.nil _)
  have hn : Num (w.alloc (.cells #[.int .u64 x] t)) (.slice (some ⟨w.heap.size, 0, none⟩) 1 1) x 1 := ⟨[x], ⟨_, 1, rfl, Nat.le_refl _, by decide, at_new w x t, hl⟩, by rw [vb_one], Nat.le_refl _⟩
  refine (of_num hn (by decide)).mono ?_
  rintro e w' ⟨a, n, c, rfl, h, hb⟩
  exact ⟨a, n, c, rfl, h.base (by simp), (below_alloc w _).trans (hb.mono (by simp))⟩

/-- 'Light' of two lists. -/
theorem light_two (a1 a2 : Option Addr) (n1 n2 c1 c2 : Nat) (t : TypeId) (w : World) (h1 : n1 ≤ 9223372036854775807) (h2 : n2 ≤ 9223372036854775807) :
    Calls Tryd.prog 7 #[.slice (some ⟨w.heap.size, 0, none⟩) 2 2] (w.alloc (.cells #[.slice a1 n1 c1, .slice a2 n2 c2] t)) fun e w' => e = .returned (.bool (decide (n1 ≤ 40) && decide (n2 ≤ 40))) ∧ w' = w.alloc (.cells #[.slice a1 n1 c1, .slice a2 n2 c2] t) := by
  refine (light_any (some ⟨w.heap.size, 0, none⟩) 2 2 [.slice a1 n1 c1, .slice a2 n2 c2] [List.replicate n1 0, List.replicate n2 0] _ rfl rfl (Nat.le_refl _) (by decide) (row_new w [.slice a1 n1 c1, .slice a2 n2 c2] t) ?_ ?_).mono ?_
  · intro j hj
    match j, hj with
    | 0, _ => exact ⟨a1, c1, by simp⟩
    | 1, _ => exact ⟨a2, c2, by simp⟩
  · intro j
    match j with
    | 0 => simpa using h1
    | 1 => simpa using h2
    | j + 2 => simp
  · rintro e w' ⟨rfl, rfl⟩
    refine ⟨?_, rfl⟩
    simp [lightB]
end Go.Proofs.YtfanhllcoaondaaDoor

namespace Go.Proofs.YtfanhllcoaondaaDoor
open Go.RowKit

/-- An amount with a sign. -/
def sg (neg : Bool) (N : Int) : Int := if neg = true then -N else N
theorem sg_true (N : Int) : sg true N = -N := rfl
theorem sg_false (N : Int) : sg false N = N := rfl
theorem sg_not (neg : Bool) (N : Int) : sg (!neg) N = -sg neg N := by cases neg <;> simp [sg]

/-- A function has returned an integer in a row of the call's own, in its one form. -/
def RetW (w : World) (Z : Int) (m : Nat) (e : Ending) (w' : World) : Prop :=
  ∃ neg a n c N, e = .returned (.agg #[.bool neg, .slice a n c]) ∧ NewN w.heap.size w' (.slice a n c) N m ∧ Z = sg neg N ∧ (neg = true → N ≠ 0) ∧ Below w.heap.size w w'
def RetSg (neg : Bool) (a : Option Addr) (n c : Nat) (N : Int) (w : World) (e : Ending) (w' : World) : Prop :=
  ∃ neg', e = .returned (.agg #[.bool neg', .slice a n c]) ∧ sg neg' N = sg neg N ∧ (neg' = true → N ≠ 0) ∧ Below w.heap.size w w'

set_option maxRecDepth 100000 in
theorem signed_num {base : Nat} {w : World} (neg : Bool) {a : Option Addr} {n c : Nat} {N : Int} {m : Nat} (h : NewN base w (.slice a n c) N m) :
    Calls Tryd.prog 53 #[.bool neg, .slice a n c] w fun e w' => RetSg neg a n c N w e w' := by
  have hb := fun x => below_alloc w (.cells #[.bool x, .slice a n c] 28)
  have hl := h.len.1
  have HL := Lib.hid hl
  clear hl h
  go_enter Tryd.func53, Tryd.ntmps53
  go_wp2_with fail
  all_goals rename_i hneg
  · refine bodyPost_ret (v := .agg #[.bool (decide (0 < n)), .slice a n c]) (results_cell_row rfl _ _ w.heap.size 28 _ (0, 0) _ rfl (heap_alloc_new w _) Tryd.underlying28 rfl (by kernel_rfl)) rfl ?_
    refine ⟨decide (0 < n), rfl, ?_, ?_, hb _⟩
    · by_cases h0 : n = 0
      · have := HL.out.1 h0
        simp [h0, this, sg]
      · have : decide (0 < n) = true := by simp; omega
        rw [this, hneg]
    · intro h1 h2
      have := HL.out.2 h2
      simp at h1; omega
  · refine bodyPost_ret (v := .agg #[.bool false, .slice a n c]) (results_cell_row rfl _ _ w.heap.size 28 _ (0, 0) _ rfl (heap_alloc_new w _) Tryd.underlying28 rfl (by kernel_rfl)) rfl ?_
    exact ⟨false, rfl, by simp [hneg], by simp, hb _⟩

/-- The cells of a variable of two fields. -/
theorem slot2 {w : World} {g : Nat} {x y : Value} {t : TypeId} (h : w.heap[g]? = some (.cells #[x, y] t (0, 0))) :
    w.cell? ⟨g, 0, none⟩ = some x ∧ w.cell? ⟨g, 1, none⟩ = some y ∧ w.frozen? ⟨g, 0, none⟩ = false ∧ w.frozen? ⟨g, 1, none⟩ = false :=
  ⟨cell_of_row w g 0 _ t _ h, cell_of_row w g 1 _ t _ h, frozen_of_row w g 0 _ t h, frozen_of_row w g 1 _ t h⟩
theorem slot_kept {w1 w2 : World} {g : Nat} {o : Obj} (h : w1.heap[g]? = some o) (hb : Below w1.heap.size w1 w2) : w2.heap[g]? = some o := by
  rw [hb.block _ (Array.getElem?_eq_some_iff.1 h).1]; exact h
theorem slot_set {w : World} {g : Nat} {x y u v : Value} {t : TypeId} (h : w.heap[g]? = some (.cells #[x, y] t (0, 0))) :
    ((w.setCell ⟨g, 0, none⟩ u).setCell ⟨g, 1, none⟩ v).heap[g]? = some (.cells #[u, v] t (0, 0)) := by
  have h1 := heap_setCell_same w g 0 _ t u h
  have h2 := heap_setCell_same (w.setCell ⟨g, 0, none⟩ u) g 1 _ t v h1
  rw [h2]; rfl
theorem slot_only {w : World} {g : Nat} (u v : Value) : Only g 0 2 w ((w.setCell ⟨g, 0, none⟩ u).setCell ⟨g, 1, none⟩ v) :=
  (Only.store 0 u (Nat.le_refl _) (by decide)).trans (Only.store 1 v (by decide) (by decide))
set_option maxRecDepth 100000 in
theorem make_num {w : World} (neg : Bool) {a : Option Addr} {n c : Nat} {N : Int} {m : Nat} (h : Num w (.slice a n c) N m) (hm : m ≤ 100000) :
    Calls Tryd.prog 29 #[.bool neg, .slice a n c] w fun e w' => RetW w (sg neg N) m e w' := by
  go_enter Tryd.func29, Tryd.ntmps29
  have hb0 := below_alloc w (.cells #[.bool false, .slice none 0 0] 28)
  go_wp2_with fail
  refine (of_num (h.below hb0) hm).mono ?_
  rintro e w1 ⟨a1, n1, c1', rfl, h1, hb1⟩
  go_wp2_with fail
  refine (signed_num neg h1).mono ?_
  rintro e w2 ⟨neg', rfl, hs, hz, hb2⟩
  have hblk := slot_kept (slot_kept (heap_alloc_new w _) hb1) hb2
  obtain ⟨c0, c1, f0, f1⟩ := slot2 hblk
  have hend := slot_set (u := .bool neg') (v := .slice a1 n1 c1') hblk
  have hon := slot_only (w := w2) (g := w.heap.size) (.bool neg') (.slice a1 n1 c1')
  have hsz := hb1.size
  have hbw := hb0.trans (hb1.mono hb0.size)
  replace hbw := hbw.trans (hb2.mono hbw.size)
  have hfin := hbw.trans (hon.below (Nat.le_refl _) hbw.size)
  go_wp2_with fail
  refine bodyPost_ret (v := .agg #[.bool neg', .slice a1 n1 c1']) (results_cell_row rfl _ _ w.heap.size 28 _ (0, 0) _ rfl hend Tryd.underlying28 rfl (by kernel_rfl)) rfl ?_
  refine ⟨neg', a1, n1, c1', N, rfl, ?_, hs.symm, hz, hfin⟩
  exact ((h1.below hb2).only hon (by simp)).base (by simp)

/-- What is known when a result that lies in a variable of its own has been stored. -/
theorem slot_end {w w2 : World} {x y : Value} {t : TypeId} {base : Nat} {neg' : Bool} {a : Option Addr} {n c : Nat} {N Z : Int} {m : Nat} {g : Nat} (hblk : w2.heap[g]? = some (.cells #[x, y] t (0, 0))) (hbw : Below w.heap.size w w2) (hg : w.heap.size ≤ g)
    (h : NewN base w2 (.slice a n c) N m) (hbase : g < base) (hs : sg neg' N = Z) (hz : neg' = true → N ≠ 0) :
    ((w2.setCell ⟨g, 0, none⟩ (.bool neg')).setCell ⟨g, 1, none⟩ (.slice a n c)).heap[g]? = some (.cells #[.bool neg', .slice a n c] t (0, 0)) ∧
    RetW w Z m (.returned (.agg #[.bool neg', .slice a n c])) ((w2.setCell ⟨g, 0, none⟩ (.bool neg')).setCell ⟨g, 1, none⟩ (.slice a n c)) := by
  have hon := slot_only (w := w2) (g := g) (.bool neg') (.slice a n c)
  exact ⟨slot_set hblk, neg', a, n, c, N, rfl, (h.only hon hbase).base (Nat.le_trans hg (Nat.le_of_lt hbase)), hs.symm, hz, hbw.trans (hon.below hg hbw.size)⟩

theorem of1_at (x : Int) (t : TypeId) (w : World) (g : Nat) (hg : w.heap.size = g) (h0 : 0 ≤ x) (h1 : x ≤ 18446744073709551615) :
    Calls Tryd.prog 52 #[.slice (some ⟨g, 0, none⟩) 1 1] (w.alloc (.cells #[.int .u64 x] t)) fun e w' => RetN w x 1 e w' := by
  subst hg
  exact of1_num x t w h0 h1
theorem add2_at {w : World} {u v : Value} {A B : Int} {m k p : Nat} {t : TypeId} {g : Nat} (hg : w.heap.size = g) (h : Num w u A m) (g' : Num w v B k) (hm : m < p) (hk : k < p) (hp : p ≤ 100000) :
    Calls Tryd.prog 51 #[.slice (some ⟨g, 0, none⟩) 2 2] (w.alloc (.cells #[u, v] t)) fun e w' => RetN w (A + B) p e w' := by
  subst hg
  exact add2_num h g' hm hk hp

set_option maxRecDepth 100000 in
theorem wof_num (v : Int) (w : World) (h0 : -9223372036854775808 ≤ v) (h1 : v ≤ 9223372036854775807) :
    Calls Tryd.prog 30 #[.int .i64 v] w fun e w' => RetW w v 1 e w' := by
  have hb0 := below_alloc w (.cells #[.bool false, .slice none 0 0] 28)
  obtain ⟨x, hx⟩ : ∃ x : Int, x = if v < 0 then -v else v := ⟨_, rfl⟩
  have hx0 : 0 ≤ x := by rw [hx]; split <;> omega
  have hx1 : x ≤ 18446744073709551615 := by rw [hx]; split <;> omega
  have hsx : sg (decide (v < 0)) x = v := by rw [hx]; by_cases h : v < 0 <;> simp [sg, h]
  have HSX := Lib.hid hsx
  obtain ⟨y, hy⟩ : ∃ y, IntKind.u64.wrap v = y := ⟨_, rfl⟩
  have hyx : v < 0 → IntKind.u64.wrap (-y) = x := by
    intro h; rw [hx, if_pos h, ← hy, IntKind.wrap_u64, IntKind.wrap_u64]; omega
  have hyx2 : ¬ v < 0 → y = x := by
    intro h; rw [hx, if_neg h, ← hy, IntKind.wrap_u64]; omega
  clear hx hsx
  by_cases hv : v < 0
  · have hw := hyx hv
    clear hyx hyx2
    rw [show decide (v < 0) = true by simpa using hv] at HSX
    go_enter Tryd.func30, Tryd.ntmps30
    go_wp2_with fail
    refine (of1_at x _ _ _ (by simp) hx0 hx1).mono ?_
    rintro e w1 ⟨a1, n1, c1', rfl, h1, hb1⟩
    go_wp2_with fail
    refine (signed_num true h1).mono ?_
    rintro e w2 ⟨neg', rfl, hs, hz, hb2⟩
    have hblk := slot_kept (slot_kept (heap_alloc_new w _) hb1) hb2
    obtain ⟨k0, k1, f0, f1⟩ := slot2 hblk
    have hsz := hb1.size
    have hbw := hb0.trans (hb1.mono hb0.size)
    replace hbw := hbw.trans (hb2.mono hbw.size)
    obtain ⟨hend, hret⟩ := slot_end hblk hbw (Nat.le_refl _) (h1.below hb2) (by simp) (hs.trans HSX.out) hz
    go_wp2_with fail
    exact bodyPost_ret (results_cell_row rfl _ _ w.heap.size 28 _ (0, 0) _ rfl hend Tryd.underlying28 rfl (by kernel_rfl)) rfl hret
  · have hw := hyx2 hv
    clear hyx hyx2
    subst hw
    rw [show decide (v < 0) = false by simpa using hv] at HSX
    go_enter Tryd.func30, Tryd.ntmps30
    go_wp2_with fail
    refine (of1_at y _ _ _ (by simp) hx0 hx1).mono ?_
    rintro e w1 ⟨a1, n1, c1', rfl, h1, hb1⟩
    go_wp2_with fail
    refine (signed_num false h1).mono ?_
    rintro e w2 ⟨neg', rfl, hs, hz, hb2⟩
    have hblk := slot_kept (slot_kept (heap_alloc_new w _) hb1) hb2
    obtain ⟨k0, k1, f0, f1⟩ := slot2 hblk
    have hsz := hb1.size
    have hbw := hb0.trans (hb1.mono hb0.size)
    replace hbw := hbw.trans (hb2.mono hbw.size)
    obtain ⟨hend, hret⟩ := slot_end hblk hbw (Nat.le_refl _) (h1.below hb2) (by simp) (hs.trans HSX.out) hz
    go_wp2_with fail
    exact bodyPost_ret (results_cell_row rfl _ _ w.heap.size 28 _ (0, 0) _ rfl hend Tryd.underlying28 rfl (by kernel_rfl)) rfl hret

set_option maxRecDepth 100000 in
theorem sign_num {w : World} (neg : Bool) {a : Option Addr} {n c : Nat} {N : Int} {m : Nat} (h : Num w (.slice a n c) N m) (hm : m ≤ 100000) :
    Calls Tryd.prog 17 #[.agg #[.bool neg, .slice a n c]] w fun e w' => RetV w (.int .i64 (cmpI (sg neg N) 0)) e w' := by
  have hb0 := below_alloc w (.cells #[.bool neg, .slice a n c] 28)
  have hz := nb_zero_iff h.nonneg
  have hn0 := h.nonneg
  obtain ⟨t, ht⟩ : ∃ t, t = nb N := ⟨_, rfl⟩
  have HB := Lib.hid (bits_num (h.below hb0) hm)
  rw [← ht] at hz HB
  clear ht
  by_cases h0 : N = 0
  · rw [decide_eq_true h0] at hz
    have hv : cmpI (sg neg N) 0 = 0 := cmpI_eq (by rw [h0]; cases neg <;> rfl)
    rw [hv]
    clear hv h0 h
    go_enter Tryd.func17, Tryd.ntmps17
    go_wp2_with fail
    refine HB.out.mono ?_
    rintro e w' ⟨rfl, rfl⟩
    go_wp2_with fail
    go_ret
    exact ⟨rfl, hb0⟩
  · rw [decide_eq_false h0] at hz
    cases neg with
    | true =>
      have hv : cmpI (sg true N) 0 = -1 := cmpI_lt (by rw [sg_true]; omega)
      rw [hv]
      clear hv h0 h
      go_enter Tryd.func17, Tryd.ntmps17
      go_wp2_with fail
      refine HB.out.mono ?_
      rintro e w' ⟨rfl, rfl⟩
      go_wp2_with fail
      go_ret
      exact ⟨rfl, hb0⟩
    | false =>
      have hv : cmpI (sg false N) 0 = 1 := cmpI_gt (by rw [sg_false]; omega)
      rw [hv]
      clear hv h0 h
      go_enter Tryd.func17, Tryd.ntmps17
      go_wp2_with fail
      refine HB.out.mono ?_
      rintro e w' ⟨rfl, rfl⟩
      go_wp2_with fail
      go_ret
      exact ⟨rfl, hb0⟩

set_option maxRecDepth 100000 in
theorem not_num {w : World} (neg : Bool) {a : Option Addr} {n c : Nat} {N : Int} {m : Nat} (h : Num w (.slice a n c) N m) (hm : m ≤ 100000) :
    Calls Tryd.prog 18 #[.agg #[.bool neg, .slice a n c]] w fun e w' => RetW w (-sg neg N) m e w' := by
  have hb0 := below_alloc w (.cells #[.bool neg, .slice a n c] 28)
  have hb1 := hb0.alloc (Nat.le_of_lt (by simp)) (.cells #[.bool false, .slice none 0 0] 28)
  go_enter Tryd.func18, Tryd.ntmps18
  go_wp2_with fail
  refine (make_num (!neg) (h.below hb1) hm).mono ?_
  rintro e w1 ⟨neg', a1, n1, c1', N1, rfl, h1, hs, hz, hb2⟩
  have hblk := slot_kept (heap_alloc2_new w _ _) hb2
  obtain ⟨k0, k1, f0, f1⟩ := slot2 hblk
  have hsz := hb2.size
  have hbw := hb1.trans (hb2.mono hb1.size)
  obtain ⟨hend, hret⟩ := slot_end (Z := -sg neg N) hblk hbw (by omega) h1 (by simp) (by rw [← hs, sg_not]) hz
  go_wp2_with fail
  exact bodyPost_ret (results_cell_row rfl _ _ (w.heap.size + 1) 28 _ (0, 0) _ rfl hend Tryd.underlying28 rfl (by kernel_rfl)) rfl hret
end Go.Proofs.YtfanhllcoaondaaDoor

namespace Go.Proofs.YtfanhllcoaondaaDoor
open Go.RowKit

set_option maxRecDepth 100000 in
theorem isnan_int (s : Int) (w : World) : Calls Tryd.prog 91 #[.int .i64 s] w fun e w' => e = .returned (.bool false) ∧ w = w' := by
  go_enter Tryd.func91, Tryd.ntmps91
  go_wp2_with fail
  go_ret
  exact ⟨by simp, rfl⟩

set_option maxRecDepth 100000 in
theorem compare_int (s t : Int) (w : World) : Calls Tryd.prog 57 #[.int .i64 s, .int .i64 t] w fun e w' => e = .returned (.int .i64 (cmpI s t)) ∧ w = w' := by
  have key : ∀ c, cmpI s t = c → Hid (cmpI s t = c) := fun c h => h
  rcases Int.lt_trichotomy s t with h | h | h
  · have hv := Lib.hid (cmpI_lt h)
    have h2 : ¬ t < s := by omega
    go_enter Tryd.func57, Tryd.ntmps57
    go_wp2_with (go_at_call 91; refine (isnan_int _ _).mono ?_; rintro e w' ⟨rfl, rfl⟩)
    go_ret
    exact ⟨by rw [hv.out]; rfl, rfl⟩
  · have hv := Lib.hid (cmpI_eq h)
    have h1 : ¬ s < t := by omega
    have h2 : ¬ t < s := by omega
    clear h
    go_enter Tryd.func57, Tryd.ntmps57
    go_wp2_with (go_at_call 91; refine (isnan_int _ _).mono ?_; rintro e w' ⟨rfl, rfl⟩)
    go_ret
    exact ⟨by rw [hv.out]; rfl, rfl⟩
  · have hv := Lib.hid (cmpI_gt h)
    have h1 : ¬ s < t := by omega
    go_enter Tryd.func57, Tryd.ntmps57
    go_wp2_with (go_at_call 91; refine (isnan_int _ _).mono ?_; rintro e w' ⟨rfl, rfl⟩)
    go_ret
    exact ⟨by rw [hv.out]; rfl, rfl⟩

theorem cmpI_range (x y : Int) : cmpI x y = -1 ∨ cmpI x y = 0 ∨ cmpI x y = 1 := by
  rcases Int.lt_trichotomy x y with h | h | h
  · exact Or.inl (cmpI_lt h)
  · exact Or.inr (Or.inl (cmpI_eq h))
  · exact Or.inr (Or.inr (cmpI_gt h))
theorem cmpI_sign {x : Int} : (cmpI x 0 = -1 ↔ x < 0) ∧ (cmpI x 0 = 0 ↔ x = 0) ∧ (cmpI x 0 = 1 ↔ 0 < x) := by
  rcases Int.lt_trichotomy x 0 with h | h | h
  · rw [cmpI_lt h]; omega
  · rw [cmpI_eq h]; omega
  · rw [cmpI_gt h]; omega
/-- Signs that differ tell which one is greater. -/
theorem cmp_signs {x y : Int} (h : cmpI x 0 ≠ cmpI y 0) : cmpI (cmpI x 0) (cmpI y 0) = cmpI x y := by
  rcases Int.lt_trichotomy x 0 with a | a | a <;> rcases Int.lt_trichotomy y 0 with b | b | b
  · rw [cmpI_lt a, cmpI_lt b] at h; exact absurd rfl h
  · rw [cmpI_lt a, cmpI_eq b, cmpI_lt (show x < y by omega)]; decide
  · rw [cmpI_lt a, cmpI_gt b, cmpI_lt (show x < y by omega)]; decide
  · rw [cmpI_eq a, cmpI_lt b, cmpI_gt (show y < x by omega)]; decide
  · rw [cmpI_eq a, cmpI_eq b] at h; exact absurd rfl h
  · rw [cmpI_eq a, cmpI_gt b, cmpI_lt (show x < y by omega)]; decide
  · rw [cmpI_gt a, cmpI_lt b, cmpI_gt (show y < x by omega)]; decide
  · rw [cmpI_gt a, cmpI_eq b, cmpI_gt (show y < x by omega)]; decide
  · rw [cmpI_gt a, cmpI_gt b] at h; exact absurd rfl h
theorem cmp_amounts {n1 n2 : Bool} {A B : Int} (hA : 0 ≤ A) (hB : 0 ≤ B) (h : cmpI (sg n1 A) 0 = cmpI (sg n2 B) 0) : cmpI (sg n1 A) 0 * cmpI A B = cmpI (sg n1 A) (sg n2 B) := by
  have e := cmpI_sign (x := sg n1 A)
  have f := cmpI_sign (x := sg n2 B)
  rcases Int.lt_trichotomy (sg n1 A) 0 with a | a | a
  · have b : sg n2 B < 0 := f.1.1 (by rw [← h]; exact e.1.2 a)
    have h1 : n1 = true := by cases n1 with | true => rfl | false => rw [sg_false] at a; omega
    have h2 : n2 = true := by cases n2 with | true => rfl | false => rw [sg_false] at b; omega
    subst h1 h2
    rw [cmpI_lt a, sg_true, sg_true]
    rcases Int.lt_trichotomy A B with c | c | c
    · rw [cmpI_lt c, cmpI_gt (show -B < -A by omega)]; rfl
    · rw [cmpI_eq c, cmpI_eq (show -A = -B by omega)]; rfl
    · rw [cmpI_gt c, cmpI_lt (show -A < -B by omega)]; rfl
  · have b : sg n2 B = 0 := f.2.1.1 (by rw [← h]; exact e.2.1.2 a)
    rw [cmpI_eq a, cmpI_eq (show sg n1 A = sg n2 B by omega)]; omega
  · have b : 0 < sg n2 B := f.2.2.1 (by rw [← h]; exact e.2.2.2 a)
    have h1 : n1 = false := by cases n1 with | false => rfl | true => rw [sg_true] at a; omega
    have h2 : n2 = false := by cases n2 with | false => rfl | true => rw [sg_true] at b; omega
    subst h1 h2
    rw [cmpI_gt a, sg_false, sg_false]; omega

set_option maxRecDepth 100000 in
set_option maxHeartbeats 1000000 in
theorem cmpw_num {w : World} (p q : Bool) {a : Option Addr} {n c : Nat} {A : Int} {m : Nat} {a' : Option Addr} {n' c' : Nat} {B : Int} {m' : Nat} (hA : Num w (.slice a n c) A m) (hB : Num w (.slice a' n' c') B m') (hm : m ≤ 100000) (hm' : m' ≤ 100000) :
    Calls Tryd.prog 15 #[.agg #[.bool p, .slice a n c], .agg #[.bool q, .slice a' n' c']] w fun e w' => RetV w (.int .i64 (cmpI (sg p A) (sg q B))) e w' := by
  have hb0 := below_alloc w (.cells #[.bool p, .slice a n c] 28)
  have hb1 := hb0.alloc (Nat.le_of_lt (by simp)) (.cells #[.bool q, .slice a' n' c'] 28)
  obtain ⟨s, hs⟩ : ∃ s, s = cmpI (sg p A) 0 := ⟨_, rfl⟩
  obtain ⟨t, ht⟩ : ∃ t, t = cmpI (sg q B) 0 := ⟨_, rfl⟩
  go_enter Tryd.func15, Tryd.ntmps15
  have hb2 : Below w.heap.size w ((w.alloc (.cells #[.bool p, .slice a n c] 28)).alloc (.cells #[.bool q, .slice a' n' c'] 28)).drew := bdn hb1 1
  have HA := hA.below hb2
  have HB := hB.below hb2
  have r0 : ((w.alloc (.cells #[.bool p, .slice a n c] 28)).alloc (.cells #[.bool q, .slice a' n' c'] 28)).drew.heap[w.heap.size]? = some (.cells #[.bool p, .slice a n c] 28 (0, 0)) := heap_alloc2_old w _ _
  have r1 : ((w.alloc (.cells #[.bool p, .slice a n c] 28)).alloc (.cells #[.bool q, .slice a' n' c'] 28)).drew.heap[w.heap.size + 1]? = some (.cells #[.bool q, .slice a' n' c'] 28 (0, 0)) := heap_alloc2_new w _ _
  have HS := Lib.hid hs
  have HT := Lib.hid ht
  clear hs ht hA hB
  go_wp2_with fail
  go_region_with (go_at_call 17; refine (sign_num _ (by first | exact HA | exact HB | exact HA.below (by assumption) | exact HB.below (by assumption)) (by assumption)).mono ?_; rintro e wn ⟨rfl, hbn⟩; have q0 := (by first | exact slot_kept r0 hbn | exact slot_kept (slot_kept r0 (by assumption)) hbn); have q1 := (by first | exact slot_kept r1 hbn | exact slot_kept (slot_kept r1 (by assumption)) hbn); obtain ⟨c0, c1, f0, f1⟩ := slot2 q0; obtain ⟨d0, d1, g0, g1⟩ := slot2 q1)
  all_goals (
    rename_i v2 hbv _ _ _ _ _ _ _ _ _ _
    obtain ⟨w2, hw2⟩ : ∃ w2, w2 = wn := ⟨_, rfl⟩
    have HA2 := (HA.below hbv).below hbn
    have HB2 := (HB.below hbv).below hbn
    have hbw := hb2.trans (hbv.mono hb2.size)
    replace hbw := hbw.trans (hbn.mono hbw.size)
    clear HA HB r0 r1 q0 q1 hbn hbv hw2
    rw [← HS.out, ← HT.out]
    have hr := cmpI_range (sg p A) 0
    rw [← HS.out] at hr
    have hAB := cmpI_range A B
    by_cases hst : s = t
    · subst hst
      have key := cmp_amounts (n1 := p) (n2 := q) HA2.nonneg HB2.nonneg (by rw [← HS.out, ← HT.out])
      rw [← HS.out] at key
      have HK := Lib.hid key
      obtain ⟨x, hx⟩ : ∃ x, x = cmpI A B := ⟨_, rfl⟩
      have hwr : IntKind.i64.wrap (s * x) = s * x := by
        rw [IntKind.wrap_i64, hx]
        rcases hr with h | h | h <;> rcases hAB with k | k | k <;> rw [h, k] <;> decide
      have HX := Lib.hid hx
      clear key hx hr hAB HS HT
      go_wp2_with fail
      refine (cmp_num HA2 HB2).mono ?_
      rintro e w3 ⟨rfl, hb3⟩
      rw [← HX.out]
      go_wp2_with fail
      go_ret
      exact ⟨by rw [← HK.out, HX.out]; rfl, hbw.trans (hb3.mono hbw.size)⟩
    · have key := cmp_signs (x := sg p A) (y := sg q B) (by rw [← HS.out, ← HT.out]; exact hst)
      rw [← HS.out, ← HT.out] at key
      have HK := Lib.hid key
      have hne : (s == t) = false := by simpa using hst
      clear key hr hAB HS HT
      go_wp2_with fail
      refine (compare_int s t _).mono ?_
      rintro e w' ⟨rfl, rfl⟩
      go_wp2_with fail
      go_ret
      exact ⟨by rw [HK.out]; rfl, hbw⟩)
end Go.Proofs.YtfanhllcoaondaaDoor

namespace Go.Proofs.YtfanhllcoaondaaDoor
open Go.RowKit

set_option maxRecDepth 100000 in
set_option maxHeartbeats 2000000 in
theorem mul64_nat (x y : Nat) (hx : x < 18446744073709551616) (hy : y < 18446744073709551616) (w : World) :
    Calls Tryd.prog 128 #[.int .u64 x, .int .u64 y] w fun e w' => e = .returned (.tuple #[.int .u64 ((x * y / 18446744073709551616 : Nat) : Int), .int .u64 ((x * y % 18446744073709551616 : Nat) : Int)]) ∧ w = w' := by
  obtain ⟨low, mid, cross, top⟩ := Lib.mul64_hi x y hx hy
  have p1 : x / 4294967296 * (y / 4294967296) < 18446744073709551616 := by have := Lib.half_mul_le (a := x / 4294967296) (b := y / 4294967296) (by omega) (by omega); omega
  have p2 : x / 4294967296 * (y % 4294967296) < 18446744073709551616 := by have := Lib.half_mul_le (a := x / 4294967296) (b := y % 4294967296) (by omega) (by omega); omega
  have p3 : x % 4294967296 * (y / 4294967296) < 18446744073709551616 := by have := Lib.half_mul_le (a := x % 4294967296) (b := y / 4294967296) (by omega) (by omega); omega
  have p4 : x / 4294967296 * (y / 4294967296) ≤ 18446744065119617025 := by have := Lib.half_mul_le (a := x / 4294967296) (b := y / 4294967296) (by omega) (by omega); omega
  have s1 : x / 4294967296 * (y / 4294967296) + (x / 4294967296 * (y % 4294967296) + x % 4294967296 * (y % 4294967296) / 4294967296) / 4294967296 < 18446744073709551616 := by omega
  have s2 : x / 4294967296 * (y / 4294967296) + (x / 4294967296 * (y % 4294967296) + x % 4294967296 * (y % 4294967296) / 4294967296) / 4294967296 + ((x / 4294967296 * (y % 4294967296) + x % 4294967296 * (y % 4294967296) / 4294967296) % 4294967296 + x % 4294967296 * (y / 4294967296)) / 4294967296 < 18446744073709551616 := by omega
  go_enter Tryd.func128, Tryd.ntmps128
  go_wp2
  simp only [Mul64.maskN x hx, Mul64.maskN y hy, Mul64.divN, Mul64.mulN, Mul64.addN, Mul64.wrapN _ low, Mul64.wrapN _ p2, Mul64.wrapN _ mid, Mul64.maskN _ mid, Mul64.wrapN _ p3, Mul64.wrapN _ cross, Mul64.wrapN _ p1, Mul64.wrapN _ s1, Mul64.wrapN _ s2, Mul64.wrapM (x * y)]
  rw [top]
  go_ret2
  exact ⟨rfl, rfl⟩

theorem mul64_any (x y : Int) (w : World) (hx : 0 ≤ x) (hx1 : x ≤ 18446744073709551615) (hy : 0 ≤ y) (hy1 : y ≤ 18446744073709551615) :
    Calls Tryd.prog 128 #[.int .u64 x, .int .u64 y] w fun e w' => e = .returned (.tuple #[.int .u64 (x * y / 18446744073709551616), .int .u64 (x * y % 18446744073709551616)]) ∧ w = w' := by
  obtain ⟨x, rfl⟩ := Int.eq_ofNat_of_zero_le hx
  obtain ⟨y, rfl⟩ := Int.eq_ofNat_of_zero_le hy
  refine (mul64_nat x y (by omega) (by omega) w).mono ?_
  rintro e w' ⟨rfl, rfl⟩
  refine ⟨?_, rfl⟩
  rw [← Int.natCast_mul]
  rfl
end Go.Proofs.YtfanhllcoaondaaDoor

namespace Go.Proofs.YtfanhllcoaondaaDoor
open Go.RowKit


theorem ap_step {l lo lx : List Int} {k : Nat} {c x y f s d : Int} (hk : k < l.length) (hkl : k < lo.length) (hkx : k < lx.length) (hx : x = lx.getD k 0) (hy : y = lo.getD k 0) (hs : s + B64 * d = y + x * f + c)
    (h : vb B64 (l.take k) + B64 ^ k * c = vb B64 (lo.take k) + vb B64 (lx.take k) * f) :
    vb B64 ((l.set k s).take (k + 1)) + B64 ^ (k + 1) * d = vb B64 (lo.take (k + 1)) + vb B64 (lx.take (k + 1)) * f := by
  rw [vb_take_succ B64 hkl, vb_take_succ B64 hkx, vb_take_succ B64 (by rw [List.length_set]; exact hk), getD_set_same hk, List.take_set_of_le (Nat.le_refl _), ← hx, ← hy, Int.pow_succ, Int.mul_assoc, Int.add_assoc, ← Int.mul_add, hs, Int.mul_add, Int.mul_add, Int.add_mul, Int.mul_assoc]
  omega

theorem word_prod {x f : Int} (hx0 : 0 ≤ x) (hx1 : x ≤ 18446744073709551615) (hf0 : 0 ≤ f) (hf1 : f ≤ 18446744073709551615) : 0 ≤ x * f ∧ x * f ≤ 340282366920938463426481119284349108225 := by
  refine ⟨Int.mul_nonneg hx0 hf0, ?_⟩
  have := Int.mul_le_mul hx1 hf1 hf0 (by decide)
  omega

/-- What nat.addProduct leaves. -/
def RetAP (g off no nx : Nat) (lo : List Int) (N : Int) (w : World) (e : Ending) (w' : World) : Prop :=
  ∃ c l, e = .returned (.int .u64 c) ∧ 0 ≤ c ∧ c < B64 ∧ l.length = no ∧ Lim B64 l ∧ Arr w' g off l ∧ l.drop nx = lo.drop nx ∧ vb B64 (l.take nx) + B64 ^ nx * c = vb B64 (lo.take nx) + N ∧ Only g off (off + nx) w w'

set_option maxRecDepth 100000 in
set_option maxHeartbeats 4000000 in
theorem addProduct_any (g off no co : Nat) (lo : List Int) (ax : Option Addr) (nx cx : Nat) (lx : List Int) (f : Int) (w : World) (hno : no = lo.length) (hnx : nx = lx.length) (ho1 : no ≤ co) (_ho2 : co ≤ 9223372036854775807) (_hx1 : nx ≤ cx) (_hx2 : cx ≤ 9223372036854775807)
    (ha : Arr w g off lo) (hx : Rd w ax lx) (hne : lx ≠ [] → ∀ b' off', ax = some ⟨b', off', none⟩ → b' ≠ g) (hll : Lim B64 lo) (hlx : Lim B64 lx) (hle : nx ≤ no) (hf0 : 0 ≤ f) (hf1 : f ≤ 18446744073709551615) :
    Calls Tryd.prog 125 #[.slice (some ⟨g, off, none⟩) no co, .slice ax nx cx, .int .u64 f] w fun e w' => RetAP g off no nx lo (vb B64 lx * f) w e w' := by
  have HNO := Lib.hid hno
  have HNX := Lib.hid hnx
  clear hno hnx
  have hxc : nx ≤ co := by omega
  go_enter Tryd.func125, Tryd.ntmps125
  go_wp2
  go_loopw [7, 19] (fun cc ii wr => ∃ (k : Nat) (c : Int) (l : List Int), k ≤ nx ∧ ii = .int .i64 k ∧ cc = .int .u64 c ∧ 0 ≤ c ∧ c ≤ 18446744073709551615 ∧ Hid (l.length = no) ∧ Lim B64 l ∧ Arr wr g off l ∧ Only g off (off + nx) w wr ∧ Hid (l.drop k = lo.drop k) ∧ Hid (vb B64 (l.take k) + B64 ^ k * c = vb B64 (lo.take k) + vb B64 (lx.take k) * f))
    (fun _ ii _ => nx - (intOf ii).toNat)
  case atStart => exact ⟨0, 0, lo, Nat.zero_le _, rfl, rfl, Int.le_refl _, by decide, HNO.out.symm, hll, ha, Only.refl _ _ _ _, rfl, by show _ = _; simp⟩
  case round =>
    obtain ⟨k, c, l, hk, rfl, rfl, hc0, hc1, HL, hlim, harr, honly, HD, HV⟩ := hrel
    by_cases hlt : k < nx
    · have hlx0 : lx ≠ [] := by intro e; have := HNX.out; rw [e] at this; simp at this; omega
      obtain ⟨b', off', rfl, hat⟩ := hx.cases hlx0
      have hne' := hne hlx0 b' off' rfl
      obtain ⟨x, hxe⟩ : ∃ x, x = lx.getD k 0 := ⟨_, rfl⟩
      obtain ⟨y, hye⟩ : ∃ y, y = lo.getD k 0 := ⟨_, rfl⟩
      have hkx : k < lx.length := by rw [← HNX.out]; exact hlt
      have hkl : k < lo.length := by rw [← HNO.out]; omega
      have hym : l.getD k 0 = y := by
        have := congrArg (fun z => List.getD z 0 0) HD.out
        simp only [getD_drop, Nat.add_zero] at this
        rw [hye, this]
      have hcx : wr.cell? ⟨b', off' + k, none⟩ = some (.int .u64 x) := by rw [hxe]; exact honly.at' hat hne' k hkx
      have hcy : wr.cell? ⟨g, off + k, none⟩ = some (.int .u64 y) := by rw [← hym]; exact harr.at' k (by rw [HL.out]; omega)
      have hfr := harr.frozen (off + k)
      have bx : 0 ≤ x ∧ x < B64 := by rw [hxe]; exact hlx.getD B64_pos k
      have bY : 0 ≤ y ∧ y < B64 := by rw [hye]; exact hll.getD B64_pos k
      have bx0 : 0 ≤ x := bx.1
      have bx1 : x ≤ 18446744073709551615 := by have := bx.2; unfold B64 at this; omega
      have by1 : y ≤ 18446744073709551615 := by have := bY.2; unfold B64 at this; omega
      have by0 : 0 ≤ y := bY.1
      have HMU := Lib.hid (mul64_any x f wr bx0 bx1 hf0 hf1)
      obtain ⟨p, hp⟩ : ∃ p, p = x * f := ⟨_, rfl⟩
      have hp01 := word_prod bx0 bx1 hf0 hf1
      rw [← hp] at HMU hp01
      obtain ⟨hp0, hp1⟩ := hp01
      obtain ⟨hi, hhi⟩ : ∃ hi, hi = p / 18446744073709551616 := ⟨_, rfl⟩
      obtain ⟨lw, hlw⟩ : ∃ lw, lw = p % 18446744073709551616 := ⟨_, rfl⟩
      rw [← hhi, ← hlw] at HMU
      have hlw0 : 0 ≤ lw ∧ lw < B64 := by unfold B64; omega
      have hcB : 0 ≤ c ∧ c < B64 := by unfold B64; omega
      have hadd1 := add64_run lw c 0 hlw0 hcB ⟨Int.le_refl 0, by decide⟩
      have cb1 := hi64_carry hlw0 hcB ⟨Int.le_refl 0, by decide⟩
      have lh1 := lohi (lw + c)
      have ll1 := lo64_lim (lw + c)
      rw [Int.add_zero] at hadd1 cb1
      obtain ⟨c1, hc1e⟩ : ∃ c1, c1 = hi64 (lw + c) := ⟨_, rfl⟩
      obtain ⟨m1, hm1⟩ : ∃ m1, m1 = lo64 (lw + c) := ⟨_, rfl⟩
      rw [← hc1e] at hadd1 cb1 lh1
      rw [← hm1] at hadd1 lh1 ll1
      have hadd2 := add64_run y m1 0 bY ll1 ⟨Int.le_refl 0, by decide⟩
      have cb2 := hi64_carry bY ll1 ⟨Int.le_refl 0, by decide⟩
      have lh2 := lohi (y + m1)
      have ll2 := lo64_lim (y + m1)
      rw [Int.add_zero] at hadd2 cb2
      obtain ⟨c2, hc2e⟩ : ∃ c2, c2 = hi64 (y + m1) := ⟨_, rfl⟩
      obtain ⟨s, hse⟩ : ∃ s, s = lo64 (y + m1) := ⟨_, rfl⟩
      rw [← hc2e] at hadd2 cb2 lh2
      rw [← hse] at hadd2 lh2 ll2
      have htot : s + B64 * (hi + c1 + c2) = y + x * f + c := by
        rw [← hp, Int.mul_add, Int.mul_add]
        unfold B64 at *
        omega
      have hd1 : hi + c1 + c2 ≤ 18446744073709551615 := by
        rw [← hp, Int.mul_add, Int.mul_add] at htot
        unfold B64 at *
        omega
      have hst := ap_step (l := l) (lo := lo) (lx := lx) (k := k) (c := c) (x := x) (y := y) (f := f) (s := s) (d := hi + c1 + c2) (by rw [HL.out]; omega) hkl hkx hxe hye htot HV.out
      have hhi0 : 0 ≤ hi := by omega
      obtain ⟨hc10, hc11⟩ := cb1
      obtain ⟨hc20, hc21⟩ := cb2
      have HST := Lib.hid hst
      have HLL2 := Lib.hid ll2
      clear hst htot hse hc2e hm1 hc1e hlw hhi hp hp0 hp1 lh1 lh2 ll1 ll2 hlw0 hcB bY bx hxe hye hym hkx hkl hne' hat
      go_wp2_with (go_at_call 128; refine HMU.out.mono ?_; rintro e w' ⟨rfl, rfl⟩)
      go_roundw
      case rel =>
        refine ⟨k + 1, hi + c1 + c2, l.set k s, by omega, by go_num, rfl, by omega, hd1, ?_, hlim.set k HLL2.out.1 HLL2.out.2, harr.store k s, honly.trans (Only.store _ _ (by omega) (by omega)), ?_, HST.out⟩
        · show _ = _
          rw [List.length_set]; exact HL.out
        · show _ = _
          have e := congrArg (List.drop 1) HD.out
          rw [List.drop_drop, List.drop_drop] at e
          rw [List.drop_set_of_lt (by omega)]
          exact e
      case measure => simp [intOf]; omega
    · have hkn : k = nx := by omega
      have hv : vb B64 (l.take nx) + B64 ^ nx * c = vb B64 (lo.take nx) + vb B64 lx * f := by
        have h8 := HV.out
        rwa [hkn, List.take_of_length_le (l := lx) (by rw [← HNX.out]; exact Nat.le_refl _)] at h8
      have hd : l.drop nx = lo.drop nx := by rw [← hkn]; exact HD.out
      have HV2 := Lib.hid hv
      have HD2 := Lib.hid hd
      clear hv hd HV HD hkn
      go_wp2
      go_ret
      exact ⟨c, l, rfl, hc0, by unfold B64; omega, HL.out, hlim, harr, HD2.out, HV2.out, honly⟩


theorem sp_step {l lo lx : List Int} {k : Nat} {c x y f s d : Int} (hk : k < l.length) (hkl : k < lo.length) (hkx : k < lx.length) (hx : x = lx.getD k 0) (hy : y = lo.getD k 0) (hs : s - B64 * d = y - x * f - c)
    (h : vb B64 (l.take k) - B64 ^ k * c = vb B64 (lo.take k) - vb B64 (lx.take k) * f) :
    vb B64 ((l.set k s).take (k + 1)) - B64 ^ (k + 1) * d = vb B64 (lo.take (k + 1)) - vb B64 (lx.take (k + 1)) * f := by
  rw [vb_take_succ B64 hkl, vb_take_succ B64 hkx, vb_take_succ B64 (by rw [List.length_set]; exact hk), getD_set_same hk, List.take_set_of_le (Nat.le_refl _), ← hx, ← hy, Int.pow_succ, Int.mul_assoc, Int.add_mul, Int.mul_assoc]
  have e : B64 ^ k * s - B64 ^ k * (B64 * d) = B64 ^ k * y - B64 ^ k * (x * f) - B64 ^ k * c := by rw [← Int.mul_sub, hs, Int.mul_sub, Int.mul_sub]
  omega

/-- What nat.subProduct leaves. -/
def RetSP (g off no nx : Nat) (lo : List Int) (N : Int) (w : World) (e : Ending) (w' : World) : Prop :=
  ∃ c l, e = .returned (.int .u64 c) ∧ 0 ≤ c ∧ c < B64 ∧ l.length = no ∧ Lim B64 l ∧ Arr w' g off l ∧ l.drop nx = lo.drop nx ∧ vb B64 (l.take nx) - B64 ^ nx * c = vb B64 (lo.take nx) - N ∧ Only g off (off + nx) w w'

set_option maxRecDepth 100000 in
set_option maxHeartbeats 4000000 in
theorem subProduct_any (g off no co : Nat) (lo : List Int) (ax : Option Addr) (nx cx : Nat) (lx : List Int) (f : Int) (w : World) (hno : no = lo.length) (hnx : nx = lx.length) (ho1 : no ≤ co) (_ho2 : co ≤ 9223372036854775807) (_hx1 : nx ≤ cx) (_hx2 : cx ≤ 9223372036854775807)
    (ha : Arr w g off lo) (hx : Rd w ax lx) (hne : lx ≠ [] → ∀ b' off', ax = some ⟨b', off', none⟩ → b' ≠ g) (hll : Lim B64 lo) (hlx : Lim B64 lx) (hle : nx ≤ no) (hf0 : 0 ≤ f) (hf1 : f ≤ 18446744073709551615) :
    Calls Tryd.prog 124 #[.slice (some ⟨g, off, none⟩) no co, .slice ax nx cx, .int .u64 f] w fun e w' => RetSP g off no nx lo (vb B64 lx * f) w e w' := by
  have HNO := Lib.hid hno
  have HNX := Lib.hid hnx
  clear hno hnx
  have hxc : nx ≤ co := by omega
  go_enter Tryd.func124, Tryd.ntmps124
  go_wp2
  go_loopw [7, 19] (fun cc ii wr => ∃ (k : Nat) (c : Int) (l : List Int), k ≤ nx ∧ ii = .int .i64 k ∧ cc = .int .u64 c ∧ 0 ≤ c ∧ c ≤ 18446744073709551615 ∧ Hid (l.length = no) ∧ Lim B64 l ∧ Arr wr g off l ∧ Only g off (off + nx) w wr ∧ Hid (l.drop k = lo.drop k) ∧ Hid (vb B64 (l.take k) - B64 ^ k * c = vb B64 (lo.take k) - vb B64 (lx.take k) * f))
    (fun _ ii _ => nx - (intOf ii).toNat)
  case atStart => exact ⟨0, 0, lo, Nat.zero_le _, rfl, rfl, Int.le_refl _, by decide, HNO.out.symm, hll, ha, Only.refl _ _ _ _, rfl, by show _ = _; simp⟩
  case round =>
    obtain ⟨k, c, l, hk, rfl, rfl, hc0, hc1, HL, hlim, harr, honly, HD, HV⟩ := hrel
    by_cases hlt : k < nx
    · have hlx0 : lx ≠ [] := by intro e; have := HNX.out; rw [e] at this; simp at this; omega
      obtain ⟨b', off', rfl, hat⟩ := hx.cases hlx0
      have hne' := hne hlx0 b' off' rfl
      obtain ⟨x, hxe⟩ : ∃ x, x = lx.getD k 0 := ⟨_, rfl⟩
      obtain ⟨y, hye⟩ : ∃ y, y = lo.getD k 0 := ⟨_, rfl⟩
      have hkx : k < lx.length := by rw [← HNX.out]; exact hlt
      have hkl : k < lo.length := by rw [← HNO.out]; omega
      have hym : l.getD k 0 = y := by
        have := congrArg (fun z => List.getD z 0 0) HD.out
        simp only [getD_drop, Nat.add_zero] at this
        rw [hye, this]
      have hcx : wr.cell? ⟨b', off' + k, none⟩ = some (.int .u64 x) := by rw [hxe]; exact honly.at' hat hne' k hkx
      have hcy : wr.cell? ⟨g, off + k, none⟩ = some (.int .u64 y) := by rw [← hym]; exact harr.at' k (by rw [HL.out]; omega)
      have hfr := harr.frozen (off + k)
      have bx : 0 ≤ x ∧ x < B64 := by rw [hxe]; exact hlx.getD B64_pos k
      have bY : 0 ≤ y ∧ y < B64 := by rw [hye]; exact hll.getD B64_pos k
      have bx0 : 0 ≤ x := bx.1
      have bx1 : x ≤ 18446744073709551615 := by have := bx.2; unfold B64 at this; omega
      have by1 : y ≤ 18446744073709551615 := by have := bY.2; unfold B64 at this; omega
      have by0 : 0 ≤ y := bY.1
      have HMU := Lib.hid (mul64_any x f wr bx0 bx1 hf0 hf1)
      obtain ⟨p, hp⟩ : ∃ p, p = x * f := ⟨_, rfl⟩
      have hp01 := word_prod bx0 bx1 hf0 hf1
      rw [← hp] at HMU hp01
      obtain ⟨hp0, hp1⟩ := hp01
      obtain ⟨hi, hhi⟩ : ∃ hi, hi = p / 18446744073709551616 := ⟨_, rfl⟩
      obtain ⟨lw, hlw⟩ : ∃ lw, lw = p % 18446744073709551616 := ⟨_, rfl⟩
      rw [← hhi, ← hlw] at HMU
      have hlw0 : 0 ≤ lw ∧ lw < B64 := by unfold B64; omega
      have hcB : 0 ≤ c ∧ c < B64 := by unfold B64; omega
      have hadd1 := add64_run lw c 0 hlw0 hcB ⟨Int.le_refl 0, by decide⟩
      have cb1 := hi64_carry hlw0 hcB ⟨Int.le_refl 0, by decide⟩
      have lh1 := lohi (lw + c)
      have ll1 := lo64_lim (lw + c)
      rw [Int.add_zero] at hadd1 cb1
      obtain ⟨c1, hc1e⟩ : ∃ c1, c1 = hi64 (lw + c) := ⟨_, rfl⟩
      obtain ⟨m1, hm1⟩ : ∃ m1, m1 = lo64 (lw + c) := ⟨_, rfl⟩
      rw [← hc1e] at hadd1 cb1 lh1
      rw [← hm1] at hadd1 lh1 ll1
      have hadd2 := sub64_run y m1 0 bY ll1 ⟨Int.le_refl 0, by decide⟩
      have cb2 := bo64_carry bY ll1 ⟨Int.le_refl 0, by decide⟩
      have lh2 := lobo (y - m1)
      have ll2 := lo64_lim (y - m1)
      rw [Int.sub_zero] at hadd2 cb2
      obtain ⟨c2, hc2e⟩ : ∃ c2, c2 = bo64 (y - m1) := ⟨_, rfl⟩
      obtain ⟨s, hse⟩ : ∃ s, s = lo64 (y - m1) := ⟨_, rfl⟩
      rw [← hc2e] at hadd2 cb2 lh2
      rw [← hse] at hadd2 lh2 ll2
      have htot : s - B64 * (hi + c1 + c2) = y - x * f - c := by
        rw [← hp, Int.mul_add, Int.mul_add]
        unfold B64 at *
        omega
      have hd1 : hi + c1 + c2 ≤ 18446744073709551615 := by
        rw [← hp, Int.mul_add, Int.mul_add] at htot
        unfold B64 at *
        omega
      have hst := sp_step (l := l) (lo := lo) (lx := lx) (k := k) (c := c) (x := x) (y := y) (f := f) (s := s) (d := hi + c1 + c2) (by rw [HL.out]; omega) hkl hkx hxe hye htot HV.out
      have hhi0 : 0 ≤ hi := by omega
      obtain ⟨hc10, hc11⟩ := cb1
      obtain ⟨hc20, hc21⟩ := cb2
      have HST := Lib.hid hst
      have HLL2 := Lib.hid ll2
      clear hst htot hse hc2e hm1 hc1e hlw hhi hp hp0 hp1 lh1 lh2 ll1 ll2 hlw0 hcB bY bx hxe hye hym hkx hkl hne' hat
      go_wp2_with (go_at_call 128; refine HMU.out.mono ?_; rintro e w' ⟨rfl, rfl⟩)
      go_roundw
      case rel =>
        refine ⟨k + 1, hi + c1 + c2, l.set k s, by omega, by go_num, rfl, by omega, hd1, ?_, hlim.set k HLL2.out.1 HLL2.out.2, harr.store k s, honly.trans (Only.store _ _ (by omega) (by omega)), ?_, HST.out⟩
        · show _ = _
          rw [List.length_set]; exact HL.out
        · show _ = _
          have e := congrArg (List.drop 1) HD.out
          rw [List.drop_drop, List.drop_drop] at e
          rw [List.drop_set_of_lt (by omega)]
          exact e
      case measure => simp [intOf]; omega
    · have hkn : k = nx := by omega
      have hv : vb B64 (l.take nx) - B64 ^ nx * c = vb B64 (lo.take nx) - vb B64 lx * f := by
        have h8 := HV.out
        rwa [hkn, List.take_of_length_le (l := lx) (by rw [← HNX.out]; exact Nat.le_refl _)] at h8
      have hd : l.drop nx = lo.drop nx := by rw [← hkn]; exact HD.out
      have HV2 := Lib.hid hv
      have HD2 := Lib.hid hd
      clear hv hd HV HD hkn
      go_wp2
      go_ret
      exact ⟨c, l, rfl, hc0, by unfold B64; omega, HL.out, hlim, harr, HD2.out, HV2.out, honly⟩

end Go.Proofs.YtfanhllcoaondaaDoor

namespace Go.Proofs.YtfanhllcoaondaaDoor
open Go.RowKit


theorem Arr.append {w : World} {b off : Nat} {l m : List Int} (h : Arr w b off l) (k : Arr w b (off + l.length) m) : Arr w b off (l ++ m) := by
  obtain ⟨cur, e, hh, hl⟩ := h
  obtain ⟨cur2, e2, hh2, hm⟩ := k
  rw [hh] at hh2
  simp only [Option.some.injEq, Obj.cells.injEq, and_true] at hh2
  obtain ⟨rfl, rfl⟩ := hh2
  refine ⟨cur, e, hh, fun j hj => ?_⟩
  rw [List.length_append] at hj
  by_cases hjl : j < l.length
  · rw [hl j hjl, List.getD_eq_getElem?_getD, List.getD_eq_getElem?_getD, List.getElem?_append_left hjl]
  · have h2 := hm (j - l.length) (by omega)
    rw [show off + l.length + (j - l.length) = off + j by omega] at h2
    rw [h2, List.getD_eq_getElem?_getD, List.getD_eq_getElem?_getD, List.getElem?_append_right (by omega)]

theorem clear_cells : ∀ (n off : Nat) (w : World) (g : Nat) (lo : List Int), lo.length = n → Arr w g off lo →
    Arr (w.setCells g off (List.replicate n (.int .u64 0))) g off (List.replicate n 0) ∧ Only g off (off + n) w (w.setCells g off (List.replicate n (.int .u64 0)))
  | 0, off, w, g, lo, hl, ha => by
    obtain rfl : lo = [] := List.eq_nil_of_length_eq_zero hl
    exact ⟨ha, Only.refl _ _ _ _⟩
  | n + 1, off, w, g, lo, hl, ha => by
    have h1 := ha.store 0 0
    have h2 : Arr (w.setCell ⟨g, off, none⟩ (.int .u64 0)) g (off + 1) ((lo.set 0 0).drop 1) := h1.drop 1
    have h3 := h1.take 1
    rw [Nat.add_zero] at h3
    have ho : Only g off (off + 1) w (w.setCell ⟨g, off, none⟩ (.int .u64 0)) := Only.store off _ (Nat.le_refl _) (by omega)
    obtain ⟨h4, h5⟩ := clear_cells n (off + 1) (w.setCell ⟨g, off, none⟩ (.int .u64 0)) g ((lo.set 0 0).drop 1) (by rw [List.length_drop, List.length_set]; omega) h2
    have e0 : (lo.set 0 0).take 1 = [0] := by
      cases lo with
      | nil => simp at hl
      | cons x l => rfl
    rw [e0] at h3
    have h6 := h5.arr h3 (Or.inl (by simp))
    have h7 := h6.append (by simpa using h4)
    refine ⟨?_, ?_⟩
    · exact h7
    · have h8 := (ho.mono (lo' := off) (hi' := off + (n + 1)) (Nat.le_refl _) (by omega)).trans (h5.mono (lo' := off) (hi' := off + (n + 1)) (by omega) (by omega))
      exact h8

/-- clear(s), s a row of words. -/
theorem run_clear_words (w : World) (t ty : TypeId) (hu : Tryd.prog.underlying t = some (.slice 56)) (g off n c : Nat) (lo : List Int) (hlo : lo.length = n) (ha : Arr w g off lo) :
    ∃ w', (Builtin.clear_ #[t] ty #[.slice (some ⟨g, off, none⟩) n c]).run Tryd.prog w = .ok (.tuple #[]) w' ∧ Arr w' g off (List.replicate n 0) ∧ Only g off (off + n) w w' := by
  obtain ⟨h1, h2⟩ := clear_cells n off w g lo hlo ha
  have hz : ∀ w, (zeroValue 56).run Tryd.prog w = .ok (.int .u64 0) w := fun w => Tryd.zeroValue56 w
  refine ⟨_, ?_, h1, h2⟩
  by_cases hn : 0 < n
  · exact Lib.run_clear_slice w t 56 ty (.int .u64 0) hu hz rfl rfl g off n c hn (fun j hj => by rw [ha.at' j (by omega)]; rfl) (fun j _ => ha.frozen _)
  · obtain rfl : n = 0 := by omega
    simp [Builtin.clear_, run_underlying hu, World.setCells]

theorem rows_drop {l l' : List Int} {i na : Nat} (hi : i ≤ l.length) (hd : l'.drop na = (l.drop i).drop na) : (l.take i ++ l').drop (i + na) = l.drop (i + na) := by
  have hlt : (l.take i).length = i := by rw [List.length_take]; omega
  rw [← List.drop_drop, List.drop_append_of_le_length (by omega), List.drop_of_length_le (l := l.take i) (by omega), List.nil_append, hd, List.drop_drop]
theorem rows_get {l l' : List Int} {i na j : Nat} (hi : i ≤ l.length) (hd : l'.drop na = (l.drop i).drop na) (hj : i + na ≤ j) : (l.take i ++ l').getD j 0 = l.getD j 0 := by
  have h := rows_drop hi hd
  have e1 := getD_drop (l.take i ++ l') (i + na) (j - (i + na))
  have e2 := getD_drop l (i + na) (j - (i + na))
  rw [show i + na + (j - (i + na)) = j by omega] at e1 e2
  rw [← e1, ← e2, h]
theorem rows_step {l l' : List Int} {i na : Nat} {c V : Int} (hp : i + na < l.length) (hl' : l'.length = l.length - i) (hd : l'.drop na = (l.drop i).drop na)
    (hv : vb B64 (l'.take na) + B64 ^ na * c = vb B64 ((l.drop i).take na) + V) (h0 : l.getD (i + na) 0 = 0) :
    vb B64 ((l.take i ++ l').set (i + na) c) = vb B64 l + B64 ^ i * V := by
  have hlt : (l.take i).length = i := by rw [List.length_take]; omega
  rw [vb_set _ _ _ _ (by rw [List.length_append, hlt]; omega), rows_get (by omega) hd (Nat.le_refl _), h0, Int.sub_zero, vb_append, hlt]
  have e1 := vb_split B64 l' na (by omega)
  have e2 := vb_split B64 l i (by omega)
  have e3 := vb_split B64 (l.drop i) na (by rw [List.length_drop]; omega)
  rw [hd] at e1
  rw [e3] at e2
  rw [e2, e1, Int.pow_add]
  have e4 : B64 ^ i * (vb B64 (l'.take na) + B64 ^ na * c) = B64 ^ i * (vb B64 ((l.drop i).take na) + V) := by rw [hv]
  rw [Int.mul_add, Int.mul_add] at e4
  rw [Int.mul_add, Int.mul_add, Int.mul_assoc]
  omega

set_option maxRecDepth 100000 in
set_option maxHeartbeats 4000000 in
theorem multiplyRows_any (g off no co : Nat) (lo : List Int) (aa : Option Addr) (na ca : Nat) (la : List Int) (ab : Option Addr) (nb' cb : Nat) (lb : List Int) (w : World) (hno : no = lo.length) (hna : na = la.length) (hnb : nb' = lb.length)
    (ho1 : no ≤ co) (ho2 : co ≤ 9223372036854775807) (hc1 : na ≤ ca) (hc2 : ca ≤ 9223372036854775807) (hd1 : nb' ≤ cb) (hd2 : cb ≤ 9223372036854775807)
    (ho : Arr w g off lo) (ha : Rd w aa la) (hb : Rd w ab lb) (hna' : la ≠ [] → ∀ b' off', aa = some ⟨b', off', none⟩ → b' ≠ g) (hnb'' : lb ≠ [] → ∀ b' off', ab = some ⟨b', off', none⟩ → b' ≠ g)
    (hla : Lim B64 la) (hlb : Lim B64 lb) (hsum : no = na + nb') :
    Calls Tryd.prog 117 #[.slice (some ⟨g, off, none⟩) no co, .slice aa na ca, .slice ab nb' cb] w fun e w' => e = .returned (.tuple #[]) ∧ InPl g off no (vb B64 la * vb B64 lb) w w' := by
  have HNO := Lib.hid hno
  have HNA := Lib.hid hna
  have HNB := Lib.hid hnb
  have HSUM := Lib.hid hsum
  have hnn : nb' ≤ no := by omega
  clear hno hna hnb hsum
  obtain ⟨w1, hclear, ho1', hon1⟩ := run_clear_words w 26 0 Tryd.underlying26 g off no co lo HNO.out.symm ho
  go_enter Tryd.func117, Tryd.ntmps117
  go_wp2
  go_loopw [11] (fun ii wr => ∃ (i : Nat) (l : List Int), i ≤ nb' ∧ ii = .int .i64 i ∧ Hid (l.length = no) ∧ Lim B64 l ∧ Arr wr g off l ∧ Only g off (off + no) w wr ∧ Hid (∀ j, i + na ≤ j → l.getD j 0 = 0) ∧ Hid (vb B64 l = vb B64 la * vb B64 (lb.take i)))
    (fun ii _ => nb' - (intOf ii).toNat)
  case atStart => exact ⟨0, List.replicate no 0, Nat.zero_le _, rfl, by show _ = _; simp, Lim.replicate B64_pos no, ho1', hon1, fun j _ => by rw [List.getD_eq_getElem?_getD, List.getElem?_replicate]; split <;> rfl, by show _ = _; rw [vb_replicate]; simp⟩
  case round =>
    obtain ⟨i, l, hi, rfl, HL, hlim, harr, honly, HZ, HV⟩ := hrel
    by_cases hlt : i < nb'
    · obtain ⟨b2, o2, rfl, hat2⟩ := hb.cases (by intro e; have := HNB.out; rw [e] at this; simp at this; omega)
      have hne2 := hnb'' (by intro e; have := HNB.out; rw [e] at this; simp at this; omega) b2 o2 rfl
      obtain ⟨x, hxe⟩ : ∃ x, x = lb.getD i 0 := ⟨_, rfl⟩
      have hil : i < lb.length := by rw [← HNB.out]; exact hlt
      have bx : 0 ≤ x ∧ x < B64 := by rw [hxe]; exact hlb.getD B64_pos i
      have bx0 : 0 ≤ x := bx.1
      have bx1 : x ≤ 18446744073709551615 := by have := bx.2; unfold B64 at this; omega
      have hcx : wr.cell? ⟨b2, o2 + i, none⟩ = some (.int .u64 x) := by rw [hxe]; exact honly.at' hat2 hne2 i hil
      have hsm := HSUM.out
      obtain ⟨p, hp⟩ : ∃ p, i + na = p := ⟨_, rfl⟩
      have hpI : (i : Int) + (na : Int) = (p : Int) := by omega
      have hpn : p < no := by omega
      have hra : Rd wr aa la := by
        rcases ha with rfl | ⟨b1, o1, rfl, hat1⟩
        · exact Rd.nil _ _
        · by_cases hl0 : la = []
          · subst hl0; exact Rd.nil _ _
          · exact Or.inr ⟨b1, o1, rfl, honly.at' hat1 (hna' hl0 b1 o1 rfl)⟩
      have hdl : no - i = (l.drop i).length := by rw [List.length_drop, HL.out]
      have hio : i ≤ no := by omega
      have HAP := Lib.hid (addProduct_any g (off + i) (no - i) (co - i) (l.drop i) aa na ca la x wr hdl HNA.out (by omega) (by omega) hc1 hc2 (harr.drop i) hra hna' (hlim.drop i) hla (by omega) bx0 bx1)
      have HSP := Lib.hid hp
      have hv2 : vb B64 la * vb B64 (lb.take (i + 1)) = vb B64 la * vb B64 (lb.take i) + B64 ^ i * (vb B64 la * x) := by
        rw [vb_take_succ B64 hil, ← hxe, Int.mul_add, Int.mul_left_comm]
      have HV2 := Lib.hid hv2
      clear hv2 hxe bx hat2 hdl hra hp hsm hil
      go_wp2_with (go_at_call 125; refine HAP.out.mono ?_; rintro e w2 ⟨c, l', rfl, hcc0, hcc1, hll', hlim', harr', hdr', hvv', hon'⟩; have htk := hon'.arr (harr.take i) (Or.inl (by rw [List.length_take]; omega)); have hapd := htk.append (show Arr w2 g (off + (l.take i).length) l' from by rw [List.length_take, HL.out, Nat.min_eq_left hio]; exact harr'); have hpc := hapd.at' p (by rw [List.length_append, List.length_take, HL.out, hll']; omega); have hpf := hapd.frozen (off + p); have HDR := Lib.hid hdr'; have HVV := Lib.hid hvv'; have HLL := Lib.hid hll'; clear hdr' hvv' hll')
      go_roundw
      case rel =>
        have hp := HSP.out
        have hsm := HSUM.out
        have hlen : (l.take i ++ l').length = no := by rw [List.length_append, List.length_take, HL.out, HLL.out]; omega
        have hlim2 : Lim B64 ((l.take i ++ l').set p c) := ((hlim.take i).app hlim').set p hcc0 hcc1
        have hst := rows_step (l := l) (l' := l') (i := i) (na := na) (c := c) (V := vb B64 la * x) (by rw [HL.out]; omega) (by rw [HLL.out, HL.out]) HDR.out HVV.out (HZ.out _ (Nat.le_refl _))
        rw [hp] at hst
        refine ⟨i + 1, (l.take i ++ l').set p c, by omega, by go_num, ?_, hlim2, hapd.store p c, (honly.trans (hon'.mono (by omega) (by omega))).trans (Only.store _ _ (by omega) (by omega)), ?_, ?_⟩
        · show _ = _
          rw [List.length_set]; exact hlen
        · intro j hj
          rw [getD_set_other _ (by omega), rows_get (by rw [HL.out]; omega) HDR.out (by omega)]
          exact HZ.out j (by omega)
        · show _ = _
          rw [hst, HV.out, HV2.out]
      case measure => simp [intOf]; omega
    · have hin : i = nb' := by omega
      have hv : vb B64 l = vb B64 la * vb B64 lb := by
        have h8 := HV.out
        rwa [hin, List.take_of_length_le (l := lb) (by rw [← HNB.out]; exact Nat.le_refl _)] at h8
      have HVF := Lib.hid hv
      clear hv hin HV
      go_wp2
      go_end0
      exact ⟨rfl, l, HL.out, hlim, harr, HVF.out, honly⟩


/-- nat.multiply does what it says on numbers of fewer than S words together. -/
def MulAt (S : Nat) : Prop := ∀ (g off no co : Nat) (lo : List Int) (aa : Option Addr) (na ca : Nat) (la : List Int) (ab : Option Addr) (nb' cb : Nat) (lb : List Int) (cut : Int) (w : World),
  na + nb' < S → no = lo.length → na = la.length → nb' = lb.length → no ≤ co → co ≤ 9223372036854775807 → na ≤ ca → ca ≤ 9223372036854775807 → nb' ≤ cb → cb ≤ 9223372036854775807 →
  Arr w g off lo → Rd w aa la → Rd w ab lb → (la ≠ [] → ∀ b' off', aa = some ⟨b', off', none⟩ → b' ≠ g) → (lb ≠ [] → ∀ b' off', ab = some ⟨b', off', none⟩ → b' ≠ g) →
  Lim B64 la → Lim B64 lb → no = na + nb' → no ≤ 17592186040000 → 2 ≤ cut → cut ≤ 9223372036854775807 →
  Calls Tryd.prog 108 #[.slice (some ⟨g, off, none⟩) no co, .slice aa na ca, .slice ab nb' cb, .int .i64 cut] w fun e w' => e = .returned (.tuple #[]) ∧ InPl g off no (vb B64 la * vb B64 lb) w w'

/-- A row of which the words from the t-th on have been written. -/
theorem splice {g off t n : Nat} {l : List Int} {N : Int} {w w' : World} (ha : Arr w g off l) (hl : Lim B64 l) (hn : l.length = n) (ht : t ≤ n) (h : InPl g (off + t) (n - t) N w w') :
    ∃ l2, l2.length = n ∧ Lim B64 l2 ∧ Arr w' g off l2 ∧ vb B64 l2 = vb B64 (l.take t) + B64 ^ t * N ∧ Only g off (off + n) w w' := by
  obtain ⟨l', hl', hlim', harr', hv', hon'⟩ := h
  have hlt : (l.take t).length = t := by rw [List.length_take]; omega
  have h1 := hon'.arr (ha.take t) (Or.inl (by rw [hlt]; exact Nat.le_refl _))
  refine ⟨l.take t ++ l', by rw [List.length_append, hlt]; omega, (hl.take t).app hlim', h1.append (by rw [hlt]; exact harr'), by rw [vb_append, hlt, hv'], hon'.mono (by omega) (by omega)⟩

/-- What a sum into the words from the t-th on may be. -/
theorem fit_tail {l : List Int} {t n : Nat} {P : Int} (hl : Lim B64 l) (hn : l.length = n) (ht : t ≤ n) (h : vb B64 l + B64 ^ t * P < B64 ^ n) : vb B64 (l.drop t) + P < B64 ^ (n - t) := by
  have h1 := vb_split B64 l t (by omega)
  have h2 := vb_nonneg B64_pos (hl.take t)
  have h3 : B64 ^ n = B64 ^ t * B64 ^ (n - t) := by rw [← Int.pow_add, show t + (n - t) = n by omega]
  have hp := pow_pos' B64_pos t
  have h4 : B64 ^ t * (vb B64 (l.drop t) + P) < B64 ^ t * B64 ^ (n - t) := by rw [Int.mul_add, ← h3]; omega
  exact Int.lt_of_mul_lt_mul_left h4 (Int.le_of_lt hp)

theorem Arr.below {w w' : World} {b off : Nat} {l : List Int} (h : Arr w b off l) (hb : Below w.heap.size w w') : Arr w' b off l := by
  have hlt := h.lt
  obtain ⟨cur, e, hh, hl⟩ := h
  exact ⟨cur, e, (hb.block b hlt).trans hh, hl⟩

theorem prod_lt {X Y A B : Int} (h1 : X < A) (h2 : Y < B) (h3 : 0 ≤ X) (h4 : 0 ≤ Y) : X * Y < A * B := by
  have e1 := Int.mul_le_mul_of_nonneg_left (Int.le_of_lt h2) h3
  have e2 := Int.mul_lt_mul_of_pos_right h1 (show 0 < B by omega)
  omega

theorem piece_split {la : List Int} {t u : Nat} (h1 : t ≤ u) (h2 : u ≤ la.length) : vb B64 (la.take u) = vb B64 (la.take t) + B64 ^ t * vb B64 ((la.drop t).take (u - t)) := by
  have h := vb_split B64 (la.take u) t (by rw [List.length_take]; omega)
  rw [List.take_take, Nat.min_eq_left h1, List.drop_take] at h
  exact h

set_option maxRecDepth 100000 in
set_option maxHeartbeats 4000000 in
theorem multiplyPieces_any (g off no co : Nat) (lo : List Int) (aa : Option Addr) (na ca : Nat) (la : List Int) (ab : Option Addr) (nb' cb : Nat) (lb : List Int) (cut : Int) (w : World) (ih : MulAt (na + nb')) (hno : no = lo.length) (hna : na = la.length) (hnb : nb' = lb.length)
    (ho1 : no ≤ co) (ho2 : co ≤ 9223372036854775807) (hc1 : na ≤ ca) (hc2 : ca ≤ 9223372036854775807) (hd1 : nb' ≤ cb) (hd2 : cb ≤ 9223372036854775807)
    (ho : Arr w g off lo) (ha : Rd w aa la) (hb : Rd w ab lb) (hna' : la ≠ [] → ∀ b' off', aa = some ⟨b', off', none⟩ → b' ≠ g) (hnb'' : lb ≠ [] → ∀ b' off', ab = some ⟨b', off', none⟩ → b' ≠ g)
    (hla : Lim B64 la) (hlb : Lim B64 lb) (hsum : no = na + nb') (hM : no ≤ 17592186040000) (hcut : 2 ≤ cut) (hcut2 : cut ≤ 9223372036854775807) (hlt2 : nb' < na) (hnb2 : 1 ≤ nb') :
    Calls Tryd.prog 118 #[.slice (some ⟨g, off, none⟩) no co, .slice aa na ca, .slice ab nb' cb, .int .i64 cut] w fun e w' => e = .returned (.tuple #[]) ∧ InPl g off no (vb B64 la * vb B64 lb) w w' := by
  have HNO := Lib.hid hno
  have HNA := Lib.hid hna
  have HNB := Lib.hid hnb
  have HSUM := Lib.hid hsum
  have HIH := Lib.hid ih
  have hnn : nb' ≤ no := by omega
  have hnn2 : na ≤ no := by omega
  obtain ⟨b1, o1, rfl, hat1⟩ := ha.cases (by intro e; rw [e] at hna; simp at hna; omega)
  obtain ⟨b2, o2, rfl, hat2⟩ := hb.cases (by intro e; rw [e] at hnb; simp at hnb; omega)
  have hne1 := hna' (by intro e; rw [e] at hna; simp at hna; omega) b1 o1 rfl
  have hne2 := hnb'' (by intro e; rw [e] at hnb; simp at hnb; omega) b2 o2 rfl
  have hg := ho.lt
  clear hno hna hnb hsum ih ha hb hna' hnb''
  obtain ⟨w1, hclear, ho1', hon1⟩ := run_clear_words w 26 0 Tryd.underlying26 g off no co lo HNO.out.symm ho
  go_enter Tryd.func118, Tryd.ntmps118
  go_wp2
  go_loopw [8] (fun ii wr => ∃ (t : Nat) (l : List Int), t ≤ na + nb' ∧ ii = .int .i64 t ∧ Hid (l.length = no) ∧ Lim B64 l ∧ Arr wr g off l ∧ Only g off (off + no) w wr ∧ Hid (vb B64 l = vb B64 (la.take t) * vb B64 lb))
    (fun ii _ => na - (intOf ii).toNat)
  case atStart => exact ⟨0, List.replicate no 0, Nat.zero_le _, rfl, by show _ = _; simp, Lim.replicate B64_pos no, ho1', hon1, by show _ = _; rw [vb_replicate]; simp⟩
  case round =>
    obtain ⟨t, l, ht, rfl, HL, hlim, harr, honly, HV⟩ := hrel
    by_cases hlt : t < na
    · have hsm := HSUM.out
      obtain ⟨u, hu⟩ : ∃ u, min (t + nb') na = u := ⟨_, rfl⟩
      have huI : min ((t : Int) + (nb' : Int)) (na : Int) = (u : Int) := by omega
      have htu : t < u := by omega
      have hun : u ≤ na := by omega
      have hut : u ≤ t + nb' := by omega
      obtain ⟨pl, hpl⟩ : ∃ pl, u - t = pl := ⟨_, rfl⟩
      have hpl0 : 0 < pl := by omega
      have hplb : pl ≤ nb' := by omega
      obtain ⟨N2, hN2⟩ : ∃ N2, pl + nb' = N2 := ⟨_, rfl⟩
      have hN2I : (pl : Int) + (nb' : Int) = (N2 : Int) := by omega
      have hN2M : N2 ≤ MaxW := by unfold MaxW; omega
      have hN2n : N2 ≤ no - t := by omega
      have htu2 : (t : Int) ≤ (u : Int) := by omega
      obtain ⟨pc, hpc⟩ : ∃ pc, pc = (la.drop t).take pl := ⟨_, rfl⟩
      have hpcl : pl = pc.length := by rw [hpc, List.length_take, List.length_drop, ← HNA.out]; omega
      have hpclim : Lim B64 pc := by rw [hpc]; exact (hla.drop t).take pl
      have hsplit : vb B64 (la.take u) = vb B64 (la.take t) + B64 ^ t * vb B64 pc := by rw [hpc, ← hpl]; exact piece_split (by omega) (by rw [← HNA.out]; exact hun)
      have hatp : At wr b1 (o1 + t) pc := by rw [hpc]; exact ((honly.at' hat1 hne1).drop t).take pl
      have hatb : At wr b2 o2 lb := honly.at' hat2 hne2
      have hpc0 : pc ≠ [] := by intro e; rw [e] at hpcl; simp at hpcl; omega
      have hlb0 : lb ≠ [] := by intro e; have := HNB.out; rw [e] at this; simp at this; omega
      have hb1lt := hatp.lt hpc0
      have hb2lt := hatb.lt hlb0
      have hglt := harr.lt
      have hfitv : vb B64 l + B64 ^ t * (vb B64 pc * vb B64 lb) = vb B64 (la.take u) * vb B64 lb := by
        rw [HV.out, hsplit, Int.add_mul, Int.mul_assoc]
      have hfit2 : vb B64 (la.take u) * vb B64 lb < B64 ^ no := by
        have e1 := vb_lt B64_pos (hla.take u)
        have e2 := vb_lt B64_pos hlb
        have e0 := vb_nonneg B64_pos (hla.take u)
        have e00 := vb_nonneg B64_pos hlb
        rw [List.length_take, ← HNA.out, Nat.min_eq_left hun] at e1
        rw [← HNB.out] at e2
        have e3 : B64 ^ (u + nb') ≤ B64 ^ no := pow_le_pow B64_pos (by omega)
        rw [Int.pow_add] at e3
        exact Int.lt_of_lt_of_le (prod_lt e1 e2 e0 e00) e3
      have HPCL := Lib.hid hpcl
      have HFV := Lib.hid hfitv
      have HF2 := Lib.hid hfit2
      have HU := Lib.hid hu
      have hs4 : N2 < na + nb' := by omega
      clear hsplit hfitv hfit2 hpc hpcl hsm hu
      go_wp2_with (at_make; refine wpList_make_words wr rfl (.tmp 34) (.tmp 34) 26 rfl Tryd.underlying26 info_u64 _ _ N2 rfl rfl (by omega) (by omega) hN2M ?_; intro w2 hw2 hb2 hs2)
      have harrp := hw2.arr.1
      have hbwr : wr.heap.size ≤ w2.heap.size := hb2.size
      refine (HIH.out wr.heap.size 0 N2 N2 (List.replicate N2 0) (some ⟨b1, o1 + t, none⟩) pl (ca - t) pc (some ⟨b2, o2, none⟩) nb' cb lb cut w2 (by omega) (by simp) HPCL.out HNB.out (Nat.le_refl _) (by omega) (by omega) (by omega) hd1 hd2 harrp (Rd.of_at (hatp.below hb2)) (Rd.of_at (hatb.below hb2)) (fun _ b' off' e => by cases e; omega) (fun _ b' off' e => by cases e; omega) hpclim hlb hN2.symm (by omega) hcut hcut2).mono ?_
      rintro e w3 ⟨rfl, lp, hlp, hlimp, harrp3, hvp, honp⟩
      have hb13 : Below wr.heap.size wr w3 := hb2.trans (honp.below (Nat.le_refl _) hbwr)
      have harr3 := harr.below hb13
      have hdl : no - t = (l.drop t).length := by rw [List.length_drop, HL.out]
      have HLP := Lib.hid hlp
      have hno_t : no - t ≤ co - t := by omega
      have hfit := fit_tail (P := vb B64 lp) hlim HL.out (show t ≤ no by omega) (by rw [hvp, HFV.out]; exact HF2.out)
      have HADD := Lib.hid (addTo_any g (off + t) (no - t) (co - t) (l.drop t) (some ⟨wr.heap.size, 0, none⟩) N2 N2 lp w3 hdl hlp.symm hno_t (by omega) (Nat.le_refl _) (by omega) (harr3.drop t) (Rd.of_at harrp3.at') (fun _ b' off' e => by cases e; omega) (hlim.drop t) hlimp hfit hN2n)
      have HVP := Lib.hid hvp
      clear hlp hdl hfit hvp
      go_wp2_with fail
      refine HADD.out.mono ?_
      rintro e w4 ⟨rfl, hin⟩
      obtain ⟨l2, hl2, hlim2, harr4, hv4, hon4⟩ := splice harr3 hlim HL.out (show t ≤ no by omega) hin
      have hval : vb B64 l2 = vb B64 (la.take (t + nb')) * vb B64 lb := by
        have e1 := vb_split B64 l t (by rw [HL.out]; omega)
        have e2 : la.take (t + nb') = la.take u := by
          have hu := HU.out
          by_cases hm : t + nb' ≤ na
          · rw [show u = t + nb' by omega]
          · rw [show u = na by omega, List.take_of_length_le (by rw [← HNA.out]; omega), List.take_of_length_le (by rw [← HNA.out]; exact Nat.le_refl _)]
        rw [hv4, Int.mul_add, ← Int.add_assoc, ← e1, HVP.out, HFV.out, e2]
      have HVAL := Lib.hid hval
      have HL2 := Lib.hid hl2
      clear hv4 hval hl2
      go_wp2_with fail
      go_roundw
      case rel => exact ⟨t + nb', l2, by omega, by go_num, HL2.out, hlim2, harr4, (honly.trans (Only.of_below hb13)).trans hon4, HVAL.out⟩
      case measure => simp [intOf]; omega
    · have hv : vb B64 l = vb B64 la * vb B64 lb := by
        have h8 := HV.out
        rwa [List.take_of_length_le (l := la) (by rw [← HNA.out]; omega)] at h8
      have HVF := Lib.hid hv
      clear hv HV
      go_wp2
      go_end0
      exact ⟨rfl, l, HL.out, hlim, harr, HVF.out, honly⟩

end Go.Proofs.YtfanhllcoaondaaDoor

namespace Go.Proofs.YtfanhllcoaondaaDoor
open Go.RowKit

/-- What nat.distance returns. -/
def RetDist (na : Nat) (A B : Int) (w : World) (e : Ending) (w' : World) : Prop :=
  ∃ l, e = .returned (.tuple #[.slice (some ⟨w.heap.size, 0, none⟩) na na, .bool (decide (A < B))]) ∧ l.length = na ∧ Lim B64 l ∧ Arr w' w.heap.size 0 l ∧ vb B64 l = (if A < B then B - A else A - B) ∧ Below w.heap.size w w' ∧ w.heap.size < w'.heap.size

theorem copied {n : Nat} {l : List Int} (hl : l.length ≤ n) (hlim : Lim B64 l) : (l.take n ++ (List.replicate n (0 : Int)).drop l.length).length = n ∧ Lim B64 (l.take n ++ (List.replicate n (0 : Int)).drop l.length) ∧ vb B64 (l.take n ++ (List.replicate n (0 : Int)).drop l.length) = vb B64 l := by
  refine ⟨by rw [List.length_append, List.length_take, List.length_drop, List.length_replicate]; omega, (hlim.take n).app ((Lim.replicate B64_pos n).drop _), ?_⟩
  rw [List.take_of_length_le hl, vb_append, List.drop_replicate, vb_replicate]
  simp

set_option maxRecDepth 100000 in
set_option maxHeartbeats 4000000 in
theorem distance_any (aa : Option Addr) (na ca : Nat) (la : List Int) (ab : Option Addr) (nb' cb : Nat) (lb : List Int) (w : World) (hna : na = la.length) (hnb : nb' = lb.length)
    (hc1 : na ≤ ca) (hc2 : ca ≤ 9223372036854775807) (hd1 : nb' ≤ cb) (hd2 : cb ≤ 9223372036854775807) (ha : Rd w aa la) (hb : Rd w ab lb) (hla : Lim B64 la) (hlb : Lim B64 lb) (hle : nb' ≤ na) (hM : na ≤ MaxW) :
    Calls Tryd.prog 126 #[.slice aa na ca, .slice ab nb' cb] w fun e w' => RetDist na (vb B64 la) (vb B64 lb) w e w' := by
  have HNA := Lib.hid hna
  have HNB := Lib.hid hnb
  have hM2 := hM
  unfold MaxW at hM2
  clear hna hnb
  have hb0 := hb
  have ha0 := ha
  by_cases hlt : vb B64 la < vb B64 lb
  · have hz := cmpI_lt hlt
    have hdec : decide (vb B64 la < vb B64 lb) = true := by simpa using hlt
    have HZ := Lib.hid hz
    clear hz
    have HDEC := Lib.hid hdec
    have HLT := Lib.hid hlt
    clear hdec hlt
    go_enter Tryd.func126, Tryd.ntmps126
    go_wp2_with (at_make; refine wpList_make_words w rfl (.tmp 8) (.tmp 8) 26 rfl Tryd.underlying26 info_u64 _ _ na rfl rfl rfl rfl hM ?_; intro w1 hw1 hb1 hs1)
    refine (cmp_any aa na ca la ab nb' cb lb w1 HNA.out HNB.out hc1 hc2 hd1 hd2 (ha.below hb1) (hb.below hb1) hla hlb).mono ?_
    rintro e w2 ⟨rfl, hb12⟩
    rw [HZ.out]
    have hbw2 : Below w.heap.size w w2 := hb1.trans (hb12.mono hb1.size)
    have harr2 := (hw1.below hb12).arr.1
    have hcpr := hb.below hbw2
    have hs2 : w.heap.size < w2.heap.size := by have := hb12.size; omega
    go_wp2_with (with_reducible refine wpList_copy_words rfl (.tmp 14) (.tmp 15) 26 26 rfl Tryd.underlying26 info_u64 w.heap.size 0 na na ab nb' cb rfl rfl (List.replicate na 0) lb List.length_replicate HNB.out.symm harr2 hcpr ?_; intro w3 ha3 ho3)
    have hcpd := copied (n := na) (l := lb) (by rw [← HNB.out]; omega) hlb
    rw [← HNB.out] at hcpd
    have hs3 : w.heap.size < w3.heap.size := by have := ho3.size; omega
    have hbw3 : Below w.heap.size w w3 := hbw2.trans (ho3.below (Nat.le_refl _) (by omega))
    have hsr := ha0.below hbw3
    have hst := tlen_le la
    rw [← HNA.out] at hst
    refine (trim_any aa na ca la w3 HNA.out hc1 hc2 hsr).mono ?_
    rintro e w' ⟨rfl, rfl⟩
    go_wp2_with fail
    refine (subFrom_any w.heap.size 0 na na _ aa (tlen la) ca (tr la) w3 hcpd.1.symm (tr_length _).symm (Nat.le_refl _) (by omega) (by omega) (by omega) ha3 (hsr.take _) ?_ hcpd.2.1 (hla.take _) ?_ ?_).mono ?_
    · intro hn b' off' e
      subst e
      have hl : la ≠ [] := by intro e; rw [e] at hn; exact hn rfl
      have := ha0.at'.lt hl
      omega
    · rw [vb_tr, hcpd.2.2]; have := HLT.out; omega
    · omega
    · rintro e w4 ⟨rfl, l4, hl4, hlim4, harr4, hv4, hon4⟩
      rw [vb_tr, hcpd.2.2] at hv4
      have hbw4 : Below w.heap.size w w4 := hbw3.trans (hon4.below (Nat.le_refl _) (by omega))
      have hs4 : w.heap.size < w4.heap.size := by have := hon4.size; omega
      have HV4 := Lib.hid hv4
      have HL4 := Lib.hid hl4
      clear hv4 hl4 hcpd
      go_wp2_with fail
      go_ret2
      exact ⟨l4, by rw [HDEC.out]; rfl, HL4.out, hlim4, harr4, by rw [if_pos HLT.out]; exact HV4.out, hbw4, hs4⟩
  · have hz : ¬ cmpI (vb B64 la) (vb B64 lb) < 0 := by
      unfold cmpI
      rw [if_neg hlt]
      split <;> decide
    have hdec : decide (vb B64 la < vb B64 lb) = false := by simpa using hlt
    obtain ⟨z, hze⟩ : ∃ z, z = cmpI (vb B64 la) (vb B64 lb) := ⟨_, rfl⟩
    rw [← hze] at hz
    have HZE := Lib.hid hze
    clear hze
    have HDEC := Lib.hid hdec
    have HLT := Lib.hid hlt
    clear hdec hlt
    go_enter Tryd.func126, Tryd.ntmps126
    go_wp2_with (at_make; refine wpList_make_words w rfl (.tmp 8) (.tmp 8) 26 rfl Tryd.underlying26 info_u64 _ _ na rfl rfl rfl rfl hM ?_; intro w1 hw1 hb1 hs1)
    refine (cmp_any aa na ca la ab nb' cb lb w1 HNA.out HNB.out hc1 hc2 hd1 hd2 (ha.below hb1) (hb.below hb1) hla hlb).mono ?_
    rintro e w2 ⟨rfl, hb12⟩
    rw [← HZE.out]
    have hbw2 : Below w.heap.size w w2 := hb1.trans (hb12.mono hb1.size)
    have harr2 := (hw1.below hb12).arr.1
    have hcpr := ha.below hbw2
    have hs2 : w.heap.size < w2.heap.size := by have := hb12.size; omega
    go_wp2_with (with_reducible refine wpList_copy_words rfl (.tmp 22) (.tmp 23) 26 26 rfl Tryd.underlying26 info_u64 w.heap.size 0 na na aa na ca rfl rfl (List.replicate na 0) la List.length_replicate HNA.out.symm harr2 hcpr ?_; intro w3 ha3 ho3)
    have hcpd := copied (n := na) (l := la) (by rw [← HNA.out]; omega) hla
    rw [← HNA.out] at hcpd
    have hs3 : w.heap.size < w3.heap.size := by have := ho3.size; omega
    have hbw3 : Below w.heap.size w w3 := hbw2.trans (ho3.below (Nat.le_refl _) (by omega))
    have hsr := hb0.below hbw3
    have hst := tlen_le lb
    rw [← HNB.out] at hst
    refine (trim_any ab nb' cb lb w3 HNB.out hd1 hd2 hsr).mono ?_
    rintro e w' ⟨rfl, rfl⟩
    go_wp2_with fail
    refine (subFrom_any w.heap.size 0 na na _ ab (tlen lb) cb (tr lb) w3 hcpd.1.symm (tr_length _).symm (Nat.le_refl _) (by omega) (by omega) (by omega) ha3 (hsr.take _) ?_ hcpd.2.1 (hlb.take _) ?_ ?_).mono ?_
    · intro hn b' off' e
      subst e
      have hl : lb ≠ [] := by intro e; rw [e] at hn; exact hn rfl
      have := hb0.at'.lt hl
      omega
    · rw [vb_tr, hcpd.2.2]; have := HLT.out; omega
    · omega
    · rintro e w4 ⟨rfl, l4, hl4, hlim4, harr4, hv4, hon4⟩
      rw [vb_tr, hcpd.2.2] at hv4
      have hbw4 : Below w.heap.size w w4 := hbw3.trans (hon4.below (Nat.le_refl _) (by omega))
      have hs4 : w.heap.size < w4.heap.size := by have := hon4.size; omega
      have HV4 := Lib.hid hv4
      have HL4 := Lib.hid hl4
      clear hv4 hl4 hcpd
      go_wp2_with fail
      go_ret2
      exact ⟨l4, by rw [HDEC.out]; rfl, HL4.out, hlim4, harr4, by rw [if_neg (Int.not_lt.2 HLT.out)]; exact HV4.out, hbw4, hs4⟩
end Go.Proofs.YtfanhllcoaondaaDoor

namespace Go.Proofs.YtfanhllcoaondaaDoor
open Go.RowKit

theorem cross_same {A0 A1 B0 B1 : Int} (h : decide (A0 < A1) = decide (B0 < B1)) : A0 * B0 + A1 * B1 - (if A0 < A1 then A1 - A0 else A0 - A1) * (if B0 < B1 then B1 - B0 else B0 - B1) = A0 * B1 + A1 * B0 := by
  by_cases h1 : A0 < A1
  · have h2 : B0 < B1 := by rw [decide_eq_true h1] at h; exact of_decide_eq_true h.symm
    rw [if_pos h1, if_pos h2, Int.sub_mul, Int.mul_sub, Int.mul_sub]
    omega
  · have h2 : ¬ B0 < B1 := by rw [decide_eq_false h1] at h; exact of_decide_eq_false h.symm
    rw [if_neg h1, if_neg h2, Int.sub_mul, Int.mul_sub, Int.mul_sub]
    omega
theorem cross_diff {A0 A1 B0 B1 : Int} (h : decide (A0 < A1) ≠ decide (B0 < B1)) : A0 * B0 + A1 * B1 + (if A0 < A1 then A1 - A0 else A0 - A1) * (if B0 < B1 then B1 - B0 else B0 - B1) = A0 * B1 + A1 * B0 := by
  by_cases h1 : A0 < A1
  · have h2 : ¬ B0 < B1 := by intro h2; exact h (by rw [decide_eq_true h1, decide_eq_true h2])
    rw [if_pos h1, if_neg h2, Int.sub_mul, Int.mul_sub, Int.mul_sub]
    omega
  · have h2 : B0 < B1 := by
      rcases Classical.em (B0 < B1) with h2 | h2
      · exact h2
      · exact absurd (by rw [decide_eq_false h1, decide_eq_false h2]) h
    rw [if_neg h1, if_pos h2, Int.sub_mul, Int.mul_sub, Int.mul_sub]
    omega
theorem halves_tot (A0 A1 B0 B1 X : Int) : (A0 + X * A1) * (B0 + X * B1) = A0 * B0 + X * X * (A1 * B1) + X * (A0 * B1 + A1 * B0) := by
  rw [Int.add_mul, Int.mul_add, Int.mul_add, Int.mul_assoc X A1 B0, Int.mul_left_comm A0 X B1, Int.mul_assoc X A1 (X * B1), Int.mul_left_comm A1 X B1, ← Int.mul_assoc X X, Int.mul_add X]
  omega
theorem abs_gap {A B X : Int} (h0 : 0 ≤ A) (h1 : A < X) (h2 : 0 ≤ B) (h3 : B < X) : 0 ≤ (if A < B then B - A else A - B) ∧ (if A < B then B - A else A - B) < X := by
  split <;> omega
/-- What the products of the halves are at most. -/
theorem halves_room {A0 A1 B0 B1 X : Int} {h : Nat} (hX : X = B64 ^ h) (a0 : 0 ≤ A0) (a1 : A0 < X) (a2 : 0 ≤ A1) (a3 : A1 < X) (b0 : 0 ≤ B0) (b1 : B0 < X) (b2 : 0 ≤ B1) (b3 : B1 < X) :
    A0 * B0 + A1 * B1 + (if A0 < A1 then A1 - A0 else A0 - A1) * (if B0 < B1 then B1 - B0 else B0 - B1) < B64 ^ (2 * h + 1) ∧ 0 ≤ A0 * B0 ∧ 0 ≤ A1 * B1 ∧ 0 ≤ A0 * B1 + A1 * B0 ∧ 0 ≤ (if A0 < A1 then A1 - A0 else A0 - A1) * (if B0 < B1 then B1 - B0 else B0 - B1) := by
  obtain ⟨da0, da1⟩ := abs_gap a0 a1 a2 a3
  obtain ⟨db0, db1⟩ := abs_gap b0 b1 b2 b3
  have e1 := prod_lt a1 b1 a0 b0
  have e2 := prod_lt a3 b3 a2 b2
  have e3 := prod_lt da1 db1 da0 db0
  have n1 := Int.mul_nonneg a0 b0
  have n2 := Int.mul_nonneg a2 b2
  have n3 := Int.mul_nonneg a0 b2
  have n4 := Int.mul_nonneg a2 b0
  have n5 := Int.mul_nonneg da0 db0
  have e4 : B64 ^ (2 * h + 1) = X * X * B64 := by rw [Int.pow_succ, show 2 * h = h + h by omega, Int.pow_add, hX]
  rw [e4]
  generalize X * X = Y at *
  refine ⟨?_, n1, n2, by omega, n5⟩
  unfold B64
  omega

set_option maxRecDepth 100000 in
set_option maxHeartbeats 8000000 in
theorem multiplyHalves_any (g off no co : Nat) (lo : List Int) (aa : Option Addr) (n ca : Nat) (la : List Int) (ab : Option Addr) (cb : Nat) (lb : List Int) (cut : Int) (w : World) (ih : MulAt (n + n)) (hno : no = lo.length) (hna : n = la.length) (hnb : n = lb.length)
    (ho1 : no ≤ co) (ho2 : co ≤ 9223372036854775807) (hc1 : n ≤ ca) (hc2 : ca ≤ 9223372036854775807) (hd1 : n ≤ cb) (hd2 : cb ≤ 9223372036854775807)
    (ho : Arr w g off lo) (ha : Rd w aa la) (hb : Rd w ab lb) (hna' : la ≠ [] → ∀ b' off', aa = some ⟨b', off', none⟩ → b' ≠ g) (hnb'' : lb ≠ [] → ∀ b' off', ab = some ⟨b', off', none⟩ → b' ≠ g)
    (hla : Lim B64 la) (hlb : Lim B64 lb) (hsum : no = n + n) (hM : no ≤ 17592186040000) (hcut : 2 ≤ cut) (hcut2 : cut ≤ 9223372036854775807) (hn2 : 2 ≤ n) :
    Calls Tryd.prog 119 #[.slice (some ⟨g, off, none⟩) no co, .slice aa n ca, .slice ab n cb, .int .i64 cut] w fun e w' => e = .returned (.tuple #[]) ∧ InPl g off no (vb B64 la * vb B64 lb) w w' := by
  obtain ⟨b1, o1, rfl, hat1⟩ := ha.cases (by intro e; rw [e] at hna; simp at hna; omega)
  obtain ⟨b2, o2, rfl, hat2⟩ := hb.cases (by intro e; rw [e] at hnb; simp at hnb; omega)
  have hne1 := hna' (by intro e; rw [e] at hna; simp at hna; omega) b1 o1 rfl
  have hne2 := hnb'' (by intro e; rw [e] at hnb; simp at hnb; omega) b2 o2 rfl
  have hg := ho.lt
  obtain ⟨hf, hh⟩ : ∃ hf, (n + 1) / 2 = hf := ⟨_, rfl⟩
  have hhI : ((n : Int) + 1).tdiv 2 = (hf : Int) := by rw [Int.tdiv_eq_ediv_of_nonneg (by omega)]; omega
  obtain ⟨H, hH⟩ : ∃ H, 2 * hf = H := ⟨_, rfl⟩
  have hHI : 2 * (hf : Int) = (H : Int) := by omega
  obtain ⟨k, hk⟩ : ∃ k, n - hf = k := ⟨_, rfl⟩
  obtain ⟨R, hR⟩ : ∃ R, no - H = R := ⟨_, rfl⟩
  have hh1 : 1 ≤ hf := by omega
  have hhn : hf < n := by omega
  have hk1 : 1 ≤ k := by omega
  have hkh : k ≤ hf := by omega
  have hHn : H ≤ no := by omega
  have hRk : R = k + k := by omega
  have hHco : H < co := by omega
  have hHno : H < no := by omega
  have hHco2 : (H : Int) < (co : Int) := by omega
  have hHI2 : (H : Int) ≤ (no : Int) := by omega
  have hHI3 : (H : Int) ≤ (co : Int) := by omega
  have hhI2 : (hf : Int) ≤ (n : Int) := by omega
  have hhca : (hf : Int) ≤ (ca : Int) := by omega
  have hhcb : (hf : Int) ≤ (cb : Int) := by omega
  have hfno : hf < no := by omega
  have hfnoI : (hf : Int) ≤ (no : Int) := by omega
  have hfco : hf < co := by omega
  have hfcoI : (hf : Int) ≤ (co : Int) := by omega
  have HNO := Lib.hid hno
  have HNA := Lib.hid hna
  have HNB := Lib.hid hnb
  have HSUM := Lib.hid hsum
  have HIH := Lib.hid ih
  have HH := Lib.hid hH
  have HHH := Lib.hid hh
  have HRK := Lib.hid hRk
  clear hno hna hnb hsum ih ha hb hna' hnb'' hRk hh hH
  go_enter Tryd.func119, Tryd.ntmps119
  go_wp2_with fail
  go_quiet (fail)
  go_wp2_with fail
  obtain ⟨A0, hA0⟩ : ∃ A0, A0 = vb B64 (la.take hf) := ⟨_, rfl⟩
  obtain ⟨A1, hA1⟩ : ∃ A1, A1 = vb B64 (la.drop hf) := ⟨_, rfl⟩
  obtain ⟨B0, hB0⟩ : ∃ B0, B0 = vb B64 (lb.take hf) := ⟨_, rfl⟩
  obtain ⟨B1, hB1⟩ : ∃ B1, B1 = vb B64 (lb.drop hf) := ⟨_, rfl⟩
  have EA0 := Lib.hid hA0
  have EA1 := Lib.hid hA1
  have EB0 := Lib.hid hB0
  have EB1 := Lib.hid hB1
  have la0 : hf = (la.take hf).length := by rw [List.length_take, ← HNA.out]; omega
  have la1 : k = (la.drop hf).length := by rw [List.length_drop, ← HNA.out]; omega
  have lb0 : hf = (lb.take hf).length := by rw [List.length_take, ← HNB.out]; omega
  have lb1 : k = (lb.drop hf).length := by rw [List.length_drop, ← HNB.out]; omega
  have LA0 := Lib.hid la0
  have LA1 := Lib.hid la1
  have LB0 := Lib.hid lb0
  have LB1 := Lib.hid lb1
  have LLO : Hid ((lo.take H).length = H) := by show _ = _; rw [List.length_take, ← HNO.out]; omega
  have LHI : Hid ((lo.drop H).length = R) := by show _ = _; rw [List.length_drop, ← HNO.out]; exact hR
  have hsm := HSUM.out
  have hHh := HH.out
  have hRk := HRK.out
  have hla0 : la ≠ [] := by intro e; have := HNA.out; rw [e] at this; simp at this; omega
  have hlb0 : lb ≠ [] := by intro e; have := HNB.out; rw [e] at this; simp at this; omega
  have S1 : Hid (hf + hf < n + n ∧ k + k < n + n ∧ H = hf + hf ∧ R = k + k ∧ H ≤ 17592186040000 ∧ R ≤ 17592186040000) := by refine ⟨?_, ?_, ?_, ?_, ?_, ?_⟩ <;> omega
  have S2 : Hid (hf ≤ ca ∧ hf ≤ cb ∧ k ≤ ca - hf ∧ k ≤ cb - hf ∧ H ≤ co ∧ R ≤ co - H ∧ co - H ≤ 9223372036854775807 ∧ ca - hf ≤ 9223372036854775807 ∧ cb - hf ≤ 9223372036854775807) := by refine ⟨?_, ?_, ?_, ?_, ?_, ?_, ?_, ?_, ?_⟩ <;> omega
  clear hA0 hA1 hB0 hB1 la0 la1 lb0 lb1 hsm hHh hRk
  have hbq : Below w.heap.size w (w.drewN nq).drew := (bdn (Below.refl _ _) nq).drew
  go_still_tail 8, (by kernel_rfl)
  change wpList _ _ _ _ _ (w.drewN nq).drew
  generalize (w.drewN nq).drew = w1 at hbq ⊢
  have A1w := hat1.below hbq
  have B1w := hat2.below hbq
  have O1 := ho.below hbq
  go_wp2_with fail
  refine (HIH.out g off H co (lo.take H) (some ⟨b1, o1, none⟩) hf ca (la.take hf) (some ⟨b2, o2, none⟩) hf cb (lb.take hf) cut w1 S1.out.1 LLO.out.symm LA0.out LB0.out S2.out.2.2.2.2.1 ho2 S2.out.1 hc2 S2.out.2.1 hd2 (O1.take H) (Rd.of_at (A1w.take hf)) (Rd.of_at (B1w.take hf)) (fun _ b' off' e => by cases e; exact hne1) (fun _ b' off' e => by cases e; exact hne2) (hla.take hf) (hlb.take hf) S1.out.2.2.1 S1.out.2.2.2.2.1 hcut hcut2).mono ?_
  rintro e w2 ⟨rfl, ll, hll, hlimL, L2, hvl, on2⟩
  rw [← EA0.out, ← EB0.out] at hvl
  have A2 := on2.at' A1w hne1
  have B2 := on2.at' B1w hne2
  have O2 := on2.arr (O1.drop H) (Or.inr (Nat.le_refl _))
  have ON2 : Only g off (off + no) w w2 := (Only.of_below hbq).trans (on2.mono (Nat.le_refl _) (by omega))
  have HLL := Lib.hid hll
  have HVL := Lib.hid hvl
  clear hll hvl A1w B1w O1 on2 hbq
  go_wp2_with fail
  have hbq : Below w2.heap.size w2 w2.drew := (Below.refl _ _).drew
  go_still_tail 8, (by kernel_rfl)
  change wpList _ _ _ _ _ w2.drew
  generalize w2.drew = w3 at hbq ⊢
  have A3 := A2.below hbq
  have B3 := B2.below hbq
  have O3 := O2.below hbq
  have L3 := L2.below hbq
  have ON3 := ON2.trans (Only.of_below hbq)
  clear A2 B2 O2 L2 ON2 hbq
  go_wp2_with fail
  refine (HIH.out g (off + H) R (co - H) (lo.drop H) (some ⟨b1, o1 + hf, none⟩) k (ca - hf) (la.drop hf) (some ⟨b2, o2 + hf, none⟩) k (cb - hf) (lb.drop hf) cut w3 S1.out.2.1 LHI.out.symm LA1.out LB1.out S2.out.2.2.2.2.2.1 S2.out.2.2.2.2.2.2.1 S2.out.2.2.1 S2.out.2.2.2.2.2.2.2.1 S2.out.2.2.2.1 S2.out.2.2.2.2.2.2.2.2 O3 (Rd.of_at (A3.drop hf)) (Rd.of_at (B3.drop hf)) (fun _ b' off' e => by cases e; exact hne1) (fun _ b' off' e => by cases e; exact hne2) (hla.drop hf) (hlb.drop hf) S1.out.2.2.2.1 S1.out.2.2.2.2.2 hcut hcut2).mono ?_
  rintro e w4 ⟨rfl, lh, hlh, hlimH, H4, hvh, on4⟩
  rw [← EA1.out, ← EB1.out] at hvh
  have A4 := on4.at' A3 hne1
  have B4 := on4.at' B3 hne2
  have L4 := on4.arr L3 (Or.inl (by rw [HLL.out]; exact Nat.le_refl _))
  have ON4 := ON3.trans (on4.mono (lo' := off) (hi' := off + no) (by omega) (by omega))
  have HLH := Lib.hid hlh
  have HVH := Lib.hid hvh
  clear hlh hvh A3 B3 O3 L3 ON3 on4
  go_wp2_with fail
  have hbq : Below w4.heap.size w4 w4.drew := (Below.refl _ _).drew
  have A5 := A4.below hbq
  have B5 := B4.below hbq
  have H5 := H4.below hbq
  have L5 := L4.below hbq
  have ON5 := ON4.trans (Only.of_below hbq)
  have hfM : hf ≤ MaxW := by unfold MaxW; omega
  have qHDA := (distance_any (some ⟨b1, o1, none⟩) hf ca (la.take hf) (some ⟨b1, o1 + hf, none⟩) k (ca - hf) (la.drop hf) w4.drew LA0.out LA1.out S2.out.1 hc2 S2.out.2.2.1 S2.out.2.2.2.2.2.2.2.1 (Rd.of_at (A5.take hf)) (Rd.of_at (A5.drop hf)) (hla.take hf) (hla.drop hf) hkh hfM)
  simp only [RetDist] at qHDA
  rw [← EA0.out, ← EA1.out] at qHDA
  obtain ⟨sa, hsa⟩ : ∃ sa, sa = decide (A0 < A1) := ⟨_, rfl⟩
  rw [← hsa] at qHDA
  have HDA := Lib.hid qHDA
  have HSA := Lib.hid hsa
  clear qHDA hsa
  clear A4 B4 H4 L4 ON4 hbq
  go_region_with (go_at_call 126; refine HDA.out.mono ?_; rintro e w6 ⟨da, rfl, hda, hlimda, D6, hvda, bda, sda⟩)
  have hd4 : w4.drew.heap.size = w4.heap.size := rfl
  have A6 := A5.below bda
  have B6 := B5.below bda
  have H6 := H5.below bda
  have L6 := L5.below bda
  have ON6 := ON5.trans (Only.of_below bda)
  have HLDA := Lib.hid hda
  have HVDA := Lib.hid hvda
  clear A5 B5 H5 L5 ON5 HDA hda hvda bda
  go_wp2_with fail
  have hbq : Below w6.heap.size w6 w6.drew := (Below.refl _ _).drew
  have A7 := A6.below hbq
  have B7 := B6.below hbq
  have H7 := H6.below hbq
  have L7 := L6.below hbq
  have D7 := D6.below hbq
  have ON7 := ON6.trans (Only.of_below hbq)
  have qHDB := (distance_any (some ⟨b2, o2, none⟩) hf cb (lb.take hf) (some ⟨b2, o2 + hf, none⟩) k (cb - hf) (lb.drop hf) w6.drew LB0.out LB1.out S2.out.2.1 hd2 S2.out.2.2.2.1 S2.out.2.2.2.2.2.2.2.2 (Rd.of_at (B7.take hf)) (Rd.of_at (B7.drop hf)) (hlb.take hf) (hlb.drop hf) hkh hfM)
  simp only [RetDist] at qHDB
  rw [← EB0.out, ← EB1.out] at qHDB
  obtain ⟨sb, hsb⟩ : ∃ sb, sb = decide (B0 < B1) := ⟨_, rfl⟩
  rw [← hsb] at qHDB
  have HDB := Lib.hid qHDB
  have HSB := Lib.hid hsb
  clear qHDB hsb
  clear A6 B6 H6 L6 D6 ON6 hbq
  go_region_with (go_at_call 126; refine HDB.out.mono ?_; rintro e w8 ⟨db, rfl, hdb, hlimdb, E8, hvdb, bdb, sdb⟩)
  have A8 := A7.below bdb
  have B8 := B7.below bdb
  have H8 := H7.below bdb
  have L8 := L7.below bdb
  have D8 := D7.below bdb
  have ON8 := ON7.trans (Only.of_below bdb)
  have HLDB := Lib.hid hdb
  have HVDB := Lib.hid hvdb
  clear A7 B7 H7 L7 D7 ON7 HDB hdb hvdb
  have hHM : H ≤ MaxW := by unfold MaxW; omega
  have hHM1 : H + 1 ≤ MaxW := by unfold MaxW; omega
  go_wp2_with (at_make; refine wpList_make_words w8 rfl (.tmp 68) (.tmp 68) 26 rfl Tryd.underlying26 info_u64 _ _ H rfl rfl (by omega) (by omega) hHM ?_; intro w9 hw9 hb9 hs9)
  have harrC := hw9.arr.1
  have C9a := (D8.below hb9).at'
  have C9b := (E8.below hb9).at'
  have hd6 : w6.drew.heap.size = w6.heap.size := rfl
  rw [hd4] at sda
  rw [hd6] at sdb
  refine (HIH.out w8.heap.size 0 H H (List.replicate H 0) (some ⟨w4.heap.size, 0, none⟩) hf hf da (some ⟨w6.heap.size, 0, none⟩) hf hf db cut w9 S1.out.1 (by simp) HLDA.out.symm HLDB.out.symm (Nat.le_refl _) (by omega) (Nat.le_refl _) (by omega) (Nat.le_refl _) (by omega) harrC (Rd.of_at C9a) (Rd.of_at C9b) (fun _ b' off' e => by cases e; omega) (fun _ b' off' e => by cases e; omega) hlimda hlimdb S1.out.2.2.1 S1.out.2.2.2.2.1 hcut hcut2).mono ?_
  rintro e w10 ⟨rfl, lc, hlc, hlimc, C10, hvc, on10⟩
  have b10 : Below w8.heap.size w8 w10 := hb9.trans (on10.below (Nat.le_refl _) hb9.size)
  have L10 := L8.below b10
  have H10 := H8.below b10
  have ON10 := ON8.trans (Only.of_below b10)
  have hg10 : g < w10.heap.size := by have := ON10.size; omega
  have hg8 : w8.heap.size < w10.heap.size := by have := on10.size; omega
  have HLC := Lib.hid hlc
  have HVC := Lib.hid hvc
  clear A8 B8 H8 L8 D8 E8 ON8 hlc hvc on10 b10 C9a C9b harrC hw9 hb9 hs9
  go_wp2_with (first
    | (at_make; refine wpList_make_words w10 rfl (.tmp 77) (.tmp 77) 26 rfl Tryd.underlying26 info_u64 _ _ (H + 1) rfl rfl (by omega) (by omega) hHM1 ?_; intro w11 hw11 hb11 hs11; have M11 := hw11.arr.1; have L11 := L10.below hb11)
    | (with_reducible refine wpList_copy_words rfl (.tmp 79) (.tmp 80) 26 26 rfl Tryd.underlying26 info_u64 w10.heap.size 0 (H + 1) (H + 1) (some ⟨g, off, none⟩) H co rfl rfl (List.replicate (H + 1) 0) ll List.length_replicate HLL.out M11 (Rd.of_at L11.at') ?_; intro w12 M12 on12))
  have hcpd := copied (n := H + 1) (l := ll) (by rw [HLL.out]; omega) hlimL
  rw [HLL.out] at hcpd
  obtain ⟨lm, hlm⟩ : ∃ lm, lm = ll.take (H + 1) ++ (List.replicate (H + 1) (0 : Int)).drop H := ⟨_, rfl⟩
  rw [← hlm] at hcpd M12
  obtain ⟨hlm1, hlimm, hvm⟩ := hcpd
  rw [HVL.out] at hvm
  have b12 : Below w10.heap.size w10 w12 := hb11.trans (on12.below (Nat.le_refl _) hb11.size)
  have H12 := H10.below b12
  have C12 := C10.below b12
  have hs12 : w10.heap.size < w12.heap.size := by have := on12.size; omega
  have hX0 : vb B64 la = A0 + B64 ^ hf * A1 := by rw [EA0.out, EA1.out]; exact vb_split B64 la hf (by rw [← HNA.out]; omega)
  have hX1 : vb B64 lb = B0 + B64 ^ hf * B1 := by rw [EB0.out, EB1.out]; exact vb_split B64 lb hf (by rw [← HNB.out]; omega)
  have a00 : 0 ≤ A0 ∧ A0 < B64 ^ hf := by
    rw [EA0.out]
    have h1 := vb_lt B64_pos (hla.take hf)
    rw [← LA0.out] at h1
    exact ⟨vb_nonneg B64_pos (hla.take hf), h1⟩
  have b00 : 0 ≤ B0 ∧ B0 < B64 ^ hf := by
    rw [EB0.out]
    have h1 := vb_lt B64_pos (hlb.take hf)
    rw [← LB0.out] at h1
    exact ⟨vb_nonneg B64_pos (hlb.take hf), h1⟩
  have hkp := pow_le_pow B64_pos hkh
  have a10 : 0 ≤ A1 ∧ A1 < B64 ^ hf := by
    rw [EA1.out]
    have h1 := vb_lt B64_pos (hla.drop hf)
    rw [← LA1.out] at h1
    exact ⟨vb_nonneg B64_pos (hla.drop hf), by omega⟩
  have b10' : 0 ≤ B1 ∧ B1 < B64 ^ hf := by
    rw [EB1.out]
    have h1 := vb_lt B64_pos (hlb.drop hf)
    rw [← LB1.out] at h1
    exact ⟨vb_nonneg B64_pos (hlb.drop hf), by omega⟩
  have hroomX := halves_room (h := hf) rfl a00.1 a00.2 a10.1 a10.2 b00.1 b00.2 b10'.1 b10'.2
  rw [HH.out] at hroomX
  have RX := Lib.hid hroomX
  have LALL : Hid ((ll ++ lh).length = no) := by
    show _ = _
    rw [List.length_append, HLL.out, HLH.out]
    have := HSUM.out; have := HRK.out; have := HH.out; omega
  have hall : vb B64 (ll ++ lh) = A0 * B0 + B64 ^ hf * B64 ^ hf * (A1 * B1) := by
    rw [vb_append, HLL.out, HVL.out, HVH.out, ← HH.out, show 2 * hf = hf + hf by omega, Int.pow_add]
  have TOT : Hid (vb B64 (ll ++ lh) + B64 ^ hf * (A0 * B1 + A1 * B0) = vb B64 la * vb B64 lb) := by
    show _ = _
    rw [hall, hX0, hX1, halves_tot]
  have FIT : Hid (vb B64 ((ll ++ lh).drop hf) + (A0 * B1 + A1 * B0) < B64 ^ (no - hf)) := by
    refine fit_tail (hlimL.app hlimH) LALL.out (by omega) ?_
    rw [TOT.out]
    have e1 := vb_lt B64_pos hla
    have e2 := vb_lt B64_pos hlb
    rw [← HNA.out] at e1
    rw [← HNB.out] at e2
    have e3 := prod_lt e1 e2 (vb_nonneg B64_pos hla) (vb_nonneg B64_pos hlb)
    rw [← Int.pow_add, ← HSUM.out] at e3
    exact e3
  have fit0 : A0 * B0 + A1 * B1 < B64 ^ (H + 1) := by have := RX.out; omega
  have HVM1 := Lib.hid hvm
  have HLM1 := Lib.hid hlm1
  have hRH : R ≤ H + 1 := by have := HRK.out; have := HH.out; omega
  clear hX0 hX1 a00 b00 hkp a10 b10' hroomX hall hvm hlm1 hlm
  refine (addTo_any w10.heap.size 0 (H + 1) (H + 1) lm (some ⟨g, off + H, none⟩) R (co - H) lh w12 HLM1.out.symm HLH.out.symm (Nat.le_refl _) (by omega) S2.out.2.2.2.2.2.1 S2.out.2.2.2.2.2.2.1 M12 (Rd.of_at H12.at') (fun _ b' off' e => by cases e; omega) hlimm hlimH (by rw [HVM1.out, HVH.out]; exact fit0) hRH).mono ?_
  rintro e w13 ⟨rfl, lm2, hlm2, hlimm2, M13, hvm2, on13⟩
  rw [HVM1.out, HVH.out] at hvm2
  have b13 : Below w10.heap.size w10 w13 := b12.trans (on13.below (Nat.le_refl _) (by omega))
  have C13 := C10.below b13
  have HLM2 := Lib.hid hlm2
  have HVM2 := Lib.hid hvm2
  clear hlm2 hvm2 on13 M12 H12 C12 fit0
  by_cases hs : sa = sb
  · have hbe : (sa == sb) = true := by rw [hs]; simp
    have hdd : decide (A0 < A1) = decide (B0 < B1) := by rw [← HSA.out, ← HSB.out]; exact hs
    have HDD := Lib.hid hdd
    clear hs hdd
    go_wp2_with fail
    refine (subFrom_any w10.heap.size 0 (H + 1) (H + 1) lm2 (some ⟨w8.heap.size, 0, none⟩) H H lc w13 HLM2.out.symm HLC.out.symm (Nat.le_refl _) (by omega) (Nat.le_refl _) (by omega) M13 (Rd.of_at C13.at') (fun _ b' off' e => by cases e; omega) hlimm2 hlimc (by rw [HVM2.out, HVC.out, HVDA.out, HVDB.out]; have h1 := cross_same HDD.out; have h2 := RX.out; omega) (by omega)).mono ?_
    rintro e w14 ⟨rfl, lm3, hlm3, hlimm3, M14, hv14, on14⟩
    have hmid2 : vb B64 lm3 = A0 * B1 + A1 * B0 := by rw [hv14, HVM2.out, HVC.out, HVDA.out, HVDB.out]; exact cross_same HDD.out
    have hroom : (tr lm3).length ≤ no - hf := by
      refine room_of B64_pos (can_tr hlimm3) ?_
      rw [vb_tr, hmid2]
      have h1 := FIT.out
      have h2 := vb_nonneg B64_pos ((hlimL.app hlimH).drop hf)
      omega
    rw [tr_length] at hroom
    have hbq : Below w14.heap.size w14 w14.drew := (Below.refl _ _).drew
    have b15 : Below w10.heap.size w10 w14.drew := (b13.trans (on14.below (Nat.le_refl _) (by have := b13.size; omega))).drew
    have L15 := L10.below b15
    have H15 := H10.below b15
    have M15 : Arr w14.drew w10.heap.size 0 lm3 := M14.below hbq
    have ON15 := ON10.trans (Only.of_below b15)
    have HMID := Lib.hid hmid2
    have HLM3 := Lib.hid hlm3
    clear hmid2 hv14 hlm3 on14 M14 hbq
    have ALL15 : Arr w14.drew g off (ll ++ lh) := L15.append (by rw [HLL.out]; exact H15)
    have hlimA : Lim B64 (ll ++ lh) := hlimL.app hlimH
    have HTR := Lib.hid (trim_any (some ⟨w10.heap.size, 0, none⟩) (H + 1) (H + 1) lm3 w14.drew HLM3.out.symm (Nat.le_refl _) (by omega) (Rd.of_at M15.at'))
    have HADD := Lib.hid (addTo_any g (off + hf) (no - hf) (co - hf) ((ll ++ lh).drop hf) (some ⟨w10.heap.size, 0, none⟩) (tlen lm3) (H + 1) (tr lm3) w14.drew (by rw [List.length_drop, LALL.out]) (tr_length _).symm (by omega) (by omega) (by have := tlen_le lm3; rw [HLM3.out] at this; exact this) (by omega) (ALL15.drop hf) (Rd.of_at (M15.at'.take _)) (fun _ b' off' e => by cases e; omega) (hlimA.drop hf) ((hlimm3).take _) (by rw [vb_tr, HMID.out]; exact FIT.out) hroom)
    go_wp2_with fail
    go_region_with (first
      | (go_at_call 83; refine HTR.out.mono ?_; rintro e w' ⟨rfl, rfl⟩)
      | (go_at_call 89; refine HADD.out.mono ?_; rintro e w16 ⟨rfl, hin⟩))
    all_goals
      obtain ⟨lz, hlz, hlimz, Z16, hvz, onz⟩ := splice ALL15 hlimA LALL.out (show hf ≤ no by omega) hin
      rw [vb_tr, HMID.out] at hvz
      have hvf : vb B64 lz = vb B64 la * vb B64 lb := by
        rw [hvz, Int.mul_add, ← Int.add_assoc, ← vb_split B64 (ll ++ lh) hf (by rw [LALL.out]; omega)]
        exact TOT.out
      have HVF := Lib.hid hvf
      have HLZ := Lib.hid hlz
      clear hvz hvf hlz
      go_wp2_with fail
      go_end0
      exact ⟨rfl, lz, HLZ.out, hlimz, Z16, HVF.out, ON15.trans onz⟩
  · have hbe : (sa == sb) = false := by rw [beq_eq_false_iff_ne]; exact hs
    have hdd : decide (A0 < A1) ≠ decide (B0 < B1) := by rw [← HSA.out, ← HSB.out]; exact hs
    have HDD := Lib.hid hdd
    clear hs hdd
    go_wp2_with fail
    refine (addTo_any w10.heap.size 0 (H + 1) (H + 1) lm2 (some ⟨w8.heap.size, 0, none⟩) H H lc w13 HLM2.out.symm HLC.out.symm (Nat.le_refl _) (by omega) (Nat.le_refl _) (by omega) M13 (Rd.of_at C13.at') (fun _ b' off' e => by cases e; omega) hlimm2 hlimc (by rw [HVM2.out, HVC.out, HVDA.out, HVDB.out]; exact RX.out.1) (by omega)).mono ?_
    rintro e w14 ⟨rfl, lm3, hlm3, hlimm3, M14, hv14, on14⟩
    have hmid2 : vb B64 lm3 = A0 * B1 + A1 * B0 := by rw [hv14, HVM2.out, HVC.out, HVDA.out, HVDB.out]; exact cross_diff HDD.out
    have hroom : (tr lm3).length ≤ no - hf := by
      refine room_of B64_pos (can_tr hlimm3) ?_
      rw [vb_tr, hmid2]
      have h1 := FIT.out
      have h2 := vb_nonneg B64_pos ((hlimL.app hlimH).drop hf)
      omega
    rw [tr_length] at hroom
    have hbq : Below w14.heap.size w14 w14.drew := (Below.refl _ _).drew
    have b15 : Below w10.heap.size w10 w14.drew := (b13.trans (on14.below (Nat.le_refl _) (by have := b13.size; omega))).drew
    have L15 := L10.below b15
    have H15 := H10.below b15
    have M15 : Arr w14.drew w10.heap.size 0 lm3 := M14.below hbq
    have ON15 := ON10.trans (Only.of_below b15)
    have HMID := Lib.hid hmid2
    have HLM3 := Lib.hid hlm3
    clear hmid2 hv14 hlm3 on14 M14 hbq
    have ALL15 : Arr w14.drew g off (ll ++ lh) := L15.append (by rw [HLL.out]; exact H15)
    have hlimA : Lim B64 (ll ++ lh) := hlimL.app hlimH
    have HTR := Lib.hid (trim_any (some ⟨w10.heap.size, 0, none⟩) (H + 1) (H + 1) lm3 w14.drew HLM3.out.symm (Nat.le_refl _) (by omega) (Rd.of_at M15.at'))
    have HADD := Lib.hid (addTo_any g (off + hf) (no - hf) (co - hf) ((ll ++ lh).drop hf) (some ⟨w10.heap.size, 0, none⟩) (tlen lm3) (H + 1) (tr lm3) w14.drew (by rw [List.length_drop, LALL.out]) (tr_length _).symm (by omega) (by omega) (by have := tlen_le lm3; rw [HLM3.out] at this; exact this) (by omega) (ALL15.drop hf) (Rd.of_at (M15.at'.take _)) (fun _ b' off' e => by cases e; omega) (hlimA.drop hf) ((hlimm3).take _) (by rw [vb_tr, HMID.out]; exact FIT.out) hroom)
    go_wp2_with fail
    go_region_with (first
      | (go_at_call 83; refine HTR.out.mono ?_; rintro e w' ⟨rfl, rfl⟩)
      | (go_at_call 89; refine HADD.out.mono ?_; rintro e w16 ⟨rfl, hin⟩))
    all_goals
      obtain ⟨lz, hlz, hlimz, Z16, hvz, onz⟩ := splice ALL15 hlimA LALL.out (show hf ≤ no by omega) hin
      rw [vb_tr, HMID.out] at hvz
      have hvf : vb B64 lz = vb B64 la * vb B64 lb := by
        rw [hvz, Int.mul_add, ← Int.add_assoc, ← vb_split B64 (ll ++ lh) hf (by rw [LALL.out]; omega)]
        exact TOT.out
      have HVF := Lib.hid hvf
      have HLZ := Lib.hid hlz
      clear hvz hvf hlz
      go_wp2_with fail
      go_end0
      exact ⟨rfl, lz, HLZ.out, hlimz, Z16, HVF.out, ON15.trans onz⟩
end Go.Proofs.YtfanhllcoaondaaDoor
