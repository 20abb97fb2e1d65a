/-
  Numbers as a caller of package nat holds them: a slice, the number that it reads as, and how many words it has at most. The contracts of package nat in these words.
-/
import Derived.Test.YtbieldebkfkpkaaDoorAlive
import Derived.Test.YtbieldebkfkpkaaDoorShift
import Derived.Test.YtbieldebkfkpkaaDoorMath
import Derived.Test.YtbieldebkfkpkaaDoorLowBits
namespace Go.Proofs.YtbieldebkfkpkaaDoor
open Go.RowKit

/-- A slice reads as a number of at most m words. -/
def Num (w : World) (v : Value) (N : Int) (m : Nat) : Prop := ∃ l, RdV w v l ∧ vb B64 l = N ∧ l.length ≤ m
/-- A row of the call's own that holds a number, without zeros at its end. -/
def NewN (base : Nat) (w : World) (v : Value) (N : Int) (m : Nat) : Prop := ∃ l, Ow base w v l ∧ Can B64 l ∧ vb B64 l = N ∧ l.length ≤ m
/-- A function has returned such a row, and turned nothing that was there. -/
def RetN (w : World) (N : Int) (m : Nat) (e : Ending) (w' : World) : Prop := ∃ a n c, e = .returned (.slice a n c) ∧ NewN w.heap.size w' (.slice a n c) N m ∧ Below w.heap.size w w'

theorem Num.below {w w' : World} {v : Value} {N : Int} {m : Nat} (h : Num w v N m) (hb : Below w.heap.size w w') : Num w' v N m := by
  obtain ⟨l, h1, h2, h3⟩ := h
  exact ⟨l, h1.below hb, h2, h3⟩
theorem Num.mono {w : World} {v : Value} {N : Int} {m k : Nat} (h : Num w v N m) (hk : m ≤ k) : Num w v N k := by
  obtain ⟨l, h1, h2, h3⟩ := h
  exact ⟨l, h1, h2, by omega⟩
theorem Num.nonneg {w : World} {v : Value} {N : Int} {m : Nat} (h : Num w v N m) : 0 ≤ N := by
  obtain ⟨l, h1, rfl, h3⟩ := h
  exact vb_nonneg B64_pos h1.lim
theorem Num.lt {w : World} {v : Value} {N : Int} {m : Nat} (h : Num w v N m) : N < B64 ^ m := by
  obtain ⟨l, h1, rfl, h3⟩ := h
  exact Int.lt_of_lt_of_le (vb_lt B64_pos h1.lim) (pow_le_pow B64_pos h3)
theorem Num.open {w : World} {v : Value} {N : Int} {m : Nat} (h : Num w v N m) : ∃ a n c l, v = .slice a n c ∧ n = l.length ∧ n ≤ c ∧ c ≤ 9223372036854775807 ∧ Rd w a l ∧ Lim B64 l ∧ vb B64 l = N ∧ n ≤ m := by
  obtain ⟨l, ⟨a, c, rfl, h1, h2, h3, h4⟩, h5, h6⟩ := h
  exact ⟨a, _, c, l, rfl, rfl, h1, h2, h3, h4, h5, h6⟩
theorem NewN.num {base : Nat} {w : World} {v : Value} {N : Int} {m : Nat} (h : NewN base w v N m) : Num w v N m := by
  obtain ⟨l, h1, h2, h3, h4⟩ := h
  exact ⟨l, h1.rdv h2.lim, h3, h4⟩
theorem NewN.below {base : Nat} {w w' : World} {v : Value} {N : Int} {m : Nat} (h : NewN base w v N m) (hb : Below w.heap.size w w') : NewN base w' v N m := by
  obtain ⟨l, h1, h2⟩ := h
  exact ⟨l, h1.below hb, h2⟩
theorem NewN.base {base base' : Nat} {w : World} {v : Value} {N : Int} {m : Nat} (h : NewN base w v N m) (hb : base' ≤ base) : NewN base' w v N m := by
  obtain ⟨l, h1, h2⟩ := h
  exact ⟨l, h1.mono hb, h2⟩
theorem NewN.eq {base : Nat} {w : World} {v : Value} {N N' : Int} {m : Nat} (h : NewN base w v N m) (e : N = N') : NewN base w v N' m := e ▸ h
theorem Num.eq {w : World} {v : Value} {N N' : Int} {m : Nat} (h : Num w v N m) (e : N = N') : Num w v N' m := e ▸ h
theorem NewN.lt {base : Nat} {w : World} {v : Value} {N : Int} {m : Nat} (h : NewN base w v N m) : ∀ k, v.ownBlock = some k → base ≤ k ∧ k < w.heap.size := by
  obtain ⟨l, h1, h2⟩ := h
  exact fun k hk => World.ownsRow.lt h1 k hk
theorem NewN.only {base : Nat} {w w' : World} {v : Value} {N : Int} {m b lo hi : Nat} (h : NewN base w v N m) (ho : Only b lo hi w w') (hb : b < base) : NewN base w' v N m := by
  have hlt := h.lt
  obtain ⟨l, h1, h2⟩ := h
  exact ⟨l, h1.only' ho (by intro e; have := (hlt b e).1; omega), h2⟩
/-- No word is left of 0 alone. -/
theorem NewN.len {base : Nat} {w : World} {a : Option Addr} {n c : Nat} {N : Int} {m : Nat} (h : NewN base w (.slice a n c) N m) : (n = 0 ↔ N = 0) ∧ n ≤ m := by
  obtain ⟨l, h1, h2, h3, h4⟩ := h
  obtain ⟨a', c', he, _⟩ := h1.form
  simp only [Value.slice.injEq] at he
  obtain ⟨_, rfl, _⟩ := he
  refine ⟨⟨fun h0 => ?_, fun h0 => ?_⟩, h4⟩
  · rw [← h3, List.eq_nil_of_length_eq_zero h0]; rfl
  · rw [h2.eq_nil B64_pos (by rw [h3]; exact h0)]; rfl

theorem Ow.newn {base : Nat} {w : World} {v : Value} {l : List Int} {N : Int} {m : Nat} (h : Ow base w v l) (hc : Can B64 l) (hv : vb B64 l = N) (hm : N < B64 ^ m) : NewN base w v N m := ⟨l, h, hc, hv, room_of B64_pos hc (by rw [hv]; exact hm)⟩
theorem Ow.slice {base : Nat} {w : World} {v : Value} {l : List Int} (h : Ow base w v l) : ∃ a n c, v = .slice a n c := by
  obtain ⟨a, c, rfl, _⟩ := h.form
  exact ⟨a, _, c, rfl⟩
theorem RetNum.retn {w : World} {N : Int} {m : Nat} {e : Ending} {w' : World} (h : RetNum w N e w') (hm : N < B64 ^ m) : RetN w N m e w' := by
  obtain ⟨v, l, rfl, h1, h2, h3, h4⟩ := h
  obtain ⟨a, n, c, rfl⟩ := h1.slice
  exact ⟨a, n, c, rfl, h1.newn h2 h3 hm, h4⟩

theorem cmp_num {w : World} {u v : Value} {A B : Int} {m k : Nat} (h : Num w u A m) (g : Num w v B k) : Calls Tryd.prog 55 #[u, v] w fun e w' => RetV w (.int .i64 (cmpI A B)) e w' := by
  obtain ⟨a, n, c, l, rfl, h1, h2, h3, h4, h5, rfl, h7⟩ := h.open
  obtain ⟨a', n', c', l', rfl, g1, g2, g3, g4, g5, rfl, g7⟩ := g.open
  exact cmp_any a n c l a' n' c' l' w h1 g1 h2 h3 g2 g3 h4 g4 h5 g5

theorem two_pow_le {A B : Int} {m k p : Nat} (h : A < B64 ^ m) (g : B < B64 ^ k) (hm : m < p) (hk : k < p) : A + B < B64 ^ p := by
  have e : B64 ^ p = B64 ^ (p - 1) * 18446744073709551616 := by rw [show p = p - 1 + 1 by omega, Int.pow_succ, Nat.add_sub_cancel]; rfl
  have h1 := pow_le_pow B64_pos (show m ≤ p - 1 by omega)
  have h2 := pow_le_pow B64_pos (show k ≤ p - 1 by omega)
  have h3 := pow_pos' B64_pos (p - 1)
  omega

theorem add2_num {w : World} {u v : Value} {A B : Int} {m k p : Nat} {t : TypeId} (h : Num w u A m) (g : Num w v B k) (hm : m < p) (hk : k < p) (hp : p ≤ 100000) :
    Calls Tryd.prog 53 #[.slice (some ⟨w.heap.size, 0, none⟩) 2 2] (w.alloc (.cells #[u, v] t)) fun e w' => RetN w (A + B) p e w' := by
  have hs := two_pow_le h.lt g.lt hm hk
  obtain ⟨l, h1, rfl, h3⟩ := h
  obtain ⟨l', g1, rfl, g3⟩ := g
  exact (add_two u v l l' t w h1 g1 (by unfold MaxW; omega) (by unfold MaxW; omega)).mono fun e w' hr => hr.retn hs

theorem add3_num {w : World} {u v x : Value} {A B C : Int} {m k j p : Nat} {t : TypeId} (h : Num w u A m) (g : Num w v B k) (f : Num w x C j) (hm : m + 1 < p) (hk : k + 1 < p) (hj : j < p) (hp : p ≤ 100000) :
    Calls Tryd.prog 53 #[.slice (some ⟨w.heap.size, 0, none⟩) 3 3] (w.alloc (.cells #[u, v, x] t)) fun e w' => RetN w (A + B + C) p e w' := by
  have hs : A + B + C < B64 ^ p := two_pow_le (two_pow_le h.lt g.lt (show m < p - 1 by omega) (show k < p - 1 by omega)) f.lt (by omega) hj
  obtain ⟨l1, h1, rfl, h3⟩ := h
  obtain ⟨l2, g1, rfl, g3⟩ := g
  obtain ⟨l3, f1, rfl, f3⟩ := f
  have hb := below_alloc w (.cells #[u, v, x] t)
  refine (add_any (some ⟨w.heap.size, 0, none⟩) 3 3 [u, v, x] [l1, l2, l3] _ rfl rfl (Nat.le_refl _) (by decide) (row_new w [u, v, x] t) ?_ ?_ (by decide)).mono ?_
  · intro j hj
    match j, hj with
    | 0, _ => exact h1.below hb
    | 1, _ => exact g1.below hb
    | 2, _ => exact f1.below hb
  · intro j
    match j with
    | 0 => show l1.length < MaxW; unfold MaxW; omega
    | 1 => show l2.length < MaxW; unfold MaxW; omega
    | 2 => show l3.length < MaxW; unfold MaxW; omega
    | j + 3 => simp; decide
  · rintro e w' ⟨v, l, rfl, hO, hc, hv, hb2⟩
    refine RetNum.retn ⟨v, l, rfl, hO.mono (by simp), hc, ?_, hb.trans (hb2.mono (by simp))⟩ hs
    rw [hv]; simp [sumv]; omega

/-- A function has returned two such rows, that lie apart. -/
def RetN2 (w : World) (N M : Int) (m k : Nat) (e : Ending) (w' : World) : Prop :=
  ∃ a n c a' n' c', e = .returned (.tuple #[.slice a n c, .slice a' n' c']) ∧ NewN w.heap.size w' (.slice a n c) N m ∧ NewN w.heap.size w' (.slice a' n' c') M k ∧ Below w.heap.size w w'
/-- What nat.Sub returns where it can. -/
def RetSN (w : World) (N : Int) (m : Nat) (e : Ending) (w' : World) : Prop := ∃ a n c, e = .returned (.tuple #[.slice a n c, .bool true]) ∧ NewN w.heap.size w' (.slice a n c) N m ∧ Below w.heap.size w w'
theorem sub_num {w : World} {u v : Value} {A B : Int} {m k : Nat} (h : Num w u A m) (g : Num w v B k) (hm : m ≤ 100000) (hle : B ≤ A) :
    Calls Tryd.prog 64 #[u, v] w fun e w' => RetSN w (A - B) m e w' := by
  have hs : A - B < B64 ^ m := by have := h.lt; have := g.nonneg; omega
  obtain ⟨a, n, c, l, rfl, h1, h2, h3, h4, h5, rfl, h7⟩ := h.open
  obtain ⟨a', n', c', l', rfl, g1, g2, g3, g4, g5, rfl, g7⟩ := g.open
  refine (sub_yes a n c l a' n' c' l' w h1 g1 h2 h3 g2 g3 h4 g4 h5 g5 hle (by unfold MaxW; omega)).mono ?_
  rintro e w' ⟨v, l2, rfl, q1, q2, q3, hb⟩
  obtain ⟨aq, nq, cq, rfl⟩ := q1.slice
  exact ⟨aq, nq, cq, rfl, q1.newn q2 q3 hs, hb⟩
theorem sub_num_no {w : World} {u v : Value} {A B : Int} {m k : Nat} (h : Num w u A m) (g : Num w v B k) (hlt : A < B) :
    Calls Tryd.prog 64 #[u, v] w fun e w' => RetNo w e w' := by
  obtain ⟨a, n, c, l, rfl, h1, h2, h3, h4, h5, rfl, h7⟩ := h.open
  obtain ⟨a', n', c', l', rfl, g1, g2, g3, g4, g5, rfl, g7⟩ := g.open
  exact sub_no a n c l a' n' c' l' w h1 g1 h2 h3 g2 g3 h4 g4 h5 g5 hlt

theorem shl_lt {N : Int} {m k p : Nat} (h : N < B64 ^ m) (hp : m + k / 64 + 1 ≤ p) : N * 2 ^ k < B64 ^ p := by
  have h1 : (2 : Int) ^ k ≤ B64 ^ (k / 64 + 1) := by
    rw [show B64 ^ (k / 64 + 1) = 2 ^ (64 * (k / 64 + 1)) by rw [Int.pow_mul]; rfl]
    exact pow_le_pow (by decide) (by omega)
  have h2 := pow2_pos k
  have h3 : N * 2 ^ k < B64 ^ m * 2 ^ k := Int.mul_lt_mul_of_pos_right h h2
  have h4 : B64 ^ m * 2 ^ k ≤ B64 ^ m * B64 ^ (k / 64 + 1) := Int.mul_le_mul_of_nonneg_left h1 (Int.le_of_lt (pow_pos' B64_pos m))
  rw [← Int.pow_add] at h4
  have h5 := pow_le_pow B64_pos (show m + (k / 64 + 1) ≤ p by omega)
  omega
theorem shr_lt {N : Int} {m k : Nat} (h : N < B64 ^ m) (h0 : 0 ≤ N) : N / 2 ^ k < B64 ^ m := Int.lt_of_le_of_lt (Int.ediv_le_self _ h0) h

theorem shiftUp_num {w : World} {u : Value} {N : Int} {m p : Nat} (k : Nat) (h : Num w u N m) (hk : k ≤ 16777216) (hp : m + k / 64 + 1 ≤ p) (hm : m ≤ 100000) :
    Calls Tryd.prog 59 #[u, .int .i64 k] w fun e w' => RetN w (N * 2 ^ k) p e w' := by
  have hs := shl_lt h.lt hp
  obtain ⟨a, n, c, l, rfl, h1, h2, h3, h4, h5, rfl, h7⟩ := h.open
  exact (shiftUp_any a n c l k w h1 h2 h3 h4 h5 hk (by unfold MaxW; omega)).mono fun e w' hr => hr.retn hs
theorem shiftDown_num {w : World} {u : Value} {N : Int} {m : Nat} (k : Nat) (h : Num w u N m) (hk : k ≤ 16777216) (hm : m ≤ 100000) :
    Calls Tryd.prog 58 #[u, .int .i64 k] w fun e w' => RetN w (N / 2 ^ k) m e w' := by
  have hs := shr_lt (k := k) h.lt h.nonneg
  obtain ⟨a, n, c, l, rfl, h1, h2, h3, h4, h5, rfl, h7⟩ := h.open
  exact (shiftDown_any a n c l k w h1 h2 h3 h4 h5 hk (by unfold MaxW; omega)).mono fun e w' hr => hr.retn hs
theorem shl_num {w : World} {u : Value} {N : Int} {m p : Nat} (k : Nat) (h : Num w u N m) (hk : k ≤ 16777216) (hp : m + k / 64 + 1 ≤ p) (hm : m ≤ 100000) :
    Calls Tryd.prog 11 #[u, .int .i64 k] w fun e w' => RetN w (N * 2 ^ k) p e w' := by
  have hs := shl_lt h.lt hp
  obtain ⟨a, n, c, l, rfl, h1, h2, h3, h4, h5, rfl, h7⟩ := h.open
  exact (shl_up a n c l k w h1 h2 h3 h4 h5 hk (by unfold MaxW; omega)).mono fun e w' hr => hr.retn hs
theorem shr_num {w : World} {u : Value} {N : Int} {m : Nat} (k : Nat) (h : Num w u N m) (hk : k ≤ 16777216) (hm : m ≤ 100000) :
    Calls Tryd.prog 12 #[u, .int .i64 k] w fun e w' => RetN w (N / 2 ^ k) m e w' := by
  have hs := shr_lt (k := k) h.lt h.nonneg
  obtain ⟨a, n, c, l, rfl, h1, h2, h3, h4, h5, rfl, h7⟩ := h.open
  exact (shr_any a n c l k w h1 h2 h3 h4 h5 hk (by unfold MaxW; omega)).mono fun e w' hr => hr.retn hs
theorem bits_num {w : World} {u : Value} {N : Int} {m : Nat} (h : Num w u N m) (hm : m ≤ 100000) :
    Calls Tryd.prog 17 #[u] w fun e w' => e = .returned (.int .i64 (nb N)) ∧ w = w' := by
  obtain ⟨a, n, c, l, rfl, h1, h2, h3, h4, h5, rfl, h7⟩ := h.open
  exact bits_any a n c l w h1 h2 h3 h4 h5 (by unfold MaxW; omega)
theorem nb_zero_iff {N : Int} (h : 0 ≤ N) : (((nb N : Nat) : Int) == 0) = decide (N = 0) := by
  by_cases h0 : N = 0
  · subst h0; rfl
  · have h1 := (nb_spec (show 0 < N by omega)).2.2
    rw [decide_eq_false h0, beq_eq_false_iff_ne]; omega

theorem of_num {w : World} {u : Value} {N : Int} {m : Nat} (h : Num w u N m) (hm : m ≤ 100000) :
    Calls Tryd.prog 54 #[u] w fun e w' => RetN w N m e w' := by
  have hs := h.lt
  obtain ⟨a, n, c, l, rfl, h1, h2, h3, h4, h5, rfl, h7⟩ := h.open
  refine (of_any a n c l w h1 h2 h3 h4 (by unfold MaxW; omega)).mono ?_
  rintro e w' ⟨v, rfl, q1, hb⟩
  obtain ⟨aq, nq, cq, rfl⟩ := q1.slice
  exact ⟨aq, nq, cq, rfl, q1.newn (can_tr h5) (vb_tr _ _) hs, hb⟩
/-- nat.Of of one word. -/
theorem of1_num (x : Int) (t : TypeId) (w : World) (h0 : 0 ≤ x) (h1 : x ≤ 18446744073709551615) :
    Calls Tryd.prog 54 #[.slice (some ⟨w.heap.size, 0, none⟩) 1 1] (w.alloc (.cells #[.int .u64 x] t)) fun e w' => RetN w x 1 e w' := by
  have hl : Lim B64 [x] := Lim.cons h0 (by unfold B64; omega) (Lim.nil _)
  have hn : Num (w.alloc (.cells #[.int .u64 x] t)) (.slice (some ⟨w.heap.size, 0, none⟩) 1 1) x 1 := ⟨[x], ⟨_, 1, rfl, Nat.le_refl _, by decide, at_new w x t, hl⟩, by rw [vb_one], Nat.le_refl _⟩
  refine (of_num hn (by decide)).mono ?_
  rintro e w' ⟨a, n, c, rfl, h, hb⟩
  exact ⟨a, n, c, rfl, h.base (by simp), (below_alloc w _).trans (hb.mono (by simp))⟩

theorem lowBits_num {w : World} {u : Value} {N : Int} {m : Nat} (k : Nat) (h : Num w u N m) (hk : k ≤ 16777216) (_hm : m ≤ 100000) :
    Calls Tryd.prog 61 #[u, .int .i64 k] w fun e w' => RetN w (N % 2 ^ k) m e w' := by
  have hs : N % 2 ^ k < B64 ^ m := Int.lt_of_le_of_lt (by have h1 := Int.mul_ediv_add_emod N (2 ^ k); have h2 := Int.mul_nonneg (Int.le_of_lt (pow2_pos k)) (Int.ediv_nonneg h.nonneg (Int.le_of_lt (pow2_pos k))); omega) h.lt
  obtain ⟨a, n, c, l, rfl, h1, h2, h3, h4, h5, rfl, h7⟩ := h.open
  exact (lowBits_any a n c l k w h1 h2 h3 h4 h5 hk).mono fun e w' hr => hr.retn hs

/-- 'Light' of two lists. -/
theorem light_two (a1 a2 : Option Addr) (n1 n2 c1 c2 : Nat) (t : TypeId) (w : World) (h1 : n1 ≤ 9223372036854775807) (h2 : n2 ≤ 9223372036854775807) :
    Calls Tryd.prog 7 #[.slice (some ⟨w.heap.size, 0, none⟩) 2 2] (w.alloc (.cells #[.slice a1 n1 c1, .slice a2 n2 c2] t)) fun e w' => e = .returned (.bool (decide (n1 ≤ 40) && decide (n2 ≤ 40))) ∧ w' = w.alloc (.cells #[.slice a1 n1 c1, .slice a2 n2 c2] t) := by
  refine (light_any (some ⟨w.heap.size, 0, none⟩) 2 2 [.slice a1 n1 c1, .slice a2 n2 c2] [List.replicate n1 0, List.replicate n2 0] _ rfl rfl (Nat.le_refl _) (by decide) (row_new w [.slice a1 n1 c1, .slice a2 n2 c2] t) ?_ ?_).mono ?_
  · intro j hj
    match j, hj with
    | 0, _ => exact ⟨a1, c1, by simp⟩
    | 1, _ => exact ⟨a2, c2, by simp⟩
  · intro j
    match j with
    | 0 => simpa using h1
    | 1 => simpa using h2
    | j + 2 => simp
  · rintro e w' ⟨rfl, rfl⟩
    refine ⟨?_, rfl⟩
    simp [lightB]
end Go.Proofs.YtbieldebkfkpkaaDoor
