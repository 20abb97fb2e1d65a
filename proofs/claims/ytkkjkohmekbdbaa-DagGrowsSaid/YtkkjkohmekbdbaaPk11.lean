/-
  Text: Contracts of bytes.TrimLeft at the cutset 0, and of nat.Text for numbers below 10^19.
  Alive: The statements' first look ('alive'): its answer is true. And 'Light'.
  Num: Numbers as a caller of package nat holds them: a slice, the number that it reads as, and how many words it has at most. The contracts of package nat in these words.
  Whole1: Contracts of package whole: what its values are, Make, Of, Sign.
  RefNum: Contract of the reference's Add. Numbers of the document's own answers: slices of digits of base 2^32, the number that such a slice reads as, and how many digits it has at most. The contracts of the document's functions in these words.
-/
import Derived.Test.YtkkjkohmekbdbaaPk9
import Derived.Laws.BytesArg
import Derived.Test.YtkkjkohmekbdbaaPk6
import Derived.Test.YtkkjkohmekbdbaaPk2

namespace Go.Proofs.Ytkkjkohmekbdbaa
open Go.RowKit

theorem info_u8 : (Try.prog.info? 5).map (fun i => (i.zero, i.size, i.bytes)) = some (some (.int .u8 0), 1, 1) := by kernel_rfl

/-- make([]byte, n), n a number. -/
theorem wpList_make_bytes {P : Program} (w : World) {ops : Array Oper} {rest : List Oper} {o : Oper} {a : Act} {Q : Exit → Act → World → Prop}
    (hg : o.guard = none) (l c : Operand) (t : TypeId) (hop : o.op = Op.makeSlice t l c)
    (h1 : P.underlying t = some (.slice 5)) (hi : (P.info? 5).map (fun i => (i.zero, i.size, i.bytes)) = some (some (.int .u8 0), 1, 1))
    (L C : Int) (n : Nat) (hl : a.eval l = .int .i64 L) (hc : a.eval c = .int .i64 C) (hL : L = (n : Int)) (hC : C = (n : Int)) (b : n ≤ MaxW)
    (hK : ∀ w', ArrB w' w.heap.size 0 (List.replicate n 0) → Below w.heap.size w w' → w.heap.size < w'.heap.size → wpList P ops Q rest (a.put o.dst (.slice (some ⟨w.heap.size, 0, none⟩) n n)) w') :
    wpList P ops Q (o :: rest) a w := by
  obtain ⟨i, h2, h3, h4, h5⟩ := info_parts hi
  unfold MaxW at b
  refine wpList_make_full w hg l c t hop w.heap.size 5 i (.int .u8 0) 1 h1 h2 h3 h4 .i64 .i64 L C n hl hc hL hC (by rw [h5]; omega) (by unfold maxLen; omega) (Nat.le_refl _) fun w' hown hgr => ?_
  have e : (madeCells (Value.int .u8 0).cells (n * 1)).toList = List.replicate n (.int .u8 0) := by
    rw [Nat.mul_one, show (Value.int .u8 0).cells = #[.int .u8 0] from rfl, toList_madeCells_one]
  rw [e] at hown
  rcases hown.2 with ⟨h, _⟩ | ⟨g, cap, cur, hv, hb, hh, hn, hm, hcs, htk⟩
  · simp at h
  · simp only [Value.slice.injEq, Option.some.injEq, Addr.mk.injEq, and_true] at hv
    obtain ⟨rfl, _⟩ := hv
    refine hK w' ⟨cur, _, hh, fun j hj => ?_⟩ ((Below.refl _ _).grown hgr (Nat.le_refl _) (fun k h => by cases h)) (Array.getElem?_eq_some_iff.1 hh).1
    rw [List.length_replicate] at hj
    have : (cur.toList.take (n * 1))[j]? = (List.replicate n (Value.int .u8 0))[j]? := by rw [htk]
    rw [List.getElem?_take, if_pos (by omega), List.getElem?_replicate, if_pos hj] at this
    rw [Nat.zero_add]
    simpa [List.getD_eq_getElem?_getD, hj] using this

/-- How many zeros (as bytes) a list opens with. -/
def lead : List Int → Nat
  | [] => 0
  | x :: l => if x = 48 then lead l + 1 else 0
theorem lead_le (l : List Int) : lead l ≤ l.length := by
  induction l with
  | nil => exact Nat.le_refl _
  | cons x l ih => simp only [lead, List.length_cons]; split <;> omega
theorem lead_eq {l : List Int} {k : Nat} (hk : k ≤ l.length) (h0 : ∀ j, j < k → l.getD j 0 = 48) (h1 : k = l.length ∨ l.getD k 0 ≠ 48) : lead l = k := by
  induction l generalizing k with
  | nil => simp at hk; simp [lead, hk]
  | cons x l ih =>
    cases k with
    | zero =>
      rcases h1 with h1 | h1
      · simp at h1
      · simp at h1; simp [lead, h1]
    | succ k =>
      have hx : x = 48 := by have := h0 0 (by omega); simpa using this
      have := ih (k := k) (by simpa using hk) (fun j hj => by have := h0 (j + 1) (by omega); rwa [List.getD_cons_succ] at this) (by
        rcases h1 with h1 | h1
        · left; simpa using h1
        · right; rwa [List.getD_cons_succ] at h1)
      simp [lead, hx, this]

/-- What is left of a row of bytes when the zeros at its head are cut off: none, or a slice further on in the row. -/
def RetTL (g off n cap : Nat) (l : List Int) (w : World) (e : Ending) (w' : World) : Prop :=
  w = w' ∧ ((lead l = n ∧ e = .returned (.slice none 0 0)) ∨ (lead l < n ∧ e = .returned (.slice (some ⟨g, off + lead l, none⟩) (n - lead l) (cap - lead l))))

def RetWD (g off n : Nat) (N : Int) (w : World) (e : Ending) (w' : World) : Prop := e = .returned (.tuple #[]) ∧ ArrB w' g off (dg n N) ∧ Only g off (off + n) w w'

/-- The digits of a number of at most n of them, without zeros ahead; one zero for 0. -/
def txt (n : Nat) (N : Int) : List Int := if lead (dg n N) = n then [48] else (dg n N).drop (lead (dg n N))

end Go.Proofs.Ytkkjkohmekbdbaa

namespace Go.Proofs.Ytkkjkohmekbdbaa
open Go.RowKit

theorem tr_one {x : Int} (h : x ≠ 0) : tr [x] = [x] := by simp [tr, tlen, h]

/-- Of one word that is not 0, at a new block. -/
def RetOne (w : World) (x : Int) (e : Ending) (w' : World) : Prop := ∃ g cap, e = .returned (.slice (some ⟨g, 0, none⟩) 1 cap) ∧ 1 ≤ cap ∧ cap ≤ 9223372036854775807 ∧ At w' g 0 [x] ∧ Below w.heap.size w w' ∧ g < w'.heap.size
theorem row_new (w : World) (vs : List Value) (t : TypeId) : RdRow (w.alloc (.cells vs.toArray t)) (some ⟨w.heap.size, 0, none⟩) vs := by
  refine Or.inr ⟨w.heap.size, 0, rfl, fun j v hv => ?_⟩
  rw [Nat.zero_add, World.cell?_alloc_new, List.getElem?_toArray]
  exact hv

theorem below_alloc (w : World) (o : Obj) : Below w.heap.size w (w.alloc o) := (Below.refl _ _).alloc (Nat.le_refl _) o

/-! ### Light -/

/-- Are all lists short? -/
def lightB (ls : List (List Int)) : Bool := ls.all fun l => decide (l.length ≤ 40)

theorem light_step {ls : List (List Int)} {k : Nat} (hk : k < ls.length) : lightB (ls.take (k + 1)) = (lightB (ls.take k) && decide ((ls.getD k []).length ≤ 40)) := by
  unfold lightB
  rw [List.take_succ_eq_append_getElem hk, List.all_append, List.getD_eq_getElem?_getD, List.getElem?_eq_getElem hk]
  simp
theorem light_no {ls : List (List Int)} {k : Nat} (hk : k < ls.length) (h : ¬ (ls.getD k []).length ≤ 40) : lightB ls = false := by
  unfold lightB
  rw [List.all_eq_false]
  refine ⟨ls.getD k [], ?_, by simpa using h⟩
  rw [List.getD_eq_getElem?_getD, List.getElem?_eq_getElem hk]
  exact List.getElem_mem hk
theorem light_len {ls : List (List Int)} (h : lightB ls = true) (k : Nat) : (ls.getD k []).length ≤ 40 := by
  by_cases hk : k < ls.length
  · unfold lightB at h
    rw [List.all_eq_true] at h
    rw [List.getD_eq_getElem?_getD, List.getElem?_eq_getElem hk]
    simpa using h _ (List.getElem_mem hk)
  · rw [List.getD_eq_getElem?_getD, List.getElem?_eq_none (by omega)]; simp

end Go.Proofs.Ytkkjkohmekbdbaa

namespace Go.Proofs.Ytkkjkohmekbdbaa
open Go.RowKit

/-- A slice reads as a number of at most m words. -/
def Num (w : World) (v : Value) (N : Int) (m : Nat) : Prop := ∃ l, RdV w v l ∧ vb B64 l = N ∧ l.length ≤ m
/-- A row of the call's own that holds a number, without zeros at its end. -/
def NewN (base : Nat) (w : World) (v : Value) (N : Int) (m : Nat) : Prop := ∃ l, Ow base w v l ∧ Can B64 l ∧ vb B64 l = N ∧ l.length ≤ m
/-- A function has returned such a row, and turned nothing that was there. -/
def RetN (w : World) (N : Int) (m : Nat) (e : Ending) (w' : World) : Prop := ∃ a n c, e = .returned (.slice a n c) ∧ NewN w.heap.size w' (.slice a n c) N m ∧ Below w.heap.size w w'

theorem Num.below {w w' : World} {v : Value} {N : Int} {m : Nat} (h : Num w v N m) (hb : Below w.heap.size w w') : Num w' v N m := by
  obtain ⟨l, h1, h2, h3⟩ := h
  exact ⟨l, h1.below hb, h2, h3⟩
theorem Num.mono {w : World} {v : Value} {N : Int} {m k : Nat} (h : Num w v N m) (hk : m ≤ k) : Num w v N k := by
  obtain ⟨l, h1, h2, h3⟩ := h
  exact ⟨l, h1, h2, by omega⟩
theorem Num.nonneg {w : World} {v : Value} {N : Int} {m : Nat} (h : Num w v N m) : 0 ≤ N := by
  obtain ⟨l, h1, rfl, h3⟩ := h
  exact vb_nonneg B64_pos h1.lim
theorem Num.lt {w : World} {v : Value} {N : Int} {m : Nat} (h : Num w v N m) : N < B64 ^ m := by
  obtain ⟨l, h1, rfl, h3⟩ := h
  exact Int.lt_of_lt_of_le (vb_lt B64_pos h1.lim) (pow_le_pow B64_pos h3)
theorem Num.open {w : World} {v : Value} {N : Int} {m : Nat} (h : Num w v N m) : ∃ a n c l, v = .slice a n c ∧ n = l.length ∧ n ≤ c ∧ c ≤ 9223372036854775807 ∧ Rd w a l ∧ Lim B64 l ∧ vb B64 l = N ∧ n ≤ m := by
  obtain ⟨l, ⟨a, c, rfl, h1, h2, h3, h4⟩, h5, h6⟩ := h
  exact ⟨a, _, c, l, rfl, rfl, h1, h2, h3, h4, h5, h6⟩
theorem NewN.num {base : Nat} {w : World} {v : Value} {N : Int} {m : Nat} (h : NewN base w v N m) : Num w v N m := by
  obtain ⟨l, h1, h2, h3, h4⟩ := h
  exact ⟨l, h1.rdv h2.lim, h3, h4⟩
theorem NewN.below {base : Nat} {w w' : World} {v : Value} {N : Int} {m : Nat} (h : NewN base w v N m) (hb : Below w.heap.size w w') : NewN base w' v N m := by
  obtain ⟨l, h1, h2⟩ := h
  exact ⟨l, h1.below hb, h2⟩
theorem NewN.base {base base' : Nat} {w : World} {v : Value} {N : Int} {m : Nat} (h : NewN base w v N m) (hb : base' ≤ base) : NewN base' w v N m := by
  obtain ⟨l, h1, h2⟩ := h
  exact ⟨l, h1.mono hb, h2⟩
theorem NewN.eq {base : Nat} {w : World} {v : Value} {N N' : Int} {m : Nat} (h : NewN base w v N m) (e : N = N') : NewN base w v N' m := e ▸ h
theorem Num.eq {w : World} {v : Value} {N N' : Int} {m : Nat} (h : Num w v N m) (e : N = N') : Num w v N' m := e ▸ h
theorem NewN.lt {base : Nat} {w : World} {v : Value} {N : Int} {m : Nat} (h : NewN base w v N m) : ∀ k, v.ownBlock = some k → base ≤ k ∧ k < w.heap.size := by
  obtain ⟨l, h1, h2⟩ := h
  exact fun k hk => World.ownsRow.lt h1 k hk
theorem NewN.only {base : Nat} {w w' : World} {v : Value} {N : Int} {m b lo hi : Nat} (h : NewN base w v N m) (ho : Only b lo hi w w') (hb : b < base) : NewN base w' v N m := by
  have hlt := h.lt
  obtain ⟨l, h1, h2⟩ := h
  exact ⟨l, h1.only' ho (by intro e; have := (hlt b e).1; omega), h2⟩
/-- No word is left of 0 alone. -/
theorem NewN.len {base : Nat} {w : World} {a : Option Addr} {n c : Nat} {N : Int} {m : Nat} (h : NewN base w (.slice a n c) N m) : (n = 0 ↔ N = 0) ∧ n ≤ m := by
  obtain ⟨l, h1, h2, h3, h4⟩ := h
  obtain ⟨a', c', he, _⟩ := h1.form
  simp only [Value.slice.injEq] at he
  obtain ⟨_, rfl, _⟩ := he
  refine ⟨⟨fun h0 => ?_, fun h0 => ?_⟩, h4⟩
  · rw [← h3, List.eq_nil_of_length_eq_zero h0]; rfl
  · rw [h2.eq_nil B64_pos (by rw [h3]; exact h0)]; rfl

theorem Ow.newn {base : Nat} {w : World} {v : Value} {l : List Int} {N : Int} {m : Nat} (h : Ow base w v l) (hc : Can B64 l) (hv : vb B64 l = N) (hm : N < B64 ^ m) : NewN base w v N m := ⟨l, h, hc, hv, room_of B64_pos hc (by rw [hv]; exact hm)⟩
theorem Ow.slice {base : Nat} {w : World} {v : Value} {l : List Int} (h : Ow base w v l) : ∃ a n c, v = .slice a n c := by
  obtain ⟨a, c, rfl, _⟩ := h.form
  exact ⟨a, _, c, rfl⟩
theorem RetNum.retn {w : World} {N : Int} {m : Nat} {e : Ending} {w' : World} (h : RetNum w N e w') (hm : N < B64 ^ m) : RetN w N m e w' := by
  obtain ⟨v, l, rfl, h1, h2, h3, h4⟩ := h
  obtain ⟨a, n, c, rfl⟩ := h1.slice
  exact ⟨a, n, c, rfl, h1.newn h2 h3 hm, h4⟩

theorem two_pow_le {A B : Int} {m k p : Nat} (h : A < B64 ^ m) (g : B < B64 ^ k) (hm : m < p) (hk : k < p) : A + B < B64 ^ p := by
  have e : B64 ^ p = B64 ^ (p - 1) * 18446744073709551616 := by rw [show p = p - 1 + 1 by omega, Int.pow_succ, Nat.add_sub_cancel]; rfl
  have h1 := pow_le_pow B64_pos (show m ≤ p - 1 by omega)
  have h2 := pow_le_pow B64_pos (show k ≤ p - 1 by omega)
  have h3 := pow_pos' B64_pos (p - 1)
  omega

/-- A function has returned two such rows, that lie apart. -/
def RetN2 (w : World) (N M : Int) (m k : Nat) (e : Ending) (w' : World) : Prop :=
  ∃ a n c a' n' c', e = .returned (.tuple #[.slice a n c, .slice a' n' c']) ∧ NewN w.heap.size w' (.slice a n c) N m ∧ NewN w.heap.size w' (.slice a' n' c') M k ∧ Below w.heap.size w w'
/-- What nat.Sub returns where it can. -/
def RetSN (w : World) (N : Int) (m : Nat) (e : Ending) (w' : World) : Prop := ∃ a n c, e = .returned (.tuple #[.slice a n c, .bool true]) ∧ NewN w.heap.size w' (.slice a n c) N m ∧ Below w.heap.size w w'
theorem shl_lt {N : Int} {m k p : Nat} (h : N < B64 ^ m) (hp : m + k / 64 + 1 ≤ p) : N * 2 ^ k < B64 ^ p := by
  have h1 : (2 : Int) ^ k ≤ B64 ^ (k / 64 + 1) := by
    rw [show B64 ^ (k / 64 + 1) = 2 ^ (64 * (k / 64 + 1)) by rw [Int.pow_mul]; rfl]
    exact pow_le_pow (by decide) (by omega)
  have h2 := pow2_pos k
  have h3 : N * 2 ^ k < B64 ^ m * 2 ^ k := Int.mul_lt_mul_of_pos_right h h2
  have h4 : B64 ^ m * 2 ^ k ≤ B64 ^ m * B64 ^ (k / 64 + 1) := Int.mul_le_mul_of_nonneg_left h1 (Int.le_of_lt (pow_pos' B64_pos m))
  rw [← Int.pow_add] at h4
  have h5 := pow_le_pow B64_pos (show m + (k / 64 + 1) ≤ p by omega)
  omega
theorem shr_lt {N : Int} {m k : Nat} (h : N < B64 ^ m) (h0 : 0 ≤ N) : N / 2 ^ k < B64 ^ m := Int.lt_of_le_of_lt (Int.ediv_le_self _ h0) h

theorem nb_zero_iff {N : Int} (h : 0 ≤ N) : (((nb N : Nat) : Int) == 0) = decide (N = 0) := by
  by_cases h0 : N = 0
  · subst h0; rfl
  · have h1 := (nb_spec (show 0 < N by omega)).2.2
    rw [decide_eq_false h0, beq_eq_false_iff_ne]; omega

end Go.Proofs.Ytkkjkohmekbdbaa

namespace Go.Proofs.Ytkkjkohmekbdbaa
open Go.RowKit

/-- An amount with a sign. -/
def sg (neg : Bool) (N : Int) : Int := if neg = true then -N else N
theorem sg_true (N : Int) : sg true N = -N := rfl
theorem sg_false (N : Int) : sg false N = N := rfl
theorem sg_not (neg : Bool) (N : Int) : sg (!neg) N = -sg neg N := by cases neg <;> simp [sg]

/-- A function has returned an integer in a row of the call's own, in its one form. -/
def RetW (w : World) (Z : Int) (m : Nat) (e : Ending) (w' : World) : Prop :=
  ∃ neg a n c N, e = .returned (.agg #[.bool neg, .slice a n c]) ∧ NewN w.heap.size w' (.slice a n c) N m ∧ Z = sg neg N ∧ (neg = true → N ≠ 0) ∧ Below w.heap.size w w'
def RetSg (neg : Bool) (a : Option Addr) (n c : Nat) (N : Int) (w : World) (e : Ending) (w' : World) : Prop :=
  ∃ neg', e = .returned (.agg #[.bool neg', .slice a n c]) ∧ sg neg' N = sg neg N ∧ (neg' = true → N ≠ 0) ∧ Below w.heap.size w w'

/-- The cells of a variable of two fields. -/
theorem slot2 {w : World} {g : Nat} {x y : Value} {t : TypeId} (h : w.heap[g]? = some (.cells #[x, y] t (0, 0))) :
    w.cell? ⟨g, 0, none⟩ = some x ∧ w.cell? ⟨g, 1, none⟩ = some y ∧ w.frozen? ⟨g, 0, none⟩ = false ∧ w.frozen? ⟨g, 1, none⟩ = false :=
  ⟨cell_of_row w g 0 _ t _ h, cell_of_row w g 1 _ t _ h, frozen_of_row w g 0 _ t h, frozen_of_row w g 1 _ t h⟩
theorem slot_kept {w1 w2 : World} {g : Nat} {o : Obj} (h : w1.heap[g]? = some o) (hb : Below w1.heap.size w1 w2) : w2.heap[g]? = some o := by
  rw [hb.block _ (Array.getElem?_eq_some_iff.1 h).1]; exact h
theorem slot_set {w : World} {g : Nat} {x y u v : Value} {t : TypeId} (h : w.heap[g]? = some (.cells #[x, y] t (0, 0))) :
    ((w.setCell ⟨g, 0, none⟩ u).setCell ⟨g, 1, none⟩ v).heap[g]? = some (.cells #[u, v] t (0, 0)) := by
  have h1 := heap_setCell_same w g 0 _ t u h
  have h2 := heap_setCell_same (w.setCell ⟨g, 0, none⟩ u) g 1 _ t v h1
  rw [h2]; rfl
theorem slot_only {w : World} {g : Nat} (u v : Value) : Only g 0 2 w ((w.setCell ⟨g, 0, none⟩ u).setCell ⟨g, 1, none⟩ v) :=
  (Only.store 0 u (Nat.le_refl _) (by decide)).trans (Only.store 1 v (by decide) (by decide))
/-- What is known when a result that lies in a variable of its own has been stored. -/
theorem slot_end {w w2 : World} {x y : Value} {t : TypeId} {base : Nat} {neg' : Bool} {a : Option Addr} {n c : Nat} {N Z : Int} {m : Nat} {g : Nat} (hblk : w2.heap[g]? = some (.cells #[x, y] t (0, 0))) (hbw : Below w.heap.size w w2) (hg : w.heap.size ≤ g)
    (h : NewN base w2 (.slice a n c) N m) (hbase : g < base) (hs : sg neg' N = Z) (hz : neg' = true → N ≠ 0) :
    ((w2.setCell ⟨g, 0, none⟩ (.bool neg')).setCell ⟨g, 1, none⟩ (.slice a n c)).heap[g]? = some (.cells #[.bool neg', .slice a n c] t (0, 0)) ∧
    RetW w Z m (.returned (.agg #[.bool neg', .slice a n c])) ((w2.setCell ⟨g, 0, none⟩ (.bool neg')).setCell ⟨g, 1, none⟩ (.slice a n c)) := by
  have hon := slot_only (w := w2) (g := g) (.bool neg') (.slice a n c)
  exact ⟨slot_set hblk, neg', a, n, c, N, rfl, (h.only hon hbase).base (Nat.le_trans hg (Nat.le_of_lt hbase)), hs.symm, hz, hbw.trans (hon.below hg hbw.size)⟩

end Go.Proofs.Ytkkjkohmekbdbaa

namespace Go.Proofs.Ytkkjkohmekbdbaa
open Go.RowKit


theorem radd_step {out a b : List Int} {i : Nat} {c x y s : Int} (hs : s = c + x + y) (hl : out.length = i) (h : vb B32 out + B32 ^ i * c = vb B32 (a.take i) + vb B32 (b.take i))
    (ha : vb B32 (a.take (i + 1)) = vb B32 (a.take i) + B32 ^ i * x) (hb : vb B32 (b.take (i + 1)) = vb B32 (b.take i) + B32 ^ i * y) :
    vb B32 (out ++ [s % 4294967296]) + B32 ^ (i + 1) * (s / 4294967296) = vb B32 (a.take (i + 1)) + vb B32 (b.take (i + 1)) := by
  subst hs
  rw [vb_snoc, hl, ha, hb, Int.pow_succ, Int.mul_assoc, Int.add_assoc, ← Int.mul_add]
  have e : (c + x + y) % 4294967296 + B32 * ((c + x + y) / 4294967296) = c + (x + y) := by unfold B32; omega
  rw [e, Int.mul_add, Int.mul_add]
  omega
theorem take_beyond {a : List Int} {i : Nat} (h : a.length ≤ i) : vb B32 (a.take (i + 1)) = vb B32 (a.take i) + B32 ^ i * 0 := by
  rw [List.take_of_length_le (by omega), List.take_of_length_le h]; simp

/-- A slice reads as a number of at most m digits of base 2^32, without zeros at its end. -/
def RN (w : World) (v : Value) (N : Int) (m : Nat) : Prop := ∃ l a c, v = .slice a l.length c ∧ l.length ≤ c ∧ c ≤ 9223372036854775807 ∧ Rd w a l ∧ Can B32 l ∧ vb B32 l = N ∧ l.length ≤ m
/-- A function has returned such a number, and turned nothing that was there. -/
def RetR (w : World) (N : Int) (m : Nat) (e : Ending) (w' : World) : Prop := ∃ a n c, e = .returned (.slice a n c) ∧ RN w' (.slice a n c) N m ∧ Below w.heap.size w w'
/-- Two of them. -/
def RetR2 (w : World) (N M : Int) (m k : Nat) (e : Ending) (w' : World) : Prop := ∃ a n c a' n' c', e = .returned (.tuple #[.slice a n c, .slice a' n' c']) ∧ RN w' (.slice a n c) N m ∧ RN w' (.slice a' n' c') M k ∧ Below w.heap.size w w'

theorem RN.below {w w' : World} {v : Value} {N : Int} {m : Nat} (h : RN w v N m) (hb : Below w.heap.size w w') : RN w' v N m := by
  obtain ⟨l, a, c, h1, h2, h3, h4, h5⟩ := h
  exact ⟨l, a, c, h1, h2, h3, h4.below hb, h5⟩
theorem RN.open {w : World} {v : Value} {N : Int} {m : Nat} (h : RN w v N m) : ∃ a n c l, v = .slice a n c ∧ n = l.length ∧ n ≤ c ∧ c ≤ 9223372036854775807 ∧ Rd w a l ∧ Can B32 l ∧ vb B32 l = N ∧ n ≤ m := by
  obtain ⟨l, a, c, rfl, h2, h3, h4, h5, h6, h7⟩ := h
  exact ⟨a, _, c, l, rfl, rfl, h2, h3, h4, h5, h6, h7⟩
theorem RN.mono {w : World} {v : Value} {N : Int} {m k : Nat} (h : RN w v N m) (hk : m ≤ k) : RN w v N k := by
  obtain ⟨l, a, c, h1, h2, h3, h4, h5, h6, h7⟩ := h
  exact ⟨l, a, c, h1, h2, h3, h4, h5, h6, by omega⟩
theorem RN.eq {w : World} {v : Value} {N N' : Int} {m : Nat} (h : RN w v N m) (e : N = N') : RN w v N' m := e ▸ h
theorem RN.nonneg {w : World} {v : Value} {N : Int} {m : Nat} (h : RN w v N m) : 0 ≤ N := by
  obtain ⟨l, a, c, h1, h2, h3, h4, h5, rfl, h7⟩ := h
  exact vb_nonneg B32_pos h5.lim
theorem RN.lt {w : World} {v : Value} {N : Int} {m : Nat} (h : RN w v N m) : N < B32 ^ m := by
  obtain ⟨l, a, c, h1, h2, h3, h4, h5, rfl, h7⟩ := h
  exact Int.lt_of_lt_of_le (vb_lt B32_pos h5.lim) (pow_le_pow B32_pos h7)
theorem RN.tight {w : World} {v : Value} {N : Int} {m k : Nat} (h : RN w v N m) (hk : N < B32 ^ k) : RN w v N k := by
  obtain ⟨l, a, c, h1, h2, h3, h4, h5, rfl, h7⟩ := h
  exact ⟨l, a, c, h1, h2, h3, h4, h5, rfl, room_of B32_pos h5 hk⟩
theorem RN.nil (w : World) (m : Nat) : RN w (.slice none 0 0) 0 m := ⟨[], none, 0, rfl, Nat.le_refl _, by decide, Rd.nil _ _, Can.nil _, rfl, Nat.zero_le _⟩
/-- No digit is left of 0 alone. -/
theorem RN.len {w : World} {a : Option Addr} {n c : Nat} {N : Int} {m : Nat} (h : RN w (.slice a n c) N m) : (n = 0 ↔ N = 0) ∧ n ≤ m := by
  obtain ⟨l, a', c', he, h2, h3, h4, h5, h6, h7⟩ := h
  simp only [Value.slice.injEq] at he
  obtain ⟨_, rfl, _⟩ := he
  refine ⟨⟨fun h0 => ?_, fun h0 => ?_⟩, h7⟩
  · rw [← h6, List.eq_nil_of_length_eq_zero h0]; rfl
  · rw [h5.eq_nil B32_pos (by rw [h6]; exact h0)]; rfl
theorem RetRd.retr {w : World} {N : Int} {m : Nat} {e : Ending} {w' : World} (h : RetRd B32 w N e w') (hm : N < B32 ^ m) : RetR w N m e w' := by
  obtain ⟨a, n, c, l, rfl, rfl, h2, h3, h4, h5, h6, h7, _⟩ := h
  exact ⟨a, _, c, rfl, ⟨l, a, c, rfl, h2, h3, h4, h5, h6, room_of B32_pos h5 (by rw [h6]; exact hm)⟩, h7⟩

theorem pow32_le {m k : Nat} (h : m ≤ k) : B32 ^ m ≤ B32 ^ k := pow_le_pow B32_pos h
theorem B64_B32 (m : Nat) : (B64 : Int) ^ m = B32 ^ (2 * m) := by rw [Int.pow_mul]; rfl

theorem two_pow_le32 {A B : Int} {m k p : Nat} (h : A < B32 ^ m) (g : B < B32 ^ k) (hm : m < p) (hk : k < p) : A + B < B32 ^ p := by
  have e : B32 ^ p = B32 ^ (p - 1) * 4294967296 := by rw [show p = p - 1 + 1 by omega, Int.pow_succ, Nat.add_sub_cancel]; rfl
  have h1 := pow_le_pow B32_pos (show m ≤ p - 1 by omega)
  have h2 := pow_le_pow B32_pos (show k ≤ p - 1 by omega)
  have h3 := pow_pos' B32_pos (p - 1)
  omega
theorem mul_lt32 {A B : Int} {m k p : Nat} (h0 : 0 ≤ A) (h : A < B32 ^ m) (g : B < B32 ^ k) (hp : m + k ≤ p) : A * B < B32 ^ p := by
  have h1 := pow_pos' B32_pos m
  have h2 := pow_pos' B32_pos k
  have h3 : A * B ≤ A * B32 ^ k := Int.mul_le_mul_of_nonneg_left (by omega) h0
  have h4 : A * B32 ^ k < B32 ^ m * B32 ^ k := Int.mul_lt_mul_of_pos_right h h2
  rw [← Int.pow_add] at h4
  have := pow32_le hp
  omega
theorem shl_lt32 {N : Int} {m k p : Nat} (h : N < B32 ^ m) (hp : m + k / 32 + 1 ≤ p) : N * 2 ^ k < B32 ^ p := by
  have h1 : (2 : Int) ^ k ≤ B32 ^ (k / 32 + 1) := by
    rw [show B32 ^ (k / 32 + 1) = 2 ^ (32 * (k / 32 + 1)) by rw [Int.pow_mul]; rfl]
    exact pow_le_pow (by decide) (by omega)
  have h2 := pow2_pos k
  have h3 : N * 2 ^ k < B32 ^ m * 2 ^ k := Int.mul_lt_mul_of_pos_right h h2
  have h4 : B32 ^ m * 2 ^ k ≤ B32 ^ m * B32 ^ (k / 32 + 1) := Int.mul_le_mul_of_nonneg_left h1 (Int.le_of_lt (pow_pos' B32_pos m))
  rw [← Int.pow_add] at h4
  have h5 := pow_le_pow B32_pos (show m + (k / 32 + 1) ≤ p by omega)
  omega
end Go.Proofs.Ytkkjkohmekbdbaa
