/-
  Mem: Memory that holds lists of 64-bit words: what a slice reads as, what a row of the call's own holds, and what a function that writes into a row leaves as it was. No function of the program is spoken of here.
-/
import Derived.Test.YtkkjkohmekbdbaaPk2
import Derived.WalkKit
import Derived.WalkSpells
import Derived.WalkLawsBesides
import Derived.Lib.Hide

namespace Go.Proofs.Ytkkjkohmekbdbaa
open Go.RowKit

/-- The words as values. -/
def vals (l : List Int) : List Value := l.map (Value.int .u64)
theorem length_vals (l : List Int) : (vals l).length = l.length := by simp [vals]
theorem vals_get (l : List Int) (j : Nat) (h : j < l.length) : (vals l)[j]? = some (.int .u64 (l.getD j 0)) := by
  simp [vals, List.getD_eq_getElem?_getD, h]
theorem vals_take (l : List Int) (k : Nat) : (vals l).take k = vals (l.take k) := by simp [vals]
theorem vals_set (l : List Int) (k : Nat) (x : Int) : (vals l).set k (.int .u64 x) = vals (l.set k x) := by simp [vals, List.map_set]
theorem vals_append (l m : List Int) : vals l ++ vals m = vals (l ++ m) := by simp [vals]
theorem vals_inj {l m : List Int} (h : vals l = vals m) : l = m := by
  refine List.map_inj_right (f := Value.int .u64) ?_ |>.1 h
  intro a b h
  simpa using h
theorem oneCell_vals (l : List Int) : ∀ u ∈ vals l, u.oneCell' = true := ints_oneCell _ _

/-- Words lie at an address. -/
def At (w : World) (b off : Nat) (l : List Int) : Prop := ∀ j, j < l.length → w.cell? ⟨b, off + j, none⟩ = some (.int .u64 (l.getD j 0))

/-- What a slice reads as: its address (whatever it is where there is no word), its words. -/
def Rd (w : World) (ao : Option Addr) (l : List Int) : Prop := l = [] ∨ ∃ b off, ao = some ⟨b, off, none⟩ ∧ At w b off l

theorem At.get {w : World} {b off : Nat} {l : List Int} (h : At w b off l) {j : Nat} (hj : j < l.length) : w.cell? ⟨b, off + j, none⟩ = some (.int .u64 (l.getD j 0)) := h j hj
theorem At.lt {w : World} {b off : Nat} {l : List Int} (h : At w b off l) (hl : l ≠ []) : b < w.heap.size := by
  have := h 0 (List.length_pos_iff.2 hl)
  exact World.block_lt_of_cell? (a := ⟨b, off + 0, none⟩) _ this
theorem At.take {w : World} {b off : Nat} {l : List Int} (h : At w b off l) (k : Nat) : At w b off (l.take k) := by
  intro j hj
  rw [List.length_take] at hj
  rw [getD_take (by omega)]
  exact h j (by omega)
theorem At.drop {w : World} {b off : Nat} {l : List Int} (h : At w b off l) (k : Nat) : At w b (off + k) (l.drop k) := by
  intro j hj
  rw [List.length_drop] at hj
  rw [getD_drop, Nat.add_assoc]
  exact h _ (by omega)
theorem At.below {w w' : World} {b off : Nat} {l : List Int} (h : At w b off l) (hb : Below w.heap.size w w') : At w' b off l := by
  intro j hj
  have hl : l ≠ [] := by intro e; subst e; simp at hj
  rw [hb.cell (p := ⟨b, off + j, none⟩) (h.lt hl)]
  exact h j hj
theorem At.belowB {B : Nat} {w w' : World} {b off : Nat} {l : List Int} (h : At w b off l) (hb : Below B w w') (hlt : b < B) : At w' b off l := by
  intro j hj
  rw [hb.cell (p := ⟨b, off + j, none⟩) hlt]
  exact h j hj

theorem Rd.nil (w : World) (ao : Option Addr) : Rd w ao [] := Or.inl rfl
theorem Rd.at' {w : World} {b off : Nat} {l : List Int} (h : Rd w (some ⟨b, off, none⟩) l) : At w b off l := by
  rcases h with rfl | ⟨b', off', e, h⟩
  · intro j hj; simp at hj
  · cases e; exact h
theorem Rd.take {w : World} {ao : Option Addr} {l : List Int} (h : Rd w ao l) (k : Nat) : Rd w ao (l.take k) := by
  rcases h with rfl | ⟨b, off, e, h⟩
  · simp [Rd]
  · exact Or.inr ⟨b, off, e, h.take k⟩
theorem Rd.below {w w' : World} {ao : Option Addr} {l : List Int} (h : Rd w ao l) (hb : Below w.heap.size w w') : Rd w' ao l := by
  rcases h with rfl | ⟨b, off, e, h⟩
  · exact Rd.nil _ _
  · exact Or.inr ⟨b, off, e, h.below hb⟩
theorem Rd.of_at {w : World} {b off : Nat} {l : List Int} (h : At w b off l) : Rd w (some ⟨b, off, none⟩) l := Or.inr ⟨b, off, rfl, h⟩
/-- Where there is a word there is an address. -/
theorem Rd.cases {w : World} {ao : Option Addr} {l : List Int} (h : Rd w ao l) (hl : l ≠ []) : ∃ b off, ao = some ⟨b, off, none⟩ ∧ At w b off l := h.resolve_left hl

/-- A row of the call's own, from block base on: a slice value whose words are l. -/
def Ow (base : Nat) (w : World) (v : Value) (l : List Int) : Prop := w.ownsRow base 57 1 v l.length (vals l)

theorem Ow.form {base : Nat} {w : World} {v : Value} {l : List Int} (h : Ow base w v l) : ∃ ao cap, v = .slice ao l.length cap ∧ l.length ≤ cap ∧ cap ≤ 9223372036854775807 ∧ Rd w ao l := by
  obtain ⟨h1, h2⟩ := h
  rcases h2 with ⟨rfl, h0⟩ | ⟨g, cap, cur, rfl, hg, hh, hn, hm, hc, ht⟩
  · obtain rfl : l = [] := List.eq_nil_of_length_eq_zero h0
    exact ⟨none, 0, rfl, Nat.le_refl _, by omega, Rd.nil _ _⟩
  · refine ⟨_, cap, rfl, hn, by simpa [maxLen] using hm, Rd.of_at ?_⟩
    intro j hj
    rw [cell_of_row w g _ cur _ _ hh]
    have : (cur.toList.take (l.length * 1))[j]? = (vals l)[j]? := by rw [ht]
    rw [vals_get l j hj, List.getElem?_take, if_pos (by omega)] at this
    simpa using this

theorem Ow.form' {base : Nat} {w : World} {v : Value} {l : List Int} (h : Ow base w v l) : ∃ ao cap, v = .slice ao l.length cap ∧ l.length ≤ cap ∧ cap ≤ 9223372036854775807 ∧ Rd w ao l ∧ ∀ g o, ao = some ⟨g, o, none⟩ → base ≤ g := by
  obtain ⟨ao, cap, rfl, h1, h2, h3⟩ := h.form
  refine ⟨ao, cap, rfl, h1, h2, h3, fun g o e => ?_⟩
  rcases h.2 with ⟨hv, _⟩ | ⟨g', cap', cur, hv, hg, _⟩
  · simp only [Value.slice.injEq] at hv
    rw [hv.1] at e; cases e
  · simp only [Value.slice.injEq] at hv
    rw [hv.1] at e; cases e; exact hg

/-- Words in a row that may be written: the block, and where in it they lie. -/
def Arr (w : World) (b off : Nat) (l : List Int) : Prop := ∃ (cur : Array Value) (e : TypeId), w.heap[b]? = some (.cells cur e (0, 0)) ∧ ∀ j, j < l.length → cur[off + j]? = some (.int .u64 (l.getD j 0))

theorem Arr.at' {w : World} {b off : Nat} {l : List Int} (h : Arr w b off l) : At w b off l := by
  obtain ⟨cur, e, hh, h⟩ := h
  intro j hj
  rw [cell_of_row w b _ cur e _ hh]
  exact h j hj
theorem Arr.frozen {w : World} {b off : Nat} {l : List Int} (h : Arr w b off l) (j : Nat) : w.frozen? ⟨b, j, none⟩ = false := by
  obtain ⟨cur, e, hh, h⟩ := h
  exact frozen_of_row w b j cur e hh
theorem Arr.lt {w : World} {b off : Nat} {l : List Int} (h : Arr w b off l) : b < w.heap.size := by
  obtain ⟨cur, e, hh, h⟩ := h
  exact (Array.getElem?_eq_some_iff.1 hh).1
theorem Arr.sub {w : World} {b off : Nat} {l : List Int} (h : Arr w b off l) (k n : Nat) : Arr w b (off + k) ((l.drop k).take n) := by
  obtain ⟨cur, e, hh, h⟩ := h
  refine ⟨cur, e, hh, fun j hj => ?_⟩
  rw [List.length_take, List.length_drop] at hj
  rw [getD_take (by omega), getD_drop, Nat.add_assoc]
  exact h _ (by omega)
theorem Arr.drop {w : World} {b off : Nat} {l : List Int} (h : Arr w b off l) (k : Nat) : Arr w b (off + k) (l.drop k) := by
  have := h.sub k (l.drop k).length
  rwa [List.take_length] at this
theorem Arr.take {w : World} {b off : Nat} {l : List Int} (h : Arr w b off l) (k : Nat) : Arr w b off (l.take k) := h.sub 0 k

/-- Nothing of what was there has turned but words of block b from place lo to before place hi; there may be new blocks. -/
structure Only (b lo hi : Nat) (w w' : World) : Prop where
  os : w'.os = w.os
  tape : w'.tape = w.tape
  output : w'.output = w.output
  size : w.heap.size ≤ w'.heap.size
  block : ∀ k, k < w.heap.size → k ≠ b → w'.heap[k]? = w.heap[k]?
  row : ∀ cur e, w.heap[b]? = some (.cells cur e (0, 0)) → ∃ cur', w'.heap[b]? = some (.cells cur' e (0, 0)) ∧ cur'.size = cur.size ∧ ∀ j, j < lo ∨ hi ≤ j → cur'[j]? = cur[j]?

theorem Only.refl (b lo hi : Nat) (w : World) : Only b lo hi w w := ⟨rfl, rfl, rfl, Nat.le_refl _, fun _ _ _ => rfl, fun cur _ h => ⟨cur, h, rfl, fun _ _ => rfl⟩⟩
theorem Only.trans {b lo hi : Nat} {u v w : World} (h : Only b lo hi u v) (k : Only b lo hi v w) : Only b lo hi u w := by
  refine ⟨k.os.trans h.os, k.tape.trans h.tape, k.output.trans h.output, Nat.le_trans h.size k.size, fun i hi hb => (k.block i (Nat.lt_of_lt_of_le hi h.size) hb).trans (h.block i hi hb), fun cur e hc => ?_⟩
  obtain ⟨c1, h1, s1, g1⟩ := h.row cur e hc
  obtain ⟨c2, h2, s2, g2⟩ := k.row c1 e h1
  exact ⟨c2, h2, s2.trans s1, fun j hj => (g2 j hj).trans (g1 j hj)⟩
theorem Only.mono {b lo hi lo' hi' : Nat} {u v : World} (h : Only b lo hi u v) (h1 : lo' ≤ lo) (h2 : hi ≤ hi') : Only b lo' hi' u v :=
  ⟨h.os, h.tape, h.output, h.size, h.block, fun cur e hc => by
    obtain ⟨c, a, s, g⟩ := h.row cur e hc
    exact ⟨c, a, s, fun j hj => g j (by omega)⟩⟩
theorem Only.of_below {b lo hi : Nat} {u v : World} (h : Below u.heap.size u v) : Only b lo hi u v :=
  ⟨h.os, h.tape, h.output, h.size, fun k hk _ => h.block k hk, fun cur _ hc => ⟨cur, (h.block b (Array.getElem?_eq_some_iff.1 hc).1).trans hc, rfl, fun _ _ => rfl⟩⟩
/-- A function that writes into a block of the call's own alone turns nothing that was there. -/
theorem Only.below {b lo hi B : Nat} {u v : World} (h : Only b lo hi u v) (hb : B ≤ b) (hB : B ≤ u.heap.size) : Below B u v :=
  ⟨h.os, h.tape, h.output, h.size, fun k hk => h.block k (by omega) (by omega)⟩

theorem Only.arr {b lo hi : Nat} {u v : World} (h : Only b lo hi u v) {off : Nat} {l : List Int} (ha : Arr u b off l) (hd : off + l.length ≤ lo ∨ hi ≤ off) : Arr v b off l := by
  obtain ⟨cur, e, hc, hl⟩ := ha
  obtain ⟨c, a, _, g⟩ := h.row cur e hc
  exact ⟨c, e, a, fun j hj => (g _ (by omega)).trans (hl j hj)⟩
theorem Only.at' {b lo hi : Nat} {u v : World} (h : Only b lo hi u v) {b' off : Nat} {l : List Int} (ha : At u b' off l) (hd : b' ≠ b) : At v b' off l := by
  intro j hj
  have hlt := World.block_lt_of_cell? (a := ⟨b', off + j, none⟩) _ (ha j hj)
  rw [World.cell?_of_block (w := u) (h.block b' hlt hd)]
  exact ha j hj
theorem Only.arr' {b lo hi : Nat} {u v : World} (h : Only b lo hi u v) {b' off : Nat} {l : List Int} (ha : Arr u b' off l) (hd : b' ≠ b) : Arr v b' off l := by
  have hlt := ha.lt
  obtain ⟨cur, e, hc, hl⟩ := ha
  exact ⟨cur, e, (h.block b' hlt hd).trans hc, hl⟩

/-- A word is stored. -/
theorem Arr.store {w : World} {b off : Nat} {l : List Int} (h : Arr w b off l) (k : Nat) (x : Int) : Arr (w.setCell ⟨b, off + k, none⟩ (.int .u64 x)) b off (l.set k x) := by
  obtain ⟨cur, e, hc, hl⟩ := h
  refine ⟨_, e, heap_setCell_same w b (off + k) cur e _ hc, fun j hj => ?_⟩
  rw [List.length_set] at hj
  by_cases hjk : k = j
  · subst hjk
    have hlt : off + k < cur.size := (Array.getElem?_eq_some_iff.1 (hl k hj)).1
    rw [getD_set_same hj]
    simp [hlt]
  · rw [getD_set_other l hjk, Array.getElem?_setIfInBounds, if_neg (by omega)]
    exact hl j hj
theorem Only.store {w : World} {b lo hi : Nat} (k : Nat) (v : Value) (h1 : lo ≤ k) (h2 : k < hi) : Only b lo hi w (w.setCell ⟨b, k, none⟩ v) := by
  refine ⟨rfl, rfl, rfl, by simp [World.setCell], fun j _ hj => heap_setCell_other w ⟨b, k, none⟩ j v hj, fun cur e hc => ?_⟩
  refine ⟨_, heap_setCell_same w b k cur e v hc, by simp, fun j hj => ?_⟩
  rw [Array.getElem?_setIfInBounds, if_neg (by omega)]

/-- A row of the call's own as words that may be written. -/
theorem Ow.arr {base : Nat} {w : World} {g cap n : Nat} {l : List Int} (h : Ow base w (.slice (some ⟨g, 0, none⟩) n cap) l) : Arr w g 0 l ∧ base ≤ g ∧ n = l.length := by
  obtain ⟨h1, h2⟩ := h
  rcases h2 with ⟨h, _⟩ | ⟨g', cap', cur, hv, hg, hh, hn, hm, hc, ht⟩
  · simp at h
  · simp only [Value.slice.injEq, Option.some.injEq, Addr.mk.injEq, and_true] at hv
    obtain ⟨rfl, rfl, rfl⟩ := hv
    refine ⟨⟨cur, _, hh, fun j hj => ?_⟩, hg, rfl⟩
    have : (cur.toList.take (l.length * 1))[j]? = (vals l)[j]? := by rw [ht]
    rw [vals_get l j hj, List.getElem?_take, if_pos (by omega)] at this
    simpa using this

theorem Ow.nil (base : Nat) (w : World) : Ow base w (.slice none 0 0) [] := World.ownsRow_nil _ _ _ _

/-- The row behind a function that has written into it. -/
theorem Ow.only {base : Nat} {w w' : World} {g cap n : Nat} {l l' : List Int} {lo hi : Nat} (h : Ow base w (.slice (some ⟨g, 0, none⟩) n cap) l) (ho : Only g lo hi w w') (ha : Arr w' g 0 l') (hl : l'.length = l.length) :
    Ow base w' (.slice (some ⟨g, 0, none⟩) n cap) l' := by
  obtain ⟨h1, h2⟩ := h
  rcases h2 with ⟨h, _⟩ | ⟨g', cap', cur, hv, hg, hh, hn, hm, hc, ht⟩
  · simp at h
  · simp only [Value.slice.injEq, Option.some.injEq, Addr.mk.injEq, and_true] at hv
    obtain ⟨rfl, rfl, rfl⟩ := hv
    obtain ⟨c, a, s, _⟩ := ho.row cur _ hh
    obtain ⟨c2, e2, a2, hl2⟩ := ha
    rw [a] at a2
    simp only [Option.some.injEq, Obj.cells.injEq] at a2
    obtain ⟨rfl, rfl, _⟩ := a2
    refine ⟨by simp [length_vals], Or.inr ⟨g, cap, c, by rw [hl], hg, a, by omega, hm, by rw [s]; exact hc, ?_⟩⟩
    apply List.ext_getElem?
    intro j
    by_cases hj : j < l'.length
    · rw [vals_get l' j hj, List.getElem?_take, if_pos (by omega)]
      have := hl2 j hj
      simpa using this
    · rw [List.getElem?_eq_none (by simp; omega), List.getElem?_eq_none (by simp [length_vals]; omega)]

/-- The head of a row. -/
theorem Ow.take {base : Nat} {w : World} {ao : Option Addr} {cap n : Nat} {l : List Int} (h : Ow base w (.slice ao n cap) l) (k : Nat) (hk : k ≤ n) : Ow base w (.slice ao k cap) (l.take k) := by
  obtain ⟨h1, h2⟩ := h
  rcases h2 with ⟨hv, h0⟩ | ⟨g', cap', cur, hv, hg, hh, hn, hm, hc, ht⟩
  · simp only [Value.slice.injEq] at hv
    obtain ⟨rfl, rfl, rfl⟩ := hv
    obtain rfl : k = 0 := by omega
    exact Ow.nil _ _
  · simp only [Value.slice.injEq] at hv
    obtain ⟨rfl, rfl, rfl⟩ := hv
    have hlen : (l.take k).length = k := by rw [List.length_take]; omega
    refine ⟨by simp [length_vals], Or.inr ⟨g', cap, cur, by rw [hlen], hg, hh, by omega, hm, hc, ?_⟩⟩
    rw [hlen, Nat.mul_one, ← vals_take, ← ht, List.take_take, Nat.min_eq_left (by omega)]

theorem Ow.below {base : Nat} {w w' : World} {v : Value} {l : List Int} (h : Ow base w v l) (hb : Below w.heap.size w w') : Ow base w' v l := by
  obtain ⟨h1, h2⟩ := h
  refine ⟨h1, ?_⟩
  rcases h2 with h2 | ⟨g', cap', cur, hv, hg, hh, r⟩
  · exact Or.inl h2
  · exact Or.inr ⟨g', cap', cur, hv, hg, (hb.block g' (Array.getElem?_eq_some_iff.1 hh).1).trans hh, r⟩
theorem Ow.only' {base : Nat} {w w' : World} {v : Value} {l : List Int} {b lo hi : Nat} (h : Ow base w v l) (ho : Only b lo hi w w') (hne : v.ownBlock ≠ some b) : Ow base w' v l := by
  obtain ⟨h1, h2⟩ := h
  refine ⟨h1, ?_⟩
  rcases h2 with h2 | ⟨g', cap', cur, rfl, hg, hh, r⟩
  · exact Or.inl h2
  · exact Or.inr ⟨g', cap', cur, rfl, hg, (ho.block g' (Array.getElem?_eq_some_iff.1 hh).1 (by simpa [Value.ownBlock] using hne)).trans hh, r⟩
theorem Ow.mono {base base' : Nat} {w : World} {v : Value} {l : List Int} (h : Ow base w v l) (hb : base' ≤ base) : Ow base' w v l := by
  obtain ⟨h1, h2⟩ := h
  refine ⟨h1, ?_⟩
  rcases h2 with h2 | ⟨g', cap', cur, hv, hg, r⟩
  · exact Or.inl h2
  · exact Or.inr ⟨g', cap', cur, hv, by omega, r⟩

end Go.Proofs.Ytkkjkohmekbdbaa
