/-
  Memory that holds bytes; writes into one block, where nothing is said of blocks from a number on.
-/
import Derived.Test.YtbieldebkfkpkaaDoorLaws
import Derived.Test.YtbieldebkfkpkaaDoorMath
namespace Go.Proofs.YtbieldebkfkpkaaDoor
open Go.RowKit

/-- Bytes in a row that may be written. -/
def ArrB (w : World) (b off : Nat) (l : List Int) : Prop := ∃ (cur : Array Value) (e : TypeId), w.heap[b]? = some (.cells cur e (0, 0)) ∧ ∀ j, j < l.length → cur[off + j]? = some (.int .u8 (l.getD j 0))
def AtB (w : World) (b off : Nat) (l : List Int) : Prop := ∀ j, j < l.length → w.cell? ⟨b, off + j, none⟩ = some (.int .u8 (l.getD j 0))

theorem ArrB.at' {w : World} {b off : Nat} {l : List Int} (h : ArrB w b off l) : AtB w b off l := by
  obtain ⟨cur, e, hh, h⟩ := h
  intro j hj
  rw [cell_of_row w b _ cur e _ hh]
  exact h j hj
theorem ArrB.frozen {w : World} {b off : Nat} {l : List Int} (h : ArrB w b off l) (j : Nat) : w.frozen? ⟨b, j, none⟩ = false := by
  obtain ⟨cur, e, hh, h⟩ := h
  exact frozen_of_row w b j cur e hh
theorem ArrB.lt {w : World} {b off : Nat} {l : List Int} (h : ArrB w b off l) : b < w.heap.size := by
  obtain ⟨cur, e, hh, h⟩ := h
  exact (Array.getElem?_eq_some_iff.1 hh).1
theorem ArrB.store {w : World} {b off : Nat} {l : List Int} (h : ArrB w b off l) (k : Nat) (x : Int) : ArrB (w.setCell ⟨b, off + k, none⟩ (.int .u8 x)) b off (l.set k x) := by
  obtain ⟨cur, e, hc, hl⟩ := h
  refine ⟨_, e, heap_setCell_same w b (off + k) cur e _ hc, fun j hj => ?_⟩
  rw [List.length_set] at hj
  by_cases hjk : k = j
  · subst hjk
    have hlt : off + k < cur.size := (Array.getElem?_eq_some_iff.1 (hl k hj)).1
    rw [getD_set_same hj]
    simp [hlt]
  · rw [getD_set_other l hjk, Array.getElem?_setIfInBounds, if_neg (by omega)]
    exact hl j hj
theorem ArrB.drop {w : World} {b off : Nat} {l : List Int} (h : ArrB w b off l) (k : Nat) : ArrB w b (off + k) (l.drop k) := by
  obtain ⟨cur, e, hh, h⟩ := h
  refine ⟨cur, e, hh, fun j hj => ?_⟩
  rw [List.length_drop] at hj
  rw [getD_drop, Nat.add_assoc]
  exact h _ (by omega)
theorem ArrB.take {w : World} {b off : Nat} {l : List Int} (h : ArrB w b off l) (k : Nat) : ArrB w b off (l.take k) := by
  obtain ⟨cur, e, hh, h⟩ := h
  refine ⟨cur, e, hh, fun j hj => ?_⟩
  rw [List.length_take] at hj
  rw [getD_take (by omega)]
  exact h _ (by omega)
theorem ArrB.below {B : Nat} {w w' : World} {b off : Nat} {l : List Int} (h : ArrB w b off l) (hb : Below B w w') (hlt : b < B) : ArrB w' b off l := by
  obtain ⟨cur, e, hh, h⟩ := h
  exact ⟨cur, e, (hb.block b hlt).trans hh, h⟩

/-- As 'Only', but of blocks from B on nothing is said. -/
structure OnlyB (B b lo hi : Nat) (w w' : World) : Prop where
  os : w'.os = w.os
  tape : w'.tape = w.tape
  output : w'.output = w.output
  size : w.heap.size ≤ w'.heap.size
  block : ∀ k, k < B → k ≠ b → w'.heap[k]? = w.heap[k]?
  row : ∀ cur e, w.heap[b]? = some (.cells cur e (0, 0)) → ∃ cur', w'.heap[b]? = some (.cells cur' e (0, 0)) ∧ cur'.size = cur.size ∧ ∀ j, j < lo ∨ hi ≤ j → cur'[j]? = cur[j]?

theorem OnlyB.refl (B b lo hi : Nat) (w : World) : OnlyB B b lo hi w w := ⟨rfl, rfl, rfl, Nat.le_refl _, fun _ _ _ => rfl, fun cur _ h => ⟨cur, h, rfl, fun _ _ => rfl⟩⟩
theorem OnlyB.trans {B b lo hi : Nat} {u v w : World} (h : OnlyB B b lo hi u v) (k : OnlyB B b lo hi v w) : OnlyB B b lo hi u w := by
  refine ⟨k.os.trans h.os, k.tape.trans h.tape, k.output.trans h.output, Nat.le_trans h.size k.size, fun i hi hb => (k.block i hi hb).trans (h.block i hi hb), fun cur e hc => ?_⟩
  obtain ⟨c1, h1, s1, g1⟩ := h.row cur e hc
  obtain ⟨c2, h2, s2, g2⟩ := k.row c1 e h1
  exact ⟨c2, h2, s2.trans s1, fun j hj => (g2 j hj).trans (g1 j hj)⟩
theorem OnlyB.of_below {B b lo hi : Nat} {u v : World} (h : Below B u v) (hb : b < B) : OnlyB B b lo hi u v :=
  ⟨h.os, h.tape, h.output, h.size, fun k hk _ => h.block k hk, fun cur _ hc => ⟨cur, (h.block b hb).trans hc, rfl, fun _ _ => rfl⟩⟩
theorem OnlyB.of_only {B b lo hi : Nat} {u v : World} (h : Only b lo hi u v) (hB : B ≤ u.heap.size) : OnlyB B b lo hi u v :=
  ⟨h.os, h.tape, h.output, h.size, fun k hk => h.block k (by omega), h.row⟩
theorem OnlyB.only {b lo hi : Nat} {u v : World} (h : OnlyB u.heap.size b lo hi u v) : Only b lo hi u v :=
  ⟨h.os, h.tape, h.output, h.size, h.block, h.row⟩
theorem OnlyB.mono {B b lo hi lo' hi' : Nat} {u v : World} (h : OnlyB B b lo hi u v) (h1 : lo' ≤ lo) (h2 : hi ≤ hi') : OnlyB B b lo' hi' u v :=
  ⟨h.os, h.tape, h.output, h.size, h.block, fun cur e hc => by
    obtain ⟨c, a, s, g⟩ := h.row cur e hc
    exact ⟨c, a, s, fun j hj => g j (by omega)⟩⟩
theorem OnlyB.below {B B' b lo hi : Nat} {u v : World} (h : OnlyB B b lo hi u v) (hb : B' ≤ b) (hB : B' ≤ B) : Below B' u v :=
  ⟨h.os, h.tape, h.output, h.size, fun k hk => h.block k (by omega) (by omega)⟩

end Go.Proofs.YtbieldebkfkpkaaDoor
