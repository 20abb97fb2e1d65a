/-
  MulPieces: Contract of nat.multiplyRows, and the law of clear on words. Contract of nat.multiplyPieces, what nat.multiply does on shorter numbers being given.
-/
import Derived.Test.YtkkjkohmekbdbaaPk14
import Derived.Lib.SliceRun

namespace Go.Proofs.Ytkkjkohmekbdbaa
open Go.RowKit


theorem Arr.append {w : World} {b off : Nat} {l m : List Int} (h : Arr w b off l) (k : Arr w b (off + l.length) m) : Arr w b off (l ++ m) := by
  obtain ⟨cur, e, hh, hl⟩ := h
  obtain ⟨cur2, e2, hh2, hm⟩ := k
  rw [hh] at hh2
  simp only [Option.some.injEq, Obj.cells.injEq, and_true] at hh2
  obtain ⟨rfl, rfl⟩ := hh2
  refine ⟨cur, e, hh, fun j hj => ?_⟩
  rw [List.length_append] at hj
  by_cases hjl : j < l.length
  · rw [hl j hjl, List.getD_eq_getElem?_getD, List.getD_eq_getElem?_getD, List.getElem?_append_left hjl]
  · have h2 := hm (j - l.length) (by omega)
    rw [show off + l.length + (j - l.length) = off + j by omega] at h2
    rw [h2, List.getD_eq_getElem?_getD, List.getD_eq_getElem?_getD, List.getElem?_append_right (by omega)]

theorem clear_cells : ∀ (n off : Nat) (w : World) (g : Nat) (lo : List Int), lo.length = n → Arr w g off lo →
    Arr (w.setCells g off (List.replicate n (.int .u64 0))) g off (List.replicate n 0) ∧ Only g off (off + n) w (w.setCells g off (List.replicate n (.int .u64 0)))
  | 0, off, w, g, lo, hl, ha => by
    obtain rfl : lo = [] := List.eq_nil_of_length_eq_zero hl
    exact ⟨ha, Only.refl _ _ _ _⟩
  | n + 1, off, w, g, lo, hl, ha => by
    have h1 := ha.store 0 0
    have h2 : Arr (w.setCell ⟨g, off, none⟩ (.int .u64 0)) g (off + 1) ((lo.set 0 0).drop 1) := h1.drop 1
    have h3 := h1.take 1
    rw [Nat.add_zero] at h3
    have ho : Only g off (off + 1) w (w.setCell ⟨g, off, none⟩ (.int .u64 0)) := Only.store off _ (Nat.le_refl _) (by omega)
    obtain ⟨h4, h5⟩ := clear_cells n (off + 1) (w.setCell ⟨g, off, none⟩ (.int .u64 0)) g ((lo.set 0 0).drop 1) (by rw [List.length_drop, List.length_set]; omega) h2
    have e0 : (lo.set 0 0).take 1 = [0] := by
      cases lo with
      | nil => simp at hl
      | cons x l => rfl
    rw [e0] at h3
    have h6 := h5.arr h3 (Or.inl (by simp))
    have h7 := h6.append (by simpa using h4)
    refine ⟨?_, ?_⟩
    · exact h7
    · have h8 := (ho.mono (lo' := off) (hi' := off + (n + 1)) (Nat.le_refl _) (by omega)).trans (h5.mono (lo' := off) (hi' := off + (n + 1)) (by omega) (by omega))
      exact h8

/-- clear(s), s a row of words. -/
theorem run_clear_words (w : World) (t ty : TypeId) (hu : Try.prog.underlying t = some (.slice 57)) (g off n c : Nat) (lo : List Int) (hlo : lo.length = n) (ha : Arr w g off lo) :
    ∃ w', (Builtin.clear_ #[t] ty #[.slice (some ⟨g, off, none⟩) n c]).run Try.prog w = .ok (.tuple #[]) w' ∧ Arr w' g off (List.replicate n 0) ∧ Only g off (off + n) w w' := by
  obtain ⟨h1, h2⟩ := clear_cells n off w g lo hlo ha
  have hz : ∀ w, (zeroValue 57).run Try.prog w = .ok (.int .u64 0) w := fun w => Try.zeroValue57 w
  refine ⟨_, ?_, h1, h2⟩
  by_cases hn : 0 < n
  · exact Lib.run_clear_slice w t 57 ty (.int .u64 0) hu hz rfl rfl g off n c hn (fun j hj => by rw [ha.at' j (by omega)]; rfl) (fun j _ => ha.frozen _)
  · obtain rfl : n = 0 := by omega
    simp [Builtin.clear_, run_underlying hu, World.setCells]

theorem rows_drop {l l' : List Int} {i na : Nat} (hi : i ≤ l.length) (hd : l'.drop na = (l.drop i).drop na) : (l.take i ++ l').drop (i + na) = l.drop (i + na) := by
  have hlt : (l.take i).length = i := by rw [List.length_take]; omega
  rw [← List.drop_drop, List.drop_append_of_le_length (by omega), List.drop_of_length_le (l := l.take i) (by omega), List.nil_append, hd, List.drop_drop]
theorem rows_get {l l' : List Int} {i na j : Nat} (hi : i ≤ l.length) (hd : l'.drop na = (l.drop i).drop na) (hj : i + na ≤ j) : (l.take i ++ l').getD j 0 = l.getD j 0 := by
  have h := rows_drop hi hd
  have e1 := getD_drop (l.take i ++ l') (i + na) (j - (i + na))
  have e2 := getD_drop l (i + na) (j - (i + na))
  rw [show i + na + (j - (i + na)) = j by omega] at e1 e2
  rw [← e1, ← e2, h]
theorem rows_step {l l' : List Int} {i na : Nat} {c V : Int} (hp : i + na < l.length) (hl' : l'.length = l.length - i) (hd : l'.drop na = (l.drop i).drop na)
    (hv : vb B64 (l'.take na) + B64 ^ na * c = vb B64 ((l.drop i).take na) + V) (h0 : l.getD (i + na) 0 = 0) :
    vb B64 ((l.take i ++ l').set (i + na) c) = vb B64 l + B64 ^ i * V := by
  have hlt : (l.take i).length = i := by rw [List.length_take]; omega
  rw [vb_set _ _ _ _ (by rw [List.length_append, hlt]; omega), rows_get (by omega) hd (Nat.le_refl _), h0, Int.sub_zero, vb_append, hlt]
  have e1 := vb_split B64 l' na (by omega)
  have e2 := vb_split B64 l i (by omega)
  have e3 := vb_split B64 (l.drop i) na (by rw [List.length_drop]; omega)
  rw [hd] at e1
  rw [e3] at e2
  rw [e2, e1, Int.pow_add]
  have e4 : B64 ^ i * (vb B64 (l'.take na) + B64 ^ na * c) = B64 ^ i * (vb B64 ((l.drop i).take na) + V) := by rw [hv]
  rw [Int.mul_add, Int.mul_add] at e4
  rw [Int.mul_add, Int.mul_add, Int.mul_assoc]
  omega

/-- A row of which the words from the t-th on have been written. -/
theorem splice {g off t n : Nat} {l : List Int} {N : Int} {w w' : World} (ha : Arr w g off l) (hl : Lim B64 l) (hn : l.length = n) (ht : t ≤ n) (h : InPl g (off + t) (n - t) N w w') :
    ∃ l2, l2.length = n ∧ Lim B64 l2 ∧ Arr w' g off l2 ∧ vb B64 l2 = vb B64 (l.take t) + B64 ^ t * N ∧ Only g off (off + n) w w' := by
  obtain ⟨l', hl', hlim', harr', hv', hon'⟩ := h
  have hlt : (l.take t).length = t := by rw [List.length_take]; omega
  have h1 := hon'.arr (ha.take t) (Or.inl (by rw [hlt]; exact Nat.le_refl _))
  refine ⟨l.take t ++ l', by rw [List.length_append, hlt]; omega, (hl.take t).app hlim', h1.append (by rw [hlt]; exact harr'), by rw [vb_append, hlt, hv'], hon'.mono (by omega) (by omega)⟩

/-- What a sum into the words from the t-th on may be. -/
theorem fit_tail {l : List Int} {t n : Nat} {P : Int} (hl : Lim B64 l) (hn : l.length = n) (ht : t ≤ n) (h : vb B64 l + B64 ^ t * P < B64 ^ n) : vb B64 (l.drop t) + P < B64 ^ (n - t) := by
  have h1 := vb_split B64 l t (by omega)
  have h2 := vb_nonneg B64_pos (hl.take t)
  have h3 : B64 ^ n = B64 ^ t * B64 ^ (n - t) := by rw [← Int.pow_add, show t + (n - t) = n by omega]
  have hp := pow_pos' B64_pos t
  have h4 : B64 ^ t * (vb B64 (l.drop t) + P) < B64 ^ t * B64 ^ (n - t) := by rw [Int.mul_add, ← h3]; omega
  exact Int.lt_of_mul_lt_mul_left h4 (Int.le_of_lt hp)

theorem Arr.below {w w' : World} {b off : Nat} {l : List Int} (h : Arr w b off l) (hb : Below w.heap.size w w') : Arr w' b off l := by
  have hlt := h.lt
  obtain ⟨cur, e, hh, hl⟩ := h
  exact ⟨cur, e, (hb.block b hlt).trans hh, hl⟩

theorem prod_lt {X Y A B : Int} (h1 : X < A) (h2 : Y < B) (h3 : 0 ≤ X) (h4 : 0 ≤ Y) : X * Y < A * B := by
  have e1 := Int.mul_le_mul_of_nonneg_left (Int.le_of_lt h2) h3
  have e2 := Int.mul_lt_mul_of_pos_right h1 (show 0 < B by omega)
  omega

theorem piece_split {la : List Int} {t u : Nat} (h1 : t ≤ u) (h2 : u ≤ la.length) : vb B64 (la.take u) = vb B64 (la.take t) + B64 ^ t * vb B64 ((la.drop t).take (u - t)) := by
  have h := vb_split B64 (la.take u) t (by rw [List.length_take]; omega)
  rw [List.take_take, Nat.min_eq_left h1, List.drop_take] at h
  exact h

end Go.Proofs.Ytkkjkohmekbdbaa
