/-
  RefDiv: Contract of the document's own DivMod where the divisor has two digits or more: long division in digits of base 2^32.
-/
import Derived.Test.YtkkjkohmekbdbaaPk10
import Derived.Test.YtkkjkohmekbdbaaPk6
import Derived.Test.YtkkjkohmekbdbaaPk9
import Derived.Test.YtkkjkohmekbdbaaPk21
import Derived.Test.YtkkjkohmekbdbaaPk20
import Derived.ArgAppend
import Derived.Deep.CutBlock
import Derived.Deep.DeepCutAuto

namespace Go.Proofs.Ytkkjkohmekbdbaa
open Go.RowKit

/-- append(words with no room behind them, words ..). -/
theorem wpList_append_full {P : Program} (w : World) {ops : Array Oper} {rest : List Oper} {o : Oper} {a : Act} {Q : Exit → Act → World → Prop} (hgd : o.guard = none) (s x : Operand) (t : TypeId)
    (ho : o.op = .call { callee := .builtin .append, args := #[s, x], argTypes := #[t, t] }) (ht : P.underlying t = some (.slice 57)) (hi : (P.info? 57).map (fun i => (i.zero, i.size, i.bytes)) = some (some (.int .u64 0), 1, 8))
    (b off n : Nat) (l : List Int) (hs : a.eval s = .slice (some ⟨b, off, none⟩) n n) (hn : n = l.length) (hat : At w b off l)
    (ad : Addr) (m c : Nat) (lm : List Int) (hx : a.eval x = .slice (some ad) m c) (hm : lm.length = m) (hm0 : 0 < m) (hnews : ∀ j, j < lm.length → w.cell? (ad.add j) = some (.int .u64 (lm.getD j 0)))
    (hM : n + m ≤ MaxW)
    (hK : ∀ v' w', Ow w.heap.size w' v' (l ++ lm) → Below w.heap.size w w' → wpList P ops Q rest (a.put o.dst v') w') : wpList P ops Q (o :: rest) a w := by
  obtain ⟨i, h2, h3, h4, h5⟩ := info_parts hi
  unfold MaxW at hM
  refine wpList_plain hgd fun K hK' => ?_
  obtain ⟨v', w', hr, hown, hgr⟩ := run_append_arg_grows (P := P) w t o.type 57 i (.int .u64 0) 1 8 ht h2 h3 h4 h5 rfl (by decide) ⟨b, off, none⟩ n n (vals l) (by rw [length_vals, hn, Nat.mul_one])
    (fun j u hu => by
      have hj : j < l.length := by have := (List.getElem?_eq_some_iff.1 hu).1; simpa [length_vals] using this
      rw [vals_get l j hj] at hu
      cases hu
      rw [addr_add_none]
      exact hat j hj)
    ad m c (vals lm) (by rw [length_vals, hm, Nat.mul_one])
    (fun j u hu => by
      have hj : j < lm.length := by have := (List.getElem?_eq_some_iff.1 hu).1; simpa [length_vals] using this
      rw [vals_get lm j hj] at hu
      cases hu
      exact hnews j hj) (by omega) (by unfold maxLen; omega) (by omega)
  unfold Oper.wp execOp
  simp only [ho, resolve, invoke, builtin, Sem.run_bind, Sem.run_pure, Result.andThen_ok, List.map_toArray, List.map_cons, List.map_nil, hs, hx, hr]
  refine hK' _ _ (hK v' w' ?_ ((Below.refl _ _).grown hgr (Nat.le_refl _) (fun g e => by cases e)))
  unfold Ow
  rw [List.length_append, ← vals_append, ← hn, hm]
  exact hown

/-- A row of the call's own that is not empty lies in a block of its own. -/
theorem Ow.row {base : Nat} {w : World} {v : Value} {l : List Int} (h : Ow base w v l) (hl : l ≠ []) : ∃ g n cap, v = .slice (some ⟨g, 0, none⟩) n cap ∧ n = l.length ∧ n ≤ cap ∧ cap ≤ 9223372036854775807 ∧ Arr w g 0 l ∧ base ≤ g ∧ g < w.heap.size := by
  have h' := h
  obtain ⟨ao, cap, rfl, h1, h2, h3⟩ := h.form
  rcases h.2 with ⟨hv, h0⟩ | ⟨g, cap', cur, hv, hg, hh, r⟩
  · exact absurd (List.eq_nil_of_length_eq_zero h0) hl
  · simp only [Value.slice.injEq] at hv
    obtain ⟨rfl, -, rfl⟩ := hv
    exact ⟨g, _, cap, rfl, rfl, h1, h2, h'.arr.1, hg, (Array.getElem?_eq_some_iff.1 hh).1⟩

theorem Arr.kept {w w' : World} {b off : Nat} {l : List Int} (h : Arr w b off l) (hb : Below w.heap.size w w') : Arr w' b off l := by
  have hlt := h.lt
  obtain ⟨cur, e, hh, hl⟩ := h
  exact ⟨cur, e, (hb.block b hlt).trans hh, hl⟩
/-- The digits of a divisor that is shifted until its top bit is one. -/
theorem norm_digits {lb lv : List Int} {s : Nat} (hb : Can B32 lb) (hv : Can B32 lv) (hne : lb ≠ []) (hs : s = (32 - nb (vb B32 lb) % 32) % 32) (h : vb B32 lv = vb B32 lb * 2 ^ s) :
    lv.length = lb.length ∧ 2147483648 ≤ lv.getD (lb.length - 1) 0 := by
  have hn : 0 < lb.length := List.length_pos_iff.2 hne
  have e1 := nb_digits32 hb hne
  have ht := hb.top hne
  have hd := hb.lim.getD B32_pos (lb.length - 1)
  have hge := hb.ge B32_pos hne
  have hp := pow_pos' B32_pos (lb.length - 1)
  have hpos : 0 < vb B32 lb := by omega
  obtain ⟨b1, b2, b3⟩ := nb_spec (N := lb.getD (lb.length - 1) 0) (by omega)
  have b4 : nb (lb.getD (lb.length - 1) 0) ≤ 32 := nb_le hd.2
  obtain ⟨c1, c2, c3⟩ := nb_spec hpos
  have hsum : nb (vb B32 lb) + s = 32 * lb.length := by omega
  have hnv : nb (vb B32 lv) = 32 * lb.length := by
    rw [h]
    have q1 := pow2_pos s
    refine nb_eq (by omega) ?_ ?_
    · rw [show 32 * lb.length - 1 = (nb (vb B32 lb) - 1) + s by omega, Int.pow_add]
      exact Int.mul_le_mul_of_nonneg_right c1 (Int.le_of_lt q1)
    · rw [← hsum, Int.pow_add]
      exact Int.mul_lt_mul_of_pos_right c2 q1
  have hnev : lv ≠ [] := by
    intro e
    rw [e, vb_nil, nb_zero] at hnv
    omega
  have hnv0 : 0 < lv.length := List.length_pos_iff.2 hnev
  have f1 := nb_digits32 hv hnev
  have ft := hv.top hnev
  have fd := hv.lim.getD B32_pos (lv.length - 1)
  obtain ⟨g1, g2, g3⟩ := nb_spec (N := lv.getD (lv.length - 1) 0) (by omega)
  have g4 : nb (lv.getD (lv.length - 1) 0) ≤ 32 := nb_le fd.2
  have hl : lv.length = lb.length := by omega
  refine ⟨hl, ?_⟩
  have g5 : nb (lv.getD (lv.length - 1) 0) = 32 := by omega
  rw [g5] at g1
  rw [← hl]
  exact g1

/-- How much longer a number grows that is shifted by less than a digit. -/
theorem shl_len32 {la lu : List Int} {s : Nat} (hla : Lim B32 la) (hlu : Can B32 lu) (h : vb B32 lu = vb B32 la * 2 ^ s) (hs : s ≤ 31) : lu.length ≤ la.length + 1 := by
  refine room_of B32_pos hlu ?_
  rw [h, Int.pow_succ]
  have h1 := vb_lt B32_pos hla
  have h2 := pow2_le31 hs
  have h3 := vb_nonneg B32_pos hla
  have h4 := pow2_pos s
  have h5 : vb B32 la * 2 ^ s < B32 ^ la.length * 2 ^ s := Int.mul_lt_mul_of_pos_right h1 h4
  have h6 : B32 ^ la.length * 2 ^ s ≤ B32 ^ la.length * B32 := Int.mul_le_mul_of_nonneg_left (by unfold B32; omega) (Int.le_of_lt (pow_pos' B32_pos _))
  omega

/-- The top digits as the division begins are less than the divisor. -/
theorem start_lt {lu lv : List Int} {Q : Nat} (hlu : Lim B32 lu) (hv : Can B32 lv) (hv2 : 2 ≤ lv.length) (hl : lu.length + 1 = Q + lv.length) : vb B32 ((lu ++ [0]).drop Q) < vb B32 lv := by
  rw [List.drop_append_of_le_length (by omega), vb_snoc, Int.mul_zero, Int.add_zero]
  have h1 := vb_lt B32_pos (hlu.drop Q)
  rw [List.length_drop, show lu.length - Q = lv.length - 1 by omega] at h1
  have h2 := hv.ge B32_pos (by intro e; rw [e] at hv2; simp at hv2)
  omega
/-- The window of a round. -/
theorem win_lt {m : List Int} {j : Nat} {V : Int} (hm : Lim B32 m) (hj : j < m.length) (h : vb B32 (m.drop (j + 1)) < V) : vb B32 (m.drop j) < B32 * V := by
  rw [vb_drop B32 hj]
  have h1 := hm.getD B32_pos j
  have h2 : B32 * (vb B32 (m.drop (j + 1)) + 1) ≤ B32 * V := Int.mul_le_mul_of_nonneg_left (by omega) (by decide)
  rw [Int.mul_add, Int.mul_one] at h2
  omega

/-- The top digit of the window is lent one of the next place. -/
theorem over_top {m1 m0 : List Int} {j n : Nat} {x G b t : Int} (hm : Lim B32 m1) (hl : m1.length = m0.length) (hj : j + n < m1.length) (ht : m1.take j = m0.take j) (hz : ∀ i, j + n < i → m1.getD i 0 = 0) (hte : t = m1.getD (j + n) 0)
    (hS : vb B32 m1 + B32 ^ j * (G * b) = vb B32 m0 + B32 ^ (j + n) * x) (h0 : 0 ≤ t + 4294967296 - x) (h1 : t + 4294967296 - x < 4294967296) :
    vb B32 (m1.set (j + n) (t + 4294967296 - x)) + B32 ^ j * (G * b) = vb B32 m0 + B32 ^ (j + n + 1) ∧ vb B32 (m0.drop j) < G * b := by
  have e : vb B32 (m1.set (j + n) (t + 4294967296 - x)) + B32 ^ j * (G * b) = vb B32 m0 + B32 ^ (j + n + 1) := by
    rw [vb_set B32 m1 (j + n) _ hj, ← hte, Int.pow_succ, show t + 4294967296 - x - t = B32 - x by unfold B32; omega, Int.mul_sub]
    omega
  refine ⟨e, ?_⟩
  have e2 : vb B32 (m1.set (j + n) (t + 4294967296 - x)) + B32 ^ j * (G * b - B32 ^ (n + 1)) = vb B32 m0 := by
    rw [Int.mul_sub, ← Int.pow_add, ← Nat.add_assoc]
    omega
  have e3 := vb_drop_sub (by rw [List.length_set]; exact hl) (by omega) (by rw [take_set_above (by omega)]; exact ht) e2
  have hl2 : Lim B32 (m1.set (j + n) (t + 4294967296 - x)) := hm.set _ h0 (by unfold B32; omega)
  have h5 := vb_lt_of_zeros B32_pos (hl2.drop j) (k := n + 1) (fun i hi => by
    rw [getD_drop, getD_set_other m1 (by omega)]
    exact hz _ (by omega))
  omega
/-- Above the window there are zeros. -/
theorem win_zero {m : List Int} {j n : Nat} {V : Int} (hm : Lim B32 m) (h : vb B32 (m.drop j) < B32 * V) (hV : V < B32 ^ n) : ∀ i, j + n < i → m.getD i 0 = 0 := by
  intro i hi
  have h1 : B32 * (V + 1) ≤ B32 * B32 ^ n := Int.mul_le_mul_of_nonneg_left (by omega) (by decide)
  have h2 : vb B32 (m.drop j) < B32 ^ (n + 1) := by
    rw [Int.pow_succ, Int.mul_comm]
    rw [Int.mul_add] at h1
    unfold B32 at *
    omega
  have := vb_zero_above B32_pos (hm.drop j) h2 (i - j) (by omega)
  rw [getD_drop, show j + (i - j) = i by omega] at this
  exact this
theorem sm_next {lv : List Int} {i j : Nat} {d y z : Int} (hi : i < lv.length) (hy : y = lv.getD i 0) (hz : d * y = z) : B32 ^ j * (d * vb B32 (lv.take i)) + B32 ^ (j + i) * z = B32 ^ j * (d * vb B32 (lv.take (i + 1))) := by
  rw [vb_take_succ B32 hi, ← hy, ← hz, Int.mul_add d, Int.mul_add (B32 ^ j), Int.pow_add, Int.mul_left_comm d (B32 ^ i) y, ← Int.mul_assoc (B32 ^ j) (B32 ^ i)]
theorem ab_next {lv : List Int} {i j : Nat} {y : Int} (hi : i < lv.length) (hy : y = lv.getD i 0) : B32 ^ j * vb B32 (lv.take i) + B32 ^ (j + i) * y = B32 ^ j * vb B32 (lv.take (i + 1)) := by
  rw [vb_take_succ B32 hi, ← hy, Int.mul_add (B32 ^ j), Int.pow_add, ← Int.mul_assoc (B32 ^ j) (B32 ^ i)]

/-- What a slot may be said to hold: a number of the document's. -/
def IsD (Z : Int) (v : Value) (w : World) : Prop := ∃ a n c l, v = .slice a n c ∧ RdD w (.slice a n c) l ∧ vb B32 l = Z
theorem IsD.keeps (Z : Int) : Keeps (IsD Z) := fun _ _ _ hb ⟨a, n, c, l, h1, h2, h3⟩ => ⟨a, n, c, l, h1, h2.below hb, h3⟩

end Go.Proofs.Ytkkjkohmekbdbaa
