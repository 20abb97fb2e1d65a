/-
  Nat1: Contracts of nat.Of, nat.Cmp, nat.Sub and nat.Add.
  Ref1: Contracts of the reference's Trim, From and Limbs, and of the statements' own helpers SameLimbs and Is.
  RefCmp: Contracts of the reference's Small and Mul. Contracts of the reference's Cmp, and of its DivMod by one digit.
  Add: Contract of nat.Add: the sum of all numbers of a slice of numbers.
  Dist: Contract of nat.distance: the difference of two numbers without its sign, in a new row.
-/
import Derived.Test.YtkkjkohmekbdbaaPk4
import Derived.Test.YtkkjkohmekbdbaaPk5
import Derived.BigQuiet
import Derived.Deep.QuietTactic

namespace Go.Proofs.Ytkkjkohmekbdbaa
open Go.RowKit

theorem info_u64 : (Try.prog.info? 57).map (fun i => (i.zero, i.size, i.bytes)) = some (some (.int .u64 0), 1, 8) := by kernel_rfl

/-- A function has returned v and turned nothing that was there. -/
def RetV (w : World) (v : Value) (e : Ending) (w' : World) : Prop := e = .returned v ∧ Below w.heap.size w w'

theorem RetV.elim {w : World} {v : Value} {e : Ending} {w' : World} (h : RetV w v e w') : e = .returned v ∧ Below w.heap.size w w' := h

/-- What nat.Sub leaves where the second number is not greater. -/
def RetSub (w : World) (N : Int) (e : Ending) (w' : World) : Prop := ∃ v l, e = .returned (.tuple #[v, .bool true]) ∧ Ow w.heap.size w' v l ∧ Can B64 l ∧ vb B64 l = N ∧ Below w.heap.size w w'
def RetNo (w : World) (e : Ending) (w' : World) : Prop := e = .returned (.tuple #[.slice none 0 0, .bool false]) ∧ Below w.heap.size w w'

theorem Ow.cases {base : Nat} {w : World} {v : Value} {l : List Int} (h : Ow base w v l) : (v = .slice none 0 0 ∧ l = []) ∨ ∃ g cap, v = .slice (some ⟨g, 0, none⟩) l.length cap ∧ base ≤ g ∧ l.length ≤ cap ∧ cap ≤ 9223372036854775807 ∧ Arr w g 0 l := by
  have h' := h
  obtain ⟨h1, h2⟩ := h
  rcases h2 with ⟨rfl, h0⟩ | ⟨g, cap, cur, rfl, hg, hh, hn, hm, hc, ht⟩
  · exact Or.inl ⟨rfl, List.eq_nil_of_length_eq_zero h0⟩
  · exact Or.inr ⟨g, cap, rfl, hg, hn, by simpa [maxLen] using hm, h'.arr.1⟩

theorem can_len_le {l m : List Int} (hl : Can B64 l) (hm : Can B64 m) (h : vb B64 l ≤ vb B64 m) : l.length ≤ m.length := by
  rcases Nat.lt_or_ge m.length l.length with h1 | h1
  · have := can_lt_of_length B64_pos hm.lim hl h1; omega
  · exact h1

end Go.Proofs.Ytkkjkohmekbdbaa

namespace Go.Proofs.Ytkkjkohmekbdbaa
open Go.RowKit

/-- A function has returned a number in the base b: a slice that reads as digits, no zeros at its end. -/
def RetRd (b : Int) (w : World) (N : Int) (e : Ending) (w' : World) : Prop :=
  ∃ ao n cap l, e = .returned (.slice ao n cap) ∧ n = l.length ∧ n ≤ cap ∧ cap ≤ 9223372036854775807 ∧ Rd w' ao l ∧ Can b l ∧ vb b l = N ∧ Below w.heap.size w w' ∧ ∀ g o, ao = some ⟨g, o, none⟩ → w.heap.size ≤ g

end Go.Proofs.Ytkkjkohmekbdbaa

namespace Go.Proofs.Ytkkjkohmekbdbaa
open Go.RowKit


theorem len_room32 {l : List Int} {m : Nat} (hc : Can B32 l) (h : vb B32 l < B32 ^ m) : l.length ≤ m := by
  by_cases hl : l = []
  · subst hl; simp
  · have h1 := hc.ge B32_pos hl
    rcases Nat.lt_or_ge m l.length with h2 | h2
    · have := pow_le_pow B32_pos (show m ≤ l.length - 1 by omega)
      omega
    · exact h2

/-- One digit product added, the carry handed on. -/
theorem mul_step {m : List Int} {p : Nat} {c x y v T : Int} (hp : p < m.length) (hv : v = m.getD p 0 + x * y + c) (h : vb B32 m + B32 ^ p * c = T) :
    vb B32 (m.set p (v % 4294967296)) + B32 ^ (p + 1) * (v / 4294967296) = T + B32 ^ p * (x * y) := by
  rw [vb_set _ _ _ _ hp, Int.pow_succ, Int.mul_assoc, Int.add_assoc, ← Int.mul_add]
  have e : v % 4294967296 - m.getD p 0 + B32 * (v / 4294967296) = c + x * y := by unfold B32; omega
  rw [e, Int.mul_add]
  omega

theorem mul_bound {x y : Int} (hx0 : 0 ≤ x) (hx1 : x ≤ 4294967295) (hy0 : 0 ≤ y) (hy1 : y ≤ 4294967295) : 0 ≤ x * y ∧ x * y ≤ 18446744065119617025 := by
  refine ⟨Int.mul_nonneg hx0 hy0, ?_⟩
  have := Int.mul_le_mul hx1 hy1 hy0 (by decide)
  omega

theorem dl_step32 {l m : List Int} {k : Nat} {r d q x : Int} (hk : k < l.length) (hlm : m.length = l.length) (h : vb B32 (m.drop (k + 1)) * d + r = vb B32 (l.drop (k + 1))) (hx : x = l.getD k 0)
    (hq : q = (r * 4294967296 + x) / d) : vb B32 ((m.set k q).drop k) * d + (r * 4294967296 + x) % d = vb B32 (l.drop k) := by
  have hkm : k < (m.set k q).length := by rw [List.length_set, hlm]; exact hk
  rw [vb_drop B32 hk, vb_drop B32 hkm, getD_set_same (by rw [hlm]; exact hk), ← hx, ← h]
  have e : (m.set k q).drop (k + 1) = m.drop (k + 1) := by
    apply List.ext_getElem?
    intro j
    rw [List.getElem?_drop, List.getElem?_drop, List.getElem?_set, if_neg (by omega)]
  rw [e]
  have := Int.mul_ediv_add_emod (r * 4294967296 + x) d
  rw [← hq, Int.mul_comm d q] at this
  have e2 : (q + B32 * vb B32 (m.drop (k + 1))) * d = q * d + B32 * (vb B32 (m.drop (k + 1)) * d) := by rw [Int.add_mul, Int.mul_assoc]
  rw [e2]
  unfold B32 at *
  omega

/-- A slice that reads as digits of base 2^32. -/
def RdD (w : World) (v : Value) (l : List Int) : Prop := ∃ a c, v = .slice a l.length c ∧ l.length ≤ c ∧ c ≤ 9223372036854775807 ∧ Rd w a l ∧ Can B32 l
theorem RdD.below {w w' : World} {v : Value} {l : List Int} (h : RdD w v l) (hb : Below w.heap.size w w') : RdD w' v l := by
  obtain ⟨a, c, rfl, h1, h2, h3, h4⟩ := h
  exact ⟨a, c, rfl, h1, h2, h3.below hb, h4⟩
/-- What the reference's DivMod returns. -/
def RetD2 (w : World) (Q R : Int) (e : Ending) (w' : World) : Prop :=
  ∃ aq nq cq lq ar nr cr lr, e = .returned (.tuple #[.slice aq nq cq, .slice ar nr cr]) ∧ RdD w' (.slice aq nq cq) lq ∧ vb B32 lq = Q ∧ RdD w' (.slice ar nr cr) lr ∧ vb B32 lr = R ∧ Below w.heap.size w w'

end Go.Proofs.Ytkkjkohmekbdbaa

namespace Go.Proofs.Ytkkjkohmekbdbaa
open Go.RowKit

def sumv (ls : List (List Int)) : Int := (ls.map (vb B64)).foldr (· + ·) 0
theorem sumv_cons (l : List Int) (ls : List (List Int)) : sumv (l :: ls) = vb B64 l + sumv ls := rfl
theorem sumv_append (ls ms : List (List Int)) : sumv (ls ++ ms) = sumv ls + sumv ms := by
  induction ls with
  | nil => simp [sumv]
  | cons l ls ih => rw [List.cons_append, sumv_cons, sumv_cons, ih, Int.add_assoc]
theorem sumv_take {ls : List (List Int)} {k : Nat} (hk : k < ls.length) : sumv (ls.take (k + 1)) = sumv (ls.take k) + vb B64 (ls.getD k []) := by
  rw [List.take_succ_eq_append_getElem hk, sumv_append, List.getD_eq_getElem?_getD, List.getElem?_eq_getElem hk]
  simp [sumv]

theorem sum_bound {ls : List (List Int)} {k s : Nat} (hk : k < ls.length) (hl : Lim B64 (ls.getD k [])) (ht : tlen (ls.getD k []) ≤ s) (h : sumv (ls.take k) ≤ (k : Int) * B64 ^ s) : sumv (ls.take (k + 1)) ≤ ((k + 1 : Nat) : Int) * B64 ^ s := by
  rw [sumv_take hk]
  have h1 : vb B64 (ls.getD k []) < B64 ^ s := by
    rw [← vb_tr]
    have h2 := vb_lt B64_pos (can_tr hl).lim
    rw [tr_length] at h2
    have h3 := pow_le_pow B64_pos ht
    omega
  have e : ((k + 1 : Nat) : Int) * B64 ^ s = (k : Int) * B64 ^ s + B64 ^ s := by
    rw [Int.natCast_add, Int.add_mul]; simp
  omega
theorem sum_fit {x : Int} {k s : Nat} (h : x ≤ (k : Int) * B64 ^ s) (hk : k < 4294967297) : x < B64 ^ (s + 1) := by
  have hp := pow_pos' B64_pos s
  have : (k : Int) * B64 ^ s ≤ 4294967296 * B64 ^ s := Int.mul_le_mul_of_nonneg_right (by omega) (Int.le_of_lt hp)
  have e : B64 ^ (s + 1) = 18446744073709551616 * B64 ^ s := by rw [Int.pow_succ, Int.mul_comm]; rfl
  omega

end Go.Proofs.Ytkkjkohmekbdbaa

namespace Go.Proofs.Ytkkjkohmekbdbaa
open Go.RowKit

/-- What nat.distance returns. -/
def RetDist (na : Nat) (A B : Int) (w : World) (e : Ending) (w' : World) : Prop :=
  ∃ l, e = .returned (.tuple #[.slice (some ⟨w.heap.size, 0, none⟩) na na, .bool (decide (A < B))]) ∧ l.length = na ∧ Lim B64 l ∧ Arr w' w.heap.size 0 l ∧ vb B64 l = (if A < B then B - A else A - B) ∧ Below w.heap.size w w' ∧ w.heap.size < w'.heap.size

theorem copied {n : Nat} {l : List Int} (hl : l.length ≤ n) (hlim : Lim B64 l) : (l.take n ++ (List.replicate n (0 : Int)).drop l.length).length = n ∧ Lim B64 (l.take n ++ (List.replicate n (0 : Int)).drop l.length) ∧ vb B64 (l.take n ++ (List.replicate n (0 : Int)).drop l.length) = vb B64 l := by
  refine ⟨by rw [List.length_append, List.length_take, List.length_drop, List.length_replicate]; omega, (hlim.take n).app ((Lim.replicate B64_pos n).drop _), ?_⟩
  rw [List.take_of_length_le hl, vb_append, List.drop_replicate, vb_replicate]
  simp

end Go.Proofs.Ytkkjkohmekbdbaa
