/-
  Products and quotients in the words of XNum.
-/
import Derived.Test.YtfhknnmffppfgaaDoorNum
import Derived.Test.YtfhknnmffppfgaaDoorMul
import Derived.Test.YtfhknnmffppfgaaDoorDivMod
namespace Go.Proofs.YtfhknnmffppfgaaDoor
open Go.RowKit

theorem mul_num {w : World} {u v : Value} {A B : Int} {m k p : Nat} (cut : Int) (h : Num w u A m) (g : Num w v B k) (hp : m + k ≤ p) (hp2 : p ≤ 100000) (hcut : cut ≤ 9223372036854775807) :
    Calls Tryd.prog 14 #[.int .i64 cut, u, v] w fun e w' => RetN w (A * B) p e w' := by
  have hs : A * B < B64 ^ p := by
    refine Int.lt_of_lt_of_le (prod_lt h.lt g.lt h.nonneg g.nonneg) ?_
    rw [← Int.pow_add]
    exact pow_le_pow B64_pos hp
  obtain ⟨a, n, c, l, rfl, h1, h2, h3, h4, h5, rfl, h7⟩ := h.open
  obtain ⟨a', n', c', l', rfl, g1, g2, g3, g4, g5, rfl, g7⟩ := g.open
  exact (mul_any cut a n c l a' n' c' l' w h1 g1 h2 h3 g2 g3 h4 g4 h5 g5 (by omega) hcut).mono fun e w' hr => hr.retn hs

/-- The same, and true. -/
def RetDN (w : World) (N M : Int) (m k : Nat) (e : Ending) (w' : World) : Prop :=
  ∃ a n c a' n' c', e = .returned (.tuple #[.slice a n c, .slice a' n' c', .bool true]) ∧ NewN w.heap.size w' (.slice a n c) N m ∧ NewN w.heap.size w' (.slice a' n' c') M k ∧ Dis (.slice a n c) (.slice a' n' c') ∧ Below w.heap.size w w'

theorem dm_num {w : World} {u v : Value} {A B : Int} {m k : Nat} (h : Num w u A m) (g : Num w v B k) (hm : m ≤ 150) (hk : k ≤ 100000) (h0 : B ≠ 0) :
    Calls Tryd.prog 13 #[u, v] w fun e w' => RetDN w (A / B) (A % B) m k e w' := by
  have hA := h.nonneg
  have hB := g.nonneg
  have hs1 : A / B < B64 ^ m := Int.lt_of_le_of_lt (Int.ediv_le_self _ hA) h.lt
  have hs2 : A % B < B64 ^ k := Int.lt_trans (Int.emod_lt_of_pos A (by omega)) g.lt
  obtain ⟨a, n, c, l, rfl, h1, h2, h3, h4, h5, rfl, h7⟩ := h.open
  obtain ⟨a', n', c', l', rfl, g1, g2, g3, g4, g5, rfl, g7⟩ := g.open
  refine (dm_any a n c l a' n' c' l' w h1 g1 h2 h3 g2 g3 h4 g4 h5 g5 (by omega) (by omega) (by omega)).mono ?_
  rintro e w' ⟨vq, lq, vr, lr, rfl, q1, q2, q3, r1, r2, r3, hd, hb⟩
  obtain ⟨aq, nq, cq, rfl⟩ := q1.slice
  obtain ⟨ar, nr, cr, rfl⟩ := r1.slice
  exact ⟨aq, nq, cq, ar, nr, cr, rfl, q1.newn q2 q3 hs1, r1.newn r2 r3 hs2, hd, hb⟩
theorem dm_num0 {w : World} {u v : Value} {A : Int} {m k : Nat} (h : Num w u A m) (g : Num w v 0 k) :
    Calls Tryd.prog 13 #[u, v] w fun e w' => e = .returned (.tuple #[.slice none 0 0, .slice none 0 0, .bool false]) ∧ w = w' := by
  obtain ⟨a, n, c, l, rfl, h1, h2, h3, h4, h5, h6, h7⟩ := h.open
  obtain ⟨a', n', c', l', rfl, g1, g2, g3, g4, g5, g6, g7⟩ := g.open
  exact dm_zero a n c l a' n' c' l' w h1 g1 h2 h3 g2 g3 h4 g4 g5 g6

end Go.Proofs.YtfhknnmffppfgaaDoor
