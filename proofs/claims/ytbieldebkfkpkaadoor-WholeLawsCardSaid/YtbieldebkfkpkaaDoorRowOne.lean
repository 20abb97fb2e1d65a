/-
  Rows of one integer as the arguments of Add and Mul, cells of a new row, and what new memory leaves of a cell.
-/
import Derived.Test.YtbieldebkfkpkaaDoorWholeT
namespace Go.Proofs.YtbieldebkfkpkaaDoor
open Go.RowKit

theorem rdi_one {w : World} {g : Nat} {q : Bool} {a : Option Addr} {n c : Nat} {B : Int} (h0 : w.cell? ⟨g, 0, none⟩ = some (.bool q)) (h1 : w.cell? ⟨g, 1, none⟩ = some (.slice a n c)) : RdI w (some ⟨g, 0, none⟩) [(q, .slice a n c, B)] := by
  intro ad had j u hu
  cases had
  match j, hu with
  | 0, hu =>
    have e : u = .bool q := by simpa [cel] using hu.symm
    rw [e]; exact h0
  | 1, hu =>
    have e : u = .slice a n c := by simpa [cel] using hu.symm
    rw [e]; exact h1
  | j + 2, hu => simp [cel] at hu

theorem mulw1_in {w : World} (p q : Bool) {a : Option Addr} {n c : Nat} {A : Int} {m : Nat} {a' : Option Addr} {n' c' : Nat} {B : Int} {g : Nat} (h0 : w.cell? ⟨g, 0, none⟩ = some (.bool q)) (h1 : w.cell? ⟨g, 1, none⟩ = some (.slice a' n' c')) (hA : Num w (.slice a n c) A m) (hB : Num w (.slice a' n' c') B m) (hm : m ≤ 90) :
    Calls Tryd.prog 43 #[.agg #[.bool p, .slice a n c], .slice (some ⟨g, 0, none⟩) 1 1] w fun e w' => RetW w (sg p A * sg q B) (2 * m) e w' := by
  refine (mulw_num p hA g 0 1 1 [(q, .slice a' n' c', B)] rfl (Nat.le_refl _) (rdi_one h0 h1) ?_ (by decide) hm).mono ?_
  · intro e he
    rw [List.mem_singleton] at he
    subst he
    exact ⟨a', n', c', rfl, hB⟩
  · intro e w' h
    simpa [zprod, prodl] using h
theorem addw1_in {w : World} (p q : Bool) {a : Option Addr} {n c : Nat} {A : Int} {m : Nat} {a' : Option Addr} {n' c' : Nat} {B : Int} {g : Nat} (h0 : w.cell? ⟨g, 0, none⟩ = some (.bool q)) (h1 : w.cell? ⟨g, 1, none⟩ = some (.slice a' n' c')) (hA : Num w (.slice a n c) A m) (hB : Num w (.slice a' n' c') B m) (hm : m ≤ 1000) :
    Calls Tryd.prog 39 #[.agg #[.bool p, .slice a n c], .slice (some ⟨g, 0, none⟩) 1 1] w fun e w' => RetW w (sg p A + sg q B) (m + 1) e w' := by
  refine (addw_num p hA (some ⟨g, 0, none⟩) 1 1 [(q, .slice a' n' c', B)] rfl (fun h => by cases h) (rdi_one h0 h1) ?_ (by simp) hm).mono ?_
  · intro e he
    rw [List.mem_singleton] at he
    subst he
    exact ⟨a', n', c', rfl, hB⟩
  · intro e w' h
    simpa [zsum] using h
theorem new_cell {w : World} {x y : Value} {t : TypeId} : (w.alloc (.cells #[x, y] t)).cell? ⟨w.heap.size, 0, none⟩ = some x ∧ (w.alloc (.cells #[x, y] t)).cell? ⟨w.heap.size, 1, none⟩ = some y := by
  constructor <;> rw [World.cell?_alloc_new] <;> rfl

theorem cell_after {w w' : World} {g j : Nat} {x : Value} (hb : Below w.heap.size w w') (h : w.cell? ⟨g, j, none⟩ = some x) : w'.cell? ⟨g, j, none⟩ = some x := by
  rw [hb.cell (p := ⟨g, j, none⟩) (World.block_lt_of_cell? (a := ⟨g, j, none⟩) _ h)]; exact h
theorem sign_square {v : Int} : cmpI (v * v) 0 = cmpI v 0 * cmpI v 0 := by
  rcases Int.lt_trichotomy v 0 with h | h | h
  · have : 0 < v * v := Int.mul_pos_of_neg_of_neg h h
    rw [cmpI_lt h, cmpI_gt this]; rfl
  · subst h; rfl
  · have : 0 < v * v := Int.mul_pos h h
    rw [cmpI_gt h, cmpI_gt this]; rfl

end Go.Proofs.YtbieldebkfkpkaaDoor
