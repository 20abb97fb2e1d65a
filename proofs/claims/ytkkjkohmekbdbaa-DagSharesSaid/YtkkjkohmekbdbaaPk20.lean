/-
  Whole4: Contract of whole.Int.Add: any number of integers. Contracts of package whole: Add of one, Sub, Text of small amounts.
  Product: Contract of whole.product: the product of any count of numbers, by halves.
  WholeM: Contract of whole.Int.Mul: any number of integers.
  WholeT: Contracts of whole.Int.Text, whole.Int.Shl and the reference's Digits. Rows of one integer as the arguments of Add and Mul, cells of a new row, and what new memory leaves of a cell.
-/
import Derived.Test.YtkkjkohmekbdbaaPk19
import Derived.Test.YtkkjkohmekbdbaaPk18
import Derived.Laws.AppendOwnNone
import Derived.Test.YtkkjkohmekbdbaaPk6
import Derived.Deep.RegionWith

namespace Go.Proofs.Ytkkjkohmekbdbaa
open Go.RowKit


/-- Integers as a row holds them: below 0 or not, the amount's slice, the amount. -/
abbrev Els := List (Bool × Value × Int)
def cel (l : Els) : List Value := l.flatMap fun e => [.bool e.1, e.2.1]
def pls (l : Els) : List Value := (l.filter fun e => !e.1).map (·.2.1)
def mis (l : Els) : List Value := (l.filter fun e => e.1).map (·.2.1)
def zsum (l : Els) : Int := (l.map fun e => sg e.1 e.2.2).sum
def psum (l : Els) : Int := ((l.filter fun e => !e.1).map (·.2.2)).sum
def msum (l : Els) : Int := ((l.filter fun e => e.1).map (·.2.2)).sum
def EOk (w : World) (m : Nat) (e : Bool × Value × Int) : Prop := ∃ a n c, e.2.1 = .slice a n c ∧ Num w (.slice a n c) e.2.2 m
/-- A slice of integers reads so. -/
def RdI (w : World) (ao : Option Addr) (l : Els) : Prop := ∀ a, ao = some a → ∀ j u, (cel l)[j]? = some u → w.cell? (a.add j) = some u

theorem cel_cons (e : Bool × Value × Int) (l : Els) : cel (e :: l) = .bool e.1 :: e.2.1 :: cel l := rfl
theorem cel_length (l : Els) : (cel l).length = l.length * 2 := by
  induction l with
  | nil => rfl
  | cons e l ih => rw [cel_cons]; simp [ih]; omega
theorem cel_get {l : Els} {k : Nat} (hk : k < l.length) : (cel l)[k * 2]? = some (.bool (l.getD k (false, undef, 0)).1) ∧ (cel l)[k * 2 + 1]? = some (l.getD k (false, undef, 0)).2.1 := by
  induction l generalizing k with
  | nil => simp at hk
  | cons e l ih =>
    cases k with
    | zero => exact ⟨rfl, rfl⟩
    | succ k =>
      have := ih (k := k) (by simpa using hk)
      rw [cel_cons, show (k + 1) * 2 = k * 2 + 1 + 1 by omega, show k * 2 + 1 + 1 + 1 = (k * 2 + 1) + 1 + 1 by omega]
      simpa using this
theorem zsum_split (l : Els) : zsum l = psum l - msum l := by
  induction l with
  | nil => rfl
  | cons e l ih =>
    obtain ⟨b, v, N⟩ := e
    simp only [zsum, psum, msum, sg] at ih ⊢
    cases b <;> simp <;> omega
theorem take_snoc {l : Els} {k : Nat} (hk : k < l.length) : l.take (k + 1) = l.take k ++ [l.getD k (false, undef, 0)] := by
  rw [List.take_succ_eq_append_getElem hk, List.getD_eq_getElem?_getD, List.getElem?_eq_getElem hk]
  rfl
theorem pls_snoc {l : Els} {k : Nat} (hk : k < l.length) {b : Bool} {v : Value} {N : Int} (he : l.getD k (false, undef, 0) = (b, v, N)) : pls (l.take (k + 1)) = pls (l.take k) ++ (if b then [] else [v]) := by
  rw [take_snoc hk, he]
  cases b <;> simp [pls]
theorem mis_snoc {l : Els} {k : Nat} (hk : k < l.length) {b : Bool} {v : Value} {N : Int} (he : l.getD k (false, undef, 0) = (b, v, N)) : mis (l.take (k + 1)) = mis (l.take k) ++ (if b then [v] else []) := by
  rw [take_snoc hk, he]
  cases b <;> simp [mis]
theorem pls_len (l : Els) : (pls l).length ≤ l.length := by unfold pls; rw [List.length_map]; exact List.length_filter_le ..
theorem mis_len (l : Els) : (mis l).length ≤ l.length := by unfold mis; rw [List.length_map]; exact List.length_filter_le ..

/-- The lists of words behind a row of numbers. -/
theorem lists_of {w : World} {m : Nat} (l : List (Value × Int)) (h : ∀ e ∈ l, Num w e.1 e.2 m) : ∃ ls : List (List Int), ls.length = (l.map (·.1)).length ∧ (∀ j, j < (l.map (·.1)).length → RdV w ((l.map (·.1)).getD j undef) (ls.getD j [])) ∧ (∀ j, (ls.getD j []).length ≤ m) ∧ sumv ls = (l.map (·.2)).sum ∧
    (l.map (·.2)).sum ≤ l.length * B64 ^ m := by
  induction l with
  | nil => exact ⟨[], rfl, fun j hj => by simp at hj, fun j => by simp, rfl, by simp⟩
  | cons e l ih =>
    obtain ⟨ls, h1, h2, h3, h4, h5⟩ := ih (fun x hx => h x (List.mem_cons_of_mem _ hx))
    have hn := h e (List.mem_cons_self ..)
    have hlt := hn.lt
    obtain ⟨l0, k1, k2, k3⟩ := hn
    refine ⟨l0 :: ls, by simpa using h1, ?_, ?_, ?_, ?_⟩
    · intro j hj
      cases j with
      | zero => exact k1
      | succ j => exact h2 j (by simpa using hj)
    · intro j
      cases j with
      | zero => exact k3
      | succ j => exact h3 j
    · rw [sumv_cons, h4, k2]; simp
    · simp only [List.map_cons, List.sum_cons, List.length_cons]
      have e : ((l.length + 1 : Nat) : Int) * B64 ^ m = l.length * B64 ^ m + B64 ^ m := by
        rw [Int.natCast_add, Int.add_mul]; simp
      omega

theorem newv1_at (w : World) (a : Value) (t : TypeId) (g : Nat) (hg : w.heap.size = g) : ∀ j u, [a][j]? = some u → (w.alloc (.cells #[a] t)).cell? ((⟨g, 0, none⟩ : Addr).add j) = some u := by
  subst hg
  exact newv1 w a t

theorem RetW.alloc {w : World} {o : Obj} {Z : Int} {m : Nat} {e : Ending} {w' : World} (h : RetW (w.alloc o) Z m e w') : RetW w Z m e w' := by
  obtain ⟨neg, a, n, c, N, h1, h2, h3, h4, h5⟩ := h
  exact ⟨neg, a, n, c, N, h1, h2.base (by simp), h3, h4, (below_alloc w o).trans (h5.mono (by simp))⟩

theorem rdi_new (w : World) (l : Els) (t : TypeId) (g : Nat) (hg : w.heap.size = g) : RdI (w.alloc (.cells (cel l).toArray t)) (some ⟨g, 0, none⟩) l := by
  subst hg
  intro ad had j u hu
  cases had
  rw [addr_add_none, Nat.zero_add, World.cell?_alloc_new, List.getElem?_toArray]
  exact hu

end Go.Proofs.Ytkkjkohmekbdbaa

namespace Go.Proofs.Ytkkjkohmekbdbaa
open Go.RowKit

def prodl : List Int → Int
  | [] => 1
  | x :: l => x * prodl l
theorem prodl_append (l m : List Int) : prodl (l ++ m) = prodl l * prodl m := by
  induction l with
  | nil => simp [prodl]
  | cons x l ih => rw [List.cons_append, prodl, prodl, ih, Int.mul_assoc]
theorem prodl_halves (l : List Int) (h : Nat) : prodl (l.take h) * prodl (l.drop h) = prodl l := by rw [← prodl_append, List.take_append_drop]

/-- Every value of a row is a number. -/
def Nums (w : World) (m : Nat) (vs : List Value) (Ns : List Int) : Prop := vs.length = Ns.length ∧ ∀ j, j < vs.length → ∃ a n c, vs.getD j undef = .slice a n c ∧ Num w (.slice a n c) (Ns.getD j 0) m
theorem Nums.below {w w' : World} {m : Nat} {vs : List Value} {Ns : List Int} (h : Nums w m vs Ns) (hb : Below w.heap.size w w') : Nums w' m vs Ns := by
  refine ⟨h.1, fun j hj => ?_⟩
  obtain ⟨a, n, c, e, k⟩ := h.2 j hj
  exact ⟨a, n, c, e, k.below hb⟩
theorem getD_take' {α : Type} (l : List α) (d : α) {k j : Nat} (h : j < k) : (l.take k).getD j d = l.getD j d := by
  rw [List.getD_eq_getElem?_getD, List.getElem?_take, if_pos h, List.getD_eq_getElem?_getD]
theorem getD_drop' {α : Type} (l : List α) (d : α) (k j : Nat) : (l.drop k).getD j d = l.getD (k + j) d := by
  rw [List.getD_eq_getElem?_getD, List.getElem?_drop, List.getD_eq_getElem?_getD]
theorem Nums.take {w : World} {m : Nat} {vs : List Value} {Ns : List Int} (h : Nums w m vs Ns) (k : Nat) : Nums w m (vs.take k) (Ns.take k) := by
  refine ⟨by rw [List.length_take, List.length_take, h.1], fun j hj => ?_⟩
  rw [List.length_take] at hj
  rw [getD_take' _ _ (by omega), getD_take' _ _ (by omega)]
  exact h.2 j (by omega)
theorem Nums.drop {w : World} {m : Nat} {vs : List Value} {Ns : List Int} (h : Nums w m vs Ns) (k : Nat) : Nums w m (vs.drop k) (Ns.drop k) := by
  refine ⟨by rw [List.length_drop, List.length_drop, h.1], fun j hj => ?_⟩
  rw [List.length_drop] at hj
  rw [getD_drop', getD_drop']
  exact h.2 (k + j) (by omega)
theorem RdRow.drop {w : World} {b o : Nat} {vs : List Value} (h : RdRow w (some ⟨b, o, none⟩) vs) (k : Nat) : RdRow w (some ⟨b, o + k, none⟩) (vs.drop k) := by
  rcases h with rfl | ⟨b', o', e, h⟩
  · exact Or.inl (by simp)
  · cases e
    refine Or.inr ⟨b, o + k, rfl, fun j v hv => ?_⟩
    rw [List.getElem?_drop] at hv
    rw [Nat.add_assoc]
    exact h _ v hv
theorem RdRow.take' {w : World} {ao : Option Addr} {vs : List Value} (h : RdRow w ao vs) (k : Nat) : RdRow w ao (vs.take k) := by
  rcases h with rfl | ⟨b, off, rfl, h⟩
  · exact Or.inl (by simp)
  · refine Or.inr ⟨b, off, rfl, fun j v hv => h j v ?_⟩
    rw [List.getElem?_take] at hv
    split at hv
    · exact hv
    · cases hv

/-- What whole.product returns. -/
def RetPr (w : World) (N : Int) (n M : Nat) (e : Ending) (w' : World) : Prop :=
  ∃ a k c, e = .returned (.slice a k c) ∧ Num w' (.slice a k c) N M ∧ (2 ≤ n → NewN w.heap.size w' (.slice a k c) N M) ∧ Below w.heap.size w w'

end Go.Proofs.Ytkkjkohmekbdbaa

namespace Go.Proofs.Ytkkjkohmekbdbaa
open Go.RowKit

/-- The sign of a product. -/
def negf (p : Bool) (l : Els) : Bool := l.foldl (fun b e => !(b == e.1)) p
def zprod (l : Els) : Int := prodl (l.map fun e => sg e.1 e.2.2)
theorem sg_mul (p b : Bool) (A N : Int) : sg (!(p == b)) (A * N) = sg p A * sg b N := by
  cases p <;> cases b <;> simp [sg, Int.neg_mul, Int.mul_neg]
theorem negf_prod (p : Bool) (A : Int) (l : Els) : sg (negf p l) (A * prodl (l.map (·.2.2))) = sg p A * zprod l := by
  induction l generalizing p A with
  | nil => simp [negf, zprod, prodl]
  | cons e l ih =>
    have h := ih (!(p == e.1)) (A * e.2.2)
    rw [sg_mul, Int.mul_assoc, Int.mul_assoc] at h
    simp only [zprod, List.map_cons, prodl] at h ⊢
    exact h
theorem negf_snoc {p : Bool} {l : Els} {k : Nat} (hk : k < l.length) {b : Bool} {v : Value} {N : Int} (he : l.getD k (false, undef, 0) = (b, v, N)) : negf p (l.take (k + 1)) = !(negf p (l.take k) == b) := by
  rw [take_snoc hk, he, negf, List.foldl_append]; rfl
theorem mags_snoc {l : Els} {k : Nat} (hk : k < l.length) {b : Bool} {v : Value} {N : Int} (he : l.getD k (false, undef, 0) = (b, v, N)) : (l.take (k + 1)).map (·.2.1) = (l.take k).map (·.2.1) ++ [v] := by
  rw [take_snoc hk, he, List.map_append]; rfl

end Go.Proofs.Ytkkjkohmekbdbaa

namespace Go.Proofs.Ytkkjkohmekbdbaa
open Go.RowKit


/-- The decimal text of an integer. -/
def tw (Z : Int) : ByteArray := if Z < 0 then ⟨#[45]⟩ ++ strOfNums (dec (-Z)) else strOfNums (dec Z)
theorem dec_small {N : Int} (h0 : 0 ≤ N) (hN : N < B64 ^ 1) : (strOfNums (dec N)).size ≤ 21 := by
  rw [dec_size]
  have e : B64 ^ 1 < 10 ^ 20 := by decide
  exact dec_len h0 (by omega)

theorem sg_scale (neg : Bool) (N P : Int) : sg neg (N * P) = sg neg N * P := by cases neg <;> simp [sg, Int.neg_mul]

theorem rdi_one {w : World} {g : Nat} {q : Bool} {a : Option Addr} {n c : Nat} {B : Int} (h0 : w.cell? ⟨g, 0, none⟩ = some (.bool q)) (h1 : w.cell? ⟨g, 1, none⟩ = some (.slice a n c)) : RdI w (some ⟨g, 0, none⟩) [(q, .slice a n c, B)] := by
  intro ad had j u hu
  cases had
  match j, hu with
  | 0, hu =>
    have e : u = .bool q := by simpa [cel] using hu.symm
    rw [e]; exact h0
  | 1, hu =>
    have e : u = .slice a n c := by simpa [cel] using hu.symm
    rw [e]; exact h1
  | j + 2, hu => simp [cel] at hu

theorem new_cell {w : World} {x y : Value} {t : TypeId} : (w.alloc (.cells #[x, y] t)).cell? ⟨w.heap.size, 0, none⟩ = some x ∧ (w.alloc (.cells #[x, y] t)).cell? ⟨w.heap.size, 1, none⟩ = some y := by
  constructor <;> rw [World.cell?_alloc_new] <;> rfl

theorem cell_after {w w' : World} {g j : Nat} {x : Value} (hb : Below w.heap.size w w') (h : w.cell? ⟨g, j, none⟩ = some x) : w'.cell? ⟨g, j, none⟩ = some x := by
  rw [hb.cell (p := ⟨g, j, none⟩) (World.block_lt_of_cell? (a := ⟨g, j, none⟩) _ h)]; exact h
theorem sign_square {v : Int} : cmpI (v * v) 0 = cmpI v 0 * cmpI v 0 := by
  rcases Int.lt_trichotomy v 0 with h | h | h
  · have : 0 < v * v := Int.mul_pos_of_neg_of_neg h h
    rw [cmpI_lt h, cmpI_gt this]; rfl
  · subst h; rfl
  · have : 0 < v * v := Int.mul_pos h h
    rw [cmpI_gt h, cmpI_gt this]; rfl

end Go.Proofs.Ytkkjkohmekbdbaa
