/-
  Variables of the program that hold integers, and rows of integers of the call's own: what they read as, and what stores, appends and new memory leave of them.
-/
import Derived.Test.YtbieldebkfkpkaaDoorSlotsTail
import Derived.Test.YtbieldebkfkpkaaDoorRowOne
import Derived.Test.YtbieldebkfkpkaaDoorWholeM
namespace Go.Proofs.YtbieldebkfkpkaaDoor
open Go.RowKit

/-- A number in memory that the program made as words. -/
abbrev TN (w : World) (v : Value) (N : Int) (m : Nat) : Prop := NewN 0 w v N m
/-- A variable of type whole.Int holds Z, whose amount takes at most m words. -/
def VarI (w : World) (g : Nat) (Z : Int) (m : Nat) : Prop :=
  ∃ p a n c N, w.heap[g]? = some (.cells #[.bool p, .slice a n c] 45 (0, 0)) ∧ TN w (.slice a n c) N m ∧ Z = sg p N
/-- A row of integers of the call's own. -/
def OwI (base : Nat) (w : World) (v : Value) (els : Els) : Prop := w.ownsRow base 45 2 v els.length (cel els)
/-- The elements of a row are integers of at most m words. -/
def EI (w : World) (m : Nat) (els : Els) : Prop := ∀ e ∈ els, ∃ a n c, e.2.1 = .slice a n c ∧ TN w (.slice a n c) e.2.2 m

theorem NewN.typed {base : Nat} {w : World} {a : Option Addr} {n c : Nat} {N : Int} {m : Nat} (h : NewN base w (.slice a n c) N m) : ∀ g, (Value.slice a n c).ownBlock = some g → ∃ cur, w.heap[g]? = some (.cells cur 68 (0, 0)) := by
  obtain ⟨l, h1, -⟩ := h
  intro g hg
  rcases h1.2 with ⟨hv, _⟩ | ⟨g', cap, cur, hv, hb, hh, _⟩
  · simp only [Value.slice.injEq] at hv
    obtain ⟨rfl, rfl, rfl⟩ := hv
    simp [Value.ownBlock] at hg
  · simp only [Value.slice.injEq] at hv
    obtain ⟨rfl, rfl, rfl⟩ := hv
    simp only [Value.ownBlock, Option.some.injEq] at hg
    subst hg
    exact ⟨cur, hh⟩
theorem TN.of {base : Nat} {w : World} {v : Value} {N : Int} {m : Nat} (h : NewN base w v N m) : TN w v N m := NewN.base h (Nat.zero_le _)
/-- What is written into a block of another kind leaves a number as it was. -/
theorem TN.other {w w' : World} {a : Option Addr} {n c : Nat} {N : Int} {m g lo hi : Nat} (h : TN w (.slice a n c) N m) {cs : Array Value} {t : TypeId} (hv : w.heap[g]? = some (.cells cs t (0, 0))) (ht : t ≠ 68) (ho : Only g lo hi w w') : TN w' (.slice a n c) N m := by
  have hty := h.typed
  obtain ⟨l, h1, h2⟩ := h
  refine ⟨l, h1.only' ho (fun e => ?_), h2⟩
  obtain ⟨cur, hc⟩ := hty g e
  rw [hv] at hc
  simp only [Option.some.injEq, Obj.cells.injEq] at hc
  exact ht hc.2.1
theorem TN.grown {w w' : World} {a : Option Addr} {n c : Nat} {N : Int} {m : Nat} {row : Option Nat} (h : TN w (.slice a n c) N m) (hg : w.grownBy w' row) (hr : ∀ g, row = some g → ∃ cs t, w.heap[g]? = some (.cells cs t (0, 0)) ∧ t ≠ 68) : TN w' (.slice a n c) N m := by
  have hty := h.typed
  obtain ⟨l, h1, h2⟩ := h
  refine ⟨l, ⟨h1.1, ?_⟩, h2⟩
  rcases h1.2 with h3 | ⟨g, cap, cur, hv, hb, hh, r⟩
  · exact Or.inl h3
  · refine Or.inr ⟨g, cap, cur, hv, hb, ?_, r⟩
    rw [hg.block g (Array.getElem?_eq_some_iff.1 hh).1 (fun e => ?_)]
    · exact hh
    · obtain ⟨cs, t, h4, h5⟩ := hr g e.symm
      rw [hh] at h4
      simp only [Option.some.injEq, Obj.cells.injEq] at h4
      exact h5 h4.2.1.symm

theorem VarI.below {w w' : World} {g : Nat} {Z : Int} {m : Nat} (h : VarI w g Z m) (hb : Below w.heap.size w w') : VarI w' g Z m := by
  obtain ⟨p, a, n, c, N, h1, h2, h3⟩ := h
  exact ⟨p, a, n, c, N, slot_kept h1 hb, NewN.below h2 hb, h3⟩
theorem VarI.lt {w : World} {g : Nat} {Z : Int} {m : Nat} (h : VarI w g Z m) : g < w.heap.size := by
  obtain ⟨p, a, n, c, N, h1, -⟩ := h
  exact (Array.getElem?_eq_some_iff.1 h1).1
theorem VarI.eq {w : World} {g : Nat} {Z Z' : Int} {m : Nat} (h : VarI w g Z m) (e : Z = Z') : VarI w g Z' m := e ▸ h
theorem VarI.mono {w : World} {g : Nat} {Z : Int} {m k : Nat} (h : VarI w g Z m) (hk : m ≤ k) : VarI w g Z k := by
  obtain ⟨p, a, n, c, N, h1, h2, h3⟩ := h
  exact ⟨p, a, n, c, N, h1, NewN.mono h2 hk, h3⟩
/-- The cells of such a variable. -/
theorem VarI.open {w : World} {g : Nat} {Z : Int} {m : Nat} (h : VarI w g Z m) : ∃ p a n c N, w.cell? ⟨g, 0, none⟩ = some (.bool p) ∧ w.cell? ⟨g, 1, none⟩ = some (.slice a n c) ∧ w.frozen? ⟨g, 0, none⟩ = false ∧ w.frozen? ⟨g, 1, none⟩ = false ∧ TN w (.slice a n c) N m ∧ Z = sg p N := by
  obtain ⟨p, a, n, c, N, h1, h2, h3⟩ := h
  obtain ⟨k0, k1, k2, k3⟩ := slot2 h1
  exact ⟨p, a, n, c, N, k0, k1, k2, k3, h2, h3⟩
/-- A store into another variable. -/
theorem VarI.other {w w' : World} {g g' : Nat} {Z : Int} {m lo hi : Nat} (h : VarI w g' Z m) {cs : Array Value} {t : TypeId} (hv : w.heap[g]? = some (.cells cs t (0, 0))) (ht : t ≠ 68) (ho : Only g lo hi w w') (hne : g' ≠ g) : VarI w' g' Z m := by
  obtain ⟨p, a, n, c, N, h1, h2, h3⟩ := h
  exact ⟨p, a, n, c, N, (ho.block g' (Array.getElem?_eq_some_iff.1 h1).1 hne).trans h1, TN.other h2 hv ht ho, h3⟩
theorem VarI.grown {w w' : World} {g : Nat} {Z : Int} {m : Nat} {row : Option Nat} (h : VarI w g Z m) (hg : w.grownBy w' row) (hr : ∀ g, row = some g → ∃ cs t, w.heap[g]? = some (.cells cs t (0, 0)) ∧ t ≠ 68) (hne : row ≠ some g) : VarI w' g Z m := by
  obtain ⟨p, a, n, c, N, h1, h2, h3⟩ := h
  exact ⟨p, a, n, c, N, by rw [hg.block g (Array.getElem?_eq_some_iff.1 h1).1 (fun e => hne e.symm)]; exact h1, TN.grown h2 hg hr, h3⟩
/-- The variable behind a store of a whole value. -/
theorem VarI.set {w : World} {g : Nat} {x y : Value} (hv : w.heap[g]? = some (.cells #[x, y] 45 (0, 0))) {p : Bool} {a : Option Addr} {n c : Nat} {N : Int} {m : Nat} (h : TN w (.slice a n c) N m) :
    VarI ((w.setCell ⟨g, 0, none⟩ (.bool p)).setCell ⟨g, 1, none⟩ (.slice a n c)) g (sg p N) m :=
  ⟨p, a, n, c, N, slot_set hv, TN.other h hv (by decide) (slot_only _ _), rfl⟩
/-- A new variable. -/
theorem VarI.new {w : World} {p : Bool} {a : Option Addr} {n c : Nat} {N : Int} {m : Nat} (h : TN w (.slice a n c) N m) : VarI (w.alloc (.cells #[.bool p, .slice a n c] 45)) w.heap.size (sg p N) m :=
  ⟨p, a, n, c, N, heap_alloc_new w _, NewN.below h (below_alloc w _), rfl⟩

theorem OwI.nil (base : Nat) (w : World) : OwI base w (.slice none 0 0) [] := World.ownsRow_nil _ _ _ _
theorem OwI.lt {base : Nat} {w : World} {v : Value} {els : Els} (h : OwI base w v els) : ∀ g, v.ownBlock = some g → base ≤ g ∧ g < w.heap.size := fun g hg => World.ownsRow.lt h g hg
theorem OwI.typed {base : Nat} {w : World} {v : Value} {els : Els} (h : OwI base w v els) : ∀ g, v.ownBlock = some g → ∃ cs t, w.heap[g]? = some (.cells cs t (0, 0)) ∧ t ≠ 68 := by
  intro g hg
  rcases h.2 with ⟨rfl, _⟩ | ⟨g', cap, cur, rfl, hb, hh, _⟩
  · simp [Value.ownBlock] at hg
  · simp only [Value.ownBlock, Option.some.injEq] at hg
    subst hg
    exact ⟨cur, _, hh, by decide⟩
theorem OwI.below {base : Nat} {w w' : World} {v : Value} {els : Els} (h : OwI base w v els) (hb : Below w.heap.size w w') : OwI base w' v els :=
  ⟨h.1, by
    rcases h.2 with h2 | ⟨g, cap, cur, hv, hg, hh, r⟩
    · exact Or.inl h2
    · exact Or.inr ⟨g, cap, cur, hv, hg, (hb.block g (Array.getElem?_eq_some_iff.1 hh).1).trans hh, r⟩⟩
theorem OwI.only {base : Nat} {w w' : World} {v : Value} {els : Els} {g lo hi : Nat} (h : OwI base w v els) (ho : Only g lo hi w w') (hg : g < base) : OwI base w' v els :=
  ⟨h.1, by
    rcases h.2 with h2 | ⟨g', cap, cur, hv, hb, hh, r⟩
    · exact Or.inl h2
    · exact Or.inr ⟨g', cap, cur, hv, hb, (ho.block g' (Array.getElem?_eq_some_iff.1 hh).1 (by omega)).trans hh, r⟩⟩
theorem OwI.form {base : Nat} {w : World} {v : Value} {els : Els} (h : OwI base w v els) : ∃ ao cap, v = .slice ao els.length cap ∧ els.length ≤ cap ∧ cap ≤ 9223372036854775807 ∧ RdI w ao els ∧ (ao = none → els.length = 0 ∧ cap = 0) ∧ (els ≠ [] → ∃ g, ao = some ⟨g, 0, none⟩) := by
  have h' := h
  obtain ⟨h1, h2⟩ := h
  rcases h2 with ⟨rfl, h0⟩ | ⟨g, cap, cur, rfl, hg, hh, hn, hm, hc, ht⟩
  · obtain rfl : els = [] := List.eq_nil_of_length_eq_zero h0
    exact ⟨none, 0, rfl, Nat.le_refl _, by omega, (fun _ e => by cases e), (fun _ => ⟨rfl, rfl⟩), fun h => absurd rfl h⟩
  · refine ⟨some ⟨g, 0, none⟩, cap, rfl, hn, by simpa [maxLen] using hm, ?_, (fun e => by cases e), fun _ => ⟨g, rfl⟩⟩
    intro ad had j u hu
    cases had
    exact World.ownsRow.cells h' rfl j u hu
theorem EI.below {w w' : World} {m : Nat} {els : Els} (h : EI w m els) (hb : Below w.heap.size w w') : EI w' m els := fun e he => by
  obtain ⟨a, n, c, h1, h2⟩ := h e he
  exact ⟨a, n, c, h1, NewN.below h2 hb⟩
theorem EI.other {w w' : World} {m : Nat} {els : Els} {g lo hi : Nat} (h : EI w m els) {cs : Array Value} {t : TypeId} (hv : w.heap[g]? = some (.cells cs t (0, 0))) (ht : t ≠ 68) (ho : Only g lo hi w w') : EI w' m els := fun e he => by
  obtain ⟨a, n, c, h1, h2⟩ := h e he
  exact ⟨a, n, c, h1, TN.other h2 hv ht ho⟩
theorem EI.grown {w w' : World} {m : Nat} {els : Els} {row : Option Nat} (h : EI w m els) (hg : w.grownBy w' row) (hr : ∀ g, row = some g → ∃ cs t, w.heap[g]? = some (.cells cs t (0, 0)) ∧ t ≠ 68) : EI w' m els := fun e he => by
  obtain ⟨a, n, c, h1, h2⟩ := h e he
  exact ⟨a, n, c, h1, TN.grown h2 hg hr⟩
theorem EI.eok {w : World} {m : Nat} {els : Els} (h : EI w m els) : ∀ e ∈ els, EOk w m e := fun e he => by
  obtain ⟨a, n, c, h1, h2⟩ := h e he
  exact ⟨a, n, c, h1, NewN.num h2⟩
theorem EI.snoc {w : World} {m : Nat} {els : Els} (h : EI w m els) {p : Bool} {a : Option Addr} {n c : Nat} {N : Int} (hN : TN w (.slice a n c) N m) : EI w m (els ++ [(p, .slice a n c, N)]) := fun e he => by
  rcases List.mem_append.1 he with he | he
  · exact h e he
  · rw [List.mem_singleton] at he
    subst he
    exact ⟨a, n, c, rfl, hN⟩
theorem zsum_snoc (els : Els) (p : Bool) (v : Value) (N : Int) : zsum (els ++ [(p, v, N)]) = zsum els + sg p N := by simp [zsum]
theorem prodl_snoc (l : List Int) (x : Int) : prodl (l ++ [x]) = prodl l * x := by rw [prodl_append]; simp [prodl]
theorem zprod_snoc (els : Els) (p : Bool) (v : Value) (N : Int) : zprod (els ++ [(p, v, N)]) = zprod els * sg p N := by
  unfold zprod
  rw [List.map_append]
  exact prodl_snoc _ _

/-- append(row of integers, one integer). -/
theorem wpList_append_int1 {P : Program} (w : World) {ops : Array Oper} {rest : List Oper} {o : Oper} {a : Act} {Q : Exit → Act → World → Prop} (hgd : o.guard = none) (s x : Operand) (t : TypeId)
    (ho : o.op = .call { callee := .builtin .append, args := #[s, x], argTypes := #[t, t] }) (ht : P.underlying t = some (.slice 45)) (hi : (P.info? 45).map (fun i => (i.zero, i.size, i.bytes)) = some (some (.agg #[.bool false, .slice none 0 0]), 2, 32))
    (base : Nat) (v : Value) (els : Els) (hs : a.eval s = v) (hown : OwI base w v els)
    (g cx : Nat) (p : Bool) (aN : Option Addr) (nN cN : Nat) (N : Int) (hx : a.eval x = .slice (some ⟨g, 0, none⟩) 1 cx) (h0 : w.cell? ⟨g, 0, none⟩ = some (.bool p)) (h1 : w.cell? ⟨g, 1, none⟩ = some (.slice aN nN cN))
    (hM : els.length + 1 ≤ 65536) (hbase : base ≤ w.heap.size)
    (hK : ∀ v' w', OwI base w' v' (els ++ [(p, .slice aN nN cN, N)]) → w.grownBy w' v.ownBlock → wpList P ops Q rest (a.put o.dst v') w') : wpList P ops Q (o :: rest) a w := by
  obtain ⟨i, h2, h3, h4, h5⟩ := info_parts hi
  refine wpList_append_own_at w hgd s x t ho base 45 i (.agg #[.bool false, .slice none 0 0]) 2 32 ht h2 h3 h4 h5 rfl (by decide) v els.length (cel els) hs hown ⟨g, 0, none⟩ 1 cx [.bool p, .slice aN nN cN] hx rfl ?_ ?_ (by unfold maxLen; omega) (by omega) hbase fun v' w' hown' hgr _ _ => ?_
  · intro j u hu
    rw [addr_add_none, Nat.zero_add]
    match j, hu with
    | 0, hu => cases hu; exact h0
    | 1, hu => cases hu; exact h1
    | j + 2, hu => simp at hu
  · intro u hu
    simp at hu
    rcases hu with rfl | rfl <;> rfl
  · refine hK v' w' ?_ hgr
    unfold OwI
    have e : cel (els ++ [(p, .slice aN nN cN, N)]) = cel els ++ [.bool p, .slice aN nN cN] := by simp [cel]
    rw [e, List.length_append]
    exact hown'
end Go.Proofs.YtbieldebkfkpkaaDoor
