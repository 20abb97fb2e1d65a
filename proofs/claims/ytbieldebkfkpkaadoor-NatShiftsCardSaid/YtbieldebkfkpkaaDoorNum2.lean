/-
  Products and quotients in the words of XNum.
  Slices of slices that the call itself makes.
-/
import Derived.Test.YtbieldebkfkpkaaDoorNum
import Derived.Test.YtbieldebkfkpkaaDoorMul
import Derived.Test.YtbieldebkfkpkaaDoorDivMod
import Derived.Test.YtbieldebkfkpkaaDoorLaws
import Derived.Test.YtbieldebkfkpkaaDoorProg
import Derived.Maps.AppendAt
namespace Go.Proofs.YtbieldebkfkpkaaDoor
open Go.RowKit


theorem mul_num {w : World} {u v : Value} {A B : Int} {m k p : Nat} (cut : Int) (h : Num w u A m) (g : Num w v B k) (hp : m + k ≤ p) (hp2 : p ≤ 100000) (hcut : cut ≤ 9223372036854775807) :
    Calls Tryd.prog 63 #[.int .i64 cut, u, v] w fun e w' => RetN w (A * B) p e w' := by
  have hs : A * B < B64 ^ p := by
    refine Int.lt_of_lt_of_le (prod_lt h.lt g.lt h.nonneg g.nonneg) ?_
    rw [← Int.pow_add]
    exact pow_le_pow B64_pos hp
  obtain ⟨a, n, c, l, rfl, h1, h2, h3, h4, h5, rfl, h7⟩ := h.open
  obtain ⟨a', n', c', l', rfl, g1, g2, g3, g4, g5, rfl, g7⟩ := g.open
  exact (mul_any cut a n c l a' n' c' l' w h1 g1 h2 h3 g2 g3 h4 g4 h5 g5 (by omega) hcut).mono fun e w' hr => hr.retn hs

/-- The same, and true. -/
def RetDN (w : World) (N M : Int) (m k : Nat) (e : Ending) (w' : World) : Prop :=
  ∃ a n c a' n' c', e = .returned (.tuple #[.slice a n c, .slice a' n' c', .bool true]) ∧ NewN w.heap.size w' (.slice a n c) N m ∧ NewN w.heap.size w' (.slice a' n' c') M k ∧ Dis (.slice a n c) (.slice a' n' c') ∧ Below w.heap.size w w'

theorem dm_num {w : World} {u v : Value} {A B : Int} {m k : Nat} (h : Num w u A m) (g : Num w v B k) (hm : m ≤ 150) (hk : k ≤ 100000) (h0 : B ≠ 0) :
    Calls Tryd.prog 62 #[u, v] w fun e w' => RetDN w (A / B) (A % B) m k e w' := by
  have hA := h.nonneg
  have hB := g.nonneg
  have hs1 : A / B < B64 ^ m := Int.lt_of_le_of_lt (Int.ediv_le_self _ hA) h.lt
  have hs2 : A % B < B64 ^ k := Int.lt_trans (Int.emod_lt_of_pos A (by omega)) g.lt
  obtain ⟨a, n, c, l, rfl, h1, h2, h3, h4, h5, rfl, h7⟩ := h.open
  obtain ⟨a', n', c', l', rfl, g1, g2, g3, g4, g5, rfl, g7⟩ := g.open
  refine (dm_any a n c l a' n' c' l' w h1 g1 h2 h3 g2 g3 h4 g4 h5 g5 (by omega) (by omega) (by omega)).mono ?_
  rintro e w' ⟨vq, lq, vr, lr, rfl, q1, q2, q3, r1, r2, r3, hd, hb⟩
  obtain ⟨aq, nq, cq, rfl⟩ := q1.slice
  obtain ⟨ar, nr, cr, rfl⟩ := r1.slice
  exact ⟨aq, nq, cq, ar, nr, cr, rfl, q1.newn q2 q3 hs1, r1.newn r2 r3 hs2, hd, hb⟩
theorem dm_num0 {w : World} {u v : Value} {A : Int} {m k : Nat} (h : Num w u A m) (g : Num w v 0 k) :
    Calls Tryd.prog 62 #[u, v] w fun e w' => e = .returned (.tuple #[.slice none 0 0, .slice none 0 0, .bool false]) ∧ w = w' := by
  obtain ⟨a, n, c, l, rfl, h1, h2, h3, h4, h5, h6, h7⟩ := h.open
  obtain ⟨a', n', c', l', rfl, g1, g2, g3, g4, g5, g6, g7⟩ := g.open
  exact dm_zero a n c l a' n' c' l' w h1 g1 h2 h3 g2 g3 h4 g4 g5 g6


theorem info_nat : (Tryd.prog.info? 28).map (fun i => (i.zero, i.size, i.bytes)) = some (some (.slice none 0 0), 1, 24) := by kernel_rfl

/-- A row of the call's own whose cells are the values vs (slices of words). -/
def OwV (base : Nat) (w : World) (v : Value) (vs : List Value) : Prop := w.ownsRow base 28 1 v vs.length vs

theorem OwV.nil (base : Nat) (w : World) : OwV base w (.slice none 0 0) [] := World.ownsRow_nil _ _ _ _
theorem OwV.form {base : Nat} {w : World} {v : Value} {vs : List Value} (h : OwV base w v vs) : ∃ ao cap, v = .slice ao vs.length cap ∧ vs.length ≤ cap ∧ cap ≤ 9223372036854775807 ∧ RdRow w ao vs := by
  obtain ⟨h1, h2⟩ := h
  rcases h2 with ⟨rfl, h0⟩ | ⟨g, cap, cur, rfl, hg, hh, hn, hm, hc, ht⟩
  · obtain rfl : vs = [] := List.eq_nil_of_length_eq_zero h0
    exact ⟨none, 0, rfl, Nat.le_refl _, by omega, Or.inl rfl⟩
  · refine ⟨_, cap, rfl, hn, by simpa [maxLen] using hm, Or.inr ⟨g, 0, rfl, fun j v hv => ?_⟩⟩
    have hj : j < vs.length := (List.getElem?_eq_some_iff.1 hv).1
    rw [cell_of_row w g _ cur _ _ hh]
    have : (cur.toList.take (vs.length * 1))[j]? = vs[j]? := by rw [ht]
    rw [List.getElem?_take, if_pos (by omega), hv] at this
    simpa using this
theorem OwV.lt {base : Nat} {w : World} {v : Value} {vs : List Value} (h : OwV base w v vs) : ∀ g, v.ownBlock = some g → base ≤ g ∧ g < w.heap.size := by
  intro g hg
  rcases h.2 with ⟨rfl, _⟩ | ⟨g', cap, cur, rfl, hb, hh, _⟩
  · simp [Value.ownBlock] at hg
  · simp only [Value.ownBlock, Option.some.injEq] at hg
    subst hg
    exact ⟨hb, (Array.getElem?_eq_some_iff.1 hh).1⟩
theorem OwV.grown {base : Nat} {w w' : World} {v : Value} {vs : List Value} {row : Option Nat} (h : OwV base w v vs) (hg : w.grownBy w' row) (hne : ∀ g, v.ownBlock = some g → row ≠ some g) : OwV base w' v vs := by
  refine ⟨h.1, ?_⟩
  rcases h.2 with h2 | ⟨g, cap, cur, rfl, hb, hh, r⟩
  · exact Or.inl h2
  · refine Or.inr ⟨g, cap, cur, rfl, hb, ?_, r⟩
    rw [hg.block g (Array.getElem?_eq_some_iff.1 hh).1 (fun e => hne g rfl e.symm)]
    exact hh
theorem OwV.below {base : Nat} {w w' : World} {v : Value} {vs : List Value} (h : OwV base w v vs) (hb : Below w.heap.size w w') : OwV base w' v vs :=
  ⟨h.1, by
    rcases h.2 with h2 | ⟨g, cap, cur, hv, hg, hh, r⟩
    · exact Or.inl h2
    · exact Or.inr ⟨g, cap, cur, hv, hg, (hb.block g (Array.getElem?_eq_some_iff.1 hh).1).trans hh, r⟩⟩
theorem OwV.alloc {base : Nat} {w : World} {v : Value} {vs : List Value} (h : OwV base w v vs) (o : Obj) : OwV base (w.alloc o) v vs := World.ownsRow.alloc h o
theorem At.grown {w w' : World} {b off : Nat} {l : List Int} {row : Option Nat} (h : At w b off l) (hg : w.grownBy w' row) (hne : row ≠ some b) : At w' b off l := by
  intro j hj
  have hl : l ≠ [] := by intro e; subst e; simp at hj
  rw [World.cell?_of_block (w := w) (hg.block b (h.lt hl) (fun e => hne e.symm))]
  exact h j hj
theorem Rd.grown {w w' : World} {ao : Option Addr} {l : List Int} {row : Option Nat} (h : Rd w ao l) (hg : w.grownBy w' row) (hne : l ≠ [] → ∀ b o, ao = some ⟨b, o, none⟩ → row ≠ some b) : Rd w' ao l := by
  rcases h with rfl | ⟨b, off, e, h⟩
  · exact Rd.nil _ _
  · by_cases hl : l = []
    · subst hl; exact Rd.nil _ _
    · exact Or.inr ⟨b, off, e, h.grown hg (hne hl b off e)⟩

theorem grown_below {B : Nat} {w w' : World} {row : Option Nat} (h : w.grownBy w' row) (hB : B ≤ w.heap.size) (hr : ∀ g, row = some g → B ≤ g) : Below B w w' := (Below.refl _ _).grown h hB hr

/-- append(out, values ..), out of the call's own. -/
theorem wpList_append_vals {P : Program} (w : World) {ops : Array Oper} {rest : List Oper} {o : Oper} {a : Act} {Q : Exit → Act → World → Prop} (hgd : o.guard = none) (s x : Operand) (t : TypeId)
    (ho : o.op = .call { callee := .builtin .append, args := #[s, x], argTypes := #[t, t] }) (ht : P.underlying t = some (.slice 28)) (hi : (P.info? 28).map (fun i => (i.zero, i.size, i.bytes)) = some (some (.slice none 0 0), 1, 24))
    (base : Nat) (v : Value) (vs : List Value) (hs : a.eval s = v) (hown : OwV base w v vs)
    (ad : Addr) (m c : Nat) (us : List Value) (hx : a.eval x = .slice (some ad) m c) (hm : us.length = m) (hnews : ∀ j u, us[j]? = some u → w.cell? (ad.add j) = some u) (h1 : ∀ u ∈ us, u.oneCell' = true)
    (hM : vs.length + m ≤ 4294967296) (hbase : base ≤ w.heap.size)
    (hK : ∀ v' w', OwV base w' v' (vs ++ us) → w.grownBy w' v.ownBlock → (v'.ownBlock = v.ownBlock ∨ v'.ownBlock = some w.heap.size) → wpList P ops Q rest (a.put o.dst v') w') : wpList P ops Q (o :: rest) a w := by
  obtain ⟨i, h2, h3, h4, h5⟩ := info_parts hi
  refine wpList_append_own_at w hgd s x t ho base 28 i (.slice none 0 0) 1 24 ht h2 h3 h4 h5 rfl (by decide) v vs.length vs hs hown ad m c us hx (by rw [hm, Nat.mul_one]) hnews h1 (by unfold maxLen; omega) (by omega) hbase fun v' w' hown' hgr _ hat => ?_
  refine hK v' w' ?_ hgr hat
  unfold OwV
  rw [List.length_append, hm]
  exact hown'

/-- The same as one step of a region that draws its order. -/
theorem step_append_vals {P : Program} (w : World) {ops : Array Oper} {o : Oper} {a : Act} {K : Act → World → Prop} {Q : Exit → Act → World → Prop} {E : Prop} (hgd : o.guard = none) (s x : Operand) (t : TypeId)
    (ho : o.op = .call { callee := .builtin .append, args := #[s, x], argTypes := #[t, t] }) (ht : P.underlying t = some (.slice 28)) (hi : (P.info? 28).map (fun i => (i.zero, i.size, i.bytes)) = some (some (.slice none 0 0), 1, 24))
    (base : Nat) (v : Value) (vs : List Value) (hs : a.eval s = v) (hown : OwV base w v vs)
    (ad : Addr) (m c : Nat) (us : List Value) (hx : a.eval x = .slice (some ad) m c) (hm : us.length = m) (hnews : ∀ j u, us[j]? = some u → w.cell? (ad.add j) = some u) (h1 : ∀ u ∈ us, u.oneCell' = true)
    (hM : vs.length + m ≤ 4294967296) (hbase : base ≤ w.heap.size)
    (hK : ∀ v' w', OwV base w' v' (vs ++ us) → Below base w w' → K (a.put o.dst v') w') : if Region.wanted o (yielded ops a.tmps) = true then Oper.wp P o a w K Q else E := by
  have hw : Region.wanted o (yielded ops a.tmps) = true := by simp [Region.wanted, hgd]
  rw [if_pos hw]
  obtain ⟨i, h2, h3, h4, h5⟩ := info_parts hi
  refine wp_append_own w s x t ho base 28 i (.slice none 0 0) 1 24 ht h2 h3 h4 h5 rfl (by decide) v vs.length vs hs hown ad m c us hx (by rw [hm, Nat.mul_one]) hnews h1 (by unfold maxLen; omega) (by omega) hbase fun v' w' hown' hgr _ => ?_
  refine hK v' w' ?_ (grown_below hgr hbase (fun g e => (hown.lt g e).1))
  unfold OwV
  rw [List.length_append, hm]
  exact hown'

theorem newv1 (w : World) (a : Value) (t : TypeId) : ∀ j u, [a][j]? = some u → (w.alloc (.cells #[a] t)).cell? ((⟨w.heap.size, 0, none⟩ : Addr).add j) = some u := by
  intro j u hu
  rw [addr_add_none, Nat.zero_add, World.cell?_alloc_new]
  match j, hu with
  | 0, hu => simpa using hu

/-- Behind an append of one value to a row of the call's own, which lay in a new block first. -/
theorem below_app {B base : Nat} {w wr w2 : World} {o : Obj} {v : Value} {vs : List Value} (hb : Below B w wr) (hO : OwV base wr v vs) (hB : B ≤ base) (hs : base ≤ wr.heap.size) (hg : (wr.alloc o).grownBy w2 v.ownBlock) : Below B w w2 :=
  (hb.alloc (by omega) o).trans (grown_below hg (by simp; omega) (fun g e => by have := (hO.lt g e).1; omega))

end Go.Proofs.YtbieldebkfkpkaaDoor
