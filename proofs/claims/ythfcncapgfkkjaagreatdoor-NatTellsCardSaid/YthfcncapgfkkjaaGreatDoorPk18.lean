/-
  Num2: Products and quotients in the words of XNum. Slices of slices that the call itself makes.
  Sqrt: Contract of nat.Sqrt for numbers of at most 140 words: the root and what is left.
  Powers: Contract of nat.chunkPowers: 10^19 and its repeated squares.
-/
import Derived.Test.YthfcncapgfkkjaaGreatDoorPk11
import Derived.Test.YthfcncapgfkkjaaGreatDoorPk16
import Derived.Test.YthfcncapgfkkjaaGreatDoorPk17
import Derived.Test.YthfcncapgfkkjaaGreatDoorPk3
import Derived.Test.YthfcncapgfkkjaaGreatDoorProg
import Derived.Maps.AppendAt

namespace Go.Proofs.YthfcncapgfkkjaaGreatDoor
open Go.RowKit


theorem mul_num {w : World} {u v : Value} {A B : Int} {m k p : Nat} (cut : Int) (h : Num w u A m) (g : Num w v B k) (hp : m + k ≤ p) (hp2 : p ≤ 100000) (hcut : cut ≤ 9223372036854775807) :
    Calls Tryz.prog 10 #[.int .i64 cut, u, v] w fun e w' => RetN w (A * B) p e w' := by
  have hs : A * B < B64 ^ p := by
    refine Int.lt_of_lt_of_le (prod_lt h.lt g.lt h.nonneg g.nonneg) ?_
    rw [← Int.pow_add]
    exact pow_le_pow B64_pos hp
  obtain ⟨a, n, c, l, rfl, h1, h2, h3, h4, h5, rfl, h7⟩ := h.open
  obtain ⟨a', n', c', l', rfl, g1, g2, g3, g4, g5, rfl, g7⟩ := g.open
  exact (mul_any cut a n c l a' n' c' l' w h1 g1 h2 h3 g2 g3 h4 g4 h5 g5 (by omega) hcut).mono fun e w' hr => hr.retn hs

/-- The same, and true. -/
def RetDN (w : World) (N M : Int) (m k : Nat) (e : Ending) (w' : World) : Prop :=
  ∃ a n c a' n' c', e = .returned (.tuple #[.slice a n c, .slice a' n' c', .bool true]) ∧ NewN w.heap.size w' (.slice a n c) N m ∧ NewN w.heap.size w' (.slice a' n' c') M k ∧ Dis (.slice a n c) (.slice a' n' c') ∧ Below w.heap.size w w'

theorem dm_num {w : World} {u v : Value} {A B : Int} {m k : Nat} (h : Num w u A m) (g : Num w v B k) (hm : m ≤ 150) (hk : k ≤ 100000) (h0 : B ≠ 0) :
    Calls Tryz.prog 11 #[u, v] w fun e w' => RetDN w (A / B) (A % B) m k e w' := by
  have hA := h.nonneg
  have hB := g.nonneg
  have hs1 : A / B < B64 ^ m := Int.lt_of_le_of_lt (Int.ediv_le_self _ hA) h.lt
  have hs2 : A % B < B64 ^ k := Int.lt_trans (Int.emod_lt_of_pos A (by omega)) g.lt
  obtain ⟨a, n, c, l, rfl, h1, h2, h3, h4, h5, rfl, h7⟩ := h.open
  obtain ⟨a', n', c', l', rfl, g1, g2, g3, g4, g5, rfl, g7⟩ := g.open
  refine (dm_any a n c l a' n' c' l' w h1 g1 h2 h3 g2 g3 h4 g4 h5 g5 (by omega) (by omega) (by omega)).mono ?_
  rintro e w' ⟨vq, lq, vr, lr, rfl, q1, q2, q3, r1, r2, r3, hd, hb⟩
  obtain ⟨aq, nq, cq, rfl⟩ := q1.slice
  obtain ⟨ar, nr, cr, rfl⟩ := r1.slice
  exact ⟨aq, nq, cq, ar, nr, cr, rfl, q1.newn q2 q3 hs1, r1.newn r2 r3 hs2, hd, hb⟩
theorem dm_num0 {w : World} {u v : Value} {A : Int} {m k : Nat} (h : Num w u A m) (g : Num w v 0 k) :
    Calls Tryz.prog 11 #[u, v] w fun e w' => e = .returned (.tuple #[.slice none 0 0, .slice none 0 0, .bool false]) ∧ w = w' := by
  obtain ⟨a, n, c, l, rfl, h1, h2, h3, h4, h5, h6, h7⟩ := h.open
  obtain ⟨a', n', c', l', rfl, g1, g2, g3, g4, g5, g6, g7⟩ := g.open
  exact dm_zero a n c l a' n' c' l' w h1 g1 h2 h3 g2 g3 h4 g4 g5 g6


theorem info_nat : (Tryz.prog.info? 36).map (fun i => (i.zero, i.size, i.bytes)) = some (some (.slice none 0 0), 1, 24) := by kernel_rfl

/-- A row of the call's own whose cells are the values vs (slices of words). -/
def OwV (base : Nat) (w : World) (v : Value) (vs : List Value) : Prop := w.ownsRow base 36 1 v vs.length vs

theorem OwV.nil (base : Nat) (w : World) : OwV base w (.slice none 0 0) [] := World.ownsRow_nil _ _ _ _
theorem OwV.form {base : Nat} {w : World} {v : Value} {vs : List Value} (h : OwV base w v vs) : ∃ ao cap, v = .slice ao vs.length cap ∧ vs.length ≤ cap ∧ cap ≤ 9223372036854775807 ∧ RdRow w ao vs := by
  obtain ⟨h1, h2⟩ := h
  rcases h2 with ⟨rfl, h0⟩ | ⟨g, cap, cur, rfl, hg, hh, hn, hm, hc, ht⟩
  · obtain rfl : vs = [] := List.eq_nil_of_length_eq_zero h0
    exact ⟨none, 0, rfl, Nat.le_refl _, by omega, Or.inl rfl⟩
  · refine ⟨_, cap, rfl, hn, by simpa [maxLen] using hm, Or.inr ⟨g, 0, rfl, fun j v hv => ?_⟩⟩
    have hj : j < vs.length := (List.getElem?_eq_some_iff.1 hv).1
    rw [cell_of_row w g _ cur _ _ hh]
    have : (cur.toList.take (vs.length * 1))[j]? = vs[j]? := by rw [ht]
    rw [List.getElem?_take, if_pos (by omega), hv] at this
    simpa using this
theorem OwV.lt {base : Nat} {w : World} {v : Value} {vs : List Value} (h : OwV base w v vs) : ∀ g, v.ownBlock = some g → base ≤ g ∧ g < w.heap.size := by
  intro g hg
  rcases h.2 with ⟨rfl, _⟩ | ⟨g', cap, cur, rfl, hb, hh, _⟩
  · simp [Value.ownBlock] at hg
  · simp only [Value.ownBlock, Option.some.injEq] at hg
    subst hg
    exact ⟨hb, (Array.getElem?_eq_some_iff.1 hh).1⟩
theorem OwV.grown {base : Nat} {w w' : World} {v : Value} {vs : List Value} {row : Option Nat} (h : OwV base w v vs) (hg : w.grownBy w' row) (hne : ∀ g, v.ownBlock = some g → row ≠ some g) : OwV base w' v vs := by
  refine ⟨h.1, ?_⟩
  rcases h.2 with h2 | ⟨g, cap, cur, rfl, hb, hh, r⟩
  · exact Or.inl h2
  · refine Or.inr ⟨g, cap, cur, rfl, hb, ?_, r⟩
    rw [hg.block g (Array.getElem?_eq_some_iff.1 hh).1 (fun e => hne g rfl e.symm)]
    exact hh
theorem OwV.below {base : Nat} {w w' : World} {v : Value} {vs : List Value} (h : OwV base w v vs) (hb : Below w.heap.size w w') : OwV base w' v vs :=
  ⟨h.1, by
    rcases h.2 with h2 | ⟨g, cap, cur, hv, hg, hh, r⟩
    · exact Or.inl h2
    · exact Or.inr ⟨g, cap, cur, hv, hg, (hb.block g (Array.getElem?_eq_some_iff.1 hh).1).trans hh, r⟩⟩
theorem OwV.alloc {base : Nat} {w : World} {v : Value} {vs : List Value} (h : OwV base w v vs) (o : Obj) : OwV base (w.alloc o) v vs := World.ownsRow.alloc h o
theorem At.grown {w w' : World} {b off : Nat} {l : List Int} {row : Option Nat} (h : At w b off l) (hg : w.grownBy w' row) (hne : row ≠ some b) : At w' b off l := by
  intro j hj
  have hl : l ≠ [] := by intro e; subst e; simp at hj
  rw [World.cell?_of_block (w := w) (hg.block b (h.lt hl) (fun e => hne e.symm))]
  exact h j hj
theorem Rd.grown {w w' : World} {ao : Option Addr} {l : List Int} {row : Option Nat} (h : Rd w ao l) (hg : w.grownBy w' row) (hne : l ≠ [] → ∀ b o, ao = some ⟨b, o, none⟩ → row ≠ some b) : Rd w' ao l := by
  rcases h with rfl | ⟨b, off, e, h⟩
  · exact Rd.nil _ _
  · by_cases hl : l = []
    · subst hl; exact Rd.nil _ _
    · exact Or.inr ⟨b, off, e, h.grown hg (hne hl b off e)⟩

theorem grown_below {B : Nat} {w w' : World} {row : Option Nat} (h : w.grownBy w' row) (hB : B ≤ w.heap.size) (hr : ∀ g, row = some g → B ≤ g) : Below B w w' := (Below.refl _ _).grown h hB hr

/-- append(out, values ..), out of the call's own. -/
theorem wpList_append_vals {P : Program} (w : World) {ops : Array Oper} {rest : List Oper} {o : Oper} {a : Act} {Q : Exit → Act → World → Prop} (hgd : o.guard = none) (s x : Operand) (t : TypeId)
    (ho : o.op = .call { callee := .builtin .append, args := #[s, x], argTypes := #[t, t] }) (ht : P.underlying t = some (.slice 36)) (hi : (P.info? 36).map (fun i => (i.zero, i.size, i.bytes)) = some (some (.slice none 0 0), 1, 24))
    (base : Nat) (v : Value) (vs : List Value) (hs : a.eval s = v) (hown : OwV base w v vs)
    (ad : Addr) (m c : Nat) (us : List Value) (hx : a.eval x = .slice (some ad) m c) (hm : us.length = m) (hnews : ∀ j u, us[j]? = some u → w.cell? (ad.add j) = some u) (h1 : ∀ u ∈ us, u.oneCell' = true)
    (hM : vs.length + m ≤ 4294967296) (hbase : base ≤ w.heap.size)
    (hK : ∀ v' w', OwV base w' v' (vs ++ us) → w.grownBy w' v.ownBlock → (v'.ownBlock = v.ownBlock ∨ v'.ownBlock = some w.heap.size) → wpList P ops Q rest (a.put o.dst v') w') : wpList P ops Q (o :: rest) a w := by
  obtain ⟨i, h2, h3, h4, h5⟩ := info_parts hi
  refine wpList_append_own_at w hgd s x t ho base 36 i (.slice none 0 0) 1 24 ht h2 h3 h4 h5 rfl (by decide) v vs.length vs hs hown ad m c us hx (by rw [hm, Nat.mul_one]) hnews h1 (by unfold maxLen; omega) (by omega) hbase fun v' w' hown' hgr _ hat => ?_
  refine hK v' w' ?_ hgr hat
  unfold OwV
  rw [List.length_append, hm]
  exact hown'

/-- The same as one step of a region that draws its order. -/
theorem step_append_vals {P : Program} (w : World) {ops : Array Oper} {o : Oper} {a : Act} {K : Act → World → Prop} {Q : Exit → Act → World → Prop} {E : Prop} (hgd : o.guard = none) (s x : Operand) (t : TypeId)
    (ho : o.op = .call { callee := .builtin .append, args := #[s, x], argTypes := #[t, t] }) (ht : P.underlying t = some (.slice 36)) (hi : (P.info? 36).map (fun i => (i.zero, i.size, i.bytes)) = some (some (.slice none 0 0), 1, 24))
    (base : Nat) (v : Value) (vs : List Value) (hs : a.eval s = v) (hown : OwV base w v vs)
    (ad : Addr) (m c : Nat) (us : List Value) (hx : a.eval x = .slice (some ad) m c) (hm : us.length = m) (hnews : ∀ j u, us[j]? = some u → w.cell? (ad.add j) = some u) (h1 : ∀ u ∈ us, u.oneCell' = true)
    (hM : vs.length + m ≤ 4294967296) (hbase : base ≤ w.heap.size)
    (hK : ∀ v' w', OwV base w' v' (vs ++ us) → Below base w w' → K (a.put o.dst v') w') : if Region.wanted o (yielded ops a.tmps) = true then Oper.wp P o a w K Q else E := by
  have hw : Region.wanted o (yielded ops a.tmps) = true := by simp [Region.wanted, hgd]
  rw [if_pos hw]
  obtain ⟨i, h2, h3, h4, h5⟩ := info_parts hi
  refine wp_append_own w s x t ho base 36 i (.slice none 0 0) 1 24 ht h2 h3 h4 h5 rfl (by decide) v vs.length vs hs hown ad m c us hx (by rw [hm, Nat.mul_one]) hnews h1 (by unfold maxLen; omega) (by omega) hbase fun v' w' hown' hgr _ => ?_
  refine hK v' w' ?_ (grown_below hgr hbase (fun g e => (hown.lt g e).1))
  unfold OwV
  rw [List.length_append, hm]
  exact hown'

theorem newv1 (w : World) (a : Value) (t : TypeId) : ∀ j u, [a][j]? = some u → (w.alloc (.cells #[a] t)).cell? ((⟨w.heap.size, 0, none⟩ : Addr).add j) = some u := by
  intro j u hu
  rw [addr_add_none, Nat.zero_add, World.cell?_alloc_new]
  match j, hu with
  | 0, hu => simpa using hu

/-- Behind an append of one value to a row of the call's own, which lay in a new block first. -/
theorem below_app {B base : Nat} {w wr w2 : World} {o : Obj} {v : Value} {vs : List Value} (hb : Below B w wr) (hO : OwV base wr v vs) (hB : B ≤ base) (hs : base ≤ wr.heap.size) (hg : (wr.alloc o).grownBy w2 v.ownBlock) : Below B w w2 :=
  (hb.alloc (by omega) o).trans (grown_below hg (by simp; omega) (fun g e => by have := (hO.lt g e).1; omega))

end Go.Proofs.YthfcncapgfkkjaaGreatDoor

namespace Go.Proofs.YthfcncapgfkkjaaGreatDoor
open Go.RowKit

theorem root_id1 {N H M1 M0 t r q u P : Int} (hN : N = (H * P + M1) * P + M0) (hr : r = H - t * t) (he : 2 * t * q + u = r * P + M1) : N = (t * P + q) * (t * P + q) + (u * P + M0) - q * q := by grind
theorem root_id2 {N R rest Q : Int} (h : N = R * R + rest - Q) : rest + R + (R - 1) - Q = N - (R - 1) * (R - 1) := by grind

/-- The top half's root is not small. -/
theorem root_big {H t p : Int} (hp : 1 ≤ p) (hH : 2 * (p * p) ≤ H) (h : IsRoot H t) : p ≤ t := by
  obtain ⟨h1, h2, h3⟩ := h
  rcases Int.lt_or_le t p with a | a
  · have h4 : (t + 1) * (t + 1) ≤ p * p := Int.mul_le_mul (by omega) (by omega) (by omega) (by omega)
    have h5 : 1 * 1 ≤ p * p := Int.mul_le_mul hp hp (by omega) (by omega)
    omega
  · exact a

/-- The root's upper half, its rest, and the quotient: the root, or one more. -/
theorem root_step {N H M1 M0 t q u P R rest : Int} (hP : 1 ≤ P) (hN : N = (H * P + M1) * P + M0) (h10 : 0 ≤ M1) (h11 : M1 < P) (h00 : 0 ≤ M0) (h01 : M0 < P) (ht : IsRoot H t) (hT : P ≤ 2 * t)
    (hq : q = ((H - t * t) * P + M1) / (2 * t)) (hu : u = ((H - t * t) * P + M1) % (2 * t)) (hR : R = t * P + q) (hrest : rest = u * P + M0) :
    0 ≤ q ∧ 0 ≤ u ∧ q ≤ P ∧ (q * q ≤ rest → IsRoot N R ∧ rest - q * q = N - R * R) ∧ (rest < q * q → 1 ≤ R ∧ IsRoot N (R - 1) ∧ rest + R + (R - 1) - q * q = N - (R - 1) * (R - 1)) := by
  obtain ⟨t0, t1, t2⟩ := ht
  obtain ⟨r, hr⟩ : ∃ r, r = H - t * t := ⟨_, rfl⟩
  rw [← hr] at hq hu
  have hr0 : 0 ≤ r := by omega
  have hr2 : r ≤ 2 * t := by
    have e : (t + 1) * (t + 1) = t * t + 2 * t + 1 := by grind
    omega
  have hrP : 0 ≤ r * P := Int.mul_nonneg hr0 (by omega)
  have hrP2 : r * P ≤ 2 * t * P := Int.mul_le_mul_of_nonneg_right hr2 (by omega)
  have htt : 0 < 2 * t := by omega
  have hq0 : 0 ≤ q := by rw [hq]; exact Int.ediv_nonneg (by omega) (by omega)
  have hu0 : 0 ≤ u := by rw [hu]; exact Int.emod_nonneg _ (by omega)
  have hu1 : u < 2 * t := by rw [hu]; exact Int.emod_lt_of_pos _ htt
  have hqP : q ≤ P := by
    have h1 : q < P + 1 := by
      rw [hq]
      refine Int.ediv_lt_of_lt_mul htt ?_
      have e : (P + 1) * (2 * t) = 2 * t * P + 2 * t := by grind
      omega
    omega
  have he : 2 * t * q + u = r * P + M1 := by rw [hq, hu]; exact Int.mul_ediv_add_emod _ _
  have hid := root_id1 hN hr he
  rw [← hR, ← hrest] at hid
  have hrest0 : 0 ≤ rest := by
    have := Int.mul_nonneg hu0 (show 0 ≤ P by omega)
    omega
  have hrest1 : rest < 2 * t * P := by
    have h1 : (u + 1) * P ≤ 2 * t * P := Int.mul_le_mul_of_nonneg_right (by omega) (by omega)
    have e : (u + 1) * P = u * P + P := by grind
    omega
  have htP : 0 ≤ t * P := Int.mul_nonneg t0 (by omega)
  have e2 : 2 * t * P = 2 * (t * P) := by grind
  have hR0 : 0 ≤ R := by omega
  have hqq : 0 ≤ q * q := Int.mul_nonneg hq0 hq0
  refine ⟨hq0, hu0, hqP, fun h => ⟨⟨hR0, by omega, ?_⟩, by omega⟩, fun h => ?_⟩
  · have e : (R + 1) * (R + 1) = R * R + 2 * R + 1 := by grind
    omega
  · have hq1 : 1 ≤ q := by
      rcases Int.lt_or_le q 1 with a | a
      · have e : q = 0 := by omega
        subst e; omega
      · exact a
    have hPP : q * q ≤ P * P := Int.mul_le_mul hqP hqP hq0 (by omega)
    have hPP2 : P * P ≤ 2 * t * P := Int.mul_le_mul_of_nonneg_right hT (by omega)
    have h3 := root_id2 hid
    refine ⟨by omega, ⟨by omega, by omega, ?_⟩, h3⟩
    have e : (R - 1 + 1) * (R - 1 + 1) = R * R := by grind
    omega

theorem NewN.tight {base : Nat} {w : World} {v : Value} {N : Int} {m k : Nat} (h : NewN base w v N m) (hk : N < B64 ^ k) : NewN base w v N k := by
  obtain ⟨l, h1, h2, h3, h4⟩ := h
  exact h1.newn h2 h3 hk

/-- What nat.Sqrt leaves. -/
def RetSq (w : World) (N : Int) (m : Nat) (e : Ending) (w' : World) : Prop := ∃ R, IsRoot N R ∧ RetN2 w R (N - R * R) m m e w'

theorem sq_le {N R : Int} (h : IsRoot N R) : R ≤ N := by
  obtain ⟨h0, h1, h2⟩ := h
  rcases Int.lt_or_le 0 R with a | a
  · have := Int.mul_le_mul_of_nonneg_left (show 1 ≤ R by omega) h0
    omega
  · have : 0 ≤ R * R := Int.mul_nonneg h0 h0
    omega

theorem sqrt_less {w : World} {u : Value} {N : Int} {m : Nat} (h : Num w u N m) (hm : m ≤ 140) (hs : nb N ≤ 64) : Calls Tryz.prog 23 #[u] w fun e w' => RetSq w N m e w' := by
  have hlt := h.lt
  have hn0 := h.nonneg
  have h64 : N < 18446744073709551616 := by
    rcases Int.lt_or_le 0 N with a | a
    · have h1 := (nb_spec a).2.1
      have h2 : (2:Int) ^ nb N ≤ 2 ^ 64 := pow_le_pow (by decide) hs
      have h3 : (2:Int) ^ 64 = 18446744073709551616 := by decide
      omega
    · omega
  obtain ⟨a, n, c, l, rfl, h1, h2, h3, h4, h5, rfl, h7⟩ := h.open
  refine (sqrt_small a n c l w h1 h2 h3 h4 h5 (by unfold MaxW; omega) h64).mono ?_
  rintro e w' ⟨R, hR, v1, l1, v2, l2, rfl, q1, q2, q3, r1, r2, r3, hb⟩
  obtain ⟨aq, nq, cq, rfl⟩ := q1.slice
  obtain ⟨ar, nr, cr, rfl⟩ := r1.slice
  have hle := sq_le hR
  have hRR : 0 ≤ R * R := Int.mul_nonneg hR.1 hR.1
  exact ⟨R, hR, aq, nq, cq, ar, nr, cr, rfl, q1.newn q2 q3 (by omega), r1.newn r2 r3 (by omega), hb⟩

theorem two_pow_sum {a b : Nat} : (2 : Int) ^ (a + b) = 2 ^ a * 2 ^ b := Int.pow_add ..

/-- nat.Sub of 1. -/
theorem sub_lit {w : World} {u : Value} {A : Int} {m : Nat} {t : TypeId} (h : Num w u A m) (h1 : 1 ≤ A) (hm : m ≤ 100000) :
    Calls Tryz.prog 12 #[u, .slice (some ⟨w.heap.size, 0, none⟩) 1 1] (w.alloc (.cells #[.int .u64 1] t)) fun e w' => RetSN w (A - 1) m e w' := by
  have hl : Lim B64 [1] := Lim.cons (by decide) (by decide) (Lim.nil _)
  have hn : Num (w.alloc (.cells #[.int .u64 1] t)) (.slice (some ⟨w.heap.size, 0, none⟩) 1 1) 1 1 := ⟨[1], ⟨_, 1, rfl, Nat.le_refl _, by decide, at_new w 1 t, hl⟩, by rw [vb_one], Nat.le_refl _⟩
  refine (sub_num (h.below (below_alloc w _)) hn hm h1).mono ?_
  rintro e w' ⟨a, n, c, rfl, hN, hb⟩
  exact ⟨a, n, c, rfl, hN.base (by simp), (below_alloc w _).trans (hb.mono (by simp))⟩

set_option maxRecDepth 100000 in
set_option maxHeartbeats 4000000 in
theorem sqrt_num : ∀ (s : Nat) {w : World} {u : Value} {N : Int} {m : Nat}, Num w u N m → m ≤ 140 → nb N ≤ s → Calls Tryz.prog 23 #[u] w fun e w' => RetSq w N m e w' := by
  intro s
  induction s using Nat.strongRecOn with
  | _ s ih =>
  intro w u N m hA hm hs
  by_cases hsm : nb N ≤ 64
  · exact sqrt_less hA hm hsm
  · obtain ⟨t, ht⟩ : ∃ t, nb N = t := ⟨_, rfl⟩
    rw [ht] at hs hsm
    have hN0 := hA.nonneg
    have hlt := hA.lt
    have hNp : 0 < N := by
      rcases Int.lt_or_le 0 N with a | a
      · exact a
      · have e : N = 0 := by omega
        rw [e, nb_zero] at ht; omega
    obtain ⟨b1, b2, _⟩ := nb_spec hNp
    rw [ht] at b1 b2
    have htm : t ≤ 64 * m := by
      rw [← ht]
      refine nb_le ?_
      rw [show (2:Int) ^ (64 * m) = B64 ^ m by rw [Int.pow_mul]; rfl]
      exact hlt
    obtain ⟨k, hk⟩ : ∃ k, k = t / 4 := ⟨_, rfl⟩
    obtain ⟨k2, hk2⟩ : ∃ k2, k2 = 2 * k := ⟨_, rfl⟩
    have hkI : ((t : Int)).tdiv 4 = (k : Int) := by rw [Int.tdiv_eq_ediv_of_nonneg (by omega)]; omega
    have hk2I : 2 * (k : Int) = (k2 : Int) := by omega
    have hk16 : 16 ≤ k := by omega
    have hkM : k ≤ 2240 := by omega
    have htI : ¬ (t : Int) ≤ 64 := by omega
    obtain ⟨P, hP⟩ : ∃ P, 2 ^ k = (P : Int) := ⟨_, rfl⟩
    obtain ⟨p, hp⟩ : ∃ p, 2 ^ (k - 1) = (p : Int) := ⟨_, rfl⟩
    have hp1 : 1 ≤ p := by have := pow2_pos (k - 1); omega
    have hPp : P = 2 * p := by rw [← hP, ← hp, show k = k - 1 + 1 by omega, Int.pow_succ, Nat.add_sub_cancel]; omega
    have hPP : (2:Int) ^ k2 = P * P := by rw [hk2, show 2 * k = k + k by omega, Int.pow_add, hP]
    obtain ⟨H, hH⟩ : ∃ H, N / 2 ^ k2 = H := ⟨_, rfl⟩
    obtain ⟨D, hD⟩ : ∃ D, N / 2 ^ k = D := ⟨_, rfl⟩
    obtain ⟨M1, hM1⟩ : ∃ M1, D % 2 ^ k = M1 := ⟨_, rfl⟩
    obtain ⟨M0, hM0⟩ : ∃ M0, N % 2 ^ k = M0 := ⟨_, rfl⟩
    have hP1 : 1 ≤ P := by omega
    have hHD : D / P = H := by rw [← hD, hP, Int.ediv_ediv_of_nonneg (by omega), ← hPP, hH]
    have hN : N = (H * P + M1) * P + M0 := by
      have e1 := Int.mul_ediv_add_emod N P
      have e2 := Int.mul_ediv_add_emod D P
      rw [← hP, hD, hM0, hP] at e1
      rw [hHD, ← hP, hM1, hP] at e2
      rw [← e1, ← e2, Int.mul_comm P H, Int.mul_comm P]
    have h10 : 0 ≤ M1 := by rw [← hM1, hP]; exact Int.emod_nonneg _ (by omega)
    have h11 : M1 < P := by rw [← hM1, hP]; exact Int.emod_lt_of_pos _ (by omega)
    have h00 : 0 ≤ M0 := by rw [← hM0, hP]; exact Int.emod_nonneg _ (by omega)
    have h01 : M0 < P := by rw [← hM0, hP]; exact Int.emod_lt_of_pos _ (by omega)
    have hHbig : 2 * (p * p) ≤ H := by
      rw [← hH]
      refine Int.le_ediv_of_mul_le (pow2_pos k2) ?_
      refine Int.le_trans ?_ b1
      rw [← hp, ← Int.pow_add, Int.mul_comm 2, ← Int.pow_succ, ← Int.pow_add]
      exact pow_le_pow (by decide) (by omega)
    have hHs : nb H < s := by
      have h1 : nb H ≤ t - k2 := by
        refine nb_le ?_
        rw [← hH]
        refine Int.ediv_lt_of_lt_mul (pow2_pos k2) ?_
        rw [← Int.pow_add, show t - k2 + k2 = t by omega]
        exact b2
      omega
    have HIH := fun (w1 : World) (v : Value) (hv : Num w1 v H m) => ih (nb H) hHs hv hm (Nat.le_refl _)
    have HB := Lib.hid (bits_num (m := m) hA (by omega))
    rw [ht] at HB
    have HT := Lib.hid hlt
    have HNN := Lib.hid hN
    have HH := Lib.hid hH
    have HD := Lib.hid hD
    have HM1 := Lib.hid hM1
    have HM0 := Lib.hid hM0
    have HP := Lib.hid hP
    have HBIG := Lib.hid hHbig
    have HPP := Lib.hid hPp
    have hbw : Below w.heap.size w w := Below.refl _ _
    clear ih ht hlt hN hH hD hM1 hM0 hP hHbig hPp hp hPP hHD hk hk2 b1 b2 hHs hs hsm htm
    go_enter Tryz.func23, Tryz.ntmps23
    go_wp2_with fail
    refine (HB.out).mono ?_
    rintro e w' ⟨rfl, rfl⟩
    go_wp2_with fail
    refine (shiftDown_num k2 hA (by omega) (by omega)).mono ?_
    rintro e w1 ⟨aH, nH, cH, rfl, hH, hbN⟩
    replace hH := hH.base hbw.size
    replace hbw := hbw.trans (hbN.mono hbw.size)
    replace hA := hA.below hbN
    clear hbN
    replace hH := hH.eq HH.out
    go_wp2_with fail
    refine (HIH _ _ hH.num).mono ?_
    rintro e w2 ⟨T, hRT, aT, nT, cT, aR, nR, cR, rfl, hT, hR, hbN⟩
    replace hT := hT.base hbw.size
    replace hR := hR.base hbw.size
    replace hbw := hbw.trans (hbN.mono hbw.size)
    replace hA := hA.below hbN
    replace hH := hH.below hbN
    clear hbN
    go_wp2_with fail
    refine (shiftUp_num (p := m + 36) k hR.num (by omega) (by omega) (by omega)).mono ?_
    rintro e w3 ⟨aS, nS, cS, rfl, hS, hbN⟩
    replace hS := hS.base hbw.size
    replace hbw := hbw.trans (hbN.mono hbw.size)
    replace hA := hA.below hbN
    replace hH := hH.below hbN
    replace hT := hT.below hbN
    replace hR := hR.below hbN
    clear hbN
    rw [HP.out] at hS
    go_wp2_with fail
    refine (shiftDown_num k hA (by omega) (by omega)).mono ?_
    rintro e w4 ⟨aD, nD, cD, rfl, hD, hbN⟩
    replace hD := hD.base hbw.size
    replace hbw := hbw.trans (hbN.mono hbw.size)
    replace hA := hA.below hbN
    replace hH := hH.below hbN
    replace hT := hT.below hbN
    replace hR := hR.below hbN
    replace hS := hS.below hbN
    clear hbN
    replace hD := hD.eq HD.out
    go_wp2_with fail
    refine (lowBits_num k hD.num (by omega) (by omega)).mono ?_
    rintro e w5 ⟨aL, nL, cL, rfl, hL, hbN⟩
    replace hL := hL.base hbw.size
    replace hbw := hbw.trans (hbN.mono hbw.size)
    replace hA := hA.below hbN
    replace hH := hH.below hbN
    replace hT := hT.below hbN
    replace hR := hR.below hbN
    replace hS := hS.below hbN
    replace hD := hD.below hbN
    clear hbN
    replace hL := hL.eq HM1.out
    have hTP : P ≤ 2 * T := by
      have h1 := root_big hp1 HBIG.out hRT
      have h2 := HPP.out
      omega
    have hT0 : 2 * T ≠ 0 := by omega
    go_wp2_with fail
    refine (add2_num (p := m + 40) hS.num hL.num (by omega) (by omega) (by omega)).mono ?_
    rintro e w6 ⟨aE, nE, cE, rfl, hE, hbN⟩
    replace hE := hE.base hbw.size
    replace hbw := hbw.trans (hbN.mono hbw.size)
    replace hA := hA.below hbN
    replace hH := hH.below hbN
    replace hT := hT.below hbN
    replace hR := hR.below hbN
    replace hS := hS.below hbN
    replace hD := hD.below hbN
    replace hL := hL.below hbN
    clear hbN
    obtain ⟨q, hq⟩ : ∃ q, ((H - T * T) * P + M1) / (2 * T) = q := ⟨_, rfl⟩
    obtain ⟨y, hy⟩ : ∃ y, ((H - T * T) * P + M1) % (2 * T) = y := ⟨_, rfl⟩
    obtain ⟨R0, hR0⟩ : ∃ R0, T * P + q = R0 := ⟨_, rfl⟩
    obtain ⟨Z, hZ⟩ : ∃ Z, y * P + M0 = Z := ⟨_, rfl⟩
    have hstep := root_step hP1 HNN.out h10 h11 h00 h01 hRT hTP hq.symm hy.symm hR0.symm hZ.symm
    have hE2 : (H - T * T) * P + M1 < B64 ^ m := by
      have h1 := HNN.out
      have h2 := HT.out
      have h3 : (H - T * T) * P ≤ H * P := Int.mul_le_mul_of_nonneg_right (by have := Int.mul_nonneg hRT.1 hRT.1; omega) (by omega)
      have h4 : (H * P + M1) * 1 ≤ (H * P + M1) * P := Int.mul_le_mul_of_nonneg_left hP1 (by have := hRT.2.1; have h5 := Int.mul_nonneg hRT.1 hRT.1; have h6 := Int.mul_nonneg (show 0 ≤ H by omega) (show 0 ≤ P by omega); omega)
      omega
    replace hE := hE.tight hE2
    have HQ := Lib.hid hq
    have HY := Lib.hid hy
    have HR0 := Lib.hid hR0
    have HZ := Lib.hid hZ
    clear hq hy hR0 hZ hE2
    go_wp2_with fail
    refine (shiftUp_num (p := m + 1) 1 hT.num (by omega) (by omega) (by omega)).mono ?_
    rintro e w7 ⟨aU, nU, cU, rfl, hU, hbN⟩
    replace hU := hU.base hbw.size
    replace hbw := hbw.trans (hbN.mono hbw.size)
    replace hA := hA.below hbN
    replace hH := hH.below hbN
    replace hT := hT.below hbN
    replace hR := hR.below hbN
    replace hS := hS.below hbN
    replace hD := hD.below hbN
    replace hL := hL.below hbN
    replace hE := hE.below hbN
    clear hbN
    replace hU := hU.eq (show T * 2 ^ 1 = 2 * T by omega)
    go_wp2_with fail
    refine (dm_num hE.num hU.num (by omega) (by omega) hT0).mono ?_
    rintro e w8 ⟨aQ, nQ, cQ, aY, nY, cY, rfl, hQ, hY, -, hbN⟩
    replace hQ := hQ.base hbw.size
    replace hY := hY.base hbw.size
    replace hbw := hbw.trans (hbN.mono hbw.size)
    replace hA := hA.below hbN
    replace hH := hH.below hbN
    replace hT := hT.below hbN
    replace hR := hR.below hbN
    replace hS := hS.below hbN
    replace hD := hD.below hbN
    replace hL := hL.below hbN
    replace hE := hE.below hbN
    replace hU := hU.below hbN
    clear hbN
    replace hQ := hQ.eq HQ.out
    replace hY := hY.eq HY.out
    go_wp2_with fail
    refine (shiftUp_num (p := m + 36) k hT.num (by omega) (by omega) (by omega)).mono ?_
    rintro e w9 ⟨aV, nV, cV, rfl, hV, hbN⟩
    replace hV := hV.base hbw.size
    replace hbw := hbw.trans (hbN.mono hbw.size)
    replace hA := hA.below hbN
    replace hH := hH.below hbN
    replace hT := hT.below hbN
    replace hR := hR.below hbN
    replace hS := hS.below hbN
    replace hD := hD.below hbN
    replace hL := hL.below hbN
    replace hE := hE.below hbN
    replace hU := hU.below hbN
    replace hQ := hQ.below hbN
    replace hY := hY.below hbN
    clear hbN
    rw [HP.out] at hV
    go_wp2_with fail
    refine (add2_num (p := m + 40) hV.num hQ.num (by omega) (by omega) (by omega)).mono ?_
    rintro e w10 ⟨aX, nX, cX, rfl, hX, hbN⟩
    replace hX := hX.base hbw.size
    replace hbw := hbw.trans (hbN.mono hbw.size)
    replace hA := hA.below hbN
    replace hH := hH.below hbN
    replace hT := hT.below hbN
    replace hR := hR.below hbN
    replace hS := hS.below hbN
    replace hD := hD.below hbN
    replace hL := hL.below hbN
    replace hE := hE.below hbN
    replace hU := hU.below hbN
    replace hQ := hQ.below hbN
    replace hY := hY.below hbN
    replace hV := hV.below hbN
    clear hbN
    replace hX := hX.eq HR0.out
    go_wp2_with fail
    refine (shiftUp_num (p := m + 40) k hY.num (by omega) (by omega) (by omega)).mono ?_
    rintro e w11 ⟨aG, nG, cG, rfl, hG, hbN⟩
    replace hG := hG.base hbw.size
    replace hbw := hbw.trans (hbN.mono hbw.size)
    replace hA := hA.below hbN
    replace hH := hH.below hbN
    replace hT := hT.below hbN
    replace hR := hR.below hbN
    replace hS := hS.below hbN
    replace hD := hD.below hbN
    replace hL := hL.below hbN
    replace hE := hE.below hbN
    replace hU := hU.below hbN
    replace hQ := hQ.below hbN
    replace hY := hY.below hbN
    replace hV := hV.below hbN
    replace hX := hX.below hbN
    clear hbN
    rw [HP.out] at hG
    go_wp2_with fail
    refine (lowBits_num k hA (by omega) (by omega)).mono ?_
    rintro e w12 ⟨aJ, nJ, cJ, rfl, hJ, hbN⟩
    replace hJ := hJ.base hbw.size
    replace hbw := hbw.trans (hbN.mono hbw.size)
    replace hA := hA.below hbN
    replace hH := hH.below hbN
    replace hT := hT.below hbN
    replace hR := hR.below hbN
    replace hS := hS.below hbN
    replace hD := hD.below hbN
    replace hL := hL.below hbN
    replace hE := hE.below hbN
    replace hU := hU.below hbN
    replace hQ := hQ.below hbN
    replace hY := hY.below hbN
    replace hV := hV.below hbN
    replace hX := hX.below hbN
    replace hG := hG.below hbN
    clear hbN
    replace hJ := hJ.eq HM0.out
    go_wp2_with fail
    refine (add2_num (p := m + 50) hG.num hJ.num (by omega) (by omega) (by omega)).mono ?_
    rintro e w13 ⟨aZ, nZ, cZ, rfl, hZ, hbN⟩
    replace hZ := hZ.base hbw.size
    replace hbw := hbw.trans (hbN.mono hbw.size)
    replace hA := hA.below hbN
    replace hH := hH.below hbN
    replace hT := hT.below hbN
    replace hR := hR.below hbN
    replace hS := hS.below hbN
    replace hD := hD.below hbN
    replace hL := hL.below hbN
    replace hE := hE.below hbN
    replace hU := hU.below hbN
    replace hQ := hQ.below hbN
    replace hY := hY.below hbN
    replace hV := hV.below hbN
    replace hX := hX.below hbN
    replace hG := hG.below hbN
    replace hJ := hJ.below hbN
    clear hbN
    replace hZ := hZ.eq HZ.out
    go_wp2_with fail
    refine (mul_num 40 hQ.num hQ.num (p := 2 * m) (by omega) (by omega) (by decide)).mono ?_
    rintro e w14 ⟨aK, nK, cK, rfl, hK, hbN⟩
    replace hK := hK.base hbw.size
    replace hbw := hbw.trans (hbN.mono hbw.size)
    replace hA := hA.below hbN
    replace hH := hH.below hbN
    replace hT := hT.below hbN
    replace hR := hR.below hbN
    replace hS := hS.below hbN
    replace hD := hD.below hbN
    replace hL := hL.below hbN
    replace hE := hE.below hbN
    replace hU := hU.below hbN
    replace hQ := hQ.below hbN
    replace hY := hY.below hbN
    replace hV := hV.below hbN
    replace hX := hX.below hbN
    replace hG := hG.below hbN
    replace hJ := hJ.below hbN
    replace hZ := hZ.below hbN
    clear hbN
    go_wp2_with fail
    refine (cmp_num hZ.num hK.num).mono ?_
    rintro e w15 ⟨rfl, hbN⟩
    replace hbw := hbw.trans (hbN.mono hbw.size)
    replace hA := hA.below hbN
    replace hH := hH.below hbN
    replace hT := hT.below hbN
    replace hR := hR.below hbN
    replace hS := hS.below hbN
    replace hD := hD.below hbN
    replace hL := hL.below hbN
    replace hE := hE.below hbN
    replace hU := hU.below hbN
    replace hQ := hQ.below hbN
    replace hY := hY.below hbN
    replace hV := hV.below hbN
    replace hX := hX.below hbN
    replace hG := hG.below hbN
    replace hJ := hJ.below hbN
    replace hZ := hZ.below hbN
    replace hK := hK.below hbN
    clear hbN
    rcases Int.lt_or_le Z (q * q) with hlt | hle
    · obtain ⟨hR01, hroot, hval⟩ := hstep.2.2.2.2 hlt
      rw [cmpI_lt hlt]
      go_wp2_with fail
      refine (sub_lit hX.num hR01 (by omega)).mono ?_
      rintro e w16 ⟨aF, nF, cF, rfl, hF, hbN⟩
      replace hF := hF.base hbw.size
      replace hbw := hbw.trans (hbN.mono hbw.size)
      replace hA := hA.below hbN
      replace hH := hH.below hbN
      replace hT := hT.below hbN
      replace hR := hR.below hbN
      replace hS := hS.below hbN
      replace hD := hD.below hbN
      replace hL := hL.below hbN
      replace hE := hE.below hbN
      replace hU := hU.below hbN
      replace hQ := hQ.below hbN
      replace hY := hY.below hbN
      replace hV := hV.below hbN
      replace hX := hX.below hbN
      replace hG := hG.below hbN
      replace hJ := hJ.below hbN
      replace hZ := hZ.below hbN
      replace hK := hK.below hbN
      clear hbN
      go_wp2_with fail
      refine (add3_num (p := 2 * m + 60) hZ.num hX.num hF.num (by omega) (by omega) (by omega) (by omega)).mono ?_
      rintro e w17 ⟨aO, nO, cO, rfl, hO, hbN⟩
      replace hO := hO.base hbw.size
      replace hbw := hbw.trans (hbN.mono hbw.size)
      replace hA := hA.below hbN
      replace hH := hH.below hbN
      replace hT := hT.below hbN
      replace hR := hR.below hbN
      replace hS := hS.below hbN
      replace hD := hD.below hbN
      replace hL := hL.below hbN
      replace hE := hE.below hbN
      replace hU := hU.below hbN
      replace hQ := hQ.below hbN
      replace hY := hY.below hbN
      replace hV := hV.below hbN
      replace hX := hX.below hbN
      replace hG := hG.below hbN
      replace hJ := hJ.below hbN
      replace hZ := hZ.below hbN
      replace hK := hK.below hbN
      replace hF := hF.below hbN
      clear hbN
      go_wp2_with fail
      refine (sub_num hO.num hK.num (by omega) (by have h1 := hroot.2.1; omega)).mono ?_
      rintro e w18 ⟨aC, nC, cC, rfl, hC, hbN⟩
      replace hC := hC.base hbw.size
      replace hbw := hbw.trans (hbN.mono hbw.size)
      replace hA := hA.below hbN
      replace hH := hH.below hbN
      replace hT := hT.below hbN
      replace hR := hR.below hbN
      replace hS := hS.below hbN
      replace hD := hD.below hbN
      replace hL := hL.below hbN
      replace hE := hE.below hbN
      replace hU := hU.below hbN
      replace hQ := hQ.below hbN
      replace hY := hY.below hbN
      replace hV := hV.below hbN
      replace hX := hX.below hbN
      replace hG := hG.below hbN
      replace hJ := hJ.below hbN
      replace hZ := hZ.below hbN
      replace hK := hK.below hbN
      replace hF := hF.below hbN
      replace hO := hO.below hbN
      clear hbN
      go_wp2_with fail
      go_ret2
      have hlt := HT.out
      have h1 := sq_le hroot
      have h2 := Int.mul_nonneg hroot.1 hroot.1
      exact ⟨R0 - 1, hroot, _, _, _, _, _, _, rfl, hF.tight (by omega), (hC.eq hval).tight (by omega), hbw⟩
    · have hcs : ¬ cmpI Z (q * q) < 0 := by
        rcases Int.lt_or_eq_of_le hle with h | h
        · rw [cmpI_gt h]; decide
        · rw [cmpI_eq h.symm]; decide
      obtain ⟨cc, hcc⟩ : ∃ cc, cc = cmpI Z (q * q) := ⟨_, rfl⟩
      rw [← hcc] at hcs ⊢
      clear hcc
      go_wp2_with fail
      refine (sub_num hZ.num hK.num (by omega) hle).mono ?_
      rintro e w16 ⟨aF, nF, cF, rfl, hF, hbN⟩
      replace hF := hF.base hbw.size
      replace hbw := hbw.trans (hbN.mono hbw.size)
      replace hA := hA.below hbN
      replace hH := hH.below hbN
      replace hT := hT.below hbN
      replace hR := hR.below hbN
      replace hS := hS.below hbN
      replace hD := hD.below hbN
      replace hL := hL.below hbN
      replace hE := hE.below hbN
      replace hU := hU.below hbN
      replace hQ := hQ.below hbN
      replace hY := hY.below hbN
      replace hV := hV.below hbN
      replace hX := hX.below hbN
      replace hG := hG.below hbN
      replace hJ := hJ.below hbN
      replace hZ := hZ.below hbN
      replace hK := hK.below hbN
      clear hbN
      go_wp2_with fail
      go_ret2
      obtain ⟨hroot, hval⟩ := hstep.2.2.2.1 hle
      have hlt := HT.out
      have h1 := sq_le hroot
      have h2 := Int.mul_nonneg hroot.1 hroot.1
      exact ⟨R0, hroot, _, _, _, _, _, _, rfl, hX.tight (by omega), (hF.eq hval).tight (by omega), hbw⟩
end Go.Proofs.YthfcncapgfkkjaaGreatDoor

namespace Go.Proofs.YthfcncapgfkkjaaGreatDoor
open Go.RowKit

/-- 10^19, squared i times. -/
def pw (i : Nat) : Int := 10 ^ (19 * 2 ^ i)
theorem pw_succ (i : Nat) : pw i * pw i = pw (i + 1) := by
  unfold pw
  rw [← Int.pow_add]
  congr 1
  rw [Nat.pow_succ]; omega
theorem pw_pos (i : Nat) : 0 < pw i := Int.pow_pos (by decide)
theorem pw_ge (i : Nat) : (2 : Int) ^ i ≤ pw i := by
  unfold pw
  have h1 : (2 : Int) ^ i ≤ 10 ^ i := by
    induction i with
    | zero => decide
    | succ i ih =>
      rw [Int.pow_succ, Int.pow_succ]
      have : (0:Int) < 2 ^ i := Int.pow_pos (by decide)
      omega
  have h2 : i ≤ 19 * 2 ^ i := by have := Nat.lt_two_pow_self (n := i); omega
  exact Int.le_trans h1 (pow_le_pow (by decide) h2)

/-- A number that lies in memory, in no row that is being grown. -/
def NumX (w : World) (row : Option Nat) (v : Value) (N : Int) (m : Nat) : Prop := Num w v N m ∧ ∀ g, v.ownBlock = some g → row ≠ some g ∧ g < w.heap.size
theorem Num.grown {w w' : World} {row : Option Nat} {v : Value} {N : Int} {m : Nat} (h : Num w v N m) (hg : w.grownBy w' row) (hne : ∀ g, v.ownBlock = some g → row ≠ some g) : Num w' v N m := by
  obtain ⟨l, ⟨a, c, rfl, h1, h2, h3, h4⟩, h5, h6⟩ := h
  exact ⟨l, ⟨a, c, rfl, h1, h2, h3.grown hg (fun _ b o e => hne b (by rw [e]; rfl)), h4⟩, h5, h6⟩
theorem NumX.grown {w w' : World} {row row' : Option Nat} {v : Value} {N : Int} {m : Nat} (h : NumX w row v N m) (hg : w.grownBy w' row) (hr : row' = row ∨ row' = some w.heap.size) : NumX w' row' v N m := by
  obtain ⟨h1, h2⟩ := h
  refine ⟨h1.grown hg (fun g e => (h2 g e).1), fun g e => ⟨?_, ?_⟩⟩
  · have := h2 g e
    rcases hr with rfl | rfl
    · exact this.1
    · intro e2
      simp at e2
      omega
  · have := hg.size; have := (h2 g e).2; omega
theorem NumX.below {w w' : World} {row : Option Nat} {v : Value} {N : Int} {m : Nat} (h : NumX w row v N m) (hb : Below w.heap.size w w') : NumX w' row v N m :=
  ⟨h.1.below hb, fun g e => ⟨(h.2 g e).1, by have := hb.size; have := (h.2 g e).2; omega⟩⟩
theorem NumX.alloc {w : World} {row : Option Nat} {v : Value} {N : Int} {m : Nat} (h : NumX w row v N m) (o : Obj) : NumX (w.alloc o) row v N m := h.below (below_alloc w o)

/-- The powers in a row. -/
def PowX (w : World) (row : Option Nat) (vs : List Value) (m : Nat) : Prop := ∀ j, j < vs.length → NumX w row (vs.getD j undef) (pw j) m
/-- What nat.chunkPowers returns. -/
def RetPow (w : World) (N : Int) (m : Nat) (e : Ending) (w' : World) : Prop :=
  ∃ v vs, e = .returned v ∧ OwV w.heap.size w' v vs ∧ (∀ j, j < vs.length → Num w' (vs.getD j undef) (pw j) m) ∧ N < pw vs.length ∧ (∀ i, i + 1 = vs.length → pw i ≤ N) ∧ Below w.heap.size w w'

theorem getD_snoc {vs : List Value} {v : Value} {j : Nat} : (vs ++ [v]).getD j undef = if j < vs.length then vs.getD j undef else if j = vs.length then v else undef := by
  rw [List.getD_eq_getElem?_getD, List.getElem?_append]
  split
  · rw [List.getD_eq_getElem?_getD]
  · rename_i h
    by_cases h2 : j = vs.length
    · subst h2; simp
    · rw [if_neg h2, List.getElem?_eq_none (by simp; omega)]; rfl

theorem nb_lt_self {N : Int} : N < 2 ^ nb N := by
  rcases Int.lt_or_le 0 N with h | h
  · exact (nb_spec h).2.1
  · have := pow2_pos (nb N); omega
theorem nb_ge {N : Int} {k : Nat} (h : (2 : Int) ^ k ≤ N) : k + 1 ≤ nb N := by
  rcases Nat.lt_or_ge k (nb N) with h1 | h1
  · exact h1
  · have h2 := nb_lt_self (N := N)
    have h3 : (2 : Int) ^ nb N ≤ 2 ^ k := pow_le_pow (by decide) h1
    omega
theorem break_lt {P N : Int} (hP : 0 < P) (h : nb N + 2 ≤ 2 * nb P) : N < P * P := by
  obtain ⟨h1, _, h3⟩ := nb_spec hP
  have h4 : (2 : Int) ^ nb N ≤ 2 ^ ((nb P - 1) + (nb P - 1)) := pow_le_pow (by decide) (by omega)
  rw [Int.pow_add] at h4
  have h5 : (2 : Int) ^ (nb P - 1) * 2 ^ (nb P - 1) ≤ P * P := Int.mul_le_mul h1 h1 (Int.le_of_lt (pow2_pos _)) (by omega)
  have := nb_lt_self (N := N)
  omega

set_option maxRecDepth 100000 in
set_option maxHeartbeats 4000000 in
theorem powers_num {w : World} {u : Value} {N : Int} {m : Nat} (hA : Num w u N m) (hm : m ≤ 1000) (hm0 : 1 ≤ m) :
    Calls Tryz.prog 65 #[u] w fun e w' => RetPow w N (2 * m + 1) e w' := by
  have hN0 := hA.nonneg
  have hlt := hA.lt
  obtain ⟨t, ht⟩ : ∃ t, t = nb N := ⟨_, rfl⟩
  have htm : t ≤ 64 * m := by
    rw [ht]
    refine nb_le ?_
    rw [show (2:Int) ^ (64 * m) = B64 ^ m by rw [Int.pow_mul]; rfl]
    exact hlt
  have HB := Lib.hid (bits_num hA (by omega))
  rw [← ht] at HB
  have HT := Lib.hid ht
  have HLT := Lib.hid hlt
  clear ht hlt
  go_enter Tryz.func65, Tryz.ntmps65
  go_wp2_with fail
  refine HB.out.mono ?_
  rintro e w' ⟨rfl, rfl⟩
  go_wp2_with fail
  refine (of1_num 10000000000000000000 _ w (by decide) (by decide)).mono ?_
  rintro e w1 ⟨a1, n1, c1, rfl, h1, hb1⟩
  go_wp2_with fail
  go_loopw [3, 5] (fun vp vc wr => ∃ (vs : List Value) (aC : Option Addr) (nC cC : Nat), vc = .slice aC nC cC ∧ OwV w1.heap.size wr vp vs ∧ NumX wr vp.ownBlock (.slice aC nC cC) (pw vs.length) (2 * m + 1) ∧ PowX wr vp.ownBlock vs (2 * m + 1) ∧ Below w1.heap.size w1 wr ∧ Hid (vs.length ≤ t) ∧ Hid (∀ i, i + 1 = vs.length → pw i ≤ N))
    (fun vp _ wr => t + 1 - (match vp with | .slice _ n _ => n | _ => 0))
  case atStart =>
    refine ⟨[], a1, n1, c1, rfl, OwV.nil _ _, ⟨h1.num.mono (by omega), fun g e => ⟨by simp [Value.ownBlock], (h1.lt g e).2⟩⟩, fun j hj => by simp at hj, Below.refl _ _, Nat.zero_le _, fun i hi => by simp at hi⟩
  case round =>
    obtain ⟨vs, aC, nC, cC, rfl, hO, hX, hP, hbl, HLEN, HLE⟩ := hrel
    have hAw : Num wr u N m := (hA.below hb1).below hbl
    obtain ⟨a3, cp3, rfl, h31, h32, h33⟩ := hO.form
    clear h31 h32 h33
    have hbw : Below w.heap.size w wr := hb1.trans (hbl.mono hb1.size)
    have hw1 := hb1.size
    have hwr := hbl.size
    rcases Int.lt_or_le N (pw vs.length) with hgt | hle
    · have hc : cmpI (pw vs.length) N = 1 := cmpI_gt hgt
      have HG := Lib.hid hgt
      clear hgt
      go_wp2_with fail
      refine (cmp_num hX.1 hAw).mono ?_
      rintro e w2 ⟨rfl, hb2⟩
      rw [hc]
      go_wp2_with fail
      go_ret
      exact ⟨_, vs, rfl, ⟨(hO.below hb2).1, by
        rcases (hO.below hb2).2 with h | ⟨g, cap, cur, h, hg, r⟩
        · exact Or.inl h
        · exact Or.inr ⟨g, cap, cur, h, by omega, r⟩⟩, fun j hj => (hP j hj).1.below hb2, HG.out, HLE.out, hbw.trans (hb2.mono hbw.size)⟩
    · obtain ⟨c, hc⟩ : ∃ c, c = cmpI (pw vs.length) N := ⟨_, rfl⟩
      have hcl : c ≤ 0 := by
        rw [hc]
        rcases Int.lt_or_eq_of_le hle with h | h
        · rw [cmpI_lt h]; decide
        · rw [cmpI_eq h]; decide
      have hk1 : vs.length + 1 ≤ t := by rw [HT.out]; exact nb_ge (Int.le_trans (pw_ge _) hle)
      have HC := Lib.hid hc
      have HLE2 := Lib.hid hle
      obtain ⟨b, hb⟩ : ∃ b, b = nb (pw vs.length) := ⟨_, rfl⟩
      have hPlt := hX.1.lt
      have hbb : b ≤ 64 * (2 * m + 1) := by
        rw [hb]
        refine nb_le ?_
        rw [show (2:Int) ^ (64 * (2 * m + 1)) = B64 ^ (2 * m + 1) by rw [Int.pow_mul]; rfl]
        exact hPlt
      have HBB := Lib.hid hb
      have hpp : pw (vs.length + 1) < B64 ^ (2 * m + 1) := by
        rw [← pw_succ]
        have h1 : pw vs.length * pw vs.length < B64 ^ m * B64 ^ m := prod_lt (Int.lt_of_le_of_lt hle HLT.out) (Int.lt_of_le_of_lt hle HLT.out) (Int.le_of_lt (pw_pos _)) (Int.le_of_lt (pw_pos _))
        rw [← Int.pow_add] at h1
        exact Int.lt_of_lt_of_le h1 (pow_le_pow B64_pos (by omega))
      have HPP := Lib.hid hpp
      have h1 : ∀ u ∈ [Value.slice aC nC cC], u.oneCell' = true := by intro u hu; rw [List.mem_singleton] at hu; subst hu; rfl
      have hl1 : vs.length + 1 ≤ 4294967296 := by omega
      have hbI : ((b : Nat) : Int) ≤ 128064 := by omega
      clear hc hle hb hPlt hpp
      go_wp2_with fail
      refine (cmp_num hX.1 hAw).mono ?_
      rintro e w2 ⟨rfl, hb2⟩
      rw [← HC.out]
      have hO2 := hO.below hb2
      have hX2 := hX.below hb2
      have hbl2 := hbl.trans (hb2.mono hwr)
      have hs2 := hbl2.size
      go_wp2_with (at_builtin; refine wpList_append_vals _ rfl (.tmp 17) (.tmp 19) 60 rfl Tryz.underlying60 info_nat w1.heap.size (.slice a3 vs.length cp3) vs rfl (hO2.alloc _) ⟨w2.heap.size, 0, none⟩ 1 1 [.slice aC nC cC] rfl rfl (newv1 _ _ _) h1 hl1 (by simp; omega) ?_; intro v2 w3 hO3 hg3 hat3)
      have hrow : v2.ownBlock = (Value.slice a3 vs.length cp3).ownBlock ∨ v2.ownBlock = some (w2.alloc (.cells #[Value.slice aC nC cC] 36)).heap.size := hat3
      have hX3 : NumX w3 v2.ownBlock (.slice aC nC cC) (pw vs.length) (2 * m + 1) := (hX2.alloc _).grown hg3 hrow
      have hP3 : PowX w3 v2.ownBlock (vs ++ [.slice aC nC cC]) (2 * m + 1) := by
        intro j hj
        rw [List.length_append, List.length_singleton] at hj
        rw [getD_snoc]
        by_cases hjv : j < vs.length
        · rw [if_pos hjv]
          exact (((hP j hjv).below hb2).alloc _).grown hg3 hrow
        · obtain rfl : j = vs.length := by omega
          rw [if_neg hjv, if_pos rfl]
          exact hX3
      have hb13 : Below w1.heap.size w1 w3 := below_app hbl2 hO2 (Nat.le_refl _) hs2 hg3
      have hbw3 : Below w.heap.size w w3 := hb1.trans (hb13.mono hb1.size)
      clear hP hX hX2 hg3 hat3 hrow hO hO2
      refine (bits_num hX3.1 (by omega)).mono ?_
      rintro e w' ⟨rfl, rfl⟩
      rw [← HBB.out]
      by_cases hbr : (t : Int) < 2 * (b : Int) - 1
      · go_wp2_with fail
        go_ret
        refine ⟨v2, _, rfl, ⟨hO3.1, ?_⟩, fun j hj => (hP3 j hj).1, ?_, ?_, hbw3⟩
        · rcases hO3.2 with h | ⟨g, cap, cur, h, hg, r⟩
          · exact Or.inl h
          · exact Or.inr ⟨g, cap, cur, h, by omega, r⟩
        · rw [List.length_append, List.length_singleton, ← pw_succ]
          exact break_lt (pw_pos _) (by rw [← HT.out, ← HBB.out]; omega)
        · intro i hi
          rw [List.length_append, List.length_singleton] at hi
          obtain rfl : i = vs.length := by omega
          exact HLE2.out
      · go_wp2_with fail
        refine (mul_num 40 hX3.1 hX3.1 (p := 2 * (2 * m + 1)) (by omega) (by omega) (by decide)).mono ?_
        rintro e w4 ⟨aD, nD, cD, rfl, hD, hb4⟩
        rw [pw_succ] at hD
        have hD2 := hD.tight HPP.out
        have hv2 := fun g e => (hO3.lt g e).2
        obtain ⟨a2, cp2, hv2e, h21, h22, h23⟩ := hO3.form
        rw [List.length_append, List.length_singleton] at hv2e
        subst hv2e
        go_wp2_with fail
        go_roundw
        case rel =>
          refine ⟨vs ++ [.slice aC nC cC], aD, nD, cD, rfl, hO3.below hb4, ?_, fun j hj => (hP3 j hj).below hb4, hb13.trans (hb4.mono hb13.size), ?_, ?_⟩
          · rw [List.length_append, List.length_singleton]
            refine ⟨hD2.num, fun g e => ⟨fun e2 => ?_, (hD.lt g e).2⟩⟩
            have := (hD.lt g e).1
            have := hv2 g e2
            omega
          · show _ ≤ _; rw [List.length_append, List.length_singleton]; exact hk1
          · intro i hi
            rw [List.length_append, List.length_singleton] at hi
            obtain rfl : i = vs.length := by omega
            exact HLE2.out
        case measure =>
          show t + 1 - (vs.length + 1) < t + 1 - vs.length
          omega
end Go.Proofs.YthfcncapgfkkjaaGreatDoor
