/-
  ShiftB: Contract of the document's own Low: how many zero bits a number ends with. The document's own DivMod and Sqrt, at the level of numbers. Contracts of the statements' own lists: copies, lists that are lent with room behind them, and whether they have stayed as they were; append of words to nothing. Contract of the document's own Sub, of a number and one that is not above it. What the statement NatShifts wants besides: Low of every number, shifts by negative counts and out of range, one light list, equal numbers.
  Book0: compassbook's kinds of lists of which none is kept.
  Book1: compassbook: the marks of a list.
  Book2: compassbook: rows of lists; the lists that are kept.
  RefZ: Integers as the document's own dyads hold them: a sign, an odd amount, a power of two. Contracts of Make, Sign and Not.
  SlotsT: A region that draws its order and ends with a forced tail, by what its slots hold, where the kept fact may speak of the slots, too; two new variables that lie apart.
  Book3: compassbook: do the lists stay what they were?
  Book4: compassbook: are the lists marked?
  Book5: compassbook: marks are put into the lists.
  BookPut: compassbook: putLimbs.
  Book6: An append that leaves the old row's reading as it was.
  Book7: compassbook: what holds while the lists are grown.
  Book8: compassbook: the lists are grown.
-/
import Derived.Test.YthfcncapgfkkjaaGreatDoorPk10
import Derived.Test.YthfcncapgfkkjaaGreatDoorPk22
import Derived.Test.YthfcncapgfkkjaaGreatDoorPk11
import Derived.Test.YthfcncapgfkkjaaGreatDoorPk9
import Derived.Test.YthfcncapgfkkjaaGreatDoorPk23
import Derived.Test.YthfcncapgfkkjaaGreatDoorPk20
import Derived.Deep.DeepCutAuto
import Derived.Test.YthfcncapgfkkjaaGreatDoorPk19
import Derived.Test.YthfcncapgfkkjaaGreatDoorPk21

namespace Go.Proofs.YthfcncapgfkkjaaGreatDoor
open Go.RowKit


theorem low_digit {l : List Int} {i k : Nat} {x m : Int} (hi : i < l.length) (hk : k < 32) (hx : l.getD i 0 = x) (hz : vb B32 (l.take i) = 0) (hm : x = 2 ^ k * (2 * m + 1)) : IsLow (vb B32 l) (32 * i + k) := by
  refine ⟨m + 2 ^ (31 - k) * vb B32 (l.drop (i + 1)), ?_⟩
  rw [vb_split B32 l i (by omega), hz, vb_drop B32 hi, hx, hm]
  have e1 : B32 ^ i = 2 ^ (32 * i) := by rw [Int.pow_mul]; rfl
  have e2 : (B32 : Int) = 2 ^ k * (2 ^ (31 - k) * 2) := by
    rw [← Int.pow_succ, ← Int.pow_add, show k + (31 - k + 1) = 32 by omega]; rfl
  generalize vb B32 (l.drop (i + 1)) = R
  rw [e1, Int.pow_add, Int.zero_add]
  conv => lhs; rw [e2]
  rw [Int.mul_assoc (2 ^ (32 * i)) (2 ^ k)]
  congr 1
  rw [Int.mul_assoc (2 ^ k), ← Int.mul_add]
  congr 1
  rw [Int.mul_comm (2 ^ (31 - k)) 2, Int.mul_assoc, Int.mul_add]
  omega

/-- One more zero bit. -/
theorem bit_zero {x z : Int} {k : Nat} (hx : x % 2 ^ k = 0) (hz : x / 2 ^ k = z) (hb : z % 2 = 0) : x % 2 ^ (k + 1) = 0 := by
  have e := Int.mul_ediv_add_emod x (2 ^ k)
  rw [hz, hx] at e
  have e2 : x = 2 ^ (k + 1) * (z / 2) := by
    rw [Int.pow_succ, Int.mul_assoc, show 2 * (z / 2) = z by omega]; omega
  rw [e2, Int.mul_emod_right]
theorem bit_one {x z : Int} {k : Nat} (hx : x % 2 ^ k = 0) (hz : x / 2 ^ k = z) (hb : z % 2 = 1) : x = 2 ^ k * (2 * (z / 2) + 1) := by
  have e := Int.mul_ediv_add_emod x (2 ^ k)
  rw [hz, hx] at e
  rw [show 2 * (z / 2) + 1 = z by omega]; omega

theorem RdD.rn {w : World} {v : Value} {l : List Int} {N : Int} {m : Nat} (h : RdD w v l) (hv : vb B32 l = N) (hm : N < B32 ^ m) : RN w v N m := by
  obtain ⟨a, c, rfl, h2, h3, h4, h5⟩ := h
  exact ⟨l, a, c, rfl, h2, h3, h4, h5, hv, room_of B32_pos h5 (by rw [hv]; exact hm)⟩
theorem RetD2.retr {w : World} {Q R : Int} {m k : Nat} {e : Ending} {w' : World} (h : RetD2 w Q R e w') (hm : Q < B32 ^ m) (hk : R < B32 ^ k) : RetR2 w Q R m k e w' := by
  obtain ⟨aq, nq, cq, lq, ar, nr, cr, lr, rfl, h1, h2, h3, h4, h5⟩ := h
  exact ⟨aq, nq, cq, ar, nr, cr, rfl, h1.rn h2 hm, h3.rn h4 hk, h5⟩

set_option maxRecDepth 100000 in
/-- The dividend is less than the divisor. -/
theorem rdivs_any (aa : Option Addr) (na ca : Nat) (la : List Int) (ab : Option Addr) (n cb : Nat) (lb : List Int) (w : World) (hna : na = la.length) (hnb : n = lb.length) (h1 : na ≤ ca) (h2 : ca ≤ 9223372036854775807) (h3 : n ≤ cb) (h4 : cb ≤ 9223372036854775807)
    (ha : Rd w aa la) (hb : Rd w ab lb) (hla : Can B32 la) (hlb : Can B32 lb) (hlt : vb B32 la < vb B32 lb) :
    Calls Tryz.prog 19 #[.slice aa na ca, .slice ab n cb] w fun e w' => RetD2 w (vb B32 la / vb B32 lb) (vb B32 la % vb B32 lb) e w' := by
  have hC := rcmp_any aa na ca la ab n cb lb w hna hnb h1 h2 h3 h4 ha hb hla hlb
  have hn0 := vb_nonneg B32_pos hla.lim
  rw [cmpI_lt hlt] at hC
  have HC := Lib.hid hC
  have HQ := Lib.hid (Int.ediv_eq_zero_of_lt hn0 hlt)
  have HR := Lib.hid (Int.emod_eq_of_lt hn0 hlt)
  have HN := Lib.hid hna
  clear hC hna hlt hnb
  go_enter Tryz.func19, Tryz.ntmps19
  go_wp2_with fail
  refine HC.out.mono ?_
  rintro e w1 ⟨rfl, hb1⟩
  go_wp2_with fail
  go_ret2
  exact ⟨none, 0, 0, [], aa, na, ca, la, rfl, ⟨none, 0, rfl, Nat.le_refl _, by decide, Rd.nil _ _, Can.nil _⟩, by rw [HQ.out]; rfl, ⟨aa, ca, by rw [HN.out], by rw [← HN.out]; exact h1, h2, ha.below hb1, hla⟩, by rw [HR.out], hb1⟩

theorem rdm_num {w : World} {u v : Value} {A B : Int} {m k : Nat} (h : RN w u A m) (g : RN w v B k) (hB : B ≠ 0) (hm : m ≤ 100000) : Calls Tryz.prog 19 #[u, v] w fun e w' => RetR2 w (A / B) (A % B) m k e w' := by
  have hA0 := h.nonneg
  have hB0 := g.nonneg
  have hq : A / B < B32 ^ m := Int.lt_of_le_of_lt (Int.ediv_le_self _ hA0) h.lt
  have hr : A % B < B32 ^ k := Int.lt_trans (Int.emod_lt_of_pos A (by omega)) g.lt
  obtain ⟨a, n, c, l, rfl, h1, h2, h3, h4, h5, rfl, h7⟩ := h.open
  obtain ⟨a', n', c', l', rfl, g1, g2, g3, g4, g5, rfl, g7⟩ := g.open
  have fin : ∀ e w', RetD2 w (vb B32 l / vb B32 l') (vb B32 l % vb B32 l') e w' → RetR2 w (vb B32 l / vb B32 l') (vb B32 l % vb B32 l') m k e w' := fun e w' hr' => hr'.retr hq hr
  rcases Int.lt_or_le (vb B32 l) (vb B32 l') with hlt | hge
  · exact (rdivs_any a n c l a' n' c' l' w h1 g1 h2 h3 g2 g3 h4 g4 h5 g5 hlt).mono fin
  · have hne : l' ≠ [] := by intro e; rw [e] at hB; exact hB rfl
    have hn0 : 0 < n' := by rw [g1]; exact List.length_pos_iff.2 hne
    by_cases h21 : n' = 1
    · subst h21
      obtain ⟨d, hd⟩ : ∃ d, l' = [d] := by
        match l', g1 with
        | [d], _ => exact ⟨d, rfl⟩
      subst hd
      obtain ⟨b, o, rfl, hat⟩ := g4.cases (by simp)
      have hvd : vb B32 [d] = d := by simp [vb_cons]
      rw [hvd] at hB hB0 hq hr fin ⊢
      have hd1 := (g5.lim).head.2
      exact (rdiv1_any a n c l b o c' d w h1 h2 h3 g2 g3 h4 h5 hat (by omega) (by unfold B32 at hd1; omega) (by unfold MaxW; omega)).mono fin
    · exact (rdivl_any a n c l a' n' c' l' w h1 g1 h2 h3 g2 g3 h4 g4 h5 g5 (by omega) hge (by omega)).mono fin

/-- One step of Newton's from a number above the root. -/
theorem newton_pos {x r : Int} (hx : 0 < x) (hr : 0 < r) (h : x < (r + 1) * (r + 1)) : 0 < (r + x / r) / 2 := by
  by_cases h1 : r = 1
  · subst h1
    have : x / 1 = x := Int.ediv_one x
    rw [this]; omega
  · have : 0 ≤ x / r := Int.ediv_nonneg (by omega) (by omega)
    omega

/-- append(nothing, words ..). -/
theorem wpList_append_nil_words {P : Program} (w : World) {ops : Array Oper} {rest : List Oper} {o : Oper} {a : Act} {Q : Exit → Act → World → Prop} (hgd : o.guard = none) (s x : Operand) (t : TypeId)
    (ho : o.op = .call { callee := .builtin .append, args := #[s, x], argTypes := #[t, t] }) (ht : P.underlying t = some (.slice 53)) (hi : (P.info? 53).map (fun i => (i.zero, i.size, i.bytes)) = some (some (.int .u64 0), 1, 8))
    (hs : a.eval s = .slice none 0 0) (ao : Option Addr) (n c : Nat) (l : List Int) (hx : a.eval x = .slice ao n c) (hn : n = l.length) (hr : Rd w ao l) (hM : n ≤ MaxW)
    (hK : ∀ v' w', Ow w.heap.size w' v' l → Below w.heap.size w w' → wpList P ops Q rest (a.put o.dst v') w') : wpList P ops Q (o :: rest) a w := by
  by_cases hl : l = []
  · subst hl
    obtain rfl : n = 0 := hn
    obtain ⟨i, h2, h3, h4, h5⟩ := info_parts hi
    refine wpList_plain hgd fun K hK' => ?_
    have hrun : (Builtin.append_ #[t, t] o.type #[.slice none 0 0, .slice ao 0 c]).run P w = .ok (.slice none 0 0) w := by
      cases ao <;> simp [Builtin.append_, run_underlying ht, sizeOf, typeInfo, h2, Builtin.lenOf, Builtin.firstCells, loadCells, loadCellsFrom]
    unfold Oper.wp execOp
    simp only [ho, resolve, invoke, builtin, Sem.run_bind, Sem.run_pure, Result.andThen_ok, List.map_toArray, List.map_cons, List.map_nil, hs, hx, hrun]
    exact hK' _ _ (hK _ _ (Ow.nil _ _) (Below.refl _ _))
  · obtain ⟨b, off, rfl, hat⟩ := hr.cases hl
    refine wpList_append_words w hgd s x t ho ht hi w.heap.size (.slice none 0 0) [] hs (Ow.nil _ _) ⟨b, off, none⟩ n c l hx hn.symm (fun j hj => by rw [addr_add_none]; exact hat j hj) (by simpa using hM) (Nat.le_refl _) fun v' w' h1 h2 => hK v' w' ?_ h2
    simpa using h1

/-- A row of the call's own that is not empty lies in a block of its own. -/
theorem ow_row {base : Nat} {w : World} {v : Value} {l : List Int} (h : Ow base w v l) (hl : l ≠ []) : ∃ g n cap, v = .slice (some ⟨g, 0, none⟩) n cap ∧ n = l.length ∧ n ≤ cap ∧ cap ≤ 9223372036854775807 ∧ Arr w g 0 l ∧ base ≤ g ∧ g < w.heap.size := by
  have h' := h
  obtain ⟨ao, cap, rfl, h1, h2, h3⟩ := h.form
  rcases h.2 with ⟨hv, h0⟩ | ⟨g, cap', cur, hv, hg, hh, r⟩
  · exact absurd (List.eq_nil_of_length_eq_zero h0) hl
  · simp only [Value.slice.injEq] at hv
    obtain ⟨rfl, -, rfl⟩ := hv
    exact ⟨g, _, cap, rfl, rfl, h1, h2, h'.arr.1, hg, (Array.getElem?_eq_some_iff.1 hh).1⟩

set_option maxRecDepth 100000 in
theorem copy_any (ao : Option Addr) (n cap : Nat) (l : List Int) (w : World) (hn : n = l.length) (h : Rd w ao l) (hM : n ≤ MaxW) :
    Calls Tryz.prog 27 #[.slice ao n cap] w fun e w' => ∃ v, e = .returned v ∧ Ow w.heap.size w' v l ∧ Below w.heap.size w w' := by
  have HN := Lib.hid hn
  clear hn
  go_enter Tryz.func27, Tryz.ntmps27
  go_wp2_with (at_builtin; (refine wpList_append_nil_words _ rfl _ _ 22 rfl Tryz.underlying22 info_u64 rfl ao n cap l rfl HN.out h hM ?_; intro v1 w1 hO1 hb1))
  go_ret
  exact ⟨v1, rfl, hO1, hb1⟩

set_option maxRecDepth 100000 in
theorem lent_any (ao : Option Addr) (n cap : Nat) (l : List Int) (w : World) (hn : n = l.length) (h : Rd w ao l) (hM : n + 1 ≤ MaxW) :
    Calls Tryz.prog 7 #[.slice ao n cap] w fun e w' => ∃ g c, e = .returned (.slice (some ⟨g, 0, none⟩) n c) ∧ n + 1 ≤ c ∧ c ≤ 9223372036854775807 ∧ At w' g 0 (l ++ [77]) ∧ Below w.heap.size w w' := by
  have HN := Lib.hid hn
  clear hn
  go_enter Tryz.func7, Tryz.ntmps7
  go_wp2_with fail
  refine (copy_any ao n cap l w HN.out h (by omega)).mono ?_
  rintro e w1 ⟨v1, rfl, hO1, hb1⟩
  have hO2 := hO1.alloc (.cells #[.int .u64 77] 53)
  have hlen : l.length + 1 ≤ MaxW := by rw [← HN.out]; exact hM
  have hb2 := hb1.alloc hb1.size (.cells #[.int .u64 77] 53)
  have hbs : w.heap.size ≤ (w1.alloc (.cells #[.int .u64 77] 53)).heap.size := hb2.size
  go_wp2_with (at_builtin; (refine wpList_append_words _ rfl _ _ 22 rfl Tryz.underlying22 info_u64 w.heap.size v1 l rfl hO2 ⟨w1.heap.size, 0, none⟩ 1 1 [77] rfl rfl (news1 _ _ _) hlen hbs ?_; intro v3 w3 hO3 hb3; obtain ⟨g, N, c, rfl, hN, hNc, hc63, harr, hg0, hg1⟩ := ow_row hO3 (by simp); have HNN := Lib.hid hN; clear hN; have hNn : n + 1 = N := (by rw [HNN.out, List.length_append, ← HN.out]; rfl); have hnc : n ≤ c := (by omega); have HNn := Lib.hid hNn; clear hNn))
  go_ret
  exact ⟨g, c, rfl, by have := HNn.out; omega, hc63, harr.at', hb2.trans hb3⟩

set_option maxRecDepth 100000 in
set_option maxHeartbeats 1000000 in
theorem stays_yes (g n c : Nat) (ao : Option Addr) (cap : Nat) (l : List Int) (w : World) (hn : n = l.length) (h1 : n + 1 ≤ c) (h2 : c ≤ 9223372036854775807) (h3 : n ≤ cap) (h4 : cap ≤ 9223372036854775807) (hat : At w g 0 (l ++ [77])) (h : Rd w ao l) :
    Calls Tryz.prog 21 #[.slice (some ⟨g, 0, none⟩) n c, .slice ao n cap] w fun e w' => RetV w (.bool true) e w' := by
  have h77 : w.cell? ⟨g, n, none⟩ = some (.int .u64 77) := by
    have := hat n (by rw [List.length_append, ← hn]; exact Nat.lt_succ_self n)
    rw [Nat.zero_add] at this
    rw [this]
    congr 2
    rw [List.getD_eq_getElem?_getD, List.getElem?_append_right (by omega), hn]
    simp
  have hx : Rd w (some ⟨g, 0, none⟩) l := by
    have := Rd.of_at (hat.take n)
    rwa [hn, List.take_left] at this
  have HS := Lib.hid (same_yes (some ⟨g, 0, none⟩) n c ao cap l w hn (by omega) h2 h3 h4 hx h)
  have hnI : n + 1 ≤ 9223372036854775807 := by omega
  clear hn hat hx h
  go_enter Tryz.func21, Tryz.ntmps21
  go_wp2_with fail
  refine HS.out.mono ?_
  rintro e w1 ⟨rfl, hb1⟩
  have k77 := cell_after hb1 h77
  clear h77 HS
  go_wp2_with fail
  go_ret
  exact ⟨rfl, hb1⟩


theorem rsub_step {m : List Int} {p : Nat} {c o y b t E : Int} (hp : p < m.length) (ho : o = m.getD p 0) (hS : vb B32 m + E = t + B32 ^ p * c) :
    vb B32 (m.set p (o + b * 4294967296 - (c + y))) + (E + B32 ^ p * y) = t + B32 ^ (p + 1) * b := by
  rw [vb_set B32 m p _ hp, ← ho, Int.pow_succ, Int.mul_assoc]
  have e : B32 ^ p * (B32 * b) = B32 ^ p * c + B32 ^ p * y + B32 ^ p * (o + b * 4294967296 - (c + y) - o) := by
    rw [← Int.mul_add, ← Int.mul_add]
    congr 1
    unfold B32
    omega
  rw [e]
  omega
theorem take_getD_zero {l : List Int} {i : Nat} : vb B32 (l.take i) + B32 ^ i * l.getD i 0 = vb B32 (l.take (i + 1)) := by
  by_cases h : i < l.length
  · rw [vb_take_succ B32 h]
  · rw [List.take_of_length_le (by omega), List.take_of_length_le (by omega), List.getD_eq_getElem?_getD, List.getElem?_eq_none (by omega)]
    simp

set_option maxRecDepth 100000 in
set_option maxHeartbeats 2000000 in
theorem rsub_any (ax : Option Addr) (na ca : Nat) (a : List Int) (ay : Option Addr) (nb' cb : Nat) (b : List Int) (w : World) (hna : na = a.length) (hnb : nb' = b.length) (_h1 : na ≤ ca) (_h2 : ca ≤ 9223372036854775807) (_h3 : nb' ≤ cb) (_h4 : cb ≤ 9223372036854775807)
    (hx : Rd w ax a) (hy : Rd w ay b) (hla : Lim B32 a) (hlb : Can B32 b) (hM : na ≤ MaxW) (hle : vb B32 b ≤ vb B32 a) :
    Calls Tryz.prog 20 #[.slice ax na ca, .slice ay nb' cb] w fun e w' => RetRd B32 w (vb B32 a - vb B32 b) e w' := by
  have hba : nb' ≤ na := by
    rw [hna, hnb]
    exact room_of B32_pos hlb (Int.lt_of_le_of_lt hle (vb_lt B32_pos hla))
  have HA := Lib.hid hna
  have HB := Lib.hid hnb
  have HLE := Lib.hid hle
  have hM63 : na ≤ 9223372036854775807 := by unfold MaxW at hM; omega
  clear hna hnb hle
  go_enter Tryz.func20, Tryz.ntmps20
  go_wp2_with (at_builtin; refine wpList_append_nil_words _ rfl _ _ 25 rfl Tryz.underlying25 info_u64 rfl ax na ca a rfl HA.out hx hM ?_; intro v1 w1 hO1 hb1; obtain ⟨ao, co, rfl, q1, q2, q3, q4⟩ := hO1.form'; rw [← HA.out] at q1 ⊢)
  have hreg : ∀ g : Nat, na ≠ 0 → ao = some ⟨g, 0, none⟩ → Arr w1 g 0 a := by
    intro g _ e
    subst e
    exact hO1.arr.1
  have haddr : na ≠ 0 → ∃ g, ao = some ⟨g, 0, none⟩ := by
    intro h0
    obtain ⟨g, n', cap', e, -⟩ := ow_row hO1 (by intro e; have := HA.out; rw [e] at this; simp at this; omega)
    simp only [Value.slice.injEq] at e
    exact ⟨g, e.1⟩
  by_cases h0 : na = 0
  · have hbnil : b = [] := List.eq_nil_of_length_eq_zero (by rw [← HB.out]; omega)
    have hanil : a = [] := List.eq_nil_of_length_eq_zero (by rw [← HA.out]; exact h0)
    have hI : ¬ (0 : Int) < (na : Int) := by omega
    have HZ : Hid (vb B32 a - vb B32 b = 0) := by show _ = _; rw [hanil, hbnil]; rfl
    have HAN := Lib.hid hanil
    clear hbnil hanil hreg haddr h0
    refine wp_loop_rounds 1 ?_
    rw [rounds_succ]
    go_wp2_with fail
    refine (rtrim_any ao na co a w1 HA.out q1 q2 q3).mono ?_
    rintro e w' ⟨rfl, rfl⟩
    go_wp2_with fail
    go_ret
    exact ⟨ao, tlen a, tlen a, tr a, rfl, (tr_length _).symm, Nat.le_refl _, by have := tlen_le a; have := HA.out; omega, q3.take _, can_tr hla, by rw [vb_tr, HZ.out, HAN.out]; rfl, hb1, q4⟩
  · obtain ⟨g, rfl⟩ := haddr h0
    have harr1 := hreg g h0 rfl
    have hgw : w.heap.size ≤ g := q4 g 0 rfl
    clear hreg haddr hO1 q3 q4
    go_loopg [6, 7] na (fun k cc ii wr => ∃ (i : Nat) (c : Int) (m : List Int), i + k = na ∧ ii = .int .i64 i ∧ cc = .int .u64 c ∧ 0 ≤ c ∧ c ≤ 1 ∧ Hid (m.length = na) ∧ Hid (Lim B32 m) ∧ Arr wr g 0 m ∧ Only g 0 na w1 wr ∧ Hid (∀ t, i ≤ t → m.getD t 0 = a.getD t 0) ∧ Hid (vb B32 m + vb B32 (b.take i) = vb B32 a + B32 ^ i * c))
    case atStart => exact ⟨0, 0, a, by omega, rfl, rfl, Int.le_refl _, by decide, HA.out.symm, hla, harr1, Only.refl _ _ _ _, fun _ _ => rfl, by show _ = _; simp⟩
    case round =>
      obtain ⟨i, c, m, hik, rfl, rfl, hc0, hc1, HM, HLM, harr, hon, HAB, HSV⟩ := hrel
      have hbw : Below w.heap.size w wr := hb1.trans (hon.below hgw hb1.size)
      by_cases hlt : i < na
      · obtain ⟨o, hoe⟩ : ∃ o, o = m.getD i 0 := ⟨_, rfl⟩
        have bo : 0 ≤ o ∧ o < 4294967296 := by rw [hoe]; exact HLM.out.getD B32_pos _
        obtain ⟨bo0, bo1⟩ := bo
        have hco : wr.cell? ⟨g, i, none⟩ = some (.int .u64 o) := by
          have := harr.at' i (by rw [HM.out]; exact hlt)
          rwa [Nat.zero_add, ← hoe] at this
        have hfr := harr.frozen i
        obtain ⟨y, hye⟩ : ∃ y, y = b.getD i 0 := ⟨_, rfl⟩
        have bY : 0 ≤ y ∧ y < 4294967296 := by rw [hye]; exact hlb.lim.getD B32_pos _
        obtain ⟨by0, by1⟩ := bY
        obtain ⟨v, hv⟩ : ∃ v, c + y = v := ⟨_, rfl⟩
        have hv0 : 0 ≤ v := by omega
        have hv1 : v ≤ 4294967296 := by omega
        have hst := fun bb : Int => rsub_step (m := m) (p := i) (c := c) (o := o) (y := y) (b := bb) (t := vb B32 a) (E := vb B32 (b.take i)) (by rw [HM.out]; exact hlt) hoe HSV.out
        have hend : ∀ bb : Int, Hid (vb B32 (m.set i (o + bb * 4294967296 - v)) + vb B32 (b.take (i + 1)) = vb B32 a + B32 ^ (i + 1) * bb) := fun bb => by
          have q := hst bb
          rw [hye, take_getD_zero, ← hye, hv] at q
          exact q
        have hml : ∀ x : Int, Hid ((m.set i x).length = na) := fun x => by show _ = _; rw [List.length_set]; exact HM.out
        have hab : ∀ x : Int, Hid (∀ t, i + 1 ≤ t → (m.set i x).getD t 0 = a.getD t 0) := fun x t ht => by
          rw [getD_set_other m (by omega)]
          exact HAB.out t (by omega)
        have HEND := Lib.hid hend
        have HML := Lib.hid hml
        have HABN := Lib.hid hab
        have hsw : i < nb' ∨ (¬ i < nb' ∧ v = c) := by
          rcases Nat.lt_or_ge i nb' with h | h
          · exact Or.inl h
          · refine Or.inr ⟨by omega, ?_⟩
            have : y = 0 := by rw [hye, List.getD_eq_getElem?_getD, List.getElem?_eq_none (by rw [← HB.out]; omega)]; rfl
            omega
        have hcy : i < nb' → ∃ b2 o2, ay = some ⟨b2, o2, none⟩ ∧ wr.cell? ⟨b2, o2 + i, none⟩ = some (.int .u64 y) := fun h => by
          obtain ⟨b2, o2, e, hat⟩ := hy.cases (by intro e; have := HB.out; rw [e] at this; simp at this; omega)
          exact ⟨b2, o2, e, by rw [hye]; exact hat.below hbw i (by rw [← HB.out]; exact h)⟩
        clear hst hend hml hab hye HSV HAB hoe HM
        by_cases hox : o < v
        · have hd1 : decide (o < v) = true := by simpa using hox
          obtain ⟨o2, ho2⟩ : ∃ o2, o + 4294967296 = o2 := ⟨_, rfl⟩
          obtain ⟨z, hz⟩ : ∃ z, o2 - v = z := ⟨_, rfl⟩
          have hze : o + 1 * 4294967296 - v = z := by omega
          have hzb0 : 0 ≤ z := by omega
          have hzb1 : z ≤ 4294967295 := by omega
          have ho2b0 : 0 ≤ o2 := by omega
          have ho2b1 : o2 ≤ 8589934591 := by omega
          have harr2 := harr.store i o2
          rw [Nat.zero_add] at harr2
          have hco2 : (wr.setCell ⟨g, i, none⟩ (.int .u64 o2)).cell? ⟨g, i, none⟩ = some (.int .u64 o2) := by
            have := harr2.at' i (by rw [(HML.out _).out]; exact hlt)
            rwa [Nat.zero_add, getD_set_same (by have := (HML.out o2).out; rw [List.length_set] at this; omega)] at this
          have hfr2 := harr2.frozen i
          have harr3 := harr2.store i z
          rw [Nat.zero_add, List.set_set] at harr3
          have hon3 := (hon.trans (Only.store (w := wr) (hi := na) i (.int .u64 o2) (Nat.zero_le _) hlt)).trans (Only.store (w := wr.setCell ⟨g, i, none⟩ (.int .u64 o2)) (hi := na) i (.int .u64 z) (Nat.zero_le _) hlt)
          have HZE := Lib.hid hze
          clear hze
          rcases hsw with hb | ⟨hb, hvc⟩
          · obtain ⟨b2, o2', rfl, hcy'⟩ := hcy hb
            clear hcy
            go_wp2_with fail
            go_roundg (na - (i + 1))
            case measure => omega
            case rel => exact ⟨i + 1, 1, m.set i z, by omega, by go_num, rfl, by decide, by decide, HML.out z, HLM.out.set i hzb0 (by unfold B32; omega), harr3, hon3, HABN.out z, by have q := (HEND.out 1).out; rw [HZE.out] at q; exact q⟩
          · clear hcy
            subst hvc
            go_wp2_with fail
            go_roundg (na - (i + 1))
            case measure => omega
            case rel => exact ⟨i + 1, 1, m.set i z, by omega, by go_num, rfl, by decide, by decide, HML.out z, HLM.out.set i hzb0 (by unfold B32; omega), harr3, hon3, HABN.out z, by have q := (HEND.out 1).out; rw [HZE.out] at q; exact q⟩
        · have hd1 : decide (o < v) = false := by simpa using hox
          obtain ⟨z, hz⟩ : ∃ z, o - v = z := ⟨_, rfl⟩
          have hze : o + 0 * 4294967296 - v = z := by omega
          have hzb0 : 0 ≤ z := by omega
          have hzb1 : z ≤ 4294967295 := by omega
          have harr3 := harr.store i z
          rw [Nat.zero_add] at harr3
          have hon3 := hon.trans (Only.store (w := wr) (hi := na) i (.int .u64 z) (Nat.zero_le _) hlt)
          have HZE := Lib.hid hze
          clear hze
          rcases hsw with hb | ⟨hb, hvc⟩
          · obtain ⟨b2, o2', rfl, hcy'⟩ := hcy hb
            clear hcy
            go_wp2_with fail
            go_roundg (na - (i + 1))
            case measure => omega
            case rel => exact ⟨i + 1, 0, m.set i z, by omega, by go_num, rfl, by decide, by decide, HML.out z, HLM.out.set i hzb0 (by unfold B32; omega), harr3, hon3, HABN.out z, by have q := (HEND.out 0).out; rw [HZE.out] at q; exact q⟩
          · clear hcy
            subst hvc
            go_wp2_with fail
            go_roundg (na - (i + 1))
            case measure => omega
            case rel => exact ⟨i + 1, 0, m.set i z, by omega, by go_num, rfl, by decide, by decide, HML.out z, HLM.out.set i hzb0 (by unfold B32; omega), harr3, hon3, HABN.out z, by have q := (HEND.out 0).out; rw [HZE.out] at q; exact q⟩
      · have hin : i = na := by omega
        have hval : vb B32 m = vb B32 a - vb B32 b := by
          have h := HSV.out
          rw [hin, List.take_of_length_le (l := b) (by rw [← HB.out]; exact hba)] at h
          have q1 := vb_lt B32_pos HLM.out
          rw [HM.out] at q1
          have q2 := HLE.out
          have q3 := pow_pos' B32_pos na
          have hcz : c = 0 := by
            rcases Int.lt_or_eq_of_le hc0 with h4 | h4
            · exfalso
              have : c = 1 := by omega
              rw [this, Int.mul_one] at h
              omega
            · exact h4.symm
          rw [hcz, Int.mul_zero] at h
          omega
        have HVAL := Lib.hid hval
        have hat : Rd wr (some ⟨g, 0, none⟩) m := Rd.of_at harr.at'
        clear hval hin HSV HAB
        go_wp2_with fail
        refine (rtrim_any (some ⟨g, 0, none⟩) na co m wr HM.out.symm q1 q2 hat).mono ?_
        rintro e w' ⟨rfl, rfl⟩
        go_wp2_with fail
        go_ret
        have htl := tlen_le m
        exact ⟨_, tlen m, tlen m, tr m, rfl, (tr_length _).symm, Nat.le_refl _, by have := HM.out; omega, hat.take _, can_tr HLM.out, by rw [vb_tr]; exact HVAL.out, hbw, fun g' o' e => by cases e; exact hgw⟩

theorem rsub_num {w : World} {u v : Value} {A B : Int} {m k : Nat} (h : RN w u A m) (g : RN w v B k) (hle : B ≤ A) (hm : m ≤ 200000) : Calls Tryz.prog 20 #[u, v] w fun e w' => RetR w (A - B) m e w' := by
  have hs : A - B < B32 ^ m := by have := h.lt; have := g.nonneg; omega
  obtain ⟨a, n, c, l, rfl, h1, h2, h3, h4, h5, rfl, h7⟩ := h.open
  obtain ⟨a', n', c', l', rfl, g1, g2, g3, g4, g5, rfl, g7⟩ := g.open
  exact (rsub_any a n c l a' n' c' l' w h1 g1 h2 h3 g2 g3 h4 g4 h5.lim g5 (by unfold MaxW; omega) hle).mono fun e w' hr => hr.retr hs


/-- How many zero bits a number ends with; 0 of 0. -/
def LowOf (N : Int) (t : Nat) : Prop := (N = 0 ∧ t = 0) ∨ (N ≠ 0 ∧ IsLow N t)
theorem isLow_unique {N : Int} {s t : Nat} (h : IsLow N s) (k : IsLow N t) : s = t := by
  obtain ⟨x, hx⟩ := h
  obtain ⟨y, hy⟩ := k
  have key : ∀ {a b : Nat} {x y : Int}, a < b → (2 : Int) ^ a * (2 * x + 1) = 2 ^ b * (2 * y + 1) → False := by
    intro a b x y hab he
    obtain ⟨d, rfl⟩ := Nat.le.dest hab
    have e1 : (2 : Int) ^ (a + 1 + d) = 2 ^ a * (2 * 2 ^ d) := by
      rw [show a + 1 + d = a + (1 + d) by omega, Int.pow_add, Int.pow_add]; rfl
    rw [e1, Int.mul_assoc] at he
    have h2 := Int.eq_of_mul_eq_mul_left (by have := pow2_pos a; omega) he
    rw [Int.mul_assoc] at h2
    omega
  rcases Nat.lt_trichotomy s t with h | h | h
  · exact (key h (hx.symm.trans hy)).elim
  · exact h
  · exact (key h (hy.symm.trans hx)).elim
theorem lowOf_unique {N : Int} {s t : Nat} (h : LowOf N s) (k : LowOf N t) : s = t := by
  rcases h with ⟨h1, h2⟩ | ⟨h1, h2⟩ <;> rcases k with ⟨k1, k2⟩ | ⟨k1, k2⟩
  · omega
  · exact (k1 h1).elim
  · exact (h1 k1).elim
  · exact isLow_unique h2 k2

theorem rbits_num {w : World} {u : Value} {N : Int} {m : Nat} (h : RN w u N m) (hm : m ≤ 100000) :
    Calls Tryz.prog 40 #[u] w fun e w' => e = .returned (.int .i64 (nb N)) ∧ w = w' := by
  obtain ⟨a, n, c, l, rfl, h1, h2, h3, h4, h5, rfl, h7⟩ := h.open
  exact rbits_any a n c l w h1 h2 h3 h4 h5 (by unfold MaxW; omega)
theorem is_num {base : Nat} {w : World} {u v : Value} {N : Int} {m k : Nat} (h : NewN base w u N m) (g : RN w v N k) (hk : k ≤ 100000) :
    Calls Tryz.prog 16 #[u, v] w fun e w' => RetV w (.bool true) e w' := by
  obtain ⟨l, h1, h2, h3, h4⟩ := h
  obtain ⟨a, c, rfl, q1, q2, q3⟩ := h1.form
  obtain ⟨a', n', c', l', rfl, g1, g2, g3, g4, g5, g6, g7⟩ := g.open
  exact is_yes a l.length c l a' n' c' l' w rfl g1 q1 q2 g2 g3 q3 g4 h2 g5 (by rw [h3, g6]) (by unfold MaxW; omega)
theorem light_one_at (a1 : Option Addr) (n1 c1 : Nat) (t : TypeId) (w : World) (g : Nat) (hg : w.heap.size = g) (h1 : n1 ≤ 9223372036854775807) :
    Calls Tryz.prog 4 #[.slice (some ⟨g, 0, none⟩) 1 1] (w.alloc (.cells #[.slice a1 n1 c1] t)) fun e w' => e = .returned (.bool (decide (n1 ≤ 40))) ∧ w' = w.alloc (.cells #[.slice a1 n1 c1] t) := by
  subst hg
  refine (light_any (some ⟨w.heap.size, 0, none⟩) 1 1 [.slice a1 n1 c1] [List.replicate n1 0] _ rfl rfl (Nat.le_refl _) (by decide) (row_new w [.slice a1 n1 c1] t) ?_ ?_).mono ?_
  · intro j hj
    match j, hj with
    | 0, _ => exact ⟨a1, c1, by simp⟩
  · intro j
    match j with
    | 0 => simpa using h1
    | j + 1 => simp
  · rintro e w' ⟨rfl, rfl⟩
    refine ⟨?_, rfl⟩
    simp [lightB]

end Go.Proofs.YthfcncapgfkkjaaGreatDoor

namespace Go.Proofs.YthfcncapgfkkjaaGreatDoor
open Go.RowKit

set_option maxRecDepth 100000 in
theorem stillInts_none {w : World} {g : Nat} (h : w.cell? ⟨g, 0, none⟩ = some (.slice none 0 0)) : Calls Tryz.prog 43 #[.pointer (some ⟨g, 0, none⟩)] w fun e w' => e = .returned (.bool true) ∧ w = w' := by
  go_enter Tryz.func43, Tryz.ntmps43
  go_wp2_with fail
  refine wp_loop_rounds 1 ?_
  rw [rounds_succ]
  go_wp2_with fail
  go_ret
  exact ⟨rfl, rfl⟩
set_option maxRecDepth 100000 in
theorem growInts_none {w : World} {g : Nat} (h : w.cell? ⟨g, 0, none⟩ = some (.slice none 0 0)) : Calls Tryz.prog 53 #[.pointer (some ⟨g, 0, none⟩)] w fun e w' => e = .returned (.slice none 0 0) ∧ w = w' := by
  go_enter Tryz.func53, Tryz.ntmps53
  go_wp2_with fail
  refine wp_loop_rounds 1 ?_
  rw [rounds_succ]
  go_wp2_with fail
  go_ret
  exact ⟨rfl, rfl⟩
set_option maxRecDepth 100000 in
theorem markedInts_none (w : World) : Calls Tryz.prog 58 #[.slice none 0 0] w fun e w' => e = .returned (.bool true) ∧ w = w' := by
  go_enter Tryz.func58, Tryz.ntmps58
  go_wp2_with fail
  refine wp_loop_rounds 1 ?_
  rw [rounds_succ]
  go_wp2_with fail
  go_ret
  exact ⟨rfl, rfl⟩
set_option maxRecDepth 100000 in
theorem putInts_none {w : World} {g : Nat} (h : w.cell? ⟨g, 0, none⟩ = some (.slice none 0 0)) : Calls Tryz.prog 49 #[.pointer (some ⟨g, 0, none⟩)] w fun e w' => e = .returned (.tuple #[]) ∧ w = w' := by
  go_enter Tryz.func49, Tryz.ntmps49
  go_wp2_with fail
  refine wp_loop_rounds 1 ?_
  rw [rounds_succ]
  go_wp2_with fail
  go_end0
  exact ⟨rfl, rfl⟩
set_option maxRecDepth 100000 in
theorem stillNodes_none {w : World} {g : Nat} (h : w.cell? ⟨g, 4, none⟩ = some (.slice none 0 0)) : Calls Tryz.prog 45 #[.pointer (some ⟨g, 0, none⟩)] w fun e w' => e = .returned (.bool true) ∧ w = w' := by
  go_enter Tryz.func45, Tryz.ntmps45
  go_wp2_with fail
  refine wp_loop_rounds 1 ?_
  rw [rounds_succ]
  go_wp2_with fail
  go_ret
  exact ⟨rfl, rfl⟩
set_option maxRecDepth 100000 in
theorem growNodes_none {w : World} {g : Nat} (h : w.cell? ⟨g, 4, none⟩ = some (.slice none 0 0)) : Calls Tryz.prog 55 #[.pointer (some ⟨g, 0, none⟩)] w fun e w' => e = .returned (.slice none 0 0) ∧ w = w' := by
  go_enter Tryz.func55, Tryz.ntmps55
  go_wp2_with fail
  refine wp_loop_rounds 1 ?_
  rw [rounds_succ]
  go_wp2_with fail
  go_ret
  exact ⟨rfl, rfl⟩
set_option maxRecDepth 100000 in
theorem markedNodes_none (w : World) : Calls Tryz.prog 60 #[.slice none 0 0] w fun e w' => e = .returned (.bool true) ∧ w = w' := by
  go_enter Tryz.func60, Tryz.ntmps60
  go_wp2_with fail
  refine wp_loop_rounds 1 ?_
  rw [rounds_succ]
  go_wp2_with fail
  go_ret
  exact ⟨rfl, rfl⟩
set_option maxRecDepth 100000 in
theorem putNodes_none {w : World} {g : Nat} (h : w.cell? ⟨g, 4, none⟩ = some (.slice none 0 0)) : Calls Tryz.prog 51 #[.pointer (some ⟨g, 0, none⟩)] w fun e w' => e = .returned (.tuple #[]) ∧ w = w' := by
  go_enter Tryz.func51, Tryz.ntmps51
  go_wp2_with fail
  refine wp_loop_rounds 1 ?_
  rw [rounds_succ]
  go_wp2_with fail
  go_end0
  exact ⟨rfl, rfl⟩
set_option maxRecDepth 100000 in
theorem stillPairs_none {w : World} {g : Nat} (h : w.cell? ⟨g, 6, none⟩ = some (.slice none 0 0)) : Calls Tryz.prog 46 #[.pointer (some ⟨g, 0, none⟩)] w fun e w' => e = .returned (.bool true) ∧ w = w' := by
  go_enter Tryz.func46, Tryz.ntmps46
  go_wp2_with fail
  refine wp_loop_rounds 1 ?_
  rw [rounds_succ]
  go_wp2_with fail
  go_ret
  exact ⟨rfl, rfl⟩
set_option maxRecDepth 100000 in
theorem growPairs_none {w : World} {g : Nat} (h : w.cell? ⟨g, 6, none⟩ = some (.slice none 0 0)) : Calls Tryz.prog 56 #[.pointer (some ⟨g, 0, none⟩)] w fun e w' => e = .returned (.slice none 0 0) ∧ w = w' := by
  go_enter Tryz.func56, Tryz.ntmps56
  go_wp2_with fail
  refine wp_loop_rounds 1 ?_
  rw [rounds_succ]
  go_wp2_with fail
  go_ret
  exact ⟨rfl, rfl⟩
set_option maxRecDepth 100000 in
theorem markedPairs_none (w : World) : Calls Tryz.prog 61 #[.slice none 0 0] w fun e w' => e = .returned (.bool true) ∧ w = w' := by
  go_enter Tryz.func61, Tryz.ntmps61
  go_wp2_with fail
  refine wp_loop_rounds 1 ?_
  rw [rounds_succ]
  go_wp2_with fail
  go_ret
  exact ⟨rfl, rfl⟩
set_option maxRecDepth 100000 in
theorem putPairs_none {w : World} {g : Nat} (h : w.cell? ⟨g, 6, none⟩ = some (.slice none 0 0)) : Calls Tryz.prog 52 #[.pointer (some ⟨g, 0, none⟩)] w fun e w' => e = .returned (.tuple #[]) ∧ w = w' := by
  go_enter Tryz.func52, Tryz.ntmps52
  go_wp2_with fail
  refine wp_loop_rounds 1 ?_
  rw [rounds_succ]
  go_wp2_with fail
  go_end0
  exact ⟨rfl, rfl⟩
set_option maxRecDepth 100000 in
theorem stillSteps_none {w : World} {g : Nat} (h : w.cell? ⟨g, 8, none⟩ = some (.slice none 0 0)) : Calls Tryz.prog 47 #[.pointer (some ⟨g, 0, none⟩)] w fun e w' => e = .returned (.bool true) ∧ w = w' := by
  go_enter Tryz.func47, Tryz.ntmps47
  go_wp2_with fail
  refine wp_loop_rounds 1 ?_
  rw [rounds_succ]
  go_wp2_with fail
  go_ret
  exact ⟨rfl, rfl⟩
set_option maxRecDepth 100000 in
theorem growSteps_none {w : World} {g : Nat} (h : w.cell? ⟨g, 8, none⟩ = some (.slice none 0 0)) : Calls Tryz.prog 57 #[.pointer (some ⟨g, 0, none⟩)] w fun e w' => e = .returned (.slice none 0 0) ∧ w = w' := by
  go_enter Tryz.func57, Tryz.ntmps57
  go_wp2_with fail
  refine wp_loop_rounds 1 ?_
  rw [rounds_succ]
  go_wp2_with fail
  go_ret
  exact ⟨rfl, rfl⟩
set_option maxRecDepth 100000 in
theorem markedSteps_none (w : World) : Calls Tryz.prog 62 #[.slice none 0 0] w fun e w' => e = .returned (.bool true) ∧ w = w' := by
  go_enter Tryz.func62, Tryz.ntmps62
  go_wp2_with fail
  refine wp_loop_rounds 1 ?_
  rw [rounds_succ]
  go_wp2_with fail
  go_ret
  exact ⟨rfl, rfl⟩
set_option maxRecDepth 100000 in
theorem putSteps_none {w : World} {g : Nat} (h : w.cell? ⟨g, 8, none⟩ = some (.slice none 0 0)) : Calls Tryz.prog 48 #[.pointer (some ⟨g, 0, none⟩)] w fun e w' => e = .returned (.tuple #[]) ∧ w = w' := by
  go_enter Tryz.func48, Tryz.ntmps48
  go_wp2_with fail
  refine wp_loop_rounds 1 ?_
  rw [rounds_succ]
  go_wp2_with fail
  go_end0
  exact ⟨rfl, rfl⟩
end Go.Proofs.YthfcncapgfkkjaaGreatDoor

namespace Go.Proofs.YthfcncapgfkkjaaGreatDoor
open Go.RowKit

/-- The marks of list i from the place f on. -/
def marks (i f n : Nat) : List Int := (List.range n).map fun k => 1000 * (i : Int) + ((f + k : Nat) : Int) + 7
theorem marks_length (i f n : Nat) : (marks i f n).length = n := by simp [marks]
theorem marks_succ (i f n : Nat) : marks i f (n + 1) = marks i f n ++ [1000 * (i : Int) + ((f + n : Nat) : Int) + 7] := by
  simp [marks, List.range_succ]
theorem marks_append (i n k : Nat) : marks i 0 n ++ marks i n k = marks i 0 (n + k) := by
  induction k with
  | zero => simp [marks]
  | succ k ih => rw [marks_succ, ← List.append_assoc, ih, Nat.add_succ, marks_succ, Nat.zero_add]
theorem marks_getD (i f n k : Nat) (h : k < n) : (marks i f n).getD k 0 = 1000 * (i : Int) + ((f + k : Nat) : Int) + 7 := by
  simp [marks, List.getD_eq_getElem?_getD, h]
set_option maxRecDepth 100000 in
set_option maxHeartbeats 1000000 in
theorem mark_num (i f n : Nat) (w : World) (hi : i ≤ 300) (hf : f ≤ 100000) (hn : n ≤ 100000) :
    Calls Tryz.prog 85 #[.int .i64 (i : Int), .int .i64 (f : Int), .int .i64 (n : Int)] w fun e w' => RetOw w (marks i f n) e w' := by
  have hfn : (f : Int) + (n : Int) = ((f + n : Nat) : Int) := by omega
  obtain ⟨t, ht⟩ : ∃ t, f + n = t := ⟨_, rfl⟩
  rw [ht] at hfn
  have HT := Lib.hid ht
  have htb : t ≤ 200000 := by omega
  clear ht
  go_enter Tryz.func85, Tryz.ntmps85
  go_wp2_with fail
  go_loopw [7, 8] (fun v ii wr => ∃ k x : Nat, k ≤ n ∧ ii = .int .i64 (x : Int) ∧ Hid (f + k = x) ∧ Ow w.heap.size wr v (marks i f k) ∧ Below w.heap.size w wr) (fun _ ii _ => t - (intOf ii).toNat)
  case atStart => exact ⟨0, f, Nat.zero_le _, rfl, Lib.hid (Nat.add_zero f), Ow.nil _ _, Below.refl _ _⟩
  case round =>
    obtain ⟨k, x, hk, rfl, HX, hO, hb⟩ := hrel
    have hxk := HX.out
    have htt := HT.out
    by_cases hlt : k < n
    · have hxt : (x : Int) < (t : Int) := by omega
      have hxb : x ≤ 200000 := by omega
      obtain ⟨y, hy⟩ : ∃ y : Int, 1000 * (i : Int) + (x : Int) + 7 = y := ⟨_, rfl⟩
      have hyb : 0 ≤ y ∧ y ≤ 1000000 := by omega
      have hlen : (marks i f k).length + 1 ≤ MaxW := by rw [marks_length]; unfold MaxW; omega
      have HY : Hid (marks i f k ++ [y] = marks i f (k + 1)) := Lib.hid (by rw [marks_succ, ← hy, hxk])
      clear hxk htt
      go_wp2_with (at_builtin; refine wpList_append_words _ rfl (.tmp 17) (.tmp 24) 22 rfl Tryz.underlying22 info_u64 w.heap.size u7 (marks i f k) rfl (hO.alloc _) ⟨wr.heap.size, 0, none⟩ 1 1 [y] rfl rfl (news1 _ _ _) hlen (by have := hb.size; simp; omega) ?_; intro v' w1 hO1 hb1)
      have hb2 : Below w.heap.size w w1 := hb.trans ((((Below.refl _ wr).alloc hb.size _).mono (Nat.le_refl _)).trans hb1)
      have hO2 : Ow w.heap.size w1 v' (marks i f (k + 1)) := by rw [← HY.out]; exact hO1
      clear hO1 hb1 hO hb
      go_wp2_with fail
      go_roundw
      case rel => exact ⟨k + 1, x + 1, by omega, by go_num, Lib.hid (by have := HX.out; omega), hO2, hb2⟩
      case measure => simp [intOf]; omega
    · have hxt : ¬ (x : Int) < (t : Int) := by omega
      have hkn : k = n := by omega
      subst hkn
      clear hxk htt
      go_wp2_with fail
      go_ret
      exact ⟨_, rfl, hO, hb⟩
end Go.Proofs.YthfcncapgfkkjaaGreatDoor

namespace Go.Proofs.YthfcncapgfkkjaaGreatDoor
open Go.RowKit

theorem info_list : (Tryz.prog.info? 22).map (fun i => (i.zero, i.size, i.bytes)) = some (some (.slice none 0 0), 1, 24) := by kernel_rfl
/-- A row of the call's own whose cells are the values vs (slices of []uint64). -/
def OwU (base : Nat) (w : World) (v : Value) (vs : List Value) : Prop := w.ownsRow base 22 1 v vs.length vs

theorem OwU.nil (base : Nat) (w : World) : OwU base w (.slice none 0 0) [] := World.ownsRow_nil _ _ _ _
theorem OwU.form {base : Nat} {w : World} {v : Value} {vs : List Value} (h : OwU base w v vs) : ∃ ao cap, v = .slice ao vs.length cap ∧ vs.length ≤ cap ∧ cap ≤ 9223372036854775807 ∧ RdRow w ao vs := by
  obtain ⟨h1, h2⟩ := h
  rcases h2 with ⟨rfl, h0⟩ | ⟨g, cap, cur, rfl, hg, hh, hn, hm, hc, ht⟩
  · obtain rfl : vs = [] := List.eq_nil_of_length_eq_zero h0
    exact ⟨none, 0, rfl, Nat.le_refl _, by omega, Or.inl rfl⟩
  · refine ⟨_, cap, rfl, hn, by simpa [maxLen] using hm, Or.inr ⟨g, 0, rfl, fun j v hv => ?_⟩⟩
    have hj : j < vs.length := (List.getElem?_eq_some_iff.1 hv).1
    rw [cell_of_row w g _ cur _ _ hh]
    have : (cur.toList.take (vs.length * 1))[j]? = vs[j]? := by rw [ht]
    rw [List.getElem?_take, if_pos (by omega), hv] at this
    simpa using this
theorem OwU.lt {base : Nat} {w : World} {v : Value} {vs : List Value} (h : OwU base w v vs) : ∀ g, v.ownBlock = some g → base ≤ g ∧ g < w.heap.size := by
  intro g hg
  rcases h.2 with ⟨rfl, _⟩ | ⟨g', cap, cur, rfl, hb, hh, _⟩
  · simp [Value.ownBlock] at hg
  · simp only [Value.ownBlock, Option.some.injEq] at hg
    subst hg
    exact ⟨hb, (Array.getElem?_eq_some_iff.1 hh).1⟩
theorem OwU.grown {base : Nat} {w w' : World} {v : Value} {vs : List Value} {row : Option Nat} (h : OwU base w v vs) (hg : w.grownBy w' row) (hne : ∀ g, v.ownBlock = some g → row ≠ some g) : OwU base w' v vs := by
  refine ⟨h.1, ?_⟩
  rcases h.2 with h2 | ⟨g, cap, cur, rfl, hb, hh, r⟩
  · exact Or.inl h2
  · refine Or.inr ⟨g, cap, cur, rfl, hb, ?_, r⟩
    rw [hg.block g (Array.getElem?_eq_some_iff.1 hh).1 (fun e => hne g rfl e.symm)]
    exact hh
theorem OwU.below {base : Nat} {w w' : World} {v : Value} {vs : List Value} (h : OwU base w v vs) (hb : Below w.heap.size w w') : OwU base w' v vs :=
  ⟨h.1, by
    rcases h.2 with h2 | ⟨g, cap, cur, hv, hg, hh, r⟩
    · exact Or.inl h2
    · exact Or.inr ⟨g, cap, cur, hv, hg, (hb.block g (Array.getElem?_eq_some_iff.1 hh).1).trans hh, r⟩⟩
theorem OwU.alloc {base : Nat} {w : World} {v : Value} {vs : List Value} (h : OwU base w v vs) (o : Obj) : OwU base (w.alloc o) v vs := World.ownsRow.alloc h o
/-- append(out, values ..), out of the call's own. -/
theorem wpList_append_lists {P : Program} (w : World) {ops : Array Oper} {rest : List Oper} {o : Oper} {a : Act} {Q : Exit → Act → World → Prop} (hgd : o.guard = none) (s x : Operand) (t : TypeId)
    (ho : o.op = .call { callee := .builtin .append, args := #[s, x], argTypes := #[t, t] }) (ht : P.underlying t = some (.slice 22)) (hi : (P.info? 22).map (fun i => (i.zero, i.size, i.bytes)) = some (some (.slice none 0 0), 1, 24))
    (base : Nat) (v : Value) (vs : List Value) (hs : a.eval s = v) (hown : OwU base w v vs)
    (ad : Addr) (m c : Nat) (us : List Value) (hx : a.eval x = .slice (some ad) m c) (hm : us.length = m) (hnews : ∀ j u, us[j]? = some u → w.cell? (ad.add j) = some u) (h1 : ∀ u ∈ us, u.oneCell' = true)
    (hM : vs.length + m ≤ 4294967296) (hbase : base ≤ w.heap.size)
    (hK : ∀ v' w', OwU base w' v' (vs ++ us) → w.grownBy w' v.ownBlock → (v'.ownBlock = v.ownBlock ∨ v'.ownBlock = some w.heap.size) → wpList P ops Q rest (a.put o.dst v') w') : wpList P ops Q (o :: rest) a w := by
  obtain ⟨i, h2, h3, h4, h5⟩ := info_parts hi
  refine wpList_append_own_at w hgd s x t ho base 22 i (.slice none 0 0) 1 24 ht h2 h3 h4 h5 rfl (by decide) v vs.length vs hs hown ad m c us hx (by rw [hm, Nat.mul_one]) hnews h1 (by unfold maxLen; omega) (by omega) hbase fun v' w' hown' hgr _ hat => ?_
  refine hK v' w' ?_ hgr hat
  unfold OwU
  rw [List.length_append, hm]
  exact hown'

/-- append(out, words ..), out of the call's own. -/
theorem wpList_append_words_at {P : Program} (w : World) {ops : Array Oper} {rest : List Oper} {o : Oper} {a : Act} {Q : Exit → Act → World → Prop} (hgd : o.guard = none) (s x : Operand) (t : TypeId)
    (ho : o.op = .call { callee := .builtin .append, args := #[s, x], argTypes := #[t, t] }) (ht : P.underlying t = some (.slice 53)) (hi : (P.info? 53).map (fun i => (i.zero, i.size, i.bytes)) = some (some (.int .u64 0), 1, 8))
    (base : Nat) (v : Value) (l : List Int) (hs : a.eval s = v) (hown : Ow base w v l)
    (ad : Addr) (m c : Nat) (lm : List Int) (hx : a.eval x = .slice (some ad) m c) (hm : lm.length = m) (hnews : ∀ j, j < lm.length → w.cell? (ad.add j) = some (.int .u64 (lm.getD j 0)))
    (hM : l.length + m ≤ MaxW) (hbase : base ≤ w.heap.size)
    (hK : ∀ v' w', Ow base w' v' (l ++ lm) → w.grownBy w' v.ownBlock → (v'.ownBlock = v.ownBlock ∨ v'.ownBlock = some w.heap.size) → wpList P ops Q rest (a.put o.dst v') w') : wpList P ops Q (o :: rest) a w := by
  obtain ⟨i, h2, h3, h4, h5⟩ := info_parts hi
  unfold MaxW at hM
  refine wpList_append_own_at w hgd s x t ho base 53 i (.int .u64 0) 1 8 ht h2 h3 h4 h5 rfl (by decide) v l.length (vals l) hs hown ad m c (vals lm) hx (by rw [length_vals, hm, Nat.mul_one]) ?_ (oneCell_vals _) (by unfold maxLen; omega) (by omega) hbase fun v' w' hown' hgr _ hat => ?_
  · intro j u hu
    have hj : j < lm.length := by have := (List.getElem?_eq_some_iff.1 hu).1; simpa [length_vals] using this
    rw [vals_get lm j hj] at hu
    cases hu
    exact hnews j hj
  · refine hK v' w' ?_ hgr hat
    unfold Ow
    rw [List.length_append, hm, ← vals_append]
    exact hown'


/-- The block of a list, if it has one, lies apart from the block g. -/
def Off (v : Value) (g : Nat) : Prop := v.ownBlock ≠ some g
theorem ow_grown {base : Nat} {w w' : World} {v : Value} {l : List Int} {row : Option Nat} (h : Ow base w v l) (hg : w.grownBy w' row) (hne : v.ownBlock = none ∨ v.ownBlock ≠ row) : Ow base w' v l := World.ownsRow.kept h hg hne
theorem ow_ltb {base : Nat} {w : World} {v : Value} {l : List Int} (h : Ow base w v l) : ∀ k, v.ownBlock = some k → base ≤ k ∧ k < w.heap.size := World.ownsRow.lt h
/-- A list's block holds words, a row's block lists: they differ. -/
theorem ow_off {base base' : Nat} {w : World} {v r : Value} {l : List Int} {vs : List Value} (h : Ow base w v l) (k : OwU base' w r vs) : v.ownBlock = none ∨ v.ownBlock ≠ r.ownBlock := by
  rcases h.2 with ⟨rfl, _⟩ | ⟨g, cap, cur, rfl, _, hg, _⟩
  · exact Or.inl rfl
  · refine Or.inr ?_
    rcases k.2 with ⟨rfl, _⟩ | ⟨g', cap', cur', rfl, _, hg', _⟩
    · simp [Value.ownBlock]
    · intro e
      simp only [Value.ownBlock, Option.some.injEq] at e
      subst e
      rw [hg] at hg'
      simp at hg'
/-- The book's own block: its lists' row and the copies' row, nothing else. -/
def BookAt (w : World) (g : Nat) (r s : Value) : Prop := w.heap[g]? = some (.cells #[.slice none 0 0, .slice none 0 0, r, s, .slice none 0 0, .slice none 0 0, .slice none 0 0, .slice none 0 0, .slice none 0 0, .slice none 0 0] 35 (0, 0))
/-- KLists of the call's own, each with its words. -/
inductive KLists (w : World) : List Value → List (List Int) → Prop where
  | nil : KLists w [] []
  | cons {v : Value} {vs : List Value} {l : List Int} {ls : List (List Int)} : (∃ base, Ow base w v l) → KLists w vs ls → KLists w (v :: vs) (l :: ls)
/-- No two of the lists have a block together. -/
def AllOff : List Value → Prop
  | [] => True
  | v :: vs => (∀ u ∈ vs, v.ownBlock = none ∨ v.ownBlock ≠ u.ownBlock) ∧ AllOff vs
theorem KLists.length {w : World} {vs : List Value} {ls : List (List Int)} (h : KLists w vs ls) : vs.length = ls.length := by
  induction h with
  | nil => rfl
  | cons _ _ ih => simp [ih]
theorem KLists.get {w : World} {vs : List Value} {ls : List (List Int)} (h : KLists w vs ls) : ∀ {i : Nat} {v : Value}, vs[i]? = some v → ∃ l base, ls[i]? = some l ∧ Ow base w v l := by
  induction h with
  | nil => intro i v h; simp at h
  | cons ho _ ih =>
    intro i v hv
    cases i with
    | zero =>
      obtain ⟨base, ho⟩ := ho
      simp only [List.getElem?_cons_zero, Option.some.injEq] at hv
      subst hv
      exact ⟨_, base, rfl, ho⟩
    | succ i =>
      rw [List.getElem?_cons_succ] at hv
      obtain ⟨l, base, h1, h2⟩ := ih hv
      exact ⟨l, base, by rw [List.getElem?_cons_succ]; exact h1, h2⟩
theorem KLists.grown {w w' : World} {vs : List Value} {ls : List (List Int)} {row : Option Nat} (h : KLists w vs ls) (hg : w.grownBy w' row) (hne : ∀ v ∈ vs, v.ownBlock = none ∨ v.ownBlock ≠ row) : KLists w' vs ls := by
  induction h with
  | nil => exact .nil
  | cons ho _ ih =>
    obtain ⟨base, ho⟩ := ho
    exact .cons ⟨base, ow_grown ho hg (hne _ (List.mem_cons_self ..))⟩ (ih fun v hv => hne v (List.mem_cons_of_mem _ hv))
theorem KLists.under {w w' : World} {vs : List Value} {ls : List (List Int)} (h : KLists w vs ls) (hb : Below w.heap.size w w') : KLists w' vs ls := by
  induction h with
  | nil => exact .nil
  | cons ho _ ih =>
    obtain ⟨base, ho⟩ := ho
    exact .cons ⟨base, ho.below hb⟩ ih
theorem KLists.append {w : World} {vs us : List Value} {ls ms : List (List Int)} (h : KLists w vs ls) (k : KLists w us ms) : KLists w (vs ++ us) (ls ++ ms) := by
  induction h with
  | nil => exact k
  | cons ho _ ih => exact .cons ho ih
theorem KLists.off_row {w : World} {vs : List Value} {ls : List (List Int)} {base : Nat} {r : Value} {us : List Value} (h : KLists w vs ls) (hr : OwU base w r us) : ∀ v ∈ vs, v.ownBlock = none ∨ v.ownBlock ≠ r.ownBlock := by
  induction h with
  | nil => intro v hv; simp at hv
  | cons ho _ ih =>
    intro v hv
    rcases List.mem_cons.1 hv with rfl | hv
    · obtain ⟨base, ho⟩ := ho
      exact ow_off ho hr
    · exact ih v hv
theorem KLists.off_cells {w : World} {vs : List Value} {ls : List (List Int)} {g : Nat} {cs : Array Value} {t : TypeId} {fr : Nat × Nat} (h : KLists w vs ls) (hg : w.heap[g]? = some (.cells cs t fr)) (ht : t ≠ 53) : ∀ v ∈ vs, v.ownBlock = none ∨ v.ownBlock ≠ some g := by
  induction h with
  | nil => intro v hv; simp at hv
  | cons ho _ ih =>
    intro v hv
    rcases List.mem_cons.1 hv with rfl | hv
    · obtain ⟨base, ho⟩ := ho
      rcases ho.2 with ⟨rfl, _⟩ | ⟨g', cap, cur, rfl, _, hg', _⟩
      · exact Or.inl rfl
      · refine Or.inr fun e => ?_
        simp only [Value.ownBlock, Option.some.injEq] at e
        subst e
        rw [hg'] at hg
        simp only [Option.some.injEq, Obj.cells.injEq] at hg
        exact ht hg.2.1.symm
    · exact ih v hv
end Go.Proofs.YthfcncapgfkkjaaGreatDoor

namespace Go.Proofs.YthfcncapgfkkjaaGreatDoor
open Go.RowKit

/-- A dyad of the document's that is the integer Z. -/
def RZ (w : World) (v : Value) (Z : Int) (m b : Nat) : Prop :=
  ∃ neg a n c N E, v = .agg #[.bool neg, .slice a n c, .int .i64 ((E : Nat) : Int)] ∧ RN w (.slice a n c) N m ∧ Z = sg neg N * 2 ^ E ∧ (N = 0 → neg = false ∧ E = 0) ∧ (N ≠ 0 → ∃ z, N = 2 * z + 1) ∧ E ≤ b
def RetZ (w : World) (Z : Int) (m b : Nat) (e : Ending) (w' : World) : Prop :=
  ∃ neg a n c E, e = .returned (.agg #[.bool neg, .slice a n c, .int .i64 ((E : Nat) : Int)]) ∧ RZ w' (.agg #[.bool neg, .slice a n c, .int .i64 ((E : Nat) : Int)]) Z m b ∧ Below w.heap.size w w'
theorem RZ.below {w w' : World} {v : Value} {Z : Int} {m b : Nat} (h : RZ w v Z m b) (hb : Below w.heap.size w w') : RZ w' v Z m b := by
  obtain ⟨neg, a, n, c, N, E, h1, h2, h3⟩ := h
  exact ⟨neg, a, n, c, N, E, h1, h2.below hb, h3⟩
theorem RZ.eq {w : World} {v : Value} {Z Z' : Int} {m b : Nat} (h : RZ w v Z m b) (e : Z = Z') : RZ w v Z' m b := e ▸ h
theorem RZ.mono {w : World} {v : Value} {Z : Int} {m b m' b' : Nat} (h : RZ w v Z m b) (hm : m ≤ m') (hb : b ≤ b') : RZ w v Z m' b' := by
  obtain ⟨neg, a, n, c, N, E, h1, h2, h3, h4, h5, h6⟩ := h
  exact ⟨neg, a, n, c, N, E, h1, h2.mono hm, h3, h4, h5, Nat.le_trans h6 hb⟩

/-- The cells of a variable of three fields. -/
theorem slot3 {w : World} {g : Nat} {x y z : Value} {t : TypeId} (h : w.heap[g]? = some (.cells #[x, y, z] t (0, 0))) :
    (w.cell? ⟨g, 0, none⟩ = some x ∧ w.cell? ⟨g, 1, none⟩ = some y ∧ w.cell? ⟨g, 2, none⟩ = some z) ∧ w.frozen? ⟨g, 0, none⟩ = false ∧ w.frozen? ⟨g, 1, none⟩ = false ∧ w.frozen? ⟨g, 2, none⟩ = false :=
  ⟨⟨cell_of_row w g 0 _ t _ h, cell_of_row w g 1 _ t _ h, cell_of_row w g 2 _ t _ h⟩, frozen_of_row w g 0 _ t h, frozen_of_row w g 1 _ t h, frozen_of_row w g 2 _ t h⟩
theorem slot3_set {w : World} {g : Nat} {x y z u v s : Value} {t : TypeId} (h : w.heap[g]? = some (.cells #[x, y, z] t (0, 0))) :
    (((w.setCell ⟨g, 0, none⟩ u).setCell ⟨g, 1, none⟩ v).setCell ⟨g, 2, none⟩ s).heap[g]? = some (.cells #[u, v, s] t (0, 0)) := by
  have h1 := heap_setCell_same w g 0 _ t u h
  have h2 := heap_setCell_same (w.setCell ⟨g, 0, none⟩ u) g 1 _ t v h1
  have h3 := heap_setCell_same ((w.setCell ⟨g, 0, none⟩ u).setCell ⟨g, 1, none⟩ v) g 2 _ t s h2
  rw [h3]; rfl
theorem slot3_only {w : World} {g : Nat} (u v s : Value) : Only g 0 3 w (((w.setCell ⟨g, 0, none⟩ u).setCell ⟨g, 1, none⟩ v).setCell ⟨g, 2, none⟩ s) :=
  ((Only.store 0 u (Nat.le_refl _) (by decide)).trans (Only.store 1 v (by decide) (by decide))).trans (Only.store 2 s (by decide) (by decide))
/-- A number whose words do not lie in the block that is written. -/
theorem RN.only {w w' : World} {a : Option Addr} {n c : Nat} {N : Int} {m g lo hi : Nat} (h : RN w (.slice a n c) N m) (ho : Only g lo hi w w') (hne : n ≠ 0 → ∀ b o, a = some ⟨b, o, none⟩ → b ≠ g) : RN w' (.slice a n c) N m := by
  obtain ⟨l, a', c', he, h2, h3, h4, h5⟩ := h
  simp only [Value.slice.injEq] at he
  obtain ⟨rfl, rfl, rfl⟩ := he
  refine ⟨l, a, c, rfl, h2, h3, ?_, h5⟩
  rcases h4 with rfl | ⟨b, o, rfl, hat⟩
  · exact Rd.nil _ _
  · by_cases hl : l = []
    · subst hl; exact Rd.nil _ _
    · exact Or.inr ⟨b, o, rfl, ho.at' hat (hne (by intro e; exact hl (List.eq_nil_of_length_eq_zero e)) b o rfl)⟩
/-- Digits never lie in a variable of the program. -/
theorem RN.var {w w' : World} {a : Option Addr} {n c : Nat} {N : Int} {m g lo hi : Nat} (h : RN w (.slice a n c) N m) {p : Bool} {a1 : Option Addr} {n1 c1 : Nat} {E : Int} {t : TypeId} (hv : w.heap[g]? = some (.cells #[.bool p, .slice a1 n1 c1, .int .i64 E] t (0, 0))) (ho : Only g lo hi w w') : RN w' (.slice a n c) N m := by
  refine h.only ho fun hn b o e => ?_
  obtain ⟨l, a', c', he, h2, h3, h4, h5⟩ := h
  simp only [Value.slice.injEq] at he
  obtain ⟨rfl, rfl, rfl⟩ := he
  rintro rfl
  subst e
  have hat := h4.at' 0 (by omega)
  rw [cell_of_row w b _ _ t _ hv] at hat
  match o, hat with
  | 0, hat => simp at hat
  | 1, hat => simp at hat
  | 2, hat => simp at hat
  | o + 3, hat => simp at hat

/-- The one form of a number times a power of two. -/
theorem low_split {N : Int} {t : Nat} (h : LowOf N t) (hN : N ≠ 0) : N / 2 ^ t * 2 ^ t = N ∧ ∃ z, N / 2 ^ t = 2 * z + 1 := by
  rcases h with ⟨h1, -⟩ | ⟨-, z, hz⟩
  · exact (hN h1).elim
  · have hp := pow2_pos t
    have e : N / 2 ^ t = 2 * z + 1 := by rw [hz, Int.mul_ediv_cancel_left _ (by omega)]
    exact ⟨by rw [e, hz, Int.mul_comm], z, e⟩
theorem low_le {N : Int} {t m : Nat} (h : LowOf N t) (h0 : 0 ≤ N) (hN : N < B32 ^ m) : t ≤ 32 * m := by
  rcases h with ⟨-, h2⟩ | ⟨h1, z, hz⟩
  · omega
  · have hp := pow2_pos t
    have hz0 : 1 ≤ 2 * z + 1 := by
      rcases Int.lt_or_le (2 * z + 1) 1 with h3 | h3
      · exfalso
        have : 2 ^ t * (2 * z + 1) ≤ 2 ^ t * 0 := Int.mul_le_mul_of_nonneg_left (by omega) (by omega)
        omega
      · exact h3
    have h4 : (2 : Int) ^ t * 1 ≤ 2 ^ t * (2 * z + 1) := Int.mul_le_mul_of_nonneg_left hz0 (by omega)
    have h5 : (2 : Int) ^ t < 2 ^ (32 * m) := by
      rw [show (2 : Int) ^ (32 * m) = B32 ^ m by rw [Int.pow_mul]; rfl]
      omega
    have := two_pow_lt_of h5
    omega

theorem RetZ.mk {w w' : World} {neg : Bool} {a : Option Addr} {n c : Nat} {N Z : Int} {m b E : Nat} (h : RN w' (.slice a n c) N m) (hz : Z = sg neg N * 2 ^ E) (h0 : N = 0 → neg = false ∧ E = 0) (h1 : N ≠ 0 → ∃ z, N = 2 * z + 1) (hE : E ≤ b) (hb : Below w.heap.size w w') :
    RetZ w Z m b (.returned (.agg #[.bool neg, .slice a n c, .int .i64 ((E : Nat) : Int)])) w' :=
  ⟨neg, a, n, c, E, rfl, ⟨neg, a, n, c, N, E, rfl, h, hz, h0, h1, hE⟩, hb⟩
theorem rz_sign {neg : Bool} {N Z : Int} {E : Nat} (h : 0 ≤ N) (hz : Z = sg neg N * 2 ^ E) : cmpI Z 0 = if N = 0 then 0 else if neg = true then -1 else 1 := by
  have hp := pow2_pos E
  by_cases h0 : N = 0
  · rw [if_pos h0, hz, h0]
    cases neg <;> simp [sg, cmpI_eq]
  · rw [if_neg h0]
    have hN : 0 < N * 2 ^ E := Int.mul_pos (by omega) hp
    cases neg
    · rw [if_neg (by decide), hz, sg_false, cmpI_gt hN]
    · rw [if_pos rfl, hz, sg_true, Int.neg_mul, cmpI_lt (by omega)]
theorem RZ.var {w w' : World} {v : Value} {Z : Int} {m b g lo hi : Nat} (h : RZ w v Z m b) {p : Bool} {a1 : Option Addr} {n1 c1 : Nat} {E : Int} {t : TypeId} (hv : w.heap[g]? = some (.cells #[.bool p, .slice a1 n1 c1, .int .i64 E] t (0, 0))) (ho : Only g lo hi w w') : RZ w' v Z m b := by
  obtain ⟨neg, a, n, c, N, E', h1, h2, h3⟩ := h
  exact ⟨neg, a, n, c, N, E', h1, h2.var hv ho, h3⟩
theorem RZ.open {w : World} {neg : Bool} {a : Option Addr} {n c E : Nat} {Z : Int} {m b : Nat} (h : RZ w (.agg #[.bool neg, .slice a n c, .int .i64 (E : Int)]) Z m b) :
    ∃ N, RN w (.slice a n c) N m ∧ Z = sg neg N * 2 ^ E ∧ (N = 0 → neg = false ∧ E = 0) ∧ (N ≠ 0 → ∃ z, N = 2 * z + 1) ∧ E ≤ b := by
  obtain ⟨neg', a', n', c', N, E', he, h1, h2, h3, h4, h5⟩ := h
  simp only [Value.agg.injEq, Array.mk.injEq, List.cons.injEq, Value.bool.injEq, Value.slice.injEq, Value.int.injEq, and_true, true_and] at he
  obtain ⟨rfl, ⟨rfl, rfl, rfl⟩, hE⟩ := he
  obtain rfl : E = E' := by omega
  exact ⟨N, h1, h2, h3, h4, h5⟩
theorem rz_neg {neg : Bool} {N Z : Int} {E : Nat} (hz : Z = sg neg N * 2 ^ E) : sg (!neg) N * 2 ^ E = -Z := by
  rw [hz]; cases neg <;> simp [sg, Int.neg_mul]
theorem nb_shift {N : Int} (E : Nat) (h : 0 < N) : nb (N * 2 ^ E) = nb N + E := by
  obtain ⟨h1, h2, h3⟩ := nb_spec h
  have hp := pow2_pos E
  refine nb_eq (by omega) ?_ ?_
  · rw [show nb N + E - 1 = (nb N - 1) + E by omega, Int.pow_add]; exact Int.mul_le_mul_of_nonneg_right h1 (by omega)
  · rw [Int.pow_add]; exact Int.mul_lt_mul_of_pos_right h2 hp
def absI (Z : Int) : Int := if Z < 0 then -Z else Z
theorem rz_abs {neg : Bool} {N Z : Int} {E : Nat} (h : 0 ≤ N) (hz : Z = sg neg N * 2 ^ E) : absI Z = N * 2 ^ E := by
  have hp := pow2_pos E
  have h1 : 0 ≤ N * 2 ^ E := Int.mul_nonneg h (by omega)
  unfold absI
  cases neg
  · rw [hz, sg_false]; split <;> omega
  · rw [hz, sg_true, Int.neg_mul]; split <;> omega
end Go.Proofs.YthfcncapgfkkjaaGreatDoor

namespace Go.Proofs.YthfcncapgfkkjaaGreatDoor
open Go.RowKit

section
variable {P : Program} {ops : Array Oper} {Q : Exit → Act → World → Prop}
def SlotStepT (P : Program) (ops : Array Oper) (Q : Exit → Act → World → Prop) (ds : List Nat) (t0 : Array Value) (df : List Deferred) (S : Array Value → World → Prop) (F : Nat → Value → World → Prop) (i : Nat) : Prop :=
  ∀ tm w, Same ds t0 tm → S tm w → (∀ o, ops[i]? = some o → ∀ e ∈ o.after, Region.binds .any e = true → Got ops F tm w e.on) →
    wpOp P ops Q i (fun a' w' => ∃ v, a' = Act.put ⟨tm, df⟩ ((ops[i]?).bind (·.dst)) v ∧ S (Act.put ⟨tm, df⟩ ((ops[i]?).bind (·.dst)) v).tmps w' ∧ F i v w' ∧ Below w.heap.size w w') ⟨tm, df⟩ w

theorem slotst_tail_any {ds : List Nat} {t0 : Array Value} {df : List Deferred} {S : Array Value → World → Prop} {F : Nat → Value → World → Prop} {n : Nat}
    (hds : headIn ops n ds = true) (hlt : ∀ d ∈ ds, d < t0.size) (hap : headApart ops n = true) (hed : headBack ops n = true)
    (hsk : Region.sinkB .any ops n = true) (hch : Region.chainB .any ops n = true) (hn : n < ops.size)
    (hsq : Region.seqB .any ops (ops.size - n) n (headDone ops.size n) = true)
    (hk : ∀ i v w w', Below w.heap.size w w' → F i v w → F i v w')
    (hstep : ∀ i ∈ List.range n, SlotStepT P ops Q ds t0 df S F i)
    (hend : ∀ tm w, Same ds t0 tm → S tm w → (∀ i, i < n → Got ops F tm w i) → wpList P ops Q (ops.toList.drop n) ⟨tm, df⟩ w) :
    ∀ (k : Nat) (rem : List Nat) (listed : Array Bool) (tm : Array Value) (w : World), rem.length = k → HeadInv .any ops n listed → rem.Nodup → (∀ i, i ∈ rem ↔ i < n ∧ listed.getD i true = false) → Same ds t0 tm → S tm w → (∀ i, i < n → listed.getD i true = true → Got ops F tm w i) →
      wpAny P .any ops Q (k + (ops.size - n)) listed ⟨tm, df⟩ w := by
  intro k
  induction k with
  | zero =>
    intro rem listed tm w hlen inv hnd hrem hsame hS hgot
    obtain rfl : rem = [] := List.eq_nil_of_length_eq_zero hlen
    have hall : ∀ i, i < n → listed.getD i true = true := fun i hi => by
      cases h : listed.getD i true with
      | true => rfl
      | false => cases (hrem i).2 ⟨hi, h⟩
    have hl := headDone_eq inv hall
    have hlen2 : (ops.toList.drop n).length = ops.size - n := by simp
    rw [Nat.zero_add, ← hlen2]
    refine wpAny_of_seq (ops.toList.drop n) n listed _ w (fun j => by rw [List.getElem?_drop, Array.getElem?_toList]) (by rw [hlen2, hl]; exact hsq) (hend tm w hsame hS fun i hi => hgot i hi (hall i hi))
  | succ k ih =>
    intro rem listed tm w hlen inv hnd hrem hsame hS hgot
    rw [show k + 1 + (ops.size - n) = (k + (ops.size - n)) + 1 by omega]
    obtain ⟨i0, hi0⟩ : ∃ i0, i0 ∈ rem := by
      cases rem with
      | nil => simp at hlen
      | cons x l => exact ⟨x, List.mem_cons_self ..⟩
    have hu0 := (hrem i0).1 hi0
    refine ⟨fun hr => ?_, fun i hi => ?_⟩
    · exfalso
      have hall : ∀ i, i < n → listed.getD i true = true := by
        intro i
        induction i using Nat.strongRecOn with
        | ind i ihi =>
          intro hi
          cases h : listed.getD i true with
          | true => rfl
          | false =>
            exfalso
            have hed' := List.all_eq_true.1 hed i (List.mem_range.2 hi)
            have hi2 : i < ops.size := by omega
            have ho : ops[i]? = some ops[i] := getElem?_pos ops i hi2
            rw [ho] at hed'
            have hmem : i ∈ Region.ready .any ops listed := by
              refine mem_ready.2 ⟨h, _, ho, fun e he hb => ?_⟩
              have h1 := List.all_eq_true.1 hed' e (by simpa using he)
              simp only [hb, Bool.not_true, Bool.false_or, decide_eq_true_eq] at h1
              have h2 := ihi e.on h1 (by omega)
              have h3 : e.on < listed.size := by rw [inv.size]; omega
              simp [Array.getD_eq_getD_getElem?, h3] at h2 ⊢
              exact h2
            rw [hr] at hmem
            cases hmem
      rw [hall i0 hu0.1] at hu0
      cases hu0.2
    · have hin : i < n := by
        rcases Nat.lt_or_ge i n with h | h
        · exact h
        · exact absurd hi (tail_waits hsk hch hn inv _ i0 rfl hu0.1 hu0.2 i h)
      have hi' := hi
      obtain ⟨hun, o, ho, hafter⟩ := mem_ready.1 hi'
      have hlti : i < ops.size := by omega
      have hmem := (hrem i).2 ⟨hin, hun⟩
      have hback := List.all_eq_true.1 hed i (List.mem_range.2 hin)
      rw [ho] at hback
      refine wpOp_mono ?_ (hstep i (List.mem_range.2 hin) tm w hsame hS (fun o' ho' e he hb => ?_))
      · rintro a' w' ⟨v, rfl, hS', hF, hbel⟩
        have hsz : i < listed.size := by rw [inv.size]; exact hlti
        have hin2 := List.all_eq_true.1 hds i (List.mem_range.2 hin)
        simp only [ho, Option.bind_some] at hin2
        cases hd : o.dst with
        | none => rw [hd] at hin2; cases hin2
        | some d =>
          rw [hd] at hin2
          have hdd : ds.contains d = true := hin2
          have hdl : d < tm.size := by rw [hsame.1]; exact hlt d (List.contains_iff_mem.1 hdd)
          simp only [ho, Option.bind_some, hd]
          refine ih (rem.erase i) _ (tm.setIfInBounds d v) w' (by rw [List.length_erase_of_mem hmem]; omega) (inv.set hi hin) (hnd.erase i) (fun j => ?_) ⟨by simpa using hsame.1, fun t ht => ?_⟩ (by rw [ho, Option.bind_some, hd] at hS'; exact hS') fun j hjn hj => ?_
          · rw [hnd.mem_erase_iff, hrem j]
            by_cases hji : i = j
            · subst hji
              simp [Array.getD_eq_getD_getElem?, hsz]
            · rw [getD_set_ne true hji]
              constructor
              · rintro ⟨-, h⟩; exact h
              · intro h; exact ⟨Ne.symm hji, h⟩
          · have htd : d ≠ t := fun e => by subst e; rw [hdd] at ht; cases ht
            rw [Array.getElem?_setIfInBounds_ne htd]
            exact hsame.2 t ht
          · intro o' d' ho' hd'
            by_cases hji : j = i
            · subst hji
              rw [ho] at ho'; cases ho'
              rw [hd] at hd'; cases hd'
              exact ⟨v, by simp [hdl], hF⟩
            · rw [getD_set_ne true (Ne.symm hji)] at hj
              obtain ⟨v', h1, h2⟩ := hgot j hjn hj o' d' ho' hd'
              have h3 := List.all_eq_true.1 (List.all_eq_true.1 hap i (List.mem_range.2 hin)) j (List.mem_range.2 hjn)
              simp only [ho, ho', Option.bind_some, hd, hd', Bool.or_eq_true, beq_iff_eq, bne_iff_ne] at h3
              have hne : d ≠ d' := h3.resolve_left (fun e => hji e.symm)
              exact ⟨v', by rw [Array.getElem?_setIfInBounds_ne hne]; exact h1, hk _ _ _ _ hbel h2⟩
      · rw [ho] at ho'; cases ho'
        have h1 := List.all_eq_true.1 hback e (by simpa using he)
        simp only [hb, Bool.not_true, Bool.false_or, decide_eq_true_eq] at h1
        have h2 := hafter e he hb
        refine hgot e.on (by omega) ?_
        have h3 : e.on < listed.size := by rw [inv.size]; omega
        simp [Array.getD_eq_getD_getElem?, h3] at h2 ⊢
        exact h2

theorem wp_region_slotst_tail {id : Nat} {t0 : Array Value} {df : List Deferred} {w : World} (hm : P.follows .mixedOrders = true) (n : Nat) (ds : List Nat) (S : Array Value → World → Prop) (F : Nat → Value → World → Prop)
    (hds : headIn ops n ds = true) (hlt : (ds.all fun d => decide (d < t0.size)) = true) (hap : headApart ops n = true) (hed : headBack ops n = true)
    (htl : (Region.sinkB .any ops n && Region.chainB .any ops n && decide (n < ops.size) && Region.seqB .any ops (ops.size - n) n (headDone ops.size n)) = true)
    (hk : ∀ i v w w', Below w.heap.size w w' → F i v w → F i v w') (hS : S t0 w.drew)
    {l : List Nat} (hl : List.range n = l) (hstep : ∀ i ∈ l, SlotStepT P ops Q ds t0 df S F i)
    (hend : ∀ tm w, Same ds t0 tm → S tm w → (∀ i, i < n → Got ops F tm w i) → wpList P ops Q (ops.toList.drop n) ⟨tm, df⟩ w) :
    (Code.region id ops true).wp P Q ⟨t0, df⟩ w := by
  subst hl
  simp only [Bool.and_eq_true, decide_eq_true_eq] at htl
  obtain ⟨⟨⟨hsk, hch⟩, hn⟩, hsq⟩ := htl
  refine wp_region_any hm ?_
  have h := slotst_tail_any (P := P) (Q := Q) (df := df) hds (fun d hd => by simpa using List.all_eq_true.1 hlt d hd) hap hed hsk hch hn hsq hk hstep hend n (List.range n) (Array.replicate ops.size false) t0 w.drew (by simp) ⟨by simp, (fun j oj hj hl => (by rw [getD_replicate_false] at hl; cases hl)), (fun t ht ht' => (by simp [Array.getD_eq_getD_getElem?, ht']))⟩ List.nodup_range (fun i => by
    rw [List.mem_range]
    constructor
    · intro hi
      exact ⟨hi, by simp [Array.getD_eq_getD_getElem?, show i < ops.size by omega]⟩
    · exact fun h => h.1) ⟨rfl, fun _ _ => rfl⟩ hS (fun i hi hl => by
      simp [Array.getD_eq_getD_getElem?, show i < ops.size by omega] at hl)
  rwa [show n + (ops.size - n) = ops.size by omega] at h


/-- An operation that does not run since the one that guards it did not. -/
theorem SlotStep.skipU {ds : List Nat} {t0 : Array Value} {df : List Deferred} {S : World → Prop} {F : Nat → Value → World → Prop} {i : Nat} {o : Oper} {d : Nat} (ho : ops[i]? = some o) (hd : o.dst = some d) (j : Nat) (b : Bool) (hn : o.guard = some (j, b))
    {dj : Nat} (hj : (ops[j]?).bind (·.dst) = some dj) (hjd : ((o.after.toList.filter (Region.binds .any)).map (·.on)).contains j = true) (hF : ∀ v w, F j v w → v = undef) (hU : ∀ w, F i undef w) :
    SlotStep P ops Q ds t0 df S F i :=
  SlotStep.one ho hd fun tm w h1 h2 h3 K hK => by
    obtain ⟨oj, hoj, hdj⟩ := Option.bind_eq_some_iff.1 hj
    obtain ⟨v, e, hv⟩ := h3 j hjd oj dj hoj hdj
    rw [hF _ _ hv] at e
    have hy : yielded ops tm j = none := by
      unfold yielded
      rw [hj, Option.bind_some, e]
      rfl
    rw [if_neg (by unfold Region.wanted; rw [hn]; simp only [hy]; cases b <;> decide), hd]
    exact hK _ _ (Below.refl _ _) h2 (hU w)
theorem SlotStepT.plain {ds : List Nat} {t0 : Array Value} {df : List Deferred} {S : Array Value → World → Prop} {F : Nat → Value → World → Prop} {i : Nat} {o : Oper} {d : Nat} (ho : ops[i]? = some o) (hd : o.dst = some d) (hn : o.guard = none)
    (h : ∀ tm w, Same ds t0 tm → S tm w → (∀ j, ((o.after.toList.filter (Region.binds .any)).map (·.on)).contains j = true → Got ops F tm w j) →
      ∀ K : Act → World → Prop, (∀ v w', Below w.heap.size w w' → S (tm.setIfInBounds d v) w' → F i v w' → K ⟨tm.setIfInBounds d v, df⟩ w') → Oper.wp P o ⟨tm, df⟩ w K Q) :
    SlotStepT P ops Q ds t0 df S F i := by
  intro tm w hsame hS hgot
  refine wpOp_step ho fun K hK => ?_
  rw [if_pos (by unfold Region.wanted; rw [hn])]
  refine h tm w hsame hS (fun j hj => ?_) K fun v w' hb hS' hF => ?_
  · obtain ⟨e, he, rfl⟩ := List.mem_map.1 (List.contains_iff_mem.1 hj)
    obtain ⟨h1, h2⟩ := List.mem_filter.1 he
    exact hgot o ho e (by simpa using h1) h2
  · refine hK _ _ ⟨v, ?_, ?_, hF, hb⟩
    · rw [ho]
      show _ = Act.put ⟨tm, df⟩ o.dst v
      rw [hd]
      rfl
    · rw [ho]
      show S (Act.put ⟨tm, df⟩ o.dst v).tmps w'
      rw [hd]
      exact hS'
end

/-- The variables that two slots point to, once they are made, lie apart. -/
def Two (i j : Nat) (tm : Array Value) (w : World) : Prop :=
  (∀ g, tm[i]? = some (.pointer (some ⟨g, 0, none⟩)) → g < w.heap.size) ∧ (∀ g, tm[j]? = some (.pointer (some ⟨g, 0, none⟩)) → g < w.heap.size) ∧ ∀ g, tm[i]? = some (.pointer (some ⟨g, 0, none⟩)) → tm[j]? ≠ some (.pointer (some ⟨g, 0, none⟩))
theorem Two.start {i j : Nat} {t0 : Array Value} {w : World} (hi : t0[i]? = some undef) (hj : t0[j]? = some undef) : Two i j t0 w := by
  refine ⟨fun g h => ?_, fun g h => ?_, fun g h => ?_⟩
  · rw [hi] at h; cases h
  · rw [hj] at h; cases h
  · rw [hi] at h; cases h
theorem Two.other {i j d : Nat} {tm : Array Value} {w w' : World} {v : Value} (h : Two i j tm w) (hs : w.heap.size ≤ w'.heap.size) (hi : d ≠ i) (hj : d ≠ j) : Two i j (tm.setIfInBounds d v) w' := by
  refine ⟨fun g h1 => ?_, fun g h1 => ?_, fun g h1 => ?_⟩
  · rw [Array.getElem?_setIfInBounds_ne hi] at h1
    exact Nat.lt_of_lt_of_le (h.1 g h1) hs
  · rw [Array.getElem?_setIfInBounds_ne hj] at h1
    exact Nat.lt_of_lt_of_le (h.2.1 g h1) hs
  · rw [Array.getElem?_setIfInBounds_ne hi] at h1
    rw [Array.getElem?_setIfInBounds_ne hj]
    exact h.2.2 g h1
theorem Two.first {i j : Nat} {tm : Array Value} {w : World} {o : Obj} (h : Two i j tm w) (hij : i ≠ j) : Two i j (tm.setIfInBounds i (.pointer (some ⟨w.heap.size, 0, none⟩))) (w.alloc o) := by
  have key : ∀ g, (tm.setIfInBounds i (.pointer (some ⟨w.heap.size, 0, none⟩)))[i]? = some (.pointer (some ⟨g, 0, none⟩)) → g = w.heap.size := by
    intro g hg
    rw [Array.getElem?_setIfInBounds_self] at hg
    split at hg
    · simpa using hg.symm
    · cases hg
  refine ⟨fun g h1 => ?_, fun g h1 => ?_, fun g h1 => ?_⟩
  · rw [key g h1]; simp
  · rw [Array.getElem?_setIfInBounds_ne hij] at h1
    have := h.2.1 g h1
    simp; omega
  · rw [Array.getElem?_setIfInBounds_ne hij, key g h1]
    intro h2
    have := h.2.1 _ h2
    omega
theorem Two.second {i j : Nat} {tm : Array Value} {w : World} {o : Obj} (h : Two i j tm w) (hij : i ≠ j) : Two i j (tm.setIfInBounds j (.pointer (some ⟨w.heap.size, 0, none⟩))) (w.alloc o) := by
  have key : ∀ g, (tm.setIfInBounds j (.pointer (some ⟨w.heap.size, 0, none⟩)))[j]? = some (.pointer (some ⟨g, 0, none⟩)) → g = w.heap.size := by
    intro g hg
    rw [Array.getElem?_setIfInBounds_self] at hg
    split at hg
    · simpa using hg.symm
    · cases hg
  refine ⟨fun g h1 => ?_, fun g h1 => ?_, fun g h1 h2 => ?_⟩
  · rw [Array.getElem?_setIfInBounds_ne (Ne.symm hij)] at h1
    have := h.1 g h1
    simp; omega
  · rw [key g h1]; simp
  · rw [Array.getElem?_setIfInBounds_ne (Ne.symm hij)] at h1
    have := h.1 g h1
    have := key g h2
    omega
/-- The block of another variable stays when one is stored to. -/
theorem slot_apart {w : World} {g h : Nat} {o : Obj} {u v s : Value} (hg : w.heap[g]? = some o) (hne : g ≠ h) :
    (((w.setCell ⟨h, 0, none⟩ u).setCell ⟨h, 1, none⟩ v).setCell ⟨h, 2, none⟩ s).heap[g]? = some o := by
  rw [heap_setCell_other _ _ _ _ hne, heap_setCell_other _ _ _ _ hne, heap_setCell_other _ _ _ _ hne]
  exact hg
end Go.Proofs.YthfcncapgfkkjaaGreatDoor

namespace Go.Proofs.YthfcncapgfkkjaaGreatDoor
open Go.RowKit

theorem same_ow {base base' : Nat} {w : World} {a a2 : Option Addr} {n c n2 c2 : Nat} {l : List Int} (h1 : Ow base w (.slice a n c) l) (g1 : Ow base' w (.slice a2 n2 c2) l) :
    Calls Tryz.prog 37 #[.slice a n c, .slice a2 n2 c2] w fun e w' => RetV w (.bool true) e w' := by
  obtain ⟨a', c', he, q1, q2, q3⟩ := h1.form
  obtain ⟨a'', c'', he', r1, r2, r3⟩ := g1.form
  simp only [Value.slice.injEq] at he he'
  obtain ⟨rfl, rfl, rfl⟩ := he
  obtain ⟨rfl, rfl, rfl⟩ := he'
  exact same_yes _ _ _ _ _ l w rfl q1 q2 r1 r2 q3 r3
theorem OwU.at {base : Nat} {w : World} {ao : Option Addr} {n c : Nat} {vs : List Value} (h : OwU base w (.slice ao n c) vs) {k : Nat} (hk : k < vs.length) : n = vs.length ∧ n ≤ c ∧ c ≤ 9223372036854775807 ∧ ∃ b off v, ao = some ⟨b, off, none⟩ ∧ vs[k]? = some v ∧ w.cell? ⟨b, off + k, none⟩ = some v := by
  obtain ⟨ao', cap, he, h1, h2, h3⟩ := h.form
  simp only [Value.slice.injEq] at he
  obtain ⟨rfl, rfl, rfl⟩ := he
  refine ⟨rfl, h1, h2, ?_⟩
  rcases h3 with rfl | ⟨b, off, rfl, hc⟩
  · simp at hk
  · obtain ⟨v, hv⟩ : ∃ v, vs[k]? = some v := ⟨_, List.getElem?_eq_getElem hk⟩
    exact ⟨b, off, v, rfl, hv, hc k v hv⟩
theorem KLists.slice {w : World} {vs : List Value} {ls : List (List Int)} (h : KLists w vs ls) {i : Nat} {v : Value} (hv : vs[i]? = some v) : ∃ a n c l base, v = .slice a n c ∧ ls[i]? = some l ∧ Ow base w (.slice a n c) l := by
  obtain ⟨l, base, h1, h2⟩ := h.get hv
  obtain ⟨a, n, c, rfl⟩ := h2.slice
  exact ⟨a, n, c, l, base, rfl, h1, h2⟩
set_option maxRecDepth 100000 in
set_option maxHeartbeats 2000000 in
theorem still_num {w : World} {g b1 b2 : Nat} {ra sa : Option Addr} {rn rc sn sc : Nat} {vs us : List Value} {ls : List (List Int)} (hB : BookAt w g (.slice ra rn rc) (.slice sa sn sc)) (hr : OwU b1 w (.slice ra rn rc) vs) (hs : OwU b2 w (.slice sa sn sc) us) (hv : KLists w vs ls) (hu : KLists w us ls) (hn : rn = vs.length) (hM : rn ≤ 1000) :
    Calls Tryz.prog 44 #[.pointer (some ⟨g, 0, none⟩)] w fun e w' => RetV w (.bool true) e w' := by
  have hl1 := hv.length
  have hl2 := hu.length
  have HN := Lib.hid hn
  have HL : Hid (us.length = vs.length) := Lib.hid (by omega)
  clear hn hl1 hl2
  go_enter Tryz.func44, Tryz.ntmps44
  go_wp2_with fail
  go_loopw [3] (fun ii wr => ∃ k : Nat, k ≤ rn ∧ ii = .int .i64 k ∧ Below w.heap.size w wr) (fun ii _ => rn - (intOf ii).toNat)
  case atStart => exact ⟨0, Nat.zero_le _, rfl, Below.refl _ _⟩
  case round =>
    obtain ⟨k, hk, rfl, hb⟩ := hrel
    have hc : wr.heap[g]? = some (.cells #[.slice none 0 0, .slice none 0 0, .slice ra rn rc, .slice sa sn sc, .slice none 0 0, .slice none 0 0, .slice none 0 0, .slice none 0 0, .slice none 0 0, .slice none 0 0] 35 (0, 0)) := slot_kept hB hb
    have c2 := cell_of_row wr g 2 _ _ _ hc
    have c3 := cell_of_row wr g 3 _ _ _ hc
    by_cases hlt : k < rn
    · have hkv : k < vs.length := by rw [← HN.out]; exact hlt
      have hku : k < us.length := by rw [HL.out]; exact hkv
      obtain ⟨-, hrc1, hrc2, rb, ro, v, rfl, hv1, hcv⟩ := hr.at hkv
      obtain ⟨hsn, hsc1, hsc2, sb, so, u, rfl, hu1, hcu⟩ := hs.at hku
      obtain ⟨a, n, c, l, base, rfl, hl, ho⟩ := hv.slice hv1
      obtain ⟨a2, n2, c2', l', base', rfl, hl', ho'⟩ := hu.slice hu1
      obtain rfl : l = l' := by rw [hl] at hl'; exact Option.some.inj hl'
      have hsk : k < sn := by rw [hsn]; exact hku
      have hcv' := cell_after hb hcv
      have hcu' := cell_after hb hcu
      have hlt' : (k : Int) < (rn : Int) := by omega
      replace ho := ho.below hb
      replace ho' := ho'.below hb
      clear hv1 hu1 hl hl' hkv hku hcv hcu hsn
      go_upto_region 4 with fail
      refine wp_region_slots (by kernel_rfl) [13, 14, 15, 16, 17, 18, 19, 20, 21, 22, 23, 24, 25, 26, 27, 28] (fun w' => (w'.heap[g]? = some (.cells #[.slice none 0 0, .slice none 0 0, .slice (some ⟨rb, ro, none⟩) rn rc, .slice (some ⟨sb, so, none⟩) sn sc, .slice none 0 0, .slice none 0 0, .slice none 0 0, .slice none 0 0, .slice none 0 0, .slice none 0 0] 35 (0, 0))) ∧ (w'.cell? ⟨rb, ro + k, none⟩ = some (.slice a n c)) ∧ (w'.cell? ⟨sb, so + k, none⟩ = some (.slice a2 n2 c2')) ∧ (Ow base w' (.slice a n c) l) ∧ (Ow base' w' (.slice a2 n2 c2') l) ∧ (Below wr.heap.size wr w')) (Said [Is (.pointer (some ⟨g, 0, none⟩)), Is (.pointer (some ⟨g, 0, none⟩)), Is (.pointer (some ⟨g, 2, none⟩)), Is (.slice (some ⟨rb, ro, none⟩) rn rc), Is (.int .i64 (k : Int)), Is (.pointer (some ⟨rb, ro + k, none⟩)), Is (.slice a n c), Is (.pointer (some ⟨g, 0, none⟩)), Is (.pointer (some ⟨g, 0, none⟩)), Is (.pointer (some ⟨g, 3, none⟩)), Is (.slice (some ⟨sb, so, none⟩) sn sc), Is (.int .i64 (k : Int)), Is (.pointer (some ⟨sb, so + k, none⟩)), Is (.slice a2 n2 c2'), Is (.bool true), Is (.bool false)]) (by kernel_rfl) (by kernel_rfl) (by kernel_rfl) (by kernel_rfl) (Said.keep ?keep) ⟨slot_kept hc (bdn (Below.refl _ _) 1), cell_after (bdn (Below.refl _ _) 1) hcv', cell_after (bdn (Below.refl _ _) 1) hcu', ho.below (bdn (Below.refl _ _) 1), ho'.below (bdn (Below.refl _ _) 1), bdn (Below.refl _ _) 1⟩ (l := [0, 1, 2, 3, 4, 5, 6, 7, 8, 9, 10, 11, 12, 13, 14, 15]) (by kernel_rfl) ?step ?fin
      case keep =>
        refine List.forall_mem_cons.2 ⟨Is.keeps _, ?_⟩
        refine List.forall_mem_cons.2 ⟨Is.keeps _, ?_⟩
        refine List.forall_mem_cons.2 ⟨Is.keeps _, ?_⟩
        refine List.forall_mem_cons.2 ⟨Is.keeps _, ?_⟩
        refine List.forall_mem_cons.2 ⟨Is.keeps _, ?_⟩
        refine List.forall_mem_cons.2 ⟨Is.keeps _, ?_⟩
        refine List.forall_mem_cons.2 ⟨Is.keeps _, ?_⟩
        refine List.forall_mem_cons.2 ⟨Is.keeps _, ?_⟩
        refine List.forall_mem_cons.2 ⟨Is.keeps _, ?_⟩
        refine List.forall_mem_cons.2 ⟨Is.keeps _, ?_⟩
        refine List.forall_mem_cons.2 ⟨Is.keeps _, ?_⟩
        refine List.forall_mem_cons.2 ⟨Is.keeps _, ?_⟩
        refine List.forall_mem_cons.2 ⟨Is.keeps _, ?_⟩
        refine List.forall_mem_cons.2 ⟨Is.keeps _, ?_⟩
        refine List.forall_mem_cons.2 ⟨Is.keeps _, ?_⟩
        refine List.forall_mem_cons.2 ⟨Is.keeps _, ?_⟩
        exact fun _ h => nomatch h
      case step =>
        refine List.forall_mem_cons.2 ⟨?_, ?_⟩
        · refine SlotStep.plain rfl rfl rfl ?_
          intro tm ws hsame hS hg K hK
          have e0 : tm[0]? = some (.pointer (some ⟨g, 0, none⟩)) := hsame.2 0 rfl
          go_simp
          exact hK _ _ (Below.refl _ _) hS rfl
        refine List.forall_mem_cons.2 ⟨?_, ?_⟩
        · refine SlotStep.plain rfl rfl rfl ?_
          intro tm ws hsame hS hg K hK
          obtain ⟨v13, e13, rfl⟩ := hg 0 (by kernel_rfl) _ 13 rfl rfl
          go_simp
          exact hK _ _ (Below.refl _ _) hS rfl
        refine List.forall_mem_cons.2 ⟨?_, ?_⟩
        · refine SlotStep.plain rfl rfl rfl ?_
          intro tm ws hsame hS hg K hK
          obtain ⟨v14, e14, rfl⟩ := hg 1 (by kernel_rfl) _ 14 rfl rfl
          go_simp
          exact hK _ _ (Below.refl _ _) hS rfl
        refine List.forall_mem_cons.2 ⟨?_, ?_⟩
        · refine SlotStep.plain rfl rfl rfl ?_
          intro tm ws hsame hS hg K hK
          obtain ⟨v15, e15, rfl⟩ := hg 2 (by kernel_rfl) _ 15 rfl rfl
          have cc := cell_of_row ws g 2 _ _ _ (hS.1)
          go_simp
          exact hK _ _ (Below.refl _ _) hS rfl
        refine List.forall_mem_cons.2 ⟨?_, ?_⟩
        · refine SlotStep.plain rfl rfl rfl ?_
          intro tm ws hsame hS hg K hK
          have e3 : tm[3]? = some (.int .i64 (k : Int)) := hsame.2 3 rfl
          go_simp
          exact hK _ _ (Below.refl _ _) hS rfl
        refine List.forall_mem_cons.2 ⟨?_, ?_⟩
        · refine SlotStep.plain rfl rfl rfl ?_
          intro tm ws hsame hS hg K hK
          obtain ⟨v16, e16, rfl⟩ := hg 3 (by kernel_rfl) _ 16 rfl rfl
          obtain ⟨v17, e17, rfl⟩ := hg 4 (by kernel_rfl) _ 17 rfl rfl
          go_simp
          exact hK _ _ (Below.refl _ _) hS rfl
        refine List.forall_mem_cons.2 ⟨?_, ?_⟩
        · refine SlotStep.plain rfl rfl rfl ?_
          intro tm ws hsame hS hg K hK
          obtain ⟨v18, e18, rfl⟩ := hg 5 (by kernel_rfl) _ 18 rfl rfl
          have cc := hS.2.1
          go_simp
          exact hK _ _ (Below.refl _ _) hS rfl
        refine List.forall_mem_cons.2 ⟨?_, ?_⟩
        · refine SlotStep.plain rfl rfl rfl ?_
          intro tm ws hsame hS hg K hK
          have e0 : tm[0]? = some (.pointer (some ⟨g, 0, none⟩)) := hsame.2 0 rfl
          go_simp
          exact hK _ _ (Below.refl _ _) hS rfl
        refine List.forall_mem_cons.2 ⟨?_, ?_⟩
        · refine SlotStep.plain rfl rfl rfl ?_
          intro tm ws hsame hS hg K hK
          obtain ⟨v20, e20, rfl⟩ := hg 7 (by kernel_rfl) _ 20 rfl rfl
          go_simp
          exact hK _ _ (Below.refl _ _) hS rfl
        refine List.forall_mem_cons.2 ⟨?_, ?_⟩
        · refine SlotStep.plain rfl rfl rfl ?_
          intro tm ws hsame hS hg K hK
          obtain ⟨v21, e21, rfl⟩ := hg 8 (by kernel_rfl) _ 21 rfl rfl
          go_simp
          exact hK _ _ (Below.refl _ _) hS rfl
        refine List.forall_mem_cons.2 ⟨?_, ?_⟩
        · refine SlotStep.plain rfl rfl rfl ?_
          intro tm ws hsame hS hg K hK
          obtain ⟨v22, e22, rfl⟩ := hg 9 (by kernel_rfl) _ 22 rfl rfl
          have cc := cell_of_row ws g 3 _ _ _ (hS.1)
          go_simp
          exact hK _ _ (Below.refl _ _) hS rfl
        refine List.forall_mem_cons.2 ⟨?_, ?_⟩
        · refine SlotStep.plain rfl rfl rfl ?_
          intro tm ws hsame hS hg K hK
          have e3 : tm[3]? = some (.int .i64 (k : Int)) := hsame.2 3 rfl
          go_simp
          exact hK _ _ (Below.refl _ _) hS rfl
        refine List.forall_mem_cons.2 ⟨?_, ?_⟩
        · refine SlotStep.plain rfl rfl rfl ?_
          intro tm ws hsame hS hg K hK
          obtain ⟨v23, e23, rfl⟩ := hg 10 (by kernel_rfl) _ 23 rfl rfl
          obtain ⟨v24, e24, rfl⟩ := hg 11 (by kernel_rfl) _ 24 rfl rfl
          go_simp
          exact hK _ _ (Below.refl _ _) hS rfl
        refine List.forall_mem_cons.2 ⟨?_, ?_⟩
        · refine SlotStep.plain rfl rfl rfl ?_
          intro tm ws hsame hS hg K hK
          obtain ⟨v25, e25, rfl⟩ := hg 12 (by kernel_rfl) _ 25 rfl rfl
          have cc := hS.2.2.1
          go_simp
          exact hK _ _ (Below.refl _ _) hS rfl
        refine List.forall_mem_cons.2 ⟨?_, ?_⟩
        · refine SlotStep.plain rfl rfl rfl ?_
          intro tm ws hsame hS hg K hK
          obtain ⟨v19, e19, rfl⟩ := hg 6 (by kernel_rfl) _ 19 rfl rfl
          obtain ⟨v26, e26, rfl⟩ := hg 13 (by kernel_rfl) _ 26 rfl rfl
          go_simp
          refine (same_ow hS.2.2.2.1 hS.2.2.2.2.1).mono ?_
          rintro e wm ⟨rfl, hb⟩
          exact hK _ _ hb (⟨slot_kept (hS.1) (hb), cell_after (hb) (hS.2.1), cell_after (hb) (hS.2.2.1), (hS.2.2.2.1).below (hb), (hS.2.2.2.2.1).below (hb), (hS.2.2.2.2.2).trans (Below.mono (hb) (hS.2.2.2.2.2).size)⟩) rfl
        refine List.forall_mem_cons.2 ⟨?_, ?_⟩
        · refine SlotStep.plain rfl rfl rfl ?_
          intro tm ws hsame hS hg K hK
          obtain ⟨v27, e27, rfl⟩ := hg 14 (by kernel_rfl) _ 27 rfl rfl
          go_simp
          exact hK _ _ (Below.refl _ _) hS rfl
        exact fun _ h => nomatch h
      case fin =>
        intro tm w8 hsame hS hgot
        obtain ⟨u, hu, htm⟩ := hsame.form (by kernel_rfl)
        obtain ⟨v28, e28, rfl⟩ := hgot 15 _ 28 rfl rfl
        have h28 := hu _ _ e28
        have hb8 := hS.2.2.2.2.2
        clear hgot hu hsame e28 hS
        rw [htm]
        clear htm tm
        simp only [List.foldl_cons, List.foldl_nil, List.setIfInBounds_toArray, List.set_cons_zero, List.set_cons_succ, h28]
        clear h28
        have hbb := hb.trans (hb8.mono hb.size)
        clear hb8 hb
        go_wp2_with fail
        go_roundw
        case rel => exact ⟨k + 1, by omega, by go_num, hbb⟩
        case measure => simp [intOf]; omega
    · obtain rfl : k = rn := by omega
      go_wp2_with fail
      go_ret
      exact ⟨rfl, hb⟩
end Go.Proofs.YthfcncapgfkkjaaGreatDoor

namespace Go.Proofs.YthfcncapgfkkjaaGreatDoor
open Go.RowKit

def IsOwn (l : List Int) (v : Value) (w : World) : Prop := ∃ a n c, v = .slice a n c ∧ ∃ base, Ow base w (.slice a n c) l
theorem IsOwn.keeps (l : List Int) : Keeps (IsOwn l) := fun _ _ _ hb ⟨a, n, c, h1, base, h2⟩ => ⟨a, n, c, h1, base, h2.below hb⟩
set_option maxRecDepth 100000 in
set_option maxHeartbeats 2000000 in
theorem marked_num {w : World} {b1 : Nat} {ra : Option Addr} {rn rc : Nat} {vs : List Value} {ls : List (List Int)} (hr : OwU b1 w (.slice ra rn rc) vs) (hv : KLists w vs ls) (hn : rn = vs.length) (hM : rn ≤ 300) (hmk : ∀ (i : Nat) (l : List Int), ls[i]? = some l → l = marks i 0 l.length ∧ l.length ≤ 100000) :
    Calls Tryz.prog 59 #[.slice ra rn rc] w fun e w' => RetV w (.bool true) e w' := by
  have HN := Lib.hid hn
  have HMK := Lib.hid hmk
  clear hn hmk
  go_enter Tryz.func59, Tryz.ntmps59
  go_wp2_with fail
  go_loopw [3] (fun ii wr => ∃ k : Nat, k ≤ rn ∧ ii = .int .i64 k ∧ Below w.heap.size w wr) (fun ii _ => rn - (intOf ii).toNat)
  case atStart => exact ⟨0, Nat.zero_le _, rfl, Below.refl _ _⟩
  case round =>
    obtain ⟨k, hk, rfl, hb⟩ := hrel
    by_cases hlt : k < rn
    · have hkv : k < vs.length := by rw [← HN.out]; exact hlt
      obtain ⟨-, hrc1, hrc2, rb, ro, v, rfl, hv1, hcv⟩ := hr.at hkv
      obtain ⟨a, n, c, l, base, rfl, hl, ho⟩ := hv.slice hv1
      obtain ⟨hl2, hl3⟩ := HMK.out k l hl
      have hn2 : n = l.length := by
        obtain ⟨a', c', he, -⟩ := ho.form
        simp only [Value.slice.injEq] at he
        exact he.2.1
      rw [← hn2] at hl2 hl3
      have hmk := fun w' => mark_num k 0 n w' (by omega) (by decide) hl3
      rw [← hl2] at hmk
      have HMC := Lib.hid hmk
      have hcv' := cell_after hb hcv
      have hlt' : (k : Int) < (rn : Int) := by omega
      replace ho := ho.below hb
      clear hv1 hl hkv hcv hl2 hn2 hmk
      go_upto_region 4 with fail
      refine wp_region_slots (by kernel_rfl) [10, 11, 12, 13, 14, 15, 16, 17, 18, 19, 20, 21, 22] (fun w' => (w'.cell? ⟨rb, ro + k, none⟩ = some (.slice a n c)) ∧ (Ow base w' (.slice a n c) l) ∧ (Below wr.heap.size wr w')) (Said [Is (.slice (some ⟨rb, ro, none⟩) rn rc), Is (.int .i64 (k : Int)), Is (.pointer (some ⟨rb, ro + k, none⟩)), Is (.slice a n c), Is (.int .i64 (k : Int)), Is (.slice (some ⟨rb, ro, none⟩) rn rc), Is (.int .i64 (k : Int)), Is (.pointer (some ⟨rb, ro + k, none⟩)), Is (.slice a n c), Is (.int .i64 (n : Int)), IsOwn l, Is (.bool true), Is (.bool false)]) (by kernel_rfl) (by kernel_rfl) (by kernel_rfl) (by kernel_rfl) (Said.keep ?keep) ⟨cell_after (bdn (Below.refl _ _) 1) hcv', ho.below (bdn (Below.refl _ _) 1), bdn (Below.refl _ _) 1⟩ (l := [0, 1, 2, 3, 4, 5, 6, 7, 8, 9, 10, 11, 12]) (by kernel_rfl) ?step ?fin
      case keep =>
        refine List.forall_mem_cons.2 ⟨Is.keeps _, ?_⟩
        refine List.forall_mem_cons.2 ⟨Is.keeps _, ?_⟩
        refine List.forall_mem_cons.2 ⟨Is.keeps _, ?_⟩
        refine List.forall_mem_cons.2 ⟨Is.keeps _, ?_⟩
        refine List.forall_mem_cons.2 ⟨Is.keeps _, ?_⟩
        refine List.forall_mem_cons.2 ⟨Is.keeps _, ?_⟩
        refine List.forall_mem_cons.2 ⟨Is.keeps _, ?_⟩
        refine List.forall_mem_cons.2 ⟨Is.keeps _, ?_⟩
        refine List.forall_mem_cons.2 ⟨Is.keeps _, ?_⟩
        refine List.forall_mem_cons.2 ⟨Is.keeps _, ?_⟩
        refine List.forall_mem_cons.2 ⟨IsOwn.keeps _, ?_⟩
        refine List.forall_mem_cons.2 ⟨Is.keeps _, ?_⟩
        refine List.forall_mem_cons.2 ⟨Is.keeps _, ?_⟩
        exact fun _ h => nomatch h
      case step =>
        refine List.forall_mem_cons.2 ⟨?_, ?_⟩
        · refine SlotStep.plain rfl rfl rfl ?_
          intro tm ws hsame hS hg K hK
          have e0 : tm[0]? = some (.slice (some ⟨rb, ro, none⟩) rn rc) := hsame.2 0 rfl
          go_simp
          exact hK _ _ (Below.refl _ _) hS rfl
        refine List.forall_mem_cons.2 ⟨?_, ?_⟩
        · refine SlotStep.plain rfl rfl rfl ?_
          intro tm ws hsame hS hg K hK
          have e3 : tm[3]? = some (.int .i64 (k : Int)) := hsame.2 3 rfl
          go_simp
          exact hK _ _ (Below.refl _ _) hS rfl
        refine List.forall_mem_cons.2 ⟨?_, ?_⟩
        · refine SlotStep.plain rfl rfl rfl ?_
          intro tm ws hsame hS hg K hK
          obtain ⟨v10, e10, rfl⟩ := hg 0 (by kernel_rfl) _ 10 rfl rfl
          obtain ⟨v11, e11, rfl⟩ := hg 1 (by kernel_rfl) _ 11 rfl rfl
          go_simp
          exact hK _ _ (Below.refl _ _) hS rfl
        refine List.forall_mem_cons.2 ⟨?_, ?_⟩
        · refine SlotStep.plain rfl rfl rfl ?_
          intro tm ws hsame hS hg K hK
          obtain ⟨v12, e12, rfl⟩ := hg 2 (by kernel_rfl) _ 12 rfl rfl
          have cc := hS.1
          go_simp
          exact hK _ _ (Below.refl _ _) hS rfl
        refine List.forall_mem_cons.2 ⟨?_, ?_⟩
        · refine SlotStep.plain rfl rfl rfl ?_
          intro tm ws hsame hS hg K hK
          have e3 : tm[3]? = some (.int .i64 (k : Int)) := hsame.2 3 rfl
          go_simp
          exact hK _ _ (Below.refl _ _) hS rfl
        refine List.forall_mem_cons.2 ⟨?_, ?_⟩
        · refine SlotStep.plain rfl rfl rfl ?_
          intro tm ws hsame hS hg K hK
          have e0 : tm[0]? = some (.slice (some ⟨rb, ro, none⟩) rn rc) := hsame.2 0 rfl
          go_simp
          exact hK _ _ (Below.refl _ _) hS rfl
        refine List.forall_mem_cons.2 ⟨?_, ?_⟩
        · refine SlotStep.plain rfl rfl rfl ?_
          intro tm ws hsame hS hg K hK
          have e3 : tm[3]? = some (.int .i64 (k : Int)) := hsame.2 3 rfl
          go_simp
          exact hK _ _ (Below.refl _ _) hS rfl
        refine List.forall_mem_cons.2 ⟨?_, ?_⟩
        · refine SlotStep.plain rfl rfl rfl ?_
          intro tm ws hsame hS hg K hK
          obtain ⟨v15, e15, rfl⟩ := hg 5 (by kernel_rfl) _ 15 rfl rfl
          obtain ⟨v16, e16, rfl⟩ := hg 6 (by kernel_rfl) _ 16 rfl rfl
          go_simp
          exact hK _ _ (Below.refl _ _) hS rfl
        refine List.forall_mem_cons.2 ⟨?_, ?_⟩
        · refine SlotStep.plain rfl rfl rfl ?_
          intro tm ws hsame hS hg K hK
          obtain ⟨v17, e17, rfl⟩ := hg 7 (by kernel_rfl) _ 17 rfl rfl
          have cc := hS.1
          go_simp
          exact hK _ _ (Below.refl _ _) hS rfl
        refine List.forall_mem_cons.2 ⟨?_, ?_⟩
        · refine SlotStep.plain rfl rfl rfl ?_
          intro tm ws hsame hS hg K hK
          obtain ⟨v18, e18, rfl⟩ := hg 8 (by kernel_rfl) _ 18 rfl rfl
          go_simp
          exact hK _ _ (Below.refl _ _) hS rfl
        refine List.forall_mem_cons.2 ⟨?_, ?_⟩
        · refine SlotStep.plain rfl rfl rfl ?_
          intro tm ws hsame hS hg K hK
          obtain ⟨v14, e14, rfl⟩ := hg 4 (by kernel_rfl) _ 14 rfl rfl
          obtain ⟨v19, e19, rfl⟩ := hg 9 (by kernel_rfl) _ 19 rfl rfl
          go_simp
          refine (HMC.out ws).mono ?_
          rintro e wm ⟨vO, rfl, hO, hb⟩
          obtain ⟨aO, nO, cO, rfl⟩ := hO.slice
          exact hK _ _ hb (⟨cell_after (hb) (hS.1), (hS.2.1).below (hb), (hS.2.2).trans (Below.mono (hb) (hS.2.2).size)⟩) ⟨aO, nO, cO, rfl, _, hO⟩
        refine List.forall_mem_cons.2 ⟨?_, ?_⟩
        · refine SlotStep.plain rfl rfl rfl ?_
          intro tm ws hsame hS hg K hK
          obtain ⟨v13, e13, rfl⟩ := hg 3 (by kernel_rfl) _ 13 rfl rfl
          obtain ⟨v20, e20, ⟨a20, n20, c20, rfl, g20⟩⟩ := hg 10 (by kernel_rfl) _ 20 rfl rfl
          obtain ⟨base2, g2⟩ := g20
          go_simp
          refine (same_ow hS.2.1 g2).mono ?_
          rintro e wm ⟨rfl, hb⟩
          exact hK _ _ hb (⟨cell_after (hb) (hS.1), (hS.2.1).below (hb), (hS.2.2).trans (Below.mono (hb) (hS.2.2).size)⟩) rfl
        refine List.forall_mem_cons.2 ⟨?_, ?_⟩
        · refine SlotStep.plain rfl rfl rfl ?_
          intro tm ws hsame hS hg K hK
          obtain ⟨v21, e21, rfl⟩ := hg 11 (by kernel_rfl) _ 21 rfl rfl
          go_simp
          exact hK _ _ (Below.refl _ _) hS rfl
        exact fun _ h => nomatch h
      case fin =>
        intro tm w8 hsame hS hgot
        obtain ⟨u, hu, htm⟩ := hsame.form (by kernel_rfl)
        obtain ⟨v22, e22, rfl⟩ := hgot 12 _ 22 rfl rfl
        have h22 := hu _ _ e22
        have hb8 := hS.2.2
        clear hgot hu hsame e22 hS
        rw [htm]
        clear htm tm
        simp only [List.foldl_cons, List.foldl_nil, List.setIfInBounds_toArray, List.set_cons_zero, List.set_cons_succ, h22]
        clear h22
        have hbb := hb.trans (hb8.mono hb.size)
        clear hb8 hb
        go_wp2_with fail
        go_roundw
        case rel => exact ⟨k + 1, by omega, by go_num, hbb⟩
        case measure => simp [intOf]; omega
    · obtain rfl : k = rn := by omega
      go_wp2_with fail
      go_ret
      exact ⟨rfl, hb⟩
end Go.Proofs.YthfcncapgfkkjaaGreatDoor

namespace Go.Proofs.YthfcncapgfkkjaaGreatDoor
open Go.RowKit

theorem OwU.only {base : Nat} {w w' : World} {v : Value} {vs : List Value} {b lo hi : Nat} (h : OwU base w v vs) (ho : Only b lo hi w w') (hne : v.ownBlock ≠ some b) : OwU base w' v vs := by
  refine ⟨h.1, ?_⟩
  rcases h.2 with h2 | ⟨g, cap, cur, rfl, hb, hh, r⟩
  · exact Or.inl h2
  · refine Or.inr ⟨g, cap, cur, rfl, hb, ?_, r⟩
    rw [ho.block g (Array.getElem?_eq_some_iff.1 hh).1 (fun e => hne (by simp [Value.ownBlock, e]))]
    exact hh
/-- One list's words are turned. -/
theorem KLists.set {w w' : World} {b lo hi base : Nat} {l' : List Int} (ho : Only b lo hi w w') : ∀ {vs : List Value} {ls : List (List Int)} {k : Nat} {v : Value}, KLists w vs ls → AllOff vs → vs[k]? = some v → v.ownBlock = some b → Ow base w' v l' → KLists w' vs (ls.set k l') := by
  intro vs ls k v h
  have away : ∀ {vs : List Value} {ls : List (List Int)}, KLists w vs ls → (∀ u ∈ vs, u.ownBlock ≠ some b) → KLists w' vs ls := by
    intro vs ls h
    induction h with
    | nil => intro _; exact .nil
    | cons hl _ ih =>
      intro hne
      obtain ⟨base, hl⟩ := hl
      exact .cons ⟨base, hl.only' ho (hne _ (List.mem_cons_self ..))⟩ (ih fun u hu => hne u (List.mem_cons_of_mem _ hu))
  induction h generalizing k with
  | nil => intro _ h; simp at h
  | cons hl hr ih =>
    intro ha hk hv hO
    cases k with
    | zero =>
      simp only [List.getElem?_cons_zero, Option.some.injEq] at hk
      subst hk
      refine .cons ⟨base, hO⟩ (away hr fun u hu => ?_)
      rcases ha.1 u hu with h | h
      · rw [hv] at h; cases h
      · rw [hv] at h; exact fun e => h e.symm
    | succ k =>
      rw [List.getElem?_cons_succ] at hk
      obtain ⟨base', hl⟩ := hl
      refine .cons ⟨base', hl.only' ho ?_⟩ (ih ha.2 hk hv hO)
      rcases ha.1 _ (List.mem_of_getElem? hk) with h | h
      · rw [h]; simp
      · rw [hv] at h; exact h
theorem book_only {w w' : World} {g b lo hi : Nat} {r s : Value} (h : BookAt w g r s) (ho : Only b lo hi w w') (hne : b ≠ g) : BookAt w' g r s :=
  (ho.block g (Array.getElem?_eq_some_iff.1 h).1 (fun e => hne e.symm)).trans h
theorem ow_book {base : Nat} {w : World} {b g n cap : Nat} {l : List Int} {r s : Value} (h : Ow base w (.slice (some ⟨b, 0, none⟩) n cap) l) (hB : BookAt w g r s) : b ≠ g := by
  rintro rfl
  rcases h.2 with ⟨h1, _⟩ | ⟨g', cap', cur, he, _, hg, _⟩
  · cases h1
  · simp only [Value.slice.injEq, Option.some.injEq, Addr.mk.injEq] at he
    obtain ⟨⟨rfl, -⟩, -⟩ := he
    unfold BookAt at hB
    rw [hB] at hg
    simp only [Option.some.injEq, Obj.cells.injEq] at hg
    exact absurd hg.2.1 (by decide)
theorem mix_length (m l : List Int) (j : Nat) (h : m.length = l.length) (hj : j ≤ l.length) : (m.take j ++ l.drop j).length = l.length := by
  rw [List.length_append, List.length_take, List.length_drop]; omega
theorem mix_set (m l : List Int) (j : Nat) (h : m.length = l.length) (hj : j < l.length) : (m.take j ++ l.drop j).set j (m.getD j 0) = m.take (j + 1) ++ l.drop (j + 1) := by
  apply List.ext_getElem?
  intro i
  rw [List.getElem?_set]
  by_cases hij : j = i
  · subst hij
    rw [if_pos rfl, if_pos (by rw [mix_length m l j h (by omega)]; exact hj), List.getElem?_append_left (by rw [List.length_take]; omega), List.getElem?_take, if_pos (by omega), List.getD_eq_getElem?_getD, List.getElem?_eq_getElem (by omega)]
    rfl
  · rw [if_neg hij]
    rcases Nat.lt_or_ge i j with h1 | h1
    · rw [List.getElem?_append_left (by rw [List.length_take]; omega), List.getElem?_append_left (by rw [List.length_take]; omega), List.getElem?_take, List.getElem?_take, if_pos h1, if_pos (by omega)]
    · rw [List.getElem?_append_right (by rw [List.length_take]; omega), List.getElem?_append_right (by rw [List.length_take]; omega), List.length_take, List.length_take, List.getElem?_drop, List.getElem?_drop]
      congr 1; omega
end Go.Proofs.YthfcncapgfkkjaaGreatDoor

namespace Go.Proofs.YthfcncapgfkkjaaGreatDoor
open Go.RowKit

theorem set_same {ls : List (List Int)} {k : Nat} {l : List Int} (h : ls[k]? = some l) : ls.set k l = ls := by
  apply List.ext_getElem?
  intro i
  rw [List.getElem?_set]
  by_cases hij : k = i
  · subst hij
    rw [if_pos rfl, if_pos (List.getElem?_eq_some_iff.1 h).1, h]
  · rw [if_neg hij]
/-- The first k lists are marked. -/
def Half (ls ls' : List (List Int)) (k : Nat) : Prop := ∀ (i : Nat) (l : List Int), ls[i]? = some l → ls'[i]? = some (if i < k then marks i 0 l.length else l)
theorem Half.step {ls ls' : List (List Int)} {k : Nat} (h : Half ls ls' k) {l : List Int} (hl : ls[k]? = some l) : Half ls (ls'.set k (marks k 0 l.length)) (k + 1) := by
  intro i m hm
  have h1 := h i m hm
  rw [List.getElem?_set]
  by_cases hik : k = i
  · subst hik
    rw [hl] at hm
    obtain rfl := Option.some.inj hm
    rw [if_pos rfl, if_pos (List.getElem?_eq_some_iff.1 h1).1, if_pos (by omega)]
  · rw [if_neg hik, h1]
    by_cases h2 : i < k
    · rw [if_pos h2, if_pos (by omega)]
    · rw [if_neg h2, if_neg (by omega)]
set_option maxRecDepth 100000 in
set_option maxHeartbeats 2000000 in
theorem put_num {w : World} {g b1 B : Nat} {ra sa : Option Addr} {rn rc sn sc : Nat} {vs : List Value} {ls : List (List Int)} (hB : BookAt w g (.slice ra rn rc) (.slice sa sn sc)) (hr : OwU b1 w (.slice ra rn rc) vs) (hv : KLists w vs ls) (ha : AllOff vs) (hn : rn = vs.length) (hM : rn ≤ 300) (hlen : ∀ (i : Nat) (l : List Int), ls[i]? = some l → l.length ≤ 100000) (hBv : ∀ v ∈ vs, ∀ b, v.ownBlock = some b → B ≤ b) (hBw : B ≤ w.heap.size) :
    Calls Tryz.prog 50 #[.pointer (some ⟨g, 0, none⟩)] w fun e w' => e = .returned (.tuple #[]) ∧ BookAt w' g (.slice ra rn rc) (.slice sa sn sc) ∧ OwU b1 w' (.slice ra rn rc) vs ∧ (∃ ls', KLists w' vs ls' ∧ Half ls ls' rn) ∧ Below B w w' := by
  have HN := Lib.hid hn
  have HLN := Lib.hid hlen
  have HBV := Lib.hid hBv
  have HA := Lib.hid ha
  have hl1 := hv.length
  have HL1 := Lib.hid hl1
  clear hn hlen hBv ha hl1
  go_enter Tryz.func50, Tryz.ntmps50
  go_wp2_with fail
  go_loopw [2, 3, 4] (fun ii _mm _kk wr => ∃ (k : Nat) (ls' : List (List Int)), k ≤ rn ∧ ii = .int .i64 k ∧ BookAt wr g (.slice ra rn rc) (.slice sa sn sc) ∧ OwU b1 wr (.slice ra rn rc) vs ∧ Hid (KLists wr vs ls') ∧ Hid (Half ls ls' k) ∧ Below B w wr) (fun ii _ _ _ => rn - (intOf ii).toNat)
  case atStart => exact ⟨0, ls, Nat.zero_le _, rfl, hB, hr, Lib.hid hv, Lib.hid (fun i l h => by rw [if_neg (by omega)]; exact h), Below.refl _ _⟩
  case round =>
    obtain ⟨k, ls', hk, rfl, hBr, hrr, HK, HH, hb⟩ := hrel
    have c2 := cell_of_row wr g 2 _ _ _ hBr
    by_cases hlt : k < rn
    · have hkv : k < vs.length := by rw [← HN.out]; exact hlt
      obtain ⟨-, hrc1, hrc2, rb, ro, v, rfl, hv1, hcv⟩ := hrr.at hkv
      obtain ⟨l0, hl0⟩ : ∃ l0, ls[k]? = some l0 := ⟨_, List.getElem?_eq_getElem (by rw [← HL1.out]; exact hkv)⟩
      have hl0' := HH.out k l0 hl0
      rw [if_neg (by omega)] at hl0'
      obtain ⟨a, n, c, l, base, rfl, hl, ho⟩ := HK.out.slice hv1
      obtain rfl : l0 = l := by rw [hl] at hl0'; exact (Option.some.inj hl0').symm
      have hn2 : n = l0.length := by
        obtain ⟨a', c', he, -⟩ := ho.form
        simp only [Value.slice.injEq] at he
        exact he.2.1
      have hl3 := HLN.out k l0 hl0
      rw [← hn2] at hl3
      have hmk := mark_num k 0 n wr (by omega) (by decide) hl3
      have HMC := Lib.hid hmk
      have hlt' : (k : Int) < (rn : Int) := by omega
      have HN2 := Lib.hid hn2
      have HL0 := Lib.hid hl0
      have HL := Lib.hid hl
      have HV1 := Lib.hid hv1
      have HO := Lib.hid ho
      clear hl0 hl0' hl hn2 hmk ho hv1 hkv
      go_wp2_with fail
      refine HMC.out.mono ?_
      rintro e w1 ⟨mv, rfl, hOm, hb1⟩
      obtain ⟨ma, mn, mc, rfl⟩ := hOm.slice
      have hmn : mn = n := by
        obtain ⟨a', c', he, -⟩ := hOm.form
        simp only [Value.slice.injEq] at he
        rw [he.2.1, marks_length]
      subst hmn
      have HOFF : Hid (∀ b, (Value.slice a mn c).ownBlock = some b → (Value.slice ma mn mc).ownBlock ≠ some b) := Lib.hid (by
        intro b h1 h2
        have h3 := (ow_ltb HO.out b h1).2
        have h4 := (ow_ltb hOm b h2).1
        omega)
      have hB1 : BookAt w1 g (.slice (some ⟨rb, ro, none⟩) rn rc) (.slice sa sn sc) := slot_kept hBr hb1
      have hr1 := hrr.below hb1
      have hbw1 : Below B w w1 := hb.trans (hb1.mono (by have := hb.size; omega))
      have HK1 := Lib.hid (HK.out.under hb1)
      obtain ⟨z0, hz0⟩ : ∃ z0, wr.heap.size = z0 := ⟨_, rfl⟩
      rw [hz0] at hOm
      clear hz0
      clear hb1 hBr hrr c2 hcv
      go_wp2_with fail
      go_loopw [4] (fun jj wi => ∃ j : Nat, j ≤ mn ∧ jj = .int .i64 j ∧ BookAt wi g (.slice (some ⟨rb, ro, none⟩) rn rc) (.slice sa sn sc) ∧ OwU b1 wi (.slice (some ⟨rb, ro, none⟩) rn rc) vs ∧ Hid (KLists wi vs (ls'.set k ((marks k 0 mn).take j ++ l0.drop j))) ∧ Ow z0 wi (.slice ma mn mc) (marks k 0 mn) ∧ Below B w wi) (fun jj _ => mn - (intOf jj).toNat)
      case atStart => exact ⟨0, Nat.zero_le _, rfl, hB1, hr1, Lib.hid (by rw [List.take_zero, List.nil_append, List.drop_zero, set_same HL.out]; exact HK1.out), hOm, hbw1⟩
      case round =>
        obtain ⟨j, hj, rfl, hBi, hri, HKI, hOi, hbi⟩ := hrel
        clear hB1 hr1 hOm hbw1 HK1
        have c2 := cell_of_row wr g 2 _ _ _ hBi
        by_cases hjn : j < mn
        · obtain ⟨x, hx⟩ : ∃ x, (marks k 0 mn).getD j 0 = x := ⟨_, rfl⟩
          have HX := Lib.hid hx
          have hml := marks_length k 0 mn
          obtain ⟨a', n', c', l1, base1, he1, hl1, ho1⟩ := HKI.out.slice HV1.out
          simp only [Value.slice.injEq] at he1
          obtain ⟨rfl, rfl, rfl⟩ := he1
          have hl2 : (ls'.set k ((marks k 0 mn).take j ++ l0.drop j))[k]? = some ((marks k 0 mn).take j ++ l0.drop j) := by
            rw [List.getElem?_set, if_pos rfl, if_pos (List.getElem?_eq_some_iff.1 HL.out).1]
          rw [hl2] at hl1
          obtain rfl := Option.some.inj hl1
          obtain ⟨b, rfl⟩ : ∃ b, a = some ⟨b, 0, none⟩ := by
            rcases ho1.2 with ⟨h1, h2⟩ | ⟨b, cap, cur, h1, _⟩
            · simp only [Value.slice.injEq] at h1
              omega
            · simp only [Value.slice.injEq] at h1
              exact ⟨b, h1.1⟩
          obtain ⟨harr, hbase, -⟩ := ho1.arr
          obtain ⟨mb, hmb⟩ : ∃ mb, ma = some ⟨mb, 0, none⟩ := by
            rcases hOi.2 with ⟨h1, h2⟩ | ⟨b, cap, cur, h1, _⟩
            · simp only [Value.slice.injEq] at h1
              omega
            · simp only [Value.slice.injEq] at h1
              exact ⟨b, h1.1⟩
          subst hmb
          obtain ⟨marr, -, -⟩ := hOi.arr
          have hmc := marr.at' j (by rw [hml]; exact hjn)
          rw [Nat.zero_add, hx] at hmc
          have htc := harr.at' j (by rw [mix_length _ _ _ (by rw [hml]; exact HN2.out) (by rw [← HN2.out]; exact hj), ← HN2.out]; exact hjn)
          rw [Nat.zero_add] at htc
          have hfr := harr.frozen j
          obtain ⟨-, hrc1', hrc2', rb', ro', v', he2, hv2, hcv2⟩ := hri.at (k := k) (by rw [← HN.out]; exact hlt)
          simp only [Option.some.injEq, Addr.mk.injEq, and_true] at he2
          obtain ⟨rfl, rfl⟩ := he2
          rw [HV1.out] at hv2
          obtain rfl := (Option.some.inj hv2).symm
          have hjI : (j : Int) < (mn : Int) := by omega
          have hnc : mn ≤ c ∧ c ≤ 9223372036854775807 := by
            obtain ⟨_, _, he, h5, h6, -⟩ := ho1.form
            simp only [Value.slice.injEq] at he
            obtain ⟨-, e2, rfl⟩ := he
            omega
          have hmnc : mn ≤ mc ∧ mc ≤ 9223372036854775807 := by
            obtain ⟨_, _, he, h5, h6, -⟩ := hOi.form
            simp only [Value.slice.injEq] at he
            obtain ⟨-, e2, rfl⟩ := he
            omega
          obtain ⟨hnc1, hnc2⟩ := hnc
          obtain ⟨hmnc1, hmnc2⟩ := hmnc
          have HS : Hid (BookAt (wr.setCell ⟨b, j, none⟩ (.int .u64 x)) g (.slice (some ⟨rb, ro, none⟩) rn rc) (.slice sa sn sc) ∧ OwU b1 (wr.setCell ⟨b, j, none⟩ (.int .u64 x)) (.slice (some ⟨rb, ro, none⟩) rn rc) vs ∧ KLists (wr.setCell ⟨b, j, none⟩ (.int .u64 x)) vs (ls'.set k ((marks k 0 mn).take (j + 1) ++ l0.drop (j + 1))) ∧ Ow z0 (wr.setCell ⟨b, j, none⟩ (.int .u64 x)) (.slice (some ⟨mb, 0, none⟩) mn mc) (marks k 0 mn) ∧ Below B w (wr.setCell ⟨b, j, none⟩ (.int .u64 x))) := Lib.hid (by
            have hon : Only b 0 mn wr (wr.setCell ⟨b, j, none⟩ (.int .u64 x)) := Only.store j _ (Nat.zero_le _) hjn
            have hst := harr.store j x
            rw [Nat.zero_add, ← hx, mix_set _ _ _ (by rw [hml]; exact HN2.out) (by rw [← HN2.out]; exact hjn), hx] at hst
            have hO2 := ho1.only hon hst (by rw [mix_length _ _ _ (by rw [hml]; exact HN2.out) (by rw [← HN2.out]; exact hjn), mix_length _ _ _ (by rw [hml]; exact HN2.out) (by rw [← HN2.out]; exact hj)])
            have hB2 := HBV.out _ (List.mem_of_getElem? HV1.out) b rfl
            have hne := ow_book ho1 hBi
            refine ⟨book_only hBi hon hne, hri.only hon ?_, ?_, hOi.only' hon (HOFF.out b rfl), hbi.trans (hon.below hB2 (by have := hbi.size; omega))⟩
            · rcases ow_off ho1 hri with h | h
              · cases h
              · exact fun e => h e.symm
            · have := KLists.set hon HKI.out HA.out HV1.out rfl hO2
              rwa [List.set_set] at this)
          clear harr marr hbase hl2 hl1 ho1 hv2 hx hml HX
          go_upto_region 7 with fail
          go_region
          obtain ⟨hB2, hr2, hk2, hO2, hb2⟩ := HS.out
          have HK2 := Lib.hid (hk2.under (Below.refl _ _).drew)
          clear HS hk2 hBi hri HKI hOi hbi
          go_wp2_with fail
          go_roundw
          case rel => exact ⟨j + 1, by omega, by go_num, hB2, hr2, HK2, hO2, hb2.drew⟩
          case measure => simp [intOf]; omega
        · obtain rfl : j = mn := by omega
          have hfull : Hid (KLists wr vs (ls'.set k (marks k 0 j))) := Lib.hid (by
            have := HKI.out
            rwa [List.take_of_length_le (by rw [marks_length]; exact Nat.le_refl _), List.drop_of_length_le (by rw [← HN2.out]; exact Nat.le_refl _), List.append_nil] at this)
          have hhalf : Hid (Half ls (ls'.set k (marks k 0 j)) (k + 1)) := Lib.hid (by
            have := HH.out.step HL0.out
            rwa [← HN2.out] at this)
          clear HKI
          go_wp2_with fail
          go_roundw
          case rel => exact ⟨k + 1, _, by omega, by go_num, hBi, hri, hfull, hhalf, hbi⟩
          case measure => simp [intOf]; omega
    · obtain rfl : k = rn := by omega
      go_wp2_with fail
      go_end0
      exact ⟨rfl, hBr, hrr, ⟨ls', HK.out, HH.out⟩, hb⟩
end Go.Proofs.YthfcncapgfkkjaaGreatDoor

namespace Go.Proofs.YthfcncapgfkkjaaGreatDoor
open Go.RowKit

theorem row_prefix {w : World} {base g n m cap size : Nat} {e : TypeId} {xs news : List Value} (hx : xs.length = n * size) (h : w.ownsRow base e size (.slice (some ⟨g, 0, none⟩) (n + m) cap) (n + m) (xs ++ news)) : w.ownsRow base e size (.slice (some ⟨g, 0, none⟩) n cap) n xs := by
  refine ⟨hx, ?_⟩
  rcases h.2 with ⟨h1, _⟩ | ⟨g', cap', cur, he, hb, hg, h1, h2, h3, h4⟩
  · cases h1
  · simp only [Value.slice.injEq, Option.some.injEq, Addr.mk.injEq] at he
    obtain ⟨⟨rfl, -⟩, -, rfl⟩ := he
    refine Or.inr ⟨g, cap, cur, rfl, hb, hg, by omega, h2, h3, ?_⟩
    have h5 := congrArg (List.take (n * size)) h4
    rw [List.take_take, Nat.min_eq_left (Nat.mul_le_mul_right _ (by omega)), ← hx, List.take_left] at h5
    rw [← hx]
    exact h5
theorem run_keep {P : Program} (w : World) (base : Nat) (t ty e : TypeId) (i : TypeInfo) (z : Value) (size bytes : Nat) (ht : P.underlying t = some (.slice e)) (hi : P.info? e = some i) (hz : i.zero = some z)
    (hsize : i.size = size) (hby : i.bytes = bytes) (hzs : z.cells.size = size) (hsz : 0 < size)
    (v : Value) (n : Nat) (xs : List Value) (hown : w.ownsRow base e size v n xs)
    (a : Addr) (m c : Nat) (news : List Value) (hl : news.length = m * size) (hnews : ∀ j u, news[j]? = some u → w.cell? (a.add j) = some u) (h1 : ∀ u ∈ news, u.oneCell' = true)
    (h63 : n + m ≤ maxLen) (hbytes : (n + m) * bytes ≤ 140737488355328) (hbase : base ≤ w.heap.size) :
    ∃ v' w', (Builtin.append_ #[t, t] ty #[v, .slice (some a) m c]).run P w = .ok v' w' ∧ w'.ownsRow base e size v' (n + m) (xs ++ news) ∧ w.grownBy w' v.ownBlock ∧ (v'.ownBlock = v.ownBlock ∨ v'.ownBlock = some w.heap.size) ∧ w'.ownsRow base e size v n xs := by
  obtain ⟨v', w', hr, h2, h3, h4, h5⟩ := run_append_own_at (P := P) w base t ty e i z size bytes ht hi hz hsize hby hzs hsz v n xs hown a m c news hl hnews h1 h63 hbytes hbase
  refine ⟨v', w', hr, h2, h3, h5, ?_⟩
  rcases hown.2 with ⟨rfl, rfl⟩ | ⟨g, cap, cur, rfl, hbg, hg, hnc, hcm, hcs, htake⟩
  · have hx : xs = [] := List.eq_nil_of_length_eq_zero (by simpa using hown.1)
    subst hx
    exact World.ownsRow_nil _ _ _ _
  · by_cases hroom : n + m ≤ cap
    · have hfit : n * i.size + news.length ≤ cur.size := by rw [hl, hcs, hsize, ← Nat.add_mul]; exact Nat.mul_le_mul_right _ hroom
      have hr2 := run_append_room (P := P) w t ty e i ht hi g n cap cur hg a m c news (by rw [hl, hsize]) hnews h1 hroom hfit
      rw [hr] at hr2
      simp only [Result.ok.injEq] at hr2
      obtain ⟨rfl, rfl⟩ := hr2
      exact row_prefix hown.1 h2
    · have holds : ∀ j u, xs[j]? = some u → w.cell? ((⟨g, 0, none⟩ : Addr).add j) = some u := hown.cells (g := g) rfl
      have hr2 := run_append_grow (P := P) w t ty e i z ht hi hz ⟨g, 0, none⟩ n cap xs (by rw [hown.1, hsize]) holds a m c news (by rw [hl, hsize]) hnews (by omega) (by simp only [maxLen] at h63; omega) (growslice_fits (by omega) (by rw [hby]; exact hbytes))
      rw [hr] at hr2
      simp only [Result.ok.injEq] at hr2
      obtain ⟨rfl, rfl⟩ := hr2
      exact World.ownsRow.alloc (w := w.drew) hown _
/-- append(out, words ..): the new row, and the old one as it was. -/
theorem wpList_append_keep {P : Program} (w : World) {ops : Array Oper} {rest : List Oper} {o : Oper} {a : Act} {Q : Exit → Act → World → Prop} (hgd : o.guard = none) (s x : Operand) (t : TypeId)
    (ho : o.op = .call { callee := .builtin .append, args := #[s, x], argTypes := #[t, t] }) (ht : P.underlying t = some (.slice 53)) (hi : (P.info? 53).map (fun i => (i.zero, i.size, i.bytes)) = some (some (.int .u64 0), 1, 8))
    (base : Nat) (v : Value) (l : List Int) (hs : a.eval s = v) (hown : Ow base w v l)
    (ad : Addr) (m c : Nat) (lm : List Int) (hx : a.eval x = .slice (some ad) m c) (hm : lm.length = m) (hnews : ∀ j, j < lm.length → w.cell? (ad.add j) = some (.int .u64 (lm.getD j 0)))
    (hM : l.length + m ≤ MaxW) (hbase : base ≤ w.heap.size)
    (hK : ∀ v' w', Ow base w' v' (l ++ lm) → w.grownBy w' v.ownBlock → (v'.ownBlock = v.ownBlock ∨ v'.ownBlock = some w.heap.size) → Ow base w' v l → wpList P ops Q rest (a.put o.dst v') w') : wpList P ops Q (o :: rest) a w := by
  obtain ⟨i, h2, h3, h4, h5⟩ := info_parts hi
  unfold MaxW at hM
  refine wpList_plain hgd fun K hK' => ?_
  obtain ⟨v', w', hr, g2, g3, g4, g5⟩ := run_keep (P := P) w base t o.type 53 i (.int .u64 0) 1 8 ht h2 h3 h4 h5 rfl (by decide) v l.length (vals l) hown ad m c (vals lm) (by rw [length_vals, hm, Nat.mul_one]) (fun j u hu => by
    have hj : j < lm.length := by have := (List.getElem?_eq_some_iff.1 hu).1; simpa [length_vals] using this
    rw [vals_get lm j hj] at hu
    cases hu
    exact hnews j hj) (oneCell_vals _) (by unfold maxLen; omega) (by omega) hbase
  unfold Oper.wp execOp
  simp only [ho, resolve, invoke, builtin, Sem.run_bind, Sem.run_pure, Result.andThen_ok, List.map_toArray, List.map_cons, List.map_nil, hs, hx, hr]
  refine hK' _ _ (hK v' w' ?_ g3 g4 g5)
  unfold Ow
  rw [List.length_append, hm, ← vals_append]
  exact g2
end Go.Proofs.YthfcncapgfkkjaaGreatDoor

namespace Go.Proofs.YthfcncapgfkkjaaGreatDoor
open Go.RowKit

theorem KLists.of_get {w : World} : ∀ {vs : List Value} {ls : List (List Int)}, vs.length = ls.length → (∀ (i : Nat) (v : Value) (l : List Int), vs[i]? = some v → ls[i]? = some l → ∃ base, Ow base w v l) → KLists w vs ls := by
  intro vs
  induction vs with
  | nil =>
    intro ls hl _
    cases ls with
    | nil => exact .nil
    | cons l ls => simp at hl
  | cons v vs ih =>
    intro ls hl h
    cases ls with
    | nil => simp at hl
    | cons l ls => exact .cons (h 0 v l rfl rfl) (ih (by simpa using hl) fun i v' l' h1 h2 => h (i + 1) v' l' (by rw [List.getElem?_cons_succ]; exact h1) (by rw [List.getElem?_cons_succ]; exact h2))
theorem newsv (w : World) (a : Value) (t : TypeId) : ∀ j u, [a][j]? = some u → (w.alloc (.cells #[a] t)).cell? ((⟨w.heap.size, 0, none⟩ : Addr).add j) = some u := by
  intro j u hj
  rw [addr_add_none, Nat.zero_add, World.cell?_alloc_new]
  match j, hj with
  | 0, h => exact h
theorem KLists.get2 {w : World} {vs : List Value} {ls : List (List Int)} (h : KLists w vs ls) {i : Nat} {v : Value} {l : List Int} (hv : vs[i]? = some v) (hl : ls[i]? = some l) : ∃ base, Ow base w v l := by
  obtain ⟨l', base, h1, h2⟩ := h.get hv
  rw [hl] at h1
  obtain rfl := Option.some.inj h1
  exact ⟨base, h2⟩
theorem Ow.base0 {base : Nat} {w : World} {v : Value} {l : List Int} (h : Ow base w v l) : Ow 0 w v l := by
  refine ⟨h.1, ?_⟩
  rcases h.2 with h2 | ⟨g, cap, cur, h1, _, h3⟩
  · exact Or.inl h2
  · exact Or.inr ⟨g, cap, cur, h1, Nat.zero_le _, h3⟩
theorem AllOff.get {vs : List Value} (h : AllOff vs) : ∀ {i j : Nat} {u v : Value}, vs[i]? = some u → vs[j]? = some v → i ≠ j → u.ownBlock = none ∨ u.ownBlock ≠ v.ownBlock := by
  induction vs with
  | nil => intro i j u v hi; simp at hi
  | cons x vs ih =>
    intro i j u v hi hj hij
    cases i with
    | zero =>
      cases j with
      | zero => exact absurd rfl hij
      | succ j =>
        simp only [List.getElem?_cons_zero, Option.some.injEq] at hi
        rw [List.getElem?_cons_succ] at hj
        subst hi
        exact h.1 v (List.mem_of_getElem? hj)
    | succ i =>
      rw [List.getElem?_cons_succ] at hi
      cases j with
      | zero =>
        simp only [List.getElem?_cons_zero, Option.some.injEq] at hj
        subst hj
        rcases h.1 u (List.mem_of_getElem? hi) with h1 | h1
        · cases hu : u.ownBlock with
          | none => exact Or.inl rfl
          | some b => right; rw [h1]; simp
        · exact Or.inr fun e => h1 e.symm
      | succ j =>
        rw [List.getElem?_cons_succ] at hj
        exact ih h.2 hi hj (by omega)
theorem book_grown {w w' : World} {g : Nat} {r s : Value} {row : Option Nat} (h : BookAt w g r s) (hg : w.grownBy w' row) (hne : row ≠ some g) : BookAt w' g r s :=
  (hg.block g (Array.getElem?_eq_some_iff.1 h).1 (fun e => hne e.symm)).trans h
theorem ow_bookb {base : Nat} {w : World} {g : Nat} {v : Value} {l : List Int} {r s : Value} (h : Ow base w v l) (hB : BookAt w g r s) : v.ownBlock ≠ some g := by
  rcases h.2 with ⟨rfl, _⟩ | ⟨g', cap', cur, rfl, _, hg, _⟩
  · simp [Value.ownBlock]
  · intro e
    simp only [Value.ownBlock, Option.some.injEq] at e
    subst e
    unfold BookAt at hB
    rw [hB] at hg
    simp only [Option.some.injEq, Obj.cells.injEq] at hg
    exact absurd hg.2.1 (by decide)
theorem owu_bookb {base : Nat} {w : World} {g : Nat} {v : Value} {us : List Value} {r s : Value} (h : OwU base w v us) (hB : BookAt w g r s) : v.ownBlock ≠ some g := by
  rcases h.2 with ⟨rfl, _⟩ | ⟨g', cap', cur, rfl, _, hg, _⟩
  · simp [Value.ownBlock]
  · intro e
    simp only [Value.ownBlock, Option.some.injEq] at e
    subst e
    unfold BookAt at hB
    rw [hB] at hg
    simp only [Option.some.injEq, Obj.cells.injEq] at hg
    exact absurd hg.2.1 (by decide)
theorem below_grown {B : Nat} {w0 w w' : World} {row : Option Nat} (h : Below B w0 w) (hg : w.grownBy w' row) (hB : B ≤ w.heap.size) (hrow : ∀ b, row = some b → B ≤ b) : Below B w0 w' :=
  ⟨hg.os.trans h.os, hg.tape.trans h.tape, hg.output.trans h.output, Nat.le_trans h.size hg.size, fun k hk => (hg.block k (by omega) (fun e => by have := hrow k e.symm; omega)).trans (h.block k hk)⟩
/-- Two rows that lie in one block have one capacity. -/
theorem same_cap {b b' : Nat} {w : World} {v : Value} {l l' : List Int} {a : Option Addr} {n c : Nat} (h : Ow b w (.slice a n c) l) (k : Ow b' w v l') (hl : l' ≠ []) (he : v.ownBlock = (Value.slice a n c).ownBlock) : v = .slice a l'.length c := by
  rcases k.2 with ⟨rfl, h0⟩ | ⟨g, cap, cur, rfl, _, hg, _, _, hc, _⟩
  · exact absurd (List.eq_nil_of_length_eq_zero h0) hl
  · rcases h.2 with ⟨h1, _⟩ | ⟨g', cap', cur', h1, _, hg', _, _, hc', _⟩
    · rw [h1] at he
      simp [Value.ownBlock] at he
    · rw [h1] at he
      simp only [Value.ownBlock, Option.some.injEq] at he
      subst he
      rw [hg] at hg'
      simp only [Option.some.injEq, Obj.cells.injEq] at hg'
      obtain ⟨rfl, -⟩ := hg'
      simp only [Value.slice.injEq] at h1
      obtain ⟨rfl, -, rfl⟩ := h1
      simp only [Value.slice.injEq, true_and]
      omega
theorem vals_marks (k n m : Nat) : vals (marks k 0 (n + m)) = vals (marks k 0 n) ++ vals (marks k n m) := by
  rw [vals_append, marks_append]
/-- The beginning of a list's row is a list, too. -/
theorem ow_front {base : Nat} {w : World} {a : Option Addr} {k n m c : Nat} (h : Ow base w (.slice a (n + m) c) (marks k 0 (n + m))) : Ow base w (.slice a n c) (marks k 0 n) := by
  have h' := h
  unfold Ow at h'
  rw [marks_length, vals_marks] at h'
  rcases h.2 with ⟨h1, _⟩ | ⟨g, cap, cur, h1, _⟩
  · simp only [Value.slice.injEq] at h1
    obtain ⟨rfl, h2, rfl⟩ := h1
    obtain rfl : n = 0 := by omega
    exact Ow.nil _ _
  · simp only [Value.slice.injEq] at h1
    obtain ⟨rfl, -, rfl⟩ := h1
    have := row_prefix (by rw [length_vals, marks_length, Nat.mul_one]) h'
    unfold Ow
    rw [marks_length]
    exact this

/-- What stands while the lists are grown. -/
structure GS (w : World) (g : Nat) (r : Value) (B : Nat) (vs : List Value) (ls : List (List Int)) : Prop where
  hB : B ≤ w.heap.size
  off : AllOff vs
  blk : ∀ v ∈ vs, ∀ b, v.ownBlock = some b → B ≤ b ∧ b < w.heap.size
  rlt : ∀ b, r.ownBlock = some b → b < w.heap.size
  mks : ∀ (i : Nat) (l : List Int), ls[i]? = some l → l = marks i 0 l.length ∧ l.length ≤ 90000
/-- Before the k-th round. -/
structure GO (w : World) (g : Nat) (r s : Value) (b1 B : Nat) (vs : List Value) (ls : List (List Int)) (k : Nat) (wr : World) (out : Value) (us : List Value) (ls' : List (List Int)) : Prop where
  len : us.length = k
  mks : ∀ (i : Nat) (l : List Int), i < k → ls[i]? = some l → ls'[i]? = some (marks i 0 (l.length + 72))
  kept : KLists wr vs ls
  put : KLists wr us ls'
  row : OwU w.heap.size wr out us
  book : BookAt wr g r s
  rows : OwU b1 wr r vs
  below : Below B w wr
  al : ∀ (i : Nat) u v, us[i]? = some u → vs[i]? = some v → u.ownBlock = v.ownBlock ∨ ∃ b, u.ownBlock = some b ∧ w.heap.size ≤ b
/-- Within the k-th round: the list in hand has p marks. -/
structure GI (w : World) (g : Nat) (r s : Value) (b1 B : Nat) (vs : List Value) (ls : List (List Int)) (k : Nat) (out : Value) (us : List Value) (ls' : List (List Int)) (z : Nat) (vk : Value) (n : Nat) (wi : World) (lv : Value) (p : Nat) : Prop where
  own : Ow 0 wi lv (marks k 0 p)
  alias : (n ≤ p ∧ ∃ a c, vk = .slice a n c ∧ lv = .slice a p c) ∨ (∃ b, lv.ownBlock = some b ∧ z ≤ b)
  kept : KLists wi vs ls
  put : KLists wi us ls'
  row : OwU w.heap.size wi out us
  book : BookAt wi g r s
  rows : OwU b1 wi r vs
  below : Below B w wi
  size : z ≤ wi.heap.size

section
variable {w : World} {g : Nat} {r s : Value} {b1 B : Nat} {vs : List Value} {ls : List (List Int)} {k : Nat} {wr : World} {out : Value} {us : List Value} {ls' : List (List Int)} {z : Nat} {vk : Value} {n : Nat} {wi : World} {lv : Value} {p : Nat}

theorem GO.start (h : GO w g r s b1 B vs ls k wr out us ls') (hv : vs[k]? = some vk) (hl : ls[k]? = some (marks k 0 n)) : GI w g r s b1 B vs ls k out us ls' wr.heap.size vk n wr vk n := by
  obtain ⟨base, ho⟩ := h.kept.get2 hv hl
  obtain ⟨a, c, rfl, -⟩ := ho.form
  rw [marks_length]
  rw [marks_length] at ho
  exact ⟨ho.base0, Or.inl ⟨Nat.le_refl _, a, c, rfl, rfl⟩, h.kept, h.put, h.row, h.book, h.rows, h.below, Nat.le_refl _⟩
theorem GI.under (hz : w.heap.size ≤ z) (hS : GS w g r B vs ls) (h : GI w g r s b1 B vs ls k out us ls' z vk n wi lv p) {w1 : World} (hb : Below wi.heap.size wi w1) : GI w g r s b1 B vs ls k out us ls' z vk n w1 lv p :=
  ⟨h.own.below hb, h.alias, h.kept.under hb, h.put.under hb, h.row.below hb, slot_kept h.book hb, h.rows.below hb, h.below.trans (hb.mono (by have := hS.hB; have := h.size; omega)), Nat.le_trans h.size hb.size⟩
/-- The block of the list in hand is none of the others'. -/
theorem GI.away (hz : w.heap.size ≤ z) (hS : GS w g r B vs ls) (h : GI w g r s b1 B vs ls k out us ls' z vk n wi lv p) (hv : vs[k]? = some vk) {i : Nat} {v : Value} (hi : vs[i]? = some v) (hik : i ≠ k) : v.ownBlock = none ∨ v.ownBlock ≠ lv.ownBlock := by
  rcases h.alias with ⟨-, a, c, h1, h2⟩ | ⟨b, h1, h2⟩
  · have h3 := hS.off.get hi hv hik
    have e : vk.ownBlock = lv.ownBlock := by rw [h1, h2]; cases a <;> rfl
    rw [e] at h3
    exact h3
  · right
    rw [h1]
    intro e
    have := (hS.blk v (List.mem_of_getElem? hi) b e).2
    omega
theorem GI.append (hz : w.heap.size ≤ z) (hS : GS w g r B vs ls) (h : GI w g r s b1 B vs ls k out us ls' z vk n wi lv p) (hv : vs[k]? = some vk) (hl : ls[k]? = some (marks k 0 n)) (hlen : us.length = k)
    (hal : ∀ (i : Nat) u v, us[i]? = some u → vs[i]? = some v → u.ownBlock = v.ownBlock ∨ ∃ b, u.ownBlock = some b ∧ w.heap.size ≤ b) (hus : ∀ u ∈ us, ∀ b, u.ownBlock = some b → b < z)
    {w2 : World} {v' : Value} {m : Nat} (hm : 0 < m) (hg : wi.grownBy w2 lv.ownBlock) (hat : v'.ownBlock = lv.ownBlock ∨ v'.ownBlock = some wi.heap.size) (ho : Ow 0 w2 v' (marks k 0 (p + m))) (hk : Ow 0 w2 lv (marks k 0 p)) : GI w g r s b1 B vs ls k out us ls' z vk n w2 v' (p + m) := by
  have hne : marks k 0 (p + m) ≠ [] := by
    intro e
    have := congrArg List.length e
    rw [marks_length] at this
    simp at this
    omega
  have hB := hS.hB
  have hsz := h.size
  have hvkb : ∀ b, vk.ownBlock = some b → B ≤ b ∧ b < w.heap.size := hS.blk vk (List.mem_of_getElem? hv)
  have hlvb : ∀ b, lv.ownBlock = some b → B ≤ b := by
    intro b hb
    rcases h.alias with ⟨-, a, c, h1, h2⟩ | ⟨b', h1, h2⟩
    · have e : vk.ownBlock = lv.ownBlock := by rw [h1, h2]; cases a <;> rfl
      rw [← e] at hb
      exact (hvkb b hb).1
    · rw [h1] at hb
      obtain rfl := Option.some.inj hb
      omega
  refine ⟨ho, ?_, ?_, ?_, ?_, ?_, ?_, ?_, ?_⟩
  · rcases hat with hat | hat
    · rcases h.alias with ⟨hnp, a, c, h1, h2⟩ | ⟨b, h1, h2⟩
      · left
        refine ⟨by omega, a, c, h1, ?_⟩
        rw [h2] at hk hat
        have := same_cap hk ho hne hat
        rwa [marks_length] at this
      · right
        exact ⟨b, hat.trans h1, h2⟩
    · right
      exact ⟨_, hat, h.size⟩
  · refine KLists.of_get h.kept.length fun i v l hi hli => ?_
    by_cases hik : i = k
    · subst hik
      rw [hv] at hi
      obtain rfl := Option.some.inj hi
      rw [hl] at hli
      obtain rfl := Option.some.inj hli
      rcases h.alias with ⟨hnp, a, c, h1, h2⟩ | ⟨b, h1, h2⟩
      · obtain ⟨d, rfl⟩ : ∃ d, p = n + d := ⟨p - n, by omega⟩
        rw [h2] at hk
        rw [h1]
        exact ⟨0, ow_front hk⟩
      · obtain ⟨base, h3⟩ := h.kept.get2 hv hl
        refine ⟨base, ow_grown h3 hg (Or.inr ?_)⟩
        rw [h1]
        intro e
        have := (hvkb b e).2
        omega
    · obtain ⟨base, h3⟩ := h.kept.get2 hi hli
      exact ⟨base, ow_grown h3 hg (h.away hz hS hv hi hik)⟩
  · refine h.put.grown hg fun u hu => ?_
    obtain ⟨i, hi⟩ := List.getElem?_of_mem hu
    have hik : i < k := by rw [← hlen]; exact (List.getElem?_eq_some_iff.1 hi).1
    have hkv : k < vs.length := (List.getElem?_eq_some_iff.1 hv).1
    obtain ⟨v, hvi⟩ : ∃ v, vs[i]? = some v := ⟨_, List.getElem?_eq_getElem (by omega)⟩
    have haw := h.away hz hS hv hvi (by omega)
    rcases hal i u v hi hvi with h1 | ⟨b, h1, h2⟩
    · rw [h1]; exact haw
    · right
      have hbz := hus u hu b h1
      rw [h1]
      intro e
      rcases h.alias with ⟨-, a, c, h3, h4⟩ | ⟨b', h3, h4⟩
      · have e2 : vk.ownBlock = lv.ownBlock := by rw [h3, h4]; cases a <;> rfl
        rw [← e2] at e
        have := (hvkb b e.symm).2
        omega
      · rw [h3] at e
        obtain rfl := Option.some.inj e
        omega
  · refine h.row.grown hg fun b hb e => ?_
    rcases ow_off h.own h.row with h1 | h1
    · rw [h1] at e; cases e
    · exact h1 (e.trans hb.symm)
  · exact book_grown h.book hg (ow_bookb h.own h.book)
  · refine h.rows.grown hg fun b hb e => ?_
    rcases ow_off h.own h.rows with h1 | h1
    · rw [h1] at e; cases e
    · exact h1 (e.trans hb.symm)
  · exact below_grown h.below hg (by omega) hlvb
  · exact Nat.le_trans h.size hg.size
theorem GI.done (hz : w.heap.size ≤ z) (hS : GS w g r B vs ls) (h : GI w g r s b1 B vs ls k out us ls' z vk n wi lv (n + 72)) (hv : vs[k]? = some vk) (hl : ls[k]? = some (marks k 0 n)) (hlen : us.length = k)
    (hmk : ∀ (i : Nat) (l : List Int), i < k → ls[i]? = some l → ls'[i]? = some (marks i 0 (l.length + 72)))
    (hal : ∀ (i : Nat) u v, us[i]? = some u → vs[i]? = some v → u.ownBlock = v.ownBlock ∨ ∃ b, u.ownBlock = some b ∧ w.heap.size ≤ b)
    {w2 : World} {out' : Value} (ho : OwU w.heap.size w2 out' (us ++ [lv])) (hg : wi.grownBy w2 out.ownBlock) : GO w g r s b1 B vs ls (k + 1) w2 out' (us ++ [lv]) (ls' ++ [marks k 0 (n + 72)]) := by
  have hB := hS.hB
  have hsz := h.size
  have hlen' : ls'.length = k := by rw [← h.put.length, hlen]
  refine ⟨by rw [List.length_append, hlen]; rfl, ?_, ?_, ?_, ho, ?_, ?_, ?_, ?_⟩
  · intro i l hi hli
    by_cases hik : i < k
    · rw [List.getElem?_append_left (by omega)]
      exact hmk i l hik hli
    · obtain rfl : i = k := by omega
      rw [hl] at hli
      obtain rfl := Option.some.inj hli
      rw [List.getElem?_append_right (by omega), hlen', Nat.sub_self, marks_length]
      rfl
  · exact h.kept.grown hg (h.kept.off_row h.row)
  · refine (h.put.grown hg (h.put.off_row h.row)).append (.cons ⟨0, ?_⟩ .nil)
    exact ow_grown h.own hg (ow_off h.own h.row)
  · exact book_grown h.book hg (owu_bookb h.row h.book)
  · refine h.rows.grown hg fun b hb e => ?_
    have h1 := hS.rlt b hb
    have h2 := (h.row.lt b e).1
    omega
  · exact below_grown h.below hg (by omega) (fun b hb => by have := (h.row.lt b hb).1; omega)
  · intro i u v hi hvi
    by_cases hik : i < k
    · rw [List.getElem?_append_left (by omega)] at hi
      exact hal i u v hi hvi
    · rw [List.getElem?_append_right (by omega)] at hi
      have hi0 : i - us.length = 0 := by
        have := (List.getElem?_eq_some_iff.1 hi).1
        simp at this
        omega
      obtain rfl : i = k := by omega
      rw [hi0] at hi
      simp only [List.getElem?_cons_zero, Option.some.injEq] at hi
      subst hi
      rw [hv] at hvi
      obtain rfl := Option.some.inj hvi
      rcases h.alias with ⟨-, a, c, h1, h2⟩ | ⟨b, h1, h2⟩
      · left
        rw [h1, h2]
        cases a <;> rfl
      · right
        exact ⟨b, h1, by omega⟩
end
end Go.Proofs.YthfcncapgfkkjaaGreatDoor

namespace Go.Proofs.YthfcncapgfkkjaaGreatDoor
open Go.RowKit

theorem KLists.lt {w : World} {vs : List Value} {ls : List (List Int)} (h : KLists w vs ls) : ∀ u ∈ vs, ∀ b, u.ownBlock = some b → b < w.heap.size := by
  induction h with
  | nil => intro u hu; simp at hu
  | cons ho _ ih =>
    intro u hu
    rcases List.mem_cons.1 hu with rfl | hu
    · obtain ⟨base, ho⟩ := ho
      exact fun b hb => (ow_ltb ho b hb).2
    · exact ih u hu
/-- A row that is not empty lies in a block, at its start. -/
theorem ow_at {base : Nat} {w : World} {a : Option Addr} {n c : Nat} {k f m : Nat} (h : Ow base w (.slice a n c) (marks k f (m + 1))) : n = m + 1 ∧ ∃ g, a = some ⟨g, 0, none⟩ ∧ ∀ j, j < (marks k f (m + 1)).length → w.cell? ((⟨g, 0, none⟩ : Addr).add j) = some (.int .u64 ((marks k f (m + 1)).getD j 0)) := by
  obtain ⟨g, n', cap, he, hn, -, -, harr, -⟩ := ow_row h (fun e => by have := congrArg List.length e; rw [marks_length] at this; simp at this)
  simp only [Value.slice.injEq] at he
  obtain ⟨rfl, rfl, rfl⟩ := he
  rw [marks_length] at hn
  exact ⟨hn, g, rfl, fun j hj => by rw [addr_add_none]; exact harr.at' j hj⟩
set_option maxRecDepth 100000 in
set_option maxHeartbeats 2000000 in
theorem grow_num {w : World} {g b1 B : Nat} {ra : Option Addr} {rn rc : Nat} {s : Value} {vs : List Value} {ls : List (List Int)} (hB : BookAt w g (.slice ra rn rc) s) (hr : OwU b1 w (.slice ra rn rc) vs) (hv : KLists w vs ls) (hS : GS w g (.slice ra rn rc) B vs ls) (hn : rn = vs.length) (hM : rn ≤ 300) :
    Calls Tryz.prog 54 #[.pointer (some ⟨g, 0, none⟩)] w fun e w' => ∃ out us ls', e = .returned out ∧ GO w g (.slice ra rn rc) s b1 B vs ls rn w' out us ls' := by
  have HN := Lib.hid hn
  have HS := Lib.hid hS
  have hl1 := hv.length
  have HL1 := Lib.hid hl1
  have h0 : Hid (GO w g (.slice ra rn rc) s b1 B vs ls 0 w (.slice none 0 0) [] []) := Lib.hid ⟨rfl, fun i l h => absurd h (Nat.not_lt_zero _), hv, .nil, OwU.nil _ _, hB, hr, Below.refl _ _, fun i u v h => by simp at h⟩
  clear hn hS hl1 hB hr hv
  go_enter Tryz.func54, Tryz.ntmps54
  go_wp2_with fail
  go_loopw [3, 4, 5, 6] (fun oo ii _ll _nn wr => ∃ (k : Nat) (oa : Option Addr) (oc : Nat) (us : List Value) (ls' : List (List Int)), k ≤ rn ∧ oo = .slice oa k oc ∧ ii = .int .i64 k ∧ Hid (GO w g (.slice ra rn rc) s b1 B vs ls k wr (.slice oa k oc) us ls')) (fun _ ii _ _ _ => rn - (intOf ii).toNat)
  case atStart => exact ⟨0, none, 0, [], [], Nat.zero_le _, rfl, rfl, h0⟩
  case round =>
    obtain ⟨k, oa, oc, us, ls', hk, rfl, rfl, HG⟩ := hrel
    clear h0
    have hBr := HG.out.book
    have c2 := cell_of_row wr g 2 _ _ _ hBr
    by_cases hlt : k < rn
    · have hkv : k < vs.length := by rw [← HN.out]; exact hlt
      obtain ⟨-, hrc1, hrc2, rb, ro, v, rfl, hv1, hcv⟩ := HG.out.rows.at hkv
      obtain ⟨l0, hl0⟩ : ∃ l0, ls[k]? = some l0 := ⟨_, List.getElem?_eq_getElem (by rw [← HL1.out]; exact hkv)⟩
      obtain ⟨hm1, hm2⟩ := HS.out.mks k l0 hl0
      obtain ⟨n, hnl⟩ : ∃ n, l0.length = n := ⟨_, rfl⟩
      rw [hnl] at hm1 hm2
      subst hm1
      have hI := HG.out.start hv1 hl0
      obtain ⟨a, c, hvv, q1, q2, -⟩ := hI.own.form
      rw [marks_length] at hvv q1
      subst hvv
      obtain ⟨z, hz⟩ : ∃ z, wr.heap.size = z := ⟨_, rfl⟩
      have HZ : Hid (w.heap.size ≤ z ∧ ∀ u ∈ us, ∀ b, u.ownBlock = some b → b < z) := Lib.hid (by rw [← hz]; exact ⟨HG.out.below.size, HG.out.put.lt⟩)
      rw [hz] at hI
      have HI := Lib.hid hI
      have HV1 := Lib.hid hv1
      have HL0 := Lib.hid hl0
      have hlt' : (k : Int) < (rn : Int) := by omega
      clear hkv hv1 hl0 hnl hI hz hBr
      go_wp2_with fail
      go_loopw [5, 6] (fun lv nn wi => ∃ (j : Nat) (a1 : Option Addr) (c1 : Nat), j ≤ 12 ∧ lv = .slice a1 (n + j) c1 ∧ nn = .int .i64 j ∧ Hid (GI w g (.slice (some ⟨rb, ro, none⟩) rn rc) s b1 B vs ls k (.slice oa k oc) us ls' z (.slice a n c) n wi (.slice a1 (n + j) c1) (n + j))) (fun _ nn _ => 12 - (intOf nn).toNat)
      case atStart => exact ⟨0, a, c, Nat.zero_le _, rfl, rfl, HI⟩
      case round =>
        obtain ⟨j, a1, c1, hj, rfl, rfl, HIJ⟩ := hrel
        obtain ⟨p, hp⟩ : ∃ p, n + j = p := ⟨_, rfl⟩
        rw [hp] at HIJ ⊢
        obtain ⟨a1', c1', hlv, q3, q4, -⟩ := HIJ.out.own.form
        rw [marks_length] at hlv q3
        simp only [Value.slice.injEq] at hlv
        obtain ⟨rfl, -, rfl⟩ := hlv
        have hpb : p ≤ 90012 := by omega
        by_cases hjn : j < 12
        · have hpn : p + 1 ≤ 100012 := by omega
          have HP := Lib.hid hp
          have HMC := Lib.hid (mark_num k p 1 wr (by omega) (by omega) (by decide))
          have hjI : (j : Int) < 12 := by omega
          clear hp
          go_wp2_with fail
          refine HMC.out.mono ?_
          rintro e w1 ⟨mv, rfl, hOm, hb1⟩
          obtain ⟨ma, mn, mc, rfl⟩ := hOm.slice
          obtain ⟨rfl, mg, rfl, hnews⟩ := ow_at (m := 0) hOm
          have HI1 := Lib.hid (HIJ.out.under HZ.out.1 HS.out hb1)
          have hO1 := HI1.out.own
          clear hOm hb1 HMC HIJ
          go_wp2_with (at_builtin; refine wpList_append_keep _ rfl (.tmp 27) (.tmp 31) 22 rfl Tryz.underlying22 info_u64 0 (.slice a1 p c1) (marks k 0 p) rfl hO1 ⟨mg, 0, none⟩ 1 mc (marks k p 1) rfl (marks_length _ _ _) hnews (by rw [marks_length]; unfold MaxW; omega) (Nat.zero_le _) ?_; intro v' w2 hO2 hg2 hat2 hk2)
          rw [marks_append] at hO2
          have HI2 := Lib.hid (HI1.out.append HZ.out.1 HS.out HV1.out HL0.out HG.out.len HG.out.al HZ.out.2 (by decide) hg2 hat2 hO2 hk2)
          clear hO2 hg2 hat2 hk2 HI1 hO1 hnews
          go_wp2_with fail
          go_roundw
          case rel =>
            obtain ⟨a2, c2', hv2, -⟩ := HI2.out.own.form
            rw [marks_length] at hv2
            refine ⟨j + 1, a2, c2', by omega, by rw [← Nat.add_assoc, HP.out]; exact hv2, by go_num, ?_⟩
            rw [← Nat.add_assoc, HP.out, ← hv2]
            exact HI2
          case measure => simp [intOf]; omega
        · obtain rfl : j = 12 := by omega
          have HMC := Lib.hid (mark_num k p 60 wr (by omega) (by omega) (by decide))
          have HP : Hid (p + 60 = n + 72) := Lib.hid (by omega)
          clear hp
          go_wp2_with fail
          refine HMC.out.mono ?_
          rintro e w1 ⟨mv, rfl, hOm, hb1⟩
          obtain ⟨ma, mn, mc, rfl⟩ := hOm.slice
          obtain ⟨rfl, mg, rfl, hnews⟩ := ow_at (m := 59) hOm
          have HI1 := Lib.hid (HIJ.out.under HZ.out.1 HS.out hb1)
          have hO1 := HI1.out.own
          clear hOm hb1 HMC HIJ
          go_wp2_with (at_builtin; first | (refine wpList_append_keep _ rfl (.tmp 34) (.tmp 38) 22 rfl Tryz.underlying22 info_u64 0 (.slice a1 p c1) (marks k 0 p) rfl hO1 ⟨mg, 0, none⟩ 60 mc (marks k p 60) rfl (marks_length _ _ _) hnews (by rw [marks_length]; unfold MaxW; omega) (Nat.zero_le _) ?_; intro v' w2 hO2 hg2 hat2 hk2; rw [marks_append] at hO2; have HI2 := Lib.hid (HI1.out.append HZ.out.1 HS.out HV1.out HL0.out HG.out.len HG.out.al HZ.out.2 (by decide) hg2 hat2 hO2 hk2); rw [HP.out] at HI2; obtain ⟨a2, n2, c2', rfl⟩ := hO2.slice; clear hO2 hg2 hat2 hk2 HI1 hO1 hnews; have HI3 := Lib.hid (HI2.out.under HZ.out.1 HS.out (below_alloc w2 (.cells #[.slice a2 n2 c2'] 22)))) | (refine wpList_append_lists _ rfl (.tmp 33) (.tmp 40) 30 rfl Tryz.underlying30 info_list w.heap.size (.slice oa k oc) us rfl HI3.out.row ⟨w2.heap.size, 0, none⟩ 1 1 [.slice a2 n2 c2'] rfl rfl (newsv _ _ _) (by intro u hu; obtain rfl := List.mem_singleton.1 hu; rfl) (by rw [HG.out.len]; omega) (by have := HZ.out.1; have := HI3.out.size; omega) ?_; intro v3 w3 hO3 hg3 _))
          have HG3 := Lib.hid (HI3.out.done HZ.out.1 HS.out HV1.out HL0.out HG.out.len HG.out.mks HG.out.al hO3 hg3)
          clear hO3 hg3 HI3 HI2
          go_roundw
          case rel =>
            obtain ⟨a3, c3', hv3, -⟩ := HG3.out.row.form
            rw [HG3.out.len] at hv3
            subst hv3
            exact ⟨k + 1, a3, c3', _, _, by omega, rfl, by go_num, HG3⟩
          case measure => simp [intOf]; omega
    · obtain rfl : k = rn := by omega
      go_wp2_with fail
      go_ret
      exact ⟨_, _, _, rfl, HG.out⟩
end Go.Proofs.YthfcncapgfkkjaaGreatDoor
