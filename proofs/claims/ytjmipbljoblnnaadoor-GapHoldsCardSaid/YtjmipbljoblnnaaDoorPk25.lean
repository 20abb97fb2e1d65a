/-
  ShiftB: Contract of the document's own Low: how many zero bits a number ends with. The document's own DivMod and Sqrt, at the level of numbers. Contracts of the statements' own lists: copies, lists that are lent with room behind them, and whether they have stayed as they were; append of words to nothing. Contract of the document's own Sub, of a number and one that is not above it. What the statement NatShifts wants besides: Low of every number, shifts by negative counts and out of range, one light list, equal numbers.
  RefZ: Integers as the document's own dyads hold them: a sign, an odd amount, a power of two. Contracts of Make, Sign and Not.
  SlotsT: A region that draws its order and ends with a forced tail, by what its slots hold, where the kept fact may speak of the slots, too; two new variables that lie apart.
  RefZM: The document's dyads as integers: Mul.
  RefZA: The document's dyads as integers: Add.
  RefZS: The document's dyads as integers: Sub.
-/
import Derived.Test.YtjmipbljoblnnaaDoorPk11
import Derived.Test.YtjmipbljoblnnaaDoorPk23
import Derived.Test.YtjmipbljoblnnaaDoorPk12
import Derived.Test.YtjmipbljoblnnaaDoorPk10
import Derived.Test.YtjmipbljoblnnaaDoorPk24
import Derived.Test.YtjmipbljoblnnaaDoorPk21
import Derived.Deep.DeepCutAuto
import Derived.Test.YtjmipbljoblnnaaDoorPk20
import Derived.Test.YtjmipbljoblnnaaDoorPk22

namespace Go.Proofs.YtjmipbljoblnnaaDoor
open Go.RowKit


theorem low_digit {l : List Int} {i k : Nat} {x m : Int} (hi : i < l.length) (hk : k < 32) (hx : l.getD i 0 = x) (hz : vb B32 (l.take i) = 0) (hm : x = 2 ^ k * (2 * m + 1)) : IsLow (vb B32 l) (32 * i + k) := by
  refine ⟨m + 2 ^ (31 - k) * vb B32 (l.drop (i + 1)), ?_⟩
  rw [vb_split B32 l i (by omega), hz, vb_drop B32 hi, hx, hm]
  have e1 : B32 ^ i = 2 ^ (32 * i) := by rw [Int.pow_mul]; rfl
  have e2 : (B32 : Int) = 2 ^ k * (2 ^ (31 - k) * 2) := by
    rw [← Int.pow_succ, ← Int.pow_add, show k + (31 - k + 1) = 32 by omega]; rfl
  generalize vb B32 (l.drop (i + 1)) = R
  rw [e1, Int.pow_add, Int.zero_add]
  conv => lhs; rw [e2]
  rw [Int.mul_assoc (2 ^ (32 * i)) (2 ^ k)]
  congr 1
  rw [Int.mul_assoc (2 ^ k), ← Int.mul_add]
  congr 1
  rw [Int.mul_comm (2 ^ (31 - k)) 2, Int.mul_assoc, Int.mul_add]
  omega

/-- One more zero bit. -/
theorem bit_zero {x z : Int} {k : Nat} (hx : x % 2 ^ k = 0) (hz : x / 2 ^ k = z) (hb : z % 2 = 0) : x % 2 ^ (k + 1) = 0 := by
  have e := Int.mul_ediv_add_emod x (2 ^ k)
  rw [hz, hx] at e
  have e2 : x = 2 ^ (k + 1) * (z / 2) := by
    rw [Int.pow_succ, Int.mul_assoc, show 2 * (z / 2) = z by omega]; omega
  rw [e2, Int.mul_emod_right]
theorem bit_one {x z : Int} {k : Nat} (hx : x % 2 ^ k = 0) (hz : x / 2 ^ k = z) (hb : z % 2 = 1) : x = 2 ^ k * (2 * (z / 2) + 1) := by
  have e := Int.mul_ediv_add_emod x (2 ^ k)
  rw [hz, hx] at e
  rw [show 2 * (z / 2) + 1 = z by omega]; omega

set_option maxRecDepth 100000 in
set_option maxHeartbeats 1000000 in
theorem rlow_any (ao : Option Addr) (n cap : Nat) (l : List Int) (w : World) (hn : n = l.length) (_h1 : n ≤ cap) (_h2 : cap ≤ 9223372036854775807) (h : Rd w ao l) (hl : Lim B32 l) (hM : n ≤ MaxW) (hnz : vb B32 l ≠ 0) :
    Calls Tryd.prog 46 #[.slice ao n cap] w fun e w' => ∃ t : Nat, e = .returned (.int .i64 t) ∧ IsLow (vb B32 l) t ∧ t ≤ 32 * n ∧ w = w' := by
  unfold MaxW at hM
  have HN := Lib.hid hn
  have HNZ := Lib.hid hnz
  obtain ⟨b, off, rfl, hat⟩ := h.cases (by intro e; rw [e] at hnz; exact hnz rfl)
  clear hn hnz
  go_enter Tryd.func46, Tryd.ntmps46
  go_wp2
  go_loop [3, 4] (fun nn ii => ∃ i : Nat, i ≤ n ∧ nn = .int .i64 (32 * (i : Int)) ∧ ii = .int .i64 i ∧ Hid (vb B32 (l.take i) = 0)) (fun _ ii => n - (intOf ii).toNat)
  case atStart => exact ⟨0, Nat.zero_le _, rfl, rfl, by show _ = _; simp⟩
  case round =>
    obtain ⟨i, hi, rfl, rfl, HV⟩ := hrel
    by_cases hlt : i < n
    · obtain ⟨x, hxe⟩ : ∃ x, x = l.getD i 0 := ⟨_, rfl⟩
      have hil : i < l.length := by rw [← HN.out]; exact hlt
      have hcx : w.cell? ⟨b, off + i, none⟩ = some (.int .u64 x) := by rw [hxe]; exact hat i hil
      have bx : 0 ≤ x ∧ x < 4294967296 := by rw [hxe]; exact hl.getD B32_pos _
      obtain ⟨bx0, bx1⟩ := bx
      have HXE := Lib.hid hxe
      clear hxe
      go_wp2
      go_loop [3, 5] (fun nn kk => ∃ k : Nat, k ≤ 32 ∧ nn = .int .i64 (32 * (i : Int) + (k : Int)) ∧ kk = .int .i64 k ∧ Hid (x % 2 ^ k = 0)) (fun _ kk => 32 - (intOf kk).toNat)
      case atStart => exact ⟨0, Nat.zero_le _, by simp, rfl, by show _ = _; rw [Int.pow_zero]; omega⟩
      case round =>
        obtain ⟨k, hk, rfl, rfl, HX⟩ := hrel
        by_cases hk32 : k < 32
        · obtain ⟨z, hz⟩ : ∃ z, x / 2 ^ k = z := ⟨_, rfl⟩
          have hz0 : 0 ≤ z := by rw [← hz]; exact Int.ediv_nonneg bx0 (Int.le_of_lt (pow2_pos k))
          have hz1 : z < 4294967296 := by rw [← hz]; exact Int.lt_of_le_of_lt (Int.ediv_le_self _ bx0) bx1
          obtain ⟨q, hq⟩ : ∃ q, z % 2 = q := ⟨_, rfl⟩
          have hand : bits .and .u64 z 1 = q := by
            have := and_mask z 1 (by decide) hz0 (by omega)
            rw [← hq]; exact this
          have hkI : (k : Int) < 32 := by omega
          by_cases hq1 : q = 1
          · have hlow := low_digit hil hk32 HXE.out.symm HV.out (bit_one HX.out hz (by rw [hq]; exact hq1))
            have hqe : (q == 1) = true := by simp [hq1]
            have hval : (32 * (i : Int) + (k : Int)) = ((32 * i + k : Nat) : Int) := by omega
            have HLOW := Lib.hid hlow
            have HVAL := Lib.hid hval
            have hb : 32 * i + k ≤ 32 * n := by omega
            have HB := Lib.hid hb
            clear hlow hval hq hq1 hb
            go_wp2
            go_ret
            exact ⟨32 * i + k, by rw [HVAL.out]; rfl, HLOW.out, HB.out, rfl⟩
          · have hq0 : q = 0 := by omega
            have hqe : (q == 1) = false := by simp [hq0]
            have hnx := bit_zero HX.out hz (by rw [hq]; exact hq0)
            have HNX := Lib.hid hnx
            clear hnx hq hq1 hq0
            go_wp2
            go_round
            case rel => exact ⟨k + 1, by omega, by go_num, by go_num, HNX⟩
            case measure => simp [intOf]; omega
        · obtain rfl : k = 32 := by omega
          have hx0 : x = 0 := by
            have : x % 4294967296 = 0 := HX.out
            omega
          have hv : vb B32 (l.take (i + 1)) = 0 := by rw [vb_take_succ B32 hil, HV.out, ← HXE.out, hx0]; simp
          have HV2 := Lib.hid hv
          clear hv hx0
          go_wp2
          go_round
          case rel => exact ⟨i + 1, by omega, by go_num, by go_num, HV2⟩
          case measure => simp [intOf]; omega
    · exfalso
      have h3 : l.take i = l := List.take_of_length_le (by rw [← HN.out]; omega)
      have h4 := HV.out
      rw [h3] at h4
      exact HNZ.out h4


theorem RdD.rn {w : World} {v : Value} {l : List Int} {N : Int} {m : Nat} (h : RdD w v l) (hv : vb B32 l = N) (hm : N < B32 ^ m) : RN w v N m := by
  obtain ⟨a, c, rfl, h2, h3, h4, h5⟩ := h
  exact ⟨l, a, c, rfl, h2, h3, h4, h5, hv, room_of B32_pos h5 (by rw [hv]; exact hm)⟩
theorem RetD2.retr {w : World} {Q R : Int} {m k : Nat} {e : Ending} {w' : World} (h : RetD2 w Q R e w') (hm : Q < B32 ^ m) (hk : R < B32 ^ k) : RetR2 w Q R m k e w' := by
  obtain ⟨aq, nq, cq, lq, ar, nr, cr, lr, rfl, h1, h2, h3, h4, h5⟩ := h
  exact ⟨aq, nq, cq, ar, nr, cr, rfl, h1.rn h2 hm, h3.rn h4 hk, h5⟩

set_option maxRecDepth 100000 in
/-- The dividend is less than the divisor. -/
theorem rdivs_any (aa : Option Addr) (na ca : Nat) (la : List Int) (ab : Option Addr) (n cb : Nat) (lb : List Int) (w : World) (hna : na = la.length) (hnb : n = lb.length) (h1 : na ≤ ca) (h2 : ca ≤ 9223372036854775807) (h3 : n ≤ cb) (h4 : cb ≤ 9223372036854775807)
    (ha : Rd w aa la) (hb : Rd w ab lb) (hla : Can B32 la) (hlb : Can B32 lb) (hlt : vb B32 la < vb B32 lb) :
    Calls Tryd.prog 42 #[.slice aa na ca, .slice ab n cb] w fun e w' => RetD2 w (vb B32 la / vb B32 lb) (vb B32 la % vb B32 lb) e w' := by
  have hC := rcmp_any aa na ca la ab n cb lb w hna hnb h1 h2 h3 h4 ha hb hla hlb
  have hn0 := vb_nonneg B32_pos hla.lim
  rw [cmpI_lt hlt] at hC
  have HC := Lib.hid hC
  have HQ := Lib.hid (Int.ediv_eq_zero_of_lt hn0 hlt)
  have HR := Lib.hid (Int.emod_eq_of_lt hn0 hlt)
  have HN := Lib.hid hna
  clear hC hna hlt hnb
  go_enter Tryd.func42, Tryd.ntmps42
  go_wp2_with fail
  refine HC.out.mono ?_
  rintro e w1 ⟨rfl, hb1⟩
  go_wp2_with fail
  go_ret2
  exact ⟨none, 0, 0, [], aa, na, ca, la, rfl, ⟨none, 0, rfl, Nat.le_refl _, by decide, Rd.nil _ _, Can.nil _⟩, by rw [HQ.out]; rfl, ⟨aa, ca, by rw [HN.out], by rw [← HN.out]; exact h1, h2, ha.below hb1, hla⟩, by rw [HR.out], hb1⟩

theorem rdm_num {w : World} {u v : Value} {A B : Int} {m k : Nat} (h : RN w u A m) (g : RN w v B k) (hB : B ≠ 0) (hm : m ≤ 100000) : Calls Tryd.prog 42 #[u, v] w fun e w' => RetR2 w (A / B) (A % B) m k e w' := by
  have hA0 := h.nonneg
  have hB0 := g.nonneg
  have hq : A / B < B32 ^ m := Int.lt_of_le_of_lt (Int.ediv_le_self _ hA0) h.lt
  have hr : A % B < B32 ^ k := Int.lt_trans (Int.emod_lt_of_pos A (by omega)) g.lt
  obtain ⟨a, n, c, l, rfl, h1, h2, h3, h4, h5, rfl, h7⟩ := h.open
  obtain ⟨a', n', c', l', rfl, g1, g2, g3, g4, g5, rfl, g7⟩ := g.open
  have fin : ∀ e w', RetD2 w (vb B32 l / vb B32 l') (vb B32 l % vb B32 l') e w' → RetR2 w (vb B32 l / vb B32 l') (vb B32 l % vb B32 l') m k e w' := fun e w' hr' => hr'.retr hq hr
  rcases Int.lt_or_le (vb B32 l) (vb B32 l') with hlt | hge
  · exact (rdivs_any a n c l a' n' c' l' w h1 g1 h2 h3 g2 g3 h4 g4 h5 g5 hlt).mono fin
  · have hne : l' ≠ [] := by intro e; rw [e] at hB; exact hB rfl
    have hn0 : 0 < n' := by rw [g1]; exact List.length_pos_iff.2 hne
    by_cases h21 : n' = 1
    · subst h21
      obtain ⟨d, hd⟩ : ∃ d, l' = [d] := by
        match l', g1 with
        | [d], _ => exact ⟨d, rfl⟩
      subst hd
      obtain ⟨b, o, rfl, hat⟩ := g4.cases (by simp)
      have hvd : vb B32 [d] = d := by simp [vb_cons]
      rw [hvd] at hB hB0 hq hr fin ⊢
      have hd1 := (g5.lim).head.2
      exact (rdiv1_any a n c l b o c' d w h1 h2 h3 g2 g3 h4 h5 hat (by omega) (by unfold B32 at hd1; omega) (by unfold MaxW; omega)).mono fin
    · exact (rdivl_any a n c l a' n' c' l' w h1 g1 h2 h3 g2 g3 h4 g4 h5 g5 (by omega) hge (by omega)).mono fin

/-- One step of Newton's from a number above the root. -/
theorem newton_pos {x r : Int} (hx : 0 < x) (hr : 0 < r) (h : x < (r + 1) * (r + 1)) : 0 < (r + x / r) / 2 := by
  by_cases h1 : r = 1
  · subst h1
    have : x / 1 = x := Int.ediv_one x
    rw [this]; omega
  · have : 0 ≤ x / r := Int.ediv_nonneg (by omega) (by omega)
    omega

/-- append(nothing, words ..). -/
theorem wpList_append_nil_words {P : Program} (w : World) {ops : Array Oper} {rest : List Oper} {o : Oper} {a : Act} {Q : Exit → Act → World → Prop} (hgd : o.guard = none) (s x : Operand) (t : TypeId)
    (ho : o.op = .call { callee := .builtin .append, args := #[s, x], argTypes := #[t, t] }) (ht : P.underlying t = some (.slice 50)) (hi : (P.info? 50).map (fun i => (i.zero, i.size, i.bytes)) = some (some (.int .u64 0), 1, 8))
    (hs : a.eval s = .slice none 0 0) (ao : Option Addr) (n c : Nat) (l : List Int) (hx : a.eval x = .slice ao n c) (hn : n = l.length) (hr : Rd w ao l) (hM : n ≤ MaxW)
    (hK : ∀ v' w', Ow w.heap.size w' v' l → Below w.heap.size w w' → wpList P ops Q rest (a.put o.dst v') w') : wpList P ops Q (o :: rest) a w := by
  by_cases hl : l = []
  · subst hl
    obtain rfl : n = 0 := hn
    obtain ⟨i, h2, h3, h4, h5⟩ := info_parts hi
    refine wpList_plain hgd fun K hK' => ?_
    have hrun : (Builtin.append_ #[t, t] o.type #[.slice none 0 0, .slice ao 0 c]).run P w = .ok (.slice none 0 0) w := by
      cases ao <;> simp [Builtin.append_, run_underlying ht, sizeOf, typeInfo, h2, Builtin.lenOf, Builtin.firstCells, loadCells, loadCellsFrom]
    unfold Oper.wp execOp
    simp only [ho, resolve, invoke, builtin, Sem.run_bind, Sem.run_pure, Result.andThen_ok, List.map_toArray, List.map_cons, List.map_nil, hs, hx, hrun]
    exact hK' _ _ (hK _ _ (Ow.nil _ _) (Below.refl _ _))
  · obtain ⟨b, off, rfl, hat⟩ := hr.cases hl
    refine wpList_append_words w hgd s x t ho ht hi w.heap.size (.slice none 0 0) [] hs (Ow.nil _ _) ⟨b, off, none⟩ n c l hx hn.symm (fun j hj => by rw [addr_add_none]; exact hat j hj) (by simpa using hM) (Nat.le_refl _) fun v' w' h1 h2 => hK v' w' ?_ h2
    simpa using h1

/-- A row of the call's own that is not empty lies in a block of its own. -/
theorem ow_row {base : Nat} {w : World} {v : Value} {l : List Int} (h : Ow base w v l) (hl : l ≠ []) : ∃ g n cap, v = .slice (some ⟨g, 0, none⟩) n cap ∧ n = l.length ∧ n ≤ cap ∧ cap ≤ 9223372036854775807 ∧ Arr w g 0 l ∧ base ≤ g ∧ g < w.heap.size := by
  have h' := h
  obtain ⟨ao, cap, rfl, h1, h2, h3⟩ := h.form
  rcases h.2 with ⟨hv, h0⟩ | ⟨g, cap', cur, hv, hg, hh, r⟩
  · exact absurd (List.eq_nil_of_length_eq_zero h0) hl
  · simp only [Value.slice.injEq] at hv
    obtain ⟨rfl, -, rfl⟩ := hv
    exact ⟨g, _, cap, rfl, rfl, h1, h2, h'.arr.1, hg, (Array.getElem?_eq_some_iff.1 hh).1⟩

theorem rsub_step {m : List Int} {p : Nat} {c o y b t E : Int} (hp : p < m.length) (ho : o = m.getD p 0) (hS : vb B32 m + E = t + B32 ^ p * c) :
    vb B32 (m.set p (o + b * 4294967296 - (c + y))) + (E + B32 ^ p * y) = t + B32 ^ (p + 1) * b := by
  rw [vb_set B32 m p _ hp, ← ho, Int.pow_succ, Int.mul_assoc]
  have e : B32 ^ p * (B32 * b) = B32 ^ p * c + B32 ^ p * y + B32 ^ p * (o + b * 4294967296 - (c + y) - o) := by
    rw [← Int.mul_add, ← Int.mul_add]
    congr 1
    unfold B32
    omega
  rw [e]
  omega
theorem take_getD_zero {l : List Int} {i : Nat} : vb B32 (l.take i) + B32 ^ i * l.getD i 0 = vb B32 (l.take (i + 1)) := by
  by_cases h : i < l.length
  · rw [vb_take_succ B32 h]
  · rw [List.take_of_length_le (by omega), List.take_of_length_le (by omega), List.getD_eq_getElem?_getD, List.getElem?_eq_none (by omega)]
    simp

set_option maxRecDepth 100000 in
set_option maxHeartbeats 2000000 in
theorem rsub_any (ax : Option Addr) (na ca : Nat) (a : List Int) (ay : Option Addr) (nb' cb : Nat) (b : List Int) (w : World) (hna : na = a.length) (hnb : nb' = b.length) (_h1 : na ≤ ca) (_h2 : ca ≤ 9223372036854775807) (_h3 : nb' ≤ cb) (_h4 : cb ≤ 9223372036854775807)
    (hx : Rd w ax a) (hy : Rd w ay b) (hla : Lim B32 a) (hlb : Can B32 b) (hM : na ≤ MaxW) (hle : vb B32 b ≤ vb B32 a) :
    Calls Tryd.prog 33 #[.slice ax na ca, .slice ay nb' cb] w fun e w' => RetRd B32 w (vb B32 a - vb B32 b) e w' := by
  have hba : nb' ≤ na := by
    rw [hna, hnb]
    exact room_of B32_pos hlb (Int.lt_of_le_of_lt hle (vb_lt B32_pos hla))
  have HA := Lib.hid hna
  have HB := Lib.hid hnb
  have HLE := Lib.hid hle
  have hM63 : na ≤ 9223372036854775807 := by unfold MaxW at hM; omega
  clear hna hnb hle
  go_enter Tryd.func33, Tryd.ntmps33
  go_wp2_with (at_builtin; refine wpList_append_nil_words _ rfl _ _ 29 rfl Tryd.underlying29 info_u64 rfl ax na ca a rfl HA.out hx hM ?_; intro v1 w1 hO1 hb1; obtain ⟨ao, co, rfl, q1, q2, q3, q4⟩ := hO1.form'; rw [← HA.out] at q1 ⊢)
  have hreg : ∀ g : Nat, na ≠ 0 → ao = some ⟨g, 0, none⟩ → Arr w1 g 0 a := by
    intro g _ e
    subst e
    exact hO1.arr.1
  have haddr : na ≠ 0 → ∃ g, ao = some ⟨g, 0, none⟩ := by
    intro h0
    obtain ⟨g, n', cap', e, -⟩ := ow_row hO1 (by intro e; have := HA.out; rw [e] at this; simp at this; omega)
    simp only [Value.slice.injEq] at e
    exact ⟨g, e.1⟩
  by_cases h0 : na = 0
  · have hbnil : b = [] := List.eq_nil_of_length_eq_zero (by rw [← HB.out]; omega)
    have hanil : a = [] := List.eq_nil_of_length_eq_zero (by rw [← HA.out]; exact h0)
    have hI : ¬ (0 : Int) < (na : Int) := by omega
    have HZ : Hid (vb B32 a - vb B32 b = 0) := by show _ = _; rw [hanil, hbnil]; rfl
    have HAN := Lib.hid hanil
    clear hbnil hanil hreg haddr h0
    refine wp_loop_rounds 1 ?_
    rw [rounds_succ]
    go_wp2_with fail
    refine (rtrim_any ao na co a w1 HA.out q1 q2 q3).mono ?_
    rintro e w' ⟨rfl, rfl⟩
    go_wp2_with fail
    go_ret
    exact ⟨ao, tlen a, tlen a, tr a, rfl, (tr_length _).symm, Nat.le_refl _, by have := tlen_le a; have := HA.out; omega, q3.take _, can_tr hla, by rw [vb_tr, HZ.out, HAN.out]; rfl, hb1, q4⟩
  · obtain ⟨g, rfl⟩ := haddr h0
    have harr1 := hreg g h0 rfl
    have hgw : w.heap.size ≤ g := q4 g 0 rfl
    clear hreg haddr hO1 q3 q4
    go_loopg [6, 7] na (fun k cc ii wr => ∃ (i : Nat) (c : Int) (m : List Int), i + k = na ∧ ii = .int .i64 i ∧ cc = .int .u64 c ∧ 0 ≤ c ∧ c ≤ 1 ∧ Hid (m.length = na) ∧ Hid (Lim B32 m) ∧ Arr wr g 0 m ∧ Only g 0 na w1 wr ∧ Hid (∀ t, i ≤ t → m.getD t 0 = a.getD t 0) ∧ Hid (vb B32 m + vb B32 (b.take i) = vb B32 a + B32 ^ i * c))
    case atStart => exact ⟨0, 0, a, by omega, rfl, rfl, Int.le_refl _, by decide, HA.out.symm, hla, harr1, Only.refl _ _ _ _, fun _ _ => rfl, by show _ = _; simp⟩
    case round =>
      obtain ⟨i, c, m, hik, rfl, rfl, hc0, hc1, HM, HLM, harr, hon, HAB, HSV⟩ := hrel
      have hbw : Below w.heap.size w wr := hb1.trans (hon.below hgw hb1.size)
      by_cases hlt : i < na
      · obtain ⟨o, hoe⟩ : ∃ o, o = m.getD i 0 := ⟨_, rfl⟩
        have bo : 0 ≤ o ∧ o < 4294967296 := by rw [hoe]; exact HLM.out.getD B32_pos _
        obtain ⟨bo0, bo1⟩ := bo
        have hco : wr.cell? ⟨g, i, none⟩ = some (.int .u64 o) := by
          have := harr.at' i (by rw [HM.out]; exact hlt)
          rwa [Nat.zero_add, ← hoe] at this
        have hfr := harr.frozen i
        obtain ⟨y, hye⟩ : ∃ y, y = b.getD i 0 := ⟨_, rfl⟩
        have bY : 0 ≤ y ∧ y < 4294967296 := by rw [hye]; exact hlb.lim.getD B32_pos _
        obtain ⟨by0, by1⟩ := bY
        obtain ⟨v, hv⟩ : ∃ v, c + y = v := ⟨_, rfl⟩
        have hv0 : 0 ≤ v := by omega
        have hv1 : v ≤ 4294967296 := by omega
        have hst := fun bb : Int => rsub_step (m := m) (p := i) (c := c) (o := o) (y := y) (b := bb) (t := vb B32 a) (E := vb B32 (b.take i)) (by rw [HM.out]; exact hlt) hoe HSV.out
        have hend : ∀ bb : Int, Hid (vb B32 (m.set i (o + bb * 4294967296 - v)) + vb B32 (b.take (i + 1)) = vb B32 a + B32 ^ (i + 1) * bb) := fun bb => by
          have q := hst bb
          rw [hye, take_getD_zero, ← hye, hv] at q
          exact q
        have hml : ∀ x : Int, Hid ((m.set i x).length = na) := fun x => by show _ = _; rw [List.length_set]; exact HM.out
        have hab : ∀ x : Int, Hid (∀ t, i + 1 ≤ t → (m.set i x).getD t 0 = a.getD t 0) := fun x t ht => by
          rw [getD_set_other m (by omega)]
          exact HAB.out t (by omega)
        have HEND := Lib.hid hend
        have HML := Lib.hid hml
        have HABN := Lib.hid hab
        have hsw : i < nb' ∨ (¬ i < nb' ∧ v = c) := by
          rcases Nat.lt_or_ge i nb' with h | h
          · exact Or.inl h
          · refine Or.inr ⟨by omega, ?_⟩
            have : y = 0 := by rw [hye, List.getD_eq_getElem?_getD, List.getElem?_eq_none (by rw [← HB.out]; omega)]; rfl
            omega
        have hcy : i < nb' → ∃ b2 o2, ay = some ⟨b2, o2, none⟩ ∧ wr.cell? ⟨b2, o2 + i, none⟩ = some (.int .u64 y) := fun h => by
          obtain ⟨b2, o2, e, hat⟩ := hy.cases (by intro e; have := HB.out; rw [e] at this; simp at this; omega)
          exact ⟨b2, o2, e, by rw [hye]; exact hat.below hbw i (by rw [← HB.out]; exact h)⟩
        clear hst hend hml hab hye HSV HAB hoe HM
        by_cases hox : o < v
        · have hd1 : decide (o < v) = true := by simpa using hox
          obtain ⟨o2, ho2⟩ : ∃ o2, o + 4294967296 = o2 := ⟨_, rfl⟩
          obtain ⟨z, hz⟩ : ∃ z, o2 - v = z := ⟨_, rfl⟩
          have hze : o + 1 * 4294967296 - v = z := by omega
          have hzb0 : 0 ≤ z := by omega
          have hzb1 : z ≤ 4294967295 := by omega
          have ho2b0 : 0 ≤ o2 := by omega
          have ho2b1 : o2 ≤ 8589934591 := by omega
          have harr2 := harr.store i o2
          rw [Nat.zero_add] at harr2
          have hco2 : (wr.setCell ⟨g, i, none⟩ (.int .u64 o2)).cell? ⟨g, i, none⟩ = some (.int .u64 o2) := by
            have := harr2.at' i (by rw [(HML.out _).out]; exact hlt)
            rwa [Nat.zero_add, getD_set_same (by have := (HML.out o2).out; rw [List.length_set] at this; omega)] at this
          have hfr2 := harr2.frozen i
          have harr3 := harr2.store i z
          rw [Nat.zero_add, List.set_set] at harr3
          have hon3 := (hon.trans (Only.store (w := wr) (hi := na) i (.int .u64 o2) (Nat.zero_le _) hlt)).trans (Only.store (w := wr.setCell ⟨g, i, none⟩ (.int .u64 o2)) (hi := na) i (.int .u64 z) (Nat.zero_le _) hlt)
          have HZE := Lib.hid hze
          clear hze
          rcases hsw with hb | ⟨hb, hvc⟩
          · obtain ⟨b2, o2', rfl, hcy'⟩ := hcy hb
            clear hcy
            go_wp2_with fail
            go_roundg (na - (i + 1))
            case measure => omega
            case rel => exact ⟨i + 1, 1, m.set i z, by omega, by go_num, rfl, by decide, by decide, HML.out z, HLM.out.set i hzb0 (by unfold B32; omega), harr3, hon3, HABN.out z, by have q := (HEND.out 1).out; rw [HZE.out] at q; exact q⟩
          · clear hcy
            subst hvc
            go_wp2_with fail
            go_roundg (na - (i + 1))
            case measure => omega
            case rel => exact ⟨i + 1, 1, m.set i z, by omega, by go_num, rfl, by decide, by decide, HML.out z, HLM.out.set i hzb0 (by unfold B32; omega), harr3, hon3, HABN.out z, by have q := (HEND.out 1).out; rw [HZE.out] at q; exact q⟩
        · have hd1 : decide (o < v) = false := by simpa using hox
          obtain ⟨z, hz⟩ : ∃ z, o - v = z := ⟨_, rfl⟩
          have hze : o + 0 * 4294967296 - v = z := by omega
          have hzb0 : 0 ≤ z := by omega
          have hzb1 : z ≤ 4294967295 := by omega
          have harr3 := harr.store i z
          rw [Nat.zero_add] at harr3
          have hon3 := hon.trans (Only.store (w := wr) (hi := na) i (.int .u64 z) (Nat.zero_le _) hlt)
          have HZE := Lib.hid hze
          clear hze
          rcases hsw with hb | ⟨hb, hvc⟩
          · obtain ⟨b2, o2', rfl, hcy'⟩ := hcy hb
            clear hcy
            go_wp2_with fail
            go_roundg (na - (i + 1))
            case measure => omega
            case rel => exact ⟨i + 1, 0, m.set i z, by omega, by go_num, rfl, by decide, by decide, HML.out z, HLM.out.set i hzb0 (by unfold B32; omega), harr3, hon3, HABN.out z, by have q := (HEND.out 0).out; rw [HZE.out] at q; exact q⟩
          · clear hcy
            subst hvc
            go_wp2_with fail
            go_roundg (na - (i + 1))
            case measure => omega
            case rel => exact ⟨i + 1, 0, m.set i z, by omega, by go_num, rfl, by decide, by decide, HML.out z, HLM.out.set i hzb0 (by unfold B32; omega), harr3, hon3, HABN.out z, by have q := (HEND.out 0).out; rw [HZE.out] at q; exact q⟩
      · have hin : i = na := by omega
        have hval : vb B32 m = vb B32 a - vb B32 b := by
          have h := HSV.out
          rw [hin, List.take_of_length_le (l := b) (by rw [← HB.out]; exact hba)] at h
          have q1 := vb_lt B32_pos HLM.out
          rw [HM.out] at q1
          have q2 := HLE.out
          have q3 := pow_pos' B32_pos na
          have hcz : c = 0 := by
            rcases Int.lt_or_eq_of_le hc0 with h4 | h4
            · exfalso
              have : c = 1 := by omega
              rw [this, Int.mul_one] at h
              omega
            · exact h4.symm
          rw [hcz, Int.mul_zero] at h
          omega
        have HVAL := Lib.hid hval
        have hat : Rd wr (some ⟨g, 0, none⟩) m := Rd.of_at harr.at'
        clear hval hin HSV HAB
        go_wp2_with fail
        refine (rtrim_any (some ⟨g, 0, none⟩) na co m wr HM.out.symm q1 q2 hat).mono ?_
        rintro e w' ⟨rfl, rfl⟩
        go_wp2_with fail
        go_ret
        have htl := tlen_le m
        exact ⟨_, tlen m, tlen m, tr m, rfl, (tr_length _).symm, Nat.le_refl _, by have := HM.out; omega, hat.take _, can_tr HLM.out, by rw [vb_tr]; exact HVAL.out, hbw, fun g' o' e => by cases e; exact hgw⟩

theorem rsub_num {w : World} {u v : Value} {A B : Int} {m k : Nat} (h : RN w u A m) (g : RN w v B k) (hle : B ≤ A) (hm : m ≤ 200000) : Calls Tryd.prog 33 #[u, v] w fun e w' => RetR w (A - B) m e w' := by
  have hs : A - B < B32 ^ m := by have := h.lt; have := g.nonneg; omega
  obtain ⟨a, n, c, l, rfl, h1, h2, h3, h4, h5, rfl, h7⟩ := h.open
  obtain ⟨a', n', c', l', rfl, g1, g2, g3, g4, g5, rfl, g7⟩ := g.open
  exact (rsub_any a n c l a' n' c' l' w h1 g1 h2 h3 g2 g3 h4 g4 h5.lim g5 (by unfold MaxW; omega) hle).mono fun e w' hr => hr.retr hs


/-- How many zero bits a number ends with; 0 of 0. -/
def LowOf (N : Int) (t : Nat) : Prop := (N = 0 ∧ t = 0) ∨ (N ≠ 0 ∧ IsLow N t)
theorem isLow_unique {N : Int} {s t : Nat} (h : IsLow N s) (k : IsLow N t) : s = t := by
  obtain ⟨x, hx⟩ := h
  obtain ⟨y, hy⟩ := k
  have key : ∀ {a b : Nat} {x y : Int}, a < b → (2 : Int) ^ a * (2 * x + 1) = 2 ^ b * (2 * y + 1) → False := by
    intro a b x y hab he
    obtain ⟨d, rfl⟩ := Nat.le.dest hab
    have e1 : (2 : Int) ^ (a + 1 + d) = 2 ^ a * (2 * 2 ^ d) := by
      rw [show a + 1 + d = a + (1 + d) by omega, Int.pow_add, Int.pow_add]; rfl
    rw [e1, Int.mul_assoc] at he
    have h2 := Int.eq_of_mul_eq_mul_left (by have := pow2_pos a; omega) he
    rw [Int.mul_assoc] at h2
    omega
  rcases Nat.lt_trichotomy s t with h | h | h
  · exact (key h (hx.symm.trans hy)).elim
  · exact h
  · exact (key h (hy.symm.trans hx)).elim
theorem lowOf_unique {N : Int} {s t : Nat} (h : LowOf N s) (k : LowOf N t) : s = t := by
  rcases h with ⟨h1, h2⟩ | ⟨h1, h2⟩ <;> rcases k with ⟨k1, k2⟩ | ⟨k1, k2⟩
  · omega
  · exact (k1 h1).elim
  · exact (h1 k1).elim
  · exact isLow_unique h2 k2

set_option maxRecDepth 100000 in
theorem low_zero (ao : Option Addr) (n cap : Nat) (l : List Int) (w : World) (hn : n = l.length) (_h1 : n ≤ cap) (_h2 : cap ≤ 9223372036854775807) (h : Rd w ao l) (hl : Lim B64 l) (hz : vb B64 l = 0) :
    Calls Tryd.prog 59 #[.slice ao n cap] w fun e w' => e = .returned (.int .i64 0) ∧ w = w' := by
  have hzero : ∀ j, l.getD j 0 = 0 := fun j => vb_zero_above B64_pos hl (n := 0) (by rw [hz, Int.pow_zero]; decide) j (Nat.zero_le _)
  have HN := Lib.hid hn
  have HZ := Lib.hid hzero
  clear hn hz hzero
  by_cases h0 : n = 0
  · have hI : ¬ (0 : Int) < (n : Int) := by omega
    clear h0
    go_enter Tryd.func59, Tryd.ntmps59
    go_wp2
    refine wp_loop_rounds 1 ?_
    rw [rounds_succ]
    go_wp2
    go_ret
    exact ⟨rfl, rfl⟩
  · obtain ⟨b, off, rfl, hat⟩ := h.cases (by intro e; have := HN.out; rw [e] at this; simp at this; omega)
    go_enter Tryd.func59, Tryd.ntmps59
    go_wp2
    go_loop [7] (fun ii => ∃ i : Nat, i ≤ n ∧ ii = .int .i64 i) (fun ii => n - (intOf ii).toNat)
    case atStart => exact ⟨0, Nat.zero_le _, rfl⟩
    case round =>
      obtain ⟨i, hi, rfl⟩ := hrel
      by_cases hlt : i < n
      · have hcx : w.cell? ⟨b, off + i, none⟩ = some (.int .u64 0) := by
          have := hat i (by rw [← HN.out]; exact hlt)
          rwa [HZ.out] at this
        go_wp2
        go_round
        case rel => exact ⟨i + 1, by omega, by go_num⟩
        case measure => simp [intOf]; omega
      · go_wp2
        go_ret
        exact ⟨rfl, rfl⟩
theorem lowall_num {w : World} {u : Value} {N : Int} {m : Nat} (h : Num w u N m) (hm : m ≤ 1000) (hT : Tab64 w) :
    Calls Tryd.prog 59 #[u] w fun e w' => ∃ t : Nat, e = .returned (.int .i64 t) ∧ LowOf N t ∧ w = w' := by
  by_cases h0 : N = 0
  · obtain ⟨a, n, c, l, rfl, h1, h2, h3, h4, h5, hv, h7⟩ := h.open
    refine (low_zero a n c l w h1 h2 h3 h4 h5 (by rw [hv]; exact h0)).mono ?_
    rintro e w' ⟨rfl, rfl⟩
    exact ⟨0, rfl, Or.inl ⟨h0, rfl⟩, rfl⟩
  · refine (low_num h hm hT h0).mono ?_
    rintro e w' ⟨t, rfl, ht, -, rfl⟩
    exact ⟨t, rfl, Or.inr ⟨h0, ht⟩, rfl⟩
set_option maxRecDepth 100000 in
theorem rlow_zero (ao : Option Addr) (n cap : Nat) (w : World) (h0 : n = 0) :
    Calls Tryd.prog 46 #[.slice ao n cap] w fun e w' => e = .returned (.int .i64 0) ∧ w = w' := by
  have hI : ¬ (0 : Int) < (n : Int) := by omega
  clear h0
  go_enter Tryd.func46, Tryd.ntmps46
  go_wp2
  refine wp_loop_rounds 1 ?_
  rw [rounds_succ]
  go_wp2
  go_ret
  exact ⟨rfl, rfl⟩
theorem rlowall_num {w : World} {u : Value} {N : Int} {m : Nat} (h : RN w u N m) (hm : m ≤ 100000) :
    Calls Tryd.prog 46 #[u] w fun e w' => ∃ t : Nat, e = .returned (.int .i64 t) ∧ LowOf N t ∧ w = w' := by
  by_cases h0 : N = 0
  · obtain ⟨a, n, c, l, rfl, h1, h2, h3, h4, h5, hv, h7⟩ := h.open
    refine (rlow_zero a n c w (h.len.1.2 h0)).mono ?_
    rintro e w' ⟨rfl, rfl⟩
    exact ⟨0, rfl, Or.inl ⟨h0, rfl⟩, rfl⟩
  · obtain ⟨a, n, c, l, rfl, h1, h2, h3, h4, h5, hv, h7⟩ := h.open
    refine (rlow_any a n c l w h1 h2 h3 h4 h5.lim (by unfold MaxW; omega) (by rw [hv]; exact h0)).mono ?_
    rintro e w' ⟨t, rfl, ht, -, rfl⟩
    rw [hv] at ht
    exact ⟨t, rfl, Or.inr ⟨h0, ht⟩, rfl⟩
theorem rbits_num {w : World} {u : Value} {N : Int} {m : Nat} (h : RN w u N m) (hm : m ≤ 100000) :
    Calls Tryd.prog 41 #[u] w fun e w' => e = .returned (.int .i64 (nb N)) ∧ w = w' := by
  obtain ⟨a, n, c, l, rfl, h1, h2, h3, h4, h5, rfl, h7⟩ := h.open
  exact rbits_any a n c l w h1 h2 h3 h4 h5 (by unfold MaxW; omega)
set_option maxRecDepth 100000 in
theorem shl_out {w : World} (a : Option Addr) (n c : Nat) (k : Int) (h : 16777216 < k ∨ k < -16777216) :
    Calls Tryd.prog 66 #[.slice a n c, .int .i64 k] w fun e w' => e = .returned (.slice none 0 0) ∧ w = w' := by
  by_cases h1 : 16777216 < k
  · clear h
    go_enter Tryd.func66, Tryd.ntmps66
    go_wp2_with fail
    go_ret
    exact ⟨rfl, rfl⟩
  · have h2 : k < -16777216 := by omega
    clear h
    go_enter Tryd.func66, Tryd.ntmps66
    go_wp2_with fail
    go_ret
    exact ⟨rfl, rfl⟩
set_option maxRecDepth 100000 in
theorem shr_neg_num {w : World} {u : Value} {N : Int} {m p : Nat} (k : Nat) (h : Num w u N m) (hk : k ≤ 16777216) (hp : m + k / 64 + 1 ≤ p) (hm : m ≤ 100000) :
    Calls Tryd.prog 64 #[u, .int .i64 (-(k : Int))] w fun e w' => RetN w (N * 2 ^ k) p e w' := by
  have hS := Lib.hid (shl_num (p := p) k h hk hp hm)
  have e : IntKind.i64.wrap (-(-(k : Int))) = (k : Int) := by rw [IntKind.wrap_i64]; omega
  obtain ⟨a, n, c, l, rfl, -⟩ := h.open
  go_enter Tryd.func64, Tryd.ntmps64
  go_wp2_with (simp only [e])
  refine hS.out.mono ?_
  rintro e w' ⟨a', n', c', rfl, h1, h2⟩
  go_wp2_with fail
  go_ret
  exact ⟨a', n', c', rfl, h1, h2⟩
set_option maxRecDepth 100000 in
theorem shr_out {w : World} (a : Option Addr) (n c : Nat) (k : Int) (hk0 : -9223372036854775808 ≤ k) (hk1 : k ≤ 9223372036854775807) (h : 16777216 < k ∨ k < -16777216) :
    Calls Tryd.prog 64 #[.slice a n c, .int .i64 k] w fun e w' => e = .returned (.slice none 0 0) ∧ w = w' := by
  obtain ⟨j, hj⟩ : ∃ j, IntKind.i64.wrap (-k) = j := ⟨_, rfl⟩
  have hjo : 16777216 < j ∨ j < -16777216 := by rw [IntKind.wrap_i64] at hj; omega
  have hS := Lib.hid (shl_out (w := w) a n c j hjo)
  clear hjo h
  go_enter Tryd.func64, Tryd.ntmps64
  go_wp2_with (simp only [hj])
  refine hS.out.mono ?_
  rintro e w' ⟨rfl, rfl⟩
  go_wp2_with fail
  go_ret
  exact ⟨rfl, rfl⟩
end Go.Proofs.YtjmipbljoblnnaaDoor

namespace Go.Proofs.YtjmipbljoblnnaaDoor
open Go.RowKit

/-- A dyad of the document's that is the integer Z. -/
def RZ (w : World) (v : Value) (Z : Int) (m b : Nat) : Prop :=
  ∃ neg a n c N E, v = .agg #[.bool neg, .slice a n c, .int .i64 ((E : Nat) : Int)] ∧ RN w (.slice a n c) N m ∧ Z = sg neg N * 2 ^ E ∧ (N = 0 → neg = false ∧ E = 0) ∧ (N ≠ 0 → ∃ z, N = 2 * z + 1) ∧ E ≤ b
def RetZ (w : World) (Z : Int) (m b : Nat) (e : Ending) (w' : World) : Prop :=
  ∃ neg a n c E, e = .returned (.agg #[.bool neg, .slice a n c, .int .i64 ((E : Nat) : Int)]) ∧ RZ w' (.agg #[.bool neg, .slice a n c, .int .i64 ((E : Nat) : Int)]) Z m b ∧ Below w.heap.size w w'
theorem RZ.below {w w' : World} {v : Value} {Z : Int} {m b : Nat} (h : RZ w v Z m b) (hb : Below w.heap.size w w') : RZ w' v Z m b := by
  obtain ⟨neg, a, n, c, N, E, h1, h2, h3⟩ := h
  exact ⟨neg, a, n, c, N, E, h1, h2.below hb, h3⟩
theorem RZ.eq {w : World} {v : Value} {Z Z' : Int} {m b : Nat} (h : RZ w v Z m b) (e : Z = Z') : RZ w v Z' m b := e ▸ h
theorem RZ.mono {w : World} {v : Value} {Z : Int} {m b m' b' : Nat} (h : RZ w v Z m b) (hm : m ≤ m') (hb : b ≤ b') : RZ w v Z m' b' := by
  obtain ⟨neg, a, n, c, N, E, h1, h2, h3, h4, h5, h6⟩ := h
  exact ⟨neg, a, n, c, N, E, h1, h2.mono hm, h3, h4, h5, Nat.le_trans h6 hb⟩

/-- The cells of a variable of three fields. -/
theorem slot3 {w : World} {g : Nat} {x y z : Value} {t : TypeId} (h : w.heap[g]? = some (.cells #[x, y, z] t (0, 0))) :
    (w.cell? ⟨g, 0, none⟩ = some x ∧ w.cell? ⟨g, 1, none⟩ = some y ∧ w.cell? ⟨g, 2, none⟩ = some z) ∧ w.frozen? ⟨g, 0, none⟩ = false ∧ w.frozen? ⟨g, 1, none⟩ = false ∧ w.frozen? ⟨g, 2, none⟩ = false :=
  ⟨⟨cell_of_row w g 0 _ t _ h, cell_of_row w g 1 _ t _ h, cell_of_row w g 2 _ t _ h⟩, frozen_of_row w g 0 _ t h, frozen_of_row w g 1 _ t h, frozen_of_row w g 2 _ t h⟩
theorem slot3_set {w : World} {g : Nat} {x y z u v s : Value} {t : TypeId} (h : w.heap[g]? = some (.cells #[x, y, z] t (0, 0))) :
    (((w.setCell ⟨g, 0, none⟩ u).setCell ⟨g, 1, none⟩ v).setCell ⟨g, 2, none⟩ s).heap[g]? = some (.cells #[u, v, s] t (0, 0)) := by
  have h1 := heap_setCell_same w g 0 _ t u h
  have h2 := heap_setCell_same (w.setCell ⟨g, 0, none⟩ u) g 1 _ t v h1
  have h3 := heap_setCell_same ((w.setCell ⟨g, 0, none⟩ u).setCell ⟨g, 1, none⟩ v) g 2 _ t s h2
  rw [h3]; rfl
theorem slot3_only {w : World} {g : Nat} (u v s : Value) : Only g 0 3 w (((w.setCell ⟨g, 0, none⟩ u).setCell ⟨g, 1, none⟩ v).setCell ⟨g, 2, none⟩ s) :=
  ((Only.store 0 u (Nat.le_refl _) (by decide)).trans (Only.store 1 v (by decide) (by decide))).trans (Only.store 2 s (by decide) (by decide))
/-- A number whose words do not lie in the block that is written. -/
theorem RN.only {w w' : World} {a : Option Addr} {n c : Nat} {N : Int} {m g lo hi : Nat} (h : RN w (.slice a n c) N m) (ho : Only g lo hi w w') (hne : n ≠ 0 → ∀ b o, a = some ⟨b, o, none⟩ → b ≠ g) : RN w' (.slice a n c) N m := by
  obtain ⟨l, a', c', he, h2, h3, h4, h5⟩ := h
  simp only [Value.slice.injEq] at he
  obtain ⟨rfl, rfl, rfl⟩ := he
  refine ⟨l, a, c, rfl, h2, h3, ?_, h5⟩
  rcases h4 with rfl | ⟨b, o, rfl, hat⟩
  · exact Rd.nil _ _
  · by_cases hl : l = []
    · subst hl; exact Rd.nil _ _
    · exact Or.inr ⟨b, o, rfl, ho.at' hat (hne (by intro e; exact hl (List.eq_nil_of_length_eq_zero e)) b o rfl)⟩
/-- Digits never lie in a variable of the program. -/
theorem RN.var {w w' : World} {a : Option Addr} {n c : Nat} {N : Int} {m g lo hi : Nat} (h : RN w (.slice a n c) N m) {p : Bool} {a1 : Option Addr} {n1 c1 : Nat} {E : Int} {t : TypeId} (hv : w.heap[g]? = some (.cells #[.bool p, .slice a1 n1 c1, .int .i64 E] t (0, 0))) (ho : Only g lo hi w w') : RN w' (.slice a n c) N m := by
  refine h.only ho fun hn b o e => ?_
  obtain ⟨l, a', c', he, h2, h3, h4, h5⟩ := h
  simp only [Value.slice.injEq] at he
  obtain ⟨rfl, rfl, rfl⟩ := he
  rintro rfl
  subst e
  have hat := h4.at' 0 (by omega)
  rw [cell_of_row w b _ _ t _ hv] at hat
  match o, hat with
  | 0, hat => simp at hat
  | 1, hat => simp at hat
  | 2, hat => simp at hat
  | o + 3, hat => simp at hat

/-- The one form of a number times a power of two. -/
theorem low_split {N : Int} {t : Nat} (h : LowOf N t) (hN : N ≠ 0) : N / 2 ^ t * 2 ^ t = N ∧ ∃ z, N / 2 ^ t = 2 * z + 1 := by
  rcases h with ⟨h1, -⟩ | ⟨-, z, hz⟩
  · exact (hN h1).elim
  · have hp := pow2_pos t
    have e : N / 2 ^ t = 2 * z + 1 := by rw [hz, Int.mul_ediv_cancel_left _ (by omega)]
    exact ⟨by rw [e, hz, Int.mul_comm], z, e⟩
theorem low_le {N : Int} {t m : Nat} (h : LowOf N t) (h0 : 0 ≤ N) (hN : N < B32 ^ m) : t ≤ 32 * m := by
  rcases h with ⟨-, h2⟩ | ⟨h1, z, hz⟩
  · omega
  · have hp := pow2_pos t
    have hz0 : 1 ≤ 2 * z + 1 := by
      rcases Int.lt_or_le (2 * z + 1) 1 with h3 | h3
      · exfalso
        have : 2 ^ t * (2 * z + 1) ≤ 2 ^ t * 0 := Int.mul_le_mul_of_nonneg_left (by omega) (by omega)
        omega
      · exact h3
    have h4 : (2 : Int) ^ t * 1 ≤ 2 ^ t * (2 * z + 1) := Int.mul_le_mul_of_nonneg_left hz0 (by omega)
    have h5 : (2 : Int) ^ t < 2 ^ (32 * m) := by
      rw [show (2 : Int) ^ (32 * m) = B32 ^ m by rw [Int.pow_mul]; rfl]
      omega
    have := two_pow_lt_of h5
    omega

theorem RetZ.mk {w w' : World} {neg : Bool} {a : Option Addr} {n c : Nat} {N Z : Int} {m b E : Nat} (h : RN w' (.slice a n c) N m) (hz : Z = sg neg N * 2 ^ E) (h0 : N = 0 → neg = false ∧ E = 0) (h1 : N ≠ 0 → ∃ z, N = 2 * z + 1) (hE : E ≤ b) (hb : Below w.heap.size w w') :
    RetZ w Z m b (.returned (.agg #[.bool neg, .slice a n c, .int .i64 ((E : Nat) : Int)])) w' :=
  ⟨neg, a, n, c, E, rfl, ⟨neg, a, n, c, N, E, rfl, h, hz, h0, h1, hE⟩, hb⟩
set_option maxRecDepth 100000 in
set_option maxHeartbeats 1000000 in
theorem rmake_num {w : World} (neg : Bool) {a : Option Addr} {n c : Nat} {N : Int} {m : Nat} (e : Nat) (h : RN w (.slice a n c) N m) (he : e ≤ 1000000) (hm : m ≤ 10000) :
    Calls Tryd.prog 27 #[.bool neg, .slice a n c, .int .i64 (e : Int)] w fun e' w' => RetZ w (sg neg N * 2 ^ e) m (e + 32 * m) e' w' := by
  have hb0 := below_alloc w (.cells #[.bool false, .slice none 0 0, .int .i64 0] 31)
  have hl := h.len.1
  have h0 := h.nonneg
  by_cases hn : n = 0
  · have hN : N = 0 := hl.1 hn
    have hz : ((n : Int) == 0) = true := by simp; omega
    have HN := Lib.hid hN
    clear hl hn hN
    go_enter Tryd.func27, Tryd.ntmps27
    go_wp2_with fail
    refine bodyPost_ret (v := .agg #[.bool false, .slice none 0 0, .int .i64 ((0 : Nat) : Int)]) (results_cell_row rfl _ _ w.heap.size 31 _ (0, 0) _ rfl (heap_alloc_new w _) Tryd.underlying31 rfl (by kernel_rfl)) rfl ?_
    exact RetZ.mk (RN.nil _ _) (by rw [HN.out]; cases neg <;> simp [sg]) (fun _ => ⟨rfl, rfl⟩) (fun h => absurd rfl h) (Nat.zero_le _) hb0
  · have hN : N ≠ 0 := fun e => hn (hl.2 e)
    have hz : ((n : Int) == 0) = false := by simp; omega
    have hlt := h.lt
    have h' := h.below hb0
    have HN := Lib.hid hN
    clear hl hn hN
    go_enter Tryd.func27, Tryd.ntmps27
    go_wp2_with fail
    refine (rlowall_num h' (by omega)).mono ?_
    rintro e' w' ⟨t, rfl, ht, rfl⟩
    have htm := low_le ht h0 hlt
    go_wp2_with fail
    refine (rshr_num t h' (by omega) (by omega)).mono ?_
    rintro e' w2 ⟨a1, n1, c1, rfl, h1, hb2⟩
    have hblk := slot_kept (heap_alloc_new w (.cells #[.bool false, .slice none 0 0, .int .i64 0] 31)) hb2
    obtain ⟨⟨k0, k1, k2⟩, f0, f1, f2⟩ := slot3 hblk
    have hbw := hb0.trans (hb2.mono hb0.size)
    obtain ⟨E, hE⟩ : ∃ E, e + t = E := ⟨_, rfl⟩
    have hEI : (e : Int) + (t : Int) = (E : Int) := by omega
    obtain ⟨hsp, hodd⟩ := low_split ht HN.out
    have hend := slot3_set (u := .bool neg) (v := .slice a1 n1 c1) (s := .int .i64 (E : Int)) hblk
    have hon := slot3_only (w := w2) (g := w.heap.size) (.bool neg) (.slice a1 n1 c1) (.int .i64 (E : Int))
    have hr := RN.var h1 hblk hon
    have hsg : sg neg (N / 2 ^ t) * 2 ^ t = sg neg N := by rw [← sg_scale, hsp]
    have hwr : wrap64 (E : Int) = (E : Int) := by unfold wrap64; omega
    have hret := RetZ.mk (w := w) (Z := sg neg N * 2 ^ e) (neg := neg) (b := e + 32 * m) (E := E) hr (by rw [← hE, Int.pow_add, Int.mul_comm (2 ^ e) (2 ^ t), ← Int.mul_assoc, hsg]) (fun h => by obtain ⟨z, hz'⟩ := hodd; omega) (fun _ => hodd) (by omega) (hbw.trans (hon.below (Nat.le_refl _) hbw.size))
    have HR := Lib.hid hret
    clear hret hr hsp hsg hodd hE ht htm h1 h'
    go_wp2_with fail
    exact bodyPost_ret (results_cell_row rfl _ _ w.heap.size 31 _ (0, 0) _ rfl hend Tryd.underlying31 rfl (by kernel_rfl)) rfl HR.out

theorem rz_sign {neg : Bool} {N Z : Int} {E : Nat} (h : 0 ≤ N) (hz : Z = sg neg N * 2 ^ E) : cmpI Z 0 = if N = 0 then 0 else if neg = true then -1 else 1 := by
  have hp := pow2_pos E
  by_cases h0 : N = 0
  · rw [if_pos h0, hz, h0]
    cases neg <;> simp [sg, cmpI_eq]
  · rw [if_neg h0]
    have hN : 0 < N * 2 ^ E := Int.mul_pos (by omega) hp
    cases neg
    · rw [if_neg (by decide), hz, sg_false, cmpI_gt hN]
    · rw [if_pos rfl, hz, sg_true, Int.neg_mul, cmpI_lt (by omega)]
set_option maxRecDepth 100000 in
theorem rsign_num {w : World} {neg : Bool} {a : Option Addr} {n c E : Nat} {Z : Int} {m b : Nat} (h : RZ w (.agg #[.bool neg, .slice a n c, .int .i64 (E : Int)]) Z m b) :
    Calls Tryd.prog 17 #[.agg #[.bool neg, .slice a n c, .int .i64 (E : Int)]] w fun e w' => RetV w (.int .i64 (cmpI Z 0)) e w' := by
  obtain ⟨neg', a', n', c', N, E', he, h1, h2, h3, h4, h5⟩ := h
  simp only [Value.agg.injEq, Array.mk.injEq, List.cons.injEq, Value.bool.injEq, Value.slice.injEq, Value.int.injEq, and_true, true_and] at he
  obtain ⟨rfl, ⟨rfl, rfl, rfl⟩, hE⟩ := he
  obtain rfl : E = E' := by omega
  have hs := rz_sign h1.nonneg h2
  have hl := h1.len.1
  have hb0 := below_alloc w (.cells #[.bool neg, .slice a n c, .int .i64 (E : Int)] 31)
  by_cases hn : n = 0
  · rw [if_pos (hl.1 hn)] at hs
    have hz : ((n : Int) == 0) = true := by simp; omega
    have HS := Lib.hid hs
    clear hs hl hn h1 h2 h3 h4 h5 hE
    go_enter Tryd.func17, Tryd.ntmps17
    go_wp2_with fail
    go_ret
    exact ⟨by rw [HS.out]; rfl, hb0⟩
  · rw [if_neg (fun e => hn (hl.2 e))] at hs
    have hz : ((n : Int) == 0) = false := by simp; omega
    cases neg
    · have HS := Lib.hid hs
      clear hs hl hn h1 h2 h3 h4 h5 hE
      go_enter Tryd.func17, Tryd.ntmps17
      go_wp2_with fail
      go_ret
      exact ⟨by rw [HS.out]; rfl, hb0⟩
    · have HS := Lib.hid hs
      clear hs hl hn h1 h2 h3 h4 h5 hE
      go_enter Tryd.func17, Tryd.ntmps17
      go_wp2_with fail
      go_ret
      exact ⟨by rw [HS.out]; rfl, hb0⟩

theorem RZ.var {w w' : World} {v : Value} {Z : Int} {m b g lo hi : Nat} (h : RZ w v Z m b) {p : Bool} {a1 : Option Addr} {n1 c1 : Nat} {E : Int} {t : TypeId} (hv : w.heap[g]? = some (.cells #[.bool p, .slice a1 n1 c1, .int .i64 E] t (0, 0))) (ho : Only g lo hi w w') : RZ w' v Z m b := by
  obtain ⟨neg, a, n, c, N, E', h1, h2, h3⟩ := h
  exact ⟨neg, a, n, c, N, E', h1, h2.var hv ho, h3⟩
theorem RZ.open {w : World} {neg : Bool} {a : Option Addr} {n c E : Nat} {Z : Int} {m b : Nat} (h : RZ w (.agg #[.bool neg, .slice a n c, .int .i64 (E : Int)]) Z m b) :
    ∃ N, RN w (.slice a n c) N m ∧ Z = sg neg N * 2 ^ E ∧ (N = 0 → neg = false ∧ E = 0) ∧ (N ≠ 0 → ∃ z, N = 2 * z + 1) ∧ E ≤ b := by
  obtain ⟨neg', a', n', c', N, E', he, h1, h2, h3, h4, h5⟩ := h
  simp only [Value.agg.injEq, Array.mk.injEq, List.cons.injEq, Value.bool.injEq, Value.slice.injEq, Value.int.injEq, and_true, true_and] at he
  obtain ⟨rfl, ⟨rfl, rfl, rfl⟩, hE⟩ := he
  obtain rfl : E = E' := by omega
  exact ⟨N, h1, h2, h3, h4, h5⟩
theorem rz_neg {neg : Bool} {N Z : Int} {E : Nat} (hz : Z = sg neg N * 2 ^ E) : sg (!neg) N * 2 ^ E = -Z := by
  rw [hz]; cases neg <;> simp [sg, Int.neg_mul]
theorem nb_shift {N : Int} (E : Nat) (h : 0 < N) : nb (N * 2 ^ E) = nb N + E := by
  obtain ⟨h1, h2, h3⟩ := nb_spec h
  have hp := pow2_pos E
  refine nb_eq (by omega) ?_ ?_
  · rw [show nb N + E - 1 = (nb N - 1) + E by omega, Int.pow_add]; exact Int.mul_le_mul_of_nonneg_right h1 (by omega)
  · rw [Int.pow_add]; exact Int.mul_lt_mul_of_pos_right h2 hp
def absI (Z : Int) : Int := if Z < 0 then -Z else Z
theorem rz_abs {neg : Bool} {N Z : Int} {E : Nat} (h : 0 ≤ N) (hz : Z = sg neg N * 2 ^ E) : absI Z = N * 2 ^ E := by
  have hp := pow2_pos E
  have h1 : 0 ≤ N * 2 ^ E := Int.mul_nonneg h (by omega)
  unfold absI
  cases neg
  · rw [hz, sg_false]; split <;> omega
  · rw [hz, sg_true, Int.neg_mul]; split <;> omega
set_option maxRecDepth 100000 in
set_option maxHeartbeats 1000000 in
theorem rnot_num {w : World} {neg : Bool} {a : Option Addr} {n c E : Nat} {Z : Int} {m b : Nat} (h : RZ w (.agg #[.bool neg, .slice a n c, .int .i64 (E : Int)]) Z m b) (hb : b ≤ 1000000) (hm : m ≤ 10000) :
    Calls Tryd.prog 34 #[.agg #[.bool neg, .slice a n c, .int .i64 (E : Int)]] w fun e w' => RetZ w (-Z) m (b + 32 * m) e w' := by
  obtain ⟨N, h1, h2, h3, h4, h5⟩ := h.open
  have hz := rz_neg h2
  obtain ⟨w1, hw1⟩ : ∃ w1, w.alloc (.cells #[.bool neg, .slice a n c, .int .i64 (E : Int)] 31) = w1 := ⟨_, rfl⟩
  have hb1 : Below w.heap.size w w1 := hw1 ▸ below_alloc w _
  have hc1 : w1.heap[w.heap.size]? = some (.cells #[.bool neg, .slice a n c, .int .i64 (E : Int)] 31 (0, 0)) := hw1 ▸ heap_alloc_new w _
  have hb2 := below_alloc w1 (.cells #[.bool false, .slice none 0 0, .int .i64 0] 31)
  have hc2 := heap_alloc_new w1 (.cells #[.bool false, .slice none 0 0, .int .i64 0] 31)
  have hk := slot_kept hc1 hb2
  obtain ⟨⟨k0, k1, k2⟩, -⟩ := slot3 hk
  have hb12 := hb1.trans (hb2.mono hb1.size)
  have h1' := h1.below hb12
  clear h h1 h2 h3 h4 hb2 hk hc1
  go_enter Tryd.func34, Tryd.ntmps34
  go_wp2_with fail
  refine (rmake_num (!neg) E h1' (by omega) hm).mono ?_
  rintro e' w3 ⟨neg', a1, n1, c1, E1, rfl, hr, hb3⟩
  have hblk := slot_kept hc2 hb3
  obtain ⟨⟨q0, q1, q2⟩, f0, f1, f2⟩ := slot3 hblk
  have hend := slot3_set (u := .bool neg') (v := .slice a1 n1 c1) (s := .int .i64 (E1 : Int)) hblk
  have hon := slot3_only (w := w3) (g := w1.heap.size) (.bool neg') (.slice a1 n1 c1) (.int .i64 (E1 : Int))
  have hr' := ((hr.var hblk hon).eq hz).mono (Nat.le_refl m) (by omega : E + 32 * m ≤ b + 32 * m)
  have hbw := hb12.trans (hb3.mono hb12.size)
  have hret : RetZ w (-Z) m (b + 32 * m) (.returned (.agg #[.bool neg', .slice a1 n1 c1, .int .i64 (E1 : Int)])) (((w3.setCell ⟨w1.heap.size, 0, none⟩ (.bool neg')).setCell ⟨w1.heap.size, 1, none⟩ (.slice a1 n1 c1)).setCell ⟨w1.heap.size, 2, none⟩ (.int .i64 (E1 : Int))) :=
    ⟨neg', a1, n1, c1, E1, rfl, hr', hbw.trans (hon.below hb1.size hbw.size)⟩
  have HR := Lib.hid hret
  clear hret hr hr' hz h1'
  go_wp2_with fail
  exact bodyPost_ret (results_cell_row rfl _ _ w1.heap.size 31 _ (0, 0) _ rfl hend Tryd.underlying31 rfl (by kernel_rfl)) rfl HR.out

set_option maxRecDepth 100000 in
set_option maxHeartbeats 1000000 in
theorem rtop_num {w : World} {neg : Bool} {a : Option Addr} {n c E : Nat} {Z : Int} {m b : Nat} (h : RZ w (.agg #[.bool neg, .slice a n c, .int .i64 (E : Int)]) Z m b) (hb : b ≤ 1000000) (hm : m ≤ 10000) :
    Calls Tryd.prog 44 #[.agg #[.bool neg, .slice a n c, .int .i64 (E : Int)]] w fun e w' => RetV w (.int .i64 ((nb (absI Z) : Nat) : Int)) e w' := by
  obtain ⟨N, h1, h2, h3, h4, h5⟩ := h.open
  have hs := rz_sign h1.nonneg h2
  have ha := rz_abs h1.nonneg h2
  obtain ⟨w1, hw1⟩ : ∃ w1, w.alloc (.cells #[.bool neg, .slice a n c, .int .i64 (E : Int)] 31) = w1 := ⟨_, rfl⟩
  have hb1 : Below w.heap.size w w1 := hw1 ▸ below_alloc w _
  have hc1 : w1.heap[w.heap.size]? = some (.cells #[.bool neg, .slice a n c, .int .i64 (E : Int)] 31 (0, 0)) := hw1 ▸ heap_alloc_new w _
  obtain ⟨⟨k0, k1, k2⟩, -⟩ := slot3 hc1
  have h' := h.below hb1
  by_cases hN : N = 0
  · rw [if_pos hN] at hs
    rw [hN, Int.zero_mul] at ha
    have HA : Hid (((nb (absI Z) : Nat) : Int) = 0) := by show _ = _; rw [ha]; rfl
    clear h h1 h2 h3 h4 hN ha
    go_enter Tryd.func44, Tryd.ntmps44
    go_wp2_with fail
    refine (rsign_num h').mono ?_
    rw [hs]
    rintro e w2 ⟨rfl, hb2⟩
    go_wp2_with fail
    go_ret
    exact ⟨by rw [HA.out]; rfl, hb1.trans (hb2.mono hb1.size)⟩
  · have h0 := h1.nonneg
    obtain ⟨s, hs1, hs0⟩ : ∃ s : Int, cmpI Z 0 = s ∧ (s == 0) = false := by
      refine ⟨_, rfl, ?_⟩
      rw [hs, if_neg hN]; cases neg <;> decide
    have hnb : nb (absI Z) = nb N + E := by rw [ha]; exact nb_shift E (by omega)
    have hnl : nb N ≤ 32 * m := by
      have hlt := h1.lt
      obtain ⟨q1, q2, q3⟩ := nb_spec (by omega : 0 < N)
      have h5 : (2 : Int) ^ (nb N - 1) < 2 ^ (32 * m) := by
        rw [show (2 : Int) ^ (32 * m) = B32 ^ m by rw [Int.pow_mul]; rfl]
        omega
      have := two_pow_lt_of h5
      omega
    obtain ⟨T, hT⟩ : ∃ T, nb N + E = T := ⟨_, rfl⟩
    have hTb : T ≤ 2000000 := by omega
    have HA : Hid (((nb (absI Z) : Nat) : Int) = (T : Int)) := by show _ = _; rw [hnb, hT]
    have hsum : ((nb N : Nat) : Int) + (E : Int) = (T : Int) := by omega
    have hwr : IntKind.i64.wrap (T : Int) = (T : Int) := by rw [IntKind.wrap_i64]; omega
    clear h h2 h3 h4 hN ha hs hnb hnl hT h0
    go_enter Tryd.func44, Tryd.ntmps44
    go_wp2_with fail
    refine (rsign_num h').mono ?_
    rw [hs1]
    rintro e w2 ⟨rfl, hb2⟩
    have hcz := slot_kept hc1 hb2
    have h1' := (h1.below hb1).below hb2
    have hb3 := hb1.trans (hb2.mono hb1.size)
    clear h' h1 hb1 hb2 k0 k1 k2 hc1
    go_upto_region 3 with fail
    refine wp_region_slots (by kernel_rfl) [6, 7, 8, 9, 10, 11, 2] (fun w' => w'.heap[w.heap.size]? = some (.cells #[.bool neg, .slice a n c, .int .i64 (E : Int)] 31 (0, 0)) ∧ RN w' (.slice a n c) N m ∧ Below w2.heap.size w2 w') (Said [Is (.pointer (some ⟨w.heap.size, 1, none⟩)), Is (.slice a n c), Is (.int .i64 ((nb N : Nat) : Int)), Is (.pointer (some ⟨w.heap.size, 2, none⟩)), Is (.int .i64 (E : Int)), Is (.int .i64 (T : Int)), Is (.int .i64 (T : Int))]) (by kernel_rfl) (by kernel_rfl) (by kernel_rfl) (by kernel_rfl) (Said.keep ?keep) ⟨slot_kept hcz (bdn (Below.refl _ _) 1), h1'.below (bdn (Below.refl _ _) 1), bdn (Below.refl _ _) 1⟩ (l := [0, 1, 2, 3, 4, 5, 6]) (by kernel_rfl) ?step ?fin
    case keep =>
      refine List.forall_mem_cons.2 ⟨Is.keeps _, ?_⟩
      refine List.forall_mem_cons.2 ⟨Is.keeps _, ?_⟩
      refine List.forall_mem_cons.2 ⟨Is.keeps _, ?_⟩
      refine List.forall_mem_cons.2 ⟨Is.keeps _, ?_⟩
      refine List.forall_mem_cons.2 ⟨Is.keeps _, ?_⟩
      refine List.forall_mem_cons.2 ⟨Is.keeps _, ?_⟩
      refine List.forall_mem_cons.2 ⟨Is.keeps _, ?_⟩
      exact fun _ h => nomatch h
    case step =>
      refine List.forall_mem_cons.2 ⟨?_, ?_⟩
      · refine SlotStep.plain rfl rfl rfl ?_
        intro tm ws hsame hS hg K hK
        have e1 : tm[1]? = some (.pointer (some ⟨w.heap.size, 0, none⟩)) := hsame.2 1 rfl
        go_simp
        exact hK _ _ (Below.refl _ _) hS rfl
      refine List.forall_mem_cons.2 ⟨?_, ?_⟩
      · refine SlotStep.plain rfl rfl rfl ?_
        intro tm ws hsame hS hg K hK
        obtain ⟨v6, e6, rfl⟩ := hg 0 (by kernel_rfl) _ 6 rfl rfl
        obtain ⟨⟨k0, k1, k2⟩, -⟩ := slot3 hS.1
        go_simp
        exact hK _ _ (Below.refl _ _) hS rfl
      refine List.forall_mem_cons.2 ⟨?_, ?_⟩
      · refine SlotStep.plain rfl rfl rfl ?_
        intro tm ws hsame hS hg K hK
        obtain ⟨v7, e7, rfl⟩ := hg 1 (by kernel_rfl) _ 7 rfl rfl
        go_simp
        refine (rbits_num hS.2.1 (by omega)).mono ?_
        rintro e wm ⟨rfl, rfl⟩
        exact hK _ _ (Below.refl _ _) hS rfl
      refine List.forall_mem_cons.2 ⟨?_, ?_⟩
      · refine SlotStep.plain rfl rfl rfl ?_
        intro tm ws hsame hS hg K hK
        have e1 : tm[1]? = some (.pointer (some ⟨w.heap.size, 0, none⟩)) := hsame.2 1 rfl
        go_simp
        exact hK _ _ (Below.refl _ _) hS rfl
      refine List.forall_mem_cons.2 ⟨?_, ?_⟩
      · refine SlotStep.plain rfl rfl rfl ?_
        intro tm ws hsame hS hg K hK
        obtain ⟨v9, e9, rfl⟩ := hg 3 (by kernel_rfl) _ 9 rfl rfl
        obtain ⟨⟨k0, k1, k2⟩, -⟩ := slot3 hS.1
        go_simp
        exact hK _ _ (Below.refl _ _) hS rfl
      refine List.forall_mem_cons.2 ⟨?_, ?_⟩
      · refine SlotStep.plain rfl rfl rfl ?_
        intro tm ws hsame hS hg K hK
        obtain ⟨v8, e8, rfl⟩ := hg 2 (by kernel_rfl) _ 8 rfl rfl
        obtain ⟨v10, e10, rfl⟩ := hg 4 (by kernel_rfl) _ 10 rfl rfl
        go_simp
        exact hK _ _ (Below.refl _ _) hS rfl
      refine List.forall_mem_cons.2 ⟨?_, ?_⟩
      · refine SlotStep.plain rfl rfl rfl ?_
        intro tm ws hsame hS hg K hK
        obtain ⟨v11, e11, rfl⟩ := hg 5 (by kernel_rfl) _ 11 rfl rfl
        go_simp
        exact hK _ _ (Below.refl _ _) hS rfl
      exact fun _ h => nomatch h
    case fin =>
      intro tm w8 hsame hS hgot
      obtain ⟨u, hu, htm⟩ := hsame.form (by kernel_rfl)
      obtain ⟨v2, e2, rfl⟩ := hgot 6 _ 2 rfl rfl
      have h2 := hu _ _ e2
      have hb8 := hS.2.2
      clear hgot hu hsame e2 hS
      rw [htm]
      clear htm tm
      simp only [List.foldl_cons, List.foldl_nil, List.setIfInBounds_toArray, List.set_cons_zero, List.set_cons_succ, h2]
      clear h2
      go_wp2_with fail
      go_ret
      exact ⟨by rw [HA.out]; rfl, hb3.trans (hb8.mono hb3.size)⟩
end Go.Proofs.YtjmipbljoblnnaaDoor

namespace Go.Proofs.YtjmipbljoblnnaaDoor
open Go.RowKit

section
variable {P : Program} {ops : Array Oper} {Q : Exit → Act → World → Prop}
def SlotStepT (P : Program) (ops : Array Oper) (Q : Exit → Act → World → Prop) (ds : List Nat) (t0 : Array Value) (df : List Deferred) (S : Array Value → World → Prop) (F : Nat → Value → World → Prop) (i : Nat) : Prop :=
  ∀ tm w, Same ds t0 tm → S tm w → (∀ o, ops[i]? = some o → ∀ e ∈ o.after, Region.binds .any e = true → Got ops F tm w e.on) →
    wpOp P ops Q i (fun a' w' => ∃ v, a' = Act.put ⟨tm, df⟩ ((ops[i]?).bind (·.dst)) v ∧ S (Act.put ⟨tm, df⟩ ((ops[i]?).bind (·.dst)) v).tmps w' ∧ F i v w' ∧ Below w.heap.size w w') ⟨tm, df⟩ w

theorem slotst_tail_any {ds : List Nat} {t0 : Array Value} {df : List Deferred} {S : Array Value → World → Prop} {F : Nat → Value → World → Prop} {n : Nat}
    (hds : headIn ops n ds = true) (hlt : ∀ d ∈ ds, d < t0.size) (hap : headApart ops n = true) (hed : headBack ops n = true)
    (hsk : Region.sinkB .any ops n = true) (hch : Region.chainB .any ops n = true) (hn : n < ops.size)
    (hsq : Region.seqB .any ops (ops.size - n) n (headDone ops.size n) = true)
    (hk : ∀ i v w w', Below w.heap.size w w' → F i v w → F i v w')
    (hstep : ∀ i ∈ List.range n, SlotStepT P ops Q ds t0 df S F i)
    (hend : ∀ tm w, Same ds t0 tm → S tm w → (∀ i, i < n → Got ops F tm w i) → wpList P ops Q (ops.toList.drop n) ⟨tm, df⟩ w) :
    ∀ (k : Nat) (rem : List Nat) (listed : Array Bool) (tm : Array Value) (w : World), rem.length = k → HeadInv .any ops n listed → rem.Nodup → (∀ i, i ∈ rem ↔ i < n ∧ listed.getD i true = false) → Same ds t0 tm → S tm w → (∀ i, i < n → listed.getD i true = true → Got ops F tm w i) →
      wpAny P .any ops Q (k + (ops.size - n)) listed ⟨tm, df⟩ w := by
  intro k
  induction k with
  | zero =>
    intro rem listed tm w hlen inv hnd hrem hsame hS hgot
    obtain rfl : rem = [] := List.eq_nil_of_length_eq_zero hlen
    have hall : ∀ i, i < n → listed.getD i true = true := fun i hi => by
      cases h : listed.getD i true with
      | true => rfl
      | false => cases (hrem i).2 ⟨hi, h⟩
    have hl := headDone_eq inv hall
    have hlen2 : (ops.toList.drop n).length = ops.size - n := by simp
    rw [Nat.zero_add, ← hlen2]
    refine wpAny_of_seq (ops.toList.drop n) n listed _ w (fun j => by rw [List.getElem?_drop, Array.getElem?_toList]) (by rw [hlen2, hl]; exact hsq) (hend tm w hsame hS fun i hi => hgot i hi (hall i hi))
  | succ k ih =>
    intro rem listed tm w hlen inv hnd hrem hsame hS hgot
    rw [show k + 1 + (ops.size - n) = (k + (ops.size - n)) + 1 by omega]
    obtain ⟨i0, hi0⟩ : ∃ i0, i0 ∈ rem := by
      cases rem with
      | nil => simp at hlen
      | cons x l => exact ⟨x, List.mem_cons_self ..⟩
    have hu0 := (hrem i0).1 hi0
    refine ⟨fun hr => ?_, fun i hi => ?_⟩
    · exfalso
      have hall : ∀ i, i < n → listed.getD i true = true := by
        intro i
        induction i using Nat.strongRecOn with
        | ind i ihi =>
          intro hi
          cases h : listed.getD i true with
          | true => rfl
          | false =>
            exfalso
            have hed' := List.all_eq_true.1 hed i (List.mem_range.2 hi)
            have hi2 : i < ops.size := by omega
            have ho : ops[i]? = some ops[i] := getElem?_pos ops i hi2
            rw [ho] at hed'
            have hmem : i ∈ Region.ready .any ops listed := by
              refine mem_ready.2 ⟨h, _, ho, fun e he hb => ?_⟩
              have h1 := List.all_eq_true.1 hed' e (by simpa using he)
              simp only [hb, Bool.not_true, Bool.false_or, decide_eq_true_eq] at h1
              have h2 := ihi e.on h1 (by omega)
              have h3 : e.on < listed.size := by rw [inv.size]; omega
              simp [Array.getD_eq_getD_getElem?, h3] at h2 ⊢
              exact h2
            rw [hr] at hmem
            cases hmem
      rw [hall i0 hu0.1] at hu0
      cases hu0.2
    · have hin : i < n := by
        rcases Nat.lt_or_ge i n with h | h
        · exact h
        · exact absurd hi (tail_waits hsk hch hn inv _ i0 rfl hu0.1 hu0.2 i h)
      have hi' := hi
      obtain ⟨hun, o, ho, hafter⟩ := mem_ready.1 hi'
      have hlti : i < ops.size := by omega
      have hmem := (hrem i).2 ⟨hin, hun⟩
      have hback := List.all_eq_true.1 hed i (List.mem_range.2 hin)
      rw [ho] at hback
      refine wpOp_mono ?_ (hstep i (List.mem_range.2 hin) tm w hsame hS (fun o' ho' e he hb => ?_))
      · rintro a' w' ⟨v, rfl, hS', hF, hbel⟩
        have hsz : i < listed.size := by rw [inv.size]; exact hlti
        have hin2 := List.all_eq_true.1 hds i (List.mem_range.2 hin)
        simp only [ho, Option.bind_some] at hin2
        cases hd : o.dst with
        | none => rw [hd] at hin2; cases hin2
        | some d =>
          rw [hd] at hin2
          have hdd : ds.contains d = true := hin2
          have hdl : d < tm.size := by rw [hsame.1]; exact hlt d (List.contains_iff_mem.1 hdd)
          simp only [ho, Option.bind_some, hd]
          refine ih (rem.erase i) _ (tm.setIfInBounds d v) w' (by rw [List.length_erase_of_mem hmem]; omega) (inv.set hi hin) (hnd.erase i) (fun j => ?_) ⟨by simpa using hsame.1, fun t ht => ?_⟩ (by rw [ho, Option.bind_some, hd] at hS'; exact hS') fun j hjn hj => ?_
          · rw [hnd.mem_erase_iff, hrem j]
            by_cases hji : i = j
            · subst hji
              simp [Array.getD_eq_getD_getElem?, hsz]
            · rw [getD_set_ne true hji]
              constructor
              · rintro ⟨-, h⟩; exact h
              · intro h; exact ⟨Ne.symm hji, h⟩
          · have htd : d ≠ t := fun e => by subst e; rw [hdd] at ht; cases ht
            rw [Array.getElem?_setIfInBounds_ne htd]
            exact hsame.2 t ht
          · intro o' d' ho' hd'
            by_cases hji : j = i
            · subst hji
              rw [ho] at ho'; cases ho'
              rw [hd] at hd'; cases hd'
              exact ⟨v, by simp [hdl], hF⟩
            · rw [getD_set_ne true (Ne.symm hji)] at hj
              obtain ⟨v', h1, h2⟩ := hgot j hjn hj o' d' ho' hd'
              have h3 := List.all_eq_true.1 (List.all_eq_true.1 hap i (List.mem_range.2 hin)) j (List.mem_range.2 hjn)
              simp only [ho, ho', Option.bind_some, hd, hd', Bool.or_eq_true, beq_iff_eq, bne_iff_ne] at h3
              have hne : d ≠ d' := h3.resolve_left (fun e => hji e.symm)
              exact ⟨v', by rw [Array.getElem?_setIfInBounds_ne hne]; exact h1, hk _ _ _ _ hbel h2⟩
      · rw [ho] at ho'; cases ho'
        have h1 := List.all_eq_true.1 hback e (by simpa using he)
        simp only [hb, Bool.not_true, Bool.false_or, decide_eq_true_eq] at h1
        have h2 := hafter e he hb
        refine hgot e.on (by omega) ?_
        have h3 : e.on < listed.size := by rw [inv.size]; omega
        simp [Array.getD_eq_getD_getElem?, h3] at h2 ⊢
        exact h2

theorem wp_region_slotst_tail {id : Nat} {t0 : Array Value} {df : List Deferred} {w : World} (hm : P.follows .mixedOrders = true) (n : Nat) (ds : List Nat) (S : Array Value → World → Prop) (F : Nat → Value → World → Prop)
    (hds : headIn ops n ds = true) (hlt : (ds.all fun d => decide (d < t0.size)) = true) (hap : headApart ops n = true) (hed : headBack ops n = true)
    (htl : (Region.sinkB .any ops n && Region.chainB .any ops n && decide (n < ops.size) && Region.seqB .any ops (ops.size - n) n (headDone ops.size n)) = true)
    (hk : ∀ i v w w', Below w.heap.size w w' → F i v w → F i v w') (hS : S t0 w.drew)
    {l : List Nat} (hl : List.range n = l) (hstep : ∀ i ∈ l, SlotStepT P ops Q ds t0 df S F i)
    (hend : ∀ tm w, Same ds t0 tm → S tm w → (∀ i, i < n → Got ops F tm w i) → wpList P ops Q (ops.toList.drop n) ⟨tm, df⟩ w) :
    (Code.region id ops true).wp P Q ⟨t0, df⟩ w := by
  subst hl
  simp only [Bool.and_eq_true, decide_eq_true_eq] at htl
  obtain ⟨⟨⟨hsk, hch⟩, hn⟩, hsq⟩ := htl
  refine wp_region_any hm ?_
  have h := slotst_tail_any (P := P) (Q := Q) (df := df) hds (fun d hd => by simpa using List.all_eq_true.1 hlt d hd) hap hed hsk hch hn hsq hk hstep hend n (List.range n) (Array.replicate ops.size false) t0 w.drew (by simp) ⟨by simp, (fun j oj hj hl => (by rw [getD_replicate_false] at hl; cases hl)), (fun t ht ht' => (by simp [Array.getD_eq_getD_getElem?, ht']))⟩ List.nodup_range (fun i => by
    rw [List.mem_range]
    constructor
    · intro hi
      exact ⟨hi, by simp [Array.getD_eq_getD_getElem?, show i < ops.size by omega]⟩
    · exact fun h => h.1) ⟨rfl, fun _ _ => rfl⟩ hS (fun i hi hl => by
      simp [Array.getD_eq_getD_getElem?, show i < ops.size by omega] at hl)
  rwa [show n + (ops.size - n) = ops.size by omega] at h


/-- An operation that does not run since the one that guards it did not. -/
theorem SlotStep.skipU {ds : List Nat} {t0 : Array Value} {df : List Deferred} {S : World → Prop} {F : Nat → Value → World → Prop} {i : Nat} {o : Oper} {d : Nat} (ho : ops[i]? = some o) (hd : o.dst = some d) (j : Nat) (b : Bool) (hn : o.guard = some (j, b))
    {dj : Nat} (hj : (ops[j]?).bind (·.dst) = some dj) (hjd : ((o.after.toList.filter (Region.binds .any)).map (·.on)).contains j = true) (hF : ∀ v w, F j v w → v = undef) (hU : ∀ w, F i undef w) :
    SlotStep P ops Q ds t0 df S F i :=
  SlotStep.one ho hd fun tm w h1 h2 h3 K hK => by
    obtain ⟨oj, hoj, hdj⟩ := Option.bind_eq_some_iff.1 hj
    obtain ⟨v, e, hv⟩ := h3 j hjd oj dj hoj hdj
    rw [hF _ _ hv] at e
    have hy : yielded ops tm j = none := by
      unfold yielded
      rw [hj, Option.bind_some, e]
      rfl
    rw [if_neg (by unfold Region.wanted; rw [hn]; simp only [hy]; cases b <;> decide), hd]
    exact hK _ _ (Below.refl _ _) h2 (hU w)
theorem SlotStepT.plain {ds : List Nat} {t0 : Array Value} {df : List Deferred} {S : Array Value → World → Prop} {F : Nat → Value → World → Prop} {i : Nat} {o : Oper} {d : Nat} (ho : ops[i]? = some o) (hd : o.dst = some d) (hn : o.guard = none)
    (h : ∀ tm w, Same ds t0 tm → S tm w → (∀ j, ((o.after.toList.filter (Region.binds .any)).map (·.on)).contains j = true → Got ops F tm w j) →
      ∀ K : Act → World → Prop, (∀ v w', Below w.heap.size w w' → S (tm.setIfInBounds d v) w' → F i v w' → K ⟨tm.setIfInBounds d v, df⟩ w') → Oper.wp P o ⟨tm, df⟩ w K Q) :
    SlotStepT P ops Q ds t0 df S F i := by
  intro tm w hsame hS hgot
  refine wpOp_step ho fun K hK => ?_
  rw [if_pos (by unfold Region.wanted; rw [hn])]
  refine h tm w hsame hS (fun j hj => ?_) K fun v w' hb hS' hF => ?_
  · obtain ⟨e, he, rfl⟩ := List.mem_map.1 (List.contains_iff_mem.1 hj)
    obtain ⟨h1, h2⟩ := List.mem_filter.1 he
    exact hgot o ho e (by simpa using h1) h2
  · refine hK _ _ ⟨v, ?_, ?_, hF, hb⟩
    · rw [ho]
      show _ = Act.put ⟨tm, df⟩ o.dst v
      rw [hd]
      rfl
    · rw [ho]
      show S (Act.put ⟨tm, df⟩ o.dst v).tmps w'
      rw [hd]
      exact hS'
end

/-- The variables that two slots point to, once they are made, lie apart. -/
def Two (i j : Nat) (tm : Array Value) (w : World) : Prop :=
  (∀ g, tm[i]? = some (.pointer (some ⟨g, 0, none⟩)) → g < w.heap.size) ∧ (∀ g, tm[j]? = some (.pointer (some ⟨g, 0, none⟩)) → g < w.heap.size) ∧ ∀ g, tm[i]? = some (.pointer (some ⟨g, 0, none⟩)) → tm[j]? ≠ some (.pointer (some ⟨g, 0, none⟩))
theorem Two.start {i j : Nat} {t0 : Array Value} {w : World} (hi : t0[i]? = some undef) (hj : t0[j]? = some undef) : Two i j t0 w := by
  refine ⟨fun g h => ?_, fun g h => ?_, fun g h => ?_⟩
  · rw [hi] at h; cases h
  · rw [hj] at h; cases h
  · rw [hi] at h; cases h
theorem Two.other {i j d : Nat} {tm : Array Value} {w w' : World} {v : Value} (h : Two i j tm w) (hs : w.heap.size ≤ w'.heap.size) (hi : d ≠ i) (hj : d ≠ j) : Two i j (tm.setIfInBounds d v) w' := by
  refine ⟨fun g h1 => ?_, fun g h1 => ?_, fun g h1 => ?_⟩
  · rw [Array.getElem?_setIfInBounds_ne hi] at h1
    exact Nat.lt_of_lt_of_le (h.1 g h1) hs
  · rw [Array.getElem?_setIfInBounds_ne hj] at h1
    exact Nat.lt_of_lt_of_le (h.2.1 g h1) hs
  · rw [Array.getElem?_setIfInBounds_ne hi] at h1
    rw [Array.getElem?_setIfInBounds_ne hj]
    exact h.2.2 g h1
theorem Two.first {i j : Nat} {tm : Array Value} {w : World} {o : Obj} (h : Two i j tm w) (hij : i ≠ j) : Two i j (tm.setIfInBounds i (.pointer (some ⟨w.heap.size, 0, none⟩))) (w.alloc o) := by
  have key : ∀ g, (tm.setIfInBounds i (.pointer (some ⟨w.heap.size, 0, none⟩)))[i]? = some (.pointer (some ⟨g, 0, none⟩)) → g = w.heap.size := by
    intro g hg
    rw [Array.getElem?_setIfInBounds_self] at hg
    split at hg
    · simpa using hg.symm
    · cases hg
  refine ⟨fun g h1 => ?_, fun g h1 => ?_, fun g h1 => ?_⟩
  · rw [key g h1]; simp
  · rw [Array.getElem?_setIfInBounds_ne hij] at h1
    have := h.2.1 g h1
    simp; omega
  · rw [Array.getElem?_setIfInBounds_ne hij, key g h1]
    intro h2
    have := h.2.1 _ h2
    omega
theorem Two.second {i j : Nat} {tm : Array Value} {w : World} {o : Obj} (h : Two i j tm w) (hij : i ≠ j) : Two i j (tm.setIfInBounds j (.pointer (some ⟨w.heap.size, 0, none⟩))) (w.alloc o) := by
  have key : ∀ g, (tm.setIfInBounds j (.pointer (some ⟨w.heap.size, 0, none⟩)))[j]? = some (.pointer (some ⟨g, 0, none⟩)) → g = w.heap.size := by
    intro g hg
    rw [Array.getElem?_setIfInBounds_self] at hg
    split at hg
    · simpa using hg.symm
    · cases hg
  refine ⟨fun g h1 => ?_, fun g h1 => ?_, fun g h1 h2 => ?_⟩
  · rw [Array.getElem?_setIfInBounds_ne (Ne.symm hij)] at h1
    have := h.1 g h1
    simp; omega
  · rw [key g h1]; simp
  · rw [Array.getElem?_setIfInBounds_ne (Ne.symm hij)] at h1
    have := h.1 g h1
    have := key g h2
    omega
/-- A new variable of one of the document's dyads. -/
def IsNewD (base : Nat) (v : Value) (w : World) : Prop := ∃ g, v = .pointer (some ⟨g, 0, none⟩) ∧ w.heap[g]? = some (.cells #[.bool false, .slice none 0 0, .int .i64 0] 31 (0, 0)) ∧ base ≤ g
theorem IsNewD.keeps (base : Nat) : Keeps (IsNewD base) := fun _ _ _ hb ⟨g, h1, h2, h3⟩ => ⟨g, h1, slot_kept h2 hb, h3⟩
/-- The block of another variable stays when one is stored to. -/
theorem slot_apart {w : World} {g h : Nat} {o : Obj} {u v s : Value} (hg : w.heap[g]? = some o) (hne : g ≠ h) :
    (((w.setCell ⟨h, 0, none⟩ u).setCell ⟨h, 1, none⟩ v).setCell ⟨h, 2, none⟩ s).heap[g]? = some o := by
  rw [heap_setCell_other _ _ _ _ hne, heap_setCell_other _ _ _ _ hne, heap_setCell_other _ _ _ _ hne]
  exact hg
end Go.Proofs.YtjmipbljoblnnaaDoor

namespace Go.Proofs.YtjmipbljoblnnaaDoor
open Go.RowKit
def IsRN (N : Int) (m : Nat) (v : Value) (w : World) : Prop := ∃ a n c, v = .slice a n c ∧ RN w (.slice a n c) N m
def IsRZ (Z : Int) (m b : Nat) (v : Value) (w : World) : Prop := ∃ p a n c E, v = .agg #[.bool p, .slice a n c, .int .i64 ((E : Nat) : Int)] ∧ RZ w (.agg #[.bool p, .slice a n c, .int .i64 ((E : Nat) : Int)]) Z m b
theorem IsRN.keeps (N : Int) (m : Nat) : Keeps (IsRN N m) := fun _ _ _ hb ⟨a, n, c, h1, h2⟩ => ⟨a, n, c, h1, h2.below hb⟩
theorem IsRZ.keeps (Z : Int) (m b : Nat) : Keeps (IsRZ Z m b) := fun _ _ _ hb ⟨p, a, n, c, E, h1, h2⟩ => ⟨p, a, n, c, E, h1, h2.below hb⟩
theorem rz_mul {p q : Bool} {N M Zx Zy : Int} {E G T : Nat} (h1 : Zx = sg p N * 2 ^ E) (h2 : Zy = sg q M * 2 ^ G) (hT : E + G = T) : sg (p != q) (N * M) * 2 ^ T = Zx * Zy := by
  rw [h1, h2, ← hT, Int.pow_add]
  cases p <;> cases q <;> simp only [sg, bne_self_eq_false, Bool.true_bne, Bool.false_bne, Bool.not_false, if_true, if_false, Bool.false_eq_true] <;> grind
set_option maxRecDepth 100000 in
set_option maxHeartbeats 1200000 in
theorem rzmul_num {w : World} {p q : Bool} {a a2 : Option Addr} {n c n2 c2 E G : Nat} {Zx Zy : Int} {m k b d : Nat} (hX : RZ w (.agg #[.bool p, .slice a n c, .int .i64 (E : Int)]) Zx m b) (hY : RZ w (.agg #[.bool q, .slice a2 n2 c2, .int .i64 (G : Int)]) Zy k d) (hb : b ≤ 400000) (hd : d ≤ 400000) (hm : m ≤ 5000) (hk : k ≤ 5000) :
    Calls Tryd.prog 11 #[.agg #[.bool p, .slice a n c, .int .i64 (E : Int)], .agg #[.bool q, .slice a2 n2 c2, .int .i64 (G : Int)]] w fun e w' => RetZ w (Zx * Zy) (m + k) (b + d + 32 * (m + k)) e w' := by
  obtain ⟨N, h1, hz1, -, -, hE⟩ := hX.open
  obtain ⟨M, h2, hz2, -, -, hG⟩ := hY.open
  obtain ⟨T, hT⟩ : ∃ T, E + G = T := ⟨_, rfl⟩
  have HV := Lib.hid (rz_mul hz1 hz2 hT)
  have hTd : T ≤ b + d := by omega
  have hTs : T + 32 * (m + k) ≤ b + d + 32 * (m + k) := Nat.add_le_add_right hTd _
  have hTb : T ≤ 800000 := by omega
  have hsum : (E : Int) + (G : Int) = (T : Int) := by omega
  have hwr : IntKind.i64.wrap (T : Int) = (T : Int) := by rw [IntKind.wrap_i64]; omega
  obtain ⟨w1, hw1⟩ : ∃ w1, w.alloc (.cells #[.bool p, .slice a n c, .int .i64 (E : Int)] 31) = w1 := ⟨_, rfl⟩
  obtain ⟨w2, hw2⟩ : ∃ w2, w1.alloc (.cells #[.bool q, .slice a2 n2 c2, .int .i64 (G : Int)] 31) = w2 := ⟨_, rfl⟩
  obtain ⟨w3, hw3⟩ : ∃ w3, w2.alloc (.cells #[.bool false, .slice none 0 0, .int .i64 0] 31) = w3 := ⟨_, rfl⟩
  have hb1 : Below w.heap.size w w1 := hw1 ▸ below_alloc w _
  have hb12 : Below w1.heap.size w1 w2 := hw2 ▸ below_alloc w1 _
  have hb23 : Below w2.heap.size w2 w3 := hw3 ▸ below_alloc w2 _
  have hb2 : Below w.heap.size w w2 := hb1.trans (hb12.mono hb1.size)
  have hb3 : Below w.heap.size w w3 := hb2.trans (hb23.mono hb2.size)
  have hc1 : w3.heap[w.heap.size]? = some (.cells #[.bool p, .slice a n c, .int .i64 (E : Int)] 31 (0, 0)) := slot_kept (slot_kept (hw1 ▸ heap_alloc_new w _) hb12) hb23
  have hc2 : w3.heap[w1.heap.size]? = some (.cells #[.bool q, .slice a2 n2 c2, .int .i64 (G : Int)] 31 (0, 0)) := slot_kept (hw2 ▸ heap_alloc_new w1 _) hb23
  have hc3 : w3.heap[w2.heap.size]? = some (.cells #[.bool false, .slice none 0 0, .int .i64 0] 31 (0, 0)) := hw3 ▸ heap_alloc_new w2 _
  replace h1 := h1.below hb3
  replace h2 := h2.below hb3
  clear hX hY hz1 hz2 hT hb12 hb23
  go_enter Tryd.func11, Tryd.ntmps11
  go_upto_region 1 with fail
  refine wp_region_slots_tail (by kernel_rfl) 16 [5, 6, 7, 8, 9, 10, 11, 12, 13, 14, 15, 16, 17, 18, 19, 20] (fun w' => w'.heap[w.heap.size]? = some (.cells #[.bool p, .slice a n c, .int .i64 (E : Int)] 31 (0, 0)) ∧ w'.heap[w1.heap.size]? = some (.cells #[.bool q, .slice a2 n2 c2, .int .i64 (G : Int)] 31 (0, 0)) ∧ w'.heap[w2.heap.size]? = some (.cells #[.bool false, .slice none 0 0, .int .i64 0] 31 (0, 0)) ∧ RN w' (.slice a n c) N m ∧ RN w' (.slice a2 n2 c2) M k ∧ Below w3.heap.size w3 w') (Said [Is (.pointer (some ⟨w.heap.size, 0, none⟩)), Is (.bool p), Is (.pointer (some ⟨w1.heap.size, 0, none⟩)), Is (.bool q), Is (.bool (p != q)), Is (.pointer (some ⟨w.heap.size, 1, none⟩)), Is (.slice a n c), Is (.pointer (some ⟨w1.heap.size, 1, none⟩)), Is (.slice a2 n2 c2), IsRN (N * M) (m + k), Is (.pointer (some ⟨w.heap.size, 2, none⟩)), Is (.int .i64 (E : Int)), Is (.pointer (some ⟨w1.heap.size, 2, none⟩)), Is (.int .i64 (G : Int)), Is (.int .i64 (T : Int)), IsRZ (sg (p != q) (N * M) * 2 ^ T) (m + k) (T + 32 * (m + k))]) (by kernel_rfl) (by kernel_rfl) (by kernel_rfl) (by kernel_rfl) (by kernel_rfl) (Said.keep ?keep) ⟨slot_kept hc1 (bdn (Below.refl _ _) 1), slot_kept hc2 (bdn (Below.refl _ _) 1), slot_kept hc3 (bdn (Below.refl _ _) 1), h1.below (bdn (Below.refl _ _) 1), h2.below (bdn (Below.refl _ _) 1), bdn (Below.refl _ _) 1⟩ (l := [0, 1, 2, 3, 4, 5, 6, 7, 8, 9, 10, 11, 12, 13, 14, 15]) (by kernel_rfl) ?step ?fin
  case keep =>
    refine List.forall_mem_cons.2 ⟨Is.keeps _, ?_⟩
    refine List.forall_mem_cons.2 ⟨Is.keeps _, ?_⟩
    refine List.forall_mem_cons.2 ⟨Is.keeps _, ?_⟩
    refine List.forall_mem_cons.2 ⟨Is.keeps _, ?_⟩
    refine List.forall_mem_cons.2 ⟨Is.keeps _, ?_⟩
    refine List.forall_mem_cons.2 ⟨Is.keeps _, ?_⟩
    refine List.forall_mem_cons.2 ⟨Is.keeps _, ?_⟩
    refine List.forall_mem_cons.2 ⟨Is.keeps _, ?_⟩
    refine List.forall_mem_cons.2 ⟨Is.keeps _, ?_⟩
    refine List.forall_mem_cons.2 ⟨IsRN.keeps _ _, ?_⟩
    refine List.forall_mem_cons.2 ⟨Is.keeps _, ?_⟩
    refine List.forall_mem_cons.2 ⟨Is.keeps _, ?_⟩
    refine List.forall_mem_cons.2 ⟨Is.keeps _, ?_⟩
    refine List.forall_mem_cons.2 ⟨Is.keeps _, ?_⟩
    refine List.forall_mem_cons.2 ⟨Is.keeps _, ?_⟩
    refine List.forall_mem_cons.2 ⟨IsRZ.keeps _ _ _, ?_⟩
    exact fun _ h => nomatch h
  case step =>
    refine List.forall_mem_cons.2 ⟨?_, ?_⟩
    · refine SlotStep.plain rfl rfl rfl ?_
      intro tm ws hsame hS hg K hK
      have e2 : tm[2]? = some (.pointer (some ⟨w.heap.size, 0, none⟩)) := hsame.2 2 rfl
      go_simp
      exact hK _ _ (Below.refl _ _) hS (rfl)
    refine List.forall_mem_cons.2 ⟨?_, ?_⟩
    · refine SlotStep.plain rfl rfl rfl ?_
      intro tm ws hsame hS hg K hK
      obtain ⟨v5, e5, rfl⟩ := hg 0 (by kernel_rfl) _ 5 rfl rfl
      obtain ⟨⟨k0, k1, k2⟩, -⟩ := slot3 hS.1
      go_simp
      exact hK _ _ (Below.refl _ _) hS (rfl)
    refine List.forall_mem_cons.2 ⟨?_, ?_⟩
    · refine SlotStep.plain rfl rfl rfl ?_
      intro tm ws hsame hS hg K hK
      have e3 : tm[3]? = some (.pointer (some ⟨w1.heap.size, 0, none⟩)) := hsame.2 3 rfl
      go_simp
      exact hK _ _ (Below.refl _ _) hS (rfl)
    refine List.forall_mem_cons.2 ⟨?_, ?_⟩
    · refine SlotStep.plain rfl rfl rfl ?_
      intro tm ws hsame hS hg K hK
      obtain ⟨v7, e7, rfl⟩ := hg 2 (by kernel_rfl) _ 7 rfl rfl
      obtain ⟨⟨k0, k1, k2⟩, -⟩ := slot3 hS.2.1
      go_simp
      exact hK _ _ (Below.refl _ _) hS (rfl)
    refine List.forall_mem_cons.2 ⟨?_, ?_⟩
    · refine SlotStep.plain rfl rfl rfl ?_
      intro tm ws hsame hS hg K hK
      obtain ⟨v6, e6, rfl⟩ := hg 1 (by kernel_rfl) _ 6 rfl rfl
      obtain ⟨v8, e8, rfl⟩ := hg 3 (by kernel_rfl) _ 8 rfl rfl
      go_simp
      exact hK _ _ (Below.refl _ _) hS (by first | rfl | (cases p <;> cases q <;> rfl))
    refine List.forall_mem_cons.2 ⟨?_, ?_⟩
    · refine SlotStep.plain rfl rfl rfl ?_
      intro tm ws hsame hS hg K hK
      have e2 : tm[2]? = some (.pointer (some ⟨w.heap.size, 0, none⟩)) := hsame.2 2 rfl
      go_simp
      exact hK _ _ (Below.refl _ _) hS (rfl)
    refine List.forall_mem_cons.2 ⟨?_, ?_⟩
    · refine SlotStep.plain rfl rfl rfl ?_
      intro tm ws hsame hS hg K hK
      obtain ⟨v10, e10, rfl⟩ := hg 5 (by kernel_rfl) _ 10 rfl rfl
      obtain ⟨⟨k0, k1, k2⟩, -⟩ := slot3 hS.1
      go_simp
      exact hK _ _ (Below.refl _ _) hS (rfl)
    refine List.forall_mem_cons.2 ⟨?_, ?_⟩
    · refine SlotStep.plain rfl rfl rfl ?_
      intro tm ws hsame hS hg K hK
      have e3 : tm[3]? = some (.pointer (some ⟨w1.heap.size, 0, none⟩)) := hsame.2 3 rfl
      go_simp
      exact hK _ _ (Below.refl _ _) hS (rfl)
    refine List.forall_mem_cons.2 ⟨?_, ?_⟩
    · refine SlotStep.plain rfl rfl rfl ?_
      intro tm ws hsame hS hg K hK
      obtain ⟨v12, e12, rfl⟩ := hg 7 (by kernel_rfl) _ 12 rfl rfl
      obtain ⟨⟨k0, k1, k2⟩, -⟩ := slot3 hS.2.1
      go_simp
      exact hK _ _ (Below.refl _ _) hS (rfl)
    refine List.forall_mem_cons.2 ⟨?_, ?_⟩
    · refine SlotStep.plain rfl rfl rfl ?_
      intro tm ws hsame hS hg K hK
      obtain ⟨v11, e11, rfl⟩ := hg 6 (by kernel_rfl) _ 11 rfl rfl
      obtain ⟨v13, e13, rfl⟩ := hg 8 (by kernel_rfl) _ 13 rfl rfl
      go_simp
      refine (rmul_num hS.2.2.2.1 hS.2.2.2.2.1 (Nat.le_refl _) (by omega)).mono ?_
      rintro e wm ⟨aR, nR, cR, rfl, hR, hb⟩
      exact hK _ _ hb (⟨slot_kept hS.1 (hb), slot_kept hS.2.1 (hb), slot_kept hS.2.2.1 (hb), hS.2.2.2.1.below (hb), hS.2.2.2.2.1.below (hb), hS.2.2.2.2.2.trans (Below.mono (hb) hS.2.2.2.2.2.size)⟩) ⟨aR, nR, cR, rfl, hR⟩
    refine List.forall_mem_cons.2 ⟨?_, ?_⟩
    · refine SlotStep.plain rfl rfl rfl ?_
      intro tm ws hsame hS hg K hK
      have e2 : tm[2]? = some (.pointer (some ⟨w.heap.size, 0, none⟩)) := hsame.2 2 rfl
      go_simp
      exact hK _ _ (Below.refl _ _) hS (rfl)
    refine List.forall_mem_cons.2 ⟨?_, ?_⟩
    · refine SlotStep.plain rfl rfl rfl ?_
      intro tm ws hsame hS hg K hK
      obtain ⟨v15, e15, rfl⟩ := hg 10 (by kernel_rfl) _ 15 rfl rfl
      obtain ⟨⟨k0, k1, k2⟩, -⟩ := slot3 hS.1
      go_simp
      exact hK _ _ (Below.refl _ _) hS (rfl)
    refine List.forall_mem_cons.2 ⟨?_, ?_⟩
    · refine SlotStep.plain rfl rfl rfl ?_
      intro tm ws hsame hS hg K hK
      have e3 : tm[3]? = some (.pointer (some ⟨w1.heap.size, 0, none⟩)) := hsame.2 3 rfl
      go_simp
      exact hK _ _ (Below.refl _ _) hS (rfl)
    refine List.forall_mem_cons.2 ⟨?_, ?_⟩
    · refine SlotStep.plain rfl rfl rfl ?_
      intro tm ws hsame hS hg K hK
      obtain ⟨v17, e17, rfl⟩ := hg 12 (by kernel_rfl) _ 17 rfl rfl
      obtain ⟨⟨k0, k1, k2⟩, -⟩ := slot3 hS.2.1
      go_simp
      exact hK _ _ (Below.refl _ _) hS (rfl)
    refine List.forall_mem_cons.2 ⟨?_, ?_⟩
    · refine SlotStep.plain rfl rfl rfl ?_
      intro tm ws hsame hS hg K hK
      obtain ⟨v16, e16, rfl⟩ := hg 11 (by kernel_rfl) _ 16 rfl rfl
      obtain ⟨v18, e18, rfl⟩ := hg 13 (by kernel_rfl) _ 18 rfl rfl
      go_simp
      exact hK _ _ (Below.refl _ _) hS (rfl)
    refine List.forall_mem_cons.2 ⟨?_, ?_⟩
    · refine SlotStep.plain rfl rfl rfl ?_
      intro tm ws hsame hS hg K hK
      obtain ⟨v9, e9, rfl⟩ := hg 4 (by kernel_rfl) _ 9 rfl rfl
      obtain ⟨v14, e14, ⟨a14, n14, c14, rfl, g14⟩⟩ := hg 9 (by kernel_rfl) _ 14 rfl rfl
      obtain ⟨v19, e19, rfl⟩ := hg 14 (by kernel_rfl) _ 19 rfl rfl
      go_simp
      refine (rmake_num (p != q) T g14 (by omega) (by omega)).mono ?_
      rintro e wm ⟨pR, aR, nR, cR, ER, rfl, hR, hb⟩
      exact hK _ _ hb (⟨slot_kept hS.1 (hb), slot_kept hS.2.1 (hb), slot_kept hS.2.2.1 (hb), hS.2.2.2.1.below (hb), hS.2.2.2.2.1.below (hb), hS.2.2.2.2.2.trans (Below.mono (hb) hS.2.2.2.2.2.size)⟩) ⟨pR, aR, nR, cR, ER, rfl, hR⟩
    exact fun _ h => nomatch h
  case fin =>
    intro tm w8 hsame hS hgot
    obtain ⟨u, hu, htm⟩ := hsame.form (by kernel_rfl)
    obtain ⟨v20, e20, pR, aR, nR, cR, ER, rfl, hr⟩ := hgot 15 (by decide) _ 20 rfl rfl
    have h20 := hu _ _ e20
    obtain ⟨-, -, hblk, -, -, hb8⟩ := hS
    obtain ⟨⟨q0, q1, q2⟩, f0, f1, f2⟩ := slot3 hblk
    have hend := slot3_set (u := .bool pR) (v := .slice aR nR cR) (s := .int .i64 (ER : Int)) hblk
    have hon := slot3_only (w := w8) (g := w2.heap.size) (.bool pR) (.slice aR nR cR) (.int .i64 (ER : Int))
    have hr' := ((hr.var hblk hon).eq HV.out).mono (Nat.le_refl _) hTs
    have hbw := hb3.trans (hb8.mono hb3.size)
    have HR : Hid (RetZ w (Zx * Zy) (m + k) (b + d + 32 * (m + k)) (.returned (.agg #[.bool pR, .slice aR nR cR, .int .i64 (ER : Int)])) (((w8.setCell ⟨w2.heap.size, 0, none⟩ (.bool pR)).setCell ⟨w2.heap.size, 1, none⟩ (.slice aR nR cR)).setCell ⟨w2.heap.size, 2, none⟩ (.int .i64 (ER : Int)))) :=
      Lib.hid ⟨pR, aR, nR, cR, ER, rfl, hr', hbw.trans (hon.below hb2.size hbw.size)⟩
    clear hgot hu hsame e20 hr hr'
    rw [htm]
    clear htm tm
    simp only [List.foldl_cons, List.foldl_nil, List.setIfInBounds_toArray, List.set_cons_zero, List.set_cons_succ, h20, List.drop_succ_cons, List.drop_zero]
    clear h20
    go_wp2_with fail
    exact bodyPost_ret (results_cell_row rfl _ _ w2.heap.size 31 _ (0, 0) _ rfl hend Tryd.underlying31 rfl (by kernel_rfl)) rfl HR.out
end Go.Proofs.YtjmipbljoblnnaaDoor

namespace Go.Proofs.YtjmipbljoblnnaaDoor
open Go.RowKit
theorem rz_none {p : Bool} {N Z : Int} {E : Nat} (hN : N = 0) (hz : Z = sg p N * 2 ^ E) : Z = 0 := by
  rw [hz, hN]; cases p <;> simp [sg]
theorem rz_some {p : Bool} {N Z : Int} {E : Nat} (h : 0 ≤ N) (hN : N ≠ 0) (hz : Z = sg p N * 2 ^ E) : ∃ s : Int, cmpI Z 0 = s ∧ (s == 0) = false := by
  refine ⟨_, rfl, ?_⟩
  rw [rz_sign h hz, if_neg hN]; cases p <;> decide
theorem rz_to {p : Bool} {N Z : Int} {E e i : Nat} (hz : Z = sg p N * 2 ^ E) (hi : e + i = E) : Z = sg p (N * 2 ^ i) * 2 ^ e := by
  rw [hz, ← hi, Int.pow_add, sg_scale, Int.mul_assoc, Int.mul_comm (2 ^ i) (2 ^ e)]
theorem rz_same {p q : Bool} {X Y Zx Zy : Int} {e : Nat} (h : p = q) (hx : Zx = sg p X * 2 ^ e) (hy : Zy = sg q Y * 2 ^ e) : sg p (X + Y) * 2 ^ e = Zx + Zy := by
  rw [hx, hy, ← h, ← Int.add_mul]; cases p
  · rfl
  · rw [sg_true, sg_true, sg_true, Int.neg_add]
theorem rz_diff {p q : Bool} {X Y Zx Zy : Int} {e : Nat} (h : p ≠ q) (hx : Zx = sg p X * 2 ^ e) (hy : Zy = sg q Y * 2 ^ e) : sg p (X - Y) * 2 ^ e = Zx + Zy := by
  rw [hx, hy, ← Int.add_mul]; congr 1; cases p <;> cases q <;> first | exact absurd rfl h | (simp only [sg_true, sg_false]; omega)
theorem rz_diff' {p q : Bool} {X Y Zx Zy : Int} {e : Nat} (h : p ≠ q) (hx : Zx = sg p X * 2 ^ e) (hy : Zy = sg q Y * 2 ^ e) : sg q (Y - X) * 2 ^ e = Zx + Zy := by
  rw [Int.add_comm, rz_diff (fun e => h e.symm) hy hx]
theorem cmpI_ge {A B : Int} (h : B ≤ A) : 0 ≤ cmpI A B := by
  unfold cmpI; split
  · omega
  · split <;> decide
set_option maxRecDepth 100000 in
set_option maxHeartbeats 1200000 in
theorem rzadd_num {w : World} {p q : Bool} {a a2 : Option Addr} {n c n2 c2 E G : Nat} {Zx Zy : Int} {m k b d : Nat} (P s : Nat) (hX : RZ w (.agg #[.bool p, .slice a n c, .int .i64 (E : Int)]) Zx m b) (hY : RZ w (.agg #[.bool q, .slice a2 n2 c2, .int .i64 (G : Int)]) Zy k d) (hmP : m + b / 32 + 1 < P) (hkP : k + d / 32 + 1 < P) (hP : P ≤ 10000) (hb : b ≤ 200000) (hd : d ≤ 200000) (hbS : b + 32 * P ≤ s) (hdS : d + 32 * P ≤ s) :
    Calls Tryd.prog 9 #[.agg #[.bool p, .slice a n c, .int .i64 (E : Int)], .agg #[.bool q, .slice a2 n2 c2, .int .i64 (G : Int)]] w fun e w' => RetZ w (Zx + Zy) P s e w' := by
  obtain ⟨N, h1, hz1, -, -, hE⟩ := hX.open
  obtain ⟨M, h2, hz2, -, -, hG⟩ := hY.open
  have hN0 := h1.nonneg
  have hM0 := h2.nonneg
  obtain ⟨w1, hw1⟩ : ∃ w1, w.alloc (.cells #[.bool p, .slice a n c, .int .i64 (E : Int)] 31) = w1 := ⟨_, rfl⟩
  obtain ⟨w2, hw2⟩ : ∃ w2, w1.alloc (.cells #[.bool q, .slice a2 n2 c2, .int .i64 (G : Int)] 31) = w2 := ⟨_, rfl⟩
  obtain ⟨w3, hw3⟩ : ∃ w3, w2.alloc (.cells #[.bool false, .slice none 0 0, .int .i64 0] 31) = w3 := ⟨_, rfl⟩
  have hb1 : Below w.heap.size w w1 := hw1 ▸ below_alloc w _
  have hb12 : Below w1.heap.size w1 w2 := hw2 ▸ below_alloc w1 _
  have hb23 : Below w2.heap.size w2 w3 := hw3 ▸ below_alloc w2 _
  have hb2 : Below w.heap.size w w2 := hb1.trans (hb12.mono hb1.size)
  have hb3 : Below w.heap.size w w3 := hb2.trans (hb23.mono hb2.size)
  have hc1 : w3.heap[w.heap.size]? = some (.cells #[.bool p, .slice a n c, .int .i64 (E : Int)] 31 (0, 0)) := slot_kept (slot_kept (hw1 ▸ heap_alloc_new w _) hb12) hb23
  have hc2 : w3.heap[w1.heap.size]? = some (.cells #[.bool q, .slice a2 n2 c2, .int .i64 (G : Int)] 31 (0, 0)) := slot_kept (hw2 ▸ heap_alloc_new w1 _) hb23
  have hc3 : w3.heap[w2.heap.size]? = some (.cells #[.bool false, .slice none 0 0, .int .i64 0] 31 (0, 0)) := hw3 ▸ heap_alloc_new w2 _
  replace hX := hX.below hb3
  replace hY := hY.below hb3
  replace h1 := h1.below hb3
  replace h2 := h2.below hb3
  clear hb12 hb23
  obtain ⟨⟨kx0, kx1, kx2⟩, -⟩ := slot3 hc1
  by_cases hN : N = 0
  · have hZ := rz_none hN hz1
    have hsx : cmpI Zx 0 = 0 := by rw [hZ]; rfl
    have HZ := Lib.hid hZ
    have hkP' : k ≤ P := by omega
    have hdS' : d ≤ s := by omega
    clear hN hz1 hz2 h1 h2 hN0 hM0 hZ
    go_enter Tryd.func9, Tryd.ntmps9
    go_wp2_with fail
    refine (rsign_num hX).mono ?_
    rw [hsx]
    rintro e w4 ⟨rfl, hb4⟩
    have hY4 := hY.below hb4
    have hbw4 := hb3.trans (hb4.mono hb3.size)
    obtain ⟨⟨ky0, ky1, ky2⟩, -⟩ := slot3 (slot_kept hc2 hb4)
    have hblk := slot_kept hc3 hb4
    obtain ⟨⟨q0, q1, q2⟩, f0, f1, f2⟩ := slot3 hblk
    have hend := slot3_set (u := .bool q) (v := .slice a2 n2 c2) (s := .int .i64 (G : Int)) hblk
    have hon := slot3_only (w := w4) (g := w2.heap.size) (.bool q) (.slice a2 n2 c2) (.int .i64 (G : Int))
    have hr' := ((hY4.var hblk hon).eq (by rw [HZ.out, Int.zero_add] : Zy = Zx + Zy)).mono hkP' hdS'
    have HR : Hid (RetZ w (Zx + Zy) P s (.returned (.agg #[.bool q, .slice a2 n2 c2, .int .i64 (G : Int)])) (((w4.setCell ⟨w2.heap.size, 0, none⟩ (.bool q)).setCell ⟨w2.heap.size, 1, none⟩ (.slice a2 n2 c2)).setCell ⟨w2.heap.size, 2, none⟩ (.int .i64 (G : Int)))) :=
      Lib.hid ⟨_, _, _, _, _, rfl, hr', (hbw4).trans (hon.below hb2.size (hbw4).size)⟩
    clear hr' hY4 hY hX hsx
    go_wp2_with fail
    exact bodyPost_ret (results_cell_row rfl _ _ w2.heap.size 31 _ (0, 0) _ rfl hend Tryd.underlying31 rfl (by kernel_rfl)) rfl HR.out
  · obtain ⟨s1, hsx, hs1⟩ := rz_some hN0 hN hz1
    by_cases hM : M = 0
    · have hZ := rz_none hM hz2
      have hsy : cmpI Zy 0 = 0 := by rw [hZ]; rfl
      have HZ := Lib.hid hZ
      have hmP' : m ≤ P := by omega
      have hbS' : b ≤ s := by omega
      clear hN hM hz1 hz2 h1 h2 hN0 hM0 hZ
      go_enter Tryd.func9, Tryd.ntmps9
      go_wp2_with fail
      refine (rsign_num hX).mono ?_
      rw [hsx]
      rintro e w4 ⟨rfl, hb4⟩
      obtain ⟨⟨ky0, ky1, ky2⟩, -⟩ := slot3 (slot_kept hc2 hb4)
      have hc14 := slot_kept hc1 hb4
      have hc34 := slot_kept hc3 hb4
      have hbw4 := hb3.trans (hb4.mono hb3.size)
      clear kx0 kx1 kx2
      go_wp2_with fail
      refine (rsign_num (hY.below hb4)).mono ?_
      rw [hsy]
      rintro e w5 ⟨rfl, hb5⟩
      have hX5 := (hX.below hb4).below hb5
      have hbw5 := hbw4.trans (hb5.mono hbw4.size)
      obtain ⟨⟨kx0, kx1, kx2⟩, -⟩ := slot3 (slot_kept hc14 hb5)
      have hblk := slot_kept hc34 hb5
      obtain ⟨⟨q0, q1, q2⟩, f0, f1, f2⟩ := slot3 hblk
      have hend := slot3_set (u := .bool p) (v := .slice a n c) (s := .int .i64 (E : Int)) hblk
      have hon := slot3_only (w := w5) (g := w2.heap.size) (.bool p) (.slice a n c) (.int .i64 (E : Int))
      have hr' := ((hX5.var hblk hon).eq (by rw [HZ.out, Int.add_zero] : Zx = Zx + Zy)).mono hmP' hbS'
      have HR : Hid (RetZ w (Zx + Zy) P s (.returned (.agg #[.bool p, .slice a n c, .int .i64 (E : Int)])) (((w5.setCell ⟨w2.heap.size, 0, none⟩ (.bool p)).setCell ⟨w2.heap.size, 1, none⟩ (.slice a n c)).setCell ⟨w2.heap.size, 2, none⟩ (.int .i64 (E : Int)))) :=
        Lib.hid ⟨_, _, _, _, _, rfl, hr', (hbw5).trans (hon.below hb2.size (hbw5).size)⟩
      clear hr' hX5 hY hX hsx hsy ky0 ky1 ky2
      go_wp2_with fail
      exact bodyPost_ret (results_cell_row rfl _ _ w2.heap.size 31 _ (0, 0) _ rfl hend Tryd.underlying31 rfl (by kernel_rfl)) rfl HR.out
    · obtain ⟨s2, hsy, hs2⟩ := rz_some hM0 hM hz2
      clear hN hM
      go_enter Tryd.func9, Tryd.ntmps9
      go_wp2_with fail
      refine (rsign_num hX).mono ?_
      rw [hsx]
      rintro e w4 ⟨rfl, hb4⟩
      obtain ⟨⟨ky0, ky1, ky2⟩, -⟩ := slot3 (slot_kept hc2 hb4)
      have hc14 := slot_kept hc1 hb4
      have hc24 := slot_kept hc2 hb4
      have hc34 := slot_kept hc3 hb4
      have hbw4 := hb3.trans (hb4.mono hb3.size)
      clear kx0 kx1 kx2
      go_wp2_with fail
      refine (rsign_num (hY.below hb4)).mono ?_
      rw [hsy]
      rintro e w5 ⟨rfl, hb5⟩
      have hbw5 := hbw4.trans (hb5.mono hbw4.size)
      have hc15 := slot_kept hc14 hb5
      have hc25 := slot_kept hc24 hb5
      have hc35 := slot_kept hc34 hb5
      obtain ⟨⟨kx0, kx1, kx2⟩, -⟩ := slot3 hc15
      replace h1 := (h1.below hb4).below hb5
      replace h2 := (h2.below hb4).below hb5
      clear hX hY hb4 hb5 hc14 hc24 hc34 hc1 hc2 hc3 hsx hsy hs1 ky0 ky1 ky2
      obtain ⟨⟨ky0, ky1, ky2⟩, -⟩ := slot3 hc25
      obtain ⟨e, he1, he2, hmin⟩ : ∃ e : Nat, e ≤ E ∧ e ≤ G ∧ min (E : Int) (G : Int) = (e : Int) := ⟨min E G, Nat.min_le_left _ _, Nat.min_le_right _ _, by omega⟩
      obtain ⟨i, hi⟩ : ∃ i, e + i = E := ⟨E - e, by omega⟩
      obtain ⟨j, hj⟩ : ∃ j, e + j = G := ⟨G - e, by omega⟩
      have hzx := rz_to hz1 hi
      have hzy := rz_to hz2 hj
      obtain ⟨P0, hP0⟩ : ∃ P0, P0 + 1 = P := ⟨P - 1, by omega⟩
      have hiI : (E : Int) - (e : Int) = (i : Int) := by omega
      have hjI : (G : Int) - (e : Int) = (j : Int) := by omega
      have hpi : m + i / 32 + 1 ≤ P0 := by omega
      have hpj : k + j / 32 + 1 ≤ P0 := by omega
      have hPP : P0 < P := by omega
      have hib : i ≤ 200000 := by omega
      have hjb : j ≤ 200000 := by omega
      have hmb : m ≤ 10000 := by omega
      have hkb : k ≤ 10000 := by omega
      have heb : e ≤ 200000 := by omega
      have hwi : IntKind.i64.wrap (i : Int) = (i : Int) := by rw [IntKind.wrap_i64]; omega
      have hwj : IntKind.i64.wrap (j : Int) = (j : Int) := by rw [IntKind.wrap_i64]; omega
      have hes : e + 32 * P ≤ s := by omega
      obtain ⟨X, hXe⟩ : ∃ X, N * 2 ^ i = X := ⟨_, rfl⟩
      obtain ⟨Y, hYe⟩ : ∃ Y, M * 2 ^ j = Y := ⟨_, rfl⟩
      rw [hXe] at hzx
      rw [hYe] at hzy
      have HZX := Lib.hid hzx
      have HZY := Lib.hid hzy
      have HXE := Lib.hid hXe
      have HYE := Lib.hid hYe
      clear hz1 hz2 hzx hzy hi hj hXe hYe hP0 hmP hkP hbS hdS hN0 hM0 hE hG
      go_upto_region 6 with fail
      refine wp_region_slots (by kernel_rfl) [21, 22, 23, 24, 25, 26, 27, 28, 29, 30, 31, 32, 33, 34, 6, 7] (fun w' => w'.heap[w.heap.size]? = some (.cells #[.bool p, .slice a n c, .int .i64 (E : Int)] 31 (0, 0)) ∧ w'.heap[w1.heap.size]? = some (.cells #[.bool q, .slice a2 n2 c2, .int .i64 (G : Int)] 31 (0, 0)) ∧ w'.heap[w2.heap.size]? = some (.cells #[.bool false, .slice none 0 0, .int .i64 0] 31 (0, 0)) ∧ RN w' (.slice a n c) N m ∧ RN w' (.slice a2 n2 c2) M k ∧ Below w5.heap.size w5 w') (Said [Is (.pointer (some ⟨w.heap.size, 1, none⟩)), Is (.slice a n c), Is (.pointer (some ⟨w.heap.size, 2, none⟩)), Is (.int .i64 (E : Int)), Is (.int .i64 (e : Int)), Is (.int .i64 (i : Int)), IsRN X P0, Is (.pointer (some ⟨w1.heap.size, 1, none⟩)), Is (.slice a2 n2 c2), Is (.pointer (some ⟨w1.heap.size, 2, none⟩)), Is (.int .i64 (G : Int)), Is (.int .i64 (e : Int)), Is (.int .i64 (j : Int)), IsRN Y P0, IsRN X P0, IsRN Y P0]) (by kernel_rfl) (by kernel_rfl) (by kernel_rfl) (by kernel_rfl) (Said.keep ?keep) ⟨slot_kept hc15 (bdn (Below.refl _ _) 1), slot_kept hc25 (bdn (Below.refl _ _) 1), slot_kept hc35 (bdn (Below.refl _ _) 1), h1.below (bdn (Below.refl _ _) 1), h2.below (bdn (Below.refl _ _) 1), bdn (Below.refl _ _) 1⟩ (l := [0, 1, 2, 3, 4, 5, 6, 7, 8, 9, 10, 11, 12, 13, 14, 15]) (by kernel_rfl) ?step ?fin
      case keep =>
        refine List.forall_mem_cons.2 ⟨Is.keeps _, ?_⟩
        refine List.forall_mem_cons.2 ⟨Is.keeps _, ?_⟩
        refine List.forall_mem_cons.2 ⟨Is.keeps _, ?_⟩
        refine List.forall_mem_cons.2 ⟨Is.keeps _, ?_⟩
        refine List.forall_mem_cons.2 ⟨Is.keeps _, ?_⟩
        refine List.forall_mem_cons.2 ⟨Is.keeps _, ?_⟩
        refine List.forall_mem_cons.2 ⟨IsRN.keeps _ _, ?_⟩
        refine List.forall_mem_cons.2 ⟨Is.keeps _, ?_⟩
        refine List.forall_mem_cons.2 ⟨Is.keeps _, ?_⟩
        refine List.forall_mem_cons.2 ⟨Is.keeps _, ?_⟩
        refine List.forall_mem_cons.2 ⟨Is.keeps _, ?_⟩
        refine List.forall_mem_cons.2 ⟨Is.keeps _, ?_⟩
        refine List.forall_mem_cons.2 ⟨Is.keeps _, ?_⟩
        refine List.forall_mem_cons.2 ⟨IsRN.keeps _ _, ?_⟩
        refine List.forall_mem_cons.2 ⟨IsRN.keeps _ _, ?_⟩
        refine List.forall_mem_cons.2 ⟨IsRN.keeps _ _, ?_⟩
        exact fun _ h => nomatch h
      case step =>
        refine List.forall_mem_cons.2 ⟨?_, ?_⟩
        · refine SlotStep.plain rfl rfl rfl ?_
          intro tm ws hsame hS hg K hK
          have e2 : tm[2]? = some (.pointer (some ⟨w.heap.size, 0, none⟩)) := hsame.2 2 rfl
          go_simp
          exact hK _ _ (Below.refl _ _) hS rfl
        refine List.forall_mem_cons.2 ⟨?_, ?_⟩
        · refine SlotStep.plain rfl rfl rfl ?_
          intro tm ws hsame hS hg K hK
          obtain ⟨v21, e21, rfl⟩ := hg 0 (by kernel_rfl) _ 21 rfl rfl
          obtain ⟨⟨k0, k1, k2⟩, -⟩ := slot3 hS.1
          go_simp
          exact hK _ _ (Below.refl _ _) hS rfl
        refine List.forall_mem_cons.2 ⟨?_, ?_⟩
        · refine SlotStep.plain rfl rfl rfl ?_
          intro tm ws hsame hS hg K hK
          have e2 : tm[2]? = some (.pointer (some ⟨w.heap.size, 0, none⟩)) := hsame.2 2 rfl
          go_simp
          exact hK _ _ (Below.refl _ _) hS rfl
        refine List.forall_mem_cons.2 ⟨?_, ?_⟩
        · refine SlotStep.plain rfl rfl rfl ?_
          intro tm ws hsame hS hg K hK
          obtain ⟨v23, e23, rfl⟩ := hg 2 (by kernel_rfl) _ 23 rfl rfl
          obtain ⟨⟨k0, k1, k2⟩, -⟩ := slot3 hS.1
          go_simp
          exact hK _ _ (Below.refl _ _) hS rfl
        refine List.forall_mem_cons.2 ⟨?_, ?_⟩
        · refine SlotStep.plain rfl rfl rfl ?_
          intro tm ws hsame hS hg K hK
          have e5 : tm[5]? = some (.int .i64 (e : Int)) := hsame.2 5 rfl
          go_simp
          exact hK _ _ (Below.refl _ _) hS rfl
        refine List.forall_mem_cons.2 ⟨?_, ?_⟩
        · refine SlotStep.plain rfl rfl rfl ?_
          intro tm ws hsame hS hg K hK
          obtain ⟨v24, e24, rfl⟩ := hg 3 (by kernel_rfl) _ 24 rfl rfl
          obtain ⟨v25, e25, rfl⟩ := hg 4 (by kernel_rfl) _ 25 rfl rfl
          go_simp
          exact hK _ _ (Below.refl _ _) hS rfl
        refine List.forall_mem_cons.2 ⟨?_, ?_⟩
        · refine SlotStep.plain rfl rfl rfl ?_
          intro tm ws hsame hS hg K hK
          obtain ⟨v22, e22, rfl⟩ := hg 1 (by kernel_rfl) _ 22 rfl rfl
          obtain ⟨v26, e26, rfl⟩ := hg 5 (by kernel_rfl) _ 26 rfl rfl
          go_simp
          refine (rshl_num i hS.2.2.2.1 (by omega) hpi (by omega)).mono ?_
          rw [HXE.out]
          rintro e wm ⟨aR, nR, cR, rfl, hR, hb⟩
          exact hK _ _ hb (⟨slot_kept hS.1 (hb), slot_kept hS.2.1 (hb), slot_kept hS.2.2.1 (hb), hS.2.2.2.1.below (hb), hS.2.2.2.2.1.below (hb), hS.2.2.2.2.2.trans (Below.mono (hb) hS.2.2.2.2.2.size)⟩) ⟨aR, nR, cR, rfl, hR⟩
        refine List.forall_mem_cons.2 ⟨?_, ?_⟩
        · refine SlotStep.plain rfl rfl rfl ?_
          intro tm ws hsame hS hg K hK
          have e3 : tm[3]? = some (.pointer (some ⟨w1.heap.size, 0, none⟩)) := hsame.2 3 rfl
          go_simp
          exact hK _ _ (Below.refl _ _) hS rfl
        refine List.forall_mem_cons.2 ⟨?_, ?_⟩
        · refine SlotStep.plain rfl rfl rfl ?_
          intro tm ws hsame hS hg K hK
          obtain ⟨v28, e28, rfl⟩ := hg 7 (by kernel_rfl) _ 28 rfl rfl
          obtain ⟨⟨k0, k1, k2⟩, -⟩ := slot3 hS.2.1
          go_simp
          exact hK _ _ (Below.refl _ _) hS rfl
        refine List.forall_mem_cons.2 ⟨?_, ?_⟩
        · refine SlotStep.plain rfl rfl rfl ?_
          intro tm ws hsame hS hg K hK
          have e3 : tm[3]? = some (.pointer (some ⟨w1.heap.size, 0, none⟩)) := hsame.2 3 rfl
          go_simp
          exact hK _ _ (Below.refl _ _) hS rfl
        refine List.forall_mem_cons.2 ⟨?_, ?_⟩
        · refine SlotStep.plain rfl rfl rfl ?_
          intro tm ws hsame hS hg K hK
          obtain ⟨v30, e30, rfl⟩ := hg 9 (by kernel_rfl) _ 30 rfl rfl
          obtain ⟨⟨k0, k1, k2⟩, -⟩ := slot3 hS.2.1
          go_simp
          exact hK _ _ (Below.refl _ _) hS rfl
        refine List.forall_mem_cons.2 ⟨?_, ?_⟩
        · refine SlotStep.plain rfl rfl rfl ?_
          intro tm ws hsame hS hg K hK
          have e5 : tm[5]? = some (.int .i64 (e : Int)) := hsame.2 5 rfl
          go_simp
          exact hK _ _ (Below.refl _ _) hS rfl
        refine List.forall_mem_cons.2 ⟨?_, ?_⟩
        · refine SlotStep.plain rfl rfl rfl ?_
          intro tm ws hsame hS hg K hK
          obtain ⟨v31, e31, rfl⟩ := hg 10 (by kernel_rfl) _ 31 rfl rfl
          obtain ⟨v32, e32, rfl⟩ := hg 11 (by kernel_rfl) _ 32 rfl rfl
          go_simp
          exact hK _ _ (Below.refl _ _) hS rfl
        refine List.forall_mem_cons.2 ⟨?_, ?_⟩
        · refine SlotStep.plain rfl rfl rfl ?_
          intro tm ws hsame hS hg K hK
          obtain ⟨v29, e29, rfl⟩ := hg 8 (by kernel_rfl) _ 29 rfl rfl
          obtain ⟨v33, e33, rfl⟩ := hg 12 (by kernel_rfl) _ 33 rfl rfl
          go_simp
          refine (rshl_num j hS.2.2.2.2.1 (by omega) hpj (by omega)).mono ?_
          rw [HYE.out]
          rintro e wm ⟨aR, nR, cR, rfl, hR, hb⟩
          exact hK _ _ hb (⟨slot_kept hS.1 (hb), slot_kept hS.2.1 (hb), slot_kept hS.2.2.1 (hb), hS.2.2.2.1.below (hb), hS.2.2.2.2.1.below (hb), hS.2.2.2.2.2.trans (Below.mono (hb) hS.2.2.2.2.2.size)⟩) ⟨aR, nR, cR, rfl, hR⟩
        refine List.forall_mem_cons.2 ⟨?_, ?_⟩
        · refine SlotStep.plain rfl rfl rfl ?_
          intro tm ws hsame hS hg K hK
          obtain ⟨v27, e27, ⟨a27, n27, c27, rfl, g27⟩⟩ := hg 6 (by kernel_rfl) _ 27 rfl rfl
          go_simp
          exact hK _ _ (Below.refl _ _) hS ⟨a27, n27, c27, rfl, g27⟩
        refine List.forall_mem_cons.2 ⟨?_, ?_⟩
        · refine SlotStep.plain rfl rfl rfl ?_
          intro tm ws hsame hS hg K hK
          obtain ⟨v34, e34, ⟨a34, n34, c34, rfl, g34⟩⟩ := hg 13 (by kernel_rfl) _ 34 rfl rfl
          go_simp
          exact hK _ _ (Below.refl _ _) hS ⟨a34, n34, c34, rfl, g34⟩
        exact fun _ h => nomatch h
      case fin =>
        intro tm w8 hsame hS hgot
        obtain ⟨u, hu, htm⟩ := hsame.form (by kernel_rfl)
        obtain ⟨v6, e6, ax, nx, cx, rfl, hx⟩ := hgot 14 _ 6 rfl rfl
        obtain ⟨v7, e7, ay, ny, cy, rfl, hy⟩ := hgot 15 _ 7 rfl rfl
        have h6 := hu _ _ e6
        have h7 := hu _ _ e7
        obtain ⟨hd1, hd2, hd3, -, -, hb8⟩ := hS
        have hbw8 := hbw5.trans (hb8.mono hbw5.size)
        clear hgot hu hsame e6 e7 hb8 h1 h2 hc15 hc25 hc35 kx0 kx1 kx2 ky0 ky1 ky2 hmin hiI hjI
        rw [htm]
        clear htm tm
        simp only [List.foldl_cons, List.foldl_nil, List.setIfInBounds_toArray, List.set_cons_zero, List.set_cons_succ, h6, h7]
        clear h6 h7
        obtain ⟨⟨kx0, kx1, kx2⟩, -⟩ := slot3 hd1
        obtain ⟨⟨ky0, ky1, ky2⟩, -⟩ := slot3 hd2
        by_cases hpq : p = q
        · have hpt : (p == q) = true := by rw [hpq]; exact beq_self_eq_true q
          have HV := Lib.hid (rz_same hpq HZX.out HZY.out)
          clear hpq HZX HZY
          go_upto_region 8 with fail
          refine wp_region_slots_tail (by kernel_rfl) 7 [41, 42, 43, 44, 45, 46, 47] (fun w' => w'.heap[w.heap.size]? = some (.cells #[.bool p, .slice a n c, .int .i64 (E : Int)] 31 (0, 0)) ∧ w'.heap[w1.heap.size]? = some (.cells #[.bool q, .slice a2 n2 c2, .int .i64 (G : Int)] 31 (0, 0)) ∧ w'.heap[w2.heap.size]? = some (.cells #[.bool false, .slice none 0 0, .int .i64 0] 31 (0, 0)) ∧ RN w' (.slice ax nx cx) X P0 ∧ RN w' (.slice ay ny cy) Y P0 ∧ Below w8.heap.size w8 w') (Said [Is (.pointer (some ⟨w.heap.size, 0, none⟩)), Is (.bool p), Is (.slice ax nx cx), Is (.slice ay ny cy), IsRN (X + Y) P, Is (.int .i64 (e : Int)), IsRZ (sg p (X + Y) * 2 ^ e) P (e + 32 * P)]) (by kernel_rfl) (by kernel_rfl) (by kernel_rfl) (by kernel_rfl) (by kernel_rfl) (Said.keep ?keep) ⟨slot_kept hd1 (bdn (Below.refl _ _) 1), slot_kept hd2 (bdn (Below.refl _ _) 1), slot_kept hd3 (bdn (Below.refl _ _) 1), hx.below (bdn (Below.refl _ _) 1), hy.below (bdn (Below.refl _ _) 1), bdn (Below.refl _ _) 1⟩ (l := [0, 1, 2, 3, 4, 5, 6]) (by kernel_rfl) ?step ?fin
          case keep =>
            refine List.forall_mem_cons.2 ⟨Is.keeps _, ?_⟩
            refine List.forall_mem_cons.2 ⟨Is.keeps _, ?_⟩
            refine List.forall_mem_cons.2 ⟨Is.keeps _, ?_⟩
            refine List.forall_mem_cons.2 ⟨Is.keeps _, ?_⟩
            refine List.forall_mem_cons.2 ⟨IsRN.keeps _ _, ?_⟩
            refine List.forall_mem_cons.2 ⟨Is.keeps _, ?_⟩
            refine List.forall_mem_cons.2 ⟨IsRZ.keeps _ _ _, ?_⟩
            exact fun _ h => nomatch h
          case step =>
            refine List.forall_mem_cons.2 ⟨?_, ?_⟩
            · refine SlotStep.plain rfl rfl rfl ?_
              intro tm ws hsame hS hg K hK
              have e2 : tm[2]? = some (.pointer (some ⟨w.heap.size, 0, none⟩)) := hsame.2 2 rfl
              go_simp
              exact hK _ _ (Below.refl _ _) hS rfl
            refine List.forall_mem_cons.2 ⟨?_, ?_⟩
            · refine SlotStep.plain rfl rfl rfl ?_
              intro tm ws hsame hS hg K hK
              obtain ⟨v41, e41, rfl⟩ := hg 0 (by kernel_rfl) _ 41 rfl rfl
              obtain ⟨⟨k0, k1, k2⟩, -⟩ := slot3 hS.1
              go_simp
              exact hK _ _ (Below.refl _ _) hS rfl
            refine List.forall_mem_cons.2 ⟨?_, ?_⟩
            · refine SlotStep.plain rfl rfl rfl ?_
              intro tm ws hsame hS hg K hK
              have e6 : tm[6]? = some (.slice ax nx cx) := hsame.2 6 rfl
              go_simp
              exact hK _ _ (Below.refl _ _) hS rfl
            refine List.forall_mem_cons.2 ⟨?_, ?_⟩
            · refine SlotStep.plain rfl rfl rfl ?_
              intro tm ws hsame hS hg K hK
              have e7 : tm[7]? = some (.slice ay ny cy) := hsame.2 7 rfl
              go_simp
              exact hK _ _ (Below.refl _ _) hS rfl
            refine List.forall_mem_cons.2 ⟨?_, ?_⟩
            · refine SlotStep.plain rfl rfl rfl ?_
              intro tm ws hsame hS hg K hK
              obtain ⟨v43, e43, rfl⟩ := hg 2 (by kernel_rfl) _ 43 rfl rfl
              obtain ⟨v44, e44, rfl⟩ := hg 3 (by kernel_rfl) _ 44 rfl rfl
              go_simp
              refine (radd_num hS.2.2.2.1 hS.2.2.2.2.1 hPP hPP (by omega)).mono ?_
              rintro e wm ⟨aR, nR, cR, rfl, hR, hb⟩
              exact hK _ _ hb (⟨slot_kept hS.1 (hb), slot_kept hS.2.1 (hb), slot_kept hS.2.2.1 (hb), hS.2.2.2.1.below (hb), hS.2.2.2.2.1.below (hb), hS.2.2.2.2.2.trans (Below.mono (hb) hS.2.2.2.2.2.size)⟩) ⟨aR, nR, cR, rfl, hR⟩
            refine List.forall_mem_cons.2 ⟨?_, ?_⟩
            · refine SlotStep.plain rfl rfl rfl ?_
              intro tm ws hsame hS hg K hK
              have e5 : tm[5]? = some (.int .i64 (e : Int)) := hsame.2 5 rfl
              go_simp
              exact hK _ _ (Below.refl _ _) hS rfl
            refine List.forall_mem_cons.2 ⟨?_, ?_⟩
            · refine SlotStep.plain rfl rfl rfl ?_
              intro tm ws hsame hS hg K hK
              obtain ⟨v42, e42, rfl⟩ := hg 1 (by kernel_rfl) _ 42 rfl rfl
              obtain ⟨v45, e45, ⟨a45, n45, c45, rfl, g45⟩⟩ := hg 4 (by kernel_rfl) _ 45 rfl rfl
              obtain ⟨v46, e46, rfl⟩ := hg 5 (by kernel_rfl) _ 46 rfl rfl
              go_simp
              refine (rmake_num p e g45 (by omega) hP).mono ?_
              rintro e wm ⟨pR, aR, nR, cR, ER, rfl, hR, hb⟩
              exact hK _ _ hb (⟨slot_kept hS.1 (hb), slot_kept hS.2.1 (hb), slot_kept hS.2.2.1 (hb), hS.2.2.2.1.below (hb), hS.2.2.2.2.1.below (hb), hS.2.2.2.2.2.trans (Below.mono (hb) hS.2.2.2.2.2.size)⟩) ⟨pR, aR, nR, cR, ER, rfl, hR⟩
            exact fun _ h => nomatch h
          case fin =>
            intro tm wT hsame hS hgot
            obtain ⟨u, hu, htm⟩ := hsame.form (by kernel_rfl)
            obtain ⟨vT, eT, pR, aR, nR, cR, ER, rfl, hr⟩ := hgot 6 (by decide) _ 47 rfl rfl
            have hT := hu _ _ eT
            obtain ⟨-, -, hblk, -, -, hbT⟩ := hS
            obtain ⟨⟨q0, q1, q2⟩, f0, f1, f2⟩ := slot3 hblk
            have hend := slot3_set (u := .bool pR) (v := .slice aR nR cR) (s := .int .i64 (ER : Int)) hblk
            have hon := slot3_only (w := wT) (g := w2.heap.size) (.bool pR) (.slice aR nR cR) (.int .i64 (ER : Int))
            have hr' := ((hr.var hblk hon).eq HV.out).mono (Nat.le_refl _) hes
            have hbz := hbw8.trans (hbT.mono hbw8.size)
            have HR : Hid (RetZ w (Zx + Zy) P s (.returned (.agg #[.bool pR, .slice aR nR cR, .int .i64 (ER : Int)])) (((wT.setCell ⟨w2.heap.size, 0, none⟩ (.bool pR)).setCell ⟨w2.heap.size, 1, none⟩ (.slice aR nR cR)).setCell ⟨w2.heap.size, 2, none⟩ (.int .i64 (ER : Int)))) :=
              Lib.hid ⟨pR, aR, nR, cR, ER, rfl, hr', hbz.trans (hon.below hb2.size hbz.size)⟩
            clear hgot hu hsame eT hr hr'
            rw [htm]
            clear htm tm
            simp only [List.foldl_cons, List.foldl_nil, List.setIfInBounds_toArray, List.set_cons_zero, List.set_cons_succ, hT, List.drop_succ_cons, List.drop_zero]
            clear hT
            go_wp2_with fail
            exact bodyPost_ret (results_cell_row rfl _ _ w2.heap.size 31 _ (0, 0) _ rfl hend Tryd.underlying31 rfl (by kernel_rfl)) rfl HR.out
        · have hpt : (p == q) = false := by cases p <;> cases q <;> first | rfl | exact absurd rfl hpq
          by_cases hle : Y ≤ X
          · obtain ⟨s3, hs3, hs30⟩ : ∃ s3 : Int, cmpI X Y = s3 ∧ 0 ≤ s3 := ⟨_, rfl, cmpI_ge hle⟩
            have HV := Lib.hid (rz_diff hpq HZX.out HZY.out)
            have HLE := Lib.hid hle
            clear hpq HZX HZY hle
            go_wp2_with fail
            refine (rcmp_num hx hy).mono ?_
            rw [hs3]
            rintro e' w9 ⟨rfl, hb9⟩
            have hle := HLE.out
            replace hd1 := slot_kept hd1 hb9
            replace hd2 := slot_kept hd2 hb9
            replace hd3 := slot_kept hd3 hb9
            replace hx := hx.below hb9
            replace hy := hy.below hb9
            have hbw9 := hbw8.trans (hb9.mono hbw8.size)
            clear hb9 kx0 kx1 kx2 ky0 ky1 ky2
            go_upto_region 10 with fail
            refine wp_region_slots_tail (by kernel_rfl) 7 [53, 54, 55, 56, 57, 58, 59] (fun w' => w'.heap[w.heap.size]? = some (.cells #[.bool p, .slice a n c, .int .i64 (E : Int)] 31 (0, 0)) ∧ w'.heap[w1.heap.size]? = some (.cells #[.bool q, .slice a2 n2 c2, .int .i64 (G : Int)] 31 (0, 0)) ∧ w'.heap[w2.heap.size]? = some (.cells #[.bool false, .slice none 0 0, .int .i64 0] 31 (0, 0)) ∧ RN w' (.slice ax nx cx) X P0 ∧ RN w' (.slice ay ny cy) Y P0 ∧ Below w9.heap.size w9 w') (Said [Is (.pointer (some ⟨w.heap.size, 0, none⟩)), Is (.bool p), Is (.slice ax nx cx), Is (.slice ay ny cy), IsRN (X - Y) P, Is (.int .i64 (e : Int)), IsRZ (sg p (X - Y) * 2 ^ e) P (e + 32 * P)]) (by kernel_rfl) (by kernel_rfl) (by kernel_rfl) (by kernel_rfl) (by kernel_rfl) (Said.keep ?keep) ⟨slot_kept hd1 (bdn (Below.refl _ _) 1), slot_kept hd2 (bdn (Below.refl _ _) 1), slot_kept hd3 (bdn (Below.refl _ _) 1), hx.below (bdn (Below.refl _ _) 1), hy.below (bdn (Below.refl _ _) 1), bdn (Below.refl _ _) 1⟩ (l := [0, 1, 2, 3, 4, 5, 6]) (by kernel_rfl) ?step ?fin
            case keep =>
              refine List.forall_mem_cons.2 ⟨Is.keeps _, ?_⟩
              refine List.forall_mem_cons.2 ⟨Is.keeps _, ?_⟩
              refine List.forall_mem_cons.2 ⟨Is.keeps _, ?_⟩
              refine List.forall_mem_cons.2 ⟨Is.keeps _, ?_⟩
              refine List.forall_mem_cons.2 ⟨IsRN.keeps _ _, ?_⟩
              refine List.forall_mem_cons.2 ⟨Is.keeps _, ?_⟩
              refine List.forall_mem_cons.2 ⟨IsRZ.keeps _ _ _, ?_⟩
              exact fun _ h => nomatch h
            case step =>
              refine List.forall_mem_cons.2 ⟨?_, ?_⟩
              · refine SlotStep.plain rfl rfl rfl ?_
                intro tm ws hsame hS hg K hK
                have e2 : tm[2]? = some (.pointer (some ⟨w.heap.size, 0, none⟩)) := hsame.2 2 rfl
                go_simp
                exact hK _ _ (Below.refl _ _) hS rfl
              refine List.forall_mem_cons.2 ⟨?_, ?_⟩
              · refine SlotStep.plain rfl rfl rfl ?_
                intro tm ws hsame hS hg K hK
                obtain ⟨v53, e53, rfl⟩ := hg 0 (by kernel_rfl) _ 53 rfl rfl
                obtain ⟨⟨k0, k1, k2⟩, -⟩ := slot3 hS.1
                go_simp
                exact hK _ _ (Below.refl _ _) hS rfl
              refine List.forall_mem_cons.2 ⟨?_, ?_⟩
              · refine SlotStep.plain rfl rfl rfl ?_
                intro tm ws hsame hS hg K hK
                have e6 : tm[6]? = some (.slice ax nx cx) := hsame.2 6 rfl
                go_simp
                exact hK _ _ (Below.refl _ _) hS rfl
              refine List.forall_mem_cons.2 ⟨?_, ?_⟩
              · refine SlotStep.plain rfl rfl rfl ?_
                intro tm ws hsame hS hg K hK
                have e7 : tm[7]? = some (.slice ay ny cy) := hsame.2 7 rfl
                go_simp
                exact hK _ _ (Below.refl _ _) hS rfl
              refine List.forall_mem_cons.2 ⟨?_, ?_⟩
              · refine SlotStep.plain rfl rfl rfl ?_
                intro tm ws hsame hS hg K hK
                obtain ⟨v55, e55, rfl⟩ := hg 2 (by kernel_rfl) _ 55 rfl rfl
                obtain ⟨v56, e56, rfl⟩ := hg 3 (by kernel_rfl) _ 56 rfl rfl
                go_simp
                refine (rsub_num hS.2.2.2.1 hS.2.2.2.2.1 hle (by omega)).mono ?_
                rintro e wm ⟨aR, nR, cR, rfl, hR, hb⟩
                exact hK _ _ hb (⟨slot_kept hS.1 (hb), slot_kept hS.2.1 (hb), slot_kept hS.2.2.1 (hb), hS.2.2.2.1.below (hb), hS.2.2.2.2.1.below (hb), hS.2.2.2.2.2.trans (Below.mono (hb) hS.2.2.2.2.2.size)⟩) ⟨aR, nR, cR, rfl, hR.mono (Nat.le_of_lt hPP)⟩
              refine List.forall_mem_cons.2 ⟨?_, ?_⟩
              · refine SlotStep.plain rfl rfl rfl ?_
                intro tm ws hsame hS hg K hK
                have e5 : tm[5]? = some (.int .i64 (e : Int)) := hsame.2 5 rfl
                go_simp
                exact hK _ _ (Below.refl _ _) hS rfl
              refine List.forall_mem_cons.2 ⟨?_, ?_⟩
              · refine SlotStep.plain rfl rfl rfl ?_
                intro tm ws hsame hS hg K hK
                obtain ⟨v54, e54, rfl⟩ := hg 1 (by kernel_rfl) _ 54 rfl rfl
                obtain ⟨v57, e57, ⟨a57, n57, c57, rfl, g57⟩⟩ := hg 4 (by kernel_rfl) _ 57 rfl rfl
                obtain ⟨v58, e58, rfl⟩ := hg 5 (by kernel_rfl) _ 58 rfl rfl
                go_simp
                refine (rmake_num p e g57 (by omega) hP).mono ?_
                rintro e wm ⟨pR, aR, nR, cR, ER, rfl, hR, hb⟩
                exact hK _ _ hb (⟨slot_kept hS.1 (hb), slot_kept hS.2.1 (hb), slot_kept hS.2.2.1 (hb), hS.2.2.2.1.below (hb), hS.2.2.2.2.1.below (hb), hS.2.2.2.2.2.trans (Below.mono (hb) hS.2.2.2.2.2.size)⟩) ⟨pR, aR, nR, cR, ER, rfl, hR⟩
              exact fun _ h => nomatch h
            case fin =>
              intro tm wT hsame hS hgot
              obtain ⟨u, hu, htm⟩ := hsame.form (by kernel_rfl)
              obtain ⟨vT, eT, pR, aR, nR, cR, ER, rfl, hr⟩ := hgot 6 (by decide) _ 59 rfl rfl
              have hT := hu _ _ eT
              obtain ⟨-, -, hblk, -, -, hbT⟩ := hS
              obtain ⟨⟨q0, q1, q2⟩, f0, f1, f2⟩ := slot3 hblk
              have hend := slot3_set (u := .bool pR) (v := .slice aR nR cR) (s := .int .i64 (ER : Int)) hblk
              have hon := slot3_only (w := wT) (g := w2.heap.size) (.bool pR) (.slice aR nR cR) (.int .i64 (ER : Int))
              have hr' := ((hr.var hblk hon).eq HV.out).mono (Nat.le_refl _) hes
              have hbz := hbw9.trans (hbT.mono hbw9.size)
              have HR : Hid (RetZ w (Zx + Zy) P s (.returned (.agg #[.bool pR, .slice aR nR cR, .int .i64 (ER : Int)])) (((wT.setCell ⟨w2.heap.size, 0, none⟩ (.bool pR)).setCell ⟨w2.heap.size, 1, none⟩ (.slice aR nR cR)).setCell ⟨w2.heap.size, 2, none⟩ (.int .i64 (ER : Int)))) :=
                Lib.hid ⟨pR, aR, nR, cR, ER, rfl, hr', hbz.trans (hon.below hb2.size hbz.size)⟩
              clear hgot hu hsame eT hr hr'
              rw [htm]
              clear htm tm
              simp only [List.foldl_cons, List.foldl_nil, List.setIfInBounds_toArray, List.set_cons_zero, List.set_cons_succ, hT, List.drop_succ_cons, List.drop_zero]
              clear hT
              go_wp2_with fail
              exact bodyPost_ret (results_cell_row rfl _ _ w2.heap.size 31 _ (0, 0) _ rfl hend Tryd.underlying31 rfl (by kernel_rfl)) rfl HR.out
          · have hlt : X < Y := by omega
            have hs3 : cmpI X Y = -1 := cmpI_lt hlt
            have HV := Lib.hid (rz_diff' hpq HZX.out HZY.out)
            have HLE : Hid (X ≤ Y) := Lib.hid (Int.le_of_lt hlt)
            clear hpq HZX HZY hle hlt
            go_wp2_with fail
            refine (rcmp_num hx hy).mono ?_
            rw [hs3]
            rintro e' w9 ⟨rfl, hb9⟩
            have hle := HLE.out
            replace hd1 := slot_kept hd1 hb9
            replace hd2 := slot_kept hd2 hb9
            replace hd3 := slot_kept hd3 hb9
            replace hx := hx.below hb9
            replace hy := hy.below hb9
            have hbw9 := hbw8.trans (hb9.mono hbw8.size)
            clear hb9 kx0 kx1 kx2 ky0 ky1 ky2
            go_upto_region 11 with fail
            refine wp_region_slots_tail (by kernel_rfl) 7 [60, 61, 62, 63, 64, 65, 66] (fun w' => w'.heap[w.heap.size]? = some (.cells #[.bool p, .slice a n c, .int .i64 (E : Int)] 31 (0, 0)) ∧ w'.heap[w1.heap.size]? = some (.cells #[.bool q, .slice a2 n2 c2, .int .i64 (G : Int)] 31 (0, 0)) ∧ w'.heap[w2.heap.size]? = some (.cells #[.bool false, .slice none 0 0, .int .i64 0] 31 (0, 0)) ∧ RN w' (.slice ax nx cx) X P0 ∧ RN w' (.slice ay ny cy) Y P0 ∧ Below w9.heap.size w9 w') (Said [Is (.pointer (some ⟨w1.heap.size, 0, none⟩)), Is (.bool q), Is (.slice ay ny cy), Is (.slice ax nx cx), IsRN (Y - X) P, Is (.int .i64 (e : Int)), IsRZ (sg q (Y - X) * 2 ^ e) P (e + 32 * P)]) (by kernel_rfl) (by kernel_rfl) (by kernel_rfl) (by kernel_rfl) (by kernel_rfl) (Said.keep ?keep) ⟨slot_kept hd1 (bdn (Below.refl _ _) 1), slot_kept hd2 (bdn (Below.refl _ _) 1), slot_kept hd3 (bdn (Below.refl _ _) 1), hx.below (bdn (Below.refl _ _) 1), hy.below (bdn (Below.refl _ _) 1), bdn (Below.refl _ _) 1⟩ (l := [0, 1, 2, 3, 4, 5, 6]) (by kernel_rfl) ?step ?fin
            case keep =>
              refine List.forall_mem_cons.2 ⟨Is.keeps _, ?_⟩
              refine List.forall_mem_cons.2 ⟨Is.keeps _, ?_⟩
              refine List.forall_mem_cons.2 ⟨Is.keeps _, ?_⟩
              refine List.forall_mem_cons.2 ⟨Is.keeps _, ?_⟩
              refine List.forall_mem_cons.2 ⟨IsRN.keeps _ _, ?_⟩
              refine List.forall_mem_cons.2 ⟨Is.keeps _, ?_⟩
              refine List.forall_mem_cons.2 ⟨IsRZ.keeps _ _ _, ?_⟩
              exact fun _ h => nomatch h
            case step =>
              refine List.forall_mem_cons.2 ⟨?_, ?_⟩
              · refine SlotStep.plain rfl rfl rfl ?_
                intro tm ws hsame hS hg K hK
                have e3 : tm[3]? = some (.pointer (some ⟨w1.heap.size, 0, none⟩)) := hsame.2 3 rfl
                go_simp
                exact hK _ _ (Below.refl _ _) hS rfl
              refine List.forall_mem_cons.2 ⟨?_, ?_⟩
              · refine SlotStep.plain rfl rfl rfl ?_
                intro tm ws hsame hS hg K hK
                obtain ⟨v60, e60, rfl⟩ := hg 0 (by kernel_rfl) _ 60 rfl rfl
                obtain ⟨⟨k0, k1, k2⟩, -⟩ := slot3 hS.2.1
                go_simp
                exact hK _ _ (Below.refl _ _) hS rfl
              refine List.forall_mem_cons.2 ⟨?_, ?_⟩
              · refine SlotStep.plain rfl rfl rfl ?_
                intro tm ws hsame hS hg K hK
                have e7 : tm[7]? = some (.slice ay ny cy) := hsame.2 7 rfl
                go_simp
                exact hK _ _ (Below.refl _ _) hS rfl
              refine List.forall_mem_cons.2 ⟨?_, ?_⟩
              · refine SlotStep.plain rfl rfl rfl ?_
                intro tm ws hsame hS hg K hK
                have e6 : tm[6]? = some (.slice ax nx cx) := hsame.2 6 rfl
                go_simp
                exact hK _ _ (Below.refl _ _) hS rfl
              refine List.forall_mem_cons.2 ⟨?_, ?_⟩
              · refine SlotStep.plain rfl rfl rfl ?_
                intro tm ws hsame hS hg K hK
                obtain ⟨v62, e62, rfl⟩ := hg 2 (by kernel_rfl) _ 62 rfl rfl
                obtain ⟨v63, e63, rfl⟩ := hg 3 (by kernel_rfl) _ 63 rfl rfl
                go_simp
                refine (rsub_num hS.2.2.2.2.1 hS.2.2.2.1 hle (by omega)).mono ?_
                rintro e wm ⟨aR, nR, cR, rfl, hR, hb⟩
                exact hK _ _ hb (⟨slot_kept hS.1 (hb), slot_kept hS.2.1 (hb), slot_kept hS.2.2.1 (hb), hS.2.2.2.1.below (hb), hS.2.2.2.2.1.below (hb), hS.2.2.2.2.2.trans (Below.mono (hb) hS.2.2.2.2.2.size)⟩) ⟨aR, nR, cR, rfl, hR.mono (Nat.le_of_lt hPP)⟩
              refine List.forall_mem_cons.2 ⟨?_, ?_⟩
              · refine SlotStep.plain rfl rfl rfl ?_
                intro tm ws hsame hS hg K hK
                have e5 : tm[5]? = some (.int .i64 (e : Int)) := hsame.2 5 rfl
                go_simp
                exact hK _ _ (Below.refl _ _) hS rfl
              refine List.forall_mem_cons.2 ⟨?_, ?_⟩
              · refine SlotStep.plain rfl rfl rfl ?_
                intro tm ws hsame hS hg K hK
                obtain ⟨v61, e61, rfl⟩ := hg 1 (by kernel_rfl) _ 61 rfl rfl
                obtain ⟨v64, e64, ⟨a64, n64, c64, rfl, g64⟩⟩ := hg 4 (by kernel_rfl) _ 64 rfl rfl
                obtain ⟨v65, e65, rfl⟩ := hg 5 (by kernel_rfl) _ 65 rfl rfl
                go_simp
                refine (rmake_num q e g64 (by omega) hP).mono ?_
                rintro e wm ⟨pR, aR, nR, cR, ER, rfl, hR, hb⟩
                exact hK _ _ hb (⟨slot_kept hS.1 (hb), slot_kept hS.2.1 (hb), slot_kept hS.2.2.1 (hb), hS.2.2.2.1.below (hb), hS.2.2.2.2.1.below (hb), hS.2.2.2.2.2.trans (Below.mono (hb) hS.2.2.2.2.2.size)⟩) ⟨pR, aR, nR, cR, ER, rfl, hR⟩
              exact fun _ h => nomatch h
            case fin =>
              intro tm wT hsame hS hgot
              obtain ⟨u, hu, htm⟩ := hsame.form (by kernel_rfl)
              obtain ⟨vT, eT, pR, aR, nR, cR, ER, rfl, hr⟩ := hgot 6 (by decide) _ 66 rfl rfl
              have hT := hu _ _ eT
              obtain ⟨-, -, hblk, -, -, hbT⟩ := hS
              obtain ⟨⟨q0, q1, q2⟩, f0, f1, f2⟩ := slot3 hblk
              have hend := slot3_set (u := .bool pR) (v := .slice aR nR cR) (s := .int .i64 (ER : Int)) hblk
              have hon := slot3_only (w := wT) (g := w2.heap.size) (.bool pR) (.slice aR nR cR) (.int .i64 (ER : Int))
              have hr' := ((hr.var hblk hon).eq HV.out).mono (Nat.le_refl _) hes
              have hbz := hbw9.trans (hbT.mono hbw9.size)
              have HR : Hid (RetZ w (Zx + Zy) P s (.returned (.agg #[.bool pR, .slice aR nR cR, .int .i64 (ER : Int)])) (((wT.setCell ⟨w2.heap.size, 0, none⟩ (.bool pR)).setCell ⟨w2.heap.size, 1, none⟩ (.slice aR nR cR)).setCell ⟨w2.heap.size, 2, none⟩ (.int .i64 (ER : Int)))) :=
                Lib.hid ⟨pR, aR, nR, cR, ER, rfl, hr', hbz.trans (hon.below hb2.size hbz.size)⟩
              clear hgot hu hsame eT hr hr'
              rw [htm]
              clear htm tm
              simp only [List.foldl_cons, List.foldl_nil, List.setIfInBounds_toArray, List.set_cons_zero, List.set_cons_succ, hT, List.drop_succ_cons, List.drop_zero]
              clear hT
              go_wp2_with fail
              exact bodyPost_ret (results_cell_row rfl _ _ w2.heap.size 31 _ (0, 0) _ rfl hend Tryd.underlying31 rfl (by kernel_rfl)) rfl HR.out
end Go.Proofs.YtjmipbljoblnnaaDoor

namespace Go.Proofs.YtjmipbljoblnnaaDoor
open Go.RowKit
set_option maxRecDepth 100000 in
set_option maxHeartbeats 1200000 in
theorem rzsub_num {w : World} {p q : Bool} {a a2 : Option Addr} {n c n2 c2 E G : Nat} {Zx Zy : Int} {m k b d : Nat} (P s : Nat) (hX : RZ w (.agg #[.bool p, .slice a n c, .int .i64 (E : Int)]) Zx m b) (hY : RZ w (.agg #[.bool q, .slice a2 n2 c2, .int .i64 (G : Int)]) Zy k d) (hmP : m + b / 32 + 1 < P) (hkP : k + (d + 32 * k) / 32 + 1 < P) (hP : P ≤ 10000) (hb : b ≤ 200000) (hd : d + 32 * k ≤ 200000) (hbS : b + 32 * P ≤ s) (hdS : d + 32 * k + 32 * P ≤ s) :
    Calls Tryd.prog 10 #[.agg #[.bool p, .slice a n c, .int .i64 (E : Int)], .agg #[.bool q, .slice a2 n2 c2, .int .i64 (G : Int)]] w fun e w' => RetZ w (Zx - Zy) P s e w' := by
  obtain ⟨w1, hw1⟩ : ∃ w1, w.alloc (.cells #[.bool p, .slice a n c, .int .i64 (E : Int)] 31) = w1 := ⟨_, rfl⟩
  obtain ⟨w2, hw2⟩ : ∃ w2, w1.alloc (.cells #[.bool q, .slice a2 n2 c2, .int .i64 (G : Int)] 31) = w2 := ⟨_, rfl⟩
  obtain ⟨w3, hw3⟩ : ∃ w3, w2.alloc (.cells #[.bool false, .slice none 0 0, .int .i64 0] 31) = w3 := ⟨_, rfl⟩
  have hb1 : Below w.heap.size w w1 := hw1 ▸ below_alloc w _
  have hb12 : Below w1.heap.size w1 w2 := hw2 ▸ below_alloc w1 _
  have hb23 : Below w2.heap.size w2 w3 := hw3 ▸ below_alloc w2 _
  have hb2 : Below w.heap.size w w2 := hb1.trans (hb12.mono hb1.size)
  have hb3 : Below w.heap.size w w3 := hb2.trans (hb23.mono hb2.size)
  have hc1 : w3.heap[w.heap.size]? = some (.cells #[.bool p, .slice a n c, .int .i64 (E : Int)] 31 (0, 0)) := slot_kept (slot_kept (hw1 ▸ heap_alloc_new w _) hb12) hb23
  have hc2 : w3.heap[w1.heap.size]? = some (.cells #[.bool q, .slice a2 n2 c2, .int .i64 (G : Int)] 31 (0, 0)) := slot_kept (hw2 ▸ heap_alloc_new w1 _) hb23
  have hc3 : w3.heap[w2.heap.size]? = some (.cells #[.bool false, .slice none 0 0, .int .i64 0] 31 (0, 0)) := hw3 ▸ heap_alloc_new w2 _
  replace hX := hX.below hb3
  replace hY := hY.below hb3
  clear hb12 hb23
  go_enter Tryd.func10, Tryd.ntmps10
  go_upto_region 1 with fail
  refine wp_region_slots_tail (by kernel_rfl) 4 [5, 6, 7, 8] (fun w' => w'.heap[w.heap.size]? = some (.cells #[.bool p, .slice a n c, .int .i64 (E : Int)] 31 (0, 0)) ∧ w'.heap[w1.heap.size]? = some (.cells #[.bool q, .slice a2 n2 c2, .int .i64 (G : Int)] 31 (0, 0)) ∧ w'.heap[w2.heap.size]? = some (.cells #[.bool false, .slice none 0 0, .int .i64 0] 31 (0, 0)) ∧ RZ w' (.agg #[.bool p, .slice a n c, .int .i64 (E : Int)]) Zx m b ∧ RZ w' (.agg #[.bool q, .slice a2 n2 c2, .int .i64 (G : Int)]) Zy k d ∧ Below w3.heap.size w3 w') (Said [Is (.agg #[.bool p, .slice a n c, .int .i64 (E : Int)]), Is (.agg #[.bool q, .slice a2 n2 c2, .int .i64 (G : Int)]), IsRZ (-Zy) k (d + 32 * k), IsRZ (Zx + -Zy) P s]) (by kernel_rfl) (by kernel_rfl) (by kernel_rfl) (by kernel_rfl) (by kernel_rfl) (Said.keep ?keep) ⟨slot_kept hc1 (bdn (Below.refl _ _) 1), slot_kept hc2 (bdn (Below.refl _ _) 1), slot_kept hc3 (bdn (Below.refl _ _) 1), hX.below (bdn (Below.refl _ _) 1), hY.below (bdn (Below.refl _ _) 1), bdn (Below.refl _ _) 1⟩ (l := [0, 1, 2, 3]) (by kernel_rfl) ?step ?fin
  case keep =>
    refine List.forall_mem_cons.2 ⟨Is.keeps _, ?_⟩
    refine List.forall_mem_cons.2 ⟨Is.keeps _, ?_⟩
    refine List.forall_mem_cons.2 ⟨IsRZ.keeps _ _ _, ?_⟩
    refine List.forall_mem_cons.2 ⟨IsRZ.keeps _ _ _, ?_⟩
    exact fun _ h => nomatch h
  case step =>
    refine List.forall_mem_cons.2 ⟨?_, ?_⟩
    · refine SlotStep.plain rfl rfl rfl ?_
      intro tm ws hsame hS hg K hK
      have e2 : tm[2]? = some (.pointer (some ⟨w.heap.size, 0, none⟩)) := hsame.2 2 rfl
      obtain ⟨⟨k0, k1, k2⟩, -⟩ := slot3 hS.1
      go_simp
      exact hK _ _ (Below.refl _ _) hS rfl
    refine List.forall_mem_cons.2 ⟨?_, ?_⟩
    · refine SlotStep.plain rfl rfl rfl ?_
      intro tm ws hsame hS hg K hK
      have e3 : tm[3]? = some (.pointer (some ⟨w1.heap.size, 0, none⟩)) := hsame.2 3 rfl
      obtain ⟨⟨k0, k1, k2⟩, -⟩ := slot3 hS.2.1
      go_simp
      exact hK _ _ (Below.refl _ _) hS rfl
    refine List.forall_mem_cons.2 ⟨?_, ?_⟩
    · refine SlotStep.plain rfl rfl rfl ?_
      intro tm ws hsame hS hg K hK
      obtain ⟨v6, e6, rfl⟩ := hg 1 (by kernel_rfl) _ 6 rfl rfl
      go_simp
      refine (rnot_num hS.2.2.2.2.1 (by omega) (by omega)).mono ?_
      rintro e wm ⟨pR, aR, nR, cR, ER, rfl, hR, hb⟩
      exact hK _ _ hb (⟨slot_kept hS.1 (hb), slot_kept hS.2.1 (hb), slot_kept hS.2.2.1 (hb), hS.2.2.2.1.below (hb), hS.2.2.2.2.1.below (hb), hS.2.2.2.2.2.trans (Below.mono (hb) hS.2.2.2.2.2.size)⟩) ⟨pR, aR, nR, cR, ER, rfl, hR⟩
    refine List.forall_mem_cons.2 ⟨?_, ?_⟩
    · refine SlotStep.plain rfl rfl rfl ?_
      intro tm ws hsame hS hg K hK
      obtain ⟨v5, e5, rfl⟩ := hg 0 (by kernel_rfl) _ 5 rfl rfl
      obtain ⟨v7, e7, ⟨p7, a7, n7, c7, E7, rfl, g7⟩⟩ := hg 2 (by kernel_rfl) _ 7 rfl rfl
      go_simp
      refine (rzadd_num P s hS.2.2.2.1 g7 hmP hkP hP hb hd hbS hdS).mono ?_
      rintro e wm ⟨pR, aR, nR, cR, ER, rfl, hR, hb⟩
      exact hK _ _ hb (⟨slot_kept hS.1 (hb), slot_kept hS.2.1 (hb), slot_kept hS.2.2.1 (hb), hS.2.2.2.1.below (hb), hS.2.2.2.2.1.below (hb), hS.2.2.2.2.2.trans (Below.mono (hb) hS.2.2.2.2.2.size)⟩) ⟨pR, aR, nR, cR, ER, rfl, hR⟩
    exact fun _ h => nomatch h
  case fin =>
    intro tm w8 hsame hS hgot
    obtain ⟨u, hu, htm⟩ := hsame.form (by kernel_rfl)
    obtain ⟨v8, e8, pR, aR, nR, cR, ER, rfl, hr⟩ := hgot 3 (by decide) _ 8 rfl rfl
    have h8 := hu _ _ e8
    obtain ⟨-, -, hblk, -, -, hb8⟩ := hS
    obtain ⟨⟨q0, q1, q2⟩, f0, f1, f2⟩ := slot3 hblk
    have hend := slot3_set (u := .bool pR) (v := .slice aR nR cR) (s := .int .i64 (ER : Int)) hblk
    have hon := slot3_only (w := w8) (g := w2.heap.size) (.bool pR) (.slice aR nR cR) (.int .i64 (ER : Int))
    have hr' := (hr.var hblk hon).eq (Int.sub_eq_add_neg).symm
    have hbw := hb3.trans (hb8.mono hb3.size)
    have HR : Hid (RetZ w (Zx - Zy) P s (.returned (.agg #[.bool pR, .slice aR nR cR, .int .i64 (ER : Int)])) (((w8.setCell ⟨w2.heap.size, 0, none⟩ (.bool pR)).setCell ⟨w2.heap.size, 1, none⟩ (.slice aR nR cR)).setCell ⟨w2.heap.size, 2, none⟩ (.int .i64 (ER : Int)))) :=
      Lib.hid ⟨pR, aR, nR, cR, ER, rfl, hr', hbw.trans (hon.below hb2.size hbw.size)⟩
    clear hgot hu hsame e8 hr hr'
    rw [htm]
    clear htm tm
    simp only [List.foldl_cons, List.foldl_nil, List.setIfInBounds_toArray, List.set_cons_zero, List.set_cons_succ, h8, List.drop_succ_cons, List.drop_zero]
    clear h8
    go_wp2_with fail
    exact bodyPost_ret (results_cell_row rfl _ _ w2.heap.size 31 _ (0, 0) _ rfl hend Tryd.underlying31 rfl (by kernel_rfl)) rfl HR.out
end Go.Proofs.YtjmipbljoblnnaaDoor
