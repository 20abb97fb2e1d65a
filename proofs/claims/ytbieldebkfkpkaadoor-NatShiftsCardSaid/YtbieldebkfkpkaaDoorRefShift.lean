/-
  Contracts of the reference's Shl and Shr.
-/
import Derived.Test.YtbieldebkfkpkaaDoorRefCmp
import Derived.Test.YtbieldebkfkpkaaDoorShift
namespace Go.Proofs.YtbieldebkfkpkaaDoor
open Go.RowKit

/-- make([]uint64, k, n), k and n variables. -/
theorem wpList_make_words_cap {P : Program} (w : World) {ops : Array Oper} {rest : List Oper} {o : Oper} {a : Act} {Q : Exit → Act → World → Prop}
    (hg : o.guard = none) (l c : Operand) (t : TypeId) (hop : o.op = Op.makeSlice t l c)
    (h1 : P.underlying t = some (.slice 68)) (hi : (P.info? 68).map (fun i => (i.zero, i.size, i.bytes)) = some (some (.int .u64 0), 1, 8))
    (L C : Int) (k n : Nat) (hl : a.eval l = .int .i64 L) (hc : a.eval c = .int .i64 C) (hL : L = (k : Int)) (hC : C = (n : Int)) (hkn : k ≤ n) (b : n ≤ MaxW)
    (hK : ∀ w', Ow w.heap.size w' (.slice (some ⟨w.heap.size, 0, none⟩) k n) (List.replicate k 0) → Below w.heap.size w w' → w.heap.size < w'.heap.size → wpList P ops Q rest (a.put o.dst (.slice (some ⟨w.heap.size, 0, none⟩) k n)) w') :
    wpList P ops Q (o :: rest) a w := by
  obtain ⟨i, h2, h3, h4, h5⟩ := info_parts hi
  unfold MaxW at b
  have hr := run_make (P := P) w t 68 i (.int .u64 0) h1 h2 h3 .i64 .i64 (k : Int) (n : Int) (by omega) (by omega) (by rw [h5]; omega) (by omega)
  simp only [Int.toNat_natCast] at hr
  have hown0 := World.ownsRow_lit (e := 68) (size := i.size) w (madeCells (Value.int .u64 0).cells (n * i.size)) n (Nat.le_refl _) (by unfold maxLen; omega) (size_madeCells _ _)
  have e : (madeCells (Value.int .u64 0).cells (n * i.size)).toList = vals (List.replicate n 0) := by
    rw [h4, Nat.mul_one, show (Value.int .u64 0).cells = #[.int .u64 0] from rfl, toList_madeCells_one, vals, List.map_replicate]
  rw [e, h4] at hown0
  have hown1 : Ow w.heap.size (w.alloc (.cells (madeCells (Value.int .u64 0).cells (n * i.size)) 68)) (.slice (some ⟨w.heap.size, 0, none⟩) n n) (List.replicate n 0) := by
    unfold Ow; rw [List.length_replicate, h4]; exact hown0
  have hown2 := hown1.take k hkn
  rw [List.take_replicate, Nat.min_eq_left hkn] at hown2
  refine wpList_plain hg fun K hK' => ?_
  subst hL
  subst hC
  unfold Oper.wp
  simp [execOp, hop, hl, hc, hr, Result.andThen]
  exact hK' _ _ (hK _ hown2 ((Below.refl _ _).alloc (Nat.le_refl _) _) (by simp))

theorem rshl_step {o a : List Int} {q i : Nat} {x c v P : Int} (hi : i < a.length) (hx : x = a.getD i 0) (hol : o.length = q + i) (hv : v = x * P + c)
    (h : vb B32 o + B32 ^ (q + i) * c = B32 ^ q * (P * vb B32 (a.take i))) :
    vb B32 (o ++ [v % 4294967296]) + B32 ^ (q + (i + 1)) * (v / 4294967296) = B32 ^ q * (P * vb B32 (a.take (i + 1))) := by
  rw [vb_snoc, hol, vb_take_succ B32 hi, ← hx, ← Nat.add_assoc, Int.pow_succ, Int.mul_assoc, Int.add_assoc, ← Int.mul_add]
  have e : v % 4294967296 + B32 * (v / 4294967296) = c + x * P := by unfold B32; omega
  rw [e, Int.mul_add (B32 ^ (q + i)), ← Int.add_assoc, h, Int.mul_add P, Int.mul_add (B32 ^ q), Int.pow_add]
  have e2 : B32 ^ q * (P * (B32 ^ i * x)) = B32 ^ q * B32 ^ i * (x * P) := by
    rw [Int.mul_assoc, Int.mul_comm P, Int.mul_assoc]
  rw [e2]

theorem pow2_words32 (k : Nat) : (2 : Int) ^ k = B32 ^ (k / 32) * 2 ^ (k % 32) := by
  have e : B32 ^ (k / 32) = 2 ^ (32 * (k / 32)) := by
    rw [Int.pow_mul]; rfl
  rw [e, ← Int.pow_add]
  congr 1
  omega
theorem pow2_le31 {r : Nat} (hr : r ≤ 31) : (2 : Int) ^ r ≤ 2147483648 := by
  have := pow_le_pow (b := 2) (by decide) hr
  exact this

/-- A function has returned a number: a slice of digits with no room behind it. -/
def RetRdF (b : Int) (w : World) (N : Int) (e : Ending) (w' : World) : Prop :=
  ∃ ao n l, e = .returned (.slice ao n n) ∧ n = l.length ∧ n ≤ 9223372036854775807 ∧ Rd w' ao l ∧ Can b l ∧ vb b l = N ∧ Below w.heap.size w w' ∧ ∀ g o, ao = some ⟨g, o, none⟩ → w.heap.size ≤ g
theorem RetRdF.rd {b : Int} {w : World} {N : Int} {e : Ending} {w' : World} (h : RetRdF b w N e w') : RetRd b w N e w' := by
  obtain ⟨ao, n, l, h1, h2, h3, h4⟩ := h
  exact ⟨ao, n, n, l, h1, h2, Nat.le_refl _, h3, h4⟩
set_option maxRecDepth 100000 in
set_option maxHeartbeats 4000000 in
theorem rshl_full (ax : Option Addr) (na ca : Nat) (a : List Int) (k : Nat) (w : World) (hna : na = a.length) (_h1 : na ≤ ca) (_h2 : ca ≤ 9223372036854775807) (hx : Rd w ax a) (hla : Lim B32 a) (hk : k ≤ 16777216) (hM : na + 600000 ≤ MaxW) :
    Calls Tryd.prog 15 #[.slice ax na ca, .int .i64 k] w fun e w' => RetRdF B32 w (vb B32 a * 2 ^ k) e w' := by
  have HA := Lib.hid hna
  have hM2 := hM
  unfold MaxW at hM2
  by_cases h0 : na = 0
  · have hz : ((na : Int) == 0) = true := by rw [h0]; rfl
    have ha0 : a = [] := List.eq_nil_of_length_eq_zero (by omega)
    have HA0 := Lib.hid ha0
    clear hna ha0 h0
    go_enter Tryd.func15, Tryd.ntmps15
    go_wp2
    go_ret
    exact ⟨none, 0, [], rfl, rfl, by omega, Rd.nil _ _, Can.nil _, by rw [HA0.out]; simp, Below.refl _ _, fun g o e => by cases e⟩
  · have hz : ((na : Int) == 0) = false := by rw [beq_eq_false_iff_ne]; omega
    obtain ⟨b, off, rfl, hat⟩ := hx.cases (by intro e; rw [e] at hna; simp at hna; omega)
    obtain ⟨q, hq⟩ : ∃ q, q = k / 32 := ⟨_, rfl⟩
    obtain ⟨r, hr⟩ : ∃ r, r = k % 32 := ⟨_, rfl⟩
    have hq1 : ((k : Int)).tdiv 32 = (q : Int) := by rw [Int.tdiv_eq_ediv_of_nonneg (by omega)]; omega
    have hr1 : ((k : Int)).tmod 32 = (r : Int) := by rw [Int.tmod_eq_emod_of_nonneg (by omega)]; omega
    have hr31 : r ≤ 31 := by omega
    have hqb : q ≤ 524288 := by omega
    have hpow : (2 : Int) ^ k = B32 ^ q * 2 ^ r := by rw [hq, hr]; exact pow2_words32 k
    have hp31 := pow2_le31 hr31
    have hpp := pow2_pos r
    have HPOW := Lib.hid hpow
    obtain ⟨N, hN⟩ : ∃ N, q + na + 1 = N := ⟨_, rfl⟩
    have hNI : (q : Int) + (na : Int) + 1 = (N : Int) := by omega
    have hNM : N ≤ MaxW := by omega
    have hqN : q ≤ N := by omega
    have hN63 : N ≤ 17592186344416 := by omega
    have HN := Lib.hid hN
    obtain ⟨P, hP⟩ : ∃ P : Int, P = 2 ^ r := ⟨_, rfl⟩
    have HP := Lib.hid hP
    rw [← hP] at hp31 hpp HPOW
    clear hq hr hpow hN hna h0 hP
    go_enter Tryd.func15, Tryd.ntmps15
    go_wp2_with (at_make; refine wpList_make_words_cap w rfl (.tmp 13) (.tmp 19) 25 rfl Tryd.underlying25 info_u64 _ _ q N rfl rfl (by omega) (by omega) hqN hNM ?_; intro w1 hw1 hb1 hs1)
    go_loopw [5, 6, 7] (fun vo cc ii wr => ∃ (i : Nat) (c : Int) (o : List Int), i ≤ na ∧ ii = .int .i64 i ∧ cc = .int .u64 c ∧ 0 ≤ c ∧ c < P ∧ Hid (o.length = q + i) ∧ Lim B32 o ∧ Ow w.heap.size wr vo o ∧ Below w.heap.size w wr ∧ Hid (vb B32 o + B32 ^ (q + i) * c = B32 ^ q * (P * vb B32 (a.take i))))
      (fun _ _ ii _ => na - (intOf ii).toNat)
    case atStart => exact ⟨0, 0, List.replicate q 0, Nat.zero_le _, rfl, rfl, Int.le_refl _, hpp, by show _ = _; simp, Lim.replicate B32_pos q, hw1, hb1, by show _ = _; rw [vb_replicate]; simp⟩
    case round =>
      obtain ⟨i, c, o, hi, rfl, rfl, hc0, hc1, HL, hlim, hO, hb, HV⟩ := hrel
      by_cases hlt : i < na
      · obtain ⟨x, hxe⟩ : ∃ x, x = a.getD i 0 := ⟨_, rfl⟩
        have bx : 0 ≤ x ∧ x < 4294967296 := by rw [hxe]; exact hla.getD B32_pos _
        obtain ⟨bx0, bx1⟩ := bx
        have hcx : wr.cell? ⟨b, off + i, none⟩ = some (.int .u64 x) := by rw [hxe]; exact hat.below hb i (by rw [← HA.out]; exact hlt)
        obtain ⟨S, hS⟩ : ∃ S, x * 2 ^ r = S := ⟨_, rfl⟩
        have hSP : x * P = S := by rw [HP.out]; exact hS
        have hS0 : 0 ≤ S := by rw [← hSP]; exact Int.mul_nonneg bx0 (by omega)
        have hS1 : S + P ≤ 4294967296 * P := by
          rw [← hSP]
          have := Int.mul_le_mul_of_nonneg_right (show x + 1 ≤ 4294967296 by omega) (show 0 ≤ P by omega)
          rw [Int.add_mul, Int.one_mul] at this
          exact this
        have hS2 : S ≤ 9223372036854775807 := by omega
        have hst := rshl_step (o := o) (a := a) (q := q) (i := i) (x := x) (c := c) (v := S + c) (P := P) (by rw [← HA.out]; exact hlt) hxe HL.out (by rw [hSP]) HV.out
        have hc2 : (S + c) / 4294967296 < P := Int.ediv_lt_of_lt_mul (by decide) (by omega)
        have HC2 := Lib.hid hc2
        have HST := Lib.hid hst
        have hlen : o.length + 1 ≤ MaxW := by rw [HL.out]; unfold MaxW; omega
        have hbs := hb.size
        clear hst hxe hat hSP hc2
        go_wp2_with (at_builtin; refine wpList_append_words _ rfl _ _ 25 rfl Tryd.underlying25 info_u64 w.heap.size u5 o rfl (hO.alloc _) ⟨wr.heap.size, 0, none⟩ 1 1 [(S + c) % 4294967296] rfl rfl (news1 _ _ _) hlen (by simp; omega) ?_; intro v' w2 hO2 hb2)
        go_roundw
        case rel =>
          refine ⟨i + 1, (S + c) / 4294967296, o ++ [(S + c) % 4294967296], by omega, by go_num, rfl, by omega, HC2.out, ?_, hlim.app (Lim.cons (by omega) (by unfold B32; omega) (Lim.nil _)), hO2, (hb.alloc hbs _).trans hb2, HST.out⟩
          show _ = _
          rw [List.length_append, HL.out]; rfl
        case measure => simp [intOf]; omega
      · have hin : i = na := by omega
        have hlen : o.length + 1 ≤ MaxW := by rw [HL.out]; unfold MaxW; omega
        have hbs := hb.size
        have hlimc : Lim B32 (o ++ [c]) := hlim.app (Lim.cons hc0 (by unfold B32; omega) (Lim.nil _))
        have hv : vb B32 (o ++ [c]) = vb B32 a * 2 ^ k := by
          have h8 := HV.out
          rw [hin, List.take_of_length_le (l := a) (by rw [← HA.out]; exact Nat.le_refl _)] at h8
          rw [vb_snoc, HL.out, hin, h8, HPOW.out, ← Int.mul_assoc, Int.mul_comm]
        have hl2 : (o ++ [c]).length = N := by rw [List.length_append, HL.out, hin, ← HN.out]; rfl
        have HVC := Lib.hid hv
        have HL2 := Lib.hid hl2
        clear hv hin hl2
        go_wp2_with (at_builtin; refine wpList_append_words _ rfl _ _ 25 rfl Tryd.underlying25 info_u64 w.heap.size u5 o rfl (hO.alloc _) ⟨wr.heap.size, 0, none⟩ 1 1 [c] rfl rfl (news1 _ _ _) hlen (by simp; omega) ?_; intro v' w2 hO2 hb2; obtain ⟨ao', cap', rfl, hq1', hq2', hr', hfr'⟩ := hO2.form'; rw [HL2.out] at hq1' ⊢)
        refine (rtrim_any ao' N cap' (o ++ [c]) w2 HL2.out.symm hq1' hq2' hr').mono ?_
        rintro e w' ⟨rfl, rfl⟩
        go_wp2_with fail
        go_ret
        have htl := tlen_le (o ++ [c])
        exact ⟨ao', tlen (o ++ [c]), tr (o ++ [c]), rfl, (tr_length _).symm, by have := HL2.out; omega, hr'.take _, can_tr hlimc, by rw [vb_tr]; exact HVC.out, (hb.alloc hbs _).trans hb2, hfr'⟩

theorem rshl_any (ax : Option Addr) (na ca : Nat) (a : List Int) (k : Nat) (w : World) (hna : na = a.length) (h1 : na ≤ ca) (h2 : ca ≤ 9223372036854775807) (hx : Rd w ax a) (hla : Lim B32 a) (hk : k ≤ 16777216) (hM : na + 600000 ≤ MaxW) :
    Calls Tryd.prog 15 #[.slice ax na ca, .int .i64 k] w fun e w' => RetRd B32 w (vb B32 a * 2 ^ k) e w' :=
  (rshl_full ax na ca a k w hna h1 h2 hx hla hk hM).mono fun _ _ h => h.rd

theorem shr_shl32 (x : Int) (r : Nat) (hr : r ≤ 32) : x / 2 ^ r = (x * 2 ^ (32 - r)) / 4294967296 := by
  have e : (4294967296 : Int) = 2 ^ r * 2 ^ (32 - r) := by rw [← Int.pow_add, show r + (32 - r) = 32 by omega]; rfl
  rw [e, Int.mul_ediv_mul_of_pos_left _ _ (pow2_pos _)]

theorem rshr_step {o m : List Int} {j r : Nat} {x y d : Int} (hr : r ≤ 31) (hj : j + 1 < m.length) (hy : y = m.getD (j + 1) 0) (hol : o.length = j) (hx : d = x / 2 ^ r + (y * 2 ^ (32 - r)) % 4294967296)
    (h : vb B32 o + B32 ^ j * (x / 2 ^ r) = vb B32 (m.take (j + 1)) / 2 ^ r) :
    vb B32 (o ++ [d]) + B32 ^ (j + 1) * (y / 2 ^ r) = vb B32 (m.take (j + 1 + 1)) / 2 ^ r := by
  rw [vb_snoc, hol, hx, vb_take_succ B32 hj, ← hy, Int.pow_succ, Int.mul_assoc, Int.add_assoc, ← Int.mul_add]
  have e : x / 2 ^ r + (y * 2 ^ (32 - r)) % 4294967296 + B32 * (y / 2 ^ r) = x / 2 ^ r + y * 2 ^ (32 - r) := by
    rw [shr_shl32 y r (by omega)]; unfold B32; omega
  rw [e, Int.mul_add, ← Int.add_assoc, h]
  have e3 : B32 ^ j * (B32 * y) = (B32 ^ j * (y * 2 ^ (32 - r))) * 2 ^ r := by
    have h64 : (B32 : Int) = 2 ^ (32 - r) * 2 ^ r := by rw [← Int.pow_add, show 32 - r + r = 32 by omega]; rfl
    rw [Int.mul_assoc, Int.mul_assoc, ← h64, Int.mul_comm B32 y]
  rw [Int.mul_assoc (B32 ^ j) B32 y, e3, Int.add_mul_ediv_right _ _ (by have := pow2_pos r; omega)]

theorem vb_drop_div32 {m : List Int} (h : Lim B32 m) (q : Nat) (hq : q ≤ m.length) : vb B32 (m.drop q) = vb B32 m / B32 ^ q := by
  have h1 := vb_split B32 m q hq
  have h2 := vb_lt B32_pos (h.take q)
  rw [List.length_take, Nat.min_eq_left hq] at h2
  have h3 := vb_nonneg B32_pos (h.take q)
  rw [h1, Int.add_mul_ediv_left _ _ (by have := pow_pos' B32_pos q; omega), Int.ediv_eq_zero_of_lt h3 h2]
  omega

/-- A digit shifted down, and the lower part of the next one, are a digit. -/
theorem rshr_digit {x y : Int} {r : Nat} (hr : r ≤ 31) (hx0 : 0 ≤ x) (hx1 : x < 4294967296) : 0 ≤ x / 2 ^ r ∧ x / 2 ^ r + (y * 2 ^ (32 - r)) % 4294967296 < 4294967296 := by
  have hp := pow2_pos r
  have hp2 := pow2_pos (32 - r)
  have e32 : (4294967296 : Int) = 2 ^ (32 - r) * 2 ^ r := by rw [← Int.pow_add, show 32 - r + r = 32 by omega]; rfl
  refine ⟨Int.ediv_nonneg hx0 (Int.le_of_lt hp), ?_⟩
  have h1 : x / 2 ^ r < 2 ^ (32 - r) := Int.ediv_lt_of_lt_mul hp (by rw [← e32]; exact hx1)
  have h2 : (y * 2 ^ (32 - r)) % 4294967296 = (y % 2 ^ r) * 2 ^ (32 - r) := by
    rw [e32, Int.mul_comm y, Int.mul_emod_mul_of_pos _ _ hp2, Int.mul_comm]
  have h3 : y % 2 ^ r < 2 ^ r := Int.emod_lt_of_pos _ hp
  have h4 := Int.mul_le_mul_of_nonneg_right (show y % 2 ^ r + 1 ≤ 2 ^ r by omega) (Int.le_of_lt hp2)
  rw [Int.add_mul, Int.one_mul, Int.mul_comm (2 ^ r) (2 ^ (32 - r)), ← e32] at h4
  omega

set_option maxRecDepth 100000 in
set_option maxHeartbeats 4000000 in
theorem rshr_any (ax : Option Addr) (na ca : Nat) (a : List Int) (k : Nat) (w : World) (hna : na = a.length) (_h1 : na ≤ ca) (_h2 : ca ≤ 9223372036854775807) (hx : Rd w ax a) (hla : Lim B32 a) (hk : k ≤ 16777216) (hM : na ≤ MaxW) :
    Calls Tryd.prog 16 #[.slice ax na ca, .int .i64 k] w fun e w' => RetRd B32 w (vb B32 a / 2 ^ k) e w' := by
  have HA := Lib.hid hna
  have hM2 := hM
  unfold MaxW at hM2
  obtain ⟨q, hq⟩ : ∃ q, q = k / 32 := ⟨_, rfl⟩
  obtain ⟨r, hr⟩ : ∃ r, r = k % 32 := ⟨_, rfl⟩
  have hq1 : ((k : Int)).tdiv 32 = (q : Int) := by rw [Int.tdiv_eq_ediv_of_nonneg (by omega)]; omega
  have hr1 : ((k : Int)).tmod 32 = (r : Int) := by rw [Int.tmod_eq_emod_of_nonneg (by omega)]; omega
  have hr31 : r ≤ 31 := by omega
  have hqb : q ≤ 524288 := by omega
  have hpow : (2 : Int) ^ k = B32 ^ q * 2 ^ r := by rw [hq, hr]; exact pow2_words32 k
  obtain ⟨m, hm⟩ : ∃ m, m = a.drop q := ⟨_, rfl⟩
  have hml : m.length = na - q := by rw [hm, List.length_drop, hna]
  have hlm : Lim B32 m := by rw [hm]; exact hla.drop q
  have hvm : vb B32 m / 2 ^ r = vb B32 a / 2 ^ k := by
    by_cases hqn : q ≤ a.length
    · rw [hm, vb_drop_div32 hla q hqn, hpow, Int.ediv_ediv_of_nonneg (Int.le_of_lt (pow_pos' B32_pos q))]
    · have e0 : m = [] := by rw [hm]; exact List.drop_eq_nil_of_le (by omega)
      have e1 := vb_lt B32_pos hla
      have e2 := pow_le_pow B32_pos (show a.length ≤ q by omega)
      have e3 := Int.mul_le_mul_of_nonneg_left (show (1 : Int) ≤ 2 ^ r from pow2_pos r) (Int.le_of_lt (pow_pos' B32_pos q))
      rw [e0, hpow, Int.ediv_eq_zero_of_lt (vb_nonneg B32_pos hla) (by omega)]
      simp
  have HML := Lib.hid hml
  have HVM := Lib.hid hvm
  have hgm : ∀ j, m.getD j 0 = a.getD (q + j) 0 := by intro j; rw [hm, getD_drop]
  have HGM := Lib.hid hgm
  clear hq hr hpow hm hml hvm hna hgm
  go_enter Tryd.func16, Tryd.ntmps16
  go_wp2
  go_loopw [5, 6] (fun vo ii wr => ∃ (i j : Nat) (o : List Int), Hid (q + j = i) ∧ ii = .int .i64 i ∧ q ≤ i ∧ (q ≤ na → i ≤ na) ∧ i ≤ 17592186968704 ∧ Hid (o.length = j) ∧ Lim B32 o ∧ Ow w.heap.size wr vo o ∧ Below w.heap.size w wr ∧ Hid (i < na → vb B32 o + B32 ^ j * (m.getD j 0 / 2 ^ r) = vb B32 (m.take (j + 1)) / 2 ^ r) ∧ Hid (na ≤ i → vb B32 o = vb B32 m / 2 ^ r))
    (fun _ ii _ => na - (intOf ii).toNat)
  case atStart =>
    refine ⟨q, 0, [], rfl, rfl, Nat.le_refl _, fun h => h, by omega, rfl, Lim.nil _, Ow.nil _ _, Below.refl _ _, fun h => ?_, fun h => ?_⟩
    · have hl0 : 0 < m.length := by rw [HML.out]; omega
      rw [vb_take_succ B32 hl0]; simp
    · have : m = [] := List.eq_nil_of_length_eq_zero (by rw [HML.out]; omega)
      rw [this]; simp
  case round =>
    obtain ⟨i, j, o, HIJ, rfl, hqi, hin, hib, HL, hlim, hO, hb, HV, HV2⟩ := hrel
    by_cases hlt : i < na
    · obtain ⟨b, off, rfl, hat⟩ := hx.cases (by intro e; have := HA.out; rw [e] at this; simp at this; omega)
      obtain ⟨x, hxe⟩ : ∃ x, x = m.getD j 0 := ⟨_, rfl⟩
      have hxa : x = a.getD i 0 := by rw [hxe, HGM.out, HIJ.out]
      have bx : 0 ≤ x ∧ x < 4294967296 := by rw [hxe]; exact hlm.getD B32_pos _
      obtain ⟨bx0, bx1⟩ := bx
      have hcx : wr.cell? ⟨b, off + i, none⟩ = some (.int .u64 x) := by rw [hxa]; exact hat.below hb i (by rw [← HA.out]; exact hlt)
      obtain ⟨z, hz⟩ : ∃ z, x / 2 ^ r = z := ⟨_, rfl⟩
      have hz0 : 0 ≤ z := by rw [← hz]; exact Int.ediv_nonneg bx0 (Int.le_of_lt (pow2_pos r))
      have hz1 : z < 4294967296 := by rw [← hz]; exact Int.lt_of_le_of_lt (Int.ediv_le_self _ bx0) bx1
      have hlen : o.length + 1 ≤ MaxW := by rw [HL.out]; have := HIJ.out; unfold MaxW; omega
      have hbs := hb.size
      have hij := HIJ.out
      have hV := HV.out hlt
      rw [← hxe] at hV
      by_cases h2 : i + 1 < na
      · have h2I : (i : Int) + 1 < (na : Int) := by omega
        obtain ⟨y, hye⟩ : ∃ y, y = m.getD (j + 1) 0 := ⟨_, rfl⟩
        have hya : y = a.getD (i + 1) 0 := by rw [hye, HGM.out, ← hij]; rfl
        have bY : 0 ≤ y ∧ y < 4294967296 := by rw [hye]; exact hlm.getD B32_pos _
        obtain ⟨by0, by1⟩ := bY
        have hcy : wr.cell? ⟨b, off + (i + 1), none⟩ = some (.int .u64 y) := by rw [hya]; exact hat.below hb (i + 1) (by rw [← HA.out]; exact h2)
        obtain ⟨T, hT⟩ : ∃ T, y * 2 ^ (32 - r) = T := ⟨_, rfl⟩
        have hT0 : 0 ≤ T := by rw [← hT]; exact Int.mul_nonneg by0 (Int.le_of_lt (pow2_pos _))
        have hT1 : T ≤ 18446744069414584320 := by
          have hp32 : (2 : Int) ^ (32 - r) ≤ 4294967296 := by
            have := pow_le_pow (b := 2) (by decide) (show 32 - r ≤ 32 by omega)
            exact this
          have h5 := Int.mul_le_mul (show y ≤ 4294967295 by omega) hp32 (Int.le_of_lt (pow2_pos _)) (by decide)
          rw [hT] at h5
          omega
        have hdg := rshr_digit (x := x) (y := y) (r := r) hr31 bx0 bx1
        rw [hz, hT] at hdg
        have hst := rshr_step (o := o) (m := m) (j := j) (r := r) (x := x) (y := y) (d := z + T % 4294967296) hr31 (by rw [HML.out]; omega) hye HL.out (by rw [hz, hT]) hV
        have hd0 : 0 ≤ z + T % 4294967296 := by omega
        have hd1 : z + T % 4294967296 < 4294967296 := hdg.2
        have hdm : (z + T) % 4294967296 = z + T % 4294967296 := by omega
        rw [hye] at hst
        have HST := Lib.hid hst
        have HD0 := Lib.hid hd0
        have HD1 := Lib.hid hd1
        have HDM := Lib.hid hdm
        clear hst hye hya hxe hxa hat hdg hij hV hd0 hd1 hdm
        go_wp2_with (at_builtin; refine wpList_append_words _ rfl _ _ 25 rfl Tryd.underlying25 info_u64 w.heap.size u5 o rfl (hO.alloc _) ⟨wr.heap.size, 0, none⟩ 1 1 [(z + T) % 4294967296] rfl rfl (news1 _ _ _) hlen (by simp; omega) ?_; intro v' w2 hO2 hb2)
        rw [HDM.out] at hO2
        go_roundw
        case rel =>
          have hij := HIJ.out
          refine ⟨i + 1, j + 1, o ++ [z + T % 4294967296], by show _ = _; omega, by go_num, by omega, fun _ => by omega, by omega, ?_, hlim.app (Lim.cons HD0.out (by unfold B32; exact HD1.out) (Lim.nil _)), hO2, (hb.alloc hbs _).trans hb2, fun _ => HST.out, fun h => absurd h (by omega)⟩
          show _ = _
          rw [List.length_append, HL.out]; rfl
        case measure => simp [intOf]; omega
      · have h2I : ¬ (i : Int) + 1 < (na : Int) := by omega
        have hjm : j + 1 = m.length := by rw [HML.out]; omega
        have hst : vb B32 (o ++ [z]) = vb B32 m / 2 ^ r := by
          rw [hjm, List.take_length, hz] at hV
          rw [vb_snoc, HL.out]; exact hV
        have HST := Lib.hid hst
        have hzm : z % 4294967296 = z := Int.emod_eq_of_lt hz0 hz1
        have HZM := Lib.hid hzm
        clear hst hxe hxa hat hij hV hjm hzm
        go_wp2_with (at_builtin; refine wpList_append_words _ rfl _ _ 25 rfl Tryd.underlying25 info_u64 w.heap.size u5 o rfl (hO.alloc _) ⟨wr.heap.size, 0, none⟩ 1 1 [z % 4294967296] rfl rfl (news1 _ _ _) hlen (by simp; omega) ?_; intro v' w2 hO2 hb2)
        rw [HZM.out] at hO2
        go_roundw
        case rel =>
          have hij := HIJ.out
          refine ⟨i + 1, j + 1, o ++ [z], by show _ = _; omega, by go_num, by omega, fun _ => by omega, by omega, ?_, hlim.app (Lim.cons hz0 (by unfold B32; exact hz1) (Lim.nil _)), hO2, (hb.alloc hbs _).trans hb2, fun h => absurd h (by omega), fun _ => HST.out⟩
          show _ = _
          rw [List.length_append, HL.out]; rfl
        case measure => simp [intOf]; omega
    · have hv := HV2.out (by omega)
      rw [HVM.out] at hv
      have HVO := Lib.hid hv
      obtain ⟨ao', cap', rfl, hq1', hq2', hr', hfr'⟩ := hO.form'
      obtain ⟨n, hn⟩ : ∃ n, n = o.length := ⟨_, rfl⟩
      rw [← hn] at hq1' ⊢
      have HNO := Lib.hid hn
      clear hn hv HV HV2
      go_wp2_with (go_at_call 56; refine (rtrim_any ao' n cap' o _ HNO.out hq1' hq2' hr').mono ?_; rintro e w' ⟨rfl, rfl⟩)
      go_ret
      have htl := tlen_le o
      exact ⟨ao', tlen o, tlen o, tr o, rfl, (tr_length _).symm, Nat.le_refl _, by have := HNO.out; omega, hr'.take _, can_tr hlim, by rw [vb_tr]; exact HVO.out, hb, hfr'⟩
end Go.Proofs.YtbieldebkfkpkaaDoor
