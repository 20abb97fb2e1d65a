/-
  Div64: Contract of math/bits.Div64: the quotient and the rest of two words by one, the high word less than the divisor.
  DivLimb: Contract of nat.divideByLimb: a number in a row is divided by a word, in place; the rest is returned.
  Chunks: Contract of nat.writeChunks: the decimal digits of a number are written into a row of bytes, nineteen at a time, from the end.
  Shift: Contracts of nat.shiftUp and nat.shiftDown, and the arithmetic of words that are shifted. Contract of nat.shiftDown. Contracts of nat.Shl and nat.Shr.
  LowBits: Contract of nat.lowBits: the rest of a number divided by a power of two.
  RefShift: Contracts of the reference's Shl and Shr.
  SqrtLimb: Contract of nat.sqrtLimb: the root of a number of one word, and what is left.
-/
import Derived.Test.YtjmipbljoblnnaaDoorPk7
import Derived.Test.YtjmipbljoblnnaaDoorPk1
import Derived.Test.YtjmipbljoblnnaaDoorPk8
import Derived.Test.YtjmipbljoblnnaaDoorPk3
import Derived.Deep.QuietTactic
import Derived.Test.YtjmipbljoblnnaaDoorPk9

namespace Go.Proofs.YtjmipbljoblnnaaDoor
open Go.RowKit

theorem two_pow_nat (s : Nat) : ((2 : Int) ^ s) = ((2 ^ s : Nat) : Int) := by simp

/-- The shift of a divisor: how far it may be moved up. -/
theorem lz_facts (y : Int) (h2 : 0 < y) (h3 : y ≤ 18446744073709551615) : ∃ s : Nat, s ≤ 63 ∧ (64 - (Lib.bitLen y.toNat : Int)) = (s : Int) ∧ 9223372036854775808 ≤ y * 2 ^ s ∧ y * 2 ^ s ≤ 18446744073709551615 ∧ (2 : Int) ^ s * 2 ^ (64 - s) = 18446744073709551616 ∧ 0 < (2 : Int) ^ s ∧ 0 < (2 : Int) ^ (64 - s) := by
  obtain ⟨n, rfl⟩ := Int.eq_ofNat_of_zero_le (Int.le_of_lt h2)
  have hx : n < 2 ^ 64 := by omega
  have hle := bitLen_le64 n hx
  obtain ⟨h5, h6⟩ := bitLen_spec 64 n hx hx
  obtain ⟨h7, h8⟩ := h6 (by omega)
  rw [Int.toNat_natCast]
  obtain ⟨k, hk⟩ : ∃ k, k = Lib.bitLen n := ⟨_, rfl⟩
  rw [← hk] at h5 h7 h8 hle ⊢
  have e64 : 2 ^ (64 - k) * 2 ^ k = 18446744073709551616 := by rw [← Nat.pow_add, show 64 - k + k = 64 by omega]
  have e63 : 2 ^ (64 - k) * 2 ^ (k - 1) = 9223372036854775808 := by rw [← Nat.pow_add, show 64 - k + (k - 1) = 63 by omega]
  have p1 : 0 < 2 ^ (64 - k) := Nat.two_pow_pos _
  have a1 : 2 ^ (64 - k) * 2 ^ (k - 1) ≤ 2 ^ (64 - k) * n := Nat.mul_le_mul_left _ h7
  have a2 : 2 ^ (64 - k) * (n + 1) ≤ 2 ^ (64 - k) * 2 ^ k := Nat.mul_le_mul_left _ h5
  rw [Nat.mul_add] at a2
  refine ⟨64 - k, by omega, by omega, ?_, ?_, ?_, ?_, ?_⟩
  · rw [two_pow_nat, ← Int.natCast_mul, Nat.mul_comm]; omega
  · rw [two_pow_nat, ← Int.natCast_mul, Nat.mul_comm]; omega
  · rw [show 64 - (64 - k) = k by omega, two_pow_nat, two_pow_nat, ← Int.natCast_mul]; omega
  · rw [two_pow_nat]; omega
  · rw [two_pow_nat]; have := Nat.two_pow_pos (64 - (64 - k)); omega

theorem wrap3 (a u1 b r : Int) (h : a + u1 - b = r) (h0 : 0 ≤ r) (h1 : r ≤ 18446744073709551615) : IntKind.u64.wrap (IntKind.u64.wrap (IntKind.u64.wrap a + u1) - IntKind.u64.wrap b) = r := by
  simp only [IntKind.wrap_u64]
  omega

end Go.Proofs.YtjmipbljoblnnaaDoor

namespace Go.Proofs.YtjmipbljoblnnaaDoor
open Go.RowKit

/-- One step of the division of a number by a word, from the top. -/
theorem dl_step {l m : List Int} {k : Nat} {r d q x : Int} (hk : k < l.length) (hlm : m.length = l.length) (h : vb B64 (m.drop (k + 1)) * d + r = vb B64 (l.drop (k + 1))) (hx : x = l.getD k 0) (_hd : 0 < d)
    (hq : q = (r * 18446744073709551616 + x) / d) : vb B64 ((m.set k q).drop k) * d + (r * 18446744073709551616 + x) % d = vb B64 (l.drop k) := by
  have hkm : k < (m.set k q).length := by rw [List.length_set, hlm]; exact hk
  rw [vb_drop B64 hk, vb_drop B64 hkm, getD_set_same (by rw [hlm]; exact hk), ← hx, ← h]
  have e : (m.set k q).drop (k + 1) = m.drop (k + 1) := by
    apply List.ext_getElem?
    intro j
    rw [List.getElem?_drop, List.getElem?_drop, List.getElem?_set, if_neg (by omega)]
  rw [e]
  have := Int.mul_ediv_add_emod (r * 18446744073709551616 + x) d
  rw [← hq, Int.mul_comm d q] at this
  have e2 : (q + B64 * vb B64 (m.drop (k + 1))) * d = q * d + B64 * (vb B64 (m.drop (k + 1)) * d) := by rw [Int.add_mul, Int.mul_assoc]
  rw [e2]
  unfold B64 at *
  omega

/-- What nat.divideByLimb leaves. -/
def RetDL (b off n : Nat) (N d : Int) (w : World) (e : Ending) (w' : World) : Prop := e = .returned (.int .u64 (N % d)) ∧ InPl b off n (N / d) w w'

end Go.Proofs.YtjmipbljoblnnaaDoor

namespace Go.Proofs.YtjmipbljoblnnaaDoor
open Go.RowKit

/-- What nat.divideByLimb leaves of a row of the call's own. -/
def RetDLO (B : Nat) (v : Value) (l : List Int) (d : Int) (w : World) (e : Ending) (w' : World) : Prop :=
  e = .returned (.int .u64 (vb B64 l % d)) ∧ ∃ l', Ow B w' v l' ∧ Lim B64 l' ∧ vb B64 l' = vb B64 l / d ∧ Below B w w'

def RetTrO (B : Nat) (l : List Int) (w : World) (e : Ending) (w' : World) : Prop := ∃ v', e = .returned v' ∧ Ow B w v' (tr l) ∧ w = w'
theorem trim_ow (B : Nat) (v : Value) (l : List Int) (w : World) (h : Ow B w v l) : Calls Tryd.prog 62 #[v] w fun e w' => RetTrO B l w e w' := by
  obtain ⟨ao, cap, rfl, h1, h2, hr⟩ := h.form
  refine (trim_any ao l.length cap l w rfl h1 h2 hr).mono ?_
  rintro e w' ⟨rfl, rfl⟩
  exact ⟨_, rfl, h.take (tlen l) (tlen_le l), rfl⟩

theorem drop_set_at {l : List Int} {p : Nat} {x : Int} (hp : p < l.length) : (l.set p x).drop p = x :: l.drop (p + 1) := by
  rw [drop_getD_cons (by rw [List.length_set]; exact hp), getD_set_same hp]
  congr 1
  apply List.ext_getElem?
  intro j
  rw [List.getElem?_drop, List.getElem?_drop, List.getElem?_set, if_neg (by omega)]

theorem pow_chunk (N : Int) (a : Nat) : N / 10 ^ (19 * a) / 10000000000000000000 = N / 10 ^ (19 * (a + 1)) := by
  have e : (10 : Int) ^ (19 * (a + 1)) = 10 ^ (19 * a) * 10000000000000000000 := by rw [Nat.mul_add, Int.pow_add]; rfl
  rw [e, Int.ediv_ediv_of_nonneg (Int.le_of_lt (Int.pow_pos (by decide)))]
theorem dg_chunk (x : Int) : dg 19 (x % 10000000000000000000) = dg 19 x := by
  have := dg_mod 19 19 x (Nat.le_refl _)
  exact this

/-- What writeChunks leaves. -/
def RetWC (B g off n : Nat) (N : Int) (w : World) (e : Ending) (w' : World) : Prop := e = .returned (.tuple #[]) ∧ ArrB w' g off (dg n N) ∧ OnlyB B g off (off + n) w w'

end Go.Proofs.YtjmipbljoblnnaaDoor

namespace Go.Proofs.YtjmipbljoblnnaaDoor
open Go.RowKit


theorem pow2_split {r : Nat} (hr : r ≤ 64) : (18446744073709551616 : Int) = 2 ^ (64 - r) * 2 ^ r := by
  rw [← Int.pow_add, show 64 - r + r = 64 by omega]; rfl
theorem pow2_pos (r : Nat) : (0 : Int) < 2 ^ r := Int.pow_pos (by decide)
theorem or_comm64 (a b : Int) (ha : 0 ≤ a) (ha2 : a < 18446744073709551616) (hb : 0 ≤ b) (hb2 : b < 18446744073709551616) : bits .or .u64 a b = bits .or .u64 b a := by
  obtain ⟨a, rfl⟩ := Int.eq_ofNat_of_zero_le ha
  obtain ⟨b, rfl⟩ := Int.eq_ofNat_of_zero_le hb
  rw [bits_or_u64_nat _ _ (by omega) (by omega), bits_or_u64_nat _ _ (by omega) (by omega), Nat.or_comm]

/-- A word that is shifted up is laid over a word below the shift. -/
theorem or_shl (c x : Int) (r : Nat) (hr : r ≤ 64) (hc : 0 ≤ c) (hcr : c < 2 ^ r) (_hx : 0 ≤ x) : bits .or .u64 c (IntKind.u64.wrap (x * 2 ^ r)) = c + (x * 2 ^ r) % 18446744073709551616 := by
  have hp := pow2_pos r
  have e : (x * 2 ^ r) % 18446744073709551616 = (x % 2 ^ (64 - r)) * 2 ^ r := by
    rw [pow2_split hr, Int.mul_comm x, Int.mul_comm (2 ^ (64 - r)), Int.mul_emod_mul_of_pos _ _ hp, Int.mul_comm]
  have h0 : 0 ≤ x % 2 ^ (64 - r) := Int.emod_nonneg _ (by have := pow2_pos (64 - r); omega)
  have h1 : x % 2 ^ (64 - r) < 2 ^ (64 - r) := Int.emod_lt_of_pos _ (pow2_pos _)
  have h2 : (x % 2 ^ (64 - r)) * 2 ^ r + 2 ^ r ≤ 18446744073709551616 := by
    have h3 : (x % 2 ^ (64 - r) + 1) * 2 ^ r ≤ 2 ^ (64 - r) * 2 ^ r := Int.mul_le_mul_of_nonneg_right (by omega) (Int.le_of_lt hp)
    rw [← pow2_split hr, Int.add_mul, Int.one_mul] at h3
    exact h3
  have h4 : 0 ≤ (x % 2 ^ (64 - r)) * 2 ^ r := Int.mul_nonneg h0 (Int.le_of_lt hp)
  have e2 : IntKind.u64.wrap (x * 2 ^ r) = (x % 2 ^ (64 - r)) * 2 ^ r := by rw [IntKind.wrap_u64, e]
  rw [e2, or_comm64 _ _ hc (by omega) h4 (by omega), or_parts _ _ r h0 hc hcr (by omega), e, Int.add_comm]

/-- What a shift down by the rest takes. -/
theorem shr_shl (x : Int) (r : Nat) (hr : r ≤ 64) : x / 2 ^ (64 - r) = (x * 2 ^ r) / 18446744073709551616 := by
  rw [pow2_split hr, Int.mul_ediv_mul_of_pos_left _ _ (pow2_pos r)]

theorem up_step {o m : List Int} {q i : Nat} {x c P : Int} (hi : i < m.length) (hx : x = m.getD i 0) (hp : q + i + 1 < o.length) (hc : o.getD (q + i) 0 = c) (hz : o.getD (q + i + 1) 0 = 0)
    (hv : vb B64 o = B64 ^ q * (P * vb B64 (m.take i))) :
    vb B64 ((o.set (q + i) (c + (x * P) % 18446744073709551616)).set (q + i + 1) (x * P / 18446744073709551616)) = B64 ^ q * (P * vb B64 (m.take (i + 1))) := by
  rw [vb_set _ _ _ _ (by rw [List.length_set]; exact hp), vb_set _ _ _ _ (by omega), getD_set_other _ (by omega), hc, hz, hv, vb_take_succ B64 hi, ← hx, Int.pow_succ, Int.mul_assoc, Int.add_assoc, ← Int.mul_add]
  have e : c + x * P % 18446744073709551616 - c + B64 * (x * P / 18446744073709551616 - 0) = x * P := by unfold B64; omega
  rw [e, Int.mul_add, Int.mul_add, Int.pow_add]
  have e2 : B64 ^ q * (P * (B64 ^ i * x)) = B64 ^ q * B64 ^ i * (x * P) := by
    rw [Int.mul_assoc, Int.mul_comm P, Int.mul_assoc]
  rw [e2]

theorem pow2_words (k : Nat) : (2 : Int) ^ k = B64 ^ (k / 64) * 2 ^ (k % 64) := by
  have e : B64 ^ (k / 64) = 2 ^ (64 * (k / 64)) := by
    rw [Int.pow_mul]; rfl
  rw [e, ← Int.pow_add]
  congr 1
  omega

theorem getD_rep (n j : Nat) : (List.replicate n (0 : Int)).getD j 0 = 0 := by
  rw [List.getD_eq_getElem?_getD, List.getElem?_replicate]
  split <;> rfl
theorem or_lt (c x : Int) : bits .or .u64 c (IntKind.u64.wrap x) < 18446744073709551616 := by
  show IntKind.u64.wrap _ < _
  rw [IntKind.wrap_u64]
  omega

theorem tlen_zero_vb {l : List Int} (h : tlen l = 0) : vb B64 l = 0 := by
  rw [← vb_tr, tr, h]; rfl

set_option maxRecDepth 100000 in
set_option maxHeartbeats 4000000 in
theorem shiftUp_any (ao : Option Addr) (n cap : Nat) (l : List Int) (k : Nat) (w : World) (hn : n = l.length) (h1 : n ≤ cap) (h2 : cap ≤ 9223372036854775807) (h : Rd w ao l) (hl : Lim B64 l) (hk : k ≤ 16777216) (hM : n + 300000 ≤ MaxW) :
    Calls Tryd.prog 68 #[.slice ao n cap, .int .i64 k] w fun e w' => RetNum w (vb B64 l * 2 ^ k) e w' := by
  have ht := tlen_le l
  have HT := Lib.hid (trim_any ao n cap l w hn h1 h2 h)
  obtain ⟨t, hte⟩ : ∃ t, t = tlen l := ⟨_, rfl⟩
  have htn : t ≤ n := by omega
  have htc : t ≤ cap := by omega
  rw [← hte] at HT
  have HTE := Lib.hid hte
  have hM2 := hM
  unfold MaxW at hM2
  clear hn ht
  by_cases h0 : t = 0
  · have hz : ((t : Int) == 0) = true := by rw [h0]; rfl
    have hv : vb B64 l = 0 := tlen_zero_vb (by rw [← HTE.out, h0])
    have HV := Lib.hid hv
    clear hv hte h0
    go_enter Tryd.func68, Tryd.ntmps68
    go_wp2_with (go_at_call 62; refine HT.out.mono ?_; rintro e w' ⟨rfl, rfl⟩)
    go_ret
    exact ⟨_, [], rfl, Ow.nil _ _, Can.nil _, by rw [HV.out]; simp, Below.refl _ _⟩
  · have hz : ((t : Int) == 0) = false := by rw [beq_eq_false_iff_ne]; omega
    obtain ⟨m, hm⟩ : ∃ m, m = tr l := ⟨_, rfl⟩
    have hml : m.length = t := by rw [hm, tr_length, hte]
    have hcan : Can B64 m := by rw [hm]; exact can_tr hl
    have hvm : vb B64 m = vb B64 l := by rw [hm, vb_tr]
    have hrd : Rd w ao m := by rw [hm]; exact h.take _
    have HML := Lib.hid hml
    have HVM := Lib.hid hvm
    obtain ⟨b, off, rfl, hat⟩ := hrd.cases (by intro e; rw [e] at hml; simp at hml; omega)
    obtain ⟨q, hq⟩ : ∃ q, q = k / 64 := ⟨_, rfl⟩
    obtain ⟨r, hr⟩ : ∃ r, r = k % 64 := ⟨_, rfl⟩
    have hq1 : ((k : Int)).tdiv 64 = (q : Int) := by rw [Int.tdiv_eq_ediv_of_nonneg (by omega)]; omega
    have hr1 : ((k : Int)).tmod 64 = (r : Int) := by rw [Int.tmod_eq_emod_of_nonneg (by omega)]; omega
    have hr63 : r ≤ 63 := by omega
    have hqb : q ≤ 262144 := by omega
    have hpow : (2 : Int) ^ k = B64 ^ q * 2 ^ r := by rw [hq, hr]; exact pow2_words k
    have HPOW := Lib.hid hpow
    obtain ⟨N, hN⟩ : ∃ N, q + t + 1 = N := ⟨_, rfl⟩
    have hNI : (q : Int) + (t : Int) + 1 = (N : Int) := by omega
    have hNM : N ≤ MaxW := by omega
    have hN63 : N ≤ 17592186344416 := by omega
    have HQ := Lib.hid hq
    have HR := Lib.hid hr
    have HN := Lib.hid hN
    clear hq hr hpow hN hm hml hvm hrd h hte
    go_enter Tryd.func68, Tryd.ntmps68
    go_wp2_with (first
      | (go_at_call 62; refine HT.out.mono ?_; rintro e w' ⟨rfl, rfl⟩)
      | (at_make; refine wpList_make_words w rfl (.tmp 23) (.tmp 23) 33 rfl Tryd.underlying33 info_u64 _ _ N rfl rfl (by omega) (by omega) hNM ?_; intro w1 hw1 hb1 hs1))
    go_loopw [27] (fun ii wr => ∃ (i : Nat) (o : List Int), i ≤ t ∧ ii = .int .i64 i ∧ Hid (o.length = N) ∧ Lim B64 o ∧ Arr wr w.heap.size 0 o ∧ Only w.heap.size 0 N w1 wr ∧ Hid (o.getD (q + i) 0 < 2 ^ r) ∧ Hid (∀ j, q + i < j → o.getD j 0 = 0) ∧ Hid (vb B64 o = B64 ^ q * (2 ^ r * vb B64 (m.take i))))
      (fun ii _ => t - (intOf ii).toNat)
    case atStart => exact ⟨0, List.replicate N 0, Nat.zero_le _, rfl, by show _ = _; simp, Lim.replicate B64_pos N, hw1.arr.1, Only.refl _ _ _ _, by rw [getD_rep]; exact pow2_pos r, fun j _ => getD_rep N j, by show _ = _; rw [vb_replicate]; simp⟩
    case round =>
      obtain ⟨i, o, hi, rfl, HL, hlim, harr, honly, HC, HZ, HV⟩ := hrel
      by_cases hlt : i < t
      · have hbw : Below w.heap.size w wr := hb1.trans (honly.below (Nat.le_refl _) (by omega))
        obtain ⟨x, hxe⟩ : ∃ x, x = m.getD i 0 := ⟨_, rfl⟩
        have bx : 0 ≤ x ∧ x < B64 := by rw [hxe]; exact hcan.lim.getD B64_pos _
        have bx0 : 0 ≤ x := bx.1
        have bx1 : x ≤ 18446744073709551615 := by have := bx.2; unfold B64 at this; omega
        have hcx : wr.cell? ⟨b, off + i, none⟩ = some (.int .u64 x) := by rw [hxe]; exact hat.below hbw i (by rw [HML.out]; exact hlt)
        obtain ⟨p, hp⟩ : ∃ p, q + i = p := ⟨_, rfl⟩
        have hNo := HN.out
        have hpN : p + 1 < N := by omega
        have hpN2 : p < N := by omega
        have hpI : (q : Int) + (i : Int) = (p : Int) := by omega
        obtain ⟨c, hce⟩ : ∃ c, c = o.getD p 0 := ⟨_, rfl⟩
        have bc : 0 ≤ c := by rw [hce]; exact (hlim.getD B64_pos _).1
        have bcr : c < 2 ^ r := by rw [hce, ← hp]; exact HC.out
        have hco : wr.cell? ⟨w.heap.size, p, none⟩ = some (.int .u64 c) := by
          rw [hce]
          have := harr.at' p (by rw [HL.out]; exact hpN2)
          rwa [Nat.zero_add] at this
        have hfr := harr.frozen p
        obtain ⟨y, hy⟩ : ∃ y, y = c + (x * 2 ^ r) % 18446744073709551616 := ⟨_, rfl⟩
        have hor : bits .or .u64 c (IntKind.u64.wrap (x * 2 ^ r)) = y := by rw [hy]; exact or_shl c x r (by omega) bc bcr bx0
        obtain ⟨z, hze⟩ : ∃ z, z = x * 2 ^ r / 18446744073709551616 := ⟨_, rfl⟩
        have hsh : x / 2 ^ (64 - r) = z := by rw [hze]; exact shr_shl x r (by omega)
        have hzr : z < 2 ^ r := by
          rw [hze]
          refine Int.ediv_lt_of_lt_mul (by decide) ?_
          rw [Int.mul_comm]
          have := Int.mul_lt_mul_of_pos_left (show x < 18446744073709551616 by omega) (pow2_pos r)
          exact this
        have hz0 : 0 ≤ z := by rw [hze]; exact Int.ediv_nonneg (Int.mul_nonneg bx0 (Int.le_of_lt (pow2_pos r))) (by decide)
        have hr64 : (2 : Int) ^ r ≤ 18446744073709551616 := by
          rw [pow2_split (show r ≤ 64 by omega)]
          have h5 := Int.mul_le_mul_of_nonneg_right (show (1 : Int) ≤ 2 ^ (64 - r) from pow2_pos _) (Int.le_of_lt (pow2_pos r))
          omega
        have hy01 : 0 ≤ y ∧ y < B64 := by
          rw [← hor]
          unfold B64
          have hw0 := or_shl c x r (by omega) bc bcr bx0
          rw [hw0]
          have h6 : 0 ≤ (x * 2 ^ r) % 18446744073709551616 := Int.emod_nonneg _ (by decide)
          refine ⟨by omega, ?_⟩
          rw [← hw0]
          exact or_lt c (x * 2 ^ r)
        have hst := up_step (o := o) (m := m) (q := q) (i := i) (x := x) (c := c) (P := 2 ^ r) (by rw [HML.out]; exact hlt) hxe (by rw [HL.out, hp]; exact hpN) (by rw [hp]; exact hce.symm) (HZ.out _ (by omega)) HV.out
        rw [← hy, ← hze, hp] at hst
        have HST := Lib.hid hst
        have HZR := Lib.hid hzr
        have HY := Lib.hid hy01
        have HP := Lib.hid hp
        clear hst hzr hy hze hxe hce bx hp hNo hr64 hy01
        go_wp2_with fail
        go_region
        have harr2 : Arr (wr.setCell ⟨w.heap.size, p, none⟩ (.int .u64 y)) w.heap.size 0 (o.set p y) := by
          have := harr.store p y
          rwa [Nat.zero_add] at this
        have hcp1 : (wr.setCell ⟨w.heap.size, p, none⟩ (.int .u64 y)).cell? ⟨w.heap.size, p + 1, none⟩ = some (.int .u64 0) := by
          have h7 := harr2.at' (p + 1) (by rw [List.length_set, HL.out]; exact hpN)
          rw [Nat.zero_add, getD_set_other _ (by omega), HZ.out (p + 1) (by have := HP.out; omega)] at h7
          exact h7
        have hfp1 : (wr.setCell ⟨w.heap.size, p, none⟩ (.int .u64 y)).frozen? ⟨w.heap.size, p + 1, none⟩ = false := harr2.frozen (p + 1)
        go_wp2_with fail
        go_roundw
        case rel =>
          have hp' := HP.out
          have harr3 := harr2.store (p + 1) z
          rw [Nat.zero_add] at harr3
          have hon3 : Only w.heap.size 0 N wr ((wr.setCell ⟨w.heap.size, p, none⟩ (.int .u64 y)).setCell ⟨w.heap.size, p + 1, none⟩ (.int .u64 z)) := (Only.store p _ (by omega) (by omega)).trans (Only.store (p + 1) _ (by omega) (by omega))
          refine ⟨i + 1, (o.set p y).set (p + 1) z, by omega, by go_num, ?_, (hlim.set p HY.out.1 HY.out.2).set (p + 1) hz0 ?_, harr3, (honly.trans hon3).trans (Only.of_below ((Below.refl _ _).drew)), ?_, ?_, HST.out⟩
          · show _ = _
            rw [List.length_set, List.length_set]; exact HL.out
          · have h8 := HZR.out
            have h9 : (2 : Int) ^ r ≤ B64 := by
              unfold B64
              rw [pow2_split (show r ≤ 64 by omega)]
              have h5 := Int.mul_le_mul_of_nonneg_right (show (1 : Int) ≤ 2 ^ (64 - r) from pow2_pos _) (Int.le_of_lt (pow2_pos r))
              omega
            omega
          · show _ < _
            rw [show q + (i + 1) = p + 1 by omega, getD_set_same (by rw [List.length_set, HL.out]; exact hpN)]
            exact HZR.out
          · intro j hj
            rw [getD_set_other _ (by omega), getD_set_other _ (by omega)]
            exact HZ.out j (by omega)
        case measure => simp [intOf]; omega
      · have hit : i = m.length := by rw [HML.out]; omega
        have hv : vb B64 o = vb B64 l * 2 ^ k := by
          have h8 := HV.out
          rw [hit, List.take_length, HVM.out, ← Int.mul_assoc, ← HPOW.out, Int.mul_comm] at h8
          exact h8
        have HVO := Lib.hid hv
        have hOo : Ow w.heap.size wr (.slice (some ⟨w.heap.size, 0, none⟩) N N) o := hw1.only honly harr (by rw [HL.out, List.length_replicate])
        have hbw : Below w.heap.size w wr := hb1.trans (honly.below (Nat.le_refl _) (by omega))
        have hrd : Rd wr (some ⟨w.heap.size, 0, none⟩) o := Rd.of_at harr.at'
        have htl := tlen_le o
        rw [HL.out] at htl
        clear hit hv HV HZ HC
        go_wp2_with (go_at_call 62; refine (trim_any (some ⟨w.heap.size, 0, none⟩) N N o _ HL.out.symm (Nat.le_refl _) (by omega) hrd).mono ?_; rintro e w' ⟨rfl, rfl⟩)
        go_ret
        exact ⟨_, tr o, rfl, hOo.take (tlen o) htl, can_tr hlim, by rw [vb_tr]; exact HVO.out, hbw⟩


theorem down_first {o m : List Int} {x r : Int} (ho : 0 < o.length) (hm : 0 < m.length) (hx : x = m.getD 0 0) :
    vb B64 ((o.set 0 (x / r)).take (0 + 1)) = vb B64 (m.take (0 + 1)) / r := by
  rw [vb_take_succ B64 hm, vb_take_succ B64 (by rw [List.length_set]; exact ho), getD_set_same ho, ← hx]
  simp

theorem down_step {o m : List Int} {j : Nat} {x d : Int} {r : Nat} (hr : r ≤ 63) (ho : j + 1 < o.length) (hm : j + 1 < m.length) (hx : x = m.getD (j + 1) 0) (hd : d = o.getD j 0)
    (hv : vb B64 (o.take (j + 1)) = vb B64 (m.take (j + 1)) / 2 ^ r) :
    vb B64 (((o.set (j + 1) (x / 2 ^ r)).set j (d + (x * 2 ^ (64 - r)) % 18446744073709551616)).take (j + 1 + 1)) = vb B64 (m.take (j + 1 + 1)) / 2 ^ r := by
  have hp := pow2_pos r
  have e0 : (o.set (j + 1) (x / 2 ^ r)).take j = o.take j := List.take_set_of_le (by omega)
  have e1 : ((o.set (j + 1) (x / 2 ^ r)).set j (d + (x * 2 ^ (64 - r)) % 18446744073709551616)).take j = o.take j := by
    rw [List.take_set_of_le (Nat.le_refl _), e0]
  have l1 : ((o.set (j + 1) (x / 2 ^ r)).set j (d + (x * 2 ^ (64 - r)) % 18446744073709551616)).length = o.length := by rw [List.length_set, List.length_set]
  rw [vb_take_succ B64 (by omega), vb_take_succ B64 (by omega), e1, getD_set_same (by rw [List.length_set]; omega), getD_set_other _ (by omega), getD_set_same (by omega)]
  rw [vb_take_succ B64 (l := m) hm, ← hx]
  rw [vb_take_succ B64 (l := o) (by omega), ← hd] at hv
  have hs := shr_shl x (64 - r) (by omega)
  rw [show 64 - (64 - r) = r by omega] at hs
  have hb : d + (x * 2 ^ (64 - r)) % 18446744073709551616 + B64 * (x / 2 ^ r) = d + x * 2 ^ (64 - r) := by
    rw [hs]; unfold B64; omega
  have e2 : vb B64 (o.take j) + B64 ^ j * (d + (x * 2 ^ (64 - r)) % 18446744073709551616) + B64 ^ (j + 1) * (x / 2 ^ r) = vb B64 (o.take j) + B64 ^ j * d + B64 ^ j * (x * 2 ^ (64 - r)) := by
    rw [Int.pow_succ, Int.mul_assoc, Int.add_assoc, ← Int.mul_add, hb, Int.mul_add]
    omega
  rw [e2, hv]
  have e3 : B64 ^ (j + 1) * x = (B64 ^ j * (x * 2 ^ (64 - r))) * 2 ^ r := by
    have h64 : (B64 : Int) = 2 ^ (64 - r) * 2 ^ r := pow2_split (by omega)
    rw [Int.pow_succ, Int.mul_assoc, Int.mul_assoc, Int.mul_assoc, ← h64, Int.mul_comm B64 x]
  rw [e3, Int.add_mul_ediv_right _ _ (by omega)]

/-- The words above the q-th. -/
theorem vb_drop_div {m : List Int} (h : Lim B64 m) (q : Nat) (hq : q ≤ m.length) : vb B64 (m.drop q) = vb B64 m / B64 ^ q := by
  have h1 := vb_split B64 m q hq
  have h2 := vb_lt B64_pos (h.take q)
  rw [List.length_take, Nat.min_eq_left hq] at h2
  have h3 := vb_nonneg B64_pos (h.take q)
  rw [h1, Int.add_mul_ediv_left _ _ (by have := pow_pos' B64_pos q; omega), Int.ediv_eq_zero_of_lt h3 h2]
  omega

set_option maxRecDepth 100000 in
set_option maxHeartbeats 4000000 in
theorem shiftDown_any (ao : Option Addr) (n cap : Nat) (l : List Int) (k : Nat) (w : World) (hn : n = l.length) (h1 : n ≤ cap) (h2 : cap ≤ 9223372036854775807) (h : Rd w ao l) (hl : Lim B64 l) (hk : k ≤ 16777216) (hM : n ≤ MaxW) :
    Calls Tryd.prog 67 #[.slice ao n cap, .int .i64 k] w fun e w' => RetNum w (vb B64 l / 2 ^ k) e w' := by
  have ht := tlen_le l
  have HT := Lib.hid (trim_any ao n cap l w hn h1 h2 h)
  obtain ⟨t, hte⟩ : ∃ t, t = tlen l := ⟨_, rfl⟩
  have htn : t ≤ n := by omega
  have htc : t ≤ cap := by omega
  rw [← hte] at HT
  have HTE := Lib.hid hte
  have hM2 := hM
  unfold MaxW at hM2
  clear hn ht
  obtain ⟨m, hm⟩ : ∃ m, m = tr l := ⟨_, rfl⟩
  have hml : m.length = t := by rw [hm, tr_length, hte]
  have hcan : Can B64 m := by rw [hm]; exact can_tr hl
  have hvm : vb B64 m = vb B64 l := by rw [hm, vb_tr]
  have hrd : Rd w ao m := by rw [hm]; exact h.take _
  have HML := Lib.hid hml
  have HVM := Lib.hid hvm
  obtain ⟨q, hq⟩ : ∃ q, q = k / 64 := ⟨_, rfl⟩
  obtain ⟨r, hr⟩ : ∃ r, r = k % 64 := ⟨_, rfl⟩
  have hq1 : ((k : Int)).tdiv 64 = (q : Int) := by rw [Int.tdiv_eq_ediv_of_nonneg (by omega)]; omega
  have hr1 : ((k : Int)).tmod 64 = (r : Int) := by rw [Int.tmod_eq_emod_of_nonneg (by omega)]; omega
  have hr63 : r ≤ 63 := by omega
  have hqb : q ≤ 262144 := by omega
  have hpow : (2 : Int) ^ k = B64 ^ q * 2 ^ r := by rw [hq, hr]; exact pow2_words k
  have HPOW := Lib.hid hpow
  have HQ := Lib.hid hq
  have HR := Lib.hid hr
  clear hq hr hpow hm hml hvm h hte
  by_cases h0 : t ≤ q
  · have hv : vb B64 l / 2 ^ k = 0 := by
      rw [← HVM.out]
      refine Int.ediv_eq_zero_of_lt (vb_nonneg B64_pos hcan.lim) ?_
      have h3 := vb_lt B64_pos hcan.lim
      rw [HML.out] at h3
      have h4 := pow_le_pow B64_pos h0
      rw [HPOW.out]
      have h5 := Int.mul_le_mul_of_nonneg_left (show (1 : Int) ≤ 2 ^ r from pow2_pos r) (Int.le_of_lt (pow_pos' B64_pos q))
      omega
    have HV := Lib.hid hv
    have hqt : (t : Int) ≤ (q : Int) := by omega
    clear hv
    go_enter Tryd.func67, Tryd.ntmps67
    go_wp2_with (go_at_call 62; refine HT.out.mono ?_; rintro e w' ⟨rfl, rfl⟩)
    go_ret
    exact ⟨_, [], rfl, Ow.nil _ _, Can.nil _, by rw [HV.out]; rfl, Below.refl _ _⟩
  · have hqt : ¬ (t : Int) ≤ (q : Int) := by omega
    have hqt2 : (q : Int) < (t : Int) := by omega
    obtain ⟨b, off, rfl, hat⟩ := hrd.cases (by intro e; have := HML.out; rw [e] at this; simp at this; omega)
    obtain ⟨u, hu⟩ : ∃ u, t - q = u := ⟨_, rfl⟩
    have huI : (t : Int) - (q : Int) = (u : Int) := by omega
    have huM : u ≤ MaxW := by unfold MaxW; omega
    have hu63 : u ≤ 17592186044416 := by omega
    have HU := Lib.hid hu
    clear hrd
    go_enter Tryd.func67, Tryd.ntmps67
    go_wp2_with (first
      | (go_at_call 62; refine HT.out.mono ?_; rintro e w' ⟨rfl, rfl⟩)
      | (at_make; refine wpList_make_words w rfl (.tmp 24) (.tmp 24) 33 rfl Tryd.underlying33 info_u64 _ _ u rfl rfl (by omega) (by omega) huM ?_; intro w1 hw1 hb1 hs1))
    obtain ⟨md, hmd⟩ : ∃ md, md = m.drop q := ⟨_, rfl⟩
    have hmdl : md.length = u := by rw [hmd, List.length_drop, HML.out, HU.out]
    have hlimd : Lim B64 md := by rw [hmd]; exact hcan.lim.drop q
    have hatd : At w b (off + q) md := by rw [hmd]; exact hat.drop q
    have hvd : vb B64 md / 2 ^ r = vb B64 l / 2 ^ k := by
      rw [hmd, vb_drop_div hcan.lim q (by rw [HML.out]; omega), HPOW.out, HVM.out, Int.ediv_ediv_of_nonneg (Int.le_of_lt (pow_pos' B64_pos q))]
    have HMDL := Lib.hid hmdl
    have HVD := Lib.hid hvd
    clear hmd hmdl hvd hat HVM HML HPOW HT
    go_loopw [28] (fun ii wr => ∃ (i : Nat) (o : List Int), i ≤ u ∧ ii = .int .i64 i ∧ Hid (o.length = u) ∧ Lim B64 o ∧ Arr wr w.heap.size 0 o ∧ Only w.heap.size 0 u w1 wr ∧ Hid (0 < i → o.getD (i - 1) 0 < 2 ^ (64 - r)) ∧ Hid (vb B64 (o.take i) = vb B64 (md.take i) / 2 ^ r))
      (fun ii _ => u - (intOf ii).toNat)
    case atStart => exact ⟨0, List.replicate u 0, Nat.zero_le _, rfl, by show _ = _; simp, Lim.replicate B64_pos u, hw1.arr.1, Only.refl _ _ _ _, fun h => absurd h (Nat.lt_irrefl _), by show _ = _; simp⟩
    case round =>
      obtain ⟨i, o, hi, rfl, HL, hlim, harr, honly, HC, HV⟩ := hrel
      by_cases hlt : i < u
      · have hbw : Below w.heap.size w wr := hb1.trans (honly.below (Nat.le_refl _) (by omega))
        obtain ⟨x, hxe⟩ : ∃ x, x = md.getD i 0 := ⟨_, rfl⟩
        have bx : 0 ≤ x ∧ x < B64 := by rw [hxe]; exact hlimd.getD B64_pos _
        have bx0 : 0 ≤ x := bx.1
        have bx1 : x ≤ 18446744073709551615 := by have := bx.2; unfold B64 at this; omega
        have hcx : wr.cell? ⟨b, off + q + i, none⟩ = some (.int .u64 x) := by rw [hxe]; exact hatd.below hbw i (by rw [HMDL.out]; exact hlt)
        obtain ⟨c0, hc0⟩ : ∃ c0, c0 = o.getD i 0 := ⟨_, rfl⟩
        have hci : wr.cell? ⟨w.heap.size, i, none⟩ = some (.int .u64 c0) := by
          rw [hc0]
          have := harr.at' i (by rw [HL.out]; exact hlt)
          rwa [Nat.zero_add] at this
        have hfr := harr.frozen i
        obtain ⟨z, hze⟩ : ∃ z, x / 2 ^ r = z := ⟨_, rfl⟩
        have hz0 : 0 ≤ z := by rw [← hze]; exact Int.ediv_nonneg bx0 (Int.le_of_lt (pow2_pos r))
        have hzx : z ≤ x := by rw [← hze]; exact Int.ediv_le_self _ bx0
        have hzB : z < 2 ^ (64 - r) := by
          rw [← hze]
          refine Int.ediv_lt_of_lt_mul (pow2_pos r) ?_
          rw [← pow2_split (show r ≤ 64 by omega)]
          omega
        have HZB := Lib.hid hzB
        have harr2 : Arr (wr.setCell ⟨w.heap.size, i, none⟩ (.int .u64 z)) w.heap.size 0 (o.set i z) := by
          have := harr.store i z
          rwa [Nat.zero_add] at this
        by_cases hi0 : 0 < i
        · obtain ⟨j, hj⟩ : ∃ j, i - 1 = j := ⟨_, rfl⟩
          have hjI : (i : Int) - 1 = (j : Int) := by omega
          have hju : j < u := by omega
          have hi1 : (0 : Int) < (i : Int) := by omega
          obtain ⟨d, hd⟩ : ∃ d, d = o.getD j 0 := ⟨_, rfl⟩
          have hd0 : 0 ≤ d := by rw [hd]; exact (hlim.getD B64_pos _).1
          have hdr : d < 2 ^ (64 - r) := by rw [hd, ← hj]; exact HC.out hi0
          obtain ⟨y, hy⟩ : ∃ y, y = d + (x * 2 ^ (64 - r)) % 18446744073709551616 := ⟨_, rfl⟩
          have hor : bits .or .u64 d (IntKind.u64.wrap (x * 2 ^ (64 - r))) = y := by rw [hy]; exact or_shl d x (64 - r) (by omega) hd0 hdr bx0
          have hy0 : 0 ≤ y := by
            rw [hy]
            have := Int.emod_nonneg (x * 2 ^ (64 - r)) (show (18446744073709551616 : Int) ≠ 0 by decide)
            omega
          have hy1 : y < B64 := by rw [← hor]; unfold B64; exact or_lt _ _
          have hcj : (wr.setCell ⟨w.heap.size, i, none⟩ (.int .u64 z)).cell? ⟨w.heap.size, j, none⟩ = some (.int .u64 d) := by
            have h7 := harr2.at' j (by rw [List.length_set, HL.out]; exact hju)
            rw [Nat.zero_add, getD_set_other _ (by omega), ← hd] at h7
            exact h7
          have hfj : (wr.setCell ⟨w.heap.size, i, none⟩ (.int .u64 z)).frozen? ⟨w.heap.size, j, none⟩ = false := harr2.frozen j
          have hij : i = j + 1 := by omega
          have hst := down_step (o := o) (m := md) (j := j) (x := x) (d := d) (r := r) hr63 (by rw [HL.out]; omega) (by rw [HMDL.out]; omega) (by rw [← hij]; exact hxe) hd (by rw [← hij]; exact HV.out)
          rw [hze, ← hy, ← hij] at hst
          have HST := Lib.hid hst
          have HIJ := Lib.hid hij
          clear hst hy hd hxe hc0 bx hij hj hdr hzB HV
          go_wp2_with fail
          go_region
          go_wp2_with fail
          go_roundw
          case rel =>
            have hij := HIJ.out
            have harr3 := harr2.store j y
            rw [Nat.zero_add] at harr3
            have hon3 : Only w.heap.size 0 u wr ((wr.setCell ⟨w.heap.size, i, none⟩ (.int .u64 z)).setCell ⟨w.heap.size, j, none⟩ (.int .u64 y)) := (Only.store i _ (by omega) (by omega)).trans (Only.store j _ (by omega) (by omega))
            refine ⟨i + 1, (o.set i z).set j y, by omega, by go_num, ?_, (hlim.set i hz0 (by unfold B64; omega)).set j hy0 hy1, harr3, (honly.trans hon3).trans (Only.of_below ((Below.refl _ _).drew)), ?_, HST.out⟩
            · show _ = _
              rw [List.length_set, List.length_set]; exact HL.out
            · intro _
              rw [Nat.add_sub_cancel, getD_set_other _ (by omega), getD_set_same (by rw [HL.out]; exact hlt)]
              exact HZB.out
          case measure => simp [intOf]; omega
        · have hiz : i = 0 := by omega
          subst hiz
          rw [Nat.add_zero] at hcx
          have hst := down_first (o := o) (m := md) (x := x) (r := 2 ^ r) (by rw [HL.out]; exact hlt) (by rw [HMDL.out]; exact hlt) hxe
          rw [hze] at hst
          have HST := Lib.hid hst
          clear hst hxe hc0 bx hzB HV hi0
          go_wp2_with fail
          go_roundw
          case rel =>
            refine ⟨0 + 1, o.set 0 z, by omega, by go_num, ?_, hlim.set 0 hz0 (by unfold B64; omega), harr2, honly.trans (Only.store 0 _ (by omega) (by omega)), ?_, HST.out⟩
            · show _ = _
              rw [List.length_set]; exact HL.out
            · intro _
              rw [Nat.add_sub_cancel, getD_set_same (by rw [HL.out]; exact hlt)]
              exact HZB.out
          case measure => simp [intOf]; omega
      · have hiu : i = u := by omega
        have hv : vb B64 o = vb B64 l / 2 ^ k := by
          have h8 := HV.out
          rw [List.take_of_length_le (l := o) (by rw [HL.out]; omega), List.take_of_length_le (l := md) (by rw [HMDL.out]; omega), HVD.out] at h8
          exact h8
        have HVO := Lib.hid hv
        have hOo : Ow w.heap.size wr (.slice (some ⟨w.heap.size, 0, none⟩) u u) o := hw1.only honly harr (by rw [HL.out, List.length_replicate])
        have hbw : Below w.heap.size w wr := hb1.trans (honly.below (Nat.le_refl _) (by omega))
        have hrdo : Rd wr (some ⟨w.heap.size, 0, none⟩) o := Rd.of_at harr.at'
        have htl := tlen_le o
        rw [HL.out] at htl
        clear hiu hv HV HC
        go_wp2_with (go_at_call 62; refine (trim_any (some ⟨w.heap.size, 0, none⟩) u u o _ HL.out.symm (Nat.le_refl _) (by omega) hrdo).mono ?_; rintro e w' ⟨rfl, rfl⟩)
        go_ret
        exact ⟨_, tr o, rfl, hOo.take (tlen o) htl, can_tr hlim, by rw [vb_tr]; exact HVO.out, hbw⟩


set_option maxRecDepth 100000 in
theorem shl_up (ao : Option Addr) (n cap : Nat) (l : List Int) (k : Nat) (w : World) (hn : n = l.length) (h1 : n ≤ cap) (h2 : cap ≤ 9223372036854775807) (h : Rd w ao l) (hl : Lim B64 l) (hk : k ≤ 16777216) (hM : n + 300000 ≤ MaxW) :
    Calls Tryd.prog 66 #[.slice ao n cap, .int .i64 k] w fun e w' => RetNum w (vb B64 l * 2 ^ k) e w' := by
  have HC := Lib.hid (shiftUp_any ao n cap l k w hn h1 h2 h hl hk hM)
  have e1 : ¬ (16777216 : Int) < k := by omega
  have e2 : ¬ (k : Int) < -16777216 := by omega
  have e3 : ¬ (k : Int) < 0 := by omega
  clear hn h hl hM hk
  go_enter Tryd.func66, Tryd.ntmps66
  go_wp2_with (go_at_call 68; refine HC.out.mono ?_; rintro e w' ⟨v, l', rfl, hO, hcan, hv, hb⟩)
  go_ret
  exact ⟨_, l', rfl, hO, hcan, hv, hb⟩

set_option maxRecDepth 100000 in
theorem shl_down (ao : Option Addr) (n cap : Nat) (l : List Int) (k : Nat) (w : World) (hn : n = l.length) (h1 : n ≤ cap) (h2 : cap ≤ 9223372036854775807) (h : Rd w ao l) (hl : Lim B64 l) (hk0 : 1 ≤ k) (hk : k ≤ 16777216) (hM : n ≤ MaxW) :
    Calls Tryd.prog 66 #[.slice ao n cap, .int .i64 (-(k : Int))] w fun e w' => RetNum w (vb B64 l / 2 ^ k) e w' := by
  have HC := Lib.hid (shiftDown_any ao n cap l k w hn h1 h2 h hl hk hM)
  have e1 : ¬ (16777216 : Int) < -(k : Int) := by omega
  have e2 : ¬ (-(k : Int)) < -16777216 := by omega
  have e3 : (-(k : Int)) < 0 := by omega
  have e4 : 0 < k := by omega
  have e5 : - -(k : Int) = (k : Int) := by omega
  clear hn h hl hM
  go_enter Tryd.func66, Tryd.ntmps66
  go_wp2_with (go_at_call 67; refine HC.out.mono ?_; rintro e w' ⟨v, l', rfl, hO, hcan, hv, hb⟩)
  go_ret
  exact ⟨_, l', rfl, hO, hcan, hv, hb⟩

set_option maxRecDepth 100000 in
theorem shr_any (ao : Option Addr) (n cap : Nat) (l : List Int) (k : Nat) (w : World) (hn : n = l.length) (h1 : n ≤ cap) (h2 : cap ≤ 9223372036854775807) (h : Rd w ao l) (hl : Lim B64 l) (hk : k ≤ 16777216) (hM : n + 300000 ≤ MaxW) :
    Calls Tryd.prog 64 #[.slice ao n cap, .int .i64 k] w fun e w' => RetNum w (vb B64 l / 2 ^ k) e w' := by
  by_cases hk0 : k = 0
  · subst hk0
    have HC := Lib.hid (shl_up ao n cap l 0 w hn h1 h2 h hl hk hM)
    clear hn h hl hM hk
    go_enter Tryd.func64, Tryd.ntmps64
    go_wp2_with (go_at_call 66; refine HC.out.mono ?_; rintro e w' ⟨v, l', rfl, hO, hcan, hv, hb⟩)
    go_ret
    exact ⟨_, l', rfl, hO, hcan, by rw [hv]; simp, hb⟩
  · have HC := Lib.hid (shl_down ao n cap l k w hn h1 h2 h hl (by omega) hk (by omega))
    have e1 : IntKind.i64.wrap (-(k : Int)) = -(k : Int) := by rw [IntKind.wrap_i64]; omega
    clear hn h hl hM
    go_enter Tryd.func64, Tryd.ntmps64
    go_wp2_with (go_at_call 66; refine HC.out.mono ?_; rintro e w' ⟨v, l', rfl, hO, hcan, hv, hb⟩)
    go_ret
    exact ⟨_, l', rfl, hO, hcan, hv, hb⟩

end Go.Proofs.YtjmipbljoblnnaaDoor

namespace Go.Proofs.YtjmipbljoblnnaaDoor
open Go.RowKit

theorem and_mask (x : Int) (r : Nat) (hr : r ≤ 63) (h0 : 0 ≤ x) (h1 : x < 18446744073709551616) : bits .and .u64 x (2 ^ r - 1) = x % 2 ^ r := by
  obtain ⟨n, rfl⟩ := Int.eq_ofNat_of_zero_le h0
  have h2 : (2:Nat) ^ r ≤ 2 ^ 63 := Nat.pow_le_pow_right (by decide) hr
  have h3 : 1 ≤ (2:Nat) ^ r := Nat.one_le_two_pow
  have e : (2:Int) ^ r - 1 = ((2 ^ r - 1 : Nat) : Int) := by
    rw [Int.natCast_sub h3, Int.natCast_pow]; rfl
  rw [e, bits_and_u64_nat _ _ (by omega) (by omega), Nat.and_two_pow_sub_one_eq_mod, Int.natCast_emod, Int.natCast_pow]
  rfl

/-- What the copy leaves, and its number. -/
theorem low_copy {l : List Int} {N : Nat} (hl : Lim B64 l) : ∃ l0 H, l0 = l.take N ++ (List.replicate N (0 : Int)).drop l.length ∧ l0.length = N ∧ Lim B64 l0 ∧ vb B64 l = vb B64 l0 + B64 ^ N * H := by
  refine ⟨_, vb B64 (l.drop N), rfl, ?_, (hl.take N).app ((Lim.replicate B64_pos N).drop _), ?_⟩
  · rw [List.length_append, List.length_take, List.length_drop, List.length_replicate]; omega
  · rw [vb_append, List.drop_replicate, vb_replicate, Int.mul_zero, Int.add_zero]
    rcases Nat.lt_or_ge l.length N with h | h
    · rw [List.take_of_length_le (by omega), List.drop_of_length_le (by omega)]; simp
    · exact vb_split B64 l N h

theorem low_val {l0 : List Int} {q r k : Nat} {x V H : Int} (hl : l0.length = q + 1) (hlim : Lim B64 l0) (hr : r ≤ 63) (hk : (2:Int) ^ k = B64 ^ q * 2 ^ r) (hx : x = l0.getD q 0) (hV : V = vb B64 l0 + B64 ^ (q + 1) * H) :
    vb B64 (l0.set q (x % 2 ^ r)) = V % 2 ^ k := by
  have e1 := vb_set B64 l0 q (x % 2 ^ r) (by omega)
  have e2 := vb_take_succ B64 (l := l0) (k := q) (by omega)
  rw [List.take_of_length_le (by omega), ← hx] at e2
  have h0 := vb_nonneg B64_pos (hlim.take q)
  have h1 := vb_lt B64_pos (hlim.take q)
  rw [List.length_take, Nat.min_eq_left (by omega)] at h1
  rw [← hx, e2] at e1
  obtain ⟨A, hA⟩ : ∃ A, A = vb B64 (l0.take q) := ⟨_, rfl⟩
  obtain ⟨W, hW⟩ : ∃ W, W = B64 ^ q := ⟨_, rfl⟩
  obtain ⟨P, hP⟩ : ∃ P, P = (2:Int) ^ r := ⟨_, rfl⟩
  have hP0 : 0 < P := by rw [hP]; exact pow2_pos r
  have hW0 : 0 < W := by rw [hW]; exact pow_pos' B64_pos q
  have hPB : (18446744073709551616 : Int) = 2 ^ (64 - r) * P := by rw [hP]; exact pow2_split (by omega)
  have hB : B64 ^ (q + 1) = W * 18446744073709551616 := by rw [Int.pow_succ, ← hW]; rfl
  rw [← hA, ← hW] at e1 e2 h1
  rw [← hA] at h0
  rw [← hW, ← hP] at hk
  rw [← hP] at e1 ⊢
  have hm0 := Int.emod_nonneg x (show P ≠ 0 by omega)
  have hm1 := Int.emod_lt_of_pos x hP0
  have hdm := Int.mul_ediv_add_emod x P
  have hval : vb B64 (l0.set q (x % P)) = A + W * (x % P) := by
    rw [e1]; grind
  rw [hval, hk]
  have e5 : V = (A + W * (x % P)) + (W * P) * (x / P + 2 ^ (64 - r) * H) := by
    rw [hV, e2, hB, hPB]
    grind
  have h5 : W * (x % P + 1) ≤ W * P := Int.mul_le_mul_of_nonneg_left (by omega) (Int.le_of_lt hW0)
  rw [Int.mul_add, Int.mul_one] at h5
  have h6 := Int.mul_nonneg (Int.le_of_lt hW0) hm0
  rw [e5, Int.add_mul_emod_self_left]
  exact (Int.emod_eq_of_lt (a := A + W * (x % P)) (b := W * P) (by omega) (by omega)).symm

end Go.Proofs.YtjmipbljoblnnaaDoor

namespace Go.Proofs.YtjmipbljoblnnaaDoor
open Go.RowKit

/-- make([]uint64, k, n), k and n variables. -/
theorem wpList_make_words_cap {P : Program} (w : World) {ops : Array Oper} {rest : List Oper} {o : Oper} {a : Act} {Q : Exit → Act → World → Prop}
    (hg : o.guard = none) (l c : Operand) (t : TypeId) (hop : o.op = Op.makeSlice t l c)
    (h1 : P.underlying t = some (.slice 50)) (hi : (P.info? 50).map (fun i => (i.zero, i.size, i.bytes)) = some (some (.int .u64 0), 1, 8))
    (L C : Int) (k n : Nat) (hl : a.eval l = .int .i64 L) (hc : a.eval c = .int .i64 C) (hL : L = (k : Int)) (hC : C = (n : Int)) (hkn : k ≤ n) (b : n ≤ MaxW)
    (hK : ∀ w', Ow w.heap.size w' (.slice (some ⟨w.heap.size, 0, none⟩) k n) (List.replicate k 0) → Below w.heap.size w w' → w.heap.size < w'.heap.size → wpList P ops Q rest (a.put o.dst (.slice (some ⟨w.heap.size, 0, none⟩) k n)) w') :
    wpList P ops Q (o :: rest) a w := by
  obtain ⟨i, h2, h3, h4, h5⟩ := info_parts hi
  unfold MaxW at b
  have hr := run_make (P := P) w t 50 i (.int .u64 0) h1 h2 h3 .i64 .i64 (k : Int) (n : Int) (by omega) (by omega) (by rw [h5]; omega) (by omega)
  simp only [Int.toNat_natCast] at hr
  have hown0 := World.ownsRow_lit (e := 50) (size := i.size) w (madeCells (Value.int .u64 0).cells (n * i.size)) n (Nat.le_refl _) (by unfold maxLen; omega) (size_madeCells _ _)
  have e : (madeCells (Value.int .u64 0).cells (n * i.size)).toList = vals (List.replicate n 0) := by
    rw [h4, Nat.mul_one, show (Value.int .u64 0).cells = #[.int .u64 0] from rfl, toList_madeCells_one, vals, List.map_replicate]
  rw [e, h4] at hown0
  have hown1 : Ow w.heap.size (w.alloc (.cells (madeCells (Value.int .u64 0).cells (n * i.size)) 50)) (.slice (some ⟨w.heap.size, 0, none⟩) n n) (List.replicate n 0) := by
    unfold Ow; rw [List.length_replicate, h4]; exact hown0
  have hown2 := hown1.take k hkn
  rw [List.take_replicate, Nat.min_eq_left hkn] at hown2
  refine wpList_plain hg fun K hK' => ?_
  subst hL
  subst hC
  unfold Oper.wp
  simp [execOp, hop, hl, hc, hr, Result.andThen]
  exact hK' _ _ (hK _ hown2 ((Below.refl _ _).alloc (Nat.le_refl _) _) (by simp))

theorem rshl_step {o a : List Int} {q i : Nat} {x c v P : Int} (hi : i < a.length) (hx : x = a.getD i 0) (hol : o.length = q + i) (hv : v = x * P + c)
    (h : vb B32 o + B32 ^ (q + i) * c = B32 ^ q * (P * vb B32 (a.take i))) :
    vb B32 (o ++ [v % 4294967296]) + B32 ^ (q + (i + 1)) * (v / 4294967296) = B32 ^ q * (P * vb B32 (a.take (i + 1))) := by
  rw [vb_snoc, hol, vb_take_succ B32 hi, ← hx, ← Nat.add_assoc, Int.pow_succ, Int.mul_assoc, Int.add_assoc, ← Int.mul_add]
  have e : v % 4294967296 + B32 * (v / 4294967296) = c + x * P := by unfold B32; omega
  rw [e, Int.mul_add (B32 ^ (q + i)), ← Int.add_assoc, h, Int.mul_add P, Int.mul_add (B32 ^ q), Int.pow_add]
  have e2 : B32 ^ q * (P * (B32 ^ i * x)) = B32 ^ q * B32 ^ i * (x * P) := by
    rw [Int.mul_assoc, Int.mul_comm P, Int.mul_assoc]
  rw [e2]

theorem pow2_words32 (k : Nat) : (2 : Int) ^ k = B32 ^ (k / 32) * 2 ^ (k % 32) := by
  have e : B32 ^ (k / 32) = 2 ^ (32 * (k / 32)) := by
    rw [Int.pow_mul]; rfl
  rw [e, ← Int.pow_add]
  congr 1
  omega
theorem pow2_le31 {r : Nat} (hr : r ≤ 31) : (2 : Int) ^ r ≤ 2147483648 := by
  have := pow_le_pow (b := 2) (by decide) hr
  exact this

/-- A function has returned a number: a slice of digits with no room behind it. -/
def RetRdF (b : Int) (w : World) (N : Int) (e : Ending) (w' : World) : Prop :=
  ∃ ao n l, e = .returned (.slice ao n n) ∧ n = l.length ∧ n ≤ 9223372036854775807 ∧ Rd w' ao l ∧ Can b l ∧ vb b l = N ∧ Below w.heap.size w w' ∧ ∀ g o, ao = some ⟨g, o, none⟩ → w.heap.size ≤ g
theorem RetRdF.rd {b : Int} {w : World} {N : Int} {e : Ending} {w' : World} (h : RetRdF b w N e w') : RetRd b w N e w' := by
  obtain ⟨ao, n, l, h1, h2, h3, h4⟩ := h
  exact ⟨ao, n, n, l, h1, h2, Nat.le_refl _, h3, h4⟩
set_option maxRecDepth 100000 in
set_option maxHeartbeats 4000000 in
theorem rshl_full (ax : Option Addr) (na ca : Nat) (a : List Int) (k : Nat) (w : World) (hna : na = a.length) (_h1 : na ≤ ca) (_h2 : ca ≤ 9223372036854775807) (hx : Rd w ax a) (hla : Lim B32 a) (hk : k ≤ 16777216) (hM : na + 600000 ≤ MaxW) :
    Calls Tryd.prog 30 #[.slice ax na ca, .int .i64 k] w fun e w' => RetRdF B32 w (vb B32 a * 2 ^ k) e w' := by
  have HA := Lib.hid hna
  have hM2 := hM
  unfold MaxW at hM2
  by_cases h0 : na = 0
  · have hz : ((na : Int) == 0) = true := by rw [h0]; rfl
    have ha0 : a = [] := List.eq_nil_of_length_eq_zero (by omega)
    have HA0 := Lib.hid ha0
    clear hna ha0 h0
    go_enter Tryd.func30, Tryd.ntmps30
    go_wp2
    go_ret
    exact ⟨none, 0, [], rfl, rfl, by omega, Rd.nil _ _, Can.nil _, by rw [HA0.out]; simp, Below.refl _ _, fun g o e => by cases e⟩
  · have hz : ((na : Int) == 0) = false := by rw [beq_eq_false_iff_ne]; omega
    obtain ⟨b, off, rfl, hat⟩ := hx.cases (by intro e; rw [e] at hna; simp at hna; omega)
    obtain ⟨q, hq⟩ : ∃ q, q = k / 32 := ⟨_, rfl⟩
    obtain ⟨r, hr⟩ : ∃ r, r = k % 32 := ⟨_, rfl⟩
    have hq1 : ((k : Int)).tdiv 32 = (q : Int) := by rw [Int.tdiv_eq_ediv_of_nonneg (by omega)]; omega
    have hr1 : ((k : Int)).tmod 32 = (r : Int) := by rw [Int.tmod_eq_emod_of_nonneg (by omega)]; omega
    have hr31 : r ≤ 31 := by omega
    have hqb : q ≤ 524288 := by omega
    have hpow : (2 : Int) ^ k = B32 ^ q * 2 ^ r := by rw [hq, hr]; exact pow2_words32 k
    have hp31 := pow2_le31 hr31
    have hpp := pow2_pos r
    have HPOW := Lib.hid hpow
    obtain ⟨N, hN⟩ : ∃ N, q + na + 1 = N := ⟨_, rfl⟩
    have hNI : (q : Int) + (na : Int) + 1 = (N : Int) := by omega
    have hNM : N ≤ MaxW := by omega
    have hqN : q ≤ N := by omega
    have hN63 : N ≤ 17592186344416 := by omega
    have HN := Lib.hid hN
    obtain ⟨P, hP⟩ : ∃ P : Int, P = 2 ^ r := ⟨_, rfl⟩
    have HP := Lib.hid hP
    rw [← hP] at hp31 hpp HPOW
    clear hq hr hpow hN hna h0 hP
    go_enter Tryd.func30, Tryd.ntmps30
    go_wp2_with (at_make; refine wpList_make_words_cap w rfl (.tmp 13) (.tmp 19) 29 rfl Tryd.underlying29 info_u64 _ _ q N rfl rfl (by omega) (by omega) hqN hNM ?_; intro w1 hw1 hb1 hs1)
    go_loopw [5, 6, 7] (fun vo cc ii wr => ∃ (i : Nat) (c : Int) (o : List Int), i ≤ na ∧ ii = .int .i64 i ∧ cc = .int .u64 c ∧ 0 ≤ c ∧ c < P ∧ Hid (o.length = q + i) ∧ Lim B32 o ∧ Ow w.heap.size wr vo o ∧ Below w.heap.size w wr ∧ Hid (vb B32 o + B32 ^ (q + i) * c = B32 ^ q * (P * vb B32 (a.take i))))
      (fun _ _ ii _ => na - (intOf ii).toNat)
    case atStart => exact ⟨0, 0, List.replicate q 0, Nat.zero_le _, rfl, rfl, Int.le_refl _, hpp, by show _ = _; simp, Lim.replicate B32_pos q, hw1, hb1, by show _ = _; rw [vb_replicate]; simp⟩
    case round =>
      obtain ⟨i, c, o, hi, rfl, rfl, hc0, hc1, HL, hlim, hO, hb, HV⟩ := hrel
      by_cases hlt : i < na
      · obtain ⟨x, hxe⟩ : ∃ x, x = a.getD i 0 := ⟨_, rfl⟩
        have bx : 0 ≤ x ∧ x < 4294967296 := by rw [hxe]; exact hla.getD B32_pos _
        obtain ⟨bx0, bx1⟩ := bx
        have hcx : wr.cell? ⟨b, off + i, none⟩ = some (.int .u64 x) := by rw [hxe]; exact hat.below hb i (by rw [← HA.out]; exact hlt)
        obtain ⟨S, hS⟩ : ∃ S, x * 2 ^ r = S := ⟨_, rfl⟩
        have hSP : x * P = S := by rw [HP.out]; exact hS
        have hS0 : 0 ≤ S := by rw [← hSP]; exact Int.mul_nonneg bx0 (by omega)
        have hS1 : S + P ≤ 4294967296 * P := by
          rw [← hSP]
          have := Int.mul_le_mul_of_nonneg_right (show x + 1 ≤ 4294967296 by omega) (show 0 ≤ P by omega)
          rw [Int.add_mul, Int.one_mul] at this
          exact this
        have hS2 : S ≤ 9223372036854775807 := by omega
        have hst := rshl_step (o := o) (a := a) (q := q) (i := i) (x := x) (c := c) (v := S + c) (P := P) (by rw [← HA.out]; exact hlt) hxe HL.out (by rw [hSP]) HV.out
        have hc2 : (S + c) / 4294967296 < P := Int.ediv_lt_of_lt_mul (by decide) (by omega)
        have HC2 := Lib.hid hc2
        have HST := Lib.hid hst
        have hlen : o.length + 1 ≤ MaxW := by rw [HL.out]; unfold MaxW; omega
        have hbs := hb.size
        clear hst hxe hat hSP hc2
        go_wp2_with (at_builtin; refine wpList_append_words _ rfl _ _ 29 rfl Tryd.underlying29 info_u64 w.heap.size u5 o rfl (hO.alloc _) ⟨wr.heap.size, 0, none⟩ 1 1 [(S + c) % 4294967296] rfl rfl (news1 _ _ _) hlen (by simp; omega) ?_; intro v' w2 hO2 hb2)
        go_roundw
        case rel =>
          refine ⟨i + 1, (S + c) / 4294967296, o ++ [(S + c) % 4294967296], by omega, by go_num, rfl, by omega, HC2.out, ?_, hlim.app (Lim.cons (by omega) (by unfold B32; omega) (Lim.nil _)), hO2, (hb.alloc hbs _).trans hb2, HST.out⟩
          show _ = _
          rw [List.length_append, HL.out]; rfl
        case measure => simp [intOf]; omega
      · have hin : i = na := by omega
        have hlen : o.length + 1 ≤ MaxW := by rw [HL.out]; unfold MaxW; omega
        have hbs := hb.size
        have hlimc : Lim B32 (o ++ [c]) := hlim.app (Lim.cons hc0 (by unfold B32; omega) (Lim.nil _))
        have hv : vb B32 (o ++ [c]) = vb B32 a * 2 ^ k := by
          have h8 := HV.out
          rw [hin, List.take_of_length_le (l := a) (by rw [← HA.out]; exact Nat.le_refl _)] at h8
          rw [vb_snoc, HL.out, hin, h8, HPOW.out, ← Int.mul_assoc, Int.mul_comm]
        have hl2 : (o ++ [c]).length = N := by rw [List.length_append, HL.out, hin, ← HN.out]; rfl
        have HVC := Lib.hid hv
        have HL2 := Lib.hid hl2
        clear hv hin hl2
        go_wp2_with (at_builtin; refine wpList_append_words _ rfl _ _ 29 rfl Tryd.underlying29 info_u64 w.heap.size u5 o rfl (hO.alloc _) ⟨wr.heap.size, 0, none⟩ 1 1 [c] rfl rfl (news1 _ _ _) hlen (by simp; omega) ?_; intro v' w2 hO2 hb2; obtain ⟨ao', cap', rfl, hq1', hq2', hr', hfr'⟩ := hO2.form'; rw [HL2.out] at hq1' ⊢)
        refine (rtrim_any ao' N cap' (o ++ [c]) w2 HL2.out.symm hq1' hq2' hr').mono ?_
        rintro e w' ⟨rfl, rfl⟩
        go_wp2_with fail
        go_ret
        have htl := tlen_le (o ++ [c])
        exact ⟨ao', tlen (o ++ [c]), tr (o ++ [c]), rfl, (tr_length _).symm, by have := HL2.out; omega, hr'.take _, can_tr hlimc, by rw [vb_tr]; exact HVC.out, (hb.alloc hbs _).trans hb2, hfr'⟩

theorem rshl_any (ax : Option Addr) (na ca : Nat) (a : List Int) (k : Nat) (w : World) (hna : na = a.length) (h1 : na ≤ ca) (h2 : ca ≤ 9223372036854775807) (hx : Rd w ax a) (hla : Lim B32 a) (hk : k ≤ 16777216) (hM : na + 600000 ≤ MaxW) :
    Calls Tryd.prog 30 #[.slice ax na ca, .int .i64 k] w fun e w' => RetRd B32 w (vb B32 a * 2 ^ k) e w' :=
  (rshl_full ax na ca a k w hna h1 h2 hx hla hk hM).mono fun _ _ h => h.rd

theorem shr_shl32 (x : Int) (r : Nat) (hr : r ≤ 32) : x / 2 ^ r = (x * 2 ^ (32 - r)) / 4294967296 := by
  have e : (4294967296 : Int) = 2 ^ r * 2 ^ (32 - r) := by rw [← Int.pow_add, show r + (32 - r) = 32 by omega]; rfl
  rw [e, Int.mul_ediv_mul_of_pos_left _ _ (pow2_pos _)]

theorem rshr_step {o m : List Int} {j r : Nat} {x y d : Int} (hr : r ≤ 31) (hj : j + 1 < m.length) (hy : y = m.getD (j + 1) 0) (hol : o.length = j) (hx : d = x / 2 ^ r + (y * 2 ^ (32 - r)) % 4294967296)
    (h : vb B32 o + B32 ^ j * (x / 2 ^ r) = vb B32 (m.take (j + 1)) / 2 ^ r) :
    vb B32 (o ++ [d]) + B32 ^ (j + 1) * (y / 2 ^ r) = vb B32 (m.take (j + 1 + 1)) / 2 ^ r := by
  rw [vb_snoc, hol, hx, vb_take_succ B32 hj, ← hy, Int.pow_succ, Int.mul_assoc, Int.add_assoc, ← Int.mul_add]
  have e : x / 2 ^ r + (y * 2 ^ (32 - r)) % 4294967296 + B32 * (y / 2 ^ r) = x / 2 ^ r + y * 2 ^ (32 - r) := by
    rw [shr_shl32 y r (by omega)]; unfold B32; omega
  rw [e, Int.mul_add, ← Int.add_assoc, h]
  have e3 : B32 ^ j * (B32 * y) = (B32 ^ j * (y * 2 ^ (32 - r))) * 2 ^ r := by
    have h64 : (B32 : Int) = 2 ^ (32 - r) * 2 ^ r := by rw [← Int.pow_add, show 32 - r + r = 32 by omega]; rfl
    rw [Int.mul_assoc, Int.mul_assoc, ← h64, Int.mul_comm B32 y]
  rw [Int.mul_assoc (B32 ^ j) B32 y, e3, Int.add_mul_ediv_right _ _ (by have := pow2_pos r; omega)]

theorem vb_drop_div32 {m : List Int} (h : Lim B32 m) (q : Nat) (hq : q ≤ m.length) : vb B32 (m.drop q) = vb B32 m / B32 ^ q := by
  have h1 := vb_split B32 m q hq
  have h2 := vb_lt B32_pos (h.take q)
  rw [List.length_take, Nat.min_eq_left hq] at h2
  have h3 := vb_nonneg B32_pos (h.take q)
  rw [h1, Int.add_mul_ediv_left _ _ (by have := pow_pos' B32_pos q; omega), Int.ediv_eq_zero_of_lt h3 h2]
  omega

/-- A digit shifted down, and the lower part of the next one, are a digit. -/
theorem rshr_digit {x y : Int} {r : Nat} (hr : r ≤ 31) (hx0 : 0 ≤ x) (hx1 : x < 4294967296) : 0 ≤ x / 2 ^ r ∧ x / 2 ^ r + (y * 2 ^ (32 - r)) % 4294967296 < 4294967296 := by
  have hp := pow2_pos r
  have hp2 := pow2_pos (32 - r)
  have e32 : (4294967296 : Int) = 2 ^ (32 - r) * 2 ^ r := by rw [← Int.pow_add, show 32 - r + r = 32 by omega]; rfl
  refine ⟨Int.ediv_nonneg hx0 (Int.le_of_lt hp), ?_⟩
  have h1 : x / 2 ^ r < 2 ^ (32 - r) := Int.ediv_lt_of_lt_mul hp (by rw [← e32]; exact hx1)
  have h2 : (y * 2 ^ (32 - r)) % 4294967296 = (y % 2 ^ r) * 2 ^ (32 - r) := by
    rw [e32, Int.mul_comm y, Int.mul_emod_mul_of_pos _ _ hp2, Int.mul_comm]
  have h3 : y % 2 ^ r < 2 ^ r := Int.emod_lt_of_pos _ hp
  have h4 := Int.mul_le_mul_of_nonneg_right (show y % 2 ^ r + 1 ≤ 2 ^ r by omega) (Int.le_of_lt hp2)
  rw [Int.add_mul, Int.one_mul, Int.mul_comm (2 ^ r) (2 ^ (32 - r)), ← e32] at h4
  omega

set_option maxRecDepth 100000 in
set_option maxHeartbeats 4000000 in
theorem rshr_any (ax : Option Addr) (na ca : Nat) (a : List Int) (k : Nat) (w : World) (hna : na = a.length) (_h1 : na ≤ ca) (_h2 : ca ≤ 9223372036854775807) (hx : Rd w ax a) (hla : Lim B32 a) (hk : k ≤ 16777216) (hM : na ≤ MaxW) :
    Calls Tryd.prog 47 #[.slice ax na ca, .int .i64 k] w fun e w' => RetRd B32 w (vb B32 a / 2 ^ k) e w' := by
  have HA := Lib.hid hna
  have hM2 := hM
  unfold MaxW at hM2
  obtain ⟨q, hq⟩ : ∃ q, q = k / 32 := ⟨_, rfl⟩
  obtain ⟨r, hr⟩ : ∃ r, r = k % 32 := ⟨_, rfl⟩
  have hq1 : ((k : Int)).tdiv 32 = (q : Int) := by rw [Int.tdiv_eq_ediv_of_nonneg (by omega)]; omega
  have hr1 : ((k : Int)).tmod 32 = (r : Int) := by rw [Int.tmod_eq_emod_of_nonneg (by omega)]; omega
  have hr31 : r ≤ 31 := by omega
  have hqb : q ≤ 524288 := by omega
  have hpow : (2 : Int) ^ k = B32 ^ q * 2 ^ r := by rw [hq, hr]; exact pow2_words32 k
  obtain ⟨m, hm⟩ : ∃ m, m = a.drop q := ⟨_, rfl⟩
  have hml : m.length = na - q := by rw [hm, List.length_drop, hna]
  have hlm : Lim B32 m := by rw [hm]; exact hla.drop q
  have hvm : vb B32 m / 2 ^ r = vb B32 a / 2 ^ k := by
    by_cases hqn : q ≤ a.length
    · rw [hm, vb_drop_div32 hla q hqn, hpow, Int.ediv_ediv_of_nonneg (Int.le_of_lt (pow_pos' B32_pos q))]
    · have e0 : m = [] := by rw [hm]; exact List.drop_eq_nil_of_le (by omega)
      have e1 := vb_lt B32_pos hla
      have e2 := pow_le_pow B32_pos (show a.length ≤ q by omega)
      have e3 := Int.mul_le_mul_of_nonneg_left (show (1 : Int) ≤ 2 ^ r from pow2_pos r) (Int.le_of_lt (pow_pos' B32_pos q))
      rw [e0, hpow, Int.ediv_eq_zero_of_lt (vb_nonneg B32_pos hla) (by omega)]
      simp
  have HML := Lib.hid hml
  have HVM := Lib.hid hvm
  have hgm : ∀ j, m.getD j 0 = a.getD (q + j) 0 := by intro j; rw [hm, getD_drop]
  have HGM := Lib.hid hgm
  clear hq hr hpow hm hml hvm hna hgm
  go_enter Tryd.func47, Tryd.ntmps47
  go_wp2
  go_loopw [5, 6] (fun vo ii wr => ∃ (i j : Nat) (o : List Int), Hid (q + j = i) ∧ ii = .int .i64 i ∧ q ≤ i ∧ (q ≤ na → i ≤ na) ∧ i ≤ 17592186968704 ∧ Hid (o.length = j) ∧ Lim B32 o ∧ Ow w.heap.size wr vo o ∧ Below w.heap.size w wr ∧ Hid (i < na → vb B32 o + B32 ^ j * (m.getD j 0 / 2 ^ r) = vb B32 (m.take (j + 1)) / 2 ^ r) ∧ Hid (na ≤ i → vb B32 o = vb B32 m / 2 ^ r))
    (fun _ ii _ => na - (intOf ii).toNat)
  case atStart =>
    refine ⟨q, 0, [], rfl, rfl, Nat.le_refl _, fun h => h, by omega, rfl, Lim.nil _, Ow.nil _ _, Below.refl _ _, fun h => ?_, fun h => ?_⟩
    · have hl0 : 0 < m.length := by rw [HML.out]; omega
      rw [vb_take_succ B32 hl0]; simp
    · have : m = [] := List.eq_nil_of_length_eq_zero (by rw [HML.out]; omega)
      rw [this]; simp
  case round =>
    obtain ⟨i, j, o, HIJ, rfl, hqi, hin, hib, HL, hlim, hO, hb, HV, HV2⟩ := hrel
    by_cases hlt : i < na
    · obtain ⟨b, off, rfl, hat⟩ := hx.cases (by intro e; have := HA.out; rw [e] at this; simp at this; omega)
      obtain ⟨x, hxe⟩ : ∃ x, x = m.getD j 0 := ⟨_, rfl⟩
      have hxa : x = a.getD i 0 := by rw [hxe, HGM.out, HIJ.out]
      have bx : 0 ≤ x ∧ x < 4294967296 := by rw [hxe]; exact hlm.getD B32_pos _
      obtain ⟨bx0, bx1⟩ := bx
      have hcx : wr.cell? ⟨b, off + i, none⟩ = some (.int .u64 x) := by rw [hxa]; exact hat.below hb i (by rw [← HA.out]; exact hlt)
      obtain ⟨z, hz⟩ : ∃ z, x / 2 ^ r = z := ⟨_, rfl⟩
      have hz0 : 0 ≤ z := by rw [← hz]; exact Int.ediv_nonneg bx0 (Int.le_of_lt (pow2_pos r))
      have hz1 : z < 4294967296 := by rw [← hz]; exact Int.lt_of_le_of_lt (Int.ediv_le_self _ bx0) bx1
      have hlen : o.length + 1 ≤ MaxW := by rw [HL.out]; have := HIJ.out; unfold MaxW; omega
      have hbs := hb.size
      have hij := HIJ.out
      have hV := HV.out hlt
      rw [← hxe] at hV
      by_cases h2 : i + 1 < na
      · have h2I : (i : Int) + 1 < (na : Int) := by omega
        obtain ⟨y, hye⟩ : ∃ y, y = m.getD (j + 1) 0 := ⟨_, rfl⟩
        have hya : y = a.getD (i + 1) 0 := by rw [hye, HGM.out, ← hij]; rfl
        have bY : 0 ≤ y ∧ y < 4294967296 := by rw [hye]; exact hlm.getD B32_pos _
        obtain ⟨by0, by1⟩ := bY
        have hcy : wr.cell? ⟨b, off + (i + 1), none⟩ = some (.int .u64 y) := by rw [hya]; exact hat.below hb (i + 1) (by rw [← HA.out]; exact h2)
        obtain ⟨T, hT⟩ : ∃ T, y * 2 ^ (32 - r) = T := ⟨_, rfl⟩
        have hT0 : 0 ≤ T := by rw [← hT]; exact Int.mul_nonneg by0 (Int.le_of_lt (pow2_pos _))
        have hT1 : T ≤ 18446744069414584320 := by
          have hp32 : (2 : Int) ^ (32 - r) ≤ 4294967296 := by
            have := pow_le_pow (b := 2) (by decide) (show 32 - r ≤ 32 by omega)
            exact this
          have h5 := Int.mul_le_mul (show y ≤ 4294967295 by omega) hp32 (Int.le_of_lt (pow2_pos _)) (by decide)
          rw [hT] at h5
          omega
        have hdg := rshr_digit (x := x) (y := y) (r := r) hr31 bx0 bx1
        rw [hz, hT] at hdg
        have hst := rshr_step (o := o) (m := m) (j := j) (r := r) (x := x) (y := y) (d := z + T % 4294967296) hr31 (by rw [HML.out]; omega) hye HL.out (by rw [hz, hT]) hV
        have hd0 : 0 ≤ z + T % 4294967296 := by omega
        have hd1 : z + T % 4294967296 < 4294967296 := hdg.2
        have hdm : (z + T) % 4294967296 = z + T % 4294967296 := by omega
        rw [hye] at hst
        have HST := Lib.hid hst
        have HD0 := Lib.hid hd0
        have HD1 := Lib.hid hd1
        have HDM := Lib.hid hdm
        clear hst hye hya hxe hxa hat hdg hij hV hd0 hd1 hdm
        go_wp2_with (at_builtin; refine wpList_append_words _ rfl _ _ 29 rfl Tryd.underlying29 info_u64 w.heap.size u5 o rfl (hO.alloc _) ⟨wr.heap.size, 0, none⟩ 1 1 [(z + T) % 4294967296] rfl rfl (news1 _ _ _) hlen (by simp; omega) ?_; intro v' w2 hO2 hb2)
        rw [HDM.out] at hO2
        go_roundw
        case rel =>
          have hij := HIJ.out
          refine ⟨i + 1, j + 1, o ++ [z + T % 4294967296], by show _ = _; omega, by go_num, by omega, fun _ => by omega, by omega, ?_, hlim.app (Lim.cons HD0.out (by unfold B32; exact HD1.out) (Lim.nil _)), hO2, (hb.alloc hbs _).trans hb2, fun _ => HST.out, fun h => absurd h (by omega)⟩
          show _ = _
          rw [List.length_append, HL.out]; rfl
        case measure => simp [intOf]; omega
      · have h2I : ¬ (i : Int) + 1 < (na : Int) := by omega
        have hjm : j + 1 = m.length := by rw [HML.out]; omega
        have hst : vb B32 (o ++ [z]) = vb B32 m / 2 ^ r := by
          rw [hjm, List.take_length, hz] at hV
          rw [vb_snoc, HL.out]; exact hV
        have HST := Lib.hid hst
        have hzm : z % 4294967296 = z := Int.emod_eq_of_lt hz0 hz1
        have HZM := Lib.hid hzm
        clear hst hxe hxa hat hij hV hjm hzm
        go_wp2_with (at_builtin; refine wpList_append_words _ rfl _ _ 29 rfl Tryd.underlying29 info_u64 w.heap.size u5 o rfl (hO.alloc _) ⟨wr.heap.size, 0, none⟩ 1 1 [z % 4294967296] rfl rfl (news1 _ _ _) hlen (by simp; omega) ?_; intro v' w2 hO2 hb2)
        rw [HZM.out] at hO2
        go_roundw
        case rel =>
          have hij := HIJ.out
          refine ⟨i + 1, j + 1, o ++ [z], by show _ = _; omega, by go_num, by omega, fun _ => by omega, by omega, ?_, hlim.app (Lim.cons hz0 (by unfold B32; exact hz1) (Lim.nil _)), hO2, (hb.alloc hbs _).trans hb2, fun h => absurd h (by omega), fun _ => HST.out⟩
          show _ = _
          rw [List.length_append, HL.out]; rfl
        case measure => simp [intOf]; omega
    · have hv := HV2.out (by omega)
      rw [HVM.out] at hv
      have HVO := Lib.hid hv
      obtain ⟨ao', cap', rfl, hq1', hq2', hr', hfr'⟩ := hO.form'
      obtain ⟨n, hn⟩ : ∃ n, n = o.length := ⟨_, rfl⟩
      rw [← hn] at hq1' ⊢
      have HNO := Lib.hid hn
      clear hn hv HV HV2
      go_wp2_with (go_at_call 48; refine (rtrim_any ao' n cap' o _ HNO.out hq1' hq2' hr').mono ?_; rintro e w' ⟨rfl, rfl⟩)
      go_ret
      have htl := tlen_le o
      exact ⟨ao', tlen o, tlen o, tr o, rfl, (tr_length _).symm, Nat.le_refl _, by have := HNO.out; omega, hr'.take _, can_tr hlim, by rw [vb_tr]; exact HVO.out, hb, hfr'⟩
end Go.Proofs.YtjmipbljoblnnaaDoor

namespace Go.Proofs.YtjmipbljoblnnaaDoor
open Go.RowKit

/-- One step of Newton's from above: never below the root. -/
theorem newton_ge {x r : Int} (hr : 0 < r) : x < ((r + x / r) / 2 + 1) * ((r + x / r) / 2 + 1) := by
  obtain ⟨q, hq⟩ : ∃ q, q = x / r := ⟨_, rfl⟩
  rw [← hq]
  have h1 : x < r * (q + 1) := by
    have a := Int.mul_ediv_add_emod x r
    have b := Int.emod_lt_of_pos x hr
    rw [← hq] at a
    rw [Int.mul_add]
    omega
  obtain ⟨n, hn⟩ : ∃ n, n = (r + q) / 2 + 1 := ⟨_, rfl⟩
  rw [← hn]
  have h2 : r + (q + 1) ≤ 2 * n := by omega
  -- 4 n^2 is at least (r + (q + 1))^2, that is at least 4 r (q + 1)
  by_cases hq1 : 0 ≤ q + 1
  · have h3 : (r + (q + 1)) * (r + (q + 1)) ≤ (2 * n) * (2 * n) := Int.mul_le_mul h2 h2 (by omega) (by omega)
    have h4 : 0 ≤ (r - (q + 1)) * (r - (q + 1)) := by
      rcases Int.le_total 0 (r - (q + 1)) with h | h
      · exact Int.mul_nonneg h h
      · exact Int.mul_nonneg_of_nonpos_of_nonpos h h
    have e1 : (r + (q + 1)) * (r + (q + 1)) = (r - (q + 1)) * (r - (q + 1)) + 4 * (r * (q + 1)) := by
      simp only [Int.add_mul, Int.mul_add, Int.sub_mul, Int.mul_sub, Int.mul_comm (q + 1) r, Int.mul_one, Int.one_mul]
      omega
    have e2 : (2 * n) * (2 * n) = 4 * (n * n) := by rw [Int.mul_assoc, Int.mul_left_comm n 2 n]; omega
    omega
  · have h3 : r * (q + 1) ≤ 0 := Int.mul_nonpos_of_nonneg_of_nonpos (by omega) (by omega)
    have h4 : 0 ≤ n * n := by
      rcases Int.le_total 0 n with h | h
      · exact Int.mul_nonneg h h
      · exact Int.mul_nonneg_of_nonpos_of_nonpos h h
    omega

theorem newton_done {x r : Int} (hr : 0 < r) (h : r ≤ (r + x / r) / 2) : r * r ≤ x := by
  have a := Int.mul_ediv_add_emod x r
  have b := Int.emod_nonneg x (by omega : r ≠ 0)
  have : r * r ≤ r * (x / r) := Int.mul_le_mul_of_nonneg_left (by omega) (by omega)
  omega

theorem newton_quo {x r : Int} (hr : 0 < r) (h : x < (r + 1) * (r + 1)) : x / r ≤ r + 2 := by
  have : x / r < r + 3 := by
    refine Int.ediv_lt_of_lt_mul hr ?_
    have e : (r + 1) * (r + 1) = r * r + 2 * r + 1 := by rw [Int.add_mul, Int.mul_add]; omega
    rw [Int.add_mul]
    omega
  omega

/-- Two numbers of the call's own are returned. -/
def RetTwo (w : World) (R S : Int) (e : Ending) (w' : World) : Prop :=
  ∃ v1 l1 v2 l2, e = .returned (.tuple #[v1, v2]) ∧ Ow w.heap.size w' v1 l1 ∧ Can B64 l1 ∧ vb B64 l1 = R ∧ Ow w.heap.size w' v2 l2 ∧ Can B64 l2 ∧ vb B64 l2 = S ∧ Below w.heap.size w w'

/-- The greatest number whose square is not above N. -/
def IsRoot (N R : Int) : Prop := 0 ≤ R ∧ R * R ≤ N ∧ N < (R + 1) * (R + 1)

theorem root_unique {N R S : Int} (h : IsRoot N R) (k : IsRoot N S) : R = S := by
  obtain ⟨h1, h2, h3⟩ := h
  obtain ⟨k1, k2, k3⟩ := k
  rcases Int.lt_trichotomy R S with a | a | a
  · have : (R + 1) * (R + 1) ≤ S * S := Int.mul_le_mul (by omega) (by omega) (by omega) (by omega)
    omega
  · exact a
  · have : (S + 1) * (S + 1) ≤ R * R := Int.mul_le_mul (by omega) (by omega) (by omega) (by omega)
    omega

def RetSqrt (w : World) (N : Int) (e : Ending) (w' : World) : Prop := ∃ R, IsRoot N R ∧ RetTwo w R (N - R * R) e w'

theorem at_new (w : World) (x : Int) (t : TypeId) : Rd (w.alloc (.cells #[.int .u64 x] t)) (some ⟨w.heap.size, 0, none⟩) [x] := by
  refine Rd.of_at fun j hj => ?_
  have := news1 w x t j hj
  rwa [addr_add_none] at this

theorem vb_one (x : Int) : vb B64 [x] = x := by simp [vb_cons]

end Go.Proofs.YtjmipbljoblnnaaDoor
