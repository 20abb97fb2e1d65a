/-
  Contracts of nat.shiftUp and nat.shiftDown, and the arithmetic of words that are shifted.
  Contract of nat.shiftDown.
  Contracts of nat.Shl and nat.Shr.
-/
import Derived.Test.YtbieldebkfkpkaaDoorNat1
import Derived.Test.YtbieldebkfkpkaaDoorBits
import Derived.Test.YtbieldebkfkpkaaDoorChunks
namespace Go.Proofs.YtbieldebkfkpkaaDoor
open Go.RowKit


theorem pow2_split {r : Nat} (hr : r ≤ 64) : (18446744073709551616 : Int) = 2 ^ (64 - r) * 2 ^ r := by
  rw [← Int.pow_add, show 64 - r + r = 64 by omega]; rfl
theorem pow2_pos (r : Nat) : (0 : Int) < 2 ^ r := Int.pow_pos (by decide)
theorem or_comm64 (a b : Int) (ha : 0 ≤ a) (ha2 : a < 18446744073709551616) (hb : 0 ≤ b) (hb2 : b < 18446744073709551616) : bits .or .u64 a b = bits .or .u64 b a := by
  obtain ⟨a, rfl⟩ := Int.eq_ofNat_of_zero_le ha
  obtain ⟨b, rfl⟩ := Int.eq_ofNat_of_zero_le hb
  rw [bits_or_u64_nat _ _ (by omega) (by omega), bits_or_u64_nat _ _ (by omega) (by omega), Nat.or_comm]

/-- A word that is shifted up is laid over a word below the shift. -/
theorem or_shl (c x : Int) (r : Nat) (hr : r ≤ 64) (hc : 0 ≤ c) (hcr : c < 2 ^ r) (_hx : 0 ≤ x) : bits .or .u64 c (IntKind.u64.wrap (x * 2 ^ r)) = c + (x * 2 ^ r) % 18446744073709551616 := by
  have hp := pow2_pos r
  have e : (x * 2 ^ r) % 18446744073709551616 = (x % 2 ^ (64 - r)) * 2 ^ r := by
    rw [pow2_split hr, Int.mul_comm x, Int.mul_comm (2 ^ (64 - r)), Int.mul_emod_mul_of_pos _ _ hp, Int.mul_comm]
  have h0 : 0 ≤ x % 2 ^ (64 - r) := Int.emod_nonneg _ (by have := pow2_pos (64 - r); omega)
  have h1 : x % 2 ^ (64 - r) < 2 ^ (64 - r) := Int.emod_lt_of_pos _ (pow2_pos _)
  have h2 : (x % 2 ^ (64 - r)) * 2 ^ r + 2 ^ r ≤ 18446744073709551616 := by
    have h3 : (x % 2 ^ (64 - r) + 1) * 2 ^ r ≤ 2 ^ (64 - r) * 2 ^ r := Int.mul_le_mul_of_nonneg_right (by omega) (Int.le_of_lt hp)
    rw [← pow2_split hr, Int.add_mul, Int.one_mul] at h3
    exact h3
  have h4 : 0 ≤ (x % 2 ^ (64 - r)) * 2 ^ r := Int.mul_nonneg h0 (Int.le_of_lt hp)
  have e2 : IntKind.u64.wrap (x * 2 ^ r) = (x % 2 ^ (64 - r)) * 2 ^ r := by rw [IntKind.wrap_u64, e]
  rw [e2, or_comm64 _ _ hc (by omega) h4 (by omega), or_parts _ _ r h0 hc hcr (by omega), e, Int.add_comm]

/-- What a shift down by the rest takes. -/
theorem shr_shl (x : Int) (r : Nat) (hr : r ≤ 64) : x / 2 ^ (64 - r) = (x * 2 ^ r) / 18446744073709551616 := by
  rw [pow2_split hr, Int.mul_ediv_mul_of_pos_left _ _ (pow2_pos r)]

theorem up_step {o m : List Int} {q i : Nat} {x c P : Int} (hi : i < m.length) (hx : x = m.getD i 0) (hp : q + i + 1 < o.length) (hc : o.getD (q + i) 0 = c) (hz : o.getD (q + i + 1) 0 = 0)
    (hv : vb B64 o = B64 ^ q * (P * vb B64 (m.take i))) :
    vb B64 ((o.set (q + i) (c + (x * P) % 18446744073709551616)).set (q + i + 1) (x * P / 18446744073709551616)) = B64 ^ q * (P * vb B64 (m.take (i + 1))) := by
  rw [vb_set _ _ _ _ (by rw [List.length_set]; exact hp), vb_set _ _ _ _ (by omega), getD_set_other _ (by omega), hc, hz, hv, vb_take_succ B64 hi, ← hx, Int.pow_succ, Int.mul_assoc, Int.add_assoc, ← Int.mul_add]
  have e : c + x * P % 18446744073709551616 - c + B64 * (x * P / 18446744073709551616 - 0) = x * P := by unfold B64; omega
  rw [e, Int.mul_add, Int.mul_add, Int.pow_add]
  have e2 : B64 ^ q * (P * (B64 ^ i * x)) = B64 ^ q * B64 ^ i * (x * P) := by
    rw [Int.mul_assoc, Int.mul_comm P, Int.mul_assoc]
  rw [e2]

theorem pow2_words (k : Nat) : (2 : Int) ^ k = B64 ^ (k / 64) * 2 ^ (k % 64) := by
  have e : B64 ^ (k / 64) = 2 ^ (64 * (k / 64)) := by
    rw [Int.pow_mul]; rfl
  rw [e, ← Int.pow_add]
  congr 1
  omega

theorem getD_rep (n j : Nat) : (List.replicate n (0 : Int)).getD j 0 = 0 := by
  rw [List.getD_eq_getElem?_getD, List.getElem?_replicate]
  split <;> rfl
theorem or_lt (c x : Int) : bits .or .u64 c (IntKind.u64.wrap x) < 18446744073709551616 := by
  show IntKind.u64.wrap _ < _
  rw [IntKind.wrap_u64]
  omega

theorem tlen_zero_vb {l : List Int} (h : tlen l = 0) : vb B64 l = 0 := by
  rw [← vb_tr, tr, h]; rfl

set_option maxRecDepth 100000 in
set_option maxHeartbeats 4000000 in
theorem shiftUp_any (ao : Option Addr) (n cap : Nat) (l : List Int) (k : Nat) (w : World) (hn : n = l.length) (h1 : n ≤ cap) (h2 : cap ≤ 9223372036854775807) (h : Rd w ao l) (hl : Lim B64 l) (hk : k ≤ 16777216) (hM : n + 300000 ≤ MaxW) :
    Calls Tryd.prog 59 #[.slice ao n cap, .int .i64 k] w fun e w' => RetNum w (vb B64 l * 2 ^ k) e w' := by
  have ht := tlen_le l
  have HT := Lib.hid (trim_any ao n cap l w hn h1 h2 h)
  obtain ⟨t, hte⟩ : ∃ t, t = tlen l := ⟨_, rfl⟩
  have htn : t ≤ n := by omega
  have htc : t ≤ cap := by omega
  rw [← hte] at HT
  have HTE := Lib.hid hte
  have hM2 := hM
  unfold MaxW at hM2
  clear hn ht
  by_cases h0 : t = 0
  · have hz : ((t : Int) == 0) = true := by rw [h0]; rfl
    have hv : vb B64 l = 0 := tlen_zero_vb (by rw [← HTE.out, h0])
    have HV := Lib.hid hv
    clear hv hte h0
    go_enter Tryd.func59, Tryd.ntmps59
    go_wp2_with (go_at_call 68; refine HT.out.mono ?_; rintro e w' ⟨rfl, rfl⟩)
    go_ret
    exact ⟨_, [], rfl, Ow.nil _ _, Can.nil _, by rw [HV.out]; simp, Below.refl _ _⟩
  · have hz : ((t : Int) == 0) = false := by rw [beq_eq_false_iff_ne]; omega
    obtain ⟨m, hm⟩ : ∃ m, m = tr l := ⟨_, rfl⟩
    have hml : m.length = t := by rw [hm, tr_length, hte]
    have hcan : Can B64 m := by rw [hm]; exact can_tr hl
    have hvm : vb B64 m = vb B64 l := by rw [hm, vb_tr]
    have hrd : Rd w ao m := by rw [hm]; exact h.take _
    have HML := Lib.hid hml
    have HVM := Lib.hid hvm
    obtain ⟨b, off, rfl, hat⟩ := hrd.cases (by intro e; rw [e] at hml; simp at hml; omega)
    obtain ⟨q, hq⟩ : ∃ q, q = k / 64 := ⟨_, rfl⟩
    obtain ⟨r, hr⟩ : ∃ r, r = k % 64 := ⟨_, rfl⟩
    have hq1 : ((k : Int)).tdiv 64 = (q : Int) := by rw [Int.tdiv_eq_ediv_of_nonneg (by omega)]; omega
    have hr1 : ((k : Int)).tmod 64 = (r : Int) := by rw [Int.tmod_eq_emod_of_nonneg (by omega)]; omega
    have hr63 : r ≤ 63 := by omega
    have hqb : q ≤ 262144 := by omega
    have hpow : (2 : Int) ^ k = B64 ^ q * 2 ^ r := by rw [hq, hr]; exact pow2_words k
    have HPOW := Lib.hid hpow
    obtain ⟨N, hN⟩ : ∃ N, q + t + 1 = N := ⟨_, rfl⟩
    have hNI : (q : Int) + (t : Int) + 1 = (N : Int) := by omega
    have hNM : N ≤ MaxW := by omega
    have hN63 : N ≤ 17592186344416 := by omega
    have HQ := Lib.hid hq
    have HR := Lib.hid hr
    have HN := Lib.hid hN
    clear hq hr hpow hN hm hml hvm hrd h hte
    go_enter Tryd.func59, Tryd.ntmps59
    go_wp2_with (first
      | (go_at_call 68; refine HT.out.mono ?_; rintro e w' ⟨rfl, rfl⟩)
      | (at_make; refine wpList_make_words w rfl (.tmp 23) (.tmp 23) 28 rfl Tryd.underlying28 info_u64 _ _ N rfl rfl (by omega) (by omega) hNM ?_; intro w1 hw1 hb1 hs1))
    go_loopw [27] (fun ii wr => ∃ (i : Nat) (o : List Int), i ≤ t ∧ ii = .int .i64 i ∧ Hid (o.length = N) ∧ Lim B64 o ∧ Arr wr w.heap.size 0 o ∧ Only w.heap.size 0 N w1 wr ∧ Hid (o.getD (q + i) 0 < 2 ^ r) ∧ Hid (∀ j, q + i < j → o.getD j 0 = 0) ∧ Hid (vb B64 o = B64 ^ q * (2 ^ r * vb B64 (m.take i))))
      (fun ii _ => t - (intOf ii).toNat)
    case atStart => exact ⟨0, List.replicate N 0, Nat.zero_le _, rfl, by show _ = _; simp, Lim.replicate B64_pos N, hw1.arr.1, Only.refl _ _ _ _, by rw [getD_rep]; exact pow2_pos r, fun j _ => getD_rep N j, by show _ = _; rw [vb_replicate]; simp⟩
    case round =>
      obtain ⟨i, o, hi, rfl, HL, hlim, harr, honly, HC, HZ, HV⟩ := hrel
      by_cases hlt : i < t
      · have hbw : Below w.heap.size w wr := hb1.trans (honly.below (Nat.le_refl _) (by omega))
        obtain ⟨x, hxe⟩ : ∃ x, x = m.getD i 0 := ⟨_, rfl⟩
        have bx : 0 ≤ x ∧ x < B64 := by rw [hxe]; exact hcan.lim.getD B64_pos _
        have bx0 : 0 ≤ x := bx.1
        have bx1 : x ≤ 18446744073709551615 := by have := bx.2; unfold B64 at this; omega
        have hcx : wr.cell? ⟨b, off + i, none⟩ = some (.int .u64 x) := by rw [hxe]; exact hat.below hbw i (by rw [HML.out]; exact hlt)
        obtain ⟨p, hp⟩ : ∃ p, q + i = p := ⟨_, rfl⟩
        have hNo := HN.out
        have hpN : p + 1 < N := by omega
        have hpN2 : p < N := by omega
        have hpI : (q : Int) + (i : Int) = (p : Int) := by omega
        obtain ⟨c, hce⟩ : ∃ c, c = o.getD p 0 := ⟨_, rfl⟩
        have bc : 0 ≤ c := by rw [hce]; exact (hlim.getD B64_pos _).1
        have bcr : c < 2 ^ r := by rw [hce, ← hp]; exact HC.out
        have hco : wr.cell? ⟨w.heap.size, p, none⟩ = some (.int .u64 c) := by
          rw [hce]
          have := harr.at' p (by rw [HL.out]; exact hpN2)
          rwa [Nat.zero_add] at this
        have hfr := harr.frozen p
        obtain ⟨y, hy⟩ : ∃ y, y = c + (x * 2 ^ r) % 18446744073709551616 := ⟨_, rfl⟩
        have hor : bits .or .u64 c (IntKind.u64.wrap (x * 2 ^ r)) = y := by rw [hy]; exact or_shl c x r (by omega) bc bcr bx0
        obtain ⟨z, hze⟩ : ∃ z, z = x * 2 ^ r / 18446744073709551616 := ⟨_, rfl⟩
        have hsh : x / 2 ^ (64 - r) = z := by rw [hze]; exact shr_shl x r (by omega)
        have hzr : z < 2 ^ r := by
          rw [hze]
          refine Int.ediv_lt_of_lt_mul (by decide) ?_
          rw [Int.mul_comm]
          have := Int.mul_lt_mul_of_pos_left (show x < 18446744073709551616 by omega) (pow2_pos r)
          exact this
        have hz0 : 0 ≤ z := by rw [hze]; exact Int.ediv_nonneg (Int.mul_nonneg bx0 (Int.le_of_lt (pow2_pos r))) (by decide)
        have hr64 : (2 : Int) ^ r ≤ 18446744073709551616 := by
          rw [pow2_split (show r ≤ 64 by omega)]
          have h5 := Int.mul_le_mul_of_nonneg_right (show (1 : Int) ≤ 2 ^ (64 - r) from pow2_pos _) (Int.le_of_lt (pow2_pos r))
          omega
        have hy01 : 0 ≤ y ∧ y < B64 := by
          rw [← hor]
          unfold B64
          have hw0 := or_shl c x r (by omega) bc bcr bx0
          rw [hw0]
          have h6 : 0 ≤ (x * 2 ^ r) % 18446744073709551616 := Int.emod_nonneg _ (by decide)
          refine ⟨by omega, ?_⟩
          rw [← hw0]
          exact or_lt c (x * 2 ^ r)
        have hst := up_step (o := o) (m := m) (q := q) (i := i) (x := x) (c := c) (P := 2 ^ r) (by rw [HML.out]; exact hlt) hxe (by rw [HL.out, hp]; exact hpN) (by rw [hp]; exact hce.symm) (HZ.out _ (by omega)) HV.out
        rw [← hy, ← hze, hp] at hst
        have HST := Lib.hid hst
        have HZR := Lib.hid hzr
        have HY := Lib.hid hy01
        have HP := Lib.hid hp
        clear hst hzr hy hze hxe hce bx hp hNo hr64 hy01
        go_wp2_with fail
        go_region
        have harr2 : Arr (wr.setCell ⟨w.heap.size, p, none⟩ (.int .u64 y)) w.heap.size 0 (o.set p y) := by
          have := harr.store p y
          rwa [Nat.zero_add] at this
        have hcp1 : (wr.setCell ⟨w.heap.size, p, none⟩ (.int .u64 y)).cell? ⟨w.heap.size, p + 1, none⟩ = some (.int .u64 0) := by
          have h7 := harr2.at' (p + 1) (by rw [List.length_set, HL.out]; exact hpN)
          rw [Nat.zero_add, getD_set_other _ (by omega), HZ.out (p + 1) (by have := HP.out; omega)] at h7
          exact h7
        have hfp1 : (wr.setCell ⟨w.heap.size, p, none⟩ (.int .u64 y)).frozen? ⟨w.heap.size, p + 1, none⟩ = false := harr2.frozen (p + 1)
        go_wp2_with fail
        go_roundw
        case rel =>
          have hp' := HP.out
          have harr3 := harr2.store (p + 1) z
          rw [Nat.zero_add] at harr3
          have hon3 : Only w.heap.size 0 N wr ((wr.setCell ⟨w.heap.size, p, none⟩ (.int .u64 y)).setCell ⟨w.heap.size, p + 1, none⟩ (.int .u64 z)) := (Only.store p _ (by omega) (by omega)).trans (Only.store (p + 1) _ (by omega) (by omega))
          refine ⟨i + 1, (o.set p y).set (p + 1) z, by omega, by go_num, ?_, (hlim.set p HY.out.1 HY.out.2).set (p + 1) hz0 ?_, harr3, (honly.trans hon3).trans (Only.of_below ((Below.refl _ _).drew)), ?_, ?_, HST.out⟩
          · show _ = _
            rw [List.length_set, List.length_set]; exact HL.out
          · have h8 := HZR.out
            have h9 : (2 : Int) ^ r ≤ B64 := by
              unfold B64
              rw [pow2_split (show r ≤ 64 by omega)]
              have h5 := Int.mul_le_mul_of_nonneg_right (show (1 : Int) ≤ 2 ^ (64 - r) from pow2_pos _) (Int.le_of_lt (pow2_pos r))
              omega
            omega
          · show _ < _
            rw [show q + (i + 1) = p + 1 by omega, getD_set_same (by rw [List.length_set, HL.out]; exact hpN)]
            exact HZR.out
          · intro j hj
            rw [getD_set_other _ (by omega), getD_set_other _ (by omega)]
            exact HZ.out j (by omega)
        case measure => simp [intOf]; omega
      · have hit : i = m.length := by rw [HML.out]; omega
        have hv : vb B64 o = vb B64 l * 2 ^ k := by
          have h8 := HV.out
          rw [hit, List.take_length, HVM.out, ← Int.mul_assoc, ← HPOW.out, Int.mul_comm] at h8
          exact h8
        have HVO := Lib.hid hv
        have hOo : Ow w.heap.size wr (.slice (some ⟨w.heap.size, 0, none⟩) N N) o := hw1.only honly harr (by rw [HL.out, List.length_replicate])
        have hbw : Below w.heap.size w wr := hb1.trans (honly.below (Nat.le_refl _) (by omega))
        have hrd : Rd wr (some ⟨w.heap.size, 0, none⟩) o := Rd.of_at harr.at'
        have htl := tlen_le o
        rw [HL.out] at htl
        clear hit hv HV HZ HC
        go_wp2_with (go_at_call 68; refine (trim_any (some ⟨w.heap.size, 0, none⟩) N N o _ HL.out.symm (Nat.le_refl _) (by omega) hrd).mono ?_; rintro e w' ⟨rfl, rfl⟩)
        go_ret
        exact ⟨_, tr o, rfl, hOo.take (tlen o) htl, can_tr hlim, by rw [vb_tr]; exact HVO.out, hbw⟩


theorem down_first {o m : List Int} {x r : Int} (ho : 0 < o.length) (hm : 0 < m.length) (hx : x = m.getD 0 0) :
    vb B64 ((o.set 0 (x / r)).take (0 + 1)) = vb B64 (m.take (0 + 1)) / r := by
  rw [vb_take_succ B64 hm, vb_take_succ B64 (by rw [List.length_set]; exact ho), getD_set_same ho, ← hx]
  simp

theorem down_step {o m : List Int} {j : Nat} {x d : Int} {r : Nat} (hr : r ≤ 63) (ho : j + 1 < o.length) (hm : j + 1 < m.length) (hx : x = m.getD (j + 1) 0) (hd : d = o.getD j 0)
    (hv : vb B64 (o.take (j + 1)) = vb B64 (m.take (j + 1)) / 2 ^ r) :
    vb B64 (((o.set (j + 1) (x / 2 ^ r)).set j (d + (x * 2 ^ (64 - r)) % 18446744073709551616)).take (j + 1 + 1)) = vb B64 (m.take (j + 1 + 1)) / 2 ^ r := by
  have hp := pow2_pos r
  have e0 : (o.set (j + 1) (x / 2 ^ r)).take j = o.take j := List.take_set_of_le (by omega)
  have e1 : ((o.set (j + 1) (x / 2 ^ r)).set j (d + (x * 2 ^ (64 - r)) % 18446744073709551616)).take j = o.take j := by
    rw [List.take_set_of_le (Nat.le_refl _), e0]
  have l1 : ((o.set (j + 1) (x / 2 ^ r)).set j (d + (x * 2 ^ (64 - r)) % 18446744073709551616)).length = o.length := by rw [List.length_set, List.length_set]
  rw [vb_take_succ B64 (by omega), vb_take_succ B64 (by omega), e1, getD_set_same (by rw [List.length_set]; omega), getD_set_other _ (by omega), getD_set_same (by omega)]
  rw [vb_take_succ B64 (l := m) hm, ← hx]
  rw [vb_take_succ B64 (l := o) (by omega), ← hd] at hv
  have hs := shr_shl x (64 - r) (by omega)
  rw [show 64 - (64 - r) = r by omega] at hs
  have hb : d + (x * 2 ^ (64 - r)) % 18446744073709551616 + B64 * (x / 2 ^ r) = d + x * 2 ^ (64 - r) := by
    rw [hs]; unfold B64; omega
  have e2 : vb B64 (o.take j) + B64 ^ j * (d + (x * 2 ^ (64 - r)) % 18446744073709551616) + B64 ^ (j + 1) * (x / 2 ^ r) = vb B64 (o.take j) + B64 ^ j * d + B64 ^ j * (x * 2 ^ (64 - r)) := by
    rw [Int.pow_succ, Int.mul_assoc, Int.add_assoc, ← Int.mul_add, hb, Int.mul_add]
    omega
  rw [e2, hv]
  have e3 : B64 ^ (j + 1) * x = (B64 ^ j * (x * 2 ^ (64 - r))) * 2 ^ r := by
    have h64 : (B64 : Int) = 2 ^ (64 - r) * 2 ^ r := pow2_split (by omega)
    rw [Int.pow_succ, Int.mul_assoc, Int.mul_assoc, Int.mul_assoc, ← h64, Int.mul_comm B64 x]
  rw [e3, Int.add_mul_ediv_right _ _ (by omega)]

/-- The words above the q-th. -/
theorem vb_drop_div {m : List Int} (h : Lim B64 m) (q : Nat) (hq : q ≤ m.length) : vb B64 (m.drop q) = vb B64 m / B64 ^ q := by
  have h1 := vb_split B64 m q hq
  have h2 := vb_lt B64_pos (h.take q)
  rw [List.length_take, Nat.min_eq_left hq] at h2
  have h3 := vb_nonneg B64_pos (h.take q)
  rw [h1, Int.add_mul_ediv_left _ _ (by have := pow_pos' B64_pos q; omega), Int.ediv_eq_zero_of_lt h3 h2]
  omega

set_option maxRecDepth 100000 in
set_option maxHeartbeats 4000000 in
theorem shiftDown_any (ao : Option Addr) (n cap : Nat) (l : List Int) (k : Nat) (w : World) (hn : n = l.length) (h1 : n ≤ cap) (h2 : cap ≤ 9223372036854775807) (h : Rd w ao l) (hl : Lim B64 l) (hk : k ≤ 16777216) (hM : n ≤ MaxW) :
    Calls Tryd.prog 58 #[.slice ao n cap, .int .i64 k] w fun e w' => RetNum w (vb B64 l / 2 ^ k) e w' := by
  have ht := tlen_le l
  have HT := Lib.hid (trim_any ao n cap l w hn h1 h2 h)
  obtain ⟨t, hte⟩ : ∃ t, t = tlen l := ⟨_, rfl⟩
  have htn : t ≤ n := by omega
  have htc : t ≤ cap := by omega
  rw [← hte] at HT
  have HTE := Lib.hid hte
  have hM2 := hM
  unfold MaxW at hM2
  clear hn ht
  obtain ⟨m, hm⟩ : ∃ m, m = tr l := ⟨_, rfl⟩
  have hml : m.length = t := by rw [hm, tr_length, hte]
  have hcan : Can B64 m := by rw [hm]; exact can_tr hl
  have hvm : vb B64 m = vb B64 l := by rw [hm, vb_tr]
  have hrd : Rd w ao m := by rw [hm]; exact h.take _
  have HML := Lib.hid hml
  have HVM := Lib.hid hvm
  obtain ⟨q, hq⟩ : ∃ q, q = k / 64 := ⟨_, rfl⟩
  obtain ⟨r, hr⟩ : ∃ r, r = k % 64 := ⟨_, rfl⟩
  have hq1 : ((k : Int)).tdiv 64 = (q : Int) := by rw [Int.tdiv_eq_ediv_of_nonneg (by omega)]; omega
  have hr1 : ((k : Int)).tmod 64 = (r : Int) := by rw [Int.tmod_eq_emod_of_nonneg (by omega)]; omega
  have hr63 : r ≤ 63 := by omega
  have hqb : q ≤ 262144 := by omega
  have hpow : (2 : Int) ^ k = B64 ^ q * 2 ^ r := by rw [hq, hr]; exact pow2_words k
  have HPOW := Lib.hid hpow
  have HQ := Lib.hid hq
  have HR := Lib.hid hr
  clear hq hr hpow hm hml hvm h hte
  by_cases h0 : t ≤ q
  · have hv : vb B64 l / 2 ^ k = 0 := by
      rw [← HVM.out]
      refine Int.ediv_eq_zero_of_lt (vb_nonneg B64_pos hcan.lim) ?_
      have h3 := vb_lt B64_pos hcan.lim
      rw [HML.out] at h3
      have h4 := pow_le_pow B64_pos h0
      rw [HPOW.out]
      have h5 := Int.mul_le_mul_of_nonneg_left (show (1 : Int) ≤ 2 ^ r from pow2_pos r) (Int.le_of_lt (pow_pos' B64_pos q))
      omega
    have HV := Lib.hid hv
    have hqt : (t : Int) ≤ (q : Int) := by omega
    clear hv
    go_enter Tryd.func58, Tryd.ntmps58
    go_wp2_with (go_at_call 68; refine HT.out.mono ?_; rintro e w' ⟨rfl, rfl⟩)
    go_ret
    exact ⟨_, [], rfl, Ow.nil _ _, Can.nil _, by rw [HV.out]; rfl, Below.refl _ _⟩
  · have hqt : ¬ (t : Int) ≤ (q : Int) := by omega
    have hqt2 : (q : Int) < (t : Int) := by omega
    obtain ⟨b, off, rfl, hat⟩ := hrd.cases (by intro e; have := HML.out; rw [e] at this; simp at this; omega)
    obtain ⟨u, hu⟩ : ∃ u, t - q = u := ⟨_, rfl⟩
    have huI : (t : Int) - (q : Int) = (u : Int) := by omega
    have huM : u ≤ MaxW := by unfold MaxW; omega
    have hu63 : u ≤ 17592186044416 := by omega
    have HU := Lib.hid hu
    clear hrd
    go_enter Tryd.func58, Tryd.ntmps58
    go_wp2_with (first
      | (go_at_call 68; refine HT.out.mono ?_; rintro e w' ⟨rfl, rfl⟩)
      | (at_make; refine wpList_make_words w rfl (.tmp 24) (.tmp 24) 28 rfl Tryd.underlying28 info_u64 _ _ u rfl rfl (by omega) (by omega) huM ?_; intro w1 hw1 hb1 hs1))
    obtain ⟨md, hmd⟩ : ∃ md, md = m.drop q := ⟨_, rfl⟩
    have hmdl : md.length = u := by rw [hmd, List.length_drop, HML.out, HU.out]
    have hlimd : Lim B64 md := by rw [hmd]; exact hcan.lim.drop q
    have hatd : At w b (off + q) md := by rw [hmd]; exact hat.drop q
    have hvd : vb B64 md / 2 ^ r = vb B64 l / 2 ^ k := by
      rw [hmd, vb_drop_div hcan.lim q (by rw [HML.out]; omega), HPOW.out, HVM.out, Int.ediv_ediv_of_nonneg (Int.le_of_lt (pow_pos' B64_pos q))]
    have HMDL := Lib.hid hmdl
    have HVD := Lib.hid hvd
    clear hmd hmdl hvd hat HVM HML HPOW HT
    go_loopw [28] (fun ii wr => ∃ (i : Nat) (o : List Int), i ≤ u ∧ ii = .int .i64 i ∧ Hid (o.length = u) ∧ Lim B64 o ∧ Arr wr w.heap.size 0 o ∧ Only w.heap.size 0 u w1 wr ∧ Hid (0 < i → o.getD (i - 1) 0 < 2 ^ (64 - r)) ∧ Hid (vb B64 (o.take i) = vb B64 (md.take i) / 2 ^ r))
      (fun ii _ => u - (intOf ii).toNat)
    case atStart => exact ⟨0, List.replicate u 0, Nat.zero_le _, rfl, by show _ = _; simp, Lim.replicate B64_pos u, hw1.arr.1, Only.refl _ _ _ _, fun h => absurd h (Nat.lt_irrefl _), by show _ = _; simp⟩
    case round =>
      obtain ⟨i, o, hi, rfl, HL, hlim, harr, honly, HC, HV⟩ := hrel
      by_cases hlt : i < u
      · have hbw : Below w.heap.size w wr := hb1.trans (honly.below (Nat.le_refl _) (by omega))
        obtain ⟨x, hxe⟩ : ∃ x, x = md.getD i 0 := ⟨_, rfl⟩
        have bx : 0 ≤ x ∧ x < B64 := by rw [hxe]; exact hlimd.getD B64_pos _
        have bx0 : 0 ≤ x := bx.1
        have bx1 : x ≤ 18446744073709551615 := by have := bx.2; unfold B64 at this; omega
        have hcx : wr.cell? ⟨b, off + q + i, none⟩ = some (.int .u64 x) := by rw [hxe]; exact hatd.below hbw i (by rw [HMDL.out]; exact hlt)
        obtain ⟨c0, hc0⟩ : ∃ c0, c0 = o.getD i 0 := ⟨_, rfl⟩
        have hci : wr.cell? ⟨w.heap.size, i, none⟩ = some (.int .u64 c0) := by
          rw [hc0]
          have := harr.at' i (by rw [HL.out]; exact hlt)
          rwa [Nat.zero_add] at this
        have hfr := harr.frozen i
        obtain ⟨z, hze⟩ : ∃ z, x / 2 ^ r = z := ⟨_, rfl⟩
        have hz0 : 0 ≤ z := by rw [← hze]; exact Int.ediv_nonneg bx0 (Int.le_of_lt (pow2_pos r))
        have hzx : z ≤ x := by rw [← hze]; exact Int.ediv_le_self _ bx0
        have hzB : z < 2 ^ (64 - r) := by
          rw [← hze]
          refine Int.ediv_lt_of_lt_mul (pow2_pos r) ?_
          rw [← pow2_split (show r ≤ 64 by omega)]
          omega
        have HZB := Lib.hid hzB
        have harr2 : Arr (wr.setCell ⟨w.heap.size, i, none⟩ (.int .u64 z)) w.heap.size 0 (o.set i z) := by
          have := harr.store i z
          rwa [Nat.zero_add] at this
        by_cases hi0 : 0 < i
        · obtain ⟨j, hj⟩ : ∃ j, i - 1 = j := ⟨_, rfl⟩
          have hjI : (i : Int) - 1 = (j : Int) := by omega
          have hju : j < u := by omega
          have hi1 : (0 : Int) < (i : Int) := by omega
          obtain ⟨d, hd⟩ : ∃ d, d = o.getD j 0 := ⟨_, rfl⟩
          have hd0 : 0 ≤ d := by rw [hd]; exact (hlim.getD B64_pos _).1
          have hdr : d < 2 ^ (64 - r) := by rw [hd, ← hj]; exact HC.out hi0
          obtain ⟨y, hy⟩ : ∃ y, y = d + (x * 2 ^ (64 - r)) % 18446744073709551616 := ⟨_, rfl⟩
          have hor : bits .or .u64 d (IntKind.u64.wrap (x * 2 ^ (64 - r))) = y := by rw [hy]; exact or_shl d x (64 - r) (by omega) hd0 hdr bx0
          have hy0 : 0 ≤ y := by
            rw [hy]
            have := Int.emod_nonneg (x * 2 ^ (64 - r)) (show (18446744073709551616 : Int) ≠ 0 by decide)
            omega
          have hy1 : y < B64 := by rw [← hor]; unfold B64; exact or_lt _ _
          have hcj : (wr.setCell ⟨w.heap.size, i, none⟩ (.int .u64 z)).cell? ⟨w.heap.size, j, none⟩ = some (.int .u64 d) := by
            have h7 := harr2.at' j (by rw [List.length_set, HL.out]; exact hju)
            rw [Nat.zero_add, getD_set_other _ (by omega), ← hd] at h7
            exact h7
          have hfj : (wr.setCell ⟨w.heap.size, i, none⟩ (.int .u64 z)).frozen? ⟨w.heap.size, j, none⟩ = false := harr2.frozen j
          have hij : i = j + 1 := by omega
          have hst := down_step (o := o) (m := md) (j := j) (x := x) (d := d) (r := r) hr63 (by rw [HL.out]; omega) (by rw [HMDL.out]; omega) (by rw [← hij]; exact hxe) hd (by rw [← hij]; exact HV.out)
          rw [hze, ← hy, ← hij] at hst
          have HST := Lib.hid hst
          have HIJ := Lib.hid hij
          clear hst hy hd hxe hc0 bx hij hj hdr hzB HV
          go_wp2_with fail
          go_region
          go_wp2_with fail
          go_roundw
          case rel =>
            have hij := HIJ.out
            have harr3 := harr2.store j y
            rw [Nat.zero_add] at harr3
            have hon3 : Only w.heap.size 0 u wr ((wr.setCell ⟨w.heap.size, i, none⟩ (.int .u64 z)).setCell ⟨w.heap.size, j, none⟩ (.int .u64 y)) := (Only.store i _ (by omega) (by omega)).trans (Only.store j _ (by omega) (by omega))
            refine ⟨i + 1, (o.set i z).set j y, by omega, by go_num, ?_, (hlim.set i hz0 (by unfold B64; omega)).set j hy0 hy1, harr3, (honly.trans hon3).trans (Only.of_below ((Below.refl _ _).drew)), ?_, HST.out⟩
            · show _ = _
              rw [List.length_set, List.length_set]; exact HL.out
            · intro _
              rw [Nat.add_sub_cancel, getD_set_other _ (by omega), getD_set_same (by rw [HL.out]; exact hlt)]
              exact HZB.out
          case measure => simp [intOf]; omega
        · have hiz : i = 0 := by omega
          subst hiz
          rw [Nat.add_zero] at hcx
          have hst := down_first (o := o) (m := md) (x := x) (r := 2 ^ r) (by rw [HL.out]; exact hlt) (by rw [HMDL.out]; exact hlt) hxe
          rw [hze] at hst
          have HST := Lib.hid hst
          clear hst hxe hc0 bx hzB HV hi0
          go_wp2_with fail
          go_roundw
          case rel =>
            refine ⟨0 + 1, o.set 0 z, by omega, by go_num, ?_, hlim.set 0 hz0 (by unfold B64; omega), harr2, honly.trans (Only.store 0 _ (by omega) (by omega)), ?_, HST.out⟩
            · show _ = _
              rw [List.length_set]; exact HL.out
            · intro _
              rw [Nat.add_sub_cancel, getD_set_same (by rw [HL.out]; exact hlt)]
              exact HZB.out
          case measure => simp [intOf]; omega
      · have hiu : i = u := by omega
        have hv : vb B64 o = vb B64 l / 2 ^ k := by
          have h8 := HV.out
          rw [List.take_of_length_le (l := o) (by rw [HL.out]; omega), List.take_of_length_le (l := md) (by rw [HMDL.out]; omega), HVD.out] at h8
          exact h8
        have HVO := Lib.hid hv
        have hOo : Ow w.heap.size wr (.slice (some ⟨w.heap.size, 0, none⟩) u u) o := hw1.only honly harr (by rw [HL.out, List.length_replicate])
        have hbw : Below w.heap.size w wr := hb1.trans (honly.below (Nat.le_refl _) (by omega))
        have hrdo : Rd wr (some ⟨w.heap.size, 0, none⟩) o := Rd.of_at harr.at'
        have htl := tlen_le o
        rw [HL.out] at htl
        clear hiu hv HV HC
        go_wp2_with (go_at_call 68; refine (trim_any (some ⟨w.heap.size, 0, none⟩) u u o _ HL.out.symm (Nat.le_refl _) (by omega) hrdo).mono ?_; rintro e w' ⟨rfl, rfl⟩)
        go_ret
        exact ⟨_, tr o, rfl, hOo.take (tlen o) htl, can_tr hlim, by rw [vb_tr]; exact HVO.out, hbw⟩


set_option maxRecDepth 100000 in
theorem shl_up (ao : Option Addr) (n cap : Nat) (l : List Int) (k : Nat) (w : World) (hn : n = l.length) (h1 : n ≤ cap) (h2 : cap ≤ 9223372036854775807) (h : Rd w ao l) (hl : Lim B64 l) (hk : k ≤ 16777216) (hM : n + 300000 ≤ MaxW) :
    Calls Tryd.prog 11 #[.slice ao n cap, .int .i64 k] w fun e w' => RetNum w (vb B64 l * 2 ^ k) e w' := by
  have HC := Lib.hid (shiftUp_any ao n cap l k w hn h1 h2 h hl hk hM)
  have e1 : ¬ (16777216 : Int) < k := by omega
  have e2 : ¬ (k : Int) < -16777216 := by omega
  have e3 : ¬ (k : Int) < 0 := by omega
  clear hn h hl hM hk
  go_enter Tryd.func11, Tryd.ntmps11
  go_wp2_with (go_at_call 59; refine HC.out.mono ?_; rintro e w' ⟨v, l', rfl, hO, hcan, hv, hb⟩)
  go_ret
  exact ⟨_, l', rfl, hO, hcan, hv, hb⟩

set_option maxRecDepth 100000 in
theorem shl_down (ao : Option Addr) (n cap : Nat) (l : List Int) (k : Nat) (w : World) (hn : n = l.length) (h1 : n ≤ cap) (h2 : cap ≤ 9223372036854775807) (h : Rd w ao l) (hl : Lim B64 l) (hk0 : 1 ≤ k) (hk : k ≤ 16777216) (hM : n ≤ MaxW) :
    Calls Tryd.prog 11 #[.slice ao n cap, .int .i64 (-(k : Int))] w fun e w' => RetNum w (vb B64 l / 2 ^ k) e w' := by
  have HC := Lib.hid (shiftDown_any ao n cap l k w hn h1 h2 h hl hk hM)
  have e1 : ¬ (16777216 : Int) < -(k : Int) := by omega
  have e2 : ¬ (-(k : Int)) < -16777216 := by omega
  have e3 : (-(k : Int)) < 0 := by omega
  have e4 : 0 < k := by omega
  have e5 : - -(k : Int) = (k : Int) := by omega
  clear hn h hl hM
  go_enter Tryd.func11, Tryd.ntmps11
  go_wp2_with (go_at_call 58; refine HC.out.mono ?_; rintro e w' ⟨v, l', rfl, hO, hcan, hv, hb⟩)
  go_ret
  exact ⟨_, l', rfl, hO, hcan, hv, hb⟩

set_option maxRecDepth 100000 in
theorem shr_any (ao : Option Addr) (n cap : Nat) (l : List Int) (k : Nat) (w : World) (hn : n = l.length) (h1 : n ≤ cap) (h2 : cap ≤ 9223372036854775807) (h : Rd w ao l) (hl : Lim B64 l) (hk : k ≤ 16777216) (hM : n + 300000 ≤ MaxW) :
    Calls Tryd.prog 12 #[.slice ao n cap, .int .i64 k] w fun e w' => RetNum w (vb B64 l / 2 ^ k) e w' := by
  by_cases hk0 : k = 0
  · subst hk0
    have HC := Lib.hid (shl_up ao n cap l 0 w hn h1 h2 h hl hk hM)
    clear hn h hl hM hk
    go_enter Tryd.func12, Tryd.ntmps12
    go_wp2_with (go_at_call 11; refine HC.out.mono ?_; rintro e w' ⟨v, l', rfl, hO, hcan, hv, hb⟩)
    go_ret
    exact ⟨_, l', rfl, hO, hcan, by rw [hv]; simp, hb⟩
  · have HC := Lib.hid (shl_down ao n cap l k w hn h1 h2 h hl (by omega) hk (by omega))
    have e1 : IntKind.i64.wrap (-(k : Int)) = -(k : Int) := by rw [IntKind.wrap_i64]; omega
    clear hn h hl hM
    go_enter Tryd.func12, Tryd.ntmps12
    go_wp2_with (go_at_call 11; refine HC.out.mono ?_; rintro e w' ⟨v, l', rfl, hO, hcan, hv, hb⟩)
    go_ret
    exact ⟨_, l', rfl, hO, hcan, hv, hb⟩

end Go.Proofs.YtbieldebkfkpkaaDoor
