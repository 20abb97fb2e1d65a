/-
  Contracts of nat.shiftUp and nat.shiftDown, and the arithmetic of words that are shifted.
-/
import Derived.Test.YtfhknnmffppfgaaDoorNat1
import Derived.Test.YtfhknnmffppfgaaDoorBits
import Derived.Test.YtfhknnmffppfgaaDoorChunks
namespace Go.Proofs.YtfhknnmffppfgaaDoor
open Go.RowKit

theorem pow2_split {r : Nat} (hr : r ≤ 64) : (18446744073709551616 : Int) = 2 ^ (64 - r) * 2 ^ r := by
  rw [← Int.pow_add, show 64 - r + r = 64 by omega]; rfl
theorem pow2_pos (r : Nat) : (0 : Int) < 2 ^ r := Int.pow_pos (by decide)
theorem or_comm64 (a b : Int) (ha : 0 ≤ a) (ha2 : a < 18446744073709551616) (hb : 0 ≤ b) (hb2 : b < 18446744073709551616) : bits .or .u64 a b = bits .or .u64 b a := by
  obtain ⟨a, rfl⟩ := Int.eq_ofNat_of_zero_le ha
  obtain ⟨b, rfl⟩ := Int.eq_ofNat_of_zero_le hb
  rw [bits_or_u64_nat _ _ (by omega) (by omega), bits_or_u64_nat _ _ (by omega) (by omega), Nat.or_comm]

/-- A word that is shifted up is laid over a word below the shift. -/
theorem or_shl (c x : Int) (r : Nat) (hr : r ≤ 64) (hc : 0 ≤ c) (hcr : c < 2 ^ r) (_hx : 0 ≤ x) : bits .or .u64 c (IntKind.u64.wrap (x * 2 ^ r)) = c + (x * 2 ^ r) % 18446744073709551616 := by
  have hp := pow2_pos r
  have e : (x * 2 ^ r) % 18446744073709551616 = (x % 2 ^ (64 - r)) * 2 ^ r := by
    rw [pow2_split hr, Int.mul_comm x, Int.mul_comm (2 ^ (64 - r)), Int.mul_emod_mul_of_pos _ _ hp, Int.mul_comm]
  have h0 : 0 ≤ x % 2 ^ (64 - r) := Int.emod_nonneg _ (by have := pow2_pos (64 - r); omega)
  have h1 : x % 2 ^ (64 - r) < 2 ^ (64 - r) := Int.emod_lt_of_pos _ (pow2_pos _)
  have h2 : (x % 2 ^ (64 - r)) * 2 ^ r + 2 ^ r ≤ 18446744073709551616 := by
    have h3 : (x % 2 ^ (64 - r) + 1) * 2 ^ r ≤ 2 ^ (64 - r) * 2 ^ r := Int.mul_le_mul_of_nonneg_right (by omega) (Int.le_of_lt hp)
    rw [← pow2_split hr, Int.add_mul, Int.one_mul] at h3
    exact h3
  have h4 : 0 ≤ (x % 2 ^ (64 - r)) * 2 ^ r := Int.mul_nonneg h0 (Int.le_of_lt hp)
  have e2 : IntKind.u64.wrap (x * 2 ^ r) = (x % 2 ^ (64 - r)) * 2 ^ r := by rw [IntKind.wrap_u64, e]
  rw [e2, or_comm64 _ _ hc (by omega) h4 (by omega), or_parts _ _ r h0 hc hcr (by omega), e, Int.add_comm]

/-- What a shift down by the rest takes. -/
theorem shr_shl (x : Int) (r : Nat) (hr : r ≤ 64) : x / 2 ^ (64 - r) = (x * 2 ^ r) / 18446744073709551616 := by
  rw [pow2_split hr, Int.mul_ediv_mul_of_pos_left _ _ (pow2_pos r)]

theorem up_step {o m : List Int} {q i : Nat} {x c P : Int} (hi : i < m.length) (hx : x = m.getD i 0) (hp : q + i + 1 < o.length) (hc : o.getD (q + i) 0 = c) (hz : o.getD (q + i + 1) 0 = 0)
    (hv : vb B64 o = B64 ^ q * (P * vb B64 (m.take i))) :
    vb B64 ((o.set (q + i) (c + (x * P) % 18446744073709551616)).set (q + i + 1) (x * P / 18446744073709551616)) = B64 ^ q * (P * vb B64 (m.take (i + 1))) := by
  rw [vb_set _ _ _ _ (by rw [List.length_set]; exact hp), vb_set _ _ _ _ (by omega), getD_set_other _ (by omega), hc, hz, hv, vb_take_succ B64 hi, ← hx, Int.pow_succ, Int.mul_assoc, Int.add_assoc, ← Int.mul_add]
  have e : c + x * P % 18446744073709551616 - c + B64 * (x * P / 18446744073709551616 - 0) = x * P := by unfold B64; omega
  rw [e, Int.mul_add, Int.mul_add, Int.pow_add]
  have e2 : B64 ^ q * (P * (B64 ^ i * x)) = B64 ^ q * B64 ^ i * (x * P) := by
    rw [Int.mul_assoc, Int.mul_comm P, Int.mul_assoc]
  rw [e2]

theorem pow2_words (k : Nat) : (2 : Int) ^ k = B64 ^ (k / 64) * 2 ^ (k % 64) := by
  have e : B64 ^ (k / 64) = 2 ^ (64 * (k / 64)) := by
    rw [Int.pow_mul]; rfl
  rw [e, ← Int.pow_add]
  congr 1
  omega

theorem getD_rep (n j : Nat) : (List.replicate n (0 : Int)).getD j 0 = 0 := by
  rw [List.getD_eq_getElem?_getD, List.getElem?_replicate]
  split <;> rfl
theorem or_lt (c x : Int) : bits .or .u64 c (IntKind.u64.wrap x) < 18446744073709551616 := by
  show IntKind.u64.wrap _ < _
  rw [IntKind.wrap_u64]
  omega

theorem tlen_zero_vb {l : List Int} (h : tlen l = 0) : vb B64 l = 0 := by
  rw [← vb_tr, tr, h]; rfl

set_option maxRecDepth 100000 in
set_option maxHeartbeats 4000000 in
theorem shiftUp_any (ao : Option Addr) (n cap : Nat) (l : List Int) (k : Nat) (w : World) (hn : n = l.length) (h1 : n ≤ cap) (h2 : cap ≤ 9223372036854775807) (h : Rd w ao l) (hl : Lim B64 l) (hk : k ≤ 16777216) (hM : n + 300000 ≤ MaxW) :
    Calls Tryd.prog 68 #[.slice ao n cap, .int .i64 k] w fun e w' => RetNum w (vb B64 l * 2 ^ k) e w' := by
  have ht := tlen_le l
  have HT := Lib.hid (trim_any ao n cap l w hn h1 h2 h)
  obtain ⟨t, hte⟩ : ∃ t, t = tlen l := ⟨_, rfl⟩
  have htn : t ≤ n := by omega
  have htc : t ≤ cap := by omega
  rw [← hte] at HT
  have HTE := Lib.hid hte
  have hM2 := hM
  unfold MaxW at hM2
  clear hn ht
  by_cases h0 : t = 0
  · have hz : ((t : Int) == 0) = true := by rw [h0]; rfl
    have hv : vb B64 l = 0 := tlen_zero_vb (by rw [← HTE.out, h0])
    have HV := Lib.hid hv
    clear hv hte h0
    go_enter Tryd.func68, Tryd.ntmps68
    go_wp2_with (go_at_call 64; refine HT.out.mono ?_; rintro e w' ⟨rfl, rfl⟩)
    go_ret
    exact ⟨_, [], rfl, Ow.nil _ _, Can.nil _, by rw [HV.out]; simp, Below.refl _ _⟩
  · have hz : ((t : Int) == 0) = false := by rw [beq_eq_false_iff_ne]; omega
    obtain ⟨m, hm⟩ : ∃ m, m = tr l := ⟨_, rfl⟩
    have hml : m.length = t := by rw [hm, tr_length, hte]
    have hcan : Can B64 m := by rw [hm]; exact can_tr hl
    have hvm : vb B64 m = vb B64 l := by rw [hm, vb_tr]
    have hrd : Rd w ao m := by rw [hm]; exact h.take _
    have HML := Lib.hid hml
    have HVM := Lib.hid hvm
    obtain ⟨b, off, rfl, hat⟩ := hrd.cases (by intro e; rw [e] at hml; simp at hml; omega)
    obtain ⟨q, hq⟩ : ∃ q, q = k / 64 := ⟨_, rfl⟩
    obtain ⟨r, hr⟩ : ∃ r, r = k % 64 := ⟨_, rfl⟩
    have hq1 : ((k : Int)).tdiv 64 = (q : Int) := by rw [Int.tdiv_eq_ediv_of_nonneg (by omega)]; omega
    have hr1 : ((k : Int)).tmod 64 = (r : Int) := by rw [Int.tmod_eq_emod_of_nonneg (by omega)]; omega
    have hr63 : r ≤ 63 := by omega
    have hqb : q ≤ 262144 := by omega
    have hpow : (2 : Int) ^ k = B64 ^ q * 2 ^ r := by rw [hq, hr]; exact pow2_words k
    have HPOW := Lib.hid hpow
    obtain ⟨N, hN⟩ : ∃ N, q + t + 1 = N := ⟨_, rfl⟩
    have hNI : (q : Int) + (t : Int) + 1 = (N : Int) := by omega
    have hNM : N ≤ MaxW := by omega
    have hN63 : N ≤ 17592186344416 := by omega
    have HQ := Lib.hid hq
    have HR := Lib.hid hr
    have HN := Lib.hid hN
    clear hq hr hpow hN hm hml hvm hrd h hte
    go_enter Tryd.func68, Tryd.ntmps68
    go_wp2_with (first
      | (go_at_call 64; refine HT.out.mono ?_; rintro e w' ⟨rfl, rfl⟩)
      | (at_make; refine wpList_make_words w rfl (.tmp 23) (.tmp 23) 25 rfl Tryd.underlying25 info_u64 _ _ N rfl rfl (by omega) (by omega) hNM ?_; intro w1 hw1 hb1 hs1))
    go_loopw [27] (fun ii wr => ∃ (i : Nat) (o : List Int), i ≤ t ∧ ii = .int .i64 i ∧ Hid (o.length = N) ∧ Lim B64 o ∧ Arr wr w.heap.size 0 o ∧ Only w.heap.size 0 N w1 wr ∧ Hid (o.getD (q + i) 0 < 2 ^ r) ∧ Hid (∀ j, q + i < j → o.getD j 0 = 0) ∧ Hid (vb B64 o = B64 ^ q * (2 ^ r * vb B64 (m.take i))))
      (fun ii _ => t - (intOf ii).toNat)
    case atStart => exact ⟨0, List.replicate N 0, Nat.zero_le _, rfl, by show _ = _; simp, Lim.replicate B64_pos N, hw1.arr.1, Only.refl _ _ _ _, by rw [getD_rep]; exact pow2_pos r, fun j _ => getD_rep N j, by show _ = _; rw [vb_replicate]; simp⟩
    case round =>
      obtain ⟨i, o, hi, rfl, HL, hlim, harr, honly, HC, HZ, HV⟩ := hrel
      by_cases hlt : i < t
      · have hbw : Below w.heap.size w wr := hb1.trans (honly.below (Nat.le_refl _) (by omega))
        obtain ⟨x, hxe⟩ : ∃ x, x = m.getD i 0 := ⟨_, rfl⟩
        have bx : 0 ≤ x ∧ x < B64 := by rw [hxe]; exact hcan.lim.getD B64_pos _
        have bx0 : 0 ≤ x := bx.1
        have bx1 : x ≤ 18446744073709551615 := by have := bx.2; unfold B64 at this; omega
        have hcx : wr.cell? ⟨b, off + i, none⟩ = some (.int .u64 x) := by rw [hxe]; exact hat.below hbw i (by rw [HML.out]; exact hlt)
        obtain ⟨p, hp⟩ : ∃ p, q + i = p := ⟨_, rfl⟩
        have hNo := HN.out
        have hpN : p + 1 < N := by omega
        have hpN2 : p < N := by omega
        have hpI : (q : Int) + (i : Int) = (p : Int) := by omega
        obtain ⟨c, hce⟩ : ∃ c, c = o.getD p 0 := ⟨_, rfl⟩
        have bc : 0 ≤ c := by rw [hce]; exact (hlim.getD B64_pos _).1
        have bcr : c < 2 ^ r := by rw [hce, ← hp]; exact HC.out
        have hco : wr.cell? ⟨w.heap.size, p, none⟩ = some (.int .u64 c) := by
          rw [hce]
          have := harr.at' p (by rw [HL.out]; exact hpN2)
          rwa [Nat.zero_add] at this
        have hfr := harr.frozen p
        obtain ⟨y, hy⟩ : ∃ y, y = c + (x * 2 ^ r) % 18446744073709551616 := ⟨_, rfl⟩
        have hor : bits .or .u64 c (IntKind.u64.wrap (x * 2 ^ r)) = y := by rw [hy]; exact or_shl c x r (by omega) bc bcr bx0
        obtain ⟨z, hze⟩ : ∃ z, z = x * 2 ^ r / 18446744073709551616 := ⟨_, rfl⟩
        have hsh : x / 2 ^ (64 - r) = z := by rw [hze]; exact shr_shl x r (by omega)
        have hzr : z < 2 ^ r := by
          rw [hze]
          refine Int.ediv_lt_of_lt_mul (by decide) ?_
          rw [Int.mul_comm]
          have := Int.mul_lt_mul_of_pos_left (show x < 18446744073709551616 by omega) (pow2_pos r)
          exact this
        have hz0 : 0 ≤ z := by rw [hze]; exact Int.ediv_nonneg (Int.mul_nonneg bx0 (Int.le_of_lt (pow2_pos r))) (by decide)
        have hr64 : (2 : Int) ^ r ≤ 18446744073709551616 := by
          rw [pow2_split (show r ≤ 64 by omega)]
          have h5 := Int.mul_le_mul_of_nonneg_right (show (1 : Int) ≤ 2 ^ (64 - r) from pow2_pos _) (Int.le_of_lt (pow2_pos r))
          omega
        have hy01 : 0 ≤ y ∧ y < B64 := by
          rw [← hor]
          unfold B64
          have hw0 := or_shl c x r (by omega) bc bcr bx0
          rw [hw0]
          have h6 : 0 ≤ (x * 2 ^ r) % 18446744073709551616 := Int.emod_nonneg _ (by decide)
          refine ⟨by omega, ?_⟩
          rw [← hw0]
          exact or_lt c (x * 2 ^ r)
        have hst := up_step (o := o) (m := m) (q := q) (i := i) (x := x) (c := c) (P := 2 ^ r) (by rw [HML.out]; exact hlt) hxe (by rw [HL.out, hp]; exact hpN) (by rw [hp]; exact hce.symm) (HZ.out _ (by omega)) HV.out
        rw [← hy, ← hze, hp] at hst
        have HST := Lib.hid hst
        have HZR := Lib.hid hzr
        have HY := Lib.hid hy01
        have HP := Lib.hid hp
        clear hst hzr hy hze hxe hce bx hp hNo hr64 hy01
        go_wp2_with fail
        go_region
        have harr2 : Arr (wr.setCell ⟨w.heap.size, p, none⟩ (.int .u64 y)) w.heap.size 0 (o.set p y) := by
          have := harr.store p y
          rwa [Nat.zero_add] at this
        have hcp1 : (wr.setCell ⟨w.heap.size, p, none⟩ (.int .u64 y)).cell? ⟨w.heap.size, p + 1, none⟩ = some (.int .u64 0) := by
          have h7 := harr2.at' (p + 1) (by rw [List.length_set, HL.out]; exact hpN)
          rw [Nat.zero_add, getD_set_other _ (by omega), HZ.out (p + 1) (by have := HP.out; omega)] at h7
          exact h7
        have hfp1 : (wr.setCell ⟨w.heap.size, p, none⟩ (.int .u64 y)).frozen? ⟨w.heap.size, p + 1, none⟩ = false := harr2.frozen (p + 1)
        go_wp2_with fail
        go_roundw
        case rel =>
          have hp' := HP.out
          have harr3 := harr2.store (p + 1) z
          rw [Nat.zero_add] at harr3
          have hon3 : Only w.heap.size 0 N wr ((wr.setCell ⟨w.heap.size, p, none⟩ (.int .u64 y)).setCell ⟨w.heap.size, p + 1, none⟩ (.int .u64 z)) := (Only.store p _ (by omega) (by omega)).trans (Only.store (p + 1) _ (by omega) (by omega))
          refine ⟨i + 1, (o.set p y).set (p + 1) z, by omega, by go_num, ?_, (hlim.set p HY.out.1 HY.out.2).set (p + 1) hz0 ?_, harr3, (honly.trans hon3).trans (Only.of_below ((Below.refl _ _).drew)), ?_, ?_, HST.out⟩
          · show _ = _
            rw [List.length_set, List.length_set]; exact HL.out
          · have h8 := HZR.out
            have h9 : (2 : Int) ^ r ≤ B64 := by
              unfold B64
              rw [pow2_split (show r ≤ 64 by omega)]
              have h5 := Int.mul_le_mul_of_nonneg_right (show (1 : Int) ≤ 2 ^ (64 - r) from pow2_pos _) (Int.le_of_lt (pow2_pos r))
              omega
            omega
          · show _ < _
            rw [show q + (i + 1) = p + 1 by omega, getD_set_same (by rw [List.length_set, HL.out]; exact hpN)]
            exact HZR.out
          · intro j hj
            rw [getD_set_other _ (by omega), getD_set_other _ (by omega)]
            exact HZ.out j (by omega)
        case measure => simp [intOf]; omega
      · have hit : i = m.length := by rw [HML.out]; omega
        have hv : vb B64 o = vb B64 l * 2 ^ k := by
          have h8 := HV.out
          rw [hit, List.take_length, HVM.out, ← Int.mul_assoc, ← HPOW.out, Int.mul_comm] at h8
          exact h8
        have HVO := Lib.hid hv
        have hOo : Ow w.heap.size wr (.slice (some ⟨w.heap.size, 0, none⟩) N N) o := hw1.only honly harr (by rw [HL.out, List.length_replicate])
        have hbw : Below w.heap.size w wr := hb1.trans (honly.below (Nat.le_refl _) (by omega))
        have hrd : Rd wr (some ⟨w.heap.size, 0, none⟩) o := Rd.of_at harr.at'
        have htl := tlen_le o
        rw [HL.out] at htl
        clear hit hv HV HZ HC
        go_wp2_with (go_at_call 64; refine (trim_any (some ⟨w.heap.size, 0, none⟩) N N o _ HL.out.symm (Nat.le_refl _) (by omega) hrd).mono ?_; rintro e w' ⟨rfl, rfl⟩)
        go_ret
        exact ⟨_, tr o, rfl, hOo.take (tlen o) htl, can_tr hlim, by rw [vb_tr]; exact HVO.out, hbw⟩
end Go.Proofs.YtfhknnmffppfgaaDoor
