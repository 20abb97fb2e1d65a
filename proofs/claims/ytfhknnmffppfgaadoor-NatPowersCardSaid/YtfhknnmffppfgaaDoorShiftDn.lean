/-
  Contract of nat.shiftDown.
-/
import Derived.Test.YtfhknnmffppfgaaDoorShift
namespace Go.Proofs.YtfhknnmffppfgaaDoor
open Go.RowKit

theorem down_first {o m : List Int} {x r : Int} (ho : 0 < o.length) (hm : 0 < m.length) (hx : x = m.getD 0 0) :
    vb B64 ((o.set 0 (x / r)).take (0 + 1)) = vb B64 (m.take (0 + 1)) / r := by
  rw [vb_take_succ B64 hm, vb_take_succ B64 (by rw [List.length_set]; exact ho), getD_set_same ho, ← hx]
  simp

theorem down_step {o m : List Int} {j : Nat} {x d : Int} {r : Nat} (hr : r ≤ 63) (ho : j + 1 < o.length) (hm : j + 1 < m.length) (hx : x = m.getD (j + 1) 0) (hd : d = o.getD j 0)
    (hv : vb B64 (o.take (j + 1)) = vb B64 (m.take (j + 1)) / 2 ^ r) :
    vb B64 (((o.set (j + 1) (x / 2 ^ r)).set j (d + (x * 2 ^ (64 - r)) % 18446744073709551616)).take (j + 1 + 1)) = vb B64 (m.take (j + 1 + 1)) / 2 ^ r := by
  have hp := pow2_pos r
  have e0 : (o.set (j + 1) (x / 2 ^ r)).take j = o.take j := List.take_set_of_le (by omega)
  have e1 : ((o.set (j + 1) (x / 2 ^ r)).set j (d + (x * 2 ^ (64 - r)) % 18446744073709551616)).take j = o.take j := by
    rw [List.take_set_of_le (Nat.le_refl _), e0]
  have l1 : ((o.set (j + 1) (x / 2 ^ r)).set j (d + (x * 2 ^ (64 - r)) % 18446744073709551616)).length = o.length := by rw [List.length_set, List.length_set]
  rw [vb_take_succ B64 (by omega), vb_take_succ B64 (by omega), e1, getD_set_same (by rw [List.length_set]; omega), getD_set_other _ (by omega), getD_set_same (by omega)]
  rw [vb_take_succ B64 (l := m) hm, ← hx]
  rw [vb_take_succ B64 (l := o) (by omega), ← hd] at hv
  have hs := shr_shl x (64 - r) (by omega)
  rw [show 64 - (64 - r) = r by omega] at hs
  have hb : d + (x * 2 ^ (64 - r)) % 18446744073709551616 + B64 * (x / 2 ^ r) = d + x * 2 ^ (64 - r) := by
    rw [hs]; unfold B64; omega
  have e2 : vb B64 (o.take j) + B64 ^ j * (d + (x * 2 ^ (64 - r)) % 18446744073709551616) + B64 ^ (j + 1) * (x / 2 ^ r) = vb B64 (o.take j) + B64 ^ j * d + B64 ^ j * (x * 2 ^ (64 - r)) := by
    rw [Int.pow_succ, Int.mul_assoc, Int.add_assoc, ← Int.mul_add, hb, Int.mul_add]
    omega
  rw [e2, hv]
  have e3 : B64 ^ (j + 1) * x = (B64 ^ j * (x * 2 ^ (64 - r))) * 2 ^ r := by
    have h64 : (B64 : Int) = 2 ^ (64 - r) * 2 ^ r := pow2_split (by omega)
    rw [Int.pow_succ, Int.mul_assoc, Int.mul_assoc, Int.mul_assoc, ← h64, Int.mul_comm B64 x]
  rw [e3, Int.add_mul_ediv_right _ _ (by omega)]

/-- The words above the q-th. -/
theorem vb_drop_div {m : List Int} (h : Lim B64 m) (q : Nat) (hq : q ≤ m.length) : vb B64 (m.drop q) = vb B64 m / B64 ^ q := by
  have h1 := vb_split B64 m q hq
  have h2 := vb_lt B64_pos (h.take q)
  rw [List.length_take, Nat.min_eq_left hq] at h2
  have h3 := vb_nonneg B64_pos (h.take q)
  rw [h1, Int.add_mul_ediv_left _ _ (by have := pow_pos' B64_pos q; omega), Int.ediv_eq_zero_of_lt h3 h2]
  omega

set_option maxRecDepth 100000 in
set_option maxHeartbeats 4000000 in
theorem shiftDown_any (ao : Option Addr) (n cap : Nat) (l : List Int) (k : Nat) (w : World) (hn : n = l.length) (h1 : n ≤ cap) (h2 : cap ≤ 9223372036854775807) (h : Rd w ao l) (hl : Lim B64 l) (hk : k ≤ 16777216) (hM : n ≤ MaxW) :
    Calls Tryd.prog 69 #[.slice ao n cap, .int .i64 k] w fun e w' => RetNum w (vb B64 l / 2 ^ k) e w' := by
  have ht := tlen_le l
  have HT := Lib.hid (trim_any ao n cap l w hn h1 h2 h)
  obtain ⟨t, hte⟩ : ∃ t, t = tlen l := ⟨_, rfl⟩
  have htn : t ≤ n := by omega
  have htc : t ≤ cap := by omega
  rw [← hte] at HT
  have HTE := Lib.hid hte
  have hM2 := hM
  unfold MaxW at hM2
  clear hn ht
  obtain ⟨m, hm⟩ : ∃ m, m = tr l := ⟨_, rfl⟩
  have hml : m.length = t := by rw [hm, tr_length, hte]
  have hcan : Can B64 m := by rw [hm]; exact can_tr hl
  have hvm : vb B64 m = vb B64 l := by rw [hm, vb_tr]
  have hrd : Rd w ao m := by rw [hm]; exact h.take _
  have HML := Lib.hid hml
  have HVM := Lib.hid hvm
  obtain ⟨q, hq⟩ : ∃ q, q = k / 64 := ⟨_, rfl⟩
  obtain ⟨r, hr⟩ : ∃ r, r = k % 64 := ⟨_, rfl⟩
  have hq1 : ((k : Int)).tdiv 64 = (q : Int) := by rw [Int.tdiv_eq_ediv_of_nonneg (by omega)]; omega
  have hr1 : ((k : Int)).tmod 64 = (r : Int) := by rw [Int.tmod_eq_emod_of_nonneg (by omega)]; omega
  have hr63 : r ≤ 63 := by omega
  have hqb : q ≤ 262144 := by omega
  have hpow : (2 : Int) ^ k = B64 ^ q * 2 ^ r := by rw [hq, hr]; exact pow2_words k
  have HPOW := Lib.hid hpow
  have HQ := Lib.hid hq
  have HR := Lib.hid hr
  clear hq hr hpow hm hml hvm h hte
  by_cases h0 : t ≤ q
  · have hv : vb B64 l / 2 ^ k = 0 := by
      rw [← HVM.out]
      refine Int.ediv_eq_zero_of_lt (vb_nonneg B64_pos hcan.lim) ?_
      have h3 := vb_lt B64_pos hcan.lim
      rw [HML.out] at h3
      have h4 := pow_le_pow B64_pos h0
      rw [HPOW.out]
      have h5 := Int.mul_le_mul_of_nonneg_left (show (1 : Int) ≤ 2 ^ r from pow2_pos r) (Int.le_of_lt (pow_pos' B64_pos q))
      omega
    have HV := Lib.hid hv
    have hqt : (t : Int) ≤ (q : Int) := by omega
    clear hv
    go_enter Tryd.func69, Tryd.ntmps69
    go_wp2_with (go_at_call 64; refine HT.out.mono ?_; rintro e w' ⟨rfl, rfl⟩)
    go_ret
    exact ⟨_, [], rfl, Ow.nil _ _, Can.nil _, by rw [HV.out]; rfl, Below.refl _ _⟩
  · have hqt : ¬ (t : Int) ≤ (q : Int) := by omega
    have hqt2 : (q : Int) < (t : Int) := by omega
    obtain ⟨b, off, rfl, hat⟩ := hrd.cases (by intro e; have := HML.out; rw [e] at this; simp at this; omega)
    obtain ⟨u, hu⟩ : ∃ u, t - q = u := ⟨_, rfl⟩
    have huI : (t : Int) - (q : Int) = (u : Int) := by omega
    have huM : u ≤ MaxW := by unfold MaxW; omega
    have hu63 : u ≤ 17592186044416 := by omega
    have HU := Lib.hid hu
    clear hrd
    go_enter Tryd.func69, Tryd.ntmps69
    go_wp2_with (first
      | (go_at_call 64; refine HT.out.mono ?_; rintro e w' ⟨rfl, rfl⟩)
      | (at_make; refine wpList_make_words w rfl (.tmp 24) (.tmp 24) 25 rfl Tryd.underlying25 info_u64 _ _ u rfl rfl (by omega) (by omega) huM ?_; intro w1 hw1 hb1 hs1))
    obtain ⟨md, hmd⟩ : ∃ md, md = m.drop q := ⟨_, rfl⟩
    have hmdl : md.length = u := by rw [hmd, List.length_drop, HML.out, HU.out]
    have hlimd : Lim B64 md := by rw [hmd]; exact hcan.lim.drop q
    have hatd : At w b (off + q) md := by rw [hmd]; exact hat.drop q
    have hvd : vb B64 md / 2 ^ r = vb B64 l / 2 ^ k := by
      rw [hmd, vb_drop_div hcan.lim q (by rw [HML.out]; omega), HPOW.out, HVM.out, Int.ediv_ediv_of_nonneg (Int.le_of_lt (pow_pos' B64_pos q))]
    have HMDL := Lib.hid hmdl
    have HVD := Lib.hid hvd
    clear hmd hmdl hvd hat HVM HML HPOW HT
    go_loopw [28] (fun ii wr => ∃ (i : Nat) (o : List Int), i ≤ u ∧ ii = .int .i64 i ∧ Hid (o.length = u) ∧ Lim B64 o ∧ Arr wr w.heap.size 0 o ∧ Only w.heap.size 0 u w1 wr ∧ Hid (0 < i → o.getD (i - 1) 0 < 2 ^ (64 - r)) ∧ Hid (vb B64 (o.take i) = vb B64 (md.take i) / 2 ^ r))
      (fun ii _ => u - (intOf ii).toNat)
    case atStart => exact ⟨0, List.replicate u 0, Nat.zero_le _, rfl, by show _ = _; simp, Lim.replicate B64_pos u, hw1.arr.1, Only.refl _ _ _ _, fun h => absurd h (Nat.lt_irrefl _), by show _ = _; simp⟩
    case round =>
      obtain ⟨i, o, hi, rfl, HL, hlim, harr, honly, HC, HV⟩ := hrel
      by_cases hlt : i < u
      · have hbw : Below w.heap.size w wr := hb1.trans (honly.below (Nat.le_refl _) (by omega))
        obtain ⟨x, hxe⟩ : ∃ x, x = md.getD i 0 := ⟨_, rfl⟩
        have bx : 0 ≤ x ∧ x < B64 := by rw [hxe]; exact hlimd.getD B64_pos _
        have bx0 : 0 ≤ x := bx.1
        have bx1 : x ≤ 18446744073709551615 := by have := bx.2; unfold B64 at this; omega
        have hcx : wr.cell? ⟨b, off + q + i, none⟩ = some (.int .u64 x) := by rw [hxe]; exact hatd.below hbw i (by rw [HMDL.out]; exact hlt)
        obtain ⟨c0, hc0⟩ : ∃ c0, c0 = o.getD i 0 := ⟨_, rfl⟩
        have hci : wr.cell? ⟨w.heap.size, i, none⟩ = some (.int .u64 c0) := by
          rw [hc0]
          have := harr.at' i (by rw [HL.out]; exact hlt)
          rwa [Nat.zero_add] at this
        have hfr := harr.frozen i
        obtain ⟨z, hze⟩ : ∃ z, x / 2 ^ r = z := ⟨_, rfl⟩
        have hz0 : 0 ≤ z := by rw [← hze]; exact Int.ediv_nonneg bx0 (Int.le_of_lt (pow2_pos r))
        have hzx : z ≤ x := by rw [← hze]; exact Int.ediv_le_self _ bx0
        have hzB : z < 2 ^ (64 - r) := by
          rw [← hze]
          refine Int.ediv_lt_of_lt_mul (pow2_pos r) ?_
          rw [← pow2_split (show r ≤ 64 by omega)]
          omega
        have HZB := Lib.hid hzB
        have harr2 : Arr (wr.setCell ⟨w.heap.size, i, none⟩ (.int .u64 z)) w.heap.size 0 (o.set i z) := by
          have := harr.store i z
          rwa [Nat.zero_add] at this
        by_cases hi0 : 0 < i
        · obtain ⟨j, hj⟩ : ∃ j, i - 1 = j := ⟨_, rfl⟩
          have hjI : (i : Int) - 1 = (j : Int) := by omega
          have hju : j < u := by omega
          have hi1 : (0 : Int) < (i : Int) := by omega
          obtain ⟨d, hd⟩ : ∃ d, d = o.getD j 0 := ⟨_, rfl⟩
          have hd0 : 0 ≤ d := by rw [hd]; exact (hlim.getD B64_pos _).1
          have hdr : d < 2 ^ (64 - r) := by rw [hd, ← hj]; exact HC.out hi0
          obtain ⟨y, hy⟩ : ∃ y, y = d + (x * 2 ^ (64 - r)) % 18446744073709551616 := ⟨_, rfl⟩
          have hor : bits .or .u64 d (IntKind.u64.wrap (x * 2 ^ (64 - r))) = y := by rw [hy]; exact or_shl d x (64 - r) (by omega) hd0 hdr bx0
          have hy0 : 0 ≤ y := by
            rw [hy]
            have := Int.emod_nonneg (x * 2 ^ (64 - r)) (show (18446744073709551616 : Int) ≠ 0 by decide)
            omega
          have hy1 : y < B64 := by rw [← hor]; unfold B64; exact or_lt _ _
          have hcj : (wr.setCell ⟨w.heap.size, i, none⟩ (.int .u64 z)).cell? ⟨w.heap.size, j, none⟩ = some (.int .u64 d) := by
            have h7 := harr2.at' j (by rw [List.length_set, HL.out]; exact hju)
            rw [Nat.zero_add, getD_set_other _ (by omega), ← hd] at h7
            exact h7
          have hfj : (wr.setCell ⟨w.heap.size, i, none⟩ (.int .u64 z)).frozen? ⟨w.heap.size, j, none⟩ = false := harr2.frozen j
          have hij : i = j + 1 := by omega
          have hst := down_step (o := o) (m := md) (j := j) (x := x) (d := d) (r := r) hr63 (by rw [HL.out]; omega) (by rw [HMDL.out]; omega) (by rw [← hij]; exact hxe) hd (by rw [← hij]; exact HV.out)
          rw [hze, ← hy, ← hij] at hst
          have HST := Lib.hid hst
          have HIJ := Lib.hid hij
          clear hst hy hd hxe hc0 bx hij hj hdr hzB HV
          go_wp2_with fail
          go_region
          go_wp2_with fail
          go_roundw
          case rel =>
            have hij := HIJ.out
            have harr3 := harr2.store j y
            rw [Nat.zero_add] at harr3
            have hon3 : Only w.heap.size 0 u wr ((wr.setCell ⟨w.heap.size, i, none⟩ (.int .u64 z)).setCell ⟨w.heap.size, j, none⟩ (.int .u64 y)) := (Only.store i _ (by omega) (by omega)).trans (Only.store j _ (by omega) (by omega))
            refine ⟨i + 1, (o.set i z).set j y, by omega, by go_num, ?_, (hlim.set i hz0 (by unfold B64; omega)).set j hy0 hy1, harr3, (honly.trans hon3).trans (Only.of_below ((Below.refl _ _).drew)), ?_, HST.out⟩
            · show _ = _
              rw [List.length_set, List.length_set]; exact HL.out
            · intro _
              rw [Nat.add_sub_cancel, getD_set_other _ (by omega), getD_set_same (by rw [HL.out]; exact hlt)]
              exact HZB.out
          case measure => simp [intOf]; omega
        · have hiz : i = 0 := by omega
          subst hiz
          rw [Nat.add_zero] at hcx
          have hst := down_first (o := o) (m := md) (x := x) (r := 2 ^ r) (by rw [HL.out]; exact hlt) (by rw [HMDL.out]; exact hlt) hxe
          rw [hze] at hst
          have HST := Lib.hid hst
          clear hst hxe hc0 bx hzB HV hi0
          go_wp2_with fail
          go_roundw
          case rel =>
            refine ⟨0 + 1, o.set 0 z, by omega, by go_num, ?_, hlim.set 0 hz0 (by unfold B64; omega), harr2, honly.trans (Only.store 0 _ (by omega) (by omega)), ?_, HST.out⟩
            · show _ = _
              rw [List.length_set]; exact HL.out
            · intro _
              rw [Nat.add_sub_cancel, getD_set_same (by rw [HL.out]; exact hlt)]
              exact HZB.out
          case measure => simp [intOf]; omega
      · have hiu : i = u := by omega
        have hv : vb B64 o = vb B64 l / 2 ^ k := by
          have h8 := HV.out
          rw [List.take_of_length_le (l := o) (by rw [HL.out]; omega), List.take_of_length_le (l := md) (by rw [HMDL.out]; omega), HVD.out] at h8
          exact h8
        have HVO := Lib.hid hv
        have hOo : Ow w.heap.size wr (.slice (some ⟨w.heap.size, 0, none⟩) u u) o := hw1.only honly harr (by rw [HL.out, List.length_replicate])
        have hbw : Below w.heap.size w wr := hb1.trans (honly.below (Nat.le_refl _) (by omega))
        have hrdo : Rd wr (some ⟨w.heap.size, 0, none⟩) o := Rd.of_at harr.at'
        have htl := tlen_le o
        rw [HL.out] at htl
        clear hiu hv HV HC
        go_wp2_with (go_at_call 64; refine (trim_any (some ⟨w.heap.size, 0, none⟩) u u o _ HL.out.symm (Nat.le_refl _) (by omega) hrdo).mono ?_; rintro e w' ⟨rfl, rfl⟩)
        go_ret
        exact ⟨_, tr o, rfl, hOo.take (tlen o) htl, can_tr hlim, by rw [vb_tr]; exact HVO.out, hbw⟩
end Go.Proofs.YtfhknnmffppfgaaDoor
