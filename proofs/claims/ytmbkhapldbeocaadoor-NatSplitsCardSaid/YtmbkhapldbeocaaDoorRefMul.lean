/-
  Contracts of the reference's Small and Mul.
-/
import Derived.Test.YtmbkhapldbeocaaDoorRef1
namespace Go.Proofs.YtmbkhapldbeocaaDoor
open Go.RowKit

theorem len_room32 {l : List Int} {m : Nat} (hc : Can B32 l) (h : vb B32 l < B32 ^ m) : l.length ≤ m := by
  by_cases hl : l = []
  · subst hl; simp
  · have h1 := hc.ge B32_pos hl
    rcases Nat.lt_or_ge m l.length with h2 | h2
    · have := pow_le_pow B32_pos (show m ≤ l.length - 1 by omega)
      omega
    · exact h2

set_option maxRecDepth 100000 in
theorem small_any (v : Int) (w : World) (h0 : 0 ≤ v) (h1 : v ≤ 18446744073709551615) :
    Calls Tryd.prog 45 #[.int .u64 v] w fun e w' => RetRd B32 w v e w' := by
  have hlim : Lim B32 [v % 4294967296, v / 4294967296] := Lim.cons (by omega) (by unfold B32; omega) (Lim.cons (by omega) (by unfold B32; omega) (Lim.nil _))
  have hvb : vb B32 [v % 4294967296, v / 4294967296] = v := by simp only [vb_cons, vb_nil]; unfold B32; omega
  have htl := tlen_le [v % 4294967296, v / 4294967296]
  have HL := Lib.hid hlim
  have HV := Lib.hid hvb
  have HT := Lib.hid htl
  clear hlim hvb htl
  go_enter Tryd.func45, Tryd.ntmps45
  go_wp2_with (go_at_call 39; refine (rtrim_any (some ⟨w.heap.size, 0, none⟩) 2 2 [v % 4294967296, v / 4294967296] _ rfl (by decide) (by decide) (Rd.of_at fun j hj => by have := news2 w (v % 4294967296) (v / 4294967296) 58 j hj; rwa [addr_add_none] at this)).mono ?_; rintro e w' ⟨rfl, rfl⟩)
  go_ret
  refine ⟨_, _, _, tr [v % 4294967296, v / 4294967296], rfl, (tr_length _).symm, Nat.le_refl _, by have := HT.out; simp at this; omega, ?_, can_tr HL.out, by rw [vb_tr, HV.out], (Below.refl _ _).alloc (Nat.le_refl _) _, ?_⟩
  · refine Rd.take (Rd.of_at fun j hj => ?_) _
    have := news2 w (v % 4294967296) (v / 4294967296) 58 j hj
    rwa [addr_add_none] at this
  · intro g o e
    cases e
    exact Nat.le_refl _

/-- One digit product added, the carry handed on. -/
theorem mul_step {m : List Int} {p : Nat} {c x y v T : Int} (hp : p < m.length) (hv : v = m.getD p 0 + x * y + c) (h : vb B32 m + B32 ^ p * c = T) :
    vb B32 (m.set p (v % 4294967296)) + B32 ^ (p + 1) * (v / 4294967296) = T + B32 ^ p * (x * y) := by
  rw [vb_set _ _ _ _ hp, Int.pow_succ, Int.mul_assoc, Int.add_assoc, ← Int.mul_add]
  have e : v % 4294967296 - m.getD p 0 + B32 * (v / 4294967296) = c + x * y := by unfold B32; omega
  rw [e, Int.mul_add]
  omega

theorem mul_bound {x y : Int} (hx0 : 0 ≤ x) (hx1 : x ≤ 4294967295) (hy0 : 0 ≤ y) (hy1 : y ≤ 4294967295) : 0 ≤ x * y ∧ x * y ≤ 18446744065119617025 := by
  refine ⟨Int.mul_nonneg hx0 hy0, ?_⟩
  have := Int.mul_le_mul hx1 hy1 hy0 (by decide)
  omega

set_option maxRecDepth 100000 in
set_option maxHeartbeats 2000000 in
theorem rmul_any (ax : Option Addr) (na ca : Nat) (a : List Int) (ay : Option Addr) (nb' cb : Nat) (b : List Int) (w : World) (hna : na = a.length) (hnb : nb' = b.length) (h1 : na ≤ ca) (h2 : ca ≤ 9223372036854775807) (h3 : nb' ≤ cb) (h4 : cb ≤ 9223372036854775807)
    (hx : Rd w ax a) (hy : Rd w ay b) (hla : Lim B32 a) (hlb : Lim B32 b) (hM : na + nb' ≤ MaxW) :
    Calls Tryd.prog 26 #[.slice ax na ca, .slice ay nb' cb] w fun e w' => RetRd B32 w (vb B32 a * vb B32 b) e w' := by
  have HA := Lib.hid hna
  have HB := Lib.hid hnb
  clear hna hnb
  have hM63 : na + nb' ≤ 9223372036854775807 := by unfold MaxW at hM; omega
  obtain ⟨N, hN⟩ : ∃ N, N = na + nb' := ⟨_, rfl⟩
  have hNI : (na : Int) + (nb' : Int) = (N : Int) := by omega
  rw [← hN] at hM hM63
  have HN := Lib.hid hN
  have hNa : na ≤ N := by omega
  clear hN
  go_enter Tryd.func26, Tryd.ntmps26
  go_wp2_with (at_make; refine wpList_make_words w rfl (.tmp 14) (.tmp 14) 25 rfl Tryd.underlying25 info_u64 _ _ N rfl rfl (by omega) (by omega) hM ?_; intro w1 hw1 hb1 hs1)
  have harr1 := hw1.arr.1
  go_loopw [6] (fun ii wr => ∃ (i : Nat) (m : List Int), i ≤ na ∧ ii = .int .i64 i ∧ Hid (m.length = N) ∧ Lim B32 m ∧ Arr wr w.heap.size 0 m ∧ Only w.heap.size 0 N w1 wr ∧ Hid (∀ j, i + nb' ≤ j → m.getD j 0 = 0) ∧ Hid (vb B32 m = vb B32 (a.take i) * vb B32 b))
    (fun ii _ => na - (intOf ii).toNat)
  case atStart => exact ⟨0, List.replicate N 0, Nat.zero_le _, rfl, by show _ = _; simp, Lim.replicate B32_pos N, harr1, Only.refl _ _ _ _, fun j _ => (by rw [List.getD_eq_getElem?_getD, List.getElem?_replicate]; split <;> rfl), by show _ = _; rw [vb_replicate]; simp⟩
  case round =>
    obtain ⟨i, m, hi, rfl, HL, hlim, harr, honly, HZ, HV⟩ := hrel
    by_cases hlt : i < na
    · have hbw : Below w.heap.size w wr := hb1.trans (honly.below (Nat.le_refl _) (by omega))
      obtain ⟨b1, o1, rfl, hat⟩ := hx.cases (by intro e; subst e; have := HA.out; simp at this; omega)
      obtain ⟨x, hxe⟩ : ∃ x, x = a.getD i 0 := ⟨_, rfl⟩
      have bx : 0 ≤ x ∧ x < 4294967296 := by rw [hxe]; exact hla.getD B32_pos _
      obtain ⟨bx0, bx1⟩ := bx
      have hcx : w.cell? ⟨b1, o1 + i, none⟩ = some (.int .u64 x) := by rw [hxe]; exact hat i (by rw [← HA.out]; exact hlt)
      have HCX := Lib.hid hcx
      have HXE := Lib.hid hxe
      clear hcx hxe hat hbw
      go_wp2_with fail
      go_loopw [7, 8] (fun cc kk wr => ∃ (k : Nat) (c : Int) (m : List Int), k ≤ nb' ∧ kk = .int .i64 k ∧ cc = .int .u64 c ∧ 0 ≤ c ∧ c ≤ 4294967295 ∧ Hid (m.length = N) ∧ Lim B32 m ∧ Arr wr w.heap.size 0 m ∧ Only w.heap.size 0 N w1 wr ∧ Hid (∀ j, i + nb' ≤ j → m.getD j 0 = 0) ∧ Hid (vb B32 m + B32 ^ (i + k) * c = vb B32 (a.take i) * vb B32 b + B32 ^ i * (x * vb B32 (b.take k))))
        (fun _ kk _ => nb' - (intOf kk).toNat)
      case atStart => exact ⟨0, 0, m, Nat.zero_le _, rfl, rfl, Int.le_refl _, by decide, HL, hlim, harr, honly, HZ, by show _ = _; rw [HV.out]; simp⟩
      case round =>
        clear HL hlim harr honly HZ HV
        obtain ⟨k, c, m, hk, rfl, rfl, hc0, hc1, HL, hlim, harr, honly, HZ, HV⟩ := hrel
        have hbw : Below w.heap.size w wr := hb1.trans (honly.below (Nat.le_refl _) (by omega))
        by_cases hlk : k < nb'
        · obtain ⟨b2, o2, rfl, hat2⟩ := hy.cases (by intro e; subst e; have := HB.out; simp at this; omega)
          obtain ⟨y, hye⟩ : ∃ y, y = b.getD k 0 := ⟨_, rfl⟩
          have bY : 0 ≤ y ∧ y < 4294967296 := by rw [hye]; exact hlb.getD B32_pos _
          obtain ⟨by0, by1⟩ := bY
          have hcy : wr.cell? ⟨b2, o2 + k, none⟩ = some (.int .u64 y) := by rw [hye]; exact hat2.below hbw k (by rw [← HB.out]; exact hlk)
          have hcx : wr.cell? ⟨b1, o1 + i, none⟩ = some (.int .u64 x) := by
            rw [hbw.cell (p := ⟨b1, o1 + i, none⟩) (World.block_lt_of_cell? _ _ HCX.out)]; exact HCX.out
          obtain ⟨p, hp⟩ : ∃ p, i + k = p := ⟨_, rfl⟩
          have hpN : p < N := by omega
          have hpI : (i : Int) + (k : Int) = (p : Int) := by omega
          obtain ⟨o, hoe⟩ : ∃ o, o = m.getD p 0 := ⟨_, rfl⟩
          have bo : 0 ≤ o ∧ o < 4294967296 := by rw [hoe]; exact hlim.getD B32_pos _
          obtain ⟨bo0, bo1⟩ := bo
          have hco : wr.cell? ⟨w.heap.size, p, none⟩ = some (.int .u64 o) := by
            rw [hoe]
            have := harr.at' p (by rw [HL.out]; exact hpN)
            rwa [Nat.zero_add] at this
          have hfr := harr.frozen p
          have hxy := mul_bound bx0 (by omega : x ≤ 4294967295) by0 (by omega : y ≤ 4294967295)
          obtain ⟨q, hq⟩ : ∃ q, x * y = q := ⟨_, rfl⟩
          rw [hq] at hxy
          obtain ⟨hq0, hq1⟩ := hxy
          obtain ⟨v, hv⟩ : ∃ v, v = o + q + c := ⟨_, rfl⟩
          have hvw : IntKind.u64.wrap (IntKind.u64.wrap (o + IntKind.u64.wrap q) + c) = v := by rw [IntKind.wrap_u64, IntKind.wrap_u64, IntKind.wrap_u64]; omega
          have hV' : vb B32 m + B32 ^ p * c = vb B32 (a.take i) * vb B32 b + B32 ^ i * (x * vb B32 (b.take k)) := by rw [← hp]; exact HV.out
          have hst := mul_step (m := m) (p := p) (c := c) (x := x) (y := y) (v := v) (by rw [HL.out]; exact hpN) (by rw [hq, ← hoe]; exact hv) hV'
          have hv0 : 0 ≤ v := by omega
          have hv1 : v ≤ 18446744073709551615 := by omega
          have HST := Lib.hid hst
          have HYE := Lib.hid hye
          have HP := Lib.hid hp
          have HVE := Lib.hid hv
          clear hst hye hoe hat2 hv hV'
          go_wp2_with fail
          go_quiet (fail)
          go_wp2_with fail
          go_roundw
          case rel =>
            have harr2 : Arr (wr.drewN nq) w.heap.size 0 m := harr
            have hon2 : Only w.heap.size 0 N wr (wr.drewN nq) := Only.of_below (bdn (Below.refl _ _) nq)
            have h := HST.out
            rw [HVE.out] at h
            refine ⟨k + 1, (o + q + c) / 4294967296, m.set p ((o + q + c) % 4294967296), by omega, by go_num, rfl, by omega, by omega, ?_, hlim.set p (by omega) (by unfold B32; omega), ?_, (honly.trans hon2).trans (Only.store _ _ (by omega) (by omega)), ?_, ?_⟩
            · show _ = _
              rw [List.length_set]; exact HL.out
            · have := harr2.store p ((o + q + c) % 4294967296)
              rwa [Nat.zero_add] at this
            · intro j hj
              rw [getD_set_other m (by omega)]
              exact HZ.out j hj
            · show _ = _
              rw [show i + (k + 1) = p + 1 by omega, h, vb_take_succ B32 (by rw [← HB.out]; exact hlk), ← HYE.out, Int.mul_add x, Int.mul_add (B32 ^ i), ← hp, Int.pow_add, Int.mul_left_comm x (B32 ^ k) y, ← Int.mul_assoc (B32 ^ i) (B32 ^ k) (x * y)]
              omega
          case measure => simp [intOf]; omega
        · have hkn : k = nb' := by omega
          obtain ⟨p, hp⟩ : ∃ p, i + nb' = p := ⟨_, rfl⟩
          have HNo := HN.out
          have hpN : p < N := by omega
          have hpI : (i : Int) + (nb' : Int) = (p : Int) := by omega
          have hfr := harr.frozen p
          have hv : vb B32 m + B32 ^ p * c = vb B32 (a.take (i + 1)) * vb B32 b := by
            have h := HV.out
            rw [hkn, List.take_of_length_le (l := b) (by rw [← HB.out]; exact Nat.le_refl _), hp] at h
            rw [h, vb_take_succ B32 (by rw [← HA.out]; exact hlt), ← HXE.out, Int.add_mul, Int.mul_assoc]
          have hz : m.getD p 0 = 0 := HZ.out p (by omega)
          have hco : wr.cell? ⟨w.heap.size, p, none⟩ = some (.int .u64 0) := by
            have := harr.at' p (by rw [HL.out]; exact hpN)
            rwa [Nat.zero_add, hz] at this
          have hst : vb B32 (m.set p c) = vb B32 (a.take (i + 1)) * vb B32 b := by
            rw [vb_set B32 m p c (by rw [HL.out]; exact hpN), hz, Int.sub_zero]; exact hv
          have HST := Lib.hid hst
          have HP := Lib.hid hp
          clear hst hv hz HV hkn HNo hp
          go_wp2_with fail
          go_roundw
          case rel =>
            have hp' := HP.out
            refine ⟨i + 1, m.set p c, by omega, by go_num, ?_, hlim.set p hc0 (by unfold B32; omega), ?_, honly.trans (Only.store _ _ (by omega) (by omega)), ?_, HST.out⟩
            · show _ = _
              rw [List.length_set]; exact HL.out
            · have := harr.store p c
              rwa [Nat.zero_add] at this
            · intro j hj
              rw [getD_set_other m (by omega)]
              exact HZ.out j (by omega)
          case measure => simp [intOf]; omega
    · have hin : i = na := by omega
      have hbw : Below w.heap.size w wr := hb1.trans (honly.below (Nat.le_refl _) (by omega))
      have hv : vb B32 m = vb B32 a * vb B32 b := by
        have h := HV.out
        rwa [hin, List.take_of_length_le (l := a) (by rw [← HA.out]; exact Nat.le_refl _)] at h
      have hv2 := Lib.hid hv
      have hat : Rd wr (some ⟨w.heap.size, 0, none⟩) m := Rd.of_at harr.at'
      clear hv HV hin
      go_wp2_with (go_at_call 39; refine (rtrim_any (some ⟨w.heap.size, 0, none⟩) N N m _ HL.out.symm (Nat.le_refl _) hM63 hat).mono ?_; rintro e w' ⟨rfl, rfl⟩)
      go_ret
      have htl := tlen_le m
      exact ⟨_, tlen m, tlen m, tr m, rfl, (tr_length _).symm, Nat.le_refl _, by have := HL.out; omega, hat.take _, can_tr hlim, by rw [vb_tr]; exact hv2.out, hbw, fun g o e => by cases e; exact Nat.le_refl _⟩
end Go.Proofs.YtmbkhapldbeocaaDoor
