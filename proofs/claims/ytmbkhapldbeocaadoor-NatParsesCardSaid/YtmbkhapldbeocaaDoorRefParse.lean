/-
  Contract of the reference's Parse.
-/
import Derived.Test.YtmbkhapldbeocaaDoorRefMul
import Derived.Test.YtmbkhapldbeocaaDoorRefAdd
import Derived.Test.YtmbkhapldbeocaaDoorStr
import Derived.Deep.RegionWith
namespace Go.Proofs.YtmbkhapldbeocaaDoor
open Go.RowKit

/-- What the reference's Parse returns. -/
def RetRP (L : List UInt8) (w : World) (e : Ending) (w' : World) : Prop :=
  ∃ ao n cap l, e = .returned (.tuple #[.slice ao n cap, .bool (allD L)]) ∧ n = l.length ∧ n ≤ cap ∧ cap ≤ 9223372036854775807 ∧ Rd w' ao l ∧ Can B32 l ∧ vb B32 l = (if allD L then dval L else 0) ∧ Below w.heap.size w w'

theorem ten_pow_le (k : Nat) : (10 : Int) ^ k ≤ B32 ^ k := by
  induction k with
  | zero => decide
  | succ k ih =>
    rw [Int.pow_succ, Int.pow_succ]
    have h0 : (0 : Int) ≤ 10 ^ k := Int.le_of_lt (Int.pow_pos (by decide))
    have h1 : (10 : Int) ^ k * 10 ≤ 10 ^ k * B32 := Int.mul_le_mul_of_nonneg_left (by decide) h0
    have h2 : (10 : Int) ^ k * B32 ≤ B32 ^ k * B32 := Int.mul_le_mul_of_nonneg_right ih (by decide)
    omega

set_option maxRecDepth 100000 in
set_option maxHeartbeats 20000000 in
theorem rparse_any (s : ByteArray) (w : World) (h0 : 0 < s.size) (h1 : s.size ≤ 20000) :
    Calls Tryd.prog 31 #[.string s] w fun e w' => RetRP s.data.toList w e w' := by
  go_enter Tryd.func31, Tryd.ntmps31
  go_wp2
  go_loopw [4, 5] (fun o i wr => ∃ (k : Nat) (ao : Option Addr) (n cap : Nat) (l : List Int), k ≤ s.size ∧ i = .int .i64 k ∧ o = .slice ao n cap ∧ Hid (n = l.length) ∧ n ≤ cap ∧ cap ≤ 9223372036854775807 ∧ Rd wr ao l ∧ Can B32 l ∧ Below w.heap.size w wr ∧ Hid (vb B32 l = dval (s.data.toList.take k)) ∧ Hid (allD (s.data.toList.take k) = true))
    (fun _ i _ => s.size - (intOf i).toNat)
  case atStart => exact ⟨0, none, 0, 0, [], Nat.zero_le _, rfl, rfl, rfl, Nat.le_refl _, by omega, Rd.nil _ _, Can.nil _, Below.refl _ _, rfl, rfl⟩
  case round =>
    obtain ⟨k, ao, n, cap, l, hk, rfl, rfl, HN, hc1, hc2, hr, hcan, hb, HV, HA⟩ := hrel
    by_cases hlt : k < s.size
    · obtain ⟨c, hc⟩ : ∃ c, c = s[k] := ⟨_, rfl⟩
      have HC := Lib.hid hc
      have hu : ((s[k].toNat : Nat) : Int) = ((c.toNat : Nat) : Int) := by rw [hc]
      have hcl : (c.toNat : Int) ≤ 255 := by have := c.toNat_lt; omega
      have HST := Lib.hid (str_take s k hlt)
      rw [← hc] at HST
      have hnk : n ≤ k := by
        rw [HN.out]
        refine len_room32 hcan ?_
        rw [HV.out]
        have h2 := (dval_lim _ HA.out).2
        rw [List.length_take, str_len, Nat.min_eq_left (by omega)] at h2
        exact Int.lt_of_lt_of_le h2 (ten_pow_le k)
      clear hc
      by_cases hc48 : (c.toNat : Int) < 48
      · go_wp2
        go_ret2
        have hbad := allD_bad s k hlt (by rw [← HC.out]; exact dokB_lo c hc48)
        exact ⟨none, 0, 0, [], by rw [hbad]; rfl, rfl, Nat.le_refl _, by omega, Rd.nil _ _, Can.nil _, by rw [hbad]; rfl, hb⟩
      · by_cases hc57 : (57 : Int) < c.toNat
        · go_wp2
          go_ret2
          have hbad := allD_bad s k hlt (by rw [← HC.out]; exact dokB_hi c hc57)
          exact ⟨none, 0, 0, [], by rw [hbad]; rfl, rfl, Nat.le_refl _, by omega, Rd.nil _ _, Can.nil _, by rw [hbad]; rfl, hb⟩
        · have hc48' : 48 ≤ (c.toNat : Int) := by omega
          have hc57' : (c.toNat : Int) ≤ 57 := by omega
          have hvb : vb B32 l * 10 < B32 ^ (k + 1) := by
            rw [HV.out]
            have h2 := (dval_lim _ HA.out).2
            rw [List.length_take, str_len, Nat.min_eq_left (by omega)] at h2
            have h3 := ten_pow_le (k + 1)
            rw [Int.pow_succ] at h3
            omega
          have HVB := Lib.hid hvb
          obtain ⟨d, hd⟩ : ∃ d, (c.toNat : Int) - 48 = d := ⟨_, rfl⟩
          have hd0 : 0 ≤ d := by omega
          have hd1 : d ≤ 9 := by omega
          have hdw8 : IntKind.u8.wrap d = d := by rw [IntKind.wrap_u8]; omega
          have hdw64 : IntKind.u64.wrap d = d := by rw [IntKind.wrap_u64]; omega
          clear hvb
          go_wp2_with fail
          go_region_with (first
            | (go_at_call 45; refine (small_any 10 _ (by decide) (by decide)).mono ?_; rintro e wa ⟨aT, nT, cT, lT, rfl, hnT, hT1, hT2, hrT, hcT, hvT, hbT, -⟩; have hT3 : nT ≤ 1 := (by rw [hnT]; exact len_room32 hcT (by rw [hvT]; decide)); have HNT := Lib.hid hnT; have HVT := Lib.hid hvT; have hra := Rd.below (w := wr.drew) hr hbT; clear hnT hvT)
            | (go_at_call 26; refine (rmul_any ao n cap l aT nT cT lT _ HN.out HNT.out hc1 hc2 hT1 hT2 hra hrT hcan.lim hcT.lim (by unfold MaxW; omega)).mono ?_; rintro e wb ⟨aM, nM, cM, lM, rfl, hnM, hM1, hM2, hrM, hcM, hvM, hbM, -⟩; have hM3 : nM ≤ k + 1 := (by rw [hnM]; exact len_room32 hcM (by rw [hvM, HVT.out]; exact HVB.out)); have HNM := Lib.hid hnM; have HVM := Lib.hid hvM; clear hnM hvM)
            | (go_at_call 45; refine (small_any d _ hd0 (by omega)).mono ?_; rintro e wc ⟨aS, nS, cS, lS, rfl, hnS, hS1, hS2, hrS, hcS, hvS, hbS, -⟩; have hS3 : nS ≤ 1 := (by rw [hnS]; exact len_room32 hcS (by rw [hvS]; unfold B32; omega)); have HNS := Lib.hid hnS; have HVS := Lib.hid hvS; have hrMc := hrM.below hbS; clear hnS hvS)
            | (go_at_call 36; refine (radd_any aM nM cM lM aS nS cS lS _ HNM.out HNS.out hM1 hM2 hS1 hS2 hrMc hrS hcM.lim hcS.lim (by unfold MaxW; omega) (by unfold MaxW; omega)).mono ?_; rintro e wd ⟨aA, nA, cA, lA, rfl, hnA, hA1, hA2, hrA, hcA, hvA, hbA, -⟩; have HNA := Lib.hid hnA; have HVA := Lib.hid hvA; clear hnA hvA))
          all_goals
            go_wp2_with fail
            go_roundw
            case rel =>
              have hbd : Below w.heap.size w wr.drew := hb.drew
              refine ⟨k + 1, aA, nA, cA, lA, by omega, by go_num, rfl, HNA, hA1, hA2, hrA, hcA, ?_, ?_, ?_⟩
              · exact (((hbd.trans (hbT.mono hbd.size)).trans (hbM.mono (Nat.le_trans hbd.size hbT.size))).trans (hbS.mono (Nat.le_trans (Nat.le_trans hbd.size hbT.size) hbM.size))).trans (hbA.mono (Nat.le_trans (Nat.le_trans (Nat.le_trans hbd.size hbT.size) hbM.size) hbS.size))
              · show _ = _
                rw [HVA.out, HVM.out, HVT.out, HVS.out, HV.out, HST.out, dval_snoc, hd, Int.mul_comm]
              · show _ = _
                rw [HST.out, allD_snoc, HA.out, dokB_yes c hc48' hc57']; rfl
            case measure => simp [intOf]; omega
    · go_wp2
      go_ret2
      have e : s.data.toList.take k = s.data.toList := List.take_of_length_le (by rw [str_len]; omega)
      have h1 := HA.out
      have h2 := HV.out
      rw [e] at h1 h2
      exact ⟨ao, n, cap, l, by rw [h1]; rfl, HN.out, hc1, hc2, hr, hcan, by rw [h1, if_pos rfl, h2], hb⟩
end Go.Proofs.YtmbkhapldbeocaaDoor
