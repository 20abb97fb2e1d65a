/-
  Contract of nat.addProduct: a number times a word is added to the first words of a row.
  Contract of nat.subProduct: a number times a word is taken from the first words of a row.
-/
import Derived.Test.YtbieldebkfkpkaaDoorMul64
import Derived.Test.YtbieldebkfkpkaaDoorNat1
namespace Go.Proofs.YtbieldebkfkpkaaDoor
open Go.RowKit


theorem ap_step {l lo lx : List Int} {k : Nat} {c x y f s d : Int} (hk : k < l.length) (hkl : k < lo.length) (hkx : k < lx.length) (hx : x = lx.getD k 0) (hy : y = lo.getD k 0) (hs : s + B64 * d = y + x * f + c)
    (h : vb B64 (l.take k) + B64 ^ k * c = vb B64 (lo.take k) + vb B64 (lx.take k) * f) :
    vb B64 ((l.set k s).take (k + 1)) + B64 ^ (k + 1) * d = vb B64 (lo.take (k + 1)) + vb B64 (lx.take (k + 1)) * f := by
  rw [vb_take_succ B64 hkl, vb_take_succ B64 hkx, vb_take_succ B64 (by rw [List.length_set]; exact hk), getD_set_same hk, List.take_set_of_le (Nat.le_refl _), ← hx, ← hy, Int.pow_succ, Int.mul_assoc, Int.add_assoc, ← Int.mul_add, hs, Int.mul_add, Int.mul_add, Int.add_mul, Int.mul_assoc]
  omega

theorem word_prod {x f : Int} (hx0 : 0 ≤ x) (hx1 : x ≤ 18446744073709551615) (hf0 : 0 ≤ f) (hf1 : f ≤ 18446744073709551615) : 0 ≤ x * f ∧ x * f ≤ 340282366920938463426481119284349108225 := by
  refine ⟨Int.mul_nonneg hx0 hf0, ?_⟩
  have := Int.mul_le_mul hx1 hf1 hf0 (by decide)
  omega

/-- What nat.addProduct leaves. -/
def RetAP (g off no nx : Nat) (lo : List Int) (N : Int) (w : World) (e : Ending) (w' : World) : Prop :=
  ∃ c l, e = .returned (.int .u64 c) ∧ 0 ≤ c ∧ c < B64 ∧ l.length = no ∧ Lim B64 l ∧ Arr w' g off l ∧ l.drop nx = lo.drop nx ∧ vb B64 (l.take nx) + B64 ^ nx * c = vb B64 (lo.take nx) + N ∧ Only g off (off + nx) w w'

set_option maxRecDepth 100000 in
set_option maxHeartbeats 4000000 in
theorem addProduct_any (g off no co : Nat) (lo : List Int) (ax : Option Addr) (nx cx : Nat) (lx : List Int) (f : Int) (w : World) (hno : no = lo.length) (hnx : nx = lx.length) (ho1 : no ≤ co) (_ho2 : co ≤ 9223372036854775807) (_hx1 : nx ≤ cx) (_hx2 : cx ≤ 9223372036854775807)
    (ha : Arr w g off lo) (hx : Rd w ax lx) (hne : lx ≠ [] → ∀ b' off', ax = some ⟨b', off', none⟩ → b' ≠ g) (hll : Lim B64 lo) (hlx : Lim B64 lx) (hle : nx ≤ no) (hf0 : 0 ≤ f) (hf1 : f ≤ 18446744073709551615) :
    Calls Tryd.prog 112 #[.slice (some ⟨g, off, none⟩) no co, .slice ax nx cx, .int .u64 f] w fun e w' => RetAP g off no nx lo (vb B64 lx * f) w e w' := by
  have HNO := Lib.hid hno
  have HNX := Lib.hid hnx
  clear hno hnx
  have hxc : nx ≤ co := by omega
  go_enter Tryd.func112, Tryd.ntmps112
  go_wp2
  go_loopw [7, 19] (fun cc ii wr => ∃ (k : Nat) (c : Int) (l : List Int), k ≤ nx ∧ ii = .int .i64 k ∧ cc = .int .u64 c ∧ 0 ≤ c ∧ c ≤ 18446744073709551615 ∧ Hid (l.length = no) ∧ Lim B64 l ∧ Arr wr g off l ∧ Only g off (off + nx) w wr ∧ Hid (l.drop k = lo.drop k) ∧ Hid (vb B64 (l.take k) + B64 ^ k * c = vb B64 (lo.take k) + vb B64 (lx.take k) * f))
    (fun _ ii _ => nx - (intOf ii).toNat)
  case atStart => exact ⟨0, 0, lo, Nat.zero_le _, rfl, rfl, Int.le_refl _, by decide, HNO.out.symm, hll, ha, Only.refl _ _ _ _, rfl, by show _ = _; simp⟩
  case round =>
    obtain ⟨k, c, l, hk, rfl, rfl, hc0, hc1, HL, hlim, harr, honly, HD, HV⟩ := hrel
    by_cases hlt : k < nx
    · have hlx0 : lx ≠ [] := by intro e; have := HNX.out; rw [e] at this; simp at this; omega
      obtain ⟨b', off', rfl, hat⟩ := hx.cases hlx0
      have hne' := hne hlx0 b' off' rfl
      obtain ⟨x, hxe⟩ : ∃ x, x = lx.getD k 0 := ⟨_, rfl⟩
      obtain ⟨y, hye⟩ : ∃ y, y = lo.getD k 0 := ⟨_, rfl⟩
      have hkx : k < lx.length := by rw [← HNX.out]; exact hlt
      have hkl : k < lo.length := by rw [← HNO.out]; omega
      have hym : l.getD k 0 = y := by
        have := congrArg (fun z => List.getD z 0 0) HD.out
        simp only [getD_drop, Nat.add_zero] at this
        rw [hye, this]
      have hcx : wr.cell? ⟨b', off' + k, none⟩ = some (.int .u64 x) := by rw [hxe]; exact honly.at' hat hne' k hkx
      have hcy : wr.cell? ⟨g, off + k, none⟩ = some (.int .u64 y) := by rw [← hym]; exact harr.at' k (by rw [HL.out]; omega)
      have hfr := harr.frozen (off + k)
      have bx : 0 ≤ x ∧ x < B64 := by rw [hxe]; exact hlx.getD B64_pos k
      have bY : 0 ≤ y ∧ y < B64 := by rw [hye]; exact hll.getD B64_pos k
      have bx0 : 0 ≤ x := bx.1
      have bx1 : x ≤ 18446744073709551615 := by have := bx.2; unfold B64 at this; omega
      have by1 : y ≤ 18446744073709551615 := by have := bY.2; unfold B64 at this; omega
      have by0 : 0 ≤ y := bY.1
      have HMU := Lib.hid (mul64_any x f wr bx0 bx1 hf0 hf1)
      obtain ⟨p, hp⟩ : ∃ p, p = x * f := ⟨_, rfl⟩
      have hp01 := word_prod bx0 bx1 hf0 hf1
      rw [← hp] at HMU hp01
      obtain ⟨hp0, hp1⟩ := hp01
      obtain ⟨hi, hhi⟩ : ∃ hi, hi = p / 18446744073709551616 := ⟨_, rfl⟩
      obtain ⟨lw, hlw⟩ : ∃ lw, lw = p % 18446744073709551616 := ⟨_, rfl⟩
      rw [← hhi, ← hlw] at HMU
      have hlw0 : 0 ≤ lw ∧ lw < B64 := by unfold B64; omega
      have hcB : 0 ≤ c ∧ c < B64 := by unfold B64; omega
      have hadd1 := add64_run lw c 0 hlw0 hcB ⟨Int.le_refl 0, by decide⟩
      have cb1 := hi64_carry hlw0 hcB ⟨Int.le_refl 0, by decide⟩
      have lh1 := lohi (lw + c)
      have ll1 := lo64_lim (lw + c)
      rw [Int.add_zero] at hadd1 cb1
      obtain ⟨c1, hc1e⟩ : ∃ c1, c1 = hi64 (lw + c) := ⟨_, rfl⟩
      obtain ⟨m1, hm1⟩ : ∃ m1, m1 = lo64 (lw + c) := ⟨_, rfl⟩
      rw [← hc1e] at hadd1 cb1 lh1
      rw [← hm1] at hadd1 lh1 ll1
      have hadd2 := add64_run y m1 0 bY ll1 ⟨Int.le_refl 0, by decide⟩
      have cb2 := hi64_carry bY ll1 ⟨Int.le_refl 0, by decide⟩
      have lh2 := lohi (y + m1)
      have ll2 := lo64_lim (y + m1)
      rw [Int.add_zero] at hadd2 cb2
      obtain ⟨c2, hc2e⟩ : ∃ c2, c2 = hi64 (y + m1) := ⟨_, rfl⟩
      obtain ⟨s, hse⟩ : ∃ s, s = lo64 (y + m1) := ⟨_, rfl⟩
      rw [← hc2e] at hadd2 cb2 lh2
      rw [← hse] at hadd2 lh2 ll2
      have htot : s + B64 * (hi + c1 + c2) = y + x * f + c := by
        rw [← hp, Int.mul_add, Int.mul_add]
        unfold B64 at *
        omega
      have hd1 : hi + c1 + c2 ≤ 18446744073709551615 := by
        rw [← hp, Int.mul_add, Int.mul_add] at htot
        unfold B64 at *
        omega
      have hst := ap_step (l := l) (lo := lo) (lx := lx) (k := k) (c := c) (x := x) (y := y) (f := f) (s := s) (d := hi + c1 + c2) (by rw [HL.out]; omega) hkl hkx hxe hye htot HV.out
      have hhi0 : 0 ≤ hi := by omega
      obtain ⟨hc10, hc11⟩ := cb1
      obtain ⟨hc20, hc21⟩ := cb2
      have HST := Lib.hid hst
      have HLL2 := Lib.hid ll2
      clear hst htot hse hc2e hm1 hc1e hlw hhi hp hp0 hp1 lh1 lh2 ll1 ll2 hlw0 hcB bY bx hxe hye hym hkx hkl hne' hat
      go_wp2_with (go_at_call 90; refine HMU.out.mono ?_; rintro e w' ⟨rfl, rfl⟩)
      go_roundw
      case rel =>
        refine ⟨k + 1, hi + c1 + c2, l.set k s, by omega, by go_num, rfl, by omega, hd1, ?_, hlim.set k HLL2.out.1 HLL2.out.2, harr.store k s, honly.trans (Only.store _ _ (by omega) (by omega)), ?_, HST.out⟩
        · show _ = _
          rw [List.length_set]; exact HL.out
        · show _ = _
          have e := congrArg (List.drop 1) HD.out
          rw [List.drop_drop, List.drop_drop] at e
          rw [List.drop_set_of_lt (by omega)]
          exact e
      case measure => simp [intOf]; omega
    · have hkn : k = nx := by omega
      have hv : vb B64 (l.take nx) + B64 ^ nx * c = vb B64 (lo.take nx) + vb B64 lx * f := by
        have h8 := HV.out
        rwa [hkn, List.take_of_length_le (l := lx) (by rw [← HNX.out]; exact Nat.le_refl _)] at h8
      have hd : l.drop nx = lo.drop nx := by rw [← hkn]; exact HD.out
      have HV2 := Lib.hid hv
      have HD2 := Lib.hid hd
      clear hv hd HV HD hkn
      go_wp2
      go_ret
      exact ⟨c, l, rfl, hc0, by unfold B64; omega, HL.out, hlim, harr, HD2.out, HV2.out, honly⟩


theorem sp_step {l lo lx : List Int} {k : Nat} {c x y f s d : Int} (hk : k < l.length) (hkl : k < lo.length) (hkx : k < lx.length) (hx : x = lx.getD k 0) (hy : y = lo.getD k 0) (hs : s - B64 * d = y - x * f - c)
    (h : vb B64 (l.take k) - B64 ^ k * c = vb B64 (lo.take k) - vb B64 (lx.take k) * f) :
    vb B64 ((l.set k s).take (k + 1)) - B64 ^ (k + 1) * d = vb B64 (lo.take (k + 1)) - vb B64 (lx.take (k + 1)) * f := by
  rw [vb_take_succ B64 hkl, vb_take_succ B64 hkx, vb_take_succ B64 (by rw [List.length_set]; exact hk), getD_set_same hk, List.take_set_of_le (Nat.le_refl _), ← hx, ← hy, Int.pow_succ, Int.mul_assoc, Int.add_mul, Int.mul_assoc]
  have e : B64 ^ k * s - B64 ^ k * (B64 * d) = B64 ^ k * y - B64 ^ k * (x * f) - B64 ^ k * c := by rw [← Int.mul_sub, hs, Int.mul_sub, Int.mul_sub]
  omega

/-- What nat.subProduct leaves. -/
def RetSP (g off no nx : Nat) (lo : List Int) (N : Int) (w : World) (e : Ending) (w' : World) : Prop :=
  ∃ c l, e = .returned (.int .u64 c) ∧ 0 ≤ c ∧ c < B64 ∧ l.length = no ∧ Lim B64 l ∧ Arr w' g off l ∧ l.drop nx = lo.drop nx ∧ vb B64 (l.take nx) - B64 ^ nx * c = vb B64 (lo.take nx) - N ∧ Only g off (off + nx) w w'

set_option maxRecDepth 100000 in
set_option maxHeartbeats 4000000 in
theorem subProduct_any (g off no co : Nat) (lo : List Int) (ax : Option Addr) (nx cx : Nat) (lx : List Int) (f : Int) (w : World) (hno : no = lo.length) (hnx : nx = lx.length) (ho1 : no ≤ co) (_ho2 : co ≤ 9223372036854775807) (_hx1 : nx ≤ cx) (_hx2 : cx ≤ 9223372036854775807)
    (ha : Arr w g off lo) (hx : Rd w ax lx) (hne : lx ≠ [] → ∀ b' off', ax = some ⟨b', off', none⟩ → b' ≠ g) (hll : Lim B64 lo) (hlx : Lim B64 lx) (hle : nx ≤ no) (hf0 : 0 ≤ f) (hf1 : f ≤ 18446744073709551615) :
    Calls Tryd.prog 116 #[.slice (some ⟨g, off, none⟩) no co, .slice ax nx cx, .int .u64 f] w fun e w' => RetSP g off no nx lo (vb B64 lx * f) w e w' := by
  have HNO := Lib.hid hno
  have HNX := Lib.hid hnx
  clear hno hnx
  have hxc : nx ≤ co := by omega
  go_enter Tryd.func116, Tryd.ntmps116
  go_wp2
  go_loopw [7, 19] (fun cc ii wr => ∃ (k : Nat) (c : Int) (l : List Int), k ≤ nx ∧ ii = .int .i64 k ∧ cc = .int .u64 c ∧ 0 ≤ c ∧ c ≤ 18446744073709551615 ∧ Hid (l.length = no) ∧ Lim B64 l ∧ Arr wr g off l ∧ Only g off (off + nx) w wr ∧ Hid (l.drop k = lo.drop k) ∧ Hid (vb B64 (l.take k) - B64 ^ k * c = vb B64 (lo.take k) - vb B64 (lx.take k) * f))
    (fun _ ii _ => nx - (intOf ii).toNat)
  case atStart => exact ⟨0, 0, lo, Nat.zero_le _, rfl, rfl, Int.le_refl _, by decide, HNO.out.symm, hll, ha, Only.refl _ _ _ _, rfl, by show _ = _; simp⟩
  case round =>
    obtain ⟨k, c, l, hk, rfl, rfl, hc0, hc1, HL, hlim, harr, honly, HD, HV⟩ := hrel
    by_cases hlt : k < nx
    · have hlx0 : lx ≠ [] := by intro e; have := HNX.out; rw [e] at this; simp at this; omega
      obtain ⟨b', off', rfl, hat⟩ := hx.cases hlx0
      have hne' := hne hlx0 b' off' rfl
      obtain ⟨x, hxe⟩ : ∃ x, x = lx.getD k 0 := ⟨_, rfl⟩
      obtain ⟨y, hye⟩ : ∃ y, y = lo.getD k 0 := ⟨_, rfl⟩
      have hkx : k < lx.length := by rw [← HNX.out]; exact hlt
      have hkl : k < lo.length := by rw [← HNO.out]; omega
      have hym : l.getD k 0 = y := by
        have := congrArg (fun z => List.getD z 0 0) HD.out
        simp only [getD_drop, Nat.add_zero] at this
        rw [hye, this]
      have hcx : wr.cell? ⟨b', off' + k, none⟩ = some (.int .u64 x) := by rw [hxe]; exact honly.at' hat hne' k hkx
      have hcy : wr.cell? ⟨g, off + k, none⟩ = some (.int .u64 y) := by rw [← hym]; exact harr.at' k (by rw [HL.out]; omega)
      have hfr := harr.frozen (off + k)
      have bx : 0 ≤ x ∧ x < B64 := by rw [hxe]; exact hlx.getD B64_pos k
      have bY : 0 ≤ y ∧ y < B64 := by rw [hye]; exact hll.getD B64_pos k
      have bx0 : 0 ≤ x := bx.1
      have bx1 : x ≤ 18446744073709551615 := by have := bx.2; unfold B64 at this; omega
      have by1 : y ≤ 18446744073709551615 := by have := bY.2; unfold B64 at this; omega
      have by0 : 0 ≤ y := bY.1
      have HMU := Lib.hid (mul64_any x f wr bx0 bx1 hf0 hf1)
      obtain ⟨p, hp⟩ : ∃ p, p = x * f := ⟨_, rfl⟩
      have hp01 := word_prod bx0 bx1 hf0 hf1
      rw [← hp] at HMU hp01
      obtain ⟨hp0, hp1⟩ := hp01
      obtain ⟨hi, hhi⟩ : ∃ hi, hi = p / 18446744073709551616 := ⟨_, rfl⟩
      obtain ⟨lw, hlw⟩ : ∃ lw, lw = p % 18446744073709551616 := ⟨_, rfl⟩
      rw [← hhi, ← hlw] at HMU
      have hlw0 : 0 ≤ lw ∧ lw < B64 := by unfold B64; omega
      have hcB : 0 ≤ c ∧ c < B64 := by unfold B64; omega
      have hadd1 := add64_run lw c 0 hlw0 hcB ⟨Int.le_refl 0, by decide⟩
      have cb1 := hi64_carry hlw0 hcB ⟨Int.le_refl 0, by decide⟩
      have lh1 := lohi (lw + c)
      have ll1 := lo64_lim (lw + c)
      rw [Int.add_zero] at hadd1 cb1
      obtain ⟨c1, hc1e⟩ : ∃ c1, c1 = hi64 (lw + c) := ⟨_, rfl⟩
      obtain ⟨m1, hm1⟩ : ∃ m1, m1 = lo64 (lw + c) := ⟨_, rfl⟩
      rw [← hc1e] at hadd1 cb1 lh1
      rw [← hm1] at hadd1 lh1 ll1
      have hadd2 := sub64_run y m1 0 bY ll1 ⟨Int.le_refl 0, by decide⟩
      have cb2 := bo64_carry bY ll1 ⟨Int.le_refl 0, by decide⟩
      have lh2 := lobo (y - m1)
      have ll2 := lo64_lim (y - m1)
      rw [Int.sub_zero] at hadd2 cb2
      obtain ⟨c2, hc2e⟩ : ∃ c2, c2 = bo64 (y - m1) := ⟨_, rfl⟩
      obtain ⟨s, hse⟩ : ∃ s, s = lo64 (y - m1) := ⟨_, rfl⟩
      rw [← hc2e] at hadd2 cb2 lh2
      rw [← hse] at hadd2 lh2 ll2
      have htot : s - B64 * (hi + c1 + c2) = y - x * f - c := by
        rw [← hp, Int.mul_add, Int.mul_add]
        unfold B64 at *
        omega
      have hd1 : hi + c1 + c2 ≤ 18446744073709551615 := by
        rw [← hp, Int.mul_add, Int.mul_add] at htot
        unfold B64 at *
        omega
      have hst := sp_step (l := l) (lo := lo) (lx := lx) (k := k) (c := c) (x := x) (y := y) (f := f) (s := s) (d := hi + c1 + c2) (by rw [HL.out]; omega) hkl hkx hxe hye htot HV.out
      have hhi0 : 0 ≤ hi := by omega
      obtain ⟨hc10, hc11⟩ := cb1
      obtain ⟨hc20, hc21⟩ := cb2
      have HST := Lib.hid hst
      have HLL2 := Lib.hid ll2
      clear hst htot hse hc2e hm1 hc1e hlw hhi hp hp0 hp1 lh1 lh2 ll1 ll2 hlw0 hcB bY bx hxe hye hym hkx hkl hne' hat
      go_wp2_with (go_at_call 90; refine HMU.out.mono ?_; rintro e w' ⟨rfl, rfl⟩)
      go_roundw
      case rel =>
        refine ⟨k + 1, hi + c1 + c2, l.set k s, by omega, by go_num, rfl, by omega, hd1, ?_, hlim.set k HLL2.out.1 HLL2.out.2, harr.store k s, honly.trans (Only.store _ _ (by omega) (by omega)), ?_, HST.out⟩
        · show _ = _
          rw [List.length_set]; exact HL.out
        · show _ = _
          have e := congrArg (List.drop 1) HD.out
          rw [List.drop_drop, List.drop_drop] at e
          rw [List.drop_set_of_lt (by omega)]
          exact e
      case measure => simp [intOf]; omega
    · have hkn : k = nx := by omega
      have hv : vb B64 (l.take nx) - B64 ^ nx * c = vb B64 (lo.take nx) - vb B64 lx * f := by
        have h8 := HV.out
        rwa [hkn, List.take_of_length_le (l := lx) (by rw [← HNX.out]; exact Nat.le_refl _)] at h8
      have hd : l.drop nx = lo.drop nx := by rw [← hkn]; exact HD.out
      have HV2 := Lib.hid hv
      have HD2 := Lib.hid hd
      clear hv hd HV HD hkn
      go_wp2
      go_ret
      exact ⟨c, l, rfl, hc0, by unfold B64; omega, HL.out, hlim, harr, HD2.out, HV2.out, honly⟩

end Go.Proofs.YtbieldebkfkpkaaDoor
