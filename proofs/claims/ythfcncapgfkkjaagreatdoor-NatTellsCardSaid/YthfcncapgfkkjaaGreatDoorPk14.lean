/-
  AddProd: Contract of nat.addProduct: a number times a word is added to the first words of a row. Contract of nat.subProduct: a number times a word is taken from the first words of a row.
  Guess: Contract of nat.guessLimb: three words divided by two.
-/
import Derived.Test.YthfcncapgfkkjaaGreatDoorPk13
import Derived.Test.YthfcncapgfkkjaaGreatDoorPk6
import Derived.Test.YthfcncapgfkkjaaGreatDoorPk9

namespace Go.Proofs.YthfcncapgfkkjaaGreatDoor
open Go.RowKit


theorem ap_step {l lo lx : List Int} {k : Nat} {c x y f s d : Int} (hk : k < l.length) (hkl : k < lo.length) (hkx : k < lx.length) (hx : x = lx.getD k 0) (hy : y = lo.getD k 0) (hs : s + B64 * d = y + x * f + c)
    (h : vb B64 (l.take k) + B64 ^ k * c = vb B64 (lo.take k) + vb B64 (lx.take k) * f) :
    vb B64 ((l.set k s).take (k + 1)) + B64 ^ (k + 1) * d = vb B64 (lo.take (k + 1)) + vb B64 (lx.take (k + 1)) * f := by
  rw [vb_take_succ B64 hkl, vb_take_succ B64 hkx, vb_take_succ B64 (by rw [List.length_set]; exact hk), getD_set_same hk, List.take_set_of_le (Nat.le_refl _), ← hx, ← hy, Int.pow_succ, Int.mul_assoc, Int.add_assoc, ← Int.mul_add, hs, Int.mul_add, Int.mul_add, Int.add_mul, Int.mul_assoc]
  omega

theorem word_prod {x f : Int} (hx0 : 0 ≤ x) (hx1 : x ≤ 18446744073709551615) (hf0 : 0 ≤ f) (hf1 : f ≤ 18446744073709551615) : 0 ≤ x * f ∧ x * f ≤ 340282366920938463426481119284349108225 := by
  refine ⟨Int.mul_nonneg hx0 hf0, ?_⟩
  have := Int.mul_le_mul hx1 hf1 hf0 (by decide)
  omega

/-- What nat.addProduct leaves. -/
def RetAP (g off no nx : Nat) (lo : List Int) (N : Int) (w : World) (e : Ending) (w' : World) : Prop :=
  ∃ c l, e = .returned (.int .u64 c) ∧ 0 ≤ c ∧ c < B64 ∧ l.length = no ∧ Lim B64 l ∧ Arr w' g off l ∧ l.drop nx = lo.drop nx ∧ vb B64 (l.take nx) + B64 ^ nx * c = vb B64 (lo.take nx) + N ∧ Only g off (off + nx) w w'

set_option maxRecDepth 100000 in
set_option maxHeartbeats 4000000 in
theorem addProduct_any (g off no co : Nat) (lo : List Int) (ax : Option Addr) (nx cx : Nat) (lx : List Int) (f : Int) (w : World) (hno : no = lo.length) (hnx : nx = lx.length) (ho1 : no ≤ co) (_ho2 : co ≤ 9223372036854775807) (_hx1 : nx ≤ cx) (_hx2 : cx ≤ 9223372036854775807)
    (ha : Arr w g off lo) (hx : Rd w ax lx) (hne : lx ≠ [] → ∀ b' off', ax = some ⟨b', off', none⟩ → b' ≠ g) (hll : Lim B64 lo) (hlx : Lim B64 lx) (hle : nx ≤ no) (hf0 : 0 ≤ f) (hf1 : f ≤ 18446744073709551615) :
    Calls Tryz.prog 93 #[.slice (some ⟨g, off, none⟩) no co, .slice ax nx cx, .int .u64 f] w fun e w' => RetAP g off no nx lo (vb B64 lx * f) w e w' := by
  have HNO := Lib.hid hno
  have HNX := Lib.hid hnx
  clear hno hnx
  have hxc : nx ≤ co := by omega
  go_enter Tryz.func93, Tryz.ntmps93
  go_wp2
  go_loopw [7, 19] (fun cc ii wr => ∃ (k : Nat) (c : Int) (l : List Int), k ≤ nx ∧ ii = .int .i64 k ∧ cc = .int .u64 c ∧ 0 ≤ c ∧ c ≤ 18446744073709551615 ∧ Hid (l.length = no) ∧ Lim B64 l ∧ Arr wr g off l ∧ Only g off (off + nx) w wr ∧ Hid (l.drop k = lo.drop k) ∧ Hid (vb B64 (l.take k) + B64 ^ k * c = vb B64 (lo.take k) + vb B64 (lx.take k) * f))
    (fun _ ii _ => nx - (intOf ii).toNat)
  case atStart => exact ⟨0, 0, lo, Nat.zero_le _, rfl, rfl, Int.le_refl _, by decide, HNO.out.symm, hll, ha, Only.refl _ _ _ _, rfl, by show _ = _; simp⟩
  case round =>
    obtain ⟨k, c, l, hk, rfl, rfl, hc0, hc1, HL, hlim, harr, honly, HD, HV⟩ := hrel
    by_cases hlt : k < nx
    · have hlx0 : lx ≠ [] := by intro e; have := HNX.out; rw [e] at this; simp at this; omega
      obtain ⟨b', off', rfl, hat⟩ := hx.cases hlx0
      have hne' := hne hlx0 b' off' rfl
      obtain ⟨x, hxe⟩ : ∃ x, x = lx.getD k 0 := ⟨_, rfl⟩
      obtain ⟨y, hye⟩ : ∃ y, y = lo.getD k 0 := ⟨_, rfl⟩
      have hkx : k < lx.length := by rw [← HNX.out]; exact hlt
      have hkl : k < lo.length := by rw [← HNO.out]; omega
      have hym : l.getD k 0 = y := by
        have := congrArg (fun z => List.getD z 0 0) HD.out
        simp only [getD_drop, Nat.add_zero] at this
        rw [hye, this]
      have hcx : wr.cell? ⟨b', off' + k, none⟩ = some (.int .u64 x) := by rw [hxe]; exact honly.at' hat hne' k hkx
      have hcy : wr.cell? ⟨g, off + k, none⟩ = some (.int .u64 y) := by rw [← hym]; exact harr.at' k (by rw [HL.out]; omega)
      have hfr := harr.frozen (off + k)
      have bx : 0 ≤ x ∧ x < B64 := by rw [hxe]; exact hlx.getD B64_pos k
      have bY : 0 ≤ y ∧ y < B64 := by rw [hye]; exact hll.getD B64_pos k
      have bx0 : 0 ≤ x := bx.1
      have bx1 : x ≤ 18446744073709551615 := by have := bx.2; unfold B64 at this; omega
      have by1 : y ≤ 18446744073709551615 := by have := bY.2; unfold B64 at this; omega
      have by0 : 0 ≤ y := bY.1
      have HMU := Lib.hid (mul64_any x f wr bx0 bx1 hf0 hf1)
      obtain ⟨p, hp⟩ : ∃ p, p = x * f := ⟨_, rfl⟩
      have hp01 := word_prod bx0 bx1 hf0 hf1
      rw [← hp] at HMU hp01
      obtain ⟨hp0, hp1⟩ := hp01
      obtain ⟨hi, hhi⟩ : ∃ hi, hi = p / 18446744073709551616 := ⟨_, rfl⟩
      obtain ⟨lw, hlw⟩ : ∃ lw, lw = p % 18446744073709551616 := ⟨_, rfl⟩
      rw [← hhi, ← hlw] at HMU
      have hlw0 : 0 ≤ lw ∧ lw < B64 := by unfold B64; omega
      have hcB : 0 ≤ c ∧ c < B64 := by unfold B64; omega
      have hadd1 := add64_run lw c 0 hlw0 hcB ⟨Int.le_refl 0, by decide⟩
      have cb1 := hi64_carry hlw0 hcB ⟨Int.le_refl 0, by decide⟩
      have lh1 := lohi (lw + c)
      have ll1 := lo64_lim (lw + c)
      rw [Int.add_zero] at hadd1 cb1
      obtain ⟨c1, hc1e⟩ : ∃ c1, c1 = hi64 (lw + c) := ⟨_, rfl⟩
      obtain ⟨m1, hm1⟩ : ∃ m1, m1 = lo64 (lw + c) := ⟨_, rfl⟩
      rw [← hc1e] at hadd1 cb1 lh1
      rw [← hm1] at hadd1 lh1 ll1
      have hadd2 := add64_run y m1 0 bY ll1 ⟨Int.le_refl 0, by decide⟩
      have cb2 := hi64_carry bY ll1 ⟨Int.le_refl 0, by decide⟩
      have lh2 := lohi (y + m1)
      have ll2 := lo64_lim (y + m1)
      rw [Int.add_zero] at hadd2 cb2
      obtain ⟨c2, hc2e⟩ : ∃ c2, c2 = hi64 (y + m1) := ⟨_, rfl⟩
      obtain ⟨s, hse⟩ : ∃ s, s = lo64 (y + m1) := ⟨_, rfl⟩
      rw [← hc2e] at hadd2 cb2 lh2
      rw [← hse] at hadd2 lh2 ll2
      have htot : s + B64 * (hi + c1 + c2) = y + x * f + c := by
        rw [← hp, Int.mul_add, Int.mul_add]
        unfold B64 at *
        omega
      have hd1 : hi + c1 + c2 ≤ 18446744073709551615 := by
        rw [← hp, Int.mul_add, Int.mul_add] at htot
        unfold B64 at *
        omega
      have hst := ap_step (l := l) (lo := lo) (lx := lx) (k := k) (c := c) (x := x) (y := y) (f := f) (s := s) (d := hi + c1 + c2) (by rw [HL.out]; omega) hkl hkx hxe hye htot HV.out
      have hhi0 : 0 ≤ hi := by omega
      obtain ⟨hc10, hc11⟩ := cb1
      obtain ⟨hc20, hc21⟩ := cb2
      have HST := Lib.hid hst
      have HLL2 := Lib.hid ll2
      clear hst htot hse hc2e hm1 hc1e hlw hhi hp hp0 hp1 lh1 lh2 ll1 ll2 hlw0 hcB bY bx hxe hye hym hkx hkl hne' hat
      go_wp2_with (go_at_call 102; refine HMU.out.mono ?_; rintro e w' ⟨rfl, rfl⟩)
      go_roundw
      case rel =>
        refine ⟨k + 1, hi + c1 + c2, l.set k s, by omega, by go_num, rfl, by omega, hd1, ?_, hlim.set k HLL2.out.1 HLL2.out.2, harr.store k s, honly.trans (Only.store _ _ (by omega) (by omega)), ?_, HST.out⟩
        · show _ = _
          rw [List.length_set]; exact HL.out
        · show _ = _
          have e := congrArg (List.drop 1) HD.out
          rw [List.drop_drop, List.drop_drop] at e
          rw [List.drop_set_of_lt (by omega)]
          exact e
      case measure => simp [intOf]; omega
    · have hkn : k = nx := by omega
      have hv : vb B64 (l.take nx) + B64 ^ nx * c = vb B64 (lo.take nx) + vb B64 lx * f := by
        have h8 := HV.out
        rwa [hkn, List.take_of_length_le (l := lx) (by rw [← HNX.out]; exact Nat.le_refl _)] at h8
      have hd : l.drop nx = lo.drop nx := by rw [← hkn]; exact HD.out
      have HV2 := Lib.hid hv
      have HD2 := Lib.hid hd
      clear hv hd HV HD hkn
      go_wp2
      go_ret
      exact ⟨c, l, rfl, hc0, by unfold B64; omega, HL.out, hlim, harr, HD2.out, HV2.out, honly⟩


theorem sp_step {l lo lx : List Int} {k : Nat} {c x y f s d : Int} (hk : k < l.length) (hkl : k < lo.length) (hkx : k < lx.length) (hx : x = lx.getD k 0) (hy : y = lo.getD k 0) (hs : s - B64 * d = y - x * f - c)
    (h : vb B64 (l.take k) - B64 ^ k * c = vb B64 (lo.take k) - vb B64 (lx.take k) * f) :
    vb B64 ((l.set k s).take (k + 1)) - B64 ^ (k + 1) * d = vb B64 (lo.take (k + 1)) - vb B64 (lx.take (k + 1)) * f := by
  rw [vb_take_succ B64 hkl, vb_take_succ B64 hkx, vb_take_succ B64 (by rw [List.length_set]; exact hk), getD_set_same hk, List.take_set_of_le (Nat.le_refl _), ← hx, ← hy, Int.pow_succ, Int.mul_assoc, Int.add_mul, Int.mul_assoc]
  have e : B64 ^ k * s - B64 ^ k * (B64 * d) = B64 ^ k * y - B64 ^ k * (x * f) - B64 ^ k * c := by rw [← Int.mul_sub, hs, Int.mul_sub, Int.mul_sub]
  omega

/-- What nat.subProduct leaves. -/
def RetSP (g off no nx : Nat) (lo : List Int) (N : Int) (w : World) (e : Ending) (w' : World) : Prop :=
  ∃ c l, e = .returned (.int .u64 c) ∧ 0 ≤ c ∧ c < B64 ∧ l.length = no ∧ Lim B64 l ∧ Arr w' g off l ∧ l.drop nx = lo.drop nx ∧ vb B64 (l.take nx) - B64 ^ nx * c = vb B64 (lo.take nx) - N ∧ Only g off (off + nx) w w'

set_option maxRecDepth 100000 in
set_option maxHeartbeats 4000000 in
theorem subProduct_any (g off no co : Nat) (lo : List Int) (ax : Option Addr) (nx cx : Nat) (lx : List Int) (f : Int) (w : World) (hno : no = lo.length) (hnx : nx = lx.length) (ho1 : no ≤ co) (_ho2 : co ≤ 9223372036854775807) (_hx1 : nx ≤ cx) (_hx2 : cx ≤ 9223372036854775807)
    (ha : Arr w g off lo) (hx : Rd w ax lx) (hne : lx ≠ [] → ∀ b' off', ax = some ⟨b', off', none⟩ → b' ≠ g) (hll : Lim B64 lo) (hlx : Lim B64 lx) (hle : nx ≤ no) (hf0 : 0 ≤ f) (hf1 : f ≤ 18446744073709551615) :
    Calls Tryz.prog 104 #[.slice (some ⟨g, off, none⟩) no co, .slice ax nx cx, .int .u64 f] w fun e w' => RetSP g off no nx lo (vb B64 lx * f) w e w' := by
  have HNO := Lib.hid hno
  have HNX := Lib.hid hnx
  clear hno hnx
  have hxc : nx ≤ co := by omega
  go_enter Tryz.func104, Tryz.ntmps104
  go_wp2
  go_loopw [7, 19] (fun cc ii wr => ∃ (k : Nat) (c : Int) (l : List Int), k ≤ nx ∧ ii = .int .i64 k ∧ cc = .int .u64 c ∧ 0 ≤ c ∧ c ≤ 18446744073709551615 ∧ Hid (l.length = no) ∧ Lim B64 l ∧ Arr wr g off l ∧ Only g off (off + nx) w wr ∧ Hid (l.drop k = lo.drop k) ∧ Hid (vb B64 (l.take k) - B64 ^ k * c = vb B64 (lo.take k) - vb B64 (lx.take k) * f))
    (fun _ ii _ => nx - (intOf ii).toNat)
  case atStart => exact ⟨0, 0, lo, Nat.zero_le _, rfl, rfl, Int.le_refl _, by decide, HNO.out.symm, hll, ha, Only.refl _ _ _ _, rfl, by show _ = _; simp⟩
  case round =>
    obtain ⟨k, c, l, hk, rfl, rfl, hc0, hc1, HL, hlim, harr, honly, HD, HV⟩ := hrel
    by_cases hlt : k < nx
    · have hlx0 : lx ≠ [] := by intro e; have := HNX.out; rw [e] at this; simp at this; omega
      obtain ⟨b', off', rfl, hat⟩ := hx.cases hlx0
      have hne' := hne hlx0 b' off' rfl
      obtain ⟨x, hxe⟩ : ∃ x, x = lx.getD k 0 := ⟨_, rfl⟩
      obtain ⟨y, hye⟩ : ∃ y, y = lo.getD k 0 := ⟨_, rfl⟩
      have hkx : k < lx.length := by rw [← HNX.out]; exact hlt
      have hkl : k < lo.length := by rw [← HNO.out]; omega
      have hym : l.getD k 0 = y := by
        have := congrArg (fun z => List.getD z 0 0) HD.out
        simp only [getD_drop, Nat.add_zero] at this
        rw [hye, this]
      have hcx : wr.cell? ⟨b', off' + k, none⟩ = some (.int .u64 x) := by rw [hxe]; exact honly.at' hat hne' k hkx
      have hcy : wr.cell? ⟨g, off + k, none⟩ = some (.int .u64 y) := by rw [← hym]; exact harr.at' k (by rw [HL.out]; omega)
      have hfr := harr.frozen (off + k)
      have bx : 0 ≤ x ∧ x < B64 := by rw [hxe]; exact hlx.getD B64_pos k
      have bY : 0 ≤ y ∧ y < B64 := by rw [hye]; exact hll.getD B64_pos k
      have bx0 : 0 ≤ x := bx.1
      have bx1 : x ≤ 18446744073709551615 := by have := bx.2; unfold B64 at this; omega
      have by1 : y ≤ 18446744073709551615 := by have := bY.2; unfold B64 at this; omega
      have by0 : 0 ≤ y := bY.1
      have HMU := Lib.hid (mul64_any x f wr bx0 bx1 hf0 hf1)
      obtain ⟨p, hp⟩ : ∃ p, p = x * f := ⟨_, rfl⟩
      have hp01 := word_prod bx0 bx1 hf0 hf1
      rw [← hp] at HMU hp01
      obtain ⟨hp0, hp1⟩ := hp01
      obtain ⟨hi, hhi⟩ : ∃ hi, hi = p / 18446744073709551616 := ⟨_, rfl⟩
      obtain ⟨lw, hlw⟩ : ∃ lw, lw = p % 18446744073709551616 := ⟨_, rfl⟩
      rw [← hhi, ← hlw] at HMU
      have hlw0 : 0 ≤ lw ∧ lw < B64 := by unfold B64; omega
      have hcB : 0 ≤ c ∧ c < B64 := by unfold B64; omega
      have hadd1 := add64_run lw c 0 hlw0 hcB ⟨Int.le_refl 0, by decide⟩
      have cb1 := hi64_carry hlw0 hcB ⟨Int.le_refl 0, by decide⟩
      have lh1 := lohi (lw + c)
      have ll1 := lo64_lim (lw + c)
      rw [Int.add_zero] at hadd1 cb1
      obtain ⟨c1, hc1e⟩ : ∃ c1, c1 = hi64 (lw + c) := ⟨_, rfl⟩
      obtain ⟨m1, hm1⟩ : ∃ m1, m1 = lo64 (lw + c) := ⟨_, rfl⟩
      rw [← hc1e] at hadd1 cb1 lh1
      rw [← hm1] at hadd1 lh1 ll1
      have hadd2 := sub64_run y m1 0 bY ll1 ⟨Int.le_refl 0, by decide⟩
      have cb2 := bo64_carry bY ll1 ⟨Int.le_refl 0, by decide⟩
      have lh2 := lobo (y - m1)
      have ll2 := lo64_lim (y - m1)
      rw [Int.sub_zero] at hadd2 cb2
      obtain ⟨c2, hc2e⟩ : ∃ c2, c2 = bo64 (y - m1) := ⟨_, rfl⟩
      obtain ⟨s, hse⟩ : ∃ s, s = lo64 (y - m1) := ⟨_, rfl⟩
      rw [← hc2e] at hadd2 cb2 lh2
      rw [← hse] at hadd2 lh2 ll2
      have htot : s - B64 * (hi + c1 + c2) = y - x * f - c := by
        rw [← hp, Int.mul_add, Int.mul_add]
        unfold B64 at *
        omega
      have hd1 : hi + c1 + c2 ≤ 18446744073709551615 := by
        rw [← hp, Int.mul_add, Int.mul_add] at htot
        unfold B64 at *
        omega
      have hst := sp_step (l := l) (lo := lo) (lx := lx) (k := k) (c := c) (x := x) (y := y) (f := f) (s := s) (d := hi + c1 + c2) (by rw [HL.out]; omega) hkl hkx hxe hye htot HV.out
      have hhi0 : 0 ≤ hi := by omega
      obtain ⟨hc10, hc11⟩ := cb1
      obtain ⟨hc20, hc21⟩ := cb2
      have HST := Lib.hid hst
      have HLL2 := Lib.hid ll2
      clear hst htot hse hc2e hm1 hc1e hlw hhi hp hp0 hp1 lh1 lh2 ll1 ll2 hlw0 hcB bY bx hxe hye hym hkx hkl hne' hat
      go_wp2_with (go_at_call 102; refine HMU.out.mono ?_; rintro e w' ⟨rfl, rfl⟩)
      go_roundw
      case rel =>
        refine ⟨k + 1, hi + c1 + c2, l.set k s, by omega, by go_num, rfl, by omega, hd1, ?_, hlim.set k HLL2.out.1 HLL2.out.2, harr.store k s, honly.trans (Only.store _ _ (by omega) (by omega)), ?_, HST.out⟩
        · show _ = _
          rw [List.length_set]; exact HL.out
        · show _ = _
          have e := congrArg (List.drop 1) HD.out
          rw [List.drop_drop, List.drop_drop] at e
          rw [List.drop_set_of_lt (by omega)]
          exact e
      case measure => simp [intOf]; omega
    · have hkn : k = nx := by omega
      have hv : vb B64 (l.take nx) - B64 ^ nx * c = vb B64 (lo.take nx) - vb B64 lx * f := by
        have h8 := HV.out
        rwa [hkn, List.take_of_length_le (l := lx) (by rw [← HNX.out]; exact Nat.le_refl _)] at h8
      have hd : l.drop nx = lo.drop nx := by rw [← hkn]; exact HD.out
      have HV2 := Lib.hid hv
      have HD2 := Lib.hid hd
      clear hv hd HV HD hkn
      go_wp2
      go_ret
      exact ⟨c, l, rfl, hc0, by unfold B64; omega, HL.out, hlim, harr, HD2.out, HV2.out, honly⟩

end Go.Proofs.YthfcncapgfkkjaaGreatDoor

namespace Go.Proofs.YthfcncapgfkkjaaGreatDoor
open Go.RowKit

/-- What nat.guessLimb returns: the quotient of U by V, but no more than a word holds. -/
def RetGuess (U V : Int) (w : World) (e : Ending) (w' : World) : Prop :=
  ∃ G : Int, e = .returned (.int .u64 G) ∧ 0 ≤ G ∧ G ≤ 18446744073709551615 ∧ G * V ≤ U ∧ (G = 18446744073709551615 ∨ U < (G + 1) * V) ∧ Below w.heap.size w w'

theorem guess_ok {a2 a1 a0 b1 b0 G R o : Int} (h : a2 * 18446744073709551616 + a1 = G * b1 + R + o * 18446744073709551616) (hle : G * b0 ≤ (R + o * 18446744073709551616) * 18446744073709551616 + a0) :
    G * (b1 * 18446744073709551616 + b0) ≤ (a2 * 18446744073709551616 + a1) * 18446744073709551616 + a0 := by
  rw [Int.mul_add, ← Int.mul_assoc, h]
  generalize G * b1 = p at *
  generalize G * b0 = q at *
  omega
theorem guess_more {a2 a1 a0 b1 b0 G R : Int} (h : a2 * 18446744073709551616 + a1 = G * b1 + R) (hgt : R * 18446744073709551616 + a0 < G * b0) :
    (a2 * 18446744073709551616 + a1) * 18446744073709551616 + a0 < ((G - 1) + 1) * (b1 * 18446744073709551616 + b0) := by
  rw [Int.sub_add_cancel, Int.mul_add, ← Int.mul_assoc, h]
  generalize G * b1 = p at *
  generalize G * b0 = q at *
  omega

set_option maxRecDepth 100000 in
set_option maxHeartbeats 4000000 in
/-- The loop, from any state that fits. -/
theorem guess_first {a2 a1 b1 : Int} (h0 : 0 ≤ a2) (h1 : 0 ≤ a1) (h1' : a1 ≤ 18446744073709551615) (hlt : a2 < b1) :
    0 ≤ (a2 * 18446744073709551616 + a1) / b1 ∧ (a2 * 18446744073709551616 + a1) / b1 ≤ 18446744073709551615 ∧ 0 ≤ (a2 * 18446744073709551616 + a1) % b1 ∧ (a2 * 18446744073709551616 + a1) % b1 < b1 ∧ a2 * 18446744073709551616 + a1 = (a2 * 18446744073709551616 + a1) / b1 * b1 + (a2 * 18446744073709551616 + a1) % b1 := by
  have e := Int.mul_ediv_add_emod (a2 * 18446744073709551616 + a1) b1
  have hb : 0 < b1 := by omega
  refine ⟨Int.ediv_nonneg (by omega) (by omega), ?_, Int.emod_nonneg _ (by omega), Int.emod_lt_of_pos _ hb, by rw [Int.mul_comm] at e; omega⟩
  have : (a2 * 18446744073709551616 + a1) / b1 < 18446744073709551616 := Int.ediv_lt_of_lt_mul hb (by omega)
  omega

set_option maxRecDepth 100000 in
set_option maxHeartbeats 4000000 in
theorem guess_lt (a2 a1 a0 b1 b0 : Int) (w : World) (p2 : 0 ≤ a2) (p1 : 0 ≤ a1) (p1' : a1 ≤ 18446744073709551615) (p0 : 0 ≤ a0) (p0' : a0 ≤ 18446744073709551615) (q1' : b1 ≤ 18446744073709551615) (q0 : 0 ≤ b0) (q0' : b0 ≤ 18446744073709551615) (hlt : a2 < b1) :
    Calls Tryz.prog 103 #[.int .u64 a2, .int .u64 a1, .int .u64 a0, .int .u64 b1, .int .u64 b0] w fun e w' => RetGuess ((a2 * 18446744073709551616 + a1) * 18446744073709551616 + a0) (b1 * 18446744073709551616 + b0) w e w' := by
  have HD := div64_any a2 a1 b1 w p2 p1 p1' (by omega) q1' hlt
  obtain ⟨f1, f2, f3, f4, f5⟩ := guess_first p2 p1 p1' hlt
  obtain ⟨G0, hG0⟩ : ∃ G0, G0 = (a2 * 18446744073709551616 + a1) / b1 := ⟨_, rfl⟩
  obtain ⟨R0, hR0⟩ : ∃ R0, R0 = (a2 * 18446744073709551616 + a1) % b1 := ⟨_, rfl⟩
  rw [← hG0, ← hR0] at HD f5
  rw [← hG0] at f1 f2
  rw [← hR0] at f3 f4
  have HD' := Lib.hid HD
  have hfirst : (a2 * 18446744073709551616 + a1) * 18446744073709551616 + a0 < (G0 + 1) * (b1 * 18446744073709551616 + b0) := by
    rw [Int.add_mul G0 1, Int.one_mul, Int.mul_add G0, ← Int.mul_assoc, f5]
    have := Int.mul_nonneg f1 q0
    generalize G0 * b1 = p at *
    generalize G0 * b0 = q at *
    omega
  have F5 := Lib.hid f5
  have FF := Lib.hid hfirst
  clear HD hG0 hR0 f5 hfirst
  go_enter Tryz.func103, Tryz.ntmps103
  go_wp2_with fail
  refine HD'.out.mono ?_
  rintro e w1 ⟨rfl, hb1⟩
  go_wp2_with fail
  go_loopw [11, 12, 13] (fun vg vr vo wr => ∃ (G R o : Int), vg = .int .u64 G ∧ vr = .int .u64 R ∧ vo = .int .u64 o ∧ 0 ≤ G ∧ G ≤ 18446744073709551615 ∧ 0 ≤ R ∧ R ≤ 18446744073709551615 ∧ 0 ≤ o ∧ o ≤ 1 ∧ Hid (a2 * 18446744073709551616 + a1 = G * b1 + R + o * 18446744073709551616) ∧ Hid (G = 18446744073709551615 ∨ (a2 * 18446744073709551616 + a1) * 18446744073709551616 + a0 < (G + 1) * (b1 * 18446744073709551616 + b0)) ∧ Below w.heap.size w wr)
    (fun vg _ _ _ => (intOf vg).toNat)
  case atStart => exact ⟨G0, R0, 0, rfl, rfl, rfl, f1, f2, f3, by omega, Int.le_refl _, by decide, by show _ = _; have := F5.out; omega, Or.inr FF.out, hb1⟩
  case round =>
    obtain ⟨G, R, o, rfl, rfl, rfl, g0, g1, r0, r1, o0, o1, HI, HU, hb⟩ := hrel
    by_cases ho : o = 0
    · subst ho
      have hoe : ((0 : Int) == 0) = true := rfl
      have HMU := Lib.hid (mul64_any G b0 wr g0 g1 q0 q0')
      have hpp := word_prod g0 g1 q0 q0'
      obtain ⟨p, hp⟩ : ∃ p, p = G * b0 := ⟨_, rfl⟩
      rw [← hp] at HMU hpp
      obtain ⟨hi, hhi⟩ : ∃ hi, hi = p / 18446744073709551616 := ⟨_, rfl⟩
      obtain ⟨lw, hlw⟩ : ∃ lw, lw = p % 18446744073709551616 := ⟨_, rfl⟩
      rw [← hhi, ← hlw] at HMU
      have hsum : p = hi * 18446744073709551616 + lw := by omega
      have hlw0 : 0 ≤ lw := by omega
      have hlw1 : lw ≤ 18446744073709551615 := by omega
      have hhi0 : 0 ≤ hi := by omega
      have hhi1 : hi ≤ 18446744073709551615 := by omega
      have hI0 : a2 * 18446744073709551616 + a1 = G * b1 + R := by have := HI.out; omega
      by_cases hc : p ≤ R * 18446744073709551616 + a0
      · have hok := guess_ok (o := 0) HI.out (show G * b0 ≤ (R + 0 * 18446744073709551616) * 18446744073709551616 + a0 by rw [← hp]; omega)
        have HOK := Lib.hid hok
        by_cases hc1 : hi < R
        · clear hok hp hhi hlw hsum hpp hI0 hc
          go_wp2_with (go_at_call 102; refine HMU.out.mono ?_; rintro e w' ⟨rfl, rfl⟩)
          go_ret
          exact ⟨G, rfl, g0, g1, HOK.out, HU.out, hb⟩
        · have hc2 : hi = R := by omega
          have hc3 : lw ≤ a0 := by omega
          subst hc2
          have hself : (hi == hi) = true := by simp
          clear hok hp hhi hlw hsum hpp hI0 hc hc1
          go_wp2_with (go_at_call 102; refine HMU.out.mono ?_; rintro e w' ⟨rfl, rfl⟩)
          go_ret
          exact ⟨G, rfl, g0, g1, HOK.out, HU.out, hb⟩
      · have hmore := guess_more hI0 (show R * 18446744073709551616 + a0 < G * b0 by rw [← hp]; omega)
        have hG1 : 1 ≤ G := by
          rcases Int.lt_or_le G 1 with h | h
          · have : G = 0 := by omega
            rw [this, Int.zero_mul] at hp
            omega
          · exact h
        have bR : 0 ≤ R ∧ R < B64 := by unfold B64; omega
        have bb1 : 0 ≤ b1 ∧ b1 < B64 := by unfold B64; omega
        have hadd := add64_run R b1 0 bR bb1 ⟨Int.le_refl 0, by decide⟩
        have cb := hi64_carry bR bb1 ⟨Int.le_refl 0, by decide⟩
        have lh := lohi (R + b1)
        have ll := lo64_lim (R + b1)
        rw [Int.add_zero] at hadd cb
        obtain ⟨o2, ho2⟩ : ∃ o2, o2 = hi64 (R + b1) := ⟨_, rfl⟩
        obtain ⟨R2, hR2⟩ : ∃ R2, R2 = lo64 (R + b1) := ⟨_, rfl⟩
        rw [← ho2] at hadd cb lh
        rw [← hR2] at hadd lh ll
        have hI2 : a2 * 18446744073709551616 + a1 = (G - 1) * b1 + R2 + o2 * 18446744073709551616 := by
          rw [hI0, Int.sub_mul, Int.one_mul]
          unfold B64 at lh
          omega
        have HI2 := Lib.hid hI2
        have HMORE := Lib.hid hmore
        have HLL := Lib.hid ll
        have HCB := Lib.hid cb
        by_cases hc1 : R < hi
        · have hc2 : ¬ hi < R := by omega
          have hc3 : (hi == R) = false := by rw [beq_eq_false_iff_ne]; omega
          clear hmore hp hhi hlw hsum hpp hI0 hc bR bb1 cb lh ll ho2 hR2 hI2
          go_wp2_with (go_at_call 102; refine HMU.out.mono ?_; rintro e w' ⟨rfl, rfl⟩)
          go_roundw
          case rel => exact ⟨G - 1, R2, o2, by go_num, rfl, rfl, by omega, by omega, HLL.out.1, by have := HLL.out.2; unfold B64 at this; omega, HCB.out.1, HCB.out.2, HI2.out, Or.inr HMORE.out, hb⟩
          case measure => simp [intOf]; omega
        · have hc2 : hi = R := by omega
          have hc3 : ¬ lw ≤ a0 := by omega
          subst hc2
          have hself : (hi == hi) = true := by simp
          clear hmore hp hhi hlw hsum hpp hI0 hc bR bb1 cb lh ll ho2 hR2 hI2 hc1
          go_wp2_with (go_at_call 102; refine HMU.out.mono ?_; rintro e w' ⟨rfl, rfl⟩)
          go_roundw
          case rel => exact ⟨G - 1, R2, o2, by go_num, rfl, rfl, by omega, by omega, HLL.out.1, by have := HLL.out.2; unfold B64 at this; omega, HCB.out.1, HCB.out.2, HI2.out, Or.inr HMORE.out, hb⟩
          case measure => simp [intOf]; omega
    · have hoe : (o == 0) = false := by rw [beq_eq_false_iff_ne]; exact ho
      have hok := guess_ok (b0 := b0) (a0 := a0) HI.out (by
        have hpp := word_prod g0 g1 q0 q0'
        have : o = 1 := by omega
        subst this
        generalize G * b0 = p at *
        omega)
      have HOK := Lib.hid hok
      clear hok
      go_wp2
      go_ret
      exact ⟨G, rfl, g0, g1, HOK.out, HU.out, hb⟩

set_option maxRecDepth 100000 in
set_option maxHeartbeats 4000000 in
theorem guess_eq (a1 a0 b1 b0 : Int) (w : World) (p1 : 0 ≤ a1) (p1' : a1 ≤ 18446744073709551615) (p0 : 0 ≤ a0) (p0' : a0 ≤ 18446744073709551615) (q1 : 0 ≤ b1) (q1' : b1 ≤ 18446744073709551615) (q0 : 0 ≤ b0) (q0' : b0 ≤ 18446744073709551615) :
    Calls Tryz.prog 103 #[.int .u64 b1, .int .u64 a1, .int .u64 a0, .int .u64 b1, .int .u64 b0] w fun e w' => RetGuess ((b1 * 18446744073709551616 + a1) * 18446744073709551616 + a0) (b1 * 18446744073709551616 + b0) w e w' := by
  have bA : 0 ≤ a1 ∧ a1 < B64 := by unfold B64; omega
  have bb : 0 ≤ b1 ∧ b1 < B64 := by unfold B64; omega
  have hadd0 := add64_run a1 b1 0 bA bb ⟨Int.le_refl 0, by decide⟩
  have cb0 := hi64_carry bA bb ⟨Int.le_refl 0, by decide⟩
  have lh0 := lohi (a1 + b1)
  have ll0 := lo64_lim (a1 + b1)
  rw [Int.add_zero] at hadd0 cb0
  obtain ⟨o5, ho5⟩ : ∃ o5, o5 = hi64 (a1 + b1) := ⟨_, rfl⟩
  obtain ⟨R5, hR5⟩ : ∃ R5, R5 = lo64 (a1 + b1) := ⟨_, rfl⟩
  rw [← ho5] at hadd0 cb0 lh0
  rw [← hR5] at hadd0 lh0 ll0
  obtain ⟨a2, ha2⟩ : ∃ a2, a2 = b1 := ⟨_, rfl⟩
  have F5 : Hid (a2 * 18446744073709551616 + a1 = 18446744073709551615 * b1 + R5 + o5 * 18446744073709551616) := by
    show _ = _
    unfold B64 at lh0
    omega
  have ll1 : R5 ≤ 18446744073709551615 := by have := ll0.2; unfold B64 at this; omega
  obtain ⟨ll2, _⟩ := ll0
  obtain ⟨cb1, cb2⟩ := cb0
  have HA2 := Lib.hid ha2
  have hnlt : ¬ b1 < b1 := by omega
  have goal2 : ∀ e w', RetGuess ((a2 * 18446744073709551616 + a1) * 18446744073709551616 + a0) (b1 * 18446744073709551616 + b0) w e w' → RetGuess ((b1 * 18446744073709551616 + a1) * 18446744073709551616 + a0) (b1 * 18446744073709551616 + b0) w e w' := by
    intro e w' h
    rwa [ha2] at h
  refine Calls.mono (R := fun e w' => RetGuess ((a2 * 18446744073709551616 + a1) * 18446744073709551616 + a0) (b1 * 18446744073709551616 + b0) w e w') ?_ goal2
  clear goal2 ha2 lh0 ho5 hR5 bA bb
  go_enter Tryz.func103, Tryz.ntmps103
  go_wp2_with fail
  go_loopw [11, 12, 13] (fun vg vr vo wr => ∃ (G R o : Int), vg = .int .u64 G ∧ vr = .int .u64 R ∧ vo = .int .u64 o ∧ 0 ≤ G ∧ G ≤ 18446744073709551615 ∧ 0 ≤ R ∧ R ≤ 18446744073709551615 ∧ 0 ≤ o ∧ o ≤ 1 ∧ Hid (a2 * 18446744073709551616 + a1 = G * b1 + R + o * 18446744073709551616) ∧ Hid (G = 18446744073709551615 ∨ (a2 * 18446744073709551616 + a1) * 18446744073709551616 + a0 < (G + 1) * (b1 * 18446744073709551616 + b0)) ∧ Below w.heap.size w wr)
    (fun vg _ _ _ => (intOf vg).toNat)
  case atStart => exact ⟨18446744073709551615, R5, o5, rfl, rfl, rfl, by decide, Int.le_refl _, ll2, ll1, cb1, cb2, F5, Or.inl rfl, Below.refl _ _⟩
  case round =>
    obtain ⟨G, R, o, rfl, rfl, rfl, g0, g1, r0, r1, o0, o1, HI, HU, hb⟩ := hrel
    by_cases ho : o = 0
    · subst ho
      have hoe : ((0 : Int) == 0) = true := rfl
      have HMU := Lib.hid (mul64_any G b0 wr g0 g1 q0 q0')
      have hpp := word_prod g0 g1 q0 q0'
      obtain ⟨p, hp⟩ : ∃ p, p = G * b0 := ⟨_, rfl⟩
      rw [← hp] at HMU hpp
      obtain ⟨hi, hhi⟩ : ∃ hi, hi = p / 18446744073709551616 := ⟨_, rfl⟩
      obtain ⟨lw, hlw⟩ : ∃ lw, lw = p % 18446744073709551616 := ⟨_, rfl⟩
      rw [← hhi, ← hlw] at HMU
      have hsum : p = hi * 18446744073709551616 + lw := by omega
      have hlw0 : 0 ≤ lw := by omega
      have hlw1 : lw ≤ 18446744073709551615 := by omega
      have hhi0 : 0 ≤ hi := by omega
      have hhi1 : hi ≤ 18446744073709551615 := by omega
      have hI0 : a2 * 18446744073709551616 + a1 = G * b1 + R := by have := HI.out; omega
      by_cases hc : p ≤ R * 18446744073709551616 + a0
      · have hok := guess_ok (o := 0) HI.out (show G * b0 ≤ (R + 0 * 18446744073709551616) * 18446744073709551616 + a0 by rw [← hp]; omega)
        have HOK := Lib.hid hok
        by_cases hc1 : hi < R
        · clear hok hp hhi hlw hsum hpp hI0 hc
          go_wp2_with (go_at_call 102; refine HMU.out.mono ?_; rintro e w' ⟨rfl, rfl⟩)
          go_ret
          exact ⟨G, rfl, g0, g1, HOK.out, HU.out, hb⟩
        · have hc2 : hi = R := by omega
          have hc3 : lw ≤ a0 := by omega
          subst hc2
          have hself : (hi == hi) = true := by simp
          clear hok hp hhi hlw hsum hpp hI0 hc hc1
          go_wp2_with (go_at_call 102; refine HMU.out.mono ?_; rintro e w' ⟨rfl, rfl⟩)
          go_ret
          exact ⟨G, rfl, g0, g1, HOK.out, HU.out, hb⟩
      · have hmore := guess_more hI0 (show R * 18446744073709551616 + a0 < G * b0 by rw [← hp]; omega)
        have hG1 : 1 ≤ G := by
          rcases Int.lt_or_le G 1 with h | h
          · have : G = 0 := by omega
            rw [this, Int.zero_mul] at hp
            omega
          · exact h
        have bR : 0 ≤ R ∧ R < B64 := by unfold B64; omega
        have bb1 : 0 ≤ b1 ∧ b1 < B64 := by unfold B64; omega
        have hadd := add64_run R b1 0 bR bb1 ⟨Int.le_refl 0, by decide⟩
        have cb := hi64_carry bR bb1 ⟨Int.le_refl 0, by decide⟩
        have lh := lohi (R + b1)
        have ll := lo64_lim (R + b1)
        rw [Int.add_zero] at hadd cb
        obtain ⟨o2, ho2⟩ : ∃ o2, o2 = hi64 (R + b1) := ⟨_, rfl⟩
        obtain ⟨R2, hR2⟩ : ∃ R2, R2 = lo64 (R + b1) := ⟨_, rfl⟩
        rw [← ho2] at hadd cb lh
        rw [← hR2] at hadd lh ll
        have hI2 : a2 * 18446744073709551616 + a1 = (G - 1) * b1 + R2 + o2 * 18446744073709551616 := by
          rw [hI0, Int.sub_mul, Int.one_mul]
          unfold B64 at lh
          omega
        have HI2 := Lib.hid hI2
        have HMORE := Lib.hid hmore
        have HLL := Lib.hid ll
        have HCB := Lib.hid cb
        by_cases hc1 : R < hi
        · have hc2 : ¬ hi < R := by omega
          have hc3 : (hi == R) = false := by rw [beq_eq_false_iff_ne]; omega
          clear hmore hp hhi hlw hsum hpp hI0 hc bR bb1 cb lh ll ho2 hR2 hI2
          go_wp2_with (go_at_call 102; refine HMU.out.mono ?_; rintro e w' ⟨rfl, rfl⟩)
          go_roundw
          case rel => exact ⟨G - 1, R2, o2, by go_num, rfl, rfl, by omega, by omega, HLL.out.1, by have := HLL.out.2; unfold B64 at this; omega, HCB.out.1, HCB.out.2, HI2.out, Or.inr HMORE.out, hb⟩
          case measure => simp [intOf]; omega
        · have hc2 : hi = R := by omega
          have hc3 : ¬ lw ≤ a0 := by omega
          subst hc2
          have hself : (hi == hi) = true := by simp
          clear hmore hp hhi hlw hsum hpp hI0 hc bR bb1 cb lh ll ho2 hR2 hI2 hc1
          go_wp2_with (go_at_call 102; refine HMU.out.mono ?_; rintro e w' ⟨rfl, rfl⟩)
          go_roundw
          case rel => exact ⟨G - 1, R2, o2, by go_num, rfl, rfl, by omega, by omega, HLL.out.1, by have := HLL.out.2; unfold B64 at this; omega, HCB.out.1, HCB.out.2, HI2.out, Or.inr HMORE.out, hb⟩
          case measure => simp [intOf]; omega
    · have hoe : (o == 0) = false := by rw [beq_eq_false_iff_ne]; exact ho
      have hok := guess_ok (b0 := b0) (a0 := a0) HI.out (by
        have hpp := word_prod g0 g1 q0 q0'
        have : o = 1 := by omega
        subst this
        generalize G * b0 = p at *
        omega)
      have HOK := Lib.hid hok
      clear hok
      go_wp2
      go_ret
      exact ⟨G, rfl, g0, g1, HOK.out, HU.out, hb⟩
end Go.Proofs.YthfcncapgfkkjaaGreatDoor
