/-
  Contract of nat.reduce: one step of the long division.
-/
import Derived.Test.YtbieldebkfkpkaaDoorGuess
import Derived.Test.YtbieldebkfkpkaaDoorMath
import Derived.Test.YtbieldebkfkpkaaDoorMulPieces
import Derived.StillTailTactics
namespace Go.Proofs.YtbieldebkfkpkaaDoor
open Go.RowKit

theorem guess_any (a2 a1 a0 b1 b0 : Int) (w : World) (p2 : 0 ≤ a2) (p1 : 0 ≤ a1) (p1' : a1 ≤ 18446744073709551615) (p0 : 0 ≤ a0) (p0' : a0 ≤ 18446744073709551615) (q1 : 0 ≤ b1) (q1' : b1 ≤ 18446744073709551615) (q0 : 0 ≤ b0) (q0' : b0 ≤ 18446744073709551615) (hle : a2 ≤ b1) :
    Calls Tryd.prog 115 #[.int .u64 a2, .int .u64 a1, .int .u64 a0, .int .u64 b1, .int .u64 b0] w fun e w' => RetGuess ((a2 * 18446744073709551616 + a1) * 18446744073709551616 + a0) (b1 * 18446744073709551616 + b0) w e w' := by
  rcases Int.lt_or_le a2 b1 with h | h
  · exact guess_lt a2 a1 a0 b1 b0 w p2 p1 p1' p0 p0' q1' q0 q0' h
  · obtain rfl : a2 = b1 := by omega
    exact guess_eq a1 a0 a2 b0 w p1 p1' p0 p0' q1 q1' q0 q0'

/-- What nat.reduce leaves. -/
def RetRed (g off n : Nat) (a b : Int) (w : World) (e : Ending) (w' : World) : Prop := e = .returned (.int .u64 (a / b)) ∧ InPl g off (n + 1) (a % b) w w'

set_option maxRecDepth 100000 in
set_option maxHeartbeats 8000000 in
theorem reduce_any (g off no co : Nat) (la : List Int) (ab : Option Addr) (n cb : Nat) (lb : List Int) (w : World) (hno : no = n + 1) (hna : no = la.length) (hnb : n = lb.length) (ho1 : no ≤ co) (ho2 : co ≤ 9223372036854775807) (hd1 : n ≤ cb) (hd2 : cb ≤ 9223372036854775807)
    (ha : Arr w g off la) (hb : Rd w ab lb) (hne : lb ≠ [] → ∀ b' off', ab = some ⟨b', off', none⟩ → b' ≠ g) (hla : Lim B64 la) (hlb : Lim B64 lb) (hn2 : 2 ≤ n) (htop : 9223372036854775808 ≤ lb.getD (n - 1) 0) (hlt : vb B64 la < 18446744073709551616 * vb B64 lb) :
    Calls Tryd.prog 110 #[.slice (some ⟨g, off, none⟩) no co, .slice ab n cb] w fun e w' => RetRed g off n (vb B64 la) (vb B64 lb) w e w' := by
  obtain ⟨m, rfl⟩ : ∃ m, n = m + 2 := ⟨n - 2, by omega⟩
  obtain ⟨n, hn⟩ : ∃ n, m + 2 = n := ⟨_, rfl⟩
  obtain ⟨m1, hm1⟩ : ∃ m1, m + 1 = m1 := ⟨_, rfl⟩
  have hlb0 : lb ≠ [] := by intro e; rw [e] at hnb; simp at hnb
  obtain ⟨b2, o2, rfl, hat⟩ := hb.cases hlb0
  have hne' := hne hlb0 b2 o2 rfl
  have t3 := top_three (l := la) (n := m) (by omega)
  have t2 := top_two (l := lb) (n := m) (by omega)
  rw [hn, hm1] at t3
  rw [hm1] at t2
  rw [show m + 2 - 1 = m1 by omega] at htop
  rw [hn] at hno hnb hd1 hn2 ⊢
  obtain ⟨a2, ha2⟩ : ∃ a2, a2 = la.getD n 0 := ⟨_, rfl⟩
  obtain ⟨a1, ha1⟩ : ∃ a1, a1 = la.getD m1 0 := ⟨_, rfl⟩
  obtain ⟨a0, ha0⟩ : ∃ a0, a0 = la.getD m 0 := ⟨_, rfl⟩
  obtain ⟨b1, hb1⟩ : ∃ b1, b1 = lb.getD m1 0 := ⟨_, rfl⟩
  obtain ⟨b0, hb0⟩ : ∃ b0, b0 = lb.getD m 0 := ⟨_, rfl⟩
  have ra2 : 0 ≤ a2 ∧ a2 < B64 := by rw [ha2]; exact hla.getD B64_pos _
  have ra1 : 0 ≤ a1 ∧ a1 < B64 := by rw [ha1]; exact hla.getD B64_pos _
  have ra0 : 0 ≤ a0 ∧ a0 < B64 := by rw [ha0]; exact hla.getD B64_pos _
  have rb1 : 0 ≤ b1 ∧ b1 < B64 := by rw [hb1]; exact hlb.getD B64_pos _
  have rb0 : 0 ≤ b0 ∧ b0 < B64 := by rw [hb0]; exact hlb.getD B64_pos _
  rw [← ha2, ← ha1, ← ha0] at t3
  rw [← hb1, ← hb0] at t2
  rw [← hb1] at htop
  unfold B64 at ra2 ra1 ra0 rb1 rb0
  have hW : (1 : Int) ≤ B64 ^ m := pow_pos' B64_pos m
  have x0 := vb_nonneg B64_pos (hla.take m)
  have x1 := vb_lt B64_pos (hla.take m)
  have y0 := vb_nonneg B64_pos (hlb.take m)
  have y1 := vb_lt B64_pos (hlb.take m)
  rw [List.length_take, Nat.min_eq_left (by omega)] at x1 y1
  have h21 : a2 ≤ b1 := red_top hW x0 y1 t3 t2 ra1.1 ra0.1 (by omega) hlt
  have ca2 : w.cell? ⟨g, off + n, none⟩ = some (.int .u64 a2) := by rw [ha2]; exact ha.at' n (by omega)
  have ca1 : w.cell? ⟨g, off + m1, none⟩ = some (.int .u64 a1) := by rw [ha1]; exact ha.at' m1 (by omega)
  have ca0 : w.cell? ⟨g, off + m, none⟩ = some (.int .u64 a0) := by rw [ha0]; exact ha.at' m (by omega)
  have cb1 : w.cell? ⟨b2, o2 + m1, none⟩ = some (.int .u64 b1) := by rw [hb1]; exact hat m1 (by omega)
  have cb0 : w.cell? ⟨b2, o2 + m, none⟩ = some (.int .u64 b0) := by rw [hb0]; exact hat m (by omega)
  have hI1 : (n : Int) - 1 = (m1 : Int) := by omega
  have hI2 : (n : Int) - 2 = (m : Int) := by omega
  have hw1 : IntKind.i64.wrap (m1 : Int) = (m1 : Int) := by rw [IntKind.wrap_i64]; omega
  have hw0 : IntKind.i64.wrap (m : Int) = (m : Int) := by rw [IntKind.wrap_i64]; omega
  have hnI : (n : Int) < (no : Int) := by omega
  have hnN : n < no := by omega
  have hm1n : m1 < n := by omega
  have hmn : m < n := by omega
  have hm1no : m1 < no := by omega
  have hmno : m < no := by omega
  have HRG := Lib.hid (fun (G : Int) (g0 : 0 ≤ G) (g1 : G ≤ 18446744073709551615) (hle : G * (b1 * 18446744073709551616 + b0) ≤ (a2 * 18446744073709551616 + a1) * 18446744073709551616 + a0) (hmore : G = 18446744073709551615 ∨ (a2 * 18446744073709551616 + a1) * 18446744073709551616 + a0 < (G + 1) * (b1 * 18446744073709551616 + b0)) => red_guess hW x0 x1 y0 y1 t3 t2 (by omega) hlt g0 g1 hle hmore)
  have HGU := Lib.hid (fun w => guess_any a2 a1 a0 b1 b0 w ra2.1 ra1.1 (by omega) ra0.1 (by omega) rb1.1 (by omega) rb0.1 (by omega) h21)
  have HNO := Lib.hid hno
  have HNA := Lib.hid hna
  have HNB := Lib.hid hnb
  have HA2 := Lib.hid ha2
  have HLT := Lib.hid hlt
  have ra20 := ra2.1
  have ra21 := ra2.2
  clear t3 t2 ha2 ha1 ha0 hb1 hb0 ra2 ra1 ra0 rb1 rb0 x0 x1 y0 y1 hW htop hlt hno hna hnb hn hm1 h21 hb hne
  go_enter Tryd.func110, Tryd.ntmps110
  go_wp2_with fail
  have hbq : Below w.heap.size w w.drew := (Below.refl _ _).drew
  go_still_tail 24, (by kernel_rfl)
  change wpList _ _ _ _ _ w.drew
  generalize w.drew = w1 at hbq ⊢
  go_wp2_with fail
  refine (HGU.out w1).mono ?_
  rintro e w2 ⟨G, rfl, g0, g1, gle, gmore, hb12⟩
  have hbw2 : Below w.heap.size w w2 := hbq.trans (hb12.mono hbq.size)
  obtain ⟨hG1, hG2⟩ := HRG.out G g0 g1 gle gmore
  have a2w := ha.below hbw2
  have b2w := hat.below hbw2
  have HG1 := Lib.hid hG1
  have HG2 := Lib.hid hG2
  have hnco : n ≤ no := by omega
  have HSP := Lib.hid (subProduct_any g off no co la (some ⟨b2, o2, none⟩) n cb lb G w2 HNA.out HNB.out ho1 ho2 hd1 hd2 a2w (Rd.of_at b2w) (fun _ b' off' e => by cases e; exact hne') hla hlb hnco g0 g1)
  clear gle gmore hG1 hG2 hb12 hbq
  go_wp2_with fail
  refine HSP.out.mono ?_
  rintro e w3 ⟨c, l, rfl, c0, c1, hl, hlim, harr, hdr, hv, hon⟩
  have hln : l.getD n 0 = a2 := by
    have h1 := congrArg (fun z => List.getD z 0 0) hdr
    simp only [getD_drop, Nat.add_zero] at h1
    rw [h1]; exact HA2.out.symm
  have hno := HNO.out
  have cn : w3.cell? ⟨g, off + n, none⟩ = some (.int .u64 a2) := by rw [← hln]; exact harr.at' n (by omega)
  have fn := harr.frozen (off + n)
  have ea : vb B64 la = vb B64 (la.take n) + B64 ^ n * a2 := by
    have h1 := vb_take_succ B64 (l := la) (k := n) (by rw [← HNA.out]; omega)
    rw [List.take_of_length_le (by rw [← HNA.out]; omega), ← HA2.out] at h1
    exact h1
  have el : ∀ x, vb B64 (l.set n x) = vb B64 (l.take n) + B64 ^ n * x := by
    intro x
    have h1 := vb_take_succ B64 (l := l.set n x) (k := n) (by rw [List.length_set]; omega)
    rw [List.take_of_length_le (by rw [List.length_set]; omega), List.take_set_of_le (Nat.le_refl _), getD_set_same (by omega)] at h1
    exact h1
  have hp := pow_pos' B64_pos n
  have t0 := vb_nonneg B64_pos (hlim.take n)
  have t1 := vb_lt B64_pos (hlim.take n)
  rw [List.length_take, Nat.min_eq_left (by omega)] at t1
  have bl := vb_lt B64_pos hlb
  rw [← HNB.out] at bl
  have hD : vb B64 la - G * vb B64 lb = vb B64 (l.take n) + B64 ^ n * (a2 - c) := by
    rw [Int.mul_sub, ea, Int.mul_comm G]
    omega
  have hlc : c < 18446744073709551616 := c1
  have HL := Lib.hid hl
  by_cases hs : a2 < c
  · have h1 : B64 ^ n * (a2 - c) ≤ B64 ^ n * (-1) := Int.mul_le_mul_of_nonneg_left (by omega) (by omega)
    have hq := red_over HG2.out (show vb B64 la < G * vb B64 lb by omega)
    obtain ⟨d, hd⟩ : ∃ d, d = a2 - c + 18446744073709551616 := ⟨_, rfl⟩
    have hwr : IntKind.u64.wrap (a2 - c) = d := by rw [IntKind.wrap_u64]; omega
    have hG1 : 1 ≤ G := by
      rcases Int.lt_or_le G 1 with h | h
      · have : G = 0 := by omega
        rw [this, Int.zero_mul] at hD
        have := vb_nonneg B64_pos hla
        omega
      · exact h
    have hd0 : 0 ≤ d ∧ d < B64 := by unfold B64; omega
    have harr2 := harr.store n d
    have hlim2 : Lim B64 (l.set n d) := hlim.set n hd0.1 hd0.2
    have b3w : At (w3.setCell ⟨g, off + n, none⟩ (.int .u64 d)) b2 o2 lb := (Only.store (lo := off) (hi := off + no) (off + n) (.int .u64 d) (by omega) (by omega)).at' (hon.at' b2w hne') hne'
    have HADD := Lib.hid (addProduct_any g off no co (l.set n d) (some ⟨b2, o2, none⟩) n cb lb 1 (w3.setCell ⟨g, off + n, none⟩ (.int .u64 d)).drew (by rw [List.length_set]; exact HL.out.symm) HNB.out ho1 ho2 hd1 hd2 (harr2.below (Below.refl _ _).drew) (Rd.of_at (b3w.below (Below.refl _ _).drew)) (fun _ b' off' e => by cases e; exact hne') hlim2 hlb hnco (by decide) (by decide))
    have cn2 : (w3.setCell ⟨g, off + n, none⟩ (.int .u64 d)).cell? ⟨g, off + n, none⟩ = some (.int .u64 d) := by
      have := harr2.at' n (by rw [List.length_set]; omega)
      rwa [getD_set_same (by omega)] at this
    have hE : vb B64 la % vb B64 lb = vb B64 (l.take n) + B64 ^ n * (a2 - c) + vb B64 lb := by rw [hq.2, ← hD]
    have hlt0 : vb B64 la < G * vb B64 lb := by omega
    have hbpos : 0 < vb B64 lb := by have h9 := HG2.out; omega
    have hE0 := Int.emod_nonneg (vb B64 la) (show vb B64 lb ≠ 0 by omega)
    have hE1 : vb B64 la % vb B64 lb < B64 ^ n := by
      have h9 := Int.emod_lt_of_pos (vb B64 la) hbpos
      omega
    have HE := Lib.hid hE
    have HE0 := Lib.hid hE0
    have HE1 := Lib.hid hE1
    have HQ := Lib.hid hq.1
    have HHD := Lib.hid hd
    have htake2 : (l.set n d).take n = l.take n := List.take_set_of_le (Nat.le_refl _)
    have HT2 := Lib.hid htake2
    clear hE hE0 hE1 hq hd hD ea el t0 t1 bl h1 hv hdr hln hl htake2 hno hlt0
    go_wp2_with fail
    go_region_with (go_at_call 112; refine HADD.out.mono ?_; rintro e w4 ⟨c3, l3, rfl, z0, z1, hl3, hlim3, harr3, hdr3, hv3, hon3⟩; have cn4 : w4.cell? ⟨g, off + n, none⟩ = some (.int .u64 d) := (by have h1 := congrArg (fun z => List.getD z 0 0) hdr3; simp only [getD_drop, Nat.add_zero] at h1; rw [getD_set_same (by rw [HL.out]; omega)] at h1; rw [← h1]; exact harr3.at' n (by omega)); have fn4 := harr3.frozen (off + n))
    all_goals
      have hp3 := vb_nonneg B64_pos (hlim3.take n)
      have hq3 := vb_lt B64_pos (hlim3.take n)
      rw [List.length_take, Nat.min_eq_left (by rw [hl3]; exact hnco)] at hq3
      rw [HT2.out, Int.mul_one] at hv3
      have hEE : vb B64 la % vb B64 lb = vb B64 (l3.take n) + B64 ^ n * (c3 + (a2 - c)) := by
        rw [HE.out, Int.mul_add]
        omega
      have hk0 : c3 + (a2 - c) = 0 := by
        have e0 := HE0.out
        have e1 := HE1.out
        rw [hEE] at e0 e1
        rcases Int.lt_trichotomy (c3 + (a2 - c)) 0 with h | h | h
        · have := Int.mul_le_mul_of_nonneg_left (show c3 + (a2 - c) ≤ -1 by omega) (Int.le_of_lt hp)
          omega
        · exact h
        · have := Int.mul_le_mul_of_nonneg_left (show 1 ≤ c3 + (a2 - c) by omega) (Int.le_of_lt hp)
          omega
      have hf : IntKind.u64.wrap (d + c3) = 0 := by
        have := HHD.out
        rw [IntKind.wrap_u64]; omega
      have hvf : vb B64 (l3.set n (IntKind.u64.wrap (d + c3))) = vb B64 la % vb B64 lb := by
        have h1 := vb_take_succ B64 (l := l3.set n (IntKind.u64.wrap (d + c3))) (k := n) (by rw [List.length_set, hl3]; omega)
        rw [List.take_of_length_le (by rw [List.length_set, hl3, HNO.out]; exact Nat.le_refl _), List.take_set_of_le (Nat.le_refl _), getD_set_same (by rw [hl3]; omega)] at h1
        rw [h1, hf, hEE, hk0]
      have hlimf : Lim B64 (l3.set n (IntKind.u64.wrap (d + c3))) := hlim3.set n (by rw [hf]; exact Int.le_refl _) (by rw [hf]; decide)
      have harrf := harr3.store n (IntKind.u64.wrap (d + c3))
      have hlf : (l3.set n (IntKind.u64.wrap (d + c3))).length = n + 1 := by rw [List.length_set, hl3, HNO.out]
      have honf : Only g off (off + no) w (w4.setCell ⟨g, off + n, none⟩ (.int .u64 (IntKind.u64.wrap (d + c3)))) :=
        (((Only.of_below hbw2 : Only g off (off + no) w w2).trans (hon.mono (Nat.le_refl _) (by omega))).trans (Only.store (off + n) _ (by omega) (by omega))).trans (((Only.of_below (Below.refl _ _).drew).trans (hon3.mono (Nat.le_refl _) (by omega))).trans (Only.store (off + n) _ (by omega) (by omega)))
      have HVF := Lib.hid hvf
      have HLF := Lib.hid hlf
      clear hvf hlf hf hk0 hEE hp3 hq3 hv3 hdr3 hl3
      go_wp2_with fail
      go_ret
      refine ⟨by rw [HQ.out]; rfl, _, HLF.out, hlimf, harrf, HVF.out, ?_⟩
      rw [← HNO.out]
      exact honf
  · have h1 : 0 ≤ B64 ^ n * (a2 - c) := Int.mul_nonneg (by omega) (by omega)
    have hq := red_right HG1.out (show G * vb B64 lb ≤ vb B64 la by omega)
    obtain ⟨d, hd⟩ : ∃ d, a2 - c = d := ⟨_, rfl⟩
    have hd0 : 0 ≤ d ∧ d < B64 := by unfold B64; omega
    have hval : vb B64 (l.set n d) = vb B64 la % vb B64 lb := by rw [hq.2, el, ← hd]; omega
    have HVAL := Lib.hid hval
    have HQ := Lib.hid hq.1
    have harr2 := harr.store n d
    have hon2 : Only g off (off + no) w3 (w3.setCell ⟨g, off + n, none⟩ (.int .u64 d)) := Only.store (off + n) _ (by omega) (by omega)
    have honw := ((Only.of_below hbw2 : Only g off (off + no) w w2).trans (hon.mono (Nat.le_refl _) (by omega))).trans hon2
    have hlim2 := hlim.set n hd0.1 hd0.2
    clear hval hq hD ea el t0 t1 bl hp h1 hv hdr hln hl hno
    go_wp2_with fail
    go_ret
    refine ⟨by rw [HQ.out]; rfl, l.set n d, by rw [List.length_set, HL.out, HNO.out], hlim2, harr2, HVAL.out, ?_⟩
    rw [← HNO.out]
    exact honw
end Go.Proofs.YtbieldebkfkpkaaDoor
