/-
  Contract of nat.multiplyHalves, what nat.multiply does on shorter numbers being given.
-/
import Derived.Test.YtbieldebkfkpkaaDoorMulPieces
import Derived.Test.YtbieldebkfkpkaaDoorDist
import Derived.Test.YtbieldebkfkpkaaDoorMath
import Derived.StillTailTactics
namespace Go.Proofs.YtbieldebkfkpkaaDoor
open Go.RowKit

theorem cross_same {A0 A1 B0 B1 : Int} (h : decide (A0 < A1) = decide (B0 < B1)) : A0 * B0 + A1 * B1 - (if A0 < A1 then A1 - A0 else A0 - A1) * (if B0 < B1 then B1 - B0 else B0 - B1) = A0 * B1 + A1 * B0 := by
  by_cases h1 : A0 < A1
  · have h2 : B0 < B1 := by rw [decide_eq_true h1] at h; exact of_decide_eq_true h.symm
    rw [if_pos h1, if_pos h2, Int.sub_mul, Int.mul_sub, Int.mul_sub]
    omega
  · have h2 : ¬ B0 < B1 := by rw [decide_eq_false h1] at h; exact of_decide_eq_false h.symm
    rw [if_neg h1, if_neg h2, Int.sub_mul, Int.mul_sub, Int.mul_sub]
    omega
theorem cross_diff {A0 A1 B0 B1 : Int} (h : decide (A0 < A1) ≠ decide (B0 < B1)) : A0 * B0 + A1 * B1 + (if A0 < A1 then A1 - A0 else A0 - A1) * (if B0 < B1 then B1 - B0 else B0 - B1) = A0 * B1 + A1 * B0 := by
  by_cases h1 : A0 < A1
  · have h2 : ¬ B0 < B1 := by intro h2; exact h (by rw [decide_eq_true h1, decide_eq_true h2])
    rw [if_pos h1, if_neg h2, Int.sub_mul, Int.mul_sub, Int.mul_sub]
    omega
  · have h2 : B0 < B1 := by
      rcases Classical.em (B0 < B1) with h2 | h2
      · exact h2
      · exact absurd (by rw [decide_eq_false h1, decide_eq_false h2]) h
    rw [if_neg h1, if_pos h2, Int.sub_mul, Int.mul_sub, Int.mul_sub]
    omega
theorem halves_tot (A0 A1 B0 B1 X : Int) : (A0 + X * A1) * (B0 + X * B1) = A0 * B0 + X * X * (A1 * B1) + X * (A0 * B1 + A1 * B0) := by
  rw [Int.add_mul, Int.mul_add, Int.mul_add, Int.mul_assoc X A1 B0, Int.mul_left_comm A0 X B1, Int.mul_assoc X A1 (X * B1), Int.mul_left_comm A1 X B1, ← Int.mul_assoc X X, Int.mul_add X]
  omega
theorem abs_gap {A B X : Int} (h0 : 0 ≤ A) (h1 : A < X) (h2 : 0 ≤ B) (h3 : B < X) : 0 ≤ (if A < B then B - A else A - B) ∧ (if A < B then B - A else A - B) < X := by
  split <;> omega
/-- What the products of the halves are at most. -/
theorem halves_room {A0 A1 B0 B1 X : Int} {h : Nat} (hX : X = B64 ^ h) (a0 : 0 ≤ A0) (a1 : A0 < X) (a2 : 0 ≤ A1) (a3 : A1 < X) (b0 : 0 ≤ B0) (b1 : B0 < X) (b2 : 0 ≤ B1) (b3 : B1 < X) :
    A0 * B0 + A1 * B1 + (if A0 < A1 then A1 - A0 else A0 - A1) * (if B0 < B1 then B1 - B0 else B0 - B1) < B64 ^ (2 * h + 1) ∧ 0 ≤ A0 * B0 ∧ 0 ≤ A1 * B1 ∧ 0 ≤ A0 * B1 + A1 * B0 ∧ 0 ≤ (if A0 < A1 then A1 - A0 else A0 - A1) * (if B0 < B1 then B1 - B0 else B0 - B1) := by
  obtain ⟨da0, da1⟩ := abs_gap a0 a1 a2 a3
  obtain ⟨db0, db1⟩ := abs_gap b0 b1 b2 b3
  have e1 := prod_lt a1 b1 a0 b0
  have e2 := prod_lt a3 b3 a2 b2
  have e3 := prod_lt da1 db1 da0 db0
  have n1 := Int.mul_nonneg a0 b0
  have n2 := Int.mul_nonneg a2 b2
  have n3 := Int.mul_nonneg a0 b2
  have n4 := Int.mul_nonneg a2 b0
  have n5 := Int.mul_nonneg da0 db0
  have e4 : B64 ^ (2 * h + 1) = X * X * B64 := by rw [Int.pow_succ, show 2 * h = h + h by omega, Int.pow_add, hX]
  rw [e4]
  generalize X * X = Y at *
  refine ⟨?_, n1, n2, by omega, n5⟩
  unfold B64
  omega

set_option maxRecDepth 100000 in
set_option maxHeartbeats 8000000 in
theorem multiplyHalves_any (g off no co : Nat) (lo : List Int) (aa : Option Addr) (n ca : Nat) (la : List Int) (ab : Option Addr) (cb : Nat) (lb : List Int) (cut : Int) (w : World) (ih : MulAt (n + n)) (hno : no = lo.length) (hna : n = la.length) (hnb : n = lb.length)
    (ho1 : no ≤ co) (ho2 : co ≤ 9223372036854775807) (hc1 : n ≤ ca) (hc2 : ca ≤ 9223372036854775807) (hd1 : n ≤ cb) (hd2 : cb ≤ 9223372036854775807)
    (ho : Arr w g off lo) (ha : Rd w aa la) (hb : Rd w ab lb) (hna' : la ≠ [] → ∀ b' off', aa = some ⟨b', off', none⟩ → b' ≠ g) (hnb'' : lb ≠ [] → ∀ b' off', ab = some ⟨b', off', none⟩ → b' ≠ g)
    (hla : Lim B64 la) (hlb : Lim B64 lb) (hsum : no = n + n) (hM : no ≤ 17592186040000) (hcut : 2 ≤ cut) (hcut2 : cut ≤ 9223372036854775807) (hn2 : 2 ≤ n) :
    Calls Tryd.prog 105 #[.slice (some ⟨g, off, none⟩) no co, .slice aa n ca, .slice ab n cb, .int .i64 cut] w fun e w' => e = .returned (.tuple #[]) ∧ InPl g off no (vb B64 la * vb B64 lb) w w' := by
  obtain ⟨b1, o1, rfl, hat1⟩ := ha.cases (by intro e; rw [e] at hna; simp at hna; omega)
  obtain ⟨b2, o2, rfl, hat2⟩ := hb.cases (by intro e; rw [e] at hnb; simp at hnb; omega)
  have hne1 := hna' (by intro e; rw [e] at hna; simp at hna; omega) b1 o1 rfl
  have hne2 := hnb'' (by intro e; rw [e] at hnb; simp at hnb; omega) b2 o2 rfl
  have hg := ho.lt
  obtain ⟨hf, hh⟩ : ∃ hf, (n + 1) / 2 = hf := ⟨_, rfl⟩
  have hhI : ((n : Int) + 1).tdiv 2 = (hf : Int) := by rw [Int.tdiv_eq_ediv_of_nonneg (by omega)]; omega
  obtain ⟨H, hH⟩ : ∃ H, 2 * hf = H := ⟨_, rfl⟩
  have hHI : 2 * (hf : Int) = (H : Int) := by omega
  obtain ⟨k, hk⟩ : ∃ k, n - hf = k := ⟨_, rfl⟩
  obtain ⟨R, hR⟩ : ∃ R, no - H = R := ⟨_, rfl⟩
  have hh1 : 1 ≤ hf := by omega
  have hhn : hf < n := by omega
  have hk1 : 1 ≤ k := by omega
  have hkh : k ≤ hf := by omega
  have hHn : H ≤ no := by omega
  have hRk : R = k + k := by omega
  have hHco : H < co := by omega
  have hHno : H < no := by omega
  have hHco2 : (H : Int) < (co : Int) := by omega
  have hHI2 : (H : Int) ≤ (no : Int) := by omega
  have hHI3 : (H : Int) ≤ (co : Int) := by omega
  have hhI2 : (hf : Int) ≤ (n : Int) := by omega
  have hhca : (hf : Int) ≤ (ca : Int) := by omega
  have hhcb : (hf : Int) ≤ (cb : Int) := by omega
  have hfno : hf < no := by omega
  have hfnoI : (hf : Int) ≤ (no : Int) := by omega
  have hfco : hf < co := by omega
  have hfcoI : (hf : Int) ≤ (co : Int) := by omega
  have HNO := Lib.hid hno
  have HNA := Lib.hid hna
  have HNB := Lib.hid hnb
  have HSUM := Lib.hid hsum
  have HIH := Lib.hid ih
  have HH := Lib.hid hH
  have HHH := Lib.hid hh
  have HRK := Lib.hid hRk
  clear hno hna hnb hsum ih ha hb hna' hnb'' hRk hh hH
  go_enter Tryd.func105, Tryd.ntmps105
  go_wp2_with fail
  go_quiet (fail)
  go_wp2_with fail
  obtain ⟨A0, hA0⟩ : ∃ A0, A0 = vb B64 (la.take hf) := ⟨_, rfl⟩
  obtain ⟨A1, hA1⟩ : ∃ A1, A1 = vb B64 (la.drop hf) := ⟨_, rfl⟩
  obtain ⟨B0, hB0⟩ : ∃ B0, B0 = vb B64 (lb.take hf) := ⟨_, rfl⟩
  obtain ⟨B1, hB1⟩ : ∃ B1, B1 = vb B64 (lb.drop hf) := ⟨_, rfl⟩
  have EA0 := Lib.hid hA0
  have EA1 := Lib.hid hA1
  have EB0 := Lib.hid hB0
  have EB1 := Lib.hid hB1
  have la0 : hf = (la.take hf).length := by rw [List.length_take, ← HNA.out]; omega
  have la1 : k = (la.drop hf).length := by rw [List.length_drop, ← HNA.out]; omega
  have lb0 : hf = (lb.take hf).length := by rw [List.length_take, ← HNB.out]; omega
  have lb1 : k = (lb.drop hf).length := by rw [List.length_drop, ← HNB.out]; omega
  have LA0 := Lib.hid la0
  have LA1 := Lib.hid la1
  have LB0 := Lib.hid lb0
  have LB1 := Lib.hid lb1
  have LLO : Hid ((lo.take H).length = H) := by show _ = _; rw [List.length_take, ← HNO.out]; omega
  have LHI : Hid ((lo.drop H).length = R) := by show _ = _; rw [List.length_drop, ← HNO.out]; exact hR
  have hsm := HSUM.out
  have hHh := HH.out
  have hRk := HRK.out
  have hla0 : la ≠ [] := by intro e; have := HNA.out; rw [e] at this; simp at this; omega
  have hlb0 : lb ≠ [] := by intro e; have := HNB.out; rw [e] at this; simp at this; omega
  have S1 : Hid (hf + hf < n + n ∧ k + k < n + n ∧ H = hf + hf ∧ R = k + k ∧ H ≤ 17592186040000 ∧ R ≤ 17592186040000) := by refine ⟨?_, ?_, ?_, ?_, ?_, ?_⟩ <;> omega
  have S2 : Hid (hf ≤ ca ∧ hf ≤ cb ∧ k ≤ ca - hf ∧ k ≤ cb - hf ∧ H ≤ co ∧ R ≤ co - H ∧ co - H ≤ 9223372036854775807 ∧ ca - hf ≤ 9223372036854775807 ∧ cb - hf ≤ 9223372036854775807) := by refine ⟨?_, ?_, ?_, ?_, ?_, ?_, ?_, ?_, ?_⟩ <;> omega
  clear hA0 hA1 hB0 hB1 la0 la1 lb0 lb1 hsm hHh hRk
  have hbq : Below w.heap.size w (w.drewN nq).drew := (bdn (Below.refl _ _) nq).drew
  go_still_tail 8, (by kernel_rfl)
  change wpList _ _ _ _ _ (w.drewN nq).drew
  generalize (w.drewN nq).drew = w1 at hbq ⊢
  have A1w := hat1.below hbq
  have B1w := hat2.below hbq
  have O1 := ho.below hbq
  go_wp2_with fail
  refine (HIH.out g off H co (lo.take H) (some ⟨b1, o1, none⟩) hf ca (la.take hf) (some ⟨b2, o2, none⟩) hf cb (lb.take hf) cut w1 S1.out.1 LLO.out.symm LA0.out LB0.out S2.out.2.2.2.2.1 ho2 S2.out.1 hc2 S2.out.2.1 hd2 (O1.take H) (Rd.of_at (A1w.take hf)) (Rd.of_at (B1w.take hf)) (fun _ b' off' e => by cases e; exact hne1) (fun _ b' off' e => by cases e; exact hne2) (hla.take hf) (hlb.take hf) S1.out.2.2.1 S1.out.2.2.2.2.1 hcut hcut2).mono ?_
  rintro e w2 ⟨rfl, ll, hll, hlimL, L2, hvl, on2⟩
  rw [← EA0.out, ← EB0.out] at hvl
  have A2 := on2.at' A1w hne1
  have B2 := on2.at' B1w hne2
  have O2 := on2.arr (O1.drop H) (Or.inr (Nat.le_refl _))
  have ON2 : Only g off (off + no) w w2 := (Only.of_below hbq).trans (on2.mono (Nat.le_refl _) (by omega))
  have HLL := Lib.hid hll
  have HVL := Lib.hid hvl
  clear hll hvl A1w B1w O1 on2 hbq
  go_wp2_with fail
  have hbq : Below w2.heap.size w2 w2.drew := (Below.refl _ _).drew
  go_still_tail 8, (by kernel_rfl)
  change wpList _ _ _ _ _ w2.drew
  generalize w2.drew = w3 at hbq ⊢
  have A3 := A2.below hbq
  have B3 := B2.below hbq
  have O3 := O2.below hbq
  have L3 := L2.below hbq
  have ON3 := ON2.trans (Only.of_below hbq)
  clear A2 B2 O2 L2 ON2 hbq
  go_wp2_with fail
  refine (HIH.out g (off + H) R (co - H) (lo.drop H) (some ⟨b1, o1 + hf, none⟩) k (ca - hf) (la.drop hf) (some ⟨b2, o2 + hf, none⟩) k (cb - hf) (lb.drop hf) cut w3 S1.out.2.1 LHI.out.symm LA1.out LB1.out S2.out.2.2.2.2.2.1 S2.out.2.2.2.2.2.2.1 S2.out.2.2.1 S2.out.2.2.2.2.2.2.2.1 S2.out.2.2.2.1 S2.out.2.2.2.2.2.2.2.2 O3 (Rd.of_at (A3.drop hf)) (Rd.of_at (B3.drop hf)) (fun _ b' off' e => by cases e; exact hne1) (fun _ b' off' e => by cases e; exact hne2) (hla.drop hf) (hlb.drop hf) S1.out.2.2.2.1 S1.out.2.2.2.2.2 hcut hcut2).mono ?_
  rintro e w4 ⟨rfl, lh, hlh, hlimH, H4, hvh, on4⟩
  rw [← EA1.out, ← EB1.out] at hvh
  have A4 := on4.at' A3 hne1
  have B4 := on4.at' B3 hne2
  have L4 := on4.arr L3 (Or.inl (by rw [HLL.out]; exact Nat.le_refl _))
  have ON4 := ON3.trans (on4.mono (lo' := off) (hi' := off + no) (by omega) (by omega))
  have HLH := Lib.hid hlh
  have HVH := Lib.hid hvh
  clear hlh hvh A3 B3 O3 L3 ON3 on4
  go_wp2_with fail
  have hbq : Below w4.heap.size w4 w4.drew := (Below.refl _ _).drew
  have A5 := A4.below hbq
  have B5 := B4.below hbq
  have H5 := H4.below hbq
  have L5 := L4.below hbq
  have ON5 := ON4.trans (Only.of_below hbq)
  have hfM : hf ≤ MaxW := by unfold MaxW; omega
  have qHDA := (distance_any (some ⟨b1, o1, none⟩) hf ca (la.take hf) (some ⟨b1, o1 + hf, none⟩) k (ca - hf) (la.drop hf) w4.drew LA0.out LA1.out S2.out.1 hc2 S2.out.2.2.1 S2.out.2.2.2.2.2.2.2.1 (Rd.of_at (A5.take hf)) (Rd.of_at (A5.drop hf)) (hla.take hf) (hla.drop hf) hkh hfM)
  simp only [RetDist] at qHDA
  rw [← EA0.out, ← EA1.out] at qHDA
  obtain ⟨sa, hsa⟩ : ∃ sa, sa = decide (A0 < A1) := ⟨_, rfl⟩
  rw [← hsa] at qHDA
  have HDA := Lib.hid qHDA
  have HSA := Lib.hid hsa
  clear qHDA hsa
  clear A4 B4 H4 L4 ON4 hbq
  go_region_with (go_at_call 113; refine HDA.out.mono ?_; rintro e w6 ⟨da, rfl, hda, hlimda, D6, hvda, bda, sda⟩)
  have hd4 : w4.drew.heap.size = w4.heap.size := rfl
  have A6 := A5.below bda
  have B6 := B5.below bda
  have H6 := H5.below bda
  have L6 := L5.below bda
  have ON6 := ON5.trans (Only.of_below bda)
  have HLDA := Lib.hid hda
  have HVDA := Lib.hid hvda
  clear A5 B5 H5 L5 ON5 HDA hda hvda bda
  go_wp2_with fail
  have hbq : Below w6.heap.size w6 w6.drew := (Below.refl _ _).drew
  have A7 := A6.below hbq
  have B7 := B6.below hbq
  have H7 := H6.below hbq
  have L7 := L6.below hbq
  have D7 := D6.below hbq
  have ON7 := ON6.trans (Only.of_below hbq)
  have qHDB := (distance_any (some ⟨b2, o2, none⟩) hf cb (lb.take hf) (some ⟨b2, o2 + hf, none⟩) k (cb - hf) (lb.drop hf) w6.drew LB0.out LB1.out S2.out.2.1 hd2 S2.out.2.2.2.1 S2.out.2.2.2.2.2.2.2.2 (Rd.of_at (B7.take hf)) (Rd.of_at (B7.drop hf)) (hlb.take hf) (hlb.drop hf) hkh hfM)
  simp only [RetDist] at qHDB
  rw [← EB0.out, ← EB1.out] at qHDB
  obtain ⟨sb, hsb⟩ : ∃ sb, sb = decide (B0 < B1) := ⟨_, rfl⟩
  rw [← hsb] at qHDB
  have HDB := Lib.hid qHDB
  have HSB := Lib.hid hsb
  clear qHDB hsb
  clear A6 B6 H6 L6 D6 ON6 hbq
  go_region_with (go_at_call 113; refine HDB.out.mono ?_; rintro e w8 ⟨db, rfl, hdb, hlimdb, E8, hvdb, bdb, sdb⟩)
  have A8 := A7.below bdb
  have B8 := B7.below bdb
  have H8 := H7.below bdb
  have L8 := L7.below bdb
  have D8 := D7.below bdb
  have ON8 := ON7.trans (Only.of_below bdb)
  have HLDB := Lib.hid hdb
  have HVDB := Lib.hid hvdb
  clear A7 B7 H7 L7 D7 ON7 HDB hdb hvdb
  have hHM : H ≤ MaxW := by unfold MaxW; omega
  have hHM1 : H + 1 ≤ MaxW := by unfold MaxW; omega
  go_wp2_with (at_make; refine wpList_make_words w8 rfl (.tmp 68) (.tmp 68) 28 rfl Tryd.underlying28 info_u64 _ _ H rfl rfl (by omega) (by omega) hHM ?_; intro w9 hw9 hb9 hs9)
  have harrC := hw9.arr.1
  have C9a := (D8.below hb9).at'
  have C9b := (E8.below hb9).at'
  have hd6 : w6.drew.heap.size = w6.heap.size := rfl
  rw [hd4] at sda
  rw [hd6] at sdb
  refine (HIH.out w8.heap.size 0 H H (List.replicate H 0) (some ⟨w4.heap.size, 0, none⟩) hf hf da (some ⟨w6.heap.size, 0, none⟩) hf hf db cut w9 S1.out.1 (by simp) HLDA.out.symm HLDB.out.symm (Nat.le_refl _) (by omega) (Nat.le_refl _) (by omega) (Nat.le_refl _) (by omega) harrC (Rd.of_at C9a) (Rd.of_at C9b) (fun _ b' off' e => by cases e; omega) (fun _ b' off' e => by cases e; omega) hlimda hlimdb S1.out.2.2.1 S1.out.2.2.2.2.1 hcut hcut2).mono ?_
  rintro e w10 ⟨rfl, lc, hlc, hlimc, C10, hvc, on10⟩
  have b10 : Below w8.heap.size w8 w10 := hb9.trans (on10.below (Nat.le_refl _) hb9.size)
  have L10 := L8.below b10
  have H10 := H8.below b10
  have ON10 := ON8.trans (Only.of_below b10)
  have hg10 : g < w10.heap.size := by have := ON10.size; omega
  have hg8 : w8.heap.size < w10.heap.size := by have := on10.size; omega
  have HLC := Lib.hid hlc
  have HVC := Lib.hid hvc
  clear A8 B8 H8 L8 D8 E8 ON8 hlc hvc on10 b10 C9a C9b harrC hw9 hb9 hs9
  go_wp2_with (first
    | (at_make; refine wpList_make_words w10 rfl (.tmp 77) (.tmp 77) 28 rfl Tryd.underlying28 info_u64 _ _ (H + 1) rfl rfl (by omega) (by omega) hHM1 ?_; intro w11 hw11 hb11 hs11; have M11 := hw11.arr.1; have L11 := L10.below hb11)
    | (with_reducible refine wpList_copy_words rfl (.tmp 79) (.tmp 80) 28 28 rfl Tryd.underlying28 info_u64 w10.heap.size 0 (H + 1) (H + 1) (some ⟨g, off, none⟩) H co rfl rfl (List.replicate (H + 1) 0) ll List.length_replicate HLL.out M11 (Rd.of_at L11.at') ?_; intro w12 M12 on12))
  have hcpd := copied (n := H + 1) (l := ll) (by rw [HLL.out]; omega) hlimL
  rw [HLL.out] at hcpd
  obtain ⟨lm, hlm⟩ : ∃ lm, lm = ll.take (H + 1) ++ (List.replicate (H + 1) (0 : Int)).drop H := ⟨_, rfl⟩
  rw [← hlm] at hcpd M12
  obtain ⟨hlm1, hlimm, hvm⟩ := hcpd
  rw [HVL.out] at hvm
  have b12 : Below w10.heap.size w10 w12 := hb11.trans (on12.below (Nat.le_refl _) hb11.size)
  have H12 := H10.below b12
  have C12 := C10.below b12
  have hs12 : w10.heap.size < w12.heap.size := by have := on12.size; omega
  have hX0 : vb B64 la = A0 + B64 ^ hf * A1 := by rw [EA0.out, EA1.out]; exact vb_split B64 la hf (by rw [← HNA.out]; omega)
  have hX1 : vb B64 lb = B0 + B64 ^ hf * B1 := by rw [EB0.out, EB1.out]; exact vb_split B64 lb hf (by rw [← HNB.out]; omega)
  have a00 : 0 ≤ A0 ∧ A0 < B64 ^ hf := by
    rw [EA0.out]
    have h1 := vb_lt B64_pos (hla.take hf)
    rw [← LA0.out] at h1
    exact ⟨vb_nonneg B64_pos (hla.take hf), h1⟩
  have b00 : 0 ≤ B0 ∧ B0 < B64 ^ hf := by
    rw [EB0.out]
    have h1 := vb_lt B64_pos (hlb.take hf)
    rw [← LB0.out] at h1
    exact ⟨vb_nonneg B64_pos (hlb.take hf), h1⟩
  have hkp := pow_le_pow B64_pos hkh
  have a10 : 0 ≤ A1 ∧ A1 < B64 ^ hf := by
    rw [EA1.out]
    have h1 := vb_lt B64_pos (hla.drop hf)
    rw [← LA1.out] at h1
    exact ⟨vb_nonneg B64_pos (hla.drop hf), by omega⟩
  have b10' : 0 ≤ B1 ∧ B1 < B64 ^ hf := by
    rw [EB1.out]
    have h1 := vb_lt B64_pos (hlb.drop hf)
    rw [← LB1.out] at h1
    exact ⟨vb_nonneg B64_pos (hlb.drop hf), by omega⟩
  have hroomX := halves_room (h := hf) rfl a00.1 a00.2 a10.1 a10.2 b00.1 b00.2 b10'.1 b10'.2
  rw [HH.out] at hroomX
  have RX := Lib.hid hroomX
  have LALL : Hid ((ll ++ lh).length = no) := by
    show _ = _
    rw [List.length_append, HLL.out, HLH.out]
    have := HSUM.out; have := HRK.out; have := HH.out; omega
  have hall : vb B64 (ll ++ lh) = A0 * B0 + B64 ^ hf * B64 ^ hf * (A1 * B1) := by
    rw [vb_append, HLL.out, HVL.out, HVH.out, ← HH.out, show 2 * hf = hf + hf by omega, Int.pow_add]
  have TOT : Hid (vb B64 (ll ++ lh) + B64 ^ hf * (A0 * B1 + A1 * B0) = vb B64 la * vb B64 lb) := by
    show _ = _
    rw [hall, hX0, hX1, halves_tot]
  have FIT : Hid (vb B64 ((ll ++ lh).drop hf) + (A0 * B1 + A1 * B0) < B64 ^ (no - hf)) := by
    refine fit_tail (hlimL.app hlimH) LALL.out (by omega) ?_
    rw [TOT.out]
    have e1 := vb_lt B64_pos hla
    have e2 := vb_lt B64_pos hlb
    rw [← HNA.out] at e1
    rw [← HNB.out] at e2
    have e3 := prod_lt e1 e2 (vb_nonneg B64_pos hla) (vb_nonneg B64_pos hlb)
    rw [← Int.pow_add, ← HSUM.out] at e3
    exact e3
  have fit0 : A0 * B0 + A1 * B1 < B64 ^ (H + 1) := by have := RX.out; omega
  have HVM1 := Lib.hid hvm
  have HLM1 := Lib.hid hlm1
  have hRH : R ≤ H + 1 := by have := HRK.out; have := HH.out; omega
  clear hX0 hX1 a00 b00 hkp a10 b10' hroomX hall hvm hlm1 hlm
  refine (addTo_any w10.heap.size 0 (H + 1) (H + 1) lm (some ⟨g, off + H, none⟩) R (co - H) lh w12 HLM1.out.symm HLH.out.symm (Nat.le_refl _) (by omega) S2.out.2.2.2.2.2.1 S2.out.2.2.2.2.2.2.1 M12 (Rd.of_at H12.at') (fun _ b' off' e => by cases e; omega) hlimm hlimH (by rw [HVM1.out, HVH.out]; exact fit0) hRH).mono ?_
  rintro e w13 ⟨rfl, lm2, hlm2, hlimm2, M13, hvm2, on13⟩
  rw [HVM1.out, HVH.out] at hvm2
  have b13 : Below w10.heap.size w10 w13 := b12.trans (on13.below (Nat.le_refl _) (by omega))
  have C13 := C10.below b13
  have HLM2 := Lib.hid hlm2
  have HVM2 := Lib.hid hvm2
  clear hlm2 hvm2 on13 M12 H12 C12 fit0
  by_cases hs : sa = sb
  · have hbe : (sa == sb) = true := by rw [hs]; simp
    have hdd : decide (A0 < A1) = decide (B0 < B1) := by rw [← HSA.out, ← HSB.out]; exact hs
    have HDD := Lib.hid hdd
    clear hs hdd
    go_wp2_with fail
    refine (subFrom_any w10.heap.size 0 (H + 1) (H + 1) lm2 (some ⟨w8.heap.size, 0, none⟩) H H lc w13 HLM2.out.symm HLC.out.symm (Nat.le_refl _) (by omega) (Nat.le_refl _) (by omega) M13 (Rd.of_at C13.at') (fun _ b' off' e => by cases e; omega) hlimm2 hlimc (by rw [HVM2.out, HVC.out, HVDA.out, HVDB.out]; have h1 := cross_same HDD.out; have h2 := RX.out; omega) (by omega)).mono ?_
    rintro e w14 ⟨rfl, lm3, hlm3, hlimm3, M14, hv14, on14⟩
    have hmid2 : vb B64 lm3 = A0 * B1 + A1 * B0 := by rw [hv14, HVM2.out, HVC.out, HVDA.out, HVDB.out]; exact cross_same HDD.out
    have hroom : (tr lm3).length ≤ no - hf := by
      refine room_of B64_pos (can_tr hlimm3) ?_
      rw [vb_tr, hmid2]
      have h1 := FIT.out
      have h2 := vb_nonneg B64_pos ((hlimL.app hlimH).drop hf)
      omega
    rw [tr_length] at hroom
    have hbq : Below w14.heap.size w14 w14.drew := (Below.refl _ _).drew
    have b15 : Below w10.heap.size w10 w14.drew := (b13.trans (on14.below (Nat.le_refl _) (by have := b13.size; omega))).drew
    have L15 := L10.below b15
    have H15 := H10.below b15
    have M15 : Arr w14.drew w10.heap.size 0 lm3 := M14.below hbq
    have ON15 := ON10.trans (Only.of_below b15)
    have HMID := Lib.hid hmid2
    have HLM3 := Lib.hid hlm3
    clear hmid2 hv14 hlm3 on14 M14 hbq
    have ALL15 : Arr w14.drew g off (ll ++ lh) := L15.append (by rw [HLL.out]; exact H15)
    have hlimA : Lim B64 (ll ++ lh) := hlimL.app hlimH
    have HTR := Lib.hid (trim_any (some ⟨w10.heap.size, 0, none⟩) (H + 1) (H + 1) lm3 w14.drew HLM3.out.symm (Nat.le_refl _) (by omega) (Rd.of_at M15.at'))
    have HADD := Lib.hid (addTo_any g (off + hf) (no - hf) (co - hf) ((ll ++ lh).drop hf) (some ⟨w10.heap.size, 0, none⟩) (tlen lm3) (H + 1) (tr lm3) w14.drew (by rw [List.length_drop, LALL.out]) (tr_length _).symm (by omega) (by omega) (by have := tlen_le lm3; rw [HLM3.out] at this; exact this) (by omega) (ALL15.drop hf) (Rd.of_at (M15.at'.take _)) (fun _ b' off' e => by cases e; omega) (hlimA.drop hf) ((hlimm3).take _) (by rw [vb_tr, HMID.out]; exact FIT.out) hroom)
    go_wp2_with fail
    go_region_with (first
      | (go_at_call 68; refine HTR.out.mono ?_; rintro e w' ⟨rfl, rfl⟩)
      | (go_at_call 84; refine HADD.out.mono ?_; rintro e w16 ⟨rfl, hin⟩))
    all_goals
      obtain ⟨lz, hlz, hlimz, Z16, hvz, onz⟩ := splice ALL15 hlimA LALL.out (show hf ≤ no by omega) hin
      rw [vb_tr, HMID.out] at hvz
      have hvf : vb B64 lz = vb B64 la * vb B64 lb := by
        rw [hvz, Int.mul_add, ← Int.add_assoc, ← vb_split B64 (ll ++ lh) hf (by rw [LALL.out]; omega)]
        exact TOT.out
      have HVF := Lib.hid hvf
      have HLZ := Lib.hid hlz
      clear hvz hvf hlz
      go_wp2_with fail
      go_end0
      exact ⟨rfl, lz, HLZ.out, hlimz, Z16, HVF.out, ON15.trans onz⟩
  · have hbe : (sa == sb) = false := by rw [beq_eq_false_iff_ne]; exact hs
    have hdd : decide (A0 < A1) ≠ decide (B0 < B1) := by rw [← HSA.out, ← HSB.out]; exact hs
    have HDD := Lib.hid hdd
    clear hs hdd
    go_wp2_with fail
    refine (addTo_any w10.heap.size 0 (H + 1) (H + 1) lm2 (some ⟨w8.heap.size, 0, none⟩) H H lc w13 HLM2.out.symm HLC.out.symm (Nat.le_refl _) (by omega) (Nat.le_refl _) (by omega) M13 (Rd.of_at C13.at') (fun _ b' off' e => by cases e; omega) hlimm2 hlimc (by rw [HVM2.out, HVC.out, HVDA.out, HVDB.out]; exact RX.out.1) (by omega)).mono ?_
    rintro e w14 ⟨rfl, lm3, hlm3, hlimm3, M14, hv14, on14⟩
    have hmid2 : vb B64 lm3 = A0 * B1 + A1 * B0 := by rw [hv14, HVM2.out, HVC.out, HVDA.out, HVDB.out]; exact cross_diff HDD.out
    have hroom : (tr lm3).length ≤ no - hf := by
      refine room_of B64_pos (can_tr hlimm3) ?_
      rw [vb_tr, hmid2]
      have h1 := FIT.out
      have h2 := vb_nonneg B64_pos ((hlimL.app hlimH).drop hf)
      omega
    rw [tr_length] at hroom
    have hbq : Below w14.heap.size w14 w14.drew := (Below.refl _ _).drew
    have b15 : Below w10.heap.size w10 w14.drew := (b13.trans (on14.below (Nat.le_refl _) (by have := b13.size; omega))).drew
    have L15 := L10.below b15
    have H15 := H10.below b15
    have M15 : Arr w14.drew w10.heap.size 0 lm3 := M14.below hbq
    have ON15 := ON10.trans (Only.of_below b15)
    have HMID := Lib.hid hmid2
    have HLM3 := Lib.hid hlm3
    clear hmid2 hv14 hlm3 on14 M14 hbq
    have ALL15 : Arr w14.drew g off (ll ++ lh) := L15.append (by rw [HLL.out]; exact H15)
    have hlimA : Lim B64 (ll ++ lh) := hlimL.app hlimH
    have HTR := Lib.hid (trim_any (some ⟨w10.heap.size, 0, none⟩) (H + 1) (H + 1) lm3 w14.drew HLM3.out.symm (Nat.le_refl _) (by omega) (Rd.of_at M15.at'))
    have HADD := Lib.hid (addTo_any g (off + hf) (no - hf) (co - hf) ((ll ++ lh).drop hf) (some ⟨w10.heap.size, 0, none⟩) (tlen lm3) (H + 1) (tr lm3) w14.drew (by rw [List.length_drop, LALL.out]) (tr_length _).symm (by omega) (by omega) (by have := tlen_le lm3; rw [HLM3.out] at this; exact this) (by omega) (ALL15.drop hf) (Rd.of_at (M15.at'.take _)) (fun _ b' off' e => by cases e; omega) (hlimA.drop hf) ((hlimm3).take _) (by rw [vb_tr, HMID.out]; exact FIT.out) hroom)
    go_wp2_with fail
    go_region_with (first
      | (go_at_call 68; refine HTR.out.mono ?_; rintro e w' ⟨rfl, rfl⟩)
      | (go_at_call 84; refine HADD.out.mono ?_; rintro e w16 ⟨rfl, hin⟩))
    all_goals
      obtain ⟨lz, hlz, hlimz, Z16, hvz, onz⟩ := splice ALL15 hlimA LALL.out (show hf ≤ no by omega) hin
      rw [vb_tr, HMID.out] at hvz
      have hvf : vb B64 lz = vb B64 la * vb B64 lb := by
        rw [hvz, Int.mul_add, ← Int.add_assoc, ← vb_split B64 (ll ++ lh) hf (by rw [LALL.out]; omega)]
        exact TOT.out
      have HVF := Lib.hid hvf
      have HLZ := Lib.hid hlz
      clear hvz hvf hlz
      go_wp2_with fail
      go_end0
      exact ⟨rfl, lz, HLZ.out, hlimz, Z16, HVF.out, ON15.trans onz⟩
end Go.Proofs.YtbieldebkfkpkaaDoor
