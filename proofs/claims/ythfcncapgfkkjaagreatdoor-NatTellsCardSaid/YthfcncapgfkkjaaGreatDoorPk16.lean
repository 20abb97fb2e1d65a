/-
  MulHalves: Contract of nat.multiplyHalves, what nat.multiply does on shorter numbers being given.
  Mul: Contract of nat.multiply, for every cut. Contract of nat.Mul.
  Reduce: Contract of nat.reduce: one step of the long division.
  DivLong: Contract of nat.divideLong.
-/
import Derived.Test.YthfcncapgfkkjaaGreatDoorPk15
import Derived.Test.YthfcncapgfkkjaaGreatDoorPk6
import Derived.Test.YthfcncapgfkkjaaGreatDoorPk1
import Derived.StillTailTactics
import Derived.Test.YthfcncapgfkkjaaGreatDoorPk14
import Derived.Test.YthfcncapgfkkjaaGreatDoorPk9

namespace Go.Proofs.YthfcncapgfkkjaaGreatDoor
open Go.RowKit

theorem cross_same {A0 A1 B0 B1 : Int} (h : decide (A0 < A1) = decide (B0 < B1)) : A0 * B0 + A1 * B1 - (if A0 < A1 then A1 - A0 else A0 - A1) * (if B0 < B1 then B1 - B0 else B0 - B1) = A0 * B1 + A1 * B0 := by
  by_cases h1 : A0 < A1
  · have h2 : B0 < B1 := by rw [decide_eq_true h1] at h; exact of_decide_eq_true h.symm
    rw [if_pos h1, if_pos h2, Int.sub_mul, Int.mul_sub, Int.mul_sub]
    omega
  · have h2 : ¬ B0 < B1 := by rw [decide_eq_false h1] at h; exact of_decide_eq_false h.symm
    rw [if_neg h1, if_neg h2, Int.sub_mul, Int.mul_sub, Int.mul_sub]
    omega
theorem cross_diff {A0 A1 B0 B1 : Int} (h : decide (A0 < A1) ≠ decide (B0 < B1)) : A0 * B0 + A1 * B1 + (if A0 < A1 then A1 - A0 else A0 - A1) * (if B0 < B1 then B1 - B0 else B0 - B1) = A0 * B1 + A1 * B0 := by
  by_cases h1 : A0 < A1
  · have h2 : ¬ B0 < B1 := by intro h2; exact h (by rw [decide_eq_true h1, decide_eq_true h2])
    rw [if_pos h1, if_neg h2, Int.sub_mul, Int.mul_sub, Int.mul_sub]
    omega
  · have h2 : B0 < B1 := by
      rcases Classical.em (B0 < B1) with h2 | h2
      · exact h2
      · exact absurd (by rw [decide_eq_false h1, decide_eq_false h2]) h
    rw [if_neg h1, if_pos h2, Int.sub_mul, Int.mul_sub, Int.mul_sub]
    omega
theorem halves_tot (A0 A1 B0 B1 X : Int) : (A0 + X * A1) * (B0 + X * B1) = A0 * B0 + X * X * (A1 * B1) + X * (A0 * B1 + A1 * B0) := by
  rw [Int.add_mul, Int.mul_add, Int.mul_add, Int.mul_assoc X A1 B0, Int.mul_left_comm A0 X B1, Int.mul_assoc X A1 (X * B1), Int.mul_left_comm A1 X B1, ← Int.mul_assoc X X, Int.mul_add X]
  omega
theorem abs_gap {A B X : Int} (h0 : 0 ≤ A) (h1 : A < X) (h2 : 0 ≤ B) (h3 : B < X) : 0 ≤ (if A < B then B - A else A - B) ∧ (if A < B then B - A else A - B) < X := by
  split <;> omega
/-- What the products of the halves are at most. -/
theorem halves_room {A0 A1 B0 B1 X : Int} {h : Nat} (hX : X = B64 ^ h) (a0 : 0 ≤ A0) (a1 : A0 < X) (a2 : 0 ≤ A1) (a3 : A1 < X) (b0 : 0 ≤ B0) (b1 : B0 < X) (b2 : 0 ≤ B1) (b3 : B1 < X) :
    A0 * B0 + A1 * B1 + (if A0 < A1 then A1 - A0 else A0 - A1) * (if B0 < B1 then B1 - B0 else B0 - B1) < B64 ^ (2 * h + 1) ∧ 0 ≤ A0 * B0 ∧ 0 ≤ A1 * B1 ∧ 0 ≤ A0 * B1 + A1 * B0 ∧ 0 ≤ (if A0 < A1 then A1 - A0 else A0 - A1) * (if B0 < B1 then B1 - B0 else B0 - B1) := by
  obtain ⟨da0, da1⟩ := abs_gap a0 a1 a2 a3
  obtain ⟨db0, db1⟩ := abs_gap b0 b1 b2 b3
  have e1 := prod_lt a1 b1 a0 b0
  have e2 := prod_lt a3 b3 a2 b2
  have e3 := prod_lt da1 db1 da0 db0
  have n1 := Int.mul_nonneg a0 b0
  have n2 := Int.mul_nonneg a2 b2
  have n3 := Int.mul_nonneg a0 b2
  have n4 := Int.mul_nonneg a2 b0
  have n5 := Int.mul_nonneg da0 db0
  have e4 : B64 ^ (2 * h + 1) = X * X * B64 := by rw [Int.pow_succ, show 2 * h = h + h by omega, Int.pow_add, hX]
  rw [e4]
  generalize X * X = Y at *
  refine ⟨?_, n1, n2, by omega, n5⟩
  unfold B64
  omega

set_option maxRecDepth 100000 in
set_option maxHeartbeats 8000000 in
theorem multiplyHalves_any (g off no co : Nat) (lo : List Int) (aa : Option Addr) (n ca : Nat) (la : List Int) (ab : Option Addr) (cb : Nat) (lb : List Int) (cut : Int) (w : World) (ih : MulAt (n + n)) (hno : no = lo.length) (hna : n = la.length) (hnb : n = lb.length)
    (ho1 : no ≤ co) (ho2 : co ≤ 9223372036854775807) (hc1 : n ≤ ca) (hc2 : ca ≤ 9223372036854775807) (hd1 : n ≤ cb) (hd2 : cb ≤ 9223372036854775807)
    (ho : Arr w g off lo) (ha : Rd w aa la) (hb : Rd w ab lb) (hna' : la ≠ [] → ∀ b' off', aa = some ⟨b', off', none⟩ → b' ≠ g) (hnb'' : lb ≠ [] → ∀ b' off', ab = some ⟨b', off', none⟩ → b' ≠ g)
    (hla : Lim B64 la) (hlb : Lim B64 lb) (hsum : no = n + n) (hM : no ≤ 17592186040000) (hcut : 2 ≤ cut) (hcut2 : cut ≤ 9223372036854775807) (hn2 : 2 ≤ n) :
    Calls Tryz.prog 72 #[.slice (some ⟨g, off, none⟩) no co, .slice aa n ca, .slice ab n cb, .int .i64 cut] w fun e w' => e = .returned (.tuple #[]) ∧ InPl g off no (vb B64 la * vb B64 lb) w w' := by
  obtain ⟨b1, o1, rfl, hat1⟩ := ha.cases (by intro e; rw [e] at hna; simp at hna; omega)
  obtain ⟨b2, o2, rfl, hat2⟩ := hb.cases (by intro e; rw [e] at hnb; simp at hnb; omega)
  have hne1 := hna' (by intro e; rw [e] at hna; simp at hna; omega) b1 o1 rfl
  have hne2 := hnb'' (by intro e; rw [e] at hnb; simp at hnb; omega) b2 o2 rfl
  have hg := ho.lt
  obtain ⟨hf, hh⟩ : ∃ hf, (n + 1) / 2 = hf := ⟨_, rfl⟩
  have hhI : ((n : Int) + 1).tdiv 2 = (hf : Int) := by rw [Int.tdiv_eq_ediv_of_nonneg (by omega)]; omega
  obtain ⟨H, hH⟩ : ∃ H, 2 * hf = H := ⟨_, rfl⟩
  have hHI : 2 * (hf : Int) = (H : Int) := by omega
  obtain ⟨k, hk⟩ : ∃ k, n - hf = k := ⟨_, rfl⟩
  obtain ⟨R, hR⟩ : ∃ R, no - H = R := ⟨_, rfl⟩
  have hh1 : 1 ≤ hf := by omega
  have hhn : hf < n := by omega
  have hk1 : 1 ≤ k := by omega
  have hkh : k ≤ hf := by omega
  have hHn : H ≤ no := by omega
  have hRk : R = k + k := by omega
  have hHco : H < co := by omega
  have hHno : H < no := by omega
  have hHco2 : (H : Int) < (co : Int) := by omega
  have hHI2 : (H : Int) ≤ (no : Int) := by omega
  have hHI3 : (H : Int) ≤ (co : Int) := by omega
  have hhI2 : (hf : Int) ≤ (n : Int) := by omega
  have hhca : (hf : Int) ≤ (ca : Int) := by omega
  have hhcb : (hf : Int) ≤ (cb : Int) := by omega
  have hfno : hf < no := by omega
  have hfnoI : (hf : Int) ≤ (no : Int) := by omega
  have hfco : hf < co := by omega
  have hfcoI : (hf : Int) ≤ (co : Int) := by omega
  have HNO := Lib.hid hno
  have HNA := Lib.hid hna
  have HNB := Lib.hid hnb
  have HSUM := Lib.hid hsum
  have HIH := Lib.hid ih
  have HH := Lib.hid hH
  have HHH := Lib.hid hh
  have HRK := Lib.hid hRk
  clear hno hna hnb hsum ih ha hb hna' hnb'' hRk hh hH
  go_enter Tryz.func72, Tryz.ntmps72
  go_wp2_with fail
  go_quiet (fail)
  go_wp2_with fail
  obtain ⟨A0, hA0⟩ : ∃ A0, A0 = vb B64 (la.take hf) := ⟨_, rfl⟩
  obtain ⟨A1, hA1⟩ : ∃ A1, A1 = vb B64 (la.drop hf) := ⟨_, rfl⟩
  obtain ⟨B0, hB0⟩ : ∃ B0, B0 = vb B64 (lb.take hf) := ⟨_, rfl⟩
  obtain ⟨B1, hB1⟩ : ∃ B1, B1 = vb B64 (lb.drop hf) := ⟨_, rfl⟩
  have EA0 := Lib.hid hA0
  have EA1 := Lib.hid hA1
  have EB0 := Lib.hid hB0
  have EB1 := Lib.hid hB1
  have la0 : hf = (la.take hf).length := by rw [List.length_take, ← HNA.out]; omega
  have la1 : k = (la.drop hf).length := by rw [List.length_drop, ← HNA.out]; omega
  have lb0 : hf = (lb.take hf).length := by rw [List.length_take, ← HNB.out]; omega
  have lb1 : k = (lb.drop hf).length := by rw [List.length_drop, ← HNB.out]; omega
  have LA0 := Lib.hid la0
  have LA1 := Lib.hid la1
  have LB0 := Lib.hid lb0
  have LB1 := Lib.hid lb1
  have LLO : Hid ((lo.take H).length = H) := by show _ = _; rw [List.length_take, ← HNO.out]; omega
  have LHI : Hid ((lo.drop H).length = R) := by show _ = _; rw [List.length_drop, ← HNO.out]; exact hR
  have hsm := HSUM.out
  have hHh := HH.out
  have hRk := HRK.out
  have hla0 : la ≠ [] := by intro e; have := HNA.out; rw [e] at this; simp at this; omega
  have hlb0 : lb ≠ [] := by intro e; have := HNB.out; rw [e] at this; simp at this; omega
  have S1 : Hid (hf + hf < n + n ∧ k + k < n + n ∧ H = hf + hf ∧ R = k + k ∧ H ≤ 17592186040000 ∧ R ≤ 17592186040000) := by refine ⟨?_, ?_, ?_, ?_, ?_, ?_⟩ <;> omega
  have S2 : Hid (hf ≤ ca ∧ hf ≤ cb ∧ k ≤ ca - hf ∧ k ≤ cb - hf ∧ H ≤ co ∧ R ≤ co - H ∧ co - H ≤ 9223372036854775807 ∧ ca - hf ≤ 9223372036854775807 ∧ cb - hf ≤ 9223372036854775807) := by refine ⟨?_, ?_, ?_, ?_, ?_, ?_, ?_, ?_, ?_⟩ <;> omega
  clear hA0 hA1 hB0 hB1 la0 la1 lb0 lb1 hsm hHh hRk
  have hbq : Below w.heap.size w (w.drewN nq).drew := (bdn (Below.refl _ _) nq).drew
  go_still_tail 8, (by kernel_rfl)
  change wpList _ _ _ _ _ (w.drewN nq).drew
  generalize (w.drewN nq).drew = w1 at hbq ⊢
  have A1w := hat1.below hbq
  have B1w := hat2.below hbq
  have O1 := ho.below hbq
  go_wp2_with fail
  refine (HIH.out g off H co (lo.take H) (some ⟨b1, o1, none⟩) hf ca (la.take hf) (some ⟨b2, o2, none⟩) hf cb (lb.take hf) cut w1 S1.out.1 LLO.out.symm LA0.out LB0.out S2.out.2.2.2.2.1 ho2 S2.out.1 hc2 S2.out.2.1 hd2 (O1.take H) (Rd.of_at (A1w.take hf)) (Rd.of_at (B1w.take hf)) (fun _ b' off' e => by cases e; exact hne1) (fun _ b' off' e => by cases e; exact hne2) (hla.take hf) (hlb.take hf) S1.out.2.2.1 S1.out.2.2.2.2.1 hcut hcut2).mono ?_
  rintro e w2 ⟨rfl, ll, hll, hlimL, L2, hvl, on2⟩
  rw [← EA0.out, ← EB0.out] at hvl
  have A2 := on2.at' A1w hne1
  have B2 := on2.at' B1w hne2
  have O2 := on2.arr (O1.drop H) (Or.inr (Nat.le_refl _))
  have ON2 : Only g off (off + no) w w2 := (Only.of_below hbq).trans (on2.mono (Nat.le_refl _) (by omega))
  have HLL := Lib.hid hll
  have HVL := Lib.hid hvl
  clear hll hvl A1w B1w O1 on2 hbq
  go_wp2_with fail
  have hbq : Below w2.heap.size w2 w2.drew := (Below.refl _ _).drew
  go_still_tail 8, (by kernel_rfl)
  change wpList _ _ _ _ _ w2.drew
  generalize w2.drew = w3 at hbq ⊢
  have A3 := A2.below hbq
  have B3 := B2.below hbq
  have O3 := O2.below hbq
  have L3 := L2.below hbq
  have ON3 := ON2.trans (Only.of_below hbq)
  clear A2 B2 O2 L2 ON2 hbq
  go_wp2_with fail
  refine (HIH.out g (off + H) R (co - H) (lo.drop H) (some ⟨b1, o1 + hf, none⟩) k (ca - hf) (la.drop hf) (some ⟨b2, o2 + hf, none⟩) k (cb - hf) (lb.drop hf) cut w3 S1.out.2.1 LHI.out.symm LA1.out LB1.out S2.out.2.2.2.2.2.1 S2.out.2.2.2.2.2.2.1 S2.out.2.2.1 S2.out.2.2.2.2.2.2.2.1 S2.out.2.2.2.1 S2.out.2.2.2.2.2.2.2.2 O3 (Rd.of_at (A3.drop hf)) (Rd.of_at (B3.drop hf)) (fun _ b' off' e => by cases e; exact hne1) (fun _ b' off' e => by cases e; exact hne2) (hla.drop hf) (hlb.drop hf) S1.out.2.2.2.1 S1.out.2.2.2.2.2 hcut hcut2).mono ?_
  rintro e w4 ⟨rfl, lh, hlh, hlimH, H4, hvh, on4⟩
  rw [← EA1.out, ← EB1.out] at hvh
  have A4 := on4.at' A3 hne1
  have B4 := on4.at' B3 hne2
  have L4 := on4.arr L3 (Or.inl (by rw [HLL.out]; exact Nat.le_refl _))
  have ON4 := ON3.trans (on4.mono (lo' := off) (hi' := off + no) (by omega) (by omega))
  have HLH := Lib.hid hlh
  have HVH := Lib.hid hvh
  clear hlh hvh A3 B3 O3 L3 ON3 on4
  go_wp2_with fail
  have hbq : Below w4.heap.size w4 w4.drew := (Below.refl _ _).drew
  have A5 := A4.below hbq
  have B5 := B4.below hbq
  have H5 := H4.below hbq
  have L5 := L4.below hbq
  have ON5 := ON4.trans (Only.of_below hbq)
  have hfM : hf ≤ MaxW := by unfold MaxW; omega
  have qHDA := (distance_any (some ⟨b1, o1, none⟩) hf ca (la.take hf) (some ⟨b1, o1 + hf, none⟩) k (ca - hf) (la.drop hf) w4.drew LA0.out LA1.out S2.out.1 hc2 S2.out.2.2.1 S2.out.2.2.2.2.2.2.2.1 (Rd.of_at (A5.take hf)) (Rd.of_at (A5.drop hf)) (hla.take hf) (hla.drop hf) hkh hfM)
  simp only [RetDist] at qHDA
  rw [← EA0.out, ← EA1.out] at qHDA
  obtain ⟨sa, hsa⟩ : ∃ sa, sa = decide (A0 < A1) := ⟨_, rfl⟩
  rw [← hsa] at qHDA
  have HDA := Lib.hid qHDA
  have HSA := Lib.hid hsa
  clear qHDA hsa
  clear A4 B4 H4 L4 ON4 hbq
  go_region_with (go_at_call 94; refine HDA.out.mono ?_; rintro e w6 ⟨da, rfl, hda, hlimda, D6, hvda, bda, sda⟩)
  have hd4 : w4.drew.heap.size = w4.heap.size := rfl
  have A6 := A5.below bda
  have B6 := B5.below bda
  have H6 := H5.below bda
  have L6 := L5.below bda
  have ON6 := ON5.trans (Only.of_below bda)
  have HLDA := Lib.hid hda
  have HVDA := Lib.hid hvda
  clear A5 B5 H5 L5 ON5 HDA hda hvda bda
  go_wp2_with fail
  have hbq : Below w6.heap.size w6 w6.drew := (Below.refl _ _).drew
  have A7 := A6.below hbq
  have B7 := B6.below hbq
  have H7 := H6.below hbq
  have L7 := L6.below hbq
  have D7 := D6.below hbq
  have ON7 := ON6.trans (Only.of_below hbq)
  have qHDB := (distance_any (some ⟨b2, o2, none⟩) hf cb (lb.take hf) (some ⟨b2, o2 + hf, none⟩) k (cb - hf) (lb.drop hf) w6.drew LB0.out LB1.out S2.out.2.1 hd2 S2.out.2.2.2.1 S2.out.2.2.2.2.2.2.2.2 (Rd.of_at (B7.take hf)) (Rd.of_at (B7.drop hf)) (hlb.take hf) (hlb.drop hf) hkh hfM)
  simp only [RetDist] at qHDB
  rw [← EB0.out, ← EB1.out] at qHDB
  obtain ⟨sb, hsb⟩ : ∃ sb, sb = decide (B0 < B1) := ⟨_, rfl⟩
  rw [← hsb] at qHDB
  have HDB := Lib.hid qHDB
  have HSB := Lib.hid hsb
  clear qHDB hsb
  clear A6 B6 H6 L6 D6 ON6 hbq
  go_region_with (go_at_call 94; refine HDB.out.mono ?_; rintro e w8 ⟨db, rfl, hdb, hlimdb, E8, hvdb, bdb, sdb⟩)
  have A8 := A7.below bdb
  have B8 := B7.below bdb
  have H8 := H7.below bdb
  have L8 := L7.below bdb
  have D8 := D7.below bdb
  have ON8 := ON7.trans (Only.of_below bdb)
  have HLDB := Lib.hid hdb
  have HVDB := Lib.hid hvdb
  clear A7 B7 H7 L7 D7 ON7 HDB hdb hvdb
  have hHM : H ≤ MaxW := by unfold MaxW; omega
  have hHM1 : H + 1 ≤ MaxW := by unfold MaxW; omega
  go_wp2_with (at_make; refine wpList_make_words w8 rfl (.tmp 68) (.tmp 68) 36 rfl Tryz.underlying36 info_u64 _ _ H rfl rfl (by omega) (by omega) hHM ?_; intro w9 hw9 hb9 hs9)
  have harrC := hw9.arr.1
  have C9a := (D8.below hb9).at'
  have C9b := (E8.below hb9).at'
  have hd6 : w6.drew.heap.size = w6.heap.size := rfl
  rw [hd4] at sda
  rw [hd6] at sdb
  refine (HIH.out w8.heap.size 0 H H (List.replicate H 0) (some ⟨w4.heap.size, 0, none⟩) hf hf da (some ⟨w6.heap.size, 0, none⟩) hf hf db cut w9 S1.out.1 (by simp) HLDA.out.symm HLDB.out.symm (Nat.le_refl _) (by omega) (Nat.le_refl _) (by omega) (Nat.le_refl _) (by omega) harrC (Rd.of_at C9a) (Rd.of_at C9b) (fun _ b' off' e => by cases e; omega) (fun _ b' off' e => by cases e; omega) hlimda hlimdb S1.out.2.2.1 S1.out.2.2.2.2.1 hcut hcut2).mono ?_
  rintro e w10 ⟨rfl, lc, hlc, hlimc, C10, hvc, on10⟩
  have b10 : Below w8.heap.size w8 w10 := hb9.trans (on10.below (Nat.le_refl _) hb9.size)
  have L10 := L8.below b10
  have H10 := H8.below b10
  have ON10 := ON8.trans (Only.of_below b10)
  have hg10 : g < w10.heap.size := by have := ON10.size; omega
  have hg8 : w8.heap.size < w10.heap.size := by have := on10.size; omega
  have HLC := Lib.hid hlc
  have HVC := Lib.hid hvc
  clear A8 B8 H8 L8 D8 E8 ON8 hlc hvc on10 b10 C9a C9b harrC hw9 hb9 hs9
  go_wp2_with (first
    | (at_make; refine wpList_make_words w10 rfl (.tmp 77) (.tmp 77) 36 rfl Tryz.underlying36 info_u64 _ _ (H + 1) rfl rfl (by omega) (by omega) hHM1 ?_; intro w11 hw11 hb11 hs11; have M11 := hw11.arr.1; have L11 := L10.below hb11)
    | (with_reducible refine wpList_copy_words rfl (.tmp 79) (.tmp 80) 36 36 rfl Tryz.underlying36 info_u64 w10.heap.size 0 (H + 1) (H + 1) (some ⟨g, off, none⟩) H co rfl rfl (List.replicate (H + 1) 0) ll List.length_replicate HLL.out M11 (Rd.of_at L11.at') ?_; intro w12 M12 on12))
  have hcpd := copied (n := H + 1) (l := ll) (by rw [HLL.out]; omega) hlimL
  rw [HLL.out] at hcpd
  obtain ⟨lm, hlm⟩ : ∃ lm, lm = ll.take (H + 1) ++ (List.replicate (H + 1) (0 : Int)).drop H := ⟨_, rfl⟩
  rw [← hlm] at hcpd M12
  obtain ⟨hlm1, hlimm, hvm⟩ := hcpd
  rw [HVL.out] at hvm
  have b12 : Below w10.heap.size w10 w12 := hb11.trans (on12.below (Nat.le_refl _) hb11.size)
  have H12 := H10.below b12
  have C12 := C10.below b12
  have hs12 : w10.heap.size < w12.heap.size := by have := on12.size; omega
  have hX0 : vb B64 la = A0 + B64 ^ hf * A1 := by rw [EA0.out, EA1.out]; exact vb_split B64 la hf (by rw [← HNA.out]; omega)
  have hX1 : vb B64 lb = B0 + B64 ^ hf * B1 := by rw [EB0.out, EB1.out]; exact vb_split B64 lb hf (by rw [← HNB.out]; omega)
  have a00 : 0 ≤ A0 ∧ A0 < B64 ^ hf := by
    rw [EA0.out]
    have h1 := vb_lt B64_pos (hla.take hf)
    rw [← LA0.out] at h1
    exact ⟨vb_nonneg B64_pos (hla.take hf), h1⟩
  have b00 : 0 ≤ B0 ∧ B0 < B64 ^ hf := by
    rw [EB0.out]
    have h1 := vb_lt B64_pos (hlb.take hf)
    rw [← LB0.out] at h1
    exact ⟨vb_nonneg B64_pos (hlb.take hf), h1⟩
  have hkp := pow_le_pow B64_pos hkh
  have a10 : 0 ≤ A1 ∧ A1 < B64 ^ hf := by
    rw [EA1.out]
    have h1 := vb_lt B64_pos (hla.drop hf)
    rw [← LA1.out] at h1
    exact ⟨vb_nonneg B64_pos (hla.drop hf), by omega⟩
  have b10' : 0 ≤ B1 ∧ B1 < B64 ^ hf := by
    rw [EB1.out]
    have h1 := vb_lt B64_pos (hlb.drop hf)
    rw [← LB1.out] at h1
    exact ⟨vb_nonneg B64_pos (hlb.drop hf), by omega⟩
  have hroomX := halves_room (h := hf) rfl a00.1 a00.2 a10.1 a10.2 b00.1 b00.2 b10'.1 b10'.2
  rw [HH.out] at hroomX
  have RX := Lib.hid hroomX
  have LALL : Hid ((ll ++ lh).length = no) := by
    show _ = _
    rw [List.length_append, HLL.out, HLH.out]
    have := HSUM.out; have := HRK.out; have := HH.out; omega
  have hall : vb B64 (ll ++ lh) = A0 * B0 + B64 ^ hf * B64 ^ hf * (A1 * B1) := by
    rw [vb_append, HLL.out, HVL.out, HVH.out, ← HH.out, show 2 * hf = hf + hf by omega, Int.pow_add]
  have TOT : Hid (vb B64 (ll ++ lh) + B64 ^ hf * (A0 * B1 + A1 * B0) = vb B64 la * vb B64 lb) := by
    show _ = _
    rw [hall, hX0, hX1, halves_tot]
  have FIT : Hid (vb B64 ((ll ++ lh).drop hf) + (A0 * B1 + A1 * B0) < B64 ^ (no - hf)) := by
    refine fit_tail (hlimL.app hlimH) LALL.out (by omega) ?_
    rw [TOT.out]
    have e1 := vb_lt B64_pos hla
    have e2 := vb_lt B64_pos hlb
    rw [← HNA.out] at e1
    rw [← HNB.out] at e2
    have e3 := prod_lt e1 e2 (vb_nonneg B64_pos hla) (vb_nonneg B64_pos hlb)
    rw [← Int.pow_add, ← HSUM.out] at e3
    exact e3
  have fit0 : A0 * B0 + A1 * B1 < B64 ^ (H + 1) := by have := RX.out; omega
  have HVM1 := Lib.hid hvm
  have HLM1 := Lib.hid hlm1
  have hRH : R ≤ H + 1 := by have := HRK.out; have := HH.out; omega
  clear hX0 hX1 a00 b00 hkp a10 b10' hroomX hall hvm hlm1 hlm
  refine (addTo_any w10.heap.size 0 (H + 1) (H + 1) lm (some ⟨g, off + H, none⟩) R (co - H) lh w12 HLM1.out.symm HLH.out.symm (Nat.le_refl _) (by omega) S2.out.2.2.2.2.2.1 S2.out.2.2.2.2.2.2.1 M12 (Rd.of_at H12.at') (fun _ b' off' e => by cases e; omega) hlimm hlimH (by rw [HVM1.out, HVH.out]; exact fit0) hRH).mono ?_
  rintro e w13 ⟨rfl, lm2, hlm2, hlimm2, M13, hvm2, on13⟩
  rw [HVM1.out, HVH.out] at hvm2
  have b13 : Below w10.heap.size w10 w13 := b12.trans (on13.below (Nat.le_refl _) (by omega))
  have C13 := C10.below b13
  have HLM2 := Lib.hid hlm2
  have HVM2 := Lib.hid hvm2
  clear hlm2 hvm2 on13 M12 H12 C12 fit0
  by_cases hs : sa = sb
  · have hbe : (sa == sb) = true := by rw [hs]; simp
    have hdd : decide (A0 < A1) = decide (B0 < B1) := by rw [← HSA.out, ← HSB.out]; exact hs
    have HDD := Lib.hid hdd
    clear hs hdd
    go_wp2_with fail
    refine (subFrom_any w10.heap.size 0 (H + 1) (H + 1) lm2 (some ⟨w8.heap.size, 0, none⟩) H H lc w13 HLM2.out.symm HLC.out.symm (Nat.le_refl _) (by omega) (Nat.le_refl _) (by omega) M13 (Rd.of_at C13.at') (fun _ b' off' e => by cases e; omega) hlimm2 hlimc (by rw [HVM2.out, HVC.out, HVDA.out, HVDB.out]; have h1 := cross_same HDD.out; have h2 := RX.out; omega) (by omega)).mono ?_
    rintro e w14 ⟨rfl, lm3, hlm3, hlimm3, M14, hv14, on14⟩
    have hmid2 : vb B64 lm3 = A0 * B1 + A1 * B0 := by rw [hv14, HVM2.out, HVC.out, HVDA.out, HVDB.out]; exact cross_same HDD.out
    have hroom : (tr lm3).length ≤ no - hf := by
      refine room_of B64_pos (can_tr hlimm3) ?_
      rw [vb_tr, hmid2]
      have h1 := FIT.out
      have h2 := vb_nonneg B64_pos ((hlimL.app hlimH).drop hf)
      omega
    rw [tr_length] at hroom
    have hbq : Below w14.heap.size w14 w14.drew := (Below.refl _ _).drew
    have b15 : Below w10.heap.size w10 w14.drew := (b13.trans (on14.below (Nat.le_refl _) (by have := b13.size; omega))).drew
    have L15 := L10.below b15
    have H15 := H10.below b15
    have M15 : Arr w14.drew w10.heap.size 0 lm3 := M14.below hbq
    have ON15 := ON10.trans (Only.of_below b15)
    have HMID := Lib.hid hmid2
    have HLM3 := Lib.hid hlm3
    clear hmid2 hv14 hlm3 on14 M14 hbq
    have ALL15 : Arr w14.drew g off (ll ++ lh) := L15.append (by rw [HLL.out]; exact H15)
    have hlimA : Lim B64 (ll ++ lh) := hlimL.app hlimH
    have HTR := Lib.hid (trim_any (some ⟨w10.heap.size, 0, none⟩) (H + 1) (H + 1) lm3 w14.drew HLM3.out.symm (Nat.le_refl _) (by omega) (Rd.of_at M15.at'))
    have HADD := Lib.hid (addTo_any g (off + hf) (no - hf) (co - hf) ((ll ++ lh).drop hf) (some ⟨w10.heap.size, 0, none⟩) (tlen lm3) (H + 1) (tr lm3) w14.drew (by rw [List.length_drop, LALL.out]) (tr_length _).symm (by omega) (by omega) (by have := tlen_le lm3; rw [HLM3.out] at this; exact this) (by omega) (ALL15.drop hf) (Rd.of_at (M15.at'.take _)) (fun _ b' off' e => by cases e; omega) (hlimA.drop hf) ((hlimm3).take _) (by rw [vb_tr, HMID.out]; exact FIT.out) hroom)
    go_wp2_with fail
    go_region_with (first
      | (go_at_call 28; refine HTR.out.mono ?_; rintro e w' ⟨rfl, rfl⟩)
      | (go_at_call 29; refine HADD.out.mono ?_; rintro e w16 ⟨rfl, hin⟩))
    all_goals
      obtain ⟨lz, hlz, hlimz, Z16, hvz, onz⟩ := splice ALL15 hlimA LALL.out (show hf ≤ no by omega) hin
      rw [vb_tr, HMID.out] at hvz
      have hvf : vb B64 lz = vb B64 la * vb B64 lb := by
        rw [hvz, Int.mul_add, ← Int.add_assoc, ← vb_split B64 (ll ++ lh) hf (by rw [LALL.out]; omega)]
        exact TOT.out
      have HVF := Lib.hid hvf
      have HLZ := Lib.hid hlz
      clear hvz hvf hlz
      go_wp2_with fail
      go_end0
      exact ⟨rfl, lz, HLZ.out, hlimz, Z16, HVF.out, ON15.trans onz⟩
  · have hbe : (sa == sb) = false := by rw [beq_eq_false_iff_ne]; exact hs
    have hdd : decide (A0 < A1) ≠ decide (B0 < B1) := by rw [← HSA.out, ← HSB.out]; exact hs
    have HDD := Lib.hid hdd
    clear hs hdd
    go_wp2_with fail
    refine (addTo_any w10.heap.size 0 (H + 1) (H + 1) lm2 (some ⟨w8.heap.size, 0, none⟩) H H lc w13 HLM2.out.symm HLC.out.symm (Nat.le_refl _) (by omega) (Nat.le_refl _) (by omega) M13 (Rd.of_at C13.at') (fun _ b' off' e => by cases e; omega) hlimm2 hlimc (by rw [HVM2.out, HVC.out, HVDA.out, HVDB.out]; exact RX.out.1) (by omega)).mono ?_
    rintro e w14 ⟨rfl, lm3, hlm3, hlimm3, M14, hv14, on14⟩
    have hmid2 : vb B64 lm3 = A0 * B1 + A1 * B0 := by rw [hv14, HVM2.out, HVC.out, HVDA.out, HVDB.out]; exact cross_diff HDD.out
    have hroom : (tr lm3).length ≤ no - hf := by
      refine room_of B64_pos (can_tr hlimm3) ?_
      rw [vb_tr, hmid2]
      have h1 := FIT.out
      have h2 := vb_nonneg B64_pos ((hlimL.app hlimH).drop hf)
      omega
    rw [tr_length] at hroom
    have hbq : Below w14.heap.size w14 w14.drew := (Below.refl _ _).drew
    have b15 : Below w10.heap.size w10 w14.drew := (b13.trans (on14.below (Nat.le_refl _) (by have := b13.size; omega))).drew
    have L15 := L10.below b15
    have H15 := H10.below b15
    have M15 : Arr w14.drew w10.heap.size 0 lm3 := M14.below hbq
    have ON15 := ON10.trans (Only.of_below b15)
    have HMID := Lib.hid hmid2
    have HLM3 := Lib.hid hlm3
    clear hmid2 hv14 hlm3 on14 M14 hbq
    have ALL15 : Arr w14.drew g off (ll ++ lh) := L15.append (by rw [HLL.out]; exact H15)
    have hlimA : Lim B64 (ll ++ lh) := hlimL.app hlimH
    have HTR := Lib.hid (trim_any (some ⟨w10.heap.size, 0, none⟩) (H + 1) (H + 1) lm3 w14.drew HLM3.out.symm (Nat.le_refl _) (by omega) (Rd.of_at M15.at'))
    have HADD := Lib.hid (addTo_any g (off + hf) (no - hf) (co - hf) ((ll ++ lh).drop hf) (some ⟨w10.heap.size, 0, none⟩) (tlen lm3) (H + 1) (tr lm3) w14.drew (by rw [List.length_drop, LALL.out]) (tr_length _).symm (by omega) (by omega) (by have := tlen_le lm3; rw [HLM3.out] at this; exact this) (by omega) (ALL15.drop hf) (Rd.of_at (M15.at'.take _)) (fun _ b' off' e => by cases e; omega) (hlimA.drop hf) ((hlimm3).take _) (by rw [vb_tr, HMID.out]; exact FIT.out) hroom)
    go_wp2_with fail
    go_region_with (first
      | (go_at_call 28; refine HTR.out.mono ?_; rintro e w' ⟨rfl, rfl⟩)
      | (go_at_call 29; refine HADD.out.mono ?_; rintro e w16 ⟨rfl, hin⟩))
    all_goals
      obtain ⟨lz, hlz, hlimz, Z16, hvz, onz⟩ := splice ALL15 hlimA LALL.out (show hf ≤ no by omega) hin
      rw [vb_tr, HMID.out] at hvz
      have hvf : vb B64 lz = vb B64 la * vb B64 lb := by
        rw [hvz, Int.mul_add, ← Int.add_assoc, ← vb_split B64 (ll ++ lh) hf (by rw [LALL.out]; omega)]
        exact TOT.out
      have HVF := Lib.hid hvf
      have HLZ := Lib.hid hlz
      clear hvz hvf hlz
      go_wp2_with fail
      go_end0
      exact ⟨rfl, lz, HLZ.out, hlimz, Z16, HVF.out, ON15.trans onz⟩
end Go.Proofs.YthfcncapgfkkjaaGreatDoor

namespace Go.Proofs.YthfcncapgfkkjaaGreatDoor
open Go.RowKit


set_option maxRecDepth 100000 in
set_option maxHeartbeats 4000000 in
/-- One call, what it does on shorter numbers being given; the first is not the shorter. -/
theorem multiply_step (g off no co : Nat) (lo : List Int) (aa : Option Addr) (na ca : Nat) (la : List Int) (ab : Option Addr) (nb' cb : Nat) (lb : List Int) (cut : Int) (w : World) (ih : MulAt (na + nb')) (hno : no = lo.length) (hna : na = la.length) (hnb : nb' = lb.length)
    (ho1 : no ≤ co) (ho2 : co ≤ 9223372036854775807) (hc1 : na ≤ ca) (hc2 : ca ≤ 9223372036854775807) (hd1 : nb' ≤ cb) (hd2 : cb ≤ 9223372036854775807)
    (ho : Arr w g off lo) (ha : Rd w aa la) (hb : Rd w ab lb) (hna' : la ≠ [] → ∀ b' off', aa = some ⟨b', off', none⟩ → b' ≠ g) (hnb'' : lb ≠ [] → ∀ b' off', ab = some ⟨b', off', none⟩ → b' ≠ g)
    (hla : Lim B64 la) (hlb : Lim B64 lb) (hsum : no = na + nb') (hM : no ≤ 17592186040000) (hcut : 2 ≤ cut) (hcut2 : cut ≤ 9223372036854775807) :
    Calls Tryz.prog 30 #[.slice (some ⟨g, off, none⟩) no co, .slice aa na ca, .slice ab nb' cb, .int .i64 cut] w fun e w' => e = .returned (.tuple #[]) ∧ InPl g off no (vb B64 la * vb B64 lb) w w' := by
  rcases Nat.lt_or_ge na nb' with hlt | hge
  · -- the two change places
    have hI : (na : Int) < (nb' : Int) := by omega
    rcases Int.lt_or_le (na : Int) cut with hc | hc
    · have HC := Lib.hid (multiplyRows_any g off no co lo ab nb' cb lb aa na ca la w hno hnb hna ho1 ho2 hd1 hd2 hc1 hc2 ho hb ha hnb'' hna' hlb hla (by omega))
      rw [Int.mul_comm (vb B64 lb)] at HC
      clear ih hno hna hnb ho ha hb hna' hnb'' hla hlb hsum hlt
      go_enter Tryz.func30, Tryz.ntmps30
      go_wp2_with (go_at_call 70; refine HC.out.mono ?_; rintro e w' ⟨rfl, hin⟩)
      go_end0
      exact ⟨rfl, hin⟩
    · have ih2 : MulAt (nb' + na) := by rw [Nat.add_comm]; exact ih
      have HC := Lib.hid (multiplyPieces_any g off no co lo ab nb' cb lb aa na ca la cut w ih2 hno hnb hna ho1 ho2 hd1 hd2 hc1 hc2 ho hb ha hnb'' hna' hlb hla (by omega) hM hcut hcut2 hlt (by omega))
      rw [Int.mul_comm (vb B64 lb)] at HC
      have hc' : ¬ (na : Int) < cut := by omega
      clear ih ih2 hno hna hnb ho ha hb hna' hnb'' hla hlb hsum hlt
      go_enter Tryz.func30, Tryz.ntmps30
      go_wp2_with (go_at_call 71; refine HC.out.mono ?_; rintro e w' ⟨rfl, hin⟩)
      go_end0
      exact ⟨rfl, hin⟩
  · have hI : ¬ (na : Int) < (nb' : Int) := by omega
    rcases Int.lt_or_le (nb' : Int) cut with hc | hc
    · have HC := Lib.hid (multiplyRows_any g off no co lo aa na ca la ab nb' cb lb w hno hna hnb ho1 ho2 hc1 hc2 hd1 hd2 ho ha hb hna' hnb'' hla hlb hsum)
      clear ih hno hna hnb ho ha hb hna' hnb'' hla hlb hsum hge
      go_enter Tryz.func30, Tryz.ntmps30
      go_wp2_with (go_at_call 70; refine HC.out.mono ?_; rintro e w' ⟨rfl, hin⟩)
      go_end0
      exact ⟨rfl, hin⟩
    · have hc' : ¬ (nb' : Int) < cut := by omega
      rcases Nat.lt_or_ge nb' na with hl2 | hl2
      · have HC := Lib.hid (multiplyPieces_any g off no co lo aa na ca la ab nb' cb lb cut w ih hno hna hnb ho1 ho2 hc1 hc2 hd1 hd2 ho ha hb hna' hnb'' hla hlb hsum hM hcut hcut2 hl2 (by omega))
        have hl2I : (nb' : Int) < (na : Int) := by omega
        clear ih hno hna hnb ho ha hb hna' hnb'' hla hlb hsum hge hl2
        go_enter Tryz.func30, Tryz.ntmps30
        go_wp2_with (go_at_call 71; refine HC.out.mono ?_; rintro e w' ⟨rfl, hin⟩)
        go_end0
        exact ⟨rfl, hin⟩
      · obtain rfl : na = nb' := by omega
        have HC := Lib.hid (multiplyHalves_any g off no co lo aa na ca la ab cb lb cut w ih hno hna hnb ho1 ho2 hc1 hc2 hd1 hd2 ho ha hb hna' hnb'' hla hlb hsum hM hcut hcut2 (by omega))
        clear ih hno hna hnb ho ha hb hna' hnb'' hla hlb hsum hge hl2
        go_enter Tryz.func30, Tryz.ntmps30
        go_wp2_with (go_at_call 72; refine HC.out.mono ?_; rintro e w' ⟨rfl, hin⟩)
        go_end0
        exact ⟨rfl, hin⟩

/-- For numbers of every length. -/
theorem multiply_all : ∀ S, MulAt S := by
  intro S
  induction S with
  | zero => intro g off no co lo aa na ca la ab nb' cb lb cut w h; exact absurd h (Nat.not_lt_zero _)
  | succ S ih =>
    intro g off no co lo aa na ca la ab nb' cb lb cut w h hno hna hnb ho1 ho2 hc1 hc2 hd1 hd2 ho ha hb hna' hnb'' hla hlb hsum hM hcut hcut2
    refine multiply_step g off no co lo aa na ca la ab nb' cb lb cut w ?_ hno hna hnb ho1 ho2 hc1 hc2 hd1 hd2 ho ha hb hna' hnb'' hla hlb hsum hM hcut hcut2
    intro g off no co lo aa na' ca la ab nb2 cb lb cut w h'
    exact ih g off no co lo aa na' ca la ab nb2 cb lb cut w (by omega)


set_option maxRecDepth 100000 in
set_option maxHeartbeats 1000000 in
theorem mul_any (cut : Int) (aa : Option Addr) (na ca : Nat) (la : List Int) (ab : Option Addr) (nb' cb : Nat) (lb : List Int) (w : World) (hna : na = la.length) (hnb : nb' = lb.length)
    (hc1 : na ≤ ca) (hc2 : ca ≤ 9223372036854775807) (hd1 : nb' ≤ cb) (hd2 : cb ≤ 9223372036854775807) (ha : Rd w aa la) (hb : Rd w ab lb) (hla : Lim B64 la) (hlb : Lim B64 lb) (hM : na + nb' ≤ 17592186040000) (hcut2 : cut ≤ 9223372036854775807) :
    Calls Tryz.prog 10 #[.int .i64 cut, .slice aa na ca, .slice ab nb' cb] w fun e w' => RetNum w (vb B64 la * vb B64 lb) e w' := by
  have ta := tlen_le la
  have tb := tlen_le lb
  have HTA := Lib.hid (trim_any aa na ca la w hna hc1 hc2 ha)
  have HTB := Lib.hid (trim_any ab nb' cb lb w hnb hd1 hd2 hb)
  obtain ⟨m, hm⟩ : ∃ m, m = tlen la := ⟨_, rfl⟩
  obtain ⟨n, hn⟩ : ∃ n, n = tlen lb := ⟨_, rfl⟩
  rw [← hm] at HTA
  rw [← hn] at HTB
  have hmc : m ≤ ca := by omega
  have hnc : n ≤ cb := by omega
  obtain ⟨N, hN⟩ : ∃ N, m + n = N := ⟨_, rfl⟩
  have hNI : (m : Int) + (n : Int) = (N : Int) := by omega
  have hNM : N ≤ MaxW := by unfold MaxW; omega
  have hN2 : N ≤ 17592186040000 := by omega
  obtain ⟨ct, hct⟩ : ∃ ct, max cut 2 = ct := ⟨_, rfl⟩
  have hct1 : 2 ≤ ct := by omega
  have hct2 : ct ≤ 9223372036854775807 := by omega
  have hra := ha.take (tlen la)
  have hrb := hb.take (tlen lb)
  have hma : m = (tr la).length := by rw [tr_length]; exact hm
  have hnb2 : n = (tr lb).length := by rw [tr_length]; exact hn
  have HMA := Lib.hid hma
  have HNB := Lib.hid hnb2
  have HN := Lib.hid hN
  clear hna hnb ha hb hma hnb2 hm hn hN ta tb
  go_enter Tryz.func10, Tryz.ntmps10
  go_wp2_with fail
  refine HTA.out.mono ?_
  rintro e w' ⟨rfl, rfl⟩
  go_wp2_with fail
  refine HTB.out.mono ?_
  rintro e w' ⟨rfl, rfl⟩
  go_wp2_with (at_make; refine wpList_make_words w rfl (.tmp 16) (.tmp 16) 36 rfl Tryz.underlying36 info_u64 _ _ N rfl rfl (by omega) (by omega) hNM ?_; intro w1 hw1 hb1 hs1)
  have harr := hw1.arr.1
  refine (multiply_all (m + n + 1) w.heap.size 0 N N (List.replicate N 0) aa m ca (tr la) ab n cb (tr lb) ct w1 (by omega) (by simp) HMA.out HNB.out (Nat.le_refl _) (by omega) hmc hc2 hnc hd2 harr (hra.below hb1) (hrb.below hb1) ?_ ?_ (hla.take _) (hlb.take _) HN.out.symm hN2 hct1 hct2).mono ?_
  · intro hne b' off' e
    subst e
    have h1 := hra.at'.lt hne
    omega
  · intro hne b' off' e
    subst e
    have h1 := hrb.at'.lt hne
    omega
  · rintro e w2 ⟨rfl, lz, hlz, hlimz, Z, hvz, onz⟩
    rw [vb_tr, vb_tr] at hvz
    have hOz := hw1.only onz Z (by rw [hlz, List.length_replicate])
    have hb2 : Below w.heap.size w w2 := hb1.trans (onz.below (Nat.le_refl _) (by omega))
    have HLZ := Lib.hid hlz
    have HVZ := Lib.hid hvz
    have htl := tlen_le lz
    rw [hlz] at htl
    clear hlz hvz
    go_wp2_with (go_at_call 28; refine (trim_any (some ⟨w.heap.size, 0, none⟩) N N lz w2 HLZ.out.symm (Nat.le_refl _) (by omega) (Rd.of_at Z.at')).mono ?_; rintro e w' ⟨rfl, rfl⟩)
    go_ret
    exact ⟨_, tr lz, rfl, hOz.take (tlen lz) htl, can_tr hlimz, by rw [vb_tr]; exact HVZ.out, hb2⟩

end Go.Proofs.YthfcncapgfkkjaaGreatDoor

namespace Go.Proofs.YthfcncapgfkkjaaGreatDoor
open Go.RowKit

theorem guess_any (a2 a1 a0 b1 b0 : Int) (w : World) (p2 : 0 ≤ a2) (p1 : 0 ≤ a1) (p1' : a1 ≤ 18446744073709551615) (p0 : 0 ≤ a0) (p0' : a0 ≤ 18446744073709551615) (q1 : 0 ≤ b1) (q1' : b1 ≤ 18446744073709551615) (q0 : 0 ≤ b0) (q0' : b0 ≤ 18446744073709551615) (hle : a2 ≤ b1) :
    Calls Tryz.prog 103 #[.int .u64 a2, .int .u64 a1, .int .u64 a0, .int .u64 b1, .int .u64 b0] w fun e w' => RetGuess ((a2 * 18446744073709551616 + a1) * 18446744073709551616 + a0) (b1 * 18446744073709551616 + b0) w e w' := by
  rcases Int.lt_or_le a2 b1 with h | h
  · exact guess_lt a2 a1 a0 b1 b0 w p2 p1 p1' p0 p0' q1' q0 q0' h
  · obtain rfl : a2 = b1 := by omega
    exact guess_eq a1 a0 a2 b0 w p1 p1' p0 p0' q1 q1' q0 q0'

/-- What nat.reduce leaves. -/
def RetRed (g off n : Nat) (a b : Int) (w : World) (e : Ending) (w' : World) : Prop := e = .returned (.int .u64 (a / b)) ∧ InPl g off (n + 1) (a % b) w w'

set_option maxRecDepth 100000 in
set_option maxHeartbeats 8000000 in
theorem reduce_any (g off no co : Nat) (la : List Int) (ab : Option Addr) (n cb : Nat) (lb : List Int) (w : World) (hno : no = n + 1) (hna : no = la.length) (hnb : n = lb.length) (ho1 : no ≤ co) (ho2 : co ≤ 9223372036854775807) (hd1 : n ≤ cb) (hd2 : cb ≤ 9223372036854775807)
    (ha : Arr w g off la) (hb : Rd w ab lb) (hne : lb ≠ [] → ∀ b' off', ab = some ⟨b', off', none⟩ → b' ≠ g) (hla : Lim B64 la) (hlb : Lim B64 lb) (hn2 : 2 ≤ n) (htop : 9223372036854775808 ≤ lb.getD (n - 1) 0) (hlt : vb B64 la < 18446744073709551616 * vb B64 lb) :
    Calls Tryz.prog 95 #[.slice (some ⟨g, off, none⟩) no co, .slice ab n cb] w fun e w' => RetRed g off n (vb B64 la) (vb B64 lb) w e w' := by
  obtain ⟨m, rfl⟩ : ∃ m, n = m + 2 := ⟨n - 2, by omega⟩
  obtain ⟨n, hn⟩ : ∃ n, m + 2 = n := ⟨_, rfl⟩
  obtain ⟨m1, hm1⟩ : ∃ m1, m + 1 = m1 := ⟨_, rfl⟩
  have hlb0 : lb ≠ [] := by intro e; rw [e] at hnb; simp at hnb
  obtain ⟨b2, o2, rfl, hat⟩ := hb.cases hlb0
  have hne' := hne hlb0 b2 o2 rfl
  have t3 := top_three (l := la) (n := m) (by omega)
  have t2 := top_two (l := lb) (n := m) (by omega)
  rw [hn, hm1] at t3
  rw [hm1] at t2
  rw [show m + 2 - 1 = m1 by omega] at htop
  rw [hn] at hno hnb hd1 hn2 ⊢
  obtain ⟨a2, ha2⟩ : ∃ a2, a2 = la.getD n 0 := ⟨_, rfl⟩
  obtain ⟨a1, ha1⟩ : ∃ a1, a1 = la.getD m1 0 := ⟨_, rfl⟩
  obtain ⟨a0, ha0⟩ : ∃ a0, a0 = la.getD m 0 := ⟨_, rfl⟩
  obtain ⟨b1, hb1⟩ : ∃ b1, b1 = lb.getD m1 0 := ⟨_, rfl⟩
  obtain ⟨b0, hb0⟩ : ∃ b0, b0 = lb.getD m 0 := ⟨_, rfl⟩
  have ra2 : 0 ≤ a2 ∧ a2 < B64 := by rw [ha2]; exact hla.getD B64_pos _
  have ra1 : 0 ≤ a1 ∧ a1 < B64 := by rw [ha1]; exact hla.getD B64_pos _
  have ra0 : 0 ≤ a0 ∧ a0 < B64 := by rw [ha0]; exact hla.getD B64_pos _
  have rb1 : 0 ≤ b1 ∧ b1 < B64 := by rw [hb1]; exact hlb.getD B64_pos _
  have rb0 : 0 ≤ b0 ∧ b0 < B64 := by rw [hb0]; exact hlb.getD B64_pos _
  rw [← ha2, ← ha1, ← ha0] at t3
  rw [← hb1, ← hb0] at t2
  rw [← hb1] at htop
  unfold B64 at ra2 ra1 ra0 rb1 rb0
  have hW : (1 : Int) ≤ B64 ^ m := pow_pos' B64_pos m
  have x0 := vb_nonneg B64_pos (hla.take m)
  have x1 := vb_lt B64_pos (hla.take m)
  have y0 := vb_nonneg B64_pos (hlb.take m)
  have y1 := vb_lt B64_pos (hlb.take m)
  rw [List.length_take, Nat.min_eq_left (by omega)] at x1 y1
  have h21 : a2 ≤ b1 := red_top hW x0 y1 t3 t2 ra1.1 ra0.1 (by omega) hlt
  have ca2 : w.cell? ⟨g, off + n, none⟩ = some (.int .u64 a2) := by rw [ha2]; exact ha.at' n (by omega)
  have ca1 : w.cell? ⟨g, off + m1, none⟩ = some (.int .u64 a1) := by rw [ha1]; exact ha.at' m1 (by omega)
  have ca0 : w.cell? ⟨g, off + m, none⟩ = some (.int .u64 a0) := by rw [ha0]; exact ha.at' m (by omega)
  have cb1 : w.cell? ⟨b2, o2 + m1, none⟩ = some (.int .u64 b1) := by rw [hb1]; exact hat m1 (by omega)
  have cb0 : w.cell? ⟨b2, o2 + m, none⟩ = some (.int .u64 b0) := by rw [hb0]; exact hat m (by omega)
  have hI1 : (n : Int) - 1 = (m1 : Int) := by omega
  have hI2 : (n : Int) - 2 = (m : Int) := by omega
  have hw1 : IntKind.i64.wrap (m1 : Int) = (m1 : Int) := by rw [IntKind.wrap_i64]; omega
  have hw0 : IntKind.i64.wrap (m : Int) = (m : Int) := by rw [IntKind.wrap_i64]; omega
  have hnI : (n : Int) < (no : Int) := by omega
  have hnN : n < no := by omega
  have hm1n : m1 < n := by omega
  have hmn : m < n := by omega
  have hm1no : m1 < no := by omega
  have hmno : m < no := by omega
  have HRG := Lib.hid (fun (G : Int) (g0 : 0 ≤ G) (g1 : G ≤ 18446744073709551615) (hle : G * (b1 * 18446744073709551616 + b0) ≤ (a2 * 18446744073709551616 + a1) * 18446744073709551616 + a0) (hmore : G = 18446744073709551615 ∨ (a2 * 18446744073709551616 + a1) * 18446744073709551616 + a0 < (G + 1) * (b1 * 18446744073709551616 + b0)) => red_guess hW x0 x1 y0 y1 t3 t2 (by omega) hlt g0 g1 hle hmore)
  have HGU := Lib.hid (fun w => guess_any a2 a1 a0 b1 b0 w ra2.1 ra1.1 (by omega) ra0.1 (by omega) rb1.1 (by omega) rb0.1 (by omega) h21)
  have HNO := Lib.hid hno
  have HNA := Lib.hid hna
  have HNB := Lib.hid hnb
  have HA2 := Lib.hid ha2
  have HLT := Lib.hid hlt
  have ra20 := ra2.1
  have ra21 := ra2.2
  clear t3 t2 ha2 ha1 ha0 hb1 hb0 ra2 ra1 ra0 rb1 rb0 x0 x1 y0 y1 hW htop hlt hno hna hnb hn hm1 h21 hb hne
  go_enter Tryz.func95, Tryz.ntmps95
  go_wp2_with fail
  have hbq : Below w.heap.size w w.drew := (Below.refl _ _).drew
  go_still_tail 24, (by kernel_rfl)
  change wpList _ _ _ _ _ w.drew
  generalize w.drew = w1 at hbq ⊢
  go_wp2_with fail
  refine (HGU.out w1).mono ?_
  rintro e w2 ⟨G, rfl, g0, g1, gle, gmore, hb12⟩
  have hbw2 : Below w.heap.size w w2 := hbq.trans (hb12.mono hbq.size)
  obtain ⟨hG1, hG2⟩ := HRG.out G g0 g1 gle gmore
  have a2w := ha.below hbw2
  have b2w := hat.below hbw2
  have HG1 := Lib.hid hG1
  have HG2 := Lib.hid hG2
  have hnco : n ≤ no := by omega
  have HSP := Lib.hid (subProduct_any g off no co la (some ⟨b2, o2, none⟩) n cb lb G w2 HNA.out HNB.out ho1 ho2 hd1 hd2 a2w (Rd.of_at b2w) (fun _ b' off' e => by cases e; exact hne') hla hlb hnco g0 g1)
  clear gle gmore hG1 hG2 hb12 hbq
  go_wp2_with fail
  refine HSP.out.mono ?_
  rintro e w3 ⟨c, l, rfl, c0, c1, hl, hlim, harr, hdr, hv, hon⟩
  have hln : l.getD n 0 = a2 := by
    have h1 := congrArg (fun z => List.getD z 0 0) hdr
    simp only [getD_drop, Nat.add_zero] at h1
    rw [h1]; exact HA2.out.symm
  have hno := HNO.out
  have cn : w3.cell? ⟨g, off + n, none⟩ = some (.int .u64 a2) := by rw [← hln]; exact harr.at' n (by omega)
  have fn := harr.frozen (off + n)
  have ea : vb B64 la = vb B64 (la.take n) + B64 ^ n * a2 := by
    have h1 := vb_take_succ B64 (l := la) (k := n) (by rw [← HNA.out]; omega)
    rw [List.take_of_length_le (by rw [← HNA.out]; omega), ← HA2.out] at h1
    exact h1
  have el : ∀ x, vb B64 (l.set n x) = vb B64 (l.take n) + B64 ^ n * x := by
    intro x
    have h1 := vb_take_succ B64 (l := l.set n x) (k := n) (by rw [List.length_set]; omega)
    rw [List.take_of_length_le (by rw [List.length_set]; omega), List.take_set_of_le (Nat.le_refl _), getD_set_same (by omega)] at h1
    exact h1
  have hp := pow_pos' B64_pos n
  have t0 := vb_nonneg B64_pos (hlim.take n)
  have t1 := vb_lt B64_pos (hlim.take n)
  rw [List.length_take, Nat.min_eq_left (by omega)] at t1
  have bl := vb_lt B64_pos hlb
  rw [← HNB.out] at bl
  have hD : vb B64 la - G * vb B64 lb = vb B64 (l.take n) + B64 ^ n * (a2 - c) := by
    rw [Int.mul_sub, ea, Int.mul_comm G]
    omega
  have hlc : c < 18446744073709551616 := c1
  have HL := Lib.hid hl
  by_cases hs : a2 < c
  · have h1 : B64 ^ n * (a2 - c) ≤ B64 ^ n * (-1) := Int.mul_le_mul_of_nonneg_left (by omega) (by omega)
    have hq := red_over HG2.out (show vb B64 la < G * vb B64 lb by omega)
    obtain ⟨d, hd⟩ : ∃ d, d = a2 - c + 18446744073709551616 := ⟨_, rfl⟩
    have hwr : IntKind.u64.wrap (a2 - c) = d := by rw [IntKind.wrap_u64]; omega
    have hG1 : 1 ≤ G := by
      rcases Int.lt_or_le G 1 with h | h
      · have : G = 0 := by omega
        rw [this, Int.zero_mul] at hD
        have := vb_nonneg B64_pos hla
        omega
      · exact h
    have hd0 : 0 ≤ d ∧ d < B64 := by unfold B64; omega
    have harr2 := harr.store n d
    have hlim2 : Lim B64 (l.set n d) := hlim.set n hd0.1 hd0.2
    have b3w : At (w3.setCell ⟨g, off + n, none⟩ (.int .u64 d)) b2 o2 lb := (Only.store (lo := off) (hi := off + no) (off + n) (.int .u64 d) (by omega) (by omega)).at' (hon.at' b2w hne') hne'
    have HADD := Lib.hid (addProduct_any g off no co (l.set n d) (some ⟨b2, o2, none⟩) n cb lb 1 (w3.setCell ⟨g, off + n, none⟩ (.int .u64 d)).drew (by rw [List.length_set]; exact HL.out.symm) HNB.out ho1 ho2 hd1 hd2 (harr2.below (Below.refl _ _).drew) (Rd.of_at (b3w.below (Below.refl _ _).drew)) (fun _ b' off' e => by cases e; exact hne') hlim2 hlb hnco (by decide) (by decide))
    have cn2 : (w3.setCell ⟨g, off + n, none⟩ (.int .u64 d)).cell? ⟨g, off + n, none⟩ = some (.int .u64 d) := by
      have := harr2.at' n (by rw [List.length_set]; omega)
      rwa [getD_set_same (by omega)] at this
    have hE : vb B64 la % vb B64 lb = vb B64 (l.take n) + B64 ^ n * (a2 - c) + vb B64 lb := by rw [hq.2, ← hD]
    have hlt0 : vb B64 la < G * vb B64 lb := by omega
    have hbpos : 0 < vb B64 lb := by have h9 := HG2.out; omega
    have hE0 := Int.emod_nonneg (vb B64 la) (show vb B64 lb ≠ 0 by omega)
    have hE1 : vb B64 la % vb B64 lb < B64 ^ n := by
      have h9 := Int.emod_lt_of_pos (vb B64 la) hbpos
      omega
    have HE := Lib.hid hE
    have HE0 := Lib.hid hE0
    have HE1 := Lib.hid hE1
    have HQ := Lib.hid hq.1
    have HHD := Lib.hid hd
    have htake2 : (l.set n d).take n = l.take n := List.take_set_of_le (Nat.le_refl _)
    have HT2 := Lib.hid htake2
    clear hE hE0 hE1 hq hd hD ea el t0 t1 bl h1 hv hdr hln hl htake2 hno hlt0
    go_wp2_with fail
    go_region_with (go_at_call 93; refine HADD.out.mono ?_; rintro e w4 ⟨c3, l3, rfl, z0, z1, hl3, hlim3, harr3, hdr3, hv3, hon3⟩; have cn4 : w4.cell? ⟨g, off + n, none⟩ = some (.int .u64 d) := (by have h1 := congrArg (fun z => List.getD z 0 0) hdr3; simp only [getD_drop, Nat.add_zero] at h1; rw [getD_set_same (by rw [HL.out]; omega)] at h1; rw [← h1]; exact harr3.at' n (by omega)); have fn4 := harr3.frozen (off + n))
    all_goals
      have hp3 := vb_nonneg B64_pos (hlim3.take n)
      have hq3 := vb_lt B64_pos (hlim3.take n)
      rw [List.length_take, Nat.min_eq_left (by rw [hl3]; exact hnco)] at hq3
      rw [HT2.out, Int.mul_one] at hv3
      have hEE : vb B64 la % vb B64 lb = vb B64 (l3.take n) + B64 ^ n * (c3 + (a2 - c)) := by
        rw [HE.out, Int.mul_add]
        omega
      have hk0 : c3 + (a2 - c) = 0 := by
        have e0 := HE0.out
        have e1 := HE1.out
        rw [hEE] at e0 e1
        rcases Int.lt_trichotomy (c3 + (a2 - c)) 0 with h | h | h
        · have := Int.mul_le_mul_of_nonneg_left (show c3 + (a2 - c) ≤ -1 by omega) (Int.le_of_lt hp)
          omega
        · exact h
        · have := Int.mul_le_mul_of_nonneg_left (show 1 ≤ c3 + (a2 - c) by omega) (Int.le_of_lt hp)
          omega
      have hf : IntKind.u64.wrap (d + c3) = 0 := by
        have := HHD.out
        rw [IntKind.wrap_u64]; omega
      have hvf : vb B64 (l3.set n (IntKind.u64.wrap (d + c3))) = vb B64 la % vb B64 lb := by
        have h1 := vb_take_succ B64 (l := l3.set n (IntKind.u64.wrap (d + c3))) (k := n) (by rw [List.length_set, hl3]; omega)
        rw [List.take_of_length_le (by rw [List.length_set, hl3, HNO.out]; exact Nat.le_refl _), List.take_set_of_le (Nat.le_refl _), getD_set_same (by rw [hl3]; omega)] at h1
        rw [h1, hf, hEE, hk0]
      have hlimf : Lim B64 (l3.set n (IntKind.u64.wrap (d + c3))) := hlim3.set n (by rw [hf]; exact Int.le_refl _) (by rw [hf]; decide)
      have harrf := harr3.store n (IntKind.u64.wrap (d + c3))
      have hlf : (l3.set n (IntKind.u64.wrap (d + c3))).length = n + 1 := by rw [List.length_set, hl3, HNO.out]
      have honf : Only g off (off + no) w (w4.setCell ⟨g, off + n, none⟩ (.int .u64 (IntKind.u64.wrap (d + c3)))) :=
        (((Only.of_below hbw2 : Only g off (off + no) w w2).trans (hon.mono (Nat.le_refl _) (by omega))).trans (Only.store (off + n) _ (by omega) (by omega))).trans (((Only.of_below (Below.refl _ _).drew).trans (hon3.mono (Nat.le_refl _) (by omega))).trans (Only.store (off + n) _ (by omega) (by omega)))
      have HVF := Lib.hid hvf
      have HLF := Lib.hid hlf
      clear hvf hlf hf hk0 hEE hp3 hq3 hv3 hdr3 hl3
      go_wp2_with fail
      go_ret
      refine ⟨by rw [HQ.out]; rfl, _, HLF.out, hlimf, harrf, HVF.out, ?_⟩
      rw [← HNO.out]
      exact honf
  · have h1 : 0 ≤ B64 ^ n * (a2 - c) := Int.mul_nonneg (by omega) (by omega)
    have hq := red_right HG1.out (show G * vb B64 lb ≤ vb B64 la by omega)
    obtain ⟨d, hd⟩ : ∃ d, a2 - c = d := ⟨_, rfl⟩
    have hd0 : 0 ≤ d ∧ d < B64 := by unfold B64; omega
    have hval : vb B64 (l.set n d) = vb B64 la % vb B64 lb := by rw [hq.2, el, ← hd]; omega
    have HVAL := Lib.hid hval
    have HQ := Lib.hid hq.1
    have harr2 := harr.store n d
    have hon2 : Only g off (off + no) w3 (w3.setCell ⟨g, off + n, none⟩ (.int .u64 d)) := Only.store (off + n) _ (by omega) (by omega)
    have honw := ((Only.of_below hbw2 : Only g off (off + no) w w2).trans (hon.mono (Nat.le_refl _) (by omega))).trans hon2
    have hlim2 := hlim.set n hd0.1 hd0.2
    clear hval hq hD ea el t0 t1 bl hp h1 hv hdr hln hl hno
    go_wp2_with fail
    go_ret
    refine ⟨by rw [HQ.out]; rfl, l.set n d, by rw [List.length_set, HL.out, HNO.out], hlim2, harr2, HVAL.out, ?_⟩
    rw [← HNO.out]
    exact honw
end Go.Proofs.YthfcncapgfkkjaaGreatDoor

namespace Go.Proofs.YthfcncapgfkkjaaGreatDoor
open Go.RowKit

/-- A row of which words in the middle have been written. -/
theorem splice_mid {g off t s n : Nat} {l : List Int} {N : Int} {w w' : World} (ha : Arr w g off l) (hl : Lim B64 l) (hn : l.length = n) (ht : t + s ≤ n) (h : InPl g (off + t) s N w w') :
    ∃ l2, l2.length = n ∧ Lim B64 l2 ∧ Arr w' g off l2 ∧ l2.take t = l.take t ∧ vb B64 (l2.drop t) = N + B64 ^ s * vb B64 (l.drop (t + s)) ∧ Only g off (off + n) w w' := by
  obtain ⟨l', hl', hlim', harr', hv', hon'⟩ := h
  have hlt : (l.take t).length = t := by rw [List.length_take]; omega
  have h1 := hon'.arr (ha.take t) (Or.inl (by rw [hlt]; exact Nat.le_refl _))
  have h2 := hon'.arr (ha.drop (t + s)) (Or.inr (by omega))
  have h3 := h1.append (by rw [hlt]; exact harr')
  have h4 := h3.append (m := l.drop (t + s)) (by rw [List.length_append, hlt, hl']; exact h2)
  refine ⟨l.take t ++ l' ++ l.drop (t + s), by rw [List.length_append, List.length_append, hlt, hl', List.length_drop]; omega, ((hl.take t).app hlim').app (hl.drop _), h4, ?_, ?_, hon'.mono (by omega) (by omega)⟩
  · rw [List.append_assoc, List.take_append_of_le_length (by omega), List.take_of_length_le (by omega)]
  · rw [List.append_assoc, List.drop_append_of_le_length (by omega), List.drop_of_length_le (l := l.take t) (by omega), List.nil_append, vb_append, hl', hv']

/-- Where the upper part is small its words above n are nothing. -/
theorem high_zero {l : List Int} {k n : Nat} {b : Int} (hl : Lim B64 l) (hb : b < B64 ^ n) (h : vb B64 (l.drop k) < b) (hkn : k + n ≤ l.length) : vb B64 (l.drop (k + n)) = 0 := by
  have h1 := vb_split B64 (l.drop k) n (by rw [List.length_drop]; omega)
  rw [List.drop_drop] at h1
  have h2 := vb_nonneg B64_pos ((hl.drop k).take n)
  have h3 := vb_nonneg B64_pos (hl.drop (k + n))
  rcases Int.lt_or_le 0 (vb B64 (l.drop (k + n))) with h4 | h4
  · have := Int.mul_le_mul_of_nonneg_left (show 1 ≤ vb B64 (l.drop (k + n)) by omega) (Int.le_of_lt (pow_pos' B64_pos n))
    omega
  · omega

/-- One more digit of the quotient. -/
theorem long_step {Q' Rt q r b A S : Int} {j : Nat} (hS : S = q * b + r) (h : A = B64 ^ (j + 1) * (Q' * b) + (Rt + B64 ^ j * S)) : A = B64 ^ j * ((q + B64 * Q') * b) + (Rt + B64 ^ j * r) := by
  rw [h, hS, Int.add_mul, Int.mul_add (B64 ^ j), Int.mul_add (B64 ^ j), Int.pow_succ, Int.mul_assoc (B64 ^ j), Int.mul_assoc B64]
  omega

/-- Two rows of the call's own lie apart. -/
def Dis (v u : Value) : Prop := ∀ g, v.ownBlock = some g → u.ownBlock ≠ some g
theorem Ow.lt {base : Nat} {w : World} {v : Value} {l : List Int} (h : Ow base w v l) {k : Nat} (hk : v.ownBlock = some k) : k < w.heap.size := by
  rcases h.2 with ⟨rfl, _⟩ | ⟨g, cap, cur, rfl, hg, hh, _⟩
  · simp [Value.ownBlock] at hk
  · simp only [Value.ownBlock, Option.some.injEq] at hk
    rw [← hk]
    exact (Array.getElem?_eq_some_iff.1 hh).1

/-- What nat.divideLong returns. -/
def RetDivL (a b : Int) (w : World) (e : Ending) (w' : World) : Prop :=
  ∃ vq lq vr lr, e = .returned (.tuple #[vq, vr]) ∧ Ow w.heap.size w' vq lq ∧ Can B64 lq ∧ vb B64 lq = a / b ∧ Ow w.heap.size w' vr lr ∧ Can B64 lr ∧ vb B64 lr = a % b ∧ Dis vq vr ∧ Below w.heap.size w w'

set_option maxRecDepth 100000 in
set_option maxHeartbeats 8000000 in
theorem divideLong_ge (aa : Option Addr) (na ca : Nat) (la : List Int) (b2 o2 n cb : Nat) (lb : List Int) (w : World) (hna : na = la.length) (hnb : n = lb.length) (_hc1 : na ≤ ca) (_hc2 : ca ≤ 9223372036854775807) (hd1 : n ≤ cb) (hd2 : cb ≤ 9223372036854775807)
    (ha : Rd w aa la) (hb' : At w b2 o2 lb) (hla : Lim B64 la) (hlb : Lim B64 lb) (hn2 : 2 ≤ n) (htop : 9223372036854775808 ≤ lb.getD (n - 1) 0) (hge : n ≤ na) (hM : na + 1 ≤ MaxW) :
    Calls Tryz.prog 74 #[.slice aa na ca, .slice (some ⟨b2, o2, none⟩) n cb] w fun e w' => RetDivL (vb B64 la) (vb B64 lb) w e w' := by
  have hlt : ¬ (na : Int) < (n : Int) := by omega
  obtain ⟨K, hK⟩ : ∃ K, na - n + 1 = K := ⟨_, rfl⟩
  obtain ⟨M, hMe⟩ : ∃ M, na + 1 = M := ⟨_, rfl⟩
  have hKI : (na : Int) - (n : Int) + 1 = (K : Int) := by omega
  have hMI : (na : Int) + 1 = (M : Int) := by omega
  have hKM : K ≤ MaxW := by omega
  have hMM : M ≤ MaxW := by omega
  have hKn : K + n = M := by omega
  have HNA := Lib.hid hna
  have HNB := Lib.hid hnb
  have HMe := Lib.hid hMe
  have HKn := Lib.hid hKn
  have HTOP := Lib.hid htop
  have hM63 : M ≤ 17592186044416 := hMM
  clear hna hnb hK hMe hKn htop
  go_enter Tryz.func74, Tryz.ntmps74
  go_wp2_with (first
    | (at_make; refine wpList_make_words w rfl (.tmp 21) (.tmp 21) 36 rfl Tryz.underlying36 info_u64 _ _ K rfl rfl (by omega) (by omega) hKM ?_; intro w1 hw1 hb1 hs1)
    | (at_make; refine wpList_make_words w1 rfl (.tmp 25) (.tmp 25) 36 rfl Tryz.underlying36 info_u64 _ _ M rfl rfl (by omega) (by omega) hMM ?_; intro w2 hw2 hb2 hs2; have harr2 := hw2.arr.1; have hra2 := (ha.below hb1).below hb2)
    | (with_reducible refine wpList_copy_words rfl (.tmp 27) (.tmp 28) 36 36 rfl Tryz.underlying36 info_u64 w1.heap.size 0 M M aa na ca rfl rfl (List.replicate M 0) la List.length_replicate HNA.out.symm harr2 hra2 ?_; intro w3 ha3 ho3))
  obtain ⟨l0, hl0⟩ : ∃ l0, l0 = la.take M ++ (List.replicate M (0 : Int)).drop na := ⟨_, rfl⟩
  have hcpd := copied (n := M) (l := la) (by rw [← HNA.out]; have := HMe.out; omega) hla
  rw [← HNA.out, ← hl0] at hcpd
  rw [← hl0] at ha3
  obtain ⟨hcl, hclim, hcv⟩ := hcpd
  have hbw1 := hb1
  have hbw2 : Below w.heap.size w w2 := hb1.trans (hb2.mono hb1.size)
  have hbw3 : Below w.heap.size w w3 := hbw2.trans (ho3.below hb1.size hbw2.size)
  have hQ3 : Ow w.heap.size w3 (.slice (some ⟨w.heap.size, 0, none⟩) K K) (List.replicate K 0) := ((hw1.below hb2).only' ho3 (by simp [Value.ownBlock]; omega))
  have hR3 : Ow w1.heap.size w3 (.slice (some ⟨w1.heap.size, 0, none⟩) M M) l0 := hw2.only ho3 ha3 (by rw [hcl, List.length_replicate])
  have hs13 : w1.heap.size < w3.heap.size := by have := ho3.size; omega
  have hbig : B64 ^ (n - 1) ≤ vb B64 lb := by
    have h1 := vb_take_succ B64 (l := lb) (k := n - 1) (by rw [← HNB.out]; omega)
    rw [List.take_of_length_le (by rw [← HNB.out]; omega)] at h1
    have h2 := vb_nonneg B64_pos (hlb.take (n - 1))
    have h3 := Int.mul_le_mul_of_nonneg_left (show 1 ≤ lb.getD (n - 1) 0 by have := HTOP.out; omega) (Int.le_of_lt (pow_pos' B64_pos (n - 1)))
    omega
  have hstart : vb B64 (l0.drop K) < vb B64 lb := by
    have hKa : K ≤ la.length := by rw [← HNA.out]; have := HKn.out; have := HMe.out; omega
    have h1 := vb_lt B64_pos (hla.drop K)
    rw [List.length_drop, ← HNA.out, show na - K = n - 1 by have := HKn.out; have := HMe.out; omega] at h1
    rw [hl0, List.take_of_length_le (by rw [← HNA.out]; have := HMe.out; omega), List.drop_append_of_le_length hKa, vb_append, List.drop_replicate, vb_replicate]
    omega
  have HST := Lib.hid hstart
  have HCV := Lib.hid hcv
  clear hstart hcv hl0 ha3 ho3 hw1 hw2 harr2 hra2 ha
  go_loopw [8] (fun ii wr => ∃ (k : Nat) (lq lr : List Int), k ≤ K ∧ ii = .int .i64 ((k : Int) - 1) ∧ Hid (lq.length = K) ∧ Lim B64 lq ∧ Ow w.heap.size wr (.slice (some ⟨w.heap.size, 0, none⟩) K K) lq ∧ Hid (lr.length = M) ∧ Lim B64 lr ∧ Ow w1.heap.size wr (.slice (some ⟨w1.heap.size, 0, none⟩) M M) lr ∧ Below w.heap.size w wr ∧ w1.heap.size < wr.heap.size ∧ Hid (vb B64 (lr.drop k) < vb B64 lb) ∧ Hid (vb B64 la = B64 ^ k * (vb B64 (lq.drop k) * vb B64 lb) + vb B64 lr))
    (fun ii _ => ((intOf ii) + 1).toNat)
  case atStart => exact ⟨K, List.replicate K 0, l0, Nat.le_refl _, rfl, by show _ = _; simp, Lim.replicate B64_pos K, hQ3, hcl, hclim, hR3, hbw3, hs13, HST, by show _ = _; rw [List.drop_of_length_le (by simp), HCV.out]; simp⟩
  case round =>
    obtain ⟨k, lq, lr, hk, rfl, HLQ, hlimq, hQ, HLR, hlimr, hR, hb, hsz, HT, HV⟩ := hrel
    by_cases hk0 : k = 0
    · subst hk0
      have hv : vb B64 la = vb B64 lq * vb B64 lb + vb B64 lr := by have h1 := HV.out; simpa using h1
      have ht : vb B64 lr < vb B64 lb := by have h1 := HT.out; simpa using h1
      have hr0 := vb_nonneg B64_pos hlimr
      have hqr := red_right (a := vb B64 la) (b := vb B64 lb) (G := vb B64 lq) (by rw [Int.add_mul, Int.one_mul]; omega) (by omega)
      have HQR := Lib.hid hqr
      have HRV : Hid (vb B64 lr = vb B64 la % vb B64 lb) := by show _ = _; rw [hqr.2]; omega
      have hRb := hR.mono hbw1.size
      clear hv ht hr0 hqr HV HT
      have hq1 := hQ.take (tlen lq) (by rw [← HLQ.out]; exact tlen_le lq)
      have hr1 := hRb.take (tlen lr) (by rw [← HLR.out]; exact tlen_le lr)
      have hK63 : K ≤ 9223372036854775807 := by unfold MaxW at hKM; omega
      have hM63' : M ≤ 9223372036854775807 := by omega
      have hrdq : Rd wr (some ⟨w.heap.size, 0, none⟩) lq := Rd.of_at hQ.arr.1.at'
      have hrdr : Rd wr (some ⟨w1.heap.size, 0, none⟩) lr := Rd.of_at hR.arr.1.at'
      have hdis : w.heap.size < w1.heap.size := hs1
      go_wp2_with fail
      refine (trim_any _ K K lq wr HLQ.out.symm (Nat.le_refl _) hK63 hrdq).mono ?_
      rintro e w4 ⟨rfl, rfl⟩
      go_wp2_with fail
      refine (trim_any _ M M lr wr HLR.out.symm (Nat.le_refl _) hM63' hrdr).mono ?_
      rintro e w4 ⟨rfl, rfl⟩
      go_wp2_with fail
      go_ret2
      exact ⟨_, tr lq, _, tr lr, rfl, hq1, can_tr hlimq, by rw [vb_tr]; exact HQR.out.1.symm, hr1, can_tr hlimr, by rw [vb_tr]; exact HRV.out, by intro g h1 h2; simp [Value.ownBlock] at h1 h2; omega, hb⟩
    · obtain ⟨j, rfl⟩ : ∃ j, k = j + 1 := ⟨k - 1, by omega⟩
      have hj : j < K := by omega
      have e0 : (((j + 1 : Nat) : Int) - 1) = (j : Int) := by omega
      rw [e0]
      obtain ⟨p, hp⟩ : ∃ p, j + n + 1 = p := ⟨_, rfl⟩
      have hpI : (j : Int) + (n : Int) + 1 = (p : Int) := by omega
      have hpM : p ≤ M := by have := HKn.out; omega
      have hjp : (j : Int) ≤ (p : Int) := by omega
      have hjM : j < M := by omega
      have hpj : p - j = n + 1 := by omega
      have hjl : j < lr.length := by rw [HLR.out]; exact hjM
      have hpl : j + (n + 1) ≤ lr.length := by rw [HLR.out]; omega
      have hz : vb B64 (lr.drop (j + 1 + n)) = 0 := by
        refine high_zero hlimr ?_ HT.out (by omega)
        have h1 := vb_lt B64_pos hlb
        rw [← HNB.out] at h1
        exact h1
      obtain ⟨S, hS⟩ : ∃ S, S = (lr.drop j).take (n + 1) := ⟨_, rfl⟩
      have hSl : n + 1 = S.length := by rw [hS, List.length_take, List.length_drop]; omega
      have hSlim : Lim B64 S := by rw [hS]; exact (hlimr.drop j).take _
      have hSv : vb B64 (lr.drop j) = vb B64 S := by
        have h1 := vb_split B64 (lr.drop j) (n + 1) (by rw [List.length_drop]; omega)
        rw [List.drop_drop, show j + (n + 1) = j + 1 + n by omega, hz, Int.mul_zero, Int.add_zero, ← hS] at h1
        exact h1
      have hSlt : vb B64 S < 18446744073709551616 * vb B64 lb := by
        have h1 := vb_drop B64 hjl
        have h2 := hlimr.getD B64_pos j
        have h3 := HT.out
        rw [hSv] at h1
        unfold B64 at h1 h2 h3
        unfold B64
        omega
      have hRarr := hR.arr.1
      have hSarr : Arr wr w1.heap.size j S := by have h1 := hRarr.sub j (n + 1); rw [Nat.zero_add, ← hS] at h1; exact h1
      have hbwr : At wr b2 o2 lb := hb'.below hb
      have hb2lt : b2 < w1.heap.size := by
        have h1 := hb'.lt (by intro e; have := HNB.out; rw [e] at this; simp at this; omega)
        have h2 := hbw1.size
        omega
      have HRED := Lib.hid (reduce_any w1.heap.size j (n + 1) (M - j) S (some ⟨b2, o2, none⟩) n cb lb wr rfl hSl HNB.out (by omega) (by omega) hd1 hd2 hSarr (Rd.of_at hbwr) (fun _ b' off' e => by cases e; omega) hSlim hlb hn2 HTOP.out hSlt)
      have HZ := Lib.hid hz
      have HSV := Lib.hid hSv
      have HSLT := Lib.hid hSlt
      have HPL := Lib.hid hpl
      clear e0 hp hz hSv hSlt hSarr hSl hbwr hS hpl hjl
      go_wp2_with fail
      refine HRED.out.mono ?_
      rintro e w4 ⟨rfl, hin⟩
      obtain ⟨lr2, hl2, hlim2, harr4, htk2, hdv2, hon4⟩ := splice_mid (g := w1.heap.size) (off := 0) (t := j) (s := n + 1) (n := M) hRarr hlimr HLR.out (by have := HPL.out; rw [HLR.out] at this; exact this) (by rw [Nat.zero_add]; exact hin)
      rw [show j + (n + 1) = j + 1 + n by omega, HZ.out, Int.mul_zero, Int.add_zero] at hdv2
      obtain ⟨q, hq⟩ : ∃ q, q = vb B64 S / vb B64 lb := ⟨_, rfl⟩
      have hQ4 := hQ.only' hon4 (by simp [Value.ownBlock]; omega)
      have hR4 := hR.only hon4 harr4 (by rw [hl2, HLR.out])
      rw [← hq]
      have hbp : 0 < vb B64 lb := by
        have h1 := HSLT.out
        have h2 := vb_nonneg B64_pos hSlim
        omega
      have hq0 : 0 ≤ q := by rw [hq]; exact Int.ediv_nonneg (vb_nonneg B64_pos hSlim) (by omega)
      have hqB : q < B64 := by rw [hq]; exact Int.ediv_lt_of_lt_mul hbp HSLT.out
      have hSqr : vb B64 S = q * vb B64 lb + vb B64 S % vb B64 lb := by
        have h1 := Int.mul_ediv_add_emod (vb B64 S) (vb B64 lb)
        rw [← hq, Int.mul_comm] at h1
        exact h1.symm
      have hrl := Int.emod_lt_of_pos (vb B64 S) hbp
      have hQarr := hQ4.arr.1
      have hcq := hQarr.at' j (by rw [HLQ.out]; exact hj)
      have hfq := hQarr.frozen (0 + j)
      have harrQ2 := hQarr.store j q
      rw [Nat.zero_add] at hcq hfq harrQ2
      have honQ : Only w.heap.size 0 K w4 (w4.setCell ⟨w.heap.size, j, none⟩ (.int .u64 q)) := Only.store j _ (Nat.zero_le _) hj
      have hQ5 := hQ4.only honQ harrQ2 (by rw [List.length_set])
      have hR5 := hR4.only' honQ (by simp [Value.ownBlock]; omega)
      have hb5 : Below w.heap.size w (w4.setCell ⟨w.heap.size, j, none⟩ (.int .u64 q)) := (hb.trans (hon4.below hbw1.size hb.size)).trans (honQ.below (Nat.le_refl _) (Nat.le_trans hb.size hon4.size))
      have hsz5 : w1.heap.size < (w4.setCell ⟨w.heap.size, j, none⟩ (.int .u64 q)).heap.size := by have h1 := hon4.size; have h2 := honQ.size; omega
      have hnew : vb B64 la = B64 ^ j * (vb B64 ((lq.set j q).drop j) * vb B64 lb) + vb B64 lr2 := by
        have e1 := vb_split B64 lr j (by rw [HLR.out]; omega)
        have e2 := vb_split B64 lr2 j (by rw [hl2]; omega)
        have e3 := vb_drop B64 (l := lq.set j q) (k := j) (by rw [List.length_set, HLQ.out]; exact hj)
        have e4 : (lq.set j q).drop (j + 1) = lq.drop (j + 1) := List.drop_set_of_lt (by omega)
        rw [getD_set_same (by rw [HLQ.out]; exact hj), e4] at e3
        rw [e3, e2, htk2, hdv2]
        have h1 := HV.out
        rw [e1, HSV.out] at h1
        exact long_step hSqr h1
      have HNEW := Lib.hid hnew
      have HL2 := Lib.hid hl2
      have HT2 : Hid (vb B64 (lr2.drop j) < vb B64 lb) := by show _ < _; rw [hdv2]; exact hrl
      clear hnew hl2 hSqr hrl hq htk2 hdv2 hin hQarr
      go_wp2_with fail
      go_roundw
      case rel =>
        refine ⟨j, lq.set j q, lr2, by omega, rfl, ?_, hlimq.set j hq0 hqB, hQ5, HL2.out, hlim2, hR5, hb5, hsz5, HT2.out, HNEW.out⟩
        show _ = _
        rw [List.length_set]; exact HLQ.out
      case measure => simp [intOf]
end Go.Proofs.YthfcncapgfkkjaaGreatDoor
