/-
  Dyad4: Contract of dyad's Add, on numbers of any exponent.
  FloA: compasslaw4.alive answers true.
  RefQR: The document's dyads of any exponent: Same; of a real number, of a float64.
  FloOrd: The walk of the statement FloOrders.
-/
import Derived.Test.YtfanhllcoaondaaGreatDoorPk27
import Derived.Test.YtfanhllcoaondaaGreatDoorPk26

namespace Go.Proofs.YtfanhllcoaondaaGreatDoor
open Go.RowKit

/-- A dyad in its one form has been returned: that of an integer times a power of two. -/
def RetDS (w : World) (S E : Int) (m : Nat) (e : Ending) (w' : World) : Prop :=
  ∃ p N, 0 ≤ N ∧ S = sg p N ∧ RetDy w p N E m e w'
set_option maxRecDepth 100000 in
set_option maxHeartbeats 1200000 in
theorem dadd_num {w : World} (p q : Bool) {a a2 : Option Addr} {n c n2 c2 : Nat} {A B : Int} {m P : Nat} (E G : Int) (hx : Num w (.slice a n c) A m) (hy : Num w (.slice a2 n2 c2) B m) (hm : m ≤ 1000) (hE0 : -900000 ≤ E) (hE1 : E ≤ 900000) (hG0 : -900000 ≤ G) (hG1 : G ≤ 900000) (hP : ∀ i : Nat, (i : Int) = E - min E G ∨ (i : Int) = G - min E G → m + i / 64 + 1 ≤ P) (hP2 : P ≤ 900) (hT : Tab64 w) :
    Calls Tryz.prog 39 #[.agg #[.bool p, .slice a n c, .int .i64 E], .agg #[.bool q, .slice a2 n2 c2, .int .i64 G]] w fun e w' => RetDS w (sg p A * 2 ^ (E - min E G).toNat + sg q B * 2 ^ (G - min E G).toNat) (min E G) (P + 1) e w' := by
  obtain ⟨w1, hw1⟩ : ∃ w1, w.alloc (.cells #[.bool p, .slice a n c, .int .i64 E] 60) = w1 := ⟨_, rfl⟩
  obtain ⟨w2, hw2⟩ : ∃ w2, w1.alloc (.cells #[.bool q, .slice a2 n2 c2, .int .i64 G] 60) = w2 := ⟨_, rfl⟩
  obtain ⟨w3, hw3⟩ : ∃ w3, w2.alloc (.cells #[.bool false, .slice none 0 0, .int .i64 0] 60) = w3 := ⟨_, rfl⟩
  have hb1 : Below w.heap.size w w1 := hw1 ▸ below_alloc w _
  have hb12 : Below w1.heap.size w1 w2 := hw2 ▸ below_alloc w1 _
  have hb23 : Below w2.heap.size w2 w3 := hw3 ▸ below_alloc w2 _
  have hbw2 := hb1.trans (hb12.mono hb1.size)
  have hbw3 := hbw2.trans (hb23.mono hbw2.size)
  have hc1 : w3.heap[w.heap.size]? = some (.cells #[.bool p, .slice a n c, .int .i64 E] 60 (0, 0)) := slot_kept (slot_kept (hw1 ▸ heap_alloc_new w _) hb12) hb23
  have hc2 : w3.heap[w1.heap.size]? = some (.cells #[.bool q, .slice a2 n2 c2, .int .i64 G] 60 (0, 0)) := slot_kept (hw2 ▸ heap_alloc_new w1 _) hb23
  have hc3 : w3.heap[w2.heap.size]? = some (.cells #[.bool false, .slice none 0 0, .int .i64 0] 60 (0, 0)) := hw3 ▸ heap_alloc_new w2 _
  have hs2 : w.heap.size ≤ w2.heap.size := hbw2.size
  replace hx := hx.below hbw3
  replace hy := hy.below hbw3
  replace hT := hT.below hbw3
  obtain ⟨e0, he0⟩ : ∃ e0, min E G = e0 := ⟨_, rfl⟩
  have HAL := Lib.hid (align_num (P := P) p q E G hx hy hm (by omega) (by omega) (by omega) (by omega) hP)
  rw [he0] at HAL ⊢
  have he0a : -1000000 ≤ e0 := by omega
  have he0b : e0 ≤ 1000000 := by omega
  obtain ⟨X, hX⟩ : ∃ X, sg p A * 2 ^ (E - e0).toNat = X := ⟨_, rfl⟩
  obtain ⟨Y, hY⟩ : ∃ Y, sg q B * 2 ^ (G - e0).toNat = Y := ⟨_, rfl⟩
  rw [hX, hY] at HAL ⊢
  obtain ⟨⟨k0, k1, k2⟩, -⟩ := slot3 hc1
  obtain ⟨⟨l0, l1, l2⟩, -⟩ := slot3 hc2
  have HS2 := Lib.hid hs2
  clear hb1 hb12 hb23 hbw2 hP hx hy hX hY he0 hs2
  go_enter Tryz.func39, Tryz.ntmps39
  go_wp2_with fail
  refine HAL.out.mono ?_
  rintro e w5 ⟨pR, aR, nR, cR, NR, qR, bR, kR, dR, MR, rfl, hN, hX, hM, hY, hb5⟩
  replace hc3 := slot_kept hc3 hb5
  replace hT := hT.below hb5
  have hbw5 := hbw3.trans (hb5.mono hbw3.size)
  clear hc1 hc2 k0 k1 k2 l0 l1 l2 hbw3 hb5
  have HADD := fun w' (g : Nat) (hb : Below w5.heap.size w5 w') h0 h1 => Lib.hid (addw1_in (g := g) pR qR h0 h1 (hN.below hb) (hM.below hb) (by omega))
  have HXY := Lib.hid (show X + Y = sg pR NR + sg qR MR by rw [hX, hY])
  clear hX hY hN hM
  go_wp2_with fail
  obtain ⟨w6, hw6⟩ : ∃ w6, w5.alloc (.cells #[.bool pR, .slice aR nR cR] 58) = w6 := ⟨_, rfl⟩
  obtain ⟨w7, hw7⟩ : ∃ w7, w6.alloc (.cells #[.bool qR, .slice bR kR dR] 58) = w7 := ⟨_, rfl⟩
  obtain ⟨w8, hw8⟩ : ∃ w8, w7.alloc (.cells #[.bool qR, .slice bR kR dR] 58) = w8 := ⟨_, rfl⟩
  have hb6 : Below w5.heap.size w5 w6 := hw6 ▸ below_alloc w5 _
  have hb7 : Below w6.heap.size w6 w7 := hw7 ▸ below_alloc w6 _
  have hb8 : Below w7.heap.size w7 w8 := hw8 ▸ below_alloc w7 _
  have hb57 := hb6.trans (hb7.mono hb6.size)
  have hb58 := hb57.trans (hb8.mono hb57.size)
  have hs7 : w7.heap.size = w5.heap.size + 1 + 1 := by rw [← hw7, ← hw6]; simp
  have hy1 : w8.heap[w5.heap.size + 1 + 1]? = some (.cells #[.bool qR, .slice bR kR dR] 58 (0, 0)) := by rw [← hs7]; exact hw8 ▸ heap_alloc_new w7 _
  obtain ⟨l0, l1, -, -⟩ := slot2 hy1
  have HA8 := HADD w8 (w5.heap.size + 1 + 1) hb58 l0 l1
  rw [hw6, hw7, hw8]
  replace hc3 := slot_kept hc3 hb58
  replace hT := hT.below hb58
  have hbw8 := hbw5.trans (hb58.mono hbw5.size)
  clear HADD hs7 hy1 hb6 hb7 hb8 hb57 hb58 l0 l1 hbw5
  refine HA8.out.mono ?_
  rintro e w9 ⟨pS, aS, nS, cS, NS, rfl, hS, hZ, -, hb9⟩
  replace hc3 := slot_kept hc3 hb9
  replace hT := hT.below hb9
  have hbw9 := hbw8.trans (hb9.mono hbw8.size)
  have hc39 := hc3
  have HXS := Lib.hid (show X + Y = sg pS NS by rw [HXY.out, hZ])
  have HMK := Lib.hid (dmake_num pS e0 hS.num (by omega) hT he0a he0b)
  have HNN := Lib.hid hS.num.nonneg
  clear hZ hS hT hb9 hbw8 HA8 HXY
  go_wp2_with fail
  refine HMK.out.mono ?_
  rintro e w10 ⟨p', a', n', c', N', E', t, rfl, hN', hv, hb10⟩
  replace hc3 := slot_kept hc3 hb10
  have hbw10 := hbw9.trans (hb10.mono hbw9.size)
  obtain ⟨⟨k0, k1, k2⟩, f0, f1, f2⟩ := slot3 hc3
  have hend := slot3_set (u := .bool p') (v := .slice a' n' c') (s := .int .i64 E') hc3
  have hon := slot3_only (w := w10) (g := w2.heap.size) (.bool p') (.slice a' n' c') (.int .i64 E')
  have hsz : w2.heap.size < w9.heap.size := (Array.getElem?_eq_some_iff.1 hc39).1
  have HR : Hid (RetDS w (X + Y) e0 (P + 1) (.returned (.agg #[.bool p', .slice a' n' c', .int .i64 E'])) (((w10.setCell ⟨w2.heap.size, 0, none⟩ (.bool p')).setCell ⟨w2.heap.size, 1, none⟩ (.slice a' n' c')).setCell ⟨w2.heap.size, 2, none⟩ (.int .i64 E'))) :=
    Lib.hid ⟨pS, NS, HNN.out, HXS.out, RetDy.mk ((hN'.only hon hsz).base (by have := hbw9.size; omega)) hv (hbw10.trans (hon.below HS2.out hbw10.size))⟩
  clear hN' hv hon hbw10
  go_wp2_with fail
  exact bodyPost_ret (results_cell_row rfl _ _ w2.heap.size 60 _ (0, 0) _ rfl hend Tryz.underlying60 rfl (by kernel_rfl)) rfl HR.out
end Go.Proofs.YtfanhllcoaondaaGreatDoor

namespace Go.Proofs.YtfanhllcoaondaaGreatDoor
open Go.RowKit

theorem odd_pow_unique {N N' : Int} {s t : Nat} (h : N * 2 ^ s = N' * 2 ^ t) (hN : ∃ z, N = 2 * z + 1) (hN' : ∃ z, N' = 2 * z + 1) : s = t ∧ N = N' := by
  obtain ⟨z, rfl⟩ := hN
  obtain ⟨y, rfl⟩ := hN'
  have e : s = t := isLow_unique (N := (2 * z + 1) * 2 ^ s) ⟨z, by rw [Int.mul_comm]⟩ ⟨y, by rw [h, Int.mul_comm]⟩
  subst e
  have hp := pow2_pos s
  exact ⟨rfl, Int.eq_of_mul_eq_mul_right (by omega) h⟩
/-- The dyad of an odd number is that number itself. -/
theorem RetDy.odd {w w' : World} {p : Bool} {N E : Int} {m : Nat} {e : Ending} (h : RetDy w p N E m e w') (hz : ∃ z, N = 2 * z + 1) : ∃ a n c, e = .returned (.agg #[.bool p, .slice a n c, .int .i64 E]) ∧ NewN w.heap.size w' (.slice a n c) N m ∧ Below w.heap.size w w' := by
  obtain ⟨p', a, n, c, N', E', t, rfl, hN, hv, hb⟩ := h
  rcases hv with ⟨h0, -⟩ | ⟨-, rfl, h2, rfl, -, hz'⟩
  · obtain ⟨z, hz⟩ := hz; omega
  · obtain ⟨h3, h4⟩ := odd_pow_unique (s := t) (t := 0) (by rw [h2, Int.pow_zero, Int.mul_one]) hz' hz
    subst h3 h4
    exact ⟨a, n, c, by simp, hN, hb⟩
set_option maxRecDepth 100000 in
theorem inf_num (w : World) : Calls Tryz.prog 84 #[.int .i64 1] w fun e w' => RetB w (.float .f64 9218868437227405312) e w' := by
  go_enter Tryz.func84, Tryz.ntmps84
  go_wp2_with (simp only [frombits_run])
  go_ret
  exact ⟨rfl, rfl⟩
theorem un_075 (L : Nat) (hL : L = 1021) : (un (rg 4604930618986332160) : Int) = 3 * 2 ^ (51 + L) := by
  have h := un_pack (L := L) (man := 6755399441055744) (by decide) (Or.inl (by decide))
  have e : rg 4604930618986332160 = L * 4503599627370496 + 6755399441055744 := by rw [hL]; decide
  rw [e, h, cast_pow2, Int.pow_add, ← Int.mul_assoc]
  congr 1
theorem tz_five : TZ 4617315517961601024 true 5 0 := by
  have h := tz_whole (N := 5) (E := 0) (j := 50) (L := 1024) (man := 5629499534213120) (by decide) (by decide) (by decide) (Or.inl (by decide)) (by decide)
  exact h
set_option maxRecDepth 100000 in
set_option maxHeartbeats 1200000 in
theorem flive_yes (w : World) (hT : Tab64 w) : Calls Tryz.prog 26 #[] w fun e w' => RetV w (.bool true) e w' := by
  have HD := Lib.hid (fdyad_num 4604930618986332160 w (by decide) (by decide) hT)
  have t3 : tw 3 = ⟨#[51]⟩ := by decide +kernel
  have HT3 := Lib.hid t3
  have hq : (FloatKind.f64.format.order 4617315517961601024 4617315517961601024 == some Ordering.eq) = true := by
    rw [feq_num (by decide) (by decide)]; exact decide_eq_true rfl
  clear t3
  go_enter Tryz.func26, Tryz.ntmps26
  go_wp2_with fail
  refine HD.out.mono ?_
  rintro e w1 ⟨p, a, n, c, N, E, rfl, hN, hE0, hE1, hv, hN0, hN1, hb1⟩
  have hNE : N = 3 ∧ E = -2 ∧ p = false := by
    obtain ⟨L, hL⟩ : ∃ L : Nat, L = 1021 := ⟨_, rfl⟩
    rw [un_075 L hL] at hv
    have hNn : N ≠ 0 := by
      intro h
      rw [h, Int.zero_mul] at hv
      have := pow2_pos (51 + L)
      omega
    obtain ⟨h1, h2⟩ := hN0 hNn
    obtain ⟨h3, h4⟩ := odd_pow_unique hv h2 ⟨1, by decide⟩
    refine ⟨h4, by omega, ?_⟩
    rw [h1]; decide
  obtain ⟨rfl, rfl, rfl⟩ := hNE
  clear hE0 hE1 hv hN0 hN1 HD
  obtain ⟨w2, hw2⟩ : ∃ w2, w1.alloc (.cells #[.bool false, .slice a n c, .int .i64 (-2)] 60) = w2 := ⟨_, rfl⟩
  have hb2 : Below w1.heap.size w1 w2 := hw2 ▸ below_alloc w1 _
  have hc1 : w2.heap[w1.heap.size]? = some (.cells #[.bool false, .slice a n c, .int .i64 (-2)] 60 (0, 0)) := hw2 ▸ heap_alloc_new w1 _
  have hbw2 := hb1.trans (hb2.mono hb1.size)
  have HTX := Lib.hid (textw_num false (hN.num.below hb2))
  rw [show tw (sg false 3) = ⟨#[51]⟩ from HT3.out] at HTX
  obtain ⟨⟨k0, k1, k2⟩, -⟩ := slot3 hc1
  clear hN HT3 hc1 hb2
  go_wp2_with fail
  refine HTX.out.mono ?_
  rintro e w3 ⟨rfl, hb3⟩
  have hbw3 := hbw2.trans (hb3.mono hbw2.size)
  clear HTX k0 k1 k2
  go_wp2_with fail
  refine (dof_num 5 w3 (by decide) (by decide) (hT.below hbw3)).mono ?_
  intro e w4 hr
  obtain ⟨a4, n4, c4, rfl, hN4, hb4⟩ := hr.odd ⟨2, by decide⟩
  have hbw4 := hbw3.trans (hb4.mono hbw3.size)
  have HF := Lib.hid (float_num false 0 (-1) hN4.num (by decide) (by decide) (by decide) (hT.below hbw4))
  clear hr hN4
  go_wp2_with fail
  refine HF.out.mono ?_
  rintro e w5 ⟨R, ex, rfl, htz, hb5⟩
  obtain ⟨rfl, rfl⟩ := htz.unique tz_five
  have hfl : floW (false && decide ((5 : Int) ≠ 0)) 4617315517961601024 true (decide ((-1 : Int) < 0)) = 4617315517961601024 := by decide
  rw [hfl]
  have hbw5 := hbw4.trans (hb5.mono hbw4.size)
  clear hfl htz HF
  have HF1 := Lib.hid (finite_num 4607182418800017408 w5 (by decide))
  rw [show decide (rg 4607182418800017408 < INF) = true by decide] at HF1
  have HF2 := Lib.hid (finite_num 9218868437227405312 w5 (by decide))
  rw [show decide (rg 9218868437227405312 < INF) = false by decide] at HF2
  go_wp2_with fail
  refine HF1.out.mono ?_
  rintro e w' ⟨rfl, rfl⟩
  go_wp2_with fail
  refine (inf_num w5).mono ?_
  rintro e w' ⟨rfl, rfl⟩
  go_wp2_with fail
  refine HF2.out.mono ?_
  rintro e w' ⟨rfl, rfl⟩
  go_wp2_with fail
  go_ret
  exact ⟨rfl, hbw5⟩
end Go.Proofs.YtfanhllcoaondaaGreatDoor

namespace Go.Proofs.YtfanhllcoaondaaGreatDoor
open Go.RowKit
set_option maxRecDepth 100000 in
set_option maxHeartbeats 1200000 in
theorem qsame_num {L : Nat} {w : World} {p q : Bool} {a a2 : Option Addr} {n c n2 c2 : Nat} {E G Z : Int} {m k b d : Nat} (P : Nat) (hX : RQ L w (.agg #[.bool p, .slice a n c, .int .i64 (E : Int)]) Z m b) (hY : RQ L w (.agg #[.bool q, .slice a2 n2 c2, .int .i64 (G : Int)]) Z k d) (hmP : m + b / 32 + 1 < P) (hkP : k + (d + 32 * k) / 32 + 1 < P) (hP : P ≤ 10000) (hb : b ≤ 200000) (hd : d + 32 * k ≤ 200000) (hLb : L ≤ b) (hLd : L ≤ d) :
    Calls Tryz.prog 41 #[.agg #[.bool p, .slice a n c, .int .i64 (E : Int)], .agg #[.bool q, .slice a2 n2 c2, .int .i64 (G : Int)]] w fun e w' => RetV w (.bool true) e w' := by
  have hcz : cmpI Z Z = 0 := by unfold cmpI; simp
  obtain ⟨w1, hw1⟩ : ∃ w1, w.alloc (.cells #[.bool p, .slice a n c, .int .i64 (E : Int)] 63) = w1 := ⟨_, rfl⟩
  obtain ⟨w2, hw2⟩ : ∃ w2, w1.alloc (.cells #[.bool q, .slice a2 n2 c2, .int .i64 (G : Int)] 63) = w2 := ⟨_, rfl⟩
  have hb1 : Below w.heap.size w w1 := hw1 ▸ below_alloc w _
  have hb12 : Below w1.heap.size w1 w2 := hw2 ▸ below_alloc w1 _
  have hbw2 : Below w.heap.size w w2 := hb1.trans (hb12.mono hb1.size)
  have hc1 : w2.heap[w.heap.size]? = some (.cells #[.bool p, .slice a n c, .int .i64 (E : Int)] 63 (0, 0)) := slot_kept (hw1 ▸ heap_alloc_new w _) hb12
  have hc2 : w2.heap[w1.heap.size]? = some (.cells #[.bool q, .slice a2 n2 c2, .int .i64 (G : Int)] 63 (0, 0)) := hw2 ▸ heap_alloc_new w1 _
  obtain ⟨⟨kx0, kx1, kx2⟩, -⟩ := slot3 hc1
  obtain ⟨⟨ky0, ky1, ky2⟩, -⟩ := slot3 hc2
  replace hX := hX.below hbw2
  replace hY := hY.below hbw2
  clear hb12
  go_enter Tryz.func41, Tryz.ntmps41
  go_wp2_with fail
  refine (qcmp_num P hX hY hmP hkP hP hb hd hLb hLd).mono ?_
  rw [hcz]
  rintro e w3 ⟨rfl, hb3⟩
  go_wp2_with fail
  go_ret
  exact ⟨rfl, hbw2.trans (hb3.mono hbw2.size)⟩

set_option maxRecDepth 100000 in
set_option maxHeartbeats 1200000 in
/-- compasslaw3.Ref: the document's dyad of a real one. -/
theorem lref_num {w : World} (L : Nat) {p : Bool} {a : Option Addr} {n c : Nat} {N E : Int} {E0 m b : Nat} (h : Num w (.slice a n c) N m) (hE : E + (L : Int) = (E0 : Int)) (hm : m ≤ 1000) (heb : E0 + 32 * (2 * m) ≤ b) (hLb : L ≤ b) (hb : b ≤ 1000000) :
    Calls Tryz.prog 28 #[.agg #[.bool p, .slice a n c, .int .i64 E]] w fun e w' => RetQZ L w (sg p N * 2 ^ E0) (2 * m) b e w' := by
  obtain ⟨w1, hw1⟩ : ∃ w1, w.alloc (.cells #[.bool p, .slice a n c, .int .i64 E] 60) = w1 := ⟨_, rfl⟩
  obtain ⟨w2, hw2⟩ : ∃ w2, w1.alloc (.cells #[.bool false, .slice none 0 0, .int .i64 0] 63) = w2 := ⟨_, rfl⟩
  have hb1 : Below w.heap.size w w1 := hw1 ▸ below_alloc w _
  have hb12 : Below w1.heap.size w1 w2 := hw2 ▸ below_alloc w1 _
  have hbw2 := hb1.trans (hb12.mono hb1.size)
  have hc1 : w2.heap[w.heap.size]? = some (.cells #[.bool p, .slice a n c, .int .i64 E] 60 (0, 0)) := slot_kept (hw1 ▸ heap_alloc_new w _) hb12
  have hc2 : w2.heap[w1.heap.size]? = some (.cells #[.bool false, .slice none 0 0, .int .i64 0] 63 (0, 0)) := hw2 ▸ heap_alloc_new w1 _
  have hs1 : w.heap.size ≤ w1.heap.size := hb1.size
  replace h := h.below hbw2
  clear hb1 hb12
  go_enter Tryz.func28, Tryz.ntmps28
  go_upto_region 1 with fail
  refine wp_region_slots_tail (by kernel_rfl) 10 [3, 4, 5, 6, 7, 8, 9, 10, 11, 12] (fun w' => (w'.heap[w.heap.size]? = some (.cells #[.bool p, .slice a n c, .int .i64 E] 60 (0, 0))) ∧ (w'.heap[w1.heap.size]? = some (.cells #[.bool false, .slice none 0 0, .int .i64 0] 63 (0, 0))) ∧ (Num w' (.slice a n c) N m) ∧ (Below w2.heap.size w2 w')) (Said [Is (.pointer (some ⟨w.heap.size, 0, none⟩)), Is (.pointer (some ⟨w.heap.size, 0, none⟩)), Is (.bool p), Is (.pointer (some ⟨w.heap.size, 0, none⟩)), Is (.pointer (some ⟨w.heap.size, 1, none⟩)), Is (.slice a n c), IsRN N (2 * m), Is (.pointer (some ⟨w.heap.size, 2, none⟩)), Is (.int .i64 E), IsQZ L (sg p N * 2 ^ E0) (2 * m) b]) (by kernel_rfl) (by kernel_rfl) (by kernel_rfl) (by kernel_rfl) (by kernel_rfl) (Said.keep ?keep) ⟨slot_kept hc1 (bdn (Below.refl _ _) 1), slot_kept hc2 (bdn (Below.refl _ _) 1), h.below (bdn (Below.refl _ _) 1), bdn (Below.refl _ _) 1⟩ (l := [0, 1, 2, 3, 4, 5, 6, 7, 8, 9]) (by kernel_rfl) ?step ?fin
  case keep =>
    refine List.forall_mem_cons.2 ⟨Is.keeps _, ?_⟩
    refine List.forall_mem_cons.2 ⟨Is.keeps _, ?_⟩
    refine List.forall_mem_cons.2 ⟨Is.keeps _, ?_⟩
    refine List.forall_mem_cons.2 ⟨Is.keeps _, ?_⟩
    refine List.forall_mem_cons.2 ⟨Is.keeps _, ?_⟩
    refine List.forall_mem_cons.2 ⟨Is.keeps _, ?_⟩
    refine List.forall_mem_cons.2 ⟨IsRN.keeps _ _, ?_⟩
    refine List.forall_mem_cons.2 ⟨Is.keeps _, ?_⟩
    refine List.forall_mem_cons.2 ⟨Is.keeps _, ?_⟩
    refine List.forall_mem_cons.2 ⟨IsQZ.keeps _ _ _ _, ?_⟩
    exact fun _ h => nomatch h
  case step =>
    refine List.forall_mem_cons.2 ⟨?_, ?_⟩
    · refine SlotStep.plain rfl rfl rfl ?_
      intro tm ws hsame hS hg K hK
      have e1 : tm[1]? = some (.pointer (some ⟨w.heap.size, 0, none⟩)) := hsame.2 1 rfl
      go_simp
      exact hK _ _ (Below.refl _ _) hS rfl
    refine List.forall_mem_cons.2 ⟨?_, ?_⟩
    · refine SlotStep.plain rfl rfl rfl ?_
      intro tm ws hsame hS hg K hK
      obtain ⟨v3, e3, rfl⟩ := hg 0 (by kernel_rfl) _ 3 rfl rfl
      go_simp
      exact hK _ _ (Below.refl _ _) hS rfl
    refine List.forall_mem_cons.2 ⟨?_, ?_⟩
    · refine SlotStep.plain rfl rfl rfl ?_
      intro tm ws hsame hS hg K hK
      obtain ⟨v4, e4, rfl⟩ := hg 1 (by kernel_rfl) _ 4 rfl rfl
      obtain ⟨⟨k0, k1, k2⟩, -⟩ := slot3 (hS.1)
      go_simp
      exact hK _ _ (Below.refl _ _) hS rfl
    refine List.forall_mem_cons.2 ⟨?_, ?_⟩
    · refine SlotStep.plain rfl rfl rfl ?_
      intro tm ws hsame hS hg K hK
      have e1 : tm[1]? = some (.pointer (some ⟨w.heap.size, 0, none⟩)) := hsame.2 1 rfl
      go_simp
      exact hK _ _ (Below.refl _ _) hS rfl
    refine List.forall_mem_cons.2 ⟨?_, ?_⟩
    · refine SlotStep.plain rfl rfl rfl ?_
      intro tm ws hsame hS hg K hK
      obtain ⟨v6, e6, rfl⟩ := hg 3 (by kernel_rfl) _ 6 rfl rfl
      go_simp
      exact hK _ _ (Below.refl _ _) hS rfl
    refine List.forall_mem_cons.2 ⟨?_, ?_⟩
    · refine SlotStep.plain rfl rfl rfl ?_
      intro tm ws hsame hS hg K hK
      obtain ⟨v7, e7, rfl⟩ := hg 4 (by kernel_rfl) _ 7 rfl rfl
      obtain ⟨⟨k0, k1, k2⟩, -⟩ := slot3 (hS.1)
      go_simp
      exact hK _ _ (Below.refl _ _) hS rfl
    refine List.forall_mem_cons.2 ⟨?_, ?_⟩
    · refine SlotStep.plain rfl rfl rfl ?_
      intro tm ws hsame hS hg K hK
      obtain ⟨v8, e8, rfl⟩ := hg 5 (by kernel_rfl) _ 8 rfl rfl
      go_simp
      refine (from_num hS.2.2.1 (by omega)).mono ?_
      rintro e wm ⟨aR, nR, cR, rfl, hR, hb⟩
      exact hK _ _ hb (⟨slot_kept (hS.1) (hb), slot_kept (hS.2.1) (hb), (hS.2.2.1).below (hb), (hS.2.2.2).trans (Below.mono (hb) (hS.2.2.2).size)⟩) ⟨aR, nR, cR, rfl, hR⟩
    refine List.forall_mem_cons.2 ⟨?_, ?_⟩
    · refine SlotStep.plain rfl rfl rfl ?_
      intro tm ws hsame hS hg K hK
      have e1 : tm[1]? = some (.pointer (some ⟨w.heap.size, 0, none⟩)) := hsame.2 1 rfl
      go_simp
      exact hK _ _ (Below.refl _ _) hS rfl
    refine List.forall_mem_cons.2 ⟨?_, ?_⟩
    · refine SlotStep.plain rfl rfl rfl ?_
      intro tm ws hsame hS hg K hK
      obtain ⟨v10, e10, rfl⟩ := hg 7 (by kernel_rfl) _ 10 rfl rfl
      obtain ⟨⟨k0, k1, k2⟩, -⟩ := slot3 (hS.1)
      go_simp
      exact hK _ _ (Below.refl _ _) hS rfl
    refine List.forall_mem_cons.2 ⟨?_, ?_⟩
    · refine SlotStep.plain rfl rfl rfl ?_
      intro tm ws hsame hS hg K hK
      obtain ⟨v5, e5, rfl⟩ := hg 2 (by kernel_rfl) _ 5 rfl rfl
      obtain ⟨v9, e9, ⟨a9, n9, c9, rfl, g9⟩⟩ := hg 6 (by kernel_rfl) _ 9 rfl rfl
      obtain ⟨v11, e11, rfl⟩ := hg 8 (by kernel_rfl) _ 11 rfl rfl
      go_simp
      refine (qmake_num (b := b) L p E hE heb hLb g9 (by omega) (by omega) (by omega)).mono ?_
      rintro e wm ⟨pR, aR, nR, cR, ER, rfl, hR, hb⟩
      exact hK _ _ hb (⟨slot_kept (hS.1) (hb), slot_kept (hS.2.1) (hb), (hS.2.2.1).below (hb), (hS.2.2.2).trans (Below.mono (hb) (hS.2.2.2).size)⟩) ⟨pR, aR, nR, cR, ER, rfl, hR⟩
    exact fun _ h => nomatch h
  case fin =>
    intro tm w8 hsame hS hgot
    obtain ⟨u, hu, htm⟩ := hsame.form (by kernel_rfl)
    obtain ⟨v12, e12, pR, aR, nR, cR, ER, rfl, hr⟩ := hgot 9 (by decide) _ 12 rfl rfl
    have h12 := hu _ _ e12
    obtain ⟨-, hblk, -, hb8⟩ := hS
    obtain ⟨⟨q0, q1, q2⟩, f0, f1, f2⟩ := slot3 hblk
    have hend := slot3_set (u := .bool pR) (v := .slice aR nR cR) (s := .int .i64 ER) hblk
    have hon := slot3_only (w := w8) (g := w1.heap.size) (.bool pR) (.slice aR nR cR) (.int .i64 ER)
    have hr' := hr.var hblk hon
    have hbz := hbw2.trans (hb8.mono hbw2.size)
    have HR : Hid (RetQZ L w (sg p N * 2 ^ E0) (2 * m) b (.returned (.agg #[.bool pR, .slice aR nR cR, .int .i64 ER])) (((w8.setCell ⟨w1.heap.size, 0, none⟩ (.bool pR)).setCell ⟨w1.heap.size, 1, none⟩ (.slice aR nR cR)).setCell ⟨w1.heap.size, 2, none⟩ (.int .i64 ER))) :=
      Lib.hid ⟨pR, aR, nR, cR, ER, rfl, hr', hbz.trans (hon.below hs1 hbz.size)⟩
    clear hgot hu hsame e12 hr hr'
    rw [htm]
    clear htm tm
    simp only [List.foldl_cons, List.foldl_nil, List.setIfInBounds_toArray, List.set_cons_zero, List.set_cons_succ, h12, List.drop_succ_cons, List.drop_zero]
    clear h12
    go_wp2_with fail
    exact bodyPost_ret (results_cell_row rfl _ _ w1.heap.size 63 _ (0, 0) _ rfl hend Tryz.underlying63 rfl (by kernel_rfl)) rfl HR.out

set_option maxRecDepth 100000 in
set_option maxHeartbeats 1200000 in
/-- compassref1.Of: the document's dyad of a float64. -/
theorem refof_num (b : Nat) (w : World) (hb : b < 18446744073709551616) (hf : rg b < INF) :
    Calls Tryz.prog 38 #[.float .f64 b] w fun e w' => RetQZ 1074 w (fv b) 2 2200 e w' := by
  obtain ⟨w1, hw1⟩ : ∃ w1, w.alloc (.cells #[.bool false, .slice none 0 0, .int .i64 0] 63) = w1 := ⟨_, rfl⟩
  have hb1 : Below w.heap.size w w1 := hw1 ▸ below_alloc w _
  have hc1 : w1.heap[w.heap.size]? = some (.cells #[.bool false, .slice none 0 0, .int .i64 0] 63 (0, 0)) := hw1 ▸ heap_alloc_new w _
  obtain ⟨hfl, hun⟩ := field_parts hf
  have hfv := fv_def b
  have h3 : ((b : Int) / 9223372036854775808 == 1) = fneg b := by
    unfold fneg
    by_cases e : b < 9223372036854775808
    · have e1 : (b : Int) / 9223372036854775808 = 0 := by omega
      have e2 : b / 9223372036854775808 % 2 = 0 := by omega
      rw [e1, e2]; rfl
    · have e1 : (b : Int) / 9223372036854775808 = 1 := by omega
      have e2 : b / 9223372036854775808 % 2 = 1 := by omega
      rw [e1, e2]; rfl
  have h1 : (b : Int) / 4503599627370496 % 2048 = ((b / 4503599627370496 % 2048 : Nat) : Int) := by omega
  have h2 : (b : Int) % 4503599627370496 = ((b % 4503599627370496 : Nat) : Int) := by omega
  obtain ⟨F, hF⟩ : ∃ F, b / 4503599627370496 % 2048 = F := ⟨_, rfl⟩
  obtain ⟨G, hG⟩ : ∃ G, b % 4503599627370496 = G := ⟨_, rfl⟩
  have hG2 : G < 4503599627370496 := by rw [← hG]; exact Nat.mod_lt _ (by decide)
  obtain ⟨p, hp⟩ : ∃ p, fneg b = p := ⟨_, rfl⟩
  rw [hF] at h1 hfl hun
  rw [hG] at h2 hun
  rw [hp] at h3 hfv
  have fin : ∀ (M f : Nat), un (rg b) = M * 2 ^ f → fv b = sg p (M : Int) * 2 ^ f := by
    intro M f hu
    rw [hfv, hu, cast_pow2]
    cases p
    · rfl
    · simp [sg, Int.neg_mul]
  have HFIN := Lib.hid fin
  have HU := Lib.hid hun
  clear hF hG hp hun hf fin hfv
  -- what is done behind the call of Make
  have rest : ∀ (w4 : World) (g : Nat) (Z : Int) (pR : Bool) (aR : Option Addr) (nR cR : Nat) (ER : Int), Below w1.heap.size w1 w4 → RQ 1074 w4 (.agg #[.bool pR, .slice aR nR cR, .int .i64 ER]) Z 2 2200 → Z = fv b → g = w.heap.size →
      w4.heap[w.heap.size]? = some (.cells #[.bool false, .slice none 0 0, .int .i64 0] 63 (0, 0)) ∧ Hid (RetQZ 1074 w (fv b) 2 2200 (.returned (.agg #[.bool pR, .slice aR nR cR, .int .i64 ER])) (((w4.setCell ⟨w.heap.size, 0, none⟩ (.bool pR)).setCell ⟨w.heap.size, 1, none⟩ (.slice aR nR cR)).setCell ⟨w.heap.size, 2, none⟩ (.int .i64 ER))) := by
    intro w4 g Z pR aR nR cR ER hb4 hr hz _
    have hblk := slot_kept hc1 hb4
    have hon := slot3_only (w := w4) (g := w.heap.size) (.bool pR) (.slice aR nR cR) (.int .i64 ER)
    have hbw := hb1.trans (hb4.mono hb1.size)
    exact ⟨hblk, Lib.hid ⟨pR, aR, nR, cR, ER, rfl, (hr.var hblk hon).eq hz, hbw.trans (hon.below (Nat.le_refl _) hbw.size)⟩⟩
  have HREST := Lib.hid rest
  clear rest hc1
  by_cases hF0 : F = 0
  · subst hF0
    have hu0 : un (rg b) = G * 2 ^ 0 := by rw [HU.out, if_pos rfl]
    have HZ := Lib.hid (HFIN.out G 0 hu0).symm
    clear hu0
    go_enter Tryz.func38, Tryz.ntmps38
    go_wp2_with (simp only [bits_run])
    refine (small_num (G : Int) w1 (by omega) (by omega)).mono ?_
    rintro e w2 ⟨a2, n2, c2, rfl, h2r, hb2⟩
    have HMK := Lib.hid (qmake_num (b := 2200) 1074 p (-1074) (e0 := 0) (by omega) (by omega) (by omega) h2r (by omega) (by omega) (by omega))
    go_wp2_with fail
    refine HMK.out.mono ?_
    rintro e w4 ⟨pR, aR, nR, cR, ER, rfl, hr, hb4⟩
    obtain ⟨hblk, HR⟩ := HREST.out w4 w.heap.size _ pR aR nR cR ER (hb2.trans (hb4.mono hb2.size)) hr HZ.out rfl
    obtain ⟨⟨k0, k1, k2⟩, f0, f1, f2⟩ := slot3 hblk
    have hend := slot3_set (u := .bool pR) (v := .slice aR nR cR) (s := .int .i64 ER) hblk
    clear hr
    go_wp2_with fail
    exact bodyPost_ret (results_cell_row rfl _ _ w.heap.size 63 _ (0, 0) _ rfl hend Tryz.underlying63 rfl (by kernel_rfl)) rfl HR.out
  · have hu0 : un (rg b) = (4503599627370496 + G) * 2 ^ (F - 1) := by rw [HU.out, if_neg hF0]
    obtain ⟨f, hf⟩ : ∃ f, F - 1 = f := ⟨_, rfl⟩
    rw [hf] at hu0
    have HZ := Lib.hid (HFIN.out _ f hu0).symm
    have hF1 : (0 : Int) < (F : Int) := by omega
    have hMI : (G : Int) + 4503599627370496 = ((4503599627370496 + G : Nat) : Int) := by omega
    obtain ⟨M, hM⟩ : ∃ M : Nat, 4503599627370496 + G = M := ⟨_, rfl⟩
    rw [hM] at hMI HZ
    have hMb : M < 9007199254740992 := by omega
    obtain ⟨e2, he2⟩ : ∃ e2 : Int, (F : Int) - 1075 = e2 := ⟨_, rfl⟩
    have he2f : e2 + ((1074 : Nat) : Int) = (f : Int) := by omega
    have hfb : f ≤ 2045 := by omega
    clear hu0 hf hF0
    go_enter Tryz.func38, Tryz.ntmps38
    go_wp2_with (simp only [bits_run])
    refine (small_num (M : Int) w1 (by omega) (by omega)).mono ?_
    rintro e w2 ⟨a2, n2, c2, rfl, h2r, hb2⟩
    have HMK := Lib.hid (qmake_num (b := 2200) 1074 p (e2) (e0 := f) he2f (by omega) (by omega) h2r (by omega) (by omega) (by omega))
    go_wp2_with fail
    refine HMK.out.mono ?_
    rintro e w4 ⟨pR, aR, nR, cR, ER, rfl, hr, hb4⟩
    obtain ⟨hblk, HR⟩ := HREST.out w4 w.heap.size _ pR aR nR cR ER (hb2.trans (hb4.mono hb2.size)) hr HZ.out rfl
    obtain ⟨⟨k0, k1, k2⟩, f0, f1, f2⟩ := slot3 hblk
    have hend := slot3_set (u := .bool pR) (v := .slice aR nR cR) (s := .int .i64 ER) hblk
    clear hr
    go_wp2_with fail
    exact bodyPost_ret (results_cell_row rfl _ _ w.heap.size 63 _ (0, 0) _ rfl hend Tryz.underlying63 rfl (by kernel_rfl)) rfl HR.out
end Go.Proofs.YtfanhllcoaondaaGreatDoor

namespace Go.Proofs.YtfanhllcoaondaaGreatDoor
open Go.RowKit

theorem fo_val {p : Bool} {N E : Int} {b : Nat} (hv : N * 2 ^ (E + 1074).toNat = (un (rg b) : Int)) (hp : N ≠ 0 → p = fneg b) : sg p N * 2 ^ (E + 1074).toNat = fv b := by
  rw [fv_def, ← sg_scale, hv]
  by_cases h0 : N = 0
  · rw [h0, Int.zero_mul] at hv
    rw [← hv]
    cases p <;> cases fneg b <;> rfl
  · rw [hp h0]; rfl
theorem fo_and {p : Bool} {N : Int} : sg (p && decide (N ≠ 0)) N = sg p N := by
  by_cases h : N = 0
  · subst h; cases p <;> rfl
  · rw [decide_eq_true h, Bool.and_true]
/-- The sum of two numbers that are float64, in its one form. -/
theorem fo_sum {p1 p2 pS p3 : Bool} {N1 N2 NS N3 E1 E2 E3 : Int} {t : Nat} {x y : Int} (h1 : -1074 ≤ E1) (h2 : -1074 ≤ E2) (hx : sg p1 N1 * 2 ^ (E1 + 1074).toNat = x) (hy : sg p2 N2 * 2 ^ (E2 + 1074).toNat = y)
    (hS : sg p1 N1 * 2 ^ (E1 - min E1 E2).toNat + sg p2 N2 * 2 ^ (E2 - min E1 E2).toNat = sg pS NS)
    (hv : (NS = 0 ∧ p3 = false ∧ N3 = 0 ∧ E3 = 0 ∧ t = 0) ∨ (NS ≠ 0 ∧ p3 = pS ∧ N3 * 2 ^ t = NS ∧ E3 = min E1 E2 + t ∧ t ≤ 64 * 41 ∧ ∃ z, N3 = 2 * z + 1)) :
    sg p3 N3 * 2 ^ (E3 + 1074).toNat = x + y := by
  have e1 : (E1 + 1074).toNat = (E1 - min E1 E2).toNat + (min E1 E2 + 1074).toNat := by omega
  have e2 : (E2 + 1074).toNat = (E2 - min E1 E2).toNat + (min E1 E2 + 1074).toNat := by omega
  have e3 : x + y = sg pS NS * 2 ^ (min E1 E2 + 1074).toNat := by
    rw [← hx, ← hy, e1, e2, Int.pow_add, Int.pow_add, ← Int.mul_assoc, ← Int.mul_assoc, ← Int.add_mul, hS]
  rw [e3]
  rcases hv with ⟨rfl, rfl, rfl, rfl, -⟩ | ⟨-, rfl, h4, rfl, -, -⟩
  · have e4 : sg pS 0 = 0 := by cases pS <;> rfl
    rw [e4, Int.zero_mul, sg_false, Int.zero_mul]
  · rw [← h4, sg_scale, Int.mul_assoc, ← Int.pow_add]
    exact congrArg (fun n : Nat => sg p3 N3 * (2 : Int) ^ n) (by omega)
theorem fo_between {lo hi x : Nat} {p : Bool} {N E S : Int} (h : Btw lo hi (p && decide (N ≠ 0)) N E) (hE : -1074 ≤ E) (hS : sg p N * 2 ^ (E + 1074).toNat = S) (hx : NearTo x S) (hf : rg x < INF) : fv lo ≤ fv x ∧ fv x ≤ fv hi := by
  have hb := fv_bound hf
  have inf : ∀ y, rg y ≤ INF → ¬ rg y < INF → fv y = (un INF : Int) ∨ fv y = -(un INF : Int) := by
    intro y h1 h2
    have e : rg y = INF := by omega
    rw [fv_def, e]
    cases fneg y
    · exact Or.inl rfl
    · exact Or.inr rfl
  have e0 : (2 : Int) ^ (1074 - 1074) = 1 := by decide
  constructor
  · by_cases hl : rg lo < INF
    · have := h.low hl 1074 (by decide) (by omega)
      rw [fo_and, e0, Int.mul_one] at this
      exact hx.up lo h.lo_lt h.lo_rg (by rw [← hS]; exact this)
    · have hh := h.one.resolve_left hl
      have h2 := fv_bound hh
      have h3 := h.le
      rcases inf lo h.lo_rg hl with h4 | h4 <;> omega
  · by_cases hl : rg hi < INF
    · have := h.high hl 1074 (by decide) (by omega)
      rw [fo_and, e0, Int.mul_one] at this
      exact hx.down hi h.hi_lt h.hi_rg (by rw [← hS]; exact this)
    · have hh := h.one.resolve_right hl
      have h2 := fv_bound hh
      have h3 := h.le
      rcases inf hi h.hi_rg hl with h4 | h4 <;> omega

set_option maxRecDepth 100000 in
set_option maxHeartbeats 4000000 in
theorem ford_ok (b c : Nat) (w : World) (hb : b < 18446744073709551616) (hc : c < 18446744073709551616) (hfb : rg b < INF) (hfc : rg c < INF) (hT : Tab64 w) :
    Calls Tryz.prog 5 #[.float .f64 b, .float .f64 c] w fun e' w' => RetV w (.bool true) e' w' := by
  obtain ⟨x, hadd, hnear⟩ := add_num hfb hfc
  have hrun : ∀ (t : TypeId) (w : World), (binOp .add t (.float .f64 b) (.float .f64 c)).run Tryz.prog w = .ok (.float .f64 x) w := fun t w => run_float_arith w .add t .f64 b c x hadd
  have HF1 := Lib.hid (finite_num b w hb)
  have HF2 := Lib.hid (finite_num c w hc)
  rw [decide_eq_true hfb] at HF1
  rw [decide_eq_true hfc] at HF2
  have HNR := Lib.hid hnear
  have HFB := Lib.hid hfb
  have HFC := Lib.hid hfc
  clear hadd hnear hfb hfc
  go_enter Tryz.func5, Tryz.ntmps5
  go_wp2_with fail
  refine HF1.out.mono ?_
  rintro e' w' ⟨rfl, rfl⟩
  go_wp2_with fail
  refine HF2.out.mono ?_
  rintro e' w' ⟨rfl, rfl⟩
  go_wp2_with fail
  refine (flive_yes w hT).mono ?_
  rintro e' w1 ⟨rfl, hb1⟩
  replace hT := hT.below hb1
  have HD1 := Lib.hid (fdyad_num b w1 hb HFB.out hT)
  go_wp2_with fail
  refine HD1.out.mono ?_
  rintro e' w2a ⟨p1, a1, n1, c1, N1, E1, rfl, hN1, hEl1, hEh1, hv1, ho1, -, hb2a⟩
  obtain ⟨w2, hw2⟩ : ∃ w2, w2a.alloc (.cells #[.bool p1, .slice a1 n1 c1, .int .i64 E1] 60) = w2 := ⟨_, rfl⟩
  have hb2b : Below w2a.heap.size w2a w2 := hw2 ▸ below_alloc w2a _
  have hc1 : w2.heap[w2a.heap.size]? = some (.cells #[.bool p1, .slice a1 n1 c1, .int .i64 E1] 60 (0, 0)) := hw2 ▸ heap_alloc_new w2a _
  have hx1 := hN1.num.below hb2b
  have hb2 := hb2a.trans (hb2b.mono hb2a.size)
  replace hT := hT.below hb2
  have hbw2 := hb1.trans (hb2.mono hb1.size)
  have HV1 := Lib.hid (fo_val hv1 (fun h => (ho1 h).1))
  have HD2 := Lib.hid (fdyad_num c w2 hc HFC.out hT)
  clear hv1 ho1 hN1 hb2a hb2b hb2 HD1 HF1 HF2 hb1
  go_wp2_with fail
  refine HD2.out.mono ?_
  rintro e' w3a ⟨p2, a2, n2, c2, N2, E2, rfl, hN2, hEl2, hEh2, hv2, ho2, -, hb3a⟩
  obtain ⟨w3, hw3⟩ : ∃ w3, w3a.alloc (.cells #[.bool p2, .slice a2 n2 c2, .int .i64 E2] 60) = w3 := ⟨_, rfl⟩
  have hb3b : Below w3a.heap.size w3a w3 := hw3 ▸ below_alloc w3a _
  have hc2 : w3.heap[w3a.heap.size]? = some (.cells #[.bool p2, .slice a2 n2 c2, .int .i64 E2] 60 (0, 0)) := hw3 ▸ heap_alloc_new w3a _
  have hx2 := hN2.num.below hb3b
  have hb3 := hb3a.trans (hb3b.mono hb3a.size)
  replace hT := hT.below hb3
  replace hx1 := hx1.below hb3
  replace hc1 := slot_kept hc1 hb3
  have hbw3 := hbw2.trans (hb3.mono hbw2.size)
  have HV2 := Lib.hid (fo_val hv2 (fun h => (ho2 h).1))
  have HAD := Lib.hid (dadd_num (P := 40) p1 p2 E1 E2 hx1 hx2 (by decide) (by omega) (by omega) (by omega) (by omega) (by intro i hi; omega) (by decide) hT)
  obtain ⟨⟨k0, k1, k2⟩, -⟩ := slot3 hc1
  obtain ⟨⟨l0, l1, l2⟩, -⟩ := slot3 hc2
  clear hv2 ho2 hN2 hb3a hb3b hb3 HD2 hbw2
  go_wp2_with fail
  refine HAD.out.mono ?_
  rintro e' w4a ⟨pS, NS, -, hSS, p3, a3, n3, c3, N3, E3, t3, rfl, hN3, hv3, hb4a⟩
  have HV3 := Lib.hid (fo_sum hEl1 hEl2 HV1.out HV2.out hSS hv3)
  have hE3 : -1074 ≤ E3 ∧ E3 ≤ 5000 := by
    rcases hv3 with ⟨-, -, -, rfl, -⟩ | ⟨-, -, -, rfl, h9, -⟩
    · decide
    · omega
  obtain ⟨hEl3, hEh3⟩ := hE3
  obtain ⟨w4, hw4⟩ : ∃ w4, w4a.alloc (.cells #[.bool p3, .slice a3 n3 c3, .int .i64 E3] 60) = w4 := ⟨_, rfl⟩
  have hb4b : Below w4a.heap.size w4a w4 := hw4 ▸ below_alloc w4a _
  have hc3 : w4.heap[w4a.heap.size]? = some (.cells #[.bool p3, .slice a3 n3 c3, .int .i64 E3] 60 (0, 0)) := hw4 ▸ heap_alloc_new w4a _
  have hx3 := hN3.num.below hb4b
  have hb4 := hb4a.trans (hb4b.mono hb4a.size)
  replace hT := hT.below hb4
  replace hx1 := hx1.below hb4
  replace hx2 := hx2.below hb4
  replace hc1 := slot_kept hc1 hb4
  replace hc2 := slot_kept hc2 hb4
  have hbw4 := hbw3.trans (hb4.mono hbw3.size)
  obtain ⟨R, ex, htz⟩ := tz_exists (N := N3) (E := E3) hx3.nonneg
  have hbt := btw (neg := p3 && decide (N3 ≠ 0)) htz
  obtain ⟨lo, hlo⟩ : ∃ lo, floW (p3 && decide (N3 ≠ 0)) R ex true = lo := ⟨_, rfl⟩
  obtain ⟨hi, hhi⟩ : ∃ hi, floW (p3 && decide (N3 ≠ 0)) R ex false = hi := ⟨_, rfl⟩
  rw [hlo, hhi] at hbt
  have HTZ := Lib.hid htz
  have HLO : Hid (floW (p3 && decide (N3 ≠ 0)) R ex (decide ((-1 : Int) < 0)) = lo) := Lib.hid hlo
  have HHI : Hid (floW (p3 && decide (N3 ≠ 0)) R ex (decide ((1 : Int) < 0)) = hi) := Lib.hid hhi
  have HBT := Lib.hid hbt
  clear hSS hv3 hN3 hb4a hb4b hb4 hbw3 HAD htz hlo hhi hbt k0 k1 k2 l0 l1 l2
  go_upto_region 6 with fail
  refine wp_region_slots (by kernel_rfl) [39, 40, 41, 42, 10, 11] (fun w' => (w'.heap[w2a.heap.size]? = some (.cells #[.bool p1, .slice a1 n1 c1, .int .i64 E1] 60 (0, 0))) ∧ (w'.heap[w3a.heap.size]? = some (.cells #[.bool p2, .slice a2 n2 c2, .int .i64 E2] 60 (0, 0))) ∧ (w'.heap[w4a.heap.size]? = some (.cells #[.bool p3, .slice a3 n3 c3, .int .i64 E3] 60 (0, 0))) ∧ (Num w' (.slice a1 n1 c1) N1 1) ∧ (Num w' (.slice a2 n2 c2) N2 1) ∧ (Num w' (.slice a3 n3 c3) N3 41) ∧ (Tab64 w') ∧ (Below w4.heap.size w4 w')) (Said [Is (.agg #[.bool p3, .slice a3 n3 c3, .int .i64 E3]), Is (.float .f64 lo), Is (.agg #[.bool p3, .slice a3 n3 c3, .int .i64 E3]), Is (.float .f64 hi), Is (.float .f64 lo), Is (.float .f64 hi)]) (by kernel_rfl) (by kernel_rfl) (by kernel_rfl) (by kernel_rfl) (Said.keep ?keep) ⟨slot_kept hc1 (bdn (Below.refl _ _) 1), slot_kept hc2 (bdn (Below.refl _ _) 1), slot_kept hc3 (bdn (Below.refl _ _) 1), hx1.below (bdn (Below.refl _ _) 1), hx2.below (bdn (Below.refl _ _) 1), hx3.below (bdn (Below.refl _ _) 1), Tab64.below hT (bdn (Below.refl _ _) 1), bdn (Below.refl _ _) 1⟩ (l := [0, 1, 2, 3, 4, 5]) (by kernel_rfl) ?step ?fin
  case keep =>
    refine List.forall_mem_cons.2 ⟨Is.keeps _, ?_⟩
    refine List.forall_mem_cons.2 ⟨Is.keeps _, ?_⟩
    refine List.forall_mem_cons.2 ⟨Is.keeps _, ?_⟩
    refine List.forall_mem_cons.2 ⟨Is.keeps _, ?_⟩
    refine List.forall_mem_cons.2 ⟨Is.keeps _, ?_⟩
    refine List.forall_mem_cons.2 ⟨Is.keeps _, ?_⟩
    exact fun _ h => nomatch h
  case step =>
    refine List.forall_mem_cons.2 ⟨?_, ?_⟩
    · refine SlotStep.plain rfl rfl rfl ?_
      intro tm ws hsame hS hg K hK
      have e9 : tm[9]? = some (.pointer (some ⟨w4a.heap.size, 0, none⟩)) := hsame.2 9 rfl
      obtain ⟨⟨k0, k1, k2⟩, -⟩ := slot3 (hS.2.2.1)
      go_simp
      exact hK _ _ (Below.refl _ _) hS rfl
    refine List.forall_mem_cons.2 ⟨?_, ?_⟩
    · refine SlotStep.plain rfl rfl rfl ?_
      intro tm ws hsame hS hg K hK
      obtain ⟨v39, e39, rfl⟩ := hg 0 (by kernel_rfl) _ 39 rfl rfl
      go_simp
      refine (float_num p3 E3 (-1) hS.2.2.2.2.2.1 (by decide) (by omega) (by omega) hS.2.2.2.2.2.2.1).mono ?_
      rintro e' wm ⟨R', ex', rfl, htz', hb⟩
      obtain ⟨rfl, rfl⟩ := htz'.unique HTZ.out
      exact hK _ _ hb (⟨slot_kept (hS.1) (hb), slot_kept (hS.2.1) (hb), slot_kept (hS.2.2.1) (hb), (hS.2.2.2.1).below (hb), (hS.2.2.2.2.1).below (hb), (hS.2.2.2.2.2.1).below (hb), Tab64.below (hS.2.2.2.2.2.2.1) (hb), (hS.2.2.2.2.2.2.2).trans (Below.mono (hb) (hS.2.2.2.2.2.2.2).size)⟩) (congrArg (Value.float .f64) HLO.out)
    refine List.forall_mem_cons.2 ⟨?_, ?_⟩
    · refine SlotStep.plain rfl rfl rfl ?_
      intro tm ws hsame hS hg K hK
      have e9 : tm[9]? = some (.pointer (some ⟨w4a.heap.size, 0, none⟩)) := hsame.2 9 rfl
      obtain ⟨⟨k0, k1, k2⟩, -⟩ := slot3 (hS.2.2.1)
      go_simp
      exact hK _ _ (Below.refl _ _) hS rfl
    refine List.forall_mem_cons.2 ⟨?_, ?_⟩
    · refine SlotStep.plain rfl rfl rfl ?_
      intro tm ws hsame hS hg K hK
      obtain ⟨v41, e41, rfl⟩ := hg 2 (by kernel_rfl) _ 41 rfl rfl
      go_simp
      refine (float_num p3 E3 1 hS.2.2.2.2.2.1 (by decide) (by omega) (by omega) hS.2.2.2.2.2.2.1).mono ?_
      rintro e' wm ⟨R', ex', rfl, htz', hb⟩
      obtain ⟨rfl, rfl⟩ := htz'.unique HTZ.out
      exact hK _ _ hb (⟨slot_kept (hS.1) (hb), slot_kept (hS.2.1) (hb), slot_kept (hS.2.2.1) (hb), (hS.2.2.2.1).below (hb), (hS.2.2.2.2.1).below (hb), (hS.2.2.2.2.2.1).below (hb), Tab64.below (hS.2.2.2.2.2.2.1) (hb), (hS.2.2.2.2.2.2.2).trans (Below.mono (hb) (hS.2.2.2.2.2.2.2).size)⟩) (congrArg (Value.float .f64) HHI.out)
    refine List.forall_mem_cons.2 ⟨?_, ?_⟩
    · refine SlotStep.plain rfl rfl rfl ?_
      intro tm ws hsame hS hg K hK
      obtain ⟨v40, e40, rfl⟩ := hg 1 (by kernel_rfl) _ 40 rfl rfl
      go_simp
      exact hK _ _ (Below.refl _ _) hS rfl
    refine List.forall_mem_cons.2 ⟨?_, ?_⟩
    · refine SlotStep.plain rfl rfl rfl ?_
      intro tm ws hsame hS hg K hK
      obtain ⟨v42, e42, rfl⟩ := hg 3 (by kernel_rfl) _ 42 rfl rfl
      go_simp
      exact hK _ _ (Below.refl _ _) hS rfl
    exact fun _ h => nomatch h
  case fin =>
    intro tm w5 hsame hS hgot
    obtain ⟨u, hu, htm⟩ := hsame.form (by kernel_rfl)
    obtain ⟨v10, e10, rfl⟩ := hgot 4 _ 10 rfl rfl
    obtain ⟨v11, e11, rfl⟩ := hgot 5 _ 11 rfl rfl
    have h10 := hu _ _ e10
    have h11 := hu _ _ e11
    have hd1 := hS.1
    have hd2 := hS.2.1
    have hy1 := hS.2.2.2.1
    have hy2 := hS.2.2.2.2.1
    have hb5 := hS.2.2.2.2.2.2.2
    have hbw5 := hbw4.trans (hb5.mono hbw4.size)
    clear hgot hu hsame e10 e11 hS hb5 hbw4 hT hc1 hc2 hc3 hx1 hx2 hx3 HLO HHI HTZ
    rw [htm]
    clear htm tm
    simp only [List.foldl_cons, List.foldl_nil, List.setIfInBounds_toArray, List.set_cons_zero, List.set_cons_succ, h10, h11]
    clear h10 h11
    obtain ⟨o, ho⟩ : ∃ o, cmpI (fv b) (fv c) = o := ⟨_, rfl⟩
    have HCM : ∀ w' : World, Below w5.heap.size w5 w' → Hid (Calls Tryz.prog 40 #[.agg #[.bool p1, .slice a1 n1 c1, .int .i64 E1], .agg #[.bool p2, .slice a2 n2 c2, .int .i64 E2]] w' fun e w'' => RetV w' (.int .i64 o) e w'') := by
      intro w' hb'
      have := dcmp_num (P := 40) p1 p2 E1 E2 1074 (hy1.below hb') (hy2.below hb') (by decide) (by omega) (by omega) (by omega) (by omega) (by intro i hi; omega) (by decide) (by omega) (by omega)
      have e1 : sg p1 N1 * 2 ^ (E1 + ((1074 : Nat) : Int)).toNat = fv b := HV1.out
      have e2 : sg p2 N2 * 2 ^ (E2 + ((1074 : Nat) : Int)).toNat = fv c := HV2.out
      rw [e1, e2, ho] at this
      exact Lib.hid this
    have hI1 := Nat.le_of_lt HFB.out
    have hI2 := Nat.le_of_lt HFC.out
    obtain ⟨lt, hlt⟩ : ∃ lt, decide (fv b < fv c) = lt := ⟨_, rfl⟩
    obtain ⟨eq, heq⟩ : ∃ eq, decide (fv b = fv c) = eq := ⟨_, rfl⟩
    have ol : (FloatKind.f64.format.order b c == some Ordering.lt) = lt := by rw [flt_num hI1 hI2]; exact hlt
    have oe : (FloatKind.f64.format.order b c == some Ordering.eq) = eq := by rw [feq_num hI1 hI2]; exact heq
    have hol : decide (o < 0) = lt := by
      rw [← ho, ← hlt, decide_eq_decide]
      rcases Int.lt_trichotomy (fv b) (fv c) with h | h | h
      · rw [cmpI_lt h]; omega
      · rw [cmpI_eq h]; omega
      · rw [cmpI_gt h]; omega
    have hoe : (o == 0) = eq := by
      rw [← ho, ← heq]
      rcases Int.lt_trichotomy (fv b) (fv c) with h | h | h
      · rw [cmpI_lt h, decide_eq_false (by omega)]; rfl
      · rw [cmpI_eq h, decide_eq_true h]; rfl
      · rw [cmpI_gt h, decide_eq_false (by omega)]; rfl
    clear ho hlt heq hI1 hI2
    obtain ⟨⟨k0, k1, k2⟩, -⟩ := slot3 hd1
    obtain ⟨⟨l0, l1, l2⟩, -⟩ := slot3 hd2
    go_wp2_with (simp only [hrun])
    refine (HCM w5 (Below.refl _ _)).out.mono ?_
    rintro e' w6 ⟨rfl, hb6⟩
    have hbw6 := hbw5.trans (hb6.mono hbw5.size)
    have hd16 := slot_kept hd1 hb6
    have hd26 := slot_kept hd2 hb6
    clear k0 k1 k2 l0 l1 l2
    obtain ⟨⟨k0, k1, k2⟩, -⟩ := slot3 hd16
    obtain ⟨⟨l0, l1, l2⟩, -⟩ := slot3 hd26
    go_wp2_with fail
    refine (HCM w6 hb6).out.mono ?_
    rintro e' w7 ⟨rfl, hb7⟩
    have hbw7 := hbw6.trans (hb7.mono hbw6.size)
    have hd17 := slot_kept hd16 hb7
    clear k0 k1 k2 l0 l1 l2 hd26
    have hb57 := hb6.trans (hb7.mono hb6.size)
    have HFX := Lib.hid (finite_num x w7 HNR.out.lt)
    clear HCM hd1 hd2 hy2
    go_wp2_with fail
    by_cases hfx : rg x < INF
    · rw [decide_eq_true hfx] at HFX
      obtain ⟨hle1, hle2⟩ := fo_between HBT.out hEl3 HV3.out HNR.out hfx
      have hxI := Nat.le_of_lt hfx
      have hlI := HBT.out.lo_rg
      have hhI := HBT.out.hi_rg
      obtain ⟨l1, hl1⟩ : ∃ l1, decide (fv lo < fv x) = l1 := ⟨_, rfl⟩
      obtain ⟨l2, hl2⟩ : ∃ l2, decide (fv lo = fv x) = l2 := ⟨_, rfl⟩
      obtain ⟨l3, hl3⟩ : ∃ l3, decide (fv x < fv hi) = l3 := ⟨_, rfl⟩
      obtain ⟨l4, hl4⟩ : ∃ l4, decide (fv x = fv hi) = l4 := ⟨_, rfl⟩
      have q1 : (FloatKind.f64.format.order lo x == some Ordering.lt) = l1 := by rw [flt_num hlI hxI]; exact hl1
      have q2 : (FloatKind.f64.format.order lo x == some Ordering.eq) = l2 := by rw [feq_num hlI hxI]; exact hl2
      have q3 : (FloatKind.f64.format.order x hi == some Ordering.lt) = l3 := by rw [flt_num hxI hhI]; exact hl3
      have q4 : (FloatKind.f64.format.order x hi == some Ordering.eq) = l4 := by rw [feq_num hxI hhI]; exact hl4
      have q12 : (l1 || l2) = true := by rw [← hl1, ← hl2]; simp; omega
      have q34 : (l3 || l4) = true := by rw [← hl3, ← hl4]; simp; omega
      clear hl1 hl2 hl3 hl4
      clear hfx hle1 hle2 hxI hlI hhI
      refine HFX.out.mono ?_
      rintro e' w' ⟨rfl, rfl⟩
      obtain ⟨⟨k0, k1, k2⟩, -⟩ := slot3 hd17
      have HREF := Lib.hid (lref_num 1074 (p := p1) (E := E1) (E0 := (E1 + 1074).toNat) (b := 2400) (hy1.below hb57) (by omega) (by decide) (by omega) (by decide) (by decide))
      rw [HV1.out] at HREF
      go_wp2_with fail
      refine HREF.out.mono ?_
      rintro e' w8 ⟨q1, r1, m1, d1, G1, rfl, hq1, hb8⟩
      have hbw8 := hbw7.trans (hb8.mono hbw7.size)
      have HOF := Lib.hid (refof_num b w8 hb HFB.out)
      clear HREF k0 k1 k2
      go_wp2_with fail
      refine HOF.out.mono ?_
      rintro e' w9 ⟨q2, r2, m2, d2, G2, rfl, hq2, hb9⟩
      have hbw9 := hbw8.trans (hb9.mono hbw8.size)
      have HSM := Lib.hid (qsame_num 100 (hq1.below hb9) hq2 (by decide) (by decide) (by decide) (by decide) (by decide) (by decide) (by decide))
      clear HOF hq1 hq2
      go_wp2_with fail
      refine HSM.out.mono ?_
      rintro e' w10 ⟨rfl, hb10⟩
      go_wp2_with fail
      go_ret
      exact ⟨rfl, hbw9.trans (hb10.mono hbw9.size)⟩
    · rw [decide_eq_false hfx] at HFX
      clear hfx
      refine HFX.out.mono ?_
      rintro e' w' ⟨rfl, rfl⟩
      obtain ⟨⟨k0, k1, k2⟩, -⟩ := slot3 hd17
      have HREF := Lib.hid (lref_num 1074 (p := p1) (E := E1) (E0 := (E1 + 1074).toNat) (b := 2400) (hy1.below hb57) (by omega) (by decide) (by omega) (by decide) (by decide))
      rw [HV1.out] at HREF
      go_wp2_with fail
      refine HREF.out.mono ?_
      rintro e' w8 ⟨q1, r1, m1, d1, G1, rfl, hq1, hb8⟩
      have hbw8 := hbw7.trans (hb8.mono hbw7.size)
      have HOF := Lib.hid (refof_num b w8 hb HFB.out)
      clear HREF k0 k1 k2
      go_wp2_with fail
      refine HOF.out.mono ?_
      rintro e' w9 ⟨q2, r2, m2, d2, G2, rfl, hq2, hb9⟩
      have hbw9 := hbw8.trans (hb9.mono hbw8.size)
      have HSM := Lib.hid (qsame_num 100 (hq1.below hb9) hq2 (by decide) (by decide) (by decide) (by decide) (by decide) (by decide) (by decide))
      clear HOF hq1 hq2
      go_wp2_with fail
      refine HSM.out.mono ?_
      rintro e' w10 ⟨rfl, hb10⟩
      go_wp2_with fail
      go_ret
      exact ⟨rfl, hbw9.trans (hb10.mono hbw9.size)⟩

set_option maxRecDepth 100000 in
theorem ford_inf (b c : Nat) (w : World) (hb : b < 18446744073709551616) (hc : c < 18446744073709551616) (h : ¬ (rg b < INF ∧ rg c < INF)) (hT : Tab64 w) :
    Calls Tryz.prog 5 #[.float .f64 b, .float .f64 c] w fun e' w' => RetV w (.bool true) e' w' := by
  have HF1 := Lib.hid (finite_num b w hb)
  have HF2 := Lib.hid (finite_num c w hc)
  by_cases h1 : rg b < INF
  · rw [decide_eq_true h1] at HF1
    rw [decide_eq_false (fun h2 => h ⟨h1, h2⟩)] at HF2
    clear h h1
    go_enter Tryz.func5, Tryz.ntmps5
    go_wp2_with fail
    refine HF1.out.mono ?_
    rintro e' w' ⟨rfl, rfl⟩
    go_wp2_with fail
    refine HF2.out.mono ?_
    rintro e' w' ⟨rfl, rfl⟩
    go_wp2_with fail
    refine (flive_yes w hT).mono ?_
    rintro e' w1 ⟨rfl, hb1⟩
    go_wp2_with fail
    go_ret
    exact ⟨rfl, hb1⟩
  · rw [decide_eq_false h1] at HF1
    clear h h1 HF2
    go_enter Tryz.func5, Tryz.ntmps5
    go_wp2_with fail
    refine HF1.out.mono ?_
    rintro e' w' ⟨rfl, rfl⟩
    go_wp2_with fail
    refine (flive_yes w hT).mono ?_
    rintro e' w1 ⟨rfl, hb1⟩
    go_wp2_with fail
    go_ret
    exact ⟨rfl, hb1⟩
end Go.Proofs.YtfanhllcoaondaaGreatDoor
