/-
  WTellsL: The walk of the statement WholeTells.
-/
import Derived.Test.YtfanhllcoaondaaDoorPk26
import Derived.Deep.DeepCutAuto

namespace Go.Proofs.YtfanhllcoaondaaDoor
open Go.RowKit

/-- What lies in the law's variables once the arguments have been lent and told to the document. -/
structure TW (w : World) (gx gy gp gq : Nat) (n1 n2 : Bool) (gm gn nA cm nB cn : Nat) (aA aB : Option Addr) (cA cB : Nat) (l1 l2 : List Int) (A B : Int) (pR : Bool) (aR : Option Addr) (nR cR E : Nat) (pS : Bool) (aS : Option Addr) (nS cS G : Nat) (wx : World) : Prop where
  c1 : wx.heap[gx]? = some (.cells #[.bool n1, .slice (some ⟨gm, 0, none⟩) nA cm] 28 (0, 0))
  c2 : wx.heap[gy]? = some (.cells #[.bool n2, .slice (some ⟨gn, 0, none⟩) nB cn] 28 (0, 0))
  c3 : wx.heap[gp]? = some (.cells #[.bool pR, .slice aR nR cR, .int .i64 (E : Int)] 31 (0, 0))
  c4 : wx.heap[gq]? = some (.cells #[.bool pS, .slice aS nS cS, .int .i64 (G : Int)] 31 (0, 0))
  a : Num wx (.slice (some ⟨gm, 0, none⟩) nA cm) A 40
  b : Num wx (.slice (some ⟨gn, 0, none⟩) nB cn) B 40
  fa : Num wx (.slice aA nA cA) A 40
  x : RZ wx (.agg #[.bool pR, .slice aR nR cR, .int .i64 (E : Int)]) (sg n1 A) (2 * 40) (64 * 40)
  y : RZ wx (.agg #[.bool pS, .slice aS nS cS, .int .i64 (G : Int)]) (sg n2 B) (2 * 40) (64 * 40)
  m : At wx gm 0 (l1 ++ [77])
  n : At wx gn 0 (l2 ++ [77])
  ra : Rd wx aA l1
  rb : Rd wx aB l2
  z : Below w.heap.size w wx
theorem TW.below {w wx wy : World} {gx gy gp gq : Nat} {n1 n2 : Bool} {gm gn nA cm nB cn : Nat} {aA aB : Option Addr} {cA cB : Nat} {l1 l2 : List Int} {A B : Int} {pR : Bool} {aR : Option Addr} {nR cR E : Nat} {pS : Bool} {aS : Option Addr} {nS cS G : Nat} (h : TW w gx gy gp gq n1 n2 gm gn nA cm nB cn aA aB cA cB l1 l2 A B pR aR nR cR E pS aS nS cS G wx) (hb : Below wx.heap.size wx wy) : TW w gx gy gp gq n1 n2 gm gn nA cm nB cn aA aB cA cB l1 l2 A B pR aR nR cR E pS aS nS cS G wy :=
  ⟨slot_kept h.c1 hb, slot_kept h.c2 hb, slot_kept h.c3 hb, slot_kept h.c4 hb, h.a.below hb, h.b.below hb, h.fa.below hb, h.x.below hb, h.y.below hb, h.m.below hb, h.n.below hb, h.ra.below hb, h.rb.below hb, h.z.trans (hb.mono h.z.size)⟩

set_option maxRecDepth 100000 in
set_option maxHeartbeats 6000000 in
theorem wtells_ok (n1 n2 : Bool) (aA : Option Addr) (nA cA : Nat) (l1 : List Int) (aB : Option Addr) (nB cB : Nat) (l2 : List Int) (v : Int) (w : World) (hn1 : nA = l1.length) (hn2 : nB = l2.length) (hc1 : nA ≤ cA) (hc2 : cA ≤ 9223372036854775807) (hd1 : nB ≤ cB) (hd2 : cB ≤ 9223372036854775807) (hr1 : Rd w aA l1) (hl1 : Lim B64 l1) (hr2 : Rd w aB l2) (hl2 : Lim B64 l2) (h40 : nA ≤ 40) (g40 : nB ≤ 40) (hv0 : -9223372036854775808 ≤ v) (hv1 : v ≤ 9223372036854775807) :
    Calls Tryd.prog 3 #[.bool n1, .bool n2, .slice aA nA cA, .slice aB nB cB, .int .i64 v] w fun e w' => RetV w (.bool true) e w' := by
  have hlt := light_two aA aB nA nB cA cB 22 w (by omega) (by omega)
  rw [show (decide (nA ≤ 40) && decide (nB ≤ 40)) = true by simp; omega] at hlt
  have HL := Lib.hid hlt
  obtain ⟨A, hAe⟩ : ∃ A, A = vb B64 l1 := ⟨_, rfl⟩
  obtain ⟨B, hBe⟩ : ∃ B, B = vb B64 l2 := ⟨_, rfl⟩
  have HN1 := Lib.hid hn1
  have HN2 := Lib.hid hn2
  have HA := Lib.hid hAe
  have HB := Lib.hid hBe
  have hb0 := below_alloc w (.cells #[Value.slice aA nA cA, Value.slice aB nB cB] 22)
  clear hlt hn1 hn2 hAe hBe
  go_enter Tryd.func3, Tryd.ntmps3
  go_wp2_with fail
  refine HL.out.mono ?_
  rintro e w' ⟨rfl, rfl⟩
  go_wp2_with fail
  refine (alive2_yes _).mono ?_
  rintro e w1 ⟨rfl, hb⟩
  have hbw1 := hb0.trans (hb.mono hb0.size)
  clear HL hb hb0
  go_wp2_with fail
  refine (lent_any aA nA cA l1 w1 HN1.out (hr1.below hbw1) (by unfold MaxW; omega)).mono ?_
  rintro e w2 ⟨gm, cm, rfl, hcm1, hcm2, hatm, hb2⟩
  have hbw2 := hbw1.trans (hb2.mono hbw1.size)
  go_wp2_with fail
  refine (lent_any aB nB cB l2 w2 HN2.out (hr2.below hbw2) (by unfold MaxW; omega)).mono ?_
  rintro e w3 ⟨gn, cn, rfl, hcn1, hcn2, hatn, hb3⟩
  have hbw3 := hbw2.trans (hb3.mono hbw2.size)
  replace hatm := hatm.below hb3
  have hA3 : Num w3 (.slice (some ⟨gm, 0, none⟩) nA cm) A 40 := ⟨l1, ⟨some ⟨gm, 0, none⟩, cm, by rw [HN1.out], by rw [← HN1.out]; omega, hcm2, by have := Rd.of_at (hatm.take l1.length); rwa [List.take_left] at this, hl1⟩, HA.out.symm, by rw [← HN1.out]; exact h40⟩
  have hB3 : Num w3 (.slice (some ⟨gn, 0, none⟩) nB cn) B 40 := ⟨l2, ⟨some ⟨gn, 0, none⟩, cn, by rw [HN2.out], by rw [← HN2.out]; omega, hcn2, by have := Rd.of_at (hatn.take l2.length); rwa [List.take_left] at this, hl2⟩, HB.out.symm, by rw [← HN2.out]; exact g40⟩
  have hfa3 : Num w3 (.slice aA nA cA) A 40 := ⟨l1, ⟨aA, cA, by rw [HN1.out], by rw [← HN1.out]; exact hc1, hc2, hr1.below hbw3, hl1⟩, HA.out.symm, by rw [← HN1.out]; exact h40⟩
  replace hr1 := hr1.below hbw3
  replace hr2 := hr2.below hbw3
  clear hb2 hb3 hbw1 hbw2 hl1 hl2
  go_upto_region 5 with fail
  obtain ⟨w4, hw4⟩ : ∃ w4, w3.alloc (.cells #[.bool n1, .slice (some ⟨gm, 0, none⟩) nA cm] 28) = w4 := ⟨_, rfl⟩
  obtain ⟨w5, hw5⟩ : ∃ w5, w4.alloc (.cells #[.bool n2, .slice (some ⟨gn, 0, none⟩) nB cn] 28) = w5 := ⟨_, rfl⟩
  have hb4 : Below w3.heap.size w3 w4 := hw4 ▸ below_alloc w3 _
  have hb5 : Below w4.heap.size w4 w5 := hw5 ▸ below_alloc w4 _
  have hb35 := hb4.trans (hb5.mono hb4.size)
  have hs4 : w4.heap.size = w3.heap.size + 1 := by rw [← hw4]; simp
  have hs5 : w5.heap.size = w3.heap.size + 2 := by rw [← hw5, ← hw4]; simp
  have hx1 : w5.heap[w3.heap.size]? = some (.cells #[.bool n1, .slice (some ⟨gm, 0, none⟩) nA cm] 28 (0, 0)) := slot_kept (hw4 ▸ heap_alloc_new w3 _) hb5
  have hy1 : w5.heap[w3.heap.size + 1]? = some (.cells #[.bool n2, .slice (some ⟨gn, 0, none⟩) nB cn] 28 (0, 0)) := by rw [← hs4]; exact hw5 ▸ heap_alloc_new w4 _
  have hbw5 := hbw3.trans (hb35.mono hbw3.size)
  have hA5 := hA3.below hb35
  have hB5 := hB3.below hb35
  have hfa5 := hfa3.below hb35
  have hm5 := hatm.below hb35
  have hn5 := hatn.below hb35
  have hr15 := hr1.below hb35
  have hr25 := hr2.below hb35
  have HS5 := Lib.hid hs5
  clear hb4 hb5 hb35 hs4 hs5 hA3 hB3 hfa3 hatm hatn hr1 hr2 hbw3
  rw [hw4, hw5]
  refine wp_region_slotst_tail (by kernel_rfl) 6 [43, 44, 45, 46, 15, 16] (fun tm w' => (w'.heap[w3.heap.size]? = some (.cells #[.bool n1, .slice (some ⟨gm, 0, none⟩) nA cm] 28 (0, 0)) ∧ w'.heap[w3.heap.size + 1]? = some (.cells #[.bool n2, .slice (some ⟨gn, 0, none⟩) nB cn] 28 (0, 0)) ∧ Num w' (.slice (some ⟨gm, 0, none⟩) nA cm) A 40 ∧ Num w' (.slice (some ⟨gn, 0, none⟩) nB cn) B 40 ∧ Below w5.heap.size w5 w') ∧ Two 15 16 tm w') (Said [Is (.agg #[.bool n1, .slice (some ⟨gm, 0, none⟩) nA cm]), IsRZ (sg n1 A) (2 * 40) (64 * 40), Is (.agg #[.bool n2, .slice (some ⟨gn, 0, none⟩) nB cn]), IsRZ (sg n2 B) (2 * 40) (64 * 40), IsNewD w5.heap.size, IsNewD w5.heap.size]) (by kernel_rfl) (by kernel_rfl) (by kernel_rfl) (by kernel_rfl) (by kernel_rfl) (Said.keep ?keep) ?start (l := [0, 1, 2, 3, 4, 5]) (by kernel_rfl) ?step ?fin
  case start => exact ⟨⟨slot_kept hx1 (bdn (Below.refl _ _) 1), slot_kept hy1 (bdn (Below.refl _ _) 1), hA5.below (bdn (Below.refl _ _) 1), hB5.below (bdn (Below.refl _ _) 1), bdn (Below.refl _ _) 1⟩, Two.start (by rfl) (by rfl)⟩
  case keep =>
    refine List.forall_mem_cons.2 ⟨Is.keeps _, ?_⟩
    refine List.forall_mem_cons.2 ⟨IsRZ.keeps _ _ _, ?_⟩
    refine List.forall_mem_cons.2 ⟨Is.keeps _, ?_⟩
    refine List.forall_mem_cons.2 ⟨IsRZ.keeps _ _ _, ?_⟩
    refine List.forall_mem_cons.2 ⟨IsNewD.keeps _, ?_⟩
    refine List.forall_mem_cons.2 ⟨IsNewD.keeps _, ?_⟩
    exact fun _ h => nomatch h
  case step =>
    refine List.forall_mem_cons.2 ⟨?_, ?_⟩
    · refine SlotStepT.plain rfl rfl rfl ?_
      intro tm ws hsame hS hg K hK
      have e13 : tm[13]? = some (.pointer (some ⟨w3.heap.size, 0, none⟩)) := hsame.2 13 rfl
      obtain ⟨k0, k1, -, -⟩ := slot2 hS.1.1
      go_simp
      exact hK _ _ (Below.refl _ _) ⟨hS.1, hS.2.other (Nat.le_refl _) (by decide) (by decide)⟩ rfl
    refine List.forall_mem_cons.2 ⟨?_, ?_⟩
    · refine SlotStepT.plain rfl rfl rfl ?_
      intro tm ws hsame hS hg K hK
      obtain ⟨v43, e43, rfl⟩ := hg 0 (by kernel_rfl) _ 43 rfl rfl
      go_simp
      refine (ref_num (p := n1) hS.1.2.2.1 (by decide)).mono ?_
      rintro e wm ⟨pT, aT, nT, cT, ET, rfl, hT, hb⟩
      exact hK _ _ hb ⟨⟨slot_kept hS.1.1 (hb), slot_kept hS.1.2.1 (hb), hS.1.2.2.1.below (hb), hS.1.2.2.2.1.below (hb), hS.1.2.2.2.2.trans (Below.mono (hb) hS.1.2.2.2.2.size)⟩, hS.2.other hb.size (by decide) (by decide)⟩ ⟨pT, aT, nT, cT, ET, rfl, hT⟩
    refine List.forall_mem_cons.2 ⟨?_, ?_⟩
    · refine SlotStepT.plain rfl rfl rfl ?_
      intro tm ws hsame hS hg K hK
      have e14 : tm[14]? = some (.pointer (some ⟨w3.heap.size + 1, 0, none⟩)) := hsame.2 14 rfl
      obtain ⟨k0, k1, -, -⟩ := slot2 hS.1.2.1
      go_simp
      exact hK _ _ (Below.refl _ _) ⟨hS.1, hS.2.other (Nat.le_refl _) (by decide) (by decide)⟩ rfl
    refine List.forall_mem_cons.2 ⟨?_, ?_⟩
    · refine SlotStepT.plain rfl rfl rfl ?_
      intro tm ws hsame hS hg K hK
      obtain ⟨v45, e45, rfl⟩ := hg 2 (by kernel_rfl) _ 45 rfl rfl
      go_simp
      refine (ref_num (p := n2) hS.1.2.2.2.1 (by decide)).mono ?_
      rintro e wm ⟨pT, aT, nT, cT, ET, rfl, hT, hb⟩
      exact hK _ _ hb ⟨⟨slot_kept hS.1.1 (hb), slot_kept hS.1.2.1 (hb), hS.1.2.2.1.below (hb), hS.1.2.2.2.1.below (hb), hS.1.2.2.2.2.trans (Below.mono (hb) hS.1.2.2.2.2.size)⟩, hS.2.other hb.size (by decide) (by decide)⟩ ⟨pT, aT, nT, cT, ET, rfl, hT⟩
    refine List.forall_mem_cons.2 ⟨?_, ?_⟩
    · refine SlotStepT.plain rfl rfl rfl ?_
      intro tm ws hsame hS hg K hK
      go_simp
      exact hK _ _ (below_alloc _ _) ⟨⟨slot_kept hS.1.1 (below_alloc _ _), slot_kept hS.1.2.1 (below_alloc _ _), hS.1.2.2.1.below (below_alloc _ _), hS.1.2.2.2.1.below (below_alloc _ _), hS.1.2.2.2.2.trans (Below.mono (below_alloc _ _) hS.1.2.2.2.2.size)⟩, hS.2.first (by decide)⟩ ⟨_, rfl, heap_alloc_new _ _, hS.1.2.2.2.2.size⟩
    refine List.forall_mem_cons.2 ⟨?_, ?_⟩
    · refine SlotStepT.plain rfl rfl rfl ?_
      intro tm ws hsame hS hg K hK
      go_simp
      exact hK _ _ (below_alloc _ _) ⟨⟨slot_kept hS.1.1 (below_alloc _ _), slot_kept hS.1.2.1 (below_alloc _ _), hS.1.2.2.1.below (below_alloc _ _), hS.1.2.2.2.1.below (below_alloc _ _), hS.1.2.2.2.2.trans (Below.mono (below_alloc _ _) hS.1.2.2.2.2.size)⟩, hS.2.second (by decide)⟩ ⟨_, rfl, heap_alloc_new _ _, hS.1.2.2.2.2.size⟩
    exact fun _ h => nomatch h
  case fin =>
    intro tm w8 hsame hS hgot
    obtain ⟨u, hu, htm⟩ := hsame.form (by kernel_rfl)
    obtain ⟨v44, e44, pR, aR, nR, cR, E, rfl, hxx⟩ := hgot 1 (by decide) _ 44 rfl rfl
    obtain ⟨v46, e46, pS, aS, nS, cS, G, rfl, hyy⟩ := hgot 3 (by decide) _ 46 rfl rfl
    obtain ⟨v15, e15, gp, rfl, hcp, hgp⟩ := hgot 4 (by decide) _ 15 rfl rfl
    obtain ⟨v16, e16, gq, rfl, hcq, hgq⟩ := hgot 5 (by decide) _ 16 rfl rfl
    have h44 := hu _ _ e44
    have h46 := hu _ _ e46
    have h15 := hu _ _ e15
    have h16 := hu _ _ e16
    have hpq : gp ≠ gq := fun e => hS.2.2.2 gp e15 (e ▸ e16)
    obtain ⟨hx8, hy8, -, -, hb8⟩ := hS.1
    obtain ⟨⟨p0, p1, p2⟩, f0, f1, f2⟩ := slot3 hcp
    have hcq' : (((w8.setCell ⟨gp, 0, none⟩ (.bool pR)).setCell ⟨gp, 1, none⟩ (.slice aR nR cR)).setCell ⟨gp, 2, none⟩ (.int .i64 (E : Int))).heap[gq]? = some (.cells #[.bool false, .slice none 0 0, .int .i64 0] 31 (0, 0)) := slot_apart hcq (Ne.symm hpq)
    obtain ⟨⟨q0, q1, q2⟩, j0, j1, j2⟩ := slot3 hcq'
    have hon1 := slot3_only (w := w8) (g := gp) (.bool pR) (.slice aR nR cR) (.int .i64 (E : Int))
    have hon2 := slot3_only (w := (((w8.setCell ⟨gp, 0, none⟩ (.bool pR)).setCell ⟨gp, 1, none⟩ (.slice aR nR cR)).setCell ⟨gp, 2, none⟩ (.int .i64 (E : Int)))) (g := gq) (.bool pS) (.slice aS nS cS) (.int .i64 (G : Int))
    have hb89 : Below w5.heap.size w5 ((((((w8.setCell ⟨gp, 0, none⟩ (.bool pR)).setCell ⟨gp, 1, none⟩ (.slice aR nR cR)).setCell ⟨gp, 2, none⟩ (.int .i64 (E : Int))).setCell ⟨gq, 0, none⟩ (.bool pS)).setCell ⟨gq, 1, none⟩ (.slice aS nS cS)).setCell ⟨gq, 2, none⟩ (.int .i64 (G : Int))) := (hb8.trans (hon1.below hgp hb8.size)).trans (hon2.below hgq (Nat.le_trans hb8.size hon1.size))
    have hs5 := HS5.out
    have hTW : TW w w3.heap.size (w3.heap.size + 1) gp gq n1 n2 gm gn nA cm nB cn aA aB cA cB l1 l2 A B pR aR nR cR E pS aS nS cS G ((((((w8.setCell ⟨gp, 0, none⟩ (.bool pR)).setCell ⟨gp, 1, none⟩ (.slice aR nR cR)).setCell ⟨gp, 2, none⟩ (.int .i64 (E : Int))).setCell ⟨gq, 0, none⟩ (.bool pS)).setCell ⟨gq, 1, none⟩ (.slice aS nS cS)).setCell ⟨gq, 2, none⟩ (.int .i64 (G : Int))) :=
      ⟨slot_kept hx1 hb89, slot_kept hy1 hb89, slot_apart (slot3_set hcp) hpq, slot3_set hcq', hA5.below hb89, hB5.below hb89, hfa5.below hb89, (hxx.var hcp hon1).var hcq' hon2, (hyy.var hcp hon1).var hcq' hon2, hm5.below hb89, hn5.below hb89, hr15.below hb89, hr25.below hb89, hbw5.trans (hb89.mono hbw5.size)⟩
    obtain ⟨w9, hw9⟩ : ∃ w9, ((((((w8.setCell ⟨gp, 0, none⟩ (.bool pR)).setCell ⟨gp, 1, none⟩ (.slice aR nR cR)).setCell ⟨gp, 2, none⟩ (.int .i64 (E : Int))).setCell ⟨gq, 0, none⟩ (.bool pS)).setCell ⟨gq, 1, none⟩ (.slice aS nS cS)).setCell ⟨gq, 2, none⟩ (.int .i64 (G : Int))) = w9 := ⟨_, rfl⟩
    rw [hw9] at hTW
    clear hgot hu hsame e44 e46 e15 e16 hS hx8 hy8 hb8 hcp hcq hcq' hon1 hon2 hb89 hxx hyy hA5 hB5 hfa5 hm5 hn5 hr15 hr25 hx1 hy1 hbw5 hs5 hpq hgp hgq
    rw [htm]
    clear htm tm
    simp only [List.foldl_cons, List.foldl_nil, List.setIfInBounds_toArray, List.set_cons_zero, List.set_cons_succ, h44, h46, h15, h16, List.drop_succ_cons, List.drop_zero]
    clear h44 h46 h15 h16
    obtain ⟨x0, x1, -, -⟩ := slot2 hTW.c1
    obtain ⟨y0, y1, -, -⟩ := slot2 hTW.c2
    obtain ⟨zb, hzb⟩ : ∃ zb, decide (B = 0) = zb := ⟨_, rfl⟩
    have hyz : (cmpI (sg n2 B) 0 == 0) = zb := by
      have h0 := hTW.b.nonneg
      rw [← hzb]
      by_cases e : B = 0
      · rw [decide_eq_true e, cmpI_eq (by rw [e]; cases n2 <;> rfl)]; rfl
      · rw [decide_eq_false e]
        cases n2
        · rw [sg_false, cmpI_gt (by omega)]; rfl
        · rw [sg_true, cmpI_lt (by omega)]; rfl
    have HQ1 := Lib.hid (quo_any n1 n2 false hTW.a hTW.b)
    rw [hzb] at HQ1
    have HZB := Lib.hid hzb
    have HYZ := Lib.hid hyz
    clear hzb hyz
    go_wp2_with fail
    refine HQ1.out.mono ?_
    rintro e w10 ⟨pd, ad, nd, cd, rfl, hd, hb10⟩
    clear HQ1 f0 f1 f2 j0 j1 j2 p0 p1 p2 q0 q1 q2 x0 x1 y0 y1 hw9
    replace hTW := hTW.below hb10
    obtain ⟨w11, hw11⟩ : ∃ w11, w10.alloc (.cells #[.bool pd, .slice ad nd cd] 28) = w11 := ⟨_, rfl⟩
    have hb11 : Below w10.heap.size w10 w11 := hw11 ▸ below_alloc w10 _
    have hc5 : w11.heap[w10.heap.size]? = some (.cells #[.bool pd, .slice ad nd cd] 28 (0, 0)) := hw11 ▸ heap_alloc_new w10 _
    replace hTW := hTW.below hb11
    replace hd := hd.below hb11
    obtain ⟨x0, x1, -, -⟩ := slot2 hTW.c1
    obtain ⟨y0, y1, -, -⟩ := slot2 hTW.c2
    have HQ2 := Lib.hid (quo_any n1 n2 true hTW.a hTW.b)
    rw [HZB.out] at HQ2
    clear hb10 hb11
    go_wp2_with fail
    refine HQ2.out.mono ?_
    rintro e w12 ⟨pu, au, nu, cu, rfl, hu, hb12⟩
    clear HQ2 x0 x1 y0 y1
    replace hTW := hTW.below hb12
    replace hd := hd.below hb12
    replace hc5 := slot_kept hc5 hb12
    obtain ⟨w13, hw13⟩ : ∃ w13, w12.alloc (.cells #[.bool pu, .slice au nu cu] 28) = w13 := ⟨_, rfl⟩
    have hb13 : Below w12.heap.size w12 w13 := hw13 ▸ below_alloc w12 _
    have hc6 : w13.heap[w12.heap.size]? = some (.cells #[.bool pu, .slice au nu cu] 28 (0, 0)) := hw13 ▸ heap_alloc_new w12 _
    replace hTW := hTW.below hb13
    replace hd := hd.below hb13
    replace hu := hu.below hb13
    replace hc5 := slot_kept hc5 hb13
    obtain ⟨⟨y0, y1, y2⟩, -⟩ := slot3 hTW.c4
    clear hb12 hb13
    go_wp2_with fail
    refine (rsign_num hTW.y).mono ?_
    rintro e w14 ⟨rfl, hb14⟩
    clear y0 y1 y2
    replace hTW := hTW.below hb14
    replace hd := hd.below hb14
    replace hu := hu.below hb14
    replace hc5 := slot_kept hc5 hb14
    replace hc6 := slot_kept hc6 hb14
    clear hb14
    have hyz := HYZ.out
    go_upto_region 9 with fail
    clear hyz
    go_cut [104] from 62 to 104 (fun s104 wx => s104 = .bool false ∧ TW w w3.heap.size (w3.heap.size + 1) gp gq n1 n2 gm gn nA cm nB cn aA aB cA cB l1 l2 A B pR aR nR cR E pS aS nS cS G wx)
    case first =>
      have hzb := HZB.out
      cases zb
      · have hB : B ≠ 0 := by simpa using hzb
        rw [if_neg hB] at hd hu
        have hY0 : (sg n2 B) ≠ 0 := by cases n2 <;> simp [sg, hB]
        have HY0 := Lib.hid hY0
        clear hzb hB hY0
        refine wp_region_slots (by kernel_rfl) [62, 63, 64, 65, 66, 67, 68, 69, 70, 71, 72, 73, 74, 75, 76, 77, 78, 79, 80, 81, 82, 83, 84, 85, 86, 87, 88, 89, 90, 91, 92, 93, 94, 95, 96, 97, 98, 99, 100, 101, 102, 103, 104] (fun w' => (TW w w3.heap.size (w3.heap.size + 1) gp gq n1 n2 gm gn nA cm nB cn aA aB cA cB l1 l2 A B pR aR nR cR E pS aS nS cS G w') ∧ (w'.heap[w10.heap.size]? = some (.cells #[.bool pd, .slice ad nd cd] 28 (0, 0))) ∧ (w'.heap[w12.heap.size]? = some (.cells #[.bool pu, .slice au nu cu] 28 (0, 0))) ∧ (WN w' (.agg #[.bool pd, .slice ad nd cd]) (fq (sg n1 A) (sg n2 B) false) 41) ∧ (WN w' (.agg #[.bool pu, .slice au nu cu]) (fq (sg n1 A) (sg n2 B) true) 41)) (Said [Is (.bool true), Is (.bool false), Is (.bool false), Is (.bool false), Is (.bool true), Is (.bool false), Is (.bool false), Is (.bool false), Is (.bool false), Is (.bool false), Is (.bool false), Is undef, Is undef, Is undef, Is undef, Is undef, Is undef, Is undef, Is undef, Is undef, Is undef, Is (.bool false), Is (.bool false), Is (.bool false), Is (.bool false), Is (.bool true), Is (.bool true), Is (.agg #[.bool pd, .slice ad nd cd]), Is (.agg #[.bool pR, .slice aR nR cR, .int .i64 (E : Int)]), Is (.agg #[.bool pS, .slice aS nS cS, .int .i64 (G : Int)]), IsRZ (fq (sg n1 A) (sg n2 B) false) 162 (32 * 162), Is (.bool true), Is (.bool false), Is (.bool false), Is (.agg #[.bool pu, .slice au nu cu]), Is (.agg #[.bool pR, .slice aR nR cR, .int .i64 (E : Int)]), Is (.agg #[.bool pS, .slice aS nS cS, .int .i64 (G : Int)]), IsRZ (fq (sg n1 A) (sg n2 B) true) 162 (32 * 162), Is (.bool true), Is (.bool false), Is (.bool false), Is (.bool false), Is (.bool false)]) (by kernel_rfl) (by kernel_rfl) (by kernel_rfl) (by kernel_rfl) (Said.keep ?keep) ⟨hTW.below (bdn (Below.refl _ _) 1), slot_kept hc5 (bdn (Below.refl _ _) 1), slot_kept hc6 (bdn (Below.refl _ _) 1), hd.below (bdn (Below.refl _ _) 1), hu.below (bdn (Below.refl _ _) 1)⟩ (l := [0, 1, 2, 3, 4, 5, 6, 7, 8, 9, 10, 11, 12, 13, 14, 15, 16, 17, 18, 19, 20, 21, 22, 23, 24, 25, 26, 27, 28, 29, 30, 31, 32, 33, 34, 35, 36, 37, 38, 39, 40, 41, 42]) (by kernel_rfl) ?step ?fin
        case keep =>
          refine List.forall_mem_cons.2 ⟨Is.keeps _, ?_⟩
          refine List.forall_mem_cons.2 ⟨Is.keeps _, ?_⟩
          refine List.forall_mem_cons.2 ⟨Is.keeps _, ?_⟩
          refine List.forall_mem_cons.2 ⟨Is.keeps _, ?_⟩
          refine List.forall_mem_cons.2 ⟨Is.keeps _, ?_⟩
          refine List.forall_mem_cons.2 ⟨Is.keeps _, ?_⟩
          refine List.forall_mem_cons.2 ⟨Is.keeps _, ?_⟩
          refine List.forall_mem_cons.2 ⟨Is.keeps _, ?_⟩
          refine List.forall_mem_cons.2 ⟨Is.keeps _, ?_⟩
          refine List.forall_mem_cons.2 ⟨Is.keeps _, ?_⟩
          refine List.forall_mem_cons.2 ⟨Is.keeps _, ?_⟩
          refine List.forall_mem_cons.2 ⟨Is.keeps _, ?_⟩
          refine List.forall_mem_cons.2 ⟨Is.keeps _, ?_⟩
          refine List.forall_mem_cons.2 ⟨Is.keeps _, ?_⟩
          refine List.forall_mem_cons.2 ⟨Is.keeps _, ?_⟩
          refine List.forall_mem_cons.2 ⟨Is.keeps _, ?_⟩
          refine List.forall_mem_cons.2 ⟨Is.keeps _, ?_⟩
          refine List.forall_mem_cons.2 ⟨Is.keeps _, ?_⟩
          refine List.forall_mem_cons.2 ⟨Is.keeps _, ?_⟩
          refine List.forall_mem_cons.2 ⟨Is.keeps _, ?_⟩
          refine List.forall_mem_cons.2 ⟨Is.keeps _, ?_⟩
          refine List.forall_mem_cons.2 ⟨Is.keeps _, ?_⟩
          refine List.forall_mem_cons.2 ⟨Is.keeps _, ?_⟩
          refine List.forall_mem_cons.2 ⟨Is.keeps _, ?_⟩
          refine List.forall_mem_cons.2 ⟨Is.keeps _, ?_⟩
          refine List.forall_mem_cons.2 ⟨Is.keeps _, ?_⟩
          refine List.forall_mem_cons.2 ⟨Is.keeps _, ?_⟩
          refine List.forall_mem_cons.2 ⟨Is.keeps _, ?_⟩
          refine List.forall_mem_cons.2 ⟨Is.keeps _, ?_⟩
          refine List.forall_mem_cons.2 ⟨Is.keeps _, ?_⟩
          refine List.forall_mem_cons.2 ⟨IsRZ.keeps _ _ _, ?_⟩
          refine List.forall_mem_cons.2 ⟨Is.keeps _, ?_⟩
          refine List.forall_mem_cons.2 ⟨Is.keeps _, ?_⟩
          refine List.forall_mem_cons.2 ⟨Is.keeps _, ?_⟩
          refine List.forall_mem_cons.2 ⟨Is.keeps _, ?_⟩
          refine List.forall_mem_cons.2 ⟨Is.keeps _, ?_⟩
          refine List.forall_mem_cons.2 ⟨Is.keeps _, ?_⟩
          refine List.forall_mem_cons.2 ⟨IsRZ.keeps _ _ _, ?_⟩
          refine List.forall_mem_cons.2 ⟨Is.keeps _, ?_⟩
          refine List.forall_mem_cons.2 ⟨Is.keeps _, ?_⟩
          refine List.forall_mem_cons.2 ⟨Is.keeps _, ?_⟩
          refine List.forall_mem_cons.2 ⟨Is.keeps _, ?_⟩
          refine List.forall_mem_cons.2 ⟨Is.keeps _, ?_⟩
          exact fun _ h => nomatch h
        case step =>
          refine List.forall_mem_cons.2 ⟨?_, ?_⟩
          · refine SlotStep.plain rfl rfl rfl ?_
            intro tm ws hsame hS hg K hK
            have e18 : tm[18]? = some (.bool true) := hsame.2 18 rfl
            go_simp
            exact hK _ _ (Below.refl _ _) hS rfl
          refine List.forall_mem_cons.2 ⟨?_, ?_⟩
          · refine SlotStep.plain rfl rfl rfl ?_
            intro tm ws hsame hS hg K hK
            have e21 : tm[21]? = some (.bool false) := hsame.2 21 rfl
            go_simp
            exact hK _ _ (Below.refl _ _) hS rfl
          refine List.forall_mem_cons.2 ⟨?_, ?_⟩
          · refine SlotStep.plain rfl rfl rfl ?_
            intro tm ws hsame hS hg K hK
            obtain ⟨v62, e62, rfl⟩ := hg 0 (by kernel_rfl) _ 62 rfl rfl
            obtain ⟨v63, e63, rfl⟩ := hg 1 (by kernel_rfl) _ 63 rfl rfl
            go_simp
            exact hK _ _ (Below.refl _ _) hS rfl
          refine List.forall_mem_cons.2 ⟨?_, ?_⟩
          · refine SlotStep.plain rfl rfl rfl ?_
            intro tm ws hsame hS hg K hK
            obtain ⟨v64, e64, rfl⟩ := hg 2 (by kernel_rfl) _ 64 rfl rfl
            go_simp
            exact hK _ _ (Below.refl _ _) hS rfl
          refine List.forall_mem_cons.2 ⟨?_, ?_⟩
          · refine SlotStep.guardedNot rfl rfl 3 rfl rfl (by kernel_rfl) (fun _ _ h => h) ?_
            intro tm ws hsame hS hg K hK
            have e20 : tm[20]? = some (.bool true) := hsame.2 20 rfl
            go_simp
            exact hK _ _ (Below.refl _ _) hS rfl
          refine List.forall_mem_cons.2 ⟨?_, ?_⟩
          · refine SlotStep.guardedNot rfl rfl 3 rfl rfl (by kernel_rfl) (fun _ _ h => h) ?_
            intro tm ws hsame hS hg K hK
            have e21 : tm[21]? = some (.bool false) := hsame.2 21 rfl
            go_simp
            exact hK _ _ (Below.refl _ _) hS rfl
          refine List.forall_mem_cons.2 ⟨?_, ?_⟩
          · refine SlotStep.guardedNot rfl rfl 3 rfl rfl (by kernel_rfl) (fun _ _ h => h) ?_
            intro tm ws hsame hS hg K hK
            obtain ⟨v66, e66, rfl⟩ := hg 4 (by kernel_rfl) _ 66 rfl rfl
            obtain ⟨v67, e67, rfl⟩ := hg 5 (by kernel_rfl) _ 67 rfl rfl
            go_simp
            exact hK _ _ (Below.refl _ _) hS rfl
          refine List.forall_mem_cons.2 ⟨?_, ?_⟩
          · refine SlotStep.plain rfl rfl rfl ?_
            intro tm ws hsame hS hg K hK
            obtain ⟨v65, e65, rfl⟩ := hg 3 (by kernel_rfl) _ 65 rfl rfl
            obtain ⟨v68, e68, rfl⟩ := hg 6 (by kernel_rfl) _ 68 rfl rfl
            go_simp
            exact hK _ _ (Below.refl _ _) hS rfl
          refine List.forall_mem_cons.2 ⟨?_, ?_⟩
          · refine SlotStep.plain rfl rfl rfl ?_
            intro tm ws hsame hS hg K hK
            obtain ⟨v69, e69, rfl⟩ := hg 7 (by kernel_rfl) _ 69 rfl rfl
            go_simp
            exact hK _ _ (Below.refl _ _) hS rfl
          refine List.forall_mem_cons.2 ⟨?_, ?_⟩
          · refine SlotStep.guardedNot rfl rfl 8 rfl rfl (by kernel_rfl) (fun _ _ h => h) ?_
            intro tm ws hsame hS hg K hK
            have e21 : tm[21]? = some (.bool false) := hsame.2 21 rfl
            go_simp
            exact hK _ _ (Below.refl _ _) hS rfl
          refine List.forall_mem_cons.2 ⟨?_, ?_⟩
          · refine SlotStep.guardedNot rfl rfl 8 rfl rfl (by kernel_rfl) (fun _ _ h => h) ?_
            intro tm ws hsame hS hg K hK
            obtain ⟨v71, e71, rfl⟩ := hg 9 (by kernel_rfl) _ 71 rfl rfl
            go_simp
            exact hK _ _ (Below.refl _ _) hS rfl
          refine List.forall_mem_cons.2 ⟨?_, ?_⟩
          · exact SlotStep.skip rfl rfl 10 true rfl rfl (by kernel_rfl) (fun _ _ h => h) (fun _ => rfl)
          refine List.forall_mem_cons.2 ⟨?_, ?_⟩
          · exact SlotStep.skip rfl rfl 10 true rfl rfl (by kernel_rfl) (fun _ _ h => h) (fun _ => rfl)
          refine List.forall_mem_cons.2 ⟨?_, ?_⟩
          · exact SlotStep.skip rfl rfl 10 true rfl rfl (by kernel_rfl) (fun _ _ h => h) (fun _ => rfl)
          refine List.forall_mem_cons.2 ⟨?_, ?_⟩
          · exact SlotStep.skip rfl rfl 10 true rfl rfl (by kernel_rfl) (fun _ _ h => h) (fun _ => rfl)
          refine List.forall_mem_cons.2 ⟨?_, ?_⟩
          · exact SlotStep.skip rfl rfl 10 true rfl rfl (by kernel_rfl) (fun _ _ h => h) (fun _ => rfl)
          refine List.forall_mem_cons.2 ⟨?_, ?_⟩
          · exact SlotStep.skipU rfl rfl 15 false rfl rfl (by kernel_rfl) (fun _ _ h => h) (fun _ => rfl)
          refine List.forall_mem_cons.2 ⟨?_, ?_⟩
          · exact SlotStep.skipU rfl rfl 15 false rfl rfl (by kernel_rfl) (fun _ _ h => h) (fun _ => rfl)
          refine List.forall_mem_cons.2 ⟨?_, ?_⟩
          · exact SlotStep.skipU rfl rfl 15 false rfl rfl (by kernel_rfl) (fun _ _ h => h) (fun _ => rfl)
          refine List.forall_mem_cons.2 ⟨?_, ?_⟩
          · exact SlotStep.skipU rfl rfl 15 false rfl rfl (by kernel_rfl) (fun _ _ h => h) (fun _ => rfl)
          refine List.forall_mem_cons.2 ⟨?_, ?_⟩
          · exact SlotStep.skip rfl rfl 10 true rfl rfl (by kernel_rfl) (fun _ _ h => h) (fun _ => rfl)
          refine List.forall_mem_cons.2 ⟨?_, ?_⟩
          · refine SlotStep.guardedNot rfl rfl 8 rfl rfl (by kernel_rfl) (fun _ _ h => h) ?_
            intro tm ws hsame hS hg K hK
            obtain ⟨v72, e72, rfl⟩ := hg 10 (by kernel_rfl) _ 72 rfl rfl
            obtain ⟨v82, e82, rfl⟩ := hg 20 (by kernel_rfl) _ 82 rfl rfl
            go_simp
            exact hK _ _ (Below.refl _ _) hS rfl
          refine List.forall_mem_cons.2 ⟨?_, ?_⟩
          · refine SlotStep.plain rfl rfl rfl ?_
            intro tm ws hsame hS hg K hK
            obtain ⟨v70, e70, rfl⟩ := hg 8 (by kernel_rfl) _ 70 rfl rfl
            obtain ⟨v83, e83, rfl⟩ := hg 21 (by kernel_rfl) _ 83 rfl rfl
            go_simp
            exact hK _ _ (Below.refl _ _) hS rfl
          refine List.forall_mem_cons.2 ⟨?_, ?_⟩
          · refine SlotStep.plain rfl rfl rfl ?_
            intro tm ws hsame hS hg K hK
            obtain ⟨v84, e84, rfl⟩ := hg 22 (by kernel_rfl) _ 84 rfl rfl
            go_simp
            exact hK _ _ (Below.refl _ _) hS rfl
          refine List.forall_mem_cons.2 ⟨?_, ?_⟩
          · refine SlotStep.guardedNot rfl rfl 23 rfl rfl (by kernel_rfl) (fun _ _ h => h) ?_
            intro tm ws hsame hS hg K hK
            have e21 : tm[21]? = some (.bool false) := hsame.2 21 rfl
            go_simp
            exact hK _ _ (Below.refl _ _) hS rfl
          refine List.forall_mem_cons.2 ⟨?_, ?_⟩
          · refine SlotStep.guardedNot rfl rfl 23 rfl rfl (by kernel_rfl) (fun _ _ h => h) ?_
            intro tm ws hsame hS hg K hK
            obtain ⟨v86, e86, rfl⟩ := hg 24 (by kernel_rfl) _ 86 rfl rfl
            go_simp
            exact hK _ _ (Below.refl _ _) hS rfl
          refine List.forall_mem_cons.2 ⟨?_, ?_⟩
          · refine SlotStep.guardedNot rfl rfl 23 rfl rfl (by kernel_rfl) (fun _ _ h => h) ?_
            intro tm ws hsame hS hg K hK
            obtain ⟨v87, e87, rfl⟩ := hg 25 (by kernel_rfl) _ 87 rfl rfl
            go_simp
            exact hK _ _ (Below.refl _ _) hS rfl
          refine List.forall_mem_cons.2 ⟨?_, ?_⟩
          · refine SlotStep.guarded rfl rfl 26 rfl rfl (by kernel_rfl) (fun _ _ h => h) ?_
            intro tm ws hsame hS hg K hK
            have e17 : tm[17]? = some (.pointer (some ⟨w10.heap.size, 0, none⟩)) := hsame.2 17 rfl
            obtain ⟨k0, k1, -, -⟩ := slot2 (hS.2.1)
            go_simp
            exact hK _ _ (Below.refl _ _) hS rfl
          refine List.forall_mem_cons.2 ⟨?_, ?_⟩
          · refine SlotStep.guarded rfl rfl 26 rfl rfl (by kernel_rfl) (fun _ _ h => h) ?_
            intro tm ws hsame hS hg K hK
            have e15 : tm[15]? = some (.pointer (some ⟨gp, 0, none⟩)) := hsame.2 15 rfl
            obtain ⟨⟨k0, k1, k2⟩, -⟩ := slot3 (hS.1.c3)
            go_simp
            exact hK _ _ (Below.refl _ _) hS rfl
          refine List.forall_mem_cons.2 ⟨?_, ?_⟩
          · refine SlotStep.guarded rfl rfl 26 rfl rfl (by kernel_rfl) (fun _ _ h => h) ?_
            intro tm ws hsame hS hg K hK
            have e16 : tm[16]? = some (.pointer (some ⟨gq, 0, none⟩)) := hsame.2 16 rfl
            obtain ⟨⟨k0, k1, k2⟩, -⟩ := slot3 (hS.1.c4)
            go_simp
            exact hK _ _ (Below.refl _ _) hS rfl
          refine List.forall_mem_cons.2 ⟨?_, ?_⟩
          · refine SlotStep.guarded rfl rfl 26 rfl rfl (by kernel_rfl) (fun _ _ h => h) ?_
            intro tm ws hsame hS hg K hK
            obtain ⟨v90, e90, rfl⟩ := hg 28 (by kernel_rfl) _ 90 rfl rfl
            obtain ⟨v91, e91, rfl⟩ := hg 29 (by kernel_rfl) _ 91 rfl rfl
            go_simp
            refine (rfloor_num 161 162 hS.1.x hS.1.y HY0.out (by decide) (by decide) (by decide) (by decide) (by decide) (by decide) (by decide)).mono ?_
            rintro e wm ⟨pT, aT, nT, cT, ET, rfl, hT2, hb⟩
            exact hK _ _ hb (⟨(hS.1).below (hb), slot_kept (hS.2.1) (hb), slot_kept (hS.2.2.1) (hb), (hS.2.2.2.1).below (hb), (hS.2.2.2.2).below (hb)⟩) ⟨pT, aT, nT, cT, ET, rfl, hT2⟩
          refine List.forall_mem_cons.2 ⟨?_, ?_⟩
          · refine SlotStep.guarded rfl rfl 26 rfl rfl (by kernel_rfl) (fun _ _ h => h) ?_
            intro tm ws hsame hS hg K hK
            obtain ⟨v89, e89, rfl⟩ := hg 27 (by kernel_rfl) _ 89 rfl rfl
            obtain ⟨v92, e92, ⟨p92, a92, n92, c92, E92, rfl, g92⟩⟩ := hg 30 (by kernel_rfl) _ 92 rfl rfl
            go_simp
            refine (isw_num 500 hS.2.2.2.1 g92 (by decide) (by decide) (by decide) (by decide) (by decide)).mono ?_
            rintro e wm ⟨rfl, hb⟩
            exact hK _ _ hb (⟨(hS.1).below (hb), slot_kept (hS.2.1) (hb), slot_kept (hS.2.2.1) (hb), (hS.2.2.2.1).below (hb), (hS.2.2.2.2).below (hb)⟩) rfl
          refine List.forall_mem_cons.2 ⟨?_, ?_⟩
          · refine SlotStep.guarded rfl rfl 26 rfl rfl (by kernel_rfl) (fun _ _ h => h) ?_
            intro tm ws hsame hS hg K hK
            obtain ⟨v93, e93, rfl⟩ := hg 31 (by kernel_rfl) _ 93 rfl rfl
            go_simp
            exact hK _ _ (Below.refl _ _) hS rfl
          refine List.forall_mem_cons.2 ⟨?_, ?_⟩
          · refine SlotStep.guarded rfl rfl 26 rfl rfl (by kernel_rfl) (fun _ _ h => h) ?_
            intro tm ws hsame hS hg K hK
            obtain ⟨v94, e94, rfl⟩ := hg 32 (by kernel_rfl) _ 94 rfl rfl
            go_simp
            exact hK _ _ (Below.refl _ _) hS rfl
          refine List.forall_mem_cons.2 ⟨?_, ?_⟩
          · refine SlotStep.guardedNot rfl rfl 33 rfl rfl (by kernel_rfl) (fun _ _ h => h) ?_
            intro tm ws hsame hS hg K hK
            have e19 : tm[19]? = some (.pointer (some ⟨w12.heap.size, 0, none⟩)) := hsame.2 19 rfl
            obtain ⟨k0, k1, -, -⟩ := slot2 (hS.2.2.1)
            go_simp
            exact hK _ _ (Below.refl _ _) hS rfl
          refine List.forall_mem_cons.2 ⟨?_, ?_⟩
          · refine SlotStep.guardedNot rfl rfl 33 rfl rfl (by kernel_rfl) (fun _ _ h => h) ?_
            intro tm ws hsame hS hg K hK
            have e15 : tm[15]? = some (.pointer (some ⟨gp, 0, none⟩)) := hsame.2 15 rfl
            obtain ⟨⟨k0, k1, k2⟩, -⟩ := slot3 (hS.1.c3)
            go_simp
            exact hK _ _ (Below.refl _ _) hS rfl
          refine List.forall_mem_cons.2 ⟨?_, ?_⟩
          · refine SlotStep.guardedNot rfl rfl 33 rfl rfl (by kernel_rfl) (fun _ _ h => h) ?_
            intro tm ws hsame hS hg K hK
            have e16 : tm[16]? = some (.pointer (some ⟨gq, 0, none⟩)) := hsame.2 16 rfl
            obtain ⟨⟨k0, k1, k2⟩, -⟩ := slot3 (hS.1.c4)
            go_simp
            exact hK _ _ (Below.refl _ _) hS rfl
          refine List.forall_mem_cons.2 ⟨?_, ?_⟩
          · refine SlotStep.guardedNot rfl rfl 33 rfl rfl (by kernel_rfl) (fun _ _ h => h) ?_
            intro tm ws hsame hS hg K hK
            obtain ⟨v97, e97, rfl⟩ := hg 35 (by kernel_rfl) _ 97 rfl rfl
            obtain ⟨v98, e98, rfl⟩ := hg 36 (by kernel_rfl) _ 98 rfl rfl
            go_simp
            refine (rfloor_num 161 162 hS.1.x hS.1.y HY0.out (by decide) (by decide) (by decide) (by decide) (by decide) (by decide) (by decide)).mono ?_
            rintro e wm ⟨pT, aT, nT, cT, ET, rfl, hT2, hb⟩
            exact hK _ _ hb (⟨(hS.1).below (hb), slot_kept (hS.2.1) (hb), slot_kept (hS.2.2.1) (hb), (hS.2.2.2.1).below (hb), (hS.2.2.2.2).below (hb)⟩) ⟨pT, aT, nT, cT, ET, rfl, hT2⟩
          refine List.forall_mem_cons.2 ⟨?_, ?_⟩
          · refine SlotStep.guardedNot rfl rfl 33 rfl rfl (by kernel_rfl) (fun _ _ h => h) ?_
            intro tm ws hsame hS hg K hK
            obtain ⟨v96, e96, rfl⟩ := hg 34 (by kernel_rfl) _ 96 rfl rfl
            obtain ⟨v99, e99, ⟨p99, a99, n99, c99, E99, rfl, g99⟩⟩ := hg 37 (by kernel_rfl) _ 99 rfl rfl
            go_simp
            refine (isw_num 500 hS.2.2.2.2 g99 (by decide) (by decide) (by decide) (by decide) (by decide)).mono ?_
            rintro e wm ⟨rfl, hb⟩
            exact hK _ _ hb (⟨(hS.1).below (hb), slot_kept (hS.2.1) (hb), slot_kept (hS.2.2.1) (hb), (hS.2.2.2.1).below (hb), (hS.2.2.2.2).below (hb)⟩) rfl
          refine List.forall_mem_cons.2 ⟨?_, ?_⟩
          · refine SlotStep.guardedNot rfl rfl 33 rfl rfl (by kernel_rfl) (fun _ _ h => h) ?_
            intro tm ws hsame hS hg K hK
            obtain ⟨v100, e100, rfl⟩ := hg 38 (by kernel_rfl) _ 100 rfl rfl
            go_simp
            exact hK _ _ (Below.refl _ _) hS rfl
          refine List.forall_mem_cons.2 ⟨?_, ?_⟩
          · refine SlotStep.guarded rfl rfl 26 rfl rfl (by kernel_rfl) (fun _ _ h => h) ?_
            intro tm ws hsame hS hg K hK
            obtain ⟨v95, e95, rfl⟩ := hg 33 (by kernel_rfl) _ 95 rfl rfl
            obtain ⟨v101, e101, rfl⟩ := hg 39 (by kernel_rfl) _ 101 rfl rfl
            go_simp
            exact hK _ _ (Below.refl _ _) hS rfl
          refine List.forall_mem_cons.2 ⟨?_, ?_⟩
          · refine SlotStep.guardedNot rfl rfl 23 rfl rfl (by kernel_rfl) (fun _ _ h => h) ?_
            intro tm ws hsame hS hg K hK
            obtain ⟨v88, e88, rfl⟩ := hg 26 (by kernel_rfl) _ 88 rfl rfl
            obtain ⟨v102, e102, rfl⟩ := hg 40 (by kernel_rfl) _ 102 rfl rfl
            go_simp
            exact hK _ _ (Below.refl _ _) hS rfl
          refine List.forall_mem_cons.2 ⟨?_, ?_⟩
          · refine SlotStep.plain rfl rfl rfl ?_
            intro tm ws hsame hS hg K hK
            obtain ⟨v85, e85, rfl⟩ := hg 23 (by kernel_rfl) _ 85 rfl rfl
            obtain ⟨v103, e103, rfl⟩ := hg 41 (by kernel_rfl) _ 103 rfl rfl
            go_simp
            exact hK _ _ (Below.refl _ _) hS rfl
          exact fun _ h => nomatch h
        case fin =>
          intro tm w15 hsame hS hgot
          obtain ⟨u', hu', htm⟩ := hsame.form (by kernel_rfl)
          obtain ⟨v104, e104, rfl⟩ := hgot 42 _ 104 rfl rfl
          have h104 := hu' _ _ e104
          have hT := hS.1
          clear hgot hu' hsame e104 hS
          rw [htm]
          clear htm tm
          simp only [List.foldl_cons, List.foldl_nil, List.setIfInBounds_toArray, List.set_cons_zero, List.set_cons_succ, h104]
          clear h104
          go_wp2_with fail
          go_meet
          exact ⟨rfl, hT⟩
      · have hB : B = 0 := by simpa using hzb
        rw [if_pos hB] at hd hu
        clear hzb hB
        refine wp_region_slots (by kernel_rfl) [62, 63, 64, 65, 66, 67, 68, 69, 70, 71, 72, 73, 74, 75, 76, 77, 78, 79, 80, 81, 82, 83, 84, 85, 86, 87, 88, 89, 90, 91, 92, 93, 94, 95, 96, 97, 98, 99, 100, 101, 102, 103, 104] (fun w' => (TW w w3.heap.size (w3.heap.size + 1) gp gq n1 n2 gm gn nA cm nB cn aA aB cA cB l1 l2 A B pR aR nR cR E pS aS nS cS G w') ∧ (w'.heap[w10.heap.size]? = some (.cells #[.bool pd, .slice ad nd cd] 28 (0, 0))) ∧ (w'.heap[w12.heap.size]? = some (.cells #[.bool pu, .slice au nu cu] 28 (0, 0))) ∧ (WN w' (.agg #[.bool pd, .slice ad nd cd]) (0) 41) ∧ (WN w' (.agg #[.bool pu, .slice au nu cu]) (0) 41)) (Said [Is (.bool false), Is (.bool true), Is (.bool false), Is (.bool false), Is (.bool false), Is (.bool true), Is (.bool false), Is (.bool false), Is (.bool false), Is (.bool true), Is (.bool true), Is (.agg #[.bool pd, .slice ad nd cd]), Is (.agg #[.bool false, .slice none 0 0, .int .i64 0]), Is (.bool true), Is (.bool false), Is (.bool false), Is (.agg #[.bool pu, .slice au nu cu]), Is (.agg #[.bool false, .slice none 0 0, .int .i64 0]), Is (.bool true), Is (.bool false), Is (.bool false), Is (.bool false), Is (.bool false), Is (.bool false), Is (.bool true), Is (.bool false), Is (.bool false), Is undef, Is undef, Is undef, Is undef, Is undef, Is undef, Is undef, Is undef, Is undef, Is undef, Is undef, Is undef, Is undef, Is undef, Is (.bool false), Is (.bool false)]) (by kernel_rfl) (by kernel_rfl) (by kernel_rfl) (by kernel_rfl) (Said.keep ?keep) ⟨hTW.below (bdn (Below.refl _ _) 1), slot_kept hc5 (bdn (Below.refl _ _) 1), slot_kept hc6 (bdn (Below.refl _ _) 1), hd.below (bdn (Below.refl _ _) 1), hu.below (bdn (Below.refl _ _) 1)⟩ (l := [0, 1, 2, 3, 4, 5, 6, 7, 8, 9, 10, 11, 12, 13, 14, 15, 16, 17, 18, 19, 20, 21, 22, 23, 24, 25, 26, 27, 28, 29, 30, 31, 32, 33, 34, 35, 36, 37, 38, 39, 40, 41, 42]) (by kernel_rfl) ?step ?fin
        case keep =>
          refine List.forall_mem_cons.2 ⟨Is.keeps _, ?_⟩
          refine List.forall_mem_cons.2 ⟨Is.keeps _, ?_⟩
          refine List.forall_mem_cons.2 ⟨Is.keeps _, ?_⟩
          refine List.forall_mem_cons.2 ⟨Is.keeps _, ?_⟩
          refine List.forall_mem_cons.2 ⟨Is.keeps _, ?_⟩
          refine List.forall_mem_cons.2 ⟨Is.keeps _, ?_⟩
          refine List.forall_mem_cons.2 ⟨Is.keeps _, ?_⟩
          refine List.forall_mem_cons.2 ⟨Is.keeps _, ?_⟩
          refine List.forall_mem_cons.2 ⟨Is.keeps _, ?_⟩
          refine List.forall_mem_cons.2 ⟨Is.keeps _, ?_⟩
          refine List.forall_mem_cons.2 ⟨Is.keeps _, ?_⟩
          refine List.forall_mem_cons.2 ⟨Is.keeps _, ?_⟩
          refine List.forall_mem_cons.2 ⟨Is.keeps _, ?_⟩
          refine List.forall_mem_cons.2 ⟨Is.keeps _, ?_⟩
          refine List.forall_mem_cons.2 ⟨Is.keeps _, ?_⟩
          refine List.forall_mem_cons.2 ⟨Is.keeps _, ?_⟩
          refine List.forall_mem_cons.2 ⟨Is.keeps _, ?_⟩
          refine List.forall_mem_cons.2 ⟨Is.keeps _, ?_⟩
          refine List.forall_mem_cons.2 ⟨Is.keeps _, ?_⟩
          refine List.forall_mem_cons.2 ⟨Is.keeps _, ?_⟩
          refine List.forall_mem_cons.2 ⟨Is.keeps _, ?_⟩
          refine List.forall_mem_cons.2 ⟨Is.keeps _, ?_⟩
          refine List.forall_mem_cons.2 ⟨Is.keeps _, ?_⟩
          refine List.forall_mem_cons.2 ⟨Is.keeps _, ?_⟩
          refine List.forall_mem_cons.2 ⟨Is.keeps _, ?_⟩
          refine List.forall_mem_cons.2 ⟨Is.keeps _, ?_⟩
          refine List.forall_mem_cons.2 ⟨Is.keeps _, ?_⟩
          refine List.forall_mem_cons.2 ⟨Is.keeps _, ?_⟩
          refine List.forall_mem_cons.2 ⟨Is.keeps _, ?_⟩
          refine List.forall_mem_cons.2 ⟨Is.keeps _, ?_⟩
          refine List.forall_mem_cons.2 ⟨Is.keeps _, ?_⟩
          refine List.forall_mem_cons.2 ⟨Is.keeps _, ?_⟩
          refine List.forall_mem_cons.2 ⟨Is.keeps _, ?_⟩
          refine List.forall_mem_cons.2 ⟨Is.keeps _, ?_⟩
          refine List.forall_mem_cons.2 ⟨Is.keeps _, ?_⟩
          refine List.forall_mem_cons.2 ⟨Is.keeps _, ?_⟩
          refine List.forall_mem_cons.2 ⟨Is.keeps _, ?_⟩
          refine List.forall_mem_cons.2 ⟨Is.keeps _, ?_⟩
          refine List.forall_mem_cons.2 ⟨Is.keeps _, ?_⟩
          refine List.forall_mem_cons.2 ⟨Is.keeps _, ?_⟩
          refine List.forall_mem_cons.2 ⟨Is.keeps _, ?_⟩
          refine List.forall_mem_cons.2 ⟨Is.keeps _, ?_⟩
          refine List.forall_mem_cons.2 ⟨Is.keeps _, ?_⟩
          exact fun _ h => nomatch h
        case step =>
          refine List.forall_mem_cons.2 ⟨?_, ?_⟩
          · refine SlotStep.plain rfl rfl rfl ?_
            intro tm ws hsame hS hg K hK
            have e18 : tm[18]? = some (.bool false) := hsame.2 18 rfl
            go_simp
            exact hK _ _ (Below.refl _ _) hS rfl
          refine List.forall_mem_cons.2 ⟨?_, ?_⟩
          · refine SlotStep.plain rfl rfl rfl ?_
            intro tm ws hsame hS hg K hK
            have e21 : tm[21]? = some (.bool true) := hsame.2 21 rfl
            go_simp
            exact hK _ _ (Below.refl _ _) hS rfl
          refine List.forall_mem_cons.2 ⟨?_, ?_⟩
          · refine SlotStep.plain rfl rfl rfl ?_
            intro tm ws hsame hS hg K hK
            obtain ⟨v62, e62, rfl⟩ := hg 0 (by kernel_rfl) _ 62 rfl rfl
            obtain ⟨v63, e63, rfl⟩ := hg 1 (by kernel_rfl) _ 63 rfl rfl
            go_simp
            exact hK _ _ (Below.refl _ _) hS rfl
          refine List.forall_mem_cons.2 ⟨?_, ?_⟩
          · refine SlotStep.plain rfl rfl rfl ?_
            intro tm ws hsame hS hg K hK
            obtain ⟨v64, e64, rfl⟩ := hg 2 (by kernel_rfl) _ 64 rfl rfl
            go_simp
            exact hK _ _ (Below.refl _ _) hS rfl
          refine List.forall_mem_cons.2 ⟨?_, ?_⟩
          · refine SlotStep.guardedNot rfl rfl 3 rfl rfl (by kernel_rfl) (fun _ _ h => h) ?_
            intro tm ws hsame hS hg K hK
            have e20 : tm[20]? = some (.bool false) := hsame.2 20 rfl
            go_simp
            exact hK _ _ (Below.refl _ _) hS rfl
          refine List.forall_mem_cons.2 ⟨?_, ?_⟩
          · refine SlotStep.guardedNot rfl rfl 3 rfl rfl (by kernel_rfl) (fun _ _ h => h) ?_
            intro tm ws hsame hS hg K hK
            have e21 : tm[21]? = some (.bool true) := hsame.2 21 rfl
            go_simp
            exact hK _ _ (Below.refl _ _) hS rfl
          refine List.forall_mem_cons.2 ⟨?_, ?_⟩
          · refine SlotStep.guardedNot rfl rfl 3 rfl rfl (by kernel_rfl) (fun _ _ h => h) ?_
            intro tm ws hsame hS hg K hK
            obtain ⟨v66, e66, rfl⟩ := hg 4 (by kernel_rfl) _ 66 rfl rfl
            obtain ⟨v67, e67, rfl⟩ := hg 5 (by kernel_rfl) _ 67 rfl rfl
            go_simp
            exact hK _ _ (Below.refl _ _) hS rfl
          refine List.forall_mem_cons.2 ⟨?_, ?_⟩
          · refine SlotStep.plain rfl rfl rfl ?_
            intro tm ws hsame hS hg K hK
            obtain ⟨v65, e65, rfl⟩ := hg 3 (by kernel_rfl) _ 65 rfl rfl
            obtain ⟨v68, e68, rfl⟩ := hg 6 (by kernel_rfl) _ 68 rfl rfl
            go_simp
            exact hK _ _ (Below.refl _ _) hS rfl
          refine List.forall_mem_cons.2 ⟨?_, ?_⟩
          · refine SlotStep.plain rfl rfl rfl ?_
            intro tm ws hsame hS hg K hK
            obtain ⟨v69, e69, rfl⟩ := hg 7 (by kernel_rfl) _ 69 rfl rfl
            go_simp
            exact hK _ _ (Below.refl _ _) hS rfl
          refine List.forall_mem_cons.2 ⟨?_, ?_⟩
          · refine SlotStep.guardedNot rfl rfl 8 rfl rfl (by kernel_rfl) (fun _ _ h => h) ?_
            intro tm ws hsame hS hg K hK
            have e21 : tm[21]? = some (.bool true) := hsame.2 21 rfl
            go_simp
            exact hK _ _ (Below.refl _ _) hS rfl
          refine List.forall_mem_cons.2 ⟨?_, ?_⟩
          · refine SlotStep.guardedNot rfl rfl 8 rfl rfl (by kernel_rfl) (fun _ _ h => h) ?_
            intro tm ws hsame hS hg K hK
            obtain ⟨v71, e71, rfl⟩ := hg 9 (by kernel_rfl) _ 71 rfl rfl
            go_simp
            exact hK _ _ (Below.refl _ _) hS rfl
          refine List.forall_mem_cons.2 ⟨?_, ?_⟩
          · refine SlotStep.guarded rfl rfl 10 rfl rfl (by kernel_rfl) (fun _ _ h => h) ?_
            intro tm ws hsame hS hg K hK
            have e17 : tm[17]? = some (.pointer (some ⟨w10.heap.size, 0, none⟩)) := hsame.2 17 rfl
            obtain ⟨k0, k1, -, -⟩ := slot2 (hS.2.1)
            go_simp
            exact hK _ _ (Below.refl _ _) hS rfl
          refine List.forall_mem_cons.2 ⟨?_, ?_⟩
          · refine SlotStep.guarded rfl rfl 10 rfl rfl (by kernel_rfl) (fun _ _ h => h) ?_
            intro tm ws hsame hS hg K hK
            go_simp
            exact hK _ _ (Below.refl _ _) hS rfl
          refine List.forall_mem_cons.2 ⟨?_, ?_⟩
          · refine SlotStep.guarded rfl rfl 10 rfl rfl (by kernel_rfl) (fun _ _ h => h) ?_
            intro tm ws hsame hS hg K hK
            obtain ⟨v73, e73, rfl⟩ := hg 11 (by kernel_rfl) _ 73 rfl rfl
            obtain ⟨v74, e74, rfl⟩ := hg 12 (by kernel_rfl) _ 74 rfl rfl
            go_simp
            refine (isw_num 200 hS.2.2.2.1 (RZ.zero _) (by decide) (by decide) (by decide) (by decide) (by decide)).mono ?_
            rintro e wm ⟨rfl, hb⟩
            exact hK _ _ hb (⟨(hS.1).below (hb), slot_kept (hS.2.1) (hb), slot_kept (hS.2.2.1) (hb), (hS.2.2.2.1).below (hb), (hS.2.2.2.2).below (hb)⟩) rfl
          refine List.forall_mem_cons.2 ⟨?_, ?_⟩
          · refine SlotStep.guarded rfl rfl 10 rfl rfl (by kernel_rfl) (fun _ _ h => h) ?_
            intro tm ws hsame hS hg K hK
            obtain ⟨v75, e75, rfl⟩ := hg 13 (by kernel_rfl) _ 75 rfl rfl
            go_simp
            exact hK _ _ (Below.refl _ _) hS rfl
          refine List.forall_mem_cons.2 ⟨?_, ?_⟩
          · refine SlotStep.guarded rfl rfl 10 rfl rfl (by kernel_rfl) (fun _ _ h => h) ?_
            intro tm ws hsame hS hg K hK
            obtain ⟨v76, e76, rfl⟩ := hg 14 (by kernel_rfl) _ 76 rfl rfl
            go_simp
            exact hK _ _ (Below.refl _ _) hS rfl
          refine List.forall_mem_cons.2 ⟨?_, ?_⟩
          · refine SlotStep.guardedNot rfl rfl 15 rfl rfl (by kernel_rfl) (fun _ _ h => h) ?_
            intro tm ws hsame hS hg K hK
            have e19 : tm[19]? = some (.pointer (some ⟨w12.heap.size, 0, none⟩)) := hsame.2 19 rfl
            obtain ⟨k0, k1, -, -⟩ := slot2 (hS.2.2.1)
            go_simp
            exact hK _ _ (Below.refl _ _) hS rfl
          refine List.forall_mem_cons.2 ⟨?_, ?_⟩
          · refine SlotStep.guardedNot rfl rfl 15 rfl rfl (by kernel_rfl) (fun _ _ h => h) ?_
            intro tm ws hsame hS hg K hK
            go_simp
            exact hK _ _ (Below.refl _ _) hS rfl
          refine List.forall_mem_cons.2 ⟨?_, ?_⟩
          · refine SlotStep.guardedNot rfl rfl 15 rfl rfl (by kernel_rfl) (fun _ _ h => h) ?_
            intro tm ws hsame hS hg K hK
            obtain ⟨v78, e78, rfl⟩ := hg 16 (by kernel_rfl) _ 78 rfl rfl
            obtain ⟨v79, e79, rfl⟩ := hg 17 (by kernel_rfl) _ 79 rfl rfl
            go_simp
            refine (isw_num 200 hS.2.2.2.2 (RZ.zero _) (by decide) (by decide) (by decide) (by decide) (by decide)).mono ?_
            rintro e wm ⟨rfl, hb⟩
            exact hK _ _ hb (⟨(hS.1).below (hb), slot_kept (hS.2.1) (hb), slot_kept (hS.2.2.1) (hb), (hS.2.2.2.1).below (hb), (hS.2.2.2.2).below (hb)⟩) rfl
          refine List.forall_mem_cons.2 ⟨?_, ?_⟩
          · refine SlotStep.guardedNot rfl rfl 15 rfl rfl (by kernel_rfl) (fun _ _ h => h) ?_
            intro tm ws hsame hS hg K hK
            obtain ⟨v80, e80, rfl⟩ := hg 18 (by kernel_rfl) _ 80 rfl rfl
            go_simp
            exact hK _ _ (Below.refl _ _) hS rfl
          refine List.forall_mem_cons.2 ⟨?_, ?_⟩
          · refine SlotStep.guarded rfl rfl 10 rfl rfl (by kernel_rfl) (fun _ _ h => h) ?_
            intro tm ws hsame hS hg K hK
            obtain ⟨v77, e77, rfl⟩ := hg 15 (by kernel_rfl) _ 77 rfl rfl
            obtain ⟨v81, e81, rfl⟩ := hg 19 (by kernel_rfl) _ 81 rfl rfl
            go_simp
            exact hK _ _ (Below.refl _ _) hS rfl
          refine List.forall_mem_cons.2 ⟨?_, ?_⟩
          · refine SlotStep.guardedNot rfl rfl 8 rfl rfl (by kernel_rfl) (fun _ _ h => h) ?_
            intro tm ws hsame hS hg K hK
            obtain ⟨v72, e72, rfl⟩ := hg 10 (by kernel_rfl) _ 72 rfl rfl
            obtain ⟨v82, e82, rfl⟩ := hg 20 (by kernel_rfl) _ 82 rfl rfl
            go_simp
            exact hK _ _ (Below.refl _ _) hS rfl
          refine List.forall_mem_cons.2 ⟨?_, ?_⟩
          · refine SlotStep.plain rfl rfl rfl ?_
            intro tm ws hsame hS hg K hK
            obtain ⟨v70, e70, rfl⟩ := hg 8 (by kernel_rfl) _ 70 rfl rfl
            obtain ⟨v83, e83, rfl⟩ := hg 21 (by kernel_rfl) _ 83 rfl rfl
            go_simp
            exact hK _ _ (Below.refl _ _) hS rfl
          refine List.forall_mem_cons.2 ⟨?_, ?_⟩
          · refine SlotStep.plain rfl rfl rfl ?_
            intro tm ws hsame hS hg K hK
            obtain ⟨v84, e84, rfl⟩ := hg 22 (by kernel_rfl) _ 84 rfl rfl
            go_simp
            exact hK _ _ (Below.refl _ _) hS rfl
          refine List.forall_mem_cons.2 ⟨?_, ?_⟩
          · refine SlotStep.guardedNot rfl rfl 23 rfl rfl (by kernel_rfl) (fun _ _ h => h) ?_
            intro tm ws hsame hS hg K hK
            have e21 : tm[21]? = some (.bool true) := hsame.2 21 rfl
            go_simp
            exact hK _ _ (Below.refl _ _) hS rfl
          refine List.forall_mem_cons.2 ⟨?_, ?_⟩
          · refine SlotStep.guardedNot rfl rfl 23 rfl rfl (by kernel_rfl) (fun _ _ h => h) ?_
            intro tm ws hsame hS hg K hK
            obtain ⟨v86, e86, rfl⟩ := hg 24 (by kernel_rfl) _ 86 rfl rfl
            go_simp
            exact hK _ _ (Below.refl _ _) hS rfl
          refine List.forall_mem_cons.2 ⟨?_, ?_⟩
          · refine SlotStep.guardedNot rfl rfl 23 rfl rfl (by kernel_rfl) (fun _ _ h => h) ?_
            intro tm ws hsame hS hg K hK
            obtain ⟨v87, e87, rfl⟩ := hg 25 (by kernel_rfl) _ 87 rfl rfl
            go_simp
            exact hK _ _ (Below.refl _ _) hS rfl
          refine List.forall_mem_cons.2 ⟨?_, ?_⟩
          · exact SlotStep.skip rfl rfl 26 true rfl rfl (by kernel_rfl) (fun _ _ h => h) (fun _ => rfl)
          refine List.forall_mem_cons.2 ⟨?_, ?_⟩
          · exact SlotStep.skip rfl rfl 26 true rfl rfl (by kernel_rfl) (fun _ _ h => h) (fun _ => rfl)
          refine List.forall_mem_cons.2 ⟨?_, ?_⟩
          · exact SlotStep.skip rfl rfl 26 true rfl rfl (by kernel_rfl) (fun _ _ h => h) (fun _ => rfl)
          refine List.forall_mem_cons.2 ⟨?_, ?_⟩
          · exact SlotStep.skip rfl rfl 26 true rfl rfl (by kernel_rfl) (fun _ _ h => h) (fun _ => rfl)
          refine List.forall_mem_cons.2 ⟨?_, ?_⟩
          · exact SlotStep.skip rfl rfl 26 true rfl rfl (by kernel_rfl) (fun _ _ h => h) (fun _ => rfl)
          refine List.forall_mem_cons.2 ⟨?_, ?_⟩
          · exact SlotStep.skip rfl rfl 26 true rfl rfl (by kernel_rfl) (fun _ _ h => h) (fun _ => rfl)
          refine List.forall_mem_cons.2 ⟨?_, ?_⟩
          · exact SlotStep.skip rfl rfl 26 true rfl rfl (by kernel_rfl) (fun _ _ h => h) (fun _ => rfl)
          refine List.forall_mem_cons.2 ⟨?_, ?_⟩
          · exact SlotStep.skipU rfl rfl 33 false rfl rfl (by kernel_rfl) (fun _ _ h => h) (fun _ => rfl)
          refine List.forall_mem_cons.2 ⟨?_, ?_⟩
          · exact SlotStep.skipU rfl rfl 33 false rfl rfl (by kernel_rfl) (fun _ _ h => h) (fun _ => rfl)
          refine List.forall_mem_cons.2 ⟨?_, ?_⟩
          · exact SlotStep.skipU rfl rfl 33 false rfl rfl (by kernel_rfl) (fun _ _ h => h) (fun _ => rfl)
          refine List.forall_mem_cons.2 ⟨?_, ?_⟩
          · exact SlotStep.skipU rfl rfl 33 false rfl rfl (by kernel_rfl) (fun _ _ h => h) (fun _ => rfl)
          refine List.forall_mem_cons.2 ⟨?_, ?_⟩
          · exact SlotStep.skipU rfl rfl 33 false rfl rfl (by kernel_rfl) (fun _ _ h => h) (fun _ => rfl)
          refine List.forall_mem_cons.2 ⟨?_, ?_⟩
          · exact SlotStep.skipU rfl rfl 33 false rfl rfl (by kernel_rfl) (fun _ _ h => h) (fun _ => rfl)
          refine List.forall_mem_cons.2 ⟨?_, ?_⟩
          · exact SlotStep.skip rfl rfl 26 true rfl rfl (by kernel_rfl) (fun _ _ h => h) (fun _ => rfl)
          refine List.forall_mem_cons.2 ⟨?_, ?_⟩
          · refine SlotStep.guardedNot rfl rfl 23 rfl rfl (by kernel_rfl) (fun _ _ h => h) ?_
            intro tm ws hsame hS hg K hK
            obtain ⟨v88, e88, rfl⟩ := hg 26 (by kernel_rfl) _ 88 rfl rfl
            obtain ⟨v102, e102, rfl⟩ := hg 40 (by kernel_rfl) _ 102 rfl rfl
            go_simp
            exact hK _ _ (Below.refl _ _) hS rfl
          refine List.forall_mem_cons.2 ⟨?_, ?_⟩
          · refine SlotStep.plain rfl rfl rfl ?_
            intro tm ws hsame hS hg K hK
            obtain ⟨v85, e85, rfl⟩ := hg 23 (by kernel_rfl) _ 85 rfl rfl
            obtain ⟨v103, e103, rfl⟩ := hg 41 (by kernel_rfl) _ 103 rfl rfl
            go_simp
            exact hK _ _ (Below.refl _ _) hS rfl
          exact fun _ h => nomatch h
        case fin =>
          intro tm w15 hsame hS hgot
          obtain ⟨u', hu', htm⟩ := hsame.form (by kernel_rfl)
          obtain ⟨v104, e104, rfl⟩ := hgot 42 _ 104 rfl rfl
          have h104 := hu' _ _ e104
          have hT := hS.1
          clear hgot hu' hsame e104 hS
          rw [htm]
          clear htm tm
          simp only [List.foldl_cons, List.foldl_nil, List.setIfInBounds_toArray, List.set_cons_zero, List.set_cons_succ, h104]
          clear h104
          go_wp2_with fail
          go_meet
          exact ⟨rfl, hT⟩
    case rest =>
      clear hTW hd hu hc5 hc6
      obtain ⟨rfl, hTW⟩ := hcut
      obtain ⟨⟨y0, y1, y2⟩, -⟩ := slot3 hTW.c3
      obtain ⟨sgn, hsgn⟩ : ∃ sgn : ByteArray, sgn = if (sg n1 A) < 0 then ⟨#[45]⟩ else ⟨#[]⟩ := ⟨_, rfl⟩
      obtain ⟨TA, hTA⟩ : ∃ T, T = strOfNums (dec A) := ⟨_, rfl⟩
      have hsg1 : sgn.size ≤ 1 := by rw [hsgn]; split <;> decide
      have hsT : TA.size ≤ 801 := by rw [hTA]; exact dec_40 hTW.a.nonneg hTW.a.lt
      have htw : tw (sg n1 A) = sgn ++ TA := by
        have h0 := hTW.a.nonneg
        rw [tw, hsgn, hTA]
        by_cases h : (sg n1 A) < 0
        · rw [if_pos h, if_pos h]
          cases n1
          · rw [sg_false] at h; omega
          · rw [sg_true, Int.neg_neg]
        · rw [if_neg h, if_neg h]
          have e : (sg n1 A) = A := by
            cases n1
            · rfl
            · rw [sg_true] at h ⊢; omega
          rw [e]
          exact (ByteArray.ext (by simp)).symm
      have HTW2 := Lib.hid htw
      have HSGN := Lib.hid hsgn
      have HTA := Lib.hid hTA
      clear htw hsgn hTA
      go_wp2_with fail
      refine (rsign_num hTW.x).mono ?_
      rintro e w16 ⟨rfl, hb16⟩
      clear y0 y1 y2
      replace hTW := hTW.below hb16
      clear hb16
      go_upto_if 107 with fail
      go_cut [22] from 107 to 107 (fun s22 wx => s22 = .string sgn ∧ w16 = wx)
      case first =>
        have hsgn := HSGN.out
        by_cases hX : (sg n1 A) < 0
        · rw [if_pos hX] at hsgn
          have hc : cmpI (sg n1 A) 0 = -1 := cmpI_lt hX
          have HS' := Lib.hid hsgn
          clear hsgn hX
          go_wp2_with fail
          go_meet
          exact ⟨by rw [HS'.out], rfl⟩
        · rw [if_neg hX] at hsgn
          have hc : ¬ cmpI (sg n1 A) 0 < 0 := by
            rcases Int.lt_or_eq_of_le (Int.not_lt.1 hX) with h | h
            · rw [cmpI_gt h]; decide
            · rw [cmpI_eq h.symm]; decide
          have HS' := Lib.hid hsgn
          clear hsgn hX
          go_wp2_with fail
          go_meet
          exact ⟨by rw [HS'.out], rfl⟩
      case rest =>
        obtain ⟨rfl, rfl⟩ := hcut
        go_upto_region 14 with fail
        refine wp_region_slots (by kernel_rfl) [108, 109, 110, 111, 112, 113, 114, 115, 116, 117, 118, 119, 120, 121, 122, 123, 124, 125, 126, 127, 128, 129, 130, 131, 132, 133, 134, 135, 136, 137, 138, 139, 140, 141, 142, 143, 144, 145, 146, 147, 148, 149, 150, 151, 152, 153, 154, 155, 156, 157, 158, 159, 160, 161, 162, 163, 164, 165, 166, 167, 168, 169, 170, 171, 172, 173, 174, 175, 176, 177, 178, 179, 180, 181, 182, 183, 184, 185, 186, 187, 188, 189, 190, 191, 192, 193, 194, 195, 196, 197, 198, 199, 200, 201, 202, 203, 204, 205, 206, 207, 208, 209, 210, 211, 212, 213, 214, 215, 216, 217, 218, 219, 220, 221, 222, 223, 10] (fun w' => (TW w w3.heap.size (w3.heap.size + 1) gp gq n1 n2 gm gn nA cm nB cn aA aB cA cB l1 l2 A B pR aR nR cR E pS aS nS cS G w')) (Said [Is (.agg #[.bool n1, .slice (some ⟨gm, 0, none⟩) nA cm]), Is (.agg #[.bool n2, .slice (some ⟨gn, 0, none⟩) nB cn]), Is (.int .i64 (cmpI (sg n1 A) (sg n2 B))), Is (.agg #[.bool pR, .slice aR nR cR, .int .i64 (E : Int)]), Is (.agg #[.bool pS, .slice aS nS cS, .int .i64 (G : Int)]), Is (.int .i64 (cmpI (sg n1 A) (sg n2 B))), Is (.bool true), Is (.bool true), Is (.agg #[.bool n1, .slice (some ⟨gm, 0, none⟩) nA cm]), Is (.int .i64 (cmpI (sg n1 A) 0)), Is (.agg #[.bool pR, .slice aR nR cR, .int .i64 (E : Int)]), Is (.int .i64 (cmpI (sg n1 A) 0)), Is (.bool true), Is (.bool true), Is (.bool true), Is (.agg #[.bool n1, .slice (some ⟨gm, 0, none⟩) nA cm]), IsWN (-(sg n1 A)) 40, Is (.agg #[.bool pR, .slice aR nR cR, .int .i64 (E : Int)]), IsRZ (-(sg n1 A)) (2 * 40) (64 * 40 + 32 * (2 * 40)), Is (.bool true), Is (.bool true), Is (.bool true), Is (.agg #[.bool n1, .slice (some ⟨gm, 0, none⟩) nA cm]), Is (.agg #[.bool n2, .slice (some ⟨gn, 0, none⟩) nB cn]), IsRow n2 (some ⟨gn, 0, none⟩) nB cn, IsWN ((sg n1 A) + (sg n2 B)) 41, Is (.agg #[.bool pR, .slice aR nR cR, .int .i64 (E : Int)]), Is (.agg #[.bool pS, .slice aS nS cS, .int .i64 (G : Int)]), IsRZ ((sg n1 A) + (sg n2 B)) 200 8960, Is (.bool true), Is (.bool true), Is (.bool true), Is (.agg #[.bool n1, .slice (some ⟨gm, 0, none⟩) nA cm]), Is (.agg #[.bool n2, .slice (some ⟨gn, 0, none⟩) nB cn]), IsWN ((sg n1 A) - (sg n2 B)) 41, Is (.agg #[.bool pR, .slice aR nR cR, .int .i64 (E : Int)]), Is (.agg #[.bool pS, .slice aS nS cS, .int .i64 (G : Int)]), IsRZ ((sg n1 A) - (sg n2 B)) 300 14720, Is (.bool true), Is (.bool true), Is (.bool true), Is (.agg #[.bool n1, .slice (some ⟨gm, 0, none⟩) nA cm]), Is (.agg #[.bool n2, .slice (some ⟨gn, 0, none⟩) nB cn]), IsRow n2 (some ⟨gn, 0, none⟩) nB cn, IsWN ((sg n1 A) * (sg n2 B)) 80, Is (.agg #[.bool pR, .slice aR nR cR, .int .i64 (E : Int)]), Is (.agg #[.bool pS, .slice aS nS cS, .int .i64 (G : Int)]), IsRZ ((sg n1 A) * (sg n2 B)) 160 10240, Is (.bool true), Is (.bool true), Is (.bool true), Is (.agg #[.bool n1, .slice (some ⟨gm, 0, none⟩) nA cm]), IsWN (sg n1 A) 41, Is (.agg #[.bool pR, .slice aR nR cR, .int .i64 (E : Int)]), Is (.bool true), Is (.bool true), Is (.bool true), Is (.agg #[.bool n1, .slice (some ⟨gm, 0, none⟩) nA cm]), Is (.agg #[.bool n2, .slice (some ⟨gn, 0, none⟩) nB cn]), Is (.agg #[.bool n2, .slice (some ⟨gn, 0, none⟩) nB cn]), IsRow2 n2 (some ⟨gn, 0, none⟩) nB cn n2 (some ⟨gn, 0, none⟩) nB cn, IsWN ((sg n1 A) * (sg n2 B) * (sg n2 B)) 120, Is (.agg #[.bool pR, .slice aR nR cR, .int .i64 (E : Int)]), Is (.agg #[.bool pS, .slice aS nS cS, .int .i64 (G : Int)]), IsRZ ((sg n1 A) * (sg n2 B)) 160 10240, Is (.agg #[.bool pS, .slice aS nS cS, .int .i64 (G : Int)]), IsRZ ((sg n1 A) * (sg n2 B) * (sg n2 B)) 240 20480, Is (.bool true), Is (.bool true), Is (.bool true), Is (.agg #[.bool n1, .slice (some ⟨gm, 0, none⟩) nA cm]), Is (.agg #[.bool n2, .slice (some ⟨gn, 0, none⟩) nB cn]), Is (.agg #[.bool n1, .slice (some ⟨gm, 0, none⟩) nA cm]), IsRow2 n2 (some ⟨gn, 0, none⟩) nB cn n1 (some ⟨gm, 0, none⟩) nA cm, IsWN ((sg n1 A) + (sg n2 B) + (sg n1 A)) 41, Is (.agg #[.bool pR, .slice aR nR cR, .int .i64 (E : Int)]), Is (.agg #[.bool pS, .slice aS nS cS, .int .i64 (G : Int)]), IsRZ ((sg n1 A) + (sg n2 B)) 200 8960, Is (.agg #[.bool pR, .slice aR nR cR, .int .i64 (E : Int)]), IsRZ ((sg n1 A) + (sg n2 B) + (sg n1 A)) 600 28160, Is (.bool true), Is (.bool true), Is (.bool true), Is (.agg #[.bool n1, .slice (some ⟨gm, 0, none⟩) nA cm]), Is (.string (sgn ++ TA)), Is (.string sgn), Is (.slice aA nA cA), IsRN A (2 * 40), Is (.string TA), Is (.string (sgn ++ TA)), Is (.bool true), Is (.bool true), Is (.bool true), Is (.bool n1), Is (.slice (some ⟨gm, 0, none⟩) nA cm), IsWN (sg n1 A) 40, Is (.agg #[.bool pR, .slice aR nR cR, .int .i64 (E : Int)]), Is (.bool true), Is (.bool true), Is (.bool true), Is (.int .i64 v), IsWN v 1, Is (.int .i64 v), IsRZ v 2 64, Is (.bool true), Is (.bool true), Is (.bool true), Is (.slice (some ⟨gm, 0, none⟩) nA cm), Is (.slice aA nA cA), Is (.bool true), Is (.bool true), Is (.bool true), Is (.slice (some ⟨gn, 0, none⟩) nB cn), Is (.slice aB nB cB), Is (.bool true), Is (.bool true), Is (.bool true)]) (by kernel_rfl) (by kernel_rfl) (by kernel_rfl) (by kernel_rfl) (Said.keep ?keep) (hTW.below (bdn (Below.refl _ _) 1)) (l := [0, 1, 2, 3, 4, 5, 6, 7, 8, 9, 10, 11, 12, 13, 14, 15, 16, 17, 18, 19, 20, 21, 22, 23, 24, 25, 26, 27, 28, 29, 30, 31, 32, 33, 34, 35, 36, 37, 38, 39, 40, 41, 42, 43, 44, 45, 46, 47, 48, 49, 50, 51, 52, 53, 54, 55, 56, 57, 58, 59, 60, 61, 62, 63, 64, 65, 66, 67, 68, 69, 70, 71, 72, 73, 74, 75, 76, 77, 78, 79, 80, 81, 82, 83, 84, 85, 86, 87, 88, 89, 90, 91, 92, 93, 94, 95, 96, 97, 98, 99, 100, 101, 102, 103, 104, 105, 106, 107, 108, 109, 110, 111, 112, 113, 114, 115, 116]) (by kernel_rfl) ?step ?fin
        case keep =>
          refine List.forall_mem_cons.2 ⟨Is.keeps _, ?_⟩
          refine List.forall_mem_cons.2 ⟨Is.keeps _, ?_⟩
          refine List.forall_mem_cons.2 ⟨Is.keeps _, ?_⟩
          refine List.forall_mem_cons.2 ⟨Is.keeps _, ?_⟩
          refine List.forall_mem_cons.2 ⟨Is.keeps _, ?_⟩
          refine List.forall_mem_cons.2 ⟨Is.keeps _, ?_⟩
          refine List.forall_mem_cons.2 ⟨Is.keeps _, ?_⟩
          refine List.forall_mem_cons.2 ⟨Is.keeps _, ?_⟩
          refine List.forall_mem_cons.2 ⟨Is.keeps _, ?_⟩
          refine List.forall_mem_cons.2 ⟨Is.keeps _, ?_⟩
          refine List.forall_mem_cons.2 ⟨Is.keeps _, ?_⟩
          refine List.forall_mem_cons.2 ⟨Is.keeps _, ?_⟩
          refine List.forall_mem_cons.2 ⟨Is.keeps _, ?_⟩
          refine List.forall_mem_cons.2 ⟨Is.keeps _, ?_⟩
          refine List.forall_mem_cons.2 ⟨Is.keeps _, ?_⟩
          refine List.forall_mem_cons.2 ⟨Is.keeps _, ?_⟩
          refine List.forall_mem_cons.2 ⟨IsWN.keeps _ _, ?_⟩
          refine List.forall_mem_cons.2 ⟨Is.keeps _, ?_⟩
          refine List.forall_mem_cons.2 ⟨IsRZ.keeps _ _ _, ?_⟩
          refine List.forall_mem_cons.2 ⟨Is.keeps _, ?_⟩
          refine List.forall_mem_cons.2 ⟨Is.keeps _, ?_⟩
          refine List.forall_mem_cons.2 ⟨Is.keeps _, ?_⟩
          refine List.forall_mem_cons.2 ⟨Is.keeps _, ?_⟩
          refine List.forall_mem_cons.2 ⟨Is.keeps _, ?_⟩
          refine List.forall_mem_cons.2 ⟨IsRow.keeps _ _ _ _, ?_⟩
          refine List.forall_mem_cons.2 ⟨IsWN.keeps _ _, ?_⟩
          refine List.forall_mem_cons.2 ⟨Is.keeps _, ?_⟩
          refine List.forall_mem_cons.2 ⟨Is.keeps _, ?_⟩
          refine List.forall_mem_cons.2 ⟨IsRZ.keeps _ _ _, ?_⟩
          refine List.forall_mem_cons.2 ⟨Is.keeps _, ?_⟩
          refine List.forall_mem_cons.2 ⟨Is.keeps _, ?_⟩
          refine List.forall_mem_cons.2 ⟨Is.keeps _, ?_⟩
          refine List.forall_mem_cons.2 ⟨Is.keeps _, ?_⟩
          refine List.forall_mem_cons.2 ⟨Is.keeps _, ?_⟩
          refine List.forall_mem_cons.2 ⟨IsWN.keeps _ _, ?_⟩
          refine List.forall_mem_cons.2 ⟨Is.keeps _, ?_⟩
          refine List.forall_mem_cons.2 ⟨Is.keeps _, ?_⟩
          refine List.forall_mem_cons.2 ⟨IsRZ.keeps _ _ _, ?_⟩
          refine List.forall_mem_cons.2 ⟨Is.keeps _, ?_⟩
          refine List.forall_mem_cons.2 ⟨Is.keeps _, ?_⟩
          refine List.forall_mem_cons.2 ⟨Is.keeps _, ?_⟩
          refine List.forall_mem_cons.2 ⟨Is.keeps _, ?_⟩
          refine List.forall_mem_cons.2 ⟨Is.keeps _, ?_⟩
          refine List.forall_mem_cons.2 ⟨IsRow.keeps _ _ _ _, ?_⟩
          refine List.forall_mem_cons.2 ⟨IsWN.keeps _ _, ?_⟩
          refine List.forall_mem_cons.2 ⟨Is.keeps _, ?_⟩
          refine List.forall_mem_cons.2 ⟨Is.keeps _, ?_⟩
          refine List.forall_mem_cons.2 ⟨IsRZ.keeps _ _ _, ?_⟩
          refine List.forall_mem_cons.2 ⟨Is.keeps _, ?_⟩
          refine List.forall_mem_cons.2 ⟨Is.keeps _, ?_⟩
          refine List.forall_mem_cons.2 ⟨Is.keeps _, ?_⟩
          refine List.forall_mem_cons.2 ⟨Is.keeps _, ?_⟩
          refine List.forall_mem_cons.2 ⟨IsWN.keeps _ _, ?_⟩
          refine List.forall_mem_cons.2 ⟨Is.keeps _, ?_⟩
          refine List.forall_mem_cons.2 ⟨Is.keeps _, ?_⟩
          refine List.forall_mem_cons.2 ⟨Is.keeps _, ?_⟩
          refine List.forall_mem_cons.2 ⟨Is.keeps _, ?_⟩
          refine List.forall_mem_cons.2 ⟨Is.keeps _, ?_⟩
          refine List.forall_mem_cons.2 ⟨Is.keeps _, ?_⟩
          refine List.forall_mem_cons.2 ⟨Is.keeps _, ?_⟩
          refine List.forall_mem_cons.2 ⟨IsRow2.keeps _ _ _ _ _ _ _ _, ?_⟩
          refine List.forall_mem_cons.2 ⟨IsWN.keeps _ _, ?_⟩
          refine List.forall_mem_cons.2 ⟨Is.keeps _, ?_⟩
          refine List.forall_mem_cons.2 ⟨Is.keeps _, ?_⟩
          refine List.forall_mem_cons.2 ⟨IsRZ.keeps _ _ _, ?_⟩
          refine List.forall_mem_cons.2 ⟨Is.keeps _, ?_⟩
          refine List.forall_mem_cons.2 ⟨IsRZ.keeps _ _ _, ?_⟩
          refine List.forall_mem_cons.2 ⟨Is.keeps _, ?_⟩
          refine List.forall_mem_cons.2 ⟨Is.keeps _, ?_⟩
          refine List.forall_mem_cons.2 ⟨Is.keeps _, ?_⟩
          refine List.forall_mem_cons.2 ⟨Is.keeps _, ?_⟩
          refine List.forall_mem_cons.2 ⟨Is.keeps _, ?_⟩
          refine List.forall_mem_cons.2 ⟨Is.keeps _, ?_⟩
          refine List.forall_mem_cons.2 ⟨IsRow2.keeps _ _ _ _ _ _ _ _, ?_⟩
          refine List.forall_mem_cons.2 ⟨IsWN.keeps _ _, ?_⟩
          refine List.forall_mem_cons.2 ⟨Is.keeps _, ?_⟩
          refine List.forall_mem_cons.2 ⟨Is.keeps _, ?_⟩
          refine List.forall_mem_cons.2 ⟨IsRZ.keeps _ _ _, ?_⟩
          refine List.forall_mem_cons.2 ⟨Is.keeps _, ?_⟩
          refine List.forall_mem_cons.2 ⟨IsRZ.keeps _ _ _, ?_⟩
          refine List.forall_mem_cons.2 ⟨Is.keeps _, ?_⟩
          refine List.forall_mem_cons.2 ⟨Is.keeps _, ?_⟩
          refine List.forall_mem_cons.2 ⟨Is.keeps _, ?_⟩
          refine List.forall_mem_cons.2 ⟨Is.keeps _, ?_⟩
          refine List.forall_mem_cons.2 ⟨Is.keeps _, ?_⟩
          refine List.forall_mem_cons.2 ⟨Is.keeps _, ?_⟩
          refine List.forall_mem_cons.2 ⟨Is.keeps _, ?_⟩
          refine List.forall_mem_cons.2 ⟨IsRN.keeps _ _, ?_⟩
          refine List.forall_mem_cons.2 ⟨Is.keeps _, ?_⟩
          refine List.forall_mem_cons.2 ⟨Is.keeps _, ?_⟩
          refine List.forall_mem_cons.2 ⟨Is.keeps _, ?_⟩
          refine List.forall_mem_cons.2 ⟨Is.keeps _, ?_⟩
          refine List.forall_mem_cons.2 ⟨Is.keeps _, ?_⟩
          refine List.forall_mem_cons.2 ⟨Is.keeps _, ?_⟩
          refine List.forall_mem_cons.2 ⟨Is.keeps _, ?_⟩
          refine List.forall_mem_cons.2 ⟨IsWN.keeps _ _, ?_⟩
          refine List.forall_mem_cons.2 ⟨Is.keeps _, ?_⟩
          refine List.forall_mem_cons.2 ⟨Is.keeps _, ?_⟩
          refine List.forall_mem_cons.2 ⟨Is.keeps _, ?_⟩
          refine List.forall_mem_cons.2 ⟨Is.keeps _, ?_⟩
          refine List.forall_mem_cons.2 ⟨Is.keeps _, ?_⟩
          refine List.forall_mem_cons.2 ⟨IsWN.keeps _ _, ?_⟩
          refine List.forall_mem_cons.2 ⟨Is.keeps _, ?_⟩
          refine List.forall_mem_cons.2 ⟨IsRZ.keeps _ _ _, ?_⟩
          refine List.forall_mem_cons.2 ⟨Is.keeps _, ?_⟩
          refine List.forall_mem_cons.2 ⟨Is.keeps _, ?_⟩
          refine List.forall_mem_cons.2 ⟨Is.keeps _, ?_⟩
          refine List.forall_mem_cons.2 ⟨Is.keeps _, ?_⟩
          refine List.forall_mem_cons.2 ⟨Is.keeps _, ?_⟩
          refine List.forall_mem_cons.2 ⟨Is.keeps _, ?_⟩
          refine List.forall_mem_cons.2 ⟨Is.keeps _, ?_⟩
          refine List.forall_mem_cons.2 ⟨Is.keeps _, ?_⟩
          refine List.forall_mem_cons.2 ⟨Is.keeps _, ?_⟩
          refine List.forall_mem_cons.2 ⟨Is.keeps _, ?_⟩
          refine List.forall_mem_cons.2 ⟨Is.keeps _, ?_⟩
          refine List.forall_mem_cons.2 ⟨Is.keeps _, ?_⟩
          refine List.forall_mem_cons.2 ⟨Is.keeps _, ?_⟩
          exact fun _ h => nomatch h
        case step =>
          refine List.forall_mem_cons.2 ⟨?_, ?_⟩
          · refine SlotStep.plain rfl rfl rfl ?_
            intro tm ws hsame hS hg K hK
            have e13 : tm[13]? = some (.pointer (some ⟨w3.heap.size, 0, none⟩)) := hsame.2 13 rfl
            obtain ⟨k0, k1, -, -⟩ := slot2 (hS.c1)
            go_simp
            exact hK _ _ (Below.refl _ _) hS rfl
          refine List.forall_mem_cons.2 ⟨?_, ?_⟩
          · refine SlotStep.plain rfl rfl rfl ?_
            intro tm ws hsame hS hg K hK
            have e14 : tm[14]? = some (.pointer (some ⟨w3.heap.size + 1, 0, none⟩)) := hsame.2 14 rfl
            obtain ⟨k0, k1, -, -⟩ := slot2 (hS.c2)
            go_simp
            exact hK _ _ (Below.refl _ _) hS rfl
          refine List.forall_mem_cons.2 ⟨?_, ?_⟩
          · refine SlotStep.plain rfl rfl rfl ?_
            intro tm ws hsame hS hg K hK
            obtain ⟨v108, e108, rfl⟩ := hg 0 (by kernel_rfl) _ 108 rfl rfl
            obtain ⟨v109, e109, rfl⟩ := hg 1 (by kernel_rfl) _ 109 rfl rfl
            go_simp
            refine (cmpw_num n1 n2 hS.a hS.b (by decide) (by decide)).mono ?_
            rintro e wm ⟨rfl, hb⟩
            exact hK _ _ hb (((hS).below (hb))) rfl
          refine List.forall_mem_cons.2 ⟨?_, ?_⟩
          · refine SlotStep.plain rfl rfl rfl ?_
            intro tm ws hsame hS hg K hK
            have e15 : tm[15]? = some (.pointer (some ⟨gp, 0, none⟩)) := hsame.2 15 rfl
            obtain ⟨⟨k0, k1, k2⟩, -⟩ := slot3 (hS.c3)
            go_simp
            exact hK _ _ (Below.refl _ _) hS rfl
          refine List.forall_mem_cons.2 ⟨?_, ?_⟩
          · refine SlotStep.plain rfl rfl rfl ?_
            intro tm ws hsame hS hg K hK
            have e16 : tm[16]? = some (.pointer (some ⟨gq, 0, none⟩)) := hsame.2 16 rfl
            obtain ⟨⟨k0, k1, k2⟩, -⟩ := slot3 (hS.c4)
            go_simp
            exact hK _ _ (Below.refl _ _) hS rfl
          refine List.forall_mem_cons.2 ⟨?_, ?_⟩
          · refine SlotStep.plain rfl rfl rfl ?_
            intro tm ws hsame hS hg K hK
            obtain ⟨v111, e111, rfl⟩ := hg 3 (by kernel_rfl) _ 111 rfl rfl
            obtain ⟨v112, e112, rfl⟩ := hg 4 (by kernel_rfl) _ 112 rfl rfl
            go_simp
            refine (rzcmp_num 300 hS.x hS.y (by decide) (by decide) (by decide) (by decide) (by decide)).mono ?_
            rintro e wm ⟨rfl, hb⟩
            exact hK _ _ hb (((hS).below (hb))) rfl
          refine List.forall_mem_cons.2 ⟨?_, ?_⟩
          · refine SlotStep.plain rfl rfl rfl ?_
            intro tm ws hsame hS hg K hK
            obtain ⟨v110, e110, rfl⟩ := hg 2 (by kernel_rfl) _ 110 rfl rfl
            obtain ⟨v113, e113, rfl⟩ := hg 5 (by kernel_rfl) _ 113 rfl rfl
            go_simp
            exact hK _ _ (Below.refl _ _) hS (by first | rfl | exact congrArg Value.bool (by simp))
          refine List.forall_mem_cons.2 ⟨?_, ?_⟩
          · refine SlotStep.plain rfl rfl rfl ?_
            intro tm ws hsame hS hg K hK
            obtain ⟨v114, e114, rfl⟩ := hg 6 (by kernel_rfl) _ 114 rfl rfl
            go_simp
            exact hK _ _ (Below.refl _ _) hS rfl
          refine List.forall_mem_cons.2 ⟨?_, ?_⟩
          · refine SlotStep.guarded rfl rfl 7 rfl rfl (by kernel_rfl) (fun _ _ h => h) ?_
            intro tm ws hsame hS hg K hK
            have e13 : tm[13]? = some (.pointer (some ⟨w3.heap.size, 0, none⟩)) := hsame.2 13 rfl
            obtain ⟨k0, k1, -, -⟩ := slot2 (hS.c1)
            go_simp
            exact hK _ _ (Below.refl _ _) hS rfl
          refine List.forall_mem_cons.2 ⟨?_, ?_⟩
          · refine SlotStep.guarded rfl rfl 7 rfl rfl (by kernel_rfl) (fun _ _ h => h) ?_
            intro tm ws hsame hS hg K hK
            obtain ⟨v116, e116, rfl⟩ := hg 8 (by kernel_rfl) _ 116 rfl rfl
            go_simp
            refine (sign_num n1 hS.a (by decide)).mono ?_
            rintro e wm ⟨rfl, hb⟩
            exact hK _ _ hb (((hS).below (hb))) rfl
          refine List.forall_mem_cons.2 ⟨?_, ?_⟩
          · refine SlotStep.guarded rfl rfl 7 rfl rfl (by kernel_rfl) (fun _ _ h => h) ?_
            intro tm ws hsame hS hg K hK
            have e15 : tm[15]? = some (.pointer (some ⟨gp, 0, none⟩)) := hsame.2 15 rfl
            obtain ⟨⟨k0, k1, k2⟩, -⟩ := slot3 (hS.c3)
            go_simp
            exact hK _ _ (Below.refl _ _) hS rfl
          refine List.forall_mem_cons.2 ⟨?_, ?_⟩
          · refine SlotStep.guarded rfl rfl 7 rfl rfl (by kernel_rfl) (fun _ _ h => h) ?_
            intro tm ws hsame hS hg K hK
            obtain ⟨v118, e118, rfl⟩ := hg 10 (by kernel_rfl) _ 118 rfl rfl
            go_simp
            refine (rsign_num hS.x).mono ?_
            rintro e wm ⟨rfl, hb⟩
            exact hK _ _ hb (((hS).below (hb))) rfl
          refine List.forall_mem_cons.2 ⟨?_, ?_⟩
          · refine SlotStep.guarded rfl rfl 7 rfl rfl (by kernel_rfl) (fun _ _ h => h) ?_
            intro tm ws hsame hS hg K hK
            obtain ⟨v117, e117, rfl⟩ := hg 9 (by kernel_rfl) _ 117 rfl rfl
            obtain ⟨v119, e119, rfl⟩ := hg 11 (by kernel_rfl) _ 119 rfl rfl
            go_simp
            exact hK _ _ (Below.refl _ _) hS (by first | rfl | exact congrArg Value.bool (by simp))
          refine List.forall_mem_cons.2 ⟨?_, ?_⟩
          · refine SlotStep.plain rfl rfl rfl ?_
            intro tm ws hsame hS hg K hK
            obtain ⟨v115, e115, rfl⟩ := hg 7 (by kernel_rfl) _ 115 rfl rfl
            obtain ⟨v120, e120, rfl⟩ := hg 12 (by kernel_rfl) _ 120 rfl rfl
            go_simp
            exact hK _ _ (Below.refl _ _) hS rfl
          refine List.forall_mem_cons.2 ⟨?_, ?_⟩
          · refine SlotStep.plain rfl rfl rfl ?_
            intro tm ws hsame hS hg K hK
            obtain ⟨v121, e121, rfl⟩ := hg 13 (by kernel_rfl) _ 121 rfl rfl
            go_simp
            exact hK _ _ (Below.refl _ _) hS rfl
          refine List.forall_mem_cons.2 ⟨?_, ?_⟩
          · refine SlotStep.guarded rfl rfl 14 rfl rfl (by kernel_rfl) (fun _ _ h => h) ?_
            intro tm ws hsame hS hg K hK
            have e13 : tm[13]? = some (.pointer (some ⟨w3.heap.size, 0, none⟩)) := hsame.2 13 rfl
            obtain ⟨k0, k1, -, -⟩ := slot2 (hS.c1)
            go_simp
            exact hK _ _ (Below.refl _ _) hS rfl
          refine List.forall_mem_cons.2 ⟨?_, ?_⟩
          · refine SlotStep.guarded rfl rfl 14 rfl rfl (by kernel_rfl) (fun _ _ h => h) ?_
            intro tm ws hsame hS hg K hK
            obtain ⟨v123, e123, rfl⟩ := hg 15 (by kernel_rfl) _ 123 rfl rfl
            go_simp
            refine (not_num n1 hS.a (by decide)).mono ?_
            intro e wm hw
            obtain ⟨vR, rfl, hR, hb⟩ := hw.wn
            exact hK _ _ hb (((hS).below (hb))) hR
          refine List.forall_mem_cons.2 ⟨?_, ?_⟩
          · refine SlotStep.guarded rfl rfl 14 rfl rfl (by kernel_rfl) (fun _ _ h => h) ?_
            intro tm ws hsame hS hg K hK
            have e15 : tm[15]? = some (.pointer (some ⟨gp, 0, none⟩)) := hsame.2 15 rfl
            obtain ⟨⟨k0, k1, k2⟩, -⟩ := slot3 (hS.c3)
            go_simp
            exact hK _ _ (Below.refl _ _) hS rfl
          refine List.forall_mem_cons.2 ⟨?_, ?_⟩
          · refine SlotStep.guarded rfl rfl 14 rfl rfl (by kernel_rfl) (fun _ _ h => h) ?_
            intro tm ws hsame hS hg K hK
            obtain ⟨v125, e125, rfl⟩ := hg 17 (by kernel_rfl) _ 125 rfl rfl
            go_simp
            refine (rnot_num hS.x (by decide) (by decide)).mono ?_
            rintro e wm ⟨pT, aT, nT, cT, ET, rfl, hT2, hb⟩
            exact hK _ _ hb (((hS).below (hb))) ⟨pT, aT, nT, cT, ET, rfl, hT2⟩
          refine List.forall_mem_cons.2 ⟨?_, ?_⟩
          · refine SlotStep.guarded rfl rfl 14 rfl rfl (by kernel_rfl) (fun _ _ h => h) ?_
            intro tm ws hsame hS hg K hK
            obtain ⟨v124, e124, g124⟩ := hg 16 (by kernel_rfl) _ 124 rfl rfl
            obtain ⟨v126, e126, ⟨p126, a126, n126, c126, E126, rfl, g126⟩⟩ := hg 18 (by kernel_rfl) _ 126 rfl rfl
            go_simp
            refine (isw_num 400 g124 g126 (by decide) (by decide) (by decide) (by decide) (by decide)).mono ?_
            rintro e wm ⟨rfl, hb⟩
            exact hK _ _ hb (((hS).below (hb))) rfl
          refine List.forall_mem_cons.2 ⟨?_, ?_⟩
          · refine SlotStep.plain rfl rfl rfl ?_
            intro tm ws hsame hS hg K hK
            obtain ⟨v122, e122, rfl⟩ := hg 14 (by kernel_rfl) _ 122 rfl rfl
            obtain ⟨v127, e127, rfl⟩ := hg 19 (by kernel_rfl) _ 127 rfl rfl
            go_simp
            exact hK _ _ (Below.refl _ _) hS rfl
          refine List.forall_mem_cons.2 ⟨?_, ?_⟩
          · refine SlotStep.plain rfl rfl rfl ?_
            intro tm ws hsame hS hg K hK
            obtain ⟨v128, e128, rfl⟩ := hg 20 (by kernel_rfl) _ 128 rfl rfl
            go_simp
            exact hK _ _ (Below.refl _ _) hS rfl
          refine List.forall_mem_cons.2 ⟨?_, ?_⟩
          · refine SlotStep.guarded rfl rfl 21 rfl rfl (by kernel_rfl) (fun _ _ h => h) ?_
            intro tm ws hsame hS hg K hK
            have e13 : tm[13]? = some (.pointer (some ⟨w3.heap.size, 0, none⟩)) := hsame.2 13 rfl
            obtain ⟨k0, k1, -, -⟩ := slot2 (hS.c1)
            go_simp
            exact hK _ _ (Below.refl _ _) hS rfl
          refine List.forall_mem_cons.2 ⟨?_, ?_⟩
          · refine SlotStep.guarded rfl rfl 21 rfl rfl (by kernel_rfl) (fun _ _ h => h) ?_
            intro tm ws hsame hS hg K hK
            have e14 : tm[14]? = some (.pointer (some ⟨w3.heap.size + 1, 0, none⟩)) := hsame.2 14 rfl
            obtain ⟨k0, k1, -, -⟩ := slot2 (hS.c2)
            go_simp
            exact hK _ _ (Below.refl _ _) hS rfl
          refine List.forall_mem_cons.2 ⟨?_, ?_⟩
          · refine SlotStep.guarded rfl rfl 21 rfl rfl (by kernel_rfl) (fun _ _ h => h) ?_
            intro tm ws hsame hS hg K hK
            obtain ⟨v131, e131, rfl⟩ := hg 23 (by kernel_rfl) _ 131 rfl rfl
            go_simp
            exact hK _ _ (below_alloc _ _) (hS.below (below_alloc _ _)) ⟨_, rfl, new_cell.1, new_cell.2⟩
          refine List.forall_mem_cons.2 ⟨?_, ?_⟩
          · refine SlotStep.guarded rfl rfl 21 rfl rfl (by kernel_rfl) (fun _ _ h => h) ?_
            intro tm ws hsame hS hg K hK
            obtain ⟨v130, e130, rfl⟩ := hg 22 (by kernel_rfl) _ 130 rfl rfl
            obtain ⟨v132, e132, ⟨b132, rfl, x132, y132⟩⟩ := hg 24 (by kernel_rfl) _ 132 rfl rfl
            go_simp
            refine (addw1_in n1 n2 x132 y132 hS.a hS.b (by decide)).mono ?_
            intro e wm hw
            obtain ⟨vR, rfl, hR, hb⟩ := hw.wn
            exact hK _ _ hb (((hS).below (hb))) hR
          refine List.forall_mem_cons.2 ⟨?_, ?_⟩
          · refine SlotStep.guarded rfl rfl 21 rfl rfl (by kernel_rfl) (fun _ _ h => h) ?_
            intro tm ws hsame hS hg K hK
            have e15 : tm[15]? = some (.pointer (some ⟨gp, 0, none⟩)) := hsame.2 15 rfl
            obtain ⟨⟨k0, k1, k2⟩, -⟩ := slot3 (hS.c3)
            go_simp
            exact hK _ _ (Below.refl _ _) hS rfl
          refine List.forall_mem_cons.2 ⟨?_, ?_⟩
          · refine SlotStep.guarded rfl rfl 21 rfl rfl (by kernel_rfl) (fun _ _ h => h) ?_
            intro tm ws hsame hS hg K hK
            have e16 : tm[16]? = some (.pointer (some ⟨gq, 0, none⟩)) := hsame.2 16 rfl
            obtain ⟨⟨k0, k1, k2⟩, -⟩ := slot3 (hS.c4)
            go_simp
            exact hK _ _ (Below.refl _ _) hS rfl
          refine List.forall_mem_cons.2 ⟨?_, ?_⟩
          · refine SlotStep.guarded rfl rfl 21 rfl rfl (by kernel_rfl) (fun _ _ h => h) ?_
            intro tm ws hsame hS hg K hK
            obtain ⟨v134, e134, rfl⟩ := hg 26 (by kernel_rfl) _ 134 rfl rfl
            obtain ⟨v135, e135, rfl⟩ := hg 27 (by kernel_rfl) _ 135 rfl rfl
            go_simp
            refine (rzadd_num 200 8960 hS.x hS.y (by decide) (by decide) (by decide) (by decide) (by decide) (by decide) (by decide)).mono ?_
            rintro e wm ⟨pT, aT, nT, cT, ET, rfl, hT2, hb⟩
            exact hK _ _ hb (((hS).below (hb))) ⟨pT, aT, nT, cT, ET, rfl, hT2⟩
          refine List.forall_mem_cons.2 ⟨?_, ?_⟩
          · refine SlotStep.guarded rfl rfl 21 rfl rfl (by kernel_rfl) (fun _ _ h => h) ?_
            intro tm ws hsame hS hg K hK
            obtain ⟨v133, e133, g133⟩ := hg 25 (by kernel_rfl) _ 133 rfl rfl
            obtain ⟨v136, e136, ⟨p136, a136, n136, c136, E136, rfl, g136⟩⟩ := hg 28 (by kernel_rfl) _ 136 rfl rfl
            go_simp
            refine (isw_num 700 g133 g136 (by decide) (by decide) (by decide) (by decide) (by decide)).mono ?_
            rintro e wm ⟨rfl, hb⟩
            exact hK _ _ hb (((hS).below (hb))) rfl
          refine List.forall_mem_cons.2 ⟨?_, ?_⟩
          · refine SlotStep.plain rfl rfl rfl ?_
            intro tm ws hsame hS hg K hK
            obtain ⟨v129, e129, rfl⟩ := hg 21 (by kernel_rfl) _ 129 rfl rfl
            obtain ⟨v137, e137, rfl⟩ := hg 29 (by kernel_rfl) _ 137 rfl rfl
            go_simp
            exact hK _ _ (Below.refl _ _) hS rfl
          refine List.forall_mem_cons.2 ⟨?_, ?_⟩
          · refine SlotStep.plain rfl rfl rfl ?_
            intro tm ws hsame hS hg K hK
            obtain ⟨v138, e138, rfl⟩ := hg 30 (by kernel_rfl) _ 138 rfl rfl
            go_simp
            exact hK _ _ (Below.refl _ _) hS rfl
          refine List.forall_mem_cons.2 ⟨?_, ?_⟩
          · refine SlotStep.guarded rfl rfl 31 rfl rfl (by kernel_rfl) (fun _ _ h => h) ?_
            intro tm ws hsame hS hg K hK
            have e13 : tm[13]? = some (.pointer (some ⟨w3.heap.size, 0, none⟩)) := hsame.2 13 rfl
            obtain ⟨k0, k1, -, -⟩ := slot2 (hS.c1)
            go_simp
            exact hK _ _ (Below.refl _ _) hS rfl
          refine List.forall_mem_cons.2 ⟨?_, ?_⟩
          · refine SlotStep.guarded rfl rfl 31 rfl rfl (by kernel_rfl) (fun _ _ h => h) ?_
            intro tm ws hsame hS hg K hK
            have e14 : tm[14]? = some (.pointer (some ⟨w3.heap.size + 1, 0, none⟩)) := hsame.2 14 rfl
            obtain ⟨k0, k1, -, -⟩ := slot2 (hS.c2)
            go_simp
            exact hK _ _ (Below.refl _ _) hS rfl
          refine List.forall_mem_cons.2 ⟨?_, ?_⟩
          · refine SlotStep.guarded rfl rfl 31 rfl rfl (by kernel_rfl) (fun _ _ h => h) ?_
            intro tm ws hsame hS hg K hK
            obtain ⟨v140, e140, rfl⟩ := hg 32 (by kernel_rfl) _ 140 rfl rfl
            obtain ⟨v141, e141, rfl⟩ := hg 33 (by kernel_rfl) _ 141 rfl rfl
            go_simp
            refine (subw_num n1 n2 hS.a hS.b (by decide)).mono ?_
            intro e wm hw
            obtain ⟨vR, rfl, hR, hb⟩ := hw.wn
            exact hK _ _ hb (((hS).below (hb))) hR
          refine List.forall_mem_cons.2 ⟨?_, ?_⟩
          · refine SlotStep.guarded rfl rfl 31 rfl rfl (by kernel_rfl) (fun _ _ h => h) ?_
            intro tm ws hsame hS hg K hK
            have e15 : tm[15]? = some (.pointer (some ⟨gp, 0, none⟩)) := hsame.2 15 rfl
            obtain ⟨⟨k0, k1, k2⟩, -⟩ := slot3 (hS.c3)
            go_simp
            exact hK _ _ (Below.refl _ _) hS rfl
          refine List.forall_mem_cons.2 ⟨?_, ?_⟩
          · refine SlotStep.guarded rfl rfl 31 rfl rfl (by kernel_rfl) (fun _ _ h => h) ?_
            intro tm ws hsame hS hg K hK
            have e16 : tm[16]? = some (.pointer (some ⟨gq, 0, none⟩)) := hsame.2 16 rfl
            obtain ⟨⟨k0, k1, k2⟩, -⟩ := slot3 (hS.c4)
            go_simp
            exact hK _ _ (Below.refl _ _) hS rfl
          refine List.forall_mem_cons.2 ⟨?_, ?_⟩
          · refine SlotStep.guarded rfl rfl 31 rfl rfl (by kernel_rfl) (fun _ _ h => h) ?_
            intro tm ws hsame hS hg K hK
            obtain ⟨v143, e143, rfl⟩ := hg 35 (by kernel_rfl) _ 143 rfl rfl
            obtain ⟨v144, e144, rfl⟩ := hg 36 (by kernel_rfl) _ 144 rfl rfl
            go_simp
            refine (rzsub_num 300 14720 hS.x hS.y (by decide) (by decide) (by decide) (by decide) (by decide) (by decide) (by decide)).mono ?_
            rintro e wm ⟨pT, aT, nT, cT, ET, rfl, hT2, hb⟩
            exact hK _ _ hb (((hS).below (hb))) ⟨pT, aT, nT, cT, ET, rfl, hT2⟩
          refine List.forall_mem_cons.2 ⟨?_, ?_⟩
          · refine SlotStep.guarded rfl rfl 31 rfl rfl (by kernel_rfl) (fun _ _ h => h) ?_
            intro tm ws hsame hS hg K hK
            obtain ⟨v142, e142, g142⟩ := hg 34 (by kernel_rfl) _ 142 rfl rfl
            obtain ⟨v145, e145, ⟨p145, a145, n145, c145, E145, rfl, g145⟩⟩ := hg 37 (by kernel_rfl) _ 145 rfl rfl
            go_simp
            refine (isw_num 1100 g142 g145 (by decide) (by decide) (by decide) (by decide) (by decide)).mono ?_
            rintro e wm ⟨rfl, hb⟩
            exact hK _ _ hb (((hS).below (hb))) rfl
          refine List.forall_mem_cons.2 ⟨?_, ?_⟩
          · refine SlotStep.plain rfl rfl rfl ?_
            intro tm ws hsame hS hg K hK
            obtain ⟨v139, e139, rfl⟩ := hg 31 (by kernel_rfl) _ 139 rfl rfl
            obtain ⟨v146, e146, rfl⟩ := hg 38 (by kernel_rfl) _ 146 rfl rfl
            go_simp
            exact hK _ _ (Below.refl _ _) hS rfl
          refine List.forall_mem_cons.2 ⟨?_, ?_⟩
          · refine SlotStep.plain rfl rfl rfl ?_
            intro tm ws hsame hS hg K hK
            obtain ⟨v147, e147, rfl⟩ := hg 39 (by kernel_rfl) _ 147 rfl rfl
            go_simp
            exact hK _ _ (Below.refl _ _) hS rfl
          refine List.forall_mem_cons.2 ⟨?_, ?_⟩
          · refine SlotStep.guarded rfl rfl 40 rfl rfl (by kernel_rfl) (fun _ _ h => h) ?_
            intro tm ws hsame hS hg K hK
            have e13 : tm[13]? = some (.pointer (some ⟨w3.heap.size, 0, none⟩)) := hsame.2 13 rfl
            obtain ⟨k0, k1, -, -⟩ := slot2 (hS.c1)
            go_simp
            exact hK _ _ (Below.refl _ _) hS rfl
          refine List.forall_mem_cons.2 ⟨?_, ?_⟩
          · refine SlotStep.guarded rfl rfl 40 rfl rfl (by kernel_rfl) (fun _ _ h => h) ?_
            intro tm ws hsame hS hg K hK
            have e14 : tm[14]? = some (.pointer (some ⟨w3.heap.size + 1, 0, none⟩)) := hsame.2 14 rfl
            obtain ⟨k0, k1, -, -⟩ := slot2 (hS.c2)
            go_simp
            exact hK _ _ (Below.refl _ _) hS rfl
          refine List.forall_mem_cons.2 ⟨?_, ?_⟩
          · refine SlotStep.guarded rfl rfl 40 rfl rfl (by kernel_rfl) (fun _ _ h => h) ?_
            intro tm ws hsame hS hg K hK
            obtain ⟨v150, e150, rfl⟩ := hg 42 (by kernel_rfl) _ 150 rfl rfl
            go_simp
            exact hK _ _ (below_alloc _ _) (hS.below (below_alloc _ _)) ⟨_, rfl, new_cell.1, new_cell.2⟩
          refine List.forall_mem_cons.2 ⟨?_, ?_⟩
          · refine SlotStep.guarded rfl rfl 40 rfl rfl (by kernel_rfl) (fun _ _ h => h) ?_
            intro tm ws hsame hS hg K hK
            obtain ⟨v149, e149, rfl⟩ := hg 41 (by kernel_rfl) _ 149 rfl rfl
            obtain ⟨v151, e151, ⟨b151, rfl, x151, y151⟩⟩ := hg 43 (by kernel_rfl) _ 151 rfl rfl
            go_simp
            refine (mulw1_in n1 n2 x151 y151 hS.a hS.b (by decide)).mono ?_
            intro e wm hw
            obtain ⟨vR, rfl, hR, hb⟩ := hw.wn
            exact hK _ _ hb (((hS).below (hb))) hR
          refine List.forall_mem_cons.2 ⟨?_, ?_⟩
          · refine SlotStep.guarded rfl rfl 40 rfl rfl (by kernel_rfl) (fun _ _ h => h) ?_
            intro tm ws hsame hS hg K hK
            have e15 : tm[15]? = some (.pointer (some ⟨gp, 0, none⟩)) := hsame.2 15 rfl
            obtain ⟨⟨k0, k1, k2⟩, -⟩ := slot3 (hS.c3)
            go_simp
            exact hK _ _ (Below.refl _ _) hS rfl
          refine List.forall_mem_cons.2 ⟨?_, ?_⟩
          · refine SlotStep.guarded rfl rfl 40 rfl rfl (by kernel_rfl) (fun _ _ h => h) ?_
            intro tm ws hsame hS hg K hK
            have e16 : tm[16]? = some (.pointer (some ⟨gq, 0, none⟩)) := hsame.2 16 rfl
            obtain ⟨⟨k0, k1, k2⟩, -⟩ := slot3 (hS.c4)
            go_simp
            exact hK _ _ (Below.refl _ _) hS rfl
          refine List.forall_mem_cons.2 ⟨?_, ?_⟩
          · refine SlotStep.guarded rfl rfl 40 rfl rfl (by kernel_rfl) (fun _ _ h => h) ?_
            intro tm ws hsame hS hg K hK
            obtain ⟨v153, e153, rfl⟩ := hg 45 (by kernel_rfl) _ 153 rfl rfl
            obtain ⟨v154, e154, rfl⟩ := hg 46 (by kernel_rfl) _ 154 rfl rfl
            go_simp
            refine (rzmul_num hS.x hS.y (by decide) (by decide) (by decide) (by decide)).mono ?_
            rintro e wm ⟨pT, aT, nT, cT, ET, rfl, hT2, hb⟩
            exact hK _ _ hb (((hS).below (hb))) ⟨pT, aT, nT, cT, ET, rfl, hT2⟩
          refine List.forall_mem_cons.2 ⟨?_, ?_⟩
          · refine SlotStep.guarded rfl rfl 40 rfl rfl (by kernel_rfl) (fun _ _ h => h) ?_
            intro tm ws hsame hS hg K hK
            obtain ⟨v152, e152, g152⟩ := hg 44 (by kernel_rfl) _ 152 rfl rfl
            obtain ⟨v155, e155, ⟨p155, a155, n155, c155, E155, rfl, g155⟩⟩ := hg 47 (by kernel_rfl) _ 155 rfl rfl
            go_simp
            refine (isw_num 700 g152 g155 (by decide) (by decide) (by decide) (by decide) (by decide)).mono ?_
            rintro e wm ⟨rfl, hb⟩
            exact hK _ _ hb (((hS).below (hb))) rfl
          refine List.forall_mem_cons.2 ⟨?_, ?_⟩
          · refine SlotStep.plain rfl rfl rfl ?_
            intro tm ws hsame hS hg K hK
            obtain ⟨v148, e148, rfl⟩ := hg 40 (by kernel_rfl) _ 148 rfl rfl
            obtain ⟨v156, e156, rfl⟩ := hg 48 (by kernel_rfl) _ 156 rfl rfl
            go_simp
            exact hK _ _ (Below.refl _ _) hS rfl
          refine List.forall_mem_cons.2 ⟨?_, ?_⟩
          · refine SlotStep.plain rfl rfl rfl ?_
            intro tm ws hsame hS hg K hK
            obtain ⟨v157, e157, rfl⟩ := hg 49 (by kernel_rfl) _ 157 rfl rfl
            go_simp
            exact hK _ _ (Below.refl _ _) hS rfl
          refine List.forall_mem_cons.2 ⟨?_, ?_⟩
          · refine SlotStep.guarded rfl rfl 50 rfl rfl (by kernel_rfl) (fun _ _ h => h) ?_
            intro tm ws hsame hS hg K hK
            have e13 : tm[13]? = some (.pointer (some ⟨w3.heap.size, 0, none⟩)) := hsame.2 13 rfl
            obtain ⟨k0, k1, -, -⟩ := slot2 (hS.c1)
            go_simp
            exact hK _ _ (Below.refl _ _) hS rfl
          refine List.forall_mem_cons.2 ⟨?_, ?_⟩
          · refine SlotStep.guarded rfl rfl 50 rfl rfl (by kernel_rfl) (fun _ _ h => h) ?_
            intro tm ws hsame hS hg K hK
            obtain ⟨v159, e159, rfl⟩ := hg 51 (by kernel_rfl) _ 159 rfl rfl
            go_simp
            refine (addw0_in n1 hS.a (by decide)).mono ?_
            intro e wm hw
            obtain ⟨vR, rfl, hR, hb⟩ := hw.wn
            exact hK _ _ hb (((hS).below (hb))) hR
          refine List.forall_mem_cons.2 ⟨?_, ?_⟩
          · refine SlotStep.guarded rfl rfl 50 rfl rfl (by kernel_rfl) (fun _ _ h => h) ?_
            intro tm ws hsame hS hg K hK
            have e15 : tm[15]? = some (.pointer (some ⟨gp, 0, none⟩)) := hsame.2 15 rfl
            obtain ⟨⟨k0, k1, k2⟩, -⟩ := slot3 (hS.c3)
            go_simp
            exact hK _ _ (Below.refl _ _) hS rfl
          refine List.forall_mem_cons.2 ⟨?_, ?_⟩
          · refine SlotStep.guarded rfl rfl 50 rfl rfl (by kernel_rfl) (fun _ _ h => h) ?_
            intro tm ws hsame hS hg K hK
            obtain ⟨v160, e160, g160⟩ := hg 52 (by kernel_rfl) _ 160 rfl rfl
            obtain ⟨v161, e161, rfl⟩ := hg 53 (by kernel_rfl) _ 161 rfl rfl
            go_simp
            refine (isw_num 300 g160 hS.x (by decide) (by decide) (by decide) (by decide) (by decide)).mono ?_
            rintro e wm ⟨rfl, hb⟩
            exact hK _ _ hb (((hS).below (hb))) rfl
          refine List.forall_mem_cons.2 ⟨?_, ?_⟩
          · refine SlotStep.plain rfl rfl rfl ?_
            intro tm ws hsame hS hg K hK
            obtain ⟨v158, e158, rfl⟩ := hg 50 (by kernel_rfl) _ 158 rfl rfl
            obtain ⟨v162, e162, rfl⟩ := hg 54 (by kernel_rfl) _ 162 rfl rfl
            go_simp
            exact hK _ _ (Below.refl _ _) hS rfl
          refine List.forall_mem_cons.2 ⟨?_, ?_⟩
          · refine SlotStep.plain rfl rfl rfl ?_
            intro tm ws hsame hS hg K hK
            obtain ⟨v163, e163, rfl⟩ := hg 55 (by kernel_rfl) _ 163 rfl rfl
            go_simp
            exact hK _ _ (Below.refl _ _) hS rfl
          refine List.forall_mem_cons.2 ⟨?_, ?_⟩
          · refine SlotStep.guarded rfl rfl 56 rfl rfl (by kernel_rfl) (fun _ _ h => h) ?_
            intro tm ws hsame hS hg K hK
            have e13 : tm[13]? = some (.pointer (some ⟨w3.heap.size, 0, none⟩)) := hsame.2 13 rfl
            obtain ⟨k0, k1, -, -⟩ := slot2 (hS.c1)
            go_simp
            exact hK _ _ (Below.refl _ _) hS rfl
          refine List.forall_mem_cons.2 ⟨?_, ?_⟩
          · refine SlotStep.guarded rfl rfl 56 rfl rfl (by kernel_rfl) (fun _ _ h => h) ?_
            intro tm ws hsame hS hg K hK
            have e14 : tm[14]? = some (.pointer (some ⟨w3.heap.size + 1, 0, none⟩)) := hsame.2 14 rfl
            obtain ⟨k0, k1, -, -⟩ := slot2 (hS.c2)
            go_simp
            exact hK _ _ (Below.refl _ _) hS rfl
          refine List.forall_mem_cons.2 ⟨?_, ?_⟩
          · refine SlotStep.guarded rfl rfl 56 rfl rfl (by kernel_rfl) (fun _ _ h => h) ?_
            intro tm ws hsame hS hg K hK
            have e14 : tm[14]? = some (.pointer (some ⟨w3.heap.size + 1, 0, none⟩)) := hsame.2 14 rfl
            obtain ⟨k0, k1, -, -⟩ := slot2 (hS.c2)
            go_simp
            exact hK _ _ (Below.refl _ _) hS rfl
          refine List.forall_mem_cons.2 ⟨?_, ?_⟩
          · refine SlotStep.guarded rfl rfl 56 rfl rfl (by kernel_rfl) (fun _ _ h => h) ?_
            intro tm ws hsame hS hg K hK
            obtain ⟨v166, e166, rfl⟩ := hg 58 (by kernel_rfl) _ 166 rfl rfl
            obtain ⟨v167, e167, rfl⟩ := hg 59 (by kernel_rfl) _ 167 rfl rfl
            go_simp
            exact hK _ _ (below_alloc _ _) (hS.below (below_alloc _ _)) ⟨_, rfl, new_cell4.1, new_cell4.2.1, new_cell4.2.2.1, new_cell4.2.2.2⟩
          refine List.forall_mem_cons.2 ⟨?_, ?_⟩
          · refine SlotStep.guarded rfl rfl 56 rfl rfl (by kernel_rfl) (fun _ _ h => h) ?_
            intro tm ws hsame hS hg K hK
            obtain ⟨v165, e165, rfl⟩ := hg 57 (by kernel_rfl) _ 165 rfl rfl
            obtain ⟨v168, e168, ⟨b168, rfl, x168, y168, s168, u168⟩⟩ := hg 60 (by kernel_rfl) _ 168 rfl rfl
            go_simp
            refine (mulw2_in n1 n2 n2 x168 y168 s168 u168 hS.a hS.b hS.b (by decide)).mono ?_
            intro e wm hw
            obtain ⟨vR, rfl, hR, hb⟩ := hw.wn
            exact hK _ _ hb (((hS).below (hb))) hR
          refine List.forall_mem_cons.2 ⟨?_, ?_⟩
          · refine SlotStep.guarded rfl rfl 56 rfl rfl (by kernel_rfl) (fun _ _ h => h) ?_
            intro tm ws hsame hS hg K hK
            have e15 : tm[15]? = some (.pointer (some ⟨gp, 0, none⟩)) := hsame.2 15 rfl
            obtain ⟨⟨k0, k1, k2⟩, -⟩ := slot3 (hS.c3)
            go_simp
            exact hK _ _ (Below.refl _ _) hS rfl
          refine List.forall_mem_cons.2 ⟨?_, ?_⟩
          · refine SlotStep.guarded rfl rfl 56 rfl rfl (by kernel_rfl) (fun _ _ h => h) ?_
            intro tm ws hsame hS hg K hK
            have e16 : tm[16]? = some (.pointer (some ⟨gq, 0, none⟩)) := hsame.2 16 rfl
            obtain ⟨⟨k0, k1, k2⟩, -⟩ := slot3 (hS.c4)
            go_simp
            exact hK _ _ (Below.refl _ _) hS rfl
          refine List.forall_mem_cons.2 ⟨?_, ?_⟩
          · refine SlotStep.guarded rfl rfl 56 rfl rfl (by kernel_rfl) (fun _ _ h => h) ?_
            intro tm ws hsame hS hg K hK
            obtain ⟨v170, e170, rfl⟩ := hg 62 (by kernel_rfl) _ 170 rfl rfl
            obtain ⟨v171, e171, rfl⟩ := hg 63 (by kernel_rfl) _ 171 rfl rfl
            go_simp
            refine (rzmul_num hS.x hS.y (by decide) (by decide) (by decide) (by decide)).mono ?_
            rintro e wm ⟨pT, aT, nT, cT, ET, rfl, hT2, hb⟩
            exact hK _ _ hb (((hS).below (hb))) ⟨pT, aT, nT, cT, ET, rfl, hT2⟩
          refine List.forall_mem_cons.2 ⟨?_, ?_⟩
          · refine SlotStep.guarded rfl rfl 56 rfl rfl (by kernel_rfl) (fun _ _ h => h) ?_
            intro tm ws hsame hS hg K hK
            have e16 : tm[16]? = some (.pointer (some ⟨gq, 0, none⟩)) := hsame.2 16 rfl
            obtain ⟨⟨k0, k1, k2⟩, -⟩ := slot3 (hS.c4)
            go_simp
            exact hK _ _ (Below.refl _ _) hS rfl
          refine List.forall_mem_cons.2 ⟨?_, ?_⟩
          · refine SlotStep.guarded rfl rfl 56 rfl rfl (by kernel_rfl) (fun _ _ h => h) ?_
            intro tm ws hsame hS hg K hK
            obtain ⟨v172, e172, ⟨p172, a172, n172, c172, E172, rfl, g172⟩⟩ := hg 64 (by kernel_rfl) _ 172 rfl rfl
            obtain ⟨v173, e173, rfl⟩ := hg 65 (by kernel_rfl) _ 173 rfl rfl
            go_simp
            refine (rzmul_num g172 hS.y (by decide) (by decide) (by decide) (by decide)).mono ?_
            rintro e wm ⟨pT, aT, nT, cT, ET, rfl, hT2, hb⟩
            exact hK _ _ hb (((hS).below (hb))) ⟨pT, aT, nT, cT, ET, rfl, hT2⟩
          refine List.forall_mem_cons.2 ⟨?_, ?_⟩
          · refine SlotStep.guarded rfl rfl 56 rfl rfl (by kernel_rfl) (fun _ _ h => h) ?_
            intro tm ws hsame hS hg K hK
            obtain ⟨v169, e169, g169⟩ := hg 61 (by kernel_rfl) _ 169 rfl rfl
            obtain ⟨v174, e174, ⟨p174, a174, n174, c174, E174, rfl, g174⟩⟩ := hg 66 (by kernel_rfl) _ 174 rfl rfl
            go_simp
            refine (isw_num 1200 g169 g174 (by decide) (by decide) (by decide) (by decide) (by decide)).mono ?_
            rintro e wm ⟨rfl, hb⟩
            exact hK _ _ hb (((hS).below (hb))) rfl
          refine List.forall_mem_cons.2 ⟨?_, ?_⟩
          · refine SlotStep.plain rfl rfl rfl ?_
            intro tm ws hsame hS hg K hK
            obtain ⟨v164, e164, rfl⟩ := hg 56 (by kernel_rfl) _ 164 rfl rfl
            obtain ⟨v175, e175, rfl⟩ := hg 67 (by kernel_rfl) _ 175 rfl rfl
            go_simp
            exact hK _ _ (Below.refl _ _) hS rfl
          refine List.forall_mem_cons.2 ⟨?_, ?_⟩
          · refine SlotStep.plain rfl rfl rfl ?_
            intro tm ws hsame hS hg K hK
            obtain ⟨v176, e176, rfl⟩ := hg 68 (by kernel_rfl) _ 176 rfl rfl
            go_simp
            exact hK _ _ (Below.refl _ _) hS rfl
          refine List.forall_mem_cons.2 ⟨?_, ?_⟩
          · refine SlotStep.guarded rfl rfl 69 rfl rfl (by kernel_rfl) (fun _ _ h => h) ?_
            intro tm ws hsame hS hg K hK
            have e13 : tm[13]? = some (.pointer (some ⟨w3.heap.size, 0, none⟩)) := hsame.2 13 rfl
            obtain ⟨k0, k1, -, -⟩ := slot2 (hS.c1)
            go_simp
            exact hK _ _ (Below.refl _ _) hS rfl
          refine List.forall_mem_cons.2 ⟨?_, ?_⟩
          · refine SlotStep.guarded rfl rfl 69 rfl rfl (by kernel_rfl) (fun _ _ h => h) ?_
            intro tm ws hsame hS hg K hK
            have e14 : tm[14]? = some (.pointer (some ⟨w3.heap.size + 1, 0, none⟩)) := hsame.2 14 rfl
            obtain ⟨k0, k1, -, -⟩ := slot2 (hS.c2)
            go_simp
            exact hK _ _ (Below.refl _ _) hS rfl
          refine List.forall_mem_cons.2 ⟨?_, ?_⟩
          · refine SlotStep.guarded rfl rfl 69 rfl rfl (by kernel_rfl) (fun _ _ h => h) ?_
            intro tm ws hsame hS hg K hK
            have e13 : tm[13]? = some (.pointer (some ⟨w3.heap.size, 0, none⟩)) := hsame.2 13 rfl
            obtain ⟨k0, k1, -, -⟩ := slot2 (hS.c1)
            go_simp
            exact hK _ _ (Below.refl _ _) hS rfl
          refine List.forall_mem_cons.2 ⟨?_, ?_⟩
          · refine SlotStep.guarded rfl rfl 69 rfl rfl (by kernel_rfl) (fun _ _ h => h) ?_
            intro tm ws hsame hS hg K hK
            obtain ⟨v179, e179, rfl⟩ := hg 71 (by kernel_rfl) _ 179 rfl rfl
            obtain ⟨v180, e180, rfl⟩ := hg 72 (by kernel_rfl) _ 180 rfl rfl
            go_simp
            exact hK _ _ (below_alloc _ _) (hS.below (below_alloc _ _)) ⟨_, rfl, new_cell4.1, new_cell4.2.1, new_cell4.2.2.1, new_cell4.2.2.2⟩
          refine List.forall_mem_cons.2 ⟨?_, ?_⟩
          · refine SlotStep.guarded rfl rfl 69 rfl rfl (by kernel_rfl) (fun _ _ h => h) ?_
            intro tm ws hsame hS hg K hK
            obtain ⟨v178, e178, rfl⟩ := hg 70 (by kernel_rfl) _ 178 rfl rfl
            obtain ⟨v181, e181, ⟨b181, rfl, x181, y181, s181, u181⟩⟩ := hg 73 (by kernel_rfl) _ 181 rfl rfl
            go_simp
            refine (addw2_in n1 n2 n1 x181 y181 s181 u181 hS.a hS.b hS.a (by decide)).mono ?_
            intro e wm hw
            obtain ⟨vR, rfl, hR, hb⟩ := hw.wn
            exact hK _ _ hb (((hS).below (hb))) hR
          refine List.forall_mem_cons.2 ⟨?_, ?_⟩
          · refine SlotStep.guarded rfl rfl 69 rfl rfl (by kernel_rfl) (fun _ _ h => h) ?_
            intro tm ws hsame hS hg K hK
            have e15 : tm[15]? = some (.pointer (some ⟨gp, 0, none⟩)) := hsame.2 15 rfl
            obtain ⟨⟨k0, k1, k2⟩, -⟩ := slot3 (hS.c3)
            go_simp
            exact hK _ _ (Below.refl _ _) hS rfl
          refine List.forall_mem_cons.2 ⟨?_, ?_⟩
          · refine SlotStep.guarded rfl rfl 69 rfl rfl (by kernel_rfl) (fun _ _ h => h) ?_
            intro tm ws hsame hS hg K hK
            have e16 : tm[16]? = some (.pointer (some ⟨gq, 0, none⟩)) := hsame.2 16 rfl
            obtain ⟨⟨k0, k1, k2⟩, -⟩ := slot3 (hS.c4)
            go_simp
            exact hK _ _ (Below.refl _ _) hS rfl
          refine List.forall_mem_cons.2 ⟨?_, ?_⟩
          · refine SlotStep.guarded rfl rfl 69 rfl rfl (by kernel_rfl) (fun _ _ h => h) ?_
            intro tm ws hsame hS hg K hK
            obtain ⟨v183, e183, rfl⟩ := hg 75 (by kernel_rfl) _ 183 rfl rfl
            obtain ⟨v184, e184, rfl⟩ := hg 76 (by kernel_rfl) _ 184 rfl rfl
            go_simp
            refine (rzadd_num 200 8960 hS.x hS.y (by decide) (by decide) (by decide) (by decide) (by decide) (by decide) (by decide)).mono ?_
            rintro e wm ⟨pT, aT, nT, cT, ET, rfl, hT2, hb⟩
            exact hK _ _ hb (((hS).below (hb))) ⟨pT, aT, nT, cT, ET, rfl, hT2⟩
          refine List.forall_mem_cons.2 ⟨?_, ?_⟩
          · refine SlotStep.guarded rfl rfl 69 rfl rfl (by kernel_rfl) (fun _ _ h => h) ?_
            intro tm ws hsame hS hg K hK
            have e15 : tm[15]? = some (.pointer (some ⟨gp, 0, none⟩)) := hsame.2 15 rfl
            obtain ⟨⟨k0, k1, k2⟩, -⟩ := slot3 (hS.c3)
            go_simp
            exact hK _ _ (Below.refl _ _) hS rfl
          refine List.forall_mem_cons.2 ⟨?_, ?_⟩
          · refine SlotStep.guarded rfl rfl 69 rfl rfl (by kernel_rfl) (fun _ _ h => h) ?_
            intro tm ws hsame hS hg K hK
            obtain ⟨v185, e185, ⟨p185, a185, n185, c185, E185, rfl, g185⟩⟩ := hg 77 (by kernel_rfl) _ 185 rfl rfl
            obtain ⟨v186, e186, rfl⟩ := hg 78 (by kernel_rfl) _ 186 rfl rfl
            go_simp
            refine (rzadd_num 600 28160 g185 hS.x (by decide) (by decide) (by decide) (by decide) (by decide) (by decide) (by decide)).mono ?_
            rintro e wm ⟨pT, aT, nT, cT, ET, rfl, hT2, hb⟩
            exact hK _ _ hb (((hS).below (hb))) ⟨pT, aT, nT, cT, ET, rfl, hT2⟩
          refine List.forall_mem_cons.2 ⟨?_, ?_⟩
          · refine SlotStep.guarded rfl rfl 69 rfl rfl (by kernel_rfl) (fun _ _ h => h) ?_
            intro tm ws hsame hS hg K hK
            obtain ⟨v182, e182, g182⟩ := hg 74 (by kernel_rfl) _ 182 rfl rfl
            obtain ⟨v187, e187, ⟨p187, a187, n187, c187, E187, rfl, g187⟩⟩ := hg 79 (by kernel_rfl) _ 187 rfl rfl
            go_simp
            refine (isw_num 2200 g182 g187 (by decide) (by decide) (by decide) (by decide) (by decide)).mono ?_
            rintro e wm ⟨rfl, hb⟩
            exact hK _ _ hb (((hS).below (hb))) rfl
          refine List.forall_mem_cons.2 ⟨?_, ?_⟩
          · refine SlotStep.plain rfl rfl rfl ?_
            intro tm ws hsame hS hg K hK
            obtain ⟨v177, e177, rfl⟩ := hg 69 (by kernel_rfl) _ 177 rfl rfl
            obtain ⟨v188, e188, rfl⟩ := hg 80 (by kernel_rfl) _ 188 rfl rfl
            go_simp
            exact hK _ _ (Below.refl _ _) hS rfl
          refine List.forall_mem_cons.2 ⟨?_, ?_⟩
          · refine SlotStep.plain rfl rfl rfl ?_
            intro tm ws hsame hS hg K hK
            obtain ⟨v189, e189, rfl⟩ := hg 81 (by kernel_rfl) _ 189 rfl rfl
            go_simp
            exact hK _ _ (Below.refl _ _) hS rfl
          refine List.forall_mem_cons.2 ⟨?_, ?_⟩
          · refine SlotStep.guarded rfl rfl 82 rfl rfl (by kernel_rfl) (fun _ _ h => h) ?_
            intro tm ws hsame hS hg K hK
            have e13 : tm[13]? = some (.pointer (some ⟨w3.heap.size, 0, none⟩)) := hsame.2 13 rfl
            obtain ⟨k0, k1, -, -⟩ := slot2 (hS.c1)
            go_simp
            exact hK _ _ (Below.refl _ _) hS rfl
          refine List.forall_mem_cons.2 ⟨?_, ?_⟩
          · refine SlotStep.guarded rfl rfl 82 rfl rfl (by kernel_rfl) (fun _ _ h => h) ?_
            intro tm ws hsame hS hg K hK
            obtain ⟨v191, e191, rfl⟩ := hg 83 (by kernel_rfl) _ 191 rfl rfl
            go_simp
            have htx := textw_any n1 hS.a
            rw [HTW2.out] at htx
            refine htx.mono ?_
            rintro e wm ⟨rfl, hb⟩
            exact hK _ _ hb (((hS).below (hb))) rfl
          refine List.forall_mem_cons.2 ⟨?_, ?_⟩
          · refine SlotStep.guarded rfl rfl 82 rfl rfl (by kernel_rfl) (fun _ _ h => h) ?_
            intro tm ws hsame hS hg K hK
            have e22 : tm[22]? = some (.string sgn) := hsame.2 22 rfl
            go_simp
            exact hK _ _ (Below.refl _ _) hS rfl
          refine List.forall_mem_cons.2 ⟨?_, ?_⟩
          · refine SlotStep.guarded rfl rfl 82 rfl rfl (by kernel_rfl) (fun _ _ h => h) ?_
            intro tm ws hsame hS hg K hK
            have e2 : tm[2]? = some (.slice aA nA cA) := hsame.2 2 rfl
            go_simp
            exact hK _ _ (Below.refl _ _) hS rfl
          refine List.forall_mem_cons.2 ⟨?_, ?_⟩
          · refine SlotStep.guarded rfl rfl 82 rfl rfl (by kernel_rfl) (fun _ _ h => h) ?_
            intro tm ws hsame hS hg K hK
            obtain ⟨v194, e194, rfl⟩ := hg 86 (by kernel_rfl) _ 194 rfl rfl
            go_simp
            refine (from_num hS.fa (by decide)).mono ?_
            rintro e wm ⟨aT, nT, cT, rfl, hT2, hb⟩
            exact hK _ _ hb (((hS).below (hb))) ⟨aT, nT, cT, rfl, hT2⟩
          refine List.forall_mem_cons.2 ⟨?_, ?_⟩
          · refine SlotStep.guarded rfl rfl 82 rfl rfl (by kernel_rfl) (fun _ _ h => h) ?_
            intro tm ws hsame hS hg K hK
            obtain ⟨v195, e195, ⟨a195, n195, c195, rfl, g195⟩⟩ := hg 87 (by kernel_rfl) _ 195 rfl rfl
            go_simp
            have htx := rtextn_num g195 (ten_40 hS.a.lt) (by decide) (by decide)
            rw [← HTA.out] at htx
            refine htx.mono ?_
            rintro e wm ⟨rfl, hb⟩
            exact hK _ _ hb (((hS).below (hb))) rfl
          refine List.forall_mem_cons.2 ⟨?_, ?_⟩
          · refine SlotStep.guarded rfl rfl 82 rfl rfl (by kernel_rfl) (fun _ _ h => h) ?_
            intro tm ws hsame hS hg K hK
            obtain ⟨v193, e193, rfl⟩ := hg 85 (by kernel_rfl) _ 193 rfl rfl
            obtain ⟨v196, e196, rfl⟩ := hg 88 (by kernel_rfl) _ 196 rfl rfl
            go_simp
            rw [if_neg (by omega)]
            first | exact hK _ _ (Below.refl _ _) hS rfl | (go_simp; exact hK _ _ (Below.refl _ _) hS rfl)
          refine List.forall_mem_cons.2 ⟨?_, ?_⟩
          · refine SlotStep.guarded rfl rfl 82 rfl rfl (by kernel_rfl) (fun _ _ h => h) ?_
            intro tm ws hsame hS hg K hK
            obtain ⟨v192, e192, rfl⟩ := hg 84 (by kernel_rfl) _ 192 rfl rfl
            obtain ⟨v197, e197, rfl⟩ := hg 89 (by kernel_rfl) _ 197 rfl rfl
            go_simp
            exact hK _ _ (Below.refl _ _) hS (by first | rfl | exact congrArg Value.bool (by simp))
          refine List.forall_mem_cons.2 ⟨?_, ?_⟩
          · refine SlotStep.plain rfl rfl rfl ?_
            intro tm ws hsame hS hg K hK
            obtain ⟨v190, e190, rfl⟩ := hg 82 (by kernel_rfl) _ 190 rfl rfl
            obtain ⟨v198, e198, rfl⟩ := hg 90 (by kernel_rfl) _ 198 rfl rfl
            go_simp
            exact hK _ _ (Below.refl _ _) hS rfl
          refine List.forall_mem_cons.2 ⟨?_, ?_⟩
          · refine SlotStep.plain rfl rfl rfl ?_
            intro tm ws hsame hS hg K hK
            obtain ⟨v199, e199, rfl⟩ := hg 91 (by kernel_rfl) _ 199 rfl rfl
            go_simp
            exact hK _ _ (Below.refl _ _) hS rfl
          refine List.forall_mem_cons.2 ⟨?_, ?_⟩
          · refine SlotStep.guarded rfl rfl 92 rfl rfl (by kernel_rfl) (fun _ _ h => h) ?_
            intro tm ws hsame hS hg K hK
            have e0 : tm[0]? = some (.bool n1) := hsame.2 0 rfl
            go_simp
            exact hK _ _ (Below.refl _ _) hS rfl
          refine List.forall_mem_cons.2 ⟨?_, ?_⟩
          · refine SlotStep.guarded rfl rfl 92 rfl rfl (by kernel_rfl) (fun _ _ h => h) ?_
            intro tm ws hsame hS hg K hK
            have e11 : tm[11]? = some (.slice (some ⟨gm, 0, none⟩) nA cm) := hsame.2 11 rfl
            go_simp
            exact hK _ _ (Below.refl _ _) hS rfl
          refine List.forall_mem_cons.2 ⟨?_, ?_⟩
          · refine SlotStep.guarded rfl rfl 92 rfl rfl (by kernel_rfl) (fun _ _ h => h) ?_
            intro tm ws hsame hS hg K hK
            obtain ⟨v201, e201, rfl⟩ := hg 93 (by kernel_rfl) _ 201 rfl rfl
            obtain ⟨v202, e202, rfl⟩ := hg 94 (by kernel_rfl) _ 202 rfl rfl
            go_simp
            refine (make_num n1 hS.a (by decide)).mono ?_
            intro e wm hw
            obtain ⟨vR, rfl, hR, hb⟩ := hw.wn
            exact hK _ _ hb (((hS).below (hb))) hR
          refine List.forall_mem_cons.2 ⟨?_, ?_⟩
          · refine SlotStep.guarded rfl rfl 92 rfl rfl (by kernel_rfl) (fun _ _ h => h) ?_
            intro tm ws hsame hS hg K hK
            have e15 : tm[15]? = some (.pointer (some ⟨gp, 0, none⟩)) := hsame.2 15 rfl
            obtain ⟨⟨k0, k1, k2⟩, -⟩ := slot3 (hS.c3)
            go_simp
            exact hK _ _ (Below.refl _ _) hS rfl
          refine List.forall_mem_cons.2 ⟨?_, ?_⟩
          · refine SlotStep.guarded rfl rfl 92 rfl rfl (by kernel_rfl) (fun _ _ h => h) ?_
            intro tm ws hsame hS hg K hK
            obtain ⟨v203, e203, g203⟩ := hg 95 (by kernel_rfl) _ 203 rfl rfl
            obtain ⟨v204, e204, rfl⟩ := hg 96 (by kernel_rfl) _ 204 rfl rfl
            go_simp
            refine (isw_num 300 g203 hS.x (by decide) (by decide) (by decide) (by decide) (by decide)).mono ?_
            rintro e wm ⟨rfl, hb⟩
            exact hK _ _ hb (((hS).below (hb))) rfl
          refine List.forall_mem_cons.2 ⟨?_, ?_⟩
          · refine SlotStep.plain rfl rfl rfl ?_
            intro tm ws hsame hS hg K hK
            obtain ⟨v200, e200, rfl⟩ := hg 92 (by kernel_rfl) _ 200 rfl rfl
            obtain ⟨v205, e205, rfl⟩ := hg 97 (by kernel_rfl) _ 205 rfl rfl
            go_simp
            exact hK _ _ (Below.refl _ _) hS rfl
          refine List.forall_mem_cons.2 ⟨?_, ?_⟩
          · refine SlotStep.plain rfl rfl rfl ?_
            intro tm ws hsame hS hg K hK
            obtain ⟨v206, e206, rfl⟩ := hg 98 (by kernel_rfl) _ 206 rfl rfl
            go_simp
            exact hK _ _ (Below.refl _ _) hS rfl
          refine List.forall_mem_cons.2 ⟨?_, ?_⟩
          · refine SlotStep.guarded rfl rfl 99 rfl rfl (by kernel_rfl) (fun _ _ h => h) ?_
            intro tm ws hsame hS hg K hK
            have e4 : tm[4]? = some (.int .i64 v) := hsame.2 4 rfl
            go_simp
            exact hK _ _ (Below.refl _ _) hS rfl
          refine List.forall_mem_cons.2 ⟨?_, ?_⟩
          · refine SlotStep.guarded rfl rfl 99 rfl rfl (by kernel_rfl) (fun _ _ h => h) ?_
            intro tm ws hsame hS hg K hK
            obtain ⟨v208, e208, rfl⟩ := hg 100 (by kernel_rfl) _ 208 rfl rfl
            go_simp
            refine (wof_num v _ hv0 hv1).mono ?_
            intro e wm hw
            obtain ⟨vR, rfl, hR, hb⟩ := hw.wn
            exact hK _ _ hb (((hS).below (hb))) hR
          refine List.forall_mem_cons.2 ⟨?_, ?_⟩
          · refine SlotStep.guarded rfl rfl 99 rfl rfl (by kernel_rfl) (fun _ _ h => h) ?_
            intro tm ws hsame hS hg K hK
            have e4 : tm[4]? = some (.int .i64 v) := hsame.2 4 rfl
            go_simp
            exact hK _ _ (Below.refl _ _) hS rfl
          refine List.forall_mem_cons.2 ⟨?_, ?_⟩
          · refine SlotStep.guarded rfl rfl 99 rfl rfl (by kernel_rfl) (fun _ _ h => h) ?_
            intro tm ws hsame hS hg K hK
            obtain ⟨v210, e210, rfl⟩ := hg 102 (by kernel_rfl) _ 210 rfl rfl
            go_simp
            refine (rint_num v _ hv0 hv1).mono ?_
            rintro e wm ⟨pT, aT, nT, cT, ET, rfl, hT2, hb⟩
            exact hK _ _ hb (((hS).below (hb))) ⟨pT, aT, nT, cT, ET, rfl, hT2⟩
          refine List.forall_mem_cons.2 ⟨?_, ?_⟩
          · refine SlotStep.guarded rfl rfl 99 rfl rfl (by kernel_rfl) (fun _ _ h => h) ?_
            intro tm ws hsame hS hg K hK
            obtain ⟨v209, e209, g209⟩ := hg 101 (by kernel_rfl) _ 209 rfl rfl
            obtain ⟨v211, e211, ⟨p211, a211, n211, c211, E211, rfl, g211⟩⟩ := hg 103 (by kernel_rfl) _ 211 rfl rfl
            go_simp
            refine (isw_num 20 g209 g211 (by decide) (by decide) (by decide) (by decide) (by decide)).mono ?_
            rintro e wm ⟨rfl, hb⟩
            exact hK _ _ hb (((hS).below (hb))) rfl
          refine List.forall_mem_cons.2 ⟨?_, ?_⟩
          · refine SlotStep.plain rfl rfl rfl ?_
            intro tm ws hsame hS hg K hK
            obtain ⟨v207, e207, rfl⟩ := hg 99 (by kernel_rfl) _ 207 rfl rfl
            obtain ⟨v212, e212, rfl⟩ := hg 104 (by kernel_rfl) _ 212 rfl rfl
            go_simp
            exact hK _ _ (Below.refl _ _) hS rfl
          refine List.forall_mem_cons.2 ⟨?_, ?_⟩
          · refine SlotStep.plain rfl rfl rfl ?_
            intro tm ws hsame hS hg K hK
            obtain ⟨v213, e213, rfl⟩ := hg 105 (by kernel_rfl) _ 213 rfl rfl
            go_simp
            exact hK _ _ (Below.refl _ _) hS rfl
          refine List.forall_mem_cons.2 ⟨?_, ?_⟩
          · refine SlotStep.guarded rfl rfl 106 rfl rfl (by kernel_rfl) (fun _ _ h => h) ?_
            intro tm ws hsame hS hg K hK
            have e11 : tm[11]? = some (.slice (some ⟨gm, 0, none⟩) nA cm) := hsame.2 11 rfl
            go_simp
            exact hK _ _ (Below.refl _ _) hS rfl
          refine List.forall_mem_cons.2 ⟨?_, ?_⟩
          · refine SlotStep.guarded rfl rfl 106 rfl rfl (by kernel_rfl) (fun _ _ h => h) ?_
            intro tm ws hsame hS hg K hK
            have e2 : tm[2]? = some (.slice aA nA cA) := hsame.2 2 rfl
            go_simp
            exact hK _ _ (Below.refl _ _) hS rfl
          refine List.forall_mem_cons.2 ⟨?_, ?_⟩
          · refine SlotStep.guarded rfl rfl 106 rfl rfl (by kernel_rfl) (fun _ _ h => h) ?_
            intro tm ws hsame hS hg K hK
            obtain ⟨v215, e215, rfl⟩ := hg 107 (by kernel_rfl) _ 215 rfl rfl
            obtain ⟨v216, e216, rfl⟩ := hg 108 (by kernel_rfl) _ 216 rfl rfl
            go_simp
            refine (stays_yes gm nA cm aA cA l1 _ HN1.out hcm1 hcm2 hc1 hc2 hS.m hS.ra).mono ?_
            rintro e wm ⟨rfl, hb⟩
            exact hK _ _ hb (((hS).below (hb))) rfl
          refine List.forall_mem_cons.2 ⟨?_, ?_⟩
          · refine SlotStep.plain rfl rfl rfl ?_
            intro tm ws hsame hS hg K hK
            obtain ⟨v214, e214, rfl⟩ := hg 106 (by kernel_rfl) _ 214 rfl rfl
            obtain ⟨v217, e217, rfl⟩ := hg 109 (by kernel_rfl) _ 217 rfl rfl
            go_simp
            exact hK _ _ (Below.refl _ _) hS rfl
          refine List.forall_mem_cons.2 ⟨?_, ?_⟩
          · refine SlotStep.plain rfl rfl rfl ?_
            intro tm ws hsame hS hg K hK
            obtain ⟨v218, e218, rfl⟩ := hg 110 (by kernel_rfl) _ 218 rfl rfl
            go_simp
            exact hK _ _ (Below.refl _ _) hS rfl
          refine List.forall_mem_cons.2 ⟨?_, ?_⟩
          · refine SlotStep.guarded rfl rfl 111 rfl rfl (by kernel_rfl) (fun _ _ h => h) ?_
            intro tm ws hsame hS hg K hK
            have e12 : tm[12]? = some (.slice (some ⟨gn, 0, none⟩) nB cn) := hsame.2 12 rfl
            go_simp
            exact hK _ _ (Below.refl _ _) hS rfl
          refine List.forall_mem_cons.2 ⟨?_, ?_⟩
          · refine SlotStep.guarded rfl rfl 111 rfl rfl (by kernel_rfl) (fun _ _ h => h) ?_
            intro tm ws hsame hS hg K hK
            have e3 : tm[3]? = some (.slice aB nB cB) := hsame.2 3 rfl
            go_simp
            exact hK _ _ (Below.refl _ _) hS rfl
          refine List.forall_mem_cons.2 ⟨?_, ?_⟩
          · refine SlotStep.guarded rfl rfl 111 rfl rfl (by kernel_rfl) (fun _ _ h => h) ?_
            intro tm ws hsame hS hg K hK
            obtain ⟨v220, e220, rfl⟩ := hg 112 (by kernel_rfl) _ 220 rfl rfl
            obtain ⟨v221, e221, rfl⟩ := hg 113 (by kernel_rfl) _ 221 rfl rfl
            go_simp
            refine (stays_yes gn nB cn aB cB l2 _ HN2.out hcn1 hcn2 hd1 hd2 hS.n hS.rb).mono ?_
            rintro e wm ⟨rfl, hb⟩
            exact hK _ _ hb (((hS).below (hb))) rfl
          refine List.forall_mem_cons.2 ⟨?_, ?_⟩
          · refine SlotStep.plain rfl rfl rfl ?_
            intro tm ws hsame hS hg K hK
            obtain ⟨v219, e219, rfl⟩ := hg 111 (by kernel_rfl) _ 219 rfl rfl
            obtain ⟨v222, e222, rfl⟩ := hg 114 (by kernel_rfl) _ 222 rfl rfl
            go_simp
            exact hK _ _ (Below.refl _ _) hS rfl
          refine List.forall_mem_cons.2 ⟨?_, ?_⟩
          · refine SlotStep.plain rfl rfl rfl ?_
            intro tm ws hsame hS hg K hK
            obtain ⟨v223, e223, rfl⟩ := hg 115 (by kernel_rfl) _ 223 rfl rfl
            go_simp
            exact hK _ _ (Below.refl _ _) hS rfl
          exact fun _ h => nomatch h
        case fin =>
          intro tm w17 hsame hS hgot
          obtain ⟨u', hu', htm⟩ := hsame.form (by kernel_rfl)
          obtain ⟨v10, e10, rfl⟩ := hgot 116 _ 10 rfl rfl
          have h10 := hu' _ _ e10
          have hz := hS.z
          clear hgot hu' hsame e10 hS
          rw [htm]
          clear htm tm
          simp only [List.foldl_cons, List.foldl_nil, List.setIfInBounds_toArray, List.set_cons_zero, List.set_cons_succ, h10]
          clear h10
          go_wp2_with fail
          go_ret
          exact ⟨rfl, hz⟩

set_option maxRecDepth 100000 in
theorem wtells_heavy (n1 n2 : Bool) (aA : Option Addr) (nA cA : Nat) (aB : Option Addr) (nB cB : Nat) (v : Int) (w : World) (h : 40 < nA ∨ 40 < nB) (hn1 : nA ≤ 9223372036854775807) (hn2 : nB ≤ 9223372036854775807) :
    Calls Tryd.prog 3 #[.bool n1, .bool n2, .slice aA nA cA, .slice aB nB cB, .int .i64 v] w fun e w' => RetV w (.bool true) e w' := by
  have hlt := light_two aA aB nA nB cA cB 22 w hn1 hn2
  rw [show (decide (nA ≤ 40) && decide (nB ≤ 40)) = false by simp; omega] at hlt
  have HL := Lib.hid hlt
  have hb0 := below_alloc w (.cells #[Value.slice aA nA cA, Value.slice aB nB cB] 22)
  clear hlt h
  go_enter Tryd.func3, Tryd.ntmps3
  go_wp2_with fail
  refine HL.out.mono ?_
  rintro e w' ⟨rfl, rfl⟩
  go_wp2_with fail
  refine (alive2_yes _).mono ?_
  rintro e w1 ⟨rfl, hb⟩
  go_wp2_with fail
  go_ret
  exact ⟨rfl, hb0.trans (hb.mono hb0.size)⟩
end Go.Proofs.YtfanhllcoaondaaDoor
