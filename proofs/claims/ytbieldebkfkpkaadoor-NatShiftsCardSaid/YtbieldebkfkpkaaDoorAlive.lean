/-
  The statements' first look ('alive'): its answer is true. And 'Light'.
-/
import Derived.Test.YtbieldebkfkpkaaDoorText
import Derived.Test.YtbieldebkfkpkaaDoorAdd
namespace Go.Proofs.YtbieldebkfkpkaaDoor
open Go.RowKit

set_option maxRecDepth 100000 in
set_option maxHeartbeats 1000000 in
theorem sqrt_small (ao : Option Addr) (n cap : Nat) (l : List Int) (w : World) (hn : n = l.length) (h1 : n ≤ cap) (h2 : cap ≤ 9223372036854775807) (h : Rd w ao l) (hl : Lim B64 l) (hM : n ≤ MaxW) (hN : vb B64 l < 18446744073709551616) :
    Calls Tryd.prog 13 #[.slice ao n cap] w fun e w' => RetSqrt w (vb B64 l) e w' := by
  have hbits := Lib.hid (bits_any ao n cap l w hn h1 h2 h hl hM)
  have hsq := Lib.hid (sqrtLimb_any ao n cap l w hn h1 h2 h hl hM hN)
  have ht64 : nb (vb B64 l) ≤ 64 := nb_le (m := 64) hN
  obtain ⟨t, ht⟩ : ∃ t, t = nb (vb B64 l) := ⟨_, rfl⟩
  rw [← ht] at hbits ht64
  have hti : (t : Int) ≤ 64 := by omega
  clear hn ht hN ht64
  go_enter Tryd.func13, Tryd.ntmps13
  go_wp2_with fail
  refine hbits.out.mono ?_
  rintro e w' ⟨rfl, rfl⟩
  go_wp2_with fail
  refine hsq.out.mono ?_
  rintro e w' ⟨R, hR, v1, l1, v2, l2, rfl, h3⟩
  go_wp2_with fail
  go_ret2
  exact ⟨R, hR, v1, l1, v2, l2, rfl, h3⟩

theorem tr_one {x : Int} (h : x ≠ 0) : tr [x] = [x] := by simp [tr, tlen, h]

/-- Of one word that is not 0, at a new block. -/
def RetOne (w : World) (x : Int) (e : Ending) (w' : World) : Prop := ∃ g cap, e = .returned (.slice (some ⟨g, 0, none⟩) 1 cap) ∧ 1 ≤ cap ∧ cap ≤ 9223372036854775807 ∧ At w' g 0 [x] ∧ Below w.heap.size w w' ∧ g < w'.heap.size
theorem of_one (x : Int) (t : TypeId) (w : World) (hx : x ≠ 0) :
    Calls Tryd.prog 54 #[.slice (some ⟨w.heap.size, 0, none⟩) 1 1] (w.alloc (.cells #[.int .u64 x] t)) fun e w' => RetOne w x e w' := by
  refine (of_any _ 1 1 [x] _ rfl (Nat.le_refl _) (by decide) (at_new _ x _) (by decide)).mono ?_
  rintro e w1 ⟨v1, rfl, hO1, hb1⟩
  rw [tr_one hx] at hO1
  rcases hO1.cases with ⟨_, h⟩ | ⟨g, cap, rfl, hg, h1, h2, harr⟩
  · cases h
  · exact ⟨g, cap, rfl, h1, h2, harr.at', ((Below.refl _ _).alloc (Nat.le_refl _) _).trans (hb1.mono (by simp)), harr.lt⟩

theorem row_new (w : World) (vs : List Value) (t : TypeId) : RdRow (w.alloc (.cells vs.toArray t)) (some ⟨w.heap.size, 0, none⟩) vs := by
  refine Or.inr ⟨w.heap.size, 0, rfl, fun j v hv => ?_⟩
  rw [Nat.zero_add, World.cell?_alloc_new, List.getElem?_toArray]
  exact hv

theorem below_alloc (w : World) (o : Obj) : Below w.heap.size w (w.alloc o) := (Below.refl _ _).alloc (Nat.le_refl _) o

/-- nat.Add of two. -/
theorem add_two (v1 v2 : Value) (l1 l2 : List Int) (t : TypeId) (w : World) (h1 : RdV w v1 l1) (h2 : RdV w v2 l2) (m1 : l1.length < MaxW) (m2 : l2.length < MaxW) :
    Calls Tryd.prog 53 #[.slice (some ⟨w.heap.size, 0, none⟩) 2 2] (w.alloc (.cells #[v1, v2] t)) fun e w' => RetNum w (vb B64 l1 + vb B64 l2) e w' := by
  have hb := below_alloc w (.cells #[v1, v2] t)
  refine (add_any (some ⟨w.heap.size, 0, none⟩) 2 2 [v1, v2] [l1, l2] _ rfl rfl (Nat.le_refl _) (by decide) (row_new w [v1, v2] t) ?_ ?_ (by decide)).mono ?_
  · intro j hj
    match j, hj with
    | 0, _ => exact h1.below hb
    | 1, _ => exact h2.below hb
  · intro j
    match j with
    | 0 => exact m1
    | 1 => exact m2
    | j + 2 => simp; decide
  · rintro e w' ⟨v, l, rfl, hO, hc, hv, hb2⟩
    refine ⟨v, l, rfl, hO.mono (by simp), hc, ?_, hb.trans (hb2.mono (by simp))⟩
    rw [hv]; simp [sumv]

set_option maxRecDepth 100000 in
set_option maxHeartbeats 2000000 in
theorem alive_yes (w : World) : Calls Tryd.prog 8 #[] w fun e w' => RetV w (.bool true) e w' := by
  have limA : Lim B64 [18446744073709551615] := Lim.cons (by decide) (by decide) (Lim.nil _)
  have lim1 : Lim B64 [1] := Lim.cons (by decide) (by decide) (Lim.nil _)
  have lim4 : Lim B64 [4] := Lim.cons (by decide) (by decide) (Lim.nil _)
  have lim17 : Lim B64 [17] := Lim.cons (by decide) (by decide) (Lim.nil _)
  have lim120 : Lim B64 [120] := Lim.cons (by decide) (by decide) (Lim.nil _)
  have can4 : Can B64 [4] := ⟨lim4, by decide⟩
  have can1 : Can B64 [1] := ⟨lim1, by decide⟩
  have can2 : Can B64 [0, 1] := ⟨Lim.cons (by decide) (by decide) lim1, by decide⟩
  go_enter Tryd.func8, Tryd.ntmps8
  go_wp2_with fail
  refine (of_one 18446744073709551615 _ w (by decide)).mono ?_
  rintro e w1 ⟨g1, c1, rfl, hc1, hd1, hA1, hb1, hg1⟩
  go_wp2_with fail
  refine (of_one 1 _ w1 (by decide)).mono ?_
  rintro e w2 ⟨g2, c2, rfl, hc2, hd2, hA2, hb2, hg2⟩
  go_wp2_with fail
  refine (add_two _ _ [18446744073709551615] [1] _ w2 ⟨_, c1, rfl, hc1, hd1, Rd.of_at (hA1.below hb2), limA⟩ ⟨_, c2, rfl, hc2, hd2, Rd.of_at hA2, lim1⟩ (by decide) (by decide)).mono ?_
  rintro e w3 ⟨va, la, rfl, hOa, hca, hva, hb3⟩
  have hla : la = [0, 1] := can_eq B64_pos hca can2 (by rw [hva]; decide)
  subst hla
  rcases hOa.cases with ⟨_, h⟩ | ⟨ga, ca, rfl, -, hca1, hca2, harra⟩
  · cases h
  have hba : Below w.heap.size w w3 := hb1.trans ((hb2.trans (hb3.mono hb2.size)).mono hb1.size)
  have hAa := harra.at'
  have hga := harra.lt
  clear hva hca hOa harra hA1 hA2 hg1 hg2
  go_wp2_with fail
  refine (of_one 17 _ w3 (by decide)).mono ?_
  rintro e w4 ⟨g4, c4, rfl, hc4, hd4, hA4, hb4, hg4⟩
  go_wp2_with fail
  refine (sqrt_small _ 1 c4 [17] w4 rfl hc4 hd4 (Rd.of_at hA4) lim17 (by decide) (by decide)).mono ?_
  rintro e w5 ⟨R, hR, vr, lr, vs, ls, rfl, hOr, hcr, hvr, hOs, hcs, hvs, hb5⟩
  have hR4 : R = 4 := root_unique hR ⟨by decide, by decide, by decide⟩
  subst hR4
  have hlr : lr = [4] := can_eq B64_pos hcr can4 (by rw [hvr]; decide)
  have hls : ls = [1] := can_eq B64_pos hcs can1 (by rw [hvs]; decide)
  subst hlr hls
  rcases hOr.cases with ⟨_, h⟩ | ⟨gr, cr, rfl, -, hcr1, hcr2, harrr⟩
  · cases h
  rcases hOs.cases with ⟨_, h⟩ | ⟨gs, cs, rfl, -, hcs1, hcs2, harrs⟩
  · cases h
  have hAr := harrr.at'
  have hAs := harrs.at'
  have hb45 := hb4.trans (hb5.mono hb4.size)
  have hA5 := hAa.below hb45
  have hw5 := hba.trans (hb45.mono hba.size)
  clear hvr hvs hcr hcs hOr hOs harrr harrs hR hA4 hAa
  have ca0 : w5.cell? ⟨ga, 0, none⟩ = some (.int .u64 0) := hA5 0 (by decide)
  have ca1 : w5.cell? ⟨ga, 1, none⟩ = some (.int .u64 1) := hA5 1 (by decide)
  go_wp2_with fail
  have htext : strOfNums (txt 19 (vb B64 [120])) = ⟨#[49, 50, 48]⟩ := by decide +kernel
  have hnb : nb (vb B64 [0, 1]) = 65 := nb_eq (by decide) (by decide) (by decide)
  have hcmp4 : cmpI (vb B64 [4]) (vb B64 [4]) = 0 := cmpI_eq rfl
  have hcmp1 : cmpI (vb B64 [1]) (vb B64 [1]) = 0 := cmpI_eq rfl
  have HT := Lib.hid htext
  have HB := Lib.hid hnb
  have H4 := Lib.hid hcmp4
  have H1 := Lib.hid hcmp1
  clear htext hnb hcmp4 hcmp1
  refine (of_one 120 _ w5 (by decide)).mono ?_
  rintro e w6 ⟨g6, c6, rfl, hc6, hd6, hA6, hb6, hg6⟩
  go_wp2_with fail
  refine (text_small _ 1 c6 [120] w6 rfl hc6 hd6 (Rd.of_at hA6) lim120 (by decide) (by decide)).mono ?_
  rintro e w7 ⟨rfl, hb7⟩
  rw [HT.out]
  have hb57 := hb6.trans (hb7.mono hb6.size)
  go_wp2_with fail
  refine (of_one 4 _ w7 (by decide)).mono ?_
  rintro e w8 ⟨g8, c8, rfl, hc8, hd8, hA8, hb8, hg8⟩
  have hb58 := hb57.trans (hb8.mono hb57.size)
  go_wp2_with fail
  refine (cmp_any _ 1 cr [4] _ 1 c8 [4] w8 rfl rfl hcr1 hcr2 hc8 hd8 (Rd.of_at (hAr.below hb58)) (Rd.of_at hA8) lim4 lim4).mono ?_
  rintro e w9 ⟨rfl, hb9⟩
  rw [H4.out]
  have hb59 := hb58.trans (hb9.mono hb58.size)
  go_wp2_with fail
  refine (of_one 1 _ w9 (by decide)).mono ?_
  rintro e w10 ⟨g10, c10, rfl, hc10, hd10, hA10, hb10, hg10⟩
  have hb510 := hb59.trans (hb10.mono hb59.size)
  go_wp2_with fail
  refine (cmp_any _ 1 cs [1] _ 1 c10 [1] w10 rfl rfl hcs1 hcs2 hc10 hd10 (Rd.of_at (hAs.below hb510)) (Rd.of_at hA10) lim1 lim1).mono ?_
  rintro e w11 ⟨rfl, hb11⟩
  rw [H1.out]
  have hb511 := hb510.trans (hb11.mono hb510.size)
  go_wp2_with fail
  refine (bits_any _ 2 ca [0, 1] w11 rfl hca1 hca2 (Rd.of_at (hA5.below hb511)) can2.lim (by decide)).mono ?_
  rintro e w' ⟨rfl, rfl⟩
  rw [HB.out]
  go_wp2_with fail
  go_ret
  exact ⟨rfl, hw5.trans (hb511.mono hw5.size)⟩

/-! ### Light -/

/-- Are all lists short? -/
def lightB (ls : List (List Int)) : Bool := ls.all fun l => decide (l.length ≤ 40)

theorem light_step {ls : List (List Int)} {k : Nat} (hk : k < ls.length) : lightB (ls.take (k + 1)) = (lightB (ls.take k) && decide ((ls.getD k []).length ≤ 40)) := by
  unfold lightB
  rw [List.take_succ_eq_append_getElem hk, List.all_append, List.getD_eq_getElem?_getD, List.getElem?_eq_getElem hk]
  simp
theorem light_no {ls : List (List Int)} {k : Nat} (hk : k < ls.length) (h : ¬ (ls.getD k []).length ≤ 40) : lightB ls = false := by
  unfold lightB
  rw [List.all_eq_false]
  refine ⟨ls.getD k [], ?_, by simpa using h⟩
  rw [List.getD_eq_getElem?_getD, List.getElem?_eq_getElem hk]
  exact List.getElem_mem hk
theorem light_len {ls : List (List Int)} (h : lightB ls = true) (k : Nat) : (ls.getD k []).length ≤ 40 := by
  by_cases hk : k < ls.length
  · unfold lightB at h
    rw [List.all_eq_true] at h
    rw [List.getD_eq_getElem?_getD, List.getElem?_eq_getElem hk]
    simpa using h _ (List.getElem_mem hk)
  · rw [List.getD_eq_getElem?_getD, List.getElem?_eq_none (by omega)]; simp

set_option maxRecDepth 100000 in
set_option maxHeartbeats 1000000 in
theorem light_any (ao : Option Addr) (n cap : Nat) (vs : List Value) (ls : List (List Int)) (w : World) (hn : n = vs.length) (hls : ls.length = vs.length) (h1 : n ≤ cap) (h2 : cap ≤ 9223372036854775807)
    (hrow : RdRow w ao vs) (hel : ∀ j, j < vs.length → ∃ a c, vs.getD j undef = .slice a (ls.getD j []).length c) (hM : ∀ j, (ls.getD j []).length ≤ 9223372036854775807) :
    Calls Tryd.prog 7 #[.slice ao n cap] w fun e w' => e = .returned (.bool (lightB ls)) ∧ w = w' := by
  have HN := Lib.hid hn
  have HLS := Lib.hid hls
  have HROW := Lib.hid hrow
  have HEL := Lib.hid hel
  have HM := Lib.hid hM
  clear hn hls hrow hel hM
  go_enter Tryd.func7, Tryd.ntmps7
  go_wp2
  go_loop [3] (fun i => ∃ k : Nat, k ≤ n ∧ i = .int .i64 k ∧ Hid (lightB (ls.take k) = true)) (fun i => n - (intOf i).toNat)
  case atStart => exact ⟨0, Nat.zero_le _, rfl, rfl⟩
  case round =>
    obtain ⟨k, hk, rfl, HL⟩ := hrel
    by_cases hlt : k < n
    · have hkv : k < vs.length := by rw [← HN.out]; exact hlt
      have hv0 : vs ≠ [] := by intro e; subst e; simp at hkv
      obtain ⟨b, off, rfl, hcells⟩ := HROW.out.resolve_left hv0
      obtain ⟨ax, cx, hvk⟩ := HEL.out k hkv
      have hkl : k < ls.length := by rw [HLS.out]; exact hkv
      have hcell : w.cell? ⟨b, off + k, none⟩ = some (.slice ax (ls.getD k []).length cx) := by
        rw [← hvk]; refine hcells k _ ?_
        rw [List.getD_eq_getElem?_getD, List.getElem?_eq_getElem hkv]; rfl
      have hst := light_step hkl
      have hno := light_no (ls := ls) hkl
      have hmx := HM.out k
      obtain ⟨m, hm⟩ : ∃ m, m = (ls.getD k []).length := ⟨_, rfl⟩
      rw [← hm] at hcell hst hno hmx
      have HST := Lib.hid hst
      have HNO := Lib.hid hno
      clear hst hno hm hvk hcells hkv
      by_cases h40 : m ≤ 40
      · go_wp2
        go_round
        case rel => exact ⟨k + 1, by omega, by go_num, by show _ = _; rw [HST.out, HL.out]; simpa using h40⟩
        case measure => simp [intOf]; omega
      · have hf := HNO.out h40
        have HF := Lib.hid hf
        clear hf
        go_wp2
        go_ret
        exact ⟨by rw [HF.out]; rfl, rfl⟩
    · have hl : lightB ls = true := by
        have := HL.out
        rwa [List.take_of_length_le (by rw [HLS.out, ← HN.out]; omega)] at this
      have HLL := Lib.hid hl
      clear hl
      go_wp2
      go_ret
      exact ⟨by rw [HLL.out]; rfl, rfl⟩

end Go.Proofs.YtbieldebkfkpkaaDoor
