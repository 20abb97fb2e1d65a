/-
  The walk of the statement NatSums.
-/
import Derived.Test.YtmbkhapldbeocaaDoorAlive
import Derived.Test.YtmbkhapldbeocaaDoorRefAdd
import Derived.Test.YtmbkhapldbeocaaDoorVals
namespace Go.Proofs.YtmbkhapldbeocaaDoor
open Go.RowKit

theorem info_nat : (Tryd.prog.info? 28).map (fun i => (i.zero, i.size, i.bytes)) = some (some (.slice none 0 0), 1, 24) := by kernel_rfl

/-- Where the lists are many, or one of them is long, the statement asks 'alive' alone. -/
theorem sums_many (ao : Option Addr) (n cap : Nat) (at' : Int) (w : World) (hn : 12 < n) :
    Calls Tryd.prog 7 #[.slice ao n cap, .int .i64 at'] w fun e w' => RetV w (.bool true) e w' := by
  have hn' : (12 : Int) < n := by omega
  go_enter Tryd.func7, Tryd.ntmps7
  go_wp2_with fail
  refine (alive_yes w).mono ?_
  rintro e w1 ⟨rfl, hb⟩
  go_wp2_with fail
  go_ret
  exact ⟨rfl, hb⟩

theorem sums_heavy (ao : Option Addr) (n cap : Nat) (vs : List Value) (ls : List (List Int)) (at' : Int) (w : World) (hn : n = vs.length) (hls : ls.length = vs.length) (h1 : n ≤ cap) (h2 : cap ≤ 9223372036854775807) (h12 : n ≤ 12)
    (hrow : RdRow w ao vs) (hel : ∀ j, j < vs.length → ∃ a c, vs.getD j undef = .slice a (ls.getD j []).length c) (hM : ∀ j, (ls.getD j []).length ≤ 9223372036854775807) (hno : lightB ls = false) :
    Calls Tryd.prog 7 #[.slice ao n cap, .int .i64 at'] w fun e w' => RetV w (.bool true) e w' := by
  have HL := Lib.hid (light_any ao n cap vs ls w hn hls h1 h2 hrow hel hM)
  rw [hno] at HL
  have hn' : (n : Int) ≤ 12 := by omega
  clear hrow hel hM hno hn hls
  go_enter Tryd.func7, Tryd.ntmps7
  go_wp2_with fail
  refine HL.out.mono ?_
  rintro e w' ⟨rfl, rfl⟩
  go_wp2_with fail
  refine (alive_yes w).mono ?_
  rintro e w1 ⟨rfl, hb⟩
  go_wp2_with fail
  go_ret
  exact ⟨rfl, hb⟩

theorem reverse_take {vs : List Value} {k : Nat} (hk : k < vs.length) : vs.reverse.take (k + 1) = vs.reverse.take k ++ [vs.getD (vs.length - 1 - k) undef] := by
  rw [List.take_succ_eq_append_getElem (by simpa using hk), List.getElem_reverse, List.getD_eq_getElem?_getD, List.getElem?_eq_getElem (by omega)]
  rfl
theorem vtake_succ {vs : List Value} {k : Nat} (hk : k < vs.length) : vs.take (k + 1) = vs.take k ++ [vs.getD k undef] := by
  rw [List.take_succ_eq_append_getElem hk, List.getD_eq_getElem?_getD, List.getElem?_eq_getElem hk]
  rfl

theorem getD_rev {α : Type} (l : List α) (d : α) {j : Nat} (hj : j < l.length) : l.reverse.getD j d = l.getD (l.length - 1 - j) d := by
  rw [List.getD_eq_getElem?_getD, List.getD_eq_getElem?_getD, List.getElem?_reverse hj]
theorem sumv_reverse (ls : List (List Int)) : sumv ls.reverse = sumv ls := by
  induction ls with
  | nil => rfl
  | cons l ls ih => rw [List.reverse_cons, sumv_append, ih, sumv_cons]; simp [sumv]; omega
theorem sum_room {x y : Int} {m : Nat} (hx : x < B32 ^ m) (hy : y < B32 ^ 80) (hm : 80 ≤ m) : x + y < B32 ^ (m + 1) := by
  have h1 := pow_le_pow B32_pos hm
  have h2 := pow_pos' B32_pos m
  have e : B32 ^ (m + 1) = 4294967296 * B32 ^ m := by rw [Int.pow_succ, Int.mul_comm]; rfl
  omega
theorem len_room {l : List Int} {m : Nat} (hc : Can B32 l) (h : vb B32 l < B32 ^ m) : l.length ≤ m := by
  by_cases hl : l = []
  · subst hl; simp
  · have h1 := hc.ge B32_pos hl
    rcases Nat.lt_or_ge m l.length with h2 | h2
    · have := pow_le_pow B32_pos (show m ≤ l.length - 1 by omega)
      omega
    · exact h2
theorem word_room {l : List Int} (hl : Lim B64 l) (h : l.length ≤ 40) : vb B64 l < B32 ^ 80 := by
  have h1 := vb_lt B64_pos hl
  have h2 := pow_le_pow B64_pos h
  have e : B64 ^ 40 = B32 ^ 80 := by decide +kernel
  omega

theorem getD_cut {α : Type} (l : List α) (d : α) {q j : Nat} (hq : q ≤ l.length) : (l.take q ++ l.drop (q + 1)).getD j d = if j < q then l.getD j d else l.getD (j + 1) d := by
  rw [List.getD_eq_getElem?_getD, List.getElem?_append, List.length_take, Nat.min_eq_left hq]
  split
  · rw [List.getElem?_take, if_pos (by assumption), List.getD_eq_getElem?_getD]
  · rw [List.getElem?_drop, List.getD_eq_getElem?_getD]
    congr 2
    omega
theorem sumv_cut {ls : List (List Int)} {q : Nat} (hq : q < ls.length) : sumv ls = vb B64 (ls.getD q []) + sumv (ls.take q ++ ls.drop (q + 1)) := by
  have h1 := sumv_take hq
  have h2 : sumv ls = sumv (ls.take (q + 1)) + sumv (ls.drop (q + 1)) := by rw [← sumv_append, List.take_append_drop]
  rw [sumv_append]
  omega
theorem sumv_nonneg {ls : List (List Int)} (h : ∀ l ∈ ls, Lim B64 l) : 0 ≤ sumv ls := by
  induction ls with
  | nil => exact Int.le_refl _
  | cons l ls ih =>
    rw [sumv_cons]
    have h1 := vb_nonneg B64_pos (h l (List.mem_cons_self ..))
    have h2 := ih (fun x hx => h x (List.mem_cons_of_mem _ hx))
    omega
theorem sumv_small {ls : List (List Int)} {m : Nat} (hm : ls.length ≤ m) (h : ∀ l ∈ ls, Lim B64 l ∧ l.length ≤ 40) : sumv ls < B64 ^ 40 * ((m : Int) + 1) := by
  induction ls generalizing m with
  | nil =>
    have : 0 < B64 ^ 40 := pow_pos' B64_pos 40
    exact Int.mul_pos this (by omega)
  | cons l ls ih =>
    obtain ⟨m, rfl⟩ : ∃ k, m = k + 1 := ⟨m - 1, by simp at hm; omega⟩
    have h1 := h l (List.mem_cons_self ..)
    have h2 := vb_lt B64_pos h1.1
    have h3 := pow_le_pow B64_pos h1.2
    have h4 := ih (m := m) (by simpa using hm) (fun x hx => h x (List.mem_cons_of_mem _ hx))
    rw [sumv_cons, show (((m + 1 : Nat) : Int) + 1) = ((m : Int) + 1) + 1 by omega, Int.mul_add, Int.mul_one]
    omega

/-- The index that the statement reckons is one of the list's. -/
theorem index_ok (x : Int) (n : Nat) (h0 : 0 < n) (h12 : n ≤ 12) : ∃ q : Nat, q < n ∧ (wrap64 (x.tmod n + n)).tmod n = (q : Int) := by
  have hn : (0 : Int) < n := by omega
  have h1 := Int.tmod_lt_of_pos x hn
  have h2 : -(n : Int) < x.tmod n := by
    rcases Int.le_total 0 x with h | h
    · have := Int.tmod_nonneg (n : Int) h; omega
    · have e : x.tmod n = -((-x).tmod n) := by rw [Int.neg_tmod]; omega
      have := Int.tmod_lt_of_pos (-x) hn
      omega
  have e : wrap64 (x.tmod n + n) = x.tmod n + n := by unfold wrap64; omega
  rw [e, Int.tmod_eq_emod_of_nonneg (by omega)]
  have h3 := Int.emod_nonneg (x.tmod n + n) (show (n : Int) ≠ 0 by omega)
  have h4 := Int.emod_lt_of_pos (x.tmod n + n) hn
  exact ⟨((x.tmod n + n) % n).toNat, by omega, by omega⟩

set_option maxRecDepth 100000 in
set_option maxHeartbeats 4000000 in
theorem sums_light (ao : Option Addr) (n cap : Nat) (vs : List Value) (ls : List (List Int)) (at' : Int) (w : World) (hn : n = vs.length) (hls : ls.length = vs.length) (h1 : n ≤ cap) (h2 : cap ≤ 9223372036854775807) (h12 : n ≤ 12)
    (hrow : RdRow w ao vs) (hel : ∀ j, j < vs.length → RdV w (vs.getD j undef) (ls.getD j [])) (hyes : lightB ls = true) :
    Calls Tryd.prog 7 #[.slice ao n cap, .int .i64 at'] w fun e w' => RetV w (.bool true) e w' := by
  have hlen := light_len hyes
  have HL := Lib.hid (light_any ao n cap vs ls w hn hls h1 h2 hrow (fun j hj => by obtain ⟨a, c, h, _⟩ := hel j hj; exact ⟨a, c, h⟩) (fun j => by have := hlen j; omega))
  rw [hyes] at HL
  have hn' : (n : Int) ≤ 12 := by omega
  have HROW := Lib.hid hrow
  have HEL := Lib.hid hel
  have HLEN := Lib.hid hlen
  have HN := Lib.hid hn
  have HLS := Lib.hid hls
  clear hrow hel hyes hn hls hlen
  go_enter Tryd.func7, Tryd.ntmps7
  go_wp2_with fail
  refine HL.out.mono ?_
  rintro e w' ⟨rfl, rfl⟩
  go_wp2_with fail
  refine (alive_yes w).mono ?_
  rintro e w1 ⟨rfl, hb⟩
  go_wp2_with fail
  go_loopw [5, 6, 7, 8] (fun va vb' vsum ii wr => ∃ (k : Nat) (aS : Option Addr) (ns cs : Nat) (lsum : List Int), k ≤ n ∧ ii = .int .i64 k ∧ vsum = .slice aS ns cs ∧ Hid (ns = lsum.length) ∧ ns ≤ cs ∧ cs ≤ 9223372036854775807 ∧ Rd wr aS lsum ∧ Can B32 lsum ∧ Hid (vb B32 lsum = sumv (ls.take k)) ∧
      OwV w1.heap.size wr va (vs.take k) ∧ OwV w1.heap.size wr vb' (vs.reverse.take k) ∧ Below w1.heap.size w1 wr ∧
      (∀ g, va.ownBlock = some g → vb'.ownBlock ≠ some g) ∧ (∀ g o, aS = some ⟨g, o, none⟩ → va.ownBlock ≠ some g ∧ vb'.ownBlock ≠ some g) ∧ Hid (sumv (ls.take k) < B32 ^ (100 + k)))
    (fun _ _ _ ii _ => n - (intOf ii).toNat)
  case atStart => exact ⟨0, none, 0, 0, [], Nat.zero_le _, rfl, rfl, rfl, Nat.le_refl _, by omega, Rd.nil _ _, Can.nil _, rfl, OwV.nil _ _, OwV.nil _ _, Below.refl _ _, by simp [Value.ownBlock], by simp, by show _ < _; simp [sumv]; exact Int.pow_pos (by decide)⟩
  case round =>
    obtain ⟨k, aS, ns, cs, lsum, hk, rfl, rfl, HNS, hs1, hs2, hrs, hcs, HVS, hOa, hOb, hbl, hdis, hdis2, HBD⟩ := hrel
    by_cases hlt : k < n
    · have hkv : k < vs.length := by rw [← HN.out]; exact hlt
      have hv0 : vs ≠ [] := by intro e; subst e; simp at hkv
      have hbw : Below w.heap.size w wr := hb.trans (hbl.mono hb.size)
      have hrow := HROW.out.resolve_left hv0
      obtain ⟨b, off, rfl, hcells0⟩ := hrow
      have hcell : ∀ j, j < vs.length → ∀ wx, Below w.heap.size w wx → wx.cell? ⟨b, off + j, none⟩ = some (vs.getD j undef) := by
        intro j hj wx hx
        have hc := hcells0 j (vs.getD j undef) (by rw [List.getD_eq_getElem?_getD, List.getElem?_eq_getElem hj]; rfl)
        rw [hx.cell (p := ⟨b, off + j, none⟩) (World.block_lt_of_cell? _ _ hc)]
        exact hc
      have HCELL := Lib.hid hcell
      have hkr : n - 1 - k < vs.length := by rw [← HN.out]; omega
      obtain ⟨ak, ck, hvk, hk1, hk2, hrk, hlk⟩ := HEL.out k hkv
      obtain ⟨ar, cr, hvr, hr1, hr2, hrr, hlr⟩ := HEL.out (n - 1 - k) hkr
      obtain ⟨nk, hnk⟩ : ∃ nk, nk = (ls.getD k []).length := ⟨_, rfl⟩
      obtain ⟨nr, hnr⟩ : ∃ nr, nr = (ls.getD (n - 1 - k) []).length := ⟨_, rfl⟩
      rw [← hnk] at hvk hk1
      rw [← hnr] at hvr hr1
      have hck : wr.cell? ⟨b, off + k, none⟩ = some (.slice ak nk ck) := by rw [← hvk]; exact hcell k hkv wr hbw
      have hst1 : vs.take (k + 1) = vs.take k ++ [.slice ak nk ck] := by rw [← hvk]; exact vtake_succ hkv
      have hst2 : vs.reverse.take (k + 1) = vs.reverse.take k ++ [.slice ar nr cr] := by rw [reverse_take hkv, ← hvr, ← HN.out]
      have HST1 := Lib.hid hst1
      have HST2 := Lib.hid hst2
      have hl1 : (vs.take k).length + 1 ≤ 4294967296 := by rw [List.length_take]; omega
      have hl2 : (vs.reverse.take k).length + 1 ≤ 4294967296 := by rw [List.length_take]; omega
      have HNK := Lib.hid hnk
      have h1k : ∀ u ∈ [Value.slice ak nk ck], u.oneCell' = true := by intro u hu; rw [List.mem_singleton] at hu; subst hu; rfl
      have h1r : ∀ u ∈ [Value.slice ar nr cr], u.oneCell' = true := by intro u hu; rw [List.mem_singleton] at hu; subst hu; rfl
      have H1K := Lib.hid h1k
      have H1R := Lib.hid h1r
      have HVK := Lib.hid hvk
      have HVR := Lib.hid hvr
      clear hcell hst1 hst2 hcells0 hvk hvr h1k h1r hnk hnr
      go_wp2_with (first
        | (at_builtin; refine wpList_append_vals _ rfl (.tmp 33) (.tmp 38) 54 rfl Tryd.underlying54 info_nat w1.heap.size u5 (vs.take k) rfl (hOa.alloc _) ⟨wr.heap.size, 0, none⟩ 1 1 [.slice ak nk ck] rfl rfl (newv1 _ _ _) H1K.out hl1 (by have := hbl.size; simp; omega) ?_; intro va2 w2 hOa2 hg2 hat2; have hb2 := below_app hbw hOa hb.size hbl.size hg2; have hcr := HCELL.out (n - 1 - k) hkr w2 hb2; rw [HVR.out] at hcr; have hOb2 := (hOb.alloc (Obj.cells #[Value.slice ak nk ck] 28)).grown hg2 (fun g hg e => hdis g e hg); have hb12 := below_app hbl hOa (Nat.le_refl _) hbl.size hg2)
        | (at_builtin; refine wpList_append_vals _ rfl (.tmp 40) (.tmp 49) 54 rfl Tryd.underlying54 info_nat w1.heap.size u6 (vs.reverse.take k) rfl (hOb2.alloc _) ⟨w2.heap.size, 0, none⟩ 1 1 [.slice ar nr cr] rfl rfl (newv1 _ _ _) H1R.out hl2 (by have := hb12.size; simp; omega) ?_; intro vb2 w3 hOb3 hg3 hat3; have hb3 := below_app hb2 hOb2 hb.size hb12.size hg3; have hck3 := HCELL.out k hkv w3 hb3; rw [HVK.out] at hck3))
      have hr2 : Rd w2 aS lsum := (hrs.below (below_alloc wr _)).grown hg2 (fun _ g o e => (hdis2 g o e).1)
      have hr3 : Rd w3 aS lsum := (hr2.below (below_alloc w2 _)).grown hg3 (fun _ g o e => (hdis2 g o e).2)
      have hsz2 : wr.heap.size + 1 ≤ w2.heap.size := by have := hg2.size; simpa using this
      have hsz3 : w2.heap.size + 1 ≤ w3.heap.size := by have := hg3.size; simpa using this
      have hlta : ∀ g, va2.ownBlock = some g → g < w2.heap.size := fun g e => (hOa2.lt g e).2
      have hltb : ∀ g, vb2.ownBlock = some g → g < w3.heap.size := fun g e => (hOb3.lt g e).2
      have hab : ∀ g, va2.ownBlock = some g → u6.ownBlock ≠ some g := by
        intro g e1 e2
        rcases hat2 with h | h
        · exact hdis g (by rw [← h]; exact e1) e2
        · rw [h] at e1
          have := (hOb.lt g e2).2
          simp at e1; omega
      have hab2 : ∀ g, va2.ownBlock = some g → vb2.ownBlock ≠ some g := by
        intro g e1 e2
        rcases hat3 with h | h
        · exact hab g e1 (by rw [← h]; exact e2)
        · rw [h] at e2
          have := hlta g e1
          simp at e2; omega
      have hOa3 : OwV w1.heap.size w3 va2 (vs.take (k + 1)) := by
        rw [HST1.out]
        exact (hOa2.alloc (Obj.cells #[Value.slice ar nr cr] 28)).grown hg3 (fun g e h => hab g e h)
      have hOb4 : OwV w1.heap.size w3 vb2 (vs.reverse.take (k + 1)) := by rw [HST2.out]; exact hOb3
      have hb13 : Below w1.heap.size w1 w3 := below_app hb12 hOb2 (Nat.le_refl _) hb12.size hg3
      have hkl : k < ls.length := by rw [HLS.out]; exact hkv
      have hlen40 := HLEN.out k
      have hwr := word_room hlk hlen40
      have hsumr := sum_room HBD.out hwr (by omega)
      rw [← sumv_take hkl] at hsumr
      have hlsum : lsum.length ≤ 100 + k := len_room hcs (by rw [HVS.out]; exact HBD.out)
      have hsv : sumv (ls.take (k + 1)) = vb B32 lsum + vb B64 (ls.getD k []) := by rw [sumv_take hkl, HVS.out]
      obtain ⟨lk, hlke⟩ : ∃ lk, lk = ls.getD k [] := ⟨_, rfl⟩
      rw [← hlke] at HNK hrk hlk hwr hsv hlen40
      have HSR := Lib.hid hsumr
      have HSV := Lib.hid hsv
      have HWR := Lib.hid hwr
      have hnk40 : nk ≤ 40 := by rw [HNK.out]; exact hlen40
      have hns : ns ≤ 100 + k := by rw [HNS.out]; exact hlsum
      clear hsumr hsv hwr hlen40 hlsum hlke hat2 hat3 hg2 hg3 hOa2 hOb3 hOa hOb hOb2 hrs hr2 hdis hdis2 hck hck3 hcr hab
      refine (from_any ak nk ck lk w3 HNK.out hk1 hk2 (hrk.below hb3) hlk (by unfold MaxW; omega)).mono ?_
      rintro e w4 ⟨aF, nF, cF, lF, rfl, hnF, hF1, hF2, hrF, hcF, hvF, hb34, -⟩
      have hlF : lF.length ≤ 80 := len_room hcF (by rw [hvF]; exact HWR.out)
      have HNF := Lib.hid hnF
      have HVF := Lib.hid hvF
      have hnF80 : nF ≤ 80 := by omega
      clear hnF hvF hlF
      go_wp2_with fail
      refine (radd_any aS ns cs lsum aF nF cF lF w4 HNS.out HNF.out hs1 hs2 hF1 hF2 (hr3.below hb34) hrF hcs.lim hcF.lim (by unfold MaxW; omega) (by unfold MaxW; omega)).mono ?_
      rintro e w5 ⟨aG, nG, cG, lG, rfl, hnG, hG1, hG2, hrG, hcG, hvG, hb45, hfG⟩
      have HNG := Lib.hid hnG
      have hvG2 : vb B32 lG = sumv (ls.take (k + 1)) := by rw [hvG, HSV.out, HVF.out]
      have HVG := Lib.hid hvG2
      clear hnG hvG hvG2
      have hb35 : Below w3.heap.size w3 w5 := hb34.trans (hb45.mono hb34.size)
      go_wp2_with fail
      go_roundw
      case rel =>
        refine ⟨k + 1, aG, nG, cG, lG, by omega, by go_num, rfl, HNG, hG1, hG2, hrG, hcG, HVG, hOa3.below hb35, hOb4.below hb35, hb13.trans (hb35.mono hb13.size), hab2, ?_, ?_⟩
        · intro g o e
          have hge := hfG g o e
          have := hb34.size
          exact ⟨fun h => by have := hlta g h; omega, fun h => by have := hltb g h; omega⟩
        · have := HSR.out
          show _ < _
          rwa [Nat.add_assoc] at this
      case measure => simp [intOf]; omega
    · have hkn : k = n := by omega
      have e1 : vs.take k = vs := List.take_of_length_le (by rw [hkn, HN.out]; exact Nat.le_refl _)
      have e2 : vs.reverse.take k = vs.reverse := List.take_of_length_le (by rw [hkn, HN.out]; simp)
      have e3 : ls.take k = ls := List.take_of_length_le (by rw [hkn, HN.out, HLS.out]; exact Nat.le_refl _)
      rw [e1] at hOa
      rw [e2] at hOb
      rw [e3] at HVS HBD
      have hns : ns ≤ 100 + k := by rw [HNS.out]; exact len_room hcs (by rw [HVS.out]; exact HBD.out)
      have hbw : Below w.heap.size w wr := hb.trans (hbl.mono hb.size)
      obtain ⟨aA, cA, rfl, hA1, hA2, hrA⟩ := hOa.form
      obtain ⟨aB, cB, rfl, hB1, hB2, hrB⟩ := hOb.form
      rw [List.length_reverse] at hB1 ⊢
      rw [← HN.out] at hA1 hB1 ⊢
      have HRV : Hid (vs.reverse.length = n) := by show _ = _; rw [List.length_reverse]; exact HN.out.symm
      have HRL : Hid (ls.reverse.length = vs.reverse.length) := by show _ = _; rw [List.length_reverse, List.length_reverse]; exact HLS.out
      have HELR : Hid (∀ j, j < vs.reverse.length → RdV w (vs.reverse.getD j undef) (ls.reverse.getD j [])) := by
        intro j hj
        rw [List.length_reverse] at hj
        rw [getD_rev vs undef hj, getD_rev ls [] (by rw [HLS.out]; exact hj), HLS.out]
        exact HEL.out _ (by omega)
      have HLENR : Hid (∀ j, (ls.reverse.getD j []).length < MaxW) := by
        intro j
        by_cases hj : j < ls.length
        · rw [getD_rev ls [] hj]
          have := HLEN.out (ls.length - 1 - j)
          unfold MaxW; omega
        · rw [List.getD_eq_getElem?_getD, List.getElem?_eq_none (by simp; omega)]; simp; decide
      clear e1 e2 e3 hkn hdis hdis2 hOa hOb HBD
      go_wp2_with fail
      refine (add_any aA n cA vs ls wr HN.out HLS.out hA1 hA2 hrA (fun j hj => (HEL.out j hj).below hbw) (fun j => by have := HLEN.out j; unfold MaxW; omega) (by omega)).mono ?_
      rintro e w2 ⟨vA, lA, rfl, hOA, hcA, hvA, hbA⟩
      obtain ⟨aV, cV, rfl, hV1, hV2, hrV⟩ := hOA.form
      obtain ⟨nV, hnV⟩ : ∃ nV, nV = lA.length := ⟨_, rfl⟩
      rw [← hnV] at hV1 ⊢
      have HNV := Lib.hid hnV
      have HVA := Lib.hid hvA
      clear hnV hvA
      go_wp2_with fail
      refine (is_yes aV nV cV lA aS ns cs lsum w2 HNV.out HNS.out hV1 hV2 hs1 hs2 hrV (hrs.below hbA) hcA hcs (by rw [HVA.out, HVS.out]) (by unfold MaxW; omega)).mono ?_
      rintro e w3 ⟨rfl, hb23⟩
      have hbA3 : Below wr.heap.size wr w3 := hbA.trans (hb23.mono hbA.size)
      go_wp2_with fail
      refine (add_any aB n cB vs.reverse ls.reverse w3 HRV.out.symm HRL.out hB1 hB2 (hrB.below hbA3) (fun j hj => (HELR.out j hj).below (hbw.trans (hbA3.mono hbw.size))) HLENR.out (by omega)).mono ?_
      rintro e w4 ⟨vR, lR, rfl, hOR, hcR, hvR, hb34⟩
      rw [sumv_reverse] at hvR
      obtain ⟨aW, cW, rfl, hW1, hW2, hrW⟩ := hOR.form
      obtain ⟨nW, hnW⟩ : ∃ nW, nW = lR.length := ⟨_, rfl⟩
      rw [← hnW] at hW1 ⊢
      have HNW := Lib.hid hnW
      have HVR := Lib.hid hvR
      clear hnW hvR
      have hbA4 : Below wr.heap.size wr w4 := hbA3.trans (hb34.mono hbA3.size)
      go_wp2_with fail
      refine (is_yes aW nW cW lR aS ns cs lsum w4 HNW.out HNS.out hW1 hW2 hs1 hs2 hrW (hrs.below hbA4) hcR hcs (by rw [HVR.out, HVS.out]) (by unfold MaxW; omega)).mono ?_
      rintro e w5 ⟨rfl, hb45⟩
      have hb25 : Below w2.heap.size w2 w5 := hb23.trans ((hb34.trans (hb45.mono hb34.size)).mono hb23.size)
      have hbA5 : Below wr.heap.size wr w5 := hbA4.trans (hb45.mono hbA4.size)
      have hw5 : Below w.heap.size w w5 := hbw.trans (hbA5.mono hbw.size)
      have hrV5 := hrV.below hb25
      have hrA5 := hrA.below hbA5
      clear hOR hcR hb34 hrW HVR HNW HRV HRL HELR HLENR hrB hB1 hB2 hcs hrs HVS HNS hs1 hs2 hns hOA hbA hb23 hbA3 hbA4 hb45 hrA hrV
      by_cases h0 : n = 0
      · have h0' : ((n : Int) == 0) = true := by simp [h0]
        clear h0
        go_wp2_with fail
        go_ret
        exact ⟨rfl, hw5⟩
      · have h0' : ((n : Int) == 0) = false := by simp; omega
        have hn0 : 0 < n := by omega
        obtain ⟨q, hqn, hidx⟩ := index_ok at' n hn0 h12
        have hvne : vs ≠ [] := by intro e; have := HN.out; rw [e] at this; simp at this; omega
        obtain ⟨bA, oA, rfl, hcA'⟩ := hrA5.resolve_left hvne
        have HCA := Lib.hid hcA'
        clear hcA' hvne h0
        go_wp2_with fail
        have hqi : IntKind.i64.wrap ((q : Int) + 1) = (q : Int) + 1 := IntWalk.i64_in _ (by omega)
        have hq0 : (0 : Int) ≤ (q : Int) + 1 := by omega
        have hqt : ((q : Int) + 1).toNat = q + 1 := by omega
        have hqle : (q : Int) ≤ (cA : Int) := by omega
        have hqle2 : (q : Int) + 1 ≤ (n : Int) := by omega
        have hqle3 : (q : Int) ≤ (n : Int) := by omega
        have hone : ∀ u ∈ vs, u.oneCell' = true := by
          intro u hu
          obtain ⟨j, hj, rfl⟩ := List.getElem_of_mem hu
          obtain ⟨a, c, e, _⟩ := HEL.out j hj
          rw [List.getD_eq_getElem?_getD, List.getElem?_eq_getElem hj] at e
          rw [show vs[j] = _ from e]; rfl
        have HONE := Lib.hid hone
        have hl1 : (vs.take q).length = q := by rw [List.length_take, ← HN.out]; omega
        have hl2 : (vs.drop (q + 1)).length = n - (q + 1) := by rw [List.length_drop, ← HN.out]
        have HL1 := Lib.hid hl1
        have HL2 := Lib.hid hl2
        clear hone hl1 hl2
        by_cases hend : cA = q + 1
        · subst hend
          have hqq : (q : Int) ≤ (q : Int) + 1 := by omega
          have HL20 : Hid ((vs.drop (q + 1)).length = 0) := by show _ = _; rw [HL2.out]; omega
          go_region_law (first
            | (refine step_append_vals _ rfl (.const (.slice none 0 0)) (.tmp 86) 54 rfl Tryd.underlying54 info_nat w5.heap.size (.slice none 0 0) [] rfl (OwV.nil _ _) ⟨bA, oA, none⟩ q (q + 1) (vs.take q) (by simp [Act.eval, Act.put]) HL1.out (by intro j u hj; rw [addr_add_none]; exact HCA.out j u (by rw [List.getElem?_take] at hj; split at hj; exact hj; cases hj)) (fun u hu => HONE.out u (List.mem_of_mem_take hu)) (by simp; omega) (by exact Nat.le_refl _) ?_; intro v1 w6 hO6 hb6; rw [List.nil_append] at hO6)
            | (refine step_append_vals _ rfl (.tmp 87) (.tmp 91) 54 rfl Tryd.underlying54 info_nat w5.heap.size v1 (vs.take q) (by simp [Act.eval]) hO6 ⟨bA, oA, none⟩ 0 0 (vs.drop (q + 1)) (by simp [Act.eval]) HL20.out (by intro j u hj; have := (List.getElem?_eq_some_iff.1 hj).1; rw [HL20.out] at this; omega) (fun u hu => HONE.out u (List.mem_of_mem_drop hu)) (by rw [HL1.out]; omega) (by have := hb6.size; exact this) ?_; intro v2 w7 hO7 hb7))
          all_goals
            clear hqi hq0 hqt
            have hb57 : Below w5.heap.size w5 w7 := (((Below.refl _ w5).drew).trans hb6).trans hb7
            have hqv : q < vs.length := by rw [← HN.out]; exact hqn
            have hql : q < ls.length := by rw [HLS.out]; exact hqv
            have helq := HEL.out q hqv
            obtain ⟨aq, cq, hvq, hq1, hq2, hrq, hlq⟩ := helq.below (hw5.trans (hb57.mono hw5.size))
            have hcq : w7.cell? ⟨bA, oA + q, none⟩ = some (.slice aq (ls.getD q []).length cq) := by
              have hc := HCA.out q (vs.getD q undef) (by rw [List.getD_eq_getElem?_getD, List.getElem?_eq_getElem hqv]; rfl)
              rw [hb57.cell (p := ⟨bA, oA + q, none⟩) (World.block_lt_of_cell? _ _ hc), hc, hvq]
            have hcut := sumv_cut hql
            have hcutn := sumv_nonneg (ls := ls.take q ++ ls.drop (q + 1)) (by
              intro l hl
              have hm : l ∈ ls := by
                rcases List.mem_append.1 hl with h | h
                · exact List.mem_of_mem_take h
                · exact List.mem_of_mem_drop h
              obtain ⟨j, hj, rfl⟩ := List.getElem_of_mem hm
              have := (HEL.out j (by rw [← HLS.out]; exact hj)).lim
              rwa [List.getD_eq_getElem?_getD, List.getElem?_eq_getElem hj] at this)
            obtain ⟨aR, cR, rfl, hR1, hR2, hrR⟩ := hO7.form
            have HCUT := Lib.hid hcut
            have HLV : Hid ((vs.take q ++ vs.drop (q + 1)).length = n - 1) := by show _ = _; rw [List.length_append, HL1.out, HL2.out]; omega
            have HLL : Hid ((ls.take q ++ ls.drop (q + 1)).length = (vs.take q ++ vs.drop (q + 1)).length) := by show _ = _; rw [List.length_append, List.length_append, List.length_take, List.length_take, List.length_drop, List.length_drop, HLS.out]
            have HELR : Hid (∀ j, j < (vs.take q ++ vs.drop (q + 1)).length → RdV w ((vs.take q ++ vs.drop (q + 1)).getD j undef) ((ls.take q ++ ls.drop (q + 1)).getD j [])) := by
              intro j hj
              rw [HLV.out] at hj
              rw [getD_cut vs undef (by omega), getD_cut ls [] (by omega)]
              by_cases hjq : j < q
              · rw [if_pos hjq, if_pos hjq]; exact HEL.out j (by omega)
              · rw [if_neg hjq, if_neg hjq]; exact HEL.out (j + 1) (by rw [← HN.out]; omega)
            have HLENR : Hid (∀ j, ((ls.take q ++ ls.drop (q + 1)).getD j []).length < MaxW) := by
              intro j
              rw [getD_cut ls [] (by omega)]
              by_cases hjq : j < q
              · rw [if_pos hjq]; have := HLEN.out j; unfold MaxW; omega
              · rw [if_neg hjq]; have := HLEN.out (j + 1); unfold MaxW; omega
            rw [HLV.out] at hR1 ⊢
            have hlenq := HLEN.out q
            obtain ⟨nq, hnq⟩ : ∃ nq, nq = (ls.getD q []).length := ⟨_, rfl⟩
            rw [← hnq] at hcq hq1 hlenq
            have HNQ := Lib.hid hnq
            have hle : vb B64 (ls.getD q []) ≤ vb B64 lA := by rw [HVA.out, HCUT.out]; omega
            have hnV : nV ≤ MaxW := by
              have h1 := sumv_small (ls := ls) (m := 12) (by rw [HLS.out, ← HN.out]; omega) (fun l hl => by
                obtain ⟨j, hj, rfl⟩ := List.getElem_of_mem hl
                have h1 := (HEL.out j (by rw [← HLS.out]; exact hj)).lim
                have h2 := HLEN.out j
                rw [List.getD_eq_getElem?_getD, List.getElem?_eq_getElem hj] at h1 h2
                exact ⟨h1, h2⟩)
              have h3 : lA.length ≤ 41 := by
                by_cases hl : lA = []
                · subst hl; simp
                · have h4 := hcA.ge B64_pos hl
                  rcases Nat.lt_or_ge 41 lA.length with h5 | h5
                  · have := pow_le_pow B64_pos (show 41 ≤ lA.length - 1 by omega)
                    rw [HVA.out] at h4
                    have e41 : B64 ^ 41 = 18446744073709551616 * B64 ^ 40 := by rw [show 41 = 40 + 1 from rfl, Int.pow_succ, Int.mul_comm]; rfl
                    have e40 := pow_pos' B64_pos 40
                    omega
                  · exact h5
              have := HNV.out
              unfold MaxW; omega
            have hrV7 := hrV5.below hb57
            clear hcut hcutn hvq hnq hO7 hb6 hb7 hO6 hqle hqle2 hqle3 helq
            go_wp2_with fail
            refine (sub_yes aV nV cV lA aq nq cq (ls.getD q []) w7 HNV.out HNQ.out hV1 hV2 hq1 hq2 hrV7 hrq hcA.lim hlq hle hnV).mono ?_
            rintro e w8 ⟨v3, l3, rfl, hO8, hc8, hv8, hb78⟩
            obtain ⟨a8, c8, rfl, h81, h82, hr8⟩ := hO8.form
            obtain ⟨n8, hn8⟩ : ∃ n8, n8 = l3.length := ⟨_, rfl⟩
            rw [← hn8] at h81 ⊢
            have HN8 := Lib.hid hn8
            have HV8 := Lib.hid hv8
            clear hn8 hv8
            go_wp2_with fail
            refine (add_any aR (n - 1) cR _ _ w8 HLV.out.symm HLL.out hR1 hR2 (hrR.below hb78) (fun j hj => (HELR.out j hj).below ((hw5.trans (hb57.mono hw5.size)).trans (hb78.mono (Nat.le_trans hw5.size hb57.size)))) HLENR.out (by omega)).mono ?_
            rintro e w9 ⟨v9, l9, rfl, hO9, hc9, hv9, hb89⟩
            obtain ⟨a9, c9, rfl, h91, h92, hr9⟩ := hO9.form
            obtain ⟨n9, hn9⟩ : ∃ n9, n9 = l9.length := ⟨_, rfl⟩
            rw [← hn9] at h91 ⊢
            have HN9 := Lib.hid hn9
            have hcmp := cmp_any a8 n8 c8 l3 a9 n9 c9 l9 w9 HN8.out HN9.out h81 h82 h91 h92 (hr8.below hb89) hr9 hc8.lim hc9.lim
            rw [cmpI_eq (by rw [HV8.out, hv9, HVA.out, HCUT.out]; omega)] at hcmp
            have HCMP := Lib.hid hcmp
            clear hn9 hv9 hcmp
            go_wp2_with fail
            refine HCMP.out.mono ?_
            rintro e w10 ⟨rfl, hb910⟩
            go_wp2_with fail
            go_ret
            have hb5 : Below w5.heap.size w5 w10 := hb57.trans ((hb78.trans ((hb89.trans (hb910.mono hb89.size)).mono hb78.size)).mono hb57.size)
            exact ⟨rfl, hw5.trans (hb5.mono hw5.size)⟩
        · go_region_law (first
            | (refine step_append_vals _ rfl (.const (.slice none 0 0)) (.tmp 86) 54 rfl Tryd.underlying54 info_nat w5.heap.size (.slice none 0 0) [] rfl (OwV.nil _ _) ⟨bA, oA, none⟩ q cA (vs.take q) (by simp [Act.eval, Act.put]) HL1.out (by intro j u hj; rw [addr_add_none]; exact HCA.out j u (by rw [List.getElem?_take] at hj; split at hj; exact hj; cases hj)) (fun u hu => HONE.out u (List.mem_of_mem_take hu)) (by simp; omega) (by exact Nat.le_refl _) ?_; intro v1 w6 hO6 hb6; rw [List.nil_append] at hO6)
            | (refine step_append_vals _ rfl (.tmp 87) (.tmp 91) 54 rfl Tryd.underlying54 info_nat w5.heap.size v1 (vs.take q) (by simp [Act.eval]) hO6 ⟨bA, oA + (q + 1), none⟩ (n - (q + 1)) (cA - (q + 1)) (vs.drop (q + 1)) (by simp [Act.eval]) HL2.out (by intro j u hj; rw [addr_add_none, Nat.add_assoc]; rw [List.getElem?_drop] at hj; have hc := HCA.out (q + 1 + j) u hj; rw [hb6.cell (p := ⟨bA, oA + (q + 1 + j), none⟩) (World.block_lt_of_cell? _ _ hc)]; exact hc) (fun u hu => HONE.out u (List.mem_of_mem_drop hu)) (by rw [HL1.out]; omega) (by have := hb6.size; exact this) ?_; intro v2 w7 hO7 hb7))
          all_goals
            clear hqi hq0 hqt
            have hb57 : Below w5.heap.size w5 w7 := (((Below.refl _ w5).drew).trans hb6).trans hb7
            have hqv : q < vs.length := by rw [← HN.out]; exact hqn
            have hql : q < ls.length := by rw [HLS.out]; exact hqv
            have helq := HEL.out q hqv
            obtain ⟨aq, cq, hvq, hq1, hq2, hrq, hlq⟩ := helq.below (hw5.trans (hb57.mono hw5.size))
            have hcq : w7.cell? ⟨bA, oA + q, none⟩ = some (.slice aq (ls.getD q []).length cq) := by
              have hc := HCA.out q (vs.getD q undef) (by rw [List.getD_eq_getElem?_getD, List.getElem?_eq_getElem hqv]; rfl)
              rw [hb57.cell (p := ⟨bA, oA + q, none⟩) (World.block_lt_of_cell? _ _ hc), hc, hvq]
            have hcut := sumv_cut hql
            have hcutn := sumv_nonneg (ls := ls.take q ++ ls.drop (q + 1)) (by
              intro l hl
              have hm : l ∈ ls := by
                rcases List.mem_append.1 hl with h | h
                · exact List.mem_of_mem_take h
                · exact List.mem_of_mem_drop h
              obtain ⟨j, hj, rfl⟩ := List.getElem_of_mem hm
              have := (HEL.out j (by rw [← HLS.out]; exact hj)).lim
              rwa [List.getD_eq_getElem?_getD, List.getElem?_eq_getElem hj] at this)
            obtain ⟨aR, cR, rfl, hR1, hR2, hrR⟩ := hO7.form
            have HCUT := Lib.hid hcut
            have HLV : Hid ((vs.take q ++ vs.drop (q + 1)).length = n - 1) := by show _ = _; rw [List.length_append, HL1.out, HL2.out]; omega
            have HLL : Hid ((ls.take q ++ ls.drop (q + 1)).length = (vs.take q ++ vs.drop (q + 1)).length) := by show _ = _; rw [List.length_append, List.length_append, List.length_take, List.length_take, List.length_drop, List.length_drop, HLS.out]
            have HELR : Hid (∀ j, j < (vs.take q ++ vs.drop (q + 1)).length → RdV w ((vs.take q ++ vs.drop (q + 1)).getD j undef) ((ls.take q ++ ls.drop (q + 1)).getD j [])) := by
              intro j hj
              rw [HLV.out] at hj
              rw [getD_cut vs undef (by omega), getD_cut ls [] (by omega)]
              by_cases hjq : j < q
              · rw [if_pos hjq, if_pos hjq]; exact HEL.out j (by omega)
              · rw [if_neg hjq, if_neg hjq]; exact HEL.out (j + 1) (by rw [← HN.out]; omega)
            have HLENR : Hid (∀ j, ((ls.take q ++ ls.drop (q + 1)).getD j []).length < MaxW) := by
              intro j
              rw [getD_cut ls [] (by omega)]
              by_cases hjq : j < q
              · rw [if_pos hjq]; have := HLEN.out j; unfold MaxW; omega
              · rw [if_neg hjq]; have := HLEN.out (j + 1); unfold MaxW; omega
            rw [HLV.out] at hR1 ⊢
            have hlenq := HLEN.out q
            obtain ⟨nq, hnq⟩ : ∃ nq, nq = (ls.getD q []).length := ⟨_, rfl⟩
            rw [← hnq] at hcq hq1 hlenq
            have HNQ := Lib.hid hnq
            have hle : vb B64 (ls.getD q []) ≤ vb B64 lA := by rw [HVA.out, HCUT.out]; omega
            have hnV : nV ≤ MaxW := by
              have h1 := sumv_small (ls := ls) (m := 12) (by rw [HLS.out, ← HN.out]; omega) (fun l hl => by
                obtain ⟨j, hj, rfl⟩ := List.getElem_of_mem hl
                have h1 := (HEL.out j (by rw [← HLS.out]; exact hj)).lim
                have h2 := HLEN.out j
                rw [List.getD_eq_getElem?_getD, List.getElem?_eq_getElem hj] at h1 h2
                exact ⟨h1, h2⟩)
              have h3 : lA.length ≤ 41 := by
                by_cases hl : lA = []
                · subst hl; simp
                · have h4 := hcA.ge B64_pos hl
                  rcases Nat.lt_or_ge 41 lA.length with h5 | h5
                  · have := pow_le_pow B64_pos (show 41 ≤ lA.length - 1 by omega)
                    rw [HVA.out] at h4
                    have e41 : B64 ^ 41 = 18446744073709551616 * B64 ^ 40 := by rw [show 41 = 40 + 1 from rfl, Int.pow_succ, Int.mul_comm]; rfl
                    have e40 := pow_pos' B64_pos 40
                    omega
                  · exact h5
              have := HNV.out
              unfold MaxW; omega
            have hrV7 := hrV5.below hb57
            clear hcut hcutn hvq hnq hO7 hb6 hb7 hO6 hqle hqle2 hqle3 helq
            go_wp2_with fail
            refine (sub_yes aV nV cV lA aq nq cq (ls.getD q []) w7 HNV.out HNQ.out hV1 hV2 hq1 hq2 hrV7 hrq hcA.lim hlq hle hnV).mono ?_
            rintro e w8 ⟨v3, l3, rfl, hO8, hc8, hv8, hb78⟩
            obtain ⟨a8, c8, rfl, h81, h82, hr8⟩ := hO8.form
            obtain ⟨n8, hn8⟩ : ∃ n8, n8 = l3.length := ⟨_, rfl⟩
            rw [← hn8] at h81 ⊢
            have HN8 := Lib.hid hn8
            have HV8 := Lib.hid hv8
            clear hn8 hv8
            go_wp2_with fail
            refine (add_any aR (n - 1) cR _ _ w8 HLV.out.symm HLL.out hR1 hR2 (hrR.below hb78) (fun j hj => (HELR.out j hj).below ((hw5.trans (hb57.mono hw5.size)).trans (hb78.mono (Nat.le_trans hw5.size hb57.size)))) HLENR.out (by omega)).mono ?_
            rintro e w9 ⟨v9, l9, rfl, hO9, hc9, hv9, hb89⟩
            obtain ⟨a9, c9, rfl, h91, h92, hr9⟩ := hO9.form
            obtain ⟨n9, hn9⟩ : ∃ n9, n9 = l9.length := ⟨_, rfl⟩
            rw [← hn9] at h91 ⊢
            have HN9 := Lib.hid hn9
            have hcmp := cmp_any a8 n8 c8 l3 a9 n9 c9 l9 w9 HN8.out HN9.out h81 h82 h91 h92 (hr8.below hb89) hr9 hc8.lim hc9.lim
            rw [cmpI_eq (by rw [HV8.out, hv9, HVA.out, HCUT.out]; omega)] at hcmp
            have HCMP := Lib.hid hcmp
            clear hn9 hv9 hcmp
            go_wp2_with fail
            refine HCMP.out.mono ?_
            rintro e w10 ⟨rfl, hb910⟩
            go_wp2_with fail
            go_ret
            have hb5 : Below w5.heap.size w5 w10 := hb57.trans ((hb78.trans ((hb89.trans (hb910.mono hb89.size)).mono hb78.size)).mono hb57.size)
            exact ⟨rfl, hw5.trans (hb5.mono hw5.size)⟩
end Go.Proofs.YtmbkhapldbeocaaDoor
