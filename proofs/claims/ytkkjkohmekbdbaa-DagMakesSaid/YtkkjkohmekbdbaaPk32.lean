/-
  DagMk: compasslaw9.DagMakes.
-/
import Derived.Test.YtkkjkohmekbdbaaPk27

namespace Go.Proofs.Ytkkjkohmekbdbaa
open Go.RowKit

set_option maxRecDepth 100000 in
set_option maxHeartbeats 60000000 in
theorem makes_ok (C : DagC) {w : World} {a1 a2 : Option Addr} {n1 c1 n2 c2 : Nat} {ls : List Nat} {ids : List Int} (v : Int) (hv : -9223372036854775808 ≤ v ∧ v ≤ 9223372036854775807) (hn1 : n1 = ls.length) (hr1 : RdF w a1 ls) (hrb1 : ∀ b off, a1 = some ⟨b, off, none⟩ → ls ≠ [] → b < w.heap.size) (hrg1 : ∀ x ∈ ls, x < 18446744073709551616)
    (hn2 : n2 = ids.length) (hc2 : n2 ≤ c2) (hr2 : RdJ w a2 ids) (hrb2 : ∀ b off, a2 = some ⟨b, off, none⟩ → ids ≠ [] → b < w.heap.size) :
    Calls Try.prog 3 #[.slice a1 n1 c1, .int .i64 v, .slice a2 n2 c2] w fun e w' => RetV w (.bool true) e w' := by
  have HA := Lib.hid (dalive C)
  have HN1 := Lib.hid hn1
  have HF1 := Lib.hid hr1
  have HFB := Lib.hid hrb1
  have HFV := Lib.hid hrg1
  have HN2 := Lib.hid hn2
  have HC2 := Lib.hid hc2
  have HR2 := Lib.hid hr2
  have HRB := Lib.hid hrb2
  clear hn1 hr1 hrb1 hrg1 hn2 hc2 hr2 hrb2
  by_cases h1 : 20 < n1
  · have d1 : decide ((20 : Int) < (n1 : Int)) = true := by simp; omega
    go_enter Try.func3, Try.ntmps3
    go_wp2_with fail
    refine (HA.out _).mono ?_
    rintro e w1 ⟨rfl, hb1⟩
    go_wp2_with fail
    go_ret
    exact ⟨rfl, hb1⟩
  · have d1 : decide ((20 : Int) < (n1 : Int)) = false := by simp; omega
    by_cases h2 : 12 < n2
    · have d2 : decide ((12 : Int) < (n2 : Int)) = true := by simp; omega
      go_enter Try.func3, Try.ntmps3
      go_wp2_with fail
      refine (HA.out _).mono ?_
      rintro e w1 ⟨rfl, hb1⟩
      go_wp2_with fail
      go_ret
      exact ⟨rfl, hb1⟩
    · have d2 : decide ((12 : Int) < (n2 : Int)) = false := by simp; omega
      go_enter Try.func3, Try.ntmps3
      go_wp2_with fail
      refine (HA.out _).mono ?_
      rintro e w1 ⟨rfl, hb1⟩
      go_wp2_with fail
      refine (C.new w1 false).mono ?_
      rintro e w2 ⟨d, F, rfl, hD, hF, hb2⟩
      obtain ⟨dq, rfl⟩ := C.form hD
      obtain ⟨w3, hw3⟩ : ∃ w3, w2.alloc (.cells #[.slice none 0 0, .bool false] 30) = w3 := ⟨_, rfl⟩
      have hb23 : Below w2.heap.size w2 w3 := hw3 ▸ below_alloc w2 _
      have hb2' := hb1.trans (hb2.mono hb1.size)
      have hb3 : Below w.heap.size w w3 := hb2'.trans (hb23.mono hb2'.size)
      have hs1 := hb1.size
      have hs2 := hb2'.size
      have hS3 : SP C w.heap.size w3 (.pointer (some ⟨dq, 0, none⟩)) w2.heap.size [] [] false := by
        refine ⟨F, .slice none 0 0, C.keep hD (fun k hk => hb23.block k (C.lt hD k hk)), ⟨hw3 ▸ heap_alloc_new w2 _, OwN.nil _ _, hs2⟩, fun k hk => ⟨Nat.le_trans hs1 (hF k hk), fun hf => ?_⟩⟩
        rcases hf with rfl | hf
        · exact Nat.lt_irrefl _ (C.lt hD _ hk)
        · exact nomatch hf
      obtain ⟨g, hg⟩ : ∃ g, w2.heap.size = g := ⟨_, rfl⟩
      rw [hg] at hS3
      clear hb1 hb2 hb2' hb23 hD hF hs1 hs2
      go_wp2_with fail
      go_loopw [9] (fun i wr => ∃ (k : Nat) (L : List Nd), k ≤ n1 ∧ i = .int .i64 k ∧ L.length ≤ k ∧ SP C w.heap.size wr (.pointer (some ⟨dq, 0, none⟩)) g L L false ∧ Below w.heap.size w wr) (fun i _ => n1 - (intOf i).toNat)
      case atStart => exact ⟨0, [], Nat.zero_le _, rfl, Nat.le_refl _, hS3, hb3⟩
      case round =>
        obtain ⟨k, L, hk, rfl, hlen, hsp, hb0⟩ := hrel
        clear hS3 hb3
        by_cases hlt : k < n1
        · have hne : ls ≠ [] := by intro e; have := HN1.out; subst e; simp at this; omega
          obtain ⟨b0, o0, rfl⟩ := HF1.out.some hne
          obtain ⟨x, hx⟩ : ∃ x, ls[k]? = some x := ⟨ls[k]'(by have := HN1.out; omega), by rw [List.getElem?_eq_getElem]⟩
          have c0 : wr.cell? ⟨b0, o0 + k, none⟩ = some (.float .f64 x) := (HF1.out.below hb0 HFB.out).at hx
          have hxv := HFV.out x (List.mem_of_getElem? hx)
          have HX := Lib.hid hx
          have hSd := hsp.below (Below.refl _ wr).drew
          have hbs : w.heap.size ≤ wr.drew.heap.size := hb0.size
          have hl2 := nput_le false L (0, x, 0, 0)
          have HSd := Lib.hid hSd
          clear hx hne hsp hSd
          go_wp2_with fail
          go_region_law (go_simp; first
            | (go_at_call 8; refine (HSd.out.dag hbs (fun F hD _ => C.leaf x hD (by omega) hxv)).mono ?_; rintro e wA ⟨rfl, hA, hbA⟩; have HA1 := Lib.hid hA; have hbA0 := hb0.drew.trans hbA; have cA : wA.cell? ⟨b0, o0 + k, none⟩ = some (.float .f64 x) := (HF1.out.below hbA0 HFB.out).at HX.out; clear hA)
            | (go_at_call 9; refine (HA1.out.put hbA0.size (by omega) (0, x, 0, 0) hxv).mono ?_; rintro e wB ⟨rfl, hB, hbB⟩; have HB1 := Lib.hid hB; have hbB0 := hbA0.trans hbB; clear hB))
          all_goals
            go_wp2_with fail
            go_roundw
            case rel => exact ⟨k + 1, (nput false L (0, x, 0, 0)).2, by omega, by go_num, by omega, HB1.out, hbB0⟩
            case measure => simp [intOf]; omega
        · have hkn : k = n1 := by omega
          have hLn : L.length ≤ 20 := by omega
          have hfv := floatOfInt_lt v
          obtain ⟨fw, hfw⟩ : ∃ fw, floatOfInt .f64 v = fw := ⟨_, rfl⟩
          rw [hfw] at hfv
          clear hlt hk
          by_cases hlo : v < -9007199254740992
          · have d3 : decide ((-9007199254740992 : Int) ≤ v) = false := by simp; omega
            have hgl : True := trivial
            have hni : nint false L v = (none, L) := by unfold nint; rw [if_neg (by omega)]
            have HNI := Lib.hid hni
            clear hni
            go_wp2_with fail
            refine (hsp.dag hb0.size (r := (none, L)) (fun F hD _ => by have h9 := C.int v hD (by omega) hv.1 hv.2; rw [HNI.out] at h9; exact h9)).mono ?_
            rintro e wy ⟨rfl, hsy, hby⟩
            have hby0 := hb0.trans hby
            clear hsp hb0 hby
            obtain ⟨W0, hW0⟩ : ∃ W0, wy = W0 := ⟨_, rfl⟩
            obtain ⟨M, hM⟩ : ∃ M, L = M := ⟨_, rfl⟩
            have HS : Hid (SP C w.heap.size W0 (.pointer (some ⟨dq, 0, none⟩)) g M M false) := Lib.hid (by rw [← hW0, ← hM]; exact hsy)
            have hbM : Below w.heap.size w W0 := hW0 ▸ hby0
            have hMl : M.length ≤ 21 := by rw [← hM]; omega
            rw [hW0]
            clear hW0 hM
            by_cases hz : n2 = 0
            · have hids : ids = [] := List.eq_nil_of_length_eq_zero (by have := HN2.out; omega)
              subst hz
              have HSt := Lib.hid (HS.out.below (Below.refl _ W0).drew)
              have hbw := hbM.drew
              have g1 := nput_le false M (0, 0, 0, 0)
              have g2 := nput_le false (nput false M (0, 0, 0, 0)).2 (0, F1, 0, 0)
              clear HS hbM
              go_wp2_with fail
              go_region_law (go_simp; first
                | (go_at_call 11; refine (HSt.out.dag hbw.size (r := nput false M (0, 0, 0, 0)) (fun F hD _ => C.add none 0 0 [] hD (by simp; omega) rfl (Nat.le_refl _) (Or.inl rfl) (fun _ _ e => nomatch e))).mono ?_; rintro e wA ⟨rfl, hA, hbA⟩; clear HSt; have HSt := Lib.hid hA; replace hbw := hbw.trans hbA; clear hA hbA)
                | (go_at_call 12; refine (HSt.out.dag hbw.size (r := nput false (nput false M (0, 0, 0, 0)).2 (0, F1, 0, 0)) (fun F hD _ => C.mul none 0 0 [] hD (by simp; omega) rfl (Nat.le_refl _) (Or.inl rfl) (fun _ _ e => nomatch e))).mono ?_; rintro e wC ⟨rfl, hC, hbC⟩; clear HSt; have HSt := Lib.hid hC; replace hbw := hbw.trans hbC; clear hC hbC)
                | (go_at_call 9; refine (HSt.out.put hbw.size (by omega) (0, _, 0, 0) (by decide)).mono ?_; rintro e wB ⟨rfl, hB, hbB⟩; clear HSt; have HSt := Lib.hid hB; replace hbw := hbw.trans hbB; obtain ⟨ra, rc, q0, hrd⟩ := hB.row; have HRD := Lib.hid hrd; clear hB hrd hbB)
                | (go_at_call 14; refine HSt.out.all.mono ?_; rintro e wE ⟨ea, ec, rfl, hre, hE, hbE⟩; have HRE := Lib.hid hre; have HRD2 := Lib.hid (HRD.out.below hbE); replace hbw := hbw.trans (hbE.mono hbw.size); have q1 : wE.cell? ⟨g, 0, none⟩ = some (.slice ra _ rc) := cell_after hbE q0; clear hre hE)
                | (go_at_call 13; refine (samen_yes rfl rfl HRE.out HRD2.out (by omega)).mono ?_; rintro e wF ⟨rfl, hbF⟩; replace hbw := hbw.trans (hbF.mono hbw.size)))
              all_goals
                go_wp2_with fail
                go_ret
                exact ⟨rfl, hbw⟩
            · have hids : ids ≠ [] := by intro e; have := HN2.out; rw [e] at this; simp at this; omega
              obtain ⟨z0, z1, z2⟩ := bne_of (x := (n2 : Int)) (y := 0) (by omega)
              obtain ⟨b0, o0, rfl, -⟩ := HR2.out.some hids
              obtain ⟨i0, hi0⟩ : ∃ x, ids[0]? = some x := ⟨ids[0]'(List.length_pos_iff.2 hids), by rw [List.getElem?_eq_getElem]⟩
              have hi0' : ∀ wz, Below w.heap.size w wz → wz.cell? ⟨b0, o0, none⟩ = some (.int .i64 i0) := fun wz hz => (HR2.out.below hz HRB.out).at (j := 0) hi0
              have HI0 := Lib.hid hi0'
              have HOFF : Hid (∀ (F : Nat → Prop) (wz : World), (∀ k, F k → w.heap.size ≤ k) → Below w.heap.size w wz → ∀ b off, some (⟨b0, o0, none⟩ : Addr) = some ⟨b, off, none⟩ → ¬ F b ∧ b < wz.heap.size) := Lib.hid fun F wz hF hz b off e => by
                have hlt := HRB.out b off e hids
                have hsz := hz.size
                exact ⟨fun hf => by have := hF b hf; omega, by omega⟩
              have hn2 : 0 < n2 := by omega
              clear hi0 hi0'
              go_wp2_with fail
              have H1 := HS.out.chain (c := c2) hbM.size (by omega) 1 HN2.out hids (by omega) (HR2.out.below hbM HRB.out) HRB.out
              obtain ⟨r1, hr1⟩ : ∃ r, nchain0 false 1 M ids = r := ⟨_, rfl⟩
              have hl1 := nchain0_le false 1 M ids
              rw [hr1] at H1 hl1
              have HE1 := Lib.hid ((nmany_eq false 1 0 M ids hids).trans hr1)
              clear hr1
              refine H1.mono ?_
              rintro e wa ⟨rfl, h1, hb1⟩
              have hba := hbM.trans hb1
              clear H1 HS hbM hb1
              go_wp2_with fail
              refine (h1.dag hba.size (r := r1) (fun F hD hF => by have h9 := C.add (some ⟨b0, o0, none⟩) c2 n2 ids hD (by have := HN2.out; omega) HN2.out HC2.out (HR2.out.below hba HRB.out) (HOFF.out F wa hF hba); rw [HE1.out] at h9; exact h9)).mono ?_
              rintro e wb ⟨rfl, h3, hb3⟩
              have hbb := hba.trans hb3
              clear h1 hba hb3
              go_wp2_with fail
              have hln := HN2.out
              have H3 := h3.chain (c := c2) hbb.size (by omega) 3 HN2.out hids (by omega) (HR2.out.below hbb HRB.out) HRB.out
              obtain ⟨r2, hr2⟩ : ∃ r, nchain0 false 3 r1.2 ids = r := ⟨_, rfl⟩
              have hl2 := nchain0_le false 3 r1.2 ids
              rw [← hln] at hl1 hl2
              rw [hr2] at H3 hl2
              have HE2 := Lib.hid ((nmany_eq false 3 F1 r1.2 ids hids).trans hr2)
              clear hr2 hln
              refine H3.mono ?_
              rintro e wc ⟨rfl, h4, hb4⟩
              have hbc := hbb.trans hb4
              clear H3 h3 hbb hb4
              go_wp2_with fail
              refine (h4.dag hbc.size (r := r2) (fun F hD hF => by have h9 := C.mul (some ⟨b0, o0, none⟩) c2 n2 ids hD (by have := HN2.out; omega) HN2.out HC2.out (HR2.out.below hbc HRB.out) (HOFF.out F wc hF hbc); rw [HE2.out] at h9; exact h9)).mono ?_
              rintro e wd ⟨rfl, h5, hb5⟩
              have hbd := hbc.trans hb5
              clear h4 hbc hb5
              go_wp2_with fail
              have H5 := h5.put hbd.size (by omega) (4, 0, idI r1.1, idI r2.1) (show (0 : Nat) < 18446744073709551616 by decide)
              obtain ⟨r3, hr3⟩ : ∃ r, nput false r2.2 (4, 0, idI r1.1, idI r2.1) = r := ⟨_, rfl⟩
              have hl3 := nput_le false r2.2 (4, 0, idI r1.1, idI r2.1)
              rw [hr3] at H5 hl3
              have HE3 := Lib.hid hr3
              clear hr3
              refine H5.mono ?_
              rintro e we ⟨rfl, h6, hb6⟩
              have hbe := hbd.trans hb6
              clear H5 h5 hbd hb6
              go_wp2_with fail
              have H6 := h6.put hbe.size (by omega) (5, 0, idI r3.1, 0) (show (0 : Nat) < 18446744073709551616 by decide)
              obtain ⟨r4, hr4⟩ : ∃ r, nput false r3.2 (5, 0, idI r3.1, 0) = r := ⟨_, rfl⟩
              have hl4 := nput_le false r3.2 (5, 0, idI r3.1, 0)
              rw [hr4] at H6 hl4
              have HE4 := Lib.hid hr4
              clear hr4
              refine H6.mono ?_
              rintro e wf ⟨rfl, h7, hb7⟩
              have hbf := hbe.trans hb7
              have cf := HI0.out wf hbf
              clear H6 h6 hbe hb7
              go_wp2_with fail
              have H7 := h7.put hbf.size (by omega) (2, 0, idI r4.1, i0) (show (0 : Nat) < 18446744073709551616 by decide)
              obtain ⟨r5, hr5⟩ : ∃ r, nput false r4.2 (2, 0, idI r4.1, i0) = r := ⟨_, rfl⟩
              have hl5 := nput_le false r4.2 (2, 0, idI r4.1, i0)
              rw [hr5] at H7 hl5
              have HE5 := Lib.hid hr5
              clear hr5
              refine H7.mono ?_
              rintro e wg ⟨rfl, h8, hb8⟩
              obtain ⟨ra, rc, hspv⟩ := h8.named
              obtain ⟨p5, hp5⟩ : ∃ p, r5.2.length = p := ⟨_, rfl⟩
              rw [hp5] at hspv
              have hS0 : ∀ tm, S26 C w.heap.size w dq g ra rc r2.2 r3.2 r4.2 r5.2 p5 (Array.replicate 43 false) tm wg.drew := fun tm =>
                ⟨⟨(hbf.trans hb8).drew, Nat.le_refl _⟩, Or.inl ⟨by decide, by decide, by decide, by decide, hspv.below (Below.refl _ wg).drew⟩, hp5⟩
              have hq2 : r2.2.length ≤ 10000 := by omega
              have hq3 : r3.2.length ≤ 10000 := by omega
              have hq4 : r4.2.length ≤ 10000 := by omega
              have hq5 : r5.2.length ≤ 1000000 := by omega
              have HDIV : Hid (∀ F wz, C.D wz (.pointer (some ⟨dq, 0, none⟩)) r2.2 false F → Calls Try.prog 16 #[.pointer (some ⟨dq, 0, none⟩), .int .i64 (idI r1.1), .int .i64 (idI r2.1)] wz fun e w' => RetD C.D wz (.pointer (some ⟨dq, 0, none⟩)) r3.2 false F (.int .i64 (idI r3.1)) e w') := Lib.hid fun F wz hD => by have h9 := C.div (idI r1.1) (idI r2.1) hD hq2; rw [HE3.out] at h9; exact h9
              have HROOT : Hid (∀ F wz, C.D wz (.pointer (some ⟨dq, 0, none⟩)) r3.2 false F → Calls Try.prog 17 #[.pointer (some ⟨dq, 0, none⟩), .int .i64 (idI r3.1)] wz fun e w' => RetD C.D wz (.pointer (some ⟨dq, 0, none⟩)) r4.2 false F (.int .i64 (idI r4.1)) e w') := Lib.hid fun F wz hD => by have h9 := C.root (idI r3.1) hD hq3; rw [HE4.out] at h9; exact h9
              have HSUB : Hid (∀ F wz, C.D wz (.pointer (some ⟨dq, 0, none⟩)) r4.2 false F → Calls Try.prog 18 #[.pointer (some ⟨dq, 0, none⟩), .int .i64 (idI r4.1), .int .i64 i0] wz fun e w' => RetD C.D wz (.pointer (some ⟨dq, 0, none⟩)) r5.2 false F (.int .i64 (idI r5.1)) e w') := Lib.hid fun F wz hD => by have h9 := C.sub (idI r4.1) i0 hD hq4; rw [HE5.out] at h9; exact h9
              clear H7 h7 hbf hb8 cf h8 hspv HA HN1 HF1 HFB HFV HN2 HR2 HRB h1 h2 d1 d2 hlen hLn hfv hgl HNI hMl hz hids z0 z1 z2 HOFF HE1 HE2 HE3 HE4 HE5 hl1 hl2 hl3 hl4 hl5
              go_upto_region 26 with fail
              refine wp_region_slotsm (by kernel_rfl) [126, 127, 128, 129, 130, 131, 132, 133, 134, 135, 136, 137, 138, 139, 140, 141, 142, 143, 144, 145, 146, 147, 148, 149, 150, 151, 152, 153, 154, 155, 156, 157, 158, 159, 160, 161, 162, 163, 164, 165, 166, 167, 6] (S26 C w.heap.size w dq g ra rc r2.2 r3.2 r4.2 r5.2 p5) (SaidV [Is0 (.int .i64 (idI r1.1)), Is0 (.int .i64 (idI r1.1)), Is0 (.bool true), Is0 (.bool true), Is0 (.int .i64 (idI r2.1)), Is0 (.int .i64 (idI r2.1)), Is0 (.bool true), Is0 (.bool true), Is0 (.bool true), Is0 (.pointer (some ⟨dq, 0, none⟩)), Is0 (.int .i64 (idI r1.1)), Is0 (.int .i64 (idI r2.1)), Is0 (.int .i64 (idI r3.1)), Is0 (.int .i64 (idI r3.1)), Is0 (.bool true), Is0 (.bool true), Is0 (.bool true), Is0 (.pointer (some ⟨dq, 0, none⟩)), Is0 (.int .i64 (idI r3.1)), Is0 (.int .i64 (idI r4.1)), Is0 (.int .i64 (idI r4.1)), Is0 (.bool true), Is0 (.bool true), Is0 (.bool true), Is0 (.pointer (some ⟨dq, 0, none⟩)), Is0 (.int .i64 (idI r4.1)), Is0 (.slice (some ⟨b0, o0, none⟩) n2 c2), Is0 (.pointer (some ⟨b0, o0, none⟩)), Is0 (.int .i64 i0), Is0 (.int .i64 (idI r5.1)), Is0 (.int .i64 (idI r5.1)), Is0 (.bool true), Is0 (.bool true), Is0 (.bool true), Is0 (.pointer (some ⟨dq, 0, none⟩)), IsRowV p5, Is0 (.pointer (some ⟨g, 0, none⟩)), Is0 (.pointer (some ⟨g, 0, none⟩)), Is0 (.pointer (some ⟨g, 0, none⟩)), Is0 (.slice ra p5 rc), Is0 (.bool true), Is0 (.bool true), Is0 (.bool true)]) (by kernel_rfl) (by kernel_rfl) (by kernel_rfl) (by kernel_rfl) (hS0 _) (l := [0, 1, 2, 3, 4, 5, 6, 7, 8, 9, 10, 11, 12, 13, 14, 15, 16, 17, 18, 19, 20, 21, 22, 23, 24, 25, 26, 27, 28, 29, 30, 31, 32, 33, 34, 35, 36, 37, 38, 39, 40, 41, 42]) (by kernel_rfl) ?stepM2 ?finM2
              case stepM2 =>
                refine List.forall_mem_cons.2 ⟨?_, ?_⟩
                · refine SlotStepM.plain rfl rfl rfl ?_
                  intro listed tm ws hsz hcl hsame hSS hun hg K hK
                  have e12 : tm[12]? = some (.int .i64 (idI r1.1)) := hsame.2 12 rfl
                  go_simp
                  exact hK _ _ (hSS.stay (by decide) (by decide) (Below.refl _ _)) rfl
                refine List.forall_mem_cons.2 ⟨?_, ?_⟩
                · refine SlotStepM.plain rfl rfl rfl ?_
                  intro listed tm ws hsz hcl hsame hSS hun hg K hK
                  have e11 : tm[11]? = some (.int .i64 (idI r1.1)) := hsame.2 11 rfl
                  go_simp
                  exact hK _ _ (hSS.stay (by decide) (by decide) (Below.refl _ _)) rfl
                refine List.forall_mem_cons.2 ⟨?_, ?_⟩
                · refine SlotStepM.plain rfl rfl rfl ?_
                  intro listed tm ws hsz hcl hsame hSS hun hg K hK
                  obtain ⟨v126, e126, g126⟩ := (hg 0 (by kernel_rfl)).2 _ 126 rfl rfl
                  obtain rfl := g126
                  obtain ⟨v127, e127, g127⟩ := (hg 1 (by kernel_rfl)).2 _ 127 rfl rfl
                  obtain rfl := g127
                  go_simp
                  exact hK _ _ (hSS.stay (by decide) (by decide) (Below.refl _ _)) rfl
                refine List.forall_mem_cons.2 ⟨?_, ?_⟩
                · refine SlotStepM.plain rfl rfl rfl ?_
                  intro listed tm ws hsz hcl hsame hSS hun hg K hK
                  obtain ⟨v128, e128, g128⟩ := (hg 2 (by kernel_rfl)).2 _ 128 rfl rfl
                  obtain rfl := g128
                  go_simp
                  exact hK _ _ (hSS.stay (by decide) (by decide) (Below.refl _ _)) rfl
                refine List.forall_mem_cons.2 ⟨?_, ?_⟩
                · refine SlotStepM.guarded rfl rfl 3 true rfl rfl (by kernel_rfl) (fun _ h => h) ?_
                  intro listed tm ws hsz hcl hsame hSS hun hg K hK
                  have e14 : tm[14]? = some (.int .i64 (idI r2.1)) := hsame.2 14 rfl
                  go_simp
                  exact hK _ _ (hSS.stay (by decide) (by decide) (Below.refl _ _)) rfl
                refine List.forall_mem_cons.2 ⟨?_, ?_⟩
                · refine SlotStepM.guarded rfl rfl 3 true rfl rfl (by kernel_rfl) (fun _ h => h) ?_
                  intro listed tm ws hsz hcl hsame hSS hun hg K hK
                  have e13 : tm[13]? = some (.int .i64 (idI r2.1)) := hsame.2 13 rfl
                  go_simp
                  exact hK _ _ (hSS.stay (by decide) (by decide) (Below.refl _ _)) rfl
                refine List.forall_mem_cons.2 ⟨?_, ?_⟩
                · refine SlotStepM.guarded rfl rfl 3 true rfl rfl (by kernel_rfl) (fun _ h => h) ?_
                  intro listed tm ws hsz hcl hsame hSS hun hg K hK
                  obtain ⟨v130, e130, g130⟩ := (hg 4 (by kernel_rfl)).2 _ 130 rfl rfl
                  obtain rfl := g130
                  obtain ⟨v131, e131, g131⟩ := (hg 5 (by kernel_rfl)).2 _ 131 rfl rfl
                  obtain rfl := g131
                  go_simp
                  exact hK _ _ (hSS.stay (by decide) (by decide) (Below.refl _ _)) rfl
                refine List.forall_mem_cons.2 ⟨?_, ?_⟩
                · refine SlotStepM.plain rfl rfl rfl ?_
                  intro listed tm ws hsz hcl hsame hSS hun hg K hK
                  obtain ⟨v129, e129, g129⟩ := (hg 3 (by kernel_rfl)).2 _ 129 rfl rfl
                  obtain rfl := g129
                  obtain ⟨v132, e132, g132⟩ := (hg 6 (by kernel_rfl)).2 _ 132 rfl rfl
                  obtain rfl := g132
                  go_simp
                  exact hK _ _ (hSS.stay (by decide) (by decide) (Below.refl _ _)) rfl
                refine List.forall_mem_cons.2 ⟨?_, ?_⟩
                · refine SlotStepM.plain rfl rfl rfl ?_
                  intro listed tm ws hsz hcl hsame hSS hun hg K hK
                  obtain ⟨v133, e133, g133⟩ := (hg 7 (by kernel_rfl)).2 _ 133 rfl rfl
                  obtain rfl := g133
                  go_simp
                  exact hK _ _ (hSS.stay (by decide) (by decide) (Below.refl _ _)) rfl
                refine List.forall_mem_cons.2 ⟨?_, ?_⟩
                · refine SlotStepM.guarded rfl rfl 8 true rfl rfl (by kernel_rfl) (fun _ h => h) ?_
                  intro listed tm ws hsz hcl hsame hSS hun hg K hK
                  have e7 : tm[7]? = some (.pointer (some ⟨dq, 0, none⟩)) := hsame.2 7 rfl
                  go_simp
                  exact hK _ _ (hSS.stay (by decide) (by decide) (Below.refl _ _)) rfl
                refine List.forall_mem_cons.2 ⟨?_, ?_⟩
                · refine SlotStepM.guarded rfl rfl 8 true rfl rfl (by kernel_rfl) (fun _ h => h) ?_
                  intro listed tm ws hsz hcl hsame hSS hun hg K hK
                  have e12 : tm[12]? = some (.int .i64 (idI r1.1)) := hsame.2 12 rfl
                  go_simp
                  exact hK _ _ (hSS.stay (by decide) (by decide) (Below.refl _ _)) rfl
                refine List.forall_mem_cons.2 ⟨?_, ?_⟩
                · refine SlotStepM.guarded rfl rfl 8 true rfl rfl (by kernel_rfl) (fun _ h => h) ?_
                  intro listed tm ws hsz hcl hsame hSS hun hg K hK
                  have e14 : tm[14]? = some (.int .i64 (idI r2.1)) := hsame.2 14 rfl
                  go_simp
                  exact hK _ _ (hSS.stay (by decide) (by decide) (Below.refl _ _)) rfl
                refine List.forall_mem_cons.2 ⟨?_, ?_⟩
                · refine SlotStepM.guarded rfl rfl 8 true rfl rfl (by kernel_rfl) (fun _ h => h) ?_
                  intro listed tm ws hsz hcl hsame hSS hun hg K hK
                  obtain ⟨v135, e135, g135⟩ := (hg 9 (by kernel_rfl)).2 _ 135 rfl rfl
                  obtain rfl := g135
                  obtain ⟨v136, e136, g136⟩ := (hg 10 (by kernel_rfl)).2 _ 136 rfl rfl
                  obtain rfl := g136
                  obtain ⟨v137, e137, g137⟩ := (hg 11 (by kernel_rfl)).2 _ 137 rfl rfl
                  obtain rfl := g137
                  obtain ⟨hsp, hbw⟩ := hSS.at0 hun
                  go_simp
                  refine (hsp.dag (hbw.size) (r := r3) (fun F hD _ => HDIV.out F ws hD)).mono ?_
                  rintro e wA ⟨rfl, hA, hbA⟩
                  exact hK _ _ (hSS.to1 hsz hun hA (hbw.trans hbA)) rfl
                refine List.forall_mem_cons.2 ⟨?_, ?_⟩
                · refine SlotStepM.guarded rfl rfl 8 true rfl rfl (by kernel_rfl) (fun _ h => h) ?_
                  intro listed tm ws hsz hcl hsame hSS hun hg K hK
                  have e15 : tm[15]? = some (.int .i64 (idI r3.1)) := hsame.2 15 rfl
                  go_simp
                  exact hK _ _ (hSS.stay (by decide) (by decide) (Below.refl _ _)) rfl
                refine List.forall_mem_cons.2 ⟨?_, ?_⟩
                · refine SlotStepM.guarded rfl rfl 8 true rfl rfl (by kernel_rfl) (fun _ h => h) ?_
                  intro listed tm ws hsz hcl hsame hSS hun hg K hK
                  obtain ⟨v138, e138, g138⟩ := (hg 12 (by kernel_rfl)).2 _ 138 rfl rfl
                  obtain rfl := g138
                  obtain ⟨v139, e139, g139⟩ := (hg 13 (by kernel_rfl)).2 _ 139 rfl rfl
                  obtain rfl := g139
                  go_simp
                  exact hK _ _ (hSS.stay (by decide) (by decide) (Below.refl _ _)) rfl
                refine List.forall_mem_cons.2 ⟨?_, ?_⟩
                · refine SlotStepM.plain rfl rfl rfl ?_
                  intro listed tm ws hsz hcl hsame hSS hun hg K hK
                  obtain ⟨v134, e134, g134⟩ := (hg 8 (by kernel_rfl)).2 _ 134 rfl rfl
                  obtain rfl := g134
                  obtain ⟨v140, e140, g140⟩ := (hg 14 (by kernel_rfl)).2 _ 140 rfl rfl
                  obtain rfl := g140
                  go_simp
                  exact hK _ _ (hSS.stay (by decide) (by decide) (Below.refl _ _)) rfl
                refine List.forall_mem_cons.2 ⟨?_, ?_⟩
                · refine SlotStepM.plain rfl rfl rfl ?_
                  intro listed tm ws hsz hcl hsame hSS hun hg K hK
                  obtain ⟨v141, e141, g141⟩ := (hg 15 (by kernel_rfl)).2 _ 141 rfl rfl
                  obtain rfl := g141
                  go_simp
                  exact hK _ _ (hSS.stay (by decide) (by decide) (Below.refl _ _)) rfl
                refine List.forall_mem_cons.2 ⟨?_, ?_⟩
                · refine SlotStepM.guarded rfl rfl 16 true rfl rfl (by kernel_rfl) (fun _ h => h) ?_
                  intro listed tm ws hsz hcl hsame hSS hun hg K hK
                  have e7 : tm[7]? = some (.pointer (some ⟨dq, 0, none⟩)) := hsame.2 7 rfl
                  go_simp
                  exact hK _ _ (hSS.stay (by decide) (by decide) (Below.refl _ _)) rfl
                refine List.forall_mem_cons.2 ⟨?_, ?_⟩
                · refine SlotStepM.guarded rfl rfl 16 true rfl rfl (by kernel_rfl) (fun _ h => h) ?_
                  intro listed tm ws hsz hcl hsame hSS hun hg K hK
                  have e15 : tm[15]? = some (.int .i64 (idI r3.1)) := hsame.2 15 rfl
                  go_simp
                  exact hK _ _ (hSS.stay (by decide) (by decide) (Below.refl _ _)) rfl
                refine List.forall_mem_cons.2 ⟨?_, ?_⟩
                · refine SlotStepM.guarded rfl rfl 16 true rfl rfl (by kernel_rfl) (fun _ h => h) ?_
                  intro listed tm ws hsz hcl hsame hSS hun hg K hK
                  obtain ⟨v143, e143, g143⟩ := (hg 17 (by kernel_rfl)).2 _ 143 rfl rfl
                  obtain rfl := g143
                  obtain ⟨v144, e144, g144⟩ := (hg 18 (by kernel_rfl)).2 _ 144 rfl rfl
                  obtain rfl := g144
                  obtain ⟨hsp, hbw⟩ := hSS.at1 (hcl.up 6 16 12 (by kernel_rfl) (hg 16 (by kernel_rfl)).1) hun
                  go_simp
                  refine (hsp.dag (hbw.size) (r := r4) (fun F hD _ => HROOT.out F ws hD)).mono ?_
                  rintro e wA ⟨rfl, hA, hbA⟩
                  exact hK _ _ (hSS.to2 hsz (hcl.up 6 16 12 (by kernel_rfl) (hg 16 (by kernel_rfl)).1) hun hA (hbw.trans hbA)) rfl
                refine List.forall_mem_cons.2 ⟨?_, ?_⟩
                · refine SlotStepM.guarded rfl rfl 16 true rfl rfl (by kernel_rfl) (fun _ h => h) ?_
                  intro listed tm ws hsz hcl hsame hSS hun hg K hK
                  have e16 : tm[16]? = some (.int .i64 (idI r4.1)) := hsame.2 16 rfl
                  go_simp
                  exact hK _ _ (hSS.stay (by decide) (by decide) (Below.refl _ _)) rfl
                refine List.forall_mem_cons.2 ⟨?_, ?_⟩
                · refine SlotStepM.guarded rfl rfl 16 true rfl rfl (by kernel_rfl) (fun _ h => h) ?_
                  intro listed tm ws hsz hcl hsame hSS hun hg K hK
                  obtain ⟨v145, e145, g145⟩ := (hg 19 (by kernel_rfl)).2 _ 145 rfl rfl
                  obtain rfl := g145
                  obtain ⟨v146, e146, g146⟩ := (hg 20 (by kernel_rfl)).2 _ 146 rfl rfl
                  obtain rfl := g146
                  go_simp
                  exact hK _ _ (hSS.stay (by decide) (by decide) (Below.refl _ _)) rfl
                refine List.forall_mem_cons.2 ⟨?_, ?_⟩
                · refine SlotStepM.plain rfl rfl rfl ?_
                  intro listed tm ws hsz hcl hsame hSS hun hg K hK
                  obtain ⟨v142, e142, g142⟩ := (hg 16 (by kernel_rfl)).2 _ 142 rfl rfl
                  obtain rfl := g142
                  obtain ⟨v147, e147, g147⟩ := (hg 21 (by kernel_rfl)).2 _ 147 rfl rfl
                  obtain rfl := g147
                  go_simp
                  exact hK _ _ (hSS.stay (by decide) (by decide) (Below.refl _ _)) rfl
                refine List.forall_mem_cons.2 ⟨?_, ?_⟩
                · refine SlotStepM.plain rfl rfl rfl ?_
                  intro listed tm ws hsz hcl hsame hSS hun hg K hK
                  obtain ⟨v148, e148, g148⟩ := (hg 22 (by kernel_rfl)).2 _ 148 rfl rfl
                  obtain rfl := g148
                  go_simp
                  exact hK _ _ (hSS.stay (by decide) (by decide) (Below.refl _ _)) rfl
                refine List.forall_mem_cons.2 ⟨?_, ?_⟩
                · refine SlotStepM.guarded rfl rfl 23 true rfl rfl (by kernel_rfl) (fun _ h => h) ?_
                  intro listed tm ws hsz hcl hsame hSS hun hg K hK
                  have e7 : tm[7]? = some (.pointer (some ⟨dq, 0, none⟩)) := hsame.2 7 rfl
                  go_simp
                  exact hK _ _ (hSS.stay (by decide) (by decide) (Below.refl _ _)) rfl
                refine List.forall_mem_cons.2 ⟨?_, ?_⟩
                · refine SlotStepM.guarded rfl rfl 23 true rfl rfl (by kernel_rfl) (fun _ h => h) ?_
                  intro listed tm ws hsz hcl hsame hSS hun hg K hK
                  have e16 : tm[16]? = some (.int .i64 (idI r4.1)) := hsame.2 16 rfl
                  go_simp
                  exact hK _ _ (hSS.stay (by decide) (by decide) (Below.refl _ _)) rfl
                refine List.forall_mem_cons.2 ⟨?_, ?_⟩
                · refine SlotStepM.guarded rfl rfl 23 true rfl rfl (by kernel_rfl) (fun _ h => h) ?_
                  intro listed tm ws hsz hcl hsame hSS hun hg K hK
                  have e2 : tm[2]? = some (.slice (some ⟨b0, o0, none⟩) n2 c2) := hsame.2 2 rfl
                  go_simp
                  exact hK _ _ (hSS.stay (by decide) (by decide) (Below.refl _ _)) rfl
                refine List.forall_mem_cons.2 ⟨?_, ?_⟩
                · refine SlotStepM.guarded rfl rfl 23 true rfl rfl (by kernel_rfl) (fun _ h => h) ?_
                  intro listed tm ws hsz hcl hsame hSS hun hg K hK
                  obtain ⟨v152, e152, g152⟩ := (hg 26 (by kernel_rfl)).2 _ 152 rfl rfl
                  obtain rfl := g152
                  go_simp
                  exact hK _ _ (hSS.stay (by decide) (by decide) (Below.refl _ _)) rfl
                refine List.forall_mem_cons.2 ⟨?_, ?_⟩
                · refine SlotStepM.guarded rfl rfl 23 true rfl rfl (by kernel_rfl) (fun _ h => h) ?_
                  intro listed tm ws hsz hcl hsame hSS hun hg K hK
                  obtain ⟨v153, e153, g153⟩ := (hg 27 (by kernel_rfl)).2 _ 153 rfl rfl
                  obtain rfl := g153
                  have cB := HI0.out ws hSS.1.1
                  go_simp
                  exact hK _ _ (hSS.stay (by decide) (by decide) (Below.refl _ _)) rfl
                refine List.forall_mem_cons.2 ⟨?_, ?_⟩
                · refine SlotStepM.guarded rfl rfl 23 true rfl rfl (by kernel_rfl) (fun _ h => h) ?_
                  intro listed tm ws hsz hcl hsame hSS hun hg K hK
                  obtain ⟨v150, e150, g150⟩ := (hg 24 (by kernel_rfl)).2 _ 150 rfl rfl
                  obtain rfl := g150
                  obtain ⟨v151, e151, g151⟩ := (hg 25 (by kernel_rfl)).2 _ 151 rfl rfl
                  obtain rfl := g151
                  obtain ⟨v154, e154, g154⟩ := (hg 28 (by kernel_rfl)).2 _ 154 rfl rfl
                  obtain rfl := g154
                  obtain ⟨hsp, hbw⟩ := hSS.at2 (hcl.up 6 23 19 (by kernel_rfl) (hg 23 (by kernel_rfl)).1) hun
                  go_simp
                  refine (hsp.dag (hbw.size) (r := r5) (fun F hD _ => HSUB.out F ws hD)).mono ?_
                  rintro e wA ⟨rfl, hA, hbA⟩
                  exact hK _ _ (hSS.to3 hsz (hcl.up 6 23 19 (by kernel_rfl) (hg 23 (by kernel_rfl)).1) hun hA (hbw.trans hbA)) rfl
                refine List.forall_mem_cons.2 ⟨?_, ?_⟩
                · refine SlotStepM.guarded rfl rfl 23 true rfl rfl (by kernel_rfl) (fun _ h => h) ?_
                  intro listed tm ws hsz hcl hsame hSS hun hg K hK
                  have e17 : tm[17]? = some (.int .i64 (idI r5.1)) := hsame.2 17 rfl
                  go_simp
                  exact hK _ _ (hSS.stay (by decide) (by decide) (Below.refl _ _)) rfl
                refine List.forall_mem_cons.2 ⟨?_, ?_⟩
                · refine SlotStepM.guarded rfl rfl 23 true rfl rfl (by kernel_rfl) (fun _ h => h) ?_
                  intro listed tm ws hsz hcl hsame hSS hun hg K hK
                  obtain ⟨v155, e155, g155⟩ := (hg 29 (by kernel_rfl)).2 _ 155 rfl rfl
                  obtain rfl := g155
                  obtain ⟨v156, e156, g156⟩ := (hg 30 (by kernel_rfl)).2 _ 156 rfl rfl
                  obtain rfl := g156
                  go_simp
                  exact hK _ _ (hSS.stay (by decide) (by decide) (Below.refl _ _)) rfl
                refine List.forall_mem_cons.2 ⟨?_, ?_⟩
                · refine SlotStepM.plain rfl rfl rfl ?_
                  intro listed tm ws hsz hcl hsame hSS hun hg K hK
                  obtain ⟨v149, e149, g149⟩ := (hg 23 (by kernel_rfl)).2 _ 149 rfl rfl
                  obtain rfl := g149
                  obtain ⟨v157, e157, g157⟩ := (hg 31 (by kernel_rfl)).2 _ 157 rfl rfl
                  obtain rfl := g157
                  go_simp
                  exact hK _ _ (hSS.stay (by decide) (by decide) (Below.refl _ _)) rfl
                refine List.forall_mem_cons.2 ⟨?_, ?_⟩
                · refine SlotStepM.plain rfl rfl rfl ?_
                  intro listed tm ws hsz hcl hsame hSS hun hg K hK
                  obtain ⟨v158, e158, g158⟩ := (hg 32 (by kernel_rfl)).2 _ 158 rfl rfl
                  obtain rfl := g158
                  go_simp
                  exact hK _ _ (hSS.stay (by decide) (by decide) (Below.refl _ _)) rfl
                refine List.forall_mem_cons.2 ⟨?_, ?_⟩
                · refine SlotStepM.guarded rfl rfl 33 true rfl rfl (by kernel_rfl) (fun _ h => h) ?_
                  intro listed tm ws hsz hcl hsame hSS hun hg K hK
                  have e7 : tm[7]? = some (.pointer (some ⟨dq, 0, none⟩)) := hsame.2 7 rfl
                  go_simp
                  exact hK _ _ (hSS.stay (by decide) (by decide) (Below.refl _ _)) rfl
                refine List.forall_mem_cons.2 ⟨?_, ?_⟩
                · refine SlotStepM.guarded rfl rfl 33 true rfl rfl (by kernel_rfl) (fun _ h => h) ?_
                  intro listed tm ws hsz hcl hsame hSS hun hg K hK
                  obtain ⟨v160, e160, g160⟩ := (hg 34 (by kernel_rfl)).2 _ 160 rfl rfl
                  obtain rfl := g160
                  obtain ⟨hsp, hbw⟩ := hSS.at3 (hcl.up 6 33 29 (by kernel_rfl) (hg 33 (by kernel_rfl)).1) hun
                  go_simp
                  refine hsp.all.mono ?_
                  rintro e wA ⟨ea, ec, rfl, hre, hA, hbA⟩
                  rw [hp5]
                  exact hK _ _ (hSS.to4 hsz (hcl.up 6 33 29 (by kernel_rfl) (hg 33 (by kernel_rfl)).1) hun (show 161 < tm.size from hsame.1.symm ▸ (of_decide_eq_true (by kernel_rfl))) hA (hbw.trans (hbA.mono hbw.size)) hre) ⟨ea, ec, rfl⟩
                refine List.forall_mem_cons.2 ⟨?_, ?_⟩
                · refine SlotStepM.guarded rfl rfl 33 true rfl rfl (by kernel_rfl) (fun _ h => h) ?_
                  intro listed tm ws hsz hcl hsame hSS hun hg K hK
                  have e8 : tm[8]? = some (.pointer (some ⟨g, 0, none⟩)) := hsame.2 8 rfl
                  go_simp
                  exact hK _ _ (hSS.stay (by decide) (by decide) (Below.refl _ _)) rfl
                refine List.forall_mem_cons.2 ⟨?_, ?_⟩
                · refine SlotStepM.guarded rfl rfl 33 true rfl rfl (by kernel_rfl) (fun _ h => h) ?_
                  intro listed tm ws hsz hcl hsame hSS hun hg K hK
                  obtain ⟨v162, e162, g162⟩ := (hg 36 (by kernel_rfl)).2 _ 162 rfl rfl
                  obtain rfl := g162
                  go_simp
                  exact hK _ _ (hSS.stay (by decide) (by decide) (Below.refl _ _)) rfl
                refine List.forall_mem_cons.2 ⟨?_, ?_⟩
                · refine SlotStepM.guarded rfl rfl 33 true rfl rfl (by kernel_rfl) (fun _ h => h) ?_
                  intro listed tm ws hsz hcl hsame hSS hun hg K hK
                  obtain ⟨v163, e163, g163⟩ := (hg 37 (by kernel_rfl)).2 _ 163 rfl rfl
                  obtain rfl := g163
                  go_simp
                  exact hK _ _ (hSS.stay (by decide) (by decide) (Below.refl _ _)) rfl
                refine List.forall_mem_cons.2 ⟨?_, ?_⟩
                · refine SlotStepM.guarded rfl rfl 33 true rfl rfl (by kernel_rfl) (fun _ h => h) ?_
                  intro listed tm ws hsz hcl hsame hSS hun hg K hK
                  obtain ⟨v164, e164, g164⟩ := (hg 38 (by kernel_rfl)).2 _ 164 rfl rfl
                  obtain rfl := g164
                  obtain ⟨q0, -⟩ := hSS.row
                  go_simp
                  exact hK _ _ (hSS.stay (by decide) (by decide) (Below.refl _ _)) rfl
                refine List.forall_mem_cons.2 ⟨?_, ?_⟩
                · refine SlotStepM.guarded rfl rfl 33 true rfl rfl (by kernel_rfl) (fun _ h => h) ?_
                  intro listed tm ws hsz hcl hsame hSS hun hg K hK
                  obtain ⟨v161, e161, g161⟩ := (hg 35 (by kernel_rfl)).2 _ 161 rfl rfl
                  obtain ⟨ea, ec, rfl⟩ := g161
                  obtain ⟨v165, e165, g165⟩ := (hg 39 (by kernel_rfl)).2 _ 165 rfl rfl
                  obtain rfl := g165
                  obtain ⟨-, q1⟩ := hSS.row
                  obtain ⟨ea2, ec2, h161, hre⟩ := hSS.at4 (hg 35 (by kernel_rfl)).1
                  rw [e161] at h161
                  obtain ⟨rfl, rfl⟩ : ea = ea2 ∧ ec = ec2 := by simpa using h161
                  go_simp
                  refine (samen_yes hp5.symm hp5.symm hre q1 hq5).mono ?_
                  rintro e wF ⟨rfl, hbF⟩
                  exact hK _ _ (hSS.stay (by decide) (by decide) hbF) rfl
                refine List.forall_mem_cons.2 ⟨?_, ?_⟩
                · refine SlotStepM.plain rfl rfl rfl ?_
                  intro listed tm ws hsz hcl hsame hSS hun hg K hK
                  obtain ⟨v159, e159, g159⟩ := (hg 33 (by kernel_rfl)).2 _ 159 rfl rfl
                  obtain rfl := g159
                  obtain ⟨v166, e166, g166⟩ := (hg 40 (by kernel_rfl)).2 _ 166 rfl rfl
                  obtain rfl := g166
                  go_simp
                  exact hK _ _ (hSS.stay (by decide) (by decide) (Below.refl _ _)) rfl
                refine List.forall_mem_cons.2 ⟨?_, ?_⟩
                · refine SlotStepM.plain rfl rfl rfl ?_
                  intro listed tm ws hsz hcl hsame hSS hun hg K hK
                  obtain ⟨v167, e167, g167⟩ := (hg 41 (by kernel_rfl)).2 _ 167 rfl rfl
                  obtain rfl := g167
                  go_simp
                  exact hK _ _ (hSS.stay (by decide) (by decide) (Below.refl _ _)) rfl
                exact fun _ h => nomatch h
              case finM2 =>
                intro listed tm w9 hall hsame hSS hgot
                obtain ⟨v6, e6, g6⟩ := hgot 42 _ 6 rfl rfl
                obtain rfl := g6
                obtain ⟨u6, hu, htm⟩ := hsame.form (by kernel_rfl)
                have h6 := hu _ _ e6
                have hbw := hSS.1.1
                clear hgot hu hsame e6 hSS hall hS0
                rw [htm]
                clear htm tm
                simp only [List.foldl_cons, List.foldl_nil, List.setIfInBounds_toArray, List.set_cons_zero, List.set_cons_succ, h6]
                clear h6
                go_wp2_with fail
                go_ret
                exact ⟨rfl, hbw⟩
          · by_cases hhi : 9007199254740992 < v
            · have d3 : decide ((-9007199254740992 : Int) ≤ v) = true := by simp; omega
              have d4 : decide (v ≤ 9007199254740992) = false := by simp; omega
              have hgl : True := trivial
              have hni : nint false L v = (none, L) := by unfold nint; rw [if_neg (by omega)]
              have HNI := Lib.hid hni
              clear hni
              go_wp2_with fail
              refine (hsp.dag hb0.size (r := (none, L)) (fun F hD _ => by have h9 := C.int v hD (by omega) hv.1 hv.2; rw [HNI.out] at h9; exact h9)).mono ?_
              rintro e wy ⟨rfl, hsy, hby⟩
              have hby0 := hb0.trans hby
              clear hsp hb0 hby
              obtain ⟨W0, hW0⟩ : ∃ W0, wy = W0 := ⟨_, rfl⟩
              obtain ⟨M, hM⟩ : ∃ M, L = M := ⟨_, rfl⟩
              have HS : Hid (SP C w.heap.size W0 (.pointer (some ⟨dq, 0, none⟩)) g M M false) := Lib.hid (by rw [← hW0, ← hM]; exact hsy)
              have hbM : Below w.heap.size w W0 := hW0 ▸ hby0
              have hMl : M.length ≤ 21 := by rw [← hM]; omega
              rw [hW0]
              clear hW0 hM
              by_cases hz : n2 = 0
              · have hids : ids = [] := List.eq_nil_of_length_eq_zero (by have := HN2.out; omega)
                subst hz
                have HSt := Lib.hid (HS.out.below (Below.refl _ W0).drew)
                have hbw := hbM.drew
                have g1 := nput_le false M (0, 0, 0, 0)
                have g2 := nput_le false (nput false M (0, 0, 0, 0)).2 (0, F1, 0, 0)
                clear HS hbM
                go_wp2_with fail
                go_region_law (go_simp; first
                  | (go_at_call 11; refine (HSt.out.dag hbw.size (r := nput false M (0, 0, 0, 0)) (fun F hD _ => C.add none 0 0 [] hD (by simp; omega) rfl (Nat.le_refl _) (Or.inl rfl) (fun _ _ e => nomatch e))).mono ?_; rintro e wA ⟨rfl, hA, hbA⟩; clear HSt; have HSt := Lib.hid hA; replace hbw := hbw.trans hbA; clear hA hbA)
                  | (go_at_call 12; refine (HSt.out.dag hbw.size (r := nput false (nput false M (0, 0, 0, 0)).2 (0, F1, 0, 0)) (fun F hD _ => C.mul none 0 0 [] hD (by simp; omega) rfl (Nat.le_refl _) (Or.inl rfl) (fun _ _ e => nomatch e))).mono ?_; rintro e wC ⟨rfl, hC, hbC⟩; clear HSt; have HSt := Lib.hid hC; replace hbw := hbw.trans hbC; clear hC hbC)
                  | (go_at_call 9; refine (HSt.out.put hbw.size (by omega) (0, _, 0, 0) (by decide)).mono ?_; rintro e wB ⟨rfl, hB, hbB⟩; clear HSt; have HSt := Lib.hid hB; replace hbw := hbw.trans hbB; obtain ⟨ra, rc, q0, hrd⟩ := hB.row; have HRD := Lib.hid hrd; clear hB hrd hbB)
                  | (go_at_call 14; refine HSt.out.all.mono ?_; rintro e wE ⟨ea, ec, rfl, hre, hE, hbE⟩; have HRE := Lib.hid hre; have HRD2 := Lib.hid (HRD.out.below hbE); replace hbw := hbw.trans (hbE.mono hbw.size); have q1 : wE.cell? ⟨g, 0, none⟩ = some (.slice ra _ rc) := cell_after hbE q0; clear hre hE)
                  | (go_at_call 13; refine (samen_yes rfl rfl HRE.out HRD2.out (by omega)).mono ?_; rintro e wF ⟨rfl, hbF⟩; replace hbw := hbw.trans (hbF.mono hbw.size)))
                all_goals
                  go_wp2_with fail
                  go_ret
                  exact ⟨rfl, hbw⟩
              · have hids : ids ≠ [] := by intro e; have := HN2.out; rw [e] at this; simp at this; omega
                obtain ⟨z0, z1, z2⟩ := bne_of (x := (n2 : Int)) (y := 0) (by omega)
                obtain ⟨b0, o0, rfl, -⟩ := HR2.out.some hids
                obtain ⟨i0, hi0⟩ : ∃ x, ids[0]? = some x := ⟨ids[0]'(List.length_pos_iff.2 hids), by rw [List.getElem?_eq_getElem]⟩
                have hi0' : ∀ wz, Below w.heap.size w wz → wz.cell? ⟨b0, o0, none⟩ = some (.int .i64 i0) := fun wz hz => (HR2.out.below hz HRB.out).at (j := 0) hi0
                have HI0 := Lib.hid hi0'
                have HOFF : Hid (∀ (F : Nat → Prop) (wz : World), (∀ k, F k → w.heap.size ≤ k) → Below w.heap.size w wz → ∀ b off, some (⟨b0, o0, none⟩ : Addr) = some ⟨b, off, none⟩ → ¬ F b ∧ b < wz.heap.size) := Lib.hid fun F wz hF hz b off e => by
                  have hlt := HRB.out b off e hids
                  have hsz := hz.size
                  exact ⟨fun hf => by have := hF b hf; omega, by omega⟩
                have hn2 : 0 < n2 := by omega
                clear hi0 hi0'
                go_wp2_with fail
                have H1 := HS.out.chain (c := c2) hbM.size (by omega) 1 HN2.out hids (by omega) (HR2.out.below hbM HRB.out) HRB.out
                obtain ⟨r1, hr1⟩ : ∃ r, nchain0 false 1 M ids = r := ⟨_, rfl⟩
                have hl1 := nchain0_le false 1 M ids
                rw [hr1] at H1 hl1
                have HE1 := Lib.hid ((nmany_eq false 1 0 M ids hids).trans hr1)
                clear hr1
                refine H1.mono ?_
                rintro e wa ⟨rfl, h1, hb1⟩
                have hba := hbM.trans hb1
                clear H1 HS hbM hb1
                go_wp2_with fail
                refine (h1.dag hba.size (r := r1) (fun F hD hF => by have h9 := C.add (some ⟨b0, o0, none⟩) c2 n2 ids hD (by have := HN2.out; omega) HN2.out HC2.out (HR2.out.below hba HRB.out) (HOFF.out F wa hF hba); rw [HE1.out] at h9; exact h9)).mono ?_
                rintro e wb ⟨rfl, h3, hb3⟩
                have hbb := hba.trans hb3
                clear h1 hba hb3
                go_wp2_with fail
                have hln := HN2.out
                have H3 := h3.chain (c := c2) hbb.size (by omega) 3 HN2.out hids (by omega) (HR2.out.below hbb HRB.out) HRB.out
                obtain ⟨r2, hr2⟩ : ∃ r, nchain0 false 3 r1.2 ids = r := ⟨_, rfl⟩
                have hl2 := nchain0_le false 3 r1.2 ids
                rw [← hln] at hl1 hl2
                rw [hr2] at H3 hl2
                have HE2 := Lib.hid ((nmany_eq false 3 F1 r1.2 ids hids).trans hr2)
                clear hr2 hln
                refine H3.mono ?_
                rintro e wc ⟨rfl, h4, hb4⟩
                have hbc := hbb.trans hb4
                clear H3 h3 hbb hb4
                go_wp2_with fail
                refine (h4.dag hbc.size (r := r2) (fun F hD hF => by have h9 := C.mul (some ⟨b0, o0, none⟩) c2 n2 ids hD (by have := HN2.out; omega) HN2.out HC2.out (HR2.out.below hbc HRB.out) (HOFF.out F wc hF hbc); rw [HE2.out] at h9; exact h9)).mono ?_
                rintro e wd ⟨rfl, h5, hb5⟩
                have hbd := hbc.trans hb5
                clear h4 hbc hb5
                go_wp2_with fail
                have H5 := h5.put hbd.size (by omega) (4, 0, idI r1.1, idI r2.1) (show (0 : Nat) < 18446744073709551616 by decide)
                obtain ⟨r3, hr3⟩ : ∃ r, nput false r2.2 (4, 0, idI r1.1, idI r2.1) = r := ⟨_, rfl⟩
                have hl3 := nput_le false r2.2 (4, 0, idI r1.1, idI r2.1)
                rw [hr3] at H5 hl3
                have HE3 := Lib.hid hr3
                clear hr3
                refine H5.mono ?_
                rintro e we ⟨rfl, h6, hb6⟩
                have hbe := hbd.trans hb6
                clear H5 h5 hbd hb6
                go_wp2_with fail
                have H6 := h6.put hbe.size (by omega) (5, 0, idI r3.1, 0) (show (0 : Nat) < 18446744073709551616 by decide)
                obtain ⟨r4, hr4⟩ : ∃ r, nput false r3.2 (5, 0, idI r3.1, 0) = r := ⟨_, rfl⟩
                have hl4 := nput_le false r3.2 (5, 0, idI r3.1, 0)
                rw [hr4] at H6 hl4
                have HE4 := Lib.hid hr4
                clear hr4
                refine H6.mono ?_
                rintro e wf ⟨rfl, h7, hb7⟩
                have hbf := hbe.trans hb7
                have cf := HI0.out wf hbf
                clear H6 h6 hbe hb7
                go_wp2_with fail
                have H7 := h7.put hbf.size (by omega) (2, 0, idI r4.1, i0) (show (0 : Nat) < 18446744073709551616 by decide)
                obtain ⟨r5, hr5⟩ : ∃ r, nput false r4.2 (2, 0, idI r4.1, i0) = r := ⟨_, rfl⟩
                have hl5 := nput_le false r4.2 (2, 0, idI r4.1, i0)
                rw [hr5] at H7 hl5
                have HE5 := Lib.hid hr5
                clear hr5
                refine H7.mono ?_
                rintro e wg ⟨rfl, h8, hb8⟩
                obtain ⟨ra, rc, hspv⟩ := h8.named
                obtain ⟨p5, hp5⟩ : ∃ p, r5.2.length = p := ⟨_, rfl⟩
                rw [hp5] at hspv
                have hS0 : ∀ tm, S26 C w.heap.size w dq g ra rc r2.2 r3.2 r4.2 r5.2 p5 (Array.replicate 43 false) tm wg.drew := fun tm =>
                  ⟨⟨(hbf.trans hb8).drew, Nat.le_refl _⟩, Or.inl ⟨by decide, by decide, by decide, by decide, hspv.below (Below.refl _ wg).drew⟩, hp5⟩
                have hq2 : r2.2.length ≤ 10000 := by omega
                have hq3 : r3.2.length ≤ 10000 := by omega
                have hq4 : r4.2.length ≤ 10000 := by omega
                have hq5 : r5.2.length ≤ 1000000 := by omega
                have HDIV : Hid (∀ F wz, C.D wz (.pointer (some ⟨dq, 0, none⟩)) r2.2 false F → Calls Try.prog 16 #[.pointer (some ⟨dq, 0, none⟩), .int .i64 (idI r1.1), .int .i64 (idI r2.1)] wz fun e w' => RetD C.D wz (.pointer (some ⟨dq, 0, none⟩)) r3.2 false F (.int .i64 (idI r3.1)) e w') := Lib.hid fun F wz hD => by have h9 := C.div (idI r1.1) (idI r2.1) hD hq2; rw [HE3.out] at h9; exact h9
                have HROOT : Hid (∀ F wz, C.D wz (.pointer (some ⟨dq, 0, none⟩)) r3.2 false F → Calls Try.prog 17 #[.pointer (some ⟨dq, 0, none⟩), .int .i64 (idI r3.1)] wz fun e w' => RetD C.D wz (.pointer (some ⟨dq, 0, none⟩)) r4.2 false F (.int .i64 (idI r4.1)) e w') := Lib.hid fun F wz hD => by have h9 := C.root (idI r3.1) hD hq3; rw [HE4.out] at h9; exact h9
                have HSUB : Hid (∀ F wz, C.D wz (.pointer (some ⟨dq, 0, none⟩)) r4.2 false F → Calls Try.prog 18 #[.pointer (some ⟨dq, 0, none⟩), .int .i64 (idI r4.1), .int .i64 i0] wz fun e w' => RetD C.D wz (.pointer (some ⟨dq, 0, none⟩)) r5.2 false F (.int .i64 (idI r5.1)) e w') := Lib.hid fun F wz hD => by have h9 := C.sub (idI r4.1) i0 hD hq4; rw [HE5.out] at h9; exact h9
                clear H7 h7 hbf hb8 cf h8 hspv HA HN1 HF1 HFB HFV HN2 HR2 HRB h1 h2 d1 d2 hlen hLn hfv hgl HNI hMl hz hids z0 z1 z2 HOFF HE1 HE2 HE3 HE4 HE5 hl1 hl2 hl3 hl4 hl5
                go_upto_region 26 with fail
                refine wp_region_slotsm (by kernel_rfl) [126, 127, 128, 129, 130, 131, 132, 133, 134, 135, 136, 137, 138, 139, 140, 141, 142, 143, 144, 145, 146, 147, 148, 149, 150, 151, 152, 153, 154, 155, 156, 157, 158, 159, 160, 161, 162, 163, 164, 165, 166, 167, 6] (S26 C w.heap.size w dq g ra rc r2.2 r3.2 r4.2 r5.2 p5) (SaidV [Is0 (.int .i64 (idI r1.1)), Is0 (.int .i64 (idI r1.1)), Is0 (.bool true), Is0 (.bool true), Is0 (.int .i64 (idI r2.1)), Is0 (.int .i64 (idI r2.1)), Is0 (.bool true), Is0 (.bool true), Is0 (.bool true), Is0 (.pointer (some ⟨dq, 0, none⟩)), Is0 (.int .i64 (idI r1.1)), Is0 (.int .i64 (idI r2.1)), Is0 (.int .i64 (idI r3.1)), Is0 (.int .i64 (idI r3.1)), Is0 (.bool true), Is0 (.bool true), Is0 (.bool true), Is0 (.pointer (some ⟨dq, 0, none⟩)), Is0 (.int .i64 (idI r3.1)), Is0 (.int .i64 (idI r4.1)), Is0 (.int .i64 (idI r4.1)), Is0 (.bool true), Is0 (.bool true), Is0 (.bool true), Is0 (.pointer (some ⟨dq, 0, none⟩)), Is0 (.int .i64 (idI r4.1)), Is0 (.slice (some ⟨b0, o0, none⟩) n2 c2), Is0 (.pointer (some ⟨b0, o0, none⟩)), Is0 (.int .i64 i0), Is0 (.int .i64 (idI r5.1)), Is0 (.int .i64 (idI r5.1)), Is0 (.bool true), Is0 (.bool true), Is0 (.bool true), Is0 (.pointer (some ⟨dq, 0, none⟩)), IsRowV p5, Is0 (.pointer (some ⟨g, 0, none⟩)), Is0 (.pointer (some ⟨g, 0, none⟩)), Is0 (.pointer (some ⟨g, 0, none⟩)), Is0 (.slice ra p5 rc), Is0 (.bool true), Is0 (.bool true), Is0 (.bool true)]) (by kernel_rfl) (by kernel_rfl) (by kernel_rfl) (by kernel_rfl) (hS0 _) (l := [0, 1, 2, 3, 4, 5, 6, 7, 8, 9, 10, 11, 12, 13, 14, 15, 16, 17, 18, 19, 20, 21, 22, 23, 24, 25, 26, 27, 28, 29, 30, 31, 32, 33, 34, 35, 36, 37, 38, 39, 40, 41, 42]) (by kernel_rfl) ?stepM3 ?finM3
                case stepM3 =>
                  refine List.forall_mem_cons.2 ⟨?_, ?_⟩
                  · refine SlotStepM.plain rfl rfl rfl ?_
                    intro listed tm ws hsz hcl hsame hSS hun hg K hK
                    have e12 : tm[12]? = some (.int .i64 (idI r1.1)) := hsame.2 12 rfl
                    go_simp
                    exact hK _ _ (hSS.stay (by decide) (by decide) (Below.refl _ _)) rfl
                  refine List.forall_mem_cons.2 ⟨?_, ?_⟩
                  · refine SlotStepM.plain rfl rfl rfl ?_
                    intro listed tm ws hsz hcl hsame hSS hun hg K hK
                    have e11 : tm[11]? = some (.int .i64 (idI r1.1)) := hsame.2 11 rfl
                    go_simp
                    exact hK _ _ (hSS.stay (by decide) (by decide) (Below.refl _ _)) rfl
                  refine List.forall_mem_cons.2 ⟨?_, ?_⟩
                  · refine SlotStepM.plain rfl rfl rfl ?_
                    intro listed tm ws hsz hcl hsame hSS hun hg K hK
                    obtain ⟨v126, e126, g126⟩ := (hg 0 (by kernel_rfl)).2 _ 126 rfl rfl
                    obtain rfl := g126
                    obtain ⟨v127, e127, g127⟩ := (hg 1 (by kernel_rfl)).2 _ 127 rfl rfl
                    obtain rfl := g127
                    go_simp
                    exact hK _ _ (hSS.stay (by decide) (by decide) (Below.refl _ _)) rfl
                  refine List.forall_mem_cons.2 ⟨?_, ?_⟩
                  · refine SlotStepM.plain rfl rfl rfl ?_
                    intro listed tm ws hsz hcl hsame hSS hun hg K hK
                    obtain ⟨v128, e128, g128⟩ := (hg 2 (by kernel_rfl)).2 _ 128 rfl rfl
                    obtain rfl := g128
                    go_simp
                    exact hK _ _ (hSS.stay (by decide) (by decide) (Below.refl _ _)) rfl
                  refine List.forall_mem_cons.2 ⟨?_, ?_⟩
                  · refine SlotStepM.guarded rfl rfl 3 true rfl rfl (by kernel_rfl) (fun _ h => h) ?_
                    intro listed tm ws hsz hcl hsame hSS hun hg K hK
                    have e14 : tm[14]? = some (.int .i64 (idI r2.1)) := hsame.2 14 rfl
                    go_simp
                    exact hK _ _ (hSS.stay (by decide) (by decide) (Below.refl _ _)) rfl
                  refine List.forall_mem_cons.2 ⟨?_, ?_⟩
                  · refine SlotStepM.guarded rfl rfl 3 true rfl rfl (by kernel_rfl) (fun _ h => h) ?_
                    intro listed tm ws hsz hcl hsame hSS hun hg K hK
                    have e13 : tm[13]? = some (.int .i64 (idI r2.1)) := hsame.2 13 rfl
                    go_simp
                    exact hK _ _ (hSS.stay (by decide) (by decide) (Below.refl _ _)) rfl
                  refine List.forall_mem_cons.2 ⟨?_, ?_⟩
                  · refine SlotStepM.guarded rfl rfl 3 true rfl rfl (by kernel_rfl) (fun _ h => h) ?_
                    intro listed tm ws hsz hcl hsame hSS hun hg K hK
                    obtain ⟨v130, e130, g130⟩ := (hg 4 (by kernel_rfl)).2 _ 130 rfl rfl
                    obtain rfl := g130
                    obtain ⟨v131, e131, g131⟩ := (hg 5 (by kernel_rfl)).2 _ 131 rfl rfl
                    obtain rfl := g131
                    go_simp
                    exact hK _ _ (hSS.stay (by decide) (by decide) (Below.refl _ _)) rfl
                  refine List.forall_mem_cons.2 ⟨?_, ?_⟩
                  · refine SlotStepM.plain rfl rfl rfl ?_
                    intro listed tm ws hsz hcl hsame hSS hun hg K hK
                    obtain ⟨v129, e129, g129⟩ := (hg 3 (by kernel_rfl)).2 _ 129 rfl rfl
                    obtain rfl := g129
                    obtain ⟨v132, e132, g132⟩ := (hg 6 (by kernel_rfl)).2 _ 132 rfl rfl
                    obtain rfl := g132
                    go_simp
                    exact hK _ _ (hSS.stay (by decide) (by decide) (Below.refl _ _)) rfl
                  refine List.forall_mem_cons.2 ⟨?_, ?_⟩
                  · refine SlotStepM.plain rfl rfl rfl ?_
                    intro listed tm ws hsz hcl hsame hSS hun hg K hK
                    obtain ⟨v133, e133, g133⟩ := (hg 7 (by kernel_rfl)).2 _ 133 rfl rfl
                    obtain rfl := g133
                    go_simp
                    exact hK _ _ (hSS.stay (by decide) (by decide) (Below.refl _ _)) rfl
                  refine List.forall_mem_cons.2 ⟨?_, ?_⟩
                  · refine SlotStepM.guarded rfl rfl 8 true rfl rfl (by kernel_rfl) (fun _ h => h) ?_
                    intro listed tm ws hsz hcl hsame hSS hun hg K hK
                    have e7 : tm[7]? = some (.pointer (some ⟨dq, 0, none⟩)) := hsame.2 7 rfl
                    go_simp
                    exact hK _ _ (hSS.stay (by decide) (by decide) (Below.refl _ _)) rfl
                  refine List.forall_mem_cons.2 ⟨?_, ?_⟩
                  · refine SlotStepM.guarded rfl rfl 8 true rfl rfl (by kernel_rfl) (fun _ h => h) ?_
                    intro listed tm ws hsz hcl hsame hSS hun hg K hK
                    have e12 : tm[12]? = some (.int .i64 (idI r1.1)) := hsame.2 12 rfl
                    go_simp
                    exact hK _ _ (hSS.stay (by decide) (by decide) (Below.refl _ _)) rfl
                  refine List.forall_mem_cons.2 ⟨?_, ?_⟩
                  · refine SlotStepM.guarded rfl rfl 8 true rfl rfl (by kernel_rfl) (fun _ h => h) ?_
                    intro listed tm ws hsz hcl hsame hSS hun hg K hK
                    have e14 : tm[14]? = some (.int .i64 (idI r2.1)) := hsame.2 14 rfl
                    go_simp
                    exact hK _ _ (hSS.stay (by decide) (by decide) (Below.refl _ _)) rfl
                  refine List.forall_mem_cons.2 ⟨?_, ?_⟩
                  · refine SlotStepM.guarded rfl rfl 8 true rfl rfl (by kernel_rfl) (fun _ h => h) ?_
                    intro listed tm ws hsz hcl hsame hSS hun hg K hK
                    obtain ⟨v135, e135, g135⟩ := (hg 9 (by kernel_rfl)).2 _ 135 rfl rfl
                    obtain rfl := g135
                    obtain ⟨v136, e136, g136⟩ := (hg 10 (by kernel_rfl)).2 _ 136 rfl rfl
                    obtain rfl := g136
                    obtain ⟨v137, e137, g137⟩ := (hg 11 (by kernel_rfl)).2 _ 137 rfl rfl
                    obtain rfl := g137
                    obtain ⟨hsp, hbw⟩ := hSS.at0 hun
                    go_simp
                    refine (hsp.dag (hbw.size) (r := r3) (fun F hD _ => HDIV.out F ws hD)).mono ?_
                    rintro e wA ⟨rfl, hA, hbA⟩
                    exact hK _ _ (hSS.to1 hsz hun hA (hbw.trans hbA)) rfl
                  refine List.forall_mem_cons.2 ⟨?_, ?_⟩
                  · refine SlotStepM.guarded rfl rfl 8 true rfl rfl (by kernel_rfl) (fun _ h => h) ?_
                    intro listed tm ws hsz hcl hsame hSS hun hg K hK
                    have e15 : tm[15]? = some (.int .i64 (idI r3.1)) := hsame.2 15 rfl
                    go_simp
                    exact hK _ _ (hSS.stay (by decide) (by decide) (Below.refl _ _)) rfl
                  refine List.forall_mem_cons.2 ⟨?_, ?_⟩
                  · refine SlotStepM.guarded rfl rfl 8 true rfl rfl (by kernel_rfl) (fun _ h => h) ?_
                    intro listed tm ws hsz hcl hsame hSS hun hg K hK
                    obtain ⟨v138, e138, g138⟩ := (hg 12 (by kernel_rfl)).2 _ 138 rfl rfl
                    obtain rfl := g138
                    obtain ⟨v139, e139, g139⟩ := (hg 13 (by kernel_rfl)).2 _ 139 rfl rfl
                    obtain rfl := g139
                    go_simp
                    exact hK _ _ (hSS.stay (by decide) (by decide) (Below.refl _ _)) rfl
                  refine List.forall_mem_cons.2 ⟨?_, ?_⟩
                  · refine SlotStepM.plain rfl rfl rfl ?_
                    intro listed tm ws hsz hcl hsame hSS hun hg K hK
                    obtain ⟨v134, e134, g134⟩ := (hg 8 (by kernel_rfl)).2 _ 134 rfl rfl
                    obtain rfl := g134
                    obtain ⟨v140, e140, g140⟩ := (hg 14 (by kernel_rfl)).2 _ 140 rfl rfl
                    obtain rfl := g140
                    go_simp
                    exact hK _ _ (hSS.stay (by decide) (by decide) (Below.refl _ _)) rfl
                  refine List.forall_mem_cons.2 ⟨?_, ?_⟩
                  · refine SlotStepM.plain rfl rfl rfl ?_
                    intro listed tm ws hsz hcl hsame hSS hun hg K hK
                    obtain ⟨v141, e141, g141⟩ := (hg 15 (by kernel_rfl)).2 _ 141 rfl rfl
                    obtain rfl := g141
                    go_simp
                    exact hK _ _ (hSS.stay (by decide) (by decide) (Below.refl _ _)) rfl
                  refine List.forall_mem_cons.2 ⟨?_, ?_⟩
                  · refine SlotStepM.guarded rfl rfl 16 true rfl rfl (by kernel_rfl) (fun _ h => h) ?_
                    intro listed tm ws hsz hcl hsame hSS hun hg K hK
                    have e7 : tm[7]? = some (.pointer (some ⟨dq, 0, none⟩)) := hsame.2 7 rfl
                    go_simp
                    exact hK _ _ (hSS.stay (by decide) (by decide) (Below.refl _ _)) rfl
                  refine List.forall_mem_cons.2 ⟨?_, ?_⟩
                  · refine SlotStepM.guarded rfl rfl 16 true rfl rfl (by kernel_rfl) (fun _ h => h) ?_
                    intro listed tm ws hsz hcl hsame hSS hun hg K hK
                    have e15 : tm[15]? = some (.int .i64 (idI r3.1)) := hsame.2 15 rfl
                    go_simp
                    exact hK _ _ (hSS.stay (by decide) (by decide) (Below.refl _ _)) rfl
                  refine List.forall_mem_cons.2 ⟨?_, ?_⟩
                  · refine SlotStepM.guarded rfl rfl 16 true rfl rfl (by kernel_rfl) (fun _ h => h) ?_
                    intro listed tm ws hsz hcl hsame hSS hun hg K hK
                    obtain ⟨v143, e143, g143⟩ := (hg 17 (by kernel_rfl)).2 _ 143 rfl rfl
                    obtain rfl := g143
                    obtain ⟨v144, e144, g144⟩ := (hg 18 (by kernel_rfl)).2 _ 144 rfl rfl
                    obtain rfl := g144
                    obtain ⟨hsp, hbw⟩ := hSS.at1 (hcl.up 6 16 12 (by kernel_rfl) (hg 16 (by kernel_rfl)).1) hun
                    go_simp
                    refine (hsp.dag (hbw.size) (r := r4) (fun F hD _ => HROOT.out F ws hD)).mono ?_
                    rintro e wA ⟨rfl, hA, hbA⟩
                    exact hK _ _ (hSS.to2 hsz (hcl.up 6 16 12 (by kernel_rfl) (hg 16 (by kernel_rfl)).1) hun hA (hbw.trans hbA)) rfl
                  refine List.forall_mem_cons.2 ⟨?_, ?_⟩
                  · refine SlotStepM.guarded rfl rfl 16 true rfl rfl (by kernel_rfl) (fun _ h => h) ?_
                    intro listed tm ws hsz hcl hsame hSS hun hg K hK
                    have e16 : tm[16]? = some (.int .i64 (idI r4.1)) := hsame.2 16 rfl
                    go_simp
                    exact hK _ _ (hSS.stay (by decide) (by decide) (Below.refl _ _)) rfl
                  refine List.forall_mem_cons.2 ⟨?_, ?_⟩
                  · refine SlotStepM.guarded rfl rfl 16 true rfl rfl (by kernel_rfl) (fun _ h => h) ?_
                    intro listed tm ws hsz hcl hsame hSS hun hg K hK
                    obtain ⟨v145, e145, g145⟩ := (hg 19 (by kernel_rfl)).2 _ 145 rfl rfl
                    obtain rfl := g145
                    obtain ⟨v146, e146, g146⟩ := (hg 20 (by kernel_rfl)).2 _ 146 rfl rfl
                    obtain rfl := g146
                    go_simp
                    exact hK _ _ (hSS.stay (by decide) (by decide) (Below.refl _ _)) rfl
                  refine List.forall_mem_cons.2 ⟨?_, ?_⟩
                  · refine SlotStepM.plain rfl rfl rfl ?_
                    intro listed tm ws hsz hcl hsame hSS hun hg K hK
                    obtain ⟨v142, e142, g142⟩ := (hg 16 (by kernel_rfl)).2 _ 142 rfl rfl
                    obtain rfl := g142
                    obtain ⟨v147, e147, g147⟩ := (hg 21 (by kernel_rfl)).2 _ 147 rfl rfl
                    obtain rfl := g147
                    go_simp
                    exact hK _ _ (hSS.stay (by decide) (by decide) (Below.refl _ _)) rfl
                  refine List.forall_mem_cons.2 ⟨?_, ?_⟩
                  · refine SlotStepM.plain rfl rfl rfl ?_
                    intro listed tm ws hsz hcl hsame hSS hun hg K hK
                    obtain ⟨v148, e148, g148⟩ := (hg 22 (by kernel_rfl)).2 _ 148 rfl rfl
                    obtain rfl := g148
                    go_simp
                    exact hK _ _ (hSS.stay (by decide) (by decide) (Below.refl _ _)) rfl
                  refine List.forall_mem_cons.2 ⟨?_, ?_⟩
                  · refine SlotStepM.guarded rfl rfl 23 true rfl rfl (by kernel_rfl) (fun _ h => h) ?_
                    intro listed tm ws hsz hcl hsame hSS hun hg K hK
                    have e7 : tm[7]? = some (.pointer (some ⟨dq, 0, none⟩)) := hsame.2 7 rfl
                    go_simp
                    exact hK _ _ (hSS.stay (by decide) (by decide) (Below.refl _ _)) rfl
                  refine List.forall_mem_cons.2 ⟨?_, ?_⟩
                  · refine SlotStepM.guarded rfl rfl 23 true rfl rfl (by kernel_rfl) (fun _ h => h) ?_
                    intro listed tm ws hsz hcl hsame hSS hun hg K hK
                    have e16 : tm[16]? = some (.int .i64 (idI r4.1)) := hsame.2 16 rfl
                    go_simp
                    exact hK _ _ (hSS.stay (by decide) (by decide) (Below.refl _ _)) rfl
                  refine List.forall_mem_cons.2 ⟨?_, ?_⟩
                  · refine SlotStepM.guarded rfl rfl 23 true rfl rfl (by kernel_rfl) (fun _ h => h) ?_
                    intro listed tm ws hsz hcl hsame hSS hun hg K hK
                    have e2 : tm[2]? = some (.slice (some ⟨b0, o0, none⟩) n2 c2) := hsame.2 2 rfl
                    go_simp
                    exact hK _ _ (hSS.stay (by decide) (by decide) (Below.refl _ _)) rfl
                  refine List.forall_mem_cons.2 ⟨?_, ?_⟩
                  · refine SlotStepM.guarded rfl rfl 23 true rfl rfl (by kernel_rfl) (fun _ h => h) ?_
                    intro listed tm ws hsz hcl hsame hSS hun hg K hK
                    obtain ⟨v152, e152, g152⟩ := (hg 26 (by kernel_rfl)).2 _ 152 rfl rfl
                    obtain rfl := g152
                    go_simp
                    exact hK _ _ (hSS.stay (by decide) (by decide) (Below.refl _ _)) rfl
                  refine List.forall_mem_cons.2 ⟨?_, ?_⟩
                  · refine SlotStepM.guarded rfl rfl 23 true rfl rfl (by kernel_rfl) (fun _ h => h) ?_
                    intro listed tm ws hsz hcl hsame hSS hun hg K hK
                    obtain ⟨v153, e153, g153⟩ := (hg 27 (by kernel_rfl)).2 _ 153 rfl rfl
                    obtain rfl := g153
                    have cB := HI0.out ws hSS.1.1
                    go_simp
                    exact hK _ _ (hSS.stay (by decide) (by decide) (Below.refl _ _)) rfl
                  refine List.forall_mem_cons.2 ⟨?_, ?_⟩
                  · refine SlotStepM.guarded rfl rfl 23 true rfl rfl (by kernel_rfl) (fun _ h => h) ?_
                    intro listed tm ws hsz hcl hsame hSS hun hg K hK
                    obtain ⟨v150, e150, g150⟩ := (hg 24 (by kernel_rfl)).2 _ 150 rfl rfl
                    obtain rfl := g150
                    obtain ⟨v151, e151, g151⟩ := (hg 25 (by kernel_rfl)).2 _ 151 rfl rfl
                    obtain rfl := g151
                    obtain ⟨v154, e154, g154⟩ := (hg 28 (by kernel_rfl)).2 _ 154 rfl rfl
                    obtain rfl := g154
                    obtain ⟨hsp, hbw⟩ := hSS.at2 (hcl.up 6 23 19 (by kernel_rfl) (hg 23 (by kernel_rfl)).1) hun
                    go_simp
                    refine (hsp.dag (hbw.size) (r := r5) (fun F hD _ => HSUB.out F ws hD)).mono ?_
                    rintro e wA ⟨rfl, hA, hbA⟩
                    exact hK _ _ (hSS.to3 hsz (hcl.up 6 23 19 (by kernel_rfl) (hg 23 (by kernel_rfl)).1) hun hA (hbw.trans hbA)) rfl
                  refine List.forall_mem_cons.2 ⟨?_, ?_⟩
                  · refine SlotStepM.guarded rfl rfl 23 true rfl rfl (by kernel_rfl) (fun _ h => h) ?_
                    intro listed tm ws hsz hcl hsame hSS hun hg K hK
                    have e17 : tm[17]? = some (.int .i64 (idI r5.1)) := hsame.2 17 rfl
                    go_simp
                    exact hK _ _ (hSS.stay (by decide) (by decide) (Below.refl _ _)) rfl
                  refine List.forall_mem_cons.2 ⟨?_, ?_⟩
                  · refine SlotStepM.guarded rfl rfl 23 true rfl rfl (by kernel_rfl) (fun _ h => h) ?_
                    intro listed tm ws hsz hcl hsame hSS hun hg K hK
                    obtain ⟨v155, e155, g155⟩ := (hg 29 (by kernel_rfl)).2 _ 155 rfl rfl
                    obtain rfl := g155
                    obtain ⟨v156, e156, g156⟩ := (hg 30 (by kernel_rfl)).2 _ 156 rfl rfl
                    obtain rfl := g156
                    go_simp
                    exact hK _ _ (hSS.stay (by decide) (by decide) (Below.refl _ _)) rfl
                  refine List.forall_mem_cons.2 ⟨?_, ?_⟩
                  · refine SlotStepM.plain rfl rfl rfl ?_
                    intro listed tm ws hsz hcl hsame hSS hun hg K hK
                    obtain ⟨v149, e149, g149⟩ := (hg 23 (by kernel_rfl)).2 _ 149 rfl rfl
                    obtain rfl := g149
                    obtain ⟨v157, e157, g157⟩ := (hg 31 (by kernel_rfl)).2 _ 157 rfl rfl
                    obtain rfl := g157
                    go_simp
                    exact hK _ _ (hSS.stay (by decide) (by decide) (Below.refl _ _)) rfl
                  refine List.forall_mem_cons.2 ⟨?_, ?_⟩
                  · refine SlotStepM.plain rfl rfl rfl ?_
                    intro listed tm ws hsz hcl hsame hSS hun hg K hK
                    obtain ⟨v158, e158, g158⟩ := (hg 32 (by kernel_rfl)).2 _ 158 rfl rfl
                    obtain rfl := g158
                    go_simp
                    exact hK _ _ (hSS.stay (by decide) (by decide) (Below.refl _ _)) rfl
                  refine List.forall_mem_cons.2 ⟨?_, ?_⟩
                  · refine SlotStepM.guarded rfl rfl 33 true rfl rfl (by kernel_rfl) (fun _ h => h) ?_
                    intro listed tm ws hsz hcl hsame hSS hun hg K hK
                    have e7 : tm[7]? = some (.pointer (some ⟨dq, 0, none⟩)) := hsame.2 7 rfl
                    go_simp
                    exact hK _ _ (hSS.stay (by decide) (by decide) (Below.refl _ _)) rfl
                  refine List.forall_mem_cons.2 ⟨?_, ?_⟩
                  · refine SlotStepM.guarded rfl rfl 33 true rfl rfl (by kernel_rfl) (fun _ h => h) ?_
                    intro listed tm ws hsz hcl hsame hSS hun hg K hK
                    obtain ⟨v160, e160, g160⟩ := (hg 34 (by kernel_rfl)).2 _ 160 rfl rfl
                    obtain rfl := g160
                    obtain ⟨hsp, hbw⟩ := hSS.at3 (hcl.up 6 33 29 (by kernel_rfl) (hg 33 (by kernel_rfl)).1) hun
                    go_simp
                    refine hsp.all.mono ?_
                    rintro e wA ⟨ea, ec, rfl, hre, hA, hbA⟩
                    rw [hp5]
                    exact hK _ _ (hSS.to4 hsz (hcl.up 6 33 29 (by kernel_rfl) (hg 33 (by kernel_rfl)).1) hun (show 161 < tm.size from hsame.1.symm ▸ (of_decide_eq_true (by kernel_rfl))) hA (hbw.trans (hbA.mono hbw.size)) hre) ⟨ea, ec, rfl⟩
                  refine List.forall_mem_cons.2 ⟨?_, ?_⟩
                  · refine SlotStepM.guarded rfl rfl 33 true rfl rfl (by kernel_rfl) (fun _ h => h) ?_
                    intro listed tm ws hsz hcl hsame hSS hun hg K hK
                    have e8 : tm[8]? = some (.pointer (some ⟨g, 0, none⟩)) := hsame.2 8 rfl
                    go_simp
                    exact hK _ _ (hSS.stay (by decide) (by decide) (Below.refl _ _)) rfl
                  refine List.forall_mem_cons.2 ⟨?_, ?_⟩
                  · refine SlotStepM.guarded rfl rfl 33 true rfl rfl (by kernel_rfl) (fun _ h => h) ?_
                    intro listed tm ws hsz hcl hsame hSS hun hg K hK
                    obtain ⟨v162, e162, g162⟩ := (hg 36 (by kernel_rfl)).2 _ 162 rfl rfl
                    obtain rfl := g162
                    go_simp
                    exact hK _ _ (hSS.stay (by decide) (by decide) (Below.refl _ _)) rfl
                  refine List.forall_mem_cons.2 ⟨?_, ?_⟩
                  · refine SlotStepM.guarded rfl rfl 33 true rfl rfl (by kernel_rfl) (fun _ h => h) ?_
                    intro listed tm ws hsz hcl hsame hSS hun hg K hK
                    obtain ⟨v163, e163, g163⟩ := (hg 37 (by kernel_rfl)).2 _ 163 rfl rfl
                    obtain rfl := g163
                    go_simp
                    exact hK _ _ (hSS.stay (by decide) (by decide) (Below.refl _ _)) rfl
                  refine List.forall_mem_cons.2 ⟨?_, ?_⟩
                  · refine SlotStepM.guarded rfl rfl 33 true rfl rfl (by kernel_rfl) (fun _ h => h) ?_
                    intro listed tm ws hsz hcl hsame hSS hun hg K hK
                    obtain ⟨v164, e164, g164⟩ := (hg 38 (by kernel_rfl)).2 _ 164 rfl rfl
                    obtain rfl := g164
                    obtain ⟨q0, -⟩ := hSS.row
                    go_simp
                    exact hK _ _ (hSS.stay (by decide) (by decide) (Below.refl _ _)) rfl
                  refine List.forall_mem_cons.2 ⟨?_, ?_⟩
                  · refine SlotStepM.guarded rfl rfl 33 true rfl rfl (by kernel_rfl) (fun _ h => h) ?_
                    intro listed tm ws hsz hcl hsame hSS hun hg K hK
                    obtain ⟨v161, e161, g161⟩ := (hg 35 (by kernel_rfl)).2 _ 161 rfl rfl
                    obtain ⟨ea, ec, rfl⟩ := g161
                    obtain ⟨v165, e165, g165⟩ := (hg 39 (by kernel_rfl)).2 _ 165 rfl rfl
                    obtain rfl := g165
                    obtain ⟨-, q1⟩ := hSS.row
                    obtain ⟨ea2, ec2, h161, hre⟩ := hSS.at4 (hg 35 (by kernel_rfl)).1
                    rw [e161] at h161
                    obtain ⟨rfl, rfl⟩ : ea = ea2 ∧ ec = ec2 := by simpa using h161
                    go_simp
                    refine (samen_yes hp5.symm hp5.symm hre q1 hq5).mono ?_
                    rintro e wF ⟨rfl, hbF⟩
                    exact hK _ _ (hSS.stay (by decide) (by decide) hbF) rfl
                  refine List.forall_mem_cons.2 ⟨?_, ?_⟩
                  · refine SlotStepM.plain rfl rfl rfl ?_
                    intro listed tm ws hsz hcl hsame hSS hun hg K hK
                    obtain ⟨v159, e159, g159⟩ := (hg 33 (by kernel_rfl)).2 _ 159 rfl rfl
                    obtain rfl := g159
                    obtain ⟨v166, e166, g166⟩ := (hg 40 (by kernel_rfl)).2 _ 166 rfl rfl
                    obtain rfl := g166
                    go_simp
                    exact hK _ _ (hSS.stay (by decide) (by decide) (Below.refl _ _)) rfl
                  refine List.forall_mem_cons.2 ⟨?_, ?_⟩
                  · refine SlotStepM.plain rfl rfl rfl ?_
                    intro listed tm ws hsz hcl hsame hSS hun hg K hK
                    obtain ⟨v167, e167, g167⟩ := (hg 41 (by kernel_rfl)).2 _ 167 rfl rfl
                    obtain rfl := g167
                    go_simp
                    exact hK _ _ (hSS.stay (by decide) (by decide) (Below.refl _ _)) rfl
                  exact fun _ h => nomatch h
                case finM3 =>
                  intro listed tm w9 hall hsame hSS hgot
                  obtain ⟨v6, e6, g6⟩ := hgot 42 _ 6 rfl rfl
                  obtain rfl := g6
                  obtain ⟨u6, hu, htm⟩ := hsame.form (by kernel_rfl)
                  have h6 := hu _ _ e6
                  have hbw := hSS.1.1
                  clear hgot hu hsame e6 hSS hall hS0
                  rw [htm]
                  clear htm tm
                  simp only [List.foldl_cons, List.foldl_nil, List.setIfInBounds_toArray, List.set_cons_zero, List.set_cons_succ, h6]
                  clear h6
                  go_wp2_with fail
                  go_ret
                  exact ⟨rfl, hbw⟩
            · have d3 : decide ((-9007199254740992 : Int) ≤ v) = true := by simp; omega
              have d4 : decide (v ≤ 9007199254740992) = true := by simp; omega
              have hni : nint false L v = nput false L (0, fw, 0, 0) := by unfold nint; rw [if_pos ⟨by omega, by omega⟩, hfw]
              have hgl := nput_le false L (0, fw, 0, 0)
              have HNI := Lib.hid hni
              clear hni
              go_wp2_with fail
              refine (hsp.put hb0.size (by omega) (0, fw, 0, 0) hfv).mono ?_
              rintro e wx ⟨rfl, hsx, hbx⟩
              have hbx0 := hb0.trans hbx
              clear hsp hb0 hbx
              go_wp2_with fail
              refine (hsx.dag hbx0.size (r := nput false L (0, fw, 0, 0)) (fun F hD _ => by have h9 := C.int v hD (by omega) hv.1 hv.2; rw [HNI.out] at h9; exact h9)).mono ?_
              rintro e wy ⟨rfl, hsy, hby⟩
              have hby0 := hbx0.trans hby
              clear hsx hbx0 hby
              obtain ⟨W0, hW0⟩ : ∃ W0, wy = W0 := ⟨_, rfl⟩
              obtain ⟨M, hM⟩ : ∃ M, (nput false L (0, fw, 0, 0)).2 = M := ⟨_, rfl⟩
              have HS : Hid (SP C w.heap.size W0 (.pointer (some ⟨dq, 0, none⟩)) g M M false) := Lib.hid (by rw [← hW0, ← hM]; exact hsy)
              have hbM : Below w.heap.size w W0 := hW0 ▸ hby0
              have hMl : M.length ≤ 21 := by rw [← hM]; omega
              rw [hW0]
              clear hW0 hM
              by_cases hz : n2 = 0
              · have hids : ids = [] := List.eq_nil_of_length_eq_zero (by have := HN2.out; omega)
                subst hz
                have HSt := Lib.hid (HS.out.below (Below.refl _ W0).drew)
                have hbw := hbM.drew
                have g1 := nput_le false M (0, 0, 0, 0)
                have g2 := nput_le false (nput false M (0, 0, 0, 0)).2 (0, F1, 0, 0)
                clear HS hbM
                go_wp2_with fail
                go_region_law (go_simp; first
                  | (go_at_call 11; refine (HSt.out.dag hbw.size (r := nput false M (0, 0, 0, 0)) (fun F hD _ => C.add none 0 0 [] hD (by simp; omega) rfl (Nat.le_refl _) (Or.inl rfl) (fun _ _ e => nomatch e))).mono ?_; rintro e wA ⟨rfl, hA, hbA⟩; clear HSt; have HSt := Lib.hid hA; replace hbw := hbw.trans hbA; clear hA hbA)
                  | (go_at_call 12; refine (HSt.out.dag hbw.size (r := nput false (nput false M (0, 0, 0, 0)).2 (0, F1, 0, 0)) (fun F hD _ => C.mul none 0 0 [] hD (by simp; omega) rfl (Nat.le_refl _) (Or.inl rfl) (fun _ _ e => nomatch e))).mono ?_; rintro e wC ⟨rfl, hC, hbC⟩; clear HSt; have HSt := Lib.hid hC; replace hbw := hbw.trans hbC; clear hC hbC)
                  | (go_at_call 9; refine (HSt.out.put hbw.size (by omega) (0, _, 0, 0) (by decide)).mono ?_; rintro e wB ⟨rfl, hB, hbB⟩; clear HSt; have HSt := Lib.hid hB; replace hbw := hbw.trans hbB; obtain ⟨ra, rc, q0, hrd⟩ := hB.row; have HRD := Lib.hid hrd; clear hB hrd hbB)
                  | (go_at_call 14; refine HSt.out.all.mono ?_; rintro e wE ⟨ea, ec, rfl, hre, hE, hbE⟩; have HRE := Lib.hid hre; have HRD2 := Lib.hid (HRD.out.below hbE); replace hbw := hbw.trans (hbE.mono hbw.size); have q1 : wE.cell? ⟨g, 0, none⟩ = some (.slice ra _ rc) := cell_after hbE q0; clear hre hE)
                  | (go_at_call 13; refine (samen_yes rfl rfl HRE.out HRD2.out (by omega)).mono ?_; rintro e wF ⟨rfl, hbF⟩; replace hbw := hbw.trans (hbF.mono hbw.size)))
                all_goals
                  go_wp2_with fail
                  go_ret
                  exact ⟨rfl, hbw⟩
              · have hids : ids ≠ [] := by intro e; have := HN2.out; rw [e] at this; simp at this; omega
                obtain ⟨z0, z1, z2⟩ := bne_of (x := (n2 : Int)) (y := 0) (by omega)
                obtain ⟨b0, o0, rfl, -⟩ := HR2.out.some hids
                obtain ⟨i0, hi0⟩ : ∃ x, ids[0]? = some x := ⟨ids[0]'(List.length_pos_iff.2 hids), by rw [List.getElem?_eq_getElem]⟩
                have hi0' : ∀ wz, Below w.heap.size w wz → wz.cell? ⟨b0, o0, none⟩ = some (.int .i64 i0) := fun wz hz => (HR2.out.below hz HRB.out).at (j := 0) hi0
                have HI0 := Lib.hid hi0'
                have HOFF : Hid (∀ (F : Nat → Prop) (wz : World), (∀ k, F k → w.heap.size ≤ k) → Below w.heap.size w wz → ∀ b off, some (⟨b0, o0, none⟩ : Addr) = some ⟨b, off, none⟩ → ¬ F b ∧ b < wz.heap.size) := Lib.hid fun F wz hF hz b off e => by
                  have hlt := HRB.out b off e hids
                  have hsz := hz.size
                  exact ⟨fun hf => by have := hF b hf; omega, by omega⟩
                have hn2 : 0 < n2 := by omega
                clear hi0 hi0'
                go_wp2_with fail
                have H1 := HS.out.chain (c := c2) hbM.size (by omega) 1 HN2.out hids (by omega) (HR2.out.below hbM HRB.out) HRB.out
                obtain ⟨r1, hr1⟩ : ∃ r, nchain0 false 1 M ids = r := ⟨_, rfl⟩
                have hl1 := nchain0_le false 1 M ids
                rw [hr1] at H1 hl1
                have HE1 := Lib.hid ((nmany_eq false 1 0 M ids hids).trans hr1)
                clear hr1
                refine H1.mono ?_
                rintro e wa ⟨rfl, h1, hb1⟩
                have hba := hbM.trans hb1
                clear H1 HS hbM hb1
                go_wp2_with fail
                refine (h1.dag hba.size (r := r1) (fun F hD hF => by have h9 := C.add (some ⟨b0, o0, none⟩) c2 n2 ids hD (by have := HN2.out; omega) HN2.out HC2.out (HR2.out.below hba HRB.out) (HOFF.out F wa hF hba); rw [HE1.out] at h9; exact h9)).mono ?_
                rintro e wb ⟨rfl, h3, hb3⟩
                have hbb := hba.trans hb3
                clear h1 hba hb3
                go_wp2_with fail
                have hln := HN2.out
                have H3 := h3.chain (c := c2) hbb.size (by omega) 3 HN2.out hids (by omega) (HR2.out.below hbb HRB.out) HRB.out
                obtain ⟨r2, hr2⟩ : ∃ r, nchain0 false 3 r1.2 ids = r := ⟨_, rfl⟩
                have hl2 := nchain0_le false 3 r1.2 ids
                rw [← hln] at hl1 hl2
                rw [hr2] at H3 hl2
                have HE2 := Lib.hid ((nmany_eq false 3 F1 r1.2 ids hids).trans hr2)
                clear hr2 hln
                refine H3.mono ?_
                rintro e wc ⟨rfl, h4, hb4⟩
                have hbc := hbb.trans hb4
                clear H3 h3 hbb hb4
                go_wp2_with fail
                refine (h4.dag hbc.size (r := r2) (fun F hD hF => by have h9 := C.mul (some ⟨b0, o0, none⟩) c2 n2 ids hD (by have := HN2.out; omega) HN2.out HC2.out (HR2.out.below hbc HRB.out) (HOFF.out F wc hF hbc); rw [HE2.out] at h9; exact h9)).mono ?_
                rintro e wd ⟨rfl, h5, hb5⟩
                have hbd := hbc.trans hb5
                clear h4 hbc hb5
                go_wp2_with fail
                have H5 := h5.put hbd.size (by omega) (4, 0, idI r1.1, idI r2.1) (show (0 : Nat) < 18446744073709551616 by decide)
                obtain ⟨r3, hr3⟩ : ∃ r, nput false r2.2 (4, 0, idI r1.1, idI r2.1) = r := ⟨_, rfl⟩
                have hl3 := nput_le false r2.2 (4, 0, idI r1.1, idI r2.1)
                rw [hr3] at H5 hl3
                have HE3 := Lib.hid hr3
                clear hr3
                refine H5.mono ?_
                rintro e we ⟨rfl, h6, hb6⟩
                have hbe := hbd.trans hb6
                clear H5 h5 hbd hb6
                go_wp2_with fail
                have H6 := h6.put hbe.size (by omega) (5, 0, idI r3.1, 0) (show (0 : Nat) < 18446744073709551616 by decide)
                obtain ⟨r4, hr4⟩ : ∃ r, nput false r3.2 (5, 0, idI r3.1, 0) = r := ⟨_, rfl⟩
                have hl4 := nput_le false r3.2 (5, 0, idI r3.1, 0)
                rw [hr4] at H6 hl4
                have HE4 := Lib.hid hr4
                clear hr4
                refine H6.mono ?_
                rintro e wf ⟨rfl, h7, hb7⟩
                have hbf := hbe.trans hb7
                have cf := HI0.out wf hbf
                clear H6 h6 hbe hb7
                go_wp2_with fail
                have H7 := h7.put hbf.size (by omega) (2, 0, idI r4.1, i0) (show (0 : Nat) < 18446744073709551616 by decide)
                obtain ⟨r5, hr5⟩ : ∃ r, nput false r4.2 (2, 0, idI r4.1, i0) = r := ⟨_, rfl⟩
                have hl5 := nput_le false r4.2 (2, 0, idI r4.1, i0)
                rw [hr5] at H7 hl5
                have HE5 := Lib.hid hr5
                clear hr5
                refine H7.mono ?_
                rintro e wg ⟨rfl, h8, hb8⟩
                obtain ⟨ra, rc, hspv⟩ := h8.named
                obtain ⟨p5, hp5⟩ : ∃ p, r5.2.length = p := ⟨_, rfl⟩
                rw [hp5] at hspv
                have hS0 : ∀ tm, S26 C w.heap.size w dq g ra rc r2.2 r3.2 r4.2 r5.2 p5 (Array.replicate 43 false) tm wg.drew := fun tm =>
                  ⟨⟨(hbf.trans hb8).drew, Nat.le_refl _⟩, Or.inl ⟨by decide, by decide, by decide, by decide, hspv.below (Below.refl _ wg).drew⟩, hp5⟩
                have hq2 : r2.2.length ≤ 10000 := by omega
                have hq3 : r3.2.length ≤ 10000 := by omega
                have hq4 : r4.2.length ≤ 10000 := by omega
                have hq5 : r5.2.length ≤ 1000000 := by omega
                have HDIV : Hid (∀ F wz, C.D wz (.pointer (some ⟨dq, 0, none⟩)) r2.2 false F → Calls Try.prog 16 #[.pointer (some ⟨dq, 0, none⟩), .int .i64 (idI r1.1), .int .i64 (idI r2.1)] wz fun e w' => RetD C.D wz (.pointer (some ⟨dq, 0, none⟩)) r3.2 false F (.int .i64 (idI r3.1)) e w') := Lib.hid fun F wz hD => by have h9 := C.div (idI r1.1) (idI r2.1) hD hq2; rw [HE3.out] at h9; exact h9
                have HROOT : Hid (∀ F wz, C.D wz (.pointer (some ⟨dq, 0, none⟩)) r3.2 false F → Calls Try.prog 17 #[.pointer (some ⟨dq, 0, none⟩), .int .i64 (idI r3.1)] wz fun e w' => RetD C.D wz (.pointer (some ⟨dq, 0, none⟩)) r4.2 false F (.int .i64 (idI r4.1)) e w') := Lib.hid fun F wz hD => by have h9 := C.root (idI r3.1) hD hq3; rw [HE4.out] at h9; exact h9
                have HSUB : Hid (∀ F wz, C.D wz (.pointer (some ⟨dq, 0, none⟩)) r4.2 false F → Calls Try.prog 18 #[.pointer (some ⟨dq, 0, none⟩), .int .i64 (idI r4.1), .int .i64 i0] wz fun e w' => RetD C.D wz (.pointer (some ⟨dq, 0, none⟩)) r5.2 false F (.int .i64 (idI r5.1)) e w') := Lib.hid fun F wz hD => by have h9 := C.sub (idI r4.1) i0 hD hq4; rw [HE5.out] at h9; exact h9
                clear H7 h7 hbf hb8 cf h8 hspv HA HN1 HF1 HFB HFV HN2 HR2 HRB h1 h2 d1 d2 hlen hLn hfv hgl HNI hMl hz hids z0 z1 z2 HOFF HE1 HE2 HE3 HE4 HE5 hl1 hl2 hl3 hl4 hl5
                go_upto_region 26 with fail
                refine wp_region_slotsm (by kernel_rfl) [126, 127, 128, 129, 130, 131, 132, 133, 134, 135, 136, 137, 138, 139, 140, 141, 142, 143, 144, 145, 146, 147, 148, 149, 150, 151, 152, 153, 154, 155, 156, 157, 158, 159, 160, 161, 162, 163, 164, 165, 166, 167, 6] (S26 C w.heap.size w dq g ra rc r2.2 r3.2 r4.2 r5.2 p5) (SaidV [Is0 (.int .i64 (idI r1.1)), Is0 (.int .i64 (idI r1.1)), Is0 (.bool true), Is0 (.bool true), Is0 (.int .i64 (idI r2.1)), Is0 (.int .i64 (idI r2.1)), Is0 (.bool true), Is0 (.bool true), Is0 (.bool true), Is0 (.pointer (some ⟨dq, 0, none⟩)), Is0 (.int .i64 (idI r1.1)), Is0 (.int .i64 (idI r2.1)), Is0 (.int .i64 (idI r3.1)), Is0 (.int .i64 (idI r3.1)), Is0 (.bool true), Is0 (.bool true), Is0 (.bool true), Is0 (.pointer (some ⟨dq, 0, none⟩)), Is0 (.int .i64 (idI r3.1)), Is0 (.int .i64 (idI r4.1)), Is0 (.int .i64 (idI r4.1)), Is0 (.bool true), Is0 (.bool true), Is0 (.bool true), Is0 (.pointer (some ⟨dq, 0, none⟩)), Is0 (.int .i64 (idI r4.1)), Is0 (.slice (some ⟨b0, o0, none⟩) n2 c2), Is0 (.pointer (some ⟨b0, o0, none⟩)), Is0 (.int .i64 i0), Is0 (.int .i64 (idI r5.1)), Is0 (.int .i64 (idI r5.1)), Is0 (.bool true), Is0 (.bool true), Is0 (.bool true), Is0 (.pointer (some ⟨dq, 0, none⟩)), IsRowV p5, Is0 (.pointer (some ⟨g, 0, none⟩)), Is0 (.pointer (some ⟨g, 0, none⟩)), Is0 (.pointer (some ⟨g, 0, none⟩)), Is0 (.slice ra p5 rc), Is0 (.bool true), Is0 (.bool true), Is0 (.bool true)]) (by kernel_rfl) (by kernel_rfl) (by kernel_rfl) (by kernel_rfl) (hS0 _) (l := [0, 1, 2, 3, 4, 5, 6, 7, 8, 9, 10, 11, 12, 13, 14, 15, 16, 17, 18, 19, 20, 21, 22, 23, 24, 25, 26, 27, 28, 29, 30, 31, 32, 33, 34, 35, 36, 37, 38, 39, 40, 41, 42]) (by kernel_rfl) ?stepM1 ?finM1
                case stepM1 =>
                  refine List.forall_mem_cons.2 ⟨?_, ?_⟩
                  · refine SlotStepM.plain rfl rfl rfl ?_
                    intro listed tm ws hsz hcl hsame hSS hun hg K hK
                    have e12 : tm[12]? = some (.int .i64 (idI r1.1)) := hsame.2 12 rfl
                    go_simp
                    exact hK _ _ (hSS.stay (by decide) (by decide) (Below.refl _ _)) rfl
                  refine List.forall_mem_cons.2 ⟨?_, ?_⟩
                  · refine SlotStepM.plain rfl rfl rfl ?_
                    intro listed tm ws hsz hcl hsame hSS hun hg K hK
                    have e11 : tm[11]? = some (.int .i64 (idI r1.1)) := hsame.2 11 rfl
                    go_simp
                    exact hK _ _ (hSS.stay (by decide) (by decide) (Below.refl _ _)) rfl
                  refine List.forall_mem_cons.2 ⟨?_, ?_⟩
                  · refine SlotStepM.plain rfl rfl rfl ?_
                    intro listed tm ws hsz hcl hsame hSS hun hg K hK
                    obtain ⟨v126, e126, g126⟩ := (hg 0 (by kernel_rfl)).2 _ 126 rfl rfl
                    obtain rfl := g126
                    obtain ⟨v127, e127, g127⟩ := (hg 1 (by kernel_rfl)).2 _ 127 rfl rfl
                    obtain rfl := g127
                    go_simp
                    exact hK _ _ (hSS.stay (by decide) (by decide) (Below.refl _ _)) rfl
                  refine List.forall_mem_cons.2 ⟨?_, ?_⟩
                  · refine SlotStepM.plain rfl rfl rfl ?_
                    intro listed tm ws hsz hcl hsame hSS hun hg K hK
                    obtain ⟨v128, e128, g128⟩ := (hg 2 (by kernel_rfl)).2 _ 128 rfl rfl
                    obtain rfl := g128
                    go_simp
                    exact hK _ _ (hSS.stay (by decide) (by decide) (Below.refl _ _)) rfl
                  refine List.forall_mem_cons.2 ⟨?_, ?_⟩
                  · refine SlotStepM.guarded rfl rfl 3 true rfl rfl (by kernel_rfl) (fun _ h => h) ?_
                    intro listed tm ws hsz hcl hsame hSS hun hg K hK
                    have e14 : tm[14]? = some (.int .i64 (idI r2.1)) := hsame.2 14 rfl
                    go_simp
                    exact hK _ _ (hSS.stay (by decide) (by decide) (Below.refl _ _)) rfl
                  refine List.forall_mem_cons.2 ⟨?_, ?_⟩
                  · refine SlotStepM.guarded rfl rfl 3 true rfl rfl (by kernel_rfl) (fun _ h => h) ?_
                    intro listed tm ws hsz hcl hsame hSS hun hg K hK
                    have e13 : tm[13]? = some (.int .i64 (idI r2.1)) := hsame.2 13 rfl
                    go_simp
                    exact hK _ _ (hSS.stay (by decide) (by decide) (Below.refl _ _)) rfl
                  refine List.forall_mem_cons.2 ⟨?_, ?_⟩
                  · refine SlotStepM.guarded rfl rfl 3 true rfl rfl (by kernel_rfl) (fun _ h => h) ?_
                    intro listed tm ws hsz hcl hsame hSS hun hg K hK
                    obtain ⟨v130, e130, g130⟩ := (hg 4 (by kernel_rfl)).2 _ 130 rfl rfl
                    obtain rfl := g130
                    obtain ⟨v131, e131, g131⟩ := (hg 5 (by kernel_rfl)).2 _ 131 rfl rfl
                    obtain rfl := g131
                    go_simp
                    exact hK _ _ (hSS.stay (by decide) (by decide) (Below.refl _ _)) rfl
                  refine List.forall_mem_cons.2 ⟨?_, ?_⟩
                  · refine SlotStepM.plain rfl rfl rfl ?_
                    intro listed tm ws hsz hcl hsame hSS hun hg K hK
                    obtain ⟨v129, e129, g129⟩ := (hg 3 (by kernel_rfl)).2 _ 129 rfl rfl
                    obtain rfl := g129
                    obtain ⟨v132, e132, g132⟩ := (hg 6 (by kernel_rfl)).2 _ 132 rfl rfl
                    obtain rfl := g132
                    go_simp
                    exact hK _ _ (hSS.stay (by decide) (by decide) (Below.refl _ _)) rfl
                  refine List.forall_mem_cons.2 ⟨?_, ?_⟩
                  · refine SlotStepM.plain rfl rfl rfl ?_
                    intro listed tm ws hsz hcl hsame hSS hun hg K hK
                    obtain ⟨v133, e133, g133⟩ := (hg 7 (by kernel_rfl)).2 _ 133 rfl rfl
                    obtain rfl := g133
                    go_simp
                    exact hK _ _ (hSS.stay (by decide) (by decide) (Below.refl _ _)) rfl
                  refine List.forall_mem_cons.2 ⟨?_, ?_⟩
                  · refine SlotStepM.guarded rfl rfl 8 true rfl rfl (by kernel_rfl) (fun _ h => h) ?_
                    intro listed tm ws hsz hcl hsame hSS hun hg K hK
                    have e7 : tm[7]? = some (.pointer (some ⟨dq, 0, none⟩)) := hsame.2 7 rfl
                    go_simp
                    exact hK _ _ (hSS.stay (by decide) (by decide) (Below.refl _ _)) rfl
                  refine List.forall_mem_cons.2 ⟨?_, ?_⟩
                  · refine SlotStepM.guarded rfl rfl 8 true rfl rfl (by kernel_rfl) (fun _ h => h) ?_
                    intro listed tm ws hsz hcl hsame hSS hun hg K hK
                    have e12 : tm[12]? = some (.int .i64 (idI r1.1)) := hsame.2 12 rfl
                    go_simp
                    exact hK _ _ (hSS.stay (by decide) (by decide) (Below.refl _ _)) rfl
                  refine List.forall_mem_cons.2 ⟨?_, ?_⟩
                  · refine SlotStepM.guarded rfl rfl 8 true rfl rfl (by kernel_rfl) (fun _ h => h) ?_
                    intro listed tm ws hsz hcl hsame hSS hun hg K hK
                    have e14 : tm[14]? = some (.int .i64 (idI r2.1)) := hsame.2 14 rfl
                    go_simp
                    exact hK _ _ (hSS.stay (by decide) (by decide) (Below.refl _ _)) rfl
                  refine List.forall_mem_cons.2 ⟨?_, ?_⟩
                  · refine SlotStepM.guarded rfl rfl 8 true rfl rfl (by kernel_rfl) (fun _ h => h) ?_
                    intro listed tm ws hsz hcl hsame hSS hun hg K hK
                    obtain ⟨v135, e135, g135⟩ := (hg 9 (by kernel_rfl)).2 _ 135 rfl rfl
                    obtain rfl := g135
                    obtain ⟨v136, e136, g136⟩ := (hg 10 (by kernel_rfl)).2 _ 136 rfl rfl
                    obtain rfl := g136
                    obtain ⟨v137, e137, g137⟩ := (hg 11 (by kernel_rfl)).2 _ 137 rfl rfl
                    obtain rfl := g137
                    obtain ⟨hsp, hbw⟩ := hSS.at0 hun
                    go_simp
                    refine (hsp.dag (hbw.size) (r := r3) (fun F hD _ => HDIV.out F ws hD)).mono ?_
                    rintro e wA ⟨rfl, hA, hbA⟩
                    exact hK _ _ (hSS.to1 hsz hun hA (hbw.trans hbA)) rfl
                  refine List.forall_mem_cons.2 ⟨?_, ?_⟩
                  · refine SlotStepM.guarded rfl rfl 8 true rfl rfl (by kernel_rfl) (fun _ h => h) ?_
                    intro listed tm ws hsz hcl hsame hSS hun hg K hK
                    have e15 : tm[15]? = some (.int .i64 (idI r3.1)) := hsame.2 15 rfl
                    go_simp
                    exact hK _ _ (hSS.stay (by decide) (by decide) (Below.refl _ _)) rfl
                  refine List.forall_mem_cons.2 ⟨?_, ?_⟩
                  · refine SlotStepM.guarded rfl rfl 8 true rfl rfl (by kernel_rfl) (fun _ h => h) ?_
                    intro listed tm ws hsz hcl hsame hSS hun hg K hK
                    obtain ⟨v138, e138, g138⟩ := (hg 12 (by kernel_rfl)).2 _ 138 rfl rfl
                    obtain rfl := g138
                    obtain ⟨v139, e139, g139⟩ := (hg 13 (by kernel_rfl)).2 _ 139 rfl rfl
                    obtain rfl := g139
                    go_simp
                    exact hK _ _ (hSS.stay (by decide) (by decide) (Below.refl _ _)) rfl
                  refine List.forall_mem_cons.2 ⟨?_, ?_⟩
                  · refine SlotStepM.plain rfl rfl rfl ?_
                    intro listed tm ws hsz hcl hsame hSS hun hg K hK
                    obtain ⟨v134, e134, g134⟩ := (hg 8 (by kernel_rfl)).2 _ 134 rfl rfl
                    obtain rfl := g134
                    obtain ⟨v140, e140, g140⟩ := (hg 14 (by kernel_rfl)).2 _ 140 rfl rfl
                    obtain rfl := g140
                    go_simp
                    exact hK _ _ (hSS.stay (by decide) (by decide) (Below.refl _ _)) rfl
                  refine List.forall_mem_cons.2 ⟨?_, ?_⟩
                  · refine SlotStepM.plain rfl rfl rfl ?_
                    intro listed tm ws hsz hcl hsame hSS hun hg K hK
                    obtain ⟨v141, e141, g141⟩ := (hg 15 (by kernel_rfl)).2 _ 141 rfl rfl
                    obtain rfl := g141
                    go_simp
                    exact hK _ _ (hSS.stay (by decide) (by decide) (Below.refl _ _)) rfl
                  refine List.forall_mem_cons.2 ⟨?_, ?_⟩
                  · refine SlotStepM.guarded rfl rfl 16 true rfl rfl (by kernel_rfl) (fun _ h => h) ?_
                    intro listed tm ws hsz hcl hsame hSS hun hg K hK
                    have e7 : tm[7]? = some (.pointer (some ⟨dq, 0, none⟩)) := hsame.2 7 rfl
                    go_simp
                    exact hK _ _ (hSS.stay (by decide) (by decide) (Below.refl _ _)) rfl
                  refine List.forall_mem_cons.2 ⟨?_, ?_⟩
                  · refine SlotStepM.guarded rfl rfl 16 true rfl rfl (by kernel_rfl) (fun _ h => h) ?_
                    intro listed tm ws hsz hcl hsame hSS hun hg K hK
                    have e15 : tm[15]? = some (.int .i64 (idI r3.1)) := hsame.2 15 rfl
                    go_simp
                    exact hK _ _ (hSS.stay (by decide) (by decide) (Below.refl _ _)) rfl
                  refine List.forall_mem_cons.2 ⟨?_, ?_⟩
                  · refine SlotStepM.guarded rfl rfl 16 true rfl rfl (by kernel_rfl) (fun _ h => h) ?_
                    intro listed tm ws hsz hcl hsame hSS hun hg K hK
                    obtain ⟨v143, e143, g143⟩ := (hg 17 (by kernel_rfl)).2 _ 143 rfl rfl
                    obtain rfl := g143
                    obtain ⟨v144, e144, g144⟩ := (hg 18 (by kernel_rfl)).2 _ 144 rfl rfl
                    obtain rfl := g144
                    obtain ⟨hsp, hbw⟩ := hSS.at1 (hcl.up 6 16 12 (by kernel_rfl) (hg 16 (by kernel_rfl)).1) hun
                    go_simp
                    refine (hsp.dag (hbw.size) (r := r4) (fun F hD _ => HROOT.out F ws hD)).mono ?_
                    rintro e wA ⟨rfl, hA, hbA⟩
                    exact hK _ _ (hSS.to2 hsz (hcl.up 6 16 12 (by kernel_rfl) (hg 16 (by kernel_rfl)).1) hun hA (hbw.trans hbA)) rfl
                  refine List.forall_mem_cons.2 ⟨?_, ?_⟩
                  · refine SlotStepM.guarded rfl rfl 16 true rfl rfl (by kernel_rfl) (fun _ h => h) ?_
                    intro listed tm ws hsz hcl hsame hSS hun hg K hK
                    have e16 : tm[16]? = some (.int .i64 (idI r4.1)) := hsame.2 16 rfl
                    go_simp
                    exact hK _ _ (hSS.stay (by decide) (by decide) (Below.refl _ _)) rfl
                  refine List.forall_mem_cons.2 ⟨?_, ?_⟩
                  · refine SlotStepM.guarded rfl rfl 16 true rfl rfl (by kernel_rfl) (fun _ h => h) ?_
                    intro listed tm ws hsz hcl hsame hSS hun hg K hK
                    obtain ⟨v145, e145, g145⟩ := (hg 19 (by kernel_rfl)).2 _ 145 rfl rfl
                    obtain rfl := g145
                    obtain ⟨v146, e146, g146⟩ := (hg 20 (by kernel_rfl)).2 _ 146 rfl rfl
                    obtain rfl := g146
                    go_simp
                    exact hK _ _ (hSS.stay (by decide) (by decide) (Below.refl _ _)) rfl
                  refine List.forall_mem_cons.2 ⟨?_, ?_⟩
                  · refine SlotStepM.plain rfl rfl rfl ?_
                    intro listed tm ws hsz hcl hsame hSS hun hg K hK
                    obtain ⟨v142, e142, g142⟩ := (hg 16 (by kernel_rfl)).2 _ 142 rfl rfl
                    obtain rfl := g142
                    obtain ⟨v147, e147, g147⟩ := (hg 21 (by kernel_rfl)).2 _ 147 rfl rfl
                    obtain rfl := g147
                    go_simp
                    exact hK _ _ (hSS.stay (by decide) (by decide) (Below.refl _ _)) rfl
                  refine List.forall_mem_cons.2 ⟨?_, ?_⟩
                  · refine SlotStepM.plain rfl rfl rfl ?_
                    intro listed tm ws hsz hcl hsame hSS hun hg K hK
                    obtain ⟨v148, e148, g148⟩ := (hg 22 (by kernel_rfl)).2 _ 148 rfl rfl
                    obtain rfl := g148
                    go_simp
                    exact hK _ _ (hSS.stay (by decide) (by decide) (Below.refl _ _)) rfl
                  refine List.forall_mem_cons.2 ⟨?_, ?_⟩
                  · refine SlotStepM.guarded rfl rfl 23 true rfl rfl (by kernel_rfl) (fun _ h => h) ?_
                    intro listed tm ws hsz hcl hsame hSS hun hg K hK
                    have e7 : tm[7]? = some (.pointer (some ⟨dq, 0, none⟩)) := hsame.2 7 rfl
                    go_simp
                    exact hK _ _ (hSS.stay (by decide) (by decide) (Below.refl _ _)) rfl
                  refine List.forall_mem_cons.2 ⟨?_, ?_⟩
                  · refine SlotStepM.guarded rfl rfl 23 true rfl rfl (by kernel_rfl) (fun _ h => h) ?_
                    intro listed tm ws hsz hcl hsame hSS hun hg K hK
                    have e16 : tm[16]? = some (.int .i64 (idI r4.1)) := hsame.2 16 rfl
                    go_simp
                    exact hK _ _ (hSS.stay (by decide) (by decide) (Below.refl _ _)) rfl
                  refine List.forall_mem_cons.2 ⟨?_, ?_⟩
                  · refine SlotStepM.guarded rfl rfl 23 true rfl rfl (by kernel_rfl) (fun _ h => h) ?_
                    intro listed tm ws hsz hcl hsame hSS hun hg K hK
                    have e2 : tm[2]? = some (.slice (some ⟨b0, o0, none⟩) n2 c2) := hsame.2 2 rfl
                    go_simp
                    exact hK _ _ (hSS.stay (by decide) (by decide) (Below.refl _ _)) rfl
                  refine List.forall_mem_cons.2 ⟨?_, ?_⟩
                  · refine SlotStepM.guarded rfl rfl 23 true rfl rfl (by kernel_rfl) (fun _ h => h) ?_
                    intro listed tm ws hsz hcl hsame hSS hun hg K hK
                    obtain ⟨v152, e152, g152⟩ := (hg 26 (by kernel_rfl)).2 _ 152 rfl rfl
                    obtain rfl := g152
                    go_simp
                    exact hK _ _ (hSS.stay (by decide) (by decide) (Below.refl _ _)) rfl
                  refine List.forall_mem_cons.2 ⟨?_, ?_⟩
                  · refine SlotStepM.guarded rfl rfl 23 true rfl rfl (by kernel_rfl) (fun _ h => h) ?_
                    intro listed tm ws hsz hcl hsame hSS hun hg K hK
                    obtain ⟨v153, e153, g153⟩ := (hg 27 (by kernel_rfl)).2 _ 153 rfl rfl
                    obtain rfl := g153
                    have cB := HI0.out ws hSS.1.1
                    go_simp
                    exact hK _ _ (hSS.stay (by decide) (by decide) (Below.refl _ _)) rfl
                  refine List.forall_mem_cons.2 ⟨?_, ?_⟩
                  · refine SlotStepM.guarded rfl rfl 23 true rfl rfl (by kernel_rfl) (fun _ h => h) ?_
                    intro listed tm ws hsz hcl hsame hSS hun hg K hK
                    obtain ⟨v150, e150, g150⟩ := (hg 24 (by kernel_rfl)).2 _ 150 rfl rfl
                    obtain rfl := g150
                    obtain ⟨v151, e151, g151⟩ := (hg 25 (by kernel_rfl)).2 _ 151 rfl rfl
                    obtain rfl := g151
                    obtain ⟨v154, e154, g154⟩ := (hg 28 (by kernel_rfl)).2 _ 154 rfl rfl
                    obtain rfl := g154
                    obtain ⟨hsp, hbw⟩ := hSS.at2 (hcl.up 6 23 19 (by kernel_rfl) (hg 23 (by kernel_rfl)).1) hun
                    go_simp
                    refine (hsp.dag (hbw.size) (r := r5) (fun F hD _ => HSUB.out F ws hD)).mono ?_
                    rintro e wA ⟨rfl, hA, hbA⟩
                    exact hK _ _ (hSS.to3 hsz (hcl.up 6 23 19 (by kernel_rfl) (hg 23 (by kernel_rfl)).1) hun hA (hbw.trans hbA)) rfl
                  refine List.forall_mem_cons.2 ⟨?_, ?_⟩
                  · refine SlotStepM.guarded rfl rfl 23 true rfl rfl (by kernel_rfl) (fun _ h => h) ?_
                    intro listed tm ws hsz hcl hsame hSS hun hg K hK
                    have e17 : tm[17]? = some (.int .i64 (idI r5.1)) := hsame.2 17 rfl
                    go_simp
                    exact hK _ _ (hSS.stay (by decide) (by decide) (Below.refl _ _)) rfl
                  refine List.forall_mem_cons.2 ⟨?_, ?_⟩
                  · refine SlotStepM.guarded rfl rfl 23 true rfl rfl (by kernel_rfl) (fun _ h => h) ?_
                    intro listed tm ws hsz hcl hsame hSS hun hg K hK
                    obtain ⟨v155, e155, g155⟩ := (hg 29 (by kernel_rfl)).2 _ 155 rfl rfl
                    obtain rfl := g155
                    obtain ⟨v156, e156, g156⟩ := (hg 30 (by kernel_rfl)).2 _ 156 rfl rfl
                    obtain rfl := g156
                    go_simp
                    exact hK _ _ (hSS.stay (by decide) (by decide) (Below.refl _ _)) rfl
                  refine List.forall_mem_cons.2 ⟨?_, ?_⟩
                  · refine SlotStepM.plain rfl rfl rfl ?_
                    intro listed tm ws hsz hcl hsame hSS hun hg K hK
                    obtain ⟨v149, e149, g149⟩ := (hg 23 (by kernel_rfl)).2 _ 149 rfl rfl
                    obtain rfl := g149
                    obtain ⟨v157, e157, g157⟩ := (hg 31 (by kernel_rfl)).2 _ 157 rfl rfl
                    obtain rfl := g157
                    go_simp
                    exact hK _ _ (hSS.stay (by decide) (by decide) (Below.refl _ _)) rfl
                  refine List.forall_mem_cons.2 ⟨?_, ?_⟩
                  · refine SlotStepM.plain rfl rfl rfl ?_
                    intro listed tm ws hsz hcl hsame hSS hun hg K hK
                    obtain ⟨v158, e158, g158⟩ := (hg 32 (by kernel_rfl)).2 _ 158 rfl rfl
                    obtain rfl := g158
                    go_simp
                    exact hK _ _ (hSS.stay (by decide) (by decide) (Below.refl _ _)) rfl
                  refine List.forall_mem_cons.2 ⟨?_, ?_⟩
                  · refine SlotStepM.guarded rfl rfl 33 true rfl rfl (by kernel_rfl) (fun _ h => h) ?_
                    intro listed tm ws hsz hcl hsame hSS hun hg K hK
                    have e7 : tm[7]? = some (.pointer (some ⟨dq, 0, none⟩)) := hsame.2 7 rfl
                    go_simp
                    exact hK _ _ (hSS.stay (by decide) (by decide) (Below.refl _ _)) rfl
                  refine List.forall_mem_cons.2 ⟨?_, ?_⟩
                  · refine SlotStepM.guarded rfl rfl 33 true rfl rfl (by kernel_rfl) (fun _ h => h) ?_
                    intro listed tm ws hsz hcl hsame hSS hun hg K hK
                    obtain ⟨v160, e160, g160⟩ := (hg 34 (by kernel_rfl)).2 _ 160 rfl rfl
                    obtain rfl := g160
                    obtain ⟨hsp, hbw⟩ := hSS.at3 (hcl.up 6 33 29 (by kernel_rfl) (hg 33 (by kernel_rfl)).1) hun
                    go_simp
                    refine hsp.all.mono ?_
                    rintro e wA ⟨ea, ec, rfl, hre, hA, hbA⟩
                    rw [hp5]
                    exact hK _ _ (hSS.to4 hsz (hcl.up 6 33 29 (by kernel_rfl) (hg 33 (by kernel_rfl)).1) hun (show 161 < tm.size from hsame.1.symm ▸ (of_decide_eq_true (by kernel_rfl))) hA (hbw.trans (hbA.mono hbw.size)) hre) ⟨ea, ec, rfl⟩
                  refine List.forall_mem_cons.2 ⟨?_, ?_⟩
                  · refine SlotStepM.guarded rfl rfl 33 true rfl rfl (by kernel_rfl) (fun _ h => h) ?_
                    intro listed tm ws hsz hcl hsame hSS hun hg K hK
                    have e8 : tm[8]? = some (.pointer (some ⟨g, 0, none⟩)) := hsame.2 8 rfl
                    go_simp
                    exact hK _ _ (hSS.stay (by decide) (by decide) (Below.refl _ _)) rfl
                  refine List.forall_mem_cons.2 ⟨?_, ?_⟩
                  · refine SlotStepM.guarded rfl rfl 33 true rfl rfl (by kernel_rfl) (fun _ h => h) ?_
                    intro listed tm ws hsz hcl hsame hSS hun hg K hK
                    obtain ⟨v162, e162, g162⟩ := (hg 36 (by kernel_rfl)).2 _ 162 rfl rfl
                    obtain rfl := g162
                    go_simp
                    exact hK _ _ (hSS.stay (by decide) (by decide) (Below.refl _ _)) rfl
                  refine List.forall_mem_cons.2 ⟨?_, ?_⟩
                  · refine SlotStepM.guarded rfl rfl 33 true rfl rfl (by kernel_rfl) (fun _ h => h) ?_
                    intro listed tm ws hsz hcl hsame hSS hun hg K hK
                    obtain ⟨v163, e163, g163⟩ := (hg 37 (by kernel_rfl)).2 _ 163 rfl rfl
                    obtain rfl := g163
                    go_simp
                    exact hK _ _ (hSS.stay (by decide) (by decide) (Below.refl _ _)) rfl
                  refine List.forall_mem_cons.2 ⟨?_, ?_⟩
                  · refine SlotStepM.guarded rfl rfl 33 true rfl rfl (by kernel_rfl) (fun _ h => h) ?_
                    intro listed tm ws hsz hcl hsame hSS hun hg K hK
                    obtain ⟨v164, e164, g164⟩ := (hg 38 (by kernel_rfl)).2 _ 164 rfl rfl
                    obtain rfl := g164
                    obtain ⟨q0, -⟩ := hSS.row
                    go_simp
                    exact hK _ _ (hSS.stay (by decide) (by decide) (Below.refl _ _)) rfl
                  refine List.forall_mem_cons.2 ⟨?_, ?_⟩
                  · refine SlotStepM.guarded rfl rfl 33 true rfl rfl (by kernel_rfl) (fun _ h => h) ?_
                    intro listed tm ws hsz hcl hsame hSS hun hg K hK
                    obtain ⟨v161, e161, g161⟩ := (hg 35 (by kernel_rfl)).2 _ 161 rfl rfl
                    obtain ⟨ea, ec, rfl⟩ := g161
                    obtain ⟨v165, e165, g165⟩ := (hg 39 (by kernel_rfl)).2 _ 165 rfl rfl
                    obtain rfl := g165
                    obtain ⟨-, q1⟩ := hSS.row
                    obtain ⟨ea2, ec2, h161, hre⟩ := hSS.at4 (hg 35 (by kernel_rfl)).1
                    rw [e161] at h161
                    obtain ⟨rfl, rfl⟩ : ea = ea2 ∧ ec = ec2 := by simpa using h161
                    go_simp
                    refine (samen_yes hp5.symm hp5.symm hre q1 hq5).mono ?_
                    rintro e wF ⟨rfl, hbF⟩
                    exact hK _ _ (hSS.stay (by decide) (by decide) hbF) rfl
                  refine List.forall_mem_cons.2 ⟨?_, ?_⟩
                  · refine SlotStepM.plain rfl rfl rfl ?_
                    intro listed tm ws hsz hcl hsame hSS hun hg K hK
                    obtain ⟨v159, e159, g159⟩ := (hg 33 (by kernel_rfl)).2 _ 159 rfl rfl
                    obtain rfl := g159
                    obtain ⟨v166, e166, g166⟩ := (hg 40 (by kernel_rfl)).2 _ 166 rfl rfl
                    obtain rfl := g166
                    go_simp
                    exact hK _ _ (hSS.stay (by decide) (by decide) (Below.refl _ _)) rfl
                  refine List.forall_mem_cons.2 ⟨?_, ?_⟩
                  · refine SlotStepM.plain rfl rfl rfl ?_
                    intro listed tm ws hsz hcl hsame hSS hun hg K hK
                    obtain ⟨v167, e167, g167⟩ := (hg 41 (by kernel_rfl)).2 _ 167 rfl rfl
                    obtain rfl := g167
                    go_simp
                    exact hK _ _ (hSS.stay (by decide) (by decide) (Below.refl _ _)) rfl
                  exact fun _ h => nomatch h
                case finM1 =>
                  intro listed tm w9 hall hsame hSS hgot
                  obtain ⟨v6, e6, g6⟩ := hgot 42 _ 6 rfl rfl
                  obtain rfl := g6
                  obtain ⟨u6, hu, htm⟩ := hsame.form (by kernel_rfl)
                  have h6 := hu _ _ e6
                  have hbw := hSS.1.1
                  clear hgot hu hsame e6 hSS hall hS0
                  rw [htm]
                  clear htm tm
                  simp only [List.foldl_cons, List.foldl_nil, List.setIfInBounds_toArray, List.set_cons_zero, List.set_cons_succ, h6]
                  clear h6
                  go_wp2_with fail
                  go_ret
                  exact ⟨rfl, hbw⟩
end Go.Proofs.Ytkkjkohmekbdbaa
