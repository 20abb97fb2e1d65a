/-
  Contract of nat.multiplyRows, and the law of clear on words.
-/
import Derived.Test.YtfhknnmffppfgaaDoorAddProd
import Derived.Lib.SliceRun
namespace Go.Proofs.YtfhknnmffppfgaaDoor
open Go.RowKit

theorem Arr.append {w : World} {b off : Nat} {l m : List Int} (h : Arr w b off l) (k : Arr w b (off + l.length) m) : Arr w b off (l ++ m) := by
  obtain ⟨cur, e, hh, hl⟩ := h
  obtain ⟨cur2, e2, hh2, hm⟩ := k
  rw [hh] at hh2
  simp only [Option.some.injEq, Obj.cells.injEq, and_true] at hh2
  obtain ⟨rfl, rfl⟩ := hh2
  refine ⟨cur, e, hh, fun j hj => ?_⟩
  rw [List.length_append] at hj
  by_cases hjl : j < l.length
  · rw [hl j hjl, List.getD_eq_getElem?_getD, List.getD_eq_getElem?_getD, List.getElem?_append_left hjl]
  · have h2 := hm (j - l.length) (by omega)
    rw [show off + l.length + (j - l.length) = off + j by omega] at h2
    rw [h2, List.getD_eq_getElem?_getD, List.getD_eq_getElem?_getD, List.getElem?_append_right (by omega)]

theorem clear_cells : ∀ (n off : Nat) (w : World) (g : Nat) (lo : List Int), lo.length = n → Arr w g off lo →
    Arr (w.setCells g off (List.replicate n (.int .u64 0))) g off (List.replicate n 0) ∧ Only g off (off + n) w (w.setCells g off (List.replicate n (.int .u64 0)))
  | 0, off, w, g, lo, hl, ha => by
    obtain rfl : lo = [] := List.eq_nil_of_length_eq_zero hl
    exact ⟨ha, Only.refl _ _ _ _⟩
  | n + 1, off, w, g, lo, hl, ha => by
    have h1 := ha.store 0 0
    have h2 : Arr (w.setCell ⟨g, off, none⟩ (.int .u64 0)) g (off + 1) ((lo.set 0 0).drop 1) := h1.drop 1
    have h3 := h1.take 1
    rw [Nat.add_zero] at h3
    have ho : Only g off (off + 1) w (w.setCell ⟨g, off, none⟩ (.int .u64 0)) := Only.store off _ (Nat.le_refl _) (by omega)
    obtain ⟨h4, h5⟩ := clear_cells n (off + 1) (w.setCell ⟨g, off, none⟩ (.int .u64 0)) g ((lo.set 0 0).drop 1) (by rw [List.length_drop, List.length_set]; omega) h2
    have e0 : (lo.set 0 0).take 1 = [0] := by
      cases lo with
      | nil => simp at hl
      | cons x l => rfl
    rw [e0] at h3
    have h6 := h5.arr h3 (Or.inl (by simp))
    have h7 := h6.append (by simpa using h4)
    refine ⟨?_, ?_⟩
    · exact h7
    · have h8 := (ho.mono (lo' := off) (hi' := off + (n + 1)) (Nat.le_refl _) (by omega)).trans (h5.mono (lo' := off) (hi' := off + (n + 1)) (by omega) (by omega))
      exact h8

/-- clear(s), s a row of words. -/
theorem run_clear_words (w : World) (t ty : TypeId) (hu : Tryd.prog.underlying t = some (.slice 37)) (g off n c : Nat) (lo : List Int) (hlo : lo.length = n) (ha : Arr w g off lo) :
    ∃ w', (Builtin.clear_ #[t] ty #[.slice (some ⟨g, off, none⟩) n c]).run Tryd.prog w = .ok (.tuple #[]) w' ∧ Arr w' g off (List.replicate n 0) ∧ Only g off (off + n) w w' := by
  obtain ⟨h1, h2⟩ := clear_cells n off w g lo hlo ha
  have hz : ∀ w, (zeroValue 37).run Tryd.prog w = .ok (.int .u64 0) w := fun w => Tryd.zeroValue37 w
  refine ⟨_, ?_, h1, h2⟩
  by_cases hn : 0 < n
  · exact Lib.run_clear_slice w t 37 ty (.int .u64 0) hu hz rfl rfl g off n c hn (fun j hj => by rw [ha.at' j (by omega)]; rfl) (fun j _ => ha.frozen _)
  · obtain rfl : n = 0 := by omega
    simp [Builtin.clear_, run_underlying hu, World.setCells]

theorem rows_drop {l l' : List Int} {i na : Nat} (hi : i ≤ l.length) (hd : l'.drop na = (l.drop i).drop na) : (l.take i ++ l').drop (i + na) = l.drop (i + na) := by
  have hlt : (l.take i).length = i := by rw [List.length_take]; omega
  rw [← List.drop_drop, List.drop_append_of_le_length (by omega), List.drop_of_length_le (l := l.take i) (by omega), List.nil_append, hd, List.drop_drop]
theorem rows_get {l l' : List Int} {i na j : Nat} (hi : i ≤ l.length) (hd : l'.drop na = (l.drop i).drop na) (hj : i + na ≤ j) : (l.take i ++ l').getD j 0 = l.getD j 0 := by
  have h := rows_drop hi hd
  have e1 := getD_drop (l.take i ++ l') (i + na) (j - (i + na))
  have e2 := getD_drop l (i + na) (j - (i + na))
  rw [show i + na + (j - (i + na)) = j by omega] at e1 e2
  rw [← e1, ← e2, h]
theorem rows_step {l l' : List Int} {i na : Nat} {c V : Int} (hp : i + na < l.length) (hl' : l'.length = l.length - i) (hd : l'.drop na = (l.drop i).drop na)
    (hv : vb B64 (l'.take na) + B64 ^ na * c = vb B64 ((l.drop i).take na) + V) (h0 : l.getD (i + na) 0 = 0) :
    vb B64 ((l.take i ++ l').set (i + na) c) = vb B64 l + B64 ^ i * V := by
  have hlt : (l.take i).length = i := by rw [List.length_take]; omega
  rw [vb_set _ _ _ _ (by rw [List.length_append, hlt]; omega), rows_get (by omega) hd (Nat.le_refl _), h0, Int.sub_zero, vb_append, hlt]
  have e1 := vb_split B64 l' na (by omega)
  have e2 := vb_split B64 l i (by omega)
  have e3 := vb_split B64 (l.drop i) na (by rw [List.length_drop]; omega)
  rw [hd] at e1
  rw [e3] at e2
  rw [e2, e1, Int.pow_add]
  have e4 : B64 ^ i * (vb B64 (l'.take na) + B64 ^ na * c) = B64 ^ i * (vb B64 ((l.drop i).take na) + V) := by rw [hv]
  rw [Int.mul_add, Int.mul_add] at e4
  rw [Int.mul_add, Int.mul_add, Int.mul_assoc]
  omega

set_option maxRecDepth 100000 in
set_option maxHeartbeats 4000000 in
theorem multiplyRows_any (g off no co : Nat) (lo : List Int) (aa : Option Addr) (na ca : Nat) (la : List Int) (ab : Option Addr) (nb' cb : Nat) (lb : List Int) (w : World) (hno : no = lo.length) (hna : na = la.length) (hnb : nb' = lb.length)
    (ho1 : no ≤ co) (ho2 : co ≤ 9223372036854775807) (hc1 : na ≤ ca) (hc2 : ca ≤ 9223372036854775807) (hd1 : nb' ≤ cb) (hd2 : cb ≤ 9223372036854775807)
    (ho : Arr w g off lo) (ha : Rd w aa la) (hb : Rd w ab lb) (hna' : la ≠ [] → ∀ b' off', aa = some ⟨b', off', none⟩ → b' ≠ g) (hnb'' : lb ≠ [] → ∀ b' off', ab = some ⟨b', off', none⟩ → b' ≠ g)
    (hla : Lim B64 la) (hlb : Lim B64 lb) (hsum : no = na + nb') :
    Calls Tryd.prog 100 #[.slice (some ⟨g, off, none⟩) no co, .slice aa na ca, .slice ab nb' cb] w fun e w' => e = .returned (.tuple #[]) ∧ InPl g off no (vb B64 la * vb B64 lb) w w' := by
  have HNO := Lib.hid hno
  have HNA := Lib.hid hna
  have HNB := Lib.hid hnb
  have HSUM := Lib.hid hsum
  have hnn : nb' ≤ no := by omega
  clear hno hna hnb hsum
  obtain ⟨w1, hclear, ho1', hon1⟩ := run_clear_words w 25 0 Tryd.underlying25 g off no co lo HNO.out.symm ho
  go_enter Tryd.func100, Tryd.ntmps100
  go_wp2
  go_loopw [11] (fun ii wr => ∃ (i : Nat) (l : List Int), i ≤ nb' ∧ ii = .int .i64 i ∧ Hid (l.length = no) ∧ Lim B64 l ∧ Arr wr g off l ∧ Only g off (off + no) w wr ∧ Hid (∀ j, i + na ≤ j → l.getD j 0 = 0) ∧ Hid (vb B64 l = vb B64 la * vb B64 (lb.take i)))
    (fun ii _ => nb' - (intOf ii).toNat)
  case atStart => exact ⟨0, List.replicate no 0, Nat.zero_le _, rfl, by show _ = _; simp, Lim.replicate B64_pos no, ho1', hon1, fun j _ => by rw [List.getD_eq_getElem?_getD, List.getElem?_replicate]; split <;> rfl, by show _ = _; rw [vb_replicate]; simp⟩
  case round =>
    obtain ⟨i, l, hi, rfl, HL, hlim, harr, honly, HZ, HV⟩ := hrel
    by_cases hlt : i < nb'
    · obtain ⟨b2, o2, rfl, hat2⟩ := hb.cases (by intro e; have := HNB.out; rw [e] at this; simp at this; omega)
      have hne2 := hnb'' (by intro e; have := HNB.out; rw [e] at this; simp at this; omega) b2 o2 rfl
      obtain ⟨x, hxe⟩ : ∃ x, x = lb.getD i 0 := ⟨_, rfl⟩
      have hil : i < lb.length := by rw [← HNB.out]; exact hlt
      have bx : 0 ≤ x ∧ x < B64 := by rw [hxe]; exact hlb.getD B64_pos i
      have bx0 : 0 ≤ x := bx.1
      have bx1 : x ≤ 18446744073709551615 := by have := bx.2; unfold B64 at this; omega
      have hcx : wr.cell? ⟨b2, o2 + i, none⟩ = some (.int .u64 x) := by rw [hxe]; exact honly.at' hat2 hne2 i hil
      have hsm := HSUM.out
      obtain ⟨p, hp⟩ : ∃ p, i + na = p := ⟨_, rfl⟩
      have hpI : (i : Int) + (na : Int) = (p : Int) := by omega
      have hpn : p < no := by omega
      have hra : Rd wr aa la := by
        rcases ha with rfl | ⟨b1, o1, rfl, hat1⟩
        · exact Rd.nil _ _
        · by_cases hl0 : la = []
          · subst hl0; exact Rd.nil _ _
          · exact Or.inr ⟨b1, o1, rfl, honly.at' hat1 (hna' hl0 b1 o1 rfl)⟩
      have hdl : no - i = (l.drop i).length := by rw [List.length_drop, HL.out]
      have hio : i ≤ no := by omega
      have HAP := Lib.hid (addProduct_any g (off + i) (no - i) (co - i) (l.drop i) aa na ca la x wr hdl HNA.out (by omega) (by omega) hc1 hc2 (harr.drop i) hra hna' (hlim.drop i) hla (by omega) bx0 bx1)
      have HSP := Lib.hid hp
      have hv2 : vb B64 la * vb B64 (lb.take (i + 1)) = vb B64 la * vb B64 (lb.take i) + B64 ^ i * (vb B64 la * x) := by
        rw [vb_take_succ B64 hil, ← hxe, Int.mul_add, Int.mul_left_comm]
      have HV2 := Lib.hid hv2
      clear hv2 hxe bx hat2 hdl hra hp hsm hil
      go_wp2_with (go_at_call 114; refine HAP.out.mono ?_; rintro e w2 ⟨c, l', rfl, hcc0, hcc1, hll', hlim', harr', hdr', hvv', hon'⟩; have htk := hon'.arr (harr.take i) (Or.inl (by rw [List.length_take]; omega)); have hapd := htk.append (show Arr w2 g (off + (l.take i).length) l' from by rw [List.length_take, HL.out, Nat.min_eq_left hio]; exact harr'); have hpc := hapd.at' p (by rw [List.length_append, List.length_take, HL.out, hll']; omega); have hpf := hapd.frozen (off + p); have HDR := Lib.hid hdr'; have HVV := Lib.hid hvv'; have HLL := Lib.hid hll'; clear hdr' hvv' hll')
      go_roundw
      case rel =>
        have hp := HSP.out
        have hsm := HSUM.out
        have hlen : (l.take i ++ l').length = no := by rw [List.length_append, List.length_take, HL.out, HLL.out]; omega
        have hlim2 : Lim B64 ((l.take i ++ l').set p c) := ((hlim.take i).app hlim').set p hcc0 hcc1
        have hst := rows_step (l := l) (l' := l') (i := i) (na := na) (c := c) (V := vb B64 la * x) (by rw [HL.out]; omega) (by rw [HLL.out, HL.out]) HDR.out HVV.out (HZ.out _ (Nat.le_refl _))
        rw [hp] at hst
        refine ⟨i + 1, (l.take i ++ l').set p c, by omega, by go_num, ?_, hlim2, hapd.store p c, (honly.trans (hon'.mono (by omega) (by omega))).trans (Only.store _ _ (by omega) (by omega)), ?_, ?_⟩
        · show _ = _
          rw [List.length_set]; exact hlen
        · intro j hj
          rw [getD_set_other _ (by omega), rows_get (by rw [HL.out]; omega) HDR.out (by omega)]
          exact HZ.out j (by omega)
        · show _ = _
          rw [hst, HV.out, HV2.out]
      case measure => simp [intOf]; omega
    · have hin : i = nb' := by omega
      have hv : vb B64 l = vb B64 la * vb B64 lb := by
        have h8 := HV.out
        rwa [hin, List.take_of_length_le (l := lb) (by rw [← HNB.out]; exact Nat.le_refl _)] at h8
      have HVF := Lib.hid hv
      clear hv hin HV
      go_wp2
      go_end0
      exact ⟨rfl, l, HL.out, hlim, harr, HVF.out, honly⟩
end Go.Proofs.YtfhknnmffppfgaaDoor
