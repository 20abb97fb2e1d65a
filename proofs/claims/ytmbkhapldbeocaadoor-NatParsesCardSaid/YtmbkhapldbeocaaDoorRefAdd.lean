/-
  Contract of the reference's Add.
-/
import Derived.Test.YtmbkhapldbeocaaDoorRef1
namespace Go.Proofs.YtmbkhapldbeocaaDoor
open Go.RowKit

theorem radd_step {out a b : List Int} {i : Nat} {c x y s : Int} (hs : s = c + x + y) (hl : out.length = i) (h : vb B32 out + B32 ^ i * c = vb B32 (a.take i) + vb B32 (b.take i))
    (ha : vb B32 (a.take (i + 1)) = vb B32 (a.take i) + B32 ^ i * x) (hb : vb B32 (b.take (i + 1)) = vb B32 (b.take i) + B32 ^ i * y) :
    vb B32 (out ++ [s % 4294967296]) + B32 ^ (i + 1) * (s / 4294967296) = vb B32 (a.take (i + 1)) + vb B32 (b.take (i + 1)) := by
  subst hs
  rw [vb_snoc, hl, ha, hb, Int.pow_succ, Int.mul_assoc, Int.add_assoc, ← Int.mul_add]
  have e : (c + x + y) % 4294967296 + B32 * ((c + x + y) / 4294967296) = c + (x + y) := by unfold B32; omega
  rw [e, Int.mul_add, Int.mul_add]
  omega
theorem take_beyond {a : List Int} {i : Nat} (h : a.length ≤ i) : vb B32 (a.take (i + 1)) = vb B32 (a.take i) + B32 ^ i * 0 := by
  rw [List.take_of_length_le (by omega), List.take_of_length_le h]; simp

set_option maxRecDepth 100000 in
set_option maxHeartbeats 2000000 in
theorem radd_any (ax : Option Addr) (na ca : Nat) (a : List Int) (ay : Option Addr) (nb' cb : Nat) (b : List Int) (w : World) (hna : na = a.length) (hnb : nb' = b.length) (_h1 : na ≤ ca) (_h2 : ca ≤ 9223372036854775807) (_h3 : nb' ≤ cb) (_h4 : cb ≤ 9223372036854775807)
    (hx : Rd w ax a) (hy : Rd w ay b) (hla : Lim B32 a) (hlb : Lim B32 b) (hMa : na + 2 ≤ MaxW) (hMb : nb' + 2 ≤ MaxW) :
    Calls Tryd.prog 36 #[.slice ax na ca, .slice ay nb' cb] w fun e w' => RetRd B32 w (vb B32 a + vb B32 b) e w' := by
  have HA := Lib.hid hna
  have HB := Lib.hid hnb
  clear hna hnb
  go_enter Tryd.func36, Tryd.ntmps36
  go_wp2
  go_loopw [5, 6, 7] (fun v cc ii wr => ∃ (i : Nat) (c : Int) (out : List Int), ii = .int .i64 i ∧ cc = .int .u64 c ∧ 0 ≤ c ∧ c ≤ 1 ∧ (i ≤ na ∨ i ≤ nb' ∨ c = 0) ∧ i ≤ na + nb' + 1 ∧ (i = na + nb' + 1 → c = 0) ∧ Hid (out.length = i) ∧ Lim B32 out ∧ Ow w.heap.size wr v out ∧ Below w.heap.size w wr ∧ Hid (vb B32 out + B32 ^ i * c = vb B32 (a.take i) + vb B32 (b.take i)))
    (fun _ _ ii _ => (na + nb' + 2) - (intOf ii).toNat)
  case atStart => exact ⟨0, 0, [], rfl, rfl, Int.le_refl _, by decide, by omega, by omega, fun _ => rfl, rfl, Lim.nil _, Ow.nil _ _, Below.refl _ _, rfl⟩
  case round =>
    obtain ⟨i, c, out, rfl, rfl, hc0, hc1, hor, hib, hic, HL, hlim, hO, hb, HV⟩ := hrel
    by_cases ha : i < na
    · by_cases hb' : i < nb'
      · obtain ⟨b1, o1, rfl, hat⟩ := hx.cases (by intro e; subst e; have := HA.out; simp at this; omega)
        obtain ⟨x, hxe⟩ : ∃ x, x = a.getD i 0 := ⟨_, rfl⟩
        have hcx : wr.cell? ⟨b1, o1 + i, none⟩ = some (.int .u64 x) := by rw [hxe]; exact hat.below hb i (by rw [← HA.out]; exact ha)
        have bx : 0 ≤ x ∧ x < 4294967296 := by rw [hxe]; exact hla.getD B32_pos _
        obtain ⟨bx0, bx1⟩ := bx
        have hta : vb B32 (a.take (i + 1)) = vb B32 (a.take i) + B32 ^ i * x := by rw [hxe]; exact vb_take_succ _ (by rw [← HA.out]; exact ha)
        obtain ⟨b2, o2, rfl, hat2⟩ := hy.cases (by intro e; subst e; have := HB.out; simp at this; omega)
        obtain ⟨y, hye⟩ : ∃ y, y = b.getD i 0 := ⟨_, rfl⟩
        have hcy : wr.cell? ⟨b2, o2 + i, none⟩ = some (.int .u64 y) := by rw [hye]; exact hat2.below hb i (by rw [← HB.out]; exact hb')
        have bY : 0 ≤ y ∧ y < 4294967296 := by rw [hye]; exact hlb.getD B32_pos _
        obtain ⟨by0, by1⟩ := bY
        have htb : vb B32 (b.take (i + 1)) = vb B32 (b.take i) + B32 ^ i * y := by rw [hye]; exact vb_take_succ _ (by rw [← HB.out]; exact hb')
        have hst := radd_step (s := c + x + y) (c := c) (x := x) (y := y) (by omega) HL.out HV.out hta htb
        have HST := Lib.hid hst
        have hM : out.length + 1 ≤ MaxW := by rw [HL.out]; omega
        have hi63 : i + 1 ≤ 9223372036854775807 := by have h1 := hMa; have h2 := hMb; unfold MaxW at h1 h2; omega
        clear hst hta htb hxe hat hye hat2
        go_wp2_with (at_builtin; refine wpList_append_words _ rfl _ _ 25 rfl Tryd.underlying25 info_u64 w.heap.size u5 out rfl (hO.alloc _) ⟨wr.heap.size, 0, none⟩ 1 1 [(c + x + y) % 4294967296] rfl rfl (news1 _ _ _) hM (by have := hb.size; simp; omega) ?_; intro v' w1 hO1 hb1)
        go_roundw
        case rel => exact ⟨i + 1, (c + x + y) / 4294967296, out ++ [(c + x + y) % 4294967296], by go_num, rfl, by omega, by omega, by omega, by omega, fun h => by omega, by show _ = _; rw [List.length_append, HL.out]; rfl, hlim.app (Lim.cons (by omega) (by unfold B32; omega) (Lim.nil _)), by assumption, (hb.alloc hb.size _).trans (by assumption), HST.out⟩
        case measure => simp [intOf]; omega
      · obtain ⟨b1, o1, rfl, hat⟩ := hx.cases (by intro e; subst e; have := HA.out; simp at this; omega)
        obtain ⟨x, hxe⟩ : ∃ x, x = a.getD i 0 := ⟨_, rfl⟩
        have hcx : wr.cell? ⟨b1, o1 + i, none⟩ = some (.int .u64 x) := by rw [hxe]; exact hat.below hb i (by rw [← HA.out]; exact ha)
        have bx : 0 ≤ x ∧ x < 4294967296 := by rw [hxe]; exact hla.getD B32_pos _
        obtain ⟨bx0, bx1⟩ := bx
        have hta : vb B32 (a.take (i + 1)) = vb B32 (a.take i) + B32 ^ i * x := by rw [hxe]; exact vb_take_succ _ (by rw [← HA.out]; exact ha)
        have htb : vb B32 (b.take (i + 1)) = vb B32 (b.take i) + B32 ^ i * 0 := take_beyond (by rw [← HB.out]; omega)
        have hst := radd_step (s := c + x) (c := c) (x := x) (y := 0) (by omega) HL.out HV.out hta htb
        have HST := Lib.hid hst
        have hM : out.length + 1 ≤ MaxW := by rw [HL.out]; omega
        have hi63 : i + 1 ≤ 9223372036854775807 := by have h1 := hMa; have h2 := hMb; unfold MaxW at h1 h2; omega
        clear hst hta htb hxe hat
        go_wp2_with (at_builtin; refine wpList_append_words _ rfl _ _ 25 rfl Tryd.underlying25 info_u64 w.heap.size u5 out rfl (hO.alloc _) ⟨wr.heap.size, 0, none⟩ 1 1 [(c + x) % 4294967296] rfl rfl (news1 _ _ _) hM (by have := hb.size; simp; omega) ?_; intro v' w1 hO1 hb1)
        go_roundw
        case rel => exact ⟨i + 1, (c + x) / 4294967296, out ++ [(c + x) % 4294967296], by go_num, rfl, by omega, by omega, by omega, by omega, fun h => by omega, by show _ = _; rw [List.length_append, HL.out]; rfl, hlim.app (Lim.cons (by omega) (by unfold B32; omega) (Lim.nil _)), by assumption, (hb.alloc hb.size _).trans (by assumption), HST.out⟩
        case measure => simp [intOf]; omega
    · by_cases hb' : i < nb'
      · have hta : vb B32 (a.take (i + 1)) = vb B32 (a.take i) + B32 ^ i * 0 := take_beyond (by rw [← HA.out]; omega)
        obtain ⟨b2, o2, rfl, hat2⟩ := hy.cases (by intro e; subst e; have := HB.out; simp at this; omega)
        obtain ⟨y, hye⟩ : ∃ y, y = b.getD i 0 := ⟨_, rfl⟩
        have hcy : wr.cell? ⟨b2, o2 + i, none⟩ = some (.int .u64 y) := by rw [hye]; exact hat2.below hb i (by rw [← HB.out]; exact hb')
        have bY : 0 ≤ y ∧ y < 4294967296 := by rw [hye]; exact hlb.getD B32_pos _
        obtain ⟨by0, by1⟩ := bY
        have htb : vb B32 (b.take (i + 1)) = vb B32 (b.take i) + B32 ^ i * y := by rw [hye]; exact vb_take_succ _ (by rw [← HB.out]; exact hb')
        have hst := radd_step (s := c + y) (c := c) (x := 0) (y := y) (by omega) HL.out HV.out hta htb
        have HST := Lib.hid hst
        have hM : out.length + 1 ≤ MaxW := by rw [HL.out]; omega
        have hi63 : i + 1 ≤ 9223372036854775807 := by have h1 := hMa; have h2 := hMb; unfold MaxW at h1 h2; omega
        clear hst hta htb hye hat2
        go_wp2_with (at_builtin; refine wpList_append_words _ rfl _ _ 25 rfl Tryd.underlying25 info_u64 w.heap.size u5 out rfl (hO.alloc _) ⟨wr.heap.size, 0, none⟩ 1 1 [(c + y) % 4294967296] rfl rfl (news1 _ _ _) hM (by have := hb.size; simp; omega) ?_; intro v' w1 hO1 hb1)
        go_roundw
        case rel => exact ⟨i + 1, (c + y) / 4294967296, out ++ [(c + y) % 4294967296], by go_num, rfl, by omega, by omega, by omega, by omega, fun h => by omega, by show _ = _; rw [List.length_append, HL.out]; rfl, hlim.app (Lim.cons (by omega) (by unfold B32; omega) (Lim.nil _)), by assumption, (hb.alloc hb.size _).trans (by assumption), HST.out⟩
        case measure => simp [intOf]; omega
      · by_cases hc : 0 < c
        · have hta : vb B32 (a.take (i + 1)) = vb B32 (a.take i) + B32 ^ i * 0 := take_beyond (by rw [← HA.out]; omega)
          have htb : vb B32 (b.take (i + 1)) = vb B32 (b.take i) + B32 ^ i * 0 := take_beyond (by rw [← HB.out]; omega)
          have hst := radd_step (s := c) (c := c) (x := 0) (y := 0) (by omega) HL.out HV.out hta htb
          have HST := Lib.hid hst
          have hM : out.length + 1 ≤ MaxW := by rw [HL.out]; omega
          have hi63 : i + 1 ≤ 9223372036854775807 := by have h1 := hMa; have h2 := hMb; unfold MaxW at h1 h2; omega
          clear hst hta htb
          go_wp2_with (at_builtin; refine wpList_append_words _ rfl _ _ 25 rfl Tryd.underlying25 info_u64 w.heap.size u5 out rfl (hO.alloc _) ⟨wr.heap.size, 0, none⟩ 1 1 [(c) % 4294967296] rfl rfl (news1 _ _ _) hM (by have := hb.size; simp; omega) ?_; intro v' w1 hO1 hb1)
          go_roundw
          case rel => exact ⟨i + 1, (c) / 4294967296, out ++ [(c) % 4294967296], by go_num, rfl, by omega, by omega, by omega, by omega, fun h => by omega, by show _ = _; rw [List.length_append, HL.out]; rfl, hlim.app (Lim.cons (by omega) (by unfold B32; omega) (Lim.nil _)), by assumption, (hb.alloc hb.size _).trans (by assumption), HST.out⟩
          case measure => simp [intOf]; omega
        · have hcz : c = 0 := by omega
          have hval : vb B32 out = vb B32 a + vb B32 b := by
            have := HV.out
            rw [hcz, Int.mul_zero, Int.add_zero, List.take_of_length_le (by rw [← HA.out]; omega), List.take_of_length_le (by rw [← HB.out]; omega)] at this
            exact this
          have HVAL := Lib.hid hval
          subst hcz
          obtain ⟨ao', cap', rfl, hq1, hq2, hr, hfr⟩ := hO.form'
          rw [HL.out] at hq1 ⊢
          clear hval
          go_wp2_with (go_at_call 39; refine (rtrim_any ao' i cap' out _ HL.out.symm hq1 hq2 hr).mono ?_; rintro e w' ⟨rfl, rfl⟩)
          go_ret
          have htl := tlen_le out
          exact ⟨ao', tlen out, tlen out, tr out, rfl, (tr_length _).symm, Nat.le_refl _, by have := HL.out; omega, hr.take _, can_tr hlim, by rw [vb_tr]; exact HVAL.out, hb, hfr⟩
end Go.Proofs.YtmbkhapldbeocaaDoor
