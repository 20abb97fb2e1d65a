/-
  DivMod: Contract of nat.divide where the quotient is short. Contract of nat.DivMod where the dividend has at most 150 words: the quotient and the rest.
-/
import Derived.Test.YthfcncapgfkkjaaGreatDoorPk16
import Derived.Test.YthfcncapgfkkjaaGreatDoorPk9
import Derived.OwnWalk

namespace Go.Proofs.YthfcncapgfkkjaaGreatDoor
open Go.RowKit


theorem top_big {lb : List Int} {n : Nat} (hnb : n = lb.length) (hlb : Lim B64 lb) (hn2 : 2 ≤ n) (htop : 9223372036854775808 ≤ lb.getD (n - 1) 0) : B64 ^ (n - 1) ≤ vb B64 lb := by
  have h1 := vb_take_succ B64 (l := lb) (k := n - 1) (by omega)
  rw [List.take_of_length_le (by omega)] at h1
  have h2 := vb_nonneg B64_pos (hlb.take (n - 1))
  have h3 := Int.mul_le_mul_of_nonneg_left (show 1 ≤ lb.getD (n - 1) 0 by omega) (Int.le_of_lt (pow_pos' B64_pos (n - 1)))
  omega

set_option maxRecDepth 100000 in
theorem divideLong_lt (aa : Option Addr) (na ca : Nat) (la : List Int) (b2 o2 n cb : Nat) (lb : List Int) (w : World) (hna : na = la.length) (hnb : n = lb.length) (hc1 : na ≤ ca) (hc2 : ca ≤ 9223372036854775807)
    (ha : Rd w aa la) (hla : Lim B64 la) (hlb : Lim B64 lb) (hn2 : 2 ≤ n) (htop : 9223372036854775808 ≤ lb.getD (n - 1) 0) (hlt : na < n) (hM : na ≤ MaxW) :
    Calls Tryz.prog 74 #[.slice aa na ca, .slice (some ⟨b2, o2, none⟩) n cb] w fun e w' => RetDivL (vb B64 la) (vb B64 lb) w e w' := by
  have hI : (na : Int) < (n : Int) := by omega
  have hbig := top_big hnb hlb hn2 htop
  have h1 := vb_lt B64_pos hla
  rw [← hna] at h1
  have h2 := pow_le_pow B64_pos (show na ≤ n - 1 by omega)
  have h0 := vb_nonneg B64_pos hla
  have hq : vb B64 la / vb B64 lb = 0 := Int.ediv_eq_zero_of_lt h0 (by omega)
  have hr : vb B64 la % vb B64 lb = vb B64 la := Int.emod_eq_of_lt h0 (by omega)
  have HQ := Lib.hid hq
  have HR := Lib.hid hr
  have HOF := Lib.hid (of_any aa na ca la w hna hc1 hc2 ha hM)
  clear hq hr h0 h1 h2 hbig hna hnb htop ha hM hlt
  go_enter Tryz.func74, Tryz.ntmps74
  go_wp2_with fail
  refine HOF.out.mono ?_
  rintro e w1 ⟨v, rfl, hO, hb⟩
  go_wp2_with fail
  go_ret2
  exact ⟨_, [], _, _, rfl, Ow.nil _ _, Can.nil _, by rw [HQ.out]; rfl, hO, can_tr hla, by rw [vb_tr, HR.out], by intro g h1; simp [Value.ownBlock] at h1, hb⟩

set_option maxRecDepth 100000 in
theorem divide_short (aa : Option Addr) (na ca : Nat) (la : List Int) (b2 o2 n cb : Nat) (lb : List Int) (w : World) (hna : na = la.length) (hnb : n = lb.length) (hc1 : na ≤ ca) (hc2 : ca ≤ 9223372036854775807) (hd1 : n ≤ cb) (hd2 : cb ≤ 9223372036854775807)
    (ha : Rd w aa la) (hb : At w b2 o2 lb) (hla : Lim B64 la) (hlb : Lim B64 lb) (hn2 : 2 ≤ n) (htop : 9223372036854775808 ≤ lb.getD (n - 1) 0) (hM : na + 1 ≤ MaxW) (hshort : na < n + 160) :
    Calls Tryz.prog 33 #[.slice aa na ca, .slice (some ⟨b2, o2, none⟩) n cb] w fun e w' => RetDivL (vb B64 la) (vb B64 lb) w e w' := by
  have ht := tlen_le la
  have HT := Lib.hid (trim_any aa na ca la w hna hc1 hc2 ha)
  obtain ⟨t, hte⟩ : ∃ t, t = tlen la := ⟨_, rfl⟩
  rw [← hte] at HT
  have hmore : (t : Int) - (n : Int) < 160 := by omega
  have htl : t = (tr la).length := by rw [tr_length]; exact hte
  have htc : t ≤ ca := by omega
  have hn63 : n ≤ 9223372036854775807 := by omega
  have HC : Hid (Calls Tryz.prog 74 #[.slice aa t ca, .slice (some ⟨b2, o2, none⟩) n cb] w fun e w' => RetDivL (vb B64 la) (vb B64 lb) w e w') := by
    have hv : vb B64 la = vb B64 (tr la) := (vb_tr B64 la).symm
    rw [hv]
    rcases Nat.lt_or_ge t n with h | h
    · exact divideLong_lt aa t ca (tr la) b2 o2 n cb lb w htl hnb htc hc2 (ha.take (tlen la)) (hla.take _) hlb hn2 htop h (by omega)
    · exact divideLong_ge aa t ca (tr la) b2 o2 n cb lb w htl hnb htc hc2 hd1 hd2 (ha.take (tlen la)) hb (hla.take _) hlb hn2 htop h (by omega)
  clear hna hnb ha hb hla hlb htop htl hte ht hshort hM
  go_enter Tryz.func33, Tryz.ntmps33
  go_wp2_with fail
  refine HT.out.mono ?_
  rintro e w' ⟨rfl, rfl⟩
  go_wp2_with fail
  refine HC.out.mono ?_
  rintro e w' ⟨vq, lq, vr, lr, rfl, h1, h2, h3, h4, h5, h6, h7, h8⟩
  go_wp2_with fail
  go_ret2
  exact ⟨vq, lq, vr, lr, rfl, h1, h2, h3, h4, h5, h6, h7, h8⟩


/-- What nat.DivMod leaves: two new rows that lie apart. -/
def RetDM (a b : Int) (w : World) (e : Ending) (w' : World) : Prop :=
  ∃ vq lq vr lr, e = .returned (.tuple #[vq, vr, .bool true]) ∧ Ow w.heap.size w' vq lq ∧ Can B64 lq ∧ vb B64 lq = a / b ∧ Ow w.heap.size w' vr lr ∧ Can B64 lr ∧ vb B64 lr = a % b ∧ Dis vq vr ∧ Below w.heap.size w w'

/-- A divisor shifted until its top bit is set. -/
theorem norm_top {l l2 : List Int} {t s : Nat} (hl : Can B64 l) (ht : t = l.length) (h0 : 0 < t) (hs : 64 - (Lib.bitLen (l.getD (t - 1) 0).toNat : Int) = (s : Int)) (hl2 : Can B64 l2) (hv : vb B64 l2 = vb B64 l * 2 ^ s) :
    l2.length = t ∧ 9223372036854775808 ≤ l2.getD (t - 1) 0 := by
  obtain ⟨x, hx⟩ : ∃ x, x = l.getD (t - 1) 0 := ⟨_, rfl⟩
  rw [← hx] at hs
  have hne : l ≠ [] := by intro e; subst e; simp at ht; omega
  have hx0 : x ≠ 0 := by rw [hx, ht]; exact hl.top hne
  have hxl := hl.lim.getD B64_pos (t - 1)
  rw [← hx] at hxl
  have hxn : x.toNat < 2 ^ 64 := by unfold B64 at hxl; omega
  obtain ⟨hb1, hb2⟩ := bitLen_spec 64 x.toNat hxn hxn
  obtain ⟨hb3, hb4⟩ := hb2 (by omega)
  have hb5 := bitLen_le64 x.toNat hxn
  obtain ⟨L, hL⟩ : ∃ L, L = Lib.bitLen x.toNat := ⟨_, rfl⟩
  rw [← hL] at hs hb1 hb3 hb4 hb5
  have e1 : (2:Int) ^ L * 2 ^ s = 18446744073709551616 := by rw [← Int.pow_add, show L + s = 64 by omega]; rfl
  have e2 : (2:Int) ^ (L - 1) * 2 ^ s = 9223372036854775808 := by rw [← Int.pow_add, show L - 1 + s = 63 by omega]; rfl
  have hp : 0 < (2:Int) ^ s := Int.pow_pos (by decide)
  have c1 : x + 1 ≤ (2:Int) ^ L := by
    have h1 : (x.toNat : Int) < ((2 ^ L : Nat) : Int) := by exact_mod_cast hb1
    rw [Int.natCast_pow] at h1
    have h2 : ((2 : Nat) : Int) ^ L = (2:Int) ^ L := rfl
    omega
  have c2 : (2:Int) ^ (L - 1) ≤ x := by
    have h1 : ((2 ^ (L - 1) : Nat) : Int) ≤ (x.toNat : Int) := by exact_mod_cast hb3
    rw [Int.natCast_pow] at h1
    have h2 : ((2 : Nat) : Int) ^ (L - 1) = (2:Int) ^ (L - 1) := rfl
    omega
  have d1 : (x + 1) * 2 ^ s ≤ 18446744073709551616 := by rw [← e1]; exact Int.mul_le_mul_of_nonneg_right c1 (Int.le_of_lt hp)
  have d2 : 9223372036854775808 ≤ x * 2 ^ s := by rw [← e2]; exact Int.mul_le_mul_of_nonneg_right c2 (Int.le_of_lt hp)
  have f1 := vb_take_succ B64 (l := l) (k := t - 1) (by omega)
  rw [List.take_of_length_le (by omega), ← hx] at f1
  have f2 := vb_nonneg B64_pos (hl.lim.take (t - 1))
  have f3 := vb_lt B64_pos (hl.lim.take (t - 1))
  rw [List.length_take, Nat.min_eq_left (by omega)] at f3
  obtain ⟨P, hP⟩ : ∃ P, P = B64 ^ (t - 1) := ⟨_, rfl⟩
  have hP0 : 0 < P := by rw [hP]; exact pow_pos' B64_pos _
  have hPt : B64 ^ t = P * 18446744073709551616 := by rw [show B64 ^ t = B64 ^ (t - 1 + 1) by rw [Nat.sub_add_cancel h0], Int.pow_succ, ← hP]; rfl
  rw [← hP] at f1 f3
  have g1 : P * (x * 2 ^ s) ≤ vb B64 l2 := by
    rw [hv, f1, Int.add_mul, Int.mul_assoc]
    have := Int.mul_nonneg f2 (Int.le_of_lt hp)
    omega
  have g2 : vb B64 l2 < P * ((x + 1) * 2 ^ s) := by
    have h : vb B64 l < P * (x + 1) := by rw [Int.mul_add, Int.mul_one]; omega
    have h2 := Int.mul_lt_mul_of_pos_right h hp
    rw [Int.mul_assoc, ← hv] at h2
    exact h2
  have g3 : P * 9223372036854775808 ≤ vb B64 l2 := Int.le_trans (Int.mul_le_mul_of_nonneg_left d2 (Int.le_of_lt hP0)) g1
  have g4 : vb B64 l2 < P * 18446744073709551616 := Int.lt_of_lt_of_le g2 (Int.mul_le_mul_of_nonneg_left d1 (Int.le_of_lt hP0))
  have hlen : l2.length = t := by
    rcases Nat.lt_trichotomy l2.length t with h | h | h
    · have h1 := vb_lt B64_pos hl2.lim
      have h2 := pow_le_pow B64_pos (show l2.length ≤ t - 1 by omega)
      rw [← hP] at h2
      omega
    · exact h
    · have h1 := hl2.ge B64_pos (by intro e; subst e; simp at h)
      have h2 := pow_le_pow B64_pos (show t ≤ l2.length - 1 by omega)
      rw [hPt] at h2
      omega
  refine ⟨hlen, ?_⟩
  have k1 := vb_take_succ B64 (l := l2) (k := t - 1) (by omega)
  rw [List.take_of_length_le (by omega), ← hP] at k1
  have k3 := vb_lt B64_pos (hl2.lim.take (t - 1))
  rw [List.length_take, Nat.min_eq_left (by omega), ← hP] at k3
  rcases Int.lt_or_le (l2.getD (t - 1) 0) 9223372036854775808 with h | h
  · have h1 := Int.mul_le_mul_of_nonneg_left (show l2.getD (t - 1) 0 + 1 ≤ 9223372036854775808 by omega) (Int.le_of_lt hP0)
    rw [Int.mul_add, Int.mul_one] at h1
    omega
  · exact h

theorem len_le_of_lt {l : List Int} {m : Nat} (hc : Can B64 l) (h : vb B64 l < B64 ^ m) : l.length ≤ m := by
  by_cases hl : l = []
  · subst hl; simp
  · have h1 := hc.ge B64_pos hl
    rcases Nat.lt_or_ge m l.length with h2 | h2
    · have := pow_le_pow B64_pos (show m ≤ l.length - 1 by omega)
      omega
    · exact h2

set_option maxRecDepth 100000 in
theorem dm_zero (aa : Option Addr) (na ca : Nat) (la : List Int) (ab : Option Addr) (n cb : Nat) (lb : List Int) (w : World) (hna : na = la.length) (hnb : n = lb.length) (hc1 : na ≤ ca) (hc2 : ca ≤ 9223372036854775807) (hd1 : n ≤ cb) (hd2 : cb ≤ 9223372036854775807)
    (ha : Rd w aa la) (hb : Rd w ab lb) (hlb : Lim B64 lb) (h0 : vb B64 lb = 0) :
    Calls Tryz.prog 11 #[.slice aa na ca, .slice ab n cb] w fun e w' => e = .returned (.tuple #[.slice none 0 0, .slice none 0 0, .bool false]) ∧ w = w' := by
  have HTA := Lib.hid (trim_any aa na ca la w hna hc1 hc2 ha)
  have hT := trim_any ab n cb lb w hnb hd1 hd2 hb
  have hz : tlen lb = 0 := by rw [← tr_length, (can_tr hlb).eq_nil B64_pos (by rw [vb_tr]; exact h0)]; rfl
  rw [hz] at hT
  have HTB := Lib.hid hT
  have hta : tlen la ≤ ca := by have := tlen_le la; omega
  obtain ⟨ta, hte⟩ : ∃ t, t = tlen la := ⟨_, rfl⟩
  rw [← hte] at HTA hta
  clear hna hnb ha hb hlb h0 hT hz hte
  go_enter Tryz.func11, Tryz.ntmps11
  go_wp2_with fail
  refine HTA.out.mono ?_
  rintro e w' ⟨rfl, rfl⟩
  go_wp2_with fail
  refine HTB.out.mono ?_
  rintro e w' ⟨rfl, rfl⟩
  go_wp2_with fail
  go_ret3
  exact ⟨rfl, rfl⟩

set_option maxRecDepth 100000 in
theorem dm_lt (aa : Option Addr) (na ca : Nat) (la : List Int) (ab : Option Addr) (n cb : Nat) (lb : List Int) (w : World) (hna : na = la.length) (hnb : n = lb.length) (hc1 : na ≤ ca) (hc2 : ca ≤ 9223372036854775807) (hd1 : n ≤ cb) (hd2 : cb ≤ 9223372036854775807)
    (ha : Rd w aa la) (hb : Rd w ab lb) (hla : Lim B64 la) (hlb : Lim B64 lb) (hM : na ≤ MaxW) (hlt : vb B64 la < vb B64 lb) :
    Calls Tryz.prog 11 #[.slice aa na ca, .slice ab n cb] w fun e w' => RetDM (vb B64 la) (vb B64 lb) w e w' := by
  have HTA := Lib.hid (trim_any aa na ca la w hna hc1 hc2 ha)
  have HTB := Lib.hid (trim_any ab n cb lb w hnb hd1 hd2 hb)
  have h0 := vb_nonneg B64_pos hla
  have hq : vb B64 la / vb B64 lb = 0 := Int.ediv_eq_zero_of_lt h0 hlt
  have hr : vb B64 la % vb B64 lb = vb B64 la := Int.emod_eq_of_lt h0 hlt
  have hzb : tlen lb ≠ 0 := by
    intro e
    have h1 : tr lb = [] := List.eq_nil_of_length_eq_zero (by rw [tr_length]; exact e)
    have h2 := vb_tr B64 lb
    rw [h1] at h2
    rw [← h2] at hlt
    simp at hlt
    omega
  have hC := cmp_any aa (tlen la) ca (tr la) ab (tlen lb) cb (tr lb) w (tr_length la).symm (tr_length lb).symm (by have := tlen_le la; omega) hc2 (by have := tlen_le lb; omega) hd2 (ha.take _) (hb.take _) (hla.take _) (hlb.take _)
  rw [vb_tr, vb_tr, cmpI_lt hlt] at hC
  have HCM := Lib.hid hC
  have hta : tlen la ≤ ca := by have := tlen_le la; omega
  have htM : tlen la ≤ MaxW := by have := tlen_le la; omega
  have htl : tlen la = (tr la).length := (tr_length la).symm
  have hrd : Rd w aa (tr la) := ha.take _
  have hcan : Can B64 (tr la) := can_tr hla
  have hvt : vb B64 (tr la) = vb B64 la := vb_tr B64 la
  obtain ⟨ta, hte⟩ : ∃ t, t = tlen la := ⟨_, rfl⟩
  obtain ⟨tb, hbe⟩ : ∃ t, t = tlen lb := ⟨_, rfl⟩
  rw [← hte] at HTA hta htM htl HCM
  rw [← hbe] at HTB hzb HCM
  have HOF := fun w1 (hx : Below w.heap.size w w1) => of_any aa ta ca (tr la) w1 htl hta hc2 (hrd.below hx) htM
  have hbz : ((tb : Int) == 0) = false := by simp; omega
  have HQ := Lib.hid hq
  have HR := Lib.hid hr
  have HVT := Lib.hid hvt
  clear hna hnb ha hb hla hlb hlt hq hr h0 hC htl hte hbe hvt hzb
  go_enter Tryz.func11, Tryz.ntmps11
  go_wp2_with fail
  refine HTA.out.mono ?_
  rintro e w' ⟨rfl, rfl⟩
  go_wp2_with fail
  refine HTB.out.mono ?_
  rintro e w' ⟨rfl, rfl⟩
  go_wp2_with fail
  refine HCM.out.mono ?_
  rintro e w1 ⟨rfl, hb1⟩
  go_wp2_with fail
  refine (HOF w1 hb1).mono ?_
  rintro e w2 ⟨v, rfl, hO, hb2⟩
  go_wp2_with fail
  go_ret3
  exact ⟨_, [], _, _, rfl, Ow.nil _ _, Can.nil _, by rw [HQ.out]; rfl, hO.mono hb1.size, by rw [hcan.tr]; exact hcan, by rw [hcan.tr, HVT.out, HR.out], by intro g h1; simp [Value.ownBlock] at h1, hb1.trans (hb2.mono hb1.size)⟩

set_option maxRecDepth 100000 in
set_option maxHeartbeats 1000000 in
theorem dm_one (aa : Option Addr) (na ca : Nat) (la : List Int) (ab : Option Addr) (n cb : Nat) (lb : List Int) (w : World) (hna : na = la.length) (hnb : n = lb.length) (hc1 : na ≤ ca) (hc2 : ca ≤ 9223372036854775807) (hd1 : n ≤ cb) (hd2 : cb ≤ 9223372036854775807)
    (ha : Rd w aa la) (hb : Rd w ab lb) (hla : Lim B64 la) (hlb : Lim B64 lb) (hM : na ≤ MaxW) (hge : vb B64 lb ≤ vb B64 la) (h1 : tlen lb = 1) :
    Calls Tryz.prog 11 #[.slice aa na ca, .slice ab n cb] w fun e w' => RetDM (vb B64 la) (vb B64 lb) w e w' := by
  have HTA := Lib.hid (trim_any aa na ca la w hna hc1 hc2 ha)
  have hTB := trim_any ab n cb lb w hnb hd1 hd2 hb
  have hC := cmp_any aa (tlen la) ca (tr la) ab (tlen lb) cb (tr lb) w (tr_length la).symm (tr_length lb).symm (by have := tlen_le la; omega) hc2 (by have := tlen_le lb; omega) hd2 (ha.take _) (hb.take _) (hla.take _) (hlb.take _)
  rw [vb_tr, vb_tr] at hC
  have hcs : ¬ cmpI (vb B64 la) (vb B64 lb) < 0 := by
    rcases Int.lt_or_eq_of_le hge with h | h
    · rw [cmpI_gt h]; decide
    · rw [cmpI_eq h.symm]; decide
  obtain ⟨c, hc⟩ : ∃ c, c = cmpI (vb B64 la) (vb B64 lb) := ⟨_, rfl⟩
  rw [← hc] at hC hcs
  rw [h1] at hTB hC
  have HTB := Lib.hid hTB
  have HCM := Lib.hid hC
  have htb1 : (tr lb).length = 1 := by rw [tr_length]; exact h1
  obtain ⟨x, hx⟩ : ∃ x, tr lb = [x] := by
    match h : tr lb, htb1 with
    | [x], _ => exact ⟨x, rfl⟩
  have hlx := hlb.take (tlen lb)
  have hx2 : tr lb = lb.take (tlen lb) := rfl
  rw [← hx2, hx] at hlx
  have hxh := hlx.head
  have hvx : vb B64 lb = x := by rw [← vb_tr, hx, vb_one]
  have hx0 : x ≠ 0 := by
    have h2 := (can_tr hlb).top (by rw [hx]; simp)
    rw [hx] at h2; simpa using h2
  obtain ⟨b2, o2, rfl, hat⟩ := (show Rd w ab (tr lb) from hb.take _).cases (by rw [hx]; simp)
  rw [hx] at hat
  have hxp : 0 < x := by omega
  have hxm : x ≤ 18446744073709551615 := by have := hxh.2; unfold B64 at this; omega
  have hta : tlen la ≤ ca := by have := tlen_le la; omega
  have htM : tlen la ≤ MaxW := by have := tlen_le la; omega
  have htl : tlen la = (tr la).length := (tr_length la).symm
  have hrd : Rd w aa (tr la) := ha.take _
  have hcan : Can B64 (tr la) := can_tr hla
  have hvt : vb B64 (tr la) = vb B64 la := vb_tr B64 la
  obtain ⟨ta, hte⟩ : ∃ t, t = tlen la := ⟨_, rfl⟩
  obtain ⟨lt, hlt⟩ : ∃ l, l = tr la := ⟨_, rfl⟩
  rw [← hte] at HTA hta htM htl HCM
  rw [← hlt] at htl hrd hcan hvt
  have HOF := fun w1 (hx : Below w.heap.size w w1) => of_any aa ta ca lt w1 htl hta hc2 (hrd.below hx) htM
  rw [hcan.tr] at HOF
  have HVT := Lib.hid hvt
  rw [hvx]
  clear hna hnb ha hb hla hlb hge hC hTB htl hte hlt hvt hc hx hx2 hlx htb1 hvx h1 hxh
  go_enter Tryz.func11, Tryz.ntmps11
  go_wp2_with fail
  refine HTA.out.mono ?_
  rintro e w' ⟨rfl, rfl⟩
  go_wp2_with fail
  refine HTB.out.mono ?_
  rintro e w' ⟨rfl, rfl⟩
  go_wp2_with fail
  refine HCM.out.mono ?_
  rintro e w1 ⟨rfl, hb1⟩
  go_wp2_with fail
  refine (HOF w1 hb1).mono ?_
  rintro e w2 ⟨v, rfl, hO, hb2⟩
  have hbw2 : Below w.heap.size w w2 := hb1.trans (hb2.mono hb1.size)
  have hcx : w2.cell? ⟨b2, o2, none⟩ = some (.int .u64 x) := (hat.below hbw2) 0 (by simp)
  go_wp2_with fail
  refine (divLimb_ow w1.heap.size v lt x w2 hO hcan.lim hxp hxm hb2.size).mono ?_
  rintro e w3 ⟨rfl, l3, hO3, hlim3, hv3, hb3⟩
  have hbw3 : Below w.heap.size w w3 := hbw2.trans (hb3.mono hb1.size)
  obtain ⟨r, hr⟩ : ∃ r, r = vb B64 lt % x := ⟨_, rfl⟩
  have hr0 : 0 ≤ r := by rw [hr]; exact Int.emod_nonneg _ (by omega)
  have hr1 : r < B64 := by have h1 := Int.emod_lt_of_pos (vb B64 lt) hxp; rw [← hr] at h1; unfold B64; omega
  have limr : Lim B64 [r] := Lim.cons hr0 hr1 (Lim.nil _)
  rw [← hr]
  have HR := Lib.hid hr
  have HV3 := Lib.hid hv3
  clear hr hv3 hcx
  go_wp2_with fail
  refine (trim_ow w1.heap.size v l3 w3 hO3).mono ?_
  rintro e w' ⟨v4, rfl, hO4, rfl⟩
  have hlt4 : ∀ g, v4.ownBlock = some g → g < w3.heap.size := fun g hg => hO4.lt hg
  go_wp2_with fail
  refine (of_any _ 1 1 [r] _ rfl (Nat.le_refl _) (by decide) (at_new _ r _) (by decide)).mono ?_
  rintro e w5 ⟨v5, rfl, hO5, hb5⟩
  go_wp2_with fail
  go_ret3
  have hb35 : Below w3.heap.size w3 w5 := ((Below.refl _ _).alloc (Nat.le_refl _) _).trans (hb5.mono (by simp))
  refine ⟨v4, tr l3, v5, tr [r], rfl, (hO4.below hb35).mono hb1.size, can_tr hlim3, by rw [vb_tr, HV3.out, HVT.out], hO5.mono (by have := hbw3.size; simp; omega), can_tr limr, by rw [vb_tr, vb_one, HR.out, HVT.out], ?_, hbw3.trans (hb35.mono hbw3.size)⟩
  intro g h1 h2
  have h3 := hlt4 g h1
  have h4 := hO5.block g h2
  simp at h4
  omega

theorem norm_div {a b s : Int} (hs : 0 < s) : a * s / (b * s) = a / b := Int.mul_ediv_mul_of_pos_left a b hs
theorem norm_mod {a b s : Int} (hs : 0 < s) : (a * s) % (b * s) = a % b * s := by rw [Int.mul_comm a s, Int.mul_comm b s, Int.mul_emod_mul_of_pos _ _ hs, Int.mul_comm]

set_option maxRecDepth 100000 in
set_option maxHeartbeats 1000000 in
theorem dm_long (aa : Option Addr) (na ca : Nat) (la : List Int) (ab : Option Addr) (n cb : Nat) (lb : List Int) (w : World) (hna : na = la.length) (hnb : n = lb.length) (hc1 : na ≤ ca) (hc2 : ca ≤ 9223372036854775807) (hd1 : n ≤ cb) (hd2 : cb ≤ 9223372036854775807)
    (ha : Rd w aa la) (hb : Rd w ab lb) (hla : Lim B64 la) (hlb : Lim B64 lb) (hM : na ≤ 150) (hM2 : n ≤ 100000) (hge : vb B64 lb ≤ vb B64 la) (h2 : 2 ≤ tlen lb) :
    Calls Tryz.prog 11 #[.slice aa na ca, .slice ab n cb] w fun e w' => RetDM (vb B64 la) (vb B64 lb) w e w' := by
  have HTA := Lib.hid (trim_any aa na ca la w hna hc1 hc2 ha)
  have HTB := Lib.hid (trim_any ab n cb lb w hnb hd1 hd2 hb)
  have hC := cmp_any aa (tlen la) ca (tr la) ab (tlen lb) cb (tr lb) w (tr_length la).symm (tr_length lb).symm (by have := tlen_le la; omega) hc2 (by have := tlen_le lb; omega) hd2 (ha.take _) (hb.take _) (hla.take _) (hlb.take _)
  rw [vb_tr, vb_tr] at hC
  have hcs : ¬ cmpI (vb B64 la) (vb B64 lb) < 0 := by
    rcases Int.lt_or_eq_of_le hge with h | h
    · rw [cmpI_gt h]; decide
    · rw [cmpI_eq h.symm]; decide
  obtain ⟨c, hc⟩ : ∃ c, c = cmpI (vb B64 la) (vb B64 lb) := ⟨_, rfl⟩
  rw [← hc] at hC hcs
  have HCM := Lib.hid hC
  have hta : tlen la ≤ ca := by have := tlen_le la; omega
  have hta2 : tlen la ≤ 150 := by have := tlen_le la; omega
  have htb : tlen lb ≤ cb := by have := tlen_le lb; omega
  have htb2 : tlen lb ≤ 100000 := by have := tlen_le lb; omega
  have htla : tlen la = (tr la).length := (tr_length la).symm
  have htlb : tlen lb = (tr lb).length := (tr_length lb).symm
  have hrda : Rd w aa (tr la) := ha.take _
  have hrdb : Rd w ab (tr lb) := hb.take _
  have hcana : Can B64 (tr la) := can_tr hla
  have hcanb : Can B64 (tr lb) := can_tr hlb
  rw [← vb_tr B64 la, ← vb_tr B64 lb]
  obtain ⟨ta, hte⟩ : ∃ t, t = tlen la := ⟨_, rfl⟩
  obtain ⟨tb, hbe⟩ : ∃ t, t = tlen lb := ⟨_, rfl⟩
  obtain ⟨xa, hxa⟩ : ∃ l, l = tr la := ⟨_, rfl⟩
  obtain ⟨xb, hxb⟩ : ∃ l, l = tr lb := ⟨_, rfl⟩
  rw [← hte] at HTA hta hta2 htla HCM
  rw [← hbe] at HTB htb htb2 htlb HCM h2
  rw [← hxa] at htla hrda hcana ⊢
  rw [← hxb] at htlb hrdb hcanb ⊢
  clear hna hnb ha hb hla hlb hge hC hte hbe hxa hxb hc hM hM2 hc1 hd1
  obtain ⟨b2, o2, rfl, hat⟩ := hrdb.cases (by intro e; subst e; simp at htlb; omega)
  obtain ⟨m, hm⟩ : ∃ m, m = tb - 1 := ⟨_, rfl⟩
  have hmI : (tb : Int) - 1 = (m : Int) := by omega
  have hmt : m < tb := by omega
  obtain ⟨x, hx⟩ : ∃ x, x = xb.getD m 0 := ⟨_, rfl⟩
  have hxl := hcanb.lim.getD B64_pos m
  rw [← hx] at hxl
  have hx0 : 0 ≤ x := hxl.1
  have hx1 : x ≤ 18446744073709551615 := by have := hxl.2; unfold B64 at this; omega
  have hbl := bitLen_le64 x.toNat (by omega)
  obtain ⟨s, hs⟩ : ∃ s : Nat, 64 - (Lib.bitLen x.toNat : Int) = (s : Int) := ⟨64 - Lib.bitLen x.toNat, by omega⟩
  have hs64 : s ≤ 64 := by omega
  have HS := Lib.hid hs
  have HM := Lib.hid hm
  have HX := Lib.hid hx
  have HTLA := Lib.hid htla
  have HTLB := Lib.hid htlb
  have hb1 : ((tb : Int) == 0) = false := by simp; omega
  have hb2 : ((tb : Int) == 1) = false := by simp; omega
  clear hs hm hx htla htlb hxl hbl hrdb
  go_enter Tryz.func11, Tryz.ntmps11
  go_wp2_with fail
  refine HTA.out.mono ?_
  rintro e w' ⟨rfl, rfl⟩
  go_wp2_with fail
  refine HTB.out.mono ?_
  rintro e w' ⟨rfl, rfl⟩
  go_wp2_with fail
  refine HCM.out.mono ?_
  rintro e w1 ⟨rfl, hw1⟩
  have hcx : w1.cell? ⟨b2, o2 + m, none⟩ = some (.int .u64 x) := by rw [HX.out]; exact hat.below hw1 m (by rw [← HTLB.out]; exact hmt)
  go_wp2_with fail
  refine (lz64_any x w1 hx0 hx1).mono ?_
  rintro e w' ⟨rfl, rfl⟩
  rw [HS.out]
  go_wp2_with fail
  refine (shiftUp_any aa ta ca xa s w1 HTLA.out hta hc2 (hrda.below hw1) hcana.lim (by omega) (by unfold MaxW; omega)).mono ?_
  rintro e w2 ⟨v2, l2, rfl, hO2, hcan2, hv2, hb2⟩
  have hw2 : Below w.heap.size w w2 := hw1.trans (hb2.mono hw1.size)
  go_wp2_with fail
  refine (shiftUp_any _ tb cb xb s w2 HTLB.out htb hd2 (Rd.of_at (hat.below hw2)) hcanb.lim (by omega) (by unfold MaxW; omega)).mono ?_
  rintro e w3 ⟨v3, l3, rfl, hO3, hcan3, hv3, hb3⟩
  have hw3 : Below w.heap.size w w3 := hw2.trans (hb3.mono hw2.size)
  have hp : 0 < (2:Int) ^ s := Int.pow_pos (by decide)
  obtain ⟨hlen3, htop3⟩ := norm_top (s := s) hcanb HTLB.out (by omega) (by rw [← HM.out, ← HX.out]; exact HS.out) hcan3 hv3
  have hlen2 : l2.length ≤ ta + 1 := by
    refine len_le_of_lt hcan2 ?_
    rw [hv2, Int.pow_succ, HTLA.out]
    have h1 := vb_lt B64_pos hcana.lim
    have h2 : (2:Int) ^ s ≤ 2 ^ 64 := by exact pow_le_pow (by decide) hs64
    have h3 : (2:Int) ^ 64 = B64 := by decide
    have h4 := Int.mul_lt_mul_of_pos_right h1 hp
    have h5 := Int.mul_le_mul_of_nonneg_left h2 (Int.le_of_lt (pow_pos' B64_pos xa.length))
    rw [h3] at h5
    omega
  have hO2' := hO2.below hb3
  obtain ⟨a2, c2, rfl, hc21, hc22, hr2⟩ := hO2'.form
  rcases hO3.cases with ⟨_, h⟩ | ⟨g3, c3, rfl, -, hc31, hc32, harr3⟩
  · rw [h] at hlen3; simp at hlen3; omega
  rw [hlen3] at hc31 ⊢
  have HL3 := Lib.hid hlen3
  obtain ⟨n2, hn2⟩ : ∃ n, n = l2.length := ⟨_, rfl⟩
  rw [← hn2] at hc21 hlen2 ⊢
  have HN2 := Lib.hid hn2
  clear hn2 hlen3 hcx hO2'
  go_wp2_with fail
  refine (divide_short a2 n2 c2 l2 g3 0 tb c3 l3 w3 HN2.out HL3.out.symm hc21 hc22 hc31 hc32 hr2 harr3.at' hcan2.lim hcan3.lim h2 htop3 (by unfold MaxW; omega) (by omega)).mono ?_
  rintro e w4 ⟨vq, lq, vr, lr, rfl, hOq, hcq, hvq, hOr, hcr, hvr, hdis, hb4⟩
  have hw4 : Below w.heap.size w w4 := hw3.trans (hb4.mono hw3.size)
  rw [hv2, hv3, norm_div hp] at hvq
  rw [hv2, hv3, norm_mod hp] at hvr
  have hqlt : ∀ g, vq.ownBlock = some g → g < w4.heap.size := fun g hg => hOq.lt hg
  obtain ⟨ar, cr, rfl, hr1, hr2', hrr⟩ := hOr.form
  have hlrM : lr.length ≤ 100000 := by
    have h1 : lr.length ≤ tb := by
      refine Nat.le_trans (can_len_le (m := l3) hcr hcan3 ?_) (by rw [HL3.out]; exact Nat.le_refl _)
      rw [hvr, hv3]
      have hb0 : 0 < vb B64 xb := by
        have h5 := hcanb.ge B64_pos (by intro e; rw [e] at HTLB; have := HTLB.out; simp at this; omega)
        have h6 := pow_pos' B64_pos (xb.length - 1)
        omega
      exact Int.mul_le_mul_of_nonneg_right (Int.le_of_lt (Int.emod_lt_of_pos _ hb0)) (Int.le_of_lt hp)
    omega
  obtain ⟨nr, hnr⟩ : ∃ n, n = lr.length := ⟨_, rfl⟩
  rw [← hnr] at hr1 hlrM ⊢
  have HNR := Lib.hid hnr
  have HVQ := Lib.hid hvq
  have HVR := Lib.hid hvr
  clear hnr hvq hvr hv2 hv3
  go_wp2_with fail
  refine (shiftDown_any ar nr cr lr s w4 HNR.out hr1 hr2' hrr hcr.lim (by omega) (by unfold MaxW; omega)).mono ?_
  rintro e w5 ⟨v5, l5, rfl, hO5, hcan5, hv5, hb5⟩
  go_wp2_with fail
  go_ret3
  refine ⟨vq, lq, v5, l5, rfl, (hOq.below hb5).mono hw3.size, hcq, HVQ.out, hO5.mono hw4.size, hcan5, ?_, ?_, hw4.trans (hb5.mono hw4.size)⟩
  · rw [hv5, HVR.out]
    exact Int.mul_ediv_cancel _ (by omega)
  · intro g h1 h2
    have h3 := hqlt g h1
    have h4 := hO5.block g h2
    omega

theorem dm_any (aa : Option Addr) (na ca : Nat) (la : List Int) (ab : Option Addr) (n cb : Nat) (lb : List Int) (w : World) (hna : na = la.length) (hnb : n = lb.length) (hc1 : na ≤ ca) (hc2 : ca ≤ 9223372036854775807) (hd1 : n ≤ cb) (hd2 : cb ≤ 9223372036854775807)
    (ha : Rd w aa la) (hb : Rd w ab lb) (hla : Lim B64 la) (hlb : Lim B64 lb) (hM : na ≤ 150) (hM2 : n ≤ 100000) (h0 : 0 < vb B64 lb) :
    Calls Tryz.prog 11 #[.slice aa na ca, .slice ab n cb] w fun e w' => RetDM (vb B64 la) (vb B64 lb) w e w' := by
  have hMM : na ≤ MaxW := by unfold MaxW; omega
  rcases Int.lt_or_le (vb B64 la) (vb B64 lb) with h | h
  · exact dm_lt aa na ca la ab n cb lb w hna hnb hc1 hc2 hd1 hd2 ha hb hla hlb hMM h
  · by_cases h1 : tlen lb = 1
    · exact dm_one aa na ca la ab n cb lb w hna hnb hc1 hc2 hd1 hd2 ha hb hla hlb hMM h h1
    · refine dm_long aa na ca la ab n cb lb w hna hnb hc1 hc2 hd1 hd2 ha hb hla hlb hM hM2 h ?_
      have h3 : tlen lb ≠ 0 := by
        intro e
        have h4 : tr lb = [] := List.eq_nil_of_length_eq_zero (by rw [tr_length]; exact e)
        rw [← vb_tr, h4] at h0
        simp at h0
      omega

end Go.Proofs.YthfcncapgfkkjaaGreatDoor
