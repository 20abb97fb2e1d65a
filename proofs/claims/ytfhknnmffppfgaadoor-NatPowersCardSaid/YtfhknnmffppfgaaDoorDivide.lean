/-
  Contract of nat.divide where the quotient is short.
-/
import Derived.Test.YtfhknnmffppfgaaDoorDivLong
namespace Go.Proofs.YtfhknnmffppfgaaDoor
open Go.RowKit

theorem top_big {lb : List Int} {n : Nat} (hnb : n = lb.length) (hlb : Lim B64 lb) (hn2 : 2 ≤ n) (htop : 9223372036854775808 ≤ lb.getD (n - 1) 0) : B64 ^ (n - 1) ≤ vb B64 lb := by
  have h1 := vb_take_succ B64 (l := lb) (k := n - 1) (by omega)
  rw [List.take_of_length_le (by omega)] at h1
  have h2 := vb_nonneg B64_pos (hlb.take (n - 1))
  have h3 := Int.mul_le_mul_of_nonneg_left (show 1 ≤ lb.getD (n - 1) 0 by omega) (Int.le_of_lt (pow_pos' B64_pos (n - 1)))
  omega

set_option maxRecDepth 100000 in
theorem divideLong_lt (aa : Option Addr) (na ca : Nat) (la : List Int) (b2 o2 n cb : Nat) (lb : List Int) (w : World) (hna : na = la.length) (hnb : n = lb.length) (hc1 : na ≤ ca) (hc2 : ca ≤ 9223372036854775807)
    (ha : Rd w aa la) (hla : Lim B64 la) (hlb : Lim B64 lb) (hn2 : 2 ≤ n) (htop : 9223372036854775808 ≤ lb.getD (n - 1) 0) (hlt : na < n) (hM : na ≤ MaxW) :
    Calls Tryd.prog 96 #[.slice aa na ca, .slice (some ⟨b2, o2, none⟩) n cb] w fun e w' => RetDivL (vb B64 la) (vb B64 lb) w e w' := by
  have hI : (na : Int) < (n : Int) := by omega
  have hbig := top_big hnb hlb hn2 htop
  have h1 := vb_lt B64_pos hla
  rw [← hna] at h1
  have h2 := pow_le_pow B64_pos (show na ≤ n - 1 by omega)
  have h0 := vb_nonneg B64_pos hla
  have hq : vb B64 la / vb B64 lb = 0 := Int.ediv_eq_zero_of_lt h0 (by omega)
  have hr : vb B64 la % vb B64 lb = vb B64 la := Int.emod_eq_of_lt h0 (by omega)
  have HQ := Lib.hid hq
  have HR := Lib.hid hr
  have HOF := Lib.hid (of_any aa na ca la w hna hc1 hc2 ha hM)
  clear hq hr h0 h1 h2 hbig hna hnb htop ha hM hlt
  go_enter Tryd.func96, Tryd.ntmps96
  go_wp2_with fail
  refine HOF.out.mono ?_
  rintro e w1 ⟨v, rfl, hO, hb⟩
  go_wp2_with fail
  go_ret2
  exact ⟨_, [], _, _, rfl, Ow.nil _ _, Can.nil _, by rw [HQ.out]; rfl, hO, can_tr hla, by rw [vb_tr, HR.out], by intro g h1; simp [Value.ownBlock] at h1, hb⟩

set_option maxRecDepth 100000 in
theorem divide_short (aa : Option Addr) (na ca : Nat) (la : List Int) (b2 o2 n cb : Nat) (lb : List Int) (w : World) (hna : na = la.length) (hnb : n = lb.length) (hc1 : na ≤ ca) (hc2 : ca ≤ 9223372036854775807) (hd1 : n ≤ cb) (hd2 : cb ≤ 9223372036854775807)
    (ha : Rd w aa la) (hb : At w b2 o2 lb) (hla : Lim B64 la) (hlb : Lim B64 lb) (hn2 : 2 ≤ n) (htop : 9223372036854775808 ≤ lb.getD (n - 1) 0) (hM : na + 1 ≤ MaxW) (hshort : na < n + 160) :
    Calls Tryd.prog 67 #[.slice aa na ca, .slice (some ⟨b2, o2, none⟩) n cb] w fun e w' => RetDivL (vb B64 la) (vb B64 lb) w e w' := by
  have ht := tlen_le la
  have HT := Lib.hid (trim_any aa na ca la w hna hc1 hc2 ha)
  obtain ⟨t, hte⟩ : ∃ t, t = tlen la := ⟨_, rfl⟩
  rw [← hte] at HT
  have hmore : (t : Int) - (n : Int) < 160 := by omega
  have htl : t = (tr la).length := by rw [tr_length]; exact hte
  have htc : t ≤ ca := by omega
  have hn63 : n ≤ 9223372036854775807 := by omega
  have HC : Hid (Calls Tryd.prog 96 #[.slice aa t ca, .slice (some ⟨b2, o2, none⟩) n cb] w fun e w' => RetDivL (vb B64 la) (vb B64 lb) w e w') := by
    have hv : vb B64 la = vb B64 (tr la) := (vb_tr B64 la).symm
    rw [hv]
    rcases Nat.lt_or_ge t n with h | h
    · exact divideLong_lt aa t ca (tr la) b2 o2 n cb lb w htl hnb htc hc2 (ha.take (tlen la)) (hla.take _) hlb hn2 htop h (by omega)
    · exact divideLong_ge aa t ca (tr la) b2 o2 n cb lb w htl hnb htc hc2 hd1 hd2 (ha.take (tlen la)) hb (hla.take _) hlb hn2 htop h (by omega)
  clear hna hnb ha hb hla hlb htop htl hte ht hshort hM
  go_enter Tryd.func67, Tryd.ntmps67
  go_wp2_with fail
  refine HT.out.mono ?_
  rintro e w' ⟨rfl, rfl⟩
  go_wp2_with fail
  refine HC.out.mono ?_
  rintro e w' ⟨vq, lq, vr, lr, rfl, h1, h2, h3, h4, h5, h6, h7, h8⟩
  go_wp2_with fail
  go_ret2
  exact ⟨vq, lq, vr, lr, rfl, h1, h2, h3, h4, h5, h6, h7, h8⟩
end Go.Proofs.YtfhknnmffppfgaaDoor
