/-
  Contract of nat.lowBits: the rest of a number divided by a power of two.
-/
import Derived.Test.YtbieldebkfkpkaaDoorShift
import Derived.Deep.QuietTactic
import Derived.Test.YtbieldebkfkpkaaDoorLaws
namespace Go.Proofs.YtbieldebkfkpkaaDoor
open Go.RowKit

theorem and_mask (x : Int) (r : Nat) (hr : r ≤ 63) (h0 : 0 ≤ x) (h1 : x < 18446744073709551616) : bits .and .u64 x (2 ^ r - 1) = x % 2 ^ r := by
  obtain ⟨n, rfl⟩ := Int.eq_ofNat_of_zero_le h0
  have h2 : (2:Nat) ^ r ≤ 2 ^ 63 := Nat.pow_le_pow_right (by decide) hr
  have h3 : 1 ≤ (2:Nat) ^ r := Nat.one_le_two_pow
  have e : (2:Int) ^ r - 1 = ((2 ^ r - 1 : Nat) : Int) := by
    rw [Int.natCast_sub h3, Int.natCast_pow]; rfl
  rw [e, bits_and_u64_nat _ _ (by omega) (by omega), Nat.and_two_pow_sub_one_eq_mod, Int.natCast_emod, Int.natCast_pow]
  rfl

/-- What the copy leaves, and its number. -/
theorem low_copy {l : List Int} {N : Nat} (hl : Lim B64 l) : ∃ l0 H, l0 = l.take N ++ (List.replicate N (0 : Int)).drop l.length ∧ l0.length = N ∧ Lim B64 l0 ∧ vb B64 l = vb B64 l0 + B64 ^ N * H := by
  refine ⟨_, vb B64 (l.drop N), rfl, ?_, (hl.take N).app ((Lim.replicate B64_pos N).drop _), ?_⟩
  · rw [List.length_append, List.length_take, List.length_drop, List.length_replicate]; omega
  · rw [vb_append, List.drop_replicate, vb_replicate, Int.mul_zero, Int.add_zero]
    rcases Nat.lt_or_ge l.length N with h | h
    · rw [List.take_of_length_le (by omega), List.drop_of_length_le (by omega)]; simp
    · exact vb_split B64 l N h

theorem low_val {l0 : List Int} {q r k : Nat} {x V H : Int} (hl : l0.length = q + 1) (hlim : Lim B64 l0) (hr : r ≤ 63) (hk : (2:Int) ^ k = B64 ^ q * 2 ^ r) (hx : x = l0.getD q 0) (hV : V = vb B64 l0 + B64 ^ (q + 1) * H) :
    vb B64 (l0.set q (x % 2 ^ r)) = V % 2 ^ k := by
  have e1 := vb_set B64 l0 q (x % 2 ^ r) (by omega)
  have e2 := vb_take_succ B64 (l := l0) (k := q) (by omega)
  rw [List.take_of_length_le (by omega), ← hx] at e2
  have h0 := vb_nonneg B64_pos (hlim.take q)
  have h1 := vb_lt B64_pos (hlim.take q)
  rw [List.length_take, Nat.min_eq_left (by omega)] at h1
  rw [← hx, e2] at e1
  obtain ⟨A, hA⟩ : ∃ A, A = vb B64 (l0.take q) := ⟨_, rfl⟩
  obtain ⟨W, hW⟩ : ∃ W, W = B64 ^ q := ⟨_, rfl⟩
  obtain ⟨P, hP⟩ : ∃ P, P = (2:Int) ^ r := ⟨_, rfl⟩
  have hP0 : 0 < P := by rw [hP]; exact pow2_pos r
  have hW0 : 0 < W := by rw [hW]; exact pow_pos' B64_pos q
  have hPB : (18446744073709551616 : Int) = 2 ^ (64 - r) * P := by rw [hP]; exact pow2_split (by omega)
  have hB : B64 ^ (q + 1) = W * 18446744073709551616 := by rw [Int.pow_succ, ← hW]; rfl
  rw [← hA, ← hW] at e1 e2 h1
  rw [← hA] at h0
  rw [← hW, ← hP] at hk
  rw [← hP] at e1 ⊢
  have hm0 := Int.emod_nonneg x (show P ≠ 0 by omega)
  have hm1 := Int.emod_lt_of_pos x hP0
  have hdm := Int.mul_ediv_add_emod x P
  have hval : vb B64 (l0.set q (x % P)) = A + W * (x % P) := by
    rw [e1]; grind
  rw [hval, hk]
  have e5 : V = (A + W * (x % P)) + (W * P) * (x / P + 2 ^ (64 - r) * H) := by
    rw [hV, e2, hB, hPB]
    grind
  have h5 : W * (x % P + 1) ≤ W * P := Int.mul_le_mul_of_nonneg_left (by omega) (Int.le_of_lt hW0)
  rw [Int.mul_add, Int.mul_one] at h5
  have h6 := Int.mul_nonneg (Int.le_of_lt hW0) hm0
  rw [e5, Int.add_mul_emod_self_left]
  exact (Int.emod_eq_of_lt (a := A + W * (x % P)) (b := W * P) (by omega) (by omega)).symm

set_option maxRecDepth 100000 in
set_option maxHeartbeats 2000000 in
theorem lowBits_any (ao : Option Addr) (n cap : Nat) (l : List Int) (k : Nat) (w : World) (hn : n = l.length) (_h1 : n ≤ cap) (_h2 : cap ≤ 9223372036854775807) (h : Rd w ao l) (hl : Lim B64 l) (hk : k ≤ 16777216) :
    Calls Tryd.prog 61 #[.slice ao n cap, .int .i64 k] w fun e w' => RetNum w (vb B64 l % 2 ^ k) e w' := by
  obtain ⟨q, hq⟩ : ∃ q, q = k / 64 := ⟨_, rfl⟩
  obtain ⟨r, hr⟩ : ∃ r, r = k % 64 := ⟨_, rfl⟩
  have hq1 : ((k : Int)).tdiv 64 = (q : Int) := by rw [Int.tdiv_eq_ediv_of_nonneg (by omega)]; omega
  have hr1 : ((k : Int)).tmod 64 = (r : Int) := by rw [Int.tmod_eq_emod_of_nonneg (by omega)]; omega
  have hr63 : r ≤ 63 := by omega
  have hpow : (2 : Int) ^ k = B64 ^ q * 2 ^ r := by rw [hq, hr]; exact pow2_words k
  obtain ⟨N, hN⟩ : ∃ N, q + 1 = N := ⟨_, rfl⟩
  have hNI : (q : Int) + 1 = (N : Int) := by omega
  have hqN : q < N := by omega
  have hNM : N ≤ MaxW := by unfold MaxW; omega
  have hN63 : N ≤ 17592186044416 := hNM
  have hp1 : (2:Int) ^ r ≤ 9223372036854775808 := by
    have h1 : (2:Int) ^ r ≤ 2 ^ 63 := pow_le_pow (by decide) hr63
    have h2 : (2:Int) ^ 63 = 9223372036854775808 := by decide
    omega
  have hp0 := pow2_pos r

  have hwr : IntKind.u64.wrap ((2:Int) ^ r) = 2 ^ r := by rw [IntKind.wrap_u64]; omega
  have hwr1 : IntKind.u64.wrap (1 * (2:Int) ^ r) = 2 ^ r := by rw [IntKind.wrap_u64]; omega
  have hwr2 : IntKind.u64.wrap ((2:Int) ^ r - 1) = 2 ^ r - 1 := by rw [IntKind.wrap_u64]; omega
  have HPOW := Lib.hid hpow
  have HN := Lib.hid hN
  have HLN := Lib.hid hn
  clear hq hr hpow hN hn
  go_enter Tryd.func61, Tryd.ntmps61
  go_wp2_with (first
    | (at_make; refine wpList_make_words w rfl (.tmp 13) (.tmp 13) 28 rfl Tryd.underlying28 info_u64 _ _ N rfl rfl (by omega) (by omega) hNM ?_; intro w1 hw1 hb1 hs1; have harr1 := hw1.arr.1; have hrd1 := h.below hb1)
    | (with_reducible refine wpList_copy_words rfl (.tmp 15) (.tmp 16) 28 28 rfl Tryd.underlying28 info_u64 w.heap.size 0 N N ao n cap rfl rfl (List.replicate N 0) l List.length_replicate HLN.out.symm harr1 hrd1 ?_; intro w3 ha3 ho3))
  obtain ⟨l0, H, hl0, hlen0, hlim0, hV⟩ := low_copy (N := N) hl
  rw [← HLN.out] at hl0
  rw [← hl0] at ha3
  obtain ⟨x, hx⟩ : ∃ x, x = l0.getD q 0 := ⟨_, rfl⟩
  have hxl := hlim0.getD B64_pos q
  rw [← hx] at hxl
  have hx0 : 0 ≤ x := hxl.1
  have hx1 : x ≤ 18446744073709551615 := by have := hxl.2; unfold B64 at this; omega
  have hcx : w3.cell? ⟨w.heap.size, q, none⟩ = some (.int .u64 x) := by
    have h1 := ha3.at' q (by omega)
    rw [Nat.zero_add, ← hx] at h1; exact h1
  have hfx := ha3.frozen q
  have hand := and_mask x r hr63 hx0 (by omega)
  have hOw := hw1.only ho3 ha3 (by rw [hlen0, List.length_replicate])
  have hV' : vb B64 l = vb B64 l0 + B64 ^ (q + 1) * H := by rw [HN.out]; exact hV
  have hval := low_val (by rw [hlen0, HN.out]) hlim0 hr63 HPOW.out hx hV'
  obtain ⟨z, hz⟩ : ∃ z, z = x % 2 ^ r := ⟨_, rfl⟩
  have harr4 := ha3.store q (x % 2 ^ r)
  rw [Nat.zero_add] at harr4
  have honly : Only w.heap.size 0 N w3 (w3.setCell ⟨w.heap.size, q, none⟩ (.int .u64 (x % 2 ^ r))) := Only.store q _ (Nat.zero_le _) hqN
  have hO4 := hOw.only honly harr4 (by rw [List.length_set])
  have hm0 := Int.emod_nonneg x (show (2:Int) ^ r ≠ 0 by omega)
  have hm1 := Int.emod_lt_of_pos x hp0
  rw [← hz] at hand hval harr4 honly hO4 hm0 hm1
  have hlim4 : Lim B64 (l0.set q z) := hlim0.set q hm0 (by unfold B64; omega)
  have hb3 : Below w.heap.size w w3 := hb1.trans (ho3.below (Nat.le_refl _) hb1.size)
  have hb4 := hb3.trans (honly.below (Nat.le_refl _) hb3.size)
  have HV := Lib.hid hval
  have HL0 := Lib.hid hlen0
  have hwN : IntKind.i64.wrap (q : Int) = (q : Int) := by rw [IntKind.wrap_i64]; omega
  have hO5 := hO4.drew
  have hb5 := bdn hb4 1
  have hrd5 : Rd ((w3.setCell ⟨w.heap.size, q, none⟩ (.int .u64 z)).drew) (some ⟨w.heap.size, 0, none⟩) (l0.set q z) := Rd.of_at hO5.arr.1.at'
  have hlen5 : (l0.set q z).length = N := by rw [List.length_set]; exact HL0.out
  have HL5 := Lib.hid hlen5
  clear hV hV' hx hval hl0 hlen0 hlen5 ho3 hw1 harr1 hrd1 h HPOW hz
  go_region
  go_wp2_with fail
  refine (trim_any _ N N (l0.set q z) _ HL5.out.symm (Nat.le_refl _) (by omega) hrd5).mono ?_
  rintro e w' ⟨rfl, rfl⟩
  go_wp2_with fail
  go_ret
  exact ⟨_, tr (l0.set q z), rfl, hO5.take (tlen (l0.set q z)) (by rw [← HL5.out]; exact tlen_le _), can_tr hlim4, by rw [vb_tr]; exact HV.out, hb5⟩
end Go.Proofs.YtbieldebkfkpkaaDoor
