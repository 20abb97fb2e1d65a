/-
  Contract of nat.divideLong.
-/
import Derived.Test.YtbieldebkfkpkaaDoorReduce
import Derived.Test.YtbieldebkfkpkaaDoorChunks
import Derived.Test.YtbieldebkfkpkaaDoorDist
namespace Go.Proofs.YtbieldebkfkpkaaDoor
open Go.RowKit

/-- A row of which words in the middle have been written. -/
theorem splice_mid {g off t s n : Nat} {l : List Int} {N : Int} {w w' : World} (ha : Arr w g off l) (hl : Lim B64 l) (hn : l.length = n) (ht : t + s ≤ n) (h : InPl g (off + t) s N w w') :
    ∃ l2, l2.length = n ∧ Lim B64 l2 ∧ Arr w' g off l2 ∧ l2.take t = l.take t ∧ vb B64 (l2.drop t) = N + B64 ^ s * vb B64 (l.drop (t + s)) ∧ Only g off (off + n) w w' := by
  obtain ⟨l', hl', hlim', harr', hv', hon'⟩ := h
  have hlt : (l.take t).length = t := by rw [List.length_take]; omega
  have h1 := hon'.arr (ha.take t) (Or.inl (by rw [hlt]; exact Nat.le_refl _))
  have h2 := hon'.arr (ha.drop (t + s)) (Or.inr (by omega))
  have h3 := h1.append (by rw [hlt]; exact harr')
  have h4 := h3.append (m := l.drop (t + s)) (by rw [List.length_append, hlt, hl']; exact h2)
  refine ⟨l.take t ++ l' ++ l.drop (t + s), by rw [List.length_append, List.length_append, hlt, hl', List.length_drop]; omega, ((hl.take t).app hlim').app (hl.drop _), h4, ?_, ?_, hon'.mono (by omega) (by omega)⟩
  · rw [List.append_assoc, List.take_append_of_le_length (by omega), List.take_of_length_le (by omega)]
  · rw [List.append_assoc, List.drop_append_of_le_length (by omega), List.drop_of_length_le (l := l.take t) (by omega), List.nil_append, vb_append, hl', hv']

/-- Where the upper part is small its words above n are nothing. -/
theorem high_zero {l : List Int} {k n : Nat} {b : Int} (hl : Lim B64 l) (hb : b < B64 ^ n) (h : vb B64 (l.drop k) < b) (hkn : k + n ≤ l.length) : vb B64 (l.drop (k + n)) = 0 := by
  have h1 := vb_split B64 (l.drop k) n (by rw [List.length_drop]; omega)
  rw [List.drop_drop] at h1
  have h2 := vb_nonneg B64_pos ((hl.drop k).take n)
  have h3 := vb_nonneg B64_pos (hl.drop (k + n))
  rcases Int.lt_or_le 0 (vb B64 (l.drop (k + n))) with h4 | h4
  · have := Int.mul_le_mul_of_nonneg_left (show 1 ≤ vb B64 (l.drop (k + n)) by omega) (Int.le_of_lt (pow_pos' B64_pos n))
    omega
  · omega

/-- One more digit of the quotient. -/
theorem long_step {Q' Rt q r b A S : Int} {j : Nat} (hS : S = q * b + r) (h : A = B64 ^ (j + 1) * (Q' * b) + (Rt + B64 ^ j * S)) : A = B64 ^ j * ((q + B64 * Q') * b) + (Rt + B64 ^ j * r) := by
  rw [h, hS, Int.add_mul, Int.mul_add (B64 ^ j), Int.mul_add (B64 ^ j), Int.pow_succ, Int.mul_assoc (B64 ^ j), Int.mul_assoc B64]
  omega

/-- Two rows of the call's own lie apart. -/
def Dis (v u : Value) : Prop := ∀ g, v.ownBlock = some g → u.ownBlock ≠ some g
theorem Ow.lt {base : Nat} {w : World} {v : Value} {l : List Int} (h : Ow base w v l) {k : Nat} (hk : v.ownBlock = some k) : k < w.heap.size := by
  rcases h.2 with ⟨rfl, _⟩ | ⟨g, cap, cur, rfl, hg, hh, _⟩
  · simp [Value.ownBlock] at hk
  · simp only [Value.ownBlock, Option.some.injEq] at hk
    rw [← hk]
    exact (Array.getElem?_eq_some_iff.1 hh).1

/-- What nat.divideLong returns. -/
def RetDivL (a b : Int) (w : World) (e : Ending) (w' : World) : Prop :=
  ∃ vq lq vr lr, e = .returned (.tuple #[vq, vr]) ∧ Ow w.heap.size w' vq lq ∧ Can B64 lq ∧ vb B64 lq = a / b ∧ Ow w.heap.size w' vr lr ∧ Can B64 lr ∧ vb B64 lr = a % b ∧ Dis vq vr ∧ Below w.heap.size w w'

set_option maxRecDepth 100000 in
set_option maxHeartbeats 8000000 in
theorem divideLong_ge (aa : Option Addr) (na ca : Nat) (la : List Int) (b2 o2 n cb : Nat) (lb : List Int) (w : World) (hna : na = la.length) (hnb : n = lb.length) (_hc1 : na ≤ ca) (_hc2 : ca ≤ 9223372036854775807) (hd1 : n ≤ cb) (hd2 : cb ≤ 9223372036854775807)
    (ha : Rd w aa la) (hb' : At w b2 o2 lb) (hla : Lim B64 la) (hlb : Lim B64 lb) (hn2 : 2 ≤ n) (htop : 9223372036854775808 ≤ lb.getD (n - 1) 0) (hge : n ≤ na) (hM : na + 1 ≤ MaxW) :
    Calls Tryd.prog 99 #[.slice aa na ca, .slice (some ⟨b2, o2, none⟩) n cb] w fun e w' => RetDivL (vb B64 la) (vb B64 lb) w e w' := by
  have hlt : ¬ (na : Int) < (n : Int) := by omega
  obtain ⟨K, hK⟩ : ∃ K, na - n + 1 = K := ⟨_, rfl⟩
  obtain ⟨M, hMe⟩ : ∃ M, na + 1 = M := ⟨_, rfl⟩
  have hKI : (na : Int) - (n : Int) + 1 = (K : Int) := by omega
  have hMI : (na : Int) + 1 = (M : Int) := by omega
  have hKM : K ≤ MaxW := by omega
  have hMM : M ≤ MaxW := by omega
  have hKn : K + n = M := by omega
  have HNA := Lib.hid hna
  have HNB := Lib.hid hnb
  have HMe := Lib.hid hMe
  have HKn := Lib.hid hKn
  have HTOP := Lib.hid htop
  have hM63 : M ≤ 17592186044416 := hMM
  clear hna hnb hK hMe hKn htop
  go_enter Tryd.func99, Tryd.ntmps99
  go_wp2_with (first
    | (at_make; refine wpList_make_words w rfl (.tmp 21) (.tmp 21) 28 rfl Tryd.underlying28 info_u64 _ _ K rfl rfl (by omega) (by omega) hKM ?_; intro w1 hw1 hb1 hs1)
    | (at_make; refine wpList_make_words w1 rfl (.tmp 25) (.tmp 25) 28 rfl Tryd.underlying28 info_u64 _ _ M rfl rfl (by omega) (by omega) hMM ?_; intro w2 hw2 hb2 hs2; have harr2 := hw2.arr.1; have hra2 := (ha.below hb1).below hb2)
    | (with_reducible refine wpList_copy_words rfl (.tmp 27) (.tmp 28) 28 28 rfl Tryd.underlying28 info_u64 w1.heap.size 0 M M aa na ca rfl rfl (List.replicate M 0) la List.length_replicate HNA.out.symm harr2 hra2 ?_; intro w3 ha3 ho3))
  obtain ⟨l0, hl0⟩ : ∃ l0, l0 = la.take M ++ (List.replicate M (0 : Int)).drop na := ⟨_, rfl⟩
  have hcpd := copied (n := M) (l := la) (by rw [← HNA.out]; have := HMe.out; omega) hla
  rw [← HNA.out, ← hl0] at hcpd
  rw [← hl0] at ha3
  obtain ⟨hcl, hclim, hcv⟩ := hcpd
  have hbw1 := hb1
  have hbw2 : Below w.heap.size w w2 := hb1.trans (hb2.mono hb1.size)
  have hbw3 : Below w.heap.size w w3 := hbw2.trans (ho3.below hb1.size hbw2.size)
  have hQ3 : Ow w.heap.size w3 (.slice (some ⟨w.heap.size, 0, none⟩) K K) (List.replicate K 0) := ((hw1.below hb2).only' ho3 (by simp [Value.ownBlock]; omega))
  have hR3 : Ow w1.heap.size w3 (.slice (some ⟨w1.heap.size, 0, none⟩) M M) l0 := hw2.only ho3 ha3 (by rw [hcl, List.length_replicate])
  have hs13 : w1.heap.size < w3.heap.size := by have := ho3.size; omega
  have hbig : B64 ^ (n - 1) ≤ vb B64 lb := by
    have h1 := vb_take_succ B64 (l := lb) (k := n - 1) (by rw [← HNB.out]; omega)
    rw [List.take_of_length_le (by rw [← HNB.out]; omega)] at h1
    have h2 := vb_nonneg B64_pos (hlb.take (n - 1))
    have h3 := Int.mul_le_mul_of_nonneg_left (show 1 ≤ lb.getD (n - 1) 0 by have := HTOP.out; omega) (Int.le_of_lt (pow_pos' B64_pos (n - 1)))
    omega
  have hstart : vb B64 (l0.drop K) < vb B64 lb := by
    have hKa : K ≤ la.length := by rw [← HNA.out]; have := HKn.out; have := HMe.out; omega
    have h1 := vb_lt B64_pos (hla.drop K)
    rw [List.length_drop, ← HNA.out, show na - K = n - 1 by have := HKn.out; have := HMe.out; omega] at h1
    rw [hl0, List.take_of_length_le (by rw [← HNA.out]; have := HMe.out; omega), List.drop_append_of_le_length hKa, vb_append, List.drop_replicate, vb_replicate]
    omega
  have HST := Lib.hid hstart
  have HCV := Lib.hid hcv
  clear hstart hcv hl0 ha3 ho3 hw1 hw2 harr2 hra2 ha
  go_loopw [8] (fun ii wr => ∃ (k : Nat) (lq lr : List Int), k ≤ K ∧ ii = .int .i64 ((k : Int) - 1) ∧ Hid (lq.length = K) ∧ Lim B64 lq ∧ Ow w.heap.size wr (.slice (some ⟨w.heap.size, 0, none⟩) K K) lq ∧ Hid (lr.length = M) ∧ Lim B64 lr ∧ Ow w1.heap.size wr (.slice (some ⟨w1.heap.size, 0, none⟩) M M) lr ∧ Below w.heap.size w wr ∧ w1.heap.size < wr.heap.size ∧ Hid (vb B64 (lr.drop k) < vb B64 lb) ∧ Hid (vb B64 la = B64 ^ k * (vb B64 (lq.drop k) * vb B64 lb) + vb B64 lr))
    (fun ii _ => ((intOf ii) + 1).toNat)
  case atStart => exact ⟨K, List.replicate K 0, l0, Nat.le_refl _, rfl, by show _ = _; simp, Lim.replicate B64_pos K, hQ3, hcl, hclim, hR3, hbw3, hs13, HST, by show _ = _; rw [List.drop_of_length_le (by simp), HCV.out]; simp⟩
  case round =>
    obtain ⟨k, lq, lr, hk, rfl, HLQ, hlimq, hQ, HLR, hlimr, hR, hb, hsz, HT, HV⟩ := hrel
    by_cases hk0 : k = 0
    · subst hk0
      have hv : vb B64 la = vb B64 lq * vb B64 lb + vb B64 lr := by have h1 := HV.out; simpa using h1
      have ht : vb B64 lr < vb B64 lb := by have h1 := HT.out; simpa using h1
      have hr0 := vb_nonneg B64_pos hlimr
      have hqr := red_right (a := vb B64 la) (b := vb B64 lb) (G := vb B64 lq) (by rw [Int.add_mul, Int.one_mul]; omega) (by omega)
      have HQR := Lib.hid hqr
      have HRV : Hid (vb B64 lr = vb B64 la % vb B64 lb) := by show _ = _; rw [hqr.2]; omega
      have hRb := hR.mono hbw1.size
      clear hv ht hr0 hqr HV HT
      have hq1 := hQ.take (tlen lq) (by rw [← HLQ.out]; exact tlen_le lq)
      have hr1 := hRb.take (tlen lr) (by rw [← HLR.out]; exact tlen_le lr)
      have hK63 : K ≤ 9223372036854775807 := by unfold MaxW at hKM; omega
      have hM63' : M ≤ 9223372036854775807 := by omega
      have hrdq : Rd wr (some ⟨w.heap.size, 0, none⟩) lq := Rd.of_at hQ.arr.1.at'
      have hrdr : Rd wr (some ⟨w1.heap.size, 0, none⟩) lr := Rd.of_at hR.arr.1.at'
      have hdis : w.heap.size < w1.heap.size := hs1
      go_wp2_with fail
      refine (trim_any _ K K lq wr HLQ.out.symm (Nat.le_refl _) hK63 hrdq).mono ?_
      rintro e w4 ⟨rfl, rfl⟩
      go_wp2_with fail
      refine (trim_any _ M M lr wr HLR.out.symm (Nat.le_refl _) hM63' hrdr).mono ?_
      rintro e w4 ⟨rfl, rfl⟩
      go_wp2_with fail
      go_ret2
      exact ⟨_, tr lq, _, tr lr, rfl, hq1, can_tr hlimq, by rw [vb_tr]; exact HQR.out.1.symm, hr1, can_tr hlimr, by rw [vb_tr]; exact HRV.out, by intro g h1 h2; simp [Value.ownBlock] at h1 h2; omega, hb⟩
    · obtain ⟨j, rfl⟩ : ∃ j, k = j + 1 := ⟨k - 1, by omega⟩
      have hj : j < K := by omega
      have e0 : (((j + 1 : Nat) : Int) - 1) = (j : Int) := by omega
      rw [e0]
      obtain ⟨p, hp⟩ : ∃ p, j + n + 1 = p := ⟨_, rfl⟩
      have hpI : (j : Int) + (n : Int) + 1 = (p : Int) := by omega
      have hpM : p ≤ M := by have := HKn.out; omega
      have hjp : (j : Int) ≤ (p : Int) := by omega
      have hjM : j < M := by omega
      have hpj : p - j = n + 1 := by omega
      have hjl : j < lr.length := by rw [HLR.out]; exact hjM
      have hpl : j + (n + 1) ≤ lr.length := by rw [HLR.out]; omega
      have hz : vb B64 (lr.drop (j + 1 + n)) = 0 := by
        refine high_zero hlimr ?_ HT.out (by omega)
        have h1 := vb_lt B64_pos hlb
        rw [← HNB.out] at h1
        exact h1
      obtain ⟨S, hS⟩ : ∃ S, S = (lr.drop j).take (n + 1) := ⟨_, rfl⟩
      have hSl : n + 1 = S.length := by rw [hS, List.length_take, List.length_drop]; omega
      have hSlim : Lim B64 S := by rw [hS]; exact (hlimr.drop j).take _
      have hSv : vb B64 (lr.drop j) = vb B64 S := by
        have h1 := vb_split B64 (lr.drop j) (n + 1) (by rw [List.length_drop]; omega)
        rw [List.drop_drop, show j + (n + 1) = j + 1 + n by omega, hz, Int.mul_zero, Int.add_zero, ← hS] at h1
        exact h1
      have hSlt : vb B64 S < 18446744073709551616 * vb B64 lb := by
        have h1 := vb_drop B64 hjl
        have h2 := hlimr.getD B64_pos j
        have h3 := HT.out
        rw [hSv] at h1
        unfold B64 at h1 h2 h3
        unfold B64
        omega
      have hRarr := hR.arr.1
      have hSarr : Arr wr w1.heap.size j S := by have h1 := hRarr.sub j (n + 1); rw [Nat.zero_add, ← hS] at h1; exact h1
      have hbwr : At wr b2 o2 lb := hb'.below hb
      have hb2lt : b2 < w1.heap.size := by
        have h1 := hb'.lt (by intro e; have := HNB.out; rw [e] at this; simp at this; omega)
        have h2 := hbw1.size
        omega
      have HRED := Lib.hid (reduce_any w1.heap.size j (n + 1) (M - j) S (some ⟨b2, o2, none⟩) n cb lb wr rfl hSl HNB.out (by omega) (by omega) hd1 hd2 hSarr (Rd.of_at hbwr) (fun _ b' off' e => by cases e; omega) hSlim hlb hn2 HTOP.out hSlt)
      have HZ := Lib.hid hz
      have HSV := Lib.hid hSv
      have HSLT := Lib.hid hSlt
      have HPL := Lib.hid hpl
      clear e0 hp hz hSv hSlt hSarr hSl hbwr hS hpl hjl
      go_wp2_with fail
      refine HRED.out.mono ?_
      rintro e w4 ⟨rfl, hin⟩
      obtain ⟨lr2, hl2, hlim2, harr4, htk2, hdv2, hon4⟩ := splice_mid (g := w1.heap.size) (off := 0) (t := j) (s := n + 1) (n := M) hRarr hlimr HLR.out (by have := HPL.out; rw [HLR.out] at this; exact this) (by rw [Nat.zero_add]; exact hin)
      rw [show j + (n + 1) = j + 1 + n by omega, HZ.out, Int.mul_zero, Int.add_zero] at hdv2
      obtain ⟨q, hq⟩ : ∃ q, q = vb B64 S / vb B64 lb := ⟨_, rfl⟩
      have hQ4 := hQ.only' hon4 (by simp [Value.ownBlock]; omega)
      have hR4 := hR.only hon4 harr4 (by rw [hl2, HLR.out])
      rw [← hq]
      have hbp : 0 < vb B64 lb := by
        have h1 := HSLT.out
        have h2 := vb_nonneg B64_pos hSlim
        omega
      have hq0 : 0 ≤ q := by rw [hq]; exact Int.ediv_nonneg (vb_nonneg B64_pos hSlim) (by omega)
      have hqB : q < B64 := by rw [hq]; exact Int.ediv_lt_of_lt_mul hbp HSLT.out
      have hSqr : vb B64 S = q * vb B64 lb + vb B64 S % vb B64 lb := by
        have h1 := Int.mul_ediv_add_emod (vb B64 S) (vb B64 lb)
        rw [← hq, Int.mul_comm] at h1
        exact h1.symm
      have hrl := Int.emod_lt_of_pos (vb B64 S) hbp
      have hQarr := hQ4.arr.1
      have hcq := hQarr.at' j (by rw [HLQ.out]; exact hj)
      have hfq := hQarr.frozen (0 + j)
      have harrQ2 := hQarr.store j q
      rw [Nat.zero_add] at hcq hfq harrQ2
      have honQ : Only w.heap.size 0 K w4 (w4.setCell ⟨w.heap.size, j, none⟩ (.int .u64 q)) := Only.store j _ (Nat.zero_le _) hj
      have hQ5 := hQ4.only honQ harrQ2 (by rw [List.length_set])
      have hR5 := hR4.only' honQ (by simp [Value.ownBlock]; omega)
      have hb5 : Below w.heap.size w (w4.setCell ⟨w.heap.size, j, none⟩ (.int .u64 q)) := (hb.trans (hon4.below hbw1.size hb.size)).trans (honQ.below (Nat.le_refl _) (Nat.le_trans hb.size hon4.size))
      have hsz5 : w1.heap.size < (w4.setCell ⟨w.heap.size, j, none⟩ (.int .u64 q)).heap.size := by have h1 := hon4.size; have h2 := honQ.size; omega
      have hnew : vb B64 la = B64 ^ j * (vb B64 ((lq.set j q).drop j) * vb B64 lb) + vb B64 lr2 := by
        have e1 := vb_split B64 lr j (by rw [HLR.out]; omega)
        have e2 := vb_split B64 lr2 j (by rw [hl2]; omega)
        have e3 := vb_drop B64 (l := lq.set j q) (k := j) (by rw [List.length_set, HLQ.out]; exact hj)
        have e4 : (lq.set j q).drop (j + 1) = lq.drop (j + 1) := List.drop_set_of_lt (by omega)
        rw [getD_set_same (by rw [HLQ.out]; exact hj), e4] at e3
        rw [e3, e2, htk2, hdv2]
        have h1 := HV.out
        rw [e1, HSV.out] at h1
        exact long_step hSqr h1
      have HNEW := Lib.hid hnew
      have HL2 := Lib.hid hl2
      have HT2 : Hid (vb B64 (lr2.drop j) < vb B64 lb) := by show _ < _; rw [hdv2]; exact hrl
      clear hnew hl2 hSqr hrl hq htk2 hdv2 hin hQarr
      go_wp2_with fail
      go_roundw
      case rel =>
        refine ⟨j, lq.set j q, lr2, by omega, rfl, ?_, hlimq.set j hq0 hqB, hQ5, HL2.out, hlim2, hR5, hb5, hsz5, HT2.out, HNEW.out⟩
        show _ = _
        rw [List.length_set]; exact HLQ.out
      case measure => simp [intOf]
end Go.Proofs.YtbieldebkfkpkaaDoor
