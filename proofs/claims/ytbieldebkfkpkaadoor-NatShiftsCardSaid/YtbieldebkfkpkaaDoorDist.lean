/-
  Contract of nat.distance: the difference of two numbers without its sign, in a new row.
-/
import Derived.Test.YtbieldebkfkpkaaDoorNat1
namespace Go.Proofs.YtbieldebkfkpkaaDoor
open Go.RowKit

/-- What nat.distance returns. -/
def RetDist (na : Nat) (A B : Int) (w : World) (e : Ending) (w' : World) : Prop :=
  ∃ l, e = .returned (.tuple #[.slice (some ⟨w.heap.size, 0, none⟩) na na, .bool (decide (A < B))]) ∧ l.length = na ∧ Lim B64 l ∧ Arr w' w.heap.size 0 l ∧ vb B64 l = (if A < B then B - A else A - B) ∧ Below w.heap.size w w' ∧ w.heap.size < w'.heap.size

theorem copied {n : Nat} {l : List Int} (hl : l.length ≤ n) (hlim : Lim B64 l) : (l.take n ++ (List.replicate n (0 : Int)).drop l.length).length = n ∧ Lim B64 (l.take n ++ (List.replicate n (0 : Int)).drop l.length) ∧ vb B64 (l.take n ++ (List.replicate n (0 : Int)).drop l.length) = vb B64 l := by
  refine ⟨by rw [List.length_append, List.length_take, List.length_drop, List.length_replicate]; omega, (hlim.take n).app ((Lim.replicate B64_pos n).drop _), ?_⟩
  rw [List.take_of_length_le hl, vb_append, List.drop_replicate, vb_replicate]
  simp

set_option maxRecDepth 100000 in
set_option maxHeartbeats 4000000 in
theorem distance_any (aa : Option Addr) (na ca : Nat) (la : List Int) (ab : Option Addr) (nb' cb : Nat) (lb : List Int) (w : World) (hna : na = la.length) (hnb : nb' = lb.length)
    (hc1 : na ≤ ca) (hc2 : ca ≤ 9223372036854775807) (hd1 : nb' ≤ cb) (hd2 : cb ≤ 9223372036854775807) (ha : Rd w aa la) (hb : Rd w ab lb) (hla : Lim B64 la) (hlb : Lim B64 lb) (hle : nb' ≤ na) (hM : na ≤ MaxW) :
    Calls Tryd.prog 113 #[.slice aa na ca, .slice ab nb' cb] w fun e w' => RetDist na (vb B64 la) (vb B64 lb) w e w' := by
  have HNA := Lib.hid hna
  have HNB := Lib.hid hnb
  have hM2 := hM
  unfold MaxW at hM2
  clear hna hnb
  have hb0 := hb
  have ha0 := ha
  by_cases hlt : vb B64 la < vb B64 lb
  · have hz := cmpI_lt hlt
    have hdec : decide (vb B64 la < vb B64 lb) = true := by simpa using hlt
    have HZ := Lib.hid hz
    clear hz
    have HDEC := Lib.hid hdec
    have HLT := Lib.hid hlt
    clear hdec hlt
    go_enter Tryd.func113, Tryd.ntmps113
    go_wp2_with (at_make; refine wpList_make_words w rfl (.tmp 8) (.tmp 8) 28 rfl Tryd.underlying28 info_u64 _ _ na rfl rfl rfl rfl hM ?_; intro w1 hw1 hb1 hs1)
    refine (cmp_any aa na ca la ab nb' cb lb w1 HNA.out HNB.out hc1 hc2 hd1 hd2 (ha.below hb1) (hb.below hb1) hla hlb).mono ?_
    rintro e w2 ⟨rfl, hb12⟩
    rw [HZ.out]
    have hbw2 : Below w.heap.size w w2 := hb1.trans (hb12.mono hb1.size)
    have harr2 := (hw1.below hb12).arr.1
    have hcpr := hb.below hbw2
    have hs2 : w.heap.size < w2.heap.size := by have := hb12.size; omega
    go_wp2_with (with_reducible refine wpList_copy_words rfl (.tmp 14) (.tmp 15) 28 28 rfl Tryd.underlying28 info_u64 w.heap.size 0 na na ab nb' cb rfl rfl (List.replicate na 0) lb List.length_replicate HNB.out.symm harr2 hcpr ?_; intro w3 ha3 ho3)
    have hcpd := copied (n := na) (l := lb) (by rw [← HNB.out]; omega) hlb
    rw [← HNB.out] at hcpd
    have hs3 : w.heap.size < w3.heap.size := by have := ho3.size; omega
    have hbw3 : Below w.heap.size w w3 := hbw2.trans (ho3.below (Nat.le_refl _) (by omega))
    have hsr := ha0.below hbw3
    have hst := tlen_le la
    rw [← HNA.out] at hst
    refine (trim_any aa na ca la w3 HNA.out hc1 hc2 hsr).mono ?_
    rintro e w' ⟨rfl, rfl⟩
    go_wp2_with fail
    refine (subFrom_any w.heap.size 0 na na _ aa (tlen la) ca (tr la) w3 hcpd.1.symm (tr_length _).symm (Nat.le_refl _) (by omega) (by omega) (by omega) ha3 (hsr.take _) ?_ hcpd.2.1 (hla.take _) ?_ ?_).mono ?_
    · intro hn b' off' e
      subst e
      have hl : la ≠ [] := by intro e; rw [e] at hn; exact hn rfl
      have := ha0.at'.lt hl
      omega
    · rw [vb_tr, hcpd.2.2]; have := HLT.out; omega
    · omega
    · rintro e w4 ⟨rfl, l4, hl4, hlim4, harr4, hv4, hon4⟩
      rw [vb_tr, hcpd.2.2] at hv4
      have hbw4 : Below w.heap.size w w4 := hbw3.trans (hon4.below (Nat.le_refl _) (by omega))
      have hs4 : w.heap.size < w4.heap.size := by have := hon4.size; omega
      have HV4 := Lib.hid hv4
      have HL4 := Lib.hid hl4
      clear hv4 hl4 hcpd
      go_wp2_with fail
      go_ret2
      exact ⟨l4, by rw [HDEC.out]; rfl, HL4.out, hlim4, harr4, by rw [if_pos HLT.out]; exact HV4.out, hbw4, hs4⟩
  · have hz : ¬ cmpI (vb B64 la) (vb B64 lb) < 0 := by
      unfold cmpI
      rw [if_neg hlt]
      split <;> decide
    have hdec : decide (vb B64 la < vb B64 lb) = false := by simpa using hlt
    obtain ⟨z, hze⟩ : ∃ z, z = cmpI (vb B64 la) (vb B64 lb) := ⟨_, rfl⟩
    rw [← hze] at hz
    have HZE := Lib.hid hze
    clear hze
    have HDEC := Lib.hid hdec
    have HLT := Lib.hid hlt
    clear hdec hlt
    go_enter Tryd.func113, Tryd.ntmps113
    go_wp2_with (at_make; refine wpList_make_words w rfl (.tmp 8) (.tmp 8) 28 rfl Tryd.underlying28 info_u64 _ _ na rfl rfl rfl rfl hM ?_; intro w1 hw1 hb1 hs1)
    refine (cmp_any aa na ca la ab nb' cb lb w1 HNA.out HNB.out hc1 hc2 hd1 hd2 (ha.below hb1) (hb.below hb1) hla hlb).mono ?_
    rintro e w2 ⟨rfl, hb12⟩
    rw [← HZE.out]
    have hbw2 : Below w.heap.size w w2 := hb1.trans (hb12.mono hb1.size)
    have harr2 := (hw1.below hb12).arr.1
    have hcpr := ha.below hbw2
    have hs2 : w.heap.size < w2.heap.size := by have := hb12.size; omega
    go_wp2_with (with_reducible refine wpList_copy_words rfl (.tmp 22) (.tmp 23) 28 28 rfl Tryd.underlying28 info_u64 w.heap.size 0 na na aa na ca rfl rfl (List.replicate na 0) la List.length_replicate HNA.out.symm harr2 hcpr ?_; intro w3 ha3 ho3)
    have hcpd := copied (n := na) (l := la) (by rw [← HNA.out]; omega) hla
    rw [← HNA.out] at hcpd
    have hs3 : w.heap.size < w3.heap.size := by have := ho3.size; omega
    have hbw3 : Below w.heap.size w w3 := hbw2.trans (ho3.below (Nat.le_refl _) (by omega))
    have hsr := hb0.below hbw3
    have hst := tlen_le lb
    rw [← HNB.out] at hst
    refine (trim_any ab nb' cb lb w3 HNB.out hd1 hd2 hsr).mono ?_
    rintro e w' ⟨rfl, rfl⟩
    go_wp2_with fail
    refine (subFrom_any w.heap.size 0 na na _ ab (tlen lb) cb (tr lb) w3 hcpd.1.symm (tr_length _).symm (Nat.le_refl _) (by omega) (by omega) (by omega) ha3 (hsr.take _) ?_ hcpd.2.1 (hlb.take _) ?_ ?_).mono ?_
    · intro hn b' off' e
      subst e
      have hl : lb ≠ [] := by intro e; rw [e] at hn; exact hn rfl
      have := hb0.at'.lt hl
      omega
    · rw [vb_tr, hcpd.2.2]; have := HLT.out; omega
    · omega
    · rintro e w4 ⟨rfl, l4, hl4, hlim4, harr4, hv4, hon4⟩
      rw [vb_tr, hcpd.2.2] at hv4
      have hbw4 : Below w.heap.size w w4 := hbw3.trans (hon4.below (Nat.le_refl _) (by omega))
      have hs4 : w.heap.size < w4.heap.size := by have := hon4.size; omega
      have HV4 := Lib.hid hv4
      have HL4 := Lib.hid hl4
      clear hv4 hl4 hcpd
      go_wp2_with fail
      go_ret2
      exact ⟨l4, by rw [HDEC.out]; rfl, HL4.out, hlim4, harr4, by rw [if_neg (Int.not_lt.2 HLT.out)]; exact HV4.out, hbw4, hs4⟩
end Go.Proofs.YtbieldebkfkpkaaDoor
