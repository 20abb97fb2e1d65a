/-
  Contract of nat.divideByLimb: a number in a row is divided by a word, in place; the rest is returned.
-/
import Derived.Test.YtbieldebkfkpkaaDoorDiv64
namespace Go.Proofs.YtbieldebkfkpkaaDoor
open Go.RowKit

/-- One step of the division of a number by a word, from the top. -/
theorem dl_step {l m : List Int} {k : Nat} {r d q x : Int} (hk : k < l.length) (hlm : m.length = l.length) (h : vb B64 (m.drop (k + 1)) * d + r = vb B64 (l.drop (k + 1))) (hx : x = l.getD k 0) (_hd : 0 < d)
    (hq : q = (r * 18446744073709551616 + x) / d) : vb B64 ((m.set k q).drop k) * d + (r * 18446744073709551616 + x) % d = vb B64 (l.drop k) := by
  have hkm : k < (m.set k q).length := by rw [List.length_set, hlm]; exact hk
  rw [vb_drop B64 hk, vb_drop B64 hkm, getD_set_same (by rw [hlm]; exact hk), ← hx, ← h]
  have e : (m.set k q).drop (k + 1) = m.drop (k + 1) := by
    apply List.ext_getElem?
    intro j
    rw [List.getElem?_drop, List.getElem?_drop, List.getElem?_set, if_neg (by omega)]
  rw [e]
  have := Int.mul_ediv_add_emod (r * 18446744073709551616 + x) d
  rw [← hq, Int.mul_comm d q] at this
  have e2 : (q + B64 * vb B64 (m.drop (k + 1))) * d = q * d + B64 * (vb B64 (m.drop (k + 1)) * d) := by rw [Int.add_mul, Int.mul_assoc]
  rw [e2]
  unfold B64 at *
  omega

theorem divLimb_zero (ao : Option Addr) (cap : Nat) (d : Int) (w : World) :
    Calls Tryd.prog 85 #[.slice ao 0 cap, .int .u64 d] w fun e w' => e = .returned (.int .u64 0) ∧ w = w' := by
  go_enter Tryd.func85, Tryd.ntmps85
  go_wp2
  refine wp_loop_rounds 1 ?_
  rw [rounds_succ]
  go_wp2
  go_ret
  exact ⟨rfl, rfl⟩

/-- What nat.divideByLimb leaves. -/
def RetDL (b off n : Nat) (N d : Int) (w : World) (e : Ending) (w' : World) : Prop := e = .returned (.int .u64 (N % d)) ∧ InPl b off n (N / d) w w'

set_option maxRecDepth 100000 in
set_option maxHeartbeats 1000000 in
theorem divLimb_any (b off n cap : Nat) (l : List Int) (d : Int) (w : World) (hn : n = l.length) (h1 : n ≤ cap) (h2 : cap ≤ 9223372036854775807) (ha : Arr w b off l) (hl : Lim B64 l) (hd : 0 < d) (hd2 : d ≤ 18446744073709551615) :
    Calls Tryd.prog 85 #[.slice (some ⟨b, off, none⟩) n cap, .int .u64 d] w fun e w' => RetDL b off n (vb B64 l) d w e w' := by
  have HN := Lib.hid hn
  clear hn
  go_enter Tryd.func85, Tryd.ntmps85
  go_wp2
  go_loopw [5, 6] (fun rr i wr => ∃ (k : Nat) (r : Int) (m : List Int), k ≤ n ∧ i = .int .i64 ((k : Int) - 1) ∧ rr = .int .u64 r ∧ 0 ≤ r ∧ r < d ∧ Hid (m.length = n) ∧ Lim B64 m ∧ Arr wr b off m ∧ Only b off (off + n) w wr ∧ Hid (m.take k = l.take k) ∧ Hid (vb B64 (m.drop k) * d + r = vb B64 (l.drop k)))
    (fun _ i _ => ((intOf i) + 1).toNat)
  case atStart => exact ⟨n, 0, l, Nat.le_refl _, rfl, rfl, Int.le_refl _, hd, HN.out.symm, hl, ha, Only.refl _ _ _ _, rfl, by
    show _ = _
    rw [List.drop_of_length_le (by rw [HN.out]; exact Nat.le_refl _)]; simp⟩
  case round =>
    obtain ⟨k, r, m, hk, rfl, rfl, hr0, hr1, HM, hlim, harr, honly, HT, HV⟩ := hrel
    by_cases hk0 : k = 0
    · subst hk0
      have hv : vb B64 m * d + r = vb B64 l := HV.out
      have hdiv : vb B64 l / d = vb B64 m := by
        have e : vb B64 l = r + d * vb B64 m := by rw [Int.mul_comm]; omega
        rw [e, Int.add_mul_ediv_left _ _ (by omega), Int.ediv_eq_zero_of_lt hr0 hr1]; omega
      have hmod : vb B64 l % d = r := by
        have e : vb B64 l = r + d * vb B64 m := by rw [Int.mul_comm]; omega
        rw [e, Int.add_mul_emod_self_left, Int.emod_eq_of_lt hr0 hr1]
      have HDI := Lib.hid hdiv
      have HMO := Lib.hid hmod
      clear hv hdiv hmod
      go_wp2
      go_ret
      exact ⟨by rw [HMO.out]; rfl, m, HM.out, hlim, harr, HDI.out.symm, honly⟩
    · obtain ⟨j, rfl⟩ : ∃ j, k = j + 1 := ⟨k - 1, by omega⟩
      have hj : j < n := by omega
      obtain ⟨x, hxe⟩ : ∃ x, x = l.getD j 0 := ⟨_, rfl⟩
      have hcx : wr.cell? ⟨b, off + j, none⟩ = some (.int .u64 x) := by
        rw [hxe, ← getD_take (l := l) (k := j + 1) (by omega), ← HT.out, getD_take (by omega)]
        exact harr.at' j (by rw [HM.out]; exact hj)
      have hfr := harr.frozen (off + j)
      have bx : 0 ≤ x ∧ x < B64 := by rw [hxe]; exact hl.getD B64_pos j
      have bx0 : 0 ≤ x := bx.1
      have bx1 : x ≤ 18446744073709551615 := by have := bx.2; unfold B64 at this; omega
      have e0 : (((j + 1 : Nat) : Int) - 1) = (j : Int) := by omega
      rw [e0]
      have hq := div64_any r x d wr hr0 bx0 bx1 hd hd2 hr1
      obtain ⟨q, hqe⟩ : ∃ q, q = (r * 18446744073709551616 + x) / d := ⟨_, rfl⟩
      obtain ⟨r2, hre⟩ : ∃ r2, r2 = (r * 18446744073709551616 + x) % d := ⟨_, rfl⟩
      rw [← hqe, ← hre] at hq
      have hq0 : 0 ≤ q := by rw [hqe]; exact Int.ediv_nonneg (by omega) (by omega)
      have hq1 : q < B64 := by
        rw [hqe]
        refine Int.ediv_lt_of_lt_mul hd ?_
        unfold B64
        omega
      have hr20 : 0 ≤ r2 := by rw [hre]; exact Int.emod_nonneg _ (by omega)
      have hr21 : r2 < d := by rw [hre]; exact Int.emod_lt_of_pos _ hd
      have hst := dl_step (l := l) (m := m) (k := j) (by rw [← HN.out]; exact hj) (by rw [HM.out, HN.out]) HV.out hxe hd hqe
      rw [← hre] at hst
      have HQ := Lib.hid hq
      have HST := Lib.hid hst
      clear hq hst hqe hre hxe e0 bx
      go_wp2_with fail
      refine HQ.out.mono ?_
      rintro e w1 ⟨rfl, hb1⟩
      have hon1 : Only b off (off + n) wr w1 := Only.of_below hb1
      have harr1 : Arr w1 b off m := by
        obtain ⟨cur, e, hh, hc⟩ := harr
        exact ⟨cur, e, (hb1.block b (Array.getElem?_eq_some_iff.1 hh).1).trans hh, hc⟩
      have hcx1 : w1.cell? ⟨b, off + j, none⟩ = some (.int .u64 x) := by rw [← hcx]; exact hb1.cell (p := ⟨b, off + j, none⟩) harr.lt
      have hfr1 := harr1.frozen (off + j)
      go_wp2_with fail
      go_roundw
      case rel =>
        refine ⟨j, r2, m.set j q, by omega, by go_num, rfl, hr20, hr21, ?_, hlim.set j hq0 hq1, harr1.store j q, (honly.trans hon1).trans (Only.store _ _ (by omega) (by omega)), ?_, HST.out⟩
        · show _ = _
          rw [List.length_set]; exact HM.out
        · show _ = _
          have := HT.out
          rw [List.take_set_of_le (Nat.le_refl _)]
          have e := congrArg (List.take j) this
          rw [List.take_take, List.take_take, Nat.min_eq_left (by omega)] at e
          exact e
      case measure => simp [intOf]
end Go.Proofs.YtbieldebkfkpkaaDoor
