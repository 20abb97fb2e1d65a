/-
  The walk of the statement NatParses.
-/
import Derived.Test.YtmbkhapldbeocaaDoorAlive
import Derived.Test.YtmbkhapldbeocaaDoorParse2
import Derived.Test.YtmbkhapldbeocaaDoorRefParse
namespace Go.Proofs.YtmbkhapldbeocaaDoor
open Go.RowKit

theorem parse_zero (s : ByteArray) (w : World) (h0 : s.size = 0) :
    Calls Tryd.prog 22 #[.string s] w fun e w' => e = .returned (.tuple #[.slice none 0 0, .bool false]) ∧ w = w' := by
  have hz : ((s.size : Int) == 0) = true := by rw [h0]; rfl
  have hz2 : (s.size == 0) = true := by rw [h0]; rfl
  clear h0
  go_enter Tryd.func22, Tryd.ntmps22
  go_wp2
  go_ret2
  exact ⟨rfl, rfl⟩
theorem rparse_zero (s : ByteArray) (w : World) (h0 : s.size = 0) :
    Calls Tryd.prog 31 #[.string s] w fun e w' => e = .returned (.tuple #[.slice none 0 0, .bool false]) ∧ w = w' := by
  have hz : (s.size : Int) < 1 := by omega
  go_enter Tryd.func31, Tryd.ntmps31
  go_wp2
  go_ret2
  exact ⟨rfl, rfl⟩

/-- Where the text is long the statement asks 'alive' alone. -/
theorem parses_long (s : ByteArray) (w : World) (h : 300 < s.size) :
    Calls Tryd.prog 4 #[.string s] w fun e w' => RetV w (.bool true) e w' := by
  have h' : (300 : Int) < s.size := by omega
  go_enter Tryd.func4, Tryd.ntmps4
  go_wp2_with fail
  refine (alive_yes w).mono ?_
  rintro e w1 ⟨rfl, hb⟩
  go_wp2_with fail
  go_ret
  exact ⟨rfl, hb⟩

set_option maxRecDepth 100000 in
set_option maxHeartbeats 2000000 in
theorem parses_zero (s : ByteArray) (w : World) (h : s.size = 0) :
    Calls Tryd.prog 4 #[.string s] w fun e w' => RetV w (.bool true) e w' := by
  have h' : ¬ (300 : Int) < s.size := by omega
  go_enter Tryd.func4, Tryd.ntmps4
  go_wp2_with fail
  refine (alive_yes w).mono ?_
  rintro e w1 ⟨rfl, hb⟩
  go_wp2_with fail
  refine (parse_zero s w1 h).mono ?_
  rintro e w2 ⟨rfl, rfl⟩
  go_wp2_with fail
  refine (rparse_zero s w1 h).mono ?_
  rintro e w2 ⟨rfl, rfl⟩
  go_wp2_with fail
  refine (is_yes none 0 0 [] none 0 0 [] w1 rfl rfl (Nat.le_refl _) (by omega) (Nat.le_refl _) (by omega) (Rd.nil _ _) (Rd.nil _ _) (Can.nil _) (Can.nil _) rfl (by decide)).mono ?_
  rintro e w2 ⟨rfl, hb2⟩
  go_wp2_with fail
  go_ret
  exact ⟨rfl, hb.trans (hb2.mono hb.size)⟩

set_option maxRecDepth 100000 in
set_option maxHeartbeats 2000000 in
theorem parses_ok (s : ByteArray) (w : World) (h0 : 0 < s.size) (h : s.size ≤ 300) :
    Calls Tryd.prog 4 #[.string s] w fun e w' => RetV w (.bool true) e w' := by
  have h' : ¬ (300 : Int) < s.size := by omega
  obtain ⟨B, hB⟩ : ∃ B, B = allD s.data.toList := ⟨_, rfl⟩
  have HB := Lib.hid hB
  have hbb : (B == B) = true := by simp
  clear hB
  go_enter Tryd.func4, Tryd.ntmps4
  go_wp2_with fail
  refine (alive_yes w).mono ?_
  rintro e w1 ⟨rfl, hb⟩
  go_wp2_with fail
  refine (parse_any s w1 h0 (by omega)).mono ?_
  rintro e w2 ⟨v, l, rfl, hO, hcan, hv, hb2⟩
  rw [← HB.out] at hv ⊢
  obtain ⟨ao, cap, rfl, hc1, hc2, hr⟩ := hO.form
  obtain ⟨n, hn⟩ : ∃ n, n = l.length := ⟨_, rfl⟩
  rw [← hn] at hc1 ⊢
  have HN := Lib.hid hn
  have HV := Lib.hid hv
  clear hn hv
  go_wp2_with fail
  refine (rparse_any s w2 h0 (by omega)).mono ?_
  rintro e w3 ⟨aq, m, cq, lq, rfl, hm, hq1, hq2, hrq, hcanq, hvq, hb3⟩
  rw [← HB.out] at hvq ⊢
  have hm5 : m ≤ s.size := by
    rw [hm]
    refine len_room32 hcanq ?_
    rw [hvq]
    cases hBB : B with
    | false => rw [if_neg (by decide)]; exact Int.pow_pos (by decide)
    | true =>
      rw [if_pos rfl]
      have h2 := (dval_lim s.data.toList (by rw [← HB.out]; exact hBB)).2
      rw [str_len] at h2
      exact Int.lt_of_lt_of_le h2 (ten_pow_le _)
  have HM := Lib.hid hm
  have HVQ := Lib.hid hvq
  clear hm hvq
  go_wp2_with fail
  refine (is_yes ao n cap l aq m cq lq w3 HN.out HM.out hc1 hc2 hq1 hq2 (hr.below hb3) hrq hcan hcanq (by rw [HV.out, HVQ.out]) (by unfold MaxW; omega)).mono ?_
  rintro e w4 ⟨rfl, hb4⟩
  have hbw : Below w.heap.size w w4 := ((hb.trans (hb2.mono hb.size)).trans (hb3.mono (Nat.le_trans hb.size hb2.size))).trans (hb4.mono (Nat.le_trans (Nat.le_trans hb.size hb2.size) hb3.size))
  go_wp2_with fail
  go_ret
  exact ⟨rfl, hbw⟩
end Go.Proofs.YtmbkhapldbeocaaDoor
