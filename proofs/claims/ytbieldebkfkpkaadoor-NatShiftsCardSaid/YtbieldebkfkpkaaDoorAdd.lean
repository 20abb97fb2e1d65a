/-
  Contract of nat.Add: the sum of all numbers of a slice of numbers.
-/
import Derived.Test.YtbieldebkfkpkaaDoorNat1
namespace Go.Proofs.YtbieldebkfkpkaaDoor
open Go.RowKit

def sumv (ls : List (List Int)) : Int := (ls.map (vb B64)).foldr (· + ·) 0
theorem sumv_cons (l : List Int) (ls : List (List Int)) : sumv (l :: ls) = vb B64 l + sumv ls := rfl
theorem sumv_append (ls ms : List (List Int)) : sumv (ls ++ ms) = sumv ls + sumv ms := by
  induction ls with
  | nil => simp [sumv]
  | cons l ls ih => rw [List.cons_append, sumv_cons, sumv_cons, ih, Int.add_assoc]
theorem sumv_take {ls : List (List Int)} {k : Nat} (hk : k < ls.length) : sumv (ls.take (k + 1)) = sumv (ls.take k) + vb B64 (ls.getD k []) := by
  rw [List.take_succ_eq_append_getElem hk, sumv_append, List.getD_eq_getElem?_getD, List.getElem?_eq_getElem hk]
  simp [sumv]

theorem sum_bound {ls : List (List Int)} {k s : Nat} (hk : k < ls.length) (hl : Lim B64 (ls.getD k [])) (ht : tlen (ls.getD k []) ≤ s) (h : sumv (ls.take k) ≤ (k : Int) * B64 ^ s) : sumv (ls.take (k + 1)) ≤ ((k + 1 : Nat) : Int) * B64 ^ s := by
  rw [sumv_take hk]
  have h1 : vb B64 (ls.getD k []) < B64 ^ s := by
    rw [← vb_tr]
    have h2 := vb_lt B64_pos (can_tr hl).lim
    rw [tr_length] at h2
    have h3 := pow_le_pow B64_pos ht
    omega
  have e : ((k + 1 : Nat) : Int) * B64 ^ s = (k : Int) * B64 ^ s + B64 ^ s := by
    rw [Int.natCast_add, Int.add_mul]; simp
  omega
theorem sum_fit {x : Int} {k s : Nat} (h : x ≤ (k : Int) * B64 ^ s) (hk : k < 4294967297) : x < B64 ^ (s + 1) := by
  have hp := pow_pos' B64_pos s
  have : (k : Int) * B64 ^ s ≤ 4294967296 * B64 ^ s := Int.mul_le_mul_of_nonneg_right (by omega) (Int.le_of_lt hp)
  have e : B64 ^ (s + 1) = 18446744073709551616 * B64 ^ s := by rw [Int.pow_succ, Int.mul_comm]; rfl
  omega

set_option maxRecDepth 100000 in
set_option maxHeartbeats 1000000 in
theorem add_any (ao : Option Addr) (n cap : Nat) (vs : List Value) (ls : List (List Int)) (w : World) (hn : n = vs.length) (hls : ls.length = vs.length) (h1 : n ≤ cap) (_h2 : cap ≤ 9223372036854775807)
    (hrow : RdRow w ao vs) (hel : ∀ j, j < vs.length → RdV w (vs.getD j undef) (ls.getD j [])) (hM : ∀ j, (ls.getD j []).length < MaxW) (hC : n < 4294967296) :
    Calls Tryd.prog 53 #[.slice ao n cap] w fun e w' => RetNum w (sumv ls) e w' := by
  have HN := Lib.hid hn
  have HLS := Lib.hid hls
  have HROW := Lib.hid hrow
  have HEL := Lib.hid hel
  have HM := Lib.hid hM
  clear hn hls hrow hel hM
  go_enter Tryd.func53, Tryd.ntmps53
  go_wp2
  go_loop [3, 11] (fun sz i => ∃ k s : Nat, k ≤ n ∧ i = .int .i64 k ∧ sz = .int .i64 s ∧ s < MaxW ∧ Hid (∀ j, j < k → tlen (ls.getD j []) ≤ s)) (fun _ i => n - (intOf i).toNat)
  case atStart => exact ⟨0, 0, Nat.zero_le _, rfl, rfl, by decide, fun j h => by omega⟩
  case round =>
    obtain ⟨k, s, hk, rfl, rfl, hs, HB⟩ := hrel
    have hs63 : s + 1 ≤ 9223372036854775807 := by unfold MaxW at hs; omega
    by_cases hlt : k < n
    · have hv0 : vs ≠ [] := by intro e; subst e; have := HN.out; simp at this; omega
      obtain ⟨b, off, rfl, hcells⟩ := HROW.out.resolve_left hv0
      have hkv : k < vs.length := by rw [← HN.out]; exact hlt
      obtain ⟨ax, cx, hvk, hxc, hxc2, hrd, hlim⟩ := HEL.out k hkv
      have hcell : w.cell? ⟨b, off + k, none⟩ = some (.slice ax (ls.getD k []).length cx) := by
        rw [← hvk]; refine hcells k _ ?_
        rw [List.getD_eq_getElem?_getD, List.getElem?_eq_getElem hkv]; rfl
      obtain ⟨nx, hnx⟩ : ∃ nx, nx = (ls.getD k []).length := ⟨_, rfl⟩
      rw [← hnx] at hcell hxc hvk
      obtain ⟨lx, hlx⟩ : ∃ lx, lx = ls.getD k [] := ⟨_, rfl⟩
      rw [← hlx] at hnx hrd hlim
      have HNX := Lib.hid hnx
      have HLX := Lib.hid hlx
      clear hnx hlx hvk hcells hkv
      go_wp2_with (go_at_call 68; refine (trim_any ax nx cx lx _ HNX.out hxc hxc2 hrd).mono ?_; rintro e w' ⟨rfl, rfl⟩)
      go_round
      case rel =>
        refine ⟨k + 1, max s (tlen lx), by omega, by go_num, ?_, ?_, ?_⟩
        · split
          · rw [Nat.max_eq_right (by omega)]
          · rw [Nat.max_eq_left (by omega)]
        · have := HM.out k
          rw [← HLX.out] at this
          have := tlen_le lx
          omega
        · intro j hj
          by_cases hjk : j = k
          · subst hjk; rw [← HLX.out]; omega
          · have := HB.out j (by omega); omega
      case measure => simp [intOf]; omega
    · have hkn : k = n := by omega
      subst hkn
      clear hlt hk
      have hsm : s + 1 ≤ MaxW := by omega
      go_wp2_with (at_make; refine wpList_make_words w rfl (.tmp 22) (.tmp 22) 28 rfl Tryd.underlying28 info_u64 _ _ (s + 1) rfl rfl (by omega) (by omega) hsm ?_; intro w1 hw1 hb1 hs1)
      have hw0 := (by assumption : Ow w.heap.size _ _ (List.replicate (s + 1) 0))
      have hb0 := (by assumption : Below w.heap.size w _)
      go_loopw [26] (fun i wr => ∃ (j : Nat) (lo : List Int), j ≤ k ∧ i = .int .i64 j ∧ Ow w.heap.size wr (.slice (some ⟨w.heap.size, 0, none⟩) (s + 1) (s + 1)) lo ∧ Below w.heap.size w wr ∧ Lim B64 lo ∧ Hid (vb B64 lo = sumv (ls.take j)) ∧ Hid (sumv (ls.take j) ≤ (j : Int) * B64 ^ s)) (fun i _ => k - (intOf i).toNat)
      case atStart => exact ⟨0, _, Nat.zero_le _, rfl, hw0, hb0, Lim.replicate B64_pos _, by show _ = _; rw [vb_replicate]; rfl, by show sumv [] ≤ ((0 : Nat) : Int) * B64 ^ s; rw [Int.natCast_zero, Int.zero_mul]; exact Int.le_refl 0⟩
      case round =>
        clear hw0 hb0
        obtain ⟨j, lo, hj, rfl, hO, hbl, hlim, HV, HS⟩ := hrel
        obtain ⟨harr, -, hlo⟩ := hO.arr
        have HLO := Lib.hid hlo
        clear hlo
        by_cases hlt : j < k
        · have hv0 : vs ≠ [] := by intro e; subst e; have := HN.out; simp at this; omega
          obtain ⟨b, off, rfl, hcells⟩ := (HROW.out.below hbl).resolve_left hv0
          have hjv : j < vs.length := by rw [← HN.out]; exact hlt
          have hjl : j < ls.length := by rw [HLS.out]; exact hjv
          have hel := HEL.out j hjv
          have hlimj := hel.lim
          obtain ⟨ax, cx, hvk, hxc, hxc2, hrd, -⟩ := hel.below hbl
          have hrdw : ls.getD j [] ≠ [] → ∀ b' off', ax = some ⟨b', off', none⟩ → b' ≠ w.heap.size := by
            intro hn b' off' e
            obtain ⟨ax2, cx2, hvk2, _, _, hrd2, _⟩ := hel
            rw [hvk] at hvk2
            simp only [Value.slice.injEq] at hvk2
            obtain ⟨rfl, _, _⟩ := hvk2
            subst e
            have := hrd2.at'.lt hn
            omega
          have hcell : wr.cell? ⟨b, off + j, none⟩ = some (.slice ax (ls.getD j []).length cx) := by
            rw [← hvk]; refine hcells j _ ?_
            rw [List.getD_eq_getElem?_getD, List.getElem?_eq_getElem hjv]; rfl
          have htj := HB.out j hlt
          have hsb := sum_bound hjl hlimj htj HS.out
          have hst := sumv_take hjl
          obtain ⟨nx, hnx⟩ : ∃ nx, nx = (ls.getD j []).length := ⟨_, rfl⟩
          rw [← hnx] at hcell hxc hvk
          obtain ⟨lx, hlx⟩ : ∃ lx, lx = ls.getD j [] := ⟨_, rfl⟩
          rw [← hlx] at hnx hrd hlimj htj hst hrdw
          have htn := tlen_le lx
          have HNX := Lib.hid hnx
          have htc : tlen lx ≤ cx := by omega
          have hfit : vb B64 lo + vb B64 (tr lx) < B64 ^ (s + 1) := by
            rw [vb_tr, HV.out, ← hst]
            exact sum_fit hsb (by omega)
          have hadd := addTo_any w.heap.size 0 (s + 1) (s + 1) lo ax (tlen lx) cx (tr lx) wr HLO.out (tr_length lx).symm (Nat.le_refl _) (by omega) htc hxc2 harr (hrd.take _) (fun h => hrdw (by intro e; subst e; exact h rfl)) hlim (hlimj.take _) hfit (by omega)
          rw [vb_tr] at hadd
          have HA := Lib.hid hadd
          have HSB := Lib.hid hsb
          have HST := Lib.hid hst
          clear hnx hlx hvk hcells hjv hjl hel hsb hst htn hfit hadd hrdw htj
          go_wp2_with (first | (go_at_call 68; refine (trim_any ax nx cx lx _ HNX.out hxc hxc2 hrd).mono ?_; rintro e w' ⟨rfl, rfl⟩) | (go_at_call 84; refine HA.out.mono ?_; rintro e w3 ⟨rfl, l3, hl3, hlim3, harr3, hval3, honly3⟩; have HL3 := Lib.hid hl3; have HV3 := Lib.hid hval3; clear hl3 hval3))
          go_roundw
          case rel =>
            have HL3 := (by assumption : Hid (List.length _ = s + 1))
            have HV3 := (by assumption : Hid (_ = vb B64 lo + vb B64 lx))
            have honly := (by assumption : Only w.heap.size 0 (0 + (s + 1)) wr _)
            have harr3 := (by assumption : Arr _ w.heap.size 0 _)
            refine ⟨j + 1, _, by omega, by go_num, hO.only honly harr3 (by rw [HL3.out, ← HLO.out]), hbl.trans (honly.below (Nat.le_refl _) hbl.size), by assumption, ?_, HSB.out⟩
            show _ = _
            rw [HV3.out, HV.out, HST.out]
          case measure => simp [intOf]; omega
        · have hjk : j = k := by omega
          have hval : vb B64 lo = sumv ls := by
            rw [HV.out, hjk, List.take_of_length_le (by rw [HLS.out, HN.out]; exact Nat.le_refl _)]
          have HVA := Lib.hid hval
          clear hval hjk
          go_wp2_with (go_at_call 68; refine (trim_any (some ⟨w.heap.size, 0, none⟩) (s + 1) (s + 1) lo wr HLO.out (Nat.le_refl _) (by omega) (Rd.of_at harr.at')).mono ?_; rintro e w' ⟨rfl, rfl⟩)
          go_ret
          exact ⟨_, tr lo, rfl, hO.take (tlen lo) (by rw [HLO.out]; exact tlen_le lo), can_tr hlim, by rw [vb_tr]; exact HVA.out, hbl⟩
end Go.Proofs.YtbieldebkfkpkaaDoor
