/-
  Contract of nat.Parse.
-/
import Derived.Test.YtfhknnmffppfgaaDoorParse1
namespace Go.Proofs.YtfhknnmffppfgaaDoor
open Go.RowKit

/-- What nat.Parse returns. -/
def RetP (L : List UInt8) (w : World) (e : Ending) (w' : World) : Prop :=
  ∃ v l, e = .returned (.tuple #[v, .bool (allD L)]) ∧ Ow w.heap.size w' v l ∧ Can B64 l ∧ vb B64 l = (if allD L then dval L else 0) ∧ Below w.heap.size w w'

set_option maxRecDepth 100000 in
set_option maxHeartbeats 4000000 in
theorem parse_any (s : ByteArray) (w : World) (h0 : 0 < s.size) (h1 : s.size ≤ 20000) :
    Calls Tryd.prog 21 #[.string s] w fun e w' => RetP s.data.toList w e w' := by
  have hz : ((s.size : Int) == 0) = false := by rw [beq_eq_false_iff_ne]; omega
  have hz2 : (s.size == 0) = false := by rw [beq_eq_false_iff_ne]; omega
  have hmax : ¬ (20000 : Int) < s.size := by omega
  go_enter Tryd.func21, Tryd.ntmps21
  go_wp2
  go_loopw [0, 4] (fun vs vo wr => ∃ (r : ByteArray) (pre : List UInt8) (l : List Int), vs = .string r ∧ Hid (s.data.toList = pre ++ r.data.toList) ∧ r.size ≤ s.size ∧ Ow w.heap.size wr vo l ∧ Can B64 l ∧ Below w.heap.size w wr ∧ Hid (vb B64 l = dval pre) ∧ Hid (allD pre = true) ∧ Hid (pre = [] ∨ r.size % 19 = 0))
    (fun vs _ _ => match vs with | .string r => r.size | _ => 0)
  case atStart => exact ⟨s, [], [], rfl, rfl, Nat.le_refl _, Ow.nil _ _, Can.nil _, Below.refl _ _, rfl, rfl, Or.inl rfl⟩
  case round =>
    obtain ⟨r, pre, l, rfl, HS, hrs, hO, hcan, hb, HV, HA, HM⟩ := hrel
    by_cases hlt : 0 < r.size
    · obtain ⟨q, hq⟩ : ∃ q : Nat, q = (r.size - 1) % 19 := ⟨_, rfl⟩
      have hqr : q + 1 ≤ r.size := by omega
      have hq18 : q ≤ 18 := by omega
      have hqi : IntKind.i64.wrap (((r.size : Int) - 1).tmod 19) = (q : Int) := by
        rw [Int.tmod_eq_emod_of_nonneg (by omega), IntKind.wrap_i64]; omega
      have hqi2 : ((r.size : Int) - 1).tmod 19 = (q : Int) := by
        rw [Int.tmod_eq_emod_of_nonneg (by omega)]; omega
      obtain ⟨p, hp⟩ : ∃ p, p = r.extract 0 (q + 1) := ⟨_, rfl⟩
      obtain ⟨t, ht⟩ : ∃ t, t = r.extract (q + 1) r.size := ⟨_, rfl⟩
      have hpl : p.data.toList = r.data.toList.take (q + 1) := by rw [hp, Lib.extract_data]; simp
      have htl : t.data.toList = r.data.toList.drop (q + 1) := by rw [ht, Lib.extract_data, List.take_of_length_le (by simp)]
      have hps : p.size = q + 1 := by rw [← str_len, hpl, List.length_take, str_len]; omega
      have hts : t.size = r.size - (q + 1) := by rw [← str_len, htl, List.length_drop, str_len]
      have hsplit : s.data.toList = (pre ++ p.data.toList) ++ t.data.toList := by rw [hpl, htl, List.append_assoc, List.take_append_drop]; exact HS.out
      have hPL := parseLimb_any p wr (by omega)
      have HSP := Lib.hid hsplit
      have HTS := Lib.hid hts
      have hpre : pre.length + r.size = s.size := by
        have h7 := congrArg List.length HS.out
        rw [List.length_append, str_len, str_len] at h7
        omega
      have hroom := room_dec hcan HA.out HV.out
      have hlen : l.length + 1 ≤ MaxW := by unfold MaxW; omega
      have HLEN := Lib.hid hlen
      have hbs := hb.size
      rw [hp] at hPL
      by_cases hok : allD p.data.toList = true
      · have hlo : limbOf p.data.toList = .tuple #[.int .u64 (dval p.data.toList), .bool true] := by rw [limbOf, hok]; rfl
        obtain ⟨z, hze⟩ : ∃ z, z = dval p.data.toList := ⟨_, rfl⟩
        have hzl := dval_lim _ hok
        rw [str_len, hps, ← hze] at hzl
        have hz19 : z < 10000000000000000000 := by
          have h3 := pow_le_pow (b := 10) (by decide) (show q + 1 ≤ 19 by omega)
          have h4 : (10 : Int) ^ 19 = 10000000000000000000 := by decide
          omega
        have hz0 : 0 ≤ z := hzl.1
        rw [← hp, hlo, ← hze, hp] at hPL
        have HPL := Lib.hid hPL
        have hval : vb B64 l * 10000000000000000000 + z = dval (pre ++ p.data.toList) := by
          rw [dval_app, ← HV.out, str_len, hps, ← hze]
          rcases HM.out with h | h
          · have h5 := HV.out
            rw [h] at h5
            rw [h5]
            simp [dval]
          · have h6 : q + 1 = 19 := by omega
            rw [h6]
            rfl
        have HVAL := Lib.hid hval
        have hall : allD (pre ++ p.data.toList) = true := by rw [allD_app, HA.out, hok]; rfl
        have HALL := Lib.hid hall
        have hmod : t.size % 19 = 0 := by omega
        have HMOD := Lib.hid hmod
        have HTE := Lib.hid ht
        clear hpl htl hps hts hsplit hPL hlo hze hzl hval hall hmod hok hq hroom hpre hlen hp ht
        go_wp2_with (first
          | (go_at_call 75; refine HPL.out.mono ?_; rintro e w' ⟨rfl, rfl⟩)
          | (go_at_call 76; refine (appendChunk_any w.heap.size u4 l z wr hO hbs hcan HLEN.out hz0 hz19).mono ?_; rintro e w2 ⟨v2, l2, rfl, hO2, hcan2, hv2, hb2⟩))
        rw [← HTE.out]
        go_roundw
        case rel =>
          exact ⟨t, pre ++ p.data.toList, l2, rfl, HSP, by have := HTS.out; omega, hO2, hcan2, hb.trans hb2, by rw [hv2]; exact HVAL, HALL, Or.inr HMOD.out⟩
        case measure => have := HTS.out; simp; omega
      · have hno : allD p.data.toList = false := by simpa using hok
        have hlo : limbOf p.data.toList = .tuple #[.int .u64 0, .bool false] := by rw [limbOf, hno]; rfl
        rw [← hp, hlo, hp] at hPL
        have HPL := Lib.hid hPL
        have hbad : allD s.data.toList = false := by rw [hsplit, allD_app, allD_app, hno]; simp
        have HBAD := Lib.hid hbad
        clear hpl htl hps hts hsplit hPL hlo hok hno hbad hq hroom hpre hlen hp ht
        go_wp2_with (go_at_call 75; refine HPL.out.mono ?_; rintro e w' ⟨rfl, rfl⟩)
        go_ret2
        exact ⟨.slice none 0 0, [], by rw [HBAD.out]; rfl, Ow.nil _ _, Can.nil _, by rw [HBAD.out]; rfl, hb⟩
    · go_wp2
      go_ret2
      have hr0 : r.data.toList = [] := List.eq_nil_of_length_eq_zero (by rw [str_len]; omega)
      have hS := HS.out
      rw [hr0, List.append_nil] at hS
      have h1 := HA.out
      have h2 := HV.out
      rw [← hS] at h1 h2
      exact ⟨_, l, by rw [h1]; rfl, hO, hcan, by rw [h1, if_pos rfl, h2], hb⟩
end Go.Proofs.YtfhknnmffppfgaaDoor
