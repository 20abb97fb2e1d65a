/-
  Contracts of nat.parseLimb and nat.appendChunk.
  Contract of nat.Parse.
  Contracts of nat.Low, nat.Parse of a text of digits, nat.Shl by a negative number, at the level of numbers; the bits of a power of two.
-/
import Derived.Test.YtbieldebkfkpkaaDoorMul64
import Derived.Test.YtbieldebkfkpkaaDoorNat1
import Derived.Test.YtbieldebkfkpkaaDoorMath
import Derived.Test.YtbieldebkfkpkaaDoorTextN
import Derived.Test.YtbieldebkfkpkaaDoorLow
namespace Go.Proofs.YtbieldebkfkpkaaDoor
open Go.RowKit


/-- What nat.parseLimb returns. -/
def limbOf (l : List UInt8) : Value := .tuple #[.int .u64 (if allD l then dval l else 0), .bool (allD l)]

theorem pow_ten_le {k : Nat} (h : k ≤ 18) : (10 : Int) ^ k ≤ 1000000000000000000 := by
  have := pow_le_pow (b := 10) (by decide) h
  rw [show (10 : Int) ^ 18 = 1000000000000000000 by decide] at this
  exact this

set_option maxRecDepth 100000 in
set_option maxHeartbeats 1000000 in
theorem parseLimb_any (s : ByteArray) (w : World) (hs : s.size ≤ 19) :
    Calls Tryd.prog 70 #[.string s] w fun e w' => e = .returned (limbOf s.data.toList) ∧ w = w' := by
  go_enter Tryd.func70, Tryd.ntmps70
  go_wp2
  go_loop [4, 8] (fun o i => ∃ (k : Nat) (z : Int), k ≤ s.size ∧ i = .int .i64 k ∧ o = .int .u64 z ∧ 0 ≤ z ∧ Hid (z < 10 ^ k) ∧ Hid (z = dval (s.data.toList.take k)) ∧ Hid (allD (s.data.toList.take k) = true)) (fun _ i => s.size - (intOf i).toNat)
  case atStart => exact ⟨0, 0, Nat.zero_le _, rfl, rfl, Int.le_refl _, by show _ < _; decide, rfl, rfl⟩
  case round =>
    obtain ⟨k, z, hk, rfl, rfl, hz0, HZ, HV, HA⟩ := hrel
    by_cases hlt : k < s.size
    · have hz1 : z < 1000000000000000000 := Int.lt_of_lt_of_le HZ.out (pow_ten_le (by omega))
      obtain ⟨c, hc⟩ : ∃ c, c = s[k] := ⟨_, rfl⟩
      have HC := Lib.hid hc
      have hu : ((s[k].toNat : Nat) : Int) = ((c.toNat : Nat) : Int) := by rw [hc]
      have hcl : (c.toNat : Int) ≤ 255 := by have := c.toNat_lt; omega
      have HST := Lib.hid (str_take s k hlt)
      rw [← hc] at HST
      clear hc
      by_cases h1 : (c.toNat : Int) < 48
      · go_wp2
        go_ret2
        have hb := allD_bad s k hlt (by rw [← HC.out]; exact dokB_lo c h1)
        exact ⟨by rw [limbOf, hb]; rfl, rfl⟩
      · by_cases h2 : (57 : Int) < c.toNat
        · go_wp2
          go_ret2
          have hb := allD_bad s k hlt (by rw [← HC.out]; exact dokB_hi c h2)
          exact ⟨by rw [limbOf, hb]; rfl, rfl⟩
        · go_wp2
          go_round
          case rel =>
            refine ⟨k + 1, 10 * z + ((c.toNat : Int) - 48), by omega, by go_num, rfl, by omega, ?_, ?_, ?_⟩
            · have := HZ.out
              show _ < _
              rw [Int.pow_succ]
              omega
            · show _ = _
              rw [HST.out, dval_snoc, ← HV.out]
            · show _ = _
              rw [HST.out, allD_snoc, HA.out, dokB_yes c (by omega) (by omega)]; rfl
          case measure => simp [intOf]; omega
    · go_wp2
      go_ret2
      have e : s.data.toList.take k = s.data.toList := List.take_of_length_le (by rw [str_len]; omega)
      have h1 := HA.out
      have h2 := HV.out
      rw [e] at h1 h2
      exact ⟨by rw [limbOf, h1, if_pos rfl, h2]; rfl, rfl⟩

theorem can_of_ge {b : Int} (hb : 0 < b) {l : List Int} (h : Lim b l) (hg : l ≠ [] → b ^ (l.length - 1) ≤ vb b l) : Can b l := by
  refine ⟨h, ?_⟩
  by_cases hl : l = []
  · subst hl; rfl
  · have h1 := hg hl
    have h2 := vb_lt hb (l := tr l) (h.take _)
    rw [vb_tr, tr_length] at h2
    have h3 := tlen_le l
    by_cases he : tlen l = l.length
    · exact he
    · have := pow_le_pow hb (show tlen l ≤ l.length - 1 by omega)
      omega

/-- A row of the call's own that holds a word. -/
theorem Ow.some {base : Nat} {w : World} {v : Value} {l : List Int} (h : Ow base w v l) (hl : l ≠ []) : ∃ g cap, v = .slice (some ⟨g, 0, none⟩) l.length cap ∧ l.length ≤ cap ∧ cap ≤ 9223372036854775807 ∧ base ≤ g := by
  obtain ⟨ao, cap, rfl, h1, h2, _⟩ := h.form
  rcases h.2 with ⟨_, h0⟩ | ⟨g, cap', cur, hv, hg, _⟩
  · exact absurd (List.eq_nil_of_length_eq_zero h0) hl
  · simp only [Value.slice.injEq] at hv
    obtain ⟨rfl, _, rfl⟩ := hv
    exact ⟨g, cap, rfl, h1, h2, hg⟩

/-- One word times the chunk, and the carry. -/
theorem chunk_step {l m : List Int} {k : Nat} {c x T : Int} (hk : k < l.length) (hlm : m.length = l.length) (hx : x = l.getD k 0) (h : vb B64 (m.take k) + B64 ^ k * c = vb B64 (l.take k) * 10000000000000000000 + T) :
    vb B64 ((m.set k (lo64 (x * 10000000000000000000 % 18446744073709551616 + c))).take (k + 1)) + B64 ^ (k + 1) * (x * 10000000000000000000 / 18446744073709551616 + hi64 (x * 10000000000000000000 % 18446744073709551616 + c)) = vb B64 (l.take (k + 1)) * 10000000000000000000 + T := by
  have hkm : k < m.length := by omega
  rw [vb_take_succ B64 hk, vb_take_succ B64 (by rw [List.length_set]; exact hkm), getD_set_same hkm, List.take_set_of_le (Nat.le_refl _), ← hx, Int.pow_succ, Int.mul_assoc, Int.add_assoc, ← Int.mul_add]
  have e : lo64 (x * 10000000000000000000 % 18446744073709551616 + c) + B64 * (x * 10000000000000000000 / 18446744073709551616 + hi64 (x * 10000000000000000000 % 18446744073709551616 + c)) = c + x * 10000000000000000000 := by
    have := lohi (x * 10000000000000000000 % 18446744073709551616 + c)
    unfold B64 at *
    omega
  rw [e, Int.mul_add, Int.add_mul, Int.mul_assoc]
  omega

/-- A row of the call's own that is the number N, without zeros at its end. -/
def RetChunk (base : Nat) (N : Int) (w : World) (e : Ending) (w' : World) : Prop := ∃ v' l', e = .returned v' ∧ Ow base w' v' l' ∧ Can B64 l' ∧ vb B64 l' = N ∧ Below base w w'

set_option maxRecDepth 100000 in
set_option maxHeartbeats 2000000 in
theorem appendChunk_any (base : Nat) (v : Value) (l : List Int) (limb : Int) (w : World) (hO : Ow base w v l) (hbase : base ≤ w.heap.size) (hcan : Can B64 l) (hM : l.length + 1 ≤ MaxW) (hl0 : 0 ≤ limb) (hl1 : limb < 10000000000000000000) :
    Calls Tryd.prog 71 #[v, .int .u64 limb] w fun e w' => RetChunk base (vb B64 l * 10000000000000000000 + limb) w e w' := by
  have HM := Lib.hid hM
  clear hM
  by_cases hl : l = []
  · subst hl
    obtain ⟨ao, cap, rfl, h1, h2, _⟩ := hO.form
    rw [List.length_nil] at h1 hO ⊢
    by_cases hc : 0 < limb
    · have hlen : ([] : List Int).length + 1 ≤ MaxW := HM.out
      go_enter Tryd.func71, Tryd.ntmps71
      go_wp2
      refine wp_loop_rounds 1 ?_
      rw [rounds_succ]
      go_wp2_with (at_builtin; refine wpList_append_words _ rfl (.tmp 40) (.tmp 42) 28 rfl Tryd.underlying28 info_u64 base (.slice ao 0 cap) [] rfl (hO.alloc _) ⟨w.heap.size, 0, none⟩ 1 1 [limb] rfl rfl (news1 _ _ _) hlen (by simp; omega) ?_; intro v' w1 hO1 hb1)
      go_ret
      refine ⟨_, [limb], rfl, hO1, ⟨Lim.cons hl0 (by unfold B64; omega) (Lim.nil _), ?_⟩, by simp [vb_cons], ((Below.refl _ _).alloc hbase _).trans hb1⟩
      simp [tlen]; omega
    · have hz : limb = 0 := by omega
      subst hz
      go_enter Tryd.func71, Tryd.ntmps71
      go_wp2
      refine wp_loop_rounds 1 ?_
      rw [rounds_succ]
      go_wp2
      go_ret
      exact ⟨_, [], rfl, hO, Can.nil _, rfl, Below.refl _ _⟩
  · obtain ⟨g, cap, rfl, h1, h2, hg⟩ := hO.some hl
    obtain ⟨n, hn⟩ : ∃ n, n = l.length := ⟨_, rfl⟩
    rw [← hn] at h1 hO ⊢
    have harr0 := hO.arr.1
    have HN := Lib.hid hn
    have HL := Lib.hid hl
    have hlim0 := hcan.lim
    clear hn hl
    go_enter Tryd.func71, Tryd.ntmps71
    go_wp2
    go_loopw [5, 13] (fun cc i wr => ∃ (k : Nat) (c : Int) (m : List Int), k ≤ n ∧ i = .int .i64 k ∧ cc = .int .u64 c ∧ 0 ≤ c ∧ c ≤ 10000000000000000000 ∧ Hid (m.length = l.length) ∧ Lim B64 m ∧ Arr wr g 0 m ∧ Only g 0 n w wr ∧ Hid (m.drop k = l.drop k) ∧ Hid (vb B64 (m.take k) + B64 ^ k * c = vb B64 (l.take k) * 10000000000000000000 + limb))
      (fun _ i _ => n - (intOf i).toNat)
    case atStart => exact ⟨0, limb, l, Nat.zero_le _, rfl, rfl, hl0, by omega, rfl, hlim0, harr0, Only.refl _ _ _ _, rfl, by show _ = _; simp⟩
    case round =>
      obtain ⟨k, c, m, hk, rfl, rfl, hc0, hc1, HML, hlim, harr, honly, HD, HV⟩ := hrel
      by_cases hlt : k < n
      · obtain ⟨x, hxe⟩ : ∃ x, x = l.getD k 0 := ⟨_, rfl⟩
        have hkl : k < l.length := by rw [← HN.out]; exact hlt
        have hxm : m.getD k 0 = x := by
          have := congrArg (fun z => List.getD z 0 0) HD.out
          simp only [getD_drop, Nat.add_zero] at this
          rw [hxe, this]
        have hcx : wr.cell? ⟨g, k, none⟩ = some (.int .u64 x) := by
          rw [← hxm]
          have := harr.at' k (by rw [HML.out]; exact hkl)
          rwa [Nat.zero_add] at this
        have hfr := harr.frozen k
        have bx : 0 ≤ x ∧ x < B64 := by rw [hxe]; exact hlim0.getD B64_pos k
        have bx0 : 0 ≤ x := bx.1
        have bx1 : x ≤ 18446744073709551615 := by have := bx.2; unfold B64 at this; omega
        have hst := chunk_step (l := l) (m := m) (k := k) hkl HML.out hxe HV.out
        have HMU := Lib.hid (mul64_any x 10000000000000000000 wr bx0 bx1 (by decide) (by decide))
        obtain ⟨hi, hhi⟩ : ∃ hi, hi = x * 10000000000000000000 / 18446744073709551616 := ⟨_, rfl⟩
        obtain ⟨lo, hlo⟩ : ∃ lo, lo = x * 10000000000000000000 % 18446744073709551616 := ⟨_, rfl⟩
        rw [← hhi, ← hlo] at HMU hst
        have hlo0 : 0 ≤ lo ∧ lo < B64 := by unfold B64; omega
        have hi0 : 0 ≤ hi := by omega
        have hi1 : hi ≤ 9999999999999999999 := by omega
        have hcB : 0 ≤ c ∧ c < B64 := by unfold B64; omega
        have cb := hi64_carry hlo0 hcB ⟨Int.le_refl 0, by decide⟩
        rw [Int.add_zero] at cb
        obtain ⟨cb0, cb1⟩ := cb
        have hadd := add64_run lo c 0 hlo0 hcB ⟨Int.le_refl 0, by decide⟩
        rw [Int.add_zero] at hadd
        obtain ⟨c2, hc2⟩ : ∃ c2, c2 = hi64 (lo + c) := ⟨_, rfl⟩
        rw [← hc2] at hadd hst cb0 cb1
        obtain ⟨y, hy⟩ : ∃ y, y = lo64 (lo + c) := ⟨_, rfl⟩
        have hy0 : 0 ≤ y ∧ y < B64 := by rw [hy]; exact lo64_lim _
        rw [← hy] at hadd hst
        have HST := Lib.hid hst
        have HY := Lib.hid hy0
        clear hhi hlo hxe hxm bx hst hc2 hy hlo0 hcB hy0
        go_wp2_with (go_at_call 90; refine HMU.out.mono ?_; rintro e w' ⟨rfl, rfl⟩)
        go_roundw
        case rel =>
          refine ⟨k + 1, hi + c2, m.set k y, by omega, by go_num, rfl, by omega, by omega, ?_, hlim.set k HY.out.1 HY.out.2, ?_, honly.trans (Only.store _ _ (by omega) (by omega)), ?_, HST.out⟩
          · show _ = _
            rw [List.length_set]; exact HML.out
          · have := harr.store k y
            rwa [Nat.zero_add] at this
          · show _ = _
            have e := congrArg (List.drop 1) HD.out
            rw [List.drop_drop, List.drop_drop] at e
            rw [List.drop_set_of_lt (by omega)]
            exact e
        case measure => simp [intOf]; omega
      · have hkn : k = l.length := by rw [← HN.out]; omega
        have hv : vb B64 m + B64 ^ l.length * c = vb B64 l * 10000000000000000000 + limb := by
          have := HV.out
          rw [hkn, List.take_of_length_le (by rw [HML.out]; exact Nat.le_refl _), List.take_length] at this
          exact this
        have HV2 := Lib.hid hv
        have hOm : Ow base wr (.slice (some ⟨g, 0, none⟩) n cap) m := hO.only honly harr HML.out
        have hbl : Below base w wr := honly.below hg hbase
        have hsz := honly.size
        clear hv HV hkn
        by_cases hc : 0 < c
        · have hlen : m.length + 1 ≤ MaxW := by rw [HML.out]; exact HM.out
          go_wp2_with (at_builtin; refine wpList_append_words _ rfl (.tmp 40) (.tmp 42) 28 rfl Tryd.underlying28 info_u64 base (.slice (some ⟨g, 0, none⟩) n cap) m rfl (hOm.alloc _) ⟨wr.heap.size, 0, none⟩ 1 1 [c] rfl rfl (news1 _ _ _) hlen (by simp; omega) ?_; intro v' w1 hO1 hb1)
          go_ret
          have hlim2 : Lim B64 (m ++ [c]) := hlim.app (Lim.cons hc0 (by unfold B64; omega) (Lim.nil _))
          refine ⟨_, m ++ [c], rfl, hO1, ⟨hlim2, tlen_eq (Nat.le_refl _) (fun j a b => by omega) (Or.inr ?_)⟩, ?_, (hbl.alloc (by omega) _).trans hb1⟩
          · rw [List.length_append, List.length_singleton, Nat.add_sub_cancel, List.getD_eq_getElem?_getD, List.getElem?_append_right (Nat.le_refl _)]
            simp; omega
          · rw [vb_snoc, HML.out]; exact HV2.out
        · have hz : c = 0 := by omega
          subst hz
          have hv3 : vb B64 m = vb B64 l * 10000000000000000000 + limb := by have := HV2.out; rwa [Int.mul_zero, Int.add_zero] at this
          have HV3 := Lib.hid hv3
          clear hv3
          go_wp2
          go_ret
          refine ⟨_, m, rfl, hOm, can_of_ge B64_pos hlim (fun _ => ?_), HV3.out, hbl⟩
          rw [HV3.out, HML.out]
          have h3 := hcan.ge B64_pos HL.out
          have h4 := vb_nonneg B64_pos hlim0
          omega


/-- What nat.Parse returns. -/
def RetP (L : List UInt8) (w : World) (e : Ending) (w' : World) : Prop :=
  ∃ v l, e = .returned (.tuple #[v, .bool (allD L)]) ∧ Ow w.heap.size w' v l ∧ Can B64 l ∧ vb B64 l = (if allD L then dval L else 0) ∧ Below w.heap.size w w'

set_option maxRecDepth 100000 in
set_option maxHeartbeats 4000000 in
theorem parse_any (s : ByteArray) (w : World) (h0 : 0 < s.size) (h1 : s.size ≤ 20000) :
    Calls Tryd.prog 19 #[.string s] w fun e w' => RetP s.data.toList w e w' := by
  have hz : ((s.size : Int) == 0) = false := by rw [beq_eq_false_iff_ne]; omega
  have hz2 : (s.size == 0) = false := by rw [beq_eq_false_iff_ne]; omega
  have hmax : ¬ (20000 : Int) < s.size := by omega
  go_enter Tryd.func19, Tryd.ntmps19
  go_wp2
  go_loopw [0, 4] (fun vs vo wr => ∃ (r : ByteArray) (pre : List UInt8) (l : List Int), vs = .string r ∧ Hid (s.data.toList = pre ++ r.data.toList) ∧ r.size ≤ s.size ∧ Ow w.heap.size wr vo l ∧ Can B64 l ∧ Below w.heap.size w wr ∧ Hid (vb B64 l = dval pre) ∧ Hid (allD pre = true) ∧ Hid (pre = [] ∨ r.size % 19 = 0))
    (fun vs _ _ => match vs with | .string r => r.size | _ => 0)
  case atStart => exact ⟨s, [], [], rfl, rfl, Nat.le_refl _, Ow.nil _ _, Can.nil _, Below.refl _ _, rfl, rfl, Or.inl rfl⟩
  case round =>
    obtain ⟨r, pre, l, rfl, HS, hrs, hO, hcan, hb, HV, HA, HM⟩ := hrel
    by_cases hlt : 0 < r.size
    · obtain ⟨q, hq⟩ : ∃ q : Nat, q = (r.size - 1) % 19 := ⟨_, rfl⟩
      have hqr : q + 1 ≤ r.size := by omega
      have hq18 : q ≤ 18 := by omega
      have hqi : IntKind.i64.wrap (((r.size : Int) - 1).tmod 19) = (q : Int) := by
        rw [Int.tmod_eq_emod_of_nonneg (by omega), IntKind.wrap_i64]; omega
      have hqi2 : ((r.size : Int) - 1).tmod 19 = (q : Int) := by
        rw [Int.tmod_eq_emod_of_nonneg (by omega)]; omega
      obtain ⟨p, hp⟩ : ∃ p, p = r.extract 0 (q + 1) := ⟨_, rfl⟩
      obtain ⟨t, ht⟩ : ∃ t, t = r.extract (q + 1) r.size := ⟨_, rfl⟩
      have hpl : p.data.toList = r.data.toList.take (q + 1) := by rw [hp, Lib.extract_data]; simp
      have htl : t.data.toList = r.data.toList.drop (q + 1) := by rw [ht, Lib.extract_data, List.take_of_length_le (by simp)]
      have hps : p.size = q + 1 := by rw [← str_len, hpl, List.length_take, str_len]; omega
      have hts : t.size = r.size - (q + 1) := by rw [← str_len, htl, List.length_drop, str_len]
      have hsplit : s.data.toList = (pre ++ p.data.toList) ++ t.data.toList := by rw [hpl, htl, List.append_assoc, List.take_append_drop]; exact HS.out
      have hPL := parseLimb_any p wr (by omega)
      have HSP := Lib.hid hsplit
      have HTS := Lib.hid hts
      have hpre : pre.length + r.size = s.size := by
        have h7 := congrArg List.length HS.out
        rw [List.length_append, str_len, str_len] at h7
        omega
      have hroom := room_dec hcan HA.out HV.out
      have hlen : l.length + 1 ≤ MaxW := by unfold MaxW; omega
      have HLEN := Lib.hid hlen
      have hbs := hb.size
      rw [hp] at hPL
      by_cases hok : allD p.data.toList = true
      · have hlo : limbOf p.data.toList = .tuple #[.int .u64 (dval p.data.toList), .bool true] := by rw [limbOf, hok]; rfl
        obtain ⟨z, hze⟩ : ∃ z, z = dval p.data.toList := ⟨_, rfl⟩
        have hzl := dval_lim _ hok
        rw [str_len, hps, ← hze] at hzl
        have hz19 : z < 10000000000000000000 := by
          have h3 := pow_le_pow (b := 10) (by decide) (show q + 1 ≤ 19 by omega)
          have h4 : (10 : Int) ^ 19 = 10000000000000000000 := by decide
          omega
        have hz0 : 0 ≤ z := hzl.1
        rw [← hp, hlo, ← hze, hp] at hPL
        have HPL := Lib.hid hPL
        have hval : vb B64 l * 10000000000000000000 + z = dval (pre ++ p.data.toList) := by
          rw [dval_app, ← HV.out, str_len, hps, ← hze]
          rcases HM.out with h | h
          · have h5 := HV.out
            rw [h] at h5
            rw [h5]
            simp [dval]
          · have h6 : q + 1 = 19 := by omega
            rw [h6]
            rfl
        have HVAL := Lib.hid hval
        have hall : allD (pre ++ p.data.toList) = true := by rw [allD_app, HA.out, hok]; rfl
        have HALL := Lib.hid hall
        have hmod : t.size % 19 = 0 := by omega
        have HMOD := Lib.hid hmod
        have HTE := Lib.hid ht
        clear hpl htl hps hts hsplit hPL hlo hze hzl hval hall hmod hok hq hroom hpre hlen hp ht
        go_wp2_with (first
          | (go_at_call 70; refine HPL.out.mono ?_; rintro e w' ⟨rfl, rfl⟩)
          | (go_at_call 71; refine (appendChunk_any w.heap.size u4 l z wr hO hbs hcan HLEN.out hz0 hz19).mono ?_; rintro e w2 ⟨v2, l2, rfl, hO2, hcan2, hv2, hb2⟩))
        rw [← HTE.out]
        go_roundw
        case rel =>
          exact ⟨t, pre ++ p.data.toList, l2, rfl, HSP, by have := HTS.out; omega, hO2, hcan2, hb.trans hb2, by rw [hv2]; exact HVAL, HALL, Or.inr HMOD.out⟩
        case measure => have := HTS.out; simp; omega
      · have hno : allD p.data.toList = false := by simpa using hok
        have hlo : limbOf p.data.toList = .tuple #[.int .u64 0, .bool false] := by rw [limbOf, hno]; rfl
        rw [← hp, hlo, hp] at hPL
        have HPL := Lib.hid hPL
        have hbad : allD s.data.toList = false := by rw [hsplit, allD_app, allD_app, hno]; simp
        have HBAD := Lib.hid hbad
        clear hpl htl hps hts hsplit hPL hlo hok hno hbad hq hroom hpre hlen hp ht
        go_wp2_with (go_at_call 70; refine HPL.out.mono ?_; rintro e w' ⟨rfl, rfl⟩)
        go_ret2
        exact ⟨.slice none 0 0, [], by rw [HBAD.out]; rfl, Ow.nil _ _, Can.nil _, by rw [HBAD.out]; rfl, hb⟩
    · go_wp2
      go_ret2
      have hr0 : r.data.toList = [] := List.eq_nil_of_length_eq_zero (by rw [str_len]; omega)
      have hS := HS.out
      rw [hr0, List.append_nil] at hS
      have h1 := HA.out
      have h2 := HV.out
      rw [← hS] at h1 h2
      exact ⟨_, l, by rw [h1]; rfl, hO, hcan, by rw [h1, if_pos rfl, h2], hb⟩


theorem low_num {w : World} {u : Value} {N : Int} {m : Nat} (h : Num w u N m) (hm : m ≤ 1000) (hT : Tab64 w) (hnz : N ≠ 0) :
    Calls Tryd.prog 24 #[u] w fun e w' => ∃ t : Nat, e = .returned (.int .i64 t) ∧ IsLow N t ∧ t ≤ 64 * m ∧ w = w' := by
  obtain ⟨a, n, c, l, rfl, h1, h2, h3, h4, h5, rfl, h7⟩ := h.open
  refine (low_any a n c l w h1 h2 h3 h4 h5 (by unfold MaxW; omega) hT hnz).mono ?_
  rintro e w' ⟨t, h1, h2, h3, h4⟩
  exact ⟨t, h1, h2, by omega, h4⟩

theorem low_pow {n t : Nat} (h : IsLow (2 ^ n) t) : t = n := by
  obtain ⟨z, hz⟩ := h
  have hp := pow2_pos n
  have ht := pow2_pos t
  have hz1 : 0 < 2 * z + 1 := by
    rcases Int.lt_or_le 0 (2 * z + 1) with a | a
    · exact a
    · have := Int.mul_nonpos_of_nonneg_of_nonpos (Int.le_of_lt ht) a
      omega
  rcases Nat.lt_trichotomy t n with a | a | a
  · obtain ⟨k, hk⟩ := Nat.le.dest (Nat.succ_le_of_lt a)
    rw [← hk, show t.succ + k = t + (k + 1) by omega, Int.pow_add] at hz
    have e := Int.eq_of_mul_eq_mul_left (by omega : (2:Int) ^ t ≠ 0) hz
    rw [Int.pow_succ] at e
    omega
  · exact a
  · have h1 : (2 : Int) ^ n < 2 ^ t := by
      have h2 : (2 : Int) ^ (n + 1) ≤ 2 ^ t := pow_le_pow (by decide) a
      rw [Int.pow_succ] at h2
      omega
    have h3 := Int.mul_le_mul_of_nonneg_left (show 1 ≤ 2 * z + 1 by omega) (Int.le_of_lt ht)
    omega

theorem parse_num {w : World} {N : Int} {m n : Nat} (h0 : 0 ≤ N) (hN : N < B64 ^ m) (hn : N < 10 ^ n) (hn2 : n ≤ 19999) :
    Calls Tryd.prog 19 #[.string (strOfNums (dec N))] w fun e w' => RetSN w N m e w' := by
  obtain ⟨h1, h2, h3⟩ := dec_spec h0
  have h4 := dec_len h0 hn
  refine (parse_any (strOfNums (dec N)) w (by rw [dec_size]; exact h3) (by rw [dec_size]; omega)).mono ?_
  rintro e w' ⟨v, l, rfl, hO, hc, hv, hb⟩
  rw [dec_bytes, h2, if_pos rfl, h1] at hv
  rw [dec_bytes, h2]
  obtain ⟨a, k, c, rfl⟩ := hO.slice
  exact ⟨a, k, c, rfl, hO.newn hc hv hN, hb⟩

theorem shl_neg_num {w : World} {u : Value} {N : Int} {m : Nat} (k : Nat) (h : Num w u N m) (hk : k ≤ 16777216) (hm : m ≤ 100000) :
    Calls Tryd.prog 11 #[u, .int .i64 (-(k : Int))] w fun e w' => RetN w (N / 2 ^ k) m e w' := by
  have hs := shr_lt (k := k) h.lt h.nonneg
  obtain ⟨a, n, c, l, rfl, h1, h2, h3, h4, h5, rfl, h7⟩ := h.open
  by_cases hk0 : k = 0
  · subst hk0
    refine (shl_up a n c l 0 w h1 h2 h3 h4 h5 (by decide) (by unfold MaxW; omega)).mono fun e w' hr => ?_
    have : RetNum w (vb B64 l / 2 ^ 0) e w' := by simpa using hr
    exact this.retn hs
  · exact (shl_down a n c l k w h1 h2 h3 h4 h5 (by omega) hk (by unfold MaxW; omega)).mono fun e w' hr => hr.retn hs

theorem nb_pow (n : Nat) : nb (2 ^ n) = n + 1 := nb_eq (by omega) (Int.le_refl _) (by rw [Int.pow_succ]; have := pow2_pos n; omega)
theorem nb_pow_pred (n : Nat) : nb (2 ^ n - 1) = n := by
  by_cases h : n = 0
  · subst h; decide
  · have e : (2 : Int) ^ n = 2 ^ (n - 1) * 2 := by rw [← Int.pow_succ]; congr 1; omega
    have := pow2_pos (n - 1)
    exact nb_eq (by omega) (by omega) (by omega)

end Go.Proofs.YtbieldebkfkpkaaDoor
