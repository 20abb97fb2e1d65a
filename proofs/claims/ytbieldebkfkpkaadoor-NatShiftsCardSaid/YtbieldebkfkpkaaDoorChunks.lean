/-
  Contract of nat.writeChunks: the decimal digits of a number are written into a row of bytes, nineteen at a time, from the end.
-/
import Derived.Test.YtbieldebkfkpkaaDoorDivLimb
import Derived.Test.YtbieldebkfkpkaaDoorBytes
namespace Go.Proofs.YtbieldebkfkpkaaDoor
open Go.RowKit

/-- What nat.divideByLimb leaves of a row of the call's own. -/
def RetDLO (B : Nat) (v : Value) (l : List Int) (d : Int) (w : World) (e : Ending) (w' : World) : Prop :=
  e = .returned (.int .u64 (vb B64 l % d)) ∧ ∃ l', Ow B w' v l' ∧ Lim B64 l' ∧ vb B64 l' = vb B64 l / d ∧ Below B w w'

theorem divLimb_ow (B : Nat) (v : Value) (l : List Int) (d : Int) (w : World) (h : Ow B w v l) (hl : Lim B64 l) (hd : 0 < d) (hd2 : d ≤ 18446744073709551615) (hB : B ≤ w.heap.size) :
    Calls Tryd.prog 85 #[v, .int .u64 d] w fun e w' => RetDLO B v l d w e w' := by
  rcases h.cases with ⟨rfl, rfl⟩ | ⟨g, cap, rfl, hg, h1, h2, harr⟩
  · refine (divLimb_zero none 0 d w).mono ?_
    rintro e w' ⟨rfl, rfl⟩
    refine ⟨by simp, [], h, Lim.nil _, by simp, Below.refl _ _⟩
  · refine (divLimb_any g 0 l.length cap l d w rfl h1 h2 harr hl hd hd2).mono ?_
    rintro e w' ⟨rfl, l', hl', hlim', harr', hv, honly⟩
    exact ⟨rfl, l', by have := h.only honly harr' hl'; exact this, hlim', hv, honly.below hg hB⟩

def RetTrO (B : Nat) (l : List Int) (w : World) (e : Ending) (w' : World) : Prop := ∃ v', e = .returned v' ∧ Ow B w v' (tr l) ∧ w = w'
theorem trim_ow (B : Nat) (v : Value) (l : List Int) (w : World) (h : Ow B w v l) : Calls Tryd.prog 68 #[v] w fun e w' => RetTrO B l w e w' := by
  obtain ⟨ao, cap, rfl, h1, h2, hr⟩ := h.form
  refine (trim_any ao l.length cap l w rfl h1 h2 hr).mono ?_
  rintro e w' ⟨rfl, rfl⟩
  exact ⟨_, rfl, h.take (tlen l) (tlen_le l), rfl⟩

theorem drop_set_at {l : List Int} {p : Nat} {x : Int} (hp : p < l.length) : (l.set p x).drop p = x :: l.drop (p + 1) := by
  rw [drop_getD_cons (by rw [List.length_set]; exact hp), getD_set_same hp]
  congr 1
  apply List.ext_getElem?
  intro j
  rw [List.getElem?_drop, List.getElem?_drop, List.getElem?_set, if_neg (by omega)]

theorem pow_chunk (N : Int) (a : Nat) : N / 10 ^ (19 * a) / 10000000000000000000 = N / 10 ^ (19 * (a + 1)) := by
  have e : (10 : Int) ^ (19 * (a + 1)) = 10 ^ (19 * a) * 10000000000000000000 := by rw [Nat.mul_add, Int.pow_add]; rfl
  rw [e, Int.ediv_ediv_of_nonneg (Int.le_of_lt (Int.pow_pos (by decide)))]
theorem dg_chunk (x : Int) : dg 19 (x % 10000000000000000000) = dg 19 x := by
  have := dg_mod 19 19 x (Nat.le_refl _)
  exact this

/-- What writeChunks leaves. -/
def RetWC (B g off n : Nat) (N : Int) (w : World) (e : Ending) (w' : World) : Prop := e = .returned (.tuple #[]) ∧ ArrB w' g off (dg n N) ∧ OnlyB B g off (off + n) w w'

set_option maxRecDepth 100000 in
set_option maxHeartbeats 2000000 in
theorem writeChunks_any (g off n cap M : Nat) (D : List Int) (va : Value) (la : List Int) (B : Nat) (w : World) (hn : n = 19 * M) (hD : D.length = n) (h1 : n ≤ cap) (h2 : cap ≤ 9223372036854775807)
    (hd : ArrB w g off D) (ha : Ow B w va la) (hl : Lim B64 la) (hg : g < B) (hB : B ≤ w.heap.size) :
    Calls Tryd.prog 92 #[.slice (some ⟨g, off, none⟩) n cap, va] w fun e w' => RetWC B g off n (vb B64 la) w e w' := by
  obtain ⟨N, hN⟩ : ∃ N, N = vb B64 la := ⟨_, rfl⟩
  have HN := Lib.hid hN
  rw [← hN]
  clear hN
  have HNN := Lib.hid hn
  have HD := Lib.hid hD
  have hMn : 19 * (M : Int) = (n : Int) := by omega
  have HMN := Lib.hid hMn
  have hM63 : 19 * (M : Int) ≤ 9223372036854775807 := by omega
  clear hn hD hMn
  go_enter Tryd.func92, Tryd.ntmps92
  go_wp2
  go_loopw [1, 4] (fun a e wr => ∃ (k : Nat) (la' D' : List Int), k ≤ M ∧ e = .int .i64 (19 * (k : Int)) ∧ Ow B wr a la' ∧ Lim B64 la' ∧ Hid (vb B64 la' = N / 10 ^ (19 * (M - k))) ∧ ArrB wr g off D' ∧ Hid (D'.length = n) ∧ Hid (D'.drop (19 * k) = dg (19 * (M - k)) N) ∧ OnlyB B g off (off + n) w wr)
    (fun _ e _ => (intOf e).toNat)
  case atStart => exact ⟨M, la, D, Nat.le_refl _, by rw [HMN.out], ha, hl, by
    show _ = _
    rw [Nat.sub_self, Nat.mul_zero, Int.pow_zero, Int.ediv_one, HN.out], hd, HD, by
    show _ = _
    rw [Nat.sub_self, Nat.mul_zero, ← HNN.out, ← HD.out, List.drop_length]; rfl, OnlyB.refl _ _ _ _ _⟩
  case round =>
    obtain ⟨k, la', D', hk, rfl, hO, hlim, HV, harr, HL, HT, honly⟩ := hrel
    by_cases hk0 : k = 0
    · subst hk0
      have e1 : D' = dg n N := by
        have := HT.out
        rw [Nat.mul_zero, List.drop_zero, Nat.sub_zero, ← HNN.out] at this
        exact this
      have harr2 : ArrB wr g off (dg n N) := by rw [← e1]; exact harr
      clear e1
      go_wp2
      go_end0
      exact ⟨rfl, harr2, honly⟩
    · obtain ⟨j, rfl⟩ : ∃ j, k = j + 1 := ⟨k - 1, by omega⟩
      have hBr : B ≤ wr.heap.size := Nat.le_trans hB honly.size
      have hdl := divLimb_ow B u1 la' 10000000000000000000 wr hO hlim (by decide) (by decide) hBr
      have HDL := Lib.hid hdl
      clear hdl
      go_wp2_with fail
      refine HDL.out.mono ?_
      rintro e w1 ⟨rfl, l1, hO1, hlim1, hv1, hb1⟩
      obtain ⟨x, hx⟩ : ∃ x, x = vb B64 la' % 10000000000000000000 := ⟨_, rfl⟩
      rw [← hx]
      have hx0 : 0 ≤ x := by rw [hx]; exact Int.emod_nonneg _ (by decide)
      have hx1 : x < 10000000000000000000 := by rw [hx]; exact Int.emod_lt_of_pos _ (by decide)
      have HX := Lib.hid hx
      have HV1 := Lib.hid hv1
      clear hx hv1
      go_wp2_with fail
      refine (trim_ow B _ l1 w1 hO1).mono ?_
      rintro e w' ⟨v2, rfl, hO2, rfl⟩
      have harr1 := harr.below hb1 hg
      have honly1 := honly.trans (OnlyB.of_below hb1 hg)
      clear hO hlim harr honly hO1 hb1
      go_wp2_with fail
      obtain ⟨tl, htl⟩ : ∃ tl, tl = dg (19 * (M - (j + 1))) N := ⟨_, rfl⟩
      have HTL := Lib.hid htl
      rw [← htl] at HT
      clear htl
      go_loopw [5, 6] (fun yy ii wr => ∃ (i p : Nat) (y : Int) (D2 : List Int), i ≤ 19 ∧ p + i = 19 * (j + 1) ∧ ii = .int .i64 ((p : Int) - 1) ∧ yy = .int .u64 y ∧ 0 ≤ y ∧ y < 10000000000000000000 ∧ Hid (y = x / 10 ^ i) ∧ ArrB wr g off D2 ∧ Hid (D2.length = n) ∧ Hid (D2.drop p = dg i x ++ tl) ∧ OnlyB B g off (off + n) w wr ∧ Ow B wr v2 (tr l1))
        (fun _ ii _ => ((intOf ii) + 1).toNat)
      case atStart => exact ⟨0, 19 * (j + 1), x, D', by omega, by omega, by go_num, rfl, hx0, hx1, by
        show _ = _
        rw [Int.pow_zero, Int.ediv_one], harr1, HL, HT, honly1, hO2⟩
      case round =>
        clear harr1 HL HT honly1 hO2
        obtain ⟨i, p, y, D2, hi, hpi, rfl, rfl, hy0, hy1, HY, harr, HL, HT, honly, hO⟩ := hrel
        by_cases hi19 : i = 19
        · have hlt : ((p : Int) - 1) < 19 * ((j : Int) + 1) - 19 := by omega
          have hp : p = 19 * j := by omega
          have hpos : D2.drop (19 * j) = dg (19 * (M - j)) N := by
            rw [← hp, HT.out, hi19, HTL.out, show 19 * (M - j) = 19 + 19 * (M - (j + 1)) by omega, dg_add, HX.out, dg_chunk, HV.out]
          have hval : vb B64 (tr l1) = N / 10 ^ (19 * (M - j)) := by
            rw [vb_tr, HV1.out, HV.out, pow_chunk, show M - (j + 1) + 1 = M - j by omega]
          have HPOS := Lib.hid hpos
          have HVAL := Lib.hid hval
          clear hpos hval hi19 hp
          go_wp2
          go_roundw
          case rel => exact ⟨j, tr l1, D2, by omega, by go_num, hO, hlim1.take _, HVAL, harr, HL, HPOS, honly⟩
          case measure => simp [intOf]; omega
        · obtain ⟨p, rfl⟩ : ∃ p', p = p' + 1 := ⟨p - 1, by omega⟩
          have hge : 19 * ((j : Int) + 1) - 19 ≤ (p : Int) := by omega
          have hpn : p < n := by have := HNN.out; omega
          have e0 : (((p + 1 : Nat) : Int) - 1) = (p : Int) := by omega
          have hcell := harr.at' p (by rw [HL.out]; exact hpn)
          have hfr := harr.frozen (off + p)
          have hpl : p < D2.length := by rw [HL.out]; exact hpn
          have hm0 : 0 ≤ y % 10 := by omega
          have hm1 : y % 10 < 10 := by omega
          rw [e0]
          clear e0
          go_wp2
          go_roundw
          case rel =>
            refine ⟨i + 1, p, y / 10, D2.set p (48 + y % 10), by omega, by omega, by go_num, rfl, by omega, by omega, ?_, harr.store p _, ?_, ?_, honly.trans (OnlyB.of_only (Only.store _ _ (by omega) (by omega)) (Nat.le_trans hB honly.size)), ?_⟩
            · show _ = _
              rw [HY.out, ediv_pow10']
            · show _ = _
              rw [List.length_set]; exact HL.out
            · show _ = _
              rw [drop_set_at hpl, HT.out, dg_cons, HY.out, List.cons_append]
            · refine hO.only' (Only.store (lo := off + p) (hi := off + p + 1) _ _ (Nat.le_refl _) (by omega)) ?_
              intro e
              have := hO.block g e
              omega
          case measure => simp [intOf]
end Go.Proofs.YtbieldebkfkpkaaDoor
