/-
  Nat1: Contracts of nat.Of, nat.Cmp, nat.Sub and nat.Add.
  Ref1: Contracts of the reference's Trim, From and Limbs, and of the statements' own helpers SameLimbs and Is.
  RefCmp: Contracts of the reference's Small and Mul. Contracts of the reference's Cmp, and of its DivMod by one digit.
  Add: Contract of nat.Add: the sum of all numbers of a slice of numbers.
  Dist: Contract of nat.distance: the difference of two numbers without its sign, in a new row.
-/
import Derived.Test.YtjmipbljoblnnaaDoorPk6
import Derived.Test.YtjmipbljoblnnaaDoorPk3
import Derived.BigQuiet
import Derived.Deep.QuietTactic

namespace Go.Proofs.YtjmipbljoblnnaaDoor
open Go.RowKit

theorem info_u64 : (Tryd.prog.info? 50).map (fun i => (i.zero, i.size, i.bytes)) = some (some (.int .u64 0), 1, 8) := by kernel_rfl

/-- A function has returned v and turned nothing that was there. -/
def RetV (w : World) (v : Value) (e : Ending) (w' : World) : Prop := e = .returned v ∧ Below w.heap.size w w'

theorem RetV.elim {w : World} {v : Value} {e : Ending} {w' : World} (h : RetV w v e w') : e = .returned v ∧ Below w.heap.size w w' := h

/-- What nat.Sub leaves where the second number is not greater. -/
def RetSub (w : World) (N : Int) (e : Ending) (w' : World) : Prop := ∃ v l, e = .returned (.tuple #[v, .bool true]) ∧ Ow w.heap.size w' v l ∧ Can B64 l ∧ vb B64 l = N ∧ Below w.heap.size w w'
def RetNo (w : World) (e : Ending) (w' : World) : Prop := e = .returned (.tuple #[.slice none 0 0, .bool false]) ∧ Below w.heap.size w w'

theorem Ow.cases {base : Nat} {w : World} {v : Value} {l : List Int} (h : Ow base w v l) : (v = .slice none 0 0 ∧ l = []) ∨ ∃ g cap, v = .slice (some ⟨g, 0, none⟩) l.length cap ∧ base ≤ g ∧ l.length ≤ cap ∧ cap ≤ 9223372036854775807 ∧ Arr w g 0 l := by
  have h' := h
  obtain ⟨h1, h2⟩ := h
  rcases h2 with ⟨rfl, h0⟩ | ⟨g, cap, cur, rfl, hg, hh, hn, hm, hc, ht⟩
  · exact Or.inl ⟨rfl, List.eq_nil_of_length_eq_zero h0⟩
  · exact Or.inr ⟨g, cap, rfl, hg, hn, by simpa [maxLen] using hm, h'.arr.1⟩

theorem can_len_le {l m : List Int} (hl : Can B64 l) (hm : Can B64 m) (h : vb B64 l ≤ vb B64 m) : l.length ≤ m.length := by
  rcases Nat.lt_or_ge m.length l.length with h1 | h1
  · have := can_lt_of_length B64_pos hm.lim hl h1; omega
  · exact h1

end Go.Proofs.YtjmipbljoblnnaaDoor

namespace Go.Proofs.YtjmipbljoblnnaaDoor
open Go.RowKit

set_option maxRecDepth 100000 in
set_option maxHeartbeats 1000000 in
theorem rtrim_any (ao : Option Addr) (n cap : Nat) (l : List Int) (w : World) (hn : n = l.length) (hl : n ≤ cap) (hcap : cap ≤ 9223372036854775807) (h : Rd w ao l) :
    Calls Tryd.prog 48 #[.slice ao n cap] w fun e w' => e = .returned (.slice ao (tlen l) (tlen l)) ∧ w = w' := by
  subst hn
  by_cases h0 : l = []
  · subst h0
    go_enter Tryd.func48, Tryd.ntmps48
    go_wp2
    refine wp_loop_rounds 1 ?_
    rw [rounds_succ]
    go_wp2
    go_ret
    exact ⟨rfl, rfl⟩
  · obtain ⟨b, off, rfl, hc⟩ := h.cases h0
    go_enter Tryd.func48, Tryd.ntmps48
    go_wp2
    go_loop [3] (fun n => ∃ k : Nat, k ≤ l.length ∧ n = .int .i64 k ∧ (∀ j, k ≤ j → j < l.length → l.getD j 0 = 0)) (fun n => (intOf n).toNat)
    case atStart => exact ⟨l.length, Nat.le_refl _, rfl, fun j h1 h2 => by omega⟩
    case round =>
      obtain ⟨k, hk, rfl, hz⟩ := hrel
      have hcell : 0 < k → w.cell? ⟨b, off + (k - 1), none⟩ = some (.int .u64 (l.getD (k-1) 0)) := fun _ => hc _ (by omega)
      clear hc
      have HZ := Lib.hid hz
      clear hz
      go_wp2
      · have hp : 0 < k := by assumption
        have he : (l[k - 1]?.getD 0 == 0) = true := by assumption
        go_round
        case rel =>
          refine ⟨k - 1, by omega, by go_num, ?_⟩
          intro j h1 h2
          by_cases hj : j = k - 1
          · subst hj; rw [List.getD_eq_getElem?_getD]; simpa using he
          · exact HZ.out j (by omega) h2
        case measure => simp [intOf]; omega
      · have hp : 0 < k := by assumption
        have he : (l[k - 1]?.getD 0 == 0) = false := by assumption
        go_ret
        exact ⟨by rw [tlen_eq hk HZ.out (Or.inr (by rw [List.getD_eq_getElem?_getD]; simpa using he))]; rfl, rfl⟩
      · have hp : ¬ 0 < k := by assumption
        go_ret
        exact ⟨by rw [tlen_eq hk HZ.out (Or.inl (by omega))]; rfl, rfl⟩

/-- A function has returned a number in the base b: a slice that reads as digits, no zeros at its end. -/
def RetRd (b : Int) (w : World) (N : Int) (e : Ending) (w' : World) : Prop :=
  ∃ ao n cap l, e = .returned (.slice ao n cap) ∧ n = l.length ∧ n ≤ cap ∧ cap ≤ 9223372036854775807 ∧ Rd w' ao l ∧ Can b l ∧ vb b l = N ∧ Below w.heap.size w w' ∧ ∀ g o, ao = some ⟨g, o, none⟩ → w.heap.size ≤ g

set_option maxRecDepth 100000 in
set_option maxHeartbeats 1000000 in
theorem limbs_any (ao : Option Addr) (n cap : Nat) (l : List Int) (w : World) (hn : n = l.length) (_hl : n ≤ cap) (_hcap : cap ≤ 9223372036854775807) (h : Rd w ao l) (hcan : Can B32 l) (hM : n ≤ MaxW) :
    Calls Tryd.prog 29 #[.slice ao n cap] w fun e w' => RetNum w (vb B32 l) e w' := by
  have HN := Lib.hid hn
  have hlim := hcan.lim
  obtain ⟨hp1, hp2⟩ := prs_spec l
  have hn63 : n + 2 ≤ 9223372036854775807 := by unfold MaxW at hM; omega
  have HP := Lib.hid hp2
  have HPL : Hid ((prs l).length = (n + 1) / 2) := by show _ = _; rw [hp1, ← hn]
  clear hn hp1 hp2
  go_enter Tryd.func29, Tryd.ntmps29
  go_wp2
  go_loopw [3, 4] (fun v i wr => ∃ k : Nat, 2 * k ≤ n + 1 ∧ i = .int .i64 (2 * (k : Int)) ∧ Ow w.heap.size wr v ((prs l).take k) ∧ Below w.heap.size w wr) (fun _ i _ => (n + 2) - (intOf i).toNat)
  case atStart => exact ⟨0, by omega, rfl, Ow.nil _ _, Below.refl _ _⟩
  case round =>
    obtain ⟨k, hk, rfl, hO, hb⟩ := hrel
    by_cases hlt : 2 * k < n
    · have hl0 : l ≠ [] := by intro e; subst e; have := HN.out; simp at this; omega
      obtain ⟨b, off, rfl, hat⟩ := h.cases hl0
      have hk2 : k < (prs l).length := by rw [HPL.out]; omega
      have hlen : ((prs l).take k).length + 1 ≤ MaxW := by rw [List.length_take]; omega
      obtain ⟨x, hxe⟩ : ∃ x, x = l.getD (2 * k) 0 := ⟨_, rfl⟩
      obtain ⟨y, hye⟩ : ∃ y, y = l.getD (2 * k + 1) 0 := ⟨_, rfl⟩
      have hcx : wr.cell? ⟨b, off + 2 * k, none⟩ = some (.int .u64 x) := by rw [hxe]; exact hat.below hb (2 * k) (by rw [← HN.out]; exact hlt)
      have bx : 0 ≤ x ∧ x < 4294967296 := by rw [hxe]; exact hlim.getD B32_pos _
      have bY : 0 ≤ y ∧ y < 4294967296 := by rw [hye]; exact hlim.getD B32_pos _
      have hst : (prs l).take (k + 1) = (prs l).take k ++ [x + y * 4294967296] := by rw [take_succ_getD hk2, HP.out k, hxe, hye]
      have HST := Lib.hid hst
      have XE := Lib.hid hxe
      have YE := Lib.hid hye
      clear hxe hst
      obtain ⟨bx0, bx1⟩ := bx
      obtain ⟨by0, by1⟩ := bY
      by_cases h2 : 2 * k + 1 < n
      · have hcy : wr.cell? ⟨b, off + (2 * k + 1), none⟩ = some (.int .u64 y) := by rw [hye]; exact hat.below hb (2 * k + 1) (by rw [← HN.out]; exact h2)
        clear hye hat h
        go_wp2_with (at_builtin; refine wpList_append_words _ rfl _ _ 28 rfl Tryd.underlying28 info_u64 w.heap.size u3 ((prs l).take k) rfl (hO.alloc _) ⟨wr.heap.size, 0, none⟩ 1 1 [x + y * 4294967296] rfl rfl (news1 _ _ _) hlen (by have := hb.size; simp; omega) ?_; intro v' w1 hO1 hb1)
        go_roundw
        case rel => exact ⟨k + 1, by omega, by go_num, by rw [HST.out]; assumption, (hb.alloc hb.size _).trans (by assumption)⟩
        case measure => simp [intOf]; omega
      · have hy0 : y = 0 := by rw [hye, List.getD_eq_getElem?_getD, List.getElem?_eq_none (by rw [← HN.out]; omega)]; rfl
        rw [hy0, Int.zero_mul, Int.add_zero] at HST
        clear hye hat h hy0
        go_wp2_with (at_builtin; refine wpList_append_words _ rfl _ _ 28 rfl Tryd.underlying28 info_u64 w.heap.size u3 ((prs l).take k) rfl (hO.alloc _) ⟨wr.heap.size, 0, none⟩ 1 1 [x] rfl rfl (news1 _ _ _) hlen (by have := hb.size; simp; omega) ?_; intro v' w1 hO1 hb1)
        go_roundw
        case rel => exact ⟨k + 1, by omega, by go_num, by rw [HST.out]; assumption, (hb.alloc hb.size _).trans (by assumption)⟩
        case measure => simp [intOf]; omega
    · have he : (prs l).take k = prs l := List.take_of_length_le (by rw [HPL.out]; omega)
      rw [he] at hO
      go_wp2
      go_ret
      exact ⟨_, _, rfl, hO, prs_can hcan, vb_prs l, hb⟩

end Go.Proofs.YtjmipbljoblnnaaDoor

namespace Go.Proofs.YtjmipbljoblnnaaDoor
open Go.RowKit


theorem len_room32 {l : List Int} {m : Nat} (hc : Can B32 l) (h : vb B32 l < B32 ^ m) : l.length ≤ m := by
  by_cases hl : l = []
  · subst hl; simp
  · have h1 := hc.ge B32_pos hl
    rcases Nat.lt_or_ge m l.length with h2 | h2
    · have := pow_le_pow B32_pos (show m ≤ l.length - 1 by omega)
      omega
    · exact h2

set_option maxRecDepth 100000 in
theorem small_any (v : Int) (w : World) (h0 : 0 ≤ v) (h1 : v ≤ 18446744073709551615) :
    Calls Tryd.prog 28 #[.int .u64 v] w fun e w' => RetRd B32 w v e w' := by
  have hlim : Lim B32 [v % 4294967296, v / 4294967296] := Lim.cons (by omega) (by unfold B32; omega) (Lim.cons (by omega) (by unfold B32; omega) (Lim.nil _))
  have hvb : vb B32 [v % 4294967296, v / 4294967296] = v := by simp only [vb_cons, vb_nil]; unfold B32; omega
  have htl := tlen_le [v % 4294967296, v / 4294967296]
  have HL := Lib.hid hlim
  have HV := Lib.hid hvb
  have HT := Lib.hid htl
  clear hlim hvb htl
  go_enter Tryd.func28, Tryd.ntmps28
  go_wp2_with (go_at_call 48; refine (rtrim_any (some ⟨w.heap.size, 0, none⟩) 2 2 [v % 4294967296, v / 4294967296] _ rfl (by decide) (by decide) (Rd.of_at fun j hj => by have := news2 w (v % 4294967296) (v / 4294967296) 50 j hj; rwa [addr_add_none] at this)).mono ?_; rintro e w' ⟨rfl, rfl⟩)
  go_ret
  refine ⟨_, _, _, tr [v % 4294967296, v / 4294967296], rfl, (tr_length _).symm, Nat.le_refl _, by have := HT.out; simp at this; omega, ?_, can_tr HL.out, by rw [vb_tr, HV.out], (Below.refl _ _).alloc (Nat.le_refl _) _, ?_⟩
  · refine Rd.take (Rd.of_at fun j hj => ?_) _
    have := news2 w (v % 4294967296) (v / 4294967296) 50 j hj
    rwa [addr_add_none] at this
  · intro g o e
    cases e
    exact Nat.le_refl _

/-- One digit product added, the carry handed on. -/
theorem mul_step {m : List Int} {p : Nat} {c x y v T : Int} (hp : p < m.length) (hv : v = m.getD p 0 + x * y + c) (h : vb B32 m + B32 ^ p * c = T) :
    vb B32 (m.set p (v % 4294967296)) + B32 ^ (p + 1) * (v / 4294967296) = T + B32 ^ p * (x * y) := by
  rw [vb_set _ _ _ _ hp, Int.pow_succ, Int.mul_assoc, Int.add_assoc, ← Int.mul_add]
  have e : v % 4294967296 - m.getD p 0 + B32 * (v / 4294967296) = c + x * y := by unfold B32; omega
  rw [e, Int.mul_add]
  omega

theorem mul_bound {x y : Int} (hx0 : 0 ≤ x) (hx1 : x ≤ 4294967295) (hy0 : 0 ≤ y) (hy1 : y ≤ 4294967295) : 0 ≤ x * y ∧ x * y ≤ 18446744065119617025 := by
  refine ⟨Int.mul_nonneg hx0 hy0, ?_⟩
  have := Int.mul_le_mul hx1 hy1 hy0 (by decide)
  omega

set_option maxRecDepth 100000 in
set_option maxHeartbeats 2000000 in
theorem rmul_any (ax : Option Addr) (na ca : Nat) (a : List Int) (ay : Option Addr) (nb' cb : Nat) (b : List Int) (w : World) (hna : na = a.length) (hnb : nb' = b.length) (h1 : na ≤ ca) (h2 : ca ≤ 9223372036854775807) (h3 : nb' ≤ cb) (h4 : cb ≤ 9223372036854775807)
    (hx : Rd w ax a) (hy : Rd w ay b) (hla : Lim B32 a) (hlb : Lim B32 b) (hM : na + nb' ≤ MaxW) :
    Calls Tryd.prog 35 #[.slice ax na ca, .slice ay nb' cb] w fun e w' => RetRd B32 w (vb B32 a * vb B32 b) e w' := by
  have HA := Lib.hid hna
  have HB := Lib.hid hnb
  clear hna hnb
  have hM63 : na + nb' ≤ 9223372036854775807 := by unfold MaxW at hM; omega
  obtain ⟨N, hN⟩ : ∃ N, N = na + nb' := ⟨_, rfl⟩
  have hNI : (na : Int) + (nb' : Int) = (N : Int) := by omega
  rw [← hN] at hM hM63
  have HN := Lib.hid hN
  have hNa : na ≤ N := by omega
  clear hN
  go_enter Tryd.func35, Tryd.ntmps35
  go_wp2_with (at_make; refine wpList_make_words w rfl (.tmp 14) (.tmp 14) 29 rfl Tryd.underlying29 info_u64 _ _ N rfl rfl (by omega) (by omega) hM ?_; intro w1 hw1 hb1 hs1)
  have harr1 := hw1.arr.1
  go_loopw [6] (fun ii wr => ∃ (i : Nat) (m : List Int), i ≤ na ∧ ii = .int .i64 i ∧ Hid (m.length = N) ∧ Lim B32 m ∧ Arr wr w.heap.size 0 m ∧ Only w.heap.size 0 N w1 wr ∧ Hid (∀ j, i + nb' ≤ j → m.getD j 0 = 0) ∧ Hid (vb B32 m = vb B32 (a.take i) * vb B32 b))
    (fun ii _ => na - (intOf ii).toNat)
  case atStart => exact ⟨0, List.replicate N 0, Nat.zero_le _, rfl, by show _ = _; simp, Lim.replicate B32_pos N, harr1, Only.refl _ _ _ _, fun j _ => (by rw [List.getD_eq_getElem?_getD, List.getElem?_replicate]; split <;> rfl), by show _ = _; rw [vb_replicate]; simp⟩
  case round =>
    obtain ⟨i, m, hi, rfl, HL, hlim, harr, honly, HZ, HV⟩ := hrel
    by_cases hlt : i < na
    · have hbw : Below w.heap.size w wr := hb1.trans (honly.below (Nat.le_refl _) (by omega))
      obtain ⟨b1, o1, rfl, hat⟩ := hx.cases (by intro e; subst e; have := HA.out; simp at this; omega)
      obtain ⟨x, hxe⟩ : ∃ x, x = a.getD i 0 := ⟨_, rfl⟩
      have bx : 0 ≤ x ∧ x < 4294967296 := by rw [hxe]; exact hla.getD B32_pos _
      obtain ⟨bx0, bx1⟩ := bx
      have hcx : w.cell? ⟨b1, o1 + i, none⟩ = some (.int .u64 x) := by rw [hxe]; exact hat i (by rw [← HA.out]; exact hlt)
      have HCX := Lib.hid hcx
      have HXE := Lib.hid hxe
      clear hcx hxe hat hbw
      go_wp2_with fail
      go_loopw [7, 8] (fun cc kk wr => ∃ (k : Nat) (c : Int) (m : List Int), k ≤ nb' ∧ kk = .int .i64 k ∧ cc = .int .u64 c ∧ 0 ≤ c ∧ c ≤ 4294967295 ∧ Hid (m.length = N) ∧ Lim B32 m ∧ Arr wr w.heap.size 0 m ∧ Only w.heap.size 0 N w1 wr ∧ Hid (∀ j, i + nb' ≤ j → m.getD j 0 = 0) ∧ Hid (vb B32 m + B32 ^ (i + k) * c = vb B32 (a.take i) * vb B32 b + B32 ^ i * (x * vb B32 (b.take k))))
        (fun _ kk _ => nb' - (intOf kk).toNat)
      case atStart => exact ⟨0, 0, m, Nat.zero_le _, rfl, rfl, Int.le_refl _, by decide, HL, hlim, harr, honly, HZ, by show _ = _; rw [HV.out]; simp⟩
      case round =>
        clear HL hlim harr honly HZ HV
        obtain ⟨k, c, m, hk, rfl, rfl, hc0, hc1, HL, hlim, harr, honly, HZ, HV⟩ := hrel
        have hbw : Below w.heap.size w wr := hb1.trans (honly.below (Nat.le_refl _) (by omega))
        by_cases hlk : k < nb'
        · obtain ⟨b2, o2, rfl, hat2⟩ := hy.cases (by intro e; subst e; have := HB.out; simp at this; omega)
          obtain ⟨y, hye⟩ : ∃ y, y = b.getD k 0 := ⟨_, rfl⟩
          have bY : 0 ≤ y ∧ y < 4294967296 := by rw [hye]; exact hlb.getD B32_pos _
          obtain ⟨by0, by1⟩ := bY
          have hcy : wr.cell? ⟨b2, o2 + k, none⟩ = some (.int .u64 y) := by rw [hye]; exact hat2.below hbw k (by rw [← HB.out]; exact hlk)
          have hcx : wr.cell? ⟨b1, o1 + i, none⟩ = some (.int .u64 x) := by
            rw [hbw.cell (p := ⟨b1, o1 + i, none⟩) (World.block_lt_of_cell? _ _ HCX.out)]; exact HCX.out
          obtain ⟨p, hp⟩ : ∃ p, i + k = p := ⟨_, rfl⟩
          have hpN : p < N := by omega
          have hpI : (i : Int) + (k : Int) = (p : Int) := by omega
          obtain ⟨o, hoe⟩ : ∃ o, o = m.getD p 0 := ⟨_, rfl⟩
          have bo : 0 ≤ o ∧ o < 4294967296 := by rw [hoe]; exact hlim.getD B32_pos _
          obtain ⟨bo0, bo1⟩ := bo
          have hco : wr.cell? ⟨w.heap.size, p, none⟩ = some (.int .u64 o) := by
            rw [hoe]
            have := harr.at' p (by rw [HL.out]; exact hpN)
            rwa [Nat.zero_add] at this
          have hfr := harr.frozen p
          have hxy := mul_bound bx0 (by omega : x ≤ 4294967295) by0 (by omega : y ≤ 4294967295)
          obtain ⟨q, hq⟩ : ∃ q, x * y = q := ⟨_, rfl⟩
          rw [hq] at hxy
          obtain ⟨hq0, hq1⟩ := hxy
          obtain ⟨v, hv⟩ : ∃ v, v = o + q + c := ⟨_, rfl⟩
          have hvw : IntKind.u64.wrap (IntKind.u64.wrap (o + IntKind.u64.wrap q) + c) = v := by rw [IntKind.wrap_u64, IntKind.wrap_u64, IntKind.wrap_u64]; omega
          have hV' : vb B32 m + B32 ^ p * c = vb B32 (a.take i) * vb B32 b + B32 ^ i * (x * vb B32 (b.take k)) := by rw [← hp]; exact HV.out
          have hst := mul_step (m := m) (p := p) (c := c) (x := x) (y := y) (v := v) (by rw [HL.out]; exact hpN) (by rw [hq, ← hoe]; exact hv) hV'
          have hv0 : 0 ≤ v := by omega
          have hv1 : v ≤ 18446744073709551615 := by omega
          have HST := Lib.hid hst
          have HYE := Lib.hid hye
          have HP := Lib.hid hp
          have HVE := Lib.hid hv
          clear hst hye hoe hat2 hv hV'
          go_wp2_with fail
          go_quiet (fail)
          go_wp2_with fail
          go_roundw
          case rel =>
            have harr2 : Arr (wr.drewN nq) w.heap.size 0 m := harr
            have hon2 : Only w.heap.size 0 N wr (wr.drewN nq) := Only.of_below (bdn (Below.refl _ _) nq)
            have h := HST.out
            rw [HVE.out] at h
            refine ⟨k + 1, (o + q + c) / 4294967296, m.set p ((o + q + c) % 4294967296), by omega, by go_num, rfl, by omega, by omega, ?_, hlim.set p (by omega) (by unfold B32; omega), ?_, (honly.trans hon2).trans (Only.store _ _ (by omega) (by omega)), ?_, ?_⟩
            · show _ = _
              rw [List.length_set]; exact HL.out
            · have := harr2.store p ((o + q + c) % 4294967296)
              rwa [Nat.zero_add] at this
            · intro j hj
              rw [getD_set_other m (by omega)]
              exact HZ.out j hj
            · show _ = _
              rw [show i + (k + 1) = p + 1 by omega, h, vb_take_succ B32 (by rw [← HB.out]; exact hlk), ← HYE.out, Int.mul_add x, Int.mul_add (B32 ^ i), ← hp, Int.pow_add, Int.mul_left_comm x (B32 ^ k) y, ← Int.mul_assoc (B32 ^ i) (B32 ^ k) (x * y)]
              omega
          case measure => simp [intOf]; omega
        · have hkn : k = nb' := by omega
          obtain ⟨p, hp⟩ : ∃ p, i + nb' = p := ⟨_, rfl⟩
          have HNo := HN.out
          have hpN : p < N := by omega
          have hpI : (i : Int) + (nb' : Int) = (p : Int) := by omega
          have hfr := harr.frozen p
          have hv : vb B32 m + B32 ^ p * c = vb B32 (a.take (i + 1)) * vb B32 b := by
            have h := HV.out
            rw [hkn, List.take_of_length_le (l := b) (by rw [← HB.out]; exact Nat.le_refl _), hp] at h
            rw [h, vb_take_succ B32 (by rw [← HA.out]; exact hlt), ← HXE.out, Int.add_mul, Int.mul_assoc]
          have hz : m.getD p 0 = 0 := HZ.out p (by omega)
          have hco : wr.cell? ⟨w.heap.size, p, none⟩ = some (.int .u64 0) := by
            have := harr.at' p (by rw [HL.out]; exact hpN)
            rwa [Nat.zero_add, hz] at this
          have hst : vb B32 (m.set p c) = vb B32 (a.take (i + 1)) * vb B32 b := by
            rw [vb_set B32 m p c (by rw [HL.out]; exact hpN), hz, Int.sub_zero]; exact hv
          have HST := Lib.hid hst
          have HP := Lib.hid hp
          clear hst hv hz HV hkn HNo hp
          go_wp2_with fail
          go_roundw
          case rel =>
            have hp' := HP.out
            refine ⟨i + 1, m.set p c, by omega, by go_num, ?_, hlim.set p hc0 (by unfold B32; omega), ?_, honly.trans (Only.store _ _ (by omega) (by omega)), ?_, HST.out⟩
            · show _ = _
              rw [List.length_set]; exact HL.out
            · have := harr.store p c
              rwa [Nat.zero_add] at this
            · intro j hj
              rw [getD_set_other m (by omega)]
              exact HZ.out j (by omega)
          case measure => simp [intOf]; omega
    · have hin : i = na := by omega
      have hbw : Below w.heap.size w wr := hb1.trans (honly.below (Nat.le_refl _) (by omega))
      have hv : vb B32 m = vb B32 a * vb B32 b := by
        have h := HV.out
        rwa [hin, List.take_of_length_le (l := a) (by rw [← HA.out]; exact Nat.le_refl _)] at h
      have hv2 := Lib.hid hv
      have hat : Rd wr (some ⟨w.heap.size, 0, none⟩) m := Rd.of_at harr.at'
      clear hv HV hin
      go_wp2_with (go_at_call 48; refine (rtrim_any (some ⟨w.heap.size, 0, none⟩) N N m _ HL.out.symm (Nat.le_refl _) hM63 hat).mono ?_; rintro e w' ⟨rfl, rfl⟩)
      go_ret
      have htl := tlen_le m
      exact ⟨_, tlen m, tlen m, tr m, rfl, (tr_length _).symm, Nat.le_refl _, by have := HL.out; omega, hat.take _, can_tr hlim, by rw [vb_tr]; exact hv2.out, hbw, fun g o e => by cases e; exact Nat.le_refl _⟩


set_option maxRecDepth 100000 in
set_option maxHeartbeats 1000000 in
theorem rcmp_any (ax : Option Addr) (nx cx : Nat) (lx : List Int) (ay : Option Addr) (ny cy : Nat) (ly : List Int) (w : World) (hnx : nx = lx.length) (hny : ny = ly.length) (h1 : nx ≤ cx) (h2 : cx ≤ 9223372036854775807) (h3 : ny ≤ cy) (_h4 : cy ≤ 9223372036854775807)
    (rx : Rd w ax lx) (ry : Rd w ay ly) (canx : Can B32 lx) (cany : Can B32 ly) :
    Calls Tryd.prog 32 #[.slice ax nx cx, .slice ay ny cy] w fun e w' => RetV w (.int .i64 (cmpI (vb B32 lx) (vb B32 ly))) e w' := by
  have lenx := Lib.hid hnx
  have leny := Lib.hid hny
  clear hnx hny
  rcases Nat.lt_trichotomy nx ny with hlt | heq | hgt
  · have hv : cmpI (vb B32 lx) (vb B32 ly) = -1 := cmpI_lt (can_lt_of_length B32_pos canx.lim cany (by rw [← lenx.out, ← leny.out]; exact hlt))
    have hne : ((nx : Int) == (ny : Int)) = false := by simp; omega
    have hlI : (nx : Int) < (ny : Int) := by omega
    rw [hv]
    clear hv
    go_enter Tryd.func32, Tryd.ntmps32
    go_wp2
    go_ret
    exact ⟨rfl, Below.refl _ _⟩
  · subst heq
    go_enter Tryd.func32, Tryd.ntmps32
    go_wp2
    go_loopw [5] (fun i wr => ∃ k : Nat, k ≤ nx ∧ i = .int .i64 ((k : Int) - 1) ∧ Below w.heap.size w wr ∧ Hid (∀ j, k ≤ j → j < nx → lx.getD j 0 = ly.getD j 0)) (fun i _ => ((intOf i) + 1).toNat)
    case atStart => exact ⟨nx, Nat.le_refl _, rfl, Below.refl _ _, fun j a b => by omega⟩
    case round =>
      obtain ⟨k, hk, rfl, hb, HE⟩ := hrel
      by_cases hk0 : k = 0
      · subst hk0
        have hv : cmpI (vb B32 lx) (vb B32 ly) = 0 := by
          refine cmpI_eq ?_
          have : lx = ly := by
            apply List.ext_getElem?
            intro j
            by_cases hj : j < nx
            · have := HE.out j (Nat.zero_le _) hj
              rw [List.getElem?_eq_getElem (by rw [← lenx.out]; exact hj), List.getElem?_eq_getElem (by rw [← leny.out]; exact hj)]
              rw [List.getD_eq_getElem?_getD, List.getD_eq_getElem?_getD, List.getElem?_eq_getElem (by rw [← lenx.out]; exact hj), List.getElem?_eq_getElem (by rw [← leny.out]; exact hj)] at this
              simpa using this
            · rw [List.getElem?_eq_none (by rw [← lenx.out]; omega), List.getElem?_eq_none (by rw [← leny.out]; omega)]
          rw [this]
        have HV := Lib.hid hv
        clear hv
        go_wp2
        go_ret
        exact ⟨by rw [HV.out]; rfl, hb⟩
      · obtain ⟨m, rfl⟩ : ∃ m, k = m + 1 := ⟨k - 1, by omega⟩
        have hm : m < nx := by omega
        obtain ⟨x, hxe⟩ : ∃ x, x = lx.getD m 0 := ⟨_, rfl⟩
        obtain ⟨y, hye⟩ : ∃ y, y = ly.getD m 0 := ⟨_, rfl⟩
        have nex : lx ≠ [] := by intro e; subst e; have := lenx.out; simp at this; omega
        have ney : ly ≠ [] := by intro e; subst e; have := leny.out; simp at this; omega
        obtain ⟨bx, ox, rfl, atx⟩ := rx.cases nex
        obtain ⟨bY, oY, rfl, aty⟩ := ry.cases ney
        have hcx : wr.cell? ⟨bx, ox + m, none⟩ = some (.int .u64 x) := by rw [hxe]; exact atx.below hb m (by rw [← lenx.out]; exact hm)
        have hcy : wr.cell? ⟨bY, oY + m, none⟩ = some (.int .u64 y) := by rw [hye]; exact aty.below hb m (by rw [← leny.out]; exact hm)
        have e0 : (((m + 1 : Nat) : Int) - 1) = (m : Int) := by omega
        rw [e0]
        have XE := Lib.hid hxe
        have YE := Lib.hid hye
        clear hxe hye e0
        have HE' : ∀ j, m < j → j < lx.length → lx.getD j 0 = ly.getD j 0 := fun j a b => HE.out j (by omega) (by rw [lenx.out]; exact b)
        have hmx : m < lx.length := by rw [← lenx.out]; exact hm
        have hl2 : lx.length = ly.length := by rw [← lenx.out, ← leny.out]
        rcases Int.lt_trichotomy x y with hlt | heq | hgt
        · have hv : cmpI (vb B32 lx) (vb B32 ly) = -1 := cmpI_lt (lt_of_digit B32_pos canx.lim cany.lim hl2 hmx HE' (by rw [← XE.out, ← YE.out]; exact hlt))
          have HV := Lib.hid hv
          clear hv HE' hmx hl2
          have hd : decide (x < y) = true := by simpa using hlt
          go_wp2
          go_quiet (fail)
          go_wp2
          go_ret
          exact ⟨by rw [HV.out]; rfl, bdn hb _⟩
        · subst heq
          clear HE' hmx hl2
          have hd : decide (x < x) = false := by simp
          go_wp2
          go_quiet (fail)
          go_wp2
          go_quiet (fail)
          go_wp2
          go_roundw
          case rel =>
            refine ⟨m, by omega, by go_num, bdn hb _, ?_⟩
            intro j h1 h2
            by_cases hj : j = m
            · subst hj; rw [← XE.out, ← YE.out]
            · exact HE.out j (by omega) h2
          case measure => simp [intOf]
        · have hv : cmpI (vb B32 lx) (vb B32 ly) = 1 := cmpI_gt (lt_of_digit B32_pos cany.lim canx.lim hl2.symm (by rw [← hl2]; exact hmx) (fun j a b => (HE' j a (by rw [hl2]; exact b)).symm) (by rw [← XE.out, ← YE.out]; exact hgt))
          have HV := Lib.hid hv
          clear hv HE' hmx hl2
          have hd : decide (x < y) = false := by simp; omega
          have hd2 : decide (y < x) = true := by simpa using hgt
          go_wp2
          go_quiet (fail)
          go_wp2
          go_quiet (fail)
          go_wp2
          go_ret
          exact ⟨by rw [HV.out]; rfl, bdn (bdn hb _) _⟩
  · have hv : cmpI (vb B32 lx) (vb B32 ly) = 1 := cmpI_gt (can_lt_of_length B32_pos cany.lim canx (by rw [← lenx.out, ← leny.out]; exact hgt))
    have hne : ((nx : Int) == (ny : Int)) = false := by simp; omega
    have hlI : ¬ (nx : Int) < (ny : Int) := by omega
    rw [hv]
    clear hv
    go_enter Tryd.func32, Tryd.ntmps32
    go_wp2
    go_ret
    exact ⟨rfl, Below.refl _ _⟩

theorem dl_step32 {l m : List Int} {k : Nat} {r d q x : Int} (hk : k < l.length) (hlm : m.length = l.length) (h : vb B32 (m.drop (k + 1)) * d + r = vb B32 (l.drop (k + 1))) (hx : x = l.getD k 0)
    (hq : q = (r * 4294967296 + x) / d) : vb B32 ((m.set k q).drop k) * d + (r * 4294967296 + x) % d = vb B32 (l.drop k) := by
  have hkm : k < (m.set k q).length := by rw [List.length_set, hlm]; exact hk
  rw [vb_drop B32 hk, vb_drop B32 hkm, getD_set_same (by rw [hlm]; exact hk), ← hx, ← h]
  have e : (m.set k q).drop (k + 1) = m.drop (k + 1) := by
    apply List.ext_getElem?
    intro j
    rw [List.getElem?_drop, List.getElem?_drop, List.getElem?_set, if_neg (by omega)]
  rw [e]
  have := Int.mul_ediv_add_emod (r * 4294967296 + x) d
  rw [← hq, Int.mul_comm d q] at this
  have e2 : (q + B32 * vb B32 (m.drop (k + 1))) * d = q * d + B32 * (vb B32 (m.drop (k + 1)) * d) := by rw [Int.add_mul, Int.mul_assoc]
  rw [e2]
  unfold B32 at *
  omega

/-- A slice that reads as digits of base 2^32. -/
def RdD (w : World) (v : Value) (l : List Int) : Prop := ∃ a c, v = .slice a l.length c ∧ l.length ≤ c ∧ c ≤ 9223372036854775807 ∧ Rd w a l ∧ Can B32 l
theorem RdD.below {w w' : World} {v : Value} {l : List Int} (h : RdD w v l) (hb : Below w.heap.size w w') : RdD w' v l := by
  obtain ⟨a, c, rfl, h1, h2, h3, h4⟩ := h
  exact ⟨a, c, rfl, h1, h2, h3.below hb, h4⟩
/-- What the reference's DivMod returns. -/
def RetD2 (w : World) (Q R : Int) (e : Ending) (w' : World) : Prop :=
  ∃ aq nq cq lq ar nr cr lr, e = .returned (.tuple #[.slice aq nq cq, .slice ar nr cr]) ∧ RdD w' (.slice aq nq cq) lq ∧ vb B32 lq = Q ∧ RdD w' (.slice ar nr cr) lr ∧ vb B32 lr = R ∧ Below w.heap.size w w'

set_option maxRecDepth 100000 in
set_option maxHeartbeats 2000000 in
theorem rdiv1_any (aa : Option Addr) (na ca : Nat) (la : List Int) (b2 o2 cb : Nat) (d : Int) (w : World) (hna : na = la.length) (h1 : na ≤ ca) (h2 : ca ≤ 9223372036854775807) (h3 : 1 ≤ cb) (h4 : cb ≤ 9223372036854775807)
    (ha : Rd w aa la) (hla : Can B32 la) (hat : At w b2 o2 [d]) (hd0 : 0 < d) (hd1 : d ≤ 4294967295) (hM : na ≤ MaxW) :
    Calls Tryd.prog 42 #[.slice aa na ca, .slice (some ⟨b2, o2, none⟩) 1 cb] w fun e w' => RetD2 w (vb B32 la / d) (vb B32 la % d) e w' := by
  have hcand : Can B32 [d] := ⟨Lim.cons (by omega) (by unfold B32; omega) (Lim.nil _), by simp [tlen]; omega⟩
  have hvd : vb B32 [d] = d := by simp [vb_cons]
  have hC := rcmp_any aa na ca la (some ⟨b2, o2, none⟩) 1 cb [d] w hna rfl h1 h2 h3 h4 ha (Rd.of_at hat) hla hcand
  rw [hvd] at hC
  have hn0 := vb_nonneg B32_pos hla.lim
  rcases Int.lt_or_le (vb B32 la) d with hlt | hge
  · rw [cmpI_lt hlt] at hC
    have HC := Lib.hid hC
    have hq : vb B32 la / d = 0 := Int.ediv_eq_zero_of_lt hn0 hlt
    have hr : vb B32 la % d = vb B32 la := Int.emod_eq_of_lt hn0 hlt
    have HQ := Lib.hid hq
    have HR := Lib.hid hr
    have HN := Lib.hid hna
    clear hC hq hr hna hlt
    go_enter Tryd.func42, Tryd.ntmps42
    go_wp2_with fail
    refine HC.out.mono ?_
    rintro e w1 ⟨rfl, hb1⟩
    go_wp2_with fail
    go_ret2
    exact ⟨none, 0, 0, [], aa, na, ca, la, rfl, ⟨none, 0, rfl, Nat.le_refl _, by decide, Rd.nil _ _, Can.nil _⟩, by rw [HQ.out]; rfl, ⟨aa, ca, by rw [HN.out], by rw [← HN.out]; exact h1, h2, ha.below hb1, hla⟩, by rw [HR.out], hb1⟩
  · obtain ⟨c, hc⟩ : ∃ c, c = cmpI (vb B32 la) d := ⟨_, rfl⟩
    have hcs : ¬ c < 0 := by
      rw [hc]
      rcases Int.lt_or_eq_of_le hge with h | h
      · rw [cmpI_gt h]; decide
      · rw [cmpI_eq h.symm]; decide
    rw [← hc] at hC
    have HC := Lib.hid hC
    have HN := Lib.hid hna
    clear hC hc hna
    have hM63 : na ≤ 17592186044416 := hM
    go_enter Tryd.func42, Tryd.ntmps42
    go_wp2_with fail
    refine HC.out.mono ?_
    rintro e w1 ⟨rfl, hb1⟩
    go_wp2_with (at_make; refine wpList_make_words w1 rfl (.tmp 33) (.tmp 33) 29 rfl Tryd.underlying29 info_u64 _ _ na rfl rfl rfl rfl hM ?_; intro w2 hw2 hb2 hs2)
    have hbw2 : Below w.heap.size w w2 := hb1.trans (hb2.mono hb1.size)
    have hs1 := hb1.size
    go_wp2_with fail
    go_loopw [7, 8] (fun rr i wr => ∃ (k : Nat) (r : Int) (m : List Int), k ≤ na ∧ i = .int .i64 ((k : Int) - 1) ∧ rr = .int .u64 r ∧ 0 ≤ r ∧ r < d ∧ Hid (m.length = na) ∧ Lim B32 m ∧ Arr wr w1.heap.size 0 m ∧ Only w1.heap.size 0 na w2 wr ∧ Hid (vb B32 (m.drop k) * d + r = vb B32 (la.drop k)))
      (fun _ i _ => ((intOf i) + 1).toNat)
    case atStart => exact ⟨na, 0, List.replicate na 0, Nat.le_refl _, rfl, rfl, Int.le_refl _, hd0, by show _ = _; simp, Lim.replicate B32_pos na, hw2.arr.1, Only.refl _ _ _ _, by
      show _ = _
      rw [List.drop_of_length_le (by simp), List.drop_of_length_le (by rw [← HN.out]; exact Nat.le_refl _)]; simp⟩
    case round =>
      obtain ⟨k, r, m, hk, rfl, rfl, hr0, hr1, HM, hlim, harr, honly, HV⟩ := hrel
      have hbr : Below w.heap.size w wr := hbw2.trans (honly.below hs1 hbw2.size)
      by_cases hk0 : k = 0
      · subst hk0
        have hv : vb B32 m * d + r = vb B32 la := HV.out
        have hdiv : vb B32 la / d = vb B32 m := by
          have e : vb B32 la = r + d * vb B32 m := by rw [Int.mul_comm]; omega
          rw [e, Int.add_mul_ediv_left _ _ (by omega), Int.ediv_eq_zero_of_lt hr0 hr1]; omega
        have hmod : vb B32 la % d = r := by
          have e : vb B32 la = r + d * vb B32 m := by rw [Int.mul_comm]; omega
          rw [e, Int.add_mul_emod_self_left, Int.emod_eq_of_lt hr0 hr1]
        have HDI := Lib.hid hdiv
        have HMO := Lib.hid hmod
        clear hv hdiv hmod
        have htm := tlen_le m
        go_wp2_with fail
        refine (rtrim_any _ na na m wr HM.out.symm (Nat.le_refl _) (by omega) (Rd.of_at harr.at')).mono ?_
        rintro e w' ⟨rfl, rfl⟩
        go_wp2_with fail
        refine (small_any r wr hr0 (by omega)).mono ?_
        rintro e w3 ⟨ar, nr, cr, lr, rfl, hnr, hr2, hr3, hr4, hr5, hr6, hb3, -⟩
        have HNR := Lib.hid hnr
        clear hnr
        go_wp2_with fail
        go_ret2
        rw [HM.out] at htm
        exact ⟨some ⟨w1.heap.size, 0, none⟩, tlen m, tlen m, tr m, ar, nr, cr, lr, rfl, ⟨some ⟨w1.heap.size, 0, none⟩, tlen m, by rw [tr_length], by rw [tr_length]; exact Nat.le_refl _, by omega, (Rd.of_at (harr.at'.take _)).below hb3, can_tr hlim⟩, by rw [vb_tr, HDI.out], ⟨ar, cr, by rw [HNR.out], by rw [← HNR.out]; exact hr2, hr3, hr4, hr5⟩, by rw [hr6, HMO.out], hbr.trans (hb3.mono hbr.size)⟩
      · obtain ⟨j, rfl⟩ : ∃ j, k = j + 1 := ⟨k - 1, by omega⟩
        have hj : j < na := by omega
        obtain ⟨ba, oa, rfl, hata⟩ := ha.cases (by intro e; subst e; have := HN.out; simp at this; omega)
        obtain ⟨x, hxe⟩ : ∃ x, x = la.getD j 0 := ⟨_, rfl⟩
        have hcx : wr.cell? ⟨ba, oa + j, none⟩ = some (.int .u64 x) := by rw [hxe]; exact hata.below hbr j (by rw [← HN.out]; exact hj)
        have hcd : wr.cell? ⟨b2, o2, none⟩ = some (.int .u64 d) := by have := hat.below hbr 0 (by simp); simpa using this
        have hcq := harr.at' j (by rw [HM.out]; exact hj)
        have hfr := harr.frozen j
        rw [Nat.zero_add] at hcq
        have bx : 0 ≤ x ∧ x < B32 := by rw [hxe]; exact hla.lim.getD B32_pos j
        have bx0 : 0 ≤ x := bx.1
        have bx1 : x ≤ 4294967295 := by have := bx.2; unfold B32 at this; omega
        have e0 : (((j + 1 : Nat) : Int) - 1) = (j : Int) := by omega
        rw [e0]
        have hT : r * 4294967296 + x ≤ 18446744073709551615 := by omega
        have hrm : 0 ≤ r * 4294967296 := by omega
        obtain ⟨T, hTe⟩ : ∃ T, r * 4294967296 + x = T := ⟨_, rfl⟩
        obtain ⟨q, hqe⟩ : ∃ q, T / d = q := ⟨_, rfl⟩
        obtain ⟨r2, hre⟩ : ∃ r2, T % d = r2 := ⟨_, rfl⟩
        have hT0 : 0 ≤ T := by omega
        have hq0 : 0 ≤ q := by rw [← hqe]; exact Int.ediv_nonneg hT0 (by omega)
        have hq1 : q < B32 := by
          rw [← hqe]
          refine Int.ediv_lt_of_lt_mul hd0 ?_
          unfold B32
          omega
        have hr20 : 0 ≤ r2 := by rw [← hre]; exact Int.emod_nonneg _ (by omega)
        have hr21 : r2 < d := by rw [← hre]; exact Int.emod_lt_of_pos _ hd0
        have hst := dl_step32 (l := la) (m := m) (k := j) (by rw [← HN.out]; exact hj) (by rw [HM.out, HN.out]) HV.out hxe (by rw [hTe, hqe])
        rw [hTe, hre] at hst
        have htq : T.tdiv d = q := by rw [Int.tdiv_eq_ediv_of_nonneg hT0, hqe]
        have htr : T.tmod d = r2 := by rw [Int.tmod_eq_emod_of_nonneg hT0, hre]
        have hdz : (d == 0) = false := by rw [beq_eq_false_iff_ne]; omega
        have hTm : T ≤ 18446744073709551615 := by omega
        have HST := Lib.hid hst
        have hb1x : 0 ≤ q ∧ q ≤ 4294967295 := ⟨hq0, by unfold B32 at hq1; omega⟩
        have hb2lt : b2 < w1.heap.size := by
          have := hat.lt (by simp)
          omega
        have hon2 : Only w1.heap.size 0 na wr (wr.setCell ⟨w1.heap.size, j, none⟩ (.int .u64 q)) := Only.store j _ (Nat.zero_le _) hj
        have hcd2 : (wr.setCell ⟨w1.heap.size, j, none⟩ (.int .u64 q)).cell? ⟨b2, o2, none⟩ = some (.int .u64 d) := by
          have := hon2.at' (hat.below hbr) (by omega) 0 (by simp)
          simpa using this
        have harr2 := harr.store j q
        rw [Nat.zero_add] at harr2
        clear hst hxe e0 bx
        go_wp2_with fail
        go_roundw
        case rel =>
          refine ⟨j, r2, m.set j q, by omega, by go_num, rfl, hr20, hr21, ?_, hlim.set j hq0 hq1, harr2, honly.trans hon2, HST.out⟩
          show _ = _
          rw [List.length_set]; exact HM.out
        case measure => simp [intOf]

end Go.Proofs.YtjmipbljoblnnaaDoor

namespace Go.Proofs.YtjmipbljoblnnaaDoor
open Go.RowKit

def sumv (ls : List (List Int)) : Int := (ls.map (vb B64)).foldr (· + ·) 0
theorem sumv_cons (l : List Int) (ls : List (List Int)) : sumv (l :: ls) = vb B64 l + sumv ls := rfl
theorem sumv_append (ls ms : List (List Int)) : sumv (ls ++ ms) = sumv ls + sumv ms := by
  induction ls with
  | nil => simp [sumv]
  | cons l ls ih => rw [List.cons_append, sumv_cons, sumv_cons, ih, Int.add_assoc]
theorem sumv_take {ls : List (List Int)} {k : Nat} (hk : k < ls.length) : sumv (ls.take (k + 1)) = sumv (ls.take k) + vb B64 (ls.getD k []) := by
  rw [List.take_succ_eq_append_getElem hk, sumv_append, List.getD_eq_getElem?_getD, List.getElem?_eq_getElem hk]
  simp [sumv]

theorem sum_bound {ls : List (List Int)} {k s : Nat} (hk : k < ls.length) (hl : Lim B64 (ls.getD k [])) (ht : tlen (ls.getD k []) ≤ s) (h : sumv (ls.take k) ≤ (k : Int) * B64 ^ s) : sumv (ls.take (k + 1)) ≤ ((k + 1 : Nat) : Int) * B64 ^ s := by
  rw [sumv_take hk]
  have h1 : vb B64 (ls.getD k []) < B64 ^ s := by
    rw [← vb_tr]
    have h2 := vb_lt B64_pos (can_tr hl).lim
    rw [tr_length] at h2
    have h3 := pow_le_pow B64_pos ht
    omega
  have e : ((k + 1 : Nat) : Int) * B64 ^ s = (k : Int) * B64 ^ s + B64 ^ s := by
    rw [Int.natCast_add, Int.add_mul]; simp
  omega
theorem sum_fit {x : Int} {k s : Nat} (h : x ≤ (k : Int) * B64 ^ s) (hk : k < 4294967297) : x < B64 ^ (s + 1) := by
  have hp := pow_pos' B64_pos s
  have : (k : Int) * B64 ^ s ≤ 4294967296 * B64 ^ s := Int.mul_le_mul_of_nonneg_right (by omega) (Int.le_of_lt hp)
  have e : B64 ^ (s + 1) = 18446744073709551616 * B64 ^ s := by rw [Int.pow_succ, Int.mul_comm]; rfl
  omega

end Go.Proofs.YtjmipbljoblnnaaDoor

namespace Go.Proofs.YtjmipbljoblnnaaDoor
open Go.RowKit

/-- What nat.distance returns. -/
def RetDist (na : Nat) (A B : Int) (w : World) (e : Ending) (w' : World) : Prop :=
  ∃ l, e = .returned (.tuple #[.slice (some ⟨w.heap.size, 0, none⟩) na na, .bool (decide (A < B))]) ∧ l.length = na ∧ Lim B64 l ∧ Arr w' w.heap.size 0 l ∧ vb B64 l = (if A < B then B - A else A - B) ∧ Below w.heap.size w w' ∧ w.heap.size < w'.heap.size

theorem copied {n : Nat} {l : List Int} (hl : l.length ≤ n) (hlim : Lim B64 l) : (l.take n ++ (List.replicate n (0 : Int)).drop l.length).length = n ∧ Lim B64 (l.take n ++ (List.replicate n (0 : Int)).drop l.length) ∧ vb B64 (l.take n ++ (List.replicate n (0 : Int)).drop l.length) = vb B64 l := by
  refine ⟨by rw [List.length_append, List.length_take, List.length_drop, List.length_replicate]; omega, (hlim.take n).app ((Lim.replicate B64_pos n).drop _), ?_⟩
  rw [List.take_of_length_le hl, vb_append, List.drop_replicate, vb_replicate]
  simp

end Go.Proofs.YtjmipbljoblnnaaDoor
