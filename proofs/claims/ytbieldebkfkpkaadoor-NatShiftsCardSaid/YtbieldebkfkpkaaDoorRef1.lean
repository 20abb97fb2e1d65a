/-
  Contracts of the reference's Trim, From and Limbs, and of the statements' own helpers SameLimbs and Is.
-/
import Derived.Test.YtbieldebkfkpkaaDoorNat1
namespace Go.Proofs.YtbieldebkfkpkaaDoor
open Go.RowKit

set_option maxRecDepth 100000 in
set_option maxHeartbeats 1000000 in
theorem rtrim_any (ao : Option Addr) (n cap : Nat) (l : List Int) (w : World) (hn : n = l.length) (hl : n ≤ cap) (hcap : cap ≤ 9223372036854775807) (h : Rd w ao l) :
    Calls Tryd.prog 56 #[.slice ao n cap] w fun e w' => e = .returned (.slice ao (tlen l) (tlen l)) ∧ w = w' := by
  subst hn
  by_cases h0 : l = []
  · subst h0
    go_enter Tryd.func56, Tryd.ntmps56
    go_wp2
    refine wp_loop_rounds 1 ?_
    rw [rounds_succ]
    go_wp2
    go_ret
    exact ⟨rfl, rfl⟩
  · obtain ⟨b, off, rfl, hc⟩ := h.cases h0
    go_enter Tryd.func56, Tryd.ntmps56
    go_wp2
    go_loop [3] (fun n => ∃ k : Nat, k ≤ l.length ∧ n = .int .i64 k ∧ (∀ j, k ≤ j → j < l.length → l.getD j 0 = 0)) (fun n => (intOf n).toNat)
    case atStart => exact ⟨l.length, Nat.le_refl _, rfl, fun j h1 h2 => by omega⟩
    case round =>
      obtain ⟨k, hk, rfl, hz⟩ := hrel
      have hcell : 0 < k → w.cell? ⟨b, off + (k - 1), none⟩ = some (.int .u64 (l.getD (k-1) 0)) := fun _ => hc _ (by omega)
      clear hc
      have HZ := Lib.hid hz
      clear hz
      go_wp2
      · have hp : 0 < k := by assumption
        have he : (l[k - 1]?.getD 0 == 0) = true := by assumption
        go_round
        case rel =>
          refine ⟨k - 1, by omega, by go_num, ?_⟩
          intro j h1 h2
          by_cases hj : j = k - 1
          · subst hj; rw [List.getD_eq_getElem?_getD]; simpa using he
          · exact HZ.out j (by omega) h2
        case measure => simp [intOf]; omega
      · have hp : 0 < k := by assumption
        have he : (l[k - 1]?.getD 0 == 0) = false := by assumption
        go_ret
        exact ⟨by rw [tlen_eq hk HZ.out (Or.inr (by rw [List.getD_eq_getElem?_getD]; simpa using he))]; rfl, rfl⟩
      · have hp : ¬ 0 < k := by assumption
        go_ret
        exact ⟨by rw [tlen_eq hk HZ.out (Or.inl (by omega))]; rfl, rfl⟩

/-- A function has returned a number in the base b: a slice that reads as digits, no zeros at its end. -/
def RetRd (b : Int) (w : World) (N : Int) (e : Ending) (w' : World) : Prop :=
  ∃ ao n cap l, e = .returned (.slice ao n cap) ∧ n = l.length ∧ n ≤ cap ∧ cap ≤ 9223372036854775807 ∧ Rd w' ao l ∧ Can b l ∧ vb b l = N ∧ Below w.heap.size w w' ∧ ∀ g o, ao = some ⟨g, o, none⟩ → w.heap.size ≤ g

set_option maxRecDepth 100000 in
set_option maxHeartbeats 1000000 in
theorem from_any (ao : Option Addr) (n cap : Nat) (l : List Int) (w : World) (hn : n = l.length) (hl : n ≤ cap) (hcap : cap ≤ 9223372036854775807) (h : Rd w ao l) (hlim : Lim B64 l) (hM : 2 * n ≤ MaxW) :
    Calls Tryd.prog 9 #[.slice ao n cap] w fun e w' => RetRd B32 w (vb B64 l) e w' := by
  have HN := Lib.hid hn
  clear hn
  go_enter Tryd.func9, Tryd.ntmps9
  go_wp2
  go_loopw [3, 4] (fun v i wr => ∃ k : Nat, k ≤ n ∧ i = .int .i64 k ∧ Ow w.heap.size wr v (dig (l.take k)) ∧ Below w.heap.size w wr) (fun _ i _ => n - (intOf i).toNat)
  case atStart => exact ⟨0, Nat.zero_le _, rfl, Ow.nil _ _, Below.refl _ _⟩
  case round =>
    obtain ⟨k, hk, rfl, hO, hb⟩ := hrel
    by_cases hlt : k < n
    · have hl0 : l ≠ [] := by intro e; subst e; have := HN.out; simp at this; omega
      obtain ⟨b, off, rfl, hat⟩ := h.cases hl0
      obtain ⟨x, hxe⟩ : ∃ x, x = l.getD k 0 := ⟨_, rfl⟩
      have hcx : wr.cell? ⟨b, off + k, none⟩ = some (.int .u64 x) := by rw [hxe]; exact hat.below hb k (by rw [← HN.out]; exact hlt)
      have bx : 0 ≤ x ∧ x < 18446744073709551616 := by rw [hxe]; exact hlim.getD B64_pos k
      have bx0 : 0 ≤ x := bx.1
      have XE := Lib.hid hxe
      have XB := Lib.hid bx
      clear hxe bx
      go_wp2
      have hlen : (dig (l.take k)).length + 2 ≤ MaxW := by rw [dig_length, List.length_take]; omega
      have hbase : w.heap.size ≤ (wr.alloc (.cells #[.int .u64 (x.tmod 4294967296), .int .u64 (IntKind.u64.wrap (x.tdiv 4294967296))] 68)).heap.size := by have := hb.size; simp; omega
      go_region_law (refine step_append_words _ rfl (.tmp 11) (.tmp 22) 25 rfl Tryd.underlying25 info_u64 w.heap.size u3 (dig (l.take k)) (by simp [Act.eval]) (by exact hO.alloc _) ⟨wr.heap.size, 0, none⟩ 2 2 [x.tmod 4294967296, IntKind.u64.wrap (x.tdiv 4294967296)] (by simp [Act.eval]) rfl (by exact news2 _ _ _ _) hlen (by exact hbase) ?_; intro v' w1 hO1 hb1)
      all_goals
        have hb2 : Below w.heap.size w w1 := hb.trans (((Below.refl _ wr).alloc hb.size _).drew.trans hb1)
        have e1 : x.tmod 4294967296 = x % 4294967296 := Int.tmod_eq_emod_of_nonneg bx0
        have e2 : IntKind.u64.wrap (x.tdiv 4294967296) = x / 4294967296 := by
          have := XB.out
          rw [Int.tdiv_eq_ediv_of_nonneg bx0, IntKind.wrap_u64]; omega
        have hO2 : Ow w.heap.size w1 v' (dig (l.take (k + 1))) := by
          rw [dig_take (by rw [← HN.out]; exact hlt), ← XE.out, ← e1, ← e2]; exact hO1
        clear hO1 hb1 e1 e2 hO hb hbase
        go_wp2
        go_roundw
        case rel => exact ⟨k + 1, by omega, by go_num, hO2, hb2⟩
        case measure => simp [intOf]; omega
    · have hkn : k = n := by omega
      have hd : dig (l.take k) = dig l := by rw [hkn, HN.out, List.take_length]
      rw [hd] at hO
      obtain ⟨ao', cap', rfl, hc1, hc2, hr, hfr⟩ := hO.form'
      obtain ⟨m, hm⟩ : ∃ m, m = (dig l).length := ⟨_, rfl⟩
      rw [← hm] at hc1
      rw [← hm]
      have HM := Lib.hid hm
      clear hd hkn hm
      go_wp2_with (go_at_call 56; refine (rtrim_any ao' m cap' (dig l) _ HM.out hc1 hc2 hr).mono ?_; rintro e w' ⟨rfl, rfl⟩)
      go_ret
      have htl := tlen_le (dig l)
      exact ⟨ao', tlen (dig l), tlen (dig l), tr (dig l), rfl, (tr_length _).symm, Nat.le_refl _, by have := HM.out; omega, hr.take _, can_tr (dig_lim hlim), by rw [vb_tr, vb_dig], hb, hfr⟩
set_option maxRecDepth 100000 in
set_option maxHeartbeats 1000000 in
theorem limbs_any (ao : Option Addr) (n cap : Nat) (l : List Int) (w : World) (hn : n = l.length) (_hl : n ≤ cap) (_hcap : cap ≤ 9223372036854775807) (h : Rd w ao l) (hcan : Can B32 l) (hM : n ≤ MaxW) :
    Calls Tryd.prog 76 #[.slice ao n cap] w fun e w' => RetNum w (vb B32 l) e w' := by
  have HN := Lib.hid hn
  have hlim := hcan.lim
  obtain ⟨hp1, hp2⟩ := prs_spec l
  have hn63 : n + 2 ≤ 9223372036854775807 := by unfold MaxW at hM; omega
  have HP := Lib.hid hp2
  have HPL : Hid ((prs l).length = (n + 1) / 2) := by show _ = _; rw [hp1, ← hn]
  clear hn hp1 hp2
  go_enter Tryd.func76, Tryd.ntmps76
  go_wp2
  go_loopw [3, 4] (fun v i wr => ∃ k : Nat, 2 * k ≤ n + 1 ∧ i = .int .i64 (2 * (k : Int)) ∧ Ow w.heap.size wr v ((prs l).take k) ∧ Below w.heap.size w wr) (fun _ i _ => (n + 2) - (intOf i).toNat)
  case atStart => exact ⟨0, by omega, rfl, Ow.nil _ _, Below.refl _ _⟩
  case round =>
    obtain ⟨k, hk, rfl, hO, hb⟩ := hrel
    by_cases hlt : 2 * k < n
    · have hl0 : l ≠ [] := by intro e; subst e; have := HN.out; simp at this; omega
      obtain ⟨b, off, rfl, hat⟩ := h.cases hl0
      have hk2 : k < (prs l).length := by rw [HPL.out]; omega
      have hlen : ((prs l).take k).length + 1 ≤ MaxW := by rw [List.length_take]; omega
      obtain ⟨x, hxe⟩ : ∃ x, x = l.getD (2 * k) 0 := ⟨_, rfl⟩
      obtain ⟨y, hye⟩ : ∃ y, y = l.getD (2 * k + 1) 0 := ⟨_, rfl⟩
      have hcx : wr.cell? ⟨b, off + 2 * k, none⟩ = some (.int .u64 x) := by rw [hxe]; exact hat.below hb (2 * k) (by rw [← HN.out]; exact hlt)
      have bx : 0 ≤ x ∧ x < 4294967296 := by rw [hxe]; exact hlim.getD B32_pos _
      have bY : 0 ≤ y ∧ y < 4294967296 := by rw [hye]; exact hlim.getD B32_pos _
      have hst : (prs l).take (k + 1) = (prs l).take k ++ [x + y * 4294967296] := by rw [take_succ_getD hk2, HP.out k, hxe, hye]
      have HST := Lib.hid hst
      have XE := Lib.hid hxe
      have YE := Lib.hid hye
      clear hxe hst
      obtain ⟨bx0, bx1⟩ := bx
      obtain ⟨by0, by1⟩ := bY
      by_cases h2 : 2 * k + 1 < n
      · have hcy : wr.cell? ⟨b, off + (2 * k + 1), none⟩ = some (.int .u64 y) := by rw [hye]; exact hat.below hb (2 * k + 1) (by rw [← HN.out]; exact h2)
        clear hye hat h
        go_wp2_with (at_builtin; refine wpList_append_words _ rfl _ _ 22 rfl Tryd.underlying22 info_u64 w.heap.size u3 ((prs l).take k) rfl (hO.alloc _) ⟨wr.heap.size, 0, none⟩ 1 1 [x + y * 4294967296] rfl rfl (news1 _ _ _) hlen (by have := hb.size; simp; omega) ?_; intro v' w1 hO1 hb1)
        go_roundw
        case rel => exact ⟨k + 1, by omega, by go_num, by rw [HST.out]; assumption, (hb.alloc hb.size _).trans (by assumption)⟩
        case measure => simp [intOf]; omega
      · have hy0 : y = 0 := by rw [hye, List.getD_eq_getElem?_getD, List.getElem?_eq_none (by rw [← HN.out]; omega)]; rfl
        rw [hy0, Int.zero_mul, Int.add_zero] at HST
        clear hye hat h hy0
        go_wp2_with (at_builtin; refine wpList_append_words _ rfl _ _ 22 rfl Tryd.underlying22 info_u64 w.heap.size u3 ((prs l).take k) rfl (hO.alloc _) ⟨wr.heap.size, 0, none⟩ 1 1 [x] rfl rfl (news1 _ _ _) hlen (by have := hb.size; simp; omega) ?_; intro v' w1 hO1 hb1)
        go_roundw
        case rel => exact ⟨k + 1, by omega, by go_num, by rw [HST.out]; assumption, (hb.alloc hb.size _).trans (by assumption)⟩
        case measure => simp [intOf]; omega
    · have he : (prs l).take k = prs l := List.take_of_length_le (by rw [HPL.out]; omega)
      rw [he] at hO
      go_wp2
      go_ret
      exact ⟨_, _, rfl, hO, prs_can hcan, vb_prs l, hb⟩

set_option maxRecDepth 100000 in
set_option maxHeartbeats 1000000 in
/-- compassbook.SameLimbs of two slices that read alike. -/
theorem same_yes (ax : Option Addr) (n cx : Nat) (ay : Option Addr) (cy : Nat) (l : List Int) (w : World) (hn : n = l.length) (h1 : n ≤ cx) (h2 : cx ≤ 9223372036854775807) (_h3 : n ≤ cy) (_h4 : cy ≤ 9223372036854775807)
    (hx : Rd w ax l) (hy : Rd w ay l) :
    Calls Tryd.prog 75 #[.slice ax n cx, .slice ay n cy] w fun e w' => RetV w (.bool true) e w' := by
  have HN := Lib.hid hn
  clear hn
  have hne : ((n : Int) != (n : Int)) = false := by simp
  go_enter Tryd.func75, Tryd.ntmps75
  go_wp2
  go_loopw [5] (fun i wr => ∃ k : Nat, k ≤ n ∧ i = .int .i64 k ∧ Below w.heap.size w wr) (fun i _ => n - (intOf i).toNat)
  case atStart => exact ⟨0, Nat.zero_le _, rfl, Below.refl _ _⟩
  case round =>
    obtain ⟨k, hk, rfl, hb⟩ := hrel
    by_cases hlt : k < n
    · have hl0 : l ≠ [] := by intro e; subst e; have := HN.out; simp at this; omega
      obtain ⟨b1, o1, rfl, atx⟩ := hx.cases hl0
      obtain ⟨b2, o2, rfl, aty⟩ := hy.cases hl0
      obtain ⟨x, hxe⟩ : ∃ x, x = l.getD k 0 := ⟨_, rfl⟩
      have hcx : wr.cell? ⟨b1, o1 + k, none⟩ = some (.int .u64 x) := by rw [hxe]; exact atx.below hb k (by rw [← HN.out]; exact hlt)
      have hcy : wr.cell? ⟨b2, o2 + k, none⟩ = some (.int .u64 x) := by rw [hxe]; exact aty.below hb k (by rw [← HN.out]; exact hlt)
      clear hxe atx aty hx hy
      go_wp2
      go_quiet (fail)
      go_wp2
      go_roundw
      case rel => exact ⟨k + 1, by omega, by go_num, bdn hb _⟩
      case measure => simp [intOf]; omega
    · go_wp2
      go_ret
      exact ⟨rfl, hb⟩

set_option maxRecDepth 100000 in
set_option maxHeartbeats 1000000 in
/-- compasslaw1.Is where the number is the reference's. -/
theorem is_yes (ax : Option Addr) (n cx : Nat) (lx : List Int) (ay : Option Addr) (m cy : Nat) (ly : List Int) (w : World) (hn : n = lx.length) (hm : m = ly.length) (h1 : n ≤ cx) (h2 : cx ≤ 9223372036854775807) (h3 : m ≤ cy) (h4 : cy ≤ 9223372036854775807)
    (hx : Rd w ax lx) (hy : Rd w ay ly) (hcx : Can B64 lx) (hcy : Can B32 ly) (he : vb B64 lx = vb B32 ly) (hM : m ≤ MaxW) :
    Calls Tryd.prog 21 #[.slice ax n cx, .slice ay m cy] w fun e w' => RetV w (.bool true) e w' := by
  have HN := Lib.hid hn
  have HM := Lib.hid hm
  have HE := Lib.hid he
  clear hn hm he
  go_enter Tryd.func21, Tryd.ntmps21
  go_wp2_with fail
  refine (limbs_any ay m cy ly w HM.out h3 h4 hy hcy hM).mono ?_
  rintro e w1 ⟨v, l, rfl, hO, hcl, hval, hb⟩
  have hll : l = lx := can_eq B64_pos hcl hcx (hval.trans HE.out.symm)
  subst hll
  obtain ⟨ao', cap', rfl, hc1, hc2, hr⟩ := hO.form
  rw [← HN.out] at hc1
  rw [← HN.out]
  clear hval
  go_wp2_with fail
  refine (same_yes ax n cx ao' cap' l w1 HN.out h1 h2 hc1 hc2 (hx.below hb) hr).mono ?_
  rintro e w2 ⟨rfl, hb2⟩
  go_wp2_with fail
  go_ret
  exact ⟨rfl, hb.trans (hb2.mono hb.size)⟩
end Go.Proofs.YtbieldebkfkpkaaDoor
