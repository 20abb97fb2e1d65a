/-
  Contracts of nat.Of, nat.Cmp, nat.Sub and nat.Add.
-/
import Derived.Test.YtbieldebkfkpkaaDoorTrim
import Derived.Test.YtbieldebkfkpkaaDoorLaws
import Derived.BigQuiet
import Derived.Deep.QuietTactic
namespace Go.Proofs.YtbieldebkfkpkaaDoor
open Go.RowKit

theorem info_u64 : (Tryd.prog.info? 68).map (fun i => (i.zero, i.size, i.bytes)) = some (some (.int .u64 0), 1, 8) := by kernel_rfl

set_option maxRecDepth 100000 in
set_option maxHeartbeats 1000000 in
theorem of_any (ao : Option Addr) (n cap : Nat) (l : List Int) (w : World) (hn : n = l.length) (hl : n ≤ cap) (hcap : cap ≤ 9223372036854775807) (h : Rd w ao l) (hb : n ≤ MaxW) :
    Calls Tryd.prog 54 #[.slice ao n cap] w fun e w' => RetOw w (tr l) e w' := by
  have hk := tlen_le l
  have hk2 : tlen l ≤ n := by omega
  have HN := Lib.hid hn
  clear hn hk
  have hr : Rd w ao (tr l) := h.take _
  have hlen := Lib.hid (tr_length l)
  by_cases h0 : tlen l = 0
  · have h0' : (((tlen l : Nat) : Int) == 0) = true := by simp [h0]
    have H0 := Lib.hid h0
    clear h0
    go_enter Tryd.func54, Tryd.ntmps54
    go_wp2_with (go_at_call 68; refine (trim_any ao n cap l w HN.out hl hcap h).mono ?_; rintro e w' ⟨rfl, rfl⟩)
    go_ret
    refine ⟨_, rfl, ?_, Below.refl _ _⟩
    have : tr l = [] := List.eq_nil_of_length_eq_zero (by rw [hlen.out]; exact H0.out)
    rw [this]
    exact Ow.nil _ _
  · have h0' : (((tlen l : Nat) : Int) == 0) = false := by simp; omega
    go_enter Tryd.func54, Tryd.ntmps54
    go_wp2_with (first
      | (go_at_call 68; refine (trim_any ao n cap l w HN.out hl hcap h).mono ?_; rintro e w' ⟨rfl, rfl⟩)
      | (at_make; refine wpList_make_words w rfl (.tmp 11) (.tmp 11) 28 rfl Tryd.underlying28 info_u64 _ _ (tlen l) rfl rfl rfl rfl (by omega) ?_; intro w1 hw1 hb1 hs1)
      | (with_reducible refine wpList_copy_words rfl (.tmp 13) (.tmp 14) 28 28 rfl Tryd.underlying28 info_u64 w.heap.size 0 (tlen l) (tlen l) ao (tlen l) cap rfl rfl (List.replicate (tlen l) 0) (tr l) List.length_replicate hlen.out (by assumption : Ow _ _ _ _).arr.1 (hr.below (by assumption)) ?_; intro w2 ha2 ho2))
    go_ret
    have ho := (by assumption : Ow w.heap.size _ _ (List.replicate (tlen l) 0))
    have e : List.take (tlen l) (tr l) ++ List.drop (tlen l) (List.replicate (tlen l) 0) = tr l := by
      rw [List.take_of_length_le (by rw [hlen.out]; omega), List.drop_of_length_le (by rw [List.length_replicate]; omega), List.append_nil]
    have ha := (by assumption : Arr _ w.heap.size 0 (List.take (tlen l) (tr l) ++ _))
    rw [e] at ha
    have hO := (by assumption : Only w.heap.size 0 (0 + tlen l) _ _)
    exact ⟨_, rfl, ho.only hO ha (by rw [hlen.out, List.length_replicate]), (by assumption : Below w.heap.size w _).trans (hO.below (Nat.le_refl _) (by have := (by assumption : Below w.heap.size w _).size; omega))⟩
/-- A function has returned v and turned nothing that was there. -/
def RetV (w : World) (v : Value) (e : Ending) (w' : World) : Prop := e = .returned v ∧ Below w.heap.size w w'

set_option maxRecDepth 100000 in
set_option maxHeartbeats 1000000 in
/-- nat.Cmp of two numbers of the same count of words, behind trim. -/
theorem cmp_any (ax : Option Addr) (nx cx : Nat) (lx : List Int) (ay : Option Addr) (ny cy : Nat) (ly : List Int) (w : World) (hnx : nx = lx.length) (hny : ny = ly.length) (h1 : nx ≤ cx) (h2 : cx ≤ 9223372036854775807) (h3 : ny ≤ cy) (h4 : cy ≤ 9223372036854775807)
    (hx : Rd w ax lx) (hy : Rd w ay ly) (hlx : Lim B64 lx) (hly : Lim B64 ly) :
    Calls Tryd.prog 55 #[.slice ax nx cx, .slice ay ny cy] w fun e w' => RetV w (.int .i64 (cmpI (vb B64 lx) (vb B64 ly))) e w' := by
  have kx := tlen_le lx
  have ky := tlen_le ly
  have kx2 : tlen lx ≤ cx := by omega
  have ky2 : tlen ly ≤ cy := by omega
  have HX := Lib.hid hnx
  have HY := Lib.hid hny
  clear hnx hny kx ky
  have lenx := Lib.hid (tr_length lx)
  have leny := Lib.hid (tr_length ly)
  have canx : Can B64 (tr lx) := can_tr hlx
  have cany : Can B64 (tr ly) := can_tr hly
  have rx : Rd w ax (tr lx) := hx.take _
  have ry : Rd w ay (tr ly) := hy.take _
  rw [← vb_tr B64 lx, ← vb_tr B64 ly]
  rcases Nat.lt_trichotomy (tlen lx) (tlen ly) with hlt | heq | hgt
  · have hv : cmpI (vb B64 (tr lx)) (vb B64 (tr ly)) = -1 := cmpI_lt (can_lt_of_length B64_pos canx.lim cany (by rw [lenx.out, leny.out]; exact hlt))
    rw [hv]
    clear hv
    go_enter Tryd.func55, Tryd.ntmps55
    go_wp2_with (first | (go_at_call_of 68 (Value.slice ax nx cx); refine (trim_any ax nx cx lx _ HX.out h1 h2 hx).mono ?_; rintro e w' ⟨rfl, rfl⟩) | (go_at_call_of 68 (Value.slice ay ny cy); refine (trim_any ay ny cy ly _ HY.out h3 h4 hy).mono ?_; rintro e w' ⟨rfl, rfl⟩))
    go_ret
    exact ⟨rfl, Below.refl _ _⟩
  · obtain ⟨n, hn⟩ : ∃ n, n = tlen lx := ⟨_, rfl⟩
    rw [← hn] at lenx kx2 heq
    rw [← heq] at leny ky2
    have hn2 : tlen ly = n := heq.symm
    have HN := Lib.hid hn
    have HN2 := Lib.hid hn2
    clear hn hn2 heq
    obtain ⟨tx, htx⟩ : ∃ t, t = tr lx := ⟨_, rfl⟩
    obtain ⟨ty, hty⟩ : ∃ t, t = tr ly := ⟨_, rfl⟩
    rw [← htx] at lenx canx rx
    rw [← hty] at leny cany ry
    rw [← htx, ← hty]
    clear htx hty
    go_enter Tryd.func55, Tryd.ntmps55
    go_wp2_with (first | (go_at_call_of 68 (Value.slice ax nx cx); refine (trim_any ax nx cx lx _ HX.out h1 h2 hx).mono ?_; rintro e w' ⟨rfl, rfl⟩; rw [← HN.out]) | (go_at_call_of 68 (Value.slice ay ny cy); refine (trim_any ay ny cy ly _ HY.out h3 h4 hy).mono ?_; rintro e w' ⟨rfl, rfl⟩; rw [HN2.out]))
    go_loopw [5] (fun i wr => ∃ k : Nat, k ≤ n ∧ i = .int .i64 ((k : Int) - 1) ∧ Below w.heap.size w wr ∧ Hid (∀ j, k ≤ j → j < n → tx.getD j 0 = ty.getD j 0)) (fun i _ => ((intOf i) + 1).toNat)
    case atStart => exact ⟨n, Nat.le_refl _, rfl, Below.refl _ _, fun j a b => by omega⟩
    case round =>
      obtain ⟨k, hk, rfl, hb, HE⟩ := hrel
      by_cases hk0 : k = 0
      · subst hk0
        have hv : cmpI (vb B64 tx) (vb B64 ty) = 0 := by
          refine cmpI_eq ?_
          have : tx = ty := by
            apply List.ext_getElem?
            intro j
            by_cases hj : j < n
            · have := HE.out j (Nat.zero_le _) hj
              rw [List.getElem?_eq_getElem (by rw [lenx.out]; exact hj), List.getElem?_eq_getElem (by rw [leny.out]; exact hj)]
              rw [List.getD_eq_getElem?_getD, List.getD_eq_getElem?_getD, List.getElem?_eq_getElem (by rw [lenx.out]; exact hj), List.getElem?_eq_getElem (by rw [leny.out]; exact hj)] at this
              simpa using this
            · rw [List.getElem?_eq_none (by rw [lenx.out]; omega), List.getElem?_eq_none (by rw [leny.out]; omega)]
          rw [this]
        have HV := Lib.hid hv
        clear hv
        go_wp2
        go_ret
        exact ⟨by rw [HV.out]; rfl, hb⟩
      · obtain ⟨m, rfl⟩ : ∃ m, k = m + 1 := ⟨k - 1, by omega⟩
        have hm : m < n := by omega
        obtain ⟨x, hxe⟩ : ∃ x, x = tx.getD m 0 := ⟨_, rfl⟩
        obtain ⟨y, hye⟩ : ∃ y, y = ty.getD m 0 := ⟨_, rfl⟩
        have nex : tx ≠ [] := by intro e; subst e; have := lenx.out; simp at this; omega
        have ney : ty ≠ [] := by intro e; subst e; have := leny.out; simp at this; omega
        obtain ⟨bx, ox, rfl, atx⟩ := rx.cases nex
        obtain ⟨bY, oY, rfl, aty⟩ := ry.cases ney
        have hcx : wr.cell? ⟨bx, ox + m, none⟩ = some (.int .u64 x) := by rw [hxe]; exact atx.below hb m (by rw [lenx.out]; exact hm)
        have hcy : wr.cell? ⟨bY, oY + m, none⟩ = some (.int .u64 y) := by rw [hye]; exact aty.below hb m (by rw [leny.out]; exact hm)
        have e0 : (((m + 1 : Nat) : Int) - 1) = (m : Int) := by omega
        rw [e0]
        have XE := Lib.hid hxe
        have YE := Lib.hid hye
        clear hxe hye e0
        have HE' : ∀ j, m < j → j < tx.length → tx.getD j 0 = ty.getD j 0 := fun j a b => HE.out j (by omega) (by rw [← lenx.out]; exact b)
        have hmx : m < tx.length := by rw [lenx.out]; exact hm
        have hl2 : tx.length = ty.length := by rw [lenx.out, leny.out]
        rcases Int.lt_trichotomy x y with hlt | heq | hgt
        · have hv : cmpI (vb B64 tx) (vb B64 ty) = -1 := cmpI_lt (lt_of_digit B64_pos canx.lim cany.lim hl2 hmx HE' (by rw [← XE.out, ← YE.out]; exact hlt))
          have HV := Lib.hid hv
          clear hv HE' hmx hl2
          have hd : decide (x < y) = true := by simpa using hlt
          go_wp2
          go_quiet (fail)
          go_wp2
          go_ret
          exact ⟨by rw [HV.out]; rfl, bdn hb _⟩
        · subst heq
          clear HE' hmx hl2
          have hd : decide (x < x) = false := by simp
          go_wp2
          go_quiet (fail)
          go_wp2
          go_quiet (fail)
          go_wp2
          go_roundw
          case rel =>
            refine ⟨m, by omega, by go_num, bdn hb _, ?_⟩
            intro j h1 h2
            by_cases hj : j = m
            · subst hj; rw [← XE.out, ← YE.out]
            · exact HE.out j (by omega) h2
          case measure => simp [intOf]
        · have hv : cmpI (vb B64 tx) (vb B64 ty) = 1 := cmpI_gt (lt_of_digit B64_pos cany.lim canx.lim hl2.symm (by rw [← hl2]; exact hmx) (fun j a b => (HE' j a (by rw [hl2]; exact b)).symm) (by rw [← XE.out, ← YE.out]; exact hgt))
          have HV := Lib.hid hv
          clear hv HE' hmx hl2
          have hd : decide (x < y) = false := by simp; omega
          have hd2 : decide (y < x) = true := by simpa using hgt
          go_wp2
          go_quiet (fail)
          go_wp2
          go_quiet (fail)
          go_wp2
          go_ret
          exact ⟨by rw [HV.out]; rfl, bdn (bdn hb _) _⟩
  · have hv : cmpI (vb B64 (tr lx)) (vb B64 (tr ly)) = 1 := cmpI_gt (can_lt_of_length B64_pos cany.lim canx (by rw [lenx.out, leny.out]; exact hgt))
    rw [hv]
    clear hv
    go_enter Tryd.func55, Tryd.ntmps55
    go_wp2_with (first | (go_at_call_of 68 (Value.slice ax nx cx); refine (trim_any ax nx cx lx _ HX.out h1 h2 hx).mono ?_; rintro e w' ⟨rfl, rfl⟩) | (go_at_call_of 68 (Value.slice ay ny cy); refine (trim_any ay ny cy ly _ HY.out h3 h4 hy).mono ?_; rintro e w' ⟨rfl, rfl⟩))
    go_ret
    exact ⟨rfl, Below.refl _ _⟩
theorem RetV.elim {w : World} {v : Value} {e : Ending} {w' : World} (h : RetV w v e w') : e = .returned v ∧ Below w.heap.size w w' := h

set_option maxRecDepth 100000 in
/-- Nothing is taken from whatever it is. -/
theorem subFrom_zero (v : Value) (ax : Option Addr) (cx : Nat) (w : World) :
    Calls Tryd.prog 89 #[v, .slice ax 0 cx] w fun e w' => e = .returned (.tuple #[]) ∧ w = w' := by
  go_enter Tryd.func89, Tryd.ntmps89
  go_wp2
  refine wp_loop_rounds 1 ?_
  rw [rounds_succ]
  go_wp2
  refine wp_loop_rounds 1 ?_
  rw [rounds_succ]
  go_wp2
  go_end0
  exact ⟨rfl, rfl⟩
set_option maxRecDepth 100000 in
/-- Nothing is added to whatever it is. -/
theorem addTo_zero (v : Value) (ax : Option Addr) (cx : Nat) (w : World) :
    Calls Tryd.prog 84 #[v, .slice ax 0 cx] w fun e w' => e = .returned (.tuple #[]) ∧ w = w' := by
  go_enter Tryd.func84, Tryd.ntmps84
  go_wp2
  refine wp_loop_rounds 1 ?_
  rw [rounds_succ]
  go_wp2
  refine wp_loop_rounds 1 ?_
  rw [rounds_succ]
  go_wp2
  go_end0
  exact ⟨rfl, rfl⟩

/-- What nat.Sub leaves where the second number is not greater. -/
def RetSub (w : World) (N : Int) (e : Ending) (w' : World) : Prop := ∃ v l, e = .returned (.tuple #[v, .bool true]) ∧ Ow w.heap.size w' v l ∧ Can B64 l ∧ vb B64 l = N ∧ Below w.heap.size w w'
def RetNo (w : World) (e : Ending) (w' : World) : Prop := e = .returned (.tuple #[.slice none 0 0, .bool false]) ∧ Below w.heap.size w w'

set_option maxRecDepth 100000 in
set_option maxHeartbeats 1000000 in
theorem sub_no (ax : Option Addr) (nx cx : Nat) (lx : List Int) (ay : Option Addr) (ny cy : Nat) (ly : List Int) (w : World) (hnx : nx = lx.length) (hny : ny = ly.length) (h1 : nx ≤ cx) (h2 : cx ≤ 9223372036854775807) (h3 : ny ≤ cy) (h4 : cy ≤ 9223372036854775807)
    (hx : Rd w ax lx) (hy : Rd w ay ly) (hlx : Lim B64 lx) (hly : Lim B64 ly) (hlt : vb B64 lx < vb B64 ly) :
    Calls Tryd.prog 64 #[.slice ax nx cx, .slice ay ny cy] w fun e w' => RetNo w e w' := by
  have hc := cmp_any ax nx cx lx ay ny cy ly w hnx hny h1 h2 h3 h4 hx hy hlx hly
  rw [cmpI_lt hlt] at hc
  clear hlt hnx hny
  have HC := Lib.hid hc
  clear hc
  go_enter Tryd.func64, Tryd.ntmps64
  go_wp2_with fail
  refine HC.out.mono ?_
  rintro e w1 ⟨rfl, hb⟩
  go_wp2_with fail
  go_ret2
  exact ⟨rfl, hb⟩

theorem Ow.cases {base : Nat} {w : World} {v : Value} {l : List Int} (h : Ow base w v l) : (v = .slice none 0 0 ∧ l = []) ∨ ∃ g cap, v = .slice (some ⟨g, 0, none⟩) l.length cap ∧ base ≤ g ∧ l.length ≤ cap ∧ cap ≤ 9223372036854775807 ∧ Arr w g 0 l := by
  have h' := h
  obtain ⟨h1, h2⟩ := h
  rcases h2 with ⟨rfl, h0⟩ | ⟨g, cap, cur, rfl, hg, hh, hn, hm, hc, ht⟩
  · exact Or.inl ⟨rfl, List.eq_nil_of_length_eq_zero h0⟩
  · exact Or.inr ⟨g, cap, rfl, hg, hn, by simpa [maxLen] using hm, h'.arr.1⟩

theorem can_len_le {l m : List Int} (hl : Can B64 l) (hm : Can B64 m) (h : vb B64 l ≤ vb B64 m) : l.length ≤ m.length := by
  rcases Nat.lt_or_ge m.length l.length with h1 | h1
  · have := can_lt_of_length B64_pos hm.lim hl h1; omega
  · exact h1

set_option maxRecDepth 100000 in
set_option maxHeartbeats 1000000 in
theorem sub_yes (ax : Option Addr) (nx cx : Nat) (lx : List Int) (ay : Option Addr) (ny cy : Nat) (ly : List Int) (w : World) (hnx : nx = lx.length) (hny : ny = ly.length) (h1 : nx ≤ cx) (h2 : cx ≤ 9223372036854775807) (h3 : ny ≤ cy) (h4 : cy ≤ 9223372036854775807)
    (hx : Rd w ax lx) (hy : Rd w ay ly) (hlx : Lim B64 lx) (hly : Lim B64 ly) (hlt : vb B64 ly ≤ vb B64 lx) (hM : nx ≤ MaxW) :
    Calls Tryd.prog 64 #[.slice ax nx cx, .slice ay ny cy] w fun e w' => RetSub w (vb B64 lx - vb B64 ly) e w' := by
  have hc := cmp_any ax nx cx lx ay ny cy ly w hnx hny h1 h2 h3 h4 hx hy hlx hly
  have HC := Lib.hid hc
  have HX := Lib.hid hnx
  have HY := Lib.hid hny
  have hd : (decide (cmpI (vb B64 lx) (vb B64 ly) < 0)) = false := by
    rcases Int.lt_or_eq_of_le hlt with h | h
    · rw [cmpI_gt h]; rfl
    · rw [cmpI_eq h.symm]; rfl
  have kx := tlen_le lx
  have ky := tlen_le ly
  have kle : tlen ly ≤ tlen lx := by
    rw [← tr_length, ← tr_length]
    exact can_len_le (can_tr hly) (can_tr hlx) (by rw [vb_tr, vb_tr]; exact hlt)
  have kyc : tlen ly ≤ cy := by omega
  have ky3 := Lib.hid ky
  clear hc hnx hny kx ky
  go_enter Tryd.func64, Tryd.ntmps64
  go_wp2_with fail
  refine HC.out.mono ?_
  rintro e w1 ⟨rfl, hb1⟩
  go_wp2_with fail
  refine (of_any ax nx cx lx w1 HX.out h1 h2 (hx.below hb1) hM).mono ?_
  rintro e w2 ⟨v, rfl, hO, hb2⟩
  have hy2 := (hy.below hb1).below hb2
  have hbb : Below w.heap.size w w2 := hb1.trans (hb2.mono hb1.size)
  rcases hO.cases with ⟨rfl, h0⟩ | ⟨g, cap, rfl, hg, hc1, hc2, harr⟩
  · have hz : tlen lx = 0 := by rw [← tr_length, h0]; rfl
    have hz2 : tlen ly = 0 := by omega
    have hN : vb B64 lx - vb B64 ly = 0 := by
      rw [← vb_tr B64 lx, ← vb_tr B64 ly, h0, show tr ly = [] from List.eq_nil_of_length_eq_zero (by rw [tr_length]; exact hz2)]; rfl
    have HZ2 := Lib.hid hz2
    have HNN := Lib.hid hN
    clear hz hz2 h0 hN hd
    go_wp2_with fail
    refine (trim_any ay ny cy ly w2 HY.out h3 h4 hy2).mono ?_
    rintro e w' ⟨rfl, rfl⟩
    rw [HZ2.out]
    go_wp2_with fail
    refine (subFrom_zero _ ay cy w2).mono ?_
    rintro e w' ⟨rfl, rfl⟩
    go_wp2_with fail
    refine (trim_any none 0 0 [] w2 rfl (Nat.le_refl _) (by omega) (Rd.nil _ _)).mono ?_
    rintro e w' ⟨rfl, rfl⟩
    go_wp2_with fail
    go_ret2
    exact ⟨_, [], rfl, Ow.nil _ _, Can.nil _, HNN.out.symm, hbb⟩
  · have hne : tr ly ≠ [] → ∀ b' off', ay = some ⟨b', off', none⟩ → b' ≠ g := by
      intro hn b' off' e
      subst e
      have hl : ly ≠ [] := by intro e; subst e; exact hn rfl
      have := (hy.below hb1).at'.lt hl
      omega
    have hlen : (tr lx).length = tlen lx := tr_length lx
    rw [hlen] at hc1
    have hsub := subFrom_any g 0 (tlen lx) cap (tr lx) ay (tlen ly) cy (tr ly) w2 hlen.symm (tr_length ly).symm hc1 hc2 kyc h4 harr (hy2.take _) hne (hlx.take _) (hly.take _) (by rw [vb_tr, vb_tr]; exact hlt) kle
    rw [vb_tr, vb_tr] at hsub
    have HS := Lib.hid hsub
    have HL := Lib.hid hlen
    clear hsub hlen hd
    rw [HL.out] at hO
    rw [HL.out]
    go_wp2_with fail
    refine (trim_any ay ny cy ly w2 HY.out h3 h4 hy2).mono ?_
    rintro e w' ⟨rfl, rfl⟩
    go_wp2_with fail
    refine HS.out.mono ?_
    rintro e w3 ⟨rfl, l, hl, hlim, harr3, hval, honly⟩
    have hO3 : Ow w1.heap.size w3 (.slice (some ⟨g, 0, none⟩) (tlen lx) cap) l := hO.only honly harr3 (by rw [hl, HL.out])
    have hb3 : Below w.heap.size w w3 := hbb.trans (honly.below (by have := hb1.size; omega) hbb.size)
    have HLL := Lib.hid hl
    have HVV := Lib.hid hval
    clear hl hval
    go_wp2_with fail
    refine (trim_any _ (tlen lx) cap l w3 HLL.out.symm hc1 hc2 (Rd.of_at harr3.at')).mono ?_
    rintro e w' ⟨rfl, rfl⟩
    go_wp2_with fail
    go_ret2
    exact ⟨_, tr l, rfl, (hO3.take (tlen l) (by rw [← HLL.out]; exact tlen_le l)).mono hb1.size, can_tr hlim, by rw [vb_tr]; exact HVV.out, hb3⟩
end Go.Proofs.YtbieldebkfkpkaaDoor
