/-
  MulPieces: Contract of nat.multiplyRows, and the law of clear on words. Contract of nat.multiplyPieces, what nat.multiply does on shorter numbers being given.
-/
import Derived.Test.YthfcncapgfkkjaaGreatDoorPk14
import Derived.Lib.SliceRun

namespace Go.Proofs.YthfcncapgfkkjaaGreatDoor
open Go.RowKit


theorem Arr.append {w : World} {b off : Nat} {l m : List Int} (h : Arr w b off l) (k : Arr w b (off + l.length) m) : Arr w b off (l ++ m) := by
  obtain ⟨cur, e, hh, hl⟩ := h
  obtain ⟨cur2, e2, hh2, hm⟩ := k
  rw [hh] at hh2
  simp only [Option.some.injEq, Obj.cells.injEq, and_true] at hh2
  obtain ⟨rfl, rfl⟩ := hh2
  refine ⟨cur, e, hh, fun j hj => ?_⟩
  rw [List.length_append] at hj
  by_cases hjl : j < l.length
  · rw [hl j hjl, List.getD_eq_getElem?_getD, List.getD_eq_getElem?_getD, List.getElem?_append_left hjl]
  · have h2 := hm (j - l.length) (by omega)
    rw [show off + l.length + (j - l.length) = off + j by omega] at h2
    rw [h2, List.getD_eq_getElem?_getD, List.getD_eq_getElem?_getD, List.getElem?_append_right (by omega)]

theorem clear_cells : ∀ (n off : Nat) (w : World) (g : Nat) (lo : List Int), lo.length = n → Arr w g off lo →
    Arr (w.setCells g off (List.replicate n (.int .u64 0))) g off (List.replicate n 0) ∧ Only g off (off + n) w (w.setCells g off (List.replicate n (.int .u64 0)))
  | 0, off, w, g, lo, hl, ha => by
    obtain rfl : lo = [] := List.eq_nil_of_length_eq_zero hl
    exact ⟨ha, Only.refl _ _ _ _⟩
  | n + 1, off, w, g, lo, hl, ha => by
    have h1 := ha.store 0 0
    have h2 : Arr (w.setCell ⟨g, off, none⟩ (.int .u64 0)) g (off + 1) ((lo.set 0 0).drop 1) := h1.drop 1
    have h3 := h1.take 1
    rw [Nat.add_zero] at h3
    have ho : Only g off (off + 1) w (w.setCell ⟨g, off, none⟩ (.int .u64 0)) := Only.store off _ (Nat.le_refl _) (by omega)
    obtain ⟨h4, h5⟩ := clear_cells n (off + 1) (w.setCell ⟨g, off, none⟩ (.int .u64 0)) g ((lo.set 0 0).drop 1) (by rw [List.length_drop, List.length_set]; omega) h2
    have e0 : (lo.set 0 0).take 1 = [0] := by
      cases lo with
      | nil => simp at hl
      | cons x l => rfl
    rw [e0] at h3
    have h6 := h5.arr h3 (Or.inl (by simp))
    have h7 := h6.append (by simpa using h4)
    refine ⟨?_, ?_⟩
    · exact h7
    · have h8 := (ho.mono (lo' := off) (hi' := off + (n + 1)) (Nat.le_refl _) (by omega)).trans (h5.mono (lo' := off) (hi' := off + (n + 1)) (by omega) (by omega))
      exact h8

/-- clear(s), s a row of words. -/
theorem run_clear_words (w : World) (t ty : TypeId) (hu : Tryz.prog.underlying t = some (.slice 53)) (g off n c : Nat) (lo : List Int) (hlo : lo.length = n) (ha : Arr w g off lo) :
    ∃ w', (Builtin.clear_ #[t] ty #[.slice (some ⟨g, off, none⟩) n c]).run Tryz.prog w = .ok (.tuple #[]) w' ∧ Arr w' g off (List.replicate n 0) ∧ Only g off (off + n) w w' := by
  obtain ⟨h1, h2⟩ := clear_cells n off w g lo hlo ha
  have hz : ∀ w, (zeroValue 53).run Tryz.prog w = .ok (.int .u64 0) w := fun w => Tryz.zeroValue53 w
  refine ⟨_, ?_, h1, h2⟩
  by_cases hn : 0 < n
  · exact Lib.run_clear_slice w t 53 ty (.int .u64 0) hu hz rfl rfl g off n c hn (fun j hj => by rw [ha.at' j (by omega)]; rfl) (fun j _ => ha.frozen _)
  · obtain rfl : n = 0 := by omega
    simp [Builtin.clear_, run_underlying hu, World.setCells]

theorem rows_drop {l l' : List Int} {i na : Nat} (hi : i ≤ l.length) (hd : l'.drop na = (l.drop i).drop na) : (l.take i ++ l').drop (i + na) = l.drop (i + na) := by
  have hlt : (l.take i).length = i := by rw [List.length_take]; omega
  rw [← List.drop_drop, List.drop_append_of_le_length (by omega), List.drop_of_length_le (l := l.take i) (by omega), List.nil_append, hd, List.drop_drop]
theorem rows_get {l l' : List Int} {i na j : Nat} (hi : i ≤ l.length) (hd : l'.drop na = (l.drop i).drop na) (hj : i + na ≤ j) : (l.take i ++ l').getD j 0 = l.getD j 0 := by
  have h := rows_drop hi hd
  have e1 := getD_drop (l.take i ++ l') (i + na) (j - (i + na))
  have e2 := getD_drop l (i + na) (j - (i + na))
  rw [show i + na + (j - (i + na)) = j by omega] at e1 e2
  rw [← e1, ← e2, h]
theorem rows_step {l l' : List Int} {i na : Nat} {c V : Int} (hp : i + na < l.length) (hl' : l'.length = l.length - i) (hd : l'.drop na = (l.drop i).drop na)
    (hv : vb B64 (l'.take na) + B64 ^ na * c = vb B64 ((l.drop i).take na) + V) (h0 : l.getD (i + na) 0 = 0) :
    vb B64 ((l.take i ++ l').set (i + na) c) = vb B64 l + B64 ^ i * V := by
  have hlt : (l.take i).length = i := by rw [List.length_take]; omega
  rw [vb_set _ _ _ _ (by rw [List.length_append, hlt]; omega), rows_get (by omega) hd (Nat.le_refl _), h0, Int.sub_zero, vb_append, hlt]
  have e1 := vb_split B64 l' na (by omega)
  have e2 := vb_split B64 l i (by omega)
  have e3 := vb_split B64 (l.drop i) na (by rw [List.length_drop]; omega)
  rw [hd] at e1
  rw [e3] at e2
  rw [e2, e1, Int.pow_add]
  have e4 : B64 ^ i * (vb B64 (l'.take na) + B64 ^ na * c) = B64 ^ i * (vb B64 ((l.drop i).take na) + V) := by rw [hv]
  rw [Int.mul_add, Int.mul_add] at e4
  rw [Int.mul_add, Int.mul_add, Int.mul_assoc]
  omega

set_option maxRecDepth 100000 in
set_option maxHeartbeats 4000000 in
theorem multiplyRows_any (g off no co : Nat) (lo : List Int) (aa : Option Addr) (na ca : Nat) (la : List Int) (ab : Option Addr) (nb' cb : Nat) (lb : List Int) (w : World) (hno : no = lo.length) (hna : na = la.length) (hnb : nb' = lb.length)
    (ho1 : no ≤ co) (ho2 : co ≤ 9223372036854775807) (hc1 : na ≤ ca) (hc2 : ca ≤ 9223372036854775807) (hd1 : nb' ≤ cb) (hd2 : cb ≤ 9223372036854775807)
    (ho : Arr w g off lo) (ha : Rd w aa la) (hb : Rd w ab lb) (hna' : la ≠ [] → ∀ b' off', aa = some ⟨b', off', none⟩ → b' ≠ g) (hnb'' : lb ≠ [] → ∀ b' off', ab = some ⟨b', off', none⟩ → b' ≠ g)
    (hla : Lim B64 la) (hlb : Lim B64 lb) (hsum : no = na + nb') :
    Calls Tryz.prog 70 #[.slice (some ⟨g, off, none⟩) no co, .slice aa na ca, .slice ab nb' cb] w fun e w' => e = .returned (.tuple #[]) ∧ InPl g off no (vb B64 la * vb B64 lb) w w' := by
  have HNO := Lib.hid hno
  have HNA := Lib.hid hna
  have HNB := Lib.hid hnb
  have HSUM := Lib.hid hsum
  have hnn : nb' ≤ no := by omega
  clear hno hna hnb hsum
  obtain ⟨w1, hclear, ho1', hon1⟩ := run_clear_words w 36 0 Tryz.underlying36 g off no co lo HNO.out.symm ho
  go_enter Tryz.func70, Tryz.ntmps70
  go_wp2
  go_loopw [11] (fun ii wr => ∃ (i : Nat) (l : List Int), i ≤ nb' ∧ ii = .int .i64 i ∧ Hid (l.length = no) ∧ Lim B64 l ∧ Arr wr g off l ∧ Only g off (off + no) w wr ∧ Hid (∀ j, i + na ≤ j → l.getD j 0 = 0) ∧ Hid (vb B64 l = vb B64 la * vb B64 (lb.take i)))
    (fun ii _ => nb' - (intOf ii).toNat)
  case atStart => exact ⟨0, List.replicate no 0, Nat.zero_le _, rfl, by show _ = _; simp, Lim.replicate B64_pos no, ho1', hon1, fun j _ => by rw [List.getD_eq_getElem?_getD, List.getElem?_replicate]; split <;> rfl, by show _ = _; rw [vb_replicate]; simp⟩
  case round =>
    obtain ⟨i, l, hi, rfl, HL, hlim, harr, honly, HZ, HV⟩ := hrel
    by_cases hlt : i < nb'
    · obtain ⟨b2, o2, rfl, hat2⟩ := hb.cases (by intro e; have := HNB.out; rw [e] at this; simp at this; omega)
      have hne2 := hnb'' (by intro e; have := HNB.out; rw [e] at this; simp at this; omega) b2 o2 rfl
      obtain ⟨x, hxe⟩ : ∃ x, x = lb.getD i 0 := ⟨_, rfl⟩
      have hil : i < lb.length := by rw [← HNB.out]; exact hlt
      have bx : 0 ≤ x ∧ x < B64 := by rw [hxe]; exact hlb.getD B64_pos i
      have bx0 : 0 ≤ x := bx.1
      have bx1 : x ≤ 18446744073709551615 := by have := bx.2; unfold B64 at this; omega
      have hcx : wr.cell? ⟨b2, o2 + i, none⟩ = some (.int .u64 x) := by rw [hxe]; exact honly.at' hat2 hne2 i hil
      have hsm := HSUM.out
      obtain ⟨p, hp⟩ : ∃ p, i + na = p := ⟨_, rfl⟩
      have hpI : (i : Int) + (na : Int) = (p : Int) := by omega
      have hpn : p < no := by omega
      have hra : Rd wr aa la := by
        rcases ha with rfl | ⟨b1, o1, rfl, hat1⟩
        · exact Rd.nil _ _
        · by_cases hl0 : la = []
          · subst hl0; exact Rd.nil _ _
          · exact Or.inr ⟨b1, o1, rfl, honly.at' hat1 (hna' hl0 b1 o1 rfl)⟩
      have hdl : no - i = (l.drop i).length := by rw [List.length_drop, HL.out]
      have hio : i ≤ no := by omega
      have HAP := Lib.hid (addProduct_any g (off + i) (no - i) (co - i) (l.drop i) aa na ca la x wr hdl HNA.out (by omega) (by omega) hc1 hc2 (harr.drop i) hra hna' (hlim.drop i) hla (by omega) bx0 bx1)
      have HSP := Lib.hid hp
      have hv2 : vb B64 la * vb B64 (lb.take (i + 1)) = vb B64 la * vb B64 (lb.take i) + B64 ^ i * (vb B64 la * x) := by
        rw [vb_take_succ B64 hil, ← hxe, Int.mul_add, Int.mul_left_comm]
      have HV2 := Lib.hid hv2
      clear hv2 hxe bx hat2 hdl hra hp hsm hil
      go_wp2_with (go_at_call 93; refine HAP.out.mono ?_; rintro e w2 ⟨c, l', rfl, hcc0, hcc1, hll', hlim', harr', hdr', hvv', hon'⟩; have htk := hon'.arr (harr.take i) (Or.inl (by rw [List.length_take]; omega)); have hapd := htk.append (show Arr w2 g (off + (l.take i).length) l' from by rw [List.length_take, HL.out, Nat.min_eq_left hio]; exact harr'); have hpc := hapd.at' p (by rw [List.length_append, List.length_take, HL.out, hll']; omega); have hpf := hapd.frozen (off + p); have HDR := Lib.hid hdr'; have HVV := Lib.hid hvv'; have HLL := Lib.hid hll'; clear hdr' hvv' hll')
      go_roundw
      case rel =>
        have hp := HSP.out
        have hsm := HSUM.out
        have hlen : (l.take i ++ l').length = no := by rw [List.length_append, List.length_take, HL.out, HLL.out]; omega
        have hlim2 : Lim B64 ((l.take i ++ l').set p c) := ((hlim.take i).app hlim').set p hcc0 hcc1
        have hst := rows_step (l := l) (l' := l') (i := i) (na := na) (c := c) (V := vb B64 la * x) (by rw [HL.out]; omega) (by rw [HLL.out, HL.out]) HDR.out HVV.out (HZ.out _ (Nat.le_refl _))
        rw [hp] at hst
        refine ⟨i + 1, (l.take i ++ l').set p c, by omega, by go_num, ?_, hlim2, hapd.store p c, (honly.trans (hon'.mono (by omega) (by omega))).trans (Only.store _ _ (by omega) (by omega)), ?_, ?_⟩
        · show _ = _
          rw [List.length_set]; exact hlen
        · intro j hj
          rw [getD_set_other _ (by omega), rows_get (by rw [HL.out]; omega) HDR.out (by omega)]
          exact HZ.out j (by omega)
        · show _ = _
          rw [hst, HV.out, HV2.out]
      case measure => simp [intOf]; omega
    · have hin : i = nb' := by omega
      have hv : vb B64 l = vb B64 la * vb B64 lb := by
        have h8 := HV.out
        rwa [hin, List.take_of_length_le (l := lb) (by rw [← HNB.out]; exact Nat.le_refl _)] at h8
      have HVF := Lib.hid hv
      clear hv hin HV
      go_wp2
      go_end0
      exact ⟨rfl, l, HL.out, hlim, harr, HVF.out, honly⟩


/-- nat.multiply does what it says on numbers of fewer than S words together. -/
def MulAt (S : Nat) : Prop := ∀ (g off no co : Nat) (lo : List Int) (aa : Option Addr) (na ca : Nat) (la : List Int) (ab : Option Addr) (nb' cb : Nat) (lb : List Int) (cut : Int) (w : World),
  na + nb' < S → no = lo.length → na = la.length → nb' = lb.length → no ≤ co → co ≤ 9223372036854775807 → na ≤ ca → ca ≤ 9223372036854775807 → nb' ≤ cb → cb ≤ 9223372036854775807 →
  Arr w g off lo → Rd w aa la → Rd w ab lb → (la ≠ [] → ∀ b' off', aa = some ⟨b', off', none⟩ → b' ≠ g) → (lb ≠ [] → ∀ b' off', ab = some ⟨b', off', none⟩ → b' ≠ g) →
  Lim B64 la → Lim B64 lb → no = na + nb' → no ≤ 17592186040000 → 2 ≤ cut → cut ≤ 9223372036854775807 →
  Calls Tryz.prog 30 #[.slice (some ⟨g, off, none⟩) no co, .slice aa na ca, .slice ab nb' cb, .int .i64 cut] w fun e w' => e = .returned (.tuple #[]) ∧ InPl g off no (vb B64 la * vb B64 lb) w w'

/-- A row of which the words from the t-th on have been written. -/
theorem splice {g off t n : Nat} {l : List Int} {N : Int} {w w' : World} (ha : Arr w g off l) (hl : Lim B64 l) (hn : l.length = n) (ht : t ≤ n) (h : InPl g (off + t) (n - t) N w w') :
    ∃ l2, l2.length = n ∧ Lim B64 l2 ∧ Arr w' g off l2 ∧ vb B64 l2 = vb B64 (l.take t) + B64 ^ t * N ∧ Only g off (off + n) w w' := by
  obtain ⟨l', hl', hlim', harr', hv', hon'⟩ := h
  have hlt : (l.take t).length = t := by rw [List.length_take]; omega
  have h1 := hon'.arr (ha.take t) (Or.inl (by rw [hlt]; exact Nat.le_refl _))
  refine ⟨l.take t ++ l', by rw [List.length_append, hlt]; omega, (hl.take t).app hlim', h1.append (by rw [hlt]; exact harr'), by rw [vb_append, hlt, hv'], hon'.mono (by omega) (by omega)⟩

/-- What a sum into the words from the t-th on may be. -/
theorem fit_tail {l : List Int} {t n : Nat} {P : Int} (hl : Lim B64 l) (hn : l.length = n) (ht : t ≤ n) (h : vb B64 l + B64 ^ t * P < B64 ^ n) : vb B64 (l.drop t) + P < B64 ^ (n - t) := by
  have h1 := vb_split B64 l t (by omega)
  have h2 := vb_nonneg B64_pos (hl.take t)
  have h3 : B64 ^ n = B64 ^ t * B64 ^ (n - t) := by rw [← Int.pow_add, show t + (n - t) = n by omega]
  have hp := pow_pos' B64_pos t
  have h4 : B64 ^ t * (vb B64 (l.drop t) + P) < B64 ^ t * B64 ^ (n - t) := by rw [Int.mul_add, ← h3]; omega
  exact Int.lt_of_mul_lt_mul_left h4 (Int.le_of_lt hp)

theorem Arr.below {w w' : World} {b off : Nat} {l : List Int} (h : Arr w b off l) (hb : Below w.heap.size w w') : Arr w' b off l := by
  have hlt := h.lt
  obtain ⟨cur, e, hh, hl⟩ := h
  exact ⟨cur, e, (hb.block b hlt).trans hh, hl⟩

theorem prod_lt {X Y A B : Int} (h1 : X < A) (h2 : Y < B) (h3 : 0 ≤ X) (h4 : 0 ≤ Y) : X * Y < A * B := by
  have e1 := Int.mul_le_mul_of_nonneg_left (Int.le_of_lt h2) h3
  have e2 := Int.mul_lt_mul_of_pos_right h1 (show 0 < B by omega)
  omega

theorem piece_split {la : List Int} {t u : Nat} (h1 : t ≤ u) (h2 : u ≤ la.length) : vb B64 (la.take u) = vb B64 (la.take t) + B64 ^ t * vb B64 ((la.drop t).take (u - t)) := by
  have h := vb_split B64 (la.take u) t (by rw [List.length_take]; omega)
  rw [List.take_take, Nat.min_eq_left h1, List.drop_take] at h
  exact h

set_option maxRecDepth 100000 in
set_option maxHeartbeats 4000000 in
theorem multiplyPieces_any (g off no co : Nat) (lo : List Int) (aa : Option Addr) (na ca : Nat) (la : List Int) (ab : Option Addr) (nb' cb : Nat) (lb : List Int) (cut : Int) (w : World) (ih : MulAt (na + nb')) (hno : no = lo.length) (hna : na = la.length) (hnb : nb' = lb.length)
    (ho1 : no ≤ co) (ho2 : co ≤ 9223372036854775807) (hc1 : na ≤ ca) (hc2 : ca ≤ 9223372036854775807) (hd1 : nb' ≤ cb) (hd2 : cb ≤ 9223372036854775807)
    (ho : Arr w g off lo) (ha : Rd w aa la) (hb : Rd w ab lb) (hna' : la ≠ [] → ∀ b' off', aa = some ⟨b', off', none⟩ → b' ≠ g) (hnb'' : lb ≠ [] → ∀ b' off', ab = some ⟨b', off', none⟩ → b' ≠ g)
    (hla : Lim B64 la) (hlb : Lim B64 lb) (hsum : no = na + nb') (hM : no ≤ 17592186040000) (hcut : 2 ≤ cut) (hcut2 : cut ≤ 9223372036854775807) (hlt2 : nb' < na) (hnb2 : 1 ≤ nb') :
    Calls Tryz.prog 71 #[.slice (some ⟨g, off, none⟩) no co, .slice aa na ca, .slice ab nb' cb, .int .i64 cut] w fun e w' => e = .returned (.tuple #[]) ∧ InPl g off no (vb B64 la * vb B64 lb) w w' := by
  have HNO := Lib.hid hno
  have HNA := Lib.hid hna
  have HNB := Lib.hid hnb
  have HSUM := Lib.hid hsum
  have HIH := Lib.hid ih
  have hnn : nb' ≤ no := by omega
  have hnn2 : na ≤ no := by omega
  obtain ⟨b1, o1, rfl, hat1⟩ := ha.cases (by intro e; rw [e] at hna; simp at hna; omega)
  obtain ⟨b2, o2, rfl, hat2⟩ := hb.cases (by intro e; rw [e] at hnb; simp at hnb; omega)
  have hne1 := hna' (by intro e; rw [e] at hna; simp at hna; omega) b1 o1 rfl
  have hne2 := hnb'' (by intro e; rw [e] at hnb; simp at hnb; omega) b2 o2 rfl
  have hg := ho.lt
  clear hno hna hnb hsum ih ha hb hna' hnb''
  obtain ⟨w1, hclear, ho1', hon1⟩ := run_clear_words w 36 0 Tryz.underlying36 g off no co lo HNO.out.symm ho
  go_enter Tryz.func71, Tryz.ntmps71
  go_wp2
  go_loopw [8] (fun ii wr => ∃ (t : Nat) (l : List Int), t ≤ na + nb' ∧ ii = .int .i64 t ∧ Hid (l.length = no) ∧ Lim B64 l ∧ Arr wr g off l ∧ Only g off (off + no) w wr ∧ Hid (vb B64 l = vb B64 (la.take t) * vb B64 lb))
    (fun ii _ => na - (intOf ii).toNat)
  case atStart => exact ⟨0, List.replicate no 0, Nat.zero_le _, rfl, by show _ = _; simp, Lim.replicate B64_pos no, ho1', hon1, by show _ = _; rw [vb_replicate]; simp⟩
  case round =>
    obtain ⟨t, l, ht, rfl, HL, hlim, harr, honly, HV⟩ := hrel
    by_cases hlt : t < na
    · have hsm := HSUM.out
      obtain ⟨u, hu⟩ : ∃ u, min (t + nb') na = u := ⟨_, rfl⟩
      have huI : min ((t : Int) + (nb' : Int)) (na : Int) = (u : Int) := by omega
      have htu : t < u := by omega
      have hun : u ≤ na := by omega
      have hut : u ≤ t + nb' := by omega
      obtain ⟨pl, hpl⟩ : ∃ pl, u - t = pl := ⟨_, rfl⟩
      have hpl0 : 0 < pl := by omega
      have hplb : pl ≤ nb' := by omega
      obtain ⟨N2, hN2⟩ : ∃ N2, pl + nb' = N2 := ⟨_, rfl⟩
      have hN2I : (pl : Int) + (nb' : Int) = (N2 : Int) := by omega
      have hN2M : N2 ≤ MaxW := by unfold MaxW; omega
      have hN2n : N2 ≤ no - t := by omega
      have htu2 : (t : Int) ≤ (u : Int) := by omega
      obtain ⟨pc, hpc⟩ : ∃ pc, pc = (la.drop t).take pl := ⟨_, rfl⟩
      have hpcl : pl = pc.length := by rw [hpc, List.length_take, List.length_drop, ← HNA.out]; omega
      have hpclim : Lim B64 pc := by rw [hpc]; exact (hla.drop t).take pl
      have hsplit : vb B64 (la.take u) = vb B64 (la.take t) + B64 ^ t * vb B64 pc := by rw [hpc, ← hpl]; exact piece_split (by omega) (by rw [← HNA.out]; exact hun)
      have hatp : At wr b1 (o1 + t) pc := by rw [hpc]; exact ((honly.at' hat1 hne1).drop t).take pl
      have hatb : At wr b2 o2 lb := honly.at' hat2 hne2
      have hpc0 : pc ≠ [] := by intro e; rw [e] at hpcl; simp at hpcl; omega
      have hlb0 : lb ≠ [] := by intro e; have := HNB.out; rw [e] at this; simp at this; omega
      have hb1lt := hatp.lt hpc0
      have hb2lt := hatb.lt hlb0
      have hglt := harr.lt
      have hfitv : vb B64 l + B64 ^ t * (vb B64 pc * vb B64 lb) = vb B64 (la.take u) * vb B64 lb := by
        rw [HV.out, hsplit, Int.add_mul, Int.mul_assoc]
      have hfit2 : vb B64 (la.take u) * vb B64 lb < B64 ^ no := by
        have e1 := vb_lt B64_pos (hla.take u)
        have e2 := vb_lt B64_pos hlb
        have e0 := vb_nonneg B64_pos (hla.take u)
        have e00 := vb_nonneg B64_pos hlb
        rw [List.length_take, ← HNA.out, Nat.min_eq_left hun] at e1
        rw [← HNB.out] at e2
        have e3 : B64 ^ (u + nb') ≤ B64 ^ no := pow_le_pow B64_pos (by omega)
        rw [Int.pow_add] at e3
        exact Int.lt_of_lt_of_le (prod_lt e1 e2 e0 e00) e3
      have HPCL := Lib.hid hpcl
      have HFV := Lib.hid hfitv
      have HF2 := Lib.hid hfit2
      have HU := Lib.hid hu
      have hs4 : N2 < na + nb' := by omega
      clear hsplit hfitv hfit2 hpc hpcl hsm hu
      go_wp2_with (at_make; refine wpList_make_words wr rfl (.tmp 34) (.tmp 34) 36 rfl Tryz.underlying36 info_u64 _ _ N2 rfl rfl (by omega) (by omega) hN2M ?_; intro w2 hw2 hb2 hs2)
      have harrp := hw2.arr.1
      have hbwr : wr.heap.size ≤ w2.heap.size := hb2.size
      refine (HIH.out wr.heap.size 0 N2 N2 (List.replicate N2 0) (some ⟨b1, o1 + t, none⟩) pl (ca - t) pc (some ⟨b2, o2, none⟩) nb' cb lb cut w2 (by omega) (by simp) HPCL.out HNB.out (Nat.le_refl _) (by omega) (by omega) (by omega) hd1 hd2 harrp (Rd.of_at (hatp.below hb2)) (Rd.of_at (hatb.below hb2)) (fun _ b' off' e => by cases e; omega) (fun _ b' off' e => by cases e; omega) hpclim hlb hN2.symm (by omega) hcut hcut2).mono ?_
      rintro e w3 ⟨rfl, lp, hlp, hlimp, harrp3, hvp, honp⟩
      have hb13 : Below wr.heap.size wr w3 := hb2.trans (honp.below (Nat.le_refl _) hbwr)
      have harr3 := harr.below hb13
      have hdl : no - t = (l.drop t).length := by rw [List.length_drop, HL.out]
      have HLP := Lib.hid hlp
      have hno_t : no - t ≤ co - t := by omega
      have hfit := fit_tail (P := vb B64 lp) hlim HL.out (show t ≤ no by omega) (by rw [hvp, HFV.out]; exact HF2.out)
      have HADD := Lib.hid (addTo_any g (off + t) (no - t) (co - t) (l.drop t) (some ⟨wr.heap.size, 0, none⟩) N2 N2 lp w3 hdl hlp.symm hno_t (by omega) (Nat.le_refl _) (by omega) (harr3.drop t) (Rd.of_at harrp3.at') (fun _ b' off' e => by cases e; omega) (hlim.drop t) hlimp hfit hN2n)
      have HVP := Lib.hid hvp
      clear hlp hdl hfit hvp
      go_wp2_with fail
      refine HADD.out.mono ?_
      rintro e w4 ⟨rfl, hin⟩
      obtain ⟨l2, hl2, hlim2, harr4, hv4, hon4⟩ := splice harr3 hlim HL.out (show t ≤ no by omega) hin
      have hval : vb B64 l2 = vb B64 (la.take (t + nb')) * vb B64 lb := by
        have e1 := vb_split B64 l t (by rw [HL.out]; omega)
        have e2 : la.take (t + nb') = la.take u := by
          have hu := HU.out
          by_cases hm : t + nb' ≤ na
          · rw [show u = t + nb' by omega]
          · rw [show u = na by omega, List.take_of_length_le (by rw [← HNA.out]; omega), List.take_of_length_le (by rw [← HNA.out]; exact Nat.le_refl _)]
        rw [hv4, Int.mul_add, ← Int.add_assoc, ← e1, HVP.out, HFV.out, e2]
      have HVAL := Lib.hid hval
      have HL2 := Lib.hid hl2
      clear hv4 hval hl2
      go_wp2_with fail
      go_roundw
      case rel => exact ⟨t + nb', l2, by omega, by go_num, HL2.out, hlim2, harr4, (honly.trans (Only.of_below hb13)).trans hon4, HVAL.out⟩
      case measure => simp [intOf]; omega
    · have hv : vb B64 l = vb B64 la * vb B64 lb := by
        have h8 := HV.out
        rwa [List.take_of_length_le (l := la) (by rw [← HNA.out]; omega)] at h8
      have HVF := Lib.hid hv
      clear hv HV
      go_wp2
      go_end0
      exact ⟨rfl, l, HL.out, hlim, harr, HVF.out, honly⟩

end Go.Proofs.YthfcncapgfkkjaaGreatDoor
