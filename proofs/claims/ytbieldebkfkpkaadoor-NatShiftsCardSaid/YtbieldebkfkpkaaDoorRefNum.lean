/-
  Contract of the reference's Add.
  Numbers of the document's own answers: slices of digits of base 2^32, the number that such a slice reads as, and how many digits it has at most. The contracts of the document's functions in these words.
-/
import Derived.Test.YtbieldebkfkpkaaDoorRef1
import Derived.Test.YtbieldebkfkpkaaDoorRefCmp
import Derived.Test.YtbieldebkfkpkaaDoorRefShift
import Derived.Test.YtbieldebkfkpkaaDoorNum
namespace Go.Proofs.YtbieldebkfkpkaaDoor
open Go.RowKit


theorem radd_step {out a b : List Int} {i : Nat} {c x y s : Int} (hs : s = c + x + y) (hl : out.length = i) (h : vb B32 out + B32 ^ i * c = vb B32 (a.take i) + vb B32 (b.take i))
    (ha : vb B32 (a.take (i + 1)) = vb B32 (a.take i) + B32 ^ i * x) (hb : vb B32 (b.take (i + 1)) = vb B32 (b.take i) + B32 ^ i * y) :
    vb B32 (out ++ [s % 4294967296]) + B32 ^ (i + 1) * (s / 4294967296) = vb B32 (a.take (i + 1)) + vb B32 (b.take (i + 1)) := by
  subst hs
  rw [vb_snoc, hl, ha, hb, Int.pow_succ, Int.mul_assoc, Int.add_assoc, ← Int.mul_add]
  have e : (c + x + y) % 4294967296 + B32 * ((c + x + y) / 4294967296) = c + (x + y) := by unfold B32; omega
  rw [e, Int.mul_add, Int.mul_add]
  omega
theorem take_beyond {a : List Int} {i : Nat} (h : a.length ≤ i) : vb B32 (a.take (i + 1)) = vb B32 (a.take i) + B32 ^ i * 0 := by
  rw [List.take_of_length_le (by omega), List.take_of_length_le h]; simp

set_option maxRecDepth 100000 in
set_option maxHeartbeats 2000000 in
theorem radd_any (ax : Option Addr) (na ca : Nat) (a : List Int) (ay : Option Addr) (nb' cb : Nat) (b : List Int) (w : World) (hna : na = a.length) (hnb : nb' = b.length) (_h1 : na ≤ ca) (_h2 : ca ≤ 9223372036854775807) (_h3 : nb' ≤ cb) (_h4 : cb ≤ 9223372036854775807)
    (hx : Rd w ax a) (hy : Rd w ay b) (hla : Lim B32 a) (hlb : Lim B32 b) (hMa : na + 2 ≤ MaxW) (hMb : nb' + 2 ≤ MaxW) :
    Calls Tryd.prog 66 #[.slice ax na ca, .slice ay nb' cb] w fun e w' => RetRd B32 w (vb B32 a + vb B32 b) e w' := by
  have HA := Lib.hid hna
  have HB := Lib.hid hnb
  clear hna hnb
  go_enter Tryd.func66, Tryd.ntmps66
  go_wp2
  go_loopw [5, 6, 7] (fun v cc ii wr => ∃ (i : Nat) (c : Int) (out : List Int), ii = .int .i64 i ∧ cc = .int .u64 c ∧ 0 ≤ c ∧ c ≤ 1 ∧ (i ≤ na ∨ i ≤ nb' ∨ c = 0) ∧ i ≤ na + nb' + 1 ∧ (i = na + nb' + 1 → c = 0) ∧ Hid (out.length = i) ∧ Lim B32 out ∧ Ow w.heap.size wr v out ∧ Below w.heap.size w wr ∧ Hid (vb B32 out + B32 ^ i * c = vb B32 (a.take i) + vb B32 (b.take i)))
    (fun _ _ ii _ => (na + nb' + 2) - (intOf ii).toNat)
  case atStart => exact ⟨0, 0, [], rfl, rfl, Int.le_refl _, by decide, by omega, by omega, fun _ => rfl, rfl, Lim.nil _, Ow.nil _ _, Below.refl _ _, rfl⟩
  case round =>
    obtain ⟨i, c, out, rfl, rfl, hc0, hc1, hor, hib, hic, HL, hlim, hO, hb, HV⟩ := hrel
    by_cases ha : i < na
    · by_cases hb' : i < nb'
      · obtain ⟨b1, o1, rfl, hat⟩ := hx.cases (by intro e; subst e; have := HA.out; simp at this; omega)
        obtain ⟨x, hxe⟩ : ∃ x, x = a.getD i 0 := ⟨_, rfl⟩
        have hcx : wr.cell? ⟨b1, o1 + i, none⟩ = some (.int .u64 x) := by rw [hxe]; exact hat.below hb i (by rw [← HA.out]; exact ha)
        have bx : 0 ≤ x ∧ x < 4294967296 := by rw [hxe]; exact hla.getD B32_pos _
        obtain ⟨bx0, bx1⟩ := bx
        have hta : vb B32 (a.take (i + 1)) = vb B32 (a.take i) + B32 ^ i * x := by rw [hxe]; exact vb_take_succ _ (by rw [← HA.out]; exact ha)
        obtain ⟨b2, o2, rfl, hat2⟩ := hy.cases (by intro e; subst e; have := HB.out; simp at this; omega)
        obtain ⟨y, hye⟩ : ∃ y, y = b.getD i 0 := ⟨_, rfl⟩
        have hcy : wr.cell? ⟨b2, o2 + i, none⟩ = some (.int .u64 y) := by rw [hye]; exact hat2.below hb i (by rw [← HB.out]; exact hb')
        have bY : 0 ≤ y ∧ y < 4294967296 := by rw [hye]; exact hlb.getD B32_pos _
        obtain ⟨by0, by1⟩ := bY
        have htb : vb B32 (b.take (i + 1)) = vb B32 (b.take i) + B32 ^ i * y := by rw [hye]; exact vb_take_succ _ (by rw [← HB.out]; exact hb')
        have hst := radd_step (s := c + x + y) (c := c) (x := x) (y := y) (by omega) HL.out HV.out hta htb
        have HST := Lib.hid hst
        have hM : out.length + 1 ≤ MaxW := by rw [HL.out]; omega
        have hi63 : i + 1 ≤ 9223372036854775807 := by have h1 := hMa; have h2 := hMb; unfold MaxW at h1 h2; omega
        clear hst hta htb hxe hat hye hat2
        go_wp2_with (at_builtin; refine wpList_append_words _ rfl _ _ 25 rfl Tryd.underlying25 info_u64 w.heap.size u5 out rfl (hO.alloc _) ⟨wr.heap.size, 0, none⟩ 1 1 [(c + x + y) % 4294967296] rfl rfl (news1 _ _ _) hM (by have := hb.size; simp; omega) ?_; intro v' w1 hO1 hb1)
        go_roundw
        case rel => exact ⟨i + 1, (c + x + y) / 4294967296, out ++ [(c + x + y) % 4294967296], by go_num, rfl, by omega, by omega, by omega, by omega, fun h => by omega, by show _ = _; rw [List.length_append, HL.out]; rfl, hlim.app (Lim.cons (by omega) (by unfold B32; omega) (Lim.nil _)), by assumption, (hb.alloc hb.size _).trans (by assumption), HST.out⟩
        case measure => simp [intOf]; omega
      · obtain ⟨b1, o1, rfl, hat⟩ := hx.cases (by intro e; subst e; have := HA.out; simp at this; omega)
        obtain ⟨x, hxe⟩ : ∃ x, x = a.getD i 0 := ⟨_, rfl⟩
        have hcx : wr.cell? ⟨b1, o1 + i, none⟩ = some (.int .u64 x) := by rw [hxe]; exact hat.below hb i (by rw [← HA.out]; exact ha)
        have bx : 0 ≤ x ∧ x < 4294967296 := by rw [hxe]; exact hla.getD B32_pos _
        obtain ⟨bx0, bx1⟩ := bx
        have hta : vb B32 (a.take (i + 1)) = vb B32 (a.take i) + B32 ^ i * x := by rw [hxe]; exact vb_take_succ _ (by rw [← HA.out]; exact ha)
        have htb : vb B32 (b.take (i + 1)) = vb B32 (b.take i) + B32 ^ i * 0 := take_beyond (by rw [← HB.out]; omega)
        have hst := radd_step (s := c + x) (c := c) (x := x) (y := 0) (by omega) HL.out HV.out hta htb
        have HST := Lib.hid hst
        have hM : out.length + 1 ≤ MaxW := by rw [HL.out]; omega
        have hi63 : i + 1 ≤ 9223372036854775807 := by have h1 := hMa; have h2 := hMb; unfold MaxW at h1 h2; omega
        clear hst hta htb hxe hat
        go_wp2_with (at_builtin; refine wpList_append_words _ rfl _ _ 25 rfl Tryd.underlying25 info_u64 w.heap.size u5 out rfl (hO.alloc _) ⟨wr.heap.size, 0, none⟩ 1 1 [(c + x) % 4294967296] rfl rfl (news1 _ _ _) hM (by have := hb.size; simp; omega) ?_; intro v' w1 hO1 hb1)
        go_roundw
        case rel => exact ⟨i + 1, (c + x) / 4294967296, out ++ [(c + x) % 4294967296], by go_num, rfl, by omega, by omega, by omega, by omega, fun h => by omega, by show _ = _; rw [List.length_append, HL.out]; rfl, hlim.app (Lim.cons (by omega) (by unfold B32; omega) (Lim.nil _)), by assumption, (hb.alloc hb.size _).trans (by assumption), HST.out⟩
        case measure => simp [intOf]; omega
    · by_cases hb' : i < nb'
      · have hta : vb B32 (a.take (i + 1)) = vb B32 (a.take i) + B32 ^ i * 0 := take_beyond (by rw [← HA.out]; omega)
        obtain ⟨b2, o2, rfl, hat2⟩ := hy.cases (by intro e; subst e; have := HB.out; simp at this; omega)
        obtain ⟨y, hye⟩ : ∃ y, y = b.getD i 0 := ⟨_, rfl⟩
        have hcy : wr.cell? ⟨b2, o2 + i, none⟩ = some (.int .u64 y) := by rw [hye]; exact hat2.below hb i (by rw [← HB.out]; exact hb')
        have bY : 0 ≤ y ∧ y < 4294967296 := by rw [hye]; exact hlb.getD B32_pos _
        obtain ⟨by0, by1⟩ := bY
        have htb : vb B32 (b.take (i + 1)) = vb B32 (b.take i) + B32 ^ i * y := by rw [hye]; exact vb_take_succ _ (by rw [← HB.out]; exact hb')
        have hst := radd_step (s := c + y) (c := c) (x := 0) (y := y) (by omega) HL.out HV.out hta htb
        have HST := Lib.hid hst
        have hM : out.length + 1 ≤ MaxW := by rw [HL.out]; omega
        have hi63 : i + 1 ≤ 9223372036854775807 := by have h1 := hMa; have h2 := hMb; unfold MaxW at h1 h2; omega
        clear hst hta htb hye hat2
        go_wp2_with (at_builtin; refine wpList_append_words _ rfl _ _ 25 rfl Tryd.underlying25 info_u64 w.heap.size u5 out rfl (hO.alloc _) ⟨wr.heap.size, 0, none⟩ 1 1 [(c + y) % 4294967296] rfl rfl (news1 _ _ _) hM (by have := hb.size; simp; omega) ?_; intro v' w1 hO1 hb1)
        go_roundw
        case rel => exact ⟨i + 1, (c + y) / 4294967296, out ++ [(c + y) % 4294967296], by go_num, rfl, by omega, by omega, by omega, by omega, fun h => by omega, by show _ = _; rw [List.length_append, HL.out]; rfl, hlim.app (Lim.cons (by omega) (by unfold B32; omega) (Lim.nil _)), by assumption, (hb.alloc hb.size _).trans (by assumption), HST.out⟩
        case measure => simp [intOf]; omega
      · by_cases hc : 0 < c
        · have hta : vb B32 (a.take (i + 1)) = vb B32 (a.take i) + B32 ^ i * 0 := take_beyond (by rw [← HA.out]; omega)
          have htb : vb B32 (b.take (i + 1)) = vb B32 (b.take i) + B32 ^ i * 0 := take_beyond (by rw [← HB.out]; omega)
          have hst := radd_step (s := c) (c := c) (x := 0) (y := 0) (by omega) HL.out HV.out hta htb
          have HST := Lib.hid hst
          have hM : out.length + 1 ≤ MaxW := by rw [HL.out]; omega
          have hi63 : i + 1 ≤ 9223372036854775807 := by have h1 := hMa; have h2 := hMb; unfold MaxW at h1 h2; omega
          clear hst hta htb
          go_wp2_with (at_builtin; refine wpList_append_words _ rfl _ _ 25 rfl Tryd.underlying25 info_u64 w.heap.size u5 out rfl (hO.alloc _) ⟨wr.heap.size, 0, none⟩ 1 1 [(c) % 4294967296] rfl rfl (news1 _ _ _) hM (by have := hb.size; simp; omega) ?_; intro v' w1 hO1 hb1)
          go_roundw
          case rel => exact ⟨i + 1, (c) / 4294967296, out ++ [(c) % 4294967296], by go_num, rfl, by omega, by omega, by omega, by omega, fun h => by omega, by show _ = _; rw [List.length_append, HL.out]; rfl, hlim.app (Lim.cons (by omega) (by unfold B32; omega) (Lim.nil _)), by assumption, (hb.alloc hb.size _).trans (by assumption), HST.out⟩
          case measure => simp [intOf]; omega
        · have hcz : c = 0 := by omega
          have hval : vb B32 out = vb B32 a + vb B32 b := by
            have := HV.out
            rw [hcz, Int.mul_zero, Int.add_zero, List.take_of_length_le (by rw [← HA.out]; omega), List.take_of_length_le (by rw [← HB.out]; omega)] at this
            exact this
          have HVAL := Lib.hid hval
          subst hcz
          obtain ⟨ao', cap', rfl, hq1, hq2, hr, hfr⟩ := hO.form'
          rw [HL.out] at hq1 ⊢
          clear hval
          go_wp2_with (go_at_call 56; refine (rtrim_any ao' i cap' out _ HL.out.symm hq1 hq2 hr).mono ?_; rintro e w' ⟨rfl, rfl⟩)
          go_ret
          have htl := tlen_le out
          exact ⟨ao', tlen out, tlen out, tr out, rfl, (tr_length _).symm, Nat.le_refl _, by have := HL.out; omega, hr.take _, can_tr hlim, by rw [vb_tr]; exact HVAL.out, hb, hfr⟩


/-- A slice reads as a number of at most m digits of base 2^32, without zeros at its end. -/
def RN (w : World) (v : Value) (N : Int) (m : Nat) : Prop := ∃ l a c, v = .slice a l.length c ∧ l.length ≤ c ∧ c ≤ 9223372036854775807 ∧ Rd w a l ∧ Can B32 l ∧ vb B32 l = N ∧ l.length ≤ m
/-- A function has returned such a number, and turned nothing that was there. -/
def RetR (w : World) (N : Int) (m : Nat) (e : Ending) (w' : World) : Prop := ∃ a n c, e = .returned (.slice a n c) ∧ RN w' (.slice a n c) N m ∧ Below w.heap.size w w'
/-- Two of them. -/
def RetR2 (w : World) (N M : Int) (m k : Nat) (e : Ending) (w' : World) : Prop := ∃ a n c a' n' c', e = .returned (.tuple #[.slice a n c, .slice a' n' c']) ∧ RN w' (.slice a n c) N m ∧ RN w' (.slice a' n' c') M k ∧ Below w.heap.size w w'

theorem RN.below {w w' : World} {v : Value} {N : Int} {m : Nat} (h : RN w v N m) (hb : Below w.heap.size w w') : RN w' v N m := by
  obtain ⟨l, a, c, h1, h2, h3, h4, h5⟩ := h
  exact ⟨l, a, c, h1, h2, h3, h4.below hb, h5⟩
theorem RN.open {w : World} {v : Value} {N : Int} {m : Nat} (h : RN w v N m) : ∃ a n c l, v = .slice a n c ∧ n = l.length ∧ n ≤ c ∧ c ≤ 9223372036854775807 ∧ Rd w a l ∧ Can B32 l ∧ vb B32 l = N ∧ n ≤ m := by
  obtain ⟨l, a, c, rfl, h2, h3, h4, h5, h6, h7⟩ := h
  exact ⟨a, _, c, l, rfl, rfl, h2, h3, h4, h5, h6, h7⟩
theorem RN.mono {w : World} {v : Value} {N : Int} {m k : Nat} (h : RN w v N m) (hk : m ≤ k) : RN w v N k := by
  obtain ⟨l, a, c, h1, h2, h3, h4, h5, h6, h7⟩ := h
  exact ⟨l, a, c, h1, h2, h3, h4, h5, h6, by omega⟩
theorem RN.eq {w : World} {v : Value} {N N' : Int} {m : Nat} (h : RN w v N m) (e : N = N') : RN w v N' m := e ▸ h
theorem RN.nonneg {w : World} {v : Value} {N : Int} {m : Nat} (h : RN w v N m) : 0 ≤ N := by
  obtain ⟨l, a, c, h1, h2, h3, h4, h5, rfl, h7⟩ := h
  exact vb_nonneg B32_pos h5.lim
theorem RN.lt {w : World} {v : Value} {N : Int} {m : Nat} (h : RN w v N m) : N < B32 ^ m := by
  obtain ⟨l, a, c, h1, h2, h3, h4, h5, rfl, h7⟩ := h
  exact Int.lt_of_lt_of_le (vb_lt B32_pos h5.lim) (pow_le_pow B32_pos h7)
theorem RN.tight {w : World} {v : Value} {N : Int} {m k : Nat} (h : RN w v N m) (hk : N < B32 ^ k) : RN w v N k := by
  obtain ⟨l, a, c, h1, h2, h3, h4, h5, rfl, h7⟩ := h
  exact ⟨l, a, c, h1, h2, h3, h4, h5, rfl, room_of B32_pos h5 hk⟩
theorem RN.nil (w : World) (m : Nat) : RN w (.slice none 0 0) 0 m := ⟨[], none, 0, rfl, Nat.le_refl _, by decide, Rd.nil _ _, Can.nil _, rfl, Nat.zero_le _⟩
/-- No digit is left of 0 alone. -/
theorem RN.len {w : World} {a : Option Addr} {n c : Nat} {N : Int} {m : Nat} (h : RN w (.slice a n c) N m) : (n = 0 ↔ N = 0) ∧ n ≤ m := by
  obtain ⟨l, a', c', he, h2, h3, h4, h5, h6, h7⟩ := h
  simp only [Value.slice.injEq] at he
  obtain ⟨_, rfl, _⟩ := he
  refine ⟨⟨fun h0 => ?_, fun h0 => ?_⟩, h7⟩
  · rw [← h6, List.eq_nil_of_length_eq_zero h0]; rfl
  · rw [h5.eq_nil B32_pos (by rw [h6]; exact h0)]; rfl
theorem RetRd.retr {w : World} {N : Int} {m : Nat} {e : Ending} {w' : World} (h : RetRd B32 w N e w') (hm : N < B32 ^ m) : RetR w N m e w' := by
  obtain ⟨a, n, c, l, rfl, rfl, h2, h3, h4, h5, h6, h7, _⟩ := h
  exact ⟨a, _, c, rfl, ⟨l, a, c, rfl, h2, h3, h4, h5, h6, room_of B32_pos h5 (by rw [h6]; exact hm)⟩, h7⟩

theorem pow32_le {m k : Nat} (h : m ≤ k) : B32 ^ m ≤ B32 ^ k := pow_le_pow B32_pos h
theorem B64_B32 (m : Nat) : (B64 : Int) ^ m = B32 ^ (2 * m) := by rw [Int.pow_mul]; rfl

theorem from_num {w : World} {u : Value} {N : Int} {m : Nat} (h : Num w u N m) (hm : m ≤ 100000) : Calls Tryd.prog 9 #[u] w fun e w' => RetR w N (2 * m) e w' := by
  have hlt := h.lt
  rw [B64_B32] at hlt
  obtain ⟨a, n, c, l, rfl, h1, h2, h3, h4, h5, rfl, h7⟩ := h.open
  exact (from_any a n c l w h1 h2 h3 h4 h5 (by unfold MaxW; omega)).mono fun e w' hr => hr.retr hlt
theorem small_num (v : Int) (w : World) (h0 : 0 ≤ v) (h1 : v ≤ 18446744073709551615) : Calls Tryd.prog 52 #[.int .u64 v] w fun e w' => RetR w v 2 e w' :=
  (small_any v w h0 h1).mono fun e w' hr => hr.retr (by show v < 18446744073709551616; omega)
theorem limbs_num {w : World} {u : Value} {N : Int} {m k : Nat} (h : RN w u N m) (hm : m ≤ 100000) (hk : m ≤ 2 * k) : Calls Tryd.prog 76 #[u] w fun e w' => RetN w N k e w' := by
  have hlt := h.lt
  have hle := pow32_le hk
  rw [← B64_B32] at hle
  obtain ⟨a, n, c, l, rfl, h1, h2, h3, h4, h5, rfl, h7⟩ := h.open
  exact (limbs_any a n c l w h1 h2 h3 h4 h5 (by unfold MaxW; omega)).mono fun e w' hr => hr.retn (by omega)
theorem rcmp_num {w : World} {u v : Value} {A B : Int} {m k : Nat} (h : RN w u A m) (g : RN w v B k) : Calls Tryd.prog 67 #[u, v] w fun e w' => RetV w (.int .i64 (cmpI A B)) e w' := by
  obtain ⟨a, n, c, l, rfl, h1, h2, h3, h4, h5, rfl, h7⟩ := h.open
  obtain ⟨a', n', c', l', rfl, g1, g2, g3, g4, g5, rfl, g7⟩ := g.open
  exact rcmp_any a n c l a' n' c' l' w h1 g1 h2 h3 g2 g3 h4 g4 h5 g5
theorem two_pow_le32 {A B : Int} {m k p : Nat} (h : A < B32 ^ m) (g : B < B32 ^ k) (hm : m < p) (hk : k < p) : A + B < B32 ^ p := by
  have e : B32 ^ p = B32 ^ (p - 1) * 4294967296 := by rw [show p = p - 1 + 1 by omega, Int.pow_succ, Nat.add_sub_cancel]; rfl
  have h1 := pow_le_pow B32_pos (show m ≤ p - 1 by omega)
  have h2 := pow_le_pow B32_pos (show k ≤ p - 1 by omega)
  have h3 := pow_pos' B32_pos (p - 1)
  omega
theorem radd_num {w : World} {u v : Value} {A B : Int} {m k p : Nat} (h : RN w u A m) (g : RN w v B k) (hm : m < p) (hk : k < p) (hp : p ≤ 200000) : Calls Tryd.prog 66 #[u, v] w fun e w' => RetR w (A + B) p e w' := by
  have hs := two_pow_le32 h.lt g.lt hm hk
  obtain ⟨a, n, c, l, rfl, h1, h2, h3, h4, h5, rfl, h7⟩ := h.open
  obtain ⟨a', n', c', l', rfl, g1, g2, g3, g4, g5, rfl, g7⟩ := g.open
  exact (radd_any a n c l a' n' c' l' w h1 g1 h2 h3 g2 g3 h4 g4 h5.lim g5.lim (by unfold MaxW; omega) (by unfold MaxW; omega)).mono fun e w' hr => hr.retr hs
theorem mul_lt32 {A B : Int} {m k p : Nat} (h0 : 0 ≤ A) (h : A < B32 ^ m) (g : B < B32 ^ k) (hp : m + k ≤ p) : A * B < B32 ^ p := by
  have h1 := pow_pos' B32_pos m
  have h2 := pow_pos' B32_pos k
  have h3 : A * B ≤ A * B32 ^ k := Int.mul_le_mul_of_nonneg_left (by omega) h0
  have h4 : A * B32 ^ k < B32 ^ m * B32 ^ k := Int.mul_lt_mul_of_pos_right h h2
  rw [← Int.pow_add] at h4
  have := pow32_le hp
  omega
theorem rmul_num {w : World} {u v : Value} {A B : Int} {m k p : Nat} (h : RN w u A m) (g : RN w v B k) (hp : m + k ≤ p) (hp2 : p ≤ 200000) : Calls Tryd.prog 23 #[u, v] w fun e w' => RetR w (A * B) p e w' := by
  have hs := mul_lt32 h.nonneg h.lt g.lt hp
  obtain ⟨a, n, c, l, rfl, h1, h2, h3, h4, h5, rfl, h7⟩ := h.open
  obtain ⟨a', n', c', l', rfl, g1, g2, g3, g4, g5, rfl, g7⟩ := g.open
  exact (rmul_any a n c l a' n' c' l' w h1 g1 h2 h3 g2 g3 h4 g4 h5.lim g5.lim (by unfold MaxW; omega)).mono fun e w' hr => hr.retr hs
theorem shl_lt32 {N : Int} {m k p : Nat} (h : N < B32 ^ m) (hp : m + k / 32 + 1 ≤ p) : N * 2 ^ k < B32 ^ p := by
  have h1 : (2 : Int) ^ k ≤ B32 ^ (k / 32 + 1) := by
    rw [show B32 ^ (k / 32 + 1) = 2 ^ (32 * (k / 32 + 1)) by rw [Int.pow_mul]; rfl]
    exact pow_le_pow (by decide) (by omega)
  have h2 := pow2_pos k
  have h3 : N * 2 ^ k < B32 ^ m * 2 ^ k := Int.mul_lt_mul_of_pos_right h h2
  have h4 : B32 ^ m * 2 ^ k ≤ B32 ^ m * B32 ^ (k / 32 + 1) := Int.mul_le_mul_of_nonneg_left h1 (Int.le_of_lt (pow_pos' B32_pos m))
  rw [← Int.pow_add] at h4
  have h5 := pow_le_pow B32_pos (show m + (k / 32 + 1) ≤ p by omega)
  omega
theorem rshl_num {w : World} {u : Value} {N : Int} {m p : Nat} (k : Nat) (h : RN w u N m) (hk : k ≤ 16777216) (hp : m + k / 32 + 1 ≤ p) (hm : m ≤ 200000) : Calls Tryd.prog 15 #[u, .int .i64 k] w fun e w' => RetR w (N * 2 ^ k) p e w' := by
  have hs := shl_lt32 h.lt hp
  obtain ⟨a, n, c, l, rfl, h1, h2, h3, h4, h5, rfl, h7⟩ := h.open
  exact (rshl_any a n c l k w h1 h2 h3 h4 h5.lim hk (by unfold MaxW; omega)).mono fun e w' hr => hr.retr hs
theorem rshr_num {w : World} {u : Value} {N : Int} {m : Nat} (k : Nat) (h : RN w u N m) (hk : k ≤ 16777216) (hm : m ≤ 200000) : Calls Tryd.prog 16 #[u, .int .i64 k] w fun e w' => RetR w (N / 2 ^ k) m e w' := by
  have hs : N / 2 ^ k < B32 ^ m := Int.lt_of_le_of_lt (Int.ediv_le_self _ h.nonneg) h.lt
  obtain ⟨a, n, c, l, rfl, h1, h2, h3, h4, h5, rfl, h7⟩ := h.open
  exact (rshr_any a n c l k w h1 h2 h3 h4 h5.lim hk (by unfold MaxW; omega)).mono fun e w' hr => hr.retr hs
theorem rtrim_num {w : World} {a : Option Addr} {n c : Nat} {l : List Int} (hn : n = l.length) (h1 : n ≤ c) (h2 : c ≤ 9223372036854775807) (h : Rd w a l) (hl : Lim B32 l) :
    Calls Tryd.prog 56 #[.slice a n c] w fun e w' => e = .returned (.slice a (tlen l) (tlen l)) ∧ RN w (.slice a (tlen l) (tlen l)) (vb B32 l) n ∧ w = w' := by
  refine (rtrim_any a n c l w hn h1 h2 h).mono ?_
  rintro e w' ⟨rfl, rfl⟩
  have htl := tlen_le l
  exact ⟨rfl, ⟨tr l, a, tlen l, by rw [tr_length], by rw [tr_length]; exact Nat.le_refl _, by omega, h.take _, can_tr hl, vb_tr _ _, by rw [tr_length]; omega⟩, rfl⟩

end Go.Proofs.YtbieldebkfkpkaaDoor
