/-
  RefDiv: Contract of the document's own DivMod where the divisor has two digits or more: long division in digits of base 2^32.
-/
import Derived.Test.YtjmipbljoblnnaaDoorPk11
import Derived.Test.YtjmipbljoblnnaaDoorPk7
import Derived.Test.YtjmipbljoblnnaaDoorPk10
import Derived.Test.YtjmipbljoblnnaaDoorPk22
import Derived.Test.YtjmipbljoblnnaaDoorPk21
import Derived.ArgAppend
import Derived.Deep.CutBlock
import Derived.Deep.DeepCutAuto

namespace Go.Proofs.YtjmipbljoblnnaaDoor
open Go.RowKit

/-- append(words with no room behind them, words ..). -/
theorem wpList_append_full {P : Program} (w : World) {ops : Array Oper} {rest : List Oper} {o : Oper} {a : Act} {Q : Exit → Act → World → Prop} (hgd : o.guard = none) (s x : Operand) (t : TypeId)
    (ho : o.op = .call { callee := .builtin .append, args := #[s, x], argTypes := #[t, t] }) (ht : P.underlying t = some (.slice 50)) (hi : (P.info? 50).map (fun i => (i.zero, i.size, i.bytes)) = some (some (.int .u64 0), 1, 8))
    (b off n : Nat) (l : List Int) (hs : a.eval s = .slice (some ⟨b, off, none⟩) n n) (hn : n = l.length) (hat : At w b off l)
    (ad : Addr) (m c : Nat) (lm : List Int) (hx : a.eval x = .slice (some ad) m c) (hm : lm.length = m) (hm0 : 0 < m) (hnews : ∀ j, j < lm.length → w.cell? (ad.add j) = some (.int .u64 (lm.getD j 0)))
    (hM : n + m ≤ MaxW)
    (hK : ∀ v' w', Ow w.heap.size w' v' (l ++ lm) → Below w.heap.size w w' → wpList P ops Q rest (a.put o.dst v') w') : wpList P ops Q (o :: rest) a w := by
  obtain ⟨i, h2, h3, h4, h5⟩ := info_parts hi
  unfold MaxW at hM
  refine wpList_plain hgd fun K hK' => ?_
  obtain ⟨v', w', hr, hown, hgr⟩ := run_append_arg_grows (P := P) w t o.type 50 i (.int .u64 0) 1 8 ht h2 h3 h4 h5 rfl (by decide) ⟨b, off, none⟩ n n (vals l) (by rw [length_vals, hn, Nat.mul_one])
    (fun j u hu => by
      have hj : j < l.length := by have := (List.getElem?_eq_some_iff.1 hu).1; simpa [length_vals] using this
      rw [vals_get l j hj] at hu
      cases hu
      rw [addr_add_none]
      exact hat j hj)
    ad m c (vals lm) (by rw [length_vals, hm, Nat.mul_one])
    (fun j u hu => by
      have hj : j < lm.length := by have := (List.getElem?_eq_some_iff.1 hu).1; simpa [length_vals] using this
      rw [vals_get lm j hj] at hu
      cases hu
      exact hnews j hj) (by omega) (by unfold maxLen; omega) (by omega)
  unfold Oper.wp execOp
  simp only [ho, resolve, invoke, builtin, Sem.run_bind, Sem.run_pure, Result.andThen_ok, List.map_toArray, List.map_cons, List.map_nil, hs, hx, hr]
  refine hK' _ _ (hK v' w' ?_ ((Below.refl _ _).grown hgr (Nat.le_refl _) (fun g e => by cases e)))
  unfold Ow
  rw [List.length_append, ← vals_append, ← hn, hm]
  exact hown

/-- A row of the call's own that is not empty lies in a block of its own. -/
theorem Ow.row {base : Nat} {w : World} {v : Value} {l : List Int} (h : Ow base w v l) (hl : l ≠ []) : ∃ g n cap, v = .slice (some ⟨g, 0, none⟩) n cap ∧ n = l.length ∧ n ≤ cap ∧ cap ≤ 9223372036854775807 ∧ Arr w g 0 l ∧ base ≤ g ∧ g < w.heap.size := by
  have h' := h
  obtain ⟨ao, cap, rfl, h1, h2, h3⟩ := h.form
  rcases h.2 with ⟨hv, h0⟩ | ⟨g, cap', cur, hv, hg, hh, r⟩
  · exact absurd (List.eq_nil_of_length_eq_zero h0) hl
  · simp only [Value.slice.injEq] at hv
    obtain ⟨rfl, -, rfl⟩ := hv
    exact ⟨g, _, cap, rfl, rfl, h1, h2, h'.arr.1, hg, (Array.getElem?_eq_some_iff.1 hh).1⟩

theorem Arr.kept {w w' : World} {b off : Nat} {l : List Int} (h : Arr w b off l) (hb : Below w.heap.size w w') : Arr w' b off l := by
  have hlt := h.lt
  obtain ⟨cur, e, hh, hl⟩ := h
  exact ⟨cur, e, (hb.block b hlt).trans hh, hl⟩
/-- The digits of a divisor that is shifted until its top bit is one. -/
theorem norm_digits {lb lv : List Int} {s : Nat} (hb : Can B32 lb) (hv : Can B32 lv) (hne : lb ≠ []) (hs : s = (32 - nb (vb B32 lb) % 32) % 32) (h : vb B32 lv = vb B32 lb * 2 ^ s) :
    lv.length = lb.length ∧ 2147483648 ≤ lv.getD (lb.length - 1) 0 := by
  have hn : 0 < lb.length := List.length_pos_iff.2 hne
  have e1 := nb_digits32 hb hne
  have ht := hb.top hne
  have hd := hb.lim.getD B32_pos (lb.length - 1)
  have hge := hb.ge B32_pos hne
  have hp := pow_pos' B32_pos (lb.length - 1)
  have hpos : 0 < vb B32 lb := by omega
  obtain ⟨b1, b2, b3⟩ := nb_spec (N := lb.getD (lb.length - 1) 0) (by omega)
  have b4 : nb (lb.getD (lb.length - 1) 0) ≤ 32 := nb_le hd.2
  obtain ⟨c1, c2, c3⟩ := nb_spec hpos
  have hsum : nb (vb B32 lb) + s = 32 * lb.length := by omega
  have hnv : nb (vb B32 lv) = 32 * lb.length := by
    rw [h]
    have q1 := pow2_pos s
    refine nb_eq (by omega) ?_ ?_
    · rw [show 32 * lb.length - 1 = (nb (vb B32 lb) - 1) + s by omega, Int.pow_add]
      exact Int.mul_le_mul_of_nonneg_right c1 (Int.le_of_lt q1)
    · rw [← hsum, Int.pow_add]
      exact Int.mul_lt_mul_of_pos_right c2 q1
  have hnev : lv ≠ [] := by
    intro e
    rw [e, vb_nil, nb_zero] at hnv
    omega
  have hnv0 : 0 < lv.length := List.length_pos_iff.2 hnev
  have f1 := nb_digits32 hv hnev
  have ft := hv.top hnev
  have fd := hv.lim.getD B32_pos (lv.length - 1)
  obtain ⟨g1, g2, g3⟩ := nb_spec (N := lv.getD (lv.length - 1) 0) (by omega)
  have g4 : nb (lv.getD (lv.length - 1) 0) ≤ 32 := nb_le fd.2
  have hl : lv.length = lb.length := by omega
  refine ⟨hl, ?_⟩
  have g5 : nb (lv.getD (lv.length - 1) 0) = 32 := by omega
  rw [g5] at g1
  rw [← hl]
  exact g1

/-- How much longer a number grows that is shifted by less than a digit. -/
theorem shl_len32 {la lu : List Int} {s : Nat} (hla : Lim B32 la) (hlu : Can B32 lu) (h : vb B32 lu = vb B32 la * 2 ^ s) (hs : s ≤ 31) : lu.length ≤ la.length + 1 := by
  refine room_of B32_pos hlu ?_
  rw [h, Int.pow_succ]
  have h1 := vb_lt B32_pos hla
  have h2 := pow2_le31 hs
  have h3 := vb_nonneg B32_pos hla
  have h4 := pow2_pos s
  have h5 : vb B32 la * 2 ^ s < B32 ^ la.length * 2 ^ s := Int.mul_lt_mul_of_pos_right h1 h4
  have h6 : B32 ^ la.length * 2 ^ s ≤ B32 ^ la.length * B32 := Int.mul_le_mul_of_nonneg_left (by unfold B32; omega) (Int.le_of_lt (pow_pos' B32_pos _))
  omega

/-- The top digits as the division begins are less than the divisor. -/
theorem start_lt {lu lv : List Int} {Q : Nat} (hlu : Lim B32 lu) (hv : Can B32 lv) (hv2 : 2 ≤ lv.length) (hl : lu.length + 1 = Q + lv.length) : vb B32 ((lu ++ [0]).drop Q) < vb B32 lv := by
  rw [List.drop_append_of_le_length (by omega), vb_snoc, Int.mul_zero, Int.add_zero]
  have h1 := vb_lt B32_pos (hlu.drop Q)
  rw [List.length_drop, show lu.length - Q = lv.length - 1 by omega] at h1
  have h2 := hv.ge B32_pos (by intro e; rw [e] at hv2; simp at hv2)
  omega
/-- The window of a round. -/
theorem win_lt {m : List Int} {j : Nat} {V : Int} (hm : Lim B32 m) (hj : j < m.length) (h : vb B32 (m.drop (j + 1)) < V) : vb B32 (m.drop j) < B32 * V := by
  rw [vb_drop B32 hj]
  have h1 := hm.getD B32_pos j
  have h2 : B32 * (vb B32 (m.drop (j + 1)) + 1) ≤ B32 * V := Int.mul_le_mul_of_nonneg_left (by omega) (by decide)
  rw [Int.mul_add, Int.mul_one] at h2
  omega

/-- The top digit of the window is lent one of the next place. -/
theorem over_top {m1 m0 : List Int} {j n : Nat} {x G b t : Int} (hm : Lim B32 m1) (hl : m1.length = m0.length) (hj : j + n < m1.length) (ht : m1.take j = m0.take j) (hz : ∀ i, j + n < i → m1.getD i 0 = 0) (hte : t = m1.getD (j + n) 0)
    (hS : vb B32 m1 + B32 ^ j * (G * b) = vb B32 m0 + B32 ^ (j + n) * x) (h0 : 0 ≤ t + 4294967296 - x) (h1 : t + 4294967296 - x < 4294967296) :
    vb B32 (m1.set (j + n) (t + 4294967296 - x)) + B32 ^ j * (G * b) = vb B32 m0 + B32 ^ (j + n + 1) ∧ vb B32 (m0.drop j) < G * b := by
  have e : vb B32 (m1.set (j + n) (t + 4294967296 - x)) + B32 ^ j * (G * b) = vb B32 m0 + B32 ^ (j + n + 1) := by
    rw [vb_set B32 m1 (j + n) _ hj, ← hte, Int.pow_succ, show t + 4294967296 - x - t = B32 - x by unfold B32; omega, Int.mul_sub]
    omega
  refine ⟨e, ?_⟩
  have e2 : vb B32 (m1.set (j + n) (t + 4294967296 - x)) + B32 ^ j * (G * b - B32 ^ (n + 1)) = vb B32 m0 := by
    rw [Int.mul_sub, ← Int.pow_add, ← Nat.add_assoc]
    omega
  have e3 := vb_drop_sub (by rw [List.length_set]; exact hl) (by omega) (by rw [take_set_above (by omega)]; exact ht) e2
  have hl2 : Lim B32 (m1.set (j + n) (t + 4294967296 - x)) := hm.set _ h0 (by unfold B32; omega)
  have h5 := vb_lt_of_zeros B32_pos (hl2.drop j) (k := n + 1) (fun i hi => by
    rw [getD_drop, getD_set_other m1 (by omega)]
    exact hz _ (by omega))
  omega
/-- Above the window there are zeros. -/
theorem win_zero {m : List Int} {j n : Nat} {V : Int} (hm : Lim B32 m) (h : vb B32 (m.drop j) < B32 * V) (hV : V < B32 ^ n) : ∀ i, j + n < i → m.getD i 0 = 0 := by
  intro i hi
  have h1 : B32 * (V + 1) ≤ B32 * B32 ^ n := Int.mul_le_mul_of_nonneg_left (by omega) (by decide)
  have h2 : vb B32 (m.drop j) < B32 ^ (n + 1) := by
    rw [Int.pow_succ, Int.mul_comm]
    rw [Int.mul_add] at h1
    unfold B32 at *
    omega
  have := vb_zero_above B32_pos (hm.drop j) h2 (i - j) (by omega)
  rw [getD_drop, show j + (i - j) = i by omega] at this
  exact this
theorem sm_next {lv : List Int} {i j : Nat} {d y z : Int} (hi : i < lv.length) (hy : y = lv.getD i 0) (hz : d * y = z) : B32 ^ j * (d * vb B32 (lv.take i)) + B32 ^ (j + i) * z = B32 ^ j * (d * vb B32 (lv.take (i + 1))) := by
  rw [vb_take_succ B32 hi, ← hy, ← hz, Int.mul_add d, Int.mul_add (B32 ^ j), Int.pow_add, Int.mul_left_comm d (B32 ^ i) y, ← Int.mul_assoc (B32 ^ j) (B32 ^ i)]
theorem ab_next {lv : List Int} {i j : Nat} {y : Int} (hi : i < lv.length) (hy : y = lv.getD i 0) : B32 ^ j * vb B32 (lv.take i) + B32 ^ (j + i) * y = B32 ^ j * vb B32 (lv.take (i + 1)) := by
  rw [vb_take_succ B32 hi, ← hy, Int.mul_add (B32 ^ j), Int.pow_add, ← Int.mul_assoc (B32 ^ j) (B32 ^ i)]

/-- What a slot may be said to hold: a number of the document's. -/
def IsD (Z : Int) (v : Value) (w : World) : Prop := ∃ a n c l, v = .slice a n c ∧ RdD w (.slice a n c) l ∧ vb B32 l = Z
theorem IsD.keeps (Z : Int) : Keeps (IsD Z) := fun _ _ _ hb ⟨a, n, c, l, h1, h2, h3⟩ => ⟨a, n, c, l, h1, h2.below hb, h3⟩

set_option maxRecDepth 100000 in
set_option maxHeartbeats 40000000 in
theorem rdivl_any (aa : Option Addr) (na ca : Nat) (la : List Int) (ab : Option Addr) (n cb : Nat) (lb : List Int) (w : World) (hna : na = la.length) (hnb : n = lb.length) (h1 : na ≤ ca) (h2 : ca ≤ 9223372036854775807) (h3 : n ≤ cb) (h4 : cb ≤ 9223372036854775807)
    (ha : Rd w aa la) (hb : Rd w ab lb) (hla : Can B32 la) (hlb : Can B32 lb) (h2n : 2 ≤ n) (hge : vb B32 lb ≤ vb B32 la) (hM : na ≤ 1000000) :
    Calls Tryd.prog 42 #[.slice aa na ca, .slice ab n cb] w fun e w' => RetD2 w (vb B32 la / vb B32 lb) (vb B32 la % vb B32 lb) e w' := by
  have hnn : n ≤ na := by
    rcases Nat.lt_or_ge na n with h | h
    · have := can_lt_of_length B32_pos hla.lim hlb (by omega)
      omega
    · exact h
  have hbne : lb ≠ [] := by intro e; subst e; simp at hnb; omega
  have hC := rcmp_any aa na ca la ab n cb lb w hna hnb h1 h2 h3 h4 ha hb hla hlb
  obtain ⟨c, hc⟩ : ∃ c, c = cmpI (vb B32 la) (vb B32 lb) := ⟨_, rfl⟩
  have hcs : ¬ c < 0 := by
    rw [hc]
    rcases Int.lt_or_eq_of_le hge with h | h
    · rw [cmpI_gt h]; decide
    · rw [cmpI_eq h.symm]; decide
  rw [← hc] at hC
  obtain ⟨K, hK⟩ : ∃ K, K = nb (vb B32 lb) := ⟨_, rfl⟩
  obtain ⟨r, hr⟩ : ∃ r, r = K % 32 := ⟨_, rfl⟩
  obtain ⟨s, hs⟩ : ∃ s, s = (32 - r) % 32 := ⟨_, rfl⟩
  have hr31 : r ≤ 31 := by omega
  have hs31 : s ≤ 31 := by omega
  have hKr : ((K : Int)).tmod 32 = (r : Int) := by rw [Int.tmod_eq_emod_of_nonneg (by omega)]; omega
  have hn1 : ((n : Int) == 1) = false := by simp; omega
  have hSE : s = (32 - nb (vb B32 lb) % 32) % 32 := by rw [hs, hr, hK]
  have hpos : 0 < vb B32 lb := by
    have := hlb.ge B32_pos hbne
    have := pow_pos' B32_pos (lb.length - 1)
    omega
  have HC := Lib.hid hC
  have HNA := Lib.hid hna
  have HNB := Lib.hid hnb
  have HSE := Lib.hid hSE
  have HK := Lib.hid hK
  have HPOS := Lib.hid hpos
  have HGE := Lib.hid hge
  have HS := Lib.hid hs
  have hMn : n ≤ MaxW := by unfold MaxW; omega
  clear hC hc hna hnb hSE hK hr hpos hge hbne hs
  go_enter Tryd.func42, Tryd.ntmps42
  go_wp2_with fail
  refine HC.out.mono ?_
  rintro e w1 ⟨rfl, hb1⟩
  have ha1 := ha.below hb1
  have hb1' := hb.below hb1
  clear ha hb HC
  go_wp2_with fail
  refine (rbits_any ab n cb lb w1 HNB.out h3 h4 hb1' hlb hMn).mono ?_
  rintro e w' ⟨rfl, rfl⟩
  rw [← HK.out]
  go_upto_if 71 with fail
  go_cut [9] from 70 to 71 (fun s9 wx => s9 = .int .i64 (s : Int) ∧ w1 = wx)
  case first =>
    by_cases hr0 : r = 0
    · have e1 : ((32 - (r : Int)) == 32) = true := by simp; omega
      have e2 : Value.int .i64 0 = .int .i64 (s : Int) := by have := HS.out; congr 1; omega
      have E2 := Lib.hid e2
      clear e2 hr0
      go_wp2
      go_meet
      exact ⟨E2.out, rfl⟩
    · have e1 : ((32 - (r : Int)) == 32) = false := by simp; omega
      have e2 : Value.int .i64 (32 - (r : Int)) = .int .i64 (s : Int) := by have := HS.out; congr 1; omega
      have E2 := Lib.hid e2
      clear e2 hr0
      go_wp2
      go_meet
      exact ⟨E2.out, rfl⟩
  case rest =>
    obtain ⟨rfl, rfl⟩ := hcut
    go_wp2_with fail
    refine (rshl_full aa na ca la s w1 HNA.out h1 h2 ha1 hla.lim (by omega) (by unfold MaxW; omega)).mono ?_
    rintro e w2 ⟨au, nu, lu, rfl, hnu, hnu63, hru, hcu, hvu, hb2, -⟩
    have hA0 : 0 < vb B32 lu := by
      rw [hvu]
      have := HPOS.out
      have := HGE.out
      exact Int.mul_pos (by omega) (pow2_pos s)
    obtain ⟨bu, ou, rfl, hatu⟩ := hru.cases (by intro e; rw [e] at hA0; simp at hA0)
    have hnun : na ≤ nu := by
      rcases Nat.lt_or_ge nu na with h | h
      · exfalso
        have q1 := can_lt_of_length B32_pos hcu.lim hla (by rw [← hnu, ← HNA.out]; exact h)
        rw [hvu] at q1
        have q2 := HPOS.out
        have q3 := HGE.out
        have q4 : vb B32 la * 1 ≤ vb B32 la * 2 ^ s := Int.mul_le_mul_of_nonneg_left (pow2_pos s) (by omega)
        omega
      · exact h
    have hnub : nu ≤ na + 1 := by
      have q1 := shl_len32 hla.lim hcu hvu hs31
      rw [← hnu, ← HNA.out] at q1
      exact q1
    have HNU := Lib.hid hnu
    have HVU := Lib.hid hvu
    have hatu2 := hatu.below (below_alloc w2 (.cells #[.int .u64 0] 50))
    have hlen : nu + 1 ≤ MaxW := by unfold MaxW; omega
    have hb2a := (Below.refl w2.heap.size w2).alloc (Nat.le_refl _) (.cells #[.int .u64 0] 50)
    have hb12 := hb1.trans (hb2.mono hb1.size)
    clear hnu hvu hatu hru ha1 hA0
    go_wp2_with (at_builtin; refine wpList_append_full _ rfl _ _ 29 rfl Tryd.underlying29 info_u64 bu ou nu lu rfl HNU.out hatu2 ⟨w2.heap.size, 0, none⟩ 1 1 [0] rfl rfl (by decide) (news1 _ _ _) hlen ?_; intro v3 w3 hO3 hb3; obtain ⟨gu, N, cu, rfl, hN, hNc, hcu63, harr3, hgu0, hgu1⟩ := hO3.row (by simp); have HN := Lib.hid hN; clear hN)
    have hb23 : Below w2.heap.size w2 w3 := hb2a.trans (hb3.mono hb2a.size)
    have hb13 := hb12.trans (hb23.mono hb12.size)
    have hb3' : Below w1.heap.size w1 w3 := hb2.trans (hb23.mono hb2.size)
    refine (rshl_any ab n cb lb s w3 HNB.out h3 h4 (hb1'.below hb3') hlb.lim (by omega) (by unfold MaxW; omega)).mono ?_
    rintro e w4 ⟨av, nv, cv, lv, rfl, hnv, hcv1, hcv2, hrv, hcv, hvv, hb4, hfv⟩
    obtain ⟨hvl, hvtop⟩ := norm_digits hlb hcv (by intro e; rw [e] at HNB; have := HNB.out; simp at this; omega) HSE.out hvv
    have hnvn : nv = n := by rw [hnv, hvl, HNB.out]
    subst hnvn
    obtain ⟨bv, ov, rfl, hatv⟩ := hrv.cases (by intro e; rw [e] at hnv; simp at hnv; omega)
    have hbv : w3.heap.size ≤ bv := hfv _ _ rfl
    have harr4 : Arr w4 gu 0 (lu ++ [0]) := by
      obtain ⟨cur, e, hh, hl⟩ := harr3
      exact ⟨cur, e, (hb4.block gu hgu1).trans hh, hl⟩
    have hb14 := hb13.trans (hb4.mono hb13.size)
    have hNE : N = nu + 1 := by rw [HN.out, List.length_append, ← HNU.out]; rfl
    have hvtop' : 2147483648 ≤ lv.getD (nv - 1) 0 := by rw [HNB.out]; exact hvtop
    have HLV := Lib.hid hnv
    have HVV := Lib.hid hvv
    have hgu4 : gu < w4.heap.size := Nat.lt_of_lt_of_le hgu1 hb4.size
    have hbvu : bv ≠ gu := by omega
    have hgw : w.heap.size ≤ gu := by
      have e1 := hb12.size
      have e2 := hb2a.size
      omega
    have hUl : Lim B32 (lu ++ [0]) := hcu.lim.app (Lim.cons (Int.le_refl _) (by decide) (Lim.nil _))
    have hUv : vb B32 (lu ++ [0]) = vb B32 la * 2 ^ s := by rw [vb_snoc, HVU.out]; simp
    have hbv4 : bv < w4.heap.size := hatv.lt (by intro e; rw [e] at hnv; simp at hnv; omega)
    clear hnv hvl hvv hfv hrv hvtop hO3 harr3 hb3 hb23 hb3' hb13 hb12 hb2a hatu2 hb2 hb1' hb4 HVU HNU hcu
    obtain ⟨Q, hQ⟩ : ∃ Q, Q = N - nv := ⟨_, rfl⟩
    have hQI : (N : Int) - (nv : Int) = (Q : Int) := by omega
    have hQN : N = Q + nv := by omega
    have hQ1 : 1 ≤ Q := by omega
    have hQM : Q ≤ MaxW := by unfold MaxW; omega
    have hle : ¬ (N : Int) ≤ (na : Int) := by omega
    have HQN := Lib.hid hQN
    have hN6 : N ≤ 1000002 := by omega
    clear hQ hNE hQN hnun hnub
    go_wp2_with fail
    refine wp_loop_rounds 1 ?_
    rw [rounds_succ]
    go_wp2_with (at_make; refine wpList_make_words w4 rfl (.tmp 93) (.tmp 93) 29 rfl Tryd.underlying29 info_u64 _ _ Q rfl rfl rfl rfl hQM ?_; intro w5 hO5 hb5 hs5)
    have hgq : w.heap.size ≤ w4.heap.size := hb14.size
    have hb15 := hb14.trans (hb5.mono hb14.size)
    have hat5 := hatv.below hb5
    have harr5 : Arr w5 gu 0 (lu ++ [0]) := by
      obtain ⟨cur, e, hh, hl⟩ := harr4
      exact ⟨cur, e, (hb5.block gu hgu4).trans hh, hl⟩
    have harq5 := hO5.arr.1
    have hI2 : Hid (vb B32 ((lu ++ [0]).drop Q) < vb B32 lv) := start_lt (by intro x hx; exact hUl x (List.mem_append_left _ hx)) hcv (by rw [← HLV.out]; exact h2n) (by have := HN.out; have := HQN.out; have := HLV.out; simp at *; omega)
    have hI1 : Hid (vb B32 (lu ++ [0]) + B32 ^ Q * (vb B32 ((List.replicate Q 0).drop Q) * vb B32 lv) = vb B32 la * 2 ^ s) := by
      show _ = _
      rw [hUv, List.drop_of_length_le (by simp), vb_nil, Int.zero_mul, Int.mul_zero, Int.add_zero]
    have hUl2 : Hid (Lim B32 (lu ++ [0])) := hUl
    have hULn : Hid ((lu ++ [0]).length = N) := HN.out.symm
    obtain ⟨gq, hgqe⟩ : ∃ gq, gq = w4.heap.size := ⟨_, rfl⟩
    have hguq : gu ≠ gq := by omega
    have hbvq : bv ≠ gq := by omega
    have hgqw : w.heap.size ≤ gq := by omega
    rw [← hgqe] at harq5
    rw [← hgqe]
    clear hgqe hO5 hb5 hs5 hb14 harr4 hUl hUv hbv hgu0 hgu1 hgu4 hgq hbv4
    go_wp2_with fail
    go_loopg [14] Q (fun k jj wr => ∃ (m q : List Int), k ≤ Q ∧ jj = .int .i64 ((k : Int) - 1) ∧ Hid (m.length = N) ∧ Hid (q.length = Q) ∧ Hid (Lim B32 m) ∧ Hid (Lim B32 q) ∧ Arr wr gu 0 m ∧ Arr wr gq 0 q ∧ At wr bv ov lv ∧ Below w.heap.size w wr ∧ Hid (vb B32 m + B32 ^ k * (vb B32 (q.drop k) * vb B32 lv) = vb B32 la * 2 ^ s) ∧ Hid (vb B32 (m.drop k) < vb B32 lv))
    case atStart => exact ⟨lu ++ [0], List.replicate Q 0, Nat.le_refl _, rfl, hULn, (by show _ = _; simp), hUl2, (Lim.replicate B32_pos Q), harr5, harq5, hat5, hb15, hI1, hI2⟩
    case round =>
      clear hI1 hI2 hUl2 hULn harr5 harq5 hatv hat5
      obtain ⟨m, q, hk, rfl, HM, HQL, HLM, HLQ, harr, harq, hat, hbw, HI1, HI2⟩ := hrel
      obtain ⟨wo, rfl⟩ : ∃ wo, wo = wr := ⟨wr, rfl⟩
      obtain ⟨ko, rfl⟩ : ∃ ko, ko = gk := ⟨gk, rfl⟩
      by_cases hk0 : ko = 0
      · have e0 : (ko : Int) - 1 = -1 := by omega
        have HKO := Lib.hid hk0
        have hI2 : Hid (vb B32 m < vb B32 lv) := by have := HI2.out; rw [HKO.out] at this; exact this
        have HVB : Hid (vb B32 lv < B32 ^ nv) := by
          show _ < _
          rw [HLV.out]; exact vb_lt B32_pos hcv.lim
        have hQN := HQN.out
        have HMT : Hid (vb B32 (m.take nv) = vb B32 m) := by
          show _ = _
          have q1 := vb_split B32 m nv (by rw [HM.out]; omega)
          have q2 := vb_zero_above B32_pos HLM.out (n := nv) (Int.lt_trans hI2.out HVB.out)
          have q3 : vb B32 (m.drop nv) = 0 := vb_zeros B32 fun x hx => by
            obtain ⟨i, _, rfl⟩ := mem_getD hx
            rw [getD_drop]; exact q2 _ (by omega)
          rw [q3, Int.mul_zero, Int.add_zero] at q1
          exact q1.symm
        have hmt : (m.take nv).length = nv := by rw [List.length_take, HM.out]; omega
        have htm := tlen_le (m.take nv)
        rw [hmt] at htm
        have htq := tlen_le q
        rw [HQL.out] at htq
        have hQ63 : Q ≤ 9223372036854775807 := by unfold MaxW at hQM; omega
        have hn63 : nv ≤ 9223372036854775807 := by omega
        have hncu : nv ≤ cu := by omega
        rw [e0]
        clear hk0 e0 hQN HI2
        go_upto_region 59 with fail
        refine wp_region_slots (by kernel_rfl) [323, 324, 325, 326, 327, 328, 329, 330, 331, 4, 5] (fun w' => Below wo.heap.size wo w') (Said [Is (.slice (some ⟨gq, 0, none⟩) Q Q), IsD (vb B32 q), Is (.slice (some ⟨gu, 0, none⟩) N cu), Is (.int .i64 (nv : Int)), Is (.int .i64 (nv : Int)), Is (.slice (some ⟨gu, 0, none⟩) nv nv), IsD (vb B32 m), Is (.int .i64 (s : Int)), IsD (vb B32 m / 2 ^ s), IsD (vb B32 q), IsD (vb B32 m / 2 ^ s)]) (by kernel_rfl) (by kernel_rfl) (by kernel_rfl) (by kernel_rfl) (Said.keep ?keep) (bdn (Below.refl _ _) 1) (l := [0, 1, 2, 3, 4, 5, 6, 7, 8, 9, 10]) (by kernel_rfl) ?step ?fin
        case keep =>
          refine List.forall_mem_cons.2 ⟨Is.keeps _, ?_⟩
          refine List.forall_mem_cons.2 ⟨IsD.keeps _, ?_⟩
          refine List.forall_mem_cons.2 ⟨Is.keeps _, ?_⟩
          refine List.forall_mem_cons.2 ⟨Is.keeps _, ?_⟩
          refine List.forall_mem_cons.2 ⟨Is.keeps _, ?_⟩
          refine List.forall_mem_cons.2 ⟨Is.keeps _, ?_⟩
          refine List.forall_mem_cons.2 ⟨IsD.keeps _, ?_⟩
          refine List.forall_mem_cons.2 ⟨Is.keeps _, ?_⟩
          refine List.forall_mem_cons.2 ⟨IsD.keeps _, ?_⟩
          refine List.forall_mem_cons.2 ⟨IsD.keeps _, ?_⟩
          refine List.forall_mem_cons.2 ⟨IsD.keeps _, ?_⟩
          exact fun _ h => nomatch h
        case step =>
          refine List.forall_mem_cons.2 ⟨?_, ?_⟩
          · refine SlotStep.plain rfl rfl rfl ?_
            intro tm ws hsame hS hg K hK
            have e13 : tm[13]? = some (.slice (some ⟨gq, 0, none⟩) Q Q) := hsame.2 13 rfl
            go_simp
            exact hK _ _ (Below.refl _ _) hS rfl
          refine List.forall_mem_cons.2 ⟨?_, ?_⟩
          · refine SlotStep.plain rfl rfl rfl ?_
            intro tm ws hsame hS hg K hK
            obtain ⟨v323, e323, rfl⟩ := hg 0 (by kernel_rfl) _ 323 rfl rfl
            go_simp
            refine (rtrim_any (some ⟨gq, 0, none⟩) Q Q q ws HQL.out.symm (Nat.le_refl _) hQ63 (Rd.of_at (harq.at'.below hS))).mono ?_
            rintro e w' ⟨rfl, rfl⟩
            exact hK _ _ (Below.refl _ _) hS ⟨_, _, _, tr q, rfl, ⟨some ⟨gq, 0, none⟩, tlen q, by rw [tr_length], by rw [tr_length]; exact Nat.le_refl _, Nat.le_trans htq hQ63, (Rd.of_at (harq.at'.below hS)).take _, can_tr HLQ.out⟩, vb_tr _ _⟩
          refine List.forall_mem_cons.2 ⟨?_, ?_⟩
          · refine SlotStep.plain rfl rfl rfl ?_
            intro tm ws hsame hS hg K hK
            have e10 : tm[10]? = some (.slice (some ⟨gu, 0, none⟩) N cu) := hsame.2 10 rfl
            go_simp
            exact hK _ _ (Below.refl _ _) hS rfl
          refine List.forall_mem_cons.2 ⟨?_, ?_⟩
          · refine SlotStep.plain rfl rfl rfl ?_
            intro tm ws hsame hS hg K hK
            have e12 : tm[12]? = some (.int .i64 (nv : Int)) := hsame.2 12 rfl
            go_simp
            exact hK _ _ (Below.refl _ _) hS rfl
          refine List.forall_mem_cons.2 ⟨?_, ?_⟩
          · refine SlotStep.plain rfl rfl rfl ?_
            intro tm ws hsame hS hg K hK
            have e12 : tm[12]? = some (.int .i64 (nv : Int)) := hsame.2 12 rfl
            go_simp
            exact hK _ _ (Below.refl _ _) hS rfl
          refine List.forall_mem_cons.2 ⟨?_, ?_⟩
          · refine SlotStep.plain rfl rfl rfl ?_
            intro tm ws hsame hS hg K hK
            obtain ⟨v325, e325, rfl⟩ := hg 2 (by kernel_rfl) _ 325 rfl rfl
            obtain ⟨v326, e326, rfl⟩ := hg 3 (by kernel_rfl) _ 326 rfl rfl
            obtain ⟨v327, e327, rfl⟩ := hg 4 (by kernel_rfl) _ 327 rfl rfl
            go_simp
            exact hK _ _ (Below.refl _ _) hS rfl
          refine List.forall_mem_cons.2 ⟨?_, ?_⟩
          · refine SlotStep.plain rfl rfl rfl ?_
            intro tm ws hsame hS hg K hK
            obtain ⟨v328, e328, rfl⟩ := hg 5 (by kernel_rfl) _ 328 rfl rfl
            go_simp
            refine (rtrim_any (some ⟨gu, 0, none⟩) nv nv (m.take nv) ws hmt.symm (Nat.le_refl _) hn63 ((Rd.of_at (harr.at'.below hS)).take nv)).mono ?_
            rintro e w' ⟨rfl, rfl⟩
            exact hK _ _ (Below.refl _ _) hS ⟨_, _, _, tr (m.take nv), rfl, ⟨some ⟨gu, 0, none⟩, tlen (m.take nv), by rw [tr_length], by rw [tr_length]; exact Nat.le_refl _, Nat.le_trans htm hn63, ((Rd.of_at (harr.at'.below hS)).take nv).take _, can_tr (HLM.out.take _)⟩, by rw [vb_tr]; exact HMT.out⟩
          refine List.forall_mem_cons.2 ⟨?_, ?_⟩
          · refine SlotStep.plain rfl rfl rfl ?_
            intro tm ws hsame hS hg K hK
            have e9 : tm[9]? = some (.int .i64 (s : Int)) := hsame.2 9 rfl
            go_simp
            exact hK _ _ (Below.refl _ _) hS rfl
          refine List.forall_mem_cons.2 ⟨?_, ?_⟩
          · refine SlotStep.plain rfl rfl rfl ?_
            intro tm ws hsame hS hg K hK
            obtain ⟨v329, e329, ⟨a329, n329, c329, l329, rfl, g329, z329⟩⟩ := hg 6 (by kernel_rfl) _ 329 rfl rfl
            obtain ⟨v330, e330, rfl⟩ := hg 7 (by kernel_rfl) _ 330 rfl rfl
            obtain ⟨a', c', he, q1, q2, q3, q4⟩ := g329
            simp only [Value.slice.injEq] at he
            obtain ⟨rfl, hn', rfl⟩ := he
            have HN' := Lib.hid hn'
            have hlen' : n329 ≤ 1000002 := by
              have := room_of (m := nv) B32_pos q4 (by rw [z329]; exact Int.lt_trans hI2.out HVB.out)
              omega
            clear hn'
            go_simp
            refine (rshr_any a329 n329 c329 l329 s ws HN'.out (by rw [HN'.out]; exact q1) q2 q3 q4.lim (by omega) (by unfold MaxW; omega)).mono ?_
            rintro e w2 ⟨ar, nr, cr, lr, rfl, hnr, r1, r2, r3, r4, r5, hb, -⟩
            exact hK _ _ hb (hS.trans (hb.mono hS.size)) ⟨ar, nr, cr, lr, rfl, ⟨ar, cr, by rw [hnr], by rw [← hnr]; exact r1, r2, r3, r4⟩, by rw [r5, z329]⟩
          refine List.forall_mem_cons.2 ⟨?_, ?_⟩
          · refine SlotStep.plain rfl rfl rfl ?_
            intro tm ws hsame hS hg K hK
            obtain ⟨v324, e324, ⟨a324, n324, c324, l324, rfl, g324, z324⟩⟩ := hg 1 (by kernel_rfl) _ 324 rfl rfl
            go_simp
            exact hK _ _ (Below.refl _ _) hS ⟨a324, n324, c324, l324, rfl, g324, z324⟩
          refine List.forall_mem_cons.2 ⟨?_, ?_⟩
          · refine SlotStep.plain rfl rfl rfl ?_
            intro tm ws hsame hS hg K hK
            obtain ⟨v331, e331, ⟨a331, n331, c331, l331, rfl, g331, z331⟩⟩ := hg 8 (by kernel_rfl) _ 331 rfl rfl
            go_simp
            exact hK _ _ (Below.refl _ _) hS ⟨a331, n331, c331, l331, rfl, g331, z331⟩
          exact fun _ h => nomatch h
        case fin =>
          intro tm w8 hsame hS hgot
          obtain ⟨u, hu, htm⟩ := hsame.form (by kernel_rfl)
          obtain ⟨v4, e4, aq, nq', cq, lq, rfl, gq4, zq4⟩ := hgot 9 _ 4 rfl rfl
          obtain ⟨v5, e5, ar, nr', cr, lr, rfl, gr5, zr5⟩ := hgot 10 _ 5 rfl rfl
          have h4' := hu _ _ e4
          have h5' := hu _ _ e5
          have hbf := hbw.trans (hS.mono hbw.size)
          obtain ⟨hq', hr'⟩ := rd_end (pow2_pos s) rfl HVV.out (R := vb B32 m) (Q := vb B32 q) (by have := HI1.out; rw [HKO.out, Int.pow_zero, Int.one_mul] at this; exact this) (vb_nonneg B32_pos HLM.out) hI2.out
          have HQ' := Lib.hid hq'
          have HR' := Lib.hid hr'
          clear hgot hu hsame e4 e5 hq' hr'
          rw [htm]
          clear htm tm
          simp only [List.foldl_cons, List.foldl_nil, List.setIfInBounds_toArray, List.set_cons_zero, List.set_cons_succ, h4', h5']
          clear h4' h5'
          go_wp2_with fail
          go_ret2
          exact ⟨aq, nq', cq, lq, ar, nr', cr, lr, rfl, gq4, by rw [zq4, HQ'.out], gr5, by rw [zr5, HR'.out], hbf⟩
      · clear_value *
        as_aux_lemma =>
          obtain ⟨j, hj⟩ : ∃ j, ko = j + 1 := ⟨ko - 1, by omega⟩
          have hjQ : j < Q := by omega
          have e0 : (ko : Int) - 1 = (j : Int) := by omega
          rw [e0]
          obtain ⟨n2, hn2⟩ : ∃ n2, nv = n2 + 2 := ⟨nv - 2, by omega⟩
          obtain ⟨p2, hp2⟩ : ∃ p2, p2 = j + n2 + 2 := ⟨_, rfl⟩
          obtain ⟨p1, hp1⟩ : ∃ p1, p1 = j + n2 + 1 := ⟨_, rfl⟩
          obtain ⟨p0, hp0⟩ : ∃ p0, p0 = j + n2 := ⟨_, rfl⟩
          obtain ⟨i1, hi1⟩ : ∃ i1, i1 = n2 + 1 := ⟨_, rfl⟩
          have ep2 : (j : Int) + (nv : Int) = (p2 : Int) := by omega
          have ep1 : (p2 : Int) - 1 = (p1 : Int) := by omega
          have ep0 : (p2 : Int) - 2 = (p0 : Int) := by omega
          have ei1 : (nv : Int) - 1 = (i1 : Int) := by omega
          have ei0 : (nv : Int) - 2 = (n2 : Int) := by omega
          have hQN := HQN.out
          have hpN : p2 < N := by omega
          have hwin := win_lt (j := j) (V := vb B32 lv) HLM.out (by rw [HM.out]; omega) (by rw [← hj]; exact HI2.out)
          obtain ⟨xx, yy, W, hW1, hx0, hx1, hy0, hy1, hae, hbe, htop⟩ := rd_top (n := n2) (j := j) HLM.out hcv.lim (by rw [← HLV.out]; exact hn2) hwin (by rw [HM.out]; omega)
          obtain ⟨u2, hu2⟩ : ∃ u2, u2 = m.getD p2 0 := ⟨_, rfl⟩
          obtain ⟨u1, hu1⟩ : ∃ u1, u1 = m.getD p1 0 := ⟨_, rfl⟩
          obtain ⟨u0, hu0⟩ : ∃ u0, u0 = m.getD p0 0 := ⟨_, rfl⟩
          obtain ⟨v1, hv1⟩ : ∃ v1, v1 = lv.getD i1 0 := ⟨_, rfl⟩
          obtain ⟨v0, hv0⟩ : ∃ v0, v0 = lv.getD n2 0 := ⟨_, rfl⟩
          rw [← hp2, ← hp1, ← hp0, ← hu2, ← hu1, ← hu0] at hae
          rw [← hi1, ← hv1, ← hv0] at hbe
          rw [← hp2, ← hp1, ← hi1, ← hu2, ← hu1, ← hv1, ← hv0] at htop
          have bu2 : 0 ≤ u2 ∧ u2 < 4294967296 := by rw [hu2]; exact HLM.out.getD B32_pos _
          have bu1 : 0 ≤ u1 ∧ u1 < 4294967296 := by rw [hu1]; exact HLM.out.getD B32_pos _
          have bu0 : 0 ≤ u0 ∧ u0 < 4294967296 := by rw [hu0]; exact HLM.out.getD B32_pos _
          have bv1 : 0 ≤ v1 ∧ v1 < 4294967296 := by rw [hv1]; exact hcv.lim.getD B32_pos _
          have bv0 : 0 ≤ v0 ∧ v0 < 4294967296 := by rw [hv0]; exact hcv.lim.getD B32_pos _
          have bv1t : 2147483648 ≤ v1 := by rw [hv1, hi1, show n2 + 1 = nv - 1 by omega]; exact hvtop'
          have cu2 : wo.cell? ⟨gu, p2, none⟩ = some (.int .u64 u2) := by
            have := harr.at' p2 (by rw [HM.out]; exact hpN)
            rwa [Nat.zero_add, ← hu2] at this
          have cu1 : wo.cell? ⟨gu, p1, none⟩ = some (.int .u64 u1) := by
            have := harr.at' p1 (by rw [HM.out]; omega)
            rwa [Nat.zero_add, ← hu1] at this
          have cu0 : wo.cell? ⟨gu, p0, none⟩ = some (.int .u64 u0) := by
            have := harr.at' p0 (by rw [HM.out]; omega)
            rwa [Nat.zero_add, ← hu0] at this
          have cv1 : wo.cell? ⟨bv, ov + i1, none⟩ = some (.int .u64 v1) := by rw [hv1]; exact hat i1 (by rw [← HLV.out]; omega)
          have cv0 : wo.cell? ⟨bv, ov + n2, none⟩ = some (.int .u64 v0) := by rw [hv0]; exact hat n2 (by rw [← HLV.out]; omega)
          obtain ⟨bu20, bu21⟩ := bu2
          obtain ⟨bu10, bu11⟩ := bu1
          obtain ⟨bu00, bu01⟩ := bu0
          obtain ⟨bv10, bv11⟩ := bv1
          obtain ⟨bv00, bv01⟩ := bv0
          obtain ⟨T, hT⟩ : ∃ T, u2 * 4294967296 + u1 = T := ⟨_, rfl⟩
          have hT0 : 0 ≤ T := by omega
          have hT1 : T ≤ 18446744073709551615 := by omega
          rw [hT] at hae htop
          obtain ⟨gI, gr0, gr1, gd0, gmore⟩ := gd_init (T := T) (v1 := v1) (v0 := v0) (u0 := u0) (by omega) bv00 hT0 bu01
          obtain ⟨d0, hd0⟩ : ∃ d0, T / v1 = d0 := ⟨_, rfl⟩
          obtain ⟨r0, hr0⟩ : ∃ r0, T % v1 = r0 := ⟨_, rfl⟩
          have hd0b : d0 ≤ 8589934592 := by
            rw [← hd0]
            have : T / v1 < 8589934593 := Int.ediv_lt_of_lt_mul (by omega) (by omega)
            omega
          rw [hd0, hr0] at gI
          rw [hr0] at gr0 gr1
          rw [hd0] at gd0 gmore
          have htd : T.tdiv v1 = d0 := by rw [Int.tdiv_eq_ediv_of_nonneg hT0, hd0]
          have htm : T.tmod v1 = r0 := by rw [Int.tmod_eq_emod_of_nonneg hT0, hr0]
          have hvz : (v1 == 0) = false := by rw [beq_eq_false_iff_ne]; omega
          have HAE := Lib.hid hae
          have HBE := Lib.hid hbe
          have HTOP := Lib.hid htop
          have HGI := Lib.hid gI
          have HGM := Lib.hid gmore
          have HHJ := Lib.hid hj
          have HP2 := Lib.hid hp2
          have HP1 := Lib.hid hp1
          have HP0 := Lib.hid hp0
          have HI1' := Lib.hid hi1
          have HN2 := Lib.hid hn2
          have HU2 := Lib.hid hu2
          have HWIN := Lib.hid hwin
          have hp1N : p1 < N := by omega
          have hp0N : p0 < N := by omega
          have hi1n : i1 < nv := by omega
          have hn2n : n2 < nv := by omega
          clear hae hbe htop gI gmore hj hp2 hp1 hp0 hi1 hn2 hu2 hu1 hu0 hv1 hv0 hd0 hr0 hwin hQN
          go_wp2_with fail
          go_quiet (fail)
          go_wp2_with fail
          go_quiet (fail)
          go_upto_block 6 with fail
          go_cut [16, 17] from 100 to 322 (fun s16 s17 wx => ∃ d r9, s16 = .int .u64 d ∧ s17 = .int .u64 r9 ∧ 0 ≤ d ∧ d ≤ 4294967295 ∧ Hid (d * (v1 * 4294967296 + v0) ≤ T * 4294967296 + u0) ∧ Hid (d = 4294967295 ∨ T * 4294967296 + u0 < (d + 1) * (v1 * 4294967296 + v0)) ∧ Below wo.heap.size wo wx)
          case first =>
            go_wp2_with fail
            go_loopg [16, 17] d0.toNat (fun kd dd rr w6 => ∃ d r : Int, dd = .int .u64 d ∧ rr = .int .u64 r ∧ 0 ≤ d ∧ d ≤ 8589934592 ∧ 0 ≤ r ∧ r ≤ 4294967295 ∧ kd = d.toNat ∧ Hid (d * v1 + r = T) ∧ Hid (4294967295 ≤ d ∨ T * 4294967296 + u0 < (d + 1) * (v1 * 4294967296 + v0)) ∧ Below wo.heap.size wo w6)
            case atStart => exact ⟨d0, r0, rfl, rfl, gd0, hd0b, gr0, by omega, rfl, HGI, Or.inr HGM.out, bdn (bdn (Below.refl _ _) _) _⟩
            case round =>
              as_aux_lemma =>
                obtain ⟨d, r, rfl, rfl, gd1, gd2, gr2, gr3, hkd, HIV, HMO, hb6⟩ := hrel
                have du0 := cell_after hb6 cu0
                have dv0 := cell_after hb6 cv0
                have dv1 := cell_after hb6 cv1
                have hbB : ∀ nq, Below wo.heap.size wo (wr.drewN nq) := fun nq => bdn hb6 nq
                have HBB := Lib.hid hbB
                have HKD := Lib.hid hkd
                clear cu0 cv0 cv1 cu1 cu2 hbB hkd
                by_cases hbig : 4294967296 ≤ d
                · have hbd : decide (4294967296 ≤ d) = true := by simpa using hbig
                  obtain ⟨gs1, gs2⟩ := gd_step (u0 := u0) (v0 := v0) HIV.out (Or.inl hbig)
                  have HS1 := Lib.hid gs1
                  have HS2 : Hid (4294967295 ≤ d - 1 ∨ T * 4294967296 + u0 < (d - 1 + 1) * (v1 * 4294967296 + v0)) := by
                    rw [show d - 1 + 1 = d by omega]
                    exact gs2.imp (by omega) id
                  clear gs1 gs2 HIV HMO
                  go_wp2_with fail
                  go_quiet (fail)
                  by_cases hbr : 4294967296 ≤ r + v1
                  · have hrd : decide (4294967296 ≤ r + v1) = true := by simpa using hbr
                    obtain ⟨gb1, gb2⟩ := gd_break (d := d - 1) (u0 := u0) HS1.out hbr bv00 bv01 (by omega) bu00 HTOP.out
                    have GB2 := Lib.hid gb2
                    have HS3 : Hid (d - 1 = 4294967295 ∨ T * 4294967296 + u0 < (d - 1 + 1) * (v1 * 4294967296 + v0)) := HS2.out.imp (by omega) id
                    clear gb2
                    go_wp2_with fail
                    go_meet
                    exact ⟨d - 1, r + v1, rfl, rfl, by omega, gb1, GB2, HS3, HBB.out _⟩
                  · have hrd : decide (4294967296 ≤ r + v1) = false := by simpa using hbr
                    go_wp2_with fail
                    go_roundg (d - 1).toNat
                    case measure => have := HKD.out; omega
                    case rel => exact ⟨d - 1, r + v1, rfl, rfl, by omega, by omega, by omega, by omega, rfl, HS1, HS2, HBB.out _⟩
                · have hbd : decide (4294967296 ≤ d) = false := by simpa using hbig
                  obtain ⟨x, hx⟩ : ∃ x, d * v0 = x := ⟨_, rfl⟩
                  obtain ⟨y, hy⟩ : ∃ y, r * 4294967296 + u0 = y := ⟨_, rfl⟩
                  have hxb : 0 ≤ x ∧ x ≤ 18446744065119617025 := by rw [← hx]; exact mul_bound gd1 (by omega) bv00 (by omega)
                  have hyb : 0 ≤ y ∧ y ≤ 18446744073709551615 := by omega
                  obtain ⟨hxb0, hxb1⟩ := hxb
                  obtain ⟨hyb0, hyb1⟩ := hyb
                  by_cases hgt : y < x
                  · have hgd : decide (y < x) = true := by simpa using hgt
                    obtain ⟨gs1, gs2⟩ := gd_step (u0 := u0) (v0 := v0) HIV.out (Or.inr (by rw [hx, hy]; exact hgt))
                    have hd1' : 1 ≤ d := by
                      rcases Int.lt_or_eq_of_le gd1 with h | h
                      · omega
                      · rw [← h] at hx; simp at hx; omega
                    have HS1 := Lib.hid gs1
                    have HS2 : Hid (4294967295 ≤ d - 1 ∨ T * 4294967296 + u0 < (d - 1 + 1) * (v1 * 4294967296 + v0)) := by
                      rw [show d - 1 + 1 = d by omega]
                      exact gs2.imp (by omega) id
                    clear gs1 gs2 HIV HMO
                    go_wp2_with fail
                    go_quiet (fail)
                    by_cases hbr : 4294967296 ≤ r + v1
                    · have hrd : decide (4294967296 ≤ r + v1) = true := by simpa using hbr
                      obtain ⟨gb1, gb2⟩ := gd_break (d := d - 1) (u0 := u0) HS1.out hbr bv00 bv01 (by omega) bu00 HTOP.out
                      have GB2 := Lib.hid gb2
                      have HS3 : Hid (d - 1 = 4294967295 ∨ T * 4294967296 + u0 < (d - 1 + 1) * (v1 * 4294967296 + v0)) := HS2.out.imp (by omega) id
                      clear gb2
                      go_wp2_with fail
                      go_meet
                      exact ⟨d - 1, r + v1, rfl, rfl, by omega, gb1, GB2, HS3, HBB.out _⟩
                    · have hrd : decide (4294967296 ≤ r + v1) = false := by simpa using hbr
                      go_wp2_with fail
                      go_roundg (d - 1).toNat
                      case measure => have := HKD.out; omega
                      case rel => exact ⟨d - 1, r + v1, rfl, rfl, by omega, by omega, by omega, by omega, rfl, HS1, HS2, HBB.out _⟩
                  · have hgd : decide (y < x) = false := by simpa using hgt
                    have gdn := gd_done (u0 := u0) (v0 := v0) HIV.out (by rw [hx, hy]; omega)
                    have GB2 := Lib.hid gdn
                    have HS3 : Hid (d = 4294967295 ∨ T * 4294967296 + u0 < (d + 1) * (v1 * 4294967296 + v0)) := HMO.out.imp (by omega) id
                    clear gdn HIV HMO
                    go_wp2_with fail
                    go_quiet (fail)
                    go_wp2_with fail
                    go_meet
                    exact ⟨d, r, rfl, rfl, gd1, by omega, GB2, HS3, HBB.out _⟩
          case rest =>
            obtain ⟨d, r9, rfl, rfl, hd0, hd1, HDL, HDM, hb7⟩ := hcut
            obtain ⟨hG1, hG2⟩ := red_guess32 hW1 hx0 hx1 hy0 hy1 HAE.out HBE.out (by omega) (by have := HWIN.out; unfold B32 at this; exact this) hd0 hd1 HDL.out HDM.out
            have HG1 := Lib.hid hG1
            have HG2 := Lib.hid hG2
            have harr7 := harr.kept hb7
            have harq7 := harq.kept hb7
            have hat7 := hat.below hb7
            have hbw7 := hbw.trans (hb7.mono hbw.size)
            have hjn : j + nv = p2 := by rw [HP2.out, HN2.out]; omega
            have hVB : Hid (vb B32 lv < B32 ^ nv) := by
              show _ < _
              rw [HLV.out]; exact vb_lt B32_pos hcv.lim
            have HZM := win_zero HLM.out HWIN.out hVB.out
            have HZM' := Lib.hid HZM
            clear HAE HBE HTOP HGI HGM HDL HDM HP1 HP0 HI1' HU2 hW1 hx0 hx1 hy0 hy1 cu0 cu1 cu2 cv0 cv1 hG1 hG2 harr harq hat hbw hb7 HZM gd0 hd0b gr0 gr1 htd htm hvz hT hT0 hT1 bu20 bu21 bu10 bu11 bu00 bu01 bv10 bv11 bv00 bv01 bv1t hp1N hp0N hi1n hn2n ep1 ep0 ei1 ei0 HP2 HN2
            go_wp2_with fail
            go_loopg [18, 19, 20] nv (fun k5 cc ll ii w8 => ∃ (i : Nat) (c low : Int) (m1 : List Int), i + k5 = nv ∧ ii = .int .i64 i ∧ cc = .int .u64 c ∧ ll = .int .u64 low ∧ 0 ≤ c ∧ c ≤ 4294967295 ∧ 0 ≤ low ∧ low ≤ 2 ∧ Hid (m1.length = N) ∧ Hid (Lim B32 m1) ∧ Arr w8 gu 0 m1 ∧ Only gu 0 N wc w8 ∧ Hid (m1.take j = m.take j) ∧ Hid (∀ t, j + i ≤ t → m1.getD t 0 = m.getD t 0) ∧ Hid (vb B32 m1 + B32 ^ j * (d * vb B32 (lv.take i)) = vb B32 m + B32 ^ (j + i) * (c + low)))
            case atStart => exact ⟨0, 0, 0, m, by omega, rfl, rfl, rfl, Int.le_refl _, by decide, Int.le_refl _, by decide, HM, HLM, harr7, Only.refl _ _ _ _, rfl, fun _ _ => rfl, by show _ = _; simp⟩
            case round =>
              obtain ⟨i, c, low, m1, hik, rfl, rfl, rfl, hc0, hc1, hl0, hl1, HM1, HLM1, harr1, hon, HTK, HAB, HSV⟩ := hrel
              by_cases hlt : i < nv
              · obtain ⟨y, hye⟩ : ∃ y, y = lv.getD i 0 := ⟨_, rfl⟩
                have by' : 0 ≤ y ∧ y < 4294967296 := by rw [hye]; exact hcv.lim.getD B32_pos _
                obtain ⟨by0, by1⟩ := by'
                have hcy : wr.cell? ⟨bv, ov + i, none⟩ = some (.int .u64 y) := by rw [hye]; exact hon.at' hat7 hbvu i (by rw [← HLV.out]; exact hlt)
                obtain ⟨p, hp⟩ : ∃ p, j + i = p := ⟨_, rfl⟩
                have hpI : (j : Int) + (i : Int) = (p : Int) := by omega
                have hpN' : p < N := by omega
                obtain ⟨o, hoe⟩ : ∃ o, o = m1.getD p 0 := ⟨_, rfl⟩
                have bo : 0 ≤ o ∧ o < 4294967296 := by rw [hoe]; exact HLM1.out.getD B32_pos _
                obtain ⟨bo0, bo1⟩ := bo
                have hco : wr.cell? ⟨gu, p, none⟩ = some (.int .u64 o) := by
                  have := harr1.at' p (by rw [HM1.out]; exact hpN')
                  rwa [Nat.zero_add, ← hoe] at this
                have hfr := harr1.frozen p
                obtain ⟨z, hz⟩ : ∃ z, d * y = z := ⟨_, rfl⟩
                have hzb := mul_bound hd0 hd1 by0 (by omega : y ≤ 4294967295)
                rw [hz] at hzb
                obtain ⟨hz0, hz1⟩ := hzb
                obtain ⟨c2, hc2⟩ : ∃ c2, c + z = c2 := ⟨_, rfl⟩
                have hc20 : 0 ≤ c2 := by omega
                have hc21 : c2 ≤ 18446744069414584320 := by omega
                obtain ⟨cl, hcl⟩ : ∃ cl, c2 % 4294967296 = cl := ⟨_, rfl⟩
                obtain ⟨ch, hch⟩ : ∃ ch, c2 / 4294967296 = ch := ⟨_, rfl⟩
                have hcl' : c2.tmod 4294967296 = cl := by rw [Int.tmod_eq_emod_of_nonneg hc20, hcl]
                have hch' : c2.tdiv 4294967296 = ch := by rw [Int.tdiv_eq_ediv_of_nonneg hc20, hch]
                obtain ⟨x, hx⟩ : ∃ x, cl + low = x := ⟨_, rfl⟩
                have hclb : 0 ≤ cl ∧ cl ≤ 4294967295 := by omega
                have hchb : 0 ≤ ch ∧ ch ≤ 4294967295 := by omega
                obtain ⟨hclb0, hclb1⟩ := hclb
                obtain ⟨hchb0, hchb1⟩ := hchb
                have hxb0 : 0 ≤ x := by omega
                have hxb1 : x ≤ 4294967297 := by omega
                have hpm : p < m1.length := by rw [HM1.out]; exact hpN'
                have hst := fun (lo2 : Int) => sm_step (m := m1) (p := p) (c := c) (low := low) (o := o) (lo2 := lo2) (y := z) (c2 := c2) (x := x) (E := B32 ^ j * (d * vb B32 (lv.take i))) (F := vb B32 m) hpm hoe (by rw [← hp]; exact HSV.out) hc2.symm (by rw [hcl]; exact hx.symm)
                have hnx := sm_next (j := j) (d := d) (by rw [← HLV.out]; exact hlt) hye hz
                have hend : ∀ (lo2 : Int), Hid (vb B32 (m1.set p (o + lo2 * 4294967296 - x)) + B32 ^ j * (d * vb B32 (lv.take (i + 1))) = vb B32 m + B32 ^ (j + (i + 1)) * (ch + lo2)) := fun lo2 => by
                  have q := hst lo2
                  rw [hch, ← hp, hnx, Nat.add_assoc j i 1] at q
                  rw [← hp]
                  exact q
                have hab : ∀ v : Int, Hid (∀ t, j + (i + 1) ≤ t → (m1.set p v).getD t 0 = m.getD t 0) := fun v t ht => by
                  rw [getD_set_other m1 (by omega)]
                  exact HAB.out t (by omega)
                have htk : ∀ v : Int, Hid ((m1.set p v).take j = m.take j) := fun v => by
                  show _ = _
                  rw [take_set_above (by omega)]; exact HTK.out
                have hml : ∀ v : Int, Hid ((m1.set p v).length = N) := fun v => by
                  show _ = _
                  rw [List.length_set]; exact HM1.out
                have HEND := Lib.hid hend
                have HABN := Lib.hid hab
                have HTKN := Lib.hid htk
                have HMLN := Lib.hid hml
                have HPP := Lib.hid hp
                clear hst hnx hend hab htk hml hye hoe hpm hp HSV HAB HTK HM1
                by_cases hox : o < x
                · have hd1' : decide (o < x) = true := by simpa using hox
                  obtain ⟨o2, ho2⟩ : ∃ o2, o + 4294967296 = o2 := ⟨_, rfl⟩
                  have ho2b : 0 ≤ o2 ∧ o2 ≤ 8589934591 := by omega
                  obtain ⟨ho2b0, ho2b1⟩ := ho2b
                  have harr2 := harr1.store p o2
                  rw [Nat.zero_add] at harr2
                  have hco2 : (wr.setCell ⟨gu, p, none⟩ (.int .u64 o2)).cell? ⟨gu, p, none⟩ = some (.int .u64 o2) := by
                    have := harr2.at' p (by rw [(HMLN.out _).out]; exact hpN')
                    rwa [Nat.zero_add, getD_set_same (by have := (HMLN.out o2).out; rw [List.length_set] at this; omega)] at this
                  have hfr2 := harr2.frozen p
                  have hon2 : Only gu 0 N wc (wr.setCell ⟨gu, p, none⟩ (.int .u64 o2)) := hon.trans (Only.store p _ (Nat.zero_le _) hpN')
                  by_cases hox2 : o2 < x
                  · as_aux_lemma =>
                      have hd2' : decide (o2 < x) = true := by simpa using hox2
                      obtain ⟨o3, ho3⟩ : ∃ o3, o2 + 4294967296 = o3 := ⟨_, rfl⟩
                      obtain ⟨v, hv⟩ : ∃ v, o3 - x = v := ⟨_, rfl⟩
                      have hvb : 0 ≤ v ∧ v < 4294967296 := by omega
                      have hve : o + 2 * 4294967296 - x = v := by omega
                      have ho3b : o3 ≤ 12884901887 := by omega
                      have ho3b0 : 0 ≤ o3 := by omega
                      have harr3 := harr2.store p o3
                      rw [Nat.zero_add, List.set_set] at harr3
                      have hco3 : ((wr.setCell ⟨gu, p, none⟩ (.int .u64 o2)).setCell ⟨gu, p, none⟩ (.int .u64 o3)).cell? ⟨gu, p, none⟩ = some (.int .u64 o3) := by
                        have := harr3.at' p (by rw [(HMLN.out _).out]; exact hpN')
                        rwa [Nat.zero_add, getD_set_same (by have := (HMLN.out o3).out; rw [List.length_set] at this; omega)] at this
                      have hfr3 := harr3.frozen p
                      have hon3 := hon2.trans (Only.store (w := wr.setCell ⟨gu, p, none⟩ (.int .u64 o2)) (hi := N) p (.int .u64 o3) (Nat.zero_le _) hpN')
                      have harr4 := harr3.store p v
                      rw [Nat.zero_add, List.set_set] at harr4
                      have hon4 := hon3.trans (Only.store (w := (wr.setCell ⟨gu, p, none⟩ (.int .u64 o2)).setCell ⟨gu, p, none⟩ (.int .u64 o3)) (hi := N) p (.int .u64 v) (Nat.zero_le _) hpN')
                      have HVE := Lib.hid hve
                      have HVB := Lib.hid hvb
                      have hvb0 : 0 ≤ v := hvb.1
                      have hvb1 : v ≤ 4294967295 := by omega
                      clear hve hvb harr2 harr3 hon2 hon3
                      go_wp2_with fail
                      go_roundg (nv - (i + 1))
                      case measure => omega
                      case rel => exact ⟨i + 1, ch, 2, m1.set p v, by omega, by go_num, rfl, rfl, hchb0, hchb1, by decide, by decide, HMLN.out v, HLM1.out.set p HVB.out.1 HVB.out.2, harr4, hon4, HTKN.out v, HABN.out v, by have q := (HEND.out 2).out; rw [HVE.out] at q; exact q⟩
                  · as_aux_lemma =>
                      have hd2' : decide (o2 < x) = false := by simpa using hox2
                      obtain ⟨v, hv⟩ : ∃ v, o2 - x = v := ⟨_, rfl⟩
                      have hvb : 0 ≤ v ∧ v < 4294967296 := by omega
                      have hve : o + 1 * 4294967296 - x = v := by omega
                      have harr4 := harr2.store p v
                      rw [Nat.zero_add, List.set_set] at harr4
                      have hon4 := hon2.trans (Only.store (w := wr.setCell ⟨gu, p, none⟩ (.int .u64 o2)) (hi := N) p (.int .u64 v) (Nat.zero_le _) hpN')
                      have HVE := Lib.hid hve
                      have HVB := Lib.hid hvb
                      have hvb0 : 0 ≤ v := hvb.1
                      have hvb1 : v ≤ 4294967295 := by omega
                      clear hve hvb harr2 hon2
                      go_wp2_with fail
                      go_roundg (nv - (i + 1))
                      case measure => omega
                      case rel => exact ⟨i + 1, ch, 1, m1.set p v, by omega, by go_num, rfl, rfl, hchb0, hchb1, by decide, by decide, HMLN.out v, HLM1.out.set p HVB.out.1 HVB.out.2, harr4, hon4, HTKN.out v, HABN.out v, by have q := (HEND.out 1).out; rw [HVE.out] at q; exact q⟩
                · as_aux_lemma =>
                    have hd1' : decide (o < x) = false := by simpa using hox
                    obtain ⟨v, hv⟩ : ∃ v, o - x = v := ⟨_, rfl⟩
                    have hvb : 0 ≤ v ∧ v < 4294967296 := by omega
                    have hve : o + 0 * 4294967296 - x = v := by omega
                    have harr4 := harr1.store p v
                    rw [Nat.zero_add] at harr4
                    have hon4 := hon.trans (Only.store (w := wr) (hi := N) p (.int .u64 v) (Nat.zero_le _) hpN')
                    have HVE := Lib.hid hve
                    have HVB := Lib.hid hvb
                    have hvb0 : 0 ≤ v := hvb.1
                    have hvb1 : v ≤ 4294967295 := by omega
                    clear hve hvb
                    go_wp2_with fail
                    go_roundg (nv - (i + 1))
                    case measure => omega
                    case rel => exact ⟨i + 1, ch, 0, m1.set p v, by omega, by go_num, rfl, rfl, hchb0, hchb1, by decide, by decide, HMLN.out v, HLM1.out.set p HVB.out.1 HVB.out.2, harr4, hon4, HTKN.out v, HABN.out v, by have q := (HEND.out 0).out; rw [HVE.out] at q; exact q⟩
              · have hin : i = nv := by omega
                obtain ⟨x, hx⟩ : ∃ x, c + low = x := ⟨_, rfl⟩
                have hxb0 : 0 ≤ x := by omega
                have hxb1 : x ≤ 4294967297 := by omega
                obtain ⟨t, hte⟩ : ∃ t, t = m1.getD p2 0 := ⟨_, rfl⟩
                have bt : 0 ≤ t ∧ t < 4294967296 := by rw [hte]; exact HLM1.out.getD B32_pos _
                obtain ⟨bt0, bt1⟩ := bt
                have hct : wr.cell? ⟨gu, p2, none⟩ = some (.int .u64 t) := by
                  have := harr1.at' p2 (by rw [HM1.out]; exact hpN)
                  rwa [Nat.zero_add, ← hte] at this
                have hfr := harr1.frozen p2
                have hS : vb B32 m1 + B32 ^ j * (d * vb B32 lv) = vb B32 m + B32 ^ (j + nv) * x := by
                  have q := HSV.out
                  rw [hin, List.take_of_length_le (l := lv) (by rw [← HLV.out]; exact Nat.le_refl _), hx] at q
                  exact q
                have hteq : t = m1.getD (j + nv) 0 := by rw [hjn]; exact hte
                have hm1l : m1.length = m.length := by rw [HM1.out, HM.out]
                have hjm : j + nv < m1.length := by rw [HM1.out, hjn]; exact hpN
                have hz1 : ∀ i', j + nv < i' → m1.getD i' 0 = 0 := fun i' hi' => by
                  rw [HAB.out i' (by omega)]
                  exact HZM'.out i' hi'
                have hqlt : j < q.length := by rw [HQL.out]; exact hjQ
                have hcq : wr.cell? ⟨gq, j, none⟩ = some (.int .u64 (q.getD j 0)) := by
                  have := (hon.arr' harq7 (Ne.symm hguq)).at' j hqlt
                  rwa [Nat.zero_add] at this
                have harqr := hon.arr' harq7 (Ne.symm hguq)
                have hatr := hon.at' hat7 hbvu
                have hbwr : Below w.heap.size w wr := hbw7.trans (hon.below hgw hbw7.size)
                by_cases htx : t < x
                · as_aux_lemma =>
                    have hd1' : decide (t < x) = true := by simpa using htx
                    have htop := sm_top HLM1.out hm1l hjm HTK.out hz1 hteq hS hVB.out HG2.out
                    obtain ⟨tb, htb⟩ : ∃ tb, t + 4294967296 = tb := ⟨_, rfl⟩
                    obtain ⟨t2, ht2⟩ : ∃ t2, tb - x = t2 := ⟨_, rfl⟩
                    have ht2e : t + 4294967296 - x = t2 := by omega
                    have htb0 : 0 ≤ tb := by omega
                    have htb1 : tb ≤ 8589934591 := by omega
                    have ht20 : 0 ≤ t2 := by omega
                    have ht21 : t2 ≤ 4294967295 := by omega
                    obtain ⟨hov, hneg⟩ := over_top HLM1.out hm1l hjm HTK.out hz1 hteq hS (by omega) (by omega)
                    rw [ht2e, hjn] at hov
                    have hdp : 1 ≤ d := by
                      rcases Int.lt_or_eq_of_le hd0 with h | h
                      · omega
                      · exfalso
                        have q1 := vb_nonneg B32_pos (HLM.out.drop j)
                        rw [← h, Int.zero_mul] at hneg
                        omega
                    have harr2 := harr1.store p2 t2
                    rw [Nat.zero_add] at harr2
                    have hon2 := hon.trans (Only.store (w := wr) (hi := N) p2 (.int .u64 t2) (Nat.zero_le _) hpN)
                    have hm2l : Hid ((m1.set p2 t2).length = N) := by show _ = _; rw [List.length_set]; exact HM1.out
                    have hlm2 : Hid (Lim B32 (m1.set p2 t2)) := HLM1.out.set _ ht20 (by unfold B32; omega)
                    have htk2 : Hid ((m1.set p2 t2).take j = m.take j) := by show _ = _; rw [take_set_above (by omega)]; exact HTK.out
                    have hz2 : Hid (∀ i', j + nv < i' → (m1.set p2 t2).getD i' 0 = 0) := fun i' hi' => by
                      rw [getD_set_other m1 (by omega)]
                      exact hz1 i' hi'
                    have htop2 : Hid ((m1.set p2 t2).getD p2 0 = t2) := by
                      show _ = _
                      rw [getD_set_same (by rw [HM1.out]; exact hpN)]
                    have HOV := Lib.hid hov
                    have HNEG := Lib.hid hneg
                    have HT2E := Lib.hid ht2e
                    obtain ⟨m2, hm2⟩ : ∃ m2, m2 = m1.set p2 t2 := ⟨_, rfl⟩
                    rw [← hm2] at HOV harr2 hm2l hlm2 htk2 hz2 htop2
                    clear hov hneg ht2e hm2 hte hteq hS hm1l hjm hz1 hqlt HSV HAB HTK HM1 HLM1 hin hatr harqr hcq hbwr
                    go_wp2_with fail
                    go_loopg [18, 23] nv (fun k6 cc ii w9 => ∃ (i : Nat) (c : Int) (m3 : List Int), i + k6 = nv ∧ ii = .int .i64 i ∧ cc = .int .u64 c ∧ 0 ≤ c ∧ c ≤ 1 ∧ Hid (m3.length = N) ∧ Hid (Lim B32 m3) ∧ Arr w9 gu 0 m3 ∧ Only gu 0 N wc w9 ∧ Hid (m3.take j = m.take j) ∧ Hid (∀ t, j + i ≤ t → m3.getD t 0 = m2.getD t 0) ∧ Hid (vb B32 m3 + B32 ^ (j + i) * c = vb B32 m2 + B32 ^ j * vb B32 (lv.take i)))
                    case atStart => exact ⟨0, 0, m2, by omega, rfl, rfl, Int.le_refl _, by decide, hm2l, hlm2, harr2, hon2, htk2, fun _ _ => rfl, by show _ = _; simp⟩
                    case round =>
                      as_aux_lemma =>
                        clear harr1 hon hct hfr harr2 hon2
                        obtain ⟨i, c, m3, hik, rfl, rfl, hc0, hc1, HM3, HLM3, harr3, hon3, HTK3, HAB3, HSV3⟩ := hrel
                        by_cases hlt : i < nv
                        · obtain ⟨y, hye⟩ : ∃ y, y = lv.getD i 0 := ⟨_, rfl⟩
                          have by' : 0 ≤ y ∧ y < 4294967296 := by rw [hye]; exact hcv.lim.getD B32_pos _
                          obtain ⟨by0, by1⟩ := by'
                          have hcy : wr.cell? ⟨bv, ov + i, none⟩ = some (.int .u64 y) := by rw [hye]; exact hon3.at' hat7 hbvu i (by rw [← HLV.out]; exact hlt)
                          obtain ⟨p, hp⟩ : ∃ p, j + i = p := ⟨_, rfl⟩
                          have hpI : (j : Int) + (i : Int) = (p : Int) := by omega
                          have hpN' : p < N := by omega
                          obtain ⟨o, hoe⟩ : ∃ o, o = m3.getD p 0 := ⟨_, rfl⟩
                          have bo : 0 ≤ o ∧ o < 4294967296 := by rw [hoe]; exact HLM3.out.getD B32_pos _
                          obtain ⟨bo0, bo1⟩ := bo
                          have hco : wr.cell? ⟨gu, p, none⟩ = some (.int .u64 o) := by
                            have := harr3.at' p (by rw [HM3.out]; exact hpN')
                            rwa [Nat.zero_add, ← hoe] at this
                          have hfr := harr3.frozen p
                          obtain ⟨s1, hs1⟩ : ∃ s1, c + o = s1 := ⟨_, rfl⟩
                          obtain ⟨s2, hs2⟩ : ∃ s2, s1 + y = s2 := ⟨_, rfl⟩
                          have hs2b0 : 0 ≤ s2 := by omega
                          have hs2b1 : s2 ≤ 8589934591 := by omega
                          have hs1b0 : 0 ≤ s1 := by omega
                          have hs1b1 : s1 ≤ 4294967296 := by omega
                          obtain ⟨sl, hsl⟩ : ∃ sl, s2 % 4294967296 = sl := ⟨_, rfl⟩
                          obtain ⟨sh, hsh⟩ : ∃ sh, s2 / 4294967296 = sh := ⟨_, rfl⟩
                          have hsl' : s2.tmod 4294967296 = sl := by rw [Int.tmod_eq_emod_of_nonneg hs2b0, hsl]
                          have hsh' : s2.tdiv 4294967296 = sh := by rw [Int.tdiv_eq_ediv_of_nonneg hs2b0, hsh]
                          have hslb0 : 0 ≤ sl := by omega
                          have hslb1 : sl ≤ 4294967295 := by omega
                          have hshb0 : 0 ≤ sh := by omega
                          have hshb1 : sh ≤ 1 := by omega
                          have hst := ab_step (m := m3) (p := p) (c := c) (o := o) (y := y) (s := s2) (E := vb B32 m2 + B32 ^ j * vb B32 (lv.take i)) (by rw [HM3.out]; exact hpN') hoe (by rw [← hp]; exact HSV3.out) (by omega)
                          have hnx := ab_next (lv := lv) (i := i) (j := j) (y := y) (by rw [← HLV.out]; exact hlt) hye
                          have hend : Hid (vb B32 (m3.set p sl) + B32 ^ (j + (i + 1)) * sh = vb B32 m2 + B32 ^ j * vb B32 (lv.take (i + 1))) := by
                            show _ = _
                            rw [hsl, hsh, ← hp, Int.add_assoc, hnx] at hst
                            rw [← hp, ← Nat.add_assoc]
                            exact hst
                          have hab : Hid (∀ t, j + (i + 1) ≤ t → (m3.set p sl).getD t 0 = m2.getD t 0) := fun t ht => by
                            rw [getD_set_other m3 (by omega)]
                            exact HAB3.out t (by omega)
                          have htk : Hid ((m3.set p sl).take j = m.take j) := by
                            show _ = _
                            rw [take_set_above (by omega)]; exact HTK3.out
                          have hml : Hid ((m3.set p sl).length = N) := by
                            show _ = _
                            rw [List.length_set]; exact HM3.out
                          have harr4 := fun n => (show Arr (wr.drewN n) gu 0 m3 from harr3).store p sl
                          have hon4 := fun n => (hon3.trans (Only.of_below (bdn (Below.refl wr.heap.size wr) n))).trans (Only.store (w := wr.drewN n) (hi := N) p (.int .u64 sl) (Nat.zero_le _) hpN')
                          have HARR4 := Lib.hid harr4
                          have HON4 := Lib.hid hon4
                          clear hst hnx hye hoe hp HSV3 HAB3 HTK3 HM3 harr4 hon4
                          go_wp2_with fail
                          go_quiet (fail)
                          go_wp2_with fail
                          go_roundg (nv - (i + 1))
                          case measure => omega
                          case rel => exact ⟨i + 1, sh, m3.set p sl, by omega, by go_num, rfl, hshb0, hshb1, hml, HLM3.out.set p hslb0 (by unfold B32; omega), by have q := HARR4.out nq; rwa [Nat.zero_add] at q, HON4.out nq, htk, hab, hend⟩
                        · have hin : i = nv := by omega
                          have hS3 : vb B32 m3 + B32 ^ (j + nv) * c = vb B32 m2 + B32 ^ j * vb B32 lv := by
                            have q := HSV3.out
                            rw [hin, List.take_of_length_le (l := lv) (by rw [← HLV.out]; exact Nat.le_refl _)] at q
                            exact q
                          have ht3 : m3.getD p2 0 = t2 := by rw [HAB3.out p2 (by omega)]; exact htop2.out
                          have hct3 : wr.cell? ⟨gu, p2, none⟩ = some (.int .u64 t2) := by
                            have := harr3.at' p2 (by rw [HM3.out]; exact hpN)
                            rwa [Nat.zero_add, ht3] at this
                          have hfr3 := harr3.frozen p2
                          have hz3 : ∀ i', j + nv < i' → m3.getD i' 0 = 0 := fun i' hi' => by
                            rw [HAB3.out i' (by omega)]
                            exact hz2.out i' hi'
                          obtain ⟨hw0, hfin1, hfin2⟩ := ab_right (m1 := m2) (m2 := m3) (m0 := m) (j := j) (n := nv) (x := x) (G := d) (b := vb B32 lv) (t := t) (c := c) HLM3.out (by rw [HM3.out, HM.out]) (by rw [HM3.out, hjn]; exact hpN) HTK3.out hz3 (by rw [hjn, ht3]; exact HT2E.out) hc0 hc1 (by rw [hjn]; exact HOV.out) hS3 HG2.out
                          rw [HT2E.out] at hw0
                          rw [hjn] at hfin1 hfin2
                          obtain ⟨s9, hs9⟩ : ∃ s9, t2 + c = s9 := ⟨_, rfl⟩
                          rw [hs9] at hw0
                          have hs9b0 : 0 ≤ s9 := by omega
                          have hs9b1 : s9 ≤ 4294967296 := by omega
                          have hw0' : s9.tmod 4294967296 = 0 := by rw [Int.tmod_eq_emod_of_nonneg hs9b0, hw0]
                          obtain ⟨d1, hd1e⟩ : ∃ d1, d - 1 = d1 := ⟨_, rfl⟩
                          rw [hd1e] at hfin1 hfin2
                          have harr4 := harr3.store p2 0
                          rw [Nat.zero_add] at harr4
                          have hon4 := hon3.trans (Only.store (w := wr) (hi := N) p2 (.int .u64 0) (Nat.zero_le _) hpN)
                          have harq4 := hon4.arr' harq7 (Ne.symm hguq)
                          have hcq : (wr.setCell ⟨gu, p2, none⟩ (.int .u64 0)).cell? ⟨gq, j, none⟩ = some (.int .u64 (q.getD j 0)) := by
                            have := harq4.at' j (by rw [HQL.out]; exact hjQ)
                            rwa [Nat.zero_add] at this
                          have hfq := harq4.frozen j
                          have hon5 : Only gq 0 Q (wr.setCell ⟨gu, p2, none⟩ (.int .u64 0)) ((wr.setCell ⟨gu, p2, none⟩ (.int .u64 0)).setCell ⟨gq, j, none⟩ (.int .u64 d1)) := Only.store j _ (Nat.zero_le _) hjQ
                          have harq5 := harq4.store j d1
                          rw [Nat.zero_add] at harq5
                          have harr5 := hon5.arr' harr4 hguq
                          have hat5 := hon5.at' (hon4.at' hat7 hbvu) hbvq
                          have hbw4 : Below w.heap.size w (wr.setCell ⟨gu, p2, none⟩ (.int .u64 0)) := hbw7.trans (hon4.below hgw hbw7.size)
                          have hbw5 := hbw4.trans (hon5.below hgqw hbw4.size)
                          have hI1n : Hid (vb B32 (m3.set p2 0) + B32 ^ j * (vb B32 ((q.set j d1).drop j) * vb B32 lv) = vb B32 la * 2 ^ s) := by
                            have := HI1.out
                            rw [HHJ.out] at this
                            exact rd_round (by rw [HQL.out]; exact hjQ) hfin1 this
                          have hI2n : Hid (vb B32 ((m3.set p2 0).drop j) < vb B32 lv) := by
                            show _ < _
                            have q1 := HNEG.out
                            have q2 : d1 * vb B32 lv = d * vb B32 lv - vb B32 lv := by rw [← hd1e, Int.sub_mul, Int.one_mul]
                            omega
                          have hd10 : 0 ≤ d1 := by omega
                          have hd11 : d1 ≤ 4294967295 := by omega
                          have HML5 : Hid ((m3.set p2 0).length = N) := by show _ = _; rw [List.length_set]; exact HM3.out
                          have HQL5 : Hid ((q.set j d1).length = Q) := by show _ = _; rw [List.length_set]; exact HQL.out
                          have HLM5 : Hid (Lim B32 (m3.set p2 0)) := HLM3.out.set _ (Int.le_refl _) B32_pos
                          have HLQ5 : Hid (Lim B32 (q.set j d1)) := HLQ.out.set _ hd10 (by unfold B32; omega)
                          clear hfin1 hfin2 hS3 ht3 hz3 hon4 hon5 hat7 harq7 hbw7 hon3 harr3 HSV3 HAB3 HTK3 hin hbw4 harq4 harr4
                          go_wp2_with fail
                          go_roundg j
                          case measure => have := HHJ.out; omega
                          case rel => exact ⟨m3.set p2 0, q.set j d1, by omega, by go_num, HML5, HQL5, HLM5, HLQ5, harr5, harq5, hat5, hbw5, hI1n, hI2n⟩
                · as_aux_lemma =>
                    have hd1' : decide (t < x) = false := by simpa using htx
                    obtain ⟨v, hv⟩ : ∃ v, t - x = v := ⟨_, rfl⟩
                    have hvb0 : 0 ≤ v := by omega
                    have hvb1 : v ≤ 4294967295 := by omega
                    obtain ⟨hfin1, hfin2⟩ := sm_right hm1l hjm HTK.out hteq hS
                    rw [hv, hjn] at hfin1 hfin2
                    have harr4 := harr1.store p2 v
                    rw [Nat.zero_add] at harr4
                    have hon4 := hon.trans (Only.store (w := wr) (hi := N) p2 (.int .u64 v) (Nat.zero_le _) hpN)
                    have harq4 := hon4.arr' harq7 (Ne.symm hguq)
                    have hcq4 : (wr.setCell ⟨gu, p2, none⟩ (.int .u64 v)).cell? ⟨gq, j, none⟩ = some (.int .u64 (q.getD j 0)) := by
                      have := harq4.at' j hqlt
                      rwa [Nat.zero_add] at this
                    have hfq := harq4.frozen j
                    have hon5 : Only gq 0 Q (wr.setCell ⟨gu, p2, none⟩ (.int .u64 v)) ((wr.setCell ⟨gu, p2, none⟩ (.int .u64 v)).setCell ⟨gq, j, none⟩ (.int .u64 d)) := Only.store j _ (Nat.zero_le _) hjQ
                    have harq5 := harq4.store j d
                    rw [Nat.zero_add] at harq5
                    have harr5 := hon5.arr' harr4 hguq
                    have hat5 := hon5.at' (hon4.at' hat7 hbvu) hbvq
                    have hbw4 : Below w.heap.size w (wr.setCell ⟨gu, p2, none⟩ (.int .u64 v)) := hbw7.trans (hon4.below hgw hbw7.size)
                    have hbw5 := hbw4.trans (hon5.below hgqw hbw4.size)
                    have hI1n : Hid (vb B32 (m1.set p2 v) + B32 ^ j * (vb B32 ((q.set j d).drop j) * vb B32 lv) = vb B32 la * 2 ^ s) := by
                      have := HI1.out
                      rw [HHJ.out] at this
                      exact rd_round hqlt hfin1 this
                    have hI2n : Hid (vb B32 ((m1.set p2 v).drop j) < vb B32 lv) := by
                      show _ < _
                      have q1 := HG1.out
                      rw [Int.add_mul, Int.one_mul] at q1
                      omega
                    have HML5 : Hid ((m1.set p2 v).length = N) := by show _ = _; rw [List.length_set]; exact HM1.out
                    have HQL5 : Hid ((q.set j d).length = Q) := by show _ = _; rw [List.length_set]; exact HQL.out
                    have HLM5 : Hid (Lim B32 (m1.set p2 v)) := HLM1.out.set _ hvb0 (by unfold B32; omega)
                    have HLQ5 : Hid (Lim B32 (q.set j d)) := HLQ.out.set _ hd0 (by unfold B32; omega)
                    clear hfin1 hfin2 hS hz1 hon4 hon5 hat7 harq7 hbw7 hon harr1 HSV HAB HTK hin hbw4 harq4 harr4 hte hteq hm1l hjm hcq harqr hatr hbwr
                    go_wp2_with fail
                    go_roundg j
                    case measure => have := HHJ.out; omega
                    case rel => exact ⟨m1.set p2 v, q.set j d, by omega, by go_num, HML5, HQL5, HLM5, HLQ5, harr5, harq5, hat5, hbw5, hI1n, hI2n⟩
end Go.Proofs.YtjmipbljoblnnaaDoor
