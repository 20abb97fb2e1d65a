/-
  Contract of the document's own Low: how many zero bits a number ends with.
  The document's own DivMod and Sqrt, at the level of numbers.
  Contracts of the statements' own lists: copies, lists that are lent with room behind them, and whether they have stayed as they were; append of words to nothing.
  Contract of the document's own Sub, of a number and one that is not above it.
  What the statement NatShifts wants besides: Low of every number, shifts by negative counts and out of range, one light list, equal numbers.
-/
import Derived.Test.YtbieldebkfkpkaaDoorRefBits
import Derived.Test.YtbieldebkfkpkaaDoorRefDiv
import Derived.Test.YtbieldebkfkpkaaDoorRefNum
import Derived.Test.YtbieldebkfkpkaaDoorSqrtLimb
import Derived.Test.YtbieldebkfkpkaaDoorLowNum
import Derived.Test.YtbieldebkfkpkaaDoorWholeT
import Derived.Deep.DeepCutAuto
import Derived.Test.YtbieldebkfkpkaaDoorRefText
namespace Go.Proofs.YtbieldebkfkpkaaDoor
open Go.RowKit


theorem low_digit {l : List Int} {i k : Nat} {x m : Int} (hi : i < l.length) (hk : k < 32) (hx : l.getD i 0 = x) (hz : vb B32 (l.take i) = 0) (hm : x = 2 ^ k * (2 * m + 1)) : IsLow (vb B32 l) (32 * i + k) := by
  refine ⟨m + 2 ^ (31 - k) * vb B32 (l.drop (i + 1)), ?_⟩
  rw [vb_split B32 l i (by omega), hz, vb_drop B32 hi, hx, hm]
  have e1 : B32 ^ i = 2 ^ (32 * i) := by rw [Int.pow_mul]; rfl
  have e2 : (B32 : Int) = 2 ^ k * (2 ^ (31 - k) * 2) := by
    rw [← Int.pow_succ, ← Int.pow_add, show k + (31 - k + 1) = 32 by omega]; rfl
  generalize vb B32 (l.drop (i + 1)) = R
  rw [e1, Int.pow_add, Int.zero_add]
  conv => lhs; rw [e2]
  rw [Int.mul_assoc (2 ^ (32 * i)) (2 ^ k)]
  congr 1
  rw [Int.mul_assoc (2 ^ k), ← Int.mul_add]
  congr 1
  rw [Int.mul_comm (2 ^ (31 - k)) 2, Int.mul_assoc, Int.mul_add]
  omega

/-- One more zero bit. -/
theorem bit_zero {x z : Int} {k : Nat} (hx : x % 2 ^ k = 0) (hz : x / 2 ^ k = z) (hb : z % 2 = 0) : x % 2 ^ (k + 1) = 0 := by
  have e := Int.mul_ediv_add_emod x (2 ^ k)
  rw [hz, hx] at e
  have e2 : x = 2 ^ (k + 1) * (z / 2) := by
    rw [Int.pow_succ, Int.mul_assoc, show 2 * (z / 2) = z by omega]; omega
  rw [e2, Int.mul_emod_right]
theorem bit_one {x z : Int} {k : Nat} (hx : x % 2 ^ k = 0) (hz : x / 2 ^ k = z) (hb : z % 2 = 1) : x = 2 ^ k * (2 * (z / 2) + 1) := by
  have e := Int.mul_ediv_add_emod x (2 ^ k)
  rw [hz, hx] at e
  rw [show 2 * (z / 2) + 1 = z by omega]; omega

set_option maxRecDepth 100000 in
set_option maxHeartbeats 1000000 in
theorem rlow_any (ao : Option Addr) (n cap : Nat) (l : List Int) (w : World) (hn : n = l.length) (_h1 : n ≤ cap) (_h2 : cap ≤ 9223372036854775807) (h : Rd w ao l) (hl : Lim B32 l) (hM : n ≤ MaxW) (hnz : vb B32 l ≠ 0) :
    Calls Tryd.prog 25 #[.slice ao n cap] w fun e w' => ∃ t : Nat, e = .returned (.int .i64 t) ∧ IsLow (vb B32 l) t ∧ t ≤ 32 * n ∧ w = w' := by
  unfold MaxW at hM
  have HN := Lib.hid hn
  have HNZ := Lib.hid hnz
  obtain ⟨b, off, rfl, hat⟩ := h.cases (by intro e; rw [e] at hnz; exact hnz rfl)
  clear hn hnz
  go_enter Tryd.func25, Tryd.ntmps25
  go_wp2
  go_loop [3, 4] (fun nn ii => ∃ i : Nat, i ≤ n ∧ nn = .int .i64 (32 * (i : Int)) ∧ ii = .int .i64 i ∧ Hid (vb B32 (l.take i) = 0)) (fun _ ii => n - (intOf ii).toNat)
  case atStart => exact ⟨0, Nat.zero_le _, rfl, rfl, by show _ = _; simp⟩
  case round =>
    obtain ⟨i, hi, rfl, rfl, HV⟩ := hrel
    by_cases hlt : i < n
    · obtain ⟨x, hxe⟩ : ∃ x, x = l.getD i 0 := ⟨_, rfl⟩
      have hil : i < l.length := by rw [← HN.out]; exact hlt
      have hcx : w.cell? ⟨b, off + i, none⟩ = some (.int .u64 x) := by rw [hxe]; exact hat i hil
      have bx : 0 ≤ x ∧ x < 4294967296 := by rw [hxe]; exact hl.getD B32_pos _
      obtain ⟨bx0, bx1⟩ := bx
      have HXE := Lib.hid hxe
      clear hxe
      go_wp2
      go_loop [3, 5] (fun nn kk => ∃ k : Nat, k ≤ 32 ∧ nn = .int .i64 (32 * (i : Int) + (k : Int)) ∧ kk = .int .i64 k ∧ Hid (x % 2 ^ k = 0)) (fun _ kk => 32 - (intOf kk).toNat)
      case atStart => exact ⟨0, Nat.zero_le _, by simp, rfl, by show _ = _; rw [Int.pow_zero]; omega⟩
      case round =>
        obtain ⟨k, hk, rfl, rfl, HX⟩ := hrel
        by_cases hk32 : k < 32
        · obtain ⟨z, hz⟩ : ∃ z, x / 2 ^ k = z := ⟨_, rfl⟩
          have hz0 : 0 ≤ z := by rw [← hz]; exact Int.ediv_nonneg bx0 (Int.le_of_lt (pow2_pos k))
          have hz1 : z < 4294967296 := by rw [← hz]; exact Int.lt_of_le_of_lt (Int.ediv_le_self _ bx0) bx1
          obtain ⟨q, hq⟩ : ∃ q, z % 2 = q := ⟨_, rfl⟩
          have hand : bits .and .u64 z 1 = q := by
            have := and_mask z 1 (by decide) hz0 (by omega)
            rw [← hq]; exact this
          have hkI : (k : Int) < 32 := by omega
          by_cases hq1 : q = 1
          · have hlow := low_digit hil hk32 HXE.out.symm HV.out (bit_one HX.out hz (by rw [hq]; exact hq1))
            have hqe : (q == 1) = true := by simp [hq1]
            have hval : (32 * (i : Int) + (k : Int)) = ((32 * i + k : Nat) : Int) := by omega
            have HLOW := Lib.hid hlow
            have HVAL := Lib.hid hval
            have hb : 32 * i + k ≤ 32 * n := by omega
            have HB := Lib.hid hb
            clear hlow hval hq hq1 hb
            go_wp2
            go_ret
            exact ⟨32 * i + k, by rw [HVAL.out]; rfl, HLOW.out, HB.out, rfl⟩
          · have hq0 : q = 0 := by omega
            have hqe : (q == 1) = false := by simp [hq0]
            have hnx := bit_zero HX.out hz (by rw [hq]; exact hq0)
            have HNX := Lib.hid hnx
            clear hnx hq hq1 hq0
            go_wp2
            go_round
            case rel => exact ⟨k + 1, by omega, by go_num, by go_num, HNX⟩
            case measure => simp [intOf]; omega
        · obtain rfl : k = 32 := by omega
          have hx0 : x = 0 := by
            have : x % 4294967296 = 0 := HX.out
            omega
          have hv : vb B32 (l.take (i + 1)) = 0 := by rw [vb_take_succ B32 hil, HV.out, ← HXE.out, hx0]; simp
          have HV2 := Lib.hid hv
          clear hv hx0
          go_wp2
          go_round
          case rel => exact ⟨i + 1, by omega, by go_num, by go_num, HV2⟩
          case measure => simp [intOf]; omega
    · exfalso
      have h3 : l.take i = l := List.take_of_length_le (by rw [← HN.out]; omega)
      have h4 := HV.out
      rw [h3] at h4
      exact HNZ.out h4


theorem RdD.rn {w : World} {v : Value} {l : List Int} {N : Int} {m : Nat} (h : RdD w v l) (hv : vb B32 l = N) (hm : N < B32 ^ m) : RN w v N m := by
  obtain ⟨a, c, rfl, h2, h3, h4, h5⟩ := h
  exact ⟨l, a, c, rfl, h2, h3, h4, h5, hv, room_of B32_pos h5 (by rw [hv]; exact hm)⟩
theorem RetD2.retr {w : World} {Q R : Int} {m k : Nat} {e : Ending} {w' : World} (h : RetD2 w Q R e w') (hm : Q < B32 ^ m) (hk : R < B32 ^ k) : RetR2 w Q R m k e w' := by
  obtain ⟨aq, nq, cq, lq, ar, nr, cr, lr, rfl, h1, h2, h3, h4, h5⟩ := h
  exact ⟨aq, nq, cq, ar, nr, cr, rfl, h1.rn h2 hm, h3.rn h4 hk, h5⟩

set_option maxRecDepth 100000 in
/-- The dividend is less than the divisor. -/
theorem rdivs_any (aa : Option Addr) (na ca : Nat) (la : List Int) (ab : Option Addr) (n cb : Nat) (lb : List Int) (w : World) (hna : na = la.length) (hnb : n = lb.length) (h1 : na ≤ ca) (h2 : ca ≤ 9223372036854775807) (h3 : n ≤ cb) (h4 : cb ≤ 9223372036854775807)
    (ha : Rd w aa la) (hb : Rd w ab lb) (hla : Can B32 la) (hlb : Can B32 lb) (hlt : vb B32 la < vb B32 lb) :
    Calls Tryd.prog 65 #[.slice aa na ca, .slice ab n cb] w fun e w' => RetD2 w (vb B32 la / vb B32 lb) (vb B32 la % vb B32 lb) e w' := by
  have hC := rcmp_any aa na ca la ab n cb lb w hna hnb h1 h2 h3 h4 ha hb hla hlb
  have hn0 := vb_nonneg B32_pos hla.lim
  rw [cmpI_lt hlt] at hC
  have HC := Lib.hid hC
  have HQ := Lib.hid (Int.ediv_eq_zero_of_lt hn0 hlt)
  have HR := Lib.hid (Int.emod_eq_of_lt hn0 hlt)
  have HN := Lib.hid hna
  clear hC hna hlt hnb
  go_enter Tryd.func65, Tryd.ntmps65
  go_wp2_with fail
  refine HC.out.mono ?_
  rintro e w1 ⟨rfl, hb1⟩
  go_wp2_with fail
  go_ret2
  exact ⟨none, 0, 0, [], aa, na, ca, la, rfl, ⟨none, 0, rfl, Nat.le_refl _, by decide, Rd.nil _ _, Can.nil _⟩, by rw [HQ.out]; rfl, ⟨aa, ca, by rw [HN.out], by rw [← HN.out]; exact h1, h2, ha.below hb1, hla⟩, by rw [HR.out], hb1⟩

theorem rdm_num {w : World} {u v : Value} {A B : Int} {m k : Nat} (h : RN w u A m) (g : RN w v B k) (hB : B ≠ 0) (hm : m ≤ 100000) : Calls Tryd.prog 65 #[u, v] w fun e w' => RetR2 w (A / B) (A % B) m k e w' := by
  have hA0 := h.nonneg
  have hB0 := g.nonneg
  have hq : A / B < B32 ^ m := Int.lt_of_le_of_lt (Int.ediv_le_self _ hA0) h.lt
  have hr : A % B < B32 ^ k := Int.lt_trans (Int.emod_lt_of_pos A (by omega)) g.lt
  obtain ⟨a, n, c, l, rfl, h1, h2, h3, h4, h5, rfl, h7⟩ := h.open
  obtain ⟨a', n', c', l', rfl, g1, g2, g3, g4, g5, rfl, g7⟩ := g.open
  have fin : ∀ e w', RetD2 w (vb B32 l / vb B32 l') (vb B32 l % vb B32 l') e w' → RetR2 w (vb B32 l / vb B32 l') (vb B32 l % vb B32 l') m k e w' := fun e w' hr' => hr'.retr hq hr
  rcases Int.lt_or_le (vb B32 l) (vb B32 l') with hlt | hge
  · exact (rdivs_any a n c l a' n' c' l' w h1 g1 h2 h3 g2 g3 h4 g4 h5 g5 hlt).mono fin
  · have hne : l' ≠ [] := by intro e; rw [e] at hB; exact hB rfl
    have hn0 : 0 < n' := by rw [g1]; exact List.length_pos_iff.2 hne
    by_cases h21 : n' = 1
    · subst h21
      obtain ⟨d, hd⟩ : ∃ d, l' = [d] := by
        match l', g1 with
        | [d], _ => exact ⟨d, rfl⟩
      subst hd
      obtain ⟨b, o, rfl, hat⟩ := g4.cases (by simp)
      have hvd : vb B32 [d] = d := by simp [vb_cons]
      rw [hvd] at hB hB0 hq hr fin ⊢
      have hd1 := (g5.lim).head.2
      exact (rdiv1_any a n c l b o c' d w h1 h2 h3 g2 g3 h4 h5 hat (by omega) (by unfold B32 at hd1; omega) (by unfold MaxW; omega)).mono fin
    · exact (rdivl_any a n c l a' n' c' l' w h1 g1 h2 h3 g2 g3 h4 g4 h5 g5 (by omega) hge (by omega)).mono fin

/-- One step of Newton's from a number above the root. -/
theorem newton_pos {x r : Int} (hx : 0 < x) (hr : 0 < r) (h : x < (r + 1) * (r + 1)) : 0 < (r + x / r) / 2 := by
  by_cases h1 : r = 1
  · subst h1
    have : x / 1 = x := Int.ediv_one x
    rw [this]; omega
  · have : 0 ≤ x / r := Int.ediv_nonneg (by omega) (by omega)
    omega

set_option maxRecDepth 100000 in
set_option maxHeartbeats 1000000 in
theorem rsqrt_num {w : World} {u : Value} {N : Int} {m : Nat} (h : RN w u N m) (hm : m ≤ 50000) : Calls Tryd.prog 14 #[u] w fun e w' => ∃ R, IsRoot N R ∧ RetR w R (m + 1) e w' := by
  have hN0 := h.nonneg
  obtain ⟨a, n, c, l, rfl, h1, h2, h3, h4, h5, hv, h7⟩ := h.open
  by_cases h0 : n = 0
  · have hNz : N = 0 := h.len.1.1 h0
    have hz : ((n : Int) == 0) = true := by simp; omega
    have HNZ := Lib.hid hNz
    clear h1 hv h0 hNz
    go_enter Tryd.func14, Tryd.ntmps14
    go_wp2_with fail
    go_ret
    exact ⟨0, ⟨Int.le_refl _, by rw [HNZ.out]; decide, by rw [HNZ.out]; decide⟩, none, 0, 0, rfl, RN.nil _ _, Below.refl _ _⟩
  · have hNp : 0 < N := by
      have : N ≠ 0 := fun e => h0 (h.len.1.2 e)
      omega
    have hz : ((n : Int) == 0) = false := by simp; omega
    obtain ⟨K, hK⟩ : ∃ K, K = nb N := ⟨_, rfl⟩
    obtain ⟨s, hs⟩ : ∃ s, s = (K + 1) / 2 := ⟨_, rfl⟩
    have hlt := h.lt
    have hK32 : K ≤ 32 * m := by
      rw [hK]
      refine nb_le ?_
      rw [show (2 : Int) ^ (32 * m) = B32 ^ m by rw [Int.pow_mul]; rfl]
      exact hlt
    have hKI : ((K : Int) + 1).tdiv 2 = (s : Int) := by rw [Int.tdiv_eq_ediv_of_nonneg (by omega)]; omega
    have hr0 : N < (2 ^ s + 1) * (2 ^ s + 1) := by
      have q1 := lt_of_nb_le (N := N) (m := K) (by rw [hK]; exact Nat.le_refl _)
      have q2 := pow2_pos s
      have q3 : (2 : Int) ^ K ≤ 2 ^ s * 2 ^ s := by rw [← Int.pow_add]; exact pow_le_pow (by decide) (by omega)
      have q4 : (2 ^ s + 1) * (2 ^ s + 1) = (2 : Int) ^ s * 2 ^ s + 2 * 2 ^ s + 1 := by rw [Int.add_mul, Int.mul_add]; omega
      omega
    have hs16 : s ≤ 16777216 := by omega
    have HK := Lib.hid hK
    have HR0 := Lib.hid hr0
    have HV := Lib.hid hv
    have hRs : (2 : Int) ^ s < B32 ^ (m + 1) := by
      have q1 : (2 : Int) ^ s ≤ 2 ^ (32 * m) := pow_le_pow (by decide) (by omega)
      have q2 : (2 : Int) ^ (32 * m) = B32 ^ m := by rw [Int.pow_mul]; rfl
      have q3 : B32 ^ (m + 1) = B32 ^ m * 4294967296 := Int.pow_succ ..
      have q4 := pow_pos' B32_pos m
      omega
    have HRS := Lib.hid hRs
    have HH1 := Lib.hid h1
    clear h1 hK hs hr0 hv hRs hlt
    go_enter Tryd.func14, Tryd.ntmps14
    go_wp2_with fail
    refine (small_num 1 w (by decide) (by decide)).mono ?_
    rintro e w1 ⟨a1, n1, c1, rfl, hone, hb1⟩
    go_wp2_with fail
    refine (rbits_any a n c l w1 HH1.out h2 h3 (h4.below hb1) h5 (by unfold MaxW; omega)).mono ?_
    rintro e w' ⟨rfl, rfl⟩
    rw [HV.out, ← HK.out]
    go_wp2_with fail
    refine (rshl_num s (p := 2 + s / 32 + 1) hone hs16 (Nat.le_refl _) (by decide)).mono ?_
    rintro e w2 ⟨a2, n2, c2, rfl, hr2, hb2⟩
    have hb12 := hb1.trans (hb2.mono hb1.size)
    have hr2' : RN w2 (.slice a2 n2 c2) (2 ^ s) (m + 1) := (hr2.eq (by omega)).tight HRS.out
    clear hr2 hb2 hone HK HRS
    go_wp2_with fail
    go_loopg [3] ((2 : Int) ^ s).toNat (fun k vr wr => ∃ (ar : Option Addr) (nr cr : Nat) (r : Int), vr = .slice ar nr cr ∧ RN wr (.slice ar nr cr) r (m + 1) ∧ 0 < r ∧ Hid (N < (r + 1) * (r + 1)) ∧ Below w.heap.size w wr ∧ Hid (k = r.toNat))
    case atStart => exact ⟨a2, n2, c2, 2 ^ s, rfl, hr2', pow2_pos s, HR0, by assumption, rfl⟩
    case round =>
      clear hr2' hb12 hb1
      obtain ⟨ar, nr, cr, r, rfl, hr, hr0, HRT, hbw, HKR⟩ := hrel
      have hu := h.below hbw
      go_wp2_with fail
      refine (rdm_num hu hr (by omega) (by omega)).mono ?_
      rintro e w3 ⟨aq, nq, cq, a3, n3, c3, rfl, hq, -, hb3⟩
      have hr3 := hr.below hb3
      have hbw3 := hbw.trans (hb3.mono hbw.size)
      clear hu hr hb3
      go_wp2_with fail
      refine (radd_num (p := m + 2) hr3 hq (by omega) (by omega) (by omega)).mono ?_
      rintro e w4 ⟨a4, n4, c4, rfl, hs4, hb4⟩
      have hr4 := hr3.below hb4
      have hbw4 := hbw3.trans (hb4.mono hbw3.size)
      clear hr3 hq hb4 hbw hbw3
      go_wp2_with fail
      refine (rshr_num 1 hs4 (by decide) (by omega)).mono ?_
      rintro e w5 ⟨a5, n5, c5, rfl, hs5, hb5⟩
      have hr5 := hr4.below hb5
      have hbw5 := hbw4.trans (hb5.mono hbw4.size)
      obtain ⟨S, hS⟩ : ∃ S, S = (r + N / r) / 2 := ⟨_, rfl⟩
      have hs5' := hs5.eq (show (r + N / r) / 2 ^ 1 = S by rw [hS]; rfl)
      have hnx := newton_ge (x := N) hr0
      have hpo := newton_pos hNp hr0 HRT.out
      rw [← hS] at hnx hpo
      have HNX := Lib.hid hnx
      have HS := Lib.hid hS
      clear hr4 hs4 hs5 hb5 hbw4 hnx hS
      go_wp2_with fail
      refine (rcmp_num hs5' hr5).mono ?_
      obtain ⟨cc, hcc⟩ : ∃ cc, cmpI S r = cc := ⟨_, rfl⟩
      rw [hcc]
      rintro e w6 ⟨rfl, hb6⟩
      have hr6 := hr5.below hb6
      have hs6 := hs5'.below hb6
      have hbw6 := hbw5.trans (hb6.mono hbw5.size)
      clear hr5 hs5' hb6 hbw5
      by_cases hge : r ≤ S
      · have hcc0 : decide (0 ≤ cc) = true := by
          rw [← hcc]
          rcases Int.lt_or_eq_of_le hge with q | q
          · rw [cmpI_gt q]; decide
          · rw [cmpI_eq q.symm]; decide
        have hdone := newton_done (x := N) hr0 (by rw [← HS.out]; exact hge)
        have HD := Lib.hid hdone
        clear hdone hcc hge
        go_wp2_with fail
        go_ret
        exact ⟨r, ⟨by omega, HD.out, HRT.out⟩, ar, nr, cr, rfl, hr6, hbw6⟩
      · have hcc0 : decide (0 ≤ cc) = false := by
          rw [← hcc, cmpI_lt (by omega)]; decide
        have hsl : S < r := by omega
        have hs7 := hs6.tight (k := m + 1) (Int.lt_trans hsl hr6.lt)
        clear hcc hge
        go_wp2_with fail
        go_roundg S.toNat
        case measure => have := HKR.out; omega
        case rel => exact ⟨a5, n5, c5, S, rfl, hs7, hpo, HNX, hbw6, rfl⟩


/-- append(nothing, words ..). -/
theorem wpList_append_nil_words {P : Program} (w : World) {ops : Array Oper} {rest : List Oper} {o : Oper} {a : Act} {Q : Exit → Act → World → Prop} (hgd : o.guard = none) (s x : Operand) (t : TypeId)
    (ho : o.op = .call { callee := .builtin .append, args := #[s, x], argTypes := #[t, t] }) (ht : P.underlying t = some (.slice 68)) (hi : (P.info? 68).map (fun i => (i.zero, i.size, i.bytes)) = some (some (.int .u64 0), 1, 8))
    (hs : a.eval s = .slice none 0 0) (ao : Option Addr) (n c : Nat) (l : List Int) (hx : a.eval x = .slice ao n c) (hn : n = l.length) (hr : Rd w ao l) (hM : n ≤ MaxW)
    (hK : ∀ v' w', Ow w.heap.size w' v' l → Below w.heap.size w w' → wpList P ops Q rest (a.put o.dst v') w') : wpList P ops Q (o :: rest) a w := by
  by_cases hl : l = []
  · subst hl
    obtain rfl : n = 0 := hn
    obtain ⟨i, h2, h3, h4, h5⟩ := info_parts hi
    refine wpList_plain hgd fun K hK' => ?_
    have hrun : (Builtin.append_ #[t, t] o.type #[.slice none 0 0, .slice ao 0 c]).run P w = .ok (.slice none 0 0) w := by
      cases ao <;> simp [Builtin.append_, run_underlying ht, sizeOf, typeInfo, h2, Builtin.lenOf, Builtin.firstCells, loadCells, loadCellsFrom]
    unfold Oper.wp execOp
    simp only [ho, resolve, invoke, builtin, Sem.run_bind, Sem.run_pure, Result.andThen_ok, List.map_toArray, List.map_cons, List.map_nil, hs, hx, hrun]
    exact hK' _ _ (hK _ _ (Ow.nil _ _) (Below.refl _ _))
  · obtain ⟨b, off, rfl, hat⟩ := hr.cases hl
    refine wpList_append_words w hgd s x t ho ht hi w.heap.size (.slice none 0 0) [] hs (Ow.nil _ _) ⟨b, off, none⟩ n c l hx hn.symm (fun j hj => by rw [addr_add_none]; exact hat j hj) (by simpa using hM) (Nat.le_refl _) fun v' w' h1 h2 => hK v' w' ?_ h2
    simpa using h1

/-- A row of the call's own that is not empty lies in a block of its own. -/
theorem ow_row {base : Nat} {w : World} {v : Value} {l : List Int} (h : Ow base w v l) (hl : l ≠ []) : ∃ g n cap, v = .slice (some ⟨g, 0, none⟩) n cap ∧ n = l.length ∧ n ≤ cap ∧ cap ≤ 9223372036854775807 ∧ Arr w g 0 l ∧ base ≤ g ∧ g < w.heap.size := by
  have h' := h
  obtain ⟨ao, cap, rfl, h1, h2, h3⟩ := h.form
  rcases h.2 with ⟨hv, h0⟩ | ⟨g, cap', cur, hv, hg, hh, r⟩
  · exact absurd (List.eq_nil_of_length_eq_zero h0) hl
  · simp only [Value.slice.injEq] at hv
    obtain ⟨rfl, -, rfl⟩ := hv
    exact ⟨g, _, cap, rfl, rfl, h1, h2, h'.arr.1, hg, (Array.getElem?_eq_some_iff.1 hh).1⟩

set_option maxRecDepth 100000 in
theorem copy_any (ao : Option Addr) (n cap : Nat) (l : List Int) (w : World) (hn : n = l.length) (h : Rd w ao l) (hM : n ≤ MaxW) :
    Calls Tryd.prog 57 #[.slice ao n cap] w fun e w' => ∃ v, e = .returned v ∧ Ow w.heap.size w' v l ∧ Below w.heap.size w w' := by
  have HN := Lib.hid hn
  clear hn
  go_enter Tryd.func57, Tryd.ntmps57
  go_wp2_with (at_builtin; (refine wpList_append_nil_words _ rfl _ _ 22 rfl Tryd.underlying22 info_u64 rfl ao n cap l rfl HN.out h hM ?_; intro v1 w1 hO1 hb1))
  go_ret
  exact ⟨v1, rfl, hO1, hb1⟩

set_option maxRecDepth 100000 in
theorem lent_any (ao : Option Addr) (n cap : Nat) (l : List Int) (w : World) (hn : n = l.length) (h : Rd w ao l) (hM : n + 1 ≤ MaxW) :
    Calls Tryd.prog 10 #[.slice ao n cap] w fun e w' => ∃ g c, e = .returned (.slice (some ⟨g, 0, none⟩) n c) ∧ n + 1 ≤ c ∧ c ≤ 9223372036854775807 ∧ At w' g 0 (l ++ [77]) ∧ Below w.heap.size w w' := by
  have HN := Lib.hid hn
  clear hn
  go_enter Tryd.func10, Tryd.ntmps10
  go_wp2_with fail
  refine (copy_any ao n cap l w HN.out h (by omega)).mono ?_
  rintro e w1 ⟨v1, rfl, hO1, hb1⟩
  have hO2 := hO1.alloc (.cells #[.int .u64 77] 68)
  have hlen : l.length + 1 ≤ MaxW := by rw [← HN.out]; exact hM
  have hb2 := hb1.alloc hb1.size (.cells #[.int .u64 77] 68)
  have hbs : w.heap.size ≤ (w1.alloc (.cells #[.int .u64 77] 68)).heap.size := hb2.size
  go_wp2_with (at_builtin; (refine wpList_append_words _ rfl _ _ 22 rfl Tryd.underlying22 info_u64 w.heap.size v1 l rfl hO2 ⟨w1.heap.size, 0, none⟩ 1 1 [77] rfl rfl (news1 _ _ _) hlen hbs ?_; intro v3 w3 hO3 hb3; obtain ⟨g, N, c, rfl, hN, hNc, hc63, harr, hg0, hg1⟩ := ow_row hO3 (by simp); have HNN := Lib.hid hN; clear hN; have hNn : n + 1 = N := (by rw [HNN.out, List.length_append, ← HN.out]; rfl); have hnc : n ≤ c := (by omega); have HNn := Lib.hid hNn; clear hNn))
  go_ret
  exact ⟨g, c, rfl, by have := HNn.out; omega, hc63, harr.at', hb2.trans hb3⟩

set_option maxRecDepth 100000 in
set_option maxHeartbeats 1000000 in
theorem stays_yes (g n c : Nat) (ao : Option Addr) (cap : Nat) (l : List Int) (w : World) (hn : n = l.length) (h1 : n + 1 ≤ c) (h2 : c ≤ 9223372036854775807) (h3 : n ≤ cap) (h4 : cap ≤ 9223372036854775807) (hat : At w g 0 (l ++ [77])) (h : Rd w ao l) :
    Calls Tryd.prog 27 #[.slice (some ⟨g, 0, none⟩) n c, .slice ao n cap] w fun e w' => RetV w (.bool true) e w' := by
  have h77 : w.cell? ⟨g, n, none⟩ = some (.int .u64 77) := by
    have := hat n (by rw [List.length_append, ← hn]; exact Nat.lt_succ_self n)
    rw [Nat.zero_add] at this
    rw [this]
    congr 2
    rw [List.getD_eq_getElem?_getD, List.getElem?_append_right (by omega), hn]
    simp
  have hx : Rd w (some ⟨g, 0, none⟩) l := by
    have := Rd.of_at (hat.take n)
    rwa [hn, List.take_left] at this
  have HS := Lib.hid (same_yes (some ⟨g, 0, none⟩) n c ao cap l w hn (by omega) h2 h3 h4 hx h)
  have hnI : n + 1 ≤ 9223372036854775807 := by omega
  clear hn hat hx h
  go_enter Tryd.func27, Tryd.ntmps27
  go_wp2_with fail
  refine HS.out.mono ?_
  rintro e w1 ⟨rfl, hb1⟩
  have k77 := cell_after hb1 h77
  clear h77 HS
  go_wp2_with fail
  go_ret
  exact ⟨rfl, hb1⟩


theorem rsub_step {m : List Int} {p : Nat} {c o y b t E : Int} (hp : p < m.length) (ho : o = m.getD p 0) (hS : vb B32 m + E = t + B32 ^ p * c) :
    vb B32 (m.set p (o + b * 4294967296 - (c + y))) + (E + B32 ^ p * y) = t + B32 ^ (p + 1) * b := by
  rw [vb_set B32 m p _ hp, ← ho, Int.pow_succ, Int.mul_assoc]
  have e : B32 ^ p * (B32 * b) = B32 ^ p * c + B32 ^ p * y + B32 ^ p * (o + b * 4294967296 - (c + y) - o) := by
    rw [← Int.mul_add, ← Int.mul_add]
    congr 1
    unfold B32
    omega
  rw [e]
  omega
theorem take_getD_zero {l : List Int} {i : Nat} : vb B32 (l.take i) + B32 ^ i * l.getD i 0 = vb B32 (l.take (i + 1)) := by
  by_cases h : i < l.length
  · rw [vb_take_succ B32 h]
  · rw [List.take_of_length_le (by omega), List.take_of_length_le (by omega), List.getD_eq_getElem?_getD, List.getElem?_eq_none (by omega)]
    simp

set_option maxRecDepth 100000 in
set_option maxHeartbeats 2000000 in
theorem rsub_any (ax : Option Addr) (na ca : Nat) (a : List Int) (ay : Option Addr) (nb' cb : Nat) (b : List Int) (w : World) (hna : na = a.length) (hnb : nb' = b.length) (_h1 : na ≤ ca) (_h2 : ca ≤ 9223372036854775807) (_h3 : nb' ≤ cb) (_h4 : cb ≤ 9223372036854775807)
    (hx : Rd w ax a) (hy : Rd w ay b) (hla : Lim B32 a) (hlb : Can B32 b) (hM : na ≤ MaxW) (hle : vb B32 b ≤ vb B32 a) :
    Calls Tryd.prog 22 #[.slice ax na ca, .slice ay nb' cb] w fun e w' => RetRd B32 w (vb B32 a - vb B32 b) e w' := by
  have hba : nb' ≤ na := by
    rw [hna, hnb]
    exact room_of B32_pos hlb (Int.lt_of_le_of_lt hle (vb_lt B32_pos hla))
  have HA := Lib.hid hna
  have HB := Lib.hid hnb
  have HLE := Lib.hid hle
  have hM63 : na ≤ 9223372036854775807 := by unfold MaxW at hM; omega
  clear hna hnb hle
  go_enter Tryd.func22, Tryd.ntmps22
  go_wp2_with (at_builtin; refine wpList_append_nil_words _ rfl _ _ 25 rfl Tryd.underlying25 info_u64 rfl ax na ca a rfl HA.out hx hM ?_; intro v1 w1 hO1 hb1; obtain ⟨ao, co, rfl, q1, q2, q3, q4⟩ := hO1.form'; rw [← HA.out] at q1 ⊢)
  have hreg : ∀ g : Nat, na ≠ 0 → ao = some ⟨g, 0, none⟩ → Arr w1 g 0 a := by
    intro g _ e
    subst e
    exact hO1.arr.1
  have haddr : na ≠ 0 → ∃ g, ao = some ⟨g, 0, none⟩ := by
    intro h0
    obtain ⟨g, n', cap', e, -⟩ := ow_row hO1 (by intro e; have := HA.out; rw [e] at this; simp at this; omega)
    simp only [Value.slice.injEq] at e
    exact ⟨g, e.1⟩
  by_cases h0 : na = 0
  · have hbnil : b = [] := List.eq_nil_of_length_eq_zero (by rw [← HB.out]; omega)
    have hanil : a = [] := List.eq_nil_of_length_eq_zero (by rw [← HA.out]; exact h0)
    have hI : ¬ (0 : Int) < (na : Int) := by omega
    have HZ : Hid (vb B32 a - vb B32 b = 0) := by show _ = _; rw [hanil, hbnil]; rfl
    have HAN := Lib.hid hanil
    clear hbnil hanil hreg haddr h0
    refine wp_loop_rounds 1 ?_
    rw [rounds_succ]
    go_wp2_with fail
    refine (rtrim_any ao na co a w1 HA.out q1 q2 q3).mono ?_
    rintro e w' ⟨rfl, rfl⟩
    go_wp2_with fail
    go_ret
    exact ⟨ao, tlen a, tlen a, tr a, rfl, (tr_length _).symm, Nat.le_refl _, by have := tlen_le a; have := HA.out; omega, q3.take _, can_tr hla, by rw [vb_tr, HZ.out, HAN.out]; rfl, hb1, q4⟩
  · obtain ⟨g, rfl⟩ := haddr h0
    have harr1 := hreg g h0 rfl
    have hgw : w.heap.size ≤ g := q4 g 0 rfl
    clear hreg haddr hO1 q3 q4
    go_loopg [6, 7] na (fun k cc ii wr => ∃ (i : Nat) (c : Int) (m : List Int), i + k = na ∧ ii = .int .i64 i ∧ cc = .int .u64 c ∧ 0 ≤ c ∧ c ≤ 1 ∧ Hid (m.length = na) ∧ Hid (Lim B32 m) ∧ Arr wr g 0 m ∧ Only g 0 na w1 wr ∧ Hid (∀ t, i ≤ t → m.getD t 0 = a.getD t 0) ∧ Hid (vb B32 m + vb B32 (b.take i) = vb B32 a + B32 ^ i * c))
    case atStart => exact ⟨0, 0, a, by omega, rfl, rfl, Int.le_refl _, by decide, HA.out.symm, hla, harr1, Only.refl _ _ _ _, fun _ _ => rfl, by show _ = _; simp⟩
    case round =>
      obtain ⟨i, c, m, hik, rfl, rfl, hc0, hc1, HM, HLM, harr, hon, HAB, HSV⟩ := hrel
      have hbw : Below w.heap.size w wr := hb1.trans (hon.below hgw hb1.size)
      by_cases hlt : i < na
      · obtain ⟨o, hoe⟩ : ∃ o, o = m.getD i 0 := ⟨_, rfl⟩
        have bo : 0 ≤ o ∧ o < 4294967296 := by rw [hoe]; exact HLM.out.getD B32_pos _
        obtain ⟨bo0, bo1⟩ := bo
        have hco : wr.cell? ⟨g, i, none⟩ = some (.int .u64 o) := by
          have := harr.at' i (by rw [HM.out]; exact hlt)
          rwa [Nat.zero_add, ← hoe] at this
        have hfr := harr.frozen i
        obtain ⟨y, hye⟩ : ∃ y, y = b.getD i 0 := ⟨_, rfl⟩
        have bY : 0 ≤ y ∧ y < 4294967296 := by rw [hye]; exact hlb.lim.getD B32_pos _
        obtain ⟨by0, by1⟩ := bY
        obtain ⟨v, hv⟩ : ∃ v, c + y = v := ⟨_, rfl⟩
        have hv0 : 0 ≤ v := by omega
        have hv1 : v ≤ 4294967296 := by omega
        have hst := fun bb : Int => rsub_step (m := m) (p := i) (c := c) (o := o) (y := y) (b := bb) (t := vb B32 a) (E := vb B32 (b.take i)) (by rw [HM.out]; exact hlt) hoe HSV.out
        have hend : ∀ bb : Int, Hid (vb B32 (m.set i (o + bb * 4294967296 - v)) + vb B32 (b.take (i + 1)) = vb B32 a + B32 ^ (i + 1) * bb) := fun bb => by
          have q := hst bb
          rw [hye, take_getD_zero, ← hye, hv] at q
          exact q
        have hml : ∀ x : Int, Hid ((m.set i x).length = na) := fun x => by show _ = _; rw [List.length_set]; exact HM.out
        have hab : ∀ x : Int, Hid (∀ t, i + 1 ≤ t → (m.set i x).getD t 0 = a.getD t 0) := fun x t ht => by
          rw [getD_set_other m (by omega)]
          exact HAB.out t (by omega)
        have HEND := Lib.hid hend
        have HML := Lib.hid hml
        have HABN := Lib.hid hab
        have hsw : i < nb' ∨ (¬ i < nb' ∧ v = c) := by
          rcases Nat.lt_or_ge i nb' with h | h
          · exact Or.inl h
          · refine Or.inr ⟨by omega, ?_⟩
            have : y = 0 := by rw [hye, List.getD_eq_getElem?_getD, List.getElem?_eq_none (by rw [← HB.out]; omega)]; rfl
            omega
        have hcy : i < nb' → ∃ b2 o2, ay = some ⟨b2, o2, none⟩ ∧ wr.cell? ⟨b2, o2 + i, none⟩ = some (.int .u64 y) := fun h => by
          obtain ⟨b2, o2, e, hat⟩ := hy.cases (by intro e; have := HB.out; rw [e] at this; simp at this; omega)
          exact ⟨b2, o2, e, by rw [hye]; exact hat.below hbw i (by rw [← HB.out]; exact h)⟩
        clear hst hend hml hab hye HSV HAB hoe HM
        by_cases hox : o < v
        · have hd1 : decide (o < v) = true := by simpa using hox
          obtain ⟨o2, ho2⟩ : ∃ o2, o + 4294967296 = o2 := ⟨_, rfl⟩
          obtain ⟨z, hz⟩ : ∃ z, o2 - v = z := ⟨_, rfl⟩
          have hze : o + 1 * 4294967296 - v = z := by omega
          have hzb0 : 0 ≤ z := by omega
          have hzb1 : z ≤ 4294967295 := by omega
          have ho2b0 : 0 ≤ o2 := by omega
          have ho2b1 : o2 ≤ 8589934591 := by omega
          have harr2 := harr.store i o2
          rw [Nat.zero_add] at harr2
          have hco2 : (wr.setCell ⟨g, i, none⟩ (.int .u64 o2)).cell? ⟨g, i, none⟩ = some (.int .u64 o2) := by
            have := harr2.at' i (by rw [(HML.out _).out]; exact hlt)
            rwa [Nat.zero_add, getD_set_same (by have := (HML.out o2).out; rw [List.length_set] at this; omega)] at this
          have hfr2 := harr2.frozen i
          have harr3 := harr2.store i z
          rw [Nat.zero_add, List.set_set] at harr3
          have hon3 := (hon.trans (Only.store (w := wr) (hi := na) i (.int .u64 o2) (Nat.zero_le _) hlt)).trans (Only.store (w := wr.setCell ⟨g, i, none⟩ (.int .u64 o2)) (hi := na) i (.int .u64 z) (Nat.zero_le _) hlt)
          have HZE := Lib.hid hze
          clear hze
          rcases hsw with hb | ⟨hb, hvc⟩
          · obtain ⟨b2, o2', rfl, hcy'⟩ := hcy hb
            clear hcy
            go_wp2_with fail
            go_roundg (na - (i + 1))
            case measure => omega
            case rel => exact ⟨i + 1, 1, m.set i z, by omega, by go_num, rfl, by decide, by decide, HML.out z, HLM.out.set i hzb0 (by unfold B32; omega), harr3, hon3, HABN.out z, by have q := (HEND.out 1).out; rw [HZE.out] at q; exact q⟩
          · clear hcy
            subst hvc
            go_wp2_with fail
            go_roundg (na - (i + 1))
            case measure => omega
            case rel => exact ⟨i + 1, 1, m.set i z, by omega, by go_num, rfl, by decide, by decide, HML.out z, HLM.out.set i hzb0 (by unfold B32; omega), harr3, hon3, HABN.out z, by have q := (HEND.out 1).out; rw [HZE.out] at q; exact q⟩
        · have hd1 : decide (o < v) = false := by simpa using hox
          obtain ⟨z, hz⟩ : ∃ z, o - v = z := ⟨_, rfl⟩
          have hze : o + 0 * 4294967296 - v = z := by omega
          have hzb0 : 0 ≤ z := by omega
          have hzb1 : z ≤ 4294967295 := by omega
          have harr3 := harr.store i z
          rw [Nat.zero_add] at harr3
          have hon3 := hon.trans (Only.store (w := wr) (hi := na) i (.int .u64 z) (Nat.zero_le _) hlt)
          have HZE := Lib.hid hze
          clear hze
          rcases hsw with hb | ⟨hb, hvc⟩
          · obtain ⟨b2, o2', rfl, hcy'⟩ := hcy hb
            clear hcy
            go_wp2_with fail
            go_roundg (na - (i + 1))
            case measure => omega
            case rel => exact ⟨i + 1, 0, m.set i z, by omega, by go_num, rfl, by decide, by decide, HML.out z, HLM.out.set i hzb0 (by unfold B32; omega), harr3, hon3, HABN.out z, by have q := (HEND.out 0).out; rw [HZE.out] at q; exact q⟩
          · clear hcy
            subst hvc
            go_wp2_with fail
            go_roundg (na - (i + 1))
            case measure => omega
            case rel => exact ⟨i + 1, 0, m.set i z, by omega, by go_num, rfl, by decide, by decide, HML.out z, HLM.out.set i hzb0 (by unfold B32; omega), harr3, hon3, HABN.out z, by have q := (HEND.out 0).out; rw [HZE.out] at q; exact q⟩
      · have hin : i = na := by omega
        have hval : vb B32 m = vb B32 a - vb B32 b := by
          have h := HSV.out
          rw [hin, List.take_of_length_le (l := b) (by rw [← HB.out]; exact hba)] at h
          have q1 := vb_lt B32_pos HLM.out
          rw [HM.out] at q1
          have q2 := HLE.out
          have q3 := pow_pos' B32_pos na
          have hcz : c = 0 := by
            rcases Int.lt_or_eq_of_le hc0 with h4 | h4
            · exfalso
              have : c = 1 := by omega
              rw [this, Int.mul_one] at h
              omega
            · exact h4.symm
          rw [hcz, Int.mul_zero] at h
          omega
        have HVAL := Lib.hid hval
        have hat : Rd wr (some ⟨g, 0, none⟩) m := Rd.of_at harr.at'
        clear hval hin HSV HAB
        go_wp2_with fail
        refine (rtrim_any (some ⟨g, 0, none⟩) na co m wr HM.out.symm q1 q2 hat).mono ?_
        rintro e w' ⟨rfl, rfl⟩
        go_wp2_with fail
        go_ret
        have htl := tlen_le m
        exact ⟨_, tlen m, tlen m, tr m, rfl, (tr_length _).symm, Nat.le_refl _, by have := HM.out; omega, hat.take _, can_tr HLM.out, by rw [vb_tr]; exact HVAL.out, hbw, fun g' o' e => by cases e; exact hgw⟩

theorem rsub_num {w : World} {u v : Value} {A B : Int} {m k : Nat} (h : RN w u A m) (g : RN w v B k) (hle : B ≤ A) (hm : m ≤ 200000) : Calls Tryd.prog 22 #[u, v] w fun e w' => RetR w (A - B) m e w' := by
  have hs : A - B < B32 ^ m := by have := h.lt; have := g.nonneg; omega
  obtain ⟨a, n, c, l, rfl, h1, h2, h3, h4, h5, rfl, h7⟩ := h.open
  obtain ⟨a', n', c', l', rfl, g1, g2, g3, g4, g5, rfl, g7⟩ := g.open
  exact (rsub_any a n c l a' n' c' l' w h1 g1 h2 h3 g2 g3 h4 g4 h5.lim g5 (by unfold MaxW; omega) hle).mono fun e w' hr => hr.retr hs


/-- How many zero bits a number ends with; 0 of 0. -/
def LowOf (N : Int) (t : Nat) : Prop := (N = 0 ∧ t = 0) ∨ (N ≠ 0 ∧ IsLow N t)
theorem isLow_unique {N : Int} {s t : Nat} (h : IsLow N s) (k : IsLow N t) : s = t := by
  obtain ⟨x, hx⟩ := h
  obtain ⟨y, hy⟩ := k
  have key : ∀ {a b : Nat} {x y : Int}, a < b → (2 : Int) ^ a * (2 * x + 1) = 2 ^ b * (2 * y + 1) → False := by
    intro a b x y hab he
    obtain ⟨d, rfl⟩ := Nat.le.dest hab
    have e1 : (2 : Int) ^ (a + 1 + d) = 2 ^ a * (2 * 2 ^ d) := by
      rw [show a + 1 + d = a + (1 + d) by omega, Int.pow_add, Int.pow_add]; rfl
    rw [e1, Int.mul_assoc] at he
    have h2 := Int.eq_of_mul_eq_mul_left (by have := pow2_pos a; omega) he
    rw [Int.mul_assoc] at h2
    omega
  rcases Nat.lt_trichotomy s t with h | h | h
  · exact (key h (hx.symm.trans hy)).elim
  · exact h
  · exact (key h (hy.symm.trans hx)).elim
theorem lowOf_unique {N : Int} {s t : Nat} (h : LowOf N s) (k : LowOf N t) : s = t := by
  rcases h with ⟨h1, h2⟩ | ⟨h1, h2⟩ <;> rcases k with ⟨k1, k2⟩ | ⟨k1, k2⟩
  · omega
  · exact (k1 h1).elim
  · exact (h1 k1).elim
  · exact isLow_unique h2 k2

set_option maxRecDepth 100000 in
theorem low_zero (ao : Option Addr) (n cap : Nat) (l : List Int) (w : World) (hn : n = l.length) (_h1 : n ≤ cap) (_h2 : cap ≤ 9223372036854775807) (h : Rd w ao l) (hl : Lim B64 l) (hz : vb B64 l = 0) :
    Calls Tryd.prog 24 #[.slice ao n cap] w fun e w' => e = .returned (.int .i64 0) ∧ w = w' := by
  have hzero : ∀ j, l.getD j 0 = 0 := fun j => vb_zero_above B64_pos hl (n := 0) (by rw [hz, Int.pow_zero]; decide) j (Nat.zero_le _)
  have HN := Lib.hid hn
  have HZ := Lib.hid hzero
  clear hn hz hzero
  by_cases h0 : n = 0
  · have hI : ¬ (0 : Int) < (n : Int) := by omega
    clear h0
    go_enter Tryd.func24, Tryd.ntmps24
    go_wp2
    refine wp_loop_rounds 1 ?_
    rw [rounds_succ]
    go_wp2
    go_ret
    exact ⟨rfl, rfl⟩
  · obtain ⟨b, off, rfl, hat⟩ := h.cases (by intro e; have := HN.out; rw [e] at this; simp at this; omega)
    go_enter Tryd.func24, Tryd.ntmps24
    go_wp2
    go_loop [7] (fun ii => ∃ i : Nat, i ≤ n ∧ ii = .int .i64 i) (fun ii => n - (intOf ii).toNat)
    case atStart => exact ⟨0, Nat.zero_le _, rfl⟩
    case round =>
      obtain ⟨i, hi, rfl⟩ := hrel
      by_cases hlt : i < n
      · have hcx : w.cell? ⟨b, off + i, none⟩ = some (.int .u64 0) := by
          have := hat i (by rw [← HN.out]; exact hlt)
          rwa [HZ.out] at this
        go_wp2
        go_round
        case rel => exact ⟨i + 1, by omega, by go_num⟩
        case measure => simp [intOf]; omega
      · go_wp2
        go_ret
        exact ⟨rfl, rfl⟩
theorem lowall_num {w : World} {u : Value} {N : Int} {m : Nat} (h : Num w u N m) (hm : m ≤ 1000) (hT : Tab64 w) :
    Calls Tryd.prog 24 #[u] w fun e w' => ∃ t : Nat, e = .returned (.int .i64 t) ∧ LowOf N t ∧ w = w' := by
  by_cases h0 : N = 0
  · obtain ⟨a, n, c, l, rfl, h1, h2, h3, h4, h5, hv, h7⟩ := h.open
    refine (low_zero a n c l w h1 h2 h3 h4 h5 (by rw [hv]; exact h0)).mono ?_
    rintro e w' ⟨rfl, rfl⟩
    exact ⟨0, rfl, Or.inl ⟨h0, rfl⟩, rfl⟩
  · refine (low_num h hm hT h0).mono ?_
    rintro e w' ⟨t, rfl, ht, -, rfl⟩
    exact ⟨t, rfl, Or.inr ⟨h0, ht⟩, rfl⟩
set_option maxRecDepth 100000 in
theorem rlow_zero (ao : Option Addr) (n cap : Nat) (w : World) (h0 : n = 0) :
    Calls Tryd.prog 25 #[.slice ao n cap] w fun e w' => e = .returned (.int .i64 0) ∧ w = w' := by
  have hI : ¬ (0 : Int) < (n : Int) := by omega
  clear h0
  go_enter Tryd.func25, Tryd.ntmps25
  go_wp2
  refine wp_loop_rounds 1 ?_
  rw [rounds_succ]
  go_wp2
  go_ret
  exact ⟨rfl, rfl⟩
theorem rlowall_num {w : World} {u : Value} {N : Int} {m : Nat} (h : RN w u N m) (hm : m ≤ 100000) :
    Calls Tryd.prog 25 #[u] w fun e w' => ∃ t : Nat, e = .returned (.int .i64 t) ∧ LowOf N t ∧ w = w' := by
  by_cases h0 : N = 0
  · obtain ⟨a, n, c, l, rfl, h1, h2, h3, h4, h5, hv, h7⟩ := h.open
    refine (rlow_zero a n c w (h.len.1.2 h0)).mono ?_
    rintro e w' ⟨rfl, rfl⟩
    exact ⟨0, rfl, Or.inl ⟨h0, rfl⟩, rfl⟩
  · obtain ⟨a, n, c, l, rfl, h1, h2, h3, h4, h5, hv, h7⟩ := h.open
    refine (rlow_any a n c l w h1 h2 h3 h4 h5.lim (by unfold MaxW; omega) (by rw [hv]; exact h0)).mono ?_
    rintro e w' ⟨t, rfl, ht, -, rfl⟩
    rw [hv] at ht
    exact ⟨t, rfl, Or.inr ⟨h0, ht⟩, rfl⟩
theorem rbits_num {w : World} {u : Value} {N : Int} {m : Nat} (h : RN w u N m) (hm : m ≤ 100000) :
    Calls Tryd.prog 18 #[u] w fun e w' => e = .returned (.int .i64 (nb N)) ∧ w = w' := by
  obtain ⟨a, n, c, l, rfl, h1, h2, h3, h4, h5, rfl, h7⟩ := h.open
  exact rbits_any a n c l w h1 h2 h3 h4 h5 (by unfold MaxW; omega)
theorem rtextn_num {w : World} {u : Value} {N : Int} {m n : Nat} (h : RN w u N m) (hN : N < 10 ^ n) (hn : n ≤ 19000) (hm : m ≤ 10000) :
    Calls Tryd.prog 26 #[u] w fun e w' => RetV w (.string (strOfNums (dec N))) e w' := by
  obtain ⟨a, k, c, l, rfl, h1, h2, h3, h4, h5, rfl, h7⟩ := h.open
  exact rtext_any a k c l n w h1 h2 h3 h4 h5 hN hn (by omega)
theorem is_num {base : Nat} {w : World} {u v : Value} {N : Int} {m k : Nat} (h : NewN base w u N m) (g : RN w v N k) (hk : k ≤ 100000) :
    Calls Tryd.prog 21 #[u, v] w fun e w' => RetV w (.bool true) e w' := by
  obtain ⟨l, h1, h2, h3, h4⟩ := h
  obtain ⟨a, c, rfl, q1, q2, q3⟩ := h1.form
  obtain ⟨a', n', c', l', rfl, g1, g2, g3, g4, g5, g6, g7⟩ := g.open
  exact is_yes a l.length c l a' n' c' l' w rfl g1 q1 q2 g2 g3 q3 g4 h2 g5 (by rw [h3, g6]) (by unfold MaxW; omega)
set_option maxRecDepth 100000 in
theorem shl_out {w : World} (a : Option Addr) (n c : Nat) (k : Int) (h : 16777216 < k ∨ k < -16777216) :
    Calls Tryd.prog 11 #[.slice a n c, .int .i64 k] w fun e w' => e = .returned (.slice none 0 0) ∧ w = w' := by
  by_cases h1 : 16777216 < k
  · clear h
    go_enter Tryd.func11, Tryd.ntmps11
    go_wp2_with fail
    go_ret
    exact ⟨rfl, rfl⟩
  · have h2 : k < -16777216 := by omega
    clear h
    go_enter Tryd.func11, Tryd.ntmps11
    go_wp2_with fail
    go_ret
    exact ⟨rfl, rfl⟩
set_option maxRecDepth 100000 in
theorem shr_neg_num {w : World} {u : Value} {N : Int} {m p : Nat} (k : Nat) (h : Num w u N m) (hk : k ≤ 16777216) (hp : m + k / 64 + 1 ≤ p) (hm : m ≤ 100000) :
    Calls Tryd.prog 12 #[u, .int .i64 (-(k : Int))] w fun e w' => RetN w (N * 2 ^ k) p e w' := by
  have hS := Lib.hid (shl_num (p := p) k h hk hp hm)
  have e : IntKind.i64.wrap (-(-(k : Int))) = (k : Int) := by rw [IntKind.wrap_i64]; omega
  obtain ⟨a, n, c, l, rfl, -⟩ := h.open
  go_enter Tryd.func12, Tryd.ntmps12
  go_wp2_with (simp only [e])
  refine hS.out.mono ?_
  rintro e w' ⟨a', n', c', rfl, h1, h2⟩
  go_wp2_with fail
  go_ret
  exact ⟨a', n', c', rfl, h1, h2⟩
set_option maxRecDepth 100000 in
theorem shr_out {w : World} (a : Option Addr) (n c : Nat) (k : Int) (hk0 : -9223372036854775808 ≤ k) (hk1 : k ≤ 9223372036854775807) (h : 16777216 < k ∨ k < -16777216) :
    Calls Tryd.prog 12 #[.slice a n c, .int .i64 k] w fun e w' => e = .returned (.slice none 0 0) ∧ w = w' := by
  obtain ⟨j, hj⟩ : ∃ j, IntKind.i64.wrap (-k) = j := ⟨_, rfl⟩
  have hjo : 16777216 < j ∨ j < -16777216 := by rw [IntKind.wrap_i64] at hj; omega
  have hS := Lib.hid (shl_out (w := w) a n c j hjo)
  clear hjo h
  go_enter Tryd.func12, Tryd.ntmps12
  go_wp2_with (simp only [hj])
  refine hS.out.mono ?_
  rintro e w' ⟨rfl, rfl⟩
  go_wp2_with fail
  go_ret
  exact ⟨rfl, rfl⟩
theorem light_one_at (a1 : Option Addr) (n1 c1 : Nat) (t : TypeId) (w : World) (g : Nat) (hg : w.heap.size = g) (h1 : n1 ≤ 9223372036854775807) :
    Calls Tryd.prog 7 #[.slice (some ⟨g, 0, none⟩) 1 1] (w.alloc (.cells #[.slice a1 n1 c1] t)) fun e w' => e = .returned (.bool (decide (n1 ≤ 40))) ∧ w' = w.alloc (.cells #[.slice a1 n1 c1] t) := by
  subst hg
  refine (light_any (some ⟨w.heap.size, 0, none⟩) 1 1 [.slice a1 n1 c1] [List.replicate n1 0] _ rfl rfl (Nat.le_refl _) (by decide) (row_new w [.slice a1 n1 c1] t) ?_ ?_).mono ?_
  · intro j hj
    match j, hj with
    | 0, _ => exact ⟨a1, c1, by simp⟩
  · intro j
    match j with
    | 0 => simpa using h1
    | j + 1 => simp
  · rintro e w' ⟨rfl, rfl⟩
    refine ⟨?_, rfl⟩
    simp [lightB]

end Go.Proofs.YtbieldebkfkpkaaDoor
