/-
  Contract of nat.sqrtLimb: the root of a number of one word, and what is left.
-/
import Derived.Test.YtbieldebkfkpkaaDoorNatBits
import Derived.Test.YtbieldebkfkpkaaDoorNat1
namespace Go.Proofs.YtbieldebkfkpkaaDoor
open Go.RowKit

/-- One step of Newton's from above: never below the root. -/
theorem newton_ge {x r : Int} (hr : 0 < r) : x < ((r + x / r) / 2 + 1) * ((r + x / r) / 2 + 1) := by
  obtain ⟨q, hq⟩ : ∃ q, q = x / r := ⟨_, rfl⟩
  rw [← hq]
  have h1 : x < r * (q + 1) := by
    have a := Int.mul_ediv_add_emod x r
    have b := Int.emod_lt_of_pos x hr
    rw [← hq] at a
    rw [Int.mul_add]
    omega
  obtain ⟨n, hn⟩ : ∃ n, n = (r + q) / 2 + 1 := ⟨_, rfl⟩
  rw [← hn]
  have h2 : r + (q + 1) ≤ 2 * n := by omega
  -- 4 n^2 is at least (r + (q + 1))^2, that is at least 4 r (q + 1)
  by_cases hq1 : 0 ≤ q + 1
  · have h3 : (r + (q + 1)) * (r + (q + 1)) ≤ (2 * n) * (2 * n) := Int.mul_le_mul h2 h2 (by omega) (by omega)
    have h4 : 0 ≤ (r - (q + 1)) * (r - (q + 1)) := by
      rcases Int.le_total 0 (r - (q + 1)) with h | h
      · exact Int.mul_nonneg h h
      · exact Int.mul_nonneg_of_nonpos_of_nonpos h h
    have e1 : (r + (q + 1)) * (r + (q + 1)) = (r - (q + 1)) * (r - (q + 1)) + 4 * (r * (q + 1)) := by
      simp only [Int.add_mul, Int.mul_add, Int.sub_mul, Int.mul_sub, Int.mul_comm (q + 1) r, Int.mul_one, Int.one_mul]
      omega
    have e2 : (2 * n) * (2 * n) = 4 * (n * n) := by rw [Int.mul_assoc, Int.mul_left_comm n 2 n]; omega
    omega
  · have h3 : r * (q + 1) ≤ 0 := Int.mul_nonpos_of_nonneg_of_nonpos (by omega) (by omega)
    have h4 : 0 ≤ n * n := by
      rcases Int.le_total 0 n with h | h
      · exact Int.mul_nonneg h h
      · exact Int.mul_nonneg_of_nonpos_of_nonpos h h
    omega

theorem newton_done {x r : Int} (hr : 0 < r) (h : r ≤ (r + x / r) / 2) : r * r ≤ x := by
  have a := Int.mul_ediv_add_emod x r
  have b := Int.emod_nonneg x (by omega : r ≠ 0)
  have : r * r ≤ r * (x / r) := Int.mul_le_mul_of_nonneg_left (by omega) (by omega)
  omega

theorem newton_quo {x r : Int} (hr : 0 < r) (h : x < (r + 1) * (r + 1)) : x / r ≤ r + 2 := by
  have : x / r < r + 3 := by
    refine Int.ediv_lt_of_lt_mul hr ?_
    have e : (r + 1) * (r + 1) = r * r + 2 * r + 1 := by rw [Int.add_mul, Int.mul_add]; omega
    rw [Int.add_mul]
    omega
  omega

/-- Two numbers of the call's own are returned. -/
def RetTwo (w : World) (R S : Int) (e : Ending) (w' : World) : Prop :=
  ∃ v1 l1 v2 l2, e = .returned (.tuple #[v1, v2]) ∧ Ow w.heap.size w' v1 l1 ∧ Can B64 l1 ∧ vb B64 l1 = R ∧ Ow w.heap.size w' v2 l2 ∧ Can B64 l2 ∧ vb B64 l2 = S ∧ Below w.heap.size w w'

/-- The greatest number whose square is not above N. -/
def IsRoot (N R : Int) : Prop := 0 ≤ R ∧ R * R ≤ N ∧ N < (R + 1) * (R + 1)

theorem root_unique {N R S : Int} (h : IsRoot N R) (k : IsRoot N S) : R = S := by
  obtain ⟨h1, h2, h3⟩ := h
  obtain ⟨k1, k2, k3⟩ := k
  rcases Int.lt_trichotomy R S with a | a | a
  · have : (R + 1) * (R + 1) ≤ S * S := Int.mul_le_mul (by omega) (by omega) (by omega) (by omega)
    omega
  · exact a
  · have : (S + 1) * (S + 1) ≤ R * R := Int.mul_le_mul (by omega) (by omega) (by omega) (by omega)
    omega

def RetSqrt (w : World) (N : Int) (e : Ending) (w' : World) : Prop := ∃ R, IsRoot N R ∧ RetTwo w R (N - R * R) e w'

theorem at_new (w : World) (x : Int) (t : TypeId) : Rd (w.alloc (.cells #[.int .u64 x] t)) (some ⟨w.heap.size, 0, none⟩) [x] := by
  refine Rd.of_at fun j hj => ?_
  have := news1 w x t j hj
  rwa [addr_add_none] at this

theorem vb_one (x : Int) : vb B64 [x] = x := by simp [vb_cons]

set_option maxRecDepth 100000 in
set_option maxHeartbeats 2000000 in
theorem sqrtLimb_any (ao : Option Addr) (n cap : Nat) (l : List Int) (w : World) (hn : n = l.length) (h1 : n ≤ cap) (h2 : cap ≤ 9223372036854775807) (h : Rd w ao l) (hl : Lim B64 l) (hM : n ≤ MaxW) (hN : vb B64 l < 18446744073709551616) :
    Calls Tryd.prog 60 #[.slice ao n cap] w fun e w' => RetSqrt w (vb B64 l) e w' := by
  have hbits := bits_any ao n cap l w hn h1 h2 h hl hM
  have HBI := Lib.hid hbits
  have hN0 := vb_nonneg B64_pos hl
  by_cases h0 : vb B64 l = 0
  · have hb0 : nb (vb B64 l) = 0 := by rw [h0]; rfl
    rw [hb0] at HBI
    rw [h0]
    clear hbits hb0 h0 hn hN hN0
    go_enter Tryd.func60, Tryd.ntmps60
    go_wp2_with fail
    refine HBI.out.mono ?_
    rintro e w' ⟨rfl, rfl⟩
    go_wp2_with fail
    go_ret2
    exact ⟨0, ⟨by decide, by decide, by decide⟩, _, [], _, [], rfl, Ow.nil _ _, Can.nil _, rfl, Ow.nil _ _, Can.nil _, rfl, Below.refl _ _⟩
  · -- one word, and it is the first
    have hpos : 0 < vb B64 l := by omega
    have hl0 : l ≠ [] := by intro e; subst e; exact h0 rfl
    obtain ⟨x, m, rfl⟩ : ∃ x m, l = x :: m := by cases l with | nil => exact absurd rfl hl0 | cons x m => exact ⟨x, m, rfl⟩
    have hx : vb B64 (x :: m) = x := by
      rw [vb_cons] at hN ⊢
      have a := hl.head
      have b := vb_nonneg B64_pos hl.tail
      unfold B64 at *
      omega
    rw [hx] at HBI hpos hN ⊢
    obtain ⟨b, off, rfl, hat⟩ := h.cases hl0
    have hcx : w.cell? ⟨b, off, none⟩ = some (.int .u64 x) := hat 0 (by simp)
    have hn0 : 0 < n := by rw [hn]; simp
    obtain ⟨n1, n2, n3⟩ := nb_spec hpos
    obtain ⟨t, ht⟩ : ∃ t, t = nb x := ⟨_, rfl⟩
    rw [← ht] at HBI n1 n2 n3
    have ht64 : t ≤ 64 := by rw [ht]; exact nb_le (m := 64) hN
    obtain ⟨s, hs⟩ : ∃ s, s = (t + 1) / 2 := ⟨_, rfl⟩
    have hs32 : s ≤ 32 := by omega
    have hts : t ≤ 2 * s := by omega
    obtain ⟨r0, hr0⟩ : ∃ r0 : Int, r0 = 2 ^ s := ⟨_, rfl⟩
    have hr1 : 1 ≤ r0 := by rw [hr0]; exact Int.pow_pos (by decide)
    have hr2 : r0 ≤ 4294967296 := by
      have : (2 : Int) ^ s ≤ 2 ^ 32 := by
        have : ((2 ^ s : Nat) : Int) ≤ ((2 ^ 32 : Nat) : Int) := by
          have := Nat.pow_le_pow_right (show 0 < 2 by decide) hs32
          omega
        simpa using this
      rw [hr0]; omega
    have hrx : x < (r0 + 1) * (r0 + 1) := by
      have e1 : (2 : Int) ^ t ≤ 2 ^ (2 * s) := by
        have : ((2 ^ t : Nat) : Int) ≤ ((2 ^ (2 * s) : Nat) : Int) := by
          have := Nat.pow_le_pow_right (show 0 < 2 by decide) hts
          omega
        simpa using this
      have e2 : (2 : Int) ^ (2 * s) = r0 * r0 := by rw [hr0, ← Int.pow_add]; congr 1; omega
      rw [Int.add_mul, Int.mul_add]
      omega
    have hsi : ((t : Int) + 1) / 2 = (s : Int) := by omega
    have htne : ((t : Int) == 0) = false := by simp; omega
    have hn63 : (t : Int) ≤ 64 := by omega
    have hx1 : x ≤ 18446744073709551615 := by omega
    have hwr : IntKind.u64.wrap (2 ^ s) = r0 := by rw [← hr0, IntKind.wrap_u64]; omega
    have hq0 : 0 ≤ x / r0 := Int.ediv_nonneg (by omega) (by omega)
    have hq1 : x / r0 ≤ r0 + 2 := newton_quo hr1 hrx
    have hr0n : ¬ r0 = 0 := by omega
    have HRX := Lib.hid hrx
    clear hbits h0 hN hN0 hl0 hat hn hx n1 n2 ht hs hts hr0 hrx
    go_enter Tryd.func60, Tryd.ntmps60
    go_wp2_with fail
    refine HBI.out.mono ?_
    rintro e w' ⟨rfl, rfl⟩
    go_wp2_with fail
    go_loop [6, 7] (fun rr nn => ∃ r nx : Int, rr = .int .u64 r ∧ nn = .int .u64 nx ∧ 1 ≤ r ∧ r ≤ 4294967296 ∧ 0 ≤ nx ∧ Hid (nx = (r + x / r) / 2) ∧ Hid (x < (r + 1) * (r + 1))) (fun rr _ => (intOf rr).toNat)
    case atStart => exact ⟨r0, (r0 + x / r0) / 2, rfl, rfl, hr1, hr2, by omega, rfl, HRX⟩
    case round =>
      clear HRX hr1 hr2 hq0 hq1 hr0n
      obtain ⟨r, nx, rfl, rfl, hr1, hr2, hn0, HNX, HRX⟩ := hrel
      by_cases hlt : nx < r
      · have hnew := newton_ge (x := x) (r := r) (by omega)
        rw [← HNX.out] at hnew
        have hnx1 : 1 ≤ nx := by
          rcases Int.lt_or_le nx 1 with h | h
          · have : nx = 0 := by omega
            rw [this] at hnew
            omega
          · exact h
        have hq0 : 0 ≤ x / nx := Int.ediv_nonneg (by omega) (by omega)
        have hq1 : x / nx ≤ nx + 2 := newton_quo hnx1 hnew
        have hnn : ¬ nx = 0 := by omega
        have HNEW := Lib.hid hnew
        clear hnew
        go_wp2
        go_round
        case rel => exact ⟨nx, (nx + x / nx) / 2, rfl, rfl, hnx1, by omega, by omega, rfl, HNEW⟩
        case measure => simp [intOf]; omega
      · have hdone : r * r ≤ x := newton_done (by omega) (by rw [← HNX.out]; omega)
        have hsq0 : 0 ≤ r * r := Int.mul_nonneg (by omega) (by omega)
        have hroot : IsRoot x r := ⟨by omega, hdone, HRX.out⟩
        have HROOT := Lib.hid hroot
        clear hroot
        obtain ⟨y, hy⟩ : ∃ y, y = x - r * r := ⟨_, rfl⟩
        have hy0 : 0 ≤ y := by omega
        have hy1 : y ≤ 18446744073709551615 := by omega
        have limr : Lim B64 [r] := Lim.cons (by omega) (by unfold B64; omega) (Lim.nil _)
        have limy : Lim B64 [y] := Lim.cons hy0 (by unfold B64; omega) (Lim.nil _)
        have hyw : x - r * r = y := hy.symm
        clear hy
        go_wp2_with fail
        refine (of_any _ 1 1 [r] _ rfl (Nat.le_refl _) (by decide) (at_new _ r _) (by decide)).mono ?_
        rintro e w1 ⟨v1, rfl, hO1, hb1⟩
        go_wp2_with fail
        refine (of_any _ 1 1 [y] _ rfl (Nat.le_refl _) (by decide) (at_new _ y _) (by decide)).mono ?_
        rintro e w2 ⟨v2, rfl, hO2, hb2⟩
        go_wp2_with fail
        go_ret2
        have hbA : Below w.heap.size w w1 := ((Below.refl _ _).alloc (Nat.le_refl _) _).trans (hb1.mono (by simp))
        have hbB : Below w1.heap.size w1 w2 := ((Below.refl _ _).alloc (Nat.le_refl _) _).trans (hb2.mono (by simp))
        refine ⟨r, HROOT.out, v1, tr [r], v2, tr [y], rfl, (hO1.below hbB).mono (by simp), can_tr limr, by rw [vb_tr, vb_one], hO2.mono (by have := hbA.size; simp; omega), can_tr limy, by rw [vb_tr, vb_one, hyw], hbA.trans (hbB.mono hbA.size)⟩
end Go.Proofs.YtbieldebkfkpkaaDoor
