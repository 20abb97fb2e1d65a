/-
  Contracts of math/bits.TrailingZeros64 and nat.Low.
-/
import Derived.Test.YtbieldebkfkpkaaDoorShift
import Derived.Shelf.Spec.TrailingZeros
namespace Go.Proofs.YtbieldebkfkpkaaDoor
open Go.RowKit

/-- The library's table lies in its variable. -/
abbrev Tab64 (w : World) : Prop := TabAt 0 Lib.deBruijn64tab w
theorem Tab64.below {w w' : World} (h : Tab64 w) (hb : Below w.heap.size w w') : Tab64 w' := by
  intro j hj
  have hc := h j hj
  rw [hb.cell (p := ⟨0, j, none⟩) (World.block_lt_of_cell? _ _ hc)]
  exact hc

set_option maxRecDepth 100000 in
theorem tz64_walk (x k idx : Nat) (w : World) (hx0 : ((x : Int) == 0) = false)
    (key : IntKind.u64.wrap (bits BinOp.and IntKind.u64 (x : Int) (IntKind.u64.wrap (-(x : Int))) * 285870213051353865) / 288230376151711744 = (idx : Int))
    (hi : idx < 64) (_hk : k < 64) (hcell : w.cell? ⟨0, idx, none⟩ = some (.int .u8 k)) :
    Calls Tryd.prog 77 #[.int .u64 x] w fun e w' => e = .returned (.int .i64 k) ∧ w = w' := by
  go_enter Tryd.func77, Tryd.ntmps77
  go_wp2_with (simp only [key])
  go_ret
  exact ⟨rfl, rfl⟩

theorem tz64_any (x : Int) (w : World) (h0 : 0 < x) (h1 : x ≤ 18446744073709551615) (hT : Tab64 w) :
    ∃ (c : Nat) (m : Int), c < 64 ∧ x = 2 ^ c * (2 * m + 1) ∧ Calls Tryd.prog 77 #[.int .u64 x] w fun e w' => e = .returned (.int .i64 c) ∧ w = w' := by
  obtain ⟨x, rfl⟩ := Int.eq_ofNat_of_zero_le (Int.le_of_lt h0)
  have hx : x < 2 ^ 64 := by omega
  have hx0 : x ≠ 0 := by omega
  obtain ⟨hlow, hk⟩ := Lib.lowest_bit 64 x hx0 hx
  obtain ⟨hi, htab⟩ := Lib.deBruijn64_at _ hk
  have hcell := hT _ hi
  rw [htab] at hcell
  obtain ⟨m, hm, _⟩ := Lib.ctzFrom_spec 64 x (by omega) hx
  have e : Lib.ctz 64 x = Lib.ctzFrom 64 x := by simp [Lib.ctz, hx0]
  rw [← e] at hm
  refine ⟨Lib.ctz 64 x, m, hk, ?_, tz64_walk x _ _ w (by simp; omega) (tz64_key x _ (by omega) hx0 hlow) hi hk hcell⟩
  have := congrArg (fun n : Nat => (n : Int)) hm
  simpa using this

/-- The number t of zero bits at the end of N. -/
def IsLow (N : Int) (t : Nat) : Prop := ∃ z : Int, N = 2 ^ t * (2 * z + 1)

theorem low_word {l : List Int} {i c : Nat} {x m : Int} (hi : i < l.length) (hc : c < 64) (hx : l.getD i 0 = x) (hz : vb B64 (l.take i) = 0) (hm : x = 2 ^ c * (2 * m + 1)) : IsLow (vb B64 l) (64 * i + c) := by
  refine ⟨m + 2 ^ (63 - c) * vb B64 (l.drop (i + 1)), ?_⟩
  rw [vb_split B64 l i (by omega), hz, vb_drop B64 hi, hx, hm]
  have e1 : B64 ^ i = 2 ^ (64 * i) := by rw [Int.pow_mul]; rfl
  have e2 : (B64 : Int) = 2 ^ c * (2 ^ (63 - c) * 2) := by
    rw [← Int.pow_succ, ← Int.pow_add, show c + (63 - c + 1) = 64 by omega]; rfl
  generalize vb B64 (l.drop (i + 1)) = R
  rw [e1, Int.pow_add, Int.zero_add]
  conv => lhs; rw [e2]
  rw [Int.mul_assoc (2 ^ (64 * i)) (2 ^ c)]
  congr 1
  rw [Int.mul_assoc (2 ^ c), ← Int.mul_add]
  congr 1
  rw [Int.mul_comm (2 ^ (63 - c)) 2, Int.mul_assoc, Int.mul_add]
  omega

set_option maxRecDepth 100000 in
set_option maxHeartbeats 1000000 in
theorem low_any (ao : Option Addr) (n cap : Nat) (l : List Int) (w : World) (hn : n = l.length) (_h1 : n ≤ cap) (_h2 : cap ≤ 9223372036854775807) (h : Rd w ao l) (hl : Lim B64 l) (hM : n ≤ MaxW) (hT : Tab64 w) (hnz : vb B64 l ≠ 0) :
    Calls Tryd.prog 24 #[.slice ao n cap] w fun e w' => ∃ t : Nat, e = .returned (.int .i64 t) ∧ IsLow (vb B64 l) t ∧ t ≤ 64 * n ∧ w = w' := by
  have HN := Lib.hid hn
  have HNZ := Lib.hid hnz
  unfold MaxW at hM
  obtain ⟨b, off, rfl, hat⟩ := h.cases (by intro e; rw [e] at hnz; exact hnz rfl)
  clear hn hnz
  go_enter Tryd.func24, Tryd.ntmps24
  go_wp2
  go_loop [7] (fun ii => ∃ i : Nat, i ≤ n ∧ ii = .int .i64 i ∧ Hid (vb B64 (l.take i) = 0)) (fun ii => n - (intOf ii).toNat)
  case atStart => exact ⟨0, Nat.zero_le _, rfl, rfl⟩
  case round =>
    obtain ⟨i, hi, rfl, HV⟩ := hrel
    by_cases hlt : i < n
    · obtain ⟨x, hxe⟩ : ∃ x, x = l.getD i 0 := ⟨_, rfl⟩
      have hil : i < l.length := by rw [← HN.out]; exact hlt
      have hcx : w.cell? ⟨b, off + i, none⟩ = some (.int .u64 x) := by rw [hxe]; exact hat i hil
      have bx : 0 ≤ x ∧ x < B64 := by rw [hxe]; exact hl.getD B64_pos _
      have bx0 : 0 ≤ x := bx.1
      have bx1 : x ≤ 18446744073709551615 := by have := bx.2; unfold B64 at this; omega
      by_cases hx0 : x = 0
      · have hv : vb B64 (l.take (i + 1)) = 0 := by rw [vb_take_succ B64 hil, HV.out, ← hxe, hx0]; simp
        have HV2 := Lib.hid hv
        have hne : (x != 0) = false := by simp [hx0]
        clear hv hxe bx hx0
        go_wp2
        go_round
        case rel => exact ⟨i + 1, by omega, by go_num, HV2⟩
        case measure => simp [intOf]; omega
      · obtain ⟨c, m, hc, hm, hcall⟩ := tz64_any x w (by omega) bx1 hT
        have hlow := low_word hil hc hxe.symm HV.out hm
        have HLOW := Lib.hid hlow
        have HCALL := Lib.hid hcall
        have hne : (x != 0) = true := by simp [hx0]
        clear hlow hcall hm hxe bx hx0
        go_wp2_with (go_at_call 77; refine HCALL.out.mono ?_; rintro e w' ⟨rfl, rfl⟩)
        go_ret
        exact ⟨64 * i + c, by simp, HLOW.out, by omega, rfl⟩
    · exfalso
      have h3 : l.take i = l := List.take_of_length_le (by rw [← HN.out]; omega)
      have h4 := HV.out
      rw [h3] at h4
      exact HNZ.out h4
end Go.Proofs.YtbieldebkfkpkaaDoor
