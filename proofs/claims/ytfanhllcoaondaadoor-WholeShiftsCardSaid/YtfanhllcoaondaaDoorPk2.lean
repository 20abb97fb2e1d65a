/-
  Ref1: Contracts of the reference's Trim, From and Limbs, and of the statements' own helpers SameLimbs and Is.
  Bits: Contracts of math/bits: Len64, LeadingZeros64 and Mul64.
  NatBits: Contract of nat.Bits: how many bits a number has.
  Div64: Contract of math/bits.Div64: the quotient and the rest of two words by one, the high word less than the divisor.
  DivLimb: Contract of nat.divideByLimb: a number in a row is divided by a word, in place; the rest is returned.
  Bytes: Memory that holds bytes; writes into one block, where nothing is said of blocks from a number on.
  Chunks: Contract of nat.writeChunks: the decimal digits of a number are written into a row of bytes, nineteen at a time, from the end.
  Shift: Contracts of nat.shiftUp and nat.shiftDown, and the arithmetic of words that are shifted. Contract of nat.shiftDown. Contracts of nat.Shl and nat.Shr.
  Low: Contracts of math/bits.TrailingZeros64 and nat.Low.
  LowBits: Contract of nat.lowBits: the rest of a number divided by a power of two.
-/
import Derived.Test.YtfanhllcoaondaaDoorPk1
import Derived.Lib.BitFns
import Derived.Lib.Strings
import Derived.Lib.Slices
import Derived.Lib.Small
import Derived.Lib.Walk
import Derived.Shelf.Spec.TrailingZeros
import Derived.Deep.QuietTactic

namespace Go.Proofs.YtfanhllcoaondaaDoor
open Go.RowKit

set_option maxRecDepth 100000 in
set_option maxHeartbeats 1000000 in
theorem rtrim_any (ao : Option Addr) (n cap : Nat) (l : List Int) (w : World) (hn : n = l.length) (hl : n ≤ cap) (hcap : cap ≤ 9223372036854775807) (h : Rd w ao l) :
    Calls Tryd.prog 67 #[.slice ao n cap] w fun e w' => e = .returned (.slice ao (tlen l) (tlen l)) ∧ w = w' := by
  subst hn
  by_cases h0 : l = []
  · subst h0
    go_enter Tryd.func67, Tryd.ntmps67
    go_wp2
    refine wp_loop_rounds 1 ?_
    rw [rounds_succ]
    go_wp2
    go_ret
    exact ⟨rfl, rfl⟩
  · obtain ⟨b, off, rfl, hc⟩ := h.cases h0
    go_enter Tryd.func67, Tryd.ntmps67
    go_wp2
    go_loop [3] (fun n => ∃ k : Nat, k ≤ l.length ∧ n = .int .i64 k ∧ (∀ j, k ≤ j → j < l.length → l.getD j 0 = 0)) (fun n => (intOf n).toNat)
    case atStart => exact ⟨l.length, Nat.le_refl _, rfl, fun j h1 h2 => by omega⟩
    case round =>
      obtain ⟨k, hk, rfl, hz⟩ := hrel
      have hcell : 0 < k → w.cell? ⟨b, off + (k - 1), none⟩ = some (.int .u64 (l.getD (k-1) 0)) := fun _ => hc _ (by omega)
      clear hc
      have HZ := Lib.hid hz
      clear hz
      go_wp2
      · have hp : 0 < k := by assumption
        have he : (l[k - 1]?.getD 0 == 0) = true := by assumption
        go_round
        case rel =>
          refine ⟨k - 1, by omega, by go_num, ?_⟩
          intro j h1 h2
          by_cases hj : j = k - 1
          · subst hj; rw [List.getD_eq_getElem?_getD]; simpa using he
          · exact HZ.out j (by omega) h2
        case measure => simp [intOf]; omega
      · have hp : 0 < k := by assumption
        have he : (l[k - 1]?.getD 0 == 0) = false := by assumption
        go_ret
        exact ⟨by rw [tlen_eq hk HZ.out (Or.inr (by rw [List.getD_eq_getElem?_getD]; simpa using he))]; rfl, rfl⟩
      · have hp : ¬ 0 < k := by assumption
        go_ret
        exact ⟨by rw [tlen_eq hk HZ.out (Or.inl (by omega))]; rfl, rfl⟩

/-- A function has returned a number in the base b: a slice that reads as digits, no zeros at its end. -/
def RetRd (b : Int) (w : World) (N : Int) (e : Ending) (w' : World) : Prop :=
  ∃ ao n cap l, e = .returned (.slice ao n cap) ∧ n = l.length ∧ n ≤ cap ∧ cap ≤ 9223372036854775807 ∧ Rd w' ao l ∧ Can b l ∧ vb b l = N ∧ Below w.heap.size w w' ∧ ∀ g o, ao = some ⟨g, o, none⟩ → w.heap.size ≤ g

set_option maxRecDepth 100000 in
set_option maxHeartbeats 1000000 in
theorem from_any (ao : Option Addr) (n cap : Nat) (l : List Int) (w : World) (hn : n = l.length) (hl : n ≤ cap) (hcap : cap ≤ 9223372036854775807) (h : Rd w ao l) (hlim : Lim B64 l) (hM : 2 * n ≤ MaxW) :
    Calls Tryd.prog 28 #[.slice ao n cap] w fun e w' => RetRd B32 w (vb B64 l) e w' := by
  have HN := Lib.hid hn
  clear hn
  go_enter Tryd.func28, Tryd.ntmps28
  go_wp2
  go_loopw [3, 4] (fun v i wr => ∃ k : Nat, k ≤ n ∧ i = .int .i64 k ∧ Ow w.heap.size wr v (dig (l.take k)) ∧ Below w.heap.size w wr) (fun _ i _ => n - (intOf i).toNat)
  case atStart => exact ⟨0, Nat.zero_le _, rfl, Ow.nil _ _, Below.refl _ _⟩
  case round =>
    obtain ⟨k, hk, rfl, hO, hb⟩ := hrel
    by_cases hlt : k < n
    · have hl0 : l ≠ [] := by intro e; subst e; have := HN.out; simp at this; omega
      obtain ⟨b, off, rfl, hat⟩ := h.cases hl0
      obtain ⟨x, hxe⟩ : ∃ x, x = l.getD k 0 := ⟨_, rfl⟩
      have hcx : wr.cell? ⟨b, off + k, none⟩ = some (.int .u64 x) := by rw [hxe]; exact hat.below hb k (by rw [← HN.out]; exact hlt)
      have bx : 0 ≤ x ∧ x < 18446744073709551616 := by rw [hxe]; exact hlim.getD B64_pos k
      have bx0 : 0 ≤ x := bx.1
      have XE := Lib.hid hxe
      have XB := Lib.hid bx
      clear hxe bx
      go_wp2
      have hlen : (dig (l.take k)).length + 2 ≤ MaxW := by rw [dig_length, List.length_take]; omega
      have hbase : w.heap.size ≤ (wr.alloc (.cells #[.int .u64 (x.tmod 4294967296), .int .u64 (IntKind.u64.wrap (x.tdiv 4294967296))] 56)).heap.size := by have := hb.size; simp; omega
      go_region_law (refine step_append_words _ rfl (.tmp 11) (.tmp 22) 29 rfl Tryd.underlying29 info_u64 w.heap.size u3 (dig (l.take k)) (by simp [Act.eval]) (by exact hO.alloc _) ⟨wr.heap.size, 0, none⟩ 2 2 [x.tmod 4294967296, IntKind.u64.wrap (x.tdiv 4294967296)] (by simp [Act.eval]) rfl (by exact news2 _ _ _ _) hlen (by exact hbase) ?_; intro v' w1 hO1 hb1)
      all_goals
        have hb2 : Below w.heap.size w w1 := hb.trans (((Below.refl _ wr).alloc hb.size _).drew.trans hb1)
        have e1 : x.tmod 4294967296 = x % 4294967296 := Int.tmod_eq_emod_of_nonneg bx0
        have e2 : IntKind.u64.wrap (x.tdiv 4294967296) = x / 4294967296 := by
          have := XB.out
          rw [Int.tdiv_eq_ediv_of_nonneg bx0, IntKind.wrap_u64]; omega
        have hO2 : Ow w.heap.size w1 v' (dig (l.take (k + 1))) := by
          rw [dig_take (by rw [← HN.out]; exact hlt), ← XE.out, ← e1, ← e2]; exact hO1
        clear hO1 hb1 e1 e2 hO hb hbase
        go_wp2
        go_roundw
        case rel => exact ⟨k + 1, by omega, by go_num, hO2, hb2⟩
        case measure => simp [intOf]; omega
    · have hkn : k = n := by omega
      have hd : dig (l.take k) = dig l := by rw [hkn, HN.out, List.take_length]
      rw [hd] at hO
      obtain ⟨ao', cap', rfl, hc1, hc2, hr, hfr⟩ := hO.form'
      obtain ⟨m, hm⟩ : ∃ m, m = (dig l).length := ⟨_, rfl⟩
      rw [← hm] at hc1
      rw [← hm]
      have HM := Lib.hid hm
      clear hd hkn hm
      go_wp2_with (go_at_call 67; refine (rtrim_any ao' m cap' (dig l) _ HM.out hc1 hc2 hr).mono ?_; rintro e w' ⟨rfl, rfl⟩)
      go_ret
      have htl := tlen_le (dig l)
      exact ⟨ao', tlen (dig l), tlen (dig l), tr (dig l), rfl, (tr_length _).symm, Nat.le_refl _, by have := HM.out; omega, hr.take _, can_tr (dig_lim hlim), by rw [vb_tr, vb_dig], hb, hfr⟩
set_option maxRecDepth 100000 in
set_option maxHeartbeats 1000000 in
/-- compassbook.SameLimbs of two slices that read alike. -/
theorem same_yes (ax : Option Addr) (n cx : Nat) (ay : Option Addr) (cy : Nat) (l : List Int) (w : World) (hn : n = l.length) (h1 : n ≤ cx) (h2 : cx ≤ 9223372036854775807) (_h3 : n ≤ cy) (_h4 : cy ≤ 9223372036854775807)
    (hx : Rd w ax l) (hy : Rd w ay l) :
    Calls Tryd.prog 68 #[.slice ax n cx, .slice ay n cy] w fun e w' => RetV w (.bool true) e w' := by
  have HN := Lib.hid hn
  clear hn
  have hne : ((n : Int) != (n : Int)) = false := by simp
  go_enter Tryd.func68, Tryd.ntmps68
  go_wp2
  go_loopw [5] (fun i wr => ∃ k : Nat, k ≤ n ∧ i = .int .i64 k ∧ Below w.heap.size w wr) (fun i _ => n - (intOf i).toNat)
  case atStart => exact ⟨0, Nat.zero_le _, rfl, Below.refl _ _⟩
  case round =>
    obtain ⟨k, hk, rfl, hb⟩ := hrel
    by_cases hlt : k < n
    · have hl0 : l ≠ [] := by intro e; subst e; have := HN.out; simp at this; omega
      obtain ⟨b1, o1, rfl, atx⟩ := hx.cases hl0
      obtain ⟨b2, o2, rfl, aty⟩ := hy.cases hl0
      obtain ⟨x, hxe⟩ : ∃ x, x = l.getD k 0 := ⟨_, rfl⟩
      have hcx : wr.cell? ⟨b1, o1 + k, none⟩ = some (.int .u64 x) := by rw [hxe]; exact atx.below hb k (by rw [← HN.out]; exact hlt)
      have hcy : wr.cell? ⟨b2, o2 + k, none⟩ = some (.int .u64 x) := by rw [hxe]; exact aty.below hb k (by rw [← HN.out]; exact hlt)
      clear hxe atx aty hx hy
      go_wp2
      go_quiet (fail)
      go_wp2
      go_roundw
      case rel => exact ⟨k + 1, by omega, by go_num, bdn hb _⟩
      case measure => simp [intOf]; omega
    · go_wp2
      go_ret
      exact ⟨rfl, hb⟩

end Go.Proofs.YtfanhllcoaondaaDoor

namespace Go.Proofs.YtfanhllcoaondaaDoor
open Go.RowKit

theorem len_fold (n z : Int) (hn0 : 0 ≤ n) (hn1 : n ≤ 56) (h0 : 0 ≤ z) (h1 : z ≤ 255) : wrap64 (n + wrap64 (Lib.len8 z)) = n + (Lib.bitLen z.toNat : Int) := by
  have l := Lib.bitLen_le8' z h0 h1
  rw [Lib.len8_of z h0 h1]
  unfold wrap64
  omega
theorem len_fold0 (z : Int) (h0 : 0 ≤ z) (h1 : z ≤ 255) : wrap64 (wrap64 (Lib.len8 z)) = (Lib.bitLen z.toNat : Int) := by
  have l := Lib.bitLen_le8' z h0 h1
  rw [Lib.len8_of z h0 h1]
  unfold wrap64
  omega
set_option maxRecDepth 100000 in
set_option maxHeartbeats 1000000 in
theorem len64_56 (x : Int) (w : World) (h0 : 0 ≤ x) (h1 : x ≤ 18446744073709551615) (a : 4294967296 ≤ x) (b : 65536 ≤ x / 4294967296) (c : 256 ≤ x / 4294967296 / 65536) :
    Calls Tryd.prog 92 #[.int .u64 x] w fun e w' => e = .returned (.int .i64 (Lib.bitLen x.toNat)) ∧ w = w' := by
  have z0 : 0 ≤ x / 4294967296 / 65536 / 256 := by omega
  have z1 : x / 4294967296 / 65536 / 256 ≤ 255 := by omega
  go_enter Tryd.func92, Tryd.ntmps92
  go_wp2
  go_ret
  refine ⟨congrArg Ending.returned (congrArg (Value.int IntKind.i64) ?_), rfl⟩
  have s := Lib.bitLen_shift56 x.toNat (by omega) (by omega)
  have e : (x / 4294967296 / 65536 / 256).toNat = x.toNat / 72057594037927936 := by omega
  have f := len_fold 56 (x / 4294967296 / 65536 / 256) (by decide) (by decide) z0 z1
  rw [e] at f
  refine Eq.trans f ?_
  omega
set_option maxRecDepth 100000 in
set_option maxHeartbeats 1000000 in
theorem len64_48 (x : Int) (w : World) (h0 : 0 ≤ x) (h1 : x ≤ 18446744073709551615) (a : 4294967296 ≤ x) (b : 65536 ≤ x / 4294967296) (c : ¬ 256 ≤ x / 4294967296 / 65536) :
    Calls Tryd.prog 92 #[.int .u64 x] w fun e w' => e = .returned (.int .i64 (Lib.bitLen x.toNat)) ∧ w = w' := by
  have z0 : 0 ≤ x / 4294967296 / 65536 := by omega
  have z1 : x / 4294967296 / 65536 ≤ 255 := by omega
  go_enter Tryd.func92, Tryd.ntmps92
  go_wp2
  go_ret
  refine ⟨congrArg Ending.returned (congrArg (Value.int IntKind.i64) ?_), rfl⟩
  have s := Lib.bitLen_shift48 x.toNat (by omega) (by omega)
  have e : (x / 4294967296 / 65536).toNat = x.toNat / 281474976710656 := by omega
  have f := len_fold 48 (x / 4294967296 / 65536) (by decide) (by decide) z0 z1
  rw [e] at f
  refine Eq.trans f ?_
  omega
set_option maxRecDepth 100000 in
set_option maxHeartbeats 1000000 in
theorem len64_40 (x : Int) (w : World) (h0 : 0 ≤ x) (h1 : x ≤ 18446744073709551615) (a : 4294967296 ≤ x) (b : ¬ 65536 ≤ x / 4294967296) (c : 256 ≤ x / 4294967296) :
    Calls Tryd.prog 92 #[.int .u64 x] w fun e w' => e = .returned (.int .i64 (Lib.bitLen x.toNat)) ∧ w = w' := by
  have z0 : 0 ≤ x / 4294967296 / 256 := by omega
  have z1 : x / 4294967296 / 256 ≤ 255 := by omega
  go_enter Tryd.func92, Tryd.ntmps92
  go_wp2
  go_ret
  refine ⟨congrArg Ending.returned (congrArg (Value.int IntKind.i64) ?_), rfl⟩
  have s := Lib.bitLen_shift40 x.toNat (by omega) (by omega)
  have e : (x / 4294967296 / 256).toNat = x.toNat / 1099511627776 := by omega
  have f := len_fold 40 (x / 4294967296 / 256) (by decide) (by decide) z0 z1
  rw [e] at f
  refine Eq.trans f ?_
  omega
set_option maxRecDepth 100000 in
set_option maxHeartbeats 1000000 in
theorem len64_32 (x : Int) (w : World) (h0 : 0 ≤ x) (h1 : x ≤ 18446744073709551615) (a : 4294967296 ≤ x) (b : ¬ 65536 ≤ x / 4294967296) (c : ¬ 256 ≤ x / 4294967296) :
    Calls Tryd.prog 92 #[.int .u64 x] w fun e w' => e = .returned (.int .i64 (Lib.bitLen x.toNat)) ∧ w = w' := by
  have z0 : 0 ≤ x / 4294967296 := by omega
  have z1 : x / 4294967296 ≤ 255 := by omega
  go_enter Tryd.func92, Tryd.ntmps92
  go_wp2
  go_ret
  refine ⟨congrArg Ending.returned (congrArg (Value.int IntKind.i64) ?_), rfl⟩
  have s := Lib.bitLen_shift32 x.toNat (by omega) (by omega)
  have e : (x / 4294967296).toNat = x.toNat / 4294967296 := by omega
  have f := len_fold 32 (x / 4294967296) (by decide) (by decide) z0 z1
  rw [e] at f
  refine Eq.trans f ?_
  omega
set_option maxRecDepth 100000 in
set_option maxHeartbeats 1000000 in
theorem len64_24 (x : Int) (w : World) (h0 : 0 ≤ x) (h1 : x ≤ 18446744073709551615) (a : ¬ 4294967296 ≤ x) (b : 65536 ≤ x) (c : 256 ≤ x / 65536) :
    Calls Tryd.prog 92 #[.int .u64 x] w fun e w' => e = .returned (.int .i64 (Lib.bitLen x.toNat)) ∧ w = w' := by
  have z0 : 0 ≤ x / 65536 / 256 := by omega
  have z1 : x / 65536 / 256 ≤ 255 := by omega
  go_enter Tryd.func92, Tryd.ntmps92
  go_wp2
  go_ret
  refine ⟨congrArg Ending.returned (congrArg (Value.int IntKind.i64) ?_), rfl⟩
  have s := Lib.bitLen_shift24 x.toNat (by omega) (by omega)
  have e : (x / 65536 / 256).toNat = x.toNat / 16777216 := by omega
  have f := len_fold 24 (x / 65536 / 256) (by decide) (by decide) z0 z1
  rw [e] at f
  refine Eq.trans f ?_
  omega
set_option maxRecDepth 100000 in
set_option maxHeartbeats 1000000 in
theorem len64_16 (x : Int) (w : World) (h0 : 0 ≤ x) (h1 : x ≤ 18446744073709551615) (a : ¬ 4294967296 ≤ x) (b : 65536 ≤ x) (c : ¬ 256 ≤ x / 65536) :
    Calls Tryd.prog 92 #[.int .u64 x] w fun e w' => e = .returned (.int .i64 (Lib.bitLen x.toNat)) ∧ w = w' := by
  have z0 : 0 ≤ x / 65536 := by omega
  have z1 : x / 65536 ≤ 255 := by omega
  go_enter Tryd.func92, Tryd.ntmps92
  go_wp2
  go_ret
  refine ⟨congrArg Ending.returned (congrArg (Value.int IntKind.i64) ?_), rfl⟩
  have s := Lib.bitLen_shift16 x.toNat (by omega) (by omega)
  have e : (x / 65536).toNat = x.toNat / 65536 := by omega
  have f := len_fold 16 (x / 65536) (by decide) (by decide) z0 z1
  rw [e] at f
  refine Eq.trans f ?_
  omega
set_option maxRecDepth 100000 in
set_option maxHeartbeats 1000000 in
theorem len64_8 (x : Int) (w : World) (h0 : 0 ≤ x) (h1 : x ≤ 18446744073709551615) (a : ¬ 4294967296 ≤ x) (b : ¬ 65536 ≤ x) (c : 256 ≤ x) :
    Calls Tryd.prog 92 #[.int .u64 x] w fun e w' => e = .returned (.int .i64 (Lib.bitLen x.toNat)) ∧ w = w' := by
  have z0 : 0 ≤ x / 256 := by omega
  have z1 : x / 256 ≤ 255 := by omega
  go_enter Tryd.func92, Tryd.ntmps92
  go_wp2
  go_ret
  refine ⟨congrArg Ending.returned (congrArg (Value.int IntKind.i64) ?_), rfl⟩
  have s := Lib.bitLen_shift8 x.toNat (by omega) (by omega)
  have e : (x / 256).toNat = x.toNat / 256 := by omega
  have f := len_fold 8 (x / 256) (by decide) (by decide) z0 z1
  rw [e] at f
  refine Eq.trans f ?_
  omega
set_option maxRecDepth 100000 in
set_option maxHeartbeats 1000000 in
theorem len64_0 (x : Int) (w : World) (h0 : 0 ≤ x) (h1 : x ≤ 18446744073709551615) (a : ¬ 4294967296 ≤ x) (b : ¬ 65536 ≤ x) (c : ¬ 256 ≤ x) :
    Calls Tryd.prog 92 #[.int .u64 x] w fun e w' => e = .returned (.int .i64 (Lib.bitLen x.toNat)) ∧ w = w' := by
  have z0 : 0 ≤ x := by omega
  have z1 : x ≤ 255 := by omega
  go_enter Tryd.func92, Tryd.ntmps92
  go_wp2
  go_ret
  refine ⟨congrArg Ending.returned (congrArg (Value.int IntKind.i64) ?_), rfl⟩
  exact len_fold0 x z0 z1
theorem len64_any (x : Int) (w : World) (h0 : 0 ≤ x) (h1 : x ≤ 18446744073709551615) :
    Calls Tryd.prog 92 #[.int .u64 x] w fun e w' => e = .returned (.int .i64 (Lib.bitLen x.toNat)) ∧ w = w' := by
  by_cases a : 4294967296 ≤ x
  · by_cases b : 65536 ≤ x / 4294967296
    · by_cases c : 256 ≤ x / 4294967296 / 65536
      · exact len64_56 x w h0 h1 a b c
      · exact len64_48 x w h0 h1 a b c
    · by_cases c : 256 ≤ x / 4294967296
      · exact len64_40 x w h0 h1 a b c
      · exact len64_32 x w h0 h1 a b c
  · by_cases b : 65536 ≤ x
    · by_cases c : 256 ≤ x / 65536
      · exact len64_24 x w h0 h1 a b c
      · exact len64_16 x w h0 h1 a b c
    · by_cases c : 256 ≤ x
      · exact len64_8 x w h0 h1 a b c
      · exact len64_0 x w h0 h1 a b c

theorem bitLen_zero : Lib.bitLen 0 = 0 := by decide +kernel
/-- What a bit length is. -/
theorem bitLen_spec : ∀ (k x : Nat), x < 2 ^ k → x < 2 ^ 64 → x < 2 ^ Lib.bitLen x ∧ (x ≠ 0 → 2 ^ (Lib.bitLen x - 1) ≤ x ∧ 0 < Lib.bitLen x)
  | 0, x, h, _ => by
    have : x = 0 := by simpa using h
    subst this
    rw [bitLen_zero]; simp
  | k + 1, x, h, hx => by
    by_cases h0 : x = 0
    · subst h0; rw [bitLen_zero]; simp
    · have hh := Lib.bitLen_half x h0 hx
      obtain ⟨a, b⟩ := bitLen_spec k (x / 2) (by rw [Nat.pow_succ] at h; omega) (by omega)
      rw [hh]
      refine ⟨by rw [Nat.add_comm, Nat.pow_succ]; omega, fun _ => ⟨?_, by omega⟩⟩
      by_cases h2 : x / 2 = 0
      · rw [h2, bitLen_zero]; simp; omega
      · obtain ⟨c, d⟩ := b h2
        rw [show 1 + Lib.bitLen (x / 2) - 1 = (Lib.bitLen (x / 2) - 1) + 1 by omega, Nat.pow_succ]
        omega
theorem bitLen_le64 (x : Nat) (h : x < 2 ^ 64) : Lib.bitLen x ≤ 64 := Lib.bitLen_le x 64 (Nat.le_refl _) h

set_option maxRecDepth 100000 in
theorem lz64_any (x : Int) (w : World) (h0 : 0 ≤ x) (h1 : x ≤ 18446744073709551615) :
    Calls Tryd.prog 85 #[.int .u64 x] w fun e w' => e = .returned (.int .i64 (64 - (Lib.bitLen x.toNat : Int))) ∧ w = w' := by
  have hb := bitLen_le64 x.toNat (by omega)
  go_enter Tryd.func85, Tryd.ntmps85
  go_wp2_with (go_at_call 92; refine (len64_any x _ h0 h1).mono ?_; rintro e w' ⟨rfl, rfl⟩)
  go_ret
  exact ⟨rfl, rfl⟩

theorem and_mask32 (z : Int) (h0 : 0 ≤ z) (h1 : z < 18446744073709551616) : bits .and .u64 z 4294967295 = z % 4294967296 := and_low32 z h0 h1

theorem bits_or_u64_nat (a b : Nat) (ha : a < 18446744073709551616) (hb : b < 18446744073709551616) :
    bits .or .u64 (a : Int) (b : Int) = ((a ||| b : Nat) : Int) := by
  have hx : a ||| b < 2 ^ 64 := Nat.or_lt_two_pow (by omega) (by omega)
  have h1 : (BitVec.ofInt 64 (a : Int)).toNat = a := by
    rw [BitVec.ofInt_natCast, BitVec.toNat_ofNat]; exact Nat.mod_eq_of_lt (by omega)
  have h2 : (BitVec.ofInt 64 (b : Int)).toNat = b := by
    rw [BitVec.ofInt_natCast, BitVec.toNat_ofNat]; exact Nat.mod_eq_of_lt (by omega)
  show IntKind.u64.wrap ((BitVec.ofInt 64 (a : Int) ||| BitVec.ofInt 64 (b : Int)).toNat : Int) = _
  rw [BitVec.toNat_or, h1, h2, IntKind.wrap_u64]
  omega

/-- A word's upper part and its lower part, put together by 'or'. -/
theorem or_parts (a c : Int) (s : Nat) (ha : 0 ≤ a) (hc : 0 ≤ c) (hcs : c < 2 ^ s) (h : a * 2 ^ s + c < 18446744073709551616) : bits .or .u64 (a * 2 ^ s) c = a * 2 ^ s + c := by
  obtain ⟨a, rfl⟩ := Int.eq_ofNat_of_zero_le ha
  obtain ⟨c, rfl⟩ := Int.eq_ofNat_of_zero_le hc
  have e1 : ((a : Int) * 2 ^ s) = ((a * 2 ^ s : Nat) : Int) := by simp
  have hcs' : c < 2 ^ s := by
    have : ((c : Nat) : Int) < ((2 ^ s : Nat) : Int) := by simpa using hcs
    omega
  rw [e1] at h ⊢
  rw [bits_or_u64_nat _ _ (by omega) (by omega)]
  have : a * 2 ^ s ||| c = a * 2 ^ s + c := by
    rw [Nat.mul_comm, ← Nat.two_pow_add_eq_or_of_lt hcs']
  rw [this]; simp
end Go.Proofs.YtfanhllcoaondaaDoor

namespace Go.Proofs.YtfanhllcoaondaaDoor
open Go.RowKit

/-- How many bits a number has. -/
def nb (N : Int) : Nat := if N ≤ 0 then 0 else N.toNat.log2 + 1

theorem nb_zero : nb 0 = 0 := rfl
theorem nb_spec {N : Int} (h : 0 < N) : 2 ^ (nb N - 1) ≤ N ∧ N < 2 ^ nb N ∧ 0 < nb N := by
  have e : nb N = N.toNat.log2 + 1 := if_neg (by omega)
  obtain ⟨n, rfl⟩ := Int.eq_ofNat_of_zero_le (Int.le_of_lt h)
  rw [Int.toNat_natCast] at e
  have hn : n ≠ 0 := by omega
  have h1 := Nat.log2_self_le hn
  have h2 : n < 2 ^ (n.log2 + 1) := Nat.lt_log2_self
  rw [e, Nat.add_sub_cancel]
  refine ⟨?_, ?_, by omega⟩
  · have : ((2 ^ n.log2 : Nat) : Int) ≤ (n : Int) := by omega
    simpa using this
  · have : (n : Int) < ((2 ^ (n.log2 + 1) : Nat) : Int) := by omega
    simpa using this
theorem two_pow_lt_of {a b : Nat} (h : (2 : Int) ^ a < 2 ^ b) : a < b := by
  have : ((2 ^ a : Nat) : Int) < ((2 ^ b : Nat) : Int) := by simpa using h
  exact (Nat.pow_lt_pow_iff_right (a := 2) (by decide)).1 (by omega)
theorem nb_eq {N : Int} {m : Nat} (hm : 0 < m) (h1 : 2 ^ (m - 1) ≤ N) (h2 : N < 2 ^ m) : nb N = m := by
  have hp : (0 : Int) < 2 ^ (m - 1) := Int.pow_pos (by decide)
  obtain ⟨a, b, c⟩ := nb_spec (N := N) (by omega)
  have h3 := two_pow_lt_of (a := m - 1) (b := nb N) (by omega)
  have h4 := two_pow_lt_of (a := nb N - 1) (b := m) (by omega)
  omega
theorem nb_le {N : Int} {m : Nat} (h : N < 2 ^ m) : nb N ≤ m := by
  by_cases h0 : 0 < N
  · obtain ⟨a, _, c⟩ := nb_spec h0
    have := two_pow_lt_of (a := nb N - 1) (b := m) (by omega)
    omega
  · have : nb N = 0 := if_pos (by omega)
    omega
theorem lt_of_nb_le {N : Int} {m : Nat} (h : nb N ≤ m) : N < 2 ^ m := by
  by_cases h0 : 0 < N
  · obtain ⟨_, b, _⟩ := nb_spec h0
    have e : (2 : Int) ^ m = 2 ^ nb N * 2 ^ (m - nb N) := by rw [← Int.pow_add]; congr 1; omega
    have p1 : (0 : Int) < 2 ^ (m - nb N) := Int.pow_pos (by decide)
    have p2 : (0 : Int) < 2 ^ nb N := Int.pow_pos (by decide)
    have : (2 : Int) ^ nb N * 1 ≤ 2 ^ nb N * 2 ^ (m - nb N) := Int.mul_le_mul_of_nonneg_left (by omega) (Int.le_of_lt p2)
    omega
  · have : (0 : Int) < 2 ^ m := Int.pow_pos (by decide)
    omega

theorem B64_pow (k : Nat) : B64 ^ k = 2 ^ (64 * k) := by
  rw [Int.pow_mul]; rfl

/-- The bits of a number whose top word is known. -/
theorem nb_words {l : List Int} (hc : Can B64 l) (hl : l ≠ []) : nb (vb B64 l) = 64 * (l.length - 1) + Lib.bitLen (l.getD (l.length - 1) 0).toNat := by
  have hn : 0 < l.length := List.length_pos_iff.2 hl
  have ht := hc.top hl
  have hd := hc.lim.getD B64_pos (l.length - 1)
  obtain ⟨t, hte⟩ : ∃ t, t = l.getD (l.length - 1) 0 := ⟨_, rfl⟩
  rw [← hte] at ht hd ⊢
  have hd2 : 0 ≤ t ∧ t < 18446744073709551616 := hd
  have e := vb_take_succ B64 (l := l) (k := l.length - 1) (by omega)
  rw [show l.length - 1 + 1 = l.length by omega, List.take_length, ← hte] at e
  have h0 := vb_nonneg B64_pos (hc.lim.take (l.length - 1))
  have h1 := vb_lt B64_pos (hc.lim.take (l.length - 1))
  rw [List.length_take, Nat.min_eq_left (by omega)] at h1
  obtain ⟨x, hx⟩ := Int.eq_ofNat_of_zero_le hd.1
  rw [hx] at e ht hd2 ⊢
  rw [Int.toNat_natCast]
  obtain ⟨b1, b2⟩ := bitLen_spec 64 x (by omega) (by omega)
  obtain ⟨b3, b4⟩ := b2 (by omega)
  obtain ⟨m, hm⟩ : ∃ m, m = Lib.bitLen x := ⟨_, rfl⟩
  rw [← hm] at b1 b3 b4 ⊢
  have b1' : (x : Int) + 1 ≤ 2 ^ m := by
    have : ((x + 1 : Nat) : Int) ≤ ((2 ^ m : Nat) : Int) := by omega
    simpa using this
  have b3' : (2 : Int) ^ (m - 1) ≤ x := by
    have : ((2 ^ (m - 1) : Nat) : Int) ≤ ((x : Nat) : Int) := by omega
    simpa using this
  have hp := pow_pos' B64_pos (l.length - 1)
  have m1 : B64 ^ (l.length - 1) * ((x : Int) + 1) ≤ B64 ^ (l.length - 1) * 2 ^ m := Int.mul_le_mul_of_nonneg_left b1' (Int.le_of_lt hp)
  have m2 : B64 ^ (l.length - 1) * 2 ^ (m - 1) ≤ B64 ^ (l.length - 1) * (x : Int) := Int.mul_le_mul_of_nonneg_left b3' (Int.le_of_lt hp)
  rw [Int.mul_add, Int.mul_one] at m1
  refine nb_eq (by omega) ?_ ?_
  · rw [show 64 * (l.length - 1) + m - 1 = 64 * (l.length - 1) + (m - 1) by omega, Int.pow_add, ← B64_pow]
    omega
  · rw [Int.pow_add, ← B64_pow]
    omega

set_option maxRecDepth 100000 in
set_option maxHeartbeats 1000000 in
theorem bits_any (ao : Option Addr) (n cap : Nat) (l : List Int) (w : World) (hn : n = l.length) (h1 : n ≤ cap) (h2 : cap ≤ 9223372036854775807) (h : Rd w ao l) (hl : Lim B64 l) (hM : n ≤ MaxW) :
    Calls Tryd.prog 60 #[.slice ao n cap] w fun e w' => e = .returned (.int .i64 (nb (vb B64 l))) ∧ w = w' := by
  have HN := Lib.hid hn
  have ht := tlen_le l
  have htn : tlen l ≤ n := by omega
  have htc : tlen l ≤ cap := by omega
  have htM : 64 * (tlen l : Int) + 64 ≤ 9223372036854775807 := by unfold MaxW at hM; omega
  have hlen := Lib.hid (tr_length l)
  have hcan : Can B64 (tr l) := can_tr hl
  have hr : Rd w ao (tr l) := h.take _
  rw [← vb_tr B64 l]
  clear hn ht
  by_cases h0 : tlen l = 0
  · have e : tr l = [] := List.eq_nil_of_length_eq_zero (by rw [hlen.out]; exact h0)
    rw [e]
    have h0' : (((tlen l : Nat) : Int) == 0) = true := by simp [h0]
    clear h0 e
    go_enter Tryd.func60, Tryd.ntmps60
    go_wp2_with (go_at_call 83; refine (trim_any ao n cap l w HN.out h1 h2 h).mono ?_; rintro e w' ⟨rfl, rfl⟩)
    go_ret
    exact ⟨rfl, rfl⟩
  · have hne : tr l ≠ [] := by intro e; have := hlen.out; rw [e] at this; simp at this; omega
    have hnb := nb_words hcan hne
    rw [hlen.out] at hnb
    obtain ⟨b, off, rfl, hat⟩ := hr.cases hne
    obtain ⟨k, hk⟩ : ∃ k, k = tlen l := ⟨_, rfl⟩
    rw [← hk] at hnb htM htc h0
    have h1k : 1 ≤ k := by omega
    obtain ⟨x, hx⟩ : ∃ x, x = (tr l).getD (k - 1) 0 := ⟨_, rfl⟩
    have hcx : w.cell? ⟨b, off + (k - 1), none⟩ = some (.int .u64 x) := by rw [hx]; exact hat (k - 1) (by rw [hlen.out, ← hk]; omega)
    have bx : 0 ≤ x ∧ x < B64 := by rw [hx]; exact hcan.lim.getD B64_pos (k - 1)
    have bx0 : 0 ≤ x := bx.1
    have bx1 : x ≤ 18446744073709551615 := by have := bx.2; unfold B64 at this; omega
    rw [← hx] at hnb
    have hb64 := bitLen_le64 x.toNat (by omega)
    obtain ⟨bl, hbl⟩ : ∃ bl, bl = Lib.bitLen x.toNat := ⟨_, rfl⟩
    rw [← hbl] at hnb hb64
    have HNB := Lib.hid hnb
    have HK := Lib.hid hk
    have HBL := Lib.hid hbl
    have h0' : ((k : Int) == 0) = false := by simp; omega
    clear hnb hk hx bx h0 htn hbl
    go_enter Tryd.func60, Tryd.ntmps60
    go_wp2_with fail
    refine (trim_any _ n cap l w HN.out h1 h2 h).mono ?_
    rintro e w' ⟨rfl, rfl⟩
    rw [← HK.out]
    go_wp2_with fail
    refine (len64_any x _ bx0 bx1).mono ?_
    rintro e w' ⟨rfl, rfl⟩
    rw [← HBL.out]
    go_wp2_with fail
    go_ret
    refine ⟨?_, rfl⟩
    have e : ((nb (vb B64 (tr l)) : Nat) : Int) = 64 * ((k : Int) - 1) + (bl : Int) := by rw [HNB.out]; omega
    rw [e]
    rfl
end Go.Proofs.YtfanhllcoaondaaDoor

namespace Go.Proofs.YtfanhllcoaondaaDoor
open Go.RowKit

set_option maxRecDepth 100000 in
set_option maxHeartbeats 1000000 in
theorem div64_small (lo y : Int) (w : World) (h0 : 0 ≤ lo) (h1 : lo ≤ 18446744073709551615) (h2 : 0 < y) (h3 : y ≤ 18446744073709551615) :
    Calls Tryd.prog 101 #[.int .u64 0, .int .u64 lo, .int .u64 y] w fun e w' => RetV w (.tuple #[.int .u64 (lo / y), .int .u64 (lo % y)]) e w' := by
  have hy0 : (y == 0) = false := by simp; omega
  have hyn : ¬ y = 0 := by omega
  go_enter Tryd.func101, Tryd.ntmps101
  go_wp2_with fail
  go_quiet (fail)
  go_wp2_with fail
  go_ret2
  exact ⟨rfl, bdn (Below.refl _ _) _⟩

set_option maxRecDepth 100000 in
set_option maxHeartbeats 4000000 in
theorem div64_core (hi lo y Y v1 v0 u L u1 u0 q0 r0 Q1 u2 q2 r2 Q0 R : Int) (s : Nat) (w : World) (_h0 : 0 ≤ lo) (_h1 : lo ≤ 18446744073709551615) (h2 : 0 < y) (h3 : y ≤ 18446744073709551615) (h4 : 0 < hi) (h5 : hi < y) (hs2 : s ≤ 63)
    (hlz : ∀ w, Calls Tryd.prog 85 #[.int .u64 y] w fun e w' => e = .returned (.int .i64 s) ∧ w' = w)
    (hY : IntKind.u64.wrap (y * 2 ^ s) = Y) (hY0 : 9223372036854775808 ≤ Y) (hY1 : Y ≤ 18446744073709551615) (hv : Y / 4294967296 = v1) (hvp : 2147483648 ≤ v1) (hvp2 : v1 < 4294967296)
    (hv0 : bits .and .u64 Y 4294967295 = v0) (hv00 : 0 ≤ v0) (hv01 : v0 < 4294967296) (hYe : Hid (Y = v1 * 4294967296 + v0))
    (hu : bits .or .u64 (IntKind.u64.wrap (hi * 2 ^ s)) (lo / 2 ^ (64 - s)) = u) (hu0 : 0 ≤ u) (huY : u < Y)
    (hL : IntKind.u64.wrap (lo * 2 ^ s) = L) (_hL0 : 0 ≤ L) (_hL1 : L ≤ 18446744073709551615) (hl1 : L / 4294967296 = u1) (hl2 : 0 ≤ u1) (hl3 : u1 < 4294967296)
    (hl4 : bits .and .u64 L 4294967295 = u0) (hl5 : 0 ≤ u0) (hl6 : u0 < 4294967296)
    (hq0 : u / v1 = q0) (_hq1 : 0 ≤ q0) (hq2 : q0 ≤ 4294967297) (hm0 : 0 ≤ q0 * v1) (hm1 : q0 * v1 ≤ u) (hr0 : u - q0 * v1 = r0) (hr1 : 0 ≤ r0) (hr2 : r0 < v1)
    (hQ : Hid ((u * 4294967296 + u1) / Y = Q1)) (hQ0 : 0 ≤ Q1) (hQ1 : Q1 < 4294967296) (hQq : Q1 ≤ q0)
    (hU : IntKind.u64.wrap (IntKind.u64.wrap (IntKind.u64.wrap (u * 4294967296) + u1) - IntKind.u64.wrap (Q1 * Y)) = u2) (hU0 : 0 ≤ u2) (hUY : u2 < Y)
    (hq02 : u2 / v1 = q2) (_hq12 : 0 ≤ q2) (hq22 : q2 ≤ 4294967297) (hm02 : 0 ≤ q2 * v1) (hm12 : q2 * v1 ≤ u2) (hr02 : u2 - q2 * v1 = r2) (hr12 : 0 ≤ r2) (hr22 : r2 < v1)
    (hQ2 : Hid ((u2 * 4294967296 + u0) / Y = Q0)) (hQ02 : 0 ≤ Q0) (hQ12 : Q0 < 4294967296) (hQq2 : Q0 ≤ q2)
    (hR : IntKind.u64.wrap (IntKind.u64.wrap (IntKind.u64.wrap (u2 * 4294967296) + u0) - IntKind.u64.wrap (Q0 * Y)) = R) (_hR0 : 0 ≤ R) (_hR1 : R ≤ 18446744073709551615) :
    Calls Tryd.prog 101 #[.int .u64 hi, .int .u64 lo, .int .u64 y] w fun e w' => e = .returned (.tuple #[.int .u64 (Q1 * 4294967296 + Q0), .int .u64 (R / 2 ^ s)]) ∧ w = w' := by
  have hy0 : (y == 0) = false := by simp; omega
  have hyn : ¬ y = 0 := by omega
  have hyn2 : ¬ v1 = 0 := by omega
  have hh0 : (hi == 0) = false := by simp; omega
  have HL := Lib.hid hlz
  have hrv : Hid (q0 * v1 + r0 = u) := by show _ = _; omega
  have hrv2 : Hid (q2 * v1 + r2 = u2) := by show _ = _; omega
  have hYp : 0 < Y := by omega
  clear hlz
  go_enter Tryd.func101, Tryd.ntmps101
  go_wp2_with (go_at_call 85; refine (HL.out _).mono ?_; rintro e w' ⟨rfl, rfl⟩)
  have HD := Lib.hid hq0
  clear hr0 hm0 hm1 hq0
  go_loop [15, 16] (fun qq rr => ∃ q r : Int, qq = .int .u64 q ∧ rr = .int .u64 r ∧ Q1 ≤ q ∧ q ≤ 4294967297 ∧ 0 ≤ r ∧ r < 4294967296 ∧ Hid (q * v1 + r = u)) (fun qq _ => (intOf qq).toNat)
  case atStart => exact ⟨q0, r0, by first | rfl | rw [HD.out], rfl, hQq, hq2, hr1, by omega, hrv⟩
  case round =>
    obtain ⟨q, r, rfl, rfl, hqa, hqb, hra, hrb, HI⟩ := hrel
    by_cases htest : 4294967296 ≤ q ∨ 4294967296 * r + u1 < q * v0
    · have hgt := kn_gt hYe.out hYp huY hl3 hQ.out HI.out htest
      by_cases hbr : 4294967296 ≤ r + v1
      · have hqe := kn_break hYe.out hYp hv00 hv01 hl2 hQ.out HI.out hgt hqb hbr
        subst hqe
        clear HI hqa hqb hgt HD hq2 hr1 hr2 hQq hrv
        by_cases hbig : 4294967296 ≤ Q1 + 1
        · go_wp2
          have HD2 := Lib.hid hq02
          clear hr02 hm02 hm12 hq02
          go_loop [18, 16] (fun qq rr => ∃ q r : Int, qq = .int .u64 q ∧ rr = .int .u64 r ∧ Q0 ≤ q ∧ q ≤ 4294967297 ∧ 0 ≤ r ∧ r < 4294967296 ∧ Hid (q * v1 + r = u2)) (fun qq _ => (intOf qq).toNat)
          case atStart => exact ⟨q2, r2, by first | rfl | rw [HD2.out], rfl, hQq2, hq22, hr12, by omega, hrv2⟩
          case round =>
            obtain ⟨q, r, rfl, rfl, hqa, hqb, hra, hrb, HI⟩ := hrel
            by_cases htest : 4294967296 ≤ q ∨ 4294967296 * r + u0 < q * v0
            · have hgt := kn_gt hYe.out hYp hUY hl6 hQ2.out HI.out htest
              by_cases hbr : 4294967296 ≤ r + v1
              · have hqe := kn_break hYe.out hYp hv00 hv01 hl5 hQ2.out HI.out hgt hqb hbr
                subst hqe
                clear HI hqa hqb hgt HD2 hq22 hr12 hr22 hQq2 hrv2
                by_cases hbig : 4294967296 ≤ Q0 + 1
                · go_wp2
                  go_ret2
                  exact ⟨rfl, rfl⟩
                · have htest2 : 4294967296 * r + u0 < (Q0 + 1) * v0 := by omega
                  have hp := kn_prod (by omega) (by omega : Q0 + 1 < 4294967296) hv00 hv01
                  obtain ⟨hp1, hp2⟩ := hp
                  clear htest
                  go_wp2
                  go_ret2
                  exact ⟨rfl, rfl⟩
              · have hst := kn_step HI.out
                have HST := Lib.hid hst
                clear hst
                by_cases hbig : 4294967296 ≤ q
                · clear htest
                  go_wp2
                  go_round
                  case rel => exact ⟨q - 1, r + v1, rfl, rfl, by omega, by omega, by omega, by omega, HST⟩
                  case measure => simp [intOf]; omega
                · have htest2 : 4294967296 * r + u0 < q * v0 := by omega
                  obtain ⟨hp1, hp2⟩ := kn_prod (by omega) (by omega : q < 4294967296) hv00 hv01
                  clear htest
                  go_wp2
                  go_round
                  case rel => exact ⟨q - 1, r + v1, rfl, rfl, by omega, by omega, by omega, by omega, HST⟩
                  case measure => simp [intOf]; omega
            · have hbig : q < 4294967296 := by omega
              have htest2 : q * v0 ≤ 4294967296 * r + u0 := by omega
              have hqe := kn_done hYe.out hYp hQ2.out HI.out hqa htest2
              subst hqe
              obtain ⟨hp1, hp2⟩ := kn_prod hQ02 hQ12 hv00 hv01
              clear HI hqa hqb HD2 hq22 hr12 hr22 hQq2 hrv2 htest
              go_wp2
              go_ret2
              exact ⟨rfl, rfl⟩
        · have htest2 : 4294967296 * r + u1 < (Q1 + 1) * v0 := by omega
          have hp := kn_prod (by omega) (by omega : Q1 + 1 < 4294967296) hv00 hv01
          obtain ⟨hp1, hp2⟩ := hp
          clear htest
          go_wp2
          have HD2 := Lib.hid hq02
          clear hr02 hm02 hm12 hq02
          go_loop [18, 16] (fun qq rr => ∃ q r : Int, qq = .int .u64 q ∧ rr = .int .u64 r ∧ Q0 ≤ q ∧ q ≤ 4294967297 ∧ 0 ≤ r ∧ r < 4294967296 ∧ Hid (q * v1 + r = u2)) (fun qq _ => (intOf qq).toNat)
          case atStart => exact ⟨q2, r2, by first | rfl | rw [HD2.out], rfl, hQq2, hq22, hr12, by omega, hrv2⟩
          case round =>
            obtain ⟨q, r, rfl, rfl, hqa, hqb, hra, hrb, HI⟩ := hrel
            by_cases htest : 4294967296 ≤ q ∨ 4294967296 * r + u0 < q * v0
            · have hgt := kn_gt hYe.out hYp hUY hl6 hQ2.out HI.out htest
              by_cases hbr : 4294967296 ≤ r + v1
              · have hqe := kn_break hYe.out hYp hv00 hv01 hl5 hQ2.out HI.out hgt hqb hbr
                subst hqe
                clear HI hqa hqb hgt HD2 hq22 hr12 hr22 hQq2 hrv2
                by_cases hbig : 4294967296 ≤ Q0 + 1
                · go_wp2
                  go_ret2
                  exact ⟨rfl, rfl⟩
                · have htest2 : 4294967296 * r + u0 < (Q0 + 1) * v0 := by omega
                  have hp := kn_prod (by omega) (by omega : Q0 + 1 < 4294967296) hv00 hv01
                  obtain ⟨hp1, hp2⟩ := hp
                  clear htest
                  go_wp2
                  go_ret2
                  exact ⟨rfl, rfl⟩
              · have hst := kn_step HI.out
                have HST := Lib.hid hst
                clear hst
                by_cases hbig : 4294967296 ≤ q
                · clear htest
                  go_wp2
                  go_round
                  case rel => exact ⟨q - 1, r + v1, rfl, rfl, by omega, by omega, by omega, by omega, HST⟩
                  case measure => simp [intOf]; omega
                · have htest2 : 4294967296 * r + u0 < q * v0 := by omega
                  obtain ⟨hp1, hp2⟩ := kn_prod (by omega) (by omega : q < 4294967296) hv00 hv01
                  clear htest
                  go_wp2
                  go_round
                  case rel => exact ⟨q - 1, r + v1, rfl, rfl, by omega, by omega, by omega, by omega, HST⟩
                  case measure => simp [intOf]; omega
            · have hbig : q < 4294967296 := by omega
              have htest2 : q * v0 ≤ 4294967296 * r + u0 := by omega
              have hqe := kn_done hYe.out hYp hQ2.out HI.out hqa htest2
              subst hqe
              obtain ⟨hp1, hp2⟩ := kn_prod hQ02 hQ12 hv00 hv01
              clear HI hqa hqb HD2 hq22 hr12 hr22 hQq2 hrv2 htest
              go_wp2
              go_ret2
              exact ⟨rfl, rfl⟩
      · have hst := kn_step HI.out
        have HST := Lib.hid hst
        clear hst
        by_cases hbig : 4294967296 ≤ q
        · clear htest
          go_wp2
          go_round
          case rel => exact ⟨q - 1, r + v1, rfl, rfl, by omega, by omega, by omega, by omega, HST⟩
          case measure => simp [intOf]; omega
        · have htest2 : 4294967296 * r + u1 < q * v0 := by omega
          obtain ⟨hp1, hp2⟩ := kn_prod (by omega) (by omega : q < 4294967296) hv00 hv01
          clear htest
          go_wp2
          go_round
          case rel => exact ⟨q - 1, r + v1, rfl, rfl, by omega, by omega, by omega, by omega, HST⟩
          case measure => simp [intOf]; omega
    · have hbig : q < 4294967296 := by omega
      have htest2 : q * v0 ≤ 4294967296 * r + u1 := by omega
      have hqe := kn_done hYe.out hYp hQ.out HI.out hqa htest2
      subst hqe
      obtain ⟨hp1, hp2⟩ := kn_prod hQ0 hQ1 hv00 hv01
      clear HI hqa hqb HD hq2 hr1 hr2 hQq hrv htest
      go_wp2
      have HD2 := Lib.hid hq02
      clear hr02 hm02 hm12 hq02
      go_loop [18, 16] (fun qq rr => ∃ q r : Int, qq = .int .u64 q ∧ rr = .int .u64 r ∧ Q0 ≤ q ∧ q ≤ 4294967297 ∧ 0 ≤ r ∧ r < 4294967296 ∧ Hid (q * v1 + r = u2)) (fun qq _ => (intOf qq).toNat)
      case atStart => exact ⟨q2, r2, by first | rfl | rw [HD2.out], rfl, hQq2, hq22, hr12, by omega, hrv2⟩
      case round =>
        obtain ⟨q, r, rfl, rfl, hqa, hqb, hra, hrb, HI⟩ := hrel
        by_cases htest : 4294967296 ≤ q ∨ 4294967296 * r + u0 < q * v0
        · have hgt := kn_gt hYe.out hYp hUY hl6 hQ2.out HI.out htest
          by_cases hbr : 4294967296 ≤ r + v1
          · have hqe := kn_break hYe.out hYp hv00 hv01 hl5 hQ2.out HI.out hgt hqb hbr
            subst hqe
            clear HI hqa hqb hgt HD2 hq22 hr12 hr22 hQq2 hrv2
            by_cases hbig : 4294967296 ≤ Q0 + 1
            · go_wp2
              go_ret2
              exact ⟨rfl, rfl⟩
            · have htest2 : 4294967296 * r + u0 < (Q0 + 1) * v0 := by omega
              have hp := kn_prod (by omega) (by omega : Q0 + 1 < 4294967296) hv00 hv01
              obtain ⟨hp1, hp2⟩ := hp
              clear htest
              go_wp2
              go_ret2
              exact ⟨rfl, rfl⟩
          · have hst := kn_step HI.out
            have HST := Lib.hid hst
            clear hst
            by_cases hbig : 4294967296 ≤ q
            · clear htest
              go_wp2
              go_round
              case rel => exact ⟨q - 1, r + v1, rfl, rfl, by omega, by omega, by omega, by omega, HST⟩
              case measure => simp [intOf]; omega
            · have htest2 : 4294967296 * r + u0 < q * v0 := by omega
              obtain ⟨hp1, hp2⟩ := kn_prod (by omega) (by omega : q < 4294967296) hv00 hv01
              clear htest
              go_wp2
              go_round
              case rel => exact ⟨q - 1, r + v1, rfl, rfl, by omega, by omega, by omega, by omega, HST⟩
              case measure => simp [intOf]; omega
        · have hbig : q < 4294967296 := by omega
          have htest2 : q * v0 ≤ 4294967296 * r + u0 := by omega
          have hqe := kn_done hYe.out hYp hQ2.out HI.out hqa htest2
          subst hqe
          obtain ⟨hp1, hp2⟩ := kn_prod hQ02 hQ12 hv00 hv01
          clear HI hqa hqb HD2 hq22 hr12 hr22 hQq2 hrv2 htest
          go_wp2
          go_ret2
          exact ⟨rfl, rfl⟩
theorem two_pow_nat (s : Nat) : ((2 : Int) ^ s) = ((2 ^ s : Nat) : Int) := by simp

/-- The shift of a divisor: how far it may be moved up. -/
theorem lz_facts (y : Int) (h2 : 0 < y) (h3 : y ≤ 18446744073709551615) : ∃ s : Nat, s ≤ 63 ∧ (64 - (Lib.bitLen y.toNat : Int)) = (s : Int) ∧ 9223372036854775808 ≤ y * 2 ^ s ∧ y * 2 ^ s ≤ 18446744073709551615 ∧ (2 : Int) ^ s * 2 ^ (64 - s) = 18446744073709551616 ∧ 0 < (2 : Int) ^ s ∧ 0 < (2 : Int) ^ (64 - s) := by
  obtain ⟨n, rfl⟩ := Int.eq_ofNat_of_zero_le (Int.le_of_lt h2)
  have hx : n < 2 ^ 64 := by omega
  have hle := bitLen_le64 n hx
  obtain ⟨h5, h6⟩ := bitLen_spec 64 n hx hx
  obtain ⟨h7, h8⟩ := h6 (by omega)
  rw [Int.toNat_natCast]
  obtain ⟨k, hk⟩ : ∃ k, k = Lib.bitLen n := ⟨_, rfl⟩
  rw [← hk] at h5 h7 h8 hle ⊢
  have e64 : 2 ^ (64 - k) * 2 ^ k = 18446744073709551616 := by rw [← Nat.pow_add, show 64 - k + k = 64 by omega]
  have e63 : 2 ^ (64 - k) * 2 ^ (k - 1) = 9223372036854775808 := by rw [← Nat.pow_add, show 64 - k + (k - 1) = 63 by omega]
  have p1 : 0 < 2 ^ (64 - k) := Nat.two_pow_pos _
  have a1 : 2 ^ (64 - k) * 2 ^ (k - 1) ≤ 2 ^ (64 - k) * n := Nat.mul_le_mul_left _ h7
  have a2 : 2 ^ (64 - k) * (n + 1) ≤ 2 ^ (64 - k) * 2 ^ k := Nat.mul_le_mul_left _ h5
  rw [Nat.mul_add] at a2
  refine ⟨64 - k, by omega, by omega, ?_, ?_, ?_, ?_, ?_⟩
  · rw [two_pow_nat, ← Int.natCast_mul, Nat.mul_comm]; omega
  · rw [two_pow_nat, ← Int.natCast_mul, Nat.mul_comm]; omega
  · rw [show 64 - (64 - k) = k by omega, two_pow_nat, two_pow_nat, ← Int.natCast_mul]; omega
  · rw [two_pow_nat]; omega
  · rw [two_pow_nat]; have := Nat.two_pow_pos (64 - (64 - k)); omega

theorem wrap3 (a u1 b r : Int) (h : a + u1 - b = r) (h0 : 0 ≤ r) (h1 : r ≤ 18446744073709551615) : IntKind.u64.wrap (IntKind.u64.wrap (IntKind.u64.wrap a + u1) - IntKind.u64.wrap b) = r := by
  simp only [IntKind.wrap_u64]
  omega

theorem div64_any (hi lo y : Int) (w : World) (hh : 0 ≤ hi) (h0 : 0 ≤ lo) (h1 : lo ≤ 18446744073709551615) (h2 : 0 < y) (h3 : y ≤ 18446744073709551615) (h5 : hi < y) :
    Calls Tryd.prog 101 #[.int .u64 hi, .int .u64 lo, .int .u64 y] w fun e w' => RetV w (.tuple #[.int .u64 ((hi * 18446744073709551616 + lo) / y), .int .u64 ((hi * 18446744073709551616 + lo) % y)]) e w' := by
  by_cases hz : hi = 0
  · subst hz
    rw [Int.zero_mul, Int.zero_add]
    exact div64_small lo y w h0 h1 h2 h3
  · obtain ⟨s, hs, hlz, hY0, hY1, hPT, hP, hT⟩ := lz_facts y h2 h3
    have lz : ∀ w, Calls Tryd.prog 85 #[.int .u64 y] w fun e w' => e = .returned (.int .i64 s) ∧ w' = w := by
      intro w
      refine (lz64_any y w (by omega) h3).mono ?_
      rintro e w' ⟨rfl, rfl⟩
      exact ⟨by rw [hlz], rfl⟩
    obtain ⟨P, hPe⟩ : ∃ P, P = (2 : Int) ^ s := ⟨_, rfl⟩
    obtain ⟨T, hTe⟩ : ∃ T, T = (2 : Int) ^ (64 - s) := ⟨_, rfl⟩
    rw [← hPe] at hY0 hY1 hPT hP
    rw [← hTe] at hPT hT
    obtain ⟨Y, hYe⟩ : ∃ Y, Y = y * P := ⟨_, rfl⟩
    rw [← hYe] at hY0 hY1
    -- the parts of lo
    have l1 := Int.mul_ediv_add_emod lo T
    have l2 := Int.emod_lt_of_pos lo hT
    have l3 := Int.emod_nonneg lo (by omega : T ≠ 0)
    have l4 : 0 ≤ lo / T := Int.ediv_nonneg h0 (by omega)
    have l5 : lo / T < P := Int.ediv_lt_of_lt_mul hT (by rw [hPT]; omega)
    obtain ⟨c, hc⟩ : ∃ c, c = lo / T := ⟨_, rfl⟩
    obtain ⟨d, hd⟩ : ∃ d, d = lo % T := ⟨_, rfl⟩
    rw [← hc] at l1 l4 l5
    rw [← hd] at l1 l2 l3
    have dP0 : 0 ≤ d * P := Int.mul_nonneg l3 (by omega)
    have dP1 : d * P + P ≤ 18446744073709551616 := by
      have : (d + 1) * P ≤ T * P := Int.mul_le_mul_of_nonneg_right (by omega) (by omega)
      rw [Int.add_mul, Int.one_mul, Int.mul_comm T P, hPT] at this
      exact this
    have loP : lo * P = c * 18446744073709551616 + d * P := by
      rw [← l1, Int.add_mul, Int.mul_comm T c, Int.mul_assoc, Int.mul_comm T P, hPT]
    have hiP0 : 0 ≤ hi * P := Int.mul_nonneg hh (by omega)
    have hiP1 : hi * P + P ≤ Y := by
      have : (hi + 1) * P ≤ y * P := Int.mul_le_mul_of_nonneg_right (by omega) (by omega)
      rw [Int.add_mul, Int.one_mul, ← hYe] at this
      exact this
    have eL : IntKind.u64.wrap (lo * P) = d * P := by rw [IntKind.wrap_u64, loP]; omega
    have eH : IntKind.u64.wrap (hi * P) = hi * P := by rw [IntKind.wrap_u64]; omega
    have eY : IntKind.u64.wrap (y * P) = Y := by rw [IntKind.wrap_u64, ← hYe]; omega
    have eu : bits .or .u64 (IntKind.u64.wrap (hi * P)) (lo / T) = hi * P + c := by
      rw [eH, ← hc, hPe]
      exact or_parts hi c s hh l4 (by rw [← hPe]; exact l5) (by rw [← hPe]; omega)
    obtain ⟨u, hu⟩ : ∃ u, u = hi * P + c := ⟨_, rfl⟩
    obtain ⟨L, hL⟩ : ∃ L, L = d * P := ⟨_, rfl⟩
    have huY : u < Y := by omega
    have hYv : Y = Y / 4294967296 * 4294967296 + Y % 4294967296 := by omega
    have hv1 : 2147483648 ≤ Y / 4294967296 := by omega
    have hYp : 0 < Y := by omega
    obtain ⟨a1, a2, a3⟩ := kn_le (u := u) (u1 := L / 4294967296) hYv hv1 (by omega) (by omega) huY (by omega) (by omega)
    obtain ⟨b1, b2⟩ := kn_top (u := u) hYv hv1 (by omega) (by omega) huY
    obtain ⟨c1, c2, c3, c4⟩ := kn_rest (u := u) (v1 := Y / 4294967296) (by omega) (by omega)
    obtain ⟨d1, d2, d3⟩ := kn_left (u := u) (u1 := L / 4294967296) (Y := Y) hYp rfl
    obtain ⟨Q1, hQ1⟩ : ∃ Q1, Q1 = (u * 4294967296 + L / 4294967296) / Y := ⟨_, rfl⟩
    rw [← hQ1] at a1 a2 a3 d1 d2 d3
    obtain ⟨u2, hu2⟩ : ∃ u2, u2 = u * 4294967296 + L / 4294967296 - Q1 * Y := ⟨_, rfl⟩
    rw [← hu2] at d1 d2 d3
    obtain ⟨a1', a2', a3'⟩ := kn_le (u := u2) (u1 := L % 4294967296) hYv hv1 (by omega) d2 d3 (by omega) (by omega)
    obtain ⟨b1', b2'⟩ := kn_top (u := u2) hYv hv1 (by omega) d2 d3
    obtain ⟨c1', c2', c3', c4'⟩ := kn_rest (u := u2) (v1 := Y / 4294967296) (by omega) d2
    obtain ⟨d1', d2', d3'⟩ := kn_left (u := u2) (u1 := L % 4294967296) (Y := Y) hYp rfl
    obtain ⟨Q0, hQ0⟩ : ∃ Q0, Q0 = (u2 * 4294967296 + L % 4294967296) / Y := ⟨_, rfl⟩
    rw [← hQ0] at a1' a2' a3' d1' d2' d3'
    obtain ⟨R, hR⟩ : ∃ R, R = u2 * 4294967296 + L % 4294967296 - Q0 * Y := ⟨_, rfl⟩
    rw [← hR] at d1' d2' d3'
    have core := div64_core hi lo y Y (Y / 4294967296) (Y % 4294967296) u L (L / 4294967296) (L % 4294967296) (u / (Y / 4294967296)) (u - u / (Y / 4294967296) * (Y / 4294967296)) Q1 u2 (u2 / (Y / 4294967296)) (u2 - u2 / (Y / 4294967296) * (Y / 4294967296)) Q0 R s w
      h0 h1 h2 h3 (by omega) h5 hs lz (by rw [← hPe]; exact eY) hY0 hY1 rfl hv1 (by omega) (and_mask32 Y (by omega) (by omega)) (by omega) (by omega) hYv
      (by rw [← hPe, ← hTe, eu, hu]) (by omega) huY (by rw [← hPe, eL, hL]) (by omega) (by omega) rfl (by omega) (by omega) (and_mask32 L (by omega) (by omega)) (by omega) (by omega)
      rfl b1 b2 c1 c2 rfl c3 c4 hQ1.symm a1 a2 a3
      (wrap3 _ _ _ u2 hu2.symm d2 (by omega)) d2 d3 rfl b1' b2' c1' c2' rfl c3' c4' hQ0.symm a1' a2' a3' (wrap3 _ _ _ R hR.symm d2' (by omega)) d2' (by omega)
    -- what the two digits make together
    have hN : (hi * 18446744073709551616 + lo) * P = (Q1 * 4294967296 + Q0) * Y + R := by
      have e1 : (hi * 18446744073709551616 + lo) * P = u * 18446744073709551616 + L := by
        rw [Int.add_mul, loP, hu, hL, Int.mul_assoc, Int.mul_comm 18446744073709551616 P, ← Int.mul_assoc]
        omega
      rw [e1, Int.add_mul, Int.mul_assoc, Int.mul_comm 4294967296 Y, ← Int.mul_assoc]
      omega
    rw [hYe, ← Int.mul_assoc] at hN
    obtain ⟨q, hq⟩ : ∃ q, q = Q1 * 4294967296 + Q0 := ⟨_, rfl⟩
    rw [← hq] at hN core
    obtain ⟨N, hNe⟩ : ∃ N, N = hi * 18446744073709551616 + lo := ⟨_, rfl⟩
    rw [← hNe] at hN ⊢
    have hRP : R = (N - q * y) * P := by rw [Int.sub_mul]; omega
    have hRd : R / 2 ^ s = N - q * y := by rw [← hPe, hRP, Int.mul_ediv_cancel _ (by omega)]
    have hlo : 0 ≤ N - q * y := by
      rw [← hRd, ← hPe]
      exact Int.ediv_nonneg d2' (by omega)
    have hup : N - q * y < y := by
      rw [← hRd, ← hPe]
      refine Int.ediv_lt_of_lt_mul hP ?_
      rw [← hYe]; exact d3'
    have hdiv : N / y = q := by
      have e : N = (N - q * y) + y * q := by rw [Int.mul_comm y q]; omega
      rw [e, Int.add_mul_ediv_left _ _ (by omega), Int.ediv_eq_zero_of_lt hlo hup]; omega
    have hmod : N % y = N - q * y := by
      have := Int.mul_ediv_add_emod N y
      rw [hdiv, Int.mul_comm] at this
      omega
    refine core.mono ?_
    rintro e w' ⟨rfl, rfl⟩
    exact ⟨by rw [hdiv, hmod, hRd], Below.refl _ _⟩
end Go.Proofs.YtfanhllcoaondaaDoor

namespace Go.Proofs.YtfanhllcoaondaaDoor
open Go.RowKit

/-- One step of the division of a number by a word, from the top. -/
theorem dl_step {l m : List Int} {k : Nat} {r d q x : Int} (hk : k < l.length) (hlm : m.length = l.length) (h : vb B64 (m.drop (k + 1)) * d + r = vb B64 (l.drop (k + 1))) (hx : x = l.getD k 0) (_hd : 0 < d)
    (hq : q = (r * 18446744073709551616 + x) / d) : vb B64 ((m.set k q).drop k) * d + (r * 18446744073709551616 + x) % d = vb B64 (l.drop k) := by
  have hkm : k < (m.set k q).length := by rw [List.length_set, hlm]; exact hk
  rw [vb_drop B64 hk, vb_drop B64 hkm, getD_set_same (by rw [hlm]; exact hk), ← hx, ← h]
  have e : (m.set k q).drop (k + 1) = m.drop (k + 1) := by
    apply List.ext_getElem?
    intro j
    rw [List.getElem?_drop, List.getElem?_drop, List.getElem?_set, if_neg (by omega)]
  rw [e]
  have := Int.mul_ediv_add_emod (r * 18446744073709551616 + x) d
  rw [← hq, Int.mul_comm d q] at this
  have e2 : (q + B64 * vb B64 (m.drop (k + 1))) * d = q * d + B64 * (vb B64 (m.drop (k + 1)) * d) := by rw [Int.add_mul, Int.mul_assoc]
  rw [e2]
  unfold B64 at *
  omega

theorem divLimb_zero (ao : Option Addr) (cap : Nat) (d : Int) (w : World) :
    Calls Tryd.prog 84 #[.slice ao 0 cap, .int .u64 d] w fun e w' => e = .returned (.int .u64 0) ∧ w = w' := by
  go_enter Tryd.func84, Tryd.ntmps84
  go_wp2
  refine wp_loop_rounds 1 ?_
  rw [rounds_succ]
  go_wp2
  go_ret
  exact ⟨rfl, rfl⟩

/-- What nat.divideByLimb leaves. -/
def RetDL (b off n : Nat) (N d : Int) (w : World) (e : Ending) (w' : World) : Prop := e = .returned (.int .u64 (N % d)) ∧ InPl b off n (N / d) w w'

set_option maxRecDepth 100000 in
set_option maxHeartbeats 1000000 in
theorem divLimb_any (b off n cap : Nat) (l : List Int) (d : Int) (w : World) (hn : n = l.length) (h1 : n ≤ cap) (h2 : cap ≤ 9223372036854775807) (ha : Arr w b off l) (hl : Lim B64 l) (hd : 0 < d) (hd2 : d ≤ 18446744073709551615) :
    Calls Tryd.prog 84 #[.slice (some ⟨b, off, none⟩) n cap, .int .u64 d] w fun e w' => RetDL b off n (vb B64 l) d w e w' := by
  have HN := Lib.hid hn
  clear hn
  go_enter Tryd.func84, Tryd.ntmps84
  go_wp2
  go_loopw [5, 6] (fun rr i wr => ∃ (k : Nat) (r : Int) (m : List Int), k ≤ n ∧ i = .int .i64 ((k : Int) - 1) ∧ rr = .int .u64 r ∧ 0 ≤ r ∧ r < d ∧ Hid (m.length = n) ∧ Lim B64 m ∧ Arr wr b off m ∧ Only b off (off + n) w wr ∧ Hid (m.take k = l.take k) ∧ Hid (vb B64 (m.drop k) * d + r = vb B64 (l.drop k)))
    (fun _ i _ => ((intOf i) + 1).toNat)
  case atStart => exact ⟨n, 0, l, Nat.le_refl _, rfl, rfl, Int.le_refl _, hd, HN.out.symm, hl, ha, Only.refl _ _ _ _, rfl, by
    show _ = _
    rw [List.drop_of_length_le (by rw [HN.out]; exact Nat.le_refl _)]; simp⟩
  case round =>
    obtain ⟨k, r, m, hk, rfl, rfl, hr0, hr1, HM, hlim, harr, honly, HT, HV⟩ := hrel
    by_cases hk0 : k = 0
    · subst hk0
      have hv : vb B64 m * d + r = vb B64 l := HV.out
      have hdiv : vb B64 l / d = vb B64 m := by
        have e : vb B64 l = r + d * vb B64 m := by rw [Int.mul_comm]; omega
        rw [e, Int.add_mul_ediv_left _ _ (by omega), Int.ediv_eq_zero_of_lt hr0 hr1]; omega
      have hmod : vb B64 l % d = r := by
        have e : vb B64 l = r + d * vb B64 m := by rw [Int.mul_comm]; omega
        rw [e, Int.add_mul_emod_self_left, Int.emod_eq_of_lt hr0 hr1]
      have HDI := Lib.hid hdiv
      have HMO := Lib.hid hmod
      clear hv hdiv hmod
      go_wp2
      go_ret
      exact ⟨by rw [HMO.out]; rfl, m, HM.out, hlim, harr, HDI.out.symm, honly⟩
    · obtain ⟨j, rfl⟩ : ∃ j, k = j + 1 := ⟨k - 1, by omega⟩
      have hj : j < n := by omega
      obtain ⟨x, hxe⟩ : ∃ x, x = l.getD j 0 := ⟨_, rfl⟩
      have hcx : wr.cell? ⟨b, off + j, none⟩ = some (.int .u64 x) := by
        rw [hxe, ← getD_take (l := l) (k := j + 1) (by omega), ← HT.out, getD_take (by omega)]
        exact harr.at' j (by rw [HM.out]; exact hj)
      have hfr := harr.frozen (off + j)
      have bx : 0 ≤ x ∧ x < B64 := by rw [hxe]; exact hl.getD B64_pos j
      have bx0 : 0 ≤ x := bx.1
      have bx1 : x ≤ 18446744073709551615 := by have := bx.2; unfold B64 at this; omega
      have e0 : (((j + 1 : Nat) : Int) - 1) = (j : Int) := by omega
      rw [e0]
      have hq := div64_any r x d wr hr0 bx0 bx1 hd hd2 hr1
      obtain ⟨q, hqe⟩ : ∃ q, q = (r * 18446744073709551616 + x) / d := ⟨_, rfl⟩
      obtain ⟨r2, hre⟩ : ∃ r2, r2 = (r * 18446744073709551616 + x) % d := ⟨_, rfl⟩
      rw [← hqe, ← hre] at hq
      have hq0 : 0 ≤ q := by rw [hqe]; exact Int.ediv_nonneg (by omega) (by omega)
      have hq1 : q < B64 := by
        rw [hqe]
        refine Int.ediv_lt_of_lt_mul hd ?_
        unfold B64
        omega
      have hr20 : 0 ≤ r2 := by rw [hre]; exact Int.emod_nonneg _ (by omega)
      have hr21 : r2 < d := by rw [hre]; exact Int.emod_lt_of_pos _ hd
      have hst := dl_step (l := l) (m := m) (k := j) (by rw [← HN.out]; exact hj) (by rw [HM.out, HN.out]) HV.out hxe hd hqe
      rw [← hre] at hst
      have HQ := Lib.hid hq
      have HST := Lib.hid hst
      clear hq hst hqe hre hxe e0 bx
      go_wp2_with fail
      refine HQ.out.mono ?_
      rintro e w1 ⟨rfl, hb1⟩
      have hon1 : Only b off (off + n) wr w1 := Only.of_below hb1
      have harr1 : Arr w1 b off m := by
        obtain ⟨cur, e, hh, hc⟩ := harr
        exact ⟨cur, e, (hb1.block b (Array.getElem?_eq_some_iff.1 hh).1).trans hh, hc⟩
      have hcx1 : w1.cell? ⟨b, off + j, none⟩ = some (.int .u64 x) := by rw [← hcx]; exact hb1.cell (p := ⟨b, off + j, none⟩) harr.lt
      have hfr1 := harr1.frozen (off + j)
      go_wp2_with fail
      go_roundw
      case rel =>
        refine ⟨j, r2, m.set j q, by omega, by go_num, rfl, hr20, hr21, ?_, hlim.set j hq0 hq1, harr1.store j q, (honly.trans hon1).trans (Only.store _ _ (by omega) (by omega)), ?_, HST.out⟩
        · show _ = _
          rw [List.length_set]; exact HM.out
        · show _ = _
          have := HT.out
          rw [List.take_set_of_le (Nat.le_refl _)]
          have e := congrArg (List.take j) this
          rw [List.take_take, List.take_take, Nat.min_eq_left (by omega)] at e
          exact e
      case measure => simp [intOf]
end Go.Proofs.YtfanhllcoaondaaDoor

namespace Go.Proofs.YtfanhllcoaondaaDoor
open Go.RowKit

/-- Bytes in a row that may be written. -/
def ArrB (w : World) (b off : Nat) (l : List Int) : Prop := ∃ (cur : Array Value) (e : TypeId), w.heap[b]? = some (.cells cur e (0, 0)) ∧ ∀ j, j < l.length → cur[off + j]? = some (.int .u8 (l.getD j 0))
def AtB (w : World) (b off : Nat) (l : List Int) : Prop := ∀ j, j < l.length → w.cell? ⟨b, off + j, none⟩ = some (.int .u8 (l.getD j 0))

theorem ArrB.at' {w : World} {b off : Nat} {l : List Int} (h : ArrB w b off l) : AtB w b off l := by
  obtain ⟨cur, e, hh, h⟩ := h
  intro j hj
  rw [cell_of_row w b _ cur e _ hh]
  exact h j hj
theorem ArrB.frozen {w : World} {b off : Nat} {l : List Int} (h : ArrB w b off l) (j : Nat) : w.frozen? ⟨b, j, none⟩ = false := by
  obtain ⟨cur, e, hh, h⟩ := h
  exact frozen_of_row w b j cur e hh
theorem ArrB.lt {w : World} {b off : Nat} {l : List Int} (h : ArrB w b off l) : b < w.heap.size := by
  obtain ⟨cur, e, hh, h⟩ := h
  exact (Array.getElem?_eq_some_iff.1 hh).1
theorem ArrB.store {w : World} {b off : Nat} {l : List Int} (h : ArrB w b off l) (k : Nat) (x : Int) : ArrB (w.setCell ⟨b, off + k, none⟩ (.int .u8 x)) b off (l.set k x) := by
  obtain ⟨cur, e, hc, hl⟩ := h
  refine ⟨_, e, heap_setCell_same w b (off + k) cur e _ hc, fun j hj => ?_⟩
  rw [List.length_set] at hj
  by_cases hjk : k = j
  · subst hjk
    have hlt : off + k < cur.size := (Array.getElem?_eq_some_iff.1 (hl k hj)).1
    rw [getD_set_same hj]
    simp [hlt]
  · rw [getD_set_other l hjk, Array.getElem?_setIfInBounds, if_neg (by omega)]
    exact hl j hj
theorem ArrB.drop {w : World} {b off : Nat} {l : List Int} (h : ArrB w b off l) (k : Nat) : ArrB w b (off + k) (l.drop k) := by
  obtain ⟨cur, e, hh, h⟩ := h
  refine ⟨cur, e, hh, fun j hj => ?_⟩
  rw [List.length_drop] at hj
  rw [getD_drop, Nat.add_assoc]
  exact h _ (by omega)
theorem ArrB.take {w : World} {b off : Nat} {l : List Int} (h : ArrB w b off l) (k : Nat) : ArrB w b off (l.take k) := by
  obtain ⟨cur, e, hh, h⟩ := h
  refine ⟨cur, e, hh, fun j hj => ?_⟩
  rw [List.length_take] at hj
  rw [getD_take (by omega)]
  exact h _ (by omega)
theorem ArrB.below {B : Nat} {w w' : World} {b off : Nat} {l : List Int} (h : ArrB w b off l) (hb : Below B w w') (hlt : b < B) : ArrB w' b off l := by
  obtain ⟨cur, e, hh, h⟩ := h
  exact ⟨cur, e, (hb.block b hlt).trans hh, h⟩

/-- As 'Only', but of blocks from B on nothing is said. -/
structure OnlyB (B b lo hi : Nat) (w w' : World) : Prop where
  os : w'.os = w.os
  tape : w'.tape = w.tape
  output : w'.output = w.output
  size : w.heap.size ≤ w'.heap.size
  block : ∀ k, k < B → k ≠ b → w'.heap[k]? = w.heap[k]?
  row : ∀ cur e, w.heap[b]? = some (.cells cur e (0, 0)) → ∃ cur', w'.heap[b]? = some (.cells cur' e (0, 0)) ∧ cur'.size = cur.size ∧ ∀ j, j < lo ∨ hi ≤ j → cur'[j]? = cur[j]?

theorem OnlyB.refl (B b lo hi : Nat) (w : World) : OnlyB B b lo hi w w := ⟨rfl, rfl, rfl, Nat.le_refl _, fun _ _ _ => rfl, fun cur _ h => ⟨cur, h, rfl, fun _ _ => rfl⟩⟩
theorem OnlyB.trans {B b lo hi : Nat} {u v w : World} (h : OnlyB B b lo hi u v) (k : OnlyB B b lo hi v w) : OnlyB B b lo hi u w := by
  refine ⟨k.os.trans h.os, k.tape.trans h.tape, k.output.trans h.output, Nat.le_trans h.size k.size, fun i hi hb => (k.block i hi hb).trans (h.block i hi hb), fun cur e hc => ?_⟩
  obtain ⟨c1, h1, s1, g1⟩ := h.row cur e hc
  obtain ⟨c2, h2, s2, g2⟩ := k.row c1 e h1
  exact ⟨c2, h2, s2.trans s1, fun j hj => (g2 j hj).trans (g1 j hj)⟩
theorem OnlyB.of_below {B b lo hi : Nat} {u v : World} (h : Below B u v) (hb : b < B) : OnlyB B b lo hi u v :=
  ⟨h.os, h.tape, h.output, h.size, fun k hk _ => h.block k hk, fun cur _ hc => ⟨cur, (h.block b hb).trans hc, rfl, fun _ _ => rfl⟩⟩
theorem OnlyB.of_only {B b lo hi : Nat} {u v : World} (h : Only b lo hi u v) (hB : B ≤ u.heap.size) : OnlyB B b lo hi u v :=
  ⟨h.os, h.tape, h.output, h.size, fun k hk => h.block k (by omega), h.row⟩
theorem OnlyB.only {b lo hi : Nat} {u v : World} (h : OnlyB u.heap.size b lo hi u v) : Only b lo hi u v :=
  ⟨h.os, h.tape, h.output, h.size, h.block, h.row⟩
theorem OnlyB.mono {B b lo hi lo' hi' : Nat} {u v : World} (h : OnlyB B b lo hi u v) (h1 : lo' ≤ lo) (h2 : hi ≤ hi') : OnlyB B b lo' hi' u v :=
  ⟨h.os, h.tape, h.output, h.size, h.block, fun cur e hc => by
    obtain ⟨c, a, s, g⟩ := h.row cur e hc
    exact ⟨c, a, s, fun j hj => g j (by omega)⟩⟩
theorem OnlyB.below {B B' b lo hi : Nat} {u v : World} (h : OnlyB B b lo hi u v) (hb : B' ≤ b) (hB : B' ≤ B) : Below B' u v :=
  ⟨h.os, h.tape, h.output, h.size, fun k hk => h.block k (by omega) (by omega)⟩

end Go.Proofs.YtfanhllcoaondaaDoor

namespace Go.Proofs.YtfanhllcoaondaaDoor
open Go.RowKit

/-- What nat.divideByLimb leaves of a row of the call's own. -/
def RetDLO (B : Nat) (v : Value) (l : List Int) (d : Int) (w : World) (e : Ending) (w' : World) : Prop :=
  e = .returned (.int .u64 (vb B64 l % d)) ∧ ∃ l', Ow B w' v l' ∧ Lim B64 l' ∧ vb B64 l' = vb B64 l / d ∧ Below B w w'

theorem divLimb_ow (B : Nat) (v : Value) (l : List Int) (d : Int) (w : World) (h : Ow B w v l) (hl : Lim B64 l) (hd : 0 < d) (hd2 : d ≤ 18446744073709551615) (hB : B ≤ w.heap.size) :
    Calls Tryd.prog 84 #[v, .int .u64 d] w fun e w' => RetDLO B v l d w e w' := by
  rcases h.cases with ⟨rfl, rfl⟩ | ⟨g, cap, rfl, hg, h1, h2, harr⟩
  · refine (divLimb_zero none 0 d w).mono ?_
    rintro e w' ⟨rfl, rfl⟩
    refine ⟨by simp, [], h, Lim.nil _, by simp, Below.refl _ _⟩
  · refine (divLimb_any g 0 l.length cap l d w rfl h1 h2 harr hl hd hd2).mono ?_
    rintro e w' ⟨rfl, l', hl', hlim', harr', hv, honly⟩
    exact ⟨rfl, l', by have := h.only honly harr' hl'; exact this, hlim', hv, honly.below hg hB⟩

def RetTrO (B : Nat) (l : List Int) (w : World) (e : Ending) (w' : World) : Prop := ∃ v', e = .returned v' ∧ Ow B w v' (tr l) ∧ w = w'
theorem trim_ow (B : Nat) (v : Value) (l : List Int) (w : World) (h : Ow B w v l) : Calls Tryd.prog 83 #[v] w fun e w' => RetTrO B l w e w' := by
  obtain ⟨ao, cap, rfl, h1, h2, hr⟩ := h.form
  refine (trim_any ao l.length cap l w rfl h1 h2 hr).mono ?_
  rintro e w' ⟨rfl, rfl⟩
  exact ⟨_, rfl, h.take (tlen l) (tlen_le l), rfl⟩

theorem drop_set_at {l : List Int} {p : Nat} {x : Int} (hp : p < l.length) : (l.set p x).drop p = x :: l.drop (p + 1) := by
  rw [drop_getD_cons (by rw [List.length_set]; exact hp), getD_set_same hp]
  congr 1
  apply List.ext_getElem?
  intro j
  rw [List.getElem?_drop, List.getElem?_drop, List.getElem?_set, if_neg (by omega)]

theorem pow_chunk (N : Int) (a : Nat) : N / 10 ^ (19 * a) / 10000000000000000000 = N / 10 ^ (19 * (a + 1)) := by
  have e : (10 : Int) ^ (19 * (a + 1)) = 10 ^ (19 * a) * 10000000000000000000 := by rw [Nat.mul_add, Int.pow_add]; rfl
  rw [e, Int.ediv_ediv_of_nonneg (Int.le_of_lt (Int.pow_pos (by decide)))]
theorem dg_chunk (x : Int) : dg 19 (x % 10000000000000000000) = dg 19 x := by
  have := dg_mod 19 19 x (Nat.le_refl _)
  exact this

/-- What writeChunks leaves. -/
def RetWC (B g off n : Nat) (N : Int) (w : World) (e : Ending) (w' : World) : Prop := e = .returned (.tuple #[]) ∧ ArrB w' g off (dg n N) ∧ OnlyB B g off (off + n) w w'

set_option maxRecDepth 100000 in
set_option maxHeartbeats 2000000 in
theorem writeChunks_any (g off n cap M : Nat) (D : List Int) (va : Value) (la : List Int) (B : Nat) (w : World) (hn : n = 19 * M) (hD : D.length = n) (h1 : n ≤ cap) (h2 : cap ≤ 9223372036854775807)
    (hd : ArrB w g off D) (ha : Ow B w va la) (hl : Lim B64 la) (hg : g < B) (hB : B ≤ w.heap.size) :
    Calls Tryd.prog 109 #[.slice (some ⟨g, off, none⟩) n cap, va] w fun e w' => RetWC B g off n (vb B64 la) w e w' := by
  obtain ⟨N, hN⟩ : ∃ N, N = vb B64 la := ⟨_, rfl⟩
  have HN := Lib.hid hN
  rw [← hN]
  clear hN
  have HNN := Lib.hid hn
  have HD := Lib.hid hD
  have hMn : 19 * (M : Int) = (n : Int) := by omega
  have HMN := Lib.hid hMn
  have hM63 : 19 * (M : Int) ≤ 9223372036854775807 := by omega
  clear hn hD hMn
  go_enter Tryd.func109, Tryd.ntmps109
  go_wp2
  go_loopw [1, 4] (fun a e wr => ∃ (k : Nat) (la' D' : List Int), k ≤ M ∧ e = .int .i64 (19 * (k : Int)) ∧ Ow B wr a la' ∧ Lim B64 la' ∧ Hid (vb B64 la' = N / 10 ^ (19 * (M - k))) ∧ ArrB wr g off D' ∧ Hid (D'.length = n) ∧ Hid (D'.drop (19 * k) = dg (19 * (M - k)) N) ∧ OnlyB B g off (off + n) w wr)
    (fun _ e _ => (intOf e).toNat)
  case atStart => exact ⟨M, la, D, Nat.le_refl _, by rw [HMN.out], ha, hl, by
    show _ = _
    rw [Nat.sub_self, Nat.mul_zero, Int.pow_zero, Int.ediv_one, HN.out], hd, HD, by
    show _ = _
    rw [Nat.sub_self, Nat.mul_zero, ← HNN.out, ← HD.out, List.drop_length]; rfl, OnlyB.refl _ _ _ _ _⟩
  case round =>
    obtain ⟨k, la', D', hk, rfl, hO, hlim, HV, harr, HL, HT, honly⟩ := hrel
    by_cases hk0 : k = 0
    · subst hk0
      have e1 : D' = dg n N := by
        have := HT.out
        rw [Nat.mul_zero, List.drop_zero, Nat.sub_zero, ← HNN.out] at this
        exact this
      have harr2 : ArrB wr g off (dg n N) := by rw [← e1]; exact harr
      clear e1
      go_wp2
      go_end0
      exact ⟨rfl, harr2, honly⟩
    · obtain ⟨j, rfl⟩ : ∃ j, k = j + 1 := ⟨k - 1, by omega⟩
      have hBr : B ≤ wr.heap.size := Nat.le_trans hB honly.size
      have hdl := divLimb_ow B u1 la' 10000000000000000000 wr hO hlim (by decide) (by decide) hBr
      have HDL := Lib.hid hdl
      clear hdl
      go_wp2_with fail
      refine HDL.out.mono ?_
      rintro e w1 ⟨rfl, l1, hO1, hlim1, hv1, hb1⟩
      obtain ⟨x, hx⟩ : ∃ x, x = vb B64 la' % 10000000000000000000 := ⟨_, rfl⟩
      rw [← hx]
      have hx0 : 0 ≤ x := by rw [hx]; exact Int.emod_nonneg _ (by decide)
      have hx1 : x < 10000000000000000000 := by rw [hx]; exact Int.emod_lt_of_pos _ (by decide)
      have HX := Lib.hid hx
      have HV1 := Lib.hid hv1
      clear hx hv1
      go_wp2_with fail
      refine (trim_ow B _ l1 w1 hO1).mono ?_
      rintro e w' ⟨v2, rfl, hO2, rfl⟩
      have harr1 := harr.below hb1 hg
      have honly1 := honly.trans (OnlyB.of_below hb1 hg)
      clear hO hlim harr honly hO1 hb1
      go_wp2_with fail
      obtain ⟨tl, htl⟩ : ∃ tl, tl = dg (19 * (M - (j + 1))) N := ⟨_, rfl⟩
      have HTL := Lib.hid htl
      rw [← htl] at HT
      clear htl
      go_loopw [5, 6] (fun yy ii wr => ∃ (i p : Nat) (y : Int) (D2 : List Int), i ≤ 19 ∧ p + i = 19 * (j + 1) ∧ ii = .int .i64 ((p : Int) - 1) ∧ yy = .int .u64 y ∧ 0 ≤ y ∧ y < 10000000000000000000 ∧ Hid (y = x / 10 ^ i) ∧ ArrB wr g off D2 ∧ Hid (D2.length = n) ∧ Hid (D2.drop p = dg i x ++ tl) ∧ OnlyB B g off (off + n) w wr ∧ Ow B wr v2 (tr l1))
        (fun _ ii _ => ((intOf ii) + 1).toNat)
      case atStart => exact ⟨0, 19 * (j + 1), x, D', by omega, by omega, by go_num, rfl, hx0, hx1, by
        show _ = _
        rw [Int.pow_zero, Int.ediv_one], harr1, HL, HT, honly1, hO2⟩
      case round =>
        clear harr1 HL HT honly1 hO2
        obtain ⟨i, p, y, D2, hi, hpi, rfl, rfl, hy0, hy1, HY, harr, HL, HT, honly, hO⟩ := hrel
        by_cases hi19 : i = 19
        · have hlt : ((p : Int) - 1) < 19 * ((j : Int) + 1) - 19 := by omega
          have hp : p = 19 * j := by omega
          have hpos : D2.drop (19 * j) = dg (19 * (M - j)) N := by
            rw [← hp, HT.out, hi19, HTL.out, show 19 * (M - j) = 19 + 19 * (M - (j + 1)) by omega, dg_add, HX.out, dg_chunk, HV.out]
          have hval : vb B64 (tr l1) = N / 10 ^ (19 * (M - j)) := by
            rw [vb_tr, HV1.out, HV.out, pow_chunk, show M - (j + 1) + 1 = M - j by omega]
          have HPOS := Lib.hid hpos
          have HVAL := Lib.hid hval
          clear hpos hval hi19 hp
          go_wp2
          go_roundw
          case rel => exact ⟨j, tr l1, D2, by omega, by go_num, hO, hlim1.take _, HVAL, harr, HL, HPOS, honly⟩
          case measure => simp [intOf]; omega
        · obtain ⟨p, rfl⟩ : ∃ p', p = p' + 1 := ⟨p - 1, by omega⟩
          have hge : 19 * ((j : Int) + 1) - 19 ≤ (p : Int) := by omega
          have hpn : p < n := by have := HNN.out; omega
          have e0 : (((p + 1 : Nat) : Int) - 1) = (p : Int) := by omega
          have hcell := harr.at' p (by rw [HL.out]; exact hpn)
          have hfr := harr.frozen (off + p)
          have hpl : p < D2.length := by rw [HL.out]; exact hpn
          have hm0 : 0 ≤ y % 10 := by omega
          have hm1 : y % 10 < 10 := by omega
          rw [e0]
          clear e0
          go_wp2
          go_roundw
          case rel =>
            refine ⟨i + 1, p, y / 10, D2.set p (48 + y % 10), by omega, by omega, by go_num, rfl, by omega, by omega, ?_, harr.store p _, ?_, ?_, honly.trans (OnlyB.of_only (Only.store _ _ (by omega) (by omega)) (Nat.le_trans hB honly.size)), ?_⟩
            · show _ = _
              rw [HY.out, ediv_pow10']
            · show _ = _
              rw [List.length_set]; exact HL.out
            · show _ = _
              rw [drop_set_at hpl, HT.out, dg_cons, HY.out, List.cons_append]
            · refine hO.only' (Only.store (lo := off + p) (hi := off + p + 1) _ _ (Nat.le_refl _) (by omega)) ?_
              intro e
              have := hO.block g e
              omega
          case measure => simp [intOf]
end Go.Proofs.YtfanhllcoaondaaDoor

namespace Go.Proofs.YtfanhllcoaondaaDoor
open Go.RowKit


theorem pow2_split {r : Nat} (hr : r ≤ 64) : (18446744073709551616 : Int) = 2 ^ (64 - r) * 2 ^ r := by
  rw [← Int.pow_add, show 64 - r + r = 64 by omega]; rfl
theorem pow2_pos (r : Nat) : (0 : Int) < 2 ^ r := Int.pow_pos (by decide)
theorem or_comm64 (a b : Int) (ha : 0 ≤ a) (ha2 : a < 18446744073709551616) (hb : 0 ≤ b) (hb2 : b < 18446744073709551616) : bits .or .u64 a b = bits .or .u64 b a := by
  obtain ⟨a, rfl⟩ := Int.eq_ofNat_of_zero_le ha
  obtain ⟨b, rfl⟩ := Int.eq_ofNat_of_zero_le hb
  rw [bits_or_u64_nat _ _ (by omega) (by omega), bits_or_u64_nat _ _ (by omega) (by omega), Nat.or_comm]

/-- A word that is shifted up is laid over a word below the shift. -/
theorem or_shl (c x : Int) (r : Nat) (hr : r ≤ 64) (hc : 0 ≤ c) (hcr : c < 2 ^ r) (_hx : 0 ≤ x) : bits .or .u64 c (IntKind.u64.wrap (x * 2 ^ r)) = c + (x * 2 ^ r) % 18446744073709551616 := by
  have hp := pow2_pos r
  have e : (x * 2 ^ r) % 18446744073709551616 = (x % 2 ^ (64 - r)) * 2 ^ r := by
    rw [pow2_split hr, Int.mul_comm x, Int.mul_comm (2 ^ (64 - r)), Int.mul_emod_mul_of_pos _ _ hp, Int.mul_comm]
  have h0 : 0 ≤ x % 2 ^ (64 - r) := Int.emod_nonneg _ (by have := pow2_pos (64 - r); omega)
  have h1 : x % 2 ^ (64 - r) < 2 ^ (64 - r) := Int.emod_lt_of_pos _ (pow2_pos _)
  have h2 : (x % 2 ^ (64 - r)) * 2 ^ r + 2 ^ r ≤ 18446744073709551616 := by
    have h3 : (x % 2 ^ (64 - r) + 1) * 2 ^ r ≤ 2 ^ (64 - r) * 2 ^ r := Int.mul_le_mul_of_nonneg_right (by omega) (Int.le_of_lt hp)
    rw [← pow2_split hr, Int.add_mul, Int.one_mul] at h3
    exact h3
  have h4 : 0 ≤ (x % 2 ^ (64 - r)) * 2 ^ r := Int.mul_nonneg h0 (Int.le_of_lt hp)
  have e2 : IntKind.u64.wrap (x * 2 ^ r) = (x % 2 ^ (64 - r)) * 2 ^ r := by rw [IntKind.wrap_u64, e]
  rw [e2, or_comm64 _ _ hc (by omega) h4 (by omega), or_parts _ _ r h0 hc hcr (by omega), e, Int.add_comm]

/-- What a shift down by the rest takes. -/
theorem shr_shl (x : Int) (r : Nat) (hr : r ≤ 64) : x / 2 ^ (64 - r) = (x * 2 ^ r) / 18446744073709551616 := by
  rw [pow2_split hr, Int.mul_ediv_mul_of_pos_left _ _ (pow2_pos r)]

theorem up_step {o m : List Int} {q i : Nat} {x c P : Int} (hi : i < m.length) (hx : x = m.getD i 0) (hp : q + i + 1 < o.length) (hc : o.getD (q + i) 0 = c) (hz : o.getD (q + i + 1) 0 = 0)
    (hv : vb B64 o = B64 ^ q * (P * vb B64 (m.take i))) :
    vb B64 ((o.set (q + i) (c + (x * P) % 18446744073709551616)).set (q + i + 1) (x * P / 18446744073709551616)) = B64 ^ q * (P * vb B64 (m.take (i + 1))) := by
  rw [vb_set _ _ _ _ (by rw [List.length_set]; exact hp), vb_set _ _ _ _ (by omega), getD_set_other _ (by omega), hc, hz, hv, vb_take_succ B64 hi, ← hx, Int.pow_succ, Int.mul_assoc, Int.add_assoc, ← Int.mul_add]
  have e : c + x * P % 18446744073709551616 - c + B64 * (x * P / 18446744073709551616 - 0) = x * P := by unfold B64; omega
  rw [e, Int.mul_add, Int.mul_add, Int.pow_add]
  have e2 : B64 ^ q * (P * (B64 ^ i * x)) = B64 ^ q * B64 ^ i * (x * P) := by
    rw [Int.mul_assoc, Int.mul_comm P, Int.mul_assoc]
  rw [e2]

theorem pow2_words (k : Nat) : (2 : Int) ^ k = B64 ^ (k / 64) * 2 ^ (k % 64) := by
  have e : B64 ^ (k / 64) = 2 ^ (64 * (k / 64)) := by
    rw [Int.pow_mul]; rfl
  rw [e, ← Int.pow_add]
  congr 1
  omega

theorem getD_rep (n j : Nat) : (List.replicate n (0 : Int)).getD j 0 = 0 := by
  rw [List.getD_eq_getElem?_getD, List.getElem?_replicate]
  split <;> rfl
theorem or_lt (c x : Int) : bits .or .u64 c (IntKind.u64.wrap x) < 18446744073709551616 := by
  show IntKind.u64.wrap _ < _
  rw [IntKind.wrap_u64]
  omega

theorem tlen_zero_vb {l : List Int} (h : tlen l = 0) : vb B64 l = 0 := by
  rw [← vb_tr, tr, h]; rfl

set_option maxRecDepth 100000 in
set_option maxHeartbeats 4000000 in
theorem shiftUp_any (ao : Option Addr) (n cap : Nat) (l : List Int) (k : Nat) (w : World) (hn : n = l.length) (h1 : n ≤ cap) (h2 : cap ≤ 9223372036854775807) (h : Rd w ao l) (hl : Lim B64 l) (hk : k ≤ 16777216) (hM : n + 300000 ≤ MaxW) :
    Calls Tryd.prog 87 #[.slice ao n cap, .int .i64 k] w fun e w' => RetNum w (vb B64 l * 2 ^ k) e w' := by
  have ht := tlen_le l
  have HT := Lib.hid (trim_any ao n cap l w hn h1 h2 h)
  obtain ⟨t, hte⟩ : ∃ t, t = tlen l := ⟨_, rfl⟩
  have htn : t ≤ n := by omega
  have htc : t ≤ cap := by omega
  rw [← hte] at HT
  have HTE := Lib.hid hte
  have hM2 := hM
  unfold MaxW at hM2
  clear hn ht
  by_cases h0 : t = 0
  · have hz : ((t : Int) == 0) = true := by rw [h0]; rfl
    have hv : vb B64 l = 0 := tlen_zero_vb (by rw [← HTE.out, h0])
    have HV := Lib.hid hv
    clear hv hte h0
    go_enter Tryd.func87, Tryd.ntmps87
    go_wp2_with (go_at_call 83; refine HT.out.mono ?_; rintro e w' ⟨rfl, rfl⟩)
    go_ret
    exact ⟨_, [], rfl, Ow.nil _ _, Can.nil _, by rw [HV.out]; simp, Below.refl _ _⟩
  · have hz : ((t : Int) == 0) = false := by rw [beq_eq_false_iff_ne]; omega
    obtain ⟨m, hm⟩ : ∃ m, m = tr l := ⟨_, rfl⟩
    have hml : m.length = t := by rw [hm, tr_length, hte]
    have hcan : Can B64 m := by rw [hm]; exact can_tr hl
    have hvm : vb B64 m = vb B64 l := by rw [hm, vb_tr]
    have hrd : Rd w ao m := by rw [hm]; exact h.take _
    have HML := Lib.hid hml
    have HVM := Lib.hid hvm
    obtain ⟨b, off, rfl, hat⟩ := hrd.cases (by intro e; rw [e] at hml; simp at hml; omega)
    obtain ⟨q, hq⟩ : ∃ q, q = k / 64 := ⟨_, rfl⟩
    obtain ⟨r, hr⟩ : ∃ r, r = k % 64 := ⟨_, rfl⟩
    have hq1 : ((k : Int)).tdiv 64 = (q : Int) := by rw [Int.tdiv_eq_ediv_of_nonneg (by omega)]; omega
    have hr1 : ((k : Int)).tmod 64 = (r : Int) := by rw [Int.tmod_eq_emod_of_nonneg (by omega)]; omega
    have hr63 : r ≤ 63 := by omega
    have hqb : q ≤ 262144 := by omega
    have hpow : (2 : Int) ^ k = B64 ^ q * 2 ^ r := by rw [hq, hr]; exact pow2_words k
    have HPOW := Lib.hid hpow
    obtain ⟨N, hN⟩ : ∃ N, q + t + 1 = N := ⟨_, rfl⟩
    have hNI : (q : Int) + (t : Int) + 1 = (N : Int) := by omega
    have hNM : N ≤ MaxW := by omega
    have hN63 : N ≤ 17592186344416 := by omega
    have HQ := Lib.hid hq
    have HR := Lib.hid hr
    have HN := Lib.hid hN
    clear hq hr hpow hN hm hml hvm hrd h hte
    go_enter Tryd.func87, Tryd.ntmps87
    go_wp2_with (first
      | (go_at_call 83; refine HT.out.mono ?_; rintro e w' ⟨rfl, rfl⟩)
      | (at_make; refine wpList_make_words w rfl (.tmp 23) (.tmp 23) 26 rfl Tryd.underlying26 info_u64 _ _ N rfl rfl (by omega) (by omega) hNM ?_; intro w1 hw1 hb1 hs1))
    go_loopw [27] (fun ii wr => ∃ (i : Nat) (o : List Int), i ≤ t ∧ ii = .int .i64 i ∧ Hid (o.length = N) ∧ Lim B64 o ∧ Arr wr w.heap.size 0 o ∧ Only w.heap.size 0 N w1 wr ∧ Hid (o.getD (q + i) 0 < 2 ^ r) ∧ Hid (∀ j, q + i < j → o.getD j 0 = 0) ∧ Hid (vb B64 o = B64 ^ q * (2 ^ r * vb B64 (m.take i))))
      (fun ii _ => t - (intOf ii).toNat)
    case atStart => exact ⟨0, List.replicate N 0, Nat.zero_le _, rfl, by show _ = _; simp, Lim.replicate B64_pos N, hw1.arr.1, Only.refl _ _ _ _, by rw [getD_rep]; exact pow2_pos r, fun j _ => getD_rep N j, by show _ = _; rw [vb_replicate]; simp⟩
    case round =>
      obtain ⟨i, o, hi, rfl, HL, hlim, harr, honly, HC, HZ, HV⟩ := hrel
      by_cases hlt : i < t
      · have hbw : Below w.heap.size w wr := hb1.trans (honly.below (Nat.le_refl _) (by omega))
        obtain ⟨x, hxe⟩ : ∃ x, x = m.getD i 0 := ⟨_, rfl⟩
        have bx : 0 ≤ x ∧ x < B64 := by rw [hxe]; exact hcan.lim.getD B64_pos _
        have bx0 : 0 ≤ x := bx.1
        have bx1 : x ≤ 18446744073709551615 := by have := bx.2; unfold B64 at this; omega
        have hcx : wr.cell? ⟨b, off + i, none⟩ = some (.int .u64 x) := by rw [hxe]; exact hat.below hbw i (by rw [HML.out]; exact hlt)
        obtain ⟨p, hp⟩ : ∃ p, q + i = p := ⟨_, rfl⟩
        have hNo := HN.out
        have hpN : p + 1 < N := by omega
        have hpN2 : p < N := by omega
        have hpI : (q : Int) + (i : Int) = (p : Int) := by omega
        obtain ⟨c, hce⟩ : ∃ c, c = o.getD p 0 := ⟨_, rfl⟩
        have bc : 0 ≤ c := by rw [hce]; exact (hlim.getD B64_pos _).1
        have bcr : c < 2 ^ r := by rw [hce, ← hp]; exact HC.out
        have hco : wr.cell? ⟨w.heap.size, p, none⟩ = some (.int .u64 c) := by
          rw [hce]
          have := harr.at' p (by rw [HL.out]; exact hpN2)
          rwa [Nat.zero_add] at this
        have hfr := harr.frozen p
        obtain ⟨y, hy⟩ : ∃ y, y = c + (x * 2 ^ r) % 18446744073709551616 := ⟨_, rfl⟩
        have hor : bits .or .u64 c (IntKind.u64.wrap (x * 2 ^ r)) = y := by rw [hy]; exact or_shl c x r (by omega) bc bcr bx0
        obtain ⟨z, hze⟩ : ∃ z, z = x * 2 ^ r / 18446744073709551616 := ⟨_, rfl⟩
        have hsh : x / 2 ^ (64 - r) = z := by rw [hze]; exact shr_shl x r (by omega)
        have hzr : z < 2 ^ r := by
          rw [hze]
          refine Int.ediv_lt_of_lt_mul (by decide) ?_
          rw [Int.mul_comm]
          have := Int.mul_lt_mul_of_pos_left (show x < 18446744073709551616 by omega) (pow2_pos r)
          exact this
        have hz0 : 0 ≤ z := by rw [hze]; exact Int.ediv_nonneg (Int.mul_nonneg bx0 (Int.le_of_lt (pow2_pos r))) (by decide)
        have hr64 : (2 : Int) ^ r ≤ 18446744073709551616 := by
          rw [pow2_split (show r ≤ 64 by omega)]
          have h5 := Int.mul_le_mul_of_nonneg_right (show (1 : Int) ≤ 2 ^ (64 - r) from pow2_pos _) (Int.le_of_lt (pow2_pos r))
          omega
        have hy01 : 0 ≤ y ∧ y < B64 := by
          rw [← hor]
          unfold B64
          have hw0 := or_shl c x r (by omega) bc bcr bx0
          rw [hw0]
          have h6 : 0 ≤ (x * 2 ^ r) % 18446744073709551616 := Int.emod_nonneg _ (by decide)
          refine ⟨by omega, ?_⟩
          rw [← hw0]
          exact or_lt c (x * 2 ^ r)
        have hst := up_step (o := o) (m := m) (q := q) (i := i) (x := x) (c := c) (P := 2 ^ r) (by rw [HML.out]; exact hlt) hxe (by rw [HL.out, hp]; exact hpN) (by rw [hp]; exact hce.symm) (HZ.out _ (by omega)) HV.out
        rw [← hy, ← hze, hp] at hst
        have HST := Lib.hid hst
        have HZR := Lib.hid hzr
        have HY := Lib.hid hy01
        have HP := Lib.hid hp
        clear hst hzr hy hze hxe hce bx hp hNo hr64 hy01
        go_wp2_with fail
        go_region
        have harr2 : Arr (wr.setCell ⟨w.heap.size, p, none⟩ (.int .u64 y)) w.heap.size 0 (o.set p y) := by
          have := harr.store p y
          rwa [Nat.zero_add] at this
        have hcp1 : (wr.setCell ⟨w.heap.size, p, none⟩ (.int .u64 y)).cell? ⟨w.heap.size, p + 1, none⟩ = some (.int .u64 0) := by
          have h7 := harr2.at' (p + 1) (by rw [List.length_set, HL.out]; exact hpN)
          rw [Nat.zero_add, getD_set_other _ (by omega), HZ.out (p + 1) (by have := HP.out; omega)] at h7
          exact h7
        have hfp1 : (wr.setCell ⟨w.heap.size, p, none⟩ (.int .u64 y)).frozen? ⟨w.heap.size, p + 1, none⟩ = false := harr2.frozen (p + 1)
        go_wp2_with fail
        go_roundw
        case rel =>
          have hp' := HP.out
          have harr3 := harr2.store (p + 1) z
          rw [Nat.zero_add] at harr3
          have hon3 : Only w.heap.size 0 N wr ((wr.setCell ⟨w.heap.size, p, none⟩ (.int .u64 y)).setCell ⟨w.heap.size, p + 1, none⟩ (.int .u64 z)) := (Only.store p _ (by omega) (by omega)).trans (Only.store (p + 1) _ (by omega) (by omega))
          refine ⟨i + 1, (o.set p y).set (p + 1) z, by omega, by go_num, ?_, (hlim.set p HY.out.1 HY.out.2).set (p + 1) hz0 ?_, harr3, (honly.trans hon3).trans (Only.of_below ((Below.refl _ _).drew)), ?_, ?_, HST.out⟩
          · show _ = _
            rw [List.length_set, List.length_set]; exact HL.out
          · have h8 := HZR.out
            have h9 : (2 : Int) ^ r ≤ B64 := by
              unfold B64
              rw [pow2_split (show r ≤ 64 by omega)]
              have h5 := Int.mul_le_mul_of_nonneg_right (show (1 : Int) ≤ 2 ^ (64 - r) from pow2_pos _) (Int.le_of_lt (pow2_pos r))
              omega
            omega
          · show _ < _
            rw [show q + (i + 1) = p + 1 by omega, getD_set_same (by rw [List.length_set, HL.out]; exact hpN)]
            exact HZR.out
          · intro j hj
            rw [getD_set_other _ (by omega), getD_set_other _ (by omega)]
            exact HZ.out j (by omega)
        case measure => simp [intOf]; omega
      · have hit : i = m.length := by rw [HML.out]; omega
        have hv : vb B64 o = vb B64 l * 2 ^ k := by
          have h8 := HV.out
          rw [hit, List.take_length, HVM.out, ← Int.mul_assoc, ← HPOW.out, Int.mul_comm] at h8
          exact h8
        have HVO := Lib.hid hv
        have hOo : Ow w.heap.size wr (.slice (some ⟨w.heap.size, 0, none⟩) N N) o := hw1.only honly harr (by rw [HL.out, List.length_replicate])
        have hbw : Below w.heap.size w wr := hb1.trans (honly.below (Nat.le_refl _) (by omega))
        have hrd : Rd wr (some ⟨w.heap.size, 0, none⟩) o := Rd.of_at harr.at'
        have htl := tlen_le o
        rw [HL.out] at htl
        clear hit hv HV HZ HC
        go_wp2_with (go_at_call 83; refine (trim_any (some ⟨w.heap.size, 0, none⟩) N N o _ HL.out.symm (Nat.le_refl _) (by omega) hrd).mono ?_; rintro e w' ⟨rfl, rfl⟩)
        go_ret
        exact ⟨_, tr o, rfl, hOo.take (tlen o) htl, can_tr hlim, by rw [vb_tr]; exact HVO.out, hbw⟩


theorem down_first {o m : List Int} {x r : Int} (ho : 0 < o.length) (hm : 0 < m.length) (hx : x = m.getD 0 0) :
    vb B64 ((o.set 0 (x / r)).take (0 + 1)) = vb B64 (m.take (0 + 1)) / r := by
  rw [vb_take_succ B64 hm, vb_take_succ B64 (by rw [List.length_set]; exact ho), getD_set_same ho, ← hx]
  simp

theorem down_step {o m : List Int} {j : Nat} {x d : Int} {r : Nat} (hr : r ≤ 63) (ho : j + 1 < o.length) (hm : j + 1 < m.length) (hx : x = m.getD (j + 1) 0) (hd : d = o.getD j 0)
    (hv : vb B64 (o.take (j + 1)) = vb B64 (m.take (j + 1)) / 2 ^ r) :
    vb B64 (((o.set (j + 1) (x / 2 ^ r)).set j (d + (x * 2 ^ (64 - r)) % 18446744073709551616)).take (j + 1 + 1)) = vb B64 (m.take (j + 1 + 1)) / 2 ^ r := by
  have hp := pow2_pos r
  have e0 : (o.set (j + 1) (x / 2 ^ r)).take j = o.take j := List.take_set_of_le (by omega)
  have e1 : ((o.set (j + 1) (x / 2 ^ r)).set j (d + (x * 2 ^ (64 - r)) % 18446744073709551616)).take j = o.take j := by
    rw [List.take_set_of_le (Nat.le_refl _), e0]
  have l1 : ((o.set (j + 1) (x / 2 ^ r)).set j (d + (x * 2 ^ (64 - r)) % 18446744073709551616)).length = o.length := by rw [List.length_set, List.length_set]
  rw [vb_take_succ B64 (by omega), vb_take_succ B64 (by omega), e1, getD_set_same (by rw [List.length_set]; omega), getD_set_other _ (by omega), getD_set_same (by omega)]
  rw [vb_take_succ B64 (l := m) hm, ← hx]
  rw [vb_take_succ B64 (l := o) (by omega), ← hd] at hv
  have hs := shr_shl x (64 - r) (by omega)
  rw [show 64 - (64 - r) = r by omega] at hs
  have hb : d + (x * 2 ^ (64 - r)) % 18446744073709551616 + B64 * (x / 2 ^ r) = d + x * 2 ^ (64 - r) := by
    rw [hs]; unfold B64; omega
  have e2 : vb B64 (o.take j) + B64 ^ j * (d + (x * 2 ^ (64 - r)) % 18446744073709551616) + B64 ^ (j + 1) * (x / 2 ^ r) = vb B64 (o.take j) + B64 ^ j * d + B64 ^ j * (x * 2 ^ (64 - r)) := by
    rw [Int.pow_succ, Int.mul_assoc, Int.add_assoc, ← Int.mul_add, hb, Int.mul_add]
    omega
  rw [e2, hv]
  have e3 : B64 ^ (j + 1) * x = (B64 ^ j * (x * 2 ^ (64 - r))) * 2 ^ r := by
    have h64 : (B64 : Int) = 2 ^ (64 - r) * 2 ^ r := pow2_split (by omega)
    rw [Int.pow_succ, Int.mul_assoc, Int.mul_assoc, Int.mul_assoc, ← h64, Int.mul_comm B64 x]
  rw [e3, Int.add_mul_ediv_right _ _ (by omega)]

/-- The words above the q-th. -/
theorem vb_drop_div {m : List Int} (h : Lim B64 m) (q : Nat) (hq : q ≤ m.length) : vb B64 (m.drop q) = vb B64 m / B64 ^ q := by
  have h1 := vb_split B64 m q hq
  have h2 := vb_lt B64_pos (h.take q)
  rw [List.length_take, Nat.min_eq_left hq] at h2
  have h3 := vb_nonneg B64_pos (h.take q)
  rw [h1, Int.add_mul_ediv_left _ _ (by have := pow_pos' B64_pos q; omega), Int.ediv_eq_zero_of_lt h3 h2]
  omega

set_option maxRecDepth 100000 in
set_option maxHeartbeats 4000000 in
theorem shiftDown_any (ao : Option Addr) (n cap : Nat) (l : List Int) (k : Nat) (w : World) (hn : n = l.length) (h1 : n ≤ cap) (h2 : cap ≤ 9223372036854775807) (h : Rd w ao l) (hl : Lim B64 l) (hk : k ≤ 16777216) (hM : n ≤ MaxW) :
    Calls Tryd.prog 88 #[.slice ao n cap, .int .i64 k] w fun e w' => RetNum w (vb B64 l / 2 ^ k) e w' := by
  have ht := tlen_le l
  have HT := Lib.hid (trim_any ao n cap l w hn h1 h2 h)
  obtain ⟨t, hte⟩ : ∃ t, t = tlen l := ⟨_, rfl⟩
  have htn : t ≤ n := by omega
  have htc : t ≤ cap := by omega
  rw [← hte] at HT
  have HTE := Lib.hid hte
  have hM2 := hM
  unfold MaxW at hM2
  clear hn ht
  obtain ⟨m, hm⟩ : ∃ m, m = tr l := ⟨_, rfl⟩
  have hml : m.length = t := by rw [hm, tr_length, hte]
  have hcan : Can B64 m := by rw [hm]; exact can_tr hl
  have hvm : vb B64 m = vb B64 l := by rw [hm, vb_tr]
  have hrd : Rd w ao m := by rw [hm]; exact h.take _
  have HML := Lib.hid hml
  have HVM := Lib.hid hvm
  obtain ⟨q, hq⟩ : ∃ q, q = k / 64 := ⟨_, rfl⟩
  obtain ⟨r, hr⟩ : ∃ r, r = k % 64 := ⟨_, rfl⟩
  have hq1 : ((k : Int)).tdiv 64 = (q : Int) := by rw [Int.tdiv_eq_ediv_of_nonneg (by omega)]; omega
  have hr1 : ((k : Int)).tmod 64 = (r : Int) := by rw [Int.tmod_eq_emod_of_nonneg (by omega)]; omega
  have hr63 : r ≤ 63 := by omega
  have hqb : q ≤ 262144 := by omega
  have hpow : (2 : Int) ^ k = B64 ^ q * 2 ^ r := by rw [hq, hr]; exact pow2_words k
  have HPOW := Lib.hid hpow
  have HQ := Lib.hid hq
  have HR := Lib.hid hr
  clear hq hr hpow hm hml hvm h hte
  by_cases h0 : t ≤ q
  · have hv : vb B64 l / 2 ^ k = 0 := by
      rw [← HVM.out]
      refine Int.ediv_eq_zero_of_lt (vb_nonneg B64_pos hcan.lim) ?_
      have h3 := vb_lt B64_pos hcan.lim
      rw [HML.out] at h3
      have h4 := pow_le_pow B64_pos h0
      rw [HPOW.out]
      have h5 := Int.mul_le_mul_of_nonneg_left (show (1 : Int) ≤ 2 ^ r from pow2_pos r) (Int.le_of_lt (pow_pos' B64_pos q))
      omega
    have HV := Lib.hid hv
    have hqt : (t : Int) ≤ (q : Int) := by omega
    clear hv
    go_enter Tryd.func88, Tryd.ntmps88
    go_wp2_with (go_at_call 83; refine HT.out.mono ?_; rintro e w' ⟨rfl, rfl⟩)
    go_ret
    exact ⟨_, [], rfl, Ow.nil _ _, Can.nil _, by rw [HV.out]; rfl, Below.refl _ _⟩
  · have hqt : ¬ (t : Int) ≤ (q : Int) := by omega
    have hqt2 : (q : Int) < (t : Int) := by omega
    obtain ⟨b, off, rfl, hat⟩ := hrd.cases (by intro e; have := HML.out; rw [e] at this; simp at this; omega)
    obtain ⟨u, hu⟩ : ∃ u, t - q = u := ⟨_, rfl⟩
    have huI : (t : Int) - (q : Int) = (u : Int) := by omega
    have huM : u ≤ MaxW := by unfold MaxW; omega
    have hu63 : u ≤ 17592186044416 := by omega
    have HU := Lib.hid hu
    clear hrd
    go_enter Tryd.func88, Tryd.ntmps88
    go_wp2_with (first
      | (go_at_call 83; refine HT.out.mono ?_; rintro e w' ⟨rfl, rfl⟩)
      | (at_make; refine wpList_make_words w rfl (.tmp 24) (.tmp 24) 26 rfl Tryd.underlying26 info_u64 _ _ u rfl rfl (by omega) (by omega) huM ?_; intro w1 hw1 hb1 hs1))
    obtain ⟨md, hmd⟩ : ∃ md, md = m.drop q := ⟨_, rfl⟩
    have hmdl : md.length = u := by rw [hmd, List.length_drop, HML.out, HU.out]
    have hlimd : Lim B64 md := by rw [hmd]; exact hcan.lim.drop q
    have hatd : At w b (off + q) md := by rw [hmd]; exact hat.drop q
    have hvd : vb B64 md / 2 ^ r = vb B64 l / 2 ^ k := by
      rw [hmd, vb_drop_div hcan.lim q (by rw [HML.out]; omega), HPOW.out, HVM.out, Int.ediv_ediv_of_nonneg (Int.le_of_lt (pow_pos' B64_pos q))]
    have HMDL := Lib.hid hmdl
    have HVD := Lib.hid hvd
    clear hmd hmdl hvd hat HVM HML HPOW HT
    go_loopw [28] (fun ii wr => ∃ (i : Nat) (o : List Int), i ≤ u ∧ ii = .int .i64 i ∧ Hid (o.length = u) ∧ Lim B64 o ∧ Arr wr w.heap.size 0 o ∧ Only w.heap.size 0 u w1 wr ∧ Hid (0 < i → o.getD (i - 1) 0 < 2 ^ (64 - r)) ∧ Hid (vb B64 (o.take i) = vb B64 (md.take i) / 2 ^ r))
      (fun ii _ => u - (intOf ii).toNat)
    case atStart => exact ⟨0, List.replicate u 0, Nat.zero_le _, rfl, by show _ = _; simp, Lim.replicate B64_pos u, hw1.arr.1, Only.refl _ _ _ _, fun h => absurd h (Nat.lt_irrefl _), by show _ = _; simp⟩
    case round =>
      obtain ⟨i, o, hi, rfl, HL, hlim, harr, honly, HC, HV⟩ := hrel
      by_cases hlt : i < u
      · have hbw : Below w.heap.size w wr := hb1.trans (honly.below (Nat.le_refl _) (by omega))
        obtain ⟨x, hxe⟩ : ∃ x, x = md.getD i 0 := ⟨_, rfl⟩
        have bx : 0 ≤ x ∧ x < B64 := by rw [hxe]; exact hlimd.getD B64_pos _
        have bx0 : 0 ≤ x := bx.1
        have bx1 : x ≤ 18446744073709551615 := by have := bx.2; unfold B64 at this; omega
        have hcx : wr.cell? ⟨b, off + q + i, none⟩ = some (.int .u64 x) := by rw [hxe]; exact hatd.below hbw i (by rw [HMDL.out]; exact hlt)
        obtain ⟨c0, hc0⟩ : ∃ c0, c0 = o.getD i 0 := ⟨_, rfl⟩
        have hci : wr.cell? ⟨w.heap.size, i, none⟩ = some (.int .u64 c0) := by
          rw [hc0]
          have := harr.at' i (by rw [HL.out]; exact hlt)
          rwa [Nat.zero_add] at this
        have hfr := harr.frozen i
        obtain ⟨z, hze⟩ : ∃ z, x / 2 ^ r = z := ⟨_, rfl⟩
        have hz0 : 0 ≤ z := by rw [← hze]; exact Int.ediv_nonneg bx0 (Int.le_of_lt (pow2_pos r))
        have hzx : z ≤ x := by rw [← hze]; exact Int.ediv_le_self _ bx0
        have hzB : z < 2 ^ (64 - r) := by
          rw [← hze]
          refine Int.ediv_lt_of_lt_mul (pow2_pos r) ?_
          rw [← pow2_split (show r ≤ 64 by omega)]
          omega
        have HZB := Lib.hid hzB
        have harr2 : Arr (wr.setCell ⟨w.heap.size, i, none⟩ (.int .u64 z)) w.heap.size 0 (o.set i z) := by
          have := harr.store i z
          rwa [Nat.zero_add] at this
        by_cases hi0 : 0 < i
        · obtain ⟨j, hj⟩ : ∃ j, i - 1 = j := ⟨_, rfl⟩
          have hjI : (i : Int) - 1 = (j : Int) := by omega
          have hju : j < u := by omega
          have hi1 : (0 : Int) < (i : Int) := by omega
          obtain ⟨d, hd⟩ : ∃ d, d = o.getD j 0 := ⟨_, rfl⟩
          have hd0 : 0 ≤ d := by rw [hd]; exact (hlim.getD B64_pos _).1
          have hdr : d < 2 ^ (64 - r) := by rw [hd, ← hj]; exact HC.out hi0
          obtain ⟨y, hy⟩ : ∃ y, y = d + (x * 2 ^ (64 - r)) % 18446744073709551616 := ⟨_, rfl⟩
          have hor : bits .or .u64 d (IntKind.u64.wrap (x * 2 ^ (64 - r))) = y := by rw [hy]; exact or_shl d x (64 - r) (by omega) hd0 hdr bx0
          have hy0 : 0 ≤ y := by
            rw [hy]
            have := Int.emod_nonneg (x * 2 ^ (64 - r)) (show (18446744073709551616 : Int) ≠ 0 by decide)
            omega
          have hy1 : y < B64 := by rw [← hor]; unfold B64; exact or_lt _ _
          have hcj : (wr.setCell ⟨w.heap.size, i, none⟩ (.int .u64 z)).cell? ⟨w.heap.size, j, none⟩ = some (.int .u64 d) := by
            have h7 := harr2.at' j (by rw [List.length_set, HL.out]; exact hju)
            rw [Nat.zero_add, getD_set_other _ (by omega), ← hd] at h7
            exact h7
          have hfj : (wr.setCell ⟨w.heap.size, i, none⟩ (.int .u64 z)).frozen? ⟨w.heap.size, j, none⟩ = false := harr2.frozen j
          have hij : i = j + 1 := by omega
          have hst := down_step (o := o) (m := md) (j := j) (x := x) (d := d) (r := r) hr63 (by rw [HL.out]; omega) (by rw [HMDL.out]; omega) (by rw [← hij]; exact hxe) hd (by rw [← hij]; exact HV.out)
          rw [hze, ← hy, ← hij] at hst
          have HST := Lib.hid hst
          have HIJ := Lib.hid hij
          clear hst hy hd hxe hc0 bx hij hj hdr hzB HV
          go_wp2_with fail
          go_region
          go_wp2_with fail
          go_roundw
          case rel =>
            have hij := HIJ.out
            have harr3 := harr2.store j y
            rw [Nat.zero_add] at harr3
            have hon3 : Only w.heap.size 0 u wr ((wr.setCell ⟨w.heap.size, i, none⟩ (.int .u64 z)).setCell ⟨w.heap.size, j, none⟩ (.int .u64 y)) := (Only.store i _ (by omega) (by omega)).trans (Only.store j _ (by omega) (by omega))
            refine ⟨i + 1, (o.set i z).set j y, by omega, by go_num, ?_, (hlim.set i hz0 (by unfold B64; omega)).set j hy0 hy1, harr3, (honly.trans hon3).trans (Only.of_below ((Below.refl _ _).drew)), ?_, HST.out⟩
            · show _ = _
              rw [List.length_set, List.length_set]; exact HL.out
            · intro _
              rw [Nat.add_sub_cancel, getD_set_other _ (by omega), getD_set_same (by rw [HL.out]; exact hlt)]
              exact HZB.out
          case measure => simp [intOf]; omega
        · have hiz : i = 0 := by omega
          subst hiz
          rw [Nat.add_zero] at hcx
          have hst := down_first (o := o) (m := md) (x := x) (r := 2 ^ r) (by rw [HL.out]; exact hlt) (by rw [HMDL.out]; exact hlt) hxe
          rw [hze] at hst
          have HST := Lib.hid hst
          clear hst hxe hc0 bx hzB HV hi0
          go_wp2_with fail
          go_roundw
          case rel =>
            refine ⟨0 + 1, o.set 0 z, by omega, by go_num, ?_, hlim.set 0 hz0 (by unfold B64; omega), harr2, honly.trans (Only.store 0 _ (by omega) (by omega)), ?_, HST.out⟩
            · show _ = _
              rw [List.length_set]; exact HL.out
            · intro _
              rw [Nat.add_sub_cancel, getD_set_same (by rw [HL.out]; exact hlt)]
              exact HZB.out
          case measure => simp [intOf]; omega
      · have hiu : i = u := by omega
        have hv : vb B64 o = vb B64 l / 2 ^ k := by
          have h8 := HV.out
          rw [List.take_of_length_le (l := o) (by rw [HL.out]; omega), List.take_of_length_le (l := md) (by rw [HMDL.out]; omega), HVD.out] at h8
          exact h8
        have HVO := Lib.hid hv
        have hOo : Ow w.heap.size wr (.slice (some ⟨w.heap.size, 0, none⟩) u u) o := hw1.only honly harr (by rw [HL.out, List.length_replicate])
        have hbw : Below w.heap.size w wr := hb1.trans (honly.below (Nat.le_refl _) (by omega))
        have hrdo : Rd wr (some ⟨w.heap.size, 0, none⟩) o := Rd.of_at harr.at'
        have htl := tlen_le o
        rw [HL.out] at htl
        clear hiu hv HV HC
        go_wp2_with (go_at_call 83; refine (trim_any (some ⟨w.heap.size, 0, none⟩) u u o _ HL.out.symm (Nat.le_refl _) (by omega) hrdo).mono ?_; rintro e w' ⟨rfl, rfl⟩)
        go_ret
        exact ⟨_, tr o, rfl, hOo.take (tlen o) htl, can_tr hlim, by rw [vb_tr]; exact HVO.out, hbw⟩


set_option maxRecDepth 100000 in
theorem shl_up (ao : Option Addr) (n cap : Nat) (l : List Int) (k : Nat) (w : World) (hn : n = l.length) (h1 : n ≤ cap) (h2 : cap ≤ 9223372036854775807) (h : Rd w ao l) (hl : Lim B64 l) (hk : k ≤ 16777216) (hM : n + 300000 ≤ MaxW) :
    Calls Tryd.prog 69 #[.slice ao n cap, .int .i64 k] w fun e w' => RetNum w (vb B64 l * 2 ^ k) e w' := by
  have HC := Lib.hid (shiftUp_any ao n cap l k w hn h1 h2 h hl hk hM)
  have e1 : ¬ (16777216 : Int) < k := by omega
  have e2 : ¬ (k : Int) < -16777216 := by omega
  have e3 : ¬ (k : Int) < 0 := by omega
  clear hn h hl hM hk
  go_enter Tryd.func69, Tryd.ntmps69
  go_wp2_with (go_at_call 87; refine HC.out.mono ?_; rintro e w' ⟨v, l', rfl, hO, hcan, hv, hb⟩)
  go_ret
  exact ⟨_, l', rfl, hO, hcan, hv, hb⟩

set_option maxRecDepth 100000 in
theorem shl_down (ao : Option Addr) (n cap : Nat) (l : List Int) (k : Nat) (w : World) (hn : n = l.length) (h1 : n ≤ cap) (h2 : cap ≤ 9223372036854775807) (h : Rd w ao l) (hl : Lim B64 l) (hk0 : 1 ≤ k) (hk : k ≤ 16777216) (hM : n ≤ MaxW) :
    Calls Tryd.prog 69 #[.slice ao n cap, .int .i64 (-(k : Int))] w fun e w' => RetNum w (vb B64 l / 2 ^ k) e w' := by
  have HC := Lib.hid (shiftDown_any ao n cap l k w hn h1 h2 h hl hk hM)
  have e1 : ¬ (16777216 : Int) < -(k : Int) := by omega
  have e2 : ¬ (-(k : Int)) < -16777216 := by omega
  have e3 : (-(k : Int)) < 0 := by omega
  have e4 : 0 < k := by omega
  have e5 : - -(k : Int) = (k : Int) := by omega
  clear hn h hl hM
  go_enter Tryd.func69, Tryd.ntmps69
  go_wp2_with (go_at_call 88; refine HC.out.mono ?_; rintro e w' ⟨v, l', rfl, hO, hcan, hv, hb⟩)
  go_ret
  exact ⟨_, l', rfl, hO, hcan, hv, hb⟩

set_option maxRecDepth 100000 in
theorem shr_any (ao : Option Addr) (n cap : Nat) (l : List Int) (k : Nat) (w : World) (hn : n = l.length) (h1 : n ≤ cap) (h2 : cap ≤ 9223372036854775807) (h : Rd w ao l) (hl : Lim B64 l) (hk : k ≤ 16777216) (hM : n + 300000 ≤ MaxW) :
    Calls Tryd.prog 70 #[.slice ao n cap, .int .i64 k] w fun e w' => RetNum w (vb B64 l / 2 ^ k) e w' := by
  by_cases hk0 : k = 0
  · subst hk0
    have HC := Lib.hid (shl_up ao n cap l 0 w hn h1 h2 h hl hk hM)
    clear hn h hl hM hk
    go_enter Tryd.func70, Tryd.ntmps70
    go_wp2_with (go_at_call 69; refine HC.out.mono ?_; rintro e w' ⟨v, l', rfl, hO, hcan, hv, hb⟩)
    go_ret
    exact ⟨_, l', rfl, hO, hcan, by rw [hv]; simp, hb⟩
  · have HC := Lib.hid (shl_down ao n cap l k w hn h1 h2 h hl (by omega) hk (by omega))
    have e1 : IntKind.i64.wrap (-(k : Int)) = -(k : Int) := by rw [IntKind.wrap_i64]; omega
    clear hn h hl hM
    go_enter Tryd.func70, Tryd.ntmps70
    go_wp2_with (go_at_call 69; refine HC.out.mono ?_; rintro e w' ⟨v, l', rfl, hO, hcan, hv, hb⟩)
    go_ret
    exact ⟨_, l', rfl, hO, hcan, hv, hb⟩

end Go.Proofs.YtfanhllcoaondaaDoor

namespace Go.Proofs.YtfanhllcoaondaaDoor
open Go.RowKit

/-- The library's table lies in its variable. -/
abbrev Tab64 (w : World) : Prop := TabAt 1 Lib.deBruijn64tab w
theorem Tab64.below {w w' : World} (h : Tab64 w) (hb : Below w.heap.size w w') : Tab64 w' := by
  intro j hj
  have hc := h j hj
  rw [hb.cell (p := ⟨1, j, none⟩) (World.block_lt_of_cell? _ _ hc)]
  exact hc

set_option maxRecDepth 100000 in
theorem tz64_walk (x k idx : Nat) (w : World) (hx0 : ((x : Int) == 0) = false)
    (key : IntKind.u64.wrap (bits BinOp.and IntKind.u64 (x : Int) (IntKind.u64.wrap (-(x : Int))) * 285870213051353865) / 288230376151711744 = (idx : Int))
    (hi : idx < 64) (_hk : k < 64) (hcell : w.cell? ⟨1, idx, none⟩ = some (.int .u8 k)) :
    Calls Tryd.prog 98 #[.int .u64 x] w fun e w' => e = .returned (.int .i64 k) ∧ w = w' := by
  go_enter Tryd.func98, Tryd.ntmps98
  go_wp2_with (simp only [key])
  go_ret
  exact ⟨rfl, rfl⟩

theorem tz64_any (x : Int) (w : World) (h0 : 0 < x) (h1 : x ≤ 18446744073709551615) (hT : Tab64 w) :
    ∃ (c : Nat) (m : Int), c < 64 ∧ x = 2 ^ c * (2 * m + 1) ∧ Calls Tryd.prog 98 #[.int .u64 x] w fun e w' => e = .returned (.int .i64 c) ∧ w = w' := by
  obtain ⟨x, rfl⟩ := Int.eq_ofNat_of_zero_le (Int.le_of_lt h0)
  have hx : x < 2 ^ 64 := by omega
  have hx0 : x ≠ 0 := by omega
  obtain ⟨hlow, hk⟩ := Lib.lowest_bit 64 x hx0 hx
  obtain ⟨hi, htab⟩ := Lib.deBruijn64_at _ hk
  have hcell := hT _ hi
  rw [htab] at hcell
  obtain ⟨m, hm, _⟩ := Lib.ctzFrom_spec 64 x (by omega) hx
  have e : Lib.ctz 64 x = Lib.ctzFrom 64 x := by simp [Lib.ctz, hx0]
  rw [← e] at hm
  refine ⟨Lib.ctz 64 x, m, hk, ?_, tz64_walk x _ _ w (by simp; omega) (tz64_key x _ (by omega) hx0 hlow) hi hk hcell⟩
  have := congrArg (fun n : Nat => (n : Int)) hm
  simpa using this

/-- The number t of zero bits at the end of N. -/
def IsLow (N : Int) (t : Nat) : Prop := ∃ z : Int, N = 2 ^ t * (2 * z + 1)

theorem low_word {l : List Int} {i c : Nat} {x m : Int} (hi : i < l.length) (hc : c < 64) (hx : l.getD i 0 = x) (hz : vb B64 (l.take i) = 0) (hm : x = 2 ^ c * (2 * m + 1)) : IsLow (vb B64 l) (64 * i + c) := by
  refine ⟨m + 2 ^ (63 - c) * vb B64 (l.drop (i + 1)), ?_⟩
  rw [vb_split B64 l i (by omega), hz, vb_drop B64 hi, hx, hm]
  have e1 : B64 ^ i = 2 ^ (64 * i) := by rw [Int.pow_mul]; rfl
  have e2 : (B64 : Int) = 2 ^ c * (2 ^ (63 - c) * 2) := by
    rw [← Int.pow_succ, ← Int.pow_add, show c + (63 - c + 1) = 64 by omega]; rfl
  generalize vb B64 (l.drop (i + 1)) = R
  rw [e1, Int.pow_add, Int.zero_add]
  conv => lhs; rw [e2]
  rw [Int.mul_assoc (2 ^ (64 * i)) (2 ^ c)]
  congr 1
  rw [Int.mul_assoc (2 ^ c), ← Int.mul_add]
  congr 1
  rw [Int.mul_comm (2 ^ (63 - c)) 2, Int.mul_assoc, Int.mul_add]
  omega

set_option maxRecDepth 100000 in
set_option maxHeartbeats 1000000 in
theorem low_any (ao : Option Addr) (n cap : Nat) (l : List Int) (w : World) (hn : n = l.length) (_h1 : n ≤ cap) (_h2 : cap ≤ 9223372036854775807) (h : Rd w ao l) (hl : Lim B64 l) (hM : n ≤ MaxW) (hT : Tab64 w) (hnz : vb B64 l ≠ 0) :
    Calls Tryd.prog 71 #[.slice ao n cap] w fun e w' => ∃ t : Nat, e = .returned (.int .i64 t) ∧ IsLow (vb B64 l) t ∧ t ≤ 64 * n ∧ w = w' := by
  have HN := Lib.hid hn
  have HNZ := Lib.hid hnz
  unfold MaxW at hM
  obtain ⟨b, off, rfl, hat⟩ := h.cases (by intro e; rw [e] at hnz; exact hnz rfl)
  clear hn hnz
  go_enter Tryd.func71, Tryd.ntmps71
  go_wp2
  go_loop [7] (fun ii => ∃ i : Nat, i ≤ n ∧ ii = .int .i64 i ∧ Hid (vb B64 (l.take i) = 0)) (fun ii => n - (intOf ii).toNat)
  case atStart => exact ⟨0, Nat.zero_le _, rfl, rfl⟩
  case round =>
    obtain ⟨i, hi, rfl, HV⟩ := hrel
    by_cases hlt : i < n
    · obtain ⟨x, hxe⟩ : ∃ x, x = l.getD i 0 := ⟨_, rfl⟩
      have hil : i < l.length := by rw [← HN.out]; exact hlt
      have hcx : w.cell? ⟨b, off + i, none⟩ = some (.int .u64 x) := by rw [hxe]; exact hat i hil
      have bx : 0 ≤ x ∧ x < B64 := by rw [hxe]; exact hl.getD B64_pos _
      have bx0 : 0 ≤ x := bx.1
      have bx1 : x ≤ 18446744073709551615 := by have := bx.2; unfold B64 at this; omega
      by_cases hx0 : x = 0
      · have hv : vb B64 (l.take (i + 1)) = 0 := by rw [vb_take_succ B64 hil, HV.out, ← hxe, hx0]; simp
        have HV2 := Lib.hid hv
        have hne : (x != 0) = false := by simp [hx0]
        clear hv hxe bx hx0
        go_wp2
        go_round
        case rel => exact ⟨i + 1, by omega, by go_num, HV2⟩
        case measure => simp [intOf]; omega
      · obtain ⟨c, m, hc, hm, hcall⟩ := tz64_any x w (by omega) bx1 hT
        have hlow := low_word hil hc hxe.symm HV.out hm
        have HLOW := Lib.hid hlow
        have HCALL := Lib.hid hcall
        have hne : (x != 0) = true := by simp [hx0]
        clear hlow hcall hm hxe bx hx0
        go_wp2_with (go_at_call 98; refine HCALL.out.mono ?_; rintro e w' ⟨rfl, rfl⟩)
        go_ret
        exact ⟨64 * i + c, by simp, HLOW.out, by omega, rfl⟩
    · exfalso
      have h3 : l.take i = l := List.take_of_length_le (by rw [← HN.out]; omega)
      have h4 := HV.out
      rw [h3] at h4
      exact HNZ.out h4
end Go.Proofs.YtfanhllcoaondaaDoor

namespace Go.Proofs.YtfanhllcoaondaaDoor
open Go.RowKit

theorem and_mask (x : Int) (r : Nat) (hr : r ≤ 63) (h0 : 0 ≤ x) (h1 : x < 18446744073709551616) : bits .and .u64 x (2 ^ r - 1) = x % 2 ^ r := by
  obtain ⟨n, rfl⟩ := Int.eq_ofNat_of_zero_le h0
  have h2 : (2:Nat) ^ r ≤ 2 ^ 63 := Nat.pow_le_pow_right (by decide) hr
  have h3 : 1 ≤ (2:Nat) ^ r := Nat.one_le_two_pow
  have e : (2:Int) ^ r - 1 = ((2 ^ r - 1 : Nat) : Int) := by
    rw [Int.natCast_sub h3, Int.natCast_pow]; rfl
  rw [e, bits_and_u64_nat _ _ (by omega) (by omega), Nat.and_two_pow_sub_one_eq_mod, Int.natCast_emod, Int.natCast_pow]
  rfl

/-- What the copy leaves, and its number. -/
theorem low_copy {l : List Int} {N : Nat} (hl : Lim B64 l) : ∃ l0 H, l0 = l.take N ++ (List.replicate N (0 : Int)).drop l.length ∧ l0.length = N ∧ Lim B64 l0 ∧ vb B64 l = vb B64 l0 + B64 ^ N * H := by
  refine ⟨_, vb B64 (l.drop N), rfl, ?_, (hl.take N).app ((Lim.replicate B64_pos N).drop _), ?_⟩
  · rw [List.length_append, List.length_take, List.length_drop, List.length_replicate]; omega
  · rw [vb_append, List.drop_replicate, vb_replicate, Int.mul_zero, Int.add_zero]
    rcases Nat.lt_or_ge l.length N with h | h
    · rw [List.take_of_length_le (by omega), List.drop_of_length_le (by omega)]; simp
    · exact vb_split B64 l N h

theorem low_val {l0 : List Int} {q r k : Nat} {x V H : Int} (hl : l0.length = q + 1) (hlim : Lim B64 l0) (hr : r ≤ 63) (hk : (2:Int) ^ k = B64 ^ q * 2 ^ r) (hx : x = l0.getD q 0) (hV : V = vb B64 l0 + B64 ^ (q + 1) * H) :
    vb B64 (l0.set q (x % 2 ^ r)) = V % 2 ^ k := by
  have e1 := vb_set B64 l0 q (x % 2 ^ r) (by omega)
  have e2 := vb_take_succ B64 (l := l0) (k := q) (by omega)
  rw [List.take_of_length_le (by omega), ← hx] at e2
  have h0 := vb_nonneg B64_pos (hlim.take q)
  have h1 := vb_lt B64_pos (hlim.take q)
  rw [List.length_take, Nat.min_eq_left (by omega)] at h1
  rw [← hx, e2] at e1
  obtain ⟨A, hA⟩ : ∃ A, A = vb B64 (l0.take q) := ⟨_, rfl⟩
  obtain ⟨W, hW⟩ : ∃ W, W = B64 ^ q := ⟨_, rfl⟩
  obtain ⟨P, hP⟩ : ∃ P, P = (2:Int) ^ r := ⟨_, rfl⟩
  have hP0 : 0 < P := by rw [hP]; exact pow2_pos r
  have hW0 : 0 < W := by rw [hW]; exact pow_pos' B64_pos q
  have hPB : (18446744073709551616 : Int) = 2 ^ (64 - r) * P := by rw [hP]; exact pow2_split (by omega)
  have hB : B64 ^ (q + 1) = W * 18446744073709551616 := by rw [Int.pow_succ, ← hW]; rfl
  rw [← hA, ← hW] at e1 e2 h1
  rw [← hA] at h0
  rw [← hW, ← hP] at hk
  rw [← hP] at e1 ⊢
  have hm0 := Int.emod_nonneg x (show P ≠ 0 by omega)
  have hm1 := Int.emod_lt_of_pos x hP0
  have hdm := Int.mul_ediv_add_emod x P
  have hval : vb B64 (l0.set q (x % P)) = A + W * (x % P) := by
    rw [e1]; grind
  rw [hval, hk]
  have e5 : V = (A + W * (x % P)) + (W * P) * (x / P + 2 ^ (64 - r) * H) := by
    rw [hV, e2, hB, hPB]
    grind
  have h5 : W * (x % P + 1) ≤ W * P := Int.mul_le_mul_of_nonneg_left (by omega) (Int.le_of_lt hW0)
  rw [Int.mul_add, Int.mul_one] at h5
  have h6 := Int.mul_nonneg (Int.le_of_lt hW0) hm0
  rw [e5, Int.add_mul_emod_self_left]
  exact (Int.emod_eq_of_lt (a := A + W * (x % P)) (b := W * P) (by omega) (by omega)).symm

end Go.Proofs.YtfanhllcoaondaaDoor
