/-
  Mul: Contract of nat.multiply, for every cut. Contract of nat.Mul.
  Guess: Contract of nat.guessLimb: three words divided by two.
  Reduce: Contract of nat.reduce: one step of the long division.
  DivLong: Contract of nat.divideLong.
  DivMod: Contract of nat.divide where the quotient is short. Contract of nat.DivMod where the dividend has at most 150 words: the quotient and the rest.
  Num2: Products and quotients in the words of XNum. Slices of slices that the call itself makes.
  Whole3: Contracts of package whole: difference, Shl, Text, Quo.
-/
import Derived.Test.YtfanhllcoaondaaDoorPk4
import Derived.Test.YtfanhllcoaondaaDoorPk2
import Derived.Test.YtfanhllcoaondaaDoorPk1
import Derived.StillTailTactics
import Derived.Test.YtfanhllcoaondaaDoorPk3
import Derived.OwnWalk
import Derived.Test.YtfanhllcoaondaaDoorProg
import Derived.Maps.AppendAt

namespace Go.Proofs.YtfanhllcoaondaaDoor
open Go.RowKit


set_option maxRecDepth 100000 in
set_option maxHeartbeats 4000000 in
/-- One call, what it does on shorter numbers being given; the first is not the shorter. -/
theorem multiply_step (g off no co : Nat) (lo : List Int) (aa : Option Addr) (na ca : Nat) (la : List Int) (ab : Option Addr) (nb' cb : Nat) (lb : List Int) (cut : Int) (w : World) (ih : MulAt (na + nb')) (hno : no = lo.length) (hna : na = la.length) (hnb : nb' = lb.length)
    (ho1 : no ≤ co) (ho2 : co ≤ 9223372036854775807) (hc1 : na ≤ ca) (hc2 : ca ≤ 9223372036854775807) (hd1 : nb' ≤ cb) (hd2 : cb ≤ 9223372036854775807)
    (ho : Arr w g off lo) (ha : Rd w aa la) (hb : Rd w ab lb) (hna' : la ≠ [] → ∀ b' off', aa = some ⟨b', off', none⟩ → b' ≠ g) (hnb'' : lb ≠ [] → ∀ b' off', ab = some ⟨b', off', none⟩ → b' ≠ g)
    (hla : Lim B64 la) (hlb : Lim B64 lb) (hsum : no = na + nb') (hM : no ≤ 17592186040000) (hcut : 2 ≤ cut) (hcut2 : cut ≤ 9223372036854775807) :
    Calls Tryd.prog 108 #[.slice (some ⟨g, off, none⟩) no co, .slice aa na ca, .slice ab nb' cb, .int .i64 cut] w fun e w' => e = .returned (.tuple #[]) ∧ InPl g off no (vb B64 la * vb B64 lb) w w' := by
  rcases Nat.lt_or_ge na nb' with hlt | hge
  · -- the two change places
    have hI : (na : Int) < (nb' : Int) := by omega
    rcases Int.lt_or_le (na : Int) cut with hc | hc
    · have HC := Lib.hid (multiplyRows_any g off no co lo ab nb' cb lb aa na ca la w hno hnb hna ho1 ho2 hd1 hd2 hc1 hc2 ho hb ha hnb'' hna' hlb hla (by omega))
      rw [Int.mul_comm (vb B64 lb)] at HC
      clear ih hno hna hnb ho ha hb hna' hnb'' hla hlb hsum hlt
      go_enter Tryd.func108, Tryd.ntmps108
      go_wp2_with (go_at_call 117; refine HC.out.mono ?_; rintro e w' ⟨rfl, hin⟩)
      go_end0
      exact ⟨rfl, hin⟩
    · have ih2 : MulAt (nb' + na) := by rw [Nat.add_comm]; exact ih
      have HC := Lib.hid (multiplyPieces_any g off no co lo ab nb' cb lb aa na ca la cut w ih2 hno hnb hna ho1 ho2 hd1 hd2 hc1 hc2 ho hb ha hnb'' hna' hlb hla (by omega) hM hcut hcut2 hlt (by omega))
      rw [Int.mul_comm (vb B64 lb)] at HC
      have hc' : ¬ (na : Int) < cut := by omega
      clear ih ih2 hno hna hnb ho ha hb hna' hnb'' hla hlb hsum hlt
      go_enter Tryd.func108, Tryd.ntmps108
      go_wp2_with (go_at_call 118; refine HC.out.mono ?_; rintro e w' ⟨rfl, hin⟩)
      go_end0
      exact ⟨rfl, hin⟩
  · have hI : ¬ (na : Int) < (nb' : Int) := by omega
    rcases Int.lt_or_le (nb' : Int) cut with hc | hc
    · have HC := Lib.hid (multiplyRows_any g off no co lo aa na ca la ab nb' cb lb w hno hna hnb ho1 ho2 hc1 hc2 hd1 hd2 ho ha hb hna' hnb'' hla hlb hsum)
      clear ih hno hna hnb ho ha hb hna' hnb'' hla hlb hsum hge
      go_enter Tryd.func108, Tryd.ntmps108
      go_wp2_with (go_at_call 117; refine HC.out.mono ?_; rintro e w' ⟨rfl, hin⟩)
      go_end0
      exact ⟨rfl, hin⟩
    · have hc' : ¬ (nb' : Int) < cut := by omega
      rcases Nat.lt_or_ge nb' na with hl2 | hl2
      · have HC := Lib.hid (multiplyPieces_any g off no co lo aa na ca la ab nb' cb lb cut w ih hno hna hnb ho1 ho2 hc1 hc2 hd1 hd2 ho ha hb hna' hnb'' hla hlb hsum hM hcut hcut2 hl2 (by omega))
        have hl2I : (nb' : Int) < (na : Int) := by omega
        clear ih hno hna hnb ho ha hb hna' hnb'' hla hlb hsum hge hl2
        go_enter Tryd.func108, Tryd.ntmps108
        go_wp2_with (go_at_call 118; refine HC.out.mono ?_; rintro e w' ⟨rfl, hin⟩)
        go_end0
        exact ⟨rfl, hin⟩
      · obtain rfl : na = nb' := by omega
        have HC := Lib.hid (multiplyHalves_any g off no co lo aa na ca la ab cb lb cut w ih hno hna hnb ho1 ho2 hc1 hc2 hd1 hd2 ho ha hb hna' hnb'' hla hlb hsum hM hcut hcut2 (by omega))
        clear ih hno hna hnb ho ha hb hna' hnb'' hla hlb hsum hge hl2
        go_enter Tryd.func108, Tryd.ntmps108
        go_wp2_with (go_at_call 119; refine HC.out.mono ?_; rintro e w' ⟨rfl, hin⟩)
        go_end0
        exact ⟨rfl, hin⟩

/-- For numbers of every length. -/
theorem multiply_all : ∀ S, MulAt S := by
  intro S
  induction S with
  | zero => intro g off no co lo aa na ca la ab nb' cb lb cut w h; exact absurd h (Nat.not_lt_zero _)
  | succ S ih =>
    intro g off no co lo aa na ca la ab nb' cb lb cut w h hno hna hnb ho1 ho2 hc1 hc2 hd1 hd2 ho ha hb hna' hnb'' hla hlb hsum hM hcut hcut2
    refine multiply_step g off no co lo aa na ca la ab nb' cb lb cut w ?_ hno hna hnb ho1 ho2 hc1 hc2 hd1 hd2 ho ha hb hna' hnb'' hla hlb hsum hM hcut hcut2
    intro g off no co lo aa na' ca la ab nb2 cb lb cut w h'
    exact ih g off no co lo aa na' ca la ab nb2 cb lb cut w (by omega)


set_option maxRecDepth 100000 in
set_option maxHeartbeats 1000000 in
theorem mul_any (cut : Int) (aa : Option Addr) (na ca : Nat) (la : List Int) (ab : Option Addr) (nb' cb : Nat) (lb : List Int) (w : World) (hna : na = la.length) (hnb : nb' = lb.length)
    (hc1 : na ≤ ca) (hc2 : ca ≤ 9223372036854775807) (hd1 : nb' ≤ cb) (hd2 : cb ≤ 9223372036854775807) (ha : Rd w aa la) (hb : Rd w ab lb) (hla : Lim B64 la) (hlb : Lim B64 lb) (hM : na + nb' ≤ 17592186040000) (hcut2 : cut ≤ 9223372036854775807) :
    Calls Tryd.prog 94 #[.int .i64 cut, .slice aa na ca, .slice ab nb' cb] w fun e w' => RetNum w (vb B64 la * vb B64 lb) e w' := by
  have ta := tlen_le la
  have tb := tlen_le lb
  have HTA := Lib.hid (trim_any aa na ca la w hna hc1 hc2 ha)
  have HTB := Lib.hid (trim_any ab nb' cb lb w hnb hd1 hd2 hb)
  obtain ⟨m, hm⟩ : ∃ m, m = tlen la := ⟨_, rfl⟩
  obtain ⟨n, hn⟩ : ∃ n, n = tlen lb := ⟨_, rfl⟩
  rw [← hm] at HTA
  rw [← hn] at HTB
  have hmc : m ≤ ca := by omega
  have hnc : n ≤ cb := by omega
  obtain ⟨N, hN⟩ : ∃ N, m + n = N := ⟨_, rfl⟩
  have hNI : (m : Int) + (n : Int) = (N : Int) := by omega
  have hNM : N ≤ MaxW := by unfold MaxW; omega
  have hN2 : N ≤ 17592186040000 := by omega
  obtain ⟨ct, hct⟩ : ∃ ct, max cut 2 = ct := ⟨_, rfl⟩
  have hct1 : 2 ≤ ct := by omega
  have hct2 : ct ≤ 9223372036854775807 := by omega
  have hra := ha.take (tlen la)
  have hrb := hb.take (tlen lb)
  have hma : m = (tr la).length := by rw [tr_length]; exact hm
  have hnb2 : n = (tr lb).length := by rw [tr_length]; exact hn
  have HMA := Lib.hid hma
  have HNB := Lib.hid hnb2
  have HN := Lib.hid hN
  clear hna hnb ha hb hma hnb2 hm hn hN ta tb
  go_enter Tryd.func94, Tryd.ntmps94
  go_wp2_with fail
  refine HTA.out.mono ?_
  rintro e w' ⟨rfl, rfl⟩
  go_wp2_with fail
  refine HTB.out.mono ?_
  rintro e w' ⟨rfl, rfl⟩
  go_wp2_with (at_make; refine wpList_make_words w rfl (.tmp 16) (.tmp 16) 26 rfl Tryd.underlying26 info_u64 _ _ N rfl rfl (by omega) (by omega) hNM ?_; intro w1 hw1 hb1 hs1)
  have harr := hw1.arr.1
  refine (multiply_all (m + n + 1) w.heap.size 0 N N (List.replicate N 0) aa m ca (tr la) ab n cb (tr lb) ct w1 (by omega) (by simp) HMA.out HNB.out (Nat.le_refl _) (by omega) hmc hc2 hnc hd2 harr (hra.below hb1) (hrb.below hb1) ?_ ?_ (hla.take _) (hlb.take _) HN.out.symm hN2 hct1 hct2).mono ?_
  · intro hne b' off' e
    subst e
    have h1 := hra.at'.lt hne
    omega
  · intro hne b' off' e
    subst e
    have h1 := hrb.at'.lt hne
    omega
  · rintro e w2 ⟨rfl, lz, hlz, hlimz, Z, hvz, onz⟩
    rw [vb_tr, vb_tr] at hvz
    have hOz := hw1.only onz Z (by rw [hlz, List.length_replicate])
    have hb2 : Below w.heap.size w w2 := hb1.trans (onz.below (Nat.le_refl _) (by omega))
    have HLZ := Lib.hid hlz
    have HVZ := Lib.hid hvz
    have htl := tlen_le lz
    rw [hlz] at htl
    clear hlz hvz
    go_wp2_with (go_at_call 83; refine (trim_any (some ⟨w.heap.size, 0, none⟩) N N lz w2 HLZ.out.symm (Nat.le_refl _) (by omega) (Rd.of_at Z.at')).mono ?_; rintro e w' ⟨rfl, rfl⟩)
    go_ret
    exact ⟨_, tr lz, rfl, hOz.take (tlen lz) htl, can_tr hlimz, by rw [vb_tr]; exact HVZ.out, hb2⟩

end Go.Proofs.YtfanhllcoaondaaDoor

namespace Go.Proofs.YtfanhllcoaondaaDoor
open Go.RowKit

/-- What nat.guessLimb returns: the quotient of U by V, but no more than a word holds. -/
def RetGuess (U V : Int) (w : World) (e : Ending) (w' : World) : Prop :=
  ∃ G : Int, e = .returned (.int .u64 G) ∧ 0 ≤ G ∧ G ≤ 18446744073709551615 ∧ G * V ≤ U ∧ (G = 18446744073709551615 ∨ U < (G + 1) * V) ∧ Below w.heap.size w w'

theorem guess_ok {a2 a1 a0 b1 b0 G R o : Int} (h : a2 * 18446744073709551616 + a1 = G * b1 + R + o * 18446744073709551616) (hle : G * b0 ≤ (R + o * 18446744073709551616) * 18446744073709551616 + a0) :
    G * (b1 * 18446744073709551616 + b0) ≤ (a2 * 18446744073709551616 + a1) * 18446744073709551616 + a0 := by
  rw [Int.mul_add, ← Int.mul_assoc, h]
  generalize G * b1 = p at *
  generalize G * b0 = q at *
  omega
theorem guess_more {a2 a1 a0 b1 b0 G R : Int} (h : a2 * 18446744073709551616 + a1 = G * b1 + R) (hgt : R * 18446744073709551616 + a0 < G * b0) :
    (a2 * 18446744073709551616 + a1) * 18446744073709551616 + a0 < ((G - 1) + 1) * (b1 * 18446744073709551616 + b0) := by
  rw [Int.sub_add_cancel, Int.mul_add, ← Int.mul_assoc, h]
  generalize G * b1 = p at *
  generalize G * b0 = q at *
  omega

set_option maxRecDepth 100000 in
set_option maxHeartbeats 4000000 in
/-- The loop, from any state that fits. -/
theorem guess_first {a2 a1 b1 : Int} (h0 : 0 ≤ a2) (h1 : 0 ≤ a1) (h1' : a1 ≤ 18446744073709551615) (hlt : a2 < b1) :
    0 ≤ (a2 * 18446744073709551616 + a1) / b1 ∧ (a2 * 18446744073709551616 + a1) / b1 ≤ 18446744073709551615 ∧ 0 ≤ (a2 * 18446744073709551616 + a1) % b1 ∧ (a2 * 18446744073709551616 + a1) % b1 < b1 ∧ a2 * 18446744073709551616 + a1 = (a2 * 18446744073709551616 + a1) / b1 * b1 + (a2 * 18446744073709551616 + a1) % b1 := by
  have e := Int.mul_ediv_add_emod (a2 * 18446744073709551616 + a1) b1
  have hb : 0 < b1 := by omega
  refine ⟨Int.ediv_nonneg (by omega) (by omega), ?_, Int.emod_nonneg _ (by omega), Int.emod_lt_of_pos _ hb, by rw [Int.mul_comm] at e; omega⟩
  have : (a2 * 18446744073709551616 + a1) / b1 < 18446744073709551616 := Int.ediv_lt_of_lt_mul hb (by omega)
  omega

set_option maxRecDepth 100000 in
set_option maxHeartbeats 4000000 in
theorem guess_lt (a2 a1 a0 b1 b0 : Int) (w : World) (p2 : 0 ≤ a2) (p1 : 0 ≤ a1) (p1' : a1 ≤ 18446744073709551615) (p0 : 0 ≤ a0) (p0' : a0 ≤ 18446744073709551615) (q1' : b1 ≤ 18446744073709551615) (q0 : 0 ≤ b0) (q0' : b0 ≤ 18446744073709551615) (hlt : a2 < b1) :
    Calls Tryd.prog 123 #[.int .u64 a2, .int .u64 a1, .int .u64 a0, .int .u64 b1, .int .u64 b0] w fun e w' => RetGuess ((a2 * 18446744073709551616 + a1) * 18446744073709551616 + a0) (b1 * 18446744073709551616 + b0) w e w' := by
  have HD := div64_any a2 a1 b1 w p2 p1 p1' (by omega) q1' hlt
  obtain ⟨f1, f2, f3, f4, f5⟩ := guess_first p2 p1 p1' hlt
  obtain ⟨G0, hG0⟩ : ∃ G0, G0 = (a2 * 18446744073709551616 + a1) / b1 := ⟨_, rfl⟩
  obtain ⟨R0, hR0⟩ : ∃ R0, R0 = (a2 * 18446744073709551616 + a1) % b1 := ⟨_, rfl⟩
  rw [← hG0, ← hR0] at HD f5
  rw [← hG0] at f1 f2
  rw [← hR0] at f3 f4
  have HD' := Lib.hid HD
  have hfirst : (a2 * 18446744073709551616 + a1) * 18446744073709551616 + a0 < (G0 + 1) * (b1 * 18446744073709551616 + b0) := by
    rw [Int.add_mul G0 1, Int.one_mul, Int.mul_add G0, ← Int.mul_assoc, f5]
    have := Int.mul_nonneg f1 q0
    generalize G0 * b1 = p at *
    generalize G0 * b0 = q at *
    omega
  have F5 := Lib.hid f5
  have FF := Lib.hid hfirst
  clear HD hG0 hR0 f5 hfirst
  go_enter Tryd.func123, Tryd.ntmps123
  go_wp2_with fail
  refine HD'.out.mono ?_
  rintro e w1 ⟨rfl, hb1⟩
  go_wp2_with fail
  go_loopw [11, 12, 13] (fun vg vr vo wr => ∃ (G R o : Int), vg = .int .u64 G ∧ vr = .int .u64 R ∧ vo = .int .u64 o ∧ 0 ≤ G ∧ G ≤ 18446744073709551615 ∧ 0 ≤ R ∧ R ≤ 18446744073709551615 ∧ 0 ≤ o ∧ o ≤ 1 ∧ Hid (a2 * 18446744073709551616 + a1 = G * b1 + R + o * 18446744073709551616) ∧ Hid (G = 18446744073709551615 ∨ (a2 * 18446744073709551616 + a1) * 18446744073709551616 + a0 < (G + 1) * (b1 * 18446744073709551616 + b0)) ∧ Below w.heap.size w wr)
    (fun vg _ _ _ => (intOf vg).toNat)
  case atStart => exact ⟨G0, R0, 0, rfl, rfl, rfl, f1, f2, f3, by omega, Int.le_refl _, by decide, by show _ = _; have := F5.out; omega, Or.inr FF.out, hb1⟩
  case round =>
    obtain ⟨G, R, o, rfl, rfl, rfl, g0, g1, r0, r1, o0, o1, HI, HU, hb⟩ := hrel
    by_cases ho : o = 0
    · subst ho
      have hoe : ((0 : Int) == 0) = true := rfl
      have HMU := Lib.hid (mul64_any G b0 wr g0 g1 q0 q0')
      have hpp := word_prod g0 g1 q0 q0'
      obtain ⟨p, hp⟩ : ∃ p, p = G * b0 := ⟨_, rfl⟩
      rw [← hp] at HMU hpp
      obtain ⟨hi, hhi⟩ : ∃ hi, hi = p / 18446744073709551616 := ⟨_, rfl⟩
      obtain ⟨lw, hlw⟩ : ∃ lw, lw = p % 18446744073709551616 := ⟨_, rfl⟩
      rw [← hhi, ← hlw] at HMU
      have hsum : p = hi * 18446744073709551616 + lw := by omega
      have hlw0 : 0 ≤ lw := by omega
      have hlw1 : lw ≤ 18446744073709551615 := by omega
      have hhi0 : 0 ≤ hi := by omega
      have hhi1 : hi ≤ 18446744073709551615 := by omega
      have hI0 : a2 * 18446744073709551616 + a1 = G * b1 + R := by have := HI.out; omega
      by_cases hc : p ≤ R * 18446744073709551616 + a0
      · have hok := guess_ok (o := 0) HI.out (show G * b0 ≤ (R + 0 * 18446744073709551616) * 18446744073709551616 + a0 by rw [← hp]; omega)
        have HOK := Lib.hid hok
        by_cases hc1 : hi < R
        · clear hok hp hhi hlw hsum hpp hI0 hc
          go_wp2_with (go_at_call 128; refine HMU.out.mono ?_; rintro e w' ⟨rfl, rfl⟩)
          go_ret
          exact ⟨G, rfl, g0, g1, HOK.out, HU.out, hb⟩
        · have hc2 : hi = R := by omega
          have hc3 : lw ≤ a0 := by omega
          subst hc2
          have hself : (hi == hi) = true := by simp
          clear hok hp hhi hlw hsum hpp hI0 hc hc1
          go_wp2_with (go_at_call 128; refine HMU.out.mono ?_; rintro e w' ⟨rfl, rfl⟩)
          go_ret
          exact ⟨G, rfl, g0, g1, HOK.out, HU.out, hb⟩
      · have hmore := guess_more hI0 (show R * 18446744073709551616 + a0 < G * b0 by rw [← hp]; omega)
        have hG1 : 1 ≤ G := by
          rcases Int.lt_or_le G 1 with h | h
          · have : G = 0 := by omega
            rw [this, Int.zero_mul] at hp
            omega
          · exact h
        have bR : 0 ≤ R ∧ R < B64 := by unfold B64; omega
        have bb1 : 0 ≤ b1 ∧ b1 < B64 := by unfold B64; omega
        have hadd := add64_run R b1 0 bR bb1 ⟨Int.le_refl 0, by decide⟩
        have cb := hi64_carry bR bb1 ⟨Int.le_refl 0, by decide⟩
        have lh := lohi (R + b1)
        have ll := lo64_lim (R + b1)
        rw [Int.add_zero] at hadd cb
        obtain ⟨o2, ho2⟩ : ∃ o2, o2 = hi64 (R + b1) := ⟨_, rfl⟩
        obtain ⟨R2, hR2⟩ : ∃ R2, R2 = lo64 (R + b1) := ⟨_, rfl⟩
        rw [← ho2] at hadd cb lh
        rw [← hR2] at hadd lh ll
        have hI2 : a2 * 18446744073709551616 + a1 = (G - 1) * b1 + R2 + o2 * 18446744073709551616 := by
          rw [hI0, Int.sub_mul, Int.one_mul]
          unfold B64 at lh
          omega
        have HI2 := Lib.hid hI2
        have HMORE := Lib.hid hmore
        have HLL := Lib.hid ll
        have HCB := Lib.hid cb
        by_cases hc1 : R < hi
        · have hc2 : ¬ hi < R := by omega
          have hc3 : (hi == R) = false := by rw [beq_eq_false_iff_ne]; omega
          clear hmore hp hhi hlw hsum hpp hI0 hc bR bb1 cb lh ll ho2 hR2 hI2
          go_wp2_with (go_at_call 128; refine HMU.out.mono ?_; rintro e w' ⟨rfl, rfl⟩)
          go_roundw
          case rel => exact ⟨G - 1, R2, o2, by go_num, rfl, rfl, by omega, by omega, HLL.out.1, by have := HLL.out.2; unfold B64 at this; omega, HCB.out.1, HCB.out.2, HI2.out, Or.inr HMORE.out, hb⟩
          case measure => simp [intOf]; omega
        · have hc2 : hi = R := by omega
          have hc3 : ¬ lw ≤ a0 := by omega
          subst hc2
          have hself : (hi == hi) = true := by simp
          clear hmore hp hhi hlw hsum hpp hI0 hc bR bb1 cb lh ll ho2 hR2 hI2 hc1
          go_wp2_with (go_at_call 128; refine HMU.out.mono ?_; rintro e w' ⟨rfl, rfl⟩)
          go_roundw
          case rel => exact ⟨G - 1, R2, o2, by go_num, rfl, rfl, by omega, by omega, HLL.out.1, by have := HLL.out.2; unfold B64 at this; omega, HCB.out.1, HCB.out.2, HI2.out, Or.inr HMORE.out, hb⟩
          case measure => simp [intOf]; omega
    · have hoe : (o == 0) = false := by rw [beq_eq_false_iff_ne]; exact ho
      have hok := guess_ok (b0 := b0) (a0 := a0) HI.out (by
        have hpp := word_prod g0 g1 q0 q0'
        have : o = 1 := by omega
        subst this
        generalize G * b0 = p at *
        omega)
      have HOK := Lib.hid hok
      clear hok
      go_wp2
      go_ret
      exact ⟨G, rfl, g0, g1, HOK.out, HU.out, hb⟩

set_option maxRecDepth 100000 in
set_option maxHeartbeats 4000000 in
theorem guess_eq (a1 a0 b1 b0 : Int) (w : World) (p1 : 0 ≤ a1) (p1' : a1 ≤ 18446744073709551615) (p0 : 0 ≤ a0) (p0' : a0 ≤ 18446744073709551615) (q1 : 0 ≤ b1) (q1' : b1 ≤ 18446744073709551615) (q0 : 0 ≤ b0) (q0' : b0 ≤ 18446744073709551615) :
    Calls Tryd.prog 123 #[.int .u64 b1, .int .u64 a1, .int .u64 a0, .int .u64 b1, .int .u64 b0] w fun e w' => RetGuess ((b1 * 18446744073709551616 + a1) * 18446744073709551616 + a0) (b1 * 18446744073709551616 + b0) w e w' := by
  have bA : 0 ≤ a1 ∧ a1 < B64 := by unfold B64; omega
  have bb : 0 ≤ b1 ∧ b1 < B64 := by unfold B64; omega
  have hadd0 := add64_run a1 b1 0 bA bb ⟨Int.le_refl 0, by decide⟩
  have cb0 := hi64_carry bA bb ⟨Int.le_refl 0, by decide⟩
  have lh0 := lohi (a1 + b1)
  have ll0 := lo64_lim (a1 + b1)
  rw [Int.add_zero] at hadd0 cb0
  obtain ⟨o5, ho5⟩ : ∃ o5, o5 = hi64 (a1 + b1) := ⟨_, rfl⟩
  obtain ⟨R5, hR5⟩ : ∃ R5, R5 = lo64 (a1 + b1) := ⟨_, rfl⟩
  rw [← ho5] at hadd0 cb0 lh0
  rw [← hR5] at hadd0 lh0 ll0
  obtain ⟨a2, ha2⟩ : ∃ a2, a2 = b1 := ⟨_, rfl⟩
  have F5 : Hid (a2 * 18446744073709551616 + a1 = 18446744073709551615 * b1 + R5 + o5 * 18446744073709551616) := by
    show _ = _
    unfold B64 at lh0
    omega
  have ll1 : R5 ≤ 18446744073709551615 := by have := ll0.2; unfold B64 at this; omega
  obtain ⟨ll2, _⟩ := ll0
  obtain ⟨cb1, cb2⟩ := cb0
  have HA2 := Lib.hid ha2
  have hnlt : ¬ b1 < b1 := by omega
  have goal2 : ∀ e w', RetGuess ((a2 * 18446744073709551616 + a1) * 18446744073709551616 + a0) (b1 * 18446744073709551616 + b0) w e w' → RetGuess ((b1 * 18446744073709551616 + a1) * 18446744073709551616 + a0) (b1 * 18446744073709551616 + b0) w e w' := by
    intro e w' h
    rwa [ha2] at h
  refine Calls.mono (R := fun e w' => RetGuess ((a2 * 18446744073709551616 + a1) * 18446744073709551616 + a0) (b1 * 18446744073709551616 + b0) w e w') ?_ goal2
  clear goal2 ha2 lh0 ho5 hR5 bA bb
  go_enter Tryd.func123, Tryd.ntmps123
  go_wp2_with fail
  go_loopw [11, 12, 13] (fun vg vr vo wr => ∃ (G R o : Int), vg = .int .u64 G ∧ vr = .int .u64 R ∧ vo = .int .u64 o ∧ 0 ≤ G ∧ G ≤ 18446744073709551615 ∧ 0 ≤ R ∧ R ≤ 18446744073709551615 ∧ 0 ≤ o ∧ o ≤ 1 ∧ Hid (a2 * 18446744073709551616 + a1 = G * b1 + R + o * 18446744073709551616) ∧ Hid (G = 18446744073709551615 ∨ (a2 * 18446744073709551616 + a1) * 18446744073709551616 + a0 < (G + 1) * (b1 * 18446744073709551616 + b0)) ∧ Below w.heap.size w wr)
    (fun vg _ _ _ => (intOf vg).toNat)
  case atStart => exact ⟨18446744073709551615, R5, o5, rfl, rfl, rfl, by decide, Int.le_refl _, ll2, ll1, cb1, cb2, F5, Or.inl rfl, Below.refl _ _⟩
  case round =>
    obtain ⟨G, R, o, rfl, rfl, rfl, g0, g1, r0, r1, o0, o1, HI, HU, hb⟩ := hrel
    by_cases ho : o = 0
    · subst ho
      have hoe : ((0 : Int) == 0) = true := rfl
      have HMU := Lib.hid (mul64_any G b0 wr g0 g1 q0 q0')
      have hpp := word_prod g0 g1 q0 q0'
      obtain ⟨p, hp⟩ : ∃ p, p = G * b0 := ⟨_, rfl⟩
      rw [← hp] at HMU hpp
      obtain ⟨hi, hhi⟩ : ∃ hi, hi = p / 18446744073709551616 := ⟨_, rfl⟩
      obtain ⟨lw, hlw⟩ : ∃ lw, lw = p % 18446744073709551616 := ⟨_, rfl⟩
      rw [← hhi, ← hlw] at HMU
      have hsum : p = hi * 18446744073709551616 + lw := by omega
      have hlw0 : 0 ≤ lw := by omega
      have hlw1 : lw ≤ 18446744073709551615 := by omega
      have hhi0 : 0 ≤ hi := by omega
      have hhi1 : hi ≤ 18446744073709551615 := by omega
      have hI0 : a2 * 18446744073709551616 + a1 = G * b1 + R := by have := HI.out; omega
      by_cases hc : p ≤ R * 18446744073709551616 + a0
      · have hok := guess_ok (o := 0) HI.out (show G * b0 ≤ (R + 0 * 18446744073709551616) * 18446744073709551616 + a0 by rw [← hp]; omega)
        have HOK := Lib.hid hok
        by_cases hc1 : hi < R
        · clear hok hp hhi hlw hsum hpp hI0 hc
          go_wp2_with (go_at_call 128; refine HMU.out.mono ?_; rintro e w' ⟨rfl, rfl⟩)
          go_ret
          exact ⟨G, rfl, g0, g1, HOK.out, HU.out, hb⟩
        · have hc2 : hi = R := by omega
          have hc3 : lw ≤ a0 := by omega
          subst hc2
          have hself : (hi == hi) = true := by simp
          clear hok hp hhi hlw hsum hpp hI0 hc hc1
          go_wp2_with (go_at_call 128; refine HMU.out.mono ?_; rintro e w' ⟨rfl, rfl⟩)
          go_ret
          exact ⟨G, rfl, g0, g1, HOK.out, HU.out, hb⟩
      · have hmore := guess_more hI0 (show R * 18446744073709551616 + a0 < G * b0 by rw [← hp]; omega)
        have hG1 : 1 ≤ G := by
          rcases Int.lt_or_le G 1 with h | h
          · have : G = 0 := by omega
            rw [this, Int.zero_mul] at hp
            omega
          · exact h
        have bR : 0 ≤ R ∧ R < B64 := by unfold B64; omega
        have bb1 : 0 ≤ b1 ∧ b1 < B64 := by unfold B64; omega
        have hadd := add64_run R b1 0 bR bb1 ⟨Int.le_refl 0, by decide⟩
        have cb := hi64_carry bR bb1 ⟨Int.le_refl 0, by decide⟩
        have lh := lohi (R + b1)
        have ll := lo64_lim (R + b1)
        rw [Int.add_zero] at hadd cb
        obtain ⟨o2, ho2⟩ : ∃ o2, o2 = hi64 (R + b1) := ⟨_, rfl⟩
        obtain ⟨R2, hR2⟩ : ∃ R2, R2 = lo64 (R + b1) := ⟨_, rfl⟩
        rw [← ho2] at hadd cb lh
        rw [← hR2] at hadd lh ll
        have hI2 : a2 * 18446744073709551616 + a1 = (G - 1) * b1 + R2 + o2 * 18446744073709551616 := by
          rw [hI0, Int.sub_mul, Int.one_mul]
          unfold B64 at lh
          omega
        have HI2 := Lib.hid hI2
        have HMORE := Lib.hid hmore
        have HLL := Lib.hid ll
        have HCB := Lib.hid cb
        by_cases hc1 : R < hi
        · have hc2 : ¬ hi < R := by omega
          have hc3 : (hi == R) = false := by rw [beq_eq_false_iff_ne]; omega
          clear hmore hp hhi hlw hsum hpp hI0 hc bR bb1 cb lh ll ho2 hR2 hI2
          go_wp2_with (go_at_call 128; refine HMU.out.mono ?_; rintro e w' ⟨rfl, rfl⟩)
          go_roundw
          case rel => exact ⟨G - 1, R2, o2, by go_num, rfl, rfl, by omega, by omega, HLL.out.1, by have := HLL.out.2; unfold B64 at this; omega, HCB.out.1, HCB.out.2, HI2.out, Or.inr HMORE.out, hb⟩
          case measure => simp [intOf]; omega
        · have hc2 : hi = R := by omega
          have hc3 : ¬ lw ≤ a0 := by omega
          subst hc2
          have hself : (hi == hi) = true := by simp
          clear hmore hp hhi hlw hsum hpp hI0 hc bR bb1 cb lh ll ho2 hR2 hI2 hc1
          go_wp2_with (go_at_call 128; refine HMU.out.mono ?_; rintro e w' ⟨rfl, rfl⟩)
          go_roundw
          case rel => exact ⟨G - 1, R2, o2, by go_num, rfl, rfl, by omega, by omega, HLL.out.1, by have := HLL.out.2; unfold B64 at this; omega, HCB.out.1, HCB.out.2, HI2.out, Or.inr HMORE.out, hb⟩
          case measure => simp [intOf]; omega
    · have hoe : (o == 0) = false := by rw [beq_eq_false_iff_ne]; exact ho
      have hok := guess_ok (b0 := b0) (a0 := a0) HI.out (by
        have hpp := word_prod g0 g1 q0 q0'
        have : o = 1 := by omega
        subst this
        generalize G * b0 = p at *
        omega)
      have HOK := Lib.hid hok
      clear hok
      go_wp2
      go_ret
      exact ⟨G, rfl, g0, g1, HOK.out, HU.out, hb⟩
end Go.Proofs.YtfanhllcoaondaaDoor

namespace Go.Proofs.YtfanhllcoaondaaDoor
open Go.RowKit

theorem guess_any (a2 a1 a0 b1 b0 : Int) (w : World) (p2 : 0 ≤ a2) (p1 : 0 ≤ a1) (p1' : a1 ≤ 18446744073709551615) (p0 : 0 ≤ a0) (p0' : a0 ≤ 18446744073709551615) (q1 : 0 ≤ b1) (q1' : b1 ≤ 18446744073709551615) (q0 : 0 ≤ b0) (q0' : b0 ≤ 18446744073709551615) (hle : a2 ≤ b1) :
    Calls Tryd.prog 123 #[.int .u64 a2, .int .u64 a1, .int .u64 a0, .int .u64 b1, .int .u64 b0] w fun e w' => RetGuess ((a2 * 18446744073709551616 + a1) * 18446744073709551616 + a0) (b1 * 18446744073709551616 + b0) w e w' := by
  rcases Int.lt_or_le a2 b1 with h | h
  · exact guess_lt a2 a1 a0 b1 b0 w p2 p1 p1' p0 p0' q1' q0 q0' h
  · obtain rfl : a2 = b1 := by omega
    exact guess_eq a1 a0 a2 b0 w p1 p1' p0 p0' q1 q1' q0 q0'

/-- What nat.reduce leaves. -/
def RetRed (g off n : Nat) (a b : Int) (w : World) (e : Ending) (w' : World) : Prop := e = .returned (.int .u64 (a / b)) ∧ InPl g off (n + 1) (a % b) w w'

set_option maxRecDepth 100000 in
set_option maxHeartbeats 8000000 in
theorem reduce_any (g off no co : Nat) (la : List Int) (ab : Option Addr) (n cb : Nat) (lb : List Int) (w : World) (hno : no = n + 1) (hna : no = la.length) (hnb : n = lb.length) (ho1 : no ≤ co) (ho2 : co ≤ 9223372036854775807) (hd1 : n ≤ cb) (hd2 : cb ≤ 9223372036854775807)
    (ha : Arr w g off la) (hb : Rd w ab lb) (hne : lb ≠ [] → ∀ b' off', ab = some ⟨b', off', none⟩ → b' ≠ g) (hla : Lim B64 la) (hlb : Lim B64 lb) (hn2 : 2 ≤ n) (htop : 9223372036854775808 ≤ lb.getD (n - 1) 0) (hlt : vb B64 la < 18446744073709551616 * vb B64 lb) :
    Calls Tryd.prog 114 #[.slice (some ⟨g, off, none⟩) no co, .slice ab n cb] w fun e w' => RetRed g off n (vb B64 la) (vb B64 lb) w e w' := by
  obtain ⟨m, rfl⟩ : ∃ m, n = m + 2 := ⟨n - 2, by omega⟩
  obtain ⟨n, hn⟩ : ∃ n, m + 2 = n := ⟨_, rfl⟩
  obtain ⟨m1, hm1⟩ : ∃ m1, m + 1 = m1 := ⟨_, rfl⟩
  have hlb0 : lb ≠ [] := by intro e; rw [e] at hnb; simp at hnb
  obtain ⟨b2, o2, rfl, hat⟩ := hb.cases hlb0
  have hne' := hne hlb0 b2 o2 rfl
  have t3 := top_three (l := la) (n := m) (by omega)
  have t2 := top_two (l := lb) (n := m) (by omega)
  rw [hn, hm1] at t3
  rw [hm1] at t2
  rw [show m + 2 - 1 = m1 by omega] at htop
  rw [hn] at hno hnb hd1 hn2 ⊢
  obtain ⟨a2, ha2⟩ : ∃ a2, a2 = la.getD n 0 := ⟨_, rfl⟩
  obtain ⟨a1, ha1⟩ : ∃ a1, a1 = la.getD m1 0 := ⟨_, rfl⟩
  obtain ⟨a0, ha0⟩ : ∃ a0, a0 = la.getD m 0 := ⟨_, rfl⟩
  obtain ⟨b1, hb1⟩ : ∃ b1, b1 = lb.getD m1 0 := ⟨_, rfl⟩
  obtain ⟨b0, hb0⟩ : ∃ b0, b0 = lb.getD m 0 := ⟨_, rfl⟩
  have ra2 : 0 ≤ a2 ∧ a2 < B64 := by rw [ha2]; exact hla.getD B64_pos _
  have ra1 : 0 ≤ a1 ∧ a1 < B64 := by rw [ha1]; exact hla.getD B64_pos _
  have ra0 : 0 ≤ a0 ∧ a0 < B64 := by rw [ha0]; exact hla.getD B64_pos _
  have rb1 : 0 ≤ b1 ∧ b1 < B64 := by rw [hb1]; exact hlb.getD B64_pos _
  have rb0 : 0 ≤ b0 ∧ b0 < B64 := by rw [hb0]; exact hlb.getD B64_pos _
  rw [← ha2, ← ha1, ← ha0] at t3
  rw [← hb1, ← hb0] at t2
  rw [← hb1] at htop
  unfold B64 at ra2 ra1 ra0 rb1 rb0
  have hW : (1 : Int) ≤ B64 ^ m := pow_pos' B64_pos m
  have x0 := vb_nonneg B64_pos (hla.take m)
  have x1 := vb_lt B64_pos (hla.take m)
  have y0 := vb_nonneg B64_pos (hlb.take m)
  have y1 := vb_lt B64_pos (hlb.take m)
  rw [List.length_take, Nat.min_eq_left (by omega)] at x1 y1
  have h21 : a2 ≤ b1 := red_top hW x0 y1 t3 t2 ra1.1 ra0.1 (by omega) hlt
  have ca2 : w.cell? ⟨g, off + n, none⟩ = some (.int .u64 a2) := by rw [ha2]; exact ha.at' n (by omega)
  have ca1 : w.cell? ⟨g, off + m1, none⟩ = some (.int .u64 a1) := by rw [ha1]; exact ha.at' m1 (by omega)
  have ca0 : w.cell? ⟨g, off + m, none⟩ = some (.int .u64 a0) := by rw [ha0]; exact ha.at' m (by omega)
  have cb1 : w.cell? ⟨b2, o2 + m1, none⟩ = some (.int .u64 b1) := by rw [hb1]; exact hat m1 (by omega)
  have cb0 : w.cell? ⟨b2, o2 + m, none⟩ = some (.int .u64 b0) := by rw [hb0]; exact hat m (by omega)
  have hI1 : (n : Int) - 1 = (m1 : Int) := by omega
  have hI2 : (n : Int) - 2 = (m : Int) := by omega
  have hw1 : IntKind.i64.wrap (m1 : Int) = (m1 : Int) := by rw [IntKind.wrap_i64]; omega
  have hw0 : IntKind.i64.wrap (m : Int) = (m : Int) := by rw [IntKind.wrap_i64]; omega
  have hnI : (n : Int) < (no : Int) := by omega
  have hnN : n < no := by omega
  have hm1n : m1 < n := by omega
  have hmn : m < n := by omega
  have hm1no : m1 < no := by omega
  have hmno : m < no := by omega
  have HRG := Lib.hid (fun (G : Int) (g0 : 0 ≤ G) (g1 : G ≤ 18446744073709551615) (hle : G * (b1 * 18446744073709551616 + b0) ≤ (a2 * 18446744073709551616 + a1) * 18446744073709551616 + a0) (hmore : G = 18446744073709551615 ∨ (a2 * 18446744073709551616 + a1) * 18446744073709551616 + a0 < (G + 1) * (b1 * 18446744073709551616 + b0)) => red_guess hW x0 x1 y0 y1 t3 t2 (by omega) hlt g0 g1 hle hmore)
  have HGU := Lib.hid (fun w => guess_any a2 a1 a0 b1 b0 w ra2.1 ra1.1 (by omega) ra0.1 (by omega) rb1.1 (by omega) rb0.1 (by omega) h21)
  have HNO := Lib.hid hno
  have HNA := Lib.hid hna
  have HNB := Lib.hid hnb
  have HA2 := Lib.hid ha2
  have HLT := Lib.hid hlt
  have ra20 := ra2.1
  have ra21 := ra2.2
  clear t3 t2 ha2 ha1 ha0 hb1 hb0 ra2 ra1 ra0 rb1 rb0 x0 x1 y0 y1 hW htop hlt hno hna hnb hn hm1 h21 hb hne
  go_enter Tryd.func114, Tryd.ntmps114
  go_wp2_with fail
  have hbq : Below w.heap.size w w.drew := (Below.refl _ _).drew
  go_still_tail 24, (by kernel_rfl)
  change wpList _ _ _ _ _ w.drew
  generalize w.drew = w1 at hbq ⊢
  go_wp2_with fail
  refine (HGU.out w1).mono ?_
  rintro e w2 ⟨G, rfl, g0, g1, gle, gmore, hb12⟩
  have hbw2 : Below w.heap.size w w2 := hbq.trans (hb12.mono hbq.size)
  obtain ⟨hG1, hG2⟩ := HRG.out G g0 g1 gle gmore
  have a2w := ha.below hbw2
  have b2w := hat.below hbw2
  have HG1 := Lib.hid hG1
  have HG2 := Lib.hid hG2
  have hnco : n ≤ no := by omega
  have HSP := Lib.hid (subProduct_any g off no co la (some ⟨b2, o2, none⟩) n cb lb G w2 HNA.out HNB.out ho1 ho2 hd1 hd2 a2w (Rd.of_at b2w) (fun _ b' off' e => by cases e; exact hne') hla hlb hnco g0 g1)
  clear gle gmore hG1 hG2 hb12 hbq
  go_wp2_with fail
  refine HSP.out.mono ?_
  rintro e w3 ⟨c, l, rfl, c0, c1, hl, hlim, harr, hdr, hv, hon⟩
  have hln : l.getD n 0 = a2 := by
    have h1 := congrArg (fun z => List.getD z 0 0) hdr
    simp only [getD_drop, Nat.add_zero] at h1
    rw [h1]; exact HA2.out.symm
  have hno := HNO.out
  have cn : w3.cell? ⟨g, off + n, none⟩ = some (.int .u64 a2) := by rw [← hln]; exact harr.at' n (by omega)
  have fn := harr.frozen (off + n)
  have ea : vb B64 la = vb B64 (la.take n) + B64 ^ n * a2 := by
    have h1 := vb_take_succ B64 (l := la) (k := n) (by rw [← HNA.out]; omega)
    rw [List.take_of_length_le (by rw [← HNA.out]; omega), ← HA2.out] at h1
    exact h1
  have el : ∀ x, vb B64 (l.set n x) = vb B64 (l.take n) + B64 ^ n * x := by
    intro x
    have h1 := vb_take_succ B64 (l := l.set n x) (k := n) (by rw [List.length_set]; omega)
    rw [List.take_of_length_le (by rw [List.length_set]; omega), List.take_set_of_le (Nat.le_refl _), getD_set_same (by omega)] at h1
    exact h1
  have hp := pow_pos' B64_pos n
  have t0 := vb_nonneg B64_pos (hlim.take n)
  have t1 := vb_lt B64_pos (hlim.take n)
  rw [List.length_take, Nat.min_eq_left (by omega)] at t1
  have bl := vb_lt B64_pos hlb
  rw [← HNB.out] at bl
  have hD : vb B64 la - G * vb B64 lb = vb B64 (l.take n) + B64 ^ n * (a2 - c) := by
    rw [Int.mul_sub, ea, Int.mul_comm G]
    omega
  have hlc : c < 18446744073709551616 := c1
  have HL := Lib.hid hl
  by_cases hs : a2 < c
  · have h1 : B64 ^ n * (a2 - c) ≤ B64 ^ n * (-1) := Int.mul_le_mul_of_nonneg_left (by omega) (by omega)
    have hq := red_over HG2.out (show vb B64 la < G * vb B64 lb by omega)
    obtain ⟨d, hd⟩ : ∃ d, d = a2 - c + 18446744073709551616 := ⟨_, rfl⟩
    have hwr : IntKind.u64.wrap (a2 - c) = d := by rw [IntKind.wrap_u64]; omega
    have hG1 : 1 ≤ G := by
      rcases Int.lt_or_le G 1 with h | h
      · have : G = 0 := by omega
        rw [this, Int.zero_mul] at hD
        have := vb_nonneg B64_pos hla
        omega
      · exact h
    have hd0 : 0 ≤ d ∧ d < B64 := by unfold B64; omega
    have harr2 := harr.store n d
    have hlim2 : Lim B64 (l.set n d) := hlim.set n hd0.1 hd0.2
    have b3w : At (w3.setCell ⟨g, off + n, none⟩ (.int .u64 d)) b2 o2 lb := (Only.store (lo := off) (hi := off + no) (off + n) (.int .u64 d) (by omega) (by omega)).at' (hon.at' b2w hne') hne'
    have HADD := Lib.hid (addProduct_any g off no co (l.set n d) (some ⟨b2, o2, none⟩) n cb lb 1 (w3.setCell ⟨g, off + n, none⟩ (.int .u64 d)).drew (by rw [List.length_set]; exact HL.out.symm) HNB.out ho1 ho2 hd1 hd2 (harr2.below (Below.refl _ _).drew) (Rd.of_at (b3w.below (Below.refl _ _).drew)) (fun _ b' off' e => by cases e; exact hne') hlim2 hlb hnco (by decide) (by decide))
    have cn2 : (w3.setCell ⟨g, off + n, none⟩ (.int .u64 d)).cell? ⟨g, off + n, none⟩ = some (.int .u64 d) := by
      have := harr2.at' n (by rw [List.length_set]; omega)
      rwa [getD_set_same (by omega)] at this
    have hE : vb B64 la % vb B64 lb = vb B64 (l.take n) + B64 ^ n * (a2 - c) + vb B64 lb := by rw [hq.2, ← hD]
    have hlt0 : vb B64 la < G * vb B64 lb := by omega
    have hbpos : 0 < vb B64 lb := by have h9 := HG2.out; omega
    have hE0 := Int.emod_nonneg (vb B64 la) (show vb B64 lb ≠ 0 by omega)
    have hE1 : vb B64 la % vb B64 lb < B64 ^ n := by
      have h9 := Int.emod_lt_of_pos (vb B64 la) hbpos
      omega
    have HE := Lib.hid hE
    have HE0 := Lib.hid hE0
    have HE1 := Lib.hid hE1
    have HQ := Lib.hid hq.1
    have HHD := Lib.hid hd
    have htake2 : (l.set n d).take n = l.take n := List.take_set_of_le (Nat.le_refl _)
    have HT2 := Lib.hid htake2
    clear hE hE0 hE1 hq hd hD ea el t0 t1 bl h1 hv hdr hln hl htake2 hno hlt0
    go_wp2_with fail
    go_region_with (go_at_call 125; refine HADD.out.mono ?_; rintro e w4 ⟨c3, l3, rfl, z0, z1, hl3, hlim3, harr3, hdr3, hv3, hon3⟩; have cn4 : w4.cell? ⟨g, off + n, none⟩ = some (.int .u64 d) := (by have h1 := congrArg (fun z => List.getD z 0 0) hdr3; simp only [getD_drop, Nat.add_zero] at h1; rw [getD_set_same (by rw [HL.out]; omega)] at h1; rw [← h1]; exact harr3.at' n (by omega)); have fn4 := harr3.frozen (off + n))
    all_goals
      have hp3 := vb_nonneg B64_pos (hlim3.take n)
      have hq3 := vb_lt B64_pos (hlim3.take n)
      rw [List.length_take, Nat.min_eq_left (by rw [hl3]; exact hnco)] at hq3
      rw [HT2.out, Int.mul_one] at hv3
      have hEE : vb B64 la % vb B64 lb = vb B64 (l3.take n) + B64 ^ n * (c3 + (a2 - c)) := by
        rw [HE.out, Int.mul_add]
        omega
      have hk0 : c3 + (a2 - c) = 0 := by
        have e0 := HE0.out
        have e1 := HE1.out
        rw [hEE] at e0 e1
        rcases Int.lt_trichotomy (c3 + (a2 - c)) 0 with h | h | h
        · have := Int.mul_le_mul_of_nonneg_left (show c3 + (a2 - c) ≤ -1 by omega) (Int.le_of_lt hp)
          omega
        · exact h
        · have := Int.mul_le_mul_of_nonneg_left (show 1 ≤ c3 + (a2 - c) by omega) (Int.le_of_lt hp)
          omega
      have hf : IntKind.u64.wrap (d + c3) = 0 := by
        have := HHD.out
        rw [IntKind.wrap_u64]; omega
      have hvf : vb B64 (l3.set n (IntKind.u64.wrap (d + c3))) = vb B64 la % vb B64 lb := by
        have h1 := vb_take_succ B64 (l := l3.set n (IntKind.u64.wrap (d + c3))) (k := n) (by rw [List.length_set, hl3]; omega)
        rw [List.take_of_length_le (by rw [List.length_set, hl3, HNO.out]; exact Nat.le_refl _), List.take_set_of_le (Nat.le_refl _), getD_set_same (by rw [hl3]; omega)] at h1
        rw [h1, hf, hEE, hk0]
      have hlimf : Lim B64 (l3.set n (IntKind.u64.wrap (d + c3))) := hlim3.set n (by rw [hf]; exact Int.le_refl _) (by rw [hf]; decide)
      have harrf := harr3.store n (IntKind.u64.wrap (d + c3))
      have hlf : (l3.set n (IntKind.u64.wrap (d + c3))).length = n + 1 := by rw [List.length_set, hl3, HNO.out]
      have honf : Only g off (off + no) w (w4.setCell ⟨g, off + n, none⟩ (.int .u64 (IntKind.u64.wrap (d + c3)))) :=
        (((Only.of_below hbw2 : Only g off (off + no) w w2).trans (hon.mono (Nat.le_refl _) (by omega))).trans (Only.store (off + n) _ (by omega) (by omega))).trans (((Only.of_below (Below.refl _ _).drew).trans (hon3.mono (Nat.le_refl _) (by omega))).trans (Only.store (off + n) _ (by omega) (by omega)))
      have HVF := Lib.hid hvf
      have HLF := Lib.hid hlf
      clear hvf hlf hf hk0 hEE hp3 hq3 hv3 hdr3 hl3
      go_wp2_with fail
      go_ret
      refine ⟨by rw [HQ.out]; rfl, _, HLF.out, hlimf, harrf, HVF.out, ?_⟩
      rw [← HNO.out]
      exact honf
  · have h1 : 0 ≤ B64 ^ n * (a2 - c) := Int.mul_nonneg (by omega) (by omega)
    have hq := red_right HG1.out (show G * vb B64 lb ≤ vb B64 la by omega)
    obtain ⟨d, hd⟩ : ∃ d, a2 - c = d := ⟨_, rfl⟩
    have hd0 : 0 ≤ d ∧ d < B64 := by unfold B64; omega
    have hval : vb B64 (l.set n d) = vb B64 la % vb B64 lb := by rw [hq.2, el, ← hd]; omega
    have HVAL := Lib.hid hval
    have HQ := Lib.hid hq.1
    have harr2 := harr.store n d
    have hon2 : Only g off (off + no) w3 (w3.setCell ⟨g, off + n, none⟩ (.int .u64 d)) := Only.store (off + n) _ (by omega) (by omega)
    have honw := ((Only.of_below hbw2 : Only g off (off + no) w w2).trans (hon.mono (Nat.le_refl _) (by omega))).trans hon2
    have hlim2 := hlim.set n hd0.1 hd0.2
    clear hval hq hD ea el t0 t1 bl hp h1 hv hdr hln hl hno
    go_wp2_with fail
    go_ret
    refine ⟨by rw [HQ.out]; rfl, l.set n d, by rw [List.length_set, HL.out, HNO.out], hlim2, harr2, HVAL.out, ?_⟩
    rw [← HNO.out]
    exact honw
end Go.Proofs.YtfanhllcoaondaaDoor

namespace Go.Proofs.YtfanhllcoaondaaDoor
open Go.RowKit

/-- A row of which words in the middle have been written. -/
theorem splice_mid {g off t s n : Nat} {l : List Int} {N : Int} {w w' : World} (ha : Arr w g off l) (hl : Lim B64 l) (hn : l.length = n) (ht : t + s ≤ n) (h : InPl g (off + t) s N w w') :
    ∃ l2, l2.length = n ∧ Lim B64 l2 ∧ Arr w' g off l2 ∧ l2.take t = l.take t ∧ vb B64 (l2.drop t) = N + B64 ^ s * vb B64 (l.drop (t + s)) ∧ Only g off (off + n) w w' := by
  obtain ⟨l', hl', hlim', harr', hv', hon'⟩ := h
  have hlt : (l.take t).length = t := by rw [List.length_take]; omega
  have h1 := hon'.arr (ha.take t) (Or.inl (by rw [hlt]; exact Nat.le_refl _))
  have h2 := hon'.arr (ha.drop (t + s)) (Or.inr (by omega))
  have h3 := h1.append (by rw [hlt]; exact harr')
  have h4 := h3.append (m := l.drop (t + s)) (by rw [List.length_append, hlt, hl']; exact h2)
  refine ⟨l.take t ++ l' ++ l.drop (t + s), by rw [List.length_append, List.length_append, hlt, hl', List.length_drop]; omega, ((hl.take t).app hlim').app (hl.drop _), h4, ?_, ?_, hon'.mono (by omega) (by omega)⟩
  · rw [List.append_assoc, List.take_append_of_le_length (by omega), List.take_of_length_le (by omega)]
  · rw [List.append_assoc, List.drop_append_of_le_length (by omega), List.drop_of_length_le (l := l.take t) (by omega), List.nil_append, vb_append, hl', hv']

/-- Where the upper part is small its words above n are nothing. -/
theorem high_zero {l : List Int} {k n : Nat} {b : Int} (hl : Lim B64 l) (hb : b < B64 ^ n) (h : vb B64 (l.drop k) < b) (hkn : k + n ≤ l.length) : vb B64 (l.drop (k + n)) = 0 := by
  have h1 := vb_split B64 (l.drop k) n (by rw [List.length_drop]; omega)
  rw [List.drop_drop] at h1
  have h2 := vb_nonneg B64_pos ((hl.drop k).take n)
  have h3 := vb_nonneg B64_pos (hl.drop (k + n))
  rcases Int.lt_or_le 0 (vb B64 (l.drop (k + n))) with h4 | h4
  · have := Int.mul_le_mul_of_nonneg_left (show 1 ≤ vb B64 (l.drop (k + n)) by omega) (Int.le_of_lt (pow_pos' B64_pos n))
    omega
  · omega

/-- One more digit of the quotient. -/
theorem long_step {Q' Rt q r b A S : Int} {j : Nat} (hS : S = q * b + r) (h : A = B64 ^ (j + 1) * (Q' * b) + (Rt + B64 ^ j * S)) : A = B64 ^ j * ((q + B64 * Q') * b) + (Rt + B64 ^ j * r) := by
  rw [h, hS, Int.add_mul, Int.mul_add (B64 ^ j), Int.mul_add (B64 ^ j), Int.pow_succ, Int.mul_assoc (B64 ^ j), Int.mul_assoc B64]
  omega

/-- Two rows of the call's own lie apart. -/
def Dis (v u : Value) : Prop := ∀ g, v.ownBlock = some g → u.ownBlock ≠ some g
theorem Ow.lt {base : Nat} {w : World} {v : Value} {l : List Int} (h : Ow base w v l) {k : Nat} (hk : v.ownBlock = some k) : k < w.heap.size := by
  rcases h.2 with ⟨rfl, _⟩ | ⟨g, cap, cur, rfl, hg, hh, _⟩
  · simp [Value.ownBlock] at hk
  · simp only [Value.ownBlock, Option.some.injEq] at hk
    rw [← hk]
    exact (Array.getElem?_eq_some_iff.1 hh).1

/-- What nat.divideLong returns. -/
def RetDivL (a b : Int) (w : World) (e : Ending) (w' : World) : Prop :=
  ∃ vq lq vr lr, e = .returned (.tuple #[vq, vr]) ∧ Ow w.heap.size w' vq lq ∧ Can B64 lq ∧ vb B64 lq = a / b ∧ Ow w.heap.size w' vr lr ∧ Can B64 lr ∧ vb B64 lr = a % b ∧ Dis vq vr ∧ Below w.heap.size w w'

set_option maxRecDepth 100000 in
set_option maxHeartbeats 8000000 in
theorem divideLong_ge (aa : Option Addr) (na ca : Nat) (la : List Int) (b2 o2 n cb : Nat) (lb : List Int) (w : World) (hna : na = la.length) (hnb : n = lb.length) (_hc1 : na ≤ ca) (_hc2 : ca ≤ 9223372036854775807) (hd1 : n ≤ cb) (hd2 : cb ≤ 9223372036854775807)
    (ha : Rd w aa la) (hb' : At w b2 o2 lb) (hla : Lim B64 la) (hlb : Lim B64 lb) (hn2 : 2 ≤ n) (htop : 9223372036854775808 ≤ lb.getD (n - 1) 0) (hge : n ≤ na) (hM : na + 1 ≤ MaxW) :
    Calls Tryd.prog 102 #[.slice aa na ca, .slice (some ⟨b2, o2, none⟩) n cb] w fun e w' => RetDivL (vb B64 la) (vb B64 lb) w e w' := by
  have hlt : ¬ (na : Int) < (n : Int) := by omega
  obtain ⟨K, hK⟩ : ∃ K, na - n + 1 = K := ⟨_, rfl⟩
  obtain ⟨M, hMe⟩ : ∃ M, na + 1 = M := ⟨_, rfl⟩
  have hKI : (na : Int) - (n : Int) + 1 = (K : Int) := by omega
  have hMI : (na : Int) + 1 = (M : Int) := by omega
  have hKM : K ≤ MaxW := by omega
  have hMM : M ≤ MaxW := by omega
  have hKn : K + n = M := by omega
  have HNA := Lib.hid hna
  have HNB := Lib.hid hnb
  have HMe := Lib.hid hMe
  have HKn := Lib.hid hKn
  have HTOP := Lib.hid htop
  have hM63 : M ≤ 17592186044416 := hMM
  clear hna hnb hK hMe hKn htop
  go_enter Tryd.func102, Tryd.ntmps102
  go_wp2_with (first
    | (at_make; refine wpList_make_words w rfl (.tmp 21) (.tmp 21) 26 rfl Tryd.underlying26 info_u64 _ _ K rfl rfl (by omega) (by omega) hKM ?_; intro w1 hw1 hb1 hs1)
    | (at_make; refine wpList_make_words w1 rfl (.tmp 25) (.tmp 25) 26 rfl Tryd.underlying26 info_u64 _ _ M rfl rfl (by omega) (by omega) hMM ?_; intro w2 hw2 hb2 hs2; have harr2 := hw2.arr.1; have hra2 := (ha.below hb1).below hb2)
    | (with_reducible refine wpList_copy_words rfl (.tmp 27) (.tmp 28) 26 26 rfl Tryd.underlying26 info_u64 w1.heap.size 0 M M aa na ca rfl rfl (List.replicate M 0) la List.length_replicate HNA.out.symm harr2 hra2 ?_; intro w3 ha3 ho3))
  obtain ⟨l0, hl0⟩ : ∃ l0, l0 = la.take M ++ (List.replicate M (0 : Int)).drop na := ⟨_, rfl⟩
  have hcpd := copied (n := M) (l := la) (by rw [← HNA.out]; have := HMe.out; omega) hla
  rw [← HNA.out, ← hl0] at hcpd
  rw [← hl0] at ha3
  obtain ⟨hcl, hclim, hcv⟩ := hcpd
  have hbw1 := hb1
  have hbw2 : Below w.heap.size w w2 := hb1.trans (hb2.mono hb1.size)
  have hbw3 : Below w.heap.size w w3 := hbw2.trans (ho3.below hb1.size hbw2.size)
  have hQ3 : Ow w.heap.size w3 (.slice (some ⟨w.heap.size, 0, none⟩) K K) (List.replicate K 0) := ((hw1.below hb2).only' ho3 (by simp [Value.ownBlock]; omega))
  have hR3 : Ow w1.heap.size w3 (.slice (some ⟨w1.heap.size, 0, none⟩) M M) l0 := hw2.only ho3 ha3 (by rw [hcl, List.length_replicate])
  have hs13 : w1.heap.size < w3.heap.size := by have := ho3.size; omega
  have hbig : B64 ^ (n - 1) ≤ vb B64 lb := by
    have h1 := vb_take_succ B64 (l := lb) (k := n - 1) (by rw [← HNB.out]; omega)
    rw [List.take_of_length_le (by rw [← HNB.out]; omega)] at h1
    have h2 := vb_nonneg B64_pos (hlb.take (n - 1))
    have h3 := Int.mul_le_mul_of_nonneg_left (show 1 ≤ lb.getD (n - 1) 0 by have := HTOP.out; omega) (Int.le_of_lt (pow_pos' B64_pos (n - 1)))
    omega
  have hstart : vb B64 (l0.drop K) < vb B64 lb := by
    have hKa : K ≤ la.length := by rw [← HNA.out]; have := HKn.out; have := HMe.out; omega
    have h1 := vb_lt B64_pos (hla.drop K)
    rw [List.length_drop, ← HNA.out, show na - K = n - 1 by have := HKn.out; have := HMe.out; omega] at h1
    rw [hl0, List.take_of_length_le (by rw [← HNA.out]; have := HMe.out; omega), List.drop_append_of_le_length hKa, vb_append, List.drop_replicate, vb_replicate]
    omega
  have HST := Lib.hid hstart
  have HCV := Lib.hid hcv
  clear hstart hcv hl0 ha3 ho3 hw1 hw2 harr2 hra2 ha
  go_loopw [8] (fun ii wr => ∃ (k : Nat) (lq lr : List Int), k ≤ K ∧ ii = .int .i64 ((k : Int) - 1) ∧ Hid (lq.length = K) ∧ Lim B64 lq ∧ Ow w.heap.size wr (.slice (some ⟨w.heap.size, 0, none⟩) K K) lq ∧ Hid (lr.length = M) ∧ Lim B64 lr ∧ Ow w1.heap.size wr (.slice (some ⟨w1.heap.size, 0, none⟩) M M) lr ∧ Below w.heap.size w wr ∧ w1.heap.size < wr.heap.size ∧ Hid (vb B64 (lr.drop k) < vb B64 lb) ∧ Hid (vb B64 la = B64 ^ k * (vb B64 (lq.drop k) * vb B64 lb) + vb B64 lr))
    (fun ii _ => ((intOf ii) + 1).toNat)
  case atStart => exact ⟨K, List.replicate K 0, l0, Nat.le_refl _, rfl, by show _ = _; simp, Lim.replicate B64_pos K, hQ3, hcl, hclim, hR3, hbw3, hs13, HST, by show _ = _; rw [List.drop_of_length_le (by simp), HCV.out]; simp⟩
  case round =>
    obtain ⟨k, lq, lr, hk, rfl, HLQ, hlimq, hQ, HLR, hlimr, hR, hb, hsz, HT, HV⟩ := hrel
    by_cases hk0 : k = 0
    · subst hk0
      have hv : vb B64 la = vb B64 lq * vb B64 lb + vb B64 lr := by have h1 := HV.out; simpa using h1
      have ht : vb B64 lr < vb B64 lb := by have h1 := HT.out; simpa using h1
      have hr0 := vb_nonneg B64_pos hlimr
      have hqr := red_right (a := vb B64 la) (b := vb B64 lb) (G := vb B64 lq) (by rw [Int.add_mul, Int.one_mul]; omega) (by omega)
      have HQR := Lib.hid hqr
      have HRV : Hid (vb B64 lr = vb B64 la % vb B64 lb) := by show _ = _; rw [hqr.2]; omega
      have hRb := hR.mono hbw1.size
      clear hv ht hr0 hqr HV HT
      have hq1 := hQ.take (tlen lq) (by rw [← HLQ.out]; exact tlen_le lq)
      have hr1 := hRb.take (tlen lr) (by rw [← HLR.out]; exact tlen_le lr)
      have hK63 : K ≤ 9223372036854775807 := by unfold MaxW at hKM; omega
      have hM63' : M ≤ 9223372036854775807 := by omega
      have hrdq : Rd wr (some ⟨w.heap.size, 0, none⟩) lq := Rd.of_at hQ.arr.1.at'
      have hrdr : Rd wr (some ⟨w1.heap.size, 0, none⟩) lr := Rd.of_at hR.arr.1.at'
      have hdis : w.heap.size < w1.heap.size := hs1
      go_wp2_with fail
      refine (trim_any _ K K lq wr HLQ.out.symm (Nat.le_refl _) hK63 hrdq).mono ?_
      rintro e w4 ⟨rfl, rfl⟩
      go_wp2_with fail
      refine (trim_any _ M M lr wr HLR.out.symm (Nat.le_refl _) hM63' hrdr).mono ?_
      rintro e w4 ⟨rfl, rfl⟩
      go_wp2_with fail
      go_ret2
      exact ⟨_, tr lq, _, tr lr, rfl, hq1, can_tr hlimq, by rw [vb_tr]; exact HQR.out.1.symm, hr1, can_tr hlimr, by rw [vb_tr]; exact HRV.out, by intro g h1 h2; simp [Value.ownBlock] at h1 h2; omega, hb⟩
    · obtain ⟨j, rfl⟩ : ∃ j, k = j + 1 := ⟨k - 1, by omega⟩
      have hj : j < K := by omega
      have e0 : (((j + 1 : Nat) : Int) - 1) = (j : Int) := by omega
      rw [e0]
      obtain ⟨p, hp⟩ : ∃ p, j + n + 1 = p := ⟨_, rfl⟩
      have hpI : (j : Int) + (n : Int) + 1 = (p : Int) := by omega
      have hpM : p ≤ M := by have := HKn.out; omega
      have hjp : (j : Int) ≤ (p : Int) := by omega
      have hjM : j < M := by omega
      have hpj : p - j = n + 1 := by omega
      have hjl : j < lr.length := by rw [HLR.out]; exact hjM
      have hpl : j + (n + 1) ≤ lr.length := by rw [HLR.out]; omega
      have hz : vb B64 (lr.drop (j + 1 + n)) = 0 := by
        refine high_zero hlimr ?_ HT.out (by omega)
        have h1 := vb_lt B64_pos hlb
        rw [← HNB.out] at h1
        exact h1
      obtain ⟨S, hS⟩ : ∃ S, S = (lr.drop j).take (n + 1) := ⟨_, rfl⟩
      have hSl : n + 1 = S.length := by rw [hS, List.length_take, List.length_drop]; omega
      have hSlim : Lim B64 S := by rw [hS]; exact (hlimr.drop j).take _
      have hSv : vb B64 (lr.drop j) = vb B64 S := by
        have h1 := vb_split B64 (lr.drop j) (n + 1) (by rw [List.length_drop]; omega)
        rw [List.drop_drop, show j + (n + 1) = j + 1 + n by omega, hz, Int.mul_zero, Int.add_zero, ← hS] at h1
        exact h1
      have hSlt : vb B64 S < 18446744073709551616 * vb B64 lb := by
        have h1 := vb_drop B64 hjl
        have h2 := hlimr.getD B64_pos j
        have h3 := HT.out
        rw [hSv] at h1
        unfold B64 at h1 h2 h3
        unfold B64
        omega
      have hRarr := hR.arr.1
      have hSarr : Arr wr w1.heap.size j S := by have h1 := hRarr.sub j (n + 1); rw [Nat.zero_add, ← hS] at h1; exact h1
      have hbwr : At wr b2 o2 lb := hb'.below hb
      have hb2lt : b2 < w1.heap.size := by
        have h1 := hb'.lt (by intro e; have := HNB.out; rw [e] at this; simp at this; omega)
        have h2 := hbw1.size
        omega
      have HRED := Lib.hid (reduce_any w1.heap.size j (n + 1) (M - j) S (some ⟨b2, o2, none⟩) n cb lb wr rfl hSl HNB.out (by omega) (by omega) hd1 hd2 hSarr (Rd.of_at hbwr) (fun _ b' off' e => by cases e; omega) hSlim hlb hn2 HTOP.out hSlt)
      have HZ := Lib.hid hz
      have HSV := Lib.hid hSv
      have HSLT := Lib.hid hSlt
      have HPL := Lib.hid hpl
      clear e0 hp hz hSv hSlt hSarr hSl hbwr hS hpl hjl
      go_wp2_with fail
      refine HRED.out.mono ?_
      rintro e w4 ⟨rfl, hin⟩
      obtain ⟨lr2, hl2, hlim2, harr4, htk2, hdv2, hon4⟩ := splice_mid (g := w1.heap.size) (off := 0) (t := j) (s := n + 1) (n := M) hRarr hlimr HLR.out (by have := HPL.out; rw [HLR.out] at this; exact this) (by rw [Nat.zero_add]; exact hin)
      rw [show j + (n + 1) = j + 1 + n by omega, HZ.out, Int.mul_zero, Int.add_zero] at hdv2
      obtain ⟨q, hq⟩ : ∃ q, q = vb B64 S / vb B64 lb := ⟨_, rfl⟩
      have hQ4 := hQ.only' hon4 (by simp [Value.ownBlock]; omega)
      have hR4 := hR.only hon4 harr4 (by rw [hl2, HLR.out])
      rw [← hq]
      have hbp : 0 < vb B64 lb := by
        have h1 := HSLT.out
        have h2 := vb_nonneg B64_pos hSlim
        omega
      have hq0 : 0 ≤ q := by rw [hq]; exact Int.ediv_nonneg (vb_nonneg B64_pos hSlim) (by omega)
      have hqB : q < B64 := by rw [hq]; exact Int.ediv_lt_of_lt_mul hbp HSLT.out
      have hSqr : vb B64 S = q * vb B64 lb + vb B64 S % vb B64 lb := by
        have h1 := Int.mul_ediv_add_emod (vb B64 S) (vb B64 lb)
        rw [← hq, Int.mul_comm] at h1
        exact h1.symm
      have hrl := Int.emod_lt_of_pos (vb B64 S) hbp
      have hQarr := hQ4.arr.1
      have hcq := hQarr.at' j (by rw [HLQ.out]; exact hj)
      have hfq := hQarr.frozen (0 + j)
      have harrQ2 := hQarr.store j q
      rw [Nat.zero_add] at hcq hfq harrQ2
      have honQ : Only w.heap.size 0 K w4 (w4.setCell ⟨w.heap.size, j, none⟩ (.int .u64 q)) := Only.store j _ (Nat.zero_le _) hj
      have hQ5 := hQ4.only honQ harrQ2 (by rw [List.length_set])
      have hR5 := hR4.only' honQ (by simp [Value.ownBlock]; omega)
      have hb5 : Below w.heap.size w (w4.setCell ⟨w.heap.size, j, none⟩ (.int .u64 q)) := (hb.trans (hon4.below hbw1.size hb.size)).trans (honQ.below (Nat.le_refl _) (Nat.le_trans hb.size hon4.size))
      have hsz5 : w1.heap.size < (w4.setCell ⟨w.heap.size, j, none⟩ (.int .u64 q)).heap.size := by have h1 := hon4.size; have h2 := honQ.size; omega
      have hnew : vb B64 la = B64 ^ j * (vb B64 ((lq.set j q).drop j) * vb B64 lb) + vb B64 lr2 := by
        have e1 := vb_split B64 lr j (by rw [HLR.out]; omega)
        have e2 := vb_split B64 lr2 j (by rw [hl2]; omega)
        have e3 := vb_drop B64 (l := lq.set j q) (k := j) (by rw [List.length_set, HLQ.out]; exact hj)
        have e4 : (lq.set j q).drop (j + 1) = lq.drop (j + 1) := List.drop_set_of_lt (by omega)
        rw [getD_set_same (by rw [HLQ.out]; exact hj), e4] at e3
        rw [e3, e2, htk2, hdv2]
        have h1 := HV.out
        rw [e1, HSV.out] at h1
        exact long_step hSqr h1
      have HNEW := Lib.hid hnew
      have HL2 := Lib.hid hl2
      have HT2 : Hid (vb B64 (lr2.drop j) < vb B64 lb) := by show _ < _; rw [hdv2]; exact hrl
      clear hnew hl2 hSqr hrl hq htk2 hdv2 hin hQarr
      go_wp2_with fail
      go_roundw
      case rel =>
        refine ⟨j, lq.set j q, lr2, by omega, rfl, ?_, hlimq.set j hq0 hqB, hQ5, HL2.out, hlim2, hR5, hb5, hsz5, HT2.out, HNEW.out⟩
        show _ = _
        rw [List.length_set]; exact HLQ.out
      case measure => simp [intOf]
end Go.Proofs.YtfanhllcoaondaaDoor

namespace Go.Proofs.YtfanhllcoaondaaDoor
open Go.RowKit


theorem top_big {lb : List Int} {n : Nat} (hnb : n = lb.length) (hlb : Lim B64 lb) (hn2 : 2 ≤ n) (htop : 9223372036854775808 ≤ lb.getD (n - 1) 0) : B64 ^ (n - 1) ≤ vb B64 lb := by
  have h1 := vb_take_succ B64 (l := lb) (k := n - 1) (by omega)
  rw [List.take_of_length_le (by omega)] at h1
  have h2 := vb_nonneg B64_pos (hlb.take (n - 1))
  have h3 := Int.mul_le_mul_of_nonneg_left (show 1 ≤ lb.getD (n - 1) 0 by omega) (Int.le_of_lt (pow_pos' B64_pos (n - 1)))
  omega

set_option maxRecDepth 100000 in
theorem divideLong_lt (aa : Option Addr) (na ca : Nat) (la : List Int) (b2 o2 n cb : Nat) (lb : List Int) (w : World) (hna : na = la.length) (hnb : n = lb.length) (hc1 : na ≤ ca) (hc2 : ca ≤ 9223372036854775807)
    (ha : Rd w aa la) (hla : Lim B64 la) (hlb : Lim B64 lb) (hn2 : 2 ≤ n) (htop : 9223372036854775808 ≤ lb.getD (n - 1) 0) (hlt : na < n) (hM : na ≤ MaxW) :
    Calls Tryd.prog 102 #[.slice aa na ca, .slice (some ⟨b2, o2, none⟩) n cb] w fun e w' => RetDivL (vb B64 la) (vb B64 lb) w e w' := by
  have hI : (na : Int) < (n : Int) := by omega
  have hbig := top_big hnb hlb hn2 htop
  have h1 := vb_lt B64_pos hla
  rw [← hna] at h1
  have h2 := pow_le_pow B64_pos (show na ≤ n - 1 by omega)
  have h0 := vb_nonneg B64_pos hla
  have hq : vb B64 la / vb B64 lb = 0 := Int.ediv_eq_zero_of_lt h0 (by omega)
  have hr : vb B64 la % vb B64 lb = vb B64 la := Int.emod_eq_of_lt h0 (by omega)
  have HQ := Lib.hid hq
  have HR := Lib.hid hr
  have HOF := Lib.hid (of_any aa na ca la w hna hc1 hc2 ha hM)
  clear hq hr h0 h1 h2 hbig hna hnb htop ha hM hlt
  go_enter Tryd.func102, Tryd.ntmps102
  go_wp2_with fail
  refine HOF.out.mono ?_
  rintro e w1 ⟨v, rfl, hO, hb⟩
  go_wp2_with fail
  go_ret2
  exact ⟨_, [], _, _, rfl, Ow.nil _ _, Can.nil _, by rw [HQ.out]; rfl, hO, can_tr hla, by rw [vb_tr, HR.out], by intro g h1; simp [Value.ownBlock] at h1, hb⟩

set_option maxRecDepth 100000 in
theorem divide_short (aa : Option Addr) (na ca : Nat) (la : List Int) (b2 o2 n cb : Nat) (lb : List Int) (w : World) (hna : na = la.length) (hnb : n = lb.length) (hc1 : na ≤ ca) (hc2 : ca ≤ 9223372036854775807) (hd1 : n ≤ cb) (hd2 : cb ≤ 9223372036854775807)
    (ha : Rd w aa la) (hb : At w b2 o2 lb) (hla : Lim B64 la) (hlb : Lim B64 lb) (hn2 : 2 ≤ n) (htop : 9223372036854775808 ≤ lb.getD (n - 1) 0) (hM : na + 1 ≤ MaxW) (hshort : na < n + 160) :
    Calls Tryd.prog 86 #[.slice aa na ca, .slice (some ⟨b2, o2, none⟩) n cb] w fun e w' => RetDivL (vb B64 la) (vb B64 lb) w e w' := by
  have ht := tlen_le la
  have HT := Lib.hid (trim_any aa na ca la w hna hc1 hc2 ha)
  obtain ⟨t, hte⟩ : ∃ t, t = tlen la := ⟨_, rfl⟩
  rw [← hte] at HT
  have hmore : (t : Int) - (n : Int) < 160 := by omega
  have htl : t = (tr la).length := by rw [tr_length]; exact hte
  have htc : t ≤ ca := by omega
  have hn63 : n ≤ 9223372036854775807 := by omega
  have HC : Hid (Calls Tryd.prog 102 #[.slice aa t ca, .slice (some ⟨b2, o2, none⟩) n cb] w fun e w' => RetDivL (vb B64 la) (vb B64 lb) w e w') := by
    have hv : vb B64 la = vb B64 (tr la) := (vb_tr B64 la).symm
    rw [hv]
    rcases Nat.lt_or_ge t n with h | h
    · exact divideLong_lt aa t ca (tr la) b2 o2 n cb lb w htl hnb htc hc2 (ha.take (tlen la)) (hla.take _) hlb hn2 htop h (by omega)
    · exact divideLong_ge aa t ca (tr la) b2 o2 n cb lb w htl hnb htc hc2 hd1 hd2 (ha.take (tlen la)) hb (hla.take _) hlb hn2 htop h (by omega)
  clear hna hnb ha hb hla hlb htop htl hte ht hshort hM
  go_enter Tryd.func86, Tryd.ntmps86
  go_wp2_with fail
  refine HT.out.mono ?_
  rintro e w' ⟨rfl, rfl⟩
  go_wp2_with fail
  refine HC.out.mono ?_
  rintro e w' ⟨vq, lq, vr, lr, rfl, h1, h2, h3, h4, h5, h6, h7, h8⟩
  go_wp2_with fail
  go_ret2
  exact ⟨vq, lq, vr, lr, rfl, h1, h2, h3, h4, h5, h6, h7, h8⟩


/-- What nat.DivMod leaves: two new rows that lie apart. -/
def RetDM (a b : Int) (w : World) (e : Ending) (w' : World) : Prop :=
  ∃ vq lq vr lr, e = .returned (.tuple #[vq, vr, .bool true]) ∧ Ow w.heap.size w' vq lq ∧ Can B64 lq ∧ vb B64 lq = a / b ∧ Ow w.heap.size w' vr lr ∧ Can B64 lr ∧ vb B64 lr = a % b ∧ Dis vq vr ∧ Below w.heap.size w w'

/-- A divisor shifted until its top bit is set. -/
theorem norm_top {l l2 : List Int} {t s : Nat} (hl : Can B64 l) (ht : t = l.length) (h0 : 0 < t) (hs : 64 - (Lib.bitLen (l.getD (t - 1) 0).toNat : Int) = (s : Int)) (hl2 : Can B64 l2) (hv : vb B64 l2 = vb B64 l * 2 ^ s) :
    l2.length = t ∧ 9223372036854775808 ≤ l2.getD (t - 1) 0 := by
  obtain ⟨x, hx⟩ : ∃ x, x = l.getD (t - 1) 0 := ⟨_, rfl⟩
  rw [← hx] at hs
  have hne : l ≠ [] := by intro e; subst e; simp at ht; omega
  have hx0 : x ≠ 0 := by rw [hx, ht]; exact hl.top hne
  have hxl := hl.lim.getD B64_pos (t - 1)
  rw [← hx] at hxl
  have hxn : x.toNat < 2 ^ 64 := by unfold B64 at hxl; omega
  obtain ⟨hb1, hb2⟩ := bitLen_spec 64 x.toNat hxn hxn
  obtain ⟨hb3, hb4⟩ := hb2 (by omega)
  have hb5 := bitLen_le64 x.toNat hxn
  obtain ⟨L, hL⟩ : ∃ L, L = Lib.bitLen x.toNat := ⟨_, rfl⟩
  rw [← hL] at hs hb1 hb3 hb4 hb5
  have e1 : (2:Int) ^ L * 2 ^ s = 18446744073709551616 := by rw [← Int.pow_add, show L + s = 64 by omega]; rfl
  have e2 : (2:Int) ^ (L - 1) * 2 ^ s = 9223372036854775808 := by rw [← Int.pow_add, show L - 1 + s = 63 by omega]; rfl
  have hp : 0 < (2:Int) ^ s := Int.pow_pos (by decide)
  have c1 : x + 1 ≤ (2:Int) ^ L := by
    have h1 : (x.toNat : Int) < ((2 ^ L : Nat) : Int) := by exact_mod_cast hb1
    rw [Int.natCast_pow] at h1
    have h2 : ((2 : Nat) : Int) ^ L = (2:Int) ^ L := rfl
    omega
  have c2 : (2:Int) ^ (L - 1) ≤ x := by
    have h1 : ((2 ^ (L - 1) : Nat) : Int) ≤ (x.toNat : Int) := by exact_mod_cast hb3
    rw [Int.natCast_pow] at h1
    have h2 : ((2 : Nat) : Int) ^ (L - 1) = (2:Int) ^ (L - 1) := rfl
    omega
  have d1 : (x + 1) * 2 ^ s ≤ 18446744073709551616 := by rw [← e1]; exact Int.mul_le_mul_of_nonneg_right c1 (Int.le_of_lt hp)
  have d2 : 9223372036854775808 ≤ x * 2 ^ s := by rw [← e2]; exact Int.mul_le_mul_of_nonneg_right c2 (Int.le_of_lt hp)
  have f1 := vb_take_succ B64 (l := l) (k := t - 1) (by omega)
  rw [List.take_of_length_le (by omega), ← hx] at f1
  have f2 := vb_nonneg B64_pos (hl.lim.take (t - 1))
  have f3 := vb_lt B64_pos (hl.lim.take (t - 1))
  rw [List.length_take, Nat.min_eq_left (by omega)] at f3
  obtain ⟨P, hP⟩ : ∃ P, P = B64 ^ (t - 1) := ⟨_, rfl⟩
  have hP0 : 0 < P := by rw [hP]; exact pow_pos' B64_pos _
  have hPt : B64 ^ t = P * 18446744073709551616 := by rw [show B64 ^ t = B64 ^ (t - 1 + 1) by rw [Nat.sub_add_cancel h0], Int.pow_succ, ← hP]; rfl
  rw [← hP] at f1 f3
  have g1 : P * (x * 2 ^ s) ≤ vb B64 l2 := by
    rw [hv, f1, Int.add_mul, Int.mul_assoc]
    have := Int.mul_nonneg f2 (Int.le_of_lt hp)
    omega
  have g2 : vb B64 l2 < P * ((x + 1) * 2 ^ s) := by
    have h : vb B64 l < P * (x + 1) := by rw [Int.mul_add, Int.mul_one]; omega
    have h2 := Int.mul_lt_mul_of_pos_right h hp
    rw [Int.mul_assoc, ← hv] at h2
    exact h2
  have g3 : P * 9223372036854775808 ≤ vb B64 l2 := Int.le_trans (Int.mul_le_mul_of_nonneg_left d2 (Int.le_of_lt hP0)) g1
  have g4 : vb B64 l2 < P * 18446744073709551616 := Int.lt_of_lt_of_le g2 (Int.mul_le_mul_of_nonneg_left d1 (Int.le_of_lt hP0))
  have hlen : l2.length = t := by
    rcases Nat.lt_trichotomy l2.length t with h | h | h
    · have h1 := vb_lt B64_pos hl2.lim
      have h2 := pow_le_pow B64_pos (show l2.length ≤ t - 1 by omega)
      rw [← hP] at h2
      omega
    · exact h
    · have h1 := hl2.ge B64_pos (by intro e; subst e; simp at h)
      have h2 := pow_le_pow B64_pos (show t ≤ l2.length - 1 by omega)
      rw [hPt] at h2
      omega
  refine ⟨hlen, ?_⟩
  have k1 := vb_take_succ B64 (l := l2) (k := t - 1) (by omega)
  rw [List.take_of_length_le (by omega), ← hP] at k1
  have k3 := vb_lt B64_pos (hl2.lim.take (t - 1))
  rw [List.length_take, Nat.min_eq_left (by omega), ← hP] at k3
  rcases Int.lt_or_le (l2.getD (t - 1) 0) 9223372036854775808 with h | h
  · have h1 := Int.mul_le_mul_of_nonneg_left (show l2.getD (t - 1) 0 + 1 ≤ 9223372036854775808 by omega) (Int.le_of_lt hP0)
    rw [Int.mul_add, Int.mul_one] at h1
    omega
  · exact h

theorem len_le_of_lt {l : List Int} {m : Nat} (hc : Can B64 l) (h : vb B64 l < B64 ^ m) : l.length ≤ m := by
  by_cases hl : l = []
  · subst hl; simp
  · have h1 := hc.ge B64_pos hl
    rcases Nat.lt_or_ge m l.length with h2 | h2
    · have := pow_le_pow B64_pos (show m ≤ l.length - 1 by omega)
      omega
    · exact h2

set_option maxRecDepth 100000 in
theorem dm_zero (aa : Option Addr) (na ca : Nat) (la : List Int) (ab : Option Addr) (n cb : Nat) (lb : List Int) (w : World) (hna : na = la.length) (hnb : n = lb.length) (hc1 : na ≤ ca) (hc2 : ca ≤ 9223372036854775807) (hd1 : n ≤ cb) (hd2 : cb ≤ 9223372036854775807)
    (ha : Rd w aa la) (hb : Rd w ab lb) (hlb : Lim B64 lb) (h0 : vb B64 lb = 0) :
    Calls Tryd.prog 50 #[.slice aa na ca, .slice ab n cb] w fun e w' => e = .returned (.tuple #[.slice none 0 0, .slice none 0 0, .bool false]) ∧ w = w' := by
  have HTA := Lib.hid (trim_any aa na ca la w hna hc1 hc2 ha)
  have hT := trim_any ab n cb lb w hnb hd1 hd2 hb
  have hz : tlen lb = 0 := by rw [← tr_length, (can_tr hlb).eq_nil B64_pos (by rw [vb_tr]; exact h0)]; rfl
  rw [hz] at hT
  have HTB := Lib.hid hT
  have hta : tlen la ≤ ca := by have := tlen_le la; omega
  obtain ⟨ta, hte⟩ : ∃ t, t = tlen la := ⟨_, rfl⟩
  rw [← hte] at HTA hta
  clear hna hnb ha hb hlb h0 hT hz hte
  go_enter Tryd.func50, Tryd.ntmps50
  go_wp2_with fail
  refine HTA.out.mono ?_
  rintro e w' ⟨rfl, rfl⟩
  go_wp2_with fail
  refine HTB.out.mono ?_
  rintro e w' ⟨rfl, rfl⟩
  go_wp2_with fail
  go_ret3
  exact ⟨rfl, rfl⟩

set_option maxRecDepth 100000 in
theorem dm_lt (aa : Option Addr) (na ca : Nat) (la : List Int) (ab : Option Addr) (n cb : Nat) (lb : List Int) (w : World) (hna : na = la.length) (hnb : n = lb.length) (hc1 : na ≤ ca) (hc2 : ca ≤ 9223372036854775807) (hd1 : n ≤ cb) (hd2 : cb ≤ 9223372036854775807)
    (ha : Rd w aa la) (hb : Rd w ab lb) (hla : Lim B64 la) (hlb : Lim B64 lb) (hM : na ≤ MaxW) (hlt : vb B64 la < vb B64 lb) :
    Calls Tryd.prog 50 #[.slice aa na ca, .slice ab n cb] w fun e w' => RetDM (vb B64 la) (vb B64 lb) w e w' := by
  have HTA := Lib.hid (trim_any aa na ca la w hna hc1 hc2 ha)
  have HTB := Lib.hid (trim_any ab n cb lb w hnb hd1 hd2 hb)
  have h0 := vb_nonneg B64_pos hla
  have hq : vb B64 la / vb B64 lb = 0 := Int.ediv_eq_zero_of_lt h0 hlt
  have hr : vb B64 la % vb B64 lb = vb B64 la := Int.emod_eq_of_lt h0 hlt
  have hzb : tlen lb ≠ 0 := by
    intro e
    have h1 : tr lb = [] := List.eq_nil_of_length_eq_zero (by rw [tr_length]; exact e)
    have h2 := vb_tr B64 lb
    rw [h1] at h2
    rw [← h2] at hlt
    simp at hlt
    omega
  have hC := cmp_any aa (tlen la) ca (tr la) ab (tlen lb) cb (tr lb) w (tr_length la).symm (tr_length lb).symm (by have := tlen_le la; omega) hc2 (by have := tlen_le lb; omega) hd2 (ha.take _) (hb.take _) (hla.take _) (hlb.take _)
  rw [vb_tr, vb_tr, cmpI_lt hlt] at hC
  have HCM := Lib.hid hC
  have hta : tlen la ≤ ca := by have := tlen_le la; omega
  have htM : tlen la ≤ MaxW := by have := tlen_le la; omega
  have htl : tlen la = (tr la).length := (tr_length la).symm
  have hrd : Rd w aa (tr la) := ha.take _
  have hcan : Can B64 (tr la) := can_tr hla
  have hvt : vb B64 (tr la) = vb B64 la := vb_tr B64 la
  obtain ⟨ta, hte⟩ : ∃ t, t = tlen la := ⟨_, rfl⟩
  obtain ⟨tb, hbe⟩ : ∃ t, t = tlen lb := ⟨_, rfl⟩
  rw [← hte] at HTA hta htM htl HCM
  rw [← hbe] at HTB hzb HCM
  have HOF := fun w1 (hx : Below w.heap.size w w1) => of_any aa ta ca (tr la) w1 htl hta hc2 (hrd.below hx) htM
  have hbz : ((tb : Int) == 0) = false := by simp; omega
  have HQ := Lib.hid hq
  have HR := Lib.hid hr
  have HVT := Lib.hid hvt
  clear hna hnb ha hb hla hlb hlt hq hr h0 hC htl hte hbe hvt hzb
  go_enter Tryd.func50, Tryd.ntmps50
  go_wp2_with fail
  refine HTA.out.mono ?_
  rintro e w' ⟨rfl, rfl⟩
  go_wp2_with fail
  refine HTB.out.mono ?_
  rintro e w' ⟨rfl, rfl⟩
  go_wp2_with fail
  refine HCM.out.mono ?_
  rintro e w1 ⟨rfl, hb1⟩
  go_wp2_with fail
  refine (HOF w1 hb1).mono ?_
  rintro e w2 ⟨v, rfl, hO, hb2⟩
  go_wp2_with fail
  go_ret3
  exact ⟨_, [], _, _, rfl, Ow.nil _ _, Can.nil _, by rw [HQ.out]; rfl, hO.mono hb1.size, by rw [hcan.tr]; exact hcan, by rw [hcan.tr, HVT.out, HR.out], by intro g h1; simp [Value.ownBlock] at h1, hb1.trans (hb2.mono hb1.size)⟩

set_option maxRecDepth 100000 in
set_option maxHeartbeats 1000000 in
theorem dm_one (aa : Option Addr) (na ca : Nat) (la : List Int) (ab : Option Addr) (n cb : Nat) (lb : List Int) (w : World) (hna : na = la.length) (hnb : n = lb.length) (hc1 : na ≤ ca) (hc2 : ca ≤ 9223372036854775807) (hd1 : n ≤ cb) (hd2 : cb ≤ 9223372036854775807)
    (ha : Rd w aa la) (hb : Rd w ab lb) (hla : Lim B64 la) (hlb : Lim B64 lb) (hM : na ≤ MaxW) (hge : vb B64 lb ≤ vb B64 la) (h1 : tlen lb = 1) :
    Calls Tryd.prog 50 #[.slice aa na ca, .slice ab n cb] w fun e w' => RetDM (vb B64 la) (vb B64 lb) w e w' := by
  have HTA := Lib.hid (trim_any aa na ca la w hna hc1 hc2 ha)
  have hTB := trim_any ab n cb lb w hnb hd1 hd2 hb
  have hC := cmp_any aa (tlen la) ca (tr la) ab (tlen lb) cb (tr lb) w (tr_length la).symm (tr_length lb).symm (by have := tlen_le la; omega) hc2 (by have := tlen_le lb; omega) hd2 (ha.take _) (hb.take _) (hla.take _) (hlb.take _)
  rw [vb_tr, vb_tr] at hC
  have hcs : ¬ cmpI (vb B64 la) (vb B64 lb) < 0 := by
    rcases Int.lt_or_eq_of_le hge with h | h
    · rw [cmpI_gt h]; decide
    · rw [cmpI_eq h.symm]; decide
  obtain ⟨c, hc⟩ : ∃ c, c = cmpI (vb B64 la) (vb B64 lb) := ⟨_, rfl⟩
  rw [← hc] at hC hcs
  rw [h1] at hTB hC
  have HTB := Lib.hid hTB
  have HCM := Lib.hid hC
  have htb1 : (tr lb).length = 1 := by rw [tr_length]; exact h1
  obtain ⟨x, hx⟩ : ∃ x, tr lb = [x] := by
    match h : tr lb, htb1 with
    | [x], _ => exact ⟨x, rfl⟩
  have hlx := hlb.take (tlen lb)
  have hx2 : tr lb = lb.take (tlen lb) := rfl
  rw [← hx2, hx] at hlx
  have hxh := hlx.head
  have hvx : vb B64 lb = x := by rw [← vb_tr, hx, vb_one]
  have hx0 : x ≠ 0 := by
    have h2 := (can_tr hlb).top (by rw [hx]; simp)
    rw [hx] at h2; simpa using h2
  obtain ⟨b2, o2, rfl, hat⟩ := (show Rd w ab (tr lb) from hb.take _).cases (by rw [hx]; simp)
  rw [hx] at hat
  have hxp : 0 < x := by omega
  have hxm : x ≤ 18446744073709551615 := by have := hxh.2; unfold B64 at this; omega
  have hta : tlen la ≤ ca := by have := tlen_le la; omega
  have htM : tlen la ≤ MaxW := by have := tlen_le la; omega
  have htl : tlen la = (tr la).length := (tr_length la).symm
  have hrd : Rd w aa (tr la) := ha.take _
  have hcan : Can B64 (tr la) := can_tr hla
  have hvt : vb B64 (tr la) = vb B64 la := vb_tr B64 la
  obtain ⟨ta, hte⟩ : ∃ t, t = tlen la := ⟨_, rfl⟩
  obtain ⟨lt, hlt⟩ : ∃ l, l = tr la := ⟨_, rfl⟩
  rw [← hte] at HTA hta htM htl HCM
  rw [← hlt] at htl hrd hcan hvt
  have HOF := fun w1 (hx : Below w.heap.size w w1) => of_any aa ta ca lt w1 htl hta hc2 (hrd.below hx) htM
  rw [hcan.tr] at HOF
  have HVT := Lib.hid hvt
  rw [hvx]
  clear hna hnb ha hb hla hlb hge hC hTB htl hte hlt hvt hc hx hx2 hlx htb1 hvx h1 hxh
  go_enter Tryd.func50, Tryd.ntmps50
  go_wp2_with fail
  refine HTA.out.mono ?_
  rintro e w' ⟨rfl, rfl⟩
  go_wp2_with fail
  refine HTB.out.mono ?_
  rintro e w' ⟨rfl, rfl⟩
  go_wp2_with fail
  refine HCM.out.mono ?_
  rintro e w1 ⟨rfl, hb1⟩
  go_wp2_with fail
  refine (HOF w1 hb1).mono ?_
  rintro e w2 ⟨v, rfl, hO, hb2⟩
  have hbw2 : Below w.heap.size w w2 := hb1.trans (hb2.mono hb1.size)
  have hcx : w2.cell? ⟨b2, o2, none⟩ = some (.int .u64 x) := (hat.below hbw2) 0 (by simp)
  go_wp2_with fail
  refine (divLimb_ow w1.heap.size v lt x w2 hO hcan.lim hxp hxm hb2.size).mono ?_
  rintro e w3 ⟨rfl, l3, hO3, hlim3, hv3, hb3⟩
  have hbw3 : Below w.heap.size w w3 := hbw2.trans (hb3.mono hb1.size)
  obtain ⟨r, hr⟩ : ∃ r, r = vb B64 lt % x := ⟨_, rfl⟩
  have hr0 : 0 ≤ r := by rw [hr]; exact Int.emod_nonneg _ (by omega)
  have hr1 : r < B64 := by have h1 := Int.emod_lt_of_pos (vb B64 lt) hxp; rw [← hr] at h1; unfold B64; omega
  have limr : Lim B64 [r] := Lim.cons hr0 hr1 (Lim.nil _)
  rw [← hr]
  have HR := Lib.hid hr
  have HV3 := Lib.hid hv3
  clear hr hv3 hcx
  go_wp2_with fail
  refine (trim_ow w1.heap.size v l3 w3 hO3).mono ?_
  rintro e w' ⟨v4, rfl, hO4, rfl⟩
  have hlt4 : ∀ g, v4.ownBlock = some g → g < w3.heap.size := fun g hg => hO4.lt hg
  go_wp2_with fail
  refine (of_any _ 1 1 [r] _ rfl (Nat.le_refl _) (by decide) (at_new _ r _) (by decide)).mono ?_
  rintro e w5 ⟨v5, rfl, hO5, hb5⟩
  go_wp2_with fail
  go_ret3
  have hb35 : Below w3.heap.size w3 w5 := ((Below.refl _ _).alloc (Nat.le_refl _) _).trans (hb5.mono (by simp))
  refine ⟨v4, tr l3, v5, tr [r], rfl, (hO4.below hb35).mono hb1.size, can_tr hlim3, by rw [vb_tr, HV3.out, HVT.out], hO5.mono (by have := hbw3.size; simp; omega), can_tr limr, by rw [vb_tr, vb_one, HR.out, HVT.out], ?_, hbw3.trans (hb35.mono hbw3.size)⟩
  intro g h1 h2
  have h3 := hlt4 g h1
  have h4 := hO5.block g h2
  simp at h4
  omega

theorem norm_div {a b s : Int} (hs : 0 < s) : a * s / (b * s) = a / b := Int.mul_ediv_mul_of_pos_left a b hs
theorem norm_mod {a b s : Int} (hs : 0 < s) : (a * s) % (b * s) = a % b * s := by rw [Int.mul_comm a s, Int.mul_comm b s, Int.mul_emod_mul_of_pos _ _ hs, Int.mul_comm]

set_option maxRecDepth 100000 in
set_option maxHeartbeats 1000000 in
theorem dm_long (aa : Option Addr) (na ca : Nat) (la : List Int) (ab : Option Addr) (n cb : Nat) (lb : List Int) (w : World) (hna : na = la.length) (hnb : n = lb.length) (hc1 : na ≤ ca) (hc2 : ca ≤ 9223372036854775807) (hd1 : n ≤ cb) (hd2 : cb ≤ 9223372036854775807)
    (ha : Rd w aa la) (hb : Rd w ab lb) (hla : Lim B64 la) (hlb : Lim B64 lb) (hM : na ≤ 150) (hM2 : n ≤ 100000) (hge : vb B64 lb ≤ vb B64 la) (h2 : 2 ≤ tlen lb) :
    Calls Tryd.prog 50 #[.slice aa na ca, .slice ab n cb] w fun e w' => RetDM (vb B64 la) (vb B64 lb) w e w' := by
  have HTA := Lib.hid (trim_any aa na ca la w hna hc1 hc2 ha)
  have HTB := Lib.hid (trim_any ab n cb lb w hnb hd1 hd2 hb)
  have hC := cmp_any aa (tlen la) ca (tr la) ab (tlen lb) cb (tr lb) w (tr_length la).symm (tr_length lb).symm (by have := tlen_le la; omega) hc2 (by have := tlen_le lb; omega) hd2 (ha.take _) (hb.take _) (hla.take _) (hlb.take _)
  rw [vb_tr, vb_tr] at hC
  have hcs : ¬ cmpI (vb B64 la) (vb B64 lb) < 0 := by
    rcases Int.lt_or_eq_of_le hge with h | h
    · rw [cmpI_gt h]; decide
    · rw [cmpI_eq h.symm]; decide
  obtain ⟨c, hc⟩ : ∃ c, c = cmpI (vb B64 la) (vb B64 lb) := ⟨_, rfl⟩
  rw [← hc] at hC hcs
  have HCM := Lib.hid hC
  have hta : tlen la ≤ ca := by have := tlen_le la; omega
  have hta2 : tlen la ≤ 150 := by have := tlen_le la; omega
  have htb : tlen lb ≤ cb := by have := tlen_le lb; omega
  have htb2 : tlen lb ≤ 100000 := by have := tlen_le lb; omega
  have htla : tlen la = (tr la).length := (tr_length la).symm
  have htlb : tlen lb = (tr lb).length := (tr_length lb).symm
  have hrda : Rd w aa (tr la) := ha.take _
  have hrdb : Rd w ab (tr lb) := hb.take _
  have hcana : Can B64 (tr la) := can_tr hla
  have hcanb : Can B64 (tr lb) := can_tr hlb
  rw [← vb_tr B64 la, ← vb_tr B64 lb]
  obtain ⟨ta, hte⟩ : ∃ t, t = tlen la := ⟨_, rfl⟩
  obtain ⟨tb, hbe⟩ : ∃ t, t = tlen lb := ⟨_, rfl⟩
  obtain ⟨xa, hxa⟩ : ∃ l, l = tr la := ⟨_, rfl⟩
  obtain ⟨xb, hxb⟩ : ∃ l, l = tr lb := ⟨_, rfl⟩
  rw [← hte] at HTA hta hta2 htla HCM
  rw [← hbe] at HTB htb htb2 htlb HCM h2
  rw [← hxa] at htla hrda hcana ⊢
  rw [← hxb] at htlb hrdb hcanb ⊢
  clear hna hnb ha hb hla hlb hge hC hte hbe hxa hxb hc hM hM2 hc1 hd1
  obtain ⟨b2, o2, rfl, hat⟩ := hrdb.cases (by intro e; subst e; simp at htlb; omega)
  obtain ⟨m, hm⟩ : ∃ m, m = tb - 1 := ⟨_, rfl⟩
  have hmI : (tb : Int) - 1 = (m : Int) := by omega
  have hmt : m < tb := by omega
  obtain ⟨x, hx⟩ : ∃ x, x = xb.getD m 0 := ⟨_, rfl⟩
  have hxl := hcanb.lim.getD B64_pos m
  rw [← hx] at hxl
  have hx0 : 0 ≤ x := hxl.1
  have hx1 : x ≤ 18446744073709551615 := by have := hxl.2; unfold B64 at this; omega
  have hbl := bitLen_le64 x.toNat (by omega)
  obtain ⟨s, hs⟩ : ∃ s : Nat, 64 - (Lib.bitLen x.toNat : Int) = (s : Int) := ⟨64 - Lib.bitLen x.toNat, by omega⟩
  have hs64 : s ≤ 64 := by omega
  have HS := Lib.hid hs
  have HM := Lib.hid hm
  have HX := Lib.hid hx
  have HTLA := Lib.hid htla
  have HTLB := Lib.hid htlb
  have hb1 : ((tb : Int) == 0) = false := by simp; omega
  have hb2 : ((tb : Int) == 1) = false := by simp; omega
  clear hs hm hx htla htlb hxl hbl hrdb
  go_enter Tryd.func50, Tryd.ntmps50
  go_wp2_with fail
  refine HTA.out.mono ?_
  rintro e w' ⟨rfl, rfl⟩
  go_wp2_with fail
  refine HTB.out.mono ?_
  rintro e w' ⟨rfl, rfl⟩
  go_wp2_with fail
  refine HCM.out.mono ?_
  rintro e w1 ⟨rfl, hw1⟩
  have hcx : w1.cell? ⟨b2, o2 + m, none⟩ = some (.int .u64 x) := by rw [HX.out]; exact hat.below hw1 m (by rw [← HTLB.out]; exact hmt)
  go_wp2_with fail
  refine (lz64_any x w1 hx0 hx1).mono ?_
  rintro e w' ⟨rfl, rfl⟩
  rw [HS.out]
  go_wp2_with fail
  refine (shiftUp_any aa ta ca xa s w1 HTLA.out hta hc2 (hrda.below hw1) hcana.lim (by omega) (by unfold MaxW; omega)).mono ?_
  rintro e w2 ⟨v2, l2, rfl, hO2, hcan2, hv2, hb2⟩
  have hw2 : Below w.heap.size w w2 := hw1.trans (hb2.mono hw1.size)
  go_wp2_with fail
  refine (shiftUp_any _ tb cb xb s w2 HTLB.out htb hd2 (Rd.of_at (hat.below hw2)) hcanb.lim (by omega) (by unfold MaxW; omega)).mono ?_
  rintro e w3 ⟨v3, l3, rfl, hO3, hcan3, hv3, hb3⟩
  have hw3 : Below w.heap.size w w3 := hw2.trans (hb3.mono hw2.size)
  have hp : 0 < (2:Int) ^ s := Int.pow_pos (by decide)
  obtain ⟨hlen3, htop3⟩ := norm_top (s := s) hcanb HTLB.out (by omega) (by rw [← HM.out, ← HX.out]; exact HS.out) hcan3 hv3
  have hlen2 : l2.length ≤ ta + 1 := by
    refine len_le_of_lt hcan2 ?_
    rw [hv2, Int.pow_succ, HTLA.out]
    have h1 := vb_lt B64_pos hcana.lim
    have h2 : (2:Int) ^ s ≤ 2 ^ 64 := by exact pow_le_pow (by decide) hs64
    have h3 : (2:Int) ^ 64 = B64 := by decide
    have h4 := Int.mul_lt_mul_of_pos_right h1 hp
    have h5 := Int.mul_le_mul_of_nonneg_left h2 (Int.le_of_lt (pow_pos' B64_pos xa.length))
    rw [h3] at h5
    omega
  have hO2' := hO2.below hb3
  obtain ⟨a2, c2, rfl, hc21, hc22, hr2⟩ := hO2'.form
  rcases hO3.cases with ⟨_, h⟩ | ⟨g3, c3, rfl, -, hc31, hc32, harr3⟩
  · rw [h] at hlen3; simp at hlen3; omega
  rw [hlen3] at hc31 ⊢
  have HL3 := Lib.hid hlen3
  obtain ⟨n2, hn2⟩ : ∃ n, n = l2.length := ⟨_, rfl⟩
  rw [← hn2] at hc21 hlen2 ⊢
  have HN2 := Lib.hid hn2
  clear hn2 hlen3 hcx hO2'
  go_wp2_with fail
  refine (divide_short a2 n2 c2 l2 g3 0 tb c3 l3 w3 HN2.out HL3.out.symm hc21 hc22 hc31 hc32 hr2 harr3.at' hcan2.lim hcan3.lim h2 htop3 (by unfold MaxW; omega) (by omega)).mono ?_
  rintro e w4 ⟨vq, lq, vr, lr, rfl, hOq, hcq, hvq, hOr, hcr, hvr, hdis, hb4⟩
  have hw4 : Below w.heap.size w w4 := hw3.trans (hb4.mono hw3.size)
  rw [hv2, hv3, norm_div hp] at hvq
  rw [hv2, hv3, norm_mod hp] at hvr
  have hqlt : ∀ g, vq.ownBlock = some g → g < w4.heap.size := fun g hg => hOq.lt hg
  obtain ⟨ar, cr, rfl, hr1, hr2', hrr⟩ := hOr.form
  have hlrM : lr.length ≤ 100000 := by
    have h1 : lr.length ≤ tb := by
      refine Nat.le_trans (can_len_le (m := l3) hcr hcan3 ?_) (by rw [HL3.out]; exact Nat.le_refl _)
      rw [hvr, hv3]
      have hb0 : 0 < vb B64 xb := by
        have h5 := hcanb.ge B64_pos (by intro e; rw [e] at HTLB; have := HTLB.out; simp at this; omega)
        have h6 := pow_pos' B64_pos (xb.length - 1)
        omega
      exact Int.mul_le_mul_of_nonneg_right (Int.le_of_lt (Int.emod_lt_of_pos _ hb0)) (Int.le_of_lt hp)
    omega
  obtain ⟨nr, hnr⟩ : ∃ n, n = lr.length := ⟨_, rfl⟩
  rw [← hnr] at hr1 hlrM ⊢
  have HNR := Lib.hid hnr
  have HVQ := Lib.hid hvq
  have HVR := Lib.hid hvr
  clear hnr hvq hvr hv2 hv3
  go_wp2_with fail
  refine (shiftDown_any ar nr cr lr s w4 HNR.out hr1 hr2' hrr hcr.lim (by omega) (by unfold MaxW; omega)).mono ?_
  rintro e w5 ⟨v5, l5, rfl, hO5, hcan5, hv5, hb5⟩
  go_wp2_with fail
  go_ret3
  refine ⟨vq, lq, v5, l5, rfl, (hOq.below hb5).mono hw3.size, hcq, HVQ.out, hO5.mono hw4.size, hcan5, ?_, ?_, hw4.trans (hb5.mono hw4.size)⟩
  · rw [hv5, HVR.out]
    exact Int.mul_ediv_cancel _ (by omega)
  · intro g h1 h2
    have h3 := hqlt g h1
    have h4 := hO5.block g h2
    omega

theorem dm_any (aa : Option Addr) (na ca : Nat) (la : List Int) (ab : Option Addr) (n cb : Nat) (lb : List Int) (w : World) (hna : na = la.length) (hnb : n = lb.length) (hc1 : na ≤ ca) (hc2 : ca ≤ 9223372036854775807) (hd1 : n ≤ cb) (hd2 : cb ≤ 9223372036854775807)
    (ha : Rd w aa la) (hb : Rd w ab lb) (hla : Lim B64 la) (hlb : Lim B64 lb) (hM : na ≤ 150) (hM2 : n ≤ 100000) (h0 : 0 < vb B64 lb) :
    Calls Tryd.prog 50 #[.slice aa na ca, .slice ab n cb] w fun e w' => RetDM (vb B64 la) (vb B64 lb) w e w' := by
  have hMM : na ≤ MaxW := by unfold MaxW; omega
  rcases Int.lt_or_le (vb B64 la) (vb B64 lb) with h | h
  · exact dm_lt aa na ca la ab n cb lb w hna hnb hc1 hc2 hd1 hd2 ha hb hla hlb hMM h
  · by_cases h1 : tlen lb = 1
    · exact dm_one aa na ca la ab n cb lb w hna hnb hc1 hc2 hd1 hd2 ha hb hla hlb hMM h h1
    · refine dm_long aa na ca la ab n cb lb w hna hnb hc1 hc2 hd1 hd2 ha hb hla hlb hM hM2 h ?_
      have h3 : tlen lb ≠ 0 := by
        intro e
        have h4 : tr lb = [] := List.eq_nil_of_length_eq_zero (by rw [tr_length]; exact e)
        rw [← vb_tr, h4] at h0
        simp at h0
      omega

end Go.Proofs.YtfanhllcoaondaaDoor

namespace Go.Proofs.YtfanhllcoaondaaDoor
open Go.RowKit


theorem mul_num {w : World} {u v : Value} {A B : Int} {m k p : Nat} (cut : Int) (h : Num w u A m) (g : Num w v B k) (hp : m + k ≤ p) (hp2 : p ≤ 100000) (hcut : cut ≤ 9223372036854775807) :
    Calls Tryd.prog 94 #[.int .i64 cut, u, v] w fun e w' => RetN w (A * B) p e w' := by
  have hs : A * B < B64 ^ p := by
    refine Int.lt_of_lt_of_le (prod_lt h.lt g.lt h.nonneg g.nonneg) ?_
    rw [← Int.pow_add]
    exact pow_le_pow B64_pos hp
  obtain ⟨a, n, c, l, rfl, h1, h2, h3, h4, h5, rfl, h7⟩ := h.open
  obtain ⟨a', n', c', l', rfl, g1, g2, g3, g4, g5, rfl, g7⟩ := g.open
  exact (mul_any cut a n c l a' n' c' l' w h1 g1 h2 h3 g2 g3 h4 g4 h5 g5 (by omega) hcut).mono fun e w' hr => hr.retn hs

/-- The same, and true. -/
def RetDN (w : World) (N M : Int) (m k : Nat) (e : Ending) (w' : World) : Prop :=
  ∃ a n c a' n' c', e = .returned (.tuple #[.slice a n c, .slice a' n' c', .bool true]) ∧ NewN w.heap.size w' (.slice a n c) N m ∧ NewN w.heap.size w' (.slice a' n' c') M k ∧ Dis (.slice a n c) (.slice a' n' c') ∧ Below w.heap.size w w'

theorem dm_num {w : World} {u v : Value} {A B : Int} {m k : Nat} (h : Num w u A m) (g : Num w v B k) (hm : m ≤ 150) (hk : k ≤ 100000) (h0 : B ≠ 0) :
    Calls Tryd.prog 50 #[u, v] w fun e w' => RetDN w (A / B) (A % B) m k e w' := by
  have hA := h.nonneg
  have hB := g.nonneg
  have hs1 : A / B < B64 ^ m := Int.lt_of_le_of_lt (Int.ediv_le_self _ hA) h.lt
  have hs2 : A % B < B64 ^ k := Int.lt_trans (Int.emod_lt_of_pos A (by omega)) g.lt
  obtain ⟨a, n, c, l, rfl, h1, h2, h3, h4, h5, rfl, h7⟩ := h.open
  obtain ⟨a', n', c', l', rfl, g1, g2, g3, g4, g5, rfl, g7⟩ := g.open
  refine (dm_any a n c l a' n' c' l' w h1 g1 h2 h3 g2 g3 h4 g4 h5 g5 (by omega) (by omega) (by omega)).mono ?_
  rintro e w' ⟨vq, lq, vr, lr, rfl, q1, q2, q3, r1, r2, r3, hd, hb⟩
  obtain ⟨aq, nq, cq, rfl⟩ := q1.slice
  obtain ⟨ar, nr, cr, rfl⟩ := r1.slice
  exact ⟨aq, nq, cq, ar, nr, cr, rfl, q1.newn q2 q3 hs1, r1.newn r2 r3 hs2, hd, hb⟩
theorem dm_num0 {w : World} {u v : Value} {A : Int} {m k : Nat} (h : Num w u A m) (g : Num w v 0 k) :
    Calls Tryd.prog 50 #[u, v] w fun e w' => e = .returned (.tuple #[.slice none 0 0, .slice none 0 0, .bool false]) ∧ w = w' := by
  obtain ⟨a, n, c, l, rfl, h1, h2, h3, h4, h5, h6, h7⟩ := h.open
  obtain ⟨a', n', c', l', rfl, g1, g2, g3, g4, g5, g6, g7⟩ := g.open
  exact dm_zero a n c l a' n' c' l' w h1 g1 h2 h3 g2 g3 h4 g4 g5 g6


theorem info_nat : (Tryd.prog.info? 26).map (fun i => (i.zero, i.size, i.bytes)) = some (some (.slice none 0 0), 1, 24) := by kernel_rfl

/-- A row of the call's own whose cells are the values vs (slices of words). -/
def OwV (base : Nat) (w : World) (v : Value) (vs : List Value) : Prop := w.ownsRow base 26 1 v vs.length vs

theorem OwV.nil (base : Nat) (w : World) : OwV base w (.slice none 0 0) [] := World.ownsRow_nil _ _ _ _
theorem OwV.form {base : Nat} {w : World} {v : Value} {vs : List Value} (h : OwV base w v vs) : ∃ ao cap, v = .slice ao vs.length cap ∧ vs.length ≤ cap ∧ cap ≤ 9223372036854775807 ∧ RdRow w ao vs := by
  obtain ⟨h1, h2⟩ := h
  rcases h2 with ⟨rfl, h0⟩ | ⟨g, cap, cur, rfl, hg, hh, hn, hm, hc, ht⟩
  · obtain rfl : vs = [] := List.eq_nil_of_length_eq_zero h0
    exact ⟨none, 0, rfl, Nat.le_refl _, by omega, Or.inl rfl⟩
  · refine ⟨_, cap, rfl, hn, by simpa [maxLen] using hm, Or.inr ⟨g, 0, rfl, fun j v hv => ?_⟩⟩
    have hj : j < vs.length := (List.getElem?_eq_some_iff.1 hv).1
    rw [cell_of_row w g _ cur _ _ hh]
    have : (cur.toList.take (vs.length * 1))[j]? = vs[j]? := by rw [ht]
    rw [List.getElem?_take, if_pos (by omega), hv] at this
    simpa using this
theorem OwV.lt {base : Nat} {w : World} {v : Value} {vs : List Value} (h : OwV base w v vs) : ∀ g, v.ownBlock = some g → base ≤ g ∧ g < w.heap.size := by
  intro g hg
  rcases h.2 with ⟨rfl, _⟩ | ⟨g', cap, cur, rfl, hb, hh, _⟩
  · simp [Value.ownBlock] at hg
  · simp only [Value.ownBlock, Option.some.injEq] at hg
    subst hg
    exact ⟨hb, (Array.getElem?_eq_some_iff.1 hh).1⟩
theorem OwV.grown {base : Nat} {w w' : World} {v : Value} {vs : List Value} {row : Option Nat} (h : OwV base w v vs) (hg : w.grownBy w' row) (hne : ∀ g, v.ownBlock = some g → row ≠ some g) : OwV base w' v vs := by
  refine ⟨h.1, ?_⟩
  rcases h.2 with h2 | ⟨g, cap, cur, rfl, hb, hh, r⟩
  · exact Or.inl h2
  · refine Or.inr ⟨g, cap, cur, rfl, hb, ?_, r⟩
    rw [hg.block g (Array.getElem?_eq_some_iff.1 hh).1 (fun e => hne g rfl e.symm)]
    exact hh
theorem OwV.below {base : Nat} {w w' : World} {v : Value} {vs : List Value} (h : OwV base w v vs) (hb : Below w.heap.size w w') : OwV base w' v vs :=
  ⟨h.1, by
    rcases h.2 with h2 | ⟨g, cap, cur, hv, hg, hh, r⟩
    · exact Or.inl h2
    · exact Or.inr ⟨g, cap, cur, hv, hg, (hb.block g (Array.getElem?_eq_some_iff.1 hh).1).trans hh, r⟩⟩
theorem OwV.alloc {base : Nat} {w : World} {v : Value} {vs : List Value} (h : OwV base w v vs) (o : Obj) : OwV base (w.alloc o) v vs := World.ownsRow.alloc h o
theorem At.grown {w w' : World} {b off : Nat} {l : List Int} {row : Option Nat} (h : At w b off l) (hg : w.grownBy w' row) (hne : row ≠ some b) : At w' b off l := by
  intro j hj
  have hl : l ≠ [] := by intro e; subst e; simp at hj
  rw [World.cell?_of_block (w := w) (hg.block b (h.lt hl) (fun e => hne e.symm))]
  exact h j hj
theorem Rd.grown {w w' : World} {ao : Option Addr} {l : List Int} {row : Option Nat} (h : Rd w ao l) (hg : w.grownBy w' row) (hne : l ≠ [] → ∀ b o, ao = some ⟨b, o, none⟩ → row ≠ some b) : Rd w' ao l := by
  rcases h with rfl | ⟨b, off, e, h⟩
  · exact Rd.nil _ _
  · by_cases hl : l = []
    · subst hl; exact Rd.nil _ _
    · exact Or.inr ⟨b, off, e, h.grown hg (hne hl b off e)⟩

theorem grown_below {B : Nat} {w w' : World} {row : Option Nat} (h : w.grownBy w' row) (hB : B ≤ w.heap.size) (hr : ∀ g, row = some g → B ≤ g) : Below B w w' := (Below.refl _ _).grown h hB hr

/-- append(out, values ..), out of the call's own. -/
theorem wpList_append_vals {P : Program} (w : World) {ops : Array Oper} {rest : List Oper} {o : Oper} {a : Act} {Q : Exit → Act → World → Prop} (hgd : o.guard = none) (s x : Operand) (t : TypeId)
    (ho : o.op = .call { callee := .builtin .append, args := #[s, x], argTypes := #[t, t] }) (ht : P.underlying t = some (.slice 26)) (hi : (P.info? 26).map (fun i => (i.zero, i.size, i.bytes)) = some (some (.slice none 0 0), 1, 24))
    (base : Nat) (v : Value) (vs : List Value) (hs : a.eval s = v) (hown : OwV base w v vs)
    (ad : Addr) (m c : Nat) (us : List Value) (hx : a.eval x = .slice (some ad) m c) (hm : us.length = m) (hnews : ∀ j u, us[j]? = some u → w.cell? (ad.add j) = some u) (h1 : ∀ u ∈ us, u.oneCell' = true)
    (hM : vs.length + m ≤ 4294967296) (hbase : base ≤ w.heap.size)
    (hK : ∀ v' w', OwV base w' v' (vs ++ us) → w.grownBy w' v.ownBlock → (v'.ownBlock = v.ownBlock ∨ v'.ownBlock = some w.heap.size) → wpList P ops Q rest (a.put o.dst v') w') : wpList P ops Q (o :: rest) a w := by
  obtain ⟨i, h2, h3, h4, h5⟩ := info_parts hi
  refine wpList_append_own_at w hgd s x t ho base 26 i (.slice none 0 0) 1 24 ht h2 h3 h4 h5 rfl (by decide) v vs.length vs hs hown ad m c us hx (by rw [hm, Nat.mul_one]) hnews h1 (by unfold maxLen; omega) (by omega) hbase fun v' w' hown' hgr _ hat => ?_
  refine hK v' w' ?_ hgr hat
  unfold OwV
  rw [List.length_append, hm]
  exact hown'

/-- The same as one step of a region that draws its order. -/
theorem step_append_vals {P : Program} (w : World) {ops : Array Oper} {o : Oper} {a : Act} {K : Act → World → Prop} {Q : Exit → Act → World → Prop} {E : Prop} (hgd : o.guard = none) (s x : Operand) (t : TypeId)
    (ho : o.op = .call { callee := .builtin .append, args := #[s, x], argTypes := #[t, t] }) (ht : P.underlying t = some (.slice 26)) (hi : (P.info? 26).map (fun i => (i.zero, i.size, i.bytes)) = some (some (.slice none 0 0), 1, 24))
    (base : Nat) (v : Value) (vs : List Value) (hs : a.eval s = v) (hown : OwV base w v vs)
    (ad : Addr) (m c : Nat) (us : List Value) (hx : a.eval x = .slice (some ad) m c) (hm : us.length = m) (hnews : ∀ j u, us[j]? = some u → w.cell? (ad.add j) = some u) (h1 : ∀ u ∈ us, u.oneCell' = true)
    (hM : vs.length + m ≤ 4294967296) (hbase : base ≤ w.heap.size)
    (hK : ∀ v' w', OwV base w' v' (vs ++ us) → Below base w w' → K (a.put o.dst v') w') : if Region.wanted o (yielded ops a.tmps) = true then Oper.wp P o a w K Q else E := by
  have hw : Region.wanted o (yielded ops a.tmps) = true := by simp [Region.wanted, hgd]
  rw [if_pos hw]
  obtain ⟨i, h2, h3, h4, h5⟩ := info_parts hi
  refine wp_append_own w s x t ho base 26 i (.slice none 0 0) 1 24 ht h2 h3 h4 h5 rfl (by decide) v vs.length vs hs hown ad m c us hx (by rw [hm, Nat.mul_one]) hnews h1 (by unfold maxLen; omega) (by omega) hbase fun v' w' hown' hgr _ => ?_
  refine hK v' w' ?_ (grown_below hgr hbase (fun g e => (hown.lt g e).1))
  unfold OwV
  rw [List.length_append, hm]
  exact hown'

theorem newv1 (w : World) (a : Value) (t : TypeId) : ∀ j u, [a][j]? = some u → (w.alloc (.cells #[a] t)).cell? ((⟨w.heap.size, 0, none⟩ : Addr).add j) = some u := by
  intro j u hu
  rw [addr_add_none, Nat.zero_add, World.cell?_alloc_new]
  match j, hu with
  | 0, hu => simpa using hu

/-- Behind an append of one value to a row of the call's own, which lay in a new block first. -/
theorem below_app {B base : Nat} {w wr w2 : World} {o : Obj} {v : Value} {vs : List Value} (hb : Below B w wr) (hO : OwV base wr v vs) (hB : B ≤ base) (hs : base ≤ wr.heap.size) (hg : (wr.alloc o).grownBy w2 v.ownBlock) : Below B w w2 :=
  (hb.alloc (by omega) o).trans (grown_below hg (by simp; omega) (fun g e => by have := (hO.lt g e).1; omega))

end Go.Proofs.YtfanhllcoaondaaDoor

namespace Go.Proofs.YtfanhllcoaondaaDoor
open Go.RowKit

theorem NewN.mono {base : Nat} {w : World} {v : Value} {N : Int} {m k : Nat} (h : NewN base w v N m) (hk : m ≤ k) : NewN base w v N k := by
  obtain ⟨l, h1, h2, h3, h4⟩ := h
  exact ⟨l, h1, h2, h3, by omega⟩

set_option maxRecDepth 100000 in
set_option maxHeartbeats 1000000 in
theorem diff_num {w : World} {a : Option Addr} {n c : Nat} {A : Int} {m : Nat} {a' : Option Addr} {n' c' : Nat} {B : Int} {m' p : Nat} (hA : Num w (.slice a n c) A m) (hB : Num w (.slice a' n' c') B m') (hm : m ≤ p) (hm' : m' ≤ p) (hp : p ≤ 100000) :
    Calls Tryd.prog 61 #[.slice a n c, .slice a' n' c'] w fun e w' => RetW w (A - B) p e w' := by
  have hb0 := below_alloc w (.cells #[.bool false, .slice none 0 0] 28)
  have HA := hA.below hb0
  have HB := hB.below hb0
  have s0 := heap_alloc_new w (.cells #[.bool false, .slice none 0 0] 28)
  rcases Int.lt_or_le A B with hlt | hle
  · go_enter Tryd.func61, Tryd.ntmps61
    go_wp2_with fail
    refine (sub_num_no HA HB hlt).mono ?_
    rintro e w1 ⟨rfl, hb1⟩
    have s1 := slot_kept s0 hb1
    go_wp2_with fail
    refine (sub_num (HB.below hb1) (HA.below hb1) (by omega) (Int.le_of_lt hlt)).mono ?_
    rintro e w2 ⟨a1, n1, c1', rfl, h1, hb2⟩
    have s2 := slot_kept s1 hb2
    go_wp2_with fail
    refine (signed_num true h1).mono ?_
    rintro e w3 ⟨neg', rfl, hs, hz, hb3⟩
    have s3 := slot_kept s2 hb3
    obtain ⟨k0, k1, f0, f1⟩ := slot2 s3
    have hbw := hb0.trans (hb1.mono hb0.size)
    replace hbw := hbw.trans (hb2.mono hbw.size)
    replace hbw := hbw.trans (hb3.mono hbw.size)
    have hz1 := hb1.size
    obtain ⟨hend, hret⟩ := slot_end s3 hbw (Nat.le_refl _) ((h1.below hb3).mono hm') (by simp at hz1; omega) (show sg neg' (B - A) = A - B by rw [hs, sg_true]; omega) hz
    go_wp2_with fail
    exact bodyPost_ret (results_cell_row rfl _ _ w.heap.size 28 _ (0, 0) _ rfl hend Tryd.underlying28 rfl (by kernel_rfl)) rfl hret
  · go_enter Tryd.func61, Tryd.ntmps61
    go_wp2_with fail
    refine (sub_num HA HB (by omega) hle).mono ?_
    rintro e w2 ⟨a1, n1, c1', rfl, h1, hb2⟩
    have s2 := slot_kept s0 hb2
    go_wp2_with fail
    refine (signed_num false h1).mono ?_
    rintro e w3 ⟨neg', rfl, hs, hz, hb3⟩
    have s3 := slot_kept s2 hb3
    obtain ⟨k0, k1, f0, f1⟩ := slot2 s3
    have hbw := hb0.trans (hb2.mono hb0.size)
    replace hbw := hbw.trans (hb3.mono hbw.size)
    obtain ⟨hend, hret⟩ := slot_end s3 hbw (Nat.le_refl _) ((h1.below hb3).mono hm) (by simp) (show sg neg' (A - B) = A - B by rw [hs, sg_false]) hz
    go_wp2_with fail
    exact bodyPost_ret (results_cell_row rfl _ _ w.heap.size 28 _ (0, 0) _ rfl hend Tryd.underlying28 rfl (by kernel_rfl)) rfl hret

/-- The amount of a quotient that whole.Int.Quo returns. -/
def qm (neg up : Bool) (N D : Int) : Int := if N % D ≠ 0 ∧ neg ≠ up then N / D + 1 else N / D

theorem results_cell_tmp' {fn : Func} {p u : Tmp} {ty : TypeId} (h : fn.results = #[.cell p ty, .tmp u]) (tmps : Array Value) (P : Program) (w : World) (g : Nat) (t : TypeId) (cs : Array Value) (fr : Nat × Nat) (fs : Array Field)
    (hp : tmps.getD p undef = .pointer (some ⟨g, 0, none⟩)) (hg : w.heap[g]? = some (.cells cs t fr))
    (hu : P.underlying ty = some (.struct fs)) (hi : (P.info? ty).map (·.size) = some cs.size) :
    (results fn tmps).run P w = .ok (.tuple #[.agg cs, tmps.getD u undef]) w := by
  have hp' : tmps[p]?.getD undef = .pointer (some ⟨g, 0, none⟩) := by simpa using hp
  simp [results, h, hp', asAddr, run_loadVar_row w g t ty cs fr (.struct fs) hg hu rfl hi, Result.andThen]

/-- What whole.Int.Quo returns where the divisor is not 0. -/
def RetQ (w : World) (Z : Int) (m : Nat) (e : Ending) (w' : World) : Prop :=
  ∃ neg a n c N, e = .returned (.tuple #[.agg #[.bool neg, .slice a n c], .bool true]) ∧ NewN w.heap.size w' (.slice a n c) N m ∧ Z = sg neg N ∧ (neg = true → N ≠ 0) ∧ Below w.heap.size w w'
/-- What is known when a result that lies in a variable of its own has been stored; the parts. -/
theorem slot_end2 {w w2 : World} {x y : Value} {t : TypeId} {base : Nat} {neg' : Bool} {a : Option Addr} {n c : Nat} {N : Int} {m : Nat} {g : Nat} (hblk : w2.heap[g]? = some (.cells #[x, y] t (0, 0))) (hbw : Below w.heap.size w w2) (hg : w.heap.size ≤ g)
    (h : NewN base w2 (.slice a n c) N m) (hbase : g < base) :
    ((w2.setCell ⟨g, 0, none⟩ (.bool neg')).setCell ⟨g, 1, none⟩ (.slice a n c)).heap[g]? = some (.cells #[.bool neg', .slice a n c] t (0, 0)) ∧
    NewN w.heap.size ((w2.setCell ⟨g, 0, none⟩ (.bool neg')).setCell ⟨g, 1, none⟩ (.slice a n c)) (.slice a n c) N m ∧ Below w.heap.size w ((w2.setCell ⟨g, 0, none⟩ (.bool neg')).setCell ⟨g, 1, none⟩ (.slice a n c)) := by
  have hon := slot_only (w := w2) (g := g) (.bool neg') (.slice a n c)
  exact ⟨slot_set hblk, (h.only hon hbase).base (Nat.le_trans hg (Nat.le_of_lt hbase)), hbw.trans (hon.below hg hbw.size)⟩
theorem heap_alloc3_new (w : World) (A B C : Obj) : (((w.alloc A).alloc B).alloc C).heap[w.heap.size + 2]? = some C := by
  have h := heap_alloc_new ((w.alloc A).alloc B) C
  have e : ((w.alloc A).alloc B).heap.size = w.heap.size + 2 := by simp
  rwa [e] at h

set_option maxRecDepth 100000 in
set_option maxHeartbeats 2000000 in
theorem quo_zero {w : World} (p q up : Bool) {a : Option Addr} {n c : Nat} {A : Int} {m : Nat} {a' : Option Addr} {n' c' : Nat} {m' : Nat} (hA : Num w (.slice a n c) A m) (hB : Num w (.slice a' n' c') 0 m') :
    Calls Tryd.prog 11 #[.agg #[.bool p, .slice a n c], .agg #[.bool q, .slice a' n' c'], .bool up] w fun e w' => RetV w (.tuple #[.agg #[.bool false, .slice none 0 0], .bool false]) e w' := by
  have hb0 := below_alloc w (.cells #[.bool p, .slice a n c] 28)
  have hb1 := hb0.alloc (Nat.le_of_lt (by simp)) (.cells #[.bool q, .slice a' n' c'] 28)
  have hb2 := hb1.alloc (Nat.le_of_lt (by simp; omega)) (.cells #[.bool false, .slice none 0 0] 28)
  have HA := hA.below hb2
  have HB := hB.below hb2
  have s0 := heap_alloc3_new w (.cells #[.bool p, .slice a n c] 28) (.cells #[.bool q, .slice a' n' c'] 28) (.cells #[.bool false, .slice none 0 0] 28)
  obtain ⟨ng, hng⟩ : ∃ ng, (!(p == q)) = ng := ⟨_, rfl⟩
  have hnil : NewN (w.heap.size + 3) (((w.alloc (.cells #[.bool p, .slice a n c] 28)).alloc (.cells #[.bool q, .slice a' n' c'] 28)).alloc (.cells #[.bool false, .slice none 0 0] 28)) (.slice none 0 0) 0 0 := ⟨[], Ow.nil _ _, Can.nil _, rfl, Nat.le_refl _⟩
  go_enter Tryd.func11, Tryd.ntmps11
  go_wp2_with fail
  refine (dm_num0 HA HB).mono ?_
  rintro e w' ⟨rfl, rfl⟩
  go_wp2_with fail
  refine (signed_num ng hnil).mono ?_
  rintro e w3 ⟨neg', rfl, hs, hz, hb3⟩
  obtain rfl : neg' = false := by
    cases neg' with
    | false => rfl
    | true => exact absurd rfl (hz rfl)
  have s3 := slot_kept s0 hb3
  obtain ⟨k0, k1, f0, f1⟩ := slot2 s3
  have hbw := hb2.trans (hb3.mono hb2.size)
  have hon := slot_only (w := w3) (g := w.heap.size + 2) (.bool false) (.slice none 0 0)
  have hend := slot_set (u := .bool false) (v := .slice none 0 0) s3
  have hfin := hbw.trans (hon.below (Nat.le_add_right _ _) hbw.size)
  go_wp2_with fail
  refine bodyPost_ret (results_cell_tmp' rfl _ _ _ (w.heap.size + 2) 28 _ (0, 0) _ rfl hend Tryd.underlying28 (by kernel_rfl)) rfl ?_
  exact ⟨rfl, hfin⟩

set_option maxRecDepth 100000 in
set_option maxHeartbeats 2000000 in
theorem quo_num {w : World} (p q up : Bool) {a : Option Addr} {n c : Nat} {A : Int} {m : Nat} {a' : Option Addr} {n' c' : Nat} {B : Int} {m' r : Nat} (hA : Num w (.slice a n c) A m) (hB : Num w (.slice a' n' c') B m') (hB0 : B ≠ 0) (hm : m ≤ 150) (hm' : m' ≤ 1000) (hr1 : 1 ≤ m) (hr : m + 1 ≤ r) (hr2 : r ≤ 1000) :
    Calls Tryd.prog 11 #[.agg #[.bool p, .slice a n c], .agg #[.bool q, .slice a' n' c'], .bool up] w fun e w' => RetQ w (sg (!(p == q)) (qm (!(p == q)) up A B)) r e w' := by
  have hb0 := below_alloc w (.cells #[.bool p, .slice a n c] 28)
  have hb1 := hb0.alloc (Nat.le_of_lt (by simp)) (.cells #[.bool q, .slice a' n' c'] 28)
  have hb2 := hb1.alloc (Nat.le_of_lt (by simp; omega)) (.cells #[.bool false, .slice none 0 0] 28)
  have HA := hA.below hb2
  have HB := hB.below hb2
  have s0 := heap_alloc3_new w (.cells #[.bool p, .slice a n c] 28) (.cells #[.bool q, .slice a' n' c'] 28) (.cells #[.bool false, .slice none 0 0] 28)
  have t0 := slot_kept (heap_alloc2_old w (.cells #[.bool p, .slice a n c] 28) (.cells #[.bool q, .slice a' n' c'] 28)) (below_alloc _ (.cells #[.bool false, .slice none 0 0] 28))
  have u0 := slot_kept (heap_alloc2_new w (.cells #[.bool p, .slice a n c] 28) (.cells #[.bool q, .slice a' n' c'] 28)) (below_alloc _ (.cells #[.bool false, .slice none 0 0] 28))
  obtain ⟨ng, hng⟩ : ∃ ng, (!(p == q)) = ng := ⟨_, rfl⟩
  rw [hng]
  go_enter Tryd.func11, Tryd.ntmps11
  go_wp2_with fail
  refine (dm_num HA HB hm (by omega) hB0).mono ?_
  rintro e w1 ⟨aQ, nQ, cQ, aR, nR, cR, rfl, hQ, hR, -, hbN⟩
  have s1 := slot_kept s0 hbN
  obtain ⟨e0, e1, ef0, ef1⟩ := slot2 (slot_kept t0 hbN)
  obtain ⟨g0, g1, gf0, gf1⟩ := slot2 (slot_kept u0 hbN)
  have hbw := hb2.trans (hbN.mono hb2.size)
  have hsz := hbN.size
  have hw1 : w.heap.size + 3 ≤ w1.heap.size := by simp at hsz; omega
  have hQ3 : NewN (w.heap.size + 3) w1 (.slice aQ nQ cQ) (A / B) m := hQ.base (by simp)
  by_cases hadd : A % B ≠ 0 ∧ ng ≠ up
  · have hqm : qm ng up A B = A / B + 1 := by rw [qm, if_pos hadd]
    have HQM := Lib.hid hqm
    have hnR : 0 < nR := by
      have := hR.len.1
      by_cases h0 : nR = 0
      · exact absurd (this.1 h0) hadd.1
      · omega
    have hnu : (!(ng == up)) = true := by have := hadd.2; simpa using this
    have hnRI : (0 : Int) < (nR : Int) := by omega
    clear hadd hqm hR
    go_wp2_with fail
    refine (of1_num 1 _ w1 (by decide) (by decide)).mono ?_
    rintro e w2 ⟨a1, n1, c1, rfl, h1, hb3⟩
    have s2 := slot_kept s1 hb3
    have hbw2 := hbw.trans (hb3.mono hbw.size)
    go_wp2_with fail
    refine (add2_num (p := r) (hQ.num.below hb3) h1.num (by omega) (by omega) (by omega)).mono ?_
    rintro e w3 ⟨a2, n2, c2, rfl, h2, hb4⟩
    have s3 := slot_kept s2 hb4
    have hbw3 := hbw2.trans (hb4.mono hbw2.size)
    have h23 : w1.heap.size ≤ w2.heap.size := hb3.size
    go_wp2_with fail
    refine (signed_num ng h2).mono ?_
    rintro e w4 ⟨neg', rfl, hs, hz, hb5⟩
    have s4 := slot_kept s3 hb5
    obtain ⟨k0, k1, f0, f1⟩ := slot2 s4
    have hbw4 := hbw3.trans (hb5.mono hbw3.size)
    obtain ⟨hend, hN, hfin⟩ := slot_end2 (neg' := neg') s4 hbw4 (Nat.le_add_right _ _) (h2.below hb5) (by omega)
    go_wp2_with fail
    refine bodyPost_ret (results_cell_tmp' rfl _ _ _ (w.heap.size + 2) 28 _ (0, 0) _ rfl hend Tryd.underlying28 (by kernel_rfl)) rfl ?_
    exact ⟨neg', _, _, _, _, rfl, hN, by rw [hs, HQM.out], hz, hfin⟩
  · have hqm : qm ng up A B = A / B := by rw [qm, if_neg hadd]
    have HQM := Lib.hid hqm
    have hcase : (nR : Int) = 0 ∧ nR = 0 ∨ 0 < nR ∧ (!(ng == up)) = false := by
      by_cases h0 : nR = 0
      · exact Or.inl ⟨by omega, h0⟩
      · right
        refine ⟨by omega, ?_⟩
        have := hR.len.1
        have h1 : A % B ≠ 0 := fun e => h0 (this.2 e)
        have h2 : ng = up := by
          by_cases e : ng = up
          · exact e
          · exact absurd ⟨h1, e⟩ hadd
        simp [h2]
    clear hadd hqm hR
    rcases hcase with ⟨h0, rfl⟩ | ⟨h0, hnu⟩
    · go_wp2_with fail
      refine (signed_num ng hQ3).mono ?_
      rintro e w4 ⟨neg', rfl, hs, hz, hb5⟩
      have s4 := slot_kept s1 hb5
      obtain ⟨k0, k1, f0, f1⟩ := slot2 s4
      have hbw4 := hbw.trans (hb5.mono hbw.size)
      obtain ⟨hend, hN, hfin⟩ := slot_end2 (neg' := neg') s4 hbw4 (Nat.le_add_right _ _) ((hQ3.below hb5).mono (show m ≤ r by omega)) (by omega)
      go_wp2_with fail
      refine bodyPost_ret (results_cell_tmp' rfl _ _ _ (w.heap.size + 2) 28 _ (0, 0) _ rfl hend Tryd.underlying28 (by kernel_rfl)) rfl ?_
      exact ⟨neg', _, _, _, _, rfl, hN, by rw [hs, HQM.out], hz, hfin⟩
    · have hnRI : (0 : Int) < (nR : Int) := by omega
      go_wp2_with fail
      refine (signed_num ng hQ3).mono ?_
      rintro e w4 ⟨neg', rfl, hs, hz, hb5⟩
      have s4 := slot_kept s1 hb5
      obtain ⟨k0, k1, f0, f1⟩ := slot2 s4
      have hbw4 := hbw.trans (hb5.mono hbw.size)
      obtain ⟨hend, hN, hfin⟩ := slot_end2 (neg' := neg') s4 hbw4 (Nat.le_add_right _ _) ((hQ3.below hb5).mono (show m ≤ r by omega)) (by omega)
      go_wp2_with fail
      refine bodyPost_ret (results_cell_tmp' rfl _ _ _ (w.heap.size + 2) 28 _ (0, 0) _ rfl hend Tryd.underlying28 (by kernel_rfl)) rfl ?_
      exact ⟨neg', _, _, _, _, rfl, hN, by rw [hs, HQM.out], hz, hfin⟩

end Go.Proofs.YtfanhllcoaondaaDoor
