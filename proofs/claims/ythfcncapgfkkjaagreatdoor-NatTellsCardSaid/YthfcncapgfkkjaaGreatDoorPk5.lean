/-
  Trim: Contracts of the smallest functions of package nat: trim, and the two calls of math/bits that the model stands in for. Contracts of nat.addTo and nat.subFrom: a number is added to, taken from, the number in a row, in place.
-/
import Derived.Test.YthfcncapgfkkjaaGreatDoorProg
import Derived.Test.YthfcncapgfkkjaaGreatDoorPk2

namespace Go.Proofs.YthfcncapgfkkjaaGreatDoor
open Go.RowKit


/-- a[:n] of a slice whose address is not known. -/
theorem addr_add_zero (a : Addr) : a.add 0 = a := by cases a with | mk b o s => cases s <;> simp [Addr.add]
theorem map_add_zero (ao : Option Addr) : ao.map (fun x => x.add 0) = ao := by cases ao <;> simp [addr_add_zero]

set_option maxHeartbeats 400000 in
theorem trim_any (ao : Option Addr) (n cap : Nat) (l : List Int) (w : World) (hn : n = l.length) (hl : n ≤ cap) (hcap : cap ≤ 9223372036854775807) (h : Rd w ao l) :
    Calls Tryz.prog 28 #[.slice ao n cap] w fun e w' => e = .returned (.slice ao (tlen l) cap) ∧ w = w' := by
  subst hn
  by_cases h0 : l = []
  · subst h0
    go_enter Tryz.func28, Tryz.ntmps28
    go_wp2
    refine wp_loop_rounds 1 ?_
    rw [rounds_succ]
    go_wp2
    go_ret
    exact ⟨rfl, rfl⟩
  · obtain ⟨b, off, rfl, hc⟩ := h.cases h0
    go_enter Tryz.func28, Tryz.ntmps28
    go_wp2
    go_loop [3] (fun n => ∃ k : Nat, k ≤ l.length ∧ n = .int .i64 k ∧ (∀ j, k ≤ j → j < l.length → l.getD j 0 = 0)) (fun n => (intOf n).toNat)
    case atStart => exact ⟨l.length, Nat.le_refl _, rfl, fun j h1 h2 => by omega⟩
    case round =>
      obtain ⟨k, hk, rfl, hz⟩ := hrel
      have hcell : 0 < k → w.cell? ⟨b, off + (k - 1), none⟩ = some (.int .u64 (l.getD (k-1) 0)) := fun _ => hc _ (by omega)
      clear hc
      have HZ := Lib.hid hz
      clear hz
      go_wp2
      · have hp : 0 < k := by assumption
        have he : (l[k - 1]?.getD 0 == 0) = true := by assumption
        go_round
        case rel =>
          refine ⟨k - 1, by omega, by go_num, ?_⟩
          intro j h1 h2
          by_cases hj : j = k - 1
          · subst hj; rw [List.getD_eq_getElem?_getD]; simpa using he
          · exact HZ.out j (by omega) h2
        case measure => simp [intOf]; omega
      · have hp : 0 < k := by assumption
        have he : (l[k - 1]?.getD 0 == 0) = false := by assumption
        go_ret
        exact ⟨by rw [tlen_eq hk HZ.out (Or.inr (by rw [List.getD_eq_getElem?_getD]; simpa using he))]; rfl, rfl⟩
      · have hp : ¬ 0 < k := by assumption
        go_ret
        exact ⟨by rw [tlen_eq hk HZ.out (Or.inl (by omega))]; rfl, rfl⟩


/-- The model's own entry for math/bits.Sub64. -/
def sub64Entry : Array Value → Sem Value := fun args => do
  let (x, y, b) ← Extern.MathBitsCarry.three "Sub64" args
  pure (Extern.MathBitsCarry.pair ((x + Extern.MathBitsCarry.m64 - y - b) % Extern.MathBitsCarry.m64) (if x < y + b then 1 else 0))

theorem add64_run (x y c : Int) (hx : 0 ≤ x ∧ x < B64) (hy : 0 ≤ y ∧ y < B64) (hc : 0 ≤ c ∧ c ≤ 1) (w : World) :
    (callFunc 69 #[.int .u64 x, .int .u64 y, .int .u64 c]).run Tryz.prog w = .ok (.value (.tuple #[.int .u64 (lo64 (x + y + c)), .int .u64 (hi64 (x + y + c))])) w := by
  rw [run_callFunc_extern Tryz.func69 (by kernel_rfl) (by kernel_rfl) (by kernel_rfl) (e := add64Entry) (by kernel_rfl), run_add64 x y c hx.1 hy.1 hc.1 hc.2]
  rfl

theorem sub64_run (x y c : Int) (hx : 0 ≤ x ∧ x < B64) (hy : 0 ≤ y ∧ y < B64) (hc : 0 ≤ c ∧ c ≤ 1) (w : World) :
    (callFunc 78 #[.int .u64 x, .int .u64 y, .int .u64 c]).run Tryz.prog w = .ok (.value (.tuple #[.int .u64 (lo64 (x - y - c)), .int .u64 (bo64 (x - y - c))])) w := by
  rw [run_callFunc_extern Tryz.func78 (by kernel_rfl) (by kernel_rfl) (by kernel_rfl) (e := sub64Entry) (by kernel_rfl)]
  obtain ⟨x, rfl⟩ := Int.eq_ofNat_of_zero_le hx.1
  obtain ⟨y, rfl⟩ := Int.eq_ofNat_of_zero_le hy.1
  obtain ⟨c, rfl⟩ := Int.eq_ofNat_of_zero_le hc.1
  have e1 : lo64 ((x : Int) - y - c) = (((x + 18446744073709551616 - y - c) % 18446744073709551616 : Nat) : Int) := by unfold lo64; unfold B64 at hx hy; omega
  have e2 : bo64 ((x : Int) - y - c) = ((if x < y + c then 1 else 0 : Nat) : Int) := by unfold bo64; unfold B64 at hx hy; split <;> omega
  have : c = 0 ∨ c = 1 := by omega
  rw [e1, e2]
  rcases this with rfl | rfl <;> rfl

/-- What is left where a function has written the number N into the n words at b, off. -/
def InPl (b off n : Nat) (N : Int) (w w' : World) : Prop := ∃ l : List Int, l.length = n ∧ Lim B64 l ∧ Arr w' b off l ∧ vb B64 l = N ∧ Only b off (off + n) w w'

set_option maxHeartbeats 1000000 in
theorem addTo_any (b off n cap : Nat) (lo : List Int) (ax : Option Addr) (nx cx : Nat) (lx : List Int) (w : World) (hn : n = lo.length) (hnx : nx = lx.length)
    (hc1 : n ≤ cap) (hc2 : cap ≤ 9223372036854775807) (_hc3 : nx ≤ cx) (_hc4 : cx ≤ 9223372036854775807) (ha : Arr w b off lo) (hx : Rd w ax lx) (hne : lx ≠ [] → ∀ b' off', ax = some ⟨b', off', none⟩ → b' ≠ b)
    (hll : Lim B64 lo) (hlx : Lim B64 lx) (hfit : vb B64 lo + vb B64 lx < B64 ^ n) (hlen : nx ≤ n) :
    Calls Tryz.prog 29 #[.slice (some ⟨b, off, none⟩) n cap, .slice ax nx cx] w fun e w' => e = .returned (.tuple #[]) ∧ InPl b off n (vb B64 lo + vb B64 lx) w w' := by
  have HF := Lib.hid hfit
  have HN := Lib.hid hn
  have HX := Lib.hid hnx
  clear hfit hn hnx
  go_enter Tryz.func29, Tryz.ntmps29
  go_wp2
  go_loopw [4, 10] (fun c i wr => ∃ (k : Nat) (c' : Int) (l : List Int), k ≤ nx ∧ i = .int .i64 k ∧ c = .int .u64 c' ∧ 0 ≤ c' ∧ c' ≤ 1 ∧ Hid (l.length = n) ∧ Lim B64 l ∧ Arr wr b off l ∧ Only b off (off + n) w wr ∧ Hid (vb B64 l + B64 ^ k * c' = vb B64 lo + vb B64 (lx.take k)))
    (fun _ i _ => nx - (intOf i).toNat)
  case atStart => exact ⟨0, 0, lo, Nat.zero_le _, rfl, rfl, Int.le_refl _, by decide, HN.out.symm, hll, ha, Only.refl _ _ _ _, by simp [Hid]⟩
  case round =>
    obtain ⟨k, c, l, hk, rfl, rfl, hc0, hc5, HL, hlim, harr, honly, HV⟩ := hrel
    by_cases hlt : k < nx
    · have hlx0 : lx ≠ [] := by intro e; subst e; have := HX.out; simp at this; omega
      obtain ⟨b', off', rfl, hat⟩ := hx.cases hlx0
      have hne' := hne hlx0 b' off' rfl
      obtain ⟨x, hxe⟩ : ∃ x, x = lx.getD k 0 := ⟨_, rfl⟩
      obtain ⟨y, hye⟩ : ∃ y, y = l.getD k 0 := ⟨_, rfl⟩
      have hcx : wr.cell? ⟨b', off' + k, none⟩ = some (.int .u64 x) := by rw [hxe]; exact honly.at' hat hne' k (by rw [← HX.out]; exact hlt)
      have hcy : wr.cell? ⟨b, off + k, none⟩ = some (.int .u64 y) := by rw [hye]; exact harr.at' k (by rw [HL.out]; omega)
      have hfr := harr.frozen (off + k)
      have bx : 0 ≤ x ∧ x < B64 := by rw [hxe]; exact hlx.getD B64_pos k
      have by' : 0 ≤ y ∧ y < B64 := by rw [hye]; exact hlim.getD B64_pos k
      have cb := hi64_carry by' bx ⟨hc0, hc5⟩
      have HXE := Lib.hid hxe
      have HYE := Lib.hid hye
      clear hxe hye
      go_wp2_with (simp only [add64_run y x c by' bx ⟨hc0, hc5⟩])
      go_roundw
      case rel =>
        refine ⟨k + 1, _, l.set k (lo64 (y + x + c)), by omega, by go_num, rfl, cb.1, cb.2, ?_, hlim.set k (lo64_lim _).1 (lo64_lim _).2, harr.store k _, honly.trans (Only.store _ _ (by omega) (by omega)), ?_⟩
        · show _ = _
          rw [List.length_set]; exact HL.out
        · have hlk : k < l.length := by rw [HL.out]; omega
          have := add_step (x := x) hlk HV.out
          rw [← HYE.out] at this
          show _ = _
          rw [this, vb_take_succ _ (by rw [← HX.out]; exact hlt), ← HXE.out, Int.add_assoc]
      case measure => simp [intOf]; omega
    · have hkn : k = nx := by omega
      have hV2 : vb B64 l + B64 ^ nx * c = vb B64 lo + vb B64 lx := by
        have := HV.out
        rw [hkn, List.take_of_length_le (by rw [← HX.out]; omega)] at this
        exact this
      have HV2 := Lib.hid hV2
      clear hV2 HV hkn
      go_wp2
      go_loopw [4, 7] (fun c i wr2 => ∃ (k : Nat) (c' : Int) (l : List Int), k ≤ n ∧ i = .int .i64 k ∧ c = .int .u64 c' ∧ 0 ≤ c' ∧ c' ≤ 1 ∧ Hid (l.length = n) ∧ Lim B64 l ∧ Arr wr2 b off l ∧ Only b off (off + n) w wr2 ∧ Hid (vb B64 l + B64 ^ k * c' = vb B64 lo + vb B64 lx))
        (fun _ i _ => n - (intOf i).toNat)
      case atStart => exact ⟨nx, c, l, hlen, rfl, rfl, hc0, hc5, HL, hlim, harr, honly, HV2⟩
      case round =>
        clear HL hlim harr honly HV2 hc0 hc5 hlt hk
        obtain ⟨k, c, l, hk, rfl, rfl, hc0, hc5, HL, hlim, harr, honly, HV⟩ := hrel
        by_cases hlt : 0 < c
        · have hkn : k < n := by
            have := carry_room hlim hlt HV.out (by rw [HL.out]; exact HF.out)
            rwa [HL.out] at this
          obtain ⟨y, hye⟩ : ∃ y, y = l.getD k 0 := ⟨_, rfl⟩
          have hcy : wr.cell? ⟨b, off + k, none⟩ = some (.int .u64 y) := by rw [hye]; exact harr.at' k (by rw [HL.out]; omega)
          have hfr := harr.frozen (off + k)
          have by' : 0 ≤ y ∧ y < B64 := by rw [hye]; exact hlim.getD B64_pos k
          have bx : (0 : Int) ≤ 0 ∧ (0 : Int) < B64 := by decide
          have cb := hi64_carry by' bx ⟨hc0, hc5⟩
          rw [Int.add_zero] at cb
          have HYE := Lib.hid hye
          clear hye
          go_wp2_with (simp only [add64_run y 0 c by' bx ⟨hc0, hc5⟩])
          go_roundw
          case rel =>
            refine ⟨k + 1, _, l.set k (lo64 (y + c)), by omega, by go_num, rfl, cb.1, cb.2, ?_, hlim.set k (lo64_lim _).1 (lo64_lim _).2, harr.store k _, honly.trans (Only.store _ _ (by omega) (by omega)), ?_⟩
            · show _ = _
              rw [List.length_set]; exact HL.out
            · have hlk : k < l.length := by rw [HL.out]; omega
              have := add_step (x := 0) hlk HV.out
              rw [← HYE.out, Int.add_zero, Int.mul_zero, Int.add_zero] at this
              exact this
          case measure => simp [intOf]; omega
        · have hc : c = 0 := by omega
          go_wp2
          go_end0
          refine ⟨rfl, l, HL.out, hlim, harr, ?_, honly⟩
          have := HV.out
          rw [hc, Int.mul_zero, Int.add_zero] at this
          exact this
set_option maxHeartbeats 1000000 in
theorem subFrom_any (b off n cap : Nat) (lo : List Int) (ax : Option Addr) (nx cx : Nat) (lx : List Int) (w : World) (hn : n = lo.length) (hnx : nx = lx.length)
    (hc1 : n ≤ cap) (hc2 : cap ≤ 9223372036854775807) (_hc3 : nx ≤ cx) (_hc4 : cx ≤ 9223372036854775807) (ha : Arr w b off lo) (hx : Rd w ax lx) (hne : lx ≠ [] → ∀ b' off', ax = some ⟨b', off', none⟩ → b' ≠ b)
    (hll : Lim B64 lo) (hlx : Lim B64 lx) (hfit : vb B64 lx ≤ vb B64 lo) (hlen : nx ≤ n) :
    Calls Tryz.prog 36 #[.slice (some ⟨b, off, none⟩) n cap, .slice ax nx cx] w fun e w' => e = .returned (.tuple #[]) ∧ InPl b off n (vb B64 lo - vb B64 lx) w w' := by
  have HF := Lib.hid hfit
  have HN := Lib.hid hn
  have HX := Lib.hid hnx
  clear hfit hn hnx
  go_enter Tryz.func36, Tryz.ntmps36
  go_wp2
  go_loopw [4, 10] (fun c i wr => ∃ (k : Nat) (c' : Int) (l : List Int), k ≤ nx ∧ i = .int .i64 k ∧ c = .int .u64 c' ∧ 0 ≤ c' ∧ c' ≤ 1 ∧ Hid (l.length = n) ∧ Lim B64 l ∧ Arr wr b off l ∧ Only b off (off + n) w wr ∧ Hid (vb B64 l - B64 ^ k * c' = vb B64 lo - vb B64 (lx.take k)))
    (fun _ i _ => nx - (intOf i).toNat)
  case atStart => exact ⟨0, 0, lo, Nat.zero_le _, rfl, rfl, Int.le_refl _, by decide, HN.out.symm, hll, ha, Only.refl _ _ _ _, by simp [Hid]⟩
  case round =>
    obtain ⟨k, c, l, hk, rfl, rfl, hc0, hc5, HL, hlim, harr, honly, HV⟩ := hrel
    by_cases hlt : k < nx
    · have hlx0 : lx ≠ [] := by intro e; subst e; have := HX.out; simp at this; omega
      obtain ⟨b', off', rfl, hat⟩ := hx.cases hlx0
      have hne' := hne hlx0 b' off' rfl
      obtain ⟨x, hxe⟩ : ∃ x, x = lx.getD k 0 := ⟨_, rfl⟩
      obtain ⟨y, hye⟩ : ∃ y, y = l.getD k 0 := ⟨_, rfl⟩
      have hcx : wr.cell? ⟨b', off' + k, none⟩ = some (.int .u64 x) := by rw [hxe]; exact honly.at' hat hne' k (by rw [← HX.out]; exact hlt)
      have hcy : wr.cell? ⟨b, off + k, none⟩ = some (.int .u64 y) := by rw [hye]; exact harr.at' k (by rw [HL.out]; omega)
      have hfr := harr.frozen (off + k)
      have bx : 0 ≤ x ∧ x < B64 := by rw [hxe]; exact hlx.getD B64_pos k
      have by' : 0 ≤ y ∧ y < B64 := by rw [hye]; exact hlim.getD B64_pos k
      have cb := bo64_carry by' bx ⟨hc0, hc5⟩
      have HXE := Lib.hid hxe
      have HYE := Lib.hid hye
      clear hxe hye
      go_wp2_with (simp only [sub64_run y x c by' bx ⟨hc0, hc5⟩])
      go_roundw
      case rel =>
        refine ⟨k + 1, _, l.set k (lo64 (y - x - c)), by omega, by go_num, rfl, cb.1, cb.2, ?_, hlim.set k (lo64_lim _).1 (lo64_lim _).2, harr.store k _, honly.trans (Only.store _ _ (by omega) (by omega)), ?_⟩
        · show _ = _
          rw [List.length_set]; exact HL.out
        · have hlk : k < l.length := by rw [HL.out]; omega
          have := sub_step (x := x) hlk HV.out
          rw [← HYE.out] at this
          show _ = _
          rw [this, vb_take_succ _ (by rw [← HX.out]; exact hlt), ← HXE.out]; omega
      case measure => simp [intOf]; omega
    · have hkn : k = nx := by omega
      have hV2 : vb B64 l - B64 ^ nx * c = vb B64 lo - vb B64 lx := by
        have := HV.out
        rw [hkn, List.take_of_length_le (by rw [← HX.out]; omega)] at this
        exact this
      have HV2 := Lib.hid hV2
      clear hV2 HV hkn
      go_wp2
      go_loopw [4, 7] (fun c i wr2 => ∃ (k : Nat) (c' : Int) (l : List Int), k ≤ n ∧ i = .int .i64 k ∧ c = .int .u64 c' ∧ 0 ≤ c' ∧ c' ≤ 1 ∧ Hid (l.length = n) ∧ Lim B64 l ∧ Arr wr2 b off l ∧ Only b off (off + n) w wr2 ∧ Hid (vb B64 l - B64 ^ k * c' = vb B64 lo - vb B64 lx))
        (fun _ i _ => n - (intOf i).toNat)
      case atStart => exact ⟨nx, c, l, hlen, rfl, rfl, hc0, hc5, HL, hlim, harr, honly, HV2⟩
      case round =>
        clear HL hlim harr honly HV2 hc0 hc5 hlt hk
        obtain ⟨k, c, l, hk, rfl, rfl, hc0, hc5, HL, hlim, harr, honly, HV⟩ := hrel
        by_cases hlt : 0 < c
        · have hkn : k < n := by
            have := borrow_room hlim hlt HV.out (by have := HF.out; omega)
            rwa [HL.out] at this
          obtain ⟨y, hye⟩ : ∃ y, y = l.getD k 0 := ⟨_, rfl⟩
          have hcy : wr.cell? ⟨b, off + k, none⟩ = some (.int .u64 y) := by rw [hye]; exact harr.at' k (by rw [HL.out]; omega)
          have hfr := harr.frozen (off + k)
          have by' : 0 ≤ y ∧ y < B64 := by rw [hye]; exact hlim.getD B64_pos k
          have bx : (0 : Int) ≤ 0 ∧ (0 : Int) < B64 := by decide
          have cb := bo64_carry by' bx ⟨hc0, hc5⟩
          rw [Int.sub_zero] at cb
          have HYE := Lib.hid hye
          clear hye
          go_wp2_with (simp only [sub64_run y 0 c by' bx ⟨hc0, hc5⟩])
          go_roundw
          case rel =>
            refine ⟨k + 1, _, l.set k (lo64 (y - c)), by omega, by go_num, rfl, cb.1, cb.2, ?_, hlim.set k (lo64_lim _).1 (lo64_lim _).2, harr.store k _, honly.trans (Only.store _ _ (by omega) (by omega)), ?_⟩
            · show _ = _
              rw [List.length_set]; exact HL.out
            · have hlk : k < l.length := by rw [HL.out]; omega
              have := sub_step (x := 0) hlk HV.out
              rw [← HYE.out, Int.sub_zero, Int.mul_zero, Int.sub_zero] at this
              exact this
          case measure => simp [intOf]; omega
        · have hc : c = 0 := by omega
          go_wp2
          go_end0
          refine ⟨rfl, l, HL.out, hlim, harr, ?_, honly⟩
          have := HV.out
          rw [hc, Int.mul_zero, Int.sub_zero] at this
          exact this

end Go.Proofs.YthfcncapgfkkjaaGreatDoor
