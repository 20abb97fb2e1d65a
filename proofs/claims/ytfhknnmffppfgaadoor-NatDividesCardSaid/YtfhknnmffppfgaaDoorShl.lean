/-
  Contracts of nat.Shl and nat.Shr.
-/
import Derived.Test.YtfhknnmffppfgaaDoorShiftDn
namespace Go.Proofs.YtfhknnmffppfgaaDoor
open Go.RowKit

set_option maxRecDepth 100000 in
theorem shl_up (ao : Option Addr) (n cap : Nat) (l : List Int) (k : Nat) (w : World) (hn : n = l.length) (h1 : n ≤ cap) (h2 : cap ≤ 9223372036854775807) (h : Rd w ao l) (hl : Lim B64 l) (hk : k ≤ 16777216) (hM : n + 300000 ≤ MaxW) :
    Calls Tryd.prog 19 #[.slice ao n cap, .int .i64 k] w fun e w' => RetNum w (vb B64 l * 2 ^ k) e w' := by
  have HC := Lib.hid (shiftUp_any ao n cap l k w hn h1 h2 h hl hk hM)
  have e1 : ¬ (16777216 : Int) < k := by omega
  have e2 : ¬ (k : Int) < -16777216 := by omega
  have e3 : ¬ (k : Int) < 0 := by omega
  clear hn h hl hM hk
  go_enter Tryd.func19, Tryd.ntmps19
  go_wp2_with (go_at_call 68; refine HC.out.mono ?_; rintro e w' ⟨v, l', rfl, hO, hcan, hv, hb⟩)
  go_ret
  exact ⟨_, l', rfl, hO, hcan, hv, hb⟩

set_option maxRecDepth 100000 in
theorem shl_down (ao : Option Addr) (n cap : Nat) (l : List Int) (k : Nat) (w : World) (hn : n = l.length) (h1 : n ≤ cap) (h2 : cap ≤ 9223372036854775807) (h : Rd w ao l) (hl : Lim B64 l) (hk0 : 1 ≤ k) (hk : k ≤ 16777216) (hM : n ≤ MaxW) :
    Calls Tryd.prog 19 #[.slice ao n cap, .int .i64 (-(k : Int))] w fun e w' => RetNum w (vb B64 l / 2 ^ k) e w' := by
  have HC := Lib.hid (shiftDown_any ao n cap l k w hn h1 h2 h hl hk hM)
  have e1 : ¬ (16777216 : Int) < -(k : Int) := by omega
  have e2 : ¬ (-(k : Int)) < -16777216 := by omega
  have e3 : (-(k : Int)) < 0 := by omega
  have e4 : 0 < k := by omega
  have e5 : - -(k : Int) = (k : Int) := by omega
  clear hn h hl hM
  go_enter Tryd.func19, Tryd.ntmps19
  go_wp2_with (go_at_call 69; refine HC.out.mono ?_; rintro e w' ⟨v, l', rfl, hO, hcan, hv, hb⟩)
  go_ret
  exact ⟨_, l', rfl, hO, hcan, hv, hb⟩

set_option maxRecDepth 100000 in
theorem shr_any (ao : Option Addr) (n cap : Nat) (l : List Int) (k : Nat) (w : World) (hn : n = l.length) (h1 : n ≤ cap) (h2 : cap ≤ 9223372036854775807) (h : Rd w ao l) (hl : Lim B64 l) (hk : k ≤ 16777216) (hM : n + 300000 ≤ MaxW) :
    Calls Tryd.prog 25 #[.slice ao n cap, .int .i64 k] w fun e w' => RetNum w (vb B64 l / 2 ^ k) e w' := by
  by_cases hk0 : k = 0
  · subst hk0
    have HC := Lib.hid (shl_up ao n cap l 0 w hn h1 h2 h hl hk hM)
    clear hn h hl hM hk
    go_enter Tryd.func25, Tryd.ntmps25
    go_wp2_with (go_at_call 19; refine HC.out.mono ?_; rintro e w' ⟨v, l', rfl, hO, hcan, hv, hb⟩)
    go_ret
    exact ⟨_, l', rfl, hO, hcan, by rw [hv]; simp, hb⟩
  · have HC := Lib.hid (shl_down ao n cap l k w hn h1 h2 h hl (by omega) hk (by omega))
    have e1 : IntKind.i64.wrap (-(k : Int)) = -(k : Int) := by rw [IntKind.wrap_i64]; omega
    clear hn h hl hM
    go_enter Tryd.func25, Tryd.ntmps25
    go_wp2_with (go_at_call 19; refine HC.out.mono ?_; rintro e w' ⟨v, l', rfl, hO, hcan, hv, hb⟩)
    go_ret
    exact ⟨_, l', rfl, hO, hcan, hv, hb⟩
end Go.Proofs.YtfhknnmffppfgaaDoor
