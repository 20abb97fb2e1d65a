/-
  Trim: Contracts of the smallest functions of package nat: trim, and the two calls of math/bits that the model stands in for. Contracts of nat.addTo and nat.subFrom: a number is added to, taken from, the number in a row, in place.
-/
import Derived.Test.YtjmipbljoblnnaaDoorProg
import Derived.Test.YtjmipbljoblnnaaDoorPk2

namespace Go.Proofs.YtjmipbljoblnnaaDoor
open Go.RowKit


/-- a[:n] of a slice whose address is not known. -/
theorem addr_add_zero (a : Addr) : a.add 0 = a := by cases a with | mk b o s => cases s <;> simp [Addr.add]
theorem map_add_zero (ao : Option Addr) : ao.map (fun x => x.add 0) = ao := by cases ao <;> simp [addr_add_zero]

set_option maxHeartbeats 400000 in
theorem trim_any (ao : Option Addr) (n cap : Nat) (l : List Int) (w : World) (hn : n = l.length) (hl : n ≤ cap) (hcap : cap ≤ 9223372036854775807) (h : Rd w ao l) :
    Calls Tryd.prog 62 #[.slice ao n cap] w fun e w' => e = .returned (.slice ao (tlen l) cap) ∧ w = w' := by
  subst hn
  by_cases h0 : l = []
  · subst h0
    go_enter Tryd.func62, Tryd.ntmps62
    go_wp2
    refine wp_loop_rounds 1 ?_
    rw [rounds_succ]
    go_wp2
    go_ret
    exact ⟨rfl, rfl⟩
  · obtain ⟨b, off, rfl, hc⟩ := h.cases h0
    go_enter Tryd.func62, Tryd.ntmps62
    go_wp2
    go_loop [3] (fun n => ∃ k : Nat, k ≤ l.length ∧ n = .int .i64 k ∧ (∀ j, k ≤ j → j < l.length → l.getD j 0 = 0)) (fun n => (intOf n).toNat)
    case atStart => exact ⟨l.length, Nat.le_refl _, rfl, fun j h1 h2 => by omega⟩
    case round =>
      obtain ⟨k, hk, rfl, hz⟩ := hrel
      have hcell : 0 < k → w.cell? ⟨b, off + (k - 1), none⟩ = some (.int .u64 (l.getD (k-1) 0)) := fun _ => hc _ (by omega)
      clear hc
      have HZ := Lib.hid hz
      clear hz
      go_wp2
      · have hp : 0 < k := by assumption
        have he : (l[k - 1]?.getD 0 == 0) = true := by assumption
        go_round
        case rel =>
          refine ⟨k - 1, by omega, by go_num, ?_⟩
          intro j h1 h2
          by_cases hj : j = k - 1
          · subst hj; rw [List.getD_eq_getElem?_getD]; simpa using he
          · exact HZ.out j (by omega) h2
        case measure => simp [intOf]; omega
      · have hp : 0 < k := by assumption
        have he : (l[k - 1]?.getD 0 == 0) = false := by assumption
        go_ret
        exact ⟨by rw [tlen_eq hk HZ.out (Or.inr (by rw [List.getD_eq_getElem?_getD]; simpa using he))]; rfl, rfl⟩
      · have hp : ¬ 0 < k := by assumption
        go_ret
        exact ⟨by rw [tlen_eq hk HZ.out (Or.inl (by omega))]; rfl, rfl⟩


/-- The model's own entry for math/bits.Sub64. -/
def sub64Entry : Array Value → Sem Value := fun args => do
  let (x, y, b) ← Extern.MathBitsCarry.three "Sub64" args
  pure (Extern.MathBitsCarry.pair ((x + Extern.MathBitsCarry.m64 - y - b) % Extern.MathBitsCarry.m64) (if x < y + b then 1 else 0))

/-- What is left where a function has written the number N into the n words at b, off. -/
def InPl (b off n : Nat) (N : Int) (w w' : World) : Prop := ∃ l : List Int, l.length = n ∧ Lim B64 l ∧ Arr w' b off l ∧ vb B64 l = N ∧ Only b off (off + n) w w'

end Go.Proofs.YtjmipbljoblnnaaDoor
