/-
  Trim: Contracts of the smallest functions of package nat: trim, and the two calls of math/bits that the model stands in for. Contracts of nat.addTo and nat.subFrom: a number is added to, taken from, the number in a row, in place.
-/
import Derived.Test.YtkkjkohmekbdbaaProg
import Derived.Test.YtkkjkohmekbdbaaPk3

namespace Go.Proofs.Ytkkjkohmekbdbaa
open Go.RowKit


/-- a[:n] of a slice whose address is not known. -/
theorem addr_add_zero (a : Addr) : a.add 0 = a := by cases a with | mk b o s => cases s <;> simp [Addr.add]
theorem map_add_zero (ao : Option Addr) : ao.map (fun x => x.add 0) = ao := by cases ao <;> simp [addr_add_zero]

/-- The model's own entry for math/bits.Sub64. -/
def sub64Entry : Array Value → Sem Value := fun args => do
  let (x, y, b) ← Extern.MathBitsCarry.three "Sub64" args
  pure (Extern.MathBitsCarry.pair ((x + Extern.MathBitsCarry.m64 - y - b) % Extern.MathBitsCarry.m64) (if x < y + b then 1 else 0))

/-- What is left where a function has written the number N into the n words at b, off. -/
def InPl (b off n : Nat) (N : Int) (w w' : World) : Prop := ∃ l : List Int, l.length = n ∧ Lim B64 l ∧ Arr w' b off l ∧ vb B64 l = N ∧ Only b off (off + n) w w'

end Go.Proofs.Ytkkjkohmekbdbaa
