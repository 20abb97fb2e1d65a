/-
  Mul64: Contract of math/bits.Mul64: the two words of a product of two words.
-/
import Derived.Test.YtkkjkohmekbdbaaPk7
import Derived.Shelf.Bits.Mul64

namespace Go.Proofs.Ytkkjkohmekbdbaa
open Go.RowKit

end Go.Proofs.Ytkkjkohmekbdbaa
