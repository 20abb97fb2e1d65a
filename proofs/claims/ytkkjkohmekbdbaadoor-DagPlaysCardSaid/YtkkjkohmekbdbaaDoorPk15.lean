/-
  Mul64: Contract of math/bits.Mul64: the two words of a product of two words.
-/
import Derived.Test.YtkkjkohmekbdbaaDoorPk6
import Derived.Shelf.Bits.Mul64

namespace Go.Proofs.YtkkjkohmekbdbaaDoor
open Go.RowKit

end Go.Proofs.YtkkjkohmekbdbaaDoor
