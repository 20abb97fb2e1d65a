/-
  Mul64: Contract of math/bits.Mul64: the two words of a product of two words.
-/
import Derived.Test.YtjmipbljoblnnaaPk8
import Derived.Shelf.Bits.Mul64

namespace Go.Proofs.Ytjmipbljoblnnaa
open Go.RowKit

end Go.Proofs.Ytjmipbljoblnnaa
