/- BitMath, Bits, ElemMath, SpList, put together. -/
import Derived.Test.YtgaadndhecokfaaMu01
import Derived.Laws.Bits64b
import Derived.Handy
import Derived.Laws.Bits128
import Derived.Laws.BitsLemmas
import Derived.Test.YtgaadndhecokfaaMu08
import Derived.Test.YtgaadndhecokfaaMu04
/- Counting the bits of a number, and walking over them: the mathematics, without the program. -/
namespace Go.Proofs.Ytgaadndhecokfaa

/-! the three steps of the count, a byte at a time -/
def b1 (l : Nat) : Nat := (l / 2 &&& 85) + (l &&& 85)
def b2 (l : Nat) : Nat := (l / 4 &&& 51) + (l &&& 51)
def b3 (l : Nat) : Nat := (l / 16 + l) &&& 15
end Go.Proofs.Ytgaadndhecokfaa

/- Contracts of math/bits.OnesCount64 and math/bits.TrailingZeros64 (the table of the second as it is laid). -/
namespace Go.Proofs.Ytgaadndhecokfaa
open Go.RowKit

end Go.Proofs.Ytgaadndhecokfaa

/- The elements of a set in their order, its least one, and its stretches: the mathematics, without the program. -/
namespace Go.Proofs.Ytgaadndhecokfaa

/-! ### numbers and their bits -/
/-! ### sets -/
def elems (f : Nat → Bool) : List Nat := (List.range 256).filter f
theorem elems_le (f : Nat → Bool) : (elems f).length ≤ 256 := by
  have := List.length_filter_le f (List.range 256)
  simpa [elems] using this
/-! ### stretches -/
end Go.Proofs.Ytgaadndhecokfaa

/- Contract of the list of a set of spots. -/
namespace Go.Proofs.Ytgaadndhecokfaa
open Go.RowKit

def spI (L : List Nat) : List Int := L.map (fun n : Nat => (n : Int))
theorem spI_more (L : List Nat) (m : Nat) : spI (L ++ [m]) = spI L ++ [(m : Int)] := by simp [spI]
theorem spI_len (L : List Nat) : (spI L).length = L.length := by simp [spI]
attribute [irreducible] spI
end Go.Proofs.Ytgaadndhecokfaa
