/-
  slices.Sort and slices.Compact of strings at this dump: the shelf's contracts, laid.
-/
import Derived.Shelf.Sort.Plain
import Derived.Shelf.Slices.CompactS
import Derived.Shelf.Slices.In.SortNone
import Derived.Test.YtnndgjnihhafbaaGreatDoorRows
namespace Go.Proofs.YtnndgjnihhafbaaGreatDoor
open Go.Shelf

end Go.Proofs.YtnndgjnihhafbaaGreatDoor
