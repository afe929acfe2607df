/-
  The walk of tree.Names, whole.
-/
import Derived.Test.YtnndgjnihhafbaaGreatDoorTrNames
namespace Go.Proofs.YtnndgjnihhafbaaGreatDoor
open Go.RowKit Go.Shelf

attribute [local go_sem] Oper.semAt_some

namespace Tr
end Tr
end Go.Proofs.YtnndgjnihhafbaaGreatDoor
