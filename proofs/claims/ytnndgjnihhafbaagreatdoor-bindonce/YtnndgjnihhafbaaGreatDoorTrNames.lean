/-
  The walk of tree.Names.
-/
import Derived.Test.YtnndgjnihhafbaaGreatDoorTrPuts
import Derived.Test.YtnndgjnihhafbaaGreatDoorTrShelf
namespace Go.Proofs.YtnndgjnihhafbaaGreatDoor
open Go.RowKit Go.Shelf

attribute [local go_sem] Oper.semAt_some

namespace Nm
end Nm

end Go.Proofs.YtnndgjnihhafbaaGreatDoor
