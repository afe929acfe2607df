/-
  A range over a function whose yielded values are told with what is true of them in the world in which they are yielded (the body goes on at each of them).
-/
import Derived.Test.YtcnmgebjbaclaaaDoorBase
import Derived.RangeFuncNested
import Derived.RangeFuncBound
import Derived.RangeFuncCalls
import Derived.RangeFuncLeaves
import Derived.RangeFuncBox
import Derived.Shelf.Abstract
import Derived.Shelf.RegionOpen
import Derived.OwnWalkIn
import Derived.TacticsInMore
import Derived.LoopNIn
import Derived.LoopIn
namespace Go.Proofs.YtcnmgebjbaclaaaDoor
open Go.RowKit

end Go.Proofs.YtcnmgebjbaclaaaDoor
