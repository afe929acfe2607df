/-
  Rows that are appended to, cut and put together: what each step gives.
-/
import Derived.Test.YtcnmgebjbaclaaaDoorSameHunk
import Derived.BigQuiet
namespace Go.Proofs.YtcnmgebjbaclaaaDoor
open Go.RowKit Go.Shelf

set_option maxRecDepth 100000

end Go.Proofs.YtcnmgebjbaclaaaDoor
