/-
  The walks of diff.lengths and of its closure: the table of how long a longest row is.
-/
import Derived.Test.YtcnmgebjbaclaaaDoorNumbered
namespace Go.Proofs.YtcnmgebjbaclaaaDoor
open Go.RowKit

end Go.Proofs.YtcnmgebjbaclaaaDoor
