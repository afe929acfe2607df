/-
  A walk over strings.Clone: the same bytes; nothing that lay has turned.
-/
import Derived.Test.YtcnmgebjbaclaaaDoorBase
namespace Go.Proofs.YtcnmgebjbaclaaaDoor
open Go.RowKit


end Go.Proofs.YtcnmgebjbaclaaaDoor

