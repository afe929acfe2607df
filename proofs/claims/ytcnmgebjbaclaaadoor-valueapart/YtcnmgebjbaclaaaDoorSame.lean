/-
  The walks of clerestorykit.SameTexts, SameHunk, SameHunks and of the law's samePairs: are two rows the same?
-/
import Derived.Test.YtcnmgebjbaclaaaDoorBase
namespace Go.Proofs.YtcnmgebjbaclaaaDoor
open Go.RowKit

end Go.Proofs.YtcnmgebjbaclaaaDoor

