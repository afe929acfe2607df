/-
  The walk of hunk.Invert.
-/
import Derived.Test.YtkiafelpgcmifaaHnSorted
namespace Go.Proofs.Ytkiafelpgcmifaa
open Go.RowKit Go.Shelf

attribute [local go_sem] Oper.semAt_some

end Go.Proofs.Ytkiafelpgcmifaa
