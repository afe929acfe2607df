/-
  The walks of the closures that tell what two hunks go as.
-/
import Derived.Test.YtkiafelpgcmifaaShWays
namespace Go.Proofs.Ytkiafelpgcmifaa
open Go.RowKit Go.Shelf

attribute [local go_sem] Oper.semAt_some

end Go.Proofs.Ytkiafelpgcmifaa
