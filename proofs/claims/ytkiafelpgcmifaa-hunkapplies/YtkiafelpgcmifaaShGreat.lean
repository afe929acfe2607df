/-
  The walks of the law's own functions great and of (chapter 4).
-/
import Derived.Test.YtkiafelpgcmifaaShLaw
namespace Go.Proofs.Ytkiafelpgcmifaa
open Go.RowKit Go.Shelf

attribute [local go_sem] Oper.semAt_some

end Go.Proofs.Ytkiafelpgcmifaa
