/-
  The walks of the law's own functions (chapter 4): of, tells, great, two.
-/
import Derived.Test.YtkiafelpgcmifaaShTwo
import Derived.Test.YtkiafelpgcmifaaSameHunkA
import Derived.Test.YtkiafelpgcmifaaHnGreat
namespace Go.Proofs.Ytkiafelpgcmifaa
open Go.RowKit Go.Shelf

attribute [local go_sem] Oper.semAt_some

end Go.Proofs.Ytkiafelpgcmifaa
