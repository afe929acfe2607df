/-
  The walk of the closure that says whether Commute's second way is open.
-/
import Derived.Test.YtkiafelpgcmifaaShGoes
namespace Go.Proofs.Ytkiafelpgcmifaa
open Go.RowKit Go.Shelf

attribute [local go_sem] Oper.semAt_some

end Go.Proofs.Ytkiafelpgcmifaa
