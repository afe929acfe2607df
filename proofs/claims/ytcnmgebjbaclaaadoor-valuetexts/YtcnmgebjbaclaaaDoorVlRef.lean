/-
  The walks of the document's answers: known, Bool, Int, compared, reckoned, Unary, Binary.
-/
import Derived.Test.YtcnmgebjbaclaaaDoorVlAwake
namespace Go.Proofs.YtcnmgebjbaclaaaDoor
open Go.RowKit Go.Shelf
open Vl (V Res)

attribute [local go_sem] Oper.semAt_some

end Go.Proofs.YtcnmgebjbaclaaaDoor
