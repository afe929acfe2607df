/-
  The walks of hunk.asking and of the closure that it tells.
-/
import Derived.Test.YtflnakjffgobmabHnInvert
import Derived.WalkLawsBesides
namespace Go.Proofs.Ytflnakjffgobmab
open Go.RowKit Go.Shelf

attribute [local go_sem] Oper.semAt_some

end Go.Proofs.Ytflnakjffgobmab
