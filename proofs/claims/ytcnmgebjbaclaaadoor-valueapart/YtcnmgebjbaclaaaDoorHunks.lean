/-
  The walks of diff.between and diff.Hunks.
-/
import Derived.Test.YtcnmgebjbaclaaaDoorBetween
namespace Go.Proofs.YtcnmgebjbaclaaaDoor
open Go.RowKit Go.Shelf

attribute [local go_sem] Oper.semAt_some

/-- The cells of a row of hunks. -/
def hkCells (xs : List HV) : List Value := xs.flatMap fun x => [numV x.at_, x.vo, x.vn]
theorem HV.Ok.below {n₀ : Nat} {x : HV} {W W' : World} (h : HV.Ok n₀ x W) (hb : Below W.heap.size W W') : HV.Ok n₀ x W' := ⟨owns_below h.1 hb, owns_below h.2 hb⟩
end Go.Proofs.YtcnmgebjbaclaaaDoor
