/-
  What digits say, and how they are compared as texts.
-/
import Derived.Test.YtcnmgebjbaclaaaDoorLxMath
import GoSem.Op.String
namespace Go.Proofs.YtcnmgebjbaclaaaDoor
namespace Lx

theorem val_snoc (l : List UInt8) (b : UInt8) : val (l ++ [b]) = 10 * val l + (b.toNat - 48) := by
  unfold val; rw [List.foldl_append]; rfl
end Lx
end Go.Proofs.YtcnmgebjbaclaaaDoor
