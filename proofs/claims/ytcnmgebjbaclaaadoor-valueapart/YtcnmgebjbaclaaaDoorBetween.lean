/-
  The walk of the function that yields the hunks (diff.between, and the function that it makes).
-/
import Derived.Test.YtcnmgebjbaclaaaDoorHeld
import Derived.Test.YtcnmgebjbaclaaaDoorCopied
import Derived.Test.YtcnmgebjbaclaaaDoorCommon
namespace Go.Proofs.YtcnmgebjbaclaaaDoor
open Go.RowKit Go.Shelf

attribute [local go_sem] Oper.semAt_some

/-- A hunk that is yielded: its values, and the lines that they read as. -/
structure HV where
  at_ : Nat
  vo : Value
  vn : Value
  old : List (List UInt8)
  new : List (List UInt8)
def HV.val (x : HV) : Value := hkV x.at_ x.vo x.vn
/-- Its lines lie in memory of its own. -/
def HV.Ok (B : Nat) (x : HV) (W : World) : Prop := W.ownsRow B 9 1 x.vo x.old.length (x.old.map txtV) ∧ W.ownsRow B 9 1 x.vn x.new.length (x.new.map txtV)

end Go.Proofs.YtcnmgebjbaclaaaDoor
