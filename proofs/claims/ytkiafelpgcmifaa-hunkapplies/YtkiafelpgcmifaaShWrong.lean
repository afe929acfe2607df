/-
  The walk of shift.wrong: is one of the hunks not right?
-/
import Derived.Test.YtkiafelpgcmifaaHnApply
import Derived.Test.YtkiafelpgcmifaaShMath
import Derived.Test.YtkiafelpgcmifaaLows
namespace Go.Proofs.Ytkiafelpgcmifaa
open Go.RowKit Go.Shelf

attribute [local go_sem] Oper.semAt_some

/-- Is one of the hunks not right? -/
def wrongs (xs : List HA) : Bool := xs.any fun x => !Hn.right x.h
theorem wrongs_drop (xs : List HA) (k : Nat) (x : HA) (hx : xs[k]? = some x) : wrongs (xs.drop k) = (!Hn.right x.h || wrongs (xs.drop (k + 1))) := by
  have hk : k < xs.length := (List.getElem?_eq_some_iff.1 hx).1
  have e : xs.drop k = x :: xs.drop (k + 1) := by rw [List.drop_eq_getElem_cons hk, (List.getElem?_eq_some_iff.1 hx).2]
  rw [e]; rfl

end Go.Proofs.Ytkiafelpgcmifaa
