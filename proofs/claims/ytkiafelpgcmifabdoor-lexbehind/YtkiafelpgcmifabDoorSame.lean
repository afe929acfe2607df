/-
  The walks of clerestorykit.SameTexts, SameHunk, SameHunks and of the law's samePairs: are two rows the same?
-/
import Derived.Test.YtkiafelpgcmifabDoorBase
namespace Go.Proofs.YtkiafelpgcmifabDoor
open Go.RowKit

theorem ext_of (L1 L2 : List (List UInt8)) (hn : L1.length = L2.length) (h : ∀ j : Nat, j < L1.length → L1[j]? = L2[j]?) : L1 = L2 := by
  apply List.ext_getElem? 
  intro j
  by_cases hj : j < L1.length
  · exact h j hj
  · rw [List.getElem?_eq_none (by omega), List.getElem?_eq_none (by omega)]

end Go.Proofs.YtkiafelpgcmifabDoor

