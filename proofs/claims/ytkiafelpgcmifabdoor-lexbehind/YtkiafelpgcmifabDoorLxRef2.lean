/-
  The walks of the document's answers of chapter 5: numbers, what begins where, the signs.
-/
import Derived.Test.YtkiafelpgcmifabDoorLxRef
namespace Go.Proofs.YtkiafelpgcmifabDoor
open Go.RowKit

theorem part_eq (s p : ByteArray) (k : Nat) : ((s.extract k (k + p.size)).toList == p.toList) = pre p.data.toList (s.data.toList.drop k) := by
  unfold pre
  rw [Lib.toList_data, Lib.toList_data, extract_part]
  have hl : p.data.toList.length = p.size := rfl
  rw [Bool.eq_iff_iff, beq_iff_eq, List.isPrefixOf_iff_prefix, List.prefix_iff_eq_take, hl]
  exact ⟨fun h => h.symm, fun h => h.symm⟩

end Go.Proofs.YtkiafelpgcmifabDoor
