/-
  The walks of the document's Named and text.
-/
import Derived.Test.YtnndgjnihhafbaaGreatDoorTrUniqs
import Derived.Test.YtnndgjnihhafbaaGreatDoorTrAll
import Derived.Test.YtnndgjnihhafbaaGreatDoorLxRefs
namespace Go.Proofs.YtnndgjnihhafbaaGreatDoor
open Go.RowKit Go.Shelf

attribute [local go_sem] Oper.semAt_some

set_option maxRecDepth 100000 in
set_option maxHeartbeats 2000000 in
theorem rnamedT_any (k : Int) (w : World) : Calls Tryz.prog 128 #[.int .u8 k] w fun e w' => e = .returned (.bool (Tr.bears k)) ∧ w' = w := by
  go_enter Tryz.func128, Tryz.ntmps128
  go_wp2
  all_goals go_ret
  all_goals refine ⟨ret_bool ?_, rfl⟩
  all_goals unfold Tr.bears
  all_goals first | rfl | (rw [Bool.eq_iff_iff]; simp; try omega)

end Go.Proofs.YtnndgjnihhafbaaGreatDoor
