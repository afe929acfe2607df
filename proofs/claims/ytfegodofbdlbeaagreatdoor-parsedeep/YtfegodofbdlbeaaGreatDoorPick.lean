/-
  The walk of clerestorykit.Pick.
-/
import Derived.Test.YtfegodofbdlbeaaGreatDoorBaseAll
namespace Go.Proofs.YtfegodofbdlbeaaGreatDoor
open Go.RowKit

set_option maxHeartbeats 1000000 in
theorem pick_any (x n : Int) (w : World) (h1 : 1 ≤ n) (h2 : n ≤ 9223372036854775807) :
    Calls Tryz.prog 10 #[.int .i64 x, .int .i64 n] w fun e w' => (∃ r : Int, e = .returned (.int .i64 r) ∧ 0 ≤ r ∧ r < n) ∧ w' = w := by
  have h3 := Int.tmod_lt_of_pos x (show 0 < n by omega)
  have h4 := Int.lt_tmod_of_pos x (show 0 < n by omega)
  go_enter Tryz.func10, Tryz.ntmps10
  go_wp2
  · have h5 : x.tmod n < 0 := by assumption
    go_ret
    exact ⟨⟨_, rfl, by omega, by omega⟩, rfl⟩
  · have h5 : 0 ≤ x.tmod n := by assumption
    go_ret
    exact ⟨⟨_, rfl, by omega, by omega⟩, rfl⟩

end Go.Proofs.YtfegodofbdlbeaaGreatDoor
