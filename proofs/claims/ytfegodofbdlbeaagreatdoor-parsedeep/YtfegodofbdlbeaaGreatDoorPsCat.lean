/-
  Texts put together; a row's place.
-/
import Derived.Test.YtfegodofbdlbeaaGreatDoorPsTellsLaw
import Derived.Test.YtfegodofbdlbeaaGreatDoorPick
namespace Go.Proofs.YtfegodofbdlbeaaGreatDoor
open Go.RowKit Go.Shelf

theorem bs_cat (a b : List UInt8) : Ln.bs a ++ Ln.bs b = Ln.bs (a ++ b) := by
  apply ByteArray.ext
  rw [ByteArray.data_append]
  show a.toArray ++ b.toArray = (a ++ b).toArray
  simp
theorem bs_size (a : List UInt8) : (Ln.bs a).size = a.length := by
  show a.toArray.size = _
  simp
theorem list_at (WL : List (List UInt8)) (r : Int) (n : Nat) (h0 : 0 ≤ r) (h1 : r < n) (hn : WL.length = n) : ∃ (j : Nat) (t : List UInt8), r = j ∧ j < n ∧ WL[j]? = some t := by
  obtain ⟨j, rfl⟩ := Int.eq_ofNat_of_zero_le h0
  exact ⟨j, WL[j]'(by omega), rfl, by omega, List.getElem?_eq_getElem _⟩

end Go.Proofs.YtfegodofbdlbeaaGreatDoor
