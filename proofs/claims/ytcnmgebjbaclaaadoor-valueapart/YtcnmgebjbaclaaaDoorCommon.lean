/-
  The walk of diff.Common: the row of pairs that is told.
-/
import Derived.Test.YtcnmgebjbaclaaaDoorLengths
namespace Go.Proofs.YtcnmgebjbaclaaaDoor
open Go.RowKit

theorem cells_new (w : World) (l : List Value) (t : TypeId) : ∀ (j : Nat) (u : Value), l[j]? = some u → (w.alloc (.cells l.toArray t)).cell? ((⟨w.heap.size, 0, none⟩ : Addr).add j) = some u := by
  intro j u hu
  have ha : (⟨w.heap.size, 0, none⟩ : Addr).add j = ⟨w.heap.size, j, none⟩ := by cases j <;> simp [Addr.add]
  rw [ha, Lib.cell_of_heap (World.alloc_heap_new w _)]
  simpa using hu

end Go.Proofs.YtcnmgebjbaclaaaDoor
