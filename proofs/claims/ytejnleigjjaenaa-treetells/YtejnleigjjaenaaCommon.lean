/-
  The walk of diff.Common: the row of pairs that is told.
-/
import Derived.Test.YtejnleigjjaenaaLengths
namespace Go.Proofs.Ytejnleigjjaenaa
open Go.RowKit

/-- The cells of a row of pairs. -/
def pairCells (ps : List (Nat × Nat)) : List Value := ps.flatMap fun p => [numV p.1, numV p.2]
theorem pairCells_append (ps qs : List (Nat × Nat)) : pairCells (ps ++ qs) = pairCells ps ++ pairCells qs := by simp [pairCells]
theorem pairCells_len (ps : List (Nat × Nat)) : (pairCells ps).length = ps.length * 2 := by
  induction ps with
  | nil => rfl
  | cons p ps ih => 
    have : pairCells (p :: ps) = [numV p.1, numV p.2] ++ pairCells ps := rfl
    rw [this, List.length_append, ih]; simp; omega

theorem cells_new (w : World) (l : List Value) (t : TypeId) : ∀ (j : Nat) (u : Value), l[j]? = some u → (w.alloc (.cells l.toArray t)).cell? ((⟨w.heap.size, 0, none⟩ : Addr).add j) = some u := by
  intro j u hu
  have ha : (⟨w.heap.size, 0, none⟩ : Addr).add j = ⟨w.heap.size, j, none⟩ := by cases j <;> simp [Addr.add]
  rw [ha, Lib.cell_of_heap (World.alloc_heap_new w _)]
  simpa using hu

end Go.Proofs.Ytejnleigjjaenaa
