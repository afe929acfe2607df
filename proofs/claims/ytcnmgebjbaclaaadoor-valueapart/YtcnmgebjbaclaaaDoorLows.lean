/-
  What is read stays, whatever is made.
-/
import Derived.Test.YtcnmgebjbaclaaaDoorSameHunk
namespace Go.Proofs.YtcnmgebjbaclaaaDoor
open Go.RowKit

theorem below_then {A B C : World} (h : Below A.heap.size A B) (k : Below B.heap.size B C) : Below A.heap.size A C := h.trans (k.mono h.size)
theorem below_new (A : World) (o : Obj) : Below A.heap.size A (A.alloc o) := (Below.refl _ A).alloc (Nat.le_refl _) _
theorem below_draw (A : World) (d : Nat) : Below A.heap.size A (A.drewN d) := below_drewN (Below.refl _ A) d
theorem RowLow.at {A B : World} {v : Value} {L : List (List UInt8)} (h : RowLow A.heap.size A v L) (hb : Below A.heap.size A B) : RowLow B.heap.size B v L := (h.below hb (Nat.le_refl _)).mono hb.size
theorem CellsLow.at {A B : World} {v : Value} {n : Nat} {xs : List Value} (h : CellsLow A.heap.size A v n xs) (hb : Below A.heap.size A B) (h0 : n = 0 → xs = []) : CellsLow B.heap.size B v n xs := (h.below hb (Nat.le_refl _) h0).mono hb.size
theorem HkLow.at {A B : World} {v : Value} {xs : List HV} (h : HkLow A.heap.size A v xs) (hb : Below A.heap.size A B) : HkLow B.heap.size B v xs :=
  ⟨h.1.at hb (fun h0 => by rw [List.length_eq_zero_iff.1 h0]; rfl), fun x hx => ((h.2 x hx).below hb (Nat.le_refl _)).mono hb.size⟩
/-- A row that is written out. -/
theorem CellsLow.lit (w : World) (l : List Value) (t : TypeId) (n : Nat) : CellsLow (w.alloc (.cells l.toArray t)).heap.size (w.alloc (.cells l.toArray t)) (.slice (some ⟨w.heap.size, 0, none⟩) n n) n l := by
  refine ⟨_, n, w.heap.size, 0, rfl, ⟨Nat.le_refl _, fun e => by cases e⟩, fun _ => ⟨rfl, by simp⟩, fun j x hx => ?_⟩
  rw [Nat.zero_add, Lib.cell_of_heap (World.alloc_heap_new w _)]
  simpa using hx

end Go.Proofs.YtcnmgebjbaclaaaDoor
