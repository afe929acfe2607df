/-
  The walks of shift.apart, shift.more, and of the closures of Commute and Merge.
-/
import Derived.Test.YtkiafelpgcmifaaShTold
namespace Go.Proofs.Ytkiafelpgcmifaa
open Go.RowKit Go.Shelf

attribute [local go_sem] Oper.semAt_some

/-- A block that holds a hunk. -/
def HBox (W : World) (b : Nat) (x : HA) : Prop := W.heap[b]? = some (.cells #[.int .i64 x.at_, x.vo, x.vn] 40 (0, 0))
theorem HBox.below {W W' : World} {b : Nat} {x : HA} (h : HBox W b x) (hb : Below W.heap.size W W') : HBox W' b x := (hb.block b (Array.getElem?_eq_some_iff.1 h).1).trans h
theorem HBox.new (W : World) (x : HA) : HBox (W.alloc (.cells #[.int .i64 x.at_, x.vo, x.vn] 40)) W.heap.size x := World.alloc_heap_new W _
theorem HBox.cells {W : World} {b : Nat} {x : HA} (h : HBox W b x) : W.cell? ⟨b, 0, none⟩ = some (.int .i64 x.at_) ∧ W.cell? ⟨b, 1, none⟩ = some x.vo ∧ W.cell? ⟨b, 2, none⟩ = some x.vn := by
  refine ⟨?_, ?_, ?_⟩ <;> (rw [Lib.cell_of_heap h]; rfl)
theorem HBox.lt {W : World} {b : Nat} {x : HA} (h : HBox W b x) : b < W.heap.size := (Array.getElem?_eq_some_iff.1 h).1
/-- The shape of a hunk's value: its rows have as many lines as they read. -/
def HA.Shape (x : HA) : Prop := (∃ a c, x.vo = .slice a x.old.length c) ∧ ∃ a c, x.vn = .slice a x.new.length c
theorem HA.Low.shape {m : Nat} {w : World} {x : HA} (h : x.Low m w) : x.Shape := by
  obtain ⟨a1, c1, b1, o1, e1, -, -, -⟩ := h.1.parts
  obtain ⟨a2, c2, b2, o2, e2, -, -, -⟩ := h.2.parts
  exact ⟨⟨a1, c1, e1⟩, ⟨a2, c2, e2⟩⟩
/-- The place of a right hunk, and how many lines it has, are small. -/
def HA.Near (x : HA) : Prop := 0 ≤ x.at_ ∧ x.at_ ≤ 1099511627776

end Go.Proofs.Ytkiafelpgcmifaa
