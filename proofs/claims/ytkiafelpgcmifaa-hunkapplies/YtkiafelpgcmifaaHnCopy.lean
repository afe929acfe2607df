/-
  The walk of clerestorykit.CopyTexts; hunks whose lines lie in memory of their own.
-/
import Derived.Test.YtkiafelpgcmifaaHnGreat
namespace Go.Proofs.Ytkiafelpgcmifaa
open Go.RowKit Go.Shelf

attribute [local go_sem] Oper.semAt_some

/-- An inverse that was made: its lines in memory of its own. -/
def HA.Ok (B : Nat) (x : HA) (W : World) : Prop := W.ownsRow B 9 1 x.vo x.old.length (x.old.map txtV) ∧ W.ownsRow B 9 1 x.vn x.new.length (x.new.map txtV)
theorem HA.Ok.below {B : Nat} {x : HA} {W W' : World} (h : x.Ok B W) (hb : Below W.heap.size W W') : x.Ok B W' := ⟨owns_below h.1 hb, owns_below h.2 hb⟩
theorem low_of_ok {B : Nat} {v : Value} {xs : List HA} {W : World} (h : W.ownsRow B 40 3 v xs.length (haCells xs)) (hx : ∀ x ∈ xs, x.Ok B W) : HaLow W.heap.size W v xs :=
  ⟨CellsLow.of_owns h, fun x hxm => ⟨RowLow.of_owns (hx x hxm).1, RowLow.of_owns (hx x hxm).2⟩⟩
theorem allSum_mem (xs : List HA) : ∀ x ∈ xs, x.old.length + x.new.length ≤ allSum xs := by
  induction xs with
  | nil => intro x hx; cases hx
  | cons y r ih =>
    intro x hx
    have e : allSum (y :: r) = (y.old.length + y.new.length) + allSum r := by simp [allSum]
    rcases List.mem_cons.1 hx with rfl | hx
    · omega
    · have := ih x hx; omega
theorem newSum_all (xs : List HA) : newSum xs ≤ allSum xs := by
  induction xs with
  | nil => simp [newSum, allSum]
  | cons y r ih => simp [newSum, allSum] at ih ⊢; omega
theorem HA.Ok.low {B : Nat} {w : World} {x : HA} (h : x.Ok B w) : x.Low w.heap.size w := ⟨RowLow.of_owns h.1, RowLow.of_owns h.2⟩

end Go.Proofs.Ytkiafelpgcmifaa
