/-
  The walk of the law's great (chapter 3), at any lines and hunks.
-/
import Derived.Test.YtflnakjffgobmabHnAwake
import Derived.Test.YtflnakjffgobmabTextsOf
namespace Go.Proofs.Ytflnakjffgobmab
open Go.RowKit Go.Shelf

attribute [local go_sem] Oper.semAt_some

/-- What a machine can hold. -/
def HA.Mach (x : HA) : Prop := x.old.length ≤ 1000000000000000 ∧ x.new.length ≤ 1000000000000000
/-- The lines of hunks, old ones and new ones. -/
def allSum (xs : List HA) : Nat := (xs.map fun x => x.old.length + x.new.length).sum
theorem allSum_at (xs : List HA) (k : Nat) (x : HA) (hx : xs[k]? = some x) : allSum (xs.take (k + 1)) = allSum (xs.take k) + (x.old.length + x.new.length) := by
  rw [List.take_add_one, hx]; simp [allSum]
/-- All texts are short. -/
def HA.Short (x : HA) : Prop := (∀ s ∈ x.old, s.length ≤ 16007) ∧ ∀ s ∈ x.new, s.length ≤ 16007

end Go.Proofs.Ytflnakjffgobmab
