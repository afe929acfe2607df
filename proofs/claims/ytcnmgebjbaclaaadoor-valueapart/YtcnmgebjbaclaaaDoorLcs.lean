/-
  Rows of pairs, with no word of Go: how long a longest one is, the one that is told, the hunks around it, and what follows of them.
-/
import Derived.WalkKit
namespace Go.Proofs.YtcnmgebjbaclaaaDoor
namespace Df

section
variable {α : Type}
/-- Pairs rise, and are of the same lines. -/
structure Good (a b : List α) (i j : Nat) (ps : List (Nat × Nat)) : Prop where
  ge : ∀ p ∈ ps, i ≤ p.1 ∧ j ≤ p.2
  lt : ∀ p ∈ ps, p.1 < a.length ∧ p.2 < b.length
  same : ∀ p ∈ ps, a[p.1]? = b[p.2]?
  rise : ps.Pairwise fun p q => p.1 < q.1 ∧ p.2 < q.2

theorem Good.mono {a b : List α} {i j i' j' : Nat} {ps : List (Nat × Nat)} (h : Good a b i j ps) (hi : i' ≤ i) (hj : j' ≤ j) : Good a b i' j' ps :=
  ⟨fun p hp => ⟨Nat.le_trans hi (h.ge p hp).1, Nat.le_trans hj (h.ge p hp).2⟩, h.lt, h.same, h.rise⟩

end

section
variable {α : Type} [DecidableEq α]


end
end Df
end Go.Proofs.YtcnmgebjbaclaaaDoor
