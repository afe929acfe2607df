/-
  The walks of hunk.Sorted and Invert.
-/
import Derived.Test.YtflnakjffgobmabHnRight
namespace Go.Proofs.Ytflnakjffgobmab
open Go.RowKit Go.Shelf

attribute [local go_sem] Oper.semAt_some

/-- Its sizes, where all is gone through in time. -/
def HA.Small (x : HA) : Prop := x.old.length ≤ 1000000 ∧ x.new.length ≤ 1000000
theorem sorted_at (xs : List HA) (k : Nat) (x : HA) (last : Int) (hx : xs[k]? = some x) : Hn.sorted last ((xs.drop k).map HA.h) = (Hn.right x.h && decide (last < x.at_) && Hn.sorted (x.at_ + x.old.length) ((xs.drop (k + 1)).map HA.h)) := by
  have hk : k < xs.length := (List.getElem?_eq_some_iff.1 hx).1
  have e : xs.drop k = x :: xs.drop (k + 1) := by rw [List.drop_eq_getElem_cons hk, (List.getElem?_eq_some_iff.1 hx).2]
  rw [e]; rfl
theorem right_bound {h : Hn.H} (r : Hn.right h = true) : 0 ≤ h.at_ ∧ h.at_ ≤ 1099511627776 := by
  simp only [Hn.right, Bool.and_eq_true, decide_eq_true_eq] at r
  exact ⟨r.1.1.1.1, r.1.1.1.2⟩

end Go.Proofs.Ytflnakjffgobmab
