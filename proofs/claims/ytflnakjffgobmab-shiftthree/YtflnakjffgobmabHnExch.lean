/-
  The walk of (*text).exchange.
-/
import Derived.Test.YtflnakjffgobmabHnAsk
namespace Go.Proofs.Ytflnakjffgobmab
open Go.RowKit Go.Shelf

attribute [local go_sem] Oper.semAt_some

/-- What lay below B is as it was; and whatever holds no texts, but the text and where it was asked last. -/
def KeepX (B tb fb : Nat) (W W' : World) : Prop := Below B W W' ∧ ∀ (k : Nat) (c : Array Value) (t : TypeId) (fr : Nat × Nat), W.heap[k]? = some (.cells c t fr) → t ≠ 9 → k ≠ tb → k ≠ fb → W'.heap[k]? = some (.cells c t fr)
theorem KeepX.refl (B tb fb : Nat) (W : World) : KeepX B tb fb W W := ⟨Below.refl _ _, fun _ _ _ _ h _ _ _ => h⟩
theorem KeepX.trans {B tb fb : Nat} {W X Y : World} (h : KeepX B tb fb W X) (k : KeepX B tb fb X Y) : KeepX B tb fb W Y := ⟨h.1.trans k.1, fun j c t fr hj h1 h2 h3 => k.2 j c t fr (h.2 j c t fr hj h1 h2 h3) h1 h2 h3⟩
theorem KeepX.of_below {B tb fb : Nat} {W X : World} (h : Below W.heap.size W X) (hn : B ≤ W.heap.size) : KeepX B tb fb W X :=
  ⟨h.mono hn, fun j _ _ _ hj _ _ _ => (h.block j (Array.getElem?_eq_some_iff.1 hj).1).trans hj⟩
theorem KeepX.of_b {B tb fb : Nat} {W X : World} (h : KeepB B tb W X) : KeepX B tb fb W X := ⟨h.1, fun j c t fr hj h1 h2 _ => h.2 j c t fr hj h1 h2⟩
theorem KeepX.of_set {B tb fb : Nat} {W : World} (hB : B ≤ fb) (hW : B ≤ W.heap.size) (i : Nat) (u : Value) : KeepX B tb fb W (W.setCell ⟨fb, i, none⟩ u) := by
  have h := KeepB.of_set (b := fb) hB hW i u
  exact ⟨h.1, fun j c t fr hj h1 _ h3 => h.2 j c t fr hj h1 h3⟩

end Go.Proofs.Ytflnakjffgobmab
