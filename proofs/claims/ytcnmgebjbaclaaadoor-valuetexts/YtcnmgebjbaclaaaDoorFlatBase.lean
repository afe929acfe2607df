/-
  What the flat functions (do lists lie apart?) rest on: rows in memory of their own, written to, appended to; the others stay.
-/
import Derived.Test.YtcnmgebjbaclaaaDoorAppend
namespace Go.Proofs.YtcnmgebjbaclaaaDoor
open Go.RowKit

/-- What lay below n, and all that does not hold elements of type e, is as it was. -/
def KeepT (e : TypeId) (n : Nat) (W W' : World) : Prop := Below n W W' ∧ ∀ (k : Nat) (c : Array Value) (t : TypeId) (fr : Nat × Nat), W.heap[k]? = some (.cells c t fr) → t ≠ e → W'.heap[k]? = some (.cells c t fr)
theorem KeepT.refl (e : TypeId) (n : Nat) (W : World) : KeepT e n W W := ⟨Below.refl _ _, fun _ _ _ _ h _ => h⟩
theorem KeepT.trans {e : TypeId} {n : Nat} {A B C : World} (h : KeepT e n A B) (k : KeepT e n B C) : KeepT e n A C := ⟨h.1.trans k.1, fun j c t fr hj h1 => k.2 j c t fr (h.2 j c t fr hj h1) h1⟩
/-- Rows whose blocks are apart. -/
def Apart (R : List (Value × Nat)) : Prop := ∀ (j k : Nat) (p q : Value × Nat), R[j]? = some p → R[k]? = some q → j ≠ k → p.1.ownBlock = none ∨ p.1.ownBlock ≠ q.1.ownBlock
/-- All rows, each in memory of its own, in what f says of its cells. -/
def Own (e size B : Nat) (R : List (Value × Nat)) (W : World) (f : Nat → List Value → Prop) : Prop := ∀ (j : Nat) (p : Value × Nat), R[j]? = some p → ∃ xs, W.ownsRow B e size p.1 p.2 xs ∧ f j xs
theorem Own.below {e size B : Nat} {R : List (Value × Nat)} {W W' : World} {f : Nat → List Value → Prop} (h : Own e size B R W f) (hb : Below W.heap.size W W') : Own e size B R W' f := fun j p hp => by
  obtain ⟨xs, h1, h2⟩ := h j p hp
  exact ⟨xs, owns_below h1 hb, h2⟩
theorem Own.mono {e size B : Nat} {R : List (Value × Nat)} {W : World} {f g : Nat → List Value → Prop} (h : Own e size B R W f) (hfg : ∀ j p xs, R[j]? = some p → xs.length = p.2 * size → f j xs → g j xs) : Own e size B R W g := fun j p hp => by
  obtain ⟨xs, h1, h2⟩ := h j p hp
  exact ⟨xs, h1, hfg j p xs hp h1.1 h2⟩
/-- One row's block was written to: it holds ys now; all others stay. -/
theorem Own.put {e size B : Nat} {R : List (Value × Nat)} {W W' : World} {f g : Nat → List Value → Prop} (h : Own e size B R W f) (hA : Apart R) {k : Nat} {p : Value × Nat} (hp : R[k]? = some p) (hg : W.grownBy W' p.1.ownBlock) {ys : List Value} (hy : W'.ownsRow B e size p.1 p.2 ys) (hfy : g k ys) (hfg : ∀ j xs, j ≠ k → f j xs → g j xs) : Own e size B R W' g := fun j q hq => by
  by_cases hjk : j = k
  · subst hjk
    rw [hp] at hq
    cases hq
    exact ⟨ys, hy, hfy⟩
  · obtain ⟨xs, h1, h2⟩ := h j q hq
    exact ⟨xs, h1.kept hg (hA j k q p hq hp hjk), hfg j xs hjk h2⟩

theorem owns_two {W W' : World} {B B' s s' n m : Nat} {e e' : TypeId} {v u : Value} {xs ys : List Value} (h : W.ownsRow B e s v n xs) (hu : W.ownsRow B' e' s' u m ys) (hg : W.grownBy W' u.ownBlock) (hne : e ≠ e') : W'.ownsRow B e s v n xs := by
  refine ⟨h.1, ?_⟩
  rcases h.2 with h0 | ⟨g, cap, cur, hv, hb, hgb, h3⟩
  · exact .inl h0
  · refine .inr ⟨g, cap, cur, hv, hb, (hg.block g (Array.getElem?_eq_some_iff.1 hgb).1 (fun e0 => ?_)).trans hgb, h3⟩
    rcases hu.2 with ⟨rfl, _⟩ | ⟨g', cap', cur', rfl, _, hgb', _⟩
    · cases e0
    · obtain rfl : g = g' := by simpa [Value.ownBlock] using e0
      rw [hgb] at hgb'
      injection hgb' with q
      injection q with _ q _
      exact hne q

theorem below_nw (A : World) (o : Obj) : Below A.heap.size A (A.alloc o) := (Below.refl _ A).alloc (Nat.le_refl _) _
end Go.Proofs.YtcnmgebjbaclaaaDoor
