/-
  The walk of (shift.moved).told: the hunk where it is moved to, in new memory.
-/
import Derived.Test.YtkiafelpgcmifaaShWrong
import Derived.Test.YtkiafelpgcmifaaHnCopy
namespace Go.Proofs.Ytkiafelpgcmifaa
open Go.RowKit Go.Shelf

attribute [local go_sem] Oper.semAt_some

/-- The blocks in which lines of hunks lie. -/
def bla (xs : List HA) : List Nat := (xs.flatMap fun x => [x.vo, x.vn]).filterMap Value.ownBlock
/-- A hunk that goes on by so many lines. -/
def movV (x : HA) (d : Int) : Value := .agg #[.int .i64 x.at_, x.vo, x.vn, .int .i64 d]
/-- Its lines are such as a machine holds. -/
def HA.Thin (x : HA) : Prop := (∀ s ∈ x.old, s.length ≤ 281474976710656) ∧ ∀ s ∈ x.new, s.length ≤ 281474976710656

/-- A hunk's variable, written. -/
theorem set_three {w : World} {b : Nat} {x y z : Value} (hr : w.heap[b]? = some (.cells #[x, y, z] 40 (0, 0))) (u0 u1 u2 : Value) : ∃ Z, Z = ((w.setCell ⟨b, 0, none⟩ u0).setCell ⟨b, 1, none⟩ u1).setCell ⟨b, 2, none⟩ u2 ∧ Z.heap[b]? = some (.cells #[u0, u1, u2] 40 (0, 0)) ∧ w.grownBy Z (some b) ∧ ∀ (B n : Nat) (v : Value) (xs : List Value), w.ownsRow B 9 1 v n xs → Z.ownsRow B 9 1 v n xs := by
  have h1 := heap_setCell_same w b 0 _ 40 u0 hr
  have h2 := heap_setCell_same _ b 1 _ 40 u1 h1
  refine ⟨_, rfl, three_cells hr u0 u1 u2, grown_join (grown_join (grown_set w _ 0 _) (grown_set _ _ 1 _) (fun j hj => .inl hj)) (grown_set _ _ 2 _) (fun j hj => .inl hj), fun B n v xs h => ?_⟩
  exact owns_set (owns_set (owns_set h hr (by decide) 0 u0) h1 (by decide) 1 u1) h2 (by decide) 2 u2
theorem nodup_two {v u : Value} (n : Nat) (h1 : ∀ b, v.ownBlock = some b → b < n) (h2 : ∀ b, u.ownBlock = some b → n ≤ b) : ([u, v].filterMap Value.ownBlock).Nodup := by
  cases hv : v.ownBlock with
  | none => cases hu : u.ownBlock <;> simp [hv, hu]
  | some b =>
    cases hu : u.ownBlock with
    | none => simp [hv, hu]
    | some c =>
      have := h1 b hv
      have := h2 c hu
      simp [hv, hu]
      omega

end Go.Proofs.Ytkiafelpgcmifaa
