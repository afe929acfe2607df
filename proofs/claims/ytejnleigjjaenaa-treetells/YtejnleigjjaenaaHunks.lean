/-
  The walks of diff.between and diff.Hunks.
-/
import Derived.Test.YtejnleigjjaenaaBetween
namespace Go.Proofs.Ytejnleigjjaenaa
open Go.RowKit Go.Shelf

attribute [local go_sem] Oper.semAt_some

theorem row_three (w : World) (o1 o2 o3 : Obj) : w.grownBy (((w.alloc o1).alloc o2).alloc o3) none := grown_of_below ((((Below.refl _ w).alloc (Nat.le_refl _) _).alloc (by simp) _).alloc (by simp; omega) _) _
theorem grown_join {W A B : World} {r r' : Option Nat} (h : W.grownBy A r) (k : A.grownBy B r') (hr : ∀ j, r' = some j → r = some j ∨ W.heap.size ≤ j) : W.grownBy B r :=
  ⟨k.os.trans h.os, k.tape.trans h.tape, k.output.trans h.output, Nat.le_trans h.size k.size, fun j hj hne =>
    (k.block j (Nat.lt_of_lt_of_le hj h.size) (fun e => by
      rcases hr j e.symm with e1 | e1
      · exact hne e1.symm
      · omega)).trans (h.block j hj hne)⟩

/-- The cells of a row of hunks. -/
def hkCells (xs : List HV) : List Value := xs.flatMap fun x => [numV x.at_, x.vo, x.vn]
theorem hkCells_append (xs ys : List HV) : hkCells (xs ++ ys) = hkCells xs ++ hkCells ys := by simp [hkCells]

theorem HV.Ok.shy (n₀ B : Nat) (x : HV) : Shy B (HV.Ok n₀ x) := fun _ _ _ _ h _ hl ho => ⟨ownsRow_putObj h.1 _ hl ho, ownsRow_putObj h.2 _ hl ho⟩
theorem HV.Ok.below {n₀ : Nat} {x : HV} {W W' : World} (h : HV.Ok n₀ x W) (hb : Below W.heap.size W W') : HV.Ok n₀ x W' := ⟨owns_below h.1 hb, owns_below h.2 hb⟩
theorem boxed_put {W : World} {b l : Nat} {t : TypeId} {v : Value} {o : Obj} (h : Boxed W b t v) (hl : W.heap[l]? = some o) (ho : o.isCells = false) (o' : Obj) : Boxed (W.putObj l o') b t v := by
  have hne : b ≠ l := by
    rintro rfl
    rw [show W.heap[b]? = _ from h] at hl
    cases hl; cases ho
  exact (World.putObj_heap_other (by omega)).trans h
theorem below_put {n₀ : Nat} {w W : World} {l : Nat} (h : Below n₀ w W) (hl : n₀ ≤ l) (o' : Obj) : Below n₀ w (W.putObj l o') :=
  h.trans ⟨rfl, rfl, rfl, by simp [World.putObj], fun k hk => World.putObj_heap_other (by omega)⟩
end Go.Proofs.Ytejnleigjjaenaa
