/-
  The walks of diff.between and diff.Hunks.
-/
import Derived.Test.YtkiafelpgcmifaaBetween
namespace Go.Proofs.Ytkiafelpgcmifaa
open Go.RowKit Go.Shelf

attribute [local go_sem] Oper.semAt_some

theorem info40s : (Try.prog.info? 40).map (fun i => (i.zero, i.size, i.bytes)) = some (some (.agg #[.int .i64 0, .slice none 0 0, .slice none 0 0]), 3, 56) := by kernel_rfl

theorem row_three (w : World) (o1 o2 o3 : Obj) : w.grownBy (((w.alloc o1).alloc o2).alloc o3) none := grown_of_below ((((Below.refl _ w).alloc (Nat.le_refl _) _).alloc (by simp) _).alloc (by simp; omega) _) _
theorem grown_join {W A B : World} {r r' : Option Nat} (h : W.grownBy A r) (k : A.grownBy B r') (hr : ∀ j, r' = some j → r = some j ∨ W.heap.size ≤ j) : W.grownBy B r :=
  ⟨k.os.trans h.os, k.tape.trans h.tape, k.output.trans h.output, Nat.le_trans h.size k.size, fun j hj hne =>
    (k.block j (Nat.lt_of_lt_of_le hj h.size) (fun e => by
      rcases hr j e.symm with e1 | e1
      · exact hne e1.symm
      · omega)).trans (h.block j hj hne)⟩

/-- The cells of a row of hunks. -/
def hkCells (xs : List HV) : List Value := xs.flatMap fun x => [numV x.at_, x.vo, x.vn]
theorem hkCells_append (xs ys : List HV) : hkCells (xs ++ ys) = hkCells xs ++ hkCells ys := by simp [hkCells]

/-- What stands of the hunks so far. -/
def HRow (w0 : World) (n₀ Bh : Nat) (pre : List HV) (W : World) : Prop :=
  (∃ v, Boxed W Bh 23 v ∧ W.ownsRow n₀ 40 3 v pre.length (hkCells pre)) ∧ (∀ x ∈ pre, HV.Ok n₀ x W) ∧ Below n₀ w0 W

theorem HV.Ok.shy (n₀ B : Nat) (x : HV) : Shy B (HV.Ok n₀ x) := fun _ _ _ _ h _ hl ho => ⟨ownsRow_putObj h.1 _ hl ho, ownsRow_putObj h.2 _ hl ho⟩
theorem HV.Ok.below {n₀ : Nat} {x : HV} {W W' : World} (h : HV.Ok n₀ x W) (hb : Below W.heap.size W W') : HV.Ok n₀ x W' := ⟨owns_below h.1 hb, owns_below h.2 hb⟩
theorem HV.Ok.keep {n₀ m : Nat} {x : HV} {W W' : World} (h : HV.Ok n₀ x W) (hk : Keep m W W') : HV.Ok n₀ x W' := ⟨hk.owns h.1 (by decide) (by decide), hk.owns h.2 (by decide) (by decide)⟩
theorem boxed_put {W : World} {b l : Nat} {t : TypeId} {v : Value} {o : Obj} (h : Boxed W b t v) (hl : W.heap[l]? = some o) (ho : o.isCells = false) (o' : Obj) : Boxed (W.putObj l o') b t v := by
  have hne : b ≠ l := by
    rintro rfl
    rw [show W.heap[b]? = _ from h] at hl
    cases hl; cases ho
  exact (World.putObj_heap_other (by omega)).trans h
theorem below_put {n₀ : Nat} {w W : World} {l : Nat} (h : Below n₀ w W) (hl : n₀ ≤ l) (o' : Obj) : Below n₀ w (W.putObj l o') :=
  h.trans ⟨rfl, rfl, rfl, by simp [World.putObj], fun k hk => World.putObj_heap_other (by omega)⟩
theorem HRow.shy {w0 : World} {n₀ Bh B : Nat} (hB : n₀ ≤ B) (pre : List HV) : Shy B (HRow w0 n₀ Bh pre) := by
  rintro W l o o' ⟨⟨v, h1, h2⟩, h3, h4⟩ hl ho hc
  exact ⟨⟨v, boxed_put h1 ho hc _, ownsRow_putObj h2 _ ho hc⟩, fun x hx => HV.Ok.shy n₀ B x _ _ _ _ (h3 x hx) hl ho hc, below_put h4 (by omega) _⟩
theorem HRow.below {w0 : World} {n₀ Bh : Nat} {pre : List HV} {W W' : World} (h : HRow w0 n₀ Bh pre W) (hn : n₀ ≤ w0.heap.size) (hb : Below W.heap.size W W') : HRow w0 n₀ Bh pre W' := by
  obtain ⟨⟨v, h1, h2⟩, h3, h4⟩ := h
  exact ⟨⟨v, (hb.block _ h1.lt).trans h1, owns_below h2 hb⟩, fun x hx => (h3 x hx).below hb, h4.trans (hb.mono (Nat.le_trans hn h4.size))⟩

theorem keep_put {n₀ : Nat} {W : World} {l : Nat} {o : Obj} (hl : n₀ ≤ l) (ho : W.heap[l]? = some o) (hc : o.isCells = false) (o' : Obj) : Keep n₀ W (W.putObj l o') := by
  refine ⟨below_put (Below.refl _ _) hl o', fun k c t fr hk _ _ => ?_⟩
  have hne : k ≠ l := by
    rintro rfl
    rw [hk] at ho
    cases ho; cases hc
  exact (World.putObj_heap_other (by omega)).trans hk

end Go.Proofs.Ytkiafelpgcmifaa
