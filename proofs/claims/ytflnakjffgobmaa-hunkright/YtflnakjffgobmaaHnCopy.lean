/-
  The walk of clerestorykit.CopyTexts; hunks whose lines lie in memory of their own.
-/
import Derived.Test.YtflnakjffgobmaaHnGreat
namespace Go.Proofs.Ytflnakjffgobmaa
open Go.RowKit Go.Shelf

attribute [local go_sem] Oper.semAt_some

set_option maxRecDepth 100000 in
set_option maxHeartbeats 1000000 in
theorem copy_any (L : List (List UInt8)) (v : Value) (m : Nat) (w : World) (hrow : RowLow m w v L) (hL : L.length ≤ 1000000) :
    Calls Try.prog 47 #[v] w fun e w' => ∃ r, e = .returned r ∧ w'.ownsRow w.heap.size 9 1 r L.length (L.map txtV) ∧ Below w.heap.size w w' := by
  obtain ⟨v', W', hrun, ho, hg⟩ := app_run w.heap.size w (.slice none 0 0) 0 [] (World.ownsRow_nil _ _ _ _) v L m hrow (Nat.le_refl _) (by omega)
  rw [Nat.zero_add, List.nil_append] at ho
  have HF : Hid (W'.ownsRow w.heap.size 9 1 v' L.length (L.map txtV) ∧ Below w.heap.size w W') := ⟨ho, ⟨hg.os, hg.tape, hg.output, hg.size, fun j hj => hg.block j hj (by simp [Value.ownBlock])⟩⟩
  obtain ⟨a, c, rfl⟩ := slice_shape ho
  obtain ⟨a1, c1, b1, o1, rfl, -, -, -⟩ := hrow.parts
  clear hrow ho hg
  refine (callsIn_wide (n := 3)).1 ?_
  refine callsIn_of_wp Try.func47 rfl trivial ?_ rfl
  simp only [Try.ntmps47, List.size_toArray, List.length_cons, List.length_nil, Nat.reduceAdd, Nat.reduceSub, Array.replicate_succ, Array.replicate_zero, List.push_toArray, List.append_toArray, List.nil_append, List.cons_append]
  gi_wp2_with (gi_at_builtin; refine list_append rfl _ _ 22 rfl _ _ _ _ rfl rfl hrun ?_)
  refine bodyPost_ret (results_tmp rfl _ _ _) rfl ⟨_, rfl, ?_⟩
  exact HF.out

/-- An inverse that was made: its lines in memory of its own. -/
def HA.Ok (B : Nat) (x : HA) (W : World) : Prop := W.ownsRow B 9 1 x.vo x.old.length (x.old.map txtV) ∧ W.ownsRow B 9 1 x.vn x.new.length (x.new.map txtV)
theorem HA.Ok.below {B : Nat} {x : HA} {W W' : World} (h : x.Ok B W) (hb : Below W.heap.size W W') : x.Ok B W' := ⟨owns_below h.1 hb, owns_below h.2 hb⟩
theorem low_of_ok {B : Nat} {v : Value} {xs : List HA} {W : World} (h : W.ownsRow B 41 3 v xs.length (haCells xs)) (hx : ∀ x ∈ xs, x.Ok B W) : HaLow W.heap.size W v xs :=
  ⟨CellsLow.of_owns h, fun x hxm => ⟨RowLow.of_owns (hx x hxm).1, RowLow.of_owns (hx x hxm).2⟩⟩
theorem allSum_mem (xs : List HA) : ∀ x ∈ xs, x.old.length + x.new.length ≤ allSum xs := by
  induction xs with
  | nil => intro x hx; cases hx
  | cons y r ih =>
    intro x hx
    have e : allSum (y :: r) = (y.old.length + y.new.length) + allSum r := by simp [allSum]
    rcases List.mem_cons.1 hx with rfl | hx
    · omega
    · have := ih x hx; omega
theorem newSum_all (xs : List HA) : newSum xs ≤ allSum xs := by
  induction xs with
  | nil => simp [newSum, allSum]
  | cons y r ih => simp [newSum, allSum] at ih ⊢; omega
theorem HA.Ok.low {B : Nat} {w : World} {x : HA} (h : x.Ok B w) : x.Low w.heap.size w := ⟨RowLow.of_owns h.1, RowLow.of_owns h.2⟩

end Go.Proofs.Ytflnakjffgobmaa
