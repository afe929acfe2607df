/-
  The walk of clerestorykit.ApartHunks: rows of hunks, each with its lines in memory of its own, lie apart.
-/
import Derived.Test.YtkiafelpgcmifaaApartBagA
namespace Go.Proofs.Ytkiafelpgcmifaa
open Go.RowKit Go.Shelf

attribute [local go_sem] Oper.semAt_some

/-- The lists of texts of rows of hunks, with their lengths. -/
def haRows (xs : List HA) : List (Value × Nat) := xs.flatMap fun x => [(x.vo, x.old.length), (x.vn, x.new.length)]
def txtRows (Rs : List (Value × List HA)) : List (Value × Nat) := Rs.flatMap fun p => haRows p.2
def hkRows (Rs : List (Value × List HA)) : List (Value × Nat) := Rs.map fun p => (p.1, p.2.length)
theorem haRows_fst (xs : List HA) : (haRows xs).map Prod.fst = txts xs := by
  induction xs with
  | nil => rfl
  | cons x r ih => simp [haRows, txts] at ih ⊢; exact ih
theorem txtRows_fst (Rs : List (Value × List HA)) : (txtRows Rs).map Prod.fst = Rs.flatMap fun p => txts p.2 := by
  induction Rs with
  | nil => rfl
  | cons x r ih => rw [txtRows, List.flatMap_cons, List.map_append, haRows_fst, List.flatMap_cons]; exact congrArg _ ih
theorem BagIs.mono {B B' b : Nat} {T H : List Value} {W : World} (h : BagIs B b T H W) (hb : B' ≤ B) : BagIs B' b T H W := by
  obtain ⟨tv, hv, h0, h1, h2, h3⟩ := h
  exact ⟨tv, hv, h0, Nat.le_trans hb h1, owns_base h2 hb, owns_base h3 hb⟩
theorem own_txt {B : Nat} {Rs : List (Value × List HA)} {W : World} (hrow : ∀ p ∈ Rs, W.ownsRow B 40 3 p.1 p.2.length (haCells p.2) ∧ ∀ x ∈ p.2, HA.Ok B x W) : Own 9 1 B (txtRows Rs) W (fun _ _ => True) := fun j p hp => by
  have hm := List.mem_of_getElem? hp
  obtain ⟨q, hq, hm⟩ := List.mem_flatMap.1 hm
  obtain ⟨x, hx, hm⟩ := List.mem_flatMap.1 hm
  obtain ⟨o1, o2⟩ := (hrow q hq).2 x hx
  simp only [List.mem_cons, List.not_mem_nil, or_false] at hm
  rcases hm with rfl | rfl
  · exact ⟨_, o1, trivial⟩
  · exact ⟨_, o2, trivial⟩
theorem own_hk {B : Nat} {Rs : List (Value × List HA)} {W : World} (hrow : ∀ p ∈ Rs, W.ownsRow B 40 3 p.1 p.2.length (haCells p.2) ∧ ∀ x ∈ p.2, HA.Ok B x W) : Own 40 3 B (hkRows Rs) W (fun _ _ => True) := fun j p hp => by
  have hm := List.mem_of_getElem? hp
  obtain ⟨q, hq, rfl⟩ := List.mem_map.1 hm
  exact ⟨_, (hrow q hq).1, trivial⟩

/-- A row that lay there stays, where all that lay there stays. -/
theorem owns_lt {W W' : World} {B k size : Nat} {e : TypeId} {v : Value} {xs : List Value} (h : W.ownsRow B e size v k xs) (hb : Below W.heap.size W W') : W'.ownsRow B e size v k xs := owns_below h hb

end Go.Proofs.Ytkiafelpgcmifaa
