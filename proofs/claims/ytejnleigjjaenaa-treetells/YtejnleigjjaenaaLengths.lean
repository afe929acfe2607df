/-
  The walks of diff.lengths and of its closure: the table of how long a longest row is.
-/
import Derived.Test.YtejnleigjjaenaaNumbered
namespace Go.Proofs.Ytejnleigjjaenaa
open Go.RowKit

/-- The row of the table for xs, filled from place j on. -/
def tabVals (xs ys : List Nat) (j : Nat) : List Value := (List.range (ys.length + 1)).map fun k => if j ≤ k then .int .u16 (Df.lc xs (ys.drop k)) else .int .u16 0

theorem tabVals_len (xs ys : List Nat) (j : Nat) : (tabVals xs ys j).length = ys.length + 1 := by simp [tabVals]
theorem tabVals_get (xs ys : List Nat) (j k : Nat) (hk : k ≤ ys.length) (hj : j ≤ k) : (tabVals xs ys j)[k]? = some (.int .u16 (Df.lc xs (ys.drop k))) := by
  unfold tabVals
  rw [List.getElem?_map, List.getElem?_range (by omega)]
  simp [hj]
theorem tabVals_start (xs ys : List Nat) : tabVals xs ys ys.length = List.replicate (ys.length + 1) (.int .u16 0) := by
  apply List.ext_getElem?
  intro k
  unfold tabVals
  by_cases hk : k < ys.length + 1
  · rw [List.getElem?_map, List.getElem?_range hk, List.getElem?_replicate, if_pos hk]
    by_cases e : ys.length ≤ k
    · have : k = ys.length := by omega
      subst this
      simp [Df.lc_nil_right]
    · simp [e]
  · rw [List.getElem?_eq_none (by simp; omega), List.getElem?_eq_none (by simp; omega)]
theorem tabVals_set (xs ys : List Nat) (j : Nat) (hj : j < ys.length) : (tabVals xs ys (j + 1)).set j (.int .u16 (Df.lc xs (ys.drop j))) = tabVals xs ys j := by
  apply List.ext_getElem?
  intro k
  rw [List.getElem?_set]
  by_cases hk : k < ys.length + 1
  · by_cases e : j = k
    · subst e
      rw [if_pos rfl, if_pos (by rw [tabVals_len]; omega), tabVals_get xs ys j j (by omega) (Nat.le_refl _)]
    · rw [if_neg e]
      unfold tabVals
      rw [List.getElem?_map, List.getElem?_map, List.getElem?_range hk]
      simp only [Option.map_some]
      congr 1
      by_cases e2 : j ≤ k
      · rw [if_pos e2, if_pos (by omega)]
      · rw [if_neg e2, if_neg (by omega)]
  · rw [if_neg (by omega), List.getElem?_eq_none (by rw [tabVals_len]; omega), List.getElem?_eq_none (by rw [tabVals_len]; omega)]

theorem tabVals_none (ys : List Nat) : tabVals [] ys 0 = List.replicate (ys.length + 1) (.int .u16 0) := by
  apply List.ext_getElem?
  intro k
  unfold tabVals
  by_cases hk : k < ys.length + 1
  · rw [List.getElem?_map, List.getElem?_range hk, List.getElem?_replicate, if_pos hk]
    simp [Df.lc_nil_left]
  · rw [List.getElem?_eq_none (by simp; omega), List.getElem?_eq_none (by simp; omega)]

theorem lc_drop_eq (xs ys : List Nat) (i j x : Nat) (hx : xs[i]? = some x) (hy : ys[j]? = some x) : Df.lc (xs.drop i) (ys.drop j) = Df.lc (xs.drop (i + 1)) (ys.drop (j + 1)) + 1 := by
  rw [Df.drop_at hx, Df.drop_at hy, Df.lc_cons_eq]
theorem lc_drop_ne (xs ys : List Nat) (i j x y : Nat) (hx : xs[i]? = some x) (hy : ys[j]? = some y) (h : x ≠ y) : Df.lc (xs.drop i) (ys.drop j) = max (Df.lc (xs.drop (i + 1)) (ys.drop j)) (Df.lc (xs.drop i) (ys.drop (j + 1))) := by
  rw [Df.drop_at hx, Df.drop_at hy, Df.lc_cons_ne h]
theorem lc_le (xs ys : List Nat) (j : Nat) (h : ys.length ≤ 4096) : Df.lc xs (ys.drop j) ≤ 4096 := by
  have := Df.lc_le_right xs (ys.drop j)
  rw [List.length_drop] at this
  omega

theorem cells_num {w : World} {B g : Nat} {xs : List Nat} (h : w.ownsRow B 3 1 (.slice (some ⟨g, 0, none⟩) xs.length xs.length) xs.length (xs.map numV)) : ∀ k x, xs[k]? = some x → w.cell? ⟨g, k, none⟩ = some (numV x) := by
  intro k x hx
  have hk : k < xs.length := (List.getElem?_eq_some_iff.1 hx).1
  rw [h.cellAt k (by omega), List.getElem?_map, hx]; rfl

end Go.Proofs.Ytejnleigjjaenaa
