/-
  What HunkRight needs beside its callees: the lent row as a row that is read, and rows whose memory is all distinct.
-/
import Derived.Test.YtkiafelpgcmifaaRefSorted
import Derived.Test.YtkiafelpgcmifaaApartHunksA
namespace Go.Proofs.Ytkiafelpgcmifaa
open Go.RowKit Go.Shelf

/-- The lent row, without its marks, is read as its hunks. -/
theorem lentRow_low {W : World} {B g cap : Nat} {xs ys : List HA} (h : W.ownsRow B 40 3 (.slice (some ⟨g, 0, none⟩) (xs.length + 12) cap) (xs.length + 12) (haCells ys ++ mks mcH 1 12)) (hla : LentAll B W xs ys) : HaLow W.heap.size W (.slice (some ⟨g, 0, none⟩) xs.length cap) ys := by
  have hyl := hla.1
  have hcap : xs.length + 12 ≤ cap := by
    rcases h.2 with ⟨h0, _⟩ | ⟨g', cap', cur, he, _, _, hnc, _⟩
    · cases h0
    · injection he with _ _ e3; omega
  have hg := (h.lt g rfl).2
  refine ⟨⟨some ⟨g, 0, none⟩, cap, g, 0, by rw [hyl], ⟨by omega, fun e => by cases e⟩, fun _ => ⟨rfl, hg⟩, fun j x hj => ?_⟩, fun y hy => ?_⟩
  · have hjl := (List.getElem?_eq_some_iff.1 hj).1
    have hn := haCells_len' ys
    rw [Nat.zero_add]
    refine (h.cellAt j (by omega)).trans ?_
    rw [List.getElem?_append_left hjl]; exact hj
  · obtain ⟨k, hk⟩ := List.mem_iff_getElem?.1 hy
    have hkl := (List.getElem?_eq_some_iff.1 hk).1
    obtain ⟨x, hx⟩ : ∃ x, xs[k]? = some x := ⟨xs[k]'(by omega), List.getElem?_eq_getElem (by omega)⟩
    exact (hla.2 k x y hx hk).low
/-- What is lent says what was given. -/
theorem lentAll_h {W : World} {B : Nat} {xs ys : List HA} (hla : LentAll B W xs ys) : ys.map HA.h = xs.map HA.h := by
  refine List.ext_getElem? (fun k => ?_)
  rw [List.getElem?_map, List.getElem?_map]
  by_cases hk : k < xs.length
  · have e1 := List.getElem?_eq_getElem hk
    have hk2 : k < ys.length := by rw [hla.1]; exact hk
    have e2 := List.getElem?_eq_getElem hk2
    rw [e1, e2]
    exact congrArg some (hla.2 k _ _ e1 e2).1
  · have hyl := hla.1
    rw [List.getElem?_eq_none (by omega), List.getElem?_eq_none (by omega)]
theorem lentAll_of {W : World} {B : Nat} {xs ys : List HA} (hla : LentAll B W xs ys) {P : HA → Prop} (hP : ∀ x y : HA, y.h = x.h → P x → P y) (h : ∀ x ∈ xs, P x) : ∀ y ∈ ys, P y := fun y hy => by
  obtain ⟨k, hk⟩ := List.mem_iff_getElem?.1 hy
  have hkl := (List.getElem?_eq_some_iff.1 hk).1
  have hyl := hla.1
  obtain ⟨x, hx⟩ : ∃ x, xs[k]? = some x := ⟨xs[k]'(by omega), List.getElem?_eq_getElem (by omega)⟩
  exact hP x y (hla.2 k x y hx hk).1 (h x (List.mem_of_getElem? hx))
theorem h_parts {x y : HA} (h : y.h = x.h) : y.at_ = x.at_ ∧ y.old = x.old ∧ y.new = x.new := by
  obtain ⟨p, vo, vn, P1, P2⟩ := x
  obtain ⟨p', vo', vn', Q1, Q2⟩ := y
  simp only [HA.h, Hn.H.mk.injEq] at h
  exact h
theorem fits_of {x y : HA} (h : y.h = x.h) (f : x.Fits) : y.Fits := by
  obtain ⟨h1, h2, h3⟩ := h_parts h
  unfold HA.Fits at f ⊢
  rw [h1, h2, h3]; exact f
theorem small_of {x y : HA} (h : y.h = x.h) (f : x.Small) : y.Small := by
  obtain ⟨h1, h2, h3⟩ := h_parts h
  unfold HA.Small at f ⊢
  rw [h2, h3]; exact f
theorem HaLow.at {w W : World} {v : Value} {xs : List HA} (h : HaLow w.heap.size w v xs) (hb : Below w.heap.size w W) : HaLow W.heap.size W v xs := by
  obtain ⟨⟨ao, cap, b, off, e, hc, ha, hx⟩, -⟩ := h.below hb (Nat.le_refl _)
  exact ⟨⟨ao, cap, b, off, e, hc, fun h0 => ⟨(ha h0).1, Nat.lt_of_lt_of_le (ha h0).2 hb.size⟩, hx⟩, fun x hxm => (h.2 x hxm).at hb⟩

end Go.Proofs.Ytkiafelpgcmifaa
