/-
  The walks of clerestorykit.SameHunk, SameHunks and of the law's samePairs, at rows that are the same.
-/
import Derived.Test.YtejnleigjjaenaaSame
import Derived.Test.YtejnleigjjaenaaHunks
import Derived.Deep.RegionWith
namespace Go.Proofs.Ytejnleigjjaenaa
open Go.RowKit

/-- A hunk's lines read, in w, as they are said to; they lie below m. -/
def HV.Low (m : Nat) (w : World) (x : HV) : Prop := RowLow m w x.vo x.old ∧ RowLow m w x.vn x.new
theorem HV.Low.below {m k : Nat} {w w' : World} {x : HV} (h : x.Low m w) (hb : Below k w w') (hm : m ≤ k) : x.Low m w' := ⟨h.1.below hb hm, h.2.below hb hm⟩
theorem HV.Low.mono {m k : Nat} {w : World} {x : HV} (h : x.Low m w) (hm : m ≤ k) : x.Low k w := ⟨h.1.mono hm, h.2.mono hm⟩
theorem HV.Ok.low {B : Nat} {w : World} {x : HV} (h : x.Ok B w) : x.Low w.heap.size w := ⟨RowLow.of_owns h.1, RowLow.of_owns h.2⟩
/-- v reads, in w, as a row of hunks; all of it lies below m. -/
def HkLow (m : Nat) (w : World) (v : Value) (xs : List HV) : Prop := CellsLow m w v xs.length (hkCells xs) ∧ ∀ x ∈ xs, x.Low m w
theorem hkCells_nil : hkCells [] = [] := rfl
theorem HkLow.below {m k : Nat} {w w' : World} {v : Value} {xs : List HV} (h : HkLow m w v xs) (hb : Below k w w') (hm : m ≤ k) : HkLow m w' v xs :=
  ⟨h.1.below hb hm (fun h0 => by rw [List.length_eq_zero_iff.1 h0]; rfl), fun x hx => (h.2 x hx).below hb hm⟩
theorem hkCells_get (xs : List HV) (k : Nat) (x : HV) (hx : xs[k]? = some x) : (hkCells xs)[k * 3]? = some (numV x.at_) ∧ (hkCells xs)[k * 3 + 1]? = some x.vo ∧ (hkCells xs)[k * 3 + 2]? = some x.vn := by
  induction xs generalizing k with
  | nil => simp at hx
  | cons y ys ih =>
    have e : hkCells (y :: ys) = numV y.at_ :: y.vo :: y.vn :: hkCells ys := rfl
    rw [e]
    cases k with
    | zero => simp at hx; subst hx; simp
    | succ k =>
      have e1 : (k + 1) * 3 = k * 3 + 1 + 1 + 1 := by omega
      rw [e1]
      simpa using ih k (by simpa using hx)

theorem pairCells_get (ps : List (Nat × Nat)) (k : Nat) (p : Nat × Nat) (hp : ps[k]? = some p) : (pairCells ps)[k * 2]? = some (numV p.1) ∧ (pairCells ps)[k * 2 + 1]? = some (numV p.2) := by
  induction ps generalizing k with
  | nil => simp at hp
  | cons q qs ih =>
    have e : pairCells (q :: qs) = numV q.1 :: numV q.2 :: pairCells qs := rfl
    rw [e]
    cases k with
    | zero => simp at hp; subst hp; simp
    | succ k =>
      have e1 : (k + 1) * 2 = k * 2 + 1 + 1 := by omega
      rw [e1]
      simpa using ih k (by simpa using hp)

theorem same_yes (w : World) (v1 v2 : Value) (L : List (List UInt8)) (m : Nat) (h1 : RowLow m w v1 L) (h2 : RowLow m w v2 L) (hl : L.length ≤ 1000000) :
    Calls Try.prog 11 #[v1, v2] w fun e w' => e = .returned (.bool true) ∧ ∃ k, w' = w.drewN k := by
  refine (same_any w v1 v2 L L m m h1 h2 (by omega) (by omega)).mono ?_
  rintro e w' ⟨rfl, hk⟩
  exact ⟨by simp, hk⟩

end Go.Proofs.Ytejnleigjjaenaa
