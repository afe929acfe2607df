/-
  The walks of clerestorykit.SameHunk, SameHunks and of the law's samePairs, at rows that are the same.
-/
import Derived.Test.YtcnmgebjbaclaaaDoorSame
import Derived.Test.YtcnmgebjbaclaaaDoorHunks
import Derived.Deep.RegionWith
namespace Go.Proofs.YtcnmgebjbaclaaaDoor
open Go.RowKit

/-- A hunk's lines read, in w, as they are said to; they lie below m. -/
def HV.Low (m : Nat) (w : World) (x : HV) : Prop := RowLow m w x.vo x.old ∧ RowLow m w x.vn x.new
theorem HV.Low.below {m k : Nat} {w w' : World} {x : HV} (h : x.Low m w) (hb : Below k w w') (hm : m ≤ k) : x.Low m w' := ⟨h.1.below hb hm, h.2.below hb hm⟩
theorem HV.Low.mono {m k : Nat} {w : World} {x : HV} (h : x.Low m w) (hm : m ≤ k) : x.Low k w := ⟨h.1.mono hm, h.2.mono hm⟩
theorem HV.Ok.low {B : Nat} {w : World} {x : HV} (h : x.Ok B w) : x.Low w.heap.size w := ⟨RowLow.of_owns h.1, RowLow.of_owns h.2⟩
/-- v reads, in w, as a row of hunks; all of it lies below m. -/
def HkLow (m : Nat) (w : World) (v : Value) (xs : List HV) : Prop := CellsLow m w v xs.length (hkCells xs) ∧ ∀ x ∈ xs, x.Low m w
theorem HkLow.below {m k : Nat} {w w' : World} {v : Value} {xs : List HV} (h : HkLow m w v xs) (hb : Below k w w') (hm : m ≤ k) : HkLow m w' v xs :=
  ⟨h.1.below hb hm (fun h0 => by rw [List.length_eq_zero_iff.1 h0]; rfl), fun x hx => (h.2 x hx).below hb hm⟩
end Go.Proofs.YtcnmgebjbaclaaaDoor
