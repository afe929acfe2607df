/-
  Arguments that are rows of texts or of ints, opened.
-/
import Derived.Test.YtcnmgebjbaclaaaDoorBase
import Derived.SliceStrings
import Derived.ProofKit
import Derived.OpenShut
import Derived.LaidMore
import Derived.Lay
import Derived.SevenTiedAt
import Derived.Stop.Joined
namespace Go.Proofs.YtcnmgebjbaclaaaDoor
open Go.ChangeShapes Go.WideShapes Go.ChangeAt Go.RowKit

theorem own : ownKnob Tryd.prog.godebug = none := by kernel_rfl

/-- Cells by an address, as a row. -/
theorem cells_arg {w : World} {a : Addr} {n cap : Nat} {xs : List Value} (hn : xs.length = n) (hcap : n ≤ cap) (hc : ∀ (j : Nat) (x : Value), xs[j]? = some x → w.cell? (a.add j) = some x) : CellsLow w.heap.size w (.slice (some a) n cap) n xs := by
  subst hn
  cases xs with
  | nil => exact ⟨some a, cap, 0, 0, rfl, ⟨hcap, fun e => by cases e⟩, fun h => absurd h (by simp), fun j x hx => by simp at hx⟩
  | cons y r =>
    obtain ⟨b, off, spot⟩ := a
    have h0 := hc 0 y rfl
    have hspot : spot = none := by simpa [Addr.add] using World.cell?_spot h0
    subst hspot
    have hlt : b < w.heap.size := by simpa [Addr.add] using World.block_lt_of_cell? _ _ h0
    refine ⟨_, cap, b, off, rfl, ⟨hcap, fun e => by cases e⟩, fun _ => ⟨rfl, hlt⟩, fun j x hx => ?_⟩
    have := hc j x hx
    rwa [Go.WideShapes.add_plain] at this

end Go.Proofs.YtcnmgebjbaclaaaDoor
