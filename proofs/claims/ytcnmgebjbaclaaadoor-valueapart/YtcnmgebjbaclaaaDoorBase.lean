/-
  Rows of cells and of texts, in worlds; small laws that every walk of this seat uses.
-/
import Derived.Test.YtcnmgebjbaclaaaDoorRows
import Derived.WalkKit
import Derived.WalkSpells
import Derived.WalkLawsBesides
import Derived.Lib.Strings
import Derived.Lib.Slices
import Derived.Lib.Walk
import Derived.Lib.Bytealg
import Derived.Lib.AppendStr
import Derived.Lib.BufferWrite
import Derived.Lib.UnsafeStr
import Derived.Laws.MakeOwn
import Derived.Laws.OwnMore
import Derived.Laws.AppendOwnNone
import Derived.Deep.QuietTactic
import Derived.BigQuiet
import Derived.RangeFuncBox
import Derived.Maps.AppendAt
import Derived.Test.YtcnmgebjbaclaaaDoorLcs
namespace Go.Proofs.YtcnmgebjbaclaaaDoor
open Go.RowKit

namespace Ln
/-- A string's value out of its bytes. -/
def bs (l : List UInt8) : ByteArray := ⟨l.toArray⟩
theorem bs_toList (l : List UInt8) : (bs l).data.toList = l := rfl
theorem bs_size (l : List UInt8) : (bs l).size = l.length := rfl
theorem bs_of (s : ByteArray) : bs s.data.toList = s := rfl
end Ln

theorem ret_int {k : IntKind} {a b : Int} (h : a = b) : Ending.returned (.int k a) = .returned (.int k b) := by rw [h]
theorem ret_bool {a b : Bool} (h : a = b) : Ending.returned (.bool a) = .returned (.bool b) := by rw [h]
theorem below_drewN {B : Nat} {a w : World} (h : Below B a w) (n : Nat) : Below B a (w.drewN n) := h.trans ⟨rfl, rfl, rfl, Nat.le_refl _, fun _ _ => rfl⟩

theorem info9 : (Tryd.prog.info? 9).map (fun i => (i.zero, i.size, i.bytes)) = some (some (.string ⟨#[]⟩), 1, 16) := by kernel_rfl

/-- The cell of a text. -/
def txtV (l : List UInt8) : Value := .string (Ln.bs l)
/-- The cell of an int. -/
def numV (k : Nat) : Value := .int .i64 k

theorem bs_beq (x y : List UInt8) : ((Ln.bs x).toList == (Ln.bs y).toList) = decide (x = y) := by
  rw [Lib.toList_data, Lib.toList_data, Ln.bs_toList, Ln.bs_toList]
  rw [Bool.eq_iff_iff]; simp

/-- v is a slice of n elements whose cells read, in w, as xs; its block lies below m. -/
def CellsLow (m : Nat) (w : World) (v : Value) (n : Nat) (xs : List Value) : Prop :=
  ∃ ao cap b off, v = .slice ao n cap ∧ (n ≤ cap ∧ (ao = none → cap = 0)) ∧ (0 < n → ao = some ⟨b, off, none⟩ ∧ b < m) ∧ ∀ (j : Nat) (x : Value), xs[j]? = some x → w.cell? ⟨b, off + j, none⟩ = some x

theorem CellsLow.below {n m k : Nat} {w w' : World} {v : Value} {xs : List Value} (h : CellsLow n w v k xs) (hb : Below m w w') (hnm : n ≤ m) (h0 : k = 0 → xs = []) : CellsLow n w' v k xs := by
  obtain ⟨ao, cap, b, off, hv, hc, ha, hx⟩ := h
  refine ⟨ao, cap, b, off, hv, hc, ha, fun j x hj => ?_⟩
  by_cases hk : k = 0
  · rw [h0 hk] at hj; simp at hj
  · exact (hb.cell (p := ⟨b, off + j, none⟩) (by have := (ha (by omega)).2; show b < m; omega)).trans (hx j x hj)
theorem CellsLow.mono {n m k : Nat} {w : World} {v : Value} {xs : List Value} (h : CellsLow n w v k xs) (hnm : n ≤ m) : CellsLow m w v k xs := by
  obtain ⟨ao, cap, b, off, hv, hc, ha, hx⟩ := h
  exact ⟨ao, cap, b, off, hv, hc, fun h => ⟨(ha h).1, by have := (ha h).2; omega⟩, hx⟩

theorem CellsLow.of_owns {W : World} {B e size k : Nat} {v : Value} {xs : List Value} (h : W.ownsRow B e size v k xs) : CellsLow W.heap.size W v k xs := by
  have h0 := h
  rcases h.2 with ⟨rfl, rfl⟩ | ⟨g, cap, cur, rfl, h1, hg, h2, h3, h4, h5⟩
  · have : xs = [] := List.length_eq_zero_iff.1 (by rw [h.1]; simp)
    subst this
    exact ⟨none, 0, 0, 0, rfl, ⟨Nat.le_refl _, fun _ => rfl⟩, fun h => absurd h (by omega), fun j x hj => by simp at hj⟩
  · refine ⟨_, cap, g, 0, rfl, ⟨h2, fun e => by cases e⟩, fun _ => ⟨rfl, (Array.getElem?_eq_some_iff.1 hg).1⟩, fun j x hx => ?_⟩
    have hc := h0.cells (g := g) rfl j x hx
    have ha : (⟨g, 0, none⟩ : Addr).add j = ⟨g, j, none⟩ := by cases j <;> simp [Addr.add]
    rw [ha] at hc
    rw [Nat.zero_add]; exact hc

/-- v reads, in w, as the row L of texts, in a block below n. -/
def RowLow (n : Nat) (w : World) (v : Value) (L : List (List UInt8)) : Prop := CellsLow n w v L.length (L.map txtV)
theorem RowLow.below {n m : Nat} {w w' : World} {v : Value} {L : List (List UInt8)} (h : RowLow n w v L) (hb : Below m w w') (hnm : n ≤ m) : RowLow n w' v L :=
  CellsLow.below h hb hnm (fun h0 => by rw [List.length_eq_zero_iff.1 h0]; rfl)
theorem RowLow.mono {n m : Nat} {w : World} {v : Value} {L : List (List UInt8)} (h : RowLow n w v L) (hnm : n ≤ m) : RowLow m w v L := CellsLow.mono h hnm
theorem RowLow.parts {n : Nat} {w : World} {v : Value} {L : List (List UInt8)} (h : RowLow n w v L) : ∃ ao cap b off, v = .slice ao L.length cap ∧ (L.length ≤ cap ∧ (ao = none → cap = 0)) ∧ (0 < L.length → ao = some ⟨b, off, none⟩ ∧ b < n) ∧ ∀ (j : Nat) (x : List UInt8), L[j]? = some x → w.cell? ⟨b, off + j, none⟩ = some (.string (Ln.bs x)) := by
  obtain ⟨ao, cap, b, off, hv, hc, ha, hx⟩ := h
  exact ⟨ao, cap, b, off, hv, hc, ha, fun j x hj => hx j _ (by rw [List.getElem?_map, hj]; rfl)⟩
theorem RowLow.of_owns {W : World} {B : Nat} {v : Value} {L : List (List UInt8)} (h : W.ownsRow B 9 1 v L.length (L.map txtV)) : RowLow W.heap.size W v L := CellsLow.of_owns h

theorem owns_below {W W' : World} {B k size : Nat} {e : TypeId} {v : Value} {xs : List Value} (h : W.ownsRow B e size v k xs) (hb : Below W.heap.size W W') : W'.ownsRow B e size v k xs := by
  refine ⟨h.1, ?_⟩
  rcases h.2 with h0 | ⟨g, cap, cur, hv, h1, hg, h2⟩
  · exact .inl h0
  · exact .inr ⟨g, cap, cur, hv, h1, (hb.block g (Array.getElem?_eq_some_iff.1 hg).1).trans hg, h2⟩
end Go.Proofs.YtcnmgebjbaclaaaDoor
