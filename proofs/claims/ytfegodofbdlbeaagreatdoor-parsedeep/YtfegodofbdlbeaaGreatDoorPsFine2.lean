/-
  What File tells of a text: few nodes; two files in a row are right; the tokens of print's expression.
-/
import Derived.Test.YtfegodofbdlbeaaGreatDoorPsFine
import Derived.Test.YtfegodofbdlbeaaGreatDoorMoreAll
namespace Go.Proofs.YtfegodofbdlbeaaGreatDoor
open Go.RowKit Go.Shelf

theorem FileOk.right {s : List UInt8} {ts : List Tr} (h : FileOk s ts) : Tr.right 40 (.mk 1 [] 0 ts) = true := by
  obtain ⟨_, _, _, _, h⟩ := h; exact h
/-- What File tells, ready to be stored. -/
def GTold (s : ByteArray) (w w' : World) (v : Value) (E i : Nat) : Prop :=
  (E = 0 ∧ i = 0 ∧ ∃ ts, FileOk s.data.toList ts ∧ NodeR (newS w.heap.size w'.heap.size) w' v (.mk 1 [] 0 ts)) ∨ (E ≠ 0 ∧ FileBad s.data.toList E i ∧ v = zeroV)
theorem GEnd.gen {s : ByteArray} {w w' : World} {e : Ending} (h : GEnd s w e w') : ∃ (k : Int) (tx : ByteArray) (n : Int) (a : Option Addr) (L c : Nat) (E i : Nat), e = .returned (.tuple #[.agg #[.int .u8 k, .string tx, .int .i64 n, .slice a L c], .agg #[.int .i64 E, .int .i64 i]]) ∧ GTold s w w' (.agg #[.int .u8 k, .string tx, .int .i64 n, .slice a L c]) E i := by
  rcases h.told with ⟨ts, v, h1, rfl, h3⟩ | ⟨E, i, h1, h2, rfl⟩
  · obtain ⟨k, tx, n, a, L, c, rfl⟩ := h3.pshape
    exact ⟨_, _, _, _, _, _, 0, 0, rfl, .inl ⟨rfl, rfl, ts, h1, h3⟩⟩
  · exact ⟨0, _, _, _, _, _, E, i, rfl, .inr ⟨h2, h1, rfl⟩⟩
theorem GTold.node {s : ByteArray} {w w' W : World} {v : Value} {E i : Nat} (h : GTold s w w' v E i) (hb : Below w'.heap.size w' W) : (E = 0 ∧ i = 0 ∧ ∃ ts, FileOk s.data.toList ts ∧ NodeR (lowS W.heap.size) W v (.mk 1 [] 0 ts)) ∨ (E ≠ 0 ∧ FileBad s.data.toList E i ∧ NodeR (lowS W.heap.size) W v Tr.zero) := by
  rcases h with ⟨h1, h2, ts, h3, h4⟩ | ⟨h1, h2, rfl⟩
  · exact .inl ⟨h1, h2, ts, h3, by
    obtain ⟨x, a, b, c, d⟩ := h4.low hb (Nat.le_refl _)
    exact ⟨x, a, b, c, d.mono (fun _ hk => hk.2)⟩⟩
  · exact .inr ⟨h1, h2, nodeR_zero _ W⟩

namespace Lx
end Lx
end Go.Proofs.YtfegodofbdlbeaaGreatDoor
