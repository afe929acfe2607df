/-
  The walks of the reader: what is left, what is taken.
-/
import Derived.Test.YtkiafelpgcmifaaDoorLxWord
import Derived.Test.YtkiafelpgcmifaaDoorHeld
namespace Go.Proofs.YtkiafelpgcmifaaDoor
open Go.RowKit Go.Shelf

attribute [local go_sem] Oper.semAt_some

/-- The cells of a lexer. -/
def lxC (s : ByteArray) (k : Nat) (tv : Value) (e f : Nat) : Array Value := #[.string s, .int .i64 k, tv, .int .i64 e, .int .i64 f]
/-- A lexer lies in block b. -/
def LexAt (b : Nat) (s : ByteArray) (k : Nat) (tv : Value) (e f : Nat) (W : World) : Prop := W.heap[b]? = some (.cells (lxC s k tv e f) 44 (0, 0))
theorem LexAt.cells {b k e f : Nat} {s : ByteArray} {tv : Value} {W : World} (h : LexAt b s k tv e f W) : W.cell? ⟨b, 0, none⟩ = some (.string s) ∧ W.cell? ⟨b, 1, none⟩ = some (.int .i64 k) ∧ W.cell? ⟨b, 2, none⟩ = some tv ∧ W.cell? ⟨b, 3, none⟩ = some (.int .i64 e) ∧ W.cell? ⟨b, 4, none⟩ = some (.int .i64 f) :=
  ⟨by rw [Lib.cell_of_heap h]; rfl, by rw [Lib.cell_of_heap h]; rfl, by rw [Lib.cell_of_heap h]; rfl, by rw [Lib.cell_of_heap h]; rfl, by rw [Lib.cell_of_heap h]; rfl⟩
theorem LexAt.frozen {b k e f : Nat} {s : ByteArray} {tv : Value} {W : World} (h : LexAt b s k tv e f W) (i : Nat) : W.frozen? ⟨b, i, none⟩ = false := frozen_of_row W b i _ _ h
theorem LexAt.lt {b k e f : Nat} {s : ByteArray} {tv : Value} {W : World} (h : LexAt b s k tv e f W) : b < W.heap.size := (Array.getElem?_eq_some_iff.1 h).1

set_option maxRecDepth 100000 in
set_option maxHeartbeats 1000000 in
theorem more_any (b k e f : Nat) (s : ByteArray) (tv : Value) (w : World) (h : LexAt b s k tv e f w) :
    Calls Tryd.prog 33 #[.pointer (some ⟨b, 0, none⟩)] w fun r w' => r = .returned (.bool (decide (k < s.size))) ∧ ∃ d, w' = w.drewN d := by
  obtain ⟨c0, c1, -⟩ := h.cells
  clear h
  go_enter Tryd.func33, Tryd.ntmps33
  go_wp2
  go_quiet (fail)
  go_wp2
  go_ret
  exact ⟨ret_bool (by rw [Bool.eq_iff_iff]), _, rfl⟩

set_option maxRecDepth 100000 in
set_option maxHeartbeats 1000000 in
theorem left_any (b k e f : Nat) (s : ByteArray) (tv : Value) (w : World) (h : LexAt b s k tv e f w) (hk : k ≤ s.size) :
    Calls Tryd.prog 38 #[.pointer (some ⟨b, 0, none⟩)] w fun r w' => r = .returned (.string (s.extract k s.size)) ∧ ∃ d, w' = w.drewN d := by
  obtain ⟨c0, c1, -⟩ := h.cells
  clear h
  go_enter Tryd.func38, Tryd.ntmps38
  go_wp2
  go_quiet (fail)
  go_wp2
  go_ret
  exact ⟨rfl, _, rfl⟩

theorem LexAt.put {b k e f : Nat} {s : ByteArray} {tv : Value} {W : World} (h : LexAt b s k tv e f W) (n : Nat) : LexAt b s n tv e f (W.setCell ⟨b, 1, none⟩ (.int .i64 n)) :=
  heap_setCell_same W b 1 _ 44 (.int .i64 n) h

set_option maxRecDepth 100000 in
set_option maxHeartbeats 1000000 in
theorem take_any (b k e f n : Nat) (s : ByteArray) (tv : Value) (w : World) (h : LexAt b s k tv e f w) (hk : k + n ≤ s.size) (hs : s.size ≤ maxLen) :
    Calls Tryd.prog 42 #[.pointer (some ⟨b, 0, none⟩), .int .i64 n] w fun r w' => r = .returned (.string (s.extract k (k + n))) ∧ ∃ d, w' = (w.setCell ⟨b, 1, none⟩ (.int .i64 ((k + n : Nat) : Int))).drewN d := by
  unfold maxLen at hs
  obtain ⟨c0, c1, -⟩ := h.cells
  have f1 := h.frozen 1
  have h2 := h.put (k + n)
  rw [Int.natCast_add] at h2 ⊢
  obtain ⟨W, hW⟩ : ∃ W, W = w.setCell ⟨b, 1, none⟩ (.int .i64 ((k : Int) + (n : Int))) := ⟨_, rfl⟩
  rw [← hW] at h2 ⊢
  obtain ⟨d0, d1, -⟩ := h2.cells
  rw [Int.natCast_add] at d1
  have hadd : IntKind.i64.wrap ((k : Int) + (n : Int)) = (k : Int) + (n : Int) := by rw [IntKind.wrap_i64]; omega
  clear h h2
  go_enter Tryd.func42, Tryd.ntmps42
  go_wp2
  rw [← hW]
  go_quiet (fail)
  go_wp2
  go_ret
  exact ⟨rfl, _, rfl⟩

end Go.Proofs.YtkiafelpgcmifaaDoor
