/-
  The walk of the law's own function of (chapter 4): a hunk of lines of one byte each.
-/
import Derived.Test.YtkiafelpgcmifaaShGreat
namespace Go.Proofs.Ytkiafelpgcmifaa
open Go.RowKit Go.Shelf

attribute [local go_sem] Oper.semAt_some

/-- Lines of one byte each. -/
def ones (l : List UInt8) : List (List UInt8) := l.map fun c => [c, 10]
theorem ones_succ (l : List UInt8) (k : Nat) (c : UInt8) (h : l[k]? = some c) : (ones (l.take (k + 1))).map txtV = (ones (l.take k)).map txtV ++ [.string (Ln.bs [c, 10])] := by
  rw [List.take_add_one, h]; simp [ones, txtV]
theorem ones_take_len (l : List UInt8) (k : Nat) (h : k ≤ l.length) : ((ones (l.take k)).map txtV).length = k := by
  simp [ones]; omega
/-- The variable of the hunk so far. -/
def OfBox (w0 w : World) (B2 : Nat) (b : Nat) (p : Int) (vo vn : Value) (l t : List UInt8) (k j : Nat) : Prop :=
  w.heap[b]? = some (.cells #[.int .i64 p, vo, vn] 40 (0, 0)) ∧ w.ownsRow w0.heap.size 9 1 vo k ((ones (l.take k)).map txtV) ∧ w.ownsRow B2 9 1 vn j ((ones (t.take j)).map txtV) ∧ Below w0.heap.size w0 w ∧ w0.heap.size ≤ b
set_option maxRecDepth 100000 in
theorem slice_one (l : List UInt8) (k : Nat) (c : UInt8) (h : l[k]? = some c) (w : World) : (Instr.slice 9 (.string (Ln.bs l)) (some (.int .i64 k)) (some (.int .i64 ((k : Int) + 1))) none).run Try.prog w = .ok (.string (Ln.bs [c])) w := by
  have hk : k < l.length := (List.getElem?_eq_some_iff.1 h).1
  have q := run_slice_string (P := Try.prog) w 9 (Ln.bs l) .i64 .i64 (k : Int) ((k : Int) + 1) Try.underlying9 (by omega) (by omega) (by rw [Ln.bs_size]; omega)
  rw [q]
  congr 2
  have e : ((k : Int) + 1).toNat = k + 1 := by omega
  rw [Int.toNat_natCast, e]
  apply ByteArray.ext
  rw [ByteArray.data_extract]
  show ((l.toArray).extract k (k + 1)) = _
  apply Array.ext'
  rw [Array.toList_extract]
  simp only [List.extract_eq_take_drop, Nat.add_sub_cancel_left]
  show (l.drop k).take 1 = [c]
  rw [List.drop_eq_getElem_cons hk, (List.getElem?_eq_some_iff.1 h).2]
  rfl

end Go.Proofs.Ytkiafelpgcmifaa
