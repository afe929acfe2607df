/-
  The walk of the verifier's own markText: the text of a mark.
-/
import Derived.Test.YtkiafelpgcmifaaBase
namespace Go.Proofs.Ytkiafelpgcmifaa
open Go.RowKit

/-- The mark at place i of list k. -/
def mkT (k i : Nat) : List UInt8 := [35, UInt8.ofNat k, UInt8.ofNat (k / 256), UInt8.ofNat (k / 65536), 47, UInt8.ofNat i, UInt8.ofNat (i / 256), UInt8.ofNat (i / 65536)]

theorem byteV (n : Nat) (m : Int) (h : m = ((n % 256 : Nat) : Int)) : some (Value.int .u8 m) = some (Value.int .u8 ((UInt8.ofNat n).toNat : Int)) := by
  rw [UInt8.toNat_ofNat', h]

set_option maxRecDepth 100000 in
set_option maxHeartbeats 1000000 in
theorem markText_any (k i : Nat) (w : World) :
    Calls Try.prog 19 #[.int .i64 k, .int .i64 i] w fun e w' => e = .returned (.string (Ln.bs (mkT k i))) ∧ Below w.heap.size w w' := by
  obtain ⟨X, hX⟩ : ∃ X, X = w.alloc (Obj.cells #[Value.int IntKind.u8 35, Value.int IntKind.u8 ((k : Int) % 256), Value.int IntKind.u8 ((k : Int) / 256 % 256), Value.int IntKind.u8 ((k : Int) / 65536 % 256), Value.int IntKind.u8 47, Value.int IntKind.u8 ((i : Int) % 256), Value.int IntKind.u8 ((i : Int) / 256 % 256), Value.int IntKind.u8 ((i : Int) / 65536 % 256)] 5) := ⟨_, rfl⟩
  have hXh : X.heap[w.heap.size]? = some (Obj.cells #[Value.int IntKind.u8 35, Value.int IntKind.u8 ((k : Int) % 256), Value.int IntKind.u8 ((k : Int) / 256 % 256), Value.int IntKind.u8 ((k : Int) / 65536 % 256), Value.int IntKind.u8 47, Value.int IntKind.u8 ((i : Int) % 256), Value.int IntKind.u8 ((i : Int) / 256 % 256), Value.int IntKind.u8 ((i : Int) / 65536 % 256)] 5 (0, 0)) := by rw [hX]; exact World.alloc_heap_new w _
  have hcv : (convert 75 9 (.slice (some ⟨w.heap.size, 0, none⟩) 8 8)).run Try.prog X = .ok (.string (Ln.bs (mkT k i))) X := by
    have h := run_convert_bytes_back (P := Try.prog) X 75 9 5 ⟨w.heap.size, 0, none⟩ 8 (mkT k i) Try.underlying75 Try.underlying5 Try.underlying9 (by
      intro j hj
      have ha : (⟨w.heap.size, 0, none⟩ : Addr).add j = ⟨w.heap.size, j, none⟩ := by cases j <;> simp [Addr.add]
      rw [ha, Lib.cell_of_heap hXh]
      match j, hj with
      | 0, _ => rfl
      | 1, _ => exact byteV k _ (by omega)
      | 2, _ => exact byteV (k / 256) _ (by omega)
      | 3, _ => exact byteV (k / 65536) _ (by omega)
      | 4, _ => rfl
      | 5, _ => exact byteV i _ (by omega)
      | 6, _ => exact byteV (i / 256) _ (by omega)
      | 7, _ => exact byteV (i / 65536) _ (by omega)
      | j + 8, hj => simp [mkT] at hj; omega)
    exact h
  have hB : Below w.heap.size w X := by rw [hX]; exact (Below.refl _ w).alloc (Nat.le_refl _) _
  have HB : Hid (Below w.heap.size w X) := hB
  have HX : Hid (X = w.alloc (Obj.cells #[Value.int IntKind.u8 35, Value.int IntKind.u8 ((k : Int) % 256), Value.int IntKind.u8 ((k : Int) / 256 % 256), Value.int IntKind.u8 ((k : Int) / 65536 % 256), Value.int IntKind.u8 47, Value.int IntKind.u8 ((i : Int) % 256), Value.int IntKind.u8 ((i : Int) / 256 % 256), Value.int IntKind.u8 ((i : Int) / 65536 % 256)] 5)) := hX
  have HC : Hid ((convert 75 9 (.slice (some ⟨w.heap.size, 0, none⟩) 8 8)).run Try.prog X = .ok (.string (Ln.bs (mkT k i))) X) := hcv
  clear hX hXh hB hcv
  go_enter Try.func19, Try.ntmps19
  go_wp2
  rw [← HX.out, HC.out]
  simp only [Result.andThen]
  rw [Oper.upon_value]
  go_wp2
  go_ret
  exact ⟨rfl, HB.out⟩

end Go.Proofs.Ytkiafelpgcmifaa
