/-
  The walks of the document's Unary and Binary.
-/
import Derived.Test.YtcnmgebjbaclaaaDoorVlRef
namespace Go.Proofs.YtcnmgebjbaclaaaDoor
open Go.RowKit Go.Shelf
open Vl (V Res)

attribute [local go_sem] Oper.semAt_some

theorem rright_va (x : VA) (w : World) {N : Nat} {w0 : World} (h : x.Low N w0) : Calls Tryd.prog 12 #[x.val] w fun e w' => e = .returned (.bool (Vl.right x.v)) ∧ Below w.heap.size w w' := by
  obtain ⟨ao, cap, e⟩ := h.shape
  rw [VA.val, e]
  exact rright_any x.k x.n ao x.r cap h.2 w
theorem bin_good {q : List UInt8} {a b : V} {o : Nat} (ho : Vl.opOf q = o) (h13 : o < 13) (ha : Vl.right a = true) (hb : Vl.right b = true) : Vl.bin q a b = if Vl.takes o a && Vl.takes o b then Vl.makes o a b else .err 200 := by
  unfold Vl.bin
  rw [ho]
  simp [h13, ha, hb]
theorem bin_bad {q : List UInt8} {a b : V} (h : (decide (Vl.opOf q < 13) && (Vl.right a && Vl.right b)) = false) : Vl.bin q a b = .err 2 := by
  unfold Vl.bin
  have e : (decide (Vl.opOf q < 13) && [a, b].all Vl.right) = false := by rw [← h]; simp
  rw [e]; rfl
theorem right_bool {k n : Int} {vs : Value} {r : List Int} (h : Vl.right (VA.v ⟨k, n, vs, r⟩) = true) : k = 2 → n = 0 ∨ n = 1 := by
  rintro rfl
  have h2 : ((decide (n = 0) || decide (n = 1)) && decide (r.length = 0)) = true := h
  simp at h2
  exact h2.1
theorem op_lit {q : List UInt8} (h : Vl.opOf q < 13) : q = [124, 124] ∨ q = [38, 38] ∨ q = [61, 61] ∨ q = [33, 61] ∨ q = [60] ∨ q = [60, 61] ∨ q = [62] ∨ q = [62, 61] ∨ q = [43] ∨ q = [45] ∨ q = [42] ∨ q = [47] ∨ q = [37] := by
  obtain ⟨-, h2, -⟩ := place_le q Vl.signs
  have h3 := List.mem_of_getElem? (h2 h)
  simpa [Vl.signs] using h3
theorem rreckoned_any (q : List UInt8) (x y : Int) (h4 : 4 ≤ Vl.opOf q) (h13 : Vl.opOf q < 13) (w : World) : Calls Tryd.prog 41 #[.string (Ln.bs q), .int .i64 x, .int .i64 y] w fun e w' => RTold (Vl.makes (Vl.opOf q) ⟨1, x, []⟩ ⟨1, y, []⟩) e ∧ Below w.heap.size w w' := by
  rcases op_lit h13 with rfl | rfl | rfl | rfl | rfl | rfl | rfl | rfl | rfl | rfl | rfl | rfl | rfl
  · exact absurd h4 (by decide)
  · exact absurd h4 (by decide)
  · exact absurd h4 (by decide)
  · exact absurd h4 (by decide)
  · exact rreckoned4 x y w
  · exact rreckoned5 x y w
  · exact rreckoned6 x y w
  · exact rreckoned7 x y w
  · exact rreckoned8 x y w
  · exact rreckoned9 x y w
  · exact rreckoned10 x y w
  · exact rreckoned11 x y w
  · exact rreckoned12 x y w
end Go.Proofs.YtcnmgebjbaclaaaDoor
