/-
  The walks of Check and Binders.
-/
import Derived.Test.YtnndgjnihhafbaaGreatDoorBnBound
namespace Go.Proofs.YtnndgjnihhafbaaGreatDoor
open Go.RowKit Go.Shelf Go.WideMaps
open Bn (Sc Bd St After)

attribute [local go_sem] Oper.semAt_some

theorem BTold.lower {m n : Nat} {w : World} (hm : n ≤ m) : ∀ {cs : List Value} {l : List Bd}, BTold m w cs l → BTold n w cs l
  | [], [], _ => trivial
  | [], _ :: _, h => h.elim
  | [_], _, h => by simp [BTold] at h
  | [_, _], _, h => by simp [BTold] at h
  | _ :: _ :: _ :: _, [], h => h.elim
  | pv :: nm :: uv :: r, d :: l, ⟨⟨e1, e2, e3, rows, e4, e5⟩, e6⟩ => ⟨⟨e1, e2, owns_lower e3 hm, rows, owns_lower e4 hm, fun j v u f1 f2 => owns_lower (e5 j v u f1 f2) hm⟩, BTold.lower hm e6⟩
/-- The fault that is told, and the binders. -/
def Bn.fault (t : Tr) : Nat × Nat := match Bn.bound t with | .error f => f | .ok _ => (0, 0)
def Bn.binders (t : Tr) : List Bd := match Bn.bound t with | .error _ => [] | .ok l => l
theorem BEnd.gen {t : Tr} {n : Nat} {e : Ending} {w' : World} (h : BEnd t n e w') : ∃ a c cs, e = .returned (.tuple #[.slice a (Bn.binders t).length c, .agg #[.int .i64 (Bn.fault t).1, .int .i64 (Bn.fault t).2]]) ∧ w'.ownsRow n 46 3 (.slice a (Bn.binders t).length c) (Bn.binders t).length cs ∧ BTold n w' cs (Bn.binders t) := by
  unfold BEnd at h
  unfold Bn.binders Bn.fault
  cases hb : Bn.bound t with
  | error f =>
    rw [hb] at h
    exact ⟨none, 0, [], h, World.ownsRow_nil _ _ _ _, trivial⟩
  | ok l =>
    rw [hb] at h
    obtain ⟨v, cs, rfl, h1, h2⟩ := h
    obtain ⟨a, c, rfl⟩ := slice_shape h1
    exact ⟨a, c, cs, rfl, h1, h2⟩

set_option maxRecDepth 100000 in
set_option maxHeartbeats 4000000 in
theorem check_any (S : Nat → Prop) (t : Tr) (val : Value) (w : World) (hS : ∀ b, S b → b < w.heap.size) (hn : NodeR S w val t) (hbd : Tr.Bd [t]) :
    Calls Tryz.prog 12 #[val] w fun e w' => Below w.heap.size w w' ∧ e = .returned (.agg #[.int .i64 (Bn.fault t).1, .int .i64 (Bn.fault t).2]) := by
  have hn0 := hn
  obtain ⟨⟨k, tx, nn, kv, kids⟩, rfl, ht, hf, hrow⟩ := hn
  obtain ⟨ao, cap, hkv⟩ := hrow.slice
  simp only at hkv
  subst hkv
  simp only [N1.cells] at hn0 ⊢
  obtain ⟨N, hN⟩ : ∃ N, N = kids.length := ⟨_, rfl⟩
  rw [← hN] at hn0 ⊢
  obtain ⟨X0, h0⟩ : ∃ X, X = w.alloc (.cells #[.int .u8 k, .string (Ln.bs tx), .int .i64 nn, .slice ao N cap] 25) := ⟨_, rfl⟩
  obtain ⟨X, hX⟩ : ∃ X, X = X0.alloc (.cells #[.int .i64 0, .int .i64 0] 31) := ⟨_, rfl⟩
  have s0 : X0.heap.size = w.heap.size + 1 := by rw [h0, World.size_alloc]
  have sX : X.heap.size = w.heap.size + 1 + 1 := by rw [hX, World.size_alloc, s0]
  have b0 : Below w.heap.size w X0 := h0 ▸ below_new w _
  have b1 : Below X0.heap.size X0 X := hX ▸ below_new X0 _
  have bX : Below w.heap.size w X := below_then b0 b1
  have n0 : X.heap[w.heap.size]? = some (.cells #[.int .u8 k, .string (Ln.bs tx), .int .i64 nn, .slice ao N cap] 25 (0, 0)) := (b1.block _ (by omega)).trans (by rw [h0]; exact World.alloc_heap_new w _)
  have n1 : X.heap[w.heap.size + 1]? = some (.cells #[.int .i64 0, .int .i64 0] 31 (0, 0)) := by rw [hX, ← s0]; exact World.alloc_heap_new X0 _
  have hnX : NodeR S X (.agg #[.int .u8 k, .string (Ln.bs tx), .int .i64 nn, .slice ao N cap]) t := by
    obtain ⟨x, e1, e2, e3, e4⟩ := hn0
    exact ⟨x, e1, e2, e3, e4.keep (fun b hb => bX.block b (hS b hb)) (fun _ hb => hb)⟩
  have HC : Hid (_) := bound_any S t _ X (fun b hb => by have := hS b hb; omega) hnX hbd
  have HX : Hid (Below w.heap.size w X ∧ X.heap.size = w.heap.size + 1 + 1 ∧ X.heap[w.heap.size + 1]? = some (.cells #[.int .i64 0, .int .i64 0] 31 (0, 0))) := ⟨bX, sX, n1⟩
  have c0 : X.cell? ⟨w.heap.size, 0, none⟩ = some (.int .u8 k) := cells_at n0 rfl
  have c1 : X.cell? ⟨w.heap.size, 1, none⟩ = some (.string (Ln.bs tx)) := cells_at n0 rfl
  have c2 : X.cell? ⟨w.heap.size, 2, none⟩ = some (.int .i64 nn) := cells_at n0 rfl
  have c3 : X.cell? ⟨w.heap.size, 3, none⟩ = some (.slice ao N cap) := cells_at n0 rfl
  have hXX : X = (w.alloc (.cells #[.int .u8 k, .string (Ln.bs tx), .int .i64 nn, .slice ao N cap] 25)).alloc (.cells #[.int .i64 0, .int .i64 0] 31) := by rw [hX, h0]
  rw [hXX] at c0 c1 c2 c3
  clear hn0 ht hf hrow hN h0 hX s0 sX b0 b1 bX n0 n1 hnX hS hbd
  go_enter Tryz.func12, Tryz.ntmps12
  go_wp2_with fail
  rw [← hXX]
  clear hXX c0 c1 c2 c3
  refine Calls.mono HC.out ?_
  rintro e w1 ⟨hb1, hend⟩
  obtain ⟨a, c, cs, rfl, -, -⟩ := hend.gen
  obtain ⟨E, hE⟩ : ∃ E : Nat, E = (Bn.fault t).1 := ⟨_, rfl⟩
  obtain ⟨I, hI⟩ : ∃ I : Nat, I = (Bn.fault t).2 := ⟨_, rfl⟩
  obtain ⟨L, hL⟩ : ∃ L : Nat, L = (Bn.binders t).length := ⟨_, rfl⟩
  rw [← hE, ← hI, ← hL]
  have HEI : Hid (E = (Bn.fault t).1 ∧ I = (Bn.fault t).2) := ⟨hE, hI⟩
  obtain ⟨Y, hY⟩ : ∃ Y, Y = w1.alloc (.cells #[.int .i64 E, .int .i64 I] 31) := ⟨_, rfl⟩
  have bY : Below w1.heap.size w1 Y := hY ▸ below_new w1 _
  have y1 := (bY.block _ (by have := hb1.size; have := HX.out.2.1; omega)).trans ((hb1.block _ (by have := HX.out.2.1; omega)).trans HX.out.2.2)
  have yn : Y.heap[w1.heap.size]? = some (.cells #[.int .i64 E, .int .i64 I] 31 (0, 0)) := by rw [hY]; exact World.alloc_heap_new w1 _
  have u1 := heap_setCell_same Y (w.heap.size + 1) 0 _ 31 (.int .i64 E) y1
  have u2 := heap_setCell_same _ (w.heap.size + 1) 1 _ 31 (.int .i64 I) u1
  have g1 := (grown_set Y (w.heap.size + 1) 0 (.int .i64 E)).trans (grown_set _ (w.heap.size + 1) 1 (.int .i64 I))
  have hBW : Below w.heap.size w Y := below_then (below_then HX.out.1 hb1) bY
  obtain ⟨Q, hQ⟩ : ∃ Q, Q = (Y.setCell ⟨w.heap.size + 1, 0, none⟩ (.int .i64 E)).setCell ⟨w.heap.size + 1, 1, none⟩ (.int .i64 I) := ⟨_, rfl⟩
  rw [← hQ] at u2 g1
  have q0 : Q.cell? ⟨w.heap.size + 1, 0, none⟩ = some (.int .i64 E) := cells_at u2 rfl
  have q1 : Q.cell? ⟨w.heap.size + 1, 1, none⟩ = some (.int .i64 I) := cells_at u2 rfl
  have e0 : Y.cell? ⟨w1.heap.size, 0, none⟩ = some (.int .i64 E) := cells_at yn rfl
  have e1 : Y.cell? ⟨w1.heap.size, 1, none⟩ = some (.int .i64 I) := cells_at yn rfl
  have f0 : Y.cell? ⟨w.heap.size + 1, 0, none⟩ = some (.int .i64 0) := cells_at y1 rfl
  have f1 : (Y.setCell ⟨w.heap.size + 1, 0, none⟩ (.int .i64 E)).cell? ⟨w.heap.size + 1, 1, none⟩ = some (.int .i64 0) := cells_at u1 rfl
  have ff : ∀ j, Y.frozen? ⟨w.heap.size + 1, j, none⟩ = false := fun j => frozen_of_row Y _ j _ _ y1
  have HQ : Hid (Below w.heap.size w Q) := ⟨g1.os.trans hBW.os, g1.tape.trans hBW.tape, g1.output.trans hBW.output, Nat.le_trans hBW.size g1.size, fun k hk => (g1.block k (Nat.lt_of_lt_of_le hk hBW.size) (by simp; omega)).trans (hBW.block k hk)⟩
  rw [hY] at e0 e1 f0 f1 ff hQ
  clear hE hI hL hb1 hend hY bY y1 yn u1 u2 g1 hBW
  go_wp2_with fail
  rw [← hQ]
  clear hQ e0 e1 f0 f1 ff
  refine bodyPost_ret (v := .agg #[.int .i64 E, .int .i64 I]) ?_ rfl ⟨HQ.out, by rw [HEI.out.1, HEI.out.2]⟩
  simp [results, Tryz.results12, go_sem, q0, q1]

set_option maxRecDepth 100000 in
set_option maxHeartbeats 4000000 in
theorem binders_any (S : Nat → Prop) (t : Tr) (val : Value) (w : World) (hS : ∀ b, S b → b < w.heap.size) (hn : NodeR S w val t) (hbd : Tr.Bd [t]) :
    Calls Tryz.prog 15 #[val] w fun e w' => Below w.heap.size w w' ∧ ∃ v cs, e = .returned v ∧ w'.ownsRow w.heap.size 46 3 v (Bn.binders t).length cs ∧ BTold w.heap.size w' cs (Bn.binders t) := by
  have hn0 := hn
  obtain ⟨⟨k, tx, nn, kv, kids⟩, rfl, ht, hf, hrow⟩ := hn
  obtain ⟨ao, cap, hkv⟩ := hrow.slice
  simp only at hkv
  subst hkv
  simp only [N1.cells] at hn0 ⊢
  obtain ⟨N, hN⟩ : ∃ N, N = kids.length := ⟨_, rfl⟩
  rw [← hN] at hn0 ⊢
  obtain ⟨X, hX⟩ : ∃ X, X = w.alloc (.cells #[.int .u8 k, .string (Ln.bs tx), .int .i64 nn, .slice ao N cap] 25) := ⟨_, rfl⟩
  have sX : X.heap.size = w.heap.size + 1 := by rw [hX, World.size_alloc]
  have bX : Below w.heap.size w X := hX ▸ below_new w _
  have n0 : X.heap[w.heap.size]? = some (.cells #[.int .u8 k, .string (Ln.bs tx), .int .i64 nn, .slice ao N cap] 25 (0, 0)) := by rw [hX]; exact World.alloc_heap_new w _
  have hnX : NodeR S X (.agg #[.int .u8 k, .string (Ln.bs tx), .int .i64 nn, .slice ao N cap]) t := by
    obtain ⟨x, e1, e2, e3, e4⟩ := hn0
    exact ⟨x, e1, e2, e3, e4.keep (fun b hb => bX.block b (hS b hb)) (fun _ hb => hb)⟩
  have HC : Hid (_) := bound_any S t _ X (fun b hb => by have := hS b hb; omega) hnX hbd
  have HX : Hid (Below w.heap.size w X) := bX
  have c0 : X.cell? ⟨w.heap.size, 0, none⟩ = some (.int .u8 k) := cells_at n0 rfl
  have c1 : X.cell? ⟨w.heap.size, 1, none⟩ = some (.string (Ln.bs tx)) := cells_at n0 rfl
  have c2 : X.cell? ⟨w.heap.size, 2, none⟩ = some (.int .i64 nn) := cells_at n0 rfl
  have c3 : X.cell? ⟨w.heap.size, 3, none⟩ = some (.slice ao N cap) := cells_at n0 rfl
  rw [hX] at c0 c1 c2 c3
  clear hn0 ht hf hrow hN sX bX n0 hnX hS hbd
  go_enter Tryz.func15, Tryz.ntmps15
  go_wp2_with fail
  rw [← hX]
  clear hX c0 c1 c2 c3
  refine Calls.mono HC.out ?_
  rintro e w1 ⟨hb1, hend⟩
  obtain ⟨a, c, cs, rfl, h1, h2⟩ := hend.gen
  obtain ⟨E, hE⟩ : ∃ E : Nat, E = (Bn.fault t).1 := ⟨_, rfl⟩
  obtain ⟨I, hI⟩ : ∃ I : Nat, I = (Bn.fault t).2 := ⟨_, rfl⟩
  rw [← hE, ← hI]
  obtain ⟨Y, hY⟩ : ∃ Y, Y = w1.alloc (.cells #[.int .i64 E, .int .i64 I] 31) := ⟨_, rfl⟩
  have bY : Below w1.heap.size w1 Y := hY ▸ below_new w1 _
  have HQ : Hid (Below w.heap.size w Y ∧ Y.ownsRow w.heap.size 46 3 (.slice a (Bn.binders t).length c) (Bn.binders t).length cs ∧ BTold w.heap.size Y cs (Bn.binders t)) := ⟨below_then (below_then HX.out hb1) bY, owns_at (owns_lower h1 HX.out.size) bY (Nat.le_refl _), (h2.lower HX.out.size).at bY (Nat.le_refl _)⟩
  clear hE hI hb1 hend h1 h2 bY
  go_wp2_with fail
  rw [← hY]
  clear hY
  go_ret
  exact ⟨HQ.out.1, _, cs, rfl, HQ.out.2⟩
end Go.Proofs.YtnndgjnihhafbaaGreatDoor
