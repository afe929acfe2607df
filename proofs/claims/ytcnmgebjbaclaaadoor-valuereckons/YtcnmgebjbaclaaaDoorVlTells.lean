/-
  The walk of tells: the program and the document tell the same of an operator.
-/
import Derived.Test.YtcnmgebjbaclaaaDoorVlRefAll
import Derived.Test.YtcnmgebjbaclaaaDoorVlRefUn
namespace Go.Proofs.YtcnmgebjbaclaaaDoor
open Go.RowKit Go.Shelf
open Vl (V Res)

attribute [local go_sem] Oper.semAt_some

theorem same_res (z : Res) (w : World) : Calls Tryd.prog 25 #[vV z.k z.n nilV, vV z.k z.n nilV] w fun e w' => e = .returned (.bool true) ∧ Below w.heap.size w w' := same0_any z.k z.n z.k z.n true (by simp [Vl.same]) w

set_option maxRecDepth 100000 in
set_option maxHeartbeats 8000000 in
theorem tells_any (q : List UInt8) (hq : q.length ≤ 1000000) (a b : VA) (w : World) (ha : a.Low w.heap.size w) (hb : b.Low w.heap.size w) :
    Calls Tryd.prog 10 #[.string (Ln.bs q), a.val, b.val] w fun e w' => e = .returned (.bool true) ∧ Below w.heap.size w w' := by
  obtain ⟨V0, h0⟩ : ∃ V, V = w.alloc (.cells #[.int .u8 a.k, .int .i64 a.n, a.vs] 25) := ⟨_, rfl⟩
  obtain ⟨V, hV⟩ : ∃ V, V = V0.alloc (.cells #[.int .u8 b.k, .int .i64 b.n, b.vs] 25) := ⟨_, rfl⟩
  have b0 : Below w.heap.size w V0 := h0 ▸ below_new w _
  have b1 : Below V0.heap.size V0 V := hV ▸ below_new V0 _
  have s0 : V0.heap.size = w.heap.size + 1 := by rw [h0, World.size_alloc]
  have bV : Below w.heap.size w V := below_then b0 b1
  have n0 : V.heap[w.heap.size]? = some (.cells #[.int .u8 a.k, .int .i64 a.n, a.vs] 25 (0, 0)) := (b1.block _ (by omega)).trans (by rw [h0]; exact World.alloc_heap_new w _)
  have n1 : V.heap[w.heap.size + 1]? = some (.cells #[.int .u8 b.k, .int .i64 b.n, b.vs] 25 (0, 0)) := by rw [hV, ← s0]; exact World.alloc_heap_new V0 _
  have HC : Hid (∀ W, Below V.heap.size V W → W.cell? ⟨w.heap.size, 0, none⟩ = some (.int .u8 a.k) ∧ W.cell? ⟨w.heap.size, 1, none⟩ = some (.int .i64 a.n) ∧ W.cell? ⟨w.heap.size, 2, none⟩ = some a.vs ∧ W.cell? ⟨w.heap.size + 1, 0, none⟩ = some (.int .u8 b.k) ∧ W.cell? ⟨w.heap.size + 1, 1, none⟩ = some (.int .i64 b.n) ∧ W.cell? ⟨w.heap.size + 1, 2, none⟩ = some b.vs) := fun W hW =>
    ⟨cell_some_below (vcells_at n0 rfl) hW, cell_some_below (vcells_at n0 rfl) hW, cell_some_below (vcells_at n0 rfl) hW, cell_some_below (vcells_at n1 rfl) hW, cell_some_below (vcells_at n1 rfl) hW, cell_some_below (vcells_at n1 rfl) hW⟩
  obtain ⟨z, hz⟩ : ∃ z, z = Vl.bin q a.v b.v := ⟨_, rfl⟩
  obtain ⟨u, hu⟩ : ∃ z, z = Vl.un q a.v := ⟨_, rfl⟩
  have F1 : Hid (∀ W, Below V.heap.size V W → Calls Tryd.prog 23 #[.string (Ln.bs q), a.val, b.val] W fun e w' => e = .returned (.tuple #[vV z.k z.n nilV, .int .i64 z.e]) ∧ Below W.heap.size W w') := fun W hW => by rw [hz]; exact binary_any q hq a b W (ha.at (below_then bV hW)) (hb.at (below_then bV hW))
  have F2 : Hid (∀ W, Below V.heap.size V W → Calls Tryd.prog 27 #[.string (Ln.bs q), a.val, b.val] W fun e w' => e = .returned (.tuple #[vV z.k z.n nilV, .int .i64 z.e]) ∧ Below W.heap.size W w') := fun W hW => by rw [hz]; exact rbinary_any q a b W (ha.at (below_then bV hW)) (hb.at (below_then bV hW))
  have F3 : Hid (∀ W, Below V.heap.size V W → Calls Tryd.prog 22 #[.string (Ln.bs q), a.val] W fun e w' => e = .returned (.tuple #[vV u.k u.n nilV, .int .i64 u.e]) ∧ Below W.heap.size W w') := fun W hW => by rw [hu]; exact unary_any q hq a W (ha.at (below_then bV hW))
  have F4 : Hid (∀ W, Below V.heap.size V W → Calls Tryd.prog 28 #[.string (Ln.bs q), a.val] W fun e w' => e = .returned (.tuple #[vV u.k u.n nilV, .int .i64 u.e]) ∧ Below W.heap.size W w') := fun W hW => by rw [hu]; exact runary_any q a W (ha.at (below_then bV hW))
  have HB : Hid (Below w.heap.size w V) := bV
  have hVV : V = (w.alloc (.cells #[.int .u8 a.k, .int .i64 a.n, a.vs] 25)).alloc (.cells #[.int .u8 b.k, .int .i64 b.n, b.vs] 25) := by rw [hV, h0]
  obtain ⟨ak, an, av, ar⟩ := a
  obtain ⟨bk, bn, bv, br⟩ := b
  simp only [VA.val] at hVV HC F1 F2 F3 F4 ⊢
  clear h0 hV b0 b1 s0 bV n0 n1 hz hu ha hb hq
  go_enter Tryd.func10, Tryd.ntmps10
  go_wp2_with fail
  rw [← hVV]
  clear hVV
  have D0 : Hid (Below V.heap.size V V) := Below.refl _ _
  refine Calls.mono (F1.out _ D0.out) ?_
  rintro e w1 ⟨rfl, hb⟩
  have E1 : Hid (Below V.heap.size V w1) := below_then D0.out hb
  obtain ⟨X1, hX⟩ : ∃ X, X = w1.alloc (.cells #[.int .u8 z.k, .int .i64 z.n, .slice none 0 0] 25) := ⟨_, rfl⟩
  have hbx : Below w1.heap.size w1 X1 := hX ▸ below_new _ _
  have D1 : Hid (Below V.heap.size V X1) := below_then E1.out hbx
  have B1 : Hid (∀ W, Below X1.heap.size X1 W → W.cell? ⟨w1.heap.size, 0, none⟩ = some (.int .u8 z.k) ∧ W.cell? ⟨w1.heap.size, 1, none⟩ = some (.int .i64 z.n) ∧ W.cell? ⟨w1.heap.size, 2, none⟩ = some (.slice none 0 0)) := by
    have hn : X1.heap[w1.heap.size]? = some (.cells #[.int .u8 z.k, .int .i64 z.n, .slice none 0 0] 25 (0, 0)) := by rw [hX]; exact World.alloc_heap_new _ _
    exact fun W hW => ⟨cell_some_below (vcells_at hn rfl) hW, cell_some_below (vcells_at hn rfl) hW, cell_some_below (vcells_at hn rfl) hW⟩
  have T1_1 : Hid (Below X1.heap.size X1 X1) := Below.refl _ _
  have hcx := HC.out _ E1.out
  obtain ⟨c0, c1, c2, d0, d1, d2⟩ := HC.out _ D1.out
  clear hb hbx hcx
  rw [hX] at c0 c1 c2 d0 d1 d2
  go_wp2_with fail
  rw [← hX]
  clear hX c0 c1 c2 d0 d1 d2
  refine Calls.mono (F2.out _ D1.out) ?_
  rintro e w2 ⟨rfl, hb⟩
  have E2 : Hid (Below V.heap.size V w2) := below_then D1.out hb
  obtain ⟨X2, hX⟩ : ∃ X, X = w2.alloc (.cells #[.int .u8 z.k, .int .i64 z.n, .slice none 0 0] 25) := ⟨_, rfl⟩
  have hbx : Below w2.heap.size w2 X2 := hX ▸ below_new _ _
  have D2 : Hid (Below V.heap.size V X2) := below_then E2.out hbx
  have B2 : Hid (∀ W, Below X2.heap.size X2 W → W.cell? ⟨w2.heap.size, 0, none⟩ = some (.int .u8 z.k) ∧ W.cell? ⟨w2.heap.size, 1, none⟩ = some (.int .i64 z.n) ∧ W.cell? ⟨w2.heap.size, 2, none⟩ = some (.slice none 0 0)) := by
    have hn : X2.heap[w2.heap.size]? = some (.cells #[.int .u8 z.k, .int .i64 z.n, .slice none 0 0] 25 (0, 0)) := by rw [hX]; exact World.alloc_heap_new _ _
    exact fun W hW => ⟨cell_some_below (vcells_at hn rfl) hW, cell_some_below (vcells_at hn rfl) hW, cell_some_below (vcells_at hn rfl) hW⟩
  have T1_2 : Hid (Below X1.heap.size X1 X2) := below_then (below_then T1_1.out hb) hbx
  have T2_2 : Hid (Below X2.heap.size X2 X2) := Below.refl _ _
  have hcx := HC.out _ E2.out
  obtain ⟨c0, c1, c2, d0, d1, d2⟩ := HC.out _ D2.out
  clear hb hbx hcx
  rw [hX] at c0 c1 c2 d0 d1 d2
  go_wp2_with fail
  rw [← hX]
  clear hX c0 c1 c2 d0 d1 d2
  refine Calls.mono (F3.out _ D2.out) ?_
  rintro e w3 ⟨rfl, hb⟩
  have E3 : Hid (Below V.heap.size V w3) := below_then D2.out hb
  obtain ⟨X3, hX⟩ : ∃ X, X = w3.alloc (.cells #[.int .u8 u.k, .int .i64 u.n, .slice none 0 0] 25) := ⟨_, rfl⟩
  have hbx : Below w3.heap.size w3 X3 := hX ▸ below_new _ _
  have D3 : Hid (Below V.heap.size V X3) := below_then E3.out hbx
  have B3 : Hid (∀ W, Below X3.heap.size X3 W → W.cell? ⟨w3.heap.size, 0, none⟩ = some (.int .u8 u.k) ∧ W.cell? ⟨w3.heap.size, 1, none⟩ = some (.int .i64 u.n) ∧ W.cell? ⟨w3.heap.size, 2, none⟩ = some (.slice none 0 0)) := by
    have hn : X3.heap[w3.heap.size]? = some (.cells #[.int .u8 u.k, .int .i64 u.n, .slice none 0 0] 25 (0, 0)) := by rw [hX]; exact World.alloc_heap_new _ _
    exact fun W hW => ⟨cell_some_below (vcells_at hn rfl) hW, cell_some_below (vcells_at hn rfl) hW, cell_some_below (vcells_at hn rfl) hW⟩
  have T1_3 : Hid (Below X1.heap.size X1 X3) := below_then (below_then T1_2.out hb) hbx
  have T2_3 : Hid (Below X2.heap.size X2 X3) := below_then (below_then T2_2.out hb) hbx
  have T3_3 : Hid (Below X3.heap.size X3 X3) := Below.refl _ _
  have hcx := HC.out _ E3.out
  obtain ⟨c0, c1, c2, d0, d1, d2⟩ := HC.out _ D3.out
  clear hb hbx hcx
  rw [hX] at c0 c1 c2 d0 d1 d2
  go_wp2_with fail
  rw [← hX]
  clear hX c0 c1 c2 d0 d1 d2
  refine Calls.mono (F4.out _ D3.out) ?_
  rintro e w4 ⟨rfl, hb⟩
  have E4 : Hid (Below V.heap.size V w4) := below_then D3.out hb
  obtain ⟨X4, hX⟩ : ∃ X, X = w4.alloc (.cells #[.int .u8 u.k, .int .i64 u.n, .slice none 0 0] 25) := ⟨_, rfl⟩
  have hbx : Below w4.heap.size w4 X4 := hX ▸ below_new _ _
  have D4 : Hid (Below V.heap.size V X4) := below_then E4.out hbx
  have B4 : Hid (∀ W, Below X4.heap.size X4 W → W.cell? ⟨w4.heap.size, 0, none⟩ = some (.int .u8 u.k) ∧ W.cell? ⟨w4.heap.size, 1, none⟩ = some (.int .i64 u.n) ∧ W.cell? ⟨w4.heap.size, 2, none⟩ = some (.slice none 0 0)) := by
    have hn : X4.heap[w4.heap.size]? = some (.cells #[.int .u8 u.k, .int .i64 u.n, .slice none 0 0] 25 (0, 0)) := by rw [hX]; exact World.alloc_heap_new _ _
    exact fun W hW => ⟨cell_some_below (vcells_at hn rfl) hW, cell_some_below (vcells_at hn rfl) hW, cell_some_below (vcells_at hn rfl) hW⟩
  have T1_4 : Hid (Below X1.heap.size X1 X4) := below_then (below_then T1_3.out hb) hbx
  have T2_4 : Hid (Below X2.heap.size X2 X4) := below_then (below_then T2_3.out hb) hbx
  have T3_4 : Hid (Below X3.heap.size X3 X4) := below_then (below_then T3_3.out hb) hbx
  have T4_4 : Hid (Below X4.heap.size X4 X4) := Below.refl _ _
  clear hb hbx
  obtain ⟨p0, p1, p2⟩ := B1.out _ T1_4.out
  obtain ⟨p3, p4, p5⟩ := B2.out _ T2_4.out
  rw [hX] at p0 p1 p2 p3 p4 p5
  go_wp2_with fail
  rw [← hX]
  clear hX p0 p1 p2 p3 p4 p5
  refine Calls.mono (same_res z _) ?_
  rintro e w5 ⟨rfl, hb⟩
  obtain ⟨p0, p1, p2⟩ := B3.out _ (below_then T3_4.out hb)
  obtain ⟨p3, p4, p5⟩ := B4.out _ hb
  have D5 : Hid (Below V.heap.size V w5) := below_then D4.out hb
  clear hb
  go_wp2_with fail
  refine Calls.mono (same_res u _) ?_
  rintro e w6 ⟨rfl, hb⟩
  go_wp2
  go_ret
  exact ⟨rfl, below_then HB.out (below_then D5.out hb)⟩
end Go.Proofs.YtcnmgebjbaclaaaDoor
