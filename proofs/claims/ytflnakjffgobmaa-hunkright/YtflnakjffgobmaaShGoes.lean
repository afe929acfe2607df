/-
  The walks of the closures that tell what two hunks go as.
-/
import Derived.Test.YtflnakjffgobmaaShWays
namespace Go.Proofs.Ytflnakjffgobmaa
open Go.RowKit Go.Shelf

attribute [local go_sem] Oper.semAt_some

/-- A variable of a hunk that goes on, written. -/
theorem mov_set {w : World} {b : Nat} {x y z u : Value} (hr : w.heap[b]? = some (.cells #[x, y, z, u] 84 (0, 0))) (u0 u1 u2 u3 : Value) : ((((w.setCell ⟨b, 0, none⟩ u0).setCell ⟨b, 1, none⟩ u1).setCell ⟨b, 2, none⟩ u2).setCell ⟨b, 3, none⟩ u3).heap[b]? = some (.cells #[u0, u1, u2, u3] 84 (0, 0)) ∧
    w.grownBy ((((w.setCell ⟨b, 0, none⟩ u0).setCell ⟨b, 1, none⟩ u1).setCell ⟨b, 2, none⟩ u2).setCell ⟨b, 3, none⟩ u3) (some b) := by
  have h1 := heap_setCell_same w b 0 _ 84 u0 hr
  have h2 := heap_setCell_same _ b 1 _ 84 u1 h1
  have h3 := heap_setCell_same _ b 2 _ 84 u2 h2
  have h4 := heap_setCell_same _ b 3 _ 84 u3 h3
  exact ⟨h4, grown_join (grown_join (grown_join (grown_set w _ 0 _) (grown_set _ _ 1 _) (fun j hj => .inl hj)) (grown_set _ _ 2 _) (fun j hj => .inl hj)) (grown_set _ _ 3 _) (fun j hj => .inl hj)⟩

theorem mov_facts {w : World} {b : Nat} {x y z u : Value} (hr : w.heap[b]? = some (.cells #[x, y, z, u] 84 (0, 0))) (u0 u1 u2 : Value) : w.cell? ⟨b, 0, none⟩ = some x ∧ (w.setCell ⟨b, 0, none⟩ u0).cell? ⟨b, 1, none⟩ = some y ∧ ((w.setCell ⟨b, 0, none⟩ u0).setCell ⟨b, 1, none⟩ u1).cell? ⟨b, 2, none⟩ = some z ∧
    (((w.setCell ⟨b, 0, none⟩ u0).setCell ⟨b, 1, none⟩ u1).setCell ⟨b, 2, none⟩ u2).cell? ⟨b, 3, none⟩ = some u ∧ ∀ j, w.frozen? ⟨b, j, none⟩ = false := by
  have h1 := heap_setCell_same w b 0 _ 84 u0 hr
  have h2 := heap_setCell_same _ b 1 _ 84 u1 h1
  have h3 := heap_setCell_same _ b 2 _ 84 u2 h2
  refine ⟨?_, ?_, ?_, ?_, fun j => frozen_of_row w b j _ _ hr⟩
  · rw [Lib.cell_of_heap hr]; rfl
  · rw [Lib.cell_of_heap h1]; rfl
  · rw [Lib.cell_of_heap h2]; rfl
  · rw [Lib.cell_of_heap h3]; rfl
theorem mov_cells {w : World} {b : Nat} {x y z u : Value} (hr : w.heap[b]? = some (.cells #[x, y, z, u] 84 (0, 0))) : w.cell? ⟨b, 0, none⟩ = some x ∧ w.cell? ⟨b, 1, none⟩ = some y ∧ w.cell? ⟨b, 2, none⟩ = some z ∧ w.cell? ⟨b, 3, none⟩ = some u := by
  refine ⟨?_, ?_, ?_, ?_⟩ <;> (rw [Lib.cell_of_heap hr]; rfl)
theorem two_mov {w X w1 : World} {o1 o2 : Array Value} (hX : X = (w.alloc (.cells o1 84)).alloc (.cells o2 84)) (hb : Below X.heap.size X w1) : w1.heap[w.heap.size]? = some (.cells o1 84 (0, 0)) ∧ w1.heap[w.heap.size + 1]? = some (.cells o2 84 (0, 0)) := by
  have sX : X.heap.size = w.heap.size + 1 + 1 := by rw [hX]; simp
  have h1 : X.heap[w.heap.size]? = some (.cells o1 84 (0, 0)) := by
    rw [hX]; exact ((below_nw (w.alloc (.cells o1 84)) _).block _ (by simp)).trans (World.alloc_heap_new w _)
  have h2 : X.heap[w.heap.size + 1]? = some (.cells o2 84 (0, 0)) := by
    have h := World.alloc_heap_new (w.alloc (.cells o1 84)) (.cells o2 84)
    rw [World.size_alloc] at h
    rw [hX]; exact h
  exact ⟨(hb.block _ (by omega)).trans h1, (hb.block _ (by omega)).trans h2⟩

set_option maxRecDepth 100000 in
set_option maxHeartbeats 4000000 in
/-- Commute's first way: q as it is, p on by what q has more. -/
theorem cm2 (x y : HA) (b c : Nat) (w : World) (hb : HBox w b x) (hc : HBox w c y) (hx : x.Shape) (hy : y.Shape) (sm : x.Small) :
    Calls Try.prog 54 #[.pointer (some ⟨b, 0, none⟩), .pointer (some ⟨c, 0, none⟩)] w fun e w' => e = .returned (.tuple #[movV x 0, movV y (Hn.more x.h)]) ∧ Below w.heap.size w w' := by
  obtain ⟨X, hX⟩ : ∃ X, X = (w.alloc (.cells #[.int .i64 0, .slice none 0 0, .slice none 0 0, .int .i64 0] 84)).alloc (.cells #[.int .i64 0, .slice none 0 0, .slice none 0 0, .int .i64 0] 84) := ⟨_, rfl⟩
  have bX : Below w.heap.size w X := by rw [hX]; exact (below_nw w _).alloc (by simp) _
  have MR0 := fun W => more_fn x W hx sm
  have hdb : -1000000 ≤ Hn.more x.h ∧ Hn.more x.h ≤ 1000000 := by
    obtain ⟨s1, s2⟩ := sm
    simp only [Hn.more, HA.h]
    omega
  obtain ⟨dd, hdd⟩ : ∃ dd, Hn.more x.h = dd := ⟨_, rfl⟩
  rw [hdd] at MR0 hdb ⊢
  obtain ⟨hd1, hd2⟩ := hdb
  have hneg : IntKind.i64.wrap (-dd) = -dd := by rw [IntKind.wrap_i64]; omega
  have MR : Hid (_) := MR0
  have HCB : Hid (∀ W, Below w.heap.size w W → HBox W b x ∧ HBox W c y) := fun W hW => ⟨hb.below hW, hc.below hW⟩
  have HBX : Hid (Below w.heap.size w X) := bX
  clear hdd MR0 sm
  obtain ⟨p, vo, vn, L1, L2⟩ := x
  obtain ⟨q, uo, un, M1, M2⟩ := y
  obtain ⟨⟨a1, c1, e1⟩, ⟨a2, c2, e2⟩⟩ := hx
  obtain ⟨⟨a3, c3, e3⟩, ⟨a4, c4, e4⟩⟩ := hy
  simp only at e1 e2 e3 e4
  subst e1 e2 e3 e4
  simp only [HA.val, movV] at MR ⊢
  have HC : Hid (∀ W, Below w.heap.size w W → (W.cell? ⟨b, 0, none⟩ = some (.int .i64 p) ∧ W.cell? ⟨b, 1, none⟩ = some (.slice a1 L1.length c1) ∧ W.cell? ⟨b, 2, none⟩ = some (.slice a2 L2.length c2)) ∧ W.cell? ⟨c, 0, none⟩ = some (.int .i64 q) ∧ W.cell? ⟨c, 1, none⟩ = some (.slice a3 M1.length c3) ∧ W.cell? ⟨c, 2, none⟩ = some (.slice a4 M2.length c4)) := fun W hW => ⟨(HCB.out W hW).1.cells, (HCB.out W hW).2.cells⟩
  clear hb hc bX
  refine (callsIn_wide (n := 3)).1 ?_
  refine callsIn_of_wp Try.func54 rfl trivial ?_ rfl
  simp only [Try.ntmps54, List.size_toArray, List.length_cons, List.length_nil, Nat.reduceAdd, Nat.reduceSub, Array.replicate_succ, Array.replicate_zero, List.push_toArray, List.append_toArray, List.nil_append, List.cons_append]
  gi_wp2
  rw [← hX]
  have HX : Hid (X = _) := hX
  clear hX
  refine region_lex (fun w' => Below w.heap.size w w') 4 4 rfl (by kernel_rfl) (by kernel_rfl) (by kernel_rfl) (by kernel_rfl) (fun _ _ d _ _ h => by cases d <;> exact h) (below_drewN HBX.out 1) ?_
  simp only [List.take_succ_cons, List.take_zero]
  iterate 4 (first
    | (apply lexC_want
       · rfl
       · exact fun _ => rfl
       · (intro w' hw'; obtain ⟨⟨q0, q1, q2⟩, q3, q4, q5⟩ := HC.out w' hw'; go_simp; try rfl)
       simp only [Act.put, List.setIfInBounds_toArray, List.set_cons_zero, List.set_cons_succ])
    | (apply lexC_skip
       · rfl
       · exact fun _ => rfl
       simp only [Act.put, List.setIfInBounds_toArray, List.set_cons_zero, List.set_cons_succ]))
  refine lexC_nil ?_
  refine anyC_one (i := 4) (by kernel_rfl) rfl (by rfl) (fun K1 hK1 => ?_)
  go_simp
  refine ⟨trivial, ?_⟩
  refine (callsIn_wide.2 (MR.out _)).mono ?_
  rintro e w1 ⟨rfl, b1⟩
  have b1' : Below X.heap.size X w1 := (below_drewN (Below.refl _ X) 1).trans b1
  have B1 : Below w.heap.size w w1 := HBX.out.trans (b1'.mono HBX.out.size)
  obtain ⟨hx0, hx1⟩ := two_mov HX.out b1'
  refine hK1 _ _ B1 ?_
  clear hK1 b1 b1' HX
  refine anyC_take (i := 5) (v := .agg #[.int .i64 q, .slice a3 M1.length c3, .slice a4 M2.length c4, .int .i64 dd]) rfl rfl (by kernel_rfl) (by kernel_rfl) (by kernel_rfl) (fun _ _ d _ _ h => by cases d <;> exact h) B1 (by rfl) (fun _ => rfl) (by intro w' hw'; obtain ⟨⟨q0, q1, q2⟩, q3, q4, q5⟩ := HC.out w' hw'; go_simp; try rfl) ?_
  obtain ⟨f0, f1, f2, f3, ff⟩ := mov_facts hx0 (.int .i64 p) (.slice a1 L1.length c1) (.slice a2 L2.length c2)
  obtain ⟨g0, gg⟩ := mov_set hx0 (.int .i64 p) (.slice a1 L1.length c1) (.slice a2 L2.length c2) (.int .i64 0)
  obtain ⟨Y, hY⟩ : ∃ Y, Y = (((w1.setCell ⟨w.heap.size, 0, none⟩ (.int .i64 p)).setCell ⟨w.heap.size, 1, none⟩ (.slice a1 L1.length c1)).setCell ⟨w.heap.size, 2, none⟩ (.slice a2 L2.length c2)).setCell ⟨w.heap.size, 3, none⟩ (.int .i64 0) := ⟨_, rfl⟩
  rw [← hY] at g0 gg
  have BY : Below w.heap.size w Y := B1.trans ⟨gg.os, gg.tape, gg.output, gg.size, fun j hj => gg.block j (by have := B1.size; omega) (fun e => by cases e; omega)⟩
  have hy1 : Y.heap[w.heap.size + 1]? = some (.cells #[.int .i64 0, .slice none 0 0, .slice none 0 0, .int .i64 0] 84 (0, 0)) := (gg.block _ (Array.getElem?_eq_some_iff.1 hx1).1 (by simp)).trans hx1
  refine anyC_one (i := 6) (by kernel_rfl) rfl (by rfl) (fun K2 hK2 => ?_)
  go_simp
  rw [← hY]
  refine hK2 _ _ BY ?_
  clear hK2 f0 f1 f2 f3 ff hY
  obtain ⟨f0, f1, f2, f3, ff⟩ := mov_facts hy1 (.int .i64 q) (.slice a3 M1.length c3) (.slice a4 M2.length c4)
  obtain ⟨z1, gz⟩ := mov_set hy1 (.int .i64 q) (.slice a3 M1.length c3) (.slice a4 M2.length c4) (.int .i64 dd)
  obtain ⟨Z, hZ⟩ : ∃ Z, Z = (((Y.setCell ⟨w.heap.size + 1, 0, none⟩ (.int .i64 q)).setCell ⟨w.heap.size + 1, 1, none⟩ (.slice a3 M1.length c3)).setCell ⟨w.heap.size + 1, 2, none⟩ (.slice a4 M2.length c4)).setCell ⟨w.heap.size + 1, 3, none⟩ (.int .i64 dd) := ⟨_, rfl⟩
  rw [← hZ] at z1 gz
  have BZ : Below w.heap.size w Z := BY.trans ⟨gz.os, gz.tape, gz.output, gz.size, fun j hj => gz.block j (by have := BY.size; omega) (fun e => by cases e; omega)⟩
  have z0 : Z.heap[w.heap.size]? = _ := (gz.block _ (Array.getElem?_eq_some_iff.1 g0).1 (by simp)).trans g0
  refine anyC_one (i := 7) (by kernel_rfl) rfl (by rfl) (fun K3 hK3 => ?_)
  go_simp
  rw [← hZ]
  refine hK3 _ _ BZ ?_
  clear hK3 f0 f1 f2 f3 ff hZ
  refine anyC_done (by kernel_rfl) ?_
  have HBZ : Hid (Below w.heap.size w Z) := BZ
  obtain ⟨k0, k1, k2, k3⟩ := mov_cells z0
  obtain ⟨l0, l1, l2, l3⟩ := mov_cells z1
  clear BZ BY B1 gg gz g0 z0 z1 hy1 hx0 hx1
  gi_wp2
  refine bodyPost_ret (v := .tuple #[.agg #[.int .i64 p, .slice a1 L1.length c1, .slice a2 L2.length c2, .int .i64 0], .agg #[.int .i64 q, .slice a3 M1.length c3, .slice a4 M2.length c4, .int .i64 dd]]) (by simp [results, Try.results54, go_sem, k0, k1, k2, k3, l0, l1, l2, l3]) rfl ⟨rfl, HBZ.out⟩

set_option maxRecDepth 100000 in
set_option maxHeartbeats 4000000 in
/-- Commute's second way: q back by what p has more, p as it is. -/
theorem cm4 (x y : HA) (b c : Nat) (w : World) (hb : HBox w b x) (hc : HBox w c y) (hx : x.Shape) (hy : y.Shape) (sm : y.Small) :
    Calls Try.prog 57 #[.pointer (some ⟨b, 0, none⟩), .pointer (some ⟨c, 0, none⟩)] w fun e w' => e = .returned (.tuple #[movV x (-(Hn.more y.h)), movV y 0]) ∧ Below w.heap.size w w' := by
  obtain ⟨X, hX⟩ : ∃ X, X = (w.alloc (.cells #[.int .i64 0, .slice none 0 0, .slice none 0 0, .int .i64 0] 84)).alloc (.cells #[.int .i64 0, .slice none 0 0, .slice none 0 0, .int .i64 0] 84) := ⟨_, rfl⟩
  have bX : Below w.heap.size w X := by rw [hX]; exact (below_nw w _).alloc (by simp) _
  have MR0 := fun W => more_fn y W hy sm
  have hdb : -1000000 ≤ Hn.more y.h ∧ Hn.more y.h ≤ 1000000 := by
    obtain ⟨s1, s2⟩ := sm
    simp only [Hn.more, HA.h]
    omega
  obtain ⟨dd, hdd⟩ : ∃ dd, Hn.more y.h = dd := ⟨_, rfl⟩
  rw [hdd] at MR0 hdb ⊢
  obtain ⟨hd1, hd2⟩ := hdb
  have hneg : IntKind.i64.wrap (-dd) = -dd := by rw [IntKind.wrap_i64]; omega
  have MR : Hid (_) := MR0
  have HCB : Hid (∀ W, Below w.heap.size w W → HBox W b x ∧ HBox W c y) := fun W hW => ⟨hb.below hW, hc.below hW⟩
  have HBX : Hid (Below w.heap.size w X) := bX
  clear hdd MR0 sm
  obtain ⟨p, vo, vn, L1, L2⟩ := x
  obtain ⟨q, uo, un, M1, M2⟩ := y
  obtain ⟨⟨a1, c1, e1⟩, ⟨a2, c2, e2⟩⟩ := hx
  obtain ⟨⟨a3, c3, e3⟩, ⟨a4, c4, e4⟩⟩ := hy
  simp only at e1 e2 e3 e4
  subst e1 e2 e3 e4
  simp only [HA.val, movV] at MR ⊢
  have HC : Hid (∀ W, Below w.heap.size w W → (W.cell? ⟨b, 0, none⟩ = some (.int .i64 p) ∧ W.cell? ⟨b, 1, none⟩ = some (.slice a1 L1.length c1) ∧ W.cell? ⟨b, 2, none⟩ = some (.slice a2 L2.length c2)) ∧ W.cell? ⟨c, 0, none⟩ = some (.int .i64 q) ∧ W.cell? ⟨c, 1, none⟩ = some (.slice a3 M1.length c3) ∧ W.cell? ⟨c, 2, none⟩ = some (.slice a4 M2.length c4)) := fun W hW => ⟨(HCB.out W hW).1.cells, (HCB.out W hW).2.cells⟩
  clear hb hc bX
  refine (callsIn_wide (n := 3)).1 ?_
  refine callsIn_of_wp Try.func57 rfl trivial ?_ rfl
  simp only [Try.ntmps57, List.size_toArray, List.length_cons, List.length_nil, Nat.reduceAdd, Nat.reduceSub, Array.replicate_succ, Array.replicate_zero, List.push_toArray, List.append_toArray, List.nil_append, List.cons_append]
  gi_wp2
  rw [← hX]
  have HX : Hid (X = _) := hX
  clear hX
  refine region_lex (fun w' => Below w.heap.size w w') 2 7 rfl (by kernel_rfl) (by kernel_rfl) (by kernel_rfl) (by kernel_rfl) (fun _ _ d _ _ h => by cases d <;> exact h) (below_drewN HBX.out 1) ?_
  simp only [List.take_succ_cons, List.take_zero]
  iterate 2 (first
    | (apply lexC_want
       · rfl
       · exact fun _ => rfl
       · (intro w' hw'; obtain ⟨⟨q0, q1, q2⟩, q3, q4, q5⟩ := HC.out w' hw'; go_simp; try rfl)
       simp only [Act.put, List.setIfInBounds_toArray, List.set_cons_zero, List.set_cons_succ])
    | (apply lexC_skip
       · rfl
       · exact fun _ => rfl
       simp only [Act.put, List.setIfInBounds_toArray, List.set_cons_zero, List.set_cons_succ]))
  refine lexC_nil ?_
  refine anyC_take (i := 5) (v := .agg #[.int .i64 q, .slice a3 M1.length c3, .slice a4 M2.length c4]) rfl rfl (by kernel_rfl) (by kernel_rfl) (by kernel_rfl) (fun _ _ d _ _ h => by cases d <;> exact h) (below_drewN HBX.out 1) (by rfl) (fun _ => rfl) (by intro w' hw'; obtain ⟨⟨q0, q1, q2⟩, q3, q4, q5⟩ := HC.out w' hw'; go_simp; try rfl) ?_
  refine anyC_take (i := 6) (v := .agg #[.int .i64 q, .slice a3 M1.length c3, .slice a4 M2.length c4, .int .i64 0]) rfl rfl (by kernel_rfl) (by kernel_rfl) (by kernel_rfl) (fun _ _ d _ _ h => by cases d <;> exact h) (below_drewN HBX.out 1) (by rfl) (fun _ => rfl) (by intro w' hw'; obtain ⟨⟨q0, q1, q2⟩, q3, q4, q5⟩ := HC.out w' hw'; go_simp; try rfl) ?_
  refine anyC_one (i := 2) (by kernel_rfl) rfl (by rfl) (fun K1 hK1 => ?_)
  go_simp
  refine ⟨trivial, ?_⟩
  refine (callsIn_wide.2 (MR.out _)).mono ?_
  rintro e w1 ⟨rfl, b1⟩
  have b1' : Below X.heap.size X w1 := (below_drewN (Below.refl _ X) 1).trans b1
  have B1 : Below w.heap.size w w1 := HBX.out.trans (b1'.mono HBX.out.size)
  obtain ⟨hx0, hx1⟩ := two_mov HX.out b1'
  refine hK1 _ _ B1 ?_
  clear hK1 b1 b1' HX
  refine anyC_take (i := 3) (v := .int .i64 (-dd)) rfl rfl (by kernel_rfl) (by kernel_rfl) (by kernel_rfl) (fun _ _ d _ _ h => by cases d <;> exact h) B1 (by rfl) (fun _ => rfl) (by intro w' hw'; obtain ⟨⟨q0, q1, q2⟩, q3, q4, q5⟩ := HC.out w' hw'; go_simp; try rfl) ?_
  refine anyC_take (i := 4) (v := .agg #[.int .i64 p, .slice a1 L1.length c1, .slice a2 L2.length c2, .int .i64 (-dd)]) rfl rfl (by kernel_rfl) (by kernel_rfl) (by kernel_rfl) (fun _ _ d _ _ h => by cases d <;> exact h) B1 (by rfl) (fun _ => rfl) (by intro w' hw'; obtain ⟨⟨q0, q1, q2⟩, q3, q4, q5⟩ := HC.out w' hw'; go_simp; try rfl) ?_
  obtain ⟨f0, f1, f2, f3, ff⟩ := mov_facts hx0 (.int .i64 p) (.slice a1 L1.length c1) (.slice a2 L2.length c2)
  obtain ⟨g0, gg⟩ := mov_set hx0 (.int .i64 p) (.slice a1 L1.length c1) (.slice a2 L2.length c2) (.int .i64 (-dd))
  obtain ⟨Y, hY⟩ : ∃ Y, Y = (((w1.setCell ⟨w.heap.size, 0, none⟩ (.int .i64 p)).setCell ⟨w.heap.size, 1, none⟩ (.slice a1 L1.length c1)).setCell ⟨w.heap.size, 2, none⟩ (.slice a2 L2.length c2)).setCell ⟨w.heap.size, 3, none⟩ (.int .i64 (-dd)) := ⟨_, rfl⟩
  rw [← hY] at g0 gg
  have BY : Below w.heap.size w Y := B1.trans ⟨gg.os, gg.tape, gg.output, gg.size, fun j hj => gg.block j (by have := B1.size; omega) (fun e => by cases e; omega)⟩
  have hy1 : Y.heap[w.heap.size + 1]? = some (.cells #[.int .i64 0, .slice none 0 0, .slice none 0 0, .int .i64 0] 84 (0, 0)) := (gg.block _ (Array.getElem?_eq_some_iff.1 hx1).1 (by simp)).trans hx1
  refine anyC_one (i := 7) (by kernel_rfl) rfl (by rfl) (fun K2 hK2 => ?_)
  go_simp
  rw [← hY]
  refine hK2 _ _ BY ?_
  clear hK2 f0 f1 f2 f3 ff hY
  obtain ⟨f0, f1, f2, f3, ff⟩ := mov_facts hy1 (.int .i64 q) (.slice a3 M1.length c3) (.slice a4 M2.length c4)
  obtain ⟨z1, gz⟩ := mov_set hy1 (.int .i64 q) (.slice a3 M1.length c3) (.slice a4 M2.length c4) (.int .i64 0)
  obtain ⟨Z, hZ⟩ : ∃ Z, Z = (((Y.setCell ⟨w.heap.size + 1, 0, none⟩ (.int .i64 q)).setCell ⟨w.heap.size + 1, 1, none⟩ (.slice a3 M1.length c3)).setCell ⟨w.heap.size + 1, 2, none⟩ (.slice a4 M2.length c4)).setCell ⟨w.heap.size + 1, 3, none⟩ (.int .i64 0) := ⟨_, rfl⟩
  rw [← hZ] at z1 gz
  have BZ : Below w.heap.size w Z := BY.trans ⟨gz.os, gz.tape, gz.output, gz.size, fun j hj => gz.block j (by have := BY.size; omega) (fun e => by cases e; omega)⟩
  have z0 : Z.heap[w.heap.size]? = _ := (gz.block _ (Array.getElem?_eq_some_iff.1 g0).1 (by simp)).trans g0
  refine anyC_one (i := 8) (by kernel_rfl) rfl (by rfl) (fun K3 hK3 => ?_)
  go_simp
  rw [← hZ]
  refine hK3 _ _ BZ ?_
  clear hK3 f0 f1 f2 f3 ff hZ
  refine anyC_done (by kernel_rfl) ?_
  have HBZ : Hid (Below w.heap.size w Z) := BZ
  obtain ⟨k0, k1, k2, k3⟩ := mov_cells z0
  obtain ⟨l0, l1, l2, l3⟩ := mov_cells z1
  clear BZ BY B1 gg gz g0 z0 z1 hy1 hx0 hx1
  gi_wp2
  refine bodyPost_ret (v := .tuple #[.agg #[.int .i64 p, .slice a1 L1.length c1, .slice a2 L2.length c2, .int .i64 (-dd)], .agg #[.int .i64 q, .slice a3 M1.length c3, .slice a4 M2.length c4, .int .i64 0]]) (by simp [results, Try.results57, go_sem, k0, k1, k2, k3, l0, l1, l2, l3]) rfl ⟨rfl, HBZ.out⟩

set_option maxRecDepth 100000 in
set_option maxHeartbeats 4000000 in
/-- Merge's first way: p as it is, q on by what p has more. -/
theorem mg2 (x y : HA) (b c : Nat) (w : World) (hb : HBox w b x) (hc : HBox w c y) (hx : x.Shape) (hy : y.Shape) (sm : x.Small) :
    Calls Try.prog 59 #[.pointer (some ⟨b, 0, none⟩), .pointer (some ⟨c, 0, none⟩)] w fun e w' => e = .returned (.tuple #[movV x 0, movV y (Hn.more x.h)]) ∧ Below w.heap.size w w' := by
  obtain ⟨X, hX⟩ : ∃ X, X = (w.alloc (.cells #[.int .i64 0, .slice none 0 0, .slice none 0 0, .int .i64 0] 84)).alloc (.cells #[.int .i64 0, .slice none 0 0, .slice none 0 0, .int .i64 0] 84) := ⟨_, rfl⟩
  have bX : Below w.heap.size w X := by rw [hX]; exact (below_nw w _).alloc (by simp) _
  have MR0 := fun W => more_fn x W hx sm
  have hdb : -1000000 ≤ Hn.more x.h ∧ Hn.more x.h ≤ 1000000 := by
    obtain ⟨s1, s2⟩ := sm
    simp only [Hn.more, HA.h]
    omega
  obtain ⟨dd, hdd⟩ : ∃ dd, Hn.more x.h = dd := ⟨_, rfl⟩
  rw [hdd] at MR0 hdb ⊢
  obtain ⟨hd1, hd2⟩ := hdb
  have hneg : IntKind.i64.wrap (-dd) = -dd := by rw [IntKind.wrap_i64]; omega
  have MR : Hid (_) := MR0
  have HCB : Hid (∀ W, Below w.heap.size w W → HBox W b x ∧ HBox W c y) := fun W hW => ⟨hb.below hW, hc.below hW⟩
  have HBX : Hid (Below w.heap.size w X) := bX
  clear hdd MR0 sm
  obtain ⟨p, vo, vn, L1, L2⟩ := x
  obtain ⟨q, uo, un, M1, M2⟩ := y
  obtain ⟨⟨a1, c1, e1⟩, ⟨a2, c2, e2⟩⟩ := hx
  obtain ⟨⟨a3, c3, e3⟩, ⟨a4, c4, e4⟩⟩ := hy
  simp only at e1 e2 e3 e4
  subst e1 e2 e3 e4
  simp only [HA.val, movV] at MR ⊢
  have HC : Hid (∀ W, Below w.heap.size w W → (W.cell? ⟨b, 0, none⟩ = some (.int .i64 p) ∧ W.cell? ⟨b, 1, none⟩ = some (.slice a1 L1.length c1) ∧ W.cell? ⟨b, 2, none⟩ = some (.slice a2 L2.length c2)) ∧ W.cell? ⟨c, 0, none⟩ = some (.int .i64 q) ∧ W.cell? ⟨c, 1, none⟩ = some (.slice a3 M1.length c3) ∧ W.cell? ⟨c, 2, none⟩ = some (.slice a4 M2.length c4)) := fun W hW => ⟨(HCB.out W hW).1.cells, (HCB.out W hW).2.cells⟩
  clear hb hc bX
  refine (callsIn_wide (n := 3)).1 ?_
  refine callsIn_of_wp Try.func59 rfl trivial ?_ rfl
  simp only [Try.ntmps59, List.size_toArray, List.length_cons, List.length_nil, Nat.reduceAdd, Nat.reduceSub, Array.replicate_succ, Array.replicate_zero, List.push_toArray, List.append_toArray, List.nil_append, List.cons_append]
  gi_wp2
  rw [← hX]
  have HX : Hid (X = _) := hX
  clear hX
  refine region_lex (fun w' => Below w.heap.size w w') 4 4 rfl (by kernel_rfl) (by kernel_rfl) (by kernel_rfl) (by kernel_rfl) (fun _ _ d _ _ h => by cases d <;> exact h) (below_drewN HBX.out 1) ?_
  simp only [List.take_succ_cons, List.take_zero]
  iterate 4 (first
    | (apply lexC_want
       · rfl
       · exact fun _ => rfl
       · (intro w' hw'; obtain ⟨⟨q0, q1, q2⟩, q3, q4, q5⟩ := HC.out w' hw'; go_simp; try rfl)
       simp only [Act.put, List.setIfInBounds_toArray, List.set_cons_zero, List.set_cons_succ])
    | (apply lexC_skip
       · rfl
       · exact fun _ => rfl
       simp only [Act.put, List.setIfInBounds_toArray, List.set_cons_zero, List.set_cons_succ]))
  refine lexC_nil ?_
  refine anyC_one (i := 4) (by kernel_rfl) rfl (by rfl) (fun K1 hK1 => ?_)
  go_simp
  refine ⟨trivial, ?_⟩
  refine (callsIn_wide.2 (MR.out _)).mono ?_
  rintro e w1 ⟨rfl, b1⟩
  have b1' : Below X.heap.size X w1 := (below_drewN (Below.refl _ X) 1).trans b1
  have B1 : Below w.heap.size w w1 := HBX.out.trans (b1'.mono HBX.out.size)
  obtain ⟨hx0, hx1⟩ := two_mov HX.out b1'
  refine hK1 _ _ B1 ?_
  clear hK1 b1 b1' HX
  refine anyC_take (i := 5) (v := .agg #[.int .i64 q, .slice a3 M1.length c3, .slice a4 M2.length c4, .int .i64 dd]) rfl rfl (by kernel_rfl) (by kernel_rfl) (by kernel_rfl) (fun _ _ d _ _ h => by cases d <;> exact h) B1 (by rfl) (fun _ => rfl) (by intro w' hw'; obtain ⟨⟨q0, q1, q2⟩, q3, q4, q5⟩ := HC.out w' hw'; go_simp; try rfl) ?_
  obtain ⟨f0, f1, f2, f3, ff⟩ := mov_facts hx0 (.int .i64 p) (.slice a1 L1.length c1) (.slice a2 L2.length c2)
  obtain ⟨g0, gg⟩ := mov_set hx0 (.int .i64 p) (.slice a1 L1.length c1) (.slice a2 L2.length c2) (.int .i64 0)
  obtain ⟨Y, hY⟩ : ∃ Y, Y = (((w1.setCell ⟨w.heap.size, 0, none⟩ (.int .i64 p)).setCell ⟨w.heap.size, 1, none⟩ (.slice a1 L1.length c1)).setCell ⟨w.heap.size, 2, none⟩ (.slice a2 L2.length c2)).setCell ⟨w.heap.size, 3, none⟩ (.int .i64 0) := ⟨_, rfl⟩
  rw [← hY] at g0 gg
  have BY : Below w.heap.size w Y := B1.trans ⟨gg.os, gg.tape, gg.output, gg.size, fun j hj => gg.block j (by have := B1.size; omega) (fun e => by cases e; omega)⟩
  have hy1 : Y.heap[w.heap.size + 1]? = some (.cells #[.int .i64 0, .slice none 0 0, .slice none 0 0, .int .i64 0] 84 (0, 0)) := (gg.block _ (Array.getElem?_eq_some_iff.1 hx1).1 (by simp)).trans hx1
  refine anyC_one (i := 6) (by kernel_rfl) rfl (by rfl) (fun K2 hK2 => ?_)
  go_simp
  rw [← hY]
  refine hK2 _ _ BY ?_
  clear hK2 f0 f1 f2 f3 ff hY
  obtain ⟨f0, f1, f2, f3, ff⟩ := mov_facts hy1 (.int .i64 q) (.slice a3 M1.length c3) (.slice a4 M2.length c4)
  obtain ⟨z1, gz⟩ := mov_set hy1 (.int .i64 q) (.slice a3 M1.length c3) (.slice a4 M2.length c4) (.int .i64 dd)
  obtain ⟨Z, hZ⟩ : ∃ Z, Z = (((Y.setCell ⟨w.heap.size + 1, 0, none⟩ (.int .i64 q)).setCell ⟨w.heap.size + 1, 1, none⟩ (.slice a3 M1.length c3)).setCell ⟨w.heap.size + 1, 2, none⟩ (.slice a4 M2.length c4)).setCell ⟨w.heap.size + 1, 3, none⟩ (.int .i64 dd) := ⟨_, rfl⟩
  rw [← hZ] at z1 gz
  have BZ : Below w.heap.size w Z := BY.trans ⟨gz.os, gz.tape, gz.output, gz.size, fun j hj => gz.block j (by have := BY.size; omega) (fun e => by cases e; omega)⟩
  have z0 : Z.heap[w.heap.size]? = _ := (gz.block _ (Array.getElem?_eq_some_iff.1 g0).1 (by simp)).trans g0
  refine anyC_one (i := 7) (by kernel_rfl) rfl (by rfl) (fun K3 hK3 => ?_)
  go_simp
  rw [← hZ]
  refine hK3 _ _ BZ ?_
  clear hK3 f0 f1 f2 f3 ff hZ
  refine anyC_done (by kernel_rfl) ?_
  have HBZ : Hid (Below w.heap.size w Z) := BZ
  obtain ⟨k0, k1, k2, k3⟩ := mov_cells z0
  obtain ⟨l0, l1, l2, l3⟩ := mov_cells z1
  clear BZ BY B1 gg gz g0 z0 z1 hy1 hx0 hx1
  gi_wp2
  refine bodyPost_ret (v := .tuple #[.agg #[.int .i64 p, .slice a1 L1.length c1, .slice a2 L2.length c2, .int .i64 0], .agg #[.int .i64 q, .slice a3 M1.length c3, .slice a4 M2.length c4, .int .i64 dd]]) (by simp [results, Try.results59, go_sem, k0, k1, k2, k3, l0, l1, l2, l3]) rfl ⟨rfl, HBZ.out⟩

set_option maxRecDepth 100000 in
set_option maxHeartbeats 4000000 in
/-- Merge's second way: p on by what q has more, q as it is. -/
theorem mg4 (x y : HA) (b c : Nat) (w : World) (hb : HBox w b x) (hc : HBox w c y) (hx : x.Shape) (hy : y.Shape) (sm : y.Small) :
    Calls Try.prog 61 #[.pointer (some ⟨b, 0, none⟩), .pointer (some ⟨c, 0, none⟩)] w fun e w' => e = .returned (.tuple #[movV x (Hn.more y.h), movV y 0]) ∧ Below w.heap.size w w' := by
  obtain ⟨X, hX⟩ : ∃ X, X = (w.alloc (.cells #[.int .i64 0, .slice none 0 0, .slice none 0 0, .int .i64 0] 84)).alloc (.cells #[.int .i64 0, .slice none 0 0, .slice none 0 0, .int .i64 0] 84) := ⟨_, rfl⟩
  have bX : Below w.heap.size w X := by rw [hX]; exact (below_nw w _).alloc (by simp) _
  have MR0 := fun W => more_fn y W hy sm
  have hdb : -1000000 ≤ Hn.more y.h ∧ Hn.more y.h ≤ 1000000 := by
    obtain ⟨s1, s2⟩ := sm
    simp only [Hn.more, HA.h]
    omega
  obtain ⟨dd, hdd⟩ : ∃ dd, Hn.more y.h = dd := ⟨_, rfl⟩
  rw [hdd] at MR0 hdb ⊢
  obtain ⟨hd1, hd2⟩ := hdb
  have hneg : IntKind.i64.wrap (-dd) = -dd := by rw [IntKind.wrap_i64]; omega
  have MR : Hid (_) := MR0
  have HCB : Hid (∀ W, Below w.heap.size w W → HBox W b x ∧ HBox W c y) := fun W hW => ⟨hb.below hW, hc.below hW⟩
  have HBX : Hid (Below w.heap.size w X) := bX
  clear hdd MR0 sm
  obtain ⟨p, vo, vn, L1, L2⟩ := x
  obtain ⟨q, uo, un, M1, M2⟩ := y
  obtain ⟨⟨a1, c1, e1⟩, ⟨a2, c2, e2⟩⟩ := hx
  obtain ⟨⟨a3, c3, e3⟩, ⟨a4, c4, e4⟩⟩ := hy
  simp only at e1 e2 e3 e4
  subst e1 e2 e3 e4
  simp only [HA.val, movV] at MR ⊢
  have HC : Hid (∀ W, Below w.heap.size w W → (W.cell? ⟨b, 0, none⟩ = some (.int .i64 p) ∧ W.cell? ⟨b, 1, none⟩ = some (.slice a1 L1.length c1) ∧ W.cell? ⟨b, 2, none⟩ = some (.slice a2 L2.length c2)) ∧ W.cell? ⟨c, 0, none⟩ = some (.int .i64 q) ∧ W.cell? ⟨c, 1, none⟩ = some (.slice a3 M1.length c3) ∧ W.cell? ⟨c, 2, none⟩ = some (.slice a4 M2.length c4)) := fun W hW => ⟨(HCB.out W hW).1.cells, (HCB.out W hW).2.cells⟩
  clear hb hc bX
  refine (callsIn_wide (n := 3)).1 ?_
  refine callsIn_of_wp Try.func61 rfl trivial ?_ rfl
  simp only [Try.ntmps61, List.size_toArray, List.length_cons, List.length_nil, Nat.reduceAdd, Nat.reduceSub, Array.replicate_succ, Array.replicate_zero, List.push_toArray, List.append_toArray, List.nil_append, List.cons_append]
  gi_wp2
  rw [← hX]
  have HX : Hid (X = _) := hX
  clear hX
  refine region_lex (fun w' => Below w.heap.size w w') 2 6 rfl (by kernel_rfl) (by kernel_rfl) (by kernel_rfl) (by kernel_rfl) (fun _ _ d _ _ h => by cases d <;> exact h) (below_drewN HBX.out 1) ?_
  simp only [List.take_succ_cons, List.take_zero]
  iterate 2 (first
    | (apply lexC_want
       · rfl
       · exact fun _ => rfl
       · (intro w' hw'; obtain ⟨⟨q0, q1, q2⟩, q3, q4, q5⟩ := HC.out w' hw'; go_simp; try rfl)
       simp only [Act.put, List.setIfInBounds_toArray, List.set_cons_zero, List.set_cons_succ])
    | (apply lexC_skip
       · rfl
       · exact fun _ => rfl
       simp only [Act.put, List.setIfInBounds_toArray, List.set_cons_zero, List.set_cons_succ]))
  refine lexC_nil ?_
  refine anyC_take (i := 4) (v := .agg #[.int .i64 q, .slice a3 M1.length c3, .slice a4 M2.length c4]) rfl rfl (by kernel_rfl) (by kernel_rfl) (by kernel_rfl) (fun _ _ d _ _ h => by cases d <;> exact h) (below_drewN HBX.out 1) (by rfl) (fun _ => rfl) (by intro w' hw'; obtain ⟨⟨q0, q1, q2⟩, q3, q4, q5⟩ := HC.out w' hw'; go_simp; try rfl) ?_
  refine anyC_take (i := 5) (v := .agg #[.int .i64 q, .slice a3 M1.length c3, .slice a4 M2.length c4, .int .i64 0]) rfl rfl (by kernel_rfl) (by kernel_rfl) (by kernel_rfl) (fun _ _ d _ _ h => by cases d <;> exact h) (below_drewN HBX.out 1) (by rfl) (fun _ => rfl) (by intro w' hw'; obtain ⟨⟨q0, q1, q2⟩, q3, q4, q5⟩ := HC.out w' hw'; go_simp; try rfl) ?_
  refine anyC_one (i := 2) (by kernel_rfl) rfl (by rfl) (fun K1 hK1 => ?_)
  go_simp
  refine ⟨trivial, ?_⟩
  refine (callsIn_wide.2 (MR.out _)).mono ?_
  rintro e w1 ⟨rfl, b1⟩
  have b1' : Below X.heap.size X w1 := (below_drewN (Below.refl _ X) 1).trans b1
  have B1 : Below w.heap.size w w1 := HBX.out.trans (b1'.mono HBX.out.size)
  obtain ⟨hx0, hx1⟩ := two_mov HX.out b1'
  refine hK1 _ _ B1 ?_
  clear hK1 b1 b1' HX
  refine anyC_take (i := 3) (v := .agg #[.int .i64 p, .slice a1 L1.length c1, .slice a2 L2.length c2, .int .i64 dd]) rfl rfl (by kernel_rfl) (by kernel_rfl) (by kernel_rfl) (fun _ _ d _ _ h => by cases d <;> exact h) B1 (by rfl) (fun _ => rfl) (by intro w' hw'; obtain ⟨⟨q0, q1, q2⟩, q3, q4, q5⟩ := HC.out w' hw'; go_simp; try rfl) ?_
  obtain ⟨f0, f1, f2, f3, ff⟩ := mov_facts hx0 (.int .i64 p) (.slice a1 L1.length c1) (.slice a2 L2.length c2)
  obtain ⟨g0, gg⟩ := mov_set hx0 (.int .i64 p) (.slice a1 L1.length c1) (.slice a2 L2.length c2) (.int .i64 dd)
  obtain ⟨Y, hY⟩ : ∃ Y, Y = (((w1.setCell ⟨w.heap.size, 0, none⟩ (.int .i64 p)).setCell ⟨w.heap.size, 1, none⟩ (.slice a1 L1.length c1)).setCell ⟨w.heap.size, 2, none⟩ (.slice a2 L2.length c2)).setCell ⟨w.heap.size, 3, none⟩ (.int .i64 dd) := ⟨_, rfl⟩
  rw [← hY] at g0 gg
  have BY : Below w.heap.size w Y := B1.trans ⟨gg.os, gg.tape, gg.output, gg.size, fun j hj => gg.block j (by have := B1.size; omega) (fun e => by cases e; omega)⟩
  have hy1 : Y.heap[w.heap.size + 1]? = some (.cells #[.int .i64 0, .slice none 0 0, .slice none 0 0, .int .i64 0] 84 (0, 0)) := (gg.block _ (Array.getElem?_eq_some_iff.1 hx1).1 (by simp)).trans hx1
  refine anyC_one (i := 6) (by kernel_rfl) rfl (by rfl) (fun K2 hK2 => ?_)
  go_simp
  rw [← hY]
  refine hK2 _ _ BY ?_
  clear hK2 f0 f1 f2 f3 ff hY
  obtain ⟨f0, f1, f2, f3, ff⟩ := mov_facts hy1 (.int .i64 q) (.slice a3 M1.length c3) (.slice a4 M2.length c4)
  obtain ⟨z1, gz⟩ := mov_set hy1 (.int .i64 q) (.slice a3 M1.length c3) (.slice a4 M2.length c4) (.int .i64 0)
  obtain ⟨Z, hZ⟩ : ∃ Z, Z = (((Y.setCell ⟨w.heap.size + 1, 0, none⟩ (.int .i64 q)).setCell ⟨w.heap.size + 1, 1, none⟩ (.slice a3 M1.length c3)).setCell ⟨w.heap.size + 1, 2, none⟩ (.slice a4 M2.length c4)).setCell ⟨w.heap.size + 1, 3, none⟩ (.int .i64 0) := ⟨_, rfl⟩
  rw [← hZ] at z1 gz
  have BZ : Below w.heap.size w Z := BY.trans ⟨gz.os, gz.tape, gz.output, gz.size, fun j hj => gz.block j (by have := BY.size; omega) (fun e => by cases e; omega)⟩
  have z0 : Z.heap[w.heap.size]? = _ := (gz.block _ (Array.getElem?_eq_some_iff.1 g0).1 (by simp)).trans g0
  refine anyC_one (i := 7) (by kernel_rfl) rfl (by rfl) (fun K3 hK3 => ?_)
  go_simp
  rw [← hZ]
  refine hK3 _ _ BZ ?_
  clear hK3 f0 f1 f2 f3 ff hZ
  refine anyC_done (by kernel_rfl) ?_
  have HBZ : Hid (Below w.heap.size w Z) := BZ
  obtain ⟨k0, k1, k2, k3⟩ := mov_cells z0
  obtain ⟨l0, l1, l2, l3⟩ := mov_cells z1
  clear BZ BY B1 gg gz g0 z0 z1 hy1 hx0 hx1
  gi_wp2
  refine bodyPost_ret (v := .tuple #[.agg #[.int .i64 p, .slice a1 L1.length c1, .slice a2 L2.length c2, .int .i64 dd], .agg #[.int .i64 q, .slice a3 M1.length c3, .slice a4 M2.length c4, .int .i64 0]]) (by simp [results, Try.results61, go_sem, k0, k1, k2, k3, l0, l1, l2, l3]) rfl ⟨rfl, HBZ.out⟩

end Go.Proofs.Ytflnakjffgobmaa
