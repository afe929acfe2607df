/-
  The walk of hunk.Invert.
-/
import Derived.Test.YtflnakjffgobmaaHnSorted
namespace Go.Proofs.Ytflnakjffgobmaa
open Go.RowKit Go.Shelf

attribute [local go_sem] Oper.semAt_some

set_option maxRecDepth 100000 in
set_option maxHeartbeats 4000000 in
theorem invert_any (x : HA) (m : Nat) (w : World) (hx : x.Low m w) (hm : m ≤ w.heap.size) (hs : x.Small) (l1 : ∀ s ∈ x.old, s.length ≤ 281474976710656) (l2 : ∀ s ∈ x.new, s.length ≤ 281474976710656) :
    Calls Try.prog 20 #[x.val] w fun e w' => ∃ vo vn n1, e = .returned (.agg #[.int .i64 x.at_, vo, vn]) ∧ w'.ownsRow w.heap.size 9 1 vo x.new.length (x.new.map txtV) ∧ w'.ownsRow n1 9 1 vn x.old.length (x.old.map txtV) ∧ w.heap.size ≤ n1 ∧ (∀ b, vo.ownBlock = some b → b < n1) ∧ Below w.heap.size w w' := by
  obtain ⟨p, vo, vn, L1, L2⟩ := x
  obtain ⟨h1, h2⟩ := hx
  obtain ⟨s1, s2⟩ := hs
  simp only at h1 h2 l1 l2 s1 s2
  have H1 : Hid (RowLow m w vo L1) := h1
  have H2 : Hid (RowLow m w vn L2) := h2
  obtain ⟨a1, c1, b1, o1, rfl, -, -, -⟩ := h1.parts
  obtain ⟨a2, c2, b2, o2, rfl, -, -, -⟩ := h2.parts
  simp only [HA.val]
  obtain ⟨X, hX⟩ : ∃ X, X = (w.alloc (.cells #[.int .i64 p, .slice a1 L1.length c1, .slice a2 L2.length c2] 41)).alloc (.cells #[.int .i64 0, .slice none 0 0, .slice none 0 0] 41) := ⟨_, rfl⟩
  have bX : Below w.heap.size w X := by rw [hX]; exact (below_nw w _).alloc (by simp) _
  have sX : X.heap.size = w.heap.size + 2 := by rw [hX]; simp
  have hXh : X.heap[w.heap.size]? = some (.cells #[.int .i64 p, .slice a1 L1.length c1, .slice a2 L2.length c2] 41 (0, 0)) := by
    rw [hX]; exact ((below_nw (w.alloc (.cells #[.int .i64 p, .slice a1 L1.length c1, .slice a2 L2.length c2] 41)) _).block _ (by simp)).trans (World.alloc_heap_new w _)
  have hXr : X.heap[w.heap.size + 1]? = some (.cells #[.int .i64 0, .slice none 0 0, .slice none 0 0] 41 (0, 0)) := by
    have h := World.alloc_heap_new (w.alloc (.cells #[.int .i64 p, .slice a1 L1.length c1, .slice a2 L2.length c2] 41)) (.cells #[.int .i64 0, .slice none 0 0, .slice none 0 0] 41)
    rw [World.size_alloc] at h
    rw [hX]; exact h
  have HC : Hid (∀ W, Below X.heap.size X W → W.cell? ⟨w.heap.size, 0, none⟩ = some (.int .i64 p) ∧ W.cell? ⟨w.heap.size, 1, none⟩ = some (.slice a1 L1.length c1) ∧ W.cell? ⟨w.heap.size, 2, none⟩ = some (.slice a2 L2.length c2)) := fun W hW => by
    have h := (hW.block _ (by omega)).trans hXh
    refine ⟨?_, ?_, ?_⟩ <;> (rw [Lib.cell_of_heap h]; rfl)
  have HXR : Hid (_) := hXr
  have HBX : Hid (_) := bX
  have sX1 : w.heap.size + 1 < X.heap.size := by omega
  clear h1 h2 hXh hXr bX sX
  refine (callsIn_wide (n := 3)).1 ?_
  refine callsIn_of_wp Try.func20 rfl trivial ?_ rfl
  simp only [Try.ntmps20, List.size_toArray, List.length_cons, List.length_nil, Nat.reduceAdd, Nat.reduceSub, Array.replicate_succ, Array.replicate_zero, List.push_toArray, List.append_toArray, List.nil_append, List.cons_append]
  gi_wp2
  rw [← hX]
  clear hX
  refine region_lex (fun w' => w'.cell? ⟨w.heap.size, 0, none⟩ = some (.int .i64 p) ∧ w'.cell? ⟨w.heap.size, 1, none⟩ = some (.slice a1 L1.length c1) ∧ w'.cell? ⟨w.heap.size, 2, none⟩ = some (.slice a2 L2.length c2)) 4 6 rfl (by kernel_rfl) (by kernel_rfl) (by kernel_rfl) (by kernel_rfl) (fun _ _ d _ _ h => by cases d <;> exact h) (HC.out _ (below_drewN (Below.refl _ X) 1)) ?_
  simp only [List.take_succ_cons, List.take_zero]
  iterate 4 (first
    | (apply lexC_want
       · rfl
       · exact fun _ => rfl
       · (intro w' hw'; obtain ⟨q0, q1, q2⟩ := hw'; go_simp; try rfl)
       simp only [Act.put, List.setIfInBounds_toArray, List.set_cons_zero, List.set_cons_succ])
    | (apply lexC_skip
       · rfl
       · exact fun _ => rfl
       simp only [Act.put, List.setIfInBounds_toArray, List.set_cons_zero, List.set_cons_succ]))
  refine lexC_nil ?_
  refine anyC_take (i := 5) (v := .pointer (some ⟨w.heap.size, 1, none⟩)) rfl rfl (by kernel_rfl) (by kernel_rfl) (by kernel_rfl) (fun _ _ d _ _ h => by cases d <;> exact h) (HC.out _ (below_drewN (Below.refl _ X) 1)) (by rfl) (fun _ => rfl) (by intro w' _; go_simp; try rfl) ?_
  refine anyC_take (i := 6) (v := .slice a1 L1.length c1) rfl rfl (by kernel_rfl) (by kernel_rfl) (by kernel_rfl) (fun _ _ d _ _ h => by cases d <;> exact h) (HC.out _ (below_drewN (Below.refl _ X) 1)) (by rfl) (fun _ => rfl) (by intro w' hw'; obtain ⟨q0, q1, q2⟩ := hw'; go_simp; try rfl) ?_
  refine anyC_one (i := 4) (by kernel_rfl) rfl (by rfl) (fun K1 hK1 => ?_)
  go_simp
  refine ⟨trivial, ?_⟩
  refine (callsIn_wide.2 (hcopied_any m L2 (.slice a2 L2.length c2) _ (RowLow.below H2.out (below_drewN HBX.out 1) hm) (by show m ≤ X.heap.size; omega) (by omega) l2)).mono ?_
  rintro e w1 ⟨r1, rfl, o1', b1'⟩
  have B1 : Below X.heap.size X w1 := (below_drewN (Below.refl _ X) 1).trans b1'
  have O1 : Hid (w1.ownsRow X.heap.size 9 1 r1 L2.length (L2.map txtV)) := o1'
  refine hK1 _ _ (HC.out _ B1) ?_
  clear hK1 o1' b1'
  refine anyC_one (i := 7) (by kernel_rfl) rfl (by rfl) (fun K2 hK2 => ?_)
  go_simp
  refine ⟨trivial, ?_⟩
  have BW1 : Below w.heap.size w w1 := HBX.out.trans (B1.mono HBX.out.size)
  refine (callsIn_wide.2 (hcopied_any m L1 (.slice a1 L1.length c1) _ (RowLow.below H1.out BW1 hm) (Nat.le_trans hm BW1.size) (by omega) l1)).mono ?_
  rintro e w2 ⟨r2, rfl, o2', b2'⟩
  have B2 : Below X.heap.size X w2 := B1.trans (b2'.mono B1.size)
  have O2 : Hid (w2.ownsRow w1.heap.size 9 1 r2 L1.length (L1.map txtV)) := o2'
  have O12 : Hid (w2.ownsRow X.heap.size 9 1 r1 L2.length (L2.map txtV)) := owns_below O1.out b2'
  have BW2 : Hid (Below w.heap.size w w2) := HBX.out.trans (B2.mono HBX.out.size)
  have HC2 : Hid (_) := HC.out _ B2
  have LT1 : Hid (∀ b, r1.ownBlock = some b → b < w1.heap.size) := fun b hb => (O1.out.lt b hb).2
  have S1 : Hid (X.heap.size ≤ w1.heap.size) := B1.size
  refine hK2 _ _ (HC.out _ B2) ?_
  clear hK2 o2' b2' O1 B1 BW1
  obtain ⟨ra, rc, rfl⟩ := slice_shape O12.out
  obtain ⟨sa, sc, rfl⟩ := slice_shape O2.out
  have hr2 : w2.heap[w.heap.size + 1]? = some (.cells #[.int .i64 0, .slice none 0 0, .slice none 0 0] 41 (0, 0)) := (B2.block _ sX1).trans HXR.out
  have z0 : w2.cell? ⟨w.heap.size + 1, 0, none⟩ = some (.int .i64 0) := by rw [Lib.cell_of_heap hr2]; rfl
  have z1 : w2.cell? ⟨w.heap.size + 1, 1, none⟩ = some (.slice none 0 0) := by rw [Lib.cell_of_heap hr2]; rfl
  have z2 : w2.cell? ⟨w.heap.size + 1, 2, none⟩ = some (.slice none 0 0) := by rw [Lib.cell_of_heap hr2]; rfl
  have fz : ∀ j, w2.frozen? ⟨w.heap.size + 1, j, none⟩ = false := fun j => frozen_of_row w2 _ j _ _ hr2
  obtain ⟨Z, hZ⟩ : ∃ Z, Z = ((w2.setCell ⟨w.heap.size + 1, 0, none⟩ (.int .i64 p)).setCell ⟨w.heap.size + 1, 1, none⟩ (.slice ra L2.length rc)).setCell ⟨w.heap.size + 1, 2, none⟩ (.slice sa L1.length sc) := ⟨_, rfl⟩
  have hzh : Z.heap[w.heap.size + 1]? = some (.cells #[.int .i64 p, .slice ra L2.length rc, .slice sa L1.length sc] 41 (0, 0)) := by rw [hZ]; exact three_cells hr2 _ _ _
  have hzg : w2.grownBy Z (some (w.heap.size + 1)) := by
    rw [hZ]
    exact grown_join (grown_join (grown_set w2 _ 0 _) (grown_set _ _ 1 _) (fun j hj => .inl hj)) (grown_set _ _ 2 _) (fun j hj => .inl hj)
  have CZ : Hid (Z.cell? ⟨w.heap.size, 0, none⟩ = some (.int .i64 p) ∧ Z.cell? ⟨w.heap.size, 1, none⟩ = some (.slice a1 L1.length c1) ∧ Z.cell? ⟨w.heap.size, 2, none⟩ = some (.slice a2 L2.length c2)) := by
    have h := HC.out _ B2
    have hb : ∀ j, Z.cell? ⟨w.heap.size, j, none⟩ = w2.cell? ⟨w.heap.size, j, none⟩ := fun j => by
      have h9 := hzg.block w.heap.size (by have := B2.size; omega) (by simp)
      simp [World.cell?, h9]
    exact ⟨(hb 0).trans h.1, (hb 1).trans h.2.1, (hb 2).trans h.2.2⟩
  have y0 : Z.cell? ⟨w.heap.size + 1, 0, none⟩ = some (.int .i64 p) := by rw [Lib.cell_of_heap hzh]; rfl
  have y1 : Z.cell? ⟨w.heap.size + 1, 1, none⟩ = some (.slice ra L2.length rc) := by rw [Lib.cell_of_heap hzh]; rfl
  have y2 : Z.cell? ⟨w.heap.size + 1, 2, none⟩ = some (.slice sa L1.length sc) := by rw [Lib.cell_of_heap hzh]; rfl
  have HFIN : Hid (Z.ownsRow w.heap.size 9 1 (.slice ra L2.length rc) L2.length (L2.map txtV) ∧ Z.ownsRow w1.heap.size 9 1 (.slice sa L1.length sc) L1.length (L1.map txtV) ∧ w.heap.size ≤ w1.heap.size ∧ (∀ b, (Value.slice ra L2.length rc).ownBlock = some b → b < w1.heap.size) ∧ Below w.heap.size w Z) := by
    have hne : ∀ {B n : Nat} {v : Value} {xs : List Value}, w2.ownsRow B 9 1 v n xs → w.heap.size + 1 < B → Z.ownsRow B 9 1 v n xs := fun h hlt => by
      refine h.kept hzg ?_
      cases hb : Value.ownBlock _ with
      | none => exact .inl rfl
      | some b => exact .inr (fun e => by have := (h.lt b hb).1; cases e; omega)
    refine ⟨owns_base (hne O12.out sX1) (by omega), hne O2.out (by have := S1.out; omega), by have := S1.out; omega, LT1.out, BW2.out.trans ⟨hzg.os, hzg.tape, hzg.output, hzg.size, fun j hj => hzg.block j (by have := BW2.out.size; omega) (fun e => by cases e; omega)⟩⟩
  clear hzh hzg hr2 HC HXR B2
  refine anyC_one (i := 8) (by kernel_rfl) rfl (by rfl) (fun K3 hK3 => ?_)
  go_simp
  refine hK3 _ _ HC2.out ?_
  clear hK3
  refine anyC_one (i := 9) (by kernel_rfl) rfl (by rfl) (fun K4 hK4 => ?_)
  go_simp
  rw [← hZ]
  refine hK4 _ _ CZ.out ?_
  clear hK4 hZ z0 z1 z2 fz
  refine anyC_done (by kernel_rfl) ?_
  gi_wp2
  refine bodyPost_ret (v := .agg #[.int .i64 p, .slice ra L2.length rc, .slice sa L1.length sc]) (by simp [results, Try.results20, go_sem, y0, y1, y2]) rfl ⟨_, _, _, rfl, HFIN.out⟩

end Go.Proofs.Ytflnakjffgobmaa
