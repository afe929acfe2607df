/-
  The walk of the document's Unary.
-/
import Derived.Test.YtcnmgebjbaclaaaDoorVlRefBin
namespace Go.Proofs.YtcnmgebjbaclaaaDoor
open Go.RowKit Go.Shelf
open Vl (V Res)

attribute [local go_sem] Oper.semAt_some

set_option maxRecDepth 100000 in
set_option maxHeartbeats 8000000 in
theorem runNone (q : List UInt8) (a : VA) (h45 : q ≠ [45]) (h33 : q ≠ [33]) (w : World) (ha : a.Low w.heap.size w) :
    Calls Tryd.prog 28 #[.string (Ln.bs q), a.val] w fun e w' => RTold (Vl.un q a.v) e ∧ Below w.heap.size w w' := by
  obtain ⟨V0, hV0⟩ : ∃ V, V = w.alloc (.cells #[.int .u8 a.k, .int .i64 a.n, a.vs] 25) := ⟨_, rfl⟩
  have b0 : Below w.heap.size w V0 := hV0 ▸ below_new w _
  have s0 : V0.heap.size = w.heap.size + 1 := by rw [hV0, World.size_alloc]
  obtain ⟨V, hV⟩ : ∃ V, V = V0.alloc (.cells #[.int .u8 0, .int .i64 0, .slice none 0 0] 25) := ⟨_, rfl⟩
  have bb : Below V0.heap.size V0 V := hV ▸ below_new V0 _
  have sV : V.heap.size = V0.heap.size + 1 := by rw [hV, World.size_alloc]
  have bV : Below w.heap.size w V := below_then b0 bb
  have n0 : V.heap[w.heap.size]? = some (.cells #[.int .u8 a.k, .int .i64 a.n, a.vs] 25 (0, 0)) := (bb.block _ (by omega)).trans <| (by rw [hV0]; exact World.alloc_heap_new w _)
  have nr : V.heap[w.heap.size + 1]? = some (.cells #[.int .u8 0, .int .i64 0, .slice none 0 0] 25 (0, 0)) := by rw [hV, ← s0]; exact World.alloc_heap_new V0 _
  have HC : Hid (∀ W, Below V.heap.size V W → W.cell? ⟨w.heap.size, 0, none⟩ = some (.int .u8 a.k) ∧ W.cell? ⟨w.heap.size, 1, none⟩ = some (.int .i64 a.n) ∧ W.cell? ⟨w.heap.size, 2, none⟩ = some a.vs) := fun W hW => ⟨cell_some_below (vcells_at n0 rfl) hW, cell_some_below (vcells_at n0 rfl) hW, cell_some_below (vcells_at n0 rfl) hW⟩
  have HN : Hid (∀ W, Below V.heap.size V W → W.heap[w.heap.size + 1]? = some (.cells #[.int .u8 0, .int .i64 0, .slice none 0 0] 25 (0, 0)) ∧ Below w.heap.size w W) := fun W hW => ⟨(hW.block _ (by omega)).trans nr, below_then bV hW⟩
  have hVV : V = (w.alloc (.cells #[.int .u8 a.k, .int .i64 a.n, a.vs] 25)).alloc (.cells #[.int .u8 0, .int .i64 0, .slice none 0 0] 25) := by rw [hV, hV0]
  obtain ⟨ak, an, av, ar⟩ := a
  simp only [VA.val] at hVV HC ⊢
  clear bV sV nr bb hV n0 s0 b0 hV0 ha 
  have HF0 : ((Ln.bs q).toList == [45]) = false := by rw [lit_beq']; exact decide_eq_false h45
  have HF1 : ((Ln.bs q).toList == [33]) = false := by rw [lit_beq']; exact decide_eq_false h33
  have f0 : ((Ln.bs q).toList == [45]) = false := HF0
  have g0 : ((Ln.bs q).toList != [45]) = true := by unfold bne; rw [f0]; rfl
  have f1 : ((Ln.bs q).toList == [33]) = false := HF1
  have g1 : ((Ln.bs q).toList != [33]) = true := by unfold bne; rw [f1]; rfl
  have ho : Vl.unOf q = 2 := by
    simp only [Vl.unOf, Vl.place]
    rw [if_neg (fun e => h45 e.symm), if_neg (fun e => h33 e.symm)]
  have HBIN : Hid (Vl.un q (VA.v ⟨ak, an, av, ar⟩) = .err 2) := by show _ = _; unfold Vl.un; rw [ho]; rfl
  have D0 : Hid (Below V.heap.size V V) := Below.refl _ _
  clear h45 h33 HF0 HF1 ho
  go_enter Tryd.func28, Tryd.ntmps28
  obtain ⟨zf, d0, d1, d2, Q, hQ, e0, e1, e2, hb3⟩ := rdoor (HN.out _ D0.out).1 (.int .u8 0) (.int .i64 0) (.slice none 0 0)
  have HQB : Hid (Below w.heap.size w V) := (HN.out _ D0.out).2
  have z0 := vcells_at (HN.out _ D0.out).1 (o := 0) rfl
  have z1 := vcells_at (HN.out _ D0.out).1 (o := 1) rfl
  have z2 := vcells_at (HN.out _ D0.out).1 (o := 2) rfl
  clear hQ hb3 e0 e1 e2 d0 d1 d2 zf
  go_wp2
  rw [← hVV]
  clear hVV
  refine bodyPost_ret (v := .tuple #[vV 0 0 nilV, .int .i64 2]) ?_ rfl ⟨by rw [HBIN.out]; rfl, HQB.out⟩
  simp [results, Tryd.results28, go_sem, z0, z1, z2]
set_option maxRecDepth 100000 in
set_option maxHeartbeats 8000000 in
theorem runBad (q : List UInt8) (a : VA) (hq : q = [45] ∨ q = [33]) (hra : Vl.right a.v = false) (w : World) (ha : a.Low w.heap.size w) :
    Calls Tryd.prog 28 #[.string (Ln.bs q), a.val] w fun e w' => RTold (Vl.un q a.v) e ∧ Below w.heap.size w w' := by
  obtain ⟨V0, hV0⟩ : ∃ V, V = w.alloc (.cells #[.int .u8 a.k, .int .i64 a.n, a.vs] 25) := ⟨_, rfl⟩
  have b0 : Below w.heap.size w V0 := hV0 ▸ below_new w _
  have s0 : V0.heap.size = w.heap.size + 1 := by rw [hV0, World.size_alloc]
  obtain ⟨V, hV⟩ : ∃ V, V = V0.alloc (.cells #[.int .u8 0, .int .i64 0, .slice none 0 0] 25) := ⟨_, rfl⟩
  have bb : Below V0.heap.size V0 V := hV ▸ below_new V0 _
  have sV : V.heap.size = V0.heap.size + 1 := by rw [hV, World.size_alloc]
  have bV : Below w.heap.size w V := below_then b0 bb
  have n0 : V.heap[w.heap.size]? = some (.cells #[.int .u8 a.k, .int .i64 a.n, a.vs] 25 (0, 0)) := (bb.block _ (by omega)).trans <| (by rw [hV0]; exact World.alloc_heap_new w _)
  have nr : V.heap[w.heap.size + 1]? = some (.cells #[.int .u8 0, .int .i64 0, .slice none 0 0] 25 (0, 0)) := by rw [hV, ← s0]; exact World.alloc_heap_new V0 _
  have HC : Hid (∀ W, Below V.heap.size V W → W.cell? ⟨w.heap.size, 0, none⟩ = some (.int .u8 a.k) ∧ W.cell? ⟨w.heap.size, 1, none⟩ = some (.int .i64 a.n) ∧ W.cell? ⟨w.heap.size, 2, none⟩ = some a.vs) := fun W hW => ⟨cell_some_below (vcells_at n0 rfl) hW, cell_some_below (vcells_at n0 rfl) hW, cell_some_below (vcells_at n0 rfl) hW⟩
  have HN : Hid (∀ W, Below V.heap.size V W → W.heap[w.heap.size + 1]? = some (.cells #[.int .u8 0, .int .i64 0, .slice none 0 0] 25 (0, 0)) ∧ Below w.heap.size w W) := fun W hW => ⟨(hW.block _ (by omega)).trans nr, below_then bV hW⟩
  have HRa : Hid (∀ W, Calls Tryd.prog 12 #[a.val] W fun e w' => e = .returned (.bool (Vl.right a.v)) ∧ Below W.heap.size W w') := fun W => rright_va a W ha
  rw [hra] at HRa
  have hVV : V = (w.alloc (.cells #[.int .u8 a.k, .int .i64 a.n, a.vs] 25)).alloc (.cells #[.int .u8 0, .int .i64 0, .slice none 0 0] 25) := by rw [hV, hV0]
  obtain ⟨ak, an, av, ar⟩ := a
  simp only [VA.val] at hVV HRa HC ⊢
  clear bV sV nr bb hV n0 s0 b0 hV0 ha 
  have HBIN : Hid (Vl.un q (VA.v ⟨ak, an, av, ar⟩) = .err 2) := by
    show _ = _
    unfold Vl.un
    simp [hra]
  obtain ⟨p, hp⟩ : ∃ p, p = ((Ln.bs q).toList == [45]) := ⟨_, rfl⟩
  have HF : (((Ln.bs q).toList == [45]) = true ∧ ((Ln.bs q).toList == [33]) = false) ∨ (((Ln.bs q).toList == [45]) = false ∧ ((Ln.bs q).toList == [33]) = true) := by
    rcases hq with rfl | rfl
    · exact .inl ⟨by rw [lit_beq']; decide, by rw [lit_beq']; decide⟩
    · exact .inr ⟨by rw [lit_beq']; decide, by rw [lit_beq']; decide⟩
  clear hq hra hp p
  rcases HF with ⟨HF0, HF1⟩ | ⟨HF0, HF1⟩
  · have f0 : ((Ln.bs q).toList == [45]) = true := HF0
    have g0 : ((Ln.bs q).toList != [45]) = false := by unfold bne; rw [f0]; rfl
    have f1 : ((Ln.bs q).toList == [33]) = false := HF1
    have g1 : ((Ln.bs q).toList != [33]) = true := by unfold bne; rw [f1]; rfl
    clear HF0 HF1
    go_enter Tryd.func28, Tryd.ntmps28
    go_wp2_with fail
    rw [← hVV]
    clear hVV
    refine Calls.mono (HRa.out V) ?_
    rintro e w1 ⟨rfl, hb⟩
    have D1 : Hid (Below V.heap.size V w1) := hb
    clear hb HRa
    obtain ⟨zf, d0, d1, d2, Q, hQ, e0, e1, e2, hb3⟩ := rdoor (HN.out _ D1.out).1 (.int .u8 0) (.int .i64 (0)) (.slice none 0 0)
    have HQB : Hid (Below w.heap.size w Q) := (HN.out _ D1.out).2.trans (hb3.mono (by omega))
    clear hb3
    go_wp2
    rw [← hQ]
    clear hQ d0 d1 d2 zf
    refine bodyPost_ret (v := .tuple #[vV 0 (0) nilV, .int .i64 (2)]) ?_ rfl ⟨by rw [HBIN.out]; rfl, HQB.out⟩
    simp [results, Tryd.results28, go_sem, e0, e1, e2]
  · have f0 : ((Ln.bs q).toList == [45]) = false := HF0
    have g0 : ((Ln.bs q).toList != [45]) = true := by unfold bne; rw [f0]; rfl
    have f1 : ((Ln.bs q).toList == [33]) = true := HF1
    have g1 : ((Ln.bs q).toList != [33]) = false := by unfold bne; rw [f1]; rfl
    clear HF0 HF1
    go_enter Tryd.func28, Tryd.ntmps28
    go_wp2_with fail
    rw [← hVV]
    clear hVV
    refine Calls.mono (HRa.out V) ?_
    rintro e w1 ⟨rfl, hb⟩
    have D1 : Hid (Below V.heap.size V w1) := hb
    clear hb HRa
    obtain ⟨zf, d0, d1, d2, Q, hQ, e0, e1, e2, hb3⟩ := rdoor (HN.out _ D1.out).1 (.int .u8 0) (.int .i64 (0)) (.slice none 0 0)
    have HQB : Hid (Below w.heap.size w Q) := (HN.out _ D1.out).2.trans (hb3.mono (by omega))
    clear hb3
    go_wp2
    rw [← hQ]
    clear hQ d0 d1 d2 zf
    refine bodyPost_ret (v := .tuple #[vV 0 (0) nilV, .int .i64 (2)]) ?_ rfl ⟨by rw [HBIN.out]; rfl, HQB.out⟩
    simp [results, Tryd.results28, go_sem, e0, e1, e2]
set_option maxRecDepth 100000 in
set_option maxHeartbeats 8000000 in
theorem runNeg (q : List UInt8) (a : VA) (hq : q = [45]) (hra : Vl.right a.v = true) (w : World) (ha : a.Low w.heap.size w) :
    Calls Tryd.prog 28 #[.string (Ln.bs q), a.val] w fun e w' => RTold (Vl.un q a.v) e ∧ Below w.heap.size w w' := by
  obtain ⟨V0, hV0⟩ : ∃ V, V = w.alloc (.cells #[.int .u8 a.k, .int .i64 a.n, a.vs] 25) := ⟨_, rfl⟩
  have b0 : Below w.heap.size w V0 := hV0 ▸ below_new w _
  have s0 : V0.heap.size = w.heap.size + 1 := by rw [hV0, World.size_alloc]
  obtain ⟨V, hV⟩ : ∃ V, V = V0.alloc (.cells #[.int .u8 0, .int .i64 0, .slice none 0 0] 25) := ⟨_, rfl⟩
  have bb : Below V0.heap.size V0 V := hV ▸ below_new V0 _
  have sV : V.heap.size = V0.heap.size + 1 := by rw [hV, World.size_alloc]
  have bV : Below w.heap.size w V := below_then b0 bb
  have n0 : V.heap[w.heap.size]? = some (.cells #[.int .u8 a.k, .int .i64 a.n, a.vs] 25 (0, 0)) := (bb.block _ (by omega)).trans <| (by rw [hV0]; exact World.alloc_heap_new w _)
  have nr : V.heap[w.heap.size + 1]? = some (.cells #[.int .u8 0, .int .i64 0, .slice none 0 0] 25 (0, 0)) := by rw [hV, ← s0]; exact World.alloc_heap_new V0 _
  have HC : Hid (∀ W, Below V.heap.size V W → W.cell? ⟨w.heap.size, 0, none⟩ = some (.int .u8 a.k) ∧ W.cell? ⟨w.heap.size, 1, none⟩ = some (.int .i64 a.n) ∧ W.cell? ⟨w.heap.size, 2, none⟩ = some a.vs) := fun W hW => ⟨cell_some_below (vcells_at n0 rfl) hW, cell_some_below (vcells_at n0 rfl) hW, cell_some_below (vcells_at n0 rfl) hW⟩
  have HN : Hid (∀ W, Below V.heap.size V W → W.heap[w.heap.size + 1]? = some (.cells #[.int .u8 0, .int .i64 0, .slice none 0 0] 25 (0, 0)) ∧ Below w.heap.size w W) := fun W hW => ⟨(hW.block _ (by omega)).trans nr, below_then bV hW⟩
  have HRa : Hid (∀ W, Calls Tryd.prog 12 #[a.val] W fun e w' => e = .returned (.bool (Vl.right a.v)) ∧ Below W.heap.size W w') := fun W => rright_va a W ha
  rw [hra] at HRa
  have hVV : V = (w.alloc (.cells #[.int .u8 a.k, .int .i64 a.n, a.vs] 25)).alloc (.cells #[.int .u8 0, .int .i64 0, .slice none 0 0] 25) := by rw [hV, hV0]
  obtain ⟨ak, an, av, ar⟩ := a
  simp only [VA.val] at hVV HRa HC ⊢
  clear bV sV nr bb hV n0 s0 b0 hV0 ha 
  have HF0 : ((Ln.bs q).toList == [45]) = true := by rw [lit_beq', hq]; decide
  have HF1 : ((Ln.bs q).toList == [33]) = false := by rw [lit_beq', hq]; decide
  have f0 : ((Ln.bs q).toList == [45]) = true := HF0
  have g0 : ((Ln.bs q).toList != [45]) = false := by unfold bne; rw [f0]; rfl
  have f1 : ((Ln.bs q).toList == [33]) = false := HF1
  have g1 : ((Ln.bs q).toList != [33]) = true := by unfold bne; rw [f1]; rfl
  have hun : Vl.un q (VA.v ⟨ak, an, av, ar⟩) = if Vl.isInt (VA.v ⟨ak, an, av, ar⟩) then Res.int (Vl.wrap (-an)) else .err 200 := by
    rw [hq]
    unfold Vl.un
    have h1 : (decide (Vl.unOf [45] < 2) && [VA.v ⟨ak, an, av, ar⟩].all Vl.right) = true := by simp [hra]; decide
    rw [if_pos h1]
    show (if (Vl.isInt (VA.v ⟨ak, an, av, ar⟩) && true) = true then Res.int (Vl.wrap (-an)) else Res.err 200) = _
    rw [Bool.and_true]
  clear HF0 HF1 hra hq
  go_enter Tryd.func28, Tryd.ntmps28
  go_wp2_with fail
  rw [← hVV]
  clear hVV
  refine Calls.mono (HRa.out V) ?_
  rintro e w1 ⟨rfl, hb⟩
  have D1 : Hid (Below V.heap.size V w1) := hb
  clear hb HRa
  obtain ⟨c0, c1, c2⟩ := HC.out _ D1.out
  by_cases hk : ak = 1
  · have fk : (ak == 1) = true := by simp [hk]
    have HBIN : Hid (Vl.un q (VA.v ⟨ak, an, av, ar⟩) = Res.int (Vl.wrap (-an))) := hun.trans (if_pos (by simp [Vl.isInt, VA.v, hk]))
    clear hk hun
    go_wp2_with fail
    refine Calls.mono (rint_any _ _) ?_
    rintro e w2 ⟨rfl, hb⟩
    have D2 : Hid (Below V.heap.size V w2) := below_then D1.out hb
    clear hb c0 c1 c2
    obtain ⟨zf, d0, d1, d2, Q, hQ, e0, e1, e2, hb3⟩ := rdoor (HN.out _ D2.out).1 (.int .u8 1) (.int .i64 (wrap64 (-an))) (.slice none 0 0)
    have HQB : Hid (Below w.heap.size w Q) := (HN.out _ D2.out).2.trans (hb3.mono (by omega))
    clear hb3
    go_wp2
    rw [← hQ]
    clear hQ d0 d1 d2 zf
    refine bodyPost_ret (v := .tuple #[vV 1 (wrap64 (-an)) nilV, .int .i64 (0)]) ?_ rfl ⟨by rw [HBIN.out, wrap_eq]; rfl, HQB.out⟩
    simp [results, Tryd.results28, go_sem, e0, e1, e2]
  · have fk : (ak == 1) = false := by simp [hk]
    have HBIN : Hid (Vl.un q (VA.v ⟨ak, an, av, ar⟩) = .err 200) := hun.trans (if_neg (by simp [Vl.isInt, VA.v, hk]))
    clear hk hun
    obtain ⟨zf, d0, d1, d2, Q, hQ, e0, e1, e2, hb3⟩ := rdoor (HN.out _ D1.out).1 (.int .u8 0) (.int .i64 (0)) (.slice none 0 0)
    have HQB : Hid (Below w.heap.size w Q) := (HN.out _ D1.out).2.trans (hb3.mono (by omega))
    clear hb3
    go_wp2
    rw [← hQ]
    clear hQ d0 d1 d2 zf
    refine bodyPost_ret (v := .tuple #[vV 0 (0) nilV, .int .i64 (200)]) ?_ rfl ⟨by rw [HBIN.out]; rfl, HQB.out⟩
    simp [results, Tryd.results28, go_sem, e0, e1, e2]
set_option maxRecDepth 100000 in
set_option maxHeartbeats 8000000 in
theorem runNot (q : List UInt8) (a : VA) (hq : q = [33]) (hra : Vl.right a.v = true) (w : World) (ha : a.Low w.heap.size w) :
    Calls Tryd.prog 28 #[.string (Ln.bs q), a.val] w fun e w' => RTold (Vl.un q a.v) e ∧ Below w.heap.size w w' := by
  obtain ⟨V0, hV0⟩ : ∃ V, V = w.alloc (.cells #[.int .u8 a.k, .int .i64 a.n, a.vs] 25) := ⟨_, rfl⟩
  have b0 : Below w.heap.size w V0 := hV0 ▸ below_new w _
  have s0 : V0.heap.size = w.heap.size + 1 := by rw [hV0, World.size_alloc]
  obtain ⟨V, hV⟩ : ∃ V, V = V0.alloc (.cells #[.int .u8 0, .int .i64 0, .slice none 0 0] 25) := ⟨_, rfl⟩
  have bb : Below V0.heap.size V0 V := hV ▸ below_new V0 _
  have sV : V.heap.size = V0.heap.size + 1 := by rw [hV, World.size_alloc]
  have bV : Below w.heap.size w V := below_then b0 bb
  have n0 : V.heap[w.heap.size]? = some (.cells #[.int .u8 a.k, .int .i64 a.n, a.vs] 25 (0, 0)) := (bb.block _ (by omega)).trans <| (by rw [hV0]; exact World.alloc_heap_new w _)
  have nr : V.heap[w.heap.size + 1]? = some (.cells #[.int .u8 0, .int .i64 0, .slice none 0 0] 25 (0, 0)) := by rw [hV, ← s0]; exact World.alloc_heap_new V0 _
  have HC : Hid (∀ W, Below V.heap.size V W → W.cell? ⟨w.heap.size, 0, none⟩ = some (.int .u8 a.k) ∧ W.cell? ⟨w.heap.size, 1, none⟩ = some (.int .i64 a.n) ∧ W.cell? ⟨w.heap.size, 2, none⟩ = some a.vs) := fun W hW => ⟨cell_some_below (vcells_at n0 rfl) hW, cell_some_below (vcells_at n0 rfl) hW, cell_some_below (vcells_at n0 rfl) hW⟩
  have HN : Hid (∀ W, Below V.heap.size V W → W.heap[w.heap.size + 1]? = some (.cells #[.int .u8 0, .int .i64 0, .slice none 0 0] 25 (0, 0)) ∧ Below w.heap.size w W) := fun W hW => ⟨(hW.block _ (by omega)).trans nr, below_then bV hW⟩
  have HRa : Hid (∀ W, Calls Tryd.prog 12 #[a.val] W fun e w' => e = .returned (.bool (Vl.right a.v)) ∧ Below W.heap.size W w') := fun W => rright_va a W ha
  rw [hra] at HRa
  have hVV : V = (w.alloc (.cells #[.int .u8 a.k, .int .i64 a.n, a.vs] 25)).alloc (.cells #[.int .u8 0, .int .i64 0, .slice none 0 0] 25) := by rw [hV, hV0]
  obtain ⟨ak, an, av, ar⟩ := a
  simp only [VA.val] at hVV HRa HC ⊢
  clear bV sV nr bb hV n0 s0 b0 hV0 ha 
  have HF0 : ((Ln.bs q).toList == [45]) = false := by rw [lit_beq', hq]; decide
  have HF1 : ((Ln.bs q).toList == [33]) = true := by rw [lit_beq', hq]; decide
  have f0 : ((Ln.bs q).toList == [45]) = false := HF0
  have g0 : ((Ln.bs q).toList != [45]) = true := by unfold bne; rw [f0]; rfl
  have f1 : ((Ln.bs q).toList == [33]) = true := HF1
  have g1 : ((Ln.bs q).toList != [33]) = false := by unfold bne; rw [f1]; rfl
  have hun : Vl.un q (VA.v ⟨ak, an, av, ar⟩) = if Vl.isBool (VA.v ⟨ak, an, av, ar⟩) then Res.bool (an == 0) else .err 200 := by
    rw [hq]
    unfold Vl.un
    have h1 : (decide (Vl.unOf [33] < 2) && [VA.v ⟨ak, an, av, ar⟩].all Vl.right) = true := by simp [hra]; decide
    rw [if_pos h1]
    show (if (Vl.isBool (VA.v ⟨ak, an, av, ar⟩) && true) = true then Res.bool (an == 0) else Res.err 200) = _
    rw [Bool.and_true]
  clear HF0 HF1 hra hq
  go_enter Tryd.func28, Tryd.ntmps28
  go_wp2_with fail
  rw [← hVV]
  clear hVV
  refine Calls.mono (HRa.out V) ?_
  rintro e w1 ⟨rfl, hb⟩
  have D1 : Hid (Below V.heap.size V w1) := hb
  clear hb HRa
  obtain ⟨c0, c1, c2⟩ := HC.out _ D1.out
  by_cases hk : ak = 2
  · have fk : (ak == 2) = true := by simp [hk]
    have HBIN : Hid (Vl.un q (VA.v ⟨ak, an, av, ar⟩) = Res.bool (an == 0)) := hun.trans (if_pos (by simp [Vl.isBool, VA.v, hk]))
    clear hk hun
    go_wp2_with fail
    refine Calls.mono (rbool_any _ _) ?_
    rintro e w2 ⟨rfl, hb⟩
    have D2 : Hid (Below V.heap.size V w2) := below_then D1.out hb
    clear hb c0 c1 c2
    obtain ⟨zf, d0, d1, d2, Q, hQ, e0, e1, e2, hb3⟩ := rdoor (HN.out _ D2.out).1 (.int .u8 2) (.int .i64 (Vl.one (an == 0))) (.slice none 0 0)
    have HQB : Hid (Below w.heap.size w Q) := (HN.out _ D2.out).2.trans (hb3.mono (by omega))
    clear hb3
    go_wp2
    rw [← hQ]
    clear hQ d0 d1 d2 zf
    refine bodyPost_ret (v := .tuple #[vV 2 (Vl.one (an == 0)) nilV, .int .i64 (0)]) ?_ rfl ⟨by rw [HBIN.out]; rfl, HQB.out⟩
    simp [results, Tryd.results28, go_sem, e0, e1, e2]
  · have fk : (ak == 2) = false := by simp [hk]
    have HBIN : Hid (Vl.un q (VA.v ⟨ak, an, av, ar⟩) = .err 200) := hun.trans (if_neg (by simp [Vl.isBool, VA.v, hk]))
    clear hk hun
    obtain ⟨zf, d0, d1, d2, Q, hQ, e0, e1, e2, hb3⟩ := rdoor (HN.out _ D1.out).1 (.int .u8 0) (.int .i64 (0)) (.slice none 0 0)
    have HQB : Hid (Below w.heap.size w Q) := (HN.out _ D1.out).2.trans (hb3.mono (by omega))
    clear hb3
    go_wp2
    rw [← hQ]
    clear hQ d0 d1 d2 zf
    refine bodyPost_ret (v := .tuple #[vV 0 (0) nilV, .int .i64 (200)]) ?_ rfl ⟨by rw [HBIN.out]; rfl, HQB.out⟩
    simp [results, Tryd.results28, go_sem, e0, e1, e2]
theorem runary_any (q : List UInt8) (a : VA) (w : World) (ha : a.Low w.heap.size w) :
    Calls Tryd.prog 28 #[.string (Ln.bs q), a.val] w fun e w' => RTold (Vl.un q a.v) e ∧ Below w.heap.size w w' := by
  by_cases h45 : q = [45]
  · cases hr : Vl.right a.v with
    | false => exact runBad q a (.inl h45) hr w ha
    | true => exact runNeg q a h45 hr w ha
  by_cases h33 : q = [33]
  · cases hr : Vl.right a.v with
    | false => exact runBad q a (.inr h33) hr w ha
    | true => exact runNot q a h33 hr w ha
  exact runNone q a h45 h33 w ha
end Go.Proofs.YtcnmgebjbaclaaaDoor
