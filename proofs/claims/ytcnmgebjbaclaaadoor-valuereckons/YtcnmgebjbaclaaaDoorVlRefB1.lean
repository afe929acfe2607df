/-
  The walk of the document's Binary, sign 1.
-/
import Derived.Test.YtcnmgebjbaclaaaDoorVlRefBin
namespace Go.Proofs.YtcnmgebjbaclaaaDoor
open Go.RowKit Go.Shelf
open Vl (V Res)

attribute [local go_sem] Oper.semAt_some

set_option maxRecDepth 100000 in
set_option maxHeartbeats 8000000 in
theorem rbin1 (q : List UInt8) (hq : q = [38, 38]) (a b : VA) (hra : Vl.right a.v = true) (hrb : Vl.right b.v = true) (w : World) (ha : a.Low w.heap.size w) (hb : b.Low w.heap.size w) :
    Calls Tryd.prog 27 #[.string (Ln.bs q), a.val, b.val] w fun e w' => RTold (Vl.bin q a.v b.v) e ∧ Below w.heap.size w w' := by
  obtain ⟨V0, hV0⟩ : ∃ V, V = w.alloc (.cells #[.int .u8 a.k, .int .i64 a.n, a.vs] 25) := ⟨_, rfl⟩
  have b0 : Below w.heap.size w V0 := hV0 ▸ below_new w _
  have s0 : V0.heap.size = w.heap.size + 1 := by rw [hV0, World.size_alloc]
  obtain ⟨V1, hV1⟩ : ∃ V, V = V0.alloc (.cells #[.int .u8 b.k, .int .i64 b.n, b.vs] 25) := ⟨_, rfl⟩
  have b1 : Below V0.heap.size V0 V1 := hV1 ▸ below_new V0 _
  have s1 : V1.heap.size = V0.heap.size + 1 := by rw [hV1, World.size_alloc]
  obtain ⟨V, hV⟩ : ∃ V, V = V1.alloc (.cells #[.int .u8 0, .int .i64 0, .slice none 0 0] 25) := ⟨_, rfl⟩
  have bb : Below V1.heap.size V1 V := hV ▸ below_new V1 _
  have sV : V.heap.size = V1.heap.size + 1 := by rw [hV, World.size_alloc]
  have bV : Below w.heap.size w V := below_then (below_then b0 b1) bb
  have n0 : V.heap[w.heap.size]? = some (.cells #[.int .u8 a.k, .int .i64 a.n, a.vs] 25 (0, 0)) := (bb.block _ (by omega)).trans <| (b1.block _ (by omega)).trans <| (by rw [hV0]; exact World.alloc_heap_new w _)
  have n1 : V.heap[w.heap.size + 1]? = some (.cells #[.int .u8 b.k, .int .i64 b.n, b.vs] 25 (0, 0)) := (bb.block _ (by omega)).trans <| (by rw [hV1, ← s0]; exact World.alloc_heap_new V0 _)
  have nr : V.heap[w.heap.size + 1 + 1]? = some (.cells #[.int .u8 0, .int .i64 0, .slice none 0 0] 25 (0, 0)) := by rw [hV, ← s0, ← s1]; exact World.alloc_heap_new V1 _
  have HC : Hid (∀ W, Below V.heap.size V W → W.cell? ⟨w.heap.size, 0, none⟩ = some (.int .u8 a.k) ∧ W.cell? ⟨w.heap.size, 1, none⟩ = some (.int .i64 a.n) ∧ W.cell? ⟨w.heap.size, 2, none⟩ = some a.vs ∧ W.cell? ⟨w.heap.size + 1, 0, none⟩ = some (.int .u8 b.k) ∧ W.cell? ⟨w.heap.size + 1, 1, none⟩ = some (.int .i64 b.n) ∧ W.cell? ⟨w.heap.size + 1, 2, none⟩ = some b.vs) := fun W hW => ⟨cell_some_below (vcells_at n0 rfl) hW, cell_some_below (vcells_at n0 rfl) hW, cell_some_below (vcells_at n0 rfl) hW, cell_some_below (vcells_at n1 rfl) hW, cell_some_below (vcells_at n1 rfl) hW, cell_some_below (vcells_at n1 rfl) hW⟩
  have HN : Hid (∀ W, Below V.heap.size V W → W.heap[w.heap.size + 1 + 1]? = some (.cells #[.int .u8 0, .int .i64 0, .slice none 0 0] 25 (0, 0)) ∧ Below w.heap.size w W) := fun W hW => ⟨(hW.block _ (by omega)).trans nr, below_then bV hW⟩
  have HRa : Hid (∀ W, Calls Tryd.prog 12 #[a.val] W fun e w' => e = .returned (.bool (Vl.right a.v)) ∧ Below W.heap.size W w') := fun W => rright_va a W ha
  have HRb : Hid (∀ W, Calls Tryd.prog 12 #[b.val] W fun e w' => e = .returned (.bool (Vl.right b.v)) ∧ Below W.heap.size W w') := fun W => rright_va b W hb
  have HS : Hid (∀ W, Below V.heap.size V W → Calls Tryd.prog 25 #[a.val, b.val] W fun e w' => e = .returned (.bool (Vl.same a.v b.v)) ∧ Below W.heap.size W w') := fun W hW => sameValue_any W _ _ a.v b.v ((ha.at (below_then bV hW)).vat) ((hb.at (below_then bV hW)).vat) ha.2 hb.2
  rw [hra] at HRa
  rw [hrb] at HRb
  have hVV : V = ((w.alloc (.cells #[.int .u8 a.k, .int .i64 a.n, a.vs] 25)).alloc (.cells #[.int .u8 b.k, .int .i64 b.n, b.vs] 25)).alloc (.cells #[.int .u8 0, .int .i64 0, .slice none 0 0] 25) := by rw [hV, hV1, hV0]
  obtain ⟨ak, an, av, ar⟩ := a
  obtain ⟨bk, bn, bv, br⟩ := b
  simp only [VA.val] at hVV HRa HRb HC HS ⊢
  clear bV sV nr bb hV n1 s1 b1 hV1 n0 s0 b0 hV0 ha  hb 
  have HOP : Hid (Vl.opOf q < 13 ∧ Vl.opOf q = 1) := by subst hq; exact ⟨by decide, rfl⟩
  have hbin := bin_good HOP.out.2 (by decide) hra hrb
  have HKN : Hid (∀ W, Calls Tryd.prog 39 #[.string (Ln.bs q)] W fun e w' => e = .returned (.bool true) ∧ Below W.heap.size W w') := fun W => by
    have h := known_any q W
    rwa [decide_eq_true HOP.out.1] at h
  have f0 : ((Ln.bs q).toList == [61, 61]) = false := by rw [lit_beq', hq]; decide
  have f1 : ((Ln.bs q).toList == [33, 61]) = false := by rw [lit_beq', hq]; decide
  have f2 : ((Ln.bs q).toList == [124, 124]) = false := by rw [lit_beq', hq]; decide
  have f3 : ((Ln.bs q).toList == [38, 38]) = true := by rw [lit_beq', hq]; decide
  have HNUM2 : Hid ((ak = 2 → an = 0 ∨ an = 1) ∧ (bk = 2 → bn = 0 ∨ bn = 1)) := ⟨right_bool hra, right_bool hrb⟩
  clear hra hrb hq
  go_enter Tryd.func27, Tryd.ntmps27
  go_wp2_with fail
  rw [← hVV]
  clear hVV
  refine Calls.mono (HKN.out V) ?_
  rintro e w1 ⟨rfl, hb⟩
  have D1 : Hid (Below V.heap.size V w1) := hb
  clear hb HKN
  obtain ⟨c0, c1, c2, d0, d1, d2⟩ := HC.out _ D1.out
  go_wp2_with fail
  refine Calls.mono (HRa.out _) ?_
  rintro e w2 ⟨rfl, hb⟩
  have D2 : Hid (Below V.heap.size V w2) := below_then D1.out hb
  clear hb c0 c1 c2 d0 d1 d2 HRa
  obtain ⟨c0, c1, c2, d0, d1, d2⟩ := HC.out _ D2.out
  go_wp2_with fail
  refine Calls.mono (HRb.out _) ?_
  rintro e w3 ⟨rfl, hb⟩
  have D3 : Hid (Below V.heap.size V w3) := below_then D2.out hb
  clear hb c0 c1 c2 d0 d1 d2 HRb
  obtain ⟨c0, c1, c2, d0, d1, d2⟩ := HC.out _ D3.out
  by_cases hka : ak = 2
  · have fa : (ak == 2) = true := by simp [hka]
    by_cases hkb : bk = 2
    · have fb : (bk == 2) = true := by simp [hkb]
      have hbin2 : Vl.bin q (VA.v ⟨ak, an, av, ar⟩) (VA.v ⟨bk, bn, bv, br⟩) = .bool (decide (an = 1) && decide (bn = 1)) := hbin.trans (by
        rw [if_pos (by simp [Vl.takes, Vl.isBool, VA.v, hka, hkb])]; rfl)
      have HBIN : Hid (_) := hbin2
      have hna := HNUM2.out.1 hka
      have hnb := HNUM2.out.2 hkb
      clear hka hkb hbin hbin2
      rcases hna with rfl | rfl
      · rcases hnb with rfl | rfl
        · go_wp2_with fail
          refine Calls.mono (rbool_any _ _) ?_
          rintro e w4 ⟨rfl, hb⟩
          have D4 : Hid (Below V.heap.size V w4) := below_then D3.out hb
          clear hb c0 c1 c2 d0 d1 d2
          obtain ⟨zf, d0, d1, d2, Q, hQ, e0, e1, e2, hb3⟩ := rdoor (HN.out _ D4.out).1 (.int .u8 2) (.int .i64 (Vl.one false)) (.slice none 0 0)
          have HQB : Hid (Below w.heap.size w Q) := (HN.out _ D4.out).2.trans (hb3.mono (by omega))
          clear hb3
          go_wp2
          rw [← hQ]
          clear hQ d0 d1 d2 zf
          refine bodyPost_ret (v := .tuple #[vV 2 (Vl.one false) nilV, .int .i64 (0)]) ?_ rfl ⟨by rw [HBIN.out]; rfl, HQB.out⟩
          simp [results, Tryd.results27, go_sem, e0, e1, e2]
        · go_wp2_with fail
          refine Calls.mono (rbool_any _ _) ?_
          rintro e w4 ⟨rfl, hb⟩
          have D4 : Hid (Below V.heap.size V w4) := below_then D3.out hb
          clear hb c0 c1 c2 d0 d1 d2
          obtain ⟨zf, d0, d1, d2, Q, hQ, e0, e1, e2, hb3⟩ := rdoor (HN.out _ D4.out).1 (.int .u8 2) (.int .i64 (Vl.one false)) (.slice none 0 0)
          have HQB : Hid (Below w.heap.size w Q) := (HN.out _ D4.out).2.trans (hb3.mono (by omega))
          clear hb3
          go_wp2
          rw [← hQ]
          clear hQ d0 d1 d2 zf
          refine bodyPost_ret (v := .tuple #[vV 2 (Vl.one false) nilV, .int .i64 (0)]) ?_ rfl ⟨by rw [HBIN.out]; rfl, HQB.out⟩
          simp [results, Tryd.results27, go_sem, e0, e1, e2]
      · rcases hnb with rfl | rfl
        · go_wp2_with fail
          refine Calls.mono (rbool_any _ _) ?_
          rintro e w4 ⟨rfl, hb⟩
          have D4 : Hid (Below V.heap.size V w4) := below_then D3.out hb
          clear hb c0 c1 c2 d0 d1 d2
          obtain ⟨zf, d0, d1, d2, Q, hQ, e0, e1, e2, hb3⟩ := rdoor (HN.out _ D4.out).1 (.int .u8 2) (.int .i64 (Vl.one false)) (.slice none 0 0)
          have HQB : Hid (Below w.heap.size w Q) := (HN.out _ D4.out).2.trans (hb3.mono (by omega))
          clear hb3
          go_wp2
          rw [← hQ]
          clear hQ d0 d1 d2 zf
          refine bodyPost_ret (v := .tuple #[vV 2 (Vl.one false) nilV, .int .i64 (0)]) ?_ rfl ⟨by rw [HBIN.out]; rfl, HQB.out⟩
          simp [results, Tryd.results27, go_sem, e0, e1, e2]
        · go_wp2_with fail
          refine Calls.mono (rbool_any _ _) ?_
          rintro e w4 ⟨rfl, hb⟩
          have D4 : Hid (Below V.heap.size V w4) := below_then D3.out hb
          clear hb c0 c1 c2 d0 d1 d2
          obtain ⟨zf, d0, d1, d2, Q, hQ, e0, e1, e2, hb3⟩ := rdoor (HN.out _ D4.out).1 (.int .u8 2) (.int .i64 (Vl.one true)) (.slice none 0 0)
          have HQB : Hid (Below w.heap.size w Q) := (HN.out _ D4.out).2.trans (hb3.mono (by omega))
          clear hb3
          go_wp2
          rw [← hQ]
          clear hQ d0 d1 d2 zf
          refine bodyPost_ret (v := .tuple #[vV 2 (Vl.one true) nilV, .int .i64 (0)]) ?_ rfl ⟨by rw [HBIN.out]; rfl, HQB.out⟩
          simp [results, Tryd.results27, go_sem, e0, e1, e2]
    · have fb : (bk == 2) = false := by simp [hkb]
      have hbin2 : Vl.bin q (VA.v ⟨ak, an, av, ar⟩) (VA.v ⟨bk, bn, bv, br⟩) = .err 200 := hbin.trans (by rw [if_neg (by simp [Vl.takes, Vl.isBool, VA.v, hkb])])
      have HBIN : Hid (_) := hbin2
      clear hka hkb hbin hbin2
      obtain ⟨zf, d0, d1, d2, Q, hQ, e0, e1, e2, hb3⟩ := rdoor (HN.out _ D3.out).1 (.int .u8 0) (.int .i64 (0)) (.slice none 0 0)
      have HQB : Hid (Below w.heap.size w Q) := (HN.out _ D3.out).2.trans (hb3.mono (by omega))
      clear hb3
      go_wp2
      rw [← hQ]
      clear hQ d0 d1 d2 zf
      refine bodyPost_ret (v := .tuple #[vV 0 (0) nilV, .int .i64 (200)]) ?_ rfl ⟨by rw [HBIN.out]; rfl, HQB.out⟩
      simp [results, Tryd.results27, go_sem, e0, e1, e2]
  · have fa : (ak == 2) = false := by simp [hka]
    have hbin2 : Vl.bin q (VA.v ⟨ak, an, av, ar⟩) (VA.v ⟨bk, bn, bv, br⟩) = .err 200 := hbin.trans (by rw [if_neg (by simp [Vl.takes, Vl.isBool, VA.v, hka])])
    have HBIN : Hid (_) := hbin2
    clear hka hbin hbin2
    obtain ⟨zf, d0, d1, d2, Q, hQ, e0, e1, e2, hb3⟩ := rdoor (HN.out _ D3.out).1 (.int .u8 0) (.int .i64 (0)) (.slice none 0 0)
    have HQB : Hid (Below w.heap.size w Q) := (HN.out _ D3.out).2.trans (hb3.mono (by omega))
    clear hb3
    go_wp2
    rw [← hQ]
    clear hQ d0 d1 d2 zf
    refine bodyPost_ret (v := .tuple #[vV 0 (0) nilV, .int .i64 (200)]) ?_ rfl ⟨by rw [HBIN.out]; rfl, HQB.out⟩
    simp [results, Tryd.results27, go_sem, e0, e1, e2]
end Go.Proofs.YtcnmgebjbaclaaaDoor
