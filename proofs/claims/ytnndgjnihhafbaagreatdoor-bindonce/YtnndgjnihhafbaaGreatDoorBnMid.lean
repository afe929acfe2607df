/-
  Several texts in one, as they are: BnDo, BnPush, BnAfter, BnInner.
-/
import Derived.Test.YtnndgjnihhafbaaGreatDoorBnLow

/-
  The walks of declare, use and add.
-/
namespace Go.Proofs.YtnndgjnihhafbaaGreatDoor
open Go.RowKit Go.Shelf Go.WideMaps
open Bn (Sc Bd St)

attribute [local go_sem] Oper.semAt_some

theorem info_ints : (Tryz.prog.info? 44).map (fun i => (i.zero, i.size, i.bytes)) = some (some (.slice none 0 0), 1, 24) := by kernel_rfl
theorem getD_of {bx : List Nat} {k b : Nat} (h : bx[k]? = some b) : bx.getD k 0 = b := by rw [List.getD_eq_getElem?_getD, h]; rfl
set_option maxRecDepth 100000 in
set_option maxHeartbeats 2000000 in
theorem declare_any {A : Ad} {M : Nat → Prop} {bx : List Nat} {x : Nat × Nat} {c : List (Nat × Nat)} {s : St} {sc : Sc} {r : List Sc} {p : List Nat} {i : Nat} {w : World} {pv mv sv : Value} {k b : Nat} {d : Bd} (h : BAt A M bx (x :: c) s p i w pv mv sv) (hs : s.own = sc :: r) (hb : bx[k]? = some b) (hd : s.bds[k]? = some d) (hl : sc.length ≤ 1000000000) :
    Calls Tryz.prog 104 #[ptrV x.1, ptrV b] w fun e w' => e = .returned (.tuple #[]) ∧ BAt A M bx (x :: c) { s with own := ((d.name, k) :: sc) :: r } p i w' pv mv sv ∧ Foot M M w w' := by
  obtain ⟨sb, -, hch⟩ := h.chain
  rw [hs] at hch
  obtain ⟨-, -, h3, h4, u, h5, -⟩ := hch
  obtain ⟨pv0, uv, rows, hbox, -, hn, -⟩ := h.bds.each k b d hb hd
  have hkl := (List.getElem?_eq_some_iff.1 hb).1
  have hD : MapAt bx w.drew x.2 sc := h4.go rfl
  obtain ⟨w', hup, hm', hg⟩ := hD.put d.name hn k hkl hl
  rw [getD_of hb] at hup
  have hg0 : w.grownBy w' (some x.2) := ⟨hg.os, hg.tape, hg.output, hg.size, fun j hj hn => hg.block j hj hn⟩
  have HF : Hid (BAt A M bx (x :: c) { s with own := ((d.name, k) :: sc) :: r } p i w' pv mv sv ∧ Foot M M w w') := ⟨h.declare hs hm' hg0, Foot.of_grown hg0 h3 (fun _ e => .inl e)⟩
  have c0 : w.cell? ⟨x.1, 1, none⟩ = some (.map (some x.2)) := cells_at h5 rfl
  have c1 : w.cell? ⟨b, 1, none⟩ = some (.string (Ln.bs d.name)) := cells_at hbox rfl
  obtain ⟨sx, hsx⟩ : ∃ b, b = x.1 := ⟨_, rfl⟩
  obtain ⟨mx, hmx⟩ : ∃ b, b = x.2 := ⟨_, rfl⟩
  obtain ⟨N, hN⟩ : ∃ N, N = Ln.bs d.name := ⟨_, rfl⟩
  rw [← hsx] at c0 ⊢
  rw [← hmx] at c0 hup
  rw [← hN] at c1 hup
  clear h hs hb hd h3 h4 h5 hbox hn hkl hD hm' hg hg0 hl hsx hmx hN
  go_enter Tryz.func104, Tryz.ntmps104
  go_wp2
  go_region
  all_goals go_wp2
  go_end0
  exact ⟨rfl, HF.out⟩

set_option maxRecDepth 100000 in
set_option maxHeartbeats 4000000 in
theorem use_any {A : Ad} {M : Nat → Prop} {bx : List Nat} {ch : List (Nat × Nat)} {s : St} {p : List Nat} {i : Nat} {w : World} {pv mv sv : Value} {k b : Nat} {d : Bd} (h : BAt A M bx ch s p i w pv mv sv) (hb : bx[k]? = some b) (hd : s.bds[k]? = some d) (hpl : p.length ≤ 1000000) (hul : d.uses.length ≤ 1000000000) :
    Calls Tryz.prog 105 #[ptrV A.wb, ptrV b] w fun e w' => e = .returned (.tuple #[]) ∧ ∃ M', BAt A M' bx ch (s.use k p) p i w' pv mv sv ∧ Foot M M' w w' := by
  obtain ⟨i0, hi0, hz0, hz1, hz2⟩ := info_parts info_ints
  obtain ⟨pv0, uv, rows, hbox, h2, h3, h4, h5, h6, h7⟩ := h.bds.each k b d hb hd
  obtain ⟨ua, uc, rfl⟩ := slice_shape h5
  have HH : Hid (BAt A M bx ch s p i w pv mv sv ∧ bx[k]? = some b ∧ s.bds[k]? = some d) := ⟨h, hb, hd⟩
  have HB : Hid (w.heap[b]? = some (.cells #[pv0, .string (Ln.bs d.name), .slice ua d.uses.length uc, .int .i64 d.params] 133 (0, 0)) ∧ M b ∧ d.name.length ≤ 1000000 ∧ CRow A.n M w pv0 d.path ∧ w.ownsRow A.n 44 1 (.slice ua d.uses.length uc) d.uses.length rows ∧ (∀ g, (Value.slice ua d.uses.length uc).ownBlock = some g → M g) ∧ ∀ (j : Nat) (v : Value) (u : List Nat), rows[j]? = some v → d.uses[j]? = some u → CRow A.n M w v u) := ⟨hbox, h2, h3, h4, h5, h6, h7⟩
  have HCF : Hid (∀ z, Below w.heap.size w z → z.cell? ⟨b, 2, none⟩ = some (.slice ua d.uses.length uc) ∧ z.cell? ⟨A.wb, 1, none⟩ = some pv) := fun z hz => by
    have y1 := (hz.block _ (Array.getElem?_eq_some_iff.1 hbox).1).trans hbox
    have y2 := (hz.block _ (Array.getElem?_eq_some_iff.1 h.walk.1).1).trans h.walk.1
    exact ⟨cells_at y1 rfl, cells_at y2 rfl⟩
  have HP : Hid (w.ownsRow A.n 3 1 pv p.length (p.map numV)) := h.path.1
  have HPL : Hid (p.length ≤ 1000000) := hpl
  have HD0 : Hid (Below w.heap.size w w.drew) := below_draw w 1
  obtain ⟨N, hN⟩ : ∃ N, N = d.uses.length := ⟨_, rfl⟩
  have HN : Hid (N = d.uses.length) := hN
  rw [← hN] at HB HCF hul
  clear h hb hd hbox h2 h3 h4 h5 h6 h7 hpl hN
  refine (callsIn_wide (n := 3)).1 ?_
  refine callsIn_of_wp Tryz.func105 rfl trivial ?_ rfl
  simp only [Tryz.ntmps105, List.size_toArray, List.length_cons, List.length_nil, Nat.reduceAdd, Nat.reduceSub, Array.replicate_succ, Array.replicate_zero, List.push_toArray, List.append_toArray, List.nil_append, List.cons_append]
  gi_wp2
  have HCC : Hid (∀ z, Below w.heap.size w z → z.cell? ⟨A.wb, 1, none⟩ = some pv) := fun z hz => (HCF.out z hz).2
  have HUC : Hid (∀ z, Below w.heap.size w z → z.cell? ⟨b, 2, none⟩ = some (.slice ua N uc)) := fun z hz => (HCF.out z hz).1
  clear HCF
  have HCF : Hid (∀ z : World, z.cell? ⟨A.wb, 1, none⟩ = some pv → z.cell? ⟨A.wb, 1, none⟩ = some pv) := fun _ h => h
  refine region_lex (fun z => z.cell? ⟨A.wb, 1, none⟩ = some pv) 5 12 rfl (by kernel_rfl) (by kernel_rfl) (by kernel_rfl) (by kernel_rfl) (fun _ _ d _ _ h => by cases d <;> exact h) (HCC.out _ HD0.out) ?_
  simp only [List.take_succ_cons, List.take_zero]
  iterate 5 (first
    | (apply lexC_want
       · rfl
       · exact fun _ => rfl
       · (intro w' hw'; obtain f1 := HCF.out w' hw'; go_simp; try rfl)
       simp only [Act.put, List.setIfInBounds_toArray, List.set_cons_zero, List.set_cons_succ])
    | (apply lexC_skip
       · rfl
       · exact fun _ => rfl
       simp only [Act.put, List.setIfInBounds_toArray, List.set_cons_zero, List.set_cons_succ]))
  refine lexC_nil ?_
  refine anyC_take (i := 6) (v := ptrV A.wb) rfl rfl (by kernel_rfl) (by kernel_rfl) (by kernel_rfl) (fun _ _ d _ _ h => by cases d <;> exact h) (HCC.out _ HD0.out) (by rfl) (fun _ => rfl) (by intro w' hw'; obtain f1 := HCF.out w' hw'; go_simp; try rfl) ?_
  simp only [Act.put, List.setIfInBounds_toArray, List.set_cons_zero, List.set_cons_succ, List.getElem_toArray, List.getElem_cons_zero, List.getElem_cons_succ]
  refine anyC_take (i := 7) (v := ptrV A.wb) rfl rfl (by kernel_rfl) (by kernel_rfl) (by kernel_rfl) (fun _ _ d _ _ h => by cases d <;> exact h) (HCC.out _ HD0.out) (by rfl) (fun _ => rfl) (by intro w' hw'; obtain f1 := HCF.out w' hw'; go_simp; try rfl) ?_
  simp only [Act.put, List.setIfInBounds_toArray, List.set_cons_zero, List.set_cons_succ, List.getElem_toArray, List.getElem_cons_zero, List.getElem_cons_succ]
  refine anyC_take (i := 8) (v := .pointer (some ⟨A.wb, 1, none⟩)) rfl rfl (by kernel_rfl) (by kernel_rfl) (by kernel_rfl) (fun _ _ d _ _ h => by cases d <;> exact h) (HCC.out _ HD0.out) (by rfl) (fun _ => rfl) (by intro w' hw'; obtain f1 := HCF.out w' hw'; go_simp; try rfl) ?_
  simp only [Act.put, List.setIfInBounds_toArray, List.set_cons_zero, List.set_cons_succ, List.getElem_toArray, List.getElem_cons_zero, List.getElem_cons_succ]
  refine anyC_take (i := 9) (v := pv) rfl rfl (by kernel_rfl) (by kernel_rfl) (by kernel_rfl) (fun _ _ d _ _ h => by cases d <;> exact h) (HCC.out _ HD0.out) (by rfl) (fun _ => rfl) (by intro w' hw'; obtain f1 := HCF.out w' hw'; go_simp; try rfl) ?_
  simp only [Act.put, List.setIfInBounds_toArray, List.set_cons_zero, List.set_cons_succ, List.getElem_toArray, List.getElem_cons_zero, List.getElem_cons_succ]
  refine anyC_two (i := 5) (j := 10) (by kernel_rfl) rfl rfl (by rfl) (by rfl) (fun K1 hK1 => ?_) (fun K1 hK1 => ?_)
  · skip
    have u0 := HUC.out _ HD0.out
    go_simp
    refine hK1 _ _ (HCC.out _ HD0.out) ?_
    clear hK1
    clear u0
    refine anyC_one (i := 10) (by kernel_rfl) rfl (by rfl) (fun K2 hK2 => ?_)
    go_simp
    refine ⟨trivial, ?_⟩
    refine (callsIn_wide.2 (iclone_any A.n pv p w.drew (owns_below HP.out HD0.out) HPL.out)).mono ?_
    rintro e w1 ⟨v, rfl, ho, b1⟩
    have D1 : Below w.heap.size w w1 := (HD0.out).trans (b1.mono (HD0.out).size)
    obtain ⟨va, vc, hv⟩ := slice_shape ho
    obtain ⟨PN, hPN⟩ : ∃ N, N = p.length := ⟨_, rfl⟩
    rw [← hPN] at hv
    subst hv
    have HV : Hid (w1.ownsRow w.heap.size 3 1 (.slice va PN vc) p.length (p.map numV)) := ⟨ho.1, ho.2.imp id (fun ⟨g, cap, cur, a1, a2, a3⟩ => ⟨g, cap, cur, a1, Nat.le_trans (HD0.out).size a2, a3⟩)⟩
    clear hPN ho b1
    refine hK2 _ _ (HCC.out _ D1) ?_
    clear hK2
    obtain ⟨Y, hY⟩ : ∃ Y, Y = w1.alloc (.cells #[.slice va PN vc] 44) := ⟨_, rfl⟩
    have bY : Below w1.heap.size w1 Y := hY ▸ below_new w1 _
    have DY : Below w.heap.size w Y := below_then D1 bY
    have hc0 : ∀ (j : Nat) (u : Value), [Value.slice va PN vc][j]? = some u → Y.cell? ((⟨w1.heap.size, 0, none⟩ : Addr).add j) = some u := by rw [hY]; exact cells_new w1 [.slice va PN vc] 44
    have HBY : Hid (BAt A M bx ch s p i Y pv mv sv) := HH.out.1.below DY
    have huY : Y.ownsRow A.n 44 1 (.slice ua N uc) N rows := owns_below HB.out.2.2.2.2.1 DY
    have hlow : A.n ≤ Y.heap.size := HBY.out.low
    obtain ⟨uv', Z, hrun, hown, hgr, -, hat⟩ := run_append_own_at (P := Tryz.prog) Y A.n 41 41 44 i0 (.slice none 0 0) 1 24 Tryz.underlying41 hi0 hz0 hz1 hz2 rfl (by decide) (.slice ua N uc) N rows huY ⟨w1.heap.size, 0, none⟩ 1 1 [.slice va PN vc] rfl hc0 (by simp [Value.oneCell']) (by unfold maxLen; omega) (by omega) hlow
    obtain ⟨ua', uc', hu'⟩ := slice_shape hown
    subst hu'
    have hboxY : Y.heap[b]? = some (.cells #[pv0, .string (Ln.bs d.name), .slice ua N uc, .int .i64 d.params] 133 (0, 0)) := (DY.block b (Array.getElem?_eq_some_iff.1 HB.out.1).1).trans HB.out.1
    have hM9 : ∀ k, k < w.heap.size → (M k ↔ M k) := fun _ _ => Iff.rfl
    have hkY : ∀ k, k < w.heap.size → ¬ M k → Y.heap[k]? = w.heap[k]? := fun k hl _ => DY.block k hl
    have hvY : CRow A.n M Y (.slice va PN vc) p := ⟨by have h9 := owns_below HV.out bY; exact ⟨h9.1, h9.2.imp id (fun ⟨g, cap, cur, a1, a2, a3⟩ => ⟨g, cap, cur, a1, Nat.le_trans HH.out.1.low a2, a3⟩)⟩, fun g hg hMg => by have h8 := (HV.out.lt g hg).1; have := (HH.out.1.lt g hMg).2; omega⟩
    obtain ⟨Z3, hZ3⟩ : ∃ Z3, Z3 = Z.setCell ⟨b, 2, none⟩ (.slice ua' (N + 1) uc') := ⟨_, rfl⟩
    have huse := HBY.out.useAt (q := p) HH.out.2.1 HH.out.2.2 hboxY HB.out.2.1 HB.out.2.2.1 (HB.out.2.2.2.1.go hkY hM9) (by rw [← HN.out]; exact huY) HB.out.2.2.2.2.2.1 (fun j v u e1 e2 => (HB.out.2.2.2.2.2.2 j v u e1 e2).go hkY hM9) (by rw [← HN.out]; exact hown) hgr hat hvY hZ3
    have HF : Hid (BAt A _ bx ch (s.use k p) p i Z3 pv mv sv ∧ Foot M _ w Z3) := ⟨huse.1, (Foot.of_below DY).trans huse.2⟩
    have cwZ3 : Z3.cell? ⟨A.wb, 1, none⟩ = some pv := cells_at huse.1.walk.1 rfl
    have hwY := HBY.out.walk.1
    have hneU : (Value.slice ua N uc).ownBlock ≠ some A.wb := fun e => by
      obtain ⟨cs, e2⟩ := owns_ty huY A.wb e
      rw [hwY] at e2
      injection e2 with e2
      injection e2 with _ e2 _
      exact absurd e2 (by decide)
    have cwZ : Z.cell? ⟨A.wb, 1, none⟩ = some pv := cells_at ((hgr.block A.wb (Array.getElem?_eq_some_iff.1 hwY).1 (fun e => hneU e.symm)).trans hwY) rfl
    have hneB : (Value.slice ua N uc).ownBlock ≠ some b := fun e => by
      obtain ⟨cs, e2⟩ := owns_ty huY b e
      rw [hboxY] at e2
      injection e2 with e2
      injection e2 with _ e2 _
      exact absurd e2 (by decide)
    have hboxZ := (hgr.block b (Array.getElem?_eq_some_iff.1 hboxY).1 (fun e => hneB e.symm)).trans hboxY
    have b2 : Z.cell? ⟨b, 2, none⟩ = some (.slice ua N uc) := cells_at hboxZ rfl
    have bf : Z.frozen? ⟨b, 2, none⟩ = false := frozen_of_row Z b 2 _ _ hboxZ
    clear huse hwY hneU hneB hboxZ hboxY hkY hM9 hvY huY hlow hown hgr hat
    refine anyC_one (i := 11) (by kernel_rfl) rfl (by rfl) (fun K3 hK3 => ?_)
    go_simp
    rw [← hY]
    refine hK3 _ _ (HCC.out _ DY) ?_
    clear hK3
    refine anyC_one (i := 12) (by kernel_rfl) rfl (by rfl) (fun K3 hK3 => ?_)
    refine op_append _ _ 41 rfl _ _ _ _ rfl rfl hrun ?_
    refine hK3 _ _ cwZ ?_
    clear hK3 hrun hc0 hY bY
    refine anyC_more 13 3 1 4 rfl (by kernel_rfl) rfl (by decide) (by kernel_rfl) (fun _ _ d _ _ h => by cases d <;> exact h) cwZ ?_
    simp only [List.drop_succ_cons, List.drop_zero, List.take_succ_cons, List.take_zero]
    iterate 3 (first
      | (apply lexC_want
         · rfl
         · exact fun _ => rfl
         · (intro w' hw'; obtain f1 := HCF.out w' hw'; go_simp; try rfl)
         simp only [Act.put, List.setIfInBounds_toArray])
      | (apply lexC_skip
         · rfl
         · exact fun _ => rfl
         simp only [Act.put, List.setIfInBounds_toArray]))
    refine lexC_nil ?_
    refine anyC_one (i := 16) (by kernel_rfl) rfl (by rfl) (fun K4 hK4 => ?_)
    go_simp
    rw [← hZ3]
    refine hK4 _ _ cwZ3 ?_
    clear hK4 hZ3 b2 bf
    refine anyC_done (by kernel_rfl) ?_
    gi_wp2
    go_end0
    exact ⟨rfl, _, HF.out⟩
  · skip
    go_simp
    refine ⟨trivial, ?_⟩
    refine (callsIn_wide.2 (iclone_any A.n pv p w.drew (owns_below HP.out HD0.out) HPL.out)).mono ?_
    rintro e w1 ⟨v, rfl, ho, b1⟩
    have D1 : Below w.heap.size w w1 := (HD0.out).trans (b1.mono (HD0.out).size)
    obtain ⟨va, vc, hv⟩ := slice_shape ho
    obtain ⟨PN, hPN⟩ : ∃ N, N = p.length := ⟨_, rfl⟩
    rw [← hPN] at hv
    subst hv
    have HV : Hid (w1.ownsRow w.heap.size 3 1 (.slice va PN vc) p.length (p.map numV)) := ⟨ho.1, ho.2.imp id (fun ⟨g, cap, cur, a1, a2, a3⟩ => ⟨g, cap, cur, a1, Nat.le_trans (HD0.out).size a2, a3⟩)⟩
    clear hPN ho b1
    refine hK1 _ _ (HCC.out _ D1) ?_
    clear hK1
    obtain ⟨Y, hY⟩ : ∃ Y, Y = w1.alloc (.cells #[.slice va PN vc] 44) := ⟨_, rfl⟩
    have bY : Below w1.heap.size w1 Y := hY ▸ below_new w1 _
    have DY : Below w.heap.size w Y := below_then D1 bY
    have hc0 : ∀ (j : Nat) (u : Value), [Value.slice va PN vc][j]? = some u → Y.cell? ((⟨w1.heap.size, 0, none⟩ : Addr).add j) = some u := by rw [hY]; exact cells_new w1 [.slice va PN vc] 44
    have HBY : Hid (BAt A M bx ch s p i Y pv mv sv) := HH.out.1.below DY
    have huY : Y.ownsRow A.n 44 1 (.slice ua N uc) N rows := owns_below HB.out.2.2.2.2.1 DY
    have hlow : A.n ≤ Y.heap.size := HBY.out.low
    obtain ⟨uv', Z, hrun, hown, hgr, -, hat⟩ := run_append_own_at (P := Tryz.prog) Y A.n 41 41 44 i0 (.slice none 0 0) 1 24 Tryz.underlying41 hi0 hz0 hz1 hz2 rfl (by decide) (.slice ua N uc) N rows huY ⟨w1.heap.size, 0, none⟩ 1 1 [.slice va PN vc] rfl hc0 (by simp [Value.oneCell']) (by unfold maxLen; omega) (by omega) hlow
    obtain ⟨ua', uc', hu'⟩ := slice_shape hown
    subst hu'
    have hboxY : Y.heap[b]? = some (.cells #[pv0, .string (Ln.bs d.name), .slice ua N uc, .int .i64 d.params] 133 (0, 0)) := (DY.block b (Array.getElem?_eq_some_iff.1 HB.out.1).1).trans HB.out.1
    have hM9 : ∀ k, k < w.heap.size → (M k ↔ M k) := fun _ _ => Iff.rfl
    have hkY : ∀ k, k < w.heap.size → ¬ M k → Y.heap[k]? = w.heap[k]? := fun k hl _ => DY.block k hl
    have hvY : CRow A.n M Y (.slice va PN vc) p := ⟨by have h9 := owns_below HV.out bY; exact ⟨h9.1, h9.2.imp id (fun ⟨g, cap, cur, a1, a2, a3⟩ => ⟨g, cap, cur, a1, Nat.le_trans HH.out.1.low a2, a3⟩)⟩, fun g hg hMg => by have h8 := (HV.out.lt g hg).1; have := (HH.out.1.lt g hMg).2; omega⟩
    obtain ⟨Z3, hZ3⟩ : ∃ Z3, Z3 = Z.setCell ⟨b, 2, none⟩ (.slice ua' (N + 1) uc') := ⟨_, rfl⟩
    have huse := HBY.out.useAt (q := p) HH.out.2.1 HH.out.2.2 hboxY HB.out.2.1 HB.out.2.2.1 (HB.out.2.2.2.1.go hkY hM9) (by rw [← HN.out]; exact huY) HB.out.2.2.2.2.2.1 (fun j v u e1 e2 => (HB.out.2.2.2.2.2.2 j v u e1 e2).go hkY hM9) (by rw [← HN.out]; exact hown) hgr hat hvY hZ3
    have HF : Hid (BAt A _ bx ch (s.use k p) p i Z3 pv mv sv ∧ Foot M _ w Z3) := ⟨huse.1, (Foot.of_below DY).trans huse.2⟩
    have cwZ3 : Z3.cell? ⟨A.wb, 1, none⟩ = some pv := cells_at huse.1.walk.1 rfl
    have hwY := HBY.out.walk.1
    have hneU : (Value.slice ua N uc).ownBlock ≠ some A.wb := fun e => by
      obtain ⟨cs, e2⟩ := owns_ty huY A.wb e
      rw [hwY] at e2
      injection e2 with e2
      injection e2 with _ e2 _
      exact absurd e2 (by decide)
    have cwZ : Z.cell? ⟨A.wb, 1, none⟩ = some pv := cells_at ((hgr.block A.wb (Array.getElem?_eq_some_iff.1 hwY).1 (fun e => hneU e.symm)).trans hwY) rfl
    have hneB : (Value.slice ua N uc).ownBlock ≠ some b := fun e => by
      obtain ⟨cs, e2⟩ := owns_ty huY b e
      rw [hboxY] at e2
      injection e2 with e2
      injection e2 with _ e2 _
      exact absurd e2 (by decide)
    have hboxZ := (hgr.block b (Array.getElem?_eq_some_iff.1 hboxY).1 (fun e => hneB e.symm)).trans hboxY
    have b2 : Z.cell? ⟨b, 2, none⟩ = some (.slice ua N uc) := cells_at hboxZ rfl
    have bf : Z.frozen? ⟨b, 2, none⟩ = false := frozen_of_row Z b 2 _ _ hboxZ
    clear huse hwY hneU hneB hboxZ hboxY hkY hM9 hvY huY hlow hown hgr hat
    refine anyC_two (i := 5) (j := 11) (by kernel_rfl) rfl rfl (by rfl) (by rfl) (fun K5 hK5 => ?_) (fun K5 hK5 => ?_)
    · skip
      have u0 := HUC.out _ D1
      go_simp
      refine hK5 _ _ (HCC.out _ D1) ?_
      clear hK5
      clear u0
      refine anyC_one (i := 11) (by kernel_rfl) rfl (by rfl) (fun K6 hK6 => ?_)
      go_simp
      rw [← hY]
      refine hK6 _ _ (HCC.out _ DY) ?_
      clear hK6
      refine anyC_one (i := 12) (by kernel_rfl) rfl (by rfl) (fun K3 hK3 => ?_)
      refine op_append _ _ 41 rfl _ _ _ _ rfl rfl hrun ?_
      refine hK3 _ _ cwZ ?_
      clear hK3 hrun hc0 hY bY
      refine anyC_more 13 3 1 4 rfl (by kernel_rfl) rfl (by decide) (by kernel_rfl) (fun _ _ d _ _ h => by cases d <;> exact h) cwZ ?_
      simp only [List.drop_succ_cons, List.drop_zero, List.take_succ_cons, List.take_zero]
      iterate 3 (first
        | (apply lexC_want
           · rfl
           · exact fun _ => rfl
           · (intro w' hw'; obtain f1 := HCF.out w' hw'; go_simp; try rfl)
           simp only [Act.put, List.setIfInBounds_toArray])
        | (apply lexC_skip
           · rfl
           · exact fun _ => rfl
           simp only [Act.put, List.setIfInBounds_toArray]))
      refine lexC_nil ?_
      refine anyC_one (i := 16) (by kernel_rfl) rfl (by rfl) (fun K7 hK7 => ?_)
      go_simp
      rw [← hZ3]
      refine hK7 _ _ cwZ3 ?_
      clear hK7 hZ3 b2 bf
      refine anyC_done (by kernel_rfl) ?_
      gi_wp2
      go_end0
      exact ⟨rfl, _, HF.out⟩
    · skip
      go_simp
      rw [← hY]
      refine hK5 _ _ (HCC.out _ DY) ?_
      clear hK5
      clear hY bY
      have u0 := HUC.out _ DY
      refine anyC_one (i := 5) (by kernel_rfl) rfl (by rfl) (fun K8 hK8 => ?_)
      go_simp
      refine hK8 _ _ (HCC.out _ DY) ?_
      clear hK8
      clear u0
      refine anyC_one (i := 12) (by kernel_rfl) rfl (by rfl) (fun K3 hK3 => ?_)
      refine op_append _ _ 41 rfl _ _ _ _ rfl rfl hrun ?_
      refine hK3 _ _ cwZ ?_
      clear hK3 hrun hc0 
      refine anyC_more 13 3 1 4 rfl (by kernel_rfl) rfl (by decide) (by kernel_rfl) (fun _ _ d _ _ h => by cases d <;> exact h) cwZ ?_
      simp only [List.drop_succ_cons, List.drop_zero, List.take_succ_cons, List.take_zero]
      iterate 3 (first
        | (apply lexC_want
           · rfl
           · exact fun _ => rfl
           · (intro w' hw'; obtain f1 := HCF.out w' hw'; go_simp; try rfl)
           simp only [Act.put, List.setIfInBounds_toArray])
        | (apply lexC_skip
           · rfl
           · exact fun _ => rfl
           simp only [Act.put, List.setIfInBounds_toArray]))
      refine lexC_nil ?_
      refine anyC_one (i := 16) (by kernel_rfl) rfl (by rfl) (fun K9 hK9 => ?_)
      go_simp
      rw [← hZ3]
      refine hK9 _ _ cwZ3 ?_
      clear hK9 hZ3 b2 bf
      refine anyC_done (by kernel_rfl) ?_
      gi_wp2
      go_end0
      exact ⟨rfl, _, HF.out⟩
end Go.Proofs.YtnndgjnihhafbaaGreatDoor

/-
  A scope is gone into, or left; what is done behind a node's Kids.
-/
namespace Go.Proofs.YtnndgjnihhafbaaGreatDoor
open Go.RowKit Go.Shelf Go.WideMaps
open Bn (Sc Bd St)

/-- A walk, whatever its rows are. -/
def BW (A : Ad) (M : Nat → Prop) (bx : List Nat) (ch : List (Nat × Nat)) (s : St) (p : List Nat) (i : Nat) (w : World) : Prop := ∃ pv mv sv, BAt A M bx ch s p i w pv mv sv
theorem BAt.bw {A : Ad} {M : Nat → Prop} {bx : List Nat} {ch : List (Nat × Nat)} {s : St} {p : List Nat} {i : Nat} {w : World} {pv mv sv : Value} (h : BAt A M bx ch s p i w pv mv sv) : BW A M bx ch s p i w := ⟨_, _, _, h⟩
theorem BW.below {A : Ad} {M : Nat → Prop} {bx : List Nat} {ch : List (Nat × Nat)} {s : St} {p : List Nat} {i : Nat} {w w' : World} (h : BW A M bx ch s p i w) (hb : Below w.heap.size w w') : BW A M bx ch s p i w' := by
  obtain ⟨pv, mv, sv, h⟩ := h; exact ⟨pv, mv, sv, h.below hb⟩
/-- A store to the walk's box. -/
theorem BAt.store {A : Ad} {M : Nat → Prop} {bx : List Nat} {ch : List (Nat × Nat)} {s : St} {p : List Nat} {i : Nat} {w : World} {pv mv sv : Value} (_h : BAt A M bx ch s p i w pv mv sv) (j : Nat) (u : Value) :
    w.grownBy (w.setCell ⟨A.wb, j, none⟩ u) (some A.wb) ∧ (∀ k, k < w.heap.size → k ≠ A.wb → (w.setCell ⟨A.wb, j, none⟩ u).heap[k]? = w.heap[k]?) := ⟨grown_set w A.wb j u, fun k hl hne => (grown_set w A.wb j u).block k hl (by simpa using hne)⟩
theorem walk_ne {A : Ad} {M : Nat → Prop} {bx : List Nat} {ch : List (Nat × Nat)} {s : St} {p : List Nat} {i : Nat} {w : World} {pv mv sv : Value} (h : BAt A M bx ch s p i w pv mv sv) {k : Nat} {c : Array Value} {T : TypeId} {fr : Nat × Nat} (hk : w.heap[k]? = some (.cells c T fr)) (hT : T ≠ 86) : k ≠ A.wb := fun e => by
  rw [e, h.walk.1] at hk
  injection hk with hk
  injection hk with _ hk _
  exact hT hk.symm
/-- The number goes on. -/
theorem BAt.number {A : Ad} {M : Nat → Prop} {bx : List Nat} {ch : List (Nat × Nat)} {s : St} {p : List Nat} {i j : Nat} {w : World} {pv mv sv : Value} (h : BAt A M bx ch s p i w pv mv sv) : BAt A M bx ch s p j (w.setCell ⟨A.wb, 2, none⟩ (.int .i64 j)) pv mv sv := by
  obtain ⟨g1, g2⟩ := h.store 2 (.int .i64 j)
  refine h.turn g1 h.walk.1 h.walk.2 (by decide) (by decide) (fun _ _ => Iff.rfl) (fun k hk => Nat.lt_of_lt_of_le (h.lt k hk).2 g1.size) (heap_setCell_same w A.wb 2 _ _ _ h.walk.1) ⟨owns_same h.path.1 (fun g hg => ?_), h.path.2⟩ ⟨owns_same h.met.1 (fun g hg => ?_), h.met.2.1⟩ rfl
  · obtain ⟨c, e⟩ := owns_ty h.path.1 g hg
    exact g2 g (h.path.1.lt g hg).2 (walk_ne h e (by decide))
  · obtain ⟨c, e⟩ := owns_ty h.met.1 g hg
    exact g2 g (h.met.1.lt g hg).2 (walk_ne h e (by decide))
/-- The path is a shorter one of the same row. -/
theorem BAt.pop {A : Ad} {M : Nat → Prop} {bx : List Nat} {ch : List (Nat × Nat)} {s : St} {p : List Nat} {c : Nat} {i : Nat} {w : World} {pa : Option Addr} {n cap : Nat} {mv sv : Value} (h : BAt A M bx ch s (p ++ [c]) i w (.slice pa n cap) mv sv) : n = p.length + 1 ∧ BAt A M bx ch s p i (w.setCell ⟨A.wb, 1, none⟩ (.slice pa p.length cap)) (.slice pa p.length cap) mv sv := by
  obtain ⟨g1, g2⟩ := h.store 1 (.slice pa p.length cap)
  have hp := h.path.1
  have hn : n = p.length + 1 := by
    obtain ⟨a, b, e⟩ := slice_shape hp
    injection e with _ e _
    rw [e]; simp
  have hob : (Value.slice pa n cap).ownBlock = (Value.slice pa p.length cap).ownBlock := by cases pa <;> rfl
  refine ⟨hn, h.turn g1 h.walk.1 h.walk.2 (by decide) (by decide) (fun _ _ => Iff.rfl) (fun k hk => Nat.lt_of_lt_of_le (h.lt k hk).2 g1.size) (heap_setCell_same w A.wb 1 _ _ _ h.walk.1) ⟨owns_same (w := w) ?_ (fun g hg => ?_), fun g hg => h.path.2 g (hob.trans hg)⟩ ⟨owns_same h.met.1 (fun g hg => ?_), h.met.2.1⟩ rfl⟩
  · rcases hp.2 with ⟨e, h0⟩ | ⟨g, cap', cur, e, -⟩
    · simp at h0
    · injection e with e1 e2 e3
      subst e1 e3
      have h9 : w.ownsRow A.n 3 1 (.slice (some ⟨g, 0, none⟩) (p ++ [c]).length cap) (p ++ [c]).length ((p ++ [c]).map numV) := by rw [hn] at hp; simpa using hp
      have := owns_prefix (k := p.length) h9 (by simp)
      simpa [List.take_append_of_le_length] using this
  · obtain ⟨c, e⟩ := owns_ty h.path.1 g (hob.trans hg)
    exact g2 g (Array.getElem?_eq_some_iff.1 e).1 (walk_ne h e (by decide))
  · obtain ⟨c, e⟩ := owns_ty h.met.1 g hg
    exact g2 g (h.met.1.lt g hg).2 (walk_ne h e (by decide))
/-- The path is longer by one: the row has been appended to, the box is stored. -/
theorem BAt.append {A : Ad} {M : Nat → Prop} {bx : List Nat} {ch : List (Nat × Nat)} {s : St} {p : List Nat} {c : Nat} {i : Nat} {w w2 : World} {pv pv' mv sv : Value} (h : BAt A M bx ch s p i w pv mv sv) (hown : w2.ownsRow A.n 3 1 pv' (p.length + 1) (p.map numV ++ [numV c])) (hgr : w.grownBy w2 pv.ownBlock) (hat : pv'.ownBlock = pv.ownBlock ∨ pv'.ownBlock = some w.heap.size) :
    BAt A (fun k => M k ∨ pv'.ownBlock = some k) bx ch s (p ++ [c]) i (w2.setCell ⟨A.wb, 1, none⟩ pv') pv' mv sv ∧ Foot M (fun k => M k ∨ pv'.ownBlock = some k) w (w2.setCell ⟨A.wb, 1, none⟩ pv') := by
  have hwl := (Array.getElem?_eq_some_iff.1 h.walk.1).1
  have hneP : pv.ownBlock ≠ some A.wb := fun e => by
    obtain ⟨cs, e2⟩ := owns_ty h.path.1 A.wb e
    exact walk_ne h e2 (by decide) rfl
  have hwk2 := (hgr.block A.wb hwl (fun e => hneP e.symm)).trans h.walk.1
  have g1 := grown_set w2 A.wb 1 pv'
  have hM : ∀ k, k < w.heap.size → ((M k ∨ pv'.ownBlock = some k) ↔ M k) := fun k hl => ⟨fun e => by
    rcases e with e | e
    · exact e
    · rcases hat with e2 | e2
      · exact h.path.2 k (e2 ▸ e)
      · rw [e2] at e
        have : w.heap.size = k := by simpa using e
        omega, .inl⟩
  have hk : ∀ k, k < w.heap.size → k ≠ A.wb → pv.ownBlock ≠ some k → (w2.setCell ⟨A.wb, 1, none⟩ pv').heap[k]? = w.heap[k]? := fun k hl n1 n2 => (g1.block k (Nat.lt_of_lt_of_le hl hgr.size) (by simpa using n1)).trans (hgr.block k hl (fun e => n2 e.symm))
  have hkM : ∀ k, k < w.heap.size → ¬ M k → (w2.setCell ⟨A.wb, 1, none⟩ pv').heap[k]? = w.heap[k]? := fun k hl hn => hk k hl (fun e => hn (e ▸ h.walk.2)) (fun e => hn (h.path.2 k e))
  have hcell : ∀ (k : Nat) c T, w.heap[k]? = some (.cells c T (0, 0)) → T ≠ 86 → T ≠ 3 → (w2.setCell ⟨A.wb, 1, none⟩ pv').heap[k]? = w.heap[k]? := fun k c T e n1 n2 => hk k (Array.getElem?_eq_some_iff.1 e).1 (walk_ne h e n1) (fun e2 => by
    obtain ⟨cs, e3⟩ := owns_ty h.path.1 k e2
    rw [e] at e3
    injection e3 with e3
    injection e3 with _ e3 _
    exact n2 e3)
  have hmap : ∀ (k : Nat) es cl, w.heap[k]? = some (.map es cl) → (w2.setCell ⟨A.wb, 1, none⟩ pv').heap[k]? = w.heap[k]? := fun k es cl e => hk k (Array.getElem?_eq_some_iff.1 e).1 (fun e2 => by rw [e2, h.walk.1] at e; cases e) (fun e2 => by
    obtain ⟨cs, e3⟩ := owns_ty h.path.1 k e2
    rw [e] at e3; cases e3)
  have hown3 : (w2.setCell ⟨A.wb, 1, none⟩ pv').ownsRow A.n 3 1 pv' (p ++ [c]).length ((p ++ [c]).map numV) := by
    rw [List.length_append, List.map_append]
    refine owns_same hown (fun g hg => g1.block g (hown.lt g hg).2 (fun e => ?_))
    have e : g = A.wb := by simpa using e
    obtain ⟨cs, e2⟩ := owns_ty hown g hg
    rw [e, hwk2] at e2
    injection e2 with e2
    injection e2 with _ e2 _
    exact absurd e2 (by decide)
  obtain ⟨sb, c1, c2⟩ := h.chain
  have hsz : w.heap.size ≤ (w2.setCell ⟨A.wb, 1, none⟩ pv').heap.size := Nat.le_trans hgr.size g1.size
  refine ⟨⟨fun k hk' => ?_, Nat.le_trans h.low hsz, ⟨heap_setCell_same w2 A.wb 1 _ _ _ hwk2, .inl h.walk.2⟩, ⟨hown3, fun g hg => .inr hg⟩, ⟨owns_same h.met.1 (fun g e => by obtain ⟨c, e2⟩ := owns_ty h.met.1 g e; exact hcell g _ _ e2 (by decide) (by decide)), fun g e => .inl (h.met.2.1 g e), h.met.2.2⟩, ⟨(hcell _ _ _ h.file.1 (by decide) (by decide)).trans h.file.1, fun e => h.file.2 ((hM _ (Array.getElem?_eq_some_iff.1 h.file.1).1).1 e)⟩, ⟨h.fns.1.go (by obtain ⟨es, cl, e⟩ := h.fns.1.obj; exact hmap _ es cl e), .inl h.fns.2⟩, ⟨sb, c1, c2.go hkM (fun x hx => by obtain ⟨es, cl, e⟩ := c2.maps x hx; exact hmap _ es cl e) hM⟩, h.maps, h.bds.go hkM (fun k c e => hcell k _ _ e (by decide) (by decide)) (fun k c e => hcell k _ _ e (by decide) (by decide)) hM⟩, ⟨g1.os.trans hgr.os, g1.tape.trans hgr.tape, g1.output.trans hgr.output, hsz, hkM, fun k' hk' => ?_⟩⟩
  · rcases hk' with e | e
    · exact ⟨(h.lt k e).1, Nat.lt_of_lt_of_le (h.lt k e).2 hsz⟩
    · exact hown3.lt k e
  · rcases hk' with e | e
    · exact .inl e
    · rcases hat with e5 | e5
      · exact .inl (h.path.2 k' (e5 ▸ e))
      · rw [e5] at e
        have : w.heap.size = k' := by simpa using e
        exact .inr (by omega)
end Go.Proofs.YtnndgjnihhafbaaGreatDoor

/-
  Scopes gone into and left; what is done behind a node's Kids.
-/
namespace Go.Proofs.YtnndgjnihhafbaaGreatDoor
open Go.RowKit Go.Shelf Go.WideMaps
open Bn (Sc Bd St After)

attribute [local go_sem] Oper.semAt_some

section
variable {A : Ad} {M : Nat → Prop} {bx : List Nat} {ch : List (Nat × Nat)} {s : St} {p : List Nat} {i : Nat} {w : World} {pv mv sv : Value}
/-- A scope is gone into. -/
theorem BAt.push (h : BAt A M bx ch s p i w pv mv sv) : BAt A (fun k => M k ∨ k = w.heap.size) bx ((w.heap.size + 1, w.heap.size) :: ch) { s with own := [] :: s.own } p i ((scopeNew w (.iface 83 sv)).setCell ⟨A.wb, 0, none⟩ (ptrV (w.heap.size + 1))) pv mv (ptrV (w.heap.size + 1)) ∧ Foot M (fun k => M k ∨ k = w.heap.size) w ((scopeNew w (.iface 83 sv)).setCell ⟨A.wb, 0, none⟩ (ptrV (w.heap.size + 1))) := by
  obtain ⟨sb, c1, c2⟩ := h.chain
  subst c1
  have hb := scopeNew_below w (.iface 83 (ptrV sb))
  obtain ⟨hbox, hsize⟩ := scopeNew_box w (.iface 83 (ptrV sb))
  have hmap := scopeNew_map bx w (.iface 83 (ptrV sb))
  have hwl := (Array.getElem?_eq_some_iff.1 h.walk.1).1
  obtain ⟨Y, hY⟩ : ∃ Y, Y = scopeNew w (.iface 83 (ptrV sb)) := ⟨_, rfl⟩
  rw [← hY] at hb hbox hsize hmap ⊢
  have g1 := grown_set Y A.wb 0 (ptrV (w.heap.size + 1))
  obtain ⟨Z, hZ⟩ : ∃ Z, Z = Y.setCell ⟨A.wb, 0, none⟩ (ptrV (w.heap.size + 1)) := ⟨_, rfl⟩
  rw [← hZ] at g1 ⊢
  have hk : ∀ k, k < w.heap.size → k ≠ A.wb → Z.heap[k]? = w.heap[k]? := fun k hl hne => (g1.block k (by omega) (by simpa using hne)).trans (hb.block k hl)
  have hkM : ∀ k, k < w.heap.size → ¬ M k → Z.heap[k]? = w.heap[k]? := fun k hl hn => hk k hl (fun e => hn (e ▸ h.walk.2))
  have hcell : ∀ (k : Nat) c T, w.heap[k]? = some (.cells c T (0, 0)) → T ≠ 86 → Z.heap[k]? = w.heap[k]? := fun k c T e hT => hk k (Array.getElem?_eq_some_iff.1 e).1 (walk_ne h e hT)
  have hmp : ∀ (k : Nat) es cl, w.heap[k]? = some (.map es cl) → Z.heap[k]? = w.heap[k]? := fun k es cl e => hk k (Array.getElem?_eq_some_iff.1 e).1 (fun e2 => by rw [e2, h.walk.1] at e; cases e)
  have hM : ∀ k, k < w.heap.size → ((M k ∨ k = w.heap.size) ↔ M k) := fun k hl => ⟨fun e => e.elim id (fun e => by omega), .inl⟩
  have hsz : w.heap.size ≤ Z.heap.size := by have := g1.size; omega
  have hfl := (Array.getElem?_eq_some_iff.1 h.file.1).1
  have hmlt : ∀ x ∈ ch, x.2 < w.heap.size := fun x hx => by
    obtain ⟨es, cl, e⟩ := c2.maps x hx
    exact (Array.getElem?_eq_some_iff.1 e).1
  refine ⟨⟨fun k hk' => ?_, Nat.le_trans h.low hsz, ⟨by rw [hZ]; exact heap_setCell_same Y A.wb 0 _ _ _ ((hb.block _ hwl).trans h.walk.1), .inl h.walk.2⟩, ⟨owns_same h.path.1 (fun g e => by obtain ⟨c, e2⟩ := owns_ty h.path.1 g e; exact hcell g _ _ e2 (by decide)), fun g e => .inl (h.path.2 g e)⟩, ⟨owns_same h.met.1 (fun g e => by obtain ⟨c, e2⟩ := owns_ty h.met.1 g e; exact hcell g _ _ e2 (by decide)), fun g e => .inl (h.met.2.1 g e), h.met.2.2⟩, ⟨(hcell _ _ _ h.file.1 (by decide)).trans h.file.1, fun e => h.file.2 ((hM _ hfl).1 e)⟩, ⟨h.fns.1.go (by obtain ⟨es, cl, e⟩ := h.fns.1.obj; exact hmp _ es cl e), .inl h.fns.2⟩, ⟨w.heap.size + 1, rfl, rfl, fun e => ?_, .inr rfl, hmap.go (g1.block _ (by omega) (by simp; omega)), _, (g1.block _ (by omega) (by simp; omega)).trans hbox, c2.go hkM (fun x hx => by obtain ⟨es, cl, e⟩ := c2.maps x hx; exact hmp _ es cl e) hM⟩, ?_, h.bds.go hkM (fun k c e => hcell k _ _ e (by decide)) (fun k c e => hcell k _ _ e (by decide)) hM⟩, ⟨g1.os.trans hb.os, g1.tape.trans hb.tape, g1.output.trans hb.output, hsz, hkM, fun k' hk' => hk'.imp id (fun e => by omega)⟩⟩
  · rcases hk' with e | e
    · exact ⟨(h.lt k e).1, Nat.lt_of_lt_of_le (h.lt k e).2 hsz⟩
    · exact ⟨by have := h.low; omega, by have := g1.size; omega⟩
  · rcases e with e | e
    · have := (h.lt _ e).2; omega
    · simp only at e; omega
  · have h5 := h.maps
    have hfm := h.fns.1.lt
    simp only [List.map_cons, List.nodup_cons, List.mem_cons, List.mem_map, not_or, not_exists, not_and] at h5 ⊢
    refine ⟨⟨by omega, h5.1⟩, fun x hx e => ?_, h5.2⟩
    have := hmlt x hx
    omega
/-- A scope is left. -/
theorem BAt.leave {x y : Nat × Nat} {r : List (Nat × Nat)} (h : BAt A M bx (x :: y :: r) s p i w pv mv sv) : BAt A M bx (y :: r) { s with own := s.own.tail } p i (w.setCell ⟨A.wb, 0, none⟩ (ptrV y.1)) pv mv (ptrV y.1) ∧ Foot M M w (w.setCell ⟨A.wb, 0, none⟩ (ptrV y.1)) := by
  obtain ⟨sb, c1, c2⟩ := h.chain
  obtain ⟨g1, hk⟩ := h.store 0 (ptrV y.1)
  obtain ⟨Z, hZ⟩ : ∃ Z, Z = w.setCell ⟨A.wb, 0, none⟩ (ptrV y.1) := ⟨_, rfl⟩
  rw [← hZ] at g1 hk ⊢
  have hkM : ∀ k, k < w.heap.size → ¬ M k → Z.heap[k]? = w.heap[k]? := fun k hl hn => hk k hl (fun e => hn (e ▸ h.walk.2))
  have hcell : ∀ (k : Nat) c T, w.heap[k]? = some (.cells c T (0, 0)) → T ≠ 86 → Z.heap[k]? = w.heap[k]? := fun k c T e hT => hk k (Array.getElem?_eq_some_iff.1 e).1 (walk_ne h e hT)
  have hmp : ∀ (k : Nat) es cl, w.heap[k]? = some (.map es cl) → Z.heap[k]? = w.heap[k]? := fun k es cl e => hk k (Array.getElem?_eq_some_iff.1 e).1 (fun e2 => by rw [e2, h.walk.1] at e; cases e)
  cases hown : s.own with
  | nil => rw [hown] at c2; exact c2.elim
  | cons sc rr =>
    rw [hown] at c2
    obtain ⟨d1, d2, d3, d4, u, d5, d6⟩ := c2
    cases rr with
    | nil => exact d6.elim
    | cons sc2 r2 =>
      obtain rfl := d6.1
      refine ⟨⟨fun k hk' => ⟨(h.lt k hk').1, Nat.lt_of_lt_of_le (h.lt k hk').2 g1.size⟩, Nat.le_trans h.low g1.size, ⟨by rw [hZ]; exact heap_setCell_same w A.wb 0 _ _ _ h.walk.1, h.walk.2⟩, ⟨owns_same h.path.1 (fun g e => by obtain ⟨c, e2⟩ := owns_ty h.path.1 g e; exact hcell g _ _ e2 (by decide)), h.path.2⟩, ⟨owns_same h.met.1 (fun g e => by obtain ⟨c, e2⟩ := owns_ty h.met.1 g e; exact hcell g _ _ e2 (by decide)), h.met.2⟩, ⟨(hcell _ _ _ h.file.1 (by decide)).trans h.file.1, h.file.2⟩, ⟨h.fns.1.go (by obtain ⟨es, cl, e⟩ := h.fns.1.obj; exact hmp _ es cl e), h.fns.2⟩, ⟨y.1, rfl, d6.go hkM (fun x hx => by obtain ⟨es, cl, e⟩ := d6.maps x hx; exact hmp _ es cl e) (fun _ _ => Iff.rfl)⟩, ?_, h.bds.go hkM (fun k c e => hcell k _ _ e (by decide)) (fun k c e => hcell k _ _ e (by decide)) (fun _ _ => Iff.rfl)⟩, Foot.of_grown g1 h.walk.2 (fun _ e => .inl e)⟩
      have h5 := h.maps
      simp only [List.map_cons, List.nodup_cons, List.mem_cons, not_or] at h5 ⊢
      exact ⟨⟨h5.1.2.1, h5.1.2.2⟩, h5.2.2.1, h5.2.2.2⟩
end
/-- What is to be done behind a node's Kids, as a function's value. -/
def AfterAt (A : Ad) (bx : List Nat) (M : Nat → Prop) (a : After) (fv : Value) (ch1 ch : List (Nat × Nat)) (w : World) : Prop :=
  match a with
  | .nothing => fv = .func (.func 63) #[] #[] ∧ ch1 = ch
  | .out => ∃ c1 c2 x y r, fv = .func (.func 144) #[] #[ptrV c1, ptrV c2] ∧ w.heap[c1]? = some (.cells #[ptrV (y : Nat × Nat).1] 83 (0, 0)) ∧ w.heap[c2]? = some (.cells #[ptrV A.wb] 82 (0, 0)) ∧ ¬ M c1 ∧ ¬ M c2 ∧ ch1 = x :: ch ∧ ch = y :: r
  | .declare k => ∃ c1 c2 b, fv = .func (.func 103) #[] #[ptrV c1, ptrV c2] ∧ w.heap[c1]? = some (.cells #[ptrV A.wb] 82 (0, 0)) ∧ w.heap[c2]? = some (.cells #[ptrV b] 95 (0, 0)) ∧ ¬ M c1 ∧ ¬ M c2 ∧ bx[k]? = some b ∧ ch1 = ch ∧ ch ≠ []
theorem Foot.cell {M M' : Nat → Prop} {w w' : World} (h : Foot M M' w w') {c : Nat} {o : Obj} (hc : w.heap[c]? = some o) (hM : ¬ M c) : w'.heap[c]? = some o ∧ ¬ M' c := by
  have hl := (Array.getElem?_eq_some_iff.1 hc).1
  exact ⟨(h.block c hl hM).trans hc, fun e => by
    rcases h.new c e with e | e
    · exact hM e
    · omega⟩
theorem AfterAt.go {A : Ad} {bx bx' : List Nat} {M M' : Nat → Prop} {a : After} {fv : Value} {ch1 ch : List (Nat × Nat)} {w w' : World} (h : AfterAt A bx M a fv ch1 ch w) (hf : Foot M M' w w') (hb : bx <+: bx') : AfterAt A bx' M' a fv ch1 ch w' := by
  cases a with
  | nothing => exact h
  | out =>
    obtain ⟨c1, c2, x, y, r, h1, h2, h3, h4, h5, h6⟩ := h
    obtain ⟨e1, e2⟩ := hf.cell h2 h4
    obtain ⟨e3, e4⟩ := hf.cell h3 h5
    exact ⟨c1, c2, x, y, r, h1, e1, e3, e2, e4, h6⟩
  | declare k =>
    obtain ⟨c1, c2, b, h1, h2, h3, h4, h5, h6, h7⟩ := h
    obtain ⟨e1, e2⟩ := hf.cell h2 h4
    obtain ⟨e3, e4⟩ := hf.cell h3 h5
    obtain ⟨t, rfl⟩ := hb
    exact ⟨c1, c2, b, h1, e1, e3, e2, e4, by rw [List.getElem?_append_left (List.getElem?_eq_some_iff.1 h6).1]; exact h6, h7⟩

set_option maxRecDepth 100000 in
set_option maxHeartbeats 2000000 in
theorem nothing_any (w : World) : Calls Tryz.prog 63 #[] w fun e w' => e = .returned (.tuple #[]) ∧ w' = w := by
  go_enter Tryz.func63, Tryz.ntmps63
  go_wp2
  go_end0
  exact ⟨rfl, rfl⟩
set_option maxRecDepth 100000 in
set_option maxHeartbeats 2000000 in
theorem leave_any {A : Ad} {M : Nat → Prop} {bx : List Nat} {x y : Nat × Nat} {r : List (Nat × Nat)} {s : St} {p : List Nat} {i : Nat} {w : World} (h : BW A M bx (x :: y :: r) s p i w) (c1 c2 : Nat) (h1 : w.heap[c1]? = some (.cells #[ptrV y.1] 83 (0, 0))) (h2 : w.heap[c2]? = some (.cells #[ptrV A.wb] 82 (0, 0))) :
    Calls Tryz.prog 144 #[ptrV c1, ptrV c2] w fun e w' => e = .returned (.tuple #[]) ∧ BW A M bx (y :: r) { s with own := s.own.tail } p i w' ∧ Foot M M w w' := by
  obtain ⟨pv, mv, sv, h⟩ := h
  obtain ⟨k1, k2⟩ := h.leave
  have HF : Hid (BW A M bx (y :: r) { s with own := s.own.tail } p i (w.setCell ⟨A.wb, 0, none⟩ (ptrV y.1)) ∧ Foot M M w (w.setCell ⟨A.wb, 0, none⟩ (ptrV y.1))) := ⟨k1.bw, k2⟩
  have v1 : w.cell? ⟨c1, 0, none⟩ = some (ptrV y.1) := cells_at h1 rfl
  have v2 : w.cell? ⟨c2, 0, none⟩ = some (ptrV A.wb) := cells_at h2 rfl
  have v3 : w.cell? ⟨A.wb, 0, none⟩ = some sv := cells_at h.walk.1 rfl
  have v4 : w.frozen? ⟨A.wb, 0, none⟩ = false := frozen_of_row w _ 0 _ _ h.walk.1
  obtain ⟨sb, rfl, -⟩ := h.chain
  clear h h1 h2 k1 k2
  go_enter Tryz.func144, Tryz.ntmps144
  go_wp2
  go_end0
  exact ⟨rfl, HF.out⟩
set_option maxRecDepth 100000 in
set_option maxHeartbeats 2000000 in
theorem declared_any {A : Ad} {M : Nat → Prop} {bx : List Nat} {ch : List (Nat × Nat)} {s : St} {p : List Nat} {i : Nat} {w : World} {k b : Nat} (h : BW A M bx ch s p i w) (hch : ch ≠ []) (hb : bx[k]? = some b) (hl : ∀ sc ∈ s.own, sc.length ≤ 1000000000) (c1 c2 : Nat) (h1 : w.heap[c1]? = some (.cells #[ptrV A.wb] 82 (0, 0))) (h2 : w.heap[c2]? = some (.cells #[ptrV b] 95 (0, 0))) (n1 : ¬ M c1) (n2 : ¬ M c2) :
    Calls Tryz.prog 103 #[ptrV c1, ptrV c2] w fun e w' => e = .returned (.tuple #[]) ∧ BW A M bx ch (Bn.behind (.declare k) s) p i w' ∧ Foot M M w w' := by
  obtain ⟨pv, mv, sv, h⟩ := h
  cases ch with
  | nil => exact absurd rfl hch
  | cons x c =>
    cases hown : s.own with
    | nil =>
      obtain ⟨_, _, e⟩ := h.chain
      rw [hown] at e; exact e.elim
    | cons sc r =>
      have hk : k < s.bds.length := by have := (List.getElem?_eq_some_iff.1 hb).1; have := h.bds.len; omega
      obtain ⟨d, hd⟩ : ∃ d, s.bds[k]? = some d := ⟨_, List.getElem?_eq_getElem hk⟩
      have e9 : Bn.behind (.declare k) s = { s with own := ((d.name, k) :: sc) :: r } := by
        simp only [Bn.behind, St.nameOf, hd, hown, Bn.declared]
      have HD : Hid (_) := declare_any (h.below (below_draw w 1)) hown hb hd (hl sc (by rw [hown]; simp))
      have hsv : sv = ptrV x.1 := by
        obtain ⟨sb, rfl, e⟩ := h.chain
        rw [hown] at e
        obtain ⟨e, -⟩ := e
        injection e with _ e
      subst hsv
      have v1 : w.cell? ⟨c1, 0, none⟩ = some (ptrV A.wb) := cells_at h1 rfl
      have v2 : w.cell? ⟨c2, 0, none⟩ = some (ptrV b) := cells_at h2 rfl
      have v3 : w.cell? ⟨A.wb, 0, none⟩ = some (ptrV x.1) := cells_at h.walk.1 rfl
      have HK : Hid ((∀ {w' : World}, Foot M M w w' → w'.heap[c1]? = some (.cells #[ptrV A.wb] 82 (0, 0)) ∧ ¬ M c1) ∧ ∀ {w' : World}, Foot M M w w' → w'.heap[c2]? = some (.cells #[ptrV b] 95 (0, 0)) ∧ ¬ M c2) := ⟨fun hf => hf.cell h1 n1, fun hf => hf.cell h2 n2⟩
      obtain ⟨sx, hsx⟩ : ∃ b, b = x.1 := ⟨_, rfl⟩
      rw [← hsx] at HD v3
      rw [e9]
      clear h h1 h2 n1 n2 hb hd hown hk hl hch e9 hsx
      refine (callsIn_wide (n := 3)).1 ?_
      refine callsIn_of_wp Tryz.func103 rfl trivial ?_ rfl
      simp only [Tryz.ntmps103, List.size_toArray, List.length_cons, List.length_nil, Nat.reduceAdd, Nat.reduceSub, Array.replicate_succ, Array.replicate_zero, List.push_toArray, List.append_toArray, List.nil_append, List.cons_append]
      gi_wp2
      have HCF : Hid (∀ z : World, (z.cell? ⟨c1, 0, none⟩ = some (ptrV A.wb) ∧ z.cell? ⟨c2, 0, none⟩ = some (ptrV b) ∧ z.cell? ⟨A.wb, 0, none⟩ = some (ptrV sx)) → z.cell? ⟨c1, 0, none⟩ = some (ptrV A.wb) ∧ z.cell? ⟨c2, 0, none⟩ = some (ptrV b) ∧ z.cell? ⟨A.wb, 0, none⟩ = some (ptrV sx)) := fun _ h => h
      refine region_lex (fun z => z.cell? ⟨c1, 0, none⟩ = some (ptrV A.wb) ∧ z.cell? ⟨c2, 0, none⟩ = some (ptrV b) ∧ z.cell? ⟨A.wb, 0, none⟩ = some (ptrV sx)) 5 1 rfl (by kernel_rfl) (by kernel_rfl) (by kernel_rfl) (by kernel_rfl) (fun _ _ d _ _ h => by cases d <;> exact h) ⟨v1, v2, v3⟩ ?_
      simp only [List.take_succ_cons, List.take_zero]
      iterate 5 (first
        | (apply lexC_want
           · rfl
           · exact fun _ => rfl
           · (intro w' hw'; obtain ⟨f1, f2, f3⟩ := HCF.out w' hw'; go_simp; try rfl)
           simp only [Act.put, List.setIfInBounds_toArray, List.set_cons_zero, List.set_cons_succ])
        | (apply lexC_skip
           · rfl
           · exact fun _ => rfl
           simp only [Act.put, List.setIfInBounds_toArray, List.set_cons_zero, List.set_cons_succ]))
      refine lexC_nil ?_
      refine anyC_one (i := 5) (by kernel_rfl) rfl (by rfl) (fun K1 hK1 => ?_)
      go_simp
      refine ⟨trivial, ?_⟩
      refine (callsIn_wide.2 HD.out).mono ?_
      rintro e w' ⟨rfl, hB, hF⟩
      have hF2 : Foot M M w w' := (Foot.of_below (below_draw w 1)).trans hF
      have m1 := (HK.out.1 hF2).1
      have m2 := (HK.out.2 hF2).1
      refine hK1 _ _ ⟨cells_at m1 rfl, cells_at m2 rfl, cells_at hB.walk.1 rfl⟩ ?_
      clear hK1
      refine anyC_done (by kernel_rfl) ?_
      gi_wp2
      go_end0
      exact ⟨rfl, hB.bw, hF2⟩
end Go.Proofs.YtnndgjnihhafbaaGreatDoor

/-
  The walk of inner; what is done behind a node's Kids, whatever it is; the walk of add.
-/
namespace Go.Proofs.YtnndgjnihhafbaaGreatDoor
open Go.RowKit Go.Shelf Go.WideMaps
open Bn (Sc Bd St After)

attribute [local go_sem] Oper.semAt_some

/-- A function's value is called. -/
def Runs (fv : Value) (w : World) (Q : Ending → World → Prop) : Prop := ∃ g lb, fv = .func (.func g) #[] lb ∧ (∀ args w, (callFunc g args).run Tryz.prog w = .ok (.enter g args) w) ∧ Calls Tryz.prog g lb w Q
set_option maxRecDepth 100000 in
theorem enter_nothing (args : Array Value) (w : World) : (callFunc 63 args).run Tryz.prog w = .ok (.enter 63 args) w := by rfl
set_option maxRecDepth 100000 in
theorem enter_leave (args : Array Value) (w : World) : (callFunc 144 args).run Tryz.prog w = .ok (.enter 144 args) w := by rfl
set_option maxRecDepth 100000 in
theorem enter_declared (args : Array Value) (w : World) : (callFunc 103 args).run Tryz.prog w = .ok (.enter 103 args) w := by rfl
/-- What is done behind a node's Kids. -/
theorem after_any {A : Ad} {M : Nat → Prop} {bx : List Nat} {a : After} {fv : Value} {ch1 ch : List (Nat × Nat)} {s : St} {p : List Nat} {i : Nat} {w : World} (ha : AfterAt A bx M a fv ch1 ch w) (h : BW A M bx ch1 s p i w) (hl : ∀ sc ∈ s.own, sc.length ≤ 1000000000) :
    Runs fv w fun e w' => e = .returned (.tuple #[]) ∧ BW A M bx ch (Bn.behind a s) p i w' ∧ Foot M M w w' := by
  cases a with
  | nothing =>
    obtain ⟨rfl, rfl⟩ := ha
    refine ⟨_, _, rfl, enter_nothing, (nothing_any w).mono ?_⟩
    rintro e w' ⟨rfl, rfl⟩
    exact ⟨rfl, h, Foot.refl _ _⟩
  | out =>
    obtain ⟨c1, c2, x, y, r, rfl, h2, h3, -, -, rfl, rfl⟩ := ha
    exact ⟨_, _, rfl, enter_leave, leave_any h c1 c2 h2 h3⟩
  | declare k =>
    obtain ⟨c1, c2, b, rfl, h2, h3, h4, h5, h6, rfl, h8⟩ := ha
    exact ⟨_, _, rfl, enter_declared, declared_any h h8 h6 hl c1 c2 h2 h3 h4 h5⟩

set_option maxRecDepth 100000 in
set_option maxHeartbeats 4000000 in
theorem inner_any {A : Ad} {M : Nat → Prop} {bx : List Nat} {ch : List (Nat × Nat)} {s : St} {p : List Nat} {i : Nat} {w : World} (h0 : BW A M bx ch s p i w) (hch : ch ≠ []) :
    Calls Tryz.prog 101 #[ptrV A.wb] w fun e w' => ∃ M' ch1 fv, e = .returned fv ∧ BW A M' bx ch1 { s with own := [] :: s.own } p i w' ∧ Foot M M' w w' ∧ AfterAt A bx M' .out fv ch1 ch w' := by
  obtain ⟨pv, mv, sv, h⟩ := h0
  cases ch with
  | nil => exact absurd rfl hch
  | cons y r =>
    have hsv : sv = ptrV y.1 := by
      obtain ⟨sb, rfl, e⟩ := h.chain
      cases hown : s.own with
      | nil => rw [hown] at e; exact e.elim
      | cons sc rr =>
        rw [hown] at e
        obtain ⟨e, -⟩ := e
        injection e with _ e
    subst hsv
    obtain ⟨X1, hX1⟩ : ∃ X, X = w.alloc (.cells #[ptrV A.wb] 82) := ⟨_, rfl⟩
    obtain ⟨X2, hX2⟩ : ∃ X, X = X1.alloc (.cells #[ptrV y.1] 83) := ⟨_, rfl⟩
    have s1 : X1.heap.size = w.heap.size + 1 := by rw [hX1, World.size_alloc]
    have s2 : X2.heap.size = w.heap.size + 1 + 1 := by rw [hX2, World.size_alloc, s1]
    have b1 : Below w.heap.size w X1 := hX1 ▸ below_new w _
    have b2 : Below X1.heap.size X1 X2 := hX2 ▸ below_new X1 _
    have n1 : X2.heap[w.heap.size]? = some (.cells #[ptrV A.wb] 82 (0, 0)) := (b2.block _ (by omega)).trans (by rw [hX1]; exact World.alloc_heap_new w _)
    have n2 : X2.heap[w.heap.size + 1]? = some (.cells #[ptrV y.1] 83 (0, 0)) := by rw [hX2, ← s1]; exact World.alloc_heap_new X1 _
    have bV : Below w.heap.size w X2.drew := below_then (below_then b1 b2) (below_draw X2 1)
    obtain ⟨V, hV⟩ : ∃ V, V = X2.drew := ⟨_, rfl⟩
    have m1 : V.heap[w.heap.size]? = some (.cells #[ptrV A.wb] 82 (0, 0)) := by rw [hV]; exact n1
    have m2 : V.heap[w.heap.size + 1]? = some (.cells #[ptrV y.1] 83 (0, 0)) := by rw [hV]; exact n2
    rw [← hV] at bV
    have hBV := h.below bV
    obtain ⟨P1, P2⟩ := hBV.push
    obtain ⟨Y, hY⟩ : ∃ Y, Y = scopeNew V (.iface 83 (ptrV y.1)) := ⟨_, rfl⟩
    have bY : Below V.heap.size V Y := hY ▸ scopeNew_below V _
    rw [← hY] at P1 P2
    obtain ⟨Z, hZ⟩ : ∃ Z, Z = Y.setCell ⟨A.wb, 0, none⟩ (ptrV (V.heap.size + 1)) := ⟨_, rfl⟩
    rw [← hZ] at P1 P2
    have hBY := hBV.below bY
    have y0 : Y.cell? ⟨A.wb, 0, none⟩ = some (ptrV y.1) := cells_at hBY.walk.1 rfl
    have yf : Y.frozen? ⟨A.wb, 0, none⟩ = false := frozen_of_row Y _ 0 _ _ hBY.walk.1
    have k1 : ¬ M w.heap.size := fun e => by have := (h.lt _ e).2; omega
    have k2 : ¬ M (w.heap.size + 1) := fun e => by have := (h.lt _ e).2; omega
    obtain ⟨z1, z2⟩ := P2.cell m1 k1
    obtain ⟨z3, z4⟩ := P2.cell m2 k2
    have HF : Hid (BW A (fun k => M k ∨ k = V.heap.size) bx ((V.heap.size + 1, V.heap.size) :: y :: r) { s with own := [] :: s.own } p i Z ∧ Foot M (fun k => M k ∨ k = V.heap.size) w Z ∧ AfterAt A bx (fun k => M k ∨ k = V.heap.size) .out (.func (.func 144) #[] #[ptrV (w.heap.size + 1), ptrV w.heap.size]) ((V.heap.size + 1, V.heap.size) :: y :: r) (y :: r) Z) := ⟨P1.bw, (Foot.of_below bV).trans P2, _, _, _, _, _, rfl, z3, z1, z4, z2, rfl, rfl⟩
    have CV : Hid (V.cell? ⟨w.heap.size, 0, none⟩ = some (ptrV A.wb) ∧ V.cell? ⟨w.heap.size + 1, 0, none⟩ = some (ptrV y.1)) := ⟨cells_at m1 rfl, cells_at m2 rfl⟩
    have CY : Hid (Y.cell? ⟨w.heap.size, 0, none⟩ = some (ptrV A.wb) ∧ Y.cell? ⟨w.heap.size + 1, 0, none⟩ = some (ptrV y.1)) := ⟨cells_at ((bY.block _ (Array.getElem?_eq_some_iff.1 m1).1).trans m1) rfl, cells_at ((bY.block _ (Array.getElem?_eq_some_iff.1 m2).1).trans m2) rfl⟩
    have CZ : Hid (Z.cell? ⟨w.heap.size, 0, none⟩ = some (ptrV A.wb) ∧ Z.cell? ⟨w.heap.size + 1, 0, none⟩ = some (ptrV y.1)) := ⟨cells_at z1 rfl, cells_at z3 rfl⟩
    have HWI : Hid (_) := within_any 83 (ptrV y.1) V
    have HV : Hid (V = X2.drew) := hV
    rw [← hY] at HWI
    have hmf : ∀ (fn : Fn) (first cap : Array Value) (w : World), (Instr.makeFunc fn first cap).run Tryz.prog w = .ok (.func fn first cap) w := fun _ _ _ _ => rfl
    have hstf := fun (a : Addr) (b : Nat) (w : World) => run_store Tryz.prog w a (ptrV b) .plain rfl
    have hmi : ∀ (v : Value) (w : World), (Instr.makeInterface 83 v).run Tryz.prog w = .ok (.iface 83 v) w := fun _ _ => rfl
    obtain ⟨yb, hyb⟩ : ∃ b, b = y.1 := ⟨_, rfl⟩
    have HYB : Hid (yb = y.1) := hyb
    have HW0 : Hid ((w.alloc (.cells #[ptrV A.wb] 82)).cell? ⟨A.wb, 0, none⟩ = some (ptrV y.1)) := by rw [← hX1]; exact cells_at ((b1.block _ (Array.getElem?_eq_some_iff.1 h.walk.1).1).trans h.walk.1) rfl
    rw [← hyb] at hX2 CV CY CZ HWI y0 HW0
    obtain ⟨vs, hvs⟩ : ∃ n, n = V.heap.size := ⟨_, rfl⟩
    rw [← hvs] at hZ HWI
    clear h hch s1 s2 b1 b2 n1 n2 bV m1 m2 hBV P1 P2 bY hBY k1 k2 z1 z2 z3 z4 hY hV hyb hvs
    refine (callsIn_wide (n := 3)).1 ?_
    refine callsIn_of_wp Tryz.func101 rfl trivial ?_ rfl
    simp only [Tryz.ntmps101, List.size_toArray, List.length_cons, List.length_nil, Nat.reduceAdd, Nat.reduceSub, Array.replicate_succ, Array.replicate_zero, List.push_toArray, List.append_toArray, List.nil_append, List.cons_append]
    have HCF : Hid (∀ z : World, (z.cell? ⟨w.heap.size, 0, none⟩ = some (ptrV A.wb) ∧ z.cell? ⟨w.heap.size + 1, 0, none⟩ = some (ptrV yb)) → z.cell? ⟨w.heap.size, 0, none⟩ = some (ptrV A.wb) ∧ z.cell? ⟨w.heap.size + 1, 0, none⟩ = some (ptrV yb)) := fun _ h => h
    have w0 : (w.alloc (.cells #[ptrV A.wb] 82)).cell? ⟨A.wb, 0, none⟩ = some (ptrV yb) := HW0.out
    gi_wp2
    rw [← hX1, ← hX2]
    clear hX1 hX2 w0
    refine region_lex (fun z => z.cell? ⟨w.heap.size, 0, none⟩ = some (ptrV A.wb) ∧ z.cell? ⟨w.heap.size + 1, 0, none⟩ = some (ptrV yb)) 3 4 rfl (by kernel_rfl) (by kernel_rfl) (by kernel_rfl) (by kernel_rfl) (fun _ _ d _ _ h => by cases d <;> exact h) (by have := CV.out; rw [HV.out] at this; exact this) ?_
    simp only [List.take_succ_cons, List.take_zero]
    iterate 3 (first
      | (apply lexC_want
         · rfl
         · exact fun _ => rfl
         · (intro w' hw'; obtain ⟨f1, f2⟩ := HCF.out w' hw'; go_simp; try rfl)
         simp only [Act.put, List.setIfInBounds_toArray, List.set_cons_zero, List.set_cons_succ])
      | (apply lexC_skip
         · rfl
         · exact fun _ => rfl
         simp only [Act.put, List.setIfInBounds_toArray, List.set_cons_zero, List.set_cons_succ]))
    refine lexC_nil ?_
    refine anyC_one (i := 3) (by kernel_rfl) rfl (by rfl) (fun K1 hK1 => ?_)
    go_simp
    refine ⟨trivial, ?_⟩
    refine (callsIn_wide.2 (by rw [HV.out] at HWI; exact HWI.out)).mono ?_
    rintro e w1 ⟨rfl, rfl⟩
    refine hK1 _ _ CY.out ?_
    clear hK1
    refine anyC_more 4 2 1 3 rfl (by kernel_rfl) rfl (by decide) (by kernel_rfl) (fun _ _ d _ _ h => by cases d <;> exact h) CY.out ?_
    simp only [List.drop_succ_cons, List.drop_zero, List.take_succ_cons, List.take_zero]
    iterate 2 (first
      | (apply lexC_want
         · rfl
         · exact fun _ => rfl
         · (intro w' hw'; obtain ⟨f1, f2⟩ := HCF.out w' hw'; go_simp; try rfl)
         simp only [Act.put, List.setIfInBounds_toArray, List.set_cons_zero, List.set_cons_succ])
      | (apply lexC_skip
         · rfl
         · exact fun _ => rfl
         simp only [Act.put, List.setIfInBounds_toArray, List.set_cons_zero, List.set_cons_succ]))
    refine lexC_nil ?_
    refine anyC_one (i := 6) (by kernel_rfl) rfl (by rfl) (fun K2 hK2 => ?_)
    go_simp
    rw [← hZ]
    refine hK2 _ _ CZ.out ?_
    clear hK2
    clear hZ y0 yf
    refine anyC_done (by kernel_rfl) ?_
    gi_wp2
    go_ret
    exact ⟨_, _, _, rfl, HF.out.1, HF.out.2.1, HF.out.2.2⟩
end Go.Proofs.YtnndgjnihhafbaaGreatDoor
