/-
  What look does at a Param or Var.
-/
import Derived.Test.YtnndgjnihhafbaaGreatDoorBnCalls
namespace Go.Proofs.YtnndgjnihhafbaaGreatDoor
open Go.RowKit Go.Shelf Go.WideMaps
open Bn (Sc Bd St After)

attribute [local go_sem] Oper.semAt_some


theorem info_bptr' : (Tryz.prog.info? 95).map (fun i => (i.zero, i.size, i.bytes)) = some (some (.pointer none), 1, 8) := by kernel_rfl

set_option maxRecDepth 100000 in
set_option maxHeartbeats 8000000 in
theorem look_param {A : Ad} {S : Nat → Prop} (hSn : ∀ b, S b → b < A.n) (m : Nat) (t : Tr) (val : Value) (M : Nat → Prop) (bx : List Nat) (ch : List (Nat × Nat)) (s : St) (p : List Nat) (i : Nat) (w : World) (hr : Tr.right m t = true) (hbd : Tr.Bd [t]) (hn : NodeR S w val t) (hB : BW A M bx ch s p i w) (hch : ch ≠ []) (hcl : ch.length ≤ 50) (hpl : p.length ≤ 1000) (hmass : s.mass ≤ 10000000) (gk : t.k = 4) :
    Calls Tryz.prog 64 #[ptrV A.wb, val] w fun e w' => LookEnd A Bn.look2 M bx ch s p i t w e w' := by
  obtain ⟨pv, mv, sv, hB⟩ := hB
  have ht6 := (hbd.mem (List.mem_singleton.2 rfl)).1
  have h2 : t.k = 2 → t.kids ≠ [] := by
    cases m with
    | zero => rw [Tr.right] at hr; cases hr
    | succ m => exact func_kids hr
  have hlow : ∀ b, S b → b < w.heap.size := fun b hb => Nat.lt_of_lt_of_le (hSn b hb) hB.low
  have hnl : NodeR (lowS w.heap.size) w val t := by
    obtain ⟨x, e1, e2, e3, e4⟩ := hn
    exact ⟨x, e1, e2, e3, e4.mono hlow⟩
  obtain ⟨⟨k, tx, nn, kv, kids⟩, rfl, ht, hf, hrow⟩ := hn
  obtain ⟨ao, cap, hkv⟩ := hrow.slice
  simp only at hkv
  subst hkv
  have hk : t.k = k := by rw [← ht]; rfl
  have htt : t.t = tx := by rw [← ht]; rfl
  have htl : t.kids.length = kids.length := by rw [← ht]; rfl
  simp only [N1.cells] at hnl ⊢
  obtain ⟨N, hN⟩ : ∃ N, N = kids.length := ⟨_, rfl⟩
  rw [← hN] at hnl htl ⊢
  obtain ⟨X1, hX1⟩ : ∃ X, X = w.alloc (.cells #[ptrV A.wb] 82) := ⟨_, rfl⟩
  obtain ⟨X, hX⟩ : ∃ X, X = X1.alloc (.cells #[.int .u8 k, .string (Ln.bs tx), .int .i64 nn, .slice ao N cap] 25) := ⟨_, rfl⟩
  have s1 : X1.heap.size = w.heap.size + 1 := by rw [hX1, World.size_alloc]
  have b1 : Below w.heap.size w X1 := hX1 ▸ below_new w _
  have b2 : Below X1.heap.size X1 X := hX ▸ below_new X1 _
  have bX : Below w.heap.size w X := below_then b1 b2
  have x0 : X.heap[w.heap.size]? = some (.cells #[ptrV A.wb] 82 (0, 0)) := (b2.block _ (by omega)).trans (by rw [hX1]; exact World.alloc_heap_new w _)
  have xn : X.heap[w.heap.size + 1]? = some (.cells #[.int .u8 k, .string (Ln.bs tx), .int .i64 nn, .slice ao N cap] 25 (0, 0)) := by rw [hX, ← s1]; exact World.alloc_heap_new X1 _
  have n0 : ¬ M w.heap.size := fun e => by have := (hB.lt _ e).2; omega
  have n1 : ¬ M (w.heap.size + 1) := fun e => by have := (hB.lt _ e).2; omega
  have fX : Foot M M w X := Foot.of_below bX
  have HB : Hid (BAt A M bx ch s p i X pv mv sv ∧ Foot M M w X ∧ s.mass ≤ 10000000 ∧ p.length ≤ 1000 ∧ ch ≠ [] ∧ ch.length ≤ 50) := ⟨hB.below bX, fX, hmass, hpl, hch, hcl⟩
  have HN : Hid (NodeR (lowS X.heap.size) X (.agg #[.int .u8 k, .string (Ln.bs tx), .int .i64 nn, .slice ao N cap]) t) := hnl.at bX
  have HT : Hid (tx.length ≤ 1000000 ∧ (t.k = 2 → t.kids ≠ []) ∧ t.k = k ∧ t.t = tx ∧ t.kids.length = N ∧ Tr.Bd [t]) := ⟨htt ▸ ht6, h2, hk, htt, htl, hbd⟩
  have HXB : Hid (X.heap[w.heap.size]? = some (.cells #[ptrV A.wb] 82 (0, 0)) ∧ ¬ M w.heap.size ∧ X.heap[w.heap.size + 1]? = some (.cells #[.int .u8 k, .string (Ln.bs tx), .int .i64 nn, .slice ao N cap] 25 (0, 0)) ∧ ¬ M (w.heap.size + 1)) := ⟨x0, n0, xn, n1⟩
  have HCC : Hid (∀ {M' : Nat → Prop} {z : World}, Foot M M' X z → z.cell? ⟨w.heap.size, 0, none⟩ = some (ptrV A.wb) ∧ z.cell? ⟨w.heap.size + 1, 0, none⟩ = some (.int .u8 k) ∧ z.cell? ⟨w.heap.size + 1, 1, none⟩ = some (.string (Ln.bs tx)) ∧ z.cell? ⟨w.heap.size + 1, 2, none⟩ = some (.int .i64 nn) ∧ z.cell? ⟨w.heap.size + 1, 3, none⟩ = some (.slice ao N cap)) := fun hf => ⟨cells_at (hf.cell x0 n0).1 rfl, cells_at (hf.cell xn n1).1 rfl, cells_at (hf.cell xn n1).1 rfl, cells_at (hf.cell xn n1).1 rfl, cells_at (hf.cell xn n1).1 rfl⟩
  have c0 : X.cell? ⟨w.heap.size, 0, none⟩ = some (ptrV A.wb) := cells_at x0 rfl
  have ck : X.cell? ⟨w.heap.size + 1, 0, none⟩ = some (.int .u8 k) := cells_at xn rfl
  have ct : X.cell? ⟨w.heap.size + 1, 1, none⟩ = some (.string (Ln.bs tx)) := cells_at xn rfl
  have cn : X.cell? ⟨w.heap.size + 1, 2, none⟩ = some (.int .i64 nn) := cells_at xn rfl
  have cv : X.cell? ⟨w.heap.size + 1, 3, none⟩ = some (.slice ao N cap) := cells_at xn rfl
  rw [hX, hX1] at c0 ck ct cn cv
  have hXX : X = (w.alloc (.cells #[ptrV A.wb] 82)).alloc (.cells #[.int .u8 k, .string (Ln.bs tx), .int .i64 nn, .slice ao N cap] 25) := by rw [hX, hX1]
  clear hB ht6 h2 hlow hnl ht hf hrow htt htl hN s1 b1 b2 bX x0 xn n0 n1 fX hpl hmass hr hbd hch hcl hX hX1
  have HL : Hid (Bn.look2 t p s = match Bn.find (s.own.headD []) tx with
    | some _ => .error 110
    | none => .ok ({ s with bds := s.bds ++ [⟨p, t.t, [], 0⟩], met := s.met ++ [s.bds.length] }, .declare s.bds.length)) := by
    show _ = _
    rw [← HT.out.2.2.2.1]
    unfold Bn.look2
    rw [if_neg (by rw [gk]; decide), if_neg (by rw [gk]; decide), if_pos (by rw [gk]; decide)]
    rfl
  have HG : Hid (t.k ≠ 2) := by show _ ≠ _; rw [gk]; decide
  rw [hk] at gk
  subst gk
  clear hk
  obtain ⟨x, rc, rfl⟩ : ∃ x rc, ch = x :: rc := by
    cases ch with
    | nil => exact absurd rfl HB.out.2.2.2.2.1
    | cons y r => exact ⟨y, r, rfl⟩
  obtain ⟨sb, hsv, hc1⟩ := HB.out.1.chain
  obtain ⟨sc, rr, hown⟩ : ∃ sc rr, s.own = sc :: rr := by
    cases ho : s.own with
    | nil => rw [ho] at hc1; exact hc1.elim
    | cons a b => exact ⟨a, b, rfl⟩
  have hsx : sv = ptrV x.1 := by
    rw [hown] at hc1
    obtain ⟨e, -⟩ := hc1
    injection e with _ e
    rw [hsv, e]
  subst hsx
  have hBD : BAt A M bx (x :: rc) s p i X.drew pv mv (ptrV x.1) := HB.out.1.below (below_draw X 1)
  have HFR : Hid (_) := free_any hBD hown (by have := HB.out.2.2.2.2.2; simp at this; omega) tx HT.out.1
  have HOW : Hid (s.own.headD [] = sc) := by show _ = _; rw [hown]; rfl
  have HBD : Hid (BAt A M bx (x :: rc) s p i X.drew pv mv (ptrV x.1) ∧ Foot M M X X.drew ∧ Below X.heap.size X X.drew) := ⟨hBD, Foot.of_below (below_draw X 1), below_draw X 1⟩
  have HCF : Hid (∀ z : World, (z.cell? ⟨w.heap.size, 0, none⟩ = some (ptrV A.wb) ∧ z.cell? ⟨A.wb, 0, none⟩ = some (ptrV x.1) ∧ z.cell? ⟨w.heap.size + 1, 1, none⟩ = some (.string (Ln.bs tx))) → (z.cell? ⟨w.heap.size, 0, none⟩ = some (ptrV A.wb) ∧ z.cell? ⟨A.wb, 0, none⟩ = some (ptrV x.1) ∧ z.cell? ⟨w.heap.size + 1, 1, none⟩ = some (.string (Ln.bs tx)))) := fun _ h => h
  have HD0 : Hid ((X.drew.cell? ⟨w.heap.size, 0, none⟩ = some (ptrV A.wb) ∧ X.drew.cell? ⟨A.wb, 0, none⟩ = some (ptrV x.1) ∧ X.drew.cell? ⟨w.heap.size + 1, 1, none⟩ = some (.string (Ln.bs tx)))) := ⟨(HCC.out HBD.out.2.1).1, cells_at hBD.walk.1 rfl, (HCC.out HBD.out.2.1).2.2.1⟩
  clear hBD hsv hc1 hown
  refine (callsIn_wide (n := 3)).1 ?_
  refine callsIn_of_wp Tryz.func64 rfl trivial ?_ rfl
  simp only [Tryz.ntmps64, List.size_toArray, List.length_cons, List.length_nil, Nat.reduceAdd, Nat.reduceSub, Array.replicate_succ, Array.replicate_zero, List.push_toArray, List.append_toArray, List.nil_append, List.cons_append]
  gi_wp2
  rw [← hXX]
  clear hXX c0 ck ct cn cv
  refine region_lex (fun z => (z.cell? ⟨w.heap.size, 0, none⟩ = some (ptrV A.wb) ∧ z.cell? ⟨A.wb, 0, none⟩ = some (ptrV x.1) ∧ z.cell? ⟨w.heap.size + 1, 1, none⟩ = some (.string (Ln.bs tx)))) 6 1 rfl (by kernel_rfl) (by kernel_rfl) (by kernel_rfl) (by kernel_rfl) (fun _ _ d _ _ h => by cases d <;> exact h) HD0.out ?_
  simp only [List.take_succ_cons, List.take_zero]
  iterate 6 (first
    | (apply lexC_want
       · rfl
       · exact fun _ => rfl
       · (intro w' hw'; obtain ⟨f1, f2, f3⟩ := HCF.out w' hw'; go_simp; try rfl)
       simp only [Act.put, List.setIfInBounds_toArray, List.set_cons_zero, List.set_cons_succ])
    | (apply lexC_skip
       · rfl
       · exact fun _ => rfl
       simp only [Act.put, List.setIfInBounds_toArray, List.set_cons_zero, List.set_cons_succ]))
  refine lexC_nil ?_
  refine anyC_one (i := 6) (by kernel_rfl) rfl (by rfl) (fun K1 hK1 => ?_)
  go_simp
  refine ⟨trivial, ?_⟩
  refine (callsIn_wide.2 HFR.out).mono ?_
  rintro e w1 ⟨rfl, hend⟩
  cases hfd : Bn.find sc tx with
  | some kb =>
    rw [hfd] at hend
    obtain rfl := hend
    have hb0 : Bn.look2 t p s = .error 110 := by rw [HL.out, HOW.out, hfd]
    exact ⟨rfl, LookEnd.bad hb0 (List.prefix_refl _) (HB.out.2.1.trans HBD.out.2.1)⟩
  | none =>
    rw [hfd] at hend
    obtain rfl := hend
    have HL2 : Hid (Bn.look2 t p s = .ok ({ s with bds := s.bds ++ [⟨p, t.t, [], 0⟩], met := s.met ++ [s.bds.length] }, .declare s.bds.length)) := by show _ = _; rw [HL.out, HOW.out, hfd]
    clear hfd
    refine hK1 _ _ HD0.out ?_
    clear hK1
    refine anyC_done (by kernel_rfl) ?_
    have d0 := (HCC.out HBD.out.2.1).1
    have dk := (HCC.out HBD.out.2.1).2.1
    have dt := (HCC.out HBD.out.2.1).2.2.1
    have dn := (HCC.out HBD.out.2.1).2.2.2.1
    have dv := (HCC.out HBD.out.2.1).2.2.2.2
    have HBI : Hid (_) := binder_any A.wb A.n (ptrV x.1) pv mv i p t _ X.drew HBD.out.1.walk.1 HBD.out.1.path.1 (by have := HB.out.2.2.2.1; omega) (HN.out.at HBD.out.2.2) (by rw [HT.out.2.2.2.1]; exact HT.out.1) HT.out.2.1
    gi_wp2
    refine ⟨trivial, ?_⟩
    refine (callsIn_wide.2 HBI.out).mono ?_
    rintro e w1 ⟨b, v, rfl, hge, hbl, hbox, hown⟩
    clear HBI d0 dk dt dn dv
    rw [if_neg HG.out] at hbox
    have hnew := HBD.out.1.newBinder (d := ⟨p, t.t, [], 0⟩) hbl hge hbox hown rfl (by show t.t.length ≤ _; rw [HT.out.2.2.2.1]; exact HT.out.1)
    obtain ⟨M1, hM1⟩ : ∃ M1 : Nat → Prop, M1 = fun k => M k ∨ k = b := ⟨_, rfl⟩
    rw [← hM1] at hnew
    have hf1 : Foot M M1 X w1 := HBD.out.2.1.trans ⟨hbl.os, hbl.tape, hbl.output, hbl.size, fun k hk _ => hbl.block k hk, fun k e => by rw [hM1] at e; rcases e with e | e; exact .inl e; exact .inr (e ▸ hge)⟩
    have hlen : bx.length = s.bds.length := HB.out.1.bds.len
    obtain ⟨V, hV⟩ : ∃ V, V = w1.alloc (.cells #[ptrV b] 95) := ⟨_, rfl⟩
    have bV : Below w1.heap.size w1 V := hV ▸ below_new w1 _
    have vb : V.heap[w1.heap.size]? = some (.cells #[ptrV b] 95 (0, 0)) := by rw [hV]; exact World.alloc_heap_new w1 _
    have nV : ¬ M1 w1.heap.size := fun e => by have := (hnew.lt _ e).2; omega
    obtain ⟨ma, mc, hms⟩ := slice_shape hnew.met.1
    subst hms
    have HBX : Hid (BAt A M1 (bx ++ [b]) (x :: rc) { s with bds := s.bds ++ [⟨p, t.t, [], 0⟩] } p i V pv (.slice ma s.met.length mc) (ptrV x.1) ∧ Foot M M1 X V ∧ bx ++ [b] = bx ++ [b]) := ⟨hnew.below bV, hf1.trans (Foot.of_below bV), rfl⟩
    have HVB : Hid (V.heap[w1.heap.size]? = some (.cells #[ptrV b] 95 (0, 0)) ∧ ¬ M1 w1.heap.size) := ⟨vb, nV⟩
    have HKL : Hid ((bx ++ [b]).getD s.bds.length 0 = b ∧ s.bds.length < (bx ++ [b]).length ∧ (bx ++ [b])[s.bds.length]? = some b) := ⟨by rw [← hlen]; simp [List.getD_eq_getElem?_getD], by rw [← hlen]; simp, by rw [← hlen]; simp⟩
    clear hge hbl hbox hown hM1 hnew hf1 hlen bV vb nV
    have HCF : Hid (∀ z : World, (z.cell? ⟨w.heap.size, 0, none⟩ = some (ptrV A.wb) ∧ z.cell? ⟨w1.heap.size, 0, none⟩ = some (ptrV b)) → (z.cell? ⟨w.heap.size, 0, none⟩ = some (ptrV A.wb) ∧ z.cell? ⟨w1.heap.size, 0, none⟩ = some (ptrV b))) := fun _ h => h
    have HD0 : Hid (Foot M1 M1 V V.drew ∧ (V.drew.cell? ⟨w.heap.size, 0, none⟩ = some (ptrV A.wb) ∧ V.drew.cell? ⟨w1.heap.size, 0, none⟩ = some (ptrV b))) := ⟨Foot.of_below (below_draw V 1), (HCC.out HBX.out.2.1).1, cells_at HVB.out.1 rfl⟩
    have HPC : Hid (V.drew.cell? ⟨A.wb, 3, none⟩ = some (.slice ma s.met.length mc)) := cells_at HBX.out.1.walk.1 rfl
    have e0 := (HCC.out HBX.out.2.1).1
    gi_wp2
    rw [← hV]
    clear e0 hV
    refine region_lex (fun z => (z.cell? ⟨w.heap.size, 0, none⟩ = some (ptrV A.wb) ∧ z.cell? ⟨w1.heap.size, 0, none⟩ = some (ptrV b))) 4 7 rfl (by kernel_rfl) (by kernel_rfl) (by kernel_rfl) (by kernel_rfl) (fun _ _ d _ _ h => by cases d <;> exact h) HD0.out.2 ?_
    simp only [List.take_succ_cons, List.take_zero]
    iterate 4 (first
      | (apply lexC_want
         · rfl
         · exact fun _ => rfl
         · (intro w' hw'; obtain ⟨f1, f2⟩ := HCF.out w' hw'; go_simp; try rfl)
         simp only [Act.put, List.setIfInBounds_toArray, List.set_cons_zero, List.set_cons_succ])
      | (apply lexC_skip
         · rfl
         · exact fun _ => rfl
         simp only [Act.put, List.setIfInBounds_toArray, List.set_cons_zero, List.set_cons_succ]))
    refine lexC_nil ?_
    refine anyC_more 5 1 6 7 rfl (by kernel_rfl) rfl (by decide) (by kernel_rfl) (fun _ _ d _ _ h => by cases d <;> exact h) HD0.out.2 ?_
    simp only [List.drop_succ_cons, List.drop_zero, List.take_succ_cons, List.take_zero]
    iterate 1 (first
      | (apply lexC_want
         · rfl
         · exact fun _ => rfl
         · (intro w' hw'; obtain ⟨f1, f2⟩ := HCF.out w' hw'; go_simp; try rfl)
         simp only [Act.put, List.setIfInBounds_toArray, List.set_cons_zero, List.set_cons_succ])
      | (apply lexC_skip
         · rfl
         · exact fun _ => rfl
         simp only [Act.put, List.setIfInBounds_toArray, List.set_cons_zero, List.set_cons_succ]))
    refine lexC_nil ?_
    obtain ⟨Y, hY⟩ : ∃ Y, Y = (V.alloc (.cells #[ptrV b] 95)).drew := ⟨_, rfl⟩
    have DY : Below V.heap.size V Y := hY ▸ below_then (below_new V _) (below_draw _ 1)
    have hc0 : ∀ (j : Nat) (u : Value), [ptrV b][j]? = some u → Y.cell? ((⟨V.heap.size, 0, none⟩ : Addr).add j) = some u := by rw [hY]; exact cells_new V [ptrV b] 95
    have hBY := HBX.out.1.below DY
    have fY : Foot M1 M1 V Y := Foot.of_below DY
    obtain ⟨i0, hi0, hz0, hz1, hz2⟩ := info_parts info_bptr'
    obtain ⟨uv', Z, hrun, hown, hgr, -, hat⟩ := run_append_own_at (P := Tryz.prog) Y A.n 84 84 95 i0 (.pointer none) 1 8 Tryz.underlying84 hi0 hz0 hz1 hz2 rfl (by decide) (.slice ma s.met.length mc) s.met.length _ hBY.met.1 ⟨V.heap.size, 0, none⟩ 1 1 [ptrV b] rfl hc0 (by simp [Value.oneCell']) (by have := HB.out.2.2.1; unfold Bn.St.mass at this; unfold maxLen; omega) (by have := HB.out.2.2.1; unfold Bn.St.mass at this; omega) hBY.low
    obtain ⟨ua, uc, hu⟩ := slice_shape hown
    subst hu
    have happ := hBY.meet (k := s.bds.length) HKL.out.2.1 (by rw [HKL.out.1]; exact hown) hgr hat
    obtain ⟨M3, hM3⟩ : ∃ M3 : Nat → Prop, M3 = fun k => M1 k ∨ (Value.slice ua (s.met.length + 1) uc).ownBlock = some k := ⟨_, rfl⟩
    rw [← hM3] at happ
    obtain ⟨Z3, hZ3⟩ : ∃ Z3, Z3 = Z.setCell ⟨A.wb, 3, none⟩ (.slice ua (s.met.length + 1) uc) := ⟨_, rfl⟩
    rw [← hZ3] at happ
    have HA : Hid (BAt A M3 (bx ++ [b]) (x :: rc) { s with bds := s.bds ++ [⟨p, t.t, [], 0⟩], met := s.met ++ [s.bds.length] } p i Z3 pv (.slice ua (s.met.length + 1) uc) (ptrV x.1) ∧ Foot M M3 X Z3 ∧ Foot M1 M3 V Z3) := ⟨happ.1, HBX.out.2.1.trans (fY.trans happ.2), fY.trans happ.2⟩
    have hneM : ∀ k, ¬ M1 k → k < Y.heap.size → Z.heap[k]? = Y.heap[k]? := fun k hk hl => hgr.block k hl (fun e => hk (hBY.met.2.1 k e.symm))
    have hwkZ : Z.heap[A.wb]? = Y.heap[A.wb]? := hgr.block A.wb (Array.getElem?_eq_some_iff.1 hBY.walk.1).1 (fun e => by
      obtain ⟨cs, e2⟩ := owns_ty hBY.met.1 A.wb e.symm
      rw [hBY.walk.1] at e2
      injection e2 with e2
      injection e2 with _ e2 _
      exact absurd e2 (by decide))
    have bf : Z.frozen? ⟨A.wb, 3, none⟩ = false := frozen_of_row Z A.wb 3 _ _ (hwkZ.trans hBY.walk.1)
    have bz : Z.cell? ⟨A.wb, 3, none⟩ = some (.slice ma s.met.length mc) := cells_at (hwkZ.trans hBY.walk.1) rfl
    have hqv := HBX.out.2.1.cell HXB.out.1 HXB.out.2.1
    have hq0 := fY.cell hqv.1 hqv.2
    have hqb := fY.cell HVB.out.1 HVB.out.2
    have CZ : Hid ((Z.cell? ⟨w.heap.size, 0, none⟩ = some (ptrV A.wb) ∧ Z.cell? ⟨w1.heap.size, 0, none⟩ = some (ptrV b))) := ⟨cells_at ((hneM _ hq0.2 (Array.getElem?_eq_some_iff.1 hq0.1).1).trans hq0.1) rfl, cells_at ((hneM _ hqb.2 (Array.getElem?_eq_some_iff.1 hqb.1).1).trans hqb.1) rfl⟩
    have CY : Hid ((Y.cell? ⟨w.heap.size, 0, none⟩ = some (ptrV A.wb) ∧ Y.cell? ⟨w1.heap.size, 0, none⟩ = some (ptrV b))) := ⟨cells_at hq0.1 rfl, cells_at hqb.1 rfl⟩
    have PY : Hid (Y.cell? ⟨A.wb, 3, none⟩ = some (.slice ma s.met.length mc)) := cells_at hBY.walk.1 rfl
    have HV3 : Hid (Z3.heap[w1.heap.size]? = some (.cells #[ptrV b] 95 (0, 0)) ∧ ¬ M3 w1.heap.size) := HA.out.2.2.cell HVB.out.1 HVB.out.2
    have HW3 : Hid (Z3.heap[w.heap.size]? = some (.cells #[ptrV A.wb] 82 (0, 0)) ∧ ¬ M3 w.heap.size) := HA.out.2.1.cell HXB.out.1 HXB.out.2.1
    have C3 : Hid ((Z3.cell? ⟨w.heap.size, 0, none⟩ = some (ptrV A.wb) ∧ Z3.cell? ⟨w1.heap.size, 0, none⟩ = some (ptrV b))) := ⟨cells_at HW3.out.1 rfl, cells_at HV3.out.1 rfl⟩
    clear hBY fY hi0 hz0 hz1 hz2 hown hgr hat happ hneM hwkZ hqv hq0 hqb hM3 DY
    refine anyC_two (i := 4) (j := 6) (by kernel_rfl) rfl rfl (by rfl) (by rfl) (fun K2 hK2 => ?_) (fun K2 hK2 => ?_)
    · skip
      have u0 := HPC.out
      go_simp
      refine hK2 _ _ HD0.out.2 ?_
      clear hK2
      clear u0
      refine anyC_one (i := 6) (by kernel_rfl) rfl (by rfl) (fun K3 hK3 => ?_)
      go_simp
      rw [← hY]
      clear hY
      refine hK3 _ _ CY.out ?_
      clear hK3
      refine anyC_one (i := 7) (by kernel_rfl) rfl (by rfl) (fun K4 hK4 => ?_)
      refine op_append _ _ 84 rfl _ _ _ _ rfl rfl hrun ?_
      refine hK4 _ _ CZ.out ?_
      clear hK4
      clear hrun hc0
      refine anyC_more 8 2 1 3 rfl (by kernel_rfl) rfl (by decide) (by kernel_rfl) (fun _ _ d _ _ h => by cases d <;> exact h) CZ.out ?_
      simp only [List.drop_succ_cons, List.drop_zero, List.take_succ_cons, List.take_zero]
      iterate 2 (first
        | (apply lexC_want
           · rfl
           · exact fun _ => rfl
           · (intro w' hw'; obtain ⟨f1, f2⟩ := HCF.out w' hw'; go_simp; try rfl)
           simp only [Act.put, List.setIfInBounds_toArray])
        | (apply lexC_skip
           · rfl
           · exact fun _ => rfl
           simp only [Act.put, List.setIfInBounds_toArray]))
      refine lexC_nil ?_
      refine anyC_one (i := 10) (by kernel_rfl) rfl (by rfl) (fun K5 hK5 => ?_)
      go_simp
      rw [← hZ3]
      refine hK5 _ _ C3.out ?_
      clear hK5
      clear hZ3 bf bz
      refine anyC_done (by kernel_rfl) ?_
      have hmf : ∀ (fn : Fn) (first cap : Array Value) (w : World), (Instr.makeFunc fn first cap).run Tryz.prog w = .ok (.func fn first cap) w := fun _ _ _ _ => rfl
      gi_wp2
      go_ret
      exact LookEnd.good HL2.out (List.prefix_append _ _) (HB.out.2.1.trans HA.out.2.1) HA.out.1.bw ⟨_, _, b, rfl, HW3.out.1, HV3.out.1, HW3.out.2, HV3.out.2, HKL.out.2.2, rfl, by simp⟩ (by omega)
    · go_simp
      rw [← hY]
      clear hY
      refine hK2 _ _ CY.out ?_
      clear hK2
      have u0 := PY.out
      refine anyC_one (i := 4) (by kernel_rfl) rfl (by rfl) (fun K6 hK6 => ?_)
      go_simp
      refine hK6 _ _ CY.out ?_
      clear hK6
      clear u0
      refine anyC_one (i := 7) (by kernel_rfl) rfl (by rfl) (fun K7 hK7 => ?_)
      refine op_append _ _ 84 rfl _ _ _ _ rfl rfl hrun ?_
      refine hK7 _ _ CZ.out ?_
      clear hK7
      clear hrun hc0
      refine anyC_more 8 2 1 3 rfl (by kernel_rfl) rfl (by decide) (by kernel_rfl) (fun _ _ d _ _ h => by cases d <;> exact h) CZ.out ?_
      simp only [List.drop_succ_cons, List.drop_zero, List.take_succ_cons, List.take_zero]
      iterate 2 (first
        | (apply lexC_want
           · rfl
           · exact fun _ => rfl
           · (intro w' hw'; obtain ⟨f1, f2⟩ := HCF.out w' hw'; go_simp; try rfl)
           simp only [Act.put, List.setIfInBounds_toArray])
        | (apply lexC_skip
           · rfl
           · exact fun _ => rfl
           simp only [Act.put, List.setIfInBounds_toArray]))
      refine lexC_nil ?_
      refine anyC_one (i := 10) (by kernel_rfl) rfl (by rfl) (fun K8 hK8 => ?_)
      go_simp
      rw [← hZ3]
      refine hK8 _ _ C3.out ?_
      clear hK8
      clear hZ3 bf bz
      refine anyC_done (by kernel_rfl) ?_
      have hmf : ∀ (fn : Fn) (first cap : Array Value) (w : World), (Instr.makeFunc fn first cap).run Tryz.prog w = .ok (.func fn first cap) w := fun _ _ _ _ => rfl
      gi_wp2
      go_ret
      exact LookEnd.good HL2.out (List.prefix_append _ _) (HB.out.2.1.trans HA.out.2.1) HA.out.1.bw ⟨_, _, b, rfl, HW3.out.1, HV3.out.1, HW3.out.2, HV3.out.2, HKL.out.2.2, rfl, by simp⟩ (by omega)

set_option maxRecDepth 100000 in
set_option maxHeartbeats 8000000 in
theorem look_var {A : Ad} {S : Nat → Prop} (hSn : ∀ b, S b → b < A.n) (m : Nat) (t : Tr) (val : Value) (M : Nat → Prop) (bx : List Nat) (ch : List (Nat × Nat)) (s : St) (p : List Nat) (i : Nat) (w : World) (hr : Tr.right m t = true) (hbd : Tr.Bd [t]) (hn : NodeR S w val t) (hB : BW A M bx ch s p i w) (hch : ch ≠ []) (hcl : ch.length ≤ 50) (hpl : p.length ≤ 1000) (hmass : s.mass ≤ 10000000) (gk : t.k = 6) :
    Calls Tryz.prog 64 #[ptrV A.wb, val] w fun e w' => LookEnd A Bn.look2 M bx ch s p i t w e w' := by
  obtain ⟨pv, mv, sv, hB⟩ := hB
  have ht6 := (hbd.mem (List.mem_singleton.2 rfl)).1
  have h2 : t.k = 2 → t.kids ≠ [] := by
    cases m with
    | zero => rw [Tr.right] at hr; cases hr
    | succ m => exact func_kids hr
  have hlow : ∀ b, S b → b < w.heap.size := fun b hb => Nat.lt_of_lt_of_le (hSn b hb) hB.low
  have hnl : NodeR (lowS w.heap.size) w val t := by
    obtain ⟨x, e1, e2, e3, e4⟩ := hn
    exact ⟨x, e1, e2, e3, e4.mono hlow⟩
  obtain ⟨⟨k, tx, nn, kv, kids⟩, rfl, ht, hf, hrow⟩ := hn
  obtain ⟨ao, cap, hkv⟩ := hrow.slice
  simp only at hkv
  subst hkv
  have hk : t.k = k := by rw [← ht]; rfl
  have htt : t.t = tx := by rw [← ht]; rfl
  have htl : t.kids.length = kids.length := by rw [← ht]; rfl
  simp only [N1.cells] at hnl ⊢
  obtain ⟨N, hN⟩ : ∃ N, N = kids.length := ⟨_, rfl⟩
  rw [← hN] at hnl htl ⊢
  obtain ⟨X1, hX1⟩ : ∃ X, X = w.alloc (.cells #[ptrV A.wb] 82) := ⟨_, rfl⟩
  obtain ⟨X, hX⟩ : ∃ X, X = X1.alloc (.cells #[.int .u8 k, .string (Ln.bs tx), .int .i64 nn, .slice ao N cap] 25) := ⟨_, rfl⟩
  have s1 : X1.heap.size = w.heap.size + 1 := by rw [hX1, World.size_alloc]
  have b1 : Below w.heap.size w X1 := hX1 ▸ below_new w _
  have b2 : Below X1.heap.size X1 X := hX ▸ below_new X1 _
  have bX : Below w.heap.size w X := below_then b1 b2
  have x0 : X.heap[w.heap.size]? = some (.cells #[ptrV A.wb] 82 (0, 0)) := (b2.block _ (by omega)).trans (by rw [hX1]; exact World.alloc_heap_new w _)
  have xn : X.heap[w.heap.size + 1]? = some (.cells #[.int .u8 k, .string (Ln.bs tx), .int .i64 nn, .slice ao N cap] 25 (0, 0)) := by rw [hX, ← s1]; exact World.alloc_heap_new X1 _
  have n0 : ¬ M w.heap.size := fun e => by have := (hB.lt _ e).2; omega
  have n1 : ¬ M (w.heap.size + 1) := fun e => by have := (hB.lt _ e).2; omega
  have fX : Foot M M w X := Foot.of_below bX
  have HB : Hid (BAt A M bx ch s p i X pv mv sv ∧ Foot M M w X ∧ s.mass ≤ 10000000 ∧ p.length ≤ 1000 ∧ ch ≠ [] ∧ ch.length ≤ 50) := ⟨hB.below bX, fX, hmass, hpl, hch, hcl⟩
  have HN : Hid (NodeR (lowS X.heap.size) X (.agg #[.int .u8 k, .string (Ln.bs tx), .int .i64 nn, .slice ao N cap]) t) := hnl.at bX
  have HT : Hid (tx.length ≤ 1000000 ∧ (t.k = 2 → t.kids ≠ []) ∧ t.k = k ∧ t.t = tx ∧ t.kids.length = N ∧ Tr.Bd [t]) := ⟨htt ▸ ht6, h2, hk, htt, htl, hbd⟩
  have HXB : Hid (X.heap[w.heap.size]? = some (.cells #[ptrV A.wb] 82 (0, 0)) ∧ ¬ M w.heap.size ∧ X.heap[w.heap.size + 1]? = some (.cells #[.int .u8 k, .string (Ln.bs tx), .int .i64 nn, .slice ao N cap] 25 (0, 0)) ∧ ¬ M (w.heap.size + 1)) := ⟨x0, n0, xn, n1⟩
  have HCC : Hid (∀ {M' : Nat → Prop} {z : World}, Foot M M' X z → z.cell? ⟨w.heap.size, 0, none⟩ = some (ptrV A.wb) ∧ z.cell? ⟨w.heap.size + 1, 0, none⟩ = some (.int .u8 k) ∧ z.cell? ⟨w.heap.size + 1, 1, none⟩ = some (.string (Ln.bs tx)) ∧ z.cell? ⟨w.heap.size + 1, 2, none⟩ = some (.int .i64 nn) ∧ z.cell? ⟨w.heap.size + 1, 3, none⟩ = some (.slice ao N cap)) := fun hf => ⟨cells_at (hf.cell x0 n0).1 rfl, cells_at (hf.cell xn n1).1 rfl, cells_at (hf.cell xn n1).1 rfl, cells_at (hf.cell xn n1).1 rfl, cells_at (hf.cell xn n1).1 rfl⟩
  have c0 : X.cell? ⟨w.heap.size, 0, none⟩ = some (ptrV A.wb) := cells_at x0 rfl
  have ck : X.cell? ⟨w.heap.size + 1, 0, none⟩ = some (.int .u8 k) := cells_at xn rfl
  have ct : X.cell? ⟨w.heap.size + 1, 1, none⟩ = some (.string (Ln.bs tx)) := cells_at xn rfl
  have cn : X.cell? ⟨w.heap.size + 1, 2, none⟩ = some (.int .i64 nn) := cells_at xn rfl
  have cv : X.cell? ⟨w.heap.size + 1, 3, none⟩ = some (.slice ao N cap) := cells_at xn rfl
  rw [hX, hX1] at c0 ck ct cn cv
  have hXX : X = (w.alloc (.cells #[ptrV A.wb] 82)).alloc (.cells #[.int .u8 k, .string (Ln.bs tx), .int .i64 nn, .slice ao N cap] 25) := by rw [hX, hX1]
  clear hB ht6 h2 hlow hnl ht hf hrow htt htl hN s1 b1 b2 bX x0 xn n0 n1 fX hpl hmass hr hbd hch hcl hX hX1
  have HL : Hid (Bn.look2 t p s = match Bn.find (s.own.headD []) tx with
    | some _ => .error 110
    | none => .ok ({ s with bds := s.bds ++ [⟨p, t.t, [], 0⟩], met := s.met ++ [s.bds.length] }, .declare s.bds.length)) := by
    show _ = _
    rw [← HT.out.2.2.2.1]
    unfold Bn.look2
    rw [if_neg (by rw [gk]; decide), if_neg (by rw [gk]; decide), if_pos (by rw [gk]; decide)]
    rfl
  have HG : Hid (t.k ≠ 2) := by show _ ≠ _; rw [gk]; decide
  rw [hk] at gk
  subst gk
  clear hk
  obtain ⟨x, rc, rfl⟩ : ∃ x rc, ch = x :: rc := by
    cases ch with
    | nil => exact absurd rfl HB.out.2.2.2.2.1
    | cons y r => exact ⟨y, r, rfl⟩
  obtain ⟨sb, hsv, hc1⟩ := HB.out.1.chain
  obtain ⟨sc, rr, hown⟩ : ∃ sc rr, s.own = sc :: rr := by
    cases ho : s.own with
    | nil => rw [ho] at hc1; exact hc1.elim
    | cons a b => exact ⟨a, b, rfl⟩
  have hsx : sv = ptrV x.1 := by
    rw [hown] at hc1
    obtain ⟨e, -⟩ := hc1
    injection e with _ e
    rw [hsv, e]
  subst hsx
  have hBD : BAt A M bx (x :: rc) s p i X.drew pv mv (ptrV x.1) := HB.out.1.below (below_draw X 1)
  have HFR : Hid (_) := free_any hBD hown (by have := HB.out.2.2.2.2.2; simp at this; omega) tx HT.out.1
  have HOW : Hid (s.own.headD [] = sc) := by show _ = _; rw [hown]; rfl
  have HBD : Hid (BAt A M bx (x :: rc) s p i X.drew pv mv (ptrV x.1) ∧ Foot M M X X.drew ∧ Below X.heap.size X X.drew) := ⟨hBD, Foot.of_below (below_draw X 1), below_draw X 1⟩
  have HCF : Hid (∀ z : World, (z.cell? ⟨w.heap.size, 0, none⟩ = some (ptrV A.wb) ∧ z.cell? ⟨A.wb, 0, none⟩ = some (ptrV x.1) ∧ z.cell? ⟨w.heap.size + 1, 1, none⟩ = some (.string (Ln.bs tx))) → (z.cell? ⟨w.heap.size, 0, none⟩ = some (ptrV A.wb) ∧ z.cell? ⟨A.wb, 0, none⟩ = some (ptrV x.1) ∧ z.cell? ⟨w.heap.size + 1, 1, none⟩ = some (.string (Ln.bs tx)))) := fun _ h => h
  have HD0 : Hid ((X.drew.cell? ⟨w.heap.size, 0, none⟩ = some (ptrV A.wb) ∧ X.drew.cell? ⟨A.wb, 0, none⟩ = some (ptrV x.1) ∧ X.drew.cell? ⟨w.heap.size + 1, 1, none⟩ = some (.string (Ln.bs tx)))) := ⟨(HCC.out HBD.out.2.1).1, cells_at hBD.walk.1 rfl, (HCC.out HBD.out.2.1).2.2.1⟩
  clear hBD hsv hc1 hown
  refine (callsIn_wide (n := 3)).1 ?_
  refine callsIn_of_wp Tryz.func64 rfl trivial ?_ rfl
  simp only [Tryz.ntmps64, List.size_toArray, List.length_cons, List.length_nil, Nat.reduceAdd, Nat.reduceSub, Array.replicate_succ, Array.replicate_zero, List.push_toArray, List.append_toArray, List.nil_append, List.cons_append]
  gi_wp2
  rw [← hXX]
  clear hXX c0 ck ct cn cv
  refine region_lex (fun z => (z.cell? ⟨w.heap.size, 0, none⟩ = some (ptrV A.wb) ∧ z.cell? ⟨A.wb, 0, none⟩ = some (ptrV x.1) ∧ z.cell? ⟨w.heap.size + 1, 1, none⟩ = some (.string (Ln.bs tx)))) 6 1 rfl (by kernel_rfl) (by kernel_rfl) (by kernel_rfl) (by kernel_rfl) (fun _ _ d _ _ h => by cases d <;> exact h) HD0.out ?_
  simp only [List.take_succ_cons, List.take_zero]
  iterate 6 (first
    | (apply lexC_want
       · rfl
       · exact fun _ => rfl
       · (intro w' hw'; obtain ⟨f1, f2, f3⟩ := HCF.out w' hw'; go_simp; try rfl)
       simp only [Act.put, List.setIfInBounds_toArray, List.set_cons_zero, List.set_cons_succ])
    | (apply lexC_skip
       · rfl
       · exact fun _ => rfl
       simp only [Act.put, List.setIfInBounds_toArray, List.set_cons_zero, List.set_cons_succ]))
  refine lexC_nil ?_
  refine anyC_one (i := 6) (by kernel_rfl) rfl (by rfl) (fun K1 hK1 => ?_)
  go_simp
  refine ⟨trivial, ?_⟩
  refine (callsIn_wide.2 HFR.out).mono ?_
  rintro e w1 ⟨rfl, hend⟩
  cases hfd : Bn.find sc tx with
  | some kb =>
    rw [hfd] at hend
    obtain rfl := hend
    have hb0 : Bn.look2 t p s = .error 110 := by rw [HL.out, HOW.out, hfd]
    exact ⟨rfl, LookEnd.bad hb0 (List.prefix_refl _) (HB.out.2.1.trans HBD.out.2.1)⟩
  | none =>
    rw [hfd] at hend
    obtain rfl := hend
    have HL2 : Hid (Bn.look2 t p s = .ok ({ s with bds := s.bds ++ [⟨p, t.t, [], 0⟩], met := s.met ++ [s.bds.length] }, .declare s.bds.length)) := by show _ = _; rw [HL.out, HOW.out, hfd]
    clear hfd
    refine hK1 _ _ HD0.out ?_
    clear hK1
    refine anyC_done (by kernel_rfl) ?_
    have d0 := (HCC.out HBD.out.2.1).1
    have dk := (HCC.out HBD.out.2.1).2.1
    have dt := (HCC.out HBD.out.2.1).2.2.1
    have dn := (HCC.out HBD.out.2.1).2.2.2.1
    have dv := (HCC.out HBD.out.2.1).2.2.2.2
    have HBI : Hid (_) := binder_any A.wb A.n (ptrV x.1) pv mv i p t _ X.drew HBD.out.1.walk.1 HBD.out.1.path.1 (by have := HB.out.2.2.2.1; omega) (HN.out.at HBD.out.2.2) (by rw [HT.out.2.2.2.1]; exact HT.out.1) HT.out.2.1
    gi_wp2
    refine ⟨trivial, ?_⟩
    refine (callsIn_wide.2 HBI.out).mono ?_
    rintro e w1 ⟨b, v, rfl, hge, hbl, hbox, hown⟩
    clear HBI d0 dk dt dn dv
    rw [if_neg HG.out] at hbox
    have hnew := HBD.out.1.newBinder (d := ⟨p, t.t, [], 0⟩) hbl hge hbox hown rfl (by show t.t.length ≤ _; rw [HT.out.2.2.2.1]; exact HT.out.1)
    obtain ⟨M1, hM1⟩ : ∃ M1 : Nat → Prop, M1 = fun k => M k ∨ k = b := ⟨_, rfl⟩
    rw [← hM1] at hnew
    have hf1 : Foot M M1 X w1 := HBD.out.2.1.trans ⟨hbl.os, hbl.tape, hbl.output, hbl.size, fun k hk _ => hbl.block k hk, fun k e => by rw [hM1] at e; rcases e with e | e; exact .inl e; exact .inr (e ▸ hge)⟩
    have hlen : bx.length = s.bds.length := HB.out.1.bds.len
    obtain ⟨V, hV⟩ : ∃ V, V = w1.alloc (.cells #[ptrV b] 95) := ⟨_, rfl⟩
    have bV : Below w1.heap.size w1 V := hV ▸ below_new w1 _
    have vb : V.heap[w1.heap.size]? = some (.cells #[ptrV b] 95 (0, 0)) := by rw [hV]; exact World.alloc_heap_new w1 _
    have nV : ¬ M1 w1.heap.size := fun e => by have := (hnew.lt _ e).2; omega
    obtain ⟨ma, mc, hms⟩ := slice_shape hnew.met.1
    subst hms
    have HBX : Hid (BAt A M1 (bx ++ [b]) (x :: rc) { s with bds := s.bds ++ [⟨p, t.t, [], 0⟩] } p i V pv (.slice ma s.met.length mc) (ptrV x.1) ∧ Foot M M1 X V ∧ bx ++ [b] = bx ++ [b]) := ⟨hnew.below bV, hf1.trans (Foot.of_below bV), rfl⟩
    have HVB : Hid (V.heap[w1.heap.size]? = some (.cells #[ptrV b] 95 (0, 0)) ∧ ¬ M1 w1.heap.size) := ⟨vb, nV⟩
    have HKL : Hid ((bx ++ [b]).getD s.bds.length 0 = b ∧ s.bds.length < (bx ++ [b]).length ∧ (bx ++ [b])[s.bds.length]? = some b) := ⟨by rw [← hlen]; simp [List.getD_eq_getElem?_getD], by rw [← hlen]; simp, by rw [← hlen]; simp⟩
    clear hge hbl hbox hown hM1 hnew hf1 hlen bV vb nV
    have HCF : Hid (∀ z : World, (z.cell? ⟨w.heap.size, 0, none⟩ = some (ptrV A.wb) ∧ z.cell? ⟨w1.heap.size, 0, none⟩ = some (ptrV b)) → (z.cell? ⟨w.heap.size, 0, none⟩ = some (ptrV A.wb) ∧ z.cell? ⟨w1.heap.size, 0, none⟩ = some (ptrV b))) := fun _ h => h
    have HD0 : Hid (Foot M1 M1 V V.drew ∧ (V.drew.cell? ⟨w.heap.size, 0, none⟩ = some (ptrV A.wb) ∧ V.drew.cell? ⟨w1.heap.size, 0, none⟩ = some (ptrV b))) := ⟨Foot.of_below (below_draw V 1), (HCC.out HBX.out.2.1).1, cells_at HVB.out.1 rfl⟩
    have HPC : Hid (V.drew.cell? ⟨A.wb, 3, none⟩ = some (.slice ma s.met.length mc)) := cells_at HBX.out.1.walk.1 rfl
    have e0 := (HCC.out HBX.out.2.1).1
    gi_wp2
    rw [← hV]
    clear e0 hV
    refine region_lex (fun z => (z.cell? ⟨w.heap.size, 0, none⟩ = some (ptrV A.wb) ∧ z.cell? ⟨w1.heap.size, 0, none⟩ = some (ptrV b))) 4 7 rfl (by kernel_rfl) (by kernel_rfl) (by kernel_rfl) (by kernel_rfl) (fun _ _ d _ _ h => by cases d <;> exact h) HD0.out.2 ?_
    simp only [List.take_succ_cons, List.take_zero]
    iterate 4 (first
      | (apply lexC_want
         · rfl
         · exact fun _ => rfl
         · (intro w' hw'; obtain ⟨f1, f2⟩ := HCF.out w' hw'; go_simp; try rfl)
         simp only [Act.put, List.setIfInBounds_toArray, List.set_cons_zero, List.set_cons_succ])
      | (apply lexC_skip
         · rfl
         · exact fun _ => rfl
         simp only [Act.put, List.setIfInBounds_toArray, List.set_cons_zero, List.set_cons_succ]))
    refine lexC_nil ?_
    refine anyC_more 5 1 6 7 rfl (by kernel_rfl) rfl (by decide) (by kernel_rfl) (fun _ _ d _ _ h => by cases d <;> exact h) HD0.out.2 ?_
    simp only [List.drop_succ_cons, List.drop_zero, List.take_succ_cons, List.take_zero]
    iterate 1 (first
      | (apply lexC_want
         · rfl
         · exact fun _ => rfl
         · (intro w' hw'; obtain ⟨f1, f2⟩ := HCF.out w' hw'; go_simp; try rfl)
         simp only [Act.put, List.setIfInBounds_toArray, List.set_cons_zero, List.set_cons_succ])
      | (apply lexC_skip
         · rfl
         · exact fun _ => rfl
         simp only [Act.put, List.setIfInBounds_toArray, List.set_cons_zero, List.set_cons_succ]))
    refine lexC_nil ?_
    obtain ⟨Y, hY⟩ : ∃ Y, Y = (V.alloc (.cells #[ptrV b] 95)).drew := ⟨_, rfl⟩
    have DY : Below V.heap.size V Y := hY ▸ below_then (below_new V _) (below_draw _ 1)
    have hc0 : ∀ (j : Nat) (u : Value), [ptrV b][j]? = some u → Y.cell? ((⟨V.heap.size, 0, none⟩ : Addr).add j) = some u := by rw [hY]; exact cells_new V [ptrV b] 95
    have hBY := HBX.out.1.below DY
    have fY : Foot M1 M1 V Y := Foot.of_below DY
    obtain ⟨i0, hi0, hz0, hz1, hz2⟩ := info_parts info_bptr'
    obtain ⟨uv', Z, hrun, hown, hgr, -, hat⟩ := run_append_own_at (P := Tryz.prog) Y A.n 84 84 95 i0 (.pointer none) 1 8 Tryz.underlying84 hi0 hz0 hz1 hz2 rfl (by decide) (.slice ma s.met.length mc) s.met.length _ hBY.met.1 ⟨V.heap.size, 0, none⟩ 1 1 [ptrV b] rfl hc0 (by simp [Value.oneCell']) (by have := HB.out.2.2.1; unfold Bn.St.mass at this; unfold maxLen; omega) (by have := HB.out.2.2.1; unfold Bn.St.mass at this; omega) hBY.low
    obtain ⟨ua, uc, hu⟩ := slice_shape hown
    subst hu
    have happ := hBY.meet (k := s.bds.length) HKL.out.2.1 (by rw [HKL.out.1]; exact hown) hgr hat
    obtain ⟨M3, hM3⟩ : ∃ M3 : Nat → Prop, M3 = fun k => M1 k ∨ (Value.slice ua (s.met.length + 1) uc).ownBlock = some k := ⟨_, rfl⟩
    rw [← hM3] at happ
    obtain ⟨Z3, hZ3⟩ : ∃ Z3, Z3 = Z.setCell ⟨A.wb, 3, none⟩ (.slice ua (s.met.length + 1) uc) := ⟨_, rfl⟩
    rw [← hZ3] at happ
    have HA : Hid (BAt A M3 (bx ++ [b]) (x :: rc) { s with bds := s.bds ++ [⟨p, t.t, [], 0⟩], met := s.met ++ [s.bds.length] } p i Z3 pv (.slice ua (s.met.length + 1) uc) (ptrV x.1) ∧ Foot M M3 X Z3 ∧ Foot M1 M3 V Z3) := ⟨happ.1, HBX.out.2.1.trans (fY.trans happ.2), fY.trans happ.2⟩
    have hneM : ∀ k, ¬ M1 k → k < Y.heap.size → Z.heap[k]? = Y.heap[k]? := fun k hk hl => hgr.block k hl (fun e => hk (hBY.met.2.1 k e.symm))
    have hwkZ : Z.heap[A.wb]? = Y.heap[A.wb]? := hgr.block A.wb (Array.getElem?_eq_some_iff.1 hBY.walk.1).1 (fun e => by
      obtain ⟨cs, e2⟩ := owns_ty hBY.met.1 A.wb e.symm
      rw [hBY.walk.1] at e2
      injection e2 with e2
      injection e2 with _ e2 _
      exact absurd e2 (by decide))
    have bf : Z.frozen? ⟨A.wb, 3, none⟩ = false := frozen_of_row Z A.wb 3 _ _ (hwkZ.trans hBY.walk.1)
    have bz : Z.cell? ⟨A.wb, 3, none⟩ = some (.slice ma s.met.length mc) := cells_at (hwkZ.trans hBY.walk.1) rfl
    have hqv := HBX.out.2.1.cell HXB.out.1 HXB.out.2.1
    have hq0 := fY.cell hqv.1 hqv.2
    have hqb := fY.cell HVB.out.1 HVB.out.2
    have CZ : Hid ((Z.cell? ⟨w.heap.size, 0, none⟩ = some (ptrV A.wb) ∧ Z.cell? ⟨w1.heap.size, 0, none⟩ = some (ptrV b))) := ⟨cells_at ((hneM _ hq0.2 (Array.getElem?_eq_some_iff.1 hq0.1).1).trans hq0.1) rfl, cells_at ((hneM _ hqb.2 (Array.getElem?_eq_some_iff.1 hqb.1).1).trans hqb.1) rfl⟩
    have CY : Hid ((Y.cell? ⟨w.heap.size, 0, none⟩ = some (ptrV A.wb) ∧ Y.cell? ⟨w1.heap.size, 0, none⟩ = some (ptrV b))) := ⟨cells_at hq0.1 rfl, cells_at hqb.1 rfl⟩
    have PY : Hid (Y.cell? ⟨A.wb, 3, none⟩ = some (.slice ma s.met.length mc)) := cells_at hBY.walk.1 rfl
    have HV3 : Hid (Z3.heap[w1.heap.size]? = some (.cells #[ptrV b] 95 (0, 0)) ∧ ¬ M3 w1.heap.size) := HA.out.2.2.cell HVB.out.1 HVB.out.2
    have HW3 : Hid (Z3.heap[w.heap.size]? = some (.cells #[ptrV A.wb] 82 (0, 0)) ∧ ¬ M3 w.heap.size) := HA.out.2.1.cell HXB.out.1 HXB.out.2.1
    have C3 : Hid ((Z3.cell? ⟨w.heap.size, 0, none⟩ = some (ptrV A.wb) ∧ Z3.cell? ⟨w1.heap.size, 0, none⟩ = some (ptrV b))) := ⟨cells_at HW3.out.1 rfl, cells_at HV3.out.1 rfl⟩
    clear hBY fY hi0 hz0 hz1 hz2 hown hgr hat happ hneM hwkZ hqv hq0 hqb hM3 DY
    refine anyC_two (i := 4) (j := 6) (by kernel_rfl) rfl rfl (by rfl) (by rfl) (fun K2 hK2 => ?_) (fun K2 hK2 => ?_)
    · skip
      have u0 := HPC.out
      go_simp
      refine hK2 _ _ HD0.out.2 ?_
      clear hK2
      clear u0
      refine anyC_one (i := 6) (by kernel_rfl) rfl (by rfl) (fun K3 hK3 => ?_)
      go_simp
      rw [← hY]
      clear hY
      refine hK3 _ _ CY.out ?_
      clear hK3
      refine anyC_one (i := 7) (by kernel_rfl) rfl (by rfl) (fun K4 hK4 => ?_)
      refine op_append _ _ 84 rfl _ _ _ _ rfl rfl hrun ?_
      refine hK4 _ _ CZ.out ?_
      clear hK4
      clear hrun hc0
      refine anyC_more 8 2 1 3 rfl (by kernel_rfl) rfl (by decide) (by kernel_rfl) (fun _ _ d _ _ h => by cases d <;> exact h) CZ.out ?_
      simp only [List.drop_succ_cons, List.drop_zero, List.take_succ_cons, List.take_zero]
      iterate 2 (first
        | (apply lexC_want
           · rfl
           · exact fun _ => rfl
           · (intro w' hw'; obtain ⟨f1, f2⟩ := HCF.out w' hw'; go_simp; try rfl)
           simp only [Act.put, List.setIfInBounds_toArray])
        | (apply lexC_skip
           · rfl
           · exact fun _ => rfl
           simp only [Act.put, List.setIfInBounds_toArray]))
      refine lexC_nil ?_
      refine anyC_one (i := 10) (by kernel_rfl) rfl (by rfl) (fun K5 hK5 => ?_)
      go_simp
      rw [← hZ3]
      refine hK5 _ _ C3.out ?_
      clear hK5
      clear hZ3 bf bz
      refine anyC_done (by kernel_rfl) ?_
      have hmf : ∀ (fn : Fn) (first cap : Array Value) (w : World), (Instr.makeFunc fn first cap).run Tryz.prog w = .ok (.func fn first cap) w := fun _ _ _ _ => rfl
      gi_wp2
      go_ret
      exact LookEnd.good HL2.out (List.prefix_append _ _) (HB.out.2.1.trans HA.out.2.1) HA.out.1.bw ⟨_, _, b, rfl, HW3.out.1, HV3.out.1, HW3.out.2, HV3.out.2, HKL.out.2.2, rfl, by simp⟩ (by omega)
    · go_simp
      rw [← hY]
      clear hY
      refine hK2 _ _ CY.out ?_
      clear hK2
      have u0 := PY.out
      refine anyC_one (i := 4) (by kernel_rfl) rfl (by rfl) (fun K6 hK6 => ?_)
      go_simp
      refine hK6 _ _ CY.out ?_
      clear hK6
      clear u0
      refine anyC_one (i := 7) (by kernel_rfl) rfl (by rfl) (fun K7 hK7 => ?_)
      refine op_append _ _ 84 rfl _ _ _ _ rfl rfl hrun ?_
      refine hK7 _ _ CZ.out ?_
      clear hK7
      clear hrun hc0
      refine anyC_more 8 2 1 3 rfl (by kernel_rfl) rfl (by decide) (by kernel_rfl) (fun _ _ d _ _ h => by cases d <;> exact h) CZ.out ?_
      simp only [List.drop_succ_cons, List.drop_zero, List.take_succ_cons, List.take_zero]
      iterate 2 (first
        | (apply lexC_want
           · rfl
           · exact fun _ => rfl
           · (intro w' hw'; obtain ⟨f1, f2⟩ := HCF.out w' hw'; go_simp; try rfl)
           simp only [Act.put, List.setIfInBounds_toArray])
        | (apply lexC_skip
           · rfl
           · exact fun _ => rfl
           simp only [Act.put, List.setIfInBounds_toArray]))
      refine lexC_nil ?_
      refine anyC_one (i := 10) (by kernel_rfl) rfl (by rfl) (fun K8 hK8 => ?_)
      go_simp
      rw [← hZ3]
      refine hK8 _ _ C3.out ?_
      clear hK8
      clear hZ3 bf bz
      refine anyC_done (by kernel_rfl) ?_
      have hmf : ∀ (fn : Fn) (first cap : Array Value) (w : World), (Instr.makeFunc fn first cap).run Tryz.prog w = .ok (.func fn first cap) w := fun _ _ _ _ => rfl
      gi_wp2
      go_ret
      exact LookEnd.good HL2.out (List.prefix_append _ _) (HB.out.2.1.trans HA.out.2.1) HA.out.1.bw ⟨_, _, b, rfl, HW3.out.1, HV3.out.1, HW3.out.2, HV3.out.2, HKL.out.2.2, rfl, by simp⟩ (by omega)
end Go.Proofs.YtnndgjnihhafbaaGreatDoor
