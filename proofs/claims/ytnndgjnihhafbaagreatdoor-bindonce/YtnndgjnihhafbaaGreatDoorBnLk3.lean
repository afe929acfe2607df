/-
  What look does at a Func.
-/
import Derived.Test.YtnndgjnihhafbaaGreatDoorBnCalls
namespace Go.Proofs.YtnndgjnihhafbaaGreatDoor
open Go.RowKit Go.Shelf Go.WideMaps
open Bn (Sc Bd St After)

attribute [local go_sem] Oper.semAt_some


theorem info_bptr : (Tryz.prog.info? 95).map (fun i => (i.zero, i.size, i.bytes)) = some (some (.pointer none), 1, 8) := by kernel_rfl

set_option maxRecDepth 100000 in
set_option maxHeartbeats 8000000 in
theorem look_func {A : Ad} {S : Nat → Prop} (hSn : ∀ b, S b → b < A.n) (m : Nat) (t : Tr) (val : Value) (M : Nat → Prop) (bx : List Nat) (ch : List (Nat × Nat)) (s : St) (p : List Nat) (i : Nat) (w : World) (hr : Tr.right m t = true) (hbd : Tr.Bd [t]) (hn : NodeR S w val t) (hB : BW A M bx ch s p i w) (hch : ch ≠ []) (hcl : ch.length ≤ 50) (hpl : p.length ≤ 1000) (hmass : s.mass ≤ 10000000) (g2 : t.k = 2) :
    Calls Tryz.prog 64 #[ptrV A.wb, val] w fun e w' => LookEnd A Bn.look2 M bx ch s p i t w e w' := by
  obtain ⟨pv, mv, sv, hB⟩ := hB
  have ht6 := (hbd.mem (List.mem_singleton.2 rfl)).1
  have h2 : t.k = 2 → t.kids ≠ [] := by
    cases m with
    | zero => rw [Tr.right] at hr; cases hr
    | succ m => exact func_kids hr
  have hlow : ∀ b, S b → b < w.heap.size := fun b hb => Nat.lt_of_lt_of_le (hSn b hb) hB.low
  have hnl : NodeR (lowS w.heap.size) w val t := by
    obtain ⟨x, e1, e2, e3, e4⟩ := hn
    exact ⟨x, e1, e2, e3, e4.mono hlow⟩
  obtain ⟨⟨k, tx, nn, kv, kids⟩, rfl, ht, hf, hrow⟩ := hn
  obtain ⟨ao, cap, hkv⟩ := hrow.slice
  simp only at hkv
  subst hkv
  have hk : t.k = k := by rw [← ht]; rfl
  have htt : t.t = tx := by rw [← ht]; rfl
  have htl : t.kids.length = kids.length := by rw [← ht]; rfl
  simp only [N1.cells] at hnl ⊢
  obtain ⟨N, hN⟩ : ∃ N, N = kids.length := ⟨_, rfl⟩
  rw [← hN] at hnl htl ⊢
  obtain ⟨X1, hX1⟩ : ∃ X, X = w.alloc (.cells #[ptrV A.wb] 82) := ⟨_, rfl⟩
  obtain ⟨X, hX⟩ : ∃ X, X = X1.alloc (.cells #[.int .u8 k, .string (Ln.bs tx), .int .i64 nn, .slice ao N cap] 25) := ⟨_, rfl⟩
  have s1 : X1.heap.size = w.heap.size + 1 := by rw [hX1, World.size_alloc]
  have b1 : Below w.heap.size w X1 := hX1 ▸ below_new w _
  have b2 : Below X1.heap.size X1 X := hX ▸ below_new X1 _
  have bX : Below w.heap.size w X := below_then b1 b2
  have x0 : X.heap[w.heap.size]? = some (.cells #[ptrV A.wb] 82 (0, 0)) := (b2.block _ (by omega)).trans (by rw [hX1]; exact World.alloc_heap_new w _)
  have xn : X.heap[w.heap.size + 1]? = some (.cells #[.int .u8 k, .string (Ln.bs tx), .int .i64 nn, .slice ao N cap] 25 (0, 0)) := by rw [hX, ← s1]; exact World.alloc_heap_new X1 _
  have n0 : ¬ M w.heap.size := fun e => by have := (hB.lt _ e).2; omega
  have n1 : ¬ M (w.heap.size + 1) := fun e => by have := (hB.lt _ e).2; omega
  have fX : Foot M M w X := Foot.of_below bX
  have HB : Hid (BAt A M bx ch s p i X pv mv sv ∧ Foot M M w X ∧ s.mass ≤ 10000000 ∧ p.length ≤ 1000 ∧ ch ≠ [] ∧ ch.length ≤ 50) := ⟨hB.below bX, fX, hmass, hpl, hch, hcl⟩
  have HN : Hid (NodeR (lowS X.heap.size) X (.agg #[.int .u8 k, .string (Ln.bs tx), .int .i64 nn, .slice ao N cap]) t) := hnl.at bX
  have HT : Hid (tx.length ≤ 1000000 ∧ (t.k = 2 → t.kids ≠ []) ∧ t.k = k ∧ t.t = tx ∧ t.kids.length = N ∧ Tr.Bd [t]) := ⟨htt ▸ ht6, h2, hk, htt, htl, hbd⟩
  have HXB : Hid (X.heap[w.heap.size]? = some (.cells #[ptrV A.wb] 82 (0, 0)) ∧ ¬ M w.heap.size ∧ X.heap[w.heap.size + 1]? = some (.cells #[.int .u8 k, .string (Ln.bs tx), .int .i64 nn, .slice ao N cap] 25 (0, 0)) ∧ ¬ M (w.heap.size + 1)) := ⟨x0, n0, xn, n1⟩
  have HCC : Hid (∀ {M' : Nat → Prop} {z : World}, Foot M M' X z → z.cell? ⟨w.heap.size, 0, none⟩ = some (ptrV A.wb) ∧ z.cell? ⟨w.heap.size + 1, 0, none⟩ = some (.int .u8 k) ∧ z.cell? ⟨w.heap.size + 1, 1, none⟩ = some (.string (Ln.bs tx)) ∧ z.cell? ⟨w.heap.size + 1, 2, none⟩ = some (.int .i64 nn) ∧ z.cell? ⟨w.heap.size + 1, 3, none⟩ = some (.slice ao N cap)) := fun hf => ⟨cells_at (hf.cell x0 n0).1 rfl, cells_at (hf.cell xn n1).1 rfl, cells_at (hf.cell xn n1).1 rfl, cells_at (hf.cell xn n1).1 rfl, cells_at (hf.cell xn n1).1 rfl⟩
  have c0 : X.cell? ⟨w.heap.size, 0, none⟩ = some (ptrV A.wb) := cells_at x0 rfl
  have ck : X.cell? ⟨w.heap.size + 1, 0, none⟩ = some (.int .u8 k) := cells_at xn rfl
  have ct : X.cell? ⟨w.heap.size + 1, 1, none⟩ = some (.string (Ln.bs tx)) := cells_at xn rfl
  have cn : X.cell? ⟨w.heap.size + 1, 2, none⟩ = some (.int .i64 nn) := cells_at xn rfl
  have cv : X.cell? ⟨w.heap.size + 1, 3, none⟩ = some (.slice ao N cap) := cells_at xn rfl
  rw [hX, hX1] at c0 ck ct cn cv
  have hXX : X = (w.alloc (.cells #[ptrV A.wb] 82)).alloc (.cells #[.int .u8 k, .string (Ln.bs tx), .int .i64 nn, .slice ao N cap] 25) := by rw [hX, hX1]
  clear hB ht6 h2 hlow hnl ht hf hrow htt htl hN s1 b1 b2 bX x0 xn n0 n1 fX hpl hmass hr hbd hch hcl hX hX1
  have HL : Hid (Bn.look2 t p s = match Bn.find s.fns tx with
    | none => .error 111
    | some b => .ok ({ s with met := s.met ++ [b], own := [] :: s.own }, .out)) := by
    show _ = _
    rw [← HT.out.2.2.2.1]
    unfold Bn.look2
    rw [if_pos g2]
    rfl
  rw [hk] at g2
  subst g2
  clear hk
  have hBX := HB.out.1
  have hBD : BAt A M bx ch s p i X.drew pv mv sv := hBX.below (below_draw X 1)
  obtain ⟨sb, rfl, hc1⟩ := hBX.chain
  obtain ⟨T, v, m0, hsc, -, -⟩ := chain_open HB.out.2.2.2.2.1 hc1 HB.out.2.2.2.2.2
  obtain ⟨sb2, e2, hc2⟩ := hBD.chain
  obtain rfl : sb = sb2 := by injection e2 with e2; injection e2 with e2; injection e2
  obtain ⟨T2, v2, m2, hsc2, hfn, -⟩ := chain_open HB.out.2.2.2.2.1 hc2 HB.out.2.2.2.2.2
  obtain ⟨rfl, rfl⟩ : T = T2 ∧ v = v2 := by
    have := hsc.symm.trans (show X.heap[sb]? = _ from hsc2)
    injection this with this; injection this with this _ _; injection this with this; injection this with this _; injection this with a b; exact ⟨a, b⟩
  have HFN : Hid (_) := ffunction_any A.fb A.wb A.fm i bx s.fns tx (ptrV sb) pv mv X.drew hBD.file.1 hBD.walk.1 hBD.fns.1 HT.out.1
  obtain ⟨ma, mc, hms⟩ := slice_shape hBX.met.1
  subst hms
  have HBX : Hid (BAt A M bx ch s p i X pv (.slice ma s.met.length mc) (ptrV sb) ∧ BAt A M bx ch s p i X.drew pv (.slice ma s.met.length mc) (ptrV sb) ∧ Foot M M X X.drew ∧ X.heap[sb]? = some (.cells #[.iface T v, m0] 130 (0, 0))) := ⟨hBX, hBD, Foot.of_below (below_draw X 1), hsc⟩
  have HCF : Hid (∀ z : World, (z.cell? ⟨w.heap.size, 0, none⟩ = some (ptrV A.wb) ∧ z.cell? ⟨A.wb, 0, none⟩ = some (ptrV sb) ∧ z.cell? ⟨sb, 0, none⟩ = some (.iface T v) ∧ z.cell? ⟨w.heap.size + 1, 1, none⟩ = some (.string (Ln.bs tx))) → (z.cell? ⟨w.heap.size, 0, none⟩ = some (ptrV A.wb) ∧ z.cell? ⟨A.wb, 0, none⟩ = some (ptrV sb) ∧ z.cell? ⟨sb, 0, none⟩ = some (.iface T v) ∧ z.cell? ⟨w.heap.size + 1, 1, none⟩ = some (.string (Ln.bs tx)))) := fun _ h => h
  have HSB : Hid (∀ {M' : Nat → Prop} {z : World}, Foot M M' X z → ¬ M sb → z.cell? ⟨sb, 0, none⟩ = some (.iface T v)) := fun hf hn => cells_at (hf.cell hsc hn).1 rfl
  have HNS : Hid (¬ M sb) := by
    obtain ⟨y, r, rfl⟩ : ∃ y r, ch = y :: r := by
      cases ch with
      | nil => exact absurd rfl HB.out.2.2.2.2.1
      | cons y r => exact ⟨y, r, rfl⟩
    show ¬ _
    cases hown : s.own with
    | nil => rw [hown] at hc1; exact hc1.elim
    | cons sc rr =>
      rw [hown] at hc1
      obtain ⟨e, hn, -⟩ := hc1
      injection e with _ e
      injection e with e
      injection e with e
      injection e with e
      rw [e]; exact hn
  have HD0 : Hid ((X.drew.cell? ⟨w.heap.size, 0, none⟩ = some (ptrV A.wb) ∧ X.drew.cell? ⟨A.wb, 0, none⟩ = some (ptrV sb) ∧ X.drew.cell? ⟨sb, 0, none⟩ = some (.iface T v) ∧ X.drew.cell? ⟨w.heap.size + 1, 1, none⟩ = some (.string (Ln.bs tx)))) := by
    refine ⟨(HCC.out HBX.out.2.2.1).1, cells_at hBD.walk.1 rfl, cells_at (show X.heap[sb]? = _ from hsc) rfl, (HCC.out HBX.out.2.2.1).2.2.1⟩
  have HPC : Hid (X.drew.cell? ⟨A.wb, 3, none⟩ = some (.slice ma s.met.length mc)) := cells_at hBD.walk.1 rfl
  clear hBX hBD hc1 hsc e2 hc2 hsc2
  refine (callsIn_wide (n := 3)).1 ?_
  refine callsIn_of_wp Tryz.func64 rfl trivial ?_ rfl
  simp only [Tryz.ntmps64, List.size_toArray, List.length_cons, List.length_nil, Nat.reduceAdd, Nat.reduceSub, Array.replicate_succ, Array.replicate_zero, List.push_toArray, List.append_toArray, List.nil_append, List.cons_append]
  gi_wp2
  rw [← hXX]
  clear hXX c0 ck ct cn cv
  refine region_lex (fun z => (z.cell? ⟨w.heap.size, 0, none⟩ = some (ptrV A.wb) ∧ z.cell? ⟨A.wb, 0, none⟩ = some (ptrV sb) ∧ z.cell? ⟨sb, 0, none⟩ = some (.iface T v) ∧ z.cell? ⟨w.heap.size + 1, 1, none⟩ = some (.string (Ln.bs tx)))) 4 16 rfl (by kernel_rfl) (by kernel_rfl) (by kernel_rfl) (by kernel_rfl) (fun _ _ d _ _ h => by cases d <;> exact h) HD0.out ?_
  simp only [List.take_succ_cons, List.take_zero]
  iterate 4 (first
    | (apply lexC_want
       · rfl
       · exact fun _ => rfl
       · (intro w' hw'; obtain ⟨f1, f2, f3, f4⟩ := HCF.out w' hw'; go_simp; try rfl)
       simp only [Act.put, List.setIfInBounds_toArray, List.set_cons_zero, List.set_cons_succ])
    | (apply lexC_skip
       · rfl
       · exact fun _ => rfl
       simp only [Act.put, List.setIfInBounds_toArray, List.set_cons_zero, List.set_cons_succ]))
  refine lexC_nil ?_
  refine anyC_more 5 9 7 16 rfl (by kernel_rfl) rfl (by decide) (by kernel_rfl) (fun _ _ d _ _ h => by cases d <;> exact h) HD0.out ?_
  simp only [List.drop_succ_cons, List.drop_zero, List.take_succ_cons, List.take_zero]
  iterate 9 (first
    | (apply lexC_want
       · rfl
       · exact fun _ => rfl
       · (intro w' hw'; obtain ⟨f1, f2, f3, f4⟩ := HCF.out w' hw'; go_simp; try rfl)
       simp only [Act.put, List.setIfInBounds_toArray, List.set_cons_zero, List.set_cons_succ])
    | (apply lexC_skip
       · rfl
       · exact fun _ => rfl
       simp only [Act.put, List.setIfInBounds_toArray, List.set_cons_zero, List.set_cons_succ]))
  refine lexC_nil ?_
  refine anyC_two (i := 4) (j := 14) (by kernel_rfl) rfl rfl (by rfl) (by rfl) (fun K1 hK1 => ?_) (fun K1 hK1 => ?_)
  · skip
    have u0 := HPC.out
    go_simp
    refine hK1 _ _ HD0.out ?_
    clear hK1
    clear u0
    refine anyC_one (i := 14) (by kernel_rfl) rfl (by rfl) (fun K2 hK2 => ?_)
    go_simp
    refine ⟨trivial, ?_⟩
    refine (callsIn_wide.2 HFN.out).mono ?_
    rintro e w1 ⟨rfl, hend⟩
    cases hfd : Bn.find s.fns tx with
    | none =>
      rw [hfd] at hend
      obtain rfl := hend
      have hb0 : Bn.look2 t p s = .error 111 := by rw [HL.out, hfd]
      exact ⟨rfl, LookEnd.bad hb0 (List.prefix_refl _) (HB.out.2.1.trans HBX.out.2.2.1)⟩
    | some kb =>
      rw [hfd] at hend
      obtain rfl := hend
      obtain ⟨xm, hxm, hxk⟩ := bfind_mem hfd
      have HKL : Hid (kb < bx.length) := show kb < bx.length from hxk ▸ HBX.out.2.1.fns.1.2 xm hxm
      have HL2 : Hid (Bn.look2 t p s = .ok ({ s with met := s.met ++ [kb], own := [] :: s.own }, .out)) := by show _ = _; rw [HL.out, hfd]
      obtain ⟨b, hb⟩ : ∃ b, b = bx.getD kb 0 := ⟨_, rfl⟩
      have HBK : Hid (b = bx.getD kb 0) := hb
      rw [← hb]
      clear hfd hxm hxk hb
      refine hK2 _ _ HD0.out ?_
      clear hK2
      obtain ⟨Y, hY⟩ : ∃ Y, Y = (X.alloc (.cells #[ptrV b] 95)).drew := ⟨_, rfl⟩
      have DY : Below X.heap.size X Y := hY ▸ below_then (below_new X _) (below_draw _ 1)
      have hc0 : ∀ (j : Nat) (u : Value), [ptrV b][j]? = some u → Y.cell? ((⟨X.heap.size, 0, none⟩ : Addr).add j) = some u := by rw [hY]; exact cells_new X [ptrV b] 95
      have hBY := HBX.out.1.below DY
      have fY : Foot M M X Y := Foot.of_below DY
      obtain ⟨i0, hi0, hz0, hz1, hz2⟩ := info_parts info_bptr
      obtain ⟨uv', Z, hrun, hown, hgr, -, hat⟩ := run_append_own_at (P := Tryz.prog) Y A.n 84 84 95 i0 (.pointer none) 1 8 Tryz.underlying84 hi0 hz0 hz1 hz2 rfl (by decide) (.slice ma s.met.length mc) s.met.length _ hBY.met.1 ⟨X.heap.size, 0, none⟩ 1 1 [ptrV b] rfl hc0 (by simp [Value.oneCell']) (by have := HB.out.2.2.1; unfold Bn.St.mass at this; unfold maxLen; omega) (by have := HB.out.2.2.1; unfold Bn.St.mass at this; omega) hBY.low
      obtain ⟨ua, uc, hu⟩ := slice_shape hown
      subst hu
      have happ := hBY.meet (k := kb) HKL.out (by rw [← HBK.out]; exact hown) hgr hat
      obtain ⟨M3, hM3⟩ : ∃ M3 : Nat → Prop, M3 = fun k => M k ∨ (Value.slice ua (s.met.length + 1) uc).ownBlock = some k := ⟨_, rfl⟩
      rw [← hM3] at happ
      obtain ⟨Z3, hZ3⟩ : ∃ Z3, Z3 = Z.setCell ⟨A.wb, 3, none⟩ (.slice ua (s.met.length + 1) uc) := ⟨_, rfl⟩
      rw [← hZ3] at happ
      have HA : Hid (BAt A M3 bx ch { s with met := s.met ++ [kb] } p i Z3 pv (.slice ua (s.met.length + 1) uc) (ptrV sb) ∧ Foot M M3 X Z3) := ⟨happ.1, fY.trans happ.2⟩
      have hneM : ∀ k, ¬ M k → k < Y.heap.size → Z.heap[k]? = Y.heap[k]? := fun k hk hl => hgr.block k hl (fun e => hk (hBY.met.2.1 k e.symm))
      have hwkZ : Z.heap[A.wb]? = Y.heap[A.wb]? := hgr.block A.wb (Array.getElem?_eq_some_iff.1 hBY.walk.1).1 (fun e => by
        obtain ⟨cs, e2⟩ := owns_ty hBY.met.1 A.wb e.symm
        rw [hBY.walk.1] at e2
        injection e2 with e2
        injection e2 with _ e2 _
        exact absurd e2 (by decide))
      have bf : Z.frozen? ⟨A.wb, 3, none⟩ = false := frozen_of_row Z A.wb 3 _ _ (hwkZ.trans hBY.walk.1)
      have bz : Z.cell? ⟨A.wb, 3, none⟩ = some (.slice ma s.met.length mc) := cells_at (hwkZ.trans hBY.walk.1) rfl
      have hq0 := fY.cell HXB.out.1 HXB.out.2.1
      have hqn := fY.cell HXB.out.2.2.1 HXB.out.2.2.2
      have hqs := fY.cell HBX.out.2.2.2 HNS.out
      have CZ : Hid ((Z.cell? ⟨w.heap.size, 0, none⟩ = some (ptrV A.wb) ∧ Z.cell? ⟨A.wb, 0, none⟩ = some (ptrV sb) ∧ Z.cell? ⟨sb, 0, none⟩ = some (.iface T v) ∧ Z.cell? ⟨w.heap.size + 1, 1, none⟩ = some (.string (Ln.bs tx)))) := ⟨cells_at ((hneM _ hq0.2 (Array.getElem?_eq_some_iff.1 hq0.1).1).trans hq0.1) rfl, cells_at (hwkZ.trans hBY.walk.1) rfl, cells_at ((hneM _ hqs.2 (Array.getElem?_eq_some_iff.1 hqs.1).1).trans hqs.1) rfl, cells_at ((hneM _ hqn.2 (Array.getElem?_eq_some_iff.1 hqn.1).1).trans hqn.1) rfl⟩
      have CY : Hid ((Y.cell? ⟨w.heap.size, 0, none⟩ = some (ptrV A.wb) ∧ Y.cell? ⟨A.wb, 0, none⟩ = some (ptrV sb) ∧ Y.cell? ⟨sb, 0, none⟩ = some (.iface T v) ∧ Y.cell? ⟨w.heap.size + 1, 1, none⟩ = some (.string (Ln.bs tx)))) := ⟨(HCC.out fY).1, cells_at hBY.walk.1 rfl, cells_at hqs.1 rfl, (HCC.out fY).2.2.1⟩
      have PY : Hid (Y.cell? ⟨A.wb, 3, none⟩ = some (.slice ma s.met.length mc)) := cells_at hBY.walk.1 rfl
      have C3 : Hid ((Z3.cell? ⟨w.heap.size, 0, none⟩ = some (ptrV A.wb) ∧ Z3.cell? ⟨A.wb, 0, none⟩ = some (ptrV sb) ∧ Z3.cell? ⟨sb, 0, none⟩ = some (.iface T v) ∧ Z3.cell? ⟨w.heap.size + 1, 1, none⟩ = some (.string (Ln.bs tx)))) := ⟨(HCC.out HA.out.2).1, cells_at HA.out.1.walk.1 rfl, HSB.out HA.out.2 HNS.out, (HCC.out HA.out.2).2.2.1⟩
      have HIN : Hid (_) := inner_any HA.out.1.bw HB.out.2.2.2.2.1
      have c30 := (HCC.out HA.out.2).1
      clear hBY fY hi0 hz0 hz1 hz2 hown hgr hat happ hneM hwkZ hq0 hqn hqs hM3 DY
      refine anyC_one (i := 15) (by kernel_rfl) rfl (by rfl) (fun K3 hK3 => ?_)
      go_simp
      rw [← hY]
      clear hY
      refine hK3 _ _ CY.out ?_
      clear hK3
      refine anyC_one (i := 16) (by kernel_rfl) rfl (by rfl) (fun K4 hK4 => ?_)
      refine op_append _ _ 84 rfl _ _ _ _ rfl rfl hrun ?_
      refine hK4 _ _ CZ.out ?_
      clear hK4
      clear hrun hc0
      refine anyC_more 17 2 1 3 rfl (by kernel_rfl) rfl (by decide) (by kernel_rfl) (fun _ _ d _ _ h => by cases d <;> exact h) CZ.out ?_
      simp only [List.drop_succ_cons, List.drop_zero, List.take_succ_cons, List.take_zero]
      iterate 2 (first
        | (apply lexC_want
           · rfl
           · exact fun _ => rfl
           · (intro w' hw'; obtain ⟨f1, f2, f3, f4⟩ := HCF.out w' hw'; go_simp; try rfl)
           simp only [Act.put, List.setIfInBounds_toArray])
        | (apply lexC_skip
           · rfl
           · exact fun _ => rfl
           simp only [Act.put, List.setIfInBounds_toArray]))
      refine lexC_nil ?_
      refine anyC_one (i := 19) (by kernel_rfl) rfl (by rfl) (fun K5 hK5 => ?_)
      go_simp
      rw [← hZ3]
      refine hK5 _ _ C3.out ?_
      clear hK5
      clear hZ3 bf bz
      refine anyC_done (by kernel_rfl) ?_
      gi_wp2
      refine ⟨trivial, ?_⟩
      refine (callsIn_wide.2 HIN.out).mono ?_
      rintro e w2 ⟨M', ch1, fv, rfl, hB2, hf2, hA2⟩
      have HE : Hid (BW A M' bx ch1 { s with met := s.met ++ [kb], own := [] :: s.own } p i w2 ∧ Foot M M' w w2 ∧ AfterAt A bx M' .out fv ch1 ch w2) := ⟨hB2, HB.out.2.1.trans (HA.out.2.trans hf2), hA2⟩
      clear hB2 hf2 hA2
      gi_wp2
      go_ret
      exact LookEnd.good HL2.out (List.prefix_refl _) HE.out.2.1 HE.out.1 HE.out.2.2 (by have := HE.out.2.2.out_len; omega)
  · go_simp
    refine ⟨trivial, ?_⟩
    refine (callsIn_wide.2 HFN.out).mono ?_
    rintro e w1 ⟨rfl, hend⟩
    cases hfd : Bn.find s.fns tx with
    | none =>
      rw [hfd] at hend
      obtain rfl := hend
      have hb0 : Bn.look2 t p s = .error 111 := by rw [HL.out, hfd]
      exact ⟨rfl, LookEnd.bad hb0 (List.prefix_refl _) (HB.out.2.1.trans HBX.out.2.2.1)⟩
    | some kb =>
      rw [hfd] at hend
      obtain rfl := hend
      obtain ⟨xm, hxm, hxk⟩ := bfind_mem hfd
      have HKL : Hid (kb < bx.length) := show kb < bx.length from hxk ▸ HBX.out.2.1.fns.1.2 xm hxm
      have HL2 : Hid (Bn.look2 t p s = .ok ({ s with met := s.met ++ [kb], own := [] :: s.own }, .out)) := by show _ = _; rw [HL.out, hfd]
      obtain ⟨b, hb⟩ : ∃ b, b = bx.getD kb 0 := ⟨_, rfl⟩
      have HBK : Hid (b = bx.getD kb 0) := hb
      rw [← hb]
      clear hfd hxm hxk hb
      refine hK1 _ _ HD0.out ?_
      clear hK1
      obtain ⟨Y, hY⟩ : ∃ Y, Y = (X.alloc (.cells #[ptrV b] 95)).drew := ⟨_, rfl⟩
      have DY : Below X.heap.size X Y := hY ▸ below_then (below_new X _) (below_draw _ 1)
      have hc0 : ∀ (j : Nat) (u : Value), [ptrV b][j]? = some u → Y.cell? ((⟨X.heap.size, 0, none⟩ : Addr).add j) = some u := by rw [hY]; exact cells_new X [ptrV b] 95
      have hBY := HBX.out.1.below DY
      have fY : Foot M M X Y := Foot.of_below DY
      obtain ⟨i0, hi0, hz0, hz1, hz2⟩ := info_parts info_bptr
      obtain ⟨uv', Z, hrun, hown, hgr, -, hat⟩ := run_append_own_at (P := Tryz.prog) Y A.n 84 84 95 i0 (.pointer none) 1 8 Tryz.underlying84 hi0 hz0 hz1 hz2 rfl (by decide) (.slice ma s.met.length mc) s.met.length _ hBY.met.1 ⟨X.heap.size, 0, none⟩ 1 1 [ptrV b] rfl hc0 (by simp [Value.oneCell']) (by have := HB.out.2.2.1; unfold Bn.St.mass at this; unfold maxLen; omega) (by have := HB.out.2.2.1; unfold Bn.St.mass at this; omega) hBY.low
      obtain ⟨ua, uc, hu⟩ := slice_shape hown
      subst hu
      have happ := hBY.meet (k := kb) HKL.out (by rw [← HBK.out]; exact hown) hgr hat
      obtain ⟨M3, hM3⟩ : ∃ M3 : Nat → Prop, M3 = fun k => M k ∨ (Value.slice ua (s.met.length + 1) uc).ownBlock = some k := ⟨_, rfl⟩
      rw [← hM3] at happ
      obtain ⟨Z3, hZ3⟩ : ∃ Z3, Z3 = Z.setCell ⟨A.wb, 3, none⟩ (.slice ua (s.met.length + 1) uc) := ⟨_, rfl⟩
      rw [← hZ3] at happ
      have HA : Hid (BAt A M3 bx ch { s with met := s.met ++ [kb] } p i Z3 pv (.slice ua (s.met.length + 1) uc) (ptrV sb) ∧ Foot M M3 X Z3) := ⟨happ.1, fY.trans happ.2⟩
      have hneM : ∀ k, ¬ M k → k < Y.heap.size → Z.heap[k]? = Y.heap[k]? := fun k hk hl => hgr.block k hl (fun e => hk (hBY.met.2.1 k e.symm))
      have hwkZ : Z.heap[A.wb]? = Y.heap[A.wb]? := hgr.block A.wb (Array.getElem?_eq_some_iff.1 hBY.walk.1).1 (fun e => by
        obtain ⟨cs, e2⟩ := owns_ty hBY.met.1 A.wb e.symm
        rw [hBY.walk.1] at e2
        injection e2 with e2
        injection e2 with _ e2 _
        exact absurd e2 (by decide))
      have bf : Z.frozen? ⟨A.wb, 3, none⟩ = false := frozen_of_row Z A.wb 3 _ _ (hwkZ.trans hBY.walk.1)
      have bz : Z.cell? ⟨A.wb, 3, none⟩ = some (.slice ma s.met.length mc) := cells_at (hwkZ.trans hBY.walk.1) rfl
      have hq0 := fY.cell HXB.out.1 HXB.out.2.1
      have hqn := fY.cell HXB.out.2.2.1 HXB.out.2.2.2
      have hqs := fY.cell HBX.out.2.2.2 HNS.out
      have CZ : Hid ((Z.cell? ⟨w.heap.size, 0, none⟩ = some (ptrV A.wb) ∧ Z.cell? ⟨A.wb, 0, none⟩ = some (ptrV sb) ∧ Z.cell? ⟨sb, 0, none⟩ = some (.iface T v) ∧ Z.cell? ⟨w.heap.size + 1, 1, none⟩ = some (.string (Ln.bs tx)))) := ⟨cells_at ((hneM _ hq0.2 (Array.getElem?_eq_some_iff.1 hq0.1).1).trans hq0.1) rfl, cells_at (hwkZ.trans hBY.walk.1) rfl, cells_at ((hneM _ hqs.2 (Array.getElem?_eq_some_iff.1 hqs.1).1).trans hqs.1) rfl, cells_at ((hneM _ hqn.2 (Array.getElem?_eq_some_iff.1 hqn.1).1).trans hqn.1) rfl⟩
      have CY : Hid ((Y.cell? ⟨w.heap.size, 0, none⟩ = some (ptrV A.wb) ∧ Y.cell? ⟨A.wb, 0, none⟩ = some (ptrV sb) ∧ Y.cell? ⟨sb, 0, none⟩ = some (.iface T v) ∧ Y.cell? ⟨w.heap.size + 1, 1, none⟩ = some (.string (Ln.bs tx)))) := ⟨(HCC.out fY).1, cells_at hBY.walk.1 rfl, cells_at hqs.1 rfl, (HCC.out fY).2.2.1⟩
      have PY : Hid (Y.cell? ⟨A.wb, 3, none⟩ = some (.slice ma s.met.length mc)) := cells_at hBY.walk.1 rfl
      have C3 : Hid ((Z3.cell? ⟨w.heap.size, 0, none⟩ = some (ptrV A.wb) ∧ Z3.cell? ⟨A.wb, 0, none⟩ = some (ptrV sb) ∧ Z3.cell? ⟨sb, 0, none⟩ = some (.iface T v) ∧ Z3.cell? ⟨w.heap.size + 1, 1, none⟩ = some (.string (Ln.bs tx)))) := ⟨(HCC.out HA.out.2).1, cells_at HA.out.1.walk.1 rfl, HSB.out HA.out.2 HNS.out, (HCC.out HA.out.2).2.2.1⟩
      have HIN : Hid (_) := inner_any HA.out.1.bw HB.out.2.2.2.2.1
      have c30 := (HCC.out HA.out.2).1
      clear hBY fY hi0 hz0 hz1 hz2 hown hgr hat happ hneM hwkZ hq0 hqn hqs hM3 DY
      refine anyC_two (i := 4) (j := 15) (by kernel_rfl) rfl rfl (by rfl) (by rfl) (fun K6 hK6 => ?_) (fun K6 hK6 => ?_)
      · skip
        have u0 := HPC.out
        go_simp
        refine hK6 _ _ HD0.out ?_
        clear hK6
        clear u0
        refine anyC_one (i := 15) (by kernel_rfl) rfl (by rfl) (fun K7 hK7 => ?_)
        go_simp
        rw [← hY]
        clear hY
        refine hK7 _ _ CY.out ?_
        clear hK7
        refine anyC_one (i := 16) (by kernel_rfl) rfl (by rfl) (fun K8 hK8 => ?_)
        refine op_append _ _ 84 rfl _ _ _ _ rfl rfl hrun ?_
        refine hK8 _ _ CZ.out ?_
        clear hK8
        clear hrun hc0
        refine anyC_more 17 2 1 3 rfl (by kernel_rfl) rfl (by decide) (by kernel_rfl) (fun _ _ d _ _ h => by cases d <;> exact h) CZ.out ?_
        simp only [List.drop_succ_cons, List.drop_zero, List.take_succ_cons, List.take_zero]
        iterate 2 (first
          | (apply lexC_want
             · rfl
             · exact fun _ => rfl
             · (intro w' hw'; obtain ⟨f1, f2, f3, f4⟩ := HCF.out w' hw'; go_simp; try rfl)
             simp only [Act.put, List.setIfInBounds_toArray])
          | (apply lexC_skip
             · rfl
             · exact fun _ => rfl
             simp only [Act.put, List.setIfInBounds_toArray]))
        refine lexC_nil ?_
        refine anyC_one (i := 19) (by kernel_rfl) rfl (by rfl) (fun K9 hK9 => ?_)
        go_simp
        rw [← hZ3]
        refine hK9 _ _ C3.out ?_
        clear hK9
        clear hZ3 bf bz
        refine anyC_done (by kernel_rfl) ?_
        gi_wp2
        refine ⟨trivial, ?_⟩
        refine (callsIn_wide.2 HIN.out).mono ?_
        rintro e w2 ⟨M', ch1, fv, rfl, hB2, hf2, hA2⟩
        have HE : Hid (BW A M' bx ch1 { s with met := s.met ++ [kb], own := [] :: s.own } p i w2 ∧ Foot M M' w w2 ∧ AfterAt A bx M' .out fv ch1 ch w2) := ⟨hB2, HB.out.2.1.trans (HA.out.2.trans hf2), hA2⟩
        clear hB2 hf2 hA2
        gi_wp2
        go_ret
        exact LookEnd.good HL2.out (List.prefix_refl _) HE.out.2.1 HE.out.1 HE.out.2.2 (by have := HE.out.2.2.out_len; omega)
      · go_simp
        rw [← hY]
        clear hY
        refine hK6 _ _ CY.out ?_
        clear hK6
        have u0 := PY.out
        refine anyC_one (i := 4) (by kernel_rfl) rfl (by rfl) (fun K10 hK10 => ?_)
        go_simp
        refine hK10 _ _ CY.out ?_
        clear hK10
        clear u0
        refine anyC_one (i := 16) (by kernel_rfl) rfl (by rfl) (fun K11 hK11 => ?_)
        refine op_append _ _ 84 rfl _ _ _ _ rfl rfl hrun ?_
        refine hK11 _ _ CZ.out ?_
        clear hK11
        clear hrun hc0
        refine anyC_more 17 2 1 3 rfl (by kernel_rfl) rfl (by decide) (by kernel_rfl) (fun _ _ d _ _ h => by cases d <;> exact h) CZ.out ?_
        simp only [List.drop_succ_cons, List.drop_zero, List.take_succ_cons, List.take_zero]
        iterate 2 (first
          | (apply lexC_want
             · rfl
             · exact fun _ => rfl
             · (intro w' hw'; obtain ⟨f1, f2, f3, f4⟩ := HCF.out w' hw'; go_simp; try rfl)
             simp only [Act.put, List.setIfInBounds_toArray])
          | (apply lexC_skip
             · rfl
             · exact fun _ => rfl
             simp only [Act.put, List.setIfInBounds_toArray]))
        refine lexC_nil ?_
        refine anyC_one (i := 19) (by kernel_rfl) rfl (by rfl) (fun K12 hK12 => ?_)
        go_simp
        rw [← hZ3]
        refine hK12 _ _ C3.out ?_
        clear hK12
        clear hZ3 bf bz
        refine anyC_done (by kernel_rfl) ?_
        gi_wp2
        refine ⟨trivial, ?_⟩
        refine (callsIn_wide.2 HIN.out).mono ?_
        rintro e w2 ⟨M', ch1, fv, rfl, hB2, hf2, hA2⟩
        have HE : Hid (BW A M' bx ch1 { s with met := s.met ++ [kb], own := [] :: s.own } p i w2 ∧ Foot M M' w w2 ∧ AfterAt A bx M' .out fv ch1 ch w2) := ⟨hB2, HB.out.2.1.trans (HA.out.2.trans hf2), hA2⟩
        clear hB2 hf2 hA2
        gi_wp2
        go_ret
        exact LookEnd.good HL2.out (List.prefix_refl _) HE.out.2.1 HE.out.1 HE.out.2.2 (by have := HE.out.2.2.out_len; omega)
end Go.Proofs.YtnndgjnihhafbaaGreatDoor
