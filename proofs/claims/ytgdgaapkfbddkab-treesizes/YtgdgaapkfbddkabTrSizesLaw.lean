/-
  The walk of the law TreeSizes.
-/
import Derived.Test.YtgdgaapkfbddkabTrAwake
namespace Go.Proofs.Ytgdgaapkfbddkab
open Go.RowKit Go.Shelf

attribute [local go_sem] Oper.semAt_some

namespace Nm
theorem nodup_of {L : List (List UInt8)} (h : L.Pairwise (fun a b => a < b)) : L.Nodup := h.imp (fun h e => by subst e; exact List.lt_irrefl _ h)
/-- One more name: as many, or one more. -/
theorem uniq_more (x : Tr) : (uniq (Tr.namesL x.kids)).length ≤ (uniq (Tr.namesL [x])).length ∧ (uniq (Tr.namesL [x])).length ≤ (uniq (Tr.namesL x.kids)).length + 1 := by
  have e : Tr.namesL [x] = x.own ++ Tr.namesL x.kids := by rw [Tr.namesL_cons, Tr.namesL_nil, List.append_nil, Tr.names_eq]
  rw [e]
  unfold Tr.own
  split
  · by_cases hin : x.t ∈ Tr.namesL x.kids
    · have : uniq ([x.t] ++ Tr.namesL x.kids) = uniq (Tr.namesL x.kids) := uniq_ext (fun s => by
        simp only [List.singleton_append, List.mem_cons]
        exact ⟨fun h => h.elim (fun e => e ▸ hin) id, .inr⟩)
      rw [this]; omega
    · have hmem : x.t ∈ uniq ([x.t] ++ Tr.namesL x.kids) := (uniq_mem _ _).2 (by simp)
      have hr := uniq_rises ([x.t] ++ Tr.namesL x.kids)
      have : (uniq ([x.t] ++ Tr.namesL x.kids)).erase x.t = uniq (Tr.namesL x.kids) := by
        refine rises_ext _ _ (hr.sublist List.erase_sublist) (uniq_rises _) (fun s => ?_)
        rw [(nodup_of hr).mem_erase_iff, uniq_mem, uniq_mem]
        simp only [List.singleton_append, List.mem_cons]
        constructor
        · rintro ⟨h1, h2 | h2⟩
          · exact absurd h2 h1
          · exact h2
        · intro h
          exact ⟨fun e => hin (e ▸ h), .inr h⟩
      have hl := List.length_erase_of_mem hmem
      rw [this] at hl
      have : 0 < (uniq ([x.t] ++ Tr.namesL x.kids)).length := List.length_pos_of_mem hmem
      omega
  · rw [List.nil_append]; omega
end Nm

mutual
theorem names_len1 : ∀ x : Tr, x.names.length ≤ x.size
  | .mk k t n l => by
    rw [Tr.names_eq, Tr.size_eq, List.length_append]
    have h1 : (Tr.own (.mk k t n l)).length ≤ 1 := by unfold Tr.own; split <;> simp
    have h2 := names_len l
    show _ + (Tr.namesL l).length ≤ 1 + Tr.sizes l
    omega
theorem names_len : ∀ l : List Tr, (Tr.namesL l).length ≤ Tr.sizes l
  | [] => by simp [Tr.namesL_nil]
  | x :: l => by
    rw [Tr.namesL_cons, Tr.sizes_cons, List.length_append]
    have h1 := names_len1 x
    have h2 := names_len l
    omega
end

set_option maxRecDepth 100000 in
set_option maxHeartbeats 8000000 in
theorem sizes_law (t : Tr) (v : Value) (w : World) (hv : NodeR (lowS w.heap.size) w v t) : Calls Try.prog 3 #[v] w fun e w' => e = .returned (.bool true) ∧ Below w.heap.size w w' := by
  obtain ⟨⟨k, tx, n, kv, kids⟩, rfl, rfl, hf, hr⟩ := hv
  obtain ⟨ka, kc, hkv⟩ := hr.slice
  simp only at hkv
  subst hkv
  simp only [N1.cells]
  obtain ⟨X, hX⟩ : ∃ X, X = w.alloc (.cells #[.int .u8 k, .string (Ln.bs tx), .int .i64 n, .slice ka kids.length kc] 25) := ⟨_, rfl⟩
  have hB : Below w.heap.size w X := hX ▸ below_new w _
  have hXn : X.heap[w.heap.size]? = some (.cells #[.int .u8 k, .string (Ln.bs tx), .int .i64 n, .slice ka kids.length kc] 25 (0, 0)) := by rw [hX]; exact World.alloc_heap_new w _
  have HBX : Hid (Below w.heap.size w X) := hB
  have HCE : Hid (∀ W, Below X.heap.size X W → W.cell? ⟨w.heap.size, 0, none⟩ = some (.int .u8 k) ∧ W.cell? ⟨w.heap.size, 1, none⟩ = some (.string (Ln.bs tx)) ∧ W.cell? ⟨w.heap.size, 2, none⟩ = some (.int .i64 n) ∧ W.cell? ⟨w.heap.size, 3, none⟩ = some (.slice ka kids.length kc)) := fun W hW => by
    have h1 := (hW.block _ (Array.getElem?_eq_some_iff.1 hXn).1).trans hXn
    exact ⟨cells_at h1 rfl, cells_at h1 rfl, cells_at h1 rfl, cells_at h1 rfl⟩
  have HND : Hid (∀ W, Below X.heap.size X W → (⟨k, tx, n, .slice ka kids.length kc, kids⟩ : N1).Fit ∧ RowR (lowS W.heap.size) W (.slice ka kids.length kc) kids) := fun W hW => ⟨hf, hr.at (below_then hB hW)⟩
  have HAW : Hid (_) := awake6_any X
  clear hf hr hB hXn
  refine (callsIn_wide (n := 3)).1 ?_
  refine callsIn_of_wp Try.func3 rfl trivial ?_ rfl
  simp only [Try.ntmps3, List.size_toArray, List.length_cons, List.length_nil, Nat.reduceAdd, Nat.reduceSub, Array.replicate_succ, Array.replicate_zero, List.push_toArray, List.append_toArray, List.nil_append, List.cons_append]
  gi_wp2
  rw [← hX]
  clear hX
  refine ⟨trivial, ?_⟩
  refine (callsIn_wide.2 HAW.out).mono ?_
  rintro e w1 ⟨rfl, hb1⟩
  have B1 : Hid (Below X.heap.size X w1) := hb1
  obtain ⟨e0, e1, e2, e3⟩ := HCE.out w1 hb1
  obtain ⟨V, hV⟩ : ∃ V, V = w1.alloc (.cells #[.int .u8 k, .string (Ln.bs tx), .int .i64 n, .slice ka kids.length kc] 25) := ⟨_, rfl⟩
  have bV : Below X.heap.size X V := below_then hb1 (hV ▸ below_new w1 _)
  have hVn : V.heap[w1.heap.size]? = some (.cells #[.int .u8 k, .string (Ln.bs tx), .int .i64 n, .slice ka kids.length kc] 25 (0, 0)) := by rw [hV]; exact World.alloc_heap_new w1 _
  have rV : RowR (lowS V.heap.size) V (.slice (some ⟨w1.heap.size, 0, none⟩) 1 1) [N1.tr ⟨k, tx, n, .slice ka kids.length kc, kids⟩] := RowR.one hVn rfl (Nat.le_refl _) (Array.getElem?_eq_some_iff.1 hVn).1 (HND.out V bV).1 (HND.out V bV).2
  have HSM : Hid (_) := small_any (lowS V.heap.size) _ _ V (fun _ h => h) rV (by simp)
  have BV : Hid (Below X.heap.size X V) := bV
  clear hb1 bV hVn rV HAW
  gi_wp2
  rw [← hV]
  clear hV e0 e1 e2 e3
  refine ⟨trivial, ?_⟩
  refine (callsIn_wide.2 HSM.out).mono ?_
  rintro e w2 ⟨b, rfl, hb2, hsm⟩
  have B2 : Hid (Below X.heap.size X w2) := below_then BV.out hb2
  have HSB : Hid (_) := hsm
  clear hb2 hsm HSM BV B1
  cases b
  · gi_wp2
    go_ret
    exact ⟨rfl, below_then HBX.out B2.out⟩
  have hbd : Tr.Bd [N1.tr ⟨k, tx, n, .slice ka kids.length kc, kids⟩] := ⟨by have := (HSB.out rfl).1; omega, fun s hs => by have := (HSB.out rfl).2 s hs; omega⟩
  have HBD : Hid (Tr.Bd [N1.tr ⟨k, tx, n, .slice ka kids.length kc, kids⟩] ∧ Tr.Bd kids) := ⟨hbd, (hbd.mem List.mem_cons_self).2⟩
  have hsz : 1 + Tr.sizes kids ≤ 400 := by
    have := (HSB.out rfl).1
    simp only [Tr.sizes_cons, Tr.sizes_nil, Tr.size_eq] at this
    exact this
  clear hbd HSB
  obtain ⟨xs, xa, xc, xb, xo, ex, hxv, -, hxa, hxl, hx⟩ := (HND.out w2 B2.out).2.parts
  cases hxv
  have HX : Hid (_) := hx
  have HEX : Hid (kids = xs.map N1.tr) := ex
  obtain ⟨N, hN⟩ : ∃ N, N = kids.length := ⟨_, rfl⟩
  have HN : Hid (N = kids.length) := hN
  have hNk : N ≤ 400 := by have := Tr.length_sizes kids; omega
  have HSZ : Hid (1 + Tr.sizes kids ≤ 400) := hsz
  rw [← hN] at HCE HND hxa hxl HBD ⊢
  clear hx ex hN hsz
  gi_wp2
  gi_loopw [3, 4] (fun sv i wr => ∃ q : Nat, q ≤ N ∧ i = .int .i64 q ∧ sv = .int .i64 ((1 + Tr.sizes (kids.take q) : Nat) : Int) ∧ Below w2.heap.size w2 wr) (fun _ i _ => N - (intOf i).toNat)
  case atStart => exact ⟨0, Nat.zero_le _, rfl, by simp [Tr.sizes_nil], Below.refl _ _⟩
  case round =>
    obtain ⟨q, hq, rfl, rfl, hbr⟩ := hrel
    have hbX : Below X.heap.size X wr := below_then B2.out hbr
    obtain ⟨e0, e1, e2, e3⟩ := HCE.out wr hbX
    by_cases hlt : q < N
    · obtain ⟨rfl, hSb⟩ := hxa (by omega)
      have hql : q < xs.length := by have := HN.out; rw [HEX.out, List.length_map] at this; omega
      obtain ⟨⟨zk, zt, zn, zv, zkids⟩, hzq⟩ : ∃ z, xs[q]? = some z := ⟨xs[q], List.getElem?_eq_getElem hql⟩
      obtain ⟨zf, zr, z0, z1, z2, z3⟩ := HX.out q _ hzq
      simp only at z0 z1 z2 z3 zr
      have hxb : xb < w2.heap.size := hSb
      have tr : ∀ j u, w2.cell? ⟨xb, j, none⟩ = some u → wr.cell? ⟨xb, j, none⟩ = some u := fun j u h => (hbr.cell (p := ⟨xb, j, none⟩) hxb).trans h
      replace z0 := tr _ _ z0
      replace z1 := tr _ _ z1
      replace z2 := tr _ _ z2
      replace z3 := tr _ _ z3
      obtain ⟨za, zc, hzv⟩ := zr.slice
      subst hzv
      have hkq : kids[q]? = some (N1.tr ⟨zk, zt, zn, .slice za zkids.length zc, zkids⟩) := by rw [HEX.out, List.getElem?_map, hzq]; rfl
      have hzs : (N1.tr ⟨zk, zt, zn, .slice za zkids.length zc, zkids⟩).size ≤ 400 := by have := Tr.sizes_mem (List.mem_of_getElem? hkq); have := HSZ.out; omega
      have htk : Tr.sizes (kids.take (q + 1)) = Tr.sizes (kids.take q) + (N1.tr ⟨zk, zt, zn, .slice za zkids.length zc, zkids⟩).size := by
        rw [List.take_add_one, hkq, Tr.sizes_append]; simp [Tr.sizes_cons, Tr.sizes_nil]
      have hle : Tr.sizes (kids.take q) ≤ 400 := by
        have h9 : Tr.sizes (kids.take q) + Tr.sizes (kids.drop q) = Tr.sizes kids := by rw [← Tr.sizes_append, List.take_append_drop]
        have := HSZ.out; omega
      have HC : Hid (_) := size_any (N1.tr ⟨zk, zt, zn, .slice za zkids.length zc, zkids⟩) (.agg #[.int .u8 zk, .string (Ln.bs zt), .int .i64 zn, .slice za zkids.length zc]) wr ⟨⟨zk, zt, zn, .slice za zkids.length zc, zkids⟩, rfl, rfl, zf, zr.at hbr⟩ (by omega)
      obtain ⟨zz, hzz⟩ : ∃ zz, zz = (N1.tr ⟨zk, zt, zn, .slice za zkids.length zc, zkids⟩).size := ⟨_, rfl⟩
      obtain ⟨ss, hss⟩ : ∃ ss, ss = Tr.sizes (kids.take q) := ⟨_, rfl⟩
      rw [← hzz] at HC hzs
      rw [← hss] at hle ⊢
      have HTK : Hid (Tr.sizes (kids.take (q + 1)) = ss + zz) := by rw [hss, hzz]; exact htk
      have BR : Hid (Below w2.heap.size w2 wr) := hbr
      clear hbr hbX tr zr zf hkq hzq htk hzz hss
      gi_wp2
      refine ⟨trivial, ?_⟩
      refine (callsIn_wide.2 HC.out).mono ?_
      rintro e w3 ⟨rfl, hb3⟩
      have B3 : Hid (Below w2.heap.size w2 w3) := below_then BR.out hb3
      clear hb3 HC BR
      gi_wp2
      refine ⟨⟨q + 1, by omega, by simp, ?_, B3.out⟩, by simp [intOf]; omega⟩
      rw [HTK.out]
      congr 1
      omega
    · have hqN : q = N := by omega
      subst hqN
      rw [HN.out, List.take_length]
      rw [← HN.out]
      obtain ⟨SZ, hSZ⟩ : ∃ SZ, SZ = 1 + Tr.sizes kids := ⟨_, rfl⟩
      have HSE : Hid (SZ = 1 + Tr.sizes kids) := hSZ
      rw [← hSZ]
      clear hSZ
      have BX : Hid (Below X.heap.size X wr) := hbX
      have hbd1 : Below X.heap.size X wr.drew := below_then hbX (below_draw wr 1)
      clear hbX hbr
      gi_wp2
      refine region_lex (fun z => Below X.heap.size X z) 1 7 rfl (by kernel_rfl) (by kernel_rfl) (by kernel_rfl) (by kernel_rfl) (fun _ _ d _ _ h => by cases d <;> exact h) hbd1 ?_
      simp only [List.take_succ_cons, List.take_zero]
      iterate 1 (first
        | (apply lexC_want
           · rfl
           · exact fun _ => rfl
           · (intro w' hw'; obtain ⟨a0, a1, a2, a3⟩ := HCE.out w' hw'; go_simp; try rfl)
           simp only [Act.put, List.setIfInBounds_toArray, List.set_cons_zero, List.set_cons_succ]))
      refine lexC_nil ?_
      refine anyC_take (i := 3) (v := .pointer (some ⟨w.heap.size, 3, none⟩)) rfl rfl (by kernel_rfl) (by kernel_rfl) (by kernel_rfl) (fun _ _ d _ _ h => by cases d <;> exact h) hbd1 (by rfl) (fun _ => rfl) (by intro w' hw'; go_simp; try rfl) ?_
      simp only [Act.put]
      refine anyC_take (i := 4) (v := .slice ka q kc) rfl rfl (by kernel_rfl) (by kernel_rfl) (by kernel_rfl) (fun _ _ d _ _ h => by cases d <;> exact h) hbd1 (by rfl) (fun _ => rfl) (by intro w' hw'; obtain ⟨a0, a1, a2, a3⟩ := HCE.out w' hw'; go_simp; try rfl) ?_
      simp only [Act.put]
      refine anyC_one (i := 1) (by kernel_rfl) rfl (by rfl) (fun K1 hK1 => ?_)
      go_simp
      obtain ⟨Y, hY⟩ : ∃ Y, Y = (wr.alloc (.cells #[.int .u8 k, .string (Ln.bs tx), .int .i64 n, .slice ka q kc] 25)).drew := ⟨_, rfl⟩
      rw [← hY]
      have bY : Below X.heap.size X Y := by rw [hY]; exact below_then BX.out (below_then (below_new wr _) (below_draw _ 1))
      have hYn : Y.heap[wr.heap.size]? = some (.cells #[.int .u8 k, .string (Ln.bs tx), .int .i64 n, .slice ka q kc] 25 (0, 0)) := by rw [hY]; exact World.alloc_heap_new wr _
      have rY : RowR (lowS Y.heap.size) Y (.slice (some ⟨wr.heap.size, 0, none⟩) 1 1) [N1.tr ⟨k, tx, n, .slice ka q kc, kids⟩] := RowR.one hYn rfl (Nat.le_refl _) (Array.getElem?_eq_some_iff.1 hYn).1 (HND.out Y bY).1 (HND.out Y bY).2
      have HN1 : Hid (_) := names_any _ _ Y rY HBD.out.1
      have BY : Hid (Below X.heap.size X Y) := bY
      clear hY hYn rY e0 e1 e2 e3
      refine hK1 _ _ bY ?_
      clear hK1 bY
      refine anyC_one (i := 2) (by kernel_rfl) rfl (by rfl) (fun K2 hK2 => ?_)
      go_simp
      refine ⟨trivial, ?_⟩
      refine (callsIn_wide.2 HN1.out).mono ?_
      rintro e w3 ⟨r1, rfl, ho1, hb3⟩
      obtain ⟨r1a, r1c, rfl⟩ := slice_shape ho1
      have b3X : Below X.heap.size X w3 := below_then BY.out hb3
      have HO1 : Hid (_) := ho1
      have B3 : Hid (Below X.heap.size X w3) := b3X
      have HN2 : Hid (_) := names_any kids (.slice ka q kc) w3 (HND.out w3 b3X).2 HBD.out.2
      refine hK2 _ _ b3X ?_
      clear hK2 ho1 hb3 b3X HN1 BY
      refine anyC_one (i := 5) (by kernel_rfl) rfl (by rfl) (fun K3 hK3 => ?_)
      go_simp
      refine ⟨trivial, ?_⟩
      refine (callsIn_wide.2 HN2.out).mono ?_
      rintro e w4 ⟨r2, rfl, ho2, hb4⟩
      obtain ⟨r2a, r2c, rfl⟩ := slice_shape ho2
      have b4X : Below X.heap.size X w4 := below_then B3.out hb4
      have HO2 : Hid (w4.ownsRow Y.heap.size 9 1 (.slice r1a (Nm.uniq (Tr.namesL [N1.tr ⟨k, tx, n, .slice ka q kc, kids⟩])).length r1c) (Nm.uniq (Tr.namesL [N1.tr ⟨k, tx, n, .slice ka q kc, kids⟩])).length ((Nm.uniq (Tr.namesL [N1.tr ⟨k, tx, n, .slice ka q kc, kids⟩])).map txtV)) := owns_below HO1.out hb4
      have B4 : Hid (Below X.heap.size X w4) := b4X
      obtain ⟨L1, hL1⟩ : ∃ L, L = Nm.uniq (Tr.namesL [N1.tr ⟨k, tx, n, .slice ka q kc, kids⟩]) := ⟨_, rfl⟩
      obtain ⟨m1, hm1⟩ : ∃ m, m = L1.length := ⟨_, rfl⟩
      obtain ⟨m2, hm2⟩ : ∃ m, m = (Nm.uniq (Tr.namesL kids)).length := ⟨_, rfl⟩
      have hmore : m2 ≤ m1 ∧ m1 ≤ m2 + 1 := by
        rw [hm1, hm2, hL1]
        exact Nm.uniq_more (N1.tr ⟨k, tx, n, .slice ka q kc, kids⟩)
      have hm400 : m1 ≤ 100000 := by
        rw [hm1, hL1]
        refine Nat.le_trans (Nm.uniq_len _) ?_
        have hnl : ∀ l : List Tr, (Tr.namesL l).length ≤ Tr.sizes l := names_len
        have := hnl [N1.tr ⟨k, tx, n, .slice ka q kc, kids⟩]
        have := HBD.out.1.1
        omega
      have HL1 : Hid (L1.Pairwise (fun a b => a < b) ∧ m1 = L1.length) := ⟨by rw [hL1]; exact Nm.uniq_rises _, hm1⟩
      rw [← hL1, ← hm1] at HO2
      rw [← hL1, ← hm1, ← hm2]
      refine hK3 _ _ b4X ?_
      clear hK3 ho2 hb4 HN2 B3 HO1 hL1 hm1 hm2
      refine anyC_one (i := 6) (by kernel_rfl) rfl (by rfl) (fun K4 hK4 => ?_)
      go_simp
      refine hK4 _ _ b4X ?_
      clear hK4
      refine anyC_one (i := 7) (by kernel_rfl) rfl (by rfl) (fun K5 hK5 => ?_)
      go_simp
      refine hK5 _ _ b4X ?_
      clear hK5 b4X
      refine anyC_done (by kernel_rfl) ?_
      gi_wp2
      gi_loopw [7] (fun i wr' => ∃ (j d : Nat), j ≤ 100000 ∧ i = .int .i64 ((j : Int) + 1) ∧ wr' = w4.drewN d) (fun i _ => m1 - (intOf i).toNat)
      case atStart => exact ⟨0, 0, by omega, by simp, rfl⟩
      case round =>
        obtain ⟨j, d, hj1, rfl, rfl⟩ := hrel
        by_cases hjm : j + 1 < m1
        · have hj2 : j + 1 < L1.length := by rw [← HL1.out.2]; exact hjm
          have ha : L1[j]? = some L1[j] := List.getElem?_eq_getElem (by omega)
          have hb : L1[j + 1]? = some L1[j + 1] := List.getElem?_eq_getElem hj2
          have hless : Op.bytesLess (Ln.bs L1[j]).toList (Ln.bs L1[j + 1]).toList = true := by
            rw [Nm.less_iff, Lib.toList_data, Lib.toList_data]
            exact decide_eq_true (List.pairwise_iff_getElem.1 HL1.out.1 j (j + 1) (by omega) hj2 (by omega))
          rcases HO2.out.2 with ⟨_, h0⟩ | ⟨g, cap, cur, hv, hbase, hgb, p1, p2, p3, p4⟩
          · omega
          have hra : r1a = some ⟨g, 0, none⟩ := by cases hv; rfl
          have hcell : ∀ (i : Nat) (x : List UInt8), L1[i]? = some x → w4.cell? ⟨g, i, none⟩ = some (.string (Ln.bs x)) := fun i x hi => by
            rw [Lib.cell_of_heap hgb]
            have h9 : (L1.map txtV)[i]? = some (.string (Ln.bs x)) := by rw [List.getElem?_map, hi]; rfl
            rw [← p4, List.getElem?_take] at h9
            split at h9
            · rwa [Array.getElem?_toList] at h9
            · cases h9
          subst hra
          obtain ⟨A, hA⟩ : ∃ A, A = L1[j] := ⟨_, rfl⟩
          obtain ⟨Bb, hBb⟩ : ∃ A, A = L1[j + 1] := ⟨_, rfl⟩
          have ca := hcell j _ ha
          have cb := hcell (j + 1) _ hb
          rw [← hA] at ca hless
          rw [← hBb] at cb hless
          have hjz : (j : Int) + 1 - 1 = j := by omega
          have hj0 : j < m1 := by omega
          have hwr : IntKind.i64.wrap (j : Int) = j := by
            have hm : (j : Int) % 18446744073709551616 = j := by omega
            unfold IntKind.wrap
            simp [IntKind.bits, IntKind.signed, hm]
            omega
          have hin : (0 : Int) ≤ (j : Int) ∧ (j : Int) < (m1 : Int) := by omega
          clear hv hgb p1 p2 p3 p4 hcell ha hb hA hBb hj2
          gi_wp2
          refine region_lex (fun z => z.cell? ⟨g, j, none⟩ = some (.string (Ln.bs A)) ∧ z.cell? ⟨g, j + 1, none⟩ = some (.string (Ln.bs Bb))) 10 0 rfl (by kernel_rfl) (by kernel_rfl) (by kernel_rfl) (by kernel_rfl) (fun _ _ d _ _ h => by cases d <;> exact h) ⟨ca, cb⟩ ?_
          simp only [List.take_succ_cons, List.take_zero]
          iterate 10 (first
            | (apply lexC_want
               · rfl
               · exact fun _ => rfl
               · (intro w' hw'; obtain ⟨a0, a1⟩ := hw'; go_simp; try rfl)
               simp only [Act.put, List.setIfInBounds_toArray, List.set_cons_zero, List.set_cons_succ]))
          refine lexC_nil ?_
          refine anyC_done (by kernel_rfl) ?_
          gi_wp2
          refine ⟨⟨j + 1, d + 1, by omega, by simp, rfl⟩, ?_⟩
          simp [intOf]; omega
        · have bD : Below X.heap.size X (w4.drewN d) := below_then B4.out (below_draw w4 d)
          obtain ⟨e0, e1, e2, e3⟩ := HCE.out _ bD
          have hsz9 : (N1.tr ⟨k, tx, n, .slice ka q kc, kids⟩).size = SZ := by rw [HSE.out, Tr.size_eq]; rfl
          have HC : Hid (_) := size_any (N1.tr ⟨k, tx, n, .slice ka q kc, kids⟩) (.agg #[.int .u8 k, .string (Ln.bs tx), .int .i64 n, .slice ka q kc]) (w4.drewN d) ⟨⟨k, tx, n, .slice ka q kc, kids⟩, rfl, rfl, (HND.out _ bD).1, (HND.out _ bD).2⟩ (by rw [hsz9, HSE.out]; have := HSZ.out; omega)
          rw [hsz9] at HC
          have d1 : decide ((0 : Int) ≤ (m1 : Int) - (m2 : Int)) = true := decide_eq_true (by omega)
          have d2 : decide ((m1 : Int) - (m2 : Int) ≤ 1) = true := decide_eq_true (by omega)
          have BD : Hid (Below X.heap.size X (w4.drewN d)) := bD
          clear bD hsz9
          gi_wp2
          refine ⟨trivial, ?_⟩
          refine (callsIn_wide.2 HC.out).mono ?_
          rintro e w5 ⟨rfl, hb5⟩
          have B5 : Hid (Below X.heap.size X w5) := below_then BD.out hb5
          have HC0 : Hid (_) := names_any [] (.slice none 0 0) w5 (rowR_nil _ _) ⟨by simp [Tr.sizes_nil], by simp [Tr.textsL_nil]⟩
          have hu0 : Nm.uniq (Tr.namesL []) = [] := List.length_eq_zero_iff.1 (Nat.le_zero.1 (Nat.le_trans (Nm.uniq_len _) (by simp [Tr.namesL_nil])))
          rw [hu0] at HC0
          clear hb5 HC BD e0 e1 e2 e3 hu0
          gi_wp2
          refine ⟨trivial, ?_⟩
          refine (callsIn_wide.2 HC0.out).mono ?_
          rintro e w6 ⟨r, rfl, ho6, hb6⟩
          obtain ⟨ra, rc, rfl⟩ := slice_shape ho6
          have B6 : Hid (Below w.heap.size w w6) := below_then HBX.out (below_then B5.out hb6)
          clear ho6 hb6 HC0
          simp only [List.length_nil]
          gi_wp2
          go_ret
          exact ⟨by simp, B6.out⟩
end Go.Proofs.Ytgdgaapkfbddkab
