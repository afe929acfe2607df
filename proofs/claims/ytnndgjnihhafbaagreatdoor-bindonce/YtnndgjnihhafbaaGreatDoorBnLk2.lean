/-
  What look does at a Call, and at a Name.
-/
import Derived.Test.YtnndgjnihhafbaaGreatDoorBnCalls
namespace Go.Proofs.YtnndgjnihhafbaaGreatDoor
open Go.RowKit Go.Shelf Go.WideMaps
open Bn (Sc Bd St After)

attribute [local go_sem] Oper.semAt_some



set_option maxRecDepth 100000 in
set_option maxHeartbeats 8000000 in
theorem look_call {A : Ad} {S : Nat → Prop} (hSn : ∀ b, S b → b < A.n) (m : Nat) (t : Tr) (val : Value) (M : Nat → Prop) (bx : List Nat) (ch : List (Nat × Nat)) (s : St) (p : List Nat) (i : Nat) (w : World) (hr : Tr.right m t = true) (hbd : Tr.Bd [t]) (hn : NodeR S w val t) (hB : BW A M bx ch s p i w) (hch : ch ≠ []) (hcl : ch.length ≤ 50) (hpl : p.length ≤ 1000) (hmass : s.mass ≤ 10000000) (g25 : t.k = 25) :
    Calls Tryz.prog 64 #[ptrV A.wb, val] w fun e w' => LookEnd A Bn.look2 M bx ch s p i t w e w' := by
  obtain ⟨pv, mv, sv, hB⟩ := hB
  have ht6 := (hbd.mem (List.mem_singleton.2 rfl)).1
  have h2 : t.k = 2 → t.kids ≠ [] := by
    cases m with
    | zero => rw [Tr.right] at hr; cases hr
    | succ m => exact func_kids hr
  have hlow : ∀ b, S b → b < w.heap.size := fun b hb => Nat.lt_of_lt_of_le (hSn b hb) hB.low
  have hnl : NodeR (lowS w.heap.size) w val t := by
    obtain ⟨x, e1, e2, e3, e4⟩ := hn
    exact ⟨x, e1, e2, e3, e4.mono hlow⟩
  obtain ⟨⟨k, tx, nn, kv, kids⟩, rfl, ht, hf, hrow⟩ := hn
  obtain ⟨ao, cap, hkv⟩ := hrow.slice
  simp only at hkv
  subst hkv
  have hk : t.k = k := by rw [← ht]; rfl
  have htt : t.t = tx := by rw [← ht]; rfl
  have htl : t.kids.length = kids.length := by rw [← ht]; rfl
  simp only [N1.cells] at hnl ⊢
  obtain ⟨N, hN⟩ : ∃ N, N = kids.length := ⟨_, rfl⟩
  rw [← hN] at hnl htl ⊢
  obtain ⟨X1, hX1⟩ : ∃ X, X = w.alloc (.cells #[ptrV A.wb] 82) := ⟨_, rfl⟩
  obtain ⟨X, hX⟩ : ∃ X, X = X1.alloc (.cells #[.int .u8 k, .string (Ln.bs tx), .int .i64 nn, .slice ao N cap] 25) := ⟨_, rfl⟩
  have s1 : X1.heap.size = w.heap.size + 1 := by rw [hX1, World.size_alloc]
  have b1 : Below w.heap.size w X1 := hX1 ▸ below_new w _
  have b2 : Below X1.heap.size X1 X := hX ▸ below_new X1 _
  have bX : Below w.heap.size w X := below_then b1 b2
  have x0 : X.heap[w.heap.size]? = some (.cells #[ptrV A.wb] 82 (0, 0)) := (b2.block _ (by omega)).trans (by rw [hX1]; exact World.alloc_heap_new w _)
  have xn : X.heap[w.heap.size + 1]? = some (.cells #[.int .u8 k, .string (Ln.bs tx), .int .i64 nn, .slice ao N cap] 25 (0, 0)) := by rw [hX, ← s1]; exact World.alloc_heap_new X1 _
  have n0 : ¬ M w.heap.size := fun e => by have := (hB.lt _ e).2; omega
  have n1 : ¬ M (w.heap.size + 1) := fun e => by have := (hB.lt _ e).2; omega
  have fX : Foot M M w X := Foot.of_below bX
  have HB : Hid (BAt A M bx ch s p i X pv mv sv ∧ Foot M M w X ∧ s.mass ≤ 10000000 ∧ p.length ≤ 1000 ∧ ch ≠ [] ∧ ch.length ≤ 50) := ⟨hB.below bX, fX, hmass, hpl, hch, hcl⟩
  have HN : Hid (NodeR (lowS X.heap.size) X (.agg #[.int .u8 k, .string (Ln.bs tx), .int .i64 nn, .slice ao N cap]) t) := hnl.at bX
  have HT : Hid (tx.length ≤ 1000000 ∧ (t.k = 2 → t.kids ≠ []) ∧ t.k = k ∧ t.t = tx ∧ t.kids.length = N ∧ Tr.Bd [t]) := ⟨htt ▸ ht6, h2, hk, htt, htl, hbd⟩
  have HXB : Hid (X.heap[w.heap.size]? = some (.cells #[ptrV A.wb] 82 (0, 0)) ∧ ¬ M w.heap.size ∧ X.heap[w.heap.size + 1]? = some (.cells #[.int .u8 k, .string (Ln.bs tx), .int .i64 nn, .slice ao N cap] 25 (0, 0)) ∧ ¬ M (w.heap.size + 1)) := ⟨x0, n0, xn, n1⟩
  have HCC : Hid (∀ {M' : Nat → Prop} {z : World}, Foot M M' X z → z.cell? ⟨w.heap.size, 0, none⟩ = some (ptrV A.wb) ∧ z.cell? ⟨w.heap.size + 1, 0, none⟩ = some (.int .u8 k) ∧ z.cell? ⟨w.heap.size + 1, 1, none⟩ = some (.string (Ln.bs tx)) ∧ z.cell? ⟨w.heap.size + 1, 2, none⟩ = some (.int .i64 nn) ∧ z.cell? ⟨w.heap.size + 1, 3, none⟩ = some (.slice ao N cap)) := fun hf => ⟨cells_at (hf.cell x0 n0).1 rfl, cells_at (hf.cell xn n1).1 rfl, cells_at (hf.cell xn n1).1 rfl, cells_at (hf.cell xn n1).1 rfl, cells_at (hf.cell xn n1).1 rfl⟩
  have c0 : X.cell? ⟨w.heap.size, 0, none⟩ = some (ptrV A.wb) := cells_at x0 rfl
  have ck : X.cell? ⟨w.heap.size + 1, 0, none⟩ = some (.int .u8 k) := cells_at xn rfl
  have ct : X.cell? ⟨w.heap.size + 1, 1, none⟩ = some (.string (Ln.bs tx)) := cells_at xn rfl
  have cn : X.cell? ⟨w.heap.size + 1, 2, none⟩ = some (.int .i64 nn) := cells_at xn rfl
  have cv : X.cell? ⟨w.heap.size + 1, 3, none⟩ = some (.slice ao N cap) := cells_at xn rfl
  rw [hX, hX1] at c0 ck ct cn cv
  have hXX : X = (w.alloc (.cells #[ptrV A.wb] 82)).alloc (.cells #[.int .u8 k, .string (Ln.bs tx), .int .i64 nn, .slice ao N cap] 25) := by rw [hX, hX1]
  clear hB ht6 h2 hlow hnl ht hf hrow htt htl hN s1 b1 b2 bX x0 xn n0 n1 fX hpl hmass hr hbd hch hcl hX hX1
  have HL : Hid (Bn.look2 t p s = match Bn.find s.fns t.t with
    | none => .error 111
    | some b => if t.kids.length ≠ s.paramsOf b then .error 112 else .ok (s.use b p, .nothing)) := by
    show _ = _
    unfold Bn.look2
    rw [if_neg (by rw [g25]; decide), if_neg (by rw [g25]; decide), if_neg (by rw [g25]; decide), if_neg (by rw [g25]; decide), if_pos g25]
    rfl
  rw [hk] at g25
  subst g25
  clear hk
  have HCL : Hid (_) := bcall_any HT.out.2.2.2.2.2 HN.out HB.out.1.bw HB.out.2.2.2.2.1 HB.out.2.2.2.2.2 HB.out.2.2.2.1 HB.out.2.2.1
  refine (callsIn_wide (n := 3)).1 ?_
  refine callsIn_of_wp Tryz.func64 rfl trivial ?_ rfl
  simp only [Tryz.ntmps64, List.size_toArray, List.length_cons, List.length_nil, Nat.reduceAdd, Nat.reduceSub, Array.replicate_succ, Array.replicate_zero, List.push_toArray, List.append_toArray, List.nil_append, List.cons_append]
  gi_wp2
  rw [← hXX]
  clear hXX c0 ck ct cn cv
  refine ⟨trivial, ?_⟩
  refine (callsIn_wide.2 HCL.out).mono ?_
  rintro e w2 ⟨M', hf2, hend⟩
  have HF : Hid (Foot M M' w w2) := HB.out.2.1.trans hf2
  clear hf2
  cases hfd : Bn.find s.fns t.t with
  | none =>
    rw [hfd] at hend
    obtain rfl := hend
    have hb0 : Bn.look2 t p s = .error 111 := by rw [HL.out, hfd]
    exact ⟨rfl, LookEnd.bad hb0 (List.prefix_refl _) HF.out⟩
  | some kb =>
    rw [hfd] at hend
    simp only at hend
    by_cases hc : t.kids.length ≠ s.paramsOf kb
    · rw [if_pos hc] at hend
      obtain rfl := hend
      have hb0 : Bn.look2 t p s = .error 112 := by rw [HL.out, hfd]; simp only; rw [if_pos hc]
      exact ⟨rfl, LookEnd.bad hb0 (List.prefix_refl _) HF.out⟩
    · rw [if_neg hc] at hend
      obtain ⟨rfl, hB2⟩ := hend
      have HE : Hid (BW A M' bx ch (s.use kb p) p i w2) := hB2
      have HL2 : Hid (Bn.look2 t p s = .ok (s.use kb p, .nothing)) := by
        show _ = _
        rw [HL.out, hfd]; simp only; rw [if_neg hc]
      clear hB2 hfd hc
      gi_wp2
      go_ret
      exact LookEnd.good HL2.out (List.prefix_refl _) HF.out HE.out ⟨rfl, rfl⟩ (by omega)

theorem bvar_mem {r : List Sc} {q : List UInt8} {k : Nat} (h : Bn.variable_ r q = some k) : ∃ sc ∈ r, ∃ x ∈ sc, x.2 = k := by
  induction r with
  | nil => simp [Bn.variable_] at h
  | cons m r ih =>
    rw [Bn.variable_] at h
    split at h
    · next b hb =>
      injection h with h
      subst h
      obtain ⟨x, hx, e⟩ := bfind_mem hb
      exact ⟨m, by simp, x, hx, e⟩
    · obtain ⟨sc, h1, x, h2, e⟩ := ih h
      exact ⟨sc, by simp [h1], x, h2, e⟩
theorem Chain.lt {fb : Nat} {bx : List Nat} {M : Nat → Prop} {w : World} : ∀ {c : List (Nat × Nat)} {r : List Sc} {v : Value}, Chain fb bx M w c r v → ∀ sc ∈ r, ∀ x ∈ sc, x.2 < bx.length
  | [], [], _, _ => fun sc h => by cases h
  | [], _ :: _, _, h => h.elim
  | _ :: _, [], _, h => h.elim
  | _ :: _, _ :: _, _, ⟨_, _, _, h4, _, _, h6⟩ => fun sc hs x hx => by
    rcases List.mem_cons.1 hs with rfl | hs
    · exact h4.2 x hx
    · exact Chain.lt h6 sc hs x hx

set_option maxRecDepth 100000 in
set_option maxHeartbeats 8000000 in
theorem look_name {A : Ad} {S : Nat → Prop} (hSn : ∀ b, S b → b < A.n) (m : Nat) (t : Tr) (val : Value) (M : Nat → Prop) (bx : List Nat) (ch : List (Nat × Nat)) (s : St) (p : List Nat) (i : Nat) (w : World) (hr : Tr.right m t = true) (hbd : Tr.Bd [t]) (hn : NodeR S w val t) (hB : BW A M bx ch s p i w) (hch : ch ≠ []) (hcl : ch.length ≤ 50) (hpl : p.length ≤ 1000) (hmass : s.mass ≤ 10000000) (g22 : t.k = 22) :
    Calls Tryz.prog 64 #[ptrV A.wb, val] w fun e w' => LookEnd A Bn.look2 M bx ch s p i t w e w' := by
  obtain ⟨pv, mv, sv, hB⟩ := hB
  have ht6 := (hbd.mem (List.mem_singleton.2 rfl)).1
  have h2 : t.k = 2 → t.kids ≠ [] := by
    cases m with
    | zero => rw [Tr.right] at hr; cases hr
    | succ m => exact func_kids hr
  have hlow : ∀ b, S b → b < w.heap.size := fun b hb => Nat.lt_of_lt_of_le (hSn b hb) hB.low
  have hnl : NodeR (lowS w.heap.size) w val t := by
    obtain ⟨x, e1, e2, e3, e4⟩ := hn
    exact ⟨x, e1, e2, e3, e4.mono hlow⟩
  obtain ⟨⟨k, tx, nn, kv, kids⟩, rfl, ht, hf, hrow⟩ := hn
  obtain ⟨ao, cap, hkv⟩ := hrow.slice
  simp only at hkv
  subst hkv
  have hk : t.k = k := by rw [← ht]; rfl
  have htt : t.t = tx := by rw [← ht]; rfl
  have htl : t.kids.length = kids.length := by rw [← ht]; rfl
  simp only [N1.cells] at hnl ⊢
  obtain ⟨N, hN⟩ : ∃ N, N = kids.length := ⟨_, rfl⟩
  rw [← hN] at hnl htl ⊢
  obtain ⟨X1, hX1⟩ : ∃ X, X = w.alloc (.cells #[ptrV A.wb] 82) := ⟨_, rfl⟩
  obtain ⟨X, hX⟩ : ∃ X, X = X1.alloc (.cells #[.int .u8 k, .string (Ln.bs tx), .int .i64 nn, .slice ao N cap] 25) := ⟨_, rfl⟩
  have s1 : X1.heap.size = w.heap.size + 1 := by rw [hX1, World.size_alloc]
  have b1 : Below w.heap.size w X1 := hX1 ▸ below_new w _
  have b2 : Below X1.heap.size X1 X := hX ▸ below_new X1 _
  have bX : Below w.heap.size w X := below_then b1 b2
  have x0 : X.heap[w.heap.size]? = some (.cells #[ptrV A.wb] 82 (0, 0)) := (b2.block _ (by omega)).trans (by rw [hX1]; exact World.alloc_heap_new w _)
  have xn : X.heap[w.heap.size + 1]? = some (.cells #[.int .u8 k, .string (Ln.bs tx), .int .i64 nn, .slice ao N cap] 25 (0, 0)) := by rw [hX, ← s1]; exact World.alloc_heap_new X1 _
  have n0 : ¬ M w.heap.size := fun e => by have := (hB.lt _ e).2; omega
  have n1 : ¬ M (w.heap.size + 1) := fun e => by have := (hB.lt _ e).2; omega
  have fX : Foot M M w X := Foot.of_below bX
  have HB : Hid (BAt A M bx ch s p i X pv mv sv ∧ Foot M M w X ∧ s.mass ≤ 10000000 ∧ p.length ≤ 1000 ∧ ch ≠ [] ∧ ch.length ≤ 50) := ⟨hB.below bX, fX, hmass, hpl, hch, hcl⟩
  have HN : Hid (NodeR (lowS X.heap.size) X (.agg #[.int .u8 k, .string (Ln.bs tx), .int .i64 nn, .slice ao N cap]) t) := hnl.at bX
  have HT : Hid (tx.length ≤ 1000000 ∧ (t.k = 2 → t.kids ≠ []) ∧ t.k = k ∧ t.t = tx ∧ t.kids.length = N ∧ Tr.Bd [t]) := ⟨htt ▸ ht6, h2, hk, htt, htl, hbd⟩
  have HXB : Hid (X.heap[w.heap.size]? = some (.cells #[ptrV A.wb] 82 (0, 0)) ∧ ¬ M w.heap.size ∧ X.heap[w.heap.size + 1]? = some (.cells #[.int .u8 k, .string (Ln.bs tx), .int .i64 nn, .slice ao N cap] 25 (0, 0)) ∧ ¬ M (w.heap.size + 1)) := ⟨x0, n0, xn, n1⟩
  have HCC : Hid (∀ {M' : Nat → Prop} {z : World}, Foot M M' X z → z.cell? ⟨w.heap.size, 0, none⟩ = some (ptrV A.wb) ∧ z.cell? ⟨w.heap.size + 1, 0, none⟩ = some (.int .u8 k) ∧ z.cell? ⟨w.heap.size + 1, 1, none⟩ = some (.string (Ln.bs tx)) ∧ z.cell? ⟨w.heap.size + 1, 2, none⟩ = some (.int .i64 nn) ∧ z.cell? ⟨w.heap.size + 1, 3, none⟩ = some (.slice ao N cap)) := fun hf => ⟨cells_at (hf.cell x0 n0).1 rfl, cells_at (hf.cell xn n1).1 rfl, cells_at (hf.cell xn n1).1 rfl, cells_at (hf.cell xn n1).1 rfl, cells_at (hf.cell xn n1).1 rfl⟩
  have c0 : X.cell? ⟨w.heap.size, 0, none⟩ = some (ptrV A.wb) := cells_at x0 rfl
  have ck : X.cell? ⟨w.heap.size + 1, 0, none⟩ = some (.int .u8 k) := cells_at xn rfl
  have ct : X.cell? ⟨w.heap.size + 1, 1, none⟩ = some (.string (Ln.bs tx)) := cells_at xn rfl
  have cn : X.cell? ⟨w.heap.size + 1, 2, none⟩ = some (.int .i64 nn) := cells_at xn rfl
  have cv : X.cell? ⟨w.heap.size + 1, 3, none⟩ = some (.slice ao N cap) := cells_at xn rfl
  rw [hX, hX1] at c0 ck ct cn cv
  have hXX : X = (w.alloc (.cells #[ptrV A.wb] 82)).alloc (.cells #[.int .u8 k, .string (Ln.bs tx), .int .i64 nn, .slice ao N cap] 25) := by rw [hX, hX1]
  clear hB ht6 h2 hlow hnl ht hf hrow htt htl hN s1 b1 b2 bX x0 xn n0 n1 fX hpl hmass hr hbd hch hcl hX hX1
  have HL : Hid (Bn.look2 t p s = match Bn.variable_ s.own t.t with
    | none => .error 111
    | some b => .ok (s.use b p, .nothing)) := by
    show _ = _
    unfold Bn.look2
    rw [if_neg (by rw [g22]; decide), if_neg (by rw [g22]; decide), if_neg (by rw [g22]; decide), if_pos g22]
    rfl
  rw [hk] at g22
  subst g22
  clear hk
  have hBD : BAt A M bx ch s p i X.drew pv mv sv := HB.out.1.below (below_draw X 1)
  obtain ⟨sb, rfl, hc1⟩ := hBD.chain
  have HVA : Hid (_) := svariable_any A.fb A.wb i bx M tx HT.out.1 _ (ptrV sb) pv mv X.drew hBD.file.1 hBD.walk.1 ch s.own sb hc1
  have HBD : Hid (BAt A M bx ch s p i X.drew pv mv (ptrV sb) ∧ Chain A.fb bx M X.drew ch s.own (.iface 83 (ptrV sb)) ∧ Foot M M X X.drew) := ⟨hBD, hc1, Foot.of_below (below_draw X 1)⟩
  have HCF : Hid (∀ z : World, (z.cell? ⟨w.heap.size, 0, none⟩ = some (ptrV A.wb) ∧ z.cell? ⟨A.wb, 0, none⟩ = some (ptrV sb) ∧ z.cell? ⟨w.heap.size + 1, 1, none⟩ = some (.string (Ln.bs tx))) → z.cell? ⟨w.heap.size, 0, none⟩ = some (ptrV A.wb) ∧ z.cell? ⟨A.wb, 0, none⟩ = some (ptrV sb) ∧ z.cell? ⟨w.heap.size + 1, 1, none⟩ = some (.string (Ln.bs tx))) := fun _ h => h
  have HD0 : Hid (X.drew.cell? ⟨w.heap.size, 0, none⟩ = some (ptrV A.wb) ∧ X.drew.cell? ⟨A.wb, 0, none⟩ = some (ptrV sb) ∧ X.drew.cell? ⟨w.heap.size + 1, 1, none⟩ = some (.string (Ln.bs tx))) := ⟨(HCC.out HBD.out.2.2).1, cells_at hBD.walk.1 rfl, (HCC.out HBD.out.2.2).2.2.1⟩
  clear hBD hc1
  refine (callsIn_wide (n := 3)).1 ?_
  refine callsIn_of_wp Tryz.func64 rfl trivial ?_ rfl
  simp only [Tryz.ntmps64, List.size_toArray, List.length_cons, List.length_nil, Nat.reduceAdd, Nat.reduceSub, Array.replicate_succ, Array.replicate_zero, List.push_toArray, List.append_toArray, List.nil_append, List.cons_append]
  gi_wp2
  rw [← hXX]
  clear hXX c0 ck ct cn cv
  refine region_lex (fun z => z.cell? ⟨w.heap.size, 0, none⟩ = some (ptrV A.wb) ∧ z.cell? ⟨A.wb, 0, none⟩ = some (ptrV sb) ∧ z.cell? ⟨w.heap.size + 1, 1, none⟩ = some (.string (Ln.bs tx))) 7 2 rfl (by kernel_rfl) (by kernel_rfl) (by kernel_rfl) (by kernel_rfl) (fun _ _ d _ _ h => by cases d <;> exact h) HD0.out ?_
  simp only [List.take_succ_cons, List.take_zero]
  iterate 7 (first
    | (apply lexC_want
       · rfl
       · exact fun _ => rfl
       · (intro w' hw'; obtain ⟨f1, f2, f3⟩ := HCF.out w' hw'; go_simp; try rfl)
       simp only [Act.put, List.setIfInBounds_toArray, List.set_cons_zero, List.set_cons_succ])
    | (apply lexC_skip
       · rfl
       · exact fun _ => rfl
       simp only [Act.put, List.setIfInBounds_toArray, List.set_cons_zero, List.set_cons_succ]))
  refine lexC_nil ?_
  refine anyC_one (i := 7) (by kernel_rfl) rfl (by rfl) (fun K1 hK1 => ?_)
  go_simp
  refine ⟨trivial, ?_⟩
  refine (callsIn_wide.2 HVA.out).mono ?_
  rintro e w1 ⟨rfl, hend⟩
  cases hfd : Bn.variable_ s.own tx with
  | none =>
    rw [hfd] at hend
    obtain rfl := hend
    have hb0 : Bn.look2 t p s = .error 111 := by rw [HL.out, HT.out.2.2.2.1, hfd]
    exact ⟨rfl, LookEnd.bad hb0 (List.prefix_refl _) (HB.out.2.1.trans HBD.out.2.2)⟩
  | some kb =>
    rw [hfd] at hend
    obtain rfl := hend
    obtain ⟨sc, hsc, xm, hxm, hxk⟩ := bvar_mem hfd
    have hkl : kb < bx.length := hxk ▸ HBD.out.2.1.lt sc hsc xm hxm
    have hbk := List.getElem?_eq_getElem hkl
    have hdk := List.getElem?_eq_getElem (show kb < s.bds.length by rw [← HBD.out.1.bds.len]; exact hkl)
    rw [getD_of hbk]
    obtain ⟨b, hb⟩ : ∃ b, b = bx[kb] := ⟨_, rfl⟩
    rw [← hb] at hbk ⊢
    have HUS : Hid (_) := use_any HBD.out.1 hbk hdk (by have := HB.out.2.2.2.1; omega) (by have := Bn.usesSum_mem (List.mem_of_getElem? hdk); have := HB.out.2.2.1; unfold Bn.St.mass at this; omega)
    have HL2 : Hid (Bn.look2 t p s = .ok (s.use kb p, .nothing)) := by show _ = _; rw [HL.out, HT.out.2.2.2.1, hfd]
    clear hfd hsc hxm hxk hkl hbk hdk hb HVA
    refine hK1 _ _ HD0.out ?_
    clear hK1
    refine anyC_one (i := 8) (by kernel_rfl) rfl (by rfl) (fun K2 hK2 => ?_)
    go_simp
    refine ⟨trivial, ?_⟩
    refine (callsIn_wide.2 HUS.out).mono ?_
    rintro e w2 ⟨rfl, M2, hB2, hf2⟩
    have HE : Hid (BAt A M2 bx ch (s.use kb p) p i w2 pv mv (ptrV sb) ∧ Foot M M2 w w2 ∧ Foot M M2 X w2) := ⟨hB2, HB.out.2.1.trans (HBD.out.2.2.trans hf2), HBD.out.2.2.trans hf2⟩
    clear hB2 hf2
    refine hK2 _ _ ⟨(HCC.out HE.out.2.2).1, cells_at HE.out.1.walk.1 rfl, (HCC.out HE.out.2.2).2.2.1⟩ ?_
    clear hK2
    refine anyC_done (by kernel_rfl) ?_
    gi_wp2
    go_ret
    exact LookEnd.good HL2.out (List.prefix_refl _) HE.out.2.1 HE.out.1.bw ⟨rfl, rfl⟩ (by omega)
end Go.Proofs.YtnndgjnihhafbaaGreatDoor
