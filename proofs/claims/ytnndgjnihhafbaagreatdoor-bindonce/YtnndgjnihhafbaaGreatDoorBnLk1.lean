/-
  What look does at most nodes, and at a Block.
-/
import Derived.Test.YtnndgjnihhafbaaGreatDoorBnCalls
namespace Go.Proofs.YtnndgjnihhafbaaGreatDoor
open Go.RowKit Go.Shelf Go.WideMaps
open Bn (Sc Bd St After)

attribute [local go_sem] Oper.semAt_some



set_option maxRecDepth 100000 in
set_option maxHeartbeats 8000000 in
theorem look_other {A : Ad} {S : Nat → Prop} (hSn : ∀ b, S b → b < A.n) (m : Nat) (t : Tr) (val : Value) (M : Nat → Prop) (bx : List Nat) (ch : List (Nat × Nat)) (s : St) (p : List Nat) (i : Nat) (w : World) (hr : Tr.right m t = true) (hbd : Tr.Bd [t]) (hn : NodeR S w val t) (hB : BW A M bx ch s p i w) (hch : ch ≠ []) (hcl : ch.length ≤ 50) (hpl : p.length ≤ 1000) (hmass : s.mass ≤ 10000000) (g2 : t.k ≠ 2) (g5 : t.k ≠ 5) (g4 : t.k ≠ 4) (g6 : t.k ≠ 6) (g22 : t.k ≠ 22) (g25 : t.k ≠ 25) :
    Calls Tryz.prog 64 #[ptrV A.wb, val] w fun e w' => LookEnd A Bn.look2 M bx ch s p i t w e w' := by
  obtain ⟨pv, mv, sv, hB⟩ := hB
  have ht6 := (hbd.mem (List.mem_singleton.2 rfl)).1
  have h2 : t.k = 2 → t.kids ≠ [] := by
    cases m with
    | zero => rw [Tr.right] at hr; cases hr
    | succ m => exact func_kids hr
  have hlow : ∀ b, S b → b < w.heap.size := fun b hb => Nat.lt_of_lt_of_le (hSn b hb) hB.low
  have hnl : NodeR (lowS w.heap.size) w val t := by
    obtain ⟨x, e1, e2, e3, e4⟩ := hn
    exact ⟨x, e1, e2, e3, e4.mono hlow⟩
  obtain ⟨⟨k, tx, nn, kv, kids⟩, rfl, ht, hf, hrow⟩ := hn
  obtain ⟨ao, cap, hkv⟩ := hrow.slice
  simp only at hkv
  subst hkv
  have hk : t.k = k := by rw [← ht]; rfl
  have htt : t.t = tx := by rw [← ht]; rfl
  have htl : t.kids.length = kids.length := by rw [← ht]; rfl
  simp only [N1.cells] at hnl ⊢
  obtain ⟨N, hN⟩ : ∃ N, N = kids.length := ⟨_, rfl⟩
  rw [← hN] at hnl htl ⊢
  obtain ⟨X1, hX1⟩ : ∃ X, X = w.alloc (.cells #[ptrV A.wb] 82) := ⟨_, rfl⟩
  obtain ⟨X, hX⟩ : ∃ X, X = X1.alloc (.cells #[.int .u8 k, .string (Ln.bs tx), .int .i64 nn, .slice ao N cap] 25) := ⟨_, rfl⟩
  have s1 : X1.heap.size = w.heap.size + 1 := by rw [hX1, World.size_alloc]
  have b1 : Below w.heap.size w X1 := hX1 ▸ below_new w _
  have b2 : Below X1.heap.size X1 X := hX ▸ below_new X1 _
  have bX : Below w.heap.size w X := below_then b1 b2
  have x0 : X.heap[w.heap.size]? = some (.cells #[ptrV A.wb] 82 (0, 0)) := (b2.block _ (by omega)).trans (by rw [hX1]; exact World.alloc_heap_new w _)
  have xn : X.heap[w.heap.size + 1]? = some (.cells #[.int .u8 k, .string (Ln.bs tx), .int .i64 nn, .slice ao N cap] 25 (0, 0)) := by rw [hX, ← s1]; exact World.alloc_heap_new X1 _
  have n0 : ¬ M w.heap.size := fun e => by have := (hB.lt _ e).2; omega
  have n1 : ¬ M (w.heap.size + 1) := fun e => by have := (hB.lt _ e).2; omega
  have fX : Foot M M w X := Foot.of_below bX
  have HB : Hid (BAt A M bx ch s p i X pv mv sv ∧ Foot M M w X ∧ s.mass ≤ 10000000 ∧ p.length ≤ 1000 ∧ ch ≠ [] ∧ ch.length ≤ 50) := ⟨hB.below bX, fX, hmass, hpl, hch, hcl⟩
  have HN : Hid (NodeR (lowS X.heap.size) X (.agg #[.int .u8 k, .string (Ln.bs tx), .int .i64 nn, .slice ao N cap]) t) := hnl.at bX
  have HT : Hid (tx.length ≤ 1000000 ∧ (t.k = 2 → t.kids ≠ []) ∧ t.k = k ∧ t.t = tx ∧ t.kids.length = N ∧ Tr.Bd [t]) := ⟨htt ▸ ht6, h2, hk, htt, htl, hbd⟩
  have HXB : Hid (X.heap[w.heap.size]? = some (.cells #[ptrV A.wb] 82 (0, 0)) ∧ ¬ M w.heap.size ∧ X.heap[w.heap.size + 1]? = some (.cells #[.int .u8 k, .string (Ln.bs tx), .int .i64 nn, .slice ao N cap] 25 (0, 0)) ∧ ¬ M (w.heap.size + 1)) := ⟨x0, n0, xn, n1⟩
  have HCC : Hid (∀ {M' : Nat → Prop} {z : World}, Foot M M' X z → z.cell? ⟨w.heap.size, 0, none⟩ = some (ptrV A.wb) ∧ z.cell? ⟨w.heap.size + 1, 0, none⟩ = some (.int .u8 k) ∧ z.cell? ⟨w.heap.size + 1, 1, none⟩ = some (.string (Ln.bs tx)) ∧ z.cell? ⟨w.heap.size + 1, 2, none⟩ = some (.int .i64 nn) ∧ z.cell? ⟨w.heap.size + 1, 3, none⟩ = some (.slice ao N cap)) := fun hf => ⟨cells_at (hf.cell x0 n0).1 rfl, cells_at (hf.cell xn n1).1 rfl, cells_at (hf.cell xn n1).1 rfl, cells_at (hf.cell xn n1).1 rfl, cells_at (hf.cell xn n1).1 rfl⟩
  have c0 : X.cell? ⟨w.heap.size, 0, none⟩ = some (ptrV A.wb) := cells_at x0 rfl
  have ck : X.cell? ⟨w.heap.size + 1, 0, none⟩ = some (.int .u8 k) := cells_at xn rfl
  have ct : X.cell? ⟨w.heap.size + 1, 1, none⟩ = some (.string (Ln.bs tx)) := cells_at xn rfl
  have cn : X.cell? ⟨w.heap.size + 1, 2, none⟩ = some (.int .i64 nn) := cells_at xn rfl
  have cv : X.cell? ⟨w.heap.size + 1, 3, none⟩ = some (.slice ao N cap) := cells_at xn rfl
  rw [hX, hX1] at c0 ck ct cn cv
  have hXX : X = (w.alloc (.cells #[ptrV A.wb] 82)).alloc (.cells #[.int .u8 k, .string (Ln.bs tx), .int .i64 nn, .slice ao N cap] 25) := by rw [hX, hX1]
  clear hB ht6 h2 hlow hnl ht hf hrow htt htl hN s1 b1 b2 bX x0 xn n0 n1 fX hpl hmass hr hbd hch hcl hX hX1
  have HL : Hid (Bn.look2 t p s = .ok (s, .nothing)) := by
    show _ = _
    unfold Bn.look2
    rw [if_neg g2, if_neg g5, if_neg (by omega), if_neg g22, if_neg g25]
  rw [hk] at g2 g5 g4 g6 g22 g25
  clear hk
  have hstf := fun (a : Addr) (f : Fn) (x y : Array Value) (w : World) => run_store Tryz.prog w a (.func f x y) .plain rfl
  go_enter Tryz.func64, Tryz.ntmps64
  go_wp2
  rw [← hXX]
  go_ret
  exact LookEnd.good HL.out (List.prefix_refl _) HB.out.2.1 HB.out.1.bw ⟨rfl, rfl⟩ (by omega)

set_option maxRecDepth 100000 in
set_option maxHeartbeats 8000000 in
theorem look_block {A : Ad} {S : Nat → Prop} (hSn : ∀ b, S b → b < A.n) (m : Nat) (t : Tr) (val : Value) (M : Nat → Prop) (bx : List Nat) (ch : List (Nat × Nat)) (s : St) (p : List Nat) (i : Nat) (w : World) (hr : Tr.right m t = true) (hbd : Tr.Bd [t]) (hn : NodeR S w val t) (hB : BW A M bx ch s p i w) (hch : ch ≠ []) (hcl : ch.length ≤ 50) (hpl : p.length ≤ 1000) (hmass : s.mass ≤ 10000000) (g5 : t.k = 5) :
    Calls Tryz.prog 64 #[ptrV A.wb, val] w fun e w' => LookEnd A Bn.look2 M bx ch s p i t w e w' := by
  obtain ⟨pv, mv, sv, hB⟩ := hB
  have ht6 := (hbd.mem (List.mem_singleton.2 rfl)).1
  have h2 : t.k = 2 → t.kids ≠ [] := by
    cases m with
    | zero => rw [Tr.right] at hr; cases hr
    | succ m => exact func_kids hr
  have hlow : ∀ b, S b → b < w.heap.size := fun b hb => Nat.lt_of_lt_of_le (hSn b hb) hB.low
  have hnl : NodeR (lowS w.heap.size) w val t := by
    obtain ⟨x, e1, e2, e3, e4⟩ := hn
    exact ⟨x, e1, e2, e3, e4.mono hlow⟩
  obtain ⟨⟨k, tx, nn, kv, kids⟩, rfl, ht, hf, hrow⟩ := hn
  obtain ⟨ao, cap, hkv⟩ := hrow.slice
  simp only at hkv
  subst hkv
  have hk : t.k = k := by rw [← ht]; rfl
  have htt : t.t = tx := by rw [← ht]; rfl
  have htl : t.kids.length = kids.length := by rw [← ht]; rfl
  simp only [N1.cells] at hnl ⊢
  obtain ⟨N, hN⟩ : ∃ N, N = kids.length := ⟨_, rfl⟩
  rw [← hN] at hnl htl ⊢
  obtain ⟨X1, hX1⟩ : ∃ X, X = w.alloc (.cells #[ptrV A.wb] 82) := ⟨_, rfl⟩
  obtain ⟨X, hX⟩ : ∃ X, X = X1.alloc (.cells #[.int .u8 k, .string (Ln.bs tx), .int .i64 nn, .slice ao N cap] 25) := ⟨_, rfl⟩
  have s1 : X1.heap.size = w.heap.size + 1 := by rw [hX1, World.size_alloc]
  have b1 : Below w.heap.size w X1 := hX1 ▸ below_new w _
  have b2 : Below X1.heap.size X1 X := hX ▸ below_new X1 _
  have bX : Below w.heap.size w X := below_then b1 b2
  have x0 : X.heap[w.heap.size]? = some (.cells #[ptrV A.wb] 82 (0, 0)) := (b2.block _ (by omega)).trans (by rw [hX1]; exact World.alloc_heap_new w _)
  have xn : X.heap[w.heap.size + 1]? = some (.cells #[.int .u8 k, .string (Ln.bs tx), .int .i64 nn, .slice ao N cap] 25 (0, 0)) := by rw [hX, ← s1]; exact World.alloc_heap_new X1 _
  have n0 : ¬ M w.heap.size := fun e => by have := (hB.lt _ e).2; omega
  have n1 : ¬ M (w.heap.size + 1) := fun e => by have := (hB.lt _ e).2; omega
  have fX : Foot M M w X := Foot.of_below bX
  have HB : Hid (BAt A M bx ch s p i X pv mv sv ∧ Foot M M w X ∧ s.mass ≤ 10000000 ∧ p.length ≤ 1000 ∧ ch ≠ [] ∧ ch.length ≤ 50) := ⟨hB.below bX, fX, hmass, hpl, hch, hcl⟩
  have HN : Hid (NodeR (lowS X.heap.size) X (.agg #[.int .u8 k, .string (Ln.bs tx), .int .i64 nn, .slice ao N cap]) t) := hnl.at bX
  have HT : Hid (tx.length ≤ 1000000 ∧ (t.k = 2 → t.kids ≠ []) ∧ t.k = k ∧ t.t = tx ∧ t.kids.length = N ∧ Tr.Bd [t]) := ⟨htt ▸ ht6, h2, hk, htt, htl, hbd⟩
  have HXB : Hid (X.heap[w.heap.size]? = some (.cells #[ptrV A.wb] 82 (0, 0)) ∧ ¬ M w.heap.size ∧ X.heap[w.heap.size + 1]? = some (.cells #[.int .u8 k, .string (Ln.bs tx), .int .i64 nn, .slice ao N cap] 25 (0, 0)) ∧ ¬ M (w.heap.size + 1)) := ⟨x0, n0, xn, n1⟩
  have HCC : Hid (∀ {M' : Nat → Prop} {z : World}, Foot M M' X z → z.cell? ⟨w.heap.size, 0, none⟩ = some (ptrV A.wb) ∧ z.cell? ⟨w.heap.size + 1, 0, none⟩ = some (.int .u8 k) ∧ z.cell? ⟨w.heap.size + 1, 1, none⟩ = some (.string (Ln.bs tx)) ∧ z.cell? ⟨w.heap.size + 1, 2, none⟩ = some (.int .i64 nn) ∧ z.cell? ⟨w.heap.size + 1, 3, none⟩ = some (.slice ao N cap)) := fun hf => ⟨cells_at (hf.cell x0 n0).1 rfl, cells_at (hf.cell xn n1).1 rfl, cells_at (hf.cell xn n1).1 rfl, cells_at (hf.cell xn n1).1 rfl, cells_at (hf.cell xn n1).1 rfl⟩
  have c0 : X.cell? ⟨w.heap.size, 0, none⟩ = some (ptrV A.wb) := cells_at x0 rfl
  have ck : X.cell? ⟨w.heap.size + 1, 0, none⟩ = some (.int .u8 k) := cells_at xn rfl
  have ct : X.cell? ⟨w.heap.size + 1, 1, none⟩ = some (.string (Ln.bs tx)) := cells_at xn rfl
  have cn : X.cell? ⟨w.heap.size + 1, 2, none⟩ = some (.int .i64 nn) := cells_at xn rfl
  have cv : X.cell? ⟨w.heap.size + 1, 3, none⟩ = some (.slice ao N cap) := cells_at xn rfl
  rw [hX, hX1] at c0 ck ct cn cv
  have hXX : X = (w.alloc (.cells #[ptrV A.wb] 82)).alloc (.cells #[.int .u8 k, .string (Ln.bs tx), .int .i64 nn, .slice ao N cap] 25) := by rw [hX, hX1]
  clear hB ht6 h2 hlow hnl ht hf hrow htt htl hN s1 b1 b2 bX x0 xn n0 n1 fX hpl hmass hr hbd hch hcl hX hX1
  have HL : Hid (Bn.look2 t p s = .ok ({ s with own := [] :: s.own }, .out)) := by
    show _ = _
    unfold Bn.look2
    rw [if_neg (by rw [g5]; decide), if_pos g5]
  rw [hk] at g5
  subst g5
  clear hk
  have HIN : Hid (_) := inner_any HB.out.1.bw HB.out.2.2.2.2.1
  refine (callsIn_wide (n := 3)).1 ?_
  refine callsIn_of_wp Tryz.func64 rfl trivial ?_ rfl
  simp only [Tryz.ntmps64, List.size_toArray, List.length_cons, List.length_nil, Nat.reduceAdd, Nat.reduceSub, Array.replicate_succ, Array.replicate_zero, List.push_toArray, List.append_toArray, List.nil_append, List.cons_append]
  gi_wp2
  rw [← hXX]
  clear hXX c0 ck ct cn cv
  refine ⟨trivial, ?_⟩
  refine (callsIn_wide.2 HIN.out).mono ?_
  rintro e w2 ⟨M', ch1, fv, rfl, hB2, hf2, hA2⟩
  have HE : Hid (BW A M' bx ch1 { s with own := [] :: s.own } p i w2 ∧ Foot M M' w w2 ∧ AfterAt A bx M' .out fv ch1 ch w2) := ⟨hB2, HB.out.2.1.trans hf2, hA2⟩
  clear hB2 hf2 hA2
  gi_wp2
  go_ret
  exact LookEnd.good HL.out (List.prefix_refl _) HE.out.2.1 HE.out.1 HE.out.2.2 (by have := HE.out.2.2.out_len; omega)
end Go.Proofs.YtnndgjnihhafbaaGreatDoor
