/-
  The walk of small.
-/
import Derived.Test.YtnndgjnihhafbaaGreatDoorBnCount
import Derived.Test.YtnndgjnihhafbaaGreatDoorBnAwake
namespace Go.Proofs.YtnndgjnihhafbaaGreatDoor
open Go.RowKit Go.Shelf

attribute [local go_sem] Oper.semAt_some

theorem bd_of_few {t : Tr} {c : Nat} (h : t.size ≤ c ∧ ∀ s ∈ t.texts, s.length ≤ 8 * c + 7) (hc : c ≤ 1000) : Tr.Bd [t] := by
  refine ⟨by rw [Tr.sizes_cons, Tr.sizes_nil]; omega, fun s hs => ?_⟩
  rw [Tr.textsL_cons, Tr.textsL_nil, List.append_nil] at hs
  have := h.2 s hs
  omega

set_option maxRecDepth 100000 in
set_option maxHeartbeats 4000000 in
theorem small_any (S : Nat → Prop) (t : Tr) (val : Value) (w : World) (hS : ∀ b, S b → b < w.heap.size) (hn : NodeR S w val t) :
    Calls Tryz.prog 10 #[val] w fun e w' => ∃ b : Bool, e = .returned (.bool b) ∧ Below w.heap.size w w' ∧ (b = true → t.size ≤ 120 ∧ Tr.Bd [t]) := by
  have hn0 := hn
  obtain ⟨⟨k, tx, nn, kv, kids⟩, rfl, ht, hf, hrow⟩ := hn
  obtain ⟨ao, cap, hkv⟩ := hrow.slice
  simp only at hkv
  subst hkv
  simp only [N1.cells] at hn0 ⊢
  obtain ⟨N, hN⟩ : ∃ N, N = kids.length := ⟨_, rfl⟩
  rw [← hN] at hn0 ⊢
  obtain ⟨X, hX⟩ : ∃ X, X = w.alloc (.cells #[.int .u8 k, .string (Ln.bs tx), .int .i64 nn, .slice ao N cap] 25) := ⟨_, rfl⟩
  have sX : X.heap.size = w.heap.size + 1 := by rw [hX, World.size_alloc]
  have bX : Below w.heap.size w X := hX ▸ below_new w _
  have n0 : X.heap[w.heap.size]? = some (.cells #[.int .u8 k, .string (Ln.bs tx), .int .i64 nn, .slice ao N cap] 25 (0, 0)) := by rw [hX]; exact World.alloc_heap_new w _
  have hnX : NodeR S X (.agg #[.int .u8 k, .string (Ln.bs tx), .int .i64 nn, .slice ao N cap]) t := by
    obtain ⟨x, e1, e2, e3, e4⟩ := hn0
    exact ⟨x, e1, e2, e3, e4.keep (fun b hb => bX.block b (hS b hb)) (fun _ hb => hb)⟩
  have c0 : X.cell? ⟨w.heap.size, 0, none⟩ = some (.int .u8 k) := cells_at n0 rfl
  have c1 : X.cell? ⟨w.heap.size, 1, none⟩ = some (.string (Ln.bs tx)) := cells_at n0 rfl
  have c2 : X.cell? ⟨w.heap.size, 2, none⟩ = some (.int .i64 nn) := cells_at n0 rfl
  have c3 : X.cell? ⟨w.heap.size, 3, none⟩ = some (.slice ao N cap) := cells_at n0 rfl
  have HC : Hid (_) := nodesC_any t.size t (Nat.le_refl _) S _ 120 X (fun b hb => by have := hS b hb; omega) hnX (by decide)
  have HX : Hid (Below w.heap.size w X) := bX
  rw [hX] at c0 c1 c2 c3
  clear hn0 ht hf hrow hN sX bX n0 hnX hS
  go_enter Tryz.func10, Tryz.ntmps10
  go_wp2_with fail
  rw [← hX]
  clear hX c0 c1 c2 c3
  refine Calls.mono HC.out ?_
  rintro e w1 ⟨c, rfl, hb, h1, h2, hfew⟩
  have HF : Hid (FewC 120 c t.size t.texts) := hfew
  have HB : Hid (Below w.heap.size w w1) := below_then HX.out hb
  clear hb hfew HC HX
  go_wp2
  go_ret
  refine ⟨_, rfl, HB.out, fun hc => ?_⟩
  have hc := of_decide_eq_true hc
  have hc2 : c ≤ 120 := by omega
  have := HF.out hc2
  exact ⟨by omega, bd_of_few this (by omega)⟩
end Go.Proofs.YtnndgjnihhafbaaGreatDoor
