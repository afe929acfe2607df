/-
  All nodes of a tree are gone through; the walk of through.
-/
import Derived.Test.YtnndgjnihhafbaaGreatDoorBnThrough
namespace Go.Proofs.YtnndgjnihhafbaaGreatDoor
open Go.RowKit Go.Shelf Go.WideMaps
open Bn (Sc Bd St After)

attribute [local go_sem] Oper.semAt_some

theorem run_store_func {P : Program} {w : World} {a : Addr} {m : Mode} (f : Fn) (x y : Array Value) : (store a (.func f x y) m).run P w = stored P w a (.func f x y) m := run_store P w a _ m rfl
attribute [local go_sem] run_store_func

theorem visit_all {A : Ad} {look : Tr → List Nat → St → Except Nat (St × After)} {S : Nat → Prop} {K : (Nat → Prop) → World → Prop} {g : FuncId} {pre post : Array Value} (L : LookAt A look S K g pre post) (hSn : ∀ b, S b → b < A.n) {cl cw cv : Nat} :
    ∀ (m : Nat) (t : Tr), VisitAt A look S K cl cw cv (.func (.func g) pre post) m t
  | 0, t => fun _ _ _ _ _ _ _ _ hr => by rw [Tr.right] at hr; cases hr
  | m + 1, t => visit1_any L hSn m t (fun x _ => visit_all L hSn m x)

set_option maxRecDepth 100000 in
set_option maxHeartbeats 8000000 in
theorem bthrough_any {A : Ad} {look : Tr → List Nat → St → Except Nat (St × After)} {S : Nat → Prop} {K : (Nat → Prop) → World → Prop} {g : FuncId} {pre post : Array Value} (L : LookAt A look S K g pre post) (hSn : ∀ b, S b → b < A.n) (m : Nat) (t : Tr) (val : Value) (M : Nat → Prop) (bx : List Nat) (ch : List (Nat × Nat)) (s : St) (p : List Nat) (i : Nat) (w : World)
    (hr : Tr.right m t = true) (hbd : Tr.Bd [t]) (hn : NodeR S w val t) (hB : BW A M bx ch s p i w) (hK : K M w) (hch : ch ≠ []) (hcl : ch.length + m ≤ 50) (hpl : p.length + m ≤ 1000) (his : t.size ≤ 1000000) (hmass : s.mass + 3 * t.size ≤ 10000000) :
    Calls Tryz.prog 59 #[ptrV A.wb, val, .func (.func g) pre post] w fun e w' => ∃ M' bx', bx <+: bx' ∧ Foot M M' w w' ∧
      match Bn.visit look t p 0 s with
      | .error f => e = pan f.1 f.2
      | .ok (s', j) => e = .returned (.tuple #[]) ∧ BW A M' bx' ch s' p j w' ∧ j = 0 + t.size ∧ s'.mass ≤ s.mass + 3 * t.size := by
  have hn0 := hn
  obtain ⟨⟨k, tx, nn, kv, kids⟩, rfl, ht, hf, hrow⟩ := hn
  obtain ⟨ao, cap, hkv⟩ := hrow.slice
  simp only at hkv
  subst hkv
  simp only [N1.cells] at *
  obtain ⟨N, hN⟩ : ∃ N, N = kids.length := ⟨_, rfl⟩
  rw [← hN] at hn0 ⊢
  have hSM : ∀ b, S b → b < w.heap.size ∧ ¬ M b := fun b hb => by
    obtain ⟨_, _, _, hB⟩ := hB
    exact ⟨Nat.lt_of_lt_of_le (hSn b hb) hB.low, fun e => by have := (hB.lt b e).1; have := hSn b hb; omega⟩
  have hnM : ∀ b, w.heap.size ≤ b → ¬ M b := fun b hb e => by
    obtain ⟨_, _, _, hB⟩ := hB
    have := (hB.lt b e).2; omega
  have hwl : A.wb < w.heap.size := by
    obtain ⟨_, _, _, hB⟩ := hB
    exact (Array.getElem?_eq_some_iff.1 hB.walk.1).1
  obtain ⟨X1, hX1⟩ : ∃ X, X = w.alloc (.cells #[ptrV A.wb] 82) := ⟨_, rfl⟩
  obtain ⟨X2, hX2⟩ : ∃ X, X = X1.alloc (.cells #[.int .u8 k, .string (Ln.bs tx), .int .i64 nn, .slice ao N cap] 25) := ⟨_, rfl⟩
  obtain ⟨X3, hX3⟩ : ∃ X, X = X2.alloc (.cells #[.func (.func g) pre post] 97) := ⟨_, rfl⟩
  obtain ⟨X4, hX4⟩ : ∃ X, X = X3.setCell ⟨A.wb, 2, none⟩ (.int .i64 0) := ⟨_, rfl⟩
  obtain ⟨X5, hX5⟩ : ∃ X, X = X4.alloc (.cells #[.func (.func 98) #[] #[.pointer (some ⟨w.heap.size + 1 + 1, 0, none⟩), .pointer (some ⟨w.heap.size, 0, none⟩), .pointer (some ⟨w.heap.size + 1 + 1 + 1, 0, none⟩)]] 131) := ⟨_, rfl⟩
  have z1 : X1.heap.size = w.heap.size + 1 := by rw [hX1, World.size_alloc]
  have z2 : X2.heap.size = w.heap.size + 2 := by rw [hX2, World.size_alloc, z1]
  have z3 : X3.heap.size = w.heap.size + 3 := by rw [hX3, World.size_alloc, z2]
  have b1 : Below w.heap.size w X1 := hX1 ▸ below_new w _
  have b2 : Below X1.heap.size X1 X2 := hX2 ▸ below_new X1 _
  have b3 : Below X2.heap.size X2 X3 := hX3 ▸ below_new X2 _
  have b13 : Below w.heap.size w X3 := below_then (below_then b1 b2) b3
  obtain ⟨pv, mv, sv, hB3⟩ := hB.below b13
  have hB4 := hB3.number (j := 0)
  rw [show ((0 : Nat) : Int) = 0 from rfl, ← hX4] at hB4
  have gr : X3.grownBy X4 (some A.wb) := hX4 ▸ grown_set X3 A.wb 2 _
  have z4 : X4.heap.size = w.heap.size + 3 := by rw [hX4, World.size_setCell, z3]
  have b5 : Below X4.heap.size X4 X5 := hX5 ▸ below_new X4 _
  have f5 : Foot M M w X5 := (Foot.of_below b13).trans ((Foot.of_grown gr hB3.walk.2 (fun _ e => .inl e)).trans (Foot.of_below b5))
  have hB5 := hB4.bw.below b5
  have e1 : X1.heap[w.heap.size]? = some (.cells #[ptrV A.wb] 82 (0, 0)) := by rw [hX1]; exact World.alloc_heap_new w _
  have e2 : X2.heap[w.heap.size + 1]? = some (.cells #[.int .u8 k, .string (Ln.bs tx), .int .i64 nn, .slice ao N cap] 25 (0, 0)) := by rw [← z1, hX2]; exact World.alloc_heap_new X1 _
  have e3 : X3.heap[w.heap.size + 2]? = some (.cells #[.func (.func g) pre post] 97 (0, 0)) := by rw [← z2, hX3]; exact World.alloc_heap_new X2 _
  have e5 : X5.heap[w.heap.size + 1 + 1 + 1]? = some (.cells #[.func (.func 98) #[] #[.pointer (some ⟨w.heap.size + 1 + 1, 0, none⟩), .pointer (some ⟨w.heap.size, 0, none⟩), .pointer (some ⟨w.heap.size + 1 + 1 + 1, 0, none⟩)]] 131 (0, 0)) := by
    have := World.alloc_heap_new X4 (.cells #[.func (.func 98) #[] #[.pointer (some ⟨w.heap.size + 1 + 1, 0, none⟩), .pointer (some ⟨w.heap.size, 0, none⟩), .pointer (some ⟨w.heap.size + 1 + 1 + 1, 0, none⟩)]] 131)
    rw [← hX5, z4] at this; exact this
  have up : ∀ k, k < w.heap.size + 3 → k ≠ A.wb → X5.heap[k]? = X3.heap[k]? := fun k hk hne => (b5.block k (by omega)).trans (gr.block k (by omega) (fun e => hne (by cases e; rfl)))
  have y1 := (up w.heap.size (by omega) (by omega)).trans ((b3.block _ (by omega)).trans ((b2.block _ (by omega)).trans e1))
  have y2 := (up (w.heap.size + 1) (by omega) (by omega)).trans ((b3.block _ (by omega)).trans e2)
  have y3 := (up (w.heap.size + 2) (by omega) (by omega)).trans e3
  have HKC : Hid (_) := visit_all L hSn (cl := w.heap.size + 1 + 1) (cw := w.heap.size) (cv := w.heap.size + 1 + 1 + 1) m t _ M bx ch s p 0 X5 hr hbd (hn0.foot f5 hSM) hB5 (L.stab _ _ _ _ hK f5) ⟨⟨y3, hnM _ (by omega)⟩, ⟨y1, hnM _ (by omega)⟩, ⟨e5, hnM _ (by omega)⟩⟩ hch hcl hpl (by omega) (by omega) hmass
  have HF : Hid (Foot M M w X5) := f5
  have v0 : X5.cell? ⟨w.heap.size + 1 + 1 + 1, 0, none⟩ = some (.func (.func 98) #[] #[.pointer (some ⟨w.heap.size + 1 + 1, 0, none⟩), .pointer (some ⟨w.heap.size, 0, none⟩), .pointer (some ⟨w.heap.size + 1 + 1 + 1, 0, none⟩)]) := cells_at e5 rfl
  have c1 : X3.cell? ⟨w.heap.size, 0, none⟩ = some (ptrV A.wb) := cells_at ((b3.block _ (by omega)).trans ((b2.block _ (by omega)).trans e1)) rfl
  have c2 : X3.cell? ⟨A.wb, 2, none⟩ = some (.int .i64 i) := cells_at hB3.walk.1 rfl
  have c3 : X3.frozen? ⟨A.wb, 2, none⟩ = false := frozen_of_row X3 _ 2 _ _ hB3.walk.1
  have k0 : X5.cell? ⟨w.heap.size + 1, 0, none⟩ = some (.int .u8 k) := cells_at y2 rfl
  have k1 : X5.cell? ⟨w.heap.size + 1, 1, none⟩ = some (.string (Ln.bs tx)) := cells_at y2 rfl
  have k2 : X5.cell? ⟨w.heap.size + 1, 2, none⟩ = some (.int .i64 nn) := cells_at y2 rfl
  have k3 : X5.cell? ⟨w.heap.size + 1, 3, none⟩ = some (.slice ao N cap) := cells_at y2 rfl
  rw [hX5, hX4, hX3, hX2, hX1] at v0 k0 k1 k2 k3
  rw [hX3, hX2, hX1] at c1 c2 c3
  have hX : X5 = ((((w.alloc (.cells #[ptrV A.wb] 82)).alloc (.cells #[.int .u8 k, .string (Ln.bs tx), .int .i64 nn, .slice ao N cap] 25)).alloc (.cells #[.func (.func g) pre post] 97)).setCell ⟨A.wb, 2, none⟩ (.int .i64 0)).alloc (.cells #[.func (.func 98) #[] #[.pointer (some ⟨w.heap.size + 1 + 1, 0, none⟩), .pointer (some ⟨w.heap.size, 0, none⟩), .pointer (some ⟨w.heap.size + 1 + 1 + 1, 0, none⟩)]] 131) := by rw [hX5, hX4, hX3, hX2, hX1]
  have hself := enter_visit
  clear L hSn hr hbd hn0 hB hK hch hcl hpl his hmass ht hf hrow hN hSM hnM hX1 hX2 hX3 hX4 hX5 z1 z2 z3 z4 b1 b2 b3 b13 hB3 hB4 gr b5 f5 hB5 e1 e2 e3 e5 up y1 y2 y3
  refine (callsIn_wide (n := 3)).1 ?_
  refine callsIn_of_wp Tryz.func59 rfl trivial ?_ rfl
  simp only [Tryz.ntmps59, List.size_toArray, List.length_cons, List.length_nil, Nat.reduceAdd, Nat.reduceSub, Array.replicate_succ, Array.replicate_zero, List.push_toArray, List.append_toArray, List.nil_append, List.cons_append]
  gi_wp2
  rw [← hX]
  refine ⟨trivial, ?_⟩
  refine (callsIn_wide.2 HKC.out).mono ?_
  rintro e w4 ⟨M4, bx4, hpre4, hf4, hv4⟩
  clear HKC v0 k0 k1 k2 k3 c1 c2 c3 hself hX
  cases hvx : Bn.visit look t p 0 s with
  | error E =>
    rw [hvx] at hv4
    obtain rfl := hv4
    exact ⟨rfl, M4, bx4, hpre4, HF.out.trans hf4, by rw [hvx]; rfl⟩
  | ok r4 =>
    obtain ⟨s4, j4⟩ := r4
    rw [hvx] at hv4
    obtain ⟨rfl, hB4, hj4, hm4⟩ := hv4
    have hvy : Hid (Bn.visit look t p 0 s = .ok (s4, j4)) := hvx
    clear hvx
    gi_wp2
    · rename_i he; exact absurd (hvy.out.symm.trans he) (by simp)
    · rename_i he; cases hvy.out.symm.trans he; go_end0; exact ⟨M4, bx4, hpre4, HF.out.trans hf4, rfl, hB4, hj4, hm4⟩
end Go.Proofs.YtnndgjnihhafbaaGreatDoor
