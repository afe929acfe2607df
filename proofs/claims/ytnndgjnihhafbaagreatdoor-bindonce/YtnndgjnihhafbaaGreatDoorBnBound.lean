/-
  The walk of bound: the binders of a file, or its fault.
-/
import Derived.Test.YtnndgjnihhafbaaGreatDoorBnTop
import Derived.Test.YtnndgjnihhafbaaGreatDoorTrAll
namespace Go.Proofs.YtnndgjnihhafbaaGreatDoor
open Go.RowKit Go.Shelf Go.WideMaps
open Bn (Sc Bd St After)

attribute [local go_sem] Oper.semAt_some

/-- What bound ends with. -/
def BEnd (t : Tr) (n : Nat) (e : Ending) (w' : World) : Prop :=
  match Bn.bound t with
  | .error f => e = .returned (.tuple #[.slice none 0 0, .agg #[.int .i64 f.1, .int .i64 f.2]])
  | .ok l => ∃ v cs, e = .returned (.tuple #[v, .agg #[.int .i64 0, .int .i64 0]]) ∧ w'.ownsRow n 46 3 v l.length cs ∧ BTold n w' cs l
theorem BEnd.bad {t : Tr} {n : Nat} {w' : World} {E i : Nat} (h : Bn.bound t = .error (E, i)) : BEnd t n (.returned (.tuple #[.slice none 0 0, .agg #[.int .i64 E, .int .i64 i]])) w' := by unfold BEnd; rw [h]
theorem BEnd.good {t : Tr} {n : Nat} {w' : World} {l : List Bd} {v : Value} {cs : List Value} (h : Bn.bound t = .ok l) (h1 : w'.ownsRow n 46 3 v l.length cs) (h2 : BTold n w' cs l) : BEnd t n (.returned (.tuple #[v, .agg #[.int .i64 0, .int .i64 0]])) w' := by unfold BEnd; rw [h]; exact ⟨v, cs, rfl, h1, h2⟩
/-- The two results' variables, written. -/
theorem bdoor {W : World} {n : Nat} {u e0 e1 : Value} (d0 : W.heap[n]? = some (.cells #[u] 34 (0, 0))) (d1 : W.heap[n + 1]? = some (.cells #[e0, e1] 31 (0, 0))) (v a b : Value) :
    W.cell? ⟨n, 0, none⟩ = some u ∧ W.frozen? ⟨n, 0, none⟩ = false ∧ (∀ j, W.frozen? ⟨n + 1, j, none⟩ = false) ∧ (W.setCell ⟨n, 0, none⟩ v).cell? ⟨n + 1, 0, none⟩ = some e0 ∧ ((W.setCell ⟨n, 0, none⟩ v).setCell ⟨n + 1, 0, none⟩ a).cell? ⟨n + 1, 1, none⟩ = some e1 ∧
    ∃ Q, Q = ((W.setCell ⟨n, 0, none⟩ v).setCell ⟨n + 1, 0, none⟩ a).setCell ⟨n + 1, 1, none⟩ b ∧ Q.heap[n]? = some (.cells #[v] 34 (0, 0)) ∧ Q.heap[n + 1]? = some (.cells #[a, b] 31 (0, 0)) ∧ Q.os = W.os ∧ Q.tape = W.tape ∧ Q.output = W.output ∧ W.heap.size ≤ Q.heap.size ∧ ∀ j, j < W.heap.size → j ≠ n → j ≠ n + 1 → Q.heap[j]? = W.heap[j]? := by
  have l0 := (Array.getElem?_eq_some_iff.1 d0).1
  have l1 := (Array.getElem?_eq_some_iff.1 d1).1
  have a0 := heap_setCell_same W n 0 _ _ v d0
  have g1 := grown_set W n 0 v
  have a1 := (g1.block (n + 1) l1 (by simp)).trans d1
  have a2 := heap_setCell_same _ (n + 1) 0 _ _ a a1
  have g2 := grown_set (W.setCell ⟨n, 0, none⟩ v) (n + 1) 0 a
  have a3 := heap_setCell_same _ (n + 1) 1 _ _ b a2
  have g3 := grown_set ((W.setCell ⟨n, 0, none⟩ v).setCell ⟨n + 1, 0, none⟩ a) (n + 1) 1 b
  have g23 := g2.trans g3
  refine ⟨cells_at d0 rfl, frozen_of_row _ _ 0 _ _ d0, fun j => frozen_of_row _ _ j _ _ d1, cells_at a1 rfl, cells_at a2 rfl, _, rfl, (g23.block n (by have := g1.size; omega) (by simp)).trans a0, a3, g23.os.trans g1.os, g23.tape.trans g1.tape, g23.output.trans g1.output, Nat.le_trans g1.size g23.size, fun j hj h1 h2 => (g23.block j (by have := g1.size; omega) (by simpa using h2)).trans (g1.block j hj (by simpa using h1))⟩
theorem bound_not {t : Tr} (h : ¬ (t.k = 1 ∧ Tr.right 40 t = true)) : Bn.bound t = .error (4, 0) := by unfold Bn.bound; rw [if_neg h]

theorem bound_err1 {t : Tr} {f : Nat × Nat} (hk : t.k = 1 ∧ Tr.right 40 t = true) (h : Bn.visit Bn.look1 t [] 0 ⟨[], [], [[]], []⟩ = .error f) : Bn.bound t = .error f := by unfold Bn.bound Bn.file; rw [if_pos hk, h]
theorem bound_err2 {t : Tr} {f : Nat × Nat} {s1 : St} {j : Nat} (hk : t.k = 1 ∧ Tr.right 40 t = true) (h : Bn.visit Bn.look1 t [] 0 ⟨[], [], [[]], []⟩ = .ok (s1, j)) (h2 : Bn.visit Bn.look2 t [] 0 s1 = .error f) : Bn.bound t = .error f := by unfold Bn.bound Bn.file; rw [if_pos hk, h]; simp only; rw [h2]
theorem bound_ok {t : Tr} {s1 s2 : St} {j j2 : Nat} (hk : t.k = 1 ∧ Tr.right 40 t = true) (h : Bn.visit Bn.look1 t [] 0 ⟨[], [], [[]], []⟩ = .ok (s1, j)) (h2 : Bn.visit Bn.look2 t [] 0 s1 = .ok (s2, j2)) : Bn.bound t = .ok (s2.met.filterMap (s2.bds[·]?)) := by unfold Bn.bound Bn.file; rw [if_pos hk, h]; simp only; rw [h2]
theorem filterMap_len {bds : List Bd} : ∀ {l : List Nat}, (∀ k ∈ l, k < bds.length) → (l.filterMap (bds[·]?)).length = l.length
  | [], _ => rfl
  | k :: l, h => by
    have hk := h k (by simp)
    rw [List.filterMap_cons, List.getElem?_eq_getElem hk]
    simp only [List.length_cons]
    rw [filterMap_len (fun j hj => h j (by simp [hj]))]
theorem owns_type {n e size k : Nat} {w w' : World} {v : Value} {xs : List Value} (h : w.ownsRow n e size v k xs) (hk : ∀ (k : Nat) (c : Array Value), w.heap[k]? = some (.cells c e (0, 0)) → w'.heap[k]? = w.heap[k]?) : w'.ownsRow n e size v k xs := owns_same h fun g hg => by
  obtain ⟨c, e⟩ := owns_ty h g hg
  exact hk g c e
theorem BTold.ty {n : Nat} {w w' : World} (h3 : ∀ (k : Nat) (c : Array Value), w.heap[k]? = some (.cells c 3 (0, 0)) → w'.heap[k]? = w.heap[k]?) (hI : ∀ (k : Nat) (c : Array Value), w.heap[k]? = some (.cells c 44 (0, 0)) → w'.heap[k]? = w.heap[k]?) : ∀ {cs : List Value} {l : List Bd}, BTold n w cs l → BTold n w' cs l
  | [], [], _ => trivial
  | [], _ :: _, h => h.elim
  | [_], _, h => by simp [BTold] at h
  | [_, _], _, h => by simp [BTold] at h
  | _ :: _ :: _ :: _, [], h => h.elim
  | pv :: nm :: uv :: r, d :: l, ⟨⟨e1, e2, e3, rows, e4, e5⟩, e6⟩ => ⟨⟨e1, e2, owns_type e3 h3, rows, owns_type e4 hI, fun j v u f1 f2 => owns_type (e5 j v u f1 f2) h3⟩, BTold.ty h3 hI e6⟩
theorem owns_lower {m n e size k : Nat} {w : World} {v : Value} {xs : List Value} (h : w.ownsRow m e size v k xs) (hm : n ≤ m) : w.ownsRow n e size v k xs := by
  refine ⟨h.1, ?_⟩
  rcases h.2 with h0 | ⟨g, cap, cur, rfl, hb, r⟩
  · exact .inl h0
  · exact .inr ⟨g, cap, cur, rfl, Nat.le_trans hm hb, r⟩

set_option maxRecDepth 100000 in
set_option maxHeartbeats 8000000 in
theorem bound_any (S : Nat → Prop) (t : Tr) (val : Value) (w : World) (hS : ∀ b, S b → b < w.heap.size) (hn : NodeR S w val t) (hbd : Tr.Bd [t]) :
    Calls Tryz.prog 32 #[val] w fun e w' => Below w.heap.size w w' ∧ BEnd t w.heap.size e w' := by
  have hmf : ∀ (fn : Fn) (first cap : Array Value) (w : World), (Instr.makeFunc fn first cap).run Tryz.prog w = .ok (.func fn first cap) w := fun _ _ _ _ => rfl
  have hstf := fun (a : Addr) (b : Nat) (w : World) => run_store Tryz.prog w a (ptrV b) .plain rfl
  have hn0 := hn
  obtain ⟨⟨k, tx, nn, kv, kids⟩, rfl, ht, hf, hrow⟩ := hn
  obtain ⟨ao, cap, hkv⟩ := hrow.slice
  simp only at hkv
  subst hkv
  have hk : t.k = k := by rw [← ht]; rfl
  simp only [N1.cells] at hn0 ⊢
  obtain ⟨N, hN⟩ : ∃ N, N = kids.length := ⟨_, rfl⟩
  rw [← hN] at hn0 ⊢
  obtain ⟨X0, h0⟩ : ∃ X, X = w.alloc (.cells #[.int .u8 k, .string (Ln.bs tx), .int .i64 nn, .slice ao N cap] 25) := ⟨_, rfl⟩
  obtain ⟨X1, h1⟩ : ∃ X, X = X0.alloc (.cells #[.slice none 0 0] 34) := ⟨_, rfl⟩
  obtain ⟨X, hX⟩ : ∃ X, X = X1.alloc (.cells #[.int .i64 0, .int .i64 0] 31) := ⟨_, rfl⟩
  have s0 : X0.heap.size = w.heap.size + 1 := by rw [h0, World.size_alloc]
  have s1 : X1.heap.size = w.heap.size + 1 + 1 := by rw [h1, World.size_alloc, s0]
  have sX : X.heap.size = w.heap.size + 1 + 1 + 1 := by rw [hX, World.size_alloc, s1]
  have b0 : Below w.heap.size w X0 := h0 ▸ below_new w _
  have b1 : Below X0.heap.size X0 X1 := h1 ▸ below_new X0 _
  have b2 : Below X1.heap.size X1 X := hX ▸ below_new X1 _
  have bX : Below w.heap.size w X := below_then (below_then b0 b1) b2
  have n0 : X.heap[w.heap.size]? = some (.cells #[.int .u8 k, .string (Ln.bs tx), .int .i64 nn, .slice ao N cap] 25 (0, 0)) := (b2.block _ (by omega)).trans ((b1.block _ (by omega)).trans (by rw [h0]; exact World.alloc_heap_new w _))
  have n1 : X.heap[w.heap.size + 1]? = some (.cells #[.slice none 0 0] 34 (0, 0)) := (b2.block _ (by omega)).trans (by rw [h1, ← s0]; exact World.alloc_heap_new X0 _)
  have n2 : X.heap[w.heap.size + 1 + 1]? = some (.cells #[.int .i64 0, .int .i64 0] 31 (0, 0)) := by rw [hX, ← s1]; exact World.alloc_heap_new X1 _
  have hnX : NodeR S X (.agg #[.int .u8 k, .string (Ln.bs tx), .int .i64 nn, .slice ao N cap]) t := by
    obtain ⟨x, e1, e2, e3, e4⟩ := hn0
    exact ⟨x, e1, e2, e3, e4.keep (fun b hb => bX.block b (hS b hb)) (fun _ hb => hb)⟩
  have HX : Hid (Below w.heap.size w X ∧ X.heap.size = w.heap.size + 1 + 1 + 1 ∧ X.heap[w.heap.size]? = some (.cells #[.int .u8 k, .string (Ln.bs tx), .int .i64 nn, .slice ao N cap] 25 (0, 0)) ∧ X.heap[w.heap.size + 1]? = some (.cells #[.slice none 0 0] 34 (0, 0)) ∧ X.heap[w.heap.size + 1 + 1]? = some (.cells #[.int .i64 0, .int .i64 0] 31 (0, 0)) ∧ (∀ b, S b → b < w.heap.size) ∧ NodeR S X (.agg #[.int .u8 k, .string (Ln.bs tx), .int .i64 nn, .slice ao N cap]) t ∧ Tr.Bd [t]) := ⟨bX, sX, n0, n1, n2, hS, hnX, hbd⟩
  have HT : Hid (_) := tright_any S t _ X (fun b hb => by have := hS b hb; omega) hnX
  have c0 : X.cell? ⟨w.heap.size, 0, none⟩ = some (.int .u8 k) := cells_at n0 rfl
  have c1 : X.cell? ⟨w.heap.size, 1, none⟩ = some (.string (Ln.bs tx)) := cells_at n0 rfl
  have c2 : X.cell? ⟨w.heap.size, 2, none⟩ = some (.int .i64 nn) := cells_at n0 rfl
  have c3 : X.cell? ⟨w.heap.size, 3, none⟩ = some (.slice ao N cap) := cells_at n0 rfl
  have hXX : X = ((w.alloc (.cells #[.int .u8 k, .string (Ln.bs tx), .int .i64 nn, .slice ao N cap] 25)).alloc (.cells #[.slice none 0 0] 34)).alloc (.cells #[.int .i64 0, .int .i64 0] 31) := by rw [hX, h1, h0]
  clear hn0 ht hf hrow hN h0 h1 hX s0 s1 sX b0 b1 b2 bX n0 n1 n2 hnX hS hbd
  have HBAD : Hid (∀ {W : World}, Below w.heap.size w W → W.heap[w.heap.size + 1]? = some (.cells #[.slice none 0 0] 34 (0, 0)) → W.heap[w.heap.size + 1 + 1]? = some (.cells #[.int .i64 0, .int .i64 0] 31 (0, 0)) → ∃ Q, Q = ((W.setCell ⟨w.heap.size + 1, 0, none⟩ (.slice none 0 0)).setCell ⟨w.heap.size + 1 + 1, 0, none⟩ (.int .i64 4)).setCell ⟨w.heap.size + 1 + 1, 1, none⟩ (.int .i64 0) ∧ Below w.heap.size w Q ∧ Q.cell? ⟨w.heap.size + 1, 0, none⟩ = some (.slice none 0 0) ∧ Q.cell? ⟨w.heap.size + 1 + 1, 0, none⟩ = some (.int .i64 4) ∧ Q.cell? ⟨w.heap.size + 1 + 1, 1, none⟩ = some (.int .i64 0)) := by
    intro W hW d0 d1
    obtain ⟨-, -, -, -, -, Q, hQ, q1, q2, q3, q4, q5, q6, q7⟩ := bdoor d0 d1 (.slice none 0 0) (.int .i64 4) (.int .i64 0)
    exact ⟨Q, hQ, ⟨q3.trans hW.os, q4.trans hW.tape, q5.trans hW.output, Nat.le_trans hW.size q6, fun j hj => (q7 j (Nat.lt_of_lt_of_le hj hW.size) (by omega) (by omega)).trans (hW.block j hj)⟩, cells_at q1 rfl, cells_at q2 rfl, cells_at q2 rfl⟩
  by_cases hk1 : k = 1
  case neg =>
    have HB0 : Hid (Bn.bound t = .error (4, 0)) := bound_not (fun e => hk1 (hk ▸ e.1))
    have hnb : (k != 1) = true := by simp [hk1]
    obtain ⟨Q, hQ, q1, q2, q3, q4⟩ := HBAD.out HX.out.1 HX.out.2.2.2.1 HX.out.2.2.2.2.1
    obtain ⟨p1, p2, p3, p4, p5, -⟩ := bdoor HX.out.2.2.2.1 HX.out.2.2.2.2.1 (.slice none 0 0) (.int .i64 4) (.int .i64 0)
    have HQ : Hid (Below w.heap.size w Q) := q1
    clear hk q1
    go_enter_defers Tryz.func32, Tryz.ntmps32
    go_upto_region 2 with fail
    rw [← hXX]
    clear hXX c0 c1 c2 c3
    go_wp2_with fail
    rw [← hQ]
    clear hQ p1 p2 p3 p4 p5
    simp [bodyPostD, Leaves, results, Tryz.results32, go_sem, q2, q3, q4]
    exact ⟨HQ.out, BEnd.bad HB0.out⟩
  case pos =>
    subst hk1
    rw [hXX] at c0 c1 c2 c3
    go_enter_defers Tryz.func32, Tryz.ntmps32
    go_wp2_with fail
    rw [← hXX]
    clear hXX c0 c1 c2 c3
    refine Calls.mono HT.out ?_
    rintro e w1 ⟨rfl, hb1⟩
    have hs1 : w.heap.size + 1 + 1 + 1 ≤ w1.heap.size := HX.out.2.1 ▸ hb1.size
    have m0 := (hb1.block _ (by rw [HX.out.2.1]; omega)).trans HX.out.2.2.1
    have m1 := (hb1.block _ (by rw [HX.out.2.1]; omega)).trans HX.out.2.2.2.1
    have m2 := (hb1.block _ (by rw [HX.out.2.1]; omega)).trans HX.out.2.2.2.2.1
    have bw1 : Below w.heap.size w w1 := below_then HX.out.1 hb1
    have hn1 : NodeR S w1 (.agg #[.int .u8 1, .string (Ln.bs tx), .int .i64 nn, .slice ao N cap]) t := by
      obtain ⟨x, e1, e2, e3, e4⟩ := HX.out.2.2.2.2.2.2.1
      exact ⟨x, e1, e2, e3, e4.keep (fun b hb => hb1.block b (by have := HX.out.2.2.2.2.2.1 b hb; have := HX.out.2.1; omega)) (fun _ hb => hb)⟩
    have HW1 : Hid (Below w.heap.size w w1 ∧ w.heap.size + 1 + 1 + 1 ≤ w1.heap.size ∧ w1.heap[w.heap.size]? = some (.cells #[.int .u8 1, .string (Ln.bs tx), .int .i64 nn, .slice ao N cap] 25 (0, 0)) ∧ w1.heap[w.heap.size + 1]? = some (.cells #[.slice none 0 0] 34 (0, 0)) ∧ w1.heap[w.heap.size + 1 + 1]? = some (.cells #[.int .i64 0, .int .i64 0] 31 (0, 0)) ∧ NodeR S w1 (.agg #[.int .u8 1, .string (Ln.bs tx), .int .i64 nn, .slice ao N cap]) t) := ⟨bw1, hs1, m0, m1, m2, hn1⟩
    obtain ⟨RB, hRB⟩ : ∃ b, b = Tr.right 40 t := ⟨_, rfl⟩
    have HRB : Hid (RB = Tr.right 40 t ∧ t.k = 1) := ⟨hRB, hk⟩
    rw [← hRB]
    clear HT hb1 hs1 m0 m1 m2 bw1 hn1 hRB hk
    cases RB
    case false =>
      have HB0 : Hid (Bn.bound t = .error (4, 0)) := bound_not (fun e => by have := HRB.out.1; rw [e.2] at this; cases this)
      obtain ⟨Q, hQ, q1, q2, q3, q4⟩ := HBAD.out HW1.out.1 HW1.out.2.2.2.1 HW1.out.2.2.2.2.1
      obtain ⟨p1, p2, p3, p4, p5, -⟩ := bdoor HW1.out.2.2.2.1 HW1.out.2.2.2.2.1 (.slice none 0 0) (.int .i64 4) (.int .i64 0)
      have HQ : Hid (Below w.heap.size w Q) := q1
      clear q1
      go_wp2_with fail
      rw [← hQ]
      clear hQ p1 p2 p3 p4 p5
      simp [bodyPostD, Leaves, results, Tryz.results32, go_sem, q2, q3, q4]
      exact ⟨HQ.out, BEnd.bad HB0.out⟩
    case true =>
      obtain ⟨Y5, Z, hY5, hZ, bY5, bZ, sY5, y0, u0, y1, y4, z1, z4, hB⟩ := start_walk (W := w1) w.heap.size (by have := HW1.out.2.1; omega)
      obtain ⟨wb, hwb⟩ : ∃ wb, wb = w1.heap.size := ⟨_, rfl⟩
      have HWB : Hid (wb = w1.heap.size) := hwb
      have HWI : Hid (_) := within_any 87 (ptrV (wb + 1 + 1 + 1)) Y5.drew
      have hmi : ∀ (v : Value) (w : World), (Instr.makeInterface 87 v).run Tryz.prog w = .ok (.iface 87 v) w := fun _ _ => rfl
      rw [← hwb] at hY5 hZ sY5 y0 u0 y1 y4 z1 z4 hB
      have HZ : Hid (BAt ⟨w.heap.size, wb, wb + 1 + 1 + 1, wb + 1 + 1⟩ (M0 wb) [] [(wb + 1 + 1 + 1 + 1 + 1 + 1, wb + 1 + 1 + 1 + 1 + 1)] ⟨[], [], [[]], []⟩ [] 0 Z (.slice none 0 0) (.slice none 0 0) (ptrV (wb + 1 + 1 + 1 + 1 + 1 + 1)) ∧ Below w1.heap.size w1 Z ∧ Z.heap[wb + 1]? = some (.cells #[ptrV wb] 82 (0, 0)) ∧ Z.heap[wb + 1 + 1 + 1 + 1]? = some (.cells #[ptrV (wb + 1 + 1 + 1)] 87 (0, 0))) := ⟨hB, bZ, z1, z4⟩
      have HY : Hid (Below w1.heap.size w1 Y5 ∧ Y5.heap.size = wb + 1 + 1 + 1 + 1 + 1) := ⟨bY5, sY5⟩
      have y1c : Y5.cell? ⟨wb + 1, 0, none⟩ = some (ptrV wb) := cells_at y1 rfl
      have y4c : Y5.cell? ⟨wb + 1 + 1 + 1 + 1, 0, none⟩ = some (ptrV (wb + 1 + 1 + 1)) := cells_at y4 rfl
      obtain ⟨U, hU⟩ : ∃ U, U = scopeNew Y5.drew (.iface 87 (ptrV (wb + 1 + 1 + 1))) := ⟨_, rfl⟩
      rw [← hU] at hZ u0 HWI
      have hbU : Below Y5.heap.size Y5 U := by rw [hU]; exact below_then (below_draw Y5 1) (scopeNew_below _ _)
      have hU1 : U.cell? ⟨wb + 1, 0, none⟩ = some (ptrV wb) := cells_at ((hbU.block _ (by omega)).trans y1) rfl
      have hU4 : U.cell? ⟨wb + 1 + 1 + 1 + 1, 0, none⟩ = some (ptrV (wb + 1 + 1 + 1)) := cells_at ((hbU.block _ (by omega)).trans y4) rfl
      have hUw : U.cell? ⟨wb, 0, none⟩ = some (.pointer none) := cells_at u0 rfl
      have hUf : U.frozen? ⟨wb, 0, none⟩ = false := frozen_of_row U _ 0 _ _ u0
      have hsz : Y5.drew.heap.size = wb + 1 + 1 + 1 + 1 + 1 := sY5
      rw [hsz] at HWI
      have hmm := @run_makeMap Tryz.prog
      have y1w : ((w1.alloc (.cells #[.pointer none, .slice none 0 0, .int .i64 0, .slice none 0 0] 86)).alloc (.cells #[ptrV w1.heap.size] 82)).cell? ⟨w1.heap.size + 1, 0, none⟩ = some (ptrV w1.heap.size) := by
        have := cell_one_new (w1.alloc (.cells #[.pointer none, .slice none 0 0, .int .i64 0, .slice none 0 0] 86)) (ptrV w1.heap.size) 82
        rw [World.size_alloc] at this
        exact this 0 _ rfl
      have e0 : w1.cell? ⟨w.heap.size, 0, none⟩ = some (.int .u8 1) := cells_at HW1.out.2.2.1 rfl
      rw [hwb] at hY5
      clear hB bZ z1 z4 bY5 sY5 y0 u0 y1 y4 hbU hsz
      go_upto_region 6 with fail
      rw [← hY5, ← hwb]
      clear hY5 y1w hmm e0
      have HZZ : Hid (Z = U.setCell ⟨wb, 0, none⟩ (ptrV (wb + 1 + 1 + 1 + 1 + 1 + 1))) := hZ
      have HYC : Hid (Y5.cell? ⟨wb + 1, 0, none⟩ = some (ptrV wb) ∧ Y5.cell? ⟨wb + 1 + 1 + 1 + 1, 0, none⟩ = some (ptrV (wb + 1 + 1 + 1))) := ⟨y1c, y4c⟩
      clear hZ hwb hU

      have HCF : Hid (∀ z : World, z.cell? ⟨wb + 1, 0, none⟩ = some (ptrV wb) ∧ z.cell? ⟨wb + 1 + 1 + 1 + 1, 0, none⟩ = some (ptrV (wb + 1 + 1 + 1)) → z.cell? ⟨wb + 1, 0, none⟩ = some (ptrV wb) ∧ z.cell? ⟨wb + 1 + 1 + 1 + 1, 0, none⟩ = some (ptrV (wb + 1 + 1 + 1))) := fun _ h => h
      have CY : Hid (Y5.drew.cell? ⟨wb + 1, 0, none⟩ = some (ptrV wb) ∧ Y5.drew.cell? ⟨wb + 1 + 1 + 1 + 1, 0, none⟩ = some (ptrV (wb + 1 + 1 + 1))) := HYC.out
      have CU : Hid (U.cell? ⟨wb + 1, 0, none⟩ = some (ptrV wb) ∧ U.cell? ⟨wb + 1 + 1 + 1 + 1, 0, none⟩ = some (ptrV (wb + 1 + 1 + 1))) := ⟨hU1, hU4⟩
      have CZ : Hid (Z.cell? ⟨wb + 1, 0, none⟩ = some (ptrV wb) ∧ Z.cell? ⟨wb + 1 + 1 + 1 + 1, 0, none⟩ = some (ptrV (wb + 1 + 1 + 1))) := ⟨cells_at HZ.out.2.2.1 rfl, cells_at HZ.out.2.2.2 rfl⟩
      have CUW : Hid (U.cell? ⟨wb, 0, none⟩ = some (.pointer none) ∧ U.frozen? ⟨wb, 0, none⟩ = false) := ⟨hUw, hUf⟩
      clear y1c y4c hU1 hU4 hUw hUf
      refine Code.wp_mono (Q := fun e a' w' => e = .normal ∧ w' = Z ∧ a' = { tmps := #[.agg #[.int .u8 1, .string (Ln.bs tx), .int .i64 nn, .slice ao N cap], .pointer (some ⟨w.heap.size, 0, none⟩), .pointer (some ⟨w.heap.size + 1, 0, none⟩), .pointer (some ⟨w.heap.size + 1 + 1, 0, none⟩), .pointer (some ⟨wb + 1, 0, none⟩), .pointer (some ⟨wb + 1 + 1 + 1 + 1, 0, none⟩), .pointer (some ⟨w.heap.size, 0, none⟩), .int .u8 1, .bool false, .bool false, .agg #[.int .u8 1, .string (Ln.bs tx), .int .i64 nn, .slice ao N cap], .bool true, .bool false, .bool false, undef, .func (.func 56) #[] #[.pointer (some ⟨w.heap.size + 1, 0, none⟩), .pointer (some ⟨w.heap.size + 1 + 1, 0, none⟩)], .agg #[.pointer none, .slice none 0 0, .int .i64 0, .slice none 0 0], .pointer (some ⟨wb, 0, none⟩), .map (some (wb + 1 + 1)), ptrV wb, .func (.func 57) #[ptrV wb] #[], .agg #[.map (some (wb + 1 + 1)), .func (.func 57) #[ptrV wb] #[]], .pointer (some ⟨wb + 1 + 1 + 1, 0, none⟩), ptrV wb, ptrV (wb + 1 + 1 + 1), .iface 87 (ptrV (wb + 1 + 1 + 1)), ptrV (wb + 1 + 1 + 1 + 1 + 1 + 1), .pointer (some ⟨wb, 0, none⟩), .pointer (some ⟨wb, 0, none⟩), undef, undef, undef, undef, undef, undef, undef, undef, undef, undef, undef, undef], defers := [{ target := .fn (.func 56) #[.pointer (some ⟨w.heap.size + 1, 0, none⟩), .pointer (some ⟨w.heap.size + 1 + 1, 0, none⟩)], args := #[] }] }) ?_ ?_
      rotate_left
      · refine (wpIn_wide (n := 3)).1 ?_
        refine region_lex (fun z => z.cell? ⟨wb + 1, 0, none⟩ = some (ptrV wb) ∧ z.cell? ⟨wb + 1 + 1 + 1 + 1, 0, none⟩ = some (ptrV (wb + 1 + 1 + 1))) 3 4 rfl (by kernel_rfl) (by kernel_rfl) (by kernel_rfl) (by kernel_rfl) (fun _ _ _ _ _ h => by cases h.1) CY.out ?_
        simp only [List.take_succ_cons, List.take_zero]
        iterate 3 (first
          | (apply lexC_want
             · rfl
             · exact fun _ => rfl
             · (intro w' hw'; obtain ⟨f1, f2⟩ := HCF.out w' hw'; go_simp; try rfl)
             simp only [Act.put, List.setIfInBounds_toArray, List.set_cons_zero, List.set_cons_succ])
          | (apply lexC_skip
             · rfl
             · exact fun _ => rfl
             simp only [Act.put, List.setIfInBounds_toArray, List.set_cons_zero, List.set_cons_succ]))
        refine lexC_nil ?_
        refine anyC_one (i := 3) (by kernel_rfl) rfl (by rfl) (fun K1 hK1 => ?_)
        go_simp
        refine ⟨trivial, ?_⟩
        refine (callsIn_wide.2 HWI.out).mono ?_
        rintro e w2 ⟨rfl, rfl⟩
        have cuw := CUW.out.1
        have fuw := CUW.out.2
        refine hK1 _ _ CU.out ?_
        clear hK1
        refine anyC_more 4 2 1 3 rfl (by kernel_rfl) rfl (by decide) (by kernel_rfl) (fun _ _ _ _ _ h => by cases h.1) CU.out ?_
        simp only [List.drop_succ_cons, List.drop_zero, List.take_succ_cons, List.take_zero]
        iterate 2 (first
          | (apply lexC_want
             · rfl
             · exact fun _ => rfl
             · (intro w' hw'; obtain ⟨f1, f2⟩ := HCF.out w' hw'; go_simp; try rfl)
             simp only [Act.put, List.setIfInBounds_toArray])
          | (apply lexC_skip
             · rfl
             · exact fun _ => rfl
             simp only [Act.put, List.setIfInBounds_toArray]))
        refine lexC_nil ?_
        refine anyC_one (i := 6) (by kernel_rfl) rfl (by rfl) (fun K2 hK2 => ?_)
        go_simp
        rw [← HZZ.out]
        refine hK2 _ _ CZ.out ?_
        clear hK2
        clear cuw fuw
        refine anyC_done (by kernel_rfl) ?_
        exact ⟨rfl, rfl, rfl⟩
      rintro e a' w' ⟨rfl, hw, rfl⟩
      rw [hw]
      clear hw CY CU CUW HZZ HCF HWI hmi HBAD HYC
      have hRK : t.k = 1 ∧ Tr.right 40 t = true := ⟨HRB.out.2, HRB.out.1.symm⟩
      have hsz : t.size ≤ 100000 := by
        have := HX.out.2.2.2.2.2.2.2.1
        simpa [Tr.sizes_cons, Tr.sizes_nil] using this
      have nodeAt : ∀ {W : World} {M' : Nat → Prop}, Foot (M0 wb) M' Z W → NodeR S W (.agg #[.int .u8 1, .string (Ln.bs tx), .int .i64 nn, .slice ao N cap]) t := fun {W M'} hf => by
        obtain ⟨x, e1, e2, e3, e4⟩ := HW1.out.2.2.2.2.2
        refine ⟨x, e1, e2, e3, e4.keep (fun b hb => ?_) (fun _ hb => hb)⟩
        have h1 := HX.out.2.2.2.2.2.1 b hb
        have h2 := HZ.out.2.1.size
        have h3 := HW1.out.2.1
        have h4 := HWB.out
        exact (hf.block b (by omega) (by unfold M0; omega)).trans (HZ.out.2.1.block b (by omega))
      have keepAt : ∀ {W : World} {M' : Nat → Prop}, Foot (M0 wb) M' Z W → ∀ (k : Nat) (o : Obj), k < w1.heap.size → w1.heap[k]? = some o → W.heap[k]? = some o := fun {W M'} hf k o hk e => by
        have h2 := HZ.out.2.1.size
        have h4 := HWB.out
        exact (hf.block k (by omega) (by unfold M0; omega)).trans ((HZ.out.2.1.block k hk).trans e)
      have boxAt : ∀ {W : World} {M' : Nat → Prop}, Foot (M0 wb) M' Z W → W.heap[wb + 1]? = some (.cells #[ptrV wb] 82 (0, 0)) := fun {W M'} hf => by
        exact (hf.block _ (Array.getElem?_eq_some_iff.1 HZ.out.2.2.1).1 (by unfold M0; omega)).trans HZ.out.2.2.1
      have belowAt : ∀ {W : World} {M' : Nat → Prop}, Foot (M0 wb) M' Z W → Below w.heap.size w W := fun {W M'} hf => by
        have h1 := HW1.out.1
        have h2 := HZ.out.2.1
        have h4 := HWB.out
        have h3 := HW1.out.2.1
        exact ⟨hf.os.trans (h2.os.trans h1.os), hf.tape.trans (h2.tape.trans h1.tape), hf.output.trans (h2.output.trans h1.output), by have := hf.size; have := h2.size; omega, fun k hk => (hf.block k (by have := h2.size; omega) (by unfold M0; omega)).trans ((h2.block k (by omega)).trans (h1.block k hk))⟩
      have hAn : ∀ b, S b → b < (⟨w.heap.size, wb, wb + 1 + 1 + 1, wb + 1 + 1⟩ : Ad).n := HX.out.2.2.2.2.2.1
      have hZF : Foot (M0 wb) (M0 wb) Z Z := Foot.refl _ _
      have HKEEP : Hid (∀ {W : World} {M' : Nat → Prop}, Foot (M0 wb) M' Z W → ∀ (k : Nat) (o : Obj), k < w1.heap.size → w1.heap[k]? = some o → W.heap[k]? = some o) := fun hf => keepAt hf
      have HBOX : Hid (∀ {W : World} {M' : Nat → Prop}, Foot (M0 wb) M' Z W → W.heap[wb + 1]? = some (.cells #[ptrV wb] 82 (0, 0))) := fun hf => boxAt hf
      have HBEL : Hid (∀ {W : World} {M' : Nat → Prop}, Foot (M0 wb) M' Z W → Below w.heap.size w W) := fun hf => belowAt hf
      have HNOD : Hid (∀ {W : World} {M' : Nat → Prop}, Foot (M0 wb) M' Z W → NodeR S W (.agg #[.int .u8 1, .string (Ln.bs tx), .int .i64 nn, .slice ao N cap]) t) := fun hf => nodeAt hf
      have HRK : Hid ((t.k = 1 ∧ Tr.right 40 t = true) ∧ t.size ≤ 100000 ∧ (∀ b, S b → b < (⟨w.heap.size, wb, wb + 1 + 1 + 1, wb + 1 + 1⟩ : Ad).n)) := ⟨hRK, hsz, hAn⟩
      have HC1 : Hid (_) := bthrough_any (first_look hAn (wb + 1 + 1 + 1 + 1) (wb + 1)) hAn 40 t _ (M0 wb) [] _ _ [] 0 Z hRK.2 HX.out.2.2.2.2.2.2.2 (nodeAt hZF) HZ.out.1.bw ⟨⟨HZ.out.2.2.2, by unfold M0; omega⟩, ⟨HZ.out.2.2.1, by unfold M0; omega⟩⟩ (by simp) (by simp) (by simp) (by omega) (by show 0 + 3 * t.size ≤ _; omega)
      clear hRK hsz nodeAt keepAt boxAt belowAt hAn hZF
      have d0 : Z.cell? ⟨w.heap.size, 0, none⟩ = some (.int .u8 1) := cells_at (HKEEP.out (Foot.refl _ _) _ _ (by have := HW1.out.2.1; omega) HW1.out.2.2.1) rfl
      have d1 : Z.cell? ⟨w.heap.size, 1, none⟩ = some (.string (Ln.bs tx)) := cells_at (HKEEP.out (Foot.refl _ _) _ _ (by have := HW1.out.2.1; omega) HW1.out.2.2.1) rfl
      have d2 : Z.cell? ⟨w.heap.size, 2, none⟩ = some (.int .i64 nn) := cells_at (HKEEP.out (Foot.refl _ _) _ _ (by have := HW1.out.2.1; omega) HW1.out.2.2.1) rfl
      have d3 : Z.cell? ⟨w.heap.size, 3, none⟩ = some (.slice ao N cap) := cells_at (HKEEP.out (Foot.refl _ _) _ _ (by have := HW1.out.2.1; omega) HW1.out.2.2.1) rfl
      have d4 : Z.cell? ⟨wb + 1, 0, none⟩ = some (ptrV wb) := cells_at (HBOX.out (Foot.refl _ _)) rfl
      go_wp2_with fail
      refine Calls.mono HC1.out ?_
      rintro e w4 ⟨M4, bx4, hpre4, hf4, hv4⟩
      clear d0 d1 d2 d3 d4 HC1
      cases hvx : Bn.visit Bn.look1 t [] 0 ⟨[], [], [[]], []⟩ with
      | error f =>
        rw [hvx] at hv4
        obtain ⟨E, i⟩ := f
        obtain rfl := hv4
        have hf9 := hf4
        have k1 := HKEEP.out hf9 _ _ (by have := HW1.out.2.1; omega) HW1.out.2.2.2.1
        have k2 := HKEEP.out hf9 _ _ (by have := HW1.out.2.1; omega) HW1.out.2.2.2.2.1
        have hbel := HBEL.out hf9
        have hb0 : Bn.bound t = .error (E, i) := bound_err1 HRK.out.1 hvx
        refine leaves_cons (f := 56) (args := #[.pointer (some ⟨w.heap.size + 1, 0, none⟩), .pointer (some ⟨w.heap.size + 1 + 1, 0, none⟩)]) (by simp) (by simp [go_sem]) ?_
        refine (bcatch_panicking (w.heap.size + 1) (w.heap.size + 1 + 1) E i _ _ _ [] w4 k1 k2).mono ?_
        rintro e u' w9 ⟨rfl, rfl, q1, q2, q3, q4, q5, q6, q7⟩
        have j0 : w9.cell? ⟨w.heap.size + 1, 0, none⟩ = some (.slice none 0 0) := cells_at q1 rfl
        have i0 : w9.cell? ⟨w.heap.size + 1 + 1, 0, none⟩ = some (.int .i64 E) := cells_at q2 rfl
        have i1 : w9.cell? ⟨w.heap.size + 1 + 1, 1, none⟩ = some (.int .i64 i) := cells_at q2 rfl
        have HE : Hid (Below w.heap.size w w9 ∧ BEnd t w.heap.size (.returned (.tuple #[.slice none 0 0, .agg #[.int .i64 E, .int .i64 i]])) w9) := ⟨⟨q3.trans hbel.os, q4.trans hbel.tape, q5.trans hbel.output, Nat.le_trans hbel.size q6, fun k hk => (q7 k (Nat.lt_of_lt_of_le hk hbel.size) (by omega) (by omega)).trans (hbel.block k hk)⟩, BEnd.bad hb0⟩
        simp [Leaves, settle, results, Tryz.results32, go_sem, j0, i0, i1]
        exact HE.out
      | ok r4 =>
        obtain ⟨s4, j4⟩ := r4
        rw [hvx] at hv4
        obtain ⟨rfl, hB4, -, hm4⟩ := hv4
        have hm4 : s4.mass ≤ 3 * t.size := by simpa [Bn.St.mass, Bn.usesSum, Bn.ownSum] using hm4
        have HV1 : Hid (Bn.visit Bn.look1 t [] 0 ⟨[], [], [[]], []⟩ = .ok (s4, j4)) := hvx
        have HF4 : Hid (Foot (M0 wb) M4 Z w4) := hf4
        have HM4 : Hid (s4.mass ≤ 3 * t.size) := hm4
        have HC2 : Hid (_) := bthrough_any (look_look HRK.out.2.2) HRK.out.2.2 40 t _ M4 bx4 _ s4 [] j4 w4 HRK.out.1.2 HX.out.2.2.2.2.2.2.2 (HNOD.out hf4) hB4 trivial (by simp) (by simp) (by simp) (by have := HRK.out.2.1; omega) (by have := HRK.out.2.1; omega)
        have d0 : w4.cell? ⟨w.heap.size, 0, none⟩ = some (.int .u8 1) := cells_at (HKEEP.out HF4.out _ _ (by have := HW1.out.2.1; omega) HW1.out.2.2.1) rfl
        have d1 : w4.cell? ⟨w.heap.size, 1, none⟩ = some (.string (Ln.bs tx)) := cells_at (HKEEP.out HF4.out _ _ (by have := HW1.out.2.1; omega) HW1.out.2.2.1) rfl
        have d2 : w4.cell? ⟨w.heap.size, 2, none⟩ = some (.int .i64 nn) := cells_at (HKEEP.out HF4.out _ _ (by have := HW1.out.2.1; omega) HW1.out.2.2.1) rfl
        have d3 : w4.cell? ⟨w.heap.size, 3, none⟩ = some (.slice ao N cap) := cells_at (HKEEP.out HF4.out _ _ (by have := HW1.out.2.1; omega) HW1.out.2.2.1) rfl
        have d4 : w4.cell? ⟨wb + 1, 0, none⟩ = some (ptrV wb) := cells_at (HBOX.out HF4.out) rfl
        clear hf4 hB4 hm4 hvx hpre4
        go_wp2_with fail
        refine Calls.mono HC2.out ?_
        rintro e w5 ⟨M5, bx5, hpre5, hf5, hv5⟩
        clear d0 d1 d2 d3 d4 HC2
        cases hvx : Bn.visit Bn.look2 t [] 0 s4 with
        | error f =>
          rw [hvx] at hv5
          obtain ⟨E, i⟩ := f
          obtain rfl := hv5
          have hf9 := (HF4.out.trans hf5)
          have k1 := HKEEP.out hf9 _ _ (by have := HW1.out.2.1; omega) HW1.out.2.2.2.1
          have k2 := HKEEP.out hf9 _ _ (by have := HW1.out.2.1; omega) HW1.out.2.2.2.2.1
          have hbel := HBEL.out hf9
          have hb0 : Bn.bound t = .error (E, i) := bound_err2 HRK.out.1 HV1.out hvx
          refine leaves_cons (f := 56) (args := #[.pointer (some ⟨w.heap.size + 1, 0, none⟩), .pointer (some ⟨w.heap.size + 1 + 1, 0, none⟩)]) (by simp) (by simp [go_sem]) ?_
          refine (bcatch_panicking (w.heap.size + 1) (w.heap.size + 1 + 1) E i _ _ _ [] w5 k1 k2).mono ?_
          rintro e u' w9 ⟨rfl, rfl, q1, q2, q3, q4, q5, q6, q7⟩
          have j0 : w9.cell? ⟨w.heap.size + 1, 0, none⟩ = some (.slice none 0 0) := cells_at q1 rfl
          have i0 : w9.cell? ⟨w.heap.size + 1 + 1, 0, none⟩ = some (.int .i64 E) := cells_at q2 rfl
          have i1 : w9.cell? ⟨w.heap.size + 1 + 1, 1, none⟩ = some (.int .i64 i) := cells_at q2 rfl
          have HE : Hid (Below w.heap.size w w9 ∧ BEnd t w.heap.size (.returned (.tuple #[.slice none 0 0, .agg #[.int .i64 E, .int .i64 i]])) w9) := ⟨⟨q3.trans hbel.os, q4.trans hbel.tape, q5.trans hbel.output, Nat.le_trans hbel.size q6, fun k hk => (q7 k (Nat.lt_of_lt_of_le hk hbel.size) (by omega) (by omega)).trans (hbel.block k hk)⟩, BEnd.bad hb0⟩
          simp [Leaves, settle, results, Tryz.results32, go_sem, j0, i0, i1]
          exact HE.out
        | ok r5 =>
          obtain ⟨s5, j5⟩ := r5
          rw [hvx] at hv5
          obtain ⟨rfl, hB5, -, hm5⟩ := hv5
          have HV2 : Hid (Bn.visit Bn.look2 t [] 0 s4 = .ok (s5, j5)) := hvx
          have HF5 : Hid (Foot (M0 wb) M5 Z w5) := HF4.out.trans hf5
          have HTO : Hid (_) := told_any hB5 (by have := HRK.out.2.1; have := HM4.out; unfold Bn.St.mass at hm5; unfold Bn.St.mass at this; omega)
          have HLN : Hid ((s5.met.filterMap (s5.bds[·]?)).length = s5.met.length) := by
            obtain ⟨_, _, _, hBA⟩ := hB5
            exact filterMap_len (fun k hk => by rw [← hBA.bds.len]; exact hBA.met.2.2 k hk)
          have d4 : w5.cell? ⟨wb + 1, 0, none⟩ = some (ptrV wb) := cells_at (HBOX.out HF5.out) rfl
          clear hf5 hB5 hm5 hvx hpre5
          go_wp2_with fail
          refine Calls.mono HTO.out ?_
          rintro e w6 ⟨v, cs, rfl, hb6, hown, hT⟩
          clear d4 HTO
          obtain ⟨va, vc, rfl⟩ := slice_shape hown
          have k1 := (hb6.block _ (Array.getElem?_eq_some_iff.1 (HKEEP.out HF5.out _ _ (by have := HW1.out.2.1; omega) HW1.out.2.2.2.1)).1).trans (HKEEP.out HF5.out _ _ (by have := HW1.out.2.1; omega) HW1.out.2.2.2.1)
          have k2 := (hb6.block _ (Array.getElem?_eq_some_iff.1 (HKEEP.out HF5.out _ _ (by have := HW1.out.2.1; omega) HW1.out.2.2.2.2.1)).1).trans (HKEEP.out HF5.out _ _ (by have := HW1.out.2.1; omega) HW1.out.2.2.2.2.1)
          have hbel := below_then (HBEL.out HF5.out) hb6
          obtain ⟨p1, p2, p3, p4, p5, Q, hQ, q1, q2, q3, q4, q5, q6, q7⟩ := bdoor k1 k2 (.slice va s5.met.length vc) (.int .i64 0) (.int .i64 0)
          have hty : ∀ (T : TypeId), T ≠ 34 → T ≠ 31 → ∀ (k : Nat) (c : Array Value), w6.heap[k]? = some (.cells c T (0, 0)) → Q.heap[k]? = w6.heap[k]? := fun T h1 h2 k c e => q7 k (Array.getElem?_eq_some_iff.1 e).1 (fun e2 => by rw [e2, k1] at e; injection e with e; injection e with _ e _; exact h1 e.symm) (fun e2 => by rw [e2, k2] at e; injection e with e; injection e with _ e _; exact h2 e.symm)
          have HQ : Hid (Below w.heap.size w Q ∧ Q.heap[w.heap.size + 1]? = some (.cells #[.slice va s5.met.length vc] 34 (0, 0)) ∧ Q.heap[w.heap.size + 1 + 1]? = some (.cells #[.int .i64 0, .int .i64 0] 31 (0, 0)) ∧ Q.ownsRow w.heap.size 46 3 (.slice va s5.met.length vc) s5.met.length cs ∧ BTold w.heap.size Q cs (s5.met.filterMap (s5.bds[·]?))) := by
            refine ⟨⟨q3.trans hbel.os, q4.trans hbel.tape, q5.trans hbel.output, Nat.le_trans hbel.size q6, fun k hk => (q7 k (Nat.lt_of_lt_of_le hk hbel.size) (by omega) (by omega)).trans (hbel.block k hk)⟩, q1, q2, owns_type (owns_lower hown (HBEL.out HF5.out).size) (hty _ (by decide) (by decide)), ?_⟩
            exact BTold.ty (hty _ (by decide) (by decide)) (hty _ (by decide) (by decide)) hT
          obtain ⟨LN, hLN⟩ : ∃ n, n = s5.met.length := ⟨_, rfl⟩
          have HLL : Hid (LN = s5.met.length) := hLN
          rw [← hLN] at hQ p4 p5 HQ ⊢
          clear hty k1 k2 hbel q1 q2 q3 q4 q5 q6 q7 hown hT hb6 hLN
          go_wp2_with fail
          rw [← hQ]
          clear hQ p1 p2 p3 p4 p5
          refine leaves_cons (f := 56) (args := #[.pointer (some ⟨w.heap.size + 1, 0, none⟩), .pointer (some ⟨w.heap.size + 1 + 1, 0, none⟩)]) (by simp) (by simp [go_sem]) ?_
          refine (bcatch_idle ⟨w.heap.size + 1, 0, none⟩ ⟨w.heap.size + 1 + 1, 0, none⟩ _).mono ?_
          rintro e u' w9 ⟨rfl, rfl, hb9⟩
          obtain ⟨m1, m2, m3, m4, m5⟩ := HQ.out
          have r1 := (hb9.block _ (Array.getElem?_eq_some_iff.1 m2).1).trans m2
          have r2 := (hb9.block _ (Array.getElem?_eq_some_iff.1 m3).1).trans m3
          have j0 : w9.cell? ⟨w.heap.size + 1, 0, none⟩ = some (.slice va LN vc) := cells_at r1 rfl
          have i0 : w9.cell? ⟨w.heap.size + 1 + 1, 0, none⟩ = some (.int .i64 0) := cells_at r2 rfl
          have i1 : w9.cell? ⟨w.heap.size + 1 + 1, 1, none⟩ = some (.int .i64 0) := cells_at r2 rfl
          have HE : Hid (Below w.heap.size w w9 ∧ BEnd t w.heap.size (.returned (.tuple #[.slice va LN vc, .agg #[.int .i64 0, .int .i64 0]])) w9) := by
            refine ⟨below_then m1 hb9, BEnd.good (cs := cs) (bound_ok HRK.out.1 HV1.out HV2.out) ?_ (m5.at hb9 (Nat.le_refl _))⟩
            rw [HLN.out, ← HLL.out]
            exact owns_at m4 hb9 (Nat.le_refl _)
          simp [Leaves, settle, results, Tryz.results32, go_sem, j0, i0, i1]
          exact HE.out
end Go.Proofs.YtnndgjnihhafbaaGreatDoor
