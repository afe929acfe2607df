/-
  The walks of value's inner functions: numbers, truths, what each sign makes of two values.
-/
import Derived.Test.YtcnmgebjbaclaaaDoorVlBase
namespace Go.Proofs.YtcnmgebjbaclaaaDoor
open Go.RowKit Go.Shelf
open Vl (V Res)

set_option maxRecDepth 100000 in
set_option maxHeartbeats 2000000 in
theorem number_any (n : Int) (w : World) : Calls Tryd.prog 53 #[.int .i64 n] w fun e w' => e = .returned (vV 1 n nilV) ∧ Below w.heap.size w w' := by
  go_enter Tryd.func53, Tryd.ntmps53
  go_wp2
  refine bodyPost_ret (v := vV 1 n nilV) ?_ rfl ⟨rfl, below_new w _⟩
  simp [results, Tryd.results53, go_sem]
set_option maxRecDepth 100000 in
set_option maxHeartbeats 2000000 in
theorem truth_any (b : Bool) (w : World) : Calls Tryd.prog 55 #[.bool b] w fun e w' => e = .returned (vV 2 (Vl.one b) nilV) ∧ Below w.heap.size w w' := by
  cases b
  · go_enter Tryd.func55, Tryd.ntmps55
    go_wp2
    refine bodyPost_ret (v := vV 2 0 nilV) ?_ rfl ⟨rfl, below_two w _ _⟩
    simp [results, Tryd.results55, go_sem]
  · go_enter Tryd.func55, Tryd.ntmps55
    go_wp2
    refine bodyPost_ret (v := vV 2 1 nilV) ?_ rfl ⟨rfl, below_two w _ _⟩
    simp [results, Tryd.results55, go_sem]

/-- What a sign that judges says. -/
def Vl.judge (o : Nat) (a b : V) : Bool :=
  match o with
  | 0 => decide (a.n = 1) || decide (b.n = 1)
  | 1 => decide (a.n = 1) && decide (b.n = 1)
  | 2 => Vl.same a b
  | 3 => !Vl.same a b
  | 4 => decide (a.n < b.n)
  | 5 => decide (a.n ≤ b.n)
  | 6 => decide (b.n < a.n)
  | _ => decide (b.n ≤ a.n)
set_option maxRecDepth 100000 in
set_option maxHeartbeats 2000000 in
theorem judge0_any (w : World) (u1 u2 : Value) (a b : V) (h1 : VAt w.heap.size w u1 a) (h2 : VAt w.heap.size w u2 b) (hl1 : a.r.length ≤ 1000000000000000) (hl2 : b.r.length ≤ 1000000000000000) :
    Calls Tryd.prog 57 #[u1, u2] w fun e w' => e = .returned (.bool (Vl.judge 0 a b)) ∧ Below w.heap.size w w' := by
  obtain ⟨v1, rfl, -⟩ := h1
  obtain ⟨v2, rfl, -⟩ := h2
  obtain ⟨ak, an, ar⟩ := a
  obtain ⟨bk, bn, br⟩ := b
  go_enter Tryd.func57, Tryd.ntmps57
  go_wp2
  all_goals go_ret
  all_goals refine ⟨ret_bool ?_, by first | exact below_two w _ _ | exact below_then (below_two w _ _) (below_draw _ _)⟩
  all_goals simp only [Vl.judge]
  all_goals first | rfl | simp_all | (rw [Bool.eq_iff_iff]; simp; done) | (rw [Bool.eq_iff_iff]; simp; omega)
set_option maxRecDepth 100000 in
set_option maxHeartbeats 2000000 in
theorem judge1_any (w : World) (u1 u2 : Value) (a b : V) (h1 : VAt w.heap.size w u1 a) (h2 : VAt w.heap.size w u2 b) (hl1 : a.r.length ≤ 1000000000000000) (hl2 : b.r.length ≤ 1000000000000000) :
    Calls Tryd.prog 58 #[u1, u2] w fun e w' => e = .returned (.bool (Vl.judge 1 a b)) ∧ Below w.heap.size w w' := by
  obtain ⟨v1, rfl, -⟩ := h1
  obtain ⟨v2, rfl, -⟩ := h2
  obtain ⟨ak, an, ar⟩ := a
  obtain ⟨bk, bn, br⟩ := b
  go_enter Tryd.func58, Tryd.ntmps58
  go_wp2
  all_goals go_ret
  all_goals refine ⟨ret_bool ?_, by first | exact below_two w _ _ | exact below_then (below_two w _ _) (below_draw _ _)⟩
  all_goals simp only [Vl.judge]
  all_goals first | rfl | simp_all | (rw [Bool.eq_iff_iff]; simp; done) | (rw [Bool.eq_iff_iff]; simp; omega)
set_option maxRecDepth 100000 in
set_option maxHeartbeats 2000000 in
theorem judge4_any (w : World) (u1 u2 : Value) (a b : V) (h1 : VAt w.heap.size w u1 a) (h2 : VAt w.heap.size w u2 b) (hl1 : a.r.length ≤ 1000000000000000) (hl2 : b.r.length ≤ 1000000000000000) :
    Calls Tryd.prog 61 #[u1, u2] w fun e w' => e = .returned (.bool (Vl.judge 4 a b)) ∧ Below w.heap.size w w' := by
  obtain ⟨v1, rfl, -⟩ := h1
  obtain ⟨v2, rfl, -⟩ := h2
  obtain ⟨ak, an, ar⟩ := a
  obtain ⟨bk, bn, br⟩ := b
  go_enter Tryd.func61, Tryd.ntmps61
  go_wp2
  all_goals go_ret
  all_goals refine ⟨ret_bool ?_, by first | exact below_two w _ _ | exact below_then (below_two w _ _) (below_draw _ _)⟩
  all_goals simp only [Vl.judge]
  all_goals first | rfl | simp_all | (rw [Bool.eq_iff_iff]; simp; done) | (rw [Bool.eq_iff_iff]; simp; omega)
set_option maxRecDepth 100000 in
set_option maxHeartbeats 2000000 in
theorem judge5_any (w : World) (u1 u2 : Value) (a b : V) (h1 : VAt w.heap.size w u1 a) (h2 : VAt w.heap.size w u2 b) (hl1 : a.r.length ≤ 1000000000000000) (hl2 : b.r.length ≤ 1000000000000000) :
    Calls Tryd.prog 62 #[u1, u2] w fun e w' => e = .returned (.bool (Vl.judge 5 a b)) ∧ Below w.heap.size w w' := by
  obtain ⟨v1, rfl, -⟩ := h1
  obtain ⟨v2, rfl, -⟩ := h2
  obtain ⟨ak, an, ar⟩ := a
  obtain ⟨bk, bn, br⟩ := b
  go_enter Tryd.func62, Tryd.ntmps62
  go_wp2
  all_goals go_ret
  all_goals refine ⟨ret_bool ?_, by first | exact below_two w _ _ | exact below_then (below_two w _ _) (below_draw _ _)⟩
  all_goals simp only [Vl.judge]
  all_goals first | rfl | simp_all | (rw [Bool.eq_iff_iff]; simp; done) | (rw [Bool.eq_iff_iff]; simp; omega)
set_option maxRecDepth 100000 in
set_option maxHeartbeats 2000000 in
theorem judge6_any (w : World) (u1 u2 : Value) (a b : V) (h1 : VAt w.heap.size w u1 a) (h2 : VAt w.heap.size w u2 b) (hl1 : a.r.length ≤ 1000000000000000) (hl2 : b.r.length ≤ 1000000000000000) :
    Calls Tryd.prog 63 #[u1, u2] w fun e w' => e = .returned (.bool (Vl.judge 6 a b)) ∧ Below w.heap.size w w' := by
  obtain ⟨v1, rfl, -⟩ := h1
  obtain ⟨v2, rfl, -⟩ := h2
  obtain ⟨ak, an, ar⟩ := a
  obtain ⟨bk, bn, br⟩ := b
  go_enter Tryd.func63, Tryd.ntmps63
  go_wp2
  all_goals go_ret
  all_goals refine ⟨ret_bool ?_, by first | exact below_two w _ _ | exact below_then (below_two w _ _) (below_draw _ _)⟩
  all_goals simp only [Vl.judge]
  all_goals first | rfl | simp_all | (rw [Bool.eq_iff_iff]; simp; done) | (rw [Bool.eq_iff_iff]; simp; omega)
set_option maxRecDepth 100000 in
set_option maxHeartbeats 2000000 in
theorem judge7_any (w : World) (u1 u2 : Value) (a b : V) (h1 : VAt w.heap.size w u1 a) (h2 : VAt w.heap.size w u2 b) (hl1 : a.r.length ≤ 1000000000000000) (hl2 : b.r.length ≤ 1000000000000000) :
    Calls Tryd.prog 64 #[u1, u2] w fun e w' => e = .returned (.bool (Vl.judge 7 a b)) ∧ Below w.heap.size w w' := by
  obtain ⟨v1, rfl, -⟩ := h1
  obtain ⟨v2, rfl, -⟩ := h2
  obtain ⟨ak, an, ar⟩ := a
  obtain ⟨bk, bn, br⟩ := b
  go_enter Tryd.func64, Tryd.ntmps64
  go_wp2
  all_goals go_ret
  all_goals refine ⟨ret_bool ?_, by first | exact below_two w _ _ | exact below_then (below_two w _ _) (below_draw _ _)⟩
  all_goals simp only [Vl.judge]
  all_goals first | rfl | simp_all | (rw [Bool.eq_iff_iff]; simp; done) | (rw [Bool.eq_iff_iff]; simp; omega)
theorem judge2_any (w : World) (u1 u2 : Value) (a b : V) (h1 : VAt w.heap.size w u1 a) (h2 : VAt w.heap.size w u2 b) (hl1 : a.r.length ≤ 1000000000000000) (hl2 : b.r.length ≤ 1000000000000000) :
    Calls Tryd.prog 59 #[u1, u2] w fun e w' => e = .returned (.bool (Vl.judge 2 a b)) ∧ Below w.heap.size w w' := vsame_any w u1 u2 a b h1 h2 hl1 hl2
set_option maxRecDepth 100000 in
set_option maxHeartbeats 2000000 in
theorem judge3_any (w : World) (u1 u2 : Value) (a b : V) (h1 : VAt w.heap.size w u1 a) (h2 : VAt w.heap.size w u2 b) (hl1 : a.r.length ≤ 1000000000000000) (hl2 : b.r.length ≤ 1000000000000000) :
    Calls Tryd.prog 60 #[u1, u2] w fun e w' => e = .returned (.bool (Vl.judge 3 a b)) ∧ Below w.heap.size w w' := by
  have HC : Hid (∀ W, Below w.heap.size w W → Calls Tryd.prog 59 #[u1, u2] W fun e w' => e = .returned (.bool (Vl.same a b)) ∧ Below W.heap.size W w') := fun W hb => vsame_any W u1 u2 a b (h1.at hb) (h2.at hb) hl1 hl2
  obtain ⟨v1, rfl, -⟩ := h1
  obtain ⟨v2, rfl, -⟩ := h2
  have HJ : Hid (Vl.judge 3 a b = !Vl.same a b) := rfl
  obtain ⟨J, hJ⟩ : ∃ J, J = Vl.same a b := ⟨_, rfl⟩
  rw [← hJ] at HC HJ
  rw [HJ.out]
  clear hJ HJ
  obtain ⟨ak, an, ar⟩ := a
  obtain ⟨bk, bn, br⟩ := b
  have HB : Hid (∀ o o', Below w.heap.size w ((w.alloc o).alloc o')) := below_two w
  go_enter Tryd.func60, Tryd.ntmps60
  go_wp2_with (go_at_call 59; refine (HC.out _ (HB.out _ _)).mono ?_; rintro e w' ⟨rfl, hb⟩)
  go_ret
  exact ⟨rfl, below_then (HB.out _ _) hb⟩
set_option maxRecDepth 100000 in
set_option maxHeartbeats 2000000 in
theorem count8_any (x y : Int) (w : World) : Calls Tryd.prog 66 #[.int .i64 x, .int .i64 y] w fun e w' => e = .returned (.int .i64 (Vl.wrap (x + y))) ∧ w' = w := by
  go_enter Tryd.func66, Tryd.ntmps66
  go_wp2
  all_goals go_ret
  all_goals exact ⟨by first | rfl | (refine ret_int ?_; simp [Vl.wrap, wrap64]), rfl⟩
set_option maxRecDepth 100000 in
set_option maxHeartbeats 2000000 in
theorem count9_any (x y : Int) (w : World) : Calls Tryd.prog 67 #[.int .i64 x, .int .i64 y] w fun e w' => e = .returned (.int .i64 (Vl.wrap (x - y))) ∧ w' = w := by
  go_enter Tryd.func67, Tryd.ntmps67
  go_wp2
  all_goals go_ret
  all_goals exact ⟨by first | rfl | (refine ret_int ?_; simp [Vl.wrap, wrap64]), rfl⟩
set_option maxRecDepth 100000 in
set_option maxHeartbeats 2000000 in
theorem count10_any (x y : Int) (w : World) : Calls Tryd.prog 68 #[.int .i64 x, .int .i64 y] w fun e w' => e = .returned (.int .i64 (Vl.wrap (x * y))) ∧ w' = w := by
  go_enter Tryd.func68, Tryd.ntmps68
  go_wp2
  all_goals go_ret
  all_goals exact ⟨by first | rfl | (refine ret_int ?_; simp [Vl.wrap, wrap64]), rfl⟩
set_option maxRecDepth 100000 in
set_option maxHeartbeats 2000000 in
theorem count11_any (x y : Int) (hy : y ≠ 0) (w : World) : Calls Tryd.prog 69 #[.int .i64 x, .int .i64 y] w fun e w' => e = .returned (.int .i64 (Vl.wrap (x.tdiv y))) ∧ w' = w := by
  have hy' := hy
  go_enter Tryd.func69, Tryd.ntmps69
  go_wp2_with (go_at_call 70; refine (divisor_yes y hy' _).mono ?_; rintro e w' ⟨rfl, rfl⟩)
  all_goals go_ret
  all_goals exact ⟨by first | rfl | (refine ret_int ?_; simp [Vl.wrap, wrap64]), rfl⟩
set_option maxRecDepth 100000 in
set_option maxHeartbeats 2000000 in
theorem count11_no (x : Int) (w : World) : Calls Tryd.prog 69 #[.int .i64 x, .int .i64 0] w fun e w' => e = thrown 202 ∧ w' = w := by
  go_enter Tryd.func69, Tryd.ntmps69
  go_wp2_with fail
  refine Calls.mono (divisor_no _) ?_
  rintro e w' ⟨rfl, rfl⟩
  exact ⟨rfl, rfl, rfl⟩
set_option maxRecDepth 100000 in
set_option maxHeartbeats 2000000 in
theorem count12_any (x y : Int) (hy : y ≠ 0) (w : World) : Calls Tryd.prog 71 #[.int .i64 x, .int .i64 y] w fun e w' => e = .returned (.int .i64 (x.tmod y)) ∧ w' = w := by
  have hy' := hy
  go_enter Tryd.func71, Tryd.ntmps71
  go_wp2_with (go_at_call 70; refine (divisor_yes y hy' _).mono ?_; rintro e w' ⟨rfl, rfl⟩)
  all_goals go_ret
  all_goals exact ⟨by first | rfl | (refine ret_int ?_; simp [Vl.wrap, wrap64]), rfl⟩
set_option maxRecDepth 100000 in
set_option maxHeartbeats 2000000 in
theorem count12_no (x : Int) (w : World) : Calls Tryd.prog 71 #[.int .i64 x, .int .i64 0] w fun e w' => e = thrown 202 ∧ w' = w := by
  go_enter Tryd.func71, Tryd.ntmps71
  go_wp2_with fail
  refine Calls.mono (divisor_no _) ?_
  rintro e w' ⟨rfl, rfl⟩
  exact ⟨rfl, rfl, rfl⟩
end Go.Proofs.YtcnmgebjbaclaaaDoor
