/-
  The walks of the law's own functions (chapter 4): of, tells, great, two.
-/
import Derived.Test.YtflnakjffgobmaaShTwo
import Derived.Test.YtflnakjffgobmaaSameHunkA
import Derived.Test.YtflnakjffgobmaaHnGreat
namespace Go.Proofs.Ytflnakjffgobmaa
open Go.RowKit Go.Shelf

attribute [local go_sem] Oper.semAt_some

set_option maxRecDepth 100000 in
set_option maxHeartbeats 4000000 in
/-- tells, at what is told without an error. -/
theorem tells_yes (x y u v : HA) (m : Nat) (w : World) (hx : x.Low m w) (hy : y.Low m w) (hu : u.Low m w) (hv : v.Low m w) (hm : m ≤ w.heap.size) (e1 : x.h = u.h) (e2 : y.h = v.h) (sx : x.Small) (sy : y.Small) :
    Calls Try.prog 30 #[x.val, y.val, .int .i64 0, u.val, v.val] w fun e w' => e = .returned (.bool true) ∧ Below w.heap.size w w' := by
  obtain ⟨X, hX⟩ : ∃ X, X = (((w.alloc (.cells #[.int .i64 x.at_, x.vo, x.vn] 41)).alloc (.cells #[.int .i64 y.at_, y.vo, y.vn] 41)).alloc (.cells #[.int .i64 u.at_, u.vo, u.vn] 41)).alloc (.cells #[.int .i64 v.at_, v.vo, v.vn] 41) := ⟨_, rfl⟩
  have bX : Below w.heap.size w X := by rw [hX]; exact below_then (below_nw w _) (below_then (below_nw _ _) (below_then (below_nw _ _) (below_nw _ _)))
  have hmX : m ≤ X.heap.size := Nat.le_trans hm bX.size
  have S1 : Hid (_) := sameHunkA_yes x u m X (hx.below bX hm) (hu.below bX hm) hmX e1 sx.1 sx.2
  have S2 : Hid (∀ W, Below X.heap.size X W → _) := fun W hW => sameHunkA_yes y v m W ((hy.below bX hm).below hW hmX) ((hv.below bX hm).below hW hmX) (Nat.le_trans hmX hW.size) e2 sy.1 sy.2
  have x1 : HBox X (w.heap.size + 1) y := by
    have h := HBox.new (w.alloc (.cells #[.int .i64 x.at_, x.vo, x.vn] 41)) y
    rw [World.size_alloc] at h
    rw [hX]; exact (h.below (below_nw _ _)).below (below_nw _ _)
  have x3 : HBox X (w.heap.size + 1 + 1 + 1) v := by
    have h := HBox.new (((w.alloc (.cells #[.int .i64 x.at_, x.vo, x.vn] 41)).alloc (.cells #[.int .i64 y.at_, y.vo, y.vn] 41)).alloc (.cells #[.int .i64 u.at_, u.vo, u.vn] 41)) v
    simp only [World.size_alloc] at h
    rw [hX]; exact h
  have X1 : Hid (HBox X (w.heap.size + 1) y) := x1
  have X3 : Hid (HBox X (w.heap.size + 1 + 1 + 1) v) := x3
  have BX : Hid (Below w.heap.size w X) := bX
  obtain ⟨⟨a1, k1, f1⟩, ⟨a2, k2, f2⟩⟩ := hx.shape
  obtain ⟨⟨a3, k3, f3⟩, ⟨a4, k4, f4⟩⟩ := hy.shape
  obtain ⟨⟨a5, k5, f5⟩, ⟨a6, k6, f6⟩⟩ := hu.shape
  obtain ⟨⟨a7, k7, f7⟩, ⟨a8, k8, f8⟩⟩ := hv.shape
  obtain ⟨xp, xo, xn, P1, P2⟩ := x
  obtain ⟨yp, yo, yn, Q1, Q2⟩ := y
  obtain ⟨up, uo, un, R1, R2⟩ := u
  obtain ⟨vp, vo, vn, T1, T2⟩ := v
  simp only at f1 f2 f3 f4 f5 f6 f7 f8
  subst f1 f2 f3 f4 f5 f6 f7 f8
  simp only [HA.val] at S1 S2 hX ⊢
  clear hx hy hu hv x1 x3 bX e1 e2 sx sy
  go_enter Try.func30, Try.ntmps30
  go_wp2_with fail
  rw [← hX]
  clear hX
  refine Calls.mono S1.out ?_
  rintro e w1 ⟨rfl, b1⟩
  obtain ⟨c0, c1, c2⟩ := HBox.cells (HBox.below X1.out b1)
  obtain ⟨c3, c4, c5⟩ := HBox.cells (HBox.below X3.out b1)
  simp only at c0 c1 c2 c3 c4 c5
  have S3 : Hid (_) := S2.out w1 b1
  have B1 : Hid (Below w.heap.size w w1) := below_then BX.out b1
  clear S1 S2 b1
  go_wp2_with fail
  refine Calls.mono S3.out ?_
  rintro e w2 ⟨rfl, b2⟩
  go_wp2
  go_ret
  exact ⟨rfl, below_then B1.out b2⟩

end Go.Proofs.Ytflnakjffgobmaa
