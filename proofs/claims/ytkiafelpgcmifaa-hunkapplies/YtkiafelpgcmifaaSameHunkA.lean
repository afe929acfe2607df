/-
  The walk of clerestorykit.SameHunk, at hunks whose place is any number.
-/
import Derived.Test.YtkiafelpgcmifaaHnCopy
namespace Go.Proofs.Ytkiafelpgcmifaa
open Go.RowKit Go.Shelf

attribute [local go_sem] Oper.semAt_some

set_option maxRecDepth 100000 in
set_option maxHeartbeats 4000000 in
theorem sameHunkA_yes (x y : HA) (m : Nat) (w : World) (hx : x.Low m w) (hy : y.Low m w) (hm : m ≤ w.heap.size) (he : x.h = y.h) (l1 : x.old.length ≤ 1000000) (l2 : x.new.length ≤ 1000000) :
    Calls Try.prog 28 #[x.val, y.val] w fun e w' => e = .returned (.bool true) ∧ Below w.heap.size w w' := by
  obtain ⟨k, vo, vn, L1, L2⟩ := x
  obtain ⟨k', vo', vn', L1', L2'⟩ := y
  simp only [HA.h, Hn.H.mk.injEq] at he
  obtain ⟨rfl, rfl, rfl⟩ := he
  obtain ⟨h1, h2⟩ := hx
  obtain ⟨h1', h2'⟩ := hy
  simp only at h1 h2 h1' h2' l1 l2
  have H1 := h1; have H2 := h2; have H1' := h1'; have H2' := h2'
  obtain ⟨a1, c1, b1, o1, rfl, -, -, -⟩ := h1.parts
  obtain ⟨a2, c2, b2, o2, rfl, -, -, -⟩ := h2.parts
  obtain ⟨a3, c3, b3, o3, rfl, -, -, -⟩ := h1'.parts
  obtain ⟨a4, c4, b4, o4, rfl, -, -, -⟩ := h2'.parts
  simp only [HA.val]
  have hbW : Below w.heap.size w ((w.alloc (.cells #[.int .i64 k, .slice a1 L1.length c1, .slice a2 L2.length c2] 40)).alloc (.cells #[.int .i64 k, .slice a3 L1.length c3, .slice a4 L2.length c4] 40)) := ((Below.refl _ w).alloc (Nat.le_refl _) _).alloc (by simp) _
  clear h1 h2 h1' h2'
  go_enter Try.func28, Try.ntmps28
  go_wp2_with fail
  refine (same_yes _ _ _ L1 m (H1.below hbW hm) (H1'.below hbW hm) l1).mono ?_
  rintro e w1 ⟨rfl, d, rfl⟩
  go_wp2_with fail
  refine (same_yes _ _ _ L2 m (H2.below (below_drewN hbW d) hm) (H2'.below (below_drewN hbW d) hm) l2).mono ?_
  rintro e w2 ⟨rfl, d2, rfl⟩
  go_wp2
  go_ret
  exact ⟨rfl, below_drewN hbW (d + d2)⟩

end Go.Proofs.Ytkiafelpgcmifaa
