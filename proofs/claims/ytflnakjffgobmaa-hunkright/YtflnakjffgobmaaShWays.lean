/-
  The walks of shift.apart, shift.more, and of the closures of Commute and Merge.
-/
import Derived.Test.YtflnakjffgobmaaShTold
namespace Go.Proofs.Ytflnakjffgobmaa
open Go.RowKit Go.Shelf

attribute [local go_sem] Oper.semAt_some

/-- A block that holds a hunk. -/
def HBox (W : World) (b : Nat) (x : HA) : Prop := W.heap[b]? = some (.cells #[.int .i64 x.at_, x.vo, x.vn] 41 (0, 0))
theorem HBox.below {W W' : World} {b : Nat} {x : HA} (h : HBox W b x) (hb : Below W.heap.size W W') : HBox W' b x := (hb.block b (Array.getElem?_eq_some_iff.1 h).1).trans h
theorem HBox.new (W : World) (x : HA) : HBox (W.alloc (.cells #[.int .i64 x.at_, x.vo, x.vn] 41)) W.heap.size x := World.alloc_heap_new W _
theorem HBox.cells {W : World} {b : Nat} {x : HA} (h : HBox W b x) : W.cell? ⟨b, 0, none⟩ = some (.int .i64 x.at_) ∧ W.cell? ⟨b, 1, none⟩ = some x.vo ∧ W.cell? ⟨b, 2, none⟩ = some x.vn := by
  refine ⟨?_, ?_, ?_⟩ <;> (rw [Lib.cell_of_heap h]; rfl)
theorem HBox.lt {W : World} {b : Nat} {x : HA} (h : HBox W b x) : b < W.heap.size := (Array.getElem?_eq_some_iff.1 h).1
/-- The shape of a hunk's value: its rows have as many lines as they read. -/
def HA.Shape (x : HA) : Prop := (∃ a c, x.vo = .slice a x.old.length c) ∧ ∃ a c, x.vn = .slice a x.new.length c
theorem HA.Low.shape {m : Nat} {w : World} {x : HA} (h : x.Low m w) : x.Shape := by
  obtain ⟨a1, c1, b1, o1, e1, -, -, -⟩ := h.1.parts
  obtain ⟨a2, c2, b2, o2, e2, -, -, -⟩ := h.2.parts
  exact ⟨⟨a1, c1, e1⟩, ⟨a2, c2, e2⟩⟩
/-- The place of a right hunk, and how many lines it has, are small. -/
def HA.Near (x : HA) : Prop := 0 ≤ x.at_ ∧ x.at_ ≤ 1099511627776

set_option maxRecDepth 100000 in
set_option maxHeartbeats 1000000 in
theorem apart_fn (x y : HA) (w : World) (hx : x.Shape) (hy : y.Shape) (nx : x.Near) (sx : x.Small) (ny : y.Near) :
    Calls Try.prog 53 #[x.val, y.val] w fun e w' => e = .returned (.bool (Hn.apart x.h y.h)) ∧ Below w.heap.size w w' := by
  obtain ⟨p, vo, vn, L1, L2⟩ := x
  obtain ⟨q, uo, un, M1, M2⟩ := y
  obtain ⟨⟨a1, c1, e1⟩, ⟨a2, c2, e2⟩⟩ := hx
  obtain ⟨⟨a3, c3, e3⟩, ⟨a4, c4, e4⟩⟩ := hy
  obtain ⟨n1, n2⟩ := nx
  obtain ⟨s1, s2⟩ := sx
  obtain ⟨n3, n4⟩ := ny
  simp only at e1 e2 e3 e4 n1 n2 n3 n4 s1 s2
  subst e1 e2 e3 e4
  have hadd : IntKind.i64.wrap (p + (L1.length : Int)) = p + (L1.length : Int) := by rw [IntKind.wrap_i64]; omega
  have hadd2 : wrap64 (p + (L1.length : Int)) = p + (L1.length : Int) := by unfold wrap64; omega
  simp only [HA.val, HA.h, Hn.apart]
  go_enter Try.func53, Try.ntmps53
  go_wp2
  go_ret
  exact ⟨rfl, below_then (below_nw w _) (below_nw _ _)⟩

set_option maxRecDepth 100000 in
set_option maxHeartbeats 1000000 in
theorem more_fn (x : HA) (w : World) (hx : x.Shape) (sx : x.Small) :
    Calls Try.prog 55 #[x.val] w fun e w' => e = .returned (.int .i64 (Hn.more x.h)) ∧ Below w.heap.size w w' := by
  obtain ⟨p, vo, vn, L1, L2⟩ := x
  obtain ⟨⟨a1, c1, e1⟩, ⟨a2, c2, e2⟩⟩ := hx
  obtain ⟨s1, s2⟩ := sx
  simp only at e1 e2 s1 s2
  subst e1 e2
  have hsub : IntKind.i64.wrap ((L2.length : Int) - (L1.length : Int)) = (L2.length : Int) - (L1.length : Int) := by rw [IntKind.wrap_i64]; omega
  have hsub2 : wrap64 ((L2.length : Int) - (L1.length : Int)) = (L2.length : Int) - (L1.length : Int) := by unfold wrap64; omega
  simp only [HA.val, HA.h, Hn.more]
  go_enter Try.func55, Try.ntmps55
  go_wp2
  go_ret
  exact ⟨rfl, below_nw w _⟩

set_option maxRecDepth 100000 in
set_option maxHeartbeats 1000000 in
/-- Commute's first way is open: q and p lie apart. -/
theorem cm1 (x y : HA) (b c : Nat) (w : World) (hb : HBox w b x) (hc : HBox w c y) (hx : x.Shape) (hy : y.Shape) (nx : x.Near) (sx : x.Small) (ny : y.Near) :
    Calls Try.prog 52 #[.pointer (some ⟨b, 0, none⟩), .pointer (some ⟨c, 0, none⟩)] w fun e w' => e = .returned (.bool (Hn.apart x.h y.h)) ∧ Below w.heap.size w w' := by
  obtain ⟨q0, q1, q2⟩ := hb.cells
  obtain ⟨r0, r1, r2⟩ := hc.cells
  have AP : Hid (_) := apart_fn x y w hx hy nx sx ny
  obtain ⟨p, vo, vn, L1, L2⟩ := x
  obtain ⟨q, uo, un, M1, M2⟩ := y
  obtain ⟨⟨a1, c1, e1⟩, ⟨a2, c2, e2⟩⟩ := hx
  obtain ⟨⟨a3, c3, e3⟩, ⟨a4, c4, e4⟩⟩ := hy
  simp only at e1 e2 e3 e4 q0 q1 q2 r0 r1 r2
  subst e1 e2 e3 e4
  simp only [HA.val] at AP
  clear hb hc nx sx ny
  go_enter Try.func52, Try.ntmps52
  go_wp2_with fail
  refine Calls.mono AP.out ?_
  rintro e w1 ⟨rfl, b1⟩
  go_wp2
  go_ret
  exact ⟨rfl, b1⟩

set_option maxRecDepth 100000 in
set_option maxHeartbeats 1000000 in
/-- Merge's first way is open: p and q lie apart. -/
theorem mg1 (x y : HA) (b c : Nat) (w : World) (hb : HBox w b x) (hc : HBox w c y) (hx : x.Shape) (hy : y.Shape) (nx : x.Near) (sx : x.Small) (ny : y.Near) :
    Calls Try.prog 58 #[.pointer (some ⟨b, 0, none⟩), .pointer (some ⟨c, 0, none⟩)] w fun e w' => e = .returned (.bool (Hn.apart x.h y.h)) ∧ Below w.heap.size w w' := by
  obtain ⟨q0, q1, q2⟩ := hb.cells
  obtain ⟨r0, r1, r2⟩ := hc.cells
  have AP : Hid (_) := apart_fn x y w hx hy nx sx ny
  obtain ⟨p, vo, vn, L1, L2⟩ := x
  obtain ⟨q, uo, un, M1, M2⟩ := y
  obtain ⟨⟨a1, c1, e1⟩, ⟨a2, c2, e2⟩⟩ := hx
  obtain ⟨⟨a3, c3, e3⟩, ⟨a4, c4, e4⟩⟩ := hy
  simp only at e1 e2 e3 e4 q0 q1 q2 r0 r1 r2
  subst e1 e2 e3 e4
  simp only [HA.val] at AP
  clear hb hc nx sx ny
  go_enter Try.func58, Try.ntmps58
  go_wp2_with fail
  refine Calls.mono AP.out ?_
  rintro e w1 ⟨rfl, b1⟩
  go_wp2
  go_ret
  exact ⟨rfl, b1⟩

set_option maxRecDepth 100000 in
set_option maxHeartbeats 1000000 in
/-- Merge's second way is open: q and p lie apart. -/
theorem mg3 (x y : HA) (b c : Nat) (w : World) (hb : HBox w b x) (hc : HBox w c y) (hx : x.Shape) (hy : y.Shape) (nx : x.Near) (sx : x.Small) (ny : y.Near) :
    Calls Try.prog 60 #[.pointer (some ⟨b, 0, none⟩), .pointer (some ⟨c, 0, none⟩)] w fun e w' => e = .returned (.bool (Hn.apart x.h y.h)) ∧ Below w.heap.size w w' := by
  obtain ⟨q0, q1, q2⟩ := hb.cells
  obtain ⟨r0, r1, r2⟩ := hc.cells
  have AP : Hid (_) := apart_fn x y w hx hy nx sx ny
  obtain ⟨p, vo, vn, L1, L2⟩ := x
  obtain ⟨q, uo, un, M1, M2⟩ := y
  obtain ⟨⟨a1, c1, e1⟩, ⟨a2, c2, e2⟩⟩ := hx
  obtain ⟨⟨a3, c3, e3⟩, ⟨a4, c4, e4⟩⟩ := hy
  simp only at e1 e2 e3 e4 q0 q1 q2 r0 r1 r2
  subst e1 e2 e3 e4
  simp only [HA.val] at AP
  clear hb hc nx sx ny
  go_enter Try.func60, Try.ntmps60
  go_wp2_with fail
  refine Calls.mono AP.out ?_
  rintro e w1 ⟨rfl, b1⟩
  go_wp2
  go_ret
  exact ⟨rfl, b1⟩

end Go.Proofs.Ytflnakjffgobmaa
