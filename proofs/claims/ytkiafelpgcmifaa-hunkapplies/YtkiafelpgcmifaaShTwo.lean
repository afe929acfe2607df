/-
  The walks of shift.Commute and shift.Merge.
-/
import Derived.Test.YtkiafelpgcmifaaShTaken
namespace Go.Proofs.Ytkiafelpgcmifaa
open Go.RowKit Go.Shelf

attribute [local go_sem] Oper.semAt_some

theorem moved_zero (h : Hn.H) : Hn.moved h 0 = h := by
  cases h; simp [Hn.moved]
/-- What a hunk must be, to be gone through in time. -/
def HA.Fine (x : HA) : Prop := x.Small ∧ x.Thin ∧ x.Fits
theorem fine_good {x : HA} (h : x.Fine) (n : x.Near) {d : Int} (hd : -1000000 ≤ d ∧ d ≤ 1000000) : x.Good d := by
  obtain ⟨h1, h2, h3⟩ := h
  obtain ⟨n1, n2⟩ := n
  obtain ⟨d1, d2⟩ := hd
  exact ⟨h1, h2, ⟨by omega, by omega⟩, h3⟩
theorem more_bound {x : HA} (h : x.Fine) : (-1000000 ≤ Hn.more x.h ∧ Hn.more x.h ≤ 1000000) ∧ (-1000000 ≤ -Hn.more x.h ∧ -Hn.more x.h ≤ 1000000) := by
  obtain ⟨⟨s1, s2⟩, -⟩ := h
  simp only [Hn.more, HA.h]
  omega
theorem right_near {x : HA} (h : Hn.right x.h = true) : x.Near := right_bound h
/-- Blocks laid one behind the other. -/
theorem four_new (w : World) (x y : HA) : ∃ X, X = (((w.alloc (.cells #[.int .i64 x.at_, x.vo, x.vn] 40)).alloc (.cells #[.int .i64 y.at_, y.vo, y.vn] 40)).alloc (.cells #[.int .i64 0, .slice none 0 0, .slice none 0 0] 40)).alloc (.cells #[.int .i64 0, .slice none 0 0, .slice none 0 0] 40) ∧ Below w.heap.size w X ∧ HBox X w.heap.size x ∧ HBox X (w.heap.size + 1) y ∧ HBox X (w.heap.size + 1 + 1) zeroHA ∧ HBox X (w.heap.size + 1 + 1 + 1) zeroHA := by
  have h1 := HBox.new w x
  have b1 := below_nw w (.cells #[.int .i64 x.at_, x.vo, x.vn] 40)
  have h2 := HBox.new (w.alloc (.cells #[.int .i64 x.at_, x.vo, x.vn] 40)) y
  have b2 := below_nw (w.alloc (.cells #[.int .i64 x.at_, x.vo, x.vn] 40)) (.cells #[.int .i64 y.at_, y.vo, y.vn] 40)
  have h3 := HBox.new ((w.alloc (.cells #[.int .i64 x.at_, x.vo, x.vn] 40)).alloc (.cells #[.int .i64 y.at_, y.vo, y.vn] 40)) zeroHA
  have b3 := below_nw ((w.alloc (.cells #[.int .i64 x.at_, x.vo, x.vn] 40)).alloc (.cells #[.int .i64 y.at_, y.vo, y.vn] 40)) (.cells #[.int .i64 0, .slice none 0 0, .slice none 0 0] 40)
  have h4 := HBox.new (((w.alloc (.cells #[.int .i64 x.at_, x.vo, x.vn] 40)).alloc (.cells #[.int .i64 y.at_, y.vo, y.vn] 40)).alloc (.cells #[.int .i64 0, .slice none 0 0, .slice none 0 0] 40)) zeroHA
  have b4 := below_nw (((w.alloc (.cells #[.int .i64 x.at_, x.vo, x.vn] 40)).alloc (.cells #[.int .i64 y.at_, y.vo, y.vn] 40)).alloc (.cells #[.int .i64 0, .slice none 0 0, .slice none 0 0] 40)) (.cells #[.int .i64 0, .slice none 0 0, .slice none 0 0] 40)
  simp only [World.size_alloc] at h2 h3 h4
  exact ⟨_, rfl, below_then b1 (below_then b2 (below_then b3 b4)), ((h1.below b2).below b3).below b4, (h2.below b3).below b4, h3.below b4, h4⟩
/-- What is told, whatever it is: three values. -/
theorem ShPost.three {r : Except Nat (Hn.H × Hn.H)} {w w' : World} {e : Ending} (h : ShPost r w e w') : ∃ (A B : HA) (c : Nat) (a1 a2 a3 a4 : Option Addr) (c1 c2 c3 c4 : Nat), A.vo = .slice a1 A.old.length c1 ∧ A.vn = .slice a2 A.new.length c2 ∧ B.vo = .slice a3 B.old.length c3 ∧ B.vn = .slice a4 B.new.length c4 ∧ e = .returned (.tuple #[A.val, B.val, .int .i64 c]) ∧ (A.h, B.h, c) = shRes r ∧ A.Ok w.heap.size w' ∧ B.Ok w.heap.size w' ∧ (bla [A, B]).Nodup ∧ Below w.heap.size w w' := by
  obtain ⟨A, B, c, h1, h2, h3, h4, h5, h6⟩ := h
  obtain ⟨a1, c1, e1⟩ := slice_shape h3.1
  obtain ⟨a2, c2, e2⟩ := slice_shape h3.2
  obtain ⟨a3, c3, e3⟩ := slice_shape h4.1
  obtain ⟨a4, c4, e4⟩ := slice_shape h4.2
  exact ⟨A, B, c, a1, a2, a3, a4, c1, c2, c3, c4, e1, e2, e3, e4, h1, h2, h3, h4, h5, h6⟩

end Go.Proofs.Ytkiafelpgcmifaa
