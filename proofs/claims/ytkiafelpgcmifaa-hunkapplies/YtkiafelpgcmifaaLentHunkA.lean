/-
  The walks of clerestorykit.LentHunk and KeptHunk: a hunk with marks behind its lines.
-/
import Derived.Test.YtkiafelpgcmifaaShBoxes
import Derived.Test.YtkiafelpgcmifaaKept
namespace Go.Proofs.Ytkiafelpgcmifaa
open Go.RowKit Go.Shelf

attribute [local go_sem] Oper.semAt_some

/-- A row with twelve marks behind it, in memory of its own. -/
def LentRow (B : Nat) (W : World) (v : Value) (L : List (List UInt8)) : Prop := ∃ g cap, v = .slice (some ⟨g, 0, none⟩) L.length cap ∧ W.ownsRow B 9 1 (.slice (some ⟨g, 0, none⟩) (L.length + 12) cap) (L.length + 12) ((L ++ marks 12).map txtV)
theorem LentRow.below {B : Nat} {W W' : World} {v : Value} {L : List (List UInt8)} (h : LentRow B W v L) (hb : Below W.heap.size W W') : LentRow B W' v L := by
  obtain ⟨g, cap, e, h⟩ := h
  exact ⟨g, cap, e, owns_below h hb⟩
theorem LentRow.base {B B' : Nat} {W : World} {v : Value} {L : List (List UInt8)} (h : LentRow B W v L) (hb : B' ≤ B) : LentRow B' W v L := by
  obtain ⟨g, cap, e, h⟩ := h
  exact ⟨g, cap, e, owns_base h hb⟩
theorem lent_low {W : World} {B g cap : Nat} {L : List (List UInt8)} (h : W.ownsRow B 9 1 (.slice (some ⟨g, 0, none⟩) (L.length + 12) cap) (L.length + 12) ((L ++ marks 12).map txtV)) : RowLow W.heap.size W (.slice (some ⟨g, 0, none⟩) L.length cap) L := by
  have h1 := owns_front h (show L.length ≤ L.length + 12 by omega)
  rw [Nat.mul_one, List.map_append, List.take_append_of_le_length (by simp), List.take_of_length_le (by simp)] at h1
  exact RowLow.of_owns h1
theorem LentRow.low {B : Nat} {W : World} {v : Value} {L : List (List UInt8)} (h : LentRow B W v L) : RowLow W.heap.size W v L := by
  obtain ⟨g, cap, rfl, h⟩ := h
  exact lent_low h
/-- y is x, lent. -/
def LentOf (B : Nat) (W : World) (x y : HA) : Prop := y.h = x.h ∧ LentRow B W y.vo y.old ∧ LentRow B W y.vn y.new
theorem LentOf.below {B : Nat} {W W' : World} {x y : HA} (h : LentOf B W x y) (hb : Below W.heap.size W W') : LentOf B W' x y := ⟨h.1, h.2.1.below hb, h.2.2.below hb⟩
theorem LentOf.base {B B' : Nat} {W : World} {x y : HA} (h : LentOf B W x y) (hb : B' ≤ B) : LentOf B' W x y := ⟨h.1, h.2.1.base hb, h.2.2.base hb⟩
theorem LentOf.low {B : Nat} {W : World} {x y : HA} (h : LentOf B W x y) : y.Low W.heap.size W := ⟨h.2.1.low, h.2.2.low⟩
theorem LentOf.fine {B : Nat} {W : World} {x y : HA} (h : LentOf B W x y) (f : x.Fine) : y.Fine := by
  obtain ⟨h, -, -⟩ := h
  obtain ⟨p, vo, vn, L1, L2⟩ := x
  obtain ⟨p', vo', vn', M1, M2⟩ := y
  simp only [HA.h, Hn.H.mk.injEq] at h
  obtain ⟨rfl, rfl, rfl⟩ := h
  exact f

set_option maxRecDepth 100000 in
set_option maxHeartbeats 4000000 in
theorem lentHunk_any (x : HA) (w : World) (hx : x.Low w.heap.size w) (l1 : x.old.length ≤ 5000) (l2 : x.new.length ≤ 5000) :
    Calls Try.prog 20 #[x.val] w fun e w' => ∃ y : HA, e = .returned y.val ∧ LentOf w.heap.size w' x y ∧ Below w.heap.size w w' := by
  obtain ⟨X, hX⟩ : ∃ X, X = (w.alloc (.cells #[.int .i64 x.at_, x.vo, x.vn] 40)).alloc (.cells #[.int .i64 0, .slice none 0 0, .slice none 0 0] 40) := ⟨_, rfl⟩
  have bX : Below w.heap.size w X := by rw [hX]; exact below_then (below_nw w _) (below_nw _ _)
  have sX : X.heap.size = w.heap.size + 1 + 1 := by rw [hX]; simp
  have x0 : HBox X w.heap.size x := by rw [hX]; exact (HBox.new w x).below (below_nw _ _)
  have x1 : HBox X (w.heap.size + 1) zeroHA := by
    have h := HBox.new (w.alloc (.cells #[.int .i64 x.at_, x.vo, x.vn] 40)) zeroHA
    rw [World.size_alloc] at h
    rw [hX]; exact h
  have L1 : Hid (_) := lent_any x.old x.vo X (hx.at bX).1 l1
  have L2 : Hid (∀ W, Below w.heap.size w W → _) := fun W hW => lent_any x.new x.vn W (hx.at hW).2 l2
  obtain ⟨⟨a1, k1, e1⟩, ⟨a2, k2, e2⟩⟩ := hx.shape
  obtain ⟨p, vo, vn, P1, P2⟩ := x
  simp only at e1 e2
  subst e1 e2
  have X0 : Hid (HBox X w.heap.size _) := x0
  have X1 : Hid (HBox X (w.heap.size + 1) zeroHA) := x1
  have BX : Hid (Below w.heap.size w X) := bX
  have SX : Hid (X.heap.size = w.heap.size + 1 + 1) := sX
  clear hx x0 x1 bX sX
  simp only [HA.val] at hX L1 L2 ⊢
  go_enter Try.func20, Try.ntmps20
  go_wp2_with fail
  rw [← hX]
  clear hX
  refine Calls.mono L1.out ?_
  rintro e w1 ⟨g1, c1, rfl, o1, b1⟩
  have y0 := HBox.below X0.out b1
  have y1 := HBox.below X1.out b1
  obtain ⟨f0, f1, f2⟩ := y0.cells
  have ff : ∀ j, w1.frozen? ⟨w.heap.size, j, none⟩ = false := fun j => frozen_of_row w1 _ j _ _ y0
  have O1 : Hid (w1.ownsRow X.heap.size 9 1 (.slice (some ⟨g1, 0, none⟩) (P1.length + 12) c1) (P1.length + 12) ((P1 ++ marks 12).map txtV)) := o1
  obtain ⟨W1, hW1⟩ : ∃ W, W = w1.setCell ⟨w.heap.size, 1, none⟩ (.slice (some ⟨g1, 0, none⟩) P1.length c1) := ⟨_, rfl⟩
  have h1 : W1.heap[w.heap.size]? = some (.cells #[.int .i64 p, .slice (some ⟨g1, 0, none⟩) P1.length c1, .slice a2 P2.length k2] 40 (0, 0)) := by rw [hW1]; exact heap_setCell_same w1 _ 1 _ 40 _ y0
  have gr1 : w1.grownBy W1 (some w.heap.size) := by rw [hW1]; exact grown_set w1 _ _ _
  have BW1 : Below w.heap.size w W1 := below_grown (below_then BX.out b1) gr1 (Nat.le_refl _) (below_then BX.out b1).size
  have OW1 : Hid (W1.ownsRow X.heap.size 9 1 (.slice (some ⟨g1, 0, none⟩) (P1.length + 12) c1) (P1.length + 12) ((P1 ++ marks 12).map txtV)) := by rw [Hid, hW1]; exact owns_set O1.out y0 (by decide) 1 _
  have YW1 : Hid (HBox W1 (w.heap.size + 1) zeroHA) := y1.grown gr1 (by omega)
  have SW1 : Hid (w.heap.size ≤ W1.heap.size ∧ X.heap.size ≤ W1.heap.size) := ⟨BW1.size, by have := gr1.size; have := b1.size; omega⟩
  have H1 : Hid (_) := h1
  have L3 : Hid (_) := L2.out W1 BW1
  have HBW1 : Hid (_) := BW1
  simp only at f0 f1 f2
  clear L1 L2 X0 X1 BX b1 o1 O1 y0 y1 gr1 BW1 h1
  go_wp2_with fail
  rw [← hW1]
  clear hW1
  refine Calls.mono L3.out ?_
  rintro e w2 ⟨g2, c2, rfl, o2, b2⟩
  clear f0 f1 f2 ff
  have y0 := (b2.block _ (Array.getElem?_eq_some_iff.1 H1.out).1).trans H1.out
  have y1 := HBox.below YW1.out b2
  have f0 : w2.cell? ⟨w.heap.size, 0, none⟩ = some (.int .i64 p) := by rw [Lib.cell_of_heap y0]; rfl
  have f1 : w2.cell? ⟨w.heap.size, 1, none⟩ = some (.slice (some ⟨g1, 0, none⟩) P1.length c1) := by rw [Lib.cell_of_heap y0]; rfl
  have f2 : w2.cell? ⟨w.heap.size, 2, none⟩ = some (.slice a2 P2.length k2) := by rw [Lib.cell_of_heap y0]; rfl
  have ff : ∀ j, w2.frozen? ⟨w.heap.size, j, none⟩ = false := fun j => frozen_of_row w2 _ j _ _ y0
  obtain ⟨W2, hW2⟩ : ∃ W, W = w2.setCell ⟨w.heap.size, 2, none⟩ (.slice (some ⟨g2, 0, none⟩) P2.length c2) := ⟨_, rfl⟩
  have h2 := heap_setCell_same w2 _ 2 _ 40 (.slice (some ⟨g2, 0, none⟩) P2.length c2) y0
  rw [← hW2] at h2
  have gr2 : w2.grownBy W2 (some w.heap.size) := by rw [hW2]; exact grown_set w2 _ _ _
  have z1 : HBox W2 (w.heap.size + 1) zeroHA := y1.grown gr2 (by omega)
  obtain ⟨q0, q1, q2, qf⟩ := hbox_facts z1 (.int .i64 p) (.slice (some ⟨g1, 0, none⟩) P1.length c1)
  obtain ⟨Z, hZ, hz, gz, oz⟩ := hbox_put z1 ⟨p, .slice (some ⟨g1, 0, none⟩) P1.length c1, .slice (some ⟨g2, 0, none⟩) P2.length c2, P1, P2⟩
  simp only [zeroHA] at q0 q1 q2
  simp only at hZ
  obtain ⟨r0, r1, r2⟩ := hz.cells
  simp only at r0 r1 r2
  have BW2 : Below w.heap.size w w2 := below_then HBW1.out b2
  have BWW : Below w.heap.size w W2 := below_grown BW2 gr2 (Nat.le_refl _) BW2.size
  have BZ : Below w.heap.size w Z := below_grown BWW gz (by omega) BWW.size
  have HF : Hid (LentOf w.heap.size Z ⟨p, .slice a1 P1.length k1, .slice a2 P2.length k2, P1, P2⟩ ⟨p, .slice (some ⟨g1, 0, none⟩) P1.length c1, .slice (some ⟨g2, 0, none⟩) P2.length c2, P1, P2⟩ ∧ Below w.heap.size w Z) := by
    have e1 : ∀ {B n v xs}, w2.ownsRow B 9 1 v n xs → Z.ownsRow B 9 1 v n xs := fun h => oz _ _ _ _ (by rw [hW2]; exact owns_set h y0 (by decide) 2 _)
    have hs := SX.out
    exact ⟨⟨rfl, ⟨g1, c1, rfl, owns_base (e1 (owns_below OW1.out b2)) (by omega)⟩, ⟨g2, c2, rfl, owns_base (e1 o2) SW1.out.1⟩⟩, BZ⟩
  rw [hW2] at hZ q0 q1 q2 qf
  clear L3 b2 o2 y0 y1 h2 gr2 z1 hz gz oz BW2 BWW BZ H1 OW1 YW1
  go_wp2
  rw [← hZ]
  refine bodyPost_ret (v := .agg #[.int .i64 p, .slice (some ⟨g1, 0, none⟩) P1.length c1, .slice (some ⟨g2, 0, none⟩) P2.length c2]) (by simp [results, Try.results20, go_sem, r0, r1, r2]) rfl ⟨_, rfl, HF.out⟩

set_option maxRecDepth 100000 in
set_option maxHeartbeats 4000000 in
theorem keptHunk_any (x y : HA) (B : Nat) (w : World) (hx : x.Low w.heap.size w) (hy : LentOf B w x y) (l1 : x.old.length ≤ 5000) (l2 : x.new.length ≤ 5000) :
    Calls Try.prog 27 #[y.val, x.val] w fun e w' => e = .returned (.bool true) ∧ Below w.heap.size w w' := by
  obtain ⟨X, hX⟩ : ∃ X, X = (w.alloc (.cells #[.int .i64 y.at_, y.vo, y.vn] 40)).alloc (.cells #[.int .i64 x.at_, x.vo, x.vn] 40) := ⟨_, rfl⟩
  have bX : Below w.heap.size w X := by rw [hX]; exact below_then (below_nw w _) (below_nw _ _)
  have x0 : HBox X w.heap.size y := by rw [hX]; exact (HBox.new w y).below (below_nw _ _)
  have x1 : HBox X (w.heap.size + 1) x := by
    have h := HBox.new (w.alloc (.cells #[.int .i64 y.at_, y.vo, y.vn] 40)) x
    rw [World.size_alloc] at h
    rw [hX]; exact h
  have X0 : Hid (∀ W, Below X.heap.size X W → HBox W w.heap.size y ∧ HBox W (w.heap.size + 1) x) := fun W hW => ⟨x0.below hW, x1.below hW⟩
  have hyo : y.old = x.old ∧ y.new = x.new := by
    obtain ⟨h, -, -⟩ := hy
    obtain ⟨p, vo, vn, P1, P2⟩ := x
    obtain ⟨p', vo', vn', Q1, Q2⟩ := y
    simp only [HA.h, Hn.H.mk.injEq] at h
    exact h.2
  have S1 : Hid (_) := sameHunkA_yes y x X.heap.size X (hy.low.at bX) (hx.at bX) (Nat.le_refl _) hy.1 (by rw [hyo.1]; omega) (by rw [hyo.2]; omega)
  have K1 : Hid (∀ W, Below X.heap.size X W → Calls Try.prog 11 #[y.vo, x.vo] W fun e w' => e = .returned (.bool true) ∧ Below W.heap.size W w') := fun W hW => by
    obtain ⟨g, cap, e, h⟩ := hy.2.1
    rw [e]
    rw [hyo.1] at h ⊢
    exact kept_any x.old x.vo g cap B W ((hx.at bX).at hW).1 (owns_below (owns_below h bX) hW) l1
  have K2 : Hid (∀ W, Below X.heap.size X W → Calls Try.prog 11 #[y.vn, x.vn] W fun e w' => e = .returned (.bool true) ∧ Below W.heap.size W w') := fun W hW => by
    obtain ⟨g, cap, e, h⟩ := hy.2.2
    rw [e]
    rw [hyo.2] at h ⊢
    exact kept_any x.new x.vn g cap B W ((hx.at bX).at hW).2 (owns_below (owns_below h bX) hW) l2
  have BX : Hid (Below w.heap.size w X) := bX
  obtain ⟨⟨a1, k1, e1⟩, ⟨a2, k2, e2⟩⟩ := hx.shape
  obtain ⟨⟨a3, k3, e3⟩, ⟨a4, k4, e4⟩⟩ := hy.low.shape
  obtain ⟨p, vo, vn, P1, P2⟩ := x
  obtain ⟨q, uo, un, Q1, Q2⟩ := y
  simp only at e1 e2 e3 e4
  subst e1 e2 e3 e4
  clear hx hy x0 x1 bX hyo
  simp only [HA.val] at hX S1 K1 K2 ⊢
  go_enter Try.func27, Try.ntmps27
  go_wp2_with fail
  rw [← hX]
  clear hX
  refine Calls.mono S1.out ?_
  rintro e w1 ⟨rfl, b1⟩
  obtain ⟨⟨c0, c1, c2⟩, ⟨c3, c4, c5⟩⟩ := And.intro (X0.out w1 b1).1.cells (X0.out w1 b1).2.cells
  simp only at c0 c1 c2 c3 c4 c5
  have K3 : Hid (_) := K1.out w1 b1
  have B1 : Hid (Below X.heap.size X w1) := b1
  clear S1 K1 b1
  go_wp2_with fail
  refine Calls.mono K3.out ?_
  rintro e w2 ⟨rfl, b2⟩
  have B2 : Hid (Below X.heap.size X w2) := below_then B1.out b2
  clear c0 c1 c2 c3 c4 c5 K3 B1 b2
  obtain ⟨⟨c0, c1, c2⟩, ⟨c3, c4, c5⟩⟩ := And.intro (X0.out w2 B2.out).1.cells (X0.out w2 B2.out).2.cells
  simp only at c0 c1 c2 c3 c4 c5
  have K4 : Hid (_) := K2.out w2 B2.out
  clear K2
  go_wp2_with fail
  refine Calls.mono K4.out ?_
  rintro e w3 ⟨rfl, b3⟩
  have B3 : Hid (Below w.heap.size w w3) := below_then BX.out (below_then B2.out b3)
  clear c0 c1 c2 c3 c4 c5 K4 B2 b3
  go_wp2
  go_ret
  exact ⟨rfl, B3.out⟩

end Go.Proofs.Ytkiafelpgcmifaa
