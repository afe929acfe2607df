/-
  The walk of the document's answer, clerestoryref03.Right.
-/
import Derived.Test.YtkiafelpgcmifaaRefLines
namespace Go.Proofs.Ytkiafelpgcmifaa
open Go.RowKit Go.Shelf

attribute [local go_sem] Oper.semAt_some

set_option maxRecDepth 100000 in
set_option maxHeartbeats 4000000 in
theorem refRight_any (x : HA) (m : Nat) (w : World) (hx : x.Low m w) (hm : m ≤ w.heap.size) (hf : x.Fits) :
    Calls Try.prog 40 #[x.val] w fun e w' => e = .returned (.bool (Hn.right x.h)) ∧ Below w.heap.size w w' := by
  obtain ⟨p, vo, vn, L1, L2⟩ := x
  obtain ⟨⟨f1, f2⟩, ⟨f3, f4⟩, f5, f6⟩ := hf
  obtain ⟨h1, h2⟩ := hx
  simp only at h1 h2 f1 f2 f3 f4 f5 f6
  have H1 : Hid (_) := h1
  have H2 : Hid (_) := h2
  obtain ⟨a1, c1, b1, o1, rfl, -, -, -⟩ := h1.parts
  obtain ⟨a2, c2, b2, o2, rfl, -, -, -⟩ := h2.parts
  simp only [HA.val, HA.h]
  obtain ⟨X, hX⟩ : ∃ X, X = w.alloc (.cells #[.int .i64 p, .slice a1 L1.length c1, .slice a2 L2.length c2] 40) := ⟨_, rfl⟩
  have bX : Below w.heap.size w X := by rw [hX]; exact below_nw w _
  have A1 : Hid (_) := refLines_any L1 _ m X (RowLow.below H1.out bX hm) f3 f5
  have hsX := bX.size
  have A2 : Hid (∀ W, Below X.heap.size X W → Calls Try.prog 25 #[.slice a2 L2.length c2] W fun e w' => e = .returned (.bool (Hn.lines L2)) ∧ ∃ d, w' = W.drewN d) := fun W hW => refLines_any L2 _ m W (RowLow.below (RowLow.below H2.out bX hm) hW (by omega)) f4 f6
  have EQ : Hid (∀ W, Below X.heap.size X W → Calls Try.prog 10 #[.slice a1 L1.length c1, .slice a2 L2.length c2] W fun e w' => e = .returned (.bool (decide (L1 = L2))) ∧ ∃ d, w' = W.drewN d) := fun W hW => same_any W _ _ L1 L2 m m (RowLow.below (RowLow.below H1.out bX hm) hW (by omega)) (RowLow.below (RowLow.below H2.out bX hm) hW (by omega)) f3 f4
  have BX : Hid (Below w.heap.size w X) := bX
  clear h1 h2 H1 H2 bX f5 f6 hsX
  subst hX
  have fin : ∀ r : Bool, r = (decide (0 ≤ p) && decide (p ≤ 1099511627776) && Hn.lines L1 && Hn.lines L2 && !decide (L1 = L2)) → Ending.returned (.bool r) = Ending.returned (.bool (Hn.right ⟨p, L1, L2⟩)) := fun r h => by rw [h]; rfl
  by_cases q1 : 0 ≤ p
  · have e1 : decide (0 ≤ p) = true := by simp; omega
    by_cases q2 : p ≤ 1099511627776
    · have e2 : decide (p ≤ 1099511627776) = true := by simp; omega
      cases l1 : Hn.lines L1 with
      | false =>
        rw [l1] at A1
        go_enter Try.func40, Try.ntmps40
        go_wp2_with fail
        refine Calls.mono A1.out ?_
        rintro e w1 ⟨rfl, d1, hw1⟩
        have B1 : Hid (Below w.heap.size w w1) := by rw [hw1]; exact below_drewN BX.out d1
        clear hw1
        go_wp2
        go_ret
        exact ⟨fin _ (by simp [l1]), B1.out⟩
      | true =>
        rw [l1] at A1
        cases l2 : Hn.lines L2 with
        | false =>
          rw [l2] at A2
          go_enter Try.func40, Try.ntmps40
          go_wp2_with fail
          refine Calls.mono A1.out ?_
          rintro e w1 ⟨rfl, d1, hw1⟩
          have b1 : Below (w.alloc (.cells #[.int .i64 p, .slice a1 L1.length c1, .slice a2 L2.length c2] 40)).heap.size (w.alloc (.cells #[.int .i64 p, .slice a1 L1.length c1, .slice a2 L2.length c2] 40)) w1 := by rw [hw1]; exact below_drewN (Below.refl _ _) d1
          have hh1 : w1.heap[w.heap.size]? = some (.cells #[.int .i64 p, .slice a1 L1.length c1, .slice a2 L2.length c2] 40 (0, 0)) := (b1.block _ (by simp)).trans (World.alloc_heap_new w _)
          have z2 : w1.cell? ⟨w.heap.size, 2, none⟩ = some (.slice a2 L2.length c2) := by rw [Lib.cell_of_heap hh1]; rfl
          have HB1 : Hid (_) := b1
          clear hw1 b1 hh1
          go_wp2_with fail
          refine Calls.mono (A2.out w1 HB1.out) ?_
          rintro e w2 ⟨rfl, d2, hw2⟩
          have B2 : Hid (Below w.heap.size w w2) := by
            rw [hw2]
            exact below_drewN (Below.trans BX.out (Below.mono HB1.out BX.out.size)) d2
          clear hw2
          go_wp2
          go_ret
          exact ⟨fin _ (by simp [l2]), B2.out⟩
        | true =>
          rw [l2] at A2
          go_enter Try.func40, Try.ntmps40
          go_wp2_with fail
          refine Calls.mono A1.out ?_
          rintro e w1 ⟨rfl, d1, hw1⟩
          have b1 : Below (w.alloc (.cells #[.int .i64 p, .slice a1 L1.length c1, .slice a2 L2.length c2] 40)).heap.size (w.alloc (.cells #[.int .i64 p, .slice a1 L1.length c1, .slice a2 L2.length c2] 40)) w1 := by rw [hw1]; exact below_drewN (Below.refl _ _) d1
          have hh1 : w1.heap[w.heap.size]? = some (.cells #[.int .i64 p, .slice a1 L1.length c1, .slice a2 L2.length c2] 40 (0, 0)) := (b1.block _ (by simp)).trans (World.alloc_heap_new w _)
          have z1 : w1.cell? ⟨w.heap.size, 1, none⟩ = some (.slice a1 L1.length c1) := by rw [Lib.cell_of_heap hh1]; rfl
          have z2 : w1.cell? ⟨w.heap.size, 2, none⟩ = some (.slice a2 L2.length c2) := by rw [Lib.cell_of_heap hh1]; rfl
          have HB1 : Hid (_) := b1
          clear hw1 b1 hh1
          go_wp2_with fail
          refine Calls.mono (A2.out w1 HB1.out) ?_
          rintro e w2 ⟨rfl, d2, hw2⟩
          have b2 : Below w1.heap.size w1 w2 := by rw [hw2]; exact below_drewN (Below.refl _ _) d2
          have y1 : w2.cell? ⟨w.heap.size, 1, none⟩ = some (.slice a1 L1.length c1) := by rw [hw2]; exact z1
          have y2 : w2.cell? ⟨w.heap.size, 2, none⟩ = some (.slice a2 L2.length c2) := by rw [hw2]; exact z2
          have HB2 : Hid (Below (w.alloc (.cells #[.int .i64 p, .slice a1 L1.length c1, .slice a2 L2.length c2] 40)).heap.size (w.alloc (.cells #[.int .i64 p, .slice a1 L1.length c1, .slice a2 L2.length c2] 40)) w2) := Below.trans HB1.out (b2.mono HB1.out.size)
          clear hw2 b2 z1 z2
          go_wp2_with fail
          refine Calls.mono (EQ.out w2 HB2.out) ?_
          rintro e w3 ⟨rfl, d3, hw3⟩
          have B3 : Hid (Below w.heap.size w w3) := by
            rw [hw3]
            exact below_drewN (Below.trans BX.out (HB2.out.mono BX.out.size)) d3
          clear hw3
          go_wp2
          go_ret
          exact ⟨fin _ (by rw [e1, e2, l1, l2]; simp), B3.out⟩
    · have e2 : decide (p ≤ 1099511627776) = false := by simp; omega
      go_enter Try.func40, Try.ntmps40
      go_wp2
      go_ret
      exact ⟨fin _ (by rw [e2]; simp), BX.out⟩
  · have e1 : decide (0 ≤ p) = false := by simp; omega
    go_enter Try.func40, Try.ntmps40
    go_wp2
    go_ret
    exact ⟨fin _ (by rw [e1]; simp), BX.out⟩

end Go.Proofs.Ytkiafelpgcmifaa
