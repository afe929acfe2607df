/-
  The walk of (shift.moved).told: the hunk where it is moved to, in new memory.
-/
import Derived.Test.YtflnakjffgobmaaShWrong
import Derived.Test.YtflnakjffgobmaaHnCopy
namespace Go.Proofs.Ytflnakjffgobmaa
open Go.RowKit Go.Shelf

attribute [local go_sem] Oper.semAt_some

/-- The blocks in which lines of hunks lie. -/
def bla (xs : List HA) : List Nat := (xs.flatMap fun x => [x.vo, x.vn]).filterMap Value.ownBlock
/-- A hunk that goes on by so many lines. -/
def movV (x : HA) (d : Int) : Value := .agg #[.int .i64 x.at_, x.vo, x.vn, .int .i64 d]
/-- Its lines are such as a machine holds. -/
def HA.Thin (x : HA) : Prop := (∀ s ∈ x.old, s.length ≤ 281474976710656) ∧ ∀ s ∈ x.new, s.length ≤ 281474976710656

/-- A hunk's variable, written. -/
theorem set_three {w : World} {b : Nat} {x y z : Value} (hr : w.heap[b]? = some (.cells #[x, y, z] 41 (0, 0))) (u0 u1 u2 : Value) : ∃ Z, Z = ((w.setCell ⟨b, 0, none⟩ u0).setCell ⟨b, 1, none⟩ u1).setCell ⟨b, 2, none⟩ u2 ∧ Z.heap[b]? = some (.cells #[u0, u1, u2] 41 (0, 0)) ∧ w.grownBy Z (some b) ∧ ∀ (B n : Nat) (v : Value) (xs : List Value), w.ownsRow B 9 1 v n xs → Z.ownsRow B 9 1 v n xs := by
  have h1 := heap_setCell_same w b 0 _ 41 u0 hr
  have h2 := heap_setCell_same _ b 1 _ 41 u1 h1
  refine ⟨_, rfl, three_cells hr u0 u1 u2, grown_join (grown_join (grown_set w _ 0 _) (grown_set _ _ 1 _) (fun j hj => .inl hj)) (grown_set _ _ 2 _) (fun j hj => .inl hj), fun B n v xs h => ?_⟩
  exact owns_set (owns_set (owns_set h hr (by decide) 0 u0) h1 (by decide) 1 u1) h2 (by decide) 2 u2
theorem nodup_two {v u : Value} (n : Nat) (h1 : ∀ b, v.ownBlock = some b → b < n) (h2 : ∀ b, u.ownBlock = some b → n ≤ b) : ([u, v].filterMap Value.ownBlock).Nodup := by
  cases hv : v.ownBlock with
  | none => cases hu : u.ownBlock <;> simp [hv, hu]
  | some b =>
    cases hu : u.ownBlock with
    | none => simp [hv, hu]
    | some c =>
      have := h1 b hv
      have := h2 c hu
      simp [hv, hu]
      omega

set_option maxRecDepth 100000 in
set_option maxHeartbeats 4000000 in
theorem told_any (x : HA) (d : Int) (m : Nat) (w : World) (hx : x.Low m w) (hm : m ≤ w.heap.size) (hs : x.Small) (ht : x.Thin) (hd : -9223372036854775808 ≤ x.at_ + d ∧ x.at_ + d ≤ 9223372036854775807) :
    Calls Try.prog 93 #[movV x d] w fun e w' => ∃ y : HA, e = .returned y.val ∧ y.h = Hn.moved x.h d ∧ y.Ok w.heap.size w' ∧ (bla [y]).Nodup ∧ Below w.heap.size w w' := by
  obtain ⟨p, vo, vn, L1, L2⟩ := x
  obtain ⟨d1, d2⟩ := hd
  simp only at d1 d2
  obtain ⟨X, hX⟩ : ∃ X, X = (w.alloc (.cells #[.int .i64 p, vo, vn, .int .i64 d] 84)).alloc (.cells #[.int .i64 0, .slice none 0 0, .slice none 0 0] 41) := ⟨_, rfl⟩
  have bX : Below w.heap.size w X := by rw [hX]; exact (below_nw w _).alloc (by simp) _
  have sX : X.heap.size = w.heap.size + 1 + 1 := by rw [hX]; simp
  have IV : Hid (_) := invert_any ⟨p, vo, vn, L1, L2⟩ m X (hx.below bX hm) (Nat.le_trans hm bX.size) hs ht.1 ht.2
  have hXh : X.heap[w.heap.size]? = some (.cells #[.int .i64 p, vo, vn, .int .i64 d] 84 (0, 0)) := by
    rw [hX]; exact ((below_nw (w.alloc (.cells #[.int .i64 p, vo, vn, .int .i64 d] 84)) _).block _ (by simp)).trans (World.alloc_heap_new w _)
  have hXr : X.heap[w.heap.size + 1]? = some (.cells #[.int .i64 0, .slice none 0 0, .slice none 0 0] 41 (0, 0)) := by
    have h := World.alloc_heap_new (w.alloc (.cells #[.int .i64 p, vo, vn, .int .i64 d] 84)) (.cells #[.int .i64 0, .slice none 0 0, .slice none 0 0] 41)
    rw [World.size_alloc] at h
    rw [hX]; exact h
  have HXH : Hid (_) := hXh
  have HXR : Hid (_) := hXr
  have BX : Hid (Below w.heap.size w X) := bX
  have SX : Hid (X.heap.size = w.heap.size + 1 + 1) := sX
  obtain ⟨a1, c1, b1, o1, e1, -, -, -⟩ := hx.1.parts
  obtain ⟨a2, c2, b2, o2, e2, -, -, -⟩ := hx.2.parts
  simp only at e1 e2
  subst e1 e2
  clear hx bX hXh hXr sX
  simp only [HA.val, HA.h, movV] at IV hX ⊢
  go_enter Try.func93, Try.ntmps93
  go_wp2_with fail
  rw [← hX]
  refine Calls.mono IV.out ?_
  rintro e w1 ⟨r1, r2, n1, rfl, q1, q2, hn1, hlt, bw1⟩
  obtain ⟨ra, rc, rfl⟩ := slice_shape q1
  obtain ⟨sa, sc, rfl⟩ := slice_shape q2
  have h0 : w1.heap[w.heap.size]? = some (.cells #[.int .i64 p, .slice a1 L1.length c1, .slice a2 L2.length c2, .int .i64 d] 84 (0, 0)) := (bw1.block _ (by have := SX.out; omega)).trans HXH.out
  have hr : w1.heap[w.heap.size + 1]? = some (.cells #[.int .i64 0, .slice none 0 0, .slice none 0 0] 41 (0, 0)) := (bw1.block _ (by have := SX.out; omega)).trans HXR.out
  have y0 : w1.cell? ⟨w.heap.size, 0, none⟩ = some (.int .i64 p) := by rw [Lib.cell_of_heap h0]; rfl
  have y3 : w1.cell? ⟨w.heap.size, 3, none⟩ = some (.int .i64 d) := by rw [Lib.cell_of_heap h0]; rfl
  have z0 : w1.cell? ⟨w.heap.size + 1, 0, none⟩ = some (.int .i64 0) := by rw [Lib.cell_of_heap hr]; rfl
  have z1 : w1.cell? ⟨w.heap.size + 1, 1, none⟩ = some (.slice none 0 0) := by rw [Lib.cell_of_heap hr]; rfl
  have z2 : w1.cell? ⟨w.heap.size + 1, 2, none⟩ = some (.slice none 0 0) := by rw [Lib.cell_of_heap hr]; rfl
  have fz : ∀ j, w1.frozen? ⟨w.heap.size + 1, j, none⟩ = false := fun j => frozen_of_row w1 _ j _ _ hr
  have hwr : IntKind.i64.wrap (p + d) = p + d := by rw [IntKind.wrap_i64]; omega
  have n0 : w.heap.size < w1.heap.size := by have := SX.out; have := bw1.size; omega
  have n2 : w.heap.size + 1 < w1.heap.size := by have := SX.out; have := bw1.size; omega
  have Q1 : Hid (_) := q1
  have Q2 : Hid (_) := q2
  have BW1 : Hid (_) := bw1
  have HR : Hid (_) := hr
  clear q1 q2 bw1 h0 hr
  go_wp2
  obtain ⟨Z, hZ, zh, zg, zo⟩ := set_three HR.out (.int .i64 (p + d)) (.slice sa L1.length sc) (.slice ra L2.length rc)
  rw [← hZ]
  have bZ : Below w.heap.size w Z := BX.out.trans ((BW1.out.mono BX.out.size).trans ⟨zg.os, zg.tape, zg.output, zg.size, fun j hj => zg.block j (by omega) (fun e => by cases e; omega)⟩)
  have zc : ∀ (j : Nat), j < 3 → (Z.alloc (.cells #[.int .i64 p, .slice ra L2.length rc, .slice sa L1.length sc] 41)).cell? ⟨w.heap.size + 1, j, none⟩ = #[Value.int .i64 (p + d), .slice sa L1.length sc, .slice ra L2.length rc][j]? := fun j _ => by
    have h := ((below_nw Z (.cells #[.int .i64 p, .slice ra L2.length rc, .slice sa L1.length sc] 41)).block _ (Array.getElem?_eq_some_iff.1 zh).1).trans zh
    rw [Lib.cell_of_heap h]
  have y0' := zc 0 (by omega)
  have y1' := zc 1 (by omega)
  have y2' := zc 2 (by omega)
  simp at y0' y1' y2'
  refine bodyPost_ret (v := .agg #[.int .i64 (p + d), .slice sa L1.length sc, .slice ra L2.length rc]) (by simp [results, Try.results93, go_sem, y0', y1', y2']) rfl ⟨⟨p + d, .slice sa L1.length sc, .slice ra L2.length rc, L1, L2⟩, rfl, rfl, ?_, ?_, ?_⟩
  · have hsz := SX.out
    exact ⟨owns_below (owns_base (zo _ _ _ _ Q2.out) (by omega)) (below_nw Z _), owns_below (owns_base (zo _ _ _ _ Q1.out) (by omega)) (below_nw Z _)⟩
  · exact nodup_two n1 hlt (fun b hb => (World.ownsRow.lt Q2.out b hb).1)
  · exact below_then bZ (below_nw Z _)

end Go.Proofs.Ytflnakjffgobmaa
