/-
  The walk of clerestorylaw01.awake: the chapter's example is as it must be.
-/
import Derived.Test.YtapnakcoanjfgaaSame
namespace Go.Proofs.Ytapnakcoanjfgaa
open Go.RowKit Go.Shelf

theorem RowAt.of_owns {W W' : World} {B : Nat} {v : Value} {L : List (List UInt8)} (h : W.ownsRow B 9 1 v L.length (L.map txtV)) (hb : Below W.heap.size W W') : RowAt W' v L := by
  rcases h.2 with ⟨rfl, h0⟩ | ⟨g, cap, cur, rfl, h1, hg, h2, h3, h4, h5⟩
  · exact .inl ⟨List.length_eq_zero_iff.1 h0, none, 0, rfl⟩
  · refine .inr ⟨g, 0, cap, rfl, fun j x hx => ?_⟩
    have hlt : g < W.heap.size := (Array.getElem?_eq_some_iff.1 hg).1
    have := h.cells (g := g) rfl j (.string (Ln.bs x)) (by rw [List.getElem?_map, hx]; rfl)
    rw [Nat.zero_add, hb.cell (p := ⟨g, j, none⟩) hlt]
    have ha : (⟨g, 0, none⟩ : Addr).add j = ⟨g, j, none⟩ := by cases j <;> simp [Addr.add]
    rwa [ha] at this

def awS : ByteArray := ⟨#[97, 10, 10, 98]⟩
theorem aw_split : Ln.splitL awS.data.toList = [[97, 10], [10], [98]] := by decide
theorem aw_cnt : Ln.cntL (awS.data.toList.take (min (max 3 0) (awS.size : Int)).toNat) = 2 := by decide
theorem aw_col : Ln.colL (awS.data.toList.take (min (max 3 0) (awS.size : Int)).toNat) = 0 := by decide
theorem aw_at : ¬ (0 ≤ (1 : Int) ∧ 0 ≤ (1 : Int) ∧ Ln.atOk awS.data.toList (1 : Int).toNat (1 : Int).toNat) := by
  unfold Ln.atOk; decide
theorem aw_b1 : Ln.behindL awS.data.toList (1 : Int).toNat = 2 := by decide
theorem aw_b3 : Ln.behindL awS.data.toList (3 : Int).toNat = 4 := by decide

theorem split_aw (w : World) : Calls Try.prog 16 #[.string ⟨#[97, 10, 10, 98]⟩] w fun e W' => ∃ v, e = .returned v ∧ W'.ownsRow w.heap.size 9 1 v 3 ([[97, 10], [10], [98]].map txtV) ∧ Below w.heap.size w W' := by
  have h := split_any awS (by decide) w
  rw [aw_split] at h
  exact h
theorem place_aw (w : World) : Calls Try.prog 9 #[.string ⟨#[97, 10, 10, 98]⟩, .int .i64 3] w fun e W' => e = .returned (.tuple #[.int .i64 2, .int .i64 0]) ∧ Below w.heap.size w W' := by
  have h := place_any awS (by decide) 3 w
  rw [aw_cnt, aw_col] at h
  exact h
theorem at_aw (w : World) : Calls Try.prog 11 #[.string ⟨#[97, 10, 10, 98]⟩, .int .i64 1, .int .i64 1] w fun e W' => e = .returned (.tuple #[.int .i64 0, .int .i64 6]) ∧ Below w.heap.size w W' :=
  at_no awS (by decide) 1 1 (by decide) (by decide) w aw_at
theorem span_aw (w : World) : Calls Try.prog 13 #[.string ⟨#[97, 10, 10, 98]⟩, .int .i64 1, .int .i64 3] w fun e W' => e = .returned (.tuple #[.agg #[.int .i64 2, .int .i64 4], .int .i64 0]) ∧ Below w.heap.size w W' := by
  have h := span_yes awS (by decide) 1 3 (by decide) (by decide) (by rw [aw_split]; decide) w
  rw [aw_b1, aw_b3] at h
  exact h

set_option maxRecDepth 100000 in
set_option maxHeartbeats 1000000 in
theorem awake_any (w : World) : Calls Try.prog 8 #[] w fun e W' => e = .returned (.bool true) ∧ Below w.heap.size w W' := by
  go_enter Try.func8, Try.ntmps8
  go_wp2_with fail
  refine (split_aw _).mono ?_
  rintro e w1 ⟨v, rfl, hown, hb1⟩
  obtain ⟨g, cap, rfl⟩ := ownsRow_succ hown
  go_wp2_with fail
  refine (place_aw _).mono ?_
  rintro e w2 ⟨rfl, hb2⟩
  go_wp2_with fail
  refine (at_aw _).mono ?_
  rintro e w3 ⟨rfl, hb3⟩
  go_wp2_with fail
  refine (span_aw _).mono ?_
  rintro e w4 ⟨rfl, hb4⟩
  go_wp2_with fail
  obtain ⟨X, hX⟩ : ∃ X, X = (w4.alloc (Obj.cells #[Value.int IntKind.i64 2, Value.int IntKind.i64 4] 29)).alloc (Obj.cells #[Value.string { data := #[97, 10] }, Value.string { data := #[10] }, Value.string { data := #[98] }] 9) := ⟨_, rfl⟩
  have e1 : Below w1.heap.size w1 w4 := (hb2.trans (hb3.mono hb2.size)).trans (hb4.mono (Nat.le_trans hb2.size hb3.size))
  have e2 : Below w4.heap.size w4 X := by rw [hX]; exact ((Below.refl _ w4).alloc (Nat.le_refl _) _).alloc (by simp) _
  have r1 : RowAt X (Value.slice (some { block := g, off := 0 }) 3 cap) [[97, 10], [10], [98]] := RowAt.of_owns (W := w1) hown (e1.trans (e2.mono e1.size))
  have hn : X.heap[w4.heap.size + 1]? = some (.cells #[Value.string { data := #[97, 10] }, Value.string { data := #[10] }, Value.string { data := #[98] }] 9 (0, 0)) := by
    rw [hX]; have := World.alloc_heap_new (w4.alloc (Obj.cells #[Value.int IntKind.i64 2, Value.int IntKind.i64 4] 29)) (Obj.cells #[Value.string { data := #[97, 10] }, Value.string { data := #[10] }, Value.string { data := #[98] }] 9)
    rwa [World.size_alloc] at this
  have r2 : RowAt X (Value.slice (some { block := w4.heap.size + 1, off := 0 }) 3 3) [[97, 10], [10], [98]] := by
    refine .inr ⟨w4.heap.size + 1, 0, 3, rfl, fun j x hx => ?_⟩
    rw [Lib.cell_of_heap hn]
    match j, hx with
    | 0, hx => simp at hx; subst hx; rfl
    | 1, hx => simp at hx; subst hx; rfl
    | 2, hx => simp at hx; subst hx; rfl
    | j + 3, hx => simp at hx
  have hm : X.heap[w4.heap.size]? = some (.cells #[Value.int IntKind.i64 2, Value.int IntKind.i64 4] 29 (0, 0)) := by
    rw [hX]; exact (Below.heap_alloc _ _ _ (by simp)).trans (World.alloc_heap_new w4 _)
  have c0 : X.cell? ⟨w4.heap.size, 0, none⟩ = some (.int .i64 2) := by rw [Lib.cell_of_heap hm]; rfl
  have c1 : X.cell? ⟨w4.heap.size, 1, none⟩ = some (.int .i64 4) := by rw [Lib.cell_of_heap hm]; rfl
  have hB : Below w.heap.size w X := (hb1.trans (e1.mono hb1.size)).trans (e2.mono (Nat.le_trans hb1.size e1.size))
  rw [← hX]
  clear hX hn hm hown hb1 hb2 hb3 hb4 e1 e2
  refine (same_any X _ _ _ _ r1 r2 (by decide) (by decide)).mono ?_
  rintro e w5 ⟨rfl, k, rfl⟩
  clear r1 r2
  go_wp2
  go_ret
  exact ⟨rfl, below_drewN hB k⟩

end Go.Proofs.Ytapnakcoanjfgaa
