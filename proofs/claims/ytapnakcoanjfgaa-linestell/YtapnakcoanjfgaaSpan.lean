/-
  The walks of lines.Span and clerestorykit.SameTexts.
-/
import Derived.Test.YtapnakcoanjfgaaAt
namespace Go.Proofs.Ytapnakcoanjfgaa
open Go.RowKit Go.Shelf

def spanV (a b e : Int) : Value := .tuple #[.agg #[.int .i64 a, .int .i64 b], .int .i64 e]

set_option maxRecDepth 100000 in
set_option maxHeartbeats 1000000 in
theorem span_no1 (s : ByteArray) (n m : Int) (w : World) (h : m < n) :
    Calls Try.prog 13 #[.string s, .int .i64 n, .int .i64 m] w fun e W' => e = .returned (spanV 0 0 2) ∧ Below w.heap.size w W' := by
  go_enter Try.func13, Try.ntmps13
  go_wp2
  exact bodyPost_ret (v := spanV 0 0 2) (by simp [results, Try.results13, go_sem, spanV]) rfl ⟨rfl, (Below.refl _ _).alloc (Nat.le_refl _) _⟩

theorem bcell {W w1 : World} (hb : Below W.heap.size W w1) : (∀ b o, b < W.heap.size → w1.cell? ⟨b, o, none⟩ = W.cell? ⟨b, o, none⟩) ∧ (∀ b o, b < W.heap.size → w1.frozen? ⟨b, o, none⟩ = W.frozen? ⟨b, o, none⟩) :=
  ⟨fun b o h => hb.cell (p := ⟨b, o, none⟩) h, fun b o h => hb.frozen (p := ⟨b, o, none⟩) h⟩

theorem two_new {w w1 w2 : World} {a b : Value} {t : TypeId} (hb1 : Below (w.alloc (Obj.cells #[a, b] t)).heap.size (w.alloc (Obj.cells #[a, b] t)) w1) (hb2 : Below w1.heap.size w1 w2) :
    w.heap.size < w1.heap.size ∧ w2.cell? ⟨w.heap.size, 0, none⟩ = some a ∧ w2.cell? ⟨w.heap.size, 1, none⟩ = some b ∧ w2.frozen? ⟨w.heap.size, 0, none⟩ = false ∧ w2.frozen? ⟨w.heap.size, 1, none⟩ = false := by
  have hlt : w.heap.size < w1.heap.size := by have := hb1.size; simp at this; omega
  have h1 : w2.heap[w.heap.size]? = some (.cells #[a, b] t (0, 0)) := (hb2.block _ hlt).trans ((hb1.block _ (by simp)).trans (World.alloc_heap_new w _))
  refine ⟨hlt, ?_, ?_, Lib.frozen_of_heap h1 0, Lib.frozen_of_heap h1 1⟩
  · rw [Lib.cell_of_heap h1]; rfl
  · rw [Lib.cell_of_heap h1]; rfl
theorem two_below {w w1 w2 : World} {o : Obj} (hb1 : Below (w.alloc o).heap.size (w.alloc o) w1) (hb2 : Below w1.heap.size w1 w2) (u v : Value) :
    Below w.heap.size w ((w2.setCell ⟨w.heap.size, 0, none⟩ u).setCell ⟨w.heap.size, 1, none⟩ v) := by
  have hlt : w.heap.size < w1.heap.size := by have := hb1.size; simp at this; omega
  exact (((((Below.refl _ w).alloc (Nat.le_refl _) _).trans (hb1.mono (by simp))).trans (hb2.mono (by omega))).setCell (p := ⟨w.heap.size, 0, none⟩) (Nat.le_refl _) _).setCell (p := ⟨w.heap.size, 1, none⟩) (Nat.le_refl _) _

set_option maxRecDepth 100000 in
set_option maxHeartbeats 1000000 in
theorem span_in (s : ByteArray) (hs : s.size ≤ 4398046511104) (n m : Int) (hn0 : -9223372036854775808 ≤ n) (hm1 : m ≤ 9223372036854775807) (w : World) (h : n ≤ m) :
    Calls Try.prog 13 #[.string s, .int .i64 n, .int .i64 m] w fun e W' => e = .returned (if behB s.data.toList n && behB s.data.toList m then spanV (Ln.behindL s.data.toList n.toNat) (Ln.behindL s.data.toList m.toNat) 0 else spanV 0 0 2) ∧ Below w.heap.size w W' := by
  cases h1 : behB s.data.toList n with
  | false =>
    have H1 : Hid (behB s.data.toList n = false) := h1
    clear h1
    have hn : (false && behB s.data.toList m) = false := rfl
    rw [hn]
    go_enter Try.func13, Try.ntmps13
    go_wp2_with fail
    refine (behind_any s hs n hn0 (by omega) _).mono ?_
    rintro e w1 ⟨rfl, hb1⟩
    rw [H1.out]
    go_wp2_with fail
    refine (behind_any s hs m (by omega) hm1 _).mono ?_
    rintro e w2 ⟨rfl, hb2⟩
    skip
    obtain ⟨hlt, c0, c1, f0, f1⟩ := two_new hb1 hb2
    go_wp2
    exact bodyPost_ret (v := spanV 0 0 2) (by simp [results, Try.results13, go_sem, spanV, c0, c1]) rfl ⟨by simp, two_below hb1 hb2 _ _⟩
  | true =>
    have H1 : Hid (behB s.data.toList n = true) := h1
    clear h1
    cases h2 : behB s.data.toList m with
    | false =>
      have H2 : Hid (behB s.data.toList m = false) := h2
      clear h2
      go_enter Try.func13, Try.ntmps13
      go_wp2_with fail
      refine (behind_any s hs n hn0 (by omega) _).mono ?_
      rintro e w1 ⟨rfl, hb1⟩
      rw [H1.out]
      go_wp2_with fail
      refine (behind_any s hs m (by omega) hm1 _).mono ?_
      rintro e w2 ⟨rfl, hb2⟩
      rw [H2.out]
      obtain ⟨hlt, c0, c1, f0, f1⟩ := two_new hb1 hb2
      go_wp2
      exact bodyPost_ret (v := spanV 0 0 2) (by simp [results, Try.results13, go_sem, spanV, c0, c1]) rfl ⟨by simp, two_below hb1 hb2 _ _⟩
    | true =>
      have H2 : Hid (behB s.data.toList m = true) := h2
      clear h2
      go_enter Try.func13, Try.ntmps13
      go_wp2_with fail
      refine (behind_any s hs n hn0 (by omega) _).mono ?_
      rintro e w1 ⟨rfl, hb1⟩
      rw [H1.out]
      go_wp2_with fail
      refine (behind_any s hs m (by omega) hm1 _).mono ?_
      rintro e w2 ⟨rfl, hb2⟩
      rw [H2.out]
      obtain ⟨hlt, c0, c1, f0, f1⟩ := two_new hb1 hb2
      go_wp2
      exact bodyPost_ret (v := spanV (Ln.behindL s.data.toList n.toNat) (Ln.behindL s.data.toList m.toNat) 0) (by simp [results, Try.results13, go_sem, spanV, c0, c1]) rfl ⟨by simp, two_below hb1 hb2 _ _⟩

theorem span_yes (s : ByteArray) (hs : s.size ≤ 4398046511104) (n m : Int) (hn0 : 0 ≤ n) (h : n ≤ m) (h2 : m ≤ (Ln.splitL s.data.toList).length) (w : World) :
    Calls Try.prog 13 #[.string s, .int .i64 n, .int .i64 m] w fun e W' => e = .returned (spanV (Ln.behindL s.data.toList n.toNat) (Ln.behindL s.data.toList m.toNat) 0) ∧ Below w.heap.size w W' := by
  have hl := Ln.splitL_len s.data.toList
  have h3 : s.data.toList.length = s.size := rfl
  have := span_in s hs n m (by omega) (by omega) w h
  rwa [(behB_iff _ n).2 ⟨hn0, by omega⟩, (behB_iff _ m).2 ⟨by omega, h2⟩, if_pos (by rfl)] at this
theorem span_no (s : ByteArray) (hs : s.size ≤ 4398046511104) (n m : Int) (hn0 : -9223372036854775808 ≤ n) (hm1 : m ≤ 9223372036854775807) (h : ¬ (0 ≤ n ∧ n ≤ m ∧ m ≤ (Ln.splitL s.data.toList).length)) (w : World) :
    Calls Try.prog 13 #[.string s, .int .i64 n, .int .i64 m] w fun e W' => e = .returned (spanV 0 0 2) ∧ Below w.heap.size w W' := by
  by_cases hnm : n ≤ m
  · have := span_in s hs n m hn0 hm1 w hnm
    rwa [if_neg (by
      intro hb
      rw [Bool.and_eq_true, behB_iff, behB_iff] at hb
      exact h ⟨hb.1.1, hnm, hb.2.2⟩)] at this
  · exact span_no1 s n m w (by omega)

end Go.Proofs.Ytapnakcoanjfgaa
