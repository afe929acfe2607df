/-
  The walk of lines.Split: a row of strings of its own, the lines of the text; nothing that lay has turned.
-/
import Derived.Test.YtapnakcoanjfgaaSeq
namespace Go.Proofs.Ytapnakcoanjfgaa
open Go.RowKit Go.Shelf

attribute [local go_sem] Oper.semAt_some

def strV (x : Str) : Value := .string x.1

set_option maxRecDepth 100000 in
set_option maxHeartbeats 2000000 in
theorem split_xs (s : ByteArray) (hs : s.size ≤ 4398046511104) (xs : List Str) (hx : vals xs = (Ln.splitL s.data.toList).map Ln.bs) (w : World) :
    Calls Try.prog 16 #[.string s] w fun e W' => ∃ v, e = .returned v ∧ W'.ownsRow w.heap.size 9 1 v xs.length (xs.map strV) ∧ Below w.heap.size w W' := by
  have hs1 : s.size ≤ maxLen := by unfold maxLen; omega
  have hlen : xs.length ≤ 4398046511104 := by
    have h1 := congrArg List.length hx
    unfold vals at h1
    rw [List.length_map, List.length_map] at h1
    have h2 := Ln.splitL_len s.data.toList
    have h3 : s.data.toList.length = s.size := rfl
    omega
  obtain ⟨i0, hi, hz0, hz1, hz2⟩ := info_parts info9
  refine (callsIn_wide (n := 3)).1 ?_
  refine callsIn_of_wp_marks Try.func16 rfl trivial ?_ rfl
  simp only [Try.ntmps16, List.size_toArray, List.length_cons, List.length_nil, Nat.reduceAdd, Nat.reduceSub, Array.replicate_succ, Array.replicate_zero, List.push_toArray, List.append_toArray, List.nil_append, List.cons_append]
  gi_wp2_with (first
    | (refine ⟨trivial, ?_⟩; gi_at_call 27; refine (callsIn_wide.2 (clone27 _ _ (by omega))).mono ?_; rintro e w1 ⟨rfl, hb1⟩)
    | (refine ⟨trivial, ?_⟩; gi_at_call 23; refine (each_in _ _ _).mono ?_; rintro e w' ⟨rfl, rfl⟩))
  have bO : Boxed w1 w.heap.size 33 (.slice none 0 0) := (hb1.block w.heap.size (by simp)).trans (Boxed.new w 33 (.slice none 0 0))
  have bN := Boxed.new w1 9 (.string s)
  have hB1 : Below w.heap.size w w1 := ((Below.refl _ w).alloc (Nat.le_refl _) _).trans (hb1.mono (by simp))
  have hsz : w.heap.size < w1.heap.size := by have := hb1.size; simp at this; omega
  have hB0 : Below w.heap.size w (w1.alloc (.cells #[.string s] 9)) := hB1.alloc (by omega) _
  refine wpIn_rangeFunc_ownG rfl (by omega) (gf := 31) (lb := #[.pointer (some ⟨w1.heap.size, 0, none⟩)]) rfl trivial (enters_of Try.func31 (by kernel_rfl) rfl)
    (each_stops (3 - 1) (by omega) w1.heap.size w.heap.size s hs1 xs hx _ (by simp) bN.cell) belowK_t (belowK_b (by simp; omega)) (Below.refl _ _) (fun _ => rfl)
    (fun pre W => (∃ v, Boxed W w.heap.size 33 v ∧ W.ownsRow w.heap.size 9 1 v pre.length (pre.map strV) ∧ True) ∧ Below w.heap.size w W)
    (fun _ _ _ => False)
    (OwnFrom.and (Own.from (holdsRow_own w.heap.size w.heap.size 33 9 1 (fun pre : List Str => pre.length) (fun pre : List Str => pre.map strV) (fun _ _ => True)) _) (ownFrom_below (Nat.le_refl _) (by simp; omega)))
    (fun _ _ _ _ _ hs _ _ => hs)
    ⟨⟨_, bO.alloc _, World.ownsRow_nil _ _ _ _, trivial⟩, hB0⟩
    (fun x => { tmps := #[.string s, undef, .slice none 0 0, .pointer (some ⟨w.heap.size, 0, none⟩), .string x.1, .string s, .string s, .func (.func 31) #[] #[.pointer (some ⟨w1.heap.size, 0, none⟩)], .string x.1, undef, undef, undef, undef, undef], defers := [] }) ?assign ?body ?done ?stop
  case assign =>
    intro l x W K hK
    gi_wp2
    exact hK
  case body =>
    rintro l pre x W ⟨⟨v, hv, hrow, -⟩, hB⟩ hlt
    have hc := hv.cell
    gi_wp2_with (gi_at_builtin; refine wpListIn_append_own _ rfl _ _ 33 rfl w.heap.size 9 i0 (.string ⟨#[]⟩) 1 16 Try.underlying33 hi hz0 hz1 hz2 rfl (by decide) _ _ _ rfl (hrow.alloc _) ⟨W.heap.size, 0, none⟩ 1 1 [.string x.1] rfl rfl (cell_one_new _ _ _) (by simp [Value.oneCell']) (by unfold maxLen; omega) (by omega) (by have := hB.size; simp; omega) ?_; intro v' w1 hown' hgrow _; obtain ⟨g', cap', rfl⟩ := ownsRow_succ hown'; obtain ⟨hv1, hv2, hr2, hk2, hb2⟩ := hv.appended (by decide) hrow hB.size (Nat.le_refl _) hown' hgrow; have hc1 := hv1.cell; have hf1 := hv1.frozen)
    exact ⟨hk2.from _, hb2, ⟨_, hv2, by simpa [strV] using hr2, trivial⟩, hB.trans hb2⟩
  case done =>
    rintro D ys W hD rfl ⟨⟨v, hv, hrow, -⟩, hB⟩ hK
    have hc := hv.cell
    gi_wp2
    refine ⟨by simp, .inl ⟨_, _, rfl, run_takeDeferred hK, ?_⟩⟩
    exact ⟨_, results_tmp rfl _ _ _, v, rfl, ownsRow_putObj hrow _ hK rfl, hB.trans (belowK_b (w := w) (Nat.le_refl _) W D _ _ (by simp at hD; omega) hK rfl rfl)⟩
  case stop =>
    rintro D c pre W _ _ h _
    exact h.elim

/-- The cells of a row of texts. -/
def txtV (l : List UInt8) : Value := .string (Ln.bs l)

theorem split_any (s : ByteArray) (hs : s.size ≤ 4398046511104) (w : World) :
    Calls Try.prog 16 #[.string s] w fun e W' => ∃ v, e = .returned v ∧ W'.ownsRow w.heap.size 9 1 v (Ln.splitL s.data.toList).length ((Ln.splitL s.data.toList).map txtV) ∧ Below w.heap.size w W' := by
  obtain ⟨xs, hx⟩ := lines_str s (by unfold maxLen; omega)
  have h1 : xs.length = (Ln.splitL s.data.toList).length := by
    have h1 := congrArg List.length hx
    unfold vals at h1
    rwa [List.length_map, List.length_map] at h1
  have h2 : xs.map strV = (Ln.splitL s.data.toList).map txtV := by
    have h2 := congrArg (List.map Value.string) hx
    unfold vals at h2
    rw [List.map_map, List.map_map] at h2
    exact h2
  rw [← h1, ← h2]
  exact split_xs s hs xs hx w

end Go.Proofs.Ytapnakcoanjfgaa
