/-
  Marked hunks.
-/
import Derived.Test.YtkiafelpgcmifaaFlatBase
import Derived.Test.YtkiafelpgcmifaaSameHunk
namespace Go.Proofs.Ytkiafelpgcmifaa
open Go.RowKit Go.Shelf

attribute [local go_sem] Oper.semAt_some

/-- The number of the mark at place i of list k. -/
def mn (k i : Nat) : Nat := 1000003 * (k + 7) + i
/-- The marked hunk. -/
def mkH (k i : Nat) : Value := .agg #[.int .i64 (mn k i : Nat), .slice none 0 0, .slice none 0 0]
def mcH (k i : Nat) : List Value := [.int .i64 (mn k i : Nat), .slice none 0 0, .slice none 0 0]
/-- The mark as a hunk that is read. -/
def hvH (k i : Nat) : HV := ⟨mn k i, .slice none 0 0, .slice none 0 0, [], []⟩
theorem rowLow_nil (m : Nat) (w : World) : RowLow m w (.slice none 0 0) [] := ⟨none, 0, 0, 0, rfl, ⟨Nat.le_refl _, fun _ => rfl⟩, fun h => absurd h (by decide), fun j x h => by simp at h⟩
theorem hvH_low (k i m : Nat) (w : World) : (hvH k i).Low m w := ⟨rowLow_nil m w, rowLow_nil m w⟩

theorem take_set3 {α : Type} (xs : List α) (i : Nat) (x y z : α) (h : i * 3 + 3 ≤ xs.length) : (((xs.set (i * 3) x).set (i * 3 + 1) y).set (i * 3 + 2) z).take ((i + 1) * 3) = xs.take (i * 3) ++ [x, y, z] := by
  have e1 := take_set_succ xs (i * 3) x (by omega)
  have e2 := take_set_succ (xs.set (i * 3) x) (i * 3 + 1) y (by simp; omega)
  have e3 := take_set_succ ((xs.set (i * 3) x).set (i * 3 + 1) y) (i * 3 + 2) z (by simp; omega)
  rw [show (i + 1) * 3 = i * 3 + 2 + 1 by omega, e3, e2, e1]
  simp

/-- A hunk was stored in a row of hunks. -/
theorem stored3 {w : World} {base e g n cap : Nat} {xs : List Value} (h : w.ownsRow base e 3 (.slice (some ⟨g, 0, none⟩) n cap) n xs) (i : Nat) (a b c : Value) :
    (((w.setCell ⟨g, i * 3, none⟩ a).setCell ⟨g, i * 3 + 1, none⟩ b).setCell ⟨g, i * 3 + 2, none⟩ c).ownsRow base e 3 (.slice (some ⟨g, 0, none⟩) n cap) n (((xs.set (i * 3) a).set (i * 3 + 1) b).set (i * 3 + 2) c) ∧
      w.grownBy (((w.setCell ⟨g, i * 3, none⟩ a).setCell ⟨g, i * 3 + 1, none⟩ b).setCell ⟨g, i * 3 + 2, none⟩ c) (some g) := by
  obtain ⟨h1, g1⟩ := h.stored (i * 3) a
  obtain ⟨h2, g2⟩ := h1.stored (i * 3 + 1) b
  obtain ⟨h3, g3⟩ := h2.stored (i * 3 + 2) c
  exact ⟨h3, grown_join (grown_join g1 g2 (fun j hj => .inl hj)) g3 (fun j hj => .inl hj)⟩

/-- The three cells of a hunk's place, one by one. -/
theorem store_facts {w : World} {base e g n cap : Nat} {xs : List Value} (h : w.ownsRow base e 3 (.slice (some ⟨g, 0, none⟩) n cap) n xs) (i : Nat) (hi : i < n) (a b : Value) :
    ∃ u0 u1 u2, w.cell? ⟨g, i * 3, none⟩ = some u0 ∧ (w.setCell ⟨g, i * 3, none⟩ a).cell? ⟨g, i * 3 + 1, none⟩ = some u1 ∧ ((w.setCell ⟨g, i * 3, none⟩ a).setCell ⟨g, i * 3 + 1, none⟩ b).cell? ⟨g, i * 3 + 2, none⟩ = some u2 ∧
      w.frozen? ⟨g, i * 3, none⟩ = false ∧ w.frozen? ⟨g, i * 3 + 1, none⟩ = false ∧ w.frozen? ⟨g, i * 3 + 2, none⟩ = false := by
  obtain ⟨h1, -⟩ := h.stored (i * 3) a
  obtain ⟨h2, -⟩ := h1.stored (i * 3 + 1) b
  have hl := h.1
  have hl1 := h1.1
  have hl2 := h2.1
  exact ⟨_, _, _, (h.cellAt (i * 3) (by omega)).trans (List.getElem?_eq_getElem (by omega)), (h1.cellAt (i * 3 + 1) (by omega)).trans (List.getElem?_eq_getElem (by omega)), (h2.cellAt (i * 3 + 2) (by omega)).trans (List.getElem?_eq_getElem (by omega)), h.frozenAt _, h.frozenAt _, h.frozenAt _⟩

set_option maxRecDepth 100000 in
set_option maxHeartbeats 2000000 in
theorem markHunk_any (k i : Nat) (hk : k ≤ 1000000) (hi : i ≤ 10000000) (w : World) :
    Calls Try.prog 21 #[.int .i64 k, .int .i64 i] w fun e w' => e = .returned (.agg #[.int .i64 (mn k i : Nat), .slice none 0 0, .slice none 0 0]) ∧ Below w.heap.size w w' := by
  go_enter Try.func21, Try.ntmps21
  go_wp2
  have e1 : ((mn k i : Nat) : Int) = 1000003 * ((k : Int) + 7) + i := by unfold mn; omega
  refine bodyPost_ret (v := mkH k i) (by simp [results, Try.results21, go_sem, mkH, e1]) rfl ⟨rfl, (Below.refl _ w).alloc (Nat.le_refl _) _⟩

/-- What stands in the grown rows so far. -/
def GsOkH (X : World) (B : Nat) (R : List (Value × Nat)) (k : Nat) (gv : List Value) (W : World) : Prop :=
  ∀ (j : Nat) (p : Value × Nat), j < k → R[j]? = some p → ∃ gj, gv[j]? = some gj ∧ W.ownsRow B 40 3 gj (p.2 + 64) (mks mcH j (p.2 + 64)) ∧ (gj.ownBlock = p.1.ownBlock ∨ ∃ b, gj.ownBlock = some b ∧ X.heap.size ≤ b)
theorem mksH_len (k n : Nat) : (mks mcH k n).length = n * 3 := by
  induction n with
  | zero => rfl
  | succ n ih => rw [mks_succ, List.length_append, ih]; simp [mcH]; omega
theorem mksH_take (k n m : Nat) (h : n ≤ m) : (mks mcH k m).take (n * 3) = mks mcH k n := by
  induction m with
  | zero => have : n = 0 := by omega
            subst this; rfl
  | succ m ih =>
    by_cases e : n = m + 1
    · subst e; rw [List.take_of_length_le (by rw [mksH_len]; exact Nat.le_refl _)]
    · rw [mks_succ, List.take_append_of_le_length (by rw [mksH_len]; omega), ih (by omega)]

/-- What stands at the front of the rows grown at once, so far. -/
def GsFrH (X : World) (B : Nat) (R : List (Value × Nat)) (k : Nat) (gv : List Value) (W : World) : Prop :=
  ∀ (j : Nat) (p : Value × Nat), j < k → R[j]? = some p → ∃ gj ys, gv[j]? = some gj ∧ W.ownsRow B 40 3 gj (p.2 + 64) (mks mcH j p.2 ++ ys) ∧ (gj.ownBlock = p.1.ownBlock ∨ ∃ b, gj.ownBlock = some b ∧ X.heap.size ≤ b)
theorem mksH_get (k i n : Nat) (h : i < n) : (mks mcH k n)[i * 3]? = some (.int .i64 (mn k i : Nat)) ∧ (mks mcH k n)[i * 3 + 1]? = some (.slice none 0 0) ∧ (mks mcH k n)[i * 3 + 2]? = some (.slice none 0 0) := by
  induction n with
  | zero => omega
  | succ n ih =>
    rw [mks_succ]
    by_cases e : i < n
    · rw [List.getElem?_append_left (by rw [mksH_len]; omega), List.getElem?_append_left (by rw [mksH_len]; omega), List.getElem?_append_left (by rw [mksH_len]; omega)]; exact ih e
    · have : i = n := by omega
      subst this
      rw [List.getElem?_append_right (by rw [mksH_len]; omega), List.getElem?_append_right (by rw [mksH_len]; omega), List.getElem?_append_right (by rw [mksH_len]; omega), mksH_len, Nat.sub_self, Nat.add_sub_cancel_left, Nat.add_sub_cancel_left]; exact ⟨rfl, rfl, rfl⟩

/-- The cells of a marked hunk. -/
def Tri (W : World) (g i k : Nat) : Prop := W.cell? ⟨g, i * 3, none⟩ = some (.int .i64 (mn k i : Nat)) ∧ W.cell? ⟨g, i * 3 + 1, none⟩ = some (.slice none 0 0) ∧ W.cell? ⟨g, i * 3 + 2, none⟩ = some (.slice none 0 0)
theorem Tri.below {W W' : World} {g i k : Nat} (h : Tri W g i k) (hb : Below W.heap.size W W') : Tri W' g i k := by
  have hl : g < W.heap.size := by simpa using World.block_lt_of_cell? _ _ h.1
  exact ⟨(hb.cell (p := ⟨g, i * 3, none⟩) hl).trans h.1, (hb.cell (p := ⟨g, i * 3 + 1, none⟩) hl).trans h.2.1, (hb.cell (p := ⟨g, i * 3 + 2, none⟩) hl).trans h.2.2⟩
theorem tri_of {W : World} {B e g n cap i k : Nat} {xs : List Value} (h : W.ownsRow B e 3 (.slice (some ⟨g, 0, none⟩) n cap) n xs) (hx : xs[i * 3]? = some (.int .i64 (mn k i : Nat)) ∧ xs[i * 3 + 1]? = some (.slice none 0 0) ∧ xs[i * 3 + 2]? = some (.slice none 0 0)) (hi : i < n) : Tri W g i k :=
  ⟨(h.cellAt _ (by omega)).trans hx.1, (h.cellAt _ (by omega)).trans hx.2.1, (h.cellAt _ (by omega)).trans hx.2.2⟩
/-- Sixty-four hunks, not written yet. -/
def many0 : Array Value := madeCells #[.int .i64 0, .slice none 0 0, .slice none 0 0] (64 * 3)
theorem many_size : many0.size = 64 * 3 := by unfold many0; rw [size_madeCells]
theorem many_all : many0.toList.all Value.oneCell' = true := by kernel_rfl
theorem many_one : ∀ u ∈ many0.toList, u.oneCell' = true := List.all_eq_true.1 many_all
theorem make_many (w : World) : (Instr.makeSlice 23 (.int .i64 64) (.int .i64 64)).run Try.prog w = .ok (.slice (some ⟨w.heap.size, 0, none⟩) 64 64) (w.alloc (.cells many0 40)) := by
  obtain ⟨i0, hi, hz0, hz1, hz2⟩ := info_parts info40s
  have h := run_make (P := Try.prog) w 23 40 i0 _ Try.underlying23 hi hz0 .i64 .i64 64 64 (by omega) (by omega) (by rw [hz2]; decide) (by omega)
  rw [h, hz1]; rfl


theorem sameMark (k i : Nat) (w : World) : Calls Try.prog 28 #[.agg #[.int .i64 (mn k i : Nat), .slice none 0 0, .slice none 0 0], .agg #[.int .i64 (mn k i : Nat), .slice none 0 0, .slice none 0 0]] w fun e w' => e = .returned (.bool true) ∧ Below w.heap.size w w' :=
  sameHunk_yes (hvH k i) (hvH k i) 0 w (hvH_low k i 0 w) (hvH_low k i 0 w) (Nat.zero_le _) rfl (by simp [hvH]) (by simp [hvH])

end Go.Proofs.Ytkiafelpgcmifaa
