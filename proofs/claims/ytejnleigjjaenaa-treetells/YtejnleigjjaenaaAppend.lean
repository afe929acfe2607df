/-
  Rows that are appended to, cut and put together: what each step gives.
-/
import Derived.Test.YtejnleigjjaenaaSameHunk
import Derived.BigQuiet
namespace Go.Proofs.Ytejnleigjjaenaa
open Go.RowKit Go.Shelf

set_option maxRecDepth 100000

/-- append(d, row...): the longer row, in memory of its own. -/
theorem app_run (base : Nat) (W : World) (d : Value) (n : Nat) (xs : List Value) (hown : W.ownsRow base 9 1 d n xs) (v : Value) (L : List (List UInt8)) (m : Nat) (hrow : RowLow m W v L) (hb : base ≤ W.heap.size) (hn : n + L.length ≤ 1000000000) :
    ∃ v' W', (Builtin.append_ #[32, 32] 32 #[d, v]).run Try.prog W = .ok v' W' ∧ W'.ownsRow base 9 1 v' (n + L.length) (xs ++ L.map txtV) ∧ W.grownBy W' d.ownBlock := by
  obtain ⟨i0, hi, hz0, hz1, hz2⟩ := info_parts info9
  obtain ⟨ao, cap, b, off, rfl, ⟨-, hnone⟩, ha, hc⟩ := hrow
  cases ao with
  | none =>
    have hL : L = [] := by
      cases L with
      | nil => rfl
      | cons x L => exact absurd (ha (by simp)).1 (by simp)
    subst hL
    have hc0 := hnone rfl
    subst hc0
    refine ⟨d, W, run_append_owned_none W base 32 32 9 i0 1 Try.underlying32 hi d n xs hown, by simpa using hown, ⟨rfl, rfl, rfl, Nat.le_refl _, fun _ _ _ => rfl⟩⟩
  | some a =>
    obtain ⟨v', W', h1, h2, h3, -⟩ := run_append_own (P := Try.prog) W base 32 32 9 i0 (.string ⟨#[]⟩) 1 16 Try.underlying32 hi hz0 hz1 hz2 rfl (by decide) d n xs hown a L.length cap (L.map txtV) (by simp)
      (fun j u hu => by
        have hj : j < L.length := by have := (List.getElem?_eq_some_iff.1 hu).1; simpa using this
        obtain ⟨e1, -⟩ := ha (by omega)
        cases e1
        have hadd : (⟨b, off, none⟩ : Addr).add j = ⟨b, off + j, none⟩ := by cases j <;> simp [Addr.add]
        rw [hadd]
        exact hc j u hu) (txt_one L) (by unfold maxLen; omega) (by omega) hb
    exact ⟨v', W', h1, h2, h3⟩

/-- The first k of a row that is owned. -/
theorem owns_prefix {W : World} {base e g n cap k : Nat} {xs : List Value} (h : W.ownsRow base e 1 (.slice (some ⟨g, 0, none⟩) n cap) n xs) (hk : k ≤ n) : W.ownsRow base e 1 (.slice (some ⟨g, 0, none⟩) k cap) k (xs.take k) := by
  have hl := h.1
  rcases h.2 with ⟨e1, _⟩ | ⟨g', cap', cur, e1, hb, hg, hnc, hcm, hcs, ht⟩
  · cases e1
  · injection e1 with e1 _ e3
    injection e1 with e1
    injection e1 with e1 _ _
    subst e1 e3
    refine ⟨by simp; omega, .inr ⟨g, cap, cur, rfl, hb, hg, by omega, hcm, hcs, ?_⟩⟩
    rw [← ht, List.take_take]
    congr 1
    omega

/-- A row's rest, from i on. -/
theorem slice_rest {m : Nat} {W : World} {v : Value} {A : List (List UInt8)} {i : Nat} (h : RowLow m W v A) (hi : i ≤ A.length) :
    ∃ v', (∀ w, (Instr.slice 32 v (some (.int .i64 i)) none none).run Try.prog w = .ok v' w) ∧ RowLow m W v' (A.drop i) := by
  obtain ⟨v', h1, h2⟩ := slice_row h hi (Nat.le_refl _)
  obtain ⟨ao, cap, b, off, rfl, ⟨hcap, -⟩, -, -⟩ := h
  refine ⟨v', fun w => ?_, ?_⟩
  · have q1 := run_slice_l (P := Try.prog) w 32 ao A.length cap Try.underlying32 .i64 i (by omega) (by omega)
    have q2 := run_slice_lh (P := Try.prog) w 32 ao A.length cap Try.underlying32 .i64 .i64 i A.length (by omega) (by omega) (by omega)
    rw [q1]
    have q3 := h1 w
    rw [q2] at q3
    simpa using q3
  · have e : Df.part A i A.length = A.drop i := by
      unfold Df.part
      exact List.take_of_length_le (by simp)
    rwa [e] at h2
/-- A row's first k. -/
theorem slice_front (g cap n k : Nat) (hk : k ≤ cap) (w : World) : (Instr.slice 32 (.slice (some ⟨g, 0, none⟩) n cap) none (some (.int .i64 k)) none).run Try.prog w = .ok (.slice (some ⟨g, 0, none⟩) k cap) w := by
  have q1 := run_slice_h (P := Try.prog) w 32 (some ⟨g, 0, none⟩) n cap Try.underlying32 .i64 k (by omega) (by omega)
  have h2 : (sizeOf (Try.prog.elem 32)).run Try.prog w = .ok 1 w := by rfl
  rw [q1, h2]
  simp [Result.andThen, sliced, Addr.add]

theorem front_run {W : World} {base n k : Nat} {v : Value} {xs : List Value} (h : W.ownsRow base 9 1 v n xs) (hk : k ≤ n) : ∃ v', (∀ w, (Instr.slice 32 v none (some (.int .i64 k)) none).run Try.prog w = .ok v' w) ∧ W.ownsRow base 9 1 v' k (xs.take k) ∧ v'.ownBlock = v.ownBlock := by
  have h0 := h
  rcases h.2 with ⟨rfl, rfl⟩ | ⟨g, cap, cur, rfl, hb, hg, hnc, hcm, hcs, ht⟩
  · have hk0 : k = 0 := by omega
    subst hk0
    refine ⟨.slice none 0 0, fun w => ?_, by rw [List.take_zero]; exact World.ownsRow_nil _ _ _ _, rfl⟩
    have q1 := run_slice_h (P := Try.prog) w 32 none 0 0 Try.underlying32 .i64 ((0 : Nat) : Int) (by omega) (by omega)
    have h2 : (sizeOf (Try.prog.elem 32)).run Try.prog w = .ok 1 w := by rfl
    rw [q1, h2]
    simp [Result.andThen, sliced]
  · exact ⟨_, slice_front g cap n k (by omega), owns_prefix h0 hk, rfl⟩

theorem len_run {W : World} {base n : Nat} {v : Value} {xs : List Value} (h : W.ownsRow base 9 1 v n xs) (ty : TypeId) (w : World) : (Builtin.len_ #[32] ty #[v]).run Try.prog w = .ok (.int .i64 n) w := by
  obtain ⟨ao, cap, rfl⟩ := slice_shape h
  go_simp

end Go.Proofs.Ytejnleigjjaenaa
