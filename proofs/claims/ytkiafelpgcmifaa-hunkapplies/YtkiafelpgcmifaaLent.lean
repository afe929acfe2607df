/-
  The walks of the verifier's own functions about lent rows of texts: LentTexts, KeptTexts, OverTexts.
-/
import Derived.Test.YtkiafelpgcmifaaMarks
import Derived.Test.YtkiafelpgcmifaaCommon
namespace Go.Proofs.Ytkiafelpgcmifaa
open Go.RowKit

def marks (k : Nat) : List (List UInt8) := (List.range k).map (mkT 1)
theorem marks_succ (k : Nat) : marks (k + 1) = marks k ++ [mkT 1 k] := by simp [marks, List.range_succ]

theorem src_cells {w w1 : World} {a : Addr} {L : List (List UInt8)} (hc : ∀ (j : Nat) (x : List UInt8), L[j]? = some x → w.cell? (a.add j) = some (.string (Ln.bs x))) (hB : Below w.heap.size w w1) :
    ∀ (j : Nat) (u : Value), (L.map txtV)[j]? = some u → w1.cell? (a.add j) = some u := by
  intro j u hu
  rw [List.getElem?_map] at hu
  obtain ⟨x, hx, rfl⟩ := Option.map_eq_some_iff.1 hu
  have h := hc j x hx
  exact (hB.cell (World.block_lt_of_cell? _ _ h)).trans h

set_option maxRecDepth 100000 in
set_option maxHeartbeats 2000000 in
theorem lent_some (L : List (List UInt8)) (a : Addr) (cap : Nat) (w : World) (hc : ∀ (j : Nat) (x : List UInt8), L[j]? = some x → w.cell? (a.add j) = some (.string (Ln.bs x))) (hL : L.length ≤ 5000) :
    Calls Try.prog 6 #[.slice (some a) L.length cap] w fun e w' => ∃ g cap, e = .returned (.slice (some ⟨g, 0, none⟩) L.length cap) ∧ w'.ownsRow w.heap.size 9 1 (.slice (some ⟨g, 0, none⟩) (L.length + 12) cap) (L.length + 12) ((L ++ marks 12).map txtV) ∧ Below w.heap.size w w' := by
  obtain ⟨i0, hi, hz0, hz1, hz2⟩ := info_parts info9
  go_enter Try.func6, Try.ntmps6
  go_wp2_with (first
    | (at_make; refine wpList_make_own _ rfl _ _ 22 rfl w.heap.size 9 i0 (.string ⟨#[]⟩) 1 Try.underlying22 hi hz0 hz1 _ _ _ (L.length + 12) rfl rfl (by omega) (by rw [hz2]; omega) (by unfold maxLen; omega) (Nat.le_refl _) ?_; intro w1 hown1 hg1; have hB1 := (Below.refl w.heap.size w).grown hg1 (Nat.le_refl _) (by simp))
    | (at_builtin; refine wpList_append_own _ rfl _ _ 22 rfl w.heap.size 9 i0 (.string ⟨#[]⟩) 1 16 Try.underlying22 hi hz0 hz1 hz2 rfl (by decide) _ _ _ rfl hown1 a L.length cap (L.map txtV) rfl (by simp) (src_cells hc hB1) (txt_one L) (by unfold maxLen; omega) (by omega) hB1.size ?_; intro v2 w2 hown2 hg2 _))
  have hB2 := hB1.grown hg2 hB1.size (fun q hq => (hown1.lt q hq).1)
  have hown3 : w2.ownsRow w.heap.size 9 1 v2 (L.length + 0) ((L ++ marks 0).map txtV) := by simpa [marks] using hown2
  clear hown1 hg1 hg2 hB1 hown2 hc
  go_loopw [3, 4] (fun t i wr => ∃ k : Nat, k ≤ 12 ∧ i = .int .i64 k ∧ wr.ownsRow w.heap.size 9 1 t (L.length + k) ((L ++ marks k).map txtV) ∧ Below w.heap.size w wr) (fun _ i _ => 12 - (intOf i).toNat)
  case atStart => exact ⟨0, by omega, rfl, hown3, hB2⟩
  case round =>
    obtain ⟨k, hk, rfl, hown, hB⟩ := hrel
    by_cases hlt : k < 12
    · go_wp2_with (first
        | (go_at_call 19; refine (markText_any 1 k _).mono ?_; rintro e wm ⟨rfl, hbm⟩; have hownm := owns_below hown hbm; have hBm := hB.trans (hbm.mono hB.size))
        | (at_builtin; refine wpList_append_own _ rfl _ _ 22 rfl w.heap.size 9 i0 (.string ⟨#[]⟩) 1 16 Try.underlying22 hi hz0 hz1 hz2 rfl (by decide) _ _ _ rfl (hownm.alloc _) ⟨wm.heap.size, 0, none⟩ 1 1 [.string (Ln.bs (mkT 1 k))] rfl rfl (cells_new wm [.string (Ln.bs (mkT 1 k))] 9) (by simp [Value.oneCell']) (by unfold maxLen; omega) (by omega) (by have := hBm.size; simp; omega) ?_; intro v' w1 hown' hgrow _))
      go_roundw
      case rel =>
        refine ⟨k + 1, by omega, by go_num, ?_, ?_⟩
        · rw [marks_succ, ← List.append_assoc, List.map_append]; exact hown'
        · exact (hBm.alloc hBm.size _).grown hgrow (by have := hBm.size; simp; omega) (fun q hq => (hownm.lt q hq).1)
      case measure => simp [intOf]; omega
    · have hke : k = 12 := by omega
      subst hke
      obtain ⟨g, cap, rfl⟩ := ownsRow_succ hown
      have hcap : (L.length : Int) ≤ (cap : Int) := by
        rcases hown.2 with ⟨h0, _⟩ | ⟨g', cap', cur, he, _, _, hnc, _⟩
        · cases h0
        · injection he with _ _ e3; omega
      go_wp2
      go_ret
      exact ⟨g, cap, by simp, hown, hB⟩

set_option maxRecDepth 100000 in
set_option maxHeartbeats 2000000 in
theorem lent_nil (L : List (List UInt8)) (hL : L = []) (w : World) :
    Calls Try.prog 6 #[.slice none 0 0] w fun e w' => ∃ g cap, e = .returned (.slice (some ⟨g, 0, none⟩) 0 cap) ∧ w'.ownsRow w.heap.size 9 1 (.slice (some ⟨g, 0, none⟩) (L.length + 12) cap) (L.length + 12) ((L ++ marks 12).map txtV) ∧ Below w.heap.size w w' := by
  obtain ⟨i0, hi, hz0, hz1, hz2⟩ := info_parts info9
  have HL : Hid (L = []) := hL
  have hL0 : L.length ≤ 0 := by rw [hL]; exact Nat.le_refl _
  clear hL
  go_enter Try.func6, Try.ntmps6
  go_wp2_with (first
    | (at_make; refine wpList_make_own _ rfl _ _ 22 rfl w.heap.size 9 i0 (.string ⟨#[]⟩) 1 Try.underlying22 hi hz0 hz1 _ _ _ 12 rfl rfl (by omega) (by rw [hz2]; omega) (by unfold maxLen; omega) (Nat.le_refl _) ?_; intro w1 hown1 hg1; have hB1 := (Below.refl w.heap.size w).grown hg1 (Nat.le_refl _) (by simp))
    | (at_builtin; refine wpList_append_own_none rfl _ _ 22 rfl w.heap.size 9 i0 1 Try.underlying22 hi _ _ _ rfl hown1 rfl ?_))
  have hown3 : w1.ownsRow w.heap.size 9 1 (.slice (some ⟨w.heap.size, 0, none⟩) 0 12) (L.length + 0) ((L ++ marks 0).map txtV) := by rw [HL.out]; exact hown1
  have hB2 := hB1
  clear hown1 hg1 hB1
  go_loopw [3, 4] (fun t i wr => ∃ k : Nat, k ≤ 12 ∧ i = .int .i64 k ∧ wr.ownsRow w.heap.size 9 1 t (L.length + k) ((L ++ marks k).map txtV) ∧ Below w.heap.size w wr) (fun _ i _ => 12 - (intOf i).toNat)
  case atStart => exact ⟨0, by omega, rfl, hown3, hB2⟩
  case round =>
    obtain ⟨k, hk, rfl, hown, hB⟩ := hrel
    by_cases hlt : k < 12
    · go_wp2_with (first
        | (go_at_call 19; refine (markText_any 1 k _).mono ?_; rintro e wm ⟨rfl, hbm⟩; have hownm := owns_below hown hbm; have hBm := hB.trans (hbm.mono hB.size))
        | (at_builtin; refine wpList_append_own _ rfl _ _ 22 rfl w.heap.size 9 i0 (.string ⟨#[]⟩) 1 16 Try.underlying22 hi hz0 hz1 hz2 rfl (by decide) _ _ _ rfl (hownm.alloc _) ⟨wm.heap.size, 0, none⟩ 1 1 [.string (Ln.bs (mkT 1 k))] rfl rfl (cells_new wm [.string (Ln.bs (mkT 1 k))] 9) (by simp [Value.oneCell']) (by unfold maxLen; omega) (by omega) (by have := hBm.size; simp; omega) ?_; intro v' w1 hown' hgrow _))
      go_roundw
      case rel =>
        refine ⟨k + 1, by omega, by go_num, ?_, ?_⟩
        · rw [marks_succ, ← List.append_assoc, List.map_append]; exact hown'
        · exact (hBm.alloc hBm.size _).grown hgrow (by have := hBm.size; simp; omega) (fun q hq => (hownm.lt q hq).1)
      case measure => simp [intOf]; omega
    · have hke : k = 12 := by omega
      subst hke
      obtain ⟨g, cap, rfl⟩ := ownsRow_succ hown
      have hcap : (L.length : Int) ≤ (cap : Int) := by
        rcases hown.2 with ⟨h0, _⟩ | ⟨g', cap', cur, he, _, _, hnc, _⟩
        · cases h0
        · injection he with _ _ e3; omega
      go_wp2
      go_ret
      exact ⟨g, cap, by simp, hown, hB⟩

/-- LentTexts, whatever the row. -/
theorem lent_any (L : List (List UInt8)) (v : Value) (w : World) (hrow : RowLow w.heap.size w v L) (hL : L.length ≤ 5000) :
    Calls Try.prog 6 #[v] w fun e w' => ∃ g cap, e = .returned (.slice (some ⟨g, 0, none⟩) L.length cap) ∧ w'.ownsRow w.heap.size 9 1 (.slice (some ⟨g, 0, none⟩) (L.length + 12) cap) (L.length + 12) ((L ++ marks 12).map txtV) ∧ Below w.heap.size w w' := by
  obtain ⟨ao, cap, b, off, rfl, ⟨-, hnone⟩, ha, hc⟩ := hrow.parts
  cases ao with
  | none =>
    have hL0 : L = [] := by
      cases L with
      | nil => rfl
      | cons x L => exact absurd (ha (by simp)).1 (by simp)
    subst hL0
    have hc0 := hnone rfl
    subst hc0
    exact lent_nil [] rfl w
  | some a =>
    refine lent_some L a cap w (fun j x hx => ?_) hL
    have hj : j < L.length := (List.getElem?_eq_some_iff.1 hx).1
    obtain ⟨e1, -⟩ := ha (by omega)
    cases e1
    have hadd : (⟨b, off, none⟩ : Addr).add j = ⟨b, off + j, none⟩ := by cases j <;> simp [Addr.add]
    rw [hadd]
    exact hc j x hx

end Go.Proofs.Ytkiafelpgcmifaa
