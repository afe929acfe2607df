/-
  The walks of tree.List and tree.Fits, and of the document's.
-/
import Derived.Test.YtgdgaapkfbddkaaTrAwake
namespace Go.Proofs.Ytgdgaapkfbddkaa
open Go.RowKit Go.Shelf

attribute [local go_sem] Oper.semAt_some

def isList (k : Int) : Bool := k == 1 || k == 3 || k == 5

set_option maxRecDepth 100000 in
set_option maxHeartbeats 4000000 in
theorem tlist_any (k : Int) (w : World) : Calls Try.prog 19 #[.int .u8 k] w fun e w' => e = .returned (.bool (isList k)) ∧ w' = w := by
  go_enter Try.func19, Try.ntmps19
  go_wp2
  all_goals (go_ret; refine ⟨congrArg (fun b => Ending.returned (.bool b)) ?_, rfl⟩; unfold isList; first | rfl | (simp_all; done) | (simp_all; omega))
set_option maxRecDepth 100000 in
set_option maxHeartbeats 4000000 in
theorem rlist_any (k : Int) (w : World) : Calls Try.prog 20 #[.int .u8 k] w fun e w' => e = .returned (.bool (isList k)) ∧ w' = w := by
  go_enter Try.func20, Try.ntmps20
  go_wp2
  all_goals (go_ret; refine ⟨congrArg (fun b => Ending.returned (.bool b)) ?_, rfl⟩; unfold isList; first | rfl | (simp_all; done) | (simp_all; omega))

set_option maxRecDepth 100000 in
set_option maxHeartbeats 4000000 in
theorem tfits_any (p k a : Int) (w : World) : Calls Try.prog 21 #[.int .u8 p, .int .u8 k, .int .i64 a] w fun e w' => e = .returned (.bool (Tr.fits p k a)) ∧ Below w.heap.size w w' := by
  have HR : Hid (_) := rows_any w
  go_enter Try.func21, Try.ntmps21
  go_wp2_with fail
  refine Calls.mono HR.out ?_
  rintro e w1 ⟨rfl, ht⟩
  obtain ⟨rv, ok, -, l2, hcase⟩ := tab_look ht.tab p
  have HB : Hid (Below w.heap.size w w1) := ht.1
  have hkl : ∃ l, KindsLow w1 rv l ∧ Tr.okRow l ∧ Tr.fits p k a = Tr.fitsRow l k a := by
    rcases hcase with ⟨htn, rfl, rfl⟩ | ⟨l, htl, rfl, hkl, hok⟩
    · refine ⟨[], ⟨none, 0, 0, 0, rfl, ⟨Nat.le_refl _, fun _ => rfl⟩, fun h => absurd h (by simp), fun j u hu => by simp at hu⟩, ⟨by simp, by decide⟩, ?_⟩
      unfold Tr.fits; rw [htn]; rfl
    · refine ⟨l, hkl, hok, ?_⟩
      unfold Tr.fits; rw [htl]; rfl
  obtain ⟨l, hkl, hok, hfe⟩ := hkl
  have HF : Hid (_) := fits_any l rv k a w1 hkl hok
  rw [← hfe] at HF
  obtain ⟨ra, rc, rb, ro, hrv, -⟩ := hkl.parts
  subst hrv
  clear ht hcase hkl hok hfe HR
  go_wp2_with fail
  refine Calls.mono HF.out ?_
  rintro e w2 ⟨rfl, rfl⟩
  go_wp2
  go_ret
  exact ⟨rfl, HB.out⟩

def rExpr (k : Int) : Bool := decide (20 ≤ k) && decide (k ≤ 29)
def rStmt (k : Int) : Bool := decide (5 ≤ k) && decide (k ≤ 12)
set_option maxRecDepth 100000 in
set_option maxHeartbeats 4000000 in
theorem rexpr_any (k : Int) (w : World) : Calls Try.prog 49 #[.int .u8 k] w fun e w' => e = .returned (.bool (rExpr k)) ∧ w' = w := by
  go_enter Try.func49, Try.ntmps49
  go_wp2
  all_goals (go_ret; refine ⟨congrArg (fun b => Ending.returned (.bool b)) ?_, rfl⟩; unfold rExpr; first | rfl | (simp_all; done) | (simp_all; omega))
set_option maxRecDepth 100000 in
set_option maxHeartbeats 4000000 in
theorem rstmt_any (k : Int) (w : World) : Calls Try.prog 48 #[.int .u8 k] w fun e w' => e = .returned (.bool (rStmt k)) ∧ w' = w := by
  go_enter Try.func48, Try.ntmps48
  go_wp2
  all_goals (go_ret; refine ⟨congrArg (fun b => Ending.returned (.bool b)) ?_, rfl⟩; unfold rStmt; rw [Bool.eq_iff_iff]; first | (simp_all; done) | (simp_all; omega) | (simp; omega))
/-- How many Kids: below 0 any number. -/
def rMany : Int → Int
  | 1 => -1 | 3 => -1 | 5 => -1 | 25 => -1
  | 2 => 2 | 7 => 2 | 9 => 2 | 24 => 2 | 26 => 2 | 27 => 2
  | 8 => 3
  | 6 => 1 | 10 => 1 | 11 => 1 | 23 => 1 | 28 => 1 | 12 => 1
  | _ => 0
set_option maxRecDepth 100000 in
set_option maxHeartbeats 4000000 in
theorem rmany_any (k : Int) (w : World) : Calls Try.prog 47 #[.int .u8 k] w fun e w' => e = .returned (.int .i64 (rMany k)) ∧ w' = w := by
  go_enter Try.func47, Try.ntmps47
  go_wp2
  all_goals (go_ret; refine ⟨congrArg (fun b => Ending.returned (.int .i64 b)) ?_, rfl⟩; first | rfl | (unfold rMany; split <;> first | rfl | (exfalso; simp_all; done)))
end Go.Proofs.Ytgdgaapkfbddkaa
