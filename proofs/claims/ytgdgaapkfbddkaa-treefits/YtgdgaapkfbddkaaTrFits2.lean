/-
  What may stand in a node, by the document: as the program tells it.
-/
import Derived.Test.YtgdgaapkfbddkaaTrFits
namespace Go.Proofs.Ytgdgaapkfbddkaa
open Go.RowKit Go.Shelf

attribute [local go_sem] Oper.semAt_some

def rKid : Int → Int → Int → Bool
  | 1, k, _ => k == 2
  | 2, k, a => (a == 0 && k == 3) || (a == 1 && k == 5)
  | 3, k, _ => k == 4
  | 5, k, _ => rStmt k
  | 7, k, a => (a == 0 && (k == 22 || k == 26)) || (a == 1 && rExpr k)
  | 8, k, a => (a == 0 && rExpr k) || (decide (0 < a) && k == 5)
  | 9, k, a => (a == 0 && rExpr k) || (decide (0 < a) && k == 5)
  | 12, k, _ => k == 25
  | _, k, _ => rExpr k
def rFits (p k a : Int) : Bool := if a < 0 ∨ 0 ≤ rMany p ∧ rMany p ≤ a then false else rKid p k a

set_option maxRecDepth 100000 in
set_option maxHeartbeats 4000000 in
theorem rf_1 (k a : Int) (w : World) (ha : 0 ≤ a) : Calls Try.prog 22 #[.int .u8 (1), .int .u8 k, .int .i64 a] w fun e w' => e = .returned (.bool (k == 2)) ∧ w' = w := by
  have HM : Hid (_) := fun w => rmany_any 1 w
  have hr : rMany 1 = -1 := rfl
  rw [hr] at HM
  clear hr
  have d0 : decide (a < 0) = false := decide_eq_false (by omega)
  go_enter Try.func22, Try.ntmps22
  go_wp2_with fail
  refine Calls.mono (HM.out w) ?_
  rintro e w1 ⟨rfl, rfl⟩
  go_wp2
  all_goals (go_ret; refine ⟨congrArg (fun b => Ending.returned (.bool b)) ?_, rfl⟩; first | rfl | (simp_all; done) | (simp_all; omega))

set_option maxRecDepth 100000 in
set_option maxHeartbeats 4000000 in
theorem rf_3 (k a : Int) (w : World) (ha : 0 ≤ a) : Calls Try.prog 22 #[.int .u8 (3), .int .u8 k, .int .i64 a] w fun e w' => e = .returned (.bool (k == 4)) ∧ w' = w := by
  have HM : Hid (_) := fun w => rmany_any 3 w
  have hr : rMany 3 = -1 := rfl
  rw [hr] at HM
  clear hr
  have d0 : decide (a < 0) = false := decide_eq_false (by omega)
  go_enter Try.func22, Try.ntmps22
  go_wp2_with fail
  refine Calls.mono (HM.out w) ?_
  rintro e w1 ⟨rfl, rfl⟩
  go_wp2
  all_goals (go_ret; refine ⟨congrArg (fun b => Ending.returned (.bool b)) ?_, rfl⟩; first | rfl | (simp_all; done) | (simp_all; omega))

set_option maxRecDepth 100000 in
set_option maxHeartbeats 4000000 in
theorem rf_5 (k a : Int) (w : World) (ha : 0 ≤ a) : Calls Try.prog 22 #[.int .u8 (5), .int .u8 k, .int .i64 a] w fun e w' => e = .returned (.bool (rStmt k)) ∧ w' = w := by
  have HM : Hid (_) := fun w => rmany_any 5 w
  have hr : rMany 5 = -1 := rfl
  rw [hr] at HM
  clear hr
  have d0 : decide (a < 0) = false := decide_eq_false (by omega)
  go_enter Try.func22, Try.ntmps22
  go_wp2_with fail
  refine Calls.mono (HM.out w) ?_
  rintro e w1 ⟨rfl, rfl⟩
  go_wp2_with fail
  refine Calls.mono (rstmt_any k w1) ?_
  rintro e w2 ⟨rfl, rfl⟩
  go_wp2
  all_goals (go_ret; refine ⟨congrArg (fun b => Ending.returned (.bool b)) ?_, rfl⟩; first | rfl | (simp_all; done) | (simp_all; omega))

set_option maxRecDepth 100000 in
set_option maxHeartbeats 4000000 in
theorem rf_2_0 (k : Int) (w : World) : Calls Try.prog 22 #[.int .u8 (2), .int .u8 k, .int .i64 (0)] w fun e w' => e = .returned (.bool (k == 3)) ∧ w' = w := by
  have HM : Hid (_) := fun w => rmany_any 2 w
  have hr : rMany 2 = 2 := rfl
  rw [hr] at HM
  clear hr
  go_enter Try.func22, Try.ntmps22
  go_wp2_with fail
  refine Calls.mono (HM.out w) ?_
  rintro e w1 ⟨rfl, rfl⟩
  go_wp2
  all_goals (go_ret; refine ⟨congrArg (fun b => Ending.returned (.bool b)) ?_, rfl⟩; first | rfl | (simp_all; done) | (simp_all; omega))

set_option maxRecDepth 100000 in
set_option maxHeartbeats 4000000 in
theorem rf_2_1 (k : Int) (w : World) : Calls Try.prog 22 #[.int .u8 (2), .int .u8 k, .int .i64 (1)] w fun e w' => e = .returned (.bool (k == 5)) ∧ w' = w := by
  have HM : Hid (_) := fun w => rmany_any 2 w
  have hr : rMany 2 = 2 := rfl
  rw [hr] at HM
  clear hr
  go_enter Try.func22, Try.ntmps22
  go_wp2_with fail
  refine Calls.mono (HM.out w) ?_
  rintro e w1 ⟨rfl, rfl⟩
  go_wp2
  all_goals (go_ret; refine ⟨congrArg (fun b => Ending.returned (.bool b)) ?_, rfl⟩; first | rfl | (simp_all; done) | (simp_all; omega))

set_option maxRecDepth 100000 in
set_option maxHeartbeats 4000000 in
theorem rf_7_0 (k : Int) (w : World) : Calls Try.prog 22 #[.int .u8 (7), .int .u8 k, .int .i64 (0)] w fun e w' => e = .returned (.bool (k == 22 || k == 26)) ∧ w' = w := by
  have HM : Hid (_) := fun w => rmany_any 7 w
  have hr : rMany 7 = 2 := rfl
  rw [hr] at HM
  clear hr
  go_enter Try.func22, Try.ntmps22
  go_wp2_with fail
  refine Calls.mono (HM.out w) ?_
  rintro e w1 ⟨rfl, rfl⟩
  go_wp2
  all_goals (go_ret; refine ⟨congrArg (fun b => Ending.returned (.bool b)) ?_, rfl⟩; first | rfl | (simp_all; done) | (simp_all; omega))

set_option maxRecDepth 100000 in
set_option maxHeartbeats 4000000 in
theorem rf_7_1 (k : Int) (w : World) : Calls Try.prog 22 #[.int .u8 (7), .int .u8 k, .int .i64 (1)] w fun e w' => e = .returned (.bool (rExpr k)) ∧ w' = w := by
  have HM : Hid (_) := fun w => rmany_any 7 w
  have hr : rMany 7 = 2 := rfl
  rw [hr] at HM
  clear hr
  go_enter Try.func22, Try.ntmps22
  go_wp2_with fail
  refine Calls.mono (HM.out w) ?_
  rintro e w1 ⟨rfl, rfl⟩
  go_wp2_with fail
  refine Calls.mono (rexpr_any k w1) ?_
  rintro e w2 ⟨rfl, rfl⟩
  go_wp2
  all_goals (go_ret; refine ⟨congrArg (fun b => Ending.returned (.bool b)) ?_, rfl⟩; first | rfl | (simp_all; done) | (simp_all; omega))

set_option maxRecDepth 100000 in
set_option maxHeartbeats 4000000 in
theorem rf_8_0 (k : Int) (w : World) : Calls Try.prog 22 #[.int .u8 (8), .int .u8 k, .int .i64 (0)] w fun e w' => e = .returned (.bool (rExpr k)) ∧ w' = w := by
  have HM : Hid (_) := fun w => rmany_any 8 w
  have hr : rMany 8 = 3 := rfl
  rw [hr] at HM
  clear hr
  go_enter Try.func22, Try.ntmps22
  go_wp2_with fail
  refine Calls.mono (HM.out w) ?_
  rintro e w1 ⟨rfl, rfl⟩
  go_wp2_with fail
  refine Calls.mono (rexpr_any k w1) ?_
  rintro e w2 ⟨rfl, rfl⟩
  go_wp2
  all_goals (go_ret; refine ⟨congrArg (fun b => Ending.returned (.bool b)) ?_, rfl⟩; first | rfl | (simp_all; done) | (simp_all; omega))

set_option maxRecDepth 100000 in
set_option maxHeartbeats 4000000 in
theorem rf_8_1 (k : Int) (w : World) : Calls Try.prog 22 #[.int .u8 (8), .int .u8 k, .int .i64 (1)] w fun e w' => e = .returned (.bool (k == 5)) ∧ w' = w := by
  have HM : Hid (_) := fun w => rmany_any 8 w
  have hr : rMany 8 = 3 := rfl
  rw [hr] at HM
  clear hr
  go_enter Try.func22, Try.ntmps22
  go_wp2_with fail
  refine Calls.mono (HM.out w) ?_
  rintro e w1 ⟨rfl, rfl⟩
  go_wp2
  all_goals (go_ret; refine ⟨congrArg (fun b => Ending.returned (.bool b)) ?_, rfl⟩; first | rfl | (simp_all; done) | (simp_all; omega))

set_option maxRecDepth 100000 in
set_option maxHeartbeats 4000000 in
theorem rf_8_2 (k : Int) (w : World) : Calls Try.prog 22 #[.int .u8 (8), .int .u8 k, .int .i64 (2)] w fun e w' => e = .returned (.bool (k == 5)) ∧ w' = w := by
  have HM : Hid (_) := fun w => rmany_any 8 w
  have hr : rMany 8 = 3 := rfl
  rw [hr] at HM
  clear hr
  go_enter Try.func22, Try.ntmps22
  go_wp2_with fail
  refine Calls.mono (HM.out w) ?_
  rintro e w1 ⟨rfl, rfl⟩
  go_wp2
  all_goals (go_ret; refine ⟨congrArg (fun b => Ending.returned (.bool b)) ?_, rfl⟩; first | rfl | (simp_all; done) | (simp_all; omega))

set_option maxRecDepth 100000 in
set_option maxHeartbeats 4000000 in
theorem rf_9_0 (k : Int) (w : World) : Calls Try.prog 22 #[.int .u8 (9), .int .u8 k, .int .i64 (0)] w fun e w' => e = .returned (.bool (rExpr k)) ∧ w' = w := by
  have HM : Hid (_) := fun w => rmany_any 9 w
  have hr : rMany 9 = 2 := rfl
  rw [hr] at HM
  clear hr
  go_enter Try.func22, Try.ntmps22
  go_wp2_with fail
  refine Calls.mono (HM.out w) ?_
  rintro e w1 ⟨rfl, rfl⟩
  go_wp2_with fail
  refine Calls.mono (rexpr_any k w1) ?_
  rintro e w2 ⟨rfl, rfl⟩
  go_wp2
  all_goals (go_ret; refine ⟨congrArg (fun b => Ending.returned (.bool b)) ?_, rfl⟩; first | rfl | (simp_all; done) | (simp_all; omega))

set_option maxRecDepth 100000 in
set_option maxHeartbeats 4000000 in
theorem rf_9_1 (k : Int) (w : World) : Calls Try.prog 22 #[.int .u8 (9), .int .u8 k, .int .i64 (1)] w fun e w' => e = .returned (.bool (k == 5)) ∧ w' = w := by
  have HM : Hid (_) := fun w => rmany_any 9 w
  have hr : rMany 9 = 2 := rfl
  rw [hr] at HM
  clear hr
  go_enter Try.func22, Try.ntmps22
  go_wp2_with fail
  refine Calls.mono (HM.out w) ?_
  rintro e w1 ⟨rfl, rfl⟩
  go_wp2
  all_goals (go_ret; refine ⟨congrArg (fun b => Ending.returned (.bool b)) ?_, rfl⟩; first | rfl | (simp_all; done) | (simp_all; omega))

set_option maxRecDepth 100000 in
set_option maxHeartbeats 4000000 in
theorem rf_12_0 (k : Int) (w : World) : Calls Try.prog 22 #[.int .u8 (12), .int .u8 k, .int .i64 (0)] w fun e w' => e = .returned (.bool (k == 25)) ∧ w' = w := by
  have HM : Hid (_) := fun w => rmany_any 12 w
  have hr : rMany 12 = 1 := rfl
  rw [hr] at HM
  clear hr
  go_enter Try.func22, Try.ntmps22
  go_wp2_with fail
  refine Calls.mono (HM.out w) ?_
  rintro e w1 ⟨rfl, rfl⟩
  go_wp2
  all_goals (go_ret; refine ⟨congrArg (fun b => Ending.returned (.bool b)) ?_, rfl⟩; first | rfl | (simp_all; done) | (simp_all; omega))

set_option maxRecDepth 100000 in
set_option maxHeartbeats 4000000 in
theorem rf_other (p k a : Int) (w : World) (ha : 0 ≤ a) (hm : ¬ (0 ≤ rMany p ∧ rMany p ≤ a)) (h1 : p ≠ 1) (h2 : p ≠ 2) (h3 : p ≠ 3) (h5 : p ≠ 5) (h7 : p ≠ 7) (h8 : p ≠ 8) (h9 : p ≠ 9) (h12 : p ≠ 12) : Calls Try.prog 22 #[.int .u8 p, .int .u8 k, .int .i64 a] w fun e w' => e = .returned (.bool (rExpr k)) ∧ w' = w := by
  obtain ⟨M, hM⟩ : ∃ M, M = rMany p := ⟨_, rfl⟩
  have HM : Hid (_) := fun w => rmany_any p w
  have f1 : (p == 1) = false := by simpa using h1
  have f2 : (p == 2) = false := by simpa using h2
  have f3 : (p == 3) = false := by simpa using h3
  have f5 : (p == 5) = false := by simpa using h5
  have f7 : (p == 7) = false := by simpa using h7
  have f8 : (p == 8) = false := by simpa using h8
  have f9 : (p == 9) = false := by simpa using h9
  have f12 : (p == 12) = false := by simpa using h12
  rw [← hM] at HM hm
  have d0 : decide (a < 0) = false := decide_eq_false (by omega)
  have hM2 : -1 ≤ M ∧ M ≤ 3 := by
    rw [hM]; unfold rMany; split <;> omega
  clear hM
  clear h1
  clear h2
  clear h3
  clear h5
  clear h7
  clear h8
  clear h9
  clear h12
  by_cases hM0 : 0 ≤ M
  · have d1 : decide (0 ≤ M) = true := decide_eq_true hM0
    have d2 : decide (M ≤ a) = false := decide_eq_false (by omega)
    clear hm
    go_enter Try.func22, Try.ntmps22
    go_wp2_with fail
    refine Calls.mono (HM.out w) ?_
    rintro e w1 ⟨rfl, rfl⟩
    go_wp2_with fail
    refine Calls.mono (rexpr_any k w1) ?_
    rintro e w2 ⟨rfl, rfl⟩
    go_wp2
    go_ret
    exact ⟨rfl, rfl⟩
  have d1 : decide (0 ≤ M) = false := decide_eq_false hM0
  clear hm
  go_enter Try.func22, Try.ntmps22
  go_wp2_with fail
  refine Calls.mono (HM.out w) ?_
  rintro e w1 ⟨rfl, rfl⟩
  go_wp2_with fail
  refine Calls.mono (rexpr_any k w1) ?_
  rintro e w2 ⟨rfl, rfl⟩
  go_wp2
  go_ret
  exact ⟨rfl, rfl⟩

set_option maxRecDepth 100000 in
set_option maxHeartbeats 4000000 in
theorem rf_no (p k a : Int) (w : World) (hc : a < 0 ∨ 0 ≤ rMany p ∧ rMany p ≤ a) : Calls Try.prog 22 #[.int .u8 p, .int .u8 k, .int .i64 a] w fun e w' => e = .returned (.bool false) ∧ w' = w := by
  have HM : Hid (_) := fun w => rmany_any p w
  obtain ⟨M, hM⟩ : ∃ M, M = rMany p := ⟨_, rfl⟩
  rw [← hM] at HM hc
  clear hM
  by_cases ha : a < 0
  · have d0 : decide (a < 0) = true := decide_eq_true ha
    clear hc
    go_enter Try.func22, Try.ntmps22
    go_wp2_with fail
    refine Calls.mono (HM.out w) ?_
    rintro e w1 ⟨rfl, rfl⟩
    go_wp2
    go_ret
    exact ⟨rfl, rfl⟩
  · have d0 : decide (a < 0) = false := decide_eq_false ha
    have d1 : decide (0 ≤ M) = true := decide_eq_true (by omega)
    have d2 : decide (M ≤ a) = true := decide_eq_true (by omega)
    clear hc
    go_enter Try.func22, Try.ntmps22
    go_wp2_with fail
    refine Calls.mono (HM.out w) ?_
    rintro e w1 ⟨rfl, rfl⟩
    go_wp2
    go_ret
    exact ⟨rfl, rfl⟩

theorem rfits_any (p k a : Int) (w : World) : Calls Try.prog 22 #[.int .u8 p, .int .u8 k, .int .i64 a] w fun e w' => e = .returned (.bool (rFits p k a)) ∧ w' = w := by
  unfold rFits
  by_cases hc : a < 0 ∨ 0 ≤ rMany p ∧ rMany p ≤ a
  · rw [if_pos hc]; exact rf_no p k a w hc
  · rw [if_neg hc]
    have ha : 0 ≤ a := by omega
    have hm : ¬ (0 ≤ rMany p ∧ rMany p ≤ a) := fun h => hc (.inr h)
    by_cases h1 : p = 1
    · subst h1; exact rf_1 k a w ha
    by_cases h3 : p = 3
    · subst h3; exact rf_3 k a w ha
    by_cases h5 : p = 5
    · subst h5; exact rf_5 k a w ha
    by_cases h2 : p = 2
    · subst h2
      have hr : rMany 2 = 2 := rfl
      rw [hr] at hm
      by_cases a0 : a = 0
      · subst a0
        refine (rf_2_0 k w).mono ?_
        rintro e w' ⟨rfl, rfl⟩
        exact ⟨by simp [rKid], rfl⟩
      have a1 : a = 1 := by omega
      subst a1
      refine (rf_2_1 k w).mono ?_
      rintro e w' ⟨rfl, rfl⟩
      exact ⟨by simp [rKid], rfl⟩
    by_cases h7 : p = 7
    · subst h7
      have hr : rMany 7 = 2 := rfl
      rw [hr] at hm
      by_cases a0 : a = 0
      · subst a0
        refine (rf_7_0 k w).mono ?_
        rintro e w' ⟨rfl, rfl⟩
        exact ⟨by simp [rKid], rfl⟩
      have a1 : a = 1 := by omega
      subst a1
      refine (rf_7_1 k w).mono ?_
      rintro e w' ⟨rfl, rfl⟩
      exact ⟨by simp [rKid], rfl⟩
    by_cases h8 : p = 8
    · subst h8
      have hr : rMany 8 = 3 := rfl
      rw [hr] at hm
      by_cases a0 : a = 0
      · subst a0
        refine (rf_8_0 k w).mono ?_
        rintro e w' ⟨rfl, rfl⟩
        exact ⟨by simp [rKid], rfl⟩
      by_cases a1 : a = 1
      · subst a1
        refine (rf_8_1 k w).mono ?_
        rintro e w' ⟨rfl, rfl⟩
        exact ⟨by simp [rKid], rfl⟩
      have a2 : a = 2 := by omega
      subst a2
      refine (rf_8_2 k w).mono ?_
      rintro e w' ⟨rfl, rfl⟩
      exact ⟨by simp [rKid], rfl⟩
    by_cases h9 : p = 9
    · subst h9
      have hr : rMany 9 = 2 := rfl
      rw [hr] at hm
      by_cases a0 : a = 0
      · subst a0
        refine (rf_9_0 k w).mono ?_
        rintro e w' ⟨rfl, rfl⟩
        exact ⟨by simp [rKid], rfl⟩
      have a1 : a = 1 := by omega
      subst a1
      refine (rf_9_1 k w).mono ?_
      rintro e w' ⟨rfl, rfl⟩
      exact ⟨by simp [rKid], rfl⟩
    by_cases h12 : p = 12
    · subst h12
      have hr : rMany 12 = 1 := rfl
      rw [hr] at hm
      have a0 : a = 0 := by omega
      subst a0
      refine (rf_12_0 k w).mono ?_
      rintro e w' ⟨rfl, rfl⟩
      exact ⟨by simp [rKid], rfl⟩
    have hk : rKid p k a = rExpr k := by
      unfold rKid
      split <;> first | rfl | (exfalso; omega)
    rw [hk]
    exact rf_other p k a w ha hm h1 h2 h3 h5 h7 h8 h9 h12

end Go.Proofs.Ytgdgaapkfbddkaa
