/-
  The walk of clerestoryref02.Common: the document's row of pairs.
-/
import Derived.Test.YtpcinbfelikgpaaGreatDoorCommon
import Derived.Test.YtpcinbfelikgpaaGreatDoorRefLongest
namespace Go.Proofs.YtpcinbfelikgpaaGreatDoor
open Go.RowKit

set_option maxRecDepth 100000 in
set_option maxHeartbeats 8000000 in
theorem refCommon_small (A B : List (List UInt8)) (va vb : Value) (w : World) (ha : RowLow w.heap.size w va A) (hb : RowLow w.heap.size w vb B) (hA : A.length ≤ 4096) (hB : B.length ≤ 4096):
    Calls Tryz.prog 10 #[va, vb] w fun e w' => ∃ v, e = .returned v ∧ w'.ownsRow w.heap.size 37 2 v (Df.cm 0 0 A B).length (pairCells (Df.cm 0 0 A B)) ∧ Below w.heap.size w w' := by
  have hc1 := longest_any A B va vb w ha hb hA hB
  obtain ⟨oa, ca, ba, fa, rfl, -, haa, hca⟩ := ha.parts
  obtain ⟨ob, cb, bb, fb, rfl, -, hbb, hcb⟩ := hb.parts
  have HC : Hid (Calls Tryz.prog 22 #[.slice oa A.length ca, .slice ob B.length cb] w _) := hc1
  clear hc1 ha hb
  obtain ⟨i0, hi, hz0, hz1, hz2⟩ := info_parts info37s
  have q1 : decide ((4096 : Int) < (A.length : Int)) = false := by simp; omega
  have q2 : decide ((4096 : Int) < (B.length : Int)) = false := by simp; omega
  have q3 : decide (4096 < A.length) = false := by simp; omega
  have q4 : decide (4096 < B.length) = false := by simp; omega
  go_enter Tryz.func10, Tryz.ntmps10
  go_wp2_with fail
  refine HC.out.mono ?_
  rintro e w2 ⟨T, rfl, hT, htab, hB2⟩
  clear HC
  have HT : Hid (∀ i, i ≤ A.length → RTab w2 w.heap.size T A B i) := htab
  clear htab
  go_wp2
  go_loopw [6, 7, 8] (fun t u v wr => ∃ (i j : Nat) (ps : List (Nat × Nat)), i ≤ A.length ∧ j ≤ B.length ∧ u = .int .i64 i ∧ v = .int .i64 j ∧ wr.ownsRow w2.heap.size 37 2 t ps.length (pairCells ps) ∧ ps.length ≤ i ∧
    ps ++ Df.cm i j (A.drop i) (B.drop j) = Df.cm 0 0 A B ∧ Below w2.heap.size w2 wr) (fun _ u v _ => (A.length - (intOf u).toNat) + (B.length - (intOf v).toNat))
  case atStart => exact ⟨0, 0, [], Nat.zero_le _, Nat.zero_le _, rfl, rfl, World.ownsRow_nil _ _ _ _, Nat.le_refl _, rfl, Below.refl _ _⟩
  case round =>
    obtain ⟨i, j, ps, hil, hjl, rfl, rfl, hown, hpl, hps, hbl⟩ := hrel
    have HP : Hid (ps ++ Df.cm i j (A.drop i) (B.drop j) = Df.cm 0 0 A B) := hps
    clear hps
    by_cases hij : i < A.length ∧ j < B.length
    · obtain ⟨h1, h2⟩ := hij
      have d1 : decide ((i : Int) < (A.length : Int)) = true := by simp; omega
      have d2 : decide ((j : Int) < (B.length : Int)) = true := by simp; omega
      obtain ⟨x, hxi⟩ : ∃ x, A[i]? = some x := ⟨A[i], List.getElem?_eq_getElem h1⟩
      obtain ⟨y, hyj⟩ : ∃ y, B[j]? = some y := ⟨B[j], List.getElem?_eq_getElem h2⟩
      obtain ⟨rfl, hba⟩ := haa (by omega)
      obtain ⟨rfl, hbb'⟩ := hbb (by omega)
      have hw2 := hB2.size
      have cxi : wr.cell? ⟨ba, fa + i, none⟩ = some (.string (Ln.bs x)) := (hbl.cell (p := ⟨ba, fa + i, none⟩) (by show ba < w2.heap.size; omega)).trans ((hB2.cell (p := ⟨ba, fa + i, none⟩) hba).trans (hca i x hxi))
      have cyj : wr.cell? ⟨bb, fb + j, none⟩ = some (.string (Ln.bs y)) := (hbl.cell (p := ⟨bb, fb + j, none⟩) (by show bb < w2.heap.size; omega)).trans ((hB2.cell (p := ⟨bb, fb + j, none⟩) hbb').trans (hcb j y hyj))
      have HX : Hid (A.drop i = x :: A.drop (i + 1)) := Df.drop_at hxi
      have HY : Hid (B.drop j = y :: B.drop (j + 1)) := Df.drop_at hyj
      obtain ⟨g0, -, hg0, t0, s0⟩ := (HT.out i (by omega)).cell
      obtain ⟨g1, -, hg1, t1, s1⟩ := (HT.out (i + 1) (by omega)).cell
      have t0' : wr.cell? ⟨T, i, none⟩ = some (.slice (some ⟨g0, 0, none⟩) (B.length + 1) (B.length + 1)) := (hbl.cell (p := ⟨T, i, none⟩) hT).trans t0
      have t1' : wr.cell? ⟨T, i + 1, none⟩ = some (.slice (some ⟨g1, 0, none⟩) (B.length + 1) (B.length + 1)) := (hbl.cell (p := ⟨T, i + 1, none⟩) hT).trans t1
      have s0' : wr.cell? ⟨g0, j + 1, none⟩ = some (.int .i64 (Df.lc (A.drop i) (B.drop (j + 1)))) := (hbl.cell (p := ⟨g0, j + 1, none⟩) hg0).trans (s0 (j + 1) (by omega))
      have s1' : wr.cell? ⟨g1, j, none⟩ = some (.int .i64 (Df.lc (A.drop (i + 1)) (B.drop j))) := (hbl.cell (p := ⟨g1, j, none⟩) hg1).trans (s1 j (by omega))
      clear hca hcb haa hbb t0 t1 s0 s1 hxi hyj
      by_cases hxy : x = y
      · have hbq2 : ((Ln.bs x).toList == (Ln.bs y).toList) = true := by rw [bs_beq]; exact decide_eq_true hxy
        have HXY : Hid (x = y) := hxy
        clear hxy
        go_wp2
        go_region
        all_goals go_wp2_with (at_builtin; refine wpList_append_own _ rfl _ _ 26 rfl w2.heap.size 37 i0 (.agg #[.int .i64 0, .int .i64 0]) 2 16 Tryz.underlying26 hi hz0 hz1 hz2 rfl (by decide) _ _ _ rfl (hown.alloc _) ⟨wr.heap.size, 0, none⟩ 1 1 [numV i, numV j] rfl rfl (cells_new wr [numV i, numV j] 37) (by simp [Value.oneCell', numV]) (by unfold maxLen; omega) (by omega) (by have := hbl.size; simp; omega) ?_; intro v' w3 hown' hgrow _)
        go_roundw
        case rel =>
          have hb3 : Below w2.heap.size w2 w3 := (below_drewN (hbl.alloc hbl.size _) 1).grown hgrow (by have := hbl.size; simp; omega) (fun q hq => (hown.lt q hq).1)
          refine ⟨i + 1, j + 1, ps ++ [(i, j)], by omega, by omega, by go_num, by go_num, ?_, by simp; omega, ?_, hb3⟩
          · rw [List.length_append, pairCells_append]; exact hown'
          · rw [← HP.out, HX.out, HY.out, HXY.out, Df.cm_cons_eq, List.append_assoc]; rfl
        case measure => simp [intOf]; omega
      · have hbq2 : ((Ln.bs x).toList == (Ln.bs y).toList) = false := by rw [bs_beq]; exact decide_eq_false hxy
        have HXY : Hid (x ≠ y) := hxy
        obtain ⟨p0, hp0⟩ : ∃ p0, p0 = Df.lc (A.drop i) (B.drop (j + 1)) := ⟨_, rfl⟩
        obtain ⟨p1, hp1⟩ : ∃ p1, p1 = Df.lc (A.drop (i + 1)) (B.drop j) := ⟨_, rfl⟩
        rw [← hp0] at s0'
        rw [← hp1] at s1'
        have P0 : Hid (p0 = Df.lc (A.drop i) (B.drop (j + 1))) := hp0
        have P1 : Hid (p1 = Df.lc (A.drop (i + 1)) (B.drop j)) := hp1
        clear hp0 hp1 hxy
        by_cases hle : p0 ≤ p1
        · have e1 : decide ((p1 : Int) ≥ (p0 : Int)) = true := by simp; omega
          have e2 : decide ((p0 : Int) ≤ (p1 : Int)) = true := by simp; omega
          have e3 : decide (p0 ≤ p1) = true := by simp; omega
          go_wp2
          go_region
          all_goals go_wp2
          go_region
          all_goals go_wp2
          go_roundw
          case rel =>
            refine ⟨i + 1, j, ps, by omega, by omega, by go_num, rfl, hown, by omega, ?_, below_drewN hbl 2⟩
            rw [← HP.out, HX.out, HY.out, Df.cm_cons_left _ _ HXY.out _ _ (by rw [← HX.out, ← HY.out, ← P0.out, ← P1.out]; exact hle)]
          case measure => simp [intOf]; omega
        · have e1 : decide ((p1 : Int) ≥ (p0 : Int)) = false := by simp; omega
          have e2 : decide ((p0 : Int) ≤ (p1 : Int)) = false := by simp; omega
          have e3 : decide (p0 ≤ p1) = false := by simp; omega
          go_wp2
          go_region
          all_goals go_wp2
          go_region
          all_goals go_wp2
          go_roundw
          case rel =>
            refine ⟨i, j + 1, ps, by omega, by omega, rfl, by go_num, hown, by omega, ?_, below_drewN hbl 2⟩
            rw [← HP.out, HX.out, HY.out, Df.cm_cons_right _ _ HXY.out _ _ (by rw [← HX.out, ← HY.out, ← P0.out, ← P1.out]; exact hle)]
          case measure => simp [intOf]; omega
    · have HE : Hid (Df.cm i j (A.drop i) (B.drop j) = []) := by
        show Df.cm i j (A.drop i) (B.drop j) = []
        by_cases h1 : i < A.length
        · have e1 : B.drop j = [] := List.drop_eq_nil_of_le (by omega)
          rw [e1, Df.cm_nil_right]
        · have e1 : A.drop i = [] := List.drop_eq_nil_of_le (by omega)
          rw [e1, Df.cm_nil_left]
      have HR : Hid (ps = Df.cm 0 0 A B) := by
        show ps = Df.cm 0 0 A B
        have := HP.out
        rw [HE.out, List.append_nil] at this
        exact this
      have hq := owns_base hown hB2.size
      rw [HR.out] at hq
      have HQ : Hid (_) := hq
      clear hq
      clear hca hcb haa hbb
      by_cases h1 : i < A.length
      · have d1 : decide ((i : Int) < (A.length : Int)) = true := by simp; omega
        have d2 : decide ((j : Int) < (B.length : Int)) = false := by simp; omega
        have d3 : decide (j < B.length) = false := by simp; omega
        go_wp2
        go_ret
        exact ⟨_, rfl, HQ.out, hB2.trans (hbl.mono hB2.size)⟩
      · have d1 : decide ((i : Int) < (A.length : Int)) = false := by simp; omega
        have d3 : decide (i < A.length) = false := by simp; omega
        go_wp2
        go_ret
        exact ⟨_, rfl, HQ.out, hB2.trans (hbl.mono hB2.size)⟩

set_option maxHeartbeats 1000000 in
theorem refCommon_big (A B : List (List UInt8)) (va vb : Value) (w : World) (ha : RowLow w.heap.size w va A) (hb : RowLow w.heap.size w vb B) (h : ¬ (A.length ≤ 4096 ∧ B.length ≤ 4096)) :
    Calls Tryz.prog 10 #[va, vb] w fun e w' => e = .returned (.slice none 0 0) ∧ w' = w := by
  obtain ⟨ao1, cap1, b1, o1, rfl, -, -, -⟩ := ha.parts
  obtain ⟨ao2, cap2, b2, o2, rfl, -, -, -⟩ := hb.parts
  clear ha hb
  by_cases h1 : A.length ≤ 4096
  · have h2 : 4096 < B.length := by omega
    have q1 : decide ((4096 : Int) < (A.length : Int)) = false := by simp; omega
    have q3 : decide (4096 < A.length) = false := by simp; omega
    have q2 : decide ((4096 : Int) < (B.length : Int)) = true := by simp; omega
    have q4 : decide (4096 < B.length) = true := by simp; omega
    clear h
    go_enter Tryz.func10, Tryz.ntmps10
    go_wp2
    go_ret
    exact ⟨rfl, rfl⟩
  · have q1 : decide ((4096 : Int) < (A.length : Int)) = true := by simp; omega
    have q3 : decide (4096 < A.length) = true := by simp; omega
    clear h h1
    go_enter Tryz.func10, Tryz.ntmps10
    go_wp2
    go_ret
    exact ⟨rfl, rfl⟩

/-- The document's Common, of any two rows. -/
theorem refCommon_any (A B : List (List UInt8)) (va vb : Value) (w : World) (ha : RowLow w.heap.size w va A) (hb : RowLow w.heap.size w vb B) :
    Calls Tryz.prog 10 #[va, vb] w fun e w' => ∃ v, e = .returned v ∧ w'.ownsRow w.heap.size 37 2 v (Df.common A B).length (pairCells (Df.common A B)) ∧ Below w.heap.size w w' := by
  by_cases h : A.length ≤ 4096 ∧ B.length ≤ 4096
  · have e : Df.common A B = Df.cm 0 0 A B := if_pos h
    rw [e]
    exact refCommon_small A B va vb w ha hb h.1 h.2
  · have e : Df.common A B = [] := if_neg h
    rw [e]
    refine (refCommon_big A B va vb w ha hb h).mono ?_
    rintro e w' ⟨rfl, rfl⟩
    exact ⟨_, rfl, World.ownsRow_nil _ _ _ _, Below.refl _ _⟩

end Go.Proofs.YtpcinbfelikgpaaGreatDoor
