/-
  The walk of diff.Common: the row of pairs that is told.
-/
import Derived.Test.YtpcinbfelikgpaaLengths
namespace Go.Proofs.Ytpcinbfelikgpaa
open Go.RowKit

theorem info115s : (Try.prog.info? 115).map (fun i => (i.zero, i.size, i.bytes)) = some (some (.agg #[.int .i64 0, .int .i64 0]), 2, 16) := by kernel_rfl

/-- The cells of a row of pairs. -/
def pairCells (ps : List (Nat × Nat)) : List Value := ps.flatMap fun p => [numV p.1, numV p.2]
theorem pairCells_append (ps qs : List (Nat × Nat)) : pairCells (ps ++ qs) = pairCells ps ++ pairCells qs := by simp [pairCells]
theorem pairCells_len (ps : List (Nat × Nat)) : (pairCells ps).length = ps.length * 2 := by
  induction ps with
  | nil => rfl
  | cons p ps ih => 
    have : pairCells (p :: ps) = [numV p.1, numV p.2] ++ pairCells ps := rfl
    rw [this, List.length_append, ih]; simp; omega

theorem cells_new (w : World) (l : List Value) (t : TypeId) : ∀ (j : Nat) (u : Value), l[j]? = some u → (w.alloc (.cells l.toArray t)).cell? ((⟨w.heap.size, 0, none⟩ : Addr).add j) = some u := by
  intro j u hu
  have ha : (⟨w.heap.size, 0, none⟩ : Addr).add j = ⟨w.heap.size, j, none⟩ := by cases j <;> simp [Addr.add]
  rw [ha, Lib.cell_of_heap (World.alloc_heap_new w _)]
  simpa using hu

/-- numbered, by what is asked of the numbers behind it. -/
theorem numbered_rows (A B : List (List UInt8)) (va vb : Value) (w : World) (ha : RowLow w.heap.size w va A) (hb : RowLow w.heap.size w vb B) (hA : A.length ≤ 4096) (hB : B.length ≤ 4096)
    (sA : ∀ x ∈ A, x.length ≤ 1000000) (sB : ∀ x ∈ B, x.length ≤ 1000000) :
    Calls Try.prog 78 #[va, vb] w fun e w' => ∃ (gx gy : Nat) (xs ys : List Nat), e = .returned (.tuple #[.slice (some ⟨gx, 0, none⟩) xs.length xs.length, .slice (some ⟨gy, 0, none⟩) ys.length ys.length]) ∧
      w'.ownsRow w.heap.size 3 1 (.slice (some ⟨gx, 0, none⟩) xs.length xs.length) xs.length (xs.map numV) ∧
      w'.ownsRow w.heap.size 3 1 (.slice (some ⟨gy, 0, none⟩) ys.length ys.length) ys.length (ys.map numV) ∧
      xs.length = A.length ∧ ys.length = B.length ∧ Df.cm 0 0 xs ys = Df.cm 0 0 A B ∧ Below w.heap.size w w' := by
  refine (numbered_any A B va vb w ha hb hA hB sA sB).mono ?_
  rintro e w' ⟨gx, gy, f, rfl, h1, h2, h3, -, -, h4⟩
  refine ⟨gx, gy, A.map f, B.map f, by rw [List.length_map, List.length_map], ?_, ?_, by simp, by simp, Df.cm_map f 0 0 A B h3, h4⟩
  · rw [List.length_map, List.map_map]; exact h1
  · rw [List.length_map, List.map_map]; exact h2

set_option maxRecDepth 100000 in
set_option maxHeartbeats 8000000 in
theorem common_small (A B : List (List UInt8)) (va vb : Value) (w : World) (ha : RowLow w.heap.size w va A) (hb : RowLow w.heap.size w vb B) (hA : A.length ≤ 4096) (hB : B.length ≤ 4096)
    (sA : ∀ x ∈ A, x.length ≤ 1000000) (sB : ∀ x ∈ B, x.length ≤ 1000000) :
    Calls Try.prog 46 #[va, vb] w fun e w' => ∃ v, e = .returned v ∧ w'.ownsRow w.heap.size 115 2 v (Df.cm 0 0 A B).length (pairCells (Df.cm 0 0 A B)) ∧ Below w.heap.size w w' := by
  have hc1 := numbered_rows A B va vb w ha hb hA hB sA sB
  obtain ⟨ao1, cap1, b1, o1, rfl, -, -, -⟩ := ha.parts
  obtain ⟨ao2, cap2, b2, o2, rfl, -, -, -⟩ := hb.parts
  have HC : Hid (Calls Try.prog 78 #[.slice ao1 A.length cap1, .slice ao2 B.length cap2] w _) := hc1
  clear hc1 ha hb
  obtain ⟨i0, hi, hz0, hz1, hz2⟩ := info_parts info115s
  have q1 : decide ((4096 : Int) < (A.length : Int)) = false := by simp; omega
  have q2 : decide ((4096 : Int) < (B.length : Int)) = false := by simp; omega
  have q3 : decide (4096 < A.length) = false := by simp; omega
  have q4 : decide (4096 < B.length) = false := by simp; omega
  go_enter Try.func46, Try.ntmps46
  go_wp2_with fail
  refine HC.out.mono ?_
  rintro e w1 ⟨gx, gy, xs, ys, rfl, ox, oy, hxl, hyl, hcm, hb1⟩
  clear HC
  have HM : Hid (Df.cm 0 0 xs ys = Df.cm 0 0 A B) := hcm
  clear hcm
  have hx : xs.length ≤ 4096 := by omega
  have hy : ys.length ≤ 4096 := by omega
  clear hxl hyl
  go_wp2_with fail
  refine (lengths_any gx gy xs ys w1 hx hy _ _ ox oy).mono ?_
  rintro e w2 ⟨T, rfl, hT, htab, hb2⟩
  have hB2 : Below w.heap.size w w2 := hb1.trans (hb2.mono hb1.size)
  have cx := cells_num (owns_below ox hb2)
  have cy := cells_num (owns_below oy hb2)
  have HT : Hid (∀ i, i ≤ xs.length → TabRow w2 w1.heap.size T xs ys i) := htab
  clear htab
  have hgx := ((owns_below ox hb2).lt gx rfl).2
  have hgy := ((owns_below oy hb2).lt gy rfl).2
  clear ox oy hb1 hb2
  go_wp2
  go_loopw [8, 9, 10] (fun t u v wr => ∃ (i j : Nat) (ps : List (Nat × Nat)), i ≤ xs.length ∧ j ≤ ys.length ∧ u = .int .i64 i ∧ v = .int .i64 j ∧ wr.ownsRow w2.heap.size 115 2 t ps.length (pairCells ps) ∧ ps.length ≤ i ∧
    ps ++ Df.cm i j (xs.drop i) (ys.drop j) = Df.cm 0 0 xs ys ∧ Below w2.heap.size w2 wr) (fun _ u v _ => (xs.length - (intOf u).toNat) + (ys.length - (intOf v).toNat))
  case atStart => exact ⟨0, 0, [], Nat.zero_le _, Nat.zero_le _, rfl, rfl, World.ownsRow_nil _ _ _ _, Nat.le_refl _, rfl, Below.refl _ _⟩
  case round =>
    obtain ⟨i, j, ps, hil, hjl, rfl, rfl, hown, hpl, hps, hbl⟩ := hrel
    have HP : Hid (ps ++ Df.cm i j (xs.drop i) (ys.drop j) = Df.cm 0 0 xs ys) := hps
    clear hps
    by_cases hij : i < xs.length ∧ j < ys.length
    · obtain ⟨h1, h2⟩ := hij
      have d1 : decide ((i : Int) < (xs.length : Int)) = true := by simp; omega
      have d2 : decide ((j : Int) < (ys.length : Int)) = true := by simp; omega
      obtain ⟨x, hxi⟩ : ∃ x, xs[i]? = some x := ⟨xs[i], List.getElem?_eq_getElem h1⟩
      obtain ⟨y, hyj⟩ : ∃ y, ys[j]? = some y := ⟨ys[j], List.getElem?_eq_getElem h2⟩
      have cxi : wr.cell? ⟨gx, i, none⟩ = some (.int .i64 (x : Int)) := (hbl.cell (p := ⟨gx, i, none⟩) hgx).trans (cx i x hxi)
      have cyj : wr.cell? ⟨gy, j, none⟩ = some (.int .i64 (y : Int)) := (hbl.cell (p := ⟨gy, j, none⟩) hgy).trans (cy j y hyj)
      have HX : Hid (xs.drop i = x :: xs.drop (i + 1)) := Df.drop_at hxi
      have HY : Hid (ys.drop j = y :: ys.drop (j + 1)) := Df.drop_at hyj
      obtain ⟨g0, -, hg0, t0, s0⟩ := (HT.out i (by omega)).cell
      obtain ⟨g1, -, hg1, t1, s1⟩ := (HT.out (i + 1) (by omega)).cell
      have t0' : wr.cell? ⟨T, i, none⟩ = some (.slice (some ⟨g0, 0, none⟩) (ys.length + 1) (ys.length + 1)) := (hbl.cell (p := ⟨T, i, none⟩) hT).trans t0
      have t1' : wr.cell? ⟨T, i + 1, none⟩ = some (.slice (some ⟨g1, 0, none⟩) (ys.length + 1) (ys.length + 1)) := (hbl.cell (p := ⟨T, i + 1, none⟩) hT).trans t1
      have s0' : wr.cell? ⟨g0, j + 1, none⟩ = some (.int .u16 (Df.lc (xs.drop i) (ys.drop (j + 1)))) := (hbl.cell (p := ⟨g0, j + 1, none⟩) hg0).trans (s0 (j + 1) (by omega))
      have s1' : wr.cell? ⟨g1, j, none⟩ = some (.int .u16 (Df.lc (xs.drop (i + 1)) (ys.drop j))) := (hbl.cell (p := ⟨g1, j, none⟩) hg1).trans (s1 j (by omega))
      clear cx cy t0 t1 s0 s1 hxi hyj
      by_cases hxy : x = y
      · subst hxy
        go_wp2
        go_region
        all_goals go_wp2_with (at_builtin; refine wpList_append_own _ rfl _ _ 80 rfl w2.heap.size 115 i0 (.agg #[.int .i64 0, .int .i64 0]) 2 16 Try.underlying80 hi hz0 hz1 hz2 rfl (by decide) _ _ _ rfl (hown.alloc _) ⟨wr.heap.size, 0, none⟩ 1 1 [numV i, numV j] rfl rfl (cells_new wr [numV i, numV j] 115) (by simp [Value.oneCell', numV]) (by unfold maxLen; omega) (by omega) (by have := hbl.size; simp; omega) ?_; intro v' w3 hown' hgrow _)
        go_roundw
        case rel =>
          have hb3 : Below w2.heap.size w2 w3 := (below_drewN (hbl.alloc hbl.size _) 1).grown hgrow (by have := hbl.size; simp; omega) (fun q hq => (hown.lt q hq).1)
          refine ⟨i + 1, j + 1, ps ++ [(i, j)], by omega, by omega, by go_num, by go_num, ?_, by simp; omega, ?_, hb3⟩
          · rw [List.length_append, pairCells_append]; exact hown'
          · rw [← HP.out, HX.out, HY.out, Df.cm_cons_eq, List.append_assoc]; rfl
        case measure => simp [intOf]; omega
      · have hxyb : ((x : Int) == (y : Int)) = false := by rw [beq_eq_false_iff_ne]; omega
        have hxyd : decide ((x : Int) = (y : Int)) = false := by simp; omega
        have hxyn : decide (x = y) = false := by simp; omega
        have HXY : Hid (x ≠ y) := hxy
        obtain ⟨p0, hp0⟩ : ∃ p0, p0 = Df.lc (xs.drop i) (ys.drop (j + 1)) := ⟨_, rfl⟩
        obtain ⟨p1, hp1⟩ : ∃ p1, p1 = Df.lc (xs.drop (i + 1)) (ys.drop j) := ⟨_, rfl⟩
        rw [← hp0] at s0'
        rw [← hp1] at s1'
        have P0 : Hid (p0 = Df.lc (xs.drop i) (ys.drop (j + 1))) := hp0
        have P1 : Hid (p1 = Df.lc (xs.drop (i + 1)) (ys.drop j)) := hp1
        clear hp0 hp1 hxy
        by_cases hle : p0 ≤ p1
        · have e1 : decide ((p1 : Int) ≥ (p0 : Int)) = true := by simp; omega
          have e2 : decide ((p0 : Int) ≤ (p1 : Int)) = true := by simp; omega
          have e3 : decide (p0 ≤ p1) = true := by simp; omega
          go_wp2
          go_region
          all_goals go_wp2
          go_region
          all_goals go_wp2
          go_roundw
          case rel =>
            refine ⟨i + 1, j, ps, by omega, by omega, by go_num, rfl, hown, by omega, ?_, below_drewN hbl 2⟩
            rw [← HP.out, HX.out, HY.out, Df.cm_cons_left _ _ HXY.out _ _ (by rw [← HX.out, ← HY.out, ← P0.out, ← P1.out]; exact hle)]
          case measure => simp [intOf]; omega
        · have e1 : decide ((p1 : Int) ≥ (p0 : Int)) = false := by simp; omega
          have e2 : decide ((p0 : Int) ≤ (p1 : Int)) = false := by simp; omega
          have e3 : decide (p0 ≤ p1) = false := by simp; omega
          go_wp2
          go_region
          all_goals go_wp2
          go_region
          all_goals go_wp2
          go_roundw
          case rel =>
            refine ⟨i, j + 1, ps, by omega, by omega, rfl, by go_num, hown, by omega, ?_, below_drewN hbl 2⟩
            rw [← HP.out, HX.out, HY.out, Df.cm_cons_right _ _ HXY.out _ _ (by rw [← HX.out, ← HY.out, ← P0.out, ← P1.out]; exact hle)]
          case measure => simp [intOf]; omega
    · have HE : Hid (Df.cm i j (xs.drop i) (ys.drop j) = []) := by
        show Df.cm i j (xs.drop i) (ys.drop j) = []
        by_cases h1 : i < xs.length
        · have e1 : ys.drop j = [] := List.drop_eq_nil_of_le (by omega)
          rw [e1, Df.cm_nil_right]
        · have e1 : xs.drop i = [] := List.drop_eq_nil_of_le (by omega)
          rw [e1, Df.cm_nil_left]
      have HR : Hid (ps = Df.cm 0 0 A B) := by
        show ps = Df.cm 0 0 A B
        have := HP.out
        rw [HE.out, List.append_nil] at this
        rw [this]; exact HM.out
      have hq := owns_base hown hB2.size
      rw [HR.out] at hq
      have HQ : Hid (_) := hq
      clear hq
      clear cx cy
      by_cases h1 : i < xs.length
      · have d1 : decide ((i : Int) < (xs.length : Int)) = true := by simp; omega
        have d2 : decide ((j : Int) < (ys.length : Int)) = false := by simp; omega
        have d3 : decide (j < ys.length) = false := by simp; omega
        go_wp2
        go_ret
        exact ⟨_, rfl, HQ.out, hB2.trans (hbl.mono hB2.size)⟩
      · have d1 : decide ((i : Int) < (xs.length : Int)) = false := by simp; omega
        have d3 : decide (i < xs.length) = false := by simp; omega
        go_wp2
        go_ret
        exact ⟨_, rfl, HQ.out, hB2.trans (hbl.mono hB2.size)⟩

set_option maxHeartbeats 1000000 in
theorem common_big (A B : List (List UInt8)) (va vb : Value) (w : World) (ha : RowLow w.heap.size w va A) (hb : RowLow w.heap.size w vb B) (h : ¬ (A.length ≤ 4096 ∧ B.length ≤ 4096)) :
    Calls Try.prog 46 #[va, vb] w fun e w' => e = .returned (.slice none 0 0) ∧ w' = w := by
  obtain ⟨ao1, cap1, b1, o1, rfl, -, -, -⟩ := ha.parts
  obtain ⟨ao2, cap2, b2, o2, rfl, -, -, -⟩ := hb.parts
  clear ha hb
  by_cases h1 : A.length ≤ 4096
  · have h2 : 4096 < B.length := by omega
    have q1 : decide ((4096 : Int) < (A.length : Int)) = false := by simp; omega
    have q3 : decide (4096 < A.length) = false := by simp; omega
    have q2 : decide ((4096 : Int) < (B.length : Int)) = true := by simp; omega
    have q4 : decide (4096 < B.length) = true := by simp; omega
    clear h
    go_enter Try.func46, Try.ntmps46
    go_wp2
    go_ret
    exact ⟨rfl, rfl⟩
  · have q1 : decide ((4096 : Int) < (A.length : Int)) = true := by simp; omega
    have q3 : decide (4096 < A.length) = true := by simp; omega
    clear h h1
    go_enter Try.func46, Try.ntmps46
    go_wp2
    go_ret
    exact ⟨rfl, rfl⟩

/-- Common, of any two rows: what the document tells, in new memory. -/
theorem common_any (A B : List (List UInt8)) (va vb : Value) (w : World) (ha : RowLow w.heap.size w va A) (hb : RowLow w.heap.size w vb B) (sA : ∀ x ∈ A, x.length ≤ 1000000) (sB : ∀ x ∈ B, x.length ≤ 1000000) :
    Calls Try.prog 46 #[va, vb] w fun e w' => ∃ v, e = .returned v ∧ w'.ownsRow w.heap.size 115 2 v (Df.common A B).length (pairCells (Df.common A B)) ∧ Below w.heap.size w w' := by
  by_cases h : A.length ≤ 4096 ∧ B.length ≤ 4096
  · have e : Df.common A B = Df.cm 0 0 A B := if_pos h
    rw [e]
    exact common_small A B va vb w ha hb h.1 h.2 sA sB
  · have e : Df.common A B = [] := if_neg h
    rw [e]
    refine (common_big A B va vb w ha hb h).mono ?_
    rintro e w' ⟨rfl, rfl⟩
    exact ⟨_, rfl, World.ownsRow_nil _ _ _ _, Below.refl _ _⟩

end Go.Proofs.Ytpcinbfelikgpaa
