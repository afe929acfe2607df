/-
  The walk of clerestoryref02.longest: the document's table of how long a longest row is.
-/
import Derived.Test.YtpcinbfelikgpaaGreatDoorLengths
namespace Go.Proofs.YtpcinbfelikgpaaGreatDoor
open Go.RowKit

theorem info41s : (Tryz.prog.info? 41).map (fun i => (i.zero, i.size, i.bytes)) = some (some (.slice none 0 0), 1, 24) := by kernel_rfl

/-- The row of the table for xs, filled from place j on. -/
def rtVals (xs ys : List (List UInt8)) (j : Nat) : List Value := (List.range (ys.length + 1)).map fun k => if j ≤ k then .int .i64 (Df.lc xs (ys.drop k)) else .int .i64 0
theorem rtVals_len (xs ys : List (List UInt8)) (j : Nat) : (rtVals xs ys j).length = ys.length + 1 := by simp [rtVals]
theorem rtVals_get (xs ys : List (List UInt8)) (j k : Nat) (hk : k ≤ ys.length) (hj : j ≤ k) : (rtVals xs ys j)[k]? = some (.int .i64 (Df.lc xs (ys.drop k))) := by
  unfold rtVals
  rw [List.getElem?_map, List.getElem?_range (by omega)]
  simp [hj]
theorem rtVals_start (xs ys : List (List UInt8)) : rtVals xs ys ys.length = List.replicate (ys.length + 1) (.int .i64 0) := by
  apply List.ext_getElem?
  intro k
  unfold rtVals
  by_cases hk : k < ys.length + 1
  · rw [List.getElem?_map, List.getElem?_range hk, List.getElem?_replicate, if_pos hk]
    by_cases e : ys.length ≤ k
    · have : k = ys.length := by omega
      subst this
      simp [Df.lc_nil_right]
    · simp [e]
  · rw [List.getElem?_eq_none (by simp; omega), List.getElem?_eq_none (by simp; omega)]
theorem rtVals_none (ys : List (List UInt8)) (m : Nat) : rtVals [] ys m = List.replicate (ys.length + 1) (.int .i64 0) := by
  apply List.ext_getElem?
  intro k
  unfold rtVals
  by_cases hk : k < ys.length + 1
  · rw [List.getElem?_map, List.getElem?_range hk, List.getElem?_replicate, if_pos hk]
    simp [Df.lc_nil_left]
  · rw [List.getElem?_eq_none (by simp; omega), List.getElem?_eq_none (by simp; omega)]
theorem rtVals_set (xs ys : List (List UInt8)) (j : Nat) (hj : j < ys.length) : (rtVals xs ys (j + 1)).set j (.int .i64 (Df.lc xs (ys.drop j))) = rtVals xs ys j := by
  apply List.ext_getElem?
  intro k
  rw [List.getElem?_set]
  by_cases hk : k < ys.length + 1
  · by_cases e : j = k
    · subst e
      rw [if_pos rfl, if_pos (by rw [rtVals_len]; omega), rtVals_get xs ys j j (by omega) (Nat.le_refl _)]
    · rw [if_neg e]
      unfold rtVals
      rw [List.getElem?_map, List.getElem?_map, List.getElem?_range hk]
      simp only [Option.map_some]
      congr 1
      by_cases e2 : j ≤ k
      · rw [if_pos e2, if_pos (by omega)]
      · rw [if_neg e2, if_neg (by omega)]
  · rw [if_neg (by omega), List.getElem?_eq_none (by rw [rtVals_len]; omega), List.getElem?_eq_none (by rw [rtVals_len]; omega)]

/-- Row i of the table stands where it must. -/
def RTab (w : World) (B T : Nat) (xs ys : List (List UInt8)) (i : Nat) : Prop :=
  ∃ g, w.cell? ⟨T, i, none⟩ = some (.slice (some ⟨g, 0, none⟩) (ys.length + 1) (ys.length + 1)) ∧ w.ownsRow B 3 1 (.slice (some ⟨g, 0, none⟩) (ys.length + 1) (ys.length + 1)) (ys.length + 1) (rtVals (xs.drop i) ys 0)
theorem RTab.cell {w : World} {B T : Nat} {xs ys : List (List UInt8)} {i : Nat} (h : RTab w B T xs ys i) : ∃ g, B ≤ g ∧ g < w.heap.size ∧ w.cell? ⟨T, i, none⟩ = some (.slice (some ⟨g, 0, none⟩) (ys.length + 1) (ys.length + 1)) ∧ ∀ j, j ≤ ys.length → w.cell? ⟨g, j, none⟩ = some (.int .i64 (Df.lc (xs.drop i) (ys.drop j))) := by
  obtain ⟨g, hc, ho⟩ := h
  refine ⟨g, (ho.lt g rfl).1, (ho.lt g rfl).2, hc, fun j hj => ?_⟩
  rw [ho.cellAt j (by omega), rtVals_get _ _ _ _ hj (Nat.zero_le _)]
theorem RTab.kept {w w' : World} {B T G : Nat} {xs ys : List (List UInt8)} {i : Nat} (h : RTab w B T xs ys i) (hg : w.grownBy w' (some G)) (hG : ∀ g, w.cell? ⟨T, i, none⟩ = some (.slice (some ⟨g, 0, none⟩) (ys.length + 1) (ys.length + 1)) → g ≠ G) (hc : w'.cell? ⟨T, i, none⟩ = w.cell? ⟨T, i, none⟩) : RTab w' B T xs ys i := by
  obtain ⟨g, h1, h2⟩ := h
  exact ⟨g, hc.trans h1, h2.kept hg (.inr (fun e => hG g h1 (Option.some.inj e)))⟩

theorem rlc_eq (xs ys : List (List UInt8)) (i j : Nat) (x : List UInt8) (hx : xs[i]? = some x) (hy : ys[j]? = some x) : Df.lc (xs.drop i) (ys.drop j) = Df.lc (xs.drop (i + 1)) (ys.drop (j + 1)) + 1 := by
  rw [Df.drop_at hx, Df.drop_at hy, Df.lc_cons_eq]
theorem rlc_ne (xs ys : List (List UInt8)) (i j : Nat) (x y : List UInt8) (hx : xs[i]? = some x) (hy : ys[j]? = some y) (h : x ≠ y) : Df.lc (xs.drop i) (ys.drop j) = max (Df.lc (xs.drop (i + 1)) (ys.drop j)) (Df.lc (xs.drop i) (ys.drop (j + 1))) := by
  rw [Df.drop_at hx, Df.drop_at hy, Df.lc_cons_ne h]
theorem rlc_le (xs ys : List (List UInt8)) (j : Nat) (h : ys.length ≤ 4096) : Df.lc xs (ys.drop j) ≤ 4096 := by
  have := Df.lc_le_right xs (ys.drop j)
  rw [List.length_drop] at this
  omega

set_option maxRecDepth 100000 in
set_option maxHeartbeats 16000000 in
theorem longest_any (A B : List (List UInt8)) (va vb : Value) (w : World) (ha : RowLow w.heap.size w va A) (hb : RowLow w.heap.size w vb B) (hA : A.length ≤ 4096) (hB : B.length ≤ 4096) :
    Calls Tryz.prog 22 #[va, vb] w fun e w' => ∃ T, e = .returned (.slice (some ⟨T, 0, none⟩) (A.length + 1) (A.length + 1)) ∧ T < w'.heap.size ∧ (∀ i, i ≤ A.length → RTab w' w.heap.size T A B i) ∧ Below w.heap.size w w' := by
  obtain ⟨oa, ca, ba, fa, rfl, -, haa, hca⟩ := ha.parts
  obtain ⟨ob, cb, bb, fb, rfl, -, hbb, hcb⟩ := hb.parts
  clear ha hb
  have hmk1 : ∀ w : World, (Instr.makeSlice 51 (.int .i64 ((A.length : Int) + 1)) (.int .i64 ((A.length : Int) + 1))).run Tryz.prog w = .ok (.slice (some ⟨w.heap.size, 0, none⟩) (A.length + 1) (A.length + 1)) (w.alloc (.cells (madeCells #[.slice none 0 0] (A.length + 1)) 41)) :=
    fun w => run_make_row' (P := Tryz.prog) 51 41 (.slice none 0 0) 24 Tryz.underlying51 info41s rfl .i64 .i64 (A.length + 1) (by omega) (by omega) w
  have hmk2 : ∀ w : World, (Instr.makeSlice 41 (.int .i64 ((B.length : Int) + 1)) (.int .i64 ((B.length : Int) + 1))).run Tryz.prog w = .ok (.slice (some ⟨w.heap.size, 0, none⟩) (B.length + 1) (B.length + 1)) (w.alloc (.cells (madeCells #[.int .i64 0] (B.length + 1)) 3)) :=
    fun w => run_make_row' (P := Tryz.prog) 41 3 (.int .i64 0) 8 Tryz.underlying41 info3 rfl .i64 .i64 (B.length + 1) (by omega) (by omega) w
  have oT0 : (w.alloc (.cells (madeCells #[.slice none 0 0] (A.length + 1)) 41)).ownsRow w.heap.size 41 1 (.slice (some ⟨w.heap.size, 0, none⟩) (A.length + 1) (A.length + 1)) (A.length + 1) (madeCells #[.slice none 0 0] (A.length + 1)).toList :=
    World.ownsRow_lit (e := 41) (size := 1) w (madeCells #[.slice none 0 0] (A.length + 1)) (A.length + 1) (Nat.le_refl _) (by unfold maxLen; omega) (by rw [size_madeCells, Nat.mul_one])
  have hb0 : Below w.heap.size w (w.alloc (.cells (madeCells #[.slice none 0 0] (A.length + 1)) 41)) := (Below.refl _ w).alloc (Nat.le_refl _) _
  go_enter Tryz.func22, Tryz.ntmps22
  go_wp2
  go_loopw [6] (fun v wr => ∃ (k : Nat) (tab : List Value), k ≤ A.length + 1 ∧ v = .int .i64 ((k : Int) - 1) ∧ wr.ownsRow w.heap.size 41 1 (.slice (some ⟨w.heap.size, 0, none⟩) (A.length + 1) (A.length + 1)) (A.length + 1) tab ∧
    (∀ i, k ≤ i → i ≤ A.length → RTab wr (w.heap.size + 1) w.heap.size A B i) ∧ Below w.heap.size w wr) (fun v _ => (intOf v + 1).toNat)
  case atStart => exact ⟨A.length + 1, _, Nat.le_refl _, by go_num, oT0, fun i h1 h2 => absurd h1 (by omega), hb0⟩
  case round =>
    obtain ⟨k, tab, hk, rfl, hT, hrows, hbl⟩ := hrel
    clear oT0 hb0
    have hTs := (hT.lt w.heap.size rfl).2
    by_cases h0 : k = 0
    · subst h0
      clear hca hcb haa hbb
      go_wp2
      go_ret
      exact ⟨w.heap.size, rfl, hTs, fun i hi => (by obtain ⟨g, q1, q2⟩ := hrows i (Nat.zero_le _) hi; exact ⟨g, q1, owns_base q2 (by omega)⟩), hbl⟩
    · obtain ⟨i, rfl⟩ : ∃ i, k = i + 1 := ⟨k - 1, by omega⟩
      clear h0
      have h01 : ((i + 1 : Nat) : Int) - 1 = (i : Int) := by omega
      rw [h01]
      obtain ⟨u0, cT⟩ := owns_cell hT i (by omega)
      have fT := hT.frozenAt i
      have cT1 : ∀ o, (wr.alloc o).cell? ⟨w.heap.size, i, none⟩ = some u0 := fun o => (((Below.refl wr.heap.size wr).alloc (Nat.le_refl _) o).cell (p := ⟨w.heap.size, i, none⟩) hTs).trans cT
      have fT1 : ∀ o, (wr.alloc o).frozen? ⟨w.heap.size, i, none⟩ = false := fun o => (hT.alloc o).frozenAt i
      have hin : i < A.length + 1 := by omega
      go_wp2
      obtain ⟨Y, hY⟩ : ∃ Y, Y = (wr.setCell ⟨w.heap.size, i, none⟩ (.slice (some ⟨wr.heap.size, 0, none⟩) (B.length + 1) (B.length + 1))).alloc (.cells (madeCells #[.int .i64 0] (B.length + 1)) 3) := ⟨_, rfl⟩
      have hst := hT.stored i (.slice (some ⟨wr.heap.size, 0, none⟩) (B.length + 1) (B.length + 1))
      have hsw : (wr.setCell ⟨w.heap.size, i, none⟩ (.slice (some ⟨wr.heap.size, 0, none⟩) (B.length + 1) (B.length + 1))).heap.size = wr.heap.size := by simp
      have oT1 : Y.ownsRow w.heap.size 41 1 (.slice (some ⟨w.heap.size, 0, none⟩) (A.length + 1) (A.length + 1)) (A.length + 1) (tab.set i (.slice (some ⟨wr.heap.size, 0, none⟩) (B.length + 1) (B.length + 1))) := by rw [hY]; exact hst.1.alloc _
      have oR : Y.ownsRow (w.heap.size + 1) 3 1 (.slice (some ⟨wr.heap.size, 0, none⟩) (B.length + 1) (B.length + 1)) (B.length + 1) (rtVals (A.drop i) B B.length) := by
        have h := World.ownsRow_lit (e := 3) (size := 1) (base := w.heap.size + 1) (wr.setCell ⟨w.heap.size, i, none⟩ (.slice (some ⟨wr.heap.size, 0, none⟩) (B.length + 1) (B.length + 1))) (madeCells #[.int .i64 0] (B.length + 1)) (B.length + 1) (by omega) (by unfold maxLen; omega) (by rw [size_madeCells, Nat.mul_one])
        rw [toList_madeCells_one, ← rtVals_start (A.drop i) B, hsw] at h
        rw [hY]; exact h
      have hgY : wr.grownBy Y (some w.heap.size) := by
        rw [hY]; exact grown_trans hst.2 (World.grownBy_alloc _ _ none) (fun j hj => by cases hj)
      have hsY : Y.heap.size = wr.heap.size + 1 := by rw [hY]; simp
      have hbY : Below w.heap.size w Y := hbl.trans (below_of_grown hgY (Nat.le_refl _) (Nat.le_of_lt hTs))
      have hlt := hT.1
      have cYi : Y.cell? ⟨w.heap.size, i, none⟩ = some (.slice (some ⟨wr.heap.size, 0, none⟩) (B.length + 1) (B.length + 1)) := by
        rw [oT1.cellAt i (by omega), List.getElem?_set, if_pos rfl, if_pos (by omega)]
      have hrY : ∀ i', i + 1 ≤ i' → i' ≤ A.length → RTab Y (w.heap.size + 1) w.heap.size A B i' := fun i' q1 q2 => by
        refine (hrows i' q1 q2).kept hgY (fun g hg e => ?_) ?_
        · obtain ⟨g', q3, q4⟩ := hrows i' q1 q2
          rw [q3] at hg
          injection hg with hg
          injection hg with hg _ _
          injection hg with hg
          injection hg with hg _ _
          have := (q4.lt g' rfl).1
          omega
        · rw [oT1.cellAt i' (by omega), hT.cellAt i' (by omega), List.getElem?_set, if_neg (by omega)]
      have hrlt : ∀ i', i + 1 ≤ i' → i' ≤ A.length → ∀ g, Y.cell? ⟨w.heap.size, i', none⟩ = some (.slice (some ⟨g, 0, none⟩) (B.length + 1) (B.length + 1)) → g ≠ wr.heap.size := fun i' q1 q2 g hg e => by
        obtain ⟨g', q3, q4⟩ := hrows i' q1 q2
        have q5 : Y.cell? ⟨w.heap.size, i', none⟩ = wr.cell? ⟨w.heap.size, i', none⟩ := by rw [oT1.cellAt i' (by omega), hT.cellAt i' (by omega), List.getElem?_set, if_neg (by omega)]
        rw [q5, q3] at hg
        injection hg with hg
        injection hg with hg _ _
        injection hg with hg
        injection hg with hg _ _
        have := (q4.lt g' rfl).2
        omega
      rw [← hY]
      clear hY hst hsw cT fT cT1 fT1 hmk1 hmk2 hT hrows hgY hbl
      obtain ⟨R, hR⟩ : ∃ R, R = wr.heap.size := ⟨_, rfl⟩
      rw [← hR] at oT1 oR hsY cYi hrlt hTs
      simp only [← hR]
      clear hR
      go_loopw [7] (fun v wq => ∃ m : Nat, m ≤ B.length ∧ v = .int .i64 ((m : Int) - 1) ∧ wq.ownsRow (w.heap.size + 1) 3 1 (.slice (some ⟨R, 0, none⟩) (B.length + 1) (B.length + 1)) (B.length + 1) (rtVals (A.drop i) B m) ∧ Y.grownBy wq (some R)) (fun v _ => (intOf v + 1).toNat)
      case atStart => exact ⟨B.length, Nat.le_refl _, rfl, oR, ⟨rfl, rfl, rfl, Nat.le_refl _, fun _ _ _ => rfl⟩⟩
      case round =>
        obtain ⟨m, hm, rfl, hown, hgq⟩ := hrel
        have hneT : some w.heap.size ≠ some R := fun e => by have := Option.some.inj e; omega
        have hcT : ∀ i', wr.cell? ⟨w.heap.size, i', none⟩ = Y.cell? ⟨w.heap.size, i', none⟩ := fun i' => World.cell?_of_block (a := ⟨w.heap.size, i', none⟩) (hgq.block w.heap.size (by omega) hneT)
        have hbq : Below w.heap.size w wr := hbY.trans (below_of_grown hgq (Nat.le_of_lt hTs) (by omega))
        have FIN : Hid (rtVals (A.drop i) B m = rtVals (A.drop i) B 0 → (∃ (k : Nat) (tab : List Value), k ≤ A.length + 1 ∧ (.int .i64 ((i : Int) - 1) : Value) = .int .i64 ((k : Int) - 1) ∧ wr.ownsRow w.heap.size 41 1 (.slice (some ⟨w.heap.size, 0, none⟩) (A.length + 1) (A.length + 1)) (A.length + 1) tab ∧
            (∀ i, k ≤ i → i ≤ A.length → RTab wr (w.heap.size + 1) w.heap.size A B i) ∧ Below w.heap.size w wr)) := fun e => by
          rw [e] at hown
          refine ⟨i, _, by omega, rfl, oT1.kept hgq (.inr hneT), fun i' q1 q2 => ?_, hbq⟩
          by_cases hii : i' = i
          · subst hii
            exact ⟨R, (hcT i').trans cYi, hown⟩
          · exact (hrY i' (by omega) q2).kept hgq (hrlt i' (by omega) q2) (hcT i')
        by_cases hi : i < A.length
        · have d2 : decide ((i : Int) < (A.length : Int)) = true := by simp; omega
          by_cases hm0 : m = 0
          · subst hm0
            clear hca hcb haa hbb hrY hrlt hcT
            go_wp2
            go_roundw
            case rel => exact FIN.out rfl
            case measure => simp [intOf]
          · obtain ⟨j, rfl⟩ : ∃ j, m = j + 1 := ⟨m - 1, by omega⟩
            clear hm0 FIN
            have h02 : ((j + 1 : Nat) : Int) - 1 = (j : Int) := by omega
            rw [h02]
            obtain ⟨x, hx⟩ : ∃ x, A[i]? = some x := ⟨A[i], List.getElem?_eq_getElem hi⟩
            obtain ⟨y, hy⟩ : ∃ y, B[j]? = some y := ⟨B[j]'(by omega), List.getElem?_eq_getElem (by omega)⟩
            obtain ⟨rfl, hba⟩ := haa (by omega)
            obtain ⟨rfl, hbb'⟩ := hbb (by omega)
            have cx : wr.cell? ⟨ba, fa + i, none⟩ = some (.string (Ln.bs x)) := (hbq.cell (p := ⟨ba, fa + i, none⟩) hba).trans (hca i x hx)
            have cy : wr.cell? ⟨bb, fb + j, none⟩ = some (.string (Ln.bs y)) := (hbq.cell (p := ⟨bb, fb + j, none⟩) hbb').trans (hcb j y hy)
            have t0 : wr.cell? ⟨w.heap.size, i, none⟩ = some (.slice (some ⟨R, 0, none⟩) (B.length + 1) (B.length + 1)) := (hcT i).trans cYi
            obtain ⟨g1, hg1, hg1', t1Y, s1Y⟩ := (hrY (i + 1) (Nat.le_refl _) (by omega)).cell
            have hne1 := hrlt (i + 1) (Nat.le_refl _) (by omega) g1 t1Y
            have t1 : wr.cell? ⟨w.heap.size, i + 1, none⟩ = some (.slice (some ⟨g1, 0, none⟩) (B.length + 1) (B.length + 1)) := (hcT (i + 1)).trans t1Y
            have s1 : ∀ j', j' ≤ B.length → wr.cell? ⟨g1, j', none⟩ = some (.int .i64 (Df.lc (A.drop (i + 1)) (B.drop j'))) := fun j' hj' => (World.cell?_of_block (a := ⟨g1, j', none⟩) (hgq.block g1 hg1' (fun e => hne1 (Option.some.inj e)))).trans (s1Y j' hj')
            have k0 := s1 j (by omega)
            have k1 := s1 (j + 1) (by omega)
            have k2 : wr.cell? ⟨R, j + 1, none⟩ = some (.int .i64 (Df.lc (A.drop i) (B.drop (j + 1)))) := by
              rw [hown.cellAt (j + 1) (by omega), rtVals_get _ _ _ _ (by omega) (Nat.le_refl _)]
            obtain ⟨u0, cS⟩ := owns_cell hown j (by omega)
            have fS := hown.frozenAt j
            have m0 := rlc_le (A.drop (i + 1)) B j hB
            have m1 := rlc_le (A.drop (i + 1)) B (j + 1) hB
            have m2 := rlc_le (A.drop i) B (j + 1) hB
            have HE : Hid (x = y → Df.lc (A.drop i) (B.drop j) = Df.lc (A.drop (i + 1)) (B.drop (j + 1)) + 1) := fun e => rlc_eq A B i j x hx (by rw [e]; exact hy)
            have HD : Hid (x ≠ y → Df.lc (A.drop i) (B.drop j) = max (Df.lc (A.drop (i + 1)) (B.drop j)) (Df.lc (A.drop i) (B.drop (j + 1)))) := fun e => rlc_ne A B i j x y hx hy e
            have hst := hown.stored j (.int .i64 (Df.lc (A.drop i) (B.drop j)))
            rw [rtVals_set _ _ _ (by omega)] at hst
            have HS : Hid ((wr.setCell ⟨R, j, none⟩ (.int .i64 (Df.lc (A.drop i) (B.drop j)))).ownsRow (w.heap.size + 1) 3 1 (.slice (some ⟨R, 0, none⟩) (B.length + 1) (B.length + 1)) (B.length + 1) (rtVals (A.drop i) B j) ∧ Y.grownBy (wr.setCell ⟨R, j, none⟩ (.int .i64 (Df.lc (A.drop i) (B.drop j)))) (some R)) := ⟨hst.1, grown_trans hgq hst.2 (fun j hj => .inl (by cases hj; rfl))⟩
            obtain ⟨p0, hp0⟩ : ∃ p0, p0 = Df.lc (A.drop (i + 1)) (B.drop j) := ⟨_, rfl⟩
            obtain ⟨p1, hp1⟩ : ∃ p1, p1 = Df.lc (A.drop (i + 1)) (B.drop (j + 1)) := ⟨_, rfl⟩
            obtain ⟨p2, hp2⟩ : ∃ p2, p2 = Df.lc (A.drop i) (B.drop (j + 1)) := ⟨_, rfl⟩
            rw [← hp0] at k0 m0 HD
            rw [← hp1] at k1 m1 HE
            rw [← hp2] at k2 m2 HD
            have hjB : j < B.length := by omega
            clear hp0 hp1 hp2 hst hown hca hcb haa hbb hx hy s1 s1Y t1Y hrY hrlt hcT cYi oT1 oR
            by_cases hxy : x = y
            · have he := HE.out hxy
              have hbq2 : ((Ln.bs x).toList == (Ln.bs y).toList) = true := by rw [bs_beq]; exact decide_eq_true hxy
              clear HE HD
              go_wp2
              go_region
              all_goals go_wp2
              go_region
              all_goals go_wp2
              all_goals go_roundw
              case rel =>
                have hs := HS.out
                have ev : (Value.int .i64 ((Df.lc (A.drop i) (B.drop j) : Nat) : Int)) = .int .i64 (1 + (p1 : Int)) := by rw [he]; congr 1; omega
                rw [ev] at hs
                exact ⟨j, by omega, rfl, hs.1, ⟨hs.2.os, hs.2.tape, hs.2.output, hs.2.size, hs.2.block⟩⟩
              case measure => simp [intOf]
            · have he := HD.out hxy
              have hbq2 : ((Ln.bs x).toList == (Ln.bs y).toList) = false := by rw [bs_beq]; exact decide_eq_false hxy
              clear HE HD
              go_wp2
              go_region
              all_goals go_wp2
              go_region
              all_goals go_wp2
              all_goals go_roundw
              case rel =>
                have hs := HS.out
                have ev : (Value.int .i64 ((Df.lc (A.drop i) (B.drop j) : Nat) : Int)) = .int .i64 (max (p0 : Int) (p2 : Int)) := by rw [he]; congr 1; omega
                rw [ev] at hs
                exact ⟨j, by omega, rfl, hs.1, ⟨hs.2.os, hs.2.tape, hs.2.output, hs.2.size, hs.2.block⟩⟩
              case measure => simp [intOf]
        · have d2 : decide ((i : Int) < (A.length : Int)) = false := by simp; omega
          have d3 : decide (i < A.length) = false := by simp; omega
          have hnil : A.drop i = [] := List.drop_eq_nil_of_le (by omega)
          have HF : Hid (rtVals (A.drop i) B m = rtVals (A.drop i) B 0) := by
            show rtVals (A.drop i) B m = rtVals (A.drop i) B 0
            rw [hnil, rtVals_none, rtVals_none]
          clear hca hcb haa hbb hrY hrlt hcT hnil
          by_cases hm0 : m = 0
          · subst hm0
            go_wp2
            go_roundw
            case rel => exact FIN.out rfl
            case measure => simp [intOf]
          · obtain ⟨j, rfl⟩ : ∃ j, m = j + 1 := ⟨m - 1, by omega⟩
            have h02 : ((j + 1 : Nat) : Int) - 1 = (j : Int) := by omega
            rw [h02]
            go_wp2
            go_roundw
            case rel => exact FIN.out HF.out
            case measure => simp [intOf]

end Go.Proofs.YtpcinbfelikgpaaGreatDoor
