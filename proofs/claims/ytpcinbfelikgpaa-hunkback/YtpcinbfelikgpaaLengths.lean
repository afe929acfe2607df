/-
  The walks of diff.lengths and of its closure: the table of how long a longest row is.
-/
import Derived.Test.YtpcinbfelikgpaaNumbered
namespace Go.Proofs.Ytpcinbfelikgpaa
open Go.RowKit

theorem info123s : (Try.prog.info? 123).map (fun i => (i.zero, i.size, i.bytes)) = some (some (.slice none 0 0), 1, 24) := by kernel_rfl
theorem info122s : (Try.prog.info? 122).map (fun i => (i.zero, i.size, i.bytes)) = some (some (.int .u16 0), 1, 2) := by kernel_rfl

/-- The row of the table for xs, filled from place j on. -/
def tabVals (xs ys : List Nat) (j : Nat) : List Value := (List.range (ys.length + 1)).map fun k => if j ≤ k then .int .u16 (Df.lc xs (ys.drop k)) else .int .u16 0

theorem tabVals_len (xs ys : List Nat) (j : Nat) : (tabVals xs ys j).length = ys.length + 1 := by simp [tabVals]
theorem tabVals_get (xs ys : List Nat) (j k : Nat) (hk : k ≤ ys.length) (hj : j ≤ k) : (tabVals xs ys j)[k]? = some (.int .u16 (Df.lc xs (ys.drop k))) := by
  unfold tabVals
  rw [List.getElem?_map, List.getElem?_range (by omega)]
  simp [hj]
theorem tabVals_start (xs ys : List Nat) : tabVals xs ys ys.length = List.replicate (ys.length + 1) (.int .u16 0) := by
  apply List.ext_getElem?
  intro k
  unfold tabVals
  by_cases hk : k < ys.length + 1
  · rw [List.getElem?_map, List.getElem?_range hk, List.getElem?_replicate, if_pos hk]
    by_cases e : ys.length ≤ k
    · have : k = ys.length := by omega
      subst this
      simp [Df.lc_nil_right]
    · simp [e]
  · rw [List.getElem?_eq_none (by simp; omega), List.getElem?_eq_none (by simp; omega)]
theorem tabVals_set (xs ys : List Nat) (j : Nat) (hj : j < ys.length) : (tabVals xs ys (j + 1)).set j (.int .u16 (Df.lc xs (ys.drop j))) = tabVals xs ys j := by
  apply List.ext_getElem?
  intro k
  rw [List.getElem?_set]
  by_cases hk : k < ys.length + 1
  · by_cases e : j = k
    · subst e
      rw [if_pos rfl, if_pos (by rw [tabVals_len]; omega), tabVals_get xs ys j j (by omega) (Nat.le_refl _)]
    · rw [if_neg e]
      unfold tabVals
      rw [List.getElem?_map, List.getElem?_map, List.getElem?_range hk]
      simp only [Option.map_some]
      congr 1
      by_cases e2 : j ≤ k
      · rw [if_pos e2, if_pos (by omega)]
      · rw [if_neg e2, if_neg (by omega)]
  · rw [if_neg (by omega), List.getElem?_eq_none (by rw [tabVals_len]; omega), List.getElem?_eq_none (by rw [tabVals_len]; omega)]

theorem tabVals_none (ys : List Nat) : tabVals [] ys 0 = List.replicate (ys.length + 1) (.int .u16 0) := by
  apply List.ext_getElem?
  intro k
  unfold tabVals
  by_cases hk : k < ys.length + 1
  · rw [List.getElem?_map, List.getElem?_range hk, List.getElem?_replicate, if_pos hk]
    simp [Df.lc_nil_left]
  · rw [List.getElem?_eq_none (by simp; omega), List.getElem?_eq_none (by simp; omega)]

/-- Row i of the table stands where it must. -/
def TabRow (w : World) (B T : Nat) (xs ys : List Nat) (i : Nat) : Prop :=
  ∃ g, w.cell? ⟨T, i, none⟩ = some (.slice (some ⟨g, 0, none⟩) (ys.length + 1) (ys.length + 1)) ∧ w.ownsRow B 122 1 (.slice (some ⟨g, 0, none⟩) (ys.length + 1) (ys.length + 1)) (ys.length + 1) (tabVals (xs.drop i) ys 0)

theorem TabRow.cell {w : World} {B T : Nat} {xs ys : List Nat} {i : Nat} (h : TabRow w B T xs ys i) : ∃ g, B ≤ g ∧ g < w.heap.size ∧ w.cell? ⟨T, i, none⟩ = some (.slice (some ⟨g, 0, none⟩) (ys.length + 1) (ys.length + 1)) ∧ ∀ j, j ≤ ys.length → w.cell? ⟨g, j, none⟩ = some (.int .u16 (Df.lc (xs.drop i) (ys.drop j))) := by
  obtain ⟨g, hc, ho⟩ := h
  refine ⟨g, (ho.lt g rfl).1, (ho.lt g rfl).2, hc, fun j hj => ?_⟩
  rw [ho.cellAt j (by omega), tabVals_get _ _ _ _ hj (Nat.zero_le _)]

theorem lc_drop_eq (xs ys : List Nat) (i j x : Nat) (hx : xs[i]? = some x) (hy : ys[j]? = some x) : Df.lc (xs.drop i) (ys.drop j) = Df.lc (xs.drop (i + 1)) (ys.drop (j + 1)) + 1 := by
  rw [Df.drop_at hx, Df.drop_at hy, Df.lc_cons_eq]
theorem lc_drop_ne (xs ys : List Nat) (i j x y : Nat) (hx : xs[i]? = some x) (hy : ys[j]? = some y) (h : x ≠ y) : Df.lc (xs.drop i) (ys.drop j) = max (Df.lc (xs.drop (i + 1)) (ys.drop j)) (Df.lc (xs.drop i) (ys.drop (j + 1))) := by
  rw [Df.drop_at hx, Df.drop_at hy, Df.lc_cons_ne h]
theorem lc_le (xs ys : List Nat) (j : Nat) (h : ys.length ≤ 4096) : Df.lc xs (ys.drop j) ≤ 4096 := by
  have := Df.lc_le_right xs (ys.drop j)
  rw [List.length_drop] at this
  omega

set_option maxRecDepth 100000 in
set_option maxHeartbeats 8000000 in
/-- fill(i): row i, where row i + 1 stands. -/
theorem fill_any (B T Bx By Bt gx gy : Nat) (xs ys : List Nat) (i : Nat) (w : World) (hx : xs.length ≤ 4096) (hy : ys.length ≤ 4096) (hi : i < xs.length)
    (bx : Boxed w Bx 117 (.slice (some ⟨gx, 0, none⟩) xs.length xs.length)) (by_ : Boxed w By 117 (.slice (some ⟨gy, 0, none⟩) ys.length ys.length)) (bt : Boxed w Bt 120 (.slice (some ⟨T, 0, none⟩) (xs.length + 1) (xs.length + 1)))
    (cx : ∀ k x, xs[k]? = some x → w.cell? ⟨gx, k, none⟩ = some (numV x)) (cy : ∀ k x, ys[k]? = some x → w.cell? ⟨gy, k, none⟩ = some (numV x)) (hgx : gx < w.heap.size) (hgy : gy < w.heap.size)
    (tab : List Value) (hT : w.ownsRow B 123 1 (.slice (some ⟨T, 0, none⟩) (xs.length + 1) (xs.length + 1)) (xs.length + 1) tab) (hB : B ≤ w.heap.size) (hrow : TabRow w B T xs ys (i + 1)) :
    Calls Try.prog 108 #[.int .i64 i, .pointer (some ⟨By, 0, none⟩), .pointer (some ⟨Bt, 0, none⟩), .pointer (some ⟨Bx, 0, none⟩)] w fun e w' => ∃ g, e = .returned (.tuple #[]) ∧ w.heap.size ≤ g ∧
      w'.ownsRow B 123 1 (.slice (some ⟨T, 0, none⟩) (xs.length + 1) (xs.length + 1)) (xs.length + 1) (tab.set i (.slice (some ⟨g, 0, none⟩) (ys.length + 1) (ys.length + 1))) ∧
      w'.ownsRow B 122 1 (.slice (some ⟨g, 0, none⟩) (ys.length + 1) (ys.length + 1)) (ys.length + 1) (tabVals (xs.drop i) ys 0) ∧ w.grownBy w' (some T) := by
  obtain ⟨g1, hg1, hg1', c1, cb⟩ := hrow.cell
  clear hrow
  obtain ⟨x, hxi⟩ : ∃ x, xs[i]? = some x := ⟨xs[i], List.getElem?_eq_getElem hi⟩
  have cxi := cx i x hxi
  have b1 := bx.cell
  have b2 := by_.cell
  have b3 := bt.cell
  have l1 := bx.lt
  have l2 := by_.lt
  have l3 := bt.lt
  have lT := hT.lt T rfl
  have hmk : ∀ w : World, (Instr.makeSlice 123 (.int .i64 ((ys.length : Int) + 1)) (.int .i64 ((ys.length : Int) + 1))).run Try.prog w = .ok (.slice (some ⟨w.heap.size, 0, none⟩) (ys.length + 1) (ys.length + 1)) (w.alloc (.cells (madeCells #[.int .u16 0] (ys.length + 1)) 122)) :=
    fun w => run_make_row' (P := Try.prog) 123 122 (.int .u16 0) 2 Try.underlying123 info122s rfl .i64 .i64 (ys.length + 1) (by omega) (by omega) w
  obtain ⟨X, hX⟩ : ∃ X, X = w.alloc (.cells (madeCells #[.int .u16 0] (ys.length + 1)) 122) := ⟨_, rfl⟩
  have hown0 : X.ownsRow w.heap.size 122 1 (.slice (some ⟨w.heap.size, 0, none⟩) (ys.length + 1) (ys.length + 1)) (ys.length + 1) (tabVals (xs.drop i) ys ys.length) := by
    have h := World.ownsRow_lit (e := 122) (size := 1) (base := w.heap.size) w (madeCells #[.int .u16 0] (ys.length + 1)) (ys.length + 1) (Nat.le_refl _) (by unfold maxLen; omega) (by rw [size_madeCells, Nat.mul_one])
    rw [toList_madeCells_one, ← tabVals_start (xs.drop i) ys] at h
    rw [hX]; exact h
  have hB0 : Below w.heap.size w X := by rw [hX]; exact (Below.refl _ w).alloc (Nat.le_refl _) _
  go_enter Try.func108, Try.ntmps108
  go_wp2
  go_region
  all_goals go_wp2
  go_loopw [7] (fun v wr => ∃ k : Nat, k ≤ ys.length ∧ v = .int .i64 ((k : Int) - 1) ∧ wr.ownsRow w.heap.size 122 1 (.slice (some ⟨w.heap.size, 0, none⟩) (ys.length + 1) (ys.length + 1)) (ys.length + 1) (tabVals (xs.drop i) ys k) ∧ Below w.heap.size w wr) (fun v _ => (intOf v + 1).toNat)
  case atStart =>
    rw [← hX]
    exact ⟨ys.length, Nat.le_refl _, rfl, hown0, hB0.trans ⟨rfl, rfl, rfl, Nat.le_refl _, fun _ _ => rfl⟩⟩
  case round =>
    obtain ⟨k, hk, rfl, hown, hbl⟩ := hrel
    clear hmk hX hown0 hB0
    have b1' := (hbl.cell (p := ⟨Bx, 0, none⟩) l1).trans b1
    have b2' := (hbl.cell (p := ⟨By, 0, none⟩) l2).trans b2
    have b3' := (hbl.cell (p := ⟨Bt, 0, none⟩) l3).trans b3
    have cxi' : wr.cell? ⟨gx, i, none⟩ = some (.int .i64 (x : Int)) := (hbl.cell (p := ⟨gx, i, none⟩) hgx).trans cxi
    by_cases h0 : k = 0
    · subst h0
      have hT1 := owns_below hT (hbl.mono (Nat.le_refl _))
      obtain ⟨u0, cT⟩ := owns_cell hT1 i (by omega)
      have fT := hT1.frozenAt i
      go_wp2
      go_end0
      have hst := hT1.stored i (.slice (some ⟨w.heap.size, 0, none⟩) (ys.length + 1) (ys.length + 1))
      refine ⟨w.heap.size, rfl, Nat.le_refl _, hst.1, ?_, grown_trans (grown_of_below hbl _) hst.2 (fun j hj => .inl (by cases hj; rfl))⟩
      exact (owns_base hown hB).kept hst.2 (.inr (fun e => by have h9 : w.heap.size = T := Option.some.inj e; omega))
    · obtain ⟨j, rfl⟩ : ∃ j, k = j + 1 := ⟨k - 1, by omega⟩
      clear h0
      obtain ⟨y, hyj⟩ : ∃ y, ys[j]? = some y := ⟨ys[j]'(by omega), List.getElem?_eq_getElem (by omega)⟩
      have cyj : wr.cell? ⟨gy, j, none⟩ = some (.int .i64 (y : Int)) := (hbl.cell (p := ⟨gy, j, none⟩) hgy).trans (cy j y hyj)
      have k0 : wr.cell? ⟨g1, j, none⟩ = some (.int .u16 (Df.lc (xs.drop (i + 1)) (ys.drop j))) := (hbl.cell (p := ⟨g1, j, none⟩) hg1').trans (cb j (by omega))
      have k1 : wr.cell? ⟨g1, j + 1, none⟩ = some (.int .u16 (Df.lc (xs.drop (i + 1)) (ys.drop (j + 1)))) := (hbl.cell (p := ⟨g1, j + 1, none⟩) hg1').trans (cb (j + 1) (by omega))
      have k2 : wr.cell? ⟨w.heap.size, j + 1, none⟩ = some (.int .u16 (Df.lc (xs.drop i) (ys.drop (j + 1)))) := by
        rw [hown.cellAt (j + 1) (by omega), tabVals_get _ _ _ _ (by omega) (Nat.le_refl _)]
      obtain ⟨u0, cS⟩ := owns_cell hown j (by omega)
      have fS := hown.frozenAt j
      have m0 := lc_le (xs.drop (i + 1)) ys j hy
      have m1 := lc_le (xs.drop (i + 1)) ys (j + 1) hy
      have m2 := lc_le (xs.drop i) ys (j + 1) hy
      have HE : Hid (x = y → Df.lc (xs.drop i) (ys.drop j) = Df.lc (xs.drop (i + 1)) (ys.drop (j + 1)) + 1) := fun e => lc_drop_eq xs ys i j x hxi (by rw [e]; exact hyj)
      have HD : Hid (x ≠ y → Df.lc (xs.drop i) (ys.drop j) = max (Df.lc (xs.drop (i + 1)) (ys.drop j)) (Df.lc (xs.drop i) (ys.drop (j + 1)))) := fun e => lc_drop_ne xs ys i j x y hxi hyj e
      have hst := hown.stored j (.int .u16 (Df.lc (xs.drop i) (ys.drop j)))
      rw [tabVals_set _ _ _ (by omega)] at hst
      have HS : Hid ((wr.setCell ⟨w.heap.size, j, none⟩ (.int .u16 (Df.lc (xs.drop i) (ys.drop j)))).ownsRow w.heap.size 122 1 (.slice (some ⟨w.heap.size, 0, none⟩) (ys.length + 1) (ys.length + 1)) (ys.length + 1) (tabVals (xs.drop i) ys j) ∧ wr.grownBy (wr.setCell ⟨w.heap.size, j, none⟩ (.int .u16 (Df.lc (xs.drop i) (ys.drop j)))) (some w.heap.size)) := hst
      obtain ⟨p0, hp0⟩ : ∃ p0, p0 = Df.lc (xs.drop (i + 1)) (ys.drop j) := ⟨_, rfl⟩
      obtain ⟨p1, hp1⟩ : ∃ p1, p1 = Df.lc (xs.drop (i + 1)) (ys.drop (j + 1)) := ⟨_, rfl⟩
      obtain ⟨p2, hp2⟩ : ∃ p2, p2 = Df.lc (xs.drop i) (ys.drop (j + 1)) := ⟨_, rfl⟩
      rw [← hp0] at k0 m0 HD
      rw [← hp1] at k1 m1 HE
      rw [← hp2] at k2 m2 HD
      clear hp0 hp1 hp2 hst hown hT cx cy cb hxi hyj
      by_cases hxy : x = y
      · have he := HE.out hxy
        subst hxy
        clear HE HD
        go_wp2
        go_region
        all_goals go_wp2
        all_goals go_roundw
        case rel =>
          have hs := HS.out
          have ev : (Value.int .u16 ((Df.lc (xs.drop i) (ys.drop j) : Nat) : Int)) = .int .u16 ((p1 : Int) + 1) := by rw [he]; rfl
          rw [ev] at hs
          have hb2 : Below w.heap.size wr (wr.setCell ⟨w.heap.size, j, none⟩ (.int .u16 ((p1 : Int) + 1))) := below_of_grown hs.2 (Nat.le_refl _) hbl.size
          exact ⟨j, by omega, rfl, hs.1, below_drewN (hbl.trans hb2) 1⟩
        case measure => simp [intOf]
      · have he := HD.out hxy
        clear HE HD
        go_wp2
        go_region
        all_goals go_wp2
        go_region
        all_goals go_wp2
        all_goals go_roundw
        case rel =>
          have hs := HS.out
          have ev : (Value.int .u16 ((Df.lc (xs.drop i) (ys.drop j) : Nat) : Int)) = .int .u16 (max (p0 : Int) (p2 : Int)) := by rw [he]; congr 1; omega
          rw [ev] at hs
          have hb2 : Below w.heap.size wr (wr.setCell ⟨w.heap.size, j, none⟩ (.int .u16 (max (p0 : Int) (p2 : Int)))) := below_of_grown hs.2 (Nat.le_refl _) hbl.size
          exact ⟨j, by omega, rfl, hs.1, below_drewN (hbl.trans hb2) 2⟩
        case measure => simp [intOf]

theorem cells_num {w : World} {B g : Nat} {xs : List Nat} (h : w.ownsRow B 3 1 (.slice (some ⟨g, 0, none⟩) xs.length xs.length) xs.length (xs.map numV)) : ∀ k x, xs[k]? = some x → w.cell? ⟨g, k, none⟩ = some (numV x) := by
  intro k x hx
  have hk : k < xs.length := (List.getElem?_eq_some_iff.1 hx).1
  rw [h.cellAt k (by omega), List.getElem?_map, hx]; rfl

theorem TabRow.kept {w w' : World} {B T n : Nat} {xs ys : List Nat} {i : Nat} (h : TabRow w B T xs ys i) (hg : w.grownBy w' (some T)) (hT : ∃ cur, w.heap[T]? = some (.cells cur 123 (0, 0))) (hc : w'.cell? ⟨T, i, none⟩ = w.cell? ⟨T, i, none⟩) (_ : n = n) : TabRow w' B T xs ys i := by
  obtain ⟨g, h1, h2⟩ := h
  refine ⟨g, hc.trans h1, h2.kept hg (.inr (fun e => ?_))⟩
  have h9 : g = T := Option.some.inj e
  subst h9
  obtain ⟨cur, hcur⟩ := hT
  rcases h2.2 with ⟨e1, _⟩ | ⟨g', cap', cur', e1, _, hg', _⟩
  · cases e1
  · injection e1 with e1 _ _
    injection e1 with e1
    injection e1 with e1 _ _
    subst e1
    rw [hg'] at hcur
    injection hcur with hcur
    injection hcur with _ e3 _
    exact absurd e3 (by decide)

set_option maxRecDepth 100000 in
set_option maxHeartbeats 8000000 in
/-- lengths: the table, whole. -/
theorem lengths_any (gx gy : Nat) (xs ys : List Nat) (w : World) (hx : xs.length ≤ 4096) (hy : ys.length ≤ 4096) (Bx By : Nat)
    (ox : w.ownsRow Bx 3 1 (.slice (some ⟨gx, 0, none⟩) xs.length xs.length) xs.length (xs.map numV)) (oy : w.ownsRow By 3 1 (.slice (some ⟨gy, 0, none⟩) ys.length ys.length) ys.length (ys.map numV)) :
    Calls Try.prog 79 #[.slice (some ⟨gx, 0, none⟩) xs.length xs.length, .slice (some ⟨gy, 0, none⟩) ys.length ys.length] w fun e w' => ∃ T, e = .returned (.slice (some ⟨T, 0, none⟩) (xs.length + 1) (xs.length + 1)) ∧ T < w'.heap.size ∧
      (∀ i, i ≤ xs.length → TabRow w' w.heap.size T xs ys i) ∧ Below w.heap.size w w' := by
  have cx0 := cells_num ox
  have cy0 := cells_num oy
  have hgx := (ox.lt gx rfl).2
  have hgy := (oy.lt gy rfl).2
  clear ox oy
  have hmk2 : ∀ w : World, (Instr.makeSlice 123 (.int .i64 ((ys.length : Int) + 1)) (.int .i64 ((ys.length : Int) + 1))).run Try.prog w = .ok (.slice (some ⟨w.heap.size, 0, none⟩) (ys.length + 1) (ys.length + 1)) (w.alloc (.cells (madeCells #[.int .u16 0] (ys.length + 1)) 122)) :=
    fun w => run_make_row' (P := Try.prog) 123 122 (.int .u16 0) 2 Try.underlying123 info122s rfl .i64 .i64 (ys.length + 1) (by omega) (by omega) w
  have hmk1 : ∀ w : World, (Instr.makeSlice 120 (.int .i64 ((xs.length : Int) + 1)) (.int .i64 ((xs.length : Int) + 1))).run Try.prog w = .ok (.slice (some ⟨w.heap.size, 0, none⟩) (xs.length + 1) (xs.length + 1)) (w.alloc (.cells (madeCells #[.slice none 0 0] (xs.length + 1)) 123)) :=
    fun w => run_make_row' (P := Try.prog) 120 123 (.slice none 0 0) 24 Try.underlying120 info123s rfl .i64 .i64 (xs.length + 1) (by omega) (by omega) w
  go_enter Try.func79, Try.ntmps79
  go_wp2
  obtain ⟨X, hX⟩ : ∃ X, X = (((w.alloc (.cells #[.slice (some ⟨gx, 0, none⟩) xs.length xs.length] 117)).alloc (.cells #[.slice (some ⟨gy, 0, none⟩) ys.length ys.length] 117)).alloc (.cells (madeCells #[.slice none 0 0] (xs.length + 1)) 123)).alloc (.cells #[.slice (some ⟨w.heap.size + 1 + 1, 0, none⟩) (xs.length + 1) (xs.length + 1)] 120) := ⟨_, rfl⟩
  have hsX : X.heap.size = w.heap.size + 4 := by rw [hX]; simp
  have hbX : Below w.heap.size w X := by rw [hX]; exact ((((Below.refl _ w).alloc (Nat.le_refl _) _).alloc (by simp) _).alloc (by simp; omega) _).alloc (by simp; omega) _
  have bx : Boxed X w.heap.size 117 (.slice (some ⟨gx, 0, none⟩) xs.length xs.length) := by rw [hX]; exact (((Boxed.new w _ _).alloc _).alloc _).alloc _
  have by_ : Boxed X (w.heap.size + 1) 117 (.slice (some ⟨gy, 0, none⟩) ys.length ys.length) := by
    rw [hX]
    have h := Boxed.new (w.alloc (.cells #[.slice (some ⟨gx, 0, none⟩) xs.length xs.length] 117)) 117 (.slice (some ⟨gy, 0, none⟩) ys.length ys.length)
    rw [World.size_alloc] at h
    exact (h.alloc _).alloc _
  have oT : X.ownsRow w.heap.size 123 1 (.slice (some ⟨w.heap.size + 1 + 1, 0, none⟩) (xs.length + 1) (xs.length + 1)) (xs.length + 1) (List.replicate (xs.length + 1) (.slice none 0 0)) := by
    rw [hX]
    have h := World.ownsRow_lit (e := 123) (size := 1) (base := w.heap.size) ((w.alloc (.cells #[.slice (some ⟨gx, 0, none⟩) xs.length xs.length] 117)).alloc (.cells #[.slice (some ⟨gy, 0, none⟩) ys.length ys.length] 117)) (madeCells #[.slice none 0 0] (xs.length + 1)) (xs.length + 1) (by simp; omega) (by unfold maxLen; omega) (by rw [size_madeCells, Nat.mul_one])
    rw [toList_madeCells_one, World.size_alloc, World.size_alloc] at h
    exact h.alloc _
  have bt : Boxed X (w.heap.size + 1 + 1 + 1) 120 (.slice (some ⟨w.heap.size + 1 + 1, 0, none⟩) (xs.length + 1) (xs.length + 1)) := by
    rw [hX]
    have h := Boxed.new (((w.alloc (.cells #[.slice (some ⟨gx, 0, none⟩) xs.length xs.length] 117)).alloc (.cells #[.slice (some ⟨gy, 0, none⟩) ys.length ys.length] 117)).alloc (.cells (madeCells #[.slice none 0 0] (xs.length + 1)) 123)) 120 (.slice (some ⟨w.heap.size + 1 + 1, 0, none⟩) (xs.length + 1) (xs.length + 1))
    rw [World.size_alloc, World.size_alloc, World.size_alloc] at h
    exact h
  rw [← hX]
  clear hX
  have c1 := bx.cell
  have c2 := by_.cell
  have c3 := bt.cell
  have c1a : ∀ o, (X.alloc o).cell? ⟨w.heap.size, 0, none⟩ = some (.slice (some ⟨gx, 0, none⟩) xs.length xs.length) := fun o => (bx.alloc o).cell
  have c2a : ∀ o, (X.alloc o).cell? ⟨w.heap.size + 1, 0, none⟩ = some (.slice (some ⟨gy, 0, none⟩) ys.length ys.length) := fun o => (by_.alloc o).cell
  have c3a : ∀ o, (X.alloc o).cell? ⟨w.heap.size + 1 + 1 + 1, 0, none⟩ = some (.slice (some ⟨w.heap.size + 1 + 1, 0, none⟩) (xs.length + 1) (xs.length + 1)) := fun o => (bt.alloc o).cell
  obtain ⟨u0, cT⟩ := owns_cell oT xs.length (by omega)
  have fT := oT.frozenAt xs.length
  have cT1 : ∀ o, (X.alloc o).cell? ⟨w.heap.size + 1 + 1, xs.length, none⟩ = some u0 := fun o => (((Below.refl X.heap.size X).alloc (Nat.le_refl _) o).cell (p := ⟨w.heap.size + 1 + 1, xs.length, none⟩) (by show w.heap.size + 1 + 1 < X.heap.size; omega)).trans cT
  have fT1 : ∀ o, (X.alloc o).frozen? ⟨w.heap.size + 1 + 1, xs.length, none⟩ = false := fun o => (oT.alloc o).frozenAt xs.length
  go_region
  all_goals go_wp2
  obtain ⟨Y, hY⟩ : ∃ Y, Y = (X.setCell ⟨w.heap.size + 1 + 1, xs.length, none⟩ (.slice (some ⟨w.heap.size + 4, 0, none⟩) (ys.length + 1) (ys.length + 1))).alloc (.cells (madeCells #[.int .u16 0] (ys.length + 1)) 122) := ⟨_, rfl⟩
  have hst := oT.stored xs.length (.slice (some ⟨w.heap.size + 4, 0, none⟩) (ys.length + 1) (ys.length + 1))
  have oT2 : Y.ownsRow w.heap.size 123 1 (.slice (some ⟨w.heap.size + 1 + 1, 0, none⟩) (xs.length + 1) (xs.length + 1)) (xs.length + 1) ((List.replicate (xs.length + 1) (.slice none 0 0)).set xs.length (.slice (some ⟨w.heap.size + 4, 0, none⟩) (ys.length + 1) (ys.length + 1))) := by rw [hY]; exact hst.1.alloc _
  have hXs : (X.setCell ⟨w.heap.size + 1 + 1, xs.length, none⟩ (.slice (some ⟨w.heap.size + 4, 0, none⟩) (ys.length + 1) (ys.length + 1))).heap.size = w.heap.size + 4 := by simp [hsX]
  have oR : Y.ownsRow w.heap.size 122 1 (.slice (some ⟨w.heap.size + 4, 0, none⟩) (ys.length + 1) (ys.length + 1)) (ys.length + 1) (tabVals (xs.drop xs.length) ys 0) := by
    have h := World.ownsRow_lit (e := 122) (size := 1) (base := w.heap.size) (X.setCell ⟨w.heap.size + 1 + 1, xs.length, none⟩ (.slice (some ⟨w.heap.size + 4, 0, none⟩) (ys.length + 1) (ys.length + 1))) (madeCells #[.int .u16 0] (ys.length + 1)) (ys.length + 1) (by omega) (by unfold maxLen; omega) (by rw [size_madeCells, Nat.mul_one])
    rw [toList_madeCells_one, ← tabVals_none ys, hXs] at h
    rw [hY, List.drop_length]; exact h
  have hgY : X.grownBy Y (some (w.heap.size + 1 + 1)) := by
    rw [hY]; exact grown_trans hst.2 (World.grownBy_alloc _ _ none) (fun j hj => by cases hj)
  have hne : ∀ k, k ≠ w.heap.size + 1 + 1 → some k ≠ some (w.heap.size + 1 + 1) := fun k hk e => hk (Option.some.inj e)
  have tR : TabRow Y w.heap.size (w.heap.size + 1 + 1) xs ys xs.length := by
    refine ⟨w.heap.size + 4, ?_, oR⟩
    rw [oT2.cellAt xs.length (by omega), List.getElem?_set, if_pos rfl, if_pos (by simp)]
  have bx2 := bx.kept hgY (hne _ (by omega))
  have by2 := by_.kept hgY (hne _ (by omega))
  have bt2 := bt.kept hgY (hne _ (by omega))
  have hbY : Below w.heap.size w Y := hbX.trans (below_of_grown hgY (by omega) (by omega))
  have hsY : w.heap.size + 4 ≤ Y.heap.size := by have := hgY.size; omega
  rw [← hY]
  clear hY hst oT oR hgY bx by_ bt hbX c1 c2 c3 c1a c2a c3a cT fT cT1 fT1 hXs hsX hmk1 hmk2
  go_loopw [7] (fun v wr => ∃ (k : Nat) (tab : List Value), k ≤ xs.length ∧ v = .int .i64 ((k : Int) - 1) ∧ wr.ownsRow w.heap.size 123 1 (.slice (some ⟨w.heap.size + 1 + 1, 0, none⟩) (xs.length + 1) (xs.length + 1)) (xs.length + 1) tab ∧
    (∀ i, k ≤ i → i ≤ xs.length → TabRow wr w.heap.size (w.heap.size + 1 + 1) xs ys i) ∧ Boxed wr w.heap.size 117 (.slice (some ⟨gx, 0, none⟩) xs.length xs.length) ∧ Boxed wr (w.heap.size + 1) 117 (.slice (some ⟨gy, 0, none⟩) ys.length ys.length) ∧
    Boxed wr (w.heap.size + 1 + 1 + 1) 120 (.slice (some ⟨w.heap.size + 1 + 1, 0, none⟩) (xs.length + 1) (xs.length + 1)) ∧ w.heap.size + 4 ≤ wr.heap.size ∧ Below w.heap.size w wr) (fun v _ => (intOf v + 1).toNat)
  case atStart =>
    refine ⟨xs.length, _, Nat.le_refl _, rfl, oT2.drew, fun i h1 h2 => ?_, bx2, by2, bt2, hsY, below_drewN hbY 1⟩
    have : i = xs.length := by omega
    subst this
    exact tR
  case round =>
    obtain ⟨k, tab, hk, rfl, hT, hrows, ax, ay, at_, hsz, hbl⟩ := hrel
    by_cases h0 : k = 0
    · subst h0
      have c3 := at_.cell
      go_wp2
      go_ret
      exact ⟨w.heap.size + 1 + 1, rfl, by omega, fun i hi => hrows i (Nat.zero_le _) hi, hbl⟩
    · obtain ⟨i, rfl⟩ : ∃ i, k = i + 1 := ⟨k - 1, by omega⟩
      have hc := fill_any w.heap.size (w.heap.size + 1 + 1) w.heap.size (w.heap.size + 1) (w.heap.size + 1 + 1 + 1) gx gy xs ys i wr hx hy (by omega) ax ay at_ (fun k x h => (hbl.cell (p := ⟨gx, k, none⟩) hgx).trans (cx0 k x h)) (fun k x h => (hbl.cell (p := ⟨gy, k, none⟩) hgy).trans (cy0 k x h)) (by omega) (by omega) tab hT (by omega) (hrows (i + 1) (Nat.le_refl _) hk)
      have HC : Hid (Calls Try.prog 108 #[.int .i64 i, .pointer (some ⟨w.heap.size + 1, 0, none⟩), .pointer (some ⟨w.heap.size + 1 + 1 + 1, 0, none⟩), .pointer (some ⟨w.heap.size, 0, none⟩)] wr _) := hc
      clear hc
      have h01 : ((i + 1 : Nat) : Int) - 1 = (i : Int) := by omega
      rw [h01]
      go_wp2_with fail
      refine HC.out.mono ?_
      rintro e w1 ⟨g, rfl, hg, hT1, hR1, hgr⟩
      go_wp2
      go_roundw
      case rel =>
        refine ⟨i, _, by omega, rfl, hT1, fun j h1 h2 => ?_, ax.kept hgr (hne _ (by omega)), ay.kept hgr (hne _ (by omega)), at_.kept hgr (hne _ (by omega)), Nat.le_trans hsz hgr.size, hbl.trans (below_of_grown hgr (by omega) (by omega))⟩
        by_cases hj : j = i
        · subst hj
          refine ⟨g, ?_, hR1⟩
          have hl := hT1.1
          rw [hT1.cellAt j (by omega), List.getElem?_set, if_pos rfl, if_pos (by simp at hl; omega)]
        · refine (hrows j (by omega) h2).kept (n := 0) hgr ?_ ?_ rfl
          · rcases hT.2 with ⟨e1, _⟩ | ⟨g', cap', cur', e1, _, hg', _⟩
            · cases e1
            · injection e1 with e1 _ _
              injection e1 with e1
              injection e1 with e1 _ _
              rw [e1]; exact ⟨cur', hg'⟩
          · rw [hT1.cellAt j (by omega), hT.cellAt j (by omega), List.getElem?_set, if_neg (by omega)]
      case measure => simp [intOf]

end Go.Proofs.Ytpcinbfelikgpaa
