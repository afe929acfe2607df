/-
  Values in memory; the walks of Right.
-/
import Derived.Test.YtcnmgebjbaclaaaDoorVlMath
import Derived.Test.YtcnmgebjbaclaaaDoorLows
namespace Go.Proofs.YtcnmgebjbaclaaaDoor
open Go.RowKit Go.Shelf
open Vl (V Res)

abbrev nilV : Value := .slice none 0 0
/-- A value's cells. -/
abbrev vV (k n : Int) (vs : Value) : Value := .agg #[.int .u8 k, .int .i64 n, vs]
theorem below_two (w : World) (a b : Obj) : Below w.heap.size w ((w.alloc a).alloc b) := below_then (below_new w _) (below_new _ _)

/-- A value lies so. -/
def VAt (N : Nat) (w : World) (val : Value) (v : V) : Prop := ∃ vs, val = .agg #[.int .u8 v.k, .int .i64 v.n, vs] ∧ CellsLow N w vs v.r.length (v.r.map (Value.int .i64))
structure V.Fit (v : V) : Prop where
  k0 : 0 ≤ v.k
  k1 : v.k ≤ 255
  n0 : -9223372036854775808 ≤ v.n
  n1 : v.n ≤ 9223372036854775807
  r0 : ∀ x ∈ v.r, -9223372036854775808 ≤ x ∧ x ≤ 9223372036854775807
  rl : v.r.length ≤ 1000000000000000
theorem VAt.at {A B : World} {val : Value} {v : V} (h : VAt A.heap.size A val v) (hb : Below A.heap.size A B) : VAt B.heap.size B val v := by
  obtain ⟨vs, e, h⟩ := h
  exact ⟨vs, e, h.at hb (fun h0 => by rw [List.length_eq_zero_iff.1 h0]; rfl)⟩
theorem VAt.shape {N : Nat} {w : World} {val : Value} {v : V} (h : VAt N w val v) : ∃ ao cap, val = .agg #[.int .u8 v.k, .int .i64 v.n, .slice ao v.r.length cap] := by
  obtain ⟨vs, e, ao, cap, b, off, e2, -⟩ := h
  exact ⟨ao, cap, by rw [e, e2]⟩

set_option maxRecDepth 100000 in
set_option maxHeartbeats 2000000 in
theorem right_any (k n : Int) (ao : Option Addr) (r : List Int) (cap : Nat) (hl : r.length ≤ 1000000000000000) (w : World) :
    Calls Tryd.prog 11 #[vV k n (.slice ao r.length cap)] w fun e w' => e = .returned (.bool (Vl.right ⟨k, n, r⟩)) ∧ Below w.heap.size w w' := by
  have HR : Hid (Vl.right ⟨k, n, r⟩ = if k = 1 then decide (r.length = 0) else if k = 2 then (decide (n = 0) || decide (n = 1)) && decide (r.length = 0) else if k = 3 then decide (n = 0) && decide (r.length ≤ 1024) else false) := rfl
  obtain ⟨L, hL⟩ : ∃ L, L = r.length := ⟨_, rfl⟩
  rw [← hL] at hl HR ⊢
  clear hL
  go_enter Tryd.func11, Tryd.ntmps11
  go_wp2
  all_goals go_ret
  all_goals refine ⟨ret_bool ?_, by first | exact below_new w _ | exact below_two w _ _⟩
  all_goals rw [HR.out]
  all_goals simp_all
  all_goals first | omega | (rw [Bool.eq_iff_iff]; simp; done) | (rw [Bool.eq_iff_iff]; simp; omega) | (intros; omega)
set_option maxRecDepth 100000 in
set_option maxHeartbeats 2000000 in
theorem isInt_any (k n : Int) (vs : Value) (w : World) :
    Calls Tryd.prog 43 #[vV k n vs] w fun e w' => e = .returned (.bool (decide (k = 1))) ∧ Below w.heap.size w w' := by
  go_enter Tryd.func43, Tryd.ntmps43
  go_wp2
  all_goals go_ret
  all_goals refine ⟨ret_bool ?_, by first | exact below_new w _ | exact below_two w _ _⟩
  all_goals first | rfl | simp_all
set_option maxRecDepth 100000 in
set_option maxHeartbeats 2000000 in
theorem isBool_any (k n : Int) (vs : Value) (w : World) :
    Calls Tryd.prog 45 #[vV k n vs] w fun e w' => e = .returned (.bool (decide (k = 2))) ∧ Below w.heap.size w w' := by
  go_enter Tryd.func45, Tryd.ntmps45
  go_wp2
  all_goals go_ret
  all_goals refine ⟨ret_bool ?_, by first | exact below_new w _ | exact below_two w _ _⟩
  all_goals first | rfl | simp_all
set_option maxRecDepth 100000 in
set_option maxHeartbeats 2000000 in
theorem must_yes (E : Int) (w : World) : Calls Tryd.prog 50 #[.bool true, .int .i64 E] w fun e w' => e = .returned (.tuple #[]) ∧ w' = w := by
  go_enter Tryd.func50, Tryd.ntmps50
  go_wp2
  go_end0
  exact ⟨rfl, rfl⟩
/-- What is thrown. -/
def thrown (E : Int) : Ending := .panicked [{ v := .iface 41 (.int .i64 E), recovered := false }]
set_option maxRecDepth 100000 in
set_option maxHeartbeats 2000000 in
theorem must_no (E : Int) (w : World) : Calls Tryd.prog 50 #[.bool false, .int .i64 E] w fun e w' => e = thrown E ∧ w' = w := by
  go_enter Tryd.func50, Tryd.ntmps50
  go_wp2
  exact ⟨rfl, rfl, rfl⟩
set_option maxRecDepth 100000 in
set_option maxHeartbeats 2000000 in
theorem divisor_yes (n : Int) (hn : n ≠ 0) (w : World) : Calls Tryd.prog 70 #[.int .i64 n] w fun e w' => e = .returned (.int .i64 n) ∧ w' = w := by
  have hb : (n != 0) = true := by simpa using hn
  have HN : Hid (n ≠ 0) := hn
  clear hn
  go_enter Tryd.func70, Tryd.ntmps70
  go_wp2_with (go_at_call 50; refine (must_yes _ _).mono ?_; rintro e w' ⟨rfl, rfl⟩)
  go_ret
  exact ⟨rfl, rfl⟩
set_option maxRecDepth 100000 in
set_option maxHeartbeats 2000000 in
theorem divisor_no (w : World) : Calls Tryd.prog 70 #[.int .i64 0] w fun e w' => e = thrown 202 ∧ w' = w := by
  go_enter Tryd.func70, Tryd.ntmps70
  go_wp2_with fail
  refine Calls.mono (must_no _ _) ?_
  rintro e w' ⟨rfl, rfl⟩
  exact ⟨rfl, rfl, rfl⟩
set_option maxRecDepth 100000 in
set_option maxHeartbeats 2000000 in
theorem sameLongs_any (w : World) (v1 v2 : Value) (L1 L2 : List Int) (m1 m2 : Nat) (h1 : CellsLow m1 w v1 L1.length (L1.map (Value.int .i64))) (h2 : CellsLow m2 w v2 L2.length (L2.map (Value.int .i64))) (hl1 : L1.length ≤ 9223372036854775807) (hl2 : L2.length ≤ 9223372036854775807) :
    Calls Tryd.prog 37 #[v1, v2] w fun e w' => e = .returned (.bool (decide (L1 = L2))) ∧ ∃ k, w' = w.drewN k := by
  obtain ⟨ao1, cap1, b1, o1, rfl, -, ha1, hc1⟩ := h1
  obtain ⟨ao2, cap2, b2, o2, rfl, -, ha2, hc2⟩ := h2
  by_cases hne : L1.length = L2.length
  · have hb : ((L1.length : Int) != (L2.length : Int)) = false := by rw [bne_eq_false_iff_eq]; omega
    have HN : Hid (L1.length = L2.length) := hne
    have hn2 : L1.length ≤ L2.length := by omega
    clear hne
    go_enter Tryd.func37, Tryd.ntmps37
    go_wp2
    go_loopw [5] (fun i wr => ∃ k d : Nat, k ≤ L1.length ∧ i = .int .i64 k ∧ wr = w.drewN d ∧ (∀ j : Nat, j < k → L1[j]? = L2[j]?)) (fun i _ => L1.length - (intOf i).toNat)
    case atStart => exact ⟨0, 0, Nat.zero_le _, rfl, rfl, fun j hj => absurd hj (by omega)⟩
    case round =>
      obtain ⟨k, d, hk, rfl, rfl, hj⟩ := hrel
      have HJ : Hid (∀ j : Nat, j < k → L1[j]? = L2[j]?) := hj
      clear hj
      by_cases hlt : k < L1.length
      · obtain ⟨x, hx⟩ : ∃ x, L1[k]? = some x := ⟨L1[k], List.getElem?_eq_getElem hlt⟩
        obtain ⟨y, hy⟩ : ∃ y, L2[k]? = some y := ⟨L2[k]'(by omega), List.getElem?_eq_getElem (by omega)⟩
        have g1 := hc1 k (.int .i64 x) (by rw [List.getElem?_map, hx]; rfl)
        have g2 := hc2 k (.int .i64 y) (by rw [List.getElem?_map, hy]; rfl)
        have hlt2 : k < L2.length := by omega
        obtain ⟨rfl, -⟩ := ha1 (by omega)
        obtain ⟨rfl, -⟩ := ha2 (by omega)
        have HX : Hid (L1[k]? = some x) := hx
        have HY : Hid (L2[k]? = some y) := hy
        clear hx hy hc1 hc2 ha1 ha2
        by_cases hxy : x = y
        · have hbq : (x != y) = false := by rw [bne_eq_false_iff_eq, hxy]
          have HE : Hid (x = y) := hxy
          clear hxy
          go_wp2
          go_region
          all_goals go_wp2
          all_goals go_roundw
          case rel =>
            refine ⟨k + 1, d + 1, by omega, by go_num, rfl, fun j hj => ?_⟩
            by_cases hjk : j < k
            · exact HJ.out j hjk
            · have : j = k := by omega
              subst this
              rw [HX.out, HY.out, HE.out]
          case measure => simp [intOf]; omega
        · have hbq : (x != y) = true := by simpa using hxy
          have HE : Hid (decide (L1 = L2) = false) := by
            show decide (L1 = L2) = false
            rw [decide_eq_false]
            intro e
            subst e
            have := HX.out.symm.trans HY.out
            simp at this
            exact hxy this
          clear hxy
          go_wp2
          go_region
          all_goals go_wp2
          all_goals go_ret
          exact ⟨ret_bool HE.out.symm, d + 1, rfl⟩
      · have hkl : k = L1.length := by omega
        have HE : Hid (decide (L1 = L2) = true) := by
          show decide (L1 = L2) = true
          refine decide_eq_true (List.ext_getElem? fun j => ?_)
          by_cases hjk : j < k
          · exact HJ.out j hjk
          · rw [List.getElem?_eq_none (by omega), List.getElem?_eq_none (by have := HN.out; omega)]
        clear hc1 hc2 ha1 ha2 hkl
        go_wp2
        go_ret
        exact ⟨ret_bool HE.out.symm, d, rfl⟩
  · have hb : ((L1.length : Int) != (L2.length : Int)) = true := by simp; omega
    have HE : Hid (decide (L1 = L2) = false) := by
      show decide (L1 = L2) = false
      exact decide_eq_false fun e => hne (by rw [e])
    clear hc1 hc2 ha1 ha2 hne
    go_enter Tryd.func37, Tryd.ntmps37
    go_wp2
    go_ret
    exact ⟨ret_bool HE.out.symm, 0, rfl⟩
set_option maxRecDepth 100000 in
set_option maxHeartbeats 2000000 in
theorem equal_any (w : World) (v1 v2 : Value) (L1 L2 : List Int) (m1 m2 : Nat) (h1 : CellsLow m1 w v1 L1.length (L1.map (Value.int .i64))) (h2 : CellsLow m2 w v2 L2.length (L2.map (Value.int .i64))) (hl1 : L1.length ≤ 9223372036854775807) (hl2 : L2.length ≤ 9223372036854775807) :
    Calls Tryd.prog 81 #[v1, v2] w fun e w' => e = .returned (.bool (decide (L1 = L2))) ∧ ∃ k, w' = w.drewN k := by
  obtain ⟨ao1, cap1, b1, o1, rfl, -, ha1, hc1⟩ := h1
  obtain ⟨ao2, cap2, b2, o2, rfl, -, ha2, hc2⟩ := h2
  by_cases hne : L1.length = L2.length
  · have hb : ((L1.length : Int) != (L2.length : Int)) = false := by rw [bne_eq_false_iff_eq]; omega
    have HN : Hid (L1.length = L2.length) := hne
    have hn2 : L1.length ≤ L2.length := by omega
    clear hne
    go_enter Tryd.func81, Tryd.ntmps81
    go_wp2
    go_loopw [13] (fun i wr => ∃ k d : Nat, k ≤ L1.length ∧ i = .int .i64 k ∧ wr = w.drewN d ∧ (∀ j : Nat, j < k → L1[j]? = L2[j]?)) (fun i _ => L1.length - (intOf i).toNat)
    case atStart => exact ⟨0, 0, Nat.zero_le _, rfl, rfl, fun j hj => absurd hj (by omega)⟩
    case round =>
      obtain ⟨k, d, hk, rfl, rfl, hj⟩ := hrel
      have HJ : Hid (∀ j : Nat, j < k → L1[j]? = L2[j]?) := hj
      clear hj
      by_cases hlt : k < L1.length
      · obtain ⟨x, hx⟩ : ∃ x, L1[k]? = some x := ⟨L1[k], List.getElem?_eq_getElem hlt⟩
        obtain ⟨y, hy⟩ : ∃ y, L2[k]? = some y := ⟨L2[k]'(by omega), List.getElem?_eq_getElem (by omega)⟩
        have g1 := hc1 k (.int .i64 x) (by rw [List.getElem?_map, hx]; rfl)
        have g2 := hc2 k (.int .i64 y) (by rw [List.getElem?_map, hy]; rfl)
        have hlt2 : k < L2.length := by omega
        obtain ⟨rfl, -⟩ := ha1 (by omega)
        obtain ⟨rfl, -⟩ := ha2 (by omega)
        have HX : Hid (L1[k]? = some x) := hx
        have HY : Hid (L2[k]? = some y) := hy
        clear hx hy hc1 hc2 ha1 ha2
        by_cases hxy : x = y
        · have hbq : (x != y) = false := by rw [bne_eq_false_iff_eq, hxy]
          have HE : Hid (x = y) := hxy
          clear hxy
          go_wp2
          go_region
          all_goals go_wp2
          all_goals go_roundw
          case rel =>
            refine ⟨k + 1, d + 1, by omega, by go_num, rfl, fun j hj => ?_⟩
            by_cases hjk : j < k
            · exact HJ.out j hjk
            · have : j = k := by omega
              subst this
              rw [HX.out, HY.out, HE.out]
          case measure => simp [intOf]; omega
        · have hbq : (x != y) = true := by simpa using hxy
          have HE : Hid (decide (L1 = L2) = false) := by
            show decide (L1 = L2) = false
            rw [decide_eq_false]
            intro e
            subst e
            have := HX.out.symm.trans HY.out
            simp at this
            exact hxy this
          clear hxy
          go_wp2
          go_region
          all_goals go_wp2
          all_goals go_ret
          exact ⟨ret_bool HE.out.symm, d + 1, rfl⟩
      · have hkl : k = L1.length := by omega
        have HE : Hid (decide (L1 = L2) = true) := by
          show decide (L1 = L2) = true
          refine decide_eq_true (List.ext_getElem? fun j => ?_)
          by_cases hjk : j < k
          · exact HJ.out j hjk
          · rw [List.getElem?_eq_none (by omega), List.getElem?_eq_none (by have := HN.out; omega)]
        clear hc1 hc2 ha1 ha2 hkl
        go_wp2
        go_ret
        exact ⟨ret_bool HE.out.symm, d, rfl⟩
  · have hb : ((L1.length : Int) != (L2.length : Int)) = true := by simp; omega
    have HE : Hid (decide (L1 = L2) = false) := by
      show decide (L1 = L2) = false
      exact decide_eq_false fun e => hne (by rw [e])
    clear hc1 hc2 ha1 ha2 hne
    go_enter Tryd.func81, Tryd.ntmps81
    go_wp2
    go_ret
    exact ⟨ret_bool HE.out.symm, 0, rfl⟩
set_option maxRecDepth 100000 in
set_option maxHeartbeats 2000000 in
theorem sameValue_any (w : World) (u1 u2 : Value) (a b : V) (h1 : VAt w.heap.size w u1 a) (h2 : VAt w.heap.size w u2 b) (hl1 : a.r.length ≤ 1000000000000000) (hl2 : b.r.length ≤ 1000000000000000) :
    Calls Tryd.prog 25 #[u1, u2] w fun e w' => e = .returned (.bool (Vl.same a b)) ∧ Below w.heap.size w w' := by
  obtain ⟨v1, rfl, c1⟩ := h1
  obtain ⟨v2, rfl, c2⟩ := h2
  have HC : Hid (∀ x y : Array Value, Calls Tryd.prog 37 #[v1, v2] ((w.alloc (.cells x 25)).alloc (.cells y 25)) fun e w' => e = .returned (.bool (decide (a.r = b.r))) ∧ ∃ k, w' = ((w.alloc (.cells x 25)).alloc (.cells y 25)).drewN k) := fun x y => (sameLongs_any ((w.alloc (.cells x 25)).alloc (.cells y 25)) v1 v2 a.r b.r _ _ (c1.below (below_two w _ _) (Nat.le_refl _) (fun h0 => by rw [List.length_eq_zero_iff.1 h0]; rfl)) (c2.below (below_two w _ _) (Nat.le_refl _) (fun h0 => by rw [List.length_eq_zero_iff.1 h0]; rfl)) (by omega) (by omega))
  have HS : Hid (Vl.same a b = (decide (a.k = b.k) && decide (a.n = b.n) && decide (a.r = b.r))) := rfl
  obtain ⟨ak, hak⟩ : ∃ x, x = a.k := ⟨_, rfl⟩
  obtain ⟨an, han⟩ : ∃ x, x = a.n := ⟨_, rfl⟩
  obtain ⟨bk, hbk⟩ : ∃ x, x = b.k := ⟨_, rfl⟩
  obtain ⟨bn, hbn⟩ : ∃ x, x = b.n := ⟨_, rfl⟩
  rw [← hak, ← han, ← hbk, ← hbn] at HS
  rw [← hak, ← han, ← hbk, ← hbn]
  obtain ⟨T, hT⟩ : ∃ t, t = decide (a.r = b.r) := ⟨_, rfl⟩
  rw [← hT] at HC HS
  clear hak han hbk hbn c1 c2 hT
  go_enter Tryd.func25, Tryd.ntmps25
  go_wp2_with (go_at_call 37; refine (HC.out _ _).mono ?_; rintro e w' ⟨rfl, d, rfl⟩)
  all_goals go_ret
  all_goals refine ⟨ret_bool ?_, by first | exact below_two w _ _ | exact below_then (below_two w _ _) (below_draw _ _)⟩
  all_goals rw [HS.out]
  all_goals simp_all
set_option maxRecDepth 100000 in
set_option maxHeartbeats 2000000 in
theorem vsame_any (w : World) (u1 u2 : Value) (a b : V) (h1 : VAt w.heap.size w u1 a) (h2 : VAt w.heap.size w u2 b) (hl1 : a.r.length ≤ 1000000000000000) (hl2 : b.r.length ≤ 1000000000000000) :
    Calls Tryd.prog 59 #[u1, u2] w fun e w' => e = .returned (.bool (Vl.same a b)) ∧ Below w.heap.size w w' := by
  obtain ⟨v1, rfl, c1⟩ := h1
  obtain ⟨v2, rfl, c2⟩ := h2
  have HC : Hid (∀ x y : Array Value, Calls Tryd.prog 81 #[v1, v2] ((w.alloc (.cells x 25)).alloc (.cells y 25)) fun e w' => e = .returned (.bool (decide (a.r = b.r))) ∧ ∃ k, w' = ((w.alloc (.cells x 25)).alloc (.cells y 25)).drewN k) := fun x y => (equal_any ((w.alloc (.cells x 25)).alloc (.cells y 25)) v1 v2 a.r b.r _ _ (c1.below (below_two w _ _) (Nat.le_refl _) (fun h0 => by rw [List.length_eq_zero_iff.1 h0]; rfl)) (c2.below (below_two w _ _) (Nat.le_refl _) (fun h0 => by rw [List.length_eq_zero_iff.1 h0]; rfl)) (by omega) (by omega))
  have HS : Hid (Vl.same a b = (decide (a.k = b.k) && decide (a.n = b.n) && decide (a.r = b.r))) := rfl
  obtain ⟨ak, hak⟩ : ∃ x, x = a.k := ⟨_, rfl⟩
  obtain ⟨an, han⟩ : ∃ x, x = a.n := ⟨_, rfl⟩
  obtain ⟨bk, hbk⟩ : ∃ x, x = b.k := ⟨_, rfl⟩
  obtain ⟨bn, hbn⟩ : ∃ x, x = b.n := ⟨_, rfl⟩
  rw [← hak, ← han, ← hbk, ← hbn] at HS
  rw [← hak, ← han, ← hbk, ← hbn]
  obtain ⟨T, hT⟩ : ∃ t, t = decide (a.r = b.r) := ⟨_, rfl⟩
  rw [← hT] at HC HS
  clear hak han hbk hbn c1 c2 hT
  go_enter Tryd.func59, Tryd.ntmps59
  go_wp2_with (go_at_call 81; refine (HC.out _ _).mono ?_; rintro e w' ⟨rfl, d, rfl⟩)
  all_goals go_ret
  all_goals refine ⟨ret_bool ?_, by first | exact below_two w _ _ | exact below_then (below_two w _ _) (below_draw _ _)⟩
  all_goals rw [HS.out]
  all_goals simp_all

end Go.Proofs.YtcnmgebjbaclaaaDoor
