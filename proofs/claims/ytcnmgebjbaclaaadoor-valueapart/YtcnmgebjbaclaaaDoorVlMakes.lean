/-
  Rows of values; the walks of all, and of what a sign's two sorts make of a row of operands.
-/
import Derived.Test.YtcnmgebjbaclaaaDoorVlFuncs
import Derived.Test.YtcnmgebjbaclaaaDoorHeld
namespace Go.Proofs.YtcnmgebjbaclaaaDoor
open Go.RowKit Go.Shelf
open Vl (V Res)

attribute [local go_sem] Oper.semAt_some

/-- A value in a row. -/
structure VA where
  k : Int
  n : Int
  vs : Value
  r : List Int
def VA.cells (x : VA) : List Value := [.int .u8 x.k, .int .i64 x.n, x.vs]
abbrev VA.val (x : VA) : Value := vV x.k x.n x.vs
def VA.v (x : VA) : V := ⟨x.k, x.n, x.r⟩
def VA.Low (N : Nat) (w : World) (x : VA) : Prop := CellsLow N w x.vs x.r.length (x.r.map (Value.int .i64)) ∧ x.r.length ≤ 1000000000000000
theorem VA.Low.at {A B : World} {x : VA} (h : x.Low A.heap.size A) (hb : Below A.heap.size A B) : x.Low B.heap.size B :=
  ⟨h.1.at hb (fun h0 => by rw [List.length_eq_zero_iff.1 h0]; rfl), h.2⟩
theorem VA.Low.vat {N : Nat} {w : World} {x : VA} (h : x.Low N w) : VAt N w x.val x.v := ⟨x.vs, rfl, h.1⟩
def vaCells (xs : List VA) : List Value := xs.flatMap VA.cells
theorem vaCells_get : ∀ (xs : List VA) (k : Nat) (x : VA), xs[k]? = some x → (vaCells xs)[k * 3]? = some (.int .u8 x.k) ∧ (vaCells xs)[k * 3 + 1]? = some (.int .i64 x.n) ∧ (vaCells xs)[k * 3 + 2]? = some x.vs
  | [], _, _, h => by simp at h
  | y :: r, 0, x, h => by
    simp at h; subst h
    exact ⟨rfl, rfl, rfl⟩
  | y :: r, k + 1, x, h => by
    have e : vaCells (y :: r) = y.cells ++ vaCells r := rfl
    have hl : y.cells.length = 3 := rfl
    obtain ⟨g0, g1, g2⟩ := vaCells_get r k x (by simpa using h)
    rw [e]
    refine ⟨?_, ?_, ?_⟩ <;> rw [List.getElem?_append_right (by omega)]
    · rw [show (k + 1) * 3 - y.cells.length = k * 3 by omega]; exact g0
    · rw [show (k + 1) * 3 + 1 - y.cells.length = k * 3 + 1 by omega]; exact g1
    · rw [show (k + 1) * 3 + 2 - y.cells.length = k * 3 + 2 by omega]; exact g2
/-- A row of values. -/
def VsLow (N : Nat) (w : World) (v : Value) (xs : List VA) : Prop := CellsLow N w v xs.length (vaCells xs) ∧ ∀ x ∈ xs, x.Low N w
theorem VsLow.at {A B : World} {v : Value} {xs : List VA} (h : VsLow A.heap.size A v xs) (hb : Below A.heap.size A B) : VsLow B.heap.size B v xs :=
  ⟨h.1.at hb (fun h0 => by rw [List.length_eq_zero_iff.1 h0]; rfl), fun x hx => (h.2 x hx).at hb⟩
theorem cell_some_below {w W : World} {p : Addr} {v : Value} (h : w.cell? p = some v) (hb : Below w.heap.size w W) : W.cell? p = some v :=
  (hb.cell (p := p) (by simpa using World.block_lt_of_cell? _ _ h)).trans h
theorem vcells_at {w : World} {b : Nat} {c : Array Value} {ty : TypeId} {fr : Nat × Nat} (h : w.heap[b]? = some (.cells c ty fr)) {o : Nat} {u : Value} (hu : c[o]? = some u) : w.cell? ⟨b, o, none⟩ = some u := by
  rw [Lib.cell_of_heap h]; exact hu
abbrev fnV (h : Nat) : Value := .func (.func h) #[] #[]
abbrev boxP (b : Nat) : Value := .pointer (some ⟨b, 0, none⟩)

set_option maxRecDepth 100000 in
set_option maxHeartbeats 2000000 in
theorem notH_any (h hb : Nat) (k n : Int) (vs : Value) (q : Bool) (w : World) (hc : w.cell? ⟨hb, 0, none⟩ = some (fnV h)) (hgg : ∀ args w, (callFunc h args).run Tryd.prog w = .ok (.enter h args) w)
    (H : ∀ W, Below w.heap.size w W → Calls Tryd.prog h #[vV k n vs] W fun e w' => e = .returned (.bool q) ∧ Below W.heap.size W w') :
    Calls Tryd.prog 79 #[vV k n vs, boxP hb] w fun e w' => e = .returned (.bool (!q)) ∧ Below w.heap.size w w' := by
  have HH : Hid (_) := H _ (below_new w (.cells #[.int .u8 k, .int .i64 n, vs] 25))
  have hc2 := cell_some_below hc (below_new w (.cells #[.int .u8 k, .int .i64 n, vs] 25))
  clear H hc
  go_enter Tryd.func79, Tryd.ntmps79
  go_wp2_with fail
  refine Calls.mono HH.out ?_
  rintro e w' ⟨rfl, hb2⟩
  go_wp2
  go_ret
  exact ⟨rfl, below_then (below_new w _) hb2⟩

set_option maxRecDepth 100000 in
set_option maxHeartbeats 4000000 in
theorem indexFunc_any (hb : Nat) (p : V → Bool) (xs : List VA) (v : Value) (w : World) (hv : VsLow w.heap.size w v xs) (hl : xs.length ≤ 1000000000000000)
    (H : ∀ x ∈ xs, ∀ W, Below w.heap.size w W → Calls Tryd.prog 79 #[x.val, boxP hb] W fun e w' => e = .returned (.bool (!p x.v)) ∧ Below W.heap.size W w') :
    Calls Tryd.prog 89 #[v, .func (.func 79) #[] #[boxP hb]] w fun e w' => ∃ z, e = .returned (.int .i64 z) ∧ decide (0 ≤ z) = xs.any (fun x => !p x.v) ∧ Below w.heap.size w w' := by
  obtain ⟨⟨ao, cap, b, off, rfl, -, hao, hc⟩, hlow⟩ := hv
  have HC : Hid (_) := hc
  have HH : Hid (_) := H
  clear hc H hlow
  go_enter Tryd.func89, Tryd.ntmps89
  go_wp2_with fail
  go_loopw [8] (fun i wr => ∃ k : Nat, k ≤ xs.length ∧ i = .int .i64 k ∧ Below w.heap.size w wr ∧ ∀ j x, j < k → xs[j]? = some x → p x.v = true) (fun i _ => xs.length - (intOf i).toNat)
  case atStart => exact ⟨0, Nat.zero_le _, rfl, Below.refl _ _, fun j x hj => absurd hj (Nat.not_lt_zero _)⟩
  case round =>
    obtain ⟨k, hk, rfl, hB, hall⟩ := hrel
    have HA : Hid (∀ j x, j < k → xs[j]? = some x → p x.v = true) := hall
    clear hall
    by_cases hlt : k < xs.length
    · obtain ⟨x, hx⟩ : ∃ x, xs[k]? = some x := ⟨xs[k], List.getElem?_eq_getElem hlt⟩
      obtain ⟨rfl, hbm⟩ := hao (by omega)
      obtain ⟨g0, g1, g2⟩ := vaCells_get xs k x hx
      have c0 : wr.cell? ⟨b, off + k * 3, none⟩ = some (.int .u8 x.k) := cell_some_below (HC.out _ _ g0) hB
      have c1 : wr.cell? ⟨b, off + k * 3 + 1, none⟩ = some (.int .i64 x.n) := cell_some_below (HC.out _ _ g1) hB
      have c2 : wr.cell? ⟨b, off + k * 3 + 2, none⟩ = some x.vs := cell_some_below (HC.out _ _ g2) hB
      have HX : Hid (xs[k]? = some x) := hx
      have HK : Hid (_) := HH.out x (List.mem_of_getElem? hx) wr hB
      obtain ⟨P, hP⟩ : ∃ P, P = p x.v := ⟨_, rfl⟩
      have HP : Hid (P = p x.v) := hP
      rw [← hP] at HK
      obtain ⟨xk, xn, xv, xr⟩ := x
      simp only [VA.val] at HK c0 c1 c2
      clear hx g0 g1 g2 hao HC HH hP
      cases P with
      | true =>
        go_wp2_with fail
        refine Calls.mono HK.out ?_
        rintro e w' ⟨rfl, hb2⟩
        go_wp2
        go_roundw
        case rel =>
          refine ⟨k + 1, by omega, by go_num, hB.trans (hb2.mono hB.size), fun j x hj hx => ?_⟩
          by_cases hjk : j < k
          · exact HA.out j x hjk hx
          · obtain rfl : j = k := by omega
            rw [HX.out] at hx
            injection hx with hx
            rw [← hx]; exact HP.out.symm
        case measure => simp [intOf]; omega
      | false =>
        go_wp2_with fail
        refine Calls.mono HK.out ?_
        rintro e w' ⟨rfl, hb2⟩
        go_wp2
        go_ret
        refine ⟨_, rfl, ?_, hB.trans (hb2.mono hB.size)⟩
        rw [decide_eq_true (by omega)]
        symm
        rw [List.any_eq_true]
        exact ⟨_, List.mem_of_getElem? HX.out, by rw [← HP.out]; rfl⟩
    · clear HC HH hao
      go_wp2
      go_ret
      refine ⟨_, rfl, ?_, hB⟩
      rw [decide_eq_false (by omega)]
      symm
      rw [List.any_eq_false]
      intro x hx
      obtain ⟨j, hj⟩ := List.mem_iff_getElem?.1 hx
      have hjl := (List.getElem?_eq_some_iff.1 hj).1
      rw [HA.out j x (by omega) hj]
      decide

set_option maxRecDepth 100000 in
set_option maxHeartbeats 2000000 in
theorem all_any (h : Nat) (p : V → Bool) (xs : List VA) (v : Value) (w : World) (hv : VsLow w.heap.size w v xs) (hl : xs.length ≤ 1000000000000000) (hgg : ∀ args w, (callFunc h args).run Tryd.prog w = .ok (.enter h args) w)
    (H : ∀ x ∈ xs, ∀ W, Below w.heap.size w W → Calls Tryd.prog h #[x.val] W fun e w' => e = .returned (.bool (p x.v)) ∧ Below W.heap.size W w') :
    Calls Tryd.prog 51 #[fnV h, v] w fun e w' => e = .returned (.bool (xs.all fun x => p x.v)) ∧ Below w.heap.size w w' := by
  obtain ⟨X, hX⟩ : ∃ X, X = w.alloc (.cells #[fnV h] 29) := ⟨_, rfl⟩
  have bX : Below w.heap.size w X := hX ▸ below_new w _
  have hbox : X.cell? ⟨w.heap.size, 0, none⟩ = some (fnV h) := by rw [hX]; exact vcells_at (World.alloc_heap_new w _) rfl
  have HI : Hid (_) := indexFunc_any w.heap.size p xs v X (hv.at bX) hl (fun x hx W hW => notH_any h w.heap.size x.k x.n x.vs (p x.v) W (cell_some_below hbox hW) hgg (fun W2 hW2 => H x hx W2 (below_then bX (below_then hW hW2))))
  have HB : Hid (Below w.heap.size w X) := bX
  have hmf : ∀ (fn : Fn) (first cap : Array Value) (w : World), (Instr.makeFunc fn first cap).run Tryd.prog w = .ok (.func fn first cap) w := fun _ _ _ _ => rfl
  have HC : Hid (∀ W, W = X → Calls Tryd.prog 78 #[v, .func (.func 79) #[] #[boxP w.heap.size]] W fun e w' => e = .returned (.bool (xs.any fun x => !p x.v)) ∧ Below X.heap.size X w') := by
    rintro W rfl
    clear hX bX hbox
    go_enter Tryd.func78, Tryd.ntmps78
    go_wp2_with fail
    refine Calls.mono HI.out ?_
    rintro e w' ⟨z, rfl, hz, hb2⟩
    go_wp2
    go_ret
    exact ⟨rfl, hb2⟩
  have HN : Hid ((xs.all fun x => p x.v) = !(xs.any fun x => !p x.v)) := by
    show _ = _
    rw [List.all_eq_not_any_not]
  clear hv H hbox HI bX
  go_enter Tryd.func51, Tryd.ntmps51
  go_wp2_with fail
  refine Calls.mono (HC.out _ hX.symm) ?_
  rintro e w' ⟨rfl, hb2⟩
  go_wp2
  go_ret
  exact ⟨ret_bool HN.out.symm, below_then HB.out hb2⟩

/-- A value is stored into a box of its own. -/
theorem store_value {w : World} {b B : Nat} {x0 x1 x2 : Value} (h : w.heap[b]? = some (.cells #[x0, x1, x2] 25 (0, 0))) (hB : B ≤ b) (y0 y1 y2 : Value) :
    ∃ W, W = ((w.setCell ⟨b, 0, none⟩ y0).setCell ⟨b, 1, none⟩ y1).setCell ⟨b, 2, none⟩ y2 ∧ W.heap[b]? = some (.cells #[y0, y1, y2] 25 (0, 0)) ∧ Below B w W := by
  have a0 := heap_setCell_same w b 0 _ _ y0 h
  have a1 := heap_setCell_same _ b 1 _ _ y1 a0
  have a2 := heap_setCell_same _ b 2 _ _ y2 a1
  have g := ((grown_set w b 0 y0).trans (grown_set _ b 1 y1)).trans (grown_set _ b 2 y2)
  have hl := (Array.getElem?_eq_some_iff.1 h).1
  exact ⟨_, rfl, a2, g.os, g.tape, g.output, g.size, fun j hj => g.block j (by omega) (fun e => by cases e; omega)⟩

set_option maxRecDepth 100000 in
set_option maxHeartbeats 4000000 in
theorem judges1_any (h fb rb cap : Nat) (x y : VA) (J : Bool) (w : World) (hc : w.cell? ⟨fb, 0, none⟩ = some (fnV h)) (hgg : ∀ args w, (callFunc h args).run Tryd.prog w = .ok (.enter h args) w)
    (hr : ∀ j u, (vaCells [x, y])[j]? = some u → w.cell? ⟨rb, j, none⟩ = some u)
    (H : ∀ W, Below w.heap.size w W → Calls Tryd.prog h #[x.val, y.val] W fun e w' => e = .returned (.bool J) ∧ Below W.heap.size W w') :
    Calls Tryd.prog 80 #[.slice (some ⟨rb, 0, none⟩) 2 cap, boxP fb] w fun e w' => e = .returned (vV 2 (Vl.one J) nilV) ∧ Below w.heap.size w w' := by
  obtain ⟨X, hX⟩ : ∃ X, X = w.alloc (.cells #[.int .u8 0, .int .i64 0, nilV] 25) := ⟨_, rfl⟩
  have bX : Below w.heap.size w X := hX ▸ below_new w _
  have hXb : X.heap[w.heap.size]? = some (.cells #[.int .u8 0, .int .i64 0, nilV] 25 (0, 0)) := by rw [hX]; exact World.alloc_heap_new w _
  have HCF : Hid (∀ z, Below w.heap.size w z → z.cell? ⟨fb, 0, none⟩ = some (fnV h) ∧ z.cell? ⟨rb, 0, none⟩ = some (.int .u8 x.k) ∧ z.cell? ⟨rb, 1, none⟩ = some (.int .i64 x.n) ∧ z.cell? ⟨rb, 2, none⟩ = some x.vs ∧ z.cell? ⟨rb, 3, none⟩ = some (.int .u8 y.k) ∧ z.cell? ⟨rb, 4, none⟩ = some (.int .i64 y.n) ∧ z.cell? ⟨rb, 5, none⟩ = some y.vs) := fun z hz =>
    ⟨cell_some_below hc hz, cell_some_below (hr 0 _ rfl) hz, cell_some_below (hr 1 _ rfl) hz, cell_some_below (hr 2 _ rfl) hz, cell_some_below (hr 3 _ rfl) hz, cell_some_below (hr 4 _ rfl) hz, cell_some_below (hr 5 _ rfl) hz⟩
  have HH : Hid (_) := H
  have HB : Hid (Below w.heap.size w X.drew ∧ X.heap[w.heap.size]? = some (.cells #[.int .u8 0, .int .i64 0, nilV] 25 (0, 0)) ∧ w.heap.size < X.heap.size) := ⟨below_then bX (below_draw X 1), hXb, (Array.getElem?_eq_some_iff.1 hXb).1⟩
  obtain ⟨xk, xn, xv, xr⟩ := x
  obtain ⟨yk, yn, yv, yr⟩ := y
  simp only [VA.val] at HH HCF
  clear hc hr H bX hXb
  refine (callsIn_wide (n := 3)).1 ?_
  refine callsIn_of_wp Tryd.func80 rfl trivial ?_ rfl
  simp only [Tryd.ntmps80, List.size_toArray, List.length_cons, List.length_nil, Nat.reduceAdd, Nat.reduceSub, Array.replicate_succ, Array.replicate_zero, List.push_toArray, List.append_toArray, List.nil_append, List.cons_append]
  gi_wp2
  rw [← hX]
  clear hX
  refine region_lex (fun z => Below w.heap.size w z) 7 3 rfl (by kernel_rfl) (by kernel_rfl) (by kernel_rfl) (by kernel_rfl) (fun _ _ d _ _ h => by cases d <;> exact h) HB.out.1 ?_
  simp only [List.take_succ_cons, List.take_zero]
  iterate 7 (first
    | (apply lexC_want
       · rfl
       · exact fun _ => rfl
       · (intro w' hw'; obtain ⟨f1, f2, f3, f4, f5, f6, f7⟩ := HCF.out w' hw'; go_simp; try rfl)
       simp only [Act.put, List.setIfInBounds_toArray, List.set_cons_zero, List.set_cons_succ])
    | (apply lexC_skip
       · rfl
       · exact fun _ => rfl
       simp only [Act.put, List.setIfInBounds_toArray, List.set_cons_zero, List.set_cons_succ]))
  refine lexC_nil ?_
  refine anyC_one (i := 7) (by kernel_rfl) rfl (by rfl) (fun K1 hK1 => ?_)
  go_simp
  refine ⟨trivial, ?_⟩
  refine (callsIn_wide.2 (HH.out _ HB.out.1)).mono ?_
  rintro e w1 ⟨rfl, hb1⟩
  refine hK1 _ _ (HB.out.1.trans (hb1.mono HB.out.1.size)) ?_
  refine anyC_one (i := 8) (by kernel_rfl) rfl (by rfl) (fun K2 hK2 => ?_)
  go_simp
  refine ⟨trivial, ?_⟩
  refine (callsIn_wide.2 (truth_any J w1)).mono ?_
  rintro e w2 ⟨rfl, hb2⟩
  have hB2 : Below w.heap.size w w2 := below_then (below_then HB.out.1 hb1) hb2
  refine hK2 _ _ hB2 ?_
  have hw2 : w2.heap[w.heap.size]? = some (.cells #[.int .u8 0, .int .i64 0, nilV] 25 (0, 0)) := by
    rw [hb2.block _ (Nat.lt_of_lt_of_le HB.out.2.2 hb1.size), hb1.block _ HB.out.2.2]
    exact HB.out.2.1
  refine anyC_one (i := 9) (by kernel_rfl) rfl (by rfl) (fun K3 hK3 => ?_)
  have v0 := vcells_at hw2 (o := 0) rfl
  have v1 := vcells_at hw2 (o := 1) rfl
  have v2 := vcells_at hw2 (o := 2) rfl
  have vf : ∀ j, w2.frozen? ⟨w.heap.size, j, none⟩ = false := fun j => frozen_of_row _ _ j _ _ hw2
  go_simp
  obtain ⟨W3, hW3, hw3, hb3⟩ := store_value hw2 (Nat.le_refl _) (.int .u8 2) (.int .i64 (Vl.one J)) (.slice none 0 0)
  rw [← hW3]
  have hB3 : Hid (Below w.heap.size w W3) := hB2.trans hb3
  refine hK3 _ _ hB3.out ?_
  refine anyC_done (by kernel_rfl) ?_
  have e0 := vcells_at hw3 (o := 0) rfl
  have e1 := vcells_at hw3 (o := 1) rfl
  have e2 := vcells_at hw3 (o := 2) rfl
  clear hW3 hw3 hb3 hw2 hB2 v0 v1 v2 vf hb1 hb2 HCF HH
  gi_wp2
  refine bodyPost_ret (v := vV 2 (Vl.one J) nilV) ?_ rfl ⟨rfl, hB3.out⟩
  simp [results, Tryd.results80, go_sem, e0, e1, e2]
set_option maxRecDepth 100000 in
set_option maxHeartbeats 4000000 in
theorem counts1_any (h fb rb cap : Nat) (x y : VA) (Z : Int) (w : World) (hc : w.cell? ⟨fb, 0, none⟩ = some (fnV h)) (hgg : ∀ args w, (callFunc h args).run Tryd.prog w = .ok (.enter h args) w)
    (hr : ∀ j u, (vaCells [x, y])[j]? = some u → w.cell? ⟨rb, j, none⟩ = some u)
    (H : ∀ W, Below w.heap.size w W → Calls Tryd.prog h #[.int .i64 x.n, .int .i64 y.n] W fun e w' => e = .returned (.int .i64 Z) ∧ w' = W) :
    Calls Tryd.prog 82 #[.slice (some ⟨rb, 0, none⟩) 2 cap, boxP fb] w fun e w' => e = .returned (vV 1 Z nilV) ∧ Below w.heap.size w w' := by
  obtain ⟨X, hX⟩ : ∃ X, X = w.alloc (.cells #[.int .u8 0, .int .i64 0, nilV] 25) := ⟨_, rfl⟩
  have bX : Below w.heap.size w X := hX ▸ below_new w _
  have hXb : X.heap[w.heap.size]? = some (.cells #[.int .u8 0, .int .i64 0, nilV] 25 (0, 0)) := by rw [hX]; exact World.alloc_heap_new w _
  have HCF : Hid (∀ z, Below w.heap.size w z → z.cell? ⟨fb, 0, none⟩ = some (fnV h) ∧ z.cell? ⟨rb, 0, none⟩ = some (.int .u8 x.k) ∧ z.cell? ⟨rb, 1, none⟩ = some (.int .i64 x.n) ∧ z.cell? ⟨rb, 2, none⟩ = some x.vs ∧ z.cell? ⟨rb, 3, none⟩ = some (.int .u8 y.k) ∧ z.cell? ⟨rb, 4, none⟩ = some (.int .i64 y.n) ∧ z.cell? ⟨rb, 5, none⟩ = some y.vs) := fun z hz =>
    ⟨cell_some_below hc hz, cell_some_below (hr 0 _ rfl) hz, cell_some_below (hr 1 _ rfl) hz, cell_some_below (hr 2 _ rfl) hz, cell_some_below (hr 3 _ rfl) hz, cell_some_below (hr 4 _ rfl) hz, cell_some_below (hr 5 _ rfl) hz⟩
  have HH : Hid (_) := H
  have HB : Hid (Below w.heap.size w X.drew ∧ X.heap[w.heap.size]? = some (.cells #[.int .u8 0, .int .i64 0, nilV] 25 (0, 0)) ∧ w.heap.size < X.heap.size) := ⟨below_then bX (below_draw X 1), hXb, (Array.getElem?_eq_some_iff.1 hXb).1⟩
  obtain ⟨xk, xn, xv, xr⟩ := x
  obtain ⟨yk, yn, yv, yr⟩ := y
  simp only at HH HCF
  clear hc hr H bX hXb
  refine (callsIn_wide (n := 3)).1 ?_
  refine callsIn_of_wp Tryd.func82 rfl trivial ?_ rfl
  simp only [Tryd.ntmps82, List.size_toArray, List.length_cons, List.length_nil, Nat.reduceAdd, Nat.reduceSub, Array.replicate_succ, Array.replicate_zero, List.push_toArray, List.append_toArray, List.nil_append, List.cons_append]
  gi_wp2
  rw [← hX]
  clear hX
  refine region_lex (fun z => Below w.heap.size w z) 9 3 rfl (by kernel_rfl) (by kernel_rfl) (by kernel_rfl) (by kernel_rfl) (fun _ _ d _ _ h => by cases d <;> exact h) HB.out.1 ?_
  simp only [List.take_succ_cons, List.take_zero]
  iterate 9 (first
    | (apply lexC_want
       · rfl
       · exact fun _ => rfl
       · (intro w' hw'; obtain ⟨f1, f2, f3, f4, f5, f6, f7⟩ := HCF.out w' hw'; go_simp; try rfl)
       simp only [Act.put, List.setIfInBounds_toArray, List.set_cons_zero, List.set_cons_succ])
    | (apply lexC_skip
       · rfl
       · exact fun _ => rfl
       simp only [Act.put, List.setIfInBounds_toArray, List.set_cons_zero, List.set_cons_succ]))
  refine lexC_nil ?_
  refine anyC_one (i := 9) (by kernel_rfl) rfl (by rfl) (fun K1 hK1 => ?_)
  go_simp
  refine ⟨trivial, ?_⟩
  refine (callsIn_wide.2 (HH.out _ HB.out.1)).mono ?_
  rintro e w1 ⟨rfl, rfl⟩
  refine hK1 _ _ HB.out.1 ?_
  refine anyC_one (i := 10) (by kernel_rfl) rfl (by rfl) (fun K2 hK2 => ?_)
  go_simp
  refine ⟨trivial, ?_⟩
  refine (callsIn_wide.2 (number_any Z _)).mono ?_
  rintro e w2 ⟨he, hb2⟩
  subst he
  have hB2 : Below w.heap.size w w2 := below_then HB.out.1 hb2
  refine hK2 _ _ hB2 ?_
  have hw2 : w2.heap[w.heap.size]? = some (.cells #[.int .u8 0, .int .i64 0, nilV] 25 (0, 0)) := by
    rw [hb2.block _ HB.out.2.2]
    exact HB.out.2.1
  refine anyC_one (i := 11) (by kernel_rfl) rfl (by rfl) (fun K3 hK3 => ?_)
  have v0 := vcells_at hw2 (o := 0) rfl
  have v1 := vcells_at hw2 (o := 1) rfl
  have v2 := vcells_at hw2 (o := 2) rfl
  have vf : ∀ j, w2.frozen? ⟨w.heap.size, j, none⟩ = false := fun j => frozen_of_row _ _ j _ _ hw2
  go_simp
  obtain ⟨W3, hW3, hw3, hb3⟩ := store_value hw2 (Nat.le_refl _) (.int .u8 1) (.int .i64 Z) (.slice none 0 0)
  rw [← hW3]
  have hB3 : Hid (Below w.heap.size w W3) := hB2.trans hb3
  refine hK3 _ _ hB3.out ?_
  refine anyC_done (by kernel_rfl) ?_
  have e0 := vcells_at hw3 (o := 0) rfl
  have e1 := vcells_at hw3 (o := 1) rfl
  have e2 := vcells_at hw3 (o := 2) rfl
  clear hW3 hw3 hb3 hw2 hB2 v0 v1 v2 vf hb2 HCF HH
  gi_wp2
  refine bodyPost_ret (v := vV 1 Z nilV) ?_ rfl ⟨rfl, hB3.out⟩
  simp [results, Tryd.results82, go_sem, e0, e1, e2]
set_option maxRecDepth 100000 in
set_option maxHeartbeats 4000000 in
theorem counts1_no (h fb rb cap : Nat) (x y : VA) (E : Int) (w : World) (hc : w.cell? ⟨fb, 0, none⟩ = some (fnV h)) (hgg : ∀ args w, (callFunc h args).run Tryd.prog w = .ok (.enter h args) w)
    (hr : ∀ j u, (vaCells [x, y])[j]? = some u → w.cell? ⟨rb, j, none⟩ = some u)
    (H : ∀ W, Below w.heap.size w W → Calls Tryd.prog h #[.int .i64 x.n, .int .i64 y.n] W fun e w' => e = thrown E ∧ w' = W) :
    Calls Tryd.prog 82 #[.slice (some ⟨rb, 0, none⟩) 2 cap, boxP fb] w fun e w' => e = thrown E ∧ Below w.heap.size w w' := by
  obtain ⟨X, hX⟩ : ∃ X, X = w.alloc (.cells #[.int .u8 0, .int .i64 0, nilV] 25) := ⟨_, rfl⟩
  have bX : Below w.heap.size w X := hX ▸ below_new w _
  have hXb : X.heap[w.heap.size]? = some (.cells #[.int .u8 0, .int .i64 0, nilV] 25 (0, 0)) := by rw [hX]; exact World.alloc_heap_new w _
  have HCF : Hid (∀ z, Below w.heap.size w z → z.cell? ⟨fb, 0, none⟩ = some (fnV h) ∧ z.cell? ⟨rb, 0, none⟩ = some (.int .u8 x.k) ∧ z.cell? ⟨rb, 1, none⟩ = some (.int .i64 x.n) ∧ z.cell? ⟨rb, 2, none⟩ = some x.vs ∧ z.cell? ⟨rb, 3, none⟩ = some (.int .u8 y.k) ∧ z.cell? ⟨rb, 4, none⟩ = some (.int .i64 y.n) ∧ z.cell? ⟨rb, 5, none⟩ = some y.vs) := fun z hz =>
    ⟨cell_some_below hc hz, cell_some_below (hr 0 _ rfl) hz, cell_some_below (hr 1 _ rfl) hz, cell_some_below (hr 2 _ rfl) hz, cell_some_below (hr 3 _ rfl) hz, cell_some_below (hr 4 _ rfl) hz, cell_some_below (hr 5 _ rfl) hz⟩
  have HH : Hid (_) := H
  have HB : Hid (Below w.heap.size w X.drew ∧ X.heap[w.heap.size]? = some (.cells #[.int .u8 0, .int .i64 0, nilV] 25 (0, 0)) ∧ w.heap.size < X.heap.size) := ⟨below_then bX (below_draw X 1), hXb, (Array.getElem?_eq_some_iff.1 hXb).1⟩
  obtain ⟨xk, xn, xv, xr⟩ := x
  obtain ⟨yk, yn, yv, yr⟩ := y
  simp only at HH HCF
  clear hc hr H bX hXb
  refine (callsIn_wide (n := 3)).1 ?_
  refine callsIn_of_wp Tryd.func82 rfl trivial ?_ rfl
  simp only [Tryd.ntmps82, List.size_toArray, List.length_cons, List.length_nil, Nat.reduceAdd, Nat.reduceSub, Array.replicate_succ, Array.replicate_zero, List.push_toArray, List.append_toArray, List.nil_append, List.cons_append]
  gi_wp2
  rw [← hX]
  clear hX
  refine region_lex (fun z => Below w.heap.size w z) 9 3 rfl (by kernel_rfl) (by kernel_rfl) (by kernel_rfl) (by kernel_rfl) (fun _ _ d _ _ h => by cases d <;> exact h) HB.out.1 ?_
  simp only [List.take_succ_cons, List.take_zero]
  iterate 9 (first
    | (apply lexC_want
       · rfl
       · exact fun _ => rfl
       · (intro w' hw'; obtain ⟨f1, f2, f3, f4, f5, f6, f7⟩ := HCF.out w' hw'; go_simp; try rfl)
       simp only [Act.put, List.setIfInBounds_toArray, List.set_cons_zero, List.set_cons_succ])
    | (apply lexC_skip
       · rfl
       · exact fun _ => rfl
       simp only [Act.put, List.setIfInBounds_toArray, List.set_cons_zero, List.set_cons_succ]))
  refine lexC_nil ?_
  refine anyC_one (i := 9) (by kernel_rfl) rfl (by rfl) (fun K1 hK1 => ?_)
  go_simp
  refine ⟨trivial, ?_⟩
  refine (callsIn_wide.2 (HH.out _ HB.out.1)).mono ?_
  rintro e w1 ⟨rfl, rfl⟩
  exact ⟨rfl, rfl, HB.out.1⟩

set_option maxRecDepth 100000 in
set_option maxHeartbeats 2000000 in
theorem unary1_any (rb cap : Nat) (x : VA) (w : World) (hr : ∀ j u, (vaCells [x])[j]? = some u → w.cell? ⟨rb, j, none⟩ = some u) :
    Calls Tryd.prog 52 #[.slice (some ⟨rb, 0, none⟩) 1 cap] w fun e w' => e = .returned (vV 1 (Vl.wrap (-x.n)) nilV) ∧ Below w.heap.size w w' := by
  have bX : Below w.heap.size w (w.alloc (.cells #[.int .u8 0, .int .i64 0, .slice none 0 0] 25)) := below_new w _
  have hXb : (w.alloc (.cells #[.int .u8 0, .int .i64 0, .slice none 0 0] 25)).heap[w.heap.size]? = some (.cells #[.int .u8 0, .int .i64 0, nilV] 25 (0, 0)) := World.alloc_heap_new w _
  have c1 : (w.alloc (.cells #[.int .u8 0, .int .i64 0, .slice none 0 0] 25)).cell? ⟨rb, 1, none⟩ = some (.int .i64 x.n) := cell_some_below (hr 1 _ rfl) bX
  have HB : Hid (_) := And.intro bX (And.intro hXb (Array.getElem?_eq_some_iff.1 hXb).1)
  obtain ⟨xk, xn, xv, xr⟩ := x
  simp only at c1 ⊢
  clear hr bX hXb
  go_enter Tryd.func52, Tryd.ntmps52
  go_wp2_with fail
  refine Calls.mono (number_any _ _) ?_
  rintro e w2 ⟨he, hb2⟩
  subst he
  have hw2 := (hb2.block _ HB.out.2.2).trans HB.out.2.1
  have v0 := vcells_at hw2 (o := 0) rfl
  have v1 := vcells_at hw2 (o := 1) rfl
  have v2 := vcells_at hw2 (o := 2) rfl
  have vf : ∀ j, w2.frozen? ⟨w.heap.size, j, none⟩ = false := fun j => frozen_of_row _ _ j _ _ hw2
  obtain ⟨W3, hW3, hw3, hb3⟩ := store_value hw2 (Nat.le_refl _) (.int .u8 1) (.int .i64 (wrap64 (-xn))) (.slice none 0 0)
  have hB3 : Hid (Below w.heap.size w W3) := (below_then HB.out.1 hb2).trans hb3
  have H3 : Hid (_) := hw3
  clear hw3 hb3 hw2 hb2
  go_wp2
  rw [← hW3]
  have e0 := vcells_at H3.out (o := 0) rfl
  have e1 := vcells_at H3.out (o := 1) rfl
  have e2 := vcells_at H3.out (o := 2) rfl
  clear hW3 v0 v1 v2 vf
  refine bodyPost_ret (v := vV 1 (wrap64 (-xn)) nilV) ?_ rfl ⟨by rw [show wrap64 (-xn) = Vl.wrap (-xn) by simp [Vl.wrap, wrap64]], hB3.out⟩
  simp [results, Tryd.results52, go_sem, e0, e1, e2]
set_option maxRecDepth 100000 in
set_option maxHeartbeats 2000000 in
theorem unary2_any (rb cap : Nat) (x : VA) (w : World) (hr : ∀ j u, (vaCells [x])[j]? = some u → w.cell? ⟨rb, j, none⟩ = some u) :
    Calls Tryd.prog 54 #[.slice (some ⟨rb, 0, none⟩) 1 cap] w fun e w' => e = .returned (vV 2 (Vl.one (x.n == 0)) nilV) ∧ Below w.heap.size w w' := by
  have bX : Below w.heap.size w (w.alloc (.cells #[.int .u8 0, .int .i64 0, .slice none 0 0] 25)) := below_new w _
  have hXb : (w.alloc (.cells #[.int .u8 0, .int .i64 0, .slice none 0 0] 25)).heap[w.heap.size]? = some (.cells #[.int .u8 0, .int .i64 0, nilV] 25 (0, 0)) := World.alloc_heap_new w _
  have c1 : (w.alloc (.cells #[.int .u8 0, .int .i64 0, .slice none 0 0] 25)).cell? ⟨rb, 1, none⟩ = some (.int .i64 x.n) := cell_some_below (hr 1 _ rfl) bX
  have HB : Hid (_) := And.intro bX (And.intro hXb (Array.getElem?_eq_some_iff.1 hXb).1)
  obtain ⟨xk, xn, xv, xr⟩ := x
  simp only at c1 ⊢
  clear hr bX hXb
  go_enter Tryd.func54, Tryd.ntmps54
  go_wp2_with fail
  refine Calls.mono (truth_any _ _) ?_
  rintro e w2 ⟨he, hb2⟩
  subst he
  have hw2 := (hb2.block _ HB.out.2.2).trans HB.out.2.1
  have v0 := vcells_at hw2 (o := 0) rfl
  have v1 := vcells_at hw2 (o := 1) rfl
  have v2 := vcells_at hw2 (o := 2) rfl
  have vf : ∀ j, w2.frozen? ⟨w.heap.size, j, none⟩ = false := fun j => frozen_of_row _ _ j _ _ hw2
  obtain ⟨W3, hW3, hw3, hb3⟩ := store_value hw2 (Nat.le_refl _) (.int .u8 2) (.int .i64 (Vl.one (xn == 0))) (.slice none 0 0)
  have hB3 : Hid (Below w.heap.size w W3) := (below_then HB.out.1 hb2).trans hb3
  have H3 : Hid (_) := hw3
  clear hw3 hb3 hw2 hb2
  go_wp2
  rw [← hW3]
  have e0 := vcells_at H3.out (o := 0) rfl
  have e1 := vcells_at H3.out (o := 1) rfl
  have e2 := vcells_at H3.out (o := 2) rfl
  clear hW3 v0 v1 v2 vf
  refine bodyPost_ret (v := vV 2 (Vl.one (xn == 0)) nilV) ?_ rfl ⟨rfl, hB3.out⟩
  simp [results, Tryd.results54, go_sem, e0, e1, e2]
end Go.Proofs.YtcnmgebjbaclaaaDoor
