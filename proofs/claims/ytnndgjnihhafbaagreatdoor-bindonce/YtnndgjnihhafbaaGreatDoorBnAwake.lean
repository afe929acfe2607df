/-
  The walk of awake: it is.
-/
import Derived.Test.YtnndgjnihhafbaaGreatDoorBnInts
import Derived.Test.YtnndgjnihhafbaaGreatDoorBnAwake0
import Derived.Test.YtnndgjnihhafbaaGreatDoorEndAll
namespace Go.Proofs.YtnndgjnihhafbaaGreatDoor
open Go.RowKit Go.Shelf

attribute [local go_sem] Oper.semAt_some

theorem told_cell {n k : Nat} {w : World} {a : Option Addr} {L c : Nat} {cs : List Value} (h : w.ownsRow n 46 3 (.slice a L c) k cs) (hk : 0 < k) : ∃ g, a = some ⟨g, 0, none⟩ ∧ n ≤ g ∧ g < w.heap.size ∧ ∀ (j : Nat) (u : Value), cs[j]? = some u → w.cell? ⟨g, j, none⟩ = some u := by
  have h0 := h
  rcases h.2 with ⟨e, h9⟩ | ⟨g, cap, cur, e, hb, hg, r⟩
  · omega
  · injection e with e1 e2 e3
    subst e1 e2 e3
    refine ⟨g, rfl, hb, (Array.getElem?_eq_some_iff.1 hg).1, fun j u hu => ?_⟩
    have hl := (List.getElem?_eq_some_iff.1 hu).1
    rw [h0.1] at hl
    exact (h0.cellAt j hl).trans hu
theorem BTold.cons {n : Nat} {w : World} {d : Bn.Bd} {l : List Bn.Bd} : ∀ {cs : List Value}, BTold n w cs (d :: l) → ∃ pv uv r, cs = pv :: .string (Ln.bs d.name) :: uv :: r ∧ d.name.length ≤ 1000000 ∧ w.ownsRow n 3 1 pv d.path.length (d.path.map numV) ∧ (∃ rows, w.ownsRow n 44 1 uv d.uses.length rows ∧ ∀ (j : Nat) (v : Value) (u : List Nat), rows[j]? = some v → d.uses[j]? = some u → w.ownsRow n 3 1 v u.length (u.map numV)) ∧ BTold n w r l
  | [], h => h.elim
  | [_], h => by simp [BTold] at h
  | [_, _], h => by simp [BTold] at h
  | pv :: nm :: uv :: r, ⟨⟨h1, h2, h3, h4⟩, h5⟩ => ⟨pv, uv, r, by rw [h1], h2, h3, h4, h5⟩
theorem BTold.nil {n : Nat} {w : World} : ∀ {cs : List Value}, BTold n w cs [] → cs = []
  | [], _ => rfl
  | [_], h => by simp [BTold] at h
  | [_, _], h => by simp [BTold] at h
  | _ :: _ :: _ :: _, h => h.elim
theorem told_three {n : Nat} {w : World} {cs : List Value} {d1 d2 d3 : Bn.Bd} (h : BTold n w cs [d1, d2, d3]) : ∃ p1 n1 u1 p2 n2 u2 p3 n3 u3 r1 r2 r3, cs = [p1, n1, u1, p2, n2, u2, p3, n3, u3] ∧ w.ownsRow n 44 1 u1 d1.uses.length r1 ∧ w.ownsRow n 44 1 u2 d2.uses.length r2 ∧ (∀ (j : Nat) (v : Value) (u : List Nat), r2[j]? = some v → d2.uses[j]? = some u → w.ownsRow n 3 1 v u.length (u.map numV)) ∧ w.ownsRow n 44 1 u3 d3.uses.length r3 := by
  obtain ⟨p1, u1, r1, rfl, -, -, ⟨s1, a1, -⟩, h⟩ := h.cons
  obtain ⟨p2, u2, r2, rfl, -, -, ⟨s2, a2, b2⟩, h⟩ := h.cons
  obtain ⟨p3, u3, r3, rfl, -, -, ⟨s3, a3, -⟩, h⟩ := h.cons
  obtain rfl := h.nil
  exact ⟨_, _, _, _, _, _, _, _, _, _, _, _, rfl, a1, a2, b2, a3⟩
set_option maxRecDepth 100000 in
theorem bf_zero (a b : Int) : ∀ w, (Instr.field 31 (.agg #[.int .i64 a, .int .i64 b]) 0).run Tryz.prog w = .ok (.int .i64 a) w := by intro w; rfl

set_option maxRecDepth 100000 in
set_option maxHeartbeats 8000000 in
theorem bawake_any (w : World) (hsg : SignsAt w.heap.size w) : Calls Tryz.prog 9 #[] w fun e w' => e = .returned (.bool true) ∧ Below w.heap.size w w' := by
  have HSG : Hid (SignsAt w.heap.size w) := hsg
  have HA : Hid (_) := pfileAll_any sA9 w hsg (by decide)
  clear hsg
  go_enter Tryz.func9, Tryz.ntmps9
  go_wp2_with fail
  refine Calls.mono HA.out ?_
  rintro e w1 ⟨b1, g1⟩
  obtain ⟨v, rfl, nd⟩ := g1.node lexesA9 eatsA9 rightA9
  clear HA g1
  obtain ⟨k, tx, n, a, L, c, rfl⟩ := nd.pshape
  obtain ⟨t1, t2, t3, t4⟩ := two_boxes w1 #[.int .u8 k, .string (Ln.bs tx), .int .i64 n, .slice a L c] #[.int .i64 0, .int .i64 0]
  obtain ⟨X, hX⟩ : ∃ X, X = (w1.alloc (.cells #[.int .u8 k, .string (Ln.bs tx), .int .i64 n, .slice a L c] 25)).alloc (.cells #[.int .i64 0, .int .i64 0] 31) := ⟨_, rfl⟩
  rw [← hX] at t1 t2 t3 t4
  have bX : Below w.heap.size w X := below_then b1 t1
  have HB : Hid (_) := pfileAll_any sB9 X ((HSG.out.keep bX).mono bX.size) (by decide)
  have HX : Hid (Below w.heap.size w X ∧ X.heap.size = w1.heap.size + 1 + 1 ∧ X.heap[w1.heap.size]? = some (.cells #[.int .u8 k, .string (Ln.bs tx), .int .i64 n, .slice a L c] 25 (0, 0)) ∧ X.heap[w1.heap.size + 1]? = some (.cells #[.int .i64 0, .int .i64 0] 31 (0, 0)) ∧ NodeR (newS w.heap.size X.heap.size) X (.agg #[.int .u8 k, .string (Ln.bs tx), .int .i64 n, .slice a L c]) (.mk 1 [] 0 [kidA9])) := ⟨bX, t2, t3, t4, nd.low t1 (Nat.le_refl _)⟩
  clear t1 t2 t3 t4 bX b1 nd HSG
  go_wp2_with fail
  rw [← hX]
  clear hX
  refine Calls.mono HB.out ?_
  rintro e w2 ⟨b2, g2⟩
  obtain ⟨v, rfl, nd⟩ := g2.node lexesB9 eatsB9 rightB9
  clear HB g2
  obtain ⟨k2, tx2, n2, a2, L2, c2, rfl⟩ := nd.pshape
  obtain ⟨t1, t2, t3, t4⟩ := two_boxes w2 #[.int .u8 k2, .string (Ln.bs tx2), .int .i64 n2, .slice a2 L2 c2] #[.int .i64 0, .int .i64 0]
  obtain ⟨Y, hY⟩ : ∃ X, X = (w2.alloc (.cells #[.int .u8 k2, .string (Ln.bs tx2), .int .i64 n2, .slice a2 L2 c2] 25)).alloc (.cells #[.int .i64 0, .int .i64 0] 31) := ⟨_, rfl⟩
  rw [← hY] at t1 t2 t3 t4
  have bY : Below X.heap.size X Y := below_then b2 t1
  obtain ⟨x1, x2, x3, x4, x5⟩ := HX.out
  have y3 := (bY.block _ (by omega)).trans x3
  have y4 := (bY.block _ (by omega)).trans x4
  have hs2 : X.heap.size ≤ w2.heap.size := b2.size
  have ndY := x5.low bY (Nat.le_refl _)
  have HBI : Hid (_) := binders_any (newS w.heap.size Y.heap.size) _ _ Y (fun b hb => hb.2) ndY bdA9
  have HY : Hid (Below w.heap.size w Y ∧ w1.heap.size + 1 + 1 ≤ w2.heap.size ∧ Y.heap.size = w2.heap.size + 1 + 1 ∧ Y.heap[w1.heap.size]? = some (.cells #[.int .u8 k, .string (Ln.bs tx), .int .i64 n, .slice a L c] 25 (0, 0)) ∧ Y.heap[w1.heap.size + 1]? = some (.cells #[.int .i64 0, .int .i64 0] 31 (0, 0)) ∧ Y.heap[w2.heap.size]? = some (.cells #[.int .u8 k2, .string (Ln.bs tx2), .int .i64 n2, .slice a2 L2 c2] 25 (0, 0)) ∧ Y.heap[w2.heap.size + 1]? = some (.cells #[.int .i64 0, .int .i64 0] 31 (0, 0)) ∧ NodeR (newS w.heap.size Y.heap.size) Y (.agg #[.int .u8 k, .string (Ln.bs tx), .int .i64 n, .slice a L c]) (.mk 1 [] 0 [kidA9]) ∧ NodeR (newS X.heap.size Y.heap.size) Y (.agg #[.int .u8 k2, .string (Ln.bs tx2), .int .i64 n2, .slice a2 L2 c2]) (.mk 1 [] 0 [kidB9])) := ⟨below_then x1 bY, by omega, t2, y3, y4, t3, t4, ndY, nd.low t1 (Nat.le_refl _)⟩
  have p0 : Y.cell? ⟨w1.heap.size, 0, none⟩ = some (.int .u8 k) := cells_at y3 rfl
  have p1 : Y.cell? ⟨w1.heap.size, 1, none⟩ = some (.string (Ln.bs tx)) := cells_at y3 rfl
  have p2 : Y.cell? ⟨w1.heap.size, 2, none⟩ = some (.int .i64 n) := cells_at y3 rfl
  have p3 : Y.cell? ⟨w1.heap.size, 3, none⟩ = some (.slice a L c) := cells_at y3 rfl
  rw [hY] at p0 p1 p2 p3
  clear t1 t2 t3 t4 bY b2 nd x1 x2 x3 x4 x5 y3 y4 hs2 ndY HX
  go_wp2_with fail
  rw [← hY]
  clear hY p0 p1 p2 p3
  refine Calls.mono HBI.out ?_
  rintro e w3 ⟨b3, v, cs, rfl, hown, hT⟩
  rw [bindersA9] at hown hT
  obtain ⟨r1, r2, r3, r4, r5, r6, r7, r8, r9⟩ := HY.out
  have hs3 := b3.size
  have q3 := (b3.block _ (by omega)).trans r4
  have q4 := (b3.block _ (by omega)).trans r5
  have q5 := (b3.block _ (by omega)).trans r6
  have q6 := (b3.block _ (by omega)).trans r7
  obtain ⟨av, cv, rfl⟩ := slice_shape hown
  have nd3 := r8.low b3 (Nat.le_refl _)
  have HCA : Hid (_) := check_any (newS w.heap.size w3.heap.size) _ _ w3 (fun b hb => hb.2) nd3 bdA9
  have HW3 : Hid (Below w.heap.size w w3 ∧ w1.heap.size + 1 + 1 ≤ w2.heap.size ∧ w2.heap.size + 1 + 1 ≤ w3.heap.size ∧ w3.heap[w2.heap.size]? = some (.cells #[.int .u8 k2, .string (Ln.bs tx2), .int .i64 n2, .slice a2 L2 c2] 25 (0, 0)) ∧ NodeR (newS X.heap.size w3.heap.size) w3 (.agg #[.int .u8 k2, .string (Ln.bs tx2), .int .i64 n2, .slice a2 L2 c2]) (.mk 1 [] 0 [kidB9]) ∧ w3.ownsRow Y.heap.size 46 3 (.slice av 3 cv) 3 cs ∧ BTold Y.heap.size w3 cs bsA9) := ⟨below_then r1 b3, r2, by omega, q5, r9.low b3 (Nat.le_refl _), hown, hT⟩
  have p0 : w3.cell? ⟨w1.heap.size, 0, none⟩ = some (.int .u8 k) := cells_at q3 rfl
  have p1 : w3.cell? ⟨w1.heap.size, 1, none⟩ = some (.string (Ln.bs tx)) := cells_at q3 rfl
  have p2 : w3.cell? ⟨w1.heap.size, 2, none⟩ = some (.int .i64 n) := cells_at q3 rfl
  have p3 : w3.cell? ⟨w1.heap.size, 3, none⟩ = some (.slice a L c) := cells_at q3 rfl
  have p4 : w3.cell? ⟨w1.heap.size + 1, 0, none⟩ = some (.int .i64 0) := cells_at q4 rfl
  have p6 : w3.cell? ⟨w2.heap.size + 1, 0, none⟩ = some (.int .i64 0) := cells_at q6 rfl
  rw [show bsA9.length = 3 from rfl]
  clear r1 r2 r3 r4 r5 r6 r7 r8 r9 q3 q4 q5 q6 hs3 b3 hown hT nd3 HBI HY
  go_wp2_with fail
  clear p0 p1 p2 p3 p4 p6
  refine Calls.mono HCA.out ?_
  rintro e w4 ⟨b4, rfl⟩
  rw [faultA9]
  have hfz := bf_zero ((0 : Nat) : Int) ((0 : Nat) : Int)
  have hfz0 := bf_zero 0 0
  obtain ⟨r1, r2, r3, r4, r5, r6, r7⟩ := HW3.out
  obtain ⟨g, rfl, hg1, hg2, hgc⟩ := told_cell r6 (by decide)
  obtain ⟨d1, m1, u1, d2, m2, u2, d3, m3, u3, s1, s2, s3, rfl, o1, o2, o3, o4⟩ := told_three r7
  obtain ⟨ua1, uc1, rfl⟩ := slice_shape o1
  obtain ⟨ua2, uc2, rfl⟩ := slice_shape o2
  obtain ⟨ua3, uc3, rfl⟩ := slice_shape o4
  obtain ⟨z, rfl⟩ : ∃ z, s2 = [z] := by
    have := o2.1
    match s2, this with
    | [z], _ => exact ⟨z, rfl⟩
  have o5 := o3 0 z [0, 1, 0, 0] rfl rfl
  obtain ⟨g2, rfl, h2l, h2c⟩ : ∃ g2, ua2 = some ⟨g2, 0, none⟩ ∧ g2 < w3.heap.size ∧ w3.cell? ⟨g2, 0, none⟩ = some z := by
    rcases o2.2 with ⟨-, h0⟩ | ⟨g2, cap, cur, e, hb, hg, r⟩
    · cases h0
    · injection e with e1 e2 e3
      subst e1 e3
      exact ⟨g2, rfl, (Array.getElem?_eq_some_iff.1 hg).1, o2.cellAt 0 (by decide)⟩
  obtain ⟨za, zc, rfl⟩ := slice_shape o5
  have a1 : w4.cell? ⟨g, 2, none⟩ = some (.slice ua1 0 uc1) := (b4.cell (p := ⟨g, 2, none⟩) hg2).trans (hgc 2 _ rfl)
  have a2' : w4.cell? ⟨g, 3 + 2, none⟩ = some (.slice (some ⟨g2, 0, none⟩) 1 uc2) := (b4.cell (p := ⟨g, 5, none⟩) hg2).trans (hgc 5 _ rfl)
  have a3 : w4.cell? ⟨g2, 0, none⟩ = some (.slice za 4 zc) := (b4.cell (p := ⟨g2, 0, none⟩) h2l).trans h2c
  have a4 : w4.cell? ⟨g, 6 + 2, none⟩ = some (.slice ua3 1 uc3) := (b4.cell (p := ⟨g, 8, none⟩) hg2).trans (hgc 8 _ rfl)
  obtain ⟨V, hV⟩ : ∃ V, V = w4.alloc (.cells #[.int .i64 0, .int .i64 1, .int .i64 0, .int .i64 0] 3) := ⟨_, rfl⟩
  have bV : Below w4.heap.size w4 V := hV ▸ below_new w4 _
  have vn : V.heap[w4.heap.size]? = some (.cells #[.int .i64 0, .int .i64 1, .int .i64 0, .int .i64 0] 3 (0, 0)) := by rw [hV]; exact World.alloc_heap_new w4 _
  have hI1 : IntsAt V (.slice za 4 zc) [0, 1, 0, 0] := ((IntsAt.of o5).at b4).at bV
  have hI2 : IntsAt V (.slice (some ⟨w4.heap.size, 0, none⟩) 4 4) [0, 1, 0, 0] := by
    refine ⟨_, 4, w4.heap.size, 0, rfl, fun _ => ⟨rfl, (Array.getElem?_eq_some_iff.1 vn).1⟩, fun j x hx => ?_⟩
    rw [Nat.zero_add]
    match j, hx with
    | 0, hx => cases hx; exact cells_at vn rfl
    | 1, hx => cases hx; exact cells_at vn rfl
    | 2, hx => cases hx; exact cells_at vn rfl
    | 3, hx => cases hx; exact cells_at vn rfl
    | j + 4, hx => simp at hx
  have HSI : Hid (_) := sameInts_any V _ _ [0, 1, 0, 0] [0, 1, 0, 0] hI1 hI2 (by decide) (by decide)
  have HW4 : Hid (Below w.heap.size w w4 ∧ w2.heap.size < w3.heap.size ∧ w3.heap.size ≤ w4.heap.size ∧ w4.heap[w2.heap.size]? = some (.cells #[.int .u8 k2, .string (Ln.bs tx2), .int .i64 n2, .slice a2 L2 c2] 25 (0, 0)) ∧ NodeR (newS X.heap.size w4.heap.size) w4 (.agg #[.int .u8 k2, .string (Ln.bs tx2), .int .i64 n2, .slice a2 L2 c2]) (.mk 1 [] 0 [kidB9]) ∧ g < w4.heap.size ∧ w4.cell? ⟨g, 8, none⟩ = some (.slice ua3 1 uc3) ∧ Below w4.heap.size w4 V) := ⟨below_then r1 b4, by omega, b4.size, (b4.block _ (by omega)).trans r4, r5.low b4 (Nat.le_refl _), Nat.lt_of_lt_of_le hg2 b4.size, a4, bV⟩
  clear r1 r2 r3 r4 r5 r6 r7 hg1 hg2 hgc o1 o2 o3 o4 o5 h2l h2c b4 bV vn hI1 hI2 HCA HW3
  go_wp2_with fail
  rw [← hV]
  clear hV a1 a2' a3 a4 hfz hfz0
  refine Calls.mono HSI.out ?_
  rintro e w5 ⟨rfl, dk, hw5⟩
  obtain ⟨r1, r2, r3, r4, r5, r6, r7, r8⟩ := HW4.out
  have b5 : Below w4.heap.size w4 w5 := below_then r8 (hw5 ▸ below_draw V dk)
  clear hw5
  have a4 : w5.cell? ⟨g, 6 + 2, none⟩ = some (.slice ua3 1 uc3) := (b5.cell (p := ⟨g, 8, none⟩) r6).trans r7
  have q5 := (b5.block _ (by omega)).trans r4
  have p0 : w5.cell? ⟨w2.heap.size, 0, none⟩ = some (.int .u8 k2) := cells_at q5 rfl
  have p1 : w5.cell? ⟨w2.heap.size, 1, none⟩ = some (.string (Ln.bs tx2)) := cells_at q5 rfl
  have p2 : w5.cell? ⟨w2.heap.size, 2, none⟩ = some (.int .i64 n2) := cells_at q5 rfl
  have p3 : w5.cell? ⟨w2.heap.size, 3, none⟩ = some (.slice a2 L2 c2) := cells_at q5 rfl
  have hB5 : Below w.heap.size w w5 := below_then r1 b5
  have HCB : Hid (_) := check_any (newS X.heap.size w5.heap.size) _ _ w5 (fun b hb => hb.2) (r5.low b5 (Nat.le_refl _)) bdB9
  have HB5 : Hid (Below w.heap.size w w5) := hB5
  simp only [decide_true]
  clear r1 r2 r3 r4 r5 r6 r7 r8 b5 q5 hB5 HSI HW4
  go_wp2_with fail
  clear a4 p0 p1 p2 p3
  refine Calls.mono HCB.out ?_
  rintro e w6 ⟨b6, rfl⟩
  rw [faultB9]
  have HB6 : Hid (Below w.heap.size w w6) := below_then HB5.out b6
  clear b6
  go_wp2
  go_ret
  exact ⟨rfl, HB6.out⟩
end Go.Proofs.YtnndgjnihhafbaaGreatDoor
