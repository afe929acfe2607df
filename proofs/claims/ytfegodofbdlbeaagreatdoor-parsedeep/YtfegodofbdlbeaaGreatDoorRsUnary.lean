/-
  The walk of the reader's unary: two signs, indices.
-/
import Derived.Test.YtfegodofbdlbeaaGreatDoorRsPrime
namespace Go.Proofs.YtfegodofbdlbeaaGreatDoor
open Go.RowKit Go.Shelf
open Rs (St)

attribute [local go_sem] Oper.semAt_some

namespace Rs
/-- How many rounds are left. -/
def mu (L : List Lx.Tok) (s : St) : Nat := if s.E = 0 then (rest L s).length + 1 else 0
theorem mu_lt {L : List Lx.Tok} {s s' : St} (h0 : s.E = 0) (h : Sh L s s' 1) : mu L s' < mu L s := by
  unfold mu
  rw [if_pos h0]
  split
  · next h1 => have := (h h1).2; omega
  · omega
end Rs
/-- A node in its box, over which another one is set. -/
theorem BX.putR {w W : World} {b q : Nat} {L : List Lx.Tok} {s : St} {x : N1} {k : Int} {tx : List UInt8} {n : Int} {v : Value} {kids : List Tr} {X : List Nat} (hB : BX w W q x) (hF : Frm w b W) (hP : RAt b L s W) (hx : NF w W ⟨k, tx, n, v, kids⟩ X) (hq : q ∈ X) :
    (∃ c0, W.cell? ⟨q, 0, none⟩ = some c0) ∧ (∃ c1, (W.setCell ⟨q, 0, none⟩ (.int .u8 k)).cell? ⟨q, 1, none⟩ = some c1) ∧ (∃ c2, ((W.setCell ⟨q, 0, none⟩ (.int .u8 k)).setCell ⟨q, 1, none⟩ (.string (Ln.bs tx))).cell? ⟨q, 2, none⟩ = some c2) ∧ (∃ c3, (((W.setCell ⟨q, 0, none⟩ (.int .u8 k)).setCell ⟨q, 1, none⟩ (.string (Ln.bs tx))).setCell ⟨q, 2, none⟩ (.int .i64 n)).cell? ⟨q, 3, none⟩ = some c3) ∧ (∀ j, W.frozen? ⟨q, j, none⟩ = false) ∧
      ∃ Z, Z = (((W.setCell ⟨q, 0, none⟩ (.int .u8 k)).setCell ⟨q, 1, none⟩ (.string (Ln.bs tx))).setCell ⟨q, 2, none⟩ (.int .i64 n)).setCell ⟨q, 3, none⟩ v ∧ W.grownBy Z (some q) ∧ Frm w b Z ∧ RAt b L s Z ∧ BX w Z q ⟨k, tx, n, v, kids⟩ ∧ NF w Z ⟨k, tx, n, v, kids⟩ X := by
  obtain ⟨hlt, hb⟩ := hB
  obtain ⟨p0, p1, p2, p3, pf, Z, hZ, hZr, gz⟩ := box_put hb (.int .u8 k) (.string (Ln.bs tx)) (.int .i64 n) v
  refine ⟨⟨_, p0⟩, ⟨_, p1⟩, ⟨_, p2⟩, ⟨_, p3⟩, pf, Z, hZ, gz, ⟨hF.low, grown_new hF.grown gz (by omega), (gz.block _ hF.lt (by simp; omega)).trans hF.box⟩, hP.beside gz hb, ⟨hlt, hZr⟩, hx.set gz hq⟩

set_option maxRecDepth 100000 in
set_option maxHeartbeats 8000000 in
theorem runary_of (m : Nat) (hun : ∀ m', m = m' + 1 → RDo 116 .unary [] m') (hor : ∀ m', m = m' + 1 → RDo 90 (.bin 0) [] m') (hpr : RDo 119 .prime [] m) : RDo 116 .unary [] m := by
  intro b L s w hK hG hR hm
  obtain ⟨A, hA⟩ : ∃ A, A = w.alloc (.cells #[.int .u8 0, .string ⟨#[]⟩, .int .i64 0, .slice none 0 0] 26) := ⟨_, rfl⟩
  have FR : Hid (Frm w b A) := hA ▸ RFrm.new hR
  have PA : Hid (RAt b L (s) A) := hA ▸ hR.below (below_new w _)
  have KN : Hid (Known L) := hK
  have GD : Hid (Rs.Good L (s)) := hG
  have G0 : Hid (Rs.Good L s) := hG
  have HM : Hid (s.E = 0 → (Rs.rest L s).length ≤ m) := hm
  have Hhun : Hid (∀ m', m = m' + 1 → RDo 116 .unary [] m') := hun
  have Hhor : Hid (∀ m', m = m' + 1 → RDo 90 (.bin 0) [] m') := hor
  have Hhpr : Hid (RDo 119 .prime [] m) := hpr
  clear hR hK hG hm hun hor hpr
  go_enter Tryz.func116, Tryz.ntmps116
  have hlow : b < w.heap.size := FR.out.low
  go_wp2
  rw [← hA]
  clear hA
  go_loopg [3] 2 (fun g si wr => (Frm w b wr ∧ RAt b L s wr) ∧ ((si = .int .i64 0 ∧ g = 2) ∨ (si = .int .i64 1 ∧ g = 1 ∧ Rs.isB L s [45] = false) ∨ (si = .int .i64 2 ∧ g = 0 ∧ Rs.isB L s [45] = false ∧ Rs.isB L s [33] = false)))
  case atStart => exact ⟨⟨FR.out, PA.out⟩, .inl ⟨rfl, rfl⟩⟩
  case round =>
    clear FR PA
    obtain ⟨⟨hF, hP⟩, hrel⟩ := hrel
    have FR : Hid (Frm w b wr) := hF
    have PA : Hid (RAt b L (s) wr) := hP
    clear hF hP
    rcases hrel with ⟨rfl, hgk⟩ | ⟨rfl, hgk, hn⟩ | ⟨rfl, hgk, hn⟩
    · skip
      obtain ⟨V1, hV1⟩ : ∃ V, V = wr.alloc (.cells #[.string ⟨#[45]⟩, .string ⟨#[33]⟩] 9) := ⟨_, rfl⟩
      have bV1 : Below wr.heap.size wr V1 := hV1 ▸ below_new wr _
      have cV : V1.cell? ⟨wr.heap.size, 0, none⟩ = some (.string ⟨#[45]⟩) := cells_at (by rw [hV1]; exact World.alloc_heap_new wr _) rfl
      rw [hV1] at cV
      replace FR : Hid (Frm w b V1) := FR.out.go (grown_low bV1)
      replace PA : Hid (RAt b L (s) V1) := PA.out.below bV1
      clear bV1
      go_wp2_with fail
      rw [← hV1]
      clear hV1
      have HI2 : Hid (_) := ris_any b L (s) [45] V1 PA.out GD.out KN.out (by decide)
      refine Calls.mono HI2.out ?_
      rintro e w4 ⟨rfl, hb5⟩
      replace FR : Hid (Frm w b w4) := FR.out.go (grown_low hb5)
      replace PA : Hid (RAt b L (s) w4) := PA.out.below hb5
      clear HI2 hb5
      cases hs3 : Rs.isB L (s) [45]
      try clear cV
      · skip
        have HS : Hid (Rs.isB L s [45] = false) := hs3
        clear hs3
        go_wp2
        go_roundg 1
        case measure => omega
        case rel => exact ⟨⟨FR.out, PA.out⟩, .inr (.inl ⟨rfl, rfl, HS.out⟩)⟩
      · skip
        have HS : Hid (Rs.isB L s [45] = true) := hs3
        clear hs3
        have h0 := (Rs.isB_true HS.out).1
        have hm1 := HM.out h0
        have hm2 := Rs.live_pos G0.out
        have HUN : Hid (RDo 116 .unary [] (m - 1)) := Hhun.out (m - 1) (by omega)
        have HB : Hid ((Rs.begin L s [45]).E = 0 → (Rs.rest L (Rs.begin L s [45])).length ≤ m - 1) := fun h9 => by have := (Rs.begin_sh (t := [45]) G0.out h9).2; omega
        clear h0 hm1 hm2
        go_wp2_with fail
        have HW6 : Hid (_) := rbegin_any b L (s) [45] w4 PA.out GD.out KN.out (by decide)
        refine Calls.mono HW6.out ?_
        rintro e w7 ⟨rfl, hst8⟩
        replace FR : Hid (Frm w b w7) := FR.out.go hst8.1
        replace PA : Hid (RAt b L (Rs.begin L (s) [45]) w7) := hst8.2
        clear HW6 hst8
        replace GD : Hid (Rs.Good L (Rs.begin L (s) [45])) := Rs.begin_good GD.out (by decide)
        go_wp2_with fail
        have HC9 : Hid (_) := HUN.out b L (Rs.begin L (s) [45]) w7 KN.out GD.out PA.out (HB.out)
        refine Calls.mono HC9.out ?_
        rintro e w10 ⟨hg11, tx, vx, sx, rfl, ra12, relx, nd13⟩
        have hX : ∀ q ∈ ([] : List Nat), q < w7.heap.size := by
          intro q hq
          cases hq
        obtain ⟨xk, xt, xn, xa, xL, xc, xkids, rfl, rfl, nf⟩ := NF.of_end (X := []) nd13 FR.out hX
        replace FR : Hid (Frm w b w10) := FR.out.go hg11
        replace PA : Hid (RAt b L (sx) w10) := ra12
        have Nx : Hid (NF w w10 ⟨xk, xt, xn, .slice xa xL xc, xkids⟩ []) := nf
        have RELx : Hid (Rs.Rel L (.unary) (Rs.begin L (s) [45]) (.mk xk xt xn xkids) sx) := relx
        replace GD : Hid (Rs.Good L (sx)) := relx.good
        clear nf HC9 hg11 ra12 relx nd13 hX
        obtain ⟨Y14, hY14⟩ : ∃ V, V = w10.alloc (.cells #[.int .u8 xk, .string (Ln.bs xt), .int .i64 xn, .slice xa xL xc] 26) := ⟨_, rfl⟩
        have bY14 : Below w10.heap.size w10 Y14 := hY14 ▸ below_new w10 _
        have nb : BX w Y14 (w10.heap.size) ⟨xk, xt, xn, .slice xa xL xc, xkids⟩ := by rw [hY14]; exact BX.new FR.out ⟨xk, xt, xn, .slice xa xL xc, xkids⟩
        replace Nx : Hid (NF w w10 ⟨xk, xt, xn, .slice xa xL xc, xkids⟩ [w10.heap.size]) := Nx.out.ex (Nat.le_refl _)
        replace Nx : Hid (NF w Y14 ⟨xk, xt, xn, .slice xa xL xc, xkids⟩ [w10.heap.size]) := Nx.out.go (grown_low bY14) FR.out.low
        replace FR : Hid (Frm w b Y14) := FR.out.go (grown_low bY14)
        replace PA : Hid (RAt b L (sx) Y14) := PA.out.below bY14
        have Bx : Hid (BX w Y14 (w10.heap.size) ⟨xk, xt, xn, .slice xa xL xc, xkids⟩) := nb
        clear nb bY14
        go_upto_region 8 with fail
        rw [← hY14]
        clear hY14
        have RS : Hid (_) := Rs.rel_sign G0.out HS.out (.inl rfl) RELx.out
        obtain ⟨l1, l2, Y, hY, st⟩ := rlev PA.out GD.out (Rs.wr (sx.o - 1))
        replace Nx : Hid (NF w Y ⟨xk, xt, xn, .slice xa xL xc, xkids⟩ [w10.heap.size]) := Nx.out.go st.1 FR.out.low
        replace Bx : Hid (BX w Y (w10.heap.size) ⟨xk, xt, xn, .slice xa xL xc, xkids⟩) := Bx.out.go st.1 FR.out.low
        replace FR : Hid (Frm w b Y) := FR.out.go st.1
        replace PA : Hid (RAt b L (Rs.less sx) Y) := st.2
        clear st
        have hw : Go.IntKind.i64.wrap (sx.o - 1) = Rs.wr (sx.o - 1) := rfl
        obtain ⟨z0, hz0⟩ : ∃ z, z = Rs.wr (sx.o - 1) := ⟨_, rfl⟩
        rw [← hz0] at hw hY
        clear hz0
        go_upto_region 9 with fail
        rw [← hY]
        clear hY
        clear l1 l2 hw
        obtain ⟨f15, f16, f17, f18⟩ := Bx.out.cs
        obtain ⟨R19, hR19⟩ : ∃ V, V = Y.alloc (.cells #[.int .u8 xk, .string (Ln.bs xt), .int .i64 xn, .slice xa xL xc] 26) := ⟨_, rfl⟩
        have bR19 : Below Y.heap.size Y R19 := hR19 ▸ below_new Y _
        have hX : ∀ q ∈ ([w10.heap.size] : List Nat), q < Y.heap.size := by
          intro q hq
          simp only [List.mem_cons, List.not_mem_nil, or_false] at hq
          subst hq
          exact Bx.out.lt
        have nk : NF w R19 ⟨23, [45], 0, .slice (some ⟨Y.heap.size, 0, none⟩) 1 1, [N1.tr ⟨xk, xt, xn, .slice xa xL xc, xkids⟩]⟩ [w10.heap.size] := by
          rw [hR19]
          refine NF.kids FR.out [⟨xk, xt, xn, .slice xa xL xc, xkids⟩] (fun z hz => ?_) hX (by simp) 23 [45] 0 (by omega) (by simp) (by omega)
          simp only [List.mem_cons, List.not_mem_nil, or_false] at hz
          subst hz
          exact Nx.out
        replace Nx : Hid (NF w R19 ⟨xk, xt, xn, .slice xa xL xc, xkids⟩ [w10.heap.size]) := Nx.out.go (grown_low bR19) FR.out.low
        replace Bx : Hid (BX w R19 (w10.heap.size) ⟨xk, xt, xn, .slice xa xL xc, xkids⟩) := Bx.out.go (grown_low bR19) FR.out.low
        replace FR : Hid (Frm w b R19) := FR.out.go (grown_low bR19)
        replace PA : Hid (RAt b L (Rs.less sx) R19) := PA.out.below bR19
        have Nz : Hid (NF w R19 ⟨23, [45], 0, .slice (some ⟨Y.heap.size, 0, none⟩) 1 1, [N1.tr ⟨xk, xt, xn, .slice xa xL xc, xkids⟩]⟩ [w10.heap.size]) := nk
        clear nk hX bR19
        obtain ⟨p0, p1, p2, p3, pf, Z, hZ, ⟨r0, r1, r2, r3⟩, z1, z2, z3⟩ := FR.out.finR PA.out Nz.out
        have HF : Hid (w.grownBy Z (some b) ∧ REnd L .unary b s w (.returned (.agg #[.int .u8 23, .string (Ln.bs [45]), .int .i64 0, .slice (some ⟨Y.heap.size, 0, none⟩) 1 1])) Z) := ⟨z1, _, _, _, rfl, z2, RS.out, z3⟩
        clear z1 z2 z3 
        rw [show Ln.bs [45] = (⟨#[45]⟩ : ByteArray) from rfl] at p2 p3 hZ r1 HF
        rw [hR19] at p0 p1 p2 p3 pf hZ
        go_wp2
        rw [← hZ]
        refine bodyPost_ret (v := .agg #[.int .u8 23, .string ⟨#[45]⟩, .int .i64 0, .slice (some ⟨Y.heap.size, 0, none⟩) 1 1]) (by simp [results, Tryz.results116, go_sem, r0, r1, r2, r3]) rfl HF.out
    · skip
      have HN : Hid (Rs.isB L s [45] = false) := hn
      clear hn
      obtain ⟨V1, hV1⟩ : ∃ V, V = wr.alloc (.cells #[.string ⟨#[45]⟩, .string ⟨#[33]⟩] 9) := ⟨_, rfl⟩
      have bV1 : Below wr.heap.size wr V1 := hV1 ▸ below_new wr _
      have cV : V1.cell? ⟨wr.heap.size, 1, none⟩ = some (.string ⟨#[33]⟩) := cells_at (by rw [hV1]; exact World.alloc_heap_new wr _) rfl
      rw [hV1] at cV
      replace FR : Hid (Frm w b V1) := FR.out.go (grown_low bV1)
      replace PA : Hid (RAt b L (s) V1) := PA.out.below bV1
      clear bV1
      go_wp2_with fail
      rw [← hV1]
      clear hV1
      have HI2 : Hid (_) := ris_any b L (s) [33] V1 PA.out GD.out KN.out (by decide)
      refine Calls.mono HI2.out ?_
      rintro e w4 ⟨rfl, hb5⟩
      replace FR : Hid (Frm w b w4) := FR.out.go (grown_low hb5)
      replace PA : Hid (RAt b L (s) w4) := PA.out.below hb5
      clear HI2 hb5
      cases hs3 : Rs.isB L (s) [33]
      try clear cV
      · skip
        have HS : Hid (Rs.isB L s [33] = false) := hs3
        clear hs3
        go_wp2
        go_roundg 0
        case measure => omega
        case rel => exact ⟨⟨FR.out, PA.out⟩, .inr (.inr ⟨rfl, rfl, HN.out, HS.out⟩)⟩
      · skip
        have HS : Hid (Rs.isB L s [33] = true) := hs3
        clear hs3
        have h0 := (Rs.isB_true HS.out).1
        have hm1 := HM.out h0
        have hm2 := Rs.live_pos G0.out
        have HUN : Hid (RDo 116 .unary [] (m - 1)) := Hhun.out (m - 1) (by omega)
        have HB : Hid ((Rs.begin L s [33]).E = 0 → (Rs.rest L (Rs.begin L s [33])).length ≤ m - 1) := fun h9 => by have := (Rs.begin_sh (t := [33]) G0.out h9).2; omega
        clear h0 hm1 hm2
        go_wp2_with fail
        have HW6 : Hid (_) := rbegin_any b L (s) [33] w4 PA.out GD.out KN.out (by decide)
        refine Calls.mono HW6.out ?_
        rintro e w7 ⟨rfl, hst8⟩
        replace FR : Hid (Frm w b w7) := FR.out.go hst8.1
        replace PA : Hid (RAt b L (Rs.begin L (s) [33]) w7) := hst8.2
        clear HW6 hst8
        replace GD : Hid (Rs.Good L (Rs.begin L (s) [33])) := Rs.begin_good GD.out (by decide)
        go_wp2_with fail
        have HC9 : Hid (_) := HUN.out b L (Rs.begin L (s) [33]) w7 KN.out GD.out PA.out (HB.out)
        refine Calls.mono HC9.out ?_
        rintro e w10 ⟨hg11, tx, vx, sx, rfl, ra12, relx, nd13⟩
        have hX : ∀ q ∈ ([] : List Nat), q < w7.heap.size := by
          intro q hq
          cases hq
        obtain ⟨xk, xt, xn, xa, xL, xc, xkids, rfl, rfl, nf⟩ := NF.of_end (X := []) nd13 FR.out hX
        replace FR : Hid (Frm w b w10) := FR.out.go hg11
        replace PA : Hid (RAt b L (sx) w10) := ra12
        have Nx : Hid (NF w w10 ⟨xk, xt, xn, .slice xa xL xc, xkids⟩ []) := nf
        have RELx : Hid (Rs.Rel L (.unary) (Rs.begin L (s) [33]) (.mk xk xt xn xkids) sx) := relx
        replace GD : Hid (Rs.Good L (sx)) := relx.good
        clear nf HC9 hg11 ra12 relx nd13 hX
        obtain ⟨Y14, hY14⟩ : ∃ V, V = w10.alloc (.cells #[.int .u8 xk, .string (Ln.bs xt), .int .i64 xn, .slice xa xL xc] 26) := ⟨_, rfl⟩
        have bY14 : Below w10.heap.size w10 Y14 := hY14 ▸ below_new w10 _
        have nb : BX w Y14 (w10.heap.size) ⟨xk, xt, xn, .slice xa xL xc, xkids⟩ := by rw [hY14]; exact BX.new FR.out ⟨xk, xt, xn, .slice xa xL xc, xkids⟩
        replace Nx : Hid (NF w w10 ⟨xk, xt, xn, .slice xa xL xc, xkids⟩ [w10.heap.size]) := Nx.out.ex (Nat.le_refl _)
        replace Nx : Hid (NF w Y14 ⟨xk, xt, xn, .slice xa xL xc, xkids⟩ [w10.heap.size]) := Nx.out.go (grown_low bY14) FR.out.low
        replace FR : Hid (Frm w b Y14) := FR.out.go (grown_low bY14)
        replace PA : Hid (RAt b L (sx) Y14) := PA.out.below bY14
        have Bx : Hid (BX w Y14 (w10.heap.size) ⟨xk, xt, xn, .slice xa xL xc, xkids⟩) := nb
        clear nb bY14
        go_upto_region 8 with fail
        rw [← hY14]
        clear hY14
        have RS : Hid (_) := Rs.rel_sign G0.out HS.out (.inr rfl) RELx.out
        obtain ⟨l1, l2, Y, hY, st⟩ := rlev PA.out GD.out (Rs.wr (sx.o - 1))
        replace Nx : Hid (NF w Y ⟨xk, xt, xn, .slice xa xL xc, xkids⟩ [w10.heap.size]) := Nx.out.go st.1 FR.out.low
        replace Bx : Hid (BX w Y (w10.heap.size) ⟨xk, xt, xn, .slice xa xL xc, xkids⟩) := Bx.out.go st.1 FR.out.low
        replace FR : Hid (Frm w b Y) := FR.out.go st.1
        replace PA : Hid (RAt b L (Rs.less sx) Y) := st.2
        clear st
        have hw : Go.IntKind.i64.wrap (sx.o - 1) = Rs.wr (sx.o - 1) := rfl
        obtain ⟨z0, hz0⟩ : ∃ z, z = Rs.wr (sx.o - 1) := ⟨_, rfl⟩
        rw [← hz0] at hw hY
        clear hz0
        go_upto_region 9 with fail
        rw [← hY]
        clear hY
        clear l1 l2 hw
        obtain ⟨f15, f16, f17, f18⟩ := Bx.out.cs
        obtain ⟨R19, hR19⟩ : ∃ V, V = Y.alloc (.cells #[.int .u8 xk, .string (Ln.bs xt), .int .i64 xn, .slice xa xL xc] 26) := ⟨_, rfl⟩
        have bR19 : Below Y.heap.size Y R19 := hR19 ▸ below_new Y _
        have hX : ∀ q ∈ ([w10.heap.size] : List Nat), q < Y.heap.size := by
          intro q hq
          simp only [List.mem_cons, List.not_mem_nil, or_false] at hq
          subst hq
          exact Bx.out.lt
        have nk : NF w R19 ⟨23, [33], 0, .slice (some ⟨Y.heap.size, 0, none⟩) 1 1, [N1.tr ⟨xk, xt, xn, .slice xa xL xc, xkids⟩]⟩ [w10.heap.size] := by
          rw [hR19]
          refine NF.kids FR.out [⟨xk, xt, xn, .slice xa xL xc, xkids⟩] (fun z hz => ?_) hX (by simp) 23 [33] 0 (by omega) (by simp) (by omega)
          simp only [List.mem_cons, List.not_mem_nil, or_false] at hz
          subst hz
          exact Nx.out
        replace Nx : Hid (NF w R19 ⟨xk, xt, xn, .slice xa xL xc, xkids⟩ [w10.heap.size]) := Nx.out.go (grown_low bR19) FR.out.low
        replace Bx : Hid (BX w R19 (w10.heap.size) ⟨xk, xt, xn, .slice xa xL xc, xkids⟩) := Bx.out.go (grown_low bR19) FR.out.low
        replace FR : Hid (Frm w b R19) := FR.out.go (grown_low bR19)
        replace PA : Hid (RAt b L (Rs.less sx) R19) := PA.out.below bR19
        have Nz : Hid (NF w R19 ⟨23, [33], 0, .slice (some ⟨Y.heap.size, 0, none⟩) 1 1, [N1.tr ⟨xk, xt, xn, .slice xa xL xc, xkids⟩]⟩ [w10.heap.size]) := nk
        clear nk hX bR19
        obtain ⟨p0, p1, p2, p3, pf, Z, hZ, ⟨r0, r1, r2, r3⟩, z1, z2, z3⟩ := FR.out.finR PA.out Nz.out
        have HF : Hid (w.grownBy Z (some b) ∧ REnd L .unary b s w (.returned (.agg #[.int .u8 23, .string (Ln.bs [33]), .int .i64 0, .slice (some ⟨Y.heap.size, 0, none⟩) 1 1])) Z) := ⟨z1, _, _, _, rfl, z2, RS.out, z3⟩
        clear z1 z2 z3 
        rw [show Ln.bs [33] = (⟨#[33]⟩ : ByteArray) from rfl] at p2 p3 hZ r1 HF
        rw [hR19] at p0 p1 p2 p3 pf hZ
        go_wp2
        rw [← hZ]
        refine bodyPost_ret (v := .agg #[.int .u8 23, .string ⟨#[33]⟩, .int .i64 0, .slice (some ⟨Y.heap.size, 0, none⟩) 1 1]) (by simp [results, Tryz.results116, go_sem, r0, r1, r2, r3]) rfl HF.out
    · skip
      have HN : Hid (Rs.isB L s [45] = false ∧ Rs.isB L s [33] = false) := hn
      clear hn
      have RN1 : Hid (Rs.isB L s [45] = false) := HN.out.1
      have RN2 : Hid (Rs.isB L s [33] = false) := HN.out.2
      clear HN
      go_wp2_with fail
      have HC1 : Hid (_) := Hhpr.out b L (s) wr KN.out GD.out PA.out (HM.out)
      refine Calls.mono HC1.out ?_
      rintro e w2 ⟨hg3, tx, vx, sx, rfl, ra4, relx, nd5⟩
      have hX : ∀ q ∈ ([] : List Nat), q < wr.heap.size := by
        intro q hq
        cases hq
      obtain ⟨xk, xt, xn, xa, xL, xc, xkids, rfl, rfl, nf⟩ := NF.of_end (X := []) nd5 FR.out hX
      replace FR : Hid (Frm w b w2) := FR.out.go hg3
      replace PA : Hid (RAt b L (sx) w2) := ra4
      have Nx : Hid (NF w w2 ⟨xk, xt, xn, .slice xa xL xc, xkids⟩ []) := nf
      have RELx : Hid (Rs.Rel L (.prime) (s) (.mk xk xt xn xkids) sx) := relx
      replace GD : Hid (Rs.Good L (sx)) := relx.good
      clear nf HC1 hg3 ra4 relx nd5 hX
      obtain ⟨qb, hq⟩ : ∃ q, q = w2.heap.size := ⟨_, rfl⟩
      obtain ⟨Y6, hY6⟩ : ∃ V, V = w2.alloc (.cells #[.int .u8 xk, .string (Ln.bs xt), .int .i64 xn, .slice xa xL xc] 26) := ⟨_, rfl⟩
      have bY6 : Below w2.heap.size w2 Y6 := hY6 ▸ below_new w2 _
      have nb : BX w Y6 (w2.heap.size) ⟨xk, xt, xn, .slice xa xL xc, xkids⟩ := by rw [hY6]; exact BX.new FR.out ⟨xk, xt, xn, .slice xa xL xc, xkids⟩
      replace Nx : Hid (NF w w2 ⟨xk, xt, xn, .slice xa xL xc, xkids⟩ [w2.heap.size]) := Nx.out.ex (Nat.le_refl _)
      replace Nx : Hid (NF w Y6 ⟨xk, xt, xn, .slice xa xL xc, xkids⟩ [w2.heap.size]) := Nx.out.go (grown_low bY6) FR.out.low
      replace FR : Hid (Frm w b Y6) := FR.out.go (grown_low bY6)
      replace PA : Hid (RAt b L (sx) Y6) := PA.out.below bY6
      have Bx : Hid (BX w Y6 (w2.heap.size) ⟨xk, xt, xn, .slice xa xL xc, xkids⟩) := nb
      clear nb bY6
      have ST : Hid (Frm w b Y6 ∧ RAt b L sx Y6 ∧ BX w Y6 qb ⟨xk, xt, xn, .slice xa xL xc, xkids⟩ ∧ NF w Y6 ⟨xk, xt, xn, .slice xa xL xc, xkids⟩ [qb] ∧ Rs.Till L .suffix s (.idx [.mk xk xt xn xkids]) sx ∧ Rs.Sh L s sx 0) := by rw [hq]; exact ⟨FR.out, PA.out, Bx.out, Nx.out, RELx.out.prime, Rs.rel_sh (J := .prime) trivial RELx.out⟩
      clear FR PA Bx Nx RELx GD
      go_wp2
      rw [← hY6, ← hq]
      clear hY6 hq
      go_loopg [] (Rs.mu L sx) (fun g wr => ∃ (k : Int) (tx : List UInt8) (n : Int) (a : Option Addr) (La c : Nat) (kids : List Tr) (s2 : St), g = Rs.mu L s2 ∧ Frm w b wr ∧ RAt b L s2 wr ∧ BX w wr qb ⟨k, tx, n, .slice a La c, kids⟩ ∧ NF w wr ⟨k, tx, n, .slice a La c, kids⟩ [qb] ∧ Rs.Till L .suffix s (.idx [.mk k tx n kids]) s2 ∧ Rs.Sh L s s2 0)
      case atStart => exact ⟨_, _, _, _, _, _, _, sx, rfl, ST.out.1, ST.out.2.1, ST.out.2.2.1, ST.out.2.2.2.1, ST.out.2.2.2.2.1, ST.out.2.2.2.2.2⟩
      case round =>
        clear ST
        obtain ⟨k, tx, n, a, La, c, kids, s2, hgk, hF, hP, hB, hN, hT, hSh⟩ := hrel
        have FR : Hid (Frm w b wr) := hF
        have PA : Hid (RAt b L (s2) wr) := hP
        have Bx : Hid (BX w wr (qb) ⟨k, tx, n, .slice a La c, kids⟩) := hB
        have Nx : Hid (NF w wr ⟨k, tx, n, .slice a La c, kids⟩ [qb]) := hN
        have TL : Hid (Rs.Till L .suffix s (.idx [.mk k tx n kids]) s2) := hT
        have SH : Hid (Rs.Sh L s s2 0) := hSh
        have GD : Hid (Rs.Good L (s2)) := hT.good
        have GL : Hid (Rs.Good L s2) := hT.good
        clear hF hP hB hN hT hSh
        go_wp2_with fail
        have HI7 : Hid (_) := ris_any b L (s2) [91] wr PA.out GD.out KN.out (by decide)
        refine Calls.mono HI7.out ?_
        rintro e w9 ⟨rfl, hb10⟩
        replace Nx : Hid (NF w w9 ⟨k, tx, n, .slice a La c, kids⟩ [qb]) := Nx.out.go (grown_low hb10) FR.out.low
        replace Bx : Hid (BX w w9 (qb) ⟨k, tx, n, .slice a La c, kids⟩) := Bx.out.go (grown_low hb10) FR.out.low
        replace FR : Hid (Frm w b w9) := FR.out.go (grown_low hb10)
        replace PA : Hid (RAt b L (s2) w9) := PA.out.below hb10
        clear HI7 hb10
        cases hs8 : Rs.isB L (s2) [91]
        · skip
          have HS : Hid (Rs.isB L s2 [91] = false) := hs8
          clear hs8
          obtain ⟨f11, f12, f13, f14⟩ := Bx.out.cs
          obtain ⟨p0, p1, p2, p3, pf, Z, hZ, ⟨r0, r1, r2, r3⟩, z1, z2, z3⟩ := FR.out.finR PA.out Nx.out
          have HF : Hid (w.grownBy Z (some b) ∧ REnd L .unary b s w (.returned (.agg #[.int .u8 k, .string (Ln.bs tx), .int .i64 n, .slice a La c])) Z) := ⟨z1, _, _, _, rfl, z2, Rs.rel_nosign RN1.out RN2.out (Rs.Till.idx_end TL.out HS.out), z3⟩
          clear z1 z2 z3 
          go_wp2
          rw [← hZ]
          refine bodyPost_ret (v := .agg #[.int .u8 k, .string (Ln.bs tx), .int .i64 n, .slice a La c]) (by simp [results, Tryz.results116, go_sem, r0, r1, r2, r3]) rfl HF.out
        · skip
          have HS : Hid (Rs.isB L s2 [91] = true) := hs8
          clear hs8
          have h0 := (Rs.isB_true HS.out).1
          have h01 := SH.out h0
          have hm1 := HM.out h01.1
          have hm2 := Rs.live_pos GL.out
          have HOR : Hid (RDo 90 (.bin 0) [] (m - 1)) := Hhor.out (m - 1) (by omega)
          have HB : Hid ((Rs.begin L s2 [91]).E = 0 → (Rs.rest L (Rs.begin L s2 [91])).length ≤ m - 1) := fun h9 => by have := (Rs.begin_sh (t := [91]) GL.out h9).2; omega
          have H0 : Hid (s2.E = 0) := h0
          clear h0 h01 hm1 hm2
          go_wp2_with fail
          have HW11 : Hid (_) := rbegin_any b L (s2) [91] w9 PA.out GD.out KN.out (by decide)
          refine Calls.mono HW11.out ?_
          rintro e w12 ⟨rfl, hst13⟩
          replace Nx : Hid (NF w w12 ⟨k, tx, n, .slice a La c, kids⟩ [qb]) := Nx.out.go hst13.1 FR.out.low
          replace Bx : Hid (BX w w12 (qb) ⟨k, tx, n, .slice a La c, kids⟩) := Bx.out.go hst13.1 FR.out.low
          replace FR : Hid (Frm w b w12) := FR.out.go hst13.1
          replace PA : Hid (RAt b L (Rs.begin L (s2) [91]) w12) := hst13.2
          clear HW11 hst13
          replace GD : Hid (Rs.Good L (Rs.begin L (s2) [91])) := Rs.begin_good GD.out (by decide)
          go_wp2_with fail
          have HC14 : Hid (_) := HOR.out b L (Rs.begin L (s2) [91]) w12 KN.out GD.out PA.out (HB.out)
          refine Calls.mono HC14.out ?_
          rintro e w15 ⟨hg16, ty, vy, sy, rfl, ra17, rely, nd18⟩
          have hX : ∀ q ∈ ([qb] : List Nat), q < w12.heap.size := by
            intro q hq
            simp only [List.mem_cons, List.not_mem_nil, or_false] at hq
            subst hq
            exact Bx.out.lt
          obtain ⟨yk, yt, yn, ya, yL, yc, ykids, rfl, rfl, nf⟩ := NF.of_end (X := [qb]) nd18 FR.out hX
          replace Nx : Hid (NF w w15 ⟨k, tx, n, .slice a La c, kids⟩ [qb]) := Nx.out.go hg16 FR.out.low
          replace Bx : Hid (BX w w15 (qb) ⟨k, tx, n, .slice a La c, kids⟩) := Bx.out.go hg16 FR.out.low
          replace FR : Hid (Frm w b w15) := FR.out.go hg16
          replace PA : Hid (RAt b L (sy) w15) := ra17
          have Ny : Hid (NF w w15 ⟨yk, yt, yn, .slice ya yL yc, ykids⟩ [qb]) := nf
          have RELy : Hid (Rs.Rel L (.bin 0) (Rs.begin L (s2) [91]) (.mk yk yt yn ykids) sy) := rely
          replace GD : Hid (Rs.Good L (sy)) := rely.good
          clear nf HC14 hg16 ra17 rely nd18 hX
          have lq : qb < w15.heap.size := Bx.out.lt
          obtain ⟨Y19, hY19⟩ : ∃ V, V = w15.alloc (.cells #[.int .u8 yk, .string (Ln.bs yt), .int .i64 yn, .slice ya yL yc] 26) := ⟨_, rfl⟩
          have bY19 : Below w15.heap.size w15 Y19 := hY19 ▸ below_new w15 _
          have nb : BX w Y19 (w15.heap.size) ⟨yk, yt, yn, .slice ya yL yc, ykids⟩ := by rw [hY19]; exact BX.new FR.out ⟨yk, yt, yn, .slice ya yL yc, ykids⟩
          replace Nx : Hid (NF w w15 ⟨k, tx, n, .slice a La c, kids⟩ [w15.heap.size, qb]) := Nx.out.ex (Nat.le_refl _)
          replace Ny : Hid (NF w w15 ⟨yk, yt, yn, .slice ya yL yc, ykids⟩ [w15.heap.size, qb]) := Ny.out.ex (Nat.le_refl _)
          replace Nx : Hid (NF w Y19 ⟨k, tx, n, .slice a La c, kids⟩ [w15.heap.size, qb]) := Nx.out.go (grown_low bY19) FR.out.low
          replace Ny : Hid (NF w Y19 ⟨yk, yt, yn, .slice ya yL yc, ykids⟩ [w15.heap.size, qb]) := Ny.out.go (grown_low bY19) FR.out.low
          replace Bx : Hid (BX w Y19 (qb) ⟨k, tx, n, .slice a La c, kids⟩) := Bx.out.go (grown_low bY19) FR.out.low
          replace FR : Hid (Frm w b Y19) := FR.out.go (grown_low bY19)
          replace PA : Hid (RAt b L (sy) Y19) := PA.out.below bY19
          have By : Hid (BX w Y19 (w15.heap.size) ⟨yk, yt, yn, .slice ya yL yc, ykids⟩) := nb
          clear nb bY19
          have RW : Hid (_) := Rs.rel_within GL.out (b := [93]) (by decide) RELy.out
          have SW : Hid (Rs.Sh L s2 (Rs.endd L sy [93]) 1) := (((Rs.begin_sh GL.out).trans (Rs.rel_sh (J := .bin 0) trivial RELy.out)).trans (Rs.endd_sh RELy.out.good)).less (by omega)
          go_wp2_with fail
          rw [← hY19]
          clear hY19
          have HW20 : Hid (_) := rend_any b L (sy) [93] Y19 PA.out GD.out KN.out (by decide) (by decide)
          refine Calls.mono HW20.out ?_
          rintro e w21 ⟨rfl, hst22⟩
          replace Nx : Hid (NF w w21 ⟨k, tx, n, .slice a La c, kids⟩ [w15.heap.size, qb]) := Nx.out.go hst22.1 FR.out.low
          replace Ny : Hid (NF w w21 ⟨yk, yt, yn, .slice ya yL yc, ykids⟩ [w15.heap.size, qb]) := Ny.out.go hst22.1 FR.out.low
          replace By : Hid (BX w w21 (w15.heap.size) ⟨yk, yt, yn, .slice ya yL yc, ykids⟩) := By.out.go hst22.1 FR.out.low
          replace Bx : Hid (BX w w21 (qb) ⟨k, tx, n, .slice a La c, kids⟩) := Bx.out.go hst22.1 FR.out.low
          replace FR : Hid (Frm w b w21) := FR.out.go hst22.1
          replace PA : Hid (RAt b L (Rs.endd L (sy) [93]) w21) := hst22.2
          clear HW20 hst22
          replace GD : Hid (Rs.Good L (Rs.endd L (sy) [93])) := RW.out.good
          obtain ⟨f23, f24, f25, f26⟩ := Bx.out.cs
          obtain ⟨f27, f28, f29, f30⟩ := By.out.cs
          obtain ⟨R31, hR31⟩ : ∃ V, V = w21.alloc (.cells #[.int .u8 k, .string (Ln.bs tx), .int .i64 n, .slice a La c, .int .u8 yk, .string (Ln.bs yt), .int .i64 yn, .slice ya yL yc] 26) := ⟨_, rfl⟩
          have bR31 : Below w21.heap.size w21 R31 := hR31 ▸ below_new w21 _
          have hX : ∀ q ∈ ([w15.heap.size, qb] : List Nat), q < w21.heap.size := by
            intro q hq
            simp only [List.mem_cons, List.not_mem_nil, or_false] at hq
            rcases hq with rfl | rfl
            · exact By.out.lt
            · exact Bx.out.lt
          have nk : NF w R31 ⟨26, [], 0, .slice (some ⟨w21.heap.size, 0, none⟩) 2 2, [N1.tr ⟨k, tx, n, .slice a La c, kids⟩, N1.tr ⟨yk, yt, yn, .slice ya yL yc, ykids⟩]⟩ [w15.heap.size, qb] := by
            rw [hR31]
            refine NF.kids FR.out [⟨k, tx, n, .slice a La c, kids⟩, ⟨yk, yt, yn, .slice ya yL yc, ykids⟩] (fun z hz => ?_) hX (by simp) 26 [] 0 (by omega) (by simp) (by omega)
            simp only [List.mem_cons, List.not_mem_nil, or_false] at hz
            rcases hz with rfl | rfl
            · exact Nx.out
            · exact Ny.out
          replace Nx : Hid (NF w R31 ⟨k, tx, n, .slice a La c, kids⟩ [w15.heap.size, qb]) := Nx.out.go (grown_low bR31) FR.out.low
          replace Ny : Hid (NF w R31 ⟨yk, yt, yn, .slice ya yL yc, ykids⟩ [w15.heap.size, qb]) := Ny.out.go (grown_low bR31) FR.out.low
          replace By : Hid (BX w R31 (w15.heap.size) ⟨yk, yt, yn, .slice ya yL yc, ykids⟩) := By.out.go (grown_low bR31) FR.out.low
          replace Bx : Hid (BX w R31 (qb) ⟨k, tx, n, .slice a La c, kids⟩) := Bx.out.go (grown_low bR31) FR.out.low
          replace FR : Hid (Frm w b R31) := FR.out.go (grown_low bR31)
          replace PA : Hid (RAt b L (Rs.endd L (sy) [93]) R31) := PA.out.below bR31
          have Nz : Hid (NF w R31 ⟨26, [], 0, .slice (some ⟨w21.heap.size, 0, none⟩) 2 2, [N1.tr ⟨k, tx, n, .slice a La c, kids⟩, N1.tr ⟨yk, yt, yn, .slice ya yL yc, ykids⟩]⟩ [w15.heap.size, qb]) := nk
          clear nk hX bR31
          go_wp2_with fail
          rw [← hR31]
          clear hR31
          have HD32 : Hid (_) := rof_any 26 (some ⟨w21.heap.size, 0, none⟩) 2 2 R31
          refine Calls.mono HD32.out ?_
          rintro e w33 ⟨rfl, hb34⟩
          replace Nx : Hid (NF w w33 ⟨k, tx, n, .slice a La c, kids⟩ [w15.heap.size, qb]) := Nx.out.go (grown_low hb34) FR.out.low
          replace Ny : Hid (NF w w33 ⟨yk, yt, yn, .slice ya yL yc, ykids⟩ [w15.heap.size, qb]) := Ny.out.go (grown_low hb34) FR.out.low
          replace Nz : Hid (NF w w33 ⟨26, [], 0, .slice (some ⟨w21.heap.size, 0, none⟩) 2 2, [N1.tr ⟨k, tx, n, .slice a La c, kids⟩, N1.tr ⟨yk, yt, yn, .slice ya yL yc, ykids⟩]⟩ [w15.heap.size, qb]) := Nz.out.go (grown_low hb34) FR.out.low
          replace By : Hid (BX w w33 (w15.heap.size) ⟨yk, yt, yn, .slice ya yL yc, ykids⟩) := By.out.go (grown_low hb34) FR.out.low
          replace Bx : Hid (BX w w33 (qb) ⟨k, tx, n, .slice a La c, kids⟩) := Bx.out.go (grown_low hb34) FR.out.low
          replace FR : Hid (Frm w b w33) := FR.out.go (grown_low hb34)
          replace PA : Hid (RAt b L (Rs.endd L (sy) [93]) w33) := PA.out.below hb34
          clear HD32 hb34
          obtain ⟨⟨c0, p0⟩, ⟨c1, p1⟩, ⟨c2, p2⟩, ⟨c3, p3⟩, pf, Z, hZ, gz, FZ, PZ, BZ, NZ⟩ := Bx.out.putR FR.out PA.out Nz.out (by simp)
          have HZ : Hid (Frm w b Z ∧ RAt b L (Rs.endd L sy [93]) Z ∧ BX w Z qb ⟨26, [], 0, .slice (some ⟨w21.heap.size, 0, none⟩) 2 2, [N1.tr ⟨k, tx, n, .slice a La c, kids⟩, N1.tr ⟨yk, yt, yn, .slice ya yL yc, ykids⟩]⟩ ∧ NF w Z ⟨26, [], 0, .slice (some ⟨w21.heap.size, 0, none⟩) 2 2, [N1.tr ⟨k, tx, n, .slice a La c, kids⟩, N1.tr ⟨yk, yt, yn, .slice ya yL yc, ykids⟩]⟩ [qb]) := ⟨FZ, PZ, BZ, NF.sub NZ (by simp)⟩
          clear FZ PZ BZ NZ gz
          rw [show Ln.bs [] = (⟨#[]⟩ : ByteArray) from rfl] at p2 p3 hZ
          go_wp2
          rw [← hZ]
          go_roundg (Rs.mu L (Rs.endd L sy [93]))
          case measure => have := Rs.mu_lt H0.out SW.out; omega
          case rel => exact ⟨_, _, _, _, _, _, _, _, rfl, HZ.out.1, HZ.out.2.1, HZ.out.2.2.1, HZ.out.2.2.2, Rs.Till.idx TL.out HS.out RW.out, (SH.out.trans SW.out).less (by omega)⟩
end Go.Proofs.YtfegodofbdlbeaaGreatDoor
