/-
  The walk of the law ShiftThree.
-/
import Derived.Test.YtflnakjffgobmabShBoxes
namespace Go.Proofs.Ytflnakjffgobmab
open Go.RowKit Go.Shelf

attribute [local go_sem] Oper.semAt_some

theorem fine_short {x : HA} (h1 : x.old.length + x.new.length ≤ 2000) (h2 : x.Short) (h3 : x.Fits) : x.Fine :=
  ⟨⟨by omega, by omega⟩, ⟨fun s hs => by have := h2.1 s hs; omega, fun s hs => by have := h2.2 s hs; omega⟩, h3⟩
theorem cast_ne (c : Nat) (h : c ≠ 0) : (((c : Nat) : Int) != 0) = true := by
  rw [bne_iff_ne]; omega

set_option maxRecDepth 100000 in
set_option maxHeartbeats 16000000 in
theorem three_law (x y z : HA) (w : World) (hx : x.Low w.heap.size w) (hy : y.Low w.heap.size w) (hz : z.Low w.heap.size w) (fx : x.Fits) (fy : y.Fits) (fz : z.Fits) (mx : x.Mach) (my : y.Mach) (mz : z.Mach) :
    Calls Try.prog 3 #[x.val, y.val, z.val] w fun e w' => e = .returned (.bool true) ∧ Below w.heap.size w w' := by
  obtain ⟨X, hX⟩ : ∃ X, X = ((w.alloc (.cells #[.int .i64 x.at_, x.vo, x.vn] 24)).alloc (.cells #[.int .i64 y.at_, y.vo, y.vn] 24)).alloc (.cells #[.int .i64 z.at_, z.vo, z.vn] 24) := ⟨_, rfl⟩
  have bX : Below w.heap.size w X := by rw [hX]; exact below_then (below_nw w _) (below_then (below_nw _ _) (below_nw _ _))
  have x0 : HBox X w.heap.size x := by rw [hX]; exact ((HBox.new w x).below (below_nw _ _)).below (below_nw _ _)
  have x1 : HBox X (w.heap.size + 1) y := by
    have h := HBox.new (w.alloc (.cells #[.int .i64 x.at_, x.vo, x.vn] 24)) y
    rw [World.size_alloc] at h
    rw [hX]; exact h.below (below_nw _ _)
  have x2 : HBox X (w.heap.size + 1 + 1) z := by
    have h := HBox.new ((w.alloc (.cells #[.int .i64 x.at_, x.vo, x.vn] 24)).alloc (.cells #[.int .i64 y.at_, y.vo, y.vn] 24)) z
    simp only [World.size_alloc] at h
    rw [hX]; exact h
  have G1 : Hid (∀ W, Below X.heap.size X W → _) := fun W hW => sgreat_any x y W.heap.size W ((hx.at bX).at hW) ((hy.at bX).at hW) (Nat.le_refl _) fx fy mx my
  have G2 : Hid (∀ W, Below X.heap.size X W → _) := fun W hW => sgreat_any y z W.heap.size W ((hy.at bX).at hW) ((hz.at bX).at hW) (Nat.le_refl _) fy fz my mz
  have HBX : Hid (∀ W, Below X.heap.size X W → x.Fine → y.Fine → z.Fine → Boxes W [(w.heap.size, x), (w.heap.size + 1, y), (w.heap.size + 1 + 1, z)]) := fun W hW f1 f2 f3 => .cons (x0.below hW) ((hx.at bX).at hW) f1 (.cons (x1.below hW) ((hy.at bX).at hW) f2 (.cons (x2.below hW) ((hz.at bX).at hW) f3 (.nil W)))
  have HCC : Hid (∀ W, Below X.heap.size X W → (W.cell? ⟨w.heap.size, 0, none⟩ = some (.int .i64 x.at_) ∧ W.cell? ⟨w.heap.size, 1, none⟩ = some x.vo ∧ W.cell? ⟨w.heap.size, 2, none⟩ = some x.vn) ∧ (W.cell? ⟨w.heap.size + 1, 0, none⟩ = some (.int .i64 y.at_) ∧ W.cell? ⟨w.heap.size + 1, 1, none⟩ = some y.vo ∧ W.cell? ⟨w.heap.size + 1, 2, none⟩ = some y.vn) ∧ (W.cell? ⟨w.heap.size + 1 + 1, 0, none⟩ = some (.int .i64 z.at_) ∧ W.cell? ⟨w.heap.size + 1 + 1, 1, none⟩ = some z.vo ∧ W.cell? ⟨w.heap.size + 1 + 1, 2, none⟩ = some z.vn)) := fun W hW => ⟨(x0.below hW).cells, (x1.below hW).cells, (x2.below hW).cells⟩
  have BX : Hid (Below w.heap.size w X) := bX
  have FX : Hid (x.Fits ∧ y.Fits ∧ z.Fits) := ⟨fx, fy, fz⟩
  obtain ⟨⟨xa1, xk1, e1⟩, ⟨xa2, xk2, e2⟩⟩ := hx.shape
  obtain ⟨⟨ya1, yk1, e3⟩, ⟨ya2, yk2, e4⟩⟩ := hy.shape
  obtain ⟨⟨za1, zk1, e5⟩, ⟨za2, zk2, e6⟩⟩ := hz.shape
  obtain ⟨xp, xo, xn, X1, X2⟩ := x
  obtain ⟨yp, yo, yn, Y1, Y2⟩ := y
  obtain ⟨zp, zo, zn, Z1, Z2⟩ := z
  simp only at e1 e2 e3 e4 e5 e6
  subst e1 e2 e3 e4 e5 e6
  clear hx hy hz x0 x1 x2 bX fx fy fz mx my mz
  simp only [HA.val] at hX G1 G2 HCC ⊢
  go_enter Try.func3, Try.ntmps3
  go_wp2_with fail
  rw [← hX]
  clear hX
  refine (sawake_any X).mono ?_
  rintro e w1 ⟨rfl, b1⟩
  obtain ⟨⟨c0, c1, c2⟩, ⟨c3, c4, c5⟩, ⟨c6, c7, c8⟩⟩ := HCC.out w1 b1
  have B1 : Hid (Below X.heap.size X w1) := b1
  have G3 : Hid (_) := G1.out w1 b1
  clear G1 b1
  go_wp2_with fail
  refine Calls.mono G3.out ?_
  rintro e w2 ⟨r1, rfl, b2, hr1⟩
  have B2 : Hid (Below X.heap.size X w2) := below_then B1.out b2
  have HR1 : Hid (_) := hr1
  clear c0 c1 c2 c3 c4 c5 c6 c7 c8 G3 b2 hr1 B1
  cases r1 with
  | true =>
    go_wp2
    go_ret
    exact ⟨rfl, below_then BX.out B2.out⟩
  | false =>
    obtain ⟨⟨c0, c1, c2⟩, ⟨c3, c4, c5⟩, ⟨c6, c7, c8⟩⟩ := HCC.out w2 B2.out
    have G3 : Hid (_) := G2.out w2 B2.out
    clear G2
    go_wp2_with fail
    refine Calls.mono G3.out ?_
    rintro e w3 ⟨r2, rfl, b3, hr2⟩
    have B3 : Hid (Below X.heap.size X w3) := below_then B2.out b3
    have HR2 : Hid (_) := hr2
    clear c0 c1 c2 c3 c4 c5 c6 c7 c8 G3 b3 hr2 B2
    cases r2 with
    | true =>
      go_wp2
      go_ret
      exact ⟨rfl, below_then BX.out B3.out⟩
    | false =>
      obtain ⟨s1', s2, s3⟩ := HR1.out (by first | exact rfl | trivial)
      obtain ⟨s4', s5, s6⟩ := HR2.out (by first | exact rfl | trivial)
      have s1 : X1.length + X2.length + Y1.length + Y2.length ≤ 2000 := s1'
      have s4 : Y1.length + Y2.length + Z1.length + Z2.length ≤ 2000 := s4'
      have BOX : Hid (Boxes w3 _) := HBX.out w3 B3.out (fine_short (by show X1.length + X2.length ≤ 2000; omega) s2 FX.out.1) (fine_short (by show Y1.length + Y2.length ≤ 2000; omega) s3 FX.out.2.1) (fine_short (by show Z1.length + Z2.length ≤ 2000; omega) s6 FX.out.2.2)
      have BW : Hid (Below w.heap.size w w3) := below_then BX.out B3.out
      clear s1 s1' s2 s3 s4 s4' s5 s6 HR1 HR2 HBX HCC FX B3 BX
      obtain ⟨fp0, fp1, fp2⟩ := HBox.cells (BOX.out (w.heap.size, ⟨xp, .slice xa1 X1.length xk1, .slice xa2 X2.length xk2, X1, X2⟩) (by simp)).1
      have fpl := HBox.lt (BOX.out (w.heap.size, ⟨xp, .slice xa1 X1.length xk1, .slice xa2 X2.length xk2, X1, X2⟩) (by simp)).1
      simp only at fp0 fp1 fp2 fpl
      obtain ⟨fq0, fq1, fq2⟩ := HBox.cells (BOX.out (w.heap.size + 1, ⟨yp, .slice ya1 Y1.length yk1, .slice ya2 Y2.length yk2, Y1, Y2⟩) (by simp)).1
      have fql := HBox.lt (BOX.out (w.heap.size + 1, ⟨yp, .slice ya1 Y1.length yk1, .slice ya2 Y2.length yk2, Y1, Y2⟩) (by simp)).1
      simp only at fq0 fq1 fq2 fql
      have fqm0 := Nat.lt_of_le_of_lt (show w.heap.size ≤ w.heap.size + 1 by omega) fql
      have CM1 : Hid (_) := commute_any ⟨xp, .slice xa1 X1.length xk1, .slice xa2 X2.length xk2, X1, X2⟩ ⟨yp, .slice ya1 Y1.length yk1, .slice ya2 Y2.length yk2, Y1, Y2⟩ w3.heap.size w3 (BOX.out (w.heap.size, ⟨xp, .slice xa1 X1.length xk1, .slice xa2 X2.length xk2, X1, X2⟩) (by simp)).2.1 (BOX.out (w.heap.size + 1, ⟨yp, .slice ya1 Y1.length yk1, .slice ya2 Y2.length yk2, Y1, Y2⟩) (by simp)).2.1 (Nat.le_refl _) (BOX.out (w.heap.size, ⟨xp, .slice xa1 X1.length xk1, .slice xa2 X2.length xk2, X1, X2⟩) (by simp)).2.2 (BOX.out (w.heap.size + 1, ⟨yp, .slice ya1 Y1.length yk1, .slice ya2 Y2.length yk2, Y1, Y2⟩) (by simp)).2.2
      simp only [HA.val] at CM1
      go_wp2_with fail
      refine Calls.mono CM1.out ?_
      intro e t1 hp
      obtain ⟨p11, a11, c11, a12, c12, L11, L12, p12, a13, c13, a14, c14, L13, L14, n1, rfl, hres, lA, lB, bt⟩ := hp.parts
      have HR1 : Hid (_) := hres
      obtain ⟨fA, fB⟩ := commute_fine hres (BOX.out (w.heap.size, ⟨xp, .slice xa1 X1.length xk1, .slice xa2 X2.length xk2, X1, X2⟩) (by simp)).2.2 (BOX.out (w.heap.size + 1, ⟨yp, .slice ya1 Y1.length yk1, .slice ya2 Y2.length yk2, Y1, Y2⟩) (by simp)).2.2
      have BOXt : Hid (Boxes t1 _) := Boxes.below BOX.out bt
      obtain ⟨V1, hV1, bV, BOX2⟩ := Boxes.two BOXt.out ⟨p11, .slice a11 L11.length c11, .slice a12 L12.length c12, L11, L12⟩ ⟨p12, .slice a13 L13.length c13, .slice a14 L14.length c14, L13, L14⟩ lA lB fA fB
      simp only at hV1
      have BW2 : Hid (Below w.heap.size w V1) := below_then BW.out (below_then bt bV)
      clear fp0 fp1 fp2 fpl fq0 fq1 fq2 fql fqm0
      clear BOX BW CM1 hp hres lA lB bt bV fA fB
      have BOX : Hid (Boxes V1 _) := BOX2
      have BW : Hid (Below w.heap.size w V1) := BW2.out
      obtain ⟨fr0, fr1, fr2⟩ := HBox.cells (BOXt.out (w.heap.size + 1 + 1, ⟨zp, .slice za1 Z1.length zk1, .slice za2 Z2.length zk2, Z1, Z2⟩) (by simp)).1
      have frl := HBox.lt (BOXt.out (w.heap.size + 1 + 1, ⟨zp, .slice za1 Z1.length zk1, .slice za2 Z2.length zk2, Z1, Z2⟩) (by simp)).1
      simp only at fr0 fr1 fr2 frl
      have frm0 := Nat.lt_of_le_of_lt (show w.heap.size ≤ w.heap.size + 1 + 1 by omega) frl
      have frm1 := Nat.lt_of_le_of_lt (show w.heap.size + 1 ≤ w.heap.size + 1 + 1 by omega) frl
      clear BOX2 BW2 BOXt
      have CM2 : Hid (_) := commute_any ⟨p12, .slice a13 L13.length c13, .slice a14 L14.length c14, L13, L14⟩ ⟨zp, .slice za1 Z1.length zk1, .slice za2 Z2.length zk2, Z1, Z2⟩ V1.heap.size V1 (BOX.out (t1.heap.size + 1, ⟨p12, .slice a13 L13.length c13, .slice a14 L14.length c14, L13, L14⟩) (by simp)).2.1 (BOX.out (w.heap.size + 1 + 1, ⟨zp, .slice za1 Z1.length zk1, .slice za2 Z2.length zk2, Z1, Z2⟩) (by simp)).2.1 (Nat.le_refl _) (BOX.out (t1.heap.size + 1, ⟨p12, .slice a13 L13.length c13, .slice a14 L14.length c14, L13, L14⟩) (by simp)).2.2 (BOX.out (w.heap.size + 1 + 1, ⟨zp, .slice za1 Z1.length zk1, .slice za2 Z2.length zk2, Z1, Z2⟩) (by simp)).2.2
      simp only [HA.val] at CM2
      go_wp2_with fail
      rw [← hV1]
      clear hV1
      refine Calls.mono CM2.out ?_
      intro e t2 hp
      obtain ⟨p21, a21, c21, a22, c22, L21, L22, p22, a23, c23, a24, c24, L23, L24, n2, rfl, hres, lA, lB, bt⟩ := hp.parts
      have HR2 : Hid (_) := hres
      obtain ⟨fA, fB⟩ := commute_fine hres (BOX.out (t1.heap.size + 1, ⟨p12, .slice a13 L13.length c13, .slice a14 L14.length c14, L13, L14⟩) (by simp)).2.2 (BOX.out (w.heap.size + 1 + 1, ⟨zp, .slice za1 Z1.length zk1, .slice za2 Z2.length zk2, Z1, Z2⟩) (by simp)).2.2
      have BOXt : Hid (Boxes t2 _) := Boxes.below BOX.out bt
      obtain ⟨V2, hV2, bV, BOX2⟩ := Boxes.two BOXt.out ⟨p21, .slice a21 L21.length c21, .slice a22 L22.length c22, L21, L22⟩ ⟨p22, .slice a23 L23.length c23, .slice a24 L24.length c24, L23, L24⟩ lA lB fA fB
      simp only at hV2
      have BW2 : Hid (Below w.heap.size w V2) := below_then BW.out (below_then bt bV)
      clear fr0 fr1 fr2 frl frm0 frm1
      clear BOX BW CM2 hp hres lA lB bt bV fA fB
      have BOX : Hid (Boxes V2 _) := BOX2
      have BW : Hid (Below w.heap.size w V2) := BW2.out
      obtain ⟨fa0, fa1, fa2⟩ := HBox.cells (BOXt.out (t1.heap.size, ⟨p11, .slice a11 L11.length c11, .slice a12 L12.length c12, L11, L12⟩) (by simp)).1
      have fal := HBox.lt (BOXt.out (t1.heap.size, ⟨p11, .slice a11 L11.length c11, .slice a12 L12.length c12, L11, L12⟩) (by simp)).1
      simp only at fa0 fa1 fa2 fal
      clear BOX2 BW2 BOXt
      have CM3 : Hid (_) := commute_any ⟨p11, .slice a11 L11.length c11, .slice a12 L12.length c12, L11, L12⟩ ⟨p21, .slice a21 L21.length c21, .slice a22 L22.length c22, L21, L22⟩ V2.heap.size V2 (BOX.out (t1.heap.size, ⟨p11, .slice a11 L11.length c11, .slice a12 L12.length c12, L11, L12⟩) (by simp)).2.1 (BOX.out (t2.heap.size, ⟨p21, .slice a21 L21.length c21, .slice a22 L22.length c22, L21, L22⟩) (by simp)).2.1 (Nat.le_refl _) (BOX.out (t1.heap.size, ⟨p11, .slice a11 L11.length c11, .slice a12 L12.length c12, L11, L12⟩) (by simp)).2.2 (BOX.out (t2.heap.size, ⟨p21, .slice a21 L21.length c21, .slice a22 L22.length c22, L21, L22⟩) (by simp)).2.2
      simp only [HA.val] at CM3
      go_wp2_with fail
      rw [← hV2]
      clear hV2
      refine Calls.mono CM3.out ?_
      intro e t3 hp
      obtain ⟨p31, a31, c31, a32, c32, L31, L32, p32, a33, c33, a34, c34, L33, L34, n3, rfl, hres, lA, lB, bt⟩ := hp.parts
      have HR3 : Hid (_) := hres
      obtain ⟨fA, fB⟩ := commute_fine hres (BOX.out (t1.heap.size, ⟨p11, .slice a11 L11.length c11, .slice a12 L12.length c12, L11, L12⟩) (by simp)).2.2 (BOX.out (t2.heap.size, ⟨p21, .slice a21 L21.length c21, .slice a22 L22.length c22, L21, L22⟩) (by simp)).2.2
      have BOXt : Hid (Boxes t3 _) := Boxes.below BOX.out bt
      obtain ⟨V3, hV3, bV, BOX2⟩ := Boxes.two BOXt.out ⟨p31, .slice a31 L31.length c31, .slice a32 L32.length c32, L31, L32⟩ ⟨p32, .slice a33 L33.length c33, .slice a34 L34.length c34, L33, L34⟩ lA lB fA fB
      simp only at hV3
      have BW2 : Hid (Below w.heap.size w V3) := below_then BW.out (below_then bt bV)
      clear fa0 fa1 fa2 fal
      clear BOX BW CM3 hp hres lA lB bt bV fA fB
      have BOX : Hid (Boxes V3 _) := BOX2
      have BW : Hid (Below w.heap.size w V3) := BW2.out
      obtain ⟨fq0, fq1, fq2⟩ := HBox.cells (BOXt.out (w.heap.size + 1, ⟨yp, .slice ya1 Y1.length yk1, .slice ya2 Y2.length yk2, Y1, Y2⟩) (by simp)).1
      have fql := HBox.lt (BOXt.out (w.heap.size + 1, ⟨yp, .slice ya1 Y1.length yk1, .slice ya2 Y2.length yk2, Y1, Y2⟩) (by simp)).1
      simp only at fq0 fq1 fq2 fql
      have fqm0 := Nat.lt_of_le_of_lt (show w.heap.size ≤ w.heap.size + 1 by omega) fql
      obtain ⟨fr0, fr1, fr2⟩ := HBox.cells (BOXt.out (w.heap.size + 1 + 1, ⟨zp, .slice za1 Z1.length zk1, .slice za2 Z2.length zk2, Z1, Z2⟩) (by simp)).1
      have frl := HBox.lt (BOXt.out (w.heap.size + 1 + 1, ⟨zp, .slice za1 Z1.length zk1, .slice za2 Z2.length zk2, Z1, Z2⟩) (by simp)).1
      simp only at fr0 fr1 fr2 frl
      have frm0 := Nat.lt_of_le_of_lt (show w.heap.size ≤ w.heap.size + 1 + 1 by omega) frl
      have frm1 := Nat.lt_of_le_of_lt (show w.heap.size + 1 ≤ w.heap.size + 1 + 1 by omega) frl
      clear BOX2 BW2 BOXt
      have CM4 : Hid (_) := commute_any ⟨yp, .slice ya1 Y1.length yk1, .slice ya2 Y2.length yk2, Y1, Y2⟩ ⟨zp, .slice za1 Z1.length zk1, .slice za2 Z2.length zk2, Z1, Z2⟩ V3.heap.size V3 (BOX.out (w.heap.size + 1, ⟨yp, .slice ya1 Y1.length yk1, .slice ya2 Y2.length yk2, Y1, Y2⟩) (by simp)).2.1 (BOX.out (w.heap.size + 1 + 1, ⟨zp, .slice za1 Z1.length zk1, .slice za2 Z2.length zk2, Z1, Z2⟩) (by simp)).2.1 (Nat.le_refl _) (BOX.out (w.heap.size + 1, ⟨yp, .slice ya1 Y1.length yk1, .slice ya2 Y2.length yk2, Y1, Y2⟩) (by simp)).2.2 (BOX.out (w.heap.size + 1 + 1, ⟨zp, .slice za1 Z1.length zk1, .slice za2 Z2.length zk2, Z1, Z2⟩) (by simp)).2.2
      simp only [HA.val] at CM4
      go_wp2_with fail
      rw [← hV3]
      clear hV3
      refine Calls.mono CM4.out ?_
      intro e t4 hp
      obtain ⟨p41, a41, c41, a42, c42, L41, L42, p42, a43, c43, a44, c44, L43, L44, n4, rfl, hres, lA, lB, bt⟩ := hp.parts
      have HR4 : Hid (_) := hres
      obtain ⟨fA, fB⟩ := commute_fine hres (BOX.out (w.heap.size + 1, ⟨yp, .slice ya1 Y1.length yk1, .slice ya2 Y2.length yk2, Y1, Y2⟩) (by simp)).2.2 (BOX.out (w.heap.size + 1 + 1, ⟨zp, .slice za1 Z1.length zk1, .slice za2 Z2.length zk2, Z1, Z2⟩) (by simp)).2.2
      have BOXt : Hid (Boxes t4 _) := Boxes.below BOX.out bt
      obtain ⟨V4, hV4, bV, BOX2⟩ := Boxes.two BOXt.out ⟨p41, .slice a41 L41.length c41, .slice a42 L42.length c42, L41, L42⟩ ⟨p42, .slice a43 L43.length c43, .slice a44 L44.length c44, L43, L44⟩ lA lB fA fB
      simp only at hV4
      have BW2 : Hid (Below w.heap.size w V4) := below_then BW.out (below_then bt bV)
      clear fq0 fq1 fq2 fql fqm0 fr0 fr1 fr2 frl frm0 frm1
      clear BOX BW CM4 hp hres lA lB bt bV fA fB
      have BOX : Hid (Boxes V4 _) := BOX2
      have BW : Hid (Below w.heap.size w V4) := BW2.out
      obtain ⟨fp0, fp1, fp2⟩ := HBox.cells (BOXt.out (w.heap.size, ⟨xp, .slice xa1 X1.length xk1, .slice xa2 X2.length xk2, X1, X2⟩) (by simp)).1
      have fpl := HBox.lt (BOXt.out (w.heap.size, ⟨xp, .slice xa1 X1.length xk1, .slice xa2 X2.length xk2, X1, X2⟩) (by simp)).1
      simp only at fp0 fp1 fp2 fpl
      clear BOX2 BW2 BOXt
      have CM5 : Hid (_) := commute_any ⟨xp, .slice xa1 X1.length xk1, .slice xa2 X2.length xk2, X1, X2⟩ ⟨p41, .slice a41 L41.length c41, .slice a42 L42.length c42, L41, L42⟩ V4.heap.size V4 (BOX.out (w.heap.size, ⟨xp, .slice xa1 X1.length xk1, .slice xa2 X2.length xk2, X1, X2⟩) (by simp)).2.1 (BOX.out (t4.heap.size, ⟨p41, .slice a41 L41.length c41, .slice a42 L42.length c42, L41, L42⟩) (by simp)).2.1 (Nat.le_refl _) (BOX.out (w.heap.size, ⟨xp, .slice xa1 X1.length xk1, .slice xa2 X2.length xk2, X1, X2⟩) (by simp)).2.2 (BOX.out (t4.heap.size, ⟨p41, .slice a41 L41.length c41, .slice a42 L42.length c42, L41, L42⟩) (by simp)).2.2
      simp only [HA.val] at CM5
      go_wp2_with fail
      rw [← hV4]
      clear hV4
      refine Calls.mono CM5.out ?_
      intro e t5 hp
      obtain ⟨p51, a51, c51, a52, c52, L51, L52, p52, a53, c53, a54, c54, L53, L54, n5, rfl, hres, lA, lB, bt⟩ := hp.parts
      have HR5 : Hid (_) := hres
      obtain ⟨fA, fB⟩ := commute_fine hres (BOX.out (w.heap.size, ⟨xp, .slice xa1 X1.length xk1, .slice xa2 X2.length xk2, X1, X2⟩) (by simp)).2.2 (BOX.out (t4.heap.size, ⟨p41, .slice a41 L41.length c41, .slice a42 L42.length c42, L41, L42⟩) (by simp)).2.2
      have BOXt : Hid (Boxes t5 _) := Boxes.below BOX.out bt
      obtain ⟨V5, hV5, bV, BOX2⟩ := Boxes.two BOXt.out ⟨p51, .slice a51 L51.length c51, .slice a52 L52.length c52, L51, L52⟩ ⟨p52, .slice a53 L53.length c53, .slice a54 L54.length c54, L53, L54⟩ lA lB fA fB
      simp only at hV5
      have BW2 : Hid (Below w.heap.size w V5) := below_then BW.out (below_then bt bV)
      clear fp0 fp1 fp2 fpl
      clear BOX BW CM5 hp hres lA lB bt bV fA fB
      have BOX : Hid (Boxes V5 _) := BOX2
      have BW : Hid (Below w.heap.size w V5) := BW2.out
      obtain ⟨ft0, ft1, ft2⟩ := HBox.cells (BOXt.out (t4.heap.size + 1, ⟨p42, .slice a43 L43.length c43, .slice a44 L44.length c44, L43, L44⟩) (by simp)).1
      have ftl := HBox.lt (BOXt.out (t4.heap.size + 1, ⟨p42, .slice a43 L43.length c43, .slice a44 L44.length c44, L43, L44⟩) (by simp)).1
      simp only at ft0 ft1 ft2 ftl
      have ftm0 := Nat.lt_of_le_of_lt (show t4.heap.size ≤ t4.heap.size + 1 by omega) ftl
      clear BOX2 BW2 BOXt
      have CM6 : Hid (_) := commute_any ⟨p52, .slice a53 L53.length c53, .slice a54 L54.length c54, L53, L54⟩ ⟨p42, .slice a43 L43.length c43, .slice a44 L44.length c44, L43, L44⟩ V5.heap.size V5 (BOX.out (t5.heap.size + 1, ⟨p52, .slice a53 L53.length c53, .slice a54 L54.length c54, L53, L54⟩) (by simp)).2.1 (BOX.out (t4.heap.size + 1, ⟨p42, .slice a43 L43.length c43, .slice a44 L44.length c44, L43, L44⟩) (by simp)).2.1 (Nat.le_refl _) (BOX.out (t5.heap.size + 1, ⟨p52, .slice a53 L53.length c53, .slice a54 L54.length c54, L53, L54⟩) (by simp)).2.2 (BOX.out (t4.heap.size + 1, ⟨p42, .slice a43 L43.length c43, .slice a44 L44.length c44, L43, L44⟩) (by simp)).2.2
      simp only [HA.val] at CM6
      go_wp2_with fail
      rw [← hV5]
      clear hV5
      refine Calls.mono CM6.out ?_
      intro e t6 hp
      obtain ⟨p61, a61, c61, a62, c62, L61, L62, p62, a63, c63, a64, c64, L63, L64, n6, rfl, hres, lA, lB, bt⟩ := hp.parts
      have HR6 : Hid (_) := hres
      obtain ⟨fA, fB⟩ := commute_fine hres (BOX.out (t5.heap.size + 1, ⟨p52, .slice a53 L53.length c53, .slice a54 L54.length c54, L53, L54⟩) (by simp)).2.2 (BOX.out (t4.heap.size + 1, ⟨p42, .slice a43 L43.length c43, .slice a44 L44.length c44, L43, L44⟩) (by simp)).2.2
      have BOXt : Hid (Boxes t6 _) := Boxes.below BOX.out bt
      obtain ⟨V6, hV6, bV, BOX2⟩ := Boxes.two BOXt.out ⟨p61, .slice a61 L61.length c61, .slice a62 L62.length c62, L61, L62⟩ ⟨p62, .slice a63 L63.length c63, .slice a64 L64.length c64, L63, L64⟩ lA lB fA fB
      simp only at hV6
      have BW2 : Hid (Below w.heap.size w V6) := below_then BW.out (below_then bt bV)
      clear ft0 ft1 ft2 ftl ftm0
      clear BOX BW CM6 hp hres lA lB bt bV fA fB
      have BOX : Hid (Boxes V6 _) := BOX2
      have BW : Hid (Below w.heap.size w V6) := BW2.out
      obtain ⟨fg0, fg1, fg2⟩ := HBox.cells (BOXt.out (t3.heap.size, ⟨p31, .slice a31 L31.length c31, .slice a32 L32.length c32, L31, L32⟩) (by simp)).1
      have fgl := HBox.lt (BOXt.out (t3.heap.size, ⟨p31, .slice a31 L31.length c31, .slice a32 L32.length c32, L31, L32⟩) (by simp)).1
      simp only at fg0 fg1 fg2 fgl
      obtain ⟨fu0, fu1, fu2⟩ := HBox.cells (BOXt.out (t5.heap.size, ⟨p51, .slice a51 L51.length c51, .slice a52 L52.length c52, L51, L52⟩) (by simp)).1
      have ful := HBox.lt (BOXt.out (t5.heap.size, ⟨p51, .slice a51 L51.length c51, .slice a52 L52.length c52, L51, L52⟩) (by simp)).1
      simp only at fu0 fu1 fu2 ful
      obtain ⟨fh0, fh1, fh2⟩ := HBox.cells (BOXt.out (t3.heap.size + 1, ⟨p32, .slice a33 L33.length c33, .slice a34 L34.length c34, L33, L34⟩) (by simp)).1
      have fhl := HBox.lt (BOXt.out (t3.heap.size + 1, ⟨p32, .slice a33 L33.length c33, .slice a34 L34.length c34, L33, L34⟩) (by simp)).1
      simp only at fh0 fh1 fh2 fhl
      have fhm0 := Nat.lt_of_le_of_lt (show t3.heap.size ≤ t3.heap.size + 1 by omega) fhl
      obtain ⟨fd0, fd1, fd2⟩ := HBox.cells (BOXt.out (t2.heap.size + 1, ⟨p22, .slice a23 L23.length c23, .slice a24 L24.length c24, L23, L24⟩) (by simp)).1
      have fdl := HBox.lt (BOXt.out (t2.heap.size + 1, ⟨p22, .slice a23 L23.length c23, .slice a24 L24.length c24, L23, L24⟩) (by simp)).1
      simp only at fd0 fd1 fd2 fdl
      have fdm0 := Nat.lt_of_le_of_lt (show t2.heap.size ≤ t2.heap.size + 1 by omega) fdl
      clear BOX2 BW2 BOXt
      by_cases hn1 : n1 = 0
      case neg =>
        have hb1 := cast_ne n1 hn1
        have BF : Hid (Below w.heap.size w V6) := BW.out
        clear BOX
        go_wp2
        rw [← hV6]
        go_ret
        exact ⟨rfl, BF.out⟩
      subst hn1
      by_cases hn2 : n2 = 0
      case neg =>
        have hb2 := cast_ne n2 hn2
        have BF : Hid (Below w.heap.size w V6) := BW.out
        clear BOX
        go_wp2
        rw [← hV6]
        go_ret
        exact ⟨rfl, BF.out⟩
      subst hn2
      by_cases hn3 : n3 = 0
      case neg =>
        have hb3 := cast_ne n3 hn3
        have BF : Hid (Below w.heap.size w V6) := BW.out
        clear BOX
        go_wp2
        rw [← hV6]
        go_ret
        exact ⟨rfl, BF.out⟩
      subst hn3
      by_cases hn4 : n4 = 0
      case neg =>
        have hb4 := cast_ne n4 hn4
        have BF : Hid (Below w.heap.size w V6) := BW.out
        clear BOX
        go_wp2
        rw [← hV6]
        go_ret
        exact ⟨rfl, BF.out⟩
      subst hn4
      by_cases hn5 : n5 = 0
      case neg =>
        have hb5 := cast_ne n5 hn5
        have BF : Hid (Below w.heap.size w V6) := BW.out
        clear BOX
        go_wp2
        rw [← hV6]
        go_ret
        exact ⟨rfl, BF.out⟩
      subst hn5
      by_cases hn6 : n6 = 0
      case neg =>
        have hb6 := cast_ne n6 hn6
        have BF : Hid (Below w.heap.size w V6) := BW.out
        clear BOX
        go_wp2
        rw [← hV6]
        go_ret
        exact ⟨rfl, BF.out⟩
      subst hn6
      have E := Hn.three (shRes_zero_c HR1.out) (shRes_zero_c HR2.out) (shRes_zero_c HR3.out) (shRes_zero_c HR4.out) (shRes_zero_c HR5.out) (shRes_zero_c HR6.out)
      have HE : Hid (_) := E
      clear E
      have S1 : Hid (_) := sameHunkA_yes ⟨p31, .slice a31 L31.length c31, .slice a32 L32.length c32, L31, L32⟩ ⟨p51, .slice a51 L51.length c51, .slice a52 L52.length c52, L51, L52⟩ V6.heap.size V6 (BOX.out (t3.heap.size, ⟨p31, .slice a31 L31.length c31, .slice a32 L32.length c32, L31, L32⟩) (by simp)).2.1 (BOX.out (t5.heap.size, ⟨p51, .slice a51 L51.length c51, .slice a52 L52.length c52, L51, L52⟩) (by simp)).2.1 (Nat.le_refl _) HE.out.1 (BOX.out (t3.heap.size, ⟨p31, .slice a31 L31.length c31, .slice a32 L32.length c32, L31, L32⟩) (by simp)).2.2.1.1 (BOX.out (t3.heap.size, ⟨p31, .slice a31 L31.length c31, .slice a32 L32.length c32, L31, L32⟩) (by simp)).2.2.1.2
      simp only [HA.val] at S1
      go_wp2_with fail
      rw [← hV6]
      clear hV6
      refine Calls.mono S1.out ?_
      rintro e s1 ⟨rfl, b1⟩
      have BOX1 : Hid (Boxes s1 _) := Boxes.below BOX.out b1
      have BW1 : Hid (Below w.heap.size w s1) := below_then BW.out b1
      clear fg0 fg1 fg2 fgl fu0 fu1 fu2 ful fh0 fh1 fh2 fhl fhm0 fd0 fd1 fd2 fdl fdm0
      clear S1 b1 BOX BW
      obtain ⟨fh0, fh1, fh2⟩ := HBox.cells (BOX1.out (t3.heap.size + 1, ⟨p32, .slice a33 L33.length c33, .slice a34 L34.length c34, L33, L34⟩) (by simp)).1
      have fhl := HBox.lt (BOX1.out (t3.heap.size + 1, ⟨p32, .slice a33 L33.length c33, .slice a34 L34.length c34, L33, L34⟩) (by simp)).1
      simp only at fh0 fh1 fh2 fhl
      have fhm0 := Nat.lt_of_le_of_lt (show t3.heap.size ≤ t3.heap.size + 1 by omega) fhl
      obtain ⟨fww0, fww1, fww2⟩ := HBox.cells (BOX1.out (t6.heap.size, ⟨p61, .slice a61 L61.length c61, .slice a62 L62.length c62, L61, L62⟩) (by simp)).1
      have fwwl := HBox.lt (BOX1.out (t6.heap.size, ⟨p61, .slice a61 L61.length c61, .slice a62 L62.length c62, L61, L62⟩) (by simp)).1
      simp only at fww0 fww1 fww2 fwwl
      obtain ⟨fd0, fd1, fd2⟩ := HBox.cells (BOX1.out (t2.heap.size + 1, ⟨p22, .slice a23 L23.length c23, .slice a24 L24.length c24, L23, L24⟩) (by simp)).1
      have fdl := HBox.lt (BOX1.out (t2.heap.size + 1, ⟨p22, .slice a23 L23.length c23, .slice a24 L24.length c24, L23, L24⟩) (by simp)).1
      simp only at fd0 fd1 fd2 fdl
      have fdm0 := Nat.lt_of_le_of_lt (show t2.heap.size ≤ t2.heap.size + 1 by omega) fdl
      obtain ⟨fx0, fx1, fx2⟩ := HBox.cells (BOX1.out (t6.heap.size + 1, ⟨p62, .slice a63 L63.length c63, .slice a64 L64.length c64, L63, L64⟩) (by simp)).1
      have fxl := HBox.lt (BOX1.out (t6.heap.size + 1, ⟨p62, .slice a63 L63.length c63, .slice a64 L64.length c64, L63, L64⟩) (by simp)).1
      simp only at fx0 fx1 fx2 fxl
      have fxm0 := Nat.lt_of_le_of_lt (show t6.heap.size ≤ t6.heap.size + 1 by omega) fxl
      have S2 : Hid (_) := sameHunkA_yes ⟨p32, .slice a33 L33.length c33, .slice a34 L34.length c34, L33, L34⟩ ⟨p61, .slice a61 L61.length c61, .slice a62 L62.length c62, L61, L62⟩ s1.heap.size s1 (BOX1.out (t3.heap.size + 1, ⟨p32, .slice a33 L33.length c33, .slice a34 L34.length c34, L33, L34⟩) (by simp)).2.1 (BOX1.out (t6.heap.size, ⟨p61, .slice a61 L61.length c61, .slice a62 L62.length c62, L61, L62⟩) (by simp)).2.1 (Nat.le_refl _) HE.out.2.1 (BOX1.out (t3.heap.size + 1, ⟨p32, .slice a33 L33.length c33, .slice a34 L34.length c34, L33, L34⟩) (by simp)).2.2.1.1 (BOX1.out (t3.heap.size + 1, ⟨p32, .slice a33 L33.length c33, .slice a34 L34.length c34, L33, L34⟩) (by simp)).2.2.1.2
      simp only [HA.val] at S2
      go_wp2_with fail
      refine Calls.mono S2.out ?_
      rintro e s2 ⟨rfl, b2⟩
      have BOX2 : Hid (Boxes s2 _) := Boxes.below BOX1.out b2
      have BW2 : Hid (Below w.heap.size w s2) := below_then BW1.out b2
      clear fh0 fh1 fh2 fhl fhm0 fww0 fww1 fww2 fwwl fd0 fd1 fd2 fdl fdm0 fx0 fx1 fx2 fxl fxm0
      clear S2 b2 BOX1 BW1
      obtain ⟨fd0, fd1, fd2⟩ := HBox.cells (BOX2.out (t2.heap.size + 1, ⟨p22, .slice a23 L23.length c23, .slice a24 L24.length c24, L23, L24⟩) (by simp)).1
      have fdl := HBox.lt (BOX2.out (t2.heap.size + 1, ⟨p22, .slice a23 L23.length c23, .slice a24 L24.length c24, L23, L24⟩) (by simp)).1
      simp only at fd0 fd1 fd2 fdl
      have fdm0 := Nat.lt_of_le_of_lt (show t2.heap.size ≤ t2.heap.size + 1 by omega) fdl
      obtain ⟨fx0, fx1, fx2⟩ := HBox.cells (BOX2.out (t6.heap.size + 1, ⟨p62, .slice a63 L63.length c63, .slice a64 L64.length c64, L63, L64⟩) (by simp)).1
      have fxl := HBox.lt (BOX2.out (t6.heap.size + 1, ⟨p62, .slice a63 L63.length c63, .slice a64 L64.length c64, L63, L64⟩) (by simp)).1
      simp only at fx0 fx1 fx2 fxl
      have fxm0 := Nat.lt_of_le_of_lt (show t6.heap.size ≤ t6.heap.size + 1 by omega) fxl
      have S3 : Hid (_) := sameHunkA_yes ⟨p22, .slice a23 L23.length c23, .slice a24 L24.length c24, L23, L24⟩ ⟨p62, .slice a63 L63.length c63, .slice a64 L64.length c64, L63, L64⟩ s2.heap.size s2 (BOX2.out (t2.heap.size + 1, ⟨p22, .slice a23 L23.length c23, .slice a24 L24.length c24, L23, L24⟩) (by simp)).2.1 (BOX2.out (t6.heap.size + 1, ⟨p62, .slice a63 L63.length c63, .slice a64 L64.length c64, L63, L64⟩) (by simp)).2.1 (Nat.le_refl _) HE.out.2.2 (BOX2.out (t2.heap.size + 1, ⟨p22, .slice a23 L23.length c23, .slice a24 L24.length c24, L23, L24⟩) (by simp)).2.2.1.1 (BOX2.out (t2.heap.size + 1, ⟨p22, .slice a23 L23.length c23, .slice a24 L24.length c24, L23, L24⟩) (by simp)).2.2.1.2
      simp only [HA.val] at S3
      go_wp2_with fail
      refine Calls.mono S3.out ?_
      rintro e s3 ⟨rfl, b3⟩
      have BF : Hid (Below w.heap.size w s3) := below_then BW2.out b3
      clear fd0 fd1 fd2 fdl fdm0 fx0 fx1 fx2 fxl fxm0
      clear S3 b3 BOX2 BW2
      go_wp2
      go_ret
      exact ⟨rfl, BF.out⟩

end Go.Proofs.Ytflnakjffgobmab
