/-
  The walk of the law ShiftPast.
-/
import Derived.Test.YtflnakjffgobmaaShApply
namespace Go.Proofs.Ytflnakjffgobmaa
open Go.RowKit Go.Shelf

attribute [local go_sem] Oper.semAt_some

theorem fine_short {x : HA} (h1 : x.old.length + x.new.length ≤ 2000) (h2 : x.Short) (h3 : x.Fits) : x.Fine :=
  ⟨⟨by omega, by omega⟩, ⟨fun s hs => by have := h2.1 s hs; omega, fun s hs => by have := h2.2 s hs; omega⟩, h3⟩
theorem slim_of {x y : HA} {d : Int} (h : y.h = Hn.moved x.h d) (s : x.Slim) : y.Slim := by
  obtain ⟨p, vo, vn, L1, L2⟩ := x
  obtain ⟨p', vo', vn', M1, M2⟩ := y
  simp only [HA.h, Hn.moved, Hn.H.mk.injEq] at h
  obtain ⟨rfl, rfl, rfl⟩ := h
  exact s
theorem slim_zero {y : HA} (h : y.h = ⟨0, [], []⟩) : y.Slim := by
  obtain ⟨p', vo', vn', M1, M2⟩ := y
  simp only [HA.h, Hn.H.mk.injEq] at h
  obtain ⟨rfl, rfl, rfl⟩ := h
  exact ⟨by show (0 : Nat) ≤ _; omega, by show (0 : Nat) ≤ _; omega⟩
theorem commute_slim {x y A B : HA} {c : Nat} (h : (A.h, B.h, c) = shRes (Hn.commute x.h y.h)) (fx : x.Slim) (fy : y.Slim) : A.Slim ∧ B.Slim := by
  cases hr : Hn.commute x.h y.h with
  | error e =>
    rw [hr] at h
    simp only [shRes, Prod.mk.injEq] at h
    exact ⟨slim_zero h.1, slim_zero h.2.1⟩
  | ok q =>
    obtain ⟨u, v⟩ := q
    rw [hr] at h
    simp only [shRes, Prod.mk.injEq] at h
    obtain ⟨h1, h2, -⟩ := h
    obtain ⟨-, -, ra, rb, ⟨-, e1, e2⟩ | ⟨-, e1, e2⟩⟩ := Hn.commute_ok hr
    · exact ⟨slim_of (x := y) (d := 0) (by rw [moved_zero, h1, e1]) fy, slim_of (x := x) (by rw [h2, e2]) fx⟩
    · exact ⟨slim_of (x := y) (by rw [h1, e1]) fy, slim_of (x := x) (d := 0) (by rw [moved_zero, h2, e2]) fx⟩
theorem merge_slim {x y A B : HA} {c : Nat} (h : (A.h, B.h, c) = shRes (Hn.merge x.h y.h)) (fx : x.Slim) (fy : y.Slim) : A.Slim ∧ B.Slim := by
  cases hr : Hn.merge x.h y.h with
  | error e =>
    rw [hr] at h
    simp only [shRes, Prod.mk.injEq] at h
    exact ⟨slim_zero h.1, slim_zero h.2.1⟩
  | ok q =>
    obtain ⟨u, v⟩ := q
    rw [hr] at h
    simp only [shRes, Prod.mk.injEq] at h
    obtain ⟨h1, h2, -⟩ := h
    obtain ⟨-, -, ra, rb, ⟨-, e1, e2⟩ | ⟨-, e1, e2⟩⟩ := Hn.merge_ok hr
    · exact ⟨slim_of (x := x) (d := 0) (by rw [moved_zero, h1, e1]) fx, slim_of (x := y) (by rw [h2, e2]) fy⟩
    · exact ⟨slim_of (x := x) (by rw [h1, e1]) fx, slim_of (x := y) (d := 0) (by rw [moved_zero, h2, e2]) fy⟩
theorem flip_res {p q A B A' B' : Hn.H} {c c' : Nat} (h : (A, B, c) = shRes (Hn.merge p q)) (h' : (A', B', c') = shRes (Hn.merge q p)) : c' = c ∧ A' = B ∧ B' = A := by
  rw [Hn.merge_flip] at h'
  cases hr : Hn.merge p q with
  | error e =>
    rw [hr] at h h'
    simp only [shRes, Hn.flip, Prod.mk.injEq] at h h'
    obtain ⟨rfl, rfl, rfl⟩ := h
    obtain ⟨rfl, rfl, rfl⟩ := h'
    exact ⟨rfl, rfl, rfl⟩
  | ok q =>
    obtain ⟨u, v⟩ := q
    rw [hr] at h h'
    simp only [shRes, Hn.flip, Prod.mk.injEq] at h h'
    obtain ⟨rfl, rfl, rfl⟩ := h
    obtain ⟨rfl, rfl, rfl⟩ := h'
    exact ⟨rfl, rfl, rfl⟩
theorem twoRes_ok {l M : List (List UInt8)} {p q : Hn.H} (h : (M, true) = twoRes l p q) : ∃ a, Hn.apply l [p] = .ok a ∧ Hn.apply a [q] = .ok M := by
  unfold twoRes at h
  cases h1 : Hn.apply l [p] with
  | error e => rw [h1] at h; simp at h
  | ok a =>
    rw [h1] at h
    simp only at h
    cases h2 : Hn.apply a [q] with
    | error e => rw [h2] at h; simp at h
    | ok b =>
      rw [h2] at h
      simp only [Prod.mk.injEq, and_true] at h
      subst h
      exact ⟨a, rfl, h2⟩
theorem twoRes_mk {l a M : List (List UInt8)} {p q : Hn.H} (h1 : Hn.apply l [p] = .ok a) (h2 : Hn.apply a [q] = .ok M) : twoRes l p q = (M, true) := by
  unfold twoRes
  rw [h1]; simp only; rw [h2]
theorem res_ok {A B a b : Hn.H} {c : Nat} {r : Except Nat (Hn.H × Hn.H)} (h : (A, B, c) = shRes r) (hr : r = .ok (a, b)) : A = a ∧ B = b ∧ c = 0 := by
  subst hr
  simpa [shRes] using h
theorem cast_ne' (c : Nat) (h : c ≠ 0) : (((c : Nat) : Int) == 0) = false := by
  have := cast_ne c h
  rw [bne, Bool.not_eq_true'] at this; exact this
theorem cast_same (c : Nat) : (((c : Nat) : Int) != (c : Int)) = false := by simp

theorem fine_swap {x : HA} (h : x.Fine) {vo vn : Value} : HA.Fine ⟨x.at_, vo, vn, x.new, x.old⟩ := ⟨⟨h.1.2, h.1.1⟩, ⟨h.2.1.2, h.2.1.1⟩, ⟨h.2.2.1, ⟨h.2.2.2.1.2, h.2.2.2.1.1⟩, h.2.2.2.2.2, h.2.2.2.2.1⟩⟩
/-- No error. -/
theorem ap_zero {l : List (List UInt8)} {hs : List Hn.H} {M : List (List UInt8)} (h : ApRes (Hn.apply l hs) M 0) : ∃ a, Hn.apply l hs = .ok a := by
  cases hr : Hn.apply l hs with
  | error c =>
    rw [hr] at h
    exact absurd h.2.symm (apply_code hr)
  | ok a => exact ⟨a, rfl⟩

set_option maxRecDepth 100000 in
set_option maxHeartbeats 32000000 in
theorem past_law (L : List (List UInt8)) (x y : HA) (v : Value) (w : World) (hrow : RowLow w.heap.size w v L) (hx : x.Low w.heap.size w) (hy : y.Low w.heap.size w) (lL : L.length ≤ 1000000000000000) (sL : ∀ s ∈ L, s.length ≤ 9223372036854775807) (fx : x.Fits) (fy : y.Fits) (mx : x.Mach) (my : y.Mach) :
    Calls Try.prog 5 #[v, x.val, y.val] w fun e w' => e = .returned (.bool true) ∧ Below w.heap.size w w' := by
  obtain ⟨X, hX⟩ : ∃ X, X = (w.alloc (.cells #[.int .i64 x.at_, x.vo, x.vn] 41)).alloc (.cells #[.int .i64 y.at_, y.vo, y.vn] 41) := ⟨_, rfl⟩
  have bX : Below w.heap.size w X := by rw [hX]; exact below_then (below_nw w _) (below_nw _ _)
  have x0 : HBox X w.heap.size x := by rw [hX]; exact (HBox.new w x).below (below_nw _ _)
  have x1 : HBox X (w.heap.size + 1) y := by
    have h := HBox.new (w.alloc (.cells #[.int .i64 x.at_, x.vo, x.vn] 41)) y
    rw [World.size_alloc] at h
    rw [hX]; exact h
  have G1 : Hid (∀ W, Below X.heap.size X W → _) := fun W hW => sgreat_any x y W.heap.size W ((hx.at bX).at hW) ((hy.at bX).at hW) (Nat.le_refl _) fx fy mx my
  have G2 : Hid (∀ W, Below X.heap.size X W → _) := fun W hW => textsOf_all L v W.heap.size W ((hrow.at bX).at hW) lL sL
  have HBX : Hid (∀ W, Below X.heap.size X W → x.Fine → y.Fine → Boxes W [(w.heap.size, x), (w.heap.size + 1, y)]) := fun W hW f1 f2 => .cons (x0.below hW) ((hx.at bX).at hW) f1 (.cons (x1.below hW) ((hy.at bX).at hW) f2 (.nil W))
  have HCC : Hid (∀ W, Below X.heap.size X W → (W.cell? ⟨w.heap.size, 0, none⟩ = some (.int .i64 x.at_) ∧ W.cell? ⟨w.heap.size, 1, none⟩ = some x.vo ∧ W.cell? ⟨w.heap.size, 2, none⟩ = some x.vn) ∧ (W.cell? ⟨w.heap.size + 1, 0, none⟩ = some (.int .i64 y.at_) ∧ W.cell? ⟨w.heap.size + 1, 1, none⟩ = some y.vo ∧ W.cell? ⟨w.heap.size + 1, 2, none⟩ = some y.vn)) := fun W hW => ⟨(x0.below hW).cells, (x1.below hW).cells⟩
  have BX : Hid (Below w.heap.size w X) := bX
  have FX : Hid (x.Fits ∧ y.Fits) := ⟨fx, fy⟩
  have ROW0 : Hid (RowLow X.heap.size X v L) := hrow.at bX
  obtain ⟨va, vc, vb, vd, rfl, -, -, -⟩ := hrow.parts
  obtain ⟨⟨xa1, xk1, e1⟩, ⟨xa2, xk2, e2⟩⟩ := hx.shape
  obtain ⟨⟨ya1, yk1, e3⟩, ⟨ya2, yk2, e4⟩⟩ := hy.shape
  obtain ⟨xp, xo, xn, X1, X2⟩ := x
  obtain ⟨yp, yo, yn, Y1, Y2⟩ := y
  simp only at e1 e2 e3 e4
  subst e1 e2 e3 e4
  clear hx hy hrow x0 x1 bX fx fy mx my lL sL
  simp only [HA.val] at hX G1 HCC ⊢
  refine (callsIn_wide (n := 3)).1 ?_
  refine callsIn_of_wp Try.func5 rfl trivial ?_ rfl
  simp only [Try.ntmps5, List.size_toArray, List.length_cons, List.length_nil, Nat.reduceAdd, Nat.reduceSub, Array.replicate_succ, Array.replicate_zero, List.push_toArray, List.append_toArray, List.nil_append, List.cons_append]
  gi_wp2_with fail
  rw [← hX]
  clear hX
  refine ⟨trivial, ?_⟩
  refine (callsIn_wide.2 (sawake_any X)).mono ?_
  rintro e w1 ⟨rfl, b1⟩
  obtain ⟨⟨c0, c1, c2⟩, ⟨c3, c4, c5⟩⟩ := HCC.out w1 b1
  have B1 : Hid (Below X.heap.size X w1) := b1
  have G3 : Hid (_) := G1.out w1 b1
  clear G1 b1
  gi_wp2_with fail
  refine ⟨trivial, ?_⟩
  refine (callsIn_wide.2 G3.out).mono ?_
  rintro e w2 ⟨r1, rfl, b2, hr1⟩
  have B2 : Hid (Below X.heap.size X w2) := below_then B1.out b2
  have HR1 : Hid (_) := hr1
  clear c0 c1 c2 c3 c4 c5 G3 b2 hr1 B1
  cases r1 with
  | true =>
    have BW : Hid (Below w.heap.size w w2) := below_then BX.out B2.out
    clear HR1 G2 HBX HCC
    gi_wp2_with fail
    refine ⟨trivial, ?_⟩
    gi_wp2
    exact bodyPost_ret (results_tmp rfl _ _ _) rfl ⟨rfl, BW.out⟩
  | false =>
    have G3 : Hid (_) := G2.out w2 B2.out
    clear G2
    gi_wp2_with fail
    refine ⟨trivial, ?_⟩
    refine (callsIn_wide.2 G3.out).mono ?_
    rintro e w3 ⟨r2, rfl, hw3, t1, t2, t3⟩
    have hw3' : w3 = w2 := hw3
    subst hw3'
    have HT1 : Hid (r2 ≤ 2000 → ∀ s ∈ L, s.length ≤ 16007) := t1
    clear G3 t1 hw3
    by_cases hr2 : 2000 < r2
    case pos =>
      have d1 : decide ((2000 : Int) < (r2 : Int)) = true := by simp; omega
      have d2 : decide (2000 < r2) = true := by simp; omega
      have BW : Hid (Below w.heap.size w w3) := below_then BX.out B2.out
      clear HR1 HBX HCC
      gi_wp2
      exact bodyPost_ret (results_tmp rfl _ _ _) rfl ⟨rfl, BW.out⟩
    case neg =>
      have d1 : decide ((2000 : Int) < (r2 : Int)) = false := by simp; omega
      have d2 : decide (2000 < r2) = false := by simp; omega
      obtain ⟨s1', s2, s3⟩ := HR1.out (by first | exact rfl | trivial)
      have s1 : X1.length + X2.length + Y1.length + Y2.length ≤ 2000 := s1'
      have BOX : Hid (Boxes w3 _) := HBX.out w3 B2.out (fine_short (by show X1.length + X2.length ≤ 2000; omega) s2 FX.out.1) (fine_short (by show Y1.length + Y2.length ≤ 2000; omega) s3 FX.out.2)
      have BW : Hid (Below w.heap.size w w3) := below_then BX.out B2.out
      have ROW : Hid (RowLow w3.heap.size w3 (.slice va L.length vc) L) := RowLow.at ROW0.out B2.out
      have LL : Hid (L.length ≤ 2000) := by show L.length ≤ 2000; omega
      have TRL : Hid (Trim L) := ⟨by omega, fun s hs => by have := HT1.out (by omega) s hs; omega⟩
      have SLP : Hid (HA.Slim ⟨xp, .slice xa1 X1.length xk1, .slice xa2 X2.length xk2, X1, X2⟩) := ⟨by show X1.length ≤ 2000; omega, by show X2.length ≤ 2000; omega⟩
      have SLQ : Hid (HA.Slim ⟨yp, .slice ya1 Y1.length yk1, .slice ya2 Y2.length yk2, Y1, Y2⟩) := ⟨by show Y1.length ≤ 2000; omega, by show Y2.length ≤ 2000; omega⟩
      clear s1 s1' s2 s3 HR1 HBX HCC FX B2 BX HT1 ROW0 t2 t3 hr2
      obtain ⟨fp0, fp1, fp2⟩ := HBox.cells (BOX.out (w.heap.size, ⟨xp, .slice xa1 X1.length xk1, .slice xa2 X2.length xk2, X1, X2⟩) (by simp)).1
      have fpl := HBox.lt (BOX.out (w.heap.size, ⟨xp, .slice xa1 X1.length xk1, .slice xa2 X2.length xk2, X1, X2⟩) (by simp)).1
      simp only at fp0 fp1 fp2 fpl
      obtain ⟨fq0, fq1, fq2⟩ := HBox.cells (BOX.out (w.heap.size + 1, ⟨yp, .slice ya1 Y1.length yk1, .slice ya2 Y2.length yk2, Y1, Y2⟩) (by simp)).1
      have fql := HBox.lt (BOX.out (w.heap.size + 1, ⟨yp, .slice ya1 Y1.length yk1, .slice ya2 Y2.length yk2, Y1, Y2⟩) (by simp)).1
      simp only at fq0 fq1 fq2 fql
      have fqm0 := Nat.lt_of_le_of_lt (show w.heap.size ≤ w.heap.size + 1 by omega) fql
      have CM : Hid (_) := commute_any ⟨xp, .slice xa1 X1.length xk1, .slice xa2 X2.length xk2, X1, X2⟩ ⟨yp, .slice ya1 Y1.length yk1, .slice ya2 Y2.length yk2, Y1, Y2⟩ w3.heap.size w3 (BOX.out (w.heap.size, ⟨xp, .slice xa1 X1.length xk1, .slice xa2 X2.length xk2, X1, X2⟩) (by simp)).2.1 (BOX.out (w.heap.size + 1, ⟨yp, .slice ya1 Y1.length yk1, .slice ya2 Y2.length yk2, Y1, Y2⟩) (by simp)).2.1 (Nat.le_refl _) (BOX.out (w.heap.size, ⟨xp, .slice xa1 X1.length xk1, .slice xa2 X2.length xk2, X1, X2⟩) (by simp)).2.2 (BOX.out (w.heap.size + 1, ⟨yp, .slice ya1 Y1.length yk1, .slice ya2 Y2.length yk2, Y1, Y2⟩) (by simp)).2.2
      simp only [HA.val] at CM
      gi_wp2_with fail
      refine ⟨trivial, ?_⟩
      refine (callsIn_wide.2 CM.out).mono ?_
      intro e t1 hp
      obtain ⟨p11, a11, c11, a12, c12, L11, L12, p12, a13, c13, a14, c14, L13, L14, n0, rfl, hres, lA, lB, bt⟩ := hp.parts
      have HR1 : Hid (_) := hres
      obtain ⟨fA, fB⟩ := commute_fine hres (BOX.out (w.heap.size, ⟨xp, .slice xa1 X1.length xk1, .slice xa2 X2.length xk2, X1, X2⟩) (by simp)).2.2 (BOX.out (w.heap.size + 1, ⟨yp, .slice ya1 Y1.length yk1, .slice ya2 Y2.length yk2, Y1, Y2⟩) (by simp)).2.2
      have SL1 : Hid (HA.Slim ⟨p11, .slice a11 L11.length c11, .slice a12 L12.length c12, L11, L12⟩ ∧ HA.Slim ⟨p12, .slice a13 L13.length c13, .slice a14 L14.length c14, L13, L14⟩) := commute_slim hres SLP.out SLQ.out
      have BOXt : Hid (Boxes t1 _) := Boxes.below BOX.out bt
      obtain ⟨V1, hV1, bV, BOX2⟩ := Boxes.two BOXt.out ⟨p11, .slice a11 L11.length c11, .slice a12 L12.length c12, L11, L12⟩ ⟨p12, .slice a13 L13.length c13, .slice a14 L14.length c14, L13, L14⟩ lA lB fA fB
      simp only at hV1
      have BW2 : Hid (Below w.heap.size w V1) := below_then BW.out (below_then bt bV)
      have ROW2 : Hid (RowLow V1.heap.size V1 (.slice va L.length vc) L) := RowLow.at ROW.out (below_then bt bV)
      clear fp0 fp1 fp2 fpl fq0 fq1 fq2 fql fqm0
      clear BOX BW ROW CM hp hres lA lB bt bV fA fB
      have BOX : Hid (Boxes V1 _) := BOX2
      have BW : Hid (Below w.heap.size w V1) := BW2.out
      have ROW : Hid (RowLow V1.heap.size V1 (.slice va L.length vc) L) := ROW2.out
      obtain ⟨fp0, fp1, fp2⟩ := HBox.cells (BOXt.out (w.heap.size, ⟨xp, .slice xa1 X1.length xk1, .slice xa2 X2.length xk2, X1, X2⟩) (by simp)).1
      have fpl := HBox.lt (BOXt.out (w.heap.size, ⟨xp, .slice xa1 X1.length xk1, .slice xa2 X2.length xk2, X1, X2⟩) (by simp)).1
      simp only at fp0 fp1 fp2 fpl
      obtain ⟨fq0, fq1, fq2⟩ := HBox.cells (BOXt.out (w.heap.size + 1, ⟨yp, .slice ya1 Y1.length yk1, .slice ya2 Y2.length yk2, Y1, Y2⟩) (by simp)).1
      have fql := HBox.lt (BOXt.out (w.heap.size + 1, ⟨yp, .slice ya1 Y1.length yk1, .slice ya2 Y2.length yk2, Y1, Y2⟩) (by simp)).1
      simp only at fq0 fq1 fq2 fql
      have fqm0 := Nat.lt_of_le_of_lt (show w.heap.size ≤ w.heap.size + 1 by omega) fql
      clear BOX2 BW2 BOXt ROW2
      by_cases hn0 : n0 = 0
      case neg =>
        have hb0 := cast_ne' n0 hn0
        clear HR1
        have CM : Hid (_) := merge_any ⟨xp, .slice xa1 X1.length xk1, .slice xa2 X2.length xk2, X1, X2⟩ ⟨yp, .slice ya1 Y1.length yk1, .slice ya2 Y2.length yk2, Y1, Y2⟩ V1.heap.size V1 (BOX.out (w.heap.size, ⟨xp, .slice xa1 X1.length xk1, .slice xa2 X2.length xk2, X1, X2⟩) (by simp)).2.1 (BOX.out (w.heap.size + 1, ⟨yp, .slice ya1 Y1.length yk1, .slice ya2 Y2.length yk2, Y1, Y2⟩) (by simp)).2.1 (Nat.le_refl _) (BOX.out (w.heap.size, ⟨xp, .slice xa1 X1.length xk1, .slice xa2 X2.length xk2, X1, X2⟩) (by simp)).2.2 (BOX.out (w.heap.size + 1, ⟨yp, .slice ya1 Y1.length yk1, .slice ya2 Y2.length yk2, Y1, Y2⟩) (by simp)).2.2
        simp only [HA.val] at CM
        gi_wp2_with fail
        rw [← hV1]
        clear hV1
        refine ⟨trivial, ?_⟩
        refine (callsIn_wide.2 CM.out).mono ?_
        intro e t11 hp
        obtain ⟨p111, a111, c111, a112, c112, L111, L112, p112, a113, c113, a114, c114, L113, L114, ng, rfl, hres, lA, lB, bt⟩ := hp.parts
        have HR11 : Hid (_) := hres
        obtain ⟨fA, fB⟩ := merge_fine hres (BOX.out (w.heap.size, ⟨xp, .slice xa1 X1.length xk1, .slice xa2 X2.length xk2, X1, X2⟩) (by simp)).2.2 (BOX.out (w.heap.size + 1, ⟨yp, .slice ya1 Y1.length yk1, .slice ya2 Y2.length yk2, Y1, Y2⟩) (by simp)).2.2
        have SL11 : Hid (HA.Slim ⟨p111, .slice a111 L111.length c111, .slice a112 L112.length c112, L111, L112⟩ ∧ HA.Slim ⟨p112, .slice a113 L113.length c113, .slice a114 L114.length c114, L113, L114⟩) := merge_slim hres SLP.out SLQ.out
        have BOXt : Hid (Boxes t11 _) := Boxes.below BOX.out bt
        obtain ⟨V11, hV11, bV, BOX2⟩ := Boxes.two BOXt.out ⟨p111, .slice a111 L111.length c111, .slice a112 L112.length c112, L111, L112⟩ ⟨p112, .slice a113 L113.length c113, .slice a114 L114.length c114, L113, L114⟩ lA lB fA fB
        simp only at hV11
        have BW2 : Hid (Below w.heap.size w V11) := below_then BW.out (below_then bt bV)
        have ROW2 : Hid (RowLow V11.heap.size V11 (.slice va L.length vc) L) := RowLow.at ROW.out (below_then bt bV)
        clear fp0 fp1 fp2 fpl fq0 fq1 fq2 fql fqm0
        clear BOX BW ROW CM hp hres lA lB bt bV fA fB
        have BOX : Hid (Boxes V11 _) := BOX2
        have BW : Hid (Below w.heap.size w V11) := BW2.out
        have ROW : Hid (RowLow V11.heap.size V11 (.slice va L.length vc) L) := ROW2.out
        obtain ⟨fq0, fq1, fq2⟩ := HBox.cells (BOXt.out (w.heap.size + 1, ⟨yp, .slice ya1 Y1.length yk1, .slice ya2 Y2.length yk2, Y1, Y2⟩) (by simp)).1
        have fql := HBox.lt (BOXt.out (w.heap.size + 1, ⟨yp, .slice ya1 Y1.length yk1, .slice ya2 Y2.length yk2, Y1, Y2⟩) (by simp)).1
        simp only at fq0 fq1 fq2 fql
        have fqm0 := Nat.lt_of_le_of_lt (show w.heap.size ≤ w.heap.size + 1 by omega) fql
        obtain ⟨fp0, fp1, fp2⟩ := HBox.cells (BOXt.out (w.heap.size, ⟨xp, .slice xa1 X1.length xk1, .slice xa2 X2.length xk2, X1, X2⟩) (by simp)).1
        have fpl := HBox.lt (BOXt.out (w.heap.size, ⟨xp, .slice xa1 X1.length xk1, .slice xa2 X2.length xk2, X1, X2⟩) (by simp)).1
        simp only at fp0 fp1 fp2 fpl
        clear BOX2 BW2 BOXt ROW2
        have CM : Hid (_) := merge_any ⟨yp, .slice ya1 Y1.length yk1, .slice ya2 Y2.length yk2, Y1, Y2⟩ ⟨xp, .slice xa1 X1.length xk1, .slice xa2 X2.length xk2, X1, X2⟩ V11.heap.size V11 (BOX.out (w.heap.size + 1, ⟨yp, .slice ya1 Y1.length yk1, .slice ya2 Y2.length yk2, Y1, Y2⟩) (by simp)).2.1 (BOX.out (w.heap.size, ⟨xp, .slice xa1 X1.length xk1, .slice xa2 X2.length xk2, X1, X2⟩) (by simp)).2.1 (Nat.le_refl _) (BOX.out (w.heap.size + 1, ⟨yp, .slice ya1 Y1.length yk1, .slice ya2 Y2.length yk2, Y1, Y2⟩) (by simp)).2.2 (BOX.out (w.heap.size, ⟨xp, .slice xa1 X1.length xk1, .slice xa2 X2.length xk2, X1, X2⟩) (by simp)).2.2
        simp only [HA.val] at CM
        gi_wp2_with fail
        rw [← hV11]
        clear hV11
        refine ⟨trivial, ?_⟩
        refine (callsIn_wide.2 CM.out).mono ?_
        intro e t12 hp
        obtain ⟨p121, a121, c121, a122, c122, L121, L122, p122, a123, c123, a124, c124, L123, L124, nh, rfl, hres, lA, lB, bt⟩ := hp.parts
        have HR12 : Hid (_) := hres
        obtain ⟨fA, fB⟩ := merge_fine hres (BOX.out (w.heap.size + 1, ⟨yp, .slice ya1 Y1.length yk1, .slice ya2 Y2.length yk2, Y1, Y2⟩) (by simp)).2.2 (BOX.out (w.heap.size, ⟨xp, .slice xa1 X1.length xk1, .slice xa2 X2.length xk2, X1, X2⟩) (by simp)).2.2
        have BOXt : Hid (Boxes t12 _) := Boxes.below BOX.out bt
        obtain ⟨V12, hV12, bV, BOX2⟩ := Boxes.two BOXt.out ⟨p121, .slice a121 L121.length c121, .slice a122 L122.length c122, L121, L122⟩ ⟨p122, .slice a123 L123.length c123, .slice a124 L124.length c124, L123, L124⟩ lA lB fA fB
        simp only at hV12
        have BW2 : Hid (Below w.heap.size w V12) := below_then BW.out (below_then bt bV)
        have ROW2 : Hid (RowLow V12.heap.size V12 (.slice va L.length vc) L) := RowLow.at ROW.out (below_then bt bV)
        clear fq0 fq1 fq2 fql fqm0 fp0 fp1 fp2 fpl
        clear BOX BW ROW CM hp hres lA lB bt bV fA fB
        have BOX : Hid (Boxes V12 _) := BOX2
        have BW : Hid (Below w.heap.size w V12) := BW2.out
        have ROW : Hid (RowLow V12.heap.size V12 (.slice va L.length vc) L) := ROW2.out
        obtain ⟨fp0, fp1, fp2⟩ := HBox.cells (BOXt.out (w.heap.size, ⟨xp, .slice xa1 X1.length xk1, .slice xa2 X2.length xk2, X1, X2⟩) (by simp)).1
        have fpl := HBox.lt (BOXt.out (w.heap.size, ⟨xp, .slice xa1 X1.length xk1, .slice xa2 X2.length xk2, X1, X2⟩) (by simp)).1
        simp only at fp0 fp1 fp2 fpl
        obtain ⟨fq0, fq1, fq2⟩ := HBox.cells (BOXt.out (w.heap.size + 1, ⟨yp, .slice ya1 Y1.length yk1, .slice ya2 Y2.length yk2, Y1, Y2⟩) (by simp)).1
        have fql := HBox.lt (BOXt.out (w.heap.size + 1, ⟨yp, .slice ya1 Y1.length yk1, .slice ya2 Y2.length yk2, Y1, Y2⟩) (by simp)).1
        simp only at fq0 fq1 fq2 fql
        have fqm0 := Nat.lt_of_le_of_lt (show w.heap.size ≤ w.heap.size + 1 by omega) fql
        obtain ⟨fs0, fs1, fs2⟩ := HBox.cells (BOXt.out (t11.heap.size, ⟨p111, .slice a111 L111.length c111, .slice a112 L112.length c112, L111, L112⟩) (by simp)).1
        have fsl := HBox.lt (BOXt.out (t11.heap.size, ⟨p111, .slice a111 L111.length c111, .slice a112 L112.length c112, L111, L112⟩) (by simp)).1
        simp only at fs0 fs1 fs2 fsl
        obtain ⟨ft0, ft1, ft2⟩ := HBox.cells (BOXt.out (t11.heap.size + 1, ⟨p112, .slice a113 L113.length c113, .slice a114 L114.length c114, L113, L114⟩) (by simp)).1
        have ftl := HBox.lt (BOXt.out (t11.heap.size + 1, ⟨p112, .slice a113 L113.length c113, .slice a114 L114.length c114, L113, L114⟩) (by simp)).1
        simp only at ft0 ft1 ft2 ftl
        have ftm0 := Nat.lt_of_le_of_lt (show t11.heap.size ≤ t11.heap.size + 1 by omega) ftl
        clear BOX2 BW2 BOXt ROW2
        obtain ⟨hgh, hu, hv⟩ := flip_res HR11.out HR12.out
        subst hgh
        have HUV : Hid (_ ∧ _) := ⟨hu, hv⟩
        clear hu hv HR12
        have hsame := cast_same nh
        by_cases hg : nh = 0
        case neg =>
          have hg1 := cast_ne' nh hg
          have hg2 := cast_ne nh hg
          clear HR11 HUV
          gi_wp2_with fail
          refine ⟨trivial, ?_⟩
          have SV : Hid (V12.heap.size = t12.heap.size + 1 + 1) := by
            show V12.heap.size = t12.heap.size + 1 + 1
            rw [hV12]; simp
          have AP : Hid (_) := apply_hunk L ⟨xp, .slice xa1 X1.length xk1, .slice xa2 X2.length xk2, X1, X2⟩ _ V12 ROW.out (BOX.out (w.heap.size, ⟨xp, .slice xa1 X1.length xk1, .slice xa2 X2.length xk2, X1, X2⟩) (by simp)).2.1 (BOX.out (w.heap.size, ⟨xp, .slice xa1 X1.length xk1, .slice xa2 X2.length xk2, X1, X2⟩) (by simp)).2.2 SLP.out TRL.out
          have BNN : Hid (Below V12.heap.size V12 _) := below_nw V12 (.cells #[.int .i64 (HA.at_ ⟨xp, .slice xa1 X1.length xk1, .slice xa2 X2.length xk2, X1, X2⟩), (HA.vo ⟨xp, .slice xa1 X1.length xk1, .slice xa2 X2.length xk2, X1, X2⟩), (HA.vn ⟨xp, .slice xa1 X1.length xk1, .slice xa2 X2.length xk2, X1, X2⟩)] 41)
          simp only at AP BNN
          gi_wp2_with fail
          rw [← hV12]
          rw [← SV.out]
          clear hV12
          refine ⟨trivial, ?_⟩
          refine (callsIn_wide.2 AP.out).mono ?_
          intro e y1 hp
          obtain ⟨qa1, qc1, N1, n1, rfl, -, hN, by0⟩ := hp.parts
          have HN1 : Hid (ApRes _ N1 n1) := hN
          have by1 := below_then BNN.out by0
          clear hp hN by0 AP BNN
          have BOX2 : Hid (Boxes y1 _) := Boxes.below BOX.out by1
          have BW2 : Hid (Below w.heap.size w y1) := below_then BW.out by1
          have ROW2 : Hid (RowLow y1.heap.size y1 (.slice va L.length vc) L) := RowLow.at ROW.out by1
          clear fp0 fp1 fp2 fpl fq0 fq1 fq2 fql fqm0 fs0 fs1 fs2 fsl ft0 ft1 ft2 ftl ftm0
          clear BOX BW ROW by1
          have BOX : Hid (Boxes y1 _) := BOX2
          have BW : Hid (Below w.heap.size w y1) := BW2.out
          have ROW : Hid (RowLow y1.heap.size y1 (.slice va L.length vc) L) := ROW2.out
          obtain ⟨fp0, fp1, fp2⟩ := HBox.cells (BOX.out (w.heap.size, ⟨xp, .slice xa1 X1.length xk1, .slice xa2 X2.length xk2, X1, X2⟩) (by simp)).1
          have fpl := HBox.lt (BOX.out (w.heap.size, ⟨xp, .slice xa1 X1.length xk1, .slice xa2 X2.length xk2, X1, X2⟩) (by simp)).1
          simp only at fp0 fp1 fp2 fpl
          obtain ⟨fq0, fq1, fq2⟩ := HBox.cells (BOX.out (w.heap.size + 1, ⟨yp, .slice ya1 Y1.length yk1, .slice ya2 Y2.length yk2, Y1, Y2⟩) (by simp)).1
          have fql := HBox.lt (BOX.out (w.heap.size + 1, ⟨yp, .slice ya1 Y1.length yk1, .slice ya2 Y2.length yk2, Y1, Y2⟩) (by simp)).1
          simp only at fq0 fq1 fq2 fql
          have fqm0 := Nat.lt_of_le_of_lt (show w.heap.size ≤ w.heap.size + 1 by omega) fql
          clear BOX2 BW2 ROW2
          have AP : Hid (_) := apply_hunk L ⟨yp, .slice ya1 Y1.length yk1, .slice ya2 Y2.length yk2, Y1, Y2⟩ _ y1 ROW.out (BOX.out (w.heap.size + 1, ⟨yp, .slice ya1 Y1.length yk1, .slice ya2 Y2.length yk2, Y1, Y2⟩) (by simp)).2.1 (BOX.out (w.heap.size + 1, ⟨yp, .slice ya1 Y1.length yk1, .slice ya2 Y2.length yk2, Y1, Y2⟩) (by simp)).2.2 SLQ.out TRL.out
          have BNN : Hid (Below y1.heap.size y1 _) := below_nw y1 (.cells #[.int .i64 (HA.at_ ⟨yp, .slice ya1 Y1.length yk1, .slice ya2 Y2.length yk2, Y1, Y2⟩), (HA.vo ⟨yp, .slice ya1 Y1.length yk1, .slice ya2 Y2.length yk2, Y1, Y2⟩), (HA.vn ⟨yp, .slice ya1 Y1.length yk1, .slice ya2 Y2.length yk2, Y1, Y2⟩)] 41)
          simp only at AP BNN
          gi_wp2_with fail
          refine ⟨trivial, ?_⟩
          refine (callsIn_wide.2 AP.out).mono ?_
          intro e y2 hp
          obtain ⟨qa2, qc2, N2, n2, rfl, -, hN, by0⟩ := hp.parts
          have HN2 : Hid (ApRes _ N2 n2) := hN
          have by2 := below_then BNN.out by0
          clear hp hN by0 AP BNN
          have BOX2 : Hid (Boxes y2 _) := Boxes.below BOX.out by2
          have BW2 : Hid (Below w.heap.size w y2) := below_then BW.out by2
          have ROW2 : Hid (RowLow y2.heap.size y2 (.slice va L.length vc) L) := RowLow.at ROW.out by2
          clear fp0 fp1 fp2 fpl fq0 fq1 fq2 fql fqm0
          clear BOX BW ROW by2
          have BOX : Hid (Boxes y2 _) := BOX2
          have BW : Hid (Below w.heap.size w y2) := BW2.out
          have ROW : Hid (RowLow y2.heap.size y2 (.slice va L.length vc) L) := ROW2.out
          obtain ⟨fp0, fp1, fp2⟩ := HBox.cells (BOX.out (w.heap.size, ⟨xp, .slice xa1 X1.length xk1, .slice xa2 X2.length xk2, X1, X2⟩) (by simp)).1
          have fpl := HBox.lt (BOX.out (w.heap.size, ⟨xp, .slice xa1 X1.length xk1, .slice xa2 X2.length xk2, X1, X2⟩) (by simp)).1
          simp only at fp0 fp1 fp2 fpl
          clear BOX2 BW2 ROW2
          gi_wp2
          exact bodyPost_ret (results_tmp rfl _ _ _) rfl ⟨rfl, BW.out⟩
        case pos =>
          subst hg
          have TL : Hid (_) := tells_yes ⟨p121, .slice a121 L121.length c121, .slice a122 L122.length c122, L121, L122⟩ ⟨p122, .slice a123 L123.length c123, .slice a124 L124.length c124, L123, L124⟩ ⟨p112, .slice a113 L113.length c113, .slice a114 L114.length c114, L113, L114⟩ ⟨p111, .slice a111 L111.length c111, .slice a112 L112.length c112, L111, L112⟩ V12.heap.size V12 (BOX.out (t12.heap.size, ⟨p121, .slice a121 L121.length c121, .slice a122 L122.length c122, L121, L122⟩) (by simp)).2.1 (BOX.out (t12.heap.size + 1, ⟨p122, .slice a123 L123.length c123, .slice a124 L124.length c124, L123, L124⟩) (by simp)).2.1 (BOX.out (t11.heap.size + 1, ⟨p112, .slice a113 L113.length c113, .slice a114 L114.length c114, L113, L114⟩) (by simp)).2.1 (BOX.out (t11.heap.size, ⟨p111, .slice a111 L111.length c111, .slice a112 L112.length c112, L111, L112⟩) (by simp)).2.1 (Nat.le_refl _) HUV.out.1 HUV.out.2 (BOX.out (t12.heap.size, ⟨p121, .slice a121 L121.length c121, .slice a122 L122.length c122, L121, L122⟩) (by simp)).2.2.1 (BOX.out (t12.heap.size + 1, ⟨p122, .slice a123 L123.length c123, .slice a124 L124.length c124, L123, L124⟩) (by simp)).2.2.1
          simp only [HA.val] at TL
          gi_wp2_with fail
          rw [← hV12]
          clear hV12
          refine ⟨trivial, ?_⟩
          refine (callsIn_wide.2 TL.out).mono ?_
          rintro e s7 ⟨rfl, bs⟩
          have BOX2 : Hid (Boxes s7 _) := Boxes.below BOX.out bs
          have BW2 : Hid (Below w.heap.size w s7) := below_then BW.out bs
          have ROW2 : Hid (RowLow s7.heap.size s7 (.slice va L.length vc) L) := RowLow.at ROW.out bs
          clear TL
          clear fp0 fp1 fp2 fpl fq0 fq1 fq2 fql fqm0 fs0 fs1 fs2 fsl ft0 ft1 ft2 ftl ftm0
          clear BOX BW ROW bs
          have BOX : Hid (Boxes s7 _) := BOX2
          have BW : Hid (Below w.heap.size w s7) := BW2.out
          have ROW : Hid (RowLow s7.heap.size s7 (.slice va L.length vc) L) := ROW2.out
          obtain ⟨fp0, fp1, fp2⟩ := HBox.cells (BOX.out (w.heap.size, ⟨xp, .slice xa1 X1.length xk1, .slice xa2 X2.length xk2, X1, X2⟩) (by simp)).1
          have fpl := HBox.lt (BOX.out (w.heap.size, ⟨xp, .slice xa1 X1.length xk1, .slice xa2 X2.length xk2, X1, X2⟩) (by simp)).1
          simp only at fp0 fp1 fp2 fpl
          obtain ⟨fq0, fq1, fq2⟩ := HBox.cells (BOX.out (w.heap.size + 1, ⟨yp, .slice ya1 Y1.length yk1, .slice ya2 Y2.length yk2, Y1, Y2⟩) (by simp)).1
          have fql := HBox.lt (BOX.out (w.heap.size + 1, ⟨yp, .slice ya1 Y1.length yk1, .slice ya2 Y2.length yk2, Y1, Y2⟩) (by simp)).1
          simp only at fq0 fq1 fq2 fql
          have fqm0 := Nat.lt_of_le_of_lt (show w.heap.size ≤ w.heap.size + 1 by omega) fql
          clear BOX2 BW2 ROW2
          have AP : Hid (_) := apply_hunk L ⟨xp, .slice xa1 X1.length xk1, .slice xa2 X2.length xk2, X1, X2⟩ _ s7 ROW.out (BOX.out (w.heap.size, ⟨xp, .slice xa1 X1.length xk1, .slice xa2 X2.length xk2, X1, X2⟩) (by simp)).2.1 (BOX.out (w.heap.size, ⟨xp, .slice xa1 X1.length xk1, .slice xa2 X2.length xk2, X1, X2⟩) (by simp)).2.2 SLP.out TRL.out
          have BNN : Hid (Below s7.heap.size s7 _) := below_nw s7 (.cells #[.int .i64 (HA.at_ ⟨xp, .slice xa1 X1.length xk1, .slice xa2 X2.length xk2, X1, X2⟩), (HA.vo ⟨xp, .slice xa1 X1.length xk1, .slice xa2 X2.length xk2, X1, X2⟩), (HA.vn ⟨xp, .slice xa1 X1.length xk1, .slice xa2 X2.length xk2, X1, X2⟩)] 41)
          simp only at AP BNN
          gi_wp2_with fail
          refine ⟨trivial, ?_⟩
          refine (callsIn_wide.2 AP.out).mono ?_
          intro e y1 hp
          obtain ⟨qa1, qc1, N1, n1, rfl, -, hN, by0⟩ := hp.parts
          have HN1 : Hid (ApRes _ N1 n1) := hN
          have by1 := below_then BNN.out by0
          clear hp hN by0 AP BNN
          have BOX2 : Hid (Boxes y1 _) := Boxes.below BOX.out by1
          have BW2 : Hid (Below w.heap.size w y1) := below_then BW.out by1
          have ROW2 : Hid (RowLow y1.heap.size y1 (.slice va L.length vc) L) := RowLow.at ROW.out by1
          clear fp0 fp1 fp2 fpl fq0 fq1 fq2 fql fqm0
          clear BOX BW ROW by1
          have BOX : Hid (Boxes y1 _) := BOX2
          have BW : Hid (Below w.heap.size w y1) := BW2.out
          have ROW : Hid (RowLow y1.heap.size y1 (.slice va L.length vc) L) := ROW2.out
          obtain ⟨fp0, fp1, fp2⟩ := HBox.cells (BOX.out (w.heap.size, ⟨xp, .slice xa1 X1.length xk1, .slice xa2 X2.length xk2, X1, X2⟩) (by simp)).1
          have fpl := HBox.lt (BOX.out (w.heap.size, ⟨xp, .slice xa1 X1.length xk1, .slice xa2 X2.length xk2, X1, X2⟩) (by simp)).1
          simp only at fp0 fp1 fp2 fpl
          obtain ⟨fq0, fq1, fq2⟩ := HBox.cells (BOX.out (w.heap.size + 1, ⟨yp, .slice ya1 Y1.length yk1, .slice ya2 Y2.length yk2, Y1, Y2⟩) (by simp)).1
          have fql := HBox.lt (BOX.out (w.heap.size + 1, ⟨yp, .slice ya1 Y1.length yk1, .slice ya2 Y2.length yk2, Y1, Y2⟩) (by simp)).1
          simp only at fq0 fq1 fq2 fql
          have fqm0 := Nat.lt_of_le_of_lt (show w.heap.size ≤ w.heap.size + 1 by omega) fql
          clear BOX2 BW2 ROW2
          have AP : Hid (_) := apply_hunk L ⟨yp, .slice ya1 Y1.length yk1, .slice ya2 Y2.length yk2, Y1, Y2⟩ _ y1 ROW.out (BOX.out (w.heap.size + 1, ⟨yp, .slice ya1 Y1.length yk1, .slice ya2 Y2.length yk2, Y1, Y2⟩) (by simp)).2.1 (BOX.out (w.heap.size + 1, ⟨yp, .slice ya1 Y1.length yk1, .slice ya2 Y2.length yk2, Y1, Y2⟩) (by simp)).2.2 SLQ.out TRL.out
          have BNN : Hid (Below y1.heap.size y1 _) := below_nw y1 (.cells #[.int .i64 (HA.at_ ⟨yp, .slice ya1 Y1.length yk1, .slice ya2 Y2.length yk2, Y1, Y2⟩), (HA.vo ⟨yp, .slice ya1 Y1.length yk1, .slice ya2 Y2.length yk2, Y1, Y2⟩), (HA.vn ⟨yp, .slice ya1 Y1.length yk1, .slice ya2 Y2.length yk2, Y1, Y2⟩)] 41)
          simp only at AP BNN
          gi_wp2_with fail
          refine ⟨trivial, ?_⟩
          refine (callsIn_wide.2 AP.out).mono ?_
          intro e y2 hp
          obtain ⟨qa2, qc2, N2, n2, rfl, -, hN, by0⟩ := hp.parts
          have HN2 : Hid (ApRes _ N2 n2) := hN
          have by2 := below_then BNN.out by0
          clear hp hN by0 AP BNN
          have BOX2 : Hid (Boxes y2 _) := Boxes.below BOX.out by2
          have BW2 : Hid (Below w.heap.size w y2) := below_then BW.out by2
          have ROW2 : Hid (RowLow y2.heap.size y2 (.slice va L.length vc) L) := RowLow.at ROW.out by2
          clear fp0 fp1 fp2 fpl fq0 fq1 fq2 fql fqm0
          clear BOX BW ROW by2
          have BOX : Hid (Boxes y2 _) := BOX2
          have BW : Hid (Below w.heap.size w y2) := BW2.out
          have ROW : Hid (RowLow y2.heap.size y2 (.slice va L.length vc) L) := ROW2.out
          obtain ⟨fp0, fp1, fp2⟩ := HBox.cells (BOX.out (w.heap.size, ⟨xp, .slice xa1 X1.length xk1, .slice xa2 X2.length xk2, X1, X2⟩) (by simp)).1
          have fpl := HBox.lt (BOX.out (w.heap.size, ⟨xp, .slice xa1 X1.length xk1, .slice xa2 X2.length xk2, X1, X2⟩) (by simp)).1
          simp only at fp0 fp1 fp2 fpl
          obtain ⟨ft0, ft1, ft2⟩ := HBox.cells (BOX.out (t11.heap.size + 1, ⟨p112, .slice a113 L113.length c113, .slice a114 L114.length c114, L113, L114⟩) (by simp)).1
          have ftl := HBox.lt (BOX.out (t11.heap.size + 1, ⟨p112, .slice a113 L113.length c113, .slice a114 L114.length c114, L113, L114⟩) (by simp)).1
          simp only at ft0 ft1 ft2 ftl
          have ftm0 := Nat.lt_of_le_of_lt (show t11.heap.size ≤ t11.heap.size + 1 by omega) ftl
          clear BOX2 BW2 ROW2
          by_cases hm1 : n1 = 0
          case neg =>
            have hm2 := cast_ne n1 hm1
            gi_wp2
            exact bodyPost_ret (results_tmp rfl _ _ _) rfl ⟨rfl, BW.out⟩
          subst hm1
          by_cases hm3 : n2 = 0
          case neg =>
            have hm4 := cast_ne n2 hm3
            gi_wp2
            exact bodyPost_ret (results_tmp rfl _ _ _) rfl ⟨rfl, BW.out⟩
          subst hm3
          have hmr := shRes_zero_m HR11.out
          obtain ⟨y1, hy1⟩ : ∃ y1, Hn.apply L [HA.h ⟨xp, .slice xa1 X1.length xk1, .slice xa2 X2.length xk2, X1, X2⟩] = .ok y1 := ap_zero HN1.out
          obtain ⟨z1, hz1⟩ : ∃ z1, Hn.apply L [HA.h ⟨yp, .slice ya1 Y1.length yk1, .slice ya2 Y2.length yk2, Y1, Y2⟩] = .ok z1 := ap_zero HN2.out
          obtain ⟨XX, hxx1, hxx2⟩ := Hn.merge_apply hmr hy1 hz1
          have HT1 : Hid (twoRes L _ _ = (XX, true)) := twoRes_mk hy1 hxx1
          have HT2 : Hid (twoRes L _ _ = (XX, true)) := twoRes_mk hz1 hxx2
          have HCC : Hid (_) := Hn.merge_commute hmr
          clear hmr hy1 hz1 hxx1 hxx2 HN1 HN2 HUV HR11
          have TW : Hid (_) := two_any L ⟨xp, .slice xa1 X1.length xk1, .slice xa2 X2.length xk2, X1, X2⟩ ⟨p112, .slice a113 L113.length c113, .slice a114 L114.length c114, L113, L114⟩ _ y2 ROW.out (BOX.out (w.heap.size, ⟨xp, .slice xa1 X1.length xk1, .slice xa2 X2.length xk2, X1, X2⟩) (by simp)).2.1 (BOX.out (t11.heap.size + 1, ⟨p112, .slice a113 L113.length c113, .slice a114 L114.length c114, L113, L114⟩) (by simp)).2.1 (BOX.out (w.heap.size, ⟨xp, .slice xa1 X1.length xk1, .slice xa2 X2.length xk2, X1, X2⟩) (by simp)).2.2 (BOX.out (t11.heap.size + 1, ⟨p112, .slice a113 L113.length c113, .slice a114 L114.length c114, L113, L114⟩) (by simp)).2.2 SLP.out SL11.out.2 TRL.out (by have := LL.out; omega)
          simp only [HA.val] at TW
          gi_wp2_with fail
          refine ⟨trivial, ?_⟩
          refine (callsIn_wide.2 TW.out).mono ?_
          rintro e m8 ⟨ra8, rc8, M8, ok8, rfl, hm, rw, tm, lm, bm⟩
          have HM8 : Hid (_) := hm
          have RW8 : Hid (RowLow m8.heap.size m8 (.slice ra8 M8.length rc8) M8) := rw
          have TM8 : Hid (Trim M8 ∧ M8.length ≤ L.length + 4000) := ⟨tm, lm⟩
          clear hm rw tm lm TW
          have hh8 := HM8.out.trans HT1.out
          simp only [Prod.mk.injEq] at hh8
          obtain ⟨hm8, rfl⟩ := hh8
          subst hm8
          clear HM8 HT1
          have BOX2 : Hid (Boxes m8 _) := Boxes.below BOX.out bm
          have BW2 : Hid (Below w.heap.size w m8) := below_then BW.out bm
          have ROW2 : Hid (RowLow m8.heap.size m8 (.slice va L.length vc) L) := RowLow.at ROW.out bm
          clear fp0 fp1 fp2 fpl ft0 ft1 ft2 ftl ftm0
          clear BOX BW ROW bm
          have BOX : Hid (Boxes m8 _) := BOX2
          have BW : Hid (Below w.heap.size w m8) := BW2.out
          have ROW : Hid (RowLow m8.heap.size m8 (.slice va L.length vc) L) := ROW2.out
          obtain ⟨fq0, fq1, fq2⟩ := HBox.cells (BOX.out (w.heap.size + 1, ⟨yp, .slice ya1 Y1.length yk1, .slice ya2 Y2.length yk2, Y1, Y2⟩) (by simp)).1
          have fql := HBox.lt (BOX.out (w.heap.size + 1, ⟨yp, .slice ya1 Y1.length yk1, .slice ya2 Y2.length yk2, Y1, Y2⟩) (by simp)).1
          simp only at fq0 fq1 fq2 fql
          have fqm0 := Nat.lt_of_le_of_lt (show w.heap.size ≤ w.heap.size + 1 by omega) fql
          obtain ⟨fs0, fs1, fs2⟩ := HBox.cells (BOX.out (t11.heap.size, ⟨p111, .slice a111 L111.length c111, .slice a112 L112.length c112, L111, L112⟩) (by simp)).1
          have fsl := HBox.lt (BOX.out (t11.heap.size, ⟨p111, .slice a111 L111.length c111, .slice a112 L112.length c112, L111, L112⟩) (by simp)).1
          simp only at fs0 fs1 fs2 fsl
          clear BOX2 BW2 ROW2
          have TW : Hid (_) := two_any L ⟨yp, .slice ya1 Y1.length yk1, .slice ya2 Y2.length yk2, Y1, Y2⟩ ⟨p111, .slice a111 L111.length c111, .slice a112 L112.length c112, L111, L112⟩ _ m8 ROW.out (BOX.out (w.heap.size + 1, ⟨yp, .slice ya1 Y1.length yk1, .slice ya2 Y2.length yk2, Y1, Y2⟩) (by simp)).2.1 (BOX.out (t11.heap.size, ⟨p111, .slice a111 L111.length c111, .slice a112 L112.length c112, L111, L112⟩) (by simp)).2.1 (BOX.out (w.heap.size + 1, ⟨yp, .slice ya1 Y1.length yk1, .slice ya2 Y2.length yk2, Y1, Y2⟩) (by simp)).2.2 (BOX.out (t11.heap.size, ⟨p111, .slice a111 L111.length c111, .slice a112 L112.length c112, L111, L112⟩) (by simp)).2.2 SLQ.out SL11.out.1 TRL.out (by have := LL.out; omega)
          simp only [HA.val] at TW
          gi_wp2_with fail
          refine ⟨trivial, ?_⟩
          refine (callsIn_wide.2 TW.out).mono ?_
          rintro e m9 ⟨ra9, rc9, M9, ok9, rfl, hm, rw, tm, lm, bm⟩
          have HM9 : Hid (_) := hm
          have RW9 : Hid (RowLow m9.heap.size m9 (.slice ra9 M9.length rc9) M9) := rw
          have TM9 : Hid (Trim M9 ∧ M9.length ≤ L.length + 4000) := ⟨tm, lm⟩
          clear hm rw tm lm TW
          have hh9 := HM9.out.trans HT2.out
          simp only [Prod.mk.injEq] at hh9
          obtain ⟨hm9, rfl⟩ := hh9
          subst hm9
          have R89 : Hid (_) := RowLow.at RW8.out bm
          clear HM9 HT2 RW8
          have BOX2 : Hid (Boxes m9 _) := Boxes.below BOX.out bm
          have BW2 : Hid (Below w.heap.size w m9) := below_then BW.out bm
          have ROW2 : Hid (RowLow m9.heap.size m9 (.slice va L.length vc) L) := RowLow.at ROW.out bm
          clear fq0 fq1 fq2 fql fqm0 fs0 fs1 fs2 fsl
          clear BOX BW ROW bm
          have BOX : Hid (Boxes m9 _) := BOX2
          have BW : Hid (Below w.heap.size w m9) := BW2.out
          have ROW : Hid (RowLow m9.heap.size m9 (.slice va L.length vc) L) := ROW2.out
          obtain ⟨fp0, fp1, fp2⟩ := HBox.cells (BOX.out (w.heap.size, ⟨xp, .slice xa1 X1.length xk1, .slice xa2 X2.length xk2, X1, X2⟩) (by simp)).1
          have fpl := HBox.lt (BOX.out (w.heap.size, ⟨xp, .slice xa1 X1.length xk1, .slice xa2 X2.length xk2, X1, X2⟩) (by simp)).1
          simp only at fp0 fp1 fp2 fpl
          obtain ⟨ft0, ft1, ft2⟩ := HBox.cells (BOX.out (t11.heap.size + 1, ⟨p112, .slice a113 L113.length c113, .slice a114 L114.length c114, L113, L114⟩) (by simp)).1
          have ftl := HBox.lt (BOX.out (t11.heap.size + 1, ⟨p112, .slice a113 L113.length c113, .slice a114 L114.length c114, L113, L114⟩) (by simp)).1
          simp only at ft0 ft1 ft2 ftl
          have ftm0 := Nat.lt_of_le_of_lt (show t11.heap.size ≤ t11.heap.size + 1 by omega) ftl
          clear BOX2 BW2 ROW2
          have CM : Hid (_) := commute_any ⟨xp, .slice xa1 X1.length xk1, .slice xa2 X2.length xk2, X1, X2⟩ ⟨p112, .slice a113 L113.length c113, .slice a114 L114.length c114, L113, L114⟩ m9.heap.size m9 (BOX.out (w.heap.size, ⟨xp, .slice xa1 X1.length xk1, .slice xa2 X2.length xk2, X1, X2⟩) (by simp)).2.1 (BOX.out (t11.heap.size + 1, ⟨p112, .slice a113 L113.length c113, .slice a114 L114.length c114, L113, L114⟩) (by simp)).2.1 (Nat.le_refl _) (BOX.out (w.heap.size, ⟨xp, .slice xa1 X1.length xk1, .slice xa2 X2.length xk2, X1, X2⟩) (by simp)).2.2 (BOX.out (t11.heap.size + 1, ⟨p112, .slice a113 L113.length c113, .slice a114 L114.length c114, L113, L114⟩) (by simp)).2.2
          simp only [HA.val] at CM
          gi_wp2_with fail
          refine ⟨trivial, ?_⟩
          refine (callsIn_wide.2 CM.out).mono ?_
          intro e t13 hp
          obtain ⟨p131, a131, c131, a132, c132, L131, L132, p132, a133, c133, a134, c134, L133, L134, ni, rfl, hres, lA, lB, bt⟩ := hp.parts
          have HR13 : Hid (_) := hres
          obtain ⟨fA, fB⟩ := commute_fine hres (BOX.out (w.heap.size, ⟨xp, .slice xa1 X1.length xk1, .slice xa2 X2.length xk2, X1, X2⟩) (by simp)).2.2 (BOX.out (t11.heap.size + 1, ⟨p112, .slice a113 L113.length c113, .slice a114 L114.length c114, L113, L114⟩) (by simp)).2.2
          have BOXt : Hid (Boxes t13 _) := Boxes.below BOX.out bt
          obtain ⟨V13, hV13, bV, BOX2⟩ := Boxes.two BOXt.out ⟨p131, .slice a131 L131.length c131, .slice a132 L132.length c132, L131, L132⟩ ⟨p132, .slice a133 L133.length c133, .slice a134 L134.length c134, L133, L134⟩ lA lB fA fB
          simp only at hV13
          have BW2 : Hid (Below w.heap.size w V13) := below_then BW.out (below_then bt bV)
          have R8 : Hid (_) := RowLow.at R89.out (below_then bt bV)
          have R9 : Hid (_) := RowLow.at RW9.out (below_then bt bV)
          have ROW2 : Hid (RowLow V13.heap.size V13 (.slice va L.length vc) L) := RowLow.at ROW.out (below_then bt bV)
          clear fp0 fp1 fp2 fpl ft0 ft1 ft2 ftl ftm0
          clear BOX BW ROW CM hp hres lA lB bt bV fA fB
          have BOX : Hid (Boxes V13 _) := BOX2
          have BW : Hid (Below w.heap.size w V13) := BW2.out
          have ROW : Hid (RowLow V13.heap.size V13 (.slice va L.length vc) L) := ROW2.out
          obtain ⟨fq0, fq1, fq2⟩ := HBox.cells (BOXt.out (w.heap.size + 1, ⟨yp, .slice ya1 Y1.length yk1, .slice ya2 Y2.length yk2, Y1, Y2⟩) (by simp)).1
          have fql := HBox.lt (BOXt.out (w.heap.size + 1, ⟨yp, .slice ya1 Y1.length yk1, .slice ya2 Y2.length yk2, Y1, Y2⟩) (by simp)).1
          simp only at fq0 fq1 fq2 fql
          have fqm0 := Nat.lt_of_le_of_lt (show w.heap.size ≤ w.heap.size + 1 by omega) fql
          obtain ⟨fs0, fs1, fs2⟩ := HBox.cells (BOXt.out (t11.heap.size, ⟨p111, .slice a111 L111.length c111, .slice a112 L112.length c112, L111, L112⟩) (by simp)).1
          have fsl := HBox.lt (BOXt.out (t11.heap.size, ⟨p111, .slice a111 L111.length c111, .slice a112 L112.length c112, L111, L112⟩) (by simp)).1
          simp only at fs0 fs1 fs2 fsl
          clear BOX2 BW2 BOXt ROW2
          obtain ⟨ec, ed, en⟩ := res_ok HR13.out HCC.out
          subst en
          have HEC : Hid (_ ∧ _) := ⟨ec, ed⟩
          clear ec ed HCC HR13 R89 RW9
          have SM : Hid (_) := same_yes V13 _ _ M9 V13.heap.size R8.out R9.out (by have := TM9.out.1.1; omega)
          gi_wp2_with fail
          rw [← hV13]
          clear hV13
          refine ⟨trivial, ?_⟩
          refine (callsIn_wide.2 SM.out).mono ?_
          rintro e q1 ⟨rfl, d1, hq1⟩
          have bq : Below V13.heap.size V13 q1 := by rw [hq1]; exact below_drewN (Below.refl _ _) d1
          clear hq1 SM
          have BOX2 : Hid (Boxes q1 _) := Boxes.below BOX.out bq
          have BW2 : Hid (Below w.heap.size w q1) := below_then BW.out bq
          have ROW2 : Hid (RowLow q1.heap.size q1 (.slice va L.length vc) L) := RowLow.at ROW.out bq
          clear R8 R9
          clear fq0 fq1 fq2 fql fqm0 fs0 fs1 fs2 fsl
          clear BOX BW ROW bq
          have BOX : Hid (Boxes q1 _) := BOX2
          have BW : Hid (Below w.heap.size w q1) := BW2.out
          have ROW : Hid (RowLow q1.heap.size q1 (.slice va L.length vc) L) := ROW2.out
          obtain ⟨fq0, fq1, fq2⟩ := HBox.cells (BOX.out (w.heap.size + 1, ⟨yp, .slice ya1 Y1.length yk1, .slice ya2 Y2.length yk2, Y1, Y2⟩) (by simp)).1
          have fql := HBox.lt (BOX.out (w.heap.size + 1, ⟨yp, .slice ya1 Y1.length yk1, .slice ya2 Y2.length yk2, Y1, Y2⟩) (by simp)).1
          simp only at fq0 fq1 fq2 fql
          have fqm0 := Nat.lt_of_le_of_lt (show w.heap.size ≤ w.heap.size + 1 by omega) fql
          obtain ⟨fs0, fs1, fs2⟩ := HBox.cells (BOX.out (t11.heap.size, ⟨p111, .slice a111 L111.length c111, .slice a112 L112.length c112, L111, L112⟩) (by simp)).1
          have fsl := HBox.lt (BOX.out (t11.heap.size, ⟨p111, .slice a111 L111.length c111, .slice a112 L112.length c112, L111, L112⟩) (by simp)).1
          simp only at fs0 fs1 fs2 fsl
          obtain ⟨fcc0, fcc1, fcc2⟩ := HBox.cells (BOX.out (t13.heap.size, ⟨p131, .slice a131 L131.length c131, .slice a132 L132.length c132, L131, L132⟩) (by simp)).1
          have fccl := HBox.lt (BOX.out (t13.heap.size, ⟨p131, .slice a131 L131.length c131, .slice a132 L132.length c132, L131, L132⟩) (by simp)).1
          simp only at fcc0 fcc1 fcc2 fccl
          obtain ⟨fdd0, fdd1, fdd2⟩ := HBox.cells (BOX.out (t13.heap.size + 1, ⟨p132, .slice a133 L133.length c133, .slice a134 L134.length c134, L133, L134⟩) (by simp)).1
          have fddl := HBox.lt (BOX.out (t13.heap.size + 1, ⟨p132, .slice a133 L133.length c133, .slice a134 L134.length c134, L133, L134⟩) (by simp)).1
          simp only at fdd0 fdd1 fdd2 fddl
          have fddm0 := Nat.lt_of_le_of_lt (show t13.heap.size ≤ t13.heap.size + 1 by omega) fddl
          clear BOX2 BW2 ROW2
          have TL : Hid (_) := tells_yes ⟨p131, .slice a131 L131.length c131, .slice a132 L132.length c132, L131, L132⟩ ⟨p132, .slice a133 L133.length c133, .slice a134 L134.length c134, L133, L134⟩ ⟨yp, .slice ya1 Y1.length yk1, .slice ya2 Y2.length yk2, Y1, Y2⟩ ⟨p111, .slice a111 L111.length c111, .slice a112 L112.length c112, L111, L112⟩ q1.heap.size q1 (BOX.out (t13.heap.size, ⟨p131, .slice a131 L131.length c131, .slice a132 L132.length c132, L131, L132⟩) (by simp)).2.1 (BOX.out (t13.heap.size + 1, ⟨p132, .slice a133 L133.length c133, .slice a134 L134.length c134, L133, L134⟩) (by simp)).2.1 (BOX.out (w.heap.size + 1, ⟨yp, .slice ya1 Y1.length yk1, .slice ya2 Y2.length yk2, Y1, Y2⟩) (by simp)).2.1 (BOX.out (t11.heap.size, ⟨p111, .slice a111 L111.length c111, .slice a112 L112.length c112, L111, L112⟩) (by simp)).2.1 (Nat.le_refl _) HEC.out.1 HEC.out.2 (BOX.out (t13.heap.size, ⟨p131, .slice a131 L131.length c131, .slice a132 L132.length c132, L131, L132⟩) (by simp)).2.2.1 (BOX.out (t13.heap.size + 1, ⟨p132, .slice a133 L133.length c133, .slice a134 L134.length c134, L133, L134⟩) (by simp)).2.2.1
          simp only [HA.val] at TL
          gi_wp2_with fail
          refine ⟨trivial, ?_⟩
          refine (callsIn_wide.2 TL.out).mono ?_
          rintro e s9 ⟨rfl, bs⟩
          have BOX2 : Hid (Boxes s9 _) := Boxes.below BOX.out bs
          have BW2 : Hid (Below w.heap.size w s9) := below_then BW.out bs
          have ROW2 : Hid (RowLow s9.heap.size s9 (.slice va L.length vc) L) := RowLow.at ROW.out bs
          clear TL
          clear fq0 fq1 fq2 fql fqm0 fs0 fs1 fs2 fsl fcc0 fcc1 fcc2 fccl fdd0 fdd1 fdd2 fddl fddm0
          clear BOX BW ROW bs
          have BOX : Hid (Boxes s9 _) := BOX2
          have BW : Hid (Below w.heap.size w s9) := BW2.out
          have ROW : Hid (RowLow s9.heap.size s9 (.slice va L.length vc) L) := ROW2.out
          obtain ⟨fp0, fp1, fp2⟩ := HBox.cells (BOX.out (w.heap.size, ⟨xp, .slice xa1 X1.length xk1, .slice xa2 X2.length xk2, X1, X2⟩) (by simp)).1
          have fpl := HBox.lt (BOX.out (w.heap.size, ⟨xp, .slice xa1 X1.length xk1, .slice xa2 X2.length xk2, X1, X2⟩) (by simp)).1
          simp only at fp0 fp1 fp2 fpl
          clear BOX2 BW2 ROW2
          gi_wp2
          exact bodyPost_ret (results_tmp rfl _ _ _) rfl ⟨rfl, BW.out⟩
      case pos =>
        subst hn0
        have hcm := shRes_zero_c HR1.out
        have HCB : Hid (_) := Hn.commute_back hcm
        have HCM : Hid (_) := hcm
        clear hcm HR1
        have CM : Hid (_) := commute_any ⟨p11, .slice a11 L11.length c11, .slice a12 L12.length c12, L11, L12⟩ ⟨p12, .slice a13 L13.length c13, .slice a14 L14.length c14, L13, L14⟩ V1.heap.size V1 (BOX.out (t1.heap.size, ⟨p11, .slice a11 L11.length c11, .slice a12 L12.length c12, L11, L12⟩) (by simp)).2.1 (BOX.out (t1.heap.size + 1, ⟨p12, .slice a13 L13.length c13, .slice a14 L14.length c14, L13, L14⟩) (by simp)).2.1 (Nat.le_refl _) (BOX.out (t1.heap.size, ⟨p11, .slice a11 L11.length c11, .slice a12 L12.length c12, L11, L12⟩) (by simp)).2.2 (BOX.out (t1.heap.size + 1, ⟨p12, .slice a13 L13.length c13, .slice a14 L14.length c14, L13, L14⟩) (by simp)).2.2
        simp only [HA.val] at CM
        gi_wp2_with fail
        rw [← hV1]
        clear hV1
        refine ⟨trivial, ?_⟩
        refine (callsIn_wide.2 CM.out).mono ?_
        intro e t2 hp
        obtain ⟨p21, a21, c21, a22, c22, L21, L22, p22, a23, c23, a24, c24, L23, L24, n9, rfl, hres, lA, lB, bt⟩ := hp.parts
        have HR2 : Hid (_) := hres
        obtain ⟨fA, fB⟩ := commute_fine hres (BOX.out (t1.heap.size, ⟨p11, .slice a11 L11.length c11, .slice a12 L12.length c12, L11, L12⟩) (by simp)).2.2 (BOX.out (t1.heap.size + 1, ⟨p12, .slice a13 L13.length c13, .slice a14 L14.length c14, L13, L14⟩) (by simp)).2.2
        have BOXt : Hid (Boxes t2 _) := Boxes.below BOX.out bt
        obtain ⟨V2, hV2, bV, BOX2⟩ := Boxes.two BOXt.out ⟨p21, .slice a21 L21.length c21, .slice a22 L22.length c22, L21, L22⟩ ⟨p22, .slice a23 L23.length c23, .slice a24 L24.length c24, L23, L24⟩ lA lB fA fB
        simp only at hV2
        have BW2 : Hid (Below w.heap.size w V2) := below_then BW.out (below_then bt bV)
        have ROW2 : Hid (RowLow V2.heap.size V2 (.slice va L.length vc) L) := RowLow.at ROW.out (below_then bt bV)
        clear fp0 fp1 fp2 fpl fq0 fq1 fq2 fql fqm0
        clear BOX BW ROW CM hp hres lA lB bt bV fA fB
        have BOX : Hid (Boxes V2 _) := BOX2
        have BW : Hid (Below w.heap.size w V2) := BW2.out
        have ROW : Hid (RowLow V2.heap.size V2 (.slice va L.length vc) L) := ROW2.out
        obtain ⟨fp0, fp1, fp2⟩ := HBox.cells (BOXt.out (w.heap.size, ⟨xp, .slice xa1 X1.length xk1, .slice xa2 X2.length xk2, X1, X2⟩) (by simp)).1
        have fpl := HBox.lt (BOXt.out (w.heap.size, ⟨xp, .slice xa1 X1.length xk1, .slice xa2 X2.length xk2, X1, X2⟩) (by simp)).1
        simp only at fp0 fp1 fp2 fpl
        obtain ⟨fq0, fq1, fq2⟩ := HBox.cells (BOXt.out (w.heap.size + 1, ⟨yp, .slice ya1 Y1.length yk1, .slice ya2 Y2.length yk2, Y1, Y2⟩) (by simp)).1
        have fql := HBox.lt (BOXt.out (w.heap.size + 1, ⟨yp, .slice ya1 Y1.length yk1, .slice ya2 Y2.length yk2, Y1, Y2⟩) (by simp)).1
        simp only at fq0 fq1 fq2 fql
        have fqm0 := Nat.lt_of_le_of_lt (show w.heap.size ≤ w.heap.size + 1 by omega) fql
        obtain ⟨fa0, fa1, fa2⟩ := HBox.cells (BOXt.out (t1.heap.size, ⟨p11, .slice a11 L11.length c11, .slice a12 L12.length c12, L11, L12⟩) (by simp)).1
        have fal := HBox.lt (BOXt.out (t1.heap.size, ⟨p11, .slice a11 L11.length c11, .slice a12 L12.length c12, L11, L12⟩) (by simp)).1
        simp only at fa0 fa1 fa2 fal
        obtain ⟨fb0, fb1, fb2⟩ := HBox.cells (BOXt.out (t1.heap.size + 1, ⟨p12, .slice a13 L13.length c13, .slice a14 L14.length c14, L13, L14⟩) (by simp)).1
        have fbl := HBox.lt (BOXt.out (t1.heap.size + 1, ⟨p12, .slice a13 L13.length c13, .slice a14 L14.length c14, L13, L14⟩) (by simp)).1
        simp only at fb0 fb1 fb2 fbl
        have fbm0 := Nat.lt_of_le_of_lt (show t1.heap.size ≤ t1.heap.size + 1 by omega) fbl
        clear BOX2 BW2 BOXt ROW2
        obtain ⟨ec, ed, en⟩ := res_ok HR2.out HCB.out
        subst en
        have HEC : Hid (_ ∧ _) := ⟨ec, ed⟩
        clear ec ed HCB HR2
        have TL : Hid (_) := tells_yes ⟨p21, .slice a21 L21.length c21, .slice a22 L22.length c22, L21, L22⟩ ⟨p22, .slice a23 L23.length c23, .slice a24 L24.length c24, L23, L24⟩ ⟨xp, .slice xa1 X1.length xk1, .slice xa2 X2.length xk2, X1, X2⟩ ⟨yp, .slice ya1 Y1.length yk1, .slice ya2 Y2.length yk2, Y1, Y2⟩ V2.heap.size V2 (BOX.out (t2.heap.size, ⟨p21, .slice a21 L21.length c21, .slice a22 L22.length c22, L21, L22⟩) (by simp)).2.1 (BOX.out (t2.heap.size + 1, ⟨p22, .slice a23 L23.length c23, .slice a24 L24.length c24, L23, L24⟩) (by simp)).2.1 (BOX.out (w.heap.size, ⟨xp, .slice xa1 X1.length xk1, .slice xa2 X2.length xk2, X1, X2⟩) (by simp)).2.1 (BOX.out (w.heap.size + 1, ⟨yp, .slice ya1 Y1.length yk1, .slice ya2 Y2.length yk2, Y1, Y2⟩) (by simp)).2.1 (Nat.le_refl _) HEC.out.1 HEC.out.2 (BOX.out (t2.heap.size, ⟨p21, .slice a21 L21.length c21, .slice a22 L22.length c22, L21, L22⟩) (by simp)).2.2.1 (BOX.out (t2.heap.size + 1, ⟨p22, .slice a23 L23.length c23, .slice a24 L24.length c24, L23, L24⟩) (by simp)).2.2.1
        simp only [HA.val] at TL
        gi_wp2_with fail
        rw [← hV2]
        clear hV2
        refine ⟨trivial, ?_⟩
        refine (callsIn_wide.2 TL.out).mono ?_
        rintro e s1 ⟨rfl, bs⟩
        have BOX2 : Hid (Boxes s1 _) := Boxes.below BOX.out bs
        have BW2 : Hid (Below w.heap.size w s1) := below_then BW.out bs
        have ROW2 : Hid (RowLow s1.heap.size s1 (.slice va L.length vc) L) := RowLow.at ROW.out bs
        clear TL
        clear fp0 fp1 fp2 fpl fq0 fq1 fq2 fql fqm0 fa0 fa1 fa2 fal fb0 fb1 fb2 fbl fbm0
        clear BOX BW ROW bs
        have BOX : Hid (Boxes s1 _) := BOX2
        have BW : Hid (Below w.heap.size w s1) := BW2.out
        have ROW : Hid (RowLow s1.heap.size s1 (.slice va L.length vc) L) := ROW2.out
        obtain ⟨fp0, fp1, fp2⟩ := HBox.cells (BOX.out (w.heap.size, ⟨xp, .slice xa1 X1.length xk1, .slice xa2 X2.length xk2, X1, X2⟩) (by simp)).1
        have fpl := HBox.lt (BOX.out (w.heap.size, ⟨xp, .slice xa1 X1.length xk1, .slice xa2 X2.length xk2, X1, X2⟩) (by simp)).1
        simp only at fp0 fp1 fp2 fpl
        obtain ⟨fq0, fq1, fq2⟩ := HBox.cells (BOX.out (w.heap.size + 1, ⟨yp, .slice ya1 Y1.length yk1, .slice ya2 Y2.length yk2, Y1, Y2⟩) (by simp)).1
        have fql := HBox.lt (BOX.out (w.heap.size + 1, ⟨yp, .slice ya1 Y1.length yk1, .slice ya2 Y2.length yk2, Y1, Y2⟩) (by simp)).1
        simp only at fq0 fq1 fq2 fql
        have fqm0 := Nat.lt_of_le_of_lt (show w.heap.size ≤ w.heap.size + 1 by omega) fql
        obtain ⟨fa0, fa1, fa2⟩ := HBox.cells (BOX.out (t1.heap.size, ⟨p11, .slice a11 L11.length c11, .slice a12 L12.length c12, L11, L12⟩) (by simp)).1
        have fal := HBox.lt (BOX.out (t1.heap.size, ⟨p11, .slice a11 L11.length c11, .slice a12 L12.length c12, L11, L12⟩) (by simp)).1
        simp only at fa0 fa1 fa2 fal
        obtain ⟨fb0, fb1, fb2⟩ := HBox.cells (BOX.out (t1.heap.size + 1, ⟨p12, .slice a13 L13.length c13, .slice a14 L14.length c14, L13, L14⟩) (by simp)).1
        have fbl := HBox.lt (BOX.out (t1.heap.size + 1, ⟨p12, .slice a13 L13.length c13, .slice a14 L14.length c14, L13, L14⟩) (by simp)).1
        simp only at fb0 fb1 fb2 fbl
        have fbm0 := Nat.lt_of_le_of_lt (show t1.heap.size ≤ t1.heap.size + 1 by omega) fbl
        clear BOX2 BW2 ROW2
        clear HEC
        have TW : Hid (_) := two_any L ⟨xp, .slice xa1 X1.length xk1, .slice xa2 X2.length xk2, X1, X2⟩ ⟨yp, .slice ya1 Y1.length yk1, .slice ya2 Y2.length yk2, Y1, Y2⟩ _ s1 ROW.out (BOX.out (w.heap.size, ⟨xp, .slice xa1 X1.length xk1, .slice xa2 X2.length xk2, X1, X2⟩) (by simp)).2.1 (BOX.out (w.heap.size + 1, ⟨yp, .slice ya1 Y1.length yk1, .slice ya2 Y2.length yk2, Y1, Y2⟩) (by simp)).2.1 (BOX.out (w.heap.size, ⟨xp, .slice xa1 X1.length xk1, .slice xa2 X2.length xk2, X1, X2⟩) (by simp)).2.2 (BOX.out (w.heap.size + 1, ⟨yp, .slice ya1 Y1.length yk1, .slice ya2 Y2.length yk2, Y1, Y2⟩) (by simp)).2.2 SLP.out SLQ.out TRL.out (by have := LL.out; omega)
        simp only [HA.val] at TW
        gi_wp2_with fail
        refine ⟨trivial, ?_⟩
        refine (callsIn_wide.2 TW.out).mono ?_
        rintro e m1 ⟨ra1, rc1, M1, ok1, rfl, hm, rw, tm, lm, bm⟩
        have HM1 : Hid (_) := hm
        have RW1 : Hid (RowLow m1.heap.size m1 (.slice ra1 M1.length rc1) M1) := rw
        have TM1 : Hid (Trim M1 ∧ M1.length ≤ L.length + 4000) := ⟨tm, lm⟩
        clear hm rw tm lm TW
        have BOX2 : Hid (Boxes m1 _) := Boxes.below BOX.out bm
        have BW2 : Hid (Below w.heap.size w m1) := below_then BW.out bm
        have ROW2 : Hid (RowLow m1.heap.size m1 (.slice va L.length vc) L) := RowLow.at ROW.out bm
        clear fp0 fp1 fp2 fpl fq0 fq1 fq2 fql fqm0 fa0 fa1 fa2 fal fb0 fb1 fb2 fbl fbm0
        clear BOX BW ROW bm
        have BOX : Hid (Boxes m1 _) := BOX2
        have BW : Hid (Below w.heap.size w m1) := BW2.out
        have ROW : Hid (RowLow m1.heap.size m1 (.slice va L.length vc) L) := ROW2.out
        obtain ⟨fp0, fp1, fp2⟩ := HBox.cells (BOX.out (w.heap.size, ⟨xp, .slice xa1 X1.length xk1, .slice xa2 X2.length xk2, X1, X2⟩) (by simp)).1
        have fpl := HBox.lt (BOX.out (w.heap.size, ⟨xp, .slice xa1 X1.length xk1, .slice xa2 X2.length xk2, X1, X2⟩) (by simp)).1
        simp only at fp0 fp1 fp2 fpl
        obtain ⟨fq0, fq1, fq2⟩ := HBox.cells (BOX.out (w.heap.size + 1, ⟨yp, .slice ya1 Y1.length yk1, .slice ya2 Y2.length yk2, Y1, Y2⟩) (by simp)).1
        have fql := HBox.lt (BOX.out (w.heap.size + 1, ⟨yp, .slice ya1 Y1.length yk1, .slice ya2 Y2.length yk2, Y1, Y2⟩) (by simp)).1
        simp only at fq0 fq1 fq2 fql
        have fqm0 := Nat.lt_of_le_of_lt (show w.heap.size ≤ w.heap.size + 1 by omega) fql
        obtain ⟨fa0, fa1, fa2⟩ := HBox.cells (BOX.out (t1.heap.size, ⟨p11, .slice a11 L11.length c11, .slice a12 L12.length c12, L11, L12⟩) (by simp)).1
        have fal := HBox.lt (BOX.out (t1.heap.size, ⟨p11, .slice a11 L11.length c11, .slice a12 L12.length c12, L11, L12⟩) (by simp)).1
        simp only at fa0 fa1 fa2 fal
        obtain ⟨fb0, fb1, fb2⟩ := HBox.cells (BOX.out (t1.heap.size + 1, ⟨p12, .slice a13 L13.length c13, .slice a14 L14.length c14, L13, L14⟩) (by simp)).1
        have fbl := HBox.lt (BOX.out (t1.heap.size + 1, ⟨p12, .slice a13 L13.length c13, .slice a14 L14.length c14, L13, L14⟩) (by simp)).1
        simp only at fb0 fb1 fb2 fbl
        have fbm0 := Nat.lt_of_le_of_lt (show t1.heap.size ≤ t1.heap.size + 1 by omega) fbl
        clear BOX2 BW2 ROW2
        cases ok1 with
        | false =>
          clear HM1 RW1 TM1 HCM
          have CM : Hid (_) := merge_any ⟨xp, .slice xa1 X1.length xk1, .slice xa2 X2.length xk2, X1, X2⟩ ⟨yp, .slice ya1 Y1.length yk1, .slice ya2 Y2.length yk2, Y1, Y2⟩ m1.heap.size m1 (BOX.out (w.heap.size, ⟨xp, .slice xa1 X1.length xk1, .slice xa2 X2.length xk2, X1, X2⟩) (by simp)).2.1 (BOX.out (w.heap.size + 1, ⟨yp, .slice ya1 Y1.length yk1, .slice ya2 Y2.length yk2, Y1, Y2⟩) (by simp)).2.1 (Nat.le_refl _) (BOX.out (w.heap.size, ⟨xp, .slice xa1 X1.length xk1, .slice xa2 X2.length xk2, X1, X2⟩) (by simp)).2.2 (BOX.out (w.heap.size + 1, ⟨yp, .slice ya1 Y1.length yk1, .slice ya2 Y2.length yk2, Y1, Y2⟩) (by simp)).2.2
          simp only [HA.val] at CM
          gi_wp2_with fail
          refine ⟨trivial, ?_⟩
          refine (callsIn_wide.2 CM.out).mono ?_
          intro e t21 hp
          obtain ⟨p211, a211, c211, a212, c212, L211, L212, p212, a213, c213, a214, c214, L213, L214, ng, rfl, hres, lA, lB, bt⟩ := hp.parts
          have HR21 : Hid (_) := hres
          obtain ⟨fA, fB⟩ := merge_fine hres (BOX.out (w.heap.size, ⟨xp, .slice xa1 X1.length xk1, .slice xa2 X2.length xk2, X1, X2⟩) (by simp)).2.2 (BOX.out (w.heap.size + 1, ⟨yp, .slice ya1 Y1.length yk1, .slice ya2 Y2.length yk2, Y1, Y2⟩) (by simp)).2.2
          have SL21 : Hid (HA.Slim ⟨p211, .slice a211 L211.length c211, .slice a212 L212.length c212, L211, L212⟩ ∧ HA.Slim ⟨p212, .slice a213 L213.length c213, .slice a214 L214.length c214, L213, L214⟩) := merge_slim hres SLP.out SLQ.out
          have BOXt : Hid (Boxes t21 _) := Boxes.below BOX.out bt
          obtain ⟨V21, hV21, bV, BOX2⟩ := Boxes.two BOXt.out ⟨p211, .slice a211 L211.length c211, .slice a212 L212.length c212, L211, L212⟩ ⟨p212, .slice a213 L213.length c213, .slice a214 L214.length c214, L213, L214⟩ lA lB fA fB
          simp only at hV21
          have BW2 : Hid (Below w.heap.size w V21) := below_then BW.out (below_then bt bV)
          have ROW2 : Hid (RowLow V21.heap.size V21 (.slice va L.length vc) L) := RowLow.at ROW.out (below_then bt bV)
          clear fp0 fp1 fp2 fpl fq0 fq1 fq2 fql fqm0 fa0 fa1 fa2 fal fb0 fb1 fb2 fbl fbm0
          clear BOX BW ROW CM hp hres lA lB bt bV fA fB
          have BOX : Hid (Boxes V21 _) := BOX2
          have BW : Hid (Below w.heap.size w V21) := BW2.out
          have ROW : Hid (RowLow V21.heap.size V21 (.slice va L.length vc) L) := ROW2.out
          obtain ⟨fq0, fq1, fq2⟩ := HBox.cells (BOXt.out (w.heap.size + 1, ⟨yp, .slice ya1 Y1.length yk1, .slice ya2 Y2.length yk2, Y1, Y2⟩) (by simp)).1
          have fql := HBox.lt (BOXt.out (w.heap.size + 1, ⟨yp, .slice ya1 Y1.length yk1, .slice ya2 Y2.length yk2, Y1, Y2⟩) (by simp)).1
          simp only at fq0 fq1 fq2 fql
          have fqm0 := Nat.lt_of_le_of_lt (show w.heap.size ≤ w.heap.size + 1 by omega) fql
          obtain ⟨fp0, fp1, fp2⟩ := HBox.cells (BOXt.out (w.heap.size, ⟨xp, .slice xa1 X1.length xk1, .slice xa2 X2.length xk2, X1, X2⟩) (by simp)).1
          have fpl := HBox.lt (BOXt.out (w.heap.size, ⟨xp, .slice xa1 X1.length xk1, .slice xa2 X2.length xk2, X1, X2⟩) (by simp)).1
          simp only at fp0 fp1 fp2 fpl
          clear BOX2 BW2 BOXt ROW2
          have CM : Hid (_) := merge_any ⟨yp, .slice ya1 Y1.length yk1, .slice ya2 Y2.length yk2, Y1, Y2⟩ ⟨xp, .slice xa1 X1.length xk1, .slice xa2 X2.length xk2, X1, X2⟩ V21.heap.size V21 (BOX.out (w.heap.size + 1, ⟨yp, .slice ya1 Y1.length yk1, .slice ya2 Y2.length yk2, Y1, Y2⟩) (by simp)).2.1 (BOX.out (w.heap.size, ⟨xp, .slice xa1 X1.length xk1, .slice xa2 X2.length xk2, X1, X2⟩) (by simp)).2.1 (Nat.le_refl _) (BOX.out (w.heap.size + 1, ⟨yp, .slice ya1 Y1.length yk1, .slice ya2 Y2.length yk2, Y1, Y2⟩) (by simp)).2.2 (BOX.out (w.heap.size, ⟨xp, .slice xa1 X1.length xk1, .slice xa2 X2.length xk2, X1, X2⟩) (by simp)).2.2
          simp only [HA.val] at CM
          gi_wp2_with fail
          rw [← hV21]
          clear hV21
          refine ⟨trivial, ?_⟩
          refine (callsIn_wide.2 CM.out).mono ?_
          intro e t22 hp
          obtain ⟨p221, a221, c221, a222, c222, L221, L222, p222, a223, c223, a224, c224, L223, L224, nh, rfl, hres, lA, lB, bt⟩ := hp.parts
          have HR22 : Hid (_) := hres
          obtain ⟨fA, fB⟩ := merge_fine hres (BOX.out (w.heap.size + 1, ⟨yp, .slice ya1 Y1.length yk1, .slice ya2 Y2.length yk2, Y1, Y2⟩) (by simp)).2.2 (BOX.out (w.heap.size, ⟨xp, .slice xa1 X1.length xk1, .slice xa2 X2.length xk2, X1, X2⟩) (by simp)).2.2
          have BOXt : Hid (Boxes t22 _) := Boxes.below BOX.out bt
          obtain ⟨V22, hV22, bV, BOX2⟩ := Boxes.two BOXt.out ⟨p221, .slice a221 L221.length c221, .slice a222 L222.length c222, L221, L222⟩ ⟨p222, .slice a223 L223.length c223, .slice a224 L224.length c224, L223, L224⟩ lA lB fA fB
          simp only at hV22
          have BW2 : Hid (Below w.heap.size w V22) := below_then BW.out (below_then bt bV)
          have ROW2 : Hid (RowLow V22.heap.size V22 (.slice va L.length vc) L) := RowLow.at ROW.out (below_then bt bV)
          clear fq0 fq1 fq2 fql fqm0 fp0 fp1 fp2 fpl
          clear BOX BW ROW CM hp hres lA lB bt bV fA fB
          have BOX : Hid (Boxes V22 _) := BOX2
          have BW : Hid (Below w.heap.size w V22) := BW2.out
          have ROW : Hid (RowLow V22.heap.size V22 (.slice va L.length vc) L) := ROW2.out
          obtain ⟨fp0, fp1, fp2⟩ := HBox.cells (BOXt.out (w.heap.size, ⟨xp, .slice xa1 X1.length xk1, .slice xa2 X2.length xk2, X1, X2⟩) (by simp)).1
          have fpl := HBox.lt (BOXt.out (w.heap.size, ⟨xp, .slice xa1 X1.length xk1, .slice xa2 X2.length xk2, X1, X2⟩) (by simp)).1
          simp only at fp0 fp1 fp2 fpl
          obtain ⟨fq0, fq1, fq2⟩ := HBox.cells (BOXt.out (w.heap.size + 1, ⟨yp, .slice ya1 Y1.length yk1, .slice ya2 Y2.length yk2, Y1, Y2⟩) (by simp)).1
          have fql := HBox.lt (BOXt.out (w.heap.size + 1, ⟨yp, .slice ya1 Y1.length yk1, .slice ya2 Y2.length yk2, Y1, Y2⟩) (by simp)).1
          simp only at fq0 fq1 fq2 fql
          have fqm0 := Nat.lt_of_le_of_lt (show w.heap.size ≤ w.heap.size + 1 by omega) fql
          obtain ⟨fs0, fs1, fs2⟩ := HBox.cells (BOXt.out (t21.heap.size, ⟨p211, .slice a211 L211.length c211, .slice a212 L212.length c212, L211, L212⟩) (by simp)).1
          have fsl := HBox.lt (BOXt.out (t21.heap.size, ⟨p211, .slice a211 L211.length c211, .slice a212 L212.length c212, L211, L212⟩) (by simp)).1
          simp only at fs0 fs1 fs2 fsl
          obtain ⟨ft0, ft1, ft2⟩ := HBox.cells (BOXt.out (t21.heap.size + 1, ⟨p212, .slice a213 L213.length c213, .slice a214 L214.length c214, L213, L214⟩) (by simp)).1
          have ftl := HBox.lt (BOXt.out (t21.heap.size + 1, ⟨p212, .slice a213 L213.length c213, .slice a214 L214.length c214, L213, L214⟩) (by simp)).1
          simp only at ft0 ft1 ft2 ftl
          have ftm0 := Nat.lt_of_le_of_lt (show t21.heap.size ≤ t21.heap.size + 1 by omega) ftl
          clear BOX2 BW2 BOXt ROW2
          obtain ⟨hgh, hu, hv⟩ := flip_res HR21.out HR22.out
          subst hgh
          have HUV : Hid (_ ∧ _) := ⟨hu, hv⟩
          clear hu hv HR22
          have hsame := cast_same nh
          by_cases hg : nh = 0
          case neg =>
            have hg1 := cast_ne' nh hg
            have hg2 := cast_ne nh hg
            clear HR21 HUV
            gi_wp2_with fail
            refine ⟨trivial, ?_⟩
            have SV : Hid (V22.heap.size = t22.heap.size + 1 + 1) := by
              show V22.heap.size = t22.heap.size + 1 + 1
              rw [hV22]; simp
            have AP : Hid (_) := apply_hunk L ⟨xp, .slice xa1 X1.length xk1, .slice xa2 X2.length xk2, X1, X2⟩ _ V22 ROW.out (BOX.out (w.heap.size, ⟨xp, .slice xa1 X1.length xk1, .slice xa2 X2.length xk2, X1, X2⟩) (by simp)).2.1 (BOX.out (w.heap.size, ⟨xp, .slice xa1 X1.length xk1, .slice xa2 X2.length xk2, X1, X2⟩) (by simp)).2.2 SLP.out TRL.out
            have BNN : Hid (Below V22.heap.size V22 _) := below_nw V22 (.cells #[.int .i64 (HA.at_ ⟨xp, .slice xa1 X1.length xk1, .slice xa2 X2.length xk2, X1, X2⟩), (HA.vo ⟨xp, .slice xa1 X1.length xk1, .slice xa2 X2.length xk2, X1, X2⟩), (HA.vn ⟨xp, .slice xa1 X1.length xk1, .slice xa2 X2.length xk2, X1, X2⟩)] 41)
            simp only at AP BNN
            gi_wp2_with fail
            rw [← hV22]
            rw [← SV.out]
            clear hV22
            refine ⟨trivial, ?_⟩
            refine (callsIn_wide.2 AP.out).mono ?_
            intro e y1 hp
            obtain ⟨qa1, qc1, N1, n1, rfl, -, hN, by0⟩ := hp.parts
            have HN1 : Hid (ApRes _ N1 n1) := hN
            have by1 := below_then BNN.out by0
            clear hp hN by0 AP BNN
            have BOX2 : Hid (Boxes y1 _) := Boxes.below BOX.out by1
            have BW2 : Hid (Below w.heap.size w y1) := below_then BW.out by1
            have ROW2 : Hid (RowLow y1.heap.size y1 (.slice va L.length vc) L) := RowLow.at ROW.out by1
            clear fp0 fp1 fp2 fpl fq0 fq1 fq2 fql fqm0 fs0 fs1 fs2 fsl ft0 ft1 ft2 ftl ftm0
            clear BOX BW ROW by1
            have BOX : Hid (Boxes y1 _) := BOX2
            have BW : Hid (Below w.heap.size w y1) := BW2.out
            have ROW : Hid (RowLow y1.heap.size y1 (.slice va L.length vc) L) := ROW2.out
            obtain ⟨fp0, fp1, fp2⟩ := HBox.cells (BOX.out (w.heap.size, ⟨xp, .slice xa1 X1.length xk1, .slice xa2 X2.length xk2, X1, X2⟩) (by simp)).1
            have fpl := HBox.lt (BOX.out (w.heap.size, ⟨xp, .slice xa1 X1.length xk1, .slice xa2 X2.length xk2, X1, X2⟩) (by simp)).1
            simp only at fp0 fp1 fp2 fpl
            obtain ⟨fq0, fq1, fq2⟩ := HBox.cells (BOX.out (w.heap.size + 1, ⟨yp, .slice ya1 Y1.length yk1, .slice ya2 Y2.length yk2, Y1, Y2⟩) (by simp)).1
            have fql := HBox.lt (BOX.out (w.heap.size + 1, ⟨yp, .slice ya1 Y1.length yk1, .slice ya2 Y2.length yk2, Y1, Y2⟩) (by simp)).1
            simp only at fq0 fq1 fq2 fql
            have fqm0 := Nat.lt_of_le_of_lt (show w.heap.size ≤ w.heap.size + 1 by omega) fql
            clear BOX2 BW2 ROW2
            have AP : Hid (_) := apply_hunk L ⟨yp, .slice ya1 Y1.length yk1, .slice ya2 Y2.length yk2, Y1, Y2⟩ _ y1 ROW.out (BOX.out (w.heap.size + 1, ⟨yp, .slice ya1 Y1.length yk1, .slice ya2 Y2.length yk2, Y1, Y2⟩) (by simp)).2.1 (BOX.out (w.heap.size + 1, ⟨yp, .slice ya1 Y1.length yk1, .slice ya2 Y2.length yk2, Y1, Y2⟩) (by simp)).2.2 SLQ.out TRL.out
            have BNN : Hid (Below y1.heap.size y1 _) := below_nw y1 (.cells #[.int .i64 (HA.at_ ⟨yp, .slice ya1 Y1.length yk1, .slice ya2 Y2.length yk2, Y1, Y2⟩), (HA.vo ⟨yp, .slice ya1 Y1.length yk1, .slice ya2 Y2.length yk2, Y1, Y2⟩), (HA.vn ⟨yp, .slice ya1 Y1.length yk1, .slice ya2 Y2.length yk2, Y1, Y2⟩)] 41)
            simp only at AP BNN
            gi_wp2_with fail
            refine ⟨trivial, ?_⟩
            refine (callsIn_wide.2 AP.out).mono ?_
            intro e y2 hp
            obtain ⟨qa2, qc2, N2, n2, rfl, -, hN, by0⟩ := hp.parts
            have HN2 : Hid (ApRes _ N2 n2) := hN
            have by2 := below_then BNN.out by0
            clear hp hN by0 AP BNN
            have BOX2 : Hid (Boxes y2 _) := Boxes.below BOX.out by2
            have BW2 : Hid (Below w.heap.size w y2) := below_then BW.out by2
            have ROW2 : Hid (RowLow y2.heap.size y2 (.slice va L.length vc) L) := RowLow.at ROW.out by2
            clear fp0 fp1 fp2 fpl fq0 fq1 fq2 fql fqm0
            clear BOX BW ROW by2
            have BOX : Hid (Boxes y2 _) := BOX2
            have BW : Hid (Below w.heap.size w y2) := BW2.out
            have ROW : Hid (RowLow y2.heap.size y2 (.slice va L.length vc) L) := ROW2.out
            obtain ⟨fp0, fp1, fp2⟩ := HBox.cells (BOX.out (w.heap.size, ⟨xp, .slice xa1 X1.length xk1, .slice xa2 X2.length xk2, X1, X2⟩) (by simp)).1
            have fpl := HBox.lt (BOX.out (w.heap.size, ⟨xp, .slice xa1 X1.length xk1, .slice xa2 X2.length xk2, X1, X2⟩) (by simp)).1
            simp only at fp0 fp1 fp2 fpl
            clear BOX2 BW2 ROW2
            gi_wp2
            exact bodyPost_ret (results_tmp rfl _ _ _) rfl ⟨rfl, BW.out⟩
          case pos =>
            subst hg
            have TL : Hid (_) := tells_yes ⟨p221, .slice a221 L221.length c221, .slice a222 L222.length c222, L221, L222⟩ ⟨p222, .slice a223 L223.length c223, .slice a224 L224.length c224, L223, L224⟩ ⟨p212, .slice a213 L213.length c213, .slice a214 L214.length c214, L213, L214⟩ ⟨p211, .slice a211 L211.length c211, .slice a212 L212.length c212, L211, L212⟩ V22.heap.size V22 (BOX.out (t22.heap.size, ⟨p221, .slice a221 L221.length c221, .slice a222 L222.length c222, L221, L222⟩) (by simp)).2.1 (BOX.out (t22.heap.size + 1, ⟨p222, .slice a223 L223.length c223, .slice a224 L224.length c224, L223, L224⟩) (by simp)).2.1 (BOX.out (t21.heap.size + 1, ⟨p212, .slice a213 L213.length c213, .slice a214 L214.length c214, L213, L214⟩) (by simp)).2.1 (BOX.out (t21.heap.size, ⟨p211, .slice a211 L211.length c211, .slice a212 L212.length c212, L211, L212⟩) (by simp)).2.1 (Nat.le_refl _) HUV.out.1 HUV.out.2 (BOX.out (t22.heap.size, ⟨p221, .slice a221 L221.length c221, .slice a222 L222.length c222, L221, L222⟩) (by simp)).2.2.1 (BOX.out (t22.heap.size + 1, ⟨p222, .slice a223 L223.length c223, .slice a224 L224.length c224, L223, L224⟩) (by simp)).2.2.1
            simp only [HA.val] at TL
            gi_wp2_with fail
            rw [← hV22]
            clear hV22
            refine ⟨trivial, ?_⟩
            refine (callsIn_wide.2 TL.out).mono ?_
            rintro e s7 ⟨rfl, bs⟩
            have BOX2 : Hid (Boxes s7 _) := Boxes.below BOX.out bs
            have BW2 : Hid (Below w.heap.size w s7) := below_then BW.out bs
            have ROW2 : Hid (RowLow s7.heap.size s7 (.slice va L.length vc) L) := RowLow.at ROW.out bs
            clear TL
            clear fp0 fp1 fp2 fpl fq0 fq1 fq2 fql fqm0 fs0 fs1 fs2 fsl ft0 ft1 ft2 ftl ftm0
            clear BOX BW ROW bs
            have BOX : Hid (Boxes s7 _) := BOX2
            have BW : Hid (Below w.heap.size w s7) := BW2.out
            have ROW : Hid (RowLow s7.heap.size s7 (.slice va L.length vc) L) := ROW2.out
            obtain ⟨fp0, fp1, fp2⟩ := HBox.cells (BOX.out (w.heap.size, ⟨xp, .slice xa1 X1.length xk1, .slice xa2 X2.length xk2, X1, X2⟩) (by simp)).1
            have fpl := HBox.lt (BOX.out (w.heap.size, ⟨xp, .slice xa1 X1.length xk1, .slice xa2 X2.length xk2, X1, X2⟩) (by simp)).1
            simp only at fp0 fp1 fp2 fpl
            obtain ⟨fq0, fq1, fq2⟩ := HBox.cells (BOX.out (w.heap.size + 1, ⟨yp, .slice ya1 Y1.length yk1, .slice ya2 Y2.length yk2, Y1, Y2⟩) (by simp)).1
            have fql := HBox.lt (BOX.out (w.heap.size + 1, ⟨yp, .slice ya1 Y1.length yk1, .slice ya2 Y2.length yk2, Y1, Y2⟩) (by simp)).1
            simp only at fq0 fq1 fq2 fql
            have fqm0 := Nat.lt_of_le_of_lt (show w.heap.size ≤ w.heap.size + 1 by omega) fql
            clear BOX2 BW2 ROW2
            have AP : Hid (_) := apply_hunk L ⟨xp, .slice xa1 X1.length xk1, .slice xa2 X2.length xk2, X1, X2⟩ _ s7 ROW.out (BOX.out (w.heap.size, ⟨xp, .slice xa1 X1.length xk1, .slice xa2 X2.length xk2, X1, X2⟩) (by simp)).2.1 (BOX.out (w.heap.size, ⟨xp, .slice xa1 X1.length xk1, .slice xa2 X2.length xk2, X1, X2⟩) (by simp)).2.2 SLP.out TRL.out
            have BNN : Hid (Below s7.heap.size s7 _) := below_nw s7 (.cells #[.int .i64 (HA.at_ ⟨xp, .slice xa1 X1.length xk1, .slice xa2 X2.length xk2, X1, X2⟩), (HA.vo ⟨xp, .slice xa1 X1.length xk1, .slice xa2 X2.length xk2, X1, X2⟩), (HA.vn ⟨xp, .slice xa1 X1.length xk1, .slice xa2 X2.length xk2, X1, X2⟩)] 41)
            simp only at AP BNN
            gi_wp2_with fail
            refine ⟨trivial, ?_⟩
            refine (callsIn_wide.2 AP.out).mono ?_
            intro e y1 hp
            obtain ⟨qa1, qc1, N1, n1, rfl, -, hN, by0⟩ := hp.parts
            have HN1 : Hid (ApRes _ N1 n1) := hN
            have by1 := below_then BNN.out by0
            clear hp hN by0 AP BNN
            have BOX2 : Hid (Boxes y1 _) := Boxes.below BOX.out by1
            have BW2 : Hid (Below w.heap.size w y1) := below_then BW.out by1
            have ROW2 : Hid (RowLow y1.heap.size y1 (.slice va L.length vc) L) := RowLow.at ROW.out by1
            clear fp0 fp1 fp2 fpl fq0 fq1 fq2 fql fqm0
            clear BOX BW ROW by1
            have BOX : Hid (Boxes y1 _) := BOX2
            have BW : Hid (Below w.heap.size w y1) := BW2.out
            have ROW : Hid (RowLow y1.heap.size y1 (.slice va L.length vc) L) := ROW2.out
            obtain ⟨fp0, fp1, fp2⟩ := HBox.cells (BOX.out (w.heap.size, ⟨xp, .slice xa1 X1.length xk1, .slice xa2 X2.length xk2, X1, X2⟩) (by simp)).1
            have fpl := HBox.lt (BOX.out (w.heap.size, ⟨xp, .slice xa1 X1.length xk1, .slice xa2 X2.length xk2, X1, X2⟩) (by simp)).1
            simp only at fp0 fp1 fp2 fpl
            obtain ⟨fq0, fq1, fq2⟩ := HBox.cells (BOX.out (w.heap.size + 1, ⟨yp, .slice ya1 Y1.length yk1, .slice ya2 Y2.length yk2, Y1, Y2⟩) (by simp)).1
            have fql := HBox.lt (BOX.out (w.heap.size + 1, ⟨yp, .slice ya1 Y1.length yk1, .slice ya2 Y2.length yk2, Y1, Y2⟩) (by simp)).1
            simp only at fq0 fq1 fq2 fql
            have fqm0 := Nat.lt_of_le_of_lt (show w.heap.size ≤ w.heap.size + 1 by omega) fql
            clear BOX2 BW2 ROW2
            have AP : Hid (_) := apply_hunk L ⟨yp, .slice ya1 Y1.length yk1, .slice ya2 Y2.length yk2, Y1, Y2⟩ _ y1 ROW.out (BOX.out (w.heap.size + 1, ⟨yp, .slice ya1 Y1.length yk1, .slice ya2 Y2.length yk2, Y1, Y2⟩) (by simp)).2.1 (BOX.out (w.heap.size + 1, ⟨yp, .slice ya1 Y1.length yk1, .slice ya2 Y2.length yk2, Y1, Y2⟩) (by simp)).2.2 SLQ.out TRL.out
            have BNN : Hid (Below y1.heap.size y1 _) := below_nw y1 (.cells #[.int .i64 (HA.at_ ⟨yp, .slice ya1 Y1.length yk1, .slice ya2 Y2.length yk2, Y1, Y2⟩), (HA.vo ⟨yp, .slice ya1 Y1.length yk1, .slice ya2 Y2.length yk2, Y1, Y2⟩), (HA.vn ⟨yp, .slice ya1 Y1.length yk1, .slice ya2 Y2.length yk2, Y1, Y2⟩)] 41)
            simp only at AP BNN
            gi_wp2_with fail
            refine ⟨trivial, ?_⟩
            refine (callsIn_wide.2 AP.out).mono ?_
            intro e y2 hp
            obtain ⟨qa2, qc2, N2, n2, rfl, -, hN, by0⟩ := hp.parts
            have HN2 : Hid (ApRes _ N2 n2) := hN
            have by2 := below_then BNN.out by0
            clear hp hN by0 AP BNN
            have BOX2 : Hid (Boxes y2 _) := Boxes.below BOX.out by2
            have BW2 : Hid (Below w.heap.size w y2) := below_then BW.out by2
            have ROW2 : Hid (RowLow y2.heap.size y2 (.slice va L.length vc) L) := RowLow.at ROW.out by2
            clear fp0 fp1 fp2 fpl fq0 fq1 fq2 fql fqm0
            clear BOX BW ROW by2
            have BOX : Hid (Boxes y2 _) := BOX2
            have BW : Hid (Below w.heap.size w y2) := BW2.out
            have ROW : Hid (RowLow y2.heap.size y2 (.slice va L.length vc) L) := ROW2.out
            obtain ⟨fp0, fp1, fp2⟩ := HBox.cells (BOX.out (w.heap.size, ⟨xp, .slice xa1 X1.length xk1, .slice xa2 X2.length xk2, X1, X2⟩) (by simp)).1
            have fpl := HBox.lt (BOX.out (w.heap.size, ⟨xp, .slice xa1 X1.length xk1, .slice xa2 X2.length xk2, X1, X2⟩) (by simp)).1
            simp only at fp0 fp1 fp2 fpl
            obtain ⟨ft0, ft1, ft2⟩ := HBox.cells (BOX.out (t21.heap.size + 1, ⟨p212, .slice a213 L213.length c213, .slice a214 L214.length c214, L213, L214⟩) (by simp)).1
            have ftl := HBox.lt (BOX.out (t21.heap.size + 1, ⟨p212, .slice a213 L213.length c213, .slice a214 L214.length c214, L213, L214⟩) (by simp)).1
            simp only at ft0 ft1 ft2 ftl
            have ftm0 := Nat.lt_of_le_of_lt (show t21.heap.size ≤ t21.heap.size + 1 by omega) ftl
            clear BOX2 BW2 ROW2
            by_cases hm1 : n1 = 0
            case neg =>
              have hm2 := cast_ne n1 hm1
              gi_wp2
              exact bodyPost_ret (results_tmp rfl _ _ _) rfl ⟨rfl, BW.out⟩
            subst hm1
            by_cases hm3 : n2 = 0
            case neg =>
              have hm4 := cast_ne n2 hm3
              gi_wp2
              exact bodyPost_ret (results_tmp rfl _ _ _) rfl ⟨rfl, BW.out⟩
            subst hm3
            have hmr := shRes_zero_m HR21.out
            obtain ⟨y1, hy1⟩ : ∃ y1, Hn.apply L [HA.h ⟨xp, .slice xa1 X1.length xk1, .slice xa2 X2.length xk2, X1, X2⟩] = .ok y1 := ap_zero HN1.out
            obtain ⟨z1, hz1⟩ : ∃ z1, Hn.apply L [HA.h ⟨yp, .slice ya1 Y1.length yk1, .slice ya2 Y2.length yk2, Y1, Y2⟩] = .ok z1 := ap_zero HN2.out
            obtain ⟨XX, hxx1, hxx2⟩ := Hn.merge_apply hmr hy1 hz1
            have HT1 : Hid (twoRes L _ _ = (XX, true)) := twoRes_mk hy1 hxx1
            have HT2 : Hid (twoRes L _ _ = (XX, true)) := twoRes_mk hz1 hxx2
            have HCC : Hid (_) := Hn.merge_commute hmr
            clear hmr hy1 hz1 hxx1 hxx2 HN1 HN2 HUV HR21
            have TW : Hid (_) := two_any L ⟨xp, .slice xa1 X1.length xk1, .slice xa2 X2.length xk2, X1, X2⟩ ⟨p212, .slice a213 L213.length c213, .slice a214 L214.length c214, L213, L214⟩ _ y2 ROW.out (BOX.out (w.heap.size, ⟨xp, .slice xa1 X1.length xk1, .slice xa2 X2.length xk2, X1, X2⟩) (by simp)).2.1 (BOX.out (t21.heap.size + 1, ⟨p212, .slice a213 L213.length c213, .slice a214 L214.length c214, L213, L214⟩) (by simp)).2.1 (BOX.out (w.heap.size, ⟨xp, .slice xa1 X1.length xk1, .slice xa2 X2.length xk2, X1, X2⟩) (by simp)).2.2 (BOX.out (t21.heap.size + 1, ⟨p212, .slice a213 L213.length c213, .slice a214 L214.length c214, L213, L214⟩) (by simp)).2.2 SLP.out SL21.out.2 TRL.out (by have := LL.out; omega)
            simp only [HA.val] at TW
            gi_wp2_with fail
            refine ⟨trivial, ?_⟩
            refine (callsIn_wide.2 TW.out).mono ?_
            rintro e m8 ⟨ra8, rc8, M8, ok8, rfl, hm, rw, tm, lm, bm⟩
            have HM8 : Hid (_) := hm
            have RW8 : Hid (RowLow m8.heap.size m8 (.slice ra8 M8.length rc8) M8) := rw
            have TM8 : Hid (Trim M8 ∧ M8.length ≤ L.length + 4000) := ⟨tm, lm⟩
            clear hm rw tm lm TW
            have hh8 := HM8.out.trans HT1.out
            simp only [Prod.mk.injEq] at hh8
            obtain ⟨hm8, rfl⟩ := hh8
            subst hm8
            clear HM8 HT1
            have BOX2 : Hid (Boxes m8 _) := Boxes.below BOX.out bm
            have BW2 : Hid (Below w.heap.size w m8) := below_then BW.out bm
            have ROW2 : Hid (RowLow m8.heap.size m8 (.slice va L.length vc) L) := RowLow.at ROW.out bm
            clear fp0 fp1 fp2 fpl ft0 ft1 ft2 ftl ftm0
            clear BOX BW ROW bm
            have BOX : Hid (Boxes m8 _) := BOX2
            have BW : Hid (Below w.heap.size w m8) := BW2.out
            have ROW : Hid (RowLow m8.heap.size m8 (.slice va L.length vc) L) := ROW2.out
            obtain ⟨fq0, fq1, fq2⟩ := HBox.cells (BOX.out (w.heap.size + 1, ⟨yp, .slice ya1 Y1.length yk1, .slice ya2 Y2.length yk2, Y1, Y2⟩) (by simp)).1
            have fql := HBox.lt (BOX.out (w.heap.size + 1, ⟨yp, .slice ya1 Y1.length yk1, .slice ya2 Y2.length yk2, Y1, Y2⟩) (by simp)).1
            simp only at fq0 fq1 fq2 fql
            have fqm0 := Nat.lt_of_le_of_lt (show w.heap.size ≤ w.heap.size + 1 by omega) fql
            obtain ⟨fs0, fs1, fs2⟩ := HBox.cells (BOX.out (t21.heap.size, ⟨p211, .slice a211 L211.length c211, .slice a212 L212.length c212, L211, L212⟩) (by simp)).1
            have fsl := HBox.lt (BOX.out (t21.heap.size, ⟨p211, .slice a211 L211.length c211, .slice a212 L212.length c212, L211, L212⟩) (by simp)).1
            simp only at fs0 fs1 fs2 fsl
            clear BOX2 BW2 ROW2
            have TW : Hid (_) := two_any L ⟨yp, .slice ya1 Y1.length yk1, .slice ya2 Y2.length yk2, Y1, Y2⟩ ⟨p211, .slice a211 L211.length c211, .slice a212 L212.length c212, L211, L212⟩ _ m8 ROW.out (BOX.out (w.heap.size + 1, ⟨yp, .slice ya1 Y1.length yk1, .slice ya2 Y2.length yk2, Y1, Y2⟩) (by simp)).2.1 (BOX.out (t21.heap.size, ⟨p211, .slice a211 L211.length c211, .slice a212 L212.length c212, L211, L212⟩) (by simp)).2.1 (BOX.out (w.heap.size + 1, ⟨yp, .slice ya1 Y1.length yk1, .slice ya2 Y2.length yk2, Y1, Y2⟩) (by simp)).2.2 (BOX.out (t21.heap.size, ⟨p211, .slice a211 L211.length c211, .slice a212 L212.length c212, L211, L212⟩) (by simp)).2.2 SLQ.out SL21.out.1 TRL.out (by have := LL.out; omega)
            simp only [HA.val] at TW
            gi_wp2_with fail
            refine ⟨trivial, ?_⟩
            refine (callsIn_wide.2 TW.out).mono ?_
            rintro e m9 ⟨ra9, rc9, M9, ok9, rfl, hm, rw, tm, lm, bm⟩
            have HM9 : Hid (_) := hm
            have RW9 : Hid (RowLow m9.heap.size m9 (.slice ra9 M9.length rc9) M9) := rw
            have TM9 : Hid (Trim M9 ∧ M9.length ≤ L.length + 4000) := ⟨tm, lm⟩
            clear hm rw tm lm TW
            have hh9 := HM9.out.trans HT2.out
            simp only [Prod.mk.injEq] at hh9
            obtain ⟨hm9, rfl⟩ := hh9
            subst hm9
            have R89 : Hid (_) := RowLow.at RW8.out bm
            clear HM9 HT2 RW8
            have BOX2 : Hid (Boxes m9 _) := Boxes.below BOX.out bm
            have BW2 : Hid (Below w.heap.size w m9) := below_then BW.out bm
            have ROW2 : Hid (RowLow m9.heap.size m9 (.slice va L.length vc) L) := RowLow.at ROW.out bm
            clear fq0 fq1 fq2 fql fqm0 fs0 fs1 fs2 fsl
            clear BOX BW ROW bm
            have BOX : Hid (Boxes m9 _) := BOX2
            have BW : Hid (Below w.heap.size w m9) := BW2.out
            have ROW : Hid (RowLow m9.heap.size m9 (.slice va L.length vc) L) := ROW2.out
            obtain ⟨fp0, fp1, fp2⟩ := HBox.cells (BOX.out (w.heap.size, ⟨xp, .slice xa1 X1.length xk1, .slice xa2 X2.length xk2, X1, X2⟩) (by simp)).1
            have fpl := HBox.lt (BOX.out (w.heap.size, ⟨xp, .slice xa1 X1.length xk1, .slice xa2 X2.length xk2, X1, X2⟩) (by simp)).1
            simp only at fp0 fp1 fp2 fpl
            obtain ⟨ft0, ft1, ft2⟩ := HBox.cells (BOX.out (t21.heap.size + 1, ⟨p212, .slice a213 L213.length c213, .slice a214 L214.length c214, L213, L214⟩) (by simp)).1
            have ftl := HBox.lt (BOX.out (t21.heap.size + 1, ⟨p212, .slice a213 L213.length c213, .slice a214 L214.length c214, L213, L214⟩) (by simp)).1
            simp only at ft0 ft1 ft2 ftl
            have ftm0 := Nat.lt_of_le_of_lt (show t21.heap.size ≤ t21.heap.size + 1 by omega) ftl
            clear BOX2 BW2 ROW2
            have CM : Hid (_) := commute_any ⟨xp, .slice xa1 X1.length xk1, .slice xa2 X2.length xk2, X1, X2⟩ ⟨p212, .slice a213 L213.length c213, .slice a214 L214.length c214, L213, L214⟩ m9.heap.size m9 (BOX.out (w.heap.size, ⟨xp, .slice xa1 X1.length xk1, .slice xa2 X2.length xk2, X1, X2⟩) (by simp)).2.1 (BOX.out (t21.heap.size + 1, ⟨p212, .slice a213 L213.length c213, .slice a214 L214.length c214, L213, L214⟩) (by simp)).2.1 (Nat.le_refl _) (BOX.out (w.heap.size, ⟨xp, .slice xa1 X1.length xk1, .slice xa2 X2.length xk2, X1, X2⟩) (by simp)).2.2 (BOX.out (t21.heap.size + 1, ⟨p212, .slice a213 L213.length c213, .slice a214 L214.length c214, L213, L214⟩) (by simp)).2.2
            simp only [HA.val] at CM
            gi_wp2_with fail
            refine ⟨trivial, ?_⟩
            refine (callsIn_wide.2 CM.out).mono ?_
            intro e t23 hp
            obtain ⟨p231, a231, c231, a232, c232, L231, L232, p232, a233, c233, a234, c234, L233, L234, ni, rfl, hres, lA, lB, bt⟩ := hp.parts
            have HR23 : Hid (_) := hres
            obtain ⟨fA, fB⟩ := commute_fine hres (BOX.out (w.heap.size, ⟨xp, .slice xa1 X1.length xk1, .slice xa2 X2.length xk2, X1, X2⟩) (by simp)).2.2 (BOX.out (t21.heap.size + 1, ⟨p212, .slice a213 L213.length c213, .slice a214 L214.length c214, L213, L214⟩) (by simp)).2.2
            have BOXt : Hid (Boxes t23 _) := Boxes.below BOX.out bt
            obtain ⟨V23, hV23, bV, BOX2⟩ := Boxes.two BOXt.out ⟨p231, .slice a231 L231.length c231, .slice a232 L232.length c232, L231, L232⟩ ⟨p232, .slice a233 L233.length c233, .slice a234 L234.length c234, L233, L234⟩ lA lB fA fB
            simp only at hV23
            have BW2 : Hid (Below w.heap.size w V23) := below_then BW.out (below_then bt bV)
            have R8 : Hid (_) := RowLow.at R89.out (below_then bt bV)
            have R9 : Hid (_) := RowLow.at RW9.out (below_then bt bV)
            have ROW2 : Hid (RowLow V23.heap.size V23 (.slice va L.length vc) L) := RowLow.at ROW.out (below_then bt bV)
            clear fp0 fp1 fp2 fpl ft0 ft1 ft2 ftl ftm0
            clear BOX BW ROW CM hp hres lA lB bt bV fA fB
            have BOX : Hid (Boxes V23 _) := BOX2
            have BW : Hid (Below w.heap.size w V23) := BW2.out
            have ROW : Hid (RowLow V23.heap.size V23 (.slice va L.length vc) L) := ROW2.out
            obtain ⟨fq0, fq1, fq2⟩ := HBox.cells (BOXt.out (w.heap.size + 1, ⟨yp, .slice ya1 Y1.length yk1, .slice ya2 Y2.length yk2, Y1, Y2⟩) (by simp)).1
            have fql := HBox.lt (BOXt.out (w.heap.size + 1, ⟨yp, .slice ya1 Y1.length yk1, .slice ya2 Y2.length yk2, Y1, Y2⟩) (by simp)).1
            simp only at fq0 fq1 fq2 fql
            have fqm0 := Nat.lt_of_le_of_lt (show w.heap.size ≤ w.heap.size + 1 by omega) fql
            obtain ⟨fs0, fs1, fs2⟩ := HBox.cells (BOXt.out (t21.heap.size, ⟨p211, .slice a211 L211.length c211, .slice a212 L212.length c212, L211, L212⟩) (by simp)).1
            have fsl := HBox.lt (BOXt.out (t21.heap.size, ⟨p211, .slice a211 L211.length c211, .slice a212 L212.length c212, L211, L212⟩) (by simp)).1
            simp only at fs0 fs1 fs2 fsl
            clear BOX2 BW2 BOXt ROW2
            obtain ⟨ec, ed, en⟩ := res_ok HR23.out HCC.out
            subst en
            have HEC : Hid (_ ∧ _) := ⟨ec, ed⟩
            clear ec ed HCC HR23 R89 RW9
            have SM : Hid (_) := same_yes V23 _ _ M9 V23.heap.size R8.out R9.out (by have := TM9.out.1.1; omega)
            gi_wp2_with fail
            rw [← hV23]
            clear hV23
            refine ⟨trivial, ?_⟩
            refine (callsIn_wide.2 SM.out).mono ?_
            rintro e q1 ⟨rfl, d1, hq1⟩
            have bq : Below V23.heap.size V23 q1 := by rw [hq1]; exact below_drewN (Below.refl _ _) d1
            clear hq1 SM
            have BOX2 : Hid (Boxes q1 _) := Boxes.below BOX.out bq
            have BW2 : Hid (Below w.heap.size w q1) := below_then BW.out bq
            have ROW2 : Hid (RowLow q1.heap.size q1 (.slice va L.length vc) L) := RowLow.at ROW.out bq
            clear R8 R9
            clear fq0 fq1 fq2 fql fqm0 fs0 fs1 fs2 fsl
            clear BOX BW ROW bq
            have BOX : Hid (Boxes q1 _) := BOX2
            have BW : Hid (Below w.heap.size w q1) := BW2.out
            have ROW : Hid (RowLow q1.heap.size q1 (.slice va L.length vc) L) := ROW2.out
            obtain ⟨fq0, fq1, fq2⟩ := HBox.cells (BOX.out (w.heap.size + 1, ⟨yp, .slice ya1 Y1.length yk1, .slice ya2 Y2.length yk2, Y1, Y2⟩) (by simp)).1
            have fql := HBox.lt (BOX.out (w.heap.size + 1, ⟨yp, .slice ya1 Y1.length yk1, .slice ya2 Y2.length yk2, Y1, Y2⟩) (by simp)).1
            simp only at fq0 fq1 fq2 fql
            have fqm0 := Nat.lt_of_le_of_lt (show w.heap.size ≤ w.heap.size + 1 by omega) fql
            obtain ⟨fs0, fs1, fs2⟩ := HBox.cells (BOX.out (t21.heap.size, ⟨p211, .slice a211 L211.length c211, .slice a212 L212.length c212, L211, L212⟩) (by simp)).1
            have fsl := HBox.lt (BOX.out (t21.heap.size, ⟨p211, .slice a211 L211.length c211, .slice a212 L212.length c212, L211, L212⟩) (by simp)).1
            simp only at fs0 fs1 fs2 fsl
            obtain ⟨fcc0, fcc1, fcc2⟩ := HBox.cells (BOX.out (t23.heap.size, ⟨p231, .slice a231 L231.length c231, .slice a232 L232.length c232, L231, L232⟩) (by simp)).1
            have fccl := HBox.lt (BOX.out (t23.heap.size, ⟨p231, .slice a231 L231.length c231, .slice a232 L232.length c232, L231, L232⟩) (by simp)).1
            simp only at fcc0 fcc1 fcc2 fccl
            obtain ⟨fdd0, fdd1, fdd2⟩ := HBox.cells (BOX.out (t23.heap.size + 1, ⟨p232, .slice a233 L233.length c233, .slice a234 L234.length c234, L233, L234⟩) (by simp)).1
            have fddl := HBox.lt (BOX.out (t23.heap.size + 1, ⟨p232, .slice a233 L233.length c233, .slice a234 L234.length c234, L233, L234⟩) (by simp)).1
            simp only at fdd0 fdd1 fdd2 fddl
            have fddm0 := Nat.lt_of_le_of_lt (show t23.heap.size ≤ t23.heap.size + 1 by omega) fddl
            clear BOX2 BW2 ROW2
            have TL : Hid (_) := tells_yes ⟨p231, .slice a231 L231.length c231, .slice a232 L232.length c232, L231, L232⟩ ⟨p232, .slice a233 L233.length c233, .slice a234 L234.length c234, L233, L234⟩ ⟨yp, .slice ya1 Y1.length yk1, .slice ya2 Y2.length yk2, Y1, Y2⟩ ⟨p211, .slice a211 L211.length c211, .slice a212 L212.length c212, L211, L212⟩ q1.heap.size q1 (BOX.out (t23.heap.size, ⟨p231, .slice a231 L231.length c231, .slice a232 L232.length c232, L231, L232⟩) (by simp)).2.1 (BOX.out (t23.heap.size + 1, ⟨p232, .slice a233 L233.length c233, .slice a234 L234.length c234, L233, L234⟩) (by simp)).2.1 (BOX.out (w.heap.size + 1, ⟨yp, .slice ya1 Y1.length yk1, .slice ya2 Y2.length yk2, Y1, Y2⟩) (by simp)).2.1 (BOX.out (t21.heap.size, ⟨p211, .slice a211 L211.length c211, .slice a212 L212.length c212, L211, L212⟩) (by simp)).2.1 (Nat.le_refl _) HEC.out.1 HEC.out.2 (BOX.out (t23.heap.size, ⟨p231, .slice a231 L231.length c231, .slice a232 L232.length c232, L231, L232⟩) (by simp)).2.2.1 (BOX.out (t23.heap.size + 1, ⟨p232, .slice a233 L233.length c233, .slice a234 L234.length c234, L233, L234⟩) (by simp)).2.2.1
            simp only [HA.val] at TL
            gi_wp2_with fail
            refine ⟨trivial, ?_⟩
            refine (callsIn_wide.2 TL.out).mono ?_
            rintro e s9 ⟨rfl, bs⟩
            have BOX2 : Hid (Boxes s9 _) := Boxes.below BOX.out bs
            have BW2 : Hid (Below w.heap.size w s9) := below_then BW.out bs
            have ROW2 : Hid (RowLow s9.heap.size s9 (.slice va L.length vc) L) := RowLow.at ROW.out bs
            clear TL
            clear fq0 fq1 fq2 fql fqm0 fs0 fs1 fs2 fsl fcc0 fcc1 fcc2 fccl fdd0 fdd1 fdd2 fddl fddm0
            clear BOX BW ROW bs
            have BOX : Hid (Boxes s9 _) := BOX2
            have BW : Hid (Below w.heap.size w s9) := BW2.out
            have ROW : Hid (RowLow s9.heap.size s9 (.slice va L.length vc) L) := ROW2.out
            obtain ⟨fp0, fp1, fp2⟩ := HBox.cells (BOX.out (w.heap.size, ⟨xp, .slice xa1 X1.length xk1, .slice xa2 X2.length xk2, X1, X2⟩) (by simp)).1
            have fpl := HBox.lt (BOX.out (w.heap.size, ⟨xp, .slice xa1 X1.length xk1, .slice xa2 X2.length xk2, X1, X2⟩) (by simp)).1
            simp only at fp0 fp1 fp2 fpl
            clear BOX2 BW2 ROW2
            gi_wp2
            exact bodyPost_ret (results_tmp rfl _ _ _) rfl ⟨rfl, BW.out⟩
        | true =>
          obtain ⟨x1, hx1, hx2⟩ := twoRes_ok HM1.out
          obtain ⟨y1, hy1, hy2⟩ := Hn.commute_apply HCM.out hx1 hx2
          have HT2 : Hid (twoRes L _ _ = (M1, true)) := twoRes_mk hy1 hy2
          have HT3 : Hid (twoRes M1 _ _ = (L, true)) := twoRes_mk (Hn.apply_inv hy2) (Hn.apply_inv hy1)
          clear hx1 hx2 hy1 hy2 HM1 HCM
          have TW : Hid (_) := two_any L ⟨p11, .slice a11 L11.length c11, .slice a12 L12.length c12, L11, L12⟩ ⟨p12, .slice a13 L13.length c13, .slice a14 L14.length c14, L13, L14⟩ _ m1 ROW.out (BOX.out (t1.heap.size, ⟨p11, .slice a11 L11.length c11, .slice a12 L12.length c12, L11, L12⟩) (by simp)).2.1 (BOX.out (t1.heap.size + 1, ⟨p12, .slice a13 L13.length c13, .slice a14 L14.length c14, L13, L14⟩) (by simp)).2.1 (BOX.out (t1.heap.size, ⟨p11, .slice a11 L11.length c11, .slice a12 L12.length c12, L11, L12⟩) (by simp)).2.2 (BOX.out (t1.heap.size + 1, ⟨p12, .slice a13 L13.length c13, .slice a14 L14.length c14, L13, L14⟩) (by simp)).2.2 SL1.out.1 SL1.out.2 TRL.out (by have := LL.out; omega)
          simp only [HA.val] at TW
          gi_wp2_with fail
          refine ⟨trivial, ?_⟩
          refine (callsIn_wide.2 TW.out).mono ?_
          rintro e m2 ⟨ra2, rc2, M2, ok2, rfl, hm, rw, tm, lm, bm⟩
          have HM2 : Hid (_) := hm
          have RW2 : Hid (RowLow m2.heap.size m2 (.slice ra2 M2.length rc2) M2) := rw
          have TM2 : Hid (Trim M2 ∧ M2.length ≤ L.length + 4000) := ⟨tm, lm⟩
          clear hm rw tm lm TW
          have hh2 := HM2.out.trans HT2.out
          simp only [Prod.mk.injEq] at hh2
          obtain ⟨hm2, rfl⟩ := hh2
          subst hm2
          have R12 : Hid (_) := RowLow.at RW1.out bm
          clear HM2 HT2 RW1
          have BOX2 : Hid (Boxes m2 _) := Boxes.below BOX.out bm
          have BW2 : Hid (Below w.heap.size w m2) := below_then BW.out bm
          have ROW2 : Hid (RowLow m2.heap.size m2 (.slice va L.length vc) L) := RowLow.at ROW.out bm
          clear fp0 fp1 fp2 fpl fq0 fq1 fq2 fql fqm0 fa0 fa1 fa2 fal fb0 fb1 fb2 fbl fbm0
          clear BOX BW ROW bm
          have BOX : Hid (Boxes m2 _) := BOX2
          have BW : Hid (Below w.heap.size w m2) := BW2.out
          have ROW : Hid (RowLow m2.heap.size m2 (.slice va L.length vc) L) := ROW2.out
          obtain ⟨fp0, fp1, fp2⟩ := HBox.cells (BOX.out (w.heap.size, ⟨xp, .slice xa1 X1.length xk1, .slice xa2 X2.length xk2, X1, X2⟩) (by simp)).1
          have fpl := HBox.lt (BOX.out (w.heap.size, ⟨xp, .slice xa1 X1.length xk1, .slice xa2 X2.length xk2, X1, X2⟩) (by simp)).1
          simp only at fp0 fp1 fp2 fpl
          obtain ⟨fq0, fq1, fq2⟩ := HBox.cells (BOX.out (w.heap.size + 1, ⟨yp, .slice ya1 Y1.length yk1, .slice ya2 Y2.length yk2, Y1, Y2⟩) (by simp)).1
          have fql := HBox.lt (BOX.out (w.heap.size + 1, ⟨yp, .slice ya1 Y1.length yk1, .slice ya2 Y2.length yk2, Y1, Y2⟩) (by simp)).1
          simp only at fq0 fq1 fq2 fql
          have fqm0 := Nat.lt_of_le_of_lt (show w.heap.size ≤ w.heap.size + 1 by omega) fql
          obtain ⟨fa0, fa1, fa2⟩ := HBox.cells (BOX.out (t1.heap.size, ⟨p11, .slice a11 L11.length c11, .slice a12 L12.length c12, L11, L12⟩) (by simp)).1
          have fal := HBox.lt (BOX.out (t1.heap.size, ⟨p11, .slice a11 L11.length c11, .slice a12 L12.length c12, L11, L12⟩) (by simp)).1
          simp only at fa0 fa1 fa2 fal
          obtain ⟨fb0, fb1, fb2⟩ := HBox.cells (BOX.out (t1.heap.size + 1, ⟨p12, .slice a13 L13.length c13, .slice a14 L14.length c14, L13, L14⟩) (by simp)).1
          have fbl := HBox.lt (BOX.out (t1.heap.size + 1, ⟨p12, .slice a13 L13.length c13, .slice a14 L14.length c14, L13, L14⟩) (by simp)).1
          simp only at fb0 fb1 fb2 fbl
          have fbm0 := Nat.lt_of_le_of_lt (show t1.heap.size ≤ t1.heap.size + 1 by omega) fbl
          clear BOX2 BW2 ROW2
          have LM : Hid (M2.length ≤ 6000) := by show M2.length ≤ 6000; have := TM1.out.2; have := LL.out; omega
          have IB : Hid (_) := invert_any ⟨p12, .slice a13 L13.length c13, .slice a14 L14.length c14, L13, L14⟩ (m2.drewN 1).heap.size (m2.drewN 1) (BOX.out (t1.heap.size + 1, ⟨p12, .slice a13 L13.length c13, .slice a14 L14.length c14, L13, L14⟩) (by simp)).2.1 (Nat.le_refl _) (BOX.out (t1.heap.size + 1, ⟨p12, .slice a13 L13.length c13, .slice a14 L14.length c14, L13, L14⟩) (by simp)).2.2.1 (BOX.out (t1.heap.size + 1, ⟨p12, .slice a13 L13.length c13, .slice a14 L14.length c14, L13, L14⟩) (by simp)).2.2.2.1.1 (BOX.out (t1.heap.size + 1, ⟨p12, .slice a13 L13.length c13, .slice a14 L14.length c14, L13, L14⟩) (by simp)).2.2.2.1.2
          have IA : Hid (∀ W, Below m2.heap.size m2 W → _) := fun W hW => invert_any ⟨p11, .slice a11 L11.length c11, .slice a12 L12.length c12, L11, L12⟩ W.heap.size W (HA.Low.at (BOX.out (t1.heap.size, ⟨p11, .slice a11 L11.length c11, .slice a12 L12.length c12, L11, L12⟩) (by simp)).2.1 hW) (Nat.le_refl _) (BOX.out (t1.heap.size, ⟨p11, .slice a11 L11.length c11, .slice a12 L12.length c12, L11, L12⟩) (by simp)).2.2.1 (BOX.out (t1.heap.size, ⟨p11, .slice a11 L11.length c11, .slice a12 L12.length c12, L11, L12⟩) (by simp)).2.2.2.1.1 (BOX.out (t1.heap.size, ⟨p11, .slice a11 L11.length c11, .slice a12 L12.length c12, L11, L12⟩) (by simp)).2.2.2.1.2
          have CAB : Hid (∀ W, Below m2.heap.size m2 W → HBox W (t1.heap.size + 1) ⟨p12, .slice a13 L13.length c13, .slice a14 L14.length c14, L13, L14⟩ ∧ HBox W (t1.heap.size) ⟨p11, .slice a11 L11.length c11, .slice a12 L12.length c12, L11, L12⟩) := fun W hW => ⟨HBox.below (BOX.out (t1.heap.size + 1, ⟨p12, .slice a13 L13.length c13, .slice a14 L14.length c14, L13, L14⟩) (by simp)).1 hW, HBox.below (BOX.out (t1.heap.size, ⟨p11, .slice a11 L11.length c11, .slice a12 L12.length c12, L11, L12⟩) (by simp)).1 hW⟩
          have FAB : Hid ((HA.Fine ⟨p11, .slice a11 L11.length c11, .slice a12 L12.length c12, L11, L12⟩ ∧ HA.Fine ⟨p12, .slice a13 L13.length c13, .slice a14 L14.length c14, L13, L14⟩) ∧ HA.Slim ⟨p11, .slice a11 L11.length c11, .slice a12 L12.length c12, L11, L12⟩ ∧ HA.Slim ⟨p12, .slice a13 L13.length c13, .slice a14 L14.length c14, L13, L14⟩) := ⟨⟨(BOX.out (t1.heap.size, ⟨p11, .slice a11 L11.length c11, .slice a12 L12.length c12, L11, L12⟩) (by simp)).2.2, (BOX.out (t1.heap.size + 1, ⟨p12, .slice a13 L13.length c13, .slice a14 L14.length c14, L13, L14⟩) (by simp)).2.2⟩, SL1.out⟩
          have R12b : Hid (RowLow m2.heap.size m2 (.slice ra1 M2.length rc1) M2) := R12.out
          simp only [HA.val] at IB IA
          gi_wp2_with fail
          clear fp0 fp1 fp2 fpl fq0 fq1 fq2 fql fqm0 fa0 fa1 fa2 fal fb0 fb1 fb2 fbl fbm0
          have BD : Below m2.heap.size m2 (m2.drewN 1) := below_drewN (Below.refl _ m2) 1
          refine region_lex (fun W => Below m2.heap.size m2 W) 2 9 rfl (by kernel_rfl) (by kernel_rfl) (by kernel_rfl) (by kernel_rfl) (fun _ _ d _ _ h => by cases d <;> exact h) BD ?_
          simp only [List.take_succ_cons, List.take_zero]
          iterate 2 (apply lexC_want; (rfl); (exact fun _ => rfl); (intro w' hw'; obtain ⟨q0, q1, q2⟩ := HBox.cells (CAB.out w' hw').1; simp only at q0 q1 q2; go_simp; try rfl); simp only [Act.put, List.setIfInBounds_toArray, List.set_cons_zero, List.set_cons_succ])
          refine lexC_nil ?_
          refine anyC_take (i := 3) (v := .agg #[.int .i64 p11, .slice a11 L11.length c11, .slice a12 L12.length c12]) rfl rfl (by kernel_rfl) (by kernel_rfl) (by kernel_rfl) (fun _ _ d _ _ h => by cases d <;> exact h) BD (by rfl) (fun _ => rfl) (by intro w' hw'; obtain ⟨q0, q1, q2⟩ := HBox.cells (CAB.out w' hw').2; simp only at q0 q1 q2; go_simp; try rfl) ?_
          refine anyC_one (i := 2) (by kernel_rfl) rfl (by rfl) (fun K1 hK1 => ?_)
          go_simp
          refine ⟨trivial, ?_⟩
          refine (callsIn_wide.2 IB.out).mono ?_
          rintro e i1 ⟨io, iN, in1, rfl, oo1, on1, -, -, bi1⟩
          obtain ⟨ioa, ioc, rfl⟩ := slice_shape oo1
          obtain ⟨ina, inc, rfl⟩ := slice_shape on1
          have Bi1 : Below m2.heap.size m2 i1 := BD.trans bi1
          have LI1 : Hid (HA.Low i1.heap.size i1 ⟨p12, .slice ioa L14.length ioc, .slice ina L13.length inc, L14, L13⟩) := ⟨RowLow.of_owns oo1, RowLow.of_owns on1⟩
          refine hK1 _ _ Bi1 ?_
          clear hK1 oo1 on1 bi1 IB
          refine anyC_one (i := 4) (by kernel_rfl) rfl (by rfl) (fun K2 hK2 => ?_)
          go_simp
          refine ⟨trivial, ?_⟩
          refine (callsIn_wide.2 (IA.out i1 Bi1)).mono ?_
          rintro e i2 ⟨jo, jN, jn1, rfl, oo2, on2, -, -, bi2⟩
          obtain ⟨joa, joc, rfl⟩ := slice_shape oo2
          obtain ⟨jna, jnc, rfl⟩ := slice_shape on2
          have Bi2 : Below m2.heap.size m2 i2 := below_then Bi1 bi2
          have LI2 : Hid (HA.Low i2.heap.size i2 ⟨p11, .slice joa L12.length joc, .slice jna L11.length jnc, L12, L11⟩) := ⟨RowLow.of_owns oo2, RowLow.of_owns on2⟩
          have LI12 : Hid (_) := HA.Low.at LI1.out bi2
          refine hK2 _ _ Bi2 ?_
          clear hK2 oo2 on2 bi2 IA LI1
          have TW : Hid (_) := two_any M2 ⟨p12, .slice ioa L14.length ioc, .slice ina L13.length inc, L14, L13⟩ ⟨p11, .slice joa L12.length joc, .slice jna L11.length jnc, L12, L11⟩ _ i2 (RowLow.at R12b.out Bi2) LI12.out LI2.out (fine_swap FAB.out.1.2) (fine_swap FAB.out.1.1) ⟨FAB.out.2.2.2, FAB.out.2.2.1⟩ ⟨FAB.out.2.1.2, FAB.out.2.1.1⟩ TM1.out.1 (by have := LM.out; omega)
          simp only [HA.val] at TW
          refine anyC_one (i := 5) (by kernel_rfl) rfl (by rfl) (fun K3 hK3 => ?_)
          go_simp
          refine ⟨trivial, ?_⟩
          refine (callsIn_wide.2 TW.out).mono ?_
          rintro e m3 ⟨ra3, rc3, M3, ok3, rfl, hm, rw3, tm, lm, bm⟩
          have hh3 := hm.trans HT3.out
          simp only [Prod.mk.injEq] at hh3
          obtain ⟨hm3, rfl⟩ := hh3
          have hm3' := hm3.symm
          subst hm3'
          clear hm3
          have Bm3 : Below m2.heap.size m2 m3 := below_then Bi2 bm
          have RW3 : Hid (RowLow m3.heap.size m3 (.slice ra3 L.length rc3) L) := rw3
          refine hK3 _ _ Bm3 ?_
          clear hK3 TW hm tm lm rw3 HT3 LI12 LI2 Bi1 Bi2 bm BD
          refine anyC_one (i := 6) (by kernel_rfl) rfl (by rfl) (fun K hK => ?_)
          go_simp
          refine hK _ _ Bm3 ?_
          clear hK
          refine anyC_take (i := 7) (v := .slice ra3 L.length rc3) rfl rfl (by kernel_rfl) (by kernel_rfl) (by kernel_rfl) (fun _ _ d _ _ h => by cases d <;> exact h) Bm3 (by rfl) (fun _ => rfl) (by intro w' _; go_simp; try rfl) ?_
          refine anyC_take (i := 8) (v := .bool true) rfl rfl (by kernel_rfl) (by kernel_rfl) (by kernel_rfl) (fun _ _ d _ _ h => by cases d <;> exact h) Bm3 (by rfl) (fun _ => rfl) (by intro w' _; go_simp; try rfl) ?_
          refine anyC_take (i := 9) (v := .slice ra3 L.length rc3) rfl rfl (by kernel_rfl) (by kernel_rfl) (by kernel_rfl) (fun _ _ d _ _ h => by cases d <;> exact h) Bm3 (by rfl) (fun _ => rfl) (by intro w' _; go_simp; try rfl) ?_
          refine anyC_one (i := 10) (by kernel_rfl) rfl (by rfl) (fun K hK => ?_)
          go_simp
          refine hK _ _ Bm3 ?_
          clear hK
          refine anyC_done (by kernel_rfl) ?_
          have R13 : Hid (RowLow m3.heap.size m3 (.slice ra1 M2.length rc1) M2) := RowLow.at R12.out Bm3
          have R23 : Hid (RowLow m3.heap.size m3 (.slice ra2 M2.length rc2) M2) := RowLow.at RW2.out Bm3
          clear R12 R12b RW2 CAB FAB
          have BOX2 : Hid (Boxes m3 _) := Boxes.below BOX.out Bm3
          have BW2 : Hid (Below w.heap.size w m3) := below_then BW.out Bm3
          have ROW2 : Hid (RowLow m3.heap.size m3 (.slice va L.length vc) L) := RowLow.at ROW.out Bm3
          clear BOX BW ROW Bm3
          have BOX : Hid (Boxes m3 _) := BOX2
          have BW : Hid (Below w.heap.size w m3) := BW2.out
          have ROW : Hid (RowLow m3.heap.size m3 (.slice va L.length vc) L) := ROW2.out
          obtain ⟨fp0, fp1, fp2⟩ := HBox.cells (BOX.out (w.heap.size, ⟨xp, .slice xa1 X1.length xk1, .slice xa2 X2.length xk2, X1, X2⟩) (by simp)).1
          have fpl := HBox.lt (BOX.out (w.heap.size, ⟨xp, .slice xa1 X1.length xk1, .slice xa2 X2.length xk2, X1, X2⟩) (by simp)).1
          simp only at fp0 fp1 fp2 fpl
          obtain ⟨fq0, fq1, fq2⟩ := HBox.cells (BOX.out (w.heap.size + 1, ⟨yp, .slice ya1 Y1.length yk1, .slice ya2 Y2.length yk2, Y1, Y2⟩) (by simp)).1
          have fql := HBox.lt (BOX.out (w.heap.size + 1, ⟨yp, .slice ya1 Y1.length yk1, .slice ya2 Y2.length yk2, Y1, Y2⟩) (by simp)).1
          simp only at fq0 fq1 fq2 fql
          have fqm0 := Nat.lt_of_le_of_lt (show w.heap.size ≤ w.heap.size + 1 by omega) fql
          clear BOX2 BW2 ROW2
          have SM1 : Hid (_) := same_yes m3 _ _ M2 m3.heap.size R13.out R23.out (by have := LM.out; omega)
          gi_wp2_with fail
          refine ⟨trivial, ?_⟩
          refine (callsIn_wide.2 SM1.out).mono ?_
          rintro e m4 ⟨rfl, d4, hm4⟩
          have bm4 : Below m3.heap.size m3 m4 := by rw [hm4]; exact below_drewN (Below.refl _ _) d4
          have R34 : Hid (RowLow m4.heap.size m4 (.slice ra3 L.length rc3) L) := RowLow.at RW3.out bm4
          clear hm4 SM1 R13 R23 RW3
          have BOX2 : Hid (Boxes m4 _) := Boxes.below BOX.out bm4
          have BW2 : Hid (Below w.heap.size w m4) := below_then BW.out bm4
          have ROW2 : Hid (RowLow m4.heap.size m4 (.slice va L.length vc) L) := RowLow.at ROW.out bm4
          clear fp0 fp1 fp2 fpl fq0 fq1 fq2 fql fqm0
          clear BOX BW ROW bm4
          have BOX : Hid (Boxes m4 _) := BOX2
          have BW : Hid (Below w.heap.size w m4) := BW2.out
          have ROW : Hid (RowLow m4.heap.size m4 (.slice va L.length vc) L) := ROW2.out
          obtain ⟨fp0, fp1, fp2⟩ := HBox.cells (BOX.out (w.heap.size, ⟨xp, .slice xa1 X1.length xk1, .slice xa2 X2.length xk2, X1, X2⟩) (by simp)).1
          have fpl := HBox.lt (BOX.out (w.heap.size, ⟨xp, .slice xa1 X1.length xk1, .slice xa2 X2.length xk2, X1, X2⟩) (by simp)).1
          simp only at fp0 fp1 fp2 fpl
          obtain ⟨fq0, fq1, fq2⟩ := HBox.cells (BOX.out (w.heap.size + 1, ⟨yp, .slice ya1 Y1.length yk1, .slice ya2 Y2.length yk2, Y1, Y2⟩) (by simp)).1
          have fql := HBox.lt (BOX.out (w.heap.size + 1, ⟨yp, .slice ya1 Y1.length yk1, .slice ya2 Y2.length yk2, Y1, Y2⟩) (by simp)).1
          simp only at fq0 fq1 fq2 fql
          have fqm0 := Nat.lt_of_le_of_lt (show w.heap.size ≤ w.heap.size + 1 by omega) fql
          clear BOX2 BW2 ROW2
          have SM2 : Hid (_) := same_yes m4 _ _ L m4.heap.size R34.out ROW.out (by have := LL.out; omega)
          gi_wp2_with fail
          refine ⟨trivial, ?_⟩
          refine (callsIn_wide.2 SM2.out).mono ?_
          rintro e m5 ⟨rfl, d5, hm5⟩
          have bm5 : Below m4.heap.size m4 m5 := by rw [hm5]; exact below_drewN (Below.refl _ _) d5
          clear hm5 SM2 R34
          have BOX2 : Hid (Boxes m5 _) := Boxes.below BOX.out bm5
          have BW2 : Hid (Below w.heap.size w m5) := below_then BW.out bm5
          have ROW2 : Hid (RowLow m5.heap.size m5 (.slice va L.length vc) L) := RowLow.at ROW.out bm5
          clear fp0 fp1 fp2 fpl fq0 fq1 fq2 fql fqm0
          clear BOX BW ROW bm5
          have BOX : Hid (Boxes m5 _) := BOX2
          have BW : Hid (Below w.heap.size w m5) := BW2.out
          have ROW : Hid (RowLow m5.heap.size m5 (.slice va L.length vc) L) := ROW2.out
          obtain ⟨fp0, fp1, fp2⟩ := HBox.cells (BOX.out (w.heap.size, ⟨xp, .slice xa1 X1.length xk1, .slice xa2 X2.length xk2, X1, X2⟩) (by simp)).1
          have fpl := HBox.lt (BOX.out (w.heap.size, ⟨xp, .slice xa1 X1.length xk1, .slice xa2 X2.length xk2, X1, X2⟩) (by simp)).1
          simp only at fp0 fp1 fp2 fpl
          obtain ⟨fq0, fq1, fq2⟩ := HBox.cells (BOX.out (w.heap.size + 1, ⟨yp, .slice ya1 Y1.length yk1, .slice ya2 Y2.length yk2, Y1, Y2⟩) (by simp)).1
          have fql := HBox.lt (BOX.out (w.heap.size + 1, ⟨yp, .slice ya1 Y1.length yk1, .slice ya2 Y2.length yk2, Y1, Y2⟩) (by simp)).1
          simp only at fq0 fq1 fq2 fql
          have fqm0 := Nat.lt_of_le_of_lt (show w.heap.size ≤ w.heap.size + 1 by omega) fql
          clear BOX2 BW2 ROW2
          have CM : Hid (_) := merge_any ⟨xp, .slice xa1 X1.length xk1, .slice xa2 X2.length xk2, X1, X2⟩ ⟨yp, .slice ya1 Y1.length yk1, .slice ya2 Y2.length yk2, Y1, Y2⟩ m5.heap.size m5 (BOX.out (w.heap.size, ⟨xp, .slice xa1 X1.length xk1, .slice xa2 X2.length xk2, X1, X2⟩) (by simp)).2.1 (BOX.out (w.heap.size + 1, ⟨yp, .slice ya1 Y1.length yk1, .slice ya2 Y2.length yk2, Y1, Y2⟩) (by simp)).2.1 (Nat.le_refl _) (BOX.out (w.heap.size, ⟨xp, .slice xa1 X1.length xk1, .slice xa2 X2.length xk2, X1, X2⟩) (by simp)).2.2 (BOX.out (w.heap.size + 1, ⟨yp, .slice ya1 Y1.length yk1, .slice ya2 Y2.length yk2, Y1, Y2⟩) (by simp)).2.2
          simp only [HA.val] at CM
          gi_wp2_with fail
          refine ⟨trivial, ?_⟩
          refine (callsIn_wide.2 CM.out).mono ?_
          intro e t31 hp
          obtain ⟨p311, a311, c311, a312, c312, L311, L312, p312, a313, c313, a314, c314, L313, L314, ng, rfl, hres, lA, lB, bt⟩ := hp.parts
          have HR31 : Hid (_) := hres
          obtain ⟨fA, fB⟩ := merge_fine hres (BOX.out (w.heap.size, ⟨xp, .slice xa1 X1.length xk1, .slice xa2 X2.length xk2, X1, X2⟩) (by simp)).2.2 (BOX.out (w.heap.size + 1, ⟨yp, .slice ya1 Y1.length yk1, .slice ya2 Y2.length yk2, Y1, Y2⟩) (by simp)).2.2
          have SL31 : Hid (HA.Slim ⟨p311, .slice a311 L311.length c311, .slice a312 L312.length c312, L311, L312⟩ ∧ HA.Slim ⟨p312, .slice a313 L313.length c313, .slice a314 L314.length c314, L313, L314⟩) := merge_slim hres SLP.out SLQ.out
          have BOXt : Hid (Boxes t31 _) := Boxes.below BOX.out bt
          obtain ⟨V31, hV31, bV, BOX2⟩ := Boxes.two BOXt.out ⟨p311, .slice a311 L311.length c311, .slice a312 L312.length c312, L311, L312⟩ ⟨p312, .slice a313 L313.length c313, .slice a314 L314.length c314, L313, L314⟩ lA lB fA fB
          simp only at hV31
          have BW2 : Hid (Below w.heap.size w V31) := below_then BW.out (below_then bt bV)
          have ROW2 : Hid (RowLow V31.heap.size V31 (.slice va L.length vc) L) := RowLow.at ROW.out (below_then bt bV)
          clear fp0 fp1 fp2 fpl fq0 fq1 fq2 fql fqm0
          clear BOX BW ROW CM hp hres lA lB bt bV fA fB
          have BOX : Hid (Boxes V31 _) := BOX2
          have BW : Hid (Below w.heap.size w V31) := BW2.out
          have ROW : Hid (RowLow V31.heap.size V31 (.slice va L.length vc) L) := ROW2.out
          obtain ⟨fq0, fq1, fq2⟩ := HBox.cells (BOXt.out (w.heap.size + 1, ⟨yp, .slice ya1 Y1.length yk1, .slice ya2 Y2.length yk2, Y1, Y2⟩) (by simp)).1
          have fql := HBox.lt (BOXt.out (w.heap.size + 1, ⟨yp, .slice ya1 Y1.length yk1, .slice ya2 Y2.length yk2, Y1, Y2⟩) (by simp)).1
          simp only at fq0 fq1 fq2 fql
          have fqm0 := Nat.lt_of_le_of_lt (show w.heap.size ≤ w.heap.size + 1 by omega) fql
          obtain ⟨fp0, fp1, fp2⟩ := HBox.cells (BOXt.out (w.heap.size, ⟨xp, .slice xa1 X1.length xk1, .slice xa2 X2.length xk2, X1, X2⟩) (by simp)).1
          have fpl := HBox.lt (BOXt.out (w.heap.size, ⟨xp, .slice xa1 X1.length xk1, .slice xa2 X2.length xk2, X1, X2⟩) (by simp)).1
          simp only at fp0 fp1 fp2 fpl
          clear BOX2 BW2 BOXt ROW2
          have CM : Hid (_) := merge_any ⟨yp, .slice ya1 Y1.length yk1, .slice ya2 Y2.length yk2, Y1, Y2⟩ ⟨xp, .slice xa1 X1.length xk1, .slice xa2 X2.length xk2, X1, X2⟩ V31.heap.size V31 (BOX.out (w.heap.size + 1, ⟨yp, .slice ya1 Y1.length yk1, .slice ya2 Y2.length yk2, Y1, Y2⟩) (by simp)).2.1 (BOX.out (w.heap.size, ⟨xp, .slice xa1 X1.length xk1, .slice xa2 X2.length xk2, X1, X2⟩) (by simp)).2.1 (Nat.le_refl _) (BOX.out (w.heap.size + 1, ⟨yp, .slice ya1 Y1.length yk1, .slice ya2 Y2.length yk2, Y1, Y2⟩) (by simp)).2.2 (BOX.out (w.heap.size, ⟨xp, .slice xa1 X1.length xk1, .slice xa2 X2.length xk2, X1, X2⟩) (by simp)).2.2
          simp only [HA.val] at CM
          gi_wp2_with fail
          rw [← hV31]
          clear hV31
          refine ⟨trivial, ?_⟩
          refine (callsIn_wide.2 CM.out).mono ?_
          intro e t32 hp
          obtain ⟨p321, a321, c321, a322, c322, L321, L322, p322, a323, c323, a324, c324, L323, L324, nh, rfl, hres, lA, lB, bt⟩ := hp.parts
          have HR32 : Hid (_) := hres
          obtain ⟨fA, fB⟩ := merge_fine hres (BOX.out (w.heap.size + 1, ⟨yp, .slice ya1 Y1.length yk1, .slice ya2 Y2.length yk2, Y1, Y2⟩) (by simp)).2.2 (BOX.out (w.heap.size, ⟨xp, .slice xa1 X1.length xk1, .slice xa2 X2.length xk2, X1, X2⟩) (by simp)).2.2
          have BOXt : Hid (Boxes t32 _) := Boxes.below BOX.out bt
          obtain ⟨V32, hV32, bV, BOX2⟩ := Boxes.two BOXt.out ⟨p321, .slice a321 L321.length c321, .slice a322 L322.length c322, L321, L322⟩ ⟨p322, .slice a323 L323.length c323, .slice a324 L324.length c324, L323, L324⟩ lA lB fA fB
          simp only at hV32
          have BW2 : Hid (Below w.heap.size w V32) := below_then BW.out (below_then bt bV)
          have ROW2 : Hid (RowLow V32.heap.size V32 (.slice va L.length vc) L) := RowLow.at ROW.out (below_then bt bV)
          clear fq0 fq1 fq2 fql fqm0 fp0 fp1 fp2 fpl
          clear BOX BW ROW CM hp hres lA lB bt bV fA fB
          have BOX : Hid (Boxes V32 _) := BOX2
          have BW : Hid (Below w.heap.size w V32) := BW2.out
          have ROW : Hid (RowLow V32.heap.size V32 (.slice va L.length vc) L) := ROW2.out
          obtain ⟨fp0, fp1, fp2⟩ := HBox.cells (BOXt.out (w.heap.size, ⟨xp, .slice xa1 X1.length xk1, .slice xa2 X2.length xk2, X1, X2⟩) (by simp)).1
          have fpl := HBox.lt (BOXt.out (w.heap.size, ⟨xp, .slice xa1 X1.length xk1, .slice xa2 X2.length xk2, X1, X2⟩) (by simp)).1
          simp only at fp0 fp1 fp2 fpl
          obtain ⟨fq0, fq1, fq2⟩ := HBox.cells (BOXt.out (w.heap.size + 1, ⟨yp, .slice ya1 Y1.length yk1, .slice ya2 Y2.length yk2, Y1, Y2⟩) (by simp)).1
          have fql := HBox.lt (BOXt.out (w.heap.size + 1, ⟨yp, .slice ya1 Y1.length yk1, .slice ya2 Y2.length yk2, Y1, Y2⟩) (by simp)).1
          simp only at fq0 fq1 fq2 fql
          have fqm0 := Nat.lt_of_le_of_lt (show w.heap.size ≤ w.heap.size + 1 by omega) fql
          obtain ⟨fs0, fs1, fs2⟩ := HBox.cells (BOXt.out (t31.heap.size, ⟨p311, .slice a311 L311.length c311, .slice a312 L312.length c312, L311, L312⟩) (by simp)).1
          have fsl := HBox.lt (BOXt.out (t31.heap.size, ⟨p311, .slice a311 L311.length c311, .slice a312 L312.length c312, L311, L312⟩) (by simp)).1
          simp only at fs0 fs1 fs2 fsl
          obtain ⟨ft0, ft1, ft2⟩ := HBox.cells (BOXt.out (t31.heap.size + 1, ⟨p312, .slice a313 L313.length c313, .slice a314 L314.length c314, L313, L314⟩) (by simp)).1
          have ftl := HBox.lt (BOXt.out (t31.heap.size + 1, ⟨p312, .slice a313 L313.length c313, .slice a314 L314.length c314, L313, L314⟩) (by simp)).1
          simp only at ft0 ft1 ft2 ftl
          have ftm0 := Nat.lt_of_le_of_lt (show t31.heap.size ≤ t31.heap.size + 1 by omega) ftl
          clear BOX2 BW2 BOXt ROW2
          obtain ⟨hgh, hu, hv⟩ := flip_res HR31.out HR32.out
          subst hgh
          have HUV : Hid (_ ∧ _) := ⟨hu, hv⟩
          clear hu hv HR32
          have hsame := cast_same nh
          by_cases hg : nh = 0
          case neg =>
            have hg1 := cast_ne' nh hg
            have hg2 := cast_ne nh hg
            clear HR31 HUV
            gi_wp2_with fail
            refine ⟨trivial, ?_⟩
            have SV : Hid (V32.heap.size = t32.heap.size + 1 + 1) := by
              show V32.heap.size = t32.heap.size + 1 + 1
              rw [hV32]; simp
            have AP : Hid (_) := apply_hunk L ⟨xp, .slice xa1 X1.length xk1, .slice xa2 X2.length xk2, X1, X2⟩ _ V32 ROW.out (BOX.out (w.heap.size, ⟨xp, .slice xa1 X1.length xk1, .slice xa2 X2.length xk2, X1, X2⟩) (by simp)).2.1 (BOX.out (w.heap.size, ⟨xp, .slice xa1 X1.length xk1, .slice xa2 X2.length xk2, X1, X2⟩) (by simp)).2.2 SLP.out TRL.out
            have BNN : Hid (Below V32.heap.size V32 _) := below_nw V32 (.cells #[.int .i64 (HA.at_ ⟨xp, .slice xa1 X1.length xk1, .slice xa2 X2.length xk2, X1, X2⟩), (HA.vo ⟨xp, .slice xa1 X1.length xk1, .slice xa2 X2.length xk2, X1, X2⟩), (HA.vn ⟨xp, .slice xa1 X1.length xk1, .slice xa2 X2.length xk2, X1, X2⟩)] 41)
            simp only at AP BNN
            gi_wp2_with fail
            rw [← hV32]
            rw [← SV.out]
            clear hV32
            refine ⟨trivial, ?_⟩
            refine (callsIn_wide.2 AP.out).mono ?_
            intro e y1 hp
            obtain ⟨qa1, qc1, N1, n1, rfl, -, hN, by0⟩ := hp.parts
            have HN1 : Hid (ApRes _ N1 n1) := hN
            have by1 := below_then BNN.out by0
            clear hp hN by0 AP BNN
            have BOX2 : Hid (Boxes y1 _) := Boxes.below BOX.out by1
            have BW2 : Hid (Below w.heap.size w y1) := below_then BW.out by1
            have ROW2 : Hid (RowLow y1.heap.size y1 (.slice va L.length vc) L) := RowLow.at ROW.out by1
            clear fp0 fp1 fp2 fpl fq0 fq1 fq2 fql fqm0 fs0 fs1 fs2 fsl ft0 ft1 ft2 ftl ftm0
            clear BOX BW ROW by1
            have BOX : Hid (Boxes y1 _) := BOX2
            have BW : Hid (Below w.heap.size w y1) := BW2.out
            have ROW : Hid (RowLow y1.heap.size y1 (.slice va L.length vc) L) := ROW2.out
            obtain ⟨fp0, fp1, fp2⟩ := HBox.cells (BOX.out (w.heap.size, ⟨xp, .slice xa1 X1.length xk1, .slice xa2 X2.length xk2, X1, X2⟩) (by simp)).1
            have fpl := HBox.lt (BOX.out (w.heap.size, ⟨xp, .slice xa1 X1.length xk1, .slice xa2 X2.length xk2, X1, X2⟩) (by simp)).1
            simp only at fp0 fp1 fp2 fpl
            obtain ⟨fq0, fq1, fq2⟩ := HBox.cells (BOX.out (w.heap.size + 1, ⟨yp, .slice ya1 Y1.length yk1, .slice ya2 Y2.length yk2, Y1, Y2⟩) (by simp)).1
            have fql := HBox.lt (BOX.out (w.heap.size + 1, ⟨yp, .slice ya1 Y1.length yk1, .slice ya2 Y2.length yk2, Y1, Y2⟩) (by simp)).1
            simp only at fq0 fq1 fq2 fql
            have fqm0 := Nat.lt_of_le_of_lt (show w.heap.size ≤ w.heap.size + 1 by omega) fql
            clear BOX2 BW2 ROW2
            have AP : Hid (_) := apply_hunk L ⟨yp, .slice ya1 Y1.length yk1, .slice ya2 Y2.length yk2, Y1, Y2⟩ _ y1 ROW.out (BOX.out (w.heap.size + 1, ⟨yp, .slice ya1 Y1.length yk1, .slice ya2 Y2.length yk2, Y1, Y2⟩) (by simp)).2.1 (BOX.out (w.heap.size + 1, ⟨yp, .slice ya1 Y1.length yk1, .slice ya2 Y2.length yk2, Y1, Y2⟩) (by simp)).2.2 SLQ.out TRL.out
            have BNN : Hid (Below y1.heap.size y1 _) := below_nw y1 (.cells #[.int .i64 (HA.at_ ⟨yp, .slice ya1 Y1.length yk1, .slice ya2 Y2.length yk2, Y1, Y2⟩), (HA.vo ⟨yp, .slice ya1 Y1.length yk1, .slice ya2 Y2.length yk2, Y1, Y2⟩), (HA.vn ⟨yp, .slice ya1 Y1.length yk1, .slice ya2 Y2.length yk2, Y1, Y2⟩)] 41)
            simp only at AP BNN
            gi_wp2_with fail
            refine ⟨trivial, ?_⟩
            refine (callsIn_wide.2 AP.out).mono ?_
            intro e y2 hp
            obtain ⟨qa2, qc2, N2, n2, rfl, -, hN, by0⟩ := hp.parts
            have HN2 : Hid (ApRes _ N2 n2) := hN
            have by2 := below_then BNN.out by0
            clear hp hN by0 AP BNN
            have BOX2 : Hid (Boxes y2 _) := Boxes.below BOX.out by2
            have BW2 : Hid (Below w.heap.size w y2) := below_then BW.out by2
            have ROW2 : Hid (RowLow y2.heap.size y2 (.slice va L.length vc) L) := RowLow.at ROW.out by2
            clear fp0 fp1 fp2 fpl fq0 fq1 fq2 fql fqm0
            clear BOX BW ROW by2
            have BOX : Hid (Boxes y2 _) := BOX2
            have BW : Hid (Below w.heap.size w y2) := BW2.out
            have ROW : Hid (RowLow y2.heap.size y2 (.slice va L.length vc) L) := ROW2.out
            obtain ⟨fp0, fp1, fp2⟩ := HBox.cells (BOX.out (w.heap.size, ⟨xp, .slice xa1 X1.length xk1, .slice xa2 X2.length xk2, X1, X2⟩) (by simp)).1
            have fpl := HBox.lt (BOX.out (w.heap.size, ⟨xp, .slice xa1 X1.length xk1, .slice xa2 X2.length xk2, X1, X2⟩) (by simp)).1
            simp only at fp0 fp1 fp2 fpl
            clear BOX2 BW2 ROW2
            gi_wp2
            exact bodyPost_ret (results_tmp rfl _ _ _) rfl ⟨rfl, BW.out⟩
          case pos =>
            subst hg
            have TL : Hid (_) := tells_yes ⟨p321, .slice a321 L321.length c321, .slice a322 L322.length c322, L321, L322⟩ ⟨p322, .slice a323 L323.length c323, .slice a324 L324.length c324, L323, L324⟩ ⟨p312, .slice a313 L313.length c313, .slice a314 L314.length c314, L313, L314⟩ ⟨p311, .slice a311 L311.length c311, .slice a312 L312.length c312, L311, L312⟩ V32.heap.size V32 (BOX.out (t32.heap.size, ⟨p321, .slice a321 L321.length c321, .slice a322 L322.length c322, L321, L322⟩) (by simp)).2.1 (BOX.out (t32.heap.size + 1, ⟨p322, .slice a323 L323.length c323, .slice a324 L324.length c324, L323, L324⟩) (by simp)).2.1 (BOX.out (t31.heap.size + 1, ⟨p312, .slice a313 L313.length c313, .slice a314 L314.length c314, L313, L314⟩) (by simp)).2.1 (BOX.out (t31.heap.size, ⟨p311, .slice a311 L311.length c311, .slice a312 L312.length c312, L311, L312⟩) (by simp)).2.1 (Nat.le_refl _) HUV.out.1 HUV.out.2 (BOX.out (t32.heap.size, ⟨p321, .slice a321 L321.length c321, .slice a322 L322.length c322, L321, L322⟩) (by simp)).2.2.1 (BOX.out (t32.heap.size + 1, ⟨p322, .slice a323 L323.length c323, .slice a324 L324.length c324, L323, L324⟩) (by simp)).2.2.1
            simp only [HA.val] at TL
            gi_wp2_with fail
            rw [← hV32]
            clear hV32
            refine ⟨trivial, ?_⟩
            refine (callsIn_wide.2 TL.out).mono ?_
            rintro e s7 ⟨rfl, bs⟩
            have BOX2 : Hid (Boxes s7 _) := Boxes.below BOX.out bs
            have BW2 : Hid (Below w.heap.size w s7) := below_then BW.out bs
            have ROW2 : Hid (RowLow s7.heap.size s7 (.slice va L.length vc) L) := RowLow.at ROW.out bs
            clear TL
            clear fp0 fp1 fp2 fpl fq0 fq1 fq2 fql fqm0 fs0 fs1 fs2 fsl ft0 ft1 ft2 ftl ftm0
            clear BOX BW ROW bs
            have BOX : Hid (Boxes s7 _) := BOX2
            have BW : Hid (Below w.heap.size w s7) := BW2.out
            have ROW : Hid (RowLow s7.heap.size s7 (.slice va L.length vc) L) := ROW2.out
            obtain ⟨fp0, fp1, fp2⟩ := HBox.cells (BOX.out (w.heap.size, ⟨xp, .slice xa1 X1.length xk1, .slice xa2 X2.length xk2, X1, X2⟩) (by simp)).1
            have fpl := HBox.lt (BOX.out (w.heap.size, ⟨xp, .slice xa1 X1.length xk1, .slice xa2 X2.length xk2, X1, X2⟩) (by simp)).1
            simp only at fp0 fp1 fp2 fpl
            obtain ⟨fq0, fq1, fq2⟩ := HBox.cells (BOX.out (w.heap.size + 1, ⟨yp, .slice ya1 Y1.length yk1, .slice ya2 Y2.length yk2, Y1, Y2⟩) (by simp)).1
            have fql := HBox.lt (BOX.out (w.heap.size + 1, ⟨yp, .slice ya1 Y1.length yk1, .slice ya2 Y2.length yk2, Y1, Y2⟩) (by simp)).1
            simp only at fq0 fq1 fq2 fql
            have fqm0 := Nat.lt_of_le_of_lt (show w.heap.size ≤ w.heap.size + 1 by omega) fql
            clear BOX2 BW2 ROW2
            have AP : Hid (_) := apply_hunk L ⟨xp, .slice xa1 X1.length xk1, .slice xa2 X2.length xk2, X1, X2⟩ _ s7 ROW.out (BOX.out (w.heap.size, ⟨xp, .slice xa1 X1.length xk1, .slice xa2 X2.length xk2, X1, X2⟩) (by simp)).2.1 (BOX.out (w.heap.size, ⟨xp, .slice xa1 X1.length xk1, .slice xa2 X2.length xk2, X1, X2⟩) (by simp)).2.2 SLP.out TRL.out
            have BNN : Hid (Below s7.heap.size s7 _) := below_nw s7 (.cells #[.int .i64 (HA.at_ ⟨xp, .slice xa1 X1.length xk1, .slice xa2 X2.length xk2, X1, X2⟩), (HA.vo ⟨xp, .slice xa1 X1.length xk1, .slice xa2 X2.length xk2, X1, X2⟩), (HA.vn ⟨xp, .slice xa1 X1.length xk1, .slice xa2 X2.length xk2, X1, X2⟩)] 41)
            simp only at AP BNN
            gi_wp2_with fail
            refine ⟨trivial, ?_⟩
            refine (callsIn_wide.2 AP.out).mono ?_
            intro e y1 hp
            obtain ⟨qa1, qc1, N1, n1, rfl, -, hN, by0⟩ := hp.parts
            have HN1 : Hid (ApRes _ N1 n1) := hN
            have by1 := below_then BNN.out by0
            clear hp hN by0 AP BNN
            have BOX2 : Hid (Boxes y1 _) := Boxes.below BOX.out by1
            have BW2 : Hid (Below w.heap.size w y1) := below_then BW.out by1
            have ROW2 : Hid (RowLow y1.heap.size y1 (.slice va L.length vc) L) := RowLow.at ROW.out by1
            clear fp0 fp1 fp2 fpl fq0 fq1 fq2 fql fqm0
            clear BOX BW ROW by1
            have BOX : Hid (Boxes y1 _) := BOX2
            have BW : Hid (Below w.heap.size w y1) := BW2.out
            have ROW : Hid (RowLow y1.heap.size y1 (.slice va L.length vc) L) := ROW2.out
            obtain ⟨fp0, fp1, fp2⟩ := HBox.cells (BOX.out (w.heap.size, ⟨xp, .slice xa1 X1.length xk1, .slice xa2 X2.length xk2, X1, X2⟩) (by simp)).1
            have fpl := HBox.lt (BOX.out (w.heap.size, ⟨xp, .slice xa1 X1.length xk1, .slice xa2 X2.length xk2, X1, X2⟩) (by simp)).1
            simp only at fp0 fp1 fp2 fpl
            obtain ⟨fq0, fq1, fq2⟩ := HBox.cells (BOX.out (w.heap.size + 1, ⟨yp, .slice ya1 Y1.length yk1, .slice ya2 Y2.length yk2, Y1, Y2⟩) (by simp)).1
            have fql := HBox.lt (BOX.out (w.heap.size + 1, ⟨yp, .slice ya1 Y1.length yk1, .slice ya2 Y2.length yk2, Y1, Y2⟩) (by simp)).1
            simp only at fq0 fq1 fq2 fql
            have fqm0 := Nat.lt_of_le_of_lt (show w.heap.size ≤ w.heap.size + 1 by omega) fql
            clear BOX2 BW2 ROW2
            have AP : Hid (_) := apply_hunk L ⟨yp, .slice ya1 Y1.length yk1, .slice ya2 Y2.length yk2, Y1, Y2⟩ _ y1 ROW.out (BOX.out (w.heap.size + 1, ⟨yp, .slice ya1 Y1.length yk1, .slice ya2 Y2.length yk2, Y1, Y2⟩) (by simp)).2.1 (BOX.out (w.heap.size + 1, ⟨yp, .slice ya1 Y1.length yk1, .slice ya2 Y2.length yk2, Y1, Y2⟩) (by simp)).2.2 SLQ.out TRL.out
            have BNN : Hid (Below y1.heap.size y1 _) := below_nw y1 (.cells #[.int .i64 (HA.at_ ⟨yp, .slice ya1 Y1.length yk1, .slice ya2 Y2.length yk2, Y1, Y2⟩), (HA.vo ⟨yp, .slice ya1 Y1.length yk1, .slice ya2 Y2.length yk2, Y1, Y2⟩), (HA.vn ⟨yp, .slice ya1 Y1.length yk1, .slice ya2 Y2.length yk2, Y1, Y2⟩)] 41)
            simp only at AP BNN
            gi_wp2_with fail
            refine ⟨trivial, ?_⟩
            refine (callsIn_wide.2 AP.out).mono ?_
            intro e y2 hp
            obtain ⟨qa2, qc2, N2, n2, rfl, -, hN, by0⟩ := hp.parts
            have HN2 : Hid (ApRes _ N2 n2) := hN
            have by2 := below_then BNN.out by0
            clear hp hN by0 AP BNN
            have BOX2 : Hid (Boxes y2 _) := Boxes.below BOX.out by2
            have BW2 : Hid (Below w.heap.size w y2) := below_then BW.out by2
            have ROW2 : Hid (RowLow y2.heap.size y2 (.slice va L.length vc) L) := RowLow.at ROW.out by2
            clear fp0 fp1 fp2 fpl fq0 fq1 fq2 fql fqm0
            clear BOX BW ROW by2
            have BOX : Hid (Boxes y2 _) := BOX2
            have BW : Hid (Below w.heap.size w y2) := BW2.out
            have ROW : Hid (RowLow y2.heap.size y2 (.slice va L.length vc) L) := ROW2.out
            obtain ⟨fp0, fp1, fp2⟩ := HBox.cells (BOX.out (w.heap.size, ⟨xp, .slice xa1 X1.length xk1, .slice xa2 X2.length xk2, X1, X2⟩) (by simp)).1
            have fpl := HBox.lt (BOX.out (w.heap.size, ⟨xp, .slice xa1 X1.length xk1, .slice xa2 X2.length xk2, X1, X2⟩) (by simp)).1
            simp only at fp0 fp1 fp2 fpl
            obtain ⟨ft0, ft1, ft2⟩ := HBox.cells (BOX.out (t31.heap.size + 1, ⟨p312, .slice a313 L313.length c313, .slice a314 L314.length c314, L313, L314⟩) (by simp)).1
            have ftl := HBox.lt (BOX.out (t31.heap.size + 1, ⟨p312, .slice a313 L313.length c313, .slice a314 L314.length c314, L313, L314⟩) (by simp)).1
            simp only at ft0 ft1 ft2 ftl
            have ftm0 := Nat.lt_of_le_of_lt (show t31.heap.size ≤ t31.heap.size + 1 by omega) ftl
            clear BOX2 BW2 ROW2
            by_cases hm1 : n1 = 0
            case neg =>
              have hm2 := cast_ne n1 hm1
              gi_wp2
              exact bodyPost_ret (results_tmp rfl _ _ _) rfl ⟨rfl, BW.out⟩
            subst hm1
            by_cases hm3 : n2 = 0
            case neg =>
              have hm4 := cast_ne n2 hm3
              gi_wp2
              exact bodyPost_ret (results_tmp rfl _ _ _) rfl ⟨rfl, BW.out⟩
            subst hm3
            have hmr := shRes_zero_m HR31.out
            obtain ⟨y1, hy1⟩ : ∃ y1, Hn.apply L [HA.h ⟨xp, .slice xa1 X1.length xk1, .slice xa2 X2.length xk2, X1, X2⟩] = .ok y1 := ap_zero HN1.out
            obtain ⟨z1, hz1⟩ : ∃ z1, Hn.apply L [HA.h ⟨yp, .slice ya1 Y1.length yk1, .slice ya2 Y2.length yk2, Y1, Y2⟩] = .ok z1 := ap_zero HN2.out
            obtain ⟨XX, hxx1, hxx2⟩ := Hn.merge_apply hmr hy1 hz1
            have HT1 : Hid (twoRes L _ _ = (XX, true)) := twoRes_mk hy1 hxx1
            have HT2 : Hid (twoRes L _ _ = (XX, true)) := twoRes_mk hz1 hxx2
            have HCC : Hid (_) := Hn.merge_commute hmr
            clear hmr hy1 hz1 hxx1 hxx2 HN1 HN2 HUV HR31
            have TW : Hid (_) := two_any L ⟨xp, .slice xa1 X1.length xk1, .slice xa2 X2.length xk2, X1, X2⟩ ⟨p312, .slice a313 L313.length c313, .slice a314 L314.length c314, L313, L314⟩ _ y2 ROW.out (BOX.out (w.heap.size, ⟨xp, .slice xa1 X1.length xk1, .slice xa2 X2.length xk2, X1, X2⟩) (by simp)).2.1 (BOX.out (t31.heap.size + 1, ⟨p312, .slice a313 L313.length c313, .slice a314 L314.length c314, L313, L314⟩) (by simp)).2.1 (BOX.out (w.heap.size, ⟨xp, .slice xa1 X1.length xk1, .slice xa2 X2.length xk2, X1, X2⟩) (by simp)).2.2 (BOX.out (t31.heap.size + 1, ⟨p312, .slice a313 L313.length c313, .slice a314 L314.length c314, L313, L314⟩) (by simp)).2.2 SLP.out SL31.out.2 TRL.out (by have := LL.out; omega)
            simp only [HA.val] at TW
            gi_wp2_with fail
            refine ⟨trivial, ?_⟩
            refine (callsIn_wide.2 TW.out).mono ?_
            rintro e m8 ⟨ra8, rc8, M8, ok8, rfl, hm, rw, tm, lm, bm⟩
            have HM8 : Hid (_) := hm
            have RW8 : Hid (RowLow m8.heap.size m8 (.slice ra8 M8.length rc8) M8) := rw
            have TM8 : Hid (Trim M8 ∧ M8.length ≤ L.length + 4000) := ⟨tm, lm⟩
            clear hm rw tm lm TW
            have hh8 := HM8.out.trans HT1.out
            simp only [Prod.mk.injEq] at hh8
            obtain ⟨hm8, rfl⟩ := hh8
            subst hm8
            clear HM8 HT1
            have BOX2 : Hid (Boxes m8 _) := Boxes.below BOX.out bm
            have BW2 : Hid (Below w.heap.size w m8) := below_then BW.out bm
            have ROW2 : Hid (RowLow m8.heap.size m8 (.slice va L.length vc) L) := RowLow.at ROW.out bm
            clear fp0 fp1 fp2 fpl ft0 ft1 ft2 ftl ftm0
            clear BOX BW ROW bm
            have BOX : Hid (Boxes m8 _) := BOX2
            have BW : Hid (Below w.heap.size w m8) := BW2.out
            have ROW : Hid (RowLow m8.heap.size m8 (.slice va L.length vc) L) := ROW2.out
            obtain ⟨fq0, fq1, fq2⟩ := HBox.cells (BOX.out (w.heap.size + 1, ⟨yp, .slice ya1 Y1.length yk1, .slice ya2 Y2.length yk2, Y1, Y2⟩) (by simp)).1
            have fql := HBox.lt (BOX.out (w.heap.size + 1, ⟨yp, .slice ya1 Y1.length yk1, .slice ya2 Y2.length yk2, Y1, Y2⟩) (by simp)).1
            simp only at fq0 fq1 fq2 fql
            have fqm0 := Nat.lt_of_le_of_lt (show w.heap.size ≤ w.heap.size + 1 by omega) fql
            obtain ⟨fs0, fs1, fs2⟩ := HBox.cells (BOX.out (t31.heap.size, ⟨p311, .slice a311 L311.length c311, .slice a312 L312.length c312, L311, L312⟩) (by simp)).1
            have fsl := HBox.lt (BOX.out (t31.heap.size, ⟨p311, .slice a311 L311.length c311, .slice a312 L312.length c312, L311, L312⟩) (by simp)).1
            simp only at fs0 fs1 fs2 fsl
            clear BOX2 BW2 ROW2
            have TW : Hid (_) := two_any L ⟨yp, .slice ya1 Y1.length yk1, .slice ya2 Y2.length yk2, Y1, Y2⟩ ⟨p311, .slice a311 L311.length c311, .slice a312 L312.length c312, L311, L312⟩ _ m8 ROW.out (BOX.out (w.heap.size + 1, ⟨yp, .slice ya1 Y1.length yk1, .slice ya2 Y2.length yk2, Y1, Y2⟩) (by simp)).2.1 (BOX.out (t31.heap.size, ⟨p311, .slice a311 L311.length c311, .slice a312 L312.length c312, L311, L312⟩) (by simp)).2.1 (BOX.out (w.heap.size + 1, ⟨yp, .slice ya1 Y1.length yk1, .slice ya2 Y2.length yk2, Y1, Y2⟩) (by simp)).2.2 (BOX.out (t31.heap.size, ⟨p311, .slice a311 L311.length c311, .slice a312 L312.length c312, L311, L312⟩) (by simp)).2.2 SLQ.out SL31.out.1 TRL.out (by have := LL.out; omega)
            simp only [HA.val] at TW
            gi_wp2_with fail
            refine ⟨trivial, ?_⟩
            refine (callsIn_wide.2 TW.out).mono ?_
            rintro e m9 ⟨ra9, rc9, M9, ok9, rfl, hm, rw, tm, lm, bm⟩
            have HM9 : Hid (_) := hm
            have RW9 : Hid (RowLow m9.heap.size m9 (.slice ra9 M9.length rc9) M9) := rw
            have TM9 : Hid (Trim M9 ∧ M9.length ≤ L.length + 4000) := ⟨tm, lm⟩
            clear hm rw tm lm TW
            have hh9 := HM9.out.trans HT2.out
            simp only [Prod.mk.injEq] at hh9
            obtain ⟨hm9, rfl⟩ := hh9
            subst hm9
            have R89 : Hid (_) := RowLow.at RW8.out bm
            clear HM9 HT2 RW8
            have BOX2 : Hid (Boxes m9 _) := Boxes.below BOX.out bm
            have BW2 : Hid (Below w.heap.size w m9) := below_then BW.out bm
            have ROW2 : Hid (RowLow m9.heap.size m9 (.slice va L.length vc) L) := RowLow.at ROW.out bm
            clear fq0 fq1 fq2 fql fqm0 fs0 fs1 fs2 fsl
            clear BOX BW ROW bm
            have BOX : Hid (Boxes m9 _) := BOX2
            have BW : Hid (Below w.heap.size w m9) := BW2.out
            have ROW : Hid (RowLow m9.heap.size m9 (.slice va L.length vc) L) := ROW2.out
            obtain ⟨fp0, fp1, fp2⟩ := HBox.cells (BOX.out (w.heap.size, ⟨xp, .slice xa1 X1.length xk1, .slice xa2 X2.length xk2, X1, X2⟩) (by simp)).1
            have fpl := HBox.lt (BOX.out (w.heap.size, ⟨xp, .slice xa1 X1.length xk1, .slice xa2 X2.length xk2, X1, X2⟩) (by simp)).1
            simp only at fp0 fp1 fp2 fpl
            obtain ⟨ft0, ft1, ft2⟩ := HBox.cells (BOX.out (t31.heap.size + 1, ⟨p312, .slice a313 L313.length c313, .slice a314 L314.length c314, L313, L314⟩) (by simp)).1
            have ftl := HBox.lt (BOX.out (t31.heap.size + 1, ⟨p312, .slice a313 L313.length c313, .slice a314 L314.length c314, L313, L314⟩) (by simp)).1
            simp only at ft0 ft1 ft2 ftl
            have ftm0 := Nat.lt_of_le_of_lt (show t31.heap.size ≤ t31.heap.size + 1 by omega) ftl
            clear BOX2 BW2 ROW2
            have CM : Hid (_) := commute_any ⟨xp, .slice xa1 X1.length xk1, .slice xa2 X2.length xk2, X1, X2⟩ ⟨p312, .slice a313 L313.length c313, .slice a314 L314.length c314, L313, L314⟩ m9.heap.size m9 (BOX.out (w.heap.size, ⟨xp, .slice xa1 X1.length xk1, .slice xa2 X2.length xk2, X1, X2⟩) (by simp)).2.1 (BOX.out (t31.heap.size + 1, ⟨p312, .slice a313 L313.length c313, .slice a314 L314.length c314, L313, L314⟩) (by simp)).2.1 (Nat.le_refl _) (BOX.out (w.heap.size, ⟨xp, .slice xa1 X1.length xk1, .slice xa2 X2.length xk2, X1, X2⟩) (by simp)).2.2 (BOX.out (t31.heap.size + 1, ⟨p312, .slice a313 L313.length c313, .slice a314 L314.length c314, L313, L314⟩) (by simp)).2.2
            simp only [HA.val] at CM
            gi_wp2_with fail
            refine ⟨trivial, ?_⟩
            refine (callsIn_wide.2 CM.out).mono ?_
            intro e t33 hp
            obtain ⟨p331, a331, c331, a332, c332, L331, L332, p332, a333, c333, a334, c334, L333, L334, ni, rfl, hres, lA, lB, bt⟩ := hp.parts
            have HR33 : Hid (_) := hres
            obtain ⟨fA, fB⟩ := commute_fine hres (BOX.out (w.heap.size, ⟨xp, .slice xa1 X1.length xk1, .slice xa2 X2.length xk2, X1, X2⟩) (by simp)).2.2 (BOX.out (t31.heap.size + 1, ⟨p312, .slice a313 L313.length c313, .slice a314 L314.length c314, L313, L314⟩) (by simp)).2.2
            have BOXt : Hid (Boxes t33 _) := Boxes.below BOX.out bt
            obtain ⟨V33, hV33, bV, BOX2⟩ := Boxes.two BOXt.out ⟨p331, .slice a331 L331.length c331, .slice a332 L332.length c332, L331, L332⟩ ⟨p332, .slice a333 L333.length c333, .slice a334 L334.length c334, L333, L334⟩ lA lB fA fB
            simp only at hV33
            have BW2 : Hid (Below w.heap.size w V33) := below_then BW.out (below_then bt bV)
            have R8 : Hid (_) := RowLow.at R89.out (below_then bt bV)
            have R9 : Hid (_) := RowLow.at RW9.out (below_then bt bV)
            have ROW2 : Hid (RowLow V33.heap.size V33 (.slice va L.length vc) L) := RowLow.at ROW.out (below_then bt bV)
            clear fp0 fp1 fp2 fpl ft0 ft1 ft2 ftl ftm0
            clear BOX BW ROW CM hp hres lA lB bt bV fA fB
            have BOX : Hid (Boxes V33 _) := BOX2
            have BW : Hid (Below w.heap.size w V33) := BW2.out
            have ROW : Hid (RowLow V33.heap.size V33 (.slice va L.length vc) L) := ROW2.out
            obtain ⟨fq0, fq1, fq2⟩ := HBox.cells (BOXt.out (w.heap.size + 1, ⟨yp, .slice ya1 Y1.length yk1, .slice ya2 Y2.length yk2, Y1, Y2⟩) (by simp)).1
            have fql := HBox.lt (BOXt.out (w.heap.size + 1, ⟨yp, .slice ya1 Y1.length yk1, .slice ya2 Y2.length yk2, Y1, Y2⟩) (by simp)).1
            simp only at fq0 fq1 fq2 fql
            have fqm0 := Nat.lt_of_le_of_lt (show w.heap.size ≤ w.heap.size + 1 by omega) fql
            obtain ⟨fs0, fs1, fs2⟩ := HBox.cells (BOXt.out (t31.heap.size, ⟨p311, .slice a311 L311.length c311, .slice a312 L312.length c312, L311, L312⟩) (by simp)).1
            have fsl := HBox.lt (BOXt.out (t31.heap.size, ⟨p311, .slice a311 L311.length c311, .slice a312 L312.length c312, L311, L312⟩) (by simp)).1
            simp only at fs0 fs1 fs2 fsl
            clear BOX2 BW2 BOXt ROW2
            obtain ⟨ec, ed, en⟩ := res_ok HR33.out HCC.out
            subst en
            have HEC : Hid (_ ∧ _) := ⟨ec, ed⟩
            clear ec ed HCC HR33 R89 RW9
            have SM : Hid (_) := same_yes V33 _ _ M9 V33.heap.size R8.out R9.out (by have := TM9.out.1.1; omega)
            gi_wp2_with fail
            rw [← hV33]
            clear hV33
            refine ⟨trivial, ?_⟩
            refine (callsIn_wide.2 SM.out).mono ?_
            rintro e q1 ⟨rfl, d1, hq1⟩
            have bq : Below V33.heap.size V33 q1 := by rw [hq1]; exact below_drewN (Below.refl _ _) d1
            clear hq1 SM
            have BOX2 : Hid (Boxes q1 _) := Boxes.below BOX.out bq
            have BW2 : Hid (Below w.heap.size w q1) := below_then BW.out bq
            have ROW2 : Hid (RowLow q1.heap.size q1 (.slice va L.length vc) L) := RowLow.at ROW.out bq
            clear R8 R9
            clear fq0 fq1 fq2 fql fqm0 fs0 fs1 fs2 fsl
            clear BOX BW ROW bq
            have BOX : Hid (Boxes q1 _) := BOX2
            have BW : Hid (Below w.heap.size w q1) := BW2.out
            have ROW : Hid (RowLow q1.heap.size q1 (.slice va L.length vc) L) := ROW2.out
            obtain ⟨fq0, fq1, fq2⟩ := HBox.cells (BOX.out (w.heap.size + 1, ⟨yp, .slice ya1 Y1.length yk1, .slice ya2 Y2.length yk2, Y1, Y2⟩) (by simp)).1
            have fql := HBox.lt (BOX.out (w.heap.size + 1, ⟨yp, .slice ya1 Y1.length yk1, .slice ya2 Y2.length yk2, Y1, Y2⟩) (by simp)).1
            simp only at fq0 fq1 fq2 fql
            have fqm0 := Nat.lt_of_le_of_lt (show w.heap.size ≤ w.heap.size + 1 by omega) fql
            obtain ⟨fs0, fs1, fs2⟩ := HBox.cells (BOX.out (t31.heap.size, ⟨p311, .slice a311 L311.length c311, .slice a312 L312.length c312, L311, L312⟩) (by simp)).1
            have fsl := HBox.lt (BOX.out (t31.heap.size, ⟨p311, .slice a311 L311.length c311, .slice a312 L312.length c312, L311, L312⟩) (by simp)).1
            simp only at fs0 fs1 fs2 fsl
            obtain ⟨fcc0, fcc1, fcc2⟩ := HBox.cells (BOX.out (t33.heap.size, ⟨p331, .slice a331 L331.length c331, .slice a332 L332.length c332, L331, L332⟩) (by simp)).1
            have fccl := HBox.lt (BOX.out (t33.heap.size, ⟨p331, .slice a331 L331.length c331, .slice a332 L332.length c332, L331, L332⟩) (by simp)).1
            simp only at fcc0 fcc1 fcc2 fccl
            obtain ⟨fdd0, fdd1, fdd2⟩ := HBox.cells (BOX.out (t33.heap.size + 1, ⟨p332, .slice a333 L333.length c333, .slice a334 L334.length c334, L333, L334⟩) (by simp)).1
            have fddl := HBox.lt (BOX.out (t33.heap.size + 1, ⟨p332, .slice a333 L333.length c333, .slice a334 L334.length c334, L333, L334⟩) (by simp)).1
            simp only at fdd0 fdd1 fdd2 fddl
            have fddm0 := Nat.lt_of_le_of_lt (show t33.heap.size ≤ t33.heap.size + 1 by omega) fddl
            clear BOX2 BW2 ROW2
            have TL : Hid (_) := tells_yes ⟨p331, .slice a331 L331.length c331, .slice a332 L332.length c332, L331, L332⟩ ⟨p332, .slice a333 L333.length c333, .slice a334 L334.length c334, L333, L334⟩ ⟨yp, .slice ya1 Y1.length yk1, .slice ya2 Y2.length yk2, Y1, Y2⟩ ⟨p311, .slice a311 L311.length c311, .slice a312 L312.length c312, L311, L312⟩ q1.heap.size q1 (BOX.out (t33.heap.size, ⟨p331, .slice a331 L331.length c331, .slice a332 L332.length c332, L331, L332⟩) (by simp)).2.1 (BOX.out (t33.heap.size + 1, ⟨p332, .slice a333 L333.length c333, .slice a334 L334.length c334, L333, L334⟩) (by simp)).2.1 (BOX.out (w.heap.size + 1, ⟨yp, .slice ya1 Y1.length yk1, .slice ya2 Y2.length yk2, Y1, Y2⟩) (by simp)).2.1 (BOX.out (t31.heap.size, ⟨p311, .slice a311 L311.length c311, .slice a312 L312.length c312, L311, L312⟩) (by simp)).2.1 (Nat.le_refl _) HEC.out.1 HEC.out.2 (BOX.out (t33.heap.size, ⟨p331, .slice a331 L331.length c331, .slice a332 L332.length c332, L331, L332⟩) (by simp)).2.2.1 (BOX.out (t33.heap.size + 1, ⟨p332, .slice a333 L333.length c333, .slice a334 L334.length c334, L333, L334⟩) (by simp)).2.2.1
            simp only [HA.val] at TL
            gi_wp2_with fail
            refine ⟨trivial, ?_⟩
            refine (callsIn_wide.2 TL.out).mono ?_
            rintro e s9 ⟨rfl, bs⟩
            have BOX2 : Hid (Boxes s9 _) := Boxes.below BOX.out bs
            have BW2 : Hid (Below w.heap.size w s9) := below_then BW.out bs
            have ROW2 : Hid (RowLow s9.heap.size s9 (.slice va L.length vc) L) := RowLow.at ROW.out bs
            clear TL
            clear fq0 fq1 fq2 fql fqm0 fs0 fs1 fs2 fsl fcc0 fcc1 fcc2 fccl fdd0 fdd1 fdd2 fddl fddm0
            clear BOX BW ROW bs
            have BOX : Hid (Boxes s9 _) := BOX2
            have BW : Hid (Below w.heap.size w s9) := BW2.out
            have ROW : Hid (RowLow s9.heap.size s9 (.slice va L.length vc) L) := ROW2.out
            obtain ⟨fp0, fp1, fp2⟩ := HBox.cells (BOX.out (w.heap.size, ⟨xp, .slice xa1 X1.length xk1, .slice xa2 X2.length xk2, X1, X2⟩) (by simp)).1
            have fpl := HBox.lt (BOX.out (w.heap.size, ⟨xp, .slice xa1 X1.length xk1, .slice xa2 X2.length xk2, X1, X2⟩) (by simp)).1
            simp only at fp0 fp1 fp2 fpl
            clear BOX2 BW2 ROW2
            gi_wp2
            exact bodyPost_ret (results_tmp rfl _ _ _) rfl ⟨rfl, BW.out⟩

end Go.Proofs.Ytflnakjffgobmaa
