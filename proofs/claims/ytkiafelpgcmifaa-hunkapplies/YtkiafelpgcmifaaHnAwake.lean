/-
  The walk of the law's awake (chapter 3): the chapter's examples.
-/
import Derived.Test.YtkiafelpgcmifaaHnApply
import Derived.Test.YtkiafelpgcmifaaLows
namespace Go.Proofs.Ytkiafelpgcmifaa
open Go.RowKit Go.Shelf

attribute [local go_sem] Oper.semAt_some

def abcL : List (List UInt8) := [[97, 10], [98, 10], [99, 10]]
theorem ap1 : Hn.apply abcL [⟨1, [[98, 10]], [[120, 10], [121, 10]]⟩] = .ok [[97, 10], [120, 10], [121, 10], [99, 10]] := by rfl
theorem ap2 : Hn.apply abcL [⟨1, [[99, 10]], [[120, 10]]⟩] = .error 121 := by rfl
theorem ap3 : Hn.apply abcL [⟨3, [[99, 10]], []⟩] = .error 6 := by rfl
theorem ap4 : Hn.apply abcL [⟨2, [[99, 10]], [[100]]⟩] = .ok [[97, 10], [98, 10], [100]] := by rfl
theorem ap5 : Hn.apply abcL [⟨0, [[97, 10]], [[100]]⟩] = .error 4 := by rfl

theorem low_lit (w : World) (L : List (List UInt8)) : RowLow (w.alloc (.cells (L.map txtV).toArray 9)).heap.size (w.alloc (.cells (L.map txtV).toArray 9)) (.slice (some ⟨w.heap.size, 0, none⟩) L.length L.length) L := by
  unfold RowLow
  exact CellsLow.lit w (L.map txtV) 9 L.length

set_option maxRecDepth 100000 in
theorem abc_any (w : World) : Calls Try.prog 17 #[] w fun e w' => ∃ ao cap, e = .returned (.slice ao 3 cap) ∧ RowLow w'.heap.size w' (.slice ao 3 cap) abcL ∧ Below w.heap.size w w' := by
  go_enter Try.func17, Try.ntmps17
  go_wp2
  go_ret
  exact ⟨_, _, rfl, low_lit w abcL, below_new w _⟩

set_option maxRecDepth 100000 in
set_option maxHeartbeats 1000000 in
theorem one_any (p : Int) (x y : List UInt8) (w : World) : Calls Try.prog 18 #[.int .i64 p, .string (Ln.bs x), .string (Ln.bs y)] w fun e w' => ∃ a1 c1 a2 c2, e = .returned (.agg #[.int .i64 p, .slice a1 1 c1, .slice a2 1 c2]) ∧ RowLow w'.heap.size w' (.slice a1 1 c1) [x] ∧ RowLow w'.heap.size w' (.slice a2 1 c2) [y] ∧ Below w.heap.size w w' := by
  have h1 : ∀ A : Obj, RowLow (((w.alloc A).alloc (.cells #[.string (Ln.bs x)] 9)).alloc (.cells #[.string (Ln.bs y)] 9)).heap.size (((w.alloc A).alloc (.cells #[.string (Ln.bs x)] 9)).alloc (.cells #[.string (Ln.bs y)] 9)) (.slice (some ⟨w.heap.size + 1, 0, none⟩) 1 1) [x] := fun A => by
    have h := low_lit (w.alloc A) [x]
    rw [World.size_alloc w A] at h
    exact RowLow.at h (below_new _ _)
  have h2 : ∀ A : Obj, RowLow (((w.alloc A).alloc (.cells #[.string (Ln.bs x)] 9)).alloc (.cells #[.string (Ln.bs y)] 9)).heap.size (((w.alloc A).alloc (.cells #[.string (Ln.bs x)] 9)).alloc (.cells #[.string (Ln.bs y)] 9)) (.slice (some ⟨w.heap.size + 1 + 1, 0, none⟩) 1 1) [y] := fun A => by
    have h := low_lit ((w.alloc A).alloc (.cells #[.string (Ln.bs x)] 9)) [y]
    rw [World.size_alloc (w.alloc A), World.size_alloc w A] at h
    exact h
  have H1 : Hid (_) := h1
  have H2 : Hid (_) := h2
  clear h1 h2
  go_enter Try.func18, Try.ntmps18
  go_wp2
  refine bodyPost_ret (v := .agg #[.int .i64 p, .slice (some ⟨w.heap.size + 1, 0, none⟩) 1 1, .slice (some ⟨w.heap.size + 1 + 1, 0, none⟩) 1 1]) (by simp [results, Try.results18, go_sem]) rfl ⟨_, _, _, _, rfl, H1.out _, H2.out _, below_then (below_then (below_new w _) (below_new _ _)) (below_new _ _)⟩

/-- Few lines, and short ones. -/
def few (L : List (List UInt8)) : Bool := decide (L.length ≤ 1000) && L.all fun s => decide (s.length ≤ 1000)
theorem few_spec {L : List (List UInt8)} (h : few L = true) : L.length ≤ 1000 ∧ ∀ s ∈ L, s.length ≤ 1000 := by
  simp only [few, Bool.and_eq_true, decide_eq_true_eq, List.all_eq_true] at h
  exact h
/-- A hunk in a row of its own. -/
theorem haLow_lit (w : World) (p : Int) (vo vn : Value) (L1 L2 : List (List UInt8)) (h1 : RowLow w.heap.size w vo L1) (h2 : RowLow w.heap.size w vn L2) :
    HaLow (w.alloc (.cells #[.int .i64 p, vo, vn] 40)).heap.size (w.alloc (.cells #[.int .i64 p, vo, vn] 40)) (.slice (some ⟨w.heap.size, 0, none⟩) 1 1) [⟨p, vo, vn, L1, L2⟩] := by
  refine ⟨CellsLow.lit w [.int .i64 p, vo, vn] 40 1, fun x hx => ?_⟩
  rw [List.mem_singleton] at hx
  subst hx
  exact ⟨h1.at (below_new w _), h2.at (below_new w _)⟩
/-- Apply, at lines and one hunk that lie there. -/
theorem apply_at (L L1 L2 : List (List UInt8)) (p : Int) (r : Except Nat (List (List UInt8))) (he : Hn.apply L [⟨p, L1, L2⟩] = r) (v vo vn : Value) (w : World) (hrow : RowLow w.heap.size w v L) (h1 : RowLow w.heap.size w vo L1) (h2 : RowLow w.heap.size w vn L2) (hp : 0 ≤ p ∧ p ≤ 1000) (l0 : few L = true) (l1 : few L1 = true) (l2 : few L2 = true) :
    Calls Try.prog 8 #[v, .slice (some ⟨w.heap.size, 0, none⟩) 1 1] (w.alloc (.cells #[.int .i64 p, vo, vn] 40)) fun e w' => ApplyPost r (w.alloc (.cells #[.int .i64 p, vo, vn] 40)) e w' := by
  obtain ⟨k0, t0⟩ := few_spec l0
  obtain ⟨k1, t1⟩ := few_spec l1
  obtain ⟨k2, t2⟩ := few_spec l2
  have h := apply_any L [⟨p, vo, vn, L1, L2⟩] v _ _ _ (hrow.at (below_new w (.cells #[.int .i64 p, vo, vn] 40))) (haLow_lit w p vo vn L1 L2 h1 h2) (Nat.le_refl _) (fun y hy => by
      rw [List.mem_singleton] at hy; subst hy
      exact ⟨⟨by show _ ≤ p; omega, by show p ≤ _; omega⟩, ⟨by show L1.length ≤ _; omega, by show L2.length ≤ _; omega⟩, fun s hs => by have := t1 s hs; omega, fun s hs => by have := t2 s hs; omega⟩) (fun y hy => by
      rw [List.mem_singleton] at hy; subst hy
      exact ⟨by show L1.length ≤ _; omega, by show L2.length ≤ _; omega⟩) (by simp) (by simp [newSum]; omega) (fun s hs => by have := t0 s hs; omega) (fun y hy s hs => by
      rw [List.mem_singleton] at hy; subst hy
      have := t2 s hs; omega)
  rw [List.map_cons, List.map_nil, show HA.h ⟨p, vo, vn, L1, L2⟩ = ⟨p, L1, L2⟩ from rfl, he] at h
  exact h

set_option maxRecDepth 100000 in
set_option maxHeartbeats 4000000 in
theorem hawake_any (w : World) : Calls Try.prog 5 #[] w fun e w' => e = .returned (.bool true) ∧ Below w.heap.size w w' := by
  go_enter Try.func5, Try.ntmps5
  go_wp2_with fail
  refine (abc_any w).mono ?_
  rintro e w1 ⟨a1, c1, rfl, r1, b1⟩
  have p1 : RowLow (w1.alloc (.cells #[.string ⟨#[98, 10]⟩] 9)).heap.size (w1.alloc (.cells #[.string ⟨#[98, 10]⟩] 9)) (.slice (some ⟨w1.heap.size, 0, none⟩) 1 1) [[98, 10]] := low_lit w1 [[98, 10]]
  have p2 : RowLow ((w1.alloc (.cells #[.string ⟨#[98, 10]⟩] 9)).alloc (.cells #[.string ⟨#[120, 10]⟩, .string ⟨#[121, 10]⟩] 9)).heap.size ((w1.alloc (.cells #[.string ⟨#[98, 10]⟩] 9)).alloc (.cells #[.string ⟨#[120, 10]⟩, .string ⟨#[121, 10]⟩] 9)) (.slice (some ⟨w1.heap.size + 1, 0, none⟩) 2 2) [[120, 10], [121, 10]] := by
    have h := low_lit (w1.alloc (.cells #[.string ⟨#[98, 10]⟩] 9)) [[120, 10], [121, 10]]
    rw [World.size_alloc w1] at h
    exact h
  obtain ⟨X, hX⟩ : ∃ X, X = (w1.alloc (.cells #[.string ⟨#[98, 10]⟩] 9)).alloc (.cells #[.string ⟨#[120, 10]⟩, .string ⟨#[121, 10]⟩] 9) := ⟨_, rfl⟩
  have bX : Below w1.heap.size w1 X := by rw [hX]; exact below_then (below_new _ _) (below_new _ _)
  have q1 : RowLow X.heap.size X (.slice (some ⟨w1.heap.size, 0, none⟩) 1 1) [[98, 10]] := by rw [hX]; exact p1.at (below_new _ _)
  rw [← hX] at p2
  have AP : Hid (_) := apply_at abcL _ _ 1 _ ap1 _ _ _ X (r1.at bX) q1 p2 (by decide) (by decide) (by decide) (by decide)
  have B1 : Hid (Below w.heap.size w X) := below_then b1 bX
  have sX : X.heap.size = w1.heap.size + 1 + 1 := by rw [hX]; simp
  have SX : Hid (_) := sX
  clear p1 p2 q1 r1 b1 bX sX
  go_wp2_with fail
  rw [← hX, ← SX.out]
  refine Calls.mono AP.out ?_
  rintro e w2 ⟨b2, t1, rfl, o2⟩
  have B2 : Hid (Below w.heap.size w w2) := below_then B1.out (below_then (below_new X _) b2)
  have T2 : Hid (RowLow w2.heap.size w2 t1 [[97, 10], [120, 10], [121, 10], [99, 10]]) := RowLow.of_owns o2
  obtain ⟨ta, tc, rfl⟩ := slice_shape o2
  clear AP B1 SX hX o2 b2
  go_wp2_with fail
  refine (abc_any w2).mono ?_
  rintro e w3 ⟨a3, c3, rfl, r3, b3⟩
  have R3 : Hid (_) := r3
  have T3 : Hid (_) := RowLow.at T2.out b3
  have B3 : Hid (Below w.heap.size w w3) := below_then B2.out b3
  clear r3 b3 T2 B2
  go_wp2_with fail
  refine Calls.mono (one_any 1 [99, 10] [120, 10] w3) ?_
  rintro e w4 ⟨a4, c4, a5, c5, rfl, r4, r5, b4⟩
  have AP : Hid (_) := apply_at abcL _ _ 1 _ ap2 _ _ _ w4 (RowLow.at R3.out b4) r4 r5 (by decide) (by decide) (by decide) (by decide)
  have T4 : Hid (_) := RowLow.at T3.out b4
  have B4 : Hid (Below w.heap.size w w4) := below_then B3.out b4
  clear r4 r5 b4 T3 B3 R3
  go_wp2_with fail
  refine Calls.mono AP.out ?_
  rintro e w5 ⟨b5, rfl⟩
  have T5 : Hid (_) := RowLow.at T4.out (below_then (below_new w4 _) b5)
  have B5 : Hid (Below w.heap.size w w5) := below_then B4.out (below_then (below_new w4 _) b5)
  clear AP T4 B4 b5
  go_wp2_with fail
  refine (abc_any w5).mono ?_
  rintro e w6 ⟨a6, c6, rfl, r6, b6⟩
  have p6 : RowLow (w6.alloc (.cells #[.string ⟨#[99, 10]⟩] 9)).heap.size (w6.alloc (.cells #[.string ⟨#[99, 10]⟩] 9)) (.slice (some ⟨w6.heap.size, 0, none⟩) 1 1) [[99, 10]] := low_lit w6 [[99, 10]]
  obtain ⟨Y, hY⟩ : ∃ Y, Y = w6.alloc (.cells #[.string ⟨#[99, 10]⟩] 9) := ⟨_, rfl⟩
  have bY : Below w6.heap.size w6 Y := by rw [hY]; exact below_new _ _
  have sY : Y.heap.size = w6.heap.size + 1 := by rw [hY]; simp
  rw [← hY] at p6
  have nY : RowLow Y.heap.size Y (.slice none 0 0) [] := RowLow.of_owns (World.ownsRow_nil Y 0 9 1)
  have AP : Hid (_) := apply_at abcL _ _ 3 _ ap3 _ _ _ Y (r6.at bY) p6 nY (by decide) (by decide) (by decide) (by decide)
  have T6 : Hid (_) := RowLow.at T5.out (below_then b6 bY)
  have B6 : Hid (Below w.heap.size w Y) := below_then B5.out (below_then b6 bY)
  have SY : Hid (_) := sY
  clear r6 p6 nY b6 bY sY T5 B5
  go_wp2_with fail
  rw [← hY, ← SY.out]
  refine Calls.mono AP.out ?_
  rintro e w7 ⟨b7, rfl⟩
  have T7 : Hid (_) := RowLow.at T6.out (below_then (below_new Y _) b7)
  have B7 : Hid (Below w.heap.size w w7) := below_then B6.out (below_then (below_new Y _) b7)
  clear AP T6 B6 b7 hY SY
  go_wp2_with fail
  refine (abc_any w7).mono ?_
  rintro e w8 ⟨a8, c8, rfl, r8, b8⟩
  have R8 : Hid (_) := r8
  have T8 : Hid (_) := RowLow.at T7.out b8
  have B8 : Hid (Below w.heap.size w w8) := below_then B7.out b8
  clear r8 b8 T7 B7
  go_wp2_with fail
  refine Calls.mono (one_any 2 [99, 10] [100] w8) ?_
  rintro e w9 ⟨a9, c9, a10, c10, rfl, r9, r10, b9⟩
  have AP : Hid (_) := apply_at abcL _ _ 2 _ ap4 _ _ _ w9 (RowLow.at R8.out b9) r9 r10 (by decide) (by decide) (by decide) (by decide)
  have T9 : Hid (_) := RowLow.at T8.out b9
  have B9 : Hid (Below w.heap.size w w9) := below_then B8.out b9
  clear r9 r10 b9 T8 B8 R8
  go_wp2_with fail
  refine Calls.mono AP.out ?_
  rintro e w10 ⟨b10, t4, rfl, o10⟩
  have U10 : Hid (RowLow w10.heap.size w10 t4 [[97, 10], [98, 10], [100]]) := RowLow.of_owns o10
  obtain ⟨ua, uc, rfl⟩ := slice_shape o10
  have T10 : Hid (_) := RowLow.at T9.out (below_then (below_new w9 _) b10)
  have B10 : Hid (Below w.heap.size w w10) := below_then B9.out (below_then (below_new w9 _) b10)
  clear AP T9 B9 b10 o10
  go_wp2_with fail
  refine (abc_any w10).mono ?_
  rintro e w11 ⟨a11, c11, rfl, r11, b11⟩
  have R11 : Hid (_) := r11
  have T11 : Hid (_) := RowLow.at T10.out b11
  have U11 : Hid (_) := RowLow.at U10.out b11
  have B11 : Hid (Below w.heap.size w w11) := below_then B10.out b11
  clear r11 b11 T10 U10 B10
  go_wp2_with fail
  refine Calls.mono (one_any 0 [97, 10] [100] w11) ?_
  rintro e w12 ⟨a12, c12, a13, c13, rfl, r12, r13, b12⟩
  have AP : Hid (_) := apply_at abcL _ _ 0 _ ap5 _ _ _ w12 (RowLow.at R11.out b12) r12 r13 (by decide) (by decide) (by decide) (by decide)
  have T12 : Hid (_) := RowLow.at T11.out b12
  have U12 : Hid (_) := RowLow.at U11.out b12
  have B12 : Hid (Below w.heap.size w w12) := below_then B11.out b12
  clear r12 r13 b12 T11 U11 B11 R11
  go_wp2_with fail
  refine Calls.mono AP.out ?_
  rintro e w13 ⟨b13, rfl⟩
  have T13 : Hid (_) := RowLow.at T12.out (below_then (below_new w12 _) b13)
  have U13 : Hid (_) := RowLow.at U12.out (below_then (below_new w12 _) b13)
  have B13 : Hid (Below w.heap.size w w13) := below_then B12.out (below_then (below_new w12 _) b13)
  clear AP T12 U12 B12 b13
  have S1 : Hid (_) := same_yes (w13.alloc (.cells #[.string ⟨#[97, 10]⟩, .string ⟨#[120, 10]⟩, .string ⟨#[121, 10]⟩, .string ⟨#[99, 10]⟩] 9)) _ (.slice (some ⟨w13.heap.size, 0, none⟩) 4 4) [[97, 10], [120, 10], [121, 10], [99, 10]] _ (RowLow.at T13.out (below_new w13 _)) (low_lit w13 [[97, 10], [120, 10], [121, 10], [99, 10]]) (by decide)
  go_wp2_with fail
  refine Calls.mono S1.out ?_
  rintro e w14 ⟨rfl, d14, hw14⟩
  have b14 : Below w13.heap.size w13 w14 := by rw [hw14]; exact below_drewN (below_new w13 _) d14
  have U14 : Hid (_) := RowLow.at U13.out b14
  have B14 : Hid (Below w.heap.size w w14) := below_then B13.out b14
  clear S1 hw14 b14 T13 U13 B13
  have S2 : Hid (_) := same_yes (w14.alloc (.cells #[.string ⟨#[97, 10]⟩, .string ⟨#[98, 10]⟩, .string ⟨#[100]⟩] 9)) _ (.slice (some ⟨w14.heap.size, 0, none⟩) 3 3) [[97, 10], [98, 10], [100]] _ (RowLow.at U14.out (below_new w14 _)) (low_lit w14 [[97, 10], [98, 10], [100]]) (by decide)
  go_wp2_with fail
  refine Calls.mono S2.out ?_
  rintro e w15 ⟨rfl, d15, hw15⟩
  have B15 : Hid (Below w.heap.size w w15) := below_then B14.out (by rw [hw15]; exact below_drewN (below_new w14 _) d15)
  clear S2 hw15 U14 B14
  go_wp2
  go_ret
  exact ⟨rfl, B15.out⟩

end Go.Proofs.Ytkiafelpgcmifaa
