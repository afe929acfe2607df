/-
  The walk of the law that ints are a ring modulo 2^64.
-/
import Derived.Test.YtcnmgebjbaclaaaDoorVlGot
import Derived.Test.YtcnmgebjbaclaaaDoorVlRing
namespace Go.Proofs.YtcnmgebjbaclaaaDoor
open Go.RowKit Go.Shelf
open Vl (V Res)

attribute [local go_sem] Oper.semAt_some

theorem got_add (x y : Int) (w : World) : Calls Tryd.prog 21 #[.string ⟨#[43]⟩, .int .i64 x, .int .i64 y] w fun e w' => e = .returned (.int .i64 (Vl.add x y)) ∧ Below w.heap.size w w' :=
  got_any [43] (by decide) x y (.int (Vl.add x y)) rfl (fun e h => by cases h) w
theorem got_sub (x y : Int) (w : World) : Calls Tryd.prog 21 #[.string ⟨#[45]⟩, .int .i64 x, .int .i64 y] w fun e w' => e = .returned (.int .i64 (Vl.sub x y)) ∧ Below w.heap.size w w' :=
  got_any [45] (by decide) x y (.int (Vl.sub x y)) rfl (fun e h => by cases h) w
theorem got_mul (x y : Int) (w : World) : Calls Tryd.prog 21 #[.string ⟨#[42]⟩, .int .i64 x, .int .i64 y] w fun e w' => e = .returned (.int .i64 (Vl.mul x y)) ∧ Below w.heap.size w w' :=
  got_any [42] (by decide) x y (.int (Vl.mul x y)) rfl (fun e h => by cases h) w
theorem got_quo (x y : Int) (hy : y ≠ 0) (w : World) : Calls Tryd.prog 21 #[.string ⟨#[47]⟩, .int .i64 x, .int .i64 y] w fun e w' => e = .returned (.int .i64 (Vl.quo x y)) ∧ Below w.heap.size w w' :=
  got_any [47] (by decide) x y (.int (Vl.quo x y)) (show (if y = 0 then Res.err 202 else Res.int (Vl.quo x y)) = Res.int (Vl.quo x y) from if_neg hy) (fun e h => by cases h) w
theorem got_rem (x y : Int) (hy : y ≠ 0) (w : World) : Calls Tryd.prog 21 #[.string ⟨#[37]⟩, .int .i64 x, .int .i64 y] w fun e w' => e = .returned (.int .i64 (Vl.rem x y)) ∧ Below w.heap.size w w' :=
  got_any [37] (by decide) x y (.int (Vl.rem x y)) (show (if y = 0 then Res.err 202 else Res.int (Vl.rem x y)) = Res.int (Vl.rem x y) from if_neg hy) (fun e h => by cases h) w
theorem got_lt (x y : Int) (b : Bool) (hb : decide (x < y) = b) (w : World) : Calls Tryd.prog 21 #[.string ⟨#[60]⟩, .int .i64 x, .int .i64 y] w fun e w' => e = .returned (.int .i64 (Vl.one b)) ∧ Below w.heap.size w w' := by
  subst hb
  exact got_any [60] (by decide) x y (.bool (decide (x < y))) rfl (fun e h => by cases h) w
theorem got_le (x y : Int) (b : Bool) (hb : decide (x ≤ y) = b) (w : World) : Calls Tryd.prog 21 #[.string ⟨#[60, 61]⟩, .int .i64 x, .int .i64 y] w fun e w' => e = .returned (.int .i64 (Vl.one b)) ∧ Below w.heap.size w w' := by
  subst hb
  exact got_any [60, 61] (by decide) x y (.bool (decide (x ≤ y))) rfl (fun e h => by cases h) w
theorem got_gt (x y : Int) (b : Bool) (hb : decide (y < x) = b) (w : World) : Calls Tryd.prog 21 #[.string ⟨#[62]⟩, .int .i64 x, .int .i64 y] w fun e w' => e = .returned (.int .i64 (Vl.one b)) ∧ Below w.heap.size w w' := by
  subst hb
  exact got_any [62] (by decide) x y (.bool (decide (y < x))) rfl (fun e h => by cases h) w
theorem got_ge (x y : Int) (b : Bool) (hb : decide (y ≤ x) = b) (w : World) : Calls Tryd.prog 21 #[.string ⟨#[62, 61]⟩, .int .i64 x, .int .i64 y] w fun e w' => e = .returned (.int .i64 (Vl.one b)) ∧ Below w.heap.size w w' := by
  subst hb
  exact got_any [62, 61] (by decide) x y (.bool (decide (y ≤ x))) rfl (fun e h => by cases h) w
theorem got_eq (x y : Int) (b : Bool) (hb : Vl.same ⟨1, x, []⟩ ⟨1, y, []⟩ = b) (w : World) : Calls Tryd.prog 21 #[.string ⟨#[61, 61]⟩, .int .i64 x, .int .i64 y] w fun e w' => e = .returned (.int .i64 (Vl.one b)) ∧ Below w.heap.size w w' := by
  subst hb
  exact got_any [61, 61] (by decide) x y (.bool (Vl.same ⟨1, x, []⟩ ⟨1, y, []⟩)) rfl (fun e h => by cases h) w
theorem bin_quo0 (x : Int) (w : World) : Calls Tryd.prog 23 #[.string ⟨#[47]⟩, vV 1 x nilV, vV 1 0 nilV] w fun e w' => e = .returned (.tuple #[vV 0 0 nilV, .int .i64 202]) ∧ Below w.heap.size w w' :=
  bin0_any [47] (by decide) 1 x 1 0 (.err 202) rfl w
theorem bin_rem0 (x : Int) (w : World) : Calls Tryd.prog 23 #[.string ⟨#[37]⟩, vV 1 x nilV, vV 1 0 nilV] w fun e w' => e = .returned (.tuple #[vV 0 0 nilV, .int .i64 202]) ∧ Below w.heap.size w w' :=
  bin0_any [37] (by decide) 1 x 1 0 (.err 202) rfl w
theorem un_neg (x : Int) (w : World) : Calls Tryd.prog 22 #[.string ⟨#[45]⟩, vV 1 x nilV] w fun e w' => e = .returned (.tuple #[vV 1 (Vl.neg x) nilV, .int .i64 0]) ∧ Below w.heap.size w w' :=
  un0_any [45] (by decide) 1 x (.int (Vl.neg x)) rfl w

set_option maxRecDepth 100000 in
set_option maxHeartbeats 8000000 in
theorem ring_law (x y z : Int) (hx : Vl.In x) (hy : Vl.In y) (w : World) (ht : TabW w) :
    Calls Tryd.prog 6 #[.int .i64 x, .int .i64 y, .int .i64 z] w fun e w' => e = .returned (.bool true) ∧ Below w.heap.size w w' := by
  have HT : Hid (TabW w) := ht
  have HX : Hid (Vl.In x ∧ Vl.In y) := ⟨hx, hy⟩
  have e1 : (Vl.add x y != Vl.add y x) = false := by rw [bne_eq_false_iff_eq]; exact Vl.add_comm x y
  have e2 : (Vl.mul x y != Vl.mul y x) = false := by rw [bne_eq_false_iff_eq]; exact Vl.mul_comm x y
  have e3 : (Vl.add (Vl.add x y) z != Vl.add x (Vl.add y z)) = false := by rw [bne_eq_false_iff_eq]; exact Vl.add_assoc x y z
  have e4 : (Vl.mul (Vl.mul x y) z != Vl.mul x (Vl.mul y z)) = false := by rw [bne_eq_false_iff_eq]; exact Vl.mul_assoc x y z
  have e5 : (Vl.mul x (Vl.add y z) != Vl.add (Vl.mul x y) (Vl.mul x z)) = false := by rw [bne_eq_false_iff_eq]; exact Vl.mul_add x y z
  have e6 : (Vl.sub (Vl.add x y) y != x) = false := by rw [bne_eq_false_iff_eq]; exact Vl.sub_add hx
  have e7 : (Vl.add (Vl.neg x) x != 0) = false := by rw [bne_eq_false_iff_eq]; exact Vl.neg_add x
  have HTRI : Hid (∃ a b c d f : Bool, decide (x < y) = a ∧ Vl.same ⟨1, x, []⟩ ⟨1, y, []⟩ = b ∧ decide (y < x) = c ∧ decide (x ≤ y) = d ∧ decide (y ≤ x) = f ∧ ((a = true ∧ b = false ∧ c = false ∧ d = true ∧ f = false) ∨ (a = false ∧ b = true ∧ c = false ∧ d = true ∧ f = true) ∨ (a = false ∧ b = false ∧ c = true ∧ d = false ∧ f = true))) := by
    refine ⟨_, _, _, _, _, rfl, rfl, rfl, rfl, rfl, ?_⟩
    unfold Vl.same
    rcases Int.lt_trichotomy x y with h | h | h
    · exact .inl ⟨by simp; omega, by simp; omega, by simp; omega, by simp; omega, by simp; omega⟩
    · exact .inr (.inl ⟨by simp; omega, by simp; omega, by simp; omega, by simp; omega, by simp; omega⟩)
    · exact .inr (.inr ⟨by simp; omega, by simp; omega, by simp; omega, by simp; omega, by simp; omega⟩)
  clear hx hy ht
  go_enter Tryd.func6, Tryd.ntmps6
  go_wp2_with fail
  refine Calls.mono (awake_any w HT.out) ?_
  rintro e w1 ⟨rfl, hb⟩
  have H1 : Hid (Below w.heap.size w w1) := hb
  clear hb
  go_wp2_with fail
  refine Calls.mono (got_add _ _ _) ?_
  rintro e w2 ⟨rfl, hb⟩
  have H2 : Hid (Below w.heap.size w w2) := below_then H1.out hb
  clear hb
  go_wp2_with fail
  refine Calls.mono (got_add _ _ _) ?_
  rintro e w3 ⟨rfl, hb⟩
  have H3 : Hid (Below w.heap.size w w3) := below_then H2.out hb
  clear hb
  go_wp2_with fail
  refine Calls.mono (got_mul _ _ _) ?_
  rintro e w4 ⟨rfl, hb⟩
  have H4 : Hid (Below w.heap.size w w4) := below_then H3.out hb
  clear hb
  go_wp2_with fail
  refine Calls.mono (got_mul _ _ _) ?_
  rintro e w5 ⟨rfl, hb⟩
  have H5 : Hid (Below w.heap.size w w5) := below_then H4.out hb
  clear hb
  go_wp2_with fail
  refine Calls.mono (got_add _ _ _) ?_
  rintro e w6 ⟨rfl, hb⟩
  have H6 : Hid (Below w.heap.size w w6) := below_then H5.out hb
  clear hb
  go_wp2_with fail
  refine Calls.mono (got_add _ _ _) ?_
  rintro e w7 ⟨rfl, hb⟩
  have H7 : Hid (Below w.heap.size w w7) := below_then H6.out hb
  clear hb
  go_wp2_with fail
  refine Calls.mono (got_add _ _ _) ?_
  rintro e w8 ⟨rfl, hb⟩
  have H8 : Hid (Below w.heap.size w w8) := below_then H7.out hb
  clear hb
  go_wp2_with fail
  refine Calls.mono (got_add _ _ _) ?_
  rintro e w9 ⟨rfl, hb⟩
  have H9 : Hid (Below w.heap.size w w9) := below_then H8.out hb
  clear hb
  go_wp2_with fail
  refine Calls.mono (got_mul _ _ _) ?_
  rintro e w10 ⟨rfl, hb⟩
  have H10 : Hid (Below w.heap.size w w10) := below_then H9.out hb
  clear hb
  go_wp2_with fail
  refine Calls.mono (got_mul _ _ _) ?_
  rintro e w11 ⟨rfl, hb⟩
  have H11 : Hid (Below w.heap.size w w11) := below_then H10.out hb
  clear hb
  go_wp2_with fail
  refine Calls.mono (got_mul _ _ _) ?_
  rintro e w12 ⟨rfl, hb⟩
  have H12 : Hid (Below w.heap.size w w12) := below_then H11.out hb
  clear hb
  go_wp2_with fail
  refine Calls.mono (got_mul _ _ _) ?_
  rintro e w13 ⟨rfl, hb⟩
  have H13 : Hid (Below w.heap.size w w13) := below_then H12.out hb
  clear hb
  go_wp2_with fail
  refine Calls.mono (got_add _ _ _) ?_
  rintro e w14 ⟨rfl, hb⟩
  have H14 : Hid (Below w.heap.size w w14) := below_then H13.out hb
  clear hb
  go_wp2_with fail
  refine Calls.mono (got_mul _ _ _) ?_
  rintro e w15 ⟨rfl, hb⟩
  have H15 : Hid (Below w.heap.size w w15) := below_then H14.out hb
  clear hb
  go_wp2_with fail
  refine Calls.mono (got_mul _ _ _) ?_
  rintro e w16 ⟨rfl, hb⟩
  have H16 : Hid (Below w.heap.size w w16) := below_then H15.out hb
  clear hb
  go_wp2_with fail
  refine Calls.mono (got_mul _ _ _) ?_
  rintro e w17 ⟨rfl, hb⟩
  have H17 : Hid (Below w.heap.size w w17) := below_then H16.out hb
  clear hb
  go_wp2_with fail
  refine Calls.mono (got_add _ _ _) ?_
  rintro e w18 ⟨rfl, hb⟩
  have H18 : Hid (Below w.heap.size w w18) := below_then H17.out hb
  clear hb
  go_wp2_with fail
  refine Calls.mono (got_add _ _ _) ?_
  rintro e w19 ⟨rfl, hb⟩
  have H19 : Hid (Below w.heap.size w w19) := below_then H18.out hb
  clear hb
  go_wp2_with fail
  refine Calls.mono (got_sub _ _ _) ?_
  rintro e w20 ⟨rfl, hb⟩
  have H20 : Hid (Below w.heap.size w w20) := below_then H19.out hb
  clear hb
  go_wp2_with fail
  refine Calls.mono (whole_any x _) ?_
  rintro e w21 ⟨rfl, hb⟩
  have H21 : Hid (Below w.heap.size w w21) := below_then H20.out hb
  clear hb
  go_wp2_with fail
  refine Calls.mono (un_neg x _) ?_
  rintro e w22 ⟨rfl, hb⟩
  have H22 : Hid (Below w.heap.size w w22) := below_then H21.out hb
  clear hb
  have HBX : Hid (∀ o, Below w.heap.size w (w22.alloc o)) := fun o => below_then H22.out (below_new _ o)
  go_wp2_with fail
  refine Calls.mono (got_add _ _ _) ?_
  rintro e w23 ⟨rfl, hb⟩
  have H23 : Hid (Below w.heap.size w w23) := below_then (HBX.out _) hb
  clear hb
  obtain ⟨a, b, c, d, f, ha, hb, hc, hd, hf, hall⟩ := HTRI.out
  have HA : Hid (_) := ha
  have HBb : Hid (_) := hb
  have HCc : Hid (_) := hc
  have HDd : Hid (_) := hd
  have HFf : Hid (_) := hf
  have HALL : Hid (_) := hall
  clear ha hb hc hd hf hall HTRI
  have sums : ∀ p q r : Bool, True := fun _ _ _ => trivial
  clear sums
  go_wp2_with fail
  refine Calls.mono (got_lt _ _ a HA.out _) ?_
  rintro e w24 ⟨rfl, hb⟩
  have H24 : Hid (Below w.heap.size w w24) := below_then H23.out hb
  clear hb
  go_wp2_with fail
  refine Calls.mono (got_eq _ _ b HBb.out _) ?_
  rintro e w25 ⟨rfl, hb⟩
  have H25 : Hid (Below w.heap.size w w25) := below_then H24.out hb
  clear hb
  go_wp2_with fail
  refine Calls.mono (got_gt _ _ c HCc.out _) ?_
  rintro e w26 ⟨rfl, hb⟩
  have H26 : Hid (Below w.heap.size w w26) := below_then H25.out hb
  clear hb
  have s1 : (wrap64 (wrap64 (Vl.one a + Vl.one b) + Vl.one c) != 1) = false := by
    rcases HALL.out with ⟨rfl, rfl, rfl, rfl, rfl⟩ | ⟨rfl, rfl, rfl, rfl, rfl⟩ | ⟨rfl, rfl, rfl, rfl, rfl⟩ <;> simp [Vl.one, wrap64]
  go_wp2_with fail
  refine Calls.mono (got_le _ _ d HDd.out _) ?_
  rintro e w27 ⟨rfl, hb⟩
  have H27 : Hid (Below w.heap.size w w27) := below_then H26.out hb
  clear hb
  go_wp2_with fail
  refine Calls.mono (got_gt _ _ c HCc.out _) ?_
  rintro e w28 ⟨rfl, hb⟩
  have H28 : Hid (Below w.heap.size w w28) := below_then H27.out hb
  clear hb
  have s2 : (wrap64 (Vl.one d + Vl.one c) != 1) = false := by
    rcases HALL.out with ⟨rfl, rfl, rfl, rfl, rfl⟩ | ⟨rfl, rfl, rfl, rfl, rfl⟩ | ⟨rfl, rfl, rfl, rfl, rfl⟩ <;> simp [Vl.one, wrap64]
  go_wp2_with fail
  refine Calls.mono (got_ge _ _ f HFf.out _) ?_
  rintro e w29 ⟨rfl, hb⟩
  have H29 : Hid (Below w.heap.size w w29) := below_then H28.out hb
  clear hb
  go_wp2_with fail
  refine Calls.mono (got_lt _ _ a HA.out _) ?_
  rintro e w30 ⟨rfl, hb⟩
  have H30 : Hid (Below w.heap.size w w30) := below_then H29.out hb
  clear hb
  have s3 : (wrap64 (Vl.one f + Vl.one a) != 1) = false := by
    rcases HALL.out with ⟨rfl, rfl, rfl, rfl, rfl⟩ | ⟨rfl, rfl, rfl, rfl, rfl⟩ | ⟨rfl, rfl, rfl, rfl, rfl⟩ <;> simp [Vl.one, wrap64]
  by_cases h0 : y = 0
  · subst h0
    go_wp2_with fail
    refine Calls.mono (whole_any x _) ?_
    rintro e w31 ⟨rfl, hb⟩
    have H31 : Hid (Below w.heap.size w w31) := below_then H30.out hb
    clear hb
    go_wp2_with fail
    refine Calls.mono (whole_any 0 _) ?_
    rintro e w32 ⟨rfl, hb⟩
    have H32 : Hid (Below w.heap.size w w32) := below_then H31.out hb
    clear hb
    go_wp2_with fail
    refine Calls.mono (bin_quo0 x _) ?_
    rintro e w33 ⟨rfl, hb⟩
    have H33 : Hid (Below w.heap.size w w33) := below_then H32.out hb
    clear hb
    have HBY : Hid (∀ o, Below w.heap.size w (w33.alloc o)) := fun o => below_then H33.out (below_new _ o)
    go_wp2_with fail
    refine Calls.mono (whole_any x _) ?_
    rintro e w34 ⟨rfl, hb⟩
    have H34 : Hid (Below w.heap.size w w34) := below_then (HBY.out _) hb
    clear hb
    go_wp2_with fail
    refine Calls.mono (whole_any 0 _) ?_
    rintro e w35 ⟨rfl, hb⟩
    have H35 : Hid (Below w.heap.size w w35) := below_then H34.out hb
    clear hb
    go_wp2_with fail
    refine Calls.mono (bin_rem0 x _) ?_
    rintro e w36 ⟨rfl, hb⟩
    have H36 : Hid (Below w.heap.size w w36) := below_then H35.out hb
    clear hb
    go_wp2
    go_ret
    exact ⟨rfl, below_then H36.out (below_new _ _)⟩
  · have hy0 : (y == 0) = false := by simpa using h0
    have HY0 : Hid (y ≠ 0) := h0
    clear h0
    go_wp2_with fail
    refine Calls.mono (got_quo x y HY0.out _) ?_
    rintro e w31 ⟨rfl, hb⟩
    have H31 : Hid (Below w.heap.size w w31) := below_then H30.out hb
    clear hb
    go_wp2_with fail
    refine Calls.mono (got_rem x y HY0.out _) ?_
    rintro e w32 ⟨rfl, hb⟩
    have H32 : Hid (Below w.heap.size w w32) := below_then H31.out hb
    clear hb
    have q1 : (Vl.add (Vl.mul (Vl.quo x y) y) (Vl.rem x y) != x) = false := by rw [bne_eq_false_iff_eq]; exact Vl.quo_rem HX.out.1
    go_wp2_with fail
    refine Calls.mono (got_mul _ _ _) ?_
    rintro e w33 ⟨rfl, hb⟩
    have H33 : Hid (Below w.heap.size w w33) := below_then H32.out hb
    clear hb
    go_wp2_with fail
    refine Calls.mono (got_add _ _ _) ?_
    rintro e w34 ⟨rfl, hb⟩
    have H34 : Hid (Below w.heap.size w w34) := below_then H33.out hb
    clear hb
    have HSG : Hid (Vl.rem x y ≠ 0 → decide (Vl.rem x y < 0) = decide (x < 0)) := Vl.rem_sign HY0.out
    have HAB : Hid (y ≠ -9223372036854775808 → (Vl.rem x y < 0 → -Vl.rem x y < Vl.abs y) ∧ (0 ≤ Vl.rem x y → Vl.rem x y < Vl.abs y)) := fun h => Vl.rem_abs HX.out.2 HY0.out h
    have HRB : Hid (Vl.rem x y < 0 → wrap64 (-Vl.rem x y) = -Vl.rem x y) := by
      show _ → _
      intro h
      have hy1 := HX.out.2
      unfold Vl.In at hy1
      by_cases hxx : x < 0
      · have := Vl.rem_neg hxx HY0.out
        unfold wrap64; omega
      · have := Vl.rem_pos (x := x) (by omega) HY0.out
        omega
    obtain ⟨r, hr⟩ : ∃ r, r = Vl.rem x y := ⟨_, rfl⟩
    rw [← hr] at HSG HAB HRB q1
    rw [← hr]
    obtain ⟨B, hB⟩ : ∃ b, b = Vl.abs y := ⟨_, rfl⟩
    have HBB : Hid (∀ W, Calls Tryd.prog 24 #[.int .i64 y] W fun e w' => e = .returned (.int .i64 B) ∧ w' = W) := fun W => by rw [hB]; exact abs_any y W
    rw [← hB] at HAB
    clear hr hB e1 e2 e3 e4 e5 e6 e7 s1 s2 s3 HA HBb HCc HDd HFf HALL
    have HLAST : Hid (∀ W, Below w.heap.size w W → True) := fun _ _ => trivial
    by_cases hm : y = -9223372036854775808
    · have hmq : (y == -9223372036854775808) = true := by simp [hm]
      have HM : Hid (_) := hm
      clear hm
      by_cases hr0 : r = 0
      · have g1 : (r != 0) = false := by simp [hr0]
        clear hr0
        go_wp2
        all_goals go_ret
        all_goals exact ⟨rfl, H34.out⟩
      · have g1 : (r != 0) = true := by simpa using hr0
        have g2 := HSG.out hr0
        cases hcx : decide (x < 0) with
        | true =>
          rw [hcx] at g2
          clear hr0
          go_wp2
          all_goals go_ret
          all_goals exact ⟨rfl, H34.out⟩
        | false =>
          rw [hcx] at g2
          clear hr0
          go_wp2
          all_goals go_ret
          all_goals exact ⟨rfl, H34.out⟩
    · have hmq : (y == -9223372036854775808) = false := by simpa using hm
      have hab := HAB.out hm
      have HM : Hid (_) := hm
      clear hm
      by_cases hneg : r < 0
      · have k1 := hab.1 hneg
        have g1 : (r != 0) = true := by rw [bne_iff_ne]; omega
        have g2 := HSG.out (by omega)
        have k2 := HRB.out hneg
        have d1 : decide (r < 0) = true := decide_eq_true hneg
        rw [d1] at g2
        have d2 : decide (x < 0) = true := g2.symm
        have d3 : decide (wrap64 (-r) < B) = true := by rw [k2]; exact decide_eq_true k1
        have d4 : decide (-r < B) = true := decide_eq_true k1
        clear hneg k1 k2 g2 hab
        go_wp2_with (go_at_call 24; refine (HBB.out _).mono ?_; rintro e w' ⟨rfl, rfl⟩)
        all_goals go_ret
        all_goals exact ⟨rfl, H34.out⟩
      · have k1 := hab.2 (by omega)
        have d1 : decide (r < 0) = false := decide_eq_false hneg
        have d5 : decide (0 ≤ r) = true := decide_eq_true (by omega)
        have d4 : decide (r < B) = true := decide_eq_true k1
        by_cases hr0 : r = 0
        · have g1 : (r != 0) = false := by simp [hr0]
          clear hneg k1 hab hr0
          go_wp2_with (go_at_call 24; refine (HBB.out _).mono ?_; rintro e w' ⟨rfl, rfl⟩)
          all_goals go_ret
          all_goals exact ⟨rfl, H34.out⟩
        · have g1 : (r != 0) = true := by simpa using hr0
          have g2 := HSG.out hr0
          rw [d1] at g2
          have d2 : decide (x < 0) = false := g2.symm
          clear hneg k1 hab hr0 g2
          go_wp2_with (go_at_call 24; refine (HBB.out _).mono ?_; rintro e w' ⟨rfl, rfl⟩)
          all_goals go_ret
          all_goals exact ⟨rfl, H34.out⟩
end Go.Proofs.YtcnmgebjbaclaaaDoor
