/-
  Proved here: clerestorylaw01.LinesTell returns true for every text and any numbers, and its arguments read behind the call as they read before (the whole statement Rows.LinesTellSaid, no condition).
-/
import Derived.Test.YtapnakcoanjfgaaRef
import Derived.ProofKit
import Derived.OpenShut
import Derived.ShutString
namespace Go.Proofs.Ytapnakcoanjfgaa.linesTell
open Go.ChangeShapes Go.WideShapes Go.ChangeAt Go.RowKit
open Go.ChangeMaps (open_string shut_string)

theorem own : ownKnob Try.prog.godebug = none := by kernel_rfl

theorem place_both (s : ByteArray) (hs : s.size ≤ 300) (i : Int) : ∃ x y : Int, (∀ w : World, Calls Try.prog 9 #[.string s, .int .i64 i] w fun e W' => e = .returned (.tuple #[.int .i64 x, .int .i64 y]) ∧ Below w.heap.size w W') ∧
    (∀ w : World, Calls Try.prog 10 #[.string s, .int .i64 i] w fun e W' => e = .returned (.tuple #[.int .i64 x, .int .i64 y]) ∧ W' = w) :=
  ⟨_, _, fun w => place_any s (by omega) i w, fun w => refPlace_any s (by omega) i w⟩

theorem at_both (s : ByteArray) (hs : s.size ≤ 300) (n c : Int) (hn0 : -9223372036854775808 ≤ n) (hn1 : n ≤ 9223372036854775807) : ∃ x y : Int, (∀ w : World, Calls Try.prog 11 #[.string s, .int .i64 n, .int .i64 c] w fun e W' => e = .returned (.tuple #[.int .i64 x, .int .i64 y]) ∧ Below w.heap.size w W') ∧
    (∀ w : World, Calls Try.prog 12 #[.string s, .int .i64 n, .int .i64 c] w fun e W' => e = .returned (.tuple #[.int .i64 x, .int .i64 y]) ∧ W' = w) := by
  by_cases h : 0 ≤ n ∧ 0 ≤ c ∧ Ln.atOk s.data.toList n.toNat c.toNat
  · obtain ⟨n', rfl⟩ := Int.eq_ofNat_of_zero_le h.1
    obtain ⟨c', rfl⟩ := Int.eq_ofNat_of_zero_le h.2.1
    have h3 := h.2.2
    rw [Int.toNat_natCast, Int.toNat_natCast] at h3
    refine ⟨(Ln.behindL s.data.toList n' : Int) + (c' : Int), 0, fun w => ?_, fun w => refAt_yes s (by omega) n' c' w h3⟩
    have := at_yes s (by omega) n' c' hn0 hn1 w h.1 h.2.1 h.2.2
    rwa [Int.toNat_natCast] at this
  · exact ⟨0, 6, fun w => at_no s (by omega) n c hn0 hn1 w h, fun w => refAt_no s (by omega) n c w h⟩

theorem span_both (s : ByteArray) (hs : s.size ≤ 300) (n m : Int) (hn0 : -9223372036854775808 ≤ n) (hm1 : m ≤ 9223372036854775807) : ∃ x y z : Int, (∀ w : World, Calls Try.prog 13 #[.string s, .int .i64 n, .int .i64 m] w fun e W' => e = .returned (.tuple #[.agg #[.int .i64 x, .int .i64 y], .int .i64 z]) ∧ Below w.heap.size w W') ∧
    (∀ w : World, Calls Try.prog 14 #[.string s, .int .i64 n, .int .i64 m] w fun e W' => e = .returned (.tuple #[.agg #[.int .i64 x, .int .i64 y], .int .i64 z]) ∧ Below w.heap.size w W') := by
  by_cases h : 0 ≤ n ∧ n ≤ m ∧ m ≤ (Ln.splitL s.data.toList).length
  · obtain ⟨n', rfl⟩ := Int.eq_ofNat_of_zero_le h.1
    obtain ⟨m', rfl⟩ := Int.eq_ofNat_of_zero_le (Int.le_trans h.1 h.2.1)
    refine ⟨Ln.behindL s.data.toList n', Ln.behindL s.data.toList m', 0, fun w => ?_, fun w => refSpan_yes s (by omega) n' m' w (by omega) (by omega)⟩
    have := span_yes s (by omega) n' m' h.1 h.2.1 h.2.2 w
    rwa [Int.toNat_natCast, Int.toNat_natCast] at this
  · exact ⟨0, 0, 2, fun w => span_no s (by omega) n m hn0 hm1 h w, fun w => refSpan_no s (by omega) n m w h⟩

set_option maxRecDepth 100000 in
set_option maxHeartbeats 1000000 in
theorem walk_big (s : ByteArray) (i n c f t : Int) (w0 : s.size ≤ maxLen) (w : World) (hbig : 300 < s.size) :
    Calls Try.prog 3 #[.string s, .int .i64 i, .int .i64 n, .int .i64 c, .int .i64 f, .int .i64 t] w fun e w' => e = .returned (.bool true) ∧ Below w.heap.size w w' := by
  unfold maxLen at w0
  go_enter Try.func3, Try.ntmps3
  go_wp2_with fail
  refine (awake_any _).mono ?_
  rintro e w1 ⟨rfl, hb1⟩
  go_wp2
  go_ret
  exact ⟨rfl, hb1⟩

/-- A block of two cells, in a later world. -/
theorem two_later {X W : World} {B : Nat} {a b : Value} {t : TypeId} (h : X.heap[B]? = some (.cells #[a, b] t (0, 0))) (hb : Below X.heap.size X W) : W.heap[B]? = some (.cells #[a, b] t (0, 0)) :=
  (hb.block B (Array.getElem?_eq_some_iff.1 h).1).trans h

set_option maxRecDepth 100000 in
set_option maxHeartbeats 4000000 in
theorem walk_small (s : ByteArray) (i n c f t : Int) (w : World) (hsm : s.size ≤ 300) (hn : -9223372036854775808 ≤ n ∧ n ≤ 9223372036854775807) (hf : -9223372036854775808 ≤ f) (ht : t ≤ 9223372036854775807) :
    Calls Try.prog 3 #[.string s, .int .i64 i, .int .i64 n, .int .i64 c, .int .i64 f, .int .i64 t] w fun e w' => e = .returned (.bool true) ∧ Below w.heap.size w w' := by
  obtain ⟨x1, y1, P1, P2⟩ := place_both s hsm i
  obtain ⟨x2, y2, P3, P4⟩ := at_both s hsm n c hn.1 hn.2
  obtain ⟨x3, y3, z3, P5, P6⟩ := span_both s hsm f t hf ht
  have Q1 : Hid (∀ w : World, Calls Try.prog 9 #[.string s, .int .i64 i] w fun e W' => e = .returned (.tuple #[.int .i64 x1, .int .i64 y1]) ∧ Below w.heap.size w W') := P1
  have Q2 : Hid (∀ w : World, Calls Try.prog 10 #[.string s, .int .i64 i] w fun e W' => e = .returned (.tuple #[.int .i64 x1, .int .i64 y1]) ∧ W' = w) := P2
  have Q3 : Hid (∀ w : World, Calls Try.prog 11 #[.string s, .int .i64 n, .int .i64 c] w fun e W' => e = .returned (.tuple #[.int .i64 x2, .int .i64 y2]) ∧ Below w.heap.size w W') := P3
  have Q4 : Hid (∀ w : World, Calls Try.prog 12 #[.string s, .int .i64 n, .int .i64 c] w fun e W' => e = .returned (.tuple #[.int .i64 x2, .int .i64 y2]) ∧ W' = w) := P4
  have Q5 : Hid (∀ w : World, Calls Try.prog 13 #[.string s, .int .i64 f, .int .i64 t] w fun e W' => e = .returned (.tuple #[.agg #[.int .i64 x3, .int .i64 y3], .int .i64 z3]) ∧ Below w.heap.size w W') := P5
  have Q6 : Hid (∀ w : World, Calls Try.prog 14 #[.string s, .int .i64 f, .int .i64 t] w fun e W' => e = .returned (.tuple #[.agg #[.int .i64 x3, .int .i64 y3], .int .i64 z3]) ∧ Below w.heap.size w W') := P6
  clear P1 P2 P3 P4 P5 P6
  obtain ⟨L, hL⟩ : ∃ L, L = Ln.splitL s.data.toList := ⟨_, rfl⟩
  have hll : L.length ≤ 300 := by
    have h1 := Ln.splitL_len s.data.toList
    rw [← hL] at h1
    exact Nat.le_trans h1 hsm
  have HL : Hid (L = Ln.splitL s.data.toList) := hL
  clear hL
  go_enter Try.func3, Try.ntmps3
  go_wp2_with fail
  refine (awake_any _).mono ?_
  rintro e w1 ⟨rfl, hb1⟩
  go_wp2_with fail
  refine (Q1.out _).mono ?_
  rintro e w2 ⟨rfl, hb2⟩
  have hB2 := hb1.trans (hb2.mono hb1.size)
  clear hb1 hb2
  go_wp2_with fail
  refine (Q2.out _).mono ?_
  rintro e w' ⟨rfl, rfl⟩
  go_wp2_with fail
  refine (Q3.out _).mono ?_
  rintro e w3 ⟨rfl, hb3⟩
  have hB3 := hB2.trans (hb3.mono hB2.size)
  clear hB2 hb3
  go_wp2_with fail
  refine (Q4.out _).mono ?_
  rintro e w' ⟨rfl, rfl⟩
  go_wp2_with fail
  refine (Q5.out _).mono ?_
  rintro e w4 ⟨rfl, hb4⟩
  have hB4 := hB3.trans (hb4.mono hB3.size)
  clear hB3 hb4
  obtain ⟨X1, hX1⟩ : ∃ X, X = w4.alloc (.cells #[.int .i64 x3, .int .i64 y3] 29) := ⟨_, rfl⟩
  have hm1 : X1.heap[w4.heap.size]? = some (.cells #[.int .i64 x3, .int .i64 y3] 29 (0, 0)) := by rw [hX1]; exact World.alloc_heap_new w4 _
  have hBX1 : Below w.heap.size w X1 := by rw [hX1]; exact hB4.alloc hB4.size _
  obtain ⟨B1, hB1⟩ : ∃ B, B = w4.heap.size := ⟨_, rfl⟩
  go_wp2_with fail
  rw [← hX1, ← hB1]
  rw [← hB1] at hm1
  clear hX1 hB1 hB4
  refine (Q6.out _).mono ?_
  rintro e w5 ⟨rfl, hb5⟩
  have hm2 := two_later hm1 hb5
  have hB5 := hBX1.trans (hb5.mono hBX1.size)
  clear hm1 hBX1 hb5
  obtain ⟨X2, hX2⟩ : ∃ X, X = w5.alloc (.cells #[.int .i64 x3, .int .i64 y3] 29) := ⟨_, rfl⟩
  have hm3 : X2.heap[w5.heap.size]? = some (.cells #[.int .i64 x3, .int .i64 y3] 29 (0, 0)) := by rw [hX2]; exact World.alloc_heap_new w5 _
  have hm4 : X2.heap[B1]? = some (.cells #[.int .i64 x3, .int .i64 y3] 29 (0, 0)) := by rw [hX2]; exact two_later hm2 ((Below.refl _ w5).alloc (Nat.le_refl _) _)
  have hBX2 : Below w.heap.size w X2 := by rw [hX2]; exact hB5.alloc hB5.size _
  obtain ⟨B2, hB2⟩ : ∃ B, B = w5.heap.size := ⟨_, rfl⟩
  go_wp2_with fail
  rw [← hX2, ← hB2]
  rw [← hB2] at hm3
  clear hX2 hB2 hB5 hm2
  refine (split_any s (by omega) _).mono ?_
  rintro e w6 ⟨v6, rfl, hown6, hb6⟩
  rw [← HL.out] at hown6
  go_wp2_with fail
  refine (refSplit_any s (by omega) _).mono ?_
  rintro e w7 ⟨v7, rfl, hown7, hb7⟩
  rw [← HL.out] at hown7
  have r1 : RowAt w7 v6 L := RowAt.of_owns hown6 hb7
  have r2 : RowAt w7 v7 L := RowAt.of_owns hown7 (Below.refl _ w7)
  have hb67 : Below X2.heap.size X2 w7 := hb6.trans (hb7.mono hb6.size)
  have hB7 := hBX2.trans (hb67.mono hBX2.size)
  have k1 := two_later hm3 hb67
  have k2 := two_later hm4 hb67
  have c0 : w7.cell? ⟨B2, 0, none⟩ = some (.int .i64 x3) := by rw [Lib.cell_of_heap k1]; rfl
  have c1 : w7.cell? ⟨B2, 1, none⟩ = some (.int .i64 y3) := by rw [Lib.cell_of_heap k1]; rfl
  have c2 : w7.cell? ⟨B1, 0, none⟩ = some (.int .i64 x3) := by rw [Lib.cell_of_heap k2]; rfl
  have c3 : w7.cell? ⟨B1, 1, none⟩ = some (.int .i64 y3) := by rw [Lib.cell_of_heap k2]; rfl
  clear hown6 hown7 hb6 hb7 hb67 hBX2 k1 k2 hm3 hm4
  go_wp2_with fail
  refine (same_any w7 _ _ L L r1 r2 (by omega) (by omega)).mono ?_
  rintro e w8 ⟨rfl, d, rfl⟩
  rw [decide_eq_true rfl]
  clear r1 r2
  go_wp2
  go_ret
  exact ⟨rfl, below_drewN hB7 d⟩

theorem walk (s : ByteArray) (i n c f t : Int) (w0 : s.size ≤ maxLen) (w : World) (hn : -9223372036854775808 ≤ n ∧ n ≤ 9223372036854775807) (hf : -9223372036854775808 ≤ f) (ht : t ≤ 9223372036854775807) :
    Calls Try.prog 3 #[.string s, .int .i64 i, .int .i64 n, .int .i64 c, .int .i64 f, .int .i64 t] w fun e w' => e = .returned (.bool true) ∧ Below w.heap.size w w' := by
  by_cases h : s.size ≤ 300
  · exact walk_small s i n c f t w h hn hf ht
  · exact walk_big s i n c f t w0 w (by omega)

set_option maxRecDepth 100000 in
theorem lifted (os : Os) (started : os.Started) (H : Type) (enc : TypeId × Value → H) :
    ReturnsInHanded {} Try.checked os 3 .any (Rows.linesTellSpec.pre6 enc Try.prog Try.f3 Rows.linesTellRow.domain false) (Rows.linesTellSpec.post enc Try.prog Try.f3 false true false false) := by
  refine returnsInHanded_of_change (C := Try.checked) own started (by kernel_rfl) Try.func3
    (ChangeSpec.witness6 (enc := enc) (C := Try.checked) false ⟨#[], #[.string ByteArray.empty, .int .i64 0, .int .i64 0, .int .i64 0, .int .i64 0, .int .i64 0], []⟩ 8 (by kernel_rfl) (by kernel_rfl) (by kernel_rfl) (by kernel_rfl)) ?_
  intro W base args ds gs before hval0 hW hcnd _
  have hval : ∀ (j : Nat) t v, Try.f3.params[j]? = some t → args[j]? = some v → Value.okWide Try.prog W .any base t v := hval0
  have hW' := hW
  obtain ⟨p, q, hA0, hV, rfl, hfz, hnd⟩ := hW
  have hA : DataW.TrodAll enc Try.prog W 0 (fun _ => true) true Try.f3.params.toList args.toList ds p := hA0
  rw [Try.params3] at hA hval
  obtain ⟨v0, vs0, d0, ds0, p0, q0, hargs, rfl, rfl, h0, r0⟩ := trodAll_cons hA
  obtain ⟨v1, vs1, d1, ds1, p1, q1, rfl, rfl, rfl, h1, r1⟩ := trodAll_cons r0
  obtain ⟨v2, vs2, d2, ds2, p2, q2, rfl, rfl, rfl, h2, r2⟩ := trodAll_cons r1
  obtain ⟨v3, vs3, d3, ds3, p3, q3, rfl, rfl, rfl, h3, r3⟩ := trodAll_cons r2
  obtain ⟨v4, vs4, d4, ds4, p4, q4, rfl, rfl, rfl, h4, r4⟩ := trodAll_cons r3
  obtain ⟨v5, vs5, d5, ds5, p5, q5, rfl, rfl, rfl, h5, r5⟩ := trodAll_cons r4
  obtain ⟨rfl, rfl, rfl⟩ := trodAll_nil r5
  obtain rfl : args = #[v0, v1, v2, v3, v4, v5] := by cases args; simp_all
  obtain ⟨rfl, rfl⟩ := trodVars_none hV
  obtain ⟨a0, rfl, rfl, rfl, w0⟩ := open_string Try.underlying9 (hval 0 9 v0 rfl rfl) h0
  obtain ⟨a1, rfl, rfl, rfl, w1⟩ := open_int Try.underlying3 (hval 1 3 v1 rfl rfl) h1
  obtain ⟨a2, rfl, rfl, rfl, w2⟩ := open_int Try.underlying3 (hval 2 3 v2 rfl rfl) h2
  obtain ⟨a3, rfl, rfl, rfl, w3⟩ := open_int Try.underlying3 (hval 3 3 v3 rfl rfl) h3
  obtain ⟨a4, rfl, rfl, rfl, w4⟩ := open_int Try.underlying3 (hval 4 3 v4 rfl rfl) h4
  obtain ⟨a5, rfl, rfl, rfl, w5⟩ := open_int Try.underlying3 (hval 5 3 v5 rfl rfl) h5
  clear hA0 hval0
  refine (walk a0 a1 a2 a3 a4 a5 w0 W (bounds_i64 w2) (bounds_i64 w4).1 (bounds_i64 w5).2).mono fun e W' ⟨he, bel⟩ => ?_
  subst he
  exact ⟨_, rfl, _, _, _, [], _, [], hW', trodAll_mk1 (shut_bool Try.underlying4 _), (trodAll_cons_mk (shut_string Try.underlying9 w0) (trodAll_cons_mk (shut_int Try.underlying3 w1) (trodAll_cons_mk (shut_int Try.underlying3 w2) (trodAll_cons_mk (shut_int Try.underlying3 w3) (trodAll_cons_mk (shut_int Try.underlying3 w4) (trodAll_cons_mk (shut_int Try.underlying3 w5) trodAll_mk0)))))), rfl, bel.frame _, fun h => by cases h⟩

end Go.Proofs.Ytapnakcoanjfgaa.linesTell

namespace Go.Proofs.Ytapnakcoanjfgaa
open Go.ChangeShapes Go.WideShapes Go.ChangeAt Go.RowKit

theorem linesTell_holds : Rows.LinesTellSaid :=
  OpenClaim.holds_of_wide 3 Try.f3 rfl rfl rfl rfl rfl rfl rfl ⟨rfl, rfl, rfl, rfl, rfl⟩ rfl rfl rfl rfl rfl (by kernel_rfl) Try.func3 (by kernel_rfl)
    (of_decide_eq_true (by kernel_rfl)) (by unfold Func.isWrapper; first | (rw [if_pos (by decide +kernel)]; kernel_rfl) | (rw [if_neg (by decide +kernel)]; exact ⟨rfl, rfl⟩))
    (fun os started H enc _ => linesTell.lifted os started H enc)

#print axioms linesTell_holds
end Go.Proofs.Ytapnakcoanjfgaa
