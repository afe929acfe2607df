/-
  The walks of got, of abs and of the law that ints are a ring.
-/
import Derived.Test.YtcnmgebjbaclaaaDoorVlAwake
namespace Go.Proofs.YtcnmgebjbaclaaaDoor
open Go.RowKit Go.Shelf
open Vl (V Res)

attribute [local go_sem] Oper.semAt_some

/-- What got tells. -/
def Vl.got (r : Res) : Int := match r with | .err _ => -12345 | r => r.n
set_option maxRecDepth 100000 in
set_option maxHeartbeats 8000000 in
theorem got_any (q : List UInt8) (hq : q.length ≤ 1000000) (x y : Int) (r : Res) (hr : Vl.bin q ⟨1, x, []⟩ ⟨1, y, []⟩ = r) (he : ∀ e, r = .err e → e ≠ 0) (w : World) :
    Calls Tryd.prog 21 #[.string (Ln.bs q), .int .i64 x, .int .i64 y] w fun e w' => e = .returned (.int .i64 (Vl.got r)) ∧ Below w.heap.size w w' := by
  have HB : Hid (∀ W, Calls Tryd.prog 23 #[.string (Ln.bs q), vV 1 x nilV, vV 1 y nilV] W fun e w' => e = .returned (.tuple #[vV r.k r.n nilV, .int .i64 r.e]) ∧ Below W.heap.size W w') := bin0_any q hq 1 x 1 y r hr
  obtain ⟨rn, hrn⟩ : ∃ z, z = r.n := ⟨_, rfl⟩
  obtain ⟨rk, hrk⟩ : ∃ z, z = r.k := ⟨_, rfl⟩
  obtain ⟨re, hre⟩ : ∃ z, z = r.e := ⟨_, rfl⟩
  rw [← hrn, ← hrk, ← hre] at HB
  have hcase : (re = 0 ∧ Vl.got r = rn) ∨ (re ≠ 0 ∧ Vl.got r = -12345) := by
    subst hrn hre
    cases r with
    | int n => exact .inl ⟨rfl, rfl⟩
    | bool b => exact .inl ⟨rfl, rfl⟩
    | err e => exact .inr ⟨he e rfl, rfl⟩
  obtain ⟨G, hG⟩ : ∃ z, z = Vl.got r := ⟨_, rfl⟩
  rw [← hG] at hcase
  rw [← hG]
  clear hr he hrn hrk hre hG
  rcases hcase with ⟨h0, h1⟩ | ⟨h0, h1⟩
  · subst h0 h1
    go_enter Tryd.func21, Tryd.ntmps21
    go_wp2_with fail
    refine Calls.mono (whole_any x _) ?_
    rintro e w1 ⟨rfl, hb1⟩
    go_wp2_with fail
    refine Calls.mono (whole_any y _) ?_
    rintro e w2 ⟨rfl, hb2⟩
    go_wp2_with fail
    refine Calls.mono (HB.out _) ?_
    rintro e w3 ⟨rfl, hb3⟩
    have H3 : Hid (Below w.heap.size w w3) := below_then (below_then hb1 hb2) hb3
    clear hb1 hb2 hb3
    go_wp2
    go_ret
    exact ⟨rfl, below_then H3.out (below_new _ _)⟩
  · have hne : (re != 0) = true := by simpa using h0
    have HN : Hid (re ≠ 0) := h0
    subst h1
    clear h0
    go_enter Tryd.func21, Tryd.ntmps21
    go_wp2_with fail
    refine Calls.mono (whole_any x _) ?_
    rintro e w1 ⟨rfl, hb1⟩
    go_wp2_with fail
    refine Calls.mono (whole_any y _) ?_
    rintro e w2 ⟨rfl, hb2⟩
    go_wp2_with fail
    refine Calls.mono (HB.out _) ?_
    rintro e w3 ⟨rfl, hb3⟩
    have H3 : Hid (Below w.heap.size w w3) := below_then (below_then hb1 hb2) hb3
    clear hb1 hb2 hb3
    go_wp2
    go_ret
    exact ⟨rfl, below_then H3.out (below_new _ _)⟩
set_option maxRecDepth 100000 in
set_option maxHeartbeats 8000000 in
theorem abs_any (n : Int) (w : World) : Calls Tryd.prog 24 #[.int .i64 n] w fun e w' => e = .returned (.int .i64 (if n < 0 then Vl.wrap (-n) else n)) ∧ w' = w := by
  by_cases h : n < 0
  · have hd : decide (n < 0) = true := decide_eq_true h
    rw [if_pos h]
    clear h
    go_enter Tryd.func24, Tryd.ntmps24
    go_wp2
    go_ret
    exact ⟨by rw [show wrap64 (-n) = Vl.wrap (-n) by simp [Vl.wrap, wrap64]]; rfl, rfl⟩
  · have hd : decide (n < 0) = false := decide_eq_false h
    rw [if_neg h]
    clear h
    go_enter Tryd.func24, Tryd.ntmps24
    go_wp2
    go_ret
    exact ⟨rfl, rfl⟩
end Go.Proofs.YtcnmgebjbaclaaaDoor
