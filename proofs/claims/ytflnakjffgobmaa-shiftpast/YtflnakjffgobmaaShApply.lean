/-
  The walk of the law's own function two (chapter 4): a text's lines behind two hunks.
-/
import Derived.Test.YtflnakjffgobmaaShBoxes
namespace Go.Proofs.Ytflnakjffgobmaa
open Go.RowKit Go.Shelf

attribute [local go_sem] Oper.semAt_some

theorem cast_ne (c : Nat) (h : c ≠ 0) : (((c : Nat) : Int) != 0) = true := by
  rw [bne_iff_ne]; omega
/-- Few lines. -/
def HA.Slim (x : HA) : Prop := x.old.length ≤ 2000 ∧ x.new.length ≤ 2000
/-- Lines that can be gone through in time. -/
def Trim (L : List (List UInt8)) : Prop := L.length ≤ 100000 ∧ ∀ s ∈ L, s.length ≤ 281474976710656
/-- What a text's lines are behind two hunks; false: one does not apply. -/
def twoRes (l : List (List UInt8)) (p q : Hn.H) : List (List UInt8) × Bool :=
  match Hn.apply l [p] with
  | .error _ => ([], false)
  | .ok a => match Hn.apply a [q] with
    | .error _ => ([], false)
    | .ok b => (b, true)
/-- Apply, at lines and one hunk. -/
theorem apply_hunk (L : List (List UInt8)) (x : HA) (v : Value) (w : World) (hrow : RowLow w.heap.size w v L) (hx : x.Low w.heap.size w) (fx : x.Fine) (sx : x.Slim) (tL : Trim L) :
    Calls Try.prog 10 #[v, .slice (some ⟨w.heap.size, 0, none⟩) 1 1] (w.alloc (.cells #[.int .i64 x.at_, x.vo, x.vn] 41)) fun e w' => ApplyPost (Hn.apply L [x.h]) (w.alloc (.cells #[.int .i64 x.at_, x.vo, x.vn] 41)) e w' := by
  obtain ⟨p, vo, vn, L1, L2⟩ := x
  obtain ⟨h1, h2⟩ := hx
  obtain ⟨s1, s2⟩ := sx
  simp only at s1 s2
  have h := apply_any L [⟨p, vo, vn, L1, L2⟩] v _ _ _ (hrow.at (below_new w (.cells #[.int .i64 p, vo, vn] 41))) (haLow_lit w p vo vn L1 L2 h1 h2) (Nat.le_refl _) (fun y hy => by rw [List.mem_singleton] at hy; subst hy; exact fx.2.2) (fun y hy => by rw [List.mem_singleton] at hy; subst hy; exact fx.1) (by simp) (by
      have := tL.1
      simp [newSum]; omega) tL.2 (fun y hy s hs => by rw [List.mem_singleton] at hy; subst hy; exact fx.2.1.2 s hs)
  exact h
theorem trim_apply {L a : List (List UInt8)} {x : HA} (h : Hn.apply L [x.h] = .ok a) (tL : Trim L) (hl : L.length ≤ 90000) (fx : x.Fine) (sx : x.Slim) : Trim a ∧ a.length ≤ L.length + 2000 := by
  have h1 := Hn.apply_len h
  have e : Hn.moreOf [x.h] = (x.new.length : Int) - x.old.length := by simp [Hn.moreOf, HA.h]
  rw [e] at h1
  obtain ⟨s1, s2⟩ := sx
  refine ⟨⟨by omega, fun s hs => ?_⟩, by omega⟩
  rcases Hn.apply_mem h s hs with h2 | ⟨y, hy, h2⟩
  · exact tL.2 s h2
  · rw [List.mem_singleton] at hy; subst hy
    exact fx.2.1.2 s h2
def ApRes (r : Except Nat (List (List UInt8))) (M : List (List UInt8)) (k : Nat) : Prop :=
  match r with
  | .error c => M = [] ∧ k = c
  | .ok o => M = o ∧ k = 0
/-- What Apply tells, opened. -/
theorem ApplyPost.parts {r : Except Nat (List (List UInt8))} {w w' : World} {e : Ending} (h : ApplyPost r w e w') : ∃ (a : Option Addr) (c : Nat) (M : List (List UInt8)) (k : Nat), e = .returned (.tuple #[.slice a M.length c, .int .i64 k]) ∧ RowLow w'.heap.size w' (.slice a M.length c) M ∧ ApRes r M k ∧ Below w.heap.size w w' := by
  obtain ⟨b, h⟩ := h
  cases r with
  | error c => exact ⟨none, 0, [], c, h, RowLow.of_owns (World.ownsRow_nil w' 0 9 1), ⟨rfl, rfl⟩, b⟩
  | ok o =>
    obtain ⟨tv, h1, h2⟩ := h
    obtain ⟨a, c, rfl⟩ := slice_shape h2
    exact ⟨a, c, o, 0, h1, RowLow.of_owns h2, ⟨rfl, rfl⟩, b⟩
theorem apply_code {l : List (List UInt8)} {hs : List Hn.H} {c : Nat} (h : Hn.apply l hs = .error c) : c ≠ 0 := by
  rcases Hn.apply_err h with h | h | h <;> omega

set_option maxRecDepth 100000 in
set_option maxHeartbeats 8000000 in
theorem two_any (L : List (List UInt8)) (x y : HA) (v : Value) (w : World) (hrow : RowLow w.heap.size w v L) (hx : x.Low w.heap.size w) (hy : y.Low w.heap.size w) (fx : x.Fine) (fy : y.Fine) (sx : x.Slim) (sy : y.Slim) (tL : Trim L) (hL : L.length ≤ 90000) :
    Calls Try.prog 31 #[v, x.val, y.val] w fun e w' => ∃ (a : Option Addr) (c : Nat) (M : List (List UInt8)) (ok : Bool), e = .returned (.tuple #[.slice a M.length c, .bool ok]) ∧ (M, ok) = twoRes L x.h y.h ∧ RowLow w'.heap.size w' (.slice a M.length c) M ∧ Trim M ∧ M.length ≤ L.length + 4000 ∧ Below w.heap.size w w' := by
  obtain ⟨X, hX⟩ : ∃ X, X = (w.alloc (.cells #[.int .i64 x.at_, x.vo, x.vn] 41)).alloc (.cells #[.int .i64 y.at_, y.vo, y.vn] 41) := ⟨_, rfl⟩
  have bX : Below w.heap.size w X := by rw [hX]; exact below_then (below_nw w _) (below_nw _ _)
  have sX : X.heap.size = w.heap.size + 1 + 1 := by rw [hX]; simp
  have x1 : HBox X (w.heap.size + 1) y := by
    have h := HBox.new (w.alloc (.cells #[.int .i64 x.at_, x.vo, x.vn] 41)) y
    rw [World.size_alloc] at h
    rw [hX]; exact h
  have AP : Hid (_) := apply_hunk L x v X (hrow.at bX) (hx.at bX) fx sx tL
  have bN : Below X.heap.size X (X.alloc (.cells #[.int .i64 x.at_, x.vo, x.vn] 41)) := below_nw X _
  have X1 : Hid (∀ W, Below X.heap.size X W → HBox W (w.heap.size + 1) y ∧ y.Low W.heap.size W) := fun W hW => ⟨x1.below hW, (hy.at bX).at hW⟩
  have BX : Hid (Below w.heap.size w X) := bX
  have BN : Hid (Below X.heap.size X (X.alloc (.cells #[.int .i64 x.at_, x.vo, x.vn] 41))) := bN
  have TRA : Hid (∀ a, Hn.apply L [x.h] = .ok a → Trim a ∧ a.length ≤ L.length + 2000) := fun a h => trim_apply h tL hL fx sx
  have TRB : Hid (∀ a b, Hn.apply a [y.h] = .ok b → Trim a → a.length ≤ 92000 → Trim b ∧ b.length ≤ a.length + 2000) := fun a b h t l => by
    have h1 := Hn.apply_len h
    have e : Hn.moreOf [y.h] = (y.new.length : Int) - y.old.length := by simp [Hn.moreOf, HA.h]
    rw [e] at h1
    obtain ⟨s1, s2⟩ := sy
    refine ⟨⟨by omega, fun s hs => ?_⟩, by omega⟩
    rcases Hn.apply_mem h s hs with h2 | ⟨z, hz, h2⟩
    · exact t.2 s h2
    · rw [List.mem_singleton] at hz; subst hz
      exact fy.2.1.2 s h2
  have AP2 : Hid (∀ (M : List (List UInt8)) (u : Value) (W : World), RowLow W.heap.size W u M → y.Low W.heap.size W → Trim M → _) := fun M u W hu hl ht => apply_hunk M y u W hu hl fy sy ht
  obtain ⟨va, vc, vb, vd, rfl, -, -, -⟩ := hrow.parts
  obtain ⟨⟨a1, k1, e1⟩, ⟨a2, k2, e2⟩⟩ := hx.shape
  obtain ⟨⟨a3, k3, e3⟩, ⟨a4, k4, e4⟩⟩ := hy.shape
  obtain ⟨p, vo, vn, L1, L2⟩ := x
  obtain ⟨q, uo, un, M1, M2⟩ := y
  simp only at e1 e2 e3 e4
  subst e1 e2 e3 e4
  clear hrow hx hy fx fy sx sy tL bX bN x1
  simp only [HA.val] at hX AP AP2 BN ⊢
  have NIL : ∀ W : World, RowLow W.heap.size W (.slice none 0 0) [] := fun W => RowLow.of_owns (World.ownsRow_nil W 0 9 1)
  have HNIL : Hid (_) := NIL
  have TNIL : Hid (Trim []) := ⟨by simp, fun s hs => by cases hs⟩
  clear NIL
  go_enter Try.func31, Try.ntmps31
  go_wp2_with fail
  rw [← hX, ← sX]
  clear hX
  refine Calls.mono AP.out ?_
  intro e w1 hp
  obtain ⟨a, c, M, k, rfl, rM, hM, b1⟩ := hp.parts
  have b01 : Below X.heap.size X w1 := below_then BN.out b1
  cases hr : Hn.apply L [HA.h ⟨p, .slice a1 L1.length k1, .slice a2 L2.length k2, L1, L2⟩] with
  | error c0 =>
    rw [hr] at hM
    obtain ⟨rfl, rfl⟩ := hM
    have hk := cast_ne k (apply_code hr)
    have HRES : Hid (twoRes L (HA.h ⟨p, .slice a1 L1.length k1, .slice a2 L2.length k2, L1, L2⟩) (HA.h ⟨q, .slice a3 M1.length k3, .slice a4 M2.length k4, M1, M2⟩) = ([], false)) := by
      show twoRes L _ _ = _
      unfold twoRes; rw [hr]
    have BF : Hid (Below w.heap.size w w1) := below_then BX.out b01
    clear hp hr rM b1 b01 AP AP2 TRA TRB X1
    go_wp2
    go_ret2
    exact ⟨none, 0, [], false, rfl, HRES.out.symm, HNIL.out w1, TNIL.out, by simp, BF.out⟩
  | ok o =>
    rw [hr] at hM
    obtain ⟨rfl, rfl⟩ := hM
    obtain ⟨tM, lM⟩ := TRA.out M hr
    have Y1 := X1.out w1 b01
    have AP3 : Hid (_) := AP2.out M _ w1 rM Y1.2 tM
    obtain ⟨c0, c1, c2⟩ := Y1.1.cells
    simp only at c0 c1 c2
    have HTM : Hid (Trim M) := tM
    have HR : Hid (_) := hr
    have BW1 : Hid (Below w.heap.size w w1) := below_then BX.out b01
    have BN1 : Hid (Below w1.heap.size w1 (w1.alloc (.cells #[.int .i64 q, .slice a3 M1.length k3, .slice a4 M2.length k4] 41))) := below_nw w1 _
    clear hp hr rM b1 b01 AP AP2 TRA X1 Y1 tM
    go_wp2_with fail
    refine Calls.mono AP3.out ?_
    intro e w2 hp
    obtain ⟨a', c', M', k', rfl, rM', hM', b2⟩ := hp.parts
    have BF : Hid (Below w.heap.size w w2) := below_then BW1.out (below_then BN1.out b2)
    cases hr2 : Hn.apply M [HA.h ⟨q, .slice a3 M1.length k3, .slice a4 M2.length k4, M1, M2⟩] with
    | error c0 =>
      rw [hr2] at hM'
      obtain ⟨rfl, rfl⟩ := hM'
      have hk : (((k' : Nat) : Int) == 0) = false := by
        have := cast_ne k' (apply_code hr2)
        rw [bne, Bool.not_eq_true'] at this; exact this
      have HRES : Hid (twoRes L (HA.h ⟨p, .slice a1 L1.length k1, .slice a2 L2.length k2, L1, L2⟩) (HA.h ⟨q, .slice a3 M1.length k3, .slice a4 M2.length k4, M1, M2⟩) = ([], false)) := by
        show twoRes L _ _ = _
        unfold twoRes; rw [HR.out]; simp only; rw [hr2]
      have RM : Hid (_) := rM'
      clear hp hr2 rM' b2 AP3 TRB c0 c1 c2
      go_wp2
      go_ret2
      exact ⟨a', c', [], false, rfl, HRES.out.symm, RM.out, TNIL.out, by simp, BF.out⟩
    | ok o' =>
      rw [hr2] at hM'
      obtain ⟨rfl, rfl⟩ := hM'
      obtain ⟨tM', lM'⟩ := TRB.out M M' hr2 HTM.out (by omega)
      have HRES : Hid (twoRes L (HA.h ⟨p, .slice a1 L1.length k1, .slice a2 L2.length k2, L1, L2⟩) (HA.h ⟨q, .slice a3 M1.length k3, .slice a4 M2.length k4, M1, M2⟩) = (M', true)) := by
        show twoRes L _ _ = _
        unfold twoRes; rw [HR.out]; simp only; rw [hr2]
      have RM : Hid (_) := rM'
      have HLM : Hid (M'.length ≤ L.length + 4000) := by show M'.length ≤ _; omega
      have HTM' : Hid (Trim M') := tM'
      clear hp hr2 rM' b2 AP3 TRB c0 c1 c2 tM' lM' lM
      go_wp2
      go_ret2
      exact ⟨a', c', M', true, rfl, HRES.out.symm, RM.out, HTM'.out, HLM.out, BF.out⟩

end Go.Proofs.Ytflnakjffgobmaa
