/-
  The walks of hunk.Right, Sorted and Invert.
-/
import Derived.Test.YtkiafelpgcmifaaHnPut
import Derived.Test.YtkiafelpgcmifaaAreLines
namespace Go.Proofs.Ytkiafelpgcmifaa
open Go.RowKit Go.Shelf

attribute [local go_sem] Oper.semAt_some

/-- A hunk of an argument: its place, its rows, what they read as. -/
structure HA where
  at_ : Int
  vo : Value
  vn : Value
  old : List (List UInt8)
  new : List (List UInt8)
def HA.h (x : HA) : Hn.H := ⟨x.at_, x.old, x.new⟩
def HA.val (x : HA) : Value := .agg #[.int .i64 x.at_, x.vo, x.vn]
def HA.Low (m : Nat) (w : World) (x : HA) : Prop := RowLow m w x.vo x.old ∧ RowLow m w x.vn x.new
/-- Its sizes are those of a value in Go. -/
def HA.Fits (x : HA) : Prop := (-9223372036854775808 ≤ x.at_ ∧ x.at_ ≤ 9223372036854775807) ∧ (x.old.length ≤ 9223372036854775807 ∧ x.new.length ≤ 9223372036854775807) ∧ (∀ s ∈ x.old, s.length ≤ 9223372036854775807) ∧ ∀ s ∈ x.new, s.length ≤ 9223372036854775807
theorem HA.Low.below {m k : Nat} {w w' : World} {x : HA} (h : x.Low m w) (hb : Below k w w') (hm : m ≤ k) : x.Low m w' := ⟨h.1.below hb hm, h.2.below hb hm⟩
theorem HA.Low.mono {m k : Nat} {w : World} {x : HA} (h : x.Low m w) (hm : m ≤ k) : x.Low k w := ⟨h.1.mono hm, h.2.mono hm⟩

set_option maxRecDepth 100000 in
set_option maxHeartbeats 4000000 in
theorem right_any (x : HA) (m : Nat) (w : World) (hx : x.Low m w) (hm : m ≤ w.heap.size) (hf : x.Fits) :
    Calls Try.prog 34 #[x.val] w fun e w' => e = .returned (.bool (Hn.right x.h)) ∧ Below w.heap.size w w' := by
  obtain ⟨p, vo, vn, L1, L2⟩ := x
  obtain ⟨⟨f1, f2⟩, ⟨f3, f4⟩, f5, f6⟩ := hf
  obtain ⟨h1, h2⟩ := hx
  simp only at h1 h2 f1 f2 f3 f4 f5 f6
  have H1 : Hid (_) := h1
  have H2 : Hid (_) := h2
  obtain ⟨a1, c1, b1, o1, rfl, -, -, -⟩ := h1.parts
  obtain ⟨a2, c2, b2, o2, rfl, -, -, -⟩ := h2.parts
  simp only [HA.val, HA.h]
  obtain ⟨X, hX⟩ : ∃ X, X = w.alloc (.cells #[.int .i64 p, .slice a1 L1.length c1, .slice a2 L2.length c2] 40) := ⟨_, rfl⟩
  have bX : Below w.heap.size w X := by rw [hX]; exact below_nw w _
  have A1 : Hid (_) := areLines_any L1 _ m X (RowLow.below H1.out bX hm) f3 f5
  have A2 : Hid (_) := areLines_any L2 _ m X (RowLow.below H2.out bX hm) f4 f6
  have EQ : Hid (_) := equal_any X _ _ L1 L2 m m (RowLow.below H1.out bX hm) (RowLow.below H2.out bX hm) f3 f4
  have BX : Hid (_) := bX
  clear h1 h2 H1 H2 bX f5 f6
  subst hX
  have fin : ∀ r : Bool, r = (decide (0 ≤ p) && decide (p ≤ 1099511627776) && Hn.lines L1 && Hn.lines L2 && !decide (L1 = L2)) → Ending.returned (.bool r) = Ending.returned (.bool (Hn.right ⟨p, L1, L2⟩)) := fun r h => by rw [h]; rfl
  by_cases q1 : 0 ≤ p
  · have e1 : decide (0 ≤ p) = true := by simp; omega
    by_cases q2 : p ≤ 1099511627776
    · have e2 : decide (p ≤ 1099511627776) = true := by simp; omega
      cases l1 : Hn.lines L1 with
      | false =>
        rw [l1] at A1
        go_enter Try.func34, Try.ntmps34
        go_wp2_with fail
        refine Calls.mono A1.out ?_
        rintro e w1 ⟨rfl, rfl⟩
        go_wp2
        go_ret
        exact ⟨fin _ (by simp [l1]), BX.out⟩
      | true =>
        rw [l1] at A1
        cases l2 : Hn.lines L2 with
        | false =>
          rw [l2] at A2
          go_enter Try.func34, Try.ntmps34
          go_wp2_with fail
          refine Calls.mono A1.out ?_
          rintro e w1 ⟨rfl, rfl⟩
          go_wp2_with fail
          refine Calls.mono A2.out ?_
          rintro e w1 ⟨rfl, rfl⟩
          go_wp2
          go_ret
          exact ⟨fin _ (by simp [l2]), BX.out⟩
        | true =>
          rw [l2] at A2
          go_enter Try.func34, Try.ntmps34
          go_wp2_with fail
          refine Calls.mono A1.out ?_
          rintro e w1 ⟨rfl, rfl⟩
          go_wp2_with fail
          refine Calls.mono A2.out ?_
          rintro e w1 ⟨rfl, rfl⟩
          go_wp2_with fail
          refine Calls.mono EQ.out ?_
          rintro e w1 ⟨rfl, d, rfl⟩
          go_wp2
          go_ret
          exact ⟨fin _ (by rw [e1, e2, l1, l2]; simp), below_drewN BX.out d⟩
    · have e2 : decide (p ≤ 1099511627776) = false := by simp; omega
      go_enter Try.func34, Try.ntmps34
      go_wp2
      go_ret
      exact ⟨fin _ (by rw [e2]; simp), BX.out⟩
  · have e1 : decide (0 ≤ p) = false := by simp; omega
    go_enter Try.func34, Try.ntmps34
    go_wp2
    go_ret
    exact ⟨fin _ (by rw [e1]; simp), BX.out⟩

/-- The cells of a row of hunks. -/
def haCells (xs : List HA) : List Value := xs.flatMap fun x => [.int .i64 x.at_, x.vo, x.vn]
def HaLow (m : Nat) (w : World) (v : Value) (xs : List HA) : Prop := CellsLow m w v xs.length (haCells xs) ∧ ∀ x ∈ xs, x.Low m w
theorem haCells_get (xs : List HA) (k : Nat) (x : HA) (hx : xs[k]? = some x) : (haCells xs)[k * 3]? = some (.int .i64 x.at_) ∧ (haCells xs)[k * 3 + 1]? = some x.vo ∧ (haCells xs)[k * 3 + 2]? = some x.vn := by
  induction xs generalizing k with
  | nil => simp at hx
  | cons y r ih =>
    cases k with
    | zero => simp at hx; subst hx; exact ⟨rfl, rfl, rfl⟩
    | succ k =>
      have h := ih k (by simpa using hx)
      have e : haCells (y :: r) = [.int .i64 y.at_, y.vo, y.vn] ++ haCells r := rfl
      rw [e, show (k + 1) * 3 = 3 + k * 3 by omega]
      refine ⟨?_, ?_, ?_⟩
      · rw [List.getElem?_append_right (by simp)]; simpa using h.1
      · rw [List.getElem?_append_right (by simp; omega), show 3 + k * 3 + 1 - [Value.int .i64 y.at_, y.vo, y.vn].length = k * 3 + 1 by simp; omega]; exact h.2.1
      · rw [List.getElem?_append_right (by simp; omega), show 3 + k * 3 + 2 - [Value.int .i64 y.at_, y.vo, y.vn].length = k * 3 + 2 by simp; omega]; exact h.2.2
theorem HaLow.below {m k : Nat} {w w' : World} {v : Value} {xs : List HA} (h : HaLow m w v xs) (hb : Below k w w') (hm : m ≤ k) : HaLow m w' v xs :=
  ⟨h.1.below hb hm (fun e => by rw [List.eq_nil_of_length_eq_zero e]; rfl), fun x hx => (h.2 x hx).below hb hm⟩

end Go.Proofs.Ytkiafelpgcmifaa
