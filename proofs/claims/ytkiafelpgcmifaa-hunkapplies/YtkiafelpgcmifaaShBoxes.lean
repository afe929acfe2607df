/-
  Variables that hold hunks; what is told by Commute and Merge, opened.
-/
import Derived.Test.YtkiafelpgcmifaaShAwake
namespace Go.Proofs.Ytkiafelpgcmifaa
open Go.RowKit Go.Shelf

/-- Variables that hold hunks, which can be gone through in time. -/
def Boxes (W : World) (l : List (Nat × HA)) : Prop := ∀ q ∈ l, HBox W q.1 q.2 ∧ q.2.Low W.heap.size W ∧ q.2.Fine
theorem Boxes.below {W W' : World} {l : List (Nat × HA)} (h : Boxes W l) (hb : Below W.heap.size W W') : Boxes W' l := fun q hq => ⟨(h q hq).1.below hb, (h q hq).2.1.at hb, (h q hq).2.2⟩
theorem Boxes.nil (W : World) : Boxes W [] := fun q hq => by cases hq
theorem Boxes.cons {W : World} {l : List (Nat × HA)} {b : Nat} {x : HA} (h1 : HBox W b x) (h2 : x.Low W.heap.size W) (h3 : x.Fine) (h : Boxes W l) : Boxes W ((b, x) :: l) := fun q hq => by
  rcases List.mem_cons.1 hq with rfl | hq
  · exact ⟨h1, h2, h3⟩
  · exact h q hq
/-- Two more variables, behind one another. -/
theorem Boxes.two {W : World} {l : List (Nat × HA)} (h : Boxes W l) (x y : HA) (lx : x.Low W.heap.size W) (ly : y.Low W.heap.size W) (fx : x.Fine) (fy : y.Fine) : ∃ V, V = (W.alloc (.cells #[.int .i64 x.at_, x.vo, x.vn] 40)).alloc (.cells #[.int .i64 y.at_, y.vo, y.vn] 40) ∧ Below W.heap.size W V ∧ Boxes V ((W.heap.size, x) :: (W.heap.size + 1, y) :: l) := by
  have b1 := below_nw W (.cells #[.int .i64 x.at_, x.vo, x.vn] 40)
  have b2 := below_nw (W.alloc (.cells #[.int .i64 x.at_, x.vo, x.vn] 40)) (.cells #[.int .i64 y.at_, y.vo, y.vn] 40)
  have h1 := (HBox.new W x).below b2
  have h2 := HBox.new (W.alloc (.cells #[.int .i64 x.at_, x.vo, x.vn] 40)) y
  rw [World.size_alloc] at h2
  have b := below_then b1 b2
  exact ⟨_, rfl, b, .cons h1 (lx.at b) fx (.cons h2 (ly.at b) fy (h.below b))⟩
theorem shRes_zero_c {p q a b : Hn.H} (h : (a, b, 0) = shRes (Hn.commute p q)) : Hn.commute p q = .ok (a, b) := by
  have key : ∀ r : Except Nat (Hn.H × Hn.H), (∀ c, r = .error c → c ≠ 0) → (a, b, 0) = shRes r → r = .ok (a, b) := by
    intro r hr h
    cases r with
    | error c =>
      simp only [shRes, Prod.mk.injEq] at h
      exact absurd h.2.2.symm (hr c rfl)
    | ok x =>
      obtain ⟨u, v⟩ := x
      simp only [shRes, Prod.mk.injEq] at h
      obtain ⟨rfl, rfl, -⟩ := h
      rfl
  refine key _ (fun c hc => ?_) h
  have told_err : ∀ (u v : Hn.H), Hn.told u v = .error c → c ≠ 0 := fun u v h => by
    unfold Hn.told at h
    split at h
    · cases h
    · cases h; decide
  unfold Hn.commute at hc
  split at hc
  · split at hc
    · exact told_err _ _ hc
    · split at hc
      · exact told_err _ _ hc
      · cases hc; decide
  · cases hc; decide
theorem fine_of {x y : HA} {d : Int} (h : y.h = Hn.moved x.h d) (fx : x.Fine) (hr : Hn.right y.h = true) : y.Fine := by
  obtain ⟨p, vo, vn, L1, L2⟩ := x
  obtain ⟨p', vo', vn', M1, M2⟩ := y
  have hb := right_bound hr
  simp only [HA.h, Hn.moved, Hn.H.mk.injEq] at h hb
  obtain ⟨rfl, rfl, rfl⟩ := h
  obtain ⟨⟨s1, s2⟩, ⟨t1, t2⟩, -⟩ := fx
  simp only at s1 s2 t1 t2
  exact ⟨⟨s1, s2⟩, ⟨t1, t2⟩, ⟨⟨by show _ ≤ p + d; omega, by show p + d ≤ _; omega⟩, ⟨by show M1.length ≤ _; omega, by show M2.length ≤ _; omega⟩, fun s hs => by have := t1 s hs; omega, fun s hs => by have := t2 s hs; omega⟩⟩
theorem fine_zero {y : HA} (h : y.h = ⟨0, [], []⟩) : y.Fine := by
  obtain ⟨p', vo', vn', M1, M2⟩ := y
  simp only [HA.h, Hn.H.mk.injEq] at h
  obtain ⟨rfl, rfl, rfl⟩ := h
  exact ⟨⟨by show (0 : Nat) ≤ _; omega, by show (0 : Nat) ≤ _; omega⟩, ⟨fun s hs => (by cases hs), fun s hs => (by cases hs)⟩, ⟨⟨by show _ ≤ (0 : Int); omega, by show (0 : Int) ≤ _; omega⟩, ⟨by show (0 : Nat) ≤ _; omega, by show (0 : Nat) ≤ _; omega⟩, fun s hs => (by cases hs), fun s hs => (by cases hs)⟩⟩
theorem commute_fine {x y A B : HA} {c : Nat} (h : (A.h, B.h, c) = shRes (Hn.commute x.h y.h)) (fx : x.Fine) (fy : y.Fine) : A.Fine ∧ B.Fine := by
  cases hr : Hn.commute x.h y.h with
  | error e =>
    rw [hr] at h
    simp only [shRes, Prod.mk.injEq] at h
    exact ⟨fine_zero h.1, fine_zero h.2.1⟩
  | ok q =>
    obtain ⟨u, v⟩ := q
    rw [hr] at h
    simp only [shRes, Prod.mk.injEq] at h
    obtain ⟨h1, h2, -⟩ := h
    obtain ⟨-, -, ra, rb, ⟨-, e1, e2⟩ | ⟨-, e1, e2⟩⟩ := Hn.commute_ok hr
    · exact ⟨fine_of (x := y) (d := 0) (by rw [moved_zero, h1, e1]) fy (by rw [h1]; exact ra), fine_of (x := x) (by rw [h2, e2]) fx (by rw [h2]; exact rb)⟩
    · exact ⟨fine_of (x := y) (by rw [h1, e1]) fy (by rw [h1]; exact ra), fine_of (x := x) (d := 0) (by rw [moved_zero, h2, e2]) fx (by rw [h2]; exact rb)⟩
theorem merge_fine {x y A B : HA} {c : Nat} (h : (A.h, B.h, c) = shRes (Hn.merge x.h y.h)) (fx : x.Fine) (fy : y.Fine) : A.Fine ∧ B.Fine := by
  cases hr : Hn.merge x.h y.h with
  | error e =>
    rw [hr] at h
    simp only [shRes, Prod.mk.injEq] at h
    exact ⟨fine_zero h.1, fine_zero h.2.1⟩
  | ok q =>
    obtain ⟨u, v⟩ := q
    rw [hr] at h
    simp only [shRes, Prod.mk.injEq] at h
    obtain ⟨h1, h2, -⟩ := h
    obtain ⟨-, -, ra, rb, ⟨-, e1, e2⟩ | ⟨-, e1, e2⟩⟩ := Hn.merge_ok hr
    · exact ⟨fine_of (x := x) (d := 0) (by rw [moved_zero, h1, e1]) fx (by rw [h1]; exact ra), fine_of (x := y) (by rw [h2, e2]) fy (by rw [h2]; exact rb)⟩
    · exact ⟨fine_of (x := x) (by rw [h1, e1]) fx (by rw [h1]; exact ra), fine_of (x := y) (d := 0) (by rw [moved_zero, h2, e2]) fy (by rw [h2]; exact rb)⟩
theorem shRes_zero_m {p q a b : Hn.H} (h : (a, b, 0) = shRes (Hn.merge p q)) : Hn.merge p q = .ok (a, b) := by
  cases hr : Hn.merge p q with
  | error c =>
    rw [hr] at h
    simp only [shRes, Prod.mk.injEq] at h
    have told_err : ∀ (u v : Hn.H), Hn.told u v = .error c → c ≠ 0 := fun u v h => by
      unfold Hn.told at h
      split at h
      · cases h
      · cases h; decide
    have h0 : c ≠ 0 := by
      unfold Hn.merge at hr
      split at hr
      · split at hr
        · exact told_err _ _ hr
        · split at hr
          · exact told_err _ _ hr
          · cases hr; decide
      · cases hr; decide
    exact absurd h.2.2.symm h0
  | ok x =>
    obtain ⟨u, v⟩ := x
    rw [hr] at h
    simp only [shRes, Prod.mk.injEq] at h
    obtain ⟨rfl, rfl, -⟩ := h
    rfl
/-- What is told, opened. -/
theorem ShPost.parts {r : Except Nat (Hn.H × Hn.H)} {w w' : World} {e : Ending} (h : ShPost r w e w') : ∃ (p1 : Int) (a1 : Option Addr) (c1 : Nat) (a2 : Option Addr) (c2 : Nat) (L1 L2 : List (List UInt8)) (p2 : Int) (a3 : Option Addr) (c3 : Nat) (a4 : Option Addr) (c4 : Nat) (L3 L4 : List (List UInt8)) (c : Nat), e = .returned (.tuple #[.agg #[.int .i64 p1, .slice a1 L1.length c1, .slice a2 L2.length c2], .agg #[.int .i64 p2, .slice a3 L3.length c3, .slice a4 L4.length c4], .int .i64 c]) ∧ (HA.h ⟨p1, .slice a1 L1.length c1, .slice a2 L2.length c2, L1, L2⟩, HA.h ⟨p2, .slice a3 L3.length c3, .slice a4 L4.length c4, L3, L4⟩, c) = shRes r ∧ HA.Low w'.heap.size w' ⟨p1, .slice a1 L1.length c1, .slice a2 L2.length c2, L1, L2⟩ ∧ HA.Low w'.heap.size w' ⟨p2, .slice a3 L3.length c3, .slice a4 L4.length c4, L3, L4⟩ ∧ Below w.heap.size w w' := by
  obtain ⟨A, B, c, a1, a2, a3, a4, c1, c2, c3, c4, e1, e2, e3, e4, rfl, h2, h3, h4, -, h6⟩ := h.three
  obtain ⟨ap, ao, an, A1, A2⟩ := A
  obtain ⟨bp, bo, bn, B1, B2⟩ := B
  simp only at e1 e2 e3 e4
  subst e1 e2 e3 e4
  exact ⟨ap, a1, c1, a2, c2, A1, A2, bp, a3, c3, a4, c4, B1, B2, c, rfl, h2, h3.low, h4.low, h6⟩

end Go.Proofs.Ytkiafelpgcmifaa
