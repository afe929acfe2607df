/-
  Several texts in one, as they are: ShLaw, ShGreat, ShOf, ShAwake, ShBoxes, LentHunkA, LentHunksA, KeptHunksA, RefSorted, Over.
-/
import Derived.Test.YtkiafelpgcmifaaShTwo
import Derived.Test.YtkiafelpgcmifaaSameHunkA
import Derived.Test.YtkiafelpgcmifaaHnGreat
import Derived.Test.YtkiafelpgcmifaaKept
import Derived.Test.YtkiafelpgcmifaaMarkHunks
import Derived.Test.YtkiafelpgcmifaaRefRight

/-
  The walks of the law's own functions (chapter 4): of, tells, great, two.
-/
namespace Go.Proofs.Ytkiafelpgcmifaa
open Go.RowKit Go.Shelf

attribute [local go_sem] Oper.semAt_some

end Go.Proofs.Ytkiafelpgcmifaa

/-
  The walks of the law's own functions great and of (chapter 4).
-/
namespace Go.Proofs.Ytkiafelpgcmifaa
open Go.RowKit Go.Shelf

attribute [local go_sem] Oper.semAt_some

end Go.Proofs.Ytkiafelpgcmifaa

/-
  The walk of the law's own function of (chapter 4): a hunk of lines of one byte each.
-/
namespace Go.Proofs.Ytkiafelpgcmifaa
open Go.RowKit Go.Shelf

attribute [local go_sem] Oper.semAt_some

/-- Lines of one byte each. -/
def ones (l : List UInt8) : List (List UInt8) := l.map fun c => [c, 10]
theorem ones_succ (l : List UInt8) (k : Nat) (c : UInt8) (h : l[k]? = some c) : (ones (l.take (k + 1))).map txtV = (ones (l.take k)).map txtV ++ [.string (Ln.bs [c, 10])] := by
  rw [List.take_add_one, h]; simp [ones, txtV]
theorem ones_take_len (l : List UInt8) (k : Nat) (h : k ≤ l.length) : ((ones (l.take k)).map txtV).length = k := by
  simp [ones]; omega
/-- The variable of the hunk so far. -/
def OfBox (w0 w : World) (B2 : Nat) (b : Nat) (p : Int) (vo vn : Value) (l t : List UInt8) (k j : Nat) : Prop :=
  w.heap[b]? = some (.cells #[.int .i64 p, vo, vn] 40 (0, 0)) ∧ w.ownsRow w0.heap.size 9 1 vo k ((ones (l.take k)).map txtV) ∧ w.ownsRow B2 9 1 vn j ((ones (t.take j)).map txtV) ∧ Below w0.heap.size w0 w ∧ w0.heap.size ≤ b
set_option maxRecDepth 100000 in
theorem slice_one (l : List UInt8) (k : Nat) (c : UInt8) (h : l[k]? = some c) (w : World) : (Instr.slice 9 (.string (Ln.bs l)) (some (.int .i64 k)) (some (.int .i64 ((k : Int) + 1))) none).run Try.prog w = .ok (.string (Ln.bs [c])) w := by
  have hk : k < l.length := (List.getElem?_eq_some_iff.1 h).1
  have q := run_slice_string (P := Try.prog) w 9 (Ln.bs l) .i64 .i64 (k : Int) ((k : Int) + 1) Try.underlying9 (by omega) (by omega) (by rw [Ln.bs_size]; omega)
  rw [q]
  congr 2
  have e : ((k : Int) + 1).toNat = k + 1 := by omega
  rw [Int.toNat_natCast, e]
  apply ByteArray.ext
  rw [ByteArray.data_extract]
  show ((l.toArray).extract k (k + 1)) = _
  apply Array.ext'
  rw [Array.toList_extract]
  simp only [List.extract_eq_take_drop, Nat.add_sub_cancel_left]
  show (l.drop k).take 1 = [c]
  rw [List.drop_eq_getElem_cons hk, (List.getElem?_eq_some_iff.1 h).2]
  rfl

end Go.Proofs.Ytkiafelpgcmifaa

/-
  The walk of the law's awake (chapter 4): the chapter's examples.
-/
namespace Go.Proofs.Ytkiafelpgcmifaa
open Go.RowKit Go.Shelf

attribute [local go_sem] Oper.semAt_some

theorem HA.Low.at {A B : World} {x : HA} (h : x.Low A.heap.size A) (hb : Below A.heap.size A B) : x.Low B.heap.size B := (h.below hb (Nat.le_refl _)).mono hb.size
theorem fine_mk {p : Int} {vo vn : Value} {l t : List (List UInt8)} (hp : -1000 ≤ p ∧ p ≤ 1000) (h1 : few l = true) (h2 : few t = true) : HA.Fine ⟨p, vo, vn, l, t⟩ := by
  obtain ⟨k1, t1⟩ := few_spec h1
  obtain ⟨k2, t2⟩ := few_spec h2
  exact ⟨⟨by show l.length ≤ _; omega, by show t.length ≤ _; omega⟩, ⟨fun s hs => by have := t1 s hs; omega, fun s hs => by have := t2 s hs; omega⟩, ⟨⟨by show _ ≤ p; omega, by show p ≤ _; omega⟩, ⟨by show l.length ≤ _; omega, by show t.length ≤ _; omega⟩, fun s hs => by have := t1 s hs; omega, fun s hs => by have := t2 s hs; omega⟩⟩
theorem low_shape {W : World} {m : Nat} {x : HA} (h : x.Low m W) (n1 n2 : Nat) (h1 : x.old.length = n1) (h2 : x.new.length = n2) : ∃ a1 c1 a2 c2, x = ⟨x.at_, .slice a1 n1 c1, .slice a2 n2 c2, x.old, x.new⟩ := by
  obtain ⟨⟨a1, k1, e1⟩, ⟨a2, k2, e2⟩⟩ := h.shape
  refine ⟨a1, k1, a2, k2, ?_⟩
  rw [← h1, ← h2, ← e1, ← e2]
/-- What is told without an error, its lengths said. -/
theorem ShPost.ok {w w' : World} {e : Ending} {r : Except Nat (Hn.H × Hn.H)} {p q : Int} {l1 l2 l3 l4 : List (List UInt8)} (h : ShPost r w e w') (hr : r = .ok (⟨p, l1, l2⟩, ⟨q, l3, l4⟩)) (n1 n2 n3 n4 : Nat) (h1 : l1.length = n1) (h2 : l2.length = n2) (h3 : l3.length = n3) (h4 : l4.length = n4) :
    ∃ a1 c1 a2 c2 a3 c3 a4 c4, e = .returned (.tuple #[.agg #[.int .i64 p, .slice a1 n1 c1, .slice a2 n2 c2], .agg #[.int .i64 q, .slice a3 n3 c3, .slice a4 n4 c4], .int .i64 0]) ∧ HA.Ok w.heap.size ⟨p, .slice a1 n1 c1, .slice a2 n2 c2, l1, l2⟩ w' ∧ HA.Ok w.heap.size ⟨q, .slice a3 n3 c3, .slice a4 n4 c4, l3, l4⟩ w' ∧ (bla [⟨p, .slice a1 n1 c1, .slice a2 n2 c2, l1, l2⟩, ⟨q, .slice a3 n3 c3, .slice a4 n4 c4, l3, l4⟩]).Nodup ∧ Below w.heap.size w w' := by
  obtain ⟨A, B, c, rfl, hres, okA, okB, nd, b⟩ := h
  subst hr
  obtain ⟨ap, ao, an, A1, A2⟩ := A
  obtain ⟨bp, bo, bn, B1, B2⟩ := B
  simp only [shRes, HA.h, Prod.mk.injEq, Hn.H.mk.injEq] at hres
  obtain ⟨⟨rfl, rfl, rfl⟩, ⟨rfl, rfl, rfl⟩, rfl⟩ := hres
  obtain ⟨a1, c1, a2, c2, e1⟩ := low_shape okA.low n1 n2 h1 h2
  obtain ⟨a3, c3, a4, c4, e2⟩ := low_shape okB.low n3 n4 h3 h4
  simp only [HA.mk.injEq] at e1 e2
  obtain ⟨-, rfl, rfl, -⟩ := e1
  obtain ⟨-, rfl, rfl, -⟩ := e2
  exact ⟨a1, c1, a2, c2, a3, c3, a4, c4, rfl, okA, okB, nd, b⟩
theorem ShPost.err {w w' : World} {e : Ending} {r : Except Nat (Hn.H × Hn.H)} {c : Nat} (h : ShPost r w e w') (hr : r = .error c) :
    ∃ a1 c1 a2 c2 a3 c3 a4 c4, e = .returned (.tuple #[.agg #[.int .i64 0, .slice a1 0 c1, .slice a2 0 c2], .agg #[.int .i64 0, .slice a3 0 c3, .slice a4 0 c4], .int .i64 c]) ∧ Below w.heap.size w w' := by
  obtain ⟨A, B, c', rfl, hres, okA, okB, nd, b⟩ := h
  subst hr
  obtain ⟨ap, ao, an, A1, A2⟩ := A
  obtain ⟨bp, bo, bn, B1, B2⟩ := B
  simp only [shRes, HA.h, Prod.mk.injEq, Hn.H.mk.injEq] at hres
  obtain ⟨⟨rfl, rfl, rfl⟩, ⟨rfl, rfl, rfl⟩, rfl⟩ := hres
  obtain ⟨a1, c1, a2, c2, e1⟩ := low_shape okA.low 0 0 rfl rfl
  obtain ⟨a3, c3, a4, c4, e2⟩ := low_shape okB.low 0 0 rfl rfl
  simp only [HA.mk.injEq] at e1 e2
  obtain ⟨-, rfl, rfl, -⟩ := e1
  obtain ⟨-, rfl, rfl, -⟩ := e2
  exact ⟨a1, c1, a2, c2, a3, c3, a4, c4, rfl, b⟩

theorem cx1 : Hn.commute ⟨1, ones [98], ones [120, 121]⟩ ⟨4, ones [100], ones [122]⟩ = .ok (⟨3, ones [100], ones [122]⟩, ⟨1, ones [98], ones [120, 121]⟩) := by rfl
theorem cx2 : Hn.commute ⟨1, ones [98], ones [120, 121]⟩ ⟨3, ones [99], ones [122]⟩ = .error 130 := by rfl
theorem cx3 : Hn.commute ⟨3, ones [100], ones [120]⟩ ⟨0, ones [97], ones []⟩ = .ok (⟨0, ones [97], ones []⟩, ⟨2, ones [100], ones [120]⟩) := by rfl
theorem cx4 : Hn.merge ⟨1, ones [98], ones [120, 121]⟩ ⟨3, ones [100], ones [122]⟩ = .ok (⟨1, ones [98], ones [120, 121]⟩, ⟨4, ones [100], ones [122]⟩) := by rfl

end Go.Proofs.Ytkiafelpgcmifaa

/-
  Variables that hold hunks; what is told by Commute and Merge, opened.
-/
namespace Go.Proofs.Ytkiafelpgcmifaa
open Go.RowKit Go.Shelf

/-- Variables that hold hunks, which can be gone through in time. -/
def Boxes (W : World) (l : List (Nat × HA)) : Prop := ∀ q ∈ l, HBox W q.1 q.2 ∧ q.2.Low W.heap.size W ∧ q.2.Fine
theorem Boxes.below {W W' : World} {l : List (Nat × HA)} (h : Boxes W l) (hb : Below W.heap.size W W') : Boxes W' l := fun q hq => ⟨(h q hq).1.below hb, (h q hq).2.1.at hb, (h q hq).2.2⟩
theorem Boxes.nil (W : World) : Boxes W [] := fun q hq => by cases hq
theorem Boxes.cons {W : World} {l : List (Nat × HA)} {b : Nat} {x : HA} (h1 : HBox W b x) (h2 : x.Low W.heap.size W) (h3 : x.Fine) (h : Boxes W l) : Boxes W ((b, x) :: l) := fun q hq => by
  rcases List.mem_cons.1 hq with rfl | hq
  · exact ⟨h1, h2, h3⟩
  · exact h q hq
/-- Two more variables, behind one another. -/
theorem Boxes.two {W : World} {l : List (Nat × HA)} (h : Boxes W l) (x y : HA) (lx : x.Low W.heap.size W) (ly : y.Low W.heap.size W) (fx : x.Fine) (fy : y.Fine) : ∃ V, V = (W.alloc (.cells #[.int .i64 x.at_, x.vo, x.vn] 40)).alloc (.cells #[.int .i64 y.at_, y.vo, y.vn] 40) ∧ Below W.heap.size W V ∧ Boxes V ((W.heap.size, x) :: (W.heap.size + 1, y) :: l) := by
  have b1 := below_nw W (.cells #[.int .i64 x.at_, x.vo, x.vn] 40)
  have b2 := below_nw (W.alloc (.cells #[.int .i64 x.at_, x.vo, x.vn] 40)) (.cells #[.int .i64 y.at_, y.vo, y.vn] 40)
  have h1 := (HBox.new W x).below b2
  have h2 := HBox.new (W.alloc (.cells #[.int .i64 x.at_, x.vo, x.vn] 40)) y
  rw [World.size_alloc] at h2
  have b := below_then b1 b2
  exact ⟨_, rfl, b, .cons h1 (lx.at b) fx (.cons h2 (ly.at b) fy (h.below b))⟩
theorem shRes_zero_c {p q a b : Hn.H} (h : (a, b, 0) = shRes (Hn.commute p q)) : Hn.commute p q = .ok (a, b) := by
  have key : ∀ r : Except Nat (Hn.H × Hn.H), (∀ c, r = .error c → c ≠ 0) → (a, b, 0) = shRes r → r = .ok (a, b) := by
    intro r hr h
    cases r with
    | error c =>
      simp only [shRes, Prod.mk.injEq] at h
      exact absurd h.2.2.symm (hr c rfl)
    | ok x =>
      obtain ⟨u, v⟩ := x
      simp only [shRes, Prod.mk.injEq] at h
      obtain ⟨rfl, rfl, -⟩ := h
      rfl
  refine key _ (fun c hc => ?_) h
  have told_err : ∀ (u v : Hn.H), Hn.told u v = .error c → c ≠ 0 := fun u v h => by
    unfold Hn.told at h
    split at h
    · cases h
    · cases h; decide
  unfold Hn.commute at hc
  split at hc
  · split at hc
    · exact told_err _ _ hc
    · split at hc
      · exact told_err _ _ hc
      · cases hc; decide
  · cases hc; decide
theorem fine_of {x y : HA} {d : Int} (h : y.h = Hn.moved x.h d) (fx : x.Fine) (hr : Hn.right y.h = true) : y.Fine := by
  obtain ⟨p, vo, vn, L1, L2⟩ := x
  obtain ⟨p', vo', vn', M1, M2⟩ := y
  have hb := right_bound hr
  simp only [HA.h, Hn.moved, Hn.H.mk.injEq] at h hb
  obtain ⟨rfl, rfl, rfl⟩ := h
  obtain ⟨⟨s1, s2⟩, ⟨t1, t2⟩, -⟩ := fx
  simp only at s1 s2 t1 t2
  exact ⟨⟨s1, s2⟩, ⟨t1, t2⟩, ⟨⟨by show _ ≤ p + d; omega, by show p + d ≤ _; omega⟩, ⟨by show M1.length ≤ _; omega, by show M2.length ≤ _; omega⟩, fun s hs => by have := t1 s hs; omega, fun s hs => by have := t2 s hs; omega⟩⟩
theorem fine_zero {y : HA} (h : y.h = ⟨0, [], []⟩) : y.Fine := by
  obtain ⟨p', vo', vn', M1, M2⟩ := y
  simp only [HA.h, Hn.H.mk.injEq] at h
  obtain ⟨rfl, rfl, rfl⟩ := h
  exact ⟨⟨by show (0 : Nat) ≤ _; omega, by show (0 : Nat) ≤ _; omega⟩, ⟨fun s hs => (by cases hs), fun s hs => (by cases hs)⟩, ⟨⟨by show _ ≤ (0 : Int); omega, by show (0 : Int) ≤ _; omega⟩, ⟨by show (0 : Nat) ≤ _; omega, by show (0 : Nat) ≤ _; omega⟩, fun s hs => (by cases hs), fun s hs => (by cases hs)⟩⟩
theorem commute_fine {x y A B : HA} {c : Nat} (h : (A.h, B.h, c) = shRes (Hn.commute x.h y.h)) (fx : x.Fine) (fy : y.Fine) : A.Fine ∧ B.Fine := by
  cases hr : Hn.commute x.h y.h with
  | error e =>
    rw [hr] at h
    simp only [shRes, Prod.mk.injEq] at h
    exact ⟨fine_zero h.1, fine_zero h.2.1⟩
  | ok q =>
    obtain ⟨u, v⟩ := q
    rw [hr] at h
    simp only [shRes, Prod.mk.injEq] at h
    obtain ⟨h1, h2, -⟩ := h
    obtain ⟨-, -, ra, rb, ⟨-, e1, e2⟩ | ⟨-, e1, e2⟩⟩ := Hn.commute_ok hr
    · exact ⟨fine_of (x := y) (d := 0) (by rw [moved_zero, h1, e1]) fy (by rw [h1]; exact ra), fine_of (x := x) (by rw [h2, e2]) fx (by rw [h2]; exact rb)⟩
    · exact ⟨fine_of (x := y) (by rw [h1, e1]) fy (by rw [h1]; exact ra), fine_of (x := x) (d := 0) (by rw [moved_zero, h2, e2]) fx (by rw [h2]; exact rb)⟩
theorem merge_fine {x y A B : HA} {c : Nat} (h : (A.h, B.h, c) = shRes (Hn.merge x.h y.h)) (fx : x.Fine) (fy : y.Fine) : A.Fine ∧ B.Fine := by
  cases hr : Hn.merge x.h y.h with
  | error e =>
    rw [hr] at h
    simp only [shRes, Prod.mk.injEq] at h
    exact ⟨fine_zero h.1, fine_zero h.2.1⟩
  | ok q =>
    obtain ⟨u, v⟩ := q
    rw [hr] at h
    simp only [shRes, Prod.mk.injEq] at h
    obtain ⟨h1, h2, -⟩ := h
    obtain ⟨-, -, ra, rb, ⟨-, e1, e2⟩ | ⟨-, e1, e2⟩⟩ := Hn.merge_ok hr
    · exact ⟨fine_of (x := x) (d := 0) (by rw [moved_zero, h1, e1]) fx (by rw [h1]; exact ra), fine_of (x := y) (by rw [h2, e2]) fy (by rw [h2]; exact rb)⟩
    · exact ⟨fine_of (x := x) (by rw [h1, e1]) fx (by rw [h1]; exact ra), fine_of (x := y) (d := 0) (by rw [moved_zero, h2, e2]) fy (by rw [h2]; exact rb)⟩
theorem shRes_zero_m {p q a b : Hn.H} (h : (a, b, 0) = shRes (Hn.merge p q)) : Hn.merge p q = .ok (a, b) := by
  cases hr : Hn.merge p q with
  | error c =>
    rw [hr] at h
    simp only [shRes, Prod.mk.injEq] at h
    have told_err : ∀ (u v : Hn.H), Hn.told u v = .error c → c ≠ 0 := fun u v h => by
      unfold Hn.told at h
      split at h
      · cases h
      · cases h; decide
    have h0 : c ≠ 0 := by
      unfold Hn.merge at hr
      split at hr
      · split at hr
        · exact told_err _ _ hr
        · split at hr
          · exact told_err _ _ hr
          · cases hr; decide
      · cases hr; decide
    exact absurd h.2.2.symm h0
  | ok x =>
    obtain ⟨u, v⟩ := x
    rw [hr] at h
    simp only [shRes, Prod.mk.injEq] at h
    obtain ⟨rfl, rfl, -⟩ := h
    rfl
/-- What is told, opened. -/
theorem ShPost.parts {r : Except Nat (Hn.H × Hn.H)} {w w' : World} {e : Ending} (h : ShPost r w e w') : ∃ (p1 : Int) (a1 : Option Addr) (c1 : Nat) (a2 : Option Addr) (c2 : Nat) (L1 L2 : List (List UInt8)) (p2 : Int) (a3 : Option Addr) (c3 : Nat) (a4 : Option Addr) (c4 : Nat) (L3 L4 : List (List UInt8)) (c : Nat), e = .returned (.tuple #[.agg #[.int .i64 p1, .slice a1 L1.length c1, .slice a2 L2.length c2], .agg #[.int .i64 p2, .slice a3 L3.length c3, .slice a4 L4.length c4], .int .i64 c]) ∧ (HA.h ⟨p1, .slice a1 L1.length c1, .slice a2 L2.length c2, L1, L2⟩, HA.h ⟨p2, .slice a3 L3.length c3, .slice a4 L4.length c4, L3, L4⟩, c) = shRes r ∧ HA.Low w'.heap.size w' ⟨p1, .slice a1 L1.length c1, .slice a2 L2.length c2, L1, L2⟩ ∧ HA.Low w'.heap.size w' ⟨p2, .slice a3 L3.length c3, .slice a4 L4.length c4, L3, L4⟩ ∧ Below w.heap.size w w' := by
  obtain ⟨A, B, c, a1, a2, a3, a4, c1, c2, c3, c4, e1, e2, e3, e4, rfl, h2, h3, h4, -, h6⟩ := h.three
  obtain ⟨ap, ao, an, A1, A2⟩ := A
  obtain ⟨bp, bo, bn, B1, B2⟩ := B
  simp only at e1 e2 e3 e4
  subst e1 e2 e3 e4
  exact ⟨ap, a1, c1, a2, c2, A1, A2, bp, a3, c3, a4, c4, B1, B2, c, rfl, h2, h3.low, h4.low, h6⟩

end Go.Proofs.Ytkiafelpgcmifaa

/-
  The walks of clerestorykit.LentHunk and KeptHunk: a hunk with marks behind its lines.
-/
namespace Go.Proofs.Ytkiafelpgcmifaa
open Go.RowKit Go.Shelf

attribute [local go_sem] Oper.semAt_some

/-- A row with twelve marks behind it, in memory of its own. -/
def LentRow (B : Nat) (W : World) (v : Value) (L : List (List UInt8)) : Prop := ∃ g cap, v = .slice (some ⟨g, 0, none⟩) L.length cap ∧ W.ownsRow B 9 1 (.slice (some ⟨g, 0, none⟩) (L.length + 12) cap) (L.length + 12) ((L ++ marks 12).map txtV)
theorem LentRow.below {B : Nat} {W W' : World} {v : Value} {L : List (List UInt8)} (h : LentRow B W v L) (hb : Below W.heap.size W W') : LentRow B W' v L := by
  obtain ⟨g, cap, e, h⟩ := h
  exact ⟨g, cap, e, owns_below h hb⟩
theorem LentRow.base {B B' : Nat} {W : World} {v : Value} {L : List (List UInt8)} (h : LentRow B W v L) (hb : B' ≤ B) : LentRow B' W v L := by
  obtain ⟨g, cap, e, h⟩ := h
  exact ⟨g, cap, e, owns_base h hb⟩
theorem lent_low {W : World} {B g cap : Nat} {L : List (List UInt8)} (h : W.ownsRow B 9 1 (.slice (some ⟨g, 0, none⟩) (L.length + 12) cap) (L.length + 12) ((L ++ marks 12).map txtV)) : RowLow W.heap.size W (.slice (some ⟨g, 0, none⟩) L.length cap) L := by
  have h1 := owns_front h (show L.length ≤ L.length + 12 by omega)
  rw [Nat.mul_one, List.map_append, List.take_append_of_le_length (by simp), List.take_of_length_le (by simp)] at h1
  exact RowLow.of_owns h1
theorem LentRow.low {B : Nat} {W : World} {v : Value} {L : List (List UInt8)} (h : LentRow B W v L) : RowLow W.heap.size W v L := by
  obtain ⟨g, cap, rfl, h⟩ := h
  exact lent_low h
/-- y is x, lent. -/
def LentOf (B : Nat) (W : World) (x y : HA) : Prop := y.h = x.h ∧ LentRow B W y.vo y.old ∧ LentRow B W y.vn y.new
theorem LentOf.below {B : Nat} {W W' : World} {x y : HA} (h : LentOf B W x y) (hb : Below W.heap.size W W') : LentOf B W' x y := ⟨h.1, h.2.1.below hb, h.2.2.below hb⟩
theorem LentOf.base {B B' : Nat} {W : World} {x y : HA} (h : LentOf B W x y) (hb : B' ≤ B) : LentOf B' W x y := ⟨h.1, h.2.1.base hb, h.2.2.base hb⟩
theorem LentOf.low {B : Nat} {W : World} {x y : HA} (h : LentOf B W x y) : y.Low W.heap.size W := ⟨h.2.1.low, h.2.2.low⟩
theorem LentOf.fine {B : Nat} {W : World} {x y : HA} (h : LentOf B W x y) (f : x.Fine) : y.Fine := by
  obtain ⟨h, -, -⟩ := h
  obtain ⟨p, vo, vn, L1, L2⟩ := x
  obtain ⟨p', vo', vn', M1, M2⟩ := y
  simp only [HA.h, Hn.H.mk.injEq] at h
  obtain ⟨rfl, rfl, rfl⟩ := h
  exact f

set_option maxRecDepth 100000 in
set_option maxHeartbeats 4000000 in
theorem lentHunk_any (x : HA) (w : World) (hx : x.Low w.heap.size w) (l1 : x.old.length ≤ 5000) (l2 : x.new.length ≤ 5000) :
    Calls Try.prog 20 #[x.val] w fun e w' => ∃ y : HA, e = .returned y.val ∧ LentOf w.heap.size w' x y ∧ Below w.heap.size w w' := by
  obtain ⟨X, hX⟩ : ∃ X, X = (w.alloc (.cells #[.int .i64 x.at_, x.vo, x.vn] 40)).alloc (.cells #[.int .i64 0, .slice none 0 0, .slice none 0 0] 40) := ⟨_, rfl⟩
  have bX : Below w.heap.size w X := by rw [hX]; exact below_then (below_nw w _) (below_nw _ _)
  have sX : X.heap.size = w.heap.size + 1 + 1 := by rw [hX]; simp
  have x0 : HBox X w.heap.size x := by rw [hX]; exact (HBox.new w x).below (below_nw _ _)
  have x1 : HBox X (w.heap.size + 1) zeroHA := by
    have h := HBox.new (w.alloc (.cells #[.int .i64 x.at_, x.vo, x.vn] 40)) zeroHA
    rw [World.size_alloc] at h
    rw [hX]; exact h
  have L1 : Hid (_) := lent_any x.old x.vo X (hx.at bX).1 l1
  have L2 : Hid (∀ W, Below w.heap.size w W → _) := fun W hW => lent_any x.new x.vn W (hx.at hW).2 l2
  obtain ⟨⟨a1, k1, e1⟩, ⟨a2, k2, e2⟩⟩ := hx.shape
  obtain ⟨p, vo, vn, P1, P2⟩ := x
  simp only at e1 e2
  subst e1 e2
  have X0 : Hid (HBox X w.heap.size _) := x0
  have X1 : Hid (HBox X (w.heap.size + 1) zeroHA) := x1
  have BX : Hid (Below w.heap.size w X) := bX
  have SX : Hid (X.heap.size = w.heap.size + 1 + 1) := sX
  clear hx x0 x1 bX sX
  simp only [HA.val] at hX L1 L2 ⊢
  go_enter Try.func20, Try.ntmps20
  go_wp2_with fail
  rw [← hX]
  clear hX
  refine Calls.mono L1.out ?_
  rintro e w1 ⟨g1, c1, rfl, o1, b1⟩
  have y0 := HBox.below X0.out b1
  have y1 := HBox.below X1.out b1
  obtain ⟨f0, f1, f2⟩ := y0.cells
  have ff : ∀ j, w1.frozen? ⟨w.heap.size, j, none⟩ = false := fun j => frozen_of_row w1 _ j _ _ y0
  have O1 : Hid (w1.ownsRow X.heap.size 9 1 (.slice (some ⟨g1, 0, none⟩) (P1.length + 12) c1) (P1.length + 12) ((P1 ++ marks 12).map txtV)) := o1
  obtain ⟨W1, hW1⟩ : ∃ W, W = w1.setCell ⟨w.heap.size, 1, none⟩ (.slice (some ⟨g1, 0, none⟩) P1.length c1) := ⟨_, rfl⟩
  have h1 : W1.heap[w.heap.size]? = some (.cells #[.int .i64 p, .slice (some ⟨g1, 0, none⟩) P1.length c1, .slice a2 P2.length k2] 40 (0, 0)) := by rw [hW1]; exact heap_setCell_same w1 _ 1 _ 40 _ y0
  have gr1 : w1.grownBy W1 (some w.heap.size) := by rw [hW1]; exact grown_set w1 _ _ _
  have BW1 : Below w.heap.size w W1 := below_grown (below_then BX.out b1) gr1 (Nat.le_refl _) (below_then BX.out b1).size
  have OW1 : Hid (W1.ownsRow X.heap.size 9 1 (.slice (some ⟨g1, 0, none⟩) (P1.length + 12) c1) (P1.length + 12) ((P1 ++ marks 12).map txtV)) := by rw [Hid, hW1]; exact owns_set O1.out y0 (by decide) 1 _
  have YW1 : Hid (HBox W1 (w.heap.size + 1) zeroHA) := y1.grown gr1 (by omega)
  have SW1 : Hid (w.heap.size ≤ W1.heap.size ∧ X.heap.size ≤ W1.heap.size) := ⟨BW1.size, by have := gr1.size; have := b1.size; omega⟩
  have H1 : Hid (_) := h1
  have L3 : Hid (_) := L2.out W1 BW1
  have HBW1 : Hid (_) := BW1
  simp only at f0 f1 f2
  clear L1 L2 X0 X1 BX b1 o1 O1 y0 y1 gr1 BW1 h1
  go_wp2_with fail
  rw [← hW1]
  clear hW1
  refine Calls.mono L3.out ?_
  rintro e w2 ⟨g2, c2, rfl, o2, b2⟩
  clear f0 f1 f2 ff
  have y0 := (b2.block _ (Array.getElem?_eq_some_iff.1 H1.out).1).trans H1.out
  have y1 := HBox.below YW1.out b2
  have f0 : w2.cell? ⟨w.heap.size, 0, none⟩ = some (.int .i64 p) := by rw [Lib.cell_of_heap y0]; rfl
  have f1 : w2.cell? ⟨w.heap.size, 1, none⟩ = some (.slice (some ⟨g1, 0, none⟩) P1.length c1) := by rw [Lib.cell_of_heap y0]; rfl
  have f2 : w2.cell? ⟨w.heap.size, 2, none⟩ = some (.slice a2 P2.length k2) := by rw [Lib.cell_of_heap y0]; rfl
  have ff : ∀ j, w2.frozen? ⟨w.heap.size, j, none⟩ = false := fun j => frozen_of_row w2 _ j _ _ y0
  obtain ⟨W2, hW2⟩ : ∃ W, W = w2.setCell ⟨w.heap.size, 2, none⟩ (.slice (some ⟨g2, 0, none⟩) P2.length c2) := ⟨_, rfl⟩
  have h2 := heap_setCell_same w2 _ 2 _ 40 (.slice (some ⟨g2, 0, none⟩) P2.length c2) y0
  rw [← hW2] at h2
  have gr2 : w2.grownBy W2 (some w.heap.size) := by rw [hW2]; exact grown_set w2 _ _ _
  have z1 : HBox W2 (w.heap.size + 1) zeroHA := y1.grown gr2 (by omega)
  obtain ⟨q0, q1, q2, qf⟩ := hbox_facts z1 (.int .i64 p) (.slice (some ⟨g1, 0, none⟩) P1.length c1)
  obtain ⟨Z, hZ, hz, gz, oz⟩ := hbox_put z1 ⟨p, .slice (some ⟨g1, 0, none⟩) P1.length c1, .slice (some ⟨g2, 0, none⟩) P2.length c2, P1, P2⟩
  simp only [zeroHA] at q0 q1 q2
  simp only at hZ
  obtain ⟨r0, r1, r2⟩ := hz.cells
  simp only at r0 r1 r2
  have BW2 : Below w.heap.size w w2 := below_then HBW1.out b2
  have BWW : Below w.heap.size w W2 := below_grown BW2 gr2 (Nat.le_refl _) BW2.size
  have BZ : Below w.heap.size w Z := below_grown BWW gz (by omega) BWW.size
  have HF : Hid (LentOf w.heap.size Z ⟨p, .slice a1 P1.length k1, .slice a2 P2.length k2, P1, P2⟩ ⟨p, .slice (some ⟨g1, 0, none⟩) P1.length c1, .slice (some ⟨g2, 0, none⟩) P2.length c2, P1, P2⟩ ∧ Below w.heap.size w Z) := by
    have e1 : ∀ {B n v xs}, w2.ownsRow B 9 1 v n xs → Z.ownsRow B 9 1 v n xs := fun h => oz _ _ _ _ (by rw [hW2]; exact owns_set h y0 (by decide) 2 _)
    have hs := SX.out
    exact ⟨⟨rfl, ⟨g1, c1, rfl, owns_base (e1 (owns_below OW1.out b2)) (by omega)⟩, ⟨g2, c2, rfl, owns_base (e1 o2) SW1.out.1⟩⟩, BZ⟩
  rw [hW2] at hZ q0 q1 q2 qf
  clear L3 b2 o2 y0 y1 h2 gr2 z1 hz gz oz BW2 BWW BZ H1 OW1 YW1
  go_wp2
  rw [← hZ]
  refine bodyPost_ret (v := .agg #[.int .i64 p, .slice (some ⟨g1, 0, none⟩) P1.length c1, .slice (some ⟨g2, 0, none⟩) P2.length c2]) (by simp [results, Try.results20, go_sem, r0, r1, r2]) rfl ⟨_, rfl, HF.out⟩

set_option maxRecDepth 100000 in
set_option maxHeartbeats 4000000 in
theorem keptHunk_any (x y : HA) (B : Nat) (w : World) (hx : x.Low w.heap.size w) (hy : LentOf B w x y) (l1 : x.old.length ≤ 5000) (l2 : x.new.length ≤ 5000) :
    Calls Try.prog 27 #[y.val, x.val] w fun e w' => e = .returned (.bool true) ∧ Below w.heap.size w w' := by
  obtain ⟨X, hX⟩ : ∃ X, X = (w.alloc (.cells #[.int .i64 y.at_, y.vo, y.vn] 40)).alloc (.cells #[.int .i64 x.at_, x.vo, x.vn] 40) := ⟨_, rfl⟩
  have bX : Below w.heap.size w X := by rw [hX]; exact below_then (below_nw w _) (below_nw _ _)
  have x0 : HBox X w.heap.size y := by rw [hX]; exact (HBox.new w y).below (below_nw _ _)
  have x1 : HBox X (w.heap.size + 1) x := by
    have h := HBox.new (w.alloc (.cells #[.int .i64 y.at_, y.vo, y.vn] 40)) x
    rw [World.size_alloc] at h
    rw [hX]; exact h
  have X0 : Hid (∀ W, Below X.heap.size X W → HBox W w.heap.size y ∧ HBox W (w.heap.size + 1) x) := fun W hW => ⟨x0.below hW, x1.below hW⟩
  have hyo : y.old = x.old ∧ y.new = x.new := by
    obtain ⟨h, -, -⟩ := hy
    obtain ⟨p, vo, vn, P1, P2⟩ := x
    obtain ⟨p', vo', vn', Q1, Q2⟩ := y
    simp only [HA.h, Hn.H.mk.injEq] at h
    exact h.2
  have S1 : Hid (_) := sameHunkA_yes y x X.heap.size X (hy.low.at bX) (hx.at bX) (Nat.le_refl _) hy.1 (by rw [hyo.1]; omega) (by rw [hyo.2]; omega)
  have K1 : Hid (∀ W, Below X.heap.size X W → Calls Try.prog 11 #[y.vo, x.vo] W fun e w' => e = .returned (.bool true) ∧ Below W.heap.size W w') := fun W hW => by
    obtain ⟨g, cap, e, h⟩ := hy.2.1
    rw [e]
    rw [hyo.1] at h ⊢
    exact kept_any x.old x.vo g cap B W ((hx.at bX).at hW).1 (owns_below (owns_below h bX) hW) l1
  have K2 : Hid (∀ W, Below X.heap.size X W → Calls Try.prog 11 #[y.vn, x.vn] W fun e w' => e = .returned (.bool true) ∧ Below W.heap.size W w') := fun W hW => by
    obtain ⟨g, cap, e, h⟩ := hy.2.2
    rw [e]
    rw [hyo.2] at h ⊢
    exact kept_any x.new x.vn g cap B W ((hx.at bX).at hW).2 (owns_below (owns_below h bX) hW) l2
  have BX : Hid (Below w.heap.size w X) := bX
  obtain ⟨⟨a1, k1, e1⟩, ⟨a2, k2, e2⟩⟩ := hx.shape
  obtain ⟨⟨a3, k3, e3⟩, ⟨a4, k4, e4⟩⟩ := hy.low.shape
  obtain ⟨p, vo, vn, P1, P2⟩ := x
  obtain ⟨q, uo, un, Q1, Q2⟩ := y
  simp only at e1 e2 e3 e4
  subst e1 e2 e3 e4
  clear hx hy x0 x1 bX hyo
  simp only [HA.val] at hX S1 K1 K2 ⊢
  go_enter Try.func27, Try.ntmps27
  go_wp2_with fail
  rw [← hX]
  clear hX
  refine Calls.mono S1.out ?_
  rintro e w1 ⟨rfl, b1⟩
  obtain ⟨⟨c0, c1, c2⟩, ⟨c3, c4, c5⟩⟩ := And.intro (X0.out w1 b1).1.cells (X0.out w1 b1).2.cells
  simp only at c0 c1 c2 c3 c4 c5
  have K3 : Hid (_) := K1.out w1 b1
  have B1 : Hid (Below X.heap.size X w1) := b1
  clear S1 K1 b1
  go_wp2_with fail
  refine Calls.mono K3.out ?_
  rintro e w2 ⟨rfl, b2⟩
  have B2 : Hid (Below X.heap.size X w2) := below_then B1.out b2
  clear c0 c1 c2 c3 c4 c5 K3 B1 b2
  obtain ⟨⟨c0, c1, c2⟩, ⟨c3, c4, c5⟩⟩ := And.intro (X0.out w2 B2.out).1.cells (X0.out w2 B2.out).2.cells
  simp only at c0 c1 c2 c3 c4 c5
  have K4 : Hid (_) := K2.out w2 B2.out
  clear K2
  go_wp2_with fail
  refine Calls.mono K4.out ?_
  rintro e w3 ⟨rfl, b3⟩
  have B3 : Hid (Below w.heap.size w w3) := below_then BX.out (below_then B2.out b3)
  clear c0 c1 c2 c3 c4 c5 K4 B2 b3
  go_wp2
  go_ret
  exact ⟨rfl, B3.out⟩

end Go.Proofs.Ytkiafelpgcmifaa

/-
  The walk of clerestorykit.LentHunks: a row of hunks with marks behind it, and behind the lines of each.
-/
namespace Go.Proofs.Ytkiafelpgcmifaa
open Go.RowKit Go.Shelf

attribute [local go_sem] Oper.semAt_some

/-- Each of ys is that of xs, lent. -/
def LentAll (B : Nat) (W : World) (xs ys : List HA) : Prop := ys.length = xs.length ∧ ∀ (j : Nat) (x y : HA), xs[j]? = some x → ys[j]? = some y → LentOf B W x y
theorem LentAll.below {B : Nat} {W W' : World} {xs ys : List HA} (h : LentAll B W xs ys) (hb : Below W.heap.size W W') : LentAll B W' xs ys := ⟨h.1, fun j x y hx hy => (h.2 j x y hx hy).below hb⟩
theorem LentRow.grown {B B' n s : Nat} {W W' : World} {v u : Value} {L : List (List UInt8)} {ys : List Value} (h : LentRow B W v L) (hu : W.ownsRow B' 40 s u n ys) (hg : W.grownBy W' u.ownBlock) : LentRow B W' v L := by
  obtain ⟨g, cap, e, h⟩ := h
  exact ⟨g, cap, e, owns_two h hu hg (by decide)⟩
theorem LentOf.grown {B B' n s : Nat} {W W' : World} {x y : HA} {u : Value} {ys : List Value} (h : LentOf B W x y) (hu : W.ownsRow B' 40 s u n ys) (hg : W.grownBy W' u.ownBlock) : LentOf B W' x y := ⟨h.1, h.2.1.grown hu hg, h.2.2.grown hu hg⟩
theorem LentAll.grown {B B' n s : Nat} {W W' : World} {xs ys : List HA} {u : Value} {zs : List Value} (h : LentAll B W xs ys) (hu : W.ownsRow B' 40 s u n zs) (hg : W.grownBy W' u.ownBlock) : LentAll B W' xs ys := ⟨h.1, fun j x y hx hy => (h.2 j x y hx hy).grown hu hg⟩
theorem LentAll.snoc {B : Nat} {W : World} {xs ys : List HA} {k : Nat} {x y : HA} (h : LentAll B W (xs.take k) ys) (hk : k ≤ xs.length) (hx : xs[k]? = some x) (hy : LentOf B W x y) : LentAll B W (xs.take (k + 1)) (ys ++ [y]) := by
  have hkl : k < xs.length := (List.getElem?_eq_some_iff.1 hx).1
  have hl : ys.length = k := by rw [h.1, List.length_take]; omega
  refine ⟨by simp [hl]; omega, fun j u v hu hv => ?_⟩
  rw [List.getElem?_take] at hu
  split at hu
  · rename_i hj
    by_cases e : j < k
    · rw [List.getElem?_append_left (by omega)] at hv
      exact h.2 j u v (by rw [List.getElem?_take, if_pos e]; exact hu) hv
    · have : j = k := by omega
      subst this
      rw [List.getElem?_append_right (by omega), hl, Nat.sub_self] at hv
      simp at hv
      rw [hx] at hu
      cases hu
      subst hv
      exact hy
  · cases hu
theorem haCells_snoc (ys : List HA) (y : HA) : haCells (ys ++ [y]) = haCells ys ++ [.int .i64 y.at_, y.vo, y.vn] := by simp [haCells]

set_option maxRecDepth 100000 in
set_option maxHeartbeats 8000000 in
theorem lentHunks_any (xs : List HA) (v : Value) (w : World) (hv : HaLow w.heap.size w v xs) (hl : xs.length ≤ 4000) (hs : ∀ x ∈ xs, x.old.length ≤ 5000 ∧ x.new.length ≤ 5000) :
    Calls Try.prog 7 #[v] w fun e w' => ∃ g cap ys, e = .returned (.slice (some ⟨g, 0, none⟩) xs.length cap) ∧ w'.ownsRow w.heap.size 40 3 (.slice (some ⟨g, 0, none⟩) (xs.length + 12) cap) (xs.length + 12) (haCells ys ++ mks mcH 1 12) ∧ LentAll w.heap.size w' xs ys ∧ Below w.heap.size w w' := by
  obtain ⟨⟨ao, cap, b, off, rfl, -, hao, hc⟩, hlow⟩ := hv
  obtain ⟨i0, hi, hz0, hz1, hz2⟩ := info_parts info40s
  have HC : Hid (_) := hc
  have HLOW : Hid (∀ x ∈ xs, x.Low w.heap.size w) := hlow
  have HS : Hid (_) := hs
  clear hc hlow hs
  go_enter Try.func7, Try.ntmps7
  go_wp2_with (at_make; refine wpList_make_own _ rfl _ _ 23 rfl w.heap.size 40 i0 (.agg #[.int .i64 0, .slice none 0 0, .slice none 0 0]) 3 Try.underlying23 hi hz0 hz1 _ _ _ (xs.length + 12) rfl rfl (by omega) (by rw [hz2]; omega) (by unfold maxLen; omega) (Nat.le_refl _) ?_; intro w1 hown1 hg1; have hB1 := (Below.refl w.heap.size w).grown hg1 (Nat.le_refl _) (by simp))
  have ST : Hid (w1.ownsRow w.heap.size 40 3 (.slice (some ⟨w.heap.size, 0, none⟩) 0 (xs.length + 12)) 0 [] ∧ Below w.heap.size w w1) := ⟨hown1, hB1⟩
  clear hown1 hg1 hB1
  go_loopw [3, 4] (fun t i wr => ∃ (k : Nat) (ys : List HA), k ≤ xs.length ∧ i = .int .i64 k ∧ wr.ownsRow w.heap.size 40 3 t k (haCells ys) ∧ LentAll w.heap.size wr (xs.take k) ys ∧ Below w.heap.size w wr) (fun _ i _ => xs.length - (intOf i).toNat)
  case atStart => exact ⟨0, [], by omega, rfl, ST.out.1, ⟨rfl, fun j x y hx hy => by simp at hy⟩, ST.out.2⟩
  case round =>
    clear ST
    obtain ⟨k, ys, hk, rfl, hown, hla, hB⟩ := hrel
    by_cases hlt : k < xs.length
    · obtain ⟨x, hx⟩ : ∃ x, xs[k]? = some x := ⟨xs[k], List.getElem?_eq_getElem hlt⟩
      obtain ⟨rfl, hbm⟩ := hao (by omega)
      obtain ⟨g0, g1, g2⟩ := haCells_get xs k x hx
      have c0 : wr.cell? ⟨b, off + k * 3, none⟩ = some (.int .i64 x.at_) := (hB.cell (p := ⟨b, off + k * 3, none⟩) (by show b < _; omega)).trans (HC.out _ _ g0)
      have c1 : wr.cell? ⟨b, off + k * 3 + 1, none⟩ = some x.vo := (hB.cell (p := ⟨b, off + k * 3 + 1, none⟩) (by show b < _; omega)).trans (HC.out _ _ g1)
      have c2 : wr.cell? ⟨b, off + k * 3 + 2, none⟩ = some x.vn := (hB.cell (p := ⟨b, off + k * 3 + 2, none⟩) (by show b < _; omega)).trans (HC.out _ _ g2)
      have hm2 := List.mem_of_getElem? hx
      have xl := HA.Low.at (HLOW.out x hm2) hB
      obtain ⟨l1, l2⟩ := HS.out x hm2
      have LT : Hid (_) := lentHunk_any x wr xl l1 l2
      obtain ⟨⟨a1, k1, e1⟩, ⟨a2, k2, e2⟩⟩ := xl.shape
      obtain ⟨at3, cp3, rfl⟩ := slice_shape hown
      have HX : Hid (xs[k]? = some x) := hx
      obtain ⟨p, vo, vn, L1, L2⟩ := x
      simp only at c0 c1 c2 e1 e2
      subst e1 e2
      have OWN : Hid (wr.ownsRow w.heap.size 40 3 (.slice at3 k cp3) k (haCells ys)) := hown
      have HLA : Hid (_) := hla
      have HB : Hid (Below w.heap.size w wr) := hB
      simp only [HA.val] at LT
      clear g0 g1 g2 hm2 xl l1 l2 hx hown hla hB
      go_wp2_with fail
      refine Calls.mono LT.out ?_
      rintro e w1 ⟨y, rfl, lo, b1⟩
      obtain ⟨⟨a3, k3, e3⟩, ⟨a4, k4, e4⟩⟩ := lo.low.shape
      obtain ⟨q, uo, un, M1, M2⟩ := y
      simp only at e3 e4
      subst e3 e4
      have OW1 := owns_below OWN.out b1
      have B1 : Below w.heap.size w w1 := below_then HB.out b1
      obtain ⟨V, hV⟩ : ∃ V, V = (w1.alloc (.cells #[.int .i64 q, .slice a3 M1.length k3, .slice a4 M2.length k4] 40)).alloc (.cells #[.int .i64 q, .slice a3 M1.length k3, .slice a4 M2.length k4] 40) := ⟨_, rfl⟩
      have bV : Below w1.heap.size w1 V := by rw [hV]; exact below_then (below_nw _ _) (below_nw _ _)
      have hsrc : ∀ (j : Nat) (u : Value), [Value.int .i64 q, .slice a3 M1.length k3, .slice a4 M2.length k4][j]? = some u → V.cell? ((⟨w1.heap.size + 1, 0, none⟩ : Addr).add j) = some u := by
        have h := cells_new (w1.alloc (.cells #[.int .i64 q, .slice a3 M1.length k3, .slice a4 M2.length k4] 40)) [.int .i64 q, .slice a3 M1.length k3, .slice a4 M2.length k4] 40
        rw [World.size_alloc] at h
        rw [hV]; exact h
      subst hV
      have OWV : Hid (_) := owns_below OW1 bV
      have HSRC : Hid (_) := hsrc
      have HLE : Hid (w.heap.size ≤ ((w1.alloc (.cells #[.int .i64 q, .slice a3 M1.length k3, .slice a4 M2.length k4] 40)).alloc (.cells #[.int .i64 q, .slice a3 M1.length k3, .slice a4 M2.length k4] 40)).heap.size) := Nat.le_trans B1.size bV.size
      have HLV : Hid (_ ∧ _ ∧ _) := ⟨(LentAll.below HLA.out b1).below bV, LentOf.base (lo.below bV) HB.out.size, below_then B1 bV⟩
      clear LT OWN HLA HB lo b1 OW1 B1 bV hsrc
      go_wp2_with (at_builtin; refine wpList_append_own _ rfl _ _ 23 rfl w.heap.size 40 i0 (.agg #[.int .i64 0, .slice none 0 0, .slice none 0 0]) 3 56 Try.underlying23 hi hz0 hz1 hz2 rfl (by decide) _ _ _ rfl OWV.out ⟨w1.heap.size + 1, 0, none⟩ 1 1 [.int .i64 q, .slice a3 M1.length k3, .slice a4 M2.length k4] rfl rfl HSRC.out (by simp [Value.oneCell']) (by unfold maxLen; omega) (by omega) HLE.out ?_; intro v' W' hown' hgr _)
      go_roundw
      case rel =>
        refine ⟨k + 1, ys ++ [⟨q, .slice a3 M1.length k3, .slice a4 M2.length k4, M1, M2⟩], by omega, by go_num, ?_, ?_, ?_⟩
        · rw [haCells_snoc]; exact hown'
        · exact LentAll.snoc (HLV.out.1.grown OWV.out hgr) hk HX.out (HLV.out.2.1.grown OWV.out hgr)
        · exact HLV.out.2.2.grown hgr HLV.out.2.2.size (fun q hq => (World.ownsRow.lt OWV.out q hq).1)
      case measure => simp [intOf]; omega
    · have hkl : k = xs.length := by omega
      have ST2 : Hid (wr.ownsRow w.heap.size 40 3 u3 (xs.length + 0) (haCells ys ++ mks mcH 1 0) ∧ LentAll w.heap.size wr xs ys ∧ Below w.heap.size w wr) := by
        rw [hkl, List.take_length] at hla
        refine ⟨?_, hla, hB⟩
        rw [mks_zero, List.append_nil, Nat.add_zero, ← hkl]; exact hown
      clear hown hla hB hkl HC HLOW HS hao
      go_wp2
      go_loopw [3, 6] (fun t i wr => ∃ (j : Nat), j ≤ 12 ∧ i = .int .i64 j ∧ wr.ownsRow w.heap.size 40 3 t (xs.length + j) (haCells ys ++ mks mcH 1 j) ∧ LentAll w.heap.size wr xs ys ∧ Below w.heap.size w wr) (fun _ i _ => 12 - (intOf i).toNat)
      case atStart => exact ⟨0, by omega, rfl, ST2.out.1, ST2.out.2.1, ST2.out.2.2⟩
      case round =>
        clear ST2
        obtain ⟨j, hj, rfl, hown, hla, hB⟩ := hrel
        by_cases hlt2 : j < 12
        · have MK : Hid (_) := markHunk_any 1 j (by omega) (by omega) wr
          obtain ⟨at3, cp3, rfl⟩ := slice_shape hown
          have OWN : Hid (_) := hown
          have HLB : Hid (_ ∧ _) := ⟨hla, hB⟩
          clear hown hla hB
          go_wp2_with fail
          refine Calls.mono MK.out ?_
          rintro e w1 ⟨rfl, b1⟩
          have bV := below_nw w1 (.cells #[.int .i64 (mn 1 j : Nat), .slice none 0 0, .slice none 0 0] 40)
          have OWV : Hid (_) := owns_below (owns_below OWN.out b1) bV
          have HSRC : Hid (_) := cells_new w1 [.int .i64 (mn 1 j : Nat), .slice none 0 0, .slice none 0 0] 40
          have HLV : Hid (_ ∧ _) := ⟨(LentAll.below HLB.out.1 b1).below bV, below_then (below_then HLB.out.2 b1) bV⟩
          clear MK OWN HLB b1 bV
          go_wp2_with (at_builtin; refine wpList_append_own _ rfl _ _ 23 rfl w.heap.size 40 i0 (.agg #[.int .i64 0, .slice none 0 0, .slice none 0 0]) 3 56 Try.underlying23 hi hz0 hz1 hz2 rfl (by decide) _ _ _ rfl OWV.out ⟨w1.heap.size, 0, none⟩ 1 1 [.int .i64 (mn 1 j : Nat), .slice none 0 0, .slice none 0 0] rfl rfl HSRC.out (by simp [Value.oneCell']) (by unfold maxLen; omega) (by omega) HLV.out.2.size ?_; intro v' W' hown' hgr _)
          go_roundw
          case rel =>
            refine ⟨j + 1, by omega, by go_num, ?_, ?_, ?_⟩
            · rw [mks_succ, ← List.append_assoc]; exact hown'
            · exact HLV.out.1.grown OWV.out hgr
            · exact HLV.out.2.grown hgr HLV.out.2.size (fun q hq => (World.ownsRow.lt OWV.out q hq).1)
          case measure => simp [intOf]; omega
        · have hj12 : j = 12 := by omega
          subst hj12
          obtain ⟨g, cp3, rfl⟩ := ownsRow_succ hown
          have hcap : (xs.length : Int) ≤ (cp3 : Int) := by
            rcases hown.2 with ⟨h0, _⟩ | ⟨g', cap', cur, he, _, _, hnc, _⟩
            · cases h0
            · injection he with _ _ e3; omega
          have HF : Hid (_ ∧ _ ∧ _) := ⟨hown, hla, hB⟩
          clear hown hla hB
          go_wp2
          go_ret
          exact ⟨g, cp3, ys, by simp, HF.out.1, HF.out.2.1, HF.out.2.2⟩

end Go.Proofs.Ytkiafelpgcmifaa

/-
  The walk of clerestorykit.KeptHunks: a lent row of hunks that stayed as it was.
-/
namespace Go.Proofs.Ytkiafelpgcmifaa
open Go.RowKit Go.Shelf

/-- The worlds in which a part of a region goes: nothing below has turned. -/
structure BCls (w : World) where
  val : World
  below : Below w.heap.size w val

theorem BCls.next {w : World} (z : BCls w) {w2 : World} (hb : Below z.val.heap.size z.val w2) : ∃ z2 : BCls w, w2 = z2.val :=
  ⟨⟨w2, z.below.trans (hb.mono z.below.size)⟩, rfl⟩
theorem haCells_len' (xs : List HA) : (haCells xs).length = xs.length * 3 := by
  induction xs with
  | nil => rfl
  | cons x xs ih => simp [haCells] at ih ⊢; omega
theorem below_cell_some {w W : World} {p : Addr} {v : Value} (h : w.cell? p = some v) (hb : Below w.heap.size w W) : W.cell? p = some v :=
  (hb.cell (p := p) (by simpa using World.block_lt_of_cell? _ _ h)).trans h

set_option maxRecDepth 100000 in
set_option maxHeartbeats 8000000 in
theorem keptHunks_any (xs ys : List HA) (v : Value) (g cap B : Nat) (w : World) (hv : HaLow w.heap.size w v xs) (hown : w.ownsRow B 40 3 (.slice (some ⟨g, 0, none⟩) (xs.length + 12) cap) (xs.length + 12) (haCells ys ++ mks mcH 1 12)) (hla : LentAll B w xs ys) (hl : xs.length ≤ 4000) (hs : ∀ x ∈ xs, x.old.length ≤ 5000 ∧ x.new.length ≤ 5000) :
    Calls Try.prog 12 #[.slice (some ⟨g, 0, none⟩) xs.length cap, v] w fun e w' => e = .returned (.bool true) ∧ Below w.heap.size w w' := by
  obtain ⟨⟨ao, capl, b, off, rfl, -, hao, hc⟩, hlow⟩ := hv
  have hcap : ((xs.length : Int) + 12) ≤ (cap : Int) := by
    rcases hown.2 with ⟨h0, _⟩ | ⟨g', cap', cur, he, _, _, hnc, _⟩
    · cases h0
    · injection he with _ _ e3; omega
  have hyl := hla.1
  have HC : Hid (_) := hc
  have HLOW : Hid (∀ x ∈ xs, x.Low w.heap.size w) := hlow
  have HS : Hid (_) := hs
  have HLA : Hid (_) := hla
  have HY : Hid (∀ (k : Nat) (y : HA), ys[k]? = some y → w.cell? ⟨g, k * 3, none⟩ = some (.int .i64 y.at_) ∧ w.cell? ⟨g, k * 3 + 1, none⟩ = some y.vo ∧ w.cell? ⟨g, k * 3 + 2, none⟩ = some y.vn) := fun k y hy => by
    have hk := (List.getElem?_eq_some_iff.1 hy).1
    have hn := haCells_len' ys
    obtain ⟨g0, g1, g2⟩ := haCells_get ys k y hy
    refine ⟨(hown.cellAt _ (by omega)).trans ?_, (hown.cellAt _ (by omega)).trans ?_, (hown.cellAt _ (by omega)).trans ?_⟩
    · rw [List.getElem?_append_left (by omega)]; exact g0
    · rw [List.getElem?_append_left (by omega)]; exact g1
    · rw [List.getElem?_append_left (by omega)]; exact g2
  have HM : Hid (∀ (k : Nat), xs.length ≤ k → k < xs.length + 12 → w.cell? ⟨g, k * 3, none⟩ = some (.int .i64 (mn 1 (k - xs.length) : Nat)) ∧ w.cell? ⟨g, k * 3 + 1, none⟩ = some (.slice none 0 0) ∧ w.cell? ⟨g, k * 3 + 2, none⟩ = some (.slice none 0 0)) := fun k h1 h2 => by
    have hn := haCells_len' ys
    obtain ⟨g0, g1, g2⟩ := mksH_get 1 (k - xs.length) 12 (by omega)
    refine ⟨(hown.cellAt _ (by omega)).trans ?_, (hown.cellAt _ (by omega)).trans ?_, (hown.cellAt _ (by omega)).trans ?_⟩
    · rw [List.getElem?_append_right (by omega), show k * 3 - (haCells ys).length = (k - xs.length) * 3 by omega]; exact g0
    · rw [List.getElem?_append_right (by omega), show k * 3 + 1 - (haCells ys).length = (k - xs.length) * 3 + 1 by omega]; exact g1
    · rw [List.getElem?_append_right (by omega), show k * 3 + 2 - (haCells ys).length = (k - xs.length) * 3 + 2 by omega]; exact g2
  clear hc hlow hs hown hla
  go_enter Try.func12, Try.ntmps12
  go_wp2
  go_loopw [6] (fun i wr => ∃ k : Nat, k ≤ xs.length + 12 ∧ i = .int .i64 k ∧ Below w.heap.size w wr) (fun i _ => xs.length + 12 - (intOf i).toNat)
  case atStart => exact ⟨0, by omega, rfl, Below.refl _ _⟩
  case round =>
    obtain ⟨k, hk, rfl, hB⟩ := hrel
    have hne : Nonempty (BCls w) := ⟨⟨wr.drew, Below.drew hB⟩⟩
    by_cases hlt : k < xs.length
    · obtain ⟨x, hx⟩ : ∃ x, xs[k]? = some x := ⟨xs[k], List.getElem?_eq_getElem hlt⟩
      obtain ⟨y, hy⟩ : ∃ y, ys[k]? = some y := ⟨ys[k]'(by omega), List.getElem?_eq_getElem (by omega)⟩
      obtain ⟨rfl, hbm⟩ := hao (by omega)
      obtain ⟨g0, g1, g2⟩ := haCells_get xs k x hx
      have d0 := HC.out _ _ g0
      have d1 := HC.out _ _ g1
      have d2 := HC.out _ _ g2
      obtain ⟨f0, f1, f2⟩ := HY.out k y hy
      have hm2 := List.mem_of_getElem? hx
      have xl := HLOW.out x hm2
      obtain ⟨l1, l2⟩ := HS.out x hm2
      have lo := HLA.out.2 k x y hx hy
      have KP : Hid (∀ z : BCls w, Calls Try.prog 27 #[y.val, x.val] z.val fun e w' => e = .returned (.bool true) ∧ Below z.val.heap.size z.val w') := fun z => keptHunk_any x y B z.val (xl.at z.below) (lo.below z.below) l1 l2
      obtain ⟨⟨a1, k1, e1⟩, ⟨a2, k2, e2⟩⟩ := xl.shape
      obtain ⟨⟨a3, k3, e3⟩, ⟨a4, k4, e4⟩⟩ := lo.low.shape
      obtain ⟨p, vo, vn, L1, L2⟩ := x
      obtain ⟨q, uo, un, M1, M2⟩ := y
      simp only at d0 d1 d2 f0 f1 f2 e1 e2 e3 e4
      subst e1 e2 e3 e4
      have c0 : ∀ z : BCls w, z.val.cell? ⟨b, off + k * 3, none⟩ = some (.int .i64 p) := fun z => below_cell_some d0 z.below
      have c1 : ∀ z : BCls w, z.val.cell? ⟨b, off + k * 3 + 1, none⟩ = some (.slice a1 L1.length k1) := fun z => below_cell_some d1 z.below
      have c2 : ∀ z : BCls w, z.val.cell? ⟨b, off + k * 3 + 2, none⟩ = some (.slice a2 L2.length k2) := fun z => below_cell_some d2 z.below
      have c3 : ∀ z : BCls w, z.val.cell? ⟨g, k * 3, none⟩ = some (.int .i64 q) := fun z => below_cell_some f0 z.below
      have c4 : ∀ z : BCls w, z.val.cell? ⟨g, k * 3 + 1, none⟩ = some (.slice a3 M1.length k3) := fun z => below_cell_some f1 z.below
      have c5 : ∀ z : BCls w, z.val.cell? ⟨g, k * 3 + 2, none⟩ = some (.slice a4 M2.length k4) := fun z => below_cell_some f2 z.below
      clear g0 g1 g2 d0 d1 d2 f0 f1 f2 hx hy hm2 xl lo l1 l2 HC HLOW HS HLA HY HM hao
      have i1 : decide ((k : Int) < (xs.length : Int)) = true := by simp; omega
      have i4 : decide (k < xs.length) = true := by simp; omega
      have i2 : decide (xs.length ≤ k) = false := by simp; omega
      simp only [HA.val] at KP
      go_wp2
      refine wp_region_cls (BCls.val (w := w)) (by kernel_rfl) (by kernel_rfl) ⟨wr.drew, Below.drew hB⟩ rfl ?_
      repeat (go_big_quiet_step ((rename_i z; refine (KP.out z).mono ?_; rintro e w2 ⟨rfl, hb⟩; exact ⟨rfl, z.next hb⟩)))
      refine wpQuiet_nil ?_
      rintro _ ⟨z, rfl⟩
      clear c0 c1 c2 c3 c4 c5
      go_wp2
      go_roundw
      case rel => exact ⟨k + 1, by omega, by go_num, z.below⟩
      case measure => simp [intOf]; omega
    · by_cases hlt2 : k < xs.length + 12
      · obtain ⟨f0, f1, f2⟩ := HM.out k (by omega) hlt2
        have c3 : ∀ z : BCls w, z.val.cell? ⟨g, k * 3, none⟩ = some (.int .i64 (mn 1 (k - xs.length) : Nat)) := fun z => below_cell_some f0 z.below
        have c4 : ∀ z : BCls w, z.val.cell? ⟨g, k * 3 + 1, none⟩ = some (.slice none 0 0) := fun z => below_cell_some f1 z.below
        have c5 : ∀ z : BCls w, z.val.cell? ⟨g, k * 3 + 2, none⟩ = some (.slice none 0 0) := fun z => below_cell_some f2 z.below
        clear f0 f1 f2 HC HLOW HS HLA HY HM hao
        have i1 : decide ((k : Int) < (xs.length : Int)) = false := by simp; omega
        have i2 : decide (xs.length ≤ k) = true := by simp; omega
        have i4 : decide (k < xs.length) = false := by simp; omega
        have i3 : (k : Int) - (xs.length : Int) = ((k - xs.length : Nat) : Int) := by omega
        go_wp2
        refine wp_region_cls (BCls.val (w := w)) (by kernel_rfl) (by kernel_rfl) ⟨wr.drew, Below.drew hB⟩ rfl ?_
        repeat (go_big_quiet_step ((rename_i z; first | (refine (markHunk_any 1 (k - xs.length) (by omega) (by omega) _).mono ?_; rintro e w2 ⟨rfl, hb⟩; exact ⟨rfl, z.next hb⟩) | (refine (sameMark 1 (k - xs.length) _).mono ?_; rintro e w2 ⟨rfl, hb⟩; exact ⟨rfl, z.next hb⟩))))
        refine wpQuiet_nil ?_
        rintro _ ⟨z, rfl⟩
        clear c3 c4 c5
        go_wp2
        go_roundw
        case rel => exact ⟨k + 1, by omega, by go_num, z.below⟩
        case measure => simp [intOf]; omega
      · clear HC HLOW HS HLA HY HM hao
        go_wp2
        go_ret
        exact ⟨rfl, hB⟩

end Go.Proofs.Ytkiafelpgcmifaa

/-
  The walk of the document's answer, clerestoryref03.Sorted.
-/
namespace Go.Proofs.Ytkiafelpgcmifaa
open Go.RowKit Go.Shelf

/-- Where the hunk before the k-th ends. -/
def lastOf (xs : List HA) : Nat → Int
  | 0 => -1
  | j + 1 => match xs[j]? with
    | some x => x.at_ + x.old.length
    | none => -1
def backOk (xs : List HA) (k : Nat) : Prop := ∀ j x, k = j + 1 → xs[j]? = some x → 0 ≤ x.at_ ∧ x.at_ ≤ 1099511627776

set_option maxRecDepth 100000 in
set_option maxHeartbeats 8000000 in
theorem refSorted_any (xs : List HA) (v : Value) (w : World) (hv : HaLow w.heap.size w v xs) (hf : ∀ x ∈ xs, x.Fits) (hs : ∀ x ∈ xs, x.Small) (hl : xs.length ≤ 1000000) :
    Calls Try.prog 26 #[v] w fun e w' => e = .returned (.bool (Hn.sorted (-1) (xs.map HA.h))) ∧ Below w.heap.size w w' := by
  obtain ⟨⟨ao, cap, b, off, rfl, -, hao, hc⟩, hlow⟩ := hv
  have HC : Hid (_) := hc
  have HLOW : Hid (∀ x ∈ xs, x.Low w.heap.size w) := hlow
  have HF : Hid (_) := hf
  have HS : Hid (_) := hs
  clear hc hlow hf hs
  go_enter Try.func26, Try.ntmps26
  go_wp2
  go_loopw [3] (fun i wr => ∃ k : Nat, k ≤ xs.length ∧ i = .int .i64 k ∧ Hn.sorted (-1) (xs.map HA.h) = Hn.sorted (lastOf xs k) ((xs.drop k).map HA.h) ∧ backOk xs k ∧ Below w.heap.size w wr) (fun i _ => xs.length - (intOf i).toNat)
  case atStart => exact ⟨0, by omega, rfl, rfl, (fun j x h => by omega), Below.refl _ _⟩
  case round =>
    obtain ⟨k, hk, rfl, hj, hbo, hB⟩ := hrel
    have hne : Nonempty (BCls w) := ⟨⟨wr.drew, Below.drew hB⟩⟩
    by_cases hlt : k < xs.length
    · obtain ⟨x, hx⟩ : ∃ x, xs[k]? = some x := ⟨xs[k], List.getElem?_eq_getElem hlt⟩
      obtain ⟨rfl, hbm⟩ := hao (by omega)
      obtain ⟨g0, g1, g2⟩ := haCells_get xs k x hx
      have d0 := HC.out _ _ g0
      have d1 := HC.out _ _ g1
      have d2 := HC.out _ _ g2
      have hm2 := List.mem_of_getElem? hx
      have xl := HLOW.out x hm2
      have hfx := HF.out x hm2
      have hsx := HS.out x hm2
      have RG : Hid (∀ z : BCls w, Calls Try.prog 40 #[x.val] z.val fun e w' => e = .returned (.bool (Hn.right x.h)) ∧ Below z.val.heap.size z.val w') := fun z => refRight_any x z.val.heap.size z.val (xl.at z.below) (Nat.le_refl _) hfx
      have HJ : Hid (Hn.sorted (-1) (xs.map HA.h) = (Hn.right x.h && decide (lastOf xs k < x.at_) && Hn.sorted (x.at_ + x.old.length) ((xs.drop (k + 1)).map HA.h))) := hj.trans (sorted_at xs k x _ hx)
      have HL : Hid (lastOf xs (k + 1) = x.at_ + x.old.length) := by show lastOf xs (k + 1) = _; simp only [lastOf, hx]
      have HK : Hid (Hn.right x.h = true → backOk xs (k + 1)) := fun hr j y e hy => by
        have : j = k := by omega
        subst this
        rw [hx] at hy; cases hy
        exact right_bound hr
      obtain ⟨⟨a1, k1, e1⟩, ⟨a2, k2, e2⟩⟩ := xl.shape
      have HX : Hid (xs[k]? = some x) := hx
      obtain ⟨p, vo, vn, L1, L2⟩ := x
      simp only at d0 d1 d2 e1 e2
      subst e1 e2
      have c0 : ∀ z : BCls w, z.val.cell? ⟨b, off + k * 3, none⟩ = some (.int .i64 p) := fun z => below_cell_some d0 z.below
      have c1 : ∀ z : BCls w, z.val.cell? ⟨b, off + k * 3 + 1, none⟩ = some (.slice a1 L1.length k1) := fun z => below_cell_some d1 z.below
      have c2 : ∀ z : BCls w, z.val.cell? ⟨b, off + k * 3 + 2, none⟩ = some (.slice a2 L2.length k2) := fun z => below_cell_some d2 z.below
      simp only [HA.val, HA.h] at RG HJ HL HK
      obtain ⟨⟨n1, n2⟩, -⟩ := hfx
      simp only at n1 n2
      clear g0 g1 g2 d0 d1 d2 hx hm2 xl hsx
      cases hr : Hn.right ⟨p, L1, L2⟩ with
      | false =>
        rw [hr] at RG HJ
        clear hj hbo HL HK HC HLOW HF HS hao
        go_wp2
        refine wp_region_cls (BCls.val (w := w)) (by kernel_rfl) (by kernel_rfl) ⟨wr.drew, Below.drew hB⟩ rfl ?_
        repeat (go_big_quiet_step ((rename_i z; refine (RG.out z).mono ?_; rintro e w2 ⟨rfl, hb⟩; exact ⟨rfl, z.next hb⟩)))
        refine wpQuiet_nil ?_
        rintro _ ⟨z, rfl⟩
        clear c0 c1 c2
        go_wp2
        go_ret
        exact ⟨ret_bool (by rw [HJ.out]; rfl), z.below⟩
      | true =>
        obtain ⟨r1, r2⟩ := right_bound hr
        simp only at r1 r2
        rw [hr] at RG HJ
        have hK := HK.out hr
        clear HK hr
        cases k with
        | zero =>
          simp only [Nat.zero_mul, Nat.add_zero] at c0 c1 c2
          have HJ2 : Hid (Hn.sorted (-1) (xs.map HA.h) = Hn.sorted (lastOf xs (0 + 1)) ((xs.drop (0 + 1)).map HA.h)) := by
            show Hn.sorted (-1) (xs.map HA.h) = _
            rw [HJ.out, HL.out, show lastOf xs 0 = -1 from rfl, decide_eq_true (by omega)]; rfl
          have HKK : Hid (_) := hK
          clear hj hbo HJ HL HC HLOW HF HS hao hK
          go_wp2
          refine wp_region_cls (BCls.val (w := w)) (by kernel_rfl) (by kernel_rfl) ⟨wr.drew, Below.drew hB⟩ rfl ?_
          repeat (go_big_quiet_step ((rename_i z; refine (RG.out z).mono ?_; rintro e w2 ⟨rfl, hb⟩; exact ⟨rfl, z.next hb⟩)))
          refine wpQuiet_nil ?_
          rintro _ ⟨z, rfl⟩
          clear c0 c1 c2
          go_wp2
          go_roundw
          case rel => exact ⟨0 + 1, by omega, by go_num, HJ2.out, HKK.out, z.below⟩
          case measure => simp [intOf]; omega
        | succ j =>
          obtain ⟨y, hy⟩ : ∃ y, xs[j]? = some y := ⟨xs[j]'(by omega), List.getElem?_eq_getElem (by omega)⟩
          obtain ⟨y1, y2⟩ := hbo j y rfl hy
          obtain ⟨g0, g1, -⟩ := haCells_get xs j y hy
          have d0 := HC.out _ _ g0
          have d1 := HC.out _ _ g1
          have ys := HS.out y (List.mem_of_getElem? hy)
          have hLL : lastOf xs (j + 1) = y.at_ + y.old.length := by simp only [lastOf, hy]
          rw [hLL] at HJ
          obtain ⟨⟨a3, k3, e3⟩, -⟩ := (HLOW.out y (List.mem_of_getElem? hy)).shape
          obtain ⟨q, uo, un, M1, M2⟩ := y
          simp only [HA.Small] at d0 d1 e3 y1 y2 HJ ys
          subst e3
          obtain ⟨s1, s2⟩ := ys
          have c3 : ∀ z : BCls w, z.val.cell? ⟨b, off + j * 3, none⟩ = some (.int .i64 q) := fun z => below_cell_some d0 z.below
          have c4 : ∀ z : BCls w, z.val.cell? ⟨b, off + j * 3 + 1, none⟩ = some (.slice a3 M1.length k3) := fun z => below_cell_some d1 z.below
          have hw : IntKind.i64.wrap (p - (M1.length : Int)) = p - M1.length := by rw [IntKind.wrap_i64]; omega
          have i3 : ((j + 1 : Nat) : Int) - 1 = (j : Int) := by omega
          have i5 : decide ((0 : Int) < ((j + 1 : Nat) : Int)) = true := by simp
          clear hy g0 g1 d0 d1 hLL
          by_cases hq : p - M1.length ≤ q
          · have q1 : decide (p - (M1.length : Int) ≤ q) = true := by simp; omega
            have HJ2 : Hid (Hn.sorted (-1) (xs.map HA.h) = false) := by
              show Hn.sorted (-1) (xs.map HA.h) = _
              rw [HJ.out, decide_eq_false (by omega)]; rfl
            clear hj hbo HJ HL HC HLOW HF HS hao hK
            go_wp2
            refine wp_region_cls (BCls.val (w := w)) (by kernel_rfl) (by kernel_rfl) ⟨wr.drew, Below.drew hB⟩ rfl ?_
            repeat (go_big_quiet_step ((rename_i z; refine (RG.out z).mono ?_; rintro e w2 ⟨rfl, hb⟩; exact ⟨rfl, z.next hb⟩)))
            refine wpQuiet_nil ?_
            rintro _ ⟨z, rfl⟩
            clear c0 c1 c2 c3 c4
            go_wp2
            go_ret
            exact ⟨ret_bool HJ2.out.symm, z.below⟩
          · have q1 : decide (p - (M1.length : Int) ≤ q) = false := by simp; omega
            have HJ2 : Hid (Hn.sorted (-1) (xs.map HA.h) = Hn.sorted (lastOf xs (j + 1 + 1)) ((xs.drop (j + 1 + 1)).map HA.h)) := by
              show Hn.sorted (-1) (xs.map HA.h) = _
              rw [HJ.out, HL.out, decide_eq_true (by omega)]; rfl
            have HKK : Hid (_) := hK
            clear hj hbo HJ HL HC HLOW HF HS hao hK
            go_wp2
            refine wp_region_cls (BCls.val (w := w)) (by kernel_rfl) (by kernel_rfl) ⟨wr.drew, Below.drew hB⟩ rfl ?_
            repeat (go_big_quiet_step ((rename_i z; refine (RG.out z).mono ?_; rintro e w2 ⟨rfl, hb⟩; exact ⟨rfl, z.next hb⟩)))
            refine wpQuiet_nil ?_
            rintro _ ⟨z, rfl⟩
            clear c0 c1 c2 c3 c4
            go_wp2
            go_roundw
            case rel => exact ⟨j + 1 + 1, by omega, by go_num, HJ2.out, HKK.out, z.below⟩
            case measure => simp [intOf]; omega
    · have hkl : k = xs.length := by omega
      have HJ : Hid (Hn.sorted (-1) (xs.map HA.h) = true) := by
        show Hn.sorted (-1) (xs.map HA.h) = _
        rw [hj, hkl, List.drop_length]; rfl
      clear hj hkl HC HLOW HF HS hao hbo
      go_wp2
      go_ret
      exact ⟨ret_bool HJ.out.symm, hB⟩

end Go.Proofs.Ytkiafelpgcmifaa

/-
  The walks of clerestorykit.OverTexts, OverHunk and OverHunks: what was lent is written over, and nothing else.
-/
namespace Go.Proofs.Ytkiafelpgcmifaa
open Go.RowKit Go.Shelf

attribute [local go_sem] Oper.semAt_some

/-- All blocks below B, and from N on, stay. -/
structure OverB (B N : Nat) (W W' : World) : Prop where
  os : W'.os = W.os
  tape : W'.tape = W.tape
  output : W'.output = W.output
  size : W.heap.size ≤ W'.heap.size
  block : ∀ j, j < W.heap.size → (j < B ∨ N ≤ j) → W'.heap[j]? = W.heap[j]?
theorem OverB.refl (B N : Nat) (W : World) : OverB B N W W := ⟨rfl, rfl, rfl, Nat.le_refl _, fun _ _ _ => rfl⟩
theorem OverB.trans {B N : Nat} {W X Y : World} (h : OverB B N W X) (k : OverB B N X Y) : OverB B N W Y :=
  ⟨k.os.trans h.os, k.tape.trans h.tape, k.output.trans h.output, Nat.le_trans h.size k.size, fun j hj hb => (k.block j (Nat.lt_of_lt_of_le hj h.size) hb).trans (h.block j hj hb)⟩
theorem OverB.of_below {B N : Nat} {W X : World} (h : Below W.heap.size W X) : OverB B N W X := ⟨h.os, h.tape, h.output, h.size, fun j hj _ => h.block j hj⟩
theorem OverB.of_grown {B N g : Nat} {W X : World} (h : W.grownBy X (some g)) (hB : B ≤ g) (hN : g < N) : OverB B N W X := ⟨h.os, h.tape, h.output, h.size, fun j hj hb => h.block j hj (fun e => by cases e; omega)⟩
/-- A row of its own, from N on, stays. -/
theorem OverB.owns {B N B' k size : Nat} {e : TypeId} {W X : World} (h : OverB B N W X) {v : Value} {xs : List Value} (ho : W.ownsRow B' e size v k xs) (hN : N ≤ B') : X.ownsRow B' e size v k xs := by
  refine ⟨ho.1, ?_⟩
  rcases ho.2 with h0 | ⟨g, cap, cur, hv, hb, hg, h3⟩
  · exact .inl h0
  · exact .inr ⟨g, cap, cur, hv, hb, (h.block g (Array.getElem?_eq_some_iff.1 hg).1 (.inr (by omega))).trans hg, h3⟩
theorem OverB.below {B N n : Nat} {w W X : World} (h : OverB B N W X) (hw : Below n w W) (hn : n ≤ B) (hs : n ≤ w.heap.size) : Below n w X :=
  ⟨h.os.trans hw.os, h.tape.trans hw.tape, h.output.trans hw.output, Nat.le_trans hw.size h.size, fun j hj => (h.block j (by have := hw.size; omega) (.inl (by omega))).trans (hw.block j hj)⟩

/-- And rows of texts stay rows of texts, of the same room; rows of others stay. -/
structure OverW (B N : Nat) (W W' : World) : Prop where
  b : OverB B N W W'
  txt : ∀ (j : Nat) (cur : Array Value), W.heap[j]? = some (.cells cur 9 (0, 0)) → ∃ cur' : Array Value, W'.heap[j]? = some (.cells cur' 9 (0, 0)) ∧ cur'.size = cur.size
  oth : ∀ (j : Nat) (c : Array Value) (t : TypeId) (fr : Nat × Nat), t ≠ 9 → W.heap[j]? = some (.cells c t fr) → W'.heap[j]? = some (.cells c t fr)
theorem OverW.trans {B N : Nat} {W X Y : World} (h : OverW B N W X) (k : OverW B N X Y) : OverW B N W Y :=
  ⟨h.b.trans k.b, fun j cur hj => by
    obtain ⟨c1, h1, h2⟩ := h.txt j cur hj
    obtain ⟨c2, h3, h4⟩ := k.txt j c1 h1
    exact ⟨c2, h3, h4.trans h2⟩, fun j c t fr ht hj => k.oth j c t fr ht (h.oth j c t fr ht hj)⟩
theorem OverW.of_below {B N : Nat} {W X : World} (h : Below W.heap.size W X) : OverW B N W X :=
  ⟨.of_below h, fun j cur hj => ⟨cur, (h.block j (Array.getElem?_eq_some_iff.1 hj).1).trans hj, rfl⟩, fun j _ _ _ _ hj => (h.block j (Array.getElem?_eq_some_iff.1 hj).1).trans hj⟩
/-- Room for texts. -/
def Room (B N : Nat) (W : World) (g n cap : Nat) : Prop := g < N ∧ ∃ xs, W.ownsRow B 9 1 (.slice (some ⟨g, 0, none⟩) n cap) n xs
theorem Room.over {B N g n cap : Nat} {W X : World} (h : Room B N W g n cap) (k : OverW B N W X) : Room B N X g n cap := by
  obtain ⟨hg, xs, h1, h2⟩ := h
  rcases h2 with ⟨h0, _⟩ | ⟨g', cap', cur, he, hb, hh, hn, hm, hs, ht⟩
  · cases h0
  · injection he with e1 e2 e3
    injection e1 with e1
    injection e1 with e1
    subst e1 e3
    obtain ⟨c2, h3, h4⟩ := k.txt _ _ hh
    refine ⟨hg, c2.toList.take (n * 1), ?_, .inr ⟨_, _, c2, rfl, hb, h3, hn, hm, h4.trans hs, rfl⟩⟩
    rw [List.length_take, Array.length_toList, h4, hs]; omega
theorem OverW.of_over {B N g n cap : Nat} {W X : World} {xs ys : List Value} (h : W.ownsRow B 9 1 (.slice (some ⟨g, 0, none⟩) n cap) n xs) (hg : W.grownBy X (some g)) (h' : X.ownsRow B 9 1 (.slice (some ⟨g, 0, none⟩) n cap) n ys) (hN : g < N) : OverW B N W X := by
  rcases h.2 with ⟨h0, _⟩ | ⟨g1, cap1, cur1, he, hb, hh, -, -, hs, -⟩
  · cases h0
  rcases h'.2 with ⟨h0, _⟩ | ⟨g2, cap2, cur2, he2, hb2, hh2, -, -, hs2, -⟩
  · cases h0
  injection he with e1 e2 e3
  injection e1 with e1
  injection e1 with e1
  injection he2 with f1 f2 f3
  injection f1 with f1
  injection f1 with f1
  subst e1 e3 f1 f3
  refine ⟨.of_grown hg hb hN, fun j cur hj => ?_, fun j c t fr ht hj => ?_⟩
  · by_cases hjg : j = g
    · subst hjg
      rw [hh] at hj
      injection hj with hj
      injection hj with hj
      subst hj
      exact ⟨cur2, hh2, hs2.trans hs.symm⟩
    · exact ⟨cur, (hg.block j (Array.getElem?_eq_some_iff.1 hj).1 (by simp [hjg])).trans hj, rfl⟩
  · by_cases hjg : j = g
    · subst hjg
      rw [hh] at hj
      injection hj with hj
      injection hj with _ hj
      exact absurd hj.symm ht
    · exact (hg.block j (Array.getElem?_eq_some_iff.1 hj).1 (by simp [hjg])).trans hj

theorem over_two (n g cap B N : Nat) (w : World) (hr : Room B N w g (n + 12) cap) (hn : n ≤ 5000) :
    Calls Try.prog 13 #[.slice (some ⟨g, 0, none⟩) n cap] w fun e w' => e = .returned (.tuple #[]) ∧ OverW B N w w' := by
  obtain ⟨hgN, xs, hall⟩ := hr
  have hcap : ((n : Int) + 12) ≤ (cap : Int) := by
    rcases hall.2 with ⟨h0, _⟩ | ⟨g', cap', cur, he, _, _, hnc, _⟩
    · cases h0
    · injection he with _ _ e3; omega
  have HALL : Hid (_) := hall
  go_enter Try.func13, Try.ntmps13
  go_wp2
  go_loopw [3] (fun i wr => ∃ (k : Nat) (ys : List Value), k ≤ n + 12 ∧ i = .int .i64 k ∧ wr.ownsRow B 9 1 (.slice (some ⟨g, 0, none⟩) (n + 12) cap) (n + 12) ys ∧ w.grownBy wr (some g)) (fun i _ => n + 12 - (intOf i).toNat)
  case atStart => exact ⟨0, xs, by omega, rfl, hall, ⟨rfl, rfl, rfl, Nat.le_refl _, fun _ _ _ => rfl⟩⟩
  case round =>
    obtain ⟨k, ys, hk, rfl, hown, hgr⟩ := hrel
    by_cases hlt : k < n + 12
    · obtain ⟨u0, cT⟩ := owns_cell hown k hlt
      have fT := hown.frozenAt k
      go_wp2_with (go_at_call 19; refine (markText_any 2 k _).mono ?_; rintro e wm ⟨rfl, hbm⟩; have hownm := owns_below hown hbm; obtain ⟨u1, cTm⟩ := owns_cell hownm k hlt; have fTm := hownm.frozenAt k)
      have hst := hownm.stored k (.string (Ln.bs (mkT 2 k)))
      go_roundw
      case rel =>
        exact ⟨k + 1, _, by omega, by go_num, hst.1, ⟨hst.2.os.trans (hbm.os.trans hgr.os), hst.2.tape.trans (hbm.tape.trans hgr.tape), hst.2.output.trans (hbm.output.trans hgr.output), Nat.le_trans hgr.size (Nat.le_trans hbm.size hst.2.size), fun j hj hne =>
          (hst.2.block j (Nat.lt_of_lt_of_le hj (Nat.le_trans hgr.size hbm.size)) hne).trans ((hbm.block j (Nat.lt_of_lt_of_le hj hgr.size)).trans (hgr.block j hj hne))⟩⟩
      case measure => simp [intOf]; omega
    · go_wp2
      go_end0
      exact ⟨rfl, OverW.of_over HALL.out hgr hown hgN⟩

set_option maxRecDepth 100000 in
set_option maxHeartbeats 4000000 in
theorem overHunk_any (p : Int) (g1 n1 c1 g2 n2 c2 B N : Nat) (w : World) (r1 : Room B N w g1 (n1 + 12) c1) (r2 : Room B N w g2 (n2 + 12) c2) (h1 : n1 ≤ 5000) (h2 : n2 ≤ 5000) :
    Calls Try.prog 29 #[.agg #[.int .i64 p, .slice (some ⟨g1, 0, none⟩) n1 c1, .slice (some ⟨g2, 0, none⟩) n2 c2]] w fun e w' => e = .returned (.tuple #[]) ∧ OverW B N w w' := by
  obtain ⟨X, hX⟩ : ∃ X, X = w.alloc (.cells #[.int .i64 p, .slice (some ⟨g1, 0, none⟩) n1 c1, .slice (some ⟨g2, 0, none⟩) n2 c2] 40) := ⟨_, rfl⟩
  have bX : OverW B N w X := .of_below (by rw [hX]; exact below_nw w _)
  have hx : X.heap[w.heap.size]? = some (.cells #[.int .i64 p, .slice (some ⟨g1, 0, none⟩) n1 c1, .slice (some ⟨g2, 0, none⟩) n2 c2] 40 (0, 0)) := by rw [hX]; exact World.alloc_heap_new w _
  have x1 : X.cell? ⟨w.heap.size, 1, none⟩ = some (.slice (some ⟨g1, 0, none⟩) n1 c1) := by rw [Lib.cell_of_heap hx]; rfl
  have O1 : Hid (_) := over_two n1 g1 c1 B N X (r1.over bX) h1
  have HX : Hid (_) := hx
  have R2 : Hid (_) := r2.over bX
  have BX : Hid (OverW B N w X) := bX
  clear r1 r2 hx bX
  go_enter Try.func29, Try.ntmps29
  go_wp2_with fail
  rw [← hX]
  clear hX x1
  refine Calls.mono O1.out ?_
  rintro e w1 ⟨rfl, k1⟩
  have y := k1.oth _ _ _ _ (by decide) HX.out
  have y2 : w1.cell? ⟨w.heap.size, 2, none⟩ = some (.slice (some ⟨g2, 0, none⟩) n2 c2) := by rw [Lib.cell_of_heap y]; rfl
  have O2 : Hid (_) := over_two n2 g2 c2 B N w1 (Room.over R2.out k1) h2
  have K1 : Hid (OverW B N w w1) := BX.out.trans k1
  clear O1 HX R2 BX k1 y
  go_wp2_with fail
  refine Calls.mono O2.out ?_
  rintro e w2 ⟨rfl, k2⟩
  have K2 : Hid (OverW B N w w2) := K1.out.trans k2
  clear O2 K1 k2
  go_wp2
  go_end0
  exact ⟨rfl, K2.out⟩

/-- A hunk with room for texts. -/
def HRoom (B N : Nat) (W : World) (y : HA) : Prop := (∃ g c, y.vo = .slice (some ⟨g, 0, none⟩) y.old.length c ∧ Room B N W g (y.old.length + 12) c) ∧ ∃ g c, y.vn = .slice (some ⟨g, 0, none⟩) y.new.length c ∧ Room B N W g (y.new.length + 12) c
theorem hroom_of {B N : Nat} {W : World} {x y : HA} (h : LentOf B W x y) (hN : W.heap.size ≤ N) : HRoom B N W y := by
  obtain ⟨-, ⟨g1, c1, e1, o1⟩, ⟨g2, c2, e2, o2⟩⟩ := h
  exact ⟨⟨g1, c1, e1, Nat.lt_of_lt_of_le (o1.lt g1 rfl).2 hN, _, o1⟩, ⟨g2, c2, e2, Nat.lt_of_lt_of_le (o2.lt g2 rfl).2 hN, _, o2⟩⟩
/-- Three cells of a row of hunks, one after another. -/
theorem hrow_three {B g n cap k : Nat} {W : World} {xs : List Value} (h : W.ownsRow B 40 3 (.slice (some ⟨g, 0, none⟩) n cap) n xs) (hk : k < n) (u0 u1 u2 : Value) :
    (∃ a b c, W.cell? ⟨g, k * 3, none⟩ = some a ∧ (W.setCell ⟨g, k * 3, none⟩ u0).cell? ⟨g, k * 3 + 1, none⟩ = some b ∧ ((W.setCell ⟨g, k * 3, none⟩ u0).setCell ⟨g, k * 3 + 1, none⟩ u1).cell? ⟨g, k * 3 + 2, none⟩ = some c) ∧ (∀ j, W.frozen? ⟨g, j, none⟩ = false) ∧
    (∃ ys, (((W.setCell ⟨g, k * 3, none⟩ u0).setCell ⟨g, k * 3 + 1, none⟩ u1).setCell ⟨g, k * 3 + 2, none⟩ u2).ownsRow B 40 3 (.slice (some ⟨g, 0, none⟩) n cap) n ys) ∧ W.grownBy (((W.setCell ⟨g, k * 3, none⟩ u0).setCell ⟨g, k * 3 + 1, none⟩ u1).setCell ⟨g, k * 3 + 2, none⟩ u2) (some g) := by
  have key : ∀ {X : World} {zs : List Value}, X.ownsRow B 40 3 (.slice (some ⟨g, 0, none⟩) n cap) n zs → ∀ j, j < n * 3 → ∃ a, X.cell? ⟨g, j, none⟩ = some a := fun hX j hj => by
    have h1 := hX.1
    have h2 := hX.cellAt j hj
    rw [List.getElem?_eq_getElem (by omega)] at h2
    exact ⟨_, h2⟩
  have s1 := h.stored (k * 3) u0
  have s2 := s1.1.stored (k * 3 + 1) u1
  have s3 := s2.1.stored (k * 3 + 2) u2
  obtain ⟨a, ha⟩ := key h (k * 3) (by omega)
  obtain ⟨b, hb⟩ := key s1.1 (k * 3 + 1) (by omega)
  obtain ⟨c, hc⟩ := key s2.1 (k * 3 + 2) (by omega)
  have g12 : ∀ {X Y Z : World}, X.grownBy Y (some g) → Y.grownBy Z (some g) → X.grownBy Z (some g) := fun p q => ⟨q.os.trans p.os, q.tape.trans p.tape, q.output.trans p.output, Nat.le_trans p.size q.size, fun j hj hne => (q.block j (Nat.lt_of_lt_of_le hj p.size) hne).trans (p.block j hj hne)⟩
  exact ⟨⟨a, b, c, ha, hb, hc⟩, fun j => h.frozenAt j, ⟨_, s3.1⟩, g12 (g12 s1.2 s2.2) s3.2⟩

set_option maxRecDepth 100000 in
set_option maxHeartbeats 4000000 in
theorem overHunks_any (ys : List HA) (g cap B N : Nat) (w : World) (hown : w.ownsRow B 40 3 (.slice (some ⟨g, 0, none⟩) (ys.length + 12) cap) (ys.length + 12) (haCells ys ++ mks mcH 1 12)) (hgN : g < N) (hr : ∀ y ∈ ys, HRoom B N w y) (hl : ys.length ≤ 4000) (hs : ∀ y ∈ ys, y.old.length ≤ 5000 ∧ y.new.length ≤ 5000) :
    Calls Try.prog 14 #[.slice (some ⟨g, 0, none⟩) ys.length cap] w fun e w' => e = .returned (.tuple #[]) ∧ OverB B N w w' := by
  have hcap : ((ys.length : Int) + 12) ≤ (cap : Int) := by
    rcases hown.2 with ⟨h0, _⟩ | ⟨g', cap', cur, he, _, _, hnc, _⟩
    · cases h0
    · injection he with _ _ e3; omega
  have hBg : B ≤ g := (hown.lt g rfl).1
  have HOK : Hid (∀ W, OverW B N w W → W.ownsRow B 40 3 (.slice (some ⟨g, 0, none⟩) (ys.length + 12) cap) (ys.length + 12) (haCells ys ++ mks mcH 1 12)) := fun W hW => by
    refine ⟨hown.1, ?_⟩
    rcases hown.2 with h0 | ⟨g', cap', cur, hv, hb, hg, h3⟩
    · exact .inl h0
    · exact .inr ⟨g', cap', cur, hv, hb, hW.oth _ _ _ _ (by decide) hg, h3⟩
  have HY : Hid (∀ W, OverW B N w W → ∀ (k : Nat) (y : HA), ys[k]? = some y → W.cell? ⟨g, k * 3, none⟩ = some (.int .i64 y.at_) ∧ W.cell? ⟨g, k * 3 + 1, none⟩ = some y.vo ∧ W.cell? ⟨g, k * 3 + 2, none⟩ = some y.vn) := fun W hW k y hy => by
    have hk := (List.getElem?_eq_some_iff.1 hy).1
    have hn := haCells_len' ys
    obtain ⟨g0, g1, g2⟩ := haCells_get ys k y hy
    have ho := HOK.out W hW
    refine ⟨(ho.cellAt _ (by omega)).trans ?_, (ho.cellAt _ (by omega)).trans ?_, (ho.cellAt _ (by omega)).trans ?_⟩
    · rw [List.getElem?_append_left (by omega)]; exact g0
    · rw [List.getElem?_append_left (by omega)]; exact g1
    · rw [List.getElem?_append_left (by omega)]; exact g2
  have HR : Hid (∀ y ∈ ys, HRoom B N w y) := hr
  have HS : Hid (_) := hs
  clear hown hr hs
  go_enter Try.func14, Try.ntmps14
  go_wp2
  go_loopw [2] (fun i wr => ∃ (k : Nat), k ≤ ys.length ∧ i = .int .i64 k ∧ OverW B N w wr) (fun i _ => ys.length - (intOf i).toNat)
  case atStart => exact ⟨0, by omega, rfl, OverW.of_below (Below.refl _ _)⟩
  case round =>
    obtain ⟨k, hk, rfl, hW⟩ := hrel
    by_cases hlt : k < ys.length
    · obtain ⟨y, hy⟩ : ∃ y, ys[k]? = some y := ⟨ys[k], List.getElem?_eq_getElem hlt⟩
      obtain ⟨c0, c1, c2⟩ := HY.out wr hW k y hy
      have hm := List.mem_of_getElem? hy
      obtain ⟨⟨g1, k1, e1, r1⟩, ⟨g2, k2, e2, r2⟩⟩ := HR.out y hm
      obtain ⟨l1, l2⟩ := HS.out y hm
      obtain ⟨p, vo, vn, L1, L2⟩ := y
      simp only at c0 c1 c2 e1 e2 r1 r2 l1 l2
      subst e1 e2
      have OH : Hid (_) := overHunk_any p g1 L1.length k1 g2 L2.length k2 B N wr (r1.over hW) (r2.over hW) l1 l2
      have HW : Hid (OverW B N w wr) := hW
      clear hy hm r1 r2 hW l1 l2
      go_wp2_with fail
      refine Calls.mono OH.out ?_
      rintro e w1 ⟨rfl, k1⟩
      have FIN : Hid (OverW B N w w1) := HW.out.trans k1
      clear OH HW k1
      go_wp2
      go_roundw
      case rel => exact ⟨k + 1, by omega, by go_num, FIN.out⟩
      case measure => simp [intOf]; omega
    · have hkl : k = ys.length := by omega
      have OWN : Hid (_) := HOK.out wr hW
      have HB : Hid (OverB B N w wr) := hW.b
      clear hW HY HR HS HOK hkl
      go_wp2
      go_loopw [4] (fun i W => ∃ (j : Nat) (zs : List Value), j ≤ ys.length + 12 ∧ i = .int .i64 j ∧ W.ownsRow B 40 3 (.slice (some ⟨g, 0, none⟩) (ys.length + 12) cap) (ys.length + 12) zs ∧ OverB B N w W) (fun i _ => ys.length + 12 - (intOf i).toNat)
      case atStart => exact ⟨0, _, by omega, rfl, OWN.out, HB.out⟩
      case round =>
        clear OWN HB
        obtain ⟨j, zs, hj, rfl, hown, hB⟩ := hrel
        by_cases hlt2 : j < ys.length + 12
        · have MK : Hid (_) := markHunk_any 2 j (by omega) (by omega) wr
          have OWN : Hid (_) := hown
          have HB : Hid (OverB B N w wr) := hB
          obtain ⟨⟨a0, b0, c0, ha0, hb0, hc0⟩, hf0, -, -⟩ := hrow_three hown hlt2 (.int .i64 0) (.slice none 0 0) (.slice none 0 0)
          clear hown hB hb0 hc0
          go_wp2_with fail
          refine Calls.mono MK.out ?_
          rintro e w1 ⟨rfl, b1⟩
          obtain ⟨⟨a, b, c, ha, hb, hc⟩, hf, ⟨zs', hz⟩, hgr⟩ := hrow_three (owns_below OWN.out b1) hlt2 (.int .i64 (mn 2 j : Nat)) (.slice none 0 0) (.slice none 0 0)
          have FIN : Hid (_ ∧ _) := ⟨hz, (HB.out.trans (.of_below b1)).trans (.of_grown hgr hBg hgN)⟩
          clear MK OWN HB b1 hz hgr ha0 hf0
          go_wp2
          go_roundw
          case rel => exact ⟨j + 1, _, by omega, by go_num, FIN.out.1, FIN.out.2⟩
          case measure => simp [intOf]; omega
        · have HB : Hid (OverB B N w wr) := hB
          clear hown hB
          go_wp2
          go_end0
          exact ⟨rfl, HB.out⟩

end Go.Proofs.Ytkiafelpgcmifaa
