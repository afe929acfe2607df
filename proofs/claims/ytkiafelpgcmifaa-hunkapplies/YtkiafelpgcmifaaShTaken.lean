/-
  The walk of shift.taken: what two hunks are by the way that is open.
-/
import Derived.Test.YtkiafelpgcmifaaShOpen
namespace Go.Proofs.Ytkiafelpgcmifaa
open Go.RowKit Go.Shelf

attribute [local go_sem] Oper.semAt_some

/-- What is told: two hunks and no error, or none and an error's number. -/
def shRes (r : Except Nat (Hn.H × Hn.H)) : Hn.H × Hn.H × Nat :=
  match r with
  | .error c => (⟨0, [], []⟩, ⟨0, [], []⟩, c)
  | .ok (a, b) => (a, b, 0)
/-- Two hunks that are told, in memory of their own. -/
def ShPost (r : Except Nat (Hn.H × Hn.H)) (w : World) (e : Ending) (w' : World) : Prop :=
  ∃ (A B : HA) (c : Nat), e = .returned (.tuple #[A.val, B.val, .int .i64 c]) ∧ (A.h, B.h, c) = shRes r ∧ A.Ok w.heap.size w' ∧ B.Ok w.heap.size w' ∧ (bla [A, B]).Nodup ∧ Below w.heap.size w w'
/-- The zero hunk. -/
def zeroHA : HA := ⟨0, .slice none 0 0, .slice none 0 0, [], []⟩
theorem zeroHA_ok (B : Nat) (w : World) : zeroHA.Ok B w := ⟨World.ownsRow_nil _ _ _ _, World.ownsRow_nil _ _ _ _⟩
/-- What a way leads to. -/
def wayTo (a b : Hn.H) : Except Nat (Hn.H × Hn.H) := Hn.told a b
theorem bla_two (A B : HA) : bla [A, B] = bla [A] ++ bla [B] := by
  unfold bla
  rw [← List.filterMap_append]; rfl
theorem bla_ok {A : HA} {B : Nat} {w : World} (h : A.Ok B w) : ∀ b ∈ bla [A], B ≤ b ∧ b < w.heap.size := by
  intro b hb
  simp only [bla, List.flatMap_cons, List.flatMap_nil, List.append_nil] at hb
  obtain ⟨v, hv, hb⟩ := List.mem_filterMap.1 hb
  simp only [List.mem_cons, List.not_mem_nil, or_false] at hv
  rcases hv with rfl | rfl
  · exact h.1.lt b hb
  · exact h.2.lt b hb
/-- A hunk's variable, written with what it holds. -/
theorem hbox_same {W : World} {b : Nat} {x : HA} (h : HBox W b x) : HBox (((W.setCell ⟨b, 0, none⟩ (.int .i64 x.at_)).setCell ⟨b, 1, none⟩ x.vo).setCell ⟨b, 2, none⟩ x.vn) b x := three_cells h _ _ _
/-- A hunk's variable, written. -/
theorem hbox_put {W : World} {b : Nat} {x : HA} (h : HBox W b x) (y : HA) : ∃ Z, Z = ((W.setCell ⟨b, 0, none⟩ (.int .i64 y.at_)).setCell ⟨b, 1, none⟩ y.vo).setCell ⟨b, 2, none⟩ y.vn ∧ HBox Z b y ∧ W.grownBy Z (some b) ∧ ∀ (B n : Nat) (v : Value) (xs : List Value), W.ownsRow B 9 1 v n xs → Z.ownsRow B 9 1 v n xs := set_three h _ _ _
theorem hbox_facts {W : World} {b : Nat} {x : HA} (h : HBox W b x) (u0 u1 : Value) : W.cell? ⟨b, 0, none⟩ = some (.int .i64 x.at_) ∧ (W.setCell ⟨b, 0, none⟩ u0).cell? ⟨b, 1, none⟩ = some x.vo ∧ ((W.setCell ⟨b, 0, none⟩ u0).setCell ⟨b, 1, none⟩ u1).cell? ⟨b, 2, none⟩ = some x.vn ∧ ∀ j, W.frozen? ⟨b, j, none⟩ = false := by
  have h1 := heap_setCell_same W b 0 _ 40 u0 h
  have h2 := heap_setCell_same _ b 1 _ 40 u1 h1
  refine ⟨?_, ?_, ?_, fun j => frozen_of_row W b j _ _ h⟩
  · rw [Lib.cell_of_heap h]; rfl
  · rw [Lib.cell_of_heap h1]; rfl
  · rw [Lib.cell_of_heap h2]; rfl

/-- It can be moved so. -/
def HA.Good (x : HA) (d : Int) : Prop := x.Small ∧ x.Thin ∧ (-9223372036854775808 ≤ x.at_ + d ∧ x.at_ + d ≤ 9223372036854775807) ∧ x.Fits

theorem HBox.grown {W W' : World} {b c : Nat} {x : HA} (h : HBox W b x) (hg : W.grownBy W' (some c)) (hne : b ≠ c) : HBox W' b x := (hg.block b (Array.getElem?_eq_some_iff.1 h).1 (by simp [hne])).trans h
theorem below_grown {n c : Nat} {w W W' : World} (h : Below n w W) (hg : W.grownBy W' (some c)) (hc : n ≤ c) (hn : n ≤ W.heap.size) : Below n w W' := h.trans ⟨hg.os, hg.tape, hg.output, hg.size, fun j hj => hg.block j (by omega) (fun e => by cases e; omega)⟩
/-- Two hunks in a row of their own. -/
theorem haLow_two (w : World) (x y : HA) (hx : x.Low w.heap.size w) (hy : y.Low w.heap.size w) :
    HaLow (w.alloc (.cells #[.int .i64 x.at_, x.vo, x.vn, .int .i64 y.at_, y.vo, y.vn] 40)).heap.size (w.alloc (.cells #[.int .i64 x.at_, x.vo, x.vn, .int .i64 y.at_, y.vo, y.vn] 40)) (.slice (some ⟨w.heap.size, 0, none⟩) 2 2) [x, y] := by
  refine ⟨CellsLow.lit w [.int .i64 x.at_, x.vo, x.vn, .int .i64 y.at_, y.vo, y.vn] 40 2, fun z hz => ?_⟩
  have hb := below_nw w (.cells #[.int .i64 x.at_, x.vo, x.vn, .int .i64 y.at_, y.vo, y.vn] 40)
  simp only [List.mem_cons, List.not_mem_nil, or_false] at hz
  rcases hz with rfl | rfl
  · exact (hx.below hb (Nat.le_refl _)).mono hb.size
  · exact (hy.below hb (Nat.le_refl _)).mono hb.size
theorem fits_moved {x y : HA} {d : Int} (h : y.h = Hn.moved x.h d) (g : x.Good d) : y.Fits := by
  obtain ⟨p, vo, vn, L1, L2⟩ := x
  obtain ⟨p', vo', vn', M1, M2⟩ := y
  simp only [HA.h, Hn.moved, Hn.H.mk.injEq] at h
  obtain ⟨rfl, rfl, rfl⟩ := h
  obtain ⟨⟨s1, s2⟩, ⟨t1, t2⟩, ⟨d1, d2⟩, -⟩ := g
  simp only at s1 s2 t1 t2 d1 d2
  exact ⟨⟨d1, d2⟩, ⟨by show M1.length ≤ _; omega, by show M2.length ≤ _; omega⟩, fun s hs => by have := t1 s hs; omega, fun s hs => by have := t2 s hs; omega⟩
theorem wrongs_two (x y : HA) : wrongs [x, y] = !(Hn.right x.h && Hn.right y.h) := by simp [wrongs]

end Go.Proofs.Ytkiafelpgcmifaa
