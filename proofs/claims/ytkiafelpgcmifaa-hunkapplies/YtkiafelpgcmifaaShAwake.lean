/-
  The walk of the law's awake (chapter 4): the chapter's examples.
-/
import Derived.Test.YtkiafelpgcmifaaShOf
namespace Go.Proofs.Ytkiafelpgcmifaa
open Go.RowKit Go.Shelf

attribute [local go_sem] Oper.semAt_some

theorem HA.Low.at {A B : World} {x : HA} (h : x.Low A.heap.size A) (hb : Below A.heap.size A B) : x.Low B.heap.size B := (h.below hb (Nat.le_refl _)).mono hb.size
theorem fine_mk {p : Int} {vo vn : Value} {l t : List (List UInt8)} (hp : -1000 ≤ p ∧ p ≤ 1000) (h1 : few l = true) (h2 : few t = true) : HA.Fine ⟨p, vo, vn, l, t⟩ := by
  obtain ⟨k1, t1⟩ := few_spec h1
  obtain ⟨k2, t2⟩ := few_spec h2
  exact ⟨⟨by show l.length ≤ _; omega, by show t.length ≤ _; omega⟩, ⟨fun s hs => by have := t1 s hs; omega, fun s hs => by have := t2 s hs; omega⟩, ⟨⟨by show _ ≤ p; omega, by show p ≤ _; omega⟩, ⟨by show l.length ≤ _; omega, by show t.length ≤ _; omega⟩, fun s hs => by have := t1 s hs; omega, fun s hs => by have := t2 s hs; omega⟩⟩
theorem low_shape {W : World} {m : Nat} {x : HA} (h : x.Low m W) (n1 n2 : Nat) (h1 : x.old.length = n1) (h2 : x.new.length = n2) : ∃ a1 c1 a2 c2, x = ⟨x.at_, .slice a1 n1 c1, .slice a2 n2 c2, x.old, x.new⟩ := by
  obtain ⟨⟨a1, k1, e1⟩, ⟨a2, k2, e2⟩⟩ := h.shape
  refine ⟨a1, k1, a2, k2, ?_⟩
  rw [← h1, ← h2, ← e1, ← e2]
/-- What is told without an error, its lengths said. -/
theorem ShPost.ok {w w' : World} {e : Ending} {r : Except Nat (Hn.H × Hn.H)} {p q : Int} {l1 l2 l3 l4 : List (List UInt8)} (h : ShPost r w e w') (hr : r = .ok (⟨p, l1, l2⟩, ⟨q, l3, l4⟩)) (n1 n2 n3 n4 : Nat) (h1 : l1.length = n1) (h2 : l2.length = n2) (h3 : l3.length = n3) (h4 : l4.length = n4) :
    ∃ a1 c1 a2 c2 a3 c3 a4 c4, e = .returned (.tuple #[.agg #[.int .i64 p, .slice a1 n1 c1, .slice a2 n2 c2], .agg #[.int .i64 q, .slice a3 n3 c3, .slice a4 n4 c4], .int .i64 0]) ∧ HA.Ok w.heap.size ⟨p, .slice a1 n1 c1, .slice a2 n2 c2, l1, l2⟩ w' ∧ HA.Ok w.heap.size ⟨q, .slice a3 n3 c3, .slice a4 n4 c4, l3, l4⟩ w' ∧ (bla [⟨p, .slice a1 n1 c1, .slice a2 n2 c2, l1, l2⟩, ⟨q, .slice a3 n3 c3, .slice a4 n4 c4, l3, l4⟩]).Nodup ∧ Below w.heap.size w w' := by
  obtain ⟨A, B, c, rfl, hres, okA, okB, nd, b⟩ := h
  subst hr
  obtain ⟨ap, ao, an, A1, A2⟩ := A
  obtain ⟨bp, bo, bn, B1, B2⟩ := B
  simp only [shRes, HA.h, Prod.mk.injEq, Hn.H.mk.injEq] at hres
  obtain ⟨⟨rfl, rfl, rfl⟩, ⟨rfl, rfl, rfl⟩, rfl⟩ := hres
  obtain ⟨a1, c1, a2, c2, e1⟩ := low_shape okA.low n1 n2 h1 h2
  obtain ⟨a3, c3, a4, c4, e2⟩ := low_shape okB.low n3 n4 h3 h4
  simp only [HA.mk.injEq] at e1 e2
  obtain ⟨-, rfl, rfl, -⟩ := e1
  obtain ⟨-, rfl, rfl, -⟩ := e2
  exact ⟨a1, c1, a2, c2, a3, c3, a4, c4, rfl, okA, okB, nd, b⟩
theorem ShPost.err {w w' : World} {e : Ending} {r : Except Nat (Hn.H × Hn.H)} {c : Nat} (h : ShPost r w e w') (hr : r = .error c) :
    ∃ a1 c1 a2 c2 a3 c3 a4 c4, e = .returned (.tuple #[.agg #[.int .i64 0, .slice a1 0 c1, .slice a2 0 c2], .agg #[.int .i64 0, .slice a3 0 c3, .slice a4 0 c4], .int .i64 c]) ∧ Below w.heap.size w w' := by
  obtain ⟨A, B, c', rfl, hres, okA, okB, nd, b⟩ := h
  subst hr
  obtain ⟨ap, ao, an, A1, A2⟩ := A
  obtain ⟨bp, bo, bn, B1, B2⟩ := B
  simp only [shRes, HA.h, Prod.mk.injEq, Hn.H.mk.injEq] at hres
  obtain ⟨⟨rfl, rfl, rfl⟩, ⟨rfl, rfl, rfl⟩, rfl⟩ := hres
  obtain ⟨a1, c1, a2, c2, e1⟩ := low_shape okA.low 0 0 rfl rfl
  obtain ⟨a3, c3, a4, c4, e2⟩ := low_shape okB.low 0 0 rfl rfl
  simp only [HA.mk.injEq] at e1 e2
  obtain ⟨-, rfl, rfl, -⟩ := e1
  obtain ⟨-, rfl, rfl, -⟩ := e2
  exact ⟨a1, c1, a2, c2, a3, c3, a4, c4, rfl, b⟩

theorem cx1 : Hn.commute ⟨1, ones [98], ones [120, 121]⟩ ⟨4, ones [100], ones [122]⟩ = .ok (⟨3, ones [100], ones [122]⟩, ⟨1, ones [98], ones [120, 121]⟩) := by rfl
theorem cx2 : Hn.commute ⟨1, ones [98], ones [120, 121]⟩ ⟨3, ones [99], ones [122]⟩ = .error 130 := by rfl
theorem cx3 : Hn.commute ⟨3, ones [100], ones [120]⟩ ⟨0, ones [97], ones []⟩ = .ok (⟨0, ones [97], ones []⟩, ⟨2, ones [100], ones [120]⟩) := by rfl
theorem cx4 : Hn.merge ⟨1, ones [98], ones [120, 121]⟩ ⟨3, ones [100], ones [122]⟩ = .ok (⟨1, ones [98], ones [120, 121]⟩, ⟨4, ones [100], ones [122]⟩) := by rfl

end Go.Proofs.Ytkiafelpgcmifaa
