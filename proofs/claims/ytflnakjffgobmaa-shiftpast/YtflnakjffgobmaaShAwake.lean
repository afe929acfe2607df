/-
  The walk of the law's awake (chapter 4): the chapter's examples.
-/
import Derived.Test.YtflnakjffgobmaaShOf
namespace Go.Proofs.Ytflnakjffgobmaa
open Go.RowKit Go.Shelf

attribute [local go_sem] Oper.semAt_some

theorem HA.Low.at {A B : World} {x : HA} (h : x.Low A.heap.size A) (hb : Below A.heap.size A B) : x.Low B.heap.size B := (h.below hb (Nat.le_refl _)).mono hb.size
theorem fine_mk {p : Int} {vo vn : Value} {l t : List (List UInt8)} (hp : -1000 ≤ p ∧ p ≤ 1000) (h1 : few l = true) (h2 : few t = true) : HA.Fine ⟨p, vo, vn, l, t⟩ := by
  obtain ⟨k1, t1⟩ := few_spec h1
  obtain ⟨k2, t2⟩ := few_spec h2
  exact ⟨⟨by show l.length ≤ _; omega, by show t.length ≤ _; omega⟩, ⟨fun s hs => by have := t1 s hs; omega, fun s hs => by have := t2 s hs; omega⟩, ⟨⟨by show _ ≤ p; omega, by show p ≤ _; omega⟩, ⟨by show l.length ≤ _; omega, by show t.length ≤ _; omega⟩, fun s hs => by have := t1 s hs; omega, fun s hs => by have := t2 s hs; omega⟩⟩
theorem low_shape {W : World} {m : Nat} {x : HA} (h : x.Low m W) (n1 n2 : Nat) (h1 : x.old.length = n1) (h2 : x.new.length = n2) : ∃ a1 c1 a2 c2, x = ⟨x.at_, .slice a1 n1 c1, .slice a2 n2 c2, x.old, x.new⟩ := by
  obtain ⟨⟨a1, k1, e1⟩, ⟨a2, k2, e2⟩⟩ := h.shape
  refine ⟨a1, k1, a2, k2, ?_⟩
  rw [← h1, ← h2, ← e1, ← e2]
/-- A hunk of lines of one byte each, its lengths said. -/
theorem of_at (p : Int) (l t : List UInt8) (n1 n2 : Nat) (h1 : l.length = n1) (h2 : t.length = n2) (k1 : n1 ≤ 1000) (k2 : n2 ≤ 1000) (w : World) :
    Calls Try.prog 49 #[.int .i64 p, .string (Ln.bs l), .string (Ln.bs t)] w fun e w' => ∃ a1 c1 a2 c2, e = .returned (.agg #[.int .i64 p, .slice a1 n1 c1, .slice a2 n2 c2]) ∧ HA.Low w'.heap.size w' ⟨p, .slice a1 n1 c1, .slice a2 n2 c2, ones l, ones t⟩ ∧ Below w.heap.size w w' := by
  refine (of_any p l t w (by omega) (by omega)).mono ?_
  rintro e w' ⟨x, rfl, hx, lx, b⟩
  obtain ⟨xp, xo, xn, X1, X2⟩ := x
  simp only [HA.h, Hn.H.mk.injEq] at hx
  obtain ⟨rfl, rfl, rfl⟩ := hx
  obtain ⟨a1, c1, a2, c2, e1⟩ := low_shape lx n1 n2 (by simp [ones, h1]) (by simp [ones, h2])
  simp only [HA.mk.injEq] at e1
  obtain ⟨-, rfl, rfl, -⟩ := e1
  exact ⟨a1, c1, a2, c2, rfl, lx, b⟩
/-- What is told without an error, its lengths said. -/
theorem ShPost.ok {w w' : World} {e : Ending} {r : Except Nat (Hn.H × Hn.H)} {p q : Int} {l1 l2 l3 l4 : List (List UInt8)} (h : ShPost r w e w') (hr : r = .ok (⟨p, l1, l2⟩, ⟨q, l3, l4⟩)) (n1 n2 n3 n4 : Nat) (h1 : l1.length = n1) (h2 : l2.length = n2) (h3 : l3.length = n3) (h4 : l4.length = n4) :
    ∃ a1 c1 a2 c2 a3 c3 a4 c4, e = .returned (.tuple #[.agg #[.int .i64 p, .slice a1 n1 c1, .slice a2 n2 c2], .agg #[.int .i64 q, .slice a3 n3 c3, .slice a4 n4 c4], .int .i64 0]) ∧ HA.Ok w.heap.size ⟨p, .slice a1 n1 c1, .slice a2 n2 c2, l1, l2⟩ w' ∧ HA.Ok w.heap.size ⟨q, .slice a3 n3 c3, .slice a4 n4 c4, l3, l4⟩ w' ∧ (bla [⟨p, .slice a1 n1 c1, .slice a2 n2 c2, l1, l2⟩, ⟨q, .slice a3 n3 c3, .slice a4 n4 c4, l3, l4⟩]).Nodup ∧ Below w.heap.size w w' := by
  obtain ⟨A, B, c, rfl, hres, okA, okB, nd, b⟩ := h
  subst hr
  obtain ⟨ap, ao, an, A1, A2⟩ := A
  obtain ⟨bp, bo, bn, B1, B2⟩ := B
  simp only [shRes, HA.h, Prod.mk.injEq, Hn.H.mk.injEq] at hres
  obtain ⟨⟨rfl, rfl, rfl⟩, ⟨rfl, rfl, rfl⟩, rfl⟩ := hres
  obtain ⟨a1, c1, a2, c2, e1⟩ := low_shape okA.low n1 n2 h1 h2
  obtain ⟨a3, c3, a4, c4, e2⟩ := low_shape okB.low n3 n4 h3 h4
  simp only [HA.mk.injEq] at e1 e2
  obtain ⟨-, rfl, rfl, -⟩ := e1
  obtain ⟨-, rfl, rfl, -⟩ := e2
  exact ⟨a1, c1, a2, c2, a3, c3, a4, c4, rfl, okA, okB, nd, b⟩
theorem ShPost.err {w w' : World} {e : Ending} {r : Except Nat (Hn.H × Hn.H)} {c : Nat} (h : ShPost r w e w') (hr : r = .error c) :
    ∃ a1 c1 a2 c2 a3 c3 a4 c4, e = .returned (.tuple #[.agg #[.int .i64 0, .slice a1 0 c1, .slice a2 0 c2], .agg #[.int .i64 0, .slice a3 0 c3, .slice a4 0 c4], .int .i64 c]) ∧ Below w.heap.size w w' := by
  obtain ⟨A, B, c', rfl, hres, okA, okB, nd, b⟩ := h
  subst hr
  obtain ⟨ap, ao, an, A1, A2⟩ := A
  obtain ⟨bp, bo, bn, B1, B2⟩ := B
  simp only [shRes, HA.h, Prod.mk.injEq, Hn.H.mk.injEq] at hres
  obtain ⟨⟨rfl, rfl, rfl⟩, ⟨rfl, rfl, rfl⟩, rfl⟩ := hres
  obtain ⟨a1, c1, a2, c2, e1⟩ := low_shape okA.low 0 0 rfl rfl
  obtain ⟨a3, c3, a4, c4, e2⟩ := low_shape okB.low 0 0 rfl rfl
  simp only [HA.mk.injEq] at e1 e2
  obtain ⟨-, rfl, rfl, -⟩ := e1
  obtain ⟨-, rfl, rfl, -⟩ := e2
  exact ⟨a1, c1, a2, c2, a3, c3, a4, c4, rfl, b⟩

theorem cx1 : Hn.commute ⟨1, ones [98], ones [120, 121]⟩ ⟨4, ones [100], ones [122]⟩ = .ok (⟨3, ones [100], ones [122]⟩, ⟨1, ones [98], ones [120, 121]⟩) := by rfl
theorem cx2 : Hn.commute ⟨1, ones [98], ones [120, 121]⟩ ⟨3, ones [99], ones [122]⟩ = .error 130 := by rfl
theorem cx3 : Hn.commute ⟨3, ones [100], ones [120]⟩ ⟨0, ones [97], ones []⟩ = .ok (⟨0, ones [97], ones []⟩, ⟨2, ones [100], ones [120]⟩) := by rfl
theorem cx4 : Hn.merge ⟨1, ones [98], ones [120, 121]⟩ ⟨3, ones [100], ones [122]⟩ = .ok (⟨1, ones [98], ones [120, 121]⟩, ⟨4, ones [100], ones [122]⟩) := by rfl

set_option maxRecDepth 100000 in
set_option maxHeartbeats 16000000 in
theorem sawake_any (w : World) : Calls Try.prog 26 #[] w fun e w' => e = .returned (.bool true) ∧ Below w.heap.size w w' := by
  refine (callsIn_wide (n := 3)).1 ?_
  refine callsIn_of_wp Try.func26 rfl trivial ?_ rfl
  simp only [Try.ntmps26, List.size_toArray, List.length_nil, Nat.reduceSub, Array.replicate_succ, Array.replicate_zero, List.push_toArray, List.append_toArray, List.nil_append, List.cons_append]
  gi_wp2_with fail
  refine ⟨trivial, ?_⟩
  refine (callsIn_wide.2 (of_at 1 [98] [120, 121] 1 2 rfl rfl (by omega) (by omega) w)).mono ?_
  rintro e w0a ⟨h1a, h1b, h1c, h1d, rfl, l1, b1⟩
  gi_wp2_with fail
  refine ⟨trivial, ?_⟩
  refine (callsIn_wide.2 (of_at 4 [100] [122] 1 1 rfl rfl (by omega) (by omega) w0a)).mono ?_
  rintro e w0b ⟨h2a, h2b, h2c, h2d, rfl, l2, b2⟩
  have CM0 : Hid (_) := commute_any ⟨1, .slice h1a 1 h1b, .slice h1c 2 h1d, ones [98], ones [120, 121]⟩ ⟨4, .slice h2a 1 h2b, .slice h2c 1 h2d, ones [100], ones [122]⟩ w0b.heap.size w0b (HA.Low.at l1 b2) l2 (Nat.le_refl _) (fine_mk (by omega) (by decide) (by decide)) (fine_mk (by omega) (by decide) (by decide))
  have BB0 : Hid (Below w.heap.size w w0b) := below_then b1 b2
  simp only [HA.val] at CM0
  clear l1 l2 b1 b2
  gi_wp2_with fail
  refine ⟨trivial, ?_⟩
  refine (callsIn_wide.2 CM0.out).mono ?_
  intro e w0c hp
  obtain ⟨g0a, g0b, g0c, g0d, g0e, g0f, g0g, g0h, rfl, okA, okB, -, bp⟩ := hp.ok cx1 1 1 1 2 rfl rfl rfl rfl
  obtain ⟨V0, hV0⟩ : ∃ V, V = (w0c.alloc (.cells #[.int .i64 3, .slice g0a 1 g0b, .slice g0c 1 g0d] 41)).alloc (.cells #[.int .i64 1, .slice g0e 1 g0f, .slice g0g 2 g0h] 41) := ⟨_, rfl⟩
  have bV0 : Below w0c.heap.size w0c V0 := by rw [hV0]; exact below_then (below_nw _ _) (below_nw _ _)
  have W0 : Hid (Below w.heap.size w V0) := below_then BB0.out (below_then bp bV0)
  have la0 : Hid (HA.Low V0.heap.size V0 ⟨3, .slice g0a 1 g0b, .slice g0c 1 g0d, ones [100], ones [122]⟩) := HA.Low.at (HA.Ok.low okA) bV0
  have lb0 : Hid (HA.Low V0.heap.size V0 ⟨1, .slice g0e 1 g0f, .slice g0g 2 g0h, ones [98], ones [120, 121]⟩) := HA.Low.at (HA.Ok.low okB) bV0
  have xa0 : Hid (HBox V0 w0c.heap.size ⟨3, .slice g0a 1 g0b, .slice g0c 1 g0d, ones [100], ones [122]⟩) := by rw [Hid, hV0]; exact (HBox.new w0c ⟨3, .slice g0a 1 g0b, .slice g0c 1 g0d, ones [100], ones [122]⟩).below (below_nw _ _)
  have xb0 : Hid (HBox V0 (w0c.heap.size + 1) ⟨1, .slice g0e 1 g0f, .slice g0g 2 g0h, ones [98], ones [120, 121]⟩) := by
    have h := HBox.new (w0c.alloc (.cells #[.int .i64 3, .slice g0a 1 g0b, .slice g0c 1 g0d] 41)) ⟨1, .slice g0e 1 g0f, .slice g0g 2 g0h, ones [98], ones [120, 121]⟩
    rw [World.size_alloc] at h
    rw [Hid, hV0]; exact h
  clear okA okB
  clear CM0 hp bp bV0 BB0
  gi_wp2_with fail
  rw [← hV0]
  clear hV0
  gi_wp2_with fail
  refine ⟨trivial, ?_⟩
  refine (callsIn_wide.2 (of_at 1 [98] [120, 121] 1 2 rfl rfl (by omega) (by omega) V0)).mono ?_
  rintro e w1a ⟨h3a, h3b, h3c, h3d, rfl, l3, b3⟩
  gi_wp2_with fail
  refine ⟨trivial, ?_⟩
  refine (callsIn_wide.2 (of_at 3 [99] [122] 1 1 rfl rfl (by omega) (by omega) w1a)).mono ?_
  rintro e w1b ⟨h4a, h4b, h4c, h4d, rfl, l4, b4⟩
  have CM1 : Hid (_) := commute_any ⟨1, .slice h3a 1 h3b, .slice h3c 2 h3d, ones [98], ones [120, 121]⟩ ⟨3, .slice h4a 1 h4b, .slice h4c 1 h4d, ones [99], ones [122]⟩ w1b.heap.size w1b (HA.Low.at l3 b4) l4 (Nat.le_refl _) (fine_mk (by omega) (by decide) (by decide)) (fine_mk (by omega) (by decide) (by decide))
  have BB1 : Hid (Below V0.heap.size V0 w1b) := below_then b3 b4
  simp only [HA.val] at CM1
  clear l3 l4 b3 b4
  gi_wp2_with fail
  refine ⟨trivial, ?_⟩
  refine (callsIn_wide.2 CM1.out).mono ?_
  intro e w1c hp
  obtain ⟨g1a, g1b, g1c, g1d, g1e, g1f, g1g, g1h, rfl, bp⟩ := hp.err cx2
  obtain ⟨V1, hV1⟩ : ∃ V, V = (w1c.alloc (.cells #[.int .i64 0, .slice g1a 0 g1b, .slice g1c 0 g1d] 41)).alloc (.cells #[.int .i64 0, .slice g1e 0 g1f, .slice g1g 0 g1h] 41) := ⟨_, rfl⟩
  have bV1 : Below w1c.heap.size w1c V1 := by rw [hV1]; exact below_then (below_nw _ _) (below_nw _ _)
  have W1 : Hid (Below V0.heap.size V0 V1) := below_then BB1.out (below_then bp bV1)
  clear CM1 hp bp bV1 BB1
  gi_wp2_with fail
  rw [← hV1]
  clear hV1
  gi_wp2_with fail
  refine ⟨trivial, ?_⟩
  refine (callsIn_wide.2 (of_at 3 [100] [120] 1 1 rfl rfl (by omega) (by omega) V1)).mono ?_
  rintro e w2a ⟨h5a, h5b, h5c, h5d, rfl, l5, b5⟩
  gi_wp2_with fail
  refine ⟨trivial, ?_⟩
  refine (callsIn_wide.2 (of_at 0 [97] [] 1 0 rfl rfl (by omega) (by omega) w2a)).mono ?_
  rintro e w2b ⟨h6a, h6b, h6c, h6d, rfl, l6, b6⟩
  have CM2 : Hid (_) := commute_any ⟨3, .slice h5a 1 h5b, .slice h5c 1 h5d, ones [100], ones [120]⟩ ⟨0, .slice h6a 1 h6b, .slice h6c 0 h6d, ones [97], ones []⟩ w2b.heap.size w2b (HA.Low.at l5 b6) l6 (Nat.le_refl _) (fine_mk (by omega) (by decide) (by decide)) (fine_mk (by omega) (by decide) (by decide))
  have BB2 : Hid (Below V1.heap.size V1 w2b) := below_then b5 b6
  simp only [HA.val] at CM2
  clear l5 l6 b5 b6
  gi_wp2_with fail
  refine ⟨trivial, ?_⟩
  refine (callsIn_wide.2 CM2.out).mono ?_
  intro e w2c hp
  obtain ⟨g2a, g2b, g2c, g2d, g2e, g2f, g2g, g2h, rfl, okA, okB, -, bp⟩ := hp.ok cx3 1 0 1 1 rfl rfl rfl rfl
  obtain ⟨V2, hV2⟩ : ∃ V, V = (w2c.alloc (.cells #[.int .i64 0, .slice g2a 1 g2b, .slice g2c 0 g2d] 41)).alloc (.cells #[.int .i64 2, .slice g2e 1 g2f, .slice g2g 1 g2h] 41) := ⟨_, rfl⟩
  have bV2 : Below w2c.heap.size w2c V2 := by rw [hV2]; exact below_then (below_nw _ _) (below_nw _ _)
  have W2 : Hid (Below V1.heap.size V1 V2) := below_then BB2.out (below_then bp bV2)
  have la2 : Hid (HA.Low V2.heap.size V2 ⟨0, .slice g2a 1 g2b, .slice g2c 0 g2d, ones [97], ones []⟩) := HA.Low.at (HA.Ok.low okA) bV2
  have lb2 : Hid (HA.Low V2.heap.size V2 ⟨2, .slice g2e 1 g2f, .slice g2g 1 g2h, ones [100], ones [120]⟩) := HA.Low.at (HA.Ok.low okB) bV2
  have xa2 : Hid (HBox V2 w2c.heap.size ⟨0, .slice g2a 1 g2b, .slice g2c 0 g2d, ones [97], ones []⟩) := by rw [Hid, hV2]; exact (HBox.new w2c ⟨0, .slice g2a 1 g2b, .slice g2c 0 g2d, ones [97], ones []⟩).below (below_nw _ _)
  have xb2 : Hid (HBox V2 (w2c.heap.size + 1) ⟨2, .slice g2e 1 g2f, .slice g2g 1 g2h, ones [100], ones [120]⟩) := by
    have h := HBox.new (w2c.alloc (.cells #[.int .i64 0, .slice g2a 1 g2b, .slice g2c 0 g2d] 41)) ⟨2, .slice g2e 1 g2f, .slice g2g 1 g2h, ones [100], ones [120]⟩
    rw [World.size_alloc] at h
    rw [Hid, hV2]; exact h
  clear okA okB
  clear CM2 hp bp bV2 BB2
  gi_wp2_with fail
  rw [← hV2]
  clear hV2
  gi_wp2_with fail
  refine ⟨trivial, ?_⟩
  refine (callsIn_wide.2 (of_at 1 [98] [120, 121] 1 2 rfl rfl (by omega) (by omega) V2)).mono ?_
  rintro e w3a ⟨h7a, h7b, h7c, h7d, rfl, l7, b7⟩
  gi_wp2_with fail
  refine ⟨trivial, ?_⟩
  refine (callsIn_wide.2 (of_at 3 [100] [122] 1 1 rfl rfl (by omega) (by omega) w3a)).mono ?_
  rintro e w3b ⟨h8a, h8b, h8c, h8d, rfl, l8, b8⟩
  have CM3 : Hid (_) := merge_any ⟨1, .slice h7a 1 h7b, .slice h7c 2 h7d, ones [98], ones [120, 121]⟩ ⟨3, .slice h8a 1 h8b, .slice h8c 1 h8d, ones [100], ones [122]⟩ w3b.heap.size w3b (HA.Low.at l7 b8) l8 (Nat.le_refl _) (fine_mk (by omega) (by decide) (by decide)) (fine_mk (by omega) (by decide) (by decide))
  have BB3 : Hid (Below V2.heap.size V2 w3b) := below_then b7 b8
  simp only [HA.val] at CM3
  clear l7 l8 b7 b8
  gi_wp2_with fail
  refine ⟨trivial, ?_⟩
  refine (callsIn_wide.2 CM3.out).mono ?_
  intro e w3c hp
  obtain ⟨g3a, g3b, g3c, g3d, g3e, g3f, g3g, g3h, rfl, okA, okB, -, bp⟩ := hp.ok cx4 1 2 1 1 rfl rfl rfl rfl
  obtain ⟨V3, hV3⟩ : ∃ V, V = (w3c.alloc (.cells #[.int .i64 1, .slice g3a 1 g3b, .slice g3c 2 g3d] 41)).alloc (.cells #[.int .i64 4, .slice g3e 1 g3f, .slice g3g 1 g3h] 41) := ⟨_, rfl⟩
  have bV3 : Below w3c.heap.size w3c V3 := by rw [hV3]; exact below_then (below_nw _ _) (below_nw _ _)
  have W3 : Hid (Below V2.heap.size V2 V3) := below_then BB3.out (below_then bp bV3)
  have la3 : Hid (HA.Low V3.heap.size V3 ⟨1, .slice g3a 1 g3b, .slice g3c 2 g3d, ones [98], ones [120, 121]⟩) := HA.Low.at (HA.Ok.low okA) bV3
  have lb3 : Hid (HA.Low V3.heap.size V3 ⟨4, .slice g3e 1 g3f, .slice g3g 1 g3h, ones [100], ones [122]⟩) := HA.Low.at (HA.Ok.low okB) bV3
  have xa3 : Hid (HBox V3 w3c.heap.size ⟨1, .slice g3a 1 g3b, .slice g3c 2 g3d, ones [98], ones [120, 121]⟩) := by rw [Hid, hV3]; exact (HBox.new w3c ⟨1, .slice g3a 1 g3b, .slice g3c 2 g3d, ones [98], ones [120, 121]⟩).below (below_nw _ _)
  have xb3 : Hid (HBox V3 (w3c.heap.size + 1) ⟨4, .slice g3e 1 g3f, .slice g3g 1 g3h, ones [100], ones [122]⟩) := by
    have h := HBox.new (w3c.alloc (.cells #[.int .i64 1, .slice g3a 1 g3b, .slice g3c 2 g3d] 41)) ⟨4, .slice g3e 1 g3f, .slice g3g 1 g3h, ones [100], ones [122]⟩
    rw [World.size_alloc] at h
    rw [Hid, hV3]; exact h
  clear okA okB
  clear CM3 hp bp bV3 BB3
  gi_wp2_with fail
  rw [← hV3]
  clear hV3
  have CA0 : Hid (∀ W, Below V3.heap.size V3 W → HBox W w0c.heap.size ⟨3, .slice g0a 1 g0b, .slice g0c 1 g0d, ones [100], ones [122]⟩ ∧ HBox W (w0c.heap.size + 1) ⟨1, .slice g0e 1 g0f, .slice g0g 2 g0h, ones [98], ones [120, 121]⟩ ∧ HA.Low W.heap.size W ⟨3, .slice g0a 1 g0b, .slice g0c 1 g0d, ones [100], ones [122]⟩ ∧ HA.Low W.heap.size W ⟨1, .slice g0e 1 g0f, .slice g0g 2 g0h, ones [98], ones [120, 121]⟩) := fun W hW => ⟨HBox.below xa0.out (below_then W1.out (below_then W2.out (below_then W3.out hW))), HBox.below xb0.out (below_then W1.out (below_then W2.out (below_then W3.out hW))), HA.Low.at la0.out (below_then W1.out (below_then W2.out (below_then W3.out hW))), HA.Low.at lb0.out (below_then W1.out (below_then W2.out (below_then W3.out hW)))⟩
  have CA2 : Hid (∀ W, Below V3.heap.size V3 W → HBox W w2c.heap.size ⟨0, .slice g2a 1 g2b, .slice g2c 0 g2d, ones [97], ones []⟩ ∧ HBox W (w2c.heap.size + 1) ⟨2, .slice g2e 1 g2f, .slice g2g 1 g2h, ones [100], ones [120]⟩ ∧ HA.Low W.heap.size W ⟨0, .slice g2a 1 g2b, .slice g2c 0 g2d, ones [97], ones []⟩ ∧ HA.Low W.heap.size W ⟨2, .slice g2e 1 g2f, .slice g2g 1 g2h, ones [100], ones [120]⟩) := fun W hW => ⟨HBox.below xa2.out (below_then W3.out hW), HBox.below xb2.out (below_then W3.out hW), HA.Low.at la2.out (below_then W3.out hW), HA.Low.at lb2.out (below_then W3.out hW)⟩
  have CA3 : Hid (∀ W, Below V3.heap.size V3 W → HBox W w3c.heap.size ⟨1, .slice g3a 1 g3b, .slice g3c 2 g3d, ones [98], ones [120, 121]⟩ ∧ HBox W (w3c.heap.size + 1) ⟨4, .slice g3e 1 g3f, .slice g3g 1 g3h, ones [100], ones [122]⟩ ∧ HA.Low W.heap.size W ⟨1, .slice g3a 1 g3b, .slice g3c 2 g3d, ones [98], ones [120, 121]⟩ ∧ HA.Low W.heap.size W ⟨4, .slice g3e 1 g3f, .slice g3g 1 g3h, ones [100], ones [122]⟩) := fun W hW => ⟨HBox.below xa3.out hW, HBox.below xb3.out hW, HA.Low.at la3.out hW, HA.Low.at lb3.out hW⟩
  have BT : Hid (Below w.heap.size w V3) := below_then W0.out (below_then W1.out (below_then W2.out W3.out))
  have BD : Below V3.heap.size V3 (V3.drewN 1) := below_drewN (Below.refl _ V3) 1
  clear xa0 xb0 la0 lb0 xa2 xb2 la2 lb2 xa3 xb3 la3 lb3
  refine region_lex (fun W => Below V3.heap.size V3 W) 3 24 rfl (by kernel_rfl) (by kernel_rfl) (by kernel_rfl) (by kernel_rfl) (fun _ _ d _ _ h => by cases d <;> exact h) BD ?_
  simp only [List.take_succ_cons, List.take_zero]
  apply lexC_want
  · rfl
  · exact fun _ => rfl
  · intro w' hw'; obtain ⟨q0, q1, -⟩ := CA0.out w' hw'; obtain ⟨q00, q01, q02⟩ := q0.cells; obtain ⟨q10, q11, q12⟩ := q1.cells; simp only at q00 q01 q02 q10 q11 q12; go_simp; try rfl
  simp only [Act.put, List.setIfInBounds_toArray, List.set_cons_zero, List.set_cons_succ]
  apply lexC_want
  · rfl
  · exact fun _ => rfl
  · intro w' hw'; obtain ⟨q0, q1, -⟩ := CA0.out w' hw'; obtain ⟨q00, q01, q02⟩ := q0.cells; obtain ⟨q10, q11, q12⟩ := q1.cells; simp only at q00 q01 q02 q10 q11 q12; go_simp; try rfl
  simp only [Act.put, List.setIfInBounds_toArray, List.set_cons_zero, List.set_cons_succ]
  apply lexC_want
  · rfl
  · exact fun _ => rfl
  · intro w' hw'; obtain ⟨q0, q1, -⟩ := CA0.out w' hw'; obtain ⟨q00, q01, q02⟩ := q0.cells; obtain ⟨q10, q11, q12⟩ := q1.cells; simp only at q00 q01 q02 q10 q11 q12; go_simp; try rfl
  simp only [Act.put, List.setIfInBounds_toArray, List.set_cons_zero, List.set_cons_succ]
  refine lexC_nil ?_
  refine anyC_one (i := 3) (by kernel_rfl) rfl (by rfl) (fun K hK => ?_)
  go_simp
  refine ⟨trivial, ?_⟩
  refine (callsIn_wide.2 (of_at 3 [100] [122] 1 1 rfl rfl (by omega) (by omega) _)).mono ?_
  rintro e u21 ⟨h21a, h21b, h21c, h21d, rfl, l21, b21⟩
  have B21 : Below V3.heap.size V3 u21 := below_then BD b21
  refine hK _ _ B21 ?_
  clear hK
  refine anyC_one (i := 4) (by kernel_rfl) rfl (by rfl) (fun K hK => ?_)
  go_simp
  refine ⟨trivial, ?_⟩
  refine (callsIn_wide.2 (of_at 1 [98] [120, 121] 1 2 rfl rfl (by omega) (by omega) _)).mono ?_
  rintro e u22 ⟨h22a, h22b, h22c, h22d, rfl, l22, b22⟩
  have B22 : Below V3.heap.size V3 u22 := below_then B21 b22
  refine hK _ _ B22 ?_
  clear hK
  have TL0 : Hid (_) := tells_yes ⟨3, .slice g0a 1 g0b, .slice g0c 1 g0d, ones [100], ones [122]⟩ ⟨1, .slice g0e 1 g0f, .slice g0g 2 g0h, ones [98], ones [120, 121]⟩ ⟨3, .slice h21a 1 h21b, .slice h21c 1 h21d, ones [100], ones [122]⟩ ⟨1, .slice h22a 1 h22b, .slice h22c 2 h22d, ones [98], ones [120, 121]⟩ u22.heap.size u22 (CA0.out u22 B22).2.2.1 (CA0.out u22 B22).2.2.2 (HA.Low.at l21 b22) l22 (Nat.le_refl _) rfl rfl ⟨by show (ones _).length ≤ _; decide, by show (ones _).length ≤ _; decide⟩ ⟨by show (ones _).length ≤ _; decide, by show (ones _).length ≤ _; decide⟩
  simp only [HA.val] at TL0
  refine anyC_one (i := 5) (by kernel_rfl) rfl (by rfl) (fun K hK => ?_)
  go_simp
  refine ⟨trivial, ?_⟩
  refine (callsIn_wide.2 TL0.out).mono ?_
  rintro e v0 ⟨rfl, b⟩
  have BV0 : Below V3.heap.size V3 v0 := below_then B22 b
  refine hK _ _ BV0 ?_
  clear hK TL0 b l21 l22 b21 b22 B21 B22
  refine anyC_one (i := 6) (by kernel_rfl) rfl (by rfl) (fun K hK => ?_)
  go_simp
  refine hK _ _ BV0 ?_
  clear hK
  refine anyC_one (i := 7) (by kernel_rfl) rfl (by rfl) (fun K hK => ?_)
  go_simp
  refine hK _ _ BV0 ?_
  clear hK
  refine anyC_one (i := 8) (by kernel_rfl) rfl (by rfl) (fun K hK => ?_)
  go_simp
  refine hK _ _ BV0 ?_
  clear hK
  refine anyC_one (i := 9) (by kernel_rfl) rfl (by rfl) (fun K hK => ?_)
  go_simp
  refine hK _ _ BV0 ?_
  clear hK
  refine anyC_one (i := 10) (by kernel_rfl) rfl (by rfl) (fun K hK => ?_)
  go_simp
  refine hK _ _ BV0 ?_
  clear hK
  refine anyC_take (i := 11) (v := .agg #[.int .i64 0, .slice g2a 1 g2b, .slice g2c 0 g2d]) rfl rfl (by kernel_rfl) (by kernel_rfl) (by kernel_rfl) (fun _ _ d _ _ h => by cases d <;> exact h) BV0 (by rfl) (fun _ => rfl) (by intro w' hw'; obtain ⟨q0, q1, -⟩ := CA2.out w' hw'; obtain ⟨q00, q01, q02⟩ := q0.cells; obtain ⟨q10, q11, q12⟩ := q1.cells; simp only at q00 q01 q02 q10 q11 q12; go_simp; try rfl) ?_
  refine anyC_take (i := 12) (v := .agg #[.int .i64 2, .slice g2e 1 g2f, .slice g2g 1 g2h]) rfl rfl (by kernel_rfl) (by kernel_rfl) (by kernel_rfl) (fun _ _ d _ _ h => by cases d <;> exact h) BV0 (by rfl) (fun _ => rfl) (by intro w' hw'; obtain ⟨q0, q1, -⟩ := CA2.out w' hw'; obtain ⟨q00, q01, q02⟩ := q0.cells; obtain ⟨q10, q11, q12⟩ := q1.cells; simp only at q00 q01 q02 q10 q11 q12; go_simp; try rfl) ?_
  refine anyC_take (i := 13) (v := .int .i64 0) rfl rfl (by kernel_rfl) (by kernel_rfl) (by kernel_rfl) (fun _ _ d _ _ h => by cases d <;> exact h) BV0 (by rfl) (fun _ => rfl) (by intro w' hw'; obtain ⟨q0, q1, -⟩ := CA2.out w' hw'; obtain ⟨q00, q01, q02⟩ := q0.cells; obtain ⟨q10, q11, q12⟩ := q1.cells; simp only at q00 q01 q02 q10 q11 q12; go_simp; try rfl) ?_
  refine anyC_one (i := 14) (by kernel_rfl) rfl (by rfl) (fun K hK => ?_)
  go_simp
  refine ⟨trivial, ?_⟩
  refine (callsIn_wide.2 (of_at 0 [97] [] 1 0 rfl rfl (by omega) (by omega) _)).mono ?_
  rintro e u24 ⟨h24a, h24b, h24c, h24d, rfl, l24, b24⟩
  have B24 : Below V3.heap.size V3 u24 := below_then BV0 b24
  refine hK _ _ B24 ?_
  clear hK
  refine anyC_one (i := 15) (by kernel_rfl) rfl (by rfl) (fun K hK => ?_)
  go_simp
  refine ⟨trivial, ?_⟩
  refine (callsIn_wide.2 (of_at 2 [100] [120] 1 1 rfl rfl (by omega) (by omega) _)).mono ?_
  rintro e u25 ⟨h25a, h25b, h25c, h25d, rfl, l25, b25⟩
  have B25 : Below V3.heap.size V3 u25 := below_then B24 b25
  refine hK _ _ B25 ?_
  clear hK
  have TL2 : Hid (_) := tells_yes ⟨0, .slice g2a 1 g2b, .slice g2c 0 g2d, ones [97], ones []⟩ ⟨2, .slice g2e 1 g2f, .slice g2g 1 g2h, ones [100], ones [120]⟩ ⟨0, .slice h24a 1 h24b, .slice h24c 0 h24d, ones [97], ones []⟩ ⟨2, .slice h25a 1 h25b, .slice h25c 1 h25d, ones [100], ones [120]⟩ u25.heap.size u25 (CA2.out u25 B25).2.2.1 (CA2.out u25 B25).2.2.2 (HA.Low.at l24 b25) l25 (Nat.le_refl _) rfl rfl ⟨by show (ones _).length ≤ _; decide, by show (ones _).length ≤ _; decide⟩ ⟨by show (ones _).length ≤ _; decide, by show (ones _).length ≤ _; decide⟩
  simp only [HA.val] at TL2
  refine anyC_one (i := 16) (by kernel_rfl) rfl (by rfl) (fun K hK => ?_)
  go_simp
  refine ⟨trivial, ?_⟩
  refine (callsIn_wide.2 TL2.out).mono ?_
  rintro e v2 ⟨rfl, b⟩
  have BV2 : Below V3.heap.size V3 v2 := below_then B25 b
  refine hK _ _ BV2 ?_
  clear hK TL2 b l24 l25 b24 b25 B24 B25
  refine anyC_one (i := 17) (by kernel_rfl) rfl (by rfl) (fun K hK => ?_)
  go_simp
  refine hK _ _ BV2 ?_
  clear hK
  refine anyC_one (i := 18) (by kernel_rfl) rfl (by rfl) (fun K hK => ?_)
  go_simp
  refine hK _ _ BV2 ?_
  clear hK
  refine anyC_take (i := 19) (v := .agg #[.int .i64 1, .slice g3a 1 g3b, .slice g3c 2 g3d]) rfl rfl (by kernel_rfl) (by kernel_rfl) (by kernel_rfl) (fun _ _ d _ _ h => by cases d <;> exact h) BV2 (by rfl) (fun _ => rfl) (by intro w' hw'; obtain ⟨q0, q1, -⟩ := CA3.out w' hw'; obtain ⟨q00, q01, q02⟩ := q0.cells; obtain ⟨q10, q11, q12⟩ := q1.cells; simp only at q00 q01 q02 q10 q11 q12; go_simp; try rfl) ?_
  refine anyC_take (i := 20) (v := .agg #[.int .i64 4, .slice g3e 1 g3f, .slice g3g 1 g3h]) rfl rfl (by kernel_rfl) (by kernel_rfl) (by kernel_rfl) (fun _ _ d _ _ h => by cases d <;> exact h) BV2 (by rfl) (fun _ => rfl) (by intro w' hw'; obtain ⟨q0, q1, -⟩ := CA3.out w' hw'; obtain ⟨q00, q01, q02⟩ := q0.cells; obtain ⟨q10, q11, q12⟩ := q1.cells; simp only at q00 q01 q02 q10 q11 q12; go_simp; try rfl) ?_
  refine anyC_take (i := 21) (v := .int .i64 0) rfl rfl (by kernel_rfl) (by kernel_rfl) (by kernel_rfl) (fun _ _ d _ _ h => by cases d <;> exact h) BV2 (by rfl) (fun _ => rfl) (by intro w' hw'; obtain ⟨q0, q1, -⟩ := CA3.out w' hw'; obtain ⟨q00, q01, q02⟩ := q0.cells; obtain ⟨q10, q11, q12⟩ := q1.cells; simp only at q00 q01 q02 q10 q11 q12; go_simp; try rfl) ?_
  refine anyC_one (i := 22) (by kernel_rfl) rfl (by rfl) (fun K hK => ?_)
  go_simp
  refine ⟨trivial, ?_⟩
  refine (callsIn_wide.2 (of_at 1 [98] [120, 121] 1 2 rfl rfl (by omega) (by omega) _)).mono ?_
  rintro e u27 ⟨h27a, h27b, h27c, h27d, rfl, l27, b27⟩
  have B27 : Below V3.heap.size V3 u27 := below_then BV2 b27
  refine hK _ _ B27 ?_
  clear hK
  refine anyC_one (i := 23) (by kernel_rfl) rfl (by rfl) (fun K hK => ?_)
  go_simp
  refine ⟨trivial, ?_⟩
  refine (callsIn_wide.2 (of_at 4 [100] [122] 1 1 rfl rfl (by omega) (by omega) _)).mono ?_
  rintro e u28 ⟨h28a, h28b, h28c, h28d, rfl, l28, b28⟩
  have B28 : Below V3.heap.size V3 u28 := below_then B27 b28
  refine hK _ _ B28 ?_
  clear hK
  have TL3 : Hid (_) := tells_yes ⟨1, .slice g3a 1 g3b, .slice g3c 2 g3d, ones [98], ones [120, 121]⟩ ⟨4, .slice g3e 1 g3f, .slice g3g 1 g3h, ones [100], ones [122]⟩ ⟨1, .slice h27a 1 h27b, .slice h27c 2 h27d, ones [98], ones [120, 121]⟩ ⟨4, .slice h28a 1 h28b, .slice h28c 1 h28d, ones [100], ones [122]⟩ u28.heap.size u28 (CA3.out u28 B28).2.2.1 (CA3.out u28 B28).2.2.2 (HA.Low.at l27 b28) l28 (Nat.le_refl _) rfl rfl ⟨by show (ones _).length ≤ _; decide, by show (ones _).length ≤ _; decide⟩ ⟨by show (ones _).length ≤ _; decide, by show (ones _).length ≤ _; decide⟩
  simp only [HA.val] at TL3
  refine anyC_one (i := 24) (by kernel_rfl) rfl (by rfl) (fun K hK => ?_)
  go_simp
  refine ⟨trivial, ?_⟩
  refine (callsIn_wide.2 TL3.out).mono ?_
  rintro e v3 ⟨rfl, b⟩
  have BV3 : Below V3.heap.size V3 v3 := below_then B28 b
  refine hK _ _ BV3 ?_
  clear hK TL3 b l27 l28 b27 b28 B27 B28
  refine anyC_one (i := 25) (by kernel_rfl) rfl (by rfl) (fun K hK => ?_)
  go_simp
  refine hK _ _ BV3 ?_
  clear hK
  refine anyC_one (i := 26) (by kernel_rfl) rfl (by rfl) (fun K hK => ?_)
  go_simp
  refine hK _ _ BV3 ?_
  clear hK
  refine anyC_done (by kernel_rfl) ?_
  have HB : Hid (Below w.heap.size w v3) := below_then BT.out BV3
  clear BV0 BV2 BV3 BD
  gi_wp2
  exact bodyPost_ret (results_tmp rfl _ _ _) rfl ⟨rfl, HB.out⟩

end Go.Proofs.Ytflnakjffgobmaa
