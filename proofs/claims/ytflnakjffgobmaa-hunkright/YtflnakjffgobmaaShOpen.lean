/-
  The walk of the closure that says whether Commute's second way is open.
-/
import Derived.Test.YtflnakjffgobmaaShGoes
namespace Go.Proofs.Ytflnakjffgobmaa
open Go.RowKit Go.Shelf

attribute [local go_sem] Oper.semAt_some

set_option maxRecDepth 100000 in
set_option maxHeartbeats 4000000 in
/-- Commute's second way is open: Invert(p) and q lie apart. -/
theorem cm3 (x y : HA) (b c m : Nat) (w : World) (hb : HBox w b x) (hc : HBox w c y) (hx : x.Low m w) (hm : m ≤ w.heap.size) (hy : y.Shape) (nx : x.Near) (sx : x.Small) (tx : x.Thin) (ny : y.Near) :
    Calls Try.prog 56 #[.pointer (some ⟨b, 0, none⟩), .pointer (some ⟨c, 0, none⟩)] w fun e w' => e = .returned (.bool (Hn.apart (Hn.inv x.h) y.h)) ∧ Below w.heap.size w w' := by
  have IV : Hid (_) := invert_any x m (w.drewN 1) hx hm sx tx.1 tx.2
  have AP : Hid (∀ (vo vn : Value) W, _) := fun vo vn W (h1 : ∃ a k, vo = .slice a x.new.length k) (h2 : ∃ a k, vn = .slice a x.old.length k) => apart_fn ⟨x.at_, vo, vn, x.new, x.old⟩ y W ⟨h1, h2⟩ hy nx ⟨sx.2, sx.1⟩ ny
  have HCB : Hid (∀ W, Below w.heap.size w W → HBox W b x ∧ HBox W c y) := fun W hW => ⟨hb.below hW, hc.below hW⟩
  obtain ⟨⟨a1, c1, e1⟩, ⟨a2, c2, e2⟩⟩ := hx.shape
  obtain ⟨p, vo, vn, L1, L2⟩ := x
  obtain ⟨q, uo, un, M1, M2⟩ := y
  obtain ⟨⟨a3, c3, e3⟩, ⟨a4, c4, e4⟩⟩ := hy
  simp only at e1 e2 e3 e4
  subst e1 e2 e3 e4
  simp only [HA.val, HA.h] at IV AP ⊢
  have HC : Hid (∀ W, Below w.heap.size w W → (W.cell? ⟨b, 0, none⟩ = some (.int .i64 p) ∧ W.cell? ⟨b, 1, none⟩ = some (.slice a1 L1.length c1) ∧ W.cell? ⟨b, 2, none⟩ = some (.slice a2 L2.length c2)) ∧ W.cell? ⟨c, 0, none⟩ = some (.int .i64 q) ∧ W.cell? ⟨c, 1, none⟩ = some (.slice a3 M1.length c3) ∧ W.cell? ⟨c, 2, none⟩ = some (.slice a4 M2.length c4)) := fun W hW => ⟨(HCB.out W hW).1.cells, (HCB.out W hW).2.cells⟩
  have B0 : Hid (Below w.heap.size w (w.drewN 1)) := below_drewN (Below.refl _ w) 1
  clear hb hc hx
  refine (callsIn_wide (n := 3)).1 ?_
  refine callsIn_of_wp Try.func56 rfl trivial ?_ rfl
  simp only [Try.ntmps56, List.size_toArray, List.length_cons, List.length_nil, Nat.reduceAdd, Nat.reduceSub, Array.replicate_succ, Array.replicate_zero, List.push_toArray, List.append_toArray, List.nil_append, List.cons_append]
  gi_wp2
  refine region_lex (fun w' => Below w.heap.size w w') 1 4 rfl (by kernel_rfl) (by kernel_rfl) (by kernel_rfl) (by kernel_rfl) (fun _ _ d _ _ h => by cases d <;> exact h) B0.out ?_
  simp only [List.take_succ_cons, List.take_zero]
  iterate 1 (first
    | (apply lexC_want
       · rfl
       · exact fun _ => rfl
       · (intro w' hw'; obtain ⟨⟨q0, q1, q2⟩, q3, q4, q5⟩ := HC.out w' hw'; go_simp; try rfl)
       simp only [Act.put, List.setIfInBounds_toArray, List.set_cons_zero, List.set_cons_succ])
    | (apply lexC_skip
       · rfl
       · exact fun _ => rfl
       simp only [Act.put, List.setIfInBounds_toArray, List.set_cons_zero, List.set_cons_succ]))
  refine lexC_nil ?_
  refine anyC_take (i := 2) (v := .agg #[.int .i64 q, .slice a3 M1.length c3, .slice a4 M2.length c4]) rfl rfl (by kernel_rfl) (by kernel_rfl) (by kernel_rfl) (fun _ _ d _ _ h => by cases d <;> exact h) B0.out (by rfl) (fun _ => rfl) (by intro w' hw'; obtain ⟨⟨q0, q1, q2⟩, q3, q4, q5⟩ := HC.out w' hw'; go_simp; try rfl) ?_
  refine anyC_one (i := 1) (by kernel_rfl) rfl (by rfl) (fun K1 hK1 => ?_)
  go_simp
  refine ⟨trivial, ?_⟩
  refine (callsIn_wide.2 IV.out).mono ?_
  rintro e w1 ⟨r1, r2, n1, rfl, o1, o2, -, -, b1⟩
  obtain ⟨ra, rc, rfl⟩ := slice_shape o1
  obtain ⟨sa, sc, rfl⟩ := slice_shape o2
  have B1 : Below w.heap.size w w1 := B0.out.trans b1
  refine hK1 _ _ B1 ?_
  clear hK1 o1 o2
  refine anyC_one (i := 3) (by kernel_rfl) rfl (by rfl) (fun K2 hK2 => ?_)
  go_simp
  refine ⟨trivial, ?_⟩
  refine (callsIn_wide.2 (AP.out _ _ w1 ⟨ra, rc, rfl⟩ ⟨sa, sc, rfl⟩)).mono ?_
  rintro e w2 ⟨rfl, b2⟩
  have B2 : Below w.heap.size w w2 := below_then B1 b2
  refine hK2 _ _ B2 ?_
  clear hK2
  refine anyC_one (i := 4) (by kernel_rfl) rfl (by rfl) (fun K3 hK3 => ?_)
  go_simp
  refine hK3 _ _ B2 ?_
  clear hK3
  refine anyC_done (by kernel_rfl) ?_
  have HB2 : Hid (_) := B2
  clear B1 B2 b1 b2
  gi_wp2
  exact bodyPost_ret (results_tmp rfl _ _ _) rfl ⟨rfl, HB2.out⟩

end Go.Proofs.Ytflnakjffgobmaa
