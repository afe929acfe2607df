/-
  The walks of the law's own functions great and of (chapter 4).
-/
import Derived.Test.YtflnakjffgobmaaShLaw
namespace Go.Proofs.Ytflnakjffgobmaa
open Go.RowKit Go.Shelf

attribute [local go_sem] Oper.semAt_some

set_option maxRecDepth 100000 in
set_option maxHeartbeats 8000000 in
theorem sgreat_any (x y : HA) (m : Nat) (w : World) (hx : x.Low m w) (hy : y.Low m w) (hm : m ≤ w.heap.size) (fx : x.Fits) (fy : y.Fits) (mx : x.Mach) (my : y.Mach) :
    Calls Try.prog 27 #[x.val, y.val] w fun e w' => ∃ r, e = .returned (.bool r) ∧ Below w.heap.size w w' ∧ (r = false → (x.old.length + x.new.length + y.old.length + y.new.length ≤ 2000) ∧ x.Short ∧ y.Short) := by
  obtain ⟨X, hX⟩ : ∃ X, X = (w.alloc (.cells #[.int .i64 x.at_, x.vo, x.vn] 41)).alloc (.cells #[.int .i64 y.at_, y.vo, y.vn] 41) := ⟨_, rfl⟩
  have bX : Below w.heap.size w X := by rw [hX]; exact below_then (below_nw w _) (below_nw _ _)
  have lx := hx.below bX hm
  have ly := hy.below bX hm
  have x0 : HBox X w.heap.size x := by rw [hX]; exact (HBox.new w x).below (below_nw _ _)
  have x1 : HBox X (w.heap.size + 1) y := by
    have h := HBox.new (w.alloc (.cells #[.int .i64 x.at_, x.vo, x.vn] 41)) y
    rw [World.size_alloc] at h
    rw [hX]; exact h
  obtain ⟨-, -, f1, f2⟩ := fx
  obtain ⟨-, -, f3, f4⟩ := fy
  have T1 : Hid (_) := textsOf_all x.old x.vo m (X.drewN 1) lx.1 mx.1 f1
  have T2 : Hid (_) := textsOf_all x.new x.vn m (X.drewN 1) lx.2 mx.2 f2
  have T3 : Hid (_) := textsOf_all y.old y.vo m (X.drewN 1) ly.1 my.1 f3
  have T4 : Hid (_) := textsOf_all y.new y.vn m (X.drewN 1) ly.2 my.2 f4
  have CC : Hid ((X.drewN 1).cell? ⟨w.heap.size, 1, none⟩ = some x.vo ∧ (X.drewN 1).cell? ⟨w.heap.size, 2, none⟩ = some x.vn ∧ (X.drewN 1).cell? ⟨w.heap.size + 1, 1, none⟩ = some y.vo ∧ (X.drewN 1).cell? ⟨w.heap.size + 1, 2, none⟩ = some y.vn) := ⟨x0.cells.2.1, x0.cells.2.2, x1.cells.2.1, x1.cells.2.2⟩
  have BX : Hid (Below w.heap.size w (X.drewN 1)) := below_drewN bX 1
  obtain ⟨⟨a1, k1, e1⟩, ⟨a2, k2, e2⟩⟩ := hx.shape
  obtain ⟨⟨a3, k3, e3⟩, ⟨a4, k4, e4⟩⟩ := hy.shape
  obtain ⟨p, vo, vn, L1, L2⟩ := x
  obtain ⟨q, uo, un, M1, M2⟩ := y
  simp only at e1 e2 e3 e4
  subst e1 e2 e3 e4
  simp only [HA.val] at hX ⊢
  clear hx hy lx ly x0 x1 bX f1 f2 f3 f4 mx my
  refine (callsIn_wide (n := 3)).1 ?_
  refine callsIn_of_wp Try.func27 rfl trivial ?_ rfl
  simp only [Try.ntmps27, List.size_toArray, List.length_cons, List.length_nil, Nat.reduceAdd, Nat.reduceSub, Array.replicate_succ, Array.replicate_zero, List.push_toArray, List.append_toArray, List.nil_append, List.cons_append]
  gi_wp2
  rw [← hX]
  clear hX
  refine region_lex (fun w' => w'.cell? ⟨w.heap.size, 1, none⟩ = some (.slice a1 L1.length k1) ∧ w'.cell? ⟨w.heap.size, 2, none⟩ = some (.slice a2 L2.length k2) ∧ w'.cell? ⟨w.heap.size + 1, 1, none⟩ = some (.slice a3 M1.length k3) ∧ w'.cell? ⟨w.heap.size + 1, 2, none⟩ = some (.slice a4 M2.length k4)) 2 15 rfl (by kernel_rfl) (by kernel_rfl) (by kernel_rfl) (by kernel_rfl) (fun _ _ d _ _ h => by cases d <;> exact h) CC.out ?_
  simp only [List.take_succ_cons, List.take_zero]
  iterate 2 (first
    | (apply lexC_want
       · rfl
       · exact fun _ => rfl
       · (intro w' hw'; obtain ⟨q0, q1, q2, q3⟩ := hw'; go_simp; try rfl)
       simp only [Act.put, List.setIfInBounds_toArray, List.set_cons_zero, List.set_cons_succ])
    | (apply lexC_skip
       · rfl
       · exact fun _ => rfl
       simp only [Act.put, List.setIfInBounds_toArray, List.set_cons_zero, List.set_cons_succ]))
  refine lexC_nil ?_
  refine anyC_take (i := 3) (v := .pointer (some ⟨w.heap.size, 2, none⟩)) rfl rfl (by kernel_rfl) (by kernel_rfl) (by kernel_rfl) (fun _ _ d _ _ h => by cases d <;> exact h) CC.out (by rfl) (fun _ => rfl) (by intro w' hw'; obtain ⟨q0, q1, q2, q3⟩ := hw'; go_simp; try rfl) ?_
  refine anyC_take (i := 4) (v := .slice a2 L2.length k2) rfl rfl (by kernel_rfl) (by kernel_rfl) (by kernel_rfl) (fun _ _ d _ _ h => by cases d <;> exact h) CC.out (by rfl) (fun _ => rfl) (by intro w' hw'; obtain ⟨q0, q1, q2, q3⟩ := hw'; go_simp; try rfl) ?_
  refine anyC_take (i := 7) (v := .pointer (some ⟨w.heap.size + 1, 1, none⟩)) rfl rfl (by kernel_rfl) (by kernel_rfl) (by kernel_rfl) (fun _ _ d _ _ h => by cases d <;> exact h) CC.out (by rfl) (fun _ => rfl) (by intro w' hw'; obtain ⟨q0, q1, q2, q3⟩ := hw'; go_simp; try rfl) ?_
  refine anyC_take (i := 8) (v := .slice a3 M1.length k3) rfl rfl (by kernel_rfl) (by kernel_rfl) (by kernel_rfl) (fun _ _ d _ _ h => by cases d <;> exact h) CC.out (by rfl) (fun _ => rfl) (by intro w' hw'; obtain ⟨q0, q1, q2, q3⟩ := hw'; go_simp; try rfl) ?_
  refine anyC_take (i := 11) (v := .pointer (some ⟨w.heap.size + 1, 2, none⟩)) rfl rfl (by kernel_rfl) (by kernel_rfl) (by kernel_rfl) (fun _ _ d _ _ h => by cases d <;> exact h) CC.out (by rfl) (fun _ => rfl) (by intro w' hw'; obtain ⟨q0, q1, q2, q3⟩ := hw'; go_simp; try rfl) ?_
  refine anyC_take (i := 12) (v := .slice a4 M2.length k4) rfl rfl (by kernel_rfl) (by kernel_rfl) (by kernel_rfl) (fun _ _ d _ _ h => by cases d <;> exact h) CC.out (by rfl) (fun _ => rfl) (by intro w' hw'; obtain ⟨q0, q1, q2, q3⟩ := hw'; go_simp; try rfl) ?_
  refine anyC_one (i := 2) (by kernel_rfl) rfl (by rfl) (fun K2 hK2 => ?_)
  go_simp
  refine ⟨trivial, ?_⟩
  refine (callsIn_wide.2 T1.out).mono ?_
  rintro e ww ⟨r1, rfl, hww, ur1, vr1, sr1⟩
  obtain rfl : ww = X.drewN 1 := hww
  refine hK2 _ _ CC.out ?_
  have Ur1 : Hid (_) := ur1
  clear hK2 ur1 T1
  refine anyC_one (i := 5) (by kernel_rfl) rfl (by rfl) (fun K5 hK5 => ?_)
  go_simp
  refine ⟨trivial, ?_⟩
  refine (callsIn_wide.2 T2.out).mono ?_
  rintro e ww ⟨r2, rfl, hww, ur2, vr2, sr2⟩
  obtain rfl : ww = X.drewN 1 := hww
  refine hK5 _ _ CC.out ?_
  have Ur2 : Hid (_) := ur2
  clear hK5 ur2 T2
  have w12 : IntKind.i64.wrap ((r1 : Int) + (r2 : Int)) = (r1 : Int) + (r2 : Int) := by rw [IntKind.wrap_i64]; omega
  refine anyC_take (i := 6) (v := .int .i64 ((r1 : Int) + (r2 : Int))) rfl rfl (by kernel_rfl) (by kernel_rfl) (by kernel_rfl) (fun _ _ d _ _ h => by cases d <;> exact h) CC.out (by rfl) (fun _ => rfl) (by intro w' hw'; obtain ⟨q0, q1, q2, q3⟩ := hw'; go_simp; try rfl) ?_
  refine anyC_one (i := 9) (by kernel_rfl) rfl (by rfl) (fun K9 hK9 => ?_)
  go_simp
  refine ⟨trivial, ?_⟩
  refine (callsIn_wide.2 T3.out).mono ?_
  rintro e ww ⟨r3, rfl, hww, ur3, vr3, sr3⟩
  obtain rfl : ww = X.drewN 1 := hww
  refine hK9 _ _ CC.out ?_
  have Ur3 : Hid (_) := ur3
  clear hK9 ur3 T3
  have w13 : IntKind.i64.wrap ((r1 : Int) + (r2 : Int) + (r3 : Int)) = (r1 : Int) + (r2 : Int) + (r3 : Int) := by rw [IntKind.wrap_i64]; omega
  refine anyC_take (i := 10) (v := .int .i64 ((r1 : Int) + (r2 : Int) + (r3 : Int))) rfl rfl (by kernel_rfl) (by kernel_rfl) (by kernel_rfl) (fun _ _ d _ _ h => by cases d <;> exact h) CC.out (by rfl) (fun _ => rfl) (by intro w' hw'; obtain ⟨q0, q1, q2, q3⟩ := hw'; go_simp; try rfl) ?_
  refine anyC_one (i := 13) (by kernel_rfl) rfl (by rfl) (fun K13 hK13 => ?_)
  go_simp
  refine ⟨trivial, ?_⟩
  refine (callsIn_wide.2 T4.out).mono ?_
  rintro e ww ⟨r4, rfl, hww, ur4, vr4, sr4⟩
  obtain rfl : ww = X.drewN 1 := hww
  refine hK13 _ _ CC.out ?_
  have Ur4 : Hid (_) := ur4
  clear hK13 ur4 T4
  have w14 : IntKind.i64.wrap ((r1 : Int) + (r2 : Int) + (r3 : Int) + (r4 : Int)) = (r1 : Int) + (r2 : Int) + (r3 : Int) + (r4 : Int) := by rw [IntKind.wrap_i64]; omega
  refine anyC_one (i := 14) (by kernel_rfl) rfl (by rfl) (fun K hK => ?_)
  go_simp
  refine hK _ _ CC.out ?_
  clear hK
  refine anyC_one (i := 15) (by kernel_rfl) rfl (by rfl) (fun K hK => ?_)
  go_simp
  refine hK _ _ CC.out ?_
  clear hK
  refine anyC_one (i := 16) (by kernel_rfl) rfl (by rfl) (fun K hK => ?_)
  go_simp
  refine hK _ _ CC.out ?_
  clear hK
  refine anyC_done (by kernel_rfl) ?_
  gi_wp2
  refine bodyPost_ret (results_tmp rfl _ _ _) rfl ⟨_, rfl, BX.out, fun h => ?_⟩
  have h9 : (r1 : Int) + (r2 : Int) + (r3 : Int) + (r4 : Int) ≤ 2000 := by simpa using h
  exact ⟨by show L1.length + L2.length + M1.length + M2.length ≤ 2000; omega, ⟨Ur1.out (by omega), Ur2.out (by omega)⟩, ⟨Ur3.out (by omega), Ur4.out (by omega)⟩⟩

end Go.Proofs.Ytflnakjffgobmaa
