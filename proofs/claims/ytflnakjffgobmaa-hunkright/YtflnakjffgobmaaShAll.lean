/-
  Several texts in one, as they are: ShLaw, ShGreat, ShOf, ShAwake, ShBoxes, LentHunkA, RefInvertA, LentHunksA, KeptHunksA, RefSorted.
-/
import Derived.Test.YtflnakjffgobmaaShTwo
import Derived.Test.YtflnakjffgobmaaSameHunkA
import Derived.Test.YtflnakjffgobmaaHnGreat
import Derived.Test.YtflnakjffgobmaaKept
import Derived.Test.YtflnakjffgobmaaRefRight
import Derived.Test.YtflnakjffgobmaaMarkHunks

/-
  The walks of the law's own functions (chapter 4): of, tells, great, two.
-/
namespace Go.Proofs.Ytflnakjffgobmaa
open Go.RowKit Go.Shelf

attribute [local go_sem] Oper.semAt_some

set_option maxRecDepth 100000 in
set_option maxHeartbeats 4000000 in
/-- tells, at what is told without an error. -/
theorem tells_yes (x y u v : HA) (m : Nat) (w : World) (hx : x.Low m w) (hy : y.Low m w) (hu : u.Low m w) (hv : v.Low m w) (hm : m ≤ w.heap.size) (e1 : x.h = u.h) (e2 : y.h = v.h) (sx : x.Small) (sy : y.Small) :
    Calls Try.prog 30 #[x.val, y.val, .int .i64 0, u.val, v.val] w fun e w' => e = .returned (.bool true) ∧ Below w.heap.size w w' := by
  obtain ⟨X, hX⟩ : ∃ X, X = (((w.alloc (.cells #[.int .i64 x.at_, x.vo, x.vn] 41)).alloc (.cells #[.int .i64 y.at_, y.vo, y.vn] 41)).alloc (.cells #[.int .i64 u.at_, u.vo, u.vn] 41)).alloc (.cells #[.int .i64 v.at_, v.vo, v.vn] 41) := ⟨_, rfl⟩
  have bX : Below w.heap.size w X := by rw [hX]; exact below_then (below_nw w _) (below_then (below_nw _ _) (below_then (below_nw _ _) (below_nw _ _)))
  have hmX : m ≤ X.heap.size := Nat.le_trans hm bX.size
  have S1 : Hid (_) := sameHunkA_yes x u m X (hx.below bX hm) (hu.below bX hm) hmX e1 sx.1 sx.2
  have S2 : Hid (∀ W, Below X.heap.size X W → _) := fun W hW => sameHunkA_yes y v m W ((hy.below bX hm).below hW hmX) ((hv.below bX hm).below hW hmX) (Nat.le_trans hmX hW.size) e2 sy.1 sy.2
  have x1 : HBox X (w.heap.size + 1) y := by
    have h := HBox.new (w.alloc (.cells #[.int .i64 x.at_, x.vo, x.vn] 41)) y
    rw [World.size_alloc] at h
    rw [hX]; exact (h.below (below_nw _ _)).below (below_nw _ _)
  have x3 : HBox X (w.heap.size + 1 + 1 + 1) v := by
    have h := HBox.new (((w.alloc (.cells #[.int .i64 x.at_, x.vo, x.vn] 41)).alloc (.cells #[.int .i64 y.at_, y.vo, y.vn] 41)).alloc (.cells #[.int .i64 u.at_, u.vo, u.vn] 41)) v
    simp only [World.size_alloc] at h
    rw [hX]; exact h
  have X1 : Hid (HBox X (w.heap.size + 1) y) := x1
  have X3 : Hid (HBox X (w.heap.size + 1 + 1 + 1) v) := x3
  have BX : Hid (Below w.heap.size w X) := bX
  obtain ⟨⟨a1, k1, f1⟩, ⟨a2, k2, f2⟩⟩ := hx.shape
  obtain ⟨⟨a3, k3, f3⟩, ⟨a4, k4, f4⟩⟩ := hy.shape
  obtain ⟨⟨a5, k5, f5⟩, ⟨a6, k6, f6⟩⟩ := hu.shape
  obtain ⟨⟨a7, k7, f7⟩, ⟨a8, k8, f8⟩⟩ := hv.shape
  obtain ⟨xp, xo, xn, P1, P2⟩ := x
  obtain ⟨yp, yo, yn, Q1, Q2⟩ := y
  obtain ⟨up, uo, un, R1, R2⟩ := u
  obtain ⟨vp, vo, vn, T1, T2⟩ := v
  simp only at f1 f2 f3 f4 f5 f6 f7 f8
  subst f1 f2 f3 f4 f5 f6 f7 f8
  simp only [HA.val] at S1 S2 hX ⊢
  clear hx hy hu hv x1 x3 bX e1 e2 sx sy
  go_enter Try.func30, Try.ntmps30
  go_wp2_with fail
  rw [← hX]
  clear hX
  refine Calls.mono S1.out ?_
  rintro e w1 ⟨rfl, b1⟩
  obtain ⟨c0, c1, c2⟩ := HBox.cells (HBox.below X1.out b1)
  obtain ⟨c3, c4, c5⟩ := HBox.cells (HBox.below X3.out b1)
  simp only at c0 c1 c2 c3 c4 c5
  have S3 : Hid (_) := S2.out w1 b1
  have B1 : Hid (Below w.heap.size w w1) := below_then BX.out b1
  clear S1 S2 b1
  go_wp2_with fail
  refine Calls.mono S3.out ?_
  rintro e w2 ⟨rfl, b2⟩
  go_wp2
  go_ret
  exact ⟨rfl, below_then B1.out b2⟩

end Go.Proofs.Ytflnakjffgobmaa

/-
  The walks of the law's own functions great and of (chapter 4).
-/
namespace Go.Proofs.Ytflnakjffgobmaa
open Go.RowKit Go.Shelf

attribute [local go_sem] Oper.semAt_some

set_option maxRecDepth 100000 in
set_option maxHeartbeats 8000000 in
theorem sgreat_any (x y : HA) (m : Nat) (w : World) (hx : x.Low m w) (hy : y.Low m w) (hm : m ≤ w.heap.size) (fx : x.Fits) (fy : y.Fits) (mx : x.Mach) (my : y.Mach) :
    Calls Try.prog 27 #[x.val, y.val] w fun e w' => ∃ r, e = .returned (.bool r) ∧ Below w.heap.size w w' ∧ (r = false → (x.old.length + x.new.length + y.old.length + y.new.length ≤ 2000) ∧ x.Short ∧ y.Short) := by
  obtain ⟨X, hX⟩ : ∃ X, X = (w.alloc (.cells #[.int .i64 x.at_, x.vo, x.vn] 41)).alloc (.cells #[.int .i64 y.at_, y.vo, y.vn] 41) := ⟨_, rfl⟩
  have bX : Below w.heap.size w X := by rw [hX]; exact below_then (below_nw w _) (below_nw _ _)
  have lx := hx.below bX hm
  have ly := hy.below bX hm
  have x0 : HBox X w.heap.size x := by rw [hX]; exact (HBox.new w x).below (below_nw _ _)
  have x1 : HBox X (w.heap.size + 1) y := by
    have h := HBox.new (w.alloc (.cells #[.int .i64 x.at_, x.vo, x.vn] 41)) y
    rw [World.size_alloc] at h
    rw [hX]; exact h
  obtain ⟨-, -, f1, f2⟩ := fx
  obtain ⟨-, -, f3, f4⟩ := fy
  have T1 : Hid (_) := textsOf_all x.old x.vo m (X.drewN 1) lx.1 mx.1 f1
  have T2 : Hid (_) := textsOf_all x.new x.vn m (X.drewN 1) lx.2 mx.2 f2
  have T3 : Hid (_) := textsOf_all y.old y.vo m (X.drewN 1) ly.1 my.1 f3
  have T4 : Hid (_) := textsOf_all y.new y.vn m (X.drewN 1) ly.2 my.2 f4
  have CC : Hid ((X.drewN 1).cell? ⟨w.heap.size, 1, none⟩ = some x.vo ∧ (X.drewN 1).cell? ⟨w.heap.size, 2, none⟩ = some x.vn ∧ (X.drewN 1).cell? ⟨w.heap.size + 1, 1, none⟩ = some y.vo ∧ (X.drewN 1).cell? ⟨w.heap.size + 1, 2, none⟩ = some y.vn) := ⟨x0.cells.2.1, x0.cells.2.2, x1.cells.2.1, x1.cells.2.2⟩
  have BX : Hid (Below w.heap.size w (X.drewN 1)) := below_drewN bX 1
  obtain ⟨⟨a1, k1, e1⟩, ⟨a2, k2, e2⟩⟩ := hx.shape
  obtain ⟨⟨a3, k3, e3⟩, ⟨a4, k4, e4⟩⟩ := hy.shape
  obtain ⟨p, vo, vn, L1, L2⟩ := x
  obtain ⟨q, uo, un, M1, M2⟩ := y
  simp only at e1 e2 e3 e4
  subst e1 e2 e3 e4
  simp only [HA.val] at hX ⊢
  clear hx hy lx ly x0 x1 bX f1 f2 f3 f4 mx my
  refine (callsIn_wide (n := 3)).1 ?_
  refine callsIn_of_wp Try.func27 rfl trivial ?_ rfl
  simp only [Try.ntmps27, List.size_toArray, List.length_cons, List.length_nil, Nat.reduceAdd, Nat.reduceSub, Array.replicate_succ, Array.replicate_zero, List.push_toArray, List.append_toArray, List.nil_append, List.cons_append]
  gi_wp2
  rw [← hX]
  clear hX
  refine region_lex (fun w' => w'.cell? ⟨w.heap.size, 1, none⟩ = some (.slice a1 L1.length k1) ∧ w'.cell? ⟨w.heap.size, 2, none⟩ = some (.slice a2 L2.length k2) ∧ w'.cell? ⟨w.heap.size + 1, 1, none⟩ = some (.slice a3 M1.length k3) ∧ w'.cell? ⟨w.heap.size + 1, 2, none⟩ = some (.slice a4 M2.length k4)) 2 15 rfl (by kernel_rfl) (by kernel_rfl) (by kernel_rfl) (by kernel_rfl) (fun _ _ d _ _ h => by cases d <;> exact h) CC.out ?_
  simp only [List.take_succ_cons, List.take_zero]
  iterate 2 (first
    | (apply lexC_want
       · rfl
       · exact fun _ => rfl
       · (intro w' hw'; obtain ⟨q0, q1, q2, q3⟩ := hw'; go_simp; try rfl)
       simp only [Act.put, List.setIfInBounds_toArray, List.set_cons_zero, List.set_cons_succ])
    | (apply lexC_skip
       · rfl
       · exact fun _ => rfl
       simp only [Act.put, List.setIfInBounds_toArray, List.set_cons_zero, List.set_cons_succ]))
  refine lexC_nil ?_
  refine anyC_take (i := 3) (v := .pointer (some ⟨w.heap.size, 2, none⟩)) rfl rfl (by kernel_rfl) (by kernel_rfl) (by kernel_rfl) (fun _ _ d _ _ h => by cases d <;> exact h) CC.out (by rfl) (fun _ => rfl) (by intro w' hw'; obtain ⟨q0, q1, q2, q3⟩ := hw'; go_simp; try rfl) ?_
  refine anyC_take (i := 4) (v := .slice a2 L2.length k2) rfl rfl (by kernel_rfl) (by kernel_rfl) (by kernel_rfl) (fun _ _ d _ _ h => by cases d <;> exact h) CC.out (by rfl) (fun _ => rfl) (by intro w' hw'; obtain ⟨q0, q1, q2, q3⟩ := hw'; go_simp; try rfl) ?_
  refine anyC_take (i := 7) (v := .pointer (some ⟨w.heap.size + 1, 1, none⟩)) rfl rfl (by kernel_rfl) (by kernel_rfl) (by kernel_rfl) (fun _ _ d _ _ h => by cases d <;> exact h) CC.out (by rfl) (fun _ => rfl) (by intro w' hw'; obtain ⟨q0, q1, q2, q3⟩ := hw'; go_simp; try rfl) ?_
  refine anyC_take (i := 8) (v := .slice a3 M1.length k3) rfl rfl (by kernel_rfl) (by kernel_rfl) (by kernel_rfl) (fun _ _ d _ _ h => by cases d <;> exact h) CC.out (by rfl) (fun _ => rfl) (by intro w' hw'; obtain ⟨q0, q1, q2, q3⟩ := hw'; go_simp; try rfl) ?_
  refine anyC_take (i := 11) (v := .pointer (some ⟨w.heap.size + 1, 2, none⟩)) rfl rfl (by kernel_rfl) (by kernel_rfl) (by kernel_rfl) (fun _ _ d _ _ h => by cases d <;> exact h) CC.out (by rfl) (fun _ => rfl) (by intro w' hw'; obtain ⟨q0, q1, q2, q3⟩ := hw'; go_simp; try rfl) ?_
  refine anyC_take (i := 12) (v := .slice a4 M2.length k4) rfl rfl (by kernel_rfl) (by kernel_rfl) (by kernel_rfl) (fun _ _ d _ _ h => by cases d <;> exact h) CC.out (by rfl) (fun _ => rfl) (by intro w' hw'; obtain ⟨q0, q1, q2, q3⟩ := hw'; go_simp; try rfl) ?_
  refine anyC_one (i := 2) (by kernel_rfl) rfl (by rfl) (fun K2 hK2 => ?_)
  go_simp
  refine ⟨trivial, ?_⟩
  refine (callsIn_wide.2 T1.out).mono ?_
  rintro e ww ⟨r1, rfl, hww, ur1, vr1, sr1⟩
  obtain rfl : ww = X.drewN 1 := hww
  refine hK2 _ _ CC.out ?_
  have Ur1 : Hid (_) := ur1
  clear hK2 ur1 T1
  refine anyC_one (i := 5) (by kernel_rfl) rfl (by rfl) (fun K5 hK5 => ?_)
  go_simp
  refine ⟨trivial, ?_⟩
  refine (callsIn_wide.2 T2.out).mono ?_
  rintro e ww ⟨r2, rfl, hww, ur2, vr2, sr2⟩
  obtain rfl : ww = X.drewN 1 := hww
  refine hK5 _ _ CC.out ?_
  have Ur2 : Hid (_) := ur2
  clear hK5 ur2 T2
  have w12 : IntKind.i64.wrap ((r1 : Int) + (r2 : Int)) = (r1 : Int) + (r2 : Int) := by rw [IntKind.wrap_i64]; omega
  refine anyC_take (i := 6) (v := .int .i64 ((r1 : Int) + (r2 : Int))) rfl rfl (by kernel_rfl) (by kernel_rfl) (by kernel_rfl) (fun _ _ d _ _ h => by cases d <;> exact h) CC.out (by rfl) (fun _ => rfl) (by intro w' hw'; obtain ⟨q0, q1, q2, q3⟩ := hw'; go_simp; try rfl) ?_
  refine anyC_one (i := 9) (by kernel_rfl) rfl (by rfl) (fun K9 hK9 => ?_)
  go_simp
  refine ⟨trivial, ?_⟩
  refine (callsIn_wide.2 T3.out).mono ?_
  rintro e ww ⟨r3, rfl, hww, ur3, vr3, sr3⟩
  obtain rfl : ww = X.drewN 1 := hww
  refine hK9 _ _ CC.out ?_
  have Ur3 : Hid (_) := ur3
  clear hK9 ur3 T3
  have w13 : IntKind.i64.wrap ((r1 : Int) + (r2 : Int) + (r3 : Int)) = (r1 : Int) + (r2 : Int) + (r3 : Int) := by rw [IntKind.wrap_i64]; omega
  refine anyC_take (i := 10) (v := .int .i64 ((r1 : Int) + (r2 : Int) + (r3 : Int))) rfl rfl (by kernel_rfl) (by kernel_rfl) (by kernel_rfl) (fun _ _ d _ _ h => by cases d <;> exact h) CC.out (by rfl) (fun _ => rfl) (by intro w' hw'; obtain ⟨q0, q1, q2, q3⟩ := hw'; go_simp; try rfl) ?_
  refine anyC_one (i := 13) (by kernel_rfl) rfl (by rfl) (fun K13 hK13 => ?_)
  go_simp
  refine ⟨trivial, ?_⟩
  refine (callsIn_wide.2 T4.out).mono ?_
  rintro e ww ⟨r4, rfl, hww, ur4, vr4, sr4⟩
  obtain rfl : ww = X.drewN 1 := hww
  refine hK13 _ _ CC.out ?_
  have Ur4 : Hid (_) := ur4
  clear hK13 ur4 T4
  have w14 : IntKind.i64.wrap ((r1 : Int) + (r2 : Int) + (r3 : Int) + (r4 : Int)) = (r1 : Int) + (r2 : Int) + (r3 : Int) + (r4 : Int) := by rw [IntKind.wrap_i64]; omega
  refine anyC_one (i := 14) (by kernel_rfl) rfl (by rfl) (fun K hK => ?_)
  go_simp
  refine hK _ _ CC.out ?_
  clear hK
  refine anyC_one (i := 15) (by kernel_rfl) rfl (by rfl) (fun K hK => ?_)
  go_simp
  refine hK _ _ CC.out ?_
  clear hK
  refine anyC_one (i := 16) (by kernel_rfl) rfl (by rfl) (fun K hK => ?_)
  go_simp
  refine hK _ _ CC.out ?_
  clear hK
  refine anyC_done (by kernel_rfl) ?_
  gi_wp2
  refine bodyPost_ret (results_tmp rfl _ _ _) rfl ⟨_, rfl, BX.out, fun h => ?_⟩
  have h9 : (r1 : Int) + (r2 : Int) + (r3 : Int) + (r4 : Int) ≤ 2000 := by simpa using h
  exact ⟨by show L1.length + L2.length + M1.length + M2.length ≤ 2000; omega, ⟨Ur1.out (by omega), Ur2.out (by omega)⟩, ⟨Ur3.out (by omega), Ur4.out (by omega)⟩⟩

end Go.Proofs.Ytflnakjffgobmaa

/-
  The walk of the law's own function of (chapter 4): a hunk of lines of one byte each.
-/
namespace Go.Proofs.Ytflnakjffgobmaa
open Go.RowKit Go.Shelf

attribute [local go_sem] Oper.semAt_some

/-- Lines of one byte each. -/
def ones (l : List UInt8) : List (List UInt8) := l.map fun c => [c, 10]
theorem ones_succ (l : List UInt8) (k : Nat) (c : UInt8) (h : l[k]? = some c) : (ones (l.take (k + 1))).map txtV = (ones (l.take k)).map txtV ++ [.string (Ln.bs [c, 10])] := by
  rw [List.take_add_one, h]; simp [ones, txtV]
theorem ones_take_len (l : List UInt8) (k : Nat) (h : k ≤ l.length) : ((ones (l.take k)).map txtV).length = k := by
  simp [ones]; omega
/-- The variable of the hunk so far. -/
def OfBox (w0 w : World) (B2 : Nat) (b : Nat) (p : Int) (vo vn : Value) (l t : List UInt8) (k j : Nat) : Prop :=
  w.heap[b]? = some (.cells #[.int .i64 p, vo, vn] 41 (0, 0)) ∧ w.ownsRow w0.heap.size 9 1 vo k ((ones (l.take k)).map txtV) ∧ w.ownsRow B2 9 1 vn j ((ones (t.take j)).map txtV) ∧ Below w0.heap.size w0 w ∧ w0.heap.size ≤ b
set_option maxRecDepth 100000 in
theorem slice_one (l : List UInt8) (k : Nat) (c : UInt8) (h : l[k]? = some c) (w : World) : (Instr.slice 9 (.string (Ln.bs l)) (some (.int .i64 k)) (some (.int .i64 ((k : Int) + 1))) none).run Try.prog w = .ok (.string (Ln.bs [c])) w := by
  have hk : k < l.length := (List.getElem?_eq_some_iff.1 h).1
  have q := run_slice_string (P := Try.prog) w 9 (Ln.bs l) .i64 .i64 (k : Int) ((k : Int) + 1) Try.underlying9 (by omega) (by omega) (by rw [Ln.bs_size]; omega)
  rw [q]
  congr 2
  have e : ((k : Int) + 1).toNat = k + 1 := by omega
  rw [Int.toNat_natCast, e]
  apply ByteArray.ext
  rw [ByteArray.data_extract]
  show ((l.toArray).extract k (k + 1)) = _
  apply Array.ext'
  rw [Array.toList_extract]
  simp only [List.extract_eq_take_drop, Nat.add_sub_cancel_left]
  show (l.drop k).take 1 = [c]
  rw [List.drop_eq_getElem_cons hk, (List.getElem?_eq_some_iff.1 h).2]
  rfl

set_option maxRecDepth 100000 in
set_option maxHeartbeats 8000000 in
theorem of_any (p : Int) (l t : List UInt8) (w : World) (hl : l.length ≤ 1000) (ht : t.length ≤ 1000) :
    Calls Try.prog 49 #[.int .i64 p, .string (Ln.bs l), .string (Ln.bs t)] w fun e w' => ∃ x : HA, e = .returned x.val ∧ x.h = ⟨p, ones l, ones t⟩ ∧ x.Low w'.heap.size w' ∧ Below w.heap.size w w' := by
  obtain ⟨i0, hi, hz0, hz1, hz2⟩ := info_parts info9
  have hsz1 : (Ln.bs l).size = l.length := rfl
  have hsz2 : (Ln.bs t).size = t.length := rfl
  have hs1 : (Ln.bs l).size ≤ 1000 := hl
  have hs2 : (Ln.bs t).size ≤ 1000 := ht
  obtain ⟨X, hX⟩ : ∃ X, X = (w.alloc (.cells #[.int .i64 0, .slice none 0 0, .slice none 0 0] 41)).alloc (.cells #[.int .i64 p, .slice none 0 0, .slice none 0 0] 41) := ⟨_, rfl⟩
  have bX : Below w.heap.size w X := by rw [hX]; exact below_then (below_nw w _) (below_nw _ _)
  have x0 : HBox X w.heap.size zeroHA := by rw [hX]; exact (HBox.new w zeroHA).below (below_nw _ _)
  have x1 : X.heap[w.heap.size + 1]? = some (.cells #[.int .i64 p, .slice none 0 0, .slice none 0 0] 41 (0, 0)) := by
    have h := World.alloc_heap_new (w.alloc (.cells #[.int .i64 0, .slice none 0 0, .slice none 0 0] 41)) (.cells #[.int .i64 p, .slice none 0 0, .slice none 0 0] 41)
    rw [World.size_alloc] at h
    rw [hX]; exact h
  have ST : Hid (OfBox w X 0 (w.heap.size + 1) p (.slice none 0 0) (.slice none 0 0) l t 0 0 ∧ HBox X w.heap.size zeroHA) := ⟨⟨x1, World.ownsRow_nil _ _ _ _, World.ownsRow_nil _ _ _ _, bX, by omega⟩, x0⟩
  clear x0 x1 bX
  refine (callsIn_wide (n := 3)).1 ?_
  refine callsIn_of_wp Try.func49 rfl trivial ?_ rfl
  simp only [Try.ntmps49, List.size_toArray, List.length_cons, List.length_nil, Nat.reduceAdd, Nat.reduceSub, Array.replicate_succ, Array.replicate_zero, List.push_toArray, List.append_toArray, List.nil_append, List.cons_append]
  gi_wp2
  rw [← hX]
  clear hX
  gi_loopw [8] (fun i wr => ∃ (k : Nat) (vo : Value), k ≤ l.length ∧ i = .int .i64 k ∧ OfBox w wr 0 (w.heap.size + 1) p vo (.slice none 0 0) l t k 0 ∧ HBox wr w.heap.size zeroHA) (fun i _ => l.length - (intOf i).toNat)
  case atStart => exact ⟨0, _, Nat.zero_le _, rfl, ST.out.1, ST.out.2⟩
  case round =>
    clear ST
    obtain ⟨k, vo, hk, rfl, hof, hz⟩ := hrel
    obtain ⟨ao1, cp1, rfl⟩ := slice_shape hof.2.1
    have HZ : Hid (HBox wr w.heap.size zeroHA) := hz
    by_cases hlt : k < l.length
    · obtain ⟨c, hc⟩ : ∃ c, l[k]? = some c := ⟨l[k], List.getElem?_eq_getElem hlt⟩
      have d1 : decide ((k : Int) < (l.length : Int)) = true := by simp; omega
      have d2 : decide (k < l.length) = true := by simp; omega
      have hsl := slice_one l k c hc
      have hwi : IntKind.i64.wrap ((k : Int) + 1) = (k : Int) + 1 := by rw [IntKind.wrap_i64]; omega
      have hnx := ones_succ l k c hc
      obtain ⟨q0, q1, q2, q3, q4⟩ := hof
      have bA : Below wr.heap.size wr (wr.drew.alloc (.cells #[.string (Ln.bs [c, 10])] 9)) := (below_drewN (Below.refl _ wr) 1).alloc (by simp [World.drewN]) _
      obtain ⟨v', W', hrun, hown, hgr, -⟩ := run_append_own (P := Try.prog) (wr.drew.alloc (.cells #[.string (Ln.bs [c, 10])] 9)) w.heap.size 22 22 9 i0 (.string ⟨#[]⟩) 1 16 Try.underlying22 hi hz0 hz1 hz2 rfl (by decide) (.slice ao1 k cp1) _ _ (owns_below q1 bA) ⟨wr.heap.size, 0, none⟩ 1 1 [.string (Ln.bs [c, 10])] rfl (cell_one_new wr.drew _ _) (by simp [Value.oneCell']) (by unfold maxLen; omega) (by omega) (by have := q3.size; simp; omega)
      obtain ⟨gv, cv, rfl⟩ := ownsRow_succ hown
      have hh1 := heap_grown (owns_below q1 bA) hgr ((bA.block _ (Array.getElem?_eq_some_iff.1 q0).1).trans q0) (by decide)
      have cB : wr.cell? ⟨w.heap.size + 1, 1, none⟩ = some (.slice ao1 k cp1) := by rw [Lib.cell_of_heap q0]; rfl
      have cB2 : W'.cell? ⟨w.heap.size + 1, 1, none⟩ = some (.slice ao1 k cp1) := by rw [Lib.cell_of_heap hh1]; rfl
      have fB2 : W'.frozen? ⟨w.heap.size + 1, 1, none⟩ = false := frozen_of_row W' _ _ _ _ hh1
      have cB3 : (wr.drew.alloc (.cells #[.string (Ln.bs [c, 10])] 9)).cell? ⟨w.heap.size + 1, 1, none⟩ = some (.slice ao1 k cp1) := (bA.cell (p := ⟨w.heap.size + 1, 1, none⟩) (Array.getElem?_eq_some_iff.1 q0).1).trans cB
      have cB4 : (wr.alloc (.cells #[.string (Ln.bs [c, 10])] 9)).cell? ⟨w.heap.size + 1, 1, none⟩ = some (.slice ao1 k cp1) := cB3
      have HFIN : Hid (OfBox w (W'.setCell ⟨w.heap.size + 1, 1, none⟩ (.slice (some ⟨gv, 0, none⟩) (k + 1) cv)) 0 (w.heap.size + 1) p (.slice (some ⟨gv, 0, none⟩) (k + 1) cv) (.slice none 0 0) l t (k + 1) 0 ∧ HBox (W'.setCell ⟨w.heap.size + 1, 1, none⟩ (.slice (some ⟨gv, 0, none⟩) (k + 1) cv)) w.heap.size zeroHA) := by
        have hZ := HBox.below HZ.out bA
        have hZ2 : HBox W' w.heap.size zeroHA := heap_grown (owns_below q1 bA) hgr hZ (by decide)
        refine ⟨⟨heap_setCell_same W' _ _ _ 41 _ hh1, ?_, ?_, ?_, q4⟩, ?_⟩
        · rw [hnx]; exact owns_set hown hh1 (by decide) _ _
        · exact World.ownsRow_nil _ _ _ _
        · have b1 : Below w.heap.size w W' := (below_then q3 bA).grown hgr (by have := (below_then q3 bA).size; omega) (fun q hq => by have := ((owns_below q1 bA).lt q hq).1; omega)
          exact below_grown b1 (grown_set W' _ _ _) (by omega) b1.size
        · exact hZ2.grown (grown_set W' (w.heap.size + 1) _ _) (by omega)
      clear hown hgr hh1 q0 q1 q2 q3 hz hnx bA
      gi_wp2
      refine region_lex (fun _ => True) 1 11 rfl (by kernel_rfl) (by kernel_rfl) (by kernel_rfl) (by kernel_rfl) (fun _ _ d _ _ h => by cases d <;> exact h) trivial ?_
      simp only [List.take_succ_cons, List.take_zero]
      apply lexC_want
      · rfl
      · exact fun _ => rfl
      · intro w' hw'; go_simp; try rfl
      simp only [Act.put, List.setIfInBounds_toArray, List.set_cons_zero, List.set_cons_succ]
      refine lexC_nil ?_
      refine anyC_take (i := 2) (v := .string (Ln.bs l)) rfl rfl (by kernel_rfl) (by kernel_rfl) (by kernel_rfl) (fun _ _ d _ _ h => by cases d <;> exact h) trivial (by rfl) (fun _ => rfl) (by intro w' _; go_simp; try rfl) ?_
      refine anyC_take (i := 3) (v := .int .i64 k) rfl rfl (by kernel_rfl) (by kernel_rfl) (by kernel_rfl) (fun _ _ d _ _ h => by cases d <;> exact h) trivial (by rfl) (fun _ => rfl) (by intro w' _; go_simp; try rfl) ?_
      refine anyC_take (i := 4) (v := .int .i64 k) rfl rfl (by kernel_rfl) (by kernel_rfl) (by kernel_rfl) (fun _ _ d _ _ h => by cases d <;> exact h) trivial (by rfl) (fun _ => rfl) (by intro w' _; go_simp; try rfl) ?_
      refine anyC_take (i := 5) (v := .int .i64 ((k : Int) + 1)) rfl rfl (by kernel_rfl) (by kernel_rfl) (by kernel_rfl) (fun _ _ d _ _ h => by cases d <;> exact h) trivial (by rfl) (fun _ => rfl) (by intro w' _; go_simp; try rfl) ?_
      refine anyC_take (i := 6) (v := .string (Ln.bs [c])) rfl rfl (by kernel_rfl) (by kernel_rfl) (by kernel_rfl) (fun _ _ d _ _ h => by cases d <;> exact h) trivial (by rfl) (fun _ => rfl) (by intro w' _; go_simp; try rfl) ?_
      refine anyC_take (i := 7) (v := .string (Ln.bs [c, 10])) rfl rfl (by kernel_rfl) (by kernel_rfl) (by kernel_rfl) (fun _ _ d _ _ h => by cases d <;> exact h) trivial (by rfl) (fun _ => rfl) (by intro w' _; go_simp; try rfl) ?_
      refine anyC_two (i := 1) (j := 8) (by kernel_rfl) rfl rfl (by rfl) (by rfl) (fun K1 hK1 => ?_) (fun K1 hK1 => ?_)
      · go_simp
        refine hK1 _ _ trivial ?_
        clear hK1
        refine anyC_one (i := 8) (by kernel_rfl) rfl (by rfl) (fun K2 hK2 => ?_)
        go_simp
        refine hK2 _ _ trivial ?_
        clear hK2
        refine anyC_one (i := 9) (by kernel_rfl) rfl (by rfl) (fun K4 hK4 => ?_)
        refine op_append _ _ 22 rfl _ _ _ _ rfl rfl hrun (hK4 _ _ trivial ?_)
        clear hK4
        refine anyC_one (i := 10) (by kernel_rfl) rfl (by rfl) (fun K5 hK5 => ?_)
        go_simp
        refine hK5 _ _ trivial ?_
        clear hK5
        refine anyC_one (i := 11) (by kernel_rfl) rfl (by rfl) (fun K6 hK6 => ?_)
        go_simp
        refine hK6 _ _ trivial ?_
        clear hK6
        refine anyC_done (by kernel_rfl) ?_
        gi_wp2
        go_roundw
        case rel => exact ⟨k + 1, _, by omega, by go_num, HFIN.out.1, HFIN.out.2⟩
        case measure => simp [intOf]; omega
      · go_simp
        refine hK1 _ _ trivial ?_
        clear hK1
        refine anyC_one (i := 1) (by kernel_rfl) rfl (by rfl) (fun K2 hK2 => ?_)
        go_simp
        refine hK2 _ _ trivial ?_
        clear hK2
        refine anyC_one (i := 9) (by kernel_rfl) rfl (by rfl) (fun K4 hK4 => ?_)
        refine op_append _ _ 22 rfl _ _ _ _ rfl rfl hrun (hK4 _ _ trivial ?_)
        clear hK4
        refine anyC_one (i := 10) (by kernel_rfl) rfl (by rfl) (fun K5 hK5 => ?_)
        go_simp
        refine hK5 _ _ trivial ?_
        clear hK5
        refine anyC_one (i := 11) (by kernel_rfl) rfl (by rfl) (fun K6 hK6 => ?_)
        go_simp
        refine hK6 _ _ trivial ?_
        clear hK6
        refine anyC_done (by kernel_rfl) ?_
        gi_wp2
        go_roundw
        case rel => exact ⟨k + 1, _, by omega, by go_num, HFIN.out.1, HFIN.out.2⟩
        case measure => simp [intOf]; omega
    · have hkl : k = l.length := by omega
      have HOF : Hid (OfBox w wr wr.heap.size (w.heap.size + 1) p (.slice ao1 k cp1) (.slice none 0 0) l t k 0) := ⟨hof.1, hof.2.1, World.ownsRow_nil _ _ _ _, hof.2.2.2⟩
      obtain ⟨B2, hB2⟩ : ∃ B2, B2 = wr.heap.size := ⟨_, rfl⟩
      have LB2 : Hid (∀ b, (Value.slice ao1 k cp1).ownBlock = some b → b < B2) := fun b hb => by rw [hB2]; exact (hof.2.1.lt b hb).2
      rw [← hB2] at HOF
      have HB2 : Hid (B2 = wr.heap.size) := hB2
      have LE2 : Hid (w.heap.size ≤ B2) := by rw [Hid, hB2]; exact hof.2.2.2.1.size
      clear hB2
      have d1 : decide ((k : Int) < (l.length : Int)) = false := by simp; omega
      have d2 : decide (k < l.length) = false := by simp; omega
      have HKL : Hid (k = l.length) := hkl
      clear hof hz hkl hlt
      gi_wp2
      gi_loopw [9] (fun i wr => ∃ (j : Nat) (vn : Value), j ≤ t.length ∧ i = .int .i64 j ∧ OfBox w wr B2 (w.heap.size + 1) p (.slice ao1 k cp1) vn l t k j ∧ B2 ≤ wr.heap.size ∧ HBox wr w.heap.size zeroHA) (fun i _ => t.length - (intOf i).toNat)
      case atStart => exact ⟨0, _, Nat.zero_le _, rfl, HOF.out, by rw [HB2.out]; exact Nat.le_refl _, HZ.out⟩
      case round =>
        clear HOF HZ d1 d2 HB2
        obtain ⟨j, vn, hj, rfl, hof, hle2, hz⟩ := hrel
        obtain ⟨ao2, cp2, rfl⟩ := slice_shape hof.2.2.1
        have HZ : Hid (HBox wr w.heap.size zeroHA) := hz
        by_cases hlt : j < t.length
        · obtain ⟨c, hc⟩ : ∃ c, t[j]? = some c := ⟨t[j], List.getElem?_eq_getElem hlt⟩
          have d1 : decide ((j : Int) < (t.length : Int)) = true := by simp; omega
          have d2 : decide (j < t.length) = true := by simp; omega
          have hsl := slice_one t j c hc
          have hwi : IntKind.i64.wrap ((j : Int) + 1) = (j : Int) + 1 := by rw [IntKind.wrap_i64]; omega
          have hnx := ones_succ t j c hc
          obtain ⟨q0, q1, q2, q3, q4⟩ := hof
          have bA : Below wr.heap.size wr (wr.drew.alloc (.cells #[.string (Ln.bs [c, 10])] 9)) := (below_drewN (Below.refl _ wr) 1).alloc (by simp [World.drewN]) _
          obtain ⟨v', W', hrun, hown, hgr, -⟩ := run_append_own (P := Try.prog) (wr.drew.alloc (.cells #[.string (Ln.bs [c, 10])] 9)) B2 22 22 9 i0 (.string ⟨#[]⟩) 1 16 Try.underlying22 hi hz0 hz1 hz2 rfl (by decide) (.slice ao2 j cp2) _ _ (owns_below q2 bA) ⟨wr.heap.size, 0, none⟩ 1 1 [.string (Ln.bs [c, 10])] rfl (cell_one_new wr.drew _ _) (by simp [Value.oneCell']) (by unfold maxLen; omega) (by omega) (by have := q3.size; have := LE2.out; simp; omega)
          obtain ⟨gv, cv, rfl⟩ := ownsRow_succ hown
          have hh1 := heap_grown (owns_below q2 bA) hgr ((bA.block _ (Array.getElem?_eq_some_iff.1 q0).1).trans q0) (by decide)
          have cB : wr.cell? ⟨w.heap.size + 1, 2, none⟩ = some (.slice ao2 j cp2) := by rw [Lib.cell_of_heap q0]; rfl
          have cB2 : W'.cell? ⟨w.heap.size + 1, 2, none⟩ = some (.slice ao2 j cp2) := by rw [Lib.cell_of_heap hh1]; rfl
          have fB2 : W'.frozen? ⟨w.heap.size + 1, 2, none⟩ = false := frozen_of_row W' _ _ _ _ hh1
          have cB3 : (wr.drew.alloc (.cells #[.string (Ln.bs [c, 10])] 9)).cell? ⟨w.heap.size + 1, 2, none⟩ = some (.slice ao2 j cp2) := (bA.cell (p := ⟨w.heap.size + 1, 2, none⟩) (Array.getElem?_eq_some_iff.1 q0).1).trans cB
          have cB4 : (wr.alloc (.cells #[.string (Ln.bs [c, 10])] 9)).cell? ⟨w.heap.size + 1, 2, none⟩ = some (.slice ao2 j cp2) := cB3
          have HFIN : Hid (OfBox w (W'.setCell ⟨w.heap.size + 1, 2, none⟩ (.slice (some ⟨gv, 0, none⟩) (j + 1) cv)) B2 (w.heap.size + 1) p (.slice ao1 k cp1) (.slice (some ⟨gv, 0, none⟩) (j + 1) cv) l t k (j + 1) ∧ B2 ≤ (W'.setCell ⟨w.heap.size + 1, 2, none⟩ (.slice (some ⟨gv, 0, none⟩) (j + 1) cv)).heap.size ∧ HBox (W'.setCell ⟨w.heap.size + 1, 2, none⟩ (.slice (some ⟨gv, 0, none⟩) (j + 1) cv)) w.heap.size zeroHA) := by
            have hZ := HBox.below HZ.out bA
            have hZ2 : HBox W' w.heap.size zeroHA := heap_grown (owns_below q2 bA) hgr hZ (by decide)
            refine ⟨⟨heap_setCell_same W' _ _ _ 41 _ hh1, ?_, ?_, ?_, q4⟩, ?_, ?_⟩
            · refine owns_set ((owns_below q1 bA).kept hgr ?_) hh1 (by decide) _ _
              cases hb : Value.ownBlock (.slice ao1 k cp1) with
              | none => exact .inl rfl
              | some b => exact .inr (fun e => by have h1 := LB2.out b hb; have h2 := (q2.lt b e.symm).1; omega)
            · rw [hnx]; exact owns_set hown hh1 (by decide) _ _
            · have b1 : Below w.heap.size w W' := (below_then q3 bA).grown hgr (by have := (below_then q3 bA).size; omega) (fun q hq => by have := ((owns_below q2 bA).lt q hq).1; have := LE2.out; omega)
              exact below_grown b1 (grown_set W' _ _ _) (by omega) b1.size
            · have h1 := hgr.size; have h2 := bA.size; have h3 := (grown_set W' (w.heap.size + 1) 2 (.slice (some ⟨gv, 0, none⟩) (j + 1) cv)).size; omega
            · exact hZ2.grown (grown_set W' (w.heap.size + 1) _ _) (by omega)
          clear hown hgr hh1 q0 q1 q2 q3 hz hnx bA
          gi_wp2
          refine region_lex (fun _ => True) 1 11 rfl (by kernel_rfl) (by kernel_rfl) (by kernel_rfl) (by kernel_rfl) (fun _ _ d _ _ h => by cases d <;> exact h) trivial ?_
          simp only [List.take_succ_cons, List.take_zero]
          apply lexC_want
          · rfl
          · exact fun _ => rfl
          · intro w' hw'; go_simp; try rfl
          simp only [Act.put, List.setIfInBounds_toArray, List.set_cons_zero, List.set_cons_succ]
          refine lexC_nil ?_
          refine anyC_take (i := 2) (v := .string (Ln.bs t)) rfl rfl (by kernel_rfl) (by kernel_rfl) (by kernel_rfl) (fun _ _ d _ _ h => by cases d <;> exact h) trivial (by rfl) (fun _ => rfl) (by intro w' _; go_simp; try rfl) ?_
          refine anyC_take (i := 3) (v := .int .i64 j) rfl rfl (by kernel_rfl) (by kernel_rfl) (by kernel_rfl) (fun _ _ d _ _ h => by cases d <;> exact h) trivial (by rfl) (fun _ => rfl) (by intro w' _; go_simp; try rfl) ?_
          refine anyC_take (i := 4) (v := .int .i64 j) rfl rfl (by kernel_rfl) (by kernel_rfl) (by kernel_rfl) (fun _ _ d _ _ h => by cases d <;> exact h) trivial (by rfl) (fun _ => rfl) (by intro w' _; go_simp; try rfl) ?_
          refine anyC_take (i := 5) (v := .int .i64 ((j : Int) + 1)) rfl rfl (by kernel_rfl) (by kernel_rfl) (by kernel_rfl) (fun _ _ d _ _ h => by cases d <;> exact h) trivial (by rfl) (fun _ => rfl) (by intro w' _; go_simp; try rfl) ?_
          refine anyC_take (i := 6) (v := .string (Ln.bs [c])) rfl rfl (by kernel_rfl) (by kernel_rfl) (by kernel_rfl) (fun _ _ d _ _ h => by cases d <;> exact h) trivial (by rfl) (fun _ => rfl) (by intro w' _; go_simp; try rfl) ?_
          refine anyC_take (i := 7) (v := .string (Ln.bs [c, 10])) rfl rfl (by kernel_rfl) (by kernel_rfl) (by kernel_rfl) (fun _ _ d _ _ h => by cases d <;> exact h) trivial (by rfl) (fun _ => rfl) (by intro w' _; go_simp; try rfl) ?_
          refine anyC_two (i := 1) (j := 8) (by kernel_rfl) rfl rfl (by rfl) (by rfl) (fun K1 hK1 => ?_) (fun K1 hK1 => ?_)
          · go_simp
            refine hK1 _ _ trivial ?_
            clear hK1
            refine anyC_one (i := 8) (by kernel_rfl) rfl (by rfl) (fun K2 hK2 => ?_)
            go_simp
            refine hK2 _ _ trivial ?_
            clear hK2
            refine anyC_one (i := 9) (by kernel_rfl) rfl (by rfl) (fun K4 hK4 => ?_)
            refine op_append _ _ 22 rfl _ _ _ _ rfl rfl hrun (hK4 _ _ trivial ?_)
            clear hK4
            refine anyC_one (i := 10) (by kernel_rfl) rfl (by rfl) (fun K5 hK5 => ?_)
            go_simp
            refine hK5 _ _ trivial ?_
            clear hK5
            refine anyC_one (i := 11) (by kernel_rfl) rfl (by rfl) (fun K6 hK6 => ?_)
            go_simp
            refine hK6 _ _ trivial ?_
            clear hK6
            refine anyC_done (by kernel_rfl) ?_
            gi_wp2
            go_roundw
            case rel => exact ⟨j + 1, _, by omega, by go_num, HFIN.out.1, HFIN.out.2.1, HFIN.out.2.2⟩
            case measure => simp [intOf]; omega
          · go_simp
            refine hK1 _ _ trivial ?_
            clear hK1
            refine anyC_one (i := 1) (by kernel_rfl) rfl (by rfl) (fun K2 hK2 => ?_)
            go_simp
            refine hK2 _ _ trivial ?_
            clear hK2
            refine anyC_one (i := 9) (by kernel_rfl) rfl (by rfl) (fun K4 hK4 => ?_)
            refine op_append _ _ 22 rfl _ _ _ _ rfl rfl hrun (hK4 _ _ trivial ?_)
            clear hK4
            refine anyC_one (i := 10) (by kernel_rfl) rfl (by rfl) (fun K5 hK5 => ?_)
            go_simp
            refine hK5 _ _ trivial ?_
            clear hK5
            refine anyC_one (i := 11) (by kernel_rfl) rfl (by rfl) (fun K6 hK6 => ?_)
            go_simp
            refine hK6 _ _ trivial ?_
            clear hK6
            refine anyC_done (by kernel_rfl) ?_
            gi_wp2
            go_roundw
            case rel => exact ⟨j + 1, _, by omega, by go_num, HFIN.out.1, HFIN.out.2.1, HFIN.out.2.2⟩
            case measure => simp [intOf]; omega
        · have hjl : j = t.length := by omega
          have d1 : decide ((j : Int) < (t.length : Int)) = false := by simp; omega
          have d2 : decide (j < t.length) = false := by simp; omega
          obtain ⟨y0, y1, y2⟩ := HBox.cells (x := ⟨p, .slice ao1 k cp1, .slice ao2 j cp2, ones l, ones t⟩) hof.1
          simp only at y0 y1 y2
          obtain ⟨f0, f1, f2, ff⟩ := hbox_facts hz (.int .i64 p) (.slice ao1 k cp1)
          obtain ⟨W8, hW8, h8, g8, o8⟩ := hbox_put hz ⟨p, .slice ao1 k cp1, .slice ao2 j cp2, ones l, ones t⟩
          simp only [zeroHA] at f0 f1 f2
          simp only at hW8
          obtain ⟨c0, c1, c2⟩ := h8.cells
          simp only at c0 c1 c2
          have HF : Hid (∃ x : HA, x.val = .agg #[.int .i64 p, .slice ao1 k cp1, .slice ao2 j cp2] ∧ x.h = ⟨p, ones l, ones t⟩ ∧ x.Low W8.heap.size W8 ∧ Below w.heap.size w W8) := by
            obtain ⟨-, q1, q2, q3, q4⟩ := hof
            rw [HKL.out, List.take_length] at q1
            rw [hjl, List.take_length] at q2
            have n1 : (ones l).length = l.length := by simp [ones]
            have n2 : (ones t).length = t.length := by simp [ones]
            refine ⟨⟨p, .slice ao1 k cp1, .slice ao2 j cp2, ones l, ones t⟩, rfl, rfl, ⟨?_, ?_⟩, below_grown q3 g8 (Nat.le_refl _) q3.size⟩
            · refine RowLow.of_owns (B := w.heap.size) ?_
              rw [n1, HKL.out]
              exact o8 _ _ _ _ q1
            · refine RowLow.of_owns (B := B2) ?_
              rw [n2, hjl]
              exact o8 _ _ _ _ q2
          clear hof hz h8 g8 o8 HZ hjl hlt
          gi_wp2
          rw [← hW8]
          refine bodyPost_ret (v := .agg #[.int .i64 p, .slice ao1 k cp1, .slice ao2 j cp2]) (by simp [results, Try.results49, go_sem, c0, c1, c2]) rfl ?_
          obtain ⟨x, h1, h2, h3, h4⟩ := HF.out
          exact ⟨x, by rw [h1], h2, h3, h4⟩

end Go.Proofs.Ytflnakjffgobmaa

/-
  The walk of the law's awake (chapter 4): the chapter's examples.
-/
namespace Go.Proofs.Ytflnakjffgobmaa
open Go.RowKit Go.Shelf

attribute [local go_sem] Oper.semAt_some

theorem HA.Low.at {A B : World} {x : HA} (h : x.Low A.heap.size A) (hb : Below A.heap.size A B) : x.Low B.heap.size B := (h.below hb (Nat.le_refl _)).mono hb.size
theorem fine_mk {p : Int} {vo vn : Value} {l t : List (List UInt8)} (hp : -1000 ≤ p ∧ p ≤ 1000) (h1 : few l = true) (h2 : few t = true) : HA.Fine ⟨p, vo, vn, l, t⟩ := by
  obtain ⟨k1, t1⟩ := few_spec h1
  obtain ⟨k2, t2⟩ := few_spec h2
  exact ⟨⟨by show l.length ≤ _; omega, by show t.length ≤ _; omega⟩, ⟨fun s hs => by have := t1 s hs; omega, fun s hs => by have := t2 s hs; omega⟩, ⟨⟨by show _ ≤ p; omega, by show p ≤ _; omega⟩, ⟨by show l.length ≤ _; omega, by show t.length ≤ _; omega⟩, fun s hs => by have := t1 s hs; omega, fun s hs => by have := t2 s hs; omega⟩⟩
theorem low_shape {W : World} {m : Nat} {x : HA} (h : x.Low m W) (n1 n2 : Nat) (h1 : x.old.length = n1) (h2 : x.new.length = n2) : ∃ a1 c1 a2 c2, x = ⟨x.at_, .slice a1 n1 c1, .slice a2 n2 c2, x.old, x.new⟩ := by
  obtain ⟨⟨a1, k1, e1⟩, ⟨a2, k2, e2⟩⟩ := h.shape
  refine ⟨a1, k1, a2, k2, ?_⟩
  rw [← h1, ← h2, ← e1, ← e2]
/-- A hunk of lines of one byte each, its lengths said. -/
theorem of_at (p : Int) (l t : List UInt8) (n1 n2 : Nat) (h1 : l.length = n1) (h2 : t.length = n2) (k1 : n1 ≤ 1000) (k2 : n2 ≤ 1000) (w : World) :
    Calls Try.prog 49 #[.int .i64 p, .string (Ln.bs l), .string (Ln.bs t)] w fun e w' => ∃ a1 c1 a2 c2, e = .returned (.agg #[.int .i64 p, .slice a1 n1 c1, .slice a2 n2 c2]) ∧ HA.Low w'.heap.size w' ⟨p, .slice a1 n1 c1, .slice a2 n2 c2, ones l, ones t⟩ ∧ Below w.heap.size w w' := by
  refine (of_any p l t w (by omega) (by omega)).mono ?_
  rintro e w' ⟨x, rfl, hx, lx, b⟩
  obtain ⟨xp, xo, xn, X1, X2⟩ := x
  simp only [HA.h, Hn.H.mk.injEq] at hx
  obtain ⟨rfl, rfl, rfl⟩ := hx
  obtain ⟨a1, c1, a2, c2, e1⟩ := low_shape lx n1 n2 (by simp [ones, h1]) (by simp [ones, h2])
  simp only [HA.mk.injEq] at e1
  obtain ⟨-, rfl, rfl, -⟩ := e1
  exact ⟨a1, c1, a2, c2, rfl, lx, b⟩
/-- What is told without an error, its lengths said. -/
theorem ShPost.ok {w w' : World} {e : Ending} {r : Except Nat (Hn.H × Hn.H)} {p q : Int} {l1 l2 l3 l4 : List (List UInt8)} (h : ShPost r w e w') (hr : r = .ok (⟨p, l1, l2⟩, ⟨q, l3, l4⟩)) (n1 n2 n3 n4 : Nat) (h1 : l1.length = n1) (h2 : l2.length = n2) (h3 : l3.length = n3) (h4 : l4.length = n4) :
    ∃ a1 c1 a2 c2 a3 c3 a4 c4, e = .returned (.tuple #[.agg #[.int .i64 p, .slice a1 n1 c1, .slice a2 n2 c2], .agg #[.int .i64 q, .slice a3 n3 c3, .slice a4 n4 c4], .int .i64 0]) ∧ HA.Ok w.heap.size ⟨p, .slice a1 n1 c1, .slice a2 n2 c2, l1, l2⟩ w' ∧ HA.Ok w.heap.size ⟨q, .slice a3 n3 c3, .slice a4 n4 c4, l3, l4⟩ w' ∧ (bla [⟨p, .slice a1 n1 c1, .slice a2 n2 c2, l1, l2⟩, ⟨q, .slice a3 n3 c3, .slice a4 n4 c4, l3, l4⟩]).Nodup ∧ Below w.heap.size w w' := by
  obtain ⟨A, B, c, rfl, hres, okA, okB, nd, b⟩ := h
  subst hr
  obtain ⟨ap, ao, an, A1, A2⟩ := A
  obtain ⟨bp, bo, bn, B1, B2⟩ := B
  simp only [shRes, HA.h, Prod.mk.injEq, Hn.H.mk.injEq] at hres
  obtain ⟨⟨rfl, rfl, rfl⟩, ⟨rfl, rfl, rfl⟩, rfl⟩ := hres
  obtain ⟨a1, c1, a2, c2, e1⟩ := low_shape okA.low n1 n2 h1 h2
  obtain ⟨a3, c3, a4, c4, e2⟩ := low_shape okB.low n3 n4 h3 h4
  simp only [HA.mk.injEq] at e1 e2
  obtain ⟨-, rfl, rfl, -⟩ := e1
  obtain ⟨-, rfl, rfl, -⟩ := e2
  exact ⟨a1, c1, a2, c2, a3, c3, a4, c4, rfl, okA, okB, nd, b⟩
theorem ShPost.err {w w' : World} {e : Ending} {r : Except Nat (Hn.H × Hn.H)} {c : Nat} (h : ShPost r w e w') (hr : r = .error c) :
    ∃ a1 c1 a2 c2 a3 c3 a4 c4, e = .returned (.tuple #[.agg #[.int .i64 0, .slice a1 0 c1, .slice a2 0 c2], .agg #[.int .i64 0, .slice a3 0 c3, .slice a4 0 c4], .int .i64 c]) ∧ Below w.heap.size w w' := by
  obtain ⟨A, B, c', rfl, hres, okA, okB, nd, b⟩ := h
  subst hr
  obtain ⟨ap, ao, an, A1, A2⟩ := A
  obtain ⟨bp, bo, bn, B1, B2⟩ := B
  simp only [shRes, HA.h, Prod.mk.injEq, Hn.H.mk.injEq] at hres
  obtain ⟨⟨rfl, rfl, rfl⟩, ⟨rfl, rfl, rfl⟩, rfl⟩ := hres
  obtain ⟨a1, c1, a2, c2, e1⟩ := low_shape okA.low 0 0 rfl rfl
  obtain ⟨a3, c3, a4, c4, e2⟩ := low_shape okB.low 0 0 rfl rfl
  simp only [HA.mk.injEq] at e1 e2
  obtain ⟨-, rfl, rfl, -⟩ := e1
  obtain ⟨-, rfl, rfl, -⟩ := e2
  exact ⟨a1, c1, a2, c2, a3, c3, a4, c4, rfl, b⟩

theorem cx1 : Hn.commute ⟨1, ones [98], ones [120, 121]⟩ ⟨4, ones [100], ones [122]⟩ = .ok (⟨3, ones [100], ones [122]⟩, ⟨1, ones [98], ones [120, 121]⟩) := by rfl
theorem cx2 : Hn.commute ⟨1, ones [98], ones [120, 121]⟩ ⟨3, ones [99], ones [122]⟩ = .error 130 := by rfl
theorem cx3 : Hn.commute ⟨3, ones [100], ones [120]⟩ ⟨0, ones [97], ones []⟩ = .ok (⟨0, ones [97], ones []⟩, ⟨2, ones [100], ones [120]⟩) := by rfl
theorem cx4 : Hn.merge ⟨1, ones [98], ones [120, 121]⟩ ⟨3, ones [100], ones [122]⟩ = .ok (⟨1, ones [98], ones [120, 121]⟩, ⟨4, ones [100], ones [122]⟩) := by rfl

set_option maxRecDepth 100000 in
set_option maxHeartbeats 16000000 in
theorem sawake_any (w : World) : Calls Try.prog 26 #[] w fun e w' => e = .returned (.bool true) ∧ Below w.heap.size w w' := by
  refine (callsIn_wide (n := 3)).1 ?_
  refine callsIn_of_wp Try.func26 rfl trivial ?_ rfl
  simp only [Try.ntmps26, List.size_toArray, List.length_nil, Nat.reduceSub, Array.replicate_succ, Array.replicate_zero, List.push_toArray, List.append_toArray, List.nil_append, List.cons_append]
  gi_wp2_with fail
  refine ⟨trivial, ?_⟩
  refine (callsIn_wide.2 (of_at 1 [98] [120, 121] 1 2 rfl rfl (by omega) (by omega) w)).mono ?_
  rintro e w0a ⟨h1a, h1b, h1c, h1d, rfl, l1, b1⟩
  gi_wp2_with fail
  refine ⟨trivial, ?_⟩
  refine (callsIn_wide.2 (of_at 4 [100] [122] 1 1 rfl rfl (by omega) (by omega) w0a)).mono ?_
  rintro e w0b ⟨h2a, h2b, h2c, h2d, rfl, l2, b2⟩
  have CM0 : Hid (_) := commute_any ⟨1, .slice h1a 1 h1b, .slice h1c 2 h1d, ones [98], ones [120, 121]⟩ ⟨4, .slice h2a 1 h2b, .slice h2c 1 h2d, ones [100], ones [122]⟩ w0b.heap.size w0b (HA.Low.at l1 b2) l2 (Nat.le_refl _) (fine_mk (by omega) (by decide) (by decide)) (fine_mk (by omega) (by decide) (by decide))
  have BB0 : Hid (Below w.heap.size w w0b) := below_then b1 b2
  simp only [HA.val] at CM0
  clear l1 l2 b1 b2
  gi_wp2_with fail
  refine ⟨trivial, ?_⟩
  refine (callsIn_wide.2 CM0.out).mono ?_
  intro e w0c hp
  obtain ⟨g0a, g0b, g0c, g0d, g0e, g0f, g0g, g0h, rfl, okA, okB, -, bp⟩ := hp.ok cx1 1 1 1 2 rfl rfl rfl rfl
  obtain ⟨V0, hV0⟩ : ∃ V, V = (w0c.alloc (.cells #[.int .i64 3, .slice g0a 1 g0b, .slice g0c 1 g0d] 41)).alloc (.cells #[.int .i64 1, .slice g0e 1 g0f, .slice g0g 2 g0h] 41) := ⟨_, rfl⟩
  have bV0 : Below w0c.heap.size w0c V0 := by rw [hV0]; exact below_then (below_nw _ _) (below_nw _ _)
  have W0 : Hid (Below w.heap.size w V0) := below_then BB0.out (below_then bp bV0)
  have la0 : Hid (HA.Low V0.heap.size V0 ⟨3, .slice g0a 1 g0b, .slice g0c 1 g0d, ones [100], ones [122]⟩) := HA.Low.at (HA.Ok.low okA) bV0
  have lb0 : Hid (HA.Low V0.heap.size V0 ⟨1, .slice g0e 1 g0f, .slice g0g 2 g0h, ones [98], ones [120, 121]⟩) := HA.Low.at (HA.Ok.low okB) bV0
  have xa0 : Hid (HBox V0 w0c.heap.size ⟨3, .slice g0a 1 g0b, .slice g0c 1 g0d, ones [100], ones [122]⟩) := by rw [Hid, hV0]; exact (HBox.new w0c ⟨3, .slice g0a 1 g0b, .slice g0c 1 g0d, ones [100], ones [122]⟩).below (below_nw _ _)
  have xb0 : Hid (HBox V0 (w0c.heap.size + 1) ⟨1, .slice g0e 1 g0f, .slice g0g 2 g0h, ones [98], ones [120, 121]⟩) := by
    have h := HBox.new (w0c.alloc (.cells #[.int .i64 3, .slice g0a 1 g0b, .slice g0c 1 g0d] 41)) ⟨1, .slice g0e 1 g0f, .slice g0g 2 g0h, ones [98], ones [120, 121]⟩
    rw [World.size_alloc] at h
    rw [Hid, hV0]; exact h
  clear okA okB
  clear CM0 hp bp bV0 BB0
  gi_wp2_with fail
  rw [← hV0]
  clear hV0
  gi_wp2_with fail
  refine ⟨trivial, ?_⟩
  refine (callsIn_wide.2 (of_at 1 [98] [120, 121] 1 2 rfl rfl (by omega) (by omega) V0)).mono ?_
  rintro e w1a ⟨h3a, h3b, h3c, h3d, rfl, l3, b3⟩
  gi_wp2_with fail
  refine ⟨trivial, ?_⟩
  refine (callsIn_wide.2 (of_at 3 [99] [122] 1 1 rfl rfl (by omega) (by omega) w1a)).mono ?_
  rintro e w1b ⟨h4a, h4b, h4c, h4d, rfl, l4, b4⟩
  have CM1 : Hid (_) := commute_any ⟨1, .slice h3a 1 h3b, .slice h3c 2 h3d, ones [98], ones [120, 121]⟩ ⟨3, .slice h4a 1 h4b, .slice h4c 1 h4d, ones [99], ones [122]⟩ w1b.heap.size w1b (HA.Low.at l3 b4) l4 (Nat.le_refl _) (fine_mk (by omega) (by decide) (by decide)) (fine_mk (by omega) (by decide) (by decide))
  have BB1 : Hid (Below V0.heap.size V0 w1b) := below_then b3 b4
  simp only [HA.val] at CM1
  clear l3 l4 b3 b4
  gi_wp2_with fail
  refine ⟨trivial, ?_⟩
  refine (callsIn_wide.2 CM1.out).mono ?_
  intro e w1c hp
  obtain ⟨g1a, g1b, g1c, g1d, g1e, g1f, g1g, g1h, rfl, bp⟩ := hp.err cx2
  obtain ⟨V1, hV1⟩ : ∃ V, V = (w1c.alloc (.cells #[.int .i64 0, .slice g1a 0 g1b, .slice g1c 0 g1d] 41)).alloc (.cells #[.int .i64 0, .slice g1e 0 g1f, .slice g1g 0 g1h] 41) := ⟨_, rfl⟩
  have bV1 : Below w1c.heap.size w1c V1 := by rw [hV1]; exact below_then (below_nw _ _) (below_nw _ _)
  have W1 : Hid (Below V0.heap.size V0 V1) := below_then BB1.out (below_then bp bV1)
  clear CM1 hp bp bV1 BB1
  gi_wp2_with fail
  rw [← hV1]
  clear hV1
  gi_wp2_with fail
  refine ⟨trivial, ?_⟩
  refine (callsIn_wide.2 (of_at 3 [100] [120] 1 1 rfl rfl (by omega) (by omega) V1)).mono ?_
  rintro e w2a ⟨h5a, h5b, h5c, h5d, rfl, l5, b5⟩
  gi_wp2_with fail
  refine ⟨trivial, ?_⟩
  refine (callsIn_wide.2 (of_at 0 [97] [] 1 0 rfl rfl (by omega) (by omega) w2a)).mono ?_
  rintro e w2b ⟨h6a, h6b, h6c, h6d, rfl, l6, b6⟩
  have CM2 : Hid (_) := commute_any ⟨3, .slice h5a 1 h5b, .slice h5c 1 h5d, ones [100], ones [120]⟩ ⟨0, .slice h6a 1 h6b, .slice h6c 0 h6d, ones [97], ones []⟩ w2b.heap.size w2b (HA.Low.at l5 b6) l6 (Nat.le_refl _) (fine_mk (by omega) (by decide) (by decide)) (fine_mk (by omega) (by decide) (by decide))
  have BB2 : Hid (Below V1.heap.size V1 w2b) := below_then b5 b6
  simp only [HA.val] at CM2
  clear l5 l6 b5 b6
  gi_wp2_with fail
  refine ⟨trivial, ?_⟩
  refine (callsIn_wide.2 CM2.out).mono ?_
  intro e w2c hp
  obtain ⟨g2a, g2b, g2c, g2d, g2e, g2f, g2g, g2h, rfl, okA, okB, -, bp⟩ := hp.ok cx3 1 0 1 1 rfl rfl rfl rfl
  obtain ⟨V2, hV2⟩ : ∃ V, V = (w2c.alloc (.cells #[.int .i64 0, .slice g2a 1 g2b, .slice g2c 0 g2d] 41)).alloc (.cells #[.int .i64 2, .slice g2e 1 g2f, .slice g2g 1 g2h] 41) := ⟨_, rfl⟩
  have bV2 : Below w2c.heap.size w2c V2 := by rw [hV2]; exact below_then (below_nw _ _) (below_nw _ _)
  have W2 : Hid (Below V1.heap.size V1 V2) := below_then BB2.out (below_then bp bV2)
  have la2 : Hid (HA.Low V2.heap.size V2 ⟨0, .slice g2a 1 g2b, .slice g2c 0 g2d, ones [97], ones []⟩) := HA.Low.at (HA.Ok.low okA) bV2
  have lb2 : Hid (HA.Low V2.heap.size V2 ⟨2, .slice g2e 1 g2f, .slice g2g 1 g2h, ones [100], ones [120]⟩) := HA.Low.at (HA.Ok.low okB) bV2
  have xa2 : Hid (HBox V2 w2c.heap.size ⟨0, .slice g2a 1 g2b, .slice g2c 0 g2d, ones [97], ones []⟩) := by rw [Hid, hV2]; exact (HBox.new w2c ⟨0, .slice g2a 1 g2b, .slice g2c 0 g2d, ones [97], ones []⟩).below (below_nw _ _)
  have xb2 : Hid (HBox V2 (w2c.heap.size + 1) ⟨2, .slice g2e 1 g2f, .slice g2g 1 g2h, ones [100], ones [120]⟩) := by
    have h := HBox.new (w2c.alloc (.cells #[.int .i64 0, .slice g2a 1 g2b, .slice g2c 0 g2d] 41)) ⟨2, .slice g2e 1 g2f, .slice g2g 1 g2h, ones [100], ones [120]⟩
    rw [World.size_alloc] at h
    rw [Hid, hV2]; exact h
  clear okA okB
  clear CM2 hp bp bV2 BB2
  gi_wp2_with fail
  rw [← hV2]
  clear hV2
  gi_wp2_with fail
  refine ⟨trivial, ?_⟩
  refine (callsIn_wide.2 (of_at 1 [98] [120, 121] 1 2 rfl rfl (by omega) (by omega) V2)).mono ?_
  rintro e w3a ⟨h7a, h7b, h7c, h7d, rfl, l7, b7⟩
  gi_wp2_with fail
  refine ⟨trivial, ?_⟩
  refine (callsIn_wide.2 (of_at 3 [100] [122] 1 1 rfl rfl (by omega) (by omega) w3a)).mono ?_
  rintro e w3b ⟨h8a, h8b, h8c, h8d, rfl, l8, b8⟩
  have CM3 : Hid (_) := merge_any ⟨1, .slice h7a 1 h7b, .slice h7c 2 h7d, ones [98], ones [120, 121]⟩ ⟨3, .slice h8a 1 h8b, .slice h8c 1 h8d, ones [100], ones [122]⟩ w3b.heap.size w3b (HA.Low.at l7 b8) l8 (Nat.le_refl _) (fine_mk (by omega) (by decide) (by decide)) (fine_mk (by omega) (by decide) (by decide))
  have BB3 : Hid (Below V2.heap.size V2 w3b) := below_then b7 b8
  simp only [HA.val] at CM3
  clear l7 l8 b7 b8
  gi_wp2_with fail
  refine ⟨trivial, ?_⟩
  refine (callsIn_wide.2 CM3.out).mono ?_
  intro e w3c hp
  obtain ⟨g3a, g3b, g3c, g3d, g3e, g3f, g3g, g3h, rfl, okA, okB, -, bp⟩ := hp.ok cx4 1 2 1 1 rfl rfl rfl rfl
  obtain ⟨V3, hV3⟩ : ∃ V, V = (w3c.alloc (.cells #[.int .i64 1, .slice g3a 1 g3b, .slice g3c 2 g3d] 41)).alloc (.cells #[.int .i64 4, .slice g3e 1 g3f, .slice g3g 1 g3h] 41) := ⟨_, rfl⟩
  have bV3 : Below w3c.heap.size w3c V3 := by rw [hV3]; exact below_then (below_nw _ _) (below_nw _ _)
  have W3 : Hid (Below V2.heap.size V2 V3) := below_then BB3.out (below_then bp bV3)
  have la3 : Hid (HA.Low V3.heap.size V3 ⟨1, .slice g3a 1 g3b, .slice g3c 2 g3d, ones [98], ones [120, 121]⟩) := HA.Low.at (HA.Ok.low okA) bV3
  have lb3 : Hid (HA.Low V3.heap.size V3 ⟨4, .slice g3e 1 g3f, .slice g3g 1 g3h, ones [100], ones [122]⟩) := HA.Low.at (HA.Ok.low okB) bV3
  have xa3 : Hid (HBox V3 w3c.heap.size ⟨1, .slice g3a 1 g3b, .slice g3c 2 g3d, ones [98], ones [120, 121]⟩) := by rw [Hid, hV3]; exact (HBox.new w3c ⟨1, .slice g3a 1 g3b, .slice g3c 2 g3d, ones [98], ones [120, 121]⟩).below (below_nw _ _)
  have xb3 : Hid (HBox V3 (w3c.heap.size + 1) ⟨4, .slice g3e 1 g3f, .slice g3g 1 g3h, ones [100], ones [122]⟩) := by
    have h := HBox.new (w3c.alloc (.cells #[.int .i64 1, .slice g3a 1 g3b, .slice g3c 2 g3d] 41)) ⟨4, .slice g3e 1 g3f, .slice g3g 1 g3h, ones [100], ones [122]⟩
    rw [World.size_alloc] at h
    rw [Hid, hV3]; exact h
  clear okA okB
  clear CM3 hp bp bV3 BB3
  gi_wp2_with fail
  rw [← hV3]
  clear hV3
  have CA0 : Hid (∀ W, Below V3.heap.size V3 W → HBox W w0c.heap.size ⟨3, .slice g0a 1 g0b, .slice g0c 1 g0d, ones [100], ones [122]⟩ ∧ HBox W (w0c.heap.size + 1) ⟨1, .slice g0e 1 g0f, .slice g0g 2 g0h, ones [98], ones [120, 121]⟩ ∧ HA.Low W.heap.size W ⟨3, .slice g0a 1 g0b, .slice g0c 1 g0d, ones [100], ones [122]⟩ ∧ HA.Low W.heap.size W ⟨1, .slice g0e 1 g0f, .slice g0g 2 g0h, ones [98], ones [120, 121]⟩) := fun W hW => ⟨HBox.below xa0.out (below_then W1.out (below_then W2.out (below_then W3.out hW))), HBox.below xb0.out (below_then W1.out (below_then W2.out (below_then W3.out hW))), HA.Low.at la0.out (below_then W1.out (below_then W2.out (below_then W3.out hW))), HA.Low.at lb0.out (below_then W1.out (below_then W2.out (below_then W3.out hW)))⟩
  have CA2 : Hid (∀ W, Below V3.heap.size V3 W → HBox W w2c.heap.size ⟨0, .slice g2a 1 g2b, .slice g2c 0 g2d, ones [97], ones []⟩ ∧ HBox W (w2c.heap.size + 1) ⟨2, .slice g2e 1 g2f, .slice g2g 1 g2h, ones [100], ones [120]⟩ ∧ HA.Low W.heap.size W ⟨0, .slice g2a 1 g2b, .slice g2c 0 g2d, ones [97], ones []⟩ ∧ HA.Low W.heap.size W ⟨2, .slice g2e 1 g2f, .slice g2g 1 g2h, ones [100], ones [120]⟩) := fun W hW => ⟨HBox.below xa2.out (below_then W3.out hW), HBox.below xb2.out (below_then W3.out hW), HA.Low.at la2.out (below_then W3.out hW), HA.Low.at lb2.out (below_then W3.out hW)⟩
  have CA3 : Hid (∀ W, Below V3.heap.size V3 W → HBox W w3c.heap.size ⟨1, .slice g3a 1 g3b, .slice g3c 2 g3d, ones [98], ones [120, 121]⟩ ∧ HBox W (w3c.heap.size + 1) ⟨4, .slice g3e 1 g3f, .slice g3g 1 g3h, ones [100], ones [122]⟩ ∧ HA.Low W.heap.size W ⟨1, .slice g3a 1 g3b, .slice g3c 2 g3d, ones [98], ones [120, 121]⟩ ∧ HA.Low W.heap.size W ⟨4, .slice g3e 1 g3f, .slice g3g 1 g3h, ones [100], ones [122]⟩) := fun W hW => ⟨HBox.below xa3.out hW, HBox.below xb3.out hW, HA.Low.at la3.out hW, HA.Low.at lb3.out hW⟩
  have BT : Hid (Below w.heap.size w V3) := below_then W0.out (below_then W1.out (below_then W2.out W3.out))
  have BD : Below V3.heap.size V3 (V3.drewN 1) := below_drewN (Below.refl _ V3) 1
  clear xa0 xb0 la0 lb0 xa2 xb2 la2 lb2 xa3 xb3 la3 lb3
  refine region_lex (fun W => Below V3.heap.size V3 W) 3 24 rfl (by kernel_rfl) (by kernel_rfl) (by kernel_rfl) (by kernel_rfl) (fun _ _ d _ _ h => by cases d <;> exact h) BD ?_
  simp only [List.take_succ_cons, List.take_zero]
  apply lexC_want
  · rfl
  · exact fun _ => rfl
  · intro w' hw'; obtain ⟨q0, q1, -⟩ := CA0.out w' hw'; obtain ⟨q00, q01, q02⟩ := q0.cells; obtain ⟨q10, q11, q12⟩ := q1.cells; simp only at q00 q01 q02 q10 q11 q12; go_simp; try rfl
  simp only [Act.put, List.setIfInBounds_toArray, List.set_cons_zero, List.set_cons_succ]
  apply lexC_want
  · rfl
  · exact fun _ => rfl
  · intro w' hw'; obtain ⟨q0, q1, -⟩ := CA0.out w' hw'; obtain ⟨q00, q01, q02⟩ := q0.cells; obtain ⟨q10, q11, q12⟩ := q1.cells; simp only at q00 q01 q02 q10 q11 q12; go_simp; try rfl
  simp only [Act.put, List.setIfInBounds_toArray, List.set_cons_zero, List.set_cons_succ]
  apply lexC_want
  · rfl
  · exact fun _ => rfl
  · intro w' hw'; obtain ⟨q0, q1, -⟩ := CA0.out w' hw'; obtain ⟨q00, q01, q02⟩ := q0.cells; obtain ⟨q10, q11, q12⟩ := q1.cells; simp only at q00 q01 q02 q10 q11 q12; go_simp; try rfl
  simp only [Act.put, List.setIfInBounds_toArray, List.set_cons_zero, List.set_cons_succ]
  refine lexC_nil ?_
  refine anyC_one (i := 3) (by kernel_rfl) rfl (by rfl) (fun K hK => ?_)
  go_simp
  refine ⟨trivial, ?_⟩
  refine (callsIn_wide.2 (of_at 3 [100] [122] 1 1 rfl rfl (by omega) (by omega) _)).mono ?_
  rintro e u21 ⟨h21a, h21b, h21c, h21d, rfl, l21, b21⟩
  have B21 : Below V3.heap.size V3 u21 := below_then BD b21
  refine hK _ _ B21 ?_
  clear hK
  refine anyC_one (i := 4) (by kernel_rfl) rfl (by rfl) (fun K hK => ?_)
  go_simp
  refine ⟨trivial, ?_⟩
  refine (callsIn_wide.2 (of_at 1 [98] [120, 121] 1 2 rfl rfl (by omega) (by omega) _)).mono ?_
  rintro e u22 ⟨h22a, h22b, h22c, h22d, rfl, l22, b22⟩
  have B22 : Below V3.heap.size V3 u22 := below_then B21 b22
  refine hK _ _ B22 ?_
  clear hK
  have TL0 : Hid (_) := tells_yes ⟨3, .slice g0a 1 g0b, .slice g0c 1 g0d, ones [100], ones [122]⟩ ⟨1, .slice g0e 1 g0f, .slice g0g 2 g0h, ones [98], ones [120, 121]⟩ ⟨3, .slice h21a 1 h21b, .slice h21c 1 h21d, ones [100], ones [122]⟩ ⟨1, .slice h22a 1 h22b, .slice h22c 2 h22d, ones [98], ones [120, 121]⟩ u22.heap.size u22 (CA0.out u22 B22).2.2.1 (CA0.out u22 B22).2.2.2 (HA.Low.at l21 b22) l22 (Nat.le_refl _) rfl rfl ⟨by show (ones _).length ≤ _; decide, by show (ones _).length ≤ _; decide⟩ ⟨by show (ones _).length ≤ _; decide, by show (ones _).length ≤ _; decide⟩
  simp only [HA.val] at TL0
  refine anyC_one (i := 5) (by kernel_rfl) rfl (by rfl) (fun K hK => ?_)
  go_simp
  refine ⟨trivial, ?_⟩
  refine (callsIn_wide.2 TL0.out).mono ?_
  rintro e v0 ⟨rfl, b⟩
  have BV0 : Below V3.heap.size V3 v0 := below_then B22 b
  refine hK _ _ BV0 ?_
  clear hK TL0 b l21 l22 b21 b22 B21 B22
  refine anyC_one (i := 6) (by kernel_rfl) rfl (by rfl) (fun K hK => ?_)
  go_simp
  refine hK _ _ BV0 ?_
  clear hK
  refine anyC_one (i := 7) (by kernel_rfl) rfl (by rfl) (fun K hK => ?_)
  go_simp
  refine hK _ _ BV0 ?_
  clear hK
  refine anyC_one (i := 8) (by kernel_rfl) rfl (by rfl) (fun K hK => ?_)
  go_simp
  refine hK _ _ BV0 ?_
  clear hK
  refine anyC_one (i := 9) (by kernel_rfl) rfl (by rfl) (fun K hK => ?_)
  go_simp
  refine hK _ _ BV0 ?_
  clear hK
  refine anyC_one (i := 10) (by kernel_rfl) rfl (by rfl) (fun K hK => ?_)
  go_simp
  refine hK _ _ BV0 ?_
  clear hK
  refine anyC_take (i := 11) (v := .agg #[.int .i64 0, .slice g2a 1 g2b, .slice g2c 0 g2d]) rfl rfl (by kernel_rfl) (by kernel_rfl) (by kernel_rfl) (fun _ _ d _ _ h => by cases d <;> exact h) BV0 (by rfl) (fun _ => rfl) (by intro w' hw'; obtain ⟨q0, q1, -⟩ := CA2.out w' hw'; obtain ⟨q00, q01, q02⟩ := q0.cells; obtain ⟨q10, q11, q12⟩ := q1.cells; simp only at q00 q01 q02 q10 q11 q12; go_simp; try rfl) ?_
  refine anyC_take (i := 12) (v := .agg #[.int .i64 2, .slice g2e 1 g2f, .slice g2g 1 g2h]) rfl rfl (by kernel_rfl) (by kernel_rfl) (by kernel_rfl) (fun _ _ d _ _ h => by cases d <;> exact h) BV0 (by rfl) (fun _ => rfl) (by intro w' hw'; obtain ⟨q0, q1, -⟩ := CA2.out w' hw'; obtain ⟨q00, q01, q02⟩ := q0.cells; obtain ⟨q10, q11, q12⟩ := q1.cells; simp only at q00 q01 q02 q10 q11 q12; go_simp; try rfl) ?_
  refine anyC_take (i := 13) (v := .int .i64 0) rfl rfl (by kernel_rfl) (by kernel_rfl) (by kernel_rfl) (fun _ _ d _ _ h => by cases d <;> exact h) BV0 (by rfl) (fun _ => rfl) (by intro w' hw'; obtain ⟨q0, q1, -⟩ := CA2.out w' hw'; obtain ⟨q00, q01, q02⟩ := q0.cells; obtain ⟨q10, q11, q12⟩ := q1.cells; simp only at q00 q01 q02 q10 q11 q12; go_simp; try rfl) ?_
  refine anyC_one (i := 14) (by kernel_rfl) rfl (by rfl) (fun K hK => ?_)
  go_simp
  refine ⟨trivial, ?_⟩
  refine (callsIn_wide.2 (of_at 0 [97] [] 1 0 rfl rfl (by omega) (by omega) _)).mono ?_
  rintro e u24 ⟨h24a, h24b, h24c, h24d, rfl, l24, b24⟩
  have B24 : Below V3.heap.size V3 u24 := below_then BV0 b24
  refine hK _ _ B24 ?_
  clear hK
  refine anyC_one (i := 15) (by kernel_rfl) rfl (by rfl) (fun K hK => ?_)
  go_simp
  refine ⟨trivial, ?_⟩
  refine (callsIn_wide.2 (of_at 2 [100] [120] 1 1 rfl rfl (by omega) (by omega) _)).mono ?_
  rintro e u25 ⟨h25a, h25b, h25c, h25d, rfl, l25, b25⟩
  have B25 : Below V3.heap.size V3 u25 := below_then B24 b25
  refine hK _ _ B25 ?_
  clear hK
  have TL2 : Hid (_) := tells_yes ⟨0, .slice g2a 1 g2b, .slice g2c 0 g2d, ones [97], ones []⟩ ⟨2, .slice g2e 1 g2f, .slice g2g 1 g2h, ones [100], ones [120]⟩ ⟨0, .slice h24a 1 h24b, .slice h24c 0 h24d, ones [97], ones []⟩ ⟨2, .slice h25a 1 h25b, .slice h25c 1 h25d, ones [100], ones [120]⟩ u25.heap.size u25 (CA2.out u25 B25).2.2.1 (CA2.out u25 B25).2.2.2 (HA.Low.at l24 b25) l25 (Nat.le_refl _) rfl rfl ⟨by show (ones _).length ≤ _; decide, by show (ones _).length ≤ _; decide⟩ ⟨by show (ones _).length ≤ _; decide, by show (ones _).length ≤ _; decide⟩
  simp only [HA.val] at TL2
  refine anyC_one (i := 16) (by kernel_rfl) rfl (by rfl) (fun K hK => ?_)
  go_simp
  refine ⟨trivial, ?_⟩
  refine (callsIn_wide.2 TL2.out).mono ?_
  rintro e v2 ⟨rfl, b⟩
  have BV2 : Below V3.heap.size V3 v2 := below_then B25 b
  refine hK _ _ BV2 ?_
  clear hK TL2 b l24 l25 b24 b25 B24 B25
  refine anyC_one (i := 17) (by kernel_rfl) rfl (by rfl) (fun K hK => ?_)
  go_simp
  refine hK _ _ BV2 ?_
  clear hK
  refine anyC_one (i := 18) (by kernel_rfl) rfl (by rfl) (fun K hK => ?_)
  go_simp
  refine hK _ _ BV2 ?_
  clear hK
  refine anyC_take (i := 19) (v := .agg #[.int .i64 1, .slice g3a 1 g3b, .slice g3c 2 g3d]) rfl rfl (by kernel_rfl) (by kernel_rfl) (by kernel_rfl) (fun _ _ d _ _ h => by cases d <;> exact h) BV2 (by rfl) (fun _ => rfl) (by intro w' hw'; obtain ⟨q0, q1, -⟩ := CA3.out w' hw'; obtain ⟨q00, q01, q02⟩ := q0.cells; obtain ⟨q10, q11, q12⟩ := q1.cells; simp only at q00 q01 q02 q10 q11 q12; go_simp; try rfl) ?_
  refine anyC_take (i := 20) (v := .agg #[.int .i64 4, .slice g3e 1 g3f, .slice g3g 1 g3h]) rfl rfl (by kernel_rfl) (by kernel_rfl) (by kernel_rfl) (fun _ _ d _ _ h => by cases d <;> exact h) BV2 (by rfl) (fun _ => rfl) (by intro w' hw'; obtain ⟨q0, q1, -⟩ := CA3.out w' hw'; obtain ⟨q00, q01, q02⟩ := q0.cells; obtain ⟨q10, q11, q12⟩ := q1.cells; simp only at q00 q01 q02 q10 q11 q12; go_simp; try rfl) ?_
  refine anyC_take (i := 21) (v := .int .i64 0) rfl rfl (by kernel_rfl) (by kernel_rfl) (by kernel_rfl) (fun _ _ d _ _ h => by cases d <;> exact h) BV2 (by rfl) (fun _ => rfl) (by intro w' hw'; obtain ⟨q0, q1, -⟩ := CA3.out w' hw'; obtain ⟨q00, q01, q02⟩ := q0.cells; obtain ⟨q10, q11, q12⟩ := q1.cells; simp only at q00 q01 q02 q10 q11 q12; go_simp; try rfl) ?_
  refine anyC_one (i := 22) (by kernel_rfl) rfl (by rfl) (fun K hK => ?_)
  go_simp
  refine ⟨trivial, ?_⟩
  refine (callsIn_wide.2 (of_at 1 [98] [120, 121] 1 2 rfl rfl (by omega) (by omega) _)).mono ?_
  rintro e u27 ⟨h27a, h27b, h27c, h27d, rfl, l27, b27⟩
  have B27 : Below V3.heap.size V3 u27 := below_then BV2 b27
  refine hK _ _ B27 ?_
  clear hK
  refine anyC_one (i := 23) (by kernel_rfl) rfl (by rfl) (fun K hK => ?_)
  go_simp
  refine ⟨trivial, ?_⟩
  refine (callsIn_wide.2 (of_at 4 [100] [122] 1 1 rfl rfl (by omega) (by omega) _)).mono ?_
  rintro e u28 ⟨h28a, h28b, h28c, h28d, rfl, l28, b28⟩
  have B28 : Below V3.heap.size V3 u28 := below_then B27 b28
  refine hK _ _ B28 ?_
  clear hK
  have TL3 : Hid (_) := tells_yes ⟨1, .slice g3a 1 g3b, .slice g3c 2 g3d, ones [98], ones [120, 121]⟩ ⟨4, .slice g3e 1 g3f, .slice g3g 1 g3h, ones [100], ones [122]⟩ ⟨1, .slice h27a 1 h27b, .slice h27c 2 h27d, ones [98], ones [120, 121]⟩ ⟨4, .slice h28a 1 h28b, .slice h28c 1 h28d, ones [100], ones [122]⟩ u28.heap.size u28 (CA3.out u28 B28).2.2.1 (CA3.out u28 B28).2.2.2 (HA.Low.at l27 b28) l28 (Nat.le_refl _) rfl rfl ⟨by show (ones _).length ≤ _; decide, by show (ones _).length ≤ _; decide⟩ ⟨by show (ones _).length ≤ _; decide, by show (ones _).length ≤ _; decide⟩
  simp only [HA.val] at TL3
  refine anyC_one (i := 24) (by kernel_rfl) rfl (by rfl) (fun K hK => ?_)
  go_simp
  refine ⟨trivial, ?_⟩
  refine (callsIn_wide.2 TL3.out).mono ?_
  rintro e v3 ⟨rfl, b⟩
  have BV3 : Below V3.heap.size V3 v3 := below_then B28 b
  refine hK _ _ BV3 ?_
  clear hK TL3 b l27 l28 b27 b28 B27 B28
  refine anyC_one (i := 25) (by kernel_rfl) rfl (by rfl) (fun K hK => ?_)
  go_simp
  refine hK _ _ BV3 ?_
  clear hK
  refine anyC_one (i := 26) (by kernel_rfl) rfl (by rfl) (fun K hK => ?_)
  go_simp
  refine hK _ _ BV3 ?_
  clear hK
  refine anyC_done (by kernel_rfl) ?_
  have HB : Hid (Below w.heap.size w v3) := below_then BT.out BV3
  clear BV0 BV2 BV3 BD
  gi_wp2
  exact bodyPost_ret (results_tmp rfl _ _ _) rfl ⟨rfl, HB.out⟩

end Go.Proofs.Ytflnakjffgobmaa

/-
  Variables that hold hunks; what is told by Commute and Merge, opened.
-/
namespace Go.Proofs.Ytflnakjffgobmaa
open Go.RowKit Go.Shelf

/-- Variables that hold hunks, which can be gone through in time. -/
def Boxes (W : World) (l : List (Nat × HA)) : Prop := ∀ q ∈ l, HBox W q.1 q.2 ∧ q.2.Low W.heap.size W ∧ q.2.Fine
theorem Boxes.below {W W' : World} {l : List (Nat × HA)} (h : Boxes W l) (hb : Below W.heap.size W W') : Boxes W' l := fun q hq => ⟨(h q hq).1.below hb, (h q hq).2.1.at hb, (h q hq).2.2⟩
theorem Boxes.nil (W : World) : Boxes W [] := fun q hq => by cases hq
theorem Boxes.cons {W : World} {l : List (Nat × HA)} {b : Nat} {x : HA} (h1 : HBox W b x) (h2 : x.Low W.heap.size W) (h3 : x.Fine) (h : Boxes W l) : Boxes W ((b, x) :: l) := fun q hq => by
  rcases List.mem_cons.1 hq with rfl | hq
  · exact ⟨h1, h2, h3⟩
  · exact h q hq
/-- Two more variables, behind one another. -/
theorem Boxes.two {W : World} {l : List (Nat × HA)} (h : Boxes W l) (x y : HA) (lx : x.Low W.heap.size W) (ly : y.Low W.heap.size W) (fx : x.Fine) (fy : y.Fine) : ∃ V, V = (W.alloc (.cells #[.int .i64 x.at_, x.vo, x.vn] 41)).alloc (.cells #[.int .i64 y.at_, y.vo, y.vn] 41) ∧ Below W.heap.size W V ∧ Boxes V ((W.heap.size, x) :: (W.heap.size + 1, y) :: l) := by
  have b1 := below_nw W (.cells #[.int .i64 x.at_, x.vo, x.vn] 41)
  have b2 := below_nw (W.alloc (.cells #[.int .i64 x.at_, x.vo, x.vn] 41)) (.cells #[.int .i64 y.at_, y.vo, y.vn] 41)
  have h1 := (HBox.new W x).below b2
  have h2 := HBox.new (W.alloc (.cells #[.int .i64 x.at_, x.vo, x.vn] 41)) y
  rw [World.size_alloc] at h2
  have b := below_then b1 b2
  exact ⟨_, rfl, b, .cons h1 (lx.at b) fx (.cons h2 (ly.at b) fy (h.below b))⟩
theorem shRes_zero_c {p q a b : Hn.H} (h : (a, b, 0) = shRes (Hn.commute p q)) : Hn.commute p q = .ok (a, b) := by
  have key : ∀ r : Except Nat (Hn.H × Hn.H), (∀ c, r = .error c → c ≠ 0) → (a, b, 0) = shRes r → r = .ok (a, b) := by
    intro r hr h
    cases r with
    | error c =>
      simp only [shRes, Prod.mk.injEq] at h
      exact absurd h.2.2.symm (hr c rfl)
    | ok x =>
      obtain ⟨u, v⟩ := x
      simp only [shRes, Prod.mk.injEq] at h
      obtain ⟨rfl, rfl, -⟩ := h
      rfl
  refine key _ (fun c hc => ?_) h
  have told_err : ∀ (u v : Hn.H), Hn.told u v = .error c → c ≠ 0 := fun u v h => by
    unfold Hn.told at h
    split at h
    · cases h
    · cases h; decide
  unfold Hn.commute at hc
  split at hc
  · split at hc
    · exact told_err _ _ hc
    · split at hc
      · exact told_err _ _ hc
      · cases hc; decide
  · cases hc; decide
theorem fine_of {x y : HA} {d : Int} (h : y.h = Hn.moved x.h d) (fx : x.Fine) (hr : Hn.right y.h = true) : y.Fine := by
  obtain ⟨p, vo, vn, L1, L2⟩ := x
  obtain ⟨p', vo', vn', M1, M2⟩ := y
  have hb := right_bound hr
  simp only [HA.h, Hn.moved, Hn.H.mk.injEq] at h hb
  obtain ⟨rfl, rfl, rfl⟩ := h
  obtain ⟨⟨s1, s2⟩, ⟨t1, t2⟩, -⟩ := fx
  simp only at s1 s2 t1 t2
  exact ⟨⟨s1, s2⟩, ⟨t1, t2⟩, ⟨⟨by show _ ≤ p + d; omega, by show p + d ≤ _; omega⟩, ⟨by show M1.length ≤ _; omega, by show M2.length ≤ _; omega⟩, fun s hs => by have := t1 s hs; omega, fun s hs => by have := t2 s hs; omega⟩⟩
theorem fine_zero {y : HA} (h : y.h = ⟨0, [], []⟩) : y.Fine := by
  obtain ⟨p', vo', vn', M1, M2⟩ := y
  simp only [HA.h, Hn.H.mk.injEq] at h
  obtain ⟨rfl, rfl, rfl⟩ := h
  exact ⟨⟨by show (0 : Nat) ≤ _; omega, by show (0 : Nat) ≤ _; omega⟩, ⟨fun s hs => (by cases hs), fun s hs => (by cases hs)⟩, ⟨⟨by show _ ≤ (0 : Int); omega, by show (0 : Int) ≤ _; omega⟩, ⟨by show (0 : Nat) ≤ _; omega, by show (0 : Nat) ≤ _; omega⟩, fun s hs => (by cases hs), fun s hs => (by cases hs)⟩⟩
theorem commute_fine {x y A B : HA} {c : Nat} (h : (A.h, B.h, c) = shRes (Hn.commute x.h y.h)) (fx : x.Fine) (fy : y.Fine) : A.Fine ∧ B.Fine := by
  cases hr : Hn.commute x.h y.h with
  | error e =>
    rw [hr] at h
    simp only [shRes, Prod.mk.injEq] at h
    exact ⟨fine_zero h.1, fine_zero h.2.1⟩
  | ok q =>
    obtain ⟨u, v⟩ := q
    rw [hr] at h
    simp only [shRes, Prod.mk.injEq] at h
    obtain ⟨h1, h2, -⟩ := h
    obtain ⟨-, -, ra, rb, ⟨-, e1, e2⟩ | ⟨-, e1, e2⟩⟩ := Hn.commute_ok hr
    · exact ⟨fine_of (x := y) (d := 0) (by rw [moved_zero, h1, e1]) fy (by rw [h1]; exact ra), fine_of (x := x) (by rw [h2, e2]) fx (by rw [h2]; exact rb)⟩
    · exact ⟨fine_of (x := y) (by rw [h1, e1]) fy (by rw [h1]; exact ra), fine_of (x := x) (d := 0) (by rw [moved_zero, h2, e2]) fx (by rw [h2]; exact rb)⟩
theorem merge_fine {x y A B : HA} {c : Nat} (h : (A.h, B.h, c) = shRes (Hn.merge x.h y.h)) (fx : x.Fine) (fy : y.Fine) : A.Fine ∧ B.Fine := by
  cases hr : Hn.merge x.h y.h with
  | error e =>
    rw [hr] at h
    simp only [shRes, Prod.mk.injEq] at h
    exact ⟨fine_zero h.1, fine_zero h.2.1⟩
  | ok q =>
    obtain ⟨u, v⟩ := q
    rw [hr] at h
    simp only [shRes, Prod.mk.injEq] at h
    obtain ⟨h1, h2, -⟩ := h
    obtain ⟨-, -, ra, rb, ⟨-, e1, e2⟩ | ⟨-, e1, e2⟩⟩ := Hn.merge_ok hr
    · exact ⟨fine_of (x := x) (d := 0) (by rw [moved_zero, h1, e1]) fx (by rw [h1]; exact ra), fine_of (x := y) (by rw [h2, e2]) fy (by rw [h2]; exact rb)⟩
    · exact ⟨fine_of (x := x) (by rw [h1, e1]) fx (by rw [h1]; exact ra), fine_of (x := y) (d := 0) (by rw [moved_zero, h2, e2]) fy (by rw [h2]; exact rb)⟩
theorem shRes_zero_m {p q a b : Hn.H} (h : (a, b, 0) = shRes (Hn.merge p q)) : Hn.merge p q = .ok (a, b) := by
  cases hr : Hn.merge p q with
  | error c =>
    rw [hr] at h
    simp only [shRes, Prod.mk.injEq] at h
    have told_err : ∀ (u v : Hn.H), Hn.told u v = .error c → c ≠ 0 := fun u v h => by
      unfold Hn.told at h
      split at h
      · cases h
      · cases h; decide
    have h0 : c ≠ 0 := by
      unfold Hn.merge at hr
      split at hr
      · split at hr
        · exact told_err _ _ hr
        · split at hr
          · exact told_err _ _ hr
          · cases hr; decide
      · cases hr; decide
    exact absurd h.2.2.symm h0
  | ok x =>
    obtain ⟨u, v⟩ := x
    rw [hr] at h
    simp only [shRes, Prod.mk.injEq] at h
    obtain ⟨rfl, rfl, -⟩ := h
    rfl
/-- What is told, opened. -/
theorem ShPost.parts {r : Except Nat (Hn.H × Hn.H)} {w w' : World} {e : Ending} (h : ShPost r w e w') : ∃ (p1 : Int) (a1 : Option Addr) (c1 : Nat) (a2 : Option Addr) (c2 : Nat) (L1 L2 : List (List UInt8)) (p2 : Int) (a3 : Option Addr) (c3 : Nat) (a4 : Option Addr) (c4 : Nat) (L3 L4 : List (List UInt8)) (c : Nat), e = .returned (.tuple #[.agg #[.int .i64 p1, .slice a1 L1.length c1, .slice a2 L2.length c2], .agg #[.int .i64 p2, .slice a3 L3.length c3, .slice a4 L4.length c4], .int .i64 c]) ∧ (HA.h ⟨p1, .slice a1 L1.length c1, .slice a2 L2.length c2, L1, L2⟩, HA.h ⟨p2, .slice a3 L3.length c3, .slice a4 L4.length c4, L3, L4⟩, c) = shRes r ∧ HA.Low w'.heap.size w' ⟨p1, .slice a1 L1.length c1, .slice a2 L2.length c2, L1, L2⟩ ∧ HA.Low w'.heap.size w' ⟨p2, .slice a3 L3.length c3, .slice a4 L4.length c4, L3, L4⟩ ∧ Below w.heap.size w w' := by
  obtain ⟨A, B, c, a1, a2, a3, a4, c1, c2, c3, c4, e1, e2, e3, e4, rfl, h2, h3, h4, -, h6⟩ := h.three
  obtain ⟨ap, ao, an, A1, A2⟩ := A
  obtain ⟨bp, bo, bn, B1, B2⟩ := B
  simp only at e1 e2 e3 e4
  subst e1 e2 e3 e4
  exact ⟨ap, a1, c1, a2, c2, A1, A2, bp, a3, c3, a4, c4, B1, B2, c, rfl, h2, h3.low, h4.low, h6⟩

end Go.Proofs.Ytflnakjffgobmaa

/-
  The walks of clerestorykit.LentHunk and KeptHunk: a hunk with marks behind its lines.
-/
namespace Go.Proofs.Ytflnakjffgobmaa
open Go.RowKit Go.Shelf

attribute [local go_sem] Oper.semAt_some

/-- A row with twelve marks behind it, in memory of its own. -/
def LentRow (B : Nat) (W : World) (v : Value) (L : List (List UInt8)) : Prop := ∃ g cap, v = .slice (some ⟨g, 0, none⟩) L.length cap ∧ W.ownsRow B 9 1 (.slice (some ⟨g, 0, none⟩) (L.length + 12) cap) (L.length + 12) ((L ++ marks 12).map txtV)
theorem LentRow.below {B : Nat} {W W' : World} {v : Value} {L : List (List UInt8)} (h : LentRow B W v L) (hb : Below W.heap.size W W') : LentRow B W' v L := by
  obtain ⟨g, cap, e, h⟩ := h
  exact ⟨g, cap, e, owns_below h hb⟩
theorem LentRow.base {B B' : Nat} {W : World} {v : Value} {L : List (List UInt8)} (h : LentRow B W v L) (hb : B' ≤ B) : LentRow B' W v L := by
  obtain ⟨g, cap, e, h⟩ := h
  exact ⟨g, cap, e, owns_base h hb⟩
theorem lent_low {W : World} {B g cap : Nat} {L : List (List UInt8)} (h : W.ownsRow B 9 1 (.slice (some ⟨g, 0, none⟩) (L.length + 12) cap) (L.length + 12) ((L ++ marks 12).map txtV)) : RowLow W.heap.size W (.slice (some ⟨g, 0, none⟩) L.length cap) L := by
  have h1 := owns_front h (show L.length ≤ L.length + 12 by omega)
  rw [Nat.mul_one, List.map_append, List.take_append_of_le_length (by simp), List.take_of_length_le (by simp)] at h1
  exact RowLow.of_owns h1
theorem LentRow.low {B : Nat} {W : World} {v : Value} {L : List (List UInt8)} (h : LentRow B W v L) : RowLow W.heap.size W v L := by
  obtain ⟨g, cap, rfl, h⟩ := h
  exact lent_low h
/-- y is x, lent. -/
def LentOf (B : Nat) (W : World) (x y : HA) : Prop := y.h = x.h ∧ LentRow B W y.vo y.old ∧ LentRow B W y.vn y.new
theorem LentOf.below {B : Nat} {W W' : World} {x y : HA} (h : LentOf B W x y) (hb : Below W.heap.size W W') : LentOf B W' x y := ⟨h.1, h.2.1.below hb, h.2.2.below hb⟩
theorem LentOf.base {B B' : Nat} {W : World} {x y : HA} (h : LentOf B W x y) (hb : B' ≤ B) : LentOf B' W x y := ⟨h.1, h.2.1.base hb, h.2.2.base hb⟩
theorem LentOf.low {B : Nat} {W : World} {x y : HA} (h : LentOf B W x y) : y.Low W.heap.size W := ⟨h.2.1.low, h.2.2.low⟩
theorem LentOf.fine {B : Nat} {W : World} {x y : HA} (h : LentOf B W x y) (f : x.Fine) : y.Fine := by
  obtain ⟨h, -, -⟩ := h
  obtain ⟨p, vo, vn, L1, L2⟩ := x
  obtain ⟨p', vo', vn', M1, M2⟩ := y
  simp only [HA.h, Hn.H.mk.injEq] at h
  obtain ⟨rfl, rfl, rfl⟩ := h
  exact f

set_option maxRecDepth 100000 in
set_option maxHeartbeats 4000000 in
theorem lentHunk_any (x : HA) (w : World) (hx : x.Low w.heap.size w) (l1 : x.old.length ≤ 5000) (l2 : x.new.length ≤ 5000) :
    Calls Try.prog 36 #[x.val] w fun e w' => ∃ y : HA, e = .returned y.val ∧ LentOf w.heap.size w' x y ∧ Below w.heap.size w w' := by
  obtain ⟨X, hX⟩ : ∃ X, X = (w.alloc (.cells #[.int .i64 x.at_, x.vo, x.vn] 41)).alloc (.cells #[.int .i64 0, .slice none 0 0, .slice none 0 0] 41) := ⟨_, rfl⟩
  have bX : Below w.heap.size w X := by rw [hX]; exact below_then (below_nw w _) (below_nw _ _)
  have sX : X.heap.size = w.heap.size + 1 + 1 := by rw [hX]; simp
  have x0 : HBox X w.heap.size x := by rw [hX]; exact (HBox.new w x).below (below_nw _ _)
  have x1 : HBox X (w.heap.size + 1) zeroHA := by
    have h := HBox.new (w.alloc (.cells #[.int .i64 x.at_, x.vo, x.vn] 41)) zeroHA
    rw [World.size_alloc] at h
    rw [hX]; exact h
  have L1 : Hid (_) := lent_any x.old x.vo X (hx.at bX).1 l1
  have L2 : Hid (∀ W, Below w.heap.size w W → _) := fun W hW => lent_any x.new x.vn W (hx.at hW).2 l2
  obtain ⟨⟨a1, k1, e1⟩, ⟨a2, k2, e2⟩⟩ := hx.shape
  obtain ⟨p, vo, vn, P1, P2⟩ := x
  simp only at e1 e2
  subst e1 e2
  have X0 : Hid (HBox X w.heap.size _) := x0
  have X1 : Hid (HBox X (w.heap.size + 1) zeroHA) := x1
  have BX : Hid (Below w.heap.size w X) := bX
  have SX : Hid (X.heap.size = w.heap.size + 1 + 1) := sX
  clear hx x0 x1 bX sX
  simp only [HA.val] at hX L1 L2 ⊢
  go_enter Try.func36, Try.ntmps36
  go_wp2_with fail
  rw [← hX]
  clear hX
  refine Calls.mono L1.out ?_
  rintro e w1 ⟨g1, c1, rfl, o1, b1⟩
  have y0 := HBox.below X0.out b1
  have y1 := HBox.below X1.out b1
  obtain ⟨f0, f1, f2⟩ := y0.cells
  have ff : ∀ j, w1.frozen? ⟨w.heap.size, j, none⟩ = false := fun j => frozen_of_row w1 _ j _ _ y0
  have O1 : Hid (w1.ownsRow X.heap.size 9 1 (.slice (some ⟨g1, 0, none⟩) (P1.length + 12) c1) (P1.length + 12) ((P1 ++ marks 12).map txtV)) := o1
  obtain ⟨W1, hW1⟩ : ∃ W, W = w1.setCell ⟨w.heap.size, 1, none⟩ (.slice (some ⟨g1, 0, none⟩) P1.length c1) := ⟨_, rfl⟩
  have h1 : W1.heap[w.heap.size]? = some (.cells #[.int .i64 p, .slice (some ⟨g1, 0, none⟩) P1.length c1, .slice a2 P2.length k2] 41 (0, 0)) := by rw [hW1]; exact heap_setCell_same w1 _ 1 _ 41 _ y0
  have gr1 : w1.grownBy W1 (some w.heap.size) := by rw [hW1]; exact grown_set w1 _ _ _
  have BW1 : Below w.heap.size w W1 := below_grown (below_then BX.out b1) gr1 (Nat.le_refl _) (below_then BX.out b1).size
  have OW1 : Hid (W1.ownsRow X.heap.size 9 1 (.slice (some ⟨g1, 0, none⟩) (P1.length + 12) c1) (P1.length + 12) ((P1 ++ marks 12).map txtV)) := by rw [Hid, hW1]; exact owns_set O1.out y0 (by decide) 1 _
  have YW1 : Hid (HBox W1 (w.heap.size + 1) zeroHA) := y1.grown gr1 (by omega)
  have SW1 : Hid (w.heap.size ≤ W1.heap.size ∧ X.heap.size ≤ W1.heap.size) := ⟨BW1.size, by have := gr1.size; have := b1.size; omega⟩
  have H1 : Hid (_) := h1
  have L3 : Hid (_) := L2.out W1 BW1
  have HBW1 : Hid (_) := BW1
  simp only at f0 f1 f2
  clear L1 L2 X0 X1 BX b1 o1 O1 y0 y1 gr1 BW1 h1
  go_wp2_with fail
  rw [← hW1]
  clear hW1
  refine Calls.mono L3.out ?_
  rintro e w2 ⟨g2, c2, rfl, o2, b2⟩
  clear f0 f1 f2 ff
  have y0 := (b2.block _ (Array.getElem?_eq_some_iff.1 H1.out).1).trans H1.out
  have y1 := HBox.below YW1.out b2
  have f0 : w2.cell? ⟨w.heap.size, 0, none⟩ = some (.int .i64 p) := by rw [Lib.cell_of_heap y0]; rfl
  have f1 : w2.cell? ⟨w.heap.size, 1, none⟩ = some (.slice (some ⟨g1, 0, none⟩) P1.length c1) := by rw [Lib.cell_of_heap y0]; rfl
  have f2 : w2.cell? ⟨w.heap.size, 2, none⟩ = some (.slice a2 P2.length k2) := by rw [Lib.cell_of_heap y0]; rfl
  have ff : ∀ j, w2.frozen? ⟨w.heap.size, j, none⟩ = false := fun j => frozen_of_row w2 _ j _ _ y0
  obtain ⟨W2, hW2⟩ : ∃ W, W = w2.setCell ⟨w.heap.size, 2, none⟩ (.slice (some ⟨g2, 0, none⟩) P2.length c2) := ⟨_, rfl⟩
  have h2 := heap_setCell_same w2 _ 2 _ 41 (.slice (some ⟨g2, 0, none⟩) P2.length c2) y0
  rw [← hW2] at h2
  have gr2 : w2.grownBy W2 (some w.heap.size) := by rw [hW2]; exact grown_set w2 _ _ _
  have z1 : HBox W2 (w.heap.size + 1) zeroHA := y1.grown gr2 (by omega)
  obtain ⟨q0, q1, q2, qf⟩ := hbox_facts z1 (.int .i64 p) (.slice (some ⟨g1, 0, none⟩) P1.length c1)
  obtain ⟨Z, hZ, hz, gz, oz⟩ := hbox_put z1 ⟨p, .slice (some ⟨g1, 0, none⟩) P1.length c1, .slice (some ⟨g2, 0, none⟩) P2.length c2, P1, P2⟩
  simp only [zeroHA] at q0 q1 q2
  simp only at hZ
  obtain ⟨r0, r1, r2⟩ := hz.cells
  simp only at r0 r1 r2
  have BW2 : Below w.heap.size w w2 := below_then HBW1.out b2
  have BWW : Below w.heap.size w W2 := below_grown BW2 gr2 (Nat.le_refl _) BW2.size
  have BZ : Below w.heap.size w Z := below_grown BWW gz (by omega) BWW.size
  have HF : Hid (LentOf w.heap.size Z ⟨p, .slice a1 P1.length k1, .slice a2 P2.length k2, P1, P2⟩ ⟨p, .slice (some ⟨g1, 0, none⟩) P1.length c1, .slice (some ⟨g2, 0, none⟩) P2.length c2, P1, P2⟩ ∧ Below w.heap.size w Z) := by
    have e1 : ∀ {B n v xs}, w2.ownsRow B 9 1 v n xs → Z.ownsRow B 9 1 v n xs := fun h => oz _ _ _ _ (by rw [hW2]; exact owns_set h y0 (by decide) 2 _)
    have hs := SX.out
    exact ⟨⟨rfl, ⟨g1, c1, rfl, owns_base (e1 (owns_below OW1.out b2)) (by omega)⟩, ⟨g2, c2, rfl, owns_base (e1 o2) SW1.out.1⟩⟩, BZ⟩
  rw [hW2] at hZ q0 q1 q2 qf
  clear L3 b2 o2 y0 y1 h2 gr2 z1 hz gz oz BW2 BWW BZ H1 OW1 YW1
  go_wp2
  rw [← hZ]
  refine bodyPost_ret (v := .agg #[.int .i64 p, .slice (some ⟨g1, 0, none⟩) P1.length c1, .slice (some ⟨g2, 0, none⟩) P2.length c2]) (by simp [results, Try.results36, go_sem, r0, r1, r2]) rfl ⟨_, rfl, HF.out⟩

set_option maxRecDepth 100000 in
set_option maxHeartbeats 4000000 in
theorem keptHunk_any (x y : HA) (B : Nat) (w : World) (hx : x.Low w.heap.size w) (hy : LentOf B w x y) (l1 : x.old.length ≤ 5000) (l2 : x.new.length ≤ 5000) :
    Calls Try.prog 41 #[y.val, x.val] w fun e w' => e = .returned (.bool true) ∧ Below w.heap.size w w' := by
  obtain ⟨X, hX⟩ : ∃ X, X = (w.alloc (.cells #[.int .i64 y.at_, y.vo, y.vn] 41)).alloc (.cells #[.int .i64 x.at_, x.vo, x.vn] 41) := ⟨_, rfl⟩
  have bX : Below w.heap.size w X := by rw [hX]; exact below_then (below_nw w _) (below_nw _ _)
  have x0 : HBox X w.heap.size y := by rw [hX]; exact (HBox.new w y).below (below_nw _ _)
  have x1 : HBox X (w.heap.size + 1) x := by
    have h := HBox.new (w.alloc (.cells #[.int .i64 y.at_, y.vo, y.vn] 41)) x
    rw [World.size_alloc] at h
    rw [hX]; exact h
  have X0 : Hid (∀ W, Below X.heap.size X W → HBox W w.heap.size y ∧ HBox W (w.heap.size + 1) x) := fun W hW => ⟨x0.below hW, x1.below hW⟩
  have hyo : y.old = x.old ∧ y.new = x.new := by
    obtain ⟨h, -, -⟩ := hy
    obtain ⟨p, vo, vn, P1, P2⟩ := x
    obtain ⟨p', vo', vn', Q1, Q2⟩ := y
    simp only [HA.h, Hn.H.mk.injEq] at h
    exact h.2
  have S1 : Hid (_) := sameHunkA_yes y x X.heap.size X (hy.low.at bX) (hx.at bX) (Nat.le_refl _) hy.1 (by rw [hyo.1]; omega) (by rw [hyo.2]; omega)
  have K1 : Hid (∀ W, Below X.heap.size X W → Calls Try.prog 13 #[y.vo, x.vo] W fun e w' => e = .returned (.bool true) ∧ Below W.heap.size W w') := fun W hW => by
    obtain ⟨g, cap, e, h⟩ := hy.2.1
    rw [e]
    rw [hyo.1] at h ⊢
    exact kept_any x.old x.vo g cap B W ((hx.at bX).at hW).1 (owns_below (owns_below h bX) hW) l1
  have K2 : Hid (∀ W, Below X.heap.size X W → Calls Try.prog 13 #[y.vn, x.vn] W fun e w' => e = .returned (.bool true) ∧ Below W.heap.size W w') := fun W hW => by
    obtain ⟨g, cap, e, h⟩ := hy.2.2
    rw [e]
    rw [hyo.2] at h ⊢
    exact kept_any x.new x.vn g cap B W ((hx.at bX).at hW).2 (owns_below (owns_below h bX) hW) l2
  have BX : Hid (Below w.heap.size w X) := bX
  obtain ⟨⟨a1, k1, e1⟩, ⟨a2, k2, e2⟩⟩ := hx.shape
  obtain ⟨⟨a3, k3, e3⟩, ⟨a4, k4, e4⟩⟩ := hy.low.shape
  obtain ⟨p, vo, vn, P1, P2⟩ := x
  obtain ⟨q, uo, un, Q1, Q2⟩ := y
  simp only at e1 e2 e3 e4
  subst e1 e2 e3 e4
  clear hx hy x0 x1 bX hyo
  simp only [HA.val] at hX S1 K1 K2 ⊢
  go_enter Try.func41, Try.ntmps41
  go_wp2_with fail
  rw [← hX]
  clear hX
  refine Calls.mono S1.out ?_
  rintro e w1 ⟨rfl, b1⟩
  obtain ⟨⟨c0, c1, c2⟩, ⟨c3, c4, c5⟩⟩ := And.intro (X0.out w1 b1).1.cells (X0.out w1 b1).2.cells
  simp only at c0 c1 c2 c3 c4 c5
  have K3 : Hid (_) := K1.out w1 b1
  have B1 : Hid (Below X.heap.size X w1) := b1
  clear S1 K1 b1
  go_wp2_with fail
  refine Calls.mono K3.out ?_
  rintro e w2 ⟨rfl, b2⟩
  have B2 : Hid (Below X.heap.size X w2) := below_then B1.out b2
  clear c0 c1 c2 c3 c4 c5 K3 B1 b2
  obtain ⟨⟨c0, c1, c2⟩, ⟨c3, c4, c5⟩⟩ := And.intro (X0.out w2 B2.out).1.cells (X0.out w2 B2.out).2.cells
  simp only at c0 c1 c2 c3 c4 c5
  have K4 : Hid (_) := K2.out w2 B2.out
  clear K2
  go_wp2_with fail
  refine Calls.mono K4.out ?_
  rintro e w3 ⟨rfl, b3⟩
  have B3 : Hid (Below w.heap.size w w3) := below_then BX.out (below_then B2.out b3)
  clear c0 c1 c2 c3 c4 c5 K4 B2 b3
  go_wp2
  go_ret
  exact ⟨rfl, B3.out⟩

end Go.Proofs.Ytflnakjffgobmaa

/-
  The walks of the document's answers of chapter 4: apart, more, moved, both; of chapter 3: Invert.
-/
namespace Go.Proofs.Ytflnakjffgobmaa
open Go.RowKit Go.Shelf

attribute [local go_sem] Oper.semAt_some

set_option maxRecDepth 100000 in
set_option maxHeartbeats 4000000 in
theorem refInvert_any (x : HA) (w : World) (hx : x.Low w.heap.size w) (hs : x.Small) :
    Calls Try.prog 24 #[x.val] w fun e w' => ∃ y : HA, e = .returned y.val ∧ y.h = Hn.inv x.h ∧ y.Low w'.heap.size w' ∧ Below w.heap.size w w' := by
  obtain ⟨X, hX⟩ : ∃ X, X = (w.alloc (.cells #[.int .i64 x.at_, x.vo, x.vn] 41)).alloc (.cells #[.int .i64 0, .slice none 0 0, .slice none 0 0] 41) := ⟨_, rfl⟩
  have bX : Below w.heap.size w X := by rw [hX]; exact below_then (below_nw w _) (below_nw _ _)
  have x0 : HBox X w.heap.size x := by rw [hX]; exact (HBox.new w x).below (below_nw _ _)
  have x1 : HBox X (w.heap.size + 1) zeroHA := by
    have h := HBox.new (w.alloc (.cells #[.int .i64 x.at_, x.vo, x.vn] 41)) zeroHA
    rw [World.size_alloc] at h
    rw [hX]; exact h
  have XB : Hid (∀ W, Below X.heap.size X W → HBox W w.heap.size x ∧ HBox W (w.heap.size + 1) zeroHA) := fun W hW => ⟨x0.below hW, x1.below hW⟩
  have C1 : Hid (_) := copy_any x.new x.vn (X.drewN 1).heap.size (X.drewN 1) (hx.at bX).2 hs.2
  have C2 : Hid (∀ W, Below X.heap.size X W → _) := fun W hW => copy_any x.old x.vo W.heap.size W ((hx.at bX).at hW).1 hs.1
  have BX : Hid (Below w.heap.size w X) := bX
  obtain ⟨⟨a1, k1, e1⟩, ⟨a2, k2, e2⟩⟩ := hx.shape
  obtain ⟨p, vo, vn, P1, P2⟩ := x
  simp only at e1 e2
  subst e1 e2
  clear hx x0 x1 bX
  simp only [HA.val] at hX C1 C2 ⊢
  refine (callsIn_wide (n := 3)).1 ?_
  refine callsIn_of_wp Try.func24 rfl trivial ?_ rfl
  simp only [Try.ntmps24, List.size_toArray, List.length_cons, List.length_nil, Nat.reduceAdd, Nat.reduceSub, Array.replicate_succ, Array.replicate_zero, List.push_toArray, List.append_toArray, List.nil_append, List.cons_append]
  gi_wp2
  rw [← hX]
  clear hX
  have BD : Below X.heap.size X (X.drewN 1) := below_drewN (Below.refl _ X) 1
  refine region_lex (fun W => HBox W w.heap.size ⟨p, .slice a1 P1.length k1, .slice a2 P2.length k2, P1, P2⟩) 4 6 rfl (by kernel_rfl) (by kernel_rfl) (by kernel_rfl) (by kernel_rfl) (fun _ _ d _ _ h => by cases d <;> exact h) (XB.out _ BD).1 ?_
  simp only [List.take_succ_cons, List.take_zero]
  iterate 4 (apply lexC_want; (rfl); (exact fun _ => rfl); (intro w' hw'; obtain ⟨q0, q1, q2⟩ := HBox.cells hw'; simp only at q0 q1 q2; go_simp; try rfl); simp only [Act.put, List.setIfInBounds_toArray, List.set_cons_zero, List.set_cons_succ])
  refine lexC_nil ?_
  refine anyC_take (i := 5) (v := .pointer (some ⟨w.heap.size, 1, none⟩)) rfl rfl (by kernel_rfl) (by kernel_rfl) (by kernel_rfl) (fun _ _ d _ _ h => by cases d <;> exact h) (XB.out _ BD).1 (by rfl) (fun _ => rfl) (by intro w' _; go_simp; try rfl) ?_
  refine anyC_take (i := 6) (v := .slice a1 P1.length k1) rfl rfl (by kernel_rfl) (by kernel_rfl) (by kernel_rfl) (fun _ _ d _ _ h => by cases d <;> exact h) (XB.out _ BD).1 (by rfl) (fun _ => rfl) (by intro w' hw'; obtain ⟨q0, q1, q2⟩ := HBox.cells hw'; simp only at q0 q1 q2; go_simp; try rfl) ?_
  refine anyC_one (i := 4) (by kernel_rfl) rfl (by rfl) (fun K1 hK1 => ?_)
  go_simp
  refine ⟨trivial, ?_⟩
  refine (callsIn_wide.2 C1.out).mono ?_
  rintro e w1 ⟨r1, rfl, o1, b1⟩
  obtain ⟨ra, rc, rfl⟩ := slice_shape o1
  have B1 : Below X.heap.size X w1 := BD.trans b1
  refine hK1 _ _ (XB.out _ B1).1 ?_
  clear hK1
  refine anyC_one (i := 7) (by kernel_rfl) rfl (by rfl) (fun K2 hK2 => ?_)
  go_simp
  refine ⟨trivial, ?_⟩
  refine (callsIn_wide.2 (C2.out w1 B1)).mono ?_
  rintro e w2 ⟨r2, rfl, o2, b2⟩
  obtain ⟨sa, sc, rfl⟩ := slice_shape o2
  have B2 : Below X.heap.size X w2 := below_then B1 b2
  refine hK2 _ _ (XB.out _ B2).1 ?_
  clear hK2
  obtain ⟨y0, y1⟩ := XB.out _ B2
  refine anyC_one (i := 8) (by kernel_rfl) rfl (by rfl) (fun K3 hK3 => ?_)
  go_simp
  refine hK3 _ _ y0 ?_
  clear hK3
  obtain ⟨f0, f1, f2, ff⟩ := hbox_facts y1 (.int .i64 p) (.slice ra P2.length rc)
  obtain ⟨Z, hZ, hz, gz, oz⟩ := hbox_put y1 ⟨p, .slice ra P2.length rc, .slice sa P1.length sc, P2, P1⟩
  simp only [zeroHA] at f0 f1 f2
  simp only at hZ
  refine anyC_one (i := 9) (by kernel_rfl) rfl (by rfl) (fun K4 hK4 => ?_)
  go_simp
  rw [← hZ]
  refine hK4 _ _ (y0.grown gz (by omega)) ?_
  clear hK4 f0 f1 f2 ff hZ
  refine anyC_done (by kernel_rfl) ?_
  have WB := below_then BX.out B2
  have BZ : Below w.heap.size w Z := below_grown WB gz (by omega) WB.size
  have HF : Hid (HA.Low Z.heap.size Z ⟨p, .slice ra P2.length rc, .slice sa P1.length sc, P2, P1⟩ ∧ Below w.heap.size w Z) := ⟨⟨RowLow.of_owns (oz _ _ _ _ (owns_below o1 b2)), RowLow.of_owns (oz _ _ _ _ o2)⟩, BZ⟩
  obtain ⟨c0, c1, c2⟩ := hz.cells
  simp only at c0 c1 c2
  clear hz gz oz BZ WB B1 B2 b1 b2 o1 o2 y0 y1 BD
  gi_wp2
  refine bodyPost_ret (v := .agg #[.int .i64 p, .slice ra P2.length rc, .slice sa P1.length sc]) (by simp [results, Try.results24, go_sem, c0, c1, c2]) rfl ⟨⟨p, .slice ra P2.length rc, .slice sa P1.length sc, P2, P1⟩, rfl, rfl, HF.out.1, HF.out.2⟩

end Go.Proofs.Ytflnakjffgobmaa

/-
  The walk of clerestorykit.LentHunks: a row of hunks with marks behind it, and behind the lines of each.
-/
namespace Go.Proofs.Ytflnakjffgobmaa
open Go.RowKit Go.Shelf

attribute [local go_sem] Oper.semAt_some

/-- Each of ys is that of xs, lent. -/
def LentAll (B : Nat) (W : World) (xs ys : List HA) : Prop := ys.length = xs.length ∧ ∀ (j : Nat) (x y : HA), xs[j]? = some x → ys[j]? = some y → LentOf B W x y
theorem LentAll.below {B : Nat} {W W' : World} {xs ys : List HA} (h : LentAll B W xs ys) (hb : Below W.heap.size W W') : LentAll B W' xs ys := ⟨h.1, fun j x y hx hy => (h.2 j x y hx hy).below hb⟩
theorem LentRow.grown {B B' n s : Nat} {W W' : World} {v u : Value} {L : List (List UInt8)} {ys : List Value} (h : LentRow B W v L) (hu : W.ownsRow B' 41 s u n ys) (hg : W.grownBy W' u.ownBlock) : LentRow B W' v L := by
  obtain ⟨g, cap, e, h⟩ := h
  exact ⟨g, cap, e, owns_two h hu hg (by decide)⟩
theorem LentOf.grown {B B' n s : Nat} {W W' : World} {x y : HA} {u : Value} {ys : List Value} (h : LentOf B W x y) (hu : W.ownsRow B' 41 s u n ys) (hg : W.grownBy W' u.ownBlock) : LentOf B W' x y := ⟨h.1, h.2.1.grown hu hg, h.2.2.grown hu hg⟩
theorem LentAll.grown {B B' n s : Nat} {W W' : World} {xs ys : List HA} {u : Value} {zs : List Value} (h : LentAll B W xs ys) (hu : W.ownsRow B' 41 s u n zs) (hg : W.grownBy W' u.ownBlock) : LentAll B W' xs ys := ⟨h.1, fun j x y hx hy => (h.2 j x y hx hy).grown hu hg⟩
theorem LentAll.snoc {B : Nat} {W : World} {xs ys : List HA} {k : Nat} {x y : HA} (h : LentAll B W (xs.take k) ys) (hk : k ≤ xs.length) (hx : xs[k]? = some x) (hy : LentOf B W x y) : LentAll B W (xs.take (k + 1)) (ys ++ [y]) := by
  have hkl : k < xs.length := (List.getElem?_eq_some_iff.1 hx).1
  have hl : ys.length = k := by rw [h.1, List.length_take]; omega
  refine ⟨by simp [hl]; omega, fun j u v hu hv => ?_⟩
  rw [List.getElem?_take] at hu
  split at hu
  · rename_i hj
    by_cases e : j < k
    · rw [List.getElem?_append_left (by omega)] at hv
      exact h.2 j u v (by rw [List.getElem?_take, if_pos e]; exact hu) hv
    · have : j = k := by omega
      subst this
      rw [List.getElem?_append_right (by omega), hl, Nat.sub_self] at hv
      simp at hv
      rw [hx] at hu
      cases hu
      subst hv
      exact hy
  · cases hu
theorem haCells_snoc (ys : List HA) (y : HA) : haCells (ys ++ [y]) = haCells ys ++ [.int .i64 y.at_, y.vo, y.vn] := by simp [haCells]

set_option maxRecDepth 100000 in
set_option maxHeartbeats 8000000 in
theorem lentHunks_any (xs : List HA) (v : Value) (w : World) (hv : HaLow w.heap.size w v xs) (hl : xs.length ≤ 4000) (hs : ∀ x ∈ xs, x.old.length ≤ 5000 ∧ x.new.length ≤ 5000) :
    Calls Try.prog 9 #[v] w fun e w' => ∃ g cap ys, e = .returned (.slice (some ⟨g, 0, none⟩) xs.length cap) ∧ w'.ownsRow w.heap.size 41 3 (.slice (some ⟨g, 0, none⟩) (xs.length + 12) cap) (xs.length + 12) (haCells ys ++ mks mcH 1 12) ∧ LentAll w.heap.size w' xs ys ∧ Below w.heap.size w w' := by
  obtain ⟨⟨ao, cap, b, off, rfl, -, hao, hc⟩, hlow⟩ := hv
  obtain ⟨i0, hi, hz0, hz1, hz2⟩ := info_parts info41s
  have HC : Hid (_) := hc
  have HLOW : Hid (∀ x ∈ xs, x.Low w.heap.size w) := hlow
  have HS : Hid (_) := hs
  clear hc hlow hs
  go_enter Try.func9, Try.ntmps9
  go_wp2_with (at_make; refine wpList_make_own _ rfl _ _ 23 rfl w.heap.size 41 i0 (.agg #[.int .i64 0, .slice none 0 0, .slice none 0 0]) 3 Try.underlying23 hi hz0 hz1 _ _ _ (xs.length + 12) rfl rfl (by omega) (by rw [hz2]; omega) (by unfold maxLen; omega) (Nat.le_refl _) ?_; intro w1 hown1 hg1; have hB1 := (Below.refl w.heap.size w).grown hg1 (Nat.le_refl _) (by simp))
  have ST : Hid (w1.ownsRow w.heap.size 41 3 (.slice (some ⟨w.heap.size, 0, none⟩) 0 (xs.length + 12)) 0 [] ∧ Below w.heap.size w w1) := ⟨hown1, hB1⟩
  clear hown1 hg1 hB1
  go_loopw [3, 4] (fun t i wr => ∃ (k : Nat) (ys : List HA), k ≤ xs.length ∧ i = .int .i64 k ∧ wr.ownsRow w.heap.size 41 3 t k (haCells ys) ∧ LentAll w.heap.size wr (xs.take k) ys ∧ Below w.heap.size w wr) (fun _ i _ => xs.length - (intOf i).toNat)
  case atStart => exact ⟨0, [], by omega, rfl, ST.out.1, ⟨rfl, fun j x y hx hy => by simp at hy⟩, ST.out.2⟩
  case round =>
    clear ST
    obtain ⟨k, ys, hk, rfl, hown, hla, hB⟩ := hrel
    by_cases hlt : k < xs.length
    · obtain ⟨x, hx⟩ : ∃ x, xs[k]? = some x := ⟨xs[k], List.getElem?_eq_getElem hlt⟩
      obtain ⟨rfl, hbm⟩ := hao (by omega)
      obtain ⟨g0, g1, g2⟩ := haCells_get xs k x hx
      have c0 : wr.cell? ⟨b, off + k * 3, none⟩ = some (.int .i64 x.at_) := (hB.cell (p := ⟨b, off + k * 3, none⟩) (by show b < _; omega)).trans (HC.out _ _ g0)
      have c1 : wr.cell? ⟨b, off + k * 3 + 1, none⟩ = some x.vo := (hB.cell (p := ⟨b, off + k * 3 + 1, none⟩) (by show b < _; omega)).trans (HC.out _ _ g1)
      have c2 : wr.cell? ⟨b, off + k * 3 + 2, none⟩ = some x.vn := (hB.cell (p := ⟨b, off + k * 3 + 2, none⟩) (by show b < _; omega)).trans (HC.out _ _ g2)
      have hm2 := List.mem_of_getElem? hx
      have xl := HA.Low.at (HLOW.out x hm2) hB
      obtain ⟨l1, l2⟩ := HS.out x hm2
      have LT : Hid (_) := lentHunk_any x wr xl l1 l2
      obtain ⟨⟨a1, k1, e1⟩, ⟨a2, k2, e2⟩⟩ := xl.shape
      obtain ⟨at3, cp3, rfl⟩ := slice_shape hown
      have HX : Hid (xs[k]? = some x) := hx
      obtain ⟨p, vo, vn, L1, L2⟩ := x
      simp only at c0 c1 c2 e1 e2
      subst e1 e2
      have OWN : Hid (wr.ownsRow w.heap.size 41 3 (.slice at3 k cp3) k (haCells ys)) := hown
      have HLA : Hid (_) := hla
      have HB : Hid (Below w.heap.size w wr) := hB
      simp only [HA.val] at LT
      clear g0 g1 g2 hm2 xl l1 l2 hx hown hla hB
      go_wp2_with fail
      refine Calls.mono LT.out ?_
      rintro e w1 ⟨y, rfl, lo, b1⟩
      obtain ⟨⟨a3, k3, e3⟩, ⟨a4, k4, e4⟩⟩ := lo.low.shape
      obtain ⟨q, uo, un, M1, M2⟩ := y
      simp only at e3 e4
      subst e3 e4
      have OW1 := owns_below OWN.out b1
      have B1 : Below w.heap.size w w1 := below_then HB.out b1
      obtain ⟨V, hV⟩ : ∃ V, V = (w1.alloc (.cells #[.int .i64 q, .slice a3 M1.length k3, .slice a4 M2.length k4] 41)).alloc (.cells #[.int .i64 q, .slice a3 M1.length k3, .slice a4 M2.length k4] 41) := ⟨_, rfl⟩
      have bV : Below w1.heap.size w1 V := by rw [hV]; exact below_then (below_nw _ _) (below_nw _ _)
      have hsrc : ∀ (j : Nat) (u : Value), [Value.int .i64 q, .slice a3 M1.length k3, .slice a4 M2.length k4][j]? = some u → V.cell? ((⟨w1.heap.size + 1, 0, none⟩ : Addr).add j) = some u := by
        have h := cells_new (w1.alloc (.cells #[.int .i64 q, .slice a3 M1.length k3, .slice a4 M2.length k4] 41)) [.int .i64 q, .slice a3 M1.length k3, .slice a4 M2.length k4] 41
        rw [World.size_alloc] at h
        rw [hV]; exact h
      subst hV
      have OWV : Hid (_) := owns_below OW1 bV
      have HSRC : Hid (_) := hsrc
      have HLE : Hid (w.heap.size ≤ ((w1.alloc (.cells #[.int .i64 q, .slice a3 M1.length k3, .slice a4 M2.length k4] 41)).alloc (.cells #[.int .i64 q, .slice a3 M1.length k3, .slice a4 M2.length k4] 41)).heap.size) := Nat.le_trans B1.size bV.size
      have HLV : Hid (_ ∧ _ ∧ _) := ⟨(LentAll.below HLA.out b1).below bV, LentOf.base (lo.below bV) HB.out.size, below_then B1 bV⟩
      clear LT OWN HLA HB lo b1 OW1 B1 bV hsrc
      go_wp2_with (at_builtin; refine wpList_append_own _ rfl _ _ 23 rfl w.heap.size 41 i0 (.agg #[.int .i64 0, .slice none 0 0, .slice none 0 0]) 3 56 Try.underlying23 hi hz0 hz1 hz2 rfl (by decide) _ _ _ rfl OWV.out ⟨w1.heap.size + 1, 0, none⟩ 1 1 [.int .i64 q, .slice a3 M1.length k3, .slice a4 M2.length k4] rfl rfl HSRC.out (by simp [Value.oneCell']) (by unfold maxLen; omega) (by omega) HLE.out ?_; intro v' W' hown' hgr _)
      go_roundw
      case rel =>
        refine ⟨k + 1, ys ++ [⟨q, .slice a3 M1.length k3, .slice a4 M2.length k4, M1, M2⟩], by omega, by go_num, ?_, ?_, ?_⟩
        · rw [haCells_snoc]; exact hown'
        · exact LentAll.snoc (HLV.out.1.grown OWV.out hgr) hk HX.out (HLV.out.2.1.grown OWV.out hgr)
        · exact HLV.out.2.2.grown hgr HLV.out.2.2.size (fun q hq => (World.ownsRow.lt OWV.out q hq).1)
      case measure => simp [intOf]; omega
    · have hkl : k = xs.length := by omega
      have ST2 : Hid (wr.ownsRow w.heap.size 41 3 u3 (xs.length + 0) (haCells ys ++ mks mcH 1 0) ∧ LentAll w.heap.size wr xs ys ∧ Below w.heap.size w wr) := by
        rw [hkl, List.take_length] at hla
        refine ⟨?_, hla, hB⟩
        rw [mks_zero, List.append_nil, Nat.add_zero, ← hkl]; exact hown
      clear hown hla hB hkl HC HLOW HS hao
      go_wp2
      go_loopw [3, 6] (fun t i wr => ∃ (j : Nat), j ≤ 12 ∧ i = .int .i64 j ∧ wr.ownsRow w.heap.size 41 3 t (xs.length + j) (haCells ys ++ mks mcH 1 j) ∧ LentAll w.heap.size wr xs ys ∧ Below w.heap.size w wr) (fun _ i _ => 12 - (intOf i).toNat)
      case atStart => exact ⟨0, by omega, rfl, ST2.out.1, ST2.out.2.1, ST2.out.2.2⟩
      case round =>
        clear ST2
        obtain ⟨j, hj, rfl, hown, hla, hB⟩ := hrel
        by_cases hlt2 : j < 12
        · have MK : Hid (_) := markHunk_any 1 j (by omega) (by omega) wr
          obtain ⟨at3, cp3, rfl⟩ := slice_shape hown
          have OWN : Hid (_) := hown
          have HLB : Hid (_ ∧ _) := ⟨hla, hB⟩
          clear hown hla hB
          go_wp2_with fail
          refine Calls.mono MK.out ?_
          rintro e w1 ⟨rfl, b1⟩
          have bV := below_nw w1 (.cells #[.int .i64 (mn 1 j : Nat), .slice none 0 0, .slice none 0 0] 41)
          have OWV : Hid (_) := owns_below (owns_below OWN.out b1) bV
          have HSRC : Hid (_) := cells_new w1 [.int .i64 (mn 1 j : Nat), .slice none 0 0, .slice none 0 0] 41
          have HLV : Hid (_ ∧ _) := ⟨(LentAll.below HLB.out.1 b1).below bV, below_then (below_then HLB.out.2 b1) bV⟩
          clear MK OWN HLB b1 bV
          go_wp2_with (at_builtin; refine wpList_append_own _ rfl _ _ 23 rfl w.heap.size 41 i0 (.agg #[.int .i64 0, .slice none 0 0, .slice none 0 0]) 3 56 Try.underlying23 hi hz0 hz1 hz2 rfl (by decide) _ _ _ rfl OWV.out ⟨w1.heap.size, 0, none⟩ 1 1 [.int .i64 (mn 1 j : Nat), .slice none 0 0, .slice none 0 0] rfl rfl HSRC.out (by simp [Value.oneCell']) (by unfold maxLen; omega) (by omega) HLV.out.2.size ?_; intro v' W' hown' hgr _)
          go_roundw
          case rel =>
            refine ⟨j + 1, by omega, by go_num, ?_, ?_, ?_⟩
            · rw [mks_succ, ← List.append_assoc]; exact hown'
            · exact HLV.out.1.grown OWV.out hgr
            · exact HLV.out.2.grown hgr HLV.out.2.size (fun q hq => (World.ownsRow.lt OWV.out q hq).1)
          case measure => simp [intOf]; omega
        · have hj12 : j = 12 := by omega
          subst hj12
          obtain ⟨g, cp3, rfl⟩ := ownsRow_succ hown
          have hcap : (xs.length : Int) ≤ (cp3 : Int) := by
            rcases hown.2 with ⟨h0, _⟩ | ⟨g', cap', cur, he, _, _, hnc, _⟩
            · cases h0
            · injection he with _ _ e3; omega
          have HF : Hid (_ ∧ _ ∧ _) := ⟨hown, hla, hB⟩
          clear hown hla hB
          go_wp2
          go_ret
          exact ⟨g, cp3, ys, by simp, HF.out.1, HF.out.2.1, HF.out.2.2⟩

end Go.Proofs.Ytflnakjffgobmaa

/-
  The walk of clerestorykit.KeptHunks: a lent row of hunks that stayed as it was.
-/
namespace Go.Proofs.Ytflnakjffgobmaa
open Go.RowKit Go.Shelf

/-- The worlds in which a part of a region goes: nothing below has turned. -/
structure BCls (w : World) where
  val : World
  below : Below w.heap.size w val

theorem BCls.next {w : World} (z : BCls w) {w2 : World} (hb : Below z.val.heap.size z.val w2) : ∃ z2 : BCls w, w2 = z2.val :=
  ⟨⟨w2, z.below.trans (hb.mono z.below.size)⟩, rfl⟩
theorem haCells_len' (xs : List HA) : (haCells xs).length = xs.length * 3 := by
  induction xs with
  | nil => rfl
  | cons x xs ih => simp [haCells] at ih ⊢; omega
theorem below_cell_some {w W : World} {p : Addr} {v : Value} (h : w.cell? p = some v) (hb : Below w.heap.size w W) : W.cell? p = some v :=
  (hb.cell (p := p) (by simpa using World.block_lt_of_cell? _ _ h)).trans h

set_option maxRecDepth 100000 in
set_option maxHeartbeats 8000000 in
theorem keptHunks_any (xs ys : List HA) (v : Value) (g cap B : Nat) (w : World) (hv : HaLow w.heap.size w v xs) (hown : w.ownsRow B 41 3 (.slice (some ⟨g, 0, none⟩) (xs.length + 12) cap) (xs.length + 12) (haCells ys ++ mks mcH 1 12)) (hla : LentAll B w xs ys) (hl : xs.length ≤ 4000) (hs : ∀ x ∈ xs, x.old.length ≤ 5000 ∧ x.new.length ≤ 5000) :
    Calls Try.prog 14 #[.slice (some ⟨g, 0, none⟩) xs.length cap, v] w fun e w' => e = .returned (.bool true) ∧ Below w.heap.size w w' := by
  obtain ⟨⟨ao, capl, b, off, rfl, -, hao, hc⟩, hlow⟩ := hv
  have hcap : ((xs.length : Int) + 12) ≤ (cap : Int) := by
    rcases hown.2 with ⟨h0, _⟩ | ⟨g', cap', cur, he, _, _, hnc, _⟩
    · cases h0
    · injection he with _ _ e3; omega
  have hyl := hla.1
  have HC : Hid (_) := hc
  have HLOW : Hid (∀ x ∈ xs, x.Low w.heap.size w) := hlow
  have HS : Hid (_) := hs
  have HLA : Hid (_) := hla
  have HY : Hid (∀ (k : Nat) (y : HA), ys[k]? = some y → w.cell? ⟨g, k * 3, none⟩ = some (.int .i64 y.at_) ∧ w.cell? ⟨g, k * 3 + 1, none⟩ = some y.vo ∧ w.cell? ⟨g, k * 3 + 2, none⟩ = some y.vn) := fun k y hy => by
    have hk := (List.getElem?_eq_some_iff.1 hy).1
    have hn := haCells_len' ys
    obtain ⟨g0, g1, g2⟩ := haCells_get ys k y hy
    refine ⟨(hown.cellAt _ (by omega)).trans ?_, (hown.cellAt _ (by omega)).trans ?_, (hown.cellAt _ (by omega)).trans ?_⟩
    · rw [List.getElem?_append_left (by omega)]; exact g0
    · rw [List.getElem?_append_left (by omega)]; exact g1
    · rw [List.getElem?_append_left (by omega)]; exact g2
  have HM : Hid (∀ (k : Nat), xs.length ≤ k → k < xs.length + 12 → w.cell? ⟨g, k * 3, none⟩ = some (.int .i64 (mn 1 (k - xs.length) : Nat)) ∧ w.cell? ⟨g, k * 3 + 1, none⟩ = some (.slice none 0 0) ∧ w.cell? ⟨g, k * 3 + 2, none⟩ = some (.slice none 0 0)) := fun k h1 h2 => by
    have hn := haCells_len' ys
    obtain ⟨g0, g1, g2⟩ := mksH_get 1 (k - xs.length) 12 (by omega)
    refine ⟨(hown.cellAt _ (by omega)).trans ?_, (hown.cellAt _ (by omega)).trans ?_, (hown.cellAt _ (by omega)).trans ?_⟩
    · rw [List.getElem?_append_right (by omega), show k * 3 - (haCells ys).length = (k - xs.length) * 3 by omega]; exact g0
    · rw [List.getElem?_append_right (by omega), show k * 3 + 1 - (haCells ys).length = (k - xs.length) * 3 + 1 by omega]; exact g1
    · rw [List.getElem?_append_right (by omega), show k * 3 + 2 - (haCells ys).length = (k - xs.length) * 3 + 2 by omega]; exact g2
  clear hc hlow hs hown hla
  go_enter Try.func14, Try.ntmps14
  go_wp2
  go_loopw [6] (fun i wr => ∃ k : Nat, k ≤ xs.length + 12 ∧ i = .int .i64 k ∧ Below w.heap.size w wr) (fun i _ => xs.length + 12 - (intOf i).toNat)
  case atStart => exact ⟨0, by omega, rfl, Below.refl _ _⟩
  case round =>
    obtain ⟨k, hk, rfl, hB⟩ := hrel
    have hne : Nonempty (BCls w) := ⟨⟨wr.drew, Below.drew hB⟩⟩
    by_cases hlt : k < xs.length
    · obtain ⟨x, hx⟩ : ∃ x, xs[k]? = some x := ⟨xs[k], List.getElem?_eq_getElem hlt⟩
      obtain ⟨y, hy⟩ : ∃ y, ys[k]? = some y := ⟨ys[k]'(by omega), List.getElem?_eq_getElem (by omega)⟩
      obtain ⟨rfl, hbm⟩ := hao (by omega)
      obtain ⟨g0, g1, g2⟩ := haCells_get xs k x hx
      have d0 := HC.out _ _ g0
      have d1 := HC.out _ _ g1
      have d2 := HC.out _ _ g2
      obtain ⟨f0, f1, f2⟩ := HY.out k y hy
      have hm2 := List.mem_of_getElem? hx
      have xl := HLOW.out x hm2
      obtain ⟨l1, l2⟩ := HS.out x hm2
      have lo := HLA.out.2 k x y hx hy
      have KP : Hid (∀ z : BCls w, Calls Try.prog 41 #[y.val, x.val] z.val fun e w' => e = .returned (.bool true) ∧ Below z.val.heap.size z.val w') := fun z => keptHunk_any x y B z.val (xl.at z.below) (lo.below z.below) l1 l2
      obtain ⟨⟨a1, k1, e1⟩, ⟨a2, k2, e2⟩⟩ := xl.shape
      obtain ⟨⟨a3, k3, e3⟩, ⟨a4, k4, e4⟩⟩ := lo.low.shape
      obtain ⟨p, vo, vn, L1, L2⟩ := x
      obtain ⟨q, uo, un, M1, M2⟩ := y
      simp only at d0 d1 d2 f0 f1 f2 e1 e2 e3 e4
      subst e1 e2 e3 e4
      have c0 : ∀ z : BCls w, z.val.cell? ⟨b, off + k * 3, none⟩ = some (.int .i64 p) := fun z => below_cell_some d0 z.below
      have c1 : ∀ z : BCls w, z.val.cell? ⟨b, off + k * 3 + 1, none⟩ = some (.slice a1 L1.length k1) := fun z => below_cell_some d1 z.below
      have c2 : ∀ z : BCls w, z.val.cell? ⟨b, off + k * 3 + 2, none⟩ = some (.slice a2 L2.length k2) := fun z => below_cell_some d2 z.below
      have c3 : ∀ z : BCls w, z.val.cell? ⟨g, k * 3, none⟩ = some (.int .i64 q) := fun z => below_cell_some f0 z.below
      have c4 : ∀ z : BCls w, z.val.cell? ⟨g, k * 3 + 1, none⟩ = some (.slice a3 M1.length k3) := fun z => below_cell_some f1 z.below
      have c5 : ∀ z : BCls w, z.val.cell? ⟨g, k * 3 + 2, none⟩ = some (.slice a4 M2.length k4) := fun z => below_cell_some f2 z.below
      clear g0 g1 g2 d0 d1 d2 f0 f1 f2 hx hy hm2 xl lo l1 l2 HC HLOW HS HLA HY HM hao
      have i1 : decide ((k : Int) < (xs.length : Int)) = true := by simp; omega
      have i4 : decide (k < xs.length) = true := by simp; omega
      have i2 : decide (xs.length ≤ k) = false := by simp; omega
      simp only [HA.val] at KP
      go_wp2
      refine wp_region_cls (BCls.val (w := w)) (by kernel_rfl) (by kernel_rfl) ⟨wr.drew, Below.drew hB⟩ rfl ?_
      repeat (go_big_quiet_step ((rename_i z; refine (KP.out z).mono ?_; rintro e w2 ⟨rfl, hb⟩; exact ⟨rfl, z.next hb⟩)))
      refine wpQuiet_nil ?_
      rintro _ ⟨z, rfl⟩
      clear c0 c1 c2 c3 c4 c5
      go_wp2
      go_roundw
      case rel => exact ⟨k + 1, by omega, by go_num, z.below⟩
      case measure => simp [intOf]; omega
    · by_cases hlt2 : k < xs.length + 12
      · obtain ⟨f0, f1, f2⟩ := HM.out k (by omega) hlt2
        have c3 : ∀ z : BCls w, z.val.cell? ⟨g, k * 3, none⟩ = some (.int .i64 (mn 1 (k - xs.length) : Nat)) := fun z => below_cell_some f0 z.below
        have c4 : ∀ z : BCls w, z.val.cell? ⟨g, k * 3 + 1, none⟩ = some (.slice none 0 0) := fun z => below_cell_some f1 z.below
        have c5 : ∀ z : BCls w, z.val.cell? ⟨g, k * 3 + 2, none⟩ = some (.slice none 0 0) := fun z => below_cell_some f2 z.below
        clear f0 f1 f2 HC HLOW HS HLA HY HM hao
        have i1 : decide ((k : Int) < (xs.length : Int)) = false := by simp; omega
        have i2 : decide (xs.length ≤ k) = true := by simp; omega
        have i4 : decide (k < xs.length) = false := by simp; omega
        have i3 : (k : Int) - (xs.length : Int) = ((k - xs.length : Nat) : Int) := by omega
        go_wp2
        refine wp_region_cls (BCls.val (w := w)) (by kernel_rfl) (by kernel_rfl) ⟨wr.drew, Below.drew hB⟩ rfl ?_
        repeat (go_big_quiet_step ((rename_i z; first | (refine (markHunk_any 1 (k - xs.length) (by omega) (by omega) _).mono ?_; rintro e w2 ⟨rfl, hb⟩; exact ⟨rfl, z.next hb⟩) | (refine (sameMark 1 (k - xs.length) _).mono ?_; rintro e w2 ⟨rfl, hb⟩; exact ⟨rfl, z.next hb⟩))))
        refine wpQuiet_nil ?_
        rintro _ ⟨z, rfl⟩
        clear c3 c4 c5
        go_wp2
        go_roundw
        case rel => exact ⟨k + 1, by omega, by go_num, z.below⟩
        case measure => simp [intOf]; omega
      · clear HC HLOW HS HLA HY HM hao
        go_wp2
        go_ret
        exact ⟨rfl, hB⟩

end Go.Proofs.Ytflnakjffgobmaa

/-
  The walk of the document's answer, clerestoryref03.Sorted.
-/
namespace Go.Proofs.Ytflnakjffgobmaa
open Go.RowKit Go.Shelf

/-- Where the hunk before the k-th ends. -/
def lastOf (xs : List HA) : Nat → Int
  | 0 => -1
  | j + 1 => match xs[j]? with
    | some x => x.at_ + x.old.length
    | none => -1
def backOk (xs : List HA) (k : Nat) : Prop := ∀ j x, k = j + 1 → xs[j]? = some x → 0 ≤ x.at_ ∧ x.at_ ≤ 1099511627776

set_option maxRecDepth 100000 in
set_option maxHeartbeats 8000000 in
theorem refSorted_any (xs : List HA) (v : Value) (w : World) (hv : HaLow w.heap.size w v xs) (hf : ∀ x ∈ xs, x.Fits) (hs : ∀ x ∈ xs, x.Small) (hl : xs.length ≤ 1000000) :
    Calls Try.prog 19 #[v] w fun e w' => e = .returned (.bool (Hn.sorted (-1) (xs.map HA.h))) ∧ Below w.heap.size w w' := by
  obtain ⟨⟨ao, cap, b, off, rfl, -, hao, hc⟩, hlow⟩ := hv
  have HC : Hid (_) := hc
  have HLOW : Hid (∀ x ∈ xs, x.Low w.heap.size w) := hlow
  have HF : Hid (_) := hf
  have HS : Hid (_) := hs
  clear hc hlow hf hs
  go_enter Try.func19, Try.ntmps19
  go_wp2
  go_loopw [3] (fun i wr => ∃ k : Nat, k ≤ xs.length ∧ i = .int .i64 k ∧ Hn.sorted (-1) (xs.map HA.h) = Hn.sorted (lastOf xs k) ((xs.drop k).map HA.h) ∧ backOk xs k ∧ Below w.heap.size w wr) (fun i _ => xs.length - (intOf i).toNat)
  case atStart => exact ⟨0, by omega, rfl, rfl, (fun j x h => by omega), Below.refl _ _⟩
  case round =>
    obtain ⟨k, hk, rfl, hj, hbo, hB⟩ := hrel
    have hne : Nonempty (BCls w) := ⟨⟨wr.drew, Below.drew hB⟩⟩
    by_cases hlt : k < xs.length
    · obtain ⟨x, hx⟩ : ∃ x, xs[k]? = some x := ⟨xs[k], List.getElem?_eq_getElem hlt⟩
      obtain ⟨rfl, hbm⟩ := hao (by omega)
      obtain ⟨g0, g1, g2⟩ := haCells_get xs k x hx
      have d0 := HC.out _ _ g0
      have d1 := HC.out _ _ g1
      have d2 := HC.out _ _ g2
      have hm2 := List.mem_of_getElem? hx
      have xl := HLOW.out x hm2
      have hfx := HF.out x hm2
      have hsx := HS.out x hm2
      have RG : Hid (∀ z : BCls w, Calls Try.prog 22 #[x.val] z.val fun e w' => e = .returned (.bool (Hn.right x.h)) ∧ Below z.val.heap.size z.val w') := fun z => refRight_any x z.val.heap.size z.val (xl.at z.below) (Nat.le_refl _) hfx
      have HJ : Hid (Hn.sorted (-1) (xs.map HA.h) = (Hn.right x.h && decide (lastOf xs k < x.at_) && Hn.sorted (x.at_ + x.old.length) ((xs.drop (k + 1)).map HA.h))) := hj.trans (sorted_at xs k x _ hx)
      have HL : Hid (lastOf xs (k + 1) = x.at_ + x.old.length) := by show lastOf xs (k + 1) = _; simp only [lastOf, hx]
      have HK : Hid (Hn.right x.h = true → backOk xs (k + 1)) := fun hr j y e hy => by
        have : j = k := by omega
        subst this
        rw [hx] at hy; cases hy
        exact right_bound hr
      obtain ⟨⟨a1, k1, e1⟩, ⟨a2, k2, e2⟩⟩ := xl.shape
      have HX : Hid (xs[k]? = some x) := hx
      obtain ⟨p, vo, vn, L1, L2⟩ := x
      simp only at d0 d1 d2 e1 e2
      subst e1 e2
      have c0 : ∀ z : BCls w, z.val.cell? ⟨b, off + k * 3, none⟩ = some (.int .i64 p) := fun z => below_cell_some d0 z.below
      have c1 : ∀ z : BCls w, z.val.cell? ⟨b, off + k * 3 + 1, none⟩ = some (.slice a1 L1.length k1) := fun z => below_cell_some d1 z.below
      have c2 : ∀ z : BCls w, z.val.cell? ⟨b, off + k * 3 + 2, none⟩ = some (.slice a2 L2.length k2) := fun z => below_cell_some d2 z.below
      simp only [HA.val, HA.h] at RG HJ HL HK
      obtain ⟨⟨n1, n2⟩, -⟩ := hfx
      simp only at n1 n2
      clear g0 g1 g2 d0 d1 d2 hx hm2 xl hsx
      cases hr : Hn.right ⟨p, L1, L2⟩ with
      | false =>
        rw [hr] at RG HJ
        clear hj hbo HL HK HC HLOW HF HS hao
        go_wp2
        refine wp_region_cls (BCls.val (w := w)) (by kernel_rfl) (by kernel_rfl) ⟨wr.drew, Below.drew hB⟩ rfl ?_
        repeat (go_big_quiet_step ((rename_i z; refine (RG.out z).mono ?_; rintro e w2 ⟨rfl, hb⟩; exact ⟨rfl, z.next hb⟩)))
        refine wpQuiet_nil ?_
        rintro _ ⟨z, rfl⟩
        clear c0 c1 c2
        go_wp2
        go_ret
        exact ⟨ret_bool (by rw [HJ.out]; rfl), z.below⟩
      | true =>
        obtain ⟨r1, r2⟩ := right_bound hr
        simp only at r1 r2
        rw [hr] at RG HJ
        have hK := HK.out hr
        clear HK hr
        cases k with
        | zero =>
          simp only [Nat.zero_mul, Nat.add_zero] at c0 c1 c2
          have HJ2 : Hid (Hn.sorted (-1) (xs.map HA.h) = Hn.sorted (lastOf xs (0 + 1)) ((xs.drop (0 + 1)).map HA.h)) := by
            show Hn.sorted (-1) (xs.map HA.h) = _
            rw [HJ.out, HL.out, show lastOf xs 0 = -1 from rfl, decide_eq_true (by omega)]; rfl
          have HKK : Hid (_) := hK
          clear hj hbo HJ HL HC HLOW HF HS hao hK
          go_wp2
          refine wp_region_cls (BCls.val (w := w)) (by kernel_rfl) (by kernel_rfl) ⟨wr.drew, Below.drew hB⟩ rfl ?_
          repeat (go_big_quiet_step ((rename_i z; refine (RG.out z).mono ?_; rintro e w2 ⟨rfl, hb⟩; exact ⟨rfl, z.next hb⟩)))
          refine wpQuiet_nil ?_
          rintro _ ⟨z, rfl⟩
          clear c0 c1 c2
          go_wp2
          go_roundw
          case rel => exact ⟨0 + 1, by omega, by go_num, HJ2.out, HKK.out, z.below⟩
          case measure => simp [intOf]; omega
        | succ j =>
          obtain ⟨y, hy⟩ : ∃ y, xs[j]? = some y := ⟨xs[j]'(by omega), List.getElem?_eq_getElem (by omega)⟩
          obtain ⟨y1, y2⟩ := hbo j y rfl hy
          obtain ⟨g0, g1, -⟩ := haCells_get xs j y hy
          have d0 := HC.out _ _ g0
          have d1 := HC.out _ _ g1
          have ys := HS.out y (List.mem_of_getElem? hy)
          have hLL : lastOf xs (j + 1) = y.at_ + y.old.length := by simp only [lastOf, hy]
          rw [hLL] at HJ
          obtain ⟨⟨a3, k3, e3⟩, -⟩ := (HLOW.out y (List.mem_of_getElem? hy)).shape
          obtain ⟨q, uo, un, M1, M2⟩ := y
          simp only [HA.Small] at d0 d1 e3 y1 y2 HJ ys
          subst e3
          obtain ⟨s1, s2⟩ := ys
          have c3 : ∀ z : BCls w, z.val.cell? ⟨b, off + j * 3, none⟩ = some (.int .i64 q) := fun z => below_cell_some d0 z.below
          have c4 : ∀ z : BCls w, z.val.cell? ⟨b, off + j * 3 + 1, none⟩ = some (.slice a3 M1.length k3) := fun z => below_cell_some d1 z.below
          have hw : IntKind.i64.wrap (p - (M1.length : Int)) = p - M1.length := by rw [IntKind.wrap_i64]; omega
          have i3 : ((j + 1 : Nat) : Int) - 1 = (j : Int) := by omega
          have i5 : decide ((0 : Int) < ((j + 1 : Nat) : Int)) = true := by simp
          clear hy g0 g1 d0 d1 hLL
          by_cases hq : p - M1.length ≤ q
          · have q1 : decide (p - (M1.length : Int) ≤ q) = true := by simp; omega
            have HJ2 : Hid (Hn.sorted (-1) (xs.map HA.h) = false) := by
              show Hn.sorted (-1) (xs.map HA.h) = _
              rw [HJ.out, decide_eq_false (by omega)]; rfl
            clear hj hbo HJ HL HC HLOW HF HS hao hK
            go_wp2
            refine wp_region_cls (BCls.val (w := w)) (by kernel_rfl) (by kernel_rfl) ⟨wr.drew, Below.drew hB⟩ rfl ?_
            repeat (go_big_quiet_step ((rename_i z; refine (RG.out z).mono ?_; rintro e w2 ⟨rfl, hb⟩; exact ⟨rfl, z.next hb⟩)))
            refine wpQuiet_nil ?_
            rintro _ ⟨z, rfl⟩
            clear c0 c1 c2 c3 c4
            go_wp2
            go_ret
            exact ⟨ret_bool HJ2.out.symm, z.below⟩
          · have q1 : decide (p - (M1.length : Int) ≤ q) = false := by simp; omega
            have HJ2 : Hid (Hn.sorted (-1) (xs.map HA.h) = Hn.sorted (lastOf xs (j + 1 + 1)) ((xs.drop (j + 1 + 1)).map HA.h)) := by
              show Hn.sorted (-1) (xs.map HA.h) = _
              rw [HJ.out, HL.out, decide_eq_true (by omega)]; rfl
            have HKK : Hid (_) := hK
            clear hj hbo HJ HL HC HLOW HF HS hao hK
            go_wp2
            refine wp_region_cls (BCls.val (w := w)) (by kernel_rfl) (by kernel_rfl) ⟨wr.drew, Below.drew hB⟩ rfl ?_
            repeat (go_big_quiet_step ((rename_i z; refine (RG.out z).mono ?_; rintro e w2 ⟨rfl, hb⟩; exact ⟨rfl, z.next hb⟩)))
            refine wpQuiet_nil ?_
            rintro _ ⟨z, rfl⟩
            clear c0 c1 c2 c3 c4
            go_wp2
            go_roundw
            case rel => exact ⟨j + 1 + 1, by omega, by go_num, HJ2.out, HKK.out, z.below⟩
            case measure => simp [intOf]; omega
    · have hkl : k = xs.length := by omega
      have HJ : Hid (Hn.sorted (-1) (xs.map HA.h) = true) := by
        show Hn.sorted (-1) (xs.map HA.h) = _
        rw [hj, hkl, List.drop_length]; rfl
      clear hj hkl HC HLOW HF HS hao hbo
      go_wp2
      go_ret
      exact ⟨ret_bool HJ.out.symm, hB⟩

end Go.Proofs.Ytflnakjffgobmaa
