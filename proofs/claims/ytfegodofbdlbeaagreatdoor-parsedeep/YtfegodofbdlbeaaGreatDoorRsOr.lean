/-
  The walks of the reader's operand and or.
-/
import Derived.Test.YtfegodofbdlbeaaGreatDoorRsRow
namespace Go.Proofs.YtfegodofbdlbeaaGreatDoor
open Go.RowKit Go.Shelf
open Rs (St)

attribute [local go_sem] Oper.semAt_some

namespace Rs
theorem rel_five {L : List Lx.Tok} {s s' : St} {x : Tr} (h : Rel L .unary s x s') : Rel L (.bin 5) s x s' := h.same (fun _ _ hq => Ps.Eats.bin5 hq)
end Rs

set_option maxRecDepth 100000 in
set_option maxHeartbeats 8000000 in
theorem roperand0_of (m : Nat) (hrw : RowDo 1 m) : RDo 112 (.bin 1) [.int .i64 0] m := by
  intro b L s w hK hG hR hm
  obtain ⟨A, hA⟩ : ∃ A, A = w.alloc (.cells #[.int .u8 0, .string ⟨#[]⟩, .int .i64 0, .slice none 0 0] 26) := ⟨_, rfl⟩
  have FR : Hid (Frm w b A) := hA ▸ RFrm.new hR
  have PA : Hid (RAt b L (s) A) := hA ▸ hR.below (below_new w _)
  have KN : Hid (Known L) := hK
  have GD : Hid (Rs.Good L (s)) := hG
  have G0 : Hid (Rs.Good L s) := hG
  have HM : Hid (s.E = 0 → (Rs.rest L s).length ≤ m) := hm
  clear hR hK hG hm 
  have HRD : Hid (RowDo 1 m) := hrw
  have hlow : b < w.heap.size := FR.out.low
  clear hrw
  go_enter Tryz.func112, Tryz.ntmps112
  have sz1 : A.heap.size = w.heap.size + 1 := by rw [hA, World.size_alloc]
  obtain ⟨V2, hV2⟩ : ∃ V, V = A.alloc (.cells #[.string ⟨#[38, 38]⟩] 9) := ⟨_, rfl⟩
  have bV2 : Below A.heap.size A V2 := hV2 ▸ below_new A _
  have HRW : Hid (RowB V2 (w.heap.size + 1) (Ps.ops 1)) := by rw [hV2, ← sz1]; exact World.alloc_heap_new A _
  replace FR : Hid (Frm w b V2) := FR.out.go (grown_low bV2)
  replace PA : Hid (RAt b L (s) V2) := PA.out.below bV2
  clear bV2 sz1
  go_wp2_with fail
  rw [← hA, ← hV2]
  clear hA hV2
  have HC3 : Hid (_) := HRD.out b L (s) V2 (w.heap.size + 1) 1 KN.out GD.out PA.out HM.out (by omega) HRW.out rfl
  refine Calls.mono HC3.out ?_
  rintro e w4 ⟨hg5, tx, vx, sx, rfl, ra6, relx, nd7⟩
  have hX : ∀ q ∈ ([] : List Nat), q < V2.heap.size := by
    intro q hq
    cases hq
  obtain ⟨xk, xt, xn, xa, xL, xc, xkids, rfl, rfl, nf⟩ := NF.of_end (X := []) nd7 FR.out hX
  replace FR : Hid (Frm w b w4) := FR.out.go hg5
  replace PA : Hid (RAt b L (sx) w4) := ra6
  have Nx : Hid (NF w w4 ⟨xk, xt, xn, .slice xa xL xc, xkids⟩ []) := nf
  have RELx : Hid (Rs.Rel L (.bin 1) (s) (.mk xk xt xn xkids) sx) := relx
  replace GD : Hid (Rs.Good L (sx)) := relx.good
  clear nf HC3 hg5 ra6 relx nd7 hX
  obtain ⟨p0, p1, p2, p3, pf, Z, hZ, ⟨r0, r1, r2, r3⟩, z1, z2, z3⟩ := FR.out.finR PA.out Nx.out
  have HF : Hid (w.grownBy Z (some b) ∧ REnd L (.bin 1) b s w (.returned (.agg #[.int .u8 xk, .string (Ln.bs xt), .int .i64 xn, .slice xa xL xc])) Z) := ⟨z1, _, _, _, rfl, z2, RELx.out, z3⟩
  clear z1 z2 z3 
  go_wp2
  rw [← hZ]
  refine bodyPost_ret (v := .agg #[.int .u8 xk, .string (Ln.bs xt), .int .i64 xn, .slice xa xL xc]) (by simp [results, Tryz.results112, go_sem, r0, r1, r2, r3]) rfl HF.out

set_option maxRecDepth 100000 in
set_option maxHeartbeats 8000000 in
theorem roperand1_of (m : Nat) (hrw : RowDo 2 m) : RDo 112 (.bin 2) [.int .i64 1] m := by
  intro b L s w hK hG hR hm
  obtain ⟨A, hA⟩ : ∃ A, A = w.alloc (.cells #[.int .u8 0, .string ⟨#[]⟩, .int .i64 0, .slice none 0 0] 26) := ⟨_, rfl⟩
  have FR : Hid (Frm w b A) := hA ▸ RFrm.new hR
  have PA : Hid (RAt b L (s) A) := hA ▸ hR.below (below_new w _)
  have KN : Hid (Known L) := hK
  have GD : Hid (Rs.Good L (s)) := hG
  have G0 : Hid (Rs.Good L s) := hG
  have HM : Hid (s.E = 0 → (Rs.rest L s).length ≤ m) := hm
  clear hR hK hG hm 
  have HRD : Hid (RowDo 2 m) := hrw
  have hlow : b < w.heap.size := FR.out.low
  clear hrw
  go_enter Tryz.func112, Tryz.ntmps112
  have sz1 : A.heap.size = w.heap.size + 1 := by rw [hA, World.size_alloc]
  obtain ⟨V2, hV2⟩ : ∃ V, V = A.alloc (.cells #[.string ⟨#[61, 61]⟩, .string ⟨#[33, 61]⟩, .string ⟨#[60]⟩, .string ⟨#[60, 61]⟩, .string ⟨#[62]⟩, .string ⟨#[62, 61]⟩] 9) := ⟨_, rfl⟩
  have bV2 : Below A.heap.size A V2 := hV2 ▸ below_new A _
  have HRW : Hid (RowB V2 (w.heap.size + 1) (Ps.ops 2)) := by rw [hV2, ← sz1]; exact World.alloc_heap_new A _
  replace FR : Hid (Frm w b V2) := FR.out.go (grown_low bV2)
  replace PA : Hid (RAt b L (s) V2) := PA.out.below bV2
  clear bV2 sz1
  go_wp2_with fail
  rw [← hA, ← hV2]
  clear hA hV2
  have HC3 : Hid (_) := HRD.out b L (s) V2 (w.heap.size + 1) 6 KN.out GD.out PA.out HM.out (by omega) HRW.out rfl
  refine Calls.mono HC3.out ?_
  rintro e w4 ⟨hg5, tx, vx, sx, rfl, ra6, relx, nd7⟩
  have hX : ∀ q ∈ ([] : List Nat), q < V2.heap.size := by
    intro q hq
    cases hq
  obtain ⟨xk, xt, xn, xa, xL, xc, xkids, rfl, rfl, nf⟩ := NF.of_end (X := []) nd7 FR.out hX
  replace FR : Hid (Frm w b w4) := FR.out.go hg5
  replace PA : Hid (RAt b L (sx) w4) := ra6
  have Nx : Hid (NF w w4 ⟨xk, xt, xn, .slice xa xL xc, xkids⟩ []) := nf
  have RELx : Hid (Rs.Rel L (.bin 2) (s) (.mk xk xt xn xkids) sx) := relx
  replace GD : Hid (Rs.Good L (sx)) := relx.good
  clear nf HC3 hg5 ra6 relx nd7 hX
  obtain ⟨p0, p1, p2, p3, pf, Z, hZ, ⟨r0, r1, r2, r3⟩, z1, z2, z3⟩ := FR.out.finR PA.out Nx.out
  have HF : Hid (w.grownBy Z (some b) ∧ REnd L (.bin 2) b s w (.returned (.agg #[.int .u8 xk, .string (Ln.bs xt), .int .i64 xn, .slice xa xL xc])) Z) := ⟨z1, _, _, _, rfl, z2, RELx.out, z3⟩
  clear z1 z2 z3 
  go_wp2
  rw [← hZ]
  refine bodyPost_ret (v := .agg #[.int .u8 xk, .string (Ln.bs xt), .int .i64 xn, .slice xa xL xc]) (by simp [results, Tryz.results112, go_sem, r0, r1, r2, r3]) rfl HF.out

set_option maxRecDepth 100000 in
set_option maxHeartbeats 8000000 in
theorem roperand2_of (m : Nat) (hrw : RowDo 3 m) : RDo 112 (.bin 3) [.int .i64 2] m := by
  intro b L s w hK hG hR hm
  obtain ⟨A, hA⟩ : ∃ A, A = w.alloc (.cells #[.int .u8 0, .string ⟨#[]⟩, .int .i64 0, .slice none 0 0] 26) := ⟨_, rfl⟩
  have FR : Hid (Frm w b A) := hA ▸ RFrm.new hR
  have PA : Hid (RAt b L (s) A) := hA ▸ hR.below (below_new w _)
  have KN : Hid (Known L) := hK
  have GD : Hid (Rs.Good L (s)) := hG
  have G0 : Hid (Rs.Good L s) := hG
  have HM : Hid (s.E = 0 → (Rs.rest L s).length ≤ m) := hm
  clear hR hK hG hm 
  have HRD : Hid (RowDo 3 m) := hrw
  have hlow : b < w.heap.size := FR.out.low
  clear hrw
  go_enter Tryz.func112, Tryz.ntmps112
  have sz1 : A.heap.size = w.heap.size + 1 := by rw [hA, World.size_alloc]
  obtain ⟨V2, hV2⟩ : ∃ V, V = A.alloc (.cells #[.string ⟨#[43]⟩, .string ⟨#[45]⟩] 9) := ⟨_, rfl⟩
  have bV2 : Below A.heap.size A V2 := hV2 ▸ below_new A _
  have HRW : Hid (RowB V2 (w.heap.size + 1) (Ps.ops 3)) := by rw [hV2, ← sz1]; exact World.alloc_heap_new A _
  replace FR : Hid (Frm w b V2) := FR.out.go (grown_low bV2)
  replace PA : Hid (RAt b L (s) V2) := PA.out.below bV2
  clear bV2 sz1
  go_wp2_with fail
  rw [← hA, ← hV2]
  clear hA hV2
  have HC3 : Hid (_) := HRD.out b L (s) V2 (w.heap.size + 1) 2 KN.out GD.out PA.out HM.out (by omega) HRW.out rfl
  refine Calls.mono HC3.out ?_
  rintro e w4 ⟨hg5, tx, vx, sx, rfl, ra6, relx, nd7⟩
  have hX : ∀ q ∈ ([] : List Nat), q < V2.heap.size := by
    intro q hq
    cases hq
  obtain ⟨xk, xt, xn, xa, xL, xc, xkids, rfl, rfl, nf⟩ := NF.of_end (X := []) nd7 FR.out hX
  replace FR : Hid (Frm w b w4) := FR.out.go hg5
  replace PA : Hid (RAt b L (sx) w4) := ra6
  have Nx : Hid (NF w w4 ⟨xk, xt, xn, .slice xa xL xc, xkids⟩ []) := nf
  have RELx : Hid (Rs.Rel L (.bin 3) (s) (.mk xk xt xn xkids) sx) := relx
  replace GD : Hid (Rs.Good L (sx)) := relx.good
  clear nf HC3 hg5 ra6 relx nd7 hX
  obtain ⟨p0, p1, p2, p3, pf, Z, hZ, ⟨r0, r1, r2, r3⟩, z1, z2, z3⟩ := FR.out.finR PA.out Nx.out
  have HF : Hid (w.grownBy Z (some b) ∧ REnd L (.bin 3) b s w (.returned (.agg #[.int .u8 xk, .string (Ln.bs xt), .int .i64 xn, .slice xa xL xc])) Z) := ⟨z1, _, _, _, rfl, z2, RELx.out, z3⟩
  clear z1 z2 z3 
  go_wp2
  rw [← hZ]
  refine bodyPost_ret (v := .agg #[.int .u8 xk, .string (Ln.bs xt), .int .i64 xn, .slice xa xL xc]) (by simp [results, Tryz.results112, go_sem, r0, r1, r2, r3]) rfl HF.out

set_option maxRecDepth 100000 in
set_option maxHeartbeats 8000000 in
theorem roperand3_of (m : Nat) (hrw : RowDo 4 m) : RDo 112 (.bin 4) [.int .i64 3] m := by
  intro b L s w hK hG hR hm
  obtain ⟨A, hA⟩ : ∃ A, A = w.alloc (.cells #[.int .u8 0, .string ⟨#[]⟩, .int .i64 0, .slice none 0 0] 26) := ⟨_, rfl⟩
  have FR : Hid (Frm w b A) := hA ▸ RFrm.new hR
  have PA : Hid (RAt b L (s) A) := hA ▸ hR.below (below_new w _)
  have KN : Hid (Known L) := hK
  have GD : Hid (Rs.Good L (s)) := hG
  have G0 : Hid (Rs.Good L s) := hG
  have HM : Hid (s.E = 0 → (Rs.rest L s).length ≤ m) := hm
  clear hR hK hG hm 
  have HRD : Hid (RowDo 4 m) := hrw
  have hlow : b < w.heap.size := FR.out.low
  clear hrw
  go_enter Tryz.func112, Tryz.ntmps112
  have sz1 : A.heap.size = w.heap.size + 1 := by rw [hA, World.size_alloc]
  obtain ⟨V2, hV2⟩ : ∃ V, V = A.alloc (.cells #[.string ⟨#[42]⟩, .string ⟨#[47]⟩, .string ⟨#[37]⟩] 9) := ⟨_, rfl⟩
  have bV2 : Below A.heap.size A V2 := hV2 ▸ below_new A _
  have HRW : Hid (RowB V2 (w.heap.size + 1) (Ps.ops 4)) := by rw [hV2, ← sz1]; exact World.alloc_heap_new A _
  replace FR : Hid (Frm w b V2) := FR.out.go (grown_low bV2)
  replace PA : Hid (RAt b L (s) V2) := PA.out.below bV2
  clear bV2 sz1
  go_wp2_with fail
  rw [← hA, ← hV2]
  clear hA hV2
  have HC3 : Hid (_) := HRD.out b L (s) V2 (w.heap.size + 1) 3 KN.out GD.out PA.out HM.out (by omega) HRW.out rfl
  refine Calls.mono HC3.out ?_
  rintro e w4 ⟨hg5, tx, vx, sx, rfl, ra6, relx, nd7⟩
  have hX : ∀ q ∈ ([] : List Nat), q < V2.heap.size := by
    intro q hq
    cases hq
  obtain ⟨xk, xt, xn, xa, xL, xc, xkids, rfl, rfl, nf⟩ := NF.of_end (X := []) nd7 FR.out hX
  replace FR : Hid (Frm w b w4) := FR.out.go hg5
  replace PA : Hid (RAt b L (sx) w4) := ra6
  have Nx : Hid (NF w w4 ⟨xk, xt, xn, .slice xa xL xc, xkids⟩ []) := nf
  have RELx : Hid (Rs.Rel L (.bin 4) (s) (.mk xk xt xn xkids) sx) := relx
  replace GD : Hid (Rs.Good L (sx)) := relx.good
  clear nf HC3 hg5 ra6 relx nd7 hX
  obtain ⟨p0, p1, p2, p3, pf, Z, hZ, ⟨r0, r1, r2, r3⟩, z1, z2, z3⟩ := FR.out.finR PA.out Nx.out
  have HF : Hid (w.grownBy Z (some b) ∧ REnd L (.bin 4) b s w (.returned (.agg #[.int .u8 xk, .string (Ln.bs xt), .int .i64 xn, .slice xa xL xc])) Z) := ⟨z1, _, _, _, rfl, z2, RELx.out, z3⟩
  clear z1 z2 z3 
  go_wp2
  rw [← hZ]
  refine bodyPost_ret (v := .agg #[.int .u8 xk, .string (Ln.bs xt), .int .i64 xn, .slice xa xL xc]) (by simp [results, Tryz.results112, go_sem, r0, r1, r2, r3]) rfl HF.out

set_option maxRecDepth 100000 in
set_option maxHeartbeats 8000000 in
theorem ror_of (m : Nat) (hrw : RowDo 0 m) : RDo 90 (.bin 0) [] m := by
  intro b L s w hK hG hR hm
  obtain ⟨A, hA⟩ : ∃ A, A = w.alloc (.cells #[.int .u8 0, .string ⟨#[]⟩, .int .i64 0, .slice none 0 0] 26) := ⟨_, rfl⟩
  have FR : Hid (Frm w b A) := hA ▸ RFrm.new hR
  have PA : Hid (RAt b L (s) A) := hA ▸ hR.below (below_new w _)
  have KN : Hid (Known L) := hK
  have GD : Hid (Rs.Good L (s)) := hG
  have G0 : Hid (Rs.Good L s) := hG
  have HM : Hid (s.E = 0 → (Rs.rest L s).length ≤ m) := hm
  clear hR hK hG hm 
  have HRD : Hid (RowDo 0 m) := hrw
  have hlow : b < w.heap.size := FR.out.low
  clear hrw
  go_enter Tryz.func90, Tryz.ntmps90
  have sz1 : A.heap.size = w.heap.size + 1 := by rw [hA, World.size_alloc]
  obtain ⟨V2, hV2⟩ : ∃ V, V = A.alloc (.cells #[.string ⟨#[124, 124]⟩] 9) := ⟨_, rfl⟩
  have bV2 : Below A.heap.size A V2 := hV2 ▸ below_new A _
  have HRW : Hid (RowB V2 (w.heap.size + 1) (Ps.ops 0)) := by rw [hV2, ← sz1]; exact World.alloc_heap_new A _
  replace FR : Hid (Frm w b V2) := FR.out.go (grown_low bV2)
  replace PA : Hid (RAt b L (s) V2) := PA.out.below bV2
  clear bV2 sz1
  go_wp2_with fail
  rw [← hA, ← hV2]
  clear hA hV2
  have HC3 : Hid (_) := HRD.out b L (s) V2 (w.heap.size + 1) 1 KN.out GD.out PA.out HM.out (by omega) HRW.out rfl
  refine Calls.mono HC3.out ?_
  rintro e w4 ⟨hg5, tx, vx, sx, rfl, ra6, relx, nd7⟩
  have hX : ∀ q ∈ ([] : List Nat), q < V2.heap.size := by
    intro q hq
    cases hq
  obtain ⟨xk, xt, xn, xa, xL, xc, xkids, rfl, rfl, nf⟩ := NF.of_end (X := []) nd7 FR.out hX
  replace FR : Hid (Frm w b w4) := FR.out.go hg5
  replace PA : Hid (RAt b L (sx) w4) := ra6
  have Nx : Hid (NF w w4 ⟨xk, xt, xn, .slice xa xL xc, xkids⟩ []) := nf
  have RELx : Hid (Rs.Rel L (.bin 0) (s) (.mk xk xt xn xkids) sx) := relx
  replace GD : Hid (Rs.Good L (sx)) := relx.good
  clear nf HC3 hg5 ra6 relx nd7 hX
  obtain ⟨p0, p1, p2, p3, pf, Z, hZ, ⟨r0, r1, r2, r3⟩, z1, z2, z3⟩ := FR.out.finR PA.out Nx.out
  have HF : Hid (w.grownBy Z (some b) ∧ REnd L (.bin 0) b s w (.returned (.agg #[.int .u8 xk, .string (Ln.bs xt), .int .i64 xn, .slice xa xL xc])) Z) := ⟨z1, _, _, _, rfl, z2, RELx.out, z3⟩
  clear z1 z2 z3 
  go_wp2
  rw [← hZ]
  refine bodyPost_ret (v := .agg #[.int .u8 xk, .string (Ln.bs xt), .int .i64 xn, .slice xa xL xc]) (by simp [results, Tryz.results90, go_sem, r0, r1, r2, r3]) rfl HF.out

set_option maxRecDepth 100000 in
set_option maxHeartbeats 8000000 in
theorem roperand4_of (m : Nat) (hun : RDo 116 .unary [] m) : RDo 112 (.bin 5) [.int .i64 4] m := by
  intro b L s w hK hG hR hm
  obtain ⟨A, hA⟩ : ∃ A, A = w.alloc (.cells #[.int .u8 0, .string ⟨#[]⟩, .int .i64 0, .slice none 0 0] 26) := ⟨_, rfl⟩
  have FR : Hid (Frm w b A) := hA ▸ RFrm.new hR
  have PA : Hid (RAt b L (s) A) := hA ▸ hR.below (below_new w _)
  have KN : Hid (Known L) := hK
  have GD : Hid (Rs.Good L (s)) := hG
  have G0 : Hid (Rs.Good L s) := hG
  have HM : Hid (s.E = 0 → (Rs.rest L s).length ≤ m) := hm
  have Hhun : Hid (RDo 116 .unary [] m) := hun
  clear hR hK hG hm hun
  go_enter Tryz.func112, Tryz.ntmps112
  go_wp2_with fail
  rw [← hA]
  clear hA
  have HC1 : Hid (_) := Hhun.out b L (s) A KN.out GD.out PA.out (HM.out)
  refine Calls.mono HC1.out ?_
  rintro e w2 ⟨hg3, tx, vx, sx, rfl, ra4, relx, nd5⟩
  have hX : ∀ q ∈ ([] : List Nat), q < A.heap.size := by
    intro q hq
    cases hq
  obtain ⟨xk, xt, xn, xa, xL, xc, xkids, rfl, rfl, nf⟩ := NF.of_end (X := []) nd5 FR.out hX
  replace FR : Hid (Frm w b w2) := FR.out.go hg3
  replace PA : Hid (RAt b L (sx) w2) := ra4
  have Nx : Hid (NF w w2 ⟨xk, xt, xn, .slice xa xL xc, xkids⟩ []) := nf
  have RELx : Hid (Rs.Rel L (.unary) (s) (.mk xk xt xn xkids) sx) := relx
  replace GD : Hid (Rs.Good L (sx)) := relx.good
  clear nf HC1 hg3 ra4 relx nd5 hX
  obtain ⟨p0, p1, p2, p3, pf, Z, hZ, ⟨r0, r1, r2, r3⟩, z1, z2, z3⟩ := FR.out.finR PA.out Nx.out
  have HF : Hid (w.grownBy Z (some b) ∧ REnd L (.bin 5) b s w (.returned (.agg #[.int .u8 xk, .string (Ln.bs xt), .int .i64 xn, .slice xa xL xc])) Z) := ⟨z1, _, _, _, rfl, z2, Rs.rel_five RELx.out, z3⟩
  clear z1 z2 z3 
  go_wp2
  rw [← hZ]
  refine bodyPost_ret (v := .agg #[.int .u8 xk, .string (Ln.bs xt), .int .i64 xn, .slice xa xL xc]) (by simp [results, Tryz.results112, go_sem, r0, r1, r2, r3]) rfl HF.out

/-- All the levels, from unary on. -/
theorem rlevels_of (m : Nat) (hun : RDo 116 .unary [] m) : RDo 90 (.bin 0) [] m :=
  ror_of m (rrow_of m 0 (by decide) (roperand0_of m (rrow_of m 1 (by decide) (roperand1_of m (rrow_of m 2 (by decide) (roperand2_of m (rrow_of m 3 (by decide) (roperand3_of m (rrow_of m 4 (by decide) (roperand4_of m hun))))))))))
end Go.Proofs.YtfegodofbdlbeaaGreatDoor
