/-
  The walks of the reader's simple.
-/
import Derived.Test.YtfegodofbdlbeaaGreatDoorRsCall
import Derived.Test.YtfegodofbdlbeaaGreatDoorRsSeq
namespace Go.Proofs.YtfegodofbdlbeaaGreatDoor
open Go.RowKit Go.Shelf
open Rs (St)

attribute [local go_sem] Oper.semAt_some

set_option maxRecDepth 100000 in
set_option maxHeartbeats 8000000 in
theorem rsimple10_of (m : Nat) (hor : RDo 90 (.bin 0) [] m) (b : Nat) (L : List Lx.Tok) (s : St) (w : World) (hK : Known L) (hG : Rs.Good L s) (hA : Rs.Good L (Rs.adv s)) (hR : RAt b L s w) (hm : (Rs.adv s).E = 0 → (Rs.rest L (Rs.adv s)).length ≤ m)
    (hT : Rs.Tills L (Ps.Eats .stmt) s (Rs.Ev fun m l lv => Ps.bnd (Ps.go m (.bin 0) l lv) fun x l => Ps.want [59] l fun l => some (.ok [.mk 10 [] 0 x] l)) (Rs.adv s)) :
    Calls Tryz.prog 92 #[.pointer (some ⟨b, 0, none⟩), .int .u8 10] w fun e w' => w.grownBy w' (some b) ∧ REnd L .stmt b s w e w' := by
  obtain ⟨A, hA0⟩ : ∃ A, A = w.alloc (.cells #[.int .u8 0, .string ⟨#[]⟩, .int .i64 0, .slice none 0 0] 26) := ⟨_, rfl⟩
  have FR : Hid (Frm w b A) := hA0 ▸ RFrm.new hR
  have PA : Hid (RAt b L (s) A) := hA0 ▸ hR.below (below_new w _)
  have KN : Hid (Known L) := hK
  have GD : Hid (Rs.Good L (s)) := hG
  have G0 : Hid (Rs.Good L s) := hG
  have HM : Hid ((Rs.adv s).E = 0 → (Rs.rest L (Rs.adv s)).length ≤ m) := hm
  have Hhor : Hid (RDo 90 (.bin 0) [] m) := hor
  have GA : Hid (Rs.Good L (Rs.adv s)) := hA
  have TT : Hid (_) := hT
  clear hR hK hG hm hor hA hT
  go_enter Tryz.func92, Tryz.ntmps92
  go_upto_region 1 with fail
  rw [← hA0]
  clear hA0
  obtain ⟨k1, k2, k3, Y1, hY1, st⟩ := radv PA.out GD.out
  replace FR : Hid (Frm w b Y1) := FR.out.go st.1
  replace PA : Hid (RAt b L (Rs.adv (s)) Y1) := st.2
  replace GD : Hid (Rs.Good L (Rs.adv (s))) := GA.out
  clear st
  go_wp2_with fail
  rw [← hY1]
  clear hY1
  clear k1 k2 k3
  have HC2 : Hid (_) := Hhor.out b L (Rs.adv (s)) Y1 KN.out GD.out PA.out (HM.out)
  refine Calls.mono HC2.out ?_
  rintro e w3 ⟨hg4, tx, vx, sx, rfl, ra5, relx, nd6⟩
  have hX : ∀ q ∈ ([] : List Nat), q < Y1.heap.size := by
    intro q hq
    cases hq
  obtain ⟨xk, xt, xn, xa, xL, xc, xkids, rfl, rfl, nf⟩ := NF.of_end (X := []) nd6 FR.out hX
  replace FR : Hid (Frm w b w3) := FR.out.go hg4
  replace PA : Hid (RAt b L (sx) w3) := ra5
  have Nx : Hid (NF w w3 ⟨xk, xt, xn, .slice xa xL xc, xkids⟩ []) := nf
  have RELx : Hid (Rs.Rel L (.bin 0) (Rs.adv (s)) (.mk xk xt xn xkids) sx) := relx
  replace GD : Hid (Rs.Good L (sx)) := relx.good
  clear nf HC2 hg4 ra5 relx nd6 hX
  obtain ⟨Y7, hY7⟩ : ∃ V, V = w3.alloc (.cells #[.int .u8 xk, .string (Ln.bs xt), .int .i64 xn, .slice xa xL xc] 26) := ⟨_, rfl⟩
  have bY7 : Below w3.heap.size w3 Y7 := hY7 ▸ below_new w3 _
  have nb : BX w Y7 (w3.heap.size) ⟨xk, xt, xn, .slice xa xL xc, xkids⟩ := by rw [hY7]; exact BX.new FR.out ⟨xk, xt, xn, .slice xa xL xc, xkids⟩
  replace Nx : Hid (NF w w3 ⟨xk, xt, xn, .slice xa xL xc, xkids⟩ [w3.heap.size]) := Nx.out.ex (Nat.le_refl _)
  replace Nx : Hid (NF w Y7 ⟨xk, xt, xn, .slice xa xL xc, xkids⟩ [w3.heap.size]) := Nx.out.go (grown_low bY7) FR.out.low
  replace FR : Hid (Frm w b Y7) := FR.out.go (grown_low bY7)
  replace PA : Hid (RAt b L (sx) Y7) := PA.out.below bY7
  have Bx : Hid (BX w Y7 (w3.heap.size) ⟨xk, xt, xn, .slice xa xL xc, xkids⟩) := nb
  clear nb bY7
  have T2 : Hid (_) := (TT.out.bnd RELx.out).want (t := [59]) (by decide)
  go_wp2_with fail
  rw [← hY7]
  clear hY7
  have HW8 : Hid (_) := rwant_any b L (sx) [59] Y7 PA.out GD.out KN.out (by decide)
  refine Calls.mono HW8.out ?_
  rintro e w9 ⟨rfl, hst10⟩
  replace Nx : Hid (NF w w9 ⟨xk, xt, xn, .slice xa xL xc, xkids⟩ [w3.heap.size]) := Nx.out.go hst10.1 FR.out.low
  replace Bx : Hid (BX w w9 (w3.heap.size) ⟨xk, xt, xn, .slice xa xL xc, xkids⟩) := Bx.out.go hst10.1 FR.out.low
  replace FR : Hid (Frm w b w9) := FR.out.go hst10.1
  replace PA : Hid (RAt b L (Rs.want L (sx) [59]) w9) := hst10.2
  clear HW8 hst10
  replace GD : Hid (Rs.Good L (Rs.want L (sx) [59])) := Rs.want_good GD.out (by decide)
  obtain ⟨f11, f12, f13, f14⟩ := Bx.out.cs
  obtain ⟨R15, hR15⟩ : ∃ V, V = w9.alloc (.cells #[.int .u8 xk, .string (Ln.bs xt), .int .i64 xn, .slice xa xL xc] 26) := ⟨_, rfl⟩
  have bR15 : Below w9.heap.size w9 R15 := hR15 ▸ below_new w9 _
  have hX : ∀ q ∈ ([w3.heap.size] : List Nat), q < w9.heap.size := by
    intro q hq
    simp only [List.mem_cons, List.not_mem_nil, or_false] at hq
    subst hq
    exact Bx.out.lt
  have nk : NF w R15 ⟨10, [], 0, .slice (some ⟨w9.heap.size, 0, none⟩) 1 1, [N1.tr ⟨xk, xt, xn, .slice xa xL xc, xkids⟩]⟩ [w3.heap.size] := by
    rw [hR15]
    refine NF.kids FR.out [⟨xk, xt, xn, .slice xa xL xc, xkids⟩] (fun z hz => ?_) hX (by simp) 10 [] 0 (by omega) (by simp) (by omega)
    simp only [List.mem_cons, List.not_mem_nil, or_false] at hz
    subst hz
    exact Nx.out
  replace Nx : Hid (NF w R15 ⟨xk, xt, xn, .slice xa xL xc, xkids⟩ [w3.heap.size]) := Nx.out.go (grown_low bR15) FR.out.low
  replace Bx : Hid (BX w R15 (w3.heap.size) ⟨xk, xt, xn, .slice xa xL xc, xkids⟩) := Bx.out.go (grown_low bR15) FR.out.low
  replace FR : Hid (Frm w b R15) := FR.out.go (grown_low bR15)
  replace PA : Hid (RAt b L (Rs.want L (sx) [59]) R15) := PA.out.below bR15
  have Nz : Hid (NF w R15 ⟨10, [], 0, .slice (some ⟨w9.heap.size, 0, none⟩) 1 1, [N1.tr ⟨xk, xt, xn, .slice xa xL xc, xkids⟩]⟩ [w3.heap.size]) := nk
  clear nk hX bR15
  go_wp2_with fail
  rw [← hR15]
  clear hR15
  have HD16 : Hid (_) := rof_any 10 (some ⟨w9.heap.size, 0, none⟩) 1 1 R15
  refine Calls.mono HD16.out ?_
  rintro e w17 ⟨rfl, hb18⟩
  replace Nx : Hid (NF w w17 ⟨xk, xt, xn, .slice xa xL xc, xkids⟩ [w3.heap.size]) := Nx.out.go (grown_low hb18) FR.out.low
  replace Nz : Hid (NF w w17 ⟨10, [], 0, .slice (some ⟨w9.heap.size, 0, none⟩) 1 1, [N1.tr ⟨xk, xt, xn, .slice xa xL xc, xkids⟩]⟩ [w3.heap.size]) := Nz.out.go (grown_low hb18) FR.out.low
  replace Bx : Hid (BX w w17 (w3.heap.size) ⟨xk, xt, xn, .slice xa xL xc, xkids⟩) := Bx.out.go (grown_low hb18) FR.out.low
  replace FR : Hid (Frm w b w17) := FR.out.go (grown_low hb18)
  replace PA : Hid (RAt b L (Rs.want L (sx) [59]) w17) := PA.out.below hb18
  clear HD16 hb18
  obtain ⟨p0, p1, p2, p3, pf, Z, hZ, ⟨r0, r1, r2, r3⟩, z1, z2, z3⟩ := FR.out.finR PA.out Nz.out
  have HF : Hid (w.grownBy Z (some b) ∧ REnd L .stmt b s w (.returned (.agg #[.int .u8 10, .string (Ln.bs []), .int .i64 0, .slice (some ⟨w9.heap.size, 0, none⟩) 1 1])) Z) := ⟨z1, _, _, _, rfl, z2, T2.out.done, z3⟩
  clear z1 z2 z3 
  rw [show Ln.bs [] = (⟨#[]⟩ : ByteArray) from rfl] at p2 p3 hZ r1 HF
  go_wp2
  rw [← hZ]
  refine bodyPost_ret (v := .agg #[.int .u8 10, .string ⟨#[]⟩, .int .i64 0, .slice (some ⟨w9.heap.size, 0, none⟩) 1 1]) (by simp [results, Tryz.results92, go_sem, r0, r1, r2, r3]) rfl HF.out

set_option maxRecDepth 100000 in
set_option maxHeartbeats 8000000 in
theorem rsimple11_of (m : Nat) (hor : RDo 90 (.bin 0) [] m) (b : Nat) (L : List Lx.Tok) (s : St) (w : World) (hK : Known L) (hG : Rs.Good L s) (hA : Rs.Good L (Rs.adv s)) (hR : RAt b L s w) (hm : (Rs.adv s).E = 0 → (Rs.rest L (Rs.adv s)).length ≤ m)
    (hT : Rs.Tills L (Ps.Eats .stmt) s (Rs.Ev fun m l lv => Ps.bnd (Ps.go m (.bin 0) l lv) fun x l => Ps.want [59] l fun l => some (.ok [.mk 11 [] 0 x] l)) (Rs.adv s)) :
    Calls Tryz.prog 92 #[.pointer (some ⟨b, 0, none⟩), .int .u8 11] w fun e w' => w.grownBy w' (some b) ∧ REnd L .stmt b s w e w' := by
  obtain ⟨A, hA0⟩ : ∃ A, A = w.alloc (.cells #[.int .u8 0, .string ⟨#[]⟩, .int .i64 0, .slice none 0 0] 26) := ⟨_, rfl⟩
  have FR : Hid (Frm w b A) := hA0 ▸ RFrm.new hR
  have PA : Hid (RAt b L (s) A) := hA0 ▸ hR.below (below_new w _)
  have KN : Hid (Known L) := hK
  have GD : Hid (Rs.Good L (s)) := hG
  have G0 : Hid (Rs.Good L s) := hG
  have HM : Hid ((Rs.adv s).E = 0 → (Rs.rest L (Rs.adv s)).length ≤ m) := hm
  have Hhor : Hid (RDo 90 (.bin 0) [] m) := hor
  have GA : Hid (Rs.Good L (Rs.adv s)) := hA
  have TT : Hid (_) := hT
  clear hR hK hG hm hor hA hT
  go_enter Tryz.func92, Tryz.ntmps92
  go_upto_region 1 with fail
  rw [← hA0]
  clear hA0
  obtain ⟨k1, k2, k3, Y1, hY1, st⟩ := radv PA.out GD.out
  replace FR : Hid (Frm w b Y1) := FR.out.go st.1
  replace PA : Hid (RAt b L (Rs.adv (s)) Y1) := st.2
  replace GD : Hid (Rs.Good L (Rs.adv (s))) := GA.out
  clear st
  go_wp2_with fail
  rw [← hY1]
  clear hY1
  clear k1 k2 k3
  have HC2 : Hid (_) := Hhor.out b L (Rs.adv (s)) Y1 KN.out GD.out PA.out (HM.out)
  refine Calls.mono HC2.out ?_
  rintro e w3 ⟨hg4, tx, vx, sx, rfl, ra5, relx, nd6⟩
  have hX : ∀ q ∈ ([] : List Nat), q < Y1.heap.size := by
    intro q hq
    cases hq
  obtain ⟨xk, xt, xn, xa, xL, xc, xkids, rfl, rfl, nf⟩ := NF.of_end (X := []) nd6 FR.out hX
  replace FR : Hid (Frm w b w3) := FR.out.go hg4
  replace PA : Hid (RAt b L (sx) w3) := ra5
  have Nx : Hid (NF w w3 ⟨xk, xt, xn, .slice xa xL xc, xkids⟩ []) := nf
  have RELx : Hid (Rs.Rel L (.bin 0) (Rs.adv (s)) (.mk xk xt xn xkids) sx) := relx
  replace GD : Hid (Rs.Good L (sx)) := relx.good
  clear nf HC2 hg4 ra5 relx nd6 hX
  obtain ⟨Y7, hY7⟩ : ∃ V, V = w3.alloc (.cells #[.int .u8 xk, .string (Ln.bs xt), .int .i64 xn, .slice xa xL xc] 26) := ⟨_, rfl⟩
  have bY7 : Below w3.heap.size w3 Y7 := hY7 ▸ below_new w3 _
  have nb : BX w Y7 (w3.heap.size) ⟨xk, xt, xn, .slice xa xL xc, xkids⟩ := by rw [hY7]; exact BX.new FR.out ⟨xk, xt, xn, .slice xa xL xc, xkids⟩
  replace Nx : Hid (NF w w3 ⟨xk, xt, xn, .slice xa xL xc, xkids⟩ [w3.heap.size]) := Nx.out.ex (Nat.le_refl _)
  replace Nx : Hid (NF w Y7 ⟨xk, xt, xn, .slice xa xL xc, xkids⟩ [w3.heap.size]) := Nx.out.go (grown_low bY7) FR.out.low
  replace FR : Hid (Frm w b Y7) := FR.out.go (grown_low bY7)
  replace PA : Hid (RAt b L (sx) Y7) := PA.out.below bY7
  have Bx : Hid (BX w Y7 (w3.heap.size) ⟨xk, xt, xn, .slice xa xL xc, xkids⟩) := nb
  clear nb bY7
  have T2 : Hid (_) := (TT.out.bnd RELx.out).want (t := [59]) (by decide)
  go_wp2_with fail
  rw [← hY7]
  clear hY7
  have HW8 : Hid (_) := rwant_any b L (sx) [59] Y7 PA.out GD.out KN.out (by decide)
  refine Calls.mono HW8.out ?_
  rintro e w9 ⟨rfl, hst10⟩
  replace Nx : Hid (NF w w9 ⟨xk, xt, xn, .slice xa xL xc, xkids⟩ [w3.heap.size]) := Nx.out.go hst10.1 FR.out.low
  replace Bx : Hid (BX w w9 (w3.heap.size) ⟨xk, xt, xn, .slice xa xL xc, xkids⟩) := Bx.out.go hst10.1 FR.out.low
  replace FR : Hid (Frm w b w9) := FR.out.go hst10.1
  replace PA : Hid (RAt b L (Rs.want L (sx) [59]) w9) := hst10.2
  clear HW8 hst10
  replace GD : Hid (Rs.Good L (Rs.want L (sx) [59])) := Rs.want_good GD.out (by decide)
  obtain ⟨f11, f12, f13, f14⟩ := Bx.out.cs
  obtain ⟨R15, hR15⟩ : ∃ V, V = w9.alloc (.cells #[.int .u8 xk, .string (Ln.bs xt), .int .i64 xn, .slice xa xL xc] 26) := ⟨_, rfl⟩
  have bR15 : Below w9.heap.size w9 R15 := hR15 ▸ below_new w9 _
  have hX : ∀ q ∈ ([w3.heap.size] : List Nat), q < w9.heap.size := by
    intro q hq
    simp only [List.mem_cons, List.not_mem_nil, or_false] at hq
    subst hq
    exact Bx.out.lt
  have nk : NF w R15 ⟨11, [], 0, .slice (some ⟨w9.heap.size, 0, none⟩) 1 1, [N1.tr ⟨xk, xt, xn, .slice xa xL xc, xkids⟩]⟩ [w3.heap.size] := by
    rw [hR15]
    refine NF.kids FR.out [⟨xk, xt, xn, .slice xa xL xc, xkids⟩] (fun z hz => ?_) hX (by simp) 11 [] 0 (by omega) (by simp) (by omega)
    simp only [List.mem_cons, List.not_mem_nil, or_false] at hz
    subst hz
    exact Nx.out
  replace Nx : Hid (NF w R15 ⟨xk, xt, xn, .slice xa xL xc, xkids⟩ [w3.heap.size]) := Nx.out.go (grown_low bR15) FR.out.low
  replace Bx : Hid (BX w R15 (w3.heap.size) ⟨xk, xt, xn, .slice xa xL xc, xkids⟩) := Bx.out.go (grown_low bR15) FR.out.low
  replace FR : Hid (Frm w b R15) := FR.out.go (grown_low bR15)
  replace PA : Hid (RAt b L (Rs.want L (sx) [59]) R15) := PA.out.below bR15
  have Nz : Hid (NF w R15 ⟨11, [], 0, .slice (some ⟨w9.heap.size, 0, none⟩) 1 1, [N1.tr ⟨xk, xt, xn, .slice xa xL xc, xkids⟩]⟩ [w3.heap.size]) := nk
  clear nk hX bR15
  go_wp2_with fail
  rw [← hR15]
  clear hR15
  have HD16 : Hid (_) := rof_any 11 (some ⟨w9.heap.size, 0, none⟩) 1 1 R15
  refine Calls.mono HD16.out ?_
  rintro e w17 ⟨rfl, hb18⟩
  replace Nx : Hid (NF w w17 ⟨xk, xt, xn, .slice xa xL xc, xkids⟩ [w3.heap.size]) := Nx.out.go (grown_low hb18) FR.out.low
  replace Nz : Hid (NF w w17 ⟨11, [], 0, .slice (some ⟨w9.heap.size, 0, none⟩) 1 1, [N1.tr ⟨xk, xt, xn, .slice xa xL xc, xkids⟩]⟩ [w3.heap.size]) := Nz.out.go (grown_low hb18) FR.out.low
  replace Bx : Hid (BX w w17 (w3.heap.size) ⟨xk, xt, xn, .slice xa xL xc, xkids⟩) := Bx.out.go (grown_low hb18) FR.out.low
  replace FR : Hid (Frm w b w17) := FR.out.go (grown_low hb18)
  replace PA : Hid (RAt b L (Rs.want L (sx) [59]) w17) := PA.out.below hb18
  clear HD16 hb18
  obtain ⟨p0, p1, p2, p3, pf, Z, hZ, ⟨r0, r1, r2, r3⟩, z1, z2, z3⟩ := FR.out.finR PA.out Nz.out
  have HF : Hid (w.grownBy Z (some b) ∧ REnd L .stmt b s w (.returned (.agg #[.int .u8 11, .string (Ln.bs []), .int .i64 0, .slice (some ⟨w9.heap.size, 0, none⟩) 1 1])) Z) := ⟨z1, _, _, _, rfl, z2, T2.out.done, z3⟩
  clear z1 z2 z3 
  rw [show Ln.bs [] = (⟨#[]⟩ : ByteArray) from rfl] at p2 p3 hZ r1 HF
  go_wp2
  rw [← hZ]
  refine bodyPost_ret (v := .agg #[.int .u8 11, .string ⟨#[]⟩, .int .i64 0, .slice (some ⟨w9.heap.size, 0, none⟩) 1 1]) (by simp [results, Tryz.results92, go_sem, r0, r1, r2, r3]) rfl HF.out

end Go.Proofs.YtfegodofbdlbeaaGreatDoor
