/-
  The walk of the reader's prime.
-/
import Derived.Test.YtfegodofbdlbeaaGreatDoorRsDo
import Derived.Test.YtfegodofbdlbeaaGreatDoorRsPure
import Derived.Test.YtfegodofbdlbeaaGreatDoorRefAll
namespace Go.Proofs.YtfegodofbdlbeaaGreatDoor
open Go.RowKit Go.Shelf
open Rs (St)

attribute [local go_sem] Oper.semAt_some

/-- The next token, in a box of its own. -/
def TokAt (b q : Nat) (L : List Lx.Tok) (s : St) (W : World) : Prop := b ≠ q ∧ W.heap[q]? = some (.cells #[.int .u8 (Ps.hd (Rs.rest L s)).kind, .string (Ln.bs (Ps.hd (Rs.rest L s)).text), .int .i64 (Ps.hd (Rs.rest L s)).at_] 49 (0, 0))
theorem TokAt.go {W W' : World} {b q : Nat} {L : List Lx.Tok} {s : St} (h : TokAt b q L s W) (hg : W.grownBy W' (some b)) : TokAt b q L s W' :=
  ⟨h.1, (hg.block q (Array.getElem?_eq_some_iff.1 h.2).1 (by simp; exact fun e => h.1 e.symm)).trans h.2⟩
theorem int_le {l : List UInt8} (h : Lx.isInt l = true) : Lx.val l ≤ 9223372036854775807 := by
  unfold Lx.isInt at h
  simp only [Bool.and_eq_true, decide_eq_true_eq] at h
  exact h.2
theorem rcell3 {b : Nat} {L : List Lx.Tok} {s : St} {W : World} (h : RAt b L s W) (hg : Rs.Good L s) : W.cell? ⟨b, 3, none⟩ = some (.int .i64 s.E) := by
  obtain ⟨_, _, _, _, _, c3, _⟩ := h.cells hg
  exact c3
theorem TokAt.cs {W : World} {b q : Nat} {L : List Lx.Tok} {s : St} (h : TokAt b q L s W) : W.cell? ⟨q, 0, none⟩ = some (.int .u8 (Ps.hd (Rs.rest L s)).kind) ∧ W.cell? ⟨q, 1, none⟩ = some (.string (Ln.bs (Ps.hd (Rs.rest L s)).text)) := ⟨cells_at h.2 rfl, cells_at h.2 rfl⟩

set_option maxRecDepth 100000 in
set_option maxHeartbeats 8000000 in
theorem rprime_of (m : Nat) (hor : ∀ m', m = m' + 1 → RDo 90 (.bin 0) [] m') (hca : ∀ m' q, m = m' + 1 → q.length ≤ 1000000 → RDo 93 (.call q) [.string (Ln.bs q)] m') : RDo 119 .prime [] m := by
  intro b L s w hK hG hR hm
  obtain ⟨A, hA⟩ : ∃ A, A = w.alloc (.cells #[.int .u8 0, .string ⟨#[]⟩, .int .i64 0, .slice none 0 0] 26) := ⟨_, rfl⟩
  have FR : Hid (Frm w b A) := hA ▸ RFrm.new hR
  have PA : Hid (RAt b L (s) A) := hA ▸ hR.below (below_new w _)
  have KN : Hid (Known L) := hK
  have GD : Hid (Rs.Good L (s)) := hG
  have G0 : Hid (Rs.Good L s) := hG
  have HM : Hid (s.E = 0 → (Rs.rest L s).length ≤ m) := hm
  have Hhor : Hid (∀ m', m = m' + 1 → RDo 90 (.bin 0) [] m') := hor
  have Hhca : Hid (∀ m' q, m = m' + 1 → q.length ≤ 1000000 → RDo 93 (.call q) [.string (Ln.bs q)] m') := hca
  clear hR hK hG hm hor hca
  go_enter Tryz.func119, Tryz.ntmps119
  obtain ⟨tb, c, c0, c1, -, c3, -, cf, ⟨hl0, hl1, hl2, htb, hbb⟩, t0, t1, t2, -, -⟩ := PA.out.cells GD.out
  obtain ⟨V, hV⟩ : ∃ V, V = (A.alloc (.cells #[.int .u8 (Ps.hd (Rs.rest L s)).kind, .string (Ln.bs (Ps.hd (Rs.rest L s)).text), .int .i64 (Ps.hd (Rs.rest L s)).at_] 49)).drew := ⟨_, rfl⟩
  have bV : Below A.heap.size A V := by rw [hV]; exact below_drewN (below_new A _) 1
  have TK : Hid (TokAt b (A.heap.size) L s V) := ⟨by have := FR.out.low; have := FR.out.lt; omega, by rw [hV]; exact World.alloc_heap_new A _⟩
  obtain ⟨N, hN⟩ : ∃ N, N = L.length := ⟨_, rfl⟩
  rw [← hN] at c0 hl0 hl1 hl2
  have hlI : (s.k : Int) < N := by omega
  clear hN
  go_upto_region 1 with fail
  rw [← hA]
  clear hA
  go_region
  rw [← hV]
  clear hV c0 c1 c3 t0 t1 t2 htb hbb cf hlI hl0 hl1 hl2
  replace FR : Hid (Frm w b V) := FR.out.go (grown_low bV)
  replace PA : Hid (RAt b L (s) V) := PA.out.below bV
  clear bV
  by_cases hE : ¬ s.E = 0
  case pos =>
    have e0 : ((s.E : Int) != 0) = true := by simpa using hE
    have HD : Hid (s.E ≠ 0) := hE
    clear hE
    have c3 := rcell3 PA.out GD.out
    have Nz : Hid (NF w V ⟨0, [], 0, .slice none 0 0, []⟩ []) := NF.leaf w V [] 0 [] 0 (by omega) (by simp) (by omega)
    obtain ⟨p0, p1, p2, p3, pf, Z, hZ, ⟨r0, r1, r2, r3⟩, z1, z2, z3⟩ := FR.out.finR PA.out Nz.out
    have HF : Hid (w.grownBy Z (some b) ∧ REnd L .prime b s w (.returned (.agg #[.int .u8 0, .string (Ln.bs []), .int .i64 0, .slice none 0 0])) Z) := ⟨z1, _, _, _, rfl, z2, Rs.Rel.dead G0.out HD.out, z3⟩
    clear z1 z2 z3 
    rw [show Ln.bs [] = (⟨#[]⟩ : ByteArray) from rfl] at p2 p3 hZ r1 HF
    go_wp2
    rw [← hZ]
    refine bodyPost_ret (v := .agg #[.int .u8 0, .string ⟨#[]⟩, .int .i64 0, .slice none 0 0]) (by simp [results, Tryz.results119, go_sem, r0, r1, r2, r3]) rfl HF.out
  have hE : s.E = 0 := by simpa using hE
  have e0 : ((s.E : Int) != 0) = false := by rw [hE]; rfl
  have H0 : Hid (s.E = 0) := hE
  obtain ⟨m', rfl⟩ : ∃ m', m = m' + 1 := by have h1 := HM.out hE; have h2 := Rs.live_pos G0.out; exact ⟨m - 1, by omega⟩
  have HM1 : Hid (∀ q, Rs.Sh L s q 1 → q.E = 0 → (Rs.rest L q).length ≤ m') := fun q hq h0 => by have h1 := HM.out hE; have h2 := (hq h0).2; omega
  have HOR : Hid (RDo 90 (.bin 0) [] m') := Hhor.out m' rfl
  have HCA : Hid (∀ q, q.length ≤ 1000000 → RDo 93 (.call q) [.string (Ln.bs q)] m') := fun q hq => Hhca.out m' q rfl hq
  clear hE Hhor Hhca
  by_cases hk3 : (Ps.hd (Rs.rest L s)).kind = 3
  case pos =>
    have c3 := rcell3 PA.out GD.out
    obtain ⟨q0, q1⟩ := TK.out.cs
    have d3 : (((Ps.hd (Rs.rest L s)).kind : Int) == 3) = true := by rw [hk3]; rfl
    have K3 : Hid ((Ps.hd (Rs.rest L s)).kind = 3) := hk3
    clear hk3
    obtain ⟨k1, k2, k3, Y1, hY1, st⟩ := radv PA.out GD.out
    replace FR : Hid (Frm w b Y1) := FR.out.go st.1
    replace PA : Hid (RAt b L (Rs.adv (s)) Y1) := st.2
    replace TK : Hid (TokAt b (A.heap.size) L s Y1) := TK.out.go st.1
    replace GD : Hid (Rs.Good L (Rs.adv (s))) := GD.out.adv (.inl (by rw [K3.out]; decide))
    clear st
    obtain ⟨q0', q1'⟩ := TK.out.cs
    have nb1 : b ≠ A.heap.size := TK.out.1
    have nb2 : A.heap.size ≠ b := fun e => TK.out.1 e.symm
    rw [hY1] at q0' q1'
    have HI3 : Hid (Lx.isInt (Ps.hd (Rs.rest L s)).text = true) := (KN.out _ (hd_mem G0.out)).1.2.2 K3.out
    have tl : (Ps.hd (Rs.rest L s)).text.length ≤ 1000000 := (KN.out _ (hd_mem G0.out)).1.1
    go_wp2_with fail
    rw [← hY1]
    clear hY1
    clear k1 k2 k3
    clear q0 q1 q0' q1' nb1 nb2 c3
    have HNM : Hid (_) := numval_any (Ln.bs (Ps.hd (Rs.rest L s)).text) (by show (Ps.hd (Rs.rest L s)).text.toArray.size ≤ 1000000; simpa using tl) Y1
    refine Calls.mono HNM.out ?_
    rintro e w9 ⟨⟨v9, rfl, hv9⟩, rfl⟩
    have ed : (Ln.bs (Ps.hd (Rs.rest L s)).text).data.toList = (Ps.hd (Rs.rest L s)).text := List.toList_toArray
    rw [ed] at hv9
    obtain rfl := hv9 HI3.out
    have vb : Lx.val (Ps.hd (Rs.rest L s)).text ≤ 9223372036854775807 := int_le HI3.out
    clear hv9 ed HNM
    have Nz : Hid (NF w w9 ⟨20, [], (Lx.val (Ps.hd (Rs.rest L s)).text : Nat), .slice none 0 0, []⟩ []) := NF.leaf w w9 [] 20 [] (Lx.val (Ps.hd (Rs.rest L s)).text : Nat) (by omega) (by simp) (by omega)
    obtain ⟨p0, p1, p2, p3, pf, Z, hZ, ⟨r0, r1, r2, r3⟩, z1, z2, z3⟩ := FR.out.finR PA.out Nz.out
    have HF : Hid (w.grownBy Z (some b) ∧ REnd L .prime b s w (.returned (.agg #[.int .u8 20, .string (Ln.bs []), .int .i64 (Lx.val (Ps.hd (Rs.rest L s)).text : Nat), .slice none 0 0])) Z) := ⟨z1, _, _, _, rfl, z2, Rs.rel_int G0.out H0.out K3.out, z3⟩
    clear z1 z2 z3 
    rw [show Ln.bs [] = (⟨#[]⟩ : ByteArray) from rfl] at p2 p3 hZ r1 HF
    go_wp2
    rw [← hZ]
    refine bodyPost_ret (v := .agg #[.int .u8 20, .string ⟨#[]⟩, .int .i64 (Lx.val (Ps.hd (Rs.rest L s)).text : Nat), .slice none 0 0]) (by simp [results, Tryz.results119, go_sem, r0, r1, r2, r3]) rfl HF.out
  have d3 : (((Ps.hd (Rs.rest L s)).kind : Int) == 3) = false := by simpa using (by omega : ¬ ((Ps.hd (Rs.rest L s)).kind : Int) = 3)
  by_cases hk1 : (Ps.hd (Rs.rest L s)).kind = 1
  case pos =>
    have c3 := rcell3 PA.out GD.out
    obtain ⟨q0, q1⟩ := TK.out.cs
    have d1 : (((Ps.hd (Rs.rest L s)).kind : Int) == 1) = true := by rw [hk1]; rfl
    have K1 : Hid ((Ps.hd (Rs.rest L s)).kind = 1) := hk1
    clear hk1 hk3
    have tl : (Ps.hd (Rs.rest L s)).text.length ≤ 1000000 := (KN.out _ (hd_mem G0.out)).1.1
    obtain ⟨k1, k2, k3, Y1, hY1, st⟩ := radv PA.out GD.out
    replace FR : Hid (Frm w b Y1) := FR.out.go st.1
    replace PA : Hid (RAt b L (Rs.adv (s)) Y1) := st.2
    replace TK : Hid (TokAt b (A.heap.size) L s Y1) := TK.out.go st.1
    replace GD : Hid (Rs.Good L (Rs.adv (s))) := GD.out.adv (.inl (by rw [K1.out]; decide))
    clear st
    go_wp2_with fail
    rw [← hY1]
    clear hY1
    clear k1 k2 k3
    have HI2 : Hid (_) := ris_any b L (Rs.adv (s)) [40] Y1 PA.out GD.out KN.out (by decide)
    refine Calls.mono HI2.out ?_
    rintro e w4 ⟨rfl, hb5⟩
    replace FR : Hid (Frm w b w4) := FR.out.go (grown_low hb5)
    replace PA : Hid (RAt b L (Rs.adv (s)) w4) := PA.out.below hb5
    replace TK : Hid (TokAt b (A.heap.size) L s w4) := TK.out.go (grown_low hb5)
    clear HI2 hb5
    cases hs3 : Rs.isB L (Rs.adv (s)) [40]
    clear q0 q1 c3
    · skip
      have HS : Hid (Rs.isB L (Rs.adv (s)) [40] = false) := hs3
      clear hs3
      obtain ⟨q0, q1⟩ := TK.out.cs
      have Nz : Hid (NF w w4 ⟨22, (Ps.hd (Rs.rest L s)).text, 0, .slice none 0 0, []⟩ []) := NF.leaf w w4 [] 22 (Ps.hd (Rs.rest L s)).text 0 (by omega) (tl) (by omega)
      obtain ⟨p0, p1, p2, p3, pf, Z, hZ, ⟨r0, r1, r2, r3⟩, z1, z2, z3⟩ := FR.out.finR PA.out Nz.out
      have HF : Hid (w.grownBy Z (some b) ∧ REnd L .prime b s w (.returned (.agg #[.int .u8 22, .string (Ln.bs ((Ps.hd (Rs.rest L s)).text)), .int .i64 0, .slice none 0 0])) Z) := ⟨z1, _, _, _, rfl, z2, Rs.rel_var G0.out H0.out K1.out HS.out, z3⟩
      clear z1 z2 z3 
      go_wp2
      rw [← hZ]
      refine bodyPost_ret (v := .agg #[.int .u8 22, .string (Ln.bs ((Ps.hd (Rs.rest L s)).text)), .int .i64 0, .slice none 0 0]) (by simp [results, Tryz.results119, go_sem, r0, r1, r2, r3]) rfl HF.out
    · skip
      have HS : Hid (Rs.isB L (Rs.adv (s)) [40] = true) := hs3
      clear hs3
      obtain ⟨q0, q1⟩ := TK.out.cs
      go_wp2_with fail
      have HC6 : Hid (_) := (HCA.out (Ps.hd (Rs.rest L s)).text tl) b L (Rs.adv (s)) w4 KN.out GD.out PA.out (fun h9 => HM1.out _ (Rs.adv_sh G0.out) h9)
      refine Calls.mono HC6.out ?_
      rintro e w7 ⟨hg8, tx, vx, sx, rfl, ra9, relx, nd10⟩
      have hX : ∀ q ∈ ([] : List Nat), q < w4.heap.size := by
        intro q hq
        cases hq
      obtain ⟨xk, xt, xn, xa, xL, xc, xkids, rfl, rfl, nf⟩ := NF.of_end (X := []) nd10 FR.out hX
      replace FR : Hid (Frm w b w7) := FR.out.go hg8
      replace PA : Hid (RAt b L (sx) w7) := ra9
      replace TK : Hid (TokAt b (A.heap.size) L s w7) := TK.out.go hg8
      have Nx : Hid (NF w w7 ⟨xk, xt, xn, .slice xa xL xc, xkids⟩ []) := nf
      have RELx : Hid (Rs.Rel L ((.call (Ps.hd (Rs.rest L s)).text)) (Rs.adv (s)) (.mk xk xt xn xkids) sx) := relx
      replace GD : Hid (Rs.Good L (sx)) := relx.good
      clear nf HC6 hg8 ra9 relx nd10 hX
      clear q0 q1
      obtain ⟨p0, p1, p2, p3, pf, Z, hZ, ⟨r0, r1, r2, r3⟩, z1, z2, z3⟩ := FR.out.finR PA.out Nx.out
      have HF : Hid (w.grownBy Z (some b) ∧ REnd L .prime b s w (.returned (.agg #[.int .u8 xk, .string (Ln.bs xt), .int .i64 xn, .slice xa xL xc])) Z) := ⟨z1, _, _, _, rfl, z2, Rs.rel_call H0.out K1.out HS.out RELx.out, z3⟩
      clear z1 z2 z3 
      go_wp2
      rw [← hZ]
      refine bodyPost_ret (v := .agg #[.int .u8 xk, .string (Ln.bs xt), .int .i64 xn, .slice xa xL xc]) (by simp [results, Tryz.results119, go_sem, r0, r1, r2, r3]) rfl HF.out
  have d1 : (((Ps.hd (Rs.rest L s)).kind : Int) == 1) = false := by simpa using (by omega : ¬ ((Ps.hd (Rs.rest L s)).kind : Int) = 1)
  have EL : Hid (Rs.Else L s) := ⟨H0.out, hk3, hk1⟩
  clear hk3 hk1
  have c3 := rcell3 PA.out GD.out
  obtain ⟨q0, q1⟩ := TK.out.cs
  go_wp2_with fail
  have HI1 : Hid (_) := ris_any b L (s) [116, 114, 117, 101] V PA.out GD.out KN.out (by decide)
  refine Calls.mono HI1.out ?_
  rintro e w3 ⟨rfl, hb4⟩
  replace FR : Hid (Frm w b w3) := FR.out.go (grown_low hb4)
  replace PA : Hid (RAt b L (s) w3) := PA.out.below hb4
  replace TK : Hid (TokAt b (A.heap.size) L s w3) := TK.out.go (grown_low hb4)
  clear HI1 hb4
  cases hs2 : Rs.isB L (s) [116, 114, 117, 101]
  clear q0 q1 c3 d3 d1
  · skip
    have Strue : Hid (Rs.isB L (s) [116, 114, 117, 101] = false) := hs2
    clear hs2
    go_wp2_with fail
    have HI5 : Hid (_) := ris_any b L (s) [102, 97, 108, 115, 101] w3 PA.out GD.out KN.out (by decide)
    refine Calls.mono HI5.out ?_
    rintro e w7 ⟨rfl, hb8⟩
    replace FR : Hid (Frm w b w7) := FR.out.go (grown_low hb8)
    replace PA : Hid (RAt b L (s) w7) := PA.out.below hb8
    replace TK : Hid (TokAt b (A.heap.size) L s w7) := TK.out.go (grown_low hb8)
    clear HI5 hb8
    cases hs6 : Rs.isB L (s) [102, 97, 108, 115, 101]
    · skip
      have Sfalse : Hid (Rs.isB L (s) [102, 97, 108, 115, 101] = false) := hs6
      clear hs6
      go_wp2_with fail
      have HI9 : Hid (_) := ris_any b L (s) [91] w7 PA.out GD.out KN.out (by decide)
      refine Calls.mono HI9.out ?_
      rintro e w11 ⟨rfl, hb12⟩
      replace FR : Hid (Frm w b w11) := FR.out.go (grown_low hb12)
      replace PA : Hid (RAt b L (s) w11) := PA.out.below hb12
      replace TK : Hid (TokAt b (A.heap.size) L s w11) := TK.out.go (grown_low hb12)
      clear HI9 hb12
      cases hs10 : Rs.isB L (s) [91]
      · skip
        have SB : Hid (Rs.isB L (s) [91] = false) := hs10
        clear hs10
        go_wp2_with fail
        have HI13 : Hid (_) := ris_any b L (s) [108, 101, 110] w11 PA.out GD.out KN.out (by decide)
        refine Calls.mono HI13.out ?_
        rintro e w15 ⟨rfl, hb16⟩
        replace FR : Hid (Frm w b w15) := FR.out.go (grown_low hb16)
        replace PA : Hid (RAt b L (s) w15) := PA.out.below hb16
        replace TK : Hid (TokAt b (A.heap.size) L s w15) := TK.out.go (grown_low hb16)
        clear HI13 hb16
        cases hs14 : Rs.isB L (s) [108, 101, 110]
        · skip
          have Slen : Hid (Rs.isB L (s) [108, 101, 110] = false) := hs14
          clear hs14
          go_wp2_with fail
          have HI17 : Hid (_) := ris_any b L (s) [114, 101, 97, 100] w15 PA.out GD.out KN.out (by decide)
          refine Calls.mono HI17.out ?_
          rintro e w19 ⟨rfl, hb20⟩
          replace FR : Hid (Frm w b w19) := FR.out.go (grown_low hb20)
          replace PA : Hid (RAt b L (s) w19) := PA.out.below hb20
          replace TK : Hid (TokAt b (A.heap.size) L s w19) := TK.out.go (grown_low hb20)
          clear HI17 hb20
          cases hs18 : Rs.isB L (s) [114, 101, 97, 100]
          · skip
            have Sread : Hid (Rs.isB L (s) [114, 101, 97, 100] = false) := hs18
            clear hs18
            go_wp2_with fail
            have HI21 : Hid (_) := ris_any b L (s) [40] w19 PA.out GD.out KN.out (by decide)
            refine Calls.mono HI21.out ?_
            rintro e w23 ⟨rfl, hb24⟩
            replace FR : Hid (Frm w b w23) := FR.out.go (grown_low hb24)
            replace PA : Hid (RAt b L (s) w23) := PA.out.below hb24
            replace TK : Hid (TokAt b (A.heap.size) L s w23) := TK.out.go (grown_low hb24)
            clear HI21 hb24
            cases hs22 : Rs.isB L (s) [40]
            · skip
              have SP : Hid (Rs.isB L (s) [40] = false) := hs22
              clear hs22
              go_wp2_with fail
              have HW : Hid (_) := rfail_any b L (s) 102 w23 PA.out GD.out
              refine Calls.mono HW.out ?_
              rintro e w9 ⟨rfl, hst⟩
              replace FR : Hid (Frm w b w9) := FR.out.go hst.1
              replace PA : Hid (RAt b L (Rs.fail L (s) 102) w9) := hst.2
              replace TK : Hid (TokAt b (A.heap.size) L s w9) := TK.out.go hst.1
              clear HW hst
              have Nz : Hid (NF w w9 ⟨0, [], 0, .slice none 0 0, []⟩ []) := NF.leaf w w9 [] 0 [] 0 (by omega) (by simp) (by omega)
              obtain ⟨p0, p1, p2, p3, pf, Z, hZ, ⟨r0, r1, r2, r3⟩, z1, z2, z3⟩ := FR.out.finR PA.out Nz.out
              have HF : Hid (w.grownBy Z (some b) ∧ REnd L .prime b s w (.returned (.agg #[.int .u8 0, .string (Ln.bs []), .int .i64 0, .slice none 0 0])) Z) := ⟨z1, _, _, _, rfl, z2, Rs.rel_none G0.out EL.out Strue.out Sfalse.out SB.out Slen.out Sread.out SP.out, z3⟩
              clear z1 z2 z3 
              rw [show Ln.bs [] = (⟨#[]⟩ : ByteArray) from rfl] at p2 p3 hZ r1 HF
              go_wp2
              rw [← hZ]
              refine bodyPost_ret (v := .agg #[.int .u8 0, .string ⟨#[]⟩, .int .i64 0, .slice none 0 0]) (by simp [results, Tryz.results119, go_sem, r0, r1, r2, r3]) rfl HF.out
            · skip
              have SP : Hid (Rs.isB L (s) [40] = true) := hs22
              clear hs22
              clear TK
              go_wp2_with fail
              have HW25 : Hid (_) := rbegin_any b L (s) [40] w23 PA.out GD.out KN.out (by decide)
              refine Calls.mono HW25.out ?_
              rintro e w26 ⟨rfl, hst27⟩
              replace FR : Hid (Frm w b w26) := FR.out.go hst27.1
              replace PA : Hid (RAt b L (Rs.begin L (s) [40]) w26) := hst27.2
              clear HW25 hst27
              replace GD : Hid (Rs.Good L (Rs.begin L (s) [40])) := Rs.begin_good GD.out (by decide)
              go_wp2_with fail
              have HC28 : Hid (_) := HOR.out b L (Rs.begin L (s) [40]) w26 KN.out GD.out PA.out (fun h9 => HM1.out _ (Rs.begin_sh G0.out) h9)
              refine Calls.mono HC28.out ?_
              rintro e w29 ⟨hg30, tx, vx, sx, rfl, ra31, relx, nd32⟩
              have hX : ∀ q ∈ ([] : List Nat), q < w26.heap.size := by
                intro q hq
                cases hq
              obtain ⟨xk, xt, xn, xa, xL, xc, xkids, rfl, rfl, nf⟩ := NF.of_end (X := []) nd32 FR.out hX
              replace FR : Hid (Frm w b w29) := FR.out.go hg30
              replace PA : Hid (RAt b L (sx) w29) := ra31
              have Nx : Hid (NF w w29 ⟨xk, xt, xn, .slice xa xL xc, xkids⟩ []) := nf
              have RELx : Hid (Rs.Rel L (.bin 0) (Rs.begin L (s) [40]) (.mk xk xt xn xkids) sx) := relx
              replace GD : Hid (Rs.Good L (sx)) := relx.good
              clear nf HC28 hg30 ra31 relx nd32 hX
              obtain ⟨Y33, hY33⟩ : ∃ V, V = w29.alloc (.cells #[.int .u8 xk, .string (Ln.bs xt), .int .i64 xn, .slice xa xL xc] 26) := ⟨_, rfl⟩
              have bY33 : Below w29.heap.size w29 Y33 := hY33 ▸ below_new w29 _
              have nb : BX w Y33 (w29.heap.size) ⟨xk, xt, xn, .slice xa xL xc, xkids⟩ := by rw [hY33]; exact BX.new FR.out ⟨xk, xt, xn, .slice xa xL xc, xkids⟩
              replace Nx : Hid (NF w w29 ⟨xk, xt, xn, .slice xa xL xc, xkids⟩ [w29.heap.size]) := Nx.out.ex (Nat.le_refl _)
              replace Nx : Hid (NF w Y33 ⟨xk, xt, xn, .slice xa xL xc, xkids⟩ [w29.heap.size]) := Nx.out.go (grown_low bY33) FR.out.low
              replace FR : Hid (Frm w b Y33) := FR.out.go (grown_low bY33)
              replace PA : Hid (RAt b L (sx) Y33) := PA.out.below bY33
              have Bx : Hid (BX w Y33 (w29.heap.size) ⟨xk, xt, xn, .slice xa xL xc, xkids⟩) := nb
              clear nb bY33
              have RW : Hid (_) := Rs.rel_within G0.out (b := [41]) (by decide) RELx.out
              go_wp2_with fail
              rw [← hY33]
              clear hY33
              have HW34 : Hid (_) := rend_any b L (sx) [41] Y33 PA.out GD.out KN.out (by decide) (by decide)
              refine Calls.mono HW34.out ?_
              rintro e w35 ⟨rfl, hst36⟩
              replace Nx : Hid (NF w w35 ⟨xk, xt, xn, .slice xa xL xc, xkids⟩ [w29.heap.size]) := Nx.out.go hst36.1 FR.out.low
              replace Bx : Hid (BX w w35 (w29.heap.size) ⟨xk, xt, xn, .slice xa xL xc, xkids⟩) := Bx.out.go hst36.1 FR.out.low
              replace FR : Hid (Frm w b w35) := FR.out.go hst36.1
              replace PA : Hid (RAt b L (Rs.endd L (sx) [41]) w35) := hst36.2
              clear HW34 hst36
              replace GD : Hid (Rs.Good L (Rs.endd L (sx) [41])) := RW.out.good
              obtain ⟨f37, f38, f39, f40⟩ := Bx.out.cs
              obtain ⟨p0, p1, p2, p3, pf, Z, hZ, ⟨r0, r1, r2, r3⟩, z1, z2, z3⟩ := FR.out.finR PA.out Nx.out
              have HF : Hid (w.grownBy Z (some b) ∧ REnd L .prime b s w (.returned (.agg #[.int .u8 xk, .string (Ln.bs xt), .int .i64 xn, .slice xa xL xc])) Z) := ⟨z1, _, _, _, rfl, z2, Rs.rel_paren EL.out SP.out RW.out, z3⟩
              clear z1 z2 z3 
              go_wp2
              rw [← hZ]
              refine bodyPost_ret (v := .agg #[.int .u8 xk, .string (Ln.bs xt), .int .i64 xn, .slice xa xL xc]) (by simp [results, Tryz.results119, go_sem, r0, r1, r2, r3]) rfl HF.out
          · skip
            have Sread : Hid (Rs.isB L (s) [114, 101, 97, 100] = true) := hs18
            clear hs18
            obtain ⟨k1, k2, k3, Y21, hY21, st⟩ := radv PA.out GD.out
            replace FR : Hid (Frm w b Y21) := FR.out.go st.1
            replace PA : Hid (RAt b L (Rs.adv (s)) Y21) := st.2
            replace TK : Hid (TokAt b (A.heap.size) L s Y21) := TK.out.go st.1
            replace GD : Hid (Rs.Good L (Rs.adv (s))) := Rs.isB_good GD.out Sread.out (by decide)
            clear st
            go_wp2_with fail
            rw [← hY21]
            clear hY21
            clear k1 k2 k3
            have HW22 : Hid (_) := rbegin_any b L (Rs.adv (s)) [40] Y21 PA.out GD.out KN.out (by decide)
            refine Calls.mono HW22.out ?_
            rintro e w23 ⟨rfl, hst24⟩
            replace FR : Hid (Frm w b w23) := FR.out.go hst24.1
            replace PA : Hid (RAt b L (Rs.begin L (Rs.adv (s)) [40]) w23) := hst24.2
            replace TK : Hid (TokAt b (A.heap.size) L s w23) := TK.out.go hst24.1
            clear HW22 hst24
            replace GD : Hid (Rs.Good L (Rs.begin L (Rs.adv (s)) [40])) := Rs.begin_good GD.out (by decide)
            have RR : Hid (_) := Rs.rel_read G0.out EL.out Sread.out
            go_wp2_with fail
            have HW25 : Hid (_) := rend_any b L (Rs.begin L (Rs.adv (s)) [40]) [41] w23 PA.out GD.out KN.out (by decide) (by decide)
            refine Calls.mono HW25.out ?_
            rintro e w26 ⟨rfl, hst27⟩
            replace FR : Hid (Frm w b w26) := FR.out.go hst27.1
            replace PA : Hid (RAt b L (Rs.endd L (Rs.begin L (Rs.adv (s)) [40]) [41]) w26) := hst27.2
            replace TK : Hid (TokAt b (A.heap.size) L s w26) := TK.out.go hst27.1
            clear HW25 hst27
            replace GD : Hid (Rs.Good L (Rs.endd L (Rs.begin L (Rs.adv (s)) [40]) [41])) := RR.out.good
            have Nz : Hid (NF w w26 ⟨29, [], 0, .slice none 0 0, []⟩ []) := NF.leaf w w26 [] 29 [] 0 (by omega) (by simp) (by omega)
            obtain ⟨p0, p1, p2, p3, pf, Z, hZ, ⟨r0, r1, r2, r3⟩, z1, z2, z3⟩ := FR.out.finR PA.out Nz.out
            have HF : Hid (w.grownBy Z (some b) ∧ REnd L .prime b s w (.returned (.agg #[.int .u8 29, .string (Ln.bs []), .int .i64 0, .slice none 0 0])) Z) := ⟨z1, _, _, _, rfl, z2, RR.out, z3⟩
            clear z1 z2 z3 
            rw [show Ln.bs [] = (⟨#[]⟩ : ByteArray) from rfl] at p2 p3 hZ r1 HF
            go_wp2
            rw [← hZ]
            refine bodyPost_ret (v := .agg #[.int .u8 29, .string ⟨#[]⟩, .int .i64 0, .slice none 0 0]) (by simp [results, Tryz.results119, go_sem, r0, r1, r2, r3]) rfl HF.out
        · skip
          have Slen : Hid (Rs.isB L (s) [108, 101, 110] = true) := hs14
          clear hs14
          clear TK
          obtain ⟨k1, k2, k3, Y17, hY17, st⟩ := radv PA.out GD.out
          replace FR : Hid (Frm w b Y17) := FR.out.go st.1
          replace PA : Hid (RAt b L (Rs.adv (s)) Y17) := st.2
          replace GD : Hid (Rs.Good L (Rs.adv (s))) := Rs.isB_good GD.out Slen.out (by decide)
          clear st
          have GA : Hid (Rs.Good L (Rs.adv (s))) := GD.out
          go_wp2_with fail
          rw [← hY17]
          clear hY17
          clear k1 k2 k3
          have HW18 : Hid (_) := rbegin_any b L (Rs.adv (s)) [40] Y17 PA.out GD.out KN.out (by decide)
          refine Calls.mono HW18.out ?_
          rintro e w19 ⟨rfl, hst20⟩
          replace FR : Hid (Frm w b w19) := FR.out.go hst20.1
          replace PA : Hid (RAt b L (Rs.begin L (Rs.adv (s)) [40]) w19) := hst20.2
          clear HW18 hst20
          replace GD : Hid (Rs.Good L (Rs.begin L (Rs.adv (s)) [40])) := Rs.begin_good GD.out (by decide)
          go_wp2_with fail
          have HC21 : Hid (_) := HOR.out b L (Rs.begin L (Rs.adv (s)) [40]) w19 KN.out GD.out PA.out (fun h9 => HM1.out _ (((Rs.adv_sh G0.out).trans (Rs.begin_sh GA.out)).less (by omega)) h9)
          refine Calls.mono HC21.out ?_
          rintro e w22 ⟨hg23, tx, vx, sx, rfl, ra24, relx, nd25⟩
          have hX : ∀ q ∈ ([] : List Nat), q < w19.heap.size := by
            intro q hq
            cases hq
          obtain ⟨xk, xt, xn, xa, xL, xc, xkids, rfl, rfl, nf⟩ := NF.of_end (X := []) nd25 FR.out hX
          replace FR : Hid (Frm w b w22) := FR.out.go hg23
          replace PA : Hid (RAt b L (sx) w22) := ra24
          have Nx : Hid (NF w w22 ⟨xk, xt, xn, .slice xa xL xc, xkids⟩ []) := nf
          have RELx : Hid (Rs.Rel L (.bin 0) (Rs.begin L (Rs.adv (s)) [40]) (.mk xk xt xn xkids) sx) := relx
          replace GD : Hid (Rs.Good L (sx)) := relx.good
          clear nf HC21 hg23 ra24 relx nd25 hX
          obtain ⟨Y26, hY26⟩ : ∃ V, V = w22.alloc (.cells #[.int .u8 xk, .string (Ln.bs xt), .int .i64 xn, .slice xa xL xc] 26) := ⟨_, rfl⟩
          have bY26 : Below w22.heap.size w22 Y26 := hY26 ▸ below_new w22 _
          have nb : BX w Y26 (w22.heap.size) ⟨xk, xt, xn, .slice xa xL xc, xkids⟩ := by rw [hY26]; exact BX.new FR.out ⟨xk, xt, xn, .slice xa xL xc, xkids⟩
          replace Nx : Hid (NF w w22 ⟨xk, xt, xn, .slice xa xL xc, xkids⟩ [w22.heap.size]) := Nx.out.ex (Nat.le_refl _)
          replace Nx : Hid (NF w Y26 ⟨xk, xt, xn, .slice xa xL xc, xkids⟩ [w22.heap.size]) := Nx.out.go (grown_low bY26) FR.out.low
          replace FR : Hid (Frm w b Y26) := FR.out.go (grown_low bY26)
          replace PA : Hid (RAt b L (sx) Y26) := PA.out.below bY26
          have Bx : Hid (BX w Y26 (w22.heap.size) ⟨xk, xt, xn, .slice xa xL xc, xkids⟩) := nb
          clear nb bY26
          have RW : Hid (_) := Rs.rel_within GA.out (b := [41]) (by decide) RELx.out
          go_wp2_with fail
          rw [← hY26]
          clear hY26
          have HW27 : Hid (_) := rend_any b L (sx) [41] Y26 PA.out GD.out KN.out (by decide) (by decide)
          refine Calls.mono HW27.out ?_
          rintro e w28 ⟨rfl, hst29⟩
          replace Nx : Hid (NF w w28 ⟨xk, xt, xn, .slice xa xL xc, xkids⟩ [w22.heap.size]) := Nx.out.go hst29.1 FR.out.low
          replace Bx : Hid (BX w w28 (w22.heap.size) ⟨xk, xt, xn, .slice xa xL xc, xkids⟩) := Bx.out.go hst29.1 FR.out.low
          replace FR : Hid (Frm w b w28) := FR.out.go hst29.1
          replace PA : Hid (RAt b L (Rs.endd L (sx) [41]) w28) := hst29.2
          clear HW27 hst29
          replace GD : Hid (Rs.Good L (Rs.endd L (sx) [41])) := RW.out.good
          obtain ⟨f30, f31, f32, f33⟩ := Bx.out.cs
          obtain ⟨R34, hR34⟩ : ∃ V, V = w28.alloc (.cells #[.int .u8 xk, .string (Ln.bs xt), .int .i64 xn, .slice xa xL xc] 26) := ⟨_, rfl⟩
          have bR34 : Below w28.heap.size w28 R34 := hR34 ▸ below_new w28 _
          have hX : ∀ q ∈ ([w22.heap.size] : List Nat), q < w28.heap.size := by
            intro q hq
            simp only [List.mem_cons, List.not_mem_nil, or_false] at hq
            subst hq
            exact Bx.out.lt
          have nk : NF w R34 ⟨28, [], 0, .slice (some ⟨w28.heap.size, 0, none⟩) 1 1, [N1.tr ⟨xk, xt, xn, .slice xa xL xc, xkids⟩]⟩ [w22.heap.size] := by
            rw [hR34]
            refine NF.kids FR.out [⟨xk, xt, xn, .slice xa xL xc, xkids⟩] (fun z hz => ?_) hX (by simp) 28 [] 0 (by omega) (by simp) (by omega)
            simp only [List.mem_cons, List.not_mem_nil, or_false] at hz
            subst hz
            exact Nx.out
          replace Nx : Hid (NF w R34 ⟨xk, xt, xn, .slice xa xL xc, xkids⟩ [w22.heap.size]) := Nx.out.go (grown_low bR34) FR.out.low
          replace Bx : Hid (BX w R34 (w22.heap.size) ⟨xk, xt, xn, .slice xa xL xc, xkids⟩) := Bx.out.go (grown_low bR34) FR.out.low
          replace FR : Hid (Frm w b R34) := FR.out.go (grown_low bR34)
          replace PA : Hid (RAt b L (Rs.endd L (sx) [41]) R34) := PA.out.below bR34
          have Nz : Hid (NF w R34 ⟨28, [], 0, .slice (some ⟨w28.heap.size, 0, none⟩) 1 1, [N1.tr ⟨xk, xt, xn, .slice xa xL xc, xkids⟩]⟩ [w22.heap.size]) := nk
          clear nk hX bR34
          go_wp2_with fail
          rw [← hR34]
          clear hR34
          have HD35 : Hid (_) := rof_any 28 (some ⟨w28.heap.size, 0, none⟩) 1 1 R34
          refine Calls.mono HD35.out ?_
          rintro e w36 ⟨rfl, hb37⟩
          replace Nx : Hid (NF w w36 ⟨xk, xt, xn, .slice xa xL xc, xkids⟩ [w22.heap.size]) := Nx.out.go (grown_low hb37) FR.out.low
          replace Nz : Hid (NF w w36 ⟨28, [], 0, .slice (some ⟨w28.heap.size, 0, none⟩) 1 1, [N1.tr ⟨xk, xt, xn, .slice xa xL xc, xkids⟩]⟩ [w22.heap.size]) := Nz.out.go (grown_low hb37) FR.out.low
          replace Bx : Hid (BX w w36 (w22.heap.size) ⟨xk, xt, xn, .slice xa xL xc, xkids⟩) := Bx.out.go (grown_low hb37) FR.out.low
          replace FR : Hid (Frm w b w36) := FR.out.go (grown_low hb37)
          replace PA : Hid (RAt b L (Rs.endd L (sx) [41]) w36) := PA.out.below hb37
          clear HD35 hb37
          obtain ⟨p0, p1, p2, p3, pf, Z, hZ, ⟨r0, r1, r2, r3⟩, z1, z2, z3⟩ := FR.out.finR PA.out Nz.out
          have HF : Hid (w.grownBy Z (some b) ∧ REnd L .prime b s w (.returned (.agg #[.int .u8 28, .string (Ln.bs []), .int .i64 0, .slice (some ⟨w28.heap.size, 0, none⟩) 1 1])) Z) := ⟨z1, _, _, _, rfl, z2, Rs.rel_len EL.out Slen.out RW.out, z3⟩
          clear z1 z2 z3 
          rw [show Ln.bs [] = (⟨#[]⟩ : ByteArray) from rfl] at p2 p3 hZ r1 HF
          go_wp2
          rw [← hZ]
          refine bodyPost_ret (v := .agg #[.int .u8 28, .string ⟨#[]⟩, .int .i64 0, .slice (some ⟨w28.heap.size, 0, none⟩) 1 1]) (by simp [results, Tryz.results119, go_sem, r0, r1, r2, r3]) rfl HF.out
      · skip
        have SB : Hid (Rs.isB L (s) [91] = true) := hs10
        clear hs10
        clear TK
        go_wp2_with fail
        have HW13 : Hid (_) := rbegin_any b L (s) [91] w11 PA.out GD.out KN.out (by decide)
        refine Calls.mono HW13.out ?_
        rintro e w14 ⟨rfl, hst15⟩
        replace FR : Hid (Frm w b w14) := FR.out.go hst15.1
        replace PA : Hid (RAt b L (Rs.begin L (s) [91]) w14) := hst15.2
        clear HW13 hst15
        replace GD : Hid (Rs.Good L (Rs.begin L (s) [91])) := Rs.begin_good GD.out (by decide)
        go_wp2_with fail
        have HC16 : Hid (_) := HOR.out b L (Rs.begin L (s) [91]) w14 KN.out GD.out PA.out (fun h9 => HM1.out _ (Rs.begin_sh G0.out) h9)
        refine Calls.mono HC16.out ?_
        rintro e w17 ⟨hg18, tx, vx, sx, rfl, ra19, relx, nd20⟩
        have hX : ∀ q ∈ ([] : List Nat), q < w14.heap.size := by
          intro q hq
          cases hq
        obtain ⟨xk, xt, xn, xa, xL, xc, xkids, rfl, rfl, nf⟩ := NF.of_end (X := []) nd20 FR.out hX
        replace FR : Hid (Frm w b w17) := FR.out.go hg18
        replace PA : Hid (RAt b L (sx) w17) := ra19
        have Nx : Hid (NF w w17 ⟨xk, xt, xn, .slice xa xL xc, xkids⟩ []) := nf
        have RELx : Hid (Rs.Rel L (.bin 0) (Rs.begin L (s) [91]) (.mk xk xt xn xkids) sx) := relx
        replace GD : Hid (Rs.Good L (sx)) := relx.good
        clear nf HC16 hg18 ra19 relx nd20 hX
        obtain ⟨Y21, hY21⟩ : ∃ V, V = w17.alloc (.cells #[.int .u8 xk, .string (Ln.bs xt), .int .i64 xn, .slice xa xL xc] 26) := ⟨_, rfl⟩
        have bY21 : Below w17.heap.size w17 Y21 := hY21 ▸ below_new w17 _
        have nb : BX w Y21 (w17.heap.size) ⟨xk, xt, xn, .slice xa xL xc, xkids⟩ := by rw [hY21]; exact BX.new FR.out ⟨xk, xt, xn, .slice xa xL xc, xkids⟩
        replace Nx : Hid (NF w w17 ⟨xk, xt, xn, .slice xa xL xc, xkids⟩ [w17.heap.size]) := Nx.out.ex (Nat.le_refl _)
        replace Nx : Hid (NF w Y21 ⟨xk, xt, xn, .slice xa xL xc, xkids⟩ [w17.heap.size]) := Nx.out.go (grown_low bY21) FR.out.low
        replace FR : Hid (Frm w b Y21) := FR.out.go (grown_low bY21)
        replace PA : Hid (RAt b L (sx) Y21) := PA.out.below bY21
        have Bx : Hid (BX w Y21 (w17.heap.size) ⟨xk, xt, xn, .slice xa xL xc, xkids⟩) := nb
        clear nb bY21
        go_wp2_with fail
        rw [← hY21]
        clear hY21
        have HW22 : Hid (_) := rwant_any b L (sx) [59] Y21 PA.out GD.out KN.out (by decide)
        refine Calls.mono HW22.out ?_
        rintro e w23 ⟨rfl, hst24⟩
        replace Nx : Hid (NF w w23 ⟨xk, xt, xn, .slice xa xL xc, xkids⟩ [w17.heap.size]) := Nx.out.go hst24.1 FR.out.low
        replace Bx : Hid (BX w w23 (w17.heap.size) ⟨xk, xt, xn, .slice xa xL xc, xkids⟩) := Bx.out.go hst24.1 FR.out.low
        replace FR : Hid (Frm w b w23) := FR.out.go hst24.1
        replace PA : Hid (RAt b L (Rs.want L (sx) [59]) w23) := hst24.2
        clear HW22 hst24
        replace GD : Hid (Rs.Good L (Rs.want L (sx) [59])) := Rs.want_good GD.out (by decide)
        go_wp2_with fail
        have HC25 : Hid (_) := HOR.out b L (Rs.want L (sx) [59]) w23 KN.out GD.out PA.out (fun h9 => HM1.out _ ((((Rs.begin_sh G0.out).trans (Rs.rel_sh (J := .bin 0) trivial RELx.out)).trans (Rs.want_sh RELx.out.good)).less (by omega)) h9)
        refine Calls.mono HC25.out ?_
        rintro e w26 ⟨hg27, ty, vy, sy, rfl, ra28, rely, nd29⟩
        have hX : ∀ q ∈ ([w17.heap.size] : List Nat), q < w23.heap.size := by
          intro q hq
          simp only [List.mem_cons, List.not_mem_nil, or_false] at hq
          subst hq
          exact Bx.out.lt
        obtain ⟨yk, yt, yn, ya, yL, yc, ykids, rfl, rfl, nf⟩ := NF.of_end (X := [w17.heap.size]) nd29 FR.out hX
        replace Nx : Hid (NF w w26 ⟨xk, xt, xn, .slice xa xL xc, xkids⟩ [w17.heap.size]) := Nx.out.go hg27 FR.out.low
        replace Bx : Hid (BX w w26 (w17.heap.size) ⟨xk, xt, xn, .slice xa xL xc, xkids⟩) := Bx.out.go hg27 FR.out.low
        replace FR : Hid (Frm w b w26) := FR.out.go hg27
        replace PA : Hid (RAt b L (sy) w26) := ra28
        have Ny : Hid (NF w w26 ⟨yk, yt, yn, .slice ya yL yc, ykids⟩ [w17.heap.size]) := nf
        have RELy : Hid (Rs.Rel L (.bin 0) (Rs.want L (sx) [59]) (.mk yk yt yn ykids) sy) := rely
        replace GD : Hid (Rs.Good L (sy)) := rely.good
        clear nf HC25 hg27 ra28 rely nd29 hX
        have ltxy : w17.heap.size < w26.heap.size := by have := Bx.out.lt; omega
        obtain ⟨Y30, hY30⟩ : ∃ V, V = w26.alloc (.cells #[.int .u8 yk, .string (Ln.bs yt), .int .i64 yn, .slice ya yL yc] 26) := ⟨_, rfl⟩
        have bY30 : Below w26.heap.size w26 Y30 := hY30 ▸ below_new w26 _
        have nb : BX w Y30 (w26.heap.size) ⟨yk, yt, yn, .slice ya yL yc, ykids⟩ := by rw [hY30]; exact BX.new FR.out ⟨yk, yt, yn, .slice ya yL yc, ykids⟩
        replace Nx : Hid (NF w w26 ⟨xk, xt, xn, .slice xa xL xc, xkids⟩ [w26.heap.size, w17.heap.size]) := Nx.out.ex (Nat.le_refl _)
        replace Ny : Hid (NF w w26 ⟨yk, yt, yn, .slice ya yL yc, ykids⟩ [w26.heap.size, w17.heap.size]) := Ny.out.ex (Nat.le_refl _)
        replace Nx : Hid (NF w Y30 ⟨xk, xt, xn, .slice xa xL xc, xkids⟩ [w26.heap.size, w17.heap.size]) := Nx.out.go (grown_low bY30) FR.out.low
        replace Ny : Hid (NF w Y30 ⟨yk, yt, yn, .slice ya yL yc, ykids⟩ [w26.heap.size, w17.heap.size]) := Ny.out.go (grown_low bY30) FR.out.low
        replace Bx : Hid (BX w Y30 (w17.heap.size) ⟨xk, xt, xn, .slice xa xL xc, xkids⟩) := Bx.out.go (grown_low bY30) FR.out.low
        replace FR : Hid (Frm w b Y30) := FR.out.go (grown_low bY30)
        replace PA : Hid (RAt b L (sy) Y30) := PA.out.below bY30
        have By : Hid (BX w Y30 (w26.heap.size) ⟨yk, yt, yn, .slice ya yL yc, ykids⟩) := nb
        clear nb bY30
        have RA : Hid (_) := Rs.rel_array G0.out EL.out SB.out RELx.out RELy.out
        go_wp2_with fail
        rw [← hY30]
        clear hY30
        have HW31 : Hid (_) := rend_any b L (sy) [93] Y30 PA.out GD.out KN.out (by decide) (by decide)
        refine Calls.mono HW31.out ?_
        rintro e w32 ⟨rfl, hst33⟩
        replace Nx : Hid (NF w w32 ⟨xk, xt, xn, .slice xa xL xc, xkids⟩ [w26.heap.size, w17.heap.size]) := Nx.out.go hst33.1 FR.out.low
        replace Ny : Hid (NF w w32 ⟨yk, yt, yn, .slice ya yL yc, ykids⟩ [w26.heap.size, w17.heap.size]) := Ny.out.go hst33.1 FR.out.low
        replace By : Hid (BX w w32 (w26.heap.size) ⟨yk, yt, yn, .slice ya yL yc, ykids⟩) := By.out.go hst33.1 FR.out.low
        replace Bx : Hid (BX w w32 (w17.heap.size) ⟨xk, xt, xn, .slice xa xL xc, xkids⟩) := Bx.out.go hst33.1 FR.out.low
        replace FR : Hid (Frm w b w32) := FR.out.go hst33.1
        replace PA : Hid (RAt b L (Rs.endd L (sy) [93]) w32) := hst33.2
        clear HW31 hst33
        replace GD : Hid (Rs.Good L (Rs.endd L (sy) [93])) := RA.out.good
        obtain ⟨f34, f35, f36, f37⟩ := Bx.out.cs
        obtain ⟨f38, f39, f40, f41⟩ := By.out.cs
        obtain ⟨R42, hR42⟩ : ∃ V, V = w32.alloc (.cells #[.int .u8 xk, .string (Ln.bs xt), .int .i64 xn, .slice xa xL xc, .int .u8 yk, .string (Ln.bs yt), .int .i64 yn, .slice ya yL yc] 26) := ⟨_, rfl⟩
        have bR42 : Below w32.heap.size w32 R42 := hR42 ▸ below_new w32 _
        have hX : ∀ q ∈ ([w26.heap.size, w17.heap.size] : List Nat), q < w32.heap.size := by
          intro q hq
          simp only [List.mem_cons, List.not_mem_nil, or_false] at hq
          rcases hq with rfl | rfl
          · exact By.out.lt
          · exact Bx.out.lt
        have nk : NF w R42 ⟨27, [], 0, .slice (some ⟨w32.heap.size, 0, none⟩) 2 2, [N1.tr ⟨xk, xt, xn, .slice xa xL xc, xkids⟩, N1.tr ⟨yk, yt, yn, .slice ya yL yc, ykids⟩]⟩ [w26.heap.size, w17.heap.size] := by
          rw [hR42]
          refine NF.kids FR.out [⟨xk, xt, xn, .slice xa xL xc, xkids⟩, ⟨yk, yt, yn, .slice ya yL yc, ykids⟩] (fun z hz => ?_) hX (by simp) 27 [] 0 (by omega) (by simp) (by omega)
          simp only [List.mem_cons, List.not_mem_nil, or_false] at hz
          rcases hz with rfl | rfl
          · exact Nx.out
          · exact Ny.out
        replace Nx : Hid (NF w R42 ⟨xk, xt, xn, .slice xa xL xc, xkids⟩ [w26.heap.size, w17.heap.size]) := Nx.out.go (grown_low bR42) FR.out.low
        replace Ny : Hid (NF w R42 ⟨yk, yt, yn, .slice ya yL yc, ykids⟩ [w26.heap.size, w17.heap.size]) := Ny.out.go (grown_low bR42) FR.out.low
        replace By : Hid (BX w R42 (w26.heap.size) ⟨yk, yt, yn, .slice ya yL yc, ykids⟩) := By.out.go (grown_low bR42) FR.out.low
        replace Bx : Hid (BX w R42 (w17.heap.size) ⟨xk, xt, xn, .slice xa xL xc, xkids⟩) := Bx.out.go (grown_low bR42) FR.out.low
        replace FR : Hid (Frm w b R42) := FR.out.go (grown_low bR42)
        replace PA : Hid (RAt b L (Rs.endd L (sy) [93]) R42) := PA.out.below bR42
        have Nz : Hid (NF w R42 ⟨27, [], 0, .slice (some ⟨w32.heap.size, 0, none⟩) 2 2, [N1.tr ⟨xk, xt, xn, .slice xa xL xc, xkids⟩, N1.tr ⟨yk, yt, yn, .slice ya yL yc, ykids⟩]⟩ [w26.heap.size, w17.heap.size]) := nk
        clear nk hX bR42
        go_wp2_with fail
        rw [← hR42]
        clear hR42
        have HD43 : Hid (_) := rof_any 27 (some ⟨w32.heap.size, 0, none⟩) 2 2 R42
        refine Calls.mono HD43.out ?_
        rintro e w44 ⟨rfl, hb45⟩
        replace Nx : Hid (NF w w44 ⟨xk, xt, xn, .slice xa xL xc, xkids⟩ [w26.heap.size, w17.heap.size]) := Nx.out.go (grown_low hb45) FR.out.low
        replace Ny : Hid (NF w w44 ⟨yk, yt, yn, .slice ya yL yc, ykids⟩ [w26.heap.size, w17.heap.size]) := Ny.out.go (grown_low hb45) FR.out.low
        replace Nz : Hid (NF w w44 ⟨27, [], 0, .slice (some ⟨w32.heap.size, 0, none⟩) 2 2, [N1.tr ⟨xk, xt, xn, .slice xa xL xc, xkids⟩, N1.tr ⟨yk, yt, yn, .slice ya yL yc, ykids⟩]⟩ [w26.heap.size, w17.heap.size]) := Nz.out.go (grown_low hb45) FR.out.low
        replace By : Hid (BX w w44 (w26.heap.size) ⟨yk, yt, yn, .slice ya yL yc, ykids⟩) := By.out.go (grown_low hb45) FR.out.low
        replace Bx : Hid (BX w w44 (w17.heap.size) ⟨xk, xt, xn, .slice xa xL xc, xkids⟩) := Bx.out.go (grown_low hb45) FR.out.low
        replace FR : Hid (Frm w b w44) := FR.out.go (grown_low hb45)
        replace PA : Hid (RAt b L (Rs.endd L (sy) [93]) w44) := PA.out.below hb45
        clear HD43 hb45
        obtain ⟨p0, p1, p2, p3, pf, Z, hZ, ⟨r0, r1, r2, r3⟩, z1, z2, z3⟩ := FR.out.finR PA.out Nz.out
        have HF : Hid (w.grownBy Z (some b) ∧ REnd L .prime b s w (.returned (.agg #[.int .u8 27, .string (Ln.bs []), .int .i64 0, .slice (some ⟨w32.heap.size, 0, none⟩) 2 2])) Z) := ⟨z1, _, _, _, rfl, z2, RA.out, z3⟩
        clear z1 z2 z3 
        rw [show Ln.bs [] = (⟨#[]⟩ : ByteArray) from rfl] at p2 p3 hZ r1 HF
        go_wp2
        rw [← hZ]
        refine bodyPost_ret (v := .agg #[.int .u8 27, .string ⟨#[]⟩, .int .i64 0, .slice (some ⟨w32.heap.size, 0, none⟩) 2 2]) (by simp [results, Tryz.results119, go_sem, r0, r1, r2, r3]) rfl HF.out
    · skip
      have Sfalse : Hid (Rs.isB L (s) [102, 97, 108, 115, 101] = true) := hs6
      clear hs6
      obtain ⟨k1, k2, k3, Y9, hY9, st⟩ := radv PA.out GD.out
      replace FR : Hid (Frm w b Y9) := FR.out.go st.1
      replace PA : Hid (RAt b L (Rs.adv (s)) Y9) := st.2
      replace TK : Hid (TokAt b (A.heap.size) L s Y9) := TK.out.go st.1
      replace GD : Hid (Rs.Good L (Rs.adv (s))) := Rs.isB_good GD.out Sfalse.out (by decide)
      clear st
      go_upto_region 18 with fail
      rw [← hY9]
      clear hY9
      clear k1 k2 k3
      have Nz : Hid (NF w Y9 ⟨21, [], 0, .slice none 0 0, []⟩ []) := NF.leaf w Y9 [] 21 [] 0 (by omega) (by simp) (by omega)
      obtain ⟨p0, p1, p2, p3, pf, Z, hZ, ⟨r0, r1, r2, r3⟩, z1, z2, z3⟩ := FR.out.finR PA.out Nz.out
      have HF : Hid (w.grownBy Z (some b) ∧ REnd L .prime b s w (.returned (.agg #[.int .u8 21, .string (Ln.bs []), .int .i64 0, .slice none 0 0])) Z) := ⟨z1, _, _, _, rfl, z2, Rs.rel_false G0.out EL.out Sfalse.out, z3⟩
      clear z1 z2 z3 
      rw [show Ln.bs [] = (⟨#[]⟩ : ByteArray) from rfl] at p2 p3 hZ r1 HF
      go_wp2
      rw [← hZ]
      refine bodyPost_ret (v := .agg #[.int .u8 21, .string ⟨#[]⟩, .int .i64 0, .slice none 0 0]) (by simp [results, Tryz.results119, go_sem, r0, r1, r2, r3]) rfl HF.out
  · skip
    have Strue : Hid (Rs.isB L (s) [116, 114, 117, 101] = true) := hs2
    clear hs2
    obtain ⟨k1, k2, k3, Y5, hY5, st⟩ := radv PA.out GD.out
    replace FR : Hid (Frm w b Y5) := FR.out.go st.1
    replace PA : Hid (RAt b L (Rs.adv (s)) Y5) := st.2
    replace TK : Hid (TokAt b (A.heap.size) L s Y5) := TK.out.go st.1
    replace GD : Hid (Rs.Good L (Rs.adv (s))) := Rs.isB_good GD.out Strue.out (by decide)
    clear st
    go_upto_region 15 with fail
    rw [← hY5]
    clear hY5
    clear k1 k2 k3
    have Nz : Hid (NF w Y5 ⟨21, [], 1, .slice none 0 0, []⟩ []) := NF.leaf w Y5 [] 21 [] 1 (by omega) (by simp) (by omega)
    obtain ⟨p0, p1, p2, p3, pf, Z, hZ, ⟨r0, r1, r2, r3⟩, z1, z2, z3⟩ := FR.out.finR PA.out Nz.out
    have HF : Hid (w.grownBy Z (some b) ∧ REnd L .prime b s w (.returned (.agg #[.int .u8 21, .string (Ln.bs []), .int .i64 1, .slice none 0 0])) Z) := ⟨z1, _, _, _, rfl, z2, Rs.rel_true G0.out EL.out Strue.out, z3⟩
    clear z1 z2 z3 
    rw [show Ln.bs [] = (⟨#[]⟩ : ByteArray) from rfl] at p2 p3 hZ r1 HF
    go_wp2
    rw [← hZ]
    refine bodyPost_ret (v := .agg #[.int .u8 21, .string ⟨#[]⟩, .int .i64 1, .slice none 0 0]) (by simp [results, Tryz.results119, go_sem, r0, r1, r2, r3]) rfl HF.out
end Go.Proofs.YtfegodofbdlbeaaGreatDoor
