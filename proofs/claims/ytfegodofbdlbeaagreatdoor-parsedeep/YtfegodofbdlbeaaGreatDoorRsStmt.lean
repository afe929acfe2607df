/-
  The walk of the reader's statement.
-/
import Derived.Test.YtfegodofbdlbeaaGreatDoorRsSimple
namespace Go.Proofs.YtfegodofbdlbeaaGreatDoor
open Go.RowKit Go.Shelf
open Rs (St)

attribute [local go_sem] Oper.semAt_some

namespace Rs
theorem kindS_sh {L : List Lx.Tok} {s : St} {q : Nat} (h : Good L s) : Sh L s (kindS L s q) 1 := fun h0 => by
  by_cases he : s.E = 0
  · by_cases hk : (Ps.hd (rest L s)).kind = q
    · have e1 : kindS L s q = adv s := by unfold kindS; rw [if_pos he, if_pos hk]
      rw [e1] at h0 ⊢
      exact adv_sh h h0
    · have e1 : kindS L s q = fail L s 102 := by unfold kindS; rw [if_pos he, if_neg hk]
      rw [e1, (fail_live he).1] at h0
      exact absurd h0 (by decide)
  · exact absurd h0 (kindS_kept.dead he)
end Rs
/-- A node in its box, whose row is set. -/
theorem BX.kids {w W : World} {b q : Nat} {L : List Lx.Tok} {s : St} {k : Int} {tx : List UInt8} {n : Int} {v v0 : Value} {kids k0 : List Tr} {X : List Nat} (hB : BX w W q ⟨k, tx, n, v0, k0⟩) (hF : Frm w b W) (hP : RAt b L s W) (hx : NF w W ⟨k, tx, n, v, kids⟩ X) (hq : q ∈ X) :
    W.cell? ⟨q, 3, none⟩ = some v0 ∧ (∀ j, W.frozen? ⟨q, j, none⟩ = false) ∧ ∃ Z, Z = W.setCell ⟨q, 3, none⟩ v ∧ W.grownBy Z (some q) ∧ Frm w b Z ∧ RAt b L s Z ∧ BX w Z q ⟨k, tx, n, v, kids⟩ ∧ NF w Z ⟨k, tx, n, v, kids⟩ X := by
  obtain ⟨hlt, hb⟩ := hB
  refine ⟨cells_at hb rfl, fun j => frozen_of_row W q j _ _ hb, _, rfl, grown_set W q 3 _, ?_⟩
  have gz := grown_set W q 3 v
  refine ⟨⟨hF.low, grown_new hF.grown gz (by omega), (gz.block _ hF.lt (by simp; omega)).trans hF.box⟩, hP.beside gz hb, ⟨hlt, heap_setCell_same W _ 3 _ _ _ hb⟩, hx.set gz hq⟩

set_option maxRecDepth 100000 in
set_option maxHeartbeats 8000000 in
theorem rstatement_of (m : Nat) (hor : RDo 90 (.bin 0) [] m) (hbl : RDo 42 .block [] m) (hca : ∀ q, q.length ≤ 1000000 → RDo 93 (.call q) [.string (Ln.bs q)] m) : RDo 69 .stmt [] m := by
  intro b L s w hK hG hR hm
  obtain ⟨A, hA⟩ : ∃ A, A = w.alloc (.cells #[.int .u8 0, .string ⟨#[]⟩, .int .i64 0, .slice none 0 0] 26) := ⟨_, rfl⟩
  have FR : Hid (Frm w b A) := hA ▸ RFrm.new hR
  have PA : Hid (RAt b L (s) A) := hA ▸ hR.below (below_new w _)
  have KN : Hid (Known L) := hK
  have GD : Hid (Rs.Good L (s)) := hG
  have G0 : Hid (Rs.Good L s) := hG
  have HM : Hid (s.E = 0 → (Rs.rest L s).length ≤ m) := hm
  have Hhor : Hid (RDo 90 (.bin 0) [] m) := hor
  have Hhbl : Hid (RDo 42 .block [] m) := hbl
  have Hhca : Hid (∀ q, q.length ≤ 1000000 → RDo 93 (.call q) [.string (Ln.bs q)] m) := hca
  clear hR hK hG hm hor hbl hca
  go_enter Tryz.func69, Tryz.ntmps69
  have HM0 : Hid (∀ q, Rs.Sh L s q 0 → q.E = 0 → (Rs.rest L q).length ≤ m) := fun q hq h0 => by have h1 := hq h0; have h2 := HM.out h1.1; omega
  go_wp2_with fail
  rw [← hA]
  clear hA
  have HI1 : Hid (_) := ris_any b L (s) [118, 97, 114] A PA.out GD.out KN.out (by decide)
  refine Calls.mono HI1.out ?_
  rintro e w3 ⟨rfl, hb4⟩
  replace FR : Hid (Frm w b w3) := FR.out.go (grown_low hb4)
  replace PA : Hid (RAt b L (s) w3) := PA.out.below hb4
  clear HI1 hb4
  cases hs2 : Rs.isB L (s) [118, 97, 114]
  · skip
    have Svar : Hid (Rs.isB L (s) [118, 97, 114] = false) := hs2
    clear hs2
    go_wp2_with fail
    have HI5 : Hid (_) := ris_any b L (s) [105, 102] w3 PA.out GD.out KN.out (by decide)
    refine Calls.mono HI5.out ?_
    rintro e w7 ⟨rfl, hb8⟩
    replace FR : Hid (Frm w b w7) := FR.out.go (grown_low hb8)
    replace PA : Hid (RAt b L (s) w7) := PA.out.below hb8
    clear HI5 hb8
    cases hs6 : Rs.isB L (s) [105, 102]
    · skip
      have Sif : Hid (Rs.isB L (s) [105, 102] = false) := hs6
      clear hs6
      go_wp2_with fail
      have HI9 : Hid (_) := ris_any b L (s) [119, 104, 105, 108, 101] w7 PA.out GD.out KN.out (by decide)
      refine Calls.mono HI9.out ?_
      rintro e w11 ⟨rfl, hb12⟩
      replace FR : Hid (Frm w b w11) := FR.out.go (grown_low hb12)
      replace PA : Hid (RAt b L (s) w11) := PA.out.below hb12
      clear HI9 hb12
      cases hs10 : Rs.isB L (s) [119, 104, 105, 108, 101]
      · skip
        have Swhile : Hid (Rs.isB L (s) [119, 104, 105, 108, 101] = false) := hs10
        clear hs10
        go_wp2_with fail
        have HI13 : Hid (_) := ris_any b L (s) [114, 101, 116, 117, 114, 110] w11 PA.out GD.out KN.out (by decide)
        refine Calls.mono HI13.out ?_
        rintro e w15 ⟨rfl, hb16⟩
        replace FR : Hid (Frm w b w15) := FR.out.go (grown_low hb16)
        replace PA : Hid (RAt b L (s) w15) := PA.out.below hb16
        clear HI13 hb16
        cases hs14 : Rs.isB L (s) [114, 101, 116, 117, 114, 110]
        · skip
          have Sreturn : Hid (Rs.isB L (s) [114, 101, 116, 117, 114, 110] = false) := hs14
          clear hs14
          go_wp2_with fail
          have HI17 : Hid (_) := ris_any b L (s) [112, 114, 105, 110, 116] w15 PA.out GD.out KN.out (by decide)
          refine Calls.mono HI17.out ?_
          rintro e w19 ⟨rfl, hb20⟩
          replace FR : Hid (Frm w b w19) := FR.out.go (grown_low hb20)
          replace PA : Hid (RAt b L (s) w19) := PA.out.below hb20
          clear HI17 hb20
          cases hs18 : Rs.isB L (s) [112, 114, 105, 110, 116]
          · skip
            have Sprint : Hid (Rs.isB L (s) [112, 114, 105, 110, 116] = false) := hs18
            clear hs18
            go_wp2_with fail
            have HI21 : Hid (_) := ris_any b L (s) [123] w19 PA.out GD.out KN.out (by decide)
            refine Calls.mono HI21.out ?_
            rintro e w23 ⟨rfl, hb24⟩
            replace FR : Hid (Frm w b w23) := FR.out.go (grown_low hb24)
            replace PA : Hid (RAt b L (s) w23) := PA.out.below hb24
            clear HI21 hb24
            cases hs22 : Rs.isB L (s) [123]
            · skip
              have SB : Hid (Rs.isB L (s) [123] = false) := hs22
              clear hs22
              have TT : Hid (_) := Rs.stmt_named G0.out Svar.out Sif.out Swhile.out Sreturn.out Sprint.out SB.out
              have SH : Hid (Rs.Sh L s s 0) := Rs.Sh.refl s
              go_wp2_with fail
              have HTL : Hid ((Rs.kindT L (s) 1).length ≤ 1000000) := kindT_len GD.out KN.out
              have HN25 : Hid (_) := rnamed_any 22 b L (s) w23 PA.out GD.out KN.out (by omega)
              refine Calls.mono HN25.out ?_
              rintro e w26 ⟨rfl, hst27⟩
              replace SH : Hid (Rs.Sh L s (Rs.kindS L (s) 1) 0) := (SH.out.trans (Rs.kindS_sh GD.out)).less (by omega)
              replace TT : Hid (_) := TT.out.name
              replace FR : Hid (Frm w b w26) := FR.out.go hst27.1
              replace PA : Hid (RAt b L (Rs.kindS L (s) 1) w26) := hst27.2
              clear HN25 hst27
              replace GD : Hid (Rs.Good L (Rs.kindS L (s) 1)) := TT.out.good
              obtain ⟨tx, htx⟩ : ∃ t, t = Rs.kindT L (s) 1 := ⟨_, rfl⟩
              rw [← htx] at HTL TT ⊢
              clear htx
              obtain ⟨u, hu⟩ : ∃ u, u = Rs.kindS L (s) 1 := ⟨_, rfl⟩
              rw [← hu] at PA GD SH TT
              clear hu
              have Nn : Hid (NF w w26 ⟨22, tx, 0, .slice none 0 0, []⟩ []) := NF.leaf w w26 [] 22 tx 0 (by omega) (HTL.out) (by omega)
              obtain ⟨Y28, hY28⟩ : ∃ V, V = w26.alloc (.cells #[.int .u8 22, .string (Ln.bs tx), .int .i64 0, .slice none 0 0] 26) := ⟨_, rfl⟩
              have bY28 : Below w26.heap.size w26 Y28 := hY28 ▸ below_new w26 _
              have nb : BX w Y28 (w26.heap.size) ⟨22, tx, 0, .slice none 0 0, []⟩ := by rw [hY28]; exact BX.new FR.out ⟨22, tx, 0, .slice none 0 0, []⟩
              replace Nn : Hid (NF w w26 ⟨22, tx, 0, .slice none 0 0, []⟩ [w26.heap.size]) := Nn.out.ex (Nat.le_refl _)
              replace Nn : Hid (NF w Y28 ⟨22, tx, 0, .slice none 0 0, []⟩ [w26.heap.size]) := Nn.out.go (grown_low bY28) FR.out.low
              replace FR : Hid (Frm w b Y28) := FR.out.go (grown_low bY28)
              replace PA : Hid (RAt b L (u) Y28) := PA.out.below bY28
              have Bn : Hid (BX w Y28 (w26.heap.size) ⟨22, tx, 0, .slice none 0 0, []⟩) := nb
              clear nb bY28
              go_wp2_with fail
              rw [← hY28]
              clear hY28
              have HI29 : Hid (_) := ris_any b L (u) [40] Y28 PA.out GD.out KN.out (by decide)
              refine Calls.mono HI29.out ?_
              rintro e w31 ⟨rfl, hb32⟩
              replace Nn : Hid (NF w w31 ⟨22, tx, 0, .slice none 0 0, []⟩ [w26.heap.size]) := Nn.out.go (grown_low hb32) FR.out.low
              replace Bn : Hid (BX w w31 (w26.heap.size) ⟨22, tx, 0, .slice none 0 0, []⟩) := Bn.out.go (grown_low hb32) FR.out.low
              replace FR : Hid (Frm w b w31) := FR.out.go (grown_low hb32)
              replace PA : Hid (RAt b L (u) w31) := PA.out.below hb32
              clear HI29 hb32
              cases hs30 : Rs.isB L (u) [40]
              · skip
                replace TT : Hid (_) := TT.out.no hs30
                clear hs30
                go_wp2_with fail
                have HI33 : Hid (_) := ris_any b L (u) [91] w31 PA.out GD.out KN.out (by decide)
                refine Calls.mono HI33.out ?_
                rintro e w35 ⟨rfl, hb36⟩
                replace Nn : Hid (NF w w35 ⟨22, tx, 0, .slice none 0 0, []⟩ [w26.heap.size]) := Nn.out.go (grown_low hb36) FR.out.low
                replace Bn : Hid (BX w w35 (w26.heap.size) ⟨22, tx, 0, .slice none 0 0, []⟩) := Bn.out.go (grown_low hb36) FR.out.low
                replace FR : Hid (Frm w b w35) := FR.out.go (grown_low hb36)
                replace PA : Hid (RAt b L (u) w35) := PA.out.below hb36
                clear HI33 hb36
                cases hs34 : Rs.isB L (u) [91]
                · skip
                  replace TT : Hid (_) := TT.out.no hs34
                  clear hs34
                  have GO : Hid (Rs.Good L (u)) := GD.out
                  go_wp2_with fail
                  have HW37 : Hid (_) := rwant_any b L (u) [61] w35 PA.out GD.out KN.out (by decide)
                  refine Calls.mono HW37.out ?_
                  rintro e w38 ⟨rfl, hst39⟩
                  replace Nn : Hid (NF w w38 ⟨22, tx, 0, .slice none 0 0, []⟩ [w26.heap.size]) := Nn.out.go hst39.1 FR.out.low
                  replace Bn : Hid (BX w w38 (w26.heap.size) ⟨22, tx, 0, .slice none 0 0, []⟩) := Bn.out.go hst39.1 FR.out.low
                  replace FR : Hid (Frm w b w38) := FR.out.go hst39.1
                  replace PA : Hid (RAt b L (Rs.want L (u) [61]) w38) := hst39.2
                  clear HW37 hst39
                  replace GD : Hid (Rs.Good L (Rs.want L (u) [61])) := Rs.want_good GD.out (by decide)
                  replace TT : Hid (_) := TT.out.want (t := [61]) (by decide)
                  replace SH : Hid (Rs.Sh L s (Rs.want L (u) [61]) 0) := (SH.out.trans (Rs.want_sh GO.out)).less (by omega)
                  clear GO
                  try clear p0 p1 p2 p3 pf
                  go_wp2_with fail
                  have HC40 : Hid (_) := Hhor.out b L (Rs.want L (u) [61]) w38 KN.out GD.out PA.out (HM0.out _ SH.out)
                  refine Calls.mono HC40.out ?_
                  rintro e w41 ⟨hg42, te, ve, se, rfl, ra43, rele, nd44⟩
                  have hX : ∀ q ∈ ([w26.heap.size] : List Nat), q < w38.heap.size := by
                    intro q hq
                    simp only [List.mem_cons, List.not_mem_nil, or_false] at hq
                    subst hq
                    exact Bn.out.lt
                  obtain ⟨ek, et, en, ea, eL, ec, ekids, rfl, rfl, nf⟩ := NF.of_end (X := [w26.heap.size]) nd44 FR.out hX
                  replace Nn : Hid (NF w w41 ⟨22, tx, 0, .slice none 0 0, []⟩ [w26.heap.size]) := Nn.out.go hg42 FR.out.low
                  replace Bn : Hid (BX w w41 (w26.heap.size) ⟨22, tx, 0, .slice none 0 0, []⟩) := Bn.out.go hg42 FR.out.low
                  replace FR : Hid (Frm w b w41) := FR.out.go hg42
                  replace PA : Hid (RAt b L (se) w41) := ra43
                  have Ne : Hid (NF w w41 ⟨ek, et, en, .slice ea eL ec, ekids⟩ [w26.heap.size]) := nf
                  have RELe : Hid (Rs.Rel L (.bin 0) (Rs.want L (u) [61]) (.mk ek et en ekids) se) := rele
                  replace GD : Hid (Rs.Good L (se)) := rele.good
                  clear nf HC40 hg42 ra43 rele nd44 hX
                  replace TT : Hid (_) := TT.out.bnd RELe.out
                  replace SH : Hid (Rs.Sh L s (se) 0) := (SH.out.trans (Rs.rel_sh (J := .bin 0) trivial RELe.out)).less (by omega)
                  have ltne : w26.heap.size < w41.heap.size := by have := Bn.out.lt; omega
                  obtain ⟨Y45, hY45⟩ : ∃ V, V = w41.alloc (.cells #[.int .u8 ek, .string (Ln.bs et), .int .i64 en, .slice ea eL ec] 26) := ⟨_, rfl⟩
                  have bY45 : Below w41.heap.size w41 Y45 := hY45 ▸ below_new w41 _
                  have nb : BX w Y45 (w41.heap.size) ⟨ek, et, en, .slice ea eL ec, ekids⟩ := by rw [hY45]; exact BX.new FR.out ⟨ek, et, en, .slice ea eL ec, ekids⟩
                  replace Nn : Hid (NF w w41 ⟨22, tx, 0, .slice none 0 0, []⟩ [w41.heap.size, w26.heap.size]) := Nn.out.ex (Nat.le_refl _)
                  replace Ne : Hid (NF w w41 ⟨ek, et, en, .slice ea eL ec, ekids⟩ [w41.heap.size, w26.heap.size]) := Ne.out.ex (Nat.le_refl _)
                  replace Nn : Hid (NF w Y45 ⟨22, tx, 0, .slice none 0 0, []⟩ [w41.heap.size, w26.heap.size]) := Nn.out.go (grown_low bY45) FR.out.low
                  replace Ne : Hid (NF w Y45 ⟨ek, et, en, .slice ea eL ec, ekids⟩ [w41.heap.size, w26.heap.size]) := Ne.out.go (grown_low bY45) FR.out.low
                  replace Bn : Hid (BX w Y45 (w26.heap.size) ⟨22, tx, 0, .slice none 0 0, []⟩) := Bn.out.go (grown_low bY45) FR.out.low
                  replace FR : Hid (Frm w b Y45) := FR.out.go (grown_low bY45)
                  replace PA : Hid (RAt b L (se) Y45) := PA.out.below bY45
                  have Be : Hid (BX w Y45 (w41.heap.size) ⟨ek, et, en, .slice ea eL ec, ekids⟩) := nb
                  clear nb bY45
                  have GO : Hid (Rs.Good L (se)) := GD.out
                  go_wp2_with fail
                  rw [← hY45]
                  clear hY45
                  have HW46 : Hid (_) := rwant_any b L (se) [59] Y45 PA.out GD.out KN.out (by decide)
                  refine Calls.mono HW46.out ?_
                  rintro e w47 ⟨rfl, hst48⟩
                  replace Nn : Hid (NF w w47 ⟨22, tx, 0, .slice none 0 0, []⟩ [w41.heap.size, w26.heap.size]) := Nn.out.go hst48.1 FR.out.low
                  replace Ne : Hid (NF w w47 ⟨ek, et, en, .slice ea eL ec, ekids⟩ [w41.heap.size, w26.heap.size]) := Ne.out.go hst48.1 FR.out.low
                  replace Be : Hid (BX w w47 (w41.heap.size) ⟨ek, et, en, .slice ea eL ec, ekids⟩) := Be.out.go hst48.1 FR.out.low
                  replace Bn : Hid (BX w w47 (w26.heap.size) ⟨22, tx, 0, .slice none 0 0, []⟩) := Bn.out.go hst48.1 FR.out.low
                  replace FR : Hid (Frm w b w47) := FR.out.go hst48.1
                  replace PA : Hid (RAt b L (Rs.want L (se) [59]) w47) := hst48.2
                  clear HW46 hst48
                  replace GD : Hid (Rs.Good L (Rs.want L (se) [59])) := Rs.want_good GD.out (by decide)
                  replace TT : Hid (_) := TT.out.want (t := [59]) (by decide)
                  replace SH : Hid (Rs.Sh L s (Rs.want L (se) [59]) 0) := (SH.out.trans (Rs.want_sh GO.out)).less (by omega)
                  clear GO
                  obtain ⟨f49, f50, f51, f52⟩ := Bn.out.cs
                  obtain ⟨f53, f54, f55, f56⟩ := Be.out.cs
                  obtain ⟨R57, hR57⟩ : ∃ V, V = w47.alloc (.cells #[.int .u8 22, .string (Ln.bs tx), .int .i64 0, .slice none 0 0, .int .u8 ek, .string (Ln.bs et), .int .i64 en, .slice ea eL ec] 26) := ⟨_, rfl⟩
                  have bR57 : Below w47.heap.size w47 R57 := hR57 ▸ below_new w47 _
                  have hX : ∀ q ∈ ([w41.heap.size, w26.heap.size] : List Nat), q < w47.heap.size := by
                    intro q hq
                    simp only [List.mem_cons, List.not_mem_nil, or_false] at hq
                    rcases hq with rfl | rfl
                    · exact Be.out.lt
                    · exact Bn.out.lt
                  have nk : NF w R57 ⟨7, [], 0, .slice (some ⟨w47.heap.size, 0, none⟩) 2 2, [N1.tr ⟨22, tx, 0, .slice none 0 0, []⟩, N1.tr ⟨ek, et, en, .slice ea eL ec, ekids⟩]⟩ [w41.heap.size, w26.heap.size] := by
                    rw [hR57]
                    refine NF.kids FR.out [⟨22, tx, 0, .slice none 0 0, []⟩, ⟨ek, et, en, .slice ea eL ec, ekids⟩] (fun z hz => ?_) hX (by simp) 7 [] 0 (by omega) (by simp) (by omega)
                    simp only [List.mem_cons, List.not_mem_nil, or_false] at hz
                    rcases hz with rfl | rfl
                    · exact Nn.out
                    · exact Ne.out
                  replace Nn : Hid (NF w R57 ⟨22, tx, 0, .slice none 0 0, []⟩ [w41.heap.size, w26.heap.size]) := Nn.out.go (grown_low bR57) FR.out.low
                  replace Ne : Hid (NF w R57 ⟨ek, et, en, .slice ea eL ec, ekids⟩ [w41.heap.size, w26.heap.size]) := Ne.out.go (grown_low bR57) FR.out.low
                  replace Be : Hid (BX w R57 (w41.heap.size) ⟨ek, et, en, .slice ea eL ec, ekids⟩) := Be.out.go (grown_low bR57) FR.out.low
                  replace Bn : Hid (BX w R57 (w26.heap.size) ⟨22, tx, 0, .slice none 0 0, []⟩) := Bn.out.go (grown_low bR57) FR.out.low
                  replace FR : Hid (Frm w b R57) := FR.out.go (grown_low bR57)
                  replace PA : Hid (RAt b L (Rs.want L (se) [59]) R57) := PA.out.below bR57
                  have Nz : Hid (NF w R57 ⟨7, [], 0, .slice (some ⟨w47.heap.size, 0, none⟩) 2 2, [N1.tr ⟨22, tx, 0, .slice none 0 0, []⟩, N1.tr ⟨ek, et, en, .slice ea eL ec, ekids⟩]⟩ [w41.heap.size, w26.heap.size]) := nk
                  clear nk hX bR57
                  go_wp2_with fail
                  rw [← hR57]
                  clear hR57
                  have HD58 : Hid (_) := rof_any 7 (some ⟨w47.heap.size, 0, none⟩) 2 2 R57
                  refine Calls.mono HD58.out ?_
                  rintro e w59 ⟨rfl, hb60⟩
                  replace Nn : Hid (NF w w59 ⟨22, tx, 0, .slice none 0 0, []⟩ [w41.heap.size, w26.heap.size]) := Nn.out.go (grown_low hb60) FR.out.low
                  replace Ne : Hid (NF w w59 ⟨ek, et, en, .slice ea eL ec, ekids⟩ [w41.heap.size, w26.heap.size]) := Ne.out.go (grown_low hb60) FR.out.low
                  replace Nz : Hid (NF w w59 ⟨7, [], 0, .slice (some ⟨w47.heap.size, 0, none⟩) 2 2, [N1.tr ⟨22, tx, 0, .slice none 0 0, []⟩, N1.tr ⟨ek, et, en, .slice ea eL ec, ekids⟩]⟩ [w41.heap.size, w26.heap.size]) := Nz.out.go (grown_low hb60) FR.out.low
                  replace Be : Hid (BX w w59 (w41.heap.size) ⟨ek, et, en, .slice ea eL ec, ekids⟩) := Be.out.go (grown_low hb60) FR.out.low
                  replace Bn : Hid (BX w w59 (w26.heap.size) ⟨22, tx, 0, .slice none 0 0, []⟩) := Bn.out.go (grown_low hb60) FR.out.low
                  replace FR : Hid (Frm w b w59) := FR.out.go (grown_low hb60)
                  replace PA : Hid (RAt b L (Rs.want L (se) [59]) w59) := PA.out.below hb60
                  clear HD58 hb60
                  obtain ⟨p0, p1, p2, p3, pf, Z, hZ, ⟨r0, r1, r2, r3⟩, z1, z2, z3⟩ := FR.out.finR PA.out Nz.out
                  have HF : Hid (w.grownBy Z (some b) ∧ REnd L .stmt b s w (.returned (.agg #[.int .u8 7, .string (Ln.bs []), .int .i64 0, .slice (some ⟨w47.heap.size, 0, none⟩) 2 2])) Z) := ⟨z1, _, _, _, rfl, z2, TT.out.done, z3⟩
                  clear z1 z2 z3 
                  rw [show Ln.bs [] = (⟨#[]⟩ : ByteArray) from rfl] at p2 p3 hZ r1 HF
                  go_wp2
                  rw [← hZ]
                  refine bodyPost_ret (v := .agg #[.int .u8 7, .string ⟨#[]⟩, .int .i64 0, .slice (some ⟨w47.heap.size, 0, none⟩) 2 2]) (by simp [results, Tryz.results69, go_sem, r0, r1, r2, r3]) rfl HF.out
                · skip
                  replace TT : Hid (_) := TT.out.yes hs34
                  clear hs34
                  have GU : Hid (Rs.Good L u) := GD.out
                  go_wp2_with fail
                  have HW37 : Hid (_) := rbegin_any b L (u) [91] w35 PA.out GD.out KN.out (by decide)
                  refine Calls.mono HW37.out ?_
                  rintro e w38 ⟨rfl, hst39⟩
                  replace Nn : Hid (NF w w38 ⟨22, tx, 0, .slice none 0 0, []⟩ [w26.heap.size]) := Nn.out.go hst39.1 FR.out.low
                  replace Bn : Hid (BX w w38 (w26.heap.size) ⟨22, tx, 0, .slice none 0 0, []⟩) := Bn.out.go hst39.1 FR.out.low
                  replace FR : Hid (Frm w b w38) := FR.out.go hst39.1
                  replace PA : Hid (RAt b L (Rs.begin L (u) [91]) w38) := hst39.2
                  clear HW37 hst39
                  replace GD : Hid (Rs.Good L (Rs.begin L (u) [91])) := Rs.begin_good GD.out (by decide)
                  have SHB : Hid (Rs.Sh L s (Rs.begin L (u) [91]) 0) := (SH.out.trans (Rs.begin_sh GU.out)).less (by omega)
                  go_wp2_with fail
                  have HC40 : Hid (_) := Hhor.out b L (Rs.begin L (u) [91]) w38 KN.out GD.out PA.out (HM0.out _ SHB.out)
                  refine Calls.mono HC40.out ?_
                  rintro e w41 ⟨hg42, tx, vx, sx, rfl, ra43, relx, nd44⟩
                  have hX : ∀ q ∈ ([w26.heap.size] : List Nat), q < w38.heap.size := by
                    intro q hq
                    simp only [List.mem_cons, List.not_mem_nil, or_false] at hq
                    subst hq
                    exact Bn.out.lt
                  obtain ⟨xk, xt, xn, xa, xL, xc, xkids, rfl, rfl, nf⟩ := NF.of_end (X := [w26.heap.size]) nd44 FR.out hX
                  replace Nn : Hid (NF w w41 ⟨22, tx, 0, .slice none 0 0, []⟩ [w26.heap.size]) := Nn.out.go hg42 FR.out.low
                  replace Bn : Hid (BX w w41 (w26.heap.size) ⟨22, tx, 0, .slice none 0 0, []⟩) := Bn.out.go hg42 FR.out.low
                  replace FR : Hid (Frm w b w41) := FR.out.go hg42
                  replace PA : Hid (RAt b L (sx) w41) := ra43
                  have Nx : Hid (NF w w41 ⟨xk, xt, xn, .slice xa xL xc, xkids⟩ [w26.heap.size]) := nf
                  have RELx : Hid (Rs.Rel L (.bin 0) (Rs.begin L (u) [91]) (.mk xk xt xn xkids) sx) := relx
                  replace GD : Hid (Rs.Good L (sx)) := relx.good
                  clear nf HC40 hg42 ra43 relx nd44 hX
                  have ltnx : w26.heap.size < w41.heap.size := by have := Bn.out.lt; omega
                  obtain ⟨Y45, hY45⟩ : ∃ V, V = w41.alloc (.cells #[.int .u8 xk, .string (Ln.bs xt), .int .i64 xn, .slice xa xL xc] 26) := ⟨_, rfl⟩
                  have bY45 : Below w41.heap.size w41 Y45 := hY45 ▸ below_new w41 _
                  have nb : BX w Y45 (w41.heap.size) ⟨xk, xt, xn, .slice xa xL xc, xkids⟩ := by rw [hY45]; exact BX.new FR.out ⟨xk, xt, xn, .slice xa xL xc, xkids⟩
                  replace Nn : Hid (NF w w41 ⟨22, tx, 0, .slice none 0 0, []⟩ [w41.heap.size, w26.heap.size]) := Nn.out.ex (Nat.le_refl _)
                  replace Nx : Hid (NF w w41 ⟨xk, xt, xn, .slice xa xL xc, xkids⟩ [w41.heap.size, w26.heap.size]) := Nx.out.ex (Nat.le_refl _)
                  replace Nn : Hid (NF w Y45 ⟨22, tx, 0, .slice none 0 0, []⟩ [w41.heap.size, w26.heap.size]) := Nn.out.go (grown_low bY45) FR.out.low
                  replace Nx : Hid (NF w Y45 ⟨xk, xt, xn, .slice xa xL xc, xkids⟩ [w41.heap.size, w26.heap.size]) := Nx.out.go (grown_low bY45) FR.out.low
                  replace Bn : Hid (BX w Y45 (w26.heap.size) ⟨22, tx, 0, .slice none 0 0, []⟩) := Bn.out.go (grown_low bY45) FR.out.low
                  replace FR : Hid (Frm w b Y45) := FR.out.go (grown_low bY45)
                  replace PA : Hid (RAt b L (sx) Y45) := PA.out.below bY45
                  have Bx : Hid (BX w Y45 (w41.heap.size) ⟨xk, xt, xn, .slice xa xL xc, xkids⟩) := nb
                  clear nb bY45
                  have RW : Hid (_) := Rs.rel_within GU.out (b := [93]) (by decide) RELx.out
                  replace TT : Hid (_) := TT.out.bnd RW.out
                  replace SH : Hid (Rs.Sh L s (Rs.endd L sx [93]) 0) := (SH.out.trans (Rs.rel_sh (J := .within [91] [93]) ⟨by decide, by decide⟩ RW.out)).less (by omega)
                  go_wp2_with fail
                  rw [← hY45]
                  clear hY45
                  have HW46 : Hid (_) := rend_any b L (sx) [93] Y45 PA.out GD.out KN.out (by decide) (by decide)
                  refine Calls.mono HW46.out ?_
                  rintro e w47 ⟨rfl, hst48⟩
                  replace Nn : Hid (NF w w47 ⟨22, tx, 0, .slice none 0 0, []⟩ [w41.heap.size, w26.heap.size]) := Nn.out.go hst48.1 FR.out.low
                  replace Nx : Hid (NF w w47 ⟨xk, xt, xn, .slice xa xL xc, xkids⟩ [w41.heap.size, w26.heap.size]) := Nx.out.go hst48.1 FR.out.low
                  replace Bx : Hid (BX w w47 (w41.heap.size) ⟨xk, xt, xn, .slice xa xL xc, xkids⟩) := Bx.out.go hst48.1 FR.out.low
                  replace Bn : Hid (BX w w47 (w26.heap.size) ⟨22, tx, 0, .slice none 0 0, []⟩) := Bn.out.go hst48.1 FR.out.low
                  replace FR : Hid (Frm w b w47) := FR.out.go hst48.1
                  replace PA : Hid (RAt b L (Rs.endd L (sx) [93]) w47) := hst48.2
                  clear HW46 hst48
                  replace GD : Hid (Rs.Good L (Rs.endd L (sx) [93])) := RW.out.good
                  obtain ⟨f49, f50, f51, f52⟩ := Bn.out.cs
                  obtain ⟨f53, f54, f55, f56⟩ := Bx.out.cs
                  obtain ⟨R57, hR57⟩ : ∃ V, V = w47.alloc (.cells #[.int .u8 22, .string (Ln.bs tx), .int .i64 0, .slice none 0 0, .int .u8 xk, .string (Ln.bs xt), .int .i64 xn, .slice xa xL xc] 26) := ⟨_, rfl⟩
                  have bR57 : Below w47.heap.size w47 R57 := hR57 ▸ below_new w47 _
                  have hX : ∀ q ∈ ([w41.heap.size, w26.heap.size] : List Nat), q < w47.heap.size := by
                    intro q hq
                    simp only [List.mem_cons, List.not_mem_nil, or_false] at hq
                    rcases hq with rfl | rfl
                    · exact Bx.out.lt
                    · exact Bn.out.lt
                  have nk : NF w R57 ⟨26, [], 0, .slice (some ⟨w47.heap.size, 0, none⟩) 2 2, [N1.tr ⟨22, tx, 0, .slice none 0 0, []⟩, N1.tr ⟨xk, xt, xn, .slice xa xL xc, xkids⟩]⟩ [w41.heap.size, w26.heap.size] := by
                    rw [hR57]
                    refine NF.kids FR.out [⟨22, tx, 0, .slice none 0 0, []⟩, ⟨xk, xt, xn, .slice xa xL xc, xkids⟩] (fun z hz => ?_) hX (by simp) 26 [] 0 (by omega) (by simp) (by omega)
                    simp only [List.mem_cons, List.not_mem_nil, or_false] at hz
                    rcases hz with rfl | rfl
                    · exact Nn.out
                    · exact Nx.out
                  replace Nn : Hid (NF w R57 ⟨22, tx, 0, .slice none 0 0, []⟩ [w41.heap.size, w26.heap.size]) := Nn.out.go (grown_low bR57) FR.out.low
                  replace Nx : Hid (NF w R57 ⟨xk, xt, xn, .slice xa xL xc, xkids⟩ [w41.heap.size, w26.heap.size]) := Nx.out.go (grown_low bR57) FR.out.low
                  replace Bx : Hid (BX w R57 (w41.heap.size) ⟨xk, xt, xn, .slice xa xL xc, xkids⟩) := Bx.out.go (grown_low bR57) FR.out.low
                  replace Bn : Hid (BX w R57 (w26.heap.size) ⟨22, tx, 0, .slice none 0 0, []⟩) := Bn.out.go (grown_low bR57) FR.out.low
                  replace FR : Hid (Frm w b R57) := FR.out.go (grown_low bR57)
                  replace PA : Hid (RAt b L (Rs.endd L (sx) [93]) R57) := PA.out.below bR57
                  have Nz : Hid (NF w R57 ⟨26, [], 0, .slice (some ⟨w47.heap.size, 0, none⟩) 2 2, [N1.tr ⟨22, tx, 0, .slice none 0 0, []⟩, N1.tr ⟨xk, xt, xn, .slice xa xL xc, xkids⟩]⟩ [w41.heap.size, w26.heap.size]) := nk
                  clear nk hX bR57
                  go_wp2_with fail
                  rw [← hR57]
                  clear hR57
                  have HD58 : Hid (_) := rof_any 26 (some ⟨w47.heap.size, 0, none⟩) 2 2 R57
                  refine Calls.mono HD58.out ?_
                  rintro e w59 ⟨rfl, hb60⟩
                  replace Nn : Hid (NF w w59 ⟨22, tx, 0, .slice none 0 0, []⟩ [w41.heap.size, w26.heap.size]) := Nn.out.go (grown_low hb60) FR.out.low
                  replace Nx : Hid (NF w w59 ⟨xk, xt, xn, .slice xa xL xc, xkids⟩ [w41.heap.size, w26.heap.size]) := Nx.out.go (grown_low hb60) FR.out.low
                  replace Nz : Hid (NF w w59 ⟨26, [], 0, .slice (some ⟨w47.heap.size, 0, none⟩) 2 2, [N1.tr ⟨22, tx, 0, .slice none 0 0, []⟩, N1.tr ⟨xk, xt, xn, .slice xa xL xc, xkids⟩]⟩ [w41.heap.size, w26.heap.size]) := Nz.out.go (grown_low hb60) FR.out.low
                  replace Bx : Hid (BX w w59 (w41.heap.size) ⟨xk, xt, xn, .slice xa xL xc, xkids⟩) := Bx.out.go (grown_low hb60) FR.out.low
                  replace Bn : Hid (BX w w59 (w26.heap.size) ⟨22, tx, 0, .slice none 0 0, []⟩) := Bn.out.go (grown_low hb60) FR.out.low
                  replace FR : Hid (Frm w b w59) := FR.out.go (grown_low hb60)
                  replace PA : Hid (RAt b L (Rs.endd L (sx) [93]) w59) := PA.out.below hb60
                  clear HD58 hb60
                  replace Nz : Hid (NF w w59 ⟨26, [], 0, .slice (some ⟨w47.heap.size, 0, none⟩) 2 2, [N1.tr ⟨22, tx, 0, .slice none 0 0, []⟩, N1.tr ⟨xk, xt, xn, .slice xa xL xc, xkids⟩]⟩ [w26.heap.size]) := NF.sub Nz.out (by simp)
                  obtain ⟨⟨c0, p0⟩, ⟨c1, p1⟩, ⟨c2, p2⟩, ⟨c3, p3⟩, pf, ZP, hZP, gz, FZ, PZ, BZ, NZ⟩ := Bn.out.putR FR.out PA.out Nz.out (by simp)
                  have HZ : Hid (_) := And.intro FZ (And.intro PZ (And.intro BZ NZ))
                  clear FZ PZ BZ NZ gz
                  rw [show Ln.bs [] = (⟨#[]⟩ : ByteArray) from rfl] at p2 p3 hZP
                  replace FR : Hid (Frm w b ZP) := HZ.out.1
                  replace PA : Hid (RAt b L (Rs.endd L (sx) [93]) ZP) := HZ.out.2.1
                  replace Bn : Hid (BX w ZP (w26.heap.size) ⟨26, [], 0, .slice (some ⟨w47.heap.size, 0, none⟩) 2 2, [N1.tr ⟨22, tx, 0, .slice none 0 0, []⟩, N1.tr ⟨xk, xt, xn, .slice xa xL xc, xkids⟩]⟩) := HZ.out.2.2.1
                  replace Nn : Hid (NF w ZP ⟨26, [], 0, .slice (some ⟨w47.heap.size, 0, none⟩) 2 2, [N1.tr ⟨22, tx, 0, .slice none 0 0, []⟩, N1.tr ⟨xk, xt, xn, .slice xa xL xc, xkids⟩]⟩ [w26.heap.size]) := HZ.out.2.2.2
                  clear HZ
                  have GO : Hid (Rs.Good L (Rs.endd L (sx) [93])) := GD.out
                  go_wp2_with fail
                  rw [← hZP]
                  clear hZP
                  have HW61 : Hid (_) := rwant_any b L (Rs.endd L (sx) [93]) [61] ZP PA.out GD.out KN.out (by decide)
                  refine Calls.mono HW61.out ?_
                  rintro e w62 ⟨rfl, hst63⟩
                  replace Nn : Hid (NF w w62 ⟨26, [], 0, .slice (some ⟨w47.heap.size, 0, none⟩) 2 2, [N1.tr ⟨22, tx, 0, .slice none 0 0, []⟩, N1.tr ⟨xk, xt, xn, .slice xa xL xc, xkids⟩]⟩ [w26.heap.size]) := Nn.out.go hst63.1 FR.out.low
                  replace Bn : Hid (BX w w62 (w26.heap.size) ⟨26, [], 0, .slice (some ⟨w47.heap.size, 0, none⟩) 2 2, [N1.tr ⟨22, tx, 0, .slice none 0 0, []⟩, N1.tr ⟨xk, xt, xn, .slice xa xL xc, xkids⟩]⟩) := Bn.out.go hst63.1 FR.out.low
                  replace FR : Hid (Frm w b w62) := FR.out.go hst63.1
                  replace PA : Hid (RAt b L (Rs.want L (Rs.endd L (sx) [93]) [61]) w62) := hst63.2
                  clear HW61 hst63
                  replace GD : Hid (Rs.Good L (Rs.want L (Rs.endd L (sx) [93]) [61])) := Rs.want_good GD.out (by decide)
                  replace TT : Hid (_) := TT.out.want (t := [61]) (by decide)
                  replace SH : Hid (Rs.Sh L s (Rs.want L (Rs.endd L (sx) [93]) [61]) 0) := (SH.out.trans (Rs.want_sh GO.out)).less (by omega)
                  clear GO
                  try clear p0 p1 p2 p3 pf
                  go_wp2_with fail
                  have HC64 : Hid (_) := Hhor.out b L (Rs.want L (Rs.endd L (sx) [93]) [61]) w62 KN.out GD.out PA.out (HM0.out _ SH.out)
                  refine Calls.mono HC64.out ?_
                  rintro e w65 ⟨hg66, te, ve, se, rfl, ra67, rele, nd68⟩
                  have hX : ∀ q ∈ ([w26.heap.size] : List Nat), q < w62.heap.size := by
                    intro q hq
                    simp only [List.mem_cons, List.not_mem_nil, or_false] at hq
                    subst hq
                    exact Bn.out.lt
                  obtain ⟨ek, et, en, ea, eL, ec, ekids, rfl, rfl, nf⟩ := NF.of_end (X := [w26.heap.size]) nd68 FR.out hX
                  replace Nn : Hid (NF w w65 ⟨26, [], 0, .slice (some ⟨w47.heap.size, 0, none⟩) 2 2, [N1.tr ⟨22, tx, 0, .slice none 0 0, []⟩, N1.tr ⟨xk, xt, xn, .slice xa xL xc, xkids⟩]⟩ [w26.heap.size]) := Nn.out.go hg66 FR.out.low
                  replace Bn : Hid (BX w w65 (w26.heap.size) ⟨26, [], 0, .slice (some ⟨w47.heap.size, 0, none⟩) 2 2, [N1.tr ⟨22, tx, 0, .slice none 0 0, []⟩, N1.tr ⟨xk, xt, xn, .slice xa xL xc, xkids⟩]⟩) := Bn.out.go hg66 FR.out.low
                  replace FR : Hid (Frm w b w65) := FR.out.go hg66
                  replace PA : Hid (RAt b L (se) w65) := ra67
                  have Ne : Hid (NF w w65 ⟨ek, et, en, .slice ea eL ec, ekids⟩ [w26.heap.size]) := nf
                  have RELe : Hid (Rs.Rel L (.bin 0) (Rs.want L (Rs.endd L (sx) [93]) [61]) (.mk ek et en ekids) se) := rele
                  replace GD : Hid (Rs.Good L (se)) := rele.good
                  clear nf HC64 hg66 ra67 rele nd68 hX
                  replace TT : Hid (_) := TT.out.bnd RELe.out
                  replace SH : Hid (Rs.Sh L s (se) 0) := (SH.out.trans (Rs.rel_sh (J := .bin 0) trivial RELe.out)).less (by omega)
                  have ltne : w26.heap.size < w65.heap.size := by have := Bn.out.lt; omega
                  obtain ⟨Y69, hY69⟩ : ∃ V, V = w65.alloc (.cells #[.int .u8 ek, .string (Ln.bs et), .int .i64 en, .slice ea eL ec] 26) := ⟨_, rfl⟩
                  have bY69 : Below w65.heap.size w65 Y69 := hY69 ▸ below_new w65 _
                  have nb : BX w Y69 (w65.heap.size) ⟨ek, et, en, .slice ea eL ec, ekids⟩ := by rw [hY69]; exact BX.new FR.out ⟨ek, et, en, .slice ea eL ec, ekids⟩
                  replace Nn : Hid (NF w w65 ⟨26, [], 0, .slice (some ⟨w47.heap.size, 0, none⟩) 2 2, [N1.tr ⟨22, tx, 0, .slice none 0 0, []⟩, N1.tr ⟨xk, xt, xn, .slice xa xL xc, xkids⟩]⟩ [w65.heap.size, w26.heap.size]) := Nn.out.ex (Nat.le_refl _)
                  replace Ne : Hid (NF w w65 ⟨ek, et, en, .slice ea eL ec, ekids⟩ [w65.heap.size, w26.heap.size]) := Ne.out.ex (Nat.le_refl _)
                  replace Nn : Hid (NF w Y69 ⟨26, [], 0, .slice (some ⟨w47.heap.size, 0, none⟩) 2 2, [N1.tr ⟨22, tx, 0, .slice none 0 0, []⟩, N1.tr ⟨xk, xt, xn, .slice xa xL xc, xkids⟩]⟩ [w65.heap.size, w26.heap.size]) := Nn.out.go (grown_low bY69) FR.out.low
                  replace Ne : Hid (NF w Y69 ⟨ek, et, en, .slice ea eL ec, ekids⟩ [w65.heap.size, w26.heap.size]) := Ne.out.go (grown_low bY69) FR.out.low
                  replace Bn : Hid (BX w Y69 (w26.heap.size) ⟨26, [], 0, .slice (some ⟨w47.heap.size, 0, none⟩) 2 2, [N1.tr ⟨22, tx, 0, .slice none 0 0, []⟩, N1.tr ⟨xk, xt, xn, .slice xa xL xc, xkids⟩]⟩) := Bn.out.go (grown_low bY69) FR.out.low
                  replace FR : Hid (Frm w b Y69) := FR.out.go (grown_low bY69)
                  replace PA : Hid (RAt b L (se) Y69) := PA.out.below bY69
                  have Be : Hid (BX w Y69 (w65.heap.size) ⟨ek, et, en, .slice ea eL ec, ekids⟩) := nb
                  clear nb bY69
                  have GO : Hid (Rs.Good L (se)) := GD.out
                  go_wp2_with fail
                  rw [← hY69]
                  clear hY69
                  have HW70 : Hid (_) := rwant_any b L (se) [59] Y69 PA.out GD.out KN.out (by decide)
                  refine Calls.mono HW70.out ?_
                  rintro e w71 ⟨rfl, hst72⟩
                  replace Nn : Hid (NF w w71 ⟨26, [], 0, .slice (some ⟨w47.heap.size, 0, none⟩) 2 2, [N1.tr ⟨22, tx, 0, .slice none 0 0, []⟩, N1.tr ⟨xk, xt, xn, .slice xa xL xc, xkids⟩]⟩ [w65.heap.size, w26.heap.size]) := Nn.out.go hst72.1 FR.out.low
                  replace Ne : Hid (NF w w71 ⟨ek, et, en, .slice ea eL ec, ekids⟩ [w65.heap.size, w26.heap.size]) := Ne.out.go hst72.1 FR.out.low
                  replace Be : Hid (BX w w71 (w65.heap.size) ⟨ek, et, en, .slice ea eL ec, ekids⟩) := Be.out.go hst72.1 FR.out.low
                  replace Bn : Hid (BX w w71 (w26.heap.size) ⟨26, [], 0, .slice (some ⟨w47.heap.size, 0, none⟩) 2 2, [N1.tr ⟨22, tx, 0, .slice none 0 0, []⟩, N1.tr ⟨xk, xt, xn, .slice xa xL xc, xkids⟩]⟩) := Bn.out.go hst72.1 FR.out.low
                  replace FR : Hid (Frm w b w71) := FR.out.go hst72.1
                  replace PA : Hid (RAt b L (Rs.want L (se) [59]) w71) := hst72.2
                  clear HW70 hst72
                  replace GD : Hid (Rs.Good L (Rs.want L (se) [59])) := Rs.want_good GD.out (by decide)
                  replace TT : Hid (_) := TT.out.want (t := [59]) (by decide)
                  replace SH : Hid (Rs.Sh L s (Rs.want L (se) [59]) 0) := (SH.out.trans (Rs.want_sh GO.out)).less (by omega)
                  clear GO
                  obtain ⟨f73, f74, f75, f76⟩ := Bn.out.cs
                  obtain ⟨f77, f78, f79, f80⟩ := Be.out.cs
                  obtain ⟨R81, hR81⟩ : ∃ V, V = w71.alloc (.cells #[.int .u8 26, .string (Ln.bs []), .int .i64 0, .slice (some ⟨w47.heap.size, 0, none⟩) 2 2, .int .u8 ek, .string (Ln.bs et), .int .i64 en, .slice ea eL ec] 26) := ⟨_, rfl⟩
                  have bR81 : Below w71.heap.size w71 R81 := hR81 ▸ below_new w71 _
                  have hX : ∀ q ∈ ([w65.heap.size, w26.heap.size] : List Nat), q < w71.heap.size := by
                    intro q hq
                    simp only [List.mem_cons, List.not_mem_nil, or_false] at hq
                    rcases hq with rfl | rfl
                    · exact Be.out.lt
                    · exact Bn.out.lt
                  have nk : NF w R81 ⟨7, [], 0, .slice (some ⟨w71.heap.size, 0, none⟩) 2 2, [N1.tr ⟨26, [], 0, .slice (some ⟨w47.heap.size, 0, none⟩) 2 2, [N1.tr ⟨22, tx, 0, .slice none 0 0, []⟩, N1.tr ⟨xk, xt, xn, .slice xa xL xc, xkids⟩]⟩, N1.tr ⟨ek, et, en, .slice ea eL ec, ekids⟩]⟩ [w65.heap.size, w26.heap.size] := by
                    rw [hR81]
                    refine NF.kids FR.out [⟨26, [], 0, .slice (some ⟨w47.heap.size, 0, none⟩) 2 2, [N1.tr ⟨22, tx, 0, .slice none 0 0, []⟩, N1.tr ⟨xk, xt, xn, .slice xa xL xc, xkids⟩]⟩, ⟨ek, et, en, .slice ea eL ec, ekids⟩] (fun z hz => ?_) hX (by simp) 7 [] 0 (by omega) (by simp) (by omega)
                    simp only [List.mem_cons, List.not_mem_nil, or_false] at hz
                    rcases hz with rfl | rfl
                    · exact Nn.out
                    · exact Ne.out
                  replace Nn : Hid (NF w R81 ⟨26, [], 0, .slice (some ⟨w47.heap.size, 0, none⟩) 2 2, [N1.tr ⟨22, tx, 0, .slice none 0 0, []⟩, N1.tr ⟨xk, xt, xn, .slice xa xL xc, xkids⟩]⟩ [w65.heap.size, w26.heap.size]) := Nn.out.go (grown_low bR81) FR.out.low
                  replace Ne : Hid (NF w R81 ⟨ek, et, en, .slice ea eL ec, ekids⟩ [w65.heap.size, w26.heap.size]) := Ne.out.go (grown_low bR81) FR.out.low
                  replace Be : Hid (BX w R81 (w65.heap.size) ⟨ek, et, en, .slice ea eL ec, ekids⟩) := Be.out.go (grown_low bR81) FR.out.low
                  replace Bn : Hid (BX w R81 (w26.heap.size) ⟨26, [], 0, .slice (some ⟨w47.heap.size, 0, none⟩) 2 2, [N1.tr ⟨22, tx, 0, .slice none 0 0, []⟩, N1.tr ⟨xk, xt, xn, .slice xa xL xc, xkids⟩]⟩) := Bn.out.go (grown_low bR81) FR.out.low
                  replace FR : Hid (Frm w b R81) := FR.out.go (grown_low bR81)
                  replace PA : Hid (RAt b L (Rs.want L (se) [59]) R81) := PA.out.below bR81
                  have Nz : Hid (NF w R81 ⟨7, [], 0, .slice (some ⟨w71.heap.size, 0, none⟩) 2 2, [N1.tr ⟨26, [], 0, .slice (some ⟨w47.heap.size, 0, none⟩) 2 2, [N1.tr ⟨22, tx, 0, .slice none 0 0, []⟩, N1.tr ⟨xk, xt, xn, .slice xa xL xc, xkids⟩]⟩, N1.tr ⟨ek, et, en, .slice ea eL ec, ekids⟩]⟩ [w65.heap.size, w26.heap.size]) := nk
                  clear nk hX bR81
                  go_wp2_with fail
                  rw [← hR81]
                  clear hR81
                  have HD82 : Hid (_) := rof_any 7 (some ⟨w71.heap.size, 0, none⟩) 2 2 R81
                  refine Calls.mono HD82.out ?_
                  rintro e w83 ⟨rfl, hb84⟩
                  replace Nn : Hid (NF w w83 ⟨26, [], 0, .slice (some ⟨w47.heap.size, 0, none⟩) 2 2, [N1.tr ⟨22, tx, 0, .slice none 0 0, []⟩, N1.tr ⟨xk, xt, xn, .slice xa xL xc, xkids⟩]⟩ [w65.heap.size, w26.heap.size]) := Nn.out.go (grown_low hb84) FR.out.low
                  replace Ne : Hid (NF w w83 ⟨ek, et, en, .slice ea eL ec, ekids⟩ [w65.heap.size, w26.heap.size]) := Ne.out.go (grown_low hb84) FR.out.low
                  replace Nz : Hid (NF w w83 ⟨7, [], 0, .slice (some ⟨w71.heap.size, 0, none⟩) 2 2, [N1.tr ⟨26, [], 0, .slice (some ⟨w47.heap.size, 0, none⟩) 2 2, [N1.tr ⟨22, tx, 0, .slice none 0 0, []⟩, N1.tr ⟨xk, xt, xn, .slice xa xL xc, xkids⟩]⟩, N1.tr ⟨ek, et, en, .slice ea eL ec, ekids⟩]⟩ [w65.heap.size, w26.heap.size]) := Nz.out.go (grown_low hb84) FR.out.low
                  replace Be : Hid (BX w w83 (w65.heap.size) ⟨ek, et, en, .slice ea eL ec, ekids⟩) := Be.out.go (grown_low hb84) FR.out.low
                  replace Bn : Hid (BX w w83 (w26.heap.size) ⟨26, [], 0, .slice (some ⟨w47.heap.size, 0, none⟩) 2 2, [N1.tr ⟨22, tx, 0, .slice none 0 0, []⟩, N1.tr ⟨xk, xt, xn, .slice xa xL xc, xkids⟩]⟩) := Bn.out.go (grown_low hb84) FR.out.low
                  replace FR : Hid (Frm w b w83) := FR.out.go (grown_low hb84)
                  replace PA : Hid (RAt b L (Rs.want L (se) [59]) w83) := PA.out.below hb84
                  clear HD82 hb84
                  obtain ⟨p0, p1, p2, p3, pf, Z, hZ, ⟨r0, r1, r2, r3⟩, z1, z2, z3⟩ := FR.out.finR PA.out Nz.out
                  have HF : Hid (w.grownBy Z (some b) ∧ REnd L .stmt b s w (.returned (.agg #[.int .u8 7, .string (Ln.bs []), .int .i64 0, .slice (some ⟨w71.heap.size, 0, none⟩) 2 2])) Z) := ⟨z1, _, _, _, rfl, z2, TT.out.done, z3⟩
                  clear z1 z2 z3 
                  rw [show Ln.bs [] = (⟨#[]⟩ : ByteArray) from rfl] at p2 p3 hZ r1 HF
                  go_wp2
                  rw [← hZ]
                  refine bodyPost_ret (v := .agg #[.int .u8 7, .string ⟨#[]⟩, .int .i64 0, .slice (some ⟨w71.heap.size, 0, none⟩) 2 2]) (by simp [results, Tryz.results69, go_sem, r0, r1, r2, r3]) rfl HF.out
              · skip
                replace TT : Hid (_) := TT.out.yes hs30
                clear hs30
                obtain ⟨f33, f34, f35, f36⟩ := Bn.out.cs
                go_wp2_with fail
                have HC37 : Hid (_) := (Hhca.out tx HTL.out) b L (u) w31 KN.out GD.out PA.out (HM0.out _ SH.out)
                refine Calls.mono HC37.out ?_
                rintro e w38 ⟨hg39, tx, vx, sx, rfl, ra40, relx, nd41⟩
                have hX : ∀ q ∈ ([w26.heap.size] : List Nat), q < w31.heap.size := by
                  intro q hq
                  simp only [List.mem_cons, List.not_mem_nil, or_false] at hq
                  subst hq
                  exact Bn.out.lt
                obtain ⟨xk, xt, xn, xa, xL, xc, xkids, rfl, rfl, nf⟩ := NF.of_end (X := [w26.heap.size]) nd41 FR.out hX
                replace Nn : Hid (NF w w38 ⟨22, tx, 0, .slice none 0 0, []⟩ [w26.heap.size]) := Nn.out.go hg39 FR.out.low
                replace Bn : Hid (BX w w38 (w26.heap.size) ⟨22, tx, 0, .slice none 0 0, []⟩) := Bn.out.go hg39 FR.out.low
                replace FR : Hid (Frm w b w38) := FR.out.go hg39
                replace PA : Hid (RAt b L (sx) w38) := ra40
                have Nx : Hid (NF w w38 ⟨xk, xt, xn, .slice xa xL xc, xkids⟩ [w26.heap.size]) := nf
                have RELx : Hid (Rs.Rel L ((.call tx)) (u) (.mk xk xt xn xkids) sx) := relx
                replace GD : Hid (Rs.Good L (sx)) := relx.good
                clear nf HC37 hg39 ra40 relx nd41 hX
                replace TT : Hid (_) := TT.out.bnd RELx.out
                replace SH : Hid (Rs.Sh L s (sx) 0) := (SH.out.trans (Rs.rel_sh (J := .call tx) trivial RELx.out)).less (by omega)
                have ltnx : w26.heap.size < w38.heap.size := by have := Bn.out.lt; omega
                obtain ⟨Y42, hY42⟩ : ∃ V, V = w38.alloc (.cells #[.int .u8 xk, .string (Ln.bs xt), .int .i64 xn, .slice xa xL xc] 26) := ⟨_, rfl⟩
                have bY42 : Below w38.heap.size w38 Y42 := hY42 ▸ below_new w38 _
                have nb : BX w Y42 (w38.heap.size) ⟨xk, xt, xn, .slice xa xL xc, xkids⟩ := by rw [hY42]; exact BX.new FR.out ⟨xk, xt, xn, .slice xa xL xc, xkids⟩
                replace Nn : Hid (NF w w38 ⟨22, tx, 0, .slice none 0 0, []⟩ [w38.heap.size, w26.heap.size]) := Nn.out.ex (Nat.le_refl _)
                replace Nx : Hid (NF w w38 ⟨xk, xt, xn, .slice xa xL xc, xkids⟩ [w38.heap.size, w26.heap.size]) := Nx.out.ex (Nat.le_refl _)
                replace Nn : Hid (NF w Y42 ⟨22, tx, 0, .slice none 0 0, []⟩ [w38.heap.size, w26.heap.size]) := Nn.out.go (grown_low bY42) FR.out.low
                replace Nx : Hid (NF w Y42 ⟨xk, xt, xn, .slice xa xL xc, xkids⟩ [w38.heap.size, w26.heap.size]) := Nx.out.go (grown_low bY42) FR.out.low
                replace Bn : Hid (BX w Y42 (w26.heap.size) ⟨22, tx, 0, .slice none 0 0, []⟩) := Bn.out.go (grown_low bY42) FR.out.low
                replace FR : Hid (Frm w b Y42) := FR.out.go (grown_low bY42)
                replace PA : Hid (RAt b L (sx) Y42) := PA.out.below bY42
                have Bx : Hid (BX w Y42 (w38.heap.size) ⟨xk, xt, xn, .slice xa xL xc, xkids⟩) := nb
                clear nb bY42
                have GO : Hid (Rs.Good L (sx)) := GD.out
                go_wp2_with fail
                rw [← hY42]
                clear hY42
                have HW43 : Hid (_) := rwant_any b L (sx) [59] Y42 PA.out GD.out KN.out (by decide)
                refine Calls.mono HW43.out ?_
                rintro e w44 ⟨rfl, hst45⟩
                replace Nn : Hid (NF w w44 ⟨22, tx, 0, .slice none 0 0, []⟩ [w38.heap.size, w26.heap.size]) := Nn.out.go hst45.1 FR.out.low
                replace Nx : Hid (NF w w44 ⟨xk, xt, xn, .slice xa xL xc, xkids⟩ [w38.heap.size, w26.heap.size]) := Nx.out.go hst45.1 FR.out.low
                replace Bx : Hid (BX w w44 (w38.heap.size) ⟨xk, xt, xn, .slice xa xL xc, xkids⟩) := Bx.out.go hst45.1 FR.out.low
                replace Bn : Hid (BX w w44 (w26.heap.size) ⟨22, tx, 0, .slice none 0 0, []⟩) := Bn.out.go hst45.1 FR.out.low
                replace FR : Hid (Frm w b w44) := FR.out.go hst45.1
                replace PA : Hid (RAt b L (Rs.want L (sx) [59]) w44) := hst45.2
                clear HW43 hst45
                replace GD : Hid (Rs.Good L (Rs.want L (sx) [59])) := Rs.want_good GD.out (by decide)
                replace TT : Hid (_) := TT.out.want (t := [59]) (by decide)
                replace SH : Hid (Rs.Sh L s (Rs.want L (sx) [59]) 0) := (SH.out.trans (Rs.want_sh GO.out)).less (by omega)
                clear GO
                obtain ⟨f46, f47, f48, f49⟩ := Bx.out.cs
                obtain ⟨R50, hR50⟩ : ∃ V, V = w44.alloc (.cells #[.int .u8 xk, .string (Ln.bs xt), .int .i64 xn, .slice xa xL xc] 26) := ⟨_, rfl⟩
                have bR50 : Below w44.heap.size w44 R50 := hR50 ▸ below_new w44 _
                have hX : ∀ q ∈ ([w38.heap.size, w26.heap.size] : List Nat), q < w44.heap.size := by
                  intro q hq
                  simp only [List.mem_cons, List.not_mem_nil, or_false] at hq
                  rcases hq with rfl | rfl
                  · exact Bx.out.lt
                  · exact Bn.out.lt
                have nk : NF w R50 ⟨12, [], 0, .slice (some ⟨w44.heap.size, 0, none⟩) 1 1, [N1.tr ⟨xk, xt, xn, .slice xa xL xc, xkids⟩]⟩ [w38.heap.size, w26.heap.size] := by
                  rw [hR50]
                  refine NF.kids FR.out [⟨xk, xt, xn, .slice xa xL xc, xkids⟩] (fun z hz => ?_) hX (by simp) 12 [] 0 (by omega) (by simp) (by omega)
                  simp only [List.mem_cons, List.not_mem_nil, or_false] at hz
                  subst hz
                  exact Nx.out
                replace Nn : Hid (NF w R50 ⟨22, tx, 0, .slice none 0 0, []⟩ [w38.heap.size, w26.heap.size]) := Nn.out.go (grown_low bR50) FR.out.low
                replace Nx : Hid (NF w R50 ⟨xk, xt, xn, .slice xa xL xc, xkids⟩ [w38.heap.size, w26.heap.size]) := Nx.out.go (grown_low bR50) FR.out.low
                replace Bx : Hid (BX w R50 (w38.heap.size) ⟨xk, xt, xn, .slice xa xL xc, xkids⟩) := Bx.out.go (grown_low bR50) FR.out.low
                replace Bn : Hid (BX w R50 (w26.heap.size) ⟨22, tx, 0, .slice none 0 0, []⟩) := Bn.out.go (grown_low bR50) FR.out.low
                replace FR : Hid (Frm w b R50) := FR.out.go (grown_low bR50)
                replace PA : Hid (RAt b L (Rs.want L (sx) [59]) R50) := PA.out.below bR50
                have Nz : Hid (NF w R50 ⟨12, [], 0, .slice (some ⟨w44.heap.size, 0, none⟩) 1 1, [N1.tr ⟨xk, xt, xn, .slice xa xL xc, xkids⟩]⟩ [w38.heap.size, w26.heap.size]) := nk
                clear nk hX bR50
                go_wp2_with fail
                rw [← hR50]
                clear hR50
                have HD51 : Hid (_) := rof_any 12 (some ⟨w44.heap.size, 0, none⟩) 1 1 R50
                refine Calls.mono HD51.out ?_
                rintro e w52 ⟨rfl, hb53⟩
                replace Nn : Hid (NF w w52 ⟨22, tx, 0, .slice none 0 0, []⟩ [w38.heap.size, w26.heap.size]) := Nn.out.go (grown_low hb53) FR.out.low
                replace Nx : Hid (NF w w52 ⟨xk, xt, xn, .slice xa xL xc, xkids⟩ [w38.heap.size, w26.heap.size]) := Nx.out.go (grown_low hb53) FR.out.low
                replace Nz : Hid (NF w w52 ⟨12, [], 0, .slice (some ⟨w44.heap.size, 0, none⟩) 1 1, [N1.tr ⟨xk, xt, xn, .slice xa xL xc, xkids⟩]⟩ [w38.heap.size, w26.heap.size]) := Nz.out.go (grown_low hb53) FR.out.low
                replace Bx : Hid (BX w w52 (w38.heap.size) ⟨xk, xt, xn, .slice xa xL xc, xkids⟩) := Bx.out.go (grown_low hb53) FR.out.low
                replace Bn : Hid (BX w w52 (w26.heap.size) ⟨22, tx, 0, .slice none 0 0, []⟩) := Bn.out.go (grown_low hb53) FR.out.low
                replace FR : Hid (Frm w b w52) := FR.out.go (grown_low hb53)
                replace PA : Hid (RAt b L (Rs.want L (sx) [59]) w52) := PA.out.below hb53
                clear HD51 hb53
                obtain ⟨p0, p1, p2, p3, pf, Z, hZ, ⟨r0, r1, r2, r3⟩, z1, z2, z3⟩ := FR.out.finR PA.out Nz.out
                have HF : Hid (w.grownBy Z (some b) ∧ REnd L .stmt b s w (.returned (.agg #[.int .u8 12, .string (Ln.bs []), .int .i64 0, .slice (some ⟨w44.heap.size, 0, none⟩) 1 1])) Z) := ⟨z1, _, _, _, rfl, z2, TT.out.done, z3⟩
                clear z1 z2 z3 
                rw [show Ln.bs [] = (⟨#[]⟩ : ByteArray) from rfl] at p2 p3 hZ r1 HF
                go_wp2
                rw [← hZ]
                refine bodyPost_ret (v := .agg #[.int .u8 12, .string ⟨#[]⟩, .int .i64 0, .slice (some ⟨w44.heap.size, 0, none⟩) 1 1]) (by simp [results, Tryz.results69, go_sem, r0, r1, r2, r3]) rfl HF.out
            · skip
              have SB : Hid (Rs.isB L (s) [123] = true) := hs22
              clear hs22
              go_wp2_with fail
              have HC25 : Hid (_) := Hhbl.out b L (s) w23 KN.out GD.out PA.out (HM.out)
              refine Calls.mono HC25.out ?_
              rintro e w26 ⟨hg27, tx, vx, sx, rfl, ra28, relx, nd29⟩
              have hX : ∀ q ∈ ([] : List Nat), q < w23.heap.size := by
                intro q hq
                cases hq
              obtain ⟨xk, xt, xn, xa, xL, xc, xkids, rfl, rfl, nf⟩ := NF.of_end (X := []) nd29 FR.out hX
              replace FR : Hid (Frm w b w26) := FR.out.go hg27
              replace PA : Hid (RAt b L (sx) w26) := ra28
              have Nx : Hid (NF w w26 ⟨xk, xt, xn, .slice xa xL xc, xkids⟩ []) := nf
              have RELx : Hid (Rs.Rel L (.block) (s) (.mk xk xt xn xkids) sx) := relx
              replace GD : Hid (Rs.Good L (sx)) := relx.good
              clear nf HC25 hg27 ra28 relx nd29 hX
              obtain ⟨p0, p1, p2, p3, pf, Z, hZ, ⟨r0, r1, r2, r3⟩, z1, z2, z3⟩ := FR.out.finR PA.out Nx.out
              have HF : Hid (w.grownBy Z (some b) ∧ REnd L .stmt b s w (.returned (.agg #[.int .u8 xk, .string (Ln.bs xt), .int .i64 xn, .slice xa xL xc])) Z) := ⟨z1, _, _, _, rfl, z2, Rs.stmt_block SB.out RELx.out, z3⟩
              clear z1 z2 z3 
              go_wp2
              rw [← hZ]
              refine bodyPost_ret (v := .agg #[.int .u8 xk, .string (Ln.bs xt), .int .i64 xn, .slice xa xL xc]) (by simp [results, Tryz.results69, go_sem, r0, r1, r2, r3]) rfl HF.out
          · skip
            have Sprint : Hid (Rs.isB L (s) [112, 114, 105, 110, 116] = true) := hs18
            clear hs18
            have GA : Hid (Rs.Good L (Rs.adv s)) := Rs.isB_good G0.out Sprint.out (by decide)
            have SH : Hid (Rs.Sh L s (Rs.adv s) 0) := (Rs.adv_sh G0.out).less (by omega)
            have TT : Hid (_) := Rs.stmt_print GA.out Sprint.out
            go_wp2_with fail
            have HC21 : Hid (_) := rsimple11_of m Hhor.out b L s w19 KN.out G0.out GA.out PA.out (HM0.out _ SH.out) TT.out
            refine Calls.mono HC21.out ?_
            rintro e w22 ⟨hg23, tx, vx, sx, rfl, ra24, relx, nd25⟩
            have hX : ∀ q ∈ ([] : List Nat), q < w19.heap.size := by
              intro q hq
              cases hq
            obtain ⟨xk, xt, xn, xa, xL, xc, xkids, rfl, rfl, nf⟩ := NF.of_end (X := []) nd25 FR.out hX
            replace FR : Hid (Frm w b w22) := FR.out.go hg23
            replace PA : Hid (RAt b L (sx) w22) := ra24
            have Nx : Hid (NF w w22 ⟨xk, xt, xn, .slice xa xL xc, xkids⟩ []) := nf
            have RELx : Hid (Rs.Rel L (.stmt) (s) (.mk xk xt xn xkids) sx) := relx
            replace GD : Hid (Rs.Good L (sx)) := relx.good
            clear nf HC21 hg23 ra24 relx nd25 hX
            obtain ⟨p0, p1, p2, p3, pf, Z, hZ, ⟨r0, r1, r2, r3⟩, z1, z2, z3⟩ := FR.out.finR PA.out Nx.out
            have HF : Hid (w.grownBy Z (some b) ∧ REnd L .stmt b s w (.returned (.agg #[.int .u8 xk, .string (Ln.bs xt), .int .i64 xn, .slice xa xL xc])) Z) := ⟨z1, _, _, _, rfl, z2, RELx.out, z3⟩
            clear z1 z2 z3 
            go_wp2
            rw [← hZ]
            refine bodyPost_ret (v := .agg #[.int .u8 xk, .string (Ln.bs xt), .int .i64 xn, .slice xa xL xc]) (by simp [results, Tryz.results69, go_sem, r0, r1, r2, r3]) rfl HF.out
        · skip
          have Sreturn : Hid (Rs.isB L (s) [114, 101, 116, 117, 114, 110] = true) := hs14
          clear hs14
          have GA : Hid (Rs.Good L (Rs.adv s)) := Rs.isB_good G0.out Sreturn.out (by decide)
          have SH : Hid (Rs.Sh L s (Rs.adv s) 0) := (Rs.adv_sh G0.out).less (by omega)
          have TT : Hid (_) := Rs.stmt_return GA.out Sreturn.out
          go_wp2_with fail
          have HC17 : Hid (_) := rsimple10_of m Hhor.out b L s w15 KN.out G0.out GA.out PA.out (HM0.out _ SH.out) TT.out
          refine Calls.mono HC17.out ?_
          rintro e w18 ⟨hg19, tx, vx, sx, rfl, ra20, relx, nd21⟩
          have hX : ∀ q ∈ ([] : List Nat), q < w15.heap.size := by
            intro q hq
            cases hq
          obtain ⟨xk, xt, xn, xa, xL, xc, xkids, rfl, rfl, nf⟩ := NF.of_end (X := []) nd21 FR.out hX
          replace FR : Hid (Frm w b w18) := FR.out.go hg19
          replace PA : Hid (RAt b L (sx) w18) := ra20
          have Nx : Hid (NF w w18 ⟨xk, xt, xn, .slice xa xL xc, xkids⟩ []) := nf
          have RELx : Hid (Rs.Rel L (.stmt) (s) (.mk xk xt xn xkids) sx) := relx
          replace GD : Hid (Rs.Good L (sx)) := relx.good
          clear nf HC17 hg19 ra20 relx nd21 hX
          obtain ⟨p0, p1, p2, p3, pf, Z, hZ, ⟨r0, r1, r2, r3⟩, z1, z2, z3⟩ := FR.out.finR PA.out Nx.out
          have HF : Hid (w.grownBy Z (some b) ∧ REnd L .stmt b s w (.returned (.agg #[.int .u8 xk, .string (Ln.bs xt), .int .i64 xn, .slice xa xL xc])) Z) := ⟨z1, _, _, _, rfl, z2, RELx.out, z3⟩
          clear z1 z2 z3 
          go_wp2
          rw [← hZ]
          refine bodyPost_ret (v := .agg #[.int .u8 xk, .string (Ln.bs xt), .int .i64 xn, .slice xa xL xc]) (by simp [results, Tryz.results69, go_sem, r0, r1, r2, r3]) rfl HF.out
      · skip
        have Swhile : Hid (Rs.isB L (s) [119, 104, 105, 108, 101] = true) := hs10
        clear hs10
        have GA : Hid (Rs.Good L (Rs.adv s)) := Rs.isB_good G0.out Swhile.out (by decide)
        have SH : Hid (Rs.Sh L s (Rs.adv s) 0) := (Rs.adv_sh G0.out).less (by omega)
        have TT : Hid (_) := Rs.stmt_while GA.out Swhile.out
        obtain ⟨k1, k2, k3, Y13, hY13, st⟩ := radv PA.out GD.out
        replace FR : Hid (Frm w b Y13) := FR.out.go st.1
        replace PA : Hid (RAt b L (Rs.adv (s)) Y13) := st.2
        replace GD : Hid (Rs.Good L (Rs.adv (s))) := GA.out
        clear st
        go_wp2_with fail
        rw [← hY13]
        clear hY13
        clear k1 k2 k3
        have HC14 : Hid (_) := Hhor.out b L (Rs.adv (s)) Y13 KN.out GD.out PA.out (HM0.out _ SH.out)
        refine Calls.mono HC14.out ?_
        rintro e w15 ⟨hg16, tx, vx, sx, rfl, ra17, relx, nd18⟩
        have hX : ∀ q ∈ ([] : List Nat), q < Y13.heap.size := by
          intro q hq
          cases hq
        obtain ⟨xk, xt, xn, xa, xL, xc, xkids, rfl, rfl, nf⟩ := NF.of_end (X := []) nd18 FR.out hX
        replace FR : Hid (Frm w b w15) := FR.out.go hg16
        replace PA : Hid (RAt b L (sx) w15) := ra17
        have Nx : Hid (NF w w15 ⟨xk, xt, xn, .slice xa xL xc, xkids⟩ []) := nf
        have RELx : Hid (Rs.Rel L (.bin 0) (Rs.adv (s)) (.mk xk xt xn xkids) sx) := relx
        replace GD : Hid (Rs.Good L (sx)) := relx.good
        clear nf HC14 hg16 ra17 relx nd18 hX
        replace TT : Hid (_) := TT.out.bnd RELx.out
        replace SH : Hid (Rs.Sh L s (sx) 0) := (SH.out.trans (Rs.rel_sh (J := .bin 0) trivial RELx.out)).less (by omega)
        obtain ⟨Y19, hY19⟩ : ∃ V, V = w15.alloc (.cells #[.int .u8 xk, .string (Ln.bs xt), .int .i64 xn, .slice xa xL xc] 26) := ⟨_, rfl⟩
        have bY19 : Below w15.heap.size w15 Y19 := hY19 ▸ below_new w15 _
        have nb : BX w Y19 (w15.heap.size) ⟨xk, xt, xn, .slice xa xL xc, xkids⟩ := by rw [hY19]; exact BX.new FR.out ⟨xk, xt, xn, .slice xa xL xc, xkids⟩
        replace Nx : Hid (NF w w15 ⟨xk, xt, xn, .slice xa xL xc, xkids⟩ [w15.heap.size]) := Nx.out.ex (Nat.le_refl _)
        replace Nx : Hid (NF w Y19 ⟨xk, xt, xn, .slice xa xL xc, xkids⟩ [w15.heap.size]) := Nx.out.go (grown_low bY19) FR.out.low
        replace FR : Hid (Frm w b Y19) := FR.out.go (grown_low bY19)
        replace PA : Hid (RAt b L (sx) Y19) := PA.out.below bY19
        have Bx : Hid (BX w Y19 (w15.heap.size) ⟨xk, xt, xn, .slice xa xL xc, xkids⟩) := nb
        clear nb bY19
        go_wp2_with fail
        rw [← hY19]
        clear hY19
        have HC20 : Hid (_) := Hhbl.out b L (sx) Y19 KN.out GD.out PA.out (HM0.out _ SH.out)
        refine Calls.mono HC20.out ?_
        rintro e w21 ⟨hg22, ty, vy, sy, rfl, ra23, rely, nd24⟩
        have hX : ∀ q ∈ ([w15.heap.size] : List Nat), q < Y19.heap.size := by
          intro q hq
          simp only [List.mem_cons, List.not_mem_nil, or_false] at hq
          subst hq
          exact Bx.out.lt
        obtain ⟨yk, yt, yn, ya, yL, yc, ykids, rfl, rfl, nf⟩ := NF.of_end (X := [w15.heap.size]) nd24 FR.out hX
        replace Nx : Hid (NF w w21 ⟨xk, xt, xn, .slice xa xL xc, xkids⟩ [w15.heap.size]) := Nx.out.go hg22 FR.out.low
        replace Bx : Hid (BX w w21 (w15.heap.size) ⟨xk, xt, xn, .slice xa xL xc, xkids⟩) := Bx.out.go hg22 FR.out.low
        replace FR : Hid (Frm w b w21) := FR.out.go hg22
        replace PA : Hid (RAt b L (sy) w21) := ra23
        have Ny : Hid (NF w w21 ⟨yk, yt, yn, .slice ya yL yc, ykids⟩ [w15.heap.size]) := nf
        have RELy : Hid (Rs.Rel L (.block) (sx) (.mk yk yt yn ykids) sy) := rely
        replace GD : Hid (Rs.Good L (sy)) := rely.good
        clear nf HC20 hg22 ra23 rely nd24 hX
        replace TT : Hid (_) := TT.out.bnd RELy.out
        replace SH : Hid (Rs.Sh L s (sy) 0) := (SH.out.trans (Rs.rel_sh (J := .block) trivial RELy.out)).less (by omega)
        have ltxy : w15.heap.size < w21.heap.size := by have := Bx.out.lt; omega
        obtain ⟨Y25, hY25⟩ : ∃ V, V = w21.alloc (.cells #[.int .u8 yk, .string (Ln.bs yt), .int .i64 yn, .slice ya yL yc] 26) := ⟨_, rfl⟩
        have bY25 : Below w21.heap.size w21 Y25 := hY25 ▸ below_new w21 _
        have nb : BX w Y25 (w21.heap.size) ⟨yk, yt, yn, .slice ya yL yc, ykids⟩ := by rw [hY25]; exact BX.new FR.out ⟨yk, yt, yn, .slice ya yL yc, ykids⟩
        replace Nx : Hid (NF w w21 ⟨xk, xt, xn, .slice xa xL xc, xkids⟩ [w21.heap.size, w15.heap.size]) := Nx.out.ex (Nat.le_refl _)
        replace Ny : Hid (NF w w21 ⟨yk, yt, yn, .slice ya yL yc, ykids⟩ [w21.heap.size, w15.heap.size]) := Ny.out.ex (Nat.le_refl _)
        replace Nx : Hid (NF w Y25 ⟨xk, xt, xn, .slice xa xL xc, xkids⟩ [w21.heap.size, w15.heap.size]) := Nx.out.go (grown_low bY25) FR.out.low
        replace Ny : Hid (NF w Y25 ⟨yk, yt, yn, .slice ya yL yc, ykids⟩ [w21.heap.size, w15.heap.size]) := Ny.out.go (grown_low bY25) FR.out.low
        replace Bx : Hid (BX w Y25 (w15.heap.size) ⟨xk, xt, xn, .slice xa xL xc, xkids⟩) := Bx.out.go (grown_low bY25) FR.out.low
        replace FR : Hid (Frm w b Y25) := FR.out.go (grown_low bY25)
        replace PA : Hid (RAt b L (sy) Y25) := PA.out.below bY25
        have By : Hid (BX w Y25 (w21.heap.size) ⟨yk, yt, yn, .slice ya yL yc, ykids⟩) := nb
        clear nb bY25
        go_upto_region 22 with fail
        rw [← hY25]
        clear hY25
        obtain ⟨f26, f27, f28, f29⟩ := Bx.out.cs
        obtain ⟨f30, f31, f32, f33⟩ := By.out.cs
        obtain ⟨R34, hR34⟩ : ∃ V, V = Y25.alloc (.cells #[.int .u8 xk, .string (Ln.bs xt), .int .i64 xn, .slice xa xL xc, .int .u8 yk, .string (Ln.bs yt), .int .i64 yn, .slice ya yL yc] 26) := ⟨_, rfl⟩
        have bR34 : Below Y25.heap.size Y25 R34 := hR34 ▸ below_new Y25 _
        have hX : ∀ q ∈ ([w21.heap.size, w15.heap.size] : List Nat), q < Y25.heap.size := by
          intro q hq
          simp only [List.mem_cons, List.not_mem_nil, or_false] at hq
          rcases hq with rfl | rfl
          · exact By.out.lt
          · exact Bx.out.lt
        have nk : NF w R34 ⟨9, [], 0, .slice (some ⟨Y25.heap.size, 0, none⟩) 2 2, [N1.tr ⟨xk, xt, xn, .slice xa xL xc, xkids⟩, N1.tr ⟨yk, yt, yn, .slice ya yL yc, ykids⟩]⟩ [w21.heap.size, w15.heap.size] := by
          rw [hR34]
          refine NF.kids FR.out [⟨xk, xt, xn, .slice xa xL xc, xkids⟩, ⟨yk, yt, yn, .slice ya yL yc, ykids⟩] (fun z hz => ?_) hX (by simp) 9 [] 0 (by omega) (by simp) (by omega)
          simp only [List.mem_cons, List.not_mem_nil, or_false] at hz
          rcases hz with rfl | rfl
          · exact Nx.out
          · exact Ny.out
        replace Nx : Hid (NF w R34 ⟨xk, xt, xn, .slice xa xL xc, xkids⟩ [w21.heap.size, w15.heap.size]) := Nx.out.go (grown_low bR34) FR.out.low
        replace Ny : Hid (NF w R34 ⟨yk, yt, yn, .slice ya yL yc, ykids⟩ [w21.heap.size, w15.heap.size]) := Ny.out.go (grown_low bR34) FR.out.low
        replace By : Hid (BX w R34 (w21.heap.size) ⟨yk, yt, yn, .slice ya yL yc, ykids⟩) := By.out.go (grown_low bR34) FR.out.low
        replace Bx : Hid (BX w R34 (w15.heap.size) ⟨xk, xt, xn, .slice xa xL xc, xkids⟩) := Bx.out.go (grown_low bR34) FR.out.low
        replace FR : Hid (Frm w b R34) := FR.out.go (grown_low bR34)
        replace PA : Hid (RAt b L (sy) R34) := PA.out.below bR34
        have Nz : Hid (NF w R34 ⟨9, [], 0, .slice (some ⟨Y25.heap.size, 0, none⟩) 2 2, [N1.tr ⟨xk, xt, xn, .slice xa xL xc, xkids⟩, N1.tr ⟨yk, yt, yn, .slice ya yL yc, ykids⟩]⟩ [w21.heap.size, w15.heap.size]) := nk
        clear nk hX bR34
        go_wp2_with fail
        rw [← hR34]
        clear hR34
        have HD35 : Hid (_) := rof_any 9 (some ⟨Y25.heap.size, 0, none⟩) 2 2 R34
        refine Calls.mono HD35.out ?_
        rintro e w36 ⟨rfl, hb37⟩
        replace Nx : Hid (NF w w36 ⟨xk, xt, xn, .slice xa xL xc, xkids⟩ [w21.heap.size, w15.heap.size]) := Nx.out.go (grown_low hb37) FR.out.low
        replace Ny : Hid (NF w w36 ⟨yk, yt, yn, .slice ya yL yc, ykids⟩ [w21.heap.size, w15.heap.size]) := Ny.out.go (grown_low hb37) FR.out.low
        replace Nz : Hid (NF w w36 ⟨9, [], 0, .slice (some ⟨Y25.heap.size, 0, none⟩) 2 2, [N1.tr ⟨xk, xt, xn, .slice xa xL xc, xkids⟩, N1.tr ⟨yk, yt, yn, .slice ya yL yc, ykids⟩]⟩ [w21.heap.size, w15.heap.size]) := Nz.out.go (grown_low hb37) FR.out.low
        replace By : Hid (BX w w36 (w21.heap.size) ⟨yk, yt, yn, .slice ya yL yc, ykids⟩) := By.out.go (grown_low hb37) FR.out.low
        replace Bx : Hid (BX w w36 (w15.heap.size) ⟨xk, xt, xn, .slice xa xL xc, xkids⟩) := Bx.out.go (grown_low hb37) FR.out.low
        replace FR : Hid (Frm w b w36) := FR.out.go (grown_low hb37)
        replace PA : Hid (RAt b L (sy) w36) := PA.out.below hb37
        clear HD35 hb37
        obtain ⟨p0, p1, p2, p3, pf, Z, hZ, ⟨r0, r1, r2, r3⟩, z1, z2, z3⟩ := FR.out.finR PA.out Nz.out
        have HF : Hid (w.grownBy Z (some b) ∧ REnd L .stmt b s w (.returned (.agg #[.int .u8 9, .string (Ln.bs []), .int .i64 0, .slice (some ⟨Y25.heap.size, 0, none⟩) 2 2])) Z) := ⟨z1, _, _, _, rfl, z2, TT.out.done, z3⟩
        clear z1 z2 z3 
        rw [show Ln.bs [] = (⟨#[]⟩ : ByteArray) from rfl] at p2 p3 hZ r1 HF
        go_wp2
        rw [← hZ]
        refine bodyPost_ret (v := .agg #[.int .u8 9, .string ⟨#[]⟩, .int .i64 0, .slice (some ⟨Y25.heap.size, 0, none⟩) 2 2]) (by simp [results, Tryz.results69, go_sem, r0, r1, r2, r3]) rfl HF.out
    · skip
      have Sif : Hid (Rs.isB L (s) [105, 102] = true) := hs6
      clear hs6
      have GA : Hid (Rs.Good L (Rs.adv s)) := Rs.isB_good G0.out Sif.out (by decide)
      have SH : Hid (Rs.Sh L s (Rs.adv s) 0) := (Rs.adv_sh G0.out).less (by omega)
      have TT : Hid (_) := Rs.stmt_if GA.out Sif.out
      obtain ⟨k1, k2, k3, Y9, hY9, st⟩ := radv PA.out GD.out
      replace FR : Hid (Frm w b Y9) := FR.out.go st.1
      replace PA : Hid (RAt b L (Rs.adv (s)) Y9) := st.2
      replace GD : Hid (Rs.Good L (Rs.adv (s))) := GA.out
      clear st
      go_wp2_with fail
      rw [← hY9]
      clear hY9
      clear k1 k2 k3
      have HC10 : Hid (_) := Hhor.out b L (Rs.adv (s)) Y9 KN.out GD.out PA.out (HM0.out _ SH.out)
      refine Calls.mono HC10.out ?_
      rintro e w11 ⟨hg12, tx, vx, sx, rfl, ra13, relx, nd14⟩
      have hX : ∀ q ∈ ([] : List Nat), q < Y9.heap.size := by
        intro q hq
        cases hq
      obtain ⟨xk, xt, xn, xa, xL, xc, xkids, rfl, rfl, nf⟩ := NF.of_end (X := []) nd14 FR.out hX
      replace FR : Hid (Frm w b w11) := FR.out.go hg12
      replace PA : Hid (RAt b L (sx) w11) := ra13
      have Nx : Hid (NF w w11 ⟨xk, xt, xn, .slice xa xL xc, xkids⟩ []) := nf
      have RELx : Hid (Rs.Rel L (.bin 0) (Rs.adv (s)) (.mk xk xt xn xkids) sx) := relx
      replace GD : Hid (Rs.Good L (sx)) := relx.good
      clear nf HC10 hg12 ra13 relx nd14 hX
      replace TT : Hid (_) := TT.out.bnd RELx.out
      replace SH : Hid (Rs.Sh L s (sx) 0) := (SH.out.trans (Rs.rel_sh (J := .bin 0) trivial RELx.out)).less (by omega)
      obtain ⟨Y15, hY15⟩ : ∃ V, V = w11.alloc (.cells #[.int .u8 xk, .string (Ln.bs xt), .int .i64 xn, .slice xa xL xc] 26) := ⟨_, rfl⟩
      have bY15 : Below w11.heap.size w11 Y15 := hY15 ▸ below_new w11 _
      have nb : BX w Y15 (w11.heap.size) ⟨xk, xt, xn, .slice xa xL xc, xkids⟩ := by rw [hY15]; exact BX.new FR.out ⟨xk, xt, xn, .slice xa xL xc, xkids⟩
      replace Nx : Hid (NF w w11 ⟨xk, xt, xn, .slice xa xL xc, xkids⟩ [w11.heap.size]) := Nx.out.ex (Nat.le_refl _)
      replace Nx : Hid (NF w Y15 ⟨xk, xt, xn, .slice xa xL xc, xkids⟩ [w11.heap.size]) := Nx.out.go (grown_low bY15) FR.out.low
      replace FR : Hid (Frm w b Y15) := FR.out.go (grown_low bY15)
      replace PA : Hid (RAt b L (sx) Y15) := PA.out.below bY15
      have Bx : Hid (BX w Y15 (w11.heap.size) ⟨xk, xt, xn, .slice xa xL xc, xkids⟩) := nb
      clear nb bY15
      go_wp2_with fail
      rw [← hY15]
      clear hY15
      have HC16 : Hid (_) := Hhbl.out b L (sx) Y15 KN.out GD.out PA.out (HM0.out _ SH.out)
      refine Calls.mono HC16.out ?_
      rintro e w17 ⟨hg18, ty, vy, sy, rfl, ra19, rely, nd20⟩
      have hX : ∀ q ∈ ([w11.heap.size] : List Nat), q < Y15.heap.size := by
        intro q hq
        simp only [List.mem_cons, List.not_mem_nil, or_false] at hq
        subst hq
        exact Bx.out.lt
      obtain ⟨yk, yt, yn, ya, yL, yc, ykids, rfl, rfl, nf⟩ := NF.of_end (X := [w11.heap.size]) nd20 FR.out hX
      replace Nx : Hid (NF w w17 ⟨xk, xt, xn, .slice xa xL xc, xkids⟩ [w11.heap.size]) := Nx.out.go hg18 FR.out.low
      replace Bx : Hid (BX w w17 (w11.heap.size) ⟨xk, xt, xn, .slice xa xL xc, xkids⟩) := Bx.out.go hg18 FR.out.low
      replace FR : Hid (Frm w b w17) := FR.out.go hg18
      replace PA : Hid (RAt b L (sy) w17) := ra19
      have Ny : Hid (NF w w17 ⟨yk, yt, yn, .slice ya yL yc, ykids⟩ [w11.heap.size]) := nf
      have RELy : Hid (Rs.Rel L (.block) (sx) (.mk yk yt yn ykids) sy) := rely
      replace GD : Hid (Rs.Good L (sy)) := rely.good
      clear nf HC16 hg18 ra19 rely nd20 hX
      replace TT : Hid (_) := TT.out.bnd RELy.out
      replace SH : Hid (Rs.Sh L s (sy) 0) := (SH.out.trans (Rs.rel_sh (J := .block) trivial RELy.out)).less (by omega)
      have ltxy : w11.heap.size < w17.heap.size := by have := Bx.out.lt; omega
      obtain ⟨Y21, hY21⟩ : ∃ V, V = w17.alloc (.cells #[.int .u8 yk, .string (Ln.bs yt), .int .i64 yn, .slice ya yL yc] 26) := ⟨_, rfl⟩
      have bY21 : Below w17.heap.size w17 Y21 := hY21 ▸ below_new w17 _
      have nb : BX w Y21 (w17.heap.size) ⟨yk, yt, yn, .slice ya yL yc, ykids⟩ := by rw [hY21]; exact BX.new FR.out ⟨yk, yt, yn, .slice ya yL yc, ykids⟩
      replace Nx : Hid (NF w w17 ⟨xk, xt, xn, .slice xa xL xc, xkids⟩ [w17.heap.size, w11.heap.size]) := Nx.out.ex (Nat.le_refl _)
      replace Ny : Hid (NF w w17 ⟨yk, yt, yn, .slice ya yL yc, ykids⟩ [w17.heap.size, w11.heap.size]) := Ny.out.ex (Nat.le_refl _)
      replace Nx : Hid (NF w Y21 ⟨xk, xt, xn, .slice xa xL xc, xkids⟩ [w17.heap.size, w11.heap.size]) := Nx.out.go (grown_low bY21) FR.out.low
      replace Ny : Hid (NF w Y21 ⟨yk, yt, yn, .slice ya yL yc, ykids⟩ [w17.heap.size, w11.heap.size]) := Ny.out.go (grown_low bY21) FR.out.low
      replace Bx : Hid (BX w Y21 (w11.heap.size) ⟨xk, xt, xn, .slice xa xL xc, xkids⟩) := Bx.out.go (grown_low bY21) FR.out.low
      replace FR : Hid (Frm w b Y21) := FR.out.go (grown_low bY21)
      replace PA : Hid (RAt b L (sy) Y21) := PA.out.below bY21
      have By : Hid (BX w Y21 (w17.heap.size) ⟨yk, yt, yn, .slice ya yL yc, ykids⟩) := nb
      clear nb bY21
      go_upto_region 13 with fail
      rw [← hY21]
      clear hY21
      have Nn : Hid (NF w Y21 ⟨5, [], 0, .slice none 0 0, []⟩ [w17.heap.size, w11.heap.size]) := NF.leaf w Y21 [w17.heap.size, w11.heap.size] 5 [] 0 (by omega) (by simp) (by omega)
      have ltyn : w17.heap.size < Y21.heap.size := by have := By.out.lt; omega
      have ltxn : w11.heap.size < Y21.heap.size := by have := Bx.out.lt; omega
      obtain ⟨Y22, hY22⟩ : ∃ V, V = Y21.alloc (.cells #[.int .u8 5, .string (⟨#[]⟩), .int .i64 0, .slice none 0 0] 26) := ⟨_, rfl⟩
      have bY22 : Below Y21.heap.size Y21 Y22 := hY22 ▸ below_new Y21 _
      have nb : BX w Y22 (Y21.heap.size) ⟨5, [], 0, .slice none 0 0, []⟩ := by rw [hY22]; exact BX.new FR.out ⟨5, [], 0, .slice none 0 0, []⟩
      replace Nx : Hid (NF w Y21 ⟨xk, xt, xn, .slice xa xL xc, xkids⟩ [Y21.heap.size, w17.heap.size, w11.heap.size]) := Nx.out.ex (Nat.le_refl _)
      replace Ny : Hid (NF w Y21 ⟨yk, yt, yn, .slice ya yL yc, ykids⟩ [Y21.heap.size, w17.heap.size, w11.heap.size]) := Ny.out.ex (Nat.le_refl _)
      replace Nn : Hid (NF w Y21 ⟨5, [], 0, .slice none 0 0, []⟩ [Y21.heap.size, w17.heap.size, w11.heap.size]) := Nn.out.ex (Nat.le_refl _)
      replace Nx : Hid (NF w Y22 ⟨xk, xt, xn, .slice xa xL xc, xkids⟩ [Y21.heap.size, w17.heap.size, w11.heap.size]) := Nx.out.go (grown_low bY22) FR.out.low
      replace Ny : Hid (NF w Y22 ⟨yk, yt, yn, .slice ya yL yc, ykids⟩ [Y21.heap.size, w17.heap.size, w11.heap.size]) := Ny.out.go (grown_low bY22) FR.out.low
      replace Nn : Hid (NF w Y22 ⟨5, [], 0, .slice none 0 0, []⟩ [Y21.heap.size, w17.heap.size, w11.heap.size]) := Nn.out.go (grown_low bY22) FR.out.low
      replace By : Hid (BX w Y22 (w17.heap.size) ⟨yk, yt, yn, .slice ya yL yc, ykids⟩) := By.out.go (grown_low bY22) FR.out.low
      replace Bx : Hid (BX w Y22 (w11.heap.size) ⟨xk, xt, xn, .slice xa xL xc, xkids⟩) := Bx.out.go (grown_low bY22) FR.out.low
      replace FR : Hid (Frm w b Y22) := FR.out.go (grown_low bY22)
      replace PA : Hid (RAt b L (sy) Y22) := PA.out.below bY22
      have Bn : Hid (BX w Y22 (Y21.heap.size) ⟨5, [], 0, .slice none 0 0, []⟩) := nb
      clear nb bY22
      go_wp2_with fail
      rw [← hY22]
      clear hY22
      have HI23 : Hid (_) := ris_any b L (sy) [101, 108, 115, 101] Y22 PA.out GD.out KN.out (by decide)
      refine Calls.mono HI23.out ?_
      rintro e w25 ⟨rfl, hb26⟩
      replace Nx : Hid (NF w w25 ⟨xk, xt, xn, .slice xa xL xc, xkids⟩ [Y21.heap.size, w17.heap.size, w11.heap.size]) := Nx.out.go (grown_low hb26) FR.out.low
      replace Ny : Hid (NF w w25 ⟨yk, yt, yn, .slice ya yL yc, ykids⟩ [Y21.heap.size, w17.heap.size, w11.heap.size]) := Ny.out.go (grown_low hb26) FR.out.low
      replace Nn : Hid (NF w w25 ⟨5, [], 0, .slice none 0 0, []⟩ [Y21.heap.size, w17.heap.size, w11.heap.size]) := Nn.out.go (grown_low hb26) FR.out.low
      replace Bn : Hid (BX w w25 (Y21.heap.size) ⟨5, [], 0, .slice none 0 0, []⟩) := Bn.out.go (grown_low hb26) FR.out.low
      replace By : Hid (BX w w25 (w17.heap.size) ⟨yk, yt, yn, .slice ya yL yc, ykids⟩) := By.out.go (grown_low hb26) FR.out.low
      replace Bx : Hid (BX w w25 (w11.heap.size) ⟨xk, xt, xn, .slice xa xL xc, xkids⟩) := Bx.out.go (grown_low hb26) FR.out.low
      replace FR : Hid (Frm w b w25) := FR.out.go (grown_low hb26)
      replace PA : Hid (RAt b L (sy) w25) := PA.out.below hb26
      clear HI23 hb26
      cases hs24 : Rs.isB L (sy) [101, 108, 115, 101]
      · skip
        replace TT : Hid (_) := TT.out.no hs24
        clear hs24
        obtain ⟨f27, f28, f29, f30⟩ := Bx.out.cs
        obtain ⟨f31, f32, f33, f34⟩ := By.out.cs
        obtain ⟨f35, f36, f37, f38⟩ := Bn.out.cs
        obtain ⟨R39, hR39⟩ : ∃ V, V = w25.alloc (.cells #[.int .u8 xk, .string (Ln.bs xt), .int .i64 xn, .slice xa xL xc, .int .u8 yk, .string (Ln.bs yt), .int .i64 yn, .slice ya yL yc, .int .u8 5, .string (Ln.bs []), .int .i64 0, .slice none 0 0] 26) := ⟨_, rfl⟩
        have bR39 : Below w25.heap.size w25 R39 := hR39 ▸ below_new w25 _
        have hX : ∀ q ∈ ([Y21.heap.size, w17.heap.size, w11.heap.size] : List Nat), q < w25.heap.size := by
          intro q hq
          simp only [List.mem_cons, List.not_mem_nil, or_false] at hq
          rcases hq with rfl | rfl | rfl
          · exact Bn.out.lt
          · exact By.out.lt
          · exact Bx.out.lt
        have nk : NF w R39 ⟨8, [], 0, .slice (some ⟨w25.heap.size, 0, none⟩) 3 3, [N1.tr ⟨xk, xt, xn, .slice xa xL xc, xkids⟩, N1.tr ⟨yk, yt, yn, .slice ya yL yc, ykids⟩, N1.tr ⟨5, [], 0, .slice none 0 0, []⟩]⟩ [Y21.heap.size, w17.heap.size, w11.heap.size] := by
          rw [hR39]
          refine NF.kids FR.out [⟨xk, xt, xn, .slice xa xL xc, xkids⟩, ⟨yk, yt, yn, .slice ya yL yc, ykids⟩, ⟨5, [], 0, .slice none 0 0, []⟩] (fun z hz => ?_) hX (by simp) 8 [] 0 (by omega) (by simp) (by omega)
          simp only [List.mem_cons, List.not_mem_nil, or_false] at hz
          rcases hz with rfl | rfl | rfl
          · exact Nx.out
          · exact Ny.out
          · exact Nn.out
        replace Nx : Hid (NF w R39 ⟨xk, xt, xn, .slice xa xL xc, xkids⟩ [Y21.heap.size, w17.heap.size, w11.heap.size]) := Nx.out.go (grown_low bR39) FR.out.low
        replace Ny : Hid (NF w R39 ⟨yk, yt, yn, .slice ya yL yc, ykids⟩ [Y21.heap.size, w17.heap.size, w11.heap.size]) := Ny.out.go (grown_low bR39) FR.out.low
        replace Nn : Hid (NF w R39 ⟨5, [], 0, .slice none 0 0, []⟩ [Y21.heap.size, w17.heap.size, w11.heap.size]) := Nn.out.go (grown_low bR39) FR.out.low
        replace Bn : Hid (BX w R39 (Y21.heap.size) ⟨5, [], 0, .slice none 0 0, []⟩) := Bn.out.go (grown_low bR39) FR.out.low
        replace By : Hid (BX w R39 (w17.heap.size) ⟨yk, yt, yn, .slice ya yL yc, ykids⟩) := By.out.go (grown_low bR39) FR.out.low
        replace Bx : Hid (BX w R39 (w11.heap.size) ⟨xk, xt, xn, .slice xa xL xc, xkids⟩) := Bx.out.go (grown_low bR39) FR.out.low
        replace FR : Hid (Frm w b R39) := FR.out.go (grown_low bR39)
        replace PA : Hid (RAt b L (sy) R39) := PA.out.below bR39
        have Nz : Hid (NF w R39 ⟨8, [], 0, .slice (some ⟨w25.heap.size, 0, none⟩) 3 3, [N1.tr ⟨xk, xt, xn, .slice xa xL xc, xkids⟩, N1.tr ⟨yk, yt, yn, .slice ya yL yc, ykids⟩, N1.tr ⟨5, [], 0, .slice none 0 0, []⟩]⟩ [Y21.heap.size, w17.heap.size, w11.heap.size]) := nk
        clear nk hX bR39
        go_wp2_with fail
        rw [← hR39]
        clear hR39
        have HD40 : Hid (_) := rof_any 8 (some ⟨w25.heap.size, 0, none⟩) 3 3 R39
        refine Calls.mono HD40.out ?_
        rintro e w41 ⟨rfl, hb42⟩
        replace Nx : Hid (NF w w41 ⟨xk, xt, xn, .slice xa xL xc, xkids⟩ [Y21.heap.size, w17.heap.size, w11.heap.size]) := Nx.out.go (grown_low hb42) FR.out.low
        replace Ny : Hid (NF w w41 ⟨yk, yt, yn, .slice ya yL yc, ykids⟩ [Y21.heap.size, w17.heap.size, w11.heap.size]) := Ny.out.go (grown_low hb42) FR.out.low
        replace Nn : Hid (NF w w41 ⟨5, [], 0, .slice none 0 0, []⟩ [Y21.heap.size, w17.heap.size, w11.heap.size]) := Nn.out.go (grown_low hb42) FR.out.low
        replace Nz : Hid (NF w w41 ⟨8, [], 0, .slice (some ⟨w25.heap.size, 0, none⟩) 3 3, [N1.tr ⟨xk, xt, xn, .slice xa xL xc, xkids⟩, N1.tr ⟨yk, yt, yn, .slice ya yL yc, ykids⟩, N1.tr ⟨5, [], 0, .slice none 0 0, []⟩]⟩ [Y21.heap.size, w17.heap.size, w11.heap.size]) := Nz.out.go (grown_low hb42) FR.out.low
        replace Bn : Hid (BX w w41 (Y21.heap.size) ⟨5, [], 0, .slice none 0 0, []⟩) := Bn.out.go (grown_low hb42) FR.out.low
        replace By : Hid (BX w w41 (w17.heap.size) ⟨yk, yt, yn, .slice ya yL yc, ykids⟩) := By.out.go (grown_low hb42) FR.out.low
        replace Bx : Hid (BX w w41 (w11.heap.size) ⟨xk, xt, xn, .slice xa xL xc, xkids⟩) := Bx.out.go (grown_low hb42) FR.out.low
        replace FR : Hid (Frm w b w41) := FR.out.go (grown_low hb42)
        replace PA : Hid (RAt b L (sy) w41) := PA.out.below hb42
        clear HD40 hb42
        obtain ⟨p0, p1, p2, p3, pf, Z, hZ, ⟨r0, r1, r2, r3⟩, z1, z2, z3⟩ := FR.out.finR PA.out Nz.out
        have HF : Hid (w.grownBy Z (some b) ∧ REnd L .stmt b s w (.returned (.agg #[.int .u8 8, .string (Ln.bs []), .int .i64 0, .slice (some ⟨w25.heap.size, 0, none⟩) 3 3])) Z) := ⟨z1, _, _, _, rfl, z2, TT.out.done, z3⟩
        clear z1 z2 z3 
        rw [show Ln.bs [] = (⟨#[]⟩ : ByteArray) from rfl] at p2 p3 hZ r1 HF
        go_wp2
        rw [← hZ]
        refine bodyPost_ret (v := .agg #[.int .u8 8, .string ⟨#[]⟩, .int .i64 0, .slice (some ⟨w25.heap.size, 0, none⟩) 3 3]) (by simp [results, Tryz.results69, go_sem, r0, r1, r2, r3]) rfl HF.out
      · skip
        replace TT : Hid (_) := Rs.Tills.adv (K := fun m l lv => Ps.bnd (Ps.go m .block l lv) fun z l => some (.ok [.mk 8 [] 0 ([Tr.mk xk xt xn xkids] ++ [Tr.mk yk yt yn ykids] ++ z)] l)) (TT.out.yes hs24) hs24 (by decide)
        replace SH : Hid (Rs.Sh L s (Rs.adv (sy)) 0) := (SH.out.trans (Rs.adv_sh GD.out)).less (by omega)
        clear hs24
        obtain ⟨k1, k2, k3, Y27, hY27, st⟩ := radv PA.out GD.out
        replace Nx : Hid (NF w Y27 ⟨xk, xt, xn, .slice xa xL xc, xkids⟩ [Y21.heap.size, w17.heap.size, w11.heap.size]) := Nx.out.go st.1 FR.out.low
        replace Ny : Hid (NF w Y27 ⟨yk, yt, yn, .slice ya yL yc, ykids⟩ [Y21.heap.size, w17.heap.size, w11.heap.size]) := Ny.out.go st.1 FR.out.low
        replace Nn : Hid (NF w Y27 ⟨5, [], 0, .slice none 0 0, []⟩ [Y21.heap.size, w17.heap.size, w11.heap.size]) := Nn.out.go st.1 FR.out.low
        replace Bn : Hid (BX w Y27 (Y21.heap.size) ⟨5, [], 0, .slice none 0 0, []⟩) := Bn.out.go st.1 FR.out.low
        replace By : Hid (BX w Y27 (w17.heap.size) ⟨yk, yt, yn, .slice ya yL yc, ykids⟩) := By.out.go st.1 FR.out.low
        replace Bx : Hid (BX w Y27 (w11.heap.size) ⟨xk, xt, xn, .slice xa xL xc, xkids⟩) := Bx.out.go st.1 FR.out.low
        replace FR : Hid (Frm w b Y27) := FR.out.go st.1
        replace PA : Hid (RAt b L (Rs.adv (sy)) Y27) := st.2
        replace GD : Hid (Rs.Good L (Rs.adv (sy))) := TT.out.good
        clear st
        go_wp2_with fail
        rw [← hY27]
        clear hY27
        clear k1 k2 k3
        have HC28 : Hid (_) := Hhbl.out b L (Rs.adv (sy)) Y27 KN.out GD.out PA.out (HM0.out _ SH.out)
        refine Calls.mono HC28.out ?_
        rintro e w29 ⟨hg30, tc, vc, sc, rfl, ra31, relc, nd32⟩
        have hX : ∀ q ∈ ([Y21.heap.size, w17.heap.size, w11.heap.size] : List Nat), q < Y27.heap.size := by
          intro q hq
          simp only [List.mem_cons, List.not_mem_nil, or_false] at hq
          rcases hq with rfl | rfl | rfl
          · exact Bn.out.lt
          · exact By.out.lt
          · exact Bx.out.lt
        obtain ⟨ck, ct, cn, ca, cL, cc, ckids, rfl, rfl, nf⟩ := NF.of_end (X := [Y21.heap.size, w17.heap.size, w11.heap.size]) nd32 FR.out hX
        replace Nx : Hid (NF w w29 ⟨xk, xt, xn, .slice xa xL xc, xkids⟩ [Y21.heap.size, w17.heap.size, w11.heap.size]) := Nx.out.go hg30 FR.out.low
        replace Ny : Hid (NF w w29 ⟨yk, yt, yn, .slice ya yL yc, ykids⟩ [Y21.heap.size, w17.heap.size, w11.heap.size]) := Ny.out.go hg30 FR.out.low
        replace Nn : Hid (NF w w29 ⟨5, [], 0, .slice none 0 0, []⟩ [Y21.heap.size, w17.heap.size, w11.heap.size]) := Nn.out.go hg30 FR.out.low
        replace Bn : Hid (BX w w29 (Y21.heap.size) ⟨5, [], 0, .slice none 0 0, []⟩) := Bn.out.go hg30 FR.out.low
        replace By : Hid (BX w w29 (w17.heap.size) ⟨yk, yt, yn, .slice ya yL yc, ykids⟩) := By.out.go hg30 FR.out.low
        replace Bx : Hid (BX w w29 (w11.heap.size) ⟨xk, xt, xn, .slice xa xL xc, xkids⟩) := Bx.out.go hg30 FR.out.low
        replace FR : Hid (Frm w b w29) := FR.out.go hg30
        replace PA : Hid (RAt b L (sc) w29) := ra31
        have Nc : Hid (NF w w29 ⟨ck, ct, cn, .slice ca cL cc, ckids⟩ [Y21.heap.size, w17.heap.size, w11.heap.size]) := nf
        have RELc : Hid (Rs.Rel L (.block) (Rs.adv (sy)) (.mk ck ct cn ckids) sc) := relc
        replace GD : Hid (Rs.Good L (sc)) := relc.good
        clear nf HC28 hg30 ra31 relc nd32 hX
        replace TT : Hid (_) := TT.out.bnd RELc.out
        replace SH : Hid (Rs.Sh L s (sc) 0) := (SH.out.trans (Rs.rel_sh (J := .block) trivial RELc.out)).less (by omega)
        obtain ⟨⟨c0, p0⟩, ⟨c1, p1⟩, ⟨c2, p2⟩, ⟨c3, p3⟩, pf, ZP, hZP, gz, FZ, PZ, BZ, NZ⟩ := Bn.out.putR FR.out PA.out Nc.out (by simp)
        have HZ : Hid (_) := And.intro FZ (And.intro PZ (And.intro BZ NZ))
        have Bny : BX w ZP (w17.heap.size) ⟨yk, yt, yn, .slice ya yL yc, ykids⟩ := ⟨By.out.1, (gz.block _ By.out.lt (by have := ltyn; simp; omega)).trans By.out.2⟩
        replace By : Hid (BX w ZP (w17.heap.size) ⟨yk, yt, yn, .slice ya yL yc, ykids⟩) := Bny
        clear Bny
        have Bnx : BX w ZP (w11.heap.size) ⟨xk, xt, xn, .slice xa xL xc, xkids⟩ := ⟨Bx.out.1, (gz.block _ Bx.out.lt (by have := ltxn; simp; omega)).trans Bx.out.2⟩
        replace Bx : Hid (BX w ZP (w11.heap.size) ⟨xk, xt, xn, .slice xa xL xc, xkids⟩) := Bnx
        clear Bnx
        replace Nx : Hid (NF w ZP ⟨xk, xt, xn, .slice xa xL xc, xkids⟩ [Y21.heap.size, w17.heap.size, w11.heap.size]) := Nx.out.set gz (by simp)
        replace Ny : Hid (NF w ZP ⟨yk, yt, yn, .slice ya yL yc, ykids⟩ [Y21.heap.size, w17.heap.size, w11.heap.size]) := Ny.out.set gz (by simp)
        clear FZ PZ BZ NZ gz
        replace FR : Hid (Frm w b ZP) := HZ.out.1
        replace PA : Hid (RAt b L (sc) ZP) := HZ.out.2.1
        replace Bn : Hid (BX w ZP (Y21.heap.size) ⟨ck, ct, cn, .slice ca cL cc, ckids⟩) := HZ.out.2.2.1
        replace Nn : Hid (NF w ZP ⟨ck, ct, cn, .slice ca cL cc, ckids⟩ [Y21.heap.size, w17.heap.size, w11.heap.size]) := HZ.out.2.2.2
        clear HZ
        go_upto_region 17 with fail
        rw [← hZP]
        clear hZP
        clear p0 p1 p2 p3 pf
        obtain ⟨f33, f34, f35, f36⟩ := Bx.out.cs
        obtain ⟨f37, f38, f39, f40⟩ := By.out.cs
        obtain ⟨f41, f42, f43, f44⟩ := Bn.out.cs
        obtain ⟨R45, hR45⟩ : ∃ V, V = ZP.alloc (.cells #[.int .u8 xk, .string (Ln.bs xt), .int .i64 xn, .slice xa xL xc, .int .u8 yk, .string (Ln.bs yt), .int .i64 yn, .slice ya yL yc, .int .u8 ck, .string (Ln.bs ct), .int .i64 cn, .slice ca cL cc] 26) := ⟨_, rfl⟩
        have bR45 : Below ZP.heap.size ZP R45 := hR45 ▸ below_new ZP _
        have hX : ∀ q ∈ ([Y21.heap.size, w17.heap.size, w11.heap.size] : List Nat), q < ZP.heap.size := by
          intro q hq
          simp only [List.mem_cons, List.not_mem_nil, or_false] at hq
          rcases hq with rfl | rfl | rfl
          · exact Bn.out.lt
          · exact By.out.lt
          · exact Bx.out.lt
        have nk : NF w R45 ⟨8, [], 0, .slice (some ⟨ZP.heap.size, 0, none⟩) 3 3, [N1.tr ⟨xk, xt, xn, .slice xa xL xc, xkids⟩, N1.tr ⟨yk, yt, yn, .slice ya yL yc, ykids⟩, N1.tr ⟨ck, ct, cn, .slice ca cL cc, ckids⟩]⟩ [Y21.heap.size, w17.heap.size, w11.heap.size] := by
          rw [hR45]
          refine NF.kids FR.out [⟨xk, xt, xn, .slice xa xL xc, xkids⟩, ⟨yk, yt, yn, .slice ya yL yc, ykids⟩, ⟨ck, ct, cn, .slice ca cL cc, ckids⟩] (fun z hz => ?_) hX (by simp) 8 [] 0 (by omega) (by simp) (by omega)
          simp only [List.mem_cons, List.not_mem_nil, or_false] at hz
          rcases hz with rfl | rfl | rfl
          · exact Nx.out
          · exact Ny.out
          · exact Nn.out
        replace Nx : Hid (NF w R45 ⟨xk, xt, xn, .slice xa xL xc, xkids⟩ [Y21.heap.size, w17.heap.size, w11.heap.size]) := Nx.out.go (grown_low bR45) FR.out.low
        replace Ny : Hid (NF w R45 ⟨yk, yt, yn, .slice ya yL yc, ykids⟩ [Y21.heap.size, w17.heap.size, w11.heap.size]) := Ny.out.go (grown_low bR45) FR.out.low
        replace Nn : Hid (NF w R45 ⟨ck, ct, cn, .slice ca cL cc, ckids⟩ [Y21.heap.size, w17.heap.size, w11.heap.size]) := Nn.out.go (grown_low bR45) FR.out.low
        replace Bn : Hid (BX w R45 (Y21.heap.size) ⟨ck, ct, cn, .slice ca cL cc, ckids⟩) := Bn.out.go (grown_low bR45) FR.out.low
        replace By : Hid (BX w R45 (w17.heap.size) ⟨yk, yt, yn, .slice ya yL yc, ykids⟩) := By.out.go (grown_low bR45) FR.out.low
        replace Bx : Hid (BX w R45 (w11.heap.size) ⟨xk, xt, xn, .slice xa xL xc, xkids⟩) := Bx.out.go (grown_low bR45) FR.out.low
        replace FR : Hid (Frm w b R45) := FR.out.go (grown_low bR45)
        replace PA : Hid (RAt b L (sc) R45) := PA.out.below bR45
        have Nz : Hid (NF w R45 ⟨8, [], 0, .slice (some ⟨ZP.heap.size, 0, none⟩) 3 3, [N1.tr ⟨xk, xt, xn, .slice xa xL xc, xkids⟩, N1.tr ⟨yk, yt, yn, .slice ya yL yc, ykids⟩, N1.tr ⟨ck, ct, cn, .slice ca cL cc, ckids⟩]⟩ [Y21.heap.size, w17.heap.size, w11.heap.size]) := nk
        clear nk hX bR45
        go_wp2_with fail
        rw [← hR45]
        clear hR45
        have HD46 : Hid (_) := rof_any 8 (some ⟨ZP.heap.size, 0, none⟩) 3 3 R45
        refine Calls.mono HD46.out ?_
        rintro e w47 ⟨rfl, hb48⟩
        replace Nx : Hid (NF w w47 ⟨xk, xt, xn, .slice xa xL xc, xkids⟩ [Y21.heap.size, w17.heap.size, w11.heap.size]) := Nx.out.go (grown_low hb48) FR.out.low
        replace Ny : Hid (NF w w47 ⟨yk, yt, yn, .slice ya yL yc, ykids⟩ [Y21.heap.size, w17.heap.size, w11.heap.size]) := Ny.out.go (grown_low hb48) FR.out.low
        replace Nn : Hid (NF w w47 ⟨ck, ct, cn, .slice ca cL cc, ckids⟩ [Y21.heap.size, w17.heap.size, w11.heap.size]) := Nn.out.go (grown_low hb48) FR.out.low
        replace Nz : Hid (NF w w47 ⟨8, [], 0, .slice (some ⟨ZP.heap.size, 0, none⟩) 3 3, [N1.tr ⟨xk, xt, xn, .slice xa xL xc, xkids⟩, N1.tr ⟨yk, yt, yn, .slice ya yL yc, ykids⟩, N1.tr ⟨ck, ct, cn, .slice ca cL cc, ckids⟩]⟩ [Y21.heap.size, w17.heap.size, w11.heap.size]) := Nz.out.go (grown_low hb48) FR.out.low
        replace Bn : Hid (BX w w47 (Y21.heap.size) ⟨ck, ct, cn, .slice ca cL cc, ckids⟩) := Bn.out.go (grown_low hb48) FR.out.low
        replace By : Hid (BX w w47 (w17.heap.size) ⟨yk, yt, yn, .slice ya yL yc, ykids⟩) := By.out.go (grown_low hb48) FR.out.low
        replace Bx : Hid (BX w w47 (w11.heap.size) ⟨xk, xt, xn, .slice xa xL xc, xkids⟩) := Bx.out.go (grown_low hb48) FR.out.low
        replace FR : Hid (Frm w b w47) := FR.out.go (grown_low hb48)
        replace PA : Hid (RAt b L (sc) w47) := PA.out.below hb48
        clear HD46 hb48
        obtain ⟨p0, p1, p2, p3, pf, Z, hZ, ⟨r0, r1, r2, r3⟩, z1, z2, z3⟩ := FR.out.finR PA.out Nz.out
        have HF : Hid (w.grownBy Z (some b) ∧ REnd L .stmt b s w (.returned (.agg #[.int .u8 8, .string (Ln.bs []), .int .i64 0, .slice (some ⟨ZP.heap.size, 0, none⟩) 3 3])) Z) := ⟨z1, _, _, _, rfl, z2, TT.out.done, z3⟩
        clear z1 z2 z3 
        rw [show Ln.bs [] = (⟨#[]⟩ : ByteArray) from rfl] at p2 p3 hZ r1 HF
        go_wp2
        rw [← hZ]
        refine bodyPost_ret (v := .agg #[.int .u8 8, .string ⟨#[]⟩, .int .i64 0, .slice (some ⟨ZP.heap.size, 0, none⟩) 3 3]) (by simp [results, Tryz.results69, go_sem, r0, r1, r2, r3]) rfl HF.out
  · skip
    have Svar : Hid (Rs.isB L (s) [118, 97, 114] = true) := hs2
    clear hs2
    have GA : Hid (Rs.Good L (Rs.adv s)) := Rs.isB_good G0.out Svar.out (by decide)
    have SH : Hid (Rs.Sh L s (Rs.adv s) 0) := (Rs.adv_sh G0.out).less (by omega)
    have TT : Hid (_) := Rs.stmt_var GA.out Svar.out
    obtain ⟨k1, k2, k3, Y5, hY5, st⟩ := radv PA.out GD.out
    replace FR : Hid (Frm w b Y5) := FR.out.go st.1
    replace PA : Hid (RAt b L (Rs.adv (s)) Y5) := st.2
    replace GD : Hid (Rs.Good L (Rs.adv (s))) := GA.out
    clear st
    go_wp2_with fail
    rw [← hY5]
    clear hY5
    clear k1 k2 k3
    have HTL : Hid ((Rs.kindT L (Rs.adv (s)) 1).length ≤ 1000000) := kindT_len GD.out KN.out
    have HN6 : Hid (_) := rnamed_any 6 b L (Rs.adv (s)) Y5 PA.out GD.out KN.out (by omega)
    refine Calls.mono HN6.out ?_
    rintro e w7 ⟨rfl, hst8⟩
    replace SH : Hid (Rs.Sh L s (Rs.kindS L (Rs.adv (s)) 1) 0) := (SH.out.trans (Rs.kindS_sh GD.out)).less (by omega)
    replace TT : Hid (_) := TT.out.name
    replace FR : Hid (Frm w b w7) := FR.out.go hst8.1
    replace PA : Hid (RAt b L (Rs.kindS L (Rs.adv (s)) 1) w7) := hst8.2
    clear HN6 hst8
    replace GD : Hid (Rs.Good L (Rs.kindS L (Rs.adv (s)) 1)) := TT.out.good
    obtain ⟨tx, htx⟩ : ∃ t, t = Rs.kindT L (Rs.adv (s)) 1 := ⟨_, rfl⟩
    rw [← htx] at HTL TT ⊢
    clear htx
    obtain ⟨u, hu⟩ : ∃ u, u = Rs.kindS L (Rs.adv (s)) 1 := ⟨_, rfl⟩
    rw [← hu] at PA GD SH TT
    clear hu
    have Nn : Hid (NF w w7 ⟨6, tx, 0, .slice none 0 0, []⟩ []) := NF.leaf w w7 [] 6 tx 0 (by omega) (HTL.out) (by omega)
    obtain ⟨Y9, hY9⟩ : ∃ V, V = w7.alloc (.cells #[.int .u8 6, .string (Ln.bs tx), .int .i64 0, .slice none 0 0] 26) := ⟨_, rfl⟩
    have bY9 : Below w7.heap.size w7 Y9 := hY9 ▸ below_new w7 _
    have nb : BX w Y9 (w7.heap.size) ⟨6, tx, 0, .slice none 0 0, []⟩ := by rw [hY9]; exact BX.new FR.out ⟨6, tx, 0, .slice none 0 0, []⟩
    replace Nn : Hid (NF w w7 ⟨6, tx, 0, .slice none 0 0, []⟩ [w7.heap.size]) := Nn.out.ex (Nat.le_refl _)
    replace Nn : Hid (NF w Y9 ⟨6, tx, 0, .slice none 0 0, []⟩ [w7.heap.size]) := Nn.out.go (grown_low bY9) FR.out.low
    replace FR : Hid (Frm w b Y9) := FR.out.go (grown_low bY9)
    replace PA : Hid (RAt b L (u) Y9) := PA.out.below bY9
    have Bn : Hid (BX w Y9 (w7.heap.size) ⟨6, tx, 0, .slice none 0 0, []⟩) := nb
    clear nb bY9
    have GO : Hid (Rs.Good L (u)) := GD.out
    go_wp2_with fail
    rw [← hY9]
    clear hY9
    have HW10 : Hid (_) := rwant_any b L (u) [61] Y9 PA.out GD.out KN.out (by decide)
    refine Calls.mono HW10.out ?_
    rintro e w11 ⟨rfl, hst12⟩
    replace Nn : Hid (NF w w11 ⟨6, tx, 0, .slice none 0 0, []⟩ [w7.heap.size]) := Nn.out.go hst12.1 FR.out.low
    replace Bn : Hid (BX w w11 (w7.heap.size) ⟨6, tx, 0, .slice none 0 0, []⟩) := Bn.out.go hst12.1 FR.out.low
    replace FR : Hid (Frm w b w11) := FR.out.go hst12.1
    replace PA : Hid (RAt b L (Rs.want L (u) [61]) w11) := hst12.2
    clear HW10 hst12
    replace GD : Hid (Rs.Good L (Rs.want L (u) [61])) := Rs.want_good GD.out (by decide)
    replace TT : Hid (_) := TT.out.want (t := [61]) (by decide)
    replace SH : Hid (Rs.Sh L s (Rs.want L (u) [61]) 0) := (SH.out.trans (Rs.want_sh GO.out)).less (by omega)
    clear GO
    go_wp2_with fail
    have HC13 : Hid (_) := Hhor.out b L (Rs.want L (u) [61]) w11 KN.out GD.out PA.out (HM0.out _ SH.out)
    refine Calls.mono HC13.out ?_
    rintro e w14 ⟨hg15, tx, vx, sx, rfl, ra16, relx, nd17⟩
    have hX : ∀ q ∈ ([w7.heap.size] : List Nat), q < w11.heap.size := by
      intro q hq
      simp only [List.mem_cons, List.not_mem_nil, or_false] at hq
      subst hq
      exact Bn.out.lt
    obtain ⟨xk, xt, xn, xa, xL, xc, xkids, rfl, rfl, nf⟩ := NF.of_end (X := [w7.heap.size]) nd17 FR.out hX
    replace Nn : Hid (NF w w14 ⟨6, tx, 0, .slice none 0 0, []⟩ [w7.heap.size]) := Nn.out.go hg15 FR.out.low
    replace Bn : Hid (BX w w14 (w7.heap.size) ⟨6, tx, 0, .slice none 0 0, []⟩) := Bn.out.go hg15 FR.out.low
    replace FR : Hid (Frm w b w14) := FR.out.go hg15
    replace PA : Hid (RAt b L (sx) w14) := ra16
    have Nx : Hid (NF w w14 ⟨xk, xt, xn, .slice xa xL xc, xkids⟩ [w7.heap.size]) := nf
    have RELx : Hid (Rs.Rel L (.bin 0) (Rs.want L (u) [61]) (.mk xk xt xn xkids) sx) := relx
    replace GD : Hid (Rs.Good L (sx)) := relx.good
    clear nf HC13 hg15 ra16 relx nd17 hX
    replace TT : Hid (_) := TT.out.bnd RELx.out
    replace SH : Hid (Rs.Sh L s (sx) 0) := (SH.out.trans (Rs.rel_sh (J := .bin 0) trivial RELx.out)).less (by omega)
    have ltnx : w7.heap.size < w14.heap.size := by have := Bn.out.lt; omega
    obtain ⟨Y18, hY18⟩ : ∃ V, V = w14.alloc (.cells #[.int .u8 xk, .string (Ln.bs xt), .int .i64 xn, .slice xa xL xc] 26) := ⟨_, rfl⟩
    have bY18 : Below w14.heap.size w14 Y18 := hY18 ▸ below_new w14 _
    have nb : BX w Y18 (w14.heap.size) ⟨xk, xt, xn, .slice xa xL xc, xkids⟩ := by rw [hY18]; exact BX.new FR.out ⟨xk, xt, xn, .slice xa xL xc, xkids⟩
    replace Nn : Hid (NF w w14 ⟨6, tx, 0, .slice none 0 0, []⟩ [w14.heap.size, w7.heap.size]) := Nn.out.ex (Nat.le_refl _)
    replace Nx : Hid (NF w w14 ⟨xk, xt, xn, .slice xa xL xc, xkids⟩ [w14.heap.size, w7.heap.size]) := Nx.out.ex (Nat.le_refl _)
    replace Nn : Hid (NF w Y18 ⟨6, tx, 0, .slice none 0 0, []⟩ [w14.heap.size, w7.heap.size]) := Nn.out.go (grown_low bY18) FR.out.low
    replace Nx : Hid (NF w Y18 ⟨xk, xt, xn, .slice xa xL xc, xkids⟩ [w14.heap.size, w7.heap.size]) := Nx.out.go (grown_low bY18) FR.out.low
    replace Bn : Hid (BX w Y18 (w7.heap.size) ⟨6, tx, 0, .slice none 0 0, []⟩) := Bn.out.go (grown_low bY18) FR.out.low
    replace FR : Hid (Frm w b Y18) := FR.out.go (grown_low bY18)
    replace PA : Hid (RAt b L (sx) Y18) := PA.out.below bY18
    have Bx : Hid (BX w Y18 (w14.heap.size) ⟨xk, xt, xn, .slice xa xL xc, xkids⟩) := nb
    clear nb bY18
    have GO : Hid (Rs.Good L (sx)) := GD.out
    go_wp2_with fail
    rw [← hY18]
    clear hY18
    have HW19 : Hid (_) := rwant_any b L (sx) [59] Y18 PA.out GD.out KN.out (by decide)
    refine Calls.mono HW19.out ?_
    rintro e w20 ⟨rfl, hst21⟩
    replace Nn : Hid (NF w w20 ⟨6, tx, 0, .slice none 0 0, []⟩ [w14.heap.size, w7.heap.size]) := Nn.out.go hst21.1 FR.out.low
    replace Nx : Hid (NF w w20 ⟨xk, xt, xn, .slice xa xL xc, xkids⟩ [w14.heap.size, w7.heap.size]) := Nx.out.go hst21.1 FR.out.low
    replace Bx : Hid (BX w w20 (w14.heap.size) ⟨xk, xt, xn, .slice xa xL xc, xkids⟩) := Bx.out.go hst21.1 FR.out.low
    replace Bn : Hid (BX w w20 (w7.heap.size) ⟨6, tx, 0, .slice none 0 0, []⟩) := Bn.out.go hst21.1 FR.out.low
    replace FR : Hid (Frm w b w20) := FR.out.go hst21.1
    replace PA : Hid (RAt b L (Rs.want L (sx) [59]) w20) := hst21.2
    clear HW19 hst21
    replace GD : Hid (Rs.Good L (Rs.want L (sx) [59])) := Rs.want_good GD.out (by decide)
    replace TT : Hid (_) := TT.out.want (t := [59]) (by decide)
    replace SH : Hid (Rs.Sh L s (Rs.want L (sx) [59]) 0) := (SH.out.trans (Rs.want_sh GO.out)).less (by omega)
    clear GO
    go_upto_region 7 with fail
    obtain ⟨f22, f23, f24, f25⟩ := Bx.out.cs
    obtain ⟨R26, hR26⟩ : ∃ V, V = w20.alloc (.cells #[.int .u8 xk, .string (Ln.bs xt), .int .i64 xn, .slice xa xL xc] 26) := ⟨_, rfl⟩
    have bR26 : Below w20.heap.size w20 R26 := hR26 ▸ below_new w20 _
    have hX : ∀ q ∈ ([w14.heap.size, w7.heap.size] : List Nat), q < w20.heap.size := by
      intro q hq
      simp only [List.mem_cons, List.not_mem_nil, or_false] at hq
      rcases hq with rfl | rfl
      · exact Bx.out.lt
      · exact Bn.out.lt
    have nk : NF w R26 ⟨6, tx, 0, .slice (some ⟨w20.heap.size, 0, none⟩) 1 1, [N1.tr ⟨xk, xt, xn, .slice xa xL xc, xkids⟩]⟩ [w14.heap.size, w7.heap.size] := by
      rw [hR26]
      refine NF.kids FR.out [⟨xk, xt, xn, .slice xa xL xc, xkids⟩] (fun z hz => ?_) hX (by simp) 6 tx 0 (by omega) (HTL.out) (by omega)
      simp only [List.mem_cons, List.not_mem_nil, or_false] at hz
      subst hz
      exact Nx.out
    replace Nn : Hid (NF w R26 ⟨6, tx, 0, .slice none 0 0, []⟩ [w14.heap.size, w7.heap.size]) := Nn.out.go (grown_low bR26) FR.out.low
    replace Nx : Hid (NF w R26 ⟨xk, xt, xn, .slice xa xL xc, xkids⟩ [w14.heap.size, w7.heap.size]) := Nx.out.go (grown_low bR26) FR.out.low
    replace Bx : Hid (BX w R26 (w14.heap.size) ⟨xk, xt, xn, .slice xa xL xc, xkids⟩) := Bx.out.go (grown_low bR26) FR.out.low
    replace Bn : Hid (BX w R26 (w7.heap.size) ⟨6, tx, 0, .slice none 0 0, []⟩) := Bn.out.go (grown_low bR26) FR.out.low
    replace FR : Hid (Frm w b R26) := FR.out.go (grown_low bR26)
    replace PA : Hid (RAt b L (Rs.want L (sx) [59]) R26) := PA.out.below bR26
    have Nz : Hid (NF w R26 ⟨6, tx, 0, .slice (some ⟨w20.heap.size, 0, none⟩) 1 1, [N1.tr ⟨xk, xt, xn, .slice xa xL xc, xkids⟩]⟩ [w14.heap.size, w7.heap.size]) := nk
    clear nk hX bR26
    obtain ⟨t3, tf, Z1, hZ1, gz1, FZ, PZ, BZ, NZ⟩ := Bn.out.kids FR.out PA.out Nz.out (by simp)
    have HZ : Hid (_) := And.intro FZ (And.intro PZ (And.intro BZ NZ))
    clear FZ PZ BZ NZ gz1
    rw [hR26] at t3 tf hZ1
    go_upto_region 8 with fail
    rw [← hZ1]
    clear hZ1 t3 tf hR26
    replace FR : Hid (Frm w b Z1) := HZ.out.1
    replace PA : Hid (RAt b L (Rs.want L (sx) [59]) Z1) := HZ.out.2.1
    have Bz := HZ.out.2.2.1
    replace Nz : Hid (_) := HZ.out.2.2.2
    obtain ⟨g0, g1, g2, g3⟩ := Bz.cs
    obtain ⟨p0, p1, p2, p3, pf, Z, hZ, ⟨r0, r1, r2, r3⟩, z1, z2, z3⟩ := FR.out.finR PA.out Nz.out
    have HF : Hid (w.grownBy Z (some b) ∧ REnd L .stmt b s w (.returned (.agg #[.int .u8 6, .string (Ln.bs tx), .int .i64 0, .slice (some ⟨w20.heap.size, 0, none⟩) 1 1])) Z) := ⟨z1, _, _, _, rfl, z2, TT.out.done, z3⟩
    clear z1 z2 z3 
    go_wp2
    rw [← hZ]
    refine bodyPost_ret (v := .agg #[.int .u8 6, .string (Ln.bs tx), .int .i64 0, .slice (some ⟨w20.heap.size, 0, none⟩) 1 1]) (by simp [results, Tryz.results69, go_sem, r0, r1, r2, r3]) rfl HF.out
end Go.Proofs.YtfegodofbdlbeaaGreatDoor
