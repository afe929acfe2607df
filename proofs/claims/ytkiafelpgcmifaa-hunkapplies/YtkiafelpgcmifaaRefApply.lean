/-
  The walk of the document's answer, clerestoryref03.Apply.
-/
import Derived.Test.YtkiafelpgcmifaaRefSorted
import Derived.Test.YtkiafelpgcmifaaHnApply
import Derived.Test.YtkiafelpgcmifaaRightBase
namespace Go.Proofs.Ytkiafelpgcmifaa
open Go.RowKit Go.Shelf

attribute [local go_sem] Oper.semAt_some

/-- What holds while hunks are exchanged, by the document. -/
structure ASt (w : World) (L : List (List UInt8)) (xs : List HA) (k f : Nat) (O : List (List UInt8)) (u : Value) (W : World) : Prop where
  le : k ≤ xs.length
  fle : f ≤ L.length
  go : Hn.go L 0 [] (xs.map HA.h) = Hn.go L f O ((xs.drop k).map HA.h)
  so : ∃ last : Int, Hn.sorted last ((xs.drop k).map HA.h) = true ∧ (f : Int) ≤ last + 1
  len : O.length + newSum (xs.drop k) ≤ f + newSum xs
  own : W.ownsRow w.heap.size 9 1 u O.length (O.map txtV)
  low : Below w.heap.size w W
  mem : ∀ s ∈ O, s ∈ L ∨ ∃ x ∈ xs, s ∈ x.new

set_option maxRecDepth 100000 in
set_option maxHeartbeats 800000 in
theorem refApply_any (L : List (List UInt8)) (xs : List HA) (v hv : Value) (w : World) (hrow : RowLow w.heap.size w v L) (hx : HaLow w.heap.size w hv xs) (hf : ∀ x ∈ xs, x.Fits) (hs : ∀ x ∈ xs, x.Small) (hl : xs.length ≤ 1000000) (hsum : L.length + newSum xs ≤ 1000000) (tL : ∀ x ∈ L, x.length ≤ 9223372036854775807) (tn : ∀ x ∈ xs, ∀ s ∈ x.new, s.length ≤ 9223372036854775807) :
    Calls Try.prog 9 #[v, hv] w fun e w' => ApplyPost (Hn.apply L (xs.map HA.h)) w e w' := by
  have AL : Hid (_) := refLines_any L v w.heap.size w hrow (by omega) tL
  have HROW : Hid (RowLow w.heap.size w v L) := hrow
  have HHX : Hid (HaLow w.heap.size w hv xs) := hx
  have HF : Hid (_) := hf
  have HS : Hid (_) := hs
  have HTL : Hid (_) := tL
  have HTN : Hid (_) := tn
  obtain ⟨va, vc, vb, vd, rfl, -, -, -⟩ := hrow.parts
  obtain ⟨⟨ao, cap, b, off, rfl, -, hao, hc⟩, hlow⟩ := hx
  have HC : Hid (_) := hc
  have HLOW : Hid (∀ x ∈ xs, x.Low w.heap.size w) := hlow
  clear hrow hf hs tL tn hc hlow
  refine (callsIn_wide (n := 3)).1 ?_
  refine callsIn_of_wp Try.func9 rfl trivial ?_ rfl
  simp only [Try.ntmps9, List.size_toArray, List.length_cons, List.length_nil, Nat.reduceAdd, Nat.reduceSub, Array.replicate_succ, Array.replicate_zero, List.push_toArray, List.append_toArray, List.nil_append, List.cons_append]
  cases hln : Hn.lines L with
  | false =>
    rw [hln] at AL
    have HE : Hid (Hn.apply L (xs.map HA.h) = .error 4) := by
      show Hn.apply L (xs.map HA.h) = _
      unfold Hn.apply
      rw [hln]; rfl
    clear hln
    gi_wp2_with fail
    refine ⟨trivial, ?_⟩
    refine (callsIn_wide.2 AL.out).mono ?_
    rintro e w1 ⟨rfl, d, rfl⟩
    gi_wp2_with fail
    refine ⟨trivial, ?_⟩
    gi_wp2
    refine bodyPost_ret (v := .tuple #[.slice none 0 0, .int .i64 4]) (by simp [results, Try.results9, go_sem]) rfl ?_
    rw [HE.out]
    exact ⟨below_drewN (Below.refl _ _) d, rfl⟩
  | true =>
    rw [hln] at AL
    have SO : Hid (∀ d, Calls Try.prog 26 #[.slice ao xs.length cap] (w.drewN d) fun e w' => e = .returned (.bool (Hn.sorted (-1) (xs.map HA.h))) ∧ Below w.heap.size (w.drewN d) w') := fun d => refSorted_any xs _ (w.drewN d) HHX.out HF.out HS.out hl
    cases hso : Hn.sorted (-1) (xs.map HA.h) with
    | false =>
      rw [hso] at SO
      have HE : Hid (Hn.apply L (xs.map HA.h) = .error 4) := by
        show Hn.apply L (xs.map HA.h) = _
        unfold Hn.apply
        rw [hln, hso]; rfl
      clear hln hso
      gi_wp2_with fail
      refine ⟨trivial, ?_⟩
      refine (callsIn_wide.2 AL.out).mono ?_
      rintro e w1 ⟨rfl, d, rfl⟩
      gi_wp2_with fail
      refine ⟨trivial, ?_⟩
      refine (callsIn_wide.2 (SO.out d)).mono ?_
      rintro e w2 ⟨rfl, b2⟩
      have B2 : Hid (Below w.heap.size w w2) := (below_drewN (Below.refl _ w) d).trans b2
      clear b2
      gi_wp2
      refine bodyPost_ret (v := .tuple #[.slice none 0 0, .int .i64 4]) (by simp [results, Try.results9, go_sem]) rfl ?_
      rw [HE.out]
      exact ⟨B2.out, rfl⟩
    | true =>
      rw [hso] at SO
      have HE : Hid (Hn.apply L (xs.map HA.h) = ended (Hn.go L 0 [] (xs.map HA.h))) := by
        show Hn.apply L (xs.map HA.h) = _
        unfold Hn.apply
        rw [hln, hso]; rfl
      have HSO : Hid (_) := hso
      clear hln hso
      gi_wp2_with fail
      refine ⟨trivial, ?_⟩
      refine (callsIn_wide.2 AL.out).mono ?_
      rintro e w1 ⟨rfl, d, rfl⟩
      gi_wp2_with fail
      refine ⟨trivial, ?_⟩
      refine (callsIn_wide.2 (SO.out d)).mono ?_
      rintro e w2 ⟨rfl, b2⟩
      have B2 : Hid (Below w.heap.size w w2) := (below_drewN (Below.refl _ w) d).trans b2
      clear b2 SO AL
      gi_wp2_with fail
      gi_loopw [6, 7, 8] (fun u t i wr => ∃ (k f : Nat) (O : List (List UInt8)), i = .int .i64 k ∧ t = .int .i64 f ∧ ASt w L xs k f O u wr) (fun _ _ i _ => xs.length - (intOf i).toNat)
      case atStart => exact ⟨0, 0, [], rfl, rfl, Nat.zero_le _, Nat.zero_le _, rfl, ⟨-1, by simpa using HSO.out, by omega⟩, by simp, World.ownsRow_nil _ _ _ _, B2.out, fun s h => by simp at h⟩
      case round =>
        obtain ⟨k, f, O, rfl, rfl, hst⟩ := hrel
        obtain ⟨at6, c6, hu6⟩ := slice_shape hst.own
        subst hu6
        have HST : Hid (ASt w L xs k f O (.slice at6 O.length c6) wr) := hst
        have hfle := hst.fle
        have hOl : O.length ≤ 2000000 := by
          have h1 := hst.len
          omega
        have LW : Hid (∀ W, Below wr.heap.size wr W → RowLow W.heap.size W (.slice va L.length vc) L) := fun W hW => HROW.out.at (below_then hst.low hW)
        by_cases hlt : k < xs.length
        · obtain ⟨x, hx⟩ : ∃ x, xs[k]? = some x := ⟨xs[k], List.getElem?_eq_getElem hlt⟩
          obtain ⟨rfl, hbm⟩ := hao (by omega)
          obtain ⟨g0, g1, g2⟩ := haCells_get xs k x hx
          have d0 := below_cell_some (HC.out _ _ g0) hst.low
          have d1 := below_cell_some (HC.out _ _ g1) hst.low
          have d2 := below_cell_some (HC.out _ _ g2) hst.low
          have hm2 := List.mem_of_getElem? hx
          have xl := (HLOW.out x hm2).at hst.low
          have hsx := HS.out x hm2
          obtain ⟨last, hs1, hs2⟩ := hst.so
          rw [sorted_at xs k x last hx, Bool.and_eq_true, Bool.and_eq_true, decide_eq_true_eq] at hs1
          obtain ⟨⟨hr1, hr2⟩, hr3⟩ := hs1
          obtain ⟨rb1, rb2⟩ := right_bound hr1
          have rb1' : 0 ≤ x.at_ := rb1
          obtain ⟨p, hp⟩ := Int.eq_ofNat_of_zero_le rb1'
          have rb2' : x.at_ ≤ 1099511627776 := rb2
          have hfp : f ≤ p := by omega
          have hp40 : p ≤ 1099511627776 := by omega
          have GO := go_at L xs k f p O x hx hp
          have NS := newSum_at xs k x hx
          have XLW : Hid (∀ W, Below w.heap.size w W → RowLow w.heap.size W x.vn x.new) := fun W hW => (HLOW.out x hm2).2.below hW (Nat.le_refl _)
          have HMEM : Hid (∀ s ∈ x.new, ∃ y ∈ xs, s ∈ y.new) := fun s hs => ⟨x, hm2, hs⟩
          obtain ⟨⟨a1, k1, e1⟩, ⟨a2, k2, e2⟩⟩ := xl.shape
          obtain ⟨xp, vo, vn, L1, L2⟩ := x
          simp only [HA.Small] at d0 d1 d2 e1 e2 hp hsx GO NS hr3 HMEM XLW
          subst e1 e2 hp
          rw [← Nat.add_assoc] at d1 d2
          obtain ⟨s1, s2⟩ := hsx
          obtain ⟨xlo, xln⟩ := xl
          simp only at xlo xln
          obtain ⟨Z, hZ⟩ : ∃ Z, Z = wr.alloc (.cells #[.int .i64 p, .slice a1 L1.length k1, .slice a2 L2.length k2] 40) := ⟨_, rfl⟩
          have bZ : Below wr.heap.size wr Z := by rw [hZ]; exact below_nw wr _
          have zh : Z.heap[wr.heap.size]? = some (.cells #[.int .i64 p, .slice a1 L1.length k1, .slice a2 L2.length k2] 40 (0, 0)) := by rw [hZ]; exact World.alloc_heap_new wr _
          have z0 : Z.cell? ⟨wr.heap.size, 0, none⟩ = some (.int .i64 p) := by rw [Lib.cell_of_heap zh]; rfl
          have z1 : Z.cell? ⟨wr.heap.size, 1, none⟩ = some (.slice a1 L1.length k1) := by rw [Lib.cell_of_heap zh]; rfl
          have HZH : Hid (_) := zh
          have HBZ : Hid (Below wr.heap.size wr Z) := bZ
          have XLO : Hid (RowLow wr.heap.size wr (.slice a1 L1.length k1) L1) := xlo
          have XLN : Hid (RowLow wr.heap.size wr (.slice a2 L2.length k2) L2) := xln
          have HGO : Hid (_) := GO
          have HNS : Hid (_) := NS
          have HR3 : Hid (_) := hr3
          have hsub : IntKind.i64.wrap ((L.length : Int) - (L1.length : Int)) = (L.length : Int) - (L1.length : Int) := by rw [IntKind.wrap_i64]; omega
          have hadd : IntKind.i64.wrap ((p : Int) + (L1.length : Int)) = (p : Int) + (L1.length : Int) := by rw [IntKind.wrap_i64]; omega
          clear g0 g1 g2 hst hx hm2 xlo xln hs2 hr1 hr2 hr3 rb1 rb2 rb1' rb2' GO NS bZ zh
          by_cases hA : L.length < p + L1.length
          · have q1 : decide ((L.length : Int) - (L1.length : Int) < (p : Int)) = true := by simp; omega
            have HE2 : Hid (Hn.apply L (xs.map HA.h) = .error 6) := by
              show Hn.apply L (xs.map HA.h) = _
              rw [HE.out, HST.out.go, HGO.out, if_pos hA]; rfl
            gi_wp2
            refine bodyPost_ret (v := .tuple #[.slice none 0 0, .int .i64 6]) (by simp [results, Try.results9, go_sem]) rfl ?_
            rw [HE2.out]
            exact ⟨below_then HST.out.low (below_nw wr _), rfl⟩
          · have q1 : decide ((L.length : Int) - (L1.length : Int) < (p : Int)) = false := by simp; omega
            obtain ⟨v1, hsl1, rv1⟩ := slice_row (LW.out Z HBZ.out) (show p ≤ p + L1.length by omega) (by omega)
            rw [Int.natCast_add] at hsl1
            have hpe : Df.part L p (p + L1.length) = (L.drop p).take L1.length := by unfold Df.part; rw [Nat.add_sub_cancel_left]
            rw [hpe] at rv1
            have RV1 : Hid (RowLow Z.heap.size Z v1 ((L.drop p).take L1.length)) := rv1
            obtain ⟨wa, wc, wb, wd, hv1, -, -, -⟩ := rv1.parts
            subst hv1
            have SM : Hid (_) := same_any Z.drew (.slice wa ((L.drop p).take L1.length).length wc) (.slice a1 L1.length k1) _ L1 Z.heap.size Z.heap.size RV1.out (XLO.out.at HBZ.out) (by rw [List.length_take]; omega) (by omega)
            obtain ⟨WL, hWL⟩ : ∃ n, n = ((L.drop p).take L1.length).length := ⟨_, rfl⟩
            rw [← hWL] at hsl1 SM
            clear rv1 hpe hWL
            gi_wp2_with fail
            rw [← hZ]
            clear hZ d0 d1 d2
            refine region_lex (fun W => W.cell? ⟨wr.heap.size, 0, none⟩ = some (.int .i64 p) ∧ W.cell? ⟨wr.heap.size, 1, none⟩ = some (.slice a1 L1.length k1)) 12 2 rfl (by kernel_rfl) (by kernel_rfl) (by kernel_rfl) (by kernel_rfl) (fun _ _ d _ _ h => by cases d <;> exact h) ⟨z0, z1⟩ ?_
            simp only [List.take_succ_cons, List.take_zero]
            iterate 12 (first
              | (apply lexC_want
                 · rfl
                 · exact fun _ => rfl
                 · (intro w' hw'; obtain ⟨q0, q2⟩ := hw'; go_simp; try rfl)
                 simp only [Act.put, List.setIfInBounds_toArray, List.set_cons_zero, List.set_cons_succ])
              | (apply lexC_skip
                 · rfl
                 · exact fun _ => rfl
                 simp only [Act.put, List.setIfInBounds_toArray, List.set_cons_zero, List.set_cons_succ]))
            refine lexC_nil ?_
            refine anyC_one (i := 12) (by kernel_rfl) rfl (by rfl) (fun K1 hK1 => ?_)
            go_simp
            refine ⟨trivial, ?_⟩
            refine (callsIn_wide.2 SM.out).mono ?_
            rintro e w5 ⟨rfl, d5, hw5⟩
            have b5 : Below Z.heap.size Z w5 := by rw [hw5]; exact below_drewN (below_drewN (Below.refl _ Z) 1) d5
            have h5 := (b5.block _ (Array.getElem?_eq_some_iff.1 HZH.out).1).trans HZH.out
            have y0 : w5.cell? ⟨wr.heap.size, 0, none⟩ = some (.int .i64 p) := by rw [Lib.cell_of_heap h5]; rfl
            have y1 : w5.cell? ⟨wr.heap.size, 1, none⟩ = some (.slice a1 L1.length k1) := by rw [Lib.cell_of_heap h5]; rfl
            refine hK1 _ _ ⟨y0, y1⟩ ?_
            clear hK1 hw5 SM hsl1
            refine anyC_one (i := 13) (by kernel_rfl) rfl (by rfl) (fun K1 hK1 => ?_)
            go_simp
            refine hK1 _ _ ⟨y0, y1⟩ ?_
            clear hK1
            refine anyC_done (by kernel_rfl) ?_
            have B5 : Hid (Below wr.heap.size wr w5) := below_then HBZ.out b5
            have H5 : Hid (_) := h5
            clear b5 h5
            by_cases hEq : (L.drop p).take L1.length = L1
            · rw [decide_eq_true hEq]
              obtain ⟨v2, hsl2, rv2⟩ := slice_row (LW.out w5 B5.out) hfp (by omega)
              have hpl : (Df.part L f p).length = p - f := Df.part_length L f p (by omega)
              have ow5 := owns_below HST.out.own B5.out
              have sz5 : w.heap.size ≤ w5.heap.size := (below_then HST.out.low B5.out).size
              obtain ⟨u1, W1, hrun1, own1, gr1⟩ := app_run w.heap.size w5 _ _ _ ow5 v2 (Df.part L f p) _ rv2 sz5 (by omega)
              have bW1 : Below w.heap.size w W1 := (below_then HST.out.low B5.out).grown gr1 sz5 (fun q hq => (World.ownsRow.lt ow5 q hq).1)
              have hW1 := heap_grown ow5 gr1 H5.out (by decide)
              have x2 : W1.cell? ⟨wr.heap.size, 2, none⟩ = some (.slice a2 L2.length k2) := by rw [Lib.cell_of_heap hW1]; rfl
              have rn1 : RowLow w.heap.size W1 (.slice a2 L2.length k2) L2 := XLW.out W1 bW1
              obtain ⟨u2, W2, hrun2, own2, gr2⟩ := app_run w.heap.size W1 _ _ _ own1 (.slice a2 L2.length k2) L2 _ rn1 bW1.size (by omega)
              have bW2 : Below w.heap.size w W2 := bW1.grown gr2 bW1.size (fun q hq => (World.ownsRow.lt own1 q hq).1)
              have hW2 := heap_grown own1 gr2 hW1 (by decide)
              have t0 : W2.cell? ⟨wr.heap.size, 0, none⟩ = some (.int .i64 p) := by rw [Lib.cell_of_heap hW2]; rfl
              have t1 : W2.cell? ⟨wr.heap.size, 1, none⟩ = some (.slice a1 L1.length k1) := by rw [Lib.cell_of_heap hW2]; rfl
              have FIN : Hid (ASt w L xs (k + 1) (p + L1.length) (O ++ (Df.part L f p ++ L2)) u2 W2) := by
                refine ⟨by omega, by omega, ?_, ⟨_, HR3.out, by omega⟩, ?_, ?_, bW2, ?_⟩
                · rw [HST.out.go, HGO.out, if_neg hA, if_pos hEq]
                · have h1 := HST.out.len
                  have h2 := HNS.out
                  rw [List.length_append, List.length_append, hpl]
                  omega
                · have e9 : (O ++ (Df.part L f p ++ L2)).length = O.length + (Df.part L f p).length + L2.length := by rw [List.length_append, List.length_append]; omega
                  rw [e9, List.map_append, List.map_append, ← List.append_assoc]
                  exact own2
                · intro s hs
                  rcases List.mem_append.1 hs with hs | hs
                  · exact HST.out.mem s hs
                  · rcases List.mem_append.1 hs with hs | hs
                    · exact .inl (List.mem_of_mem_drop (List.mem_of_mem_take hs))
                    · exact .inr (HMEM.out s hs)
              obtain ⟨ua1, uc1, hu1⟩ := slice_shape own1
              subst hu1
              clear own1 own2 gr1 gr2 bW1 bW2 hW1 hW2 rn1 rv2 ow5 hpl
              gi_wp2_with (first
                | (gi_at_builtin; refine list_append rfl _ _ 22 rfl (.slice at6 O.length c6) v2 _ _ rfl rfl hrun1 ?_; clear hrun1)
                | (gi_at_builtin; refine list_append rfl _ _ 22 rfl (.slice ua1 (O.length + (Df.part L f p).length) uc1) (.slice a2 L2.length k2) _ _ rfl rfl hrun2 ?_; clear hrun2))
              go_roundw
              case rel => exact ⟨k + 1, p + L1.length, _, by go_num, by go_num, FIN.out⟩
              case measure => simp [intOf]; omega
            · rw [decide_eq_false hEq]
              have HE2 : Hid (Hn.apply L (xs.map HA.h) = .error 121) := by
                show Hn.apply L (xs.map HA.h) = _
                rw [HE.out, HST.out.go, HGO.out, if_neg hA, if_neg hEq]; rfl
              gi_wp2
              refine bodyPost_ret (v := .tuple #[.slice none 0 0, .int .i64 121]) (by simp [results, Try.results9, go_sem]) rfl ?_
              rw [HE2.out]
              exact ⟨below_then HST.out.low B5.out, rfl⟩
        · have hke : k = xs.length := by have := hst.le; omega
          obtain ⟨R, hR⟩ : ∃ R, R = O ++ L.drop f := ⟨_, rfl⟩
          have HG : Hid (Hn.apply L (xs.map HA.h) = ended (.ok R)) := by
            show Hn.apply L (xs.map HA.h) = _
            rw [HE.out, hst.go, hke, List.drop_length, hR]; rfl
          have hrl : R.length ≤ 3000000 := by
            rw [hR, List.length_append, List.length_drop]; omega
          have HRT : Hid (∀ s ∈ R, s.length ≤ 9223372036854775807) := fun s hs => by
            rw [hR] at hs
            rcases List.mem_append.1 hs with hs | hs
            · rcases hst.mem s hs with h9 | ⟨x, hx, h9⟩
              · exact HTL.out s h9
              · exact HTN.out x hx s h9
            · exact HTL.out s (List.mem_of_mem_drop hs)
          obtain ⟨v2, hsl2, rv2⟩ := slice_rest (LW.out wr (Below.refl _ wr)) hfle
          have szr : w.heap.size ≤ wr.heap.size := hst.low.size
          have hdl : (L.drop f).length ≤ 1000000 := by rw [List.length_drop]; omega
          obtain ⟨u1, W1, hrun1, own1, gr1⟩ := app_run w.heap.size wr _ _ _ hst.own v2 (L.drop f) _ rv2 szr (by omega)
          have bW1 : Below w.heap.size w W1 := hst.low.grown gr1 szr (fun q hq => (World.ownsRow.lt hst.own q hq).1)
          have own2 : W1.ownsRow w.heap.size 9 1 u1 R.length (R.map txtV) := by
            rw [hR, List.length_append, List.map_append]
            exact own1
          obtain ⟨ua1, uc1, hu1⟩ := slice_shape own2
          subst hu1
          have OW : Hid (W1.ownsRow w.heap.size 9 1 (.slice ua1 R.length uc1) R.length (R.map txtV)) := own2
          have BW : Hid (Below w.heap.size w W1) := bW1
          have AL : Hid (_) := refLines_any R _ W1.heap.size W1 (RowLow.of_owns own2) (by omega) HRT.out
          have hnl : ¬ ((k : Int) < (xs.length : Int)) := by omega
          clear own1 own2 gr1 bW1 rv2 hst hdl HRT hR hke
          gi_wp2_with (gi_at_builtin; refine list_append rfl _ _ 22 rfl (.slice at6 O.length c6) v2 _ _ rfl rfl hrun1 ?_; clear hrun1)
          refine ⟨trivial, ?_⟩
          refine (callsIn_wide.2 AL.out).mono ?_
          rintro e w3 ⟨rfl, d3, hw3⟩
          have BW3 : Hid (Below w.heap.size w w3) := by
            show Below w.heap.size w w3
            rw [hw3]; exact below_drewN BW.out d3
          have OW3 : Hid (w3.ownsRow w.heap.size 9 1 (.slice ua1 R.length uc1) R.length (R.map txtV)) := by
            show w3.ownsRow w.heap.size 9 1 (.slice ua1 R.length uc1) R.length (R.map txtV)
            rw [hw3]; exact owns_below OW.out (below_drewN (Below.refl _ W1) d3)
          clear hw3 AL
          cases hln : Hn.lines R with
          | false =>
            have HLN : Hid (Hn.lines R = false) := hln
            clear hln
            gi_wp2
            refine bodyPost_ret (v := .tuple #[.slice none 0 0, .int .i64 4]) (by simp [results, Try.results9, go_sem]) rfl ?_
            rw [HG.out]
            simp only [ended, HLN.out]
            exact ⟨BW3.out, rfl⟩
          | true =>
            have HLN : Hid (Hn.lines R = true) := hln
            clear hln
            gi_wp2
            refine bodyPost_ret (v := .tuple #[.slice ua1 R.length uc1, .int .i64 0]) (by simp [results, Try.results9, go_sem]) rfl ?_
            rw [HG.out]
            simp only [ended, HLN.out]
            exact ⟨BW3.out, _, rfl, OW3.out⟩

end Go.Proofs.Ytkiafelpgcmifaa
