/-
  Several texts in one, as they are: RightBase, RefApply, AppliesLaw.
-/
import Derived.Test.YtkiafelpgcmifaaShAll
import Derived.Test.YtkiafelpgcmifaaApartAll
import Derived.Test.YtkiafelpgcmifaaHnApply
import Derived.Test.YtkiafelpgcmifaaHnGreat
import Derived.Test.YtkiafelpgcmifaaHnCopy
import Derived.Test.YtkiafelpgcmifaaHnAwake

/-
  What HunkRight needs beside its callees: the lent row as a row that is read, and rows whose memory is all distinct.
-/
namespace Go.Proofs.Ytkiafelpgcmifaa
open Go.RowKit Go.Shelf

/-- The lent row, without its marks, is read as its hunks. -/
theorem lentRow_low {W : World} {B g cap : Nat} {xs ys : List HA} (h : W.ownsRow B 40 3 (.slice (some ⟨g, 0, none⟩) (xs.length + 12) cap) (xs.length + 12) (haCells ys ++ mks mcH 1 12)) (hla : LentAll B W xs ys) : HaLow W.heap.size W (.slice (some ⟨g, 0, none⟩) xs.length cap) ys := by
  have hyl := hla.1
  have hcap : xs.length + 12 ≤ cap := by
    rcases h.2 with ⟨h0, _⟩ | ⟨g', cap', cur, he, _, _, hnc, _⟩
    · cases h0
    · injection he with _ _ e3; omega
  have hg := (h.lt g rfl).2
  refine ⟨⟨some ⟨g, 0, none⟩, cap, g, 0, by rw [hyl], ⟨by omega, fun e => by cases e⟩, fun _ => ⟨rfl, hg⟩, fun j x hj => ?_⟩, fun y hy => ?_⟩
  · have hjl := (List.getElem?_eq_some_iff.1 hj).1
    have hn := haCells_len' ys
    rw [Nat.zero_add]
    refine (h.cellAt j (by omega)).trans ?_
    rw [List.getElem?_append_left hjl]; exact hj
  · obtain ⟨k, hk⟩ := List.mem_iff_getElem?.1 hy
    have hkl := (List.getElem?_eq_some_iff.1 hk).1
    obtain ⟨x, hx⟩ : ∃ x, xs[k]? = some x := ⟨xs[k]'(by omega), List.getElem?_eq_getElem (by omega)⟩
    exact (hla.2 k x y hx hk).low
/-- What is lent says what was given. -/
theorem lentAll_h {W : World} {B : Nat} {xs ys : List HA} (hla : LentAll B W xs ys) : ys.map HA.h = xs.map HA.h := by
  refine List.ext_getElem? (fun k => ?_)
  rw [List.getElem?_map, List.getElem?_map]
  by_cases hk : k < xs.length
  · have e1 := List.getElem?_eq_getElem hk
    have hk2 : k < ys.length := by rw [hla.1]; exact hk
    have e2 := List.getElem?_eq_getElem hk2
    rw [e1, e2]
    exact congrArg some (hla.2 k _ _ e1 e2).1
  · have hyl := hla.1
    rw [List.getElem?_eq_none (by omega), List.getElem?_eq_none (by omega)]
theorem lentAll_of {W : World} {B : Nat} {xs ys : List HA} (hla : LentAll B W xs ys) {P : HA → Prop} (hP : ∀ x y : HA, y.h = x.h → P x → P y) (h : ∀ x ∈ xs, P x) : ∀ y ∈ ys, P y := fun y hy => by
  obtain ⟨k, hk⟩ := List.mem_iff_getElem?.1 hy
  have hkl := (List.getElem?_eq_some_iff.1 hk).1
  have hyl := hla.1
  obtain ⟨x, hx⟩ : ∃ x, xs[k]? = some x := ⟨xs[k]'(by omega), List.getElem?_eq_getElem (by omega)⟩
  exact hP x y (hla.2 k x y hx hk).1 (h x (List.mem_of_getElem? hx))
theorem h_parts {x y : HA} (h : y.h = x.h) : y.at_ = x.at_ ∧ y.old = x.old ∧ y.new = x.new := by
  obtain ⟨p, vo, vn, P1, P2⟩ := x
  obtain ⟨p', vo', vn', Q1, Q2⟩ := y
  simp only [HA.h, Hn.H.mk.injEq] at h
  exact h
theorem fits_of {x y : HA} (h : y.h = x.h) (f : x.Fits) : y.Fits := by
  obtain ⟨h1, h2, h3⟩ := h_parts h
  unfold HA.Fits at f ⊢
  rw [h1, h2, h3]; exact f
theorem small_of {x y : HA} (h : y.h = x.h) (f : x.Small) : y.Small := by
  obtain ⟨h1, h2, h3⟩ := h_parts h
  unfold HA.Small at f ⊢
  rw [h2, h3]; exact f
theorem HaLow.at {w W : World} {v : Value} {xs : List HA} (h : HaLow w.heap.size w v xs) (hb : Below w.heap.size w W) : HaLow W.heap.size W v xs := by
  obtain ⟨⟨ao, cap, b, off, e, hc, ha, hx⟩, -⟩ := h.below hb (Nat.le_refl _)
  exact ⟨⟨ao, cap, b, off, e, hc, fun h0 => ⟨(ha h0).1, Nat.lt_of_lt_of_le (ha h0).2 hb.size⟩, hx⟩, fun x hxm => (h.2 x hxm).at hb⟩

end Go.Proofs.Ytkiafelpgcmifaa

/-
  The walk of the document's answer, clerestoryref03.Apply.
-/
namespace Go.Proofs.Ytkiafelpgcmifaa
open Go.RowKit Go.Shelf

attribute [local go_sem] Oper.semAt_some

/-- What holds while hunks are exchanged, by the document. -/
structure ASt (w : World) (L : List (List UInt8)) (xs : List HA) (k f : Nat) (O : List (List UInt8)) (u : Value) (W : World) : Prop where
  le : k ≤ xs.length
  fle : f ≤ L.length
  go : Hn.go L 0 [] (xs.map HA.h) = Hn.go L f O ((xs.drop k).map HA.h)
  so : ∃ last : Int, Hn.sorted last ((xs.drop k).map HA.h) = true ∧ (f : Int) ≤ last + 1
  len : O.length + newSum (xs.drop k) ≤ f + newSum xs
  own : W.ownsRow w.heap.size 9 1 u O.length (O.map txtV)
  low : Below w.heap.size w W
  mem : ∀ s ∈ O, s ∈ L ∨ ∃ x ∈ xs, s ∈ x.new

set_option maxRecDepth 100000 in
set_option maxHeartbeats 800000 in
theorem refApply_any (L : List (List UInt8)) (xs : List HA) (v hv : Value) (w : World) (hrow : RowLow w.heap.size w v L) (hx : HaLow w.heap.size w hv xs) (hf : ∀ x ∈ xs, x.Fits) (hs : ∀ x ∈ xs, x.Small) (hl : xs.length ≤ 1000000) (hsum : L.length + newSum xs ≤ 1000000) (tL : ∀ x ∈ L, x.length ≤ 9223372036854775807) (tn : ∀ x ∈ xs, ∀ s ∈ x.new, s.length ≤ 9223372036854775807) :
    Calls Try.prog 9 #[v, hv] w fun e w' => ApplyPost (Hn.apply L (xs.map HA.h)) w e w' := by
  have AL : Hid (_) := refLines_any L v w.heap.size w hrow (by omega) tL
  have HROW : Hid (RowLow w.heap.size w v L) := hrow
  have HHX : Hid (HaLow w.heap.size w hv xs) := hx
  have HF : Hid (_) := hf
  have HS : Hid (_) := hs
  have HTL : Hid (_) := tL
  have HTN : Hid (_) := tn
  obtain ⟨va, vc, vb, vd, rfl, -, -, -⟩ := hrow.parts
  obtain ⟨⟨ao, cap, b, off, rfl, -, hao, hc⟩, hlow⟩ := hx
  have HC : Hid (_) := hc
  have HLOW : Hid (∀ x ∈ xs, x.Low w.heap.size w) := hlow
  clear hrow hf hs tL tn hc hlow
  refine (callsIn_wide (n := 3)).1 ?_
  refine callsIn_of_wp Try.func9 rfl trivial ?_ rfl
  simp only [Try.ntmps9, List.size_toArray, List.length_cons, List.length_nil, Nat.reduceAdd, Nat.reduceSub, Array.replicate_succ, Array.replicate_zero, List.push_toArray, List.append_toArray, List.nil_append, List.cons_append]
  cases hln : Hn.lines L with
  | false =>
    rw [hln] at AL
    have HE : Hid (Hn.apply L (xs.map HA.h) = .error 4) := by
      show Hn.apply L (xs.map HA.h) = _
      unfold Hn.apply
      rw [hln]; rfl
    clear hln
    gi_wp2_with fail
    refine ⟨trivial, ?_⟩
    refine (callsIn_wide.2 AL.out).mono ?_
    rintro e w1 ⟨rfl, d, rfl⟩
    gi_wp2_with fail
    refine ⟨trivial, ?_⟩
    gi_wp2
    refine bodyPost_ret (v := .tuple #[.slice none 0 0, .int .i64 4]) (by simp [results, Try.results9, go_sem]) rfl ?_
    rw [HE.out]
    exact ⟨below_drewN (Below.refl _ _) d, rfl⟩
  | true =>
    rw [hln] at AL
    have SO : Hid (∀ d, Calls Try.prog 26 #[.slice ao xs.length cap] (w.drewN d) fun e w' => e = .returned (.bool (Hn.sorted (-1) (xs.map HA.h))) ∧ Below w.heap.size (w.drewN d) w') := fun d => refSorted_any xs _ (w.drewN d) HHX.out HF.out HS.out hl
    cases hso : Hn.sorted (-1) (xs.map HA.h) with
    | false =>
      rw [hso] at SO
      have HE : Hid (Hn.apply L (xs.map HA.h) = .error 4) := by
        show Hn.apply L (xs.map HA.h) = _
        unfold Hn.apply
        rw [hln, hso]; rfl
      clear hln hso
      gi_wp2_with fail
      refine ⟨trivial, ?_⟩
      refine (callsIn_wide.2 AL.out).mono ?_
      rintro e w1 ⟨rfl, d, rfl⟩
      gi_wp2_with fail
      refine ⟨trivial, ?_⟩
      refine (callsIn_wide.2 (SO.out d)).mono ?_
      rintro e w2 ⟨rfl, b2⟩
      have B2 : Hid (Below w.heap.size w w2) := (below_drewN (Below.refl _ w) d).trans b2
      clear b2
      gi_wp2
      refine bodyPost_ret (v := .tuple #[.slice none 0 0, .int .i64 4]) (by simp [results, Try.results9, go_sem]) rfl ?_
      rw [HE.out]
      exact ⟨B2.out, rfl⟩
    | true =>
      rw [hso] at SO
      have HE : Hid (Hn.apply L (xs.map HA.h) = ended (Hn.go L 0 [] (xs.map HA.h))) := by
        show Hn.apply L (xs.map HA.h) = _
        unfold Hn.apply
        rw [hln, hso]; rfl
      have HSO : Hid (_) := hso
      clear hln hso
      gi_wp2_with fail
      refine ⟨trivial, ?_⟩
      refine (callsIn_wide.2 AL.out).mono ?_
      rintro e w1 ⟨rfl, d, rfl⟩
      gi_wp2_with fail
      refine ⟨trivial, ?_⟩
      refine (callsIn_wide.2 (SO.out d)).mono ?_
      rintro e w2 ⟨rfl, b2⟩
      have B2 : Hid (Below w.heap.size w w2) := (below_drewN (Below.refl _ w) d).trans b2
      clear b2 SO AL
      gi_wp2_with fail
      gi_loopw [6, 7, 8] (fun u t i wr => ∃ (k f : Nat) (O : List (List UInt8)), i = .int .i64 k ∧ t = .int .i64 f ∧ ASt w L xs k f O u wr) (fun _ _ i _ => xs.length - (intOf i).toNat)
      case atStart => exact ⟨0, 0, [], rfl, rfl, Nat.zero_le _, Nat.zero_le _, rfl, ⟨-1, by simpa using HSO.out, by omega⟩, by simp, World.ownsRow_nil _ _ _ _, B2.out, fun s h => by simp at h⟩
      case round =>
        obtain ⟨k, f, O, rfl, rfl, hst⟩ := hrel
        obtain ⟨at6, c6, hu6⟩ := slice_shape hst.own
        subst hu6
        have HST : Hid (ASt w L xs k f O (.slice at6 O.length c6) wr) := hst
        have hfle := hst.fle
        have hOl : O.length ≤ 2000000 := by
          have h1 := hst.len
          omega
        have LW : Hid (∀ W, Below wr.heap.size wr W → RowLow W.heap.size W (.slice va L.length vc) L) := fun W hW => HROW.out.at (below_then hst.low hW)
        by_cases hlt : k < xs.length
        · obtain ⟨x, hx⟩ : ∃ x, xs[k]? = some x := ⟨xs[k], List.getElem?_eq_getElem hlt⟩
          obtain ⟨rfl, hbm⟩ := hao (by omega)
          obtain ⟨g0, g1, g2⟩ := haCells_get xs k x hx
          have d0 := below_cell_some (HC.out _ _ g0) hst.low
          have d1 := below_cell_some (HC.out _ _ g1) hst.low
          have d2 := below_cell_some (HC.out _ _ g2) hst.low
          have hm2 := List.mem_of_getElem? hx
          have xl := (HLOW.out x hm2).at hst.low
          have hsx := HS.out x hm2
          obtain ⟨last, hs1, hs2⟩ := hst.so
          rw [sorted_at xs k x last hx, Bool.and_eq_true, Bool.and_eq_true, decide_eq_true_eq] at hs1
          obtain ⟨⟨hr1, hr2⟩, hr3⟩ := hs1
          obtain ⟨rb1, rb2⟩ := right_bound hr1
          have rb1' : 0 ≤ x.at_ := rb1
          obtain ⟨p, hp⟩ := Int.eq_ofNat_of_zero_le rb1'
          have rb2' : x.at_ ≤ 1099511627776 := rb2
          have hfp : f ≤ p := by omega
          have hp40 : p ≤ 1099511627776 := by omega
          have GO := go_at L xs k f p O x hx hp
          have NS := newSum_at xs k x hx
          have XLW : Hid (∀ W, Below w.heap.size w W → RowLow w.heap.size W x.vn x.new) := fun W hW => (HLOW.out x hm2).2.below hW (Nat.le_refl _)
          have HMEM : Hid (∀ s ∈ x.new, ∃ y ∈ xs, s ∈ y.new) := fun s hs => ⟨x, hm2, hs⟩
          obtain ⟨⟨a1, k1, e1⟩, ⟨a2, k2, e2⟩⟩ := xl.shape
          obtain ⟨xp, vo, vn, L1, L2⟩ := x
          simp only [HA.Small] at d0 d1 d2 e1 e2 hp hsx GO NS hr3 HMEM XLW
          subst e1 e2 hp
          rw [← Nat.add_assoc] at d1 d2
          obtain ⟨s1, s2⟩ := hsx
          obtain ⟨xlo, xln⟩ := xl
          simp only at xlo xln
          obtain ⟨Z, hZ⟩ : ∃ Z, Z = wr.alloc (.cells #[.int .i64 p, .slice a1 L1.length k1, .slice a2 L2.length k2] 40) := ⟨_, rfl⟩
          have bZ : Below wr.heap.size wr Z := by rw [hZ]; exact below_nw wr _
          have zh : Z.heap[wr.heap.size]? = some (.cells #[.int .i64 p, .slice a1 L1.length k1, .slice a2 L2.length k2] 40 (0, 0)) := by rw [hZ]; exact World.alloc_heap_new wr _
          have z0 : Z.cell? ⟨wr.heap.size, 0, none⟩ = some (.int .i64 p) := by rw [Lib.cell_of_heap zh]; rfl
          have z1 : Z.cell? ⟨wr.heap.size, 1, none⟩ = some (.slice a1 L1.length k1) := by rw [Lib.cell_of_heap zh]; rfl
          have HZH : Hid (_) := zh
          have HBZ : Hid (Below wr.heap.size wr Z) := bZ
          have XLO : Hid (RowLow wr.heap.size wr (.slice a1 L1.length k1) L1) := xlo
          have XLN : Hid (RowLow wr.heap.size wr (.slice a2 L2.length k2) L2) := xln
          have HGO : Hid (_) := GO
          have HNS : Hid (_) := NS
          have HR3 : Hid (_) := hr3
          have hsub : IntKind.i64.wrap ((L.length : Int) - (L1.length : Int)) = (L.length : Int) - (L1.length : Int) := by rw [IntKind.wrap_i64]; omega
          have hadd : IntKind.i64.wrap ((p : Int) + (L1.length : Int)) = (p : Int) + (L1.length : Int) := by rw [IntKind.wrap_i64]; omega
          clear g0 g1 g2 hst hx hm2 xlo xln hs2 hr1 hr2 hr3 rb1 rb2 rb1' rb2' GO NS bZ zh
          by_cases hA : L.length < p + L1.length
          · have q1 : decide ((L.length : Int) - (L1.length : Int) < (p : Int)) = true := by simp; omega
            have HE2 : Hid (Hn.apply L (xs.map HA.h) = .error 6) := by
              show Hn.apply L (xs.map HA.h) = _
              rw [HE.out, HST.out.go, HGO.out, if_pos hA]; rfl
            gi_wp2
            refine bodyPost_ret (v := .tuple #[.slice none 0 0, .int .i64 6]) (by simp [results, Try.results9, go_sem]) rfl ?_
            rw [HE2.out]
            exact ⟨below_then HST.out.low (below_nw wr _), rfl⟩
          · have q1 : decide ((L.length : Int) - (L1.length : Int) < (p : Int)) = false := by simp; omega
            obtain ⟨v1, hsl1, rv1⟩ := slice_row (LW.out Z HBZ.out) (show p ≤ p + L1.length by omega) (by omega)
            rw [Int.natCast_add] at hsl1
            have hpe : Df.part L p (p + L1.length) = (L.drop p).take L1.length := by unfold Df.part; rw [Nat.add_sub_cancel_left]
            rw [hpe] at rv1
            have RV1 : Hid (RowLow Z.heap.size Z v1 ((L.drop p).take L1.length)) := rv1
            obtain ⟨wa, wc, wb, wd, hv1, -, -, -⟩ := rv1.parts
            subst hv1
            have SM : Hid (_) := same_any Z.drew (.slice wa ((L.drop p).take L1.length).length wc) (.slice a1 L1.length k1) _ L1 Z.heap.size Z.heap.size RV1.out (XLO.out.at HBZ.out) (by rw [List.length_take]; omega) (by omega)
            obtain ⟨WL, hWL⟩ : ∃ n, n = ((L.drop p).take L1.length).length := ⟨_, rfl⟩
            rw [← hWL] at hsl1 SM
            clear rv1 hpe hWL
            gi_wp2_with fail
            rw [← hZ]
            clear hZ d0 d1 d2
            refine region_lex (fun W => W.cell? ⟨wr.heap.size, 0, none⟩ = some (.int .i64 p) ∧ W.cell? ⟨wr.heap.size, 1, none⟩ = some (.slice a1 L1.length k1)) 12 2 rfl (by kernel_rfl) (by kernel_rfl) (by kernel_rfl) (by kernel_rfl) (fun _ _ d _ _ h => by cases d <;> exact h) ⟨z0, z1⟩ ?_
            simp only [List.take_succ_cons, List.take_zero]
            iterate 12 (first
              | (apply lexC_want
                 · rfl
                 · exact fun _ => rfl
                 · (intro w' hw'; obtain ⟨q0, q2⟩ := hw'; go_simp; try rfl)
                 simp only [Act.put, List.setIfInBounds_toArray, List.set_cons_zero, List.set_cons_succ])
              | (apply lexC_skip
                 · rfl
                 · exact fun _ => rfl
                 simp only [Act.put, List.setIfInBounds_toArray, List.set_cons_zero, List.set_cons_succ]))
            refine lexC_nil ?_
            refine anyC_one (i := 12) (by kernel_rfl) rfl (by rfl) (fun K1 hK1 => ?_)
            go_simp
            refine ⟨trivial, ?_⟩
            refine (callsIn_wide.2 SM.out).mono ?_
            rintro e w5 ⟨rfl, d5, hw5⟩
            have b5 : Below Z.heap.size Z w5 := by rw [hw5]; exact below_drewN (below_drewN (Below.refl _ Z) 1) d5
            have h5 := (b5.block _ (Array.getElem?_eq_some_iff.1 HZH.out).1).trans HZH.out
            have y0 : w5.cell? ⟨wr.heap.size, 0, none⟩ = some (.int .i64 p) := by rw [Lib.cell_of_heap h5]; rfl
            have y1 : w5.cell? ⟨wr.heap.size, 1, none⟩ = some (.slice a1 L1.length k1) := by rw [Lib.cell_of_heap h5]; rfl
            refine hK1 _ _ ⟨y0, y1⟩ ?_
            clear hK1 hw5 SM hsl1
            refine anyC_one (i := 13) (by kernel_rfl) rfl (by rfl) (fun K1 hK1 => ?_)
            go_simp
            refine hK1 _ _ ⟨y0, y1⟩ ?_
            clear hK1
            refine anyC_done (by kernel_rfl) ?_
            have B5 : Hid (Below wr.heap.size wr w5) := below_then HBZ.out b5
            have H5 : Hid (_) := h5
            clear b5 h5
            by_cases hEq : (L.drop p).take L1.length = L1
            · rw [decide_eq_true hEq]
              obtain ⟨v2, hsl2, rv2⟩ := slice_row (LW.out w5 B5.out) hfp (by omega)
              have hpl : (Df.part L f p).length = p - f := Df.part_length L f p (by omega)
              have ow5 := owns_below HST.out.own B5.out
              have sz5 : w.heap.size ≤ w5.heap.size := (below_then HST.out.low B5.out).size
              obtain ⟨u1, W1, hrun1, own1, gr1⟩ := app_run w.heap.size w5 _ _ _ ow5 v2 (Df.part L f p) _ rv2 sz5 (by omega)
              have bW1 : Below w.heap.size w W1 := (below_then HST.out.low B5.out).grown gr1 sz5 (fun q hq => (World.ownsRow.lt ow5 q hq).1)
              have hW1 := heap_grown ow5 gr1 H5.out (by decide)
              have x2 : W1.cell? ⟨wr.heap.size, 2, none⟩ = some (.slice a2 L2.length k2) := by rw [Lib.cell_of_heap hW1]; rfl
              have rn1 : RowLow w.heap.size W1 (.slice a2 L2.length k2) L2 := XLW.out W1 bW1
              obtain ⟨u2, W2, hrun2, own2, gr2⟩ := app_run w.heap.size W1 _ _ _ own1 (.slice a2 L2.length k2) L2 _ rn1 bW1.size (by omega)
              have bW2 : Below w.heap.size w W2 := bW1.grown gr2 bW1.size (fun q hq => (World.ownsRow.lt own1 q hq).1)
              have hW2 := heap_grown own1 gr2 hW1 (by decide)
              have t0 : W2.cell? ⟨wr.heap.size, 0, none⟩ = some (.int .i64 p) := by rw [Lib.cell_of_heap hW2]; rfl
              have t1 : W2.cell? ⟨wr.heap.size, 1, none⟩ = some (.slice a1 L1.length k1) := by rw [Lib.cell_of_heap hW2]; rfl
              have FIN : Hid (ASt w L xs (k + 1) (p + L1.length) (O ++ (Df.part L f p ++ L2)) u2 W2) := by
                refine ⟨by omega, by omega, ?_, ⟨_, HR3.out, by omega⟩, ?_, ?_, bW2, ?_⟩
                · rw [HST.out.go, HGO.out, if_neg hA, if_pos hEq]
                · have h1 := HST.out.len
                  have h2 := HNS.out
                  rw [List.length_append, List.length_append, hpl]
                  omega
                · have e9 : (O ++ (Df.part L f p ++ L2)).length = O.length + (Df.part L f p).length + L2.length := by rw [List.length_append, List.length_append]; omega
                  rw [e9, List.map_append, List.map_append, ← List.append_assoc]
                  exact own2
                · intro s hs
                  rcases List.mem_append.1 hs with hs | hs
                  · exact HST.out.mem s hs
                  · rcases List.mem_append.1 hs with hs | hs
                    · exact .inl (List.mem_of_mem_drop (List.mem_of_mem_take hs))
                    · exact .inr (HMEM.out s hs)
              obtain ⟨ua1, uc1, hu1⟩ := slice_shape own1
              subst hu1
              clear own1 own2 gr1 gr2 bW1 bW2 hW1 hW2 rn1 rv2 ow5 hpl
              gi_wp2_with (first
                | (gi_at_builtin; refine list_append rfl _ _ 22 rfl (.slice at6 O.length c6) v2 _ _ rfl rfl hrun1 ?_; clear hrun1)
                | (gi_at_builtin; refine list_append rfl _ _ 22 rfl (.slice ua1 (O.length + (Df.part L f p).length) uc1) (.slice a2 L2.length k2) _ _ rfl rfl hrun2 ?_; clear hrun2))
              go_roundw
              case rel => exact ⟨k + 1, p + L1.length, _, by go_num, by go_num, FIN.out⟩
              case measure => simp [intOf]; omega
            · rw [decide_eq_false hEq]
              have HE2 : Hid (Hn.apply L (xs.map HA.h) = .error 121) := by
                show Hn.apply L (xs.map HA.h) = _
                rw [HE.out, HST.out.go, HGO.out, if_neg hA, if_neg hEq]; rfl
              gi_wp2
              refine bodyPost_ret (v := .tuple #[.slice none 0 0, .int .i64 121]) (by simp [results, Try.results9, go_sem]) rfl ?_
              rw [HE2.out]
              exact ⟨below_then HST.out.low B5.out, rfl⟩
        · have hke : k = xs.length := by have := hst.le; omega
          obtain ⟨R, hR⟩ : ∃ R, R = O ++ L.drop f := ⟨_, rfl⟩
          have HG : Hid (Hn.apply L (xs.map HA.h) = ended (.ok R)) := by
            show Hn.apply L (xs.map HA.h) = _
            rw [HE.out, hst.go, hke, List.drop_length, hR]; rfl
          have hrl : R.length ≤ 3000000 := by
            rw [hR, List.length_append, List.length_drop]; omega
          have HRT : Hid (∀ s ∈ R, s.length ≤ 9223372036854775807) := fun s hs => by
            rw [hR] at hs
            rcases List.mem_append.1 hs with hs | hs
            · rcases hst.mem s hs with h9 | ⟨x, hx, h9⟩
              · exact HTL.out s h9
              · exact HTN.out x hx s h9
            · exact HTL.out s (List.mem_of_mem_drop hs)
          obtain ⟨v2, hsl2, rv2⟩ := slice_rest (LW.out wr (Below.refl _ wr)) hfle
          have szr : w.heap.size ≤ wr.heap.size := hst.low.size
          have hdl : (L.drop f).length ≤ 1000000 := by rw [List.length_drop]; omega
          obtain ⟨u1, W1, hrun1, own1, gr1⟩ := app_run w.heap.size wr _ _ _ hst.own v2 (L.drop f) _ rv2 szr (by omega)
          have bW1 : Below w.heap.size w W1 := hst.low.grown gr1 szr (fun q hq => (World.ownsRow.lt hst.own q hq).1)
          have own2 : W1.ownsRow w.heap.size 9 1 u1 R.length (R.map txtV) := by
            rw [hR, List.length_append, List.map_append]
            exact own1
          obtain ⟨ua1, uc1, hu1⟩ := slice_shape own2
          subst hu1
          have OW : Hid (W1.ownsRow w.heap.size 9 1 (.slice ua1 R.length uc1) R.length (R.map txtV)) := own2
          have BW : Hid (Below w.heap.size w W1) := bW1
          have AL : Hid (_) := refLines_any R _ W1.heap.size W1 (RowLow.of_owns own2) (by omega) HRT.out
          have hnl : ¬ ((k : Int) < (xs.length : Int)) := by omega
          clear own1 own2 gr1 bW1 rv2 hst hdl HRT hR hke
          gi_wp2_with (gi_at_builtin; refine list_append rfl _ _ 22 rfl (.slice at6 O.length c6) v2 _ _ rfl rfl hrun1 ?_; clear hrun1)
          refine ⟨trivial, ?_⟩
          refine (callsIn_wide.2 AL.out).mono ?_
          rintro e w3 ⟨rfl, d3, hw3⟩
          have BW3 : Hid (Below w.heap.size w w3) := by
            show Below w.heap.size w w3
            rw [hw3]; exact below_drewN BW.out d3
          have OW3 : Hid (w3.ownsRow w.heap.size 9 1 (.slice ua1 R.length uc1) R.length (R.map txtV)) := by
            show w3.ownsRow w.heap.size 9 1 (.slice ua1 R.length uc1) R.length (R.map txtV)
            rw [hw3]; exact owns_below OW.out (below_drewN (Below.refl _ W1) d3)
          clear hw3 AL
          cases hln : Hn.lines R with
          | false =>
            have HLN : Hid (Hn.lines R = false) := hln
            clear hln
            gi_wp2
            refine bodyPost_ret (v := .tuple #[.slice none 0 0, .int .i64 4]) (by simp [results, Try.results9, go_sem]) rfl ?_
            rw [HG.out]
            simp only [ended, HLN.out]
            exact ⟨BW3.out, rfl⟩
          | true =>
            have HLN : Hid (Hn.lines R = true) := hln
            clear hln
            gi_wp2
            refine bodyPost_ret (v := .tuple #[.slice ua1 R.length uc1, .int .i64 0]) (by simp [results, Try.results9, go_sem]) rfl ?_
            rw [HG.out]
            simp only [ended, HLN.out]
            exact ⟨BW3.out, _, rfl, OW3.out⟩

end Go.Proofs.Ytkiafelpgcmifaa

/-
  The walk of the law HunkApplies.
-/
namespace Go.Proofs.Ytkiafelpgcmifaa
open Go.RowKit Go.Shelf

attribute [local go_sem] Oper.semAt_some

/-- An answer's number, and its lines. -/
def resC : Except Nat (List (List UInt8)) → Nat
  | .error c => c
  | .ok _ => 0
def resO : Except Nat (List (List UInt8)) → List (List UInt8)
  | .error _ => []
  | .ok o => o
theorem apply_two {r : Except Nat (List (List UInt8))} {w w' : World} {e : Ending} (h : ApplyPost r w e w') :
    ∃ tv, e = .returned (.tuple #[tv, .int .i64 ((resC r : Nat) : Int)]) ∧ w'.ownsRow w.heap.size 9 1 tv (resO r).length ((resO r).map txtV) ∧ Below w.heap.size w w' := by
  obtain ⟨hb, h⟩ := h
  cases r with
  | error c => exact ⟨_, h, World.ownsRow_nil _ _ _ _, hb⟩
  | ok o =>
    obtain ⟨tv, h1, h2⟩ := h
    exact ⟨tv, h1, h2, hb⟩
theorem go_len (L : List (List UInt8)) : ∀ (hs : List Hn.H) (f : Nat) (O o : List (List UInt8)) (last : Int), Hn.sorted last hs = true → (f : Int) ≤ last + 1 → f ≤ L.length → Hn.go L f O hs = .ok o → o.length + f ≤ O.length + L.length + (hs.map fun h => h.new.length).sum := by
  intro hs
  induction hs with
  | nil =>
    intro f O o last _ _ hf h
    simp only [Hn.go] at h
    injection h with h
    subst h
    simp only [List.length_append, List.length_drop, List.map_nil, List.sum_nil]; omega
  | cons h r ih =>
    intro f O o last hs hl hf hgo
    simp only [Hn.sorted, Bool.and_eq_true, decide_eq_true_eq] at hs
    obtain ⟨⟨h1, h2⟩, h3⟩ := hs
    obtain ⟨b1, -⟩ := right_bound h1
    simp only [Hn.go] at hgo
    split at hgo
    · cases hgo
    · split at hgo
      · have := ih _ _ _ _ h3 (by omega) (by omega) hgo
        simp only [List.length_append, List.length_drop, List.length_take, List.map_cons, List.sum_cons] at this ⊢
        omega
      · cases hgo
theorem resO_len (L : List (List UInt8)) (hs : List Hn.H) : (resO (Hn.apply L hs)).length ≤ L.length + (hs.map fun h => h.new.length).sum := by
  unfold Hn.apply
  split
  · rename_i hc
    rw [Bool.and_eq_true] at hc
    cases hg : Hn.go L 0 [] hs with
    | error e => simp [resO]
    | ok o =>
      have := go_len L hs 0 [] o (-1) hc.2 (by omega) (by omega) hg
      simp only [List.length_nil] at this
      simp only
      split
      · simp only [resO]; omega
      · simp [resO]
  · simp [resO]
theorem newSum_h (xs : List HA) : newSum xs = ((xs.map HA.h).map fun h => h.new.length).sum := by
  unfold newSum; rw [List.map_map]; rfl
theorem LentAll.base {B B' : Nat} {W : World} {xs ys : List HA} (h : LentAll B W xs ys) (hb : B' ≤ B) : LentAll B' W xs ys := ⟨h.1, fun j x y hx hy => (h.2 j x y hx hy).base hb⟩
theorem LentAll.room {B N : Nat} {W : World} {xs ys : List HA} (h : LentAll B W xs ys) (hN : W.heap.size ≤ N) : ∀ y ∈ ys, HRoom B N W y := fun y hy => by
  obtain ⟨k, hk⟩ := List.mem_iff_getElem?.1 hy
  have hkl := (List.getElem?_eq_some_iff.1 hk).1
  have h1 := h.1
  exact hroom_of (h.2 k xs[k] y (List.getElem?_eq_getElem (by omega)) hk) hN
theorem HRoom.over {B N : Nat} {W X : World} {y : HA} (h : HRoom B N W y) (k : OverW B N W X) : HRoom B N X y := by
  obtain ⟨⟨g1, c1, e1, r1⟩, ⟨g2, c2, e2, r2⟩⟩ := h
  exact ⟨⟨g1, c1, e1, r1.over k⟩, ⟨g2, c2, e2, r2.over k⟩⟩

set_option maxRecDepth 100000 in
set_option maxHeartbeats 8000000 in
theorem applies_law (L : List (List UInt8)) (xs : List HA) (v hv : Value) (w : World) (hrow : RowLow w.heap.size w v L) (hx : HaLow w.heap.size w hv xs) (hL : L.length ≤ 1000000000000000) (hs : ∀ x ∈ L, x.length ≤ 9223372036854775807) (hl : xs.length ≤ 1000000000000000) (hf : ∀ x ∈ xs, x.Fits) (hM : ∀ x ∈ xs, x.Mach) :
    Calls Try.prog 3 #[v, hv] w fun e w' => e = .returned (.bool true) ∧ Below w.heap.size w w' := by
  have G : Hid (_) := hgreat_any L xs v hv w.heap.size w hrow hx hL hs hl hf hM
  have HV : Hid (HaLow w.heap.size w hv xs) := hx
  have HR : Hid (RowLow w.heap.size w v L) := hrow
  have HF : Hid (_) := hf
  obtain ⟨va, vc, vb, vd, rfl, -, -, -⟩ := hrow.parts
  obtain ⟨⟨ao, capv, b, off, rfl, -, -, -⟩, -⟩ := hx
  clear hrow hf hM hs
  refine (callsIn_wide (n := 3)).1 ?_
  refine callsIn_of_wp Try.func3 rfl trivial ?_ rfl
  simp only [Try.ntmps3, List.size_toArray, List.length_cons, List.length_nil, Nat.reduceAdd, Nat.reduceSub, Array.replicate_succ, Array.replicate_zero, List.push_toArray, List.append_toArray, List.nil_append, List.cons_append]
  gi_wp2_with fail
  refine ⟨trivial, ?_⟩
  refine (callsIn_wide.2 G.out).mono ?_
  rintro e w1 ⟨r, rfl, ⟨d, hw1⟩, hr⟩
  have B1 : Hid (Below w.heap.size w w1) := by rw [hw1]; exact below_drewN (Below.refl _ _) d
  clear hw1 G
  cases r with
  | true =>
    clear hr
    gi_wp2_with fail
    refine ⟨trivial, ?_⟩
    refine (callsIn_wide.2 (hawake_any w1)).mono ?_
    rintro e w2 ⟨rfl, b2⟩
    have BF : Hid (Below w.heap.size w w2) := below_then B1.out b2
    clear b2
    gi_wp2
    exact bodyPost_ret (results_tmp rfl _ _ _) rfl ⟨rfl, BF.out⟩
  | false =>
    obtain ⟨hsum, hsl, hsh⟩ := hr rfl
    have hn : xs.length ≤ 2000 := by omega
    have hLn : L.length ≤ 2000 := by omega
    have LEN : Hid (∀ x ∈ xs, x.old.length ≤ 2000 ∧ x.new.length ≤ 2000) := fun x hx => by
      have h := allSum_mem xs x hx
      omega
    have NSX : Hid (L.length + newSum xs ≤ 2000) := by
      show L.length + newSum xs ≤ 2000
      have := newSum_all xs
      omega
    have HSL : Hid (∀ s ∈ L, s.length ≤ 16007) := hsl
    have HSH : Hid (∀ x ∈ xs, x.Short) := hsh
    have SX : Hid (∀ x ∈ xs, x.Small) := fun x hx => by have := LEN.out x hx; exact ⟨by omega, by omega⟩
    clear hsum hsh hr hsl
    have VW : Hid (∀ W, Below w.heap.size w W → HaLow W.heap.size W (.slice ao xs.length capv) xs) := fun W hW => HaLow.at HV.out hW
    have RW : Hid (∀ W, Below w.heap.size w W → RowLow W.heap.size W (.slice va L.length vc) L) := fun W hW => RowLow.at HR.out hW
    have LT : Hid (_) := lent_any L _ w1 (RW.out w1 B1.out) (by omega)
    gi_wp2_with fail
    refine ⟨trivial, ?_⟩
    refine (callsIn_wide.2 LT.out).mono ?_
    rintro e w2 ⟨g1, c1, rfl, own1, b2⟩
    have B2 : Hid (Below w.heap.size w w2) := below_then B1.out b2
    have OW1 : Hid (_) := own1
    have S2 : Hid (w1.heap.size ≤ w2.heap.size) := b2.size
    clear LT own1 b2
    have LH : Hid (_) := lentHunks_any xs _ w2 (VW.out w2 B2.out) (by omega) (fun x hx => by have := LEN.out x hx; omega)
    gi_wp2_with fail
    refine ⟨trivial, ?_⟩
    refine (callsIn_wide.2 LH.out).mono ?_
    rintro e w3 ⟨g2, c2, ys, rfl, own2, la2, b3⟩
    have B3 : Hid (Below w.heap.size w w3) := below_then B2.out b3
    have hyl : ys.length = xs.length := la2.1
    have YL : Hid (ys.length = xs.length) := hyl
    have O1 : Hid (∀ W, Below w3.heap.size w3 W → W.ownsRow w1.heap.size 9 1 (.slice (some ⟨g1, 0, none⟩) (L.length + 12) c1) (L.length + 12) ((L ++ marks 12).map txtV)) := fun W hW => owns_below (owns_below OW1.out b3) hW
    have O2 : Hid (∀ W, Below w3.heap.size w3 W → W.ownsRow w1.heap.size 40 3 (.slice (some ⟨g2, 0, none⟩) (xs.length + 12) c2) (xs.length + 12) (haCells ys ++ mks mcH 1 12) ∧ LentAll w1.heap.size W xs ys) := fun W hW => ⟨owns_base (owns_below own2 hW) S2.out, (la2.below hW).base S2.out⟩
    have EH : Hid (ys.map HA.h = xs.map HA.h) := lentAll_h la2
    have FY : Hid (∀ y ∈ ys, y.Fits) := lentAll_of la2 (fun x y h f => fits_of h f) HF.out
    have SY : Hid (∀ y ∈ ys, y.Small) := lentAll_of la2 (fun x y h f => small_of h f) SX.out
    have LY : Hid (∀ y ∈ ys, y.old.length ≤ 5000 ∧ y.new.length ≤ 5000) := lentAll_of la2 (fun x y h f => by obtain ⟨-, e1, e2⟩ := h_parts h; rw [e1, e2]; exact f) (fun x hx => by have := LEN.out x hx; omega)
    have TY : Hid (∀ y ∈ ys, ∀ s ∈ y.new, s.length ≤ 281474976710656) := lentAll_of la2 (P := fun y => ∀ s ∈ y.new, s.length ≤ 281474976710656) (fun x y h f => by obtain ⟨-, e1, e2⟩ := h_parts h; rw [e2]; exact f) (fun x hx s hs => by have := (HSH.out x hx).2 s hs; omega)
    have NSY : Hid (L.length + newSum ys ≤ 2000) := by
      show L.length + newSum ys ≤ 2000
      have h := NSX.out
      rw [newSum_h, EH.out, ← newSum_h]; exact h
    have AP : Hid (∀ W, Below w3.heap.size w3 W → Calls Try.prog 8 #[.slice (some ⟨g1, 0, none⟩) L.length c1, .slice (some ⟨g2, 0, none⟩) xs.length c2] W fun e w' => ApplyPost (Hn.apply L (xs.map HA.h)) W e w') := fun W hW => by
      have h := apply_any L ys (.slice (some ⟨g1, 0, none⟩) L.length c1) (.slice (some ⟨g2, 0, none⟩) xs.length c2) W.heap.size W (LentRow.low ⟨g1, c1, rfl, O1.out W hW⟩) (lentRow_low (O2.out W hW).1 (O2.out W hW).2) (Nat.le_refl _) FY.out SY.out (by omega) (by have := NSY.out; omega) (fun s hs => by have := HSL.out s hs; omega) TY.out
      rw [EH.out] at h
      exact h
    have RA : Hid (∀ W, Below w.heap.size w W → Calls Try.prog 9 #[.slice va L.length vc, .slice ao xs.length capv] W fun e w' => ApplyPost (Hn.apply L (xs.map HA.h)) W e w') := fun W hW =>
      refApply_any L xs _ _ W (RW.out W hW) (VW.out W hW) HF.out SX.out (by omega) (by have := NSX.out; omega) (fun s hs => by have := HSL.out s hs; omega) (fun x hx s hs => by have := (HSH.out x hx).2 s hs; omega)
    have RL := resO_len L (xs.map HA.h)
    rw [← newSum_h] at RL
    have hol : (resO (Hn.apply L (xs.map HA.h))).length ≤ 2000 := Nat.le_trans RL NSX.out
    obtain ⟨c, hc⟩ : ∃ c : Int, c = ((resC (Hn.apply L (xs.map HA.h)) : Nat) : Int) := ⟨_, rfl⟩
    obtain ⟨O, hO⟩ : ∃ O, O = resO (Hn.apply L (xs.map HA.h)) := ⟨_, rfl⟩
    rw [← hO] at hol
    have AP2 : Hid (∀ W, Below w3.heap.size w3 W → Calls Try.prog 8 #[.slice (some ⟨g1, 0, none⟩) L.length c1, .slice (some ⟨g2, 0, none⟩) xs.length c2] W fun e w' => ∃ tv, e = .returned (.tuple #[tv, .int .i64 c]) ∧ w'.ownsRow W.heap.size 9 1 tv O.length (O.map txtV) ∧ Below W.heap.size W w') := fun W hW => by
      rw [hc, hO]; exact (AP.out W hW).mono fun e w' h => apply_two h
    have RA2 : Hid (∀ W, Below w.heap.size w W → Calls Try.prog 9 #[.slice va L.length vc, .slice ao xs.length capv] W fun e w' => ∃ tv, e = .returned (.tuple #[tv, .int .i64 c]) ∧ w'.ownsRow W.heap.size 9 1 tv O.length (O.map txtV) ∧ Below W.heap.size W w') := fun W hW => by
      rw [hc, hO]; exact (RA.out W hW).mono fun e w' h => apply_two h
    have S3 : Hid (w1.heap.size ≤ w3.heap.size) := Nat.le_trans S2.out b3.size
    clear LH own2 la2 b3 hyl AP RA RL hc hO OW1
    gi_wp2_with fail
    refine ⟨trivial, ?_⟩
    refine (callsIn_wide.2 (AP2.out w3 (Below.refl _ _))).mono ?_
    rintro e w4 ⟨tv4, rfl, o4, b4⟩
    obtain ⟨a4, k4, rfl⟩ := slice_shape o4
    have OA : Hid (w4.ownsRow w3.heap.size 9 1 (.slice a4 O.length k4) O.length (O.map txtV)) := o4
    have C4 : Hid (Below w3.heap.size w3 w4) := b4
    clear o4 b4
    gi_wp2_with fail
    refine ⟨trivial, ?_⟩
    refine (callsIn_wide.2 (AP2.out w4 C4.out)).mono ?_
    rintro e w5 ⟨tv5, rfl, o5, b5⟩
    obtain ⟨a5, k5, rfl⟩ := slice_shape o5
    have OC : Hid (w5.ownsRow w4.heap.size 9 1 (.slice a5 O.length k5) O.length (O.map txtV)) := o5
    have C5 : Hid (Below w3.heap.size w3 w5) := below_then C4.out b5
    have D5 : Hid (Below w4.heap.size w4 w5) := b5
    clear o5 b5 AP2
    gi_wp2_with fail
    refine ⟨trivial, ?_⟩
    refine (callsIn_wide.2 (RA2.out w5 (below_then B3.out C5.out))).mono ?_
    rintro e w6 ⟨tv6, rfl, o6, b6⟩
    obtain ⟨a6, k6, rfl⟩ := slice_shape o6
    have C6 : Hid (Below w3.heap.size w3 w6) := below_then C5.out b6
    have A6 : Hid (w6.ownsRow w3.heap.size 9 1 (.slice a4 O.length k4) O.length (O.map txtV)) := owns_below (owns_below OA.out D5.out) b6
    have E6 : Hid (w6.ownsRow w4.heap.size 9 1 (.slice a5 O.length k5) O.length (O.map txtV)) := owns_below OC.out b6
    have R6 : Hid (w6.ownsRow w5.heap.size 9 1 (.slice a6 O.length k6) O.length (O.map txtV)) := o6
    have SM : Hid (∀ W, W.ownsRow w3.heap.size 9 1 (.slice a4 O.length k4) O.length (O.map txtV) → W.ownsRow w5.heap.size 9 1 (.slice a6 O.length k6) O.length (O.map txtV) → Calls Try.prog 10 #[.slice a4 O.length k4, .slice a6 O.length k6] W fun e w' => e = .returned (.bool true) ∧ ∃ k, w' = W.drewN k) := fun W h1 h2 => by
      have h := same_any W _ _ O O _ _ (RowLow.of_owns h1) (RowLow.of_owns h2) (by omega) (by omega)
      rw [decide_eq_true rfl] at h
      exact h
    have SAPART : Hid (w3.heap.size ≤ w4.heap.size ∧ w4.heap.size ≤ w5.heap.size ∧ Apart [(.slice a4 O.length k4, O.length), (.slice a5 O.length k5, O.length)]) := by
      refine ⟨C4.out.size, D5.out.size, ?_⟩
      have key : ∀ q r, (Value.slice a4 O.length k4).ownBlock = some q → (Value.slice a5 O.length k5).ownBlock = some r → q < r := fun q r hq hr => by
        have h1 := (World.ownsRow.lt OA.out q hq).2
        have h2 := (World.ownsRow.lt OC.out r hr).1
        omega
      intro j k p q hp hq hjk
      match j, k, hp, hq, hjk with
      | 0, 0, _, _, h => exact absurd rfl h
      | 1, 1, _, _, h => exact absurd rfl h
      | 0, 1, hp, hq, _ =>
        simp only [List.getElem?_cons_zero, List.getElem?_cons_succ, Option.some.injEq] at hp hq
        subst hp hq
        simp only
        cases h1 : (Value.slice a4 O.length k4).ownBlock with
        | none => exact .inl rfl
        | some q1 =>
          right
          intro h2
          exact absurd (key q1 q1 h1 h2.symm) (Nat.lt_irrefl _)
      | 1, 0, hp, hq, _ =>
        simp only [List.getElem?_cons_zero, List.getElem?_cons_succ, Option.some.injEq] at hp hq
        subst hp hq
        simp only
        cases h1 : (Value.slice a5 O.length k5).ownBlock with
        | none => exact .inl rfl
        | some q1 =>
          right
          intro h2
          exact absurd (key q1 q1 h2.symm h1) (Nat.lt_irrefl _)
      | _ + 2, _, hp, _, _ => simp at hp
      | _, _ + 2, _, hq, _ => simp at hq
    clear o6 b6 RA2 OA OC D5
    gi_wp2_with fail
    refine ⟨trivial, ?_⟩
    refine (callsIn_wide.2 (SM.out w6 A6.out R6.out)).mono ?_
    rintro e w7 ⟨rfl, d7, hw7⟩
    have D7 : Hid (Below w6.heap.size w6 w7) := by
      show Below w6.heap.size w6 w7
      rw [hw7]; exact below_drewN (Below.refl _ _) d7
    have C7 : Hid (Below w3.heap.size w3 w7) := below_then C6.out D7.out
    have KT : Hid (_) := kept_any L _ g1 c1 w1.heap.size w7 (RW.out w7 (below_then B3.out C7.out)) (O1.out w7 C7.out) (by omega)
    clear hw7
    gi_wp2_with fail
    refine ⟨trivial, ?_⟩
    refine (callsIn_wide.2 KT.out).mono ?_
    rintro e w8 ⟨rfl, b8⟩
    have D8 : Hid (Below w6.heap.size w6 w8) := below_then D7.out b8
    have C8 : Hid (Below w3.heap.size w3 w8) := below_then C6.out D8.out
    have KH : Hid (_) := keptHunks_any xs ys _ g2 c2 w1.heap.size w8 (VW.out w8 (below_then B3.out C8.out)) (O2.out w8 C8.out).1 (O2.out w8 C8.out).2 (by omega) (fun x hx => by have := LEN.out x hx; omega)
    clear b8 KT D7 C7
    gi_wp2_with fail
    refine ⟨trivial, ?_⟩
    refine (callsIn_wide.2 KH.out).mono ?_
    rintro e w9 ⟨rfl, b9⟩
    have D9 : Hid (Below w6.heap.size w6 w9) := below_then D8.out b9
    have C9 : Hid (Below w3.heap.size w3 w9) := below_then C6.out D9.out
    have OT : Hid (_) := over_two L.length g1 c1 w1.heap.size w3.heap.size w9 ⟨((O1.out w3 (Below.refl _ _)).lt g1 rfl).2, _, O1.out w9 C9.out⟩ (by omega)
    clear b9 KH D8 C8
    gi_wp2_with fail
    refine ⟨trivial, ?_⟩
    refine (callsIn_wide.2 OT.out).mono ?_
    rintro e w10 ⟨rfl, v10⟩
    have O10 : w10.ownsRow w1.heap.size 40 3 (.slice (some ⟨g2, 0, none⟩) (ys.length + 12) c2) (ys.length + 12) (haCells ys ++ mks mcH 1 12) := by
      have h := (O2.out w9 C9.out).1
      rw [← YL.out] at h
      refine ⟨h.1, ?_⟩
      rcases h.2 with h0 | ⟨g', cap', cur, hv, hb, hg, h3⟩
      · exact .inl h0
      · exact .inr ⟨g', cap', cur, hv, hb, v10.oth _ _ _ _ (by decide) hg, h3⟩
    have room : ∀ y ∈ ys, HRoom w1.heap.size w3.heap.size w9 y := fun y hy => ((O2.out w3 (Below.refl _ _)).2.room (Nat.le_refl _) y hy).over (OverW.of_below C9.out)
    have OH : Hid (_) := overHunks_any ys g2 c2 w1.heap.size w3.heap.size w10 O10 ((O2.out w3 (Below.refl _ _)).1.lt g2 rfl).2 (fun y hy => (room y hy).over v10) (by have := YL.out; omega) LY.out
    rw [YL.out] at OH
    have V10 : Hid (OverB w1.heap.size w3.heap.size w9 w10) := v10.b
    clear OT O10 room v10
    gi_wp2_with fail
    refine ⟨trivial, ?_⟩
    refine (callsIn_wide.2 OH.out).mono ?_
    rintro e w11 ⟨rfl, v11⟩
    have V : OverB w1.heap.size w3.heap.size w9 w11 := V10.out.trans v11
    have A11 : Hid (w11.ownsRow w3.heap.size 9 1 (.slice a4 O.length k4) O.length (O.map txtV)) := V.owns (owns_below A6.out D9.out) (Nat.le_refl _)
    have E11 : Hid (w11.ownsRow w4.heap.size 9 1 (.slice a5 O.length k5) O.length (O.map txtV)) := V.owns (owns_below E6.out D9.out) SAPART.out.1
    have R11 : Hid (w11.ownsRow w5.heap.size 9 1 (.slice a6 O.length k6) O.length (O.map txtV)) := V.owns (owns_below R6.out D9.out) (Nat.le_trans SAPART.out.1 SAPART.out.2.1)
    have B11 : Hid (Below w.heap.size w w11) := V.below (below_then B3.out C9.out) B1.out.size (Nat.le_refl _)
    have S11 : Hid (w3.heap.size ≤ w11.heap.size) := Nat.le_trans C9.out.size V.size
    clear OH V10 v11 V A6 E6 R6 D9 C9 C6 C5 O1 O2
    gi_wp2_with fail
    refine ⟨trivial, ?_⟩
    refine (callsIn_wide.2 (SM.out w11 A11.out R11.out)).mono ?_
    rintro e w12 ⟨rfl, d12, hw12⟩
    have D12 : Below w11.heap.size w11 w12 := by
      rw [hw12]; exact below_drewN (Below.refl _ _) d12
    obtain ⟨Z, hZ⟩ : ∃ Z, Z = w12.alloc (.cells #[.slice a4 O.length k4, .slice a5 O.length k5] 22) := ⟨_, rfl⟩
    have bZ : Below w12.heap.size w12 Z := by rw [hZ]; exact below_nw w12 _
    have zh : Z.heap[w12.heap.size]? = some (.cells #[.slice a4 O.length k4, .slice a5 O.length k5] 22 (0, 0)) := by rw [hZ]; exact World.alloc_heap_new w12 _
    have DZ : Below w11.heap.size w11 Z := below_then D12 bZ
    have AT : Hid (_) := apartTexts_any w3.heap.size [(.slice a4 O.length k4, O.length), (.slice a5 O.length k5, O.length)] w12.heap.size 2 Z (fun k p hp => by
        match k, hp with
        | 0, hp => simp at hp; subst hp; rw [Lib.cell_of_heap zh]; rfl
        | 1, hp => simp at hp; subst hp; rw [Lib.cell_of_heap zh]; rfl
        | _ + 2, hp => simp at hp)
      (fun k p hp => by
        match k, hp with
        | 0, hp => simp at hp; subst hp; exact ⟨_, owns_below A11.out DZ, trivial⟩
        | 1, hp => simp at hp; subst hp; exact ⟨_, owns_base (owns_below E11.out DZ) SAPART.out.1, trivial⟩
        | _ + 2, hp => simp at hp) SAPART.out.2.2 (Nat.le_trans S11.out DZ.size) (by simp) (fun p hp => by simp at hp; rcases hp with rfl | rfl <;> simp only <;> omega)
    have BZ : Hid (Below w.heap.size w Z) := below_then B11.out DZ
    have SW : Hid (w.heap.size ≤ w3.heap.size) := B3.out.size
    clear hw12 D12 bZ zh DZ A11 E11 R11 B11
    simp only [List.length_cons, List.length_nil, Nat.zero_add, Nat.reduceAdd] at AT
    gi_wp2_with fail
    rw [← hZ]
    clear hZ
    refine ⟨trivial, ?_⟩
    refine (callsIn_wide.2 AT.out).mono ?_
    rintro e w13 ⟨rfl, b13⟩
    have B13 : Hid (Below w.heap.size w w13) := BZ.out.trans (b13.mono SW.out)
    clear AT b13 BZ
    gi_wp2_with fail
    refine ⟨trivial, ?_⟩
    refine (callsIn_wide.2 (hawake_any w13)).mono ?_
    rintro e w14 ⟨rfl, b14⟩
    have BF : Hid (Below w.heap.size w w14) := below_then B13.out b14
    clear b14 B13
    gi_wp2
    exact bodyPost_ret (results_tmp rfl _ _ _) rfl ⟨rfl, BF.out⟩

end Go.Proofs.Ytkiafelpgcmifaa
