/-
  The walk of (*bag).apart: all lists of a bag of texts and of hunks lie apart.
-/
import Derived.Test.YtkiafelpgcmifaaBagA
import Derived.Test.YtkiafelpgcmifaaFlatTexts
import Derived.Test.YtkiafelpgcmifaaFlatNil
import Derived.Test.YtkiafelpgcmifaaFlatHunks
namespace Go.Proofs.Ytkiafelpgcmifaa
open Go.RowKit Go.Shelf

attribute [local go_sem] Oper.semAt_some

theorem bag_cell {W : World} {b : Nat} {tv hv : Value} (h : W.heap[b]? = some (.cells (bagC tv hv) 73 (0, 0))) (i : Nat) : W.cell? ⟨b, i, none⟩ = (bagC tv hv)[i]? := Lib.cell_of_heap h i
theorem bag_below {W W' : World} {b : Nat} {tv hv : Value} (h : W.heap[b]? = some (.cells (bagC tv hv) 73 (0, 0))) (hb : Below W.heap.size W W') : W'.heap[b]? = some (.cells (bagC tv hv) 73 (0, 0)) := (hb.block b (Array.getElem?_eq_some_iff.1 h).1).trans h

/-- flatTexts of the bag's lists of texts. -/
theorem flatT_any (B : Nat) (R : List (Value × Nat)) (tv : Value) (w : World) (hls : w.ownsRow B 22 1 tv R.length (R.map Prod.fst)) (hA : Apart R) (hO : Own 9 1 B R w (fun _ _ => True)) (hB : B ≤ w.heap.size) (hR : R.length ≤ 100000) (hN : ∀ p ∈ R, p.2 ≤ 1000000) :
    Calls Try.prog 45 #[tv] w fun e w' => e = .returned (.bool true) ∧ KeepT 9 B w w' := by
  rcases hls.2 with ⟨rfl, _⟩ | ⟨g, cap, cur, rfl, _⟩
  · refine (flatTexts_nil w).mono ?_
    rintro e w' ⟨rfl, hb⟩
    exact ⟨rfl, KeepT.of_below hb hB⟩
  · exact flatTexts_some R g cap B w hls hA hO hB hR hN
theorem flatH_any (B : Nat) (R : List (Value × Nat)) (hv : Value) (w : World) (hls : w.ownsRow B 23 1 hv R.length (R.map Prod.fst)) (hA : Apart R) (hO : Own 40 3 B R w (fun _ _ => True)) (hB : B ≤ w.heap.size) (hR : R.length ≤ 100000) (hN : ∀ p ∈ R, p.2 ≤ 1000000) :
    Calls Try.prog 53 #[hv] w fun e w' => e = .returned (.bool true) ∧ KeepT 40 B w w' := by
  rcases hls.2 with ⟨rfl, _⟩ | ⟨g, cap, cur, rfl, _⟩
  · refine (flatHunks_nil w).mono ?_
    rintro e w' ⟨rfl, hb⟩
    exact ⟨rfl, KeepT.of_below hb hB⟩
  · exact flatHunks_some R g cap B w hls hA hO hB hR hN

set_option maxRecDepth 100000 in
set_option maxHeartbeats 8000000 in
theorem apart_any (B b : Nat) (RT RH : List (Value × Nat)) (w : World) (hbag : BagIs B b (RT.map Prod.fst) (RH.map Prod.fst) w) (hB : B ≤ w.heap.size) (hAT : Apart RT) (hAH : Apart RH) (hOT : Own 9 1 B RT w (fun _ _ => True)) (hOH : Own 40 3 B RH w (fun _ _ => True)) (lT : RT.length ≤ 100000) (lH : RH.length ≤ 100000) (nT : ∀ p ∈ RT, p.2 ≤ 1000000) (nH : ∀ p ∈ RH, p.2 ≤ 1000000) :
    Calls Try.prog 31 #[.pointer (some ⟨b, 0, none⟩)] w fun e w' => e = .returned (.bool true) ∧ Below B w w' := by
  obtain ⟨tv, hv, g0, hBb, hT, hH⟩ := hbag
  rw [List.length_map] at hT hH
  have HT : Hid (_) := hT
  have HH : Hid (_) := hH
  have HAT : Hid (_) := hAT
  have HAH : Hid (_) := hAH
  have HOT : Hid (_) := hOT
  have HOH : Hid (_) := hOH
  have HNT : Hid (_) := nT
  have HNH : Hid (_) := nH
  have H0 : Hid (_) := g0
  have c : w.cell? ⟨b, 0, none⟩ = some (.slice none 0 0) := bag_cell g0 0
  clear hT hH hAT hAH hOT hOH nT nH g0
  go_enter Try.func31, Try.ntmps31
  go_wp2_with fail
  refine (flatLimbs_nil w).mono ?_
  rintro e w0 ⟨rfl, B0⟩
  have G0 : w0.heap[b]? = some (.cells (bagC tv hv) 73 (0, 0)) := bag_below H0.out B0
  clear c
  have c : w0.cell? ⟨b, 1, none⟩ = some (.slice none 0 0) := bag_cell G0 1
  clear G0
  go_wp2_with fail
  refine (flatWords_nil w0).mono ?_
  rintro e w1 ⟨rfl, b1⟩
  have B1 : Below w.heap.size w w1 := (B0).trans (b1.mono (B0).size)
  have G1 : w1.heap[b]? = some (.cells (bagC tv hv) 73 (0, 0)) := bag_below H0.out B1
  clear c B0 b1
  have c : w1.cell? ⟨b, 2, none⟩ = some (.slice none 0 0) := bag_cell G1 2
  clear G1
  go_wp2_with fail
  refine (flatInts_nil w1).mono ?_
  rintro e w2 ⟨rfl, b2⟩
  have B2 : Below w.heap.size w w2 := (B1).trans (b2.mono (B1).size)
  have G2 : w2.heap[b]? = some (.cells (bagC tv hv) 73 (0, 0)) := bag_below H0.out B2
  clear c B1 b2
  have c : w2.cell? ⟨b, 3, none⟩ = some (.slice none 0 0) := bag_cell G2 3
  clear G2
  go_wp2_with fail
  refine (flatLongs_nil w2).mono ?_
  rintro e w3 ⟨rfl, b3⟩
  have B3 : Below w.heap.size w w3 := (B2).trans (b3.mono (B2).size)
  have G3 : w3.heap[b]? = some (.cells (bagC tv hv) 73 (0, 0)) := bag_below H0.out B3
  clear c B2 b3
  have c : w3.cell? ⟨b, 4, none⟩ = some (tv) := bag_cell G3 4
  clear G3
  go_wp2_with fail
  refine (flatT_any B RT tv w3 (owns_below HT.out B3) HAT.out (Own.below HOT.out B3) (Nat.le_trans hB (B3).size) lT HNT.out).mono ?_
  rintro e w4 ⟨rfl, k4⟩
  have G4 : w4.heap[b]? = some (.cells (bagC tv hv) 73 (0, 0)) := k4.2 b _ _ _ (bag_below H0.out B3) (by decide)
  have J4 : w4.ownsRow B 23 1 hv RH.length (RH.map Prod.fst) := k4.owns (owns_below HH.out B3) (by decide)
  have O4 : Own 40 3 B RH w4 (fun _ _ => True) := fun j p hp => by
    obtain ⟨xs, q1, q2⟩ := (Own.below HOH.out B3) j p hp
    exact ⟨xs, k4.owns q1 (by decide), q2⟩
  have S4 : Below B w w4 := ((B3).mono hB).trans k4.1
  have HJ : Hid (_) := J4
  have HO : Hid (_) := O4
  have H1 : Hid (_) := G4
  have HS : Hid (_) := S4
  have hB1 : B ≤ w4.heap.size := Nat.le_trans hB S4.size
  have B4 : Below w4.heap.size w4 w4 := Below.refl _ _
  clear c J4 O4 S4 k4 B3 H0 HT HH HAT HOT HNT HOH
  have c : w4.cell? ⟨b, 5, none⟩ = some (.slice none 0 0) := bag_cell G4 5
  clear G4
  go_wp2_with fail
  refine (flatBytes_nil w4).mono ?_
  rintro e w5 ⟨rfl, b5⟩
  have B5 : Below w4.heap.size w4 w5 := (B4).trans (b5.mono (B4).size)
  have G5 : w5.heap[b]? = some (.cells (bagC tv hv) 73 (0, 0)) := bag_below H1.out B5
  clear c B4 b5
  have c : w5.cell? ⟨b, 6, none⟩ = some (.slice none 0 0) := bag_cell G5 6
  clear G5
  go_wp2_with fail
  refine (flatTruths_nil w5).mono ?_
  rintro e w6 ⟨rfl, b6⟩
  have B6 : Below w4.heap.size w4 w6 := (B5).trans (b6.mono (B5).size)
  have G6 : w6.heap[b]? = some (.cells (bagC tv hv) 73 (0, 0)) := bag_below H1.out B6
  clear c B5 b6
  have c : w6.cell? ⟨b, 7, none⟩ = some (.slice none 0 0) := bag_cell G6 7
  clear G6
  go_wp2_with fail
  refine (flatTokens_nil w6).mono ?_
  rintro e w7 ⟨rfl, b7⟩
  have B7 : Below w4.heap.size w4 w7 := (B6).trans (b7.mono (B6).size)
  have G7 : w7.heap[b]? = some (.cells (bagC tv hv) 73 (0, 0)) := bag_below H1.out B7
  clear c B6 b7
  have c : w7.cell? ⟨b, 8, none⟩ = some (.slice none 0 0) := bag_cell G7 8
  clear G7
  go_wp2_with fail
  refine (flatSpans_nil w7).mono ?_
  rintro e w8 ⟨rfl, b8⟩
  have B8 : Below w4.heap.size w4 w8 := (B7).trans (b8.mono (B7).size)
  have G8 : w8.heap[b]? = some (.cells (bagC tv hv) 73 (0, 0)) := bag_below H1.out B8
  clear c B7 b8
  have c : w8.cell? ⟨b, 9, none⟩ = some (.slice none 0 0) := bag_cell G8 9
  clear G8
  go_wp2_with fail
  refine (flatNodes_nil w8).mono ?_
  rintro e w9 ⟨rfl, b9⟩
  have B9 : Below w4.heap.size w4 w9 := (B8).trans (b9.mono (B8).size)
  have G9 : w9.heap[b]? = some (.cells (bagC tv hv) 73 (0, 0)) := bag_below H1.out B9
  clear c B8 b9
  have c : w9.cell? ⟨b, 10, none⟩ = some (.slice none 0 0) := bag_cell G9 10
  clear G9
  go_wp2_with fail
  refine (flatFaults_nil w9).mono ?_
  rintro e w10 ⟨rfl, b10⟩
  have B10 : Below w4.heap.size w4 w10 := (B9).trans (b10.mono (B9).size)
  have G10 : w10.heap[b]? = some (.cells (bagC tv hv) 73 (0, 0)) := bag_below H1.out B10
  clear c B9 b10
  have c : w10.cell? ⟨b, 11, none⟩ = some (.slice none 0 0) := bag_cell G10 11
  clear G10
  go_wp2_with fail
  refine (flatMarks_nil w10).mono ?_
  rintro e w11 ⟨rfl, b11⟩
  have B11 : Below w4.heap.size w4 w11 := (B10).trans (b11.mono (B10).size)
  have G11 : w11.heap[b]? = some (.cells (bagC tv hv) 73 (0, 0)) := bag_below H1.out B11
  clear c B10 b11
  have c : w11.cell? ⟨b, 12, none⟩ = some (hv) := bag_cell G11 12
  clear G11
  go_wp2_with fail
  refine (flatH_any B RH hv w11 (owns_below HJ.out B11) HAH.out (Own.below HO.out B11) (Nat.le_trans hB1 (B11).size) lH HNH.out).mono ?_
  rintro e w12 ⟨rfl, k12⟩
  have G12 : w12.heap[b]? = some (.cells (bagC tv hv) 73 (0, 0)) := k12.2 b _ _ _ (bag_below H1.out B11) (by decide)
  have S12 : Below B w w12 := (HS.out.trans ((B11).mono hB1)).trans k12.1
  have H2 : Hid (_) := G12
  have HS2 : Hid (_) := S12
  have hB2 : B ≤ w12.heap.size := Nat.le_trans hB S12.size
  have B12 : Below w12.heap.size w12 w12 := Below.refl _ _
  clear c S12 k12 B11 HS H1 HJ HO HAH HNH
  have c : w12.cell? ⟨b, 13, none⟩ = some (.slice none 0 0) := bag_cell G12 13
  clear G12
  go_wp2_with fail
  refine (flatEdits_nil w12).mono ?_
  rintro e w13 ⟨rfl, b13⟩
  have B13 : Below w12.heap.size w12 w13 := (B12).trans (b13.mono (B12).size)
  have G13 : w13.heap[b]? = some (.cells (bagC tv hv) 73 (0, 0)) := bag_below H2.out B13
  clear c B12 b13
  have c : w13.cell? ⟨b, 14, none⟩ = some (.slice none 0 0) := bag_cell G13 14
  clear G13
  go_wp2_with fail
  refine (flatPatches_nil w13).mono ?_
  rintro e w14 ⟨rfl, b14⟩
  have B14 : Below w12.heap.size w12 w14 := (B13).trans (b14.mono (B13).size)
  have G14 : w14.heap[b]? = some (.cells (bagC tv hv) 73 (0, 0)) := bag_below H2.out B14
  clear c B13 b14
  have c : w14.cell? ⟨b, 15, none⟩ = some (.slice none 0 0) := bag_cell G14 15
  clear G14
  go_wp2_with fail
  refine (flatDocs_nil w14).mono ?_
  rintro e w15 ⟨rfl, b15⟩
  have B15 : Below w12.heap.size w12 w15 := (B14).trans (b15.mono (B14).size)
  have G15 : w15.heap[b]? = some (.cells (bagC tv hv) 73 (0, 0)) := bag_below H2.out B15
  clear c B14 b15
  have c : w15.cell? ⟨b, 16, none⟩ = some (.slice none 0 0) := bag_cell G15 16
  clear G15
  go_wp2_with fail
  refine (flatNamedRow_nil w15).mono ?_
  rintro e w16 ⟨rfl, b16⟩
  have B16 : Below w12.heap.size w12 w16 := (B15).trans (b16.mono (B15).size)
  have G16 : w16.heap[b]? = some (.cells (bagC tv hv) 73 (0, 0)) := bag_below H2.out B16
  clear c B15 b16
  have c : w16.cell? ⟨b, 17, none⟩ = some (.slice none 0 0) := bag_cell G16 17
  clear G16
  go_wp2_with fail
  refine (flatValues_nil w16).mono ?_
  rintro e w17 ⟨rfl, b17⟩
  have B17 : Below w12.heap.size w12 w17 := (B16).trans (b17.mono (B16).size)
  have G17 : w17.heap[b]? = some (.cells (bagC tv hv) 73 (0, 0)) := bag_below H2.out B17
  clear c B16 b17
  have c : w17.cell? ⟨b, 18, none⟩ = some (.slice none 0 0) := bag_cell G17 18
  clear G17
  go_wp2_with fail
  refine (flatOutcomes_nil w17).mono ?_
  rintro e w18 ⟨rfl, b18⟩
  have B18 : Below w12.heap.size w12 w18 := (B17).trans (b18.mono (B17).size)
  have G18 : w18.heap[b]? = some (.cells (bagC tv hv) 73 (0, 0)) := bag_below H2.out B18
  clear c B17 b18
  have c : w18.cell? ⟨b, 19, none⟩ = some (.slice none 0 0) := bag_cell G18 19
  clear G18
  go_wp2_with fail
  refine (flatCommands_nil w18).mono ?_
  rintro e w19 ⟨rfl, b19⟩
  have B19 : Below w12.heap.size w12 w19 := (B18).trans (b19.mono (B18).size)
  have G19 : w19.heap[b]? = some (.cells (bagC tv hv) 73 (0, 0)) := bag_below H2.out B19
  clear c B18 b19
  have c : w19.cell? ⟨b, 20, none⟩ = some (.slice none 0 0) := bag_cell G19 20
  clear G19
  go_wp2_with fail
  refine (flatAnswers_nil w19).mono ?_
  rintro e w20 ⟨rfl, b20⟩
  have B20 : Below w12.heap.size w12 w20 := (B19).trans (b20.mono (B19).size)
  have G20 : w20.heap[b]? = some (.cells (bagC tv hv) 73 (0, 0)) := bag_below H2.out B20
  clear c B19 b20
  go_wp2
  go_ret
  exact ⟨rfl, HS2.out.trans ((B20).mono hB2)⟩

end Go.Proofs.Ytkiafelpgcmifaa
