/-
  Several texts in one, as they are: BagA, ApartBagA, ApartHunksA, ApTexts, Args, HunkArg.
-/
import Derived.Test.YtkiafelpgcmifaaMarkHunks
import Derived.Test.YtkiafelpgcmifaaHnCopy
import Derived.Test.YtkiafelpgcmifaaFlatTexts
import Derived.Test.YtkiafelpgcmifaaFlatNil
import Derived.Test.YtkiafelpgcmifaaFlatHunks
import Derived.Test.YtkiafelpgcmifaaBase
import Derived.SliceStrings
import Derived.ProofKit
import Derived.OpenShut
import Derived.LaidMore
import Derived.Lay
import Derived.SevenTiedAt
import Derived.Stop.Joined
import Derived.Test.YtkiafelpgcmifaaHnGreat
import Derived.Deep.Slices
import Derived.Deep.Strs
import Derived.SizedLaws

/-
  The bag of all lists that were found (clerestorykit): a list of texts put into it, a hunk, a row of hunks.
-/
namespace Go.Proofs.Ytkiafelpgcmifaa
open Go.RowKit Go.Shelf

attribute [local go_sem] Oper.semAt_some

/-- What lay below B is as it was; and whatever holds texts or hunks. -/
def KeepSH (B : Nat) (W W' : World) : Prop := Below B W W' ∧ ∀ (k : Nat) (c : Array Value) (t : TypeId) (fr : Nat × Nat), W.heap[k]? = some (.cells c t fr) → t = 9 ∨ t = 40 → W'.heap[k]? = some (.cells c t fr)
theorem KeepSH.refl (B : Nat) (W : World) : KeepSH B W W := ⟨Below.refl _ _, fun _ _ _ _ h _ => h⟩
theorem KeepSH.trans {B : Nat} {W X Y : World} (h : KeepSH B W X) (k : KeepSH B X Y) : KeepSH B W Y := ⟨h.1.trans k.1, fun j c t fr hj h1 => k.2 j c t fr (h.2 j c t fr hj h1) h1⟩
theorem KeepSH.of_below {B : Nat} {W X : World} (h : Below W.heap.size W X) (hn : B ≤ W.heap.size) : KeepSH B W X :=
  ⟨h.mono hn, fun j _ _ _ hj _ => (h.block j (Array.getElem?_eq_some_iff.1 hj).1).trans hj⟩
theorem KeepSH.owns {B B' k size : Nat} {e : TypeId} {W X : World} (h : KeepSH B W X) {v : Value} {xs : List Value} (ho : W.ownsRow B' e size v k xs) (h1 : e = 9 ∨ e = 40) : X.ownsRow B' e size v k xs := by
  refine ⟨ho.1, ?_⟩
  rcases ho.2 with h0 | ⟨g, cap, cur, hv, hb, hg, h3⟩
  · exact .inl h0
  · exact .inr ⟨g, cap, cur, hv, hb, h.2 g _ _ _ hg h1, h3⟩
theorem KeepSH.of_grown {e : TypeId} {B n size : Nat} {W W' : World} {v : Value} {xs : List Value} (hrow : W.ownsRow B e size v n xs) (hg : W.grownBy W' v.ownBlock) (hn : B ≤ W.heap.size) (h1 : e ≠ 9) (h2 : e ≠ 40) : KeepSH B W W' := by
  have h := KeepT.of_grown hrow hg hn
  exact ⟨h.1, fun j c t fr hj h3 => h.2 j c t fr hj (fun e0 => by
    rcases h3 with h3 | h3
    · exact h1 (e0.symm.trans h3)
    · exact h2 (e0.symm.trans h3))⟩
theorem KeepSH.of_set {B b : Nat} {W : World} {c : Array Value} {t : TypeId} (h : W.heap[b]? = some (.cells c t (0, 0))) (hB : B ≤ b) (h1 : t ≠ 9) (h2 : t ≠ 40) (i : Nat) (u : Value) : KeepSH B W (W.setCell ⟨b, i, none⟩ u) := by
  have hg := grown_set W b i u
  refine ⟨⟨hg.os, hg.tape, hg.output, hg.size, fun k hk => hg.block k (by have := (Array.getElem?_eq_some_iff.1 h).1; omega) (fun e => by cases e; omega)⟩, fun j c' t' fr hj h3 => ?_⟩
  refine (hg.block j (Array.getElem?_eq_some_iff.1 hj).1 (fun e0 => ?_)).trans hj
  injection e0 with e0
  subst e0
  rw [h] at hj
  injection hj with q
  injection q with _ q _
  rcases h3 with h3 | h3
  · exact h1 (q.trans h3)
  · exact h2 (q.trans h3)

/-- The cells of a bag of texts and of hunks. -/
def bagC (tv hv : Value) : Array Value := #[.slice none 0 0, .slice none 0 0, .slice none 0 0, .slice none 0 0, tv, .slice none 0 0, .slice none 0 0, .slice none 0 0, .slice none 0 0, .slice none 0 0, .slice none 0 0, .slice none 0 0, hv, .slice none 0 0, .slice none 0 0, .slice none 0 0, .slice none 0 0, .slice none 0 0, .slice none 0 0, .slice none 0 0, .slice none 0 0]
/-- The bag at block b holds these lists of texts, and these of hunks. -/
def BagIs (B b : Nat) (T H : List Value) (W : World) : Prop :=
  ∃ tv hv, W.heap[b]? = some (.cells (bagC tv hv) 73 (0, 0)) ∧ B ≤ b ∧ W.ownsRow B 22 1 tv T.length T ∧ W.ownsRow B 23 1 hv H.length H
theorem infoTs : (Try.prog.info? 22).map (fun i => (i.zero, i.size, i.bytes)) = some (some (.slice none 0 0), 1, 24) := by kernel_rfl
theorem infoHs : (Try.prog.info? 23).map (fun i => (i.zero, i.size, i.bytes)) = some (some (.slice none 0 0), 1, 24) := by kernel_rfl

set_option maxRecDepth 100000 in
set_option maxHeartbeats 4000000 in
theorem putTexts_any (B b : Nat) (T H : List Value) (ao : Option Addr) (n cap : Nat) (w : World) (hbag : BagIs B b T H w) (hB : B ≤ w.heap.size) (hT : T.length ≤ 100000) :
    Calls Try.prog 30 #[.pointer (some ⟨b, 0, none⟩), .slice ao n cap] w fun e w' => e = .returned (.tuple #[]) ∧ BagIs B b (T ++ [.slice ao n cap]) H w' ∧ KeepSH B w w' := by
  obtain ⟨tv, hv, h0, hBb, h1, h2⟩ := hbag
  obtain ⟨i0, hi, hz0, hz1, hz2⟩ := info_parts infoTs
  have c4 : w.cell? ⟨b, 4, none⟩ = some tv := by rw [Lib.cell_of_heap h0]; rfl
  obtain ⟨X, hX⟩ : ∃ X, X = w.alloc (.cells #[.slice ao n cap] 22) := ⟨_, rfl⟩
  have bX : Below w.heap.size w X := by rw [hX]; exact below_nw w _
  have hsrc : ∀ (j : Nat) (u : Value), [Value.slice ao n cap][j]? = some u → X.cell? ((⟨w.heap.size, 0, none⟩ : Addr).add j) = some u := by rw [hX]; exact cells_new w [.slice ao n cap] 22
  obtain ⟨v', W', hrun, hown, hgr, -⟩ := run_append_own (P := Try.prog) X B 37 37 22 i0 (.slice none 0 0) 1 24 Try.underlying37 hi hz0 hz1 hz2 rfl (by decide) tv T.length T (owns_below h1 bX) ⟨w.heap.size, 0, none⟩ 1 1 [.slice ao n cap] rfl hsrc (by simp [Value.oneCell']) (by unfold maxLen; omega) (by omega) (by have := bX.size; omega)
  obtain ⟨gv, cv, rfl⟩ := ownsRow_succ hown
  have h0' : W'.heap[b]? = some (.cells (bagC tv hv) 73 (0, 0)) := heap_grown (owns_below h1 bX) hgr ((bX.block b (Array.getElem?_eq_some_iff.1 h0).1).trans h0) (by decide)
  have c4' : W'.cell? ⟨b, 4, none⟩ = some tv := by rw [Lib.cell_of_heap h0']; rfl
  have f4' : W'.frozen? ⟨b, 4, none⟩ = false := frozen_of_row W' b 4 _ _ h0'
  have HF : Hid (BagIs B b (T ++ [.slice ao n cap]) H (W'.setCell ⟨b, 4, none⟩ (.slice (some ⟨gv, 0, none⟩) (T.length + 1) cv)) ∧ KeepSH B w (W'.setCell ⟨b, 4, none⟩ (.slice (some ⟨gv, 0, none⟩) (T.length + 1) cv))) := by
    refine ⟨⟨_, hv, heap_setCell_same W' b 4 _ _ _ h0', hBb, ?_, ?_⟩, ?_⟩
    · rw [List.length_append]; exact owns_set hown h0' (by decide) 4 _
    · exact owns_set ((owns_below h2 bX).kept hgr (by
        rcases h1.2 with ⟨e, _⟩ | ⟨g, cp, cur, e, _, hg, _⟩
        · rw [e]
          rcases h2.2 with ⟨e, _⟩ | ⟨g, cp, cur, e, _⟩
          · exact .inl (by rw [e]; rfl)
          · exact .inr (by rw [e]; simp [Value.ownBlock])
        · rcases h2.2 with ⟨e', _⟩ | ⟨g', cp', cur', e', _, hg', _⟩
          · exact .inl (by rw [e']; rfl)
          · right
            rw [e, e']
            intro q
            have : g' = g := by simpa [Value.ownBlock] using q
            subst this
            rw [hg] at hg'
            injection hg' with q
            injection q with _ q _
            exact absurd q (by decide))) h0' (by decide) 4 _
    · exact ((KeepSH.of_below bX hB).trans (KeepSH.of_grown (owns_below h1 bX) hgr (Nat.le_trans hB bX.size) (by decide) (by decide))).trans (KeepSH.of_set h0' hBb (by decide) (by decide) 4 _)
  clear h0 h1 h2 hown hgr h0' hsrc bX
  subst hX
  refine (callsIn_wide (n := 3)).1 ?_
  refine callsIn_of_wp Try.func30 rfl trivial ?_ rfl
  simp only [Try.ntmps30, List.size_toArray, List.length_cons, List.length_nil, Nat.reduceAdd, Nat.reduceSub, Array.replicate_succ, Array.replicate_zero, List.push_toArray, List.append_toArray, List.nil_append, List.cons_append]
  gi_wp2_with (gi_at_builtin; refine list_append rfl _ _ 37 rfl _ _ _ _ rfl rfl hrun ?_)
  go_end0
  exact ⟨rfl, HF.out⟩

theorem bag_draw {B b : Nat} {T H : List Value} {w : World} (h : BagIs B b T H w) (k : Nat) : BagIs B b T H (w.drewN k) := h
theorem bag_below' {B b : Nat} {T H : List Value} {w w' : World} (h : BagIs B b T H w) (hb : Below w.heap.size w w') : BagIs B b T H w' := by
  obtain ⟨tv, hv, h0, hBb, h1, h2⟩ := h
  exact ⟨tv, hv, (hb.block b (Array.getElem?_eq_some_iff.1 h0).1).trans h0, hBb, owns_below h1 hb, owns_below h2 hb⟩

/-- The lists of texts of a row of hunks. -/
def txts (xs : List HA) : List Value := xs.flatMap fun x => [x.vo, x.vn]
theorem txts_succ (xs : List HA) (k : Nat) (x : HA) (h : xs[k]? = some x) : txts (xs.take (k + 1)) = txts (xs.take k) ++ [x.vo, x.vn] := by
  rw [List.take_add_one, h]; simp [txts]
theorem txts_len (xs : List HA) : (txts xs).length = 2 * xs.length := by
  induction xs with
  | nil => rfl
  | cons x r ih => simp [txts] at ih ⊢; omega

end Go.Proofs.Ytkiafelpgcmifaa

/-
  The walk of (*bag).apart: all lists of a bag of texts and of hunks lie apart.
-/
namespace Go.Proofs.Ytkiafelpgcmifaa
open Go.RowKit Go.Shelf

attribute [local go_sem] Oper.semAt_some

theorem bag_cell {W : World} {b : Nat} {tv hv : Value} (h : W.heap[b]? = some (.cells (bagC tv hv) 73 (0, 0))) (i : Nat) : W.cell? ⟨b, i, none⟩ = (bagC tv hv)[i]? := Lib.cell_of_heap h i
theorem bag_below {W W' : World} {b : Nat} {tv hv : Value} (h : W.heap[b]? = some (.cells (bagC tv hv) 73 (0, 0))) (hb : Below W.heap.size W W') : W'.heap[b]? = some (.cells (bagC tv hv) 73 (0, 0)) := (hb.block b (Array.getElem?_eq_some_iff.1 h).1).trans h

/-- flatTexts of the bag's lists of texts. -/
theorem flatT_any (B : Nat) (R : List (Value × Nat)) (tv : Value) (w : World) (hls : w.ownsRow B 22 1 tv R.length (R.map Prod.fst)) (hA : Apart R) (hO : Own 9 1 B R w (fun _ _ => True)) (hB : B ≤ w.heap.size) (hR : R.length ≤ 100000) (hN : ∀ p ∈ R, p.2 ≤ 1000000) :
    Calls Try.prog 45 #[tv] w fun e w' => e = .returned (.bool true) ∧ KeepT 9 B w w' := by
  rcases hls.2 with ⟨rfl, _⟩ | ⟨g, cap, cur, rfl, _⟩
  · refine (flatTexts_nil w).mono ?_
    rintro e w' ⟨rfl, hb⟩
    exact ⟨rfl, KeepT.of_below hb hB⟩
  · exact flatTexts_some R g cap B w hls hA hO hB hR hN
theorem flatH_any (B : Nat) (R : List (Value × Nat)) (hv : Value) (w : World) (hls : w.ownsRow B 23 1 hv R.length (R.map Prod.fst)) (hA : Apart R) (hO : Own 40 3 B R w (fun _ _ => True)) (hB : B ≤ w.heap.size) (hR : R.length ≤ 100000) (hN : ∀ p ∈ R, p.2 ≤ 1000000) :
    Calls Try.prog 53 #[hv] w fun e w' => e = .returned (.bool true) ∧ KeepT 40 B w w' := by
  rcases hls.2 with ⟨rfl, _⟩ | ⟨g, cap, cur, rfl, _⟩
  · refine (flatHunks_nil w).mono ?_
    rintro e w' ⟨rfl, hb⟩
    exact ⟨rfl, KeepT.of_below hb hB⟩
  · exact flatHunks_some R g cap B w hls hA hO hB hR hN

set_option maxRecDepth 100000 in
set_option maxHeartbeats 8000000 in
theorem apart_any (B b : Nat) (RT RH : List (Value × Nat)) (w : World) (hbag : BagIs B b (RT.map Prod.fst) (RH.map Prod.fst) w) (hB : B ≤ w.heap.size) (hAT : Apart RT) (hAH : Apart RH) (hOT : Own 9 1 B RT w (fun _ _ => True)) (hOH : Own 40 3 B RH w (fun _ _ => True)) (lT : RT.length ≤ 100000) (lH : RH.length ≤ 100000) (nT : ∀ p ∈ RT, p.2 ≤ 1000000) (nH : ∀ p ∈ RH, p.2 ≤ 1000000) :
    Calls Try.prog 31 #[.pointer (some ⟨b, 0, none⟩)] w fun e w' => e = .returned (.bool true) ∧ Below B w w' := by
  obtain ⟨tv, hv, g0, hBb, hT, hH⟩ := hbag
  rw [List.length_map] at hT hH
  have HT : Hid (_) := hT
  have HH : Hid (_) := hH
  have HAT : Hid (_) := hAT
  have HAH : Hid (_) := hAH
  have HOT : Hid (_) := hOT
  have HOH : Hid (_) := hOH
  have HNT : Hid (_) := nT
  have HNH : Hid (_) := nH
  have H0 : Hid (_) := g0
  have c : w.cell? ⟨b, 0, none⟩ = some (.slice none 0 0) := bag_cell g0 0
  clear hT hH hAT hAH hOT hOH nT nH g0
  go_enter Try.func31, Try.ntmps31
  go_wp2_with fail
  refine (flatLimbs_nil w).mono ?_
  rintro e w0 ⟨rfl, B0⟩
  have G0 : w0.heap[b]? = some (.cells (bagC tv hv) 73 (0, 0)) := bag_below H0.out B0
  clear c
  have c : w0.cell? ⟨b, 1, none⟩ = some (.slice none 0 0) := bag_cell G0 1
  clear G0
  go_wp2_with fail
  refine (flatWords_nil w0).mono ?_
  rintro e w1 ⟨rfl, b1⟩
  have B1 : Below w.heap.size w w1 := (B0).trans (b1.mono (B0).size)
  have G1 : w1.heap[b]? = some (.cells (bagC tv hv) 73 (0, 0)) := bag_below H0.out B1
  clear c B0 b1
  have c : w1.cell? ⟨b, 2, none⟩ = some (.slice none 0 0) := bag_cell G1 2
  clear G1
  go_wp2_with fail
  refine (flatInts_nil w1).mono ?_
  rintro e w2 ⟨rfl, b2⟩
  have B2 : Below w.heap.size w w2 := (B1).trans (b2.mono (B1).size)
  have G2 : w2.heap[b]? = some (.cells (bagC tv hv) 73 (0, 0)) := bag_below H0.out B2
  clear c B1 b2
  have c : w2.cell? ⟨b, 3, none⟩ = some (.slice none 0 0) := bag_cell G2 3
  clear G2
  go_wp2_with fail
  refine (flatLongs_nil w2).mono ?_
  rintro e w3 ⟨rfl, b3⟩
  have B3 : Below w.heap.size w w3 := (B2).trans (b3.mono (B2).size)
  have G3 : w3.heap[b]? = some (.cells (bagC tv hv) 73 (0, 0)) := bag_below H0.out B3
  clear c B2 b3
  have c : w3.cell? ⟨b, 4, none⟩ = some (tv) := bag_cell G3 4
  clear G3
  go_wp2_with fail
  refine (flatT_any B RT tv w3 (owns_below HT.out B3) HAT.out (Own.below HOT.out B3) (Nat.le_trans hB (B3).size) lT HNT.out).mono ?_
  rintro e w4 ⟨rfl, k4⟩
  have G4 : w4.heap[b]? = some (.cells (bagC tv hv) 73 (0, 0)) := k4.2 b _ _ _ (bag_below H0.out B3) (by decide)
  have J4 : w4.ownsRow B 23 1 hv RH.length (RH.map Prod.fst) := k4.owns (owns_below HH.out B3) (by decide)
  have O4 : Own 40 3 B RH w4 (fun _ _ => True) := fun j p hp => by
    obtain ⟨xs, q1, q2⟩ := (Own.below HOH.out B3) j p hp
    exact ⟨xs, k4.owns q1 (by decide), q2⟩
  have S4 : Below B w w4 := ((B3).mono hB).trans k4.1
  have HJ : Hid (_) := J4
  have HO : Hid (_) := O4
  have H1 : Hid (_) := G4
  have HS : Hid (_) := S4
  have hB1 : B ≤ w4.heap.size := Nat.le_trans hB S4.size
  have B4 : Below w4.heap.size w4 w4 := Below.refl _ _
  clear c J4 O4 S4 k4 B3 H0 HT HH HAT HOT HNT HOH
  have c : w4.cell? ⟨b, 5, none⟩ = some (.slice none 0 0) := bag_cell G4 5
  clear G4
  go_wp2_with fail
  refine (flatBytes_nil w4).mono ?_
  rintro e w5 ⟨rfl, b5⟩
  have B5 : Below w4.heap.size w4 w5 := (B4).trans (b5.mono (B4).size)
  have G5 : w5.heap[b]? = some (.cells (bagC tv hv) 73 (0, 0)) := bag_below H1.out B5
  clear c B4 b5
  have c : w5.cell? ⟨b, 6, none⟩ = some (.slice none 0 0) := bag_cell G5 6
  clear G5
  go_wp2_with fail
  refine (flatTruths_nil w5).mono ?_
  rintro e w6 ⟨rfl, b6⟩
  have B6 : Below w4.heap.size w4 w6 := (B5).trans (b6.mono (B5).size)
  have G6 : w6.heap[b]? = some (.cells (bagC tv hv) 73 (0, 0)) := bag_below H1.out B6
  clear c B5 b6
  have c : w6.cell? ⟨b, 7, none⟩ = some (.slice none 0 0) := bag_cell G6 7
  clear G6
  go_wp2_with fail
  refine (flatTokens_nil w6).mono ?_
  rintro e w7 ⟨rfl, b7⟩
  have B7 : Below w4.heap.size w4 w7 := (B6).trans (b7.mono (B6).size)
  have G7 : w7.heap[b]? = some (.cells (bagC tv hv) 73 (0, 0)) := bag_below H1.out B7
  clear c B6 b7
  have c : w7.cell? ⟨b, 8, none⟩ = some (.slice none 0 0) := bag_cell G7 8
  clear G7
  go_wp2_with fail
  refine (flatSpans_nil w7).mono ?_
  rintro e w8 ⟨rfl, b8⟩
  have B8 : Below w4.heap.size w4 w8 := (B7).trans (b8.mono (B7).size)
  have G8 : w8.heap[b]? = some (.cells (bagC tv hv) 73 (0, 0)) := bag_below H1.out B8
  clear c B7 b8
  have c : w8.cell? ⟨b, 9, none⟩ = some (.slice none 0 0) := bag_cell G8 9
  clear G8
  go_wp2_with fail
  refine (flatNodes_nil w8).mono ?_
  rintro e w9 ⟨rfl, b9⟩
  have B9 : Below w4.heap.size w4 w9 := (B8).trans (b9.mono (B8).size)
  have G9 : w9.heap[b]? = some (.cells (bagC tv hv) 73 (0, 0)) := bag_below H1.out B9
  clear c B8 b9
  have c : w9.cell? ⟨b, 10, none⟩ = some (.slice none 0 0) := bag_cell G9 10
  clear G9
  go_wp2_with fail
  refine (flatFaults_nil w9).mono ?_
  rintro e w10 ⟨rfl, b10⟩
  have B10 : Below w4.heap.size w4 w10 := (B9).trans (b10.mono (B9).size)
  have G10 : w10.heap[b]? = some (.cells (bagC tv hv) 73 (0, 0)) := bag_below H1.out B10
  clear c B9 b10
  have c : w10.cell? ⟨b, 11, none⟩ = some (.slice none 0 0) := bag_cell G10 11
  clear G10
  go_wp2_with fail
  refine (flatMarks_nil w10).mono ?_
  rintro e w11 ⟨rfl, b11⟩
  have B11 : Below w4.heap.size w4 w11 := (B10).trans (b11.mono (B10).size)
  have G11 : w11.heap[b]? = some (.cells (bagC tv hv) 73 (0, 0)) := bag_below H1.out B11
  clear c B10 b11
  have c : w11.cell? ⟨b, 12, none⟩ = some (hv) := bag_cell G11 12
  clear G11
  go_wp2_with fail
  refine (flatH_any B RH hv w11 (owns_below HJ.out B11) HAH.out (Own.below HO.out B11) (Nat.le_trans hB1 (B11).size) lH HNH.out).mono ?_
  rintro e w12 ⟨rfl, k12⟩
  have G12 : w12.heap[b]? = some (.cells (bagC tv hv) 73 (0, 0)) := k12.2 b _ _ _ (bag_below H1.out B11) (by decide)
  have S12 : Below B w w12 := (HS.out.trans ((B11).mono hB1)).trans k12.1
  have H2 : Hid (_) := G12
  have HS2 : Hid (_) := S12
  have hB2 : B ≤ w12.heap.size := Nat.le_trans hB S12.size
  have B12 : Below w12.heap.size w12 w12 := Below.refl _ _
  clear c S12 k12 B11 HS H1 HJ HO HAH HNH
  have c : w12.cell? ⟨b, 13, none⟩ = some (.slice none 0 0) := bag_cell G12 13
  clear G12
  go_wp2_with fail
  refine (flatEdits_nil w12).mono ?_
  rintro e w13 ⟨rfl, b13⟩
  have B13 : Below w12.heap.size w12 w13 := (B12).trans (b13.mono (B12).size)
  have G13 : w13.heap[b]? = some (.cells (bagC tv hv) 73 (0, 0)) := bag_below H2.out B13
  clear c B12 b13
  have c : w13.cell? ⟨b, 14, none⟩ = some (.slice none 0 0) := bag_cell G13 14
  clear G13
  go_wp2_with fail
  refine (flatPatches_nil w13).mono ?_
  rintro e w14 ⟨rfl, b14⟩
  have B14 : Below w12.heap.size w12 w14 := (B13).trans (b14.mono (B13).size)
  have G14 : w14.heap[b]? = some (.cells (bagC tv hv) 73 (0, 0)) := bag_below H2.out B14
  clear c B13 b14
  have c : w14.cell? ⟨b, 15, none⟩ = some (.slice none 0 0) := bag_cell G14 15
  clear G14
  go_wp2_with fail
  refine (flatDocs_nil w14).mono ?_
  rintro e w15 ⟨rfl, b15⟩
  have B15 : Below w12.heap.size w12 w15 := (B14).trans (b15.mono (B14).size)
  have G15 : w15.heap[b]? = some (.cells (bagC tv hv) 73 (0, 0)) := bag_below H2.out B15
  clear c B14 b15
  have c : w15.cell? ⟨b, 16, none⟩ = some (.slice none 0 0) := bag_cell G15 16
  clear G15
  go_wp2_with fail
  refine (flatNamedRow_nil w15).mono ?_
  rintro e w16 ⟨rfl, b16⟩
  have B16 : Below w12.heap.size w12 w16 := (B15).trans (b16.mono (B15).size)
  have G16 : w16.heap[b]? = some (.cells (bagC tv hv) 73 (0, 0)) := bag_below H2.out B16
  clear c B15 b16
  have c : w16.cell? ⟨b, 17, none⟩ = some (.slice none 0 0) := bag_cell G16 17
  clear G16
  go_wp2_with fail
  refine (flatValues_nil w16).mono ?_
  rintro e w17 ⟨rfl, b17⟩
  have B17 : Below w12.heap.size w12 w17 := (B16).trans (b17.mono (B16).size)
  have G17 : w17.heap[b]? = some (.cells (bagC tv hv) 73 (0, 0)) := bag_below H2.out B17
  clear c B16 b17
  have c : w17.cell? ⟨b, 18, none⟩ = some (.slice none 0 0) := bag_cell G17 18
  clear G17
  go_wp2_with fail
  refine (flatOutcomes_nil w17).mono ?_
  rintro e w18 ⟨rfl, b18⟩
  have B18 : Below w12.heap.size w12 w18 := (B17).trans (b18.mono (B17).size)
  have G18 : w18.heap[b]? = some (.cells (bagC tv hv) 73 (0, 0)) := bag_below H2.out B18
  clear c B17 b18
  have c : w18.cell? ⟨b, 19, none⟩ = some (.slice none 0 0) := bag_cell G18 19
  clear G18
  go_wp2_with fail
  refine (flatCommands_nil w18).mono ?_
  rintro e w19 ⟨rfl, b19⟩
  have B19 : Below w12.heap.size w12 w19 := (B18).trans (b19.mono (B18).size)
  have G19 : w19.heap[b]? = some (.cells (bagC tv hv) 73 (0, 0)) := bag_below H2.out B19
  clear c B18 b19
  have c : w19.cell? ⟨b, 20, none⟩ = some (.slice none 0 0) := bag_cell G19 20
  clear G19
  go_wp2_with fail
  refine (flatAnswers_nil w19).mono ?_
  rintro e w20 ⟨rfl, b20⟩
  have B20 : Below w12.heap.size w12 w20 := (B19).trans (b20.mono (B19).size)
  have G20 : w20.heap[b]? = some (.cells (bagC tv hv) 73 (0, 0)) := bag_below H2.out B20
  clear c B19 b20
  go_wp2
  go_ret
  exact ⟨rfl, HS2.out.trans ((B20).mono hB2)⟩

end Go.Proofs.Ytkiafelpgcmifaa

/-
  The walk of clerestorykit.ApartHunks: rows of hunks, each with its lines in memory of its own, lie apart.
-/
namespace Go.Proofs.Ytkiafelpgcmifaa
open Go.RowKit Go.Shelf

attribute [local go_sem] Oper.semAt_some

/-- The lists of texts of rows of hunks, with their lengths. -/
def haRows (xs : List HA) : List (Value × Nat) := xs.flatMap fun x => [(x.vo, x.old.length), (x.vn, x.new.length)]
def txtRows (Rs : List (Value × List HA)) : List (Value × Nat) := Rs.flatMap fun p => haRows p.2
def hkRows (Rs : List (Value × List HA)) : List (Value × Nat) := Rs.map fun p => (p.1, p.2.length)
theorem haRows_fst (xs : List HA) : (haRows xs).map Prod.fst = txts xs := by
  induction xs with
  | nil => rfl
  | cons x r ih => simp [haRows, txts] at ih ⊢; exact ih
theorem txtRows_fst (Rs : List (Value × List HA)) : (txtRows Rs).map Prod.fst = Rs.flatMap fun p => txts p.2 := by
  induction Rs with
  | nil => rfl
  | cons x r ih => rw [txtRows, List.flatMap_cons, List.map_append, haRows_fst, List.flatMap_cons]; exact congrArg _ ih
theorem BagIs.mono {B B' b : Nat} {T H : List Value} {W : World} (h : BagIs B b T H W) (hb : B' ≤ B) : BagIs B' b T H W := by
  obtain ⟨tv, hv, h0, h1, h2, h3⟩ := h
  exact ⟨tv, hv, h0, Nat.le_trans hb h1, owns_base h2 hb, owns_base h3 hb⟩
theorem own_txt {B : Nat} {Rs : List (Value × List HA)} {W : World} (hrow : ∀ p ∈ Rs, W.ownsRow B 40 3 p.1 p.2.length (haCells p.2) ∧ ∀ x ∈ p.2, HA.Ok B x W) : Own 9 1 B (txtRows Rs) W (fun _ _ => True) := fun j p hp => by
  have hm := List.mem_of_getElem? hp
  obtain ⟨q, hq, hm⟩ := List.mem_flatMap.1 hm
  obtain ⟨x, hx, hm⟩ := List.mem_flatMap.1 hm
  obtain ⟨o1, o2⟩ := (hrow q hq).2 x hx
  simp only [List.mem_cons, List.not_mem_nil, or_false] at hm
  rcases hm with rfl | rfl
  · exact ⟨_, o1, trivial⟩
  · exact ⟨_, o2, trivial⟩
theorem own_hk {B : Nat} {Rs : List (Value × List HA)} {W : World} (hrow : ∀ p ∈ Rs, W.ownsRow B 40 3 p.1 p.2.length (haCells p.2) ∧ ∀ x ∈ p.2, HA.Ok B x W) : Own 40 3 B (hkRows Rs) W (fun _ _ => True) := fun j p hp => by
  have hm := List.mem_of_getElem? hp
  obtain ⟨q, hq, rfl⟩ := List.mem_map.1 hm
  exact ⟨_, (hrow q hq).1, trivial⟩

/-- A row that lay there stays, where all that lay there stays. -/
theorem owns_lt {W W' : World} {B k size : Nat} {e : TypeId} {v : Value} {xs : List Value} (h : W.ownsRow B e size v k xs) (hb : Below W.heap.size W W') : W'.ownsRow B e size v k xs := owns_below h hb

end Go.Proofs.Ytkiafelpgcmifaa

/-
  The walk of clerestorykit.ApartTexts: rows of texts, each in memory of its own, lie apart.
-/
namespace Go.Proofs.Ytkiafelpgcmifaa
open Go.RowKit Go.Shelf

attribute [local go_sem] Oper.semAt_some

set_option maxRecDepth 100000 in
set_option maxHeartbeats 8000000 in
theorem apartTexts_any (B : Nat) (R : List (Value × Nat)) (T capT : Nat) (w : World) (hcell : ∀ (k : Nat) (p : Value × Nat), R[k]? = some p → w.cell? ⟨T, k, none⟩ = some p.1) (hO : Own 9 1 B R w (fun _ _ => True)) (hA : Apart R) (hB : B ≤ w.heap.size) (hn : R.length ≤ 10) (hN : ∀ p ∈ R, p.2 ≤ 1000000) :
    Calls Try.prog 15 #[.slice (some ⟨T, 0, none⟩) R.length capT] w fun e w' => e = .returned (.bool true) ∧ Below B w w' := by
  obtain ⟨n, hnn⟩ : ∃ n, n = R.length := ⟨_, rfl⟩
  have HN : Hid (n = R.length) := hnn
  have HC : Hid (_) := hcell
  have HO : Hid (Own 9 1 B R w (fun _ _ => True)) := hO
  have HA : Hid (Apart R) := hA
  have HX : Hid (_) := hN
  rw [← hnn] at hn ⊢
  clear hcell hO hA hN hnn
  obtain ⟨X, hX⟩ : ∃ X, X = w.alloc (.cells (bagC (.slice none 0 0) (.slice none 0 0)) 73) := ⟨_, rfl⟩
  have bX : Below w.heap.size w X := by rw [hX]; exact below_nw w _
  have hXh : X.heap[w.heap.size]? = some (.cells (bagC (.slice none 0 0) (.slice none 0 0)) 73 (0, 0)) := by rw [hX]; exact World.alloc_heap_new w _
  have HBG : Hid (BagIs w.heap.size w.heap.size [] [] X) := ⟨_, _, hXh, Nat.le_refl _, World.ownsRow_nil _ _ _ _, World.ownsRow_nil _ _ _ _⟩
  have sX : w.heap.size < X.heap.size := by rw [hX]; simp
  have HBX : Hid (_) := bX
  clear bX hXh
  refine (callsIn_wide (n := 3)).1 ?_
  refine callsIn_of_wp Try.func15 rfl trivial ?_ rfl
  simp only [Try.ntmps15, List.size_toArray, List.length_cons, List.length_nil, Nat.reduceAdd, Nat.reduceSub, Array.replicate_succ, Array.replicate_zero, List.push_toArray, List.append_toArray, List.nil_append, List.cons_append]
  gi_wp2
  unfold bagC at hX
  rw [← hX]
  clear hX
  gi_loopw [4] (fun v wr => ∃ k : Nat, k ≤ n ∧ v = .int .i64 k ∧ BagIs w.heap.size w.heap.size ((R.take k).map Prod.fst) [] wr ∧ Below w.heap.size w wr ∧ w.heap.size < wr.heap.size) (fun v _ => n - (intOf v).toNat)
  case atStart => exact ⟨0, by omega, rfl, HBG.out, HBX.out, sX⟩
  case round =>
    clear HBG HBX
    obtain ⟨k, hk, rfl, hbag, hbw, hsw⟩ := hrel
    by_cases hlt : k < n
    · obtain ⟨p, hp⟩ : ∃ p, R[k]? = some p := ⟨R[k]'(by have := HN.out; omega), List.getElem?_eq_getElem (by have := HN.out; omega)⟩
      have cT0 := HC.out k p hp
      have cT : wr.cell? ⟨T, k, none⟩ = some p.1 := (hbw.cell (p := ⟨T, k, none⟩) (by simpa using World.block_lt_of_cell? _ _ cT0)).trans cT0
      obtain ⟨ys, r1, -⟩ := HO.out k p hp
      have HP : Hid (_) := hp
      obtain ⟨v, m⟩ := p
      simp only at cT HP r1
      obtain ⟨ao, cap, rfl⟩ := slice_shape r1
      have PH : Hid (_) := putTexts_any w.heap.size w.heap.size ((R.take k).map Prod.fst) [] ao m cap wr hbag (Nat.le_of_lt hsw) (by simp; omega)
      clear hbag cT0 r1 hp
      gi_wp2_with fail
      refine ⟨trivial, ?_⟩
      refine (callsIn_wide.2 PH.out).mono ?_
      rintro e w1 ⟨rfl, hb1, k1⟩
      gi_wp2
      go_roundw
      case rel =>
        refine ⟨k + 1, by omega, by go_num, ?_, hbw.trans k1.1, Nat.lt_of_lt_of_le hsw k1.1.size⟩
        rw [List.take_add_one, HP.out]
        simpa using hb1
      case measure => simp [intOf]; omega
    · have hkn : k = R.length := by have := HN.out; omega
      rw [hkn, List.take_length] at hbag
      have AP : Hid (_) := apart_any B w.heap.size R [] wr (hbag.mono hB) (by omega) HA.out (fun j k p q hp => by simp at hp) (Own.below HO.out hbw) (fun j p hp => by simp at hp) (by have := HN.out; omega) (by simp) HX.out (fun p hp => by simp at hp)
      clear hbag hkn
      gi_wp2_with fail
      refine ⟨trivial, ?_⟩
      refine (callsIn_wide.2 AP.out).mono ?_
      rintro e w1 ⟨rfl, hb1⟩
      gi_wp2
      exact bodyPost_ret (results_tmp rfl _ _ _) rfl ⟨rfl, (hbw.mono hB).trans hb1⟩

end Go.Proofs.Ytkiafelpgcmifaa

/-
  Arguments that are rows of texts or of ints, opened.
-/
namespace Go.Proofs.Ytkiafelpgcmifaa
open Go.ChangeShapes Go.WideShapes Go.ChangeAt Go.RowKit

theorem own : ownKnob Try.prog.godebug = none := by kernel_rfl

/-- Cells by an address, as a row. -/
theorem cells_arg {w : World} {a : Addr} {n cap : Nat} {xs : List Value} (hn : xs.length = n) (hcap : n ≤ cap) (hc : ∀ (j : Nat) (x : Value), xs[j]? = some x → w.cell? (a.add j) = some x) : CellsLow w.heap.size w (.slice (some a) n cap) n xs := by
  subst hn
  cases xs with
  | nil => exact ⟨some a, cap, 0, 0, rfl, ⟨hcap, fun e => by cases e⟩, fun h => absurd h (by simp), fun j x hx => by simp at hx⟩
  | cons y r =>
    obtain ⟨b, off, spot⟩ := a
    have h0 := hc 0 y rfl
    have hspot : spot = none := by simpa [Addr.add] using World.cell?_spot h0
    subst hspot
    have hlt : b < w.heap.size := by simpa [Addr.add] using World.block_lt_of_cell? _ _ h0
    refine ⟨_, cap, b, off, rfl, ⟨hcap, fun e => by cases e⟩, fun _ => ⟨rfl, hlt⟩, fun j x hx => ?_⟩
    have := hc j x hx
    rwa [Go.WideShapes.add_plain] at this

theorem strings_arg {H : Type} {enc : TypeId × Value → H} {W : World} {a0 : Option Addr} {len0 cap0 base : Nat} {sp : Nat → Bool} {held : Bool} {fuel : Nat} {z : DataW H × List MemPlace} (h : DataW.trod enc Try.prog W base sp held fuel 22 (Value.slice a0 len0 cap0).cells.toList = some z) :
    ∃ L : List (List UInt8), L.length = len0 ∧ RowLow W.heap.size W (.slice a0 len0 cap0) L ∧ L.length ≤ 9223372036854775807 ∧ ∀ x ∈ L, x.length ≤ 9223372036854775807 := by
  rcases open_strings Try.underlying22 Try.underlying9 (by kernel_rfl) h with ⟨hcs, _⟩ | ⟨x, l, c, ss, hcs, _, hl, hm, hz, _, hcell, hwz⟩
  · simp [Value.cells] at hcs
    obtain ⟨rfl, rfl, rfl⟩ := hcs
    exact ⟨[], rfl, ⟨none, 0, 0, 0, rfl, ⟨Nat.le_refl _, fun _ => rfl⟩, fun h => absurd h (by simp), fun j x hx => by simp at hx⟩, by simp, fun x hx => by simp at hx⟩
  · simp [Value.cells] at hcs
    obtain ⟨rfl, rfl, rfl⟩ := hcs
    have hlen : len0 ≤ ss.length := by rw [hz]; split <;> omega
    have hll : ((ss.take len0).map (fun s => s.data.toList)).length = len0 := by rw [List.length_map, List.length_take, Nat.min_eq_left hlen]
    refine ⟨(ss.take len0).map (fun s => s.data.toList), hll, ?_, ?_, ?_⟩
    · unfold RowLow
      rw [hll]
      refine cells_arg (by rw [List.length_map, hll]) hl (fun j u hu => ?_)
      rw [List.getElem?_map, List.getElem?_map, List.getElem?_take] at hu
      split at hu
      · have hj : j < ss.length := by omega
        rw [List.getElem?_eq_getElem hj] at hu
        simp only [Option.map_some, Option.some.injEq] at hu
        rw [hcell j hj, ← hu]
        simp [List.getD, List.getElem?_eq_getElem hj, txtV, Ln.bs_of]
      · simp at hu
    · rw [hll]; unfold maxLen at hm; omega
    · intro y hy
      obtain ⟨s, hs, rfl⟩ := List.mem_map.1 hy
      exact hwz s (List.mem_of_mem_take hs)

theorem ints_arg {H : Type} {enc : TypeId × Value → H} {W : World} {a0 : Option Addr} {len0 cap0 base : Nat} {sp : Nat → Bool} {held : Bool} {fuel : Nat} {z : DataW H × List MemPlace} (h : DataW.trod enc Try.prog W base sp held fuel 116 (Value.slice a0 len0 cap0).cells.toList = some z) :
    ∃ T : List Int, T.length = len0 ∧ CellsLow W.heap.size W (.slice a0 len0 cap0) T.length (T.map (Value.int .i64)) ∧ T.length ≤ 9223372036854775807 := by
  rcases open_ints Try.underlying116 Try.underlying3 (by kernel_rfl) h with ⟨hcs, _⟩ | ⟨x, l, c, zs, hcs, _, hl, hm, hz, _, hcell, _⟩
  · simp [Value.cells] at hcs
    obtain ⟨rfl, rfl, rfl⟩ := hcs
    exact ⟨[], rfl, ⟨none, 0, 0, 0, rfl, ⟨Nat.le_refl _, fun _ => rfl⟩, fun h => absurd h (by simp), fun j x hx => by simp at hx⟩, by simp⟩
  · simp [Value.cells] at hcs
    obtain ⟨rfl, rfl, rfl⟩ := hcs
    have hlen : len0 ≤ zs.length := by rw [hz]; split <;> omega
    have hll : (zs.take len0).length = len0 := by rw [List.length_take, Nat.min_eq_left hlen]
    refine ⟨zs.take len0, hll, ?_, ?_⟩
    · rw [hll]
      refine cells_arg (by rw [List.length_map, hll]) hl (fun j u hu => ?_)
      rw [List.getElem?_map, List.getElem?_take] at hu
      split at hu
      · have hj : j < zs.length := by omega
        rw [List.getElem?_eq_getElem hj] at hu
        simp only [Option.map_some, Option.some.injEq] at hu
        rw [hcell j hj, ← hu]
        simp [List.getD, List.getElem?_eq_getElem hj]
      · simp at hu
    · rw [hll]; unfold maxLen at hm; omega

end Go.Proofs.Ytkiafelpgcmifaa

/-
  Arguments that are rows of hunks, opened; with what the statement's own reach says of their lengths.
-/
namespace Go.Proofs.Ytkiafelpgcmifaa
open Go.ChangeShapes Go.WideShapes Go.ChangeAt Go.RowKit Go.Deep Go.Deep

theorem bytes9 : Try.prog.bytesOf 9 = 16 := by kernel_rfl
theorem bytesH : Try.prog.bytesOf 40 = 56 := by kernel_rfl
theorem cellsH : Try.prog.cellsOf 40 = 3 := by kernel_rfl
theorem cellsS : Try.prog.cellsOf 22 = 1 := by kernel_rfl
theorem cellsI : Try.prog.cellsOf 3 = 1 := by kernel_rfl

/-- A row of texts, its length by its weight. -/
theorem texts_open {H : Type} {enc : TypeId × Value → H} {W : World} {base : Nat} {sp : Nat → Bool} {held : Bool} {fuel : Nat} {cs : List Value} {z : DataW H × List MemPlace} (h : DataW.trod enc Try.prog W base sp held fuel 22 cs = some z) (hw : ∀ n ∈ z.1.weights Try.prog 22, n ≤ reachBytes) :
    ∃ (ao : Option Addr) (len cap : Nat) (L : List (List UInt8)), cs = [.slice ao len cap] ∧ L.length = len ∧ RowLow W.heap.size W (.slice ao len cap) L ∧ L.length ≤ 1000000000000000 ∧ ∀ x ∈ L, x.length ≤ 9223372036854775807 := by
  have h' := h
  rcases open_strings Try.underlying22 Try.underlying9 (by kernel_rfl) h with ⟨hcs, _⟩ | ⟨x, l, c, ss, hcs, _, hl, hm, hz, hzz, hcell, hwz⟩
  · subst hcs
    obtain ⟨L, e1, e2, e3, e4⟩ := strings_arg (a0 := none) (len0 := 0) (cap0 := 0) h'
    exact ⟨none, 0, 0, L, rfl, e1, e2, by omega, e4⟩
  · subst hcs
    obtain ⟨L, e1, e2, e3, e4⟩ := strings_arg (a0 := some x) (len0 := l) (cap0 := c) h'
    refine ⟨some x, l, c, L, rfl, e1, e2, ?_, e4⟩
    have hlen : l ≤ ss.length := by rw [hz]; split <;> omega
    have h9 := hw (((strs (H := H) (ss.take l)).length + (strs (H := H) (ss.drop l)).length) * 16) (by
      rw [hzz]
      simp [DataW.weights, Try.underlying22, bytes9])
    simp [strs] at h9
    unfold reachBytes at h9
    omega

theorem weights_part {H : Type} {t : TypeId} {fs : Array Field} {parts : List (DataW H)} (hu : Try.prog.underlying t = some (.struct fs)) {j : Nat} {f : Field} {d : DataW H} (hf : fs.toList[j]? = some f) (hd : parts[j]? = some d) : ∀ n ∈ d.weights Try.prog f.type, n ∈ (DataW.agg parts).weights Try.prog t := by
  intro n hn
  have h := DataW.weights_mem_each (P := Try.prog) (ts := fs.toList.map (·.type)) (ds := parts) (j := j) (t := f.type) (d := d) (by rw [List.getElem?_map, hf]; rfl) hd n hn
  simp only [DataW.weights, hu]
  exact h

/-- A hunk, opened. -/
theorem hunk_open {H : Type} {enc : TypeId × Value → H} {W : World} {base : Nat} {sp : Nat → Bool} {held : Bool} {fuel : Nat} {cs : List Value} {z : DataW H × List MemPlace} (h : DataW.trod enc Try.prog W base sp held fuel 40 cs = some z) (hw : ∀ n ∈ z.1.weights Try.prog 40, n ≤ reachBytes) :
    ∃ x : HA, cs = [.int .i64 x.at_, x.vo, x.vn] ∧ x.Low W.heap.size W ∧ x.Fits ∧ x.Mach := by
  obtain ⟨y0, y1, y2, n, rfl, hl, t0, t1, t2⟩ := trod_struct3 Try.underlying40 h
  simp only [cellsH] at hl
  simp only [cellsS, cellsI] at t0 t1 t2
  have w1 := weights_part (H := H) (parts := [y0.1, y1.1, y2.1]) Try.underlying40 (j := 1) rfl (d := y1.1) rfl
  have w2 := weights_part (H := H) (parts := [y0.1, y1.1, y2.1]) Try.underlying40 (j := 2) rfl (d := y2.1) rfl
  obtain ⟨p, e0, -, hp⟩ := DataW.trod_int Try.underlying3 t0
  obtain ⟨a1, n1, c1, L1, e1, l1, r1, m1, s1⟩ := texts_open t1 (fun k hk => hw k (w1 k hk))
  obtain ⟨a2, n2, c2, L2, e2, l2, r2, m2, s2⟩ := texts_open t2 (fun k hk => hw k (w2 k hk))
  refine ⟨⟨p, .slice a1 n1 c1, .slice a2 n2 c2, L1, L2⟩, ?_, ⟨r1, r2⟩, ⟨?_, ⟨by show L1.length ≤ _; omega, by show L2.length ≤ _; omega⟩, s1, s2⟩, ⟨m1, m2⟩⟩
  · match cs, hl with
    | [u0, u1, u2], _ =>
      simp at e0 e1 e2
      rw [e0, e1, e2]
  · simp only [Lit.wf, IntKind.min, IntKind.max, IntKind.signed, IntKind.bits, Bool.and_eq_true, decide_eq_true_eq, if_true] at hp
    show -9223372036854775808 ≤ p ∧ p ≤ 9223372036854775807
    omega

theorem weights_elem {H : Type} {e : TypeId} : ∀ (ds : List (DataW H)) (d : DataW H), d ∈ ds → ∀ n ∈ d.weights Try.prog e, n ∈ DataW.weightsAll Try.prog e ds
  | [], d, hd, _, _ => by cases hd
  | x :: r, d, hd, n, hn => by
    simp only [DataW.weightsAll, List.mem_append]
    rcases List.mem_cons.1 hd with rfl | hd
    · exact .inl hn
    · exact .inr (weights_elem r d hd n hn)

theorem haCells_len (xs : List HA) : (haCells xs).length = xs.length * 3 := by
  induction xs with
  | nil => rfl
  | cons y r ih =>
    have e : haCells (y :: r) = [.int .i64 y.at_, y.vo, y.vn] ++ haCells r := rfl
    rw [e, List.length_append, ih]
    simp; omega

/-- A row of hunks, opened. -/
theorem hunks_open {H : Type} {enc : TypeId × Value → H} {W : World} {a0 : Option Addr} {len0 cap0 base : Nat} {sp : Nat → Bool} {held : Bool} {fuel : Nat} {z : DataW H × List MemPlace} (h : DataW.trod enc Try.prog W base sp held fuel 23 (Value.slice a0 len0 cap0).cells.toList = some z) (hw : ∀ n ∈ z.1.weights Try.prog 23, n ≤ reachBytes) :
    ∃ xs : List HA, xs.length = len0 ∧ HaLow W.heap.size W (.slice a0 len0 cap0) xs ∧ xs.length ≤ 1000000000000000 ∧ ∀ x ∈ xs, x.Fits ∧ x.Mach := by
  rcases open_slice Try.underlying23 h with ⟨hcs, _⟩ | ⟨a, len, cap, m, n, D, Pl, hcs, hb, hl, hmx, hm, hz, heach⟩
  · simp [Value.cells] at hcs
    obtain ⟨rfl, rfl, rfl⟩ := hcs
    exact ⟨[], rfl, ⟨⟨none, 0, 0, 0, rfl, ⟨Nat.le_refl _, fun _ => rfl⟩, fun h => absurd h (by simp), fun j x hx => by simp [haCells] at hx⟩, fun x hx => by simp at hx⟩, by simp, fun x hx => by simp at hx⟩
  · simp [Value.cells] at hcs
    obtain ⟨rfl, rfl, rfl⟩ := hcs
    rw [hz] at hw
    simp only [cellsH] at heach
    have hlm : len0 ≤ m := by rw [hm]; split <;> omega
    have hwl : len0 * 56 ≤ reachBytes := by
      have h9 := hw ((((List.range len0).map D).length + ((List.range (m - len0)).map fun j => D (len0 + j)).length) * 56) (by
        simp [DataW.weights, Try.underlying23, bytesH])
      simp at h9
      omega
    have each : ∀ k, k ≤ len0 → ∃ xs : List HA, xs.length = k ∧ (∀ (j : Nat) (u : Value), (haCells xs)[j]? = some u → W.cell? (a.add j) = some u) ∧ ∀ x ∈ xs, x.Low W.heap.size W ∧ x.Fits ∧ x.Mach := by
      intro k
      induction k with
      | zero => intro _; exact ⟨[], rfl, fun j u hu => by simp [haCells] at hu, fun x hx => by simp at hx⟩
      | succ k ih =>
        intro hk
        obtain ⟨xs, e1, e2, e3⟩ := ih (by omega)
        obtain ⟨cs', hc', ht'⟩ := heach k (by omega)
        obtain ⟨x, rfl, x1, x2, x3⟩ := hunk_open ht' (fun q hq => hw q (by
          simp only [DataW.weights, Try.underlying23, List.mem_cons, List.mem_append]
          exact .inr (.inl (weights_elem _ (D k) (List.mem_map.2 ⟨k, List.mem_range.2 (by omega), rfl⟩) q hq))))
        obtain ⟨-, -, hcc⟩ := World.cells?_some hc'
        refine ⟨xs ++ [x], by simp [e1], fun j u hu => ?_, fun y hy => ?_⟩
        · have hle : (haCells xs).length = k * 3 := by rw [haCells_len, e1]
          have he : haCells (xs ++ [x]) = haCells xs ++ [.int .i64 x.at_, x.vo, x.vn] := by simp [haCells]
          rw [he] at hu
          by_cases hj : j < k * 3
          · rw [List.getElem?_append_left (by omega)] at hu
            exact e2 j u hu
          · rw [List.getElem?_append_right (by omega), hle] at hu
            have hj3 : j - k * 3 < 3 := by have := (List.getElem?_eq_some_iff.1 hu).1; simpa using this
            have h9 := hcc (j - k * 3) hj3
            rw [hu] at h9
            have ha : (a.add (k * 3)).add (j - k * 3) = a.add j := by
              rw [Addr.add_add]; congr 1; omega
            rw [ha] at h9
            exact h9
        · rcases List.mem_append.1 hy with hy | hy
          · exact e3 y hy
          · rw [List.mem_singleton] at hy; subst hy
            exact ⟨x1, x2, x3⟩
    obtain ⟨xs, e1, e2, e3⟩ := each len0 (Nat.le_refl _)
    have hlen : xs.length ≤ 1000000000000000 := by unfold reachBytes at hwl; omega
    refine ⟨xs, e1, ⟨?_, fun x hx => (e3 x hx).1⟩, hlen, fun x hx => (e3 x hx).2⟩
    subst e1
    cases xs with
    | nil => exact ⟨some a, cap0, 0, 0, rfl, ⟨hl, fun e => by cases e⟩, fun h => absurd h (by simp), fun j x hx => by simp [haCells] at hx⟩
    | cons y r =>
      obtain ⟨b, off, spot⟩ := a
      have h0 := e2 0 (.int .i64 y.at_) rfl
      have hspot : spot = none := by simpa [Addr.add] using World.cell?_spot h0
      subst hspot
      have hlt : b < W.heap.size := by simpa [Addr.add] using World.block_lt_of_cell? _ _ h0
      refine ⟨_, cap0, b, off, rfl, ⟨hl, fun e => by cases e⟩, fun _ => ⟨rfl, hlt⟩, fun j x hx => ?_⟩
      have := e2 j x hx
      rwa [Go.WideShapes.add_plain] at this

end Go.Proofs.Ytkiafelpgcmifaa
