/-
  The walks of the law's 'of' and 'awake': the chapter's examples.
-/
import Derived.Test.YtpcinbfelikgpaaGreatDoorShelf
import Derived.Test.YtpcinbfelikgpaaGreatDoorSameHunks
namespace Go.Proofs.YtpcinbfelikgpaaGreatDoor
open Go.RowKit

/-- A text's bytes, one by one. -/
def chars (l : List UInt8) : List (List UInt8) := l.map fun c => [c]
theorem charsB_chars (l : List UInt8) : (Lib.charsB (Ln.bs l)).map Value.string = (chars l).map txtV := by
  apply List.ext_getElem?
  intro j
  unfold Lib.charsB Lib.charsUpTo chars
  rw [List.getElem?_map, List.getElem?_map, List.getElem?_map, List.getElem?_map, Ln.bs_size]
  by_cases hj : j < l.length
  · rw [List.getElem?_range hj, List.getElem?_eq_getElem hj]
    simp only [Option.map_some, txtV]
    congr 2
    rw [Lib.extract_eq]
    unfold Ln.bs
    congr 2
    have e : List.take (j + 1 - j) (List.drop j l) = [l[j]] := by
      rw [List.drop_eq_getElem_cons hj]
      have e1 : j + 1 - j = 1 := by omega
      rw [e1]; rfl
    exact e
  · rw [List.getElem?_eq_none (by simp; omega), List.getElem?_eq_none (by omega)]; rfl

theorem of_any (l : List UInt8) (h0 : l ≠ []) (hl : l.length ≤ 1000) (hc : ∀ b ∈ l, b.toNat < 128) (w : World) :
    Calls Tryz.prog 17 #[.string (Ln.bs l)] w fun e w' => ∃ v, e = .returned v ∧ w'.ownsRow w.heap.size 9 1 v (chars l).length ((chars l).map txtV) ∧ Below w.heap.size w w' := by
  have hne : ((Ln.bs l).toList == ([] : List UInt8)) = false := by
    rw [Lib.toList_data, Ln.bs_toList]
    simpa using h0
  go_enter Tryz.func17, Tryz.ntmps17
  go_wp2_with fail
  refine (split_chars (Ln.bs l) ⟨#[]⟩ w rfl (by rw [Ln.bs_size]; omega) (fun j b hb => hc b (by rw [Ln.bs_toList] at hb; exact List.mem_of_getElem? hb))).mono ?_
  rintro e w1 ⟨rfl, rfl⟩
  go_wp2
  go_ret
  have hsz : (w.iter (Ln.bs l) (Ln.bs l).size).heap.size = w.heap.size + 1 := by simp [World.iter]
  have hb1 : Below w.heap.size w (w.iter (Ln.bs l) (Ln.bs l).size) := (Below.refl _ w).alloc (Nat.le_refl _) _
  have hcl : (chars l).length = (Ln.bs l).size := by rw [Ln.bs_size]; simp [chars]
  refine ⟨_, rfl, ?_, hb1.alloc (by omega) _⟩
  have h := World.ownsRow_lit (e := 9) (size := 1) (base := w.heap.size) (w.iter (Ln.bs l) (Ln.bs l).size) ((Lib.charsB (Ln.bs l)).map Value.string).toArray (Ln.bs l).size (by omega) (by rw [Ln.bs_size]; unfold maxLen; omega) (by rw [charsB_chars]; simp; omega)
  rw [List.toList_toArray, charsB_chars] at h
  rw [hcl, charsB_chars]
  exact h

theorem chars_small (l : List UInt8) : ∀ x ∈ chars l, x.length ≤ 1000000 := by
  intro x hx
  obtain ⟨c, _, rfl⟩ := List.mem_map.1 hx
  simp

theorem below_then {A B C : World} (h : Below A.heap.size A B) (k : Below B.heap.size B C) : Below A.heap.size A C := h.trans (k.mono h.size)
theorem below_new (A : World) (o : Obj) : Below A.heap.size A (A.alloc o) := (Below.refl _ A).alloc (Nat.le_refl _) _
theorem below_draw (A : World) (d : Nat) : Below A.heap.size A (A.drewN d) := below_drewN (Below.refl _ A) d
theorem RowLow.at {A B : World} {v : Value} {L : List (List UInt8)} (h : RowLow A.heap.size A v L) (hb : Below A.heap.size A B) : RowLow B.heap.size B v L := (h.below hb (Nat.le_refl _)).mono hb.size
theorem CellsLow.at {A B : World} {v : Value} {n : Nat} {xs : List Value} (h : CellsLow A.heap.size A v n xs) (hb : Below A.heap.size A B) (h0 : n = 0 → xs = []) : CellsLow B.heap.size B v n xs := (h.below hb (Nat.le_refl _) h0).mono hb.size
theorem HkLow.at {A B : World} {v : Value} {xs : List HV} (h : HkLow A.heap.size A v xs) (hb : Below A.heap.size A B) : HkLow B.heap.size B v xs :=
  ⟨h.1.at hb (fun h0 => by rw [List.length_eq_zero_iff.1 h0]; rfl), fun x hx => ((h.2 x hx).below hb (Nat.le_refl _)).mono hb.size⟩
/-- A row that is written out. -/
theorem CellsLow.lit (w : World) (l : List Value) (t : TypeId) (n : Nat) : CellsLow (w.alloc (.cells l.toArray t)).heap.size (w.alloc (.cells l.toArray t)) (.slice (some ⟨w.heap.size, 0, none⟩) n n) n l := by
  refine ⟨_, n, w.heap.size, 0, rfl, ⟨Nat.le_refl _, fun e => by cases e⟩, fun _ => ⟨rfl, by simp⟩, fun j x hx => ?_⟩
  rw [Nat.zero_add, Lib.cell_of_heap (World.alloc_heap_new w _)]
  simpa using hx

def eA : List (List UInt8) := chars [97, 98, 99]
def eB : List (List UInt8) := chars [97, 120, 99]
def eC : List (List UInt8) := chars [97, 98]
def eD : List (List UInt8) := chars [98, 97]
theorem e_cm1 : Df.common eA eB = [(0, 0), (2, 2)] := by simp [eA, eB, chars, Df.common, Df.cm, Df.lc]
theorem e_cm2 : Df.common eC eD = [(1, 0)] := by simp [eC, eD, chars, Df.common, Df.cm, Df.lc]
theorem e_hk1 : Df.hunks eA eB = [⟨1, [[98]], [[120]]⟩] := by
  rw [Df.hunks, e_cm1]; simp [eA, eB, chars, Df.hks, Df.part]
theorem e_hk2 : Df.hunks eC eD = [⟨0, [[97]], []⟩, ⟨2, [], [[97]]⟩] := by
  rw [Df.hunks, e_cm2]; simp [eC, eD, chars, Df.hks, Df.part]

theorem of_at (l : List UInt8) (L : List (List UInt8)) (hL : chars l = L) (h0 : l ≠ []) (hl : l.length ≤ 1000) (hc : ∀ b ∈ l, b.toNat < 128) (w : World) :
    Calls Tryz.prog 17 #[.string ⟨l.toArray⟩] w fun e w' => ∃ ao cap, e = .returned (.slice ao L.length cap) ∧ RowLow w'.heap.size w' (.slice ao L.length cap) L ∧ Below w.heap.size w w' := by
  subst hL
  refine (of_any l h0 hl hc w).mono ?_
  rintro e w' ⟨v, rfl, ho, hb⟩
  obtain ⟨ao, cap, rfl⟩ := slice_shape ho
  exact ⟨ao, cap, rfl, RowLow.of_owns ho, hb⟩
theorem hunks_at (A B : List (List UInt8)) (hs : List (Df.Hk (List UInt8))) (he : Df.hunks A B = hs) (va vb : Value) (w : World) (ha : RowLow w.heap.size w va A) (hb : RowLow w.heap.size w vb B) (hA : A.length ≤ 1000) (hB : B.length ≤ 1000) (sA : ∀ x ∈ A, x.length ≤ 1000000) (sB : ∀ x ∈ B, x.length ≤ 1000000) :
    Calls Tryz.prog 8 #[va, vb] w fun e w' => ∃ (v : Value) (xs : List HV), e = .returned v ∧ xs.map HV.hk = hs ∧ HkLow w'.heap.size w' v xs ∧ Below w.heap.size w w' := by
  subst he
  refine (hunks_any A B va vb w ha hb (by omega) (by omega) sA sB).mono ?_
  rintro e w' ⟨v, xs, rfl, h1, -, h2, h3, h4⟩
  exact ⟨v, xs, rfl, h1, HkLow.of_owns h2 h3, h4⟩
theorem common_at (A B : List (List UInt8)) (ps : List (Nat × Nat)) (he : Df.common A B = ps) (va vb : Value) (w : World) (ha : RowLow w.heap.size w va A) (hb : RowLow w.heap.size w vb B) (sA : ∀ x ∈ A, x.length ≤ 1000000) (sB : ∀ x ∈ B, x.length ≤ 1000000) :
    Calls Tryz.prog 7 #[va, vb] w fun e w' => ∃ (v : Value), e = .returned v ∧ CellsLow w'.heap.size w' v ps.length (pairCells ps) ∧ Below w.heap.size w w' := by
  subst he
  refine (common_any A B va vb w ha hb sA sB).mono ?_
  rintro e w' ⟨v, rfl, h1, h2⟩
  exact ⟨v, rfl, CellsLow.of_owns h1, h2⟩

theorem hk_small {xs : List HV} {hs : List (Df.Hk (List UInt8))} (he : xs.map HV.hk = hs) (h : ∀ k ∈ hs, k.old.length ≤ 1000000 ∧ k.new.length ≤ 1000000) : ∀ x ∈ xs, x.old.length ≤ 1000000 ∧ x.new.length ≤ 1000000 := by
  intro x hx
  exact h x.hk (by rw [← he]; exact List.mem_map_of_mem hx)
theorem hk_len {xs : List HV} {hs : List (Df.Hk (List UInt8))} (he : xs.map HV.hk = hs) : xs.length = hs.length := by rw [← he, List.length_map]

set_option maxRecDepth 100000 in
set_option maxHeartbeats 8000000 in
theorem awake_any (w : World) : Calls Tryz.prog 5 #[] w fun e w' => e = .returned (.bool true) ∧ Below w.heap.size w w' := by
  go_enter Tryz.func5, Tryz.ntmps5
  go_wp2_with fail
  refine (of_at [97, 98, 99] eA rfl (by simp) (by simp) (by decide) _).mono ?_
  rintro e w1 ⟨a1, c1, rfl, r1, b1⟩
  go_wp2_with fail
  refine (of_at [97, 120, 99] eB rfl (by simp) (by simp) (by decide) _).mono ?_
  rintro e w2 ⟨a2, c2, rfl, r2, b2⟩
  go_wp2_with fail
  refine (hunks_at eA eB _ e_hk1 _ _ _ (r1.at b2) r2 (by simp [eA, chars]) (by simp [eB, chars]) (chars_small _) (chars_small _)).mono ?_
  rintro e w3 ⟨vh, xh, rfl, eh, lh, b3⟩
  have B3 := below_then (below_then b1 b2) b3
  clear r1 r2 b1 b2 b3
  go_wp2_with fail
  refine (of_at [97, 98] eC rfl (by simp) (by simp) (by decide) _).mono ?_
  rintro e w4 ⟨a4, c4, rfl, r4, b4⟩
  go_wp2_with fail
  refine (of_at [98, 97] eD rfl (by simp) (by simp) (by decide) _).mono ?_
  rintro e w5 ⟨a5, c5, rfl, r5, b5⟩
  go_wp2_with fail
  refine (hunks_at eC eD _ e_hk2 _ _ _ (r4.at b5) r5 (by simp [eC, chars]) (by simp [eD, chars]) (chars_small _) (chars_small _)).mono ?_
  rintro e w6 ⟨vg, xg, rfl, eg, lg, b6⟩
  have b36 := below_then (below_then b4 b5) b6
  have B6 := below_then B3 b36
  have lh6 := lh.at b36
  clear r4 r5 b4 b5 b6 b36 lh B3
  go_wp2_with fail
  refine (of_at [97, 98, 99] eA rfl (by simp) (by simp) (by decide) _).mono ?_
  rintro e w7 ⟨a7, c7, rfl, r7, b7⟩
  go_wp2_with fail
  refine (of_at [97, 120, 99] eB rfl (by simp) (by simp) (by decide) _).mono ?_
  rintro e w8 ⟨a8, c8, rfl, r8, b8⟩
  go_wp2_with fail
  refine (common_at eA eB _ e_cm1 _ _ _ (r7.at b8) r8 (chars_small _) (chars_small _)).mono ?_
  rintro e w9 ⟨vp, rfl, lp, b9⟩
  have b69 := below_then (below_then b7 b8) b9
  go_wp2_with fail
  refine (samePairs_yes [(0, 0), (2, 2)] _ _ _ _ (lp.at (below_new w9 _) (by simp)) (CellsLow.lit w9 [.int .i64 0, .int .i64 0, .int .i64 2, .int .i64 2] 37 2) (by simp)).mono ?_
  rintro e w10 ⟨rfl, d1, rfl⟩
  have b610 := below_then b69 (below_drewN (below_new w9 (.cells #[.int .i64 0, .int .i64 0, .int .i64 2, .int .i64 2] 37)) d1)
  have B10 := below_then B6 b610
  have lh10 := lh6.at b610
  have lg10 := lg.at b610
  obtain ⟨X, hX⟩ : ∃ X, X = (w9.alloc (.cells #[.int .i64 0, .int .i64 0, .int .i64 2, .int .i64 2] 37)).drewN d1 := ⟨_, rfl⟩
  simp only [← hX] at B10 lh10 lg10 ⊢
  clear hX r7 r8 b7 b8 b9 b69 b610 lp lh6 lg B6
  go_wp2_with fail
  refine (of_at [98] [[98]] rfl (by simp) (by simp) (by decide) _).mono ?_
  rintro e w11 ⟨a11, c11, rfl, r11, b11⟩
  go_wp2_with fail
  refine (of_at [120] [[120]] rfl (by simp) (by simp) (by decide) _).mono ?_
  rintro e w12 ⟨a12, c12, rfl, r12, b12⟩
  have b13 := below_then (below_then b11 b12) (below_new w12 (.cells #[.int .i64 1, .slice a11 1 c11, .slice a12 1 c12] 39))
  have q1 : HkLow (w12.alloc (.cells #[.int .i64 1, .slice a11 1 c11, .slice a12 1 c12] 39)).heap.size (w12.alloc (.cells #[.int .i64 1, .slice a11 1 c11, .slice a12 1 c12] 39)) (.slice (some ⟨w12.heap.size, 0, none⟩) 1 1) [⟨1, .slice a11 1 c11, .slice a12 1 c12, [[98]], [[120]]⟩] := by
    refine ⟨CellsLow.lit w12 [.int .i64 1, .slice a11 1 c11, .slice a12 1 c12] 39 1, fun x hx => ?_⟩
    simp at hx
    subst hx
    exact ⟨(r11.at b12).at (below_new w12 _), r12.at (below_new w12 _)⟩
  have lh13 := lh10.at b13
  have lg13 := lg10.at b13
  have B13 := below_then B10 b13
  clear r11 r12 b11 b12 b13 lh10 lg10 B10
  go_wp2_with fail
  refine (sameHunks_yes xh _ _ _ _ _ lh13 q1 (Nat.le_refl _) (by rw [eh]; rfl) (hk_small eh (by simp)) (by rw [hk_len eh]; simp)).mono ?_
  rintro e w14 ⟨rfl, b14⟩
  have lg14 := lg13.at b14
  have B14 := below_then B13 b14
  clear lh13 lg13 q1 b14 B13
  go_wp2_with fail
  refine (of_at [97, 98] eC rfl (by simp) (by simp) (by decide) _).mono ?_
  rintro e w15 ⟨a15, c15, rfl, r15, b15⟩
  go_wp2_with fail
  refine (of_at [98, 97] eD rfl (by simp) (by simp) (by decide) _).mono ?_
  rintro e w16 ⟨a16, c16, rfl, r16, b16⟩
  go_wp2_with fail
  refine (common_at eC eD _ e_cm2 _ _ _ (r15.at b16) r16 (chars_small _) (chars_small _)).mono ?_
  rintro e w17 ⟨vq, rfl, lq, b17⟩
  have b1417 := below_then (below_then b15 b16) b17
  go_wp2_with fail
  refine (samePairs_yes [(1, 0)] _ _ _ _ (lq.at (below_new w17 _) (by simp)) (CellsLow.lit w17 [.int .i64 1, .int .i64 0] 37 1) (by simp)).mono ?_
  rintro e w18 ⟨rfl, d2, rfl⟩
  have b1418 := below_then b1417 (below_drewN (below_new w17 (.cells #[.int .i64 1, .int .i64 0] 37)) d2)
  have B18 := below_then B14 b1418
  have lg18 := lg14.at b1418
  obtain ⟨Y, hY⟩ : ∃ Y, Y = (w17.alloc (.cells #[.int .i64 1, .int .i64 0] 37)).drewN d2 := ⟨_, rfl⟩
  simp only [← hY] at B18 lg18 ⊢
  clear hY r15 r16 b15 b16 b17 b1417 b1418 lq lg14 B14
  go_wp2_with fail
  refine (of_at [97] [[97]] rfl (by simp) (by simp) (by decide) _).mono ?_
  rintro e w19 ⟨a19, c19, rfl, r19, b19⟩
  go_wp2_with fail
  refine (of_at [97] [[97]] rfl (by simp) (by simp) (by decide) _).mono ?_
  rintro e w20 ⟨a20, c20, rfl, r20, b20⟩
  have b21 := below_then (below_then b19 b20) (below_new w20 (.cells #[.int .i64 0, .slice a19 1 c19, .slice none 0 0, .int .i64 2, .slice none 0 0, .slice a20 1 c20] 39))
  have nil1 : ∀ W : World, RowLow W.heap.size W (.slice none 0 0) [] := fun W => RowLow.of_owns (World.ownsRow_nil W 0 9 1)
  have q2 : HkLow (w20.alloc (.cells #[.int .i64 0, .slice a19 1 c19, .slice none 0 0, .int .i64 2, .slice none 0 0, .slice a20 1 c20] 39)).heap.size (w20.alloc (.cells #[.int .i64 0, .slice a19 1 c19, .slice none 0 0, .int .i64 2, .slice none 0 0, .slice a20 1 c20] 39)) (.slice (some ⟨w20.heap.size, 0, none⟩) 2 2) [⟨0, .slice a19 1 c19, .slice none 0 0, [[97]], []⟩, ⟨2, .slice none 0 0, .slice a20 1 c20, [], [[97]]⟩] := by
    refine ⟨CellsLow.lit w20 [.int .i64 0, .slice a19 1 c19, .slice none 0 0, .int .i64 2, .slice none 0 0, .slice a20 1 c20] 39 2, fun x hx => ?_⟩
    simp at hx
    rcases hx with rfl | rfl
    · exact ⟨(r19.at b20).at (below_new w20 _), nil1 _⟩
    · exact ⟨nil1 _, r20.at (below_new w20 _)⟩
  have lg21 := lg18.at b21
  have B21 := below_then B18 b21
  clear r19 r20 b19 b20 b21 lg18 B18 nil1
  go_wp2_with fail
  refine (sameHunks_yes xg _ _ _ _ _ lg21 q2 (Nat.le_refl _) (by rw [eg]; rfl) (hk_small eg (by simp)) (by rw [hk_len eg]; simp)).mono ?_
  rintro e w22 ⟨rfl, b22⟩
  have B22 := below_then B21 b22
  clear lg21 q2 b22 B21
  go_wp2
  go_ret
  exact ⟨rfl, B22⟩

end Go.Proofs.YtpcinbfelikgpaaGreatDoor
