/-
  The walks of diff.between and diff.Hunks.
-/
import Derived.Test.YtpcinbfelikgpaaBetween
namespace Go.Proofs.Ytpcinbfelikgpaa
open Go.RowKit Go.Shelf

attribute [local go_sem] Oper.semAt_some

theorem info41s : (Try.prog.info? 41).map (fun i => (i.zero, i.size, i.bytes)) = some (some (.agg #[.int .i64 0, .slice none 0 0, .slice none 0 0]), 3, 56) := by kernel_rfl

theorem row_three (w : World) (o1 o2 o3 : Obj) : w.grownBy (((w.alloc o1).alloc o2).alloc o3) none := grown_of_below ((((Below.refl _ w).alloc (Nat.le_refl _) _).alloc (by simp) _).alloc (by simp; omega) _) _
theorem grown_join {W A B : World} {r r' : Option Nat} (h : W.grownBy A r) (k : A.grownBy B r') (hr : ∀ j, r' = some j → r = some j ∨ W.heap.size ≤ j) : W.grownBy B r :=
  ⟨k.os.trans h.os, k.tape.trans h.tape, k.output.trans h.output, Nat.le_trans h.size k.size, fun j hj hne =>
    (k.block j (Nat.lt_of_lt_of_le hj h.size) (fun e => by
      rcases hr j e.symm with e1 | e1
      · exact hne e1.symm
      · omega)).trans (h.block j hj hne)⟩

set_option maxRecDepth 100000 in
set_option maxHeartbeats 4000000 in
theorem between_any (A B : List (List UInt8)) (va vb v : Value) (ps : List (Nat × Nat)) (w : World) (n₀ m : Nat) (ha : RowLow m w va A) (hb : RowLow m w vb B) (hn : n₀ ≤ w.heap.size) (hp : w.ownsRow n₀ 115 2 v ps.length (pairCells ps)) (hl : ps.length ≤ 100000) :
    Calls Try.prog 45 #[va, vb, v] w fun e w' => ∃ Be ge cap, e = .returned (.func (.func 76) #[] #[.pointer (some ⟨Be, 0, none⟩), .pointer (some ⟨w.heap.size, 0, none⟩), .pointer (some ⟨w.heap.size + 1, 0, none⟩)]) ∧
      Boxed w' Be 80 (.slice (some ⟨ge, 0, none⟩) (ps ++ [(A.length, B.length)]).length cap) ∧ Boxed w' w.heap.size 22 va ∧ Boxed w' (w.heap.size + 1) 22 vb ∧
      w'.ownsRow n₀ 115 2 (.slice (some ⟨ge, 0, none⟩) (ps ++ [(A.length, B.length)]).length cap) (ps ++ [(A.length, B.length)]).length (pairCells (ps ++ [(A.length, B.length)])) ∧ w.grownBy w' v.ownBlock := by
  obtain ⟨a1, c1, b1, o1, rfl, -, -, -⟩ := ha.parts
  obtain ⟨a2, c2, b2, o2, rfl, -, -, -⟩ := hb.parts
  clear ha hb
  obtain ⟨i0, hi, hz0, hz1, hz2⟩ := info_parts info115s
  have hsrc : ∀ (j : Nat) (u : Value), [numV A.length, numV B.length][j]? = some u → (((w.alloc (.cells #[.slice a1 A.length c1] 22)).alloc (.cells #[.slice a2 B.length c2] 22)).alloc (.cells #[.int .i64 A.length, .int .i64 B.length] 115)).cell? ((⟨w.heap.size + 1 + 1, 0, none⟩ : Addr).add j) = some u := by
    have h := cells_new ((w.alloc (.cells #[.slice a1 A.length c1] 22)).alloc (.cells #[.slice a2 B.length c2] 22)) [numV A.length, numV B.length] 115
    rw [World.size_alloc, World.size_alloc] at h
    exact h
  go_enter Try.func45, Try.ntmps45
  go_wp2_with (at_builtin; refine wpList_append_own _ rfl _ _ 80 rfl n₀ 115 i0 (.agg #[.int .i64 0, .int .i64 0]) 2 16 Try.underlying80 hi hz0 hz1 hz2 rfl (by decide) _ _ _ rfl (((hp.alloc _).alloc _).alloc _) ⟨w.heap.size + 1 + 1, 0, none⟩ 1 1 [numV A.length, numV B.length] rfl rfl hsrc (by simp [Value.oneCell', numV]) (by unfold maxLen; omega) (by omega) (by simp; omega) ?_; intro v' w3 hown' hgrow _; obtain ⟨ge, cap, rfl⟩ := ownsRow_succ hown')
  have hg3 : (((w.alloc (.cells #[.slice a1 A.length c1] 22)).alloc (.cells #[.slice a2 B.length c2] 22)).alloc (.cells #[.int .i64 A.length, .int .i64 B.length] 115)).grownBy w3 v.ownBlock := hgrow
  have hlt := fun q hq => (hp.lt q hq).2
  have b1 : Boxed w3 w.heap.size 22 (.slice a1 A.length c1) := (((Boxed.new w _ _).alloc _).alloc _).kept hg3 (fun e => by have := hlt _ e.symm; omega)
  have b2 : Boxed w3 (w.heap.size + 1) 22 (.slice a2 B.length c2) := by
    have h := Boxed.new (w.alloc (.cells #[.slice a1 A.length c1] 22)) 22 (.slice a2 B.length c2)
    rw [World.size_alloc] at h
    exact (h.alloc _).kept hg3 (fun e => by have := hlt _ e.symm; omega)
  have hl1 : (ps ++ [(A.length, B.length)]).length = ps.length + 1 := by simp
  go_ret
  refine ⟨w3.heap.size, ge, cap, rfl, ?_, b1.alloc _, b2.alloc _, ?_, ?_⟩
  · rw [hl1]; exact Boxed.new w3 _ _
  · rw [hl1, pairCells_append]; exact hown'.alloc _
  · refine grown_join (grown_join (r := v.ownBlock) ?_ hg3 (fun j hj => .inl hj)) (World.grownBy_alloc _ _ none) (fun j hj => by cases hj)
    exact grown_of_none (row_three w _ _ _) _

/-- The cells of a row of hunks. -/
def hkCells (xs : List HV) : List Value := xs.flatMap fun x => [numV x.at_, x.vo, x.vn]
theorem hkCells_append (xs ys : List HV) : hkCells (xs ++ ys) = hkCells xs ++ hkCells ys := by simp [hkCells]

/-- What stands of the hunks so far. -/
def HRow (w0 : World) (n₀ Bh : Nat) (pre : List HV) (W : World) : Prop :=
  (∃ v, Boxed W Bh 23 v ∧ W.ownsRow n₀ 41 3 v pre.length (hkCells pre)) ∧ (∀ x ∈ pre, HV.Ok n₀ x W) ∧ Below n₀ w0 W

theorem HV.Ok.shy (n₀ B : Nat) (x : HV) : Shy B (HV.Ok n₀ x) := fun _ _ _ _ h _ hl ho => ⟨ownsRow_putObj h.1 _ hl ho, ownsRow_putObj h.2 _ hl ho⟩
theorem HV.Ok.below {n₀ : Nat} {x : HV} {W W' : World} (h : HV.Ok n₀ x W) (hb : Below W.heap.size W W') : HV.Ok n₀ x W' := ⟨owns_below h.1 hb, owns_below h.2 hb⟩
theorem HV.Ok.keep {n₀ m : Nat} {x : HV} {W W' : World} (h : HV.Ok n₀ x W) (hk : Keep m W W') : HV.Ok n₀ x W' := ⟨hk.owns h.1 (by decide) (by decide), hk.owns h.2 (by decide) (by decide)⟩
theorem boxed_put {W : World} {b l : Nat} {t : TypeId} {v : Value} {o : Obj} (h : Boxed W b t v) (hl : W.heap[l]? = some o) (ho : o.isCells = false) (o' : Obj) : Boxed (W.putObj l o') b t v := by
  have hne : b ≠ l := by
    rintro rfl
    rw [show W.heap[b]? = _ from h] at hl
    cases hl; cases ho
  exact (World.putObj_heap_other (by omega)).trans h
theorem below_put {n₀ : Nat} {w W : World} {l : Nat} (h : Below n₀ w W) (hl : n₀ ≤ l) (o' : Obj) : Below n₀ w (W.putObj l o') :=
  h.trans ⟨rfl, rfl, rfl, by simp [World.putObj], fun k hk => World.putObj_heap_other (by omega)⟩
theorem HRow.shy {w0 : World} {n₀ Bh B : Nat} (hB : n₀ ≤ B) (pre : List HV) : Shy B (HRow w0 n₀ Bh pre) := by
  rintro W l o o' ⟨⟨v, h1, h2⟩, h3, h4⟩ hl ho hc
  exact ⟨⟨v, boxed_put h1 ho hc _, ownsRow_putObj h2 _ ho hc⟩, fun x hx => HV.Ok.shy n₀ B x _ _ _ _ (h3 x hx) hl ho hc, below_put h4 (by omega) _⟩
theorem HRow.below {w0 : World} {n₀ Bh : Nat} {pre : List HV} {W W' : World} (h : HRow w0 n₀ Bh pre W) (hn : n₀ ≤ w0.heap.size) (hb : Below W.heap.size W W') : HRow w0 n₀ Bh pre W' := by
  obtain ⟨⟨v, h1, h2⟩, h3, h4⟩ := h
  exact ⟨⟨v, (hb.block _ h1.lt).trans h1, owns_below h2 hb⟩, fun x hx => (h3 x hx).below hb, h4.trans (hb.mono (Nat.le_trans hn h4.size))⟩

theorem keep_put {n₀ : Nat} {W : World} {l : Nat} {o : Obj} (hl : n₀ ≤ l) (ho : W.heap[l]? = some o) (hc : o.isCells = false) (o' : Obj) : Keep n₀ W (W.putObj l o') := by
  refine ⟨below_put (Below.refl _ _) hl o', fun k c t fr hk _ _ => ?_⟩
  have hne : k ≠ l := by
    rintro rfl
    rw [hk] at ho
    cases ho; cases hc
  exact (World.putObj_heap_other (by omega)).trans hk

set_option maxRecDepth 100000 in
set_option maxHeartbeats 8000000 in
theorem hunks_any (A B : List (List UInt8)) (va vb : Value) (w : World) (ha : RowLow w.heap.size w va A) (hb : RowLow w.heap.size w vb B) (hA : A.length ≤ 1000000) (hB : B.length ≤ 1000000) (sA : ∀ x ∈ A, x.length ≤ 1000000) (sB : ∀ x ∈ B, x.length ≤ 1000000) :
    Calls Try.prog 28 #[va, vb] w fun e w' => ∃ (v : Value) (xs : List HV), e = .returned v ∧ xs.map HV.hk = Df.hunks A B ∧ (bl xs).Pairwise (· < ·) ∧ w'.ownsRow w.heap.size 41 3 v xs.length (hkCells xs) ∧ (∀ x ∈ xs, HV.Ok w.heap.size x w') ∧ Below w.heap.size w w' := by
  obtain ⟨i0, hi, hz0, hz1, hz2⟩ := info_parts info41s
  have hcl : (Df.common A B).length ≤ 4096 := by
    unfold Df.common
    split
    · rename_i h; rw [Df.cm_length]; exact Nat.le_trans (Df.lc_le_left A B) h.1
    · simp
  obtain ⟨X, hX⟩ : ∃ X, X = w.alloc (.cells #[.slice none 0 0] 23) := ⟨_, rfl⟩
  have hbX : Below w.heap.size w X := by rw [hX]; exact (Below.refl _ w).alloc (Nat.le_refl _) _
  have hsX : X.heap.size = w.heap.size + 1 := by rw [hX]; simp
  have bX : Boxed X w.heap.size 23 (.slice none 0 0) := by rw [hX]; exact Boxed.new w _ _
  have HC := common_any A B va vb X ((ha.below hbX (Nat.le_refl _)).mono (by omega)) ((hb.below hbX (Nat.le_refl _)).mono (by omega)) sA sB
  refine (callsIn_wide (n := 3)).1 ?_
  refine callsIn_of_wp_marks Try.func28 rfl trivial ?_ rfl
  simp only [Try.ntmps28, List.size_toArray, List.length_cons, List.length_nil, Nat.reduceAdd, Nat.reduceSub, Array.replicate_succ, Array.replicate_zero, List.push_toArray, List.append_toArray, List.nil_append, List.cons_append]
  gi_wp2_with fail
  rw [← hX]
  clear hX
  refine ⟨trivial, ?_⟩
  refine (callsIn_wide.2 HC).mono ?_
  rintro e w1 ⟨vp, rfl, hp, hb1⟩
  have hB1 : Below w.heap.size w w1 := hbX.trans (hb1.mono (by omega))
  have hs1 := hb1.size
  have bX1 : Boxed w1 w.heap.size 23 (.slice none 0 0) := (hb1.block _ bX.lt).trans bX
  have ra1 : RowLow w.heap.size w1 va A := ha.below hB1 (Nat.le_refl _)
  have rb1 : RowLow w.heap.size w1 vb B := hb.below hB1 (Nat.le_refl _)
  have HB := between_any A B va vb vp (Df.common A B) w1 X.heap.size w.heap.size ra1 rb1 hs1 hp (by omega)
  have hnr := bX1.not_row (by decide) hp
  have hpl := fun q hq => (hp.lt q hq).1
  clear ha hb HC bX hp
  gi_wp2_with fail
  refine ⟨trivial, ?_⟩
  refine (callsIn_wide.2 HB).mono ?_
  rintro e w2 ⟨Be, ge, cap, rfl, be, ba, bb, oe, hg2⟩
  clear HB
  have bX2 := bX1.kept hg2 hnr
  have hB2 : Below w.heap.size w w2 := hB1.trans ⟨hg2.os, hg2.tape, hg2.output, hg2.size, fun k hk => hg2.block k (by omega) (fun e => by have := hpl k e.symm; omega)⟩
  have hs2 := hg2.size
  have hg2b : Below w.heap.size w1 w2 := ⟨hg2.os, hg2.tape, hg2.output, hg2.size, fun k hk => hg2.block k (by omega) (fun e => by have := hpl k e.symm; omega)⟩
  gi_wp2
  have hends : (Df.common A B ++ [(A.length, B.length)]).length = (Df.common A B).length + 1 := by simp
  have hst := steps_of_good (Df.common A B) 0 0 (Nat.zero_le _) (Nat.zero_le _) (Df.common_ok A B)
  obtain ⟨ends, hen⟩ : ∃ ends, ends = Df.common A B ++ [(A.length, B.length)] := ⟨_, rfl⟩
  have HE : Hid (Df.hks A B 0 0 ends = Df.hunks A B) := by
    show Df.hks A B 0 0 ends = Df.hunks A B
    rw [hen]; rfl
  rw [← hen] at be oe hends hst
  clear hen
  refine range_told (α := HV) (gf := 76) (lb := #[.pointer (some ⟨Be, 0, none⟩), .pointer (some ⟨w1.heap.size, 0, none⟩), .pointer (some ⟨w1.heap.size + 1, 0, none⟩)]) rfl (by omega) rfl trivial (enters_of Try.func76 (by kernel_rfl) rfl) HV.val rfl
    (HV.Ok w.heap.size) (Keep w.heap.size) (fun xs => xs.map HV.hk = Df.hks A B 0 0 ends ∧ (bl xs).Pairwise (· < ·)) ends.length (HRow w w.heap.size w.heap.size)
    (fun x a' W => ∃ b, a' = { tmps := #[va, vb, undef, undef, .slice none 0 0, .pointer (some ⟨w.heap.size, 0, none⟩), .pointer (some ⟨b, 0, none⟩), va, vb, va, vb, vp, .func (.func 76) #[] #[.pointer (some ⟨Be, 0, none⟩), .pointer (some ⟨w1.heap.size, 0, none⟩), .pointer (some ⟨w1.heap.size + 1, 0, none⟩)], HV.val x, undef, undef, undef, undef, undef], defers := [] } ∧ W.heap[b]? = some (.cells #[.int .i64 x.at_, x.vo, x.vn] 41 (0, 0)))
    (fun h k => h.trans k) (fun W l o o' hl ho hc => keep_put (by omega) ho hc o') (fun s => HRow.shy (by omega) s) (fun s W W' h hb => h.below (Nat.le_refl _) hb) (fun x => HV.Ok.shy _ _ x) ?hAx ?hseq ?hassign ?hbody ?h0 ?hdone
  case hAx =>
    rintro x a' W l o o' ⟨b, rfl, hb⟩ hl ho hc
    refine ⟨b, rfl, (World.putObj_heap_other ?_).trans hb⟩
    rintro rfl
    rw [hb] at ho
    cases ho; cases hc
  case hseq =>
    intro l J hJ hY W hW hJ0
    have hWs := hW.size
    exact between1_in (3 - 1) (by omega) l w.heap.size Be w1.heap.size (w1.heap.size + 1) ge cap va vb A B ends hst (by omega) hA hB sA sB J hJ hY W ((hW.block _ be.lt).trans be) ((hW.block _ ba.lt).trans ba) ((hW.block _ bb.lt).trans bb) (owns_base (owns_below oe hW) (by omega))
      ((ra1.below (hg2b) (Nat.le_refl _)).below (hW.mono (by omega)) (Nat.le_refl _)) ((rb1.below (hg2b) (Nat.le_refl _)).below (hW.mono (by omega)) (Nat.le_refl _)) (by omega) hJ0
  case hassign =>
    intro l pre x W K hI hx hK
    obtain ⟨a1, c1, e1⟩ := slice_shape hx.1
    obtain ⟨a2, c2, e2⟩ := slice_shape hx.2
    obtain ⟨k, vo, vn, L1, L2⟩ := x
    simp only at e1 e2
    subst e1 e2
    simp only [HV.val, hkV]
    gi_wp2
    have hbW : Below W.heap.size W (W.alloc (.cells #[.int .i64 k, .slice a1 L1.length c1, .slice a2 L2.length c2] 41)) := (Below.refl _ W).alloc (Nat.le_refl _) _
    exact hK _ _ ((KeepsOthers.alloc W _).from _) (Keep.of_below hbW hI.2.2.size) (hI.below (Nat.le_refl _) hbW) (hx.below hbW) ⟨W.heap.size, rfl, World.alloc_heap_new W _⟩
  case hbody =>
    rintro l pre x a' W hI hx ⟨b, rfl, hbk⟩ hlen
    obtain ⟨⟨v, hv, hrow⟩, hoks, hB⟩ := hI
    have HX : Hid (HV.Ok w.heap.size x W) := hx
    obtain ⟨a1, c1, e1⟩ := slice_shape hx.1
    obtain ⟨a2, c2, e2⟩ := slice_shape hx.2
    obtain ⟨k, vo, vn, L1, L2⟩ := x
    simp only at e1 e2 hbk
    subst e1 e2
    simp only [HV.val, hkV]
    have b0 : W.cell? ⟨b, 0, none⟩ = some (.int .i64 k) := by rw [Lib.cell_of_heap hbk]; rfl
    have b1 : W.cell? ⟨b, 1, none⟩ = some (.slice a1 L1.length c1) := by rw [Lib.cell_of_heap hbk]; rfl
    have b2 : W.cell? ⟨b, 2, none⟩ = some (.slice a2 L2.length c2) := by rw [Lib.cell_of_heap hbk]; rfl
    have hc := hv.cell
    clear hx hbk
    gi_wp2_with (gi_at_builtin; refine wpListIn_append_own _ rfl _ _ 23 rfl w.heap.size 41 i0 (.agg #[.int .i64 0, .slice none 0 0, .slice none 0 0]) 3 56 Try.underlying23 hi hz0 hz1 hz2 rfl (by decide) _ _ _ rfl (hrow.alloc _) ⟨W.heap.size, 0, none⟩ 1 1 [numV k, .slice a1 L1.length c1, .slice a2 L2.length c2] rfl rfl (cells_new W [numV k, .slice a1 L1.length c1, .slice a2 L2.length c2] 41) (by simp [Value.oneCell', numV]) (by unfold maxLen; omega) (by omega) (by have := hB.size; simp; omega) ?_; intro v' w3 hown' hgrow _; obtain ⟨g', cap', rfl⟩ := ownsRow_succ hown'; obtain ⟨hv1, hv2, hr2, hk2, hb2⟩ := hv.appended (by decide) hrow hB.size (Nat.le_refl _) hown' hgrow; have hc1 := hv1.cell; have hf1 := hv1.frozen)
    have hkeep : Keep w.heap.size W (w3.setCell ⟨w.heap.size, 0, none⟩ (.slice (some ⟨g', 0, none⟩) (pre.length + 1) cap')) := by
      refine ⟨hb2, fun j c t fr hj h1 h2 => ?_⟩
      have e1 : j ≠ w.heap.size := by
        rintro rfl
        rw [show W.heap[w.heap.size]? = _ from hv] at hj
        injection hj with hj
        injection hj with _ e _
        exact h1 e.symm
      have e2 : some j ≠ v.ownBlock := by
        intro e
        rcases hrow.2 with ⟨rfl, _⟩ | ⟨g, cap, cur, rfl, _, hgb, _⟩
        · cases e
        · obtain rfl : j = g := by simpa [Value.ownBlock] using e
          rw [hgb] at hj
          injection hj with hj
          injection hj with _ e _
          exact h2 e.symm
      have hlt : j < W.heap.size := (Array.getElem?_eq_some_iff.1 hj).1
      rw [Below.heap_setCell _ _ _ _ (by exact e1), hgrow.block j (by simp; omega) e2, Below.heap_alloc _ _ _ hlt]
      exact hj
    refine ⟨hk2.from _, hkeep, ⟨⟨_, hv2, ?_⟩, ?_, hB.trans hb2⟩⟩
    · rw [hkCells_append, List.length_append]; exact hr2
    · intro y hy
      rw [List.mem_append] at hy
      rcases hy with hy | hy
      · exact (hoks y hy).keep hkeep
      · simp at hy; subst hy; exact HX.out.keep hkeep
  case h0 => exact ⟨⟨_, bX2, World.ownsRow_nil _ _ _ _⟩, fun x hx => by simp at hx, hB2⟩
  case hdone =>
    intro D xs W hD hS hI hd
    obtain ⟨⟨v, hv, hrow⟩, hoks, hB⟩ := hI
    have hc := hv.cell
    gi_wp2
    refine ⟨by simp, .inl ⟨_, _, rfl, run_takeDeferred hd, ?_⟩⟩
    exact ⟨_, results_tmp rfl _ _ _, v, xs, rfl, hS.1.trans HE.out, hS.2, ownsRow_putObj hrow _ hd rfl, fun x hx => HV.Ok.shy _ w.heap.size x _ _ _ _ (hoks x hx) (by omega) hd rfl, below_put hB (by omega) _⟩

end Go.Proofs.Ytpcinbfelikgpaa
