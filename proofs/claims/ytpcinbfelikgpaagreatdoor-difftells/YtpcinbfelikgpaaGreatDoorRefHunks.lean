/-
  The walk of clerestoryref02.Hunks: the document's hunks.
-/
import Derived.Test.YtpcinbfelikgpaaGreatDoorAppend
import Derived.Test.YtpcinbfelikgpaaGreatDoorRefCommon
namespace Go.Proofs.YtpcinbfelikgpaaGreatDoor
open Go.RowKit Go.Shelf

attribute [local go_sem] Oper.semAt_some
set_option maxRecDepth 100000

/-- append([]string{}, row...): a row of its own; nothing that was is changed. -/
theorem app_empty (W : World) (B g : Nat) (hd : W.ownsRow B 9 1 (.slice (some ⟨g, 0, none⟩) 0 0) 0 []) (v : Value) (L : List (List UInt8)) (m : Nat) (hrow : RowLow m W v L) (hb : B ≤ W.heap.size) (hn : L.length ≤ 1000000) :
    ∃ v' W', (Builtin.append_ #[22, 22] 22 #[.slice (some ⟨g, 0, none⟩) 0 0, v]).run Tryz.prog W = .ok v' W' ∧ W'.ownsRow B 9 1 v' L.length (L.map txtV) ∧ Below W.heap.size W W' := by
  obtain ⟨i0, hi, hz0, hz1, hz2⟩ := info_parts info9
  by_cases hL : L = []
  · subst hL
    obtain ⟨ao, cap, b, off, rfl, ⟨-, hnone⟩, -, -⟩ := hrow
    refine ⟨_, W, ?_, hd, Below.refl _ _⟩
    cases ao with
    | none =>
      have hc0 := hnone rfl
      subst hc0
      exact run_append_owned_none W B 22 22 9 i0 1 Tryz.underlying22 hi _ 0 [] hd
    | some a => simp [Builtin.append_, run_underlying Tryz.underlying22, sizeOf, typeInfo, hi, Builtin.lenOf, Builtin.firstCells, storeCells, loadCells, loadCellsFrom]
  · have hpos : 0 < L.length := by
      cases L with
      | nil => exact absurd rfl hL
      | cons x L => simp
    obtain ⟨v', W', h1, h2, h3⟩ := app_run B W _ 0 [] hd v L m hrow hb (by omega)
    obtain ⟨ao, cap, b, off, rfl, -, ha, hc⟩ := hrow
    obtain ⟨rfl, -⟩ := ha hpos
    have hg := run_append_grow (P := Tryz.prog) W 22 22 9 i0 (.string ⟨#[]⟩) Tryz.underlying22 hi hz0 ⟨g, 0, none⟩ 0 0 [] (by simp) (by simp) ⟨b, off, none⟩ L.length cap (L.map txtV) (by rw [hz1]; simp)
      (fun j u hu => by
        have hadd : (⟨b, off, none⟩ : Addr).add j = ⟨b, off + j, none⟩ := by cases j <;> simp [Addr.add]
        rw [hadd]
        exact hc j u hu) (by omega) (by omega) (by
          rw [hz2]
          have e : Builtin.nextslicecap (0 + L.length) 0 = L.length := by simp [Builtin.nextslicecap]; intro h; rw [h]; rfl
          rw [e]; omega)
    rw [hg] at h1
    injection h1 with e1 e2
    subst e1 e2
    refine ⟨_, _, hg, ?_, (below_drewN (Below.refl _ W) 1).alloc (Nat.le_refl _) _⟩
    simpa using h2


theorem owned_empty (W : World) {B : Nat} (hb : B ≤ W.heap.size) : (W.alloc (.cells #[] 9)).ownsRow B 9 1 (.slice (some ⟨W.heap.size, 0, none⟩) 0 0) 0 [] := World.ownsRow_lit W #[] 0 hb (Nat.zero_le _) rfl

/-- Both rows, one behind the other, of slices that are there. -/
theorem two_rows {W : World} {B g1 g2 m : Nat} (h1 : W.ownsRow B 9 1 (.slice (some ⟨g1, 0, none⟩) 0 0) 0 []) (h2 : W.ownsRow B 9 1 (.slice (some ⟨g2, 0, none⟩) 0 0) 0 []) {va vb : Value} {A L : List (List UInt8)} (ha : RowLow m W va A) (hb : RowLow m W vb L) (hm : m ≤ W.heap.size) (hB : B ≤ W.heap.size) (hA : A.length ≤ 1000000) (hL : L.length ≤ 1000000) :
    ∃ v1 W1 v2 W2, (Builtin.append_ #[22, 22] 22 #[.slice (some ⟨g1, 0, none⟩) 0 0, va]).run Tryz.prog W = .ok v1 W1 ∧ (Builtin.append_ #[22, 22] 22 #[.slice (some ⟨g2, 0, none⟩) 0 0, vb]).run Tryz.prog W1 = .ok v2 W2 ∧
      W2.ownsRow B 9 1 v1 A.length (A.map txtV) ∧ W2.ownsRow B 9 1 v2 L.length (L.map txtV) ∧ Below W.heap.size W W2 := by
  obtain ⟨v1, W1, r1, o1, b1⟩ := app_empty W B g1 h1 va A m ha hB hA
  have s1 := b1.size
  obtain ⟨v2, W2, r2, o2, b2⟩ := app_empty W1 B g2 (owns_below h2 b1) vb L m (hb.below b1 hm) (by omega) hL
  exact ⟨v1, W1, v2, W2, r1, r2, owns_below o1 b2, o2, b1.trans (b2.mono s1)⟩
/-- Both rows, each behind its slice. -/
theorem two_apart {W : World} {B m : Nat} {va vb : Value} {A L : List (List UInt8)} (ha : RowLow m W va A) (hb : RowLow m W vb L) (hm : m ≤ W.heap.size) (hB : B ≤ W.heap.size) (hA : A.length ≤ 1000000) (hL : L.length ≤ 1000000) :
    ∃ v1 W1 v2 W2, (Builtin.append_ #[22, 22] 22 #[.slice (some ⟨W.heap.size, 0, none⟩) 0 0, va]).run Tryz.prog (W.alloc (.cells #[] 9)) = .ok v1 W1 ∧ (Builtin.append_ #[22, 22] 22 #[.slice (some ⟨W1.heap.size, 0, none⟩) 0 0, vb]).run Tryz.prog (W1.alloc (.cells #[] 9)) = .ok v2 W2 ∧
      W2.ownsRow B 9 1 v1 A.length (A.map txtV) ∧ W2.ownsRow B 9 1 v2 L.length (L.map txtV) ∧ Below W.heap.size W W2 := by
  have ba : Below W.heap.size W (W.alloc (.cells #[] 9)) := (Below.refl _ W).alloc (Nat.le_refl _) _
  obtain ⟨v1, W1, r1, o1, b1⟩ := app_empty _ B _ (owned_empty W hB) va A m (ha.below ba hm) (by simp; omega) hA
  have s1 := b1.size
  rw [World.size_alloc] at s1
  have b2 : Below W.heap.size W W1 := ba.trans (b1.mono (by simp))
  have b3 : Below W1.heap.size W1 (W1.alloc (.cells #[] 9)) := (Below.refl _ W1).alloc (Nat.le_refl _) _
  obtain ⟨v2, W2, r2, o2, b4⟩ := app_empty _ B _ (owned_empty W1 (by omega)) vb L m (hb.below (b2.trans (b3.mono (by omega))) hm) (by simp; omega) hL
  have b5 : Below W1.heap.size W1 W2 := b3.trans (b4.mono (by simp))
  exact ⟨v1, W1, v2, W2, r1, r2, owns_below o1 b5, o2, b2.trans (b5.mono (by omega))⟩

theorem keep_grown {n₀ n : Nat} {W W' : World} {v : Value} {xs : List Value} (hrow : W.ownsRow n₀ 39 3 v n xs) (hg : W.grownBy W' v.ownBlock) (hn : n₀ ≤ W.heap.size) : Keep n₀ W W' := by
  refine ⟨⟨hg.os, hg.tape, hg.output, hg.size, fun k hk => hg.block k (by omega) (fun e => by have := (hrow.lt k e.symm).1; omega)⟩, fun j c t fr hj h1 h2 => ?_⟩
  have hlt : j < W.heap.size := (Array.getElem?_eq_some_iff.1 hj).1
  refine (hg.block j hlt (fun e => ?_)).trans hj
  rcases hrow.2 with ⟨rfl, _⟩ | ⟨g, cap, cur, rfl, _, hgb, _⟩
  · cases e
  · obtain rfl : j = g := by simpa [Value.ownBlock] using e
    rw [hgb] at hj
    injection hj with hj
    injection hj with _ e _
    exact h2 e.symm

/-- One more hunk in the row. -/
theorem hunk_put {n₀ : Nat} {wr W : World} {u : Value} {pre : List HV} (hrow : wr.ownsRow n₀ 39 3 u pre.length (hkCells pre)) (hoks : ∀ x ∈ pre, HV.Ok n₀ x wr) (hb : Below wr.heap.size wr W) (hn : n₀ ≤ wr.heap.size) (x : HV) (hx : HV.Ok n₀ x W) (hl : pre.length ≤ 100000) :
    ∃ v' W', (Builtin.append_ #[28, 28] 28 #[u, .slice (some ⟨W.heap.size, 0, none⟩) 1 1]).run Tryz.prog (W.alloc (.cells #[.int .i64 x.at_, x.vo, x.vn] 39)) = .ok v' W' ∧
      W'.ownsRow n₀ 39 3 v' (pre ++ [x]).length (hkCells (pre ++ [x])) ∧ (∀ y ∈ pre ++ [x], HV.Ok n₀ y W') ∧ Below n₀ wr W' := by
  obtain ⟨i1, gi, gz0, gz1, gz2⟩ := info_parts info39s
  have hs := hb.size
  have ba : Below W.heap.size W (W.alloc (.cells #[.int .i64 x.at_, x.vo, x.vn] 39)) := (Below.refl _ W).alloc (Nat.le_refl _) _
  have bw : Below wr.heap.size wr (W.alloc (.cells #[.int .i64 x.at_, x.vo, x.vn] 39)) := hb.trans (ba.mono hs)
  have hone : ∀ v ∈ [numV x.at_, x.vo, x.vn], v.oneCell' = true := by
    obtain ⟨a1, c1, e1⟩ := slice_shape hx.1
    obtain ⟨a2, c2, e2⟩ := slice_shape hx.2
    rw [e1, e2]
    simp [Value.oneCell', numV]
  obtain ⟨v', W', h1, h2, h3, -⟩ := run_append_own (P := Tryz.prog) _ n₀ 28 28 39 i1 (.agg #[.int .i64 0, .slice none 0 0, .slice none 0 0]) 3 56 Tryz.underlying28 gi gz0 gz1 gz2 rfl (by decide) u pre.length (hkCells pre) (owns_below hrow bw) ⟨W.heap.size, 0, none⟩ 1 1 [numV x.at_, x.vo, x.vn] rfl (cells_new W [numV x.at_, x.vo, x.vn] 39) hone (by unfold maxLen; omega) (by omega) (by simp; omega)
  have hk := keep_grown (owns_below hrow bw) h3 (by simp; omega)
  refine ⟨v', W', h1, ?_, fun y hy => ?_, (bw.mono hn).trans hk.1⟩
  · rw [hkCells_append, List.length_append]; exact h2
  · rw [List.mem_append] at hy
    rcases hy with hy | hy
    · exact ((hoks y hy).below bw).keep hk
    · simp at hy; subst hy; exact (hx.below ba).keep hk

section
variable {F : Fence} {n : Nat} {P : Program} {ops : Array Oper} {Q : Exit → Act → World → Prop} {md : Region.Mode} {C : World → Prop}
/-- One of two operations comes up. -/
theorem anyC_two {i j : Nat} {o o' : Oper} {fuel : Nat} {listed : Array Bool} {a : Act} {w : World} (hr : Region.ready md ops listed = [i, j]) (ho : ops[i]? = some o) (ho' : ops[j]? = some o') (hw : Region.wanted o (yielded ops a.tmps) = true) (hw' : Region.wanted o' (yielded ops a.tmps) = true)
    (h : ∀ K : Act → World → Prop, (∀ a' w', C w' → anyC F n P md ops C Q fuel (listed.setIfInBounds i true) a' w' → K a' w') → o.wpIn F n P a w K Q)
    (h' : ∀ K : Act → World → Prop, (∀ a' w', C w' → anyC F n P md ops C Q fuel (listed.setIfInBounds j true) a' w' → K a' w') → o'.wpIn F n P a w K Q) : anyC F n P md ops C Q (fuel + 1) listed a w := by
  refine ⟨fun h0 => absurd h0 (by rw [hr]; simp), fun k hk => ?_⟩
  rw [hr] at hk
  simp at hk
  rcases hk with rfl | rfl
  · unfold wpOpIn
    simp only [ho, hw, if_true]
    exact h _ (fun a' w' h1 h2 => ⟨h1, h2⟩)
  · unfold wpOpIn
    simp only [ho', hw', if_true]
    exact h' _ (fun a' w' h1 h2 => ⟨h1, h2⟩)
end

set_option maxRecDepth 100000 in
set_option maxHeartbeats 8000000 in
theorem refHunks_any (A B : List (List UInt8)) (va vb : Value) (w : World) (ha : RowLow w.heap.size w va A) (hb : RowLow w.heap.size w vb B) (hA : A.length ≤ 1000000) (hB : B.length ≤ 1000000) :
    Calls Tryz.prog 12 #[va, vb] w fun e w' => ∃ (v : Value) (xs : List HV), e = .returned v ∧ xs.map HV.hk = Df.hunks A B ∧ w'.ownsRow w.heap.size 39 3 v xs.length (hkCells xs) ∧ (∀ x ∈ xs, HV.Ok w.heap.size x w') ∧ Below w.heap.size w w' := by
  obtain ⟨i0, hi, hz0, hz1, hz2⟩ := info_parts info37s
  obtain ⟨i1, gi, gz0, gz1, gz2⟩ := info_parts info39s
  have hcl : (Df.common A B).length ≤ 4096 := by
    unfold Df.common
    split
    · rename_i h; rw [Df.cm_length]; exact Nat.le_trans (Df.lc_le_left A B) h.1
    · simp
  have HC : Hid (CallsIn Fence.wide (3 - 1) Tryz.prog 10 #[va, vb] w _) := callsIn_wide.2 (refCommon_any A B va vb w ha hb)
  have hst := steps_of_good (Df.common A B) 0 0 (Nat.zero_le _) (Nat.zero_le _) (Df.common_ok A B)
  have RA := ha
  have RB := hb
  obtain ⟨oa, ca, ba, fa, rfl, -, -, -⟩ := ha.parts
  obtain ⟨ob, cb, bb, fb, rfl, -, -, -⟩ := hb.parts
  clear ha hb
  refine (callsIn_wide (n := 3)).1 ?_
  refine callsIn_of_wp Tryz.func12 rfl trivial ?_ rfl
  simp only [Tryz.ntmps12, List.size_toArray, List.length_cons, List.length_nil, Nat.reduceAdd, Nat.reduceSub, Array.replicate_succ, Array.replicate_zero, List.push_toArray, List.append_toArray, List.nil_append, List.cons_append]
  gi_wp2_with fail
  refine ⟨trivial, ?_⟩
  refine HC.out.mono ?_
  rintro e w1 ⟨vp, rfl, hp, hb1⟩
  clear HC
  gi_wp2_with (gi_at_builtin; refine wpListIn_append_own _ rfl _ _ 26 rfl w.heap.size 37 i0 (.agg #[.int .i64 0, .int .i64 0]) 2 16 Tryz.underlying26 hi hz0 hz1 hz2 rfl (by decide) _ _ _ rfl (hp.alloc _) ⟨w1.heap.size, 0, none⟩ 1 1 [numV A.length, numV B.length] rfl rfl (cells_new w1 [numV A.length, numV B.length] 37) (by simp [Value.oneCell', numV]) (by unfold maxLen; omega) (by omega) (by have := hb1.size; simp; omega) ?_; intro v' w2 hown' hgrow _; obtain ⟨ge, cap, rfl⟩ := ownsRow_succ hown')
  have hs1 := hb1.size
  have hb2 : Below w.heap.size w w2 := (hb1.alloc hs1 _).grown hgrow (by simp; omega) (fun q hq => (hp.lt q hq).1)
  have hends : (Df.common A B ++ [(A.length, B.length)]).length = (Df.common A B).length + 1 := by simp
  have oe : w2.ownsRow w.heap.size 37 2 (.slice (some ⟨ge, 0, none⟩) (Df.common A B ++ [(A.length, B.length)]).length cap) (Df.common A B ++ [(A.length, B.length)]).length (pairCells (Df.common A B ++ [(A.length, B.length)])) := by
    rw [hends, pairCells_append]; exact hown'
  obtain ⟨ends, hen⟩ : ∃ ends, ends = Df.common A B ++ [(A.length, B.length)] := ⟨_, rfl⟩
  have HE : Hid (Df.hks A B 0 0 ends = Df.hunks A B) := by
    show Df.hks A B 0 0 ends = Df.hunks A B
    rw [hen]; rfl
  have hel : ends.length ≤ 4097 := by rw [hen, hends]; omega
  rw [← hends]
  rw [← hen] at oe hst ⊢
  have hbw := hb2
  have RA2 := RA.below hb2 (Nat.le_refl _)
  have RB2 := RB.below hb2 (Nat.le_refl _)
  have hs2 := hb2.size
  obtain ⟨va, hva⟩ : ∃ v, v = Value.slice oa A.length ca := ⟨_, rfl⟩
  obtain ⟨vb, hvb⟩ : ∃ v, v = Value.slice ob B.length cb := ⟨_, rfl⟩
  rw [← hva] at RA2 ⊢
  rw [← hvb] at RB2 ⊢
  clear hva hvb
  clear hen hends hown' hgrow hp hb1 hs1 RA RB hcl hi hz0 hz1 hz2
  gi_loopw [5, 6, 7, 9] (fun o u v t wr => ∃ (k i j : Nat) (pre : List HV), k ≤ ends.length ∧ i ≤ 1000001 ∧ j ≤ 1000001 ∧ u = .int .i64 i ∧ v = .int .i64 j ∧ t = .int .i64 k ∧ wr.ownsRow w2.heap.size 39 3 o pre.length (hkCells pre) ∧ (∀ x ∈ pre, HV.Ok w2.heap.size x wr) ∧ pre.length ≤ k ∧
    pre.map HV.hk ++ Df.hks A B i j (ends.drop k) = Df.hks A B 0 0 ends ∧ Steps A.length B.length i j (ends.drop k) ∧ Below w2.heap.size w2 wr) (fun _ _ _ t _ => ends.length - (intOf t).toNat)
  case atStart => exact ⟨0, 0, 0, [], Nat.zero_le _, by omega, by omega, rfl, rfl, rfl, World.ownsRow_nil _ _ _ _, fun x hx => by simp at hx, Nat.le_refl _, rfl, hst, Below.refl _ _⟩
  case round =>
    obtain ⟨k, i, j, pre, hk, hi, hj, rfl, rfl, rfl, hrow, hoks, hpl, hps, hsp, hbl⟩ := hrel
    have HP : Hid (pre.map HV.hk ++ Df.hks A B i j (ends.drop k) = Df.hks A B 0 0 ends) := hps
    clear hps hst
    by_cases hlt : k < ends.length
    · obtain ⟨p, hp⟩ : ∃ p, ends[k]? = some p := ⟨ends[k], List.getElem?_eq_getElem hlt⟩
      have hdr := Df.drop_at hp
      rw [hdr] at hsp
      obtain ⟨hx1, hx2, hy1, hy2, hsp'⟩ := hsp
      have HP2 : Hid (pre.map HV.hk ++ ((if i < p.1 ∨ j < p.2 then [⟨i, Df.part A i p.1, Df.part B j p.2⟩] else []) ++ Df.hks A B (p.1 + 1) (p.2 + 1) (ends.drop (k + 1))) = Df.hks A B 0 0 ends) := by
        have := HP.out
        rw [hdr] at this
        exact this
      obtain ⟨c0, c1⟩ := pair_cells (owns_below oe hbl) k p hp
      obtain ⟨x, y⟩ := p
      simp only at c0 c1 hx1 hx2 hy1 hy2
      have SP : Hid (Steps A.length B.length (x + 1) (y + 1) (ends.drop (k + 1))) := hsp'
      obtain ⟨va', ha1, ha2⟩ := slice_row (RA2.below hbl hs2) hx1 hx2
      obtain ⟨vb', hb1, hb2⟩ := slice_row (RB2.below hbl hs2) hy1 hy2
      clear hdr hsp' HP hp
      gi_wp2
      refine region_lex (fun w' => w'.cell? ⟨ge, k * 2, none⟩ = some (.int .i64 x) ∧ w'.cell? ⟨ge, k * 2 + 1, none⟩ = some (.int .i64 y)) 12 0 rfl (by kernel_rfl) (by kernel_rfl) (by kernel_rfl) (by kernel_rfl) (fun _ _ d _ _ h => by cases d <;> exact h) ⟨c0, c1⟩ ?_
      simp only [List.take_succ_cons, List.take_zero]
      iterate 12 (first
        | (apply lexC_want
           · rfl
           · exact fun _ => rfl
           · (intro w' hw'; obtain ⟨q0, q1⟩ := hw'; go_simp; try rfl)
           simp only [Act.put, List.setIfInBounds_toArray, List.set_cons_zero, List.set_cons_succ])
        | (apply lexC_skip
           · rfl
           · exact fun _ => rfl
           simp only [Act.put, List.setIfInBounds_toArray, List.set_cons_zero, List.set_cons_succ]))
      refine lexC_nil ?_
      refine anyC_done (by kernel_rfl) ?_
      have hn2 := hbl.size
      have lA : (Df.part A i x).length ≤ 1000000 := by rw [Df.part_length _ _ _ hx2]; omega
      have lB : (Df.part B j y).length ≤ 1000000 := by rw [Df.part_length _ _ _ hy2]; omega
      by_cases hix : i < x
      · have d1 : decide ((i : Int) < (x : Int)) = true := by simp; omega
        have d2 : decide (i < x) = true := by simp; omega
        gi_wp2
        refine region_lex (fun _ => True) 2 16 rfl (by kernel_rfl) (by kernel_rfl) (by kernel_rfl) (by kernel_rfl) (fun _ _ d _ _ h => by cases d <;> exact h) trivial ?_
        simp only [List.take_succ_cons, List.take_zero]
        iterate 2 (first
          | (apply lexC_want
             · rfl
             · exact fun _ => rfl
             · (intro w' hw'; go_simp; try rfl)
             simp only [Act.put, List.setIfInBounds_toArray, List.set_cons_zero, List.set_cons_succ])
          | (apply lexC_skip
             · rfl
             · exact fun _ => rfl
             simp only [Act.put, List.setIfInBounds_toArray, List.set_cons_zero, List.set_cons_succ]))
        refine lexC_nil ?_
        refine anyC_more 3 4 12 16 rfl (by kernel_rfl) rfl (by decide) (by kernel_rfl) (fun _ _ d _ _ h => by cases d <;> exact h) trivial ?_
        simp only [List.drop_succ_cons, List.drop_zero, List.take_succ_cons, List.take_zero]
        iterate 4 (first
          | (apply lexC_want
             · rfl
             · exact fun _ => rfl
             · (intro w' hw'; go_simp; try rfl)
             simp only [Act.put, List.setIfInBounds_toArray, List.set_cons_zero, List.set_cons_succ])
          | (apply lexC_skip
             · rfl
             · exact fun _ => rfl
             simp only [Act.put, List.setIfInBounds_toArray, List.set_cons_zero, List.set_cons_succ]))
        refine lexC_nil ?_
        refine anyC_more 9 4 8 12 rfl (by kernel_rfl) rfl (by decide) (by kernel_rfl) (fun _ _ d _ _ h => by cases d <;> exact h) trivial ?_
        simp only [List.drop_succ_cons, List.drop_zero, List.take_succ_cons, List.take_zero]
        iterate 4 (first
          | (apply lexC_want
             · rfl
             · exact fun _ => rfl
             · (intro w' hw'; go_simp; try rfl)
             simp only [Act.put, List.setIfInBounds_toArray, List.set_cons_zero, List.set_cons_succ])
          | (apply lexC_skip
             · rfl
             · exact fun _ => rfl
             simp only [Act.put, List.setIfInBounds_toArray, List.set_cons_zero, List.set_cons_succ]))
        refine lexC_nil ?_
        obtain ⟨W0, hW0⟩ : ∃ W0, W0 = wr.drew.drew := ⟨_, rfl⟩
        have hb0 : Below wr.heap.size wr W0 := by rw [hW0]; exact below_drewN (Below.refl _ _) 2
        have hs0 : wr.heap.size ≤ W0.heap.size := hb0.size
        rw [← hW0]
        clear hW0
        have qa : RowLow w.heap.size W0 va' (Df.part A i x) := ha2.below hb0 (by omega)
        have qb : RowLow w.heap.size W0 vb' (Df.part B j y) := hb2.below hb0 (by omega)
        clear ha1 hb1 ha2 hb2 oe c0 c1 RA2 RB2
        refine anyC_two (i := 2) (j := 8) (by kernel_rfl) rfl rfl (by rfl) (by rfl) (fun K1 hK1 => ?_) (fun K1 hK1 => ?_)
        · go_simp
          refine hK1 _ _ trivial ?_
          refine anyC_two (i := 7) (j := 8) (by kernel_rfl) rfl rfl (by rfl) (by rfl) (fun K2 hK2 => ?_) (fun K2 hK2 => ?_)
          · obtain ⟨v1, W1, v2, W4, r1, r2, o1, o2, hb4'⟩ := two_apart (B := w2.heap.size) qa qb (by omega) (by omega) lA lB
            have hb4 : Below wr.heap.size wr W4 := hb0.trans (hb4'.mono (by omega))
            refine op_append _ _ 22 rfl _ _ _ _ rfl rfl r1 (hK2 _ _ trivial ?_)
            refine anyC_one (i := 8) (by kernel_rfl) rfl (by rfl) (fun K3 hK3 => ?_)
            go_simp
            refine hK3 _ _ trivial ?_
            refine anyC_one (i := 13) (by kernel_rfl) rfl (by rfl) (fun K4 hK4 => ?_)
            refine op_append _ _ 22 rfl _ _ _ _ rfl rfl r2 (hK4 _ _ trivial ?_)
            clear hK1 hK2 hK3 hK4
            obtain ⟨a1, c1, e1⟩ := slice_shape o1
            obtain ⟨a2, c2, e2⟩ := slice_shape o2
            subst e1 e2
            obtain ⟨v5, W6, hrun, hown5, hoks5, hb6⟩ := hunk_put hrow hoks hb4 hn2 ⟨i, _, _, _, _⟩ ⟨o1, o2⟩ (by omega)
            simp only at hrun
            refine anyC_one (i := 14) (by kernel_rfl) rfl (by rfl) (fun K5 hK5 => ?_)
            go_simp
            refine hK5 _ _ trivial ?_
            refine anyC_one (i := 15) (by kernel_rfl) rfl (by rfl) (fun K6 hK6 => ?_)
            go_simp
            refine hK6 _ _ trivial ?_
            refine anyC_one (i := 16) (by kernel_rfl) rfl (by rfl) (fun K7 hK7 => ?_)
            refine op_append _ _ 28 rfl _ _ _ _ rfl rfl hrun (hK7 _ _ trivial ?_)
            refine anyC_one (i := 17) (by kernel_rfl) rfl (by rfl) (fun K8 hK8 => ?_)
            go_simp
            refine hK8 _ _ trivial ?_
            refine anyC_done (by kernel_rfl) ?_
            clear hK5 hK6 hK7 hK8 hrun r1 r2 hrow hoks
            gi_wp2
            go_roundw
            case rel =>
              refine ⟨k + 1, x + 1, y + 1, _, by omega, by omega, by omega, by go_num, by go_num, by go_num, hown5, hoks5, by simp; omega, ?_, SP.out, hbl.trans hb6⟩
              rw [← HP2.out, if_pos (by show i < x ∨ j < y; omega), List.map_append, List.append_assoc]; rfl
            case measure => simp [intOf]; omega
          · go_simp
            refine hK2 _ _ trivial ?_
            have bA : Below W0.heap.size W0 ((W0.alloc (.cells #[] 9)).alloc (.cells #[] 9)) := ((Below.refl _ W0).alloc (Nat.le_refl _) _).alloc (by simp) _
            have e1' := (owned_empty W0 (B := w2.heap.size) (by omega)).alloc (.cells #[] 9)
            have e2' := owned_empty (W0.alloc (.cells #[] 9)) (B := w2.heap.size) (by simp; omega)
            rw [World.size_alloc] at e2'
            obtain ⟨v1, W1, v2, W4, r1, r2, o1, o2, hb4'⟩ := two_rows e1' e2' (qa.below bA (by omega)) (qb.below bA (by omega)) (by simp; omega) (by simp; omega) lA lB
            have hb4 : Below wr.heap.size wr W4 := hb0.trans ((bA.mono (by omega)).trans (hb4'.mono (by simp; omega)))
            refine anyC_one (i := 7) (by kernel_rfl) rfl (by rfl) (fun K3 hK3 => ?_)
            refine op_append _ _ 22 rfl _ _ _ _ rfl rfl r1 (hK3 _ _ trivial ?_)
            refine anyC_one (i := 13) (by kernel_rfl) rfl (by rfl) (fun K4 hK4 => ?_)
            refine op_append _ _ 22 rfl _ _ _ _ rfl rfl r2 (hK4 _ _ trivial ?_)
            clear hK1 hK2 hK3 hK4
            obtain ⟨a1, c1, e1⟩ := slice_shape o1
            obtain ⟨a2, c2, e2⟩ := slice_shape o2
            subst e1 e2
            obtain ⟨v5, W6, hrun, hown5, hoks5, hb6⟩ := hunk_put hrow hoks hb4 hn2 ⟨i, _, _, _, _⟩ ⟨o1, o2⟩ (by omega)
            simp only at hrun
            refine anyC_one (i := 14) (by kernel_rfl) rfl (by rfl) (fun K5 hK5 => ?_)
            go_simp
            refine hK5 _ _ trivial ?_
            refine anyC_one (i := 15) (by kernel_rfl) rfl (by rfl) (fun K6 hK6 => ?_)
            go_simp
            refine hK6 _ _ trivial ?_
            refine anyC_one (i := 16) (by kernel_rfl) rfl (by rfl) (fun K7 hK7 => ?_)
            refine op_append _ _ 28 rfl _ _ _ _ rfl rfl hrun (hK7 _ _ trivial ?_)
            refine anyC_one (i := 17) (by kernel_rfl) rfl (by rfl) (fun K8 hK8 => ?_)
            go_simp
            refine hK8 _ _ trivial ?_
            refine anyC_done (by kernel_rfl) ?_
            clear hK5 hK6 hK7 hK8 hrun r1 r2 hrow hoks
            gi_wp2
            go_roundw
            case rel =>
              refine ⟨k + 1, x + 1, y + 1, _, by omega, by omega, by omega, by go_num, by go_num, by go_num, hown5, hoks5, by simp; omega, ?_, SP.out, hbl.trans hb6⟩
              rw [← HP2.out, if_pos (by show i < x ∨ j < y; omega), List.map_append, List.append_assoc]; rfl
            case measure => simp [intOf]; omega
        · go_simp
          refine hK1 _ _ trivial ?_
          refine anyC_one (i := 2) (by kernel_rfl) rfl (by rfl) (fun K2 hK2 => ?_)
          go_simp
          refine hK2 _ _ trivial ?_
          have bA : Below W0.heap.size W0 ((W0.alloc (.cells #[] 9)).alloc (.cells #[] 9)) := ((Below.refl _ W0).alloc (Nat.le_refl _) _).alloc (by simp) _
          have e1' := (owned_empty W0 (B := w2.heap.size) (by omega)).alloc (.cells #[] 9)
          have e2' := owned_empty (W0.alloc (.cells #[] 9)) (B := w2.heap.size) (by simp; omega)
          rw [World.size_alloc] at e2'
          obtain ⟨v1, W1, v2, W4, r1, r2, o1, o2, hb4'⟩ := two_rows e2' e1' (qa.below bA (by omega)) (qb.below bA (by omega)) (by simp; omega) (by simp; omega) lA lB
          have hb4 : Below wr.heap.size wr W4 := hb0.trans ((bA.mono (by omega)).trans (hb4'.mono (by simp; omega)))
          refine anyC_one (i := 7) (by kernel_rfl) rfl (by rfl) (fun K3 hK3 => ?_)
          refine op_append _ _ 22 rfl _ _ _ _ rfl rfl r1 (hK3 _ _ trivial ?_)
          refine anyC_one (i := 13) (by kernel_rfl) rfl (by rfl) (fun K4 hK4 => ?_)
          refine op_append _ _ 22 rfl _ _ _ _ rfl rfl r2 (hK4 _ _ trivial ?_)
          clear hK1 hK2 hK3 hK4
          obtain ⟨a1, c1, e1⟩ := slice_shape o1
          obtain ⟨a2, c2, e2⟩ := slice_shape o2
          subst e1 e2
          obtain ⟨v5, W6, hrun, hown5, hoks5, hb6⟩ := hunk_put hrow hoks hb4 hn2 ⟨i, _, _, _, _⟩ ⟨o1, o2⟩ (by omega)
          simp only at hrun
          refine anyC_one (i := 14) (by kernel_rfl) rfl (by rfl) (fun K5 hK5 => ?_)
          go_simp
          refine hK5 _ _ trivial ?_
          refine anyC_one (i := 15) (by kernel_rfl) rfl (by rfl) (fun K6 hK6 => ?_)
          go_simp
          refine hK6 _ _ trivial ?_
          refine anyC_one (i := 16) (by kernel_rfl) rfl (by rfl) (fun K7 hK7 => ?_)
          refine op_append _ _ 28 rfl _ _ _ _ rfl rfl hrun (hK7 _ _ trivial ?_)
          refine anyC_one (i := 17) (by kernel_rfl) rfl (by rfl) (fun K8 hK8 => ?_)
          go_simp
          refine hK8 _ _ trivial ?_
          refine anyC_done (by kernel_rfl) ?_
          clear hK5 hK6 hK7 hK8 hrun r1 r2 hrow hoks
          gi_wp2
          go_roundw
          case rel =>
            refine ⟨k + 1, x + 1, y + 1, _, by omega, by omega, by omega, by go_num, by go_num, by go_num, hown5, hoks5, by simp; omega, ?_, SP.out, hbl.trans hb6⟩
            rw [← HP2.out, if_pos (by show i < x ∨ j < y; omega), List.map_append, List.append_assoc]; rfl
          case measure => simp [intOf]; omega
      · have d1 : decide ((i : Int) < (x : Int)) = false := by simp; omega
        have d2 : decide (i < x) = false := by simp; omega
        by_cases hjy : j < y
        · have d3 : decide ((j : Int) < (y : Int)) = true := by simp; omega
          have d4 : decide (j < y) = true := by simp; omega
          gi_wp2
          refine region_lex (fun _ => True) 2 16 rfl (by kernel_rfl) (by kernel_rfl) (by kernel_rfl) (by kernel_rfl) (fun _ _ d _ _ h => by cases d <;> exact h) trivial ?_
          simp only [List.take_succ_cons, List.take_zero]
          iterate 2 (first
            | (apply lexC_want
               · rfl
               · exact fun _ => rfl
               · (intro w' hw'; go_simp; try rfl)
               simp only [Act.put, List.setIfInBounds_toArray, List.set_cons_zero, List.set_cons_succ])
            | (apply lexC_skip
               · rfl
               · exact fun _ => rfl
               simp only [Act.put, List.setIfInBounds_toArray, List.set_cons_zero, List.set_cons_succ]))
          refine lexC_nil ?_
          refine anyC_more 3 4 12 16 rfl (by kernel_rfl) rfl (by decide) (by kernel_rfl) (fun _ _ d _ _ h => by cases d <;> exact h) trivial ?_
          simp only [List.drop_succ_cons, List.drop_zero, List.take_succ_cons, List.take_zero]
          iterate 4 (first
            | (apply lexC_want
               · rfl
               · exact fun _ => rfl
               · (intro w' hw'; go_simp; try rfl)
               simp only [Act.put, List.setIfInBounds_toArray, List.set_cons_zero, List.set_cons_succ])
            | (apply lexC_skip
               · rfl
               · exact fun _ => rfl
               simp only [Act.put, List.setIfInBounds_toArray, List.set_cons_zero, List.set_cons_succ]))
          refine lexC_nil ?_
          refine anyC_more 9 4 8 12 rfl (by kernel_rfl) rfl (by decide) (by kernel_rfl) (fun _ _ d _ _ h => by cases d <;> exact h) trivial ?_
          simp only [List.drop_succ_cons, List.drop_zero, List.take_succ_cons, List.take_zero]
          iterate 4 (first
            | (apply lexC_want
               · rfl
               · exact fun _ => rfl
               · (intro w' hw'; go_simp; try rfl)
               simp only [Act.put, List.setIfInBounds_toArray, List.set_cons_zero, List.set_cons_succ])
            | (apply lexC_skip
               · rfl
               · exact fun _ => rfl
               simp only [Act.put, List.setIfInBounds_toArray, List.set_cons_zero, List.set_cons_succ]))
          refine lexC_nil ?_
          obtain ⟨W0, hW0⟩ : ∃ W0, W0 = wr.drew.drew := ⟨_, rfl⟩
          have hb0 : Below wr.heap.size wr W0 := by rw [hW0]; exact below_drewN (Below.refl _ _) 2
          have hs0 : wr.heap.size ≤ W0.heap.size := hb0.size
          rw [← hW0]
          clear hW0
          have qa : RowLow w.heap.size W0 va' (Df.part A i x) := ha2.below hb0 (by omega)
          have qb : RowLow w.heap.size W0 vb' (Df.part B j y) := hb2.below hb0 (by omega)
          clear ha1 hb1 ha2 hb2 oe c0 c1 RA2 RB2
          refine anyC_two (i := 2) (j := 8) (by kernel_rfl) rfl rfl (by rfl) (by rfl) (fun K1 hK1 => ?_) (fun K1 hK1 => ?_)
          · go_simp
            refine hK1 _ _ trivial ?_
            refine anyC_two (i := 7) (j := 8) (by kernel_rfl) rfl rfl (by rfl) (by rfl) (fun K2 hK2 => ?_) (fun K2 hK2 => ?_)
            · obtain ⟨v1, W1, v2, W4, r1, r2, o1, o2, hb4'⟩ := two_apart (B := w2.heap.size) qa qb (by omega) (by omega) lA lB
              have hb4 : Below wr.heap.size wr W4 := hb0.trans (hb4'.mono (by omega))
              refine op_append _ _ 22 rfl _ _ _ _ rfl rfl r1 (hK2 _ _ trivial ?_)
              refine anyC_one (i := 8) (by kernel_rfl) rfl (by rfl) (fun K3 hK3 => ?_)
              go_simp
              refine hK3 _ _ trivial ?_
              refine anyC_one (i := 13) (by kernel_rfl) rfl (by rfl) (fun K4 hK4 => ?_)
              refine op_append _ _ 22 rfl _ _ _ _ rfl rfl r2 (hK4 _ _ trivial ?_)
              clear hK1 hK2 hK3 hK4
              obtain ⟨a1, c1, e1⟩ := slice_shape o1
              obtain ⟨a2, c2, e2⟩ := slice_shape o2
              subst e1 e2
              obtain ⟨v5, W6, hrun, hown5, hoks5, hb6⟩ := hunk_put hrow hoks hb4 hn2 ⟨i, _, _, _, _⟩ ⟨o1, o2⟩ (by omega)
              simp only at hrun
              refine anyC_one (i := 14) (by kernel_rfl) rfl (by rfl) (fun K5 hK5 => ?_)
              go_simp
              refine hK5 _ _ trivial ?_
              refine anyC_one (i := 15) (by kernel_rfl) rfl (by rfl) (fun K6 hK6 => ?_)
              go_simp
              refine hK6 _ _ trivial ?_
              refine anyC_one (i := 16) (by kernel_rfl) rfl (by rfl) (fun K7 hK7 => ?_)
              refine op_append _ _ 28 rfl _ _ _ _ rfl rfl hrun (hK7 _ _ trivial ?_)
              refine anyC_one (i := 17) (by kernel_rfl) rfl (by rfl) (fun K8 hK8 => ?_)
              go_simp
              refine hK8 _ _ trivial ?_
              refine anyC_done (by kernel_rfl) ?_
              clear hK5 hK6 hK7 hK8 hrun r1 r2 hrow hoks
              gi_wp2
              go_roundw
              case rel =>
                refine ⟨k + 1, x + 1, y + 1, _, by omega, by omega, by omega, by go_num, by go_num, by go_num, hown5, hoks5, by simp; omega, ?_, SP.out, hbl.trans hb6⟩
                rw [← HP2.out, if_pos (by show i < x ∨ j < y; omega), List.map_append, List.append_assoc]; rfl
              case measure => simp [intOf]; omega
            · go_simp
              refine hK2 _ _ trivial ?_
              have bA : Below W0.heap.size W0 ((W0.alloc (.cells #[] 9)).alloc (.cells #[] 9)) := ((Below.refl _ W0).alloc (Nat.le_refl _) _).alloc (by simp) _
              have e1' := (owned_empty W0 (B := w2.heap.size) (by omega)).alloc (.cells #[] 9)
              have e2' := owned_empty (W0.alloc (.cells #[] 9)) (B := w2.heap.size) (by simp; omega)
              rw [World.size_alloc] at e2'
              obtain ⟨v1, W1, v2, W4, r1, r2, o1, o2, hb4'⟩ := two_rows e1' e2' (qa.below bA (by omega)) (qb.below bA (by omega)) (by simp; omega) (by simp; omega) lA lB
              have hb4 : Below wr.heap.size wr W4 := hb0.trans ((bA.mono (by omega)).trans (hb4'.mono (by simp; omega)))
              refine anyC_one (i := 7) (by kernel_rfl) rfl (by rfl) (fun K3 hK3 => ?_)
              refine op_append _ _ 22 rfl _ _ _ _ rfl rfl r1 (hK3 _ _ trivial ?_)
              refine anyC_one (i := 13) (by kernel_rfl) rfl (by rfl) (fun K4 hK4 => ?_)
              refine op_append _ _ 22 rfl _ _ _ _ rfl rfl r2 (hK4 _ _ trivial ?_)
              clear hK1 hK2 hK3 hK4
              obtain ⟨a1, c1, e1⟩ := slice_shape o1
              obtain ⟨a2, c2, e2⟩ := slice_shape o2
              subst e1 e2
              obtain ⟨v5, W6, hrun, hown5, hoks5, hb6⟩ := hunk_put hrow hoks hb4 hn2 ⟨i, _, _, _, _⟩ ⟨o1, o2⟩ (by omega)
              simp only at hrun
              refine anyC_one (i := 14) (by kernel_rfl) rfl (by rfl) (fun K5 hK5 => ?_)
              go_simp
              refine hK5 _ _ trivial ?_
              refine anyC_one (i := 15) (by kernel_rfl) rfl (by rfl) (fun K6 hK6 => ?_)
              go_simp
              refine hK6 _ _ trivial ?_
              refine anyC_one (i := 16) (by kernel_rfl) rfl (by rfl) (fun K7 hK7 => ?_)
              refine op_append _ _ 28 rfl _ _ _ _ rfl rfl hrun (hK7 _ _ trivial ?_)
              refine anyC_one (i := 17) (by kernel_rfl) rfl (by rfl) (fun K8 hK8 => ?_)
              go_simp
              refine hK8 _ _ trivial ?_
              refine anyC_done (by kernel_rfl) ?_
              clear hK5 hK6 hK7 hK8 hrun r1 r2 hrow hoks
              gi_wp2
              go_roundw
              case rel =>
                refine ⟨k + 1, x + 1, y + 1, _, by omega, by omega, by omega, by go_num, by go_num, by go_num, hown5, hoks5, by simp; omega, ?_, SP.out, hbl.trans hb6⟩
                rw [← HP2.out, if_pos (by show i < x ∨ j < y; omega), List.map_append, List.append_assoc]; rfl
              case measure => simp [intOf]; omega
          · go_simp
            refine hK1 _ _ trivial ?_
            refine anyC_one (i := 2) (by kernel_rfl) rfl (by rfl) (fun K2 hK2 => ?_)
            go_simp
            refine hK2 _ _ trivial ?_
            have bA : Below W0.heap.size W0 ((W0.alloc (.cells #[] 9)).alloc (.cells #[] 9)) := ((Below.refl _ W0).alloc (Nat.le_refl _) _).alloc (by simp) _
            have e1' := (owned_empty W0 (B := w2.heap.size) (by omega)).alloc (.cells #[] 9)
            have e2' := owned_empty (W0.alloc (.cells #[] 9)) (B := w2.heap.size) (by simp; omega)
            rw [World.size_alloc] at e2'
            obtain ⟨v1, W1, v2, W4, r1, r2, o1, o2, hb4'⟩ := two_rows e2' e1' (qa.below bA (by omega)) (qb.below bA (by omega)) (by simp; omega) (by simp; omega) lA lB
            have hb4 : Below wr.heap.size wr W4 := hb0.trans ((bA.mono (by omega)).trans (hb4'.mono (by simp; omega)))
            refine anyC_one (i := 7) (by kernel_rfl) rfl (by rfl) (fun K3 hK3 => ?_)
            refine op_append _ _ 22 rfl _ _ _ _ rfl rfl r1 (hK3 _ _ trivial ?_)
            refine anyC_one (i := 13) (by kernel_rfl) rfl (by rfl) (fun K4 hK4 => ?_)
            refine op_append _ _ 22 rfl _ _ _ _ rfl rfl r2 (hK4 _ _ trivial ?_)
            clear hK1 hK2 hK3 hK4
            obtain ⟨a1, c1, e1⟩ := slice_shape o1
            obtain ⟨a2, c2, e2⟩ := slice_shape o2
            subst e1 e2
            obtain ⟨v5, W6, hrun, hown5, hoks5, hb6⟩ := hunk_put hrow hoks hb4 hn2 ⟨i, _, _, _, _⟩ ⟨o1, o2⟩ (by omega)
            simp only at hrun
            refine anyC_one (i := 14) (by kernel_rfl) rfl (by rfl) (fun K5 hK5 => ?_)
            go_simp
            refine hK5 _ _ trivial ?_
            refine anyC_one (i := 15) (by kernel_rfl) rfl (by rfl) (fun K6 hK6 => ?_)
            go_simp
            refine hK6 _ _ trivial ?_
            refine anyC_one (i := 16) (by kernel_rfl) rfl (by rfl) (fun K7 hK7 => ?_)
            refine op_append _ _ 28 rfl _ _ _ _ rfl rfl hrun (hK7 _ _ trivial ?_)
            refine anyC_one (i := 17) (by kernel_rfl) rfl (by rfl) (fun K8 hK8 => ?_)
            go_simp
            refine hK8 _ _ trivial ?_
            refine anyC_done (by kernel_rfl) ?_
            clear hK5 hK6 hK7 hK8 hrun r1 r2 hrow hoks
            gi_wp2
            go_roundw
            case rel =>
              refine ⟨k + 1, x + 1, y + 1, _, by omega, by omega, by omega, by go_num, by go_num, by go_num, hown5, hoks5, by simp; omega, ?_, SP.out, hbl.trans hb6⟩
              rw [← HP2.out, if_pos (by show i < x ∨ j < y; omega), List.map_append, List.append_assoc]; rfl
            case measure => simp [intOf]; omega
        · have d3 : decide ((j : Int) < (y : Int)) = false := by simp; omega
          have d4 : decide (j < y) = false := by simp; omega
          gi_wp2
          go_roundw
          case rel =>
            refine ⟨k + 1, x + 1, y + 1, pre, by omega, by omega, by omega, by go_num, by go_num, by go_num, owns_below hrow (below_drewN (Below.refl _ _) 1), fun z hz => (hoks z hz).below (below_drewN (Below.refl _ _) 1), by omega, ?_, SP.out, below_drewN hbl 1⟩
            rw [← HP2.out, if_neg (by show ¬ (i < x ∨ j < y); omega), List.nil_append]
          case measure => simp [intOf]; omega
    · have hke : ends.drop k = [] := List.drop_eq_nil_of_le (by omega)
      have HR : Hid (pre.map HV.hk = Df.hks A B 0 0 ends) := by
        show pre.map HV.hk = Df.hks A B 0 0 ends
        rw [← HP.out, hke]; simp [Df.hks]
      clear hke
      gi_wp2
      refine bodyPost_ret (results_tmp rfl _ _ _) rfl ⟨_, pre, rfl, HR.out.trans HE.out, owns_base hrow hs2, fun x hx => ⟨owns_base (hoks x hx).1 hs2, owns_base (hoks x hx).2 hs2⟩, hbw.trans (hbl.mono hs2)⟩

end Go.Proofs.YtpcinbfelikgpaaGreatDoor
