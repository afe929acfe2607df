/-
  slices.Clone at nodes; a row whose Kids are exchanged for a copy reads as before.
-/
import Derived.Test.YtejnleigjjaenaaTrSize
import Derived.Test.YtejnleigjjaenaaClone
namespace Go.Proofs.Ytejnleigjjaenaa
open Go.RowKit Go.Shelf

attribute [local go_sem] Oper.semAt_some

theorem info_node : (Try.prog.info? 25).map (fun i => (i.zero, i.size, i.bytes)) = some (some (.agg #[.int .u8 0, .string ⟨#[]⟩, .int .i64 0, .slice none 0 0]), 4, 56) := by kernel_rfl
theorem n1_one {xs : List N1} (h : ∀ x ∈ xs, x.v.oneCell' = true) : ∀ u ∈ n1Cells xs, u.oneCell' = true := by
  induction xs with
  | nil => intro u hu; cases hu
  | cons x r ih =>
    intro u hu
    simp only [n1Cells, N1.cells, List.cons_append, List.nil_append, List.mem_cons] at hu
    rcases hu with rfl | rfl | rfl | rfl | hu
    · rfl
    · rfl
    · rfl
    · exact h x (by simp)
    · exact ih (fun y hy => h y (by simp [hy])) u hu
theorem RowR.slice {S : Nat → Prop} {w : World} {v : Value} {ts : List Tr} (h : RowR S w v ts) : ∃ ao cap, v = .slice ao ts.length cap := by
  obtain ⟨xs, ao, cap, b, off, -, hv, -⟩ := h.parts
  exact ⟨ao, cap, hv⟩

set_option maxRecDepth 100000 in
set_option maxHeartbeats 4000000 in
theorem nclone_any (b off n c : Nat) (news : List Value) (w : World) (hl : news.length = n * 4) (hn : n ≤ 1000000) (hc : ∀ (j : Nat) (u : Value), news[j]? = some u → w.cell? ⟨b, off + j, none⟩ = some u) (h1 : ∀ u ∈ news, u.oneCell' = true) :
    Calls Try.prog 41 #[.slice (some ⟨b, off, none⟩) n c] w fun e w' => ∃ v', e = .returned v' ∧ w'.ownsRow w.heap.size 25 4 v' n news ∧ v' ≠ .slice none 0 0 ∧ Below w.heap.size w w' := by
  obtain ⟨i0, hi, hz0, hz1, hz2⟩ := info_parts info_node
  have q : ∀ (w : World) (a : Option Addr) (n c n' c' : Nat), (binOp .eql 23 (.slice a n c) (.slice none n' c')).run Try.prog w = .ok (.bool a.isNone) w := fun w a n c n' c' => Lib.run_eql_slice_nil w _ _ a n c n' c' Try.underlying23
  have A : Aside (∀ j u, news[j]? = some u → w.cell? ⟨b, off + j, none⟩ = some u) := hc
  clear hc
  go_enter Try.func41, Try.ntmps41
  go_wp2_with (at_builtin; refine wpList_append_own _ rfl _ _ 23 rfl w.heap.size 25 i0 (.agg #[.int .u8 0, .string ⟨#[]⟩, .int .i64 0, .slice none 0 0]) 4 56 Try.underlying23 hi hz0 hz1 hz2 rfl (by decide) _ _ _ rfl (World.ownsRow_made w #[] 0 (Nat.le_refl _) (Nat.zero_le _) (by simp)) ⟨b, off, none⟩ n c news rfl ?qc1 ?qc2 ?qc3 ?qc4 ?qc5 ?qc6 ?_)
  case qc1 => exact hl
  case qc2 =>
    intro j u hj
    rw [Addr.add_lit]
    exact Lib.cell?_alloc_some _ (A.out j u hj)
  case qc3 => exact h1
  case qc4 => rw [Nat.zero_add]; unfold maxLen; omega
  case qc5 => rw [Nat.zero_add]; omega
  case qc6 => simp
  intro v' w1 hown hgrow hnil
  go_wp2
  go_ret
  refine ⟨v', rfl, by simpa using hown, ?_, ?_⟩
  · exact hnil
  · exact ((Below.refl _ w).alloc (Nat.le_refl _) _).grown hgrow (by simp) (by intro k hk; simp [Value.ownBlock] at hk; omega)

set_option maxRecDepth 100000 in
set_option maxHeartbeats 4000000 in
theorem nclone_nil (n c : Nat) (w : World) : Calls Try.prog 41 #[.slice none n c] w fun e w' => e = .returned (.slice none 0 0) ∧ w' = w := by
  have q : ∀ (w : World) (a : Option Addr) (n c n' c' : Nat), (binOp .eql 23 (.slice a n c) (.slice none n' c')).run Try.prog w = .ok (.bool a.isNone) w := fun w a n c n' c' => Lib.run_eql_slice_nil w _ _ a n c n' c' Try.underlying23
  go_enter Try.func41, Try.ntmps41
  go_wp2
  go_ret
  exact ⟨rfl, rfl⟩

/-- One slice cell is exchanged for one that reads as it: all rows read as before. -/
theorem RowR.swap {S T : Nat → Prop} {w w' : World} {b0 o0 : Nat} {s s' : Value} (hST : ∀ b, S b → T b) (hcell : ∀ (b o : Nat) (c : Value), w.cell? ⟨b, o, none⟩ = some c → (b, o) ≠ (b0, o0) → w'.cell? ⟨b, o, none⟩ = some c)
    (h0 : w.cell? ⟨b0, o0, none⟩ = some s) (h1 : w'.cell? ⟨b0, o0, none⟩ = some s') (hs : ∃ ao n cap, s = .slice ao n cap) (heq : ∀ ts, RowR T w' s ts → RowR T w' s' ts) {v : Value} {ts : List Tr} (h : RowR S w v ts) : RowR T w' v ts := by
  induction h with
  | @mk v ts xs e hc hl hf hk ih =>
    obtain ⟨ao, cap, b, off, hv, hcap, ha, hx⟩ := hc
    let g : Nat → N1 → N1 := fun i x => if (b, off + (i * 4 + 3)) = (b0, o0) then { x with v := s' } else x
    have hgi : ∀ i x, xs[i]? = some x → (g i x).tr = x.tr ∧ (g i x).Fit ∧ RowR T w' (g i x).v (g i x).kids ∧ ∀ j : Nat, j < 4 → ∀ u, (g i x).cells[j]? = some u → w'.cell? ⟨b, off + (i * 4 + j), none⟩ = some u := by
      intro i x hi
      have hmem := List.mem_of_getElem? hi
      have hcx : ∀ j : Nat, j < 4 → ∀ u, x.cells[j]? = some u → w.cell? ⟨b, off + (i * 4 + j), none⟩ = some u := fun j hj u hu => hx (i * 4 + j) u (by rw [n1Cells_at hi j hj]; exact hu)
      by_cases he : (b, off + (i * 4 + 3)) = (b0, o0)
      · have eg : g i x = { x with v := s' } := if_pos he
        have hxv : x.v = s := by
          have := hcx 3 (by omega) x.v rfl
          rw [Prod.mk.injEq] at he
          rw [he.1, he.2, h0] at this
          exact (Option.some.inj this).symm
        rw [eg]
        refine ⟨rfl, hf x hmem, heq _ (hxv ▸ ih x hmem), fun j hj u hu => ?_⟩
        rw [Prod.mk.injEq] at he
        match j, hj with
        | 0, _ => exact hcell _ _ _ (hcx 0 (by omega) u (by simpa [N1.cells] using hu)) (by rw [Ne, Prod.mk.injEq]; omega)
        | 1, _ => exact hcell _ _ _ (hcx 1 (by omega) u (by simpa [N1.cells] using hu)) (by rw [Ne, Prod.mk.injEq]; omega)
        | 2, _ => exact hcell _ _ _ (hcx 2 (by omega) u (by simpa [N1.cells] using hu)) (by rw [Ne, Prod.mk.injEq]; omega)
        | 3, _ =>
          simp [N1.cells] at hu
          subst hu
          rw [he.1, he.2]; exact h1
      · have eg : g i x = x := if_neg he
        rw [eg]
        refine ⟨rfl, hf x hmem, ih x hmem, fun j hj u hu => ?_⟩
        by_cases hj3 : (b, off + (i * 4 + j)) = (b0, o0)
        · exfalso
          have h9 := hcx j hj u hu
          have hj3' := hj3
          rw [Prod.mk.injEq] at hj3'
          rw [hj3'.1, hj3'.2, h0] at h9
          obtain ⟨a9, n9, c9, rfl⟩ := hs
          match j, hj with
          | 0, _ => simp [N1.cells] at hu; subst hu; cases h9
          | 1, _ => simp [N1.cells] at hu; subst hu; cases h9
          | 2, _ => simp [N1.cells] at hu; subst hu; cases h9
          | 3, _ => exact he hj3
        · exact hcell _ _ _ (hcx j hj u hu) hj3
    have hxl : (xs.mapIdx g).length = xs.length := List.length_mapIdx
    have hget : ∀ i y, (xs.mapIdx g)[i]? = some y → ∃ x, xs[i]? = some x ∧ y = g i x := by
      intro i y hy
      rw [List.getElem?_mapIdx] at hy
      obtain ⟨x, hx1, hx2⟩ := Option.map_eq_some_iff.1 hy
      exact ⟨x, hx1, hx2.symm⟩
    refine .mk (xs.mapIdx g) ?_ ⟨ao, cap, b, off, by rw [hxl]; exact hv, by rw [hxl]; exact hcap, fun h => ⟨(ha (by rw [hxl] at h; exact h)).1, hST b (ha (by rw [hxl] at h; exact h)).2⟩, fun j u hu => ?_⟩ (by rw [hxl]; exact hl) (fun y hy => ?_) (fun y hy => ?_)
    · rw [e]
      apply List.ext_getElem?
      intro i
      rw [List.getElem?_map, List.getElem?_map, List.getElem?_mapIdx]
      cases hi : xs[i]? with
      | none => rfl
      | some x => simp only [Option.map_some]; rw [(hgi i x hi).1]
    · have hjl : j < (n1Cells (xs.mapIdx g)).length := (List.getElem?_eq_some_iff.1 hu).1
      rw [n1Cells_len] at hjl
      have hd : j / 4 < (xs.mapIdx g).length := by omega
      obtain ⟨x, hx1, hx2⟩ := hget (j / 4) _ (List.getElem?_eq_getElem hd)
      have hm : j = j / 4 * 4 + j % 4 := by omega
      rw [hm]
      refine (hgi (j / 4) x hx1).2.2.2 (j % 4) (by omega) u ?_
      rw [hm, n1Cells_at (List.getElem?_eq_getElem hd) (j % 4) (by omega)] at hu
      rw [← hx2]; exact hu
    · obtain ⟨i, hi⟩ := List.mem_iff_getElem?.1 hy
      obtain ⟨x, hx1, rfl⟩ := hget i y hi
      exact (hgi i x hx1).2.1
    · obtain ⟨i, hi⟩ := List.mem_iff_getElem?.1 hy
      obtain ⟨x, hx1, rfl⟩ := hget i y hi
      exact (hgi i x hx1).2.2.1

/-- Two slices of the same cells read as the same. -/
theorem RowR.as {S T : Nat → Prop} {w : World} {ao : Option Addr} {n cap : Nat} {v' : Value} {ys : List Value} (hlen : ys.length = n * 4) (hc : CellsS S w (.slice ao n cap) n ys) (hc' : CellsS T w v' n ys) {ts : List Tr} (h : RowR T w (.slice ao n cap) ts) : RowR T w v' ts := by
  cases h with
  | mk xs e hcx hl hf hk =>
    obtain ⟨ao1, cap1, b1, off1, hv1, -, ha1, hx1⟩ := hc
    obtain ⟨ao2, cap2, b2, off2, hv2, hcap2, ha2, hx2⟩ := hcx
    cases hv1
    have hxn : xs.length = n := by cases hv2; rfl
    have hao : ao = ao2 := by cases hv2; rfl
    subst hao
    have heq : n1Cells xs = ys := by
      apply List.ext_getElem?
      intro j
      by_cases hj : j < n * 4
      · have hn : 0 < n := by omega
        have e1 := (ha1 hn).1
        have e2 := (ha2 (by omega)).1
        rw [e1] at e2
        cases e2
        have g1 := hx1 j _ (List.getElem?_eq_getElem (by omega))
        have g2 := hx2 j _ (List.getElem?_eq_getElem (by rw [n1Cells_len]; omega))
        rw [g1] at g2
        rw [List.getElem?_eq_getElem (l := ys) (by omega), List.getElem?_eq_getElem (l := n1Cells xs) (by rw [n1Cells_len]; omega)]
        exact g2.symm
      · rw [List.getElem?_eq_none (by rw [n1Cells_len]; omega), List.getElem?_eq_none (by omega)]
    exact .mk xs e (by rw [hxn, heq]; exact hc') hl hf hk

end Go.Proofs.Ytejnleigjjaenaa
