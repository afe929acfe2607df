/-
  The walks of (*row).put and hunk.copied.
-/
import Derived.Test.YtkiafelpgcmifaaFlatBase
import Derived.Test.YtkiafelpgcmifaaClone
namespace Go.Proofs.Ytkiafelpgcmifaa
open Go.RowKit Go.Shelf

attribute [local go_sem] Oper.semAt_some

/-- What lay below B is as it was; and whatever holds no texts, but block b. -/
def KeepB (B b : Nat) (W W' : World) : Prop := Below B W W' ∧ ∀ (k : Nat) (c : Array Value) (t : TypeId) (fr : Nat × Nat), W.heap[k]? = some (.cells c t fr) → t ≠ 9 → k ≠ b → W'.heap[k]? = some (.cells c t fr)
theorem KeepB.refl (B b : Nat) (W : World) : KeepB B b W W := ⟨Below.refl _ _, fun _ _ _ _ h _ _ => h⟩
theorem KeepB.trans {B b : Nat} {W X Y : World} (h : KeepB B b W X) (k : KeepB B b X Y) : KeepB B b W Y := ⟨h.1.trans k.1, fun j c t fr hj h1 h2 => k.2 j c t fr (h.2 j c t fr hj h1 h2) h1 h2⟩
theorem KeepB.of_below {B b : Nat} {W X : World} (h : Below W.heap.size W X) (hn : B ≤ W.heap.size) : KeepB B b W X :=
  ⟨h.mono hn, fun j _ _ _ hj _ _ => (h.block j (Array.getElem?_eq_some_iff.1 hj).1).trans hj⟩
theorem KeepB.of_grown {B b n : Nat} {W W' : World} {v : Value} {xs : List Value} (hrow : W.ownsRow B 9 1 v n xs) (hg : W.grownBy W' v.ownBlock) (hn : B ≤ W.heap.size) : KeepB B b W W' := by
  have h := KeepT.of_grown hrow hg hn
  exact ⟨h.1, fun j c t fr hj h1 _ => h.2 j c t fr hj h1⟩
theorem KeepB.of_set {B b : Nat} {W : World} (hB : B ≤ b) (hW : B ≤ W.heap.size) (i : Nat) (u : Value) : KeepB B b W (W.setCell ⟨b, i, none⟩ u) := by
  have hg := grown_set W b i u
  refine ⟨⟨hg.os, hg.tape, hg.output, hg.size, fun k hk => hg.block k (by omega) (fun e => by cases e; omega)⟩, fun j c t fr hj _ h2 => ?_⟩
  exact (hg.block j (Array.getElem?_eq_some_iff.1 hj).1 (fun e => h2 (by cases e; rfl))).trans hj

set_option maxRecDepth 100000 in
set_option maxHeartbeats 4000000 in
theorem put_any (B b m : Nat) (ty : TypeId) (c : Array Value) (tv v : Value) (O L : List (List UInt8)) (w : World) (hb : w.heap[b]? = some (.cells c ty (0, 0))) (h0 : c[0]? = some tv) (hty : ty ≠ 9) (hBb : B ≤ b) (hO : w.ownsRow B 9 1 tv O.length (O.map txtV)) (hrow : RowLow m w v L) (hm : m ≤ B) (hOl : O.length + L.length ≤ 100000000) (hs : ∀ x ∈ L, x.length ≤ 281474976710656) :
    Calls Try.prog 38 #[.pointer (some ⟨b, 0, none⟩), v] w fun e w' => e = .returned (.tuple #[]) ∧ ∃ tv', w'.heap[b]? = some (.cells (c.setIfInBounds 0 tv') ty (0, 0)) ∧ w'.ownsRow B 9 1 tv' (O ++ L).length ((O ++ L).map txtV) ∧ KeepB B b w w' := by
  obtain ⟨ao, cap, b1, off, rfl, -, hao, hc⟩ := hrow.parts
  clear hrow
  obtain ⟨i0, hi, hz0, hz1, hz2⟩ := info_parts info9
  have hsz : c.size ≠ 0 := by
    intro e
    rw [Array.getElem?_eq_none (by omega)] at h0
    cases h0
  have HWB : Hid (B ≤ w.heap.size) := by
    have := (Array.getElem?_eq_some_iff.1 hb).1
    show B ≤ w.heap.size
    omega
  have hset : c = c.setIfInBounds 0 tv := by
    apply Array.ext_getElem?
    intro j
    rw [Array.getElem?_setIfInBounds]
    by_cases hj : 0 = j
    · subst hj; rw [if_pos rfl, if_pos (by omega), h0]
    · rw [if_neg hj]
  refine (callsIn_wide (n := 3)).1 ?_
  refine callsIn_of_wp Try.func38 rfl trivial ?_ rfl
  simp only [Try.ntmps38, List.size_toArray, List.length_cons, List.length_nil, Nat.reduceAdd, Nat.reduceSub, Array.replicate_succ, Array.replicate_zero, List.push_toArray, List.append_toArray, List.nil_append, List.cons_append]
  have HST : Hid (∃ tv', w.heap[b]? = some (.cells (c.setIfInBounds 0 tv') ty (0, 0)) ∧ w.ownsRow B 9 1 tv' (O ++ L.take 0).length ((O ++ L.take 0).map txtV)) := ⟨tv, by rw [← hset]; exact hb, by simpa using hO⟩
  have HC : Hid (_) := hc
  have HS : Hid (_) := hs
  clear hb h0 hO hset hc hs
  gi_wp2
  gi_loopw [8] (fun i wr => ∃ k : Nat, k ≤ L.length ∧ i = .int .i64 k ∧ (∃ tv', wr.heap[b]? = some (.cells (c.setIfInBounds 0 tv') ty (0, 0)) ∧ wr.ownsRow B 9 1 tv' (O ++ L.take k).length ((O ++ L.take k).map txtV)) ∧ KeepB B b w wr) (fun i _ => L.length - (intOf i).toNat)
  case atStart => exact ⟨0, Nat.zero_le _, rfl, HST.out, KeepB.refl _ _ _⟩
  case round =>
    clear HST
    obtain ⟨k, hk, rfl, ⟨tw, hh, ho⟩, hkb⟩ := hrel
    by_cases hlt : k < L.length
    · obtain ⟨x, hx⟩ : ∃ x, L[k]? = some x := ⟨L[k], List.getElem?_eq_getElem hlt⟩
      obtain ⟨rfl, hbm⟩ := hao (by omega)
      have hxs := HS.out x (List.mem_of_getElem? hx)
      have hszx : (Ln.bs x).size ≤ 281474976710656 := by rw [Ln.bs_size]; omega
      have hBw : B ≤ w.heap.size := HWB.out
      have g1 : wr.cell? ⟨b1, off + k, none⟩ = some (.string (Ln.bs x)) := (hkb.1.cell (p := ⟨b1, off + k, none⟩) (by show b1 < B; omega)).trans (HC.out k x hx)
      have cB : wr.cell? ⟨b, 0, none⟩ = some tw := by
        rw [Lib.cell_of_heap hh, Array.getElem?_setIfInBounds, if_pos rfl, if_pos (by omega)]
      obtain ⟨nl, hnl⟩ : ∃ nl, nl = (O ++ L.take k).length := ⟨_, rfl⟩
      have HNL : Hid (nl = (O ++ L.take k).length) := hnl
      have hnl2 : nl < 100000001 := by rw [hnl, List.length_append, List.length_take]; omega
      rw [← hnl] at ho
      obtain ⟨at7, c7, rfl⟩ := slice_shape ho
      clear hnl
      have hbl : b < wr.heap.size := (Array.getElem?_eq_some_iff.1 hh).1
      have hBr : B ≤ wr.heap.size := by omega
      have HX : Hid (_) := hx
      have HH : Hid (_) := hh
      have HO : Hid (_) := ho
      have HK : Hid (KeepB B b w wr) := hkb
      clear hx hh ho hkb
      have cB0 : wr.drew.cell? ⟨b, 0, none⟩ = some (.slice at7 nl c7) := cB
      gi_wp2
      refine region_lex (fun _ => True) 4 8 rfl (by kernel_rfl) (by kernel_rfl) (by kernel_rfl) (by kernel_rfl) (fun _ _ d _ _ h => by cases d <;> exact h) trivial ?_
      simp only [List.take_succ_cons, List.take_zero]
      iterate 4 (first
        | (apply lexC_want
           · rfl
           · exact fun _ => rfl
           · (intro w' hw'; go_simp; try rfl)
           simp only [Act.put, List.setIfInBounds_toArray, List.set_cons_zero, List.set_cons_succ])
        | (apply lexC_skip
           · rfl
           · exact fun _ => rfl
           simp only [Act.put, List.setIfInBounds_toArray, List.set_cons_zero, List.set_cons_succ]))
      refine lexC_nil ?_
      refine anyC_take (i := 5) (v := .string (Ln.bs x)) rfl rfl (by kernel_rfl) (by kernel_rfl) (by kernel_rfl) (fun _ _ d _ _ h => by cases d <;> exact h) trivial (by rfl) (fun _ => rfl) (by intro w' _; go_simp; try rfl) ?_
      simp only [Act.put, List.setIfInBounds_toArray]
      refine anyC_two (i := 4) (j := 6) (by kernel_rfl) rfl rfl (by rfl) (by rfl) (fun K1 hK1 => ?_) (fun K1 hK1 => ?_)
      · go_simp
        refine hK1 _ _ trivial ?_
        clear hK1
        refine anyC_one (i := 6) (by kernel_rfl) rfl (by rfl) (fun K2 hK2 => ?_)
        go_simp
        refine ⟨trivial, ?_⟩
        refine (callsIn_wide.2 (clone_any (Ln.bs x) _ hszx)).mono ?_
        rintro e w1 ⟨rfl, hb1⟩
        have bb1 : Below wr.heap.size wr w1 := (below_drewN (Below.refl _ wr) 1).trans hb1
        refine hK2 _ _ trivial ?_
        clear hK2 hb1
        refine anyC_one (i := 7) (by kernel_rfl) rfl (by rfl) (fun K3 hK3 => ?_)
        go_simp
        refine hK3 _ _ trivial ?_
        clear hK3
        obtain ⟨v', W', hrun, hown, hgr, -⟩ := run_append_own (P := Try.prog) (w1.alloc (.cells #[.string (Ln.bs x)] 9)) B 22 22 9 i0 (.string ⟨#[]⟩) 1 16 Try.underlying22 hi hz0 hz1 hz2 rfl (by decide) (.slice at7 nl c7) _ _ (owns_below HO.out (bb1.alloc bb1.size _)) ⟨w1.heap.size, 0, none⟩ 1 1 [.string (Ln.bs x)] rfl (cell_one_new _ _ _) (by simp [Value.oneCell']) (by unfold maxLen; omega) (by omega) (by have := bb1.size; simp; omega)
        obtain ⟨gv, cv, rfl⟩ := ownsRow_succ hown
        have hh1 : (w1.alloc (.cells #[.string (Ln.bs x)] 9)).heap[b]? = some (.cells (c.setIfInBounds 0 (.slice at7 nl c7)) ty (0, 0)) := ((bb1.alloc bb1.size _).block b hbl).trans HH.out
        have hh2 : W'.heap[b]? = some (.cells (c.setIfInBounds 0 (.slice at7 nl c7)) ty (0, 0)) := heap_grown (owns_below HO.out (bb1.alloc bb1.size _)) hgr hh1 hty
        have cB2 : W'.cell? ⟨b, 0, none⟩ = some (.slice at7 nl c7) := by
          rw [Lib.cell_of_heap hh2, Array.getElem?_setIfInBounds, if_pos rfl, if_pos (by omega)]
        have fB2 : W'.frozen? ⟨b, 0, none⟩ = false := frozen_of_row W' b 0 _ _ hh2
        have HFIN : Hid ((∃ tv', (W'.setCell ⟨b, 0, none⟩ (.slice (some ⟨gv, 0, none⟩) (nl + 1) cv)).heap[b]? = some (.cells (c.setIfInBounds 0 tv') ty (0, 0)) ∧ (W'.setCell ⟨b, 0, none⟩ (.slice (some ⟨gv, 0, none⟩) (nl + 1) cv)).ownsRow B 9 1 tv' (O ++ L.take (k + 1)).length ((O ++ L.take (k + 1)).map txtV)) ∧ KeepB B b w (W'.setCell ⟨b, 0, none⟩ (.slice (some ⟨gv, 0, none⟩) (nl + 1) cv))) := by
          refine ⟨⟨.slice (some ⟨gv, 0, none⟩) (nl + 1) cv, ?_, ?_⟩, HK.out.trans (((KeepB.of_below (bb1.alloc bb1.size _) hBr).trans (KeepB.of_grown (owns_below HO.out (bb1.alloc bb1.size _)) hgr (by have := bb1.size; simp; omega))).trans (KeepB.of_set hBb (by have := hgr.size; have := bb1.size; simp at *; omega) 0 _))⟩
          · have h9 := heap_setCell_same W' b 0 _ ty (.slice (some ⟨gv, 0, none⟩) (nl + 1) cv) hh2
            rw [Array.setIfInBounds_setIfInBounds] at h9
            exact h9
          · have h9 := owns_set hown hh2 hty 0 (.slice (some ⟨gv, 0, none⟩) (nl + 1) cv)
            have e9 : L.take (k + 1) = L.take k ++ [x] := by rw [List.take_add_one, HX.out]; rfl
            have e8 : (O ++ L.take (k + 1)).length = nl + 1 := by rw [e9, HNL.out]; simp; omega
            rw [e8, e9, ← List.append_assoc, List.map_append]
            exact h9
        clear hown hgr hh1 hh2 HO HH HK bb1
        refine anyC_one (i := 8) (by kernel_rfl) rfl (by rfl) (fun K4 hK4 => ?_)
        refine op_append _ _ 22 rfl _ _ _ _ rfl rfl hrun (hK4 _ _ trivial ?_)
        clear hK4
        refine anyC_one (i := 9) (by kernel_rfl) rfl (by rfl) (fun K5 hK5 => ?_)
        go_simp
        refine hK5 _ _ trivial ?_
        clear hK5
        refine anyC_one (i := 10) (by kernel_rfl) rfl (by rfl) (fun K6 hK6 => ?_)
        go_simp
        refine hK6 _ _ trivial ?_
        clear hK6
        refine anyC_one (i := 11) (by kernel_rfl) rfl (by rfl) (fun K7 hK7 => ?_)
        go_simp
        refine hK7 _ _ trivial ?_
        clear hK7
        refine anyC_done (by kernel_rfl) ?_
        gi_wp2
        go_roundw
        case rel => exact ⟨k + 1, by omega, by go_num, HFIN.out.1, HFIN.out.2⟩
        case measure => simp [intOf]; omega
      · go_simp
        refine ⟨trivial, ?_⟩
        refine (callsIn_wide.2 (clone_any (Ln.bs x) _ hszx)).mono ?_
        rintro e w1 ⟨rfl, hb1⟩
        have bb1 : Below wr.heap.size wr w1 := (below_drewN (Below.refl _ wr) 1).trans hb1
        have cB1 : w1.cell? ⟨b, 0, none⟩ = some (.slice at7 nl c7) := (bb1.cell (p := ⟨b, 0, none⟩) hbl).trans cB
        have cB3 : (w1.alloc (.cells #[.string (Ln.bs x)] 9)).cell? ⟨b, 0, none⟩ = some (.slice at7 nl c7) := ((bb1.alloc bb1.size _).cell (p := ⟨b, 0, none⟩) hbl).trans cB
        refine hK1 _ _ trivial ?_
        clear hK1 hb1
        refine anyC_two (i := 4) (j := 7) (by kernel_rfl) rfl rfl (by rfl) (by rfl) (fun K1 hK1 => ?_) (fun K1 hK1 => ?_)
        · go_simp
          refine hK1 _ _ trivial ?_
          clear hK1
          refine anyC_one (i := 7) (by kernel_rfl) rfl (by rfl) (fun K3 hK3 => ?_)
          go_simp
          refine hK3 _ _ trivial ?_
          clear hK3
          obtain ⟨v', W', hrun, hown, hgr, -⟩ := run_append_own (P := Try.prog) (w1.alloc (.cells #[.string (Ln.bs x)] 9)) B 22 22 9 i0 (.string ⟨#[]⟩) 1 16 Try.underlying22 hi hz0 hz1 hz2 rfl (by decide) (.slice at7 nl c7) _ _ (owns_below HO.out (bb1.alloc bb1.size _)) ⟨w1.heap.size, 0, none⟩ 1 1 [.string (Ln.bs x)] rfl (cell_one_new _ _ _) (by simp [Value.oneCell']) (by unfold maxLen; omega) (by omega) (by have := bb1.size; simp; omega)
          obtain ⟨gv, cv, rfl⟩ := ownsRow_succ hown
          have hh1 : (w1.alloc (.cells #[.string (Ln.bs x)] 9)).heap[b]? = some (.cells (c.setIfInBounds 0 (.slice at7 nl c7)) ty (0, 0)) := ((bb1.alloc bb1.size _).block b hbl).trans HH.out
          have hh2 : W'.heap[b]? = some (.cells (c.setIfInBounds 0 (.slice at7 nl c7)) ty (0, 0)) := heap_grown (owns_below HO.out (bb1.alloc bb1.size _)) hgr hh1 hty
          have cB2 : W'.cell? ⟨b, 0, none⟩ = some (.slice at7 nl c7) := by
            rw [Lib.cell_of_heap hh2, Array.getElem?_setIfInBounds, if_pos rfl, if_pos (by omega)]
          have fB2 : W'.frozen? ⟨b, 0, none⟩ = false := frozen_of_row W' b 0 _ _ hh2
          have HFIN : Hid ((∃ tv', (W'.setCell ⟨b, 0, none⟩ (.slice (some ⟨gv, 0, none⟩) (nl + 1) cv)).heap[b]? = some (.cells (c.setIfInBounds 0 tv') ty (0, 0)) ∧ (W'.setCell ⟨b, 0, none⟩ (.slice (some ⟨gv, 0, none⟩) (nl + 1) cv)).ownsRow B 9 1 tv' (O ++ L.take (k + 1)).length ((O ++ L.take (k + 1)).map txtV)) ∧ KeepB B b w (W'.setCell ⟨b, 0, none⟩ (.slice (some ⟨gv, 0, none⟩) (nl + 1) cv))) := by
            refine ⟨⟨.slice (some ⟨gv, 0, none⟩) (nl + 1) cv, ?_, ?_⟩, HK.out.trans (((KeepB.of_below (bb1.alloc bb1.size _) hBr).trans (KeepB.of_grown (owns_below HO.out (bb1.alloc bb1.size _)) hgr (by have := bb1.size; simp; omega))).trans (KeepB.of_set hBb (by have := hgr.size; have := bb1.size; simp at *; omega) 0 _))⟩
            · have h9 := heap_setCell_same W' b 0 _ ty (.slice (some ⟨gv, 0, none⟩) (nl + 1) cv) hh2
              rw [Array.setIfInBounds_setIfInBounds] at h9
              exact h9
            · have h9 := owns_set hown hh2 hty 0 (.slice (some ⟨gv, 0, none⟩) (nl + 1) cv)
              have e9 : L.take (k + 1) = L.take k ++ [x] := by rw [List.take_add_one, HX.out]; rfl
              have e8 : (O ++ L.take (k + 1)).length = nl + 1 := by rw [e9, HNL.out]; simp; omega
              rw [e8, e9, ← List.append_assoc, List.map_append]
              exact h9
          clear hown hgr hh1 hh2 HO HH HK bb1
          refine anyC_one (i := 8) (by kernel_rfl) rfl (by rfl) (fun K4 hK4 => ?_)
          refine op_append _ _ 22 rfl _ _ _ _ rfl rfl hrun (hK4 _ _ trivial ?_)
          clear hK4
          refine anyC_one (i := 9) (by kernel_rfl) rfl (by rfl) (fun K5 hK5 => ?_)
          go_simp
          refine hK5 _ _ trivial ?_
          clear hK5
          refine anyC_one (i := 10) (by kernel_rfl) rfl (by rfl) (fun K6 hK6 => ?_)
          go_simp
          refine hK6 _ _ trivial ?_
          clear hK6
          refine anyC_one (i := 11) (by kernel_rfl) rfl (by rfl) (fun K7 hK7 => ?_)
          go_simp
          refine hK7 _ _ trivial ?_
          clear hK7
          refine anyC_done (by kernel_rfl) ?_
          gi_wp2
          go_roundw
          case rel => exact ⟨k + 1, by omega, by go_num, HFIN.out.1, HFIN.out.2⟩
          case measure => simp [intOf]; omega
        · go_simp
          refine hK1 _ _ trivial ?_
          clear hK1
          refine anyC_one (i := 4) (by kernel_rfl) rfl (by rfl) (fun K3 hK3 => ?_)
          go_simp
          refine hK3 _ _ trivial ?_
          clear hK3
          obtain ⟨v', W', hrun, hown, hgr, -⟩ := run_append_own (P := Try.prog) (w1.alloc (.cells #[.string (Ln.bs x)] 9)) B 22 22 9 i0 (.string ⟨#[]⟩) 1 16 Try.underlying22 hi hz0 hz1 hz2 rfl (by decide) (.slice at7 nl c7) _ _ (owns_below HO.out (bb1.alloc bb1.size _)) ⟨w1.heap.size, 0, none⟩ 1 1 [.string (Ln.bs x)] rfl (cell_one_new _ _ _) (by simp [Value.oneCell']) (by unfold maxLen; omega) (by omega) (by have := bb1.size; simp; omega)
          obtain ⟨gv, cv, rfl⟩ := ownsRow_succ hown
          have hh1 : (w1.alloc (.cells #[.string (Ln.bs x)] 9)).heap[b]? = some (.cells (c.setIfInBounds 0 (.slice at7 nl c7)) ty (0, 0)) := ((bb1.alloc bb1.size _).block b hbl).trans HH.out
          have hh2 : W'.heap[b]? = some (.cells (c.setIfInBounds 0 (.slice at7 nl c7)) ty (0, 0)) := heap_grown (owns_below HO.out (bb1.alloc bb1.size _)) hgr hh1 hty
          have cB2 : W'.cell? ⟨b, 0, none⟩ = some (.slice at7 nl c7) := by
            rw [Lib.cell_of_heap hh2, Array.getElem?_setIfInBounds, if_pos rfl, if_pos (by omega)]
          have fB2 : W'.frozen? ⟨b, 0, none⟩ = false := frozen_of_row W' b 0 _ _ hh2
          have HFIN : Hid ((∃ tv', (W'.setCell ⟨b, 0, none⟩ (.slice (some ⟨gv, 0, none⟩) (nl + 1) cv)).heap[b]? = some (.cells (c.setIfInBounds 0 tv') ty (0, 0)) ∧ (W'.setCell ⟨b, 0, none⟩ (.slice (some ⟨gv, 0, none⟩) (nl + 1) cv)).ownsRow B 9 1 tv' (O ++ L.take (k + 1)).length ((O ++ L.take (k + 1)).map txtV)) ∧ KeepB B b w (W'.setCell ⟨b, 0, none⟩ (.slice (some ⟨gv, 0, none⟩) (nl + 1) cv))) := by
            refine ⟨⟨.slice (some ⟨gv, 0, none⟩) (nl + 1) cv, ?_, ?_⟩, HK.out.trans (((KeepB.of_below (bb1.alloc bb1.size _) hBr).trans (KeepB.of_grown (owns_below HO.out (bb1.alloc bb1.size _)) hgr (by have := bb1.size; simp; omega))).trans (KeepB.of_set hBb (by have := hgr.size; have := bb1.size; simp at *; omega) 0 _))⟩
            · have h9 := heap_setCell_same W' b 0 _ ty (.slice (some ⟨gv, 0, none⟩) (nl + 1) cv) hh2
              rw [Array.setIfInBounds_setIfInBounds] at h9
              exact h9
            · have h9 := owns_set hown hh2 hty 0 (.slice (some ⟨gv, 0, none⟩) (nl + 1) cv)
              have e9 : L.take (k + 1) = L.take k ++ [x] := by rw [List.take_add_one, HX.out]; rfl
              have e8 : (O ++ L.take (k + 1)).length = nl + 1 := by rw [e9, HNL.out]; simp; omega
              rw [e8, e9, ← List.append_assoc, List.map_append]
              exact h9
          clear hown hgr hh1 hh2 HO HH HK bb1
          refine anyC_one (i := 8) (by kernel_rfl) rfl (by rfl) (fun K4 hK4 => ?_)
          refine op_append _ _ 22 rfl _ _ _ _ rfl rfl hrun (hK4 _ _ trivial ?_)
          clear hK4
          refine anyC_one (i := 9) (by kernel_rfl) rfl (by rfl) (fun K5 hK5 => ?_)
          go_simp
          refine hK5 _ _ trivial ?_
          clear hK5
          refine anyC_one (i := 10) (by kernel_rfl) rfl (by rfl) (fun K6 hK6 => ?_)
          go_simp
          refine hK6 _ _ trivial ?_
          clear hK6
          refine anyC_one (i := 11) (by kernel_rfl) rfl (by rfl) (fun K7 hK7 => ?_)
          go_simp
          refine hK7 _ _ trivial ?_
          clear hK7
          refine anyC_done (by kernel_rfl) ?_
          gi_wp2
          go_roundw
          case rel => exact ⟨k + 1, by omega, by go_num, HFIN.out.1, HFIN.out.2⟩
          case measure => simp [intOf]; omega
    · have hkl : k = L.length := by omega
      have HE : Hid (∃ tv', wr.heap[b]? = some (.cells (c.setIfInBounds 0 tv') ty (0, 0)) ∧ wr.ownsRow B 9 1 tv' (O ++ L).length ((O ++ L).map txtV) ∧ KeepB B b w wr) := by
        rw [hkl, List.take_length] at ho
        exact ⟨_, hh, ho, hkb⟩
      clear hh ho hkb hkl
      gi_wp2
      go_end0
      exact ⟨rfl, HE.out⟩

end Go.Proofs.Ytkiafelpgcmifaa
