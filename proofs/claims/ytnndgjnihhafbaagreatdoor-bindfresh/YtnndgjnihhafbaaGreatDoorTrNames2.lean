/-
  The walk of tree.Names, whole.
-/
import Derived.Test.YtnndgjnihhafbaaGreatDoorTrNames
namespace Go.Proofs.YtnndgjnihhafbaaGreatDoor
open Go.RowKit Go.Shelf

attribute [local go_sem] Oper.semAt_some

namespace Tr
mutual
theorem names_sub : ∀ (x : Tr) (s : List UInt8), s ∈ x.names → s ∈ x.texts
  | .mk k t n l, s, h => by
    rw [names_eq, List.mem_append] at h
    rw [texts_eq]
    rcases h with h | h
    · unfold own at h
      split at h
      · rw [List.mem_singleton] at h; subst h; exact List.mem_cons_self
      · cases h
    · exact List.mem_cons_of_mem _ (names_subL l s h)
theorem names_subL : ∀ (l : List Tr) (s : List UInt8), s ∈ namesL l → s ∈ textsL l
  | [], s, h => by rw [namesL_nil] at h; cases h
  | x :: l, s, h => by
    rw [namesL_cons, List.mem_append] at h
    rw [textsL_cons, List.mem_append]
    rcases h with h | h
    · exact .inl (names_sub x s h)
    · exact .inr (names_subL l s h)
end
end Tr
theorem names_texts (l : List Tr) (s : List UInt8) (h : s ∈ Tr.namesL l) : s ∈ Tr.textsL l := Tr.names_subL l s h
theorem heap_same_set {w : World} {b o : Nat} {c : Array Value} {ty : TypeId} {u : Value} (h : w.heap[b]? = some (.cells c ty (0, 0))) (hu : c[o]? = some u) : ∀ k : Nat, (w.setCell ⟨b, o, none⟩ u).heap[k]? = w.heap[k]? := by
  intro k
  by_cases e : k = b
  · subst e
    rw [heap_setCell_same w k o _ ty u h, h]
    congr 2
    apply Array.ext_getElem?
    intro j
    rw [Array.getElem?_setIfInBounds]
    by_cases hj : o = j
    · subst hj; rw [if_pos rfl, if_pos (Array.getElem?_eq_some_iff.1 hu).1, hu]
    · rw [if_neg hj]
  · exact set_other e

/-- Where the names stand, while they are copied. -/
structure NamesAt (w : World) (M : List (List UInt8)) (v : Value) (wr : World) : Prop where
  below : Below w.heap.size w wr
  box : wr.heap[w.heap.size]? = some (.cells #[v] 54 (0, 0))
  row : wr.ownsRow (w.heap.size + 1) 9 1 v M.length (M.map txtV)

set_option maxRecDepth 100000 in
set_option maxHeartbeats 4000000 in
theorem names_any (ts : List Tr) (v : Value) (w : World) (hv : RowR (lowS w.heap.size) w v ts) (ht : Tr.Bd ts) :
    Calls Tryz.prog 28 #[v] w fun e w' => ∃ r, e = .returned r ∧ w'.ownsRow w.heap.size 9 1 r (Nm.uniq (Tr.namesL ts)).length ((Nm.uniq (Tr.namesL ts)).map txtV) ∧ Below w.heap.size w w' := by
  obtain ⟨A1, h1⟩ : ∃ A, A = w.alloc (.cells #[.slice none 0 0] 54) := ⟨_, rfl⟩
  have s1 : A1.heap.size = w.heap.size + 1 := by rw [h1, World.size_alloc]
  have n1 := World.alloc_heap_new w (.cells #[.slice none 0 0] 54)
  rw [← h1] at n1
  have b1 : Below w.heap.size w A1 := h1 ▸ below_new w _
  have htx : ∀ s ∈ Tr.namesL ts, s.length ≤ 1000000 := fun s hs => ht.2 s (names_texts ts s hs)
  have D := names_doing (lowS w.heap.size) w.heap.size (w.heap.size + 1) (Tr.sizes ts) A1.heap.size (Tr.namesL ts) A1 (fun b hb => by have : b < w.heap.size := hb; omega) (by omega) (by omega) (Nat.le_refl _) (by have := ht.1; omega)
  have I0 : NamesInv (lowS w.heap.size) w.heap.size (w.heap.size + 1) (Tr.sizes ts) (Tr.namesL ts) A1 [⟨v, 0, ts⟩] A1 := by
    refine ⟨fun _ _ => rfl, Nat.le_refl _, ⟨rfl, rfl, rfl⟩, fun j hj => ?_, ⟨.slice none 0 0, [], n1, ⟨rfl, .inl ⟨rfl, rfl⟩⟩, fun s => by simp [namesJ], by simp [left], by simp⟩, fun s hs => htx s (by simpa [namesJ] using hs)⟩
    rw [List.mem_singleton] at hj
    subst hj
    exact ⟨ts, hv.keep (fun b hb => b1.block b hb) (fun _ h => h), rfl, Nat.zero_le _⟩
  have HE : Hid (_) := each_any v ts A1 D (fun _ _ => rfl) I0 (by have := ht.1; omega)
  obtain ⟨va, vc, hvv⟩ := hv.slice
  have HW : Hid (Below w.heap.size w A1 ∧ A1.heap.size = w.heap.size + 1 ∧ Tr.sizes ts ≤ 100000) := ⟨b1, s1, ht.1⟩
  clear D I0 n1 b1 s1 hv ht htx
  subst hvv
  obtain ⟨N, hN⟩ : ∃ N, N = ts.length := ⟨_, rfl⟩
  rw [← hN] at HE ⊢
  clear hN
  obtain ⟨U, hU⟩ : ∃ U, U = Nm.uniq (Tr.namesL ts) := ⟨_, rfl⟩
  have HU : Hid (U = Nm.uniq (Tr.namesL ts)) := hU
  rw [← hU]
  clear hU
  refine (callsIn_wide (n := 3)).1 ?_
  refine callsIn_of_wp Tryz.func28 rfl trivial ?_ rfl
  simp only [Tryz.ntmps28, List.size_toArray, List.length_cons, List.length_nil, Nat.reduceAdd, Nat.reduceSub, Array.replicate_succ, Array.replicate_zero, List.push_toArray, List.append_toArray, List.nil_append, List.cons_append]
  gi_wp2
  rw [← h1]
  clear h1
  refine ⟨trivial, ?_⟩
  refine (callsIn_wide.2 HE.out).mono ?_
  rintro e w1 ⟨rfl, q1, q2, q3, -, ⟨lv, L, q5, q6, q7, q8, q10⟩, -⟩
  have hmem : ∀ s, s ∈ L ↔ s ∈ Tr.namesL ts := fun s => by rw [← q7 s]; simp [namesJ]
  have hu : U = Nm.uniq L := HU.out.trans (Nm.uniq_ext hmem).symm
  have hbw : Below w.heap.size w w1 := by
    have := HW.out.1
    exact ⟨q3.1.trans this.os, q3.2.1.trans this.tape, q3.2.2.trans this.output, Nat.le_trans this.size q2, fun b hb => (q1 b hb).trans (this.block b hb)⟩
  have hLl : L.length ≤ 1000000 := by have := HW.out.2.2; simp [left] at q8; omega
  have cB : w1.cell? ⟨w.heap.size, 0, none⟩ = some lv := cells_at q5 rfl
  obtain ⟨la, lc, rfl⟩ := slice_shape q6
  have hUs : ∀ s ∈ U, s.length ≤ 1000000 := fun s hs => q10 s ((Nm.uniq_mem L s).1 (hu ▸ hs))
  have hUl : U.length ≤ 1000000 := by rw [hu]; have := Nm.uniq_len L; omega
  have HUS : Hid (_) := hUs
  -- what stands behind the two calls
  have HTWO : Hid (∃ (P1 : Ending → World → Prop), Calls Tryz.prog 52 #[.slice la L.length lc] w1 (fun e w2 => e = .returned (.tuple #[]) ∧ w2.cell? ⟨w.heap.size, 0, none⟩ = some (.slice la L.length lc) ∧ Calls Tryz.prog 53 #[.slice la L.length lc] w2 (fun e w3 => ∃ v3, e = .returned v3 ∧ (∃ a c, v3 = .slice a U.length c) ∧ w3.cell? ⟨w.heap.size, 0, none⟩ = some (.slice la L.length lc) ∧ w3.frozen? ⟨w.heap.size, 0, none⟩ = false ∧ NamesAt w U v3 (w3.setCell ⟨w.heap.size, 0, none⟩ v3))) ∧ P1 = fun _ _ => True) := by
    refine ⟨_, ?_, rfl⟩
    have hltb : w.heap.size < w1.heap.size := (Array.getElem?_eq_some_iff.1 q5).1
    cases hL : L with
    | nil =>
      subst hL
      have hu0 : U = [] := by rw [hu]; exact List.length_eq_zero_iff.1 (Nat.le_zero.1 (Nm.uniq_len []))
      refine (sort_none la lc w1).mono ?_
      rintro e w2 ⟨rfl, rfl⟩
      refine ⟨rfl, cB, (compact_none la lc w2).mono ?_⟩
      rintro e w3 ⟨rfl, rfl⟩
      refine ⟨_, rfl, ⟨la, lc, by rw [hu0]; rfl⟩, cB, frozen_of_row w3 _ 0 _ _ q5, ?_⟩
      have hsame := heap_same_set q5 (o := 0) (u := .slice la 0 lc) rfl
      have hg := grown_set w3 w.heap.size 0 (.slice la 0 lc)
      refine ⟨⟨hg.os.trans hbw.os, hg.tape.trans hbw.tape, hg.output.trans hbw.output, Nat.le_trans hbw.size hg.size, fun b hb => (hsame b).trans (hbw.block b hb)⟩, (hsame _).trans q5, ?_⟩
      rw [hu0]
      exact owns_set q6 q5 (by decide) 0 _
    | cons y r =>
      rw [← hL]
      have hne : L ≠ [] := by rw [hL]; simp
      rcases q6.2 with ⟨_, h0⟩ | ⟨g, cap, cur, hv, hbase, hgb, m1, m2, m3, m4⟩
      · exact absurd (List.length_eq_zero_iff.1 h0) hne
      cases hv
      refine (sorted_two g lc (w.heap.size + 1) L w1 hLl q6).mono ?_
      rintro e w2 ⟨rfl, k1, -, hc⟩
      have hne9 : w.heap.size ≠ g := by omega
      have hb2 : w2.heap[w.heap.size]? = some (.cells #[.slice (some ⟨g, 0, none⟩) L.length lc] 54 (0, 0)) := (k1 _ hne9 hltb).trans q5
      refine ⟨rfl, cells_at hb2 rfl, hc.mono ?_⟩
      rintro e w3 ⟨rfl, k2, k3, ho⟩
      have hb3 : w3.heap[w.heap.size]? = some (.cells #[.slice (some ⟨g, 0, none⟩) L.length lc] 54 (0, 0)) := (k2 _ hne9 hltb).trans q5
      rw [← hu] at ho ⊢
      refine ⟨_, rfl, ⟨_, _, rfl⟩, cells_at hb3 rfl, frozen_of_row w3 _ 0 _ _ hb3, ?_⟩
      have hg := grown_set w3 w.heap.size 0 (.slice (some ⟨g, 0, none⟩) U.length lc)
      refine ⟨⟨hg.os.trans (k3.2.1.trans hbw.os), hg.tape.trans (k3.2.2.1.trans hbw.tape), hg.output.trans (k3.2.2.2.trans hbw.output), Nat.le_trans hbw.size (Nat.le_trans k3.1 hg.size), fun b hb => ?_⟩, heap_setCell_same w3 _ 0 _ _ _ hb3, owns_set ho hb3 (by decide) 0 _⟩
      rw [set_other (by omega), k2 b (by omega) (by omega)]
      exact hbw.block b hb
  obtain ⟨-, HS, -⟩ := HTWO.out
  have HSO : Hid (_) := HS
  obtain ⟨K, hK⟩ : ∃ K, K = L.length := ⟨_, rfl⟩
  rw [← hK] at cB HSO
  clear HS HTWO q1 q2 q3 q5 q6 q7 q8 q10 hmem hu hbw hLl hUs hK HE HU
  gi_wp2
  refine ⟨trivial, ?_⟩
  refine (callsIn_wide.2 HSO.out).mono ?_
  rintro e w2 ⟨rfl, cB2, hc⟩
  have HCO : Hid (_) := hc
  clear hc HSO cB
  gi_wp2
  refine ⟨trivial, ?_⟩
  refine (callsIn_wide.2 HCO.out).mono ?_
  rintro e w3 ⟨v3, rfl, ⟨ua, uc, rfl⟩, cB3, fB3, hat⟩
  obtain ⟨W4, hW4⟩ : ∃ W, W = w3.setCell ⟨w.heap.size, 0, none⟩ (.slice ua U.length uc) := ⟨_, rfl⟩
  rw [← hW4] at hat
  have HAT : Hid (NamesAt w U (.slice ua U.length uc) W4) := hat
  have c4 : W4.cell? ⟨w.heap.size, 0, none⟩ = some (.slice ua U.length uc) := cells_at hat.box rfl
  obtain ⟨Q, hQ⟩ : ∃ Q, Q = U.length := ⟨_, rfl⟩
  have HQ : Hid (Q = U.length) := hQ
  rw [← hQ] at c4 HAT hUl
  rw [← hQ] at hW4 ⊢
  rw [hW4] at c4
  clear hat HCO cB2 hQ
  gi_wp2
  rw [← hW4]
  clear c4 hW4 cB3 fB3
  gi_loopw [15] (fun i wr => ∃ k : Nat, k ≤ Q ∧ i = .int .i64 k ∧ NamesAt w U (.slice ua Q uc) wr) (fun i _ => Q - (intOf i).toNat)
  case atStart => exact ⟨0, Nat.zero_le _, rfl, HAT.out⟩
  case round =>
    clear HAT
    obtain ⟨k, hk, rfl, hat⟩ := hrel
    have c4 : wr.cell? ⟨w.heap.size, 0, none⟩ = some (.slice ua Q uc) := cells_at hat.box rfl
    by_cases hlt : k < Q
    · obtain ⟨y, hy⟩ : ∃ y, U[k]? = some y := ⟨U[k]'(by have := HQ.out; omega), List.getElem?_eq_getElem _⟩
      have hys : (Ln.bs y).size ≤ 281474976710656 := by rw [Ln.bs_size]; have := HUS.out y (List.mem_of_getElem? hy); omega
      rcases hat.row.2 with ⟨_, h0⟩ | ⟨g, cap, cur, hv, hbase, hgb, m1, m2, m3, m4⟩
      · have := HQ.out; omega
      have hua : ua = some ⟨g, 0, none⟩ := by cases hv; rfl
      subst hua
      clear hv
      have hcur : cur[k]? = some (.string (Ln.bs y)) := by
        have h9 : (U.map txtV)[k]? = some (.string (Ln.bs y)) := by rw [List.getElem?_map, hy]; rfl
        rw [← m4, List.getElem?_take] at h9
        split at h9
        · rwa [Array.getElem?_toList] at h9
        · cases h9
      have cg : wr.cell? ⟨g, k, none⟩ = some (.string (Ln.bs y)) := cells_at hgb hcur
      have c4d : wr.drew.cell? ⟨w.heap.size, 0, none⟩ = some (.slice (some ⟨g, 0, none⟩) Q uc) := c4
      have HA : Hid (NamesAt w U (.slice (some ⟨g, 0, none⟩) Q uc) wr ∧ wr.heap[g]? = some (.cells cur 9 (0, 0)) ∧ cur[k]? = some (.string (Ln.bs y))) := ⟨hat, hgb, hcur⟩
      clear hat hgb hcur m1 m2 m3 m4 hy
      gi_wp2
      refine region_lex (fun z => z.cell? ⟨w.heap.size, 0, none⟩ = some (.slice (some ⟨g, 0, none⟩) Q uc)) 3 3 rfl (by kernel_rfl) (by kernel_rfl) (by kernel_rfl) (by kernel_rfl) (fun _ _ d _ _ h => by cases d <;> exact h) c4d ?_
      simp only [List.take_succ_cons, List.take_zero]
      iterate 3 (first
        | (apply lexC_want
           · rfl
           · exact fun _ => rfl
           · (intro w' hw'; go_simp; try rfl)
           simp only [Act.put, List.setIfInBounds_toArray, List.set_cons_zero, List.set_cons_succ]))
      refine lexC_nil ?_
      refine anyC_one (i := 3) (by kernel_rfl) rfl (by rfl) (fun K1 hK1 => ?_)
      go_simp
      refine ⟨trivial, ?_⟩
      refine (callsIn_wide.2 (clone_any (Ln.bs y) _ hys)).mono ?_
      rintro e w5 ⟨rfl, hb5⟩
      have b5 : Below wr.heap.size wr w5 := (below_draw wr 1).trans hb5
      have h5g : w5.heap[g]? = some (.cells cur 9 (0, 0)) := (b5.block g (Array.getElem?_eq_some_iff.1 HA.out.2.1).1).trans HA.out.2.1
      have h5b : w5.heap[w.heap.size]? = some (.cells #[.slice (some ⟨g, 0, none⟩) Q uc] 54 (0, 0)) := (b5.block _ (Array.getElem?_eq_some_iff.1 HA.out.1.box).1).trans HA.out.1.box
      have c5 : w5.cell? ⟨w.heap.size, 0, none⟩ = some (.slice (some ⟨g, 0, none⟩) Q uc) := cells_at h5b rfl
      have g5 : w5.cell? ⟨g, k, none⟩ = some (.string (Ln.bs y)) := cells_at h5g HA.out.2.2
      have f5 : w5.frozen? ⟨g, k, none⟩ = false := frozen_of_row w5 g _ _ _ h5g
      have hsame := heap_same_set h5g HA.out.2.2
      have HN : Hid (NamesAt w U (.slice (some ⟨g, 0, none⟩) Q uc) (w5.setCell ⟨g, k, none⟩ (.string (Ln.bs y)))) := by
        have hg := grown_set w5 g k (.string (Ln.bs y))
        have hbb := below_then HA.out.1.below b5
        refine ⟨⟨hg.os.trans hbb.os, hg.tape.trans hbb.tape, hg.output.trans hbb.output, Nat.le_trans hbb.size hg.size, fun b hb => (hsame b).trans (hbb.block b hb)⟩, (hsame _).trans h5b, owns_type_keep (owns_below HA.out.1.row b5) (fun b c fr hb => (hsame b).trans hb)⟩
      have c6 : (w5.setCell ⟨g, k, none⟩ (.string (Ln.bs y))).cell? ⟨w.heap.size, 0, none⟩ = some (.slice (some ⟨g, 0, none⟩) Q uc) := cells_at HN.out.box rfl
      clear hb5 b5 h5g h5b hsame HA
      refine hK1 _ _ c5 ?_
      clear hK1
      refine anyC_one (i := 4) (by kernel_rfl) rfl (by rfl) (fun K9 hK9 => ?_)
      go_simp
      refine hK9 _ _ c5 ?_
      clear hK9
      refine anyC_one (i := 5) (by kernel_rfl) rfl (by rfl) (fun K2 hK2 => ?_)
      go_simp
      refine hK2 _ _ c6 ?_
      clear hK2
      refine anyC_done (by kernel_rfl) ?_
      gi_wp2
      refine ⟨⟨k + 1, by omega, by simp, HN.out⟩, by simp [intOf]; omega⟩
    · have HA : Hid (NamesAt w U (.slice ua Q uc) wr) := hat
      clear hat
      gi_wp2
      go_ret
      refine ⟨_, rfl, owns_base ?_ (Nat.le_succ _), HA.out.below⟩
      exact HA.out.row
end Go.Proofs.YtnndgjnihhafbaaGreatDoor
