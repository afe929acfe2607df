/-
  The walk of the closure of through that calls itself, over pairs of rows.
-/
import Derived.Test.YtgdgaapkfbddkaaTrPairVisit
import Derived.Maps.AppendAt
namespace Go.Proofs.Ytgdgaapkfbddkaa
open Go.RowKit Go.Shelf

attribute [local go_sem] Oper.semAt_some

theorem cell_two_new (w : World) (x y : Value) (t : TypeId) : ∀ j u, [x, y][j]? = some u → (w.alloc (.cells #[x, y] t)).cell? ((⟨w.heap.size, 0, none⟩ : Addr).add j) = some u := by
  intro j u hj
  have hn := World.alloc_heap_new w (.cells #[x, y] t)
  rw [show (⟨w.heap.size, 0, none⟩ : Addr).add j = ⟨w.heap.size, j, none⟩ from by cases j <;> simp [Addr.add]]
  match j, hj with
  | 0, h => exact cells_at hn (by simpa using h)
  | 1, h => exact cells_at hn (by simpa using h)
  | j + 2, h => simp at h

set_option maxRecDepth 100000 in
set_option maxHeartbeats 4000000 in
theorem downP (S : Nat → Prop) (total : Bool) (w0 : World) (n sb b0 b2 b3 b4 : Nat) (N : Nat) :
    ∀ la : List Tr, Tr.sizes la ≤ N → DownP S total w0 n sb b0 b2 b3 b4 la := by
  induction N using Nat.strongRecOn with
  | _ N ih =>
  intro la hts d B ex W P va vb lb w hd hW htp hi
  have HV : Hid (_) := visitP S total w0 n sb b0 b2 b3 b4 la (fun la' h => ih (Tr.sizes la') (by omega) la' (Nat.le_refl _))
  clear ih
  obtain ⟨hra, hrb⟩ := hi.jobs _ List.mem_cons_self
  obtain ⟨aa, ac, hva⟩ := hra.slice
  obtain ⟨ba, bc, hvb⟩ := hrb.slice
  simp only at hva hvb
  subst hva
  subst hvb
  clear hra hrb
  obtain ⟨L, hL⟩ : ∃ L, L = la.length := ⟨_, rfl⟩
  obtain ⟨L', hL'⟩ : ∃ L, L = lb.length := ⟨_, rfl⟩
  rw [← hL, ← hL'] at hi ⊢
  clear hL hL'
  have hnw := htp.nw
  have hn2 := htp.n0.2.1
  obtain ⟨X, hX⟩ : ∃ X, X = w.alloc (.cells #[.slice aa L ac, .slice ba L' bc] 62) := ⟨_, rfl⟩
  have bX : Below w.heap.size w X := hX ▸ below_new w _
  have sX : X.heap.size = w.heap.size + 1 := by rw [hX, World.size_alloc]
  have hXn : X.heap[w.heap.size]? = some (.cells #[.slice aa L ac, .slice ba L' bc] 62 (0, 0)) := by rw [hX]; exact World.alloc_heap_new w _
  have tX := htp.of_below bX
  have iX := hi.stab (KeepQ.of_below bX hnw)
  have cD : X.cell? ⟨b3, 0, none⟩ = some (.int .i64 d) := cells_at tX.deep rfl
  have fD : X.frozen? ⟨b3, 0, none⟩ = false := frozen_of_row X b3 0 _ _ tX.deep
  have HW : Hid (_) := hW
  clear hi hW
  refine (callsIn_wide (n := 3)).1 ?_
  refine callsIn_of_wp Try.func64 rfl trivial ?_ rfl
  simp only [Try.ntmps64, List.size_toArray, List.length_cons, List.length_nil, Nat.reduceAdd, Nat.reduceSub, Array.replicate_succ, Array.replicate_zero, List.push_toArray, List.append_toArray, List.nil_append, List.cons_append]
  by_cases h40 : d = 40
  · subst h40
    have x0 : X.cell? ⟨w.heap.size, 0, none⟩ = some (.slice aa L ac) := cells_at hXn rfl
    have x1 : X.cell? ⟨w.heap.size, 1, none⟩ = some (.slice ba L' bc) := cells_at hXn rfl
    obtain ⟨X2, hX2⟩ : ∃ X2, X2 = X.alloc (.cells #[.slice aa L ac, .slice ba L' bc] 62) := ⟨_, rfl⟩
    have bX2 : Below X.heap.size X X2 := hX2 ▸ below_new X _
    have tX2 := tX.of_below bX2
    have hnw2 : n ≤ X2.heap.size := tX2.nw
    have hcn : ∀ j u, [Value.slice aa L ac, Value.slice ba L' bc][j]? = some u → X2.cell? ((⟨w.heap.size + 1, 0, none⟩ : Addr).add j) = some u := by
      rw [hX2, ← sX]; exact cell_two_new X _ _ _
    obtain ⟨hn, h2, h3, h4, ⟨wv, hb2, hown, h8⟩, h9⟩ := tX2
    obtain ⟨at7, c7, rfl⟩ := slice_shape hown
    obtain ⟨i0, hi0, hz0, hz1, hz2⟩ := info_parts info_pair
    obtain ⟨v', W', hrun, hown', hgr, -, hat⟩ := run_append_own_at (P := Try.prog) X2 n 80 80 62 i0 (.agg #[.slice none 0 0, .slice none 0 0]) 2 48 Try.underlying80 hi0 hz0 hz1 hz2 rfl (by decide) (.slice at7 W.length c7) _ _ hown ⟨w.heap.size + 1, 0, none⟩ 1 1 [.slice aa L ac, .slice ba L' bc] rfl hcn (by simp [Value.oneCell']) (by have := HW.out; unfold maxLen; omega) (by have := HW.out; omega) hnw2
    obtain ⟨gv, cv, rfl⟩ := ownsRow_succ hown'
    have kW : KeepQ n X W' := (KeepQ.of_below bX2 tX.nw).trans (KeepQ.of_grown hown hgr hnw2)
    have up : ∀ {b : Nat} {c : Array Value} {t : TypeId}, X2.heap[b]? = some (.cells c t (0, 0)) → t ≠ 62 → W'.heap[b]? = some (.cells c t (0, 0)) := fun h ht => heap_grown hown hgr h ht
    have hb2' := up hb2 (by decide)
    have hbX : X.heap[b2]? = some (.cells #[.slice at7 W.length c7] 80 (0, 0)) := by
      obtain ⟨v9, h9', -, -⟩ := tX.wait
      rw [← bX2.block b2 (Array.getElem?_eq_some_iff.1 h9').1]; exact hb2
    have cW : X.cell? ⟨b2, 0, none⟩ = some (.slice at7 W.length c7) := cells_at hbX rfl
    have tW : TP n sb b0 b2 b3 b4 40 B (W ++ [⟨.slice aa L ac, .slice ba L' bc, la, lb⟩]) (W'.setCell ⟨b2, 0, none⟩ (.slice (some ⟨gv, 0, none⟩) (W.length + 1) cv)) := by
      refine ⟨hn, heap_set_ne (up h2 (by decide)) hb2' (by decide) _ _, heap_set_ne (up h3 (by decide)) hb2' (by decide) _ _, heap_set_ne (up h4 (by decide)) hb2' (by decide) _ _, ⟨_, heap_setCell_same W' b2 0 _ _ _ hb2', ?_, fun p hp => ?_⟩, fun p hp => ⟨(h9 p hp).1, heap_set_ne ((hgr.block p.1 (Array.getElem?_eq_some_iff.1 (h9 p hp).2).1 (fun e => h8 p hp e.symm)).trans (h9 p hp).2) hb2' (by decide) _ _⟩⟩
      · have := owns_set hown' hb2' (by decide) 0 (.slice (some ⟨gv, 0, none⟩) (W.length + 1) cv)
        rw [List.length_append, pcells_append]
        exact this
      · rcases hat with e | e
        · rw [e]; exact h8 p hp
        · rw [e]
          intro e'
          have e2 := (Array.getElem?_eq_some_iff.1 (h9 p hp).2).1
          have : X2.heap.size = p.1 := Option.some.inj e'
          omega
    have cW' : W'.cell? ⟨b2, 0, none⟩ = some (.slice at7 W.length c7) := cells_at hb2' rfl
    have fW' : W'.frozen? ⟨b2, 0, none⟩ = false := frozen_of_row W' b2 0 _ _ hb2'
    have iW : PInv S sb n total ex w0 ([⟨.slice aa L ac, .slice ba L' bc, la, lb⟩] ++ P) (W'.setCell ⟨b2, 0, none⟩ (.slice (some ⟨gv, 0, none⟩) (W.length + 1) cv)) := iX.stab (kW.trans (KeepQ.of_set hn2 0 _))
    have HF : Hid (_) := And.intro tW iW
    obtain ⟨M, hM⟩ : ∃ M, M = W.length := ⟨_, rfl⟩
    rw [← hM] at cW hrun HF cW'
    rw [hX2] at hrun
    rw [hX] at hrun cW x0 x1 cD fD
    clear hM tW iW kW hown' hgr bX hb2' hbX hb2 hown hi0 hz0 hz1 hz2 htp tX iX up h2 h3 h4 h8 h9 hat hcn bX2 hX2 hXn sX hX hn
    gi_wp2_with (gi_at_builtin; refine list_append rfl _ _ 80 rfl (.slice at7 M c7) (.slice (some ⟨w.heap.size + 1, 0, none⟩) 1 1) _ _ rfl rfl hrun ?_)
    refine bodyPost_ret (results_none rfl _ _ _) rfl ?_
    refine ⟨rfl, [⟨.slice aa L ac, .slice ba L' bc, la, lb⟩], HF.out.1, HF.out.2, by simp [muP]⟩
  · have hd40 : ((d : Int) == 40) = false := by simp; omega
    have hd40' : decide ((d : Int) = 40) = false := by simp; omega
    have kS : KeepQ n X (X.setCell ⟨b3, 0, none⟩ (.int .i64 ((d + 1 : Nat) : Int))) := KeepQ.of_set htp.n0.2.2.1 0 _
    have tS := tX.setDeep (d + 1)
    have HC : Hid (_) := HV.out d B ex W P _ _ lb _ (by omega) HW.out tS (iX.stab kS)
    have cV := cells_at (o := 0) tS.vis rfl
    have cN := cells_at (o := 0) tS.dwn rfl
    have hXs := heap_set_ne hXn tX.deep (by decide) 0 (.int .i64 ((d + 1 : Nat) : Int))
    have x0 := cells_at (o := 0) hXs rfl
    have x1 := cells_at (o := 1) hXs rfl
    have ed : ((d + 1 : Nat) : Int) = (d : Int) + 1 := by simp
    obtain ⟨Y, hY⟩ : ∃ Y, Y = X.setCell ⟨b3, 0, none⟩ (.int .i64 ((d : Int) + 1)) := ⟨_, rfl⟩
    rw [ed] at HC cV cN x0 x1
    rw [← hY] at HC
    rw [hX] at cV cN x0 x1 hY cD fD
    clear HV kS tS htp ed tX iX hXs hXn bX sX hX hn2
    gi_wp2
    rw [← hY]
    refine ⟨trivial, ?_⟩
    refine (callsIn_wide.2 HC.out).mono ?_
    rintro e w1 ⟨rfl, Q, tw1, hi1, hmu⟩
    have cD1 : w1.cell? ⟨b3, 0, none⟩ = some (.int .i64 ((d : Int) + 1)) := by
      rw [Lib.cell_of_heap tw1.deep]; simp
    have fD1 : w1.frozen? ⟨b3, 0, none⟩ = false := frozen_of_row w1 b3 0 _ _ tw1.deep
    have HF : Hid (TP n sb b0 b2 b3 b4 d B (W ++ Q) (w1.setCell ⟨b3, 0, none⟩ (.int .i64 d)) ∧ PInv S sb n total ex w0 (Q ++ P) (w1.setCell ⟨b3, 0, none⟩ (.int .i64 d))) := ⟨tw1.setDeep d, hi1.stab (KeepQ.of_set tw1.n0.2.2.1 0 _)⟩
    clear tw1 hi1 HC cV cN x0 x1 hY cD fD
    gi_wp2
    go_end0
    refine ⟨rfl, Q, HF.out.1, HF.out.2, ?_⟩
    exact hmu
end Go.Proofs.Ytgdgaapkfbddkaa
