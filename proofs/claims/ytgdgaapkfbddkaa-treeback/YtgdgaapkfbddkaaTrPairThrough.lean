/-
  The walks of through over pairs of rows, and of Same.
-/
import Derived.Test.YtgdgaapkfbddkaaTrPairDown
namespace Go.Proofs.Ytgdgaapkfbddkaa
open Go.RowKit Go.Shelf

attribute [local go_sem] Oper.semAt_some

theorem owns_prefix2 {W : World} {base e g n cap k : Nat} {xs : List Value} (h : W.ownsRow base e 2 (.slice (some ⟨g, 0, none⟩) n cap) n xs) (hk : k ≤ n) : W.ownsRow base e 2 (.slice (some ⟨g, 0, none⟩) k cap) k (xs.take (k * 2)) := by
  have hl := h.1
  rcases h.2 with ⟨e1, _⟩ | ⟨g', cap', cur, e1, hb, hg, hnc, hcm, hcs, ht⟩
  · cases e1
  · injection e1 with e1 _ e3
    injection e1 with e1
    injection e1 with e1 _ _
    subst e1 e3
    refine ⟨by simp; omega, .inr ⟨g, cap, cur, rfl, hb, hg, by omega, hcm, hcs, ?_⟩⟩
    rw [← ht, List.take_take]
    congr 1
    omega

set_option maxRecDepth 100000 in
set_option maxHeartbeats 4000000 in
theorem throughP (S : Nat → Prop) (total : Bool) (w0 : World) (n sb : Nat) (va vb : Value) (la lb : List Tr) (w : World) (hnw : n ≤ w.heap.size)
    (hi : PInv S sb n total true w0 [⟨va, vb, la, lb⟩] w) (hts : Tr.sizes la ≤ 500000) :
    Calls Try.prog 42 #[.agg #[va, vb], .func (.func 43) #[] #[.pointer (some ⟨sb, 0, none⟩)]] w fun e w' => e = .returned (.tuple #[]) ∧ PInv S sb n total true w0 [] w' := by
  obtain ⟨hra, hrb⟩ := hi.jobs _ List.mem_cons_self
  obtain ⟨aa, ac, hva⟩ := hra.slice
  obtain ⟨ba, bc, hvb⟩ := hrb.slice
  simp only at hva hvb
  subst hva
  subst hvb
  clear hra hrb
  obtain ⟨L, hL⟩ : ∃ L, L = la.length := ⟨_, rfl⟩
  obtain ⟨L', hL'⟩ : ∃ L, L = lb.length := ⟨_, rfl⟩
  rw [← hL, ← hL'] at hi ⊢
  clear hL hL'
  obtain ⟨A0, h0⟩ : ∃ A, A = w.alloc (.cells #[.slice aa L ac, .slice ba L' bc] 62) := ⟨_, rfl⟩
  obtain ⟨A1, h1⟩ : ∃ A, A = A0.alloc (.cells #[.func (.func 43) #[] #[.pointer (some ⟨sb, 0, none⟩)]] 64) := ⟨_, rfl⟩
  obtain ⟨A2, h2⟩ : ∃ A, A = A1.alloc (.cells #[.slice aa L ac, .slice ba L' bc] 62) := ⟨_, rfl⟩
  obtain ⟨A3, h3⟩ : ∃ A, A = A2.alloc (.cells #[.slice (some ⟨w.heap.size + 1 + 1, 0, none⟩) 1 1] 80) := ⟨_, rfl⟩
  obtain ⟨A4, h4⟩ : ∃ A, A = A3.alloc (.cells #[.int .i64 0] 3) := ⟨_, rfl⟩
  obtain ⟨X, hX⟩ : ∃ X, X = A4.alloc (.cells #[.func (.func 64) #[] #[.pointer (some ⟨w.heap.size + 1 + 1 + 1 + 1, 0, none⟩), .pointer (some ⟨w.heap.size + 1 + 1 + 1, 0, none⟩), .pointer (some ⟨w.heap.size + 1, 0, none⟩), .pointer (some ⟨w.heap.size + 1 + 1 + 1 + 1 + 1, 0, none⟩)]] 63) := ⟨_, rfl⟩
  have DN : Hid (_) := fun la' => downP S total w0 n sb (w.heap.size + 1) (w.heap.size + 1 + 1 + 1) (w.heap.size + 1 + 1 + 1 + 1) (w.heap.size + 1 + 1 + 1 + 1 + 1) (Tr.sizes la') la' (Nat.le_refl _)
  have s0 : A0.heap.size = w.heap.size + 1 := by rw [h0, World.size_alloc]
  have s1 : A1.heap.size = w.heap.size + 1 + 1 := by rw [h1, World.size_alloc, s0]
  have s2 : A2.heap.size = w.heap.size + 1 + 1 + 1 := by rw [h2, World.size_alloc, s1]
  have s3 : A3.heap.size = w.heap.size + 1 + 1 + 1 + 1 := by rw [h3, World.size_alloc, s2]
  have s4 : A4.heap.size = w.heap.size + 1 + 1 + 1 + 1 + 1 := by rw [h4, World.size_alloc, s3]
  have n0 := World.alloc_heap_new w (.cells #[.slice aa L ac, .slice ba L' bc] 62)
  have n1 := World.alloc_heap_new A0 (.cells #[.func (.func 43) #[] #[.pointer (some ⟨sb, 0, none⟩)]] 64)
  have n2 := World.alloc_heap_new A1 (.cells #[.slice aa L ac, .slice ba L' bc] 62)
  have n3 := World.alloc_heap_new A2 (.cells #[.slice (some ⟨w.heap.size + 1 + 1, 0, none⟩) 1 1] 80)
  have n4 := World.alloc_heap_new A3 (.cells #[.int .i64 0] 3)
  have n5 := World.alloc_heap_new A4 (.cells #[.func (.func 64) #[] #[.pointer (some ⟨w.heap.size + 1 + 1 + 1 + 1, 0, none⟩), .pointer (some ⟨w.heap.size + 1 + 1 + 1, 0, none⟩), .pointer (some ⟨w.heap.size + 1, 0, none⟩), .pointer (some ⟨w.heap.size + 1 + 1 + 1 + 1 + 1, 0, none⟩)]] 63)
  rw [← h0] at n0
  rw [← h1, s0] at n1
  rw [← h2, s1] at n2
  rw [← h3, s2] at n3
  rw [← h4, s3] at n4
  rw [← hX, s4] at n5
  have b0 : Below w.heap.size w A0 := h0 ▸ below_new w _
  have b1 : Below A0.heap.size A0 A1 := h1 ▸ below_new A0 _
  have b2 : Below A1.heap.size A1 A2 := h2 ▸ below_new A1 _
  have b3 : Below A2.heap.size A2 A3 := h3 ▸ below_new A2 _
  have b4 : Below A3.heap.size A3 A4 := h4 ▸ below_new A3 _
  have b5 : Below A4.heap.size A4 X := hX ▸ below_new A4 _
  have b45 := below_then b4 b5
  have b35 := below_then b3 b45
  have b25 := below_then b2 b35
  have b15 := below_then b1 b25
  have bX : Below w.heap.size w X := below_then b0 b15
  have b01 : Below w.heap.size w A1 := below_then b0 b1
  have tX : TP n sb (w.heap.size + 1) (w.heap.size + 1 + 1 + 1) (w.heap.size + 1 + 1 + 1 + 1) (w.heap.size + 1 + 1 + 1 + 1 + 1) 0 [] [⟨.slice aa L ac, .slice ba L' bc, la, lb⟩] X := by
    refine ⟨⟨by omega, by omega, by omega, by omega⟩, (b25.block _ (by omega)).trans n1, n5, (b5.block _ (by omega)).trans n4, ⟨_, (b45.block _ (by omega)).trans n3, ?_, by simp⟩, by simp⟩
    exact ⟨rfl, .inr ⟨w.heap.size + 1 + 1, 1, #[.slice aa L ac, .slice ba L' bc], rfl, by omega, (b35.block _ (by omega)).trans n2, by simp, by unfold maxLen; omega, by simp, by simp [pcells, PJ.cells]⟩⟩
  have iX := hi.stab (KeepQ.of_below bX hnw)
  have a0 : A1.cell? ⟨w.heap.size, 0, none⟩ = some (.slice aa L ac) := cells_at ((b1.block _ (by omega)).trans n0) rfl
  have a1 : A1.cell? ⟨w.heap.size, 1, none⟩ = some (.slice ba L' bc) := cells_at ((b1.block _ (by omega)).trans n0) rfl
  rw [h1, h0] at a0 a1
  clear s0 s1 s2 s3 s4 n0 n1 n2 n3 n4 n5 b0 b1 b2 b3 b4 b5 b45 b35 b25 b15 bX b01
  have HTX : Hid (_) := tX
  have HIX : Hid (_) := iX
  clear tX iX hi
  have hstf := fun (a : Addr) (fn : Fn) (c1 c2 : Array Value) (w : World) => run_store Try.prog w a (.func fn c1 c2) .plain rfl
  refine (callsIn_wide (n := 3)).1 ?_
  refine callsIn_of_wp Try.func42 rfl trivial ?_ rfl
  simp only [Try.ntmps42, List.size_toArray, List.length_cons, List.length_nil, Nat.reduceAdd, Nat.reduceSub, Array.replicate_succ, Array.replicate_zero, List.push_toArray, List.append_toArray, List.nil_append, List.cons_append]
  gi_wp2
  rw [← h0, ← h1, ← h2, ← h3, ← h4, ← hX]
  clear hstf hX h1 h2 h3 h4 h0 a0 a1
  gi_loopg [] (Tr.sizes la + 1) (fun m wr => ∃ Q : List PJ, muP Q = m ∧ m ≤ 500001 ∧ TP n sb (w.heap.size + 1) (w.heap.size + 1 + 1 + 1) (w.heap.size + 1 + 1 + 1 + 1) (w.heap.size + 1 + 1 + 1 + 1 + 1) 0 [] Q wr ∧ PInv S sb n total true w0 Q wr)
  case atStart => exact ⟨[⟨.slice aa L ac, .slice ba L' bc, la, lb⟩], by simp [muP], by omega, HTX.out, HIX.out⟩
  case round =>
    clear HTX HIX
    obtain ⟨Q, hmu, hm, htw, hi⟩ := hrel
    obtain ⟨wv, hb2, hown, -⟩ := htw.wait
    obtain ⟨at7, c7, rfl⟩ := slice_shape hown
    have cW : wr.cell? ⟨w.heap.size + 1 + 1 + 1, 0, none⟩ = some (.slice at7 Q.length c7) := cells_at hb2 rfl
    rcases List.eq_nil_or_concat Q with rfl | ⟨Q', j, rfl⟩
    · have HI : Hid (_) := hi
      clear hi htw hown hb2
      simp only [List.length_nil] at cW
      gi_wp2
      go_end0
      exact ⟨rfl, HI.out⟩
    · simp only [List.concat_eq_append] at *
      obtain ⟨M, hM⟩ : ∃ M, M = Q'.length := ⟨_, rfl⟩
      have eM : (Q' ++ [j]).length = M + 1 := by rw [hM]; simp
      rw [eM] at cW hown hb2
      have hM2 : M ≤ 500001 := by
        have := muP_len (Q' ++ [j])
        rw [eM] at this
        omega
      rcases hown.2 with ⟨hno, _⟩ | ⟨gb, cap7, cur, hv, hgn, hgb, hcap, hcm, hcs, htk⟩
      · cases hno
      cases hv
      have hlw : gb < wr.heap.size := (Array.getElem?_eq_some_iff.1 hgb).1
      have cJ : ∀ q u, [j.va, j.vb][q]? = some u → wr.cell? ⟨gb, M * 2 + q, none⟩ = some u := fun q u hq => by
        have := hown.cells (g := gb) rfl (M * 2 + q) u (by rw [pcells_append, List.getElem?_append_right (by rw [pcells_len]; omega), pcells_len, ← hM, Nat.add_sub_cancel_left]; simpa [pcells, PJ.cells] using hq)
        rwa [show (⟨gb, 0, none⟩ : Addr).add (M * 2 + q) = ⟨gb, M * 2 + q, none⟩ from by cases (M * 2 + q) <;> simp [Addr.add]] at this
      have cJ0 := cJ 0 j.va rfl
      have cJ1 := cJ 1 j.vb rfl
      rw [Nat.add_zero] at cJ0
      obtain ⟨jva, jvb, jla, jlb⟩ := j
      simp only at cJ0 cJ1
      have hj : PInv S sb n total true w0 (⟨jva, jvb, jla, jlb⟩ :: Q') wr := hi.perm List.perm_append_comm
      obtain ⟨hra, hrb⟩ := hj.jobs _ List.mem_cons_self
      obtain ⟨a2, p2, hva2⟩ := hra.slice
      obtain ⟨a3, p3, hvb3⟩ := hrb.slice
      simp only at hva2 hvb3
      subst hva2
      subst hvb3
      clear hra hrb cJ
      obtain ⟨K, hK⟩ : ∃ K, K = jla.length := ⟨_, rfl⟩
      obtain ⟨K', hK'⟩ : ∃ K, K = jlb.length := ⟨_, rfl⟩
      rw [← hK] at hj cJ0
      rw [← hK'] at hj cJ1
      have hmu' : muP Q' + (Tr.sizes jla + 1) = gk := by
        rw [muP_append] at hmu
        simpa [muP] using hmu
      obtain ⟨Y, hY⟩ : ∃ Y, Y = wr.alloc (.cells #[.slice a2 K p2, .slice a3 K' p3] 62) := ⟨_, rfl⟩
      have bY : Below wr.heap.size wr Y := hY ▸ below_new wr _
      have hYn : Y.heap[wr.heap.size]? = some (.cells #[.slice a2 K p2, .slice a3 K' p3] 62 (0, 0)) := by rw [hY]; exact World.alloc_heap_new wr _
      have hb2Y := (bY.block _ (Array.getElem?_eq_some_iff.1 hb2).1).trans hb2
      have cWY : Y.cell? ⟨w.heap.size + 1 + 1 + 1, 0, none⟩ = some (.slice (some ⟨gb, 0, none⟩) (M + 1) c7) := cells_at hb2Y rfl
      have fW : Y.frozen? ⟨w.heap.size + 1 + 1 + 1, 0, none⟩ = false := frozen_of_row Y _ 0 _ _ hb2Y
      obtain ⟨X1, hX1⟩ : ∃ X1, X1 = Y.setCell ⟨w.heap.size + 1 + 1 + 1, 0, none⟩ (.slice (some ⟨gb, 0, none⟩) M c7) := ⟨_, rfl⟩
      have t1 : TP n sb (w.heap.size + 1) (w.heap.size + 1 + 1 + 1) (w.heap.size + 1 + 1 + 1 + 1) (w.heap.size + 1 + 1 + 1 + 1 + 1) 0 [] Q' X1 := by
        rw [hX1]
        have h9 := owns_prefix2 (k := M) (owns_below hown bY) (by omega)
        rw [pcells_append, List.take_append_of_le_length (by rw [pcells_len]; omega), List.take_of_length_le (by rw [pcells_len]; omega)] at h9
        exact (htw.of_below bY).setWait (hM ▸ h9) (by simp)
      have i1 : PInv S sb n total true w0 (⟨.slice a2 K p2, .slice a3 K' p3, jla, jlb⟩ :: Q') X1 := by
        rw [hX1]
        exact (hj.stab (KeepQ.of_below bY htw.nw)).stab (KeepQ.of_set (by omega) 0 _)
      have cN : X1.cell? ⟨w.heap.size + 1 + 1 + 1 + 1 + 1, 0, none⟩ = some (.func (.func 64) #[] #[.pointer (some ⟨w.heap.size + 1 + 1 + 1 + 1, 0, none⟩), .pointer (some ⟨w.heap.size + 1 + 1 + 1, 0, none⟩), .pointer (some ⟨w.heap.size + 1, 0, none⟩), .pointer (some ⟨w.heap.size + 1 + 1 + 1 + 1 + 1, 0, none⟩)]) := cells_at t1.dwn rfl
      have hXs : X1.heap[wr.heap.size]? = some (.cells #[.slice a2 K p2, .slice a3 K' p3] 62 (0, 0)) := by
        rw [hX1]; exact heap_set_ne hYn hb2Y (by decide) _ _
      have x0 : X1.cell? ⟨wr.heap.size, 0, none⟩ = some (.slice a2 K p2) := cells_at hXs rfl
      have x1 : X1.cell? ⟨wr.heap.size, 1, none⟩ = some (.slice a3 K' p3) := cells_at hXs rfl
      have HC : Hid (_) := DN.out jla 0 [] true _ _ _ _ jlb X1 (by omega) (by have := muP_len Q'; omega) t1 i1
      have hcap7 : M ≤ c7 := by omega
      rw [hX1] at cN x0 x1
      rw [hY] at cN x0 x1 cWY fW hX1
      clear t1 i1 hj hi htw hown hb2 hgb hgn hcs htk hmu DN hK hK' hM eM hXs hYn hY bY hb2Y
      gi_wp2
      rw [← hX1]
      refine ⟨trivial, ?_⟩
      refine (callsIn_wide.2 HC.out).mono ?_
      rintro e w2 ⟨rfl, Q1, tw2, hi2, hmu2⟩
      rw [if_neg (by decide)] at hmu2
      have HF : Hid (∃ Q : List PJ, muP Q = muP Q' + muP Q1 ∧ muP Q' + muP Q1 ≤ 500001 ∧ TP n sb (w.heap.size + 1) (w.heap.size + 1 + 1 + 1) (w.heap.size + 1 + 1 + 1 + 1) (w.heap.size + 1 + 1 + 1 + 1 + 1) 0 [] Q w2 ∧ PInv S sb n total true w0 Q w2) :=
        ⟨Q' ++ Q1, muP_append _ _, by omega, tw2, hi2.perm List.perm_append_comm⟩
      clear tw2 hi2 HC cN x0 x1 hX1 cWY fW
      gi_wp2
      gi_roundg (muP Q' + muP Q1)
      case measure => omega
      case rel => exact HF.out
end Go.Proofs.Ytgdgaapkfbddkaa
