/-
  Several texts in one, as they are: TrPairDown, TrPairThrough, TrPairSame.
-/
import Derived.Test.YtdaaecnmllpgdaaGreatDoorVisitAll
import Derived.Maps.AppendAt

/-
  The walk of the closure of through that calls itself, over pairs of rows.
-/
namespace Go.Proofs.YtdaaecnmllpgdaaGreatDoor
open Go.RowKit Go.Shelf

attribute [local go_sem] Oper.semAt_some

theorem cell_two_new (w : World) (x y : Value) (t : TypeId) : ∀ j u, [x, y][j]? = some u → (w.alloc (.cells #[x, y] t)).cell? ((⟨w.heap.size, 0, none⟩ : Addr).add j) = some u := by
  intro j u hj
  have hn := World.alloc_heap_new w (.cells #[x, y] t)
  rw [show (⟨w.heap.size, 0, none⟩ : Addr).add j = ⟨w.heap.size, j, none⟩ from by cases j <;> simp [Addr.add]]
  match j, hj with
  | 0, h => exact cells_at hn (by simpa using h)
  | 1, h => exact cells_at hn (by simpa using h)
  | j + 2, h => simp at h

set_option maxRecDepth 100000 in
set_option maxHeartbeats 4000000 in
theorem downP (S : Nat → Prop) (total : Bool) (w0 : World) (n sb b0 b2 b3 b4 : Nat) (N : Nat) :
    ∀ la : List Tr, Tr.sizes la ≤ N → DownP S total w0 n sb b0 b2 b3 b4 la := by
  induction N using Nat.strongRecOn with
  | _ N ih =>
  intro la hts d B ex W P va vb lb w hd hW htp hi
  have HV : Hid (_) := visitP S total w0 n sb b0 b2 b3 b4 la (fun la' h => ih (Tr.sizes la') (by omega) la' (Nat.le_refl _))
  clear ih
  obtain ⟨hra, hrb⟩ := hi.jobs _ List.mem_cons_self
  obtain ⟨aa, ac, hva⟩ := hra.slice
  obtain ⟨ba, bc, hvb⟩ := hrb.slice
  simp only at hva hvb
  subst hva
  subst hvb
  clear hra hrb
  obtain ⟨L, hL⟩ : ∃ L, L = la.length := ⟨_, rfl⟩
  obtain ⟨L', hL'⟩ : ∃ L, L = lb.length := ⟨_, rfl⟩
  rw [← hL, ← hL'] at hi ⊢
  clear hL hL'
  have hnw := htp.nw
  have hn2 := htp.n0.2.1
  obtain ⟨X, hX⟩ : ∃ X, X = w.alloc (.cells #[.slice aa L ac, .slice ba L' bc] 53) := ⟨_, rfl⟩
  have bX : Below w.heap.size w X := hX ▸ below_new w _
  have sX : X.heap.size = w.heap.size + 1 := by rw [hX, World.size_alloc]
  have hXn : X.heap[w.heap.size]? = some (.cells #[.slice aa L ac, .slice ba L' bc] 53 (0, 0)) := by rw [hX]; exact World.alloc_heap_new w _
  have tX := htp.of_below bX
  have iX := hi.stab (KeepQ.of_below bX hnw)
  have cD : X.cell? ⟨b3, 0, none⟩ = some (.int .i64 d) := cells_at tX.deep rfl
  have fD : X.frozen? ⟨b3, 0, none⟩ = false := frozen_of_row X b3 0 _ _ tX.deep
  have HW : Hid (_) := hW
  clear hi hW
  refine (callsIn_wide (n := 3)).1 ?_
  refine callsIn_of_wp Tryz.func36 rfl trivial ?_ rfl
  simp only [Tryz.ntmps36, List.size_toArray, List.length_cons, List.length_nil, Nat.reduceAdd, Nat.reduceSub, Array.replicate_succ, Array.replicate_zero, List.push_toArray, List.append_toArray, List.nil_append, List.cons_append]
  by_cases h40 : d = 40
  · subst h40
    have x0 : X.cell? ⟨w.heap.size, 0, none⟩ = some (.slice aa L ac) := cells_at hXn rfl
    have x1 : X.cell? ⟨w.heap.size, 1, none⟩ = some (.slice ba L' bc) := cells_at hXn rfl
    obtain ⟨X2, hX2⟩ : ∃ X2, X2 = X.alloc (.cells #[.slice aa L ac, .slice ba L' bc] 53) := ⟨_, rfl⟩
    have bX2 : Below X.heap.size X X2 := hX2 ▸ below_new X _
    have tX2 := tX.of_below bX2
    have hnw2 : n ≤ X2.heap.size := tX2.nw
    have hcn : ∀ j u, [Value.slice aa L ac, Value.slice ba L' bc][j]? = some u → X2.cell? ((⟨w.heap.size + 1, 0, none⟩ : Addr).add j) = some u := by
      rw [hX2, ← sX]; exact cell_two_new X _ _ _
    obtain ⟨hn, h2, h3, h4, ⟨wv, hb2, hown, h8⟩, h9⟩ := tX2
    obtain ⟨at7, c7, rfl⟩ := slice_shape hown
    obtain ⟨i0, hi0, hz0, hz1, hz2⟩ := info_parts info_pair
    obtain ⟨v', W', hrun, hown', hgr, -, hat⟩ := run_append_own_at (P := Tryz.prog) X2 n 76 76 53 i0 (.agg #[.slice none 0 0, .slice none 0 0]) 2 48 Tryz.underlying76 hi0 hz0 hz1 hz2 rfl (by decide) (.slice at7 W.length c7) _ _ hown ⟨w.heap.size + 1, 0, none⟩ 1 1 [.slice aa L ac, .slice ba L' bc] rfl hcn (by simp [Value.oneCell']) (by have := HW.out; unfold maxLen; omega) (by have := HW.out; omega) hnw2
    obtain ⟨gv, cv, rfl⟩ := ownsRow_succ hown'
    have kW : KeepQ n X W' := (KeepQ.of_below bX2 tX.nw).trans (KeepQ.of_grown hown hgr hnw2)
    have up : ∀ {b : Nat} {c : Array Value} {t : TypeId}, X2.heap[b]? = some (.cells c t (0, 0)) → t ≠ 53 → W'.heap[b]? = some (.cells c t (0, 0)) := fun h ht => heap_grown hown hgr h ht
    have hb2' := up hb2 (by decide)
    have hbX : X.heap[b2]? = some (.cells #[.slice at7 W.length c7] 76 (0, 0)) := by
      obtain ⟨v9, h9', -, -⟩ := tX.wait
      rw [← bX2.block b2 (Array.getElem?_eq_some_iff.1 h9').1]; exact hb2
    have cW : X.cell? ⟨b2, 0, none⟩ = some (.slice at7 W.length c7) := cells_at hbX rfl
    have tW : TP n sb b0 b2 b3 b4 40 B (W ++ [⟨.slice aa L ac, .slice ba L' bc, la, lb⟩]) (W'.setCell ⟨b2, 0, none⟩ (.slice (some ⟨gv, 0, none⟩) (W.length + 1) cv)) := by
      refine ⟨hn, heap_set_ne (up h2 (by decide)) hb2' (by decide) _ _, heap_set_ne (up h3 (by decide)) hb2' (by decide) _ _, heap_set_ne (up h4 (by decide)) hb2' (by decide) _ _, ⟨_, heap_setCell_same W' b2 0 _ _ _ hb2', ?_, fun p hp => ?_⟩, fun p hp => ⟨(h9 p hp).1, heap_set_ne ((hgr.block p.1 (Array.getElem?_eq_some_iff.1 (h9 p hp).2).1 (fun e => h8 p hp e.symm)).trans (h9 p hp).2) hb2' (by decide) _ _⟩⟩
      · have := owns_set hown' hb2' (by decide) 0 (.slice (some ⟨gv, 0, none⟩) (W.length + 1) cv)
        rw [List.length_append, pcells_append]
        exact this
      · rcases hat with e | e
        · rw [e]; exact h8 p hp
        · rw [e]
          intro e'
          have e2 := (Array.getElem?_eq_some_iff.1 (h9 p hp).2).1
          have : X2.heap.size = p.1 := Option.some.inj e'
          omega
    have cW' : W'.cell? ⟨b2, 0, none⟩ = some (.slice at7 W.length c7) := cells_at hb2' rfl
    have fW' : W'.frozen? ⟨b2, 0, none⟩ = false := frozen_of_row W' b2 0 _ _ hb2'
    have iW : PInv S sb n total ex w0 ([⟨.slice aa L ac, .slice ba L' bc, la, lb⟩] ++ P) (W'.setCell ⟨b2, 0, none⟩ (.slice (some ⟨gv, 0, none⟩) (W.length + 1) cv)) := iX.stab (kW.trans (KeepQ.of_set hn2 0 _))
    have HF : Hid (_) := And.intro tW iW
    obtain ⟨M, hM⟩ : ∃ M, M = W.length := ⟨_, rfl⟩
    rw [← hM] at cW hrun HF cW'
    rw [hX2] at hrun
    rw [hX] at hrun cW x0 x1 cD fD
    clear hM tW iW kW hown' hgr bX hb2' hbX hb2 hown hi0 hz0 hz1 hz2 htp tX iX up h2 h3 h4 h8 h9 hat hcn bX2 hX2 hXn sX hX hn
    gi_wp2_with (gi_at_builtin; refine list_append rfl _ _ 76 rfl (.slice at7 M c7) (.slice (some ⟨w.heap.size + 1, 0, none⟩) 1 1) _ _ rfl rfl hrun ?_)
    refine bodyPost_ret (results_none rfl _ _ _) rfl ?_
    refine ⟨rfl, [⟨.slice aa L ac, .slice ba L' bc, la, lb⟩], HF.out.1, HF.out.2, by simp [muP]⟩
  · have hd40 : ((d : Int) == 40) = false := by simp; omega
    have hd40' : decide ((d : Int) = 40) = false := by simp; omega
    have kS : KeepQ n X (X.setCell ⟨b3, 0, none⟩ (.int .i64 ((d + 1 : Nat) : Int))) := KeepQ.of_set htp.n0.2.2.1 0 _
    have tS := tX.setDeep (d + 1)
    have HC : Hid (_) := HV.out d B ex W P _ _ lb _ (by omega) HW.out tS (iX.stab kS)
    have cV := cells_at (o := 0) tS.vis rfl
    have cN := cells_at (o := 0) tS.dwn rfl
    have hXs := heap_set_ne hXn tX.deep (by decide) 0 (.int .i64 ((d + 1 : Nat) : Int))
    have x0 := cells_at (o := 0) hXs rfl
    have x1 := cells_at (o := 1) hXs rfl
    have ed : ((d + 1 : Nat) : Int) = (d : Int) + 1 := by simp
    obtain ⟨Y, hY⟩ : ∃ Y, Y = X.setCell ⟨b3, 0, none⟩ (.int .i64 ((d : Int) + 1)) := ⟨_, rfl⟩
    rw [ed] at HC cV cN x0 x1
    rw [← hY] at HC
    rw [hX] at cV cN x0 x1 hY cD fD
    clear HV kS tS htp ed tX iX hXs hXn bX sX hX hn2
    gi_wp2
    rw [← hY]
    refine ⟨trivial, ?_⟩
    refine (callsIn_wide.2 HC.out).mono ?_
    rintro e w1 ⟨rfl, Q, tw1, hi1, hmu⟩
    have cD1 : w1.cell? ⟨b3, 0, none⟩ = some (.int .i64 ((d : Int) + 1)) := by
      rw [Lib.cell_of_heap tw1.deep]; simp
    have fD1 : w1.frozen? ⟨b3, 0, none⟩ = false := frozen_of_row w1 b3 0 _ _ tw1.deep
    have HF : Hid (TP n sb b0 b2 b3 b4 d B (W ++ Q) (w1.setCell ⟨b3, 0, none⟩ (.int .i64 d)) ∧ PInv S sb n total ex w0 (Q ++ P) (w1.setCell ⟨b3, 0, none⟩ (.int .i64 d))) := ⟨tw1.setDeep d, hi1.stab (KeepQ.of_set tw1.n0.2.2.1 0 _)⟩
    clear tw1 hi1 HC cV cN x0 x1 hY cD fD
    gi_wp2
    go_end0
    refine ⟨rfl, Q, HF.out.1, HF.out.2, ?_⟩
    exact hmu
end Go.Proofs.YtdaaecnmllpgdaaGreatDoor

/-
  The walks of through over pairs of rows, and of Same.
-/
namespace Go.Proofs.YtdaaecnmllpgdaaGreatDoor
open Go.RowKit Go.Shelf

attribute [local go_sem] Oper.semAt_some

theorem owns_prefix2 {W : World} {base e g n cap k : Nat} {xs : List Value} (h : W.ownsRow base e 2 (.slice (some ⟨g, 0, none⟩) n cap) n xs) (hk : k ≤ n) : W.ownsRow base e 2 (.slice (some ⟨g, 0, none⟩) k cap) k (xs.take (k * 2)) := by
  have hl := h.1
  rcases h.2 with ⟨e1, _⟩ | ⟨g', cap', cur, e1, hb, hg, hnc, hcm, hcs, ht⟩
  · cases e1
  · injection e1 with e1 _ e3
    injection e1 with e1
    injection e1 with e1 _ _
    subst e1 e3
    refine ⟨by simp; omega, .inr ⟨g, cap, cur, rfl, hb, hg, by omega, hcm, hcs, ?_⟩⟩
    rw [← ht, List.take_take]
    congr 1
    omega

set_option maxRecDepth 100000 in
set_option maxHeartbeats 4000000 in
theorem throughP (S : Nat → Prop) (total : Bool) (w0 : World) (n sb : Nat) (va vb : Value) (la lb : List Tr) (w : World) (hnw : n ≤ w.heap.size)
    (hi : PInv S sb n total true w0 [⟨va, vb, la, lb⟩] w) (hts : Tr.sizes la ≤ 500000) :
    Calls Tryz.prog 19 #[.agg #[va, vb], .func (.func 20) #[] #[.pointer (some ⟨sb, 0, none⟩)]] w fun e w' => e = .returned (.tuple #[]) ∧ PInv S sb n total true w0 [] w' := by
  obtain ⟨hra, hrb⟩ := hi.jobs _ List.mem_cons_self
  obtain ⟨aa, ac, hva⟩ := hra.slice
  obtain ⟨ba, bc, hvb⟩ := hrb.slice
  simp only at hva hvb
  subst hva
  subst hvb
  clear hra hrb
  obtain ⟨L, hL⟩ : ∃ L, L = la.length := ⟨_, rfl⟩
  obtain ⟨L', hL'⟩ : ∃ L, L = lb.length := ⟨_, rfl⟩
  rw [← hL, ← hL'] at hi ⊢
  clear hL hL'
  obtain ⟨A0, h0⟩ : ∃ A, A = w.alloc (.cells #[.slice aa L ac, .slice ba L' bc] 53) := ⟨_, rfl⟩
  obtain ⟨A1, h1⟩ : ∃ A, A = A0.alloc (.cells #[.func (.func 20) #[] #[.pointer (some ⟨sb, 0, none⟩)]] 55) := ⟨_, rfl⟩
  obtain ⟨A2, h2⟩ : ∃ A, A = A1.alloc (.cells #[.slice aa L ac, .slice ba L' bc] 53) := ⟨_, rfl⟩
  obtain ⟨A3, h3⟩ : ∃ A, A = A2.alloc (.cells #[.slice (some ⟨w.heap.size + 1 + 1, 0, none⟩) 1 1] 76) := ⟨_, rfl⟩
  obtain ⟨A4, h4⟩ : ∃ A, A = A3.alloc (.cells #[.int .i64 0] 3) := ⟨_, rfl⟩
  obtain ⟨X, hX⟩ : ∃ X, X = A4.alloc (.cells #[.func (.func 36) #[] #[.pointer (some ⟨w.heap.size + 1 + 1 + 1 + 1, 0, none⟩), .pointer (some ⟨w.heap.size + 1 + 1 + 1, 0, none⟩), .pointer (some ⟨w.heap.size + 1, 0, none⟩), .pointer (some ⟨w.heap.size + 1 + 1 + 1 + 1 + 1, 0, none⟩)]] 54) := ⟨_, rfl⟩
  have DN : Hid (_) := fun la' => downP S total w0 n sb (w.heap.size + 1) (w.heap.size + 1 + 1 + 1) (w.heap.size + 1 + 1 + 1 + 1) (w.heap.size + 1 + 1 + 1 + 1 + 1) (Tr.sizes la') la' (Nat.le_refl _)
  have s0 : A0.heap.size = w.heap.size + 1 := by rw [h0, World.size_alloc]
  have s1 : A1.heap.size = w.heap.size + 1 + 1 := by rw [h1, World.size_alloc, s0]
  have s2 : A2.heap.size = w.heap.size + 1 + 1 + 1 := by rw [h2, World.size_alloc, s1]
  have s3 : A3.heap.size = w.heap.size + 1 + 1 + 1 + 1 := by rw [h3, World.size_alloc, s2]
  have s4 : A4.heap.size = w.heap.size + 1 + 1 + 1 + 1 + 1 := by rw [h4, World.size_alloc, s3]
  have n0 := World.alloc_heap_new w (.cells #[.slice aa L ac, .slice ba L' bc] 53)
  have n1 := World.alloc_heap_new A0 (.cells #[.func (.func 20) #[] #[.pointer (some ⟨sb, 0, none⟩)]] 55)
  have n2 := World.alloc_heap_new A1 (.cells #[.slice aa L ac, .slice ba L' bc] 53)
  have n3 := World.alloc_heap_new A2 (.cells #[.slice (some ⟨w.heap.size + 1 + 1, 0, none⟩) 1 1] 76)
  have n4 := World.alloc_heap_new A3 (.cells #[.int .i64 0] 3)
  have n5 := World.alloc_heap_new A4 (.cells #[.func (.func 36) #[] #[.pointer (some ⟨w.heap.size + 1 + 1 + 1 + 1, 0, none⟩), .pointer (some ⟨w.heap.size + 1 + 1 + 1, 0, none⟩), .pointer (some ⟨w.heap.size + 1, 0, none⟩), .pointer (some ⟨w.heap.size + 1 + 1 + 1 + 1 + 1, 0, none⟩)]] 54)
  rw [← h0] at n0
  rw [← h1, s0] at n1
  rw [← h2, s1] at n2
  rw [← h3, s2] at n3
  rw [← h4, s3] at n4
  rw [← hX, s4] at n5
  have b0 : Below w.heap.size w A0 := h0 ▸ below_new w _
  have b1 : Below A0.heap.size A0 A1 := h1 ▸ below_new A0 _
  have b2 : Below A1.heap.size A1 A2 := h2 ▸ below_new A1 _
  have b3 : Below A2.heap.size A2 A3 := h3 ▸ below_new A2 _
  have b4 : Below A3.heap.size A3 A4 := h4 ▸ below_new A3 _
  have b5 : Below A4.heap.size A4 X := hX ▸ below_new A4 _
  have b45 := below_then b4 b5
  have b35 := below_then b3 b45
  have b25 := below_then b2 b35
  have b15 := below_then b1 b25
  have bX : Below w.heap.size w X := below_then b0 b15
  have b01 : Below w.heap.size w A1 := below_then b0 b1
  have tX : TP n sb (w.heap.size + 1) (w.heap.size + 1 + 1 + 1) (w.heap.size + 1 + 1 + 1 + 1) (w.heap.size + 1 + 1 + 1 + 1 + 1) 0 [] [⟨.slice aa L ac, .slice ba L' bc, la, lb⟩] X := by
    refine ⟨⟨by omega, by omega, by omega, by omega⟩, (b25.block _ (by omega)).trans n1, n5, (b5.block _ (by omega)).trans n4, ⟨_, (b45.block _ (by omega)).trans n3, ?_, by simp⟩, by simp⟩
    exact ⟨rfl, .inr ⟨w.heap.size + 1 + 1, 1, #[.slice aa L ac, .slice ba L' bc], rfl, by omega, (b35.block _ (by omega)).trans n2, by simp, by unfold maxLen; omega, by simp, by simp [pcells, PJ.cells]⟩⟩
  have iX := hi.stab (KeepQ.of_below bX hnw)
  have a0 : A1.cell? ⟨w.heap.size, 0, none⟩ = some (.slice aa L ac) := cells_at ((b1.block _ (by omega)).trans n0) rfl
  have a1 : A1.cell? ⟨w.heap.size, 1, none⟩ = some (.slice ba L' bc) := cells_at ((b1.block _ (by omega)).trans n0) rfl
  rw [h1, h0] at a0 a1
  clear s0 s1 s2 s3 s4 n0 n1 n2 n3 n4 n5 b0 b1 b2 b3 b4 b5 b45 b35 b25 b15 bX b01
  have HTX : Hid (_) := tX
  have HIX : Hid (_) := iX
  clear tX iX hi
  have hstf := fun (a : Addr) (fn : Fn) (c1 c2 : Array Value) (w : World) => run_store Tryz.prog w a (.func fn c1 c2) .plain rfl
  refine (callsIn_wide (n := 3)).1 ?_
  refine callsIn_of_wp Tryz.func19 rfl trivial ?_ rfl
  simp only [Tryz.ntmps19, List.size_toArray, List.length_cons, List.length_nil, Nat.reduceAdd, Nat.reduceSub, Array.replicate_succ, Array.replicate_zero, List.push_toArray, List.append_toArray, List.nil_append, List.cons_append]
  gi_wp2
  rw [← h0, ← h1, ← h2, ← h3, ← h4, ← hX]
  clear hstf hX h1 h2 h3 h4 h0 a0 a1
  gi_loopg [] (Tr.sizes la + 1) (fun m wr => ∃ Q : List PJ, muP Q = m ∧ m ≤ 500001 ∧ TP n sb (w.heap.size + 1) (w.heap.size + 1 + 1 + 1) (w.heap.size + 1 + 1 + 1 + 1) (w.heap.size + 1 + 1 + 1 + 1 + 1) 0 [] Q wr ∧ PInv S sb n total true w0 Q wr)
  case atStart => exact ⟨[⟨.slice aa L ac, .slice ba L' bc, la, lb⟩], by simp [muP], by omega, HTX.out, HIX.out⟩
  case round =>
    clear HTX HIX
    obtain ⟨Q, hmu, hm, htw, hi⟩ := hrel
    obtain ⟨wv, hb2, hown, -⟩ := htw.wait
    obtain ⟨at7, c7, rfl⟩ := slice_shape hown
    have cW : wr.cell? ⟨w.heap.size + 1 + 1 + 1, 0, none⟩ = some (.slice at7 Q.length c7) := cells_at hb2 rfl
    rcases List.eq_nil_or_concat Q with rfl | ⟨Q', j, rfl⟩
    · have HI : Hid (_) := hi
      clear hi htw hown hb2
      simp only [List.length_nil] at cW
      gi_wp2
      go_end0
      exact ⟨rfl, HI.out⟩
    · simp only [List.concat_eq_append] at *
      obtain ⟨M, hM⟩ : ∃ M, M = Q'.length := ⟨_, rfl⟩
      have eM : (Q' ++ [j]).length = M + 1 := by rw [hM]; simp
      rw [eM] at cW hown hb2
      have hM2 : M ≤ 500001 := by
        have := muP_len (Q' ++ [j])
        rw [eM] at this
        omega
      rcases hown.2 with ⟨hno, _⟩ | ⟨gb, cap7, cur, hv, hgn, hgb, hcap, hcm, hcs, htk⟩
      · cases hno
      cases hv
      have hlw : gb < wr.heap.size := (Array.getElem?_eq_some_iff.1 hgb).1
      have cJ : ∀ q u, [j.va, j.vb][q]? = some u → wr.cell? ⟨gb, M * 2 + q, none⟩ = some u := fun q u hq => by
        have := hown.cells (g := gb) rfl (M * 2 + q) u (by rw [pcells_append, List.getElem?_append_right (by rw [pcells_len]; omega), pcells_len, ← hM, Nat.add_sub_cancel_left]; simpa [pcells, PJ.cells] using hq)
        rwa [show (⟨gb, 0, none⟩ : Addr).add (M * 2 + q) = ⟨gb, M * 2 + q, none⟩ from by cases (M * 2 + q) <;> simp [Addr.add]] at this
      have cJ0 := cJ 0 j.va rfl
      have cJ1 := cJ 1 j.vb rfl
      rw [Nat.add_zero] at cJ0
      obtain ⟨jva, jvb, jla, jlb⟩ := j
      simp only at cJ0 cJ1
      have hj : PInv S sb n total true w0 (⟨jva, jvb, jla, jlb⟩ :: Q') wr := hi.perm List.perm_append_comm
      obtain ⟨hra, hrb⟩ := hj.jobs _ List.mem_cons_self
      obtain ⟨a2, p2, hva2⟩ := hra.slice
      obtain ⟨a3, p3, hvb3⟩ := hrb.slice
      simp only at hva2 hvb3
      subst hva2
      subst hvb3
      clear hra hrb cJ
      obtain ⟨K, hK⟩ : ∃ K, K = jla.length := ⟨_, rfl⟩
      obtain ⟨K', hK'⟩ : ∃ K, K = jlb.length := ⟨_, rfl⟩
      rw [← hK] at hj cJ0
      rw [← hK'] at hj cJ1
      have hmu' : muP Q' + (Tr.sizes jla + 1) = gk := by
        rw [muP_append] at hmu
        simpa [muP] using hmu
      obtain ⟨Y, hY⟩ : ∃ Y, Y = wr.alloc (.cells #[.slice a2 K p2, .slice a3 K' p3] 53) := ⟨_, rfl⟩
      have bY : Below wr.heap.size wr Y := hY ▸ below_new wr _
      have hYn : Y.heap[wr.heap.size]? = some (.cells #[.slice a2 K p2, .slice a3 K' p3] 53 (0, 0)) := by rw [hY]; exact World.alloc_heap_new wr _
      have hb2Y := (bY.block _ (Array.getElem?_eq_some_iff.1 hb2).1).trans hb2
      have cWY : Y.cell? ⟨w.heap.size + 1 + 1 + 1, 0, none⟩ = some (.slice (some ⟨gb, 0, none⟩) (M + 1) c7) := cells_at hb2Y rfl
      have fW : Y.frozen? ⟨w.heap.size + 1 + 1 + 1, 0, none⟩ = false := frozen_of_row Y _ 0 _ _ hb2Y
      obtain ⟨X1, hX1⟩ : ∃ X1, X1 = Y.setCell ⟨w.heap.size + 1 + 1 + 1, 0, none⟩ (.slice (some ⟨gb, 0, none⟩) M c7) := ⟨_, rfl⟩
      have t1 : TP n sb (w.heap.size + 1) (w.heap.size + 1 + 1 + 1) (w.heap.size + 1 + 1 + 1 + 1) (w.heap.size + 1 + 1 + 1 + 1 + 1) 0 [] Q' X1 := by
        rw [hX1]
        have h9 := owns_prefix2 (k := M) (owns_below hown bY) (by omega)
        rw [pcells_append, List.take_append_of_le_length (by rw [pcells_len]; omega), List.take_of_length_le (by rw [pcells_len]; omega)] at h9
        exact (htw.of_below bY).setWait (hM ▸ h9) (by simp)
      have i1 : PInv S sb n total true w0 (⟨.slice a2 K p2, .slice a3 K' p3, jla, jlb⟩ :: Q') X1 := by
        rw [hX1]
        exact (hj.stab (KeepQ.of_below bY htw.nw)).stab (KeepQ.of_set (by omega) 0 _)
      have cN : X1.cell? ⟨w.heap.size + 1 + 1 + 1 + 1 + 1, 0, none⟩ = some (.func (.func 36) #[] #[.pointer (some ⟨w.heap.size + 1 + 1 + 1 + 1, 0, none⟩), .pointer (some ⟨w.heap.size + 1 + 1 + 1, 0, none⟩), .pointer (some ⟨w.heap.size + 1, 0, none⟩), .pointer (some ⟨w.heap.size + 1 + 1 + 1 + 1 + 1, 0, none⟩)]) := cells_at t1.dwn rfl
      have hXs : X1.heap[wr.heap.size]? = some (.cells #[.slice a2 K p2, .slice a3 K' p3] 53 (0, 0)) := by
        rw [hX1]; exact heap_set_ne hYn hb2Y (by decide) _ _
      have x0 : X1.cell? ⟨wr.heap.size, 0, none⟩ = some (.slice a2 K p2) := cells_at hXs rfl
      have x1 : X1.cell? ⟨wr.heap.size, 1, none⟩ = some (.slice a3 K' p3) := cells_at hXs rfl
      have HC : Hid (_) := DN.out jla 0 [] true _ _ _ _ jlb X1 (by omega) (by have := muP_len Q'; omega) t1 i1
      have hcap7 : M ≤ c7 := by omega
      rw [hX1] at cN x0 x1
      rw [hY] at cN x0 x1 cWY fW hX1
      clear t1 i1 hj hi htw hown hb2 hgb hgn hcs htk hmu DN hK hK' hM eM hXs hYn hY bY hb2Y
      gi_wp2
      rw [← hX1]
      refine ⟨trivial, ?_⟩
      refine (callsIn_wide.2 HC.out).mono ?_
      rintro e w2 ⟨rfl, Q1, tw2, hi2, hmu2⟩
      rw [if_neg (by decide)] at hmu2
      have HF : Hid (∃ Q : List PJ, muP Q = muP Q' + muP Q1 ∧ muP Q' + muP Q1 ≤ 500001 ∧ TP n sb (w.heap.size + 1) (w.heap.size + 1 + 1 + 1) (w.heap.size + 1 + 1 + 1 + 1) (w.heap.size + 1 + 1 + 1 + 1 + 1) 0 [] Q w2 ∧ PInv S sb n total true w0 Q w2) :=
        ⟨Q' ++ Q1, muP_append _ _, by omega, tw2, hi2.perm List.perm_append_comm⟩
      clear tw2 hi2 HC cN x0 x1 hX1 cWY fW
      gi_wp2
      gi_roundg (muP Q' + muP Q1)
      case measure => omega
      case rel => exact HF.out
end Go.Proofs.YtdaaecnmllpgdaaGreatDoor

/-
  The walk of Same.
-/
namespace Go.Proofs.YtdaaecnmllpgdaaGreatDoor
open Go.RowKit Go.Shelf

attribute [local go_sem] Oper.semAt_some

set_option maxRecDepth 100000 in
set_option maxHeartbeats 4000000 in
theorem tsame_any (a b : Tr) (va vb : Value) (w : World) (hva : NodeR (lowS w.heap.size) w va a) (hvb : NodeR (lowS w.heap.size) w vb b) (ht : a.size ≤ 400000) :
    Calls Tryz.prog 10 #[va, vb] w fun e w' => e = .returned (.bool (Tr.eqb a b)) ∧ Below w.heap.size w w' := by
  obtain ⟨⟨k, tx, nm, kv, kids⟩, rfl, rfl, hf, hr⟩ := hva
  obtain ⟨⟨k', tx', nm', kv', kids'⟩, rfl, rfl, hf', hr'⟩ := hvb
  simp only [N1.cells] at *
  have ht2 : (Tr.mk k tx nm kids).size ≤ 400000 := ht
  obtain ⟨A1, h1⟩ : ∃ A, A = w.alloc (.cells #[.int .u8 k, .string (Ln.bs tx), .int .i64 nm, kv] 26) := ⟨_, rfl⟩
  obtain ⟨A2, h2⟩ : ∃ A, A = A1.alloc (.cells #[.int .u8 k', .string (Ln.bs tx'), .int .i64 nm', kv'] 26) := ⟨_, rfl⟩
  obtain ⟨A3, h3⟩ : ∃ A, A = A2.alloc (.cells #[.bool true] 4) := ⟨_, rfl⟩
  obtain ⟨A4, h4⟩ : ∃ A, A = A3.alloc (.cells #[.int .u8 k, .string (Ln.bs tx), .int .i64 nm, kv] 26) := ⟨_, rfl⟩
  obtain ⟨X, hX⟩ : ∃ A, A = A4.alloc (.cells #[.int .u8 k', .string (Ln.bs tx'), .int .i64 nm', kv'] 26) := ⟨_, rfl⟩
  have s1 : A1.heap.size = w.heap.size + 1 := by rw [h1, World.size_alloc]
  have s2 : A2.heap.size = w.heap.size + 1 + 1 := by rw [h2, World.size_alloc, s1]
  have s3 : A3.heap.size = w.heap.size + 1 + 1 + 1 := by rw [h3, World.size_alloc, s2]
  have s4 : A4.heap.size = w.heap.size + 1 + 1 + 1 + 1 := by rw [h4, World.size_alloc, s3]
  have s5 : X.heap.size = w.heap.size + 1 + 1 + 1 + 1 + 1 := by rw [hX, World.size_alloc, s4]
  have n3 := World.alloc_heap_new A2 (.cells #[.bool true] 4)
  have n4 := World.alloc_heap_new A3 (.cells #[.int .u8 k, .string (Ln.bs tx), .int .i64 nm, kv] 26)
  have n5 := World.alloc_heap_new A4 (.cells #[.int .u8 k', .string (Ln.bs tx'), .int .i64 nm', kv'] 26)
  rw [← h3, s2] at n3
  rw [← h4, s3] at n4
  rw [← hX, s4] at n5
  have b1 : Below w.heap.size w A1 := h1 ▸ below_new w _
  have b2 : Below A1.heap.size A1 A2 := h2 ▸ below_new A1 _
  have b3 : Below A2.heap.size A2 A3 := h3 ▸ below_new A2 _
  have b4 : Below A3.heap.size A3 A4 := h4 ▸ below_new A3 _
  have b5 : Below A4.heap.size A4 X := hX ▸ below_new A4 _
  have b45 := below_then b4 b5
  have b35 := below_then b3 b45
  have b25 := below_then b2 b35
  have bX : Below w.heap.size w X := below_then b1 b25
  have I0 : PInv (fun b => b < w.heap.size ∨ b = w.heap.size + 1 + 1 + 1 ∨ b = w.heap.size + 1 + 1 + 1 + 1) (w.heap.size + 1 + 1) X.heap.size (Tr.eqb (Tr.mk k tx nm kids) (Tr.mk k' tx' nm' kids')) true X [⟨.slice (some ⟨w.heap.size + 1 + 1 + 1, 0, none⟩) 1 1, .slice (some ⟨w.heap.size + 1 + 1 + 1 + 1, 0, none⟩) 1 1, [Tr.mk k tx nm kids], [Tr.mk k' tx' nm' kids']⟩] X := by
    refine ⟨KeepQ.refl _ _, fun j hj => ?_, ⟨true, (b45.block _ (by omega)).trans n3, by simp [allEq, Tr.eqbL]⟩, by omega, fun b hb => by omega, fun _ _ => rfl⟩
    rw [List.mem_singleton] at hj
    subst hj
    exact ⟨RowR.one (x := ⟨k, tx, nm, kv, kids⟩) ((b5.block _ (by omega)).trans n4) rfl (Nat.le_refl _) (.inr (.inl rfl)) hf (hr.keep (fun b hb => bX.block b hb) (fun b hb => .inl hb)), RowR.one (x := ⟨k', tx', nm', kv', kids'⟩) n5 rfl (Nat.le_refl _) (.inr (.inr rfl)) hf' (hr'.keep (fun b hb => bX.block b hb) (fun b hb => .inl hb))⟩
  have HE : Hid (_) := throughP _ _ _ _ _ _ _ _ _ X (Nat.le_refl _) I0 (by simp [Tr.sizes_cons, Tr.sizes_nil]; omega)
  have HB : Hid (Below w.heap.size w X) := bX
  have e0 : (N1.tr ⟨k, tx, nm, kv, kids⟩).eqb (N1.tr ⟨k', tx', nm', kv', kids'⟩) = Tr.eqb (Tr.mk k tx nm kids) (Tr.mk k' tx' nm' kids') := rfl
  rw [e0]
  obtain ⟨tt, htt⟩ : ∃ q, q = Tr.eqb (Tr.mk k tx nm kids) (Tr.mk k' tx' nm' kids') := ⟨_, rfl⟩
  rw [← htt] at HE ⊢
  clear I0 n3 n4 n5 b1 b2 b3 b4 b5 b45 b35 b25 s1 s2 s3 s4 s5 hr hf hr' hf' bX htt e0 ht ht2
  go_enter Tryz.func10, Tryz.ntmps10
  go_wp2_with fail
  rw [← h1, ← h2, ← h3, ← h4, ← hX]
  refine Calls.mono HE.out ?_
  rintro e w1 ⟨rfl, hp⟩
  obtain ⟨f, hfl, hft⟩ := hp.flag
  have hft' : f = tt := by simpa [allEq] using hft
  subst hft'
  have cS : w1.cell? ⟨w.heap.size + 1 + 1, 0, none⟩ = some (.bool f) := cells_at hfl rfl
  have bF : Below w.heap.size w w1 := by
    have b13 := HB.out
    refine ⟨hp.keep.os.trans b13.os, hp.keep.tape.trans b13.tape, hp.keep.output.trans b13.output, Nat.le_trans b13.size hp.keep.size, fun b hb => (hp.keep.old b (by omega)).trans (b13.block b hb)⟩
  clear hp hfl hft HE HB h1 h2 h3 h4 hX
  go_wp2
  go_ret
  exact ⟨rfl, bF⟩
end Go.Proofs.YtdaaecnmllpgdaaGreatDoor
