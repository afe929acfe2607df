/-
  The walk of tree.copied.
-/
import Derived.Test.YtejnleigjjaenaaTrClone
namespace Go.Proofs.Ytejnleigjjaenaa
open Go.RowKit Go.Shelf

attribute [local go_sem] Oper.semAt_some

/-- The block of a row that waits. -/
def Job.blk (j : Job) : Nat := match j.v with | .slice (some a) _ _ => a.block | _ => 0
/-- A row of the call's own, from a place on as it was handed in. -/
def CJob (S : Nat → Prop) (n0 : Nat) (w : World) (j : Job) : Prop :=
  (j.ts = [] ∧ j.i ≤ 1000000000000000 ∧ ∃ ao cap, j.v = .slice ao j.i cap) ∨
  ∃ (b cap : Nat) (c : Array Value) (xs : List N1), j.v = .slice (some ⟨b, 0, none⟩) (j.i + xs.length) cap ∧ n0 ≤ b ∧ w.heap[b]? = some (.cells c 25 (0, 0)) ∧ (∀ (q : Nat) (u : Value), (n1Cells xs)[q]? = some u → c[j.i * 4 + q]? = some u) ∧ j.ts = xs.map N1.tr ∧ j.i + xs.length ≤ 1000000 ∧ ∀ x ∈ xs, x.Fit ∧ x.t.length ≤ 1000000 ∧ Tr.sizes x.kids ≤ 1000000 ∧ (∀ s ∈ Tr.textsL x.kids, s.length ≤ 1000000) ∧ RowR (S) w x.v x.kids
def apartJ (a b : Job) : Prop := a.ts ≠ [] → b.ts ≠ [] → a.blk ≠ b.blk
theorem apartJ_symm {a b : Job} (h : apartJ a b) : apartJ b a := fun h1 h2 e => h h2 h1 e.symm

theorem CJob.keep {S : Nat → Prop} {n0 : Nat} {w w' : World} {j : Job} (h : CJob S n0 w j) (hm : ∀ b, S b → b < n0) (hlow : ∀ b, b < n0 → w'.heap[b]? = w.heap[b]?) (hb : j.ts ≠ [] → w'.heap[j.blk]? = w.heap[j.blk]?) : CJob S n0 w' j := by
  rcases h with h | ⟨b, cap, c, xs, h1, h2, h3, h4, h5, h6, h7⟩
  · exact .inl h
  · by_cases hn : j.ts = []
    · refine .inl ⟨hn, ?_⟩
      have : xs = [] := by rw [h5] at hn; exact List.map_eq_nil_iff.1 hn
      subst this
      exact ⟨by simp at h6; omega, some ⟨b, 0, none⟩, cap, by simpa using h1⟩
    · refine .inr ⟨b, cap, c, xs, h1, h2, ?_, h4, h5, h6, fun x hx => ?_⟩
      · have := hb hn
        have e : j.blk = b := by simp [Job.blk, h1]
        rw [e] at this
        exact this.trans h3
      · obtain ⟨f1, f2, f3, f4, f5⟩ := h7 x hx
        exact ⟨f1, f2, f3, f4, f5.keep (fun b hb => hlow b (hm b hb)) (fun _ h => h)⟩

/-- What was handed in, and rows of nodes from n0 on. -/
def CS (S : Nat → Prop) (n0 : Nat) (w : World) (b : Nat) : Prop := S b ∨ n0 ≤ b ∧ ∃ c fr, w.heap[b]? = some (.cells c 25 fr)
def CopyInv (S : Nat → Prop) (n0 : Nat) (w0 : World) (wv : Value) (t : Tr) (P : List Job) (w : World) : Prop :=
  Below n0 w0 w ∧ RowR (CS S n0 w) w wv [t] ∧ (∀ j ∈ P, CJob S n0 w j) ∧ P.Pairwise apartJ

theorem CJob.read {S : Nat → Prop} {n0 : Nat} {w : World} {v : Value} {i : Nat} {ts : List Tr} (h : CJob S n0 w ⟨v, i, ts⟩) : ∃ ao cap, v = .slice ao (i + ts.length) cap ∧ i + ts.length ≤ 1000000000000000 ∧ (0 < ts.length → ∃ b off, ao = some ⟨b, off, none⟩) := by
  rcases h with ⟨h1, h2, ao, cap, h3⟩ | ⟨b, cap, c, xs, h1, h2, h3, h4, h5, h6, h7⟩
  · simp only at h1 h2 h3
    subst h1
    exact ⟨ao, cap, by simpa using h3, by simpa using h2, fun h => absurd h (by simp)⟩
  · simp only at h1 h5 h6
    subst h5
    rw [List.length_map]
    exact ⟨some ⟨b, 0, none⟩, cap, h1, by omega, fun _ => ⟨b, 0, rfl⟩⟩

theorem cells_at {w : World} {b : Nat} {c : Array Value} {ty : TypeId} {fr : Nat × Nat} (h : w.heap[b]? = some (.cells c ty fr)) {o : Nat} {u : Value} (hu : c[o]? = some u) : w.cell? ⟨b, o, none⟩ = some u := by
  rw [Lib.cell_of_heap h]; exact hu

theorem setCell_size (w : World) (p : Addr) (u : Value) : (w.setCell p u).heap.size = w.heap.size := by
  simp [World.setCell]
theorem set_other {w : World} {b b' o : Nat} {u : Value} (h : b' ≠ b) : (w.setCell ⟨b, o, none⟩ u).heap[b']? = w.heap[b']? := by
  rcases Nat.lt_or_ge b' w.heap.size with h1 | h1
  · exact (grown_set w b o u).block b' h1 (fun e => h (by cases e; rfl))
  · rw [Array.getElem?_eq_none h1, Array.getElem?_eq_none (by rw [setCell_size]; exact h1)]
theorem set_cell_ne {w : World} {b o b' o' : Nat} {u c : Value} {cs : Array Value} {ty : TypeId} (hb : w.heap[b]? = some (.cells cs ty (0, 0))) (h : w.cell? ⟨b', o', none⟩ = some c) (hne : (b', o') ≠ (b, o)) : (w.setCell ⟨b, o, none⟩ u).cell? ⟨b', o', none⟩ = some c := by
  by_cases e : b' = b
  · subst e
    have ho : o' ≠ o := fun e => hne (by rw [e])
    rw [Lib.cell_of_heap (heap_setCell_same w b' o _ ty u hb), Array.getElem?_setIfInBounds, if_neg (Ne.symm ho)]
    rw [Lib.cell_of_heap hb] at h
    exact h
  · exact (World.cell?_of_block (w := w) (a := ⟨b', o', none⟩) (set_other e)).trans h

theorem four_cells {w : World} {b : Nat} {t : TypeId} {x y z u : Value} (h : w.heap[b]? = some (.cells #[x, y, z, u] t (0, 0))) (x' y' z' u' : Value) :
    ((((w.setCell ⟨b, 0, none⟩ x').setCell ⟨b, 1, none⟩ y').setCell ⟨b, 2, none⟩ z').setCell ⟨b, 3, none⟩ u').heap[b]? = some (.cells #[x', y', z', u'] t (0, 0)) := by
  have h1 := heap_setCell_same w b 0 _ t x' h
  have h2 := heap_setCell_same _ b 1 _ t y' h1
  have h3 := heap_setCell_same _ b 2 _ t z' h2
  have h4 := heap_setCell_same _ b 3 _ t u' h3
  exact h4
theorem four_keep (w : World) (b : Nat) (x' y' z' u' : Value) :
    ∀ Z, Z = (((w.setCell ⟨b, 0, none⟩ x').setCell ⟨b, 1, none⟩ y').setCell ⟨b, 2, none⟩ z').setCell ⟨b, 3, none⟩ u' → Below b w Z ∧ Z.heap.size = w.heap.size ∧ ∀ k, k ≠ b → Z.heap[k]? = w.heap[k]? := by
  rintro Z rfl
  have hk : ∀ k, k ≠ b → ((((w.setCell ⟨b, 0, none⟩ x').setCell ⟨b, 1, none⟩ y').setCell ⟨b, 2, none⟩ z').setCell ⟨b, 3, none⟩ u').heap[k]? = w.heap[k]? := fun k hk => by
    rw [set_other hk, set_other hk, set_other hk, set_other hk]
  refine ⟨⟨?_, ?_, ?_, ?_, fun k h => hk k (by omega)⟩, ?_, hk⟩
  · exact (((grown_set _ b 3 u').os.trans (grown_set _ b 2 z').os).trans (grown_set _ b 1 y').os).trans (grown_set w b 0 x').os
  · exact (((grown_set _ b 3 u').tape.trans (grown_set _ b 2 z').tape).trans (grown_set _ b 1 y').tape).trans (grown_set w b 0 x').tape
  · exact (((grown_set _ b 3 u').output.trans (grown_set _ b 2 z').output).trans (grown_set _ b 1 y').output).trans (grown_set w b 0 x').output
  · rw [setCell_size, setCell_size, setCell_size, setCell_size]; omega
  · rw [setCell_size, setCell_size, setCell_size, setCell_size]

/-- What stands behind the last store. -/
theorem copy_fin {S : Nat → Prop} {n0 n : Nat} (hm : ∀ b, S b → b < n0) {w0 : World} {wv : Value} {t0 : Tr} {b cap i : Nat} {x : N1} {xs : List N1} {P : List Job} {w : World} {c : Array Value}
    (hB : Below n0 w0 w) (hR : RowR (CS S n0 w) w wv [t0]) (hJ : ∀ j ∈ P, CJob S n0 w j) (hP : (⟨.slice (some ⟨b, 0, none⟩) (i + (x :: xs).length) cap, i, x.tr :: xs.map N1.tr⟩ :: P : List Job).Pairwise apartJ)
    (hb0 : n0 ≤ b) (hb : w.heap[b]? = some (.cells c 25 (0, 0))) (hcx : ∀ (q : Nat) (u : Value), (n1Cells (x :: xs))[q]? = some u → c[i * 4 + q]? = some u) (hlim : i + (x :: xs).length ≤ 1000000)
    (hxs : ∀ y ∈ x :: xs, y.Fit ∧ y.t.length ≤ 1000000 ∧ Tr.sizes y.kids ≤ 1000000 ∧ (∀ s ∈ Tr.textsL y.kids, s.length ≤ 1000000) ∧ RowR (S) w y.v y.kids)
    {wz : World} (hz : Below w.heap.size w wz) {s' : Value} (hs' : (x.kids = [] ∧ s' = .slice none 0 0) ∨ ∃ ys : List N1, x.kids = ys.map N1.tr ∧ CellsS (S) w x.v ys.length (n1Cells ys) ∧ (∀ y ∈ ys, y.Fit ∧ RowR (S) w y.v y.kids) ∧ wz.ownsRow w.heap.size 25 4 s' ys.length (n1Cells ys) ∧ s' ≠ .slice none 0 0) :
    KeepD n w (wz.setCell ⟨b, i * 4 + 3, none⟩ s') ∧ ∃ v', (wz.setCell ⟨b, i * 4 + 3, none⟩ s').cell? ⟨b, i * 4 + 3, none⟩ = some v' ∧ CopyInv S n0 w0 wv t0 (⟨v', 0, x.kids⟩ :: ⟨.slice (some ⟨b, 0, none⟩) (i + (x :: xs).length) cap, i + 1, xs.map N1.tr⟩ :: P) (wz.setCell ⟨b, i * 4 + 3, none⟩ s') := by
  have hblt := (Array.getElem?_eq_some_iff.1 hb).1
  have hn0w : n0 ≤ w.heap.size := by omega
  have hbz : wz.heap[b]? = some (.cells c 25 (0, 0)) := (hz.block b hblt).trans hb
  have c3 : c[i * 4 + 3]? = some x.v := hcx 3 _ rfl
  have hc3 : i * 4 + 3 < c.size := (Array.getElem?_eq_some_iff.1 c3).1
  obtain ⟨W, hW⟩ : ∃ W, W = wz.setCell ⟨b, i * 4 + 3, none⟩ s' := ⟨_, rfl⟩
  rw [← hW]
  have hsW : W.heap.size = wz.heap.size := by rw [hW, setCell_size]
  have hWb : W.heap[b]? = some (.cells (c.setIfInBounds (i * 4 + 3) s') 25 (0, 0)) := by rw [hW]; exact heap_setCell_same wz b _ _ _ _ hbz
  have hWo : ∀ k, k ≠ b → W.heap[k]? = wz.heap[k]? := fun k hk => by rw [hW]; exact set_other hk
  have hlow : ∀ k, k < n0 → W.heap[k]? = w.heap[k]? := fun k hk => (hWo k (by omega)).trans (hz.block k (by omega))
  have hWk : ∀ k, k < w.heap.size → k ≠ b → W.heap[k]? = w.heap[k]? := fun k hk hkb => (hWo k hkb).trans (hz.block k hk)
  have hWc : W.cell? ⟨b, i * 4 + 3, none⟩ = some s' := by
    rw [Lib.cell_of_heap hWb, Array.getElem?_setIfInBounds, if_pos rfl, if_pos hc3]
  have hbel : Below n0 w W := by
    have hg := grown_set wz b (i * 4 + 3) s'
    rw [← hW] at hg
    exact ⟨hg.os.trans hz.os, hg.tape.trans hz.tape, hg.output.trans hz.output, by rw [hsW]; exact hz.size, hlow⟩
  obtain ⟨xf, xt, xk, xkt, xr⟩ := hxs x List.mem_cons_self
  have hCS : ∀ k, CS S n0 w k → CS S n0 W k := fun k hk => by
    rcases hk with hk | ⟨hk0, cs, fr, hk⟩
    · exact .inl hk
    · by_cases e : k = b
      · subst e; exact .inr ⟨hk0, _, _, hWb⟩
      · exact .inr ⟨hk0, cs, fr, (hWk k (Array.getElem?_eq_some_iff.1 hk).1 e).trans hk⟩
  have hkey : CJob S n0 W ⟨s', 0, x.kids⟩ ∧ (x.kids ≠ [] → w.heap.size ≤ (⟨s', 0, x.kids⟩ : Job).blk) ∧ ∀ ts, RowR (CS S n0 W) W x.v ts → RowR (CS S n0 W) W s' ts := by
    rcases hs' with ⟨hk0, rfl⟩ | ⟨ys, hk, hcy, hys, hown, hnn⟩
    · refine ⟨.inl ⟨hk0, by simp, none, 0, rfl⟩, fun h => absurd hk0 h, fun ts hts => ?_⟩
      obtain ⟨ao, kc, hv⟩ := xr.slice
      obtain ⟨ao2, kc2, hv2⟩ := hts.slice
      rw [hv2, hk0] at hv
      have : ts = [] := by
        cases ts with
        | nil => rfl
        | cons _ _ => cases hv
      subst this
      exact .mk [] rfl ⟨none, 0, 0, 0, rfl, ⟨Nat.le_refl _, fun _ => rfl⟩, fun h => absurd h (by simp), fun j u hu => by simp [n1Cells] at hu⟩ (by simp) (by simp) (by simp)
    · rcases hown.2 with ⟨h0, _⟩ | ⟨g, cp, cur, hv, hbase, hgb, h1, h2, h3, h4⟩
      · exact absurd h0 hnn
      have hgb' : g ≠ b := by omega
      have hWg : W.heap[g]? = some (.cells cur 25 (0, 0)) := (hWo g hgb').trans hgb
      have hcell : ∀ (q : Nat) (u : Value), (n1Cells ys)[q]? = some u → cur[q]? = some u := fun q u hu => by
        rw [← h4, List.getElem?_take] at hu
        split at hu
        · rwa [Array.getElem?_toList] at hu
        · cases hu
      have hyl : ys.length ≤ 1000000 := by
        have := Tr.length_sizes x.kids
        rw [hk, List.length_map] at this
        rw [hk] at xk
        omega
      refine ⟨.inr ⟨g, cp, cur, ys, by simpa using hv, by omega, hWg, fun q u hu => by simpa using hcell q u hu, hk, by simpa using hyl, fun y hy => ?_⟩, fun _ => ?_, fun ts hts => ?_⟩
      · obtain ⟨f1, f5⟩ := hys y hy
        have hmem : y.tr ∈ x.kids := by rw [hk]; exact List.mem_map.2 ⟨y, hy, rfl⟩
        have hs9 := Tr.sizes_mem hmem
        rw [Tr.size_eq] at hs9
        have e9 : y.tr.kids = y.kids := rfl
        refine ⟨f1, ?_, by rw [e9] at hs9; omega, fun s hs => ?_, f5.keep (fun k hk => hlow k (hm k hk)) (fun _ h => h)⟩
        · exact xkt _ (Tr.textsL_mem hmem _ (by rw [Tr.texts_eq]; exact List.mem_cons_self))
        · exact xkt _ (Tr.textsL_mem hmem _ (by rw [Tr.texts_eq]; exact List.mem_cons_of_mem _ hs))
      · have e9 : (⟨s', 0, x.kids⟩ : Job).blk = g := by simp [Job.blk, hv]
        rw [e9]; exact hbase
      · obtain ⟨ao, kc, hxv⟩ := xr.slice
        have hxl : x.kids.length = ys.length := by rw [hk, List.length_map]
        rw [hxl] at hxv
        rw [hxv] at hts hcy
        refine RowR.as (ys := n1Cells ys) (n1Cells_len ys) (hcy.keep (fun k hk => hlow k (hm k hk)) (fun _ h => h) (fun h0 => by rw [List.length_eq_zero_iff.1 h0]; rfl)) ?_ hts
        exact ⟨_, cp, g, 0, hv, ⟨h1, fun e => by cases e⟩, fun _ => ⟨rfl, .inr ⟨by omega, _, _, hWg⟩⟩, fun j u hu => by rw [Lib.cell_of_heap hWg, Nat.zero_add]; exact hcell j u hu⟩
  obtain ⟨hcj, hblk, heq⟩ := hkey
  refine ⟨⟨by rw [hsW]; exact hz.size, fun k cs ty fr hk hc ht => ?_⟩, s', hWc, hB.trans hbel, ?_, fun j hj => ?_, ?_⟩
  · have hkb : k ≠ b := fun e => by subst e; rw [hb] at hc; cases hc; exact absurd ht (by decide)
    exact (hWk k (Array.getElem?_eq_some_iff.1 hc).1 hkb).trans hc
  · refine RowR.swap (b0 := b) (o0 := i * 4 + 3) (s := x.v) hCS (fun b' o' u hu hne => ?_) (cells_at hb c3) hWc ?_ heq hR
    · have hlt : b' < w.heap.size := by simpa using World.block_lt_of_cell? _ _ hu
      rw [hW]
      exact set_cell_ne hbz ((World.cell?_of_block (w := w) (a := ⟨b', o', none⟩) (hz.block b' hlt)).trans hu) hne
    · obtain ⟨ao, kc, hv⟩ := xr.slice
      exact ⟨ao, _, kc, hv⟩
  · simp only [List.mem_cons] at hj
    rcases hj with rfl | rfl | hj
    · exact hcj
    · refine .inr ⟨b, cap, c.setIfInBounds (i * 4 + 3) s', xs, ?_, hb0, hWb, fun q u hu => ?_, rfl, ?_, fun y hy => ?_⟩
      · show Value.slice _ _ _ = Value.slice _ _ _
        congr 1
        simp; omega
      · have h9 := hcx (q + 4) u (by simpa [n1Cells, N1.cells] using hu)
        rw [Array.getElem?_setIfInBounds, if_neg (by simp only; omega)]
        rw [← h9]
        congr 1
        simp only; omega
      · simp at hlim ⊢; omega
      · obtain ⟨f1, f2, f3, f4, f5⟩ := hxs y (by simp [hy])
        exact ⟨f1, f2, f3, f4, f5.keep (fun k hk => hlow k (hm k hk)) (fun _ h => h)⟩
    · refine (hJ j hj).keep hm hlow (fun hjn => ?_)
      have hap := (List.pairwise_cons.1 hP).1 j hj (by simp) hjn
      have hjb : j.blk ≠ b := fun e => hap (by rw [e]; rfl)
      have hjl : j.blk < w.heap.size := by
        rcases hJ j hj with ⟨h0, _⟩ | ⟨bj, cj, arr, xj, e1, e2, e3, _⟩
        · exact absurd h0 hjn
        · have : j.blk = bj := by simp [Job.blk, e1]
          rw [this]; exact (Array.getElem?_eq_some_iff.1 e3).1
      exact hWk _ hjl hjb
  · have hPt := (List.pairwise_cons.1 hP)
    refine List.pairwise_cons.2 ⟨fun j hj h1 h2 => ?_, List.pairwise_cons.2 ⟨fun j hj h1 h2 => ?_, hPt.2⟩⟩
    · have h9 := hblk h1
      rcases List.mem_cons.1 hj with rfl | hj
      · show (⟨s', 0, x.kids⟩ : Job).blk ≠ b
        omega
      · have hjl : j.blk < w.heap.size := by
          rcases hJ j hj with ⟨h0, _⟩ | ⟨bj, cj, arr, xj, e1, e2, e3, _⟩
          · exact absurd h0 h2
          · have : j.blk = bj := by simp [Job.blk, e1]
            rw [this]; exact (Array.getElem?_eq_some_iff.1 e3).1
        omega
    · exact hPt.1 j hj (by simp) h2

set_option maxRecDepth 100000 in
set_option maxHeartbeats 4000000 in
theorem copy_step (S : Nat → Prop) (n0 n : Nat) (hm : ∀ b, S b → b < n0) (w0 : World) (wv : Value) (t0 : Tr) {b off m cap i : Nat} {t : Tr} {ts : List Tr} {P : List Job} {w : World} (h : CopyInv S n0 w0 wv t0 (⟨.slice (some ⟨b, off, none⟩) m cap, i, t :: ts⟩ :: P) w) :
    Calls Try.prog 59 (#[.pointer (some ⟨b, off + i * 4, none⟩)] ++ #[]) w fun e w' => e = .returned (.tuple #[]) ∧ KeepD n w w' ∧ ∃ v', w'.cell? ⟨b, off + i * 4 + 3, none⟩ = some v' ∧ CopyInv S n0 w0 wv t0 (⟨v', 0, t.kids⟩ :: ⟨.slice (some ⟨b, off, none⟩) m cap, i + 1, ts⟩ :: P) w' := by
  obtain ⟨hB, hR, hJ, hP⟩ := h
  rcases hJ _ List.mem_cons_self with ⟨hne, _⟩ | ⟨b', cap', c, xs, e1, hb0, hb, hcx, e5, hlim, hxs⟩
  · cases hne
  simp only at e1 e5 hcx hlim
  cases e1
  obtain ⟨x, xs, rfl⟩ : ∃ x r, xs = x :: r := by
    cases xs with
    | nil => cases e5
    | cons x r => exact ⟨x, r, rfl⟩
  rw [List.map_cons, List.cons.injEq] at e5
  obtain ⟨rfl, rfl⟩ := e5
  obtain ⟨xf, xt, xk, xkt, xr⟩ := hxs x List.mem_cons_self
  have hblt := (Array.getElem?_eq_some_iff.1 hb).1
  have c1 : c[i * 4 + 1]? = some (.string (Ln.bs x.t)) := hcx 1 _ rfl
  have c3 : c[i * 4 + 3]? = some x.v := hcx 3 _ rfl
  obtain ⟨kao, kcap, hkv⟩ := xr.slice
  rw [Nat.zero_add]
  have g1 : w.cell? ⟨b, i * 4 + 1, none⟩ = some (.string (Ln.bs x.t)) := cells_at hb c1
  have g3 : w.cell? ⟨b, i * 4 + 3, none⟩ = some (.slice kao x.kids.length kcap) := by rw [← hkv]; exact cells_at hb c3
  have hlimt : (Ln.bs x.t).size ≤ 281474976710656 := by rw [Ln.bs_size]; omega
  have HFIN : Hid (∀ (wz : World) (s' : Value), Below w.heap.size w wz → ((x.kids = [] ∧ s' = .slice none 0 0) ∨ ∃ ys : List N1, x.kids = ys.map N1.tr ∧ CellsS (S) w x.v ys.length (n1Cells ys) ∧ (∀ y ∈ ys, y.Fit ∧ RowR (S) w y.v y.kids) ∧ wz.ownsRow w.heap.size 25 4 s' ys.length (n1Cells ys) ∧ s' ≠ .slice none 0 0) →
      KeepD n w (wz.setCell ⟨b, i * 4 + 3, none⟩ s') ∧ ∃ v', (wz.setCell ⟨b, i * 4 + 3, none⟩ s').cell? ⟨b, i * 4 + 3, none⟩ = some v' ∧ CopyInv S n0 w0 wv t0 (⟨v', 0, x.kids⟩ :: ⟨.slice (some ⟨b, 0, none⟩) (i + (x :: xs).length) cap, i + 1, xs.map N1.tr⟩ :: P) (wz.setCell ⟨b, i * 4 + 3, none⟩ s')) :=
    fun wz s' hz hs' => copy_fin hm hB hR (fun j hj => hJ j (List.mem_cons_of_mem _ hj)) hP hb0 hb hcx hlim hxs hz hs'
  have hkid : x.tr.kids = x.kids := rfl
  rw [hkid]
  have HB : Hid (w.heap[b]? = some (.cells c 25 (0, 0)) ∧ c[i * 4 + 1]? = some (.string (Ln.bs x.t)) ∧ c[i * 4 + 3]? = some x.v) := ⟨hb, c1, c3⟩
  have HR : Hid (RowR (S) w x.v x.kids) := xr
  have HK : Hid (Tr.sizes x.kids ≤ 1000000) := xk
  have HN : Hid (n0 ≤ w.heap.size) := by show n0 ≤ w.heap.size; omega
  have HV : Hid (x.v = .slice kao x.kids.length kcap) := hkv
  clear hB hR hJ hP hcx hlim hxs c1 c3 hb xr xk xkt xf xt hkid hkv hblt
  go_enter Try.func59, Try.ntmps59
  go_wp2_with fail
  refine (clone_any (Ln.bs x.t) _ hlimt).mono ?_
  rintro e w1 ⟨rfl, hb1⟩
  have h1b : w1.heap[b]? = some (.cells c 25 (0, 0)) := (hb1.block b (Array.getElem?_eq_some_iff.1 HB.out.1).1).trans HB.out.1
  have t1 : w1.cell? ⟨b, i * 4 + 1, none⟩ = some (.string (Ln.bs x.t)) := cells_at h1b HB.out.2.1
  have f1 : w1.frozen? ⟨b, i * 4 + 1, none⟩ = false := frozen_of_row w1 b _ _ _ h1b
  have hset : c.setIfInBounds (i * 4 + 1) (.string (Ln.bs x.t)) = c := by
    apply Array.ext_getElem?
    intro j
    rw [Array.getElem?_setIfInBounds]
    by_cases hj : i * 4 + 1 = j
    · subst hj; rw [if_pos rfl, if_pos (Array.getElem?_eq_some_iff.1 HB.out.2.1).1, HB.out.2.1]
    · rw [if_neg hj]
  have h2b : (w1.setCell ⟨b, i * 4 + 1, none⟩ (.string (Ln.bs x.t))).heap[b]? = some (.cells c 25 (0, 0)) := by
    have := heap_setCell_same w1 b (i * 4 + 1) _ _ (.string (Ln.bs x.t)) h1b
    rwa [hset] at this
  have hz2 : Below w.heap.size w (w1.setCell ⟨b, i * 4 + 1, none⟩ (.string (Ln.bs x.t))) := by
    have hg := grown_set w1 b (i * 4 + 1) (.string (Ln.bs x.t))
    refine ⟨hg.os.trans hb1.os, hg.tape.trans hb1.tape, hg.output.trans hb1.output, by rw [setCell_size]; exact hb1.size, fun k hk => ?_⟩
    by_cases e : k = b
    · subst e; rw [h2b]; exact HB.out.1.symm
    · exact (set_other e).trans (hb1.block k hk)
  have t3 : (w1.setCell ⟨b, i * 4 + 1, none⟩ (.string (Ln.bs x.t))).cell? ⟨b, i * 4 + 3, none⟩ = some (.slice kao x.kids.length kcap) := by rw [← HV.out]; exact cells_at h2b HB.out.2.2
  have f3 : (w1.setCell ⟨b, i * 4 + 1, none⟩ (.string (Ln.bs x.t))).frozen? ⟨b, i * 4 + 3, none⟩ = false := frozen_of_row _ b _ _ _ h2b
  obtain ⟨W2, hW2⟩ : ∃ W2, W2 = w1.setCell ⟨b, i * 4 + 1, none⟩ (.string (Ln.bs x.t)) := ⟨_, rfl⟩
  have HZ2 : Hid (Below w.heap.size w W2) := hW2 ▸ hz2
  have H2B : Hid (W2.heap[b]? = some (.cells c 25 (0, 0))) := hW2 ▸ h2b
  clear hz2 h2b h1b hset hb1
  by_cases hk0 : x.kids.length = 0
  · have hkn : x.kids = [] := List.length_eq_zero_iff.1 hk0
    have HE : Hid (_) := HFIN.out W2 (.slice none 0 0) HZ2.out (.inl ⟨hkn, rfl⟩)
    rw [hk0] at t3
    rw [hW2] at HE
    clear HFIN
    go_wp2
    refine bodyPost_ret (results_none rfl _ _ _) rfl ?_
    exact ⟨rfl, HE.out⟩
  · have i0 : decide ((x.kids.length : Int) = 0) = false := decide_eq_false (by omega)
    obtain ⟨ys, ao, cp, kb, koff, eys, hv, -, hao, -, hys⟩ := HR.out.parts
    rw [HV.out] at hv
    cases hv
    obtain ⟨rfl, hkb⟩ := hao (by omega)
    have hyl : x.kids.length = ys.length := by rw [eys, List.length_map]
    have hsz := Tr.length_sizes x.kids
    have hk9 := HK.out
    have hkb' : kb < n0 := hm kb hkb
    have hone : ∀ u ∈ n1Cells ys, u.oneCell' = true := n1_one (fun y hy => by
      obtain ⟨q, hq⟩ := List.mem_iff_getElem?.1 hy
      obtain ⟨a9, c9, e9⟩ := (hys q y hq).2.1.slice
      rw [e9]; rfl)
    have hcy : ∀ (j : Nat) (u : Value), (n1Cells ys)[j]? = some u → w.cell? ⟨kb, koff + j, none⟩ = some u := by
      intro j u hu
      have hjl : j < (n1Cells ys).length := (List.getElem?_eq_some_iff.1 hu).1
      rw [n1Cells_len] at hjl
      have hd : j / 4 < ys.length := by omega
      have hm : j = j / 4 * 4 + j % 4 := by omega
      obtain ⟨-, -, q0, q1, q2, q3⟩ := hys (j / 4) _ (List.getElem?_eq_getElem hd)
      have hr : j % 4 < 4 := by omega
      rw [hm, n1Cells_at (List.getElem?_eq_getElem hd) (j % 4) hr] at hu
      rw [hm]
      generalize j % 4 = r at hr hu
      match r, hr with
      | 0, _ => simp [N1.cells] at hu; subst hu; exact q0
      | 1, _ => simp [N1.cells] at hu; subst hu; rw [← Nat.add_assoc]; exact q1
      | 2, _ => simp [N1.cells] at hu; subst hu; rw [← Nat.add_assoc]; exact q2
      | 3, _ => simp [N1.cells] at hu; subst hu; rw [← Nat.add_assoc]; exact q3
    have HC : Hid (_) := nclone_any kb koff ys.length kcap (n1Cells ys) W2 (n1Cells_len ys) (by omega) (fun j u hu => (World.cell?_of_block (w := w) (a := ⟨kb, koff + j, none⟩) (HZ2.out.block kb (by have := HN.out; show kb < w.heap.size; omega))).trans (hcy j u hu)) hone
    have HY : Hid (CellsS (S) w x.v ys.length (n1Cells ys) ∧ (∀ y ∈ ys, y.Fit ∧ RowR (S) w y.v y.kids) ∧ x.kids = ys.map N1.tr) := by
      refine ⟨⟨some ⟨kb, koff, none⟩, kcap, kb, koff, by rw [HV.out, hyl], ?_, fun _ => ⟨rfl, hkb⟩, hcy⟩, fun y hy => ?_, eys⟩
      · obtain ⟨_, ao9, cp9, _, _, -, hv9, hcc, -⟩ := HR.out.parts
        rw [HV.out] at hv9
        cases hv9
        rw [hyl] at hcc
        exact hcc
      · obtain ⟨q, hq⟩ := List.mem_iff_getElem?.1 hy
        exact ⟨(hys q y hq).1, (hys q y hq).2.1⟩
    rw [hyl] at t3 i0 hk0
    rw [hW2] at HC
    clear hao hys hone hcy hsz hk9 hyl HR HK eys hkb
    go_wp2_with fail
    refine Calls.mono HC.out ?_
    rintro e w3 ⟨v', rfl, hown, hnn, hb3⟩
    rw [← hW2] at hown hb3
    have h3b : w3.heap[b]? = some (.cells c 25 (0, 0)) := (hb3.block b (Array.getElem?_eq_some_iff.1 H2B.out).1).trans H2B.out
    have t4 : w3.cell? ⟨b, i * 4 + 3, none⟩ = some x.v := cells_at h3b HB.out.2.2
    have f4 : w3.frozen? ⟨b, i * 4 + 3, none⟩ = false := frozen_of_row w3 b _ _ _ h3b
    have HE : Hid (_) := HFIN.out w3 v' (below_then HZ2.out hb3) (.inr ⟨ys, HY.out.2.2, HY.out.1, HY.out.2.1, owns_base hown HZ2.out.size, hnn⟩)
    obtain ⟨a9, c9, rfl⟩ := slice_shape hown
    clear HFIN hown hnn hb3 h3b HC HY HB H2B HZ2 hW2 t1 t3 f3
    go_wp2
    go_end0
    exact ⟨rfl, HE.out⟩

theorem copy_doing (S : Nat → Prop) (n0 n : Nat) (hm : ∀ b, S b → b < n0) (w0 : World) (wv : Value) (t : Tr) (hn : n0 ≤ n) : Doing n 59 #[] (CopyInv S n0 w0 wv t) where
  perm := fun hp ⟨h1, h2, h3, h4⟩ => ⟨h1, h2, fun j hj => h3 j (hp.mem_iff.2 hj), (hp.pairwise_iff apartJ_symm).1 h4⟩
  stab := by
    intro P w w' ⟨h1, h2, h3, h4⟩ k
    have hk : ∀ b, CS S n0 w b → w'.heap[b]? = w.heap[b]? := fun b hb => by
      rcases hb with hb | ⟨_, cs, fr, hb⟩
      · exact k.old b (by have := hm b hb; omega)
      · exact (k.other b cs _ fr hb (by decide)).trans hb.symm
    refine ⟨h1.trans ⟨k.os, k.tape, k.output, k.size, fun b hb => k.old b (by omega)⟩, h2.keep hk (fun b hb => ?_), fun j hj => (h3 j hj).keep hm (fun b hb => k.old b (by omega)) (fun hjn => ?_), h4⟩
    · rcases hb with hb' | ⟨hb0, cs, fr, hb'⟩
      · exact .inl hb'
      · exact .inr ⟨hb0, cs, fr, k.other b cs _ fr hb' (by decide)⟩
    · rcases h3 j hj with ⟨h0, _⟩ | ⟨bj, cj, arr, xj, e1, e2, e3, _⟩
      · exact absurd h0 hjn
      · have : j.blk = bj := by simp [Job.blk, e1]
        rw [this]
        exact (k.other bj arr _ _ e3 (by decide)).trans e3.symm
  nil := fun ⟨h1, h2, h3, h4⟩ => ⟨h1, h2, fun j hj => h3 j (by simp [hj]), (List.pairwise_cons.1 h4).2⟩
  read := fun ⟨_, _, h3, _⟩ => (h3 _ List.mem_cons_self).read
  step := fun h => copy_step S n0 n hm w0 wv t h

set_option maxRecDepth 100000 in
set_option maxHeartbeats 4000000 in
theorem tcopied_any (S : Nat → Prop) (t : Tr) (v : Value) (w : World) (hS : ∀ b, S b → b < w.heap.size) (hv : NodeR S w v t) (ht : Tr.Bd [t]) :
    Calls Try.prog 40 #[v] w fun e w' => ∃ r, e = .returned r ∧ NodeR (fun b => S b ∨ w.heap.size ≤ b ∧ b < w'.heap.size) w' r t ∧ Below w.heap.size w w' := by
  obtain ⟨x, rfl, rfl, hf, hr⟩ := hv
  have hkt := ht.mem (x := x.tr) (by simp)
  have htt : x.t.length ≤ 1000000 := hkt.1
  have hkk : Tr.Bd x.kids := hkt.2
  have hts : Tr.sizes [x.tr] ≤ 500000 := by have := ht.1; omega
  clear hkt ht
  obtain ⟨A1, h1⟩ : ∃ A, A = w.alloc (.cells x.cells.toArray 25) := ⟨_, rfl⟩
  obtain ⟨A2, h2⟩ : ∃ A, A = A1.alloc (.cells #[.int .u8 0, .string ⟨#[]⟩, .int .i64 0, .slice none 0 0] 25) := ⟨_, rfl⟩
  obtain ⟨A3, h3⟩ : ∃ A, A = A2.alloc (.cells x.cells.toArray 25) := ⟨_, rfl⟩
  have s1 : A1.heap.size = w.heap.size + 1 := by rw [h1, World.size_alloc]
  have s2 : A2.heap.size = w.heap.size + 1 + 1 := by rw [h2, World.size_alloc, s1]
  have n2 := World.alloc_heap_new A1 (.cells #[.int .u8 0, .string ⟨#[]⟩, .int .i64 0, .slice none 0 0] 25)
  have n3 := World.alloc_heap_new A2 (.cells x.cells.toArray 25)
  rw [← h2, s1] at n2
  rw [← h3, s2] at n3
  have b1 : Below w.heap.size w A1 := h1 ▸ below_new w _
  have b2 : Below A1.heap.size A1 A2 := h2 ▸ below_new A1 _
  have b3 : Below A2.heap.size A2 A3 := h3 ▸ below_new A2 _
  have b13 : Below w.heap.size w A3 := below_then b1 (below_then b2 b3)
  have hrl : RowR S A3 x.v x.kids := hr.keep (fun b hb => b13.block b (hS b hb)) (fun _ h => h)
  have s3 : A3.heap.size = w.heap.size + 1 + 1 + 1 := by rw [h3, World.size_alloc, s2]
  have D := copy_doing S A2.heap.size A3.heap.size (fun b hb => by have := hS b hb; omega) A3 (.slice (some ⟨w.heap.size + 1 + 1, 0, none⟩) 1 1) x.tr (by omega)
  have I0 : CopyInv S A2.heap.size A3 (.slice (some ⟨w.heap.size + 1 + 1, 0, none⟩) 1 1) x.tr [⟨.slice (some ⟨w.heap.size + 1 + 1, 0, none⟩) 1 1, 0, [x.tr]⟩] A3 := by
    refine ⟨Below.refl _ _, RowR.one n3 (by simp) (Nat.le_refl _) (.inr ⟨by omega, _, _, n3⟩) hf (hrl.mono (fun _ h => .inl h)), fun j hj => ?_, by simp⟩
    rw [List.mem_singleton] at hj
    subst hj
    refine .inr ⟨w.heap.size + 1 + 1, 1, x.cells.toArray, [x], rfl, by omega, n3, fun q u hu => ?_, rfl, by simp, fun y hy => ?_⟩
    · simpa [n1Cells] using hu
    · rw [List.mem_singleton] at hy
      subst hy
      exact ⟨hf, htt, by have := hkk.1; omega, hkk.2, hrl⟩
  have HE : Hid (_) := each_any _ _ A3 D (fun _ _ => rfl) I0 hts
  have HB : Hid (Below w.heap.size w A3 ∧ A3.heap[w.heap.size + 1]? = some (.cells #[.int .u8 0, .string ⟨#[]⟩, .int .i64 0, .slice none 0 0] 25 (0, 0)) ∧ A2.heap.size = w.heap.size + 1 + 1) := ⟨b13, (b3.block _ (by omega)).trans n2, s2⟩
  clear D I0 n2 n3 b1 b2 b3 b13 s1 s2 s3 hr hrl hf htt hkk hts
  obtain ⟨k, tx, nm, kv, kids⟩ := x
  simp only [N1.cells] at h1 h3 ⊢
  go_enter Try.func40, Try.ntmps40
  go_wp2_with fail
  rw [← h1, ← h2, ← h3]
  refine Calls.mono HE.out ?_
  rintro e w1 ⟨rfl, q1, q2, -, -⟩
  obtain ⟨ys, ao, cp, b, off, e1, e2, -, ha, -, hy⟩ := q2.parts
  obtain ⟨rfl, hS⟩ := ha (by simp)
  cases e2
  obtain ⟨y, rfl⟩ : ∃ y, ys = [y] := by
    cases ys with
    | nil => cases e1
    | cons y r =>
      cases r with
      | nil => exact ⟨y, rfl⟩
      | cons _ _ => simp at e1
  simp only [List.map_cons, List.map_nil, List.cons.injEq, and_true] at e1
  obtain ⟨yf, yr, y0, y1, y2, y3⟩ := hy 0 y rfl
  simp only [Nat.zero_mul, Nat.add_zero, Nat.zero_add] at y0 y1 y2 y3
  have hb9 := HB.out
  have r1 : w1.heap[w.heap.size + 1]? = some (.cells #[.int .u8 0, .string ⟨#[]⟩, .int .i64 0, .slice none 0 0] 25 (0, 0)) := (q1.block _ (by omega)).trans hb9.2.1
  obtain ⟨ya, yc, yv⟩ := yr.slice
  obtain ⟨yk, yt, yn, yw, ykids⟩ := y
  simp only at y0 y1 y2 y3 yv yr
  subst yv
  have c0 : w1.cell? ⟨w.heap.size + 1, 0, none⟩ = some (.int .u8 0) := cells_at r1 rfl
  have c1 : w1.cell? ⟨w.heap.size + 1, 1, none⟩ = some (.string ⟨#[]⟩) := cells_at r1 rfl
  have c2 : w1.cell? ⟨w.heap.size + 1, 2, none⟩ = some (.int .i64 0) := cells_at r1 rfl
  have c3 : w1.cell? ⟨w.heap.size + 1, 3, none⟩ = some (.slice none 0 0) := cells_at r1 rfl
  have f0 : ∀ j, w1.frozen? ⟨w.heap.size + 1, j, none⟩ = false := fun j => frozen_of_row w1 _ j _ _ r1
  have HQ : Hid (_) := And.intro q1 (And.intro r1 (And.intro yf (And.intro yr e1)))
  clear q1 q2 hy ha hS r1 yf yr e1 hb9 HE
  go_wp2_with fail
  obtain ⟨Z, hZ⟩ : ∃ Z, Z = (((w1.setCell ⟨w.heap.size + 1, 0, none⟩ (.int .u8 yk)).setCell ⟨w.heap.size + 1, 1, none⟩ (.string (Ln.bs yt))).setCell ⟨w.heap.size + 1, 2, none⟩ (.int .i64 yn)).setCell ⟨w.heap.size + 1, 3, none⟩ (.slice ya ykids.length yc) := ⟨_, rfl⟩
  rw [← hZ]
  have hq := HQ.out
  have hb9 := HB.out
  have hz := four_keep w1 _ _ _ _ _ Z hZ
  have hzr : Z.heap[w.heap.size + 1]? = some (.cells #[.int .u8 yk, .string (Ln.bs yt), .int .i64 yn, .slice ya ykids.length yc] 25 (0, 0)) := by rw [hZ]; exact four_cells hq.2.1 _ _ _ _
  have z0 : Z.cell? ⟨w.heap.size + 1, 0, none⟩ = some (.int .u8 yk) := cells_at hzr rfl
  have z1 : Z.cell? ⟨w.heap.size + 1, 1, none⟩ = some (.string (Ln.bs yt)) := cells_at hzr rfl
  have z2 : Z.cell? ⟨w.heap.size + 1, 2, none⟩ = some (.int .i64 yn) := cells_at hzr rfl
  have z3 : Z.cell? ⟨w.heap.size + 1, 3, none⟩ = some (.slice ya ykids.length yc) := cells_at hzr rfl
  have HF : Hid (NodeR (fun b => S b ∨ w.heap.size ≤ b ∧ b < Z.heap.size) Z (.agg #[.int .u8 yk, .string (Ln.bs yt), .int .i64 yn, .slice ya ykids.length yc]) (N1.tr ⟨k, tx, nm, kv, kids⟩) ∧ Below w.heap.size w Z) := by
    refine ⟨⟨⟨yk, yt, yn, .slice ya ykids.length yc, ykids⟩, rfl, hq.2.2.2.2.symm, hq.2.2.1, ?_⟩, ?_⟩
    · refine hq.2.2.2.1.keep (fun k hk => hz.2.2 k ?_) (fun k hk => ?_)
      · rcases hk with hk | ⟨hk, _⟩
        · have := hS k hk; omega
        · omega
      · rcases hk with hk | ⟨hk0, _, _, hk⟩
        · exact .inl hk
        · exact .inr ⟨by omega, by rw [hz.2.1]; exact (Array.getElem?_eq_some_iff.1 hk).1⟩
    · exact (hb9.1.trans (hq.1.mono (by omega))).trans (hz.1.mono (by omega))
  clear hq hb9 hz hzr hZ HQ HB c0 c1 c2 c3 f0 y0 y1 y2 y3
  go_wp2
  refine bodyPost_ret (v := .agg #[.int .u8 yk, .string (Ln.bs yt), .int .i64 yn, .slice ya ykids.length yc]) (by simp [results, Try.results40, go_sem, z0, z1, z2, z3]) rfl ⟨_, rfl, HF.out⟩
end Go.Proofs.Ytejnleigjjaenaa
