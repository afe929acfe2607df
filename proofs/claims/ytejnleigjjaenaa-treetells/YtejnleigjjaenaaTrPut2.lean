/-
  The walk of tree.Put, whole.
-/
import Derived.Test.YtejnleigjjaenaaTrPut
namespace Go.Proofs.Ytejnleigjjaenaa
open Go.RowKit Go.Shelf

attribute [local go_sem] Oper.semAt_some

def PutPost (o : Option Tr) (w : World) (e : Ending) (w' : World) : Prop := Below w.heap.size w w' ∧ ∃ r, e = .returned (.tuple #[r, .int .i64 (Tr.putRes o).1]) ∧ NodeR (lowS w'.heap.size) w' r (Tr.putRes o).2

theorem four_at {w : World} {b o : Nat} {c : Array Value} {t : TypeId} (h : w.heap[b]? = some (.cells c t (0, 0))) (ho : o + 3 < c.size) (x y z u : Value) :
    ∀ Z, Z = (((w.setCell ⟨b, o, none⟩ x).setCell ⟨b, o + 1, none⟩ y).setCell ⟨b, o + 2, none⟩ z).setCell ⟨b, o + 3, none⟩ u → ∃ c', Z.heap[b]? = some (.cells c' t (0, 0)) ∧ (∀ j, j < o ∨ o + 4 ≤ j → c'[j]? = c[j]?) ∧ (∀ j, j < 4 → c'[o + j]? = [x, y, z, u][j]?) ∧
      Z.heap.size = w.heap.size ∧ (∀ k, k ≠ b → Z.heap[k]? = w.heap[k]?) ∧ Below b w Z := by
  rintro Z rfl
  have h1 := heap_setCell_same w b o _ t x h
  have h2 := heap_setCell_same _ b (o + 1) _ t y h1
  have h3 := heap_setCell_same _ b (o + 2) _ t z h2
  have h4 := heap_setCell_same _ b (o + 3) _ t u h3
  have hk : ∀ k, k ≠ b → ((((w.setCell ⟨b, o, none⟩ x).setCell ⟨b, o + 1, none⟩ y).setCell ⟨b, o + 2, none⟩ z).setCell ⟨b, o + 3, none⟩ u).heap[k]? = w.heap[k]? := fun k hk => by
    rw [set_other hk, set_other hk, set_other hk, set_other hk]
  refine ⟨_, h4, fun j hj => ?_, fun j hj => ?_, by rw [setCell_size, setCell_size, setCell_size, setCell_size], hk, ⟨?_, ?_, ?_, ?_, fun k h => hk k (by omega)⟩⟩
  · simp only [Array.getElem?_setIfInBounds]
    rw [if_neg (by omega), if_neg (by omega), if_neg (by omega), if_neg (by omega)]
  · simp only [Array.getElem?_setIfInBounds, Array.size_setIfInBounds]
    match j, hj with
    | 0, _ => rw [if_neg (by omega), if_neg (by omega), if_neg (by omega), if_pos (by omega), if_pos (by omega)]; rfl
    | 1, _ => rw [if_neg (by omega), if_neg (by omega), if_pos rfl, if_pos (by omega)]; rfl
    | 2, _ => rw [if_neg (by omega), if_pos rfl, if_pos (by omega)]; rfl
    | 3, _ => rw [if_pos rfl, if_pos (by omega)]; rfl
  · exact (((grown_set _ b (o + 3) u).os.trans (grown_set _ b (o + 2) z).os).trans (grown_set _ b (o + 1) y).os).trans (grown_set w b o x).os
  · exact (((grown_set _ b (o + 3) u).tape.trans (grown_set _ b (o + 2) z).tape).trans (grown_set _ b (o + 1) y).tape).trans (grown_set w b o x).tape
  · exact (((grown_set _ b (o + 3) u).output.trans (grown_set _ b (o + 2) z).output).trans (grown_set _ b (o + 1) y).output).trans (grown_set w b o x).output
  · rw [setCell_size, setCell_size, setCell_size, setCell_size]; omega

set_option maxRecDepth 100000 in
set_option maxHeartbeats 4000000 in
theorem tput_any (t kid : Tr) (v kv pv : Value) (T : List Int) (w : World) (hv : NodeR (lowS w.heap.size) w v t) (hkv : NodeR (lowS w.heap.size) w kv kid) (ht : Tr.Bd [t, kid]) (hp : PathLow w.heap.size w pv T) (hT : T.length ≤ 1000000) :
    Calls Try.prog 18 #[v, kv, pv] w (PutPost (Tr.put kid T t) w) := by
  have HBD : Hid (Tr.Bd [t, kid]) := ht
  have hbt : Tr.Bd [t] := ht.one List.mem_cons_self
  obtain ⟨⟨xk, xt, xn, xv, xkids⟩, rfl, rfl, hf, hr⟩ := hv
  obtain ⟨xa, xc, hxv⟩ := hr.slice
  simp only at hxv
  subst hxv
  obtain ⟨⟨dk, dt, dn, dv, dkids⟩, rfl, hdt, hdf, hdr⟩ := hkv
  obtain ⟨da, dc, hdv⟩ := hdr.slice
  simp only at hdv
  subst hdv
  obtain ⟨pao, pcap, pb, poff, rfl, hpa, hpc⟩ := hp.parts
  obtain ⟨o, ho⟩ : ∃ o, o = Tr.put kid T (N1.tr ⟨xk, xt, xn, .slice xa xkids.length xc, xkids⟩) := ⟨_, rfl⟩
  have HO : Hid (o = Tr.put kid T (N1.tr ⟨xk, xt, xn, .slice xa xkids.length xc, xkids⟩)) := ho
  rw [← ho]
  obtain ⟨A1, h1⟩ : ∃ A, A = w.alloc (.cells #[.int .u8 xk, .string (Ln.bs xt), .int .i64 xn, .slice xa xkids.length xc] 25) := ⟨_, rfl⟩
  obtain ⟨A2, h2⟩ : ∃ A, A = A1.alloc (.cells #[.int .u8 dk, .string (Ln.bs dt), .int .i64 dn, .slice da dkids.length dc] 25) := ⟨_, rfl⟩
  obtain ⟨A3, h3⟩ : ∃ A, A = A2.alloc (.cells #[.int .u8 0, .string ⟨#[]⟩, .int .i64 0, .slice none 0 0] 25) := ⟨_, rfl⟩
  have s1 : A1.heap.size = w.heap.size + 1 := by rw [h1, World.size_alloc]
  have s2 : A2.heap.size = w.heap.size + 2 := by rw [h2, World.size_alloc, s1]
  have n1 := World.alloc_heap_new w (.cells #[.int .u8 xk, .string (Ln.bs xt), .int .i64 xn, .slice xa xkids.length xc] 25)
  have n2 := World.alloc_heap_new A1 (.cells #[.int .u8 dk, .string (Ln.bs dt), .int .i64 dn, .slice da dkids.length dc] 25)
  have n3 := World.alloc_heap_new A2 (.cells #[.int .u8 0, .string ⟨#[]⟩, .int .i64 0, .slice none 0 0] 25)
  rw [← h1] at n1
  rw [← h2, s1] at n2
  rw [← h3, s2] at n3
  have b1 : Below w.heap.size w A1 := h1 ▸ below_new w _
  have b2 : Below A1.heap.size A1 A2 := h2 ▸ below_new A1 _
  have b3 : Below A2.heap.size A2 A3 := h3 ▸ below_new A2 _
  have b23 := below_then b2 b3
  have hA : A3.heap[w.heap.size]? = some (.cells #[.int .u8 xk, .string (Ln.bs xt), .int .i64 xn, .slice xa xkids.length xc] 25 (0, 0)) := (b23.block _ (by omega)).trans n1
  have HST : Hid (PutAt w kid (N1.tr ⟨xk, xt, xn, .slice xa xkids.length xc, xkids⟩) #[.int .u8 dk, .string (Ln.bs dt), .int .i64 dn, .slice da dkids.length dc] T 0 w.heap.size 0 A3 ⟨xk, xt, xn, .slice xa xkids.length xc, xkids⟩ id) := by
    refine ⟨below_then b1 b23, (b3.block _ (by omega)).trans n2, n3, hole_root (y := ⟨xk, xt, xn, .slice xa xkids.length xc, xkids⟩) hA, ⟨_, hA, fun j hj => ?_⟩, .inl ⟨rfl, rfl⟩, hf, hr, hbt, by rw [List.drop_zero, Option.map_id]; rfl⟩
    match j, hj with
    | 0, _ => rfl
    | 1, _ => rfl
    | 2, _ => rfl
    | 3, _ => rfl
  have HKID : Hid ((⟨dk, dt, dn, .slice da dkids.length dc, dkids⟩ : N1).tr = kid ∧ (⟨dk, dt, dn, .slice da dkids.length dc, dkids⟩ : N1).Fit ∧ RowR (lowS w.heap.size) w (.slice da dkids.length dc) dkids) := ⟨hdt, hdf, hdr⟩
  have HPC : Hid (_) := hpc
  clear hpc hf hr ht hp ho hdf hdr hdt hbt s1 s2 n1 n2 n3 b1 b2 b3 b23 hA
  obtain ⟨N, hN⟩ : ∃ N, N = T.length := ⟨_, rfl⟩
  have HN : Hid (N = T.length) := hN
  rw [← hN] at hpa hT ⊢
  clear hN
  simp only [N1.cells]
  refine (callsIn_wide (n := 3)).1 ?_
  refine callsIn_of_wp Try.func18 rfl trivial ?_ rfl
  simp only [Try.ntmps18, List.size_toArray, List.length_cons, List.length_nil, Nat.reduceAdd, Nat.reduceSub, Array.replicate_succ, Array.replicate_zero, List.push_toArray, List.append_toArray, List.nil_append, List.cons_append]
  gi_wp2
  rw [← h1, ← h2, ← h3]
  clear h1 h2 h3
  gi_loopw [8, 13] (fun hv i wr => ∃ (k hb ho : Nat) (y : N1) (C : Tr → Tr), k ≤ N ∧ i = .int .i64 k ∧ hv = .pointer (some ⟨hb, ho, none⟩) ∧ PutAt w kid (N1.tr ⟨xk, xt, xn, .slice xa xkids.length xc, xkids⟩) #[.int .u8 dk, .string (Ln.bs dt), .int .i64 dn, .slice da dkids.length dc] T k hb ho wr y C) (fun _ i _ => N - (intOf i).toNat)
  case atStart => exact ⟨0, w.heap.size, 0, _, _, Nat.zero_le _, rfl, rfl, HST.out⟩
  case round =>
    clear HST
    obtain ⟨k, hb, ho, y, C, hk, rfl, rfl, hy⟩ := hrel
    obtain ⟨yk, yt, yn, yv, ykids⟩ := y
    obtain ⟨ya, yc, hyv⟩ := hy.row.slice
    simp only at hyv
    subst hyv
    obtain ⟨c, hcb, hcc⟩ := hy.cells
    have g0 : wr.cell? ⟨hb, ho, none⟩ = some (.int .u8 yk) := cells_at hcb (by have := hcc 0 (by omega); simpa [N1.cells] using this)
    have g1 : wr.cell? ⟨hb, ho + 1, none⟩ = some (.string (Ln.bs yt)) := cells_at hcb (hcc 1 (by omega))
    have g2 : wr.cell? ⟨hb, ho + 2, none⟩ = some (.int .i64 yn) := cells_at hcb (hcc 2 (by omega))
    have g3 : wr.cell? ⟨hb, ho + 3, none⟩ = some (.slice ya ykids.length yc) := cells_at hcb (hcc 3 (by omega))
    have hc3 : ho + 3 < c.size := (Array.getElem?_eq_some_iff.1 ((hcc 3 (by omega)).trans rfl)).1
    have r0 : wr.cell? ⟨w.heap.size + 2, 0, none⟩ = some (.int .u8 0) := cells_at hy.resB rfl
    have r1 : wr.cell? ⟨w.heap.size + 2, 1, none⟩ = some (.string ⟨#[]⟩) := cells_at hy.resB rfl
    have r2 : wr.cell? ⟨w.heap.size + 2, 2, none⟩ = some (.int .i64 0) := cells_at hy.resB rfl
    have r3 : wr.cell? ⟨w.heap.size + 2, 3, none⟩ = some (.slice none 0 0) := cells_at hy.resB rfl
    have fR : ∀ j, wr.frozen? ⟨w.heap.size + 2, j, none⟩ = false := fun j => frozen_of_row wr _ j _ _ hy.resB
    have fH : ∀ j, wr.frozen? ⟨hb, j, none⟩ = false := fun j => frozen_of_row wr _ j _ _ hcb
    have hsw : w.heap.size + 2 < wr.heap.size := (Array.getElem?_eq_some_iff.1 hy.resB).1
    by_cases hlt : k < N
    · obtain ⟨rfl, hpb⟩ := hpa (by omega)
      obtain ⟨p, hpk⟩ : ∃ p, T[k]? = some p := ⟨T[k]'(by have := HN.out; omega), List.getElem?_eq_getElem _⟩
      have edrop : T.drop k = p :: T.drop (k + 1) := by
        have hk' : k < T.length := by have := HN.out; omega
        rw [List.drop_eq_getElem_cons hk']
        rw [List.getElem?_eq_getElem hk'] at hpk
        cases hpk; rfl
      have gp : wr.cell? ⟨pb, poff + k, none⟩ = some (.int .i64 p) := (hy.below.cell (p := ⟨pb, poff + k, none⟩) hpb).trans (HPC.out k p hpk)
      have hto := hy.to
      rw [edrop] at hto
      by_cases hp : 0 ≤ p ∧ p < ykids.length
      · have d1 : decide (p < 0) = false := decide_eq_false (by omega)
        have d2 : decide ((ykids.length : Int) ≤ p) = false := decide_eq_false (by omega)
        obtain ⟨q, rfl⟩ : ∃ q : Nat, p = q := ⟨p.toNat, by omega⟩
        obtain ⟨zs, za, zc, zb, zoff, ez, hzv, hzc, hza, hzl, hz⟩ := hy.row.parts
        simp only at ez hzv hza hzl hzc
        cases hzv
        obtain ⟨rfl, hzb⟩ := hza (by omega)
        have hzb' : zb < w.heap.size := hzb
        have hyl : ykids.length = zs.length := by rw [ez, List.length_map]
        have hql : q < zs.length := by omega
        have hzs : ∀ z ∈ zs, z.Fit ∧ RowR (lowS w.heap.size) w z.v z.kids := fun z hz9 => by
          obtain ⟨j, hj⟩ := List.mem_iff_getElem?.1 hz9
          exact ⟨(hz j z hj).1, (hz j z hj).2.1⟩
        have hone : ∀ u ∈ n1Cells zs, u.oneCell' = true := n1_one (fun z hz9 => by
          obtain ⟨a9, c9, e9⟩ := (hzs z hz9).2.slice
          rw [e9]; rfl)
        have hcy : ∀ (j : Nat) (u : Value), (n1Cells zs)[j]? = some u → wr.cell? ⟨zb, zoff + j, none⟩ = some u := by
          intro j u hu
          refine (hy.below.cell (p := ⟨zb, zoff + j, none⟩) hzb').trans ?_
          have hjl : j < (n1Cells zs).length := (List.getElem?_eq_some_iff.1 hu).1
          rw [n1Cells_len] at hjl
          have hd : j / 4 < zs.length := by omega
          have hm : j = j / 4 * 4 + j % 4 := by omega
          obtain ⟨-, -, q0, q1, q2, q3⟩ := hz (j / 4) _ (List.getElem?_eq_getElem hd)
          have hr4 : j % 4 < 4 := by omega
          rw [hm, n1Cells_at (List.getElem?_eq_getElem hd) (j % 4) hr4] at hu
          rw [hm]
          generalize j % 4 = r4 at hr4 hu
          match r4, hr4 with
          | 0, _ => simp [N1.cells] at hu; subst hu; exact q0
          | 1, _ => simp [N1.cells] at hu; subst hu; rw [← Nat.add_assoc]; exact q1
          | 2, _ => simp [N1.cells] at hu; subst hu; rw [← Nat.add_assoc]; exact q2
          | 3, _ => simp [N1.cells] at hu; subst hu; rw [← Nat.add_assoc]; exact q3
        have hszk : ykids.length ≤ 1000000 := by
          have h9 := Tr.length_sizes ykids
          have h8 : Tr.sizes [Tr.mk yk yt yn ykids] ≤ 100000 := hy.bd.1
          simp only [Tr.sizes_cons, Tr.sizes_nil, Tr.size_eq] at h8
          have : (Tr.mk yk yt yn ykids).kids = ykids := rfl
          rw [this] at h8
          omega
        have HC : Hid (_) := nclone_any zb zoff zs.length yc (n1Cells zs) wr (n1Cells_len zs) (by omega) hcy hone
        have hkq : ykids[q]? = some (N1.tr zs[q]) := by rw [ez, List.getElem?_map, List.getElem?_eq_getElem hql]; rfl
        have HY : Hid (_) := hy
        have HCB : Hid (wr.heap[hb]? = some (.cells c 25 (0, 0)) ∧ ∀ j, j < 4 → c[ho + j]? = (N1.cells ⟨yk, yt, yn, .slice (some ⟨zb, zoff, none⟩) ykids.length yc, ykids⟩)[j]?) := ⟨hcb, hcc⟩
        have HZ : Hid ((∀ z ∈ zs, z.Fit ∧ RowR (lowS w.heap.size) w z.v z.kids) ∧ ykids = zs.map N1.tr ∧ ykids[q]? = some (N1.tr zs[q]) ∧ zs.length ≤ 1000000000000000) := ⟨hzs, ez, hkq, by omega⟩
        have HTO : Hid (Tr.put kid T (N1.tr ⟨xk, xt, xn, .slice xa xkids.length xc, xkids⟩) = (Tr.put kid ((q : Int) :: T.drop (k + 1)) (N1.tr ⟨yk, yt, yn, .slice (some ⟨zb, zoff, none⟩) ykids.length yc, ykids⟩)).map C) := hto
        rw [hyl] at g3 d2
        have HYL : Hid (ykids.length = zs.length) := hyl
        have hqi : (q : Int) < zs.length := by omega
        clear hy hcb hcc hzs hone hcy hz hza hkq hto hzc hszk hyl edrop hpk hp hzl ez r0 r1 r2 r3 fR
        gi_wp2
        refine ⟨trivial, ?_⟩
        refine (callsIn_wide.2 HC.out).mono ?_
        rintro e w1 ⟨v', rfl, hown, hnn, hb1⟩
        rcases hown.2 with ⟨h0, _⟩ | ⟨g, cap, cur, rfl, hbase, hgb, m1, m2, m3, m4⟩
        · exact absurd h0 hnn
        have hhb := HCB.out.1
        have h1b : w1.heap[hb]? = some (.cells c 25 (0, 0)) := (hb1.block hb (Array.getElem?_eq_some_iff.1 hhb).1).trans hhb
        have t3 : w1.cell? ⟨hb, ho + 3, none⟩ = some (.slice (some ⟨zb, zoff, none⟩) ykids.length yc) := cells_at h1b (HCB.out.2 3 (by omega))
        have f3 : w1.frozen? ⟨hb, ho + 3, none⟩ = false := frozen_of_row w1 hb _ _ _ h1b
        obtain ⟨W, hW⟩ : ∃ W, W = w1.setCell ⟨hb, ho + 3, none⟩ (.slice (some ⟨g, 0, none⟩) zs.length cap) := ⟨_, rfl⟩
        have hWb : W.heap[hb]? = some (.cells (c.setIfInBounds (ho + 3) (.slice (some ⟨g, 0, none⟩) zs.length cap)) 25 (0, 0)) := by rw [hW]; exact heap_setCell_same w1 hb _ _ _ _ h1b
        have t4 : W.cell? ⟨hb, ho + 3, none⟩ = some (.slice (some ⟨g, 0, none⟩) zs.length cap) := cells_at hWb (by rw [Array.getElem?_setIfInBounds, if_pos rfl, if_pos hc3])
        have hcur : ∀ (j : Nat) (u : Value), (n1Cells zs)[j]? = some u → cur[j]? = some u := fun j u hu => by
          rw [← m4, List.getElem?_take] at hu
          split at hu
          · rwa [Array.getElem?_toList] at hu
          · cases hu
        have hylt := HY.out
        have hWo : ∀ k, k ≠ hb → W.heap[k]? = w1.heap[k]? := fun k hk => by rw [hW]; exact set_other hk
        have hgne : g ≠ hb := by have := (Array.getElem?_eq_some_iff.1 hhb).1; omega
        have hWg : W.heap[g]? = some (.cells cur 25 (0, 0)) := (hWo g hgne).trans hgb
        have hsW : W.heap.size = w1.heap.size := by rw [hW, setCell_size]
        have HNEW : Hid (PutAt w kid (N1.tr ⟨xk, xt, xn, .slice xa xkids.length xc, xkids⟩) #[.int .u8 dk, .string (Ln.bs dt), .int .i64 dn, .slice da dkids.length dc] T (k + 1) g (q * 4) W zs[q] (fun z => C (.mk yk yt yn (ykids.set q z)))) := by
          have hbr := hylt.hbr
          refine ⟨?_, ?_, ?_, ?_, ⟨cur, hWg, fun j hj => ?_⟩, .inr (by omega), (HZ.out.1 _ (List.getElem_mem hql)).1, (HZ.out.1 _ (List.getElem_mem hql)).2, ?_, ?_⟩
          · have hg := grown_set w1 hb (ho + 3) (.slice (some ⟨g, 0, none⟩) zs.length cap)
            rw [← hW] at hg
            have hbw := below_then hylt.below hb1
            exact ⟨hg.os.trans hbw.os, hg.tape.trans hbw.tape, hg.output.trans hbw.output, Nat.le_trans hbw.size hg.size, fun j hj => (hWo j (by omega)).trans (hbw.block j hj)⟩
          · exact (hWo _ (by omega)).trans ((hb1.block _ (by omega)).trans hylt.kidB)
          · exact (hWo _ (by omega)).trans ((hb1.block _ (by omega)).trans hylt.resB)
          · rw [hW]
            exact hole_down (y := ⟨yk, yt, yn, .slice (some ⟨zb, zoff, none⟩) ykids.length yc, ykids⟩) hylt.hole hhb HCB.out.2 hbr hsw hylt.below hylt.fit HZ.out.2.1 HZ.out.1 HZ.out.2.2.2 hb1 hbase hgb m1 hcur hql
          · have h9 : (N1.cells zs[q])[j]? = (n1Cells zs)[q * 4 + j]? := (n1Cells_at (List.getElem?_eq_getElem hql) j hj).symm
            rw [h9]
            have hlt9 : q * 4 + j < (n1Cells zs).length := by rw [n1Cells_len]; omega
            rw [List.getElem?_eq_getElem hlt9]
            exact hcur _ _ (List.getElem?_eq_getElem hlt9)
          · exact Tr.Bd.one (hylt.bd.mem List.mem_cons_self).2 (List.mem_of_getElem? HZ.out.2.2.1)
          · rw [HTO.out, Tr.put_in (x := N1.tr ⟨yk, yt, yn, .slice (some ⟨zb, zoff, none⟩) ykids.length yc, ykids⟩) HZ.out.2.2.1, Option.map_map]
            rfl
        have hga : g < W.heap.size := (Array.getElem?_eq_some_iff.1 hWg).1
        rw [hW] at t4
        clear hown hnn hb1 hgb m2 m3 m4 hhb h1b hWb hcur hylt hWo hWg hsW HY HCB HZ HTO HC hga
        gi_wp2
        rw [← hW]
        refine ⟨⟨k + 1, g, q * 4, _, _, by omega, by simp, by simp, HNEW.out⟩, by simp [intOf]; omega⟩
      · have hon : o = none := by
          rw [HO.out, hto, Tr.put_out hp]; rfl
        subst hon
        obtain ⟨Z, hZ⟩ : ∃ Z, Z = (((wr.setCell ⟨w.heap.size + 2, 0, none⟩ (.int .u8 0)).setCell ⟨w.heap.size + 2, 1, none⟩ (.string ⟨#[]⟩)).setCell ⟨w.heap.size + 2, 2, none⟩ (.int .i64 0)).setCell ⟨w.heap.size + 2, 3, none⟩ (.slice none 0 0) := ⟨_, rfl⟩
        have hzk := four_keep wr _ _ _ _ _ Z hZ
        have hzr : Z.heap[w.heap.size + 2]? = some (.cells #[.int .u8 0, .string ⟨#[]⟩, .int .i64 0, .slice none 0 0] 25 (0, 0)) := by rw [hZ]; exact four_cells hy.resB _ _ _ _
        have e0 : Z.cell? ⟨w.heap.size + 2, 0, none⟩ = some (.int .u8 0) := cells_at hzr rfl
        have e1 : Z.cell? ⟨w.heap.size + 2, 1, none⟩ = some (.string ⟨#[]⟩) := cells_at hzr rfl
        have e2 : Z.cell? ⟨w.heap.size + 2, 2, none⟩ = some (.int .i64 0) := cells_at hzr rfl
        have e3 : Z.cell? ⟨w.heap.size + 2, 3, none⟩ = some (.slice none 0 0) := cells_at hzr rfl
        have HB : Hid (Below w.heap.size w Z) := hy.below.trans (hzk.1.mono (by omega))
        clear hy hto hzk hzr hcb hcc HO
        by_cases hneg : p < 0
        · have d1 : decide (p < 0) = true := decide_eq_true hneg
          gi_wp2
          rw [← hZ]
          refine bodyPost_ret (v := .tuple #[.agg #[.int .u8 0, .string ⟨#[]⟩, .int .i64 0, .slice none 0 0], .int .i64 6]) (by simp [results, Try.results18, go_sem, e0, e1, e2, e3]) rfl ⟨HB.out, _, rfl, nodeR_zero _ _⟩
        · have d1 : decide (p < 0) = false := decide_eq_false hneg
          have d2 : decide ((ykids.length : Int) ≤ p) = true := decide_eq_true (by omega)
          gi_wp2
          rw [← hZ]
          refine bodyPost_ret (v := .tuple #[.agg #[.int .u8 0, .string ⟨#[]⟩, .int .i64 0, .slice none 0 0], .int .i64 6]) (by simp [results, Try.results18, go_sem, e0, e1, e2, e3]) rfl ⟨HB.out, _, rfl, nodeR_zero _ _⟩
    · have hkN : k = N := by omega
      subst hkN
      have hos : o = some (C kid) := by
        rw [HO.out, hy.to, HN.out, List.drop_length]; rfl
      have hbd : Tr.Bd [C kid] := Tr.Bd.put (HO.out.symm.trans hos) HBD.out
      subst hos
      have k0 : wr.cell? ⟨w.heap.size + 1, 0, none⟩ = some (.int .u8 dk) := cells_at hy.kidB rfl
      have k1 : wr.cell? ⟨w.heap.size + 1, 1, none⟩ = some (.string (Ln.bs dt)) := cells_at hy.kidB rfl
      have k2 : wr.cell? ⟨w.heap.size + 1, 2, none⟩ = some (.int .i64 dn) := cells_at hy.kidB rfl
      have k3 : wr.cell? ⟨w.heap.size + 1, 3, none⟩ = some (.slice da dkids.length dc) := cells_at hy.kidB rfl
      obtain ⟨Z, hZ⟩ : ∃ Z, Z = (((wr.setCell ⟨hb, ho, none⟩ (.int .u8 dk)).setCell ⟨hb, ho + 1, none⟩ (.string (Ln.bs dt))).setCell ⟨hb, ho + 2, none⟩ (.int .i64 dn)).setCell ⟨hb, ho + 3, none⟩ (.slice da dkids.length dc) := ⟨_, rfl⟩
      obtain ⟨c', hZb, hZo, hZi, hZs, hZk, hZB⟩ := four_at hcb hc3 _ _ _ _ Z hZ
      have hbr := hy.hbr
      have hlow : ∀ b, b < w.heap.size → Z.heap[b]? = w.heap[b]? := fun b hb0 => (hZk b (by omega)).trans (hy.below.block b hb0)
      have hbZ : Below w.heap.size w Z := ⟨hZB.os.trans hy.below.os, hZB.tape.trans hy.below.tape, hZB.output.trans hy.below.output, by rw [hZs]; exact hy.below.size, hlow⟩
      obtain ⟨⟨rk, rt, rn, rv, rkids⟩, hroot, hrt, hrf, hrr⟩ := hy.hole Z ⟨dk, dt, dn, .slice da dkids.length dc, dkids⟩ c c' (by omega) (fun b hb1 _ => hZk b hb1) hcb hZb hZo hZi HKID.out.2.1 (HKID.out.2.2.keep (fun b hb9 => hlow b hb9) (fun b hb9 => .inl hb9))
      rw [HKID.out.1] at hrt
      obtain ⟨ra, rc, hrv⟩ := hrr.slice
      simp only at hrv
      subst hrv
      simp only at hroot hrr
      have hSP : ∀ b, SP w Z b → b < Z.heap.size := fun b hb9 => by
        rcases hb9 with h | h
        · rw [hZs]; omega
        · exact h.2
      have hresZ : Z.heap[w.heap.size + 2]? = some (.cells #[.int .u8 0, .string ⟨#[]⟩, .int .i64 0, .slice none 0 0] 25 (0, 0)) := (hZk _ (by omega)).trans hy.resB
      have HNR : Hid (NodeR (SP w Z) Z (.agg #[.int .u8 rk, .string (Ln.bs rt), .int .i64 rn, .slice ra rkids.length rc]) (C kid)) := ⟨⟨rk, rt, rn, .slice ra rkids.length rc, rkids⟩, rfl, hrt, hrf, hrr⟩
      have HRG : Hid (_) := tright_any (SP w Z) (C kid) _ Z hSP HNR.out
      have HZ : Hid (Below w.heap.size w Z ∧ Z.heap[w.heap.size]? = some (.cells #[.int .u8 rk, .string (Ln.bs rt), .int .i64 rn, .slice ra rkids.length rc] 25 (0, 0)) ∧ Z.heap[w.heap.size + 2]? = some (.cells #[.int .u8 0, .string ⟨#[]⟩, .int .i64 0, .slice none 0 0] 25 (0, 0)) ∧ (∀ b, SP w Z b → b < Z.heap.size) ∧ Tr.Bd [C kid]) := ⟨hbZ, hroot, hresZ, hSP, hbd⟩
      have n0 : Z.cell? ⟨w.heap.size, 0, none⟩ = some (.int .u8 rk) := cells_at hroot rfl
      have n1 : Z.cell? ⟨w.heap.size, 1, none⟩ = some (.string (Ln.bs rt)) := cells_at hroot rfl
      have n2 : Z.cell? ⟨w.heap.size, 2, none⟩ = some (.int .i64 rn) := cells_at hroot rfl
      have n3 : Z.cell? ⟨w.heap.size, 3, none⟩ = some (.slice ra rkids.length rc) := cells_at hroot rfl
      rw [hZ] at n0 n1 n2 n3
      clear hy hcb hcc hZb hZo hZi hZs hZk hZB hbr hlow hbZ hroot hrt hrf hrr hSP hresZ hbd HO HKID HBD r0 r1 r2 r3 fR
      gi_wp2
      rw [← hZ]
      refine ⟨trivial, ?_⟩
      refine (callsIn_wide.2 HRG.out).mono ?_
      rintro e w1 ⟨rfl, hb1⟩
      have hres1 : w1.heap[w.heap.size + 2]? = some (.cells #[.int .u8 0, .string ⟨#[]⟩, .int .i64 0, .slice none 0 0] 25 (0, 0)) := (hb1.block _ (Array.getElem?_eq_some_iff.1 HZ.out.2.2.1).1).trans HZ.out.2.2.1
      have hroot1 : w1.heap[w.heap.size]? = some (.cells #[.int .u8 rk, .string (Ln.bs rt), .int .i64 rn, .slice ra rkids.length rc] 25 (0, 0)) := (hb1.block _ (Array.getElem?_eq_some_iff.1 HZ.out.2.1).1).trans HZ.out.2.1
      have q0 : w1.cell? ⟨w.heap.size + 2, 0, none⟩ = some (.int .u8 0) := cells_at hres1 rfl
      have q1 : w1.cell? ⟨w.heap.size + 2, 1, none⟩ = some (.string ⟨#[]⟩) := cells_at hres1 rfl
      have q2 : w1.cell? ⟨w.heap.size + 2, 2, none⟩ = some (.int .i64 0) := cells_at hres1 rfl
      have q3 : w1.cell? ⟨w.heap.size + 2, 3, none⟩ = some (.slice none 0 0) := cells_at hres1 rfl
      have fq : ∀ j, w1.frozen? ⟨w.heap.size + 2, j, none⟩ = false := fun j => frozen_of_row w1 _ j _ _ hres1
      have B1 : Hid (Below Z.heap.size Z w1) := hb1
      have HR1 : Hid (w1.heap[w.heap.size + 2]? = some (.cells #[.int .u8 0, .string ⟨#[]⟩, .int .i64 0, .slice none 0 0] 25 (0, 0)) ∧ w1.heap[w.heap.size]? = some (.cells #[.int .u8 rk, .string (Ln.bs rt), .int .i64 rn, .slice ra rkids.length rc] 25 (0, 0))) := ⟨hres1, hroot1⟩
      clear hb1 hres1 hroot1 HRG n0 n1 n2 n3 g0 g1 g2 g3 k0 k1 k2 k3 fH hZ
      cases hrg : Tr.right 40 (C kid)
      · have hpr : Tr.putRes (some (C kid)) = (4, Tr.zero) := by simp [Tr.putRes, hrg]
        have HPR : Hid (Tr.putRes (some (C kid)) = (4, Tr.zero)) := hpr
        clear hpr
        obtain ⟨V, hV⟩ : ∃ V, V = (((w1.setCell ⟨w.heap.size + 2, 0, none⟩ (.int .u8 0)).setCell ⟨w.heap.size + 2, 1, none⟩ (.string ⟨#[]⟩)).setCell ⟨w.heap.size + 2, 2, none⟩ (.int .i64 0)).setCell ⟨w.heap.size + 2, 3, none⟩ (.slice none 0 0) := ⟨_, rfl⟩
        have hzk := four_keep w1 _ _ _ _ _ V hV
        have hzr : V.heap[w.heap.size + 2]? = some (.cells #[.int .u8 0, .string ⟨#[]⟩, .int .i64 0, .slice none 0 0] 25 (0, 0)) := by rw [hV]; exact four_cells HR1.out.1 _ _ _ _
        have e0 : V.cell? ⟨w.heap.size + 2, 0, none⟩ = some (.int .u8 0) := cells_at hzr rfl
        have e1 : V.cell? ⟨w.heap.size + 2, 1, none⟩ = some (.string ⟨#[]⟩) := cells_at hzr rfl
        have e2 : V.cell? ⟨w.heap.size + 2, 2, none⟩ = some (.int .i64 0) := cells_at hzr rfl
        have e3 : V.cell? ⟨w.heap.size + 2, 3, none⟩ = some (.slice none 0 0) := cells_at hzr rfl
        have HB : Hid (Below w.heap.size w V) := (below_then HZ.out.1 B1.out).trans (hzk.1.mono (by omega))
        clear hzk hzr
        gi_wp2
        rw [← hV]
        refine bodyPost_ret (v := .tuple #[.agg #[.int .u8 0, .string ⟨#[]⟩, .int .i64 0, .slice none 0 0], .int .i64 4]) (by simp [results, Try.results18, go_sem, e0, e1, e2, e3]) rfl ⟨HB.out, _, by rw [HPR.out], by rw [HPR.out]; exact nodeR_zero _ _⟩
      · have hpr : Tr.putRes (some (C kid)) = (0, C kid) := by simp [Tr.putRes, hrg]
        have HPR : Hid (Tr.putRes (some (C kid)) = (0, C kid)) := hpr
        have m0 : w1.cell? ⟨w.heap.size, 0, none⟩ = some (.int .u8 rk) := cells_at HR1.out.2 rfl
        have m1 : w1.cell? ⟨w.heap.size, 1, none⟩ = some (.string (Ln.bs rt)) := cells_at HR1.out.2 rfl
        have m2 : w1.cell? ⟨w.heap.size, 2, none⟩ = some (.int .i64 rn) := cells_at HR1.out.2 rfl
        have m3 : w1.cell? ⟨w.heap.size, 3, none⟩ = some (.slice ra rkids.length rc) := cells_at HR1.out.2 rfl
        obtain ⟨xr, exr, etr, efr, err⟩ := HNR.out
        have HC : Hid (_) := tcopied_any (SP w Z) (C kid) (.agg #[.int .u8 rk, .string (Ln.bs rt), .int .i64 rn, .slice ra rkids.length rc]) w1 (fun b hb9 => Nat.lt_of_lt_of_le (HZ.out.2.2.2.1 b hb9) B1.out.size) ⟨xr, exr, etr, efr, err.keep (fun b hb9 => B1.out.block b (HZ.out.2.2.2.1 b hb9)) (fun _ h => h)⟩ HZ.out.2.2.2.2
        clear hpr xr exr etr efr err
        gi_wp2
        refine ⟨trivial, ?_⟩
        refine (callsIn_wide.2 HC.out).mono ?_
        rintro e w2 ⟨r, rfl, ⟨⟨zk, zt, zn, zv, zkids⟩, rfl, hzt, zf, zr⟩, hb2⟩
        obtain ⟨za, zc, hzv⟩ := zr.slice
        simp only at hzv
        subst hzv
        simp only [N1.cells]
        have hsz1 := (Array.getElem?_eq_some_iff.1 HR1.out.1).1
        have hr1 : w2.heap[w.heap.size + 2]? = some (.cells #[.int .u8 0, .string ⟨#[]⟩, .int .i64 0, .slice none 0 0] 25 (0, 0)) := (hb2.block _ hsz1).trans HR1.out.1
        have p0 : w2.cell? ⟨w.heap.size + 2, 0, none⟩ = some (.int .u8 0) := cells_at hr1 rfl
        have p1 : w2.cell? ⟨w.heap.size + 2, 1, none⟩ = some (.string ⟨#[]⟩) := cells_at hr1 rfl
        have p2 : w2.cell? ⟨w.heap.size + 2, 2, none⟩ = some (.int .i64 0) := cells_at hr1 rfl
        have p3 : w2.cell? ⟨w.heap.size + 2, 3, none⟩ = some (.slice none 0 0) := cells_at hr1 rfl
        have fp : ∀ j, w2.frozen? ⟨w.heap.size + 2, j, none⟩ = false := fun j => frozen_of_row w2 _ j _ _ hr1
        obtain ⟨V, hV⟩ : ∃ V, V = (((w2.setCell ⟨w.heap.size + 2, 0, none⟩ (.int .u8 zk)).setCell ⟨w.heap.size + 2, 1, none⟩ (.string (Ln.bs zt))).setCell ⟨w.heap.size + 2, 2, none⟩ (.int .i64 zn)).setCell ⟨w.heap.size + 2, 3, none⟩ (.slice za zkids.length zc) := ⟨_, rfl⟩
        have hzk := four_keep w2 _ _ _ _ _ V hV
        have hzr : V.heap[w.heap.size + 2]? = some (.cells #[.int .u8 zk, .string (Ln.bs zt), .int .i64 zn, .slice za zkids.length zc] 25 (0, 0)) := by rw [hV]; exact four_cells hr1 _ _ _ _
        have e0 : V.cell? ⟨w.heap.size + 2, 0, none⟩ = some (.int .u8 zk) := cells_at hzr rfl
        have e1 : V.cell? ⟨w.heap.size + 2, 1, none⟩ = some (.string (Ln.bs zt)) := cells_at hzr rfl
        have e2 : V.cell? ⟨w.heap.size + 2, 2, none⟩ = some (.int .i64 zn) := cells_at hzr rfl
        have e3 : V.cell? ⟨w.heap.size + 2, 3, none⟩ = some (.slice za zkids.length zc) := cells_at hzr rfl
        have HF : Hid (PutPost (some (C kid)) w (.returned (.tuple #[.agg #[.int .u8 zk, .string (Ln.bs zt), .int .i64 zn, .slice za zkids.length zc], .int .i64 0])) V) := by
          refine ⟨(below_then HZ.out.1 (below_then B1.out hb2)).trans (hzk.1.mono (by omega)), _, by rw [HPR.out], ?_⟩
          rw [HPR.out]
          refine ⟨⟨zk, zt, zn, .slice za zkids.length zc, zkids⟩, rfl, hzt, zf, zr.keep (fun b hb9 => hzk.2.2 b ?_) (fun b hb9 => ?_)⟩
          · rcases hb9 with (hb9 | hb9) | hb9
            · omega
            · omega
            · omega
          · show b < V.heap.size
            rw [hzk.2.1]
            rcases hb9 with hb9 | hb9
            · exact Nat.lt_of_lt_of_le (HZ.out.2.2.2.1 b hb9) (Nat.le_trans B1.out.size hb2.size)
            · exact hb9.2
        clear hzr hzk hr1 hb2 HR1 HC zr zf hzt hsz1 HNR HZ B1
        gi_wp2
        rw [← hV]
        exact bodyPost_ret (v := .tuple #[.agg #[.int .u8 zk, .string (Ln.bs zt), .int .i64 zn, .slice za zkids.length zc], .int .i64 0]) (by simp [results, Try.results18, go_sem, e0, e1, e2, e3]) rfl HF.out
end Go.Proofs.Ytejnleigjjaenaa
