/-
  The walk of tree.Get.
-/
import Derived.Test.YtejnleigjjaenaaTrCopy
namespace Go.Proofs.Ytejnleigjjaenaa
open Go.RowKit Go.Shelf

attribute [local go_sem] Oper.semAt_some

def Tr.zero : Tr := .mk 0 [] 0 []
theorem rowR_nil (S : Nat → Prop) (w : World) : RowR S w (.slice none 0 0) [] :=
  .mk [] rfl ⟨none, 0, 0, 0, rfl, ⟨Nat.le_refl _, fun _ => rfl⟩, fun h => absurd h (by simp), fun j u hu => by simp [n1Cells] at hu⟩ (by simp) (by simp) (by simp)
theorem nodeR_zero (S : Nat → Prop) (w : World) : NodeR S w (.agg #[.int .u8 0, .string ⟨#[]⟩, .int .i64 0, .slice none 0 0]) Tr.zero :=
  ⟨⟨0, [], 0, .slice none 0 0, []⟩, rfl, rfl, by simp [N1.Fit], rowR_nil S w⟩

/-- A path, as it lies in memory. -/
def PathLow (m : Nat) (w : World) (v : Value) (T : List Int) : Prop := CellsLow m w v T.length (T.map (Value.int .i64))
theorem PathLow.parts {m : Nat} {w : World} {v : Value} {T : List Int} (h : PathLow m w v T) : ∃ ao cap b off, v = .slice ao T.length cap ∧ (0 < T.length → ao = some ⟨b, off, none⟩ ∧ b < m) ∧ ∀ (j : Nat) (x : Int), T[j]? = some x → w.cell? ⟨b, off + j, none⟩ = some (.int .i64 x) := by
  obtain ⟨ao, cap, b, off, hv, -, ha, hx⟩ := h
  exact ⟨ao, cap, b, off, hv, ha, fun j x hj => hx j _ (by rw [List.getElem?_map, hj]; rfl)⟩
theorem PathLow.at {A B : World} {v : Value} {T : List Int} (h : PathLow A.heap.size A v T) (hb : Below A.heap.size A B) : PathLow B.heap.size B v T := CellsLow.at h hb (fun h0 => by rw [List.length_eq_zero_iff.1 h0]; rfl)

def GetPost (o : Option Tr) (w : World) (e : Ending) (w' : World) : Prop := Below w.heap.size w w' ∧ ∃ r, e = .returned (.tuple #[r, .bool o.isSome]) ∧ NodeR (lowS w'.heap.size) w' r (o.getD Tr.zero)

/-- The node that a path has led to so far, in a block of its own. -/
structure GetAt (w : World) (o : Option Tr) (T : List Int) (i : Nat) (wr : World) (y : N1) : Prop where
  below : Below w.heap.size w wr
  node : wr.heap[w.heap.size]? = some (.cells #[.int .u8 y.k, .string (Ln.bs y.t), .int .i64 y.n, y.v] 25 (0, 0))
  res : wr.heap[w.heap.size + 1]? = some (.cells #[.int .u8 0, .string ⟨#[]⟩, .int .i64 0, .slice none 0 0] 25 (0, 0))
  fit : y.Fit
  row : RowR (lowS w.heap.size) w y.v y.kids
  bd : Tr.Bd [y.tr]
  to : Tr.get (T.drop i) y.tr = o

set_option maxRecDepth 100000 in
set_option maxHeartbeats 4000000 in
theorem get_any (t : Tr) (v pv : Value) (T : List Int) (w : World) (hv : NodeR (lowS w.heap.size) w v t) (ht : Tr.Bd [t]) (hp : PathLow w.heap.size w pv T) (hT : T.length ≤ 1000000) :
    Calls Try.prog 17 #[v, pv] w (GetPost (Tr.get T t) w) := by
  obtain ⟨⟨xk, xt, xn, xv, xkids⟩, rfl, rfl, hf, hr⟩ := hv
  obtain ⟨xa, xc, hxv⟩ := hr.slice
  simp only at hxv
  subst hxv
  obtain ⟨pao, pcap, pb, poff, rfl, hpa, hpc⟩ := hp.parts
  obtain ⟨o, ho⟩ : ∃ o, o = Tr.get T (N1.tr ⟨xk, xt, xn, .slice xa xkids.length xc, xkids⟩) := ⟨_, rfl⟩
  rw [← ho]
  have HST : Hid (GetAt w o T 0 ((w.alloc (.cells #[.int .u8 xk, .string (Ln.bs xt), .int .i64 xn, .slice xa xkids.length xc] 25)).alloc (.cells #[.int .u8 0, .string ⟨#[]⟩, .int .i64 0, .slice none 0 0] 25)) ⟨xk, xt, xn, .slice xa xkids.length xc, xkids⟩) := by
    have s1 : (w.alloc (.cells #[.int .u8 xk, .string (Ln.bs xt), .int .i64 xn, .slice xa xkids.length xc] 25)).heap.size = w.heap.size + 1 := World.size_alloc _ _
    refine ⟨below_then (below_new w _) (below_new _ _), ?_, ?_, hf, hr, ht, by rw [ho]; rfl⟩
    · exact ((below_new _ _).block _ (by omega)).trans (World.alloc_heap_new w _)
    · rw [← s1]; exact World.alloc_heap_new _ _
  have HPC : Hid (_) := hpc
  clear hpc hf hr ht hp ho
  obtain ⟨N, hN⟩ : ∃ N, N = T.length := ⟨_, rfl⟩
  have HN : Hid (N = T.length) := hN
  rw [← hN] at hpa hT ⊢
  clear hN
  simp only [N1.cells]
  refine (callsIn_wide (n := 3)).1 ?_
  refine callsIn_of_wp Try.func17 rfl trivial ?_ rfl
  simp only [Try.ntmps17, List.size_toArray, List.length_cons, List.length_nil, Nat.reduceAdd, Nat.reduceSub, Array.replicate_succ, Array.replicate_zero, List.push_toArray, List.append_toArray, List.nil_append, List.cons_append]
  gi_wp2
  gi_loopw [10] (fun i wr => ∃ k : Nat, k ≤ N ∧ i = .int .i64 k ∧ ∃ y : N1, GetAt w o T k wr y) (fun i _ => N - (intOf i).toNat)
  case atStart => exact ⟨0, Nat.zero_le _, rfl, _, HST.out⟩
  case round =>
    clear HST
    obtain ⟨k, hk, rfl, y, hy⟩ := hrel
    obtain ⟨yk, yt, yn, yv, ykids⟩ := y
    obtain ⟨ya, yc, hyv⟩ := hy.row.slice
    simp only at hyv
    subst hyv
    have c0 : wr.cell? ⟨w.heap.size, 0, none⟩ = some (.int .u8 yk) := cells_at hy.node rfl
    have c1 : wr.cell? ⟨w.heap.size, 1, none⟩ = some (.string (Ln.bs yt)) := cells_at hy.node rfl
    have c2 : wr.cell? ⟨w.heap.size, 2, none⟩ = some (.int .i64 yn) := cells_at hy.node rfl
    have c3 : wr.cell? ⟨w.heap.size, 3, none⟩ = some (.slice ya ykids.length yc) := cells_at hy.node rfl
    have r0 : wr.cell? ⟨w.heap.size + 1, 0, none⟩ = some (.int .u8 0) := cells_at hy.res rfl
    have r1 : wr.cell? ⟨w.heap.size + 1, 1, none⟩ = some (.string ⟨#[]⟩) := cells_at hy.res rfl
    have r2 : wr.cell? ⟨w.heap.size + 1, 2, none⟩ = some (.int .i64 0) := cells_at hy.res rfl
    have r3 : wr.cell? ⟨w.heap.size + 1, 3, none⟩ = some (.slice none 0 0) := cells_at hy.res rfl
    have fN : ∀ j, wr.frozen? ⟨w.heap.size, j, none⟩ = false := fun j => frozen_of_row wr _ j _ _ hy.node
    have fR : ∀ j, wr.frozen? ⟨w.heap.size + 1, j, none⟩ = false := fun j => frozen_of_row wr _ j _ _ hy.res
    by_cases hlt : k < N
    · obtain ⟨rfl, hpb⟩ := hpa (by omega)
      obtain ⟨p, hpk⟩ : ∃ p, T[k]? = some p := ⟨T[k]'(by have := HN.out; omega), List.getElem?_eq_getElem _⟩
      have edrop : T.drop k = p :: T.drop (k + 1) := by
        have hk' : k < T.length := by have := HN.out; omega
        rw [List.drop_eq_getElem_cons hk']
        rw [List.getElem?_eq_getElem hk'] at hpk
        cases hpk; rfl
      have gp : wr.cell? ⟨pb, poff + k, none⟩ = some (.int .i64 p) := (hy.below.cell (p := ⟨pb, poff + k, none⟩) hpb).trans (HPC.out k p hpk)
      have hto := hy.to
      rw [edrop] at hto
      by_cases hp : 0 ≤ p ∧ p < ykids.length
      · have d1 : decide (p < 0) = false := decide_eq_false (by omega)
        have d2 : decide ((ykids.length : Int) ≤ p) = false := decide_eq_false (by omega)
        obtain ⟨q, rfl⟩ : ∃ q : Nat, p = q := ⟨p.toNat, by omega⟩
        obtain ⟨zs, za, zc, zb, zoff, ez, hzv, -, hza, hzl, hz⟩ := hy.row.parts
        simp only at ez hzv hza hzl
        cases hzv
        obtain ⟨rfl, hzb⟩ := hza (by omega)
        have hzb' : zb < w.heap.size := hzb
        have hql : q < zs.length := by rw [ez, List.length_map] at hp; omega
        obtain ⟨⟨zk, zt, zn, zv, zkids⟩, hzq⟩ : ∃ z, zs[q]? = some z := ⟨zs[q], List.getElem?_eq_getElem hql⟩
        obtain ⟨zf, zr, z0, z1, z2, z3⟩ := hz q _ hzq
        simp only at z0 z1 z2 z3 zr
        have tr : ∀ j u, w.cell? ⟨zb, j, none⟩ = some u → wr.cell? ⟨zb, j, none⟩ = some u := fun j u h => (hy.below.cell (p := ⟨zb, j, none⟩) hzb').trans h
        replace z0 := tr _ _ z0
        replace z1 := tr _ _ z1
        replace z2 := tr _ _ z2
        replace z3 := tr _ _ z3
        obtain ⟨za2, zc2, hzv2⟩ := zr.slice
        subst hzv2
        obtain ⟨Z, hZ⟩ : ∃ Z, Z = (((wr.setCell ⟨w.heap.size, 0, none⟩ (.int .u8 zk)).setCell ⟨w.heap.size, 1, none⟩ (.string (Ln.bs zt))).setCell ⟨w.heap.size, 2, none⟩ (.int .i64 zn)).setCell ⟨w.heap.size, 3, none⟩ (.slice za2 zkids.length zc2) := ⟨_, rfl⟩
        have hzk := four_keep wr _ _ _ _ _ Z hZ
        have hkq : ykids[q]? = some (N1.tr ⟨zk, zt, zn, .slice za2 zkids.length zc2, zkids⟩) := by rw [ez, List.getElem?_map, hzq]; rfl
        have HG : Hid (GetAt w o T (k + 1) Z ⟨zk, zt, zn, .slice za2 zkids.length zc2, zkids⟩) := by
          refine ⟨hy.below.trans hzk.1, by rw [hZ]; exact four_cells hy.node _ _ _ _, (hzk.2.2 _ (by omega)).trans hy.res, zf, zr, Tr.Bd.one (hy.bd.mem List.mem_cons_self).2 (List.mem_of_getElem? hkq), ?_⟩
          rw [← hto]
          exact (Tr.get_in (x := N1.tr ⟨yk, yt, yn, _, ykids⟩) hkq).symm
        have hqk : (q : Int) < ykids.length := hp.2
        clear hy hto hz hza ez hzk hkq hzq tr zr zf hp
        gi_wp2
        rw [← hZ]
        refine ⟨⟨k + 1, by omega, by simp, _, HG.out⟩, by simp [intOf]; omega⟩
      · have ho : o = none := by
          rw [← hto]
          exact Tr.get_out hp
        subst ho
        obtain ⟨Z, hZ⟩ : ∃ Z, Z = (((wr.setCell ⟨w.heap.size + 1, 0, none⟩ (.int .u8 0)).setCell ⟨w.heap.size + 1, 1, none⟩ (.string ⟨#[]⟩)).setCell ⟨w.heap.size + 1, 2, none⟩ (.int .i64 0)).setCell ⟨w.heap.size + 1, 3, none⟩ (.slice none 0 0) := ⟨_, rfl⟩
        have hzk := four_keep wr _ _ _ _ _ Z hZ
        have hzr : Z.heap[w.heap.size + 1]? = some (.cells #[.int .u8 0, .string ⟨#[]⟩, .int .i64 0, .slice none 0 0] 25 (0, 0)) := by rw [hZ]; exact four_cells hy.res _ _ _ _
        have e0 : Z.cell? ⟨w.heap.size + 1, 0, none⟩ = some (.int .u8 0) := cells_at hzr rfl
        have e1 : Z.cell? ⟨w.heap.size + 1, 1, none⟩ = some (.string ⟨#[]⟩) := cells_at hzr rfl
        have e2 : Z.cell? ⟨w.heap.size + 1, 2, none⟩ = some (.int .i64 0) := cells_at hzr rfl
        have e3 : Z.cell? ⟨w.heap.size + 1, 3, none⟩ = some (.slice none 0 0) := cells_at hzr rfl
        have HB : Hid (Below w.heap.size w Z) := hy.below.trans (hzk.1.mono (by omega))
        have END : ∀ (tm : Array Value) (d : List Deferred), tm[4]? = some (.pointer (some ⟨w.heap.size + 1, 0, none⟩)) → tm[5]? = some (.bool false) → True := fun _ _ _ _ => trivial
        clear hy hto hzk hzr END
        by_cases hneg : p < 0
        · have d1 : decide (p < 0) = true := decide_eq_true hneg
          gi_wp2
          rw [← hZ]
          refine bodyPost_ret (v := .tuple #[.agg #[.int .u8 0, .string ⟨#[]⟩, .int .i64 0, .slice none 0 0], .bool false]) (by simp [results, Try.results17, go_sem, e0, e1, e2, e3]) rfl ⟨HB.out, _, rfl, nodeR_zero _ _⟩
        · have d1 : decide (p < 0) = false := decide_eq_false hneg
          have d2 : decide ((ykids.length : Int) ≤ p) = true := decide_eq_true (by omega)
          gi_wp2
          rw [← hZ]
          refine bodyPost_ret (v := .tuple #[.agg #[.int .u8 0, .string ⟨#[]⟩, .int .i64 0, .slice none 0 0], .bool false]) (by simp [results, Try.results17, go_sem, e0, e1, e2, e3]) rfl ⟨HB.out, _, rfl, nodeR_zero _ _⟩
    · have hkN : k = N := by omega
      subst hkN
      have ho : o = some (N1.tr ⟨yk, yt, yn, .slice ya ykids.length yc, ykids⟩) := by
        rw [← hy.to, HN.out, List.drop_length]; rfl
      subst ho
      have HC : Hid (_) := tcopied_any (lowS w.heap.size) _ (.agg #[.int .u8 yk, .string (Ln.bs yt), .int .i64 yn, .slice ya ykids.length yc]) wr (fun b hb => Nat.lt_of_lt_of_le hb hy.below.size) ⟨⟨yk, yt, yn, .slice ya ykids.length yc, ykids⟩, rfl, rfl, hy.fit, hy.row.keep (fun b hb => hy.below.block b hb) (fun _ h => h)⟩ hy.bd
      have HR : Hid (wr.heap[w.heap.size + 1]? = some (.cells #[.int .u8 0, .string ⟨#[]⟩, .int .i64 0, .slice none 0 0] 25 (0, 0)) ∧ Below w.heap.size w wr) := ⟨hy.res, hy.below⟩
      clear hy
      gi_wp2
      refine ⟨trivial, ?_⟩
      refine (callsIn_wide.2 HC.out).mono ?_
      rintro e w1 ⟨r, rfl, ⟨⟨zk, zt, zn, zv, zkids⟩, rfl, hzt, zf, zr⟩, hb1⟩
      obtain ⟨za, zc, hzv⟩ := zr.slice
      simp only at hzv
      subst hzv
      simp only [N1.cells]
      have hsz := (Array.getElem?_eq_some_iff.1 HR.out.1).1
      have hr1 : w1.heap[w.heap.size + 1]? = some (.cells #[.int .u8 0, .string ⟨#[]⟩, .int .i64 0, .slice none 0 0] 25 (0, 0)) := (hb1.block _ hsz).trans HR.out.1
      have q0 : w1.cell? ⟨w.heap.size + 1, 0, none⟩ = some (.int .u8 0) := cells_at hr1 rfl
      have q1 : w1.cell? ⟨w.heap.size + 1, 1, none⟩ = some (.string ⟨#[]⟩) := cells_at hr1 rfl
      have q2 : w1.cell? ⟨w.heap.size + 1, 2, none⟩ = some (.int .i64 0) := cells_at hr1 rfl
      have q3 : w1.cell? ⟨w.heap.size + 1, 3, none⟩ = some (.slice none 0 0) := cells_at hr1 rfl
      have fq : ∀ j, w1.frozen? ⟨w.heap.size + 1, j, none⟩ = false := fun j => frozen_of_row w1 _ j _ _ hr1
      obtain ⟨Z, hZ⟩ : ∃ Z, Z = (((w1.setCell ⟨w.heap.size + 1, 0, none⟩ (.int .u8 zk)).setCell ⟨w.heap.size + 1, 1, none⟩ (.string (Ln.bs zt))).setCell ⟨w.heap.size + 1, 2, none⟩ (.int .i64 zn)).setCell ⟨w.heap.size + 1, 3, none⟩ (.slice za zkids.length zc) := ⟨_, rfl⟩
      have hzk := four_keep w1 _ _ _ _ _ Z hZ
      have hzr : Z.heap[w.heap.size + 1]? = some (.cells #[.int .u8 zk, .string (Ln.bs zt), .int .i64 zn, .slice za zkids.length zc] 25 (0, 0)) := by rw [hZ]; exact four_cells hr1 _ _ _ _
      have e0 : Z.cell? ⟨w.heap.size + 1, 0, none⟩ = some (.int .u8 zk) := cells_at hzr rfl
      have e1 : Z.cell? ⟨w.heap.size + 1, 1, none⟩ = some (.string (Ln.bs zt)) := cells_at hzr rfl
      have e2 : Z.cell? ⟨w.heap.size + 1, 2, none⟩ = some (.int .i64 zn) := cells_at hzr rfl
      have e3 : Z.cell? ⟨w.heap.size + 1, 3, none⟩ = some (.slice za zkids.length zc) := cells_at hzr rfl
      have HF : Hid (GetPost (some (N1.tr ⟨yk, yt, yn, .slice ya ykids.length yc, ykids⟩)) w (.returned (.tuple #[.agg #[.int .u8 zk, .string (Ln.bs zt), .int .i64 zn, .slice za zkids.length zc], .bool true])) Z) := by
        refine ⟨HR.out.2.trans ((hb1.mono HR.out.2.size).trans (hzk.1.mono (by omega))), _, rfl, ⟨⟨zk, zt, zn, .slice za zkids.length zc, zkids⟩, rfl, hzt, zf, ?_⟩⟩
        refine zr.keep (fun b hb => hzk.2.2 b ?_) (fun b hb => ?_)
        · rcases hb with hb | hb
          · have : b < w.heap.size := hb
            omega
          · omega
        · show b < Z.heap.size
          rw [hzk.2.1]
          rcases hb with hb | hb
          · have : b < w.heap.size := hb
            have := HR.out.2.size
            have := hb1.size
            omega
          · exact hb.2
      clear hzr hzk hr1 hb1 HR HC zr zf hzt hsz
      gi_wp2
      rw [← hZ]
      exact bodyPost_ret (v := .tuple #[.agg #[.int .u8 zk, .string (Ln.bs zt), .int .i64 zn, .slice za zkids.length zc], .bool true]) (by simp [results, Try.results17, go_sem, e0, e1, e2, e3]) rfl HF.out
end Go.Proofs.Ytejnleigjjaenaa
