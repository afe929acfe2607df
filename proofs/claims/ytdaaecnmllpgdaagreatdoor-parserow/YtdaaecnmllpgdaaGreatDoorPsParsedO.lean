/-
  The walk of parsed once more, the row of the Kids its own: a panic's fault, or the file's node, if it is right.
-/
import Derived.Test.YtdaaecnmllpgdaaGreatDoorEndAll
import Derived.Test.YtdaaecnmllpgdaaGreatDoorPsFileO
import Derived.Test.YtdaaecnmllpgdaaGreatDoorTrAll
namespace Go.Proofs.YtdaaecnmllpgdaaGreatDoor
open Go.RowKit Go.Shelf

attribute [local go_sem] Oper.semAt_some

/-- What parsed ends with. -/
def QEndO (l : List Lx.Tok) (w : World) (e : Ending) (w' : World) : Prop :=
  (∃ E i, Ps.Eats (.file []) l 0 (.bad E i) ∧ e = .returned (.tuple #[zeroV, .agg #[.int .i64 E, .int .i64 i]])) ∨
  (∃ ts l', Ps.Eats (.file []) l 0 (.ok ts l') ∧ ((Tr.right 40 (.mk 1 [] 0 ts) = false ∧ e = .returned (.tuple #[zeroV, .agg #[.int .i64 103, .int .i64 0]])) ∨ (Tr.right 40 (.mk 1 [] 0 ts) = true ∧ ∃ v, e = .returned (.tuple #[v, .agg #[.int .i64 0, .int .i64 0]]) ∧ FNode w.heap.size w' v ts)))

set_option maxRecDepth 100000 in
set_option maxHeartbeats 8000000 in
theorem parsedO_any (l : List Lx.Tok) (v : Value) (w : World) (hl : OkL l) (hv : TAt w v l) : Calls Tryz.prog 13 #[v] w fun e w' => Below w.heap.size w w' ∧ QEndO l w e w' := by
  have hmf : ∀ (fn : Fn) (first cap : Array Value) (w : World), (Instr.makeFunc fn first cap).run Tryz.prog w = .ok (.func fn first cap) w := fun _ _ _ _ => rfl
  obtain ⟨tb, o, c, rfl, ⟨tc, fr, htb⟩, hlc, hl8, htk⟩ := hv
  obtain ⟨A1, h1⟩ : ∃ A, A = w.alloc (.cells #[.int .u8 0, .string ⟨#[]⟩, .int .i64 0, .slice none 0 0] 26) := ⟨_, rfl⟩
  obtain ⟨A2, h2⟩ : ∃ A, A = A1.alloc (.cells #[.int .i64 0, .int .i64 0] 29) := ⟨_, rfl⟩
  obtain ⟨X, hX⟩ : ∃ A, A = A2.alloc (.cells #[.slice (some ⟨tb, o, none⟩) l.length c, .int .i64 0] 67) := ⟨_, rfl⟩
  have s1 : A1.heap.size = w.heap.size + 1 := by rw [h1, World.size_alloc]
  have s2 : A2.heap.size = w.heap.size + 1 + 1 := by rw [h2, World.size_alloc, s1]
  have sX : X.heap.size = w.heap.size + 1 + 1 + 1 := by rw [hX, World.size_alloc, s2]
  have b1 : Below w.heap.size w A1 := h1 ▸ below_new w _
  have b2 : Below A1.heap.size A1 A2 := h2 ▸ below_new A1 _
  have b3 : Below A2.heap.size A2 X := hX ▸ below_new A2 _
  have bX : Below w.heap.size w X := below_then (below_then b1 b2) b3
  have n1 : X.heap[w.heap.size]? = some (.cells #[.int .u8 0, .string ⟨#[]⟩, .int .i64 0, .slice none 0 0] 26 (0, 0)) := (b3.block _ (by omega)).trans ((b2.block _ (by omega)).trans (by rw [h1]; exact World.alloc_heap_new w _))
  have n2 : X.heap[w.heap.size + 1]? = some (.cells #[.int .i64 0, .int .i64 0] 29 (0, 0)) := (b3.block _ (by omega)).trans (by rw [h2, ← s1]; exact World.alloc_heap_new A1 _)
  have n3 : X.heap[w.heap.size + 1 + 1]? = some (.cells #[.slice (some ⟨tb, o, none⟩) l.length c, .int .i64 0] 67 (0, 0)) := by rw [hX, ← s2]; exact World.alloc_heap_new A2 _
  have htl := (Array.getElem?_eq_some_iff.1 htb).1
  have hPA : PAt (w.heap.size + 1 + 1) l 0 X := ⟨tb, o, c, by omega, ⟨tc, fr, (bX.block tb htl).trans htb⟩, n3, hlc, hl8, fun j u hu => (World.cell?_of_block (w := w) (a := ⟨tb, o + j, none⟩) (bX.block tb htl)).trans (htk j u hu)⟩
  have HF : Hid (_) := pfileO_any (w.heap.size + 1 + 1) 0 l X hl (by omega) hPA
  have HX : Hid (Below w.heap.size w X ∧ X.heap.size = w.heap.size + 1 + 1 + 1 ∧ X.heap[w.heap.size]? = some (.cells #[.int .u8 0, .string ⟨#[]⟩, .int .i64 0, .slice none 0 0] 26 (0, 0)) ∧ X.heap[w.heap.size + 1]? = some (.cells #[.int .i64 0, .int .i64 0] 29 (0, 0))) := ⟨bX, sX, n1, n2⟩
  clear htk htl htb hlc hl8 s1 s2 sX b1 b2 b3 bX n1 n2 n3 hPA
  obtain ⟨N, hN⟩ : ∃ N, N = l.length := ⟨_, rfl⟩
  rw [← hN] at hX ⊢
  clear hN
  go_enter_defers Tryz.func13, Tryz.ntmps13
  go_wp2_with fail
  rw [← h1, ← h2, ← hX]
  clear h1 h2 hX
  refine Calls.mono HF.out ?_
  rintro e w1 ⟨hg1, ⟨E, i, he, rfl⟩ | ⟨ts, l1, v, he, rfl, nd⟩⟩
  · obtain ⟨x1, x2, x3, x4⟩ := HX.out
    have y1 := (hg1.block _ (by omega) (by simp; omega)).trans x3
    have y2 := (hg1.block _ (by omega) (by simp)).trans x4
    refine leaves_cons (f := 28) (args := #[.pointer (some ⟨w.heap.size, 0, none⟩), .pointer (some ⟨w.heap.size + 1, 0, none⟩)]) (by simp) (by simp [go_sem]) ?_
    refine (pcatch_panicking w.heap.size (w.heap.size + 1) E i _ _ _ _ _ _ [] w1 y1 y2).mono ?_
    rintro e u' w2 ⟨rfl, rfl, k1, k2, k3, k4, k5, k6, k7⟩
    have j0 : w2.cell? ⟨w.heap.size, 0, none⟩ = some (.int .u8 0) := cells_at k1 rfl
    have j1 : w2.cell? ⟨w.heap.size, 1, none⟩ = some (.string ⟨#[]⟩) := cells_at k1 rfl
    have j2 : w2.cell? ⟨w.heap.size, 2, none⟩ = some (.int .i64 0) := cells_at k1 rfl
    have j3 : w2.cell? ⟨w.heap.size, 3, none⟩ = some (.slice none 0 0) := cells_at k1 rfl
    have i0 : w2.cell? ⟨w.heap.size + 1, 0, none⟩ = some (.int .i64 E) := cells_at k2 rfl
    have i1 : w2.cell? ⟨w.heap.size + 1, 1, none⟩ = some (.int .i64 i) := cells_at k2 rfl
    have HE : Hid (Below w.heap.size w w2 ∧ QEndO l w (.returned (.tuple #[zeroV, .agg #[.int .i64 E, .int .i64 i]])) w2) := by
      refine ⟨⟨k3.trans (hg1.os.trans x1.os), k4.trans (hg1.tape.trans x1.tape), k5.trans (hg1.output.trans x1.output), by have := hg1.size; omega, fun k hk => ?_⟩, .inl ⟨E, i, he, rfl⟩⟩
      exact (k7 k (by have := hg1.size; omega) (by omega) (by omega)).trans ((hg1.block k (by omega) (by simp; omega)).trans (x1.block k hk))
    simp [Leaves, settle, results, Tryz.results13, go_sem, j0, j1, j2, j3, i0, i1]
    exact HE.out
  obtain ⟨x1, x2, x3, x4⟩ := HX.out
  have y1 := (hg1.block _ (by omega) (by simp; omega)).trans x3
  have y2 := (hg1.block _ (by omega) (by simp)).trans x4
  obtain ⟨k, tx, n, a, L, c9, rfl⟩ := nd.pshape
  obtain ⟨p0, p1, p2, p3, pf, Z, hZ, hZr, gz⟩ := box_put y1 (.int .u8 k) (.string (Ln.bs tx)) (.int .i64 n) (.slice a L c9)
  have r0 : Z.cell? ⟨w.heap.size, 0, none⟩ = some (.int .u8 k) := cells_at hZr rfl
  have r1 : Z.cell? ⟨w.heap.size, 1, none⟩ = some (.string (Ln.bs tx)) := cells_at hZr rfl
  have r2 : Z.cell? ⟨w.heap.size, 2, none⟩ = some (.int .i64 n) := cells_at hZr rfl
  have r3 : Z.cell? ⟨w.heap.size, 3, none⟩ = some (.slice a L c9) := cells_at hZr rfl
  have s1 := hg1.size
  have sz := gz.size
  have hnZ : FNode X.heap.size Z (.agg #[.int .u8 k, .string (Ln.bs tx), .int .i64 n, .slice a L c9]) ts := nd.step (fun j hj hl => gz.block j hl (by simp; omega)) gz.size (Nat.le_refl _)
  have bZ : Below w.heap.size w Z := ⟨gz.os.trans (hg1.os.trans x1.os), gz.tape.trans (hg1.tape.trans x1.tape), gz.output.trans (hg1.output.trans x1.output), by omega, fun j hj => (gz.block j (by omega) (by simp; omega)).trans ((hg1.block j (by omega) (by simp; omega)).trans (x1.block j hj))⟩
  have y2Z := (gz.block _ (by omega) (by simp)).trans y2
  have HT : Hid (_) := tright_any (newS X.heap.size Z.heap.size) (.mk 1 [] 0 ts) (.agg #[.int .u8 k, .string (Ln.bs tx), .int .i64 n, .slice a L c9]) Z (fun b hb => hb.2) hnZ.node
  have HZ : Hid (Below w.heap.size w Z ∧ FNode X.heap.size Z (.agg #[.int .u8 k, .string (Ln.bs tx), .int .i64 n, .slice a L c9]) ts ∧ Z.heap[w.heap.size]? = some (.cells #[.int .u8 k, .string (Ln.bs tx), .int .i64 n, .slice a L c9] 26 (0, 0)) ∧ Z.heap[w.heap.size + 1]? = some (.cells #[.int .i64 0, .int .i64 0] 29 (0, 0)) ∧ w.heap.size + 1 + 1 + 1 ≤ Z.heap.size ∧ X.heap.size = w.heap.size + 1 + 1 + 1) := ⟨bZ, hnZ, hZr, y2Z, by omega, x2⟩
  obtain ⟨RB, hRB⟩ : ∃ b, b = Tr.right 40 (.mk 1 [] 0 ts) := ⟨_, rfl⟩
  have HRB : Hid (RB = Tr.right 40 (.mk 1 [] 0 ts)) := hRB
  have HEA : Hid (Ps.Eats (.file []) l 0 (.ok ts l1)) := he
  rw [← hRB] at HT
  rw [hZ] at r0 r1 r2 r3
  clear HF nd x1 x2 x3 x4 y1 y2 hZr gz s1 sz hnZ bZ y2Z hRB he hg1 HX
  go_wp2_with fail
  rw [← hZ]
  clear hZ p0 p1 p2 p3 pf r0 r1 r2 r3
  refine Calls.mono HT.out ?_
  rintro e w2 ⟨rfl, hb2⟩
  obtain ⟨q1, q2, q3, q4, q5, q6⟩ := HZ.out
  have z1 := (hb2.block _ (by omega)).trans q3
  have z2 := (hb2.block _ (by omega)).trans q4
  have bw2 : Below w.heap.size w w2 := below_then q1 hb2
  have hn2 : FNode X.heap.size w2 (.agg #[.int .u8 k, .string (Ln.bs tx), .int .i64 n, .slice a L c9]) ts := q2.low hb2 (Nat.le_refl _)
  have hs2 : w.heap.size + 1 + 1 + 1 ≤ w2.heap.size := Nat.le_trans q5 hb2.size
  clear HT
  cases RB
  · have HB2 : Hid (Below w.heap.size w w2) := bw2
    have HY : Hid (w2.heap[w.heap.size]? = some (.cells #[.int .u8 k, .string (Ln.bs tx), .int .i64 n, .slice a L c9] 26 (0, 0)) ∧ w2.heap[w.heap.size + 1]? = some (.cells #[.int .i64 0, .int .i64 0] 29 (0, 0)) ∧ w.heap.size + 1 + 1 + 1 ≤ w2.heap.size) := ⟨z1, z2, hs2⟩
    clear z1 z2 bw2 hn2 hb2 q1 q2 q3 q4 q5 q6 hs2
    go_wp2
    refine leaves_cons (f := 28) (args := #[.pointer (some ⟨w.heap.size, 0, none⟩), .pointer (some ⟨w.heap.size + 1, 0, none⟩)]) (by simp) (by simp [go_sem]) ?_
    refine (pcatch_panicking w.heap.size (w.heap.size + 1) 103 0 _ _ _ _ _ _ [] w2 HY.out.1 HY.out.2.1).mono ?_
    rintro e u' w3 ⟨rfl, rfl, k1, k2, k3, k4, k5, k6, k7⟩
    have j0 : w3.cell? ⟨w.heap.size, 0, none⟩ = some (.int .u8 0) := cells_at k1 rfl
    have j1 : w3.cell? ⟨w.heap.size, 1, none⟩ = some (.string ⟨#[]⟩) := cells_at k1 rfl
    have j2 : w3.cell? ⟨w.heap.size, 2, none⟩ = some (.int .i64 0) := cells_at k1 rfl
    have j3 : w3.cell? ⟨w.heap.size, 3, none⟩ = some (.slice none 0 0) := cells_at k1 rfl
    have i0 : w3.cell? ⟨w.heap.size + 1, 0, none⟩ = some (.int .i64 103) := cells_at k2 rfl
    have i1 : w3.cell? ⟨w.heap.size + 1, 1, none⟩ = some (.int .i64 0) := cells_at k2 rfl
    have HE : Hid (Below w.heap.size w w3 ∧ QEndO l w (.returned (.tuple #[zeroV, .agg #[.int .i64 103, .int .i64 0]])) w3) := by
      have hB := HB2.out
      have hs := HY.out.2.2
      refine ⟨⟨k3.trans hB.os, k4.trans hB.tape, k5.trans hB.output, by omega, fun j hj => (k7 j (by omega) (by omega) (by omega)).trans (hB.block j hj)⟩, .inr ⟨ts, l1, HEA.out, .inl ⟨HRB.out.symm, rfl⟩⟩⟩
    simp [Leaves, settle, results, Tryz.results13, go_sem, j0, j1, j2, j3, i0, i1]
    exact HE.out
  · obtain ⟨p0, p1, p2, p3, pf, Z2, hZ2, hZr2, gz2⟩ := box_put z1 (.int .u8 k) (.string (Ln.bs tx)) (.int .i64 n) (.slice a L c9)
    have t0 : w2.cell? ⟨w.heap.size, 0, none⟩ = some (.int .u8 k) := cells_at z1 rfl
    have t1 : w2.cell? ⟨w.heap.size, 1, none⟩ = some (.string (Ln.bs tx)) := cells_at z1 rfl
    have t2 : w2.cell? ⟨w.heap.size, 2, none⟩ = some (.int .i64 n) := cells_at z1 rfl
    have t3 : w2.cell? ⟨w.heap.size, 3, none⟩ = some (.slice a L c9) := cells_at z1 rfl
    have z2Z := (gz2.block _ (by omega) (by simp)).trans z2
    have e0 : Z2.cell? ⟨w.heap.size + 1, 0, none⟩ = some (.int .i64 0) := cells_at z2Z rfl
    have u1 := heap_setCell_same Z2 (w.heap.size + 1) 0 _ 29 (.int .i64 0) z2Z
    have u2 := heap_setCell_same _ (w.heap.size + 1) 1 _ 29 (.int .i64 0) u1
    have e1 : (Z2.setCell ⟨w.heap.size + 1, 0, none⟩ (.int .i64 0)).cell? ⟨w.heap.size + 1, 1, none⟩ = some (.int .i64 0) := cells_at u1 rfl
    have ef : ∀ j, Z2.frozen? ⟨w.heap.size + 1, j, none⟩ = false := fun j => frozen_of_row Z2 _ j _ _ z2Z
    have g1 := (grown_set Z2 (w.heap.size + 1) 0 (.int .i64 0)).trans (grown_set _ (w.heap.size + 1) 1 (.int .i64 0))
    obtain ⟨Q, hQ⟩ : ∃ Q, Q = (Z2.setCell ⟨w.heap.size + 1, 0, none⟩ (.int .i64 0)).setCell ⟨w.heap.size + 1, 1, none⟩ (.int .i64 0) := ⟨_, rfl⟩
    rw [← hQ] at u2 g1
    have hQf := (g1.block w.heap.size (by have := gz2.size; omega) (by simp)).trans hZr2
    have hsz2 := gz2.size
    have hszQ := g1.size
    have HQ : Hid (Below w.heap.size w Q ∧ FNode X.heap.size Q (.agg #[.int .u8 k, .string (Ln.bs tx), .int .i64 n, .slice a L c9]) ts ∧ Q.heap[w.heap.size]? = some (.cells #[.int .u8 k, .string (Ln.bs tx), .int .i64 n, .slice a L c9] 26 (0, 0)) ∧ Q.heap[w.heap.size + 1]? = some (.cells #[.int .i64 0, .int .i64 0] 29 (0, 0)) ∧ X.heap.size = w.heap.size + 1 + 1 + 1 ∧ w.heap.size + 1 + 1 ≤ Q.heap.size) := by
      refine ⟨⟨g1.os.trans (gz2.os.trans bw2.os), g1.tape.trans (gz2.tape.trans bw2.tape), g1.output.trans (gz2.output.trans bw2.output), by omega, fun j hj => (g1.block j (by omega) (by simp; omega)).trans ((gz2.block j (by omega) (by simp; omega)).trans (bw2.block j hj))⟩, ?_, hQf, u2, q6, by omega⟩
      exact (hn2.step (fun j hj hl => gz2.block j hl (by simp; omega)) gz2.size (Nat.le_refl _)).step (fun j hj hl => g1.block j hl (by simp; omega)) g1.size (Nat.le_refl _)
    rw [hZ2] at e0 e1 ef hQ
    clear z1 z2 bw2 hn2 hb2 q1 q2 q3 q4 q5 q6 hZr2 gz2 z2Z u1 u2 g1 hQf hZ2
    go_wp2
    rw [← hQ]
    clear hQ
    refine leaves_cons (f := 28) (args := #[.pointer (some ⟨w.heap.size, 0, none⟩), .pointer (some ⟨w.heap.size + 1, 0, none⟩)]) (by simp) (by simp [go_sem]) ?_
    refine (pcatch_idle ⟨w.heap.size, 0, none⟩ ⟨w.heap.size + 1, 0, none⟩ _).mono ?_
    rintro e u' w3 ⟨rfl, rfl, hb3⟩
    obtain ⟨m1, m2, m3, m4, m5, m6⟩ := HQ.out
    have k1 := (hb3.block _ (by omega)).trans m3
    have k2 := (hb3.block _ (by omega)).trans m4
    have j0 : w3.cell? ⟨w.heap.size, 0, none⟩ = some (.int .u8 k) := cells_at k1 rfl
    have j1 : w3.cell? ⟨w.heap.size, 1, none⟩ = some (.string (Ln.bs tx)) := cells_at k1 rfl
    have j2 : w3.cell? ⟨w.heap.size, 2, none⟩ = some (.int .i64 n) := cells_at k1 rfl
    have j3 : w3.cell? ⟨w.heap.size, 3, none⟩ = some (.slice a L c9) := cells_at k1 rfl
    have i0 : w3.cell? ⟨w.heap.size + 1, 0, none⟩ = some (.int .i64 0) := cells_at k2 rfl
    have i1 : w3.cell? ⟨w.heap.size + 1, 1, none⟩ = some (.int .i64 0) := cells_at k2 rfl
    have HE : Hid (Below w.heap.size w w3 ∧ QEndO l w (.returned (.tuple #[.agg #[.int .u8 k, .string (Ln.bs tx), .int .i64 n, .slice a L c9], .agg #[.int .i64 0, .int .i64 0]])) w3) := by
      refine ⟨below_then m1 hb3, .inr ⟨ts, l1, HEA.out, .inr ⟨HRB.out.symm, _, rfl, m2.low hb3 (by omega)⟩⟩⟩
    simp [Leaves, settle, results, Tryz.results13, go_sem, j0, j1, j2, j3, i0, i1]
    exact HE.out
end Go.Proofs.YtdaaecnmllpgdaaGreatDoor
