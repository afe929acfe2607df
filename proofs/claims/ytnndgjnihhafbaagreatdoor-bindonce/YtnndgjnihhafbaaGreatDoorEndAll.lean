/-
  Several texts in one, as they are: PsCatch, PsParsed, PsLex, PsAll, PsNodes, PsAwake0, PsAwake.
-/
import Derived.Test.YtnndgjnihhafbaaGreatDoorStmtAll
import Derived.Defers
import Derived.Recover
import Derived.Laws.Pointers
import Derived.Test.YtnndgjnihhafbaaGreatDoorTrAll
import Derived.Test.YtnndgjnihhafbaaGreatDoorLexTok
import Derived.Test.YtnndgjnihhafbaaGreatDoorLexAll
import Derived.Test.YtnndgjnihhafbaaGreatDoorMoreAll

/-
  The walks of parsed's deferred closure: what was thrown becomes the fault.
-/
namespace Go.Proofs.YtnndgjnihhafbaaGreatDoor
open Go.RowKit Go.Shelf

attribute [local go_sem] Oper.semAt_some

theorem passert_yes (E i : Int) (xT : TypeId) (w : World) : (Instr.typeAssert (.iface 31 (.agg #[.int .i64 E, .int .i64 i])) xT 31 true).run Tryz.prog w = .ok (.tuple #[.agg #[.int .i64 E, .int .i64 i], .bool true]) w := by
  simp [Instr.typeAssert, run_underlying Tryz.underlying31, go_sem, Result.andThen]
theorem passert_no (xT : TypeId) (w : World) : (Instr.typeAssert .nilIface xT 31 true).run Tryz.prog w = .ok (.tuple #[.agg #[.int .i64 0, .int .i64 0], .bool false]) w := by
  simp [Instr.typeAssert, run_underlying Tryz.underlying31, go_sem, Result.andThen]

set_option maxRecDepth 100000 in
set_option maxHeartbeats 1000000 in
theorem pcatch_idle (pf pe : Addr) (w : World) :
    CallsD Tryz.prog 77 #[.pointer (some pf), .pointer (some pe)] .returning w fun e u' w' => e = .returned (.tuple #[]) ∧ u' = .returning ∧ Below w.heap.size w w' := by
  have HB : Hid (Below w.heap.size w (w.alloc (.cells #[.int .i64 0, .int .i64 0] 31))) := below_new w _
  refine callsD_of_wpS Tryz.func77 rfl fun c₀ cs hu => ?_
  apply wpS_seq
  apply wpS_region
  simp [wpOpsS, go_sem, recoverD, hu, Tryz.ntmps77, Exit.thenS, passert_no]
  apply wpS_seq
  apply wpS_region
  simp [wpOpsS, go_sem, Exit.thenS]
  refine wpS_cond (t := false) (by simp [Act.eval, Array.replicate]) ?_
  simp only [Bool.false_eq_true, if_false]
  refine wpS_of_wp (wp_skip ?_)
  have hB := HB.out
  cases c₀
  simp_all [bodyPostS, results, Tryz.results77]

/-- What the closure leaves: the zero node, and the fault. -/
def Caught (fb eb E i : Nat) (w w' : World) : Prop :=
  w'.heap[fb]? = some (.cells #[.int .u8 0, .string ⟨#[]⟩, .int .i64 0, .slice none 0 0] 25 (0, 0)) ∧ w'.heap[eb]? = some (.cells #[.int .i64 E, .int .i64 i] 31 (0, 0)) ∧ (w'.os = w.os ∧ w'.tape = w.tape ∧ w'.output = w.output ∧ w.heap.size ≤ w'.heap.size ∧ ∀ k, k < w.heap.size → k ≠ fb → k ≠ eb → w'.heap[k]? = w.heap[k]?)

set_option maxRecDepth 100000 in
set_option maxHeartbeats 2000000 in
theorem pcatch_panicking (fb eb : Nat) (E i : Nat) (c0 c1 c2 c3 d0 d1 : Value) (older : List PanicEntry) (w : World) (hf : w.heap[fb]? = some (.cells #[c0, c1, c2, c3] 25 (0, 0))) (he : w.heap[eb]? = some (.cells #[d0, d1] 31 (0, 0))) :
    CallsD Tryz.prog 77 #[.pointer (some ⟨fb, 0, none⟩), .pointer (some ⟨eb, 0, none⟩)] (.panicking ({ v := .iface 31 (.agg #[.int .i64 E, .int .i64 i]), recovered := false } :: older)) w fun e u' w' =>
      e = .returned (.tuple #[]) ∧ u' = .panicking ({ v := .iface 31 (.agg #[.int .i64 E, .int .i64 i]), recovered := true } :: older) ∧ Caught fb eb E i w w' := by
  have hfl := (Array.getElem?_eq_some_iff.1 hf).1
  have hel := (Array.getElem?_eq_some_iff.1 he).1
  have hne : fb ≠ eb := by
    rintro rfl
    rw [hf] at he
    injection he with q
    injection q with _ q _
    revert q
    decide
  obtain ⟨X, hX⟩ : ∃ X, X = w.alloc (.cells #[.int .i64 E, .int .i64 i] 31) := ⟨_, rfl⟩
  have bX : Below w.heap.size w X := hX ▸ below_new w _
  have hXf := (bX.block fb hfl).trans hf
  have hXe := (bX.block eb hel).trans he
  have hXn : X.heap[w.heap.size]? = some (.cells #[.int .i64 E, .int .i64 i] 31 (0, 0)) := by rw [hX]; exact World.alloc_heap_new w _
  obtain ⟨p0, p1, p2, p3, pf, Z, hZ, hZr, gz⟩ := box_put hXf (.int .u8 0) (.string ⟨#[]⟩) (.int .i64 0) (.slice none 0 0)
  have hZe := (gz.block eb (Nat.lt_of_lt_of_le hel bX.size) (by simpa using hne.symm)).trans hXe
  have hZn := (gz.block w.heap.size (Array.getElem?_eq_some_iff.1 hXn).1 (by simp; omega)).trans hXn
  have u1 := heap_setCell_same Z eb 0 _ 31 (.int .i64 E) hZe
  have u2 := heap_setCell_same _ eb 1 _ 31 (.int .i64 i) u1
  have g1 := (grown_set Z eb 0 (.int .i64 E)).trans (grown_set _ eb 1 (.int .i64 i))
  obtain ⟨Q, hQ⟩ : ∃ Q, Q = (Z.setCell ⟨eb, 0, none⟩ (.int .i64 E)).setCell ⟨eb, 1, none⟩ (.int .i64 i) := ⟨_, rfl⟩
  rw [← hQ] at u2 g1
  have HC : Hid (Caught fb eb E i w Q) := by
    refine ⟨(g1.block fb (by have := gz.size; have := bX.size; omega) (by simpa using hne)).trans hZr, u2, g1.os.trans (gz.os.trans bX.os), g1.tape.trans (gz.tape.trans bX.tape), g1.output.trans (gz.output.trans bX.output), by have := g1.size; have := gz.size; have := bX.size; omega, fun k hk h1 h2 => ?_⟩
    exact (g1.block k (by have := gz.size; have := bX.size; omega) (by simpa using h2)).trans ((gz.block k (by have := bX.size; omega) (by simpa using h1)).trans (bX.block k hk))
  have HD : Hid (Caught fb eb E i w Q.drew) := ⟨HC.out.1, HC.out.2.1, HC.out.2.2⟩
  have hbV : Below w.heap.size w (w.alloc (.cells #[.int .i64 E, .int .i64 i] 31)) := below_new w _
  have hVf := (hbV.block fb hfl).trans hf
  have hVe := (hbV.block eb hel).trans he
  have v0 : (w.alloc (.cells #[.int .i64 E, .int .i64 i] 31)).cell? ⟨fb, 0, none⟩ = some c0 := cells_at hVf rfl
  have v1 : (w.alloc (.cells #[.int .i64 E, .int .i64 i] 31)).cell? ⟨fb, 1, none⟩ = some c1 := cells_at hVf rfl
  have v2 : (w.alloc (.cells #[.int .i64 E, .int .i64 i] 31)).cell? ⟨fb, 2, none⟩ = some c2 := cells_at hVf rfl
  have v3 : (w.alloc (.cells #[.int .i64 E, .int .i64 i] 31)).cell? ⟨fb, 3, none⟩ = some c3 := cells_at hVf rfl
  have x0 : (w.alloc (.cells #[.int .i64 E, .int .i64 i] 31)).cell? ⟨eb, 0, none⟩ = some d0 := cells_at hVe rfl
  have x1 : (w.alloc (.cells #[.int .i64 E, .int .i64 i] 31)).cell? ⟨eb, 1, none⟩ = some d1 := cells_at hVe rfl
  have vf : ∀ j, (w.alloc (.cells #[.int .i64 E, .int .i64 i] 31)).frozen? ⟨fb, j, none⟩ = false := fun j => frozen_of_row _ _ j _ _ hVf
  have xf : ∀ j, (w.alloc (.cells #[.int .i64 E, .int .i64 i] 31)).frozen? ⟨eb, j, none⟩ = false := fun j => frozen_of_row _ _ j _ _ hVe
  have hne2 : eb ≠ fb := hne.symm
  have hn3 : w.heap.size ≠ fb := by omega
  have hn4 : w.heap.size ≠ eb := by omega
  rw [hZ, hX] at hQ
  clear hf he hfl hel bX hXf hXe hXn hZr gz hZe hZn u1 u2 g1 hZ hX p0 p1 p2 p3 pf hbV hVf hVe
  refine callsD_of_wpS Tryz.func77 rfl fun c₀ cs hu => ?_
  apply wpS_seq
  apply wpS_region
  simp [wpOpsS, go_sem, recoverD, hu, Tryz.ntmps77, Exit.thenS, passert_yes]
  apply wpS_seq
  apply wpS_region
  simp [wpOpsS, go_sem, Exit.thenS]
  refine wpS_cond (t := true) (by simp [Act.eval, Array.replicate]) ?_
  simp only [if_true]
  refine wpS_of_wp ?_
  simp only [Array.replicate_succ, Array.replicate_zero, List.push_toArray, List.append_toArray, List.nil_append, List.cons_append, List.setIfInBounds_toArray, List.set_cons_zero, List.set_cons_succ]
  go_region
  rw [← hQ]
  clear hQ v0 v1 v2 v3 x0 x1 vf xf HC
  simp [bodyPostS, results, Tryz.results77]
  exact HD.out
end Go.Proofs.YtnndgjnihhafbaaGreatDoor

/-
  The walk of parsed: a panic's fault, or the file's node, if it is right.
-/
namespace Go.Proofs.YtnndgjnihhafbaaGreatDoor
open Go.RowKit Go.Shelf

attribute [local go_sem] Oper.semAt_some

/-- A row of tokens. -/
def TAt (w : World) (v : Value) (l : List Lx.Tok) : Prop := ∃ tb o c, v = .slice (some ⟨tb, o, none⟩) l.length c ∧ (∃ tc fr, w.heap[tb]? = some (.cells tc 149 fr)) ∧ l.length ≤ c ∧ l.length ≤ 100000000 ∧ ∀ (j : Nat) (u : Value), (tokCells l)[j]? = some u → w.cell? ⟨tb, o + j, none⟩ = some u
def zeroV : Value := .agg #[.int .u8 0, .string ⟨#[]⟩, .int .i64 0, .slice none 0 0]
/-- What parsed ends with. -/
def QEnd (l : List Lx.Tok) (w : World) (e : Ending) (w' : World) : Prop :=
  (∃ E i, Ps.Eats (.file []) l 0 (.bad E i) ∧ e = .returned (.tuple #[zeroV, .agg #[.int .i64 E, .int .i64 i]])) ∨
  (∃ ts l', Ps.Eats (.file []) l 0 (.ok ts l') ∧ ((Tr.right 40 (.mk 1 [] 0 ts) = false ∧ e = .returned (.tuple #[zeroV, .agg #[.int .i64 103, .int .i64 0]])) ∨ (Tr.right 40 (.mk 1 [] 0 ts) = true ∧ ∃ v, e = .returned (.tuple #[v, .agg #[.int .i64 0, .int .i64 0]]) ∧ NodeR (newS w.heap.size w'.heap.size) w' v (.mk 1 [] 0 ts))))

set_option maxRecDepth 100000 in
set_option maxHeartbeats 8000000 in
theorem parsed_any (l : List Lx.Tok) (v : Value) (w : World) (hl : OkL l) (hv : TAt w v l) : Calls Tryz.prog 40 #[v] w fun e w' => Below w.heap.size w w' ∧ QEnd l w e w' := by
  have hmf : ∀ (fn : Fn) (first cap : Array Value) (w : World), (Instr.makeFunc fn first cap).run Tryz.prog w = .ok (.func fn first cap) w := fun _ _ _ _ => rfl
  obtain ⟨tb, o, c, rfl, ⟨tc, fr, htb⟩, hlc, hl8, htk⟩ := hv
  obtain ⟨A1, h1⟩ : ∃ A, A = w.alloc (.cells #[.int .u8 0, .string ⟨#[]⟩, .int .i64 0, .slice none 0 0] 25) := ⟨_, rfl⟩
  obtain ⟨A2, h2⟩ : ∃ A, A = A1.alloc (.cells #[.int .i64 0, .int .i64 0] 31) := ⟨_, rfl⟩
  obtain ⟨X, hX⟩ : ∃ A, A = A2.alloc (.cells #[.slice (some ⟨tb, o, none⟩) l.length c, .int .i64 0] 111) := ⟨_, rfl⟩
  have s1 : A1.heap.size = w.heap.size + 1 := by rw [h1, World.size_alloc]
  have s2 : A2.heap.size = w.heap.size + 1 + 1 := by rw [h2, World.size_alloc, s1]
  have sX : X.heap.size = w.heap.size + 1 + 1 + 1 := by rw [hX, World.size_alloc, s2]
  have b1 : Below w.heap.size w A1 := h1 ▸ below_new w _
  have b2 : Below A1.heap.size A1 A2 := h2 ▸ below_new A1 _
  have b3 : Below A2.heap.size A2 X := hX ▸ below_new A2 _
  have bX : Below w.heap.size w X := below_then (below_then b1 b2) b3
  have n1 : X.heap[w.heap.size]? = some (.cells #[.int .u8 0, .string ⟨#[]⟩, .int .i64 0, .slice none 0 0] 25 (0, 0)) := (b3.block _ (by omega)).trans ((b2.block _ (by omega)).trans (by rw [h1]; exact World.alloc_heap_new w _))
  have n2 : X.heap[w.heap.size + 1]? = some (.cells #[.int .i64 0, .int .i64 0] 31 (0, 0)) := (b3.block _ (by omega)).trans (by rw [h2, ← s1]; exact World.alloc_heap_new A1 _)
  have n3 : X.heap[w.heap.size + 1 + 1]? = some (.cells #[.slice (some ⟨tb, o, none⟩) l.length c, .int .i64 0] 111 (0, 0)) := by rw [hX, ← s2]; exact World.alloc_heap_new A2 _
  have htl := (Array.getElem?_eq_some_iff.1 htb).1
  have hPA : PAt (w.heap.size + 1 + 1) l 0 X := ⟨tb, o, c, by omega, ⟨tc, fr, (bX.block tb htl).trans htb⟩, n3, hlc, hl8, fun j u hu => (World.cell?_of_block (w := w) (a := ⟨tb, o + j, none⟩) (bX.block tb htl)).trans (htk j u hu)⟩
  have HF : Hid (_) := pfile_any (w.heap.size + 1 + 1) 0 l X hl (by omega) hPA
  have HX : Hid (Below w.heap.size w X ∧ X.heap.size = w.heap.size + 1 + 1 + 1 ∧ X.heap[w.heap.size]? = some (.cells #[.int .u8 0, .string ⟨#[]⟩, .int .i64 0, .slice none 0 0] 25 (0, 0)) ∧ X.heap[w.heap.size + 1]? = some (.cells #[.int .i64 0, .int .i64 0] 31 (0, 0))) := ⟨bX, sX, n1, n2⟩
  clear htk htl htb hlc hl8 s1 s2 sX b1 b2 b3 bX n1 n2 n3 hPA
  obtain ⟨N, hN⟩ : ∃ N, N = l.length := ⟨_, rfl⟩
  rw [← hN] at hX ⊢
  clear hN
  go_enter_defers Tryz.func40, Tryz.ntmps40
  go_wp2_with fail
  rw [← h1, ← h2, ← hX]
  clear h1 h2 hX
  refine Calls.mono HF.out ?_
  rintro e w1 ⟨hg1, ⟨E, i, he, rfl⟩ | ⟨ts, l1, v, he, rfl, nd⟩⟩
  · obtain ⟨x1, x2, x3, x4⟩ := HX.out
    have y1 := (hg1.block _ (by omega) (by simp; omega)).trans x3
    have y2 := (hg1.block _ (by omega) (by simp)).trans x4
    refine leaves_cons (f := 77) (args := #[.pointer (some ⟨w.heap.size, 0, none⟩), .pointer (some ⟨w.heap.size + 1, 0, none⟩)]) (by simp) (by simp [go_sem]) ?_
    refine (pcatch_panicking w.heap.size (w.heap.size + 1) E i _ _ _ _ _ _ [] w1 y1 y2).mono ?_
    rintro e u' w2 ⟨rfl, rfl, k1, k2, k3, k4, k5, k6, k7⟩
    have j0 : w2.cell? ⟨w.heap.size, 0, none⟩ = some (.int .u8 0) := cells_at k1 rfl
    have j1 : w2.cell? ⟨w.heap.size, 1, none⟩ = some (.string ⟨#[]⟩) := cells_at k1 rfl
    have j2 : w2.cell? ⟨w.heap.size, 2, none⟩ = some (.int .i64 0) := cells_at k1 rfl
    have j3 : w2.cell? ⟨w.heap.size, 3, none⟩ = some (.slice none 0 0) := cells_at k1 rfl
    have i0 : w2.cell? ⟨w.heap.size + 1, 0, none⟩ = some (.int .i64 E) := cells_at k2 rfl
    have i1 : w2.cell? ⟨w.heap.size + 1, 1, none⟩ = some (.int .i64 i) := cells_at k2 rfl
    have HE : Hid (Below w.heap.size w w2 ∧ QEnd l w (.returned (.tuple #[zeroV, .agg #[.int .i64 E, .int .i64 i]])) w2) := by
      refine ⟨⟨k3.trans (hg1.os.trans x1.os), k4.trans (hg1.tape.trans x1.tape), k5.trans (hg1.output.trans x1.output), by have := hg1.size; omega, fun k hk => ?_⟩, .inl ⟨E, i, he, rfl⟩⟩
      exact (k7 k (by have := hg1.size; omega) (by omega) (by omega)).trans ((hg1.block k (by omega) (by simp; omega)).trans (x1.block k hk))
    simp [Leaves, settle, results, Tryz.results40, go_sem, j0, j1, j2, j3, i0, i1]
    exact HE.out
  obtain ⟨x1, x2, x3, x4⟩ := HX.out
  have y1 := (hg1.block _ (by omega) (by simp; omega)).trans x3
  have y2 := (hg1.block _ (by omega) (by simp)).trans x4
  obtain ⟨k, tx, n, a, L, c9, rfl⟩ := nd.pshape
  obtain ⟨p0, p1, p2, p3, pf, Z, hZ, hZr, gz⟩ := box_put y1 (.int .u8 k) (.string (Ln.bs tx)) (.int .i64 n) (.slice a L c9)
  have r0 : Z.cell? ⟨w.heap.size, 0, none⟩ = some (.int .u8 k) := cells_at hZr rfl
  have r1 : Z.cell? ⟨w.heap.size, 1, none⟩ = some (.string (Ln.bs tx)) := cells_at hZr rfl
  have r2 : Z.cell? ⟨w.heap.size, 2, none⟩ = some (.int .i64 n) := cells_at hZr rfl
  have r3 : Z.cell? ⟨w.heap.size, 3, none⟩ = some (.slice a L c9) := cells_at hZr rfl
  have s1 := hg1.size
  have sz := gz.size
  have hnZ : NodeR (newS X.heap.size Z.heap.size) Z (.agg #[.int .u8 k, .string (Ln.bs tx), .int .i64 n, .slice a L c9]) (.mk 1 [] 0 ts) := nd.step (fun j hj hl => gz.block j hl (by simp; omega)) gz.size (Nat.le_refl _)
  have bZ : Below w.heap.size w Z := ⟨gz.os.trans (hg1.os.trans x1.os), gz.tape.trans (hg1.tape.trans x1.tape), gz.output.trans (hg1.output.trans x1.output), by omega, fun j hj => (gz.block j (by omega) (by simp; omega)).trans ((hg1.block j (by omega) (by simp; omega)).trans (x1.block j hj))⟩
  have y2Z := (gz.block _ (by omega) (by simp)).trans y2
  have HT : Hid (_) := tright_any (newS X.heap.size Z.heap.size) (.mk 1 [] 0 ts) (.agg #[.int .u8 k, .string (Ln.bs tx), .int .i64 n, .slice a L c9]) Z (fun b hb => hb.2) hnZ
  have HZ : Hid (Below w.heap.size w Z ∧ NodeR (newS X.heap.size Z.heap.size) Z (.agg #[.int .u8 k, .string (Ln.bs tx), .int .i64 n, .slice a L c9]) (.mk 1 [] 0 ts) ∧ Z.heap[w.heap.size]? = some (.cells #[.int .u8 k, .string (Ln.bs tx), .int .i64 n, .slice a L c9] 25 (0, 0)) ∧ Z.heap[w.heap.size + 1]? = some (.cells #[.int .i64 0, .int .i64 0] 31 (0, 0)) ∧ w.heap.size + 1 + 1 + 1 ≤ Z.heap.size ∧ X.heap.size = w.heap.size + 1 + 1 + 1) := ⟨bZ, hnZ, hZr, y2Z, by omega, x2⟩
  obtain ⟨RB, hRB⟩ : ∃ b, b = Tr.right 40 (.mk 1 [] 0 ts) := ⟨_, rfl⟩
  have HRB : Hid (RB = Tr.right 40 (.mk 1 [] 0 ts)) := hRB
  have HEA : Hid (Ps.Eats (.file []) l 0 (.ok ts l1)) := he
  rw [← hRB] at HT
  rw [hZ] at r0 r1 r2 r3
  clear HF nd x1 x2 x3 x4 y1 y2 hZr gz s1 sz hnZ bZ y2Z hRB he hg1 HX
  go_wp2_with fail
  rw [← hZ]
  clear hZ p0 p1 p2 p3 pf r0 r1 r2 r3
  refine Calls.mono HT.out ?_
  rintro e w2 ⟨rfl, hb2⟩
  obtain ⟨q1, q2, q3, q4, q5, q6⟩ := HZ.out
  have z1 := (hb2.block _ (by omega)).trans q3
  have z2 := (hb2.block _ (by omega)).trans q4
  have bw2 : Below w.heap.size w w2 := below_then q1 hb2
  have hn2 : NodeR (newS X.heap.size w2.heap.size) w2 (.agg #[.int .u8 k, .string (Ln.bs tx), .int .i64 n, .slice a L c9]) (.mk 1 [] 0 ts) := q2.low hb2 (Nat.le_refl _)
  have hs2 : w.heap.size + 1 + 1 + 1 ≤ w2.heap.size := Nat.le_trans q5 hb2.size
  clear HT
  cases RB
  · have HB2 : Hid (Below w.heap.size w w2) := bw2
    have HY : Hid (w2.heap[w.heap.size]? = some (.cells #[.int .u8 k, .string (Ln.bs tx), .int .i64 n, .slice a L c9] 25 (0, 0)) ∧ w2.heap[w.heap.size + 1]? = some (.cells #[.int .i64 0, .int .i64 0] 31 (0, 0)) ∧ w.heap.size + 1 + 1 + 1 ≤ w2.heap.size) := ⟨z1, z2, hs2⟩
    clear z1 z2 bw2 hn2 hb2 q1 q2 q3 q4 q5 q6 hs2
    go_wp2
    refine leaves_cons (f := 77) (args := #[.pointer (some ⟨w.heap.size, 0, none⟩), .pointer (some ⟨w.heap.size + 1, 0, none⟩)]) (by simp) (by simp [go_sem]) ?_
    refine (pcatch_panicking w.heap.size (w.heap.size + 1) 103 0 _ _ _ _ _ _ [] w2 HY.out.1 HY.out.2.1).mono ?_
    rintro e u' w3 ⟨rfl, rfl, k1, k2, k3, k4, k5, k6, k7⟩
    have j0 : w3.cell? ⟨w.heap.size, 0, none⟩ = some (.int .u8 0) := cells_at k1 rfl
    have j1 : w3.cell? ⟨w.heap.size, 1, none⟩ = some (.string ⟨#[]⟩) := cells_at k1 rfl
    have j2 : w3.cell? ⟨w.heap.size, 2, none⟩ = some (.int .i64 0) := cells_at k1 rfl
    have j3 : w3.cell? ⟨w.heap.size, 3, none⟩ = some (.slice none 0 0) := cells_at k1 rfl
    have i0 : w3.cell? ⟨w.heap.size + 1, 0, none⟩ = some (.int .i64 103) := cells_at k2 rfl
    have i1 : w3.cell? ⟨w.heap.size + 1, 1, none⟩ = some (.int .i64 0) := cells_at k2 rfl
    have HE : Hid (Below w.heap.size w w3 ∧ QEnd l w (.returned (.tuple #[zeroV, .agg #[.int .i64 103, .int .i64 0]])) w3) := by
      have hB := HB2.out
      have hs := HY.out.2.2
      refine ⟨⟨k3.trans hB.os, k4.trans hB.tape, k5.trans hB.output, by omega, fun j hj => (k7 j (by omega) (by omega) (by omega)).trans (hB.block j hj)⟩, .inr ⟨ts, l1, HEA.out, .inl ⟨HRB.out.symm, rfl⟩⟩⟩
    simp [Leaves, settle, results, Tryz.results40, go_sem, j0, j1, j2, j3, i0, i1]
    exact HE.out
  · obtain ⟨p0, p1, p2, p3, pf, Z2, hZ2, hZr2, gz2⟩ := box_put z1 (.int .u8 k) (.string (Ln.bs tx)) (.int .i64 n) (.slice a L c9)
    have t0 : w2.cell? ⟨w.heap.size, 0, none⟩ = some (.int .u8 k) := cells_at z1 rfl
    have t1 : w2.cell? ⟨w.heap.size, 1, none⟩ = some (.string (Ln.bs tx)) := cells_at z1 rfl
    have t2 : w2.cell? ⟨w.heap.size, 2, none⟩ = some (.int .i64 n) := cells_at z1 rfl
    have t3 : w2.cell? ⟨w.heap.size, 3, none⟩ = some (.slice a L c9) := cells_at z1 rfl
    have z2Z := (gz2.block _ (by omega) (by simp)).trans z2
    have e0 : Z2.cell? ⟨w.heap.size + 1, 0, none⟩ = some (.int .i64 0) := cells_at z2Z rfl
    have u1 := heap_setCell_same Z2 (w.heap.size + 1) 0 _ 31 (.int .i64 0) z2Z
    have u2 := heap_setCell_same _ (w.heap.size + 1) 1 _ 31 (.int .i64 0) u1
    have e1 : (Z2.setCell ⟨w.heap.size + 1, 0, none⟩ (.int .i64 0)).cell? ⟨w.heap.size + 1, 1, none⟩ = some (.int .i64 0) := cells_at u1 rfl
    have ef : ∀ j, Z2.frozen? ⟨w.heap.size + 1, j, none⟩ = false := fun j => frozen_of_row Z2 _ j _ _ z2Z
    have g1 := (grown_set Z2 (w.heap.size + 1) 0 (.int .i64 0)).trans (grown_set _ (w.heap.size + 1) 1 (.int .i64 0))
    obtain ⟨Q, hQ⟩ : ∃ Q, Q = (Z2.setCell ⟨w.heap.size + 1, 0, none⟩ (.int .i64 0)).setCell ⟨w.heap.size + 1, 1, none⟩ (.int .i64 0) := ⟨_, rfl⟩
    rw [← hQ] at u2 g1
    have hQf := (g1.block w.heap.size (by have := gz2.size; omega) (by simp)).trans hZr2
    have hsz2 := gz2.size
    have hszQ := g1.size
    have HQ : Hid (Below w.heap.size w Q ∧ NodeR (newS X.heap.size Q.heap.size) Q (.agg #[.int .u8 k, .string (Ln.bs tx), .int .i64 n, .slice a L c9]) (.mk 1 [] 0 ts) ∧ Q.heap[w.heap.size]? = some (.cells #[.int .u8 k, .string (Ln.bs tx), .int .i64 n, .slice a L c9] 25 (0, 0)) ∧ Q.heap[w.heap.size + 1]? = some (.cells #[.int .i64 0, .int .i64 0] 31 (0, 0)) ∧ X.heap.size = w.heap.size + 1 + 1 + 1 ∧ w.heap.size + 1 + 1 ≤ Q.heap.size) := by
      refine ⟨⟨g1.os.trans (gz2.os.trans bw2.os), g1.tape.trans (gz2.tape.trans bw2.tape), g1.output.trans (gz2.output.trans bw2.output), by omega, fun j hj => (g1.block j (by omega) (by simp; omega)).trans ((gz2.block j (by omega) (by simp; omega)).trans (bw2.block j hj))⟩, ?_, hQf, u2, q6, by omega⟩
      exact (hn2.step (fun j hj hl => gz2.block j hl (by simp; omega)) gz2.size (Nat.le_refl _)).step (fun j hj hl => g1.block j hl (by simp; omega)) g1.size (Nat.le_refl _)
    rw [hZ2] at e0 e1 ef hQ
    clear z1 z2 bw2 hn2 hb2 q1 q2 q3 q4 q5 q6 hZr2 gz2 z2Z u1 u2 g1 hQf hZ2
    go_wp2
    rw [← hQ]
    clear hQ
    refine leaves_cons (f := 77) (args := #[.pointer (some ⟨w.heap.size, 0, none⟩), .pointer (some ⟨w.heap.size + 1, 0, none⟩)]) (by simp) (by simp [go_sem]) ?_
    refine (pcatch_idle ⟨w.heap.size, 0, none⟩ ⟨w.heap.size + 1, 0, none⟩ _).mono ?_
    rintro e u' w3 ⟨rfl, rfl, hb3⟩
    obtain ⟨m1, m2, m3, m4, m5, m6⟩ := HQ.out
    have k1 := (hb3.block _ (by omega)).trans m3
    have k2 := (hb3.block _ (by omega)).trans m4
    have j0 : w3.cell? ⟨w.heap.size, 0, none⟩ = some (.int .u8 k) := cells_at k1 rfl
    have j1 : w3.cell? ⟨w.heap.size, 1, none⟩ = some (.string (Ln.bs tx)) := cells_at k1 rfl
    have j2 : w3.cell? ⟨w.heap.size, 2, none⟩ = some (.int .i64 n) := cells_at k1 rfl
    have j3 : w3.cell? ⟨w.heap.size, 3, none⟩ = some (.slice a L c9) := cells_at k1 rfl
    have i0 : w3.cell? ⟨w.heap.size + 1, 0, none⟩ = some (.int .i64 0) := cells_at k2 rfl
    have i1 : w3.cell? ⟨w.heap.size + 1, 1, none⟩ = some (.int .i64 0) := cells_at k2 rfl
    have HE : Hid (Below w.heap.size w w3 ∧ QEnd l w (.returned (.tuple #[.agg #[.int .u8 k, .string (Ln.bs tx), .int .i64 n, .slice a L c9], .agg #[.int .i64 0, .int .i64 0]])) w3) := by
      refine ⟨below_then m1 hb3, .inr ⟨ts, l1, HEA.out, .inr ⟨HRB.out.symm, _, rfl, m2.low hb3 (by omega)⟩⟩⟩
    simp [Leaves, settle, results, Tryz.results40, go_sem, j0, j1, j2, j3, i0, i1]
    exact HE.out
end Go.Proofs.YtnndgjnihhafbaaGreatDoor

/-
  The tokens that lex tells are such as the parser reads.
-/
namespace Go.Proofs.YtnndgjnihhafbaaGreatDoor
open Go.RowKit Go.Shelf

theorem sort_le (t : List UInt8) : Lx.sort t ≤ 3 ∧ (Lx.sort t = 3 → Lx.isInt t = true) := by
  unfold Lx.sort
  split
  · exact ⟨by omega, by omega⟩
  split
  · exact ⟨by omega, by omega⟩
  split
  · next h => exact ⟨by omega, fun _ => h⟩
  · exact ⟨by omega, by omega⟩

theorem step_kind {l : List UInt8} {kind n : Nat} (h : Lx.step l = .tok kind n) : kind ≤ 4 ∧ (kind = 3 → Lx.isInt (l.take n) = true) := by
  unfold Lx.step at h
  split at h
  · cases h
  split at h
  · cases h
  split at h
  · split at h
    · cases h
    · injection h with h1 h2
      subst h1
      subst h2
      obtain ⟨a, b⟩ := sort_le (l.take (Lx.lead Lx.ldI l))
      exact ⟨by omega, b⟩
  · split at h
    · injection h with h1 h2
      subst h1
      exact ⟨by omega, by omega⟩
    · cases h

theorem fine_ok {t : Lx.Tok} (h : t.Fine) (hn : t.text.length ≤ 1000000) : t.kind ≠ 5 ∧ TokOk t := by
  obtain ⟨a, b⟩ := step_kind h.own
  rw [List.take_length] at b
  exact ⟨by omega, hn, by omega, b⟩

theorem okL_of (e : Nat) : ∀ ts : List Lx.Tok, (∀ t ∈ ts, t.kind ≠ 5 ∧ TokOk t) → OkL (ts ++ [⟨5, [], e⟩])
  | [], _ => .inl ⟨rfl, rfl, rfl⟩
  | t :: ts, h => .inr ⟨(h t (by simp)).1, (h t (by simp)).2, okL_of e ts fun u hu => h u (by simp [hu])⟩

theorem lex_okL {s : List UInt8} {ts : List Lx.Tok} (h : Lx.lex s = .ok ts) (hs : s.length ≤ 1000000) (e : Nat) : OkL (ts ++ [⟨5, [], e⟩]) :=
  okL_of e ts fun t ht => fine_ok ((Lx.lex_told h).fine t ht) (by have := ((Lx.lex_told h).there t ht).1; omega)

theorem tat_of_owns {w : World} {B : Nat} {v : Value} {l : List Lx.Tok} (h : w.ownsRow B 149 3 v l.length (tokCells l)) (hl : l ≠ []) (hn : l.length ≤ 100000000) : TAt w v l := by
  obtain ⟨e1, ⟨-, e2⟩ | ⟨g, cap, cur, rfl, -, hg, hc, -, hsz, ht⟩⟩ := h
  · exact absurd (List.length_eq_zero_iff.1 e2) hl
  refine ⟨g, 0, cap, rfl, ⟨cur, _, hg⟩, hc, hn, fun j u hu => ?_⟩
  have hj : j < (tokCells l).length := (List.getElem?_eq_some_iff.1 hu).1
  rw [← ht, List.getElem?_take_of_lt (by omega)] at hu
  refine cells_at hg ?_
  rw [Nat.zero_add, ← Array.getElem?_toList]
  exact hu
end Go.Proofs.YtnndgjnihhafbaaGreatDoor

/-
  The walk of File: lex's fault, or what is parsed.
-/
namespace Go.Proofs.YtnndgjnihhafbaaGreatDoor
open Go.RowKit Go.Shelf

attribute [local go_sem] Oper.semAt_some

/-- What File ends with. -/
def GEnd (s : ByteArray) (w : World) (e : Ending) (w' : World) : Prop :=
  match Lx.lex s.data.toList with
  | .fault E i => e = .returned (.tuple #[zeroV, .agg #[.int .i64 E, .int .i64 i]])
  | .ok us => QEnd (us ++ [⟨5, [], s.size⟩]) w e w'

theorem QEnd.two {l : List Lx.Tok} {w w' : World} {e : Ending} (h : QEnd l w e w') : ∃ (k : Int) (tx : ByteArray) (n : Int) (a : Option Addr) (L c : Nat) (E i : Nat), e = .returned (.tuple #[.agg #[.int .u8 k, .string tx, .int .i64 n, .slice a L c], .agg #[.int .i64 E, .int .i64 i]]) := by
  rcases h with ⟨E, i, -, rfl⟩ | ⟨ts, l', -, ⟨-, rfl⟩ | ⟨-, v, rfl, hn⟩⟩
  · exact ⟨0, _, _, _, _, _, _, _, rfl⟩
  · exact ⟨0, _, _, _, _, _, 103, 0, rfl⟩
  · obtain ⟨k, tx, n, a, L, c, rfl⟩ := hn.pshape
    exact ⟨_, _, _, _, _, _, 0, 0, rfl⟩

theorem QEnd.step {l : List Lx.Tok} {w u w' w2 : World} {e : Ending} (h : QEnd l u e w') (hk : ∀ k, u.heap.size ≤ k → k < w'.heap.size → w2.heap[k]? = w'.heap[k]?) (hs : w'.heap.size ≤ w2.heap.size) (ha : w.heap.size ≤ u.heap.size) : QEnd l w e w2 := by
  rcases h with h | ⟨ts, l', he, h | ⟨hr, v, rfl, hn⟩⟩
  · exact .inl h
  · exact .inr ⟨ts, l', he, .inl h⟩
  · exact .inr ⟨ts, l', he, .inr ⟨hr, v, rfl, hn.step hk hs ha⟩⟩

set_option maxRecDepth 100000 in
set_option maxHeartbeats 8000000 in
theorem pfileAll_any (s : ByteArray) (w : World) (hsg : SignsAt w.heap.size w) (hs : s.size ≤ 1000000) : Calls Tryz.prog 18 #[.string s] w fun e w' => Below w.heap.size w w' ∧ GEnd s w e w' := by
  obtain ⟨A1, h1⟩ : ∃ A, A = w.alloc (.cells #[.int .u8 0, .string ⟨#[]⟩, .int .i64 0, .slice none 0 0] 25) := ⟨_, rfl⟩
  obtain ⟨A2, h2⟩ : ∃ A, A = A1.alloc (.cells #[.int .i64 0, .int .i64 0] 31) := ⟨_, rfl⟩
  have s1 : A1.heap.size = w.heap.size + 1 := by rw [h1, World.size_alloc]
  have s2 : A2.heap.size = w.heap.size + 1 + 1 := by rw [h2, World.size_alloc, s1]
  have b1 : Below w.heap.size w A1 := h1 ▸ below_new w _
  have b2 : Below A1.heap.size A1 A2 := h2 ▸ below_new A1 _
  have bA : Below w.heap.size w A2 := below_then b1 b2
  have n1 : A2.heap[w.heap.size]? = some (.cells #[.int .u8 0, .string ⟨#[]⟩, .int .i64 0, .slice none 0 0] 25 (0, 0)) := (b2.block _ (by omega)).trans (by rw [h1]; exact World.alloc_heap_new w _)
  have n2 : A2.heap[w.heap.size + 1]? = some (.cells #[.int .i64 0, .int .i64 0] 31 (0, 0)) := by rw [h2, ← s1]; exact World.alloc_heap_new A1 _
  have HT : Hid (_) := tokens_any s A2 ((hsg.keep bA).mono bA.size) hs
  have HX : Hid (Below w.heap.size w A2 ∧ A2.heap.size = w.heap.size + 1 + 1 ∧ A2.heap[w.heap.size]? = some (.cells #[.int .u8 0, .string ⟨#[]⟩, .int .i64 0, .slice none 0 0] 25 (0, 0)) ∧ A2.heap[w.heap.size + 1]? = some (.cells #[.int .i64 0, .int .i64 0] 31 (0, 0))) := ⟨bA, s2, n1, n2⟩
  have HS : Hid (s.size ≤ 1000000) := hs
  clear s1 s2 b1 b2 bA n1 n2 hsg hs
  go_enter Tryz.func18, Tryz.ntmps18
  go_wp2_with fail
  rw [← h1, ← h2]
  clear h1 h2
  refine Calls.mono HT.out ?_
  rintro e w1 ⟨hp, hb1⟩
  obtain ⟨x1, x2, x3, x4⟩ := HX.out
  have y1 := (hb1.block _ (by omega)).trans x3
  have y2 := (hb1.block _ (by omega)).trans x4
  have bw : Below w.heap.size w w1 := below_then x1 hb1
  have hsz : w.heap.size + 1 + 1 ≤ w1.heap.size := by have := hb1.size; omega
  clear x1 x2 x3 x4 hb1 HT HX
  cases hres : Lx.lex s.data.toList with
  | fault E i =>
    rw [hres] at hp
    obtain rfl := hp
    have he : E ≠ 0 := by rcases (Lx.lex_fault hres).2 with rfl | rfl <;> decide
    have hz : ((E : Int) != 0) = true := by simpa using he
    have HR : Hid (Lx.lex s.data.toList = .fault E i) := hres
    obtain ⟨X, hX⟩ : ∃ X, X = w1.alloc (.cells #[.int .i64 E, .int .i64 i] 31) := ⟨_, rfl⟩
    have bX : Below w1.heap.size w1 X := hX ▸ below_new w1 _
    have hXf := (bX.block _ (by omega)).trans y1
    have hXe := (bX.block _ (by omega)).trans y2
    obtain ⟨p0, p1, p2, p3, pf, Z, hZ, hZr, gz⟩ := box_put hXf (.int .u8 0) (.string ⟨#[]⟩) (.int .i64 0) (.slice none 0 0)
    have hZe := (gz.block _ (by have := bX.size; omega) (by simp)).trans hXe
    have u1 := heap_setCell_same Z (w.heap.size + 1) 0 _ 31 (.int .i64 E) hZe
    have u2 := heap_setCell_same _ (w.heap.size + 1) 1 _ 31 (.int .i64 i) u1
    have g1 := (grown_set Z (w.heap.size + 1) 0 (.int .i64 E)).trans (grown_set _ (w.heap.size + 1) 1 (.int .i64 i))
    obtain ⟨Q, hQ⟩ : ∃ Q, Q = (Z.setCell ⟨w.heap.size + 1, 0, none⟩ (.int .i64 E)).setCell ⟨w.heap.size + 1, 1, none⟩ (.int .i64 i) := ⟨_, rfl⟩
    rw [← hQ] at u2 g1
    have hQf := (g1.block w.heap.size (by have := gz.size; have := bX.size; omega) (by simp)).trans hZr
    have HQ : Hid (Below w.heap.size w Q ∧ Q.heap[w.heap.size]? = some (.cells #[.int .u8 0, .string ⟨#[]⟩, .int .i64 0, .slice none 0 0] 25 (0, 0)) ∧ Q.heap[w.heap.size + 1]? = some (.cells #[.int .i64 E, .int .i64 i] 31 (0, 0))) := by
      have := bX.size
      have := gz.size
      have := g1.size
      exact ⟨⟨g1.os.trans (gz.os.trans (bX.os.trans bw.os)), g1.tape.trans (gz.tape.trans (bX.tape.trans bw.tape)), g1.output.trans (gz.output.trans (bX.output.trans bw.output)), by omega, fun j hj => (g1.block j (by omega) (by simp; omega)).trans ((gz.block j (by omega) (by simp; omega)).trans ((bX.block j (by omega)).trans (bw.block j hj)))⟩, hQf, u2⟩
    have hbV : Below w1.heap.size w1 (w1.alloc (.cells #[.int .i64 E, .int .i64 i] 31)) := below_new w1 _
    have hVf := (hbV.block _ (by omega)).trans y1
    have hVe := (hbV.block _ (by omega)).trans y2
    have v0 : (w1.alloc (.cells #[.int .i64 E, .int .i64 i] 31)).cell? ⟨w.heap.size, 0, none⟩ = some (.int .u8 0) := cells_at hVf rfl
    have v1 : (w1.alloc (.cells #[.int .i64 E, .int .i64 i] 31)).cell? ⟨w.heap.size, 1, none⟩ = some (.string ⟨#[]⟩) := cells_at hVf rfl
    have v2 : (w1.alloc (.cells #[.int .i64 E, .int .i64 i] 31)).cell? ⟨w.heap.size, 2, none⟩ = some (.int .i64 0) := cells_at hVf rfl
    have v3 : (w1.alloc (.cells #[.int .i64 E, .int .i64 i] 31)).cell? ⟨w.heap.size, 3, none⟩ = some (.slice none 0 0) := cells_at hVf rfl
    have x0 : (w1.alloc (.cells #[.int .i64 E, .int .i64 i] 31)).cell? ⟨w.heap.size + 1, 0, none⟩ = some (.int .i64 0) := cells_at hVe rfl
    have x1 : (w1.alloc (.cells #[.int .i64 E, .int .i64 i] 31)).cell? ⟨w.heap.size + 1, 1, none⟩ = some (.int .i64 0) := cells_at hVe rfl
    have vf : ∀ j, (w1.alloc (.cells #[.int .i64 E, .int .i64 i] 31)).frozen? ⟨w.heap.size, j, none⟩ = false := fun j => frozen_of_row _ _ j _ _ hVf
    have xf : ∀ j, (w1.alloc (.cells #[.int .i64 E, .int .i64 i] 31)).frozen? ⟨w.heap.size + 1, j, none⟩ = false := fun j => frozen_of_row _ _ j _ _ hVe
    have hne : w.heap.size ≠ w.heap.size + 1 := by omega
    have hne2 : w.heap.size + 1 ≠ w.heap.size := by omega
    have hn3 : w1.heap.size ≠ w.heap.size := by omega
    have hn4 : w1.heap.size ≠ w.heap.size + 1 := by omega
    rw [hZ, hX] at hQ
    clear hres he bX hXf hXe hZr gz hZe u1 u2 g1 hQf hZ hX p0 p1 p2 p3 pf hbV hVf hVe y1 y2 bw hsz
    go_wp2
    go_region
    rw [← hQ]
    clear hQ v0 v1 v2 v3 x0 x1 vf xf
    obtain ⟨m1, m2, m3⟩ := HQ.out
    have j0 : Q.cell? ⟨w.heap.size, 0, none⟩ = some (.int .u8 0) := cells_at m2 rfl
    have j1 : Q.cell? ⟨w.heap.size, 1, none⟩ = some (.string ⟨#[]⟩) := cells_at m2 rfl
    have j2 : Q.cell? ⟨w.heap.size, 2, none⟩ = some (.int .i64 0) := cells_at m2 rfl
    have j3 : Q.cell? ⟨w.heap.size, 3, none⟩ = some (.slice none 0 0) := cells_at m2 rfl
    have i0 : Q.cell? ⟨w.heap.size + 1, 0, none⟩ = some (.int .i64 E) := cells_at m3 rfl
    have i1 : Q.cell? ⟨w.heap.size + 1, 1, none⟩ = some (.int .i64 i) := cells_at m3 rfl
    have HF : Hid (Below w.heap.size w Q.drew) := below_drewN m1 1
    go_wp2
    refine bodyPost_ret (v := .tuple #[zeroV, .agg #[.int .i64 E, .int .i64 i]]) (by simp [results, Tryz.results18, go_sem, j0, j1, j2, j3, i0, i1, zeroV]) rfl ?_
    refine ⟨HF.out, ?_⟩
    unfold GEnd
    rw [HR.out]
  | ok us =>
    rw [hres] at hp
    obtain ⟨v, rfl, ho, hn⟩ := hp
    obtain ⟨X, hX⟩ : ∃ X, X = w1.alloc (.cells #[.int .i64 0, .int .i64 0] 31) := ⟨_, rfl⟩
    have bX : Below w1.heap.size w1 X := hX ▸ below_new w1 _
    have hoX := owns_below ho bX
    have hTA : TAt X v (us ++ [⟨5, [], s.size⟩]) := tat_of_owns hoX (by simp) (by have := HS.out; simp; omega)
    have HP : Hid (_) := parsed_any (us ++ [⟨5, [], s.size⟩]) v X (lex_okL hres (by have := HS.out; simpa using this) _) hTA
    have HR : Hid (Lx.lex s.data.toList = .ok us) := hres
    have HX : Hid (Below w.heap.size w X ∧ w.heap.size + 1 + 1 ≤ X.heap.size ∧ X.heap[w.heap.size]? = some (.cells #[.int .u8 0, .string ⟨#[]⟩, .int .i64 0, .slice none 0 0] 25 (0, 0)) ∧ X.heap[w.heap.size + 1]? = some (.cells #[.int .i64 0, .int .i64 0] 31 (0, 0))) := ⟨below_then bw bX, by have := bX.size; omega, (bX.block _ (by omega)).trans y1, (bX.block _ (by omega)).trans y2⟩
    clear hres bX ho hoX hTA y1 y2 bw hsz hn
    go_wp2_with fail
    rw [← hX]
    clear hX
    refine Calls.mono HP.out ?_
    rintro e w2 ⟨hb2, hq⟩
    obtain ⟨k, tx, n, a, L, c, E, i, rfl⟩ := hq.two
    obtain ⟨x1, x2, x3, x4⟩ := HX.out
    have z1 := (hb2.block _ (by omega)).trans x3
    have z2 := (hb2.block _ (by omega)).trans x4
    obtain ⟨p0, p1, p2, p3, pf, Z, hZ, hZr, gz⟩ := box_put z1 (.int .u8 k) (.string tx) (.int .i64 n) (.slice a L c)
    have z2Z := (gz.block _ (by have := hb2.size; omega) (by simp)).trans z2
    have e0 : Z.cell? ⟨w.heap.size + 1, 0, none⟩ = some (.int .i64 0) := cells_at z2Z rfl
    have u1 := heap_setCell_same Z (w.heap.size + 1) 0 _ 31 (.int .i64 E) z2Z
    have u2 := heap_setCell_same _ (w.heap.size + 1) 1 _ 31 (.int .i64 i) u1
    have e1 : (Z.setCell ⟨w.heap.size + 1, 0, none⟩ (.int .i64 E)).cell? ⟨w.heap.size + 1, 1, none⟩ = some (.int .i64 0) := cells_at u1 rfl
    have ef : ∀ j, Z.frozen? ⟨w.heap.size + 1, j, none⟩ = false := fun j => frozen_of_row Z _ j _ _ z2Z
    have g1 := (grown_set Z (w.heap.size + 1) 0 (.int .i64 E)).trans (grown_set _ (w.heap.size + 1) 1 (.int .i64 i))
    obtain ⟨Q, hQ⟩ : ∃ Q, Q = (Z.setCell ⟨w.heap.size + 1, 0, none⟩ (.int .i64 E)).setCell ⟨w.heap.size + 1, 1, none⟩ (.int .i64 i) := ⟨_, rfl⟩
    rw [← hQ] at u2 g1
    have hQf := (g1.block w.heap.size (by have := gz.size; have := hb2.size; omega) (by simp)).trans hZr
    have HQ : Hid (Below w.heap.size w Q ∧ QEnd (us ++ [⟨5, [], s.size⟩]) w (.returned (.tuple #[.agg #[.int .u8 k, .string tx, .int .i64 n, .slice a L c], .agg #[.int .i64 E, .int .i64 i]])) Q ∧ Q.heap[w.heap.size]? = some (.cells #[.int .u8 k, .string tx, .int .i64 n, .slice a L c] 25 (0, 0)) ∧ Q.heap[w.heap.size + 1]? = some (.cells #[.int .i64 E, .int .i64 i] 31 (0, 0))) := by
      have := gz.size
      have := hb2.size
      have := g1.size
      have bw2 := below_then x1 hb2
      refine ⟨⟨g1.os.trans (gz.os.trans bw2.os), g1.tape.trans (gz.tape.trans bw2.tape), g1.output.trans (gz.output.trans bw2.output), by omega, fun j hj => (g1.block j (by omega) (by simp; omega)).trans ((gz.block j (by omega) (by simp; omega)).trans (bw2.block j hj))⟩, hq.step (fun j hj hl => (g1.block j (by omega) (by simp; omega)).trans (gz.block j hl (by simp; omega))) (by omega) (by omega), hQf, u2⟩
    rw [hZ] at e0 e1 ef hQ
    have t0 : w2.cell? ⟨w.heap.size, 0, none⟩ = some (.int .u8 0) := cells_at z1 rfl
    have t1 : w2.cell? ⟨w.heap.size, 1, none⟩ = some (.string ⟨#[]⟩) := cells_at z1 rfl
    have t2 : w2.cell? ⟨w.heap.size, 2, none⟩ = some (.int .i64 0) := cells_at z1 rfl
    have t3 : w2.cell? ⟨w.heap.size, 3, none⟩ = some (.slice none 0 0) := cells_at z1 rfl
    clear hq x1 x2 x3 x4 z1 z2 hZr gz z2Z u1 u2 g1 hQf hZ hb2 HP HX
    go_wp2
    rw [← hQ]
    clear hQ
    obtain ⟨m1, m4, m2, m3⟩ := HQ.out
    have j0 : Q.cell? ⟨w.heap.size, 0, none⟩ = some (.int .u8 k) := cells_at m2 rfl
    have j1 : Q.cell? ⟨w.heap.size, 1, none⟩ = some (.string tx) := cells_at m2 rfl
    have j2 : Q.cell? ⟨w.heap.size, 2, none⟩ = some (.int .i64 n) := cells_at m2 rfl
    have j3 : Q.cell? ⟨w.heap.size, 3, none⟩ = some (.slice a L c) := cells_at m2 rfl
    have i0 : Q.cell? ⟨w.heap.size + 1, 0, none⟩ = some (.int .i64 E) := cells_at m3 rfl
    have i1 : Q.cell? ⟨w.heap.size + 1, 1, none⟩ = some (.int .i64 i) := cells_at m3 rfl
    refine bodyPost_ret (v := .tuple #[.agg #[.int .u8 k, .string tx, .int .i64 n, .slice a L c], .agg #[.int .i64 E, .int .i64 i]]) (by simp [results, Tryz.results18, go_sem, j0, j1, j2, j3, i0, i1]) rfl ?_
    refine ⟨m1, ?_⟩
    unfold GEnd
    rw [HR.out]
    exact m4
end Go.Proofs.YtnndgjnihhafbaaGreatDoor

/-
  The walk of NodesOf: how many nodes there are, just.
-/
namespace Go.Proofs.YtnndgjnihhafbaaGreatDoor
open Go.RowKit Go.Shelf

attribute [local go_sem] Oper.semAt_some

namespace Tr
end Tr
end Go.Proofs.YtnndgjnihhafbaaGreatDoor

/-
  Three texts, parsed: what File tells of them.
-/
namespace Go.Proofs.YtnndgjnihhafbaaGreatDoor
open Go.RowKit Go.Shelf

def sA : ByteArray := ⟨#[102, 117, 110, 99, 32, 102, 40, 97, 41, 123, 114, 101, 116, 117, 114, 110, 32, 97, 43, 49, 59, 125]⟩
theorem GEnd.node {s : ByteArray} {us : List Lx.Tok} {ts : List Tr} {l : List Lx.Tok} {w w' : World} {e : Ending} (h : GEnd s w e w') (hl : Lx.lex s.data.toList = .ok us) (he : Ps.Eats (.file []) (us ++ [⟨5, [], s.size⟩]) 0 (.ok ts l)) (hr : Tr.right 40 (.mk 1 [] 0 ts) = true) : ∃ v, e = .returned (.tuple #[v, .agg #[.int .i64 0, .int .i64 0]]) ∧ NodeR (newS w.heap.size w'.heap.size) w' v (.mk 1 [] 0 ts) := by
  unfold GEnd at h
  rw [hl] at h
  rcases h with ⟨E, i, h, -⟩ | ⟨ts', l', h, h2⟩
  · exact absurd (he.one h) (by simp)
  · obtain ⟨rfl, rfl⟩ : ts = ts' ∧ l = l' := by have := he.one h; simpa using this
    rcases h2 with ⟨h2, -⟩ | ⟨-, h2⟩
    · rw [hr] at h2; cases h2
    · exact h2
theorem GEnd.bad {s : ByteArray} {us : List Lx.Tok} {E i : Nat} {w w' : World} {e : Ending} (h : GEnd s w e w') (hl : Lx.lex s.data.toList = .ok us) (he : Ps.Eats (.file []) (us ++ [⟨5, [], s.size⟩]) 0 (.bad E i)) : e = .returned (.tuple #[zeroV, .agg #[.int .i64 E, .int .i64 i]]) := by
  unfold GEnd at h
  rw [hl] at h
  rcases h with ⟨E', i', h, h2⟩ | ⟨ts', l', h, h2⟩
  · obtain ⟨rfl, rfl⟩ : E = E' ∧ i = i' := by have := he.one h; simpa using this
    exact h2
  · exact absurd (he.one h) (by simp)

/-- Of any text: a right File, or a fault that is known, at a place of the text or its end, and no node. -/
theorem GEnd.any {s : ByteArray} {w w' : World} {e : Ending} (h : GEnd s w e w') : (∃ ts v, e = .returned (.tuple #[v, .agg #[.int .i64 0, .int .i64 0]]) ∧ Tr.right 40 (.mk 1 [] 0 ts) = true ∧ NodeR (newS w.heap.size w'.heap.size) w' v (.mk 1 [] 0 ts)) ∨ ∃ E i : Nat, e = .returned (.tuple #[zeroV, .agg #[.int .i64 E, .int .i64 i]]) ∧ (E = 100 ∨ E = 101 ∨ E = 102 ∨ E = 103) ∧ i ≤ s.size := by
  unfold GEnd at h
  have hsz : s.data.toList.length = s.size := by simp
  cases hl : Lx.lex s.data.toList with
  | fault E i =>
    rw [hl] at h
    obtain ⟨h1, h2⟩ := Lx.lex_fault hl
    exact .inr ⟨E, i, h, by rcases h2 with h2 | h2 <;> simp [h2], by omega⟩
  | ok us =>
    rw [hl] at h
    have ha := Ps.lex_atMost hl
    rw [hsz] at ha
    rcases h with ⟨E, i, h, h2⟩ | ⟨ts', l', h, ⟨-, h2⟩ | ⟨h1, v, h2, h3⟩⟩
    · obtain ⟨g1, g2⟩ := Ps.Eats.good h ha
      exact .inr ⟨E, i, h2, by rcases g1 with g1 | g1 <;> simp [g1], g2⟩
    · exact .inr ⟨103, 0, h2, by simp, Nat.zero_le _⟩
    · exact .inl ⟨ts', v, h2, h1, h3⟩
end Go.Proofs.YtnndgjnihhafbaaGreatDoor

/-
  The walk of awake: it is.
-/
namespace Go.Proofs.YtnndgjnihhafbaaGreatDoor
open Go.RowKit Go.Shelf

attribute [local go_sem] Oper.semAt_some

theorem two_boxes (w : World) (c d : Array Value) : Below w.heap.size w ((w.alloc (.cells c 25)).alloc (.cells d 31)) ∧ ((w.alloc (.cells c 25)).alloc (.cells d 31)).heap.size = w.heap.size + 1 + 1 ∧ ((w.alloc (.cells c 25)).alloc (.cells d 31)).heap[w.heap.size]? = some (.cells c 25 (0, 0)) ∧ ((w.alloc (.cells c 25)).alloc (.cells d 31)).heap[w.heap.size + 1]? = some (.cells d 31 (0, 0)) := by
  have b1 := below_new w (.cells c 25)
  have b2 := below_new (w.alloc (.cells c 25)) (.cells d 31)
  have s1 : (w.alloc (.cells c 25)).heap.size = w.heap.size + 1 := World.size_alloc _ _
  refine ⟨below_then b1 b2, by rw [World.size_alloc, s1], (b2.block _ (by omega)).trans (World.alloc_heap_new w _), ?_⟩
  rw [← s1]; exact World.alloc_heap_new _ _

end Go.Proofs.YtnndgjnihhafbaaGreatDoor
