/-
  The walk of File once more, the row of the Kids its own: lex's fault, or what is parsed.
-/
import Derived.Test.YtdaaecnmllpgdaaGreatDoorEndAll
import Derived.Test.YtdaaecnmllpgdaaGreatDoorPsParsedO
namespace Go.Proofs.YtdaaecnmllpgdaaGreatDoor
open Go.RowKit Go.Shelf

attribute [local go_sem] Oper.semAt_some

/-- What File ends with. -/
def GEndO (s : ByteArray) (w : World) (e : Ending) (w' : World) : Prop :=
  match Lx.lex s.data.toList with
  | .fault E i => e = .returned (.tuple #[zeroV, .agg #[.int .i64 E, .int .i64 i]])
  | .ok us => QEndO (us ++ [⟨5, [], s.size⟩]) w e w'

theorem QEndO.two {l : List Lx.Tok} {w w' : World} {e : Ending} (h : QEndO l w e w') : ∃ (k : Int) (tx : ByteArray) (n : Int) (a : Option Addr) (L c : Nat) (E i : Nat), e = .returned (.tuple #[.agg #[.int .u8 k, .string tx, .int .i64 n, .slice a L c], .agg #[.int .i64 E, .int .i64 i]]) := by
  rcases h with ⟨E, i, -, rfl⟩ | ⟨ts, l', -, ⟨-, rfl⟩ | ⟨-, v, rfl, hn⟩⟩
  · exact ⟨0, _, _, _, _, _, _, _, rfl⟩
  · exact ⟨0, _, _, _, _, _, 103, 0, rfl⟩
  · obtain ⟨k, tx, n, a, L, c, rfl⟩ := hn.pshape
    exact ⟨_, _, _, _, _, _, 0, 0, rfl⟩

theorem QEndO.step {l : List Lx.Tok} {w u w' w2 : World} {e : Ending} (h : QEndO l u e w') (hk : ∀ k, u.heap.size ≤ k → k < w'.heap.size → w2.heap[k]? = w'.heap[k]?) (hs : w'.heap.size ≤ w2.heap.size) (ha : w.heap.size ≤ u.heap.size) : QEndO l w e w2 := by
  rcases h with h | ⟨ts, l', he, h | ⟨hr, v, rfl, hn⟩⟩
  · exact .inl h
  · exact .inr ⟨ts, l', he, .inl h⟩
  · exact .inr ⟨ts, l', he, .inr ⟨hr, v, rfl, hn.step hk hs ha⟩⟩

set_option maxRecDepth 100000 in
set_option maxHeartbeats 8000000 in
theorem pfileAllO_any (s : ByteArray) (w : World) (hsg : SignsAt w.heap.size w) (hs : s.size ≤ 1000000) : Calls Tryz.prog 8 #[.string s] w fun e w' => Below w.heap.size w w' ∧ GEndO s w e w' := by
  obtain ⟨A1, h1⟩ : ∃ A, A = w.alloc (.cells #[.int .u8 0, .string ⟨#[]⟩, .int .i64 0, .slice none 0 0] 26) := ⟨_, rfl⟩
  obtain ⟨A2, h2⟩ : ∃ A, A = A1.alloc (.cells #[.int .i64 0, .int .i64 0] 29) := ⟨_, rfl⟩
  have s1 : A1.heap.size = w.heap.size + 1 := by rw [h1, World.size_alloc]
  have s2 : A2.heap.size = w.heap.size + 1 + 1 := by rw [h2, World.size_alloc, s1]
  have b1 : Below w.heap.size w A1 := h1 ▸ below_new w _
  have b2 : Below A1.heap.size A1 A2 := h2 ▸ below_new A1 _
  have bA : Below w.heap.size w A2 := below_then b1 b2
  have n1 : A2.heap[w.heap.size]? = some (.cells #[.int .u8 0, .string ⟨#[]⟩, .int .i64 0, .slice none 0 0] 26 (0, 0)) := (b2.block _ (by omega)).trans (by rw [h1]; exact World.alloc_heap_new w _)
  have n2 : A2.heap[w.heap.size + 1]? = some (.cells #[.int .i64 0, .int .i64 0] 29 (0, 0)) := by rw [h2, ← s1]; exact World.alloc_heap_new A1 _
  have HT : Hid (_) := tokens_any s A2 ((hsg.keep bA).mono bA.size) hs
  have HX : Hid (Below w.heap.size w A2 ∧ A2.heap.size = w.heap.size + 1 + 1 ∧ A2.heap[w.heap.size]? = some (.cells #[.int .u8 0, .string ⟨#[]⟩, .int .i64 0, .slice none 0 0] 26 (0, 0)) ∧ A2.heap[w.heap.size + 1]? = some (.cells #[.int .i64 0, .int .i64 0] 29 (0, 0))) := ⟨bA, s2, n1, n2⟩
  have HS : Hid (s.size ≤ 1000000) := hs
  clear s1 s2 b1 b2 bA n1 n2 hsg hs
  go_enter Tryz.func8, Tryz.ntmps8
  go_wp2_with fail
  rw [← h1, ← h2]
  clear h1 h2
  refine Calls.mono HT.out ?_
  rintro e w1 ⟨hp, hb1⟩
  obtain ⟨x1, x2, x3, x4⟩ := HX.out
  have y1 := (hb1.block _ (by omega)).trans x3
  have y2 := (hb1.block _ (by omega)).trans x4
  have bw : Below w.heap.size w w1 := below_then x1 hb1
  have hsz : w.heap.size + 1 + 1 ≤ w1.heap.size := by have := hb1.size; omega
  clear x1 x2 x3 x4 hb1 HT HX
  cases hres : Lx.lex s.data.toList with
  | fault E i =>
    rw [hres] at hp
    obtain rfl := hp
    have he : E ≠ 0 := by rcases (Lx.lex_fault hres).2 with rfl | rfl <;> decide
    have hz : ((E : Int) != 0) = true := by simpa using he
    have HR : Hid (Lx.lex s.data.toList = .fault E i) := hres
    obtain ⟨X, hX⟩ : ∃ X, X = w1.alloc (.cells #[.int .i64 E, .int .i64 i] 29) := ⟨_, rfl⟩
    have bX : Below w1.heap.size w1 X := hX ▸ below_new w1 _
    have hXf := (bX.block _ (by omega)).trans y1
    have hXe := (bX.block _ (by omega)).trans y2
    obtain ⟨p0, p1, p2, p3, pf, Z, hZ, hZr, gz⟩ := box_put hXf (.int .u8 0) (.string ⟨#[]⟩) (.int .i64 0) (.slice none 0 0)
    have hZe := (gz.block _ (by have := bX.size; omega) (by simp)).trans hXe
    have u1 := heap_setCell_same Z (w.heap.size + 1) 0 _ 29 (.int .i64 E) hZe
    have u2 := heap_setCell_same _ (w.heap.size + 1) 1 _ 29 (.int .i64 i) u1
    have g1 := (grown_set Z (w.heap.size + 1) 0 (.int .i64 E)).trans (grown_set _ (w.heap.size + 1) 1 (.int .i64 i))
    obtain ⟨Q, hQ⟩ : ∃ Q, Q = (Z.setCell ⟨w.heap.size + 1, 0, none⟩ (.int .i64 E)).setCell ⟨w.heap.size + 1, 1, none⟩ (.int .i64 i) := ⟨_, rfl⟩
    rw [← hQ] at u2 g1
    have hQf := (g1.block w.heap.size (by have := gz.size; have := bX.size; omega) (by simp)).trans hZr
    have HQ : Hid (Below w.heap.size w Q ∧ Q.heap[w.heap.size]? = some (.cells #[.int .u8 0, .string ⟨#[]⟩, .int .i64 0, .slice none 0 0] 26 (0, 0)) ∧ Q.heap[w.heap.size + 1]? = some (.cells #[.int .i64 E, .int .i64 i] 29 (0, 0))) := by
      have := bX.size
      have := gz.size
      have := g1.size
      exact ⟨⟨g1.os.trans (gz.os.trans (bX.os.trans bw.os)), g1.tape.trans (gz.tape.trans (bX.tape.trans bw.tape)), g1.output.trans (gz.output.trans (bX.output.trans bw.output)), by omega, fun j hj => (g1.block j (by omega) (by simp; omega)).trans ((gz.block j (by omega) (by simp; omega)).trans ((bX.block j (by omega)).trans (bw.block j hj)))⟩, hQf, u2⟩
    have hbV : Below w1.heap.size w1 (w1.alloc (.cells #[.int .i64 E, .int .i64 i] 29)) := below_new w1 _
    have hVf := (hbV.block _ (by omega)).trans y1
    have hVe := (hbV.block _ (by omega)).trans y2
    have v0 : (w1.alloc (.cells #[.int .i64 E, .int .i64 i] 29)).cell? ⟨w.heap.size, 0, none⟩ = some (.int .u8 0) := cells_at hVf rfl
    have v1 : (w1.alloc (.cells #[.int .i64 E, .int .i64 i] 29)).cell? ⟨w.heap.size, 1, none⟩ = some (.string ⟨#[]⟩) := cells_at hVf rfl
    have v2 : (w1.alloc (.cells #[.int .i64 E, .int .i64 i] 29)).cell? ⟨w.heap.size, 2, none⟩ = some (.int .i64 0) := cells_at hVf rfl
    have v3 : (w1.alloc (.cells #[.int .i64 E, .int .i64 i] 29)).cell? ⟨w.heap.size, 3, none⟩ = some (.slice none 0 0) := cells_at hVf rfl
    have x0 : (w1.alloc (.cells #[.int .i64 E, .int .i64 i] 29)).cell? ⟨w.heap.size + 1, 0, none⟩ = some (.int .i64 0) := cells_at hVe rfl
    have x1 : (w1.alloc (.cells #[.int .i64 E, .int .i64 i] 29)).cell? ⟨w.heap.size + 1, 1, none⟩ = some (.int .i64 0) := cells_at hVe rfl
    have vf : ∀ j, (w1.alloc (.cells #[.int .i64 E, .int .i64 i] 29)).frozen? ⟨w.heap.size, j, none⟩ = false := fun j => frozen_of_row _ _ j _ _ hVf
    have xf : ∀ j, (w1.alloc (.cells #[.int .i64 E, .int .i64 i] 29)).frozen? ⟨w.heap.size + 1, j, none⟩ = false := fun j => frozen_of_row _ _ j _ _ hVe
    have hne : w.heap.size ≠ w.heap.size + 1 := by omega
    have hne2 : w.heap.size + 1 ≠ w.heap.size := by omega
    have hn3 : w1.heap.size ≠ w.heap.size := by omega
    have hn4 : w1.heap.size ≠ w.heap.size + 1 := by omega
    rw [hZ, hX] at hQ
    clear hres he bX hXf hXe hZr gz hZe u1 u2 g1 hQf hZ hX p0 p1 p2 p3 pf hbV hVf hVe y1 y2 bw hsz
    go_wp2
    go_region
    rw [← hQ]
    clear hQ v0 v1 v2 v3 x0 x1 vf xf
    obtain ⟨m1, m2, m3⟩ := HQ.out
    have j0 : Q.cell? ⟨w.heap.size, 0, none⟩ = some (.int .u8 0) := cells_at m2 rfl
    have j1 : Q.cell? ⟨w.heap.size, 1, none⟩ = some (.string ⟨#[]⟩) := cells_at m2 rfl
    have j2 : Q.cell? ⟨w.heap.size, 2, none⟩ = some (.int .i64 0) := cells_at m2 rfl
    have j3 : Q.cell? ⟨w.heap.size, 3, none⟩ = some (.slice none 0 0) := cells_at m2 rfl
    have i0 : Q.cell? ⟨w.heap.size + 1, 0, none⟩ = some (.int .i64 E) := cells_at m3 rfl
    have i1 : Q.cell? ⟨w.heap.size + 1, 1, none⟩ = some (.int .i64 i) := cells_at m3 rfl
    have HF : Hid (Below w.heap.size w Q.drew) := below_drewN m1 1
    go_wp2
    refine bodyPost_ret (v := .tuple #[zeroV, .agg #[.int .i64 E, .int .i64 i]]) (by simp [results, Tryz.results8, go_sem, j0, j1, j2, j3, i0, i1, zeroV]) rfl ?_
    refine ⟨HF.out, ?_⟩
    unfold GEndO
    rw [HR.out]
  | ok us =>
    rw [hres] at hp
    obtain ⟨v, rfl, ho, hn⟩ := hp
    obtain ⟨X, hX⟩ : ∃ X, X = w1.alloc (.cells #[.int .i64 0, .int .i64 0] 29) := ⟨_, rfl⟩
    have bX : Below w1.heap.size w1 X := hX ▸ below_new w1 _
    have hoX := owns_below ho bX
    have hTA : TAt X v (us ++ [⟨5, [], s.size⟩]) := tat_of_owns hoX (by simp) (by have := HS.out; simp; omega)
    have HP : Hid (_) := parsedO_any (us ++ [⟨5, [], s.size⟩]) v X (lex_okL hres (by have := HS.out; simpa using this) _) hTA
    have HR : Hid (Lx.lex s.data.toList = .ok us) := hres
    have HX : Hid (Below w.heap.size w X ∧ w.heap.size + 1 + 1 ≤ X.heap.size ∧ X.heap[w.heap.size]? = some (.cells #[.int .u8 0, .string ⟨#[]⟩, .int .i64 0, .slice none 0 0] 26 (0, 0)) ∧ X.heap[w.heap.size + 1]? = some (.cells #[.int .i64 0, .int .i64 0] 29 (0, 0))) := ⟨below_then bw bX, by have := bX.size; omega, (bX.block _ (by omega)).trans y1, (bX.block _ (by omega)).trans y2⟩
    clear hres bX ho hoX hTA y1 y2 bw hsz hn
    go_wp2_with fail
    rw [← hX]
    clear hX
    refine Calls.mono HP.out ?_
    rintro e w2 ⟨hb2, hq⟩
    obtain ⟨k, tx, n, a, L, c, E, i, rfl⟩ := hq.two
    obtain ⟨x1, x2, x3, x4⟩ := HX.out
    have z1 := (hb2.block _ (by omega)).trans x3
    have z2 := (hb2.block _ (by omega)).trans x4
    obtain ⟨p0, p1, p2, p3, pf, Z, hZ, hZr, gz⟩ := box_put z1 (.int .u8 k) (.string tx) (.int .i64 n) (.slice a L c)
    have z2Z := (gz.block _ (by have := hb2.size; omega) (by simp)).trans z2
    have e0 : Z.cell? ⟨w.heap.size + 1, 0, none⟩ = some (.int .i64 0) := cells_at z2Z rfl
    have u1 := heap_setCell_same Z (w.heap.size + 1) 0 _ 29 (.int .i64 E) z2Z
    have u2 := heap_setCell_same _ (w.heap.size + 1) 1 _ 29 (.int .i64 i) u1
    have e1 : (Z.setCell ⟨w.heap.size + 1, 0, none⟩ (.int .i64 E)).cell? ⟨w.heap.size + 1, 1, none⟩ = some (.int .i64 0) := cells_at u1 rfl
    have ef : ∀ j, Z.frozen? ⟨w.heap.size + 1, j, none⟩ = false := fun j => frozen_of_row Z _ j _ _ z2Z
    have g1 := (grown_set Z (w.heap.size + 1) 0 (.int .i64 E)).trans (grown_set _ (w.heap.size + 1) 1 (.int .i64 i))
    obtain ⟨Q, hQ⟩ : ∃ Q, Q = (Z.setCell ⟨w.heap.size + 1, 0, none⟩ (.int .i64 E)).setCell ⟨w.heap.size + 1, 1, none⟩ (.int .i64 i) := ⟨_, rfl⟩
    rw [← hQ] at u2 g1
    have hQf := (g1.block w.heap.size (by have := gz.size; have := hb2.size; omega) (by simp)).trans hZr
    have HQ : Hid (Below w.heap.size w Q ∧ QEndO (us ++ [⟨5, [], s.size⟩]) w (.returned (.tuple #[.agg #[.int .u8 k, .string tx, .int .i64 n, .slice a L c], .agg #[.int .i64 E, .int .i64 i]])) Q ∧ Q.heap[w.heap.size]? = some (.cells #[.int .u8 k, .string tx, .int .i64 n, .slice a L c] 26 (0, 0)) ∧ Q.heap[w.heap.size + 1]? = some (.cells #[.int .i64 E, .int .i64 i] 29 (0, 0))) := by
      have := gz.size
      have := hb2.size
      have := g1.size
      have bw2 := below_then x1 hb2
      refine ⟨⟨g1.os.trans (gz.os.trans bw2.os), g1.tape.trans (gz.tape.trans bw2.tape), g1.output.trans (gz.output.trans bw2.output), by omega, fun j hj => (g1.block j (by omega) (by simp; omega)).trans ((gz.block j (by omega) (by simp; omega)).trans (bw2.block j hj))⟩, hq.step (fun j hj hl => (g1.block j (by omega) (by simp; omega)).trans (gz.block j hl (by simp; omega))) (by omega) (by omega), hQf, u2⟩
    rw [hZ] at e0 e1 ef hQ
    have t0 : w2.cell? ⟨w.heap.size, 0, none⟩ = some (.int .u8 0) := cells_at z1 rfl
    have t1 : w2.cell? ⟨w.heap.size, 1, none⟩ = some (.string ⟨#[]⟩) := cells_at z1 rfl
    have t2 : w2.cell? ⟨w.heap.size, 2, none⟩ = some (.int .i64 0) := cells_at z1 rfl
    have t3 : w2.cell? ⟨w.heap.size, 3, none⟩ = some (.slice none 0 0) := cells_at z1 rfl
    clear hq x1 x2 x3 x4 z1 z2 hZr gz z2Z u1 u2 g1 hQf hZ hb2 HP HX
    go_wp2
    rw [← hQ]
    clear hQ
    obtain ⟨m1, m4, m2, m3⟩ := HQ.out
    have j0 : Q.cell? ⟨w.heap.size, 0, none⟩ = some (.int .u8 k) := cells_at m2 rfl
    have j1 : Q.cell? ⟨w.heap.size, 1, none⟩ = some (.string tx) := cells_at m2 rfl
    have j2 : Q.cell? ⟨w.heap.size, 2, none⟩ = some (.int .i64 n) := cells_at m2 rfl
    have j3 : Q.cell? ⟨w.heap.size, 3, none⟩ = some (.slice a L c) := cells_at m2 rfl
    have i0 : Q.cell? ⟨w.heap.size + 1, 0, none⟩ = some (.int .i64 E) := cells_at m3 rfl
    have i1 : Q.cell? ⟨w.heap.size + 1, 1, none⟩ = some (.int .i64 i) := cells_at m3 rfl
    refine bodyPost_ret (v := .tuple #[.agg #[.int .u8 k, .string tx, .int .i64 n, .slice a L c], .agg #[.int .i64 E, .int .i64 i]]) (by simp [results, Tryz.results8, go_sem, j0, j1, j2, j3, i0, i1]) rfl ?_
    refine ⟨m1, ?_⟩
    unfold GEndO
    rw [HR.out]
    exact m4
end Go.Proofs.YtdaaecnmllpgdaaGreatDoor
