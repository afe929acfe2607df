/-
  The walk of the reader's File: lex's fault, or what is parsed.
-/
import Derived.Test.YtfegodofbdlbeaaGreatDoorRsLex
import Derived.Test.YtfegodofbdlbeaaGreatDoorLxRefTok
import Derived.Test.YtfegodofbdlbeaaGreatDoorTrDoc
import Derived.Test.YtfegodofbdlbeaaGreatDoorEndAll
namespace Go.Proofs.YtfegodofbdlbeaaGreatDoor
open Go.RowKit Go.Shelf
open Rs (St)

attribute [local go_sem] Oper.semAt_some

/-- A reader at b that V has made, gone on with. -/
structure FF (V : World) (b : Nat) (W : World) : Prop where
  low : b < V.heap.size
  grown : V.grownBy W (some b)
theorem FF.go {V W W' : World} {b : Nat} (h : FF V b W) (hg : W.grownBy W' (some b)) : FF V b W' := ⟨h.low, h.grown.trans hg⟩
theorem FF.below {V W W' : World} {b : Nat} (h : FF V b W) (hb : Below W.heap.size W W') : FF V b W' := h.go (grown_low hb)
theorem FF.rowed {V W Z : World} {b a n : Nat} {v : Value} {xs : List Value} (h : FF V b W) (ho : W.ownsRow a 26 4 v n xs) (hz : W.grownBy Z v.ownBlock) (ha : V.heap.size ≤ a) : FF V b Z := ⟨h.low, grown_rowed h.grown ho hz ha⟩
theorem FF.set {V W Z : World} {b q : Nat} (h : FF V b W) (hz : W.grownBy Z (some q)) (hq : V.heap.size ≤ q) : FF V b Z := ⟨h.low, grown_new h.grown hz hq⟩
/-- Both results, stored in their boxes. -/
theorem two_put {W : World} {r : Nat} {c0 c1 c2 c3 d0 d1 : Value} (h1 : W.heap[r]? = some (.cells #[c0, c1, c2, c3] 26 (0, 0))) (h2 : W.heap[r + 1]? = some (.cells #[d0, d1] 29 (0, 0))) (a0 a1 a2 a3 e0 e1 : Value) :
    ∃ Q, Q = (((((W.setCell ⟨r, 0, none⟩ a0).setCell ⟨r, 1, none⟩ a1).setCell ⟨r, 2, none⟩ a2).setCell ⟨r, 3, none⟩ a3).setCell ⟨r + 1, 0, none⟩ e0).setCell ⟨r + 1, 1, none⟩ e1 ∧ Q.heap[r]? = some (.cells #[a0, a1, a2, a3] 26 (0, 0)) ∧ Q.heap[r + 1]? = some (.cells #[e0, e1] 29 (0, 0)) ∧ (Q.os = W.os ∧ Q.tape = W.tape ∧ Q.output = W.output ∧ W.heap.size ≤ Q.heap.size) ∧ ∀ k, k < W.heap.size → k ≠ r → k ≠ r + 1 → Q.heap[k]? = W.heap[k]? := by
  obtain ⟨-, -, -, -, -, Z, hZ, hZr, gz⟩ := box_put h1 a0 a1 a2 a3
  have hl := (Array.getElem?_eq_some_iff.1 h1).1
  have hl2 := (Array.getElem?_eq_some_iff.1 h2).1
  have z2 := (gz.block (r + 1) hl2 (by simp)).trans h2
  have u1 := heap_setCell_same Z (r + 1) 0 _ 29 e0 z2
  have u2 := heap_setCell_same _ (r + 1) 1 _ 29 e1 u1
  have g1 := (grown_set Z (r + 1) 0 e0).trans (grown_set _ (r + 1) 1 e1)
  refine ⟨_, by rw [← hZ], (g1.block r (by have := gz.size; omega) (by simp)).trans hZr, u2, ⟨g1.os.trans gz.os, g1.tape.trans gz.tape, g1.output.trans gz.output, Nat.le_trans gz.size g1.size⟩, fun k hk n1 n2 => (g1.block k (by have := gz.size; omega) (by simp; omega)).trans (gz.block k hk (by simp; omega))⟩

set_option maxRecDepth 100000 in
set_option maxHeartbeats 8000000 in
theorem rfileAll_any (s : ByteArray) (w : World) (hs : s.size ≤ 1000000) : Calls Tryz.prog 8 #[.string s] w fun e w' => Below w.heap.size w w' ∧ GEnd s w e w' := by
  obtain ⟨i0, hi0, hz0, hz1, hz2⟩ := info_parts info_node
  obtain ⟨A1, h1⟩ : ∃ A, A = w.alloc (.cells #[.int .u8 0, .string ⟨#[]⟩, .int .i64 0, .slice none 0 0] 26) := ⟨_, rfl⟩
  obtain ⟨A2, h2⟩ : ∃ A, A = A1.alloc (.cells #[.int .i64 0, .int .i64 0] 29) := ⟨_, rfl⟩
  have s1 : A1.heap.size = w.heap.size + 1 := by rw [h1, World.size_alloc]
  have s2 : A2.heap.size = w.heap.size + 1 + 1 := by rw [h2, World.size_alloc, s1]
  have b1 : Below w.heap.size w A1 := h1 ▸ below_new w _
  have b2 : Below A1.heap.size A1 A2 := h2 ▸ below_new A1 _
  have bA : Below w.heap.size w A2 := below_then b1 b2
  have n1 : A2.heap[w.heap.size]? = some (.cells #[.int .u8 0, .string ⟨#[]⟩, .int .i64 0, .slice none 0 0] 26 (0, 0)) := (b2.block _ (by omega)).trans (by rw [h1]; exact World.alloc_heap_new w _)
  have n2 : A2.heap[w.heap.size + 1]? = some (.cells #[.int .i64 0, .int .i64 0] 29 (0, 0)) := by rw [h2, ← s1]; exact World.alloc_heap_new A1 _
  have HT : Hid (_) := rtokens_any s A2 hs
  have HX : Hid (Below w.heap.size w A2 ∧ A2.heap.size = w.heap.size + 1 + 1 ∧ A2.heap[w.heap.size]? = some (.cells #[.int .u8 0, .string ⟨#[]⟩, .int .i64 0, .slice none 0 0] 26 (0, 0)) ∧ A2.heap[w.heap.size + 1]? = some (.cells #[.int .i64 0, .int .i64 0] 29 (0, 0))) := ⟨bA, s2, n1, n2⟩
  have HS : Hid (s.size ≤ 1000000) := hs
  clear s1 s2 b1 b2 bA n1 n2 hs
  go_enter Tryz.func8, Tryz.ntmps8
  go_wp2_with fail
  rw [← h1, ← h2]
  clear h1 h2
  refine Calls.mono HT.out ?_
  rintro e w1 ⟨hp, hb1⟩
  obtain ⟨x1, x2, x3, x4⟩ := HX.out
  have y1 := (hb1.block _ (by omega)).trans x3
  have y2 := (hb1.block _ (by omega)).trans x4
  have bw : Below w.heap.size w w1 := below_then x1 hb1
  have hsz : w.heap.size + 1 + 1 ≤ w1.heap.size := by have := hb1.size; omega
  clear x1 x2 x3 x4 hb1 HT HX
  cases hres : Lx.lex s.data.toList with
  | fault E i =>
    rw [hres] at hp
    obtain rfl := hp
    have he : E ≠ 0 := by rcases (Lx.lex_fault hres).2 with rfl | rfl <;> decide
    have hz : ((E : Int) != 0) = true := by simpa using he
    have HR : Hid (Lx.lex s.data.toList = .fault E i) := hres
    obtain ⟨X, hX⟩ : ∃ X, X = w1.alloc (.cells #[.int .i64 E, .int .i64 i] 29) := ⟨_, rfl⟩
    have bX : Below w1.heap.size w1 X := hX ▸ below_new w1 _
    have hXf := (bX.block _ (by omega)).trans y1
    have hXe := (bX.block _ (by omega)).trans y2
    obtain ⟨p0, p1, p2, p3, pf, Z, hZ, hZr, gz⟩ := box_put hXf (.int .u8 0) (.string ⟨#[]⟩) (.int .i64 0) (.slice none 0 0)
    have hZe := (gz.block _ (by have := bX.size; omega) (by simp)).trans hXe
    have u1 := heap_setCell_same Z (w.heap.size + 1) 0 _ 29 (.int .i64 E) hZe
    have u2 := heap_setCell_same _ (w.heap.size + 1) 1 _ 29 (.int .i64 i) u1
    have g1 := (grown_set Z (w.heap.size + 1) 0 (.int .i64 E)).trans (grown_set _ (w.heap.size + 1) 1 (.int .i64 i))
    obtain ⟨Q, hQ⟩ : ∃ Q, Q = (Z.setCell ⟨w.heap.size + 1, 0, none⟩ (.int .i64 E)).setCell ⟨w.heap.size + 1, 1, none⟩ (.int .i64 i) := ⟨_, rfl⟩
    rw [← hQ] at u2 g1
    have hQf := (g1.block w.heap.size (by have := gz.size; have := bX.size; omega) (by simp)).trans hZr
    have HQ : Hid (Below w.heap.size w Q ∧ Q.heap[w.heap.size]? = some (.cells #[.int .u8 0, .string ⟨#[]⟩, .int .i64 0, .slice none 0 0] 26 (0, 0)) ∧ Q.heap[w.heap.size + 1]? = some (.cells #[.int .i64 E, .int .i64 i] 29 (0, 0))) := by
      have := bX.size
      have := gz.size
      have := g1.size
      exact ⟨⟨g1.os.trans (gz.os.trans (bX.os.trans bw.os)), g1.tape.trans (gz.tape.trans (bX.tape.trans bw.tape)), g1.output.trans (gz.output.trans (bX.output.trans bw.output)), by omega, fun j hj => (g1.block j (by omega) (by simp; omega)).trans ((gz.block j (by omega) (by simp; omega)).trans ((bX.block j (by omega)).trans (bw.block j hj)))⟩, hQf, u2⟩
    have hbV : Below w1.heap.size w1 (w1.alloc (.cells #[.int .i64 E, .int .i64 i] 29)) := below_new w1 _
    have hVf := (hbV.block _ (by omega)).trans y1
    have hVe := (hbV.block _ (by omega)).trans y2
    have v0 : (w1.alloc (.cells #[.int .i64 E, .int .i64 i] 29)).cell? ⟨w.heap.size, 0, none⟩ = some (.int .u8 0) := cells_at hVf rfl
    have v1 : (w1.alloc (.cells #[.int .i64 E, .int .i64 i] 29)).cell? ⟨w.heap.size, 1, none⟩ = some (.string ⟨#[]⟩) := cells_at hVf rfl
    have v2 : (w1.alloc (.cells #[.int .i64 E, .int .i64 i] 29)).cell? ⟨w.heap.size, 2, none⟩ = some (.int .i64 0) := cells_at hVf rfl
    have v3 : (w1.alloc (.cells #[.int .i64 E, .int .i64 i] 29)).cell? ⟨w.heap.size, 3, none⟩ = some (.slice none 0 0) := cells_at hVf rfl
    have x0 : (w1.alloc (.cells #[.int .i64 E, .int .i64 i] 29)).cell? ⟨w.heap.size + 1, 0, none⟩ = some (.int .i64 0) := cells_at hVe rfl
    have x1 : (w1.alloc (.cells #[.int .i64 E, .int .i64 i] 29)).cell? ⟨w.heap.size + 1, 1, none⟩ = some (.int .i64 0) := cells_at hVe rfl
    have vf : ∀ j, (w1.alloc (.cells #[.int .i64 E, .int .i64 i] 29)).frozen? ⟨w.heap.size, j, none⟩ = false := fun j => frozen_of_row _ _ j _ _ hVf
    have xf : ∀ j, (w1.alloc (.cells #[.int .i64 E, .int .i64 i] 29)).frozen? ⟨w.heap.size + 1, j, none⟩ = false := fun j => frozen_of_row _ _ j _ _ hVe
    have hne : w.heap.size ≠ w.heap.size + 1 := by omega
    have hne2 : w.heap.size + 1 ≠ w.heap.size := by omega
    have hn3 : w1.heap.size ≠ w.heap.size := by omega
    have hn4 : w1.heap.size ≠ w.heap.size + 1 := by omega
    rw [hZ, hX] at hQ
    clear hres he bX hXf hXe hZr gz hZe u1 u2 g1 hQf hZ hX p0 p1 p2 p3 pf hbV hVf hVe y1 y2 bw hsz
    go_wp2
    go_region
    rw [← hQ]
    clear hQ v0 v1 v2 v3 x0 x1 vf xf
    obtain ⟨m1, m2, m3⟩ := HQ.out
    have j0 : Q.cell? ⟨w.heap.size, 0, none⟩ = some (.int .u8 0) := cells_at m2 rfl
    have j1 : Q.cell? ⟨w.heap.size, 1, none⟩ = some (.string ⟨#[]⟩) := cells_at m2 rfl
    have j2 : Q.cell? ⟨w.heap.size, 2, none⟩ = some (.int .i64 0) := cells_at m2 rfl
    have j3 : Q.cell? ⟨w.heap.size, 3, none⟩ = some (.slice none 0 0) := cells_at m2 rfl
    have i0 : Q.cell? ⟨w.heap.size + 1, 0, none⟩ = some (.int .i64 E) := cells_at m3 rfl
    have i1 : Q.cell? ⟨w.heap.size + 1, 1, none⟩ = some (.int .i64 i) := cells_at m3 rfl
    have HF : Hid (Below w.heap.size w Q.drew) := below_drewN m1 1
    go_wp2
    refine bodyPost_ret (v := .tuple #[zeroV, .agg #[.int .i64 E, .int .i64 i]]) (by simp [results, Tryz.results8, go_sem, j0, j1, j2, j3, i0, i1, zeroV]) rfl ?_
    refine ⟨HF.out, ?_⟩
    unfold GEnd
    rw [HR.out]
  | ok us =>
    rw [hres] at hp
    obtain ⟨v0, rfl, ho, hn⟩ := hp
    have HR : Hid (Lx.lex s.data.toList = .ok us) := hres
    obtain ⟨L, hL⟩ : ∃ L, L = us ++ [(⟨5, [], s.size⟩ : Lx.Tok)] := ⟨_, rfl⟩
    have HL : Hid (L = us ++ [(⟨5, [], s.size⟩ : Lx.Tok)]) := hL
    rw [← hL] at ho
    have hll : L.length ≤ 100000000 := by have := HS.out; rw [hL]; simp; omega
    have KN : Hid (Known L) := hL ▸ lex_known hres (by have := HS.out; simpa using this) _
    have hG0 : Rs.Good L Rs.st0 := hL ▸ lex_good hres (by have := HS.out; simpa using this) _
    obtain ⟨tb, tc, rfl, htl, hat⟩ := rat_of_owns ho (by rw [hL]; simp) hll
    obtain ⟨X, hX⟩ : ∃ X, X = w1.alloc (.cells #[.int .i64 0, .int .i64 0] 29) := ⟨_, rfl⟩
    obtain ⟨V, hV⟩ : ∃ V, V = X.alloc (.cells #[.slice (some ⟨tb, 0, none⟩) L.length tc, .int .i64 0, .int .i64 0, .int .i64 0, .int .i64 0] 46) := ⟨_, rfl⟩
    obtain ⟨Y, hY⟩ : ∃ Y, Y = V.alloc (.cells #[.int .u8 1, .string ⟨#[]⟩, .int .i64 0, .slice none 0 0] 26) := ⟨_, rfl⟩
    have bX : Below w1.heap.size w1 X := hX ▸ below_new w1 _
    have bV : Below X.heap.size X V := hV ▸ below_new X _
    have bY : Below V.heap.size V Y := hY ▸ below_new V _
    have sX : X.heap.size = w1.heap.size + 1 := by rw [hX, World.size_alloc]
    have sV : V.heap.size = w1.heap.size + 1 + 1 := by rw [hV, World.size_alloc, sX]
    obtain ⟨q, hq⟩ : ∃ q, q = w1.heap.size + 1 + 1 := ⟨_, rfl⟩
    obtain ⟨b, hb⟩ : ∃ b, b = w1.heap.size + 1 := ⟨_, rfl⟩
    have hVb : V.heap[b]? = some (.cells #[.slice (some ⟨tb, 0, none⟩) L.length tc, .int .i64 0, .int .i64 0, .int .i64 0, .int .i64 0] 46 (0, 0)) := by rw [hb, ← sX, hV]; exact World.alloc_heap_new X _
    have PV : RAt b L Rs.st0 V := hat V b (by omega) (fun k hk => (bV.block k (by omega)).trans (bX.block k hk)) hVb
    have BQ : Hid (Y.heap[q]? = some (.cells #[.int .u8 1, .string ⟨#[]⟩, .int .i64 0, .slice none 0 0] 26 (0, 0))) := by rw [Hid, hq, ← sV, hY]; exact World.alloc_heap_new V _
    have bwV : Below w.heap.size w V := below_then (below_then bw bX) bV
    have HV : Hid (Below w.heap.size w V ∧ w.heap.size + 1 + 1 ≤ b ∧ V.heap[w.heap.size]? = some (.cells #[.int .u8 0, .string ⟨#[]⟩, .int .i64 0, .slice none 0 0] 26 (0, 0)) ∧ V.heap[w.heap.size + 1]? = some (.cells #[.int .i64 0, .int .i64 0] 29 (0, 0))) := ⟨bwV, by omega, (bV.block _ (by omega)).trans ((bX.block _ (by omega)).trans y1), (bV.block _ (by omega)).trans ((bX.block _ (by omega)).trans y2)⟩
    have FR : Hid (FF V b Y) := ⟨by omega, grown_low bY⟩
    have PA : Hid (RAt b L Rs.st0 Y) := PV.below bY
    have hwA : V.heap.size ≤ q := by omega
    have ST : Hid (FF V b Y ∧ RAt b L Rs.st0 Y ∧ Y.heap[q]? = some (.cells #[.int .u8 1, .string ⟨#[]⟩, .int .i64 0, .slice none 0 0] 26 (0, 0)) ∧ Rw (q + 1) Y (.slice none 0 0) [] ∧ Rs.Till L (.file []) Rs.st0 (.file (([] : List N1).map N1.tr)) Rs.st0 ∧ Rs.Sh L Rs.st0 Rs.st0 0) := ⟨FR.out, PA.out, BQ.out, Rw.nil _ _, Rs.Till.refl hG0, Rs.Sh.refl Rs.st0⟩
    have HLL : Hid (L.length ≤ 100000000) := hll
    have HHQ : Hid (q = w1.heap.size + 1 + 1 ∧ b = w1.heap.size + 1 ∧ X.heap.size = w1.heap.size + 1 ∧ V.heap.size = w1.heap.size + 1 + 1) := ⟨hq, hb, sX, sV⟩
    have HWX : Hid (w.heap.size + 1 + 1 ≤ w1.heap.size) := hsz
    clear FR PA BQ bX bV bY sX sV hVb PV bwV hG0 hat ho htl hll hres y1 y2 bw hsz hL hn
    go_wp2
    rw [← hX, ← hV, ← hY, ← hq, ← hb]
    clear hX hV hY hq hb
    go_loopg [] (Rs.mu L Rs.st0) (fun g wr => ∃ (v : Value) (xs : List N1) (s2 : St), g = Rs.mu L s2 ∧ xs.length + Rs.mu L s2 ≤ 100000001 ∧ FF V b wr ∧ RAt b L s2 wr ∧ wr.heap[q]? = some (.cells #[.int .u8 1, .string ⟨#[]⟩, .int .i64 0, v] 26 (0, 0)) ∧ Rw (q + 1) wr v xs ∧ Rs.Till L (.file []) Rs.st0 (.file (xs.map N1.tr)) s2 ∧ Rs.Sh L Rs.st0 s2 0)
    case atStart => exact ⟨_, [], Rs.st0, rfl, by have := Rs.mu_le L Rs.st0; have := HLL.out; simp; omega, ST.out⟩
    case round =>
      clear ST
      obtain ⟨v, xs, s2, hgk, hxl, hF, hP, hB, hRw, hT, hSh⟩ := hrel
      have FR : Hid (FF V b wr) := hF
      have PA : Hid (RAt b L s2 wr) := hP
      have BQ : Hid (wr.heap[q]? = some (.cells #[.int .u8 1, .string ⟨#[]⟩, .int .i64 0, v] 26 (0, 0))) := hB
      have RW : Hid (Rw (q + 1) wr v xs) := hRw
      have TL : Hid (Rs.Till L (.file []) Rs.st0 (.file (xs.map N1.tr)) s2) := hT
      have SH : Hid (Rs.Sh L Rs.st0 s2 0) := hSh
      have GD : Hid (Rs.Good L s2) := hT.good
      clear hF hP hB hRw hT hSh
      -- the boxes of the results
      have hlo : V.heap.size ≤ wr.heap.size := FR.out.grown.size
      have hVl := HV.out.2.1
      have hbV := FR.out.low
      have y1 : wr.heap[w.heap.size]? = some (.cells #[.int .u8 0, .string ⟨#[]⟩, .int .i64 0, .slice none 0 0] 26 (0, 0)) := (FR.out.grown.block _ (by omega) (by simp; omega)).trans HV.out.2.2.1
      have y2 : wr.heap[w.heap.size + 1]? = some (.cells #[.int .i64 0, .int .i64 0] 29 (0, 0)) := (FR.out.grown.block _ (by omega) (by simp; omega)).trans HV.out.2.2.2
      have bw : Below w.heap.size w wr := ⟨FR.out.grown.os.trans HV.out.1.os, FR.out.grown.tape.trans HV.out.1.tape, FR.out.grown.output.trans HV.out.1.output, by omega, fun k hk => (FR.out.grown.block k (by omega) (by simp; omega)).trans (HV.out.1.block k hk)⟩
      have HY : Hid (wr.heap[w.heap.size]? = some (.cells #[.int .u8 0, .string ⟨#[]⟩, .int .i64 0, .slice none 0 0] 26 (0, 0)) ∧ wr.heap[w.heap.size + 1]? = some (.cells #[.int .i64 0, .int .i64 0] 29 (0, 0)) ∧ Below w.heap.size w wr ∧ w.heap.size + 1 + 1 ≤ b ∧ b < V.heap.size ∧ V.heap.size ≤ wr.heap.size) := ⟨y1, y2, bw, hVl, hbV, hlo⟩
      clear y1 y2 bw hlo hVl hbV
      by_cases hE : ¬ s2.E = 0
      case pos =>
        have HEV : Hid (_) := TL.out.file_end rfl (fun h => absurd h hE)
        have HE : Hid (s2.E ≠ 0) := hE
        obtain ⟨tb2, c2, -, -, -, c3, c4, cf, -, -, -, -, -, -⟩ := PA.out.cells GD.out
        have e0 : ((s2.E : Int) == 0) = false := by simpa using hE
        have e1 : ((s2.E : Int) != 0) = true := by simpa using hE
        obtain ⟨x1, x2, x3, x4, x5, x6⟩ := HY.out
        obtain ⟨Q, hQ, Q1, Q2, ⟨Q3, Q4, Q5, Q6⟩, Q7⟩ := two_put x1 x2 (.int .u8 0) (.string ⟨#[]⟩) (.int .i64 0) (.slice none 0 0) (.int .i64 s2.E) (.int .i64 s2.i)
        have HQ : Hid (Below w.heap.size w Q ∧ Q.heap[w.heap.size]? = some (.cells #[.int .u8 0, .string ⟨#[]⟩, .int .i64 0, .slice none 0 0] 26 (0, 0)) ∧ Q.heap[w.heap.size + 1]? = some (.cells #[.int .i64 s2.E, .int .i64 s2.i] 29 (0, 0))) := ⟨⟨Q3.trans x3.os, Q4.trans x3.tape, Q5.trans x3.output, by omega, fun k hk => (Q7 k (by omega) (by omega) (by omega)).trans (x3.block k hk)⟩, Q1, Q2⟩
        have v0 : wr.cell? ⟨w.heap.size, 0, none⟩ = some (.int .u8 0) := cells_at x1 rfl
        have v1 : wr.cell? ⟨w.heap.size, 1, none⟩ = some (.string ⟨#[]⟩) := cells_at x1 rfl
        have v2 : wr.cell? ⟨w.heap.size, 2, none⟩ = some (.int .i64 0) := cells_at x1 rfl
        have v3 : wr.cell? ⟨w.heap.size, 3, none⟩ = some (.slice none 0 0) := cells_at x1 rfl
        have z0 : wr.cell? ⟨w.heap.size + 1, 0, none⟩ = some (.int .i64 0) := cells_at x2 rfl
        have z1 : wr.cell? ⟨w.heap.size + 1, 1, none⟩ = some (.int .i64 0) := cells_at x2 rfl
        have vf : ∀ j, wr.frozen? ⟨w.heap.size, j, none⟩ = false := fun j => frozen_of_row _ _ j _ _ x1
        have zf : ∀ j, wr.frozen? ⟨w.heap.size + 1, j, none⟩ = false := fun j => frozen_of_row _ _ j _ _ x2
        have hne : w.heap.size ≠ w.heap.size + 1 := by omega
        have hne2 : w.heap.size + 1 ≠ w.heap.size := by omega
        have hn3 : b ≠ w.heap.size := by omega
        have hn4 : b ≠ w.heap.size + 1 := by omega
        have hn5 : w.heap.size ≠ b := by omega
        have hn6 : w.heap.size + 1 ≠ b := by omega
        clear x1 x2 x3 x4 x5 x6 Q1 Q2 Q3 Q4 Q5 Q6 Q7 hE
        go_wp2
        go_region
        all_goals go_wp2
        go_region
        all_goals (try rw [← hQ])
        clear hQ v0 v1 v2 v3 z0 z1 vf zf
        obtain ⟨m1, m2, m3⟩ := HQ.out
        have j0 : Q.cell? ⟨w.heap.size, 0, none⟩ = some (.int .u8 0) := cells_at m2 rfl
        have j1 : Q.cell? ⟨w.heap.size, 1, none⟩ = some (.string ⟨#[]⟩) := cells_at m2 rfl
        have j2 : Q.cell? ⟨w.heap.size, 2, none⟩ = some (.int .i64 0) := cells_at m2 rfl
        have j3 : Q.cell? ⟨w.heap.size, 3, none⟩ = some (.slice none 0 0) := cells_at m2 rfl
        have i0 : Q.cell? ⟨w.heap.size + 1, 0, none⟩ = some (.int .i64 s2.E) := cells_at m3 rfl
        have i1 : Q.cell? ⟨w.heap.size + 1, 1, none⟩ = some (.int .i64 s2.i) := cells_at m3 rfl
        have HFN : ∀ n, Hid (Below w.heap.size w (Q.drewN n)) := fun n => below_drewN m1 n
        have HEE : Hid (Ps.Eats (.file []) L 0 (.bad s2.E s2.i)) := by
          rcases HEV.out with ⟨-, h⟩ | ⟨h, -⟩
          · exact h
          · exact absurd h HE.out
        go_wp2
        refine bodyPost_ret (v := .tuple #[zeroV, .agg #[.int .i64 s2.E, .int .i64 s2.i]]) (by simp [results, Tryz.results8, go_sem, j0, j1, j2, j3, i0, i1, zeroV]) rfl ?_
        refine ⟨(HFN 2).out, ?_⟩
        unfold GEnd
        rw [HR.out]
        exact .inl ⟨_, _, by rw [← HL.out]; exact HEE.out, rfl⟩
      case neg =>
        have hE0 : s2.E = 0 := by simpa using hE
        have H0 : Hid (s2.E = 0) := hE0
        clear hE
        obtain ⟨tb2, c2, c0, c1, -, c3, -, -, ⟨hl0, hl1, hl2, htb, hbw⟩, t0, -, -, -, -⟩ := PA.out.cells GD.out
        have e0 : ((s2.E : Int) == 0) = true := by rw [hE0]; rfl
        have e1 : ((s2.E : Int) != 0) = false := by rw [hE0]; rfl
        obtain ⟨K, hK⟩ : ∃ K, K = (Ps.hd (Rs.rest L s2)).kind := ⟨_, rfl⟩
        have HK : Hid (K = (Ps.hd (Rs.rest L s2)).kind) := hK
        rw [← hK] at t0
        obtain ⟨N, hN⟩ : ∃ N, N = L.length := ⟨_, rfl⟩
        have HN : Hid (N = L.length) := hN
        rw [← hN] at c0 hl0 hl1 hl2
        obtain ⟨k0, hk0⟩ : ∃ k, k = s2.k := ⟨_, rfl⟩
        rw [← hk0] at c1 hl0 t0
        obtain ⟨E0, hE0'⟩ : ∃ k, k = s2.E := ⟨_, rfl⟩
        rw [← hE0'] at c3 e0 e1
        have hlI : (k0 : Int) < N := by omega
        clear hE0 hK hN hk0 hE0' htb hbw
        have bd : Below wr.heap.size wr wr.drew := below_draw wr 1
        by_cases hk5 : K = 5
        case pos =>
          have d5 : ((K : Int) != 5) = false := by rw [hk5]; rfl
          have HEV : Hid (_) := TL.out.file_end rfl (fun _ => by rw [← HK.out]; exact hk5)
          clear hk5
          have f0 : wr.drew.cell? ⟨q, 0, none⟩ = some (.int .u8 1) := cells_at (show wr.drew.heap[q]? = _ from BQ.out) rfl
          have f1 : wr.drew.cell? ⟨q, 1, none⟩ = some (.string ⟨#[]⟩) := cells_at (show wr.drew.heap[q]? = _ from BQ.out) rfl
          have f2 : wr.drew.cell? ⟨q, 2, none⟩ = some (.int .i64 0) := cells_at (show wr.drew.heap[q]? = _ from BQ.out) rfl
          have f3 : wr.drew.cell? ⟨q, 3, none⟩ = some v := cells_at (show wr.drew.heap[q]? = _ from BQ.out) rfl
          obtain ⟨va, vc, hv⟩ := slice_shape RW.out.own
          obtain ⟨vL, hvL⟩ : ∃ N, N = xs.length := ⟨_, rfl⟩
          rw [← hvL] at hv
          subst hv
          have hnd : NodeR (newS V.heap.size wr.drew.heap.size) wr.drew (.agg #[.int .u8 1, .string ⟨#[]⟩, .int .i64 0, .slice va vL vc]) (.mk 1 [] 0 (xs.map N1.tr)) := ⟨⟨1, [], 0, .slice va vL vc, xs.map N1.tr⟩, rfl, rfl, fit_of 1 [] _ _ (by omega) (by simp), (RW.out.row (by omega) (by omega)).keep (fun _ _ => rfl) (fun _ h => h)⟩
          have HND : Hid (_) := hnd
          have HT : Hid (_) := rright_any (newS V.heap.size wr.drew.heap.size) (.mk 1 [] 0 (xs.map N1.tr)) _ wr.drew (fun _ h => h.2) hnd
          obtain ⟨RB, hRB⟩ : ∃ b, b = Tr.right 40 (.mk 1 [] 0 (xs.map N1.tr)) := ⟨_, rfl⟩
          have HRB : Hid (RB = Tr.right 40 (.mk 1 [] 0 (xs.map N1.tr))) := hRB
          rw [← hRB] at HT
          clear hRB hnd hvL
          go_wp2
          go_region
          all_goals go_wp2_with fail
          refine Calls.mono HT.out ?_
          rintro e w2 ⟨rfl, hb2⟩
          obtain ⟨x1, x2, x3, x4, x5, x6⟩ := HY.out
          have hb2' : Below wr.heap.size wr w2 := below_then bd hb2
          have z1 := (hb2'.block _ (by omega)).trans x1
          have z2 := (hb2'.block _ (by omega)).trans x2
          have bw2 : Below w.heap.size w w2 := below_then x3 hb2'
          have zq := (hb2'.block q (Array.getElem?_eq_some_iff.1 BQ.out).1).trans BQ.out
          have hn2 : NodeR (newS V.heap.size w2.heap.size) w2 (.agg #[.int .u8 1, .string ⟨#[]⟩, .int .i64 0, .slice va vL vc]) (.mk 1 [] 0 (xs.map N1.tr)) := NodeR.low HND.out hb2 (Nat.le_refl _)
          have hs2 := hb2'.size
          have HEE : Hid (Ps.Eats (.file []) L 0 (.ok (xs.map N1.tr) (Rs.rest L s2))) := by
            rcases HEV.out with ⟨h, -⟩ | ⟨-, h⟩
            · exact absurd H0.out h
            · exact h
          have v0 : w2.cell? ⟨w.heap.size, 0, none⟩ = some (.int .u8 0) := cells_at z1 rfl
          have v1 : w2.cell? ⟨w.heap.size, 1, none⟩ = some (.string ⟨#[]⟩) := cells_at z1 rfl
          have v2 : w2.cell? ⟨w.heap.size, 2, none⟩ = some (.int .i64 0) := cells_at z1 rfl
          have v3 : w2.cell? ⟨w.heap.size, 3, none⟩ = some (.slice none 0 0) := cells_at z1 rfl
          have x0' : w2.cell? ⟨w.heap.size + 1, 0, none⟩ = some (.int .i64 0) := cells_at z2 rfl
          have x1' : w2.cell? ⟨w.heap.size + 1, 1, none⟩ = some (.int .i64 0) := cells_at z2 rfl
          have g0 : w2.cell? ⟨q, 0, none⟩ = some (.int .u8 1) := cells_at zq rfl
          have g1 : w2.cell? ⟨q, 1, none⟩ = some (.string ⟨#[]⟩) := cells_at zq rfl
          have g2 : w2.cell? ⟨q, 2, none⟩ = some (.int .i64 0) := cells_at zq rfl
          have g3 : w2.cell? ⟨q, 3, none⟩ = some (.slice va vL vc) := cells_at zq rfl
          have vf : ∀ j, w2.frozen? ⟨w.heap.size, j, none⟩ = false := fun j => frozen_of_row _ _ j _ _ z1
          have zf : ∀ j, w2.frozen? ⟨w.heap.size + 1, j, none⟩ = false := fun j => frozen_of_row _ _ j _ _ z2
          have hne : w.heap.size ≠ w.heap.size + 1 := by omega
          have hne2 : w.heap.size + 1 ≠ w.heap.size := by omega
          clear HT HND f0 f1 f2 f3 hb2 bd
          cases RB
          · obtain ⟨Q, hQ, Q1, Q2, ⟨Q3, Q4, Q5, Q6⟩, Q7⟩ := two_put z1 z2 (.int .u8 0) (.string ⟨#[]⟩) (.int .i64 0) (.slice none 0 0) (.int .i64 103) (.int .i64 0)
            have HQ : Hid (Below w.heap.size w Q ∧ Q.heap[w.heap.size]? = some (.cells #[.int .u8 0, .string ⟨#[]⟩, .int .i64 0, .slice none 0 0] 26 (0, 0)) ∧ Q.heap[w.heap.size + 1]? = some (.cells #[.int .i64 103, .int .i64 0] 29 (0, 0))) := ⟨⟨Q3.trans bw2.os, Q4.trans bw2.tape, Q5.trans bw2.output, by have := bw2.size; omega, fun k hk => (Q7 k (by omega) (by omega) (by omega)).trans (bw2.block k hk)⟩, Q1, Q2⟩
            clear Q1 Q2 Q3 Q4 Q5 Q6 Q7 x1 x2 x3 x4 x5 x6 hb2' z1 z2 bw2 zq hn2 hs2 g0 g1 g2 g3
            go_wp2
            rw [← hQ]
            clear hQ v0 v1 v2 v3 x0' x1' vf zf
            obtain ⟨m1, m2, m3⟩ := HQ.out
            have j0 : Q.cell? ⟨w.heap.size, 0, none⟩ = some (.int .u8 0) := cells_at m2 rfl
            have j1 : Q.cell? ⟨w.heap.size, 1, none⟩ = some (.string ⟨#[]⟩) := cells_at m2 rfl
            have j2 : Q.cell? ⟨w.heap.size, 2, none⟩ = some (.int .i64 0) := cells_at m2 rfl
            have j3 : Q.cell? ⟨w.heap.size, 3, none⟩ = some (.slice none 0 0) := cells_at m2 rfl
            have i0 : Q.cell? ⟨w.heap.size + 1, 0, none⟩ = some (.int .i64 103) := cells_at m3 rfl
            have i1 : Q.cell? ⟨w.heap.size + 1, 1, none⟩ = some (.int .i64 0) := cells_at m3 rfl
            refine bodyPost_ret (v := .tuple #[zeroV, .agg #[.int .i64 103, .int .i64 0]]) (by simp [results, Tryz.results8, go_sem, j0, j1, j2, j3, i0, i1, zeroV]) rfl ?_
            refine ⟨m1, ?_⟩
            unfold GEnd
            rw [HR.out]
            exact .inr ⟨_, _, by rw [← HL.out]; exact HEE.out, .inl ⟨HRB.out.symm, rfl⟩⟩
          · obtain ⟨Q, hQ, Q1, Q2, ⟨Q3, Q4, Q5, Q6⟩, Q7⟩ := two_put z1 z2 (.int .u8 1) (.string ⟨#[]⟩) (.int .i64 0) (.slice va vL vc) (.int .i64 0) (.int .i64 0)
            have hnQ : NodeR (newS w.heap.size Q.heap.size) Q (.agg #[.int .u8 1, .string ⟨#[]⟩, .int .i64 0, .slice va vL vc]) (.mk 1 [] 0 (xs.map N1.tr)) := hn2.step (fun k h1 h2 => Q7 k h2 (by omega) (by omega)) Q6 (by omega)
            have HQ : Hid (Below w.heap.size w Q ∧ Q.heap[w.heap.size]? = some (.cells #[.int .u8 1, .string ⟨#[]⟩, .int .i64 0, .slice va vL vc] 26 (0, 0)) ∧ Q.heap[w.heap.size + 1]? = some (.cells #[.int .i64 0, .int .i64 0] 29 (0, 0)) ∧ NodeR (newS w.heap.size Q.heap.size) Q (.agg #[.int .u8 1, .string ⟨#[]⟩, .int .i64 0, .slice va vL vc]) (.mk 1 [] 0 (xs.map N1.tr))) := ⟨⟨Q3.trans bw2.os, Q4.trans bw2.tape, Q5.trans bw2.output, by have := bw2.size; omega, fun k hk => (Q7 k (by omega) (by omega) (by omega)).trans (bw2.block k hk)⟩, Q1, Q2, hnQ⟩
            clear Q1 Q2 Q3 Q4 Q5 Q6 Q7 x1 x2 x3 x4 x5 x6 hb2' z1 z2 bw2 zq hn2 hs2 hnQ
            go_wp2
            rw [← hQ]
            clear hQ v0 v1 v2 v3 x0' x1' vf zf g0 g1 g2 g3
            obtain ⟨m1, m2, m3, m4⟩ := HQ.out
            have j0 : Q.cell? ⟨w.heap.size, 0, none⟩ = some (.int .u8 1) := cells_at m2 rfl
            have j1 : Q.cell? ⟨w.heap.size, 1, none⟩ = some (.string ⟨#[]⟩) := cells_at m2 rfl
            have j2 : Q.cell? ⟨w.heap.size, 2, none⟩ = some (.int .i64 0) := cells_at m2 rfl
            have j3 : Q.cell? ⟨w.heap.size, 3, none⟩ = some (.slice va vL vc) := cells_at m2 rfl
            have i0 : Q.cell? ⟨w.heap.size + 1, 0, none⟩ = some (.int .i64 0) := cells_at m3 rfl
            have i1 : Q.cell? ⟨w.heap.size + 1, 1, none⟩ = some (.int .i64 0) := cells_at m3 rfl
            refine bodyPost_ret (v := .tuple #[.agg #[.int .u8 1, .string ⟨#[]⟩, .int .i64 0, .slice va vL vc], .agg #[.int .i64 0, .int .i64 0]]) (by simp [results, Tryz.results8, go_sem, j0, j1, j2, j3, i0, i1]) rfl ?_
            refine ⟨m1, ?_⟩
            unfold GEnd
            rw [HR.out]
            exact .inr ⟨_, _, by rw [← HL.out]; exact HEE.out, .inr ⟨HRB.out.symm, _, rfl, m4⟩⟩
        case neg =>
          have d5 : ((K : Int) != 5) = true := by simpa using (by omega : ¬ (K : Int) = 5)
          have HK5 : Hid ((Ps.hd (Rs.rest L s2)).kind ≠ 5) := HK.out ▸ hk5
          clear hk5
          replace FR : Hid (FF V b wr.drew) := FR.out.below bd
          replace PA : Hid (RAt b L s2 wr.drew) := PA.out.below bd
          replace BQ : Hid (wr.drew.heap[q]? = some (.cells #[.int .u8 1, .string ⟨#[]⟩, .int .i64 0, v] 26 (0, 0))) := BQ.out
          replace RW : Hid (Rw (q + 1) wr.drew v xs) := RW.out.go (b := b) (grown_low bd) (by have := FR.out.low; omega)
          have hqw : q < wr.drew.heap.size := (Array.getElem?_eq_some_iff.1 BQ.out).1
          have HB : Hid ((Rs.rest L s2).length ≤ L.length) := by unfold Rs.rest; rw [Hid, List.length_drop]; omega
          have HC : Hid (_) := rfunction_any L.length b L s2 wr.drew KN.out GD.out PA.out (fun _ => HB.out)
          clear bd HY
          go_wp2
          go_region
          all_goals go_wp2_with fail
          clear c0 c1 c3 t0 e0 e1 d5 hl0 hl1 hl2 hlI
          refine Calls.mono HC.out ?_
          rintro e W5 ⟨hg5, ty, v9, s3, rfl, ra5, rel5, nd5⟩
          obtain ⟨⟨yk, yt, yn, yv, ykids⟩, rfl, rfl, yf, yr⟩ := nd5
          obtain ⟨ya, yc, hyv⟩ := yr.slice
          simp only at hyv
          subst hyv
          obtain ⟨yL, hyL⟩ : ∃ N, N = ykids.length := ⟨_, rfl⟩
          simp only [N1.cells]
          rw [← hyL] at yf yr ⊢
          clear hyL
          have FR5 : Hid (FF V b W5) := FR.out.go hg5
          have BQ5 : Hid (W5.heap[q]? = some (.cells #[.int .u8 1, .string ⟨#[]⟩, .int .i64 0, v] 26 (0, 0))) := (hg5.block q (Array.getElem?_eq_some_iff.1 BQ.out).1 (by have := FR.out.low; simp; omega)).trans BQ.out
          have HY5 : Hid ((⟨yk, yt, yn, .slice ya yL yc, ykids⟩ : N1).Fit ∧ RowR (newS wr.drew.heap.size W5.heap.size) W5 (.slice ya yL yc) ykids ∧ wr.drew.grownBy W5 (some b) ∧ RAt b L s3 W5) := ⟨yf, yr, hg5, ra5⟩
          have RY : Hid (Rs.Rel L .func s2 (.mk yk yt yn ykids) s3) := rel5
          have S3 : Hid (Rs.Sh L s2 s3 1) := Rs.rel_shs (J := .func) trivial trivial rel5
          clear hg5 ra5 rel5 yf yr HC
          obtain ⟨Y, hY⟩ : ∃ Y, Y = W5.alloc (.cells #[.int .u8 yk, .string (Ln.bs yt), .int .i64 yn, .slice ya yL yc] 26) := ⟨_, rfl⟩
          have bY : Below W5.heap.size W5 Y := hY ▸ below_new W5 _
          have HYN : Hid (Y.heap[W5.heap.size]? = some (.cells #[.int .u8 yk, .string (Ln.bs yt), .int .i64 yn, .slice ya yL yc] 26 (0, 0))) := by rw [Hid, hY]; exact World.alloc_heap_new W5 _
          go_upto_region 8 with fail
          rw [← hY]
          have sY : Y.heap.size = W5.heap.size + 1 := by rw [hY, World.size_alloc]
          clear hY
          have f0 : Y.cell? ⟨W5.heap.size, 0, none⟩ = some (.int .u8 yk) := cells_at HYN.out rfl
          have f1 : Y.cell? ⟨W5.heap.size, 1, none⟩ = some (.string (Ln.bs yt)) := cells_at HYN.out rfl
          have f2 : Y.cell? ⟨W5.heap.size, 2, none⟩ = some (.int .i64 yn) := cells_at HYN.out rfl
          have f3 : Y.cell? ⟨W5.heap.size, 3, none⟩ = some (.slice ya yL yc) := cells_at HYN.out rfl
          have bR := below_nw Y (.cells #[.int .u8 yk, .string (Ln.bs yt), .int .i64 yn, .slice ya yL yc] 26)
          have SRC : Hid (_) := cells_new Y [.int .u8 yk, .string (Ln.bs yt), .int .i64 yn, .slice ya yL yc] 26
          rw [sY] at SRC
          have BQY : Y.heap[q]? = some (.cells #[.int .u8 1, .string ⟨#[]⟩, .int .i64 0, v] 26 (0, 0)) := (bY.block q (Array.getElem?_eq_some_iff.1 BQ5.out).1).trans BQ5.out
          have hlow := FR5.out.low
          have hq5 : wr.drew.heap.size ≤ W5.heap.size := HY5.out.2.2.1.size
          have RW5 : Rw (q + 1) W5 v xs := RW.out.go HY5.out.2.2.1 (by omega)
          have RWY : Rw (q + 1) Y v xs := RW5.go (b := b) (grown_low bY) (by omega)
          have RWR : Hid (Rw (q + 1) (Y.alloc (.cells #[.int .u8 yk, .string (Ln.bs yt), .int .i64 yn, .slice ya yL yc] 26)) v xs) := RWY.go (b := b) (grown_low bR) (by omega)
          have BQR : Hid ((Y.alloc (.cells #[.int .u8 yk, .string (Ln.bs yt), .int .i64 yn, .slice ya yL yc] 26)).heap[q]? = some (.cells #[.int .u8 1, .string ⟨#[]⟩, .int .i64 0, v] 26 (0, 0))) := (bR.block q (Array.getElem?_eq_some_iff.1 BQY).1).trans BQY
          have vY : Y.cell? ⟨q, 3, none⟩ = some v := cells_at BQY rfl
          have vR : (Y.alloc (.cells #[.int .u8 yk, .string (Ln.bs yt), .int .i64 yn, .slice ya yL yc] 26)).cell? ⟨q, 3, none⟩ = some v := cells_at BQR.out rfl
          have FRR : Hid (FF V b (Y.alloc (.cells #[.int .u8 yk, .string (Ln.bs yt), .int .i64 yn, .slice ya yL yc] 26))) := (FR5.out.below bY).below bR
          have PAR : Hid (RAt b L (s3) (Y.alloc (.cells #[.int .u8 yk, .string (Ln.bs yt), .int .i64 yn, .slice ya yL yc] 26))) := (HY5.out.2.2.2.below bY).below bR
          have GRR : Hid (wr.drew.grownBy (Y.alloc (.cells #[.int .u8 yk, .string (Ln.bs yt), .int .i64 yn, .slice ya yL yc] 26)) (some b)) := grown_below (grown_below HY5.out.2.2.1 bY) bR
          have RYR : Hid (RowR (newS wr.drew.heap.size (Y.alloc (.cells #[.int .u8 yk, .string (Ln.bs yt), .int .i64 yn, .slice ya yL yc] 26)).heap.size) (Y.alloc (.cells #[.int .u8 yk, .string (Ln.bs yt), .int .i64 yn, .slice ya yL yc] 26)) (.slice ya yL yc) ykids) := HY5.out.2.1.keep (fun k hk => (bR.block k (Nat.lt_of_lt_of_le hk.2 bY.size)).trans (bY.block k hk.2)) (fun _ hk => ⟨hk.1, Nat.lt_of_lt_of_le (Nat.lt_of_lt_of_le hk.2 bY.size) bR.size⟩)
          have HQS : Hid (q + 1 ≤ (Y.alloc (.cells #[.int .u8 yk, .string (Ln.bs yt), .int .i64 yn, .slice ya yL yc] 26)).heap.size) := by have := (Array.getElem?_eq_some_iff.1 BQR.out).1; exact this
          have HQW : Hid (q + 1 ≤ wr.drew.heap.size) := hqw
          have HYF : Hid ((⟨yk, yt, yn, .slice ya yL yc, ykids⟩ : N1).Fit) := HY5.out.1
          clear BQY RW5 RWY bY bR HY5 FR5 BQ5 HYN hq5
          go_wp2_with (at_builtin; refine wpList_append_own_at _ rfl _ _ 24 rfl (q + 1) 26 i0 (.agg #[.int .u8 0, .string ⟨#[]⟩, .int .i64 0, .slice none 0 0]) 4 56 Tryz.underlying24 hi0 hz0 hz1 hz2 rfl (by decide) _ _ _ rfl RWR.out.own ⟨W5.heap.size + 1, 0, none⟩ 1 1 [.int .u8 yk, .string (Ln.bs yt), .int .i64 yn, .slice ya yL yc] rfl rfl SRC.out (by simp [Value.oneCell']) (by unfold maxLen; omega) (by omega) HQS.out ?_; intro v' W' hown' hgr _ hat; have BQN := box_rowed BQR.out RWR.out.own hgr (Nat.lt_succ_self q); have vc : W'.cell? ⟨q, 3, none⟩ = some v := cells_at BQN rfl; have vf : W'.frozen? ⟨q, 3, none⟩ = false := frozen_of_row W' _ 3 _ _ BQN; have RWN : Hid (Rw (q + 1) W' v' (xs ++ [⟨yk, yt, yn, .slice ya yL yc, ykids⟩])) := Rw.app RW.out GRR.out (by omega) HYF.out RYR.out HQW.out hown' hgr hat; have FRN : Hid (FF V b W') := FRR.out.rowed RWR.out.own hgr (by omega); have PAN : Hid (RAt b L (s3) W') := PAR.out.rowed RWR.out.own hgr; have HBN : Hid (W'.heap[q]? = some (.cells #[.int .u8 1, .string ⟨#[]⟩, .int .i64 0, v] 26 (0, 0))) := BQN; obtain ⟨va', vc', hv'⟩ := slice_shape hown'; subst hv'; clear hown' hgr hat BQN)
          obtain ⟨Z, hZ⟩ : ∃ Z, Z = W'.setCell ⟨q, 3, none⟩ (.slice va' (xs.length + 1) vc') := ⟨_, rfl⟩
          have gZ : W'.grownBy Z (some q) := by rw [hZ]; exact grown_set W' _ _ _
          have HZ : Hid (FF V b Z ∧ RAt b L s3 Z ∧ Z.heap[q]? = some (.cells #[.int .u8 1, .string ⟨#[]⟩, .int .i64 0, .slice va' (xs.length + 1) vc'] 26 (0, 0)) ∧ Rw (q + 1) Z (.slice va' (xs.length + 1) vc') (xs ++ [⟨yk, yt, yn, .slice ya yL yc, ykids⟩])) := ⟨FRN.out.set gZ (by omega), PAN.out.beside gZ HBN.out, by rw [hZ]; exact heap_setCell_same W' _ 3 _ _ _ HBN.out, RWN.out.go gZ (by omega)⟩
          clear gZ
          rw [← hZ]
          have hmu := Rs.mu_lt H0.out S3.out
          go_roundg (Rs.mu L s3)
          case measure => omega
          case rel => exact ⟨_, xs ++ [⟨yk, yt, yn, .slice ya yL yc, ykids⟩], s3, rfl, by simp; omega, HZ.out.1, HZ.out.2.1, HZ.out.2.2.1, HZ.out.2.2.2, by have := Rs.Till.file TL.out H0.out HK5.out RY.out; rw [List.map_append]; exact this, (SH.out.trans S3.out).less (by omega)⟩
end Go.Proofs.YtfegodofbdlbeaaGreatDoor
