/-
  Several texts in one, as they are: TrLentBase, TrLent, TrKept.
-/
import Derived.Test.YtejnleigjjaenaaTrSame
import Derived.Deep.DeepAppendRoom
import Derived.Test.YtejnleigjjaenaaFitAll

/-
  Rows of nodes that were lent: marks behind each row.
-/
namespace Go.Proofs.Ytejnleigjjaenaa
open Go.RowKit Go.Shelf

/-- The marked node. -/
def nmark (k i : Nat) : N1 := ⟨0, [], (1000003 * (k + 7) + i : Nat), .slice none 0 0, []⟩
def nmarks (j : Nat) : List N1 := (List.range j).map (nmark 1)
theorem nmarks_succ (j : Nat) : nmarks (j + 1) = nmarks j ++ [nmark 1 j] := by simp [nmarks, List.range_succ]
theorem nmarks_len (j : Nat) : (nmarks j).length = j := by simp [nmarks]
theorem nmarks_get {j i : Nat} (h : i < j) : (nmarks j)[i]? = some (nmark 1 i) := by simp [nmarks, h]
theorem nmark_fit (i : Nat) (h : i ≤ 1000) : (nmark 1 i).Fit := ⟨by simp [nmark], by simp [nmark], by simp only [nmark]; omega⟩

/-- v is a row of nodes with twelve marks behind it, and behind the Kids of each, in blocks from B on. -/
inductive LentV (B : Nat) (W : World) : Value → List Tr → Prop
  | mk {v : Value} {ts : List Tr} (g cap : Nat) (xs : List N1) (ev : v = .slice (some ⟨g, 0, none⟩) xs.length cap) (e : ts = xs.map N1.tr) (own : W.ownsRow B 25 4 (.slice (some ⟨g, 0, none⟩) (xs.length + 12) cap) (xs.length + 12) (n1Cells (xs ++ nmarks 12))) (hl : xs.length ≤ 1000000) (hf : ∀ x ∈ xs, x.Fit) (hk : ∀ x ∈ xs, LentV B W x.v x.kids) : LentV B W v ts

theorem owns_keep {W W' : World} {B C e s n : Nat} {v : Value} {xs : List Value} (h : W.ownsRow B e s v n xs) (hb : ∀ b, B ≤ b → b < W.heap.size → W'.heap[b]? = W.heap[b]?) (hC : C ≤ B) : W'.ownsRow C e s v n xs := by
  refine ⟨h.1, ?_⟩
  rcases h.2 with h0 | ⟨g, cap, cur, hv, hbg, hg, rest⟩
  · exact .inl h0
  · exact .inr ⟨g, cap, cur, hv, Nat.le_trans hC hbg, (hb g hbg (Array.getElem?_eq_some_iff.1 hg).1).trans hg, rest⟩
theorem LentV.keep {B C : Nat} {W W' : World} {v : Value} {ts : List Tr} (h : LentV B W v ts) (hb : ∀ b, B ≤ b → b < W.heap.size → W'.heap[b]? = W.heap[b]?) (hC : C ≤ B) : LentV C W' v ts := by
  induction h with
  | mk g cap xs ev e own hl hf hk ih => exact .mk g cap xs ev e (owns_keep own hb hC) hl hf ih
theorem LentV.at {B : Nat} {W W' : World} {v : Value} {ts : List Tr} (h : LentV B W v ts) (hb : Below W.heap.size W W') : LentV B W' v ts := h.keep (fun b _ hl => hb.block b hl) (Nat.le_refl _)
theorem LentV.base {B C : Nat} {W : World} {v : Value} {ts : List Tr} (h : LentV B W v ts) (hC : C ≤ B) : LentV C W v ts := h.keep (fun _ _ _ => rfl) hC
theorem LentV.slice {B : Nat} {W : World} {v : Value} {ts : List Tr} (h : LentV B W v ts) : ∃ g cap, v = .slice (some ⟨g, 0, none⟩) ts.length cap := by
  cases h with
  | mk g cap xs ev e own hl hf hk => exact ⟨g, cap, by rw [ev, e, List.length_map]⟩
theorem LentV.row {B : Nat} {W : World} {v : Value} {ts : List Tr} (h : LentV B W v ts) : RowR (lowS W.heap.size) W v ts := by
  induction h with
  | mk g cap xs ev e own hl hf hk ih =>
    have hcap : xs.length + 12 ≤ cap ∧ g < W.heap.size := by
      rcases own.2 with ⟨h0, _⟩ | ⟨g', cap', cur, he, _, hg, hnc, _⟩
      · cases h0
      · cases he; exact ⟨hnc, (Array.getElem?_eq_some_iff.1 hg).1⟩
    refine .mk xs e ⟨_, cap, g, 0, ev, ⟨by omega, fun e => by cases e⟩, fun _ => ⟨rfl, hcap.2⟩, fun j u hu => ?_⟩ (by omega) hf ih
    have hj : j < (n1Cells xs).length := (List.getElem?_eq_some_iff.1 hu).1
    rw [n1Cells_len] at hj
    rw [Nat.zero_add, own.cellAt j (by omega), n1Cells_append, List.getElem?_append_left (by rw [n1Cells_len]; exact hj)]
    exact hu
/-- What a lent row is, opened. -/
theorem LentV.parts {B : Nat} {W : World} {v : Value} {ts : List Tr} (h : LentV B W v ts) :
    ∃ (g cap : Nat) (xs : List N1), v = .slice (some ⟨g, 0, none⟩) ts.length cap ∧ ts = xs.map N1.tr ∧ ts.length + 12 ≤ cap ∧ ts.length ≤ 1000000 ∧ (∀ x ∈ xs, x.Fit ∧ LentV B W x.v x.kids) ∧
      ∀ (i : Nat) (x : N1), (xs ++ nmarks 12)[i]? = some x → W.cell? ⟨g, i * 4, none⟩ = some (.int .u8 x.k) ∧ W.cell? ⟨g, i * 4 + 1, none⟩ = some (.string (Ln.bs x.t)) ∧ W.cell? ⟨g, i * 4 + 2, none⟩ = some (.int .i64 x.n) ∧ W.cell? ⟨g, i * 4 + 3, none⟩ = some x.v := by
  cases h with
  | mk g cap xs ev e own hl hf hk =>
    have hlen : ts.length = xs.length := by rw [e, List.length_map]
    have hcap : xs.length + 12 ≤ cap := by
      rcases own.2 with ⟨h0, _⟩ | ⟨g', cap', cur, he, _, hg, hnc, _⟩
      · cases h0
      · cases he; exact hnc
    refine ⟨g, cap, xs, by rw [hlen]; exact ev, e, by omega, by omega, fun x hx => ⟨hf x hx, hk x hx⟩, fun i x hi => ?_⟩
    have hil : i < xs.length + 12 := by have := (List.getElem?_eq_some_iff.1 hi).1; rw [List.length_append, nmarks_len] at this; exact this
    have key : ∀ j, j < 4 → W.cell? ⟨g, i * 4 + j, none⟩ = x.cells[j]? := fun j hj => by
      rw [own.cellAt (i * 4 + j) (by omega)]
      exact n1Cells_at hi j hj
    refine ⟨?_, ?_, ?_, ?_⟩
    · exact key 0 (by omega)
    · exact key 1 (by omega)
    · exact key 2 (by omega)
    · exact key 3 (by omega)
end Go.Proofs.Ytejnleigjjaenaa

/-
  The walks of clerestorykit.LentNode and LentNodes.
-/
namespace Go.Proofs.Ytejnleigjjaenaa
open Go.RowKit Go.Shelf

attribute [local go_sem] Oper.semAt_some

set_option maxRecDepth 100000 in
set_option maxHeartbeats 2000000 in
theorem markNode_any (k i : Nat) (hk : k ≤ 1000000) (hi : i ≤ 10000000) (w : World) :
    Calls Try.prog 21 #[.int .i64 k, .int .i64 i] w fun e w' => e = .returned (.agg (nmark k i).cells.toArray) ∧ Below w.heap.size w w' := by
  go_enter Try.func21, Try.ntmps21
  go_wp2
  have e1 : ((1000003 * (k + 7) + i : Nat) : Int) = 1000003 * ((k : Int) + 7) + i := by omega
  refine bodyPost_ret (v := .agg (nmark k i).cells.toArray) (by simp [results, Try.results21, go_sem, nmark, N1.cells, e1]; rfl) rfl ⟨rfl, (Below.refl _ w).alloc (Nat.le_refl _) _⟩

def LentRowsAt (l : List Tr) : Prop := ∀ (S : Nat → Prop) (v : Value) (w : World), (∀ b, S b → b < w.heap.size) → RowR S w v l → Tr.sizes l ≤ 1000000 →
  Calls Try.prog 6 #[v] w fun e w' => ∃ r, e = .returned r ∧ LentV w.heap.size w' r l ∧ Below w.heap.size w w'
def LentNodeAt (t : Tr) : Prop := ∀ (S : Nat → Prop) (v : Value) (w : World), (∀ b, S b → b < w.heap.size) → NodeR S w v t → t.size ≤ 1000000 →
  Calls Try.prog 20 #[v] w fun e w' => ∃ x : N1, e = .returned (.agg x.cells.toArray) ∧ x.tr = t ∧ x.Fit ∧ LentV w.heap.size w' x.v x.kids ∧ Below w.heap.size w w'

set_option maxRecDepth 100000 in
set_option maxHeartbeats 4000000 in
theorem lentNode_step (t : Tr) (ih : LentRowsAt t.kids) : LentNodeAt t := by
  intro S v w hS hv hm
  obtain ⟨⟨k, tx, n, kv, kids⟩, rfl, rfl, hf, hr⟩ := hv
  obtain ⟨ka, kc, hkv⟩ := hr.slice
  simp only at hkv
  subst hkv
  simp only [N1.cells]
  have hcl : (N1.tr ⟨k, tx, n, .slice ka kids.length kc, kids⟩).kids = kids := rfl
  rw [hcl] at ih
  rw [Tr.size_eq, hcl] at hm
  obtain ⟨A1, h1⟩ : ∃ A, A = w.alloc (.cells #[.int .u8 k, .string (Ln.bs tx), .int .i64 n, .slice ka kids.length kc] 25) := ⟨_, rfl⟩
  obtain ⟨X, hX⟩ : ∃ A, A = A1.alloc (.cells #[.int .u8 0, .string ⟨#[]⟩, .int .i64 0, .slice none 0 0] 25) := ⟨_, rfl⟩
  have s1 : A1.heap.size = w.heap.size + 1 := by rw [h1, World.size_alloc]
  have sX : X.heap.size = w.heap.size + 1 + 1 := by rw [hX, World.size_alloc, s1]
  have b1 : Below w.heap.size w A1 := h1 ▸ below_new w _
  have b2 : Below A1.heap.size A1 X := hX ▸ below_new A1 _
  have bX : Below w.heap.size w X := below_then b1 b2
  have n1 : A1.heap[w.heap.size]? = some (.cells #[.int .u8 k, .string (Ln.bs tx), .int .i64 n, .slice ka kids.length kc] 25 (0, 0)) := by rw [h1]; exact World.alloc_heap_new w _
  have n1X : X.heap[w.heap.size]? = some (.cells #[.int .u8 k, .string (Ln.bs tx), .int .i64 n, .slice ka kids.length kc] 25 (0, 0)) := (b2.block _ (by omega)).trans n1
  have n2X : X.heap[w.heap.size + 1]? = some (.cells #[.int .u8 0, .string ⟨#[]⟩, .int .i64 0, .slice none 0 0] 25 (0, 0)) := by
    have := World.alloc_heap_new A1 (.cells #[.int .u8 0, .string ⟨#[]⟩, .int .i64 0, .slice none 0 0] 25)
    rw [hX, ← s1]; exact this
  have HC : Hid (_) := ih S (.slice ka kids.length kc) X (fun b hb => Nat.lt_of_lt_of_le (hS b hb) bX.size) (hr.keep (fun b hb => bX.block b (hS b hb)) (fun _ h => h)) (by omega)
  have HX : Hid (Below w.heap.size w X ∧ X.heap.size = w.heap.size + 1 + 1 ∧ X.heap[w.heap.size]? = some (.cells #[.int .u8 k, .string (Ln.bs tx), .int .i64 n, .slice ka kids.length kc] 25 (0, 0)) ∧ X.heap[w.heap.size + 1]? = some (.cells #[.int .u8 0, .string ⟨#[]⟩, .int .i64 0, .slice none 0 0] 25 (0, 0)) ∧ (⟨k, tx, n, .slice ka kids.length kc, kids⟩ : N1).Fit) := ⟨bX, sX, n1X, n2X, hf⟩
  clear ih hr hf b1 b2 bX n1 n1X n2X s1 sX hm hcl hS
  go_enter Try.func20, Try.ntmps20
  go_wp2_with fail
  rw [← h1, ← hX]
  clear h1 hX
  refine Calls.mono HC.out ?_
  rintro e w1 ⟨r, rfl, hL, hb1⟩
  obtain ⟨g, cap, rfl⟩ := hL.slice
  obtain ⟨x1, x2, x3, x4, hf⟩ := HX.out
  have y1 : w1.heap[w.heap.size]? = some (.cells #[.int .u8 k, .string (Ln.bs tx), .int .i64 n, .slice ka kids.length kc] 25 (0, 0)) := (hb1.block _ (by omega)).trans x3
  have y2 : w1.heap[w.heap.size + 1]? = some (.cells #[.int .u8 0, .string ⟨#[]⟩, .int .i64 0, .slice none 0 0] 25 (0, 0)) := (hb1.block _ (by omega)).trans x4
  have f0 : w1.cell? ⟨w.heap.size, 0, none⟩ = some (.int .u8 k) := cells_at y1 rfl
  have f1 : w1.cell? ⟨w.heap.size, 1, none⟩ = some (.string (Ln.bs tx)) := cells_at y1 rfl
  have f2 : w1.cell? ⟨w.heap.size, 2, none⟩ = some (.int .i64 n) := cells_at y1 rfl
  have f3 : w1.cell? ⟨w.heap.size, 3, none⟩ = some (.slice ka kids.length kc) := cells_at y1 rfl
  have ff : ∀ j, w1.frozen? ⟨w.heap.size, j, none⟩ = false := fun j => frozen_of_row w1 _ j _ _ y1
  obtain ⟨W1, hW1⟩ : ∃ W, W = w1.setCell ⟨w.heap.size, 3, none⟩ (.slice (some ⟨g, 0, none⟩) kids.length cap) := ⟨_, rfl⟩
  have z1 : W1.heap[w.heap.size]? = some (.cells #[.int .u8 k, .string (Ln.bs tx), .int .i64 n, .slice (some ⟨g, 0, none⟩) kids.length cap] 25 (0, 0)) := by rw [hW1]; exact heap_setCell_same w1 _ 3 _ 25 _ y1
  have g1 : w1.grownBy W1 (some w.heap.size) := by rw [hW1]; exact grown_set w1 _ _ _
  have hsz : w.heap.size + 1 < w1.heap.size := by have := hb1.size; omega
  have z2 : W1.heap[w.heap.size + 1]? = some (.cells #[.int .u8 0, .string ⟨#[]⟩, .int .i64 0, .slice none 0 0] 25 (0, 0)) := (g1.block _ (by omega) (by simp)).trans y2
  have q0 : W1.cell? ⟨w.heap.size, 0, none⟩ = some (.int .u8 k) := cells_at z1 rfl
  have q1 : W1.cell? ⟨w.heap.size, 1, none⟩ = some (.string (Ln.bs tx)) := cells_at z1 rfl
  have q2 : W1.cell? ⟨w.heap.size, 2, none⟩ = some (.int .i64 n) := cells_at z1 rfl
  have q3 : W1.cell? ⟨w.heap.size, 3, none⟩ = some (.slice (some ⟨g, 0, none⟩) kids.length cap) := cells_at z1 rfl
  have u1 := heap_setCell_same W1 _ 0 _ 25 (.int .u8 k) z2
  have u2 := heap_setCell_same _ _ 1 _ 25 (.string (Ln.bs tx)) u1
  have u3 := heap_setCell_same _ _ 2 _ 25 (.int .i64 n) u2
  have u4 := heap_setCell_same _ _ 3 _ 25 (.slice (some ⟨g, 0, none⟩) kids.length cap) u3
  have p0 : W1.cell? ⟨w.heap.size + 1, 0, none⟩ = some (.int .u8 0) := cells_at z2 rfl
  have p1 : (W1.setCell ⟨w.heap.size + 1, 0, none⟩ (.int .u8 k)).cell? ⟨w.heap.size + 1, 1, none⟩ = some (.string ⟨#[]⟩) := cells_at u1 rfl
  have p2 : ((W1.setCell ⟨w.heap.size + 1, 0, none⟩ (.int .u8 k)).setCell ⟨w.heap.size + 1, 1, none⟩ (.string (Ln.bs tx))).cell? ⟨w.heap.size + 1, 2, none⟩ = some (.int .i64 0) := cells_at u2 rfl
  have p3 : (((W1.setCell ⟨w.heap.size + 1, 0, none⟩ (.int .u8 k)).setCell ⟨w.heap.size + 1, 1, none⟩ (.string (Ln.bs tx))).setCell ⟨w.heap.size + 1, 2, none⟩ (.int .i64 n)).cell? ⟨w.heap.size + 1, 3, none⟩ = some (.slice none 0 0) := cells_at u3 rfl
  have pf : ∀ j, W1.frozen? ⟨w.heap.size + 1, j, none⟩ = false := fun j => frozen_of_row W1 _ j _ _ z2
  obtain ⟨Z, hZ⟩ : ∃ Z, Z = (((W1.setCell ⟨w.heap.size + 1, 0, none⟩ (.int .u8 k)).setCell ⟨w.heap.size + 1, 1, none⟩ (.string (Ln.bs tx))).setCell ⟨w.heap.size + 1, 2, none⟩ (.int .i64 n)).setCell ⟨w.heap.size + 1, 3, none⟩ (.slice (some ⟨g, 0, none⟩) kids.length cap) := ⟨_, rfl⟩
  have r0 : Z.cell? ⟨w.heap.size + 1, 0, none⟩ = some (.int .u8 k) := by rw [hZ]; exact cells_at u4 rfl
  have r1 : Z.cell? ⟨w.heap.size + 1, 1, none⟩ = some (.string (Ln.bs tx)) := by rw [hZ]; exact cells_at u4 rfl
  have r2 : Z.cell? ⟨w.heap.size + 1, 2, none⟩ = some (.int .i64 n) := by rw [hZ]; exact cells_at u4 rfl
  have r3 : Z.cell? ⟨w.heap.size + 1, 3, none⟩ = some (.slice (some ⟨g, 0, none⟩) kids.length cap) := by rw [hZ]; exact cells_at u4 rfl
  have gZ : W1.grownBy Z (some (w.heap.size + 1)) := by
    rw [hZ]
    exact (((grown_set W1 _ 0 _).trans (grown_set _ _ 1 _)).trans (grown_set _ _ 2 _)).trans (grown_set _ _ 3 _)
  have hkeep : ∀ b, b < w1.heap.size → b ≠ w.heap.size → b ≠ w.heap.size + 1 → Z.heap[b]? = w1.heap[b]? := fun b hb h1 h2 =>
    (gZ.block b (Nat.lt_of_lt_of_le hb g1.size) (by simpa using h2)).trans (g1.block b hb (by simpa using h1))
  have HF : Hid (LentV w.heap.size Z (.slice (some ⟨g, 0, none⟩) kids.length cap) kids ∧ Below w.heap.size w Z ∧ (⟨k, tx, n, .slice (some ⟨g, 0, none⟩) kids.length cap, kids⟩ : N1).Fit) := by
    refine ⟨hL.keep (fun b hb hl => hkeep b hl (by omega) (by omega)) (by omega), ?_, hf⟩
    have bw1 : Below w.heap.size w w1 := below_then x1 hb1
    exact ⟨gZ.os.trans (g1.os.trans bw1.os), gZ.tape.trans (g1.tape.trans bw1.tape), gZ.output.trans (g1.output.trans bw1.output), by have := gZ.size; have := g1.size; omega, fun b hb => (hkeep b (by omega) (by omega) (by omega)).trans (bw1.block b hb)⟩
  rw [hW1] at q0 q1 q2 q3 p0 p1 p2 p3 pf hZ
  clear y1 y2 z1 z2 u1 u2 u3 u4 g1 gZ hkeep hL hb1 x1 x2 x3 x4 hf HC HX hW1 hsz
  go_wp2
  rw [← hZ]
  refine bodyPost_ret (v := .agg #[.int .u8 k, .string (Ln.bs tx), .int .i64 n, .slice (some ⟨g, 0, none⟩) kids.length cap]) (by simp [results, Try.results20, go_sem, r0, r1, r2, r3]) rfl ⟨⟨k, tx, n, .slice (some ⟨g, 0, none⟩) kids.length cap, kids⟩, rfl, rfl, HF.out.2.2, HF.out.1, HF.out.2.1⟩

theorem n1Cells_snoc (ys : List N1) (y : N1) : n1Cells (ys ++ [y]) = n1Cells ys ++ y.cells := by rw [n1Cells_append]; simp [n1Cells]
/-- The nodes so far. -/
structure LentSoFar (g B : Nat) (W : World) (ts : List Tr) (ys : List N1) : Prop where
  eq : ts = ys.map N1.tr
  each : ∀ y ∈ ys, y.Fit ∧ LentV B W y.v y.kids
theorem LentSoFar.keep {g B : Nat} {W W' : World} {ts : List Tr} {ys : List N1} (h : LentSoFar g B W ts ys) (hb : ∀ b, B ≤ b → b < W.heap.size → W'.heap[b]? = W.heap[b]?) : LentSoFar g B W' ts ys :=
  ⟨h.eq, fun y hy => ⟨(h.each y hy).1, (h.each y hy).2.keep hb (Nat.le_refl _)⟩⟩
theorem LentSoFar.snoc {g B : Nat} {W : World} {ts : List Tr} {ys : List N1} (h : LentSoFar g B W ts ys) (y : N1) (hf : y.Fit) (hl : LentV B W y.v y.kids) : LentSoFar g B W (ts ++ [y.tr]) (ys ++ [y]) :=
  ⟨by rw [h.eq]; simp, fun z hz => by
    rcases List.mem_append.1 hz with hz | hz
    · exact h.each z hz
    · rw [List.mem_singleton] at hz; subst hz; exact ⟨hf, hl⟩⟩

set_option maxRecDepth 100000 in
set_option maxHeartbeats 8000000 in
theorem lentRows_step (l : List Tr) (ih : ∀ x ∈ l, LentNodeAt x) : LentRowsAt l := by
  intro S v w hS hv hm
  obtain ⟨xs, xa, xc, xb, xo, ex, hxv, -, hxa, hxl, hx⟩ := hv.parts
  subst hxv
  obtain ⟨i0, hi, hz0, hz1, hz2⟩ := info_parts info_node
  have hlen := Tr.length_sizes l
  have HX : Hid (_) := hx
  have HSS : Hid (∀ b, S b → b < w.heap.size) := hS
  have HEX : Hid (l = xs.map N1.tr) := ex
  have HIH : Hid (∀ x ∈ l, LentNodeAt x) := ih
  have HM : Hid (Tr.sizes l ≤ 1000000) := hm
  obtain ⟨N, hN⟩ : ∃ N, N = l.length := ⟨_, rfl⟩
  have HN : Hid (N = l.length) := hN
  have hN6 : N ≤ 1000000 := by omega
  rw [← hN] at hxa ⊢
  clear hx hS ex ih hv hm hN hlen hxl
  go_enter Try.func6, Try.ntmps6
  go_wp2_with (at_make; refine wpList_make_own _ rfl _ _ 23 rfl w.heap.size 25 i0 (.agg #[.int .u8 0, .string ⟨#[]⟩, .int .i64 0, .slice none 0 0]) 4 Try.underlying23 hi hz0 hz1 _ _ _ (N + 12) rfl rfl (by omega) (by rw [hz2]; omega) (by unfold maxLen; omega) (Nat.le_refl _) ?_; intro w1 hown1 hg1; have hB1 := (Below.refl w.heap.size w).grown hg1 (Nat.le_refl _) (by simp))
  have s1 : w.heap.size < w1.heap.size := by
    rcases hown1.2 with ⟨h0, _⟩ | ⟨g', cap', cur, he, _, hg, _⟩
    · cases h0
    · cases he; exact (Array.getElem?_eq_some_iff.1 hg).1
  have ST : Hid (w1.ownsRow w.heap.size 25 4 (.slice (some ⟨w.heap.size, 0, none⟩) 0 (N + 12)) 0 [] ∧ Below w.heap.size w w1 ∧ w.heap.size < w1.heap.size) := ⟨hown1, hB1, s1⟩
  clear hown1 hg1 hB1 s1
  go_loopw [3, 4] (fun t i wr => ∃ (k : Nat) (ys : List N1), k ≤ N ∧ i = .int .i64 k ∧ t = .slice (some ⟨w.heap.size, 0, none⟩) k (N + 12) ∧ wr.ownsRow w.heap.size 25 4 (.slice (some ⟨w.heap.size, 0, none⟩) k (N + 12)) k (n1Cells ys) ∧ LentSoFar w.heap.size (w.heap.size + 1) wr (l.take k) ys ∧ Below w.heap.size w wr ∧ w.heap.size < wr.heap.size) (fun _ i _ => N - (intOf i).toNat)
  case atStart => exact ⟨0, [], by omega, rfl, rfl, ST.out.1, ⟨by simp, fun y hy => by cases hy⟩, ST.out.2.1, ST.out.2.2⟩
  case round =>
    clear ST
    obtain ⟨k, ys, hk, rfl, rfl, hown, hla, hB, hsz⟩ := hrel
    by_cases hlt : k < N
    · obtain ⟨rfl, hSb⟩ := hxa (by omega)
      have hql : k < xs.length := by have := HN.out; rw [HEX.out, List.length_map] at this; omega
      obtain ⟨⟨zk, zt, zn, zv, zkids⟩, hzq⟩ : ∃ z, xs[k]? = some z := ⟨xs[k], List.getElem?_eq_getElem hql⟩
      obtain ⟨zf, zr, z0, z1, z2, z3⟩ := HX.out k _ hzq
      simp only at z0 z1 z2 z3 zr
      have hxb : xb < w.heap.size := HSS.out xb hSb
      have tr : ∀ j u, w.cell? ⟨xb, j, none⟩ = some u → wr.cell? ⟨xb, j, none⟩ = some u := fun j u h => (hB.cell (p := ⟨xb, j, none⟩) hxb).trans h
      replace z0 := tr _ _ z0
      replace z1 := tr _ _ z1
      replace z2 := tr _ _ z2
      replace z3 := tr _ _ z3
      obtain ⟨za, zc, hzv⟩ := zr.slice
      subst hzv
      have hkq : l[k]? = some (N1.tr ⟨zk, zt, zn, .slice za zkids.length zc, zkids⟩) := by rw [HEX.out, List.getElem?_map, hzq]; rfl
      have hmem := List.mem_of_getElem? hkq
      have htk : l.take (k + 1) = l.take k ++ [N1.tr ⟨zk, zt, zn, .slice za zkids.length zc, zkids⟩] := by rw [List.take_add_one, hkq]; rfl
      have LT : Hid (_) := HIH.out _ hmem S (.agg #[.int .u8 zk, .string (Ln.bs zt), .int .i64 zn, .slice za zkids.length zc]) wr (fun b hb => Nat.lt_of_lt_of_le (HSS.out b hb) hB.size) ⟨⟨zk, zt, zn, .slice za zkids.length zc, zkids⟩, rfl, rfl, zf, zr.keep (fun b hb => hB.block b (HSS.out b hb)) (fun _ h => h)⟩ (by have := Tr.sizes_mem hmem; have := HM.out; omega)
      have OWN : Hid (_) := hown
      have HLA : Hid (_) := hla
      have HB : Hid (Below w.heap.size w wr ∧ w.heap.size < wr.heap.size) := ⟨hB, hsz⟩
      have HTK : Hid (_) := htk
      clear tr zr zf hkq hzq hmem htk hown hla hB hsz
      go_wp2_with fail
      refine Calls.mono LT.out ?_
      rintro e w1 ⟨y, rfl, hyt, hyf, hyl, b1⟩
      obtain ⟨q, qt, qn, qv, qkids⟩ := y
      obtain ⟨yg, ycap, hyv⟩ := hyl.slice
      simp only at hyv
      subst hyv
      simp only [N1.cells]
      obtain ⟨V, hV⟩ : ∃ V, V = (w1.alloc (.cells #[.int .u8 q, .string (Ln.bs qt), .int .i64 qn, .slice (some ⟨yg, 0, none⟩) qkids.length ycap] 25)).alloc (.cells #[.int .u8 q, .string (Ln.bs qt), .int .i64 qn, .slice (some ⟨yg, 0, none⟩) qkids.length ycap] 25) := ⟨_, rfl⟩
      have bV : Below w1.heap.size w1 V := by rw [hV]; exact below_then (below_nw _ _) (below_nw _ _)
      have hsrc : ∀ (j : Nat) (u : Value), [Value.int .u8 q, .string (Ln.bs qt), .int .i64 qn, .slice (some ⟨yg, 0, none⟩) qkids.length ycap][j]? = some u → V.cell? ((⟨w1.heap.size + 1, 0, none⟩ : Addr).add j) = some u := by
        have h := cells_new (w1.alloc (.cells #[.int .u8 q, .string (Ln.bs qt), .int .i64 qn, .slice (some ⟨yg, 0, none⟩) qkids.length ycap] 25)) [.int .u8 q, .string (Ln.bs qt), .int .i64 qn, .slice (some ⟨yg, 0, none⟩) qkids.length ycap] 25
        rw [World.size_alloc] at h
        rw [hV]; exact h
      have B1 : Below w.heap.size w w1 := below_then HB.out.1 b1
      have hle1 : w.heap.size < w1.heap.size := Nat.lt_of_lt_of_le HB.out.2 b1.size
      have OWV : Hid (V.ownsRow w.heap.size 25 4 (.slice (some ⟨w.heap.size, 0, none⟩) k (N + 12)) k (n1Cells ys)) := owns_below (owns_below OWN.out b1) bV
      have HLV : Hid (LentSoFar w.heap.size (w.heap.size + 1) V (l.take (k + 1)) (ys ++ [⟨q, qt, qn, .slice (some ⟨yg, 0, none⟩) qkids.length ycap, qkids⟩]) ∧ Below w.heap.size w V ∧ w.heap.size < V.heap.size) := by
        refine ⟨?_, below_then B1 bV, Nat.lt_of_lt_of_le hle1 bV.size⟩
        rw [HTK.out, ← hyt]
        refine LentSoFar.snoc (HLA.out.keep (fun b _ hl => (bV.block b (Nat.lt_of_lt_of_le hl b1.size)).trans (b1.block b hl))) _ hyf ?_
        exact hyl.keep (fun b _ hl => bV.block b hl) HB.out.2
      have HSRC : Hid (_) := hsrc
      have hroom : k + 1 ≤ N + 12 := by omega
      subst hV
      clear LT OWN HLA HB HTK hyt hyf hyl b1 B1 bV hsrc hle1
      go_wp2_with (at_builtin; refine wpList_append_own_spare _ rfl _ _ 23 rfl w.heap.size 25 i0 4 Try.underlying23 hi hz1 w.heap.size k (N + 12) _ rfl OWV.out ⟨w1.heap.size + 1, 0, none⟩ 1 1 [.int .u8 q, .string (Ln.bs qt), .int .i64 qn, .slice (some ⟨yg, 0, none⟩) qkids.length ycap] rfl rfl HSRC.out (by simp [Value.oneCell']) hroom ?_; intro W' hown' hgr)
      go_roundw
      case rel =>
        refine ⟨k + 1, ys ++ [⟨q, qt, qn, .slice (some ⟨yg, 0, none⟩) qkids.length ycap, qkids⟩], by omega, by go_num, rfl, ?_, ?_, ?_, ?_⟩
        · rw [n1Cells_snoc]; exact hown'
        · exact HLV.out.1.keep (fun b hb hl => hgr.block b hl (by simp; omega))
        · exact HLV.out.2.1.grown hgr HLV.out.2.1.size (fun q hq => by cases hq; exact Nat.le_refl _)
        · exact Nat.lt_of_lt_of_le HLV.out.2.2 hgr.size
      case measure => simp [intOf]; omega
    · have hkl : k = N := by omega
      have ST2 : Hid (wr.ownsRow w.heap.size 25 4 (.slice (some ⟨w.heap.size, 0, none⟩) (N + 0) (N + 12)) (N + 0) (n1Cells (ys ++ nmarks 0)) ∧ LentSoFar w.heap.size (w.heap.size + 1) wr l ys ∧ Below w.heap.size w wr ∧ w.heap.size < wr.heap.size) := by
        rw [hkl, HN.out, List.take_length] at hla
        refine ⟨?_, hla, hB, hsz⟩
        have : ys ++ nmarks 0 = ys := by simp [nmarks]
        rw [this, Nat.add_zero, ← hkl]
        rw [hkl] at hown ⊢
        exact hown
      subst hkl
      clear hown hla hB hsz HX HSS HIH HM hxa
      go_wp2
      go_loopw [3, 6] (fun t i wr => ∃ (j : Nat), j ≤ 12 ∧ i = .int .i64 j ∧ t = .slice (some ⟨w.heap.size, 0, none⟩) (k + j : Nat) (k + 12) ∧ wr.ownsRow w.heap.size 25 4 (.slice (some ⟨w.heap.size, 0, none⟩) (k + j) (k + 12)) (k + j) (n1Cells (ys ++ nmarks j)) ∧ LentSoFar w.heap.size (w.heap.size + 1) wr l ys ∧ Below w.heap.size w wr ∧ w.heap.size < wr.heap.size) (fun _ i _ => 12 - (intOf i).toNat)
      case atStart => exact ⟨0, by omega, rfl, by simp, ST2.out.1, ST2.out.2.1, ST2.out.2.2.1, ST2.out.2.2.2⟩
      case round =>
        clear ST2
        obtain ⟨j, hj, rfl, rfl, hown, hla, hB, hsz⟩ := hrel
        by_cases hlt2 : j < 12
        · have MK : Hid (_) := markNode_any 1 j (by omega) (by omega) wr
          simp only [nmark, N1.cells] at MK
          have OWN : Hid (_) := hown
          have HLB : Hid (_ ∧ _ ∧ _) := ⟨hla, hB, hsz⟩
          clear hown hla hB hsz
          go_wp2_with fail
          refine Calls.mono MK.out ?_
          rintro e w1 ⟨rfl, b1⟩
          have bV := below_nw w1 (.cells (nmark 1 j).cells.toArray 25)
          have OWV : Hid (_) := owns_below (owns_below OWN.out b1) bV
          have HSRC : Hid (_) := cells_new w1 (nmark 1 j).cells 25
          have HLV : Hid (LentSoFar w.heap.size (w.heap.size + 1) (w1.alloc (.cells (nmark 1 j).cells.toArray 25)) l ys ∧ Below w.heap.size w (w1.alloc (.cells (nmark 1 j).cells.toArray 25)) ∧ w.heap.size < (w1.alloc (.cells (nmark 1 j).cells.toArray 25)).heap.size) := ⟨HLB.out.1.keep (fun b _ hl => (bV.block b (Nat.lt_of_lt_of_le hl b1.size)).trans (b1.block b hl)), below_then (below_then HLB.out.2.1 b1) bV, Nat.lt_of_lt_of_le HLB.out.2.2 (Nat.le_trans b1.size bV.size)⟩
          simp only [nmark, N1.cells] at OWV HSRC HLV
          have hroom : k + j + 1 ≤ k + 12 := by omega
          clear MK OWN HLB b1 bV
          go_wp2_with (at_builtin; refine wpList_append_own_spare _ rfl _ _ 23 rfl w.heap.size 25 i0 4 Try.underlying23 hi hz1 w.heap.size (k + j) (k + 12) _ rfl OWV.out ⟨w1.heap.size, 0, none⟩ 1 1 [.int .u8 0, .string (Ln.bs []), .int .i64 (1000003 * (1 + 7) + j : Nat), .slice none 0 0] rfl rfl HSRC.out (by simp [Value.oneCell']) hroom ?_; intro W' hown' hgr)
          go_roundw
          case rel =>
            refine ⟨j + 1, by omega, by go_num, rfl, ?_, ?_, ?_, ?_⟩
            · rw [nmarks_succ, ← List.append_assoc, n1Cells_snoc]; exact hown'
            · exact HLV.out.1.keep (fun b hb hl => hgr.block b hl (by simp; omega))
            · exact HLV.out.2.1.grown hgr HLV.out.2.1.size (fun q hq => by cases hq; exact Nat.le_refl _)
            · exact Nat.lt_of_lt_of_le HLV.out.2.2 hgr.size
          case measure => simp [intOf]; omega
        · have hj12 : j = 12 := by omega
          subst hj12
          have HF : Hid (LentV w.heap.size wr (.slice (some ⟨w.heap.size, 0, none⟩) k (k + 12)) l ∧ Below w.heap.size w wr) := by
            have hyl : ys.length = k := by have := HN.out; rw [hla.eq, List.length_map] at this; exact this.symm
            refine ⟨.mk w.heap.size (k + 12) ys (by rw [hyl]) hla.eq (by rw [hyl]; exact hown) (by omega) (fun x hx => (hla.each x hx).1) (fun x hx => (hla.each x hx).2.base (by omega)), hB⟩
          clear hown hla hB hsz
          go_wp2
          go_ret
          exact ⟨_, by simp, HF.out.1, HF.out.2⟩

theorem lentNode_all : ∀ (m : Nat) (t : Tr), t.size ≤ m → LentNodeAt t
  | 0, t, h => by have := Tr.size_eq t; omega
  | m + 1, t, h => lentNode_step t (lentRows_step t.kids (fun y hy => lentNode_all m y (by have := Tr.size_eq t; have := Tr.sizes_mem hy; omega)))
theorem lentRows_any (l : List Tr) : LentRowsAt l := lentRows_step l (fun y _ => lentNode_all _ y (Nat.le_refl _))
end Go.Proofs.Ytejnleigjjaenaa

/-
  The walks of clerestorykit.KeptNode and KeptNodes: lent nodes that stayed as they were.
-/
namespace Go.Proofs.Ytejnleigjjaenaa
open Go.RowKit Go.Shelf

attribute [local go_sem] Oper.semAt_some

def KeptRowsAt (l : List Tr) : Prop := ∀ (S : Nat → Prop) (B : Nat) (u v : Value) (w : World), (∀ b, S b → b < w.heap.size) → RowR S w v l → LentV B w u l →
  Calls Try.prog 16 #[u, v] w fun e w' => e = .returned (.bool true) ∧ Below w.heap.size w w'
def KeptNodeAt (t : Tr) : Prop := ∀ (S : Nat → Prop) (B : Nat) (x : N1) (v : Value) (w : World), (∀ b, S b → b < w.heap.size) → NodeR S w v t → x.tr = t → x.Fit → LentV B w x.v x.kids →
  Calls Try.prog 39 #[.agg x.cells.toArray, v] w fun e w' => e = .returned (.bool true) ∧ Below w.heap.size w w'

set_option maxRecDepth 100000 in
set_option maxHeartbeats 4000000 in
theorem keptNode_step (t : Tr) (ih : KeptRowsAt t.kids) : KeptNodeAt t := by
  intro S B x v w hS hv hxt hxf hxl
  have hnx : NodeR (lowS w.heap.size) w (.agg x.cells.toArray) t := ⟨x, rfl, hxt, hxf, hxl.row⟩
  have hv0 := hv
  obtain ⟨⟨k, tx, n, kv, kids⟩, rfl, rfl, hf, hr⟩ := hv
  obtain ⟨ka, kc, hkv⟩ := hr.slice
  simp only at hkv
  subst hkv
  obtain ⟨qk, qt, qn, qv, qkids⟩ := x
  obtain ⟨qg, qc, hqv⟩ := hxl.slice
  simp only at hqv
  subst hqv
  simp only [N1.tr, Tr.mk.injEq] at hxt
  obtain ⟨rfl, rfl, rfl, rfl⟩ := hxt
  have hcl : (N1.tr ⟨qk, qt, qn, .slice ka qkids.length kc, qkids⟩).kids = qkids := rfl
  rw [hcl] at ih
  simp only [N1.cells] at hnx hv0 ⊢
  obtain ⟨A1, h1⟩ : ∃ A, A = w.alloc (.cells #[.int .u8 qk, .string (Ln.bs qt), .int .i64 qn, .slice (some ⟨qg, 0, none⟩) qkids.length qc] 25) := ⟨_, rfl⟩
  obtain ⟨X, hX⟩ : ∃ A, A = A1.alloc (.cells #[.int .u8 qk, .string (Ln.bs qt), .int .i64 qn, .slice ka qkids.length kc] 25) := ⟨_, rfl⟩
  have s1 : A1.heap.size = w.heap.size + 1 := by rw [h1, World.size_alloc]
  have sX : X.heap.size = w.heap.size + 1 + 1 := by rw [hX, World.size_alloc, s1]
  have b1 : Below w.heap.size w A1 := h1 ▸ below_new w _
  have b2 : Below A1.heap.size A1 X := hX ▸ below_new A1 _
  have bX : Below w.heap.size w X := below_then b1 b2
  have n1 : A1.heap[w.heap.size]? = some (.cells #[.int .u8 qk, .string (Ln.bs qt), .int .i64 qn, .slice (some ⟨qg, 0, none⟩) qkids.length qc] 25 (0, 0)) := by rw [h1]; exact World.alloc_heap_new w _
  have n1X := (b2.block _ (show w.heap.size < A1.heap.size by omega)).trans n1
  have n2X : X.heap[w.heap.size + 1]? = some (.cells #[.int .u8 qk, .string (Ln.bs qt), .int .i64 qn, .slice ka qkids.length kc] 25 (0, 0)) := by
    have := World.alloc_heap_new A1 (.cells #[.int .u8 qk, .string (Ln.bs qt), .int .i64 qn, .slice ka qkids.length kc] 25)
    rw [hX, ← s1]; exact this
  have HSM : Hid (_) := sameNode_any _ (lowS w.heap.size) S (.agg #[.int .u8 qk, .string (Ln.bs qt), .int .i64 qn, .slice (some ⟨qg, 0, none⟩) qkids.length qc]) (.agg #[.int .u8 qk, .string (Ln.bs qt), .int .i64 qn, .slice ka qkids.length kc]) _ X (fun b hb => Nat.lt_of_lt_of_le hb bX.size) (fun b hb => Nat.lt_of_lt_of_le (hS b hb) bX.size)
    (by obtain ⟨y, e1, e2, e3, e4⟩ := hnx; exact ⟨y, e1, e2, e3, e4.keep (fun b hb => bX.block b hb) (fun _ h => h)⟩) (by obtain ⟨y, e1, e2, e3, e4⟩ := hv0; exact ⟨y, e1, e2, e3, e4.keep (fun b hb => bX.block b (hS b hb)) (fun _ h => h)⟩)
  rw [Tr.eqb_refl] at HSM
  have HKP : Hid (∀ W, Below X.heap.size X W → Calls Try.prog 16 #[.slice (some ⟨qg, 0, none⟩) qkids.length qc, .slice ka qkids.length kc] W fun e w' => e = .returned (.bool true) ∧ Below W.heap.size W w') := fun W hW => by
    have hw := below_then bX hW
    exact ih S B _ _ W (fun b hb => Nat.lt_of_lt_of_le (hS b hb) hw.size) (hr.keep (fun b hb => hw.block b (hS b hb)) (fun _ h => h)) (hxl.at hw)
  have HBX : Hid (Below w.heap.size w X) := bX
  have HCE : Hid (∀ W, Below X.heap.size X W → W.cell? ⟨w.heap.size, 3, none⟩ = some (.slice (some ⟨qg, 0, none⟩) qkids.length qc) ∧ W.cell? ⟨w.heap.size + 1, 3, none⟩ = some (.slice ka qkids.length kc)) := fun W hW =>
    ⟨cells_at ((hW.block _ (by omega)).trans n1X) rfl, cells_at ((hW.block _ (by omega)).trans n2X) rfl⟩
  clear ih hr hf hxl hxf hnx hv0 b1 b2 bX n1 n1X n2X s1 sX hS hcl
  go_enter Try.func39, Try.ntmps39
  go_wp2_with fail
  rw [← h1, ← hX]
  clear h1 hX
  refine Calls.mono HSM.out ?_
  rintro e w1 ⟨rfl, b1⟩
  obtain ⟨c1, c2⟩ := HCE.out w1 b1
  have B1 : Hid (Below X.heap.size X w1) := b1
  have K1 : Hid (_) := HKP.out w1 b1
  clear HSM HKP b1
  go_wp2_with fail
  refine Calls.mono K1.out ?_
  rintro e w2 ⟨rfl, b2⟩
  have B2 : Hid (Below w.heap.size w w2) := below_then HBX.out (below_then B1.out b2)
  clear K1 b2 c1 c2
  go_wp2
  go_ret
  exact ⟨rfl, B2.out⟩

set_option maxRecDepth 100000 in
set_option maxHeartbeats 8000000 in
theorem keptRows_step (l : List Tr) (ih : ∀ x ∈ l, KeptNodeAt x) : KeptRowsAt l := by
  intro S B u v w hS hv hu
  obtain ⟨xs, xa, xc, xb, xo, ex, hxv, -, hxa, hxl, hx⟩ := hv.parts
  obtain ⟨g, cap, ys, huv, ey, hcap, hyl, hyk, hy⟩ := hu.parts
  subst hxv
  subst huv
  have hlx : xs.length = l.length := by rw [ex, List.length_map]
  have hly : ys.length = l.length := by rw [ey, List.length_map]
  have HX : Hid (_) := hx
  have HY : Hid (_) := hy
  have HYK : Hid (_) := hyk
  have HSS : Hid (∀ b, S b → b < w.heap.size) := hS
  have HEX : Hid (l = xs.map N1.tr ∧ l = ys.map N1.tr) := ⟨ex, ey⟩
  have HIH : Hid (∀ x ∈ l, KeptNodeAt x) := ih
  obtain ⟨N, hN⟩ : ∃ N, N = l.length := ⟨_, rfl⟩
  have HN : Hid (xs.length = N ∧ ys.length = N) := ⟨hlx.trans hN.symm, hly.trans hN.symm⟩
  rw [← hN] at hxa hcap hyl ⊢
  have hcapI : ((N : Int) + 12) ≤ (cap : Int) := by omega
  clear hx hy hyk hS ex ey ih hv hu hN hxl hlx hly hcap
  go_enter Try.func16, Try.ntmps16
  go_wp2
  go_loopw [6] (fun i wr => ∃ k : Nat, k ≤ N + 12 ∧ i = .int .i64 k ∧ Below w.heap.size w wr) (fun i _ => N + 12 - (intOf i).toNat)
  case atStart => exact ⟨0, by omega, rfl, Below.refl _ _⟩
  case round =>
    obtain ⟨k, hk, rfl, hB⟩ := hrel
    have hne : Nonempty (NCls w) := ⟨⟨wr.drew, Below.drew hB⟩⟩
    by_cases hlt : k < N
    · obtain ⟨rfl, hSb⟩ := hxa (by omega)
      obtain ⟨⟨zk, zt, zn, zv, zkids⟩, hzq⟩ : ∃ z, xs[k]? = some z := ⟨xs[k]'(by have := HN.out.1; omega), List.getElem?_eq_getElem _⟩
      obtain ⟨⟨qk, qt, qn, qv, qkids⟩, hqq⟩ : ∃ z, ys[k]? = some z := ⟨ys[k]'(by have := HN.out.2; omega), List.getElem?_eq_getElem _⟩
      obtain ⟨zf, zr, z0, z1, z2, z3⟩ := HX.out k _ hzq
      obtain ⟨q0, q1, q2, q3⟩ := HY.out k ⟨qk, qt, qn, qv, qkids⟩ (by rw [List.getElem?_append_left (by have := HN.out.2; omega)]; exact hqq)
      obtain ⟨qf, ql⟩ := HYK.out _ (List.mem_of_getElem? hqq)
      simp only at z0 z1 z2 z3 zr q0 q1 q2 q3 ql
      obtain ⟨za, zc, hzv⟩ := zr.slice
      subst hzv
      obtain ⟨qg, qc, hqv⟩ := ql.slice
      subst hqv
      have hxb : xb < w.heap.size := HSS.out xb hSb
      have hkq : l[k]? = some (N1.tr ⟨zk, zt, zn, .slice za zkids.length zc, zkids⟩) := by rw [HEX.out.1, List.getElem?_map, hzq]; rfl
      have hkq2 : l[k]? = some (N1.tr ⟨qk, qt, qn, .slice (some ⟨qg, 0, none⟩) qkids.length qc, qkids⟩) := by rw [HEX.out.2, List.getElem?_map, hqq]; rfl
      have heq : N1.tr ⟨qk, qt, qn, .slice (some ⟨qg, 0, none⟩) qkids.length qc, qkids⟩ = N1.tr ⟨zk, zt, zn, .slice za zkids.length zc, zkids⟩ := Option.some.inj (hkq2.symm.trans hkq)
      have KP : Hid (∀ z : NCls w, Calls Try.prog 39 #[.agg #[.int .u8 qk, .string (Ln.bs qt), .int .i64 qn, .slice (some ⟨qg, 0, none⟩) qkids.length qc], .agg #[.int .u8 zk, .string (Ln.bs zt), .int .i64 zn, .slice za zkids.length zc]] z.val fun e w' => e = .returned (.bool true) ∧ Below z.val.heap.size z.val w') := fun z =>
        HIH.out _ (List.mem_of_getElem? hkq) S B ⟨qk, qt, qn, .slice (some ⟨qg, 0, none⟩) qkids.length qc, qkids⟩ (.agg #[.int .u8 zk, .string (Ln.bs zt), .int .i64 zn, .slice za zkids.length zc]) z.val (fun b hb => Nat.lt_of_lt_of_le (HSS.out b hb) z.below.size) ⟨⟨zk, zt, zn, .slice za zkids.length zc, zkids⟩, rfl, rfl, zf, zr.keep (fun b hb => z.below.block b (HSS.out b hb)) (fun _ h => h)⟩ heq qf (ql.at z.below)
      have hcs : ∀ (p : Addr) (x : Value), w.cell? p = some x → ∀ z : NCls w, z.val.cell? p = some x := fun p x h z => (z.below.cell (p := p) (by simpa using World.block_lt_of_cell? _ _ h)).trans h
      have c0 := hcs _ _ z0
      have c1 := hcs _ _ z1
      have c2 := hcs _ _ z2
      have c3 := hcs _ _ z3
      have d0 := hcs _ _ q0
      have d1 := hcs _ _ q1
      have d2 := hcs _ _ q2
      have d3 := hcs _ _ q3
      clear hcs z0 z1 z2 z3 q0 q1 q2 q3 zf zr qf ql hzq hqq hkq hkq2 heq HX HY HYK HSS HEX HIH hxa
      have i1 : decide ((k : Int) < (N : Int)) = true := by simp; omega
      have i4 : decide (k < N) = true := by simp; omega
      have i2 : decide (N ≤ k) = false := by simp; omega
      go_wp2
      refine wp_region_ncls (NCls.val (w := w)) (by kernel_rfl) (by kernel_rfl) ⟨wr.drew, Below.drew hB⟩ rfl ?_
      repeat (go_big_quiet_step ((rename_i z; refine (KP.out z).mono ?_; rintro e w2 ⟨rfl, hb⟩; exact ⟨rfl, z.next hb⟩)))
      refine wpQuiet_nil ?_
      rintro _ ⟨z, rfl⟩
      clear c0 c1 c2 c3 d0 d1 d2 d3
      go_wp2
      go_roundw
      case rel => exact ⟨k + 1, by omega, by go_num, z.below⟩
      case measure => simp [intOf]; omega
    · by_cases hlt2 : k < N + 12
      · obtain ⟨q0, q1, q2, q3⟩ := HY.out k (nmark 1 (k - N)) (by rw [List.getElem?_append_right (by have := HN.out.2; omega), HN.out.2]; exact nmarks_get (by omega))
        have hcs : ∀ (p : Addr) (x : Value), w.cell? p = some x → ∀ z : NCls w, z.val.cell? p = some x := fun p x h z => (z.below.cell (p := p) (by simpa using World.block_lt_of_cell? _ _ h)).trans h
        have d0 := hcs _ _ q0
        have d1 := hcs _ _ q1
        have d2 := hcs _ _ q2
        have d3 := hcs _ _ q3
        have MK : Hid (∀ z : NCls w, Calls Try.prog 21 #[.int .i64 1, .int .i64 ((k - N : Nat) : Int)] z.val fun e w' => e = .returned (.agg (nmark 1 (k - N)).cells.toArray) ∧ Below z.val.heap.size z.val w') := fun z => markNode_any 1 (k - N) (by omega) (by omega) z.val
        have hnm : ∀ W : World, NodeR (lowS W.heap.size) W (.agg (nmark 1 (k - N)).cells.toArray) (nmark 1 (k - N)).tr := fun W => ⟨nmark 1 (k - N), rfl, rfl, nmark_fit _ (by omega), rowR_nil _ _⟩
        have SM : Hid (∀ z : NCls w, Calls Try.prog 15 #[.agg (nmark 1 (k - N)).cells.toArray, .agg (nmark 1 (k - N)).cells.toArray] z.val fun e w' => e = .returned (.bool true) ∧ Below z.val.heap.size z.val w') := fun z => by
          have := sameNode_any _ (lowS z.val.heap.size) (lowS z.val.heap.size) _ _ _ z.val (fun _ h => h) (fun _ h => h) (hnm z.val) (hnm z.val)
          rwa [Tr.eqb_refl] at this
        simp only [nmark, N1.cells] at d0 d1 d2 d3 MK SM
        clear hcs hnm q0 q1 q2 q3 HX HY HYK HSS HEX HIH hxa
        have i1 : decide ((k : Int) < (N : Int)) = false := by simp; omega
        have i2 : decide (N ≤ k) = true := by simp; omega
        have i4 : decide (k < N) = false := by simp; omega
        have i3 : (k : Int) - (N : Int) = ((k - N : Nat) : Int) := by omega
        go_wp2
        refine wp_region_ncls (NCls.val (w := w)) (by kernel_rfl) (by kernel_rfl) ⟨wr.drew, Below.drew hB⟩ rfl ?_
        repeat (go_big_quiet_step ((rename_i z; first | (refine (MK.out z).mono ?_; rintro e w2 ⟨rfl, hb⟩; exact ⟨rfl, z.next hb⟩) | (refine (SM.out z).mono ?_; rintro e w2 ⟨rfl, hb⟩; exact ⟨rfl, z.next hb⟩))))
        refine wpQuiet_nil ?_
        rintro _ ⟨z, rfl⟩
        clear d0 d1 d2 d3
        go_wp2
        go_roundw
        case rel => exact ⟨k + 1, by omega, by go_num, z.below⟩
        case measure => simp [intOf]; omega
      · clear HX HY HYK HSS HEX HIH hxa
        go_wp2
        go_ret
        exact ⟨rfl, hB⟩

theorem keptNode_all : ∀ (m : Nat) (t : Tr), t.size ≤ m → KeptNodeAt t
  | 0, t, h => by have := Tr.size_eq t; omega
  | m + 1, t, h => keptNode_step t (keptRows_step t.kids (fun y hy => keptNode_all m y (by have := Tr.size_eq t; have := Tr.sizes_mem hy; omega)))
theorem keptRows_any (l : List Tr) : KeptRowsAt l := keptRows_step l (fun y _ => keptNode_all _ y (Nat.le_refl _))
end Go.Proofs.Ytejnleigjjaenaa
