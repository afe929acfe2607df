/-
  Several texts in one, as they are: PsBase, PsOpen, PsFrame, PsExpr, PsExpr1.
-/
import Derived.Test.YtnndgjnihhafbaaGreatDoorPsMath
import Derived.Test.YtnndgjnihhafbaaGreatDoorLexAll
import Derived.Test.YtnndgjnihhafbaaGreatDoorTrAll
import Derived.Test.YtnndgjnihhafbaaGreatDoorLexTok
import Derived.Deep.CutRange

/-
  The parser in memory, and the walks of what its row of tokens tells.
-/
namespace Go.Proofs.YtnndgjnihhafbaaGreatDoor
open Go.RowKit Go.Shelf

attribute [local go_sem] Oper.semAt_some

/-- A token as lex tells it. -/
def TokOk (t : Lx.Tok) : Prop := t.text.length ≤ 1000000 ∧ t.kind ≤ 255 ∧ (t.kind = 3 → Lx.isInt t.text = true)
/-- The end is the last token, and no other one is. -/
def OkL : List Lx.Tok → Prop
  | [] => False
  | t :: r => (t.kind = 5 ∧ t.text = [] ∧ r = []) ∨ (t.kind ≠ 5 ∧ TokOk t ∧ OkL r)
theorem OkL.hd {l : List Lx.Tok} (h : OkL l) : TokOk (Ps.hd l) := by
  cases l with
  | nil => exact h.elim
  | cons t r =>
    rcases h with ⟨h1, h2, -⟩ | ⟨-, h, -⟩
    · exact ⟨by show t.text.length ≤ _; rw [h2]; simp, by show t.kind ≤ 255; omega, fun e => by have : t.kind = 3 := e; omega⟩
    · exact h
theorem OkL.tail {l : List Lx.Tok} (h : OkL l) (hn : (Ps.hd l).kind ≠ 5 ∨ (Ps.hd l).text ≠ []) : OkL l.tail ∧ l.tail.length < l.length := by
  cases l with
  | nil => exact h.elim
  | cons t r =>
    refine ⟨?_, by simp⟩
    rcases h with ⟨h1, h2, -⟩ | ⟨-, -, h⟩
    · rcases hn with hn | hn
      · exact absurd h1 hn
      · exact absurd h2 hn
    · exact h
theorem OkL.sees {l : List Lx.Tok} (h : OkL l) {S : List (List UInt8)} (hs : Ps.sees l S = true) (hS : [] ∉ S) : OkL l.tail ∧ l.tail.length < l.length := by
  refine h.tail (.inr (fun e => hS ?_))
  unfold Ps.sees at hs
  rw [e, List.contains_iff_mem] at hs
  exact hs

/-- The parser at block b: the tokens that are left, the levels that are open. -/
def PAt (b : Nat) (l : List Lx.Tok) (lv : Nat) (W : World) : Prop := ∃ tb o c, tb ≠ b ∧ (∃ tc fr, W.heap[tb]? = some (.cells tc 149 fr)) ∧ W.heap[b]? = some (.cells #[.slice (some ⟨tb, o, none⟩) l.length c, .int .i64 lv] 111 (0, 0)) ∧ l.length ≤ c ∧ l.length ≤ 100000000 ∧ ∀ (j : Nat) (u : Value), (tokCells l)[j]? = some u → W.cell? ⟨tb, o + j, none⟩ = some u
theorem PAt.lt {b lv : Nat} {l : List Lx.Tok} {W : World} (h : PAt b l lv W) : b < W.heap.size := by
  obtain ⟨tb, o, c, -, -, h, -⟩ := h
  exact (Array.getElem?_eq_some_iff.1 h).1
theorem PAt.keep {b lv : Nat} {l : List Lx.Tok} {W W' : World} (h : PAt b l lv W) (hk : ∀ k, k < W.heap.size → W'.heap[k]? = W.heap[k]?) : PAt b l lv W' := by
  have hlt := h.lt
  obtain ⟨tb, o, c, h1, ⟨tc, fr, h2⟩, h3, h4, h5, h6⟩ := h
  have h2l := (Array.getElem?_eq_some_iff.1 h2).1
  exact ⟨tb, o, c, h1, ⟨tc, fr, (hk tb h2l).trans h2⟩, (hk b hlt).trans h3, h4, h5, fun j u hu => (World.cell?_of_block (w := W) (a := ⟨tb, o + j, none⟩) (hk tb h2l)).trans (h6 j u hu)⟩
theorem PAt.below {b lv : Nat} {l : List Lx.Tok} {W W' : World} (h : PAt b l lv W) (hb : Below W.heap.size W W') : PAt b l lv W' := h.keep (fun k hk => hb.block k hk)
theorem PAt.cells {b lv : Nat} {l : List Lx.Tok} {W : World} (h : PAt b l lv W) (hl : OkL l) : ∃ tb o c, W.cell? ⟨b, 0, none⟩ = some (.slice (some ⟨tb, o, none⟩) l.length c) ∧ W.cell? ⟨b, 1, none⟩ = some (.int .i64 lv) ∧ (∀ j, W.frozen? ⟨b, j, none⟩ = false) ∧ (0 < l.length ∧ l.length ≤ c ∧ l.length ≤ 100000000) ∧
    W.cell? ⟨tb, o, none⟩ = some (.int .u8 (Ps.hd l).kind) ∧ W.cell? ⟨tb, o + 1, none⟩ = some (.string (Ln.bs (Ps.hd l).text)) ∧ W.cell? ⟨tb, o + 2, none⟩ = some (.int .i64 (Ps.hd l).at_) ∧
    (∀ W', W.grownBy W' (some b) → W'.heap[b]? = some (.cells #[.slice (some ⟨tb, o + 3, none⟩) (l.length - 1) (c - 1), .int .i64 lv] 111 (0, 0)) → PAt b l.tail lv W') ∧
    (∀ W' (v : Nat), W.grownBy W' (some b) → W'.heap[b]? = some (.cells #[.slice (some ⟨tb, o, none⟩) l.length c, .int .i64 v] 111 (0, 0)) → PAt b l v W') ∧ W.heap[b]? = some (.cells #[.slice (some ⟨tb, o, none⟩) l.length c, .int .i64 lv] 111 (0, 0)) := by
  obtain ⟨tb, o, c, h1, ⟨tc, fr, h2t⟩, h3, h4, h5, h6⟩ := h
  have h2 := (Array.getElem?_eq_some_iff.1 h2t).1
  cases l with
  | nil => exact hl.elim
  | cons t r =>
    refine ⟨tb, o, c, cells_at h3 rfl, cells_at h3 rfl, fun j => frozen_of_row W b j _ _ h3, ⟨by simp, h4, h5⟩, h6 0 _ rfl, h6 1 _ rfl, h6 2 _ rfl, fun W' hg hb => ?_, fun W' v hg hb => ?_, h3⟩
    · refine ⟨tb, o + 3, c - 1, h1, ⟨tc, fr, (hg.block tb h2 (by simpa using h1)).trans h2t⟩, by simpa using hb, by simp at h4 ⊢; omega, by simp at h5 ⊢; omega, fun j u hu => ?_⟩
      have := h6 (j + 3) u hu
      rw [show o + (j + 3) = o + 3 + j by omega] at this
      exact (World.cell?_of_block (w := W) (a := ⟨tb, o + 3 + j, none⟩) (hg.block tb h2 (by simpa using h1))).trans this
    · exact ⟨tb, o, c, h1, ⟨tc, fr, (hg.block tb h2 (by simpa using h1)).trans h2t⟩, hb, h4, h5, fun j u hu => (World.cell?_of_block (w := W) (a := ⟨tb, o + j, none⟩) (hg.block tb h2 (by simpa using h1))).trans (h6 j u hu)⟩

/-- What a panic with a fault is. -/
def pan (e i : Nat) : Ending := .panicked [{ v := .iface 31 (.agg #[.int .i64 e, .int .i64 i]), recovered := false }]
theorem tok_f0 (k : Int) (s : ByteArray) (a : Int) (w : World) : (Instr.field 149 (.agg #[.int .u8 k, .string s, .int .i64 a]) 0).run Tryz.prog w = .ok (.int .u8 k) w := by kernel_rfl
theorem tok_f1 (k : Int) (s : ByteArray) (a : Int) (w : World) : (Instr.field 149 (.agg #[.int .u8 k, .string s, .int .i64 a]) 1).run Tryz.prog w = .ok (.string s) w := by kernel_rfl
theorem tok_f2 (k : Int) (s : ByteArray) (a : Int) (w : World) : (Instr.field 149 (.agg #[.int .u8 k, .string s, .int .i64 a]) 2).run Tryz.prog w = .ok (.int .i64 a) w := by kernel_rfl
set_option maxRecDepth 100000 in
set_option maxHeartbeats 2000000 in
theorem pnext_any (b lv : Nat) (l : List Lx.Tok) (w : World) (h : PAt b l lv w) (hl : OkL l) : Calls Tryz.prog 124 #[.pointer (some ⟨b, 0, none⟩)] w fun e w' => e = .returned (.agg #[.int .u8 (Ps.hd l).kind, .string (Ln.bs (Ps.hd l).text), .int .i64 (Ps.hd l).at_]) ∧ Below w.heap.size w w' := by
  have bX : Below w.heap.size w (w.alloc (.cells #[.int .u8 0, .string ⟨#[]⟩, .int .i64 0] 149)) := below_new w _
  obtain ⟨tb, o, c, c0, -, -, ⟨hl0, hl1, hl2⟩, t0, t1, t2, -, -, -⟩ := (h.below bX).cells hl
  have hl0I : (0 : Int) < (l.length : Int) := by omega
  obtain ⟨N, hN⟩ : ∃ N, N = l.length := ⟨_, rfl⟩
  rw [← hN] at c0 hl0I
  clear h hl bX hN
  go_enter Tryz.func124, Tryz.ntmps124
  go_wp2
  refine bodyPost_ret (v := .agg #[.int .u8 (Ps.hd l).kind, .string (Ln.bs (Ps.hd l).text), .int .i64 (Ps.hd l).at_]) (by simp [results, Tryz.results124, go_sem]) rfl ⟨rfl, below_new w _⟩

set_option maxRecDepth 100000 in
set_option maxHeartbeats 2000000 in
theorem psees_any (b lv m : Nat) (l : List Lx.Tok) (S : List (List UInt8)) (v : Value) (w : World) (h : PAt b l lv w) (hl : OkL l) (hv : RowLow m w v S) (hm : m ≤ w.heap.size) (hS : S.length ≤ 1000) : Calls Tryz.prog 166 #[.pointer (some ⟨b, 0, none⟩), v] w fun e w' => e = .returned (.bool (Ps.sees l S)) ∧ Below w.heap.size w w' := by
  have HN : Hid (_) := pnext_any b lv l w h hl
  have HC : Hid (∀ W, Below w.heap.size w W → _) := fun W hW => contains_any S v m (Ln.bs (Ps.hd l).text) W (hv.below hW hm) (by omega)
  obtain ⟨va, vc, vb, vo, rfl, -, -, -⟩ := hv.parts
  clear h hl hv
  have hf1 := tok_f1 (Ps.hd l).kind (Ln.bs (Ps.hd l).text) (Ps.hd l).at_
  go_enter Tryz.func166, Tryz.ntmps166
  go_wp2_with fail
  refine Calls.mono HN.out ?_
  rintro e w1 ⟨rfl, hb1⟩
  have B1 : Hid (Below w.heap.size w w1) := hb1
  have HC1 : Hid (_) := HC.out w1 hb1
  clear hb1 HN HC
  go_wp2_with fail
  refine Calls.mono HC1.out ?_
  rintro e w2 ⟨rfl, hw2⟩
  have B2 : Hid (Below w.heap.size w w2) := by rw [hw2]; exact B1.out
  clear hw2 HC1
  go_wp2
  go_ret
  exact ⟨rfl, B2.out⟩

set_option maxRecDepth 100000 in
set_option maxHeartbeats 2000000 in
theorem pfault_any (b lv e0 : Nat) (l : List Lx.Tok) (w : World) (h : PAt b l lv w) (hl : OkL l) : Calls Tryz.prog 164 #[.pointer (some ⟨b, 0, none⟩), .int .i64 e0] w fun e w' => e = .returned (.agg #[.int .i64 e0, .int .i64 (Ps.hd l).at_]) ∧ Below w.heap.size w w' := by
  obtain ⟨X, hX⟩ : ∃ X, X = w.alloc (.cells #[.int .i64 0, .int .i64 0] 31) := ⟨_, rfl⟩
  have bX : Below w.heap.size w X := hX ▸ below_new w _
  have hXn : X.heap[w.heap.size]? = some (.cells #[.int .i64 0, .int .i64 0] 31 (0, 0)) := by rw [hX]; exact World.alloc_heap_new w _
  have HN : Hid (_) := pnext_any b lv l X (h.below bX) hl
  have HX : Hid (Below w.heap.size w X ∧ X.heap[w.heap.size]? = some (.cells #[.int .i64 0, .int .i64 0] 31 (0, 0))) := ⟨bX, hXn⟩
  clear h hl bX hXn
  have hf2 := tok_f2 (Ps.hd l).kind (Ln.bs (Ps.hd l).text) (Ps.hd l).at_
  go_enter Tryz.func164, Tryz.ntmps164
  go_wp2_with fail
  rw [← hX]
  clear hX
  refine Calls.mono HN.out ?_
  rintro e w1 ⟨rfl, hb1⟩
  have y : w1.heap[w.heap.size]? = some (.cells #[.int .i64 0, .int .i64 0] 31 (0, 0)) := (hb1.block _ (Array.getElem?_eq_some_iff.1 HX.out.2).1).trans HX.out.2
  obtain ⟨f0, f1, Y, hY, k0, k1, gY, -⟩ := fault_put y (.int .i64 e0) (.int .i64 (Ps.hd l).at_)
  have c0 : w1.cell? ⟨w.heap.size, 0, none⟩ = some (.int .i64 0) := cells_at y rfl
  have c1 : (w1.setCell ⟨w.heap.size, 0, none⟩ (.int .i64 e0)).cell? ⟨w.heap.size, 1, none⟩ = some (.int .i64 0) := cells_at (heap_setCell_same w1 _ 0 _ 31 _ y) rfl
  have bw : Below w.heap.size w w1 := below_then HX.out.1 hb1
  have HF : Hid (Below w.heap.size w Y) := below_box bw gY (Nat.le_refl _) bw.size
  clear HN HX y gY bw hb1
  go_wp2
  rw [← hY]
  refine bodyPost_ret (v := .agg #[.int .i64 e0, .int .i64 (Ps.hd l).at_]) (by simp [results, Tryz.results164, go_sem, k0, k1]) rfl ⟨rfl, HF.out⟩

/-- The tokens go on by one. -/
def PNext (b lv : Nat) (l : List Lx.Tok) (w w' : World) : Prop := w.grownBy w' (some b) ∧ PAt b l.tail lv w'

set_option maxRecDepth 100000 in
set_option maxHeartbeats 2000000 in
theorem ptake_any (b lv : Nat) (l : List Lx.Tok) (w : World) (h : PAt b l lv w) (hl : OkL l) (ht : OkL l.tail) : Calls Tryz.prog 163 #[.pointer (some ⟨b, 0, none⟩)] w fun e w' => e = .returned (.string (Ln.bs (Ps.hd l).text)) ∧ PNext b lv l w w' := by
  have HN : Hid (_) := pnext_any b lv l w h hl
  have HP : Hid (PAt b l lv w) := h
  have HL : Hid (OkL l) := hl
  have H2 : Hid (2 ≤ l.length) := by
    show 2 ≤ l.length
    cases l with
    | nil => exact hl.elim
    | cons t r =>
      cases r with
      | nil => exact ht.elim
      | cons t' r' => simp
  clear h hl ht
  have hf1 := tok_f1 (Ps.hd l).kind (Ln.bs (Ps.hd l).text) (Ps.hd l).at_
  go_enter Tryz.func163, Tryz.ntmps163
  go_wp2_with fail
  refine Calls.mono HN.out ?_
  rintro e w1 ⟨rfl, hb1⟩
  have hP1 := HP.out.below hb1
  have hlt := HP.out.lt
  obtain ⟨tb, o, c, c0, -, cf, ⟨hl0, hl1, hl2⟩, -, -, -, nx, -, hh⟩ := hP1.cells HL.out
  have hsl := run_slice_l (P := Tryz.prog) w1 68 (some ⟨tb, o, none⟩) l.length c Tryz.underlying68 .i64 ((1 : Nat) : Int) (by omega) (by omega)
  obtain ⟨Y, hY⟩ : ∃ Y, Y = w1.setCell ⟨b, 0, none⟩ (.slice (some ⟨tb, o + 3, none⟩) (l.length - 1) (c - 1)) := ⟨_, rfl⟩
  have hYb : Y.heap[b]? = some (.cells #[.slice (some ⟨tb, o + 3, none⟩) (l.length - 1) (c - 1), .int .i64 lv] 111 (0, 0)) := by rw [hY]; exact heap_setCell_same w1 _ 0 _ _ _ hh
  have gY : w1.grownBy Y (some b) := by rw [hY]; exact grown_set w1 _ _ _
  have HF : Hid (PNext b lv l w Y) := by
    refine ⟨⟨gY.os.trans hb1.os, gY.tape.trans hb1.tape, gY.output.trans hb1.output, Nat.le_trans hb1.size gY.size, fun k hk hn => (gY.block k (Nat.lt_of_lt_of_le hk hb1.size) hn).trans (hb1.block k hk)⟩, nx Y gY hYb⟩
  have h2 := H2.out
  obtain ⟨N, hN⟩ : ∃ N, N = l.length := ⟨_, rfl⟩
  rw [← hN] at c0 hY hl0 hl1 h2
  have hc2 : 2 ≤ c := by omega
  have hl0I : (1 : Int) ≤ (N : Int) := by omega
  have hl1I : (N : Int) ≤ (c : Int) := by omega
  clear hsl hh nx hYb gY hP1 hb1 HN hN HP HL H2
  go_wp2
  all_goals first
    | (exfalso; omega)
    | (rw [← hY]; go_ret; exact ⟨rfl, HF.out⟩)

/-- One of these texts comes next. -/
theorem nil_not (s : List UInt8) (h : s ≠ []) : [] ∉ [s] := by simpa using h.symm

set_option maxRecDepth 100000 in
set_option maxHeartbeats 2000000 in
theorem pmust_yes (b lv m : Nat) (l : List Lx.Tok) (S : List (List UInt8)) (v : Value) (w : World) (h : PAt b l lv w) (hl : OkL l) (hv : RowLow m w v S) (hm : m ≤ w.heap.size) (hS : S.length ≤ 1000) (hs : Ps.sees l S = true) : Calls Tryz.prog 162 #[.pointer (some ⟨b, 0, none⟩), v] w fun e w' => e = .returned (.tuple #[]) ∧ Below w.heap.size w w' := by
  have HN : Hid (_) := psees_any b lv m l S v w h hl hv hm hS
  rw [hs] at HN
  obtain ⟨va, vc, vb, vo, rfl, -, -, -⟩ := hv.parts
  clear h hl hv
  go_enter Tryz.func162, Tryz.ntmps162
  go_wp2_with fail
  refine Calls.mono HN.out ?_
  rintro e w1 ⟨rfl, hb1⟩
  have B1 : Hid (Below w.heap.size w w1) := hb1
  clear hb1 HN
  go_wp2
  go_end0
  exact ⟨rfl, B1.out⟩

set_option maxRecDepth 100000 in
set_option maxHeartbeats 2000000 in
theorem pmust_no (b lv m : Nat) (l : List Lx.Tok) (S : List (List UInt8)) (v : Value) (w : World) (h : PAt b l lv w) (hl : OkL l) (hv : RowLow m w v S) (hm : m ≤ w.heap.size) (hS : S.length ≤ 1000) (hs : Ps.sees l S = false) : Calls Tryz.prog 162 #[.pointer (some ⟨b, 0, none⟩), v] w fun e w' => e = pan 102 (Ps.hd l).at_ ∧ Below w.heap.size w w' := by
  have HN : Hid (_) := psees_any b lv m l S v w h hl hv hm hS
  rw [hs] at HN
  obtain ⟨va, vc, vb, vo, rfl, -, -, -⟩ := hv.parts
  have HF : Hid (∀ W, Below w.heap.size w W → _) := fun W hW => pfault_any b lv 102 l W (h.below hW) hl
  clear h hl hv
  go_enter Tryz.func162, Tryz.ntmps162
  go_wp2_with fail
  refine Calls.mono HN.out ?_
  rintro e w1 ⟨rfl, hb1⟩
  have B1 : Hid (Below w.heap.size w w1) := hb1
  have HF1 : Hid (_) := HF.out w1 hb1
  clear hb1 HN HF
  go_wp2_with fail
  refine Calls.mono HF1.out ?_
  rintro e w2 ⟨rfl, hb2⟩
  have B2 : Hid (Below w.heap.size w w2) := below_then B1.out hb2
  clear hb2 HF1
  go_wp2
  exact ⟨rfl, rfl, B2.out⟩

theorem grown_below {w W W' : World} {b : Nat} (h : w.grownBy W (some b)) (hb : Below W.heap.size W W') : w.grownBy W' (some b) :=
  ⟨hb.os.trans h.os, hb.tape.trans h.tape, hb.output.trans h.output, Nat.le_trans h.size hb.size, fun k hk hn => (hb.block k (Nat.lt_of_lt_of_le hk h.size)).trans (h.block k hk hn)⟩
theorem grown_refl (w : World) (b : Nat) : w.grownBy w (some b) := ⟨rfl, rfl, rfl, Nat.le_refl _, fun _ _ _ => rfl⟩
theorem grown_low {w W : World} {b : Nat} (hb : Below w.heap.size w W) : w.grownBy W (some b) := grown_below (grown_refl w b) hb

set_option maxRecDepth 100000 in
set_option maxHeartbeats 2000000 in
theorem pwant_yes (b lv : Nat) (l : List Lx.Tok) (s : List UInt8) (w : World) (h : PAt b l lv w) (hl : OkL l) (hs : Ps.sees l [s] = true) (hn : s ≠ []) : Calls Tryz.prog 149 #[.pointer (some ⟨b, 0, none⟩), .string (Ln.bs s)] w fun e w' => e = .returned (.tuple #[]) ∧ PNext b lv l w w' := by
  obtain ⟨X, hX⟩ : ∃ X, X = w.alloc (.cells #[.string (Ln.bs s)] 9) := ⟨_, rfl⟩
  have bX : Below w.heap.size w X := hX ▸ below_new w _
  have rX : RowLow X.heap.size X (.slice (some ⟨w.heap.size, 0, none⟩) 1 1) [s] := by rw [hX]; exact CellsLow.lit w [txtV s] 9 1
  have HM : Hid (_) := pmust_yes b lv X.heap.size l [s] _ X (h.below bX) hl rX (Nat.le_refl _) (by simp) hs
  have HT : Hid (∀ W, Below X.heap.size X W → _) := fun W hW => ptake_any b lv l W ((h.below bX).below hW) hl (hl.sees hs (nil_not s hn)).1
  have HBX : Hid (Below w.heap.size w X) := bX
  clear h hl bX rX
  go_enter Tryz.func149, Tryz.ntmps149
  go_wp2_with fail
  rw [← hX]
  clear hX
  refine Calls.mono HM.out ?_
  rintro e w1 ⟨rfl, hb1⟩
  have HT1 : Hid (_) := HT.out w1 hb1
  have B1 : Hid (Below w.heap.size w w1) := below_then HBX.out hb1
  clear hb1 HM HT
  go_wp2_with fail
  refine Calls.mono HT1.out ?_
  rintro e w2 ⟨rfl, hg, hp⟩
  have HF : Hid (PNext b lv l w w2) := ⟨(grown_low B1.out).trans hg, hp⟩
  clear hg hp HT1
  go_wp2
  go_end0
  exact ⟨rfl, HF.out⟩

set_option maxRecDepth 100000 in
set_option maxHeartbeats 2000000 in
theorem pwant_no (b lv : Nat) (l : List Lx.Tok) (s : List UInt8) (w : World) (h : PAt b l lv w) (hl : OkL l) (hs : Ps.sees l [s] = false) : Calls Tryz.prog 149 #[.pointer (some ⟨b, 0, none⟩), .string (Ln.bs s)] w fun e w' => e = pan 102 (Ps.hd l).at_ ∧ w.grownBy w' (some b) := by
  obtain ⟨X, hX⟩ : ∃ X, X = w.alloc (.cells #[.string (Ln.bs s)] 9) := ⟨_, rfl⟩
  have bX : Below w.heap.size w X := hX ▸ below_new w _
  have rX : RowLow X.heap.size X (.slice (some ⟨w.heap.size, 0, none⟩) 1 1) [s] := by rw [hX]; exact CellsLow.lit w [txtV s] 9 1
  have HM : Hid (_) := pmust_no b lv X.heap.size l [s] _ X (h.below bX) hl rX (Nat.le_refl _) (by simp) hs
  have HBX : Hid (Below w.heap.size w X) := bX
  clear h hl bX rX
  go_enter Tryz.func149, Tryz.ntmps149
  go_wp2_with fail
  rw [← hX]
  clear hX
  refine Calls.mono HM.out ?_
  rintro e w1 ⟨rfl, hb1⟩
  exact ⟨rfl, rfl, grown_low (below_then HBX.out hb1)⟩

set_option maxRecDepth 100000 in
set_option maxHeartbeats 2000000 in
theorem pname_yes (b lv : Nat) (l : List Lx.Tok) (w : World) (h : PAt b l lv w) (hl : OkL l) (hk : (Ps.hd l).kind = 1) : Calls Tryz.prog 150 #[.pointer (some ⟨b, 0, none⟩)] w fun e w' => e = .returned (.string (Ln.bs (Ps.hd l).text)) ∧ PNext b lv l w w' := by
  have HN : Hid (_) := pnext_any b lv l w h hl
  have HT : Hid (∀ W, Below w.heap.size w W → _) := fun W hW => ptake_any b lv l W (h.below hW) hl (hl.tail (.inl (by rw [hk]; decide))).1
  rw [hk] at HN
  have hf0 := tok_f0 1 (Ln.bs (Ps.hd l).text) (Ps.hd l).at_
  clear h hl hk
  go_enter Tryz.func150, Tryz.ntmps150
  go_wp2_with fail
  refine Calls.mono HN.out ?_
  rintro e w1 ⟨rfl, hb1⟩
  have B1 : Hid (Below w.heap.size w w1) := hb1
  have HT1 : Hid (_) := HT.out w1 hb1
  clear hb1 HN HT
  go_wp2_with fail
  refine Calls.mono HT1.out ?_
  rintro e w2 ⟨rfl, hg, hp⟩
  have HF : Hid (PNext b lv l w w2) := ⟨(grown_low B1.out).trans hg, hp⟩
  clear hg hp HT1
  go_wp2
  go_ret
  exact ⟨rfl, HF.out⟩

set_option maxRecDepth 100000 in
set_option maxHeartbeats 2000000 in
theorem pname_no (b lv : Nat) (l : List Lx.Tok) (w : World) (h : PAt b l lv w) (hl : OkL l) (hk : (Ps.hd l).kind ≠ 1) : Calls Tryz.prog 150 #[.pointer (some ⟨b, 0, none⟩)] w fun e w' => e = pan 102 (Ps.hd l).at_ ∧ w.grownBy w' (some b) := by
  have HN : Hid (_) := pnext_any b lv l w h hl
  have HF : Hid (∀ W, Below w.heap.size w W → _) := fun W hW => pfault_any b lv 102 l W (h.below hW) hl
  have hf0 := tok_f0 (Ps.hd l).kind (Ln.bs (Ps.hd l).text) (Ps.hd l).at_
  have d1 : (((Ps.hd l).kind : Int) == 1) = false := by simpa using (by omega : ¬ ((Ps.hd l).kind : Int) = 1)
  have d2 : (((Ps.hd l).kind : Int) != 1) = true := by simpa using (by omega : ¬ ((Ps.hd l).kind : Int) = 1)
  clear h hl hk
  go_enter Tryz.func150, Tryz.ntmps150
  go_wp2_with fail
  refine Calls.mono HN.out ?_
  rintro e w1 ⟨rfl, hb1⟩
  have B1 : Hid (Below w.heap.size w w1) := hb1
  have HF1 : Hid (_) := HF.out w1 hb1
  clear hb1 HN HF
  go_wp2_with fail
  refine Calls.mono HF1.out ?_
  rintro e w2 ⟨rfl, hb2⟩
  have HB : Hid (w.grownBy w2 (some b)) := grown_low (below_then B1.out hb2)
  clear hb2 HF1
  go_wp2
  exact ⟨rfl, rfl, HB.out⟩
end Go.Proofs.YtnndgjnihhafbaaGreatDoor

/-
  The walks of the parser's open, close and node.
-/
namespace Go.Proofs.YtnndgjnihhafbaaGreatDoor
open Go.RowKit Go.Shelf

attribute [local go_sem] Oper.semAt_some

/-- The tokens go on by one, and so many levels are open. -/
def PStep (b lv : Nat) (l : List Lx.Tok) (w w' : World) : Prop := w.grownBy w' (some b) ∧ PAt b l lv w'

set_option maxRecDepth 100000 in
set_option maxHeartbeats 2000000 in
theorem popen_yes (b lv m : Nat) (l : List Lx.Tok) (S : List (List UInt8)) (v : Value) (w : World) (h : PAt b l lv w) (hl : OkL l) (hv : RowLow m w v S) (hm : m ≤ w.heap.size) (hS : S.length ≤ 1000) (hs : Ps.sees l S = true) (hnn : [] ∉ S) (hlv : lv < 120) : Calls Tryz.prog 165 #[.pointer (some ⟨b, 0, none⟩), v] w fun e w' => e = .returned (.string (Ln.bs (Ps.hd l).text)) ∧ PStep b (lv + 1) l.tail w w' := by
  have HM : Hid (_) := pmust_yes b lv m l S v w h hl hv hm hS hs
  have HP : Hid (PAt b l lv w ∧ OkL l ∧ OkL l.tail) := ⟨h, hl, (hl.sees hs hnn).1⟩
  obtain ⟨va, vc, vb, vo, rfl, -, -, -⟩ := hv.parts
  have d1 : ((lv : Int) == 120) = false := by simpa using (by omega : ¬ (lv : Int) = 120)
  have hadd : IntKind.i64.wrap ((lv : Int) + 1) = (lv : Int) + 1 := by rw [IntKind.wrap_i64]; omega
  clear h hl hv hs hnn
  go_enter Tryz.func165, Tryz.ntmps165
  go_wp2_with fail
  refine Calls.mono HM.out ?_
  rintro e w1 ⟨rfl, hb1⟩
  obtain ⟨tb, o, c, -, c1, cf, -, -, -, -, -, nx, hh⟩ := (HP.out.1.below hb1).cells HP.out.2.1
  obtain ⟨Y, hY⟩ : ∃ Y, Y = w1.setCell ⟨b, 1, none⟩ (.int .i64 ((lv : Int) + 1)) := ⟨_, rfl⟩
  have hYb : Y.heap[b]? = some (.cells #[.slice (some ⟨tb, o, none⟩) l.length c, .int .i64 ((lv + 1 : Nat) : Int)] 111 (0, 0)) := by
    rw [hY, show ((lv + 1 : Nat) : Int) = (lv : Int) + 1 by omega]; exact heap_setCell_same w1 _ 1 _ _ _ hh
  have gY : w1.grownBy Y (some b) := by rw [hY]; exact grown_set w1 _ _ _
  have hPY : PAt b l (lv + 1) Y := nx Y (lv + 1) gY hYb
  have HT : Hid (_) := ptake_any b (lv + 1) l Y hPY HP.out.2.1 HP.out.2.2
  have HG : Hid (w.grownBy Y (some b)) := (grown_low hb1).trans gY
  clear hb1 HM hYb gY hPY nx hh HP
  go_wp2_with fail
  rw [← hY]
  clear hY
  refine Calls.mono HT.out ?_
  rintro e w2 ⟨rfl, hg, hp⟩
  have HF : Hid (PStep b (lv + 1) l.tail w w2) := ⟨HG.out.trans hg, hp⟩
  clear hg hp HT c1 cf
  go_wp2
  go_ret
  exact ⟨rfl, HF.out⟩

set_option maxRecDepth 100000 in
set_option maxHeartbeats 2000000 in
theorem popen_no (b lv m : Nat) (l : List Lx.Tok) (S : List (List UInt8)) (v : Value) (w : World) (h : PAt b l lv w) (hl : OkL l) (hv : RowLow m w v S) (hm : m ≤ w.heap.size) (hS : S.length ≤ 1000) (hs : Ps.sees l S = false) : Calls Tryz.prog 165 #[.pointer (some ⟨b, 0, none⟩), v] w fun e w' => e = pan 102 (Ps.hd l).at_ ∧ w.grownBy w' (some b) := by
  have HM : Hid (_) := pmust_no b lv m l S v w h hl hv hm hS hs
  obtain ⟨va, vc, vb, vo, rfl, -, -, -⟩ := hv.parts
  clear h hl hv hs
  go_enter Tryz.func165, Tryz.ntmps165
  go_wp2_with fail
  refine Calls.mono HM.out ?_
  rintro e w1 ⟨rfl, hb1⟩
  exact ⟨rfl, rfl, grown_low hb1⟩

set_option maxRecDepth 100000 in
set_option maxHeartbeats 2000000 in
theorem popen_deep (b m : Nat) (l : List Lx.Tok) (S : List (List UInt8)) (v : Value) (w : World) (h : PAt b l 120 w) (hl : OkL l) (hv : RowLow m w v S) (hm : m ≤ w.heap.size) (hS : S.length ≤ 1000) (hs : Ps.sees l S = true) : Calls Tryz.prog 165 #[.pointer (some ⟨b, 0, none⟩), v] w fun e w' => e = pan 103 (Ps.hd l).at_ ∧ w.grownBy w' (some b) := by
  have HM : Hid (_) := pmust_yes b 120 m l S v w h hl hv hm hS hs
  have HF : Hid (∀ W, Below w.heap.size w W → _) := fun W hW => pfault_any b 120 103 l W (h.below hW) hl
  have HP : Hid (PAt b l 120 w ∧ OkL l) := ⟨h, hl⟩
  obtain ⟨va, vc, vb, vo, rfl, -, -, -⟩ := hv.parts
  clear h hl hv hs
  go_enter Tryz.func165, Tryz.ntmps165
  go_wp2_with fail
  refine Calls.mono HM.out ?_
  rintro e w1 ⟨rfl, hb1⟩
  obtain ⟨tb, o, c, -, c1, -, -, -, -, -, -, -, -⟩ := (HP.out.1.below hb1).cells HP.out.2
  have B1 : Hid (Below w.heap.size w w1) := hb1
  have HF1 : Hid (_) := HF.out w1 hb1
  have c1' : w1.cell? ⟨b, 1, none⟩ = some (.int .i64 120) := c1
  clear hb1 HM HF HP c1
  go_wp2_with fail
  refine Calls.mono HF1.out ?_
  rintro e w2 ⟨rfl, hb2⟩
  have HB : Hid (w.grownBy w2 (some b)) := grown_low (below_then B1.out hb2)
  clear hb2 HF1 c1'
  go_wp2
  exact ⟨rfl, rfl, HB.out⟩

set_option maxRecDepth 100000 in
set_option maxHeartbeats 2000000 in
theorem pclose_yes (b lv : Nat) (l : List Lx.Tok) (s : List UInt8) (w : World) (h : PAt b l (lv + 1) w) (hl : OkL l) (hs : Ps.sees l [s] = true) (hn : s ≠ []) (hlv : lv < 120) : Calls Tryz.prog 167 #[.pointer (some ⟨b, 0, none⟩), .string (Ln.bs s)] w fun e w' => e = .returned (.tuple #[]) ∧ PStep b lv l.tail w w' := by
  have HM : Hid (_) := pwant_yes b (lv + 1) l s w h hl hs hn
  have HP : Hid (OkL l.tail) := (hl.sees hs (nil_not s hn)).1
  have hsub : IntKind.i64.wrap (((lv + 1 : Nat) : Int) - 1) = (lv : Int) := by rw [IntKind.wrap_i64]; omega
  have hsub2 : IntKind.i64.wrap ((lv : Int) + 1 - 1) = (lv : Int) := by rw [IntKind.wrap_i64]; omega
  clear h hl hs
  go_enter Tryz.func167, Tryz.ntmps167
  go_wp2_with fail
  refine Calls.mono HM.out ?_
  rintro e w1 ⟨rfl, hg, hp⟩
  obtain ⟨tb, o, c, -, c1, cf, -, -, -, -, -, nx, hh⟩ := hp.cells HP.out
  obtain ⟨Y, hY⟩ : ∃ Y, Y = w1.setCell ⟨b, 1, none⟩ (.int .i64 (lv : Int)) := ⟨_, rfl⟩
  have hYb : Y.heap[b]? = some (.cells #[.slice (some ⟨tb, o, none⟩) l.tail.length c, .int .i64 lv] 111 (0, 0)) := by
    rw [hY]; exact heap_setCell_same w1 _ 1 _ _ _ hh
  have gY : w1.grownBy Y (some b) := by rw [hY]; exact grown_set w1 _ _ _
  have HF : Hid (PStep b lv l.tail w Y) := ⟨hg.trans gY, nx Y lv gY hYb⟩
  clear hg hp HM hYb gY nx hh HP
  go_wp2
  rw [← hY]
  go_end0
  exact ⟨rfl, HF.out⟩

set_option maxRecDepth 100000 in
set_option maxHeartbeats 2000000 in
theorem pclose_no (b lv : Nat) (l : List Lx.Tok) (s : List UInt8) (w : World) (h : PAt b l lv w) (hl : OkL l) (hs : Ps.sees l [s] = false) : Calls Tryz.prog 167 #[.pointer (some ⟨b, 0, none⟩), .string (Ln.bs s)] w fun e w' => e = pan 102 (Ps.hd l).at_ ∧ w.grownBy w' (some b) := by
  have HM : Hid (_) := pwant_no b lv l s w h hl hs
  clear h hl hs
  go_enter Tryz.func167, Tryz.ntmps167
  go_wp2_with fail
  refine Calls.mono HM.out ?_
  rintro e w1 ⟨rfl, hg⟩
  exact ⟨rfl, rfl, hg⟩

set_option maxRecDepth 100000 in
set_option maxHeartbeats 2000000 in
theorem pnode_any (k : Int) (s : ByteArray) (a : Option Addr) (n c : Nat) (w : World) : Calls Tryz.prog 123 #[.int .u8 k, .string s, .slice a n c] w fun e w' => e = .returned (.agg #[.int .u8 k, .string s, .int .i64 0, .slice a n c]) ∧ Below w.heap.size w w' := by
  go_enter Tryz.func123, Tryz.ntmps123
  go_wp2
  refine bodyPost_ret (v := .agg #[.int .u8 k, .string s, .int .i64 0, .slice a n c]) (by simp [results, Tryz.results123, go_sem]) rfl ⟨rfl, below_new w _⟩

/-- Blocks that are new. -/
def newS (a n : Nat) : Nat → Prop := fun k => a ≤ k ∧ k < n
theorem RowR.step {a a' : Nat} {W W' : World} {v : Value} {ts : List Tr} (h : RowR (newS a W.heap.size) W v ts) (hk : ∀ k, a ≤ k → k < W.heap.size → W'.heap[k]? = W.heap[k]?) (hs : W.heap.size ≤ W'.heap.size) (ha : a' ≤ a) : RowR (newS a' W'.heap.size) W' v ts :=
  h.keep (fun k hx => hk k hx.1 hx.2) (fun _ hx => ⟨Nat.le_trans ha hx.1, Nat.lt_of_lt_of_le hx.2 hs⟩)
theorem NodeR.step {a a' : Nat} {W W' : World} {v : Value} {t : Tr} (h : NodeR (newS a W.heap.size) W v t) (hk : ∀ k, a ≤ k → k < W.heap.size → W'.heap[k]? = W.heap[k]?) (hs : W.heap.size ≤ W'.heap.size) (ha : a' ≤ a) : NodeR (newS a' W'.heap.size) W' v t := by
  obtain ⟨x, e1, e2, e3, e4⟩ := h
  exact ⟨x, e1, e2, e3, e4.step hk hs ha⟩
theorem NodeR.grown {a b c : Nat} {W W' : World} {v : Value} {t : Tr} (h : NodeR (newS a W.heap.size) W v t) (hg : W.grownBy W' (some b)) (hb : b < a) (ha : c ≤ a) : NodeR (newS c W'.heap.size) W' v t :=
  h.step (fun k hk hl => hg.block k hl (by simp; omega)) hg.size ha
theorem RowR.grown {a b c : Nat} {W W' : World} {v : Value} {t : List Tr} (h : RowR (newS a W.heap.size) W v t) (hg : W.grownBy W' (some b)) (hb : b < a) (ha : c ≤ a) : RowR (newS c W'.heap.size) W' v t :=
  h.step (fun k hk hl => hg.block k hl (by simp; omega)) hg.size ha
theorem NodeR.low {a c : Nat} {W W' : World} {v : Value} {t : Tr} (h : NodeR (newS a W.heap.size) W v t) (hb : Below W.heap.size W W') (ha : c ≤ a) : NodeR (newS c W'.heap.size) W' v t :=
  h.step (fun k _ hl => hb.block k hl) hb.size ha
theorem NodeR.pshape {S : Nat → Prop} {w : World} {v : Value} {t : Tr} (h : NodeR S w v t) : ∃ k tx n a L c, v = .agg #[.int .u8 k, .string (Ln.bs tx), .int .i64 n, .slice a L c] := by
  obtain ⟨⟨k, tx, n, v0, kids⟩, rfl, rfl, hf, hr⟩ := h
  obtain ⟨ka, kc, e⟩ := hr.slice
  simp only at e
  subst e
  exact ⟨_, _, _, _, _, _, rfl⟩
/-- A node in a box: what is set there. -/
theorem box_put {W : World} {r : Nat} {c0 c1 c2 c3 : Value} (h : W.heap[r]? = some (.cells #[c0, c1, c2, c3] 25 (0, 0))) (a0 a1 a2 a3 : Value) :
    W.cell? ⟨r, 0, none⟩ = some c0 ∧ (W.setCell ⟨r, 0, none⟩ a0).cell? ⟨r, 1, none⟩ = some c1 ∧ ((W.setCell ⟨r, 0, none⟩ a0).setCell ⟨r, 1, none⟩ a1).cell? ⟨r, 2, none⟩ = some c2 ∧ (((W.setCell ⟨r, 0, none⟩ a0).setCell ⟨r, 1, none⟩ a1).setCell ⟨r, 2, none⟩ a2).cell? ⟨r, 3, none⟩ = some c3 ∧ (∀ j, W.frozen? ⟨r, j, none⟩ = false) ∧
      ∃ Z, Z = (((W.setCell ⟨r, 0, none⟩ a0).setCell ⟨r, 1, none⟩ a1).setCell ⟨r, 2, none⟩ a2).setCell ⟨r, 3, none⟩ a3 ∧ Z.heap[r]? = some (.cells #[a0, a1, a2, a3] 25 (0, 0)) ∧ W.grownBy Z (some r) := by
  have u1 := heap_setCell_same W _ 0 _ 25 a0 h
  have u2 := heap_setCell_same _ _ 1 _ 25 a1 u1
  have u3 := heap_setCell_same _ _ 2 _ 25 a2 u2
  have u4 := heap_setCell_same _ _ 3 _ 25 a3 u3
  exact ⟨cells_at h rfl, cells_at u1 rfl, cells_at u2 rfl, cells_at u3 rfl, fun j => frozen_of_row W _ j _ _ h, _, rfl, u4, (((grown_set W _ 0 _).trans (grown_set _ _ 1 _)).trans (grown_set _ _ 2 _)).trans (grown_set _ _ 3 _)⟩
/-- What was set beside the parser, in a block that is new. -/
theorem grown_new {w W Z : World} {b r : Nat} (h : w.grownBy W (some b)) (hz : W.grownBy Z (some r)) (hr : w.heap.size ≤ r) : w.grownBy Z (some b) :=
  ⟨hz.os.trans h.os, hz.tape.trans h.tape, hz.output.trans h.output, Nat.le_trans h.size hz.size, fun k hk hn => (hz.block k (Nat.lt_of_lt_of_le hk h.size) (by simp; omega)).trans (h.block k hk hn)⟩
/-- The parser stays, where another block of nodes is set. -/
theorem PAt.beside {b lv r : Nat} {l : List Lx.Tok} {W Z : World} {c : Array Value} (h : PAt b l lv W) (hz : W.grownBy Z (some r)) (hr : W.heap[r]? = some (.cells c 25 (0, 0))) : PAt b l lv Z := by
  have hlt := h.lt
  obtain ⟨tb, o, cc, h1, ⟨tc, fr, h2⟩, h3, h4, h5, h6⟩ := h
  have h2l := (Array.getElem?_eq_some_iff.1 h2).1
  have hbr : b ≠ r := by
    rintro rfl
    rw [h3] at hr
    injection hr with q
    injection q with _ q _
    revert q
    decide
  have htr : tb ≠ r := by
    rintro rfl
    rw [h2] at hr
    injection hr with q
    injection q with _ q _
    revert q
    decide
  exact ⟨tb, o, cc, h1, ⟨tc, fr, (hz.block tb h2l (by simpa using htr)).trans h2⟩, (hz.block b hlt (by simpa using hbr)).trans h3, h4, h5, fun j u hu => (World.cell?_of_block (w := W) (a := ⟨tb, o + j, none⟩) (hz.block tb h2l (by simpa using htr))).trans (h6 j u hu)⟩

/-- What a rule's function ends with: the fault, or a node. -/
def PEnd (b lv : Nat) (J : Ps.Job) (l : List Lx.Tok) (w : World) (e : Ending) (w' : World) : Prop :=
  (∃ E i, Ps.Eats J l lv (.bad E i) ∧ e = pan E i) ∨ ∃ t l' v, Ps.Eats J l lv (.ok [t] l') ∧ OkL l' ∧ l'.length < l.length ∧ PAt b l' lv w' ∧ e = .returned v ∧ NodeR (newS w.heap.size w'.heap.size) w' v t
/-- The function F does the rule J, of at most m tokens. -/
def PDoes (F : Nat) (J : Ps.Job) (more : List Value) (m : Nat) : Prop := ∀ (b lv : Nat) (l : List Lx.Tok) (w : World), OkL l → l.length ≤ m → lv ≤ 120 → PAt b l lv w →
  Calls Tryz.prog F (Value.pointer (some ⟨b, 0, none⟩) :: more).toArray w fun e w' => w.grownBy w' (some b) ∧ PEnd b lv J l w e w'
end Go.Proofs.YtnndgjnihhafbaaGreatDoor

/-
  What stays while a rule's function goes: its result's box, its other boxes, its nodes.
-/
namespace Go.Proofs.YtnndgjnihhafbaaGreatDoor
open Go.RowKit Go.Shelf

def newX (a n : Nat) (X : List Nat) : Nat → Prop := fun k => a ≤ k ∧ k < n ∧ k ∉ X
/-- A function that began at w, over the parser at b, has come to W: its result's box is still empty. -/
structure Frm (w : World) (b : Nat) (W : World) : Prop where
  low : b < w.heap.size
  grown : w.grownBy W (some b)
  box : W.heap[w.heap.size]? = some (.cells #[.int .u8 0, .string ⟨#[]⟩, .int .i64 0, .slice none 0 0] 25 (0, 0))
theorem Frm.lt {w W : World} {b : Nat} (h : Frm w b W) : w.heap.size < W.heap.size := (Array.getElem?_eq_some_iff.1 h.box).1
theorem Frm.go {w W W' : World} {b : Nat} (h : Frm w b W) (hg : W.grownBy W' (some b)) : Frm w b W' :=
  ⟨h.low, h.grown.trans hg, (hg.block _ h.lt (by have := h.low; simp; omega)).trans h.box⟩
theorem Frm.below {w W W' : World} {b : Nat} (h : Frm w b W) (hb : Below W.heap.size W W') : Frm w b W' := h.go (grown_low hb)
theorem Frm.new {w : World} {b lv : Nat} {l : List Lx.Tok} (h : PAt b l lv w) : Frm w b (w.alloc (.cells #[.int .u8 0, .string ⟨#[]⟩, .int .i64 0, .slice none 0 0] 25)) :=
  ⟨h.lt, grown_low (below_new w _), World.alloc_heap_new w _⟩
/-- A node that the function has made. -/
structure NF (w W : World) (x : N1) (X : List Nat) : Prop where
  fit : x.Fit
  row : RowR (newX (w.heap.size + 1) W.heap.size X) W x.v x.kids
theorem NF.go {w W W' : World} {b : Nat} {x : N1} {X : List Nat} (h : NF w W x X) (hg : W.grownBy W' (some b)) (hb : b < w.heap.size) : NF w W' x X :=
  ⟨h.fit, h.row.keep (fun k hk => hg.block k hk.2.1 (by have := hk.1; simp; omega)) (fun _ hk => ⟨hk.1, Nat.lt_of_lt_of_le hk.2.1 hg.size, hk.2.2⟩)⟩
theorem NF.ex {w W : World} {x : N1} {X : List Nat} {q : Nat} (h : NF w W x X) (hq : W.heap.size ≤ q) : NF w W x (q :: X) :=
  ⟨h.fit, h.row.mono (fun k hk => ⟨hk.1, hk.2.1, fun e => by
    rcases List.mem_cons.1 e with rfl | e
    · have := hk.2.1; omega
    · exact hk.2.2 e⟩)⟩
theorem NF.set {w W Z : World} {x : N1} {X : List Nat} {q : Nat} (h : NF w W x X) (hz : W.grownBy Z (some q)) (hq : q ∈ X) : NF w Z x X :=
  ⟨h.fit, h.row.keep (fun k hk => hz.block k hk.2.1 (by simp; rintro rfl; exact hk.2.2 hq)) (fun _ hk => ⟨hk.1, Nat.lt_of_lt_of_le hk.2.1 hz.size, hk.2.2⟩)⟩
/-- What a call that began at W has told. -/
theorem NF.of_end {w W W' : World} {b : Nat} {X : List Nat} {v : Value} {t : Tr} (h : NodeR (newS W.heap.size W'.heap.size) W' v t) (hF : Frm w b W) (hX : ∀ q ∈ X, q < W.heap.size) :
    ∃ k tx n a L c kids, v = .agg #[.int .u8 k, .string (Ln.bs tx), .int .i64 n, .slice a L c] ∧ t = .mk k tx n kids ∧ NF w W' ⟨k, tx, n, .slice a L c, kids⟩ X := by
  obtain ⟨⟨k, tx, n, v0, kids⟩, rfl, rfl, hf, hr⟩ := h
  obtain ⟨ka, kc, e⟩ := hr.slice
  simp only at e
  subst e
  refine ⟨k, tx, n, ka, _, kc, kids, rfl, rfl, hf, hr.mono (fun q hq => ⟨?_, hq.2, fun e => ?_⟩)⟩
  · have := hF.lt; have := hq.1; omega
  · have := hX q e; have := hq.1; omega
/-- A box that the function has made. -/
def BX (w W : World) (q : Nat) (x : N1) : Prop := w.heap.size < q ∧ W.heap[q]? = some (.cells x.cells.toArray 25 (0, 0))
theorem BX.go {w W W' : World} {b q : Nat} {x : N1} (h : BX w W q x) (hg : W.grownBy W' (some b)) (hb : b < w.heap.size) : BX w W' q x :=
  ⟨h.1, (hg.block q (Array.getElem?_eq_some_iff.1 h.2).1 (by have := h.1; simp; omega)).trans h.2⟩
theorem BX.lt {w W : World} {q : Nat} {x : N1} (h : BX w W q x) : q < W.heap.size := (Array.getElem?_eq_some_iff.1 h.2).1
theorem BX.new {w W : World} {b : Nat} (h : Frm w b W) (x : N1) : BX w (W.alloc (.cells x.cells.toArray 25)) W.heap.size x := ⟨h.lt, World.alloc_heap_new W _⟩
theorem BX.cs {w W : World} {q : Nat} {k : Int} {tx : List UInt8} {n : Int} {v : Value} {kids : List Tr} (h : BX w W q ⟨k, tx, n, v, kids⟩) : W.cell? ⟨q, 0, none⟩ = some (.int .u8 k) ∧ W.cell? ⟨q, 1, none⟩ = some (.string (Ln.bs tx)) ∧ W.cell? ⟨q, 2, none⟩ = some (.int .i64 n) ∧ W.cell? ⟨q, 3, none⟩ = some v :=
  ⟨cells_at h.2 rfl, cells_at h.2 rfl, cells_at h.2 rfl, cells_at h.2 rfl⟩
/-- Nodes in a row that is new. -/
theorem NF.kids {w W : World} {b : Nat} {X : List Nat} (hF : Frm w b W) (xs : List N1) (hxs : ∀ x ∈ xs, NF w W x X) (hX : ∀ q ∈ X, q < W.heap.size) (hl : xs.length ≤ 1000) (k : Int) (tx : List UInt8) (n : Int) (hk : 0 ≤ k ∧ k ≤ 255) (ht : tx.length ≤ 1000000) (hn : 0 ≤ n ∧ n ≤ 9223372036854775807) :
    NF w (W.alloc (.cells (n1Cells xs).toArray 25)) ⟨k, tx, n, .slice (some ⟨W.heap.size, 0, none⟩) xs.length xs.length, xs.map N1.tr⟩ X := by
  have hb := below_new W (.cells (n1Cells xs).toArray 25)
  have hnew := World.alloc_heap_new W (.cells (n1Cells xs).toArray 25)
  have hlt := hF.lt
  refine ⟨⟨hk, Nat.le_trans ht (by decide), by show -9223372036854775808 ≤ n ∧ n ≤ 9223372036854775807; omega⟩, .mk xs rfl ⟨_, xs.length, W.heap.size, 0, rfl, ⟨Nat.le_refl _, fun e => by cases e⟩, fun _ => ⟨rfl, ⟨by omega, (Array.getElem?_eq_some_iff.1 hnew).1, fun e => by have := hX _ e; omega⟩⟩, fun j u hu => ?_⟩ (by omega) (fun x hx => (hxs x hx).fit) (fun x hx => (hxs x hx).row.keep (fun k hk => hb.block k hk.2.1) (fun _ hk => ⟨hk.1, Nat.lt_of_lt_of_le hk.2.1 hb.size, hk.2.2⟩))⟩
  rw [Lib.cell_of_heap hnew, Nat.zero_add, List.getElem?_toArray]
  exact hu
theorem NF.leaf (w W : World) (X : List Nat) (k : Int) (tx : List UInt8) (n : Int) (hk : 0 ≤ k ∧ k ≤ 255) (ht : tx.length ≤ 1000000) (hn : 0 ≤ n ∧ n ≤ 9223372036854775807) : NF w W ⟨k, tx, n, .slice none 0 0, []⟩ X :=
  ⟨⟨hk, Nat.le_trans ht (by decide), by show -9223372036854775808 ≤ n ∧ n ≤ 9223372036854775807; omega⟩, rowR_nil _ _⟩
/-- The result, stored in its box. -/
theorem Frm.fin {w W : World} {b lv : Nat} {l : List Lx.Tok} {X : List Nat} {k : Int} {tx : List UInt8} {n : Int} {sa : Option Addr} {sL sc : Nat} {kids : List Tr} (h : Frm w b W) (hP : PAt b l lv W) (hx : NF w W ⟨k, tx, n, .slice sa sL sc, kids⟩ X) :
    W.cell? ⟨w.heap.size, 0, none⟩ = some (.int .u8 0) ∧ (W.setCell ⟨w.heap.size, 0, none⟩ (.int .u8 k)).cell? ⟨w.heap.size, 1, none⟩ = some (.string ⟨#[]⟩) ∧ ((W.setCell ⟨w.heap.size, 0, none⟩ (.int .u8 k)).setCell ⟨w.heap.size, 1, none⟩ (.string (Ln.bs tx))).cell? ⟨w.heap.size, 2, none⟩ = some (.int .i64 0) ∧ (((W.setCell ⟨w.heap.size, 0, none⟩ (.int .u8 k)).setCell ⟨w.heap.size, 1, none⟩ (.string (Ln.bs tx))).setCell ⟨w.heap.size, 2, none⟩ (.int .i64 n)).cell? ⟨w.heap.size, 3, none⟩ = some (.slice none 0 0) ∧ (∀ j, W.frozen? ⟨w.heap.size, j, none⟩ = false) ∧
      ∃ Z, Z = (((W.setCell ⟨w.heap.size, 0, none⟩ (.int .u8 k)).setCell ⟨w.heap.size, 1, none⟩ (.string (Ln.bs tx))).setCell ⟨w.heap.size, 2, none⟩ (.int .i64 n)).setCell ⟨w.heap.size, 3, none⟩ (.slice sa sL sc) ∧ (Z.cell? ⟨w.heap.size, 0, none⟩ = some (.int .u8 k) ∧ Z.cell? ⟨w.heap.size, 1, none⟩ = some (.string (Ln.bs tx)) ∧ Z.cell? ⟨w.heap.size, 2, none⟩ = some (.int .i64 n) ∧ Z.cell? ⟨w.heap.size, 3, none⟩ = some (.slice sa sL sc)) ∧
        w.grownBy Z (some b) ∧ PAt b l lv Z ∧ NodeR (newS w.heap.size Z.heap.size) Z (.agg #[.int .u8 k, .string (Ln.bs tx), .int .i64 n, .slice sa sL sc]) (.mk k tx n kids) := by
  obtain ⟨p0, p1, p2, p3, pf, Z, hZ, hZr, gz⟩ := box_put h.box (.int .u8 k) (.string (Ln.bs tx)) (.int .i64 n) (.slice sa sL sc)
  refine ⟨p0, p1, p2, p3, pf, Z, hZ, ⟨cells_at hZr rfl, cells_at hZr rfl, cells_at hZr rfl, cells_at hZr rfl⟩, grown_new h.grown gz (Nat.le_refl _), hP.beside gz h.box, ⟨k, tx, n, .slice sa sL sc, kids⟩, rfl, rfl, hx.fit, hx.row.keep (fun k hk => gz.block k hk.2.1 (by have := hk.1; simp; omega)) (fun k hk => ⟨by have := hk.1; omega, Nat.lt_of_lt_of_le hk.2.1 gz.size⟩)⟩
end Go.Proofs.YtnndgjnihhafbaaGreatDoor

/-
  The walks of the parser's expressions.
-/
namespace Go.Proofs.YtnndgjnihhafbaaGreatDoor
open Go.RowKit Go.Shelf

attribute [local go_sem] Oper.semAt_some

/-- A function's result, in a box that is new. -/
theorem fin_put {w W : World} {b lv r a : Nat} {l : List Lx.Tok} {k : Int} {tx : List UInt8} {n : Int} {sa : Option Addr} {sL sc : Nat} {t : Tr} {c0 c1 c2 c3 : Value} (hg : w.grownBy W (some b)) (hP : PAt b l lv W) (hr : W.heap[r]? = some (.cells #[c0, c1, c2, c3] 25 (0, 0))) (hwr : w.heap.size ≤ r) (hra : r < a) (hwa : w.heap.size ≤ a)
    (hn : NodeR (newS a W.heap.size) W (.agg #[.int .u8 k, .string (Ln.bs tx), .int .i64 n, .slice sa sL sc]) t) :
    W.cell? ⟨r, 0, none⟩ = some c0 ∧ (W.setCell ⟨r, 0, none⟩ (.int .u8 k)).cell? ⟨r, 1, none⟩ = some c1 ∧ ((W.setCell ⟨r, 0, none⟩ (.int .u8 k)).setCell ⟨r, 1, none⟩ (.string (Ln.bs tx))).cell? ⟨r, 2, none⟩ = some c2 ∧ (((W.setCell ⟨r, 0, none⟩ (.int .u8 k)).setCell ⟨r, 1, none⟩ (.string (Ln.bs tx))).setCell ⟨r, 2, none⟩ (.int .i64 n)).cell? ⟨r, 3, none⟩ = some c3 ∧ (∀ j, W.frozen? ⟨r, j, none⟩ = false) ∧
      ∃ Z, Z = (((W.setCell ⟨r, 0, none⟩ (.int .u8 k)).setCell ⟨r, 1, none⟩ (.string (Ln.bs tx))).setCell ⟨r, 2, none⟩ (.int .i64 n)).setCell ⟨r, 3, none⟩ (.slice sa sL sc) ∧ (Z.cell? ⟨r, 0, none⟩ = some (.int .u8 k) ∧ Z.cell? ⟨r, 1, none⟩ = some (.string (Ln.bs tx)) ∧ Z.cell? ⟨r, 2, none⟩ = some (.int .i64 n) ∧ Z.cell? ⟨r, 3, none⟩ = some (.slice sa sL sc)) ∧
        w.grownBy Z (some b) ∧ PAt b l lv Z ∧ NodeR (newS w.heap.size Z.heap.size) Z (.agg #[.int .u8 k, .string (Ln.bs tx), .int .i64 n, .slice sa sL sc]) t := by
  obtain ⟨p0, p1, p2, p3, pf, Z, hZ, hZr, gz⟩ := box_put hr (.int .u8 k) (.string (Ln.bs tx)) (.int .i64 n) (.slice sa sL sc)
  refine ⟨p0, p1, p2, p3, pf, Z, hZ, ⟨cells_at hZr rfl, cells_at hZr rfl, cells_at hZr rfl, cells_at hZr rfl⟩, grown_new hg gz hwr, hP.beside gz hr, ?_⟩
  exact hn.step (fun k hk hl => gz.block k hl (by simp; omega)) gz.size hwa

set_option maxRecDepth 100000 in
set_option maxHeartbeats 4000000 in
theorem pwithin_of (m : Nat) (hE : PDoes 174 (.bin 0) [] m) (x y : List UInt8) (hx : x ≠ []) (hy : y ≠ []) : PDoes 180 (.within x y) [.string (Ln.bs x), .string (Ln.bs y)] (m + 1) := by
  intro b lv l w hl hm hlv hP
  obtain ⟨A, hA⟩ : ∃ A, A = w.alloc (.cells #[.int .u8 0, .string ⟨#[]⟩, .int .i64 0, .slice none 0 0] 25) := ⟨_, rfl⟩
  obtain ⟨V, hV⟩ : ∃ V, V = A.alloc (.cells #[.string (Ln.bs x)] 9) := ⟨_, rfl⟩
  have sA : A.heap.size = w.heap.size + 1 := by rw [hA, World.size_alloc]
  have sV : V.heap.size = w.heap.size + 1 + 1 := by rw [hV, World.size_alloc, sA]
  have bA : Below w.heap.size w A := hA ▸ below_new w _
  have bV : Below A.heap.size A V := hV ▸ below_new A _
  have bwV : Below w.heap.size w V := below_then bA bV
  have hA0 : A.heap[w.heap.size]? = some (.cells #[.int .u8 0, .string ⟨#[]⟩, .int .i64 0, .slice none 0 0] 25 (0, 0)) := by rw [hA]; exact World.alloc_heap_new w _
  have hV0 : V.heap[w.heap.size]? = some (.cells #[.int .u8 0, .string ⟨#[]⟩, .int .i64 0, .slice none 0 0] 25 (0, 0)) := (bV.block _ (by omega)).trans hA0
  have rV : RowLow V.heap.size V (.slice (some ⟨w.heap.size + 1, 0, none⟩) 1 1) [x] := by rw [hV, ← sA]; exact CellsLow.lit A [txtV x] 9 1
  have hPV : PAt b l lv V := hP.below bwV
  have hbw : b < w.heap.size := hP.lt
  have HB : Hid (Below w.heap.size w V ∧ V.heap.size = w.heap.size + 1 + 1 ∧ V.heap[w.heap.size]? = some (.cells #[.int .u8 0, .string ⟨#[]⟩, .int .i64 0, .slice none 0 0] 25 (0, 0)) ∧ b < w.heap.size) := ⟨bwV, sV, hV0, hbw⟩
  have HL : Hid (OkL l) := hl
  have HE : Hid (PDoes 174 (.bin 0) [] m) := hE
  clear bA bV bwV hA0 hV0 sA sV hP hE hbw
  go_enter Tryz.func180, Tryz.ntmps180
  go_wp2_with fail
  rw [← hA, ← hV]
  clear hA hV
  cases hs : Ps.sees l [x]
  · have HO : Hid (_) := popen_no b lv _ l [x] _ V hPV hl rV (Nat.le_refl _) (by simp) hs
    clear hPV rV
    refine Calls.mono HO.out ?_
    rintro e w1 ⟨rfl, hg⟩
    exact ⟨rfl, (grown_low HB.out.1).trans hg, .inl ⟨_, _, ⟨1, by simp [Ps.go, Ps.opn, hs, Ps.bad]⟩, rfl⟩⟩
  by_cases h120 : lv = 120
  · subst h120
    have HO : Hid (_) := popen_deep b _ l [x] _ V hPV hl rV (Nat.le_refl _) (by simp) hs
    clear hPV rV
    refine Calls.mono HO.out ?_
    rintro e w1 ⟨rfl, hg⟩
    exact ⟨rfl, (grown_low HB.out.1).trans hg, .inl ⟨_, _, ⟨1, by simp [Ps.go, Ps.opn, hs, Ps.bad]⟩, rfl⟩⟩
  have HO : Hid (_) := popen_yes b lv _ l [x] _ V hPV hl rV (Nat.le_refl _) (by simp) hs (nil_not x hx) (by omega)
  obtain ⟨hl1, hlen1⟩ := hl.sees hs (nil_not x hx)
  clear hPV rV
  refine Calls.mono HO.out ?_
  rintro e w1 ⟨rfl, hg1, hP1⟩
  have HE1 : Hid (_) := HE.out b (lv + 1) l.tail w1 hl1 (by omega) (by omega) hP1
  have G1 : Hid (V.grownBy w1 (some b)) := hg1
  clear HO hg1 hP1
  go_wp2_with fail
  refine Calls.mono HE1.out ?_
  rintro e w2 ⟨hg2, ⟨E, i, ⟨n, hn⟩, rfl⟩ | ⟨t, l', v, ⟨n, hn⟩, hl2, hlen2, hP2, rfl, hnode⟩⟩
  · exact ⟨rfl, ((grown_low HB.out.1).trans G1.out).trans hg2, .inl ⟨_, _, ⟨n + 1, by simp [Ps.go, Ps.opn, hs, h120, hn, Ps.bnd]⟩, rfl⟩⟩
  obtain ⟨k, tx, q, sa, sL, sc, rfl⟩ := hnode.pshape
  obtain ⟨hb1, hb2, hb3, hb4⟩ := HB.out
  have hG2 : w.grownBy w2 (some b) := ((grown_low hb1).trans G1.out).trans hg2
  have hs1 : V.heap.size ≤ w1.heap.size := G1.out.size
  have hr2 : w2.heap[w.heap.size]? = some (.cells #[.int .u8 0, .string ⟨#[]⟩, .int .i64 0, .slice none 0 0] 25 (0, 0)) := (hg2.block _ (by omega) (by simp; omega)).trans ((G1.out.block _ (by omega) (by simp; omega)).trans hb3)
  obtain ⟨Y, hY⟩ : ∃ Y, Y = w2.alloc (.cells #[.int .u8 k, .string (Ln.bs tx), .int .i64 q, .slice sa sL sc] 25) := ⟨_, rfl⟩
  have bY : Below w2.heap.size w2 Y := hY ▸ below_new w2 _
  have hYq : Y.heap[w2.heap.size]? = some (.cells #[.int .u8 k, .string (Ln.bs tx), .int .i64 q, .slice sa sL sc] 25 (0, 0)) := by rw [hY]; exact World.alloc_heap_new w2 _
  have hPY := hP2.below bY
  have hlt2 : w1.heap.size ≤ w2.heap.size := hg2.size
  have H2 : Hid (w.grownBy Y (some b) ∧ NodeR (newS w1.heap.size Y.heap.size) Y (.agg #[.int .u8 k, .string (Ln.bs tx), .int .i64 q, .slice sa sL sc]) t ∧ Y.heap[w.heap.size]? = some (.cells #[.int .u8 0, .string ⟨#[]⟩, .int .i64 0, .slice none 0 0] 25 (0, 0)) ∧ w.heap.size + 1 < w1.heap.size ∧ w2.heap.size < Y.heap.size ∧ b < w.heap.size ∧ w1.heap.size ≤ w2.heap.size ∧ Y.heap[w2.heap.size]? = some (.cells #[.int .u8 k, .string (Ln.bs tx), .int .i64 q, .slice sa sL sc] 25 (0, 0))) :=
    ⟨grown_below hG2 bY, hnode.low bY (Nat.le_refl _), (bY.block _ (by omega)).trans hr2, by omega, (Array.getElem?_eq_some_iff.1 hYq).1, hb4, hlt2, hYq⟩
  clear HE1 hg2 hnode hP2 hG2 hr2 bY hYq G1 hb1 hb2 hb3 hb4 hs1 hlt2
  cases hs2 : Ps.sees l' [y]
  · have HC : Hid (_) := pclose_no b (lv + 1) l' y Y hPY hl2 hs2
    clear hPY
    go_wp2_with fail
    rw [← hY]
    clear hY
    refine Calls.mono HC.out ?_
    rintro e w3 ⟨rfl, hg⟩
    exact ⟨rfl, H2.out.1.trans hg, .inl ⟨_, _, ⟨n + 1, by simp [Ps.go, Ps.opn, hs, h120, hn, Ps.bnd, Ps.want, hs2, Ps.bad]⟩, rfl⟩⟩
  have HC : Hid (_) := pclose_yes b lv l' y Y hPY hl2 hs2 hy (by omega)
  obtain ⟨hl3, hlen3⟩ := hl2.sees hs2 (nil_not y hy)
  clear hPY
  go_wp2_with fail
  rw [← hY]
  clear hY
  refine Calls.mono HC.out ?_
  rintro e w3 ⟨rfl, hg3, hP3⟩
  obtain ⟨g1, g2, g3, g4, g5, g6, g7, g8⟩ := H2.out
  have hr3 : w3.heap[w.heap.size]? = some (.cells #[.int .u8 0, .string ⟨#[]⟩, .int .i64 0, .slice none 0 0] 25 (0, 0)) := (hg3.block _ (by omega) (by simp; omega)).trans g3
  have hq3 : w3.heap[w2.heap.size]? = some (.cells #[.int .u8 k, .string (Ln.bs tx), .int .i64 q, .slice sa sL sc] 25 (0, 0)) := (hg3.block _ g5 (by simp; omega)).trans g8
  have f0 : w3.cell? ⟨w2.heap.size, 0, none⟩ = some (.int .u8 k) := cells_at hq3 rfl
  have f1 : w3.cell? ⟨w2.heap.size, 1, none⟩ = some (.string (Ln.bs tx)) := cells_at hq3 rfl
  have f2 : w3.cell? ⟨w2.heap.size, 2, none⟩ = some (.int .i64 q) := cells_at hq3 rfl
  have f3 : w3.cell? ⟨w2.heap.size, 3, none⟩ = some (.slice sa sL sc) := cells_at hq3 rfl
  obtain ⟨p0, p1, p2, p3, pf, Z, hZ, ⟨r0, r1, r2, r3⟩, z1, z2, z3⟩ := fin_put (w := w) (g1.trans hg3) hP3 hr3 (Nat.le_refl _) (by omega) (by omega) (g2.grown hg3 (by omega) (Nat.le_refl _))
  have HF : Hid (w.grownBy Z (some b) ∧ PEnd b lv (.within x y) l w (.returned (.agg #[.int .u8 k, .string (Ln.bs tx), .int .i64 q, .slice sa sL sc])) Z) :=
    ⟨z1, .inr ⟨t, _, _, ⟨n + 1, by simp [Ps.go, Ps.opn, hs, h120, hn, Ps.bnd, Ps.want, hs2]⟩, hl3, by omega, z2, rfl, z3⟩⟩
  clear HC hg3 hP3 hr3 hq3 g1 g2 g3 g4 g5 g6 g7 g8 z1 z2 z3 H2
  go_wp2
  rw [← hZ]
  refine bodyPost_ret (v := .agg #[.int .u8 k, .string (Ln.bs tx), .int .i64 q, .slice sa sL sc]) (by simp [results, Tryz.results180, go_sem, r0, r1, r2, r3]) rfl HF.out
end Go.Proofs.YtnndgjnihhafbaaGreatDoor

/-
  The walks of the parser's expressions: what begins with a sign, a name, a number.
-/
namespace Go.Proofs.YtnndgjnihhafbaaGreatDoor
open Go.RowKit Go.Shelf

attribute [local go_sem] Oper.semAt_some
attribute [local simp] Ps.go Ps.opn Ps.want Ps.name Ps.bnd Ps.bad N1.tr

set_option maxRecDepth 100000 in
set_option maxHeartbeats 4000000 in
theorem pparam_any (m : Nat)  : PDoes 152 .param [] (m + 1) := by
  intro b lv l w hl hm hlv hP
  obtain ⟨A, hA⟩ : ∃ A, A = w.alloc (.cells #[.int .u8 0, .string ⟨#[]⟩, .int .i64 0, .slice none 0 0] 25) := ⟨_, rfl⟩
  have FR : Hid (Frm w b A) := hA ▸ Frm.new hP
  have PA : Hid (PAt b l lv A) := hA ▸ hP.below (below_new w _)
  clear hP 
  go_enter Tryz.func152, Tryz.ntmps152
  go_wp2_with fail
  rw [← hA]
  clear hA
  by_cases hk1 : (Ps.hd l).kind = 1
  case neg =>
    have HN2 : Hid (_) := pname_no b (lv) l A PA.out hl hk1
    refine Calls.mono HN2.out ?_
    rintro e u4 ⟨rfl, hg3⟩
    exact ⟨rfl, FR.out.grown.trans hg3, .inl ⟨_, _, ⟨1, by simp [hk1]⟩, rfl⟩⟩
  obtain ⟨ol5, ln6⟩ := hl.tail (.inl (by rw [hk1]; decide))
  have tl7 : (Ps.hd l).text.length ≤ 1000000 := hl.hd.1
  have HN2 : Hid (_) := pname_yes b (lv) l A PA.out hl hk1
  refine Calls.mono HN2.out ?_
  rintro e w8 ⟨rfl, hg9, hp10⟩
  replace FR : Hid (Frm w b w8) := FR.out.go hg9
  replace PA : Hid (PAt b l.tail (lv) w8) := hp10
  clear HN2 hg9 hp10
  have Nx : Hid (NF w w8 ⟨4, (Ps.hd l).text, 0, .slice none 0 0, []⟩ []) := NF.leaf w w8 [] 4 (Ps.hd l).text 0 (by omega) (tl7) (by omega)
  go_wp2_with fail
  have HD11 : Hid (_) := pnode_any 4 (Ln.bs ((Ps.hd l).text)) none 0 0 w8
  refine Calls.mono HD11.out ?_
  rintro e w12 ⟨rfl, hb13⟩
  replace Nx : Hid (NF w w12 ⟨4, (Ps.hd l).text, 0, .slice none 0 0, []⟩ []) := Nx.out.go (grown_low hb13) FR.out.low
  replace FR : Hid (Frm w b w12) := FR.out.go (grown_low hb13)
  replace PA : Hid (PAt b l.tail (lv) w12) := PA.out.below hb13
  clear HD11 hb13
  obtain ⟨p0, p1, p2, p3, pf, Z, hZ, ⟨r0, r1, r2, r3⟩, z1, z2, z3⟩ := FR.out.fin PA.out Nx.out
  have HF : Hid (w.grownBy Z (some b) ∧ PEnd b lv .param l w (.returned (.agg #[.int .u8 4, .string (Ln.bs ((Ps.hd l).text)), .int .i64 0, .slice none 0 0])) Z) := ⟨z1, .inr ⟨_, _, _, ⟨1, by simp [hk1]⟩, ol5, by omega, z2, rfl, z3⟩⟩
  clear z1 z2 z3 
  go_wp2
  rw [← hZ]
  refine bodyPost_ret (v := .agg #[.int .u8 4, .string (Ln.bs ((Ps.hd l).text)), .int .i64 0, .slice none 0 0]) (by simp [results, Tryz.results152, go_sem, r0, r1, r2, r3]) rfl HF.out

set_option maxRecDepth 100000 in
set_option maxHeartbeats 4000000 in
theorem parray_of (m : Nat) (hE : PDoes 174 (.bin 0) [] m) : PDoes 185 .array [] (m + 1) := by
  intro b lv l w hl hm hlv hP
  obtain ⟨A, hA⟩ : ∃ A, A = w.alloc (.cells #[.int .u8 0, .string ⟨#[]⟩, .int .i64 0, .slice none 0 0] 25) := ⟨_, rfl⟩
  have FR : Hid (Frm w b A) := hA ▸ Frm.new hP
  have PA : Hid (PAt b l lv A) := hA ▸ hP.below (below_new w _)
  have HhE : Hid (PDoes 174 (.bin 0) [] m) := hE
  clear hP hE
  go_enter Tryz.func185, Tryz.ntmps185
  have sz1 : A.heap.size = w.heap.size + 1 := by rw [hA, World.size_alloc]
  obtain ⟨V2, hV2⟩ : ∃ V, V = A.alloc (.cells #[.string ⟨#[91]⟩] 9) := ⟨_, rfl⟩
  have bV2 : Below A.heap.size A V2 := hV2 ▸ below_new A _
  have rV2 : RowLow V2.heap.size V2 (.slice (some ⟨w.heap.size + 1, 0, none⟩) 1 1) [[91]] := by rw [hV2, ← sz1]; exact CellsLow.lit A [txtV [91]] 9 1
  replace FR : Hid (Frm w b V2) := FR.out.go (grown_low bV2)
  replace PA : Hid (PAt b l (lv) V2) := PA.out.below bV2
  clear bV2 sz1
  go_wp2_with fail
  rw [← hA, ← hV2]
  clear hA hV2
  cases hs3 : Ps.sees l [[91]]
  · skip
    have HO4 : Hid (_) := popen_no b (lv) _ l [[91]] _ V2 PA.out hl rV2 (Nat.le_refl _) (by simp) hs3
    refine Calls.mono HO4.out ?_
    rintro e u6 ⟨rfl, hg5⟩
    exact ⟨rfl, FR.out.grown.trans hg5, .inl ⟨_, _, ⟨1, by simp [hs3]⟩, rfl⟩⟩
  by_cases h1207 : lv = 120
  · skip
    have PB : Hid (PAt b l 120 V2) := by have := PA.out; rwa [h1207] at this
    have HO4 : Hid (_) := popen_deep b _ l [[91]] _ V2 PB.out hl rV2 (Nat.le_refl _) (by simp) hs3
    refine Calls.mono HO4.out ?_
    rintro e u9 ⟨rfl, hg8⟩
    exact ⟨rfl, FR.out.grown.trans hg8, .inl ⟨_, _, ⟨1, by simp [hs3, h1207]⟩, rfl⟩⟩
  obtain ⟨ol10, ln11⟩ := hl.sees hs3 (by decide)
  have HO4 : Hid (_) := popen_yes b (lv) _ l [[91]] _ V2 PA.out hl rV2 (Nat.le_refl _) (by simp) hs3 (by decide) (by omega)
  refine Calls.mono HO4.out ?_
  rintro e w12 ⟨rfl, hg13, hp14⟩
  replace FR : Hid (Frm w b w12) := FR.out.go hg13
  replace PA : Hid (PAt b l.tail (lv + 1) w12) := hp14
  clear HO4 hg13 hp14 rV2
  go_wp2_with fail
  have HC15 : Hid (_) := HhE.out b (lv + 1) l.tail w12 ol10 (by omega) (by omega) PA.out
  refine Calls.mono HC15.out ?_
  rintro e w16 ⟨hg17, ⟨E, i, ⟨n18, hn19⟩, rfl⟩ | ⟨t, l26, v, ⟨n18, hn19⟩, ol22, ln23, hp24, rfl, nd25⟩⟩
  · skip
    exact ⟨rfl, FR.out.grown.trans hg17, .inl ⟨_, _, ⟨n18 + 1, by have e0 := Ps.go_le (show n18 ≤ n18 by omega) hn19; simp [hs3, h1207, e0]⟩, rfl⟩⟩
  obtain ⟨xk, xt, xn, xa, xL, xc, xkids, rfl, rfl, nf⟩ := NF.of_end (X := []) nd25 FR.out (by simp)
  replace FR : Hid (Frm w b w16) := FR.out.go hg17
  replace PA : Hid (PAt b l26 (lv + 1) w16) := hp24
  have Nx : Hid (NF w w16 ⟨xk, xt, xn, .slice xa xL xc, xkids⟩ []) := nf
  clear nf HC15 hg17 hp24 nd25
  obtain ⟨Y27, hY27⟩ : ∃ V, V = w16.alloc (.cells #[.int .u8 xk, .string (Ln.bs xt), .int .i64 xn, .slice xa xL xc] 25) := ⟨_, rfl⟩
  have bY27 : Below w16.heap.size w16 Y27 := hY27 ▸ below_new w16 _
  have nb : BX w Y27 (w16.heap.size) ⟨xk, xt, xn, .slice xa xL xc, xkids⟩ := by rw [hY27]; exact BX.new FR.out ⟨xk, xt, xn, .slice xa xL xc, xkids⟩
  replace Nx : Hid (NF w w16 ⟨xk, xt, xn, .slice xa xL xc, xkids⟩ [w16.heap.size]) := Nx.out.ex (Nat.le_refl _)
  replace Nx : Hid (NF w Y27 ⟨xk, xt, xn, .slice xa xL xc, xkids⟩ [w16.heap.size]) := Nx.out.go (grown_low bY27) FR.out.low
  replace FR : Hid (Frm w b Y27) := FR.out.go (grown_low bY27)
  replace PA : Hid (PAt b l26 (lv + 1) Y27) := PA.out.below bY27
  have Bx : Hid (BX w Y27 (w16.heap.size) ⟨xk, xt, xn, .slice xa xL xc, xkids⟩) := nb
  clear nb bY27
  go_wp2_with fail
  rw [← hY27]
  clear hY27
  cases hs28 : Ps.sees l26 [[59]]
  · skip
    have HW29 : Hid (_) := pwant_no b (lv + 1) l26 [59] Y27 PA.out ol22 hs28
    refine Calls.mono HW29.out ?_
    rintro e u31 ⟨rfl, hg30⟩
    exact ⟨rfl, FR.out.grown.trans hg30, .inl ⟨_, _, ⟨n18 + 1, by have e0 := Ps.go_le (show n18 ≤ n18 by omega) hn19; simp [hs3, h1207, hs28, e0]⟩, rfl⟩⟩
  obtain ⟨ol32, ln33⟩ := ol22.sees hs28 (nil_not [59] (by decide))
  have HW29 : Hid (_) := pwant_yes b (lv + 1) l26 [59] Y27 PA.out ol22 hs28 (by decide)
  refine Calls.mono HW29.out ?_
  rintro e w34 ⟨rfl, hg35, hp36⟩
  replace Nx : Hid (NF w w34 ⟨xk, xt, xn, .slice xa xL xc, xkids⟩ [w16.heap.size]) := Nx.out.go hg35 FR.out.low
  replace Bx : Hid (BX w w34 (w16.heap.size) ⟨xk, xt, xn, .slice xa xL xc, xkids⟩) := Bx.out.go hg35 FR.out.low
  replace FR : Hid (Frm w b w34) := FR.out.go hg35
  replace PA : Hid (PAt b l26.tail (lv + 1) w34) := hp36
  clear HW29 hg35 hp36
  go_wp2_with fail
  have HC37 : Hid (_) := HhE.out b (lv + 1) l26.tail w34 ol32 (by omega) (by omega) PA.out
  refine Calls.mono HC37.out ?_
  rintro e w38 ⟨hg39, ⟨E, i, ⟨n40, hn41⟩, rfl⟩ | ⟨t, l48, v, ⟨n40, hn41⟩, ol44, ln45, hp46, rfl, nd47⟩⟩
  · skip
    exact ⟨rfl, FR.out.grown.trans hg39, .inl ⟨_, _, ⟨n18 + n40 + 1, by have e0 := Ps.go_le (show n18 ≤ n18 + n40 by omega) hn19; have e1 := Ps.go_le (show n40 ≤ n18 + n40 by omega) hn41; simp [hs3, h1207, hs28, e0, e1]⟩, rfl⟩⟩
  have hX : ∀ q ∈ ([w16.heap.size] : List Nat), q < w34.heap.size := by
    intro q hq
    simp only [List.mem_cons, List.not_mem_nil, or_false] at hq
    subst hq
    exact Bx.out.lt
  obtain ⟨yk, yt, yn, ya, yL, yc, ykids, rfl, rfl, nf⟩ := NF.of_end (X := [w16.heap.size]) nd47 FR.out hX
  replace Nx : Hid (NF w w38 ⟨xk, xt, xn, .slice xa xL xc, xkids⟩ [w16.heap.size]) := Nx.out.go hg39 FR.out.low
  replace Bx : Hid (BX w w38 (w16.heap.size) ⟨xk, xt, xn, .slice xa xL xc, xkids⟩) := Bx.out.go hg39 FR.out.low
  replace FR : Hid (Frm w b w38) := FR.out.go hg39
  replace PA : Hid (PAt b l48 (lv + 1) w38) := hp46
  have Ny : Hid (NF w w38 ⟨yk, yt, yn, .slice ya yL yc, ykids⟩ [w16.heap.size]) := nf
  clear nf HC37 hg39 hp46 nd47 hX
  obtain ⟨Y49, hY49⟩ : ∃ V, V = w38.alloc (.cells #[.int .u8 yk, .string (Ln.bs yt), .int .i64 yn, .slice ya yL yc] 25) := ⟨_, rfl⟩
  have bY49 : Below w38.heap.size w38 Y49 := hY49 ▸ below_new w38 _
  have nb : BX w Y49 (w38.heap.size) ⟨yk, yt, yn, .slice ya yL yc, ykids⟩ := by rw [hY49]; exact BX.new FR.out ⟨yk, yt, yn, .slice ya yL yc, ykids⟩
  replace Nx : Hid (NF w w38 ⟨xk, xt, xn, .slice xa xL xc, xkids⟩ [w38.heap.size, w16.heap.size]) := Nx.out.ex (Nat.le_refl _)
  replace Ny : Hid (NF w w38 ⟨yk, yt, yn, .slice ya yL yc, ykids⟩ [w38.heap.size, w16.heap.size]) := Ny.out.ex (Nat.le_refl _)
  replace Nx : Hid (NF w Y49 ⟨xk, xt, xn, .slice xa xL xc, xkids⟩ [w38.heap.size, w16.heap.size]) := Nx.out.go (grown_low bY49) FR.out.low
  replace Ny : Hid (NF w Y49 ⟨yk, yt, yn, .slice ya yL yc, ykids⟩ [w38.heap.size, w16.heap.size]) := Ny.out.go (grown_low bY49) FR.out.low
  replace Bx : Hid (BX w Y49 (w16.heap.size) ⟨xk, xt, xn, .slice xa xL xc, xkids⟩) := Bx.out.go (grown_low bY49) FR.out.low
  replace FR : Hid (Frm w b Y49) := FR.out.go (grown_low bY49)
  replace PA : Hid (PAt b l48 (lv + 1) Y49) := PA.out.below bY49
  have By : Hid (BX w Y49 (w38.heap.size) ⟨yk, yt, yn, .slice ya yL yc, ykids⟩) := nb
  clear nb bY49
  go_wp2_with fail
  rw [← hY49]
  clear hY49
  cases hs50 : Ps.sees l48 [[93]]
  · skip
    have HW51 : Hid (_) := pclose_no b (lv + 1) l48 [93] Y49 PA.out ol44 hs50
    refine Calls.mono HW51.out ?_
    rintro e u53 ⟨rfl, hg52⟩
    exact ⟨rfl, FR.out.grown.trans hg52, .inl ⟨_, _, ⟨n18 + n40 + 1, by have e0 := Ps.go_le (show n18 ≤ n18 + n40 by omega) hn19; have e1 := Ps.go_le (show n40 ≤ n18 + n40 by omega) hn41; simp [hs3, h1207, hs28, hs50, e0, e1]⟩, rfl⟩⟩
  obtain ⟨ol54, ln55⟩ := ol44.sees hs50 (nil_not [93] (by decide))
  have HW51 : Hid (_) := pclose_yes b (lv) l48 [93] Y49 PA.out ol44 hs50 (by decide) (by omega)
  refine Calls.mono HW51.out ?_
  rintro e w56 ⟨rfl, hg57, hp58⟩
  replace Nx : Hid (NF w w56 ⟨xk, xt, xn, .slice xa xL xc, xkids⟩ [w38.heap.size, w16.heap.size]) := Nx.out.go hg57 FR.out.low
  replace Ny : Hid (NF w w56 ⟨yk, yt, yn, .slice ya yL yc, ykids⟩ [w38.heap.size, w16.heap.size]) := Ny.out.go hg57 FR.out.low
  replace By : Hid (BX w w56 (w38.heap.size) ⟨yk, yt, yn, .slice ya yL yc, ykids⟩) := By.out.go hg57 FR.out.low
  replace Bx : Hid (BX w w56 (w16.heap.size) ⟨xk, xt, xn, .slice xa xL xc, xkids⟩) := Bx.out.go hg57 FR.out.low
  replace FR : Hid (Frm w b w56) := FR.out.go hg57
  replace PA : Hid (PAt b l48.tail (lv) w56) := hp58
  clear HW51 hg57 hp58
  obtain ⟨f59, f60, f61, f62⟩ := Bx.out.cs
  obtain ⟨f63, f64, f65, f66⟩ := By.out.cs
  obtain ⟨R67, hR67⟩ : ∃ V, V = w56.alloc (.cells #[.int .u8 xk, .string (Ln.bs xt), .int .i64 xn, .slice xa xL xc, .int .u8 yk, .string (Ln.bs yt), .int .i64 yn, .slice ya yL yc] 25) := ⟨_, rfl⟩
  have bR67 : Below w56.heap.size w56 R67 := hR67 ▸ below_new w56 _
  have hX : ∀ q ∈ ([w38.heap.size, w16.heap.size] : List Nat), q < w56.heap.size := by
    intro q hq
    simp only [List.mem_cons, List.not_mem_nil, or_false] at hq
    rcases hq with rfl | rfl
    · exact By.out.lt
    · exact Bx.out.lt
  have nk : NF w R67 ⟨27, [], 0, .slice (some ⟨w56.heap.size, 0, none⟩) 2 2, [N1.tr ⟨xk, xt, xn, .slice xa xL xc, xkids⟩, N1.tr ⟨yk, yt, yn, .slice ya yL yc, ykids⟩]⟩ [w38.heap.size, w16.heap.size] := by
    rw [hR67]
    refine NF.kids FR.out [⟨xk, xt, xn, .slice xa xL xc, xkids⟩, ⟨yk, yt, yn, .slice ya yL yc, ykids⟩] (fun z hz => ?_) hX (by simp) 27 [] 0 (by omega) (by simp) (by omega)
    simp only [List.mem_cons, List.not_mem_nil, or_false] at hz
    rcases hz with rfl | rfl
    · exact Nx.out
    · exact Ny.out
  replace Nx : Hid (NF w R67 ⟨xk, xt, xn, .slice xa xL xc, xkids⟩ [w38.heap.size, w16.heap.size]) := Nx.out.go (grown_low bR67) FR.out.low
  replace Ny : Hid (NF w R67 ⟨yk, yt, yn, .slice ya yL yc, ykids⟩ [w38.heap.size, w16.heap.size]) := Ny.out.go (grown_low bR67) FR.out.low
  replace By : Hid (BX w R67 (w38.heap.size) ⟨yk, yt, yn, .slice ya yL yc, ykids⟩) := By.out.go (grown_low bR67) FR.out.low
  replace Bx : Hid (BX w R67 (w16.heap.size) ⟨xk, xt, xn, .slice xa xL xc, xkids⟩) := Bx.out.go (grown_low bR67) FR.out.low
  replace FR : Hid (Frm w b R67) := FR.out.go (grown_low bR67)
  replace PA : Hid (PAt b l48.tail (lv) R67) := PA.out.below bR67
  have Nz : Hid (NF w R67 ⟨27, [], 0, .slice (some ⟨w56.heap.size, 0, none⟩) 2 2, [N1.tr ⟨xk, xt, xn, .slice xa xL xc, xkids⟩, N1.tr ⟨yk, yt, yn, .slice ya yL yc, ykids⟩]⟩ [w38.heap.size, w16.heap.size]) := nk
  clear nk hX bR67
  go_wp2_with fail
  rw [← hR67]
  clear hR67
  have HD68 : Hid (_) := pnode_any 27 (Ln.bs []) (some ⟨w56.heap.size, 0, none⟩) 2 2 R67
  refine Calls.mono HD68.out ?_
  rintro e w69 ⟨rfl, hb70⟩
  replace Nx : Hid (NF w w69 ⟨xk, xt, xn, .slice xa xL xc, xkids⟩ [w38.heap.size, w16.heap.size]) := Nx.out.go (grown_low hb70) FR.out.low
  replace Ny : Hid (NF w w69 ⟨yk, yt, yn, .slice ya yL yc, ykids⟩ [w38.heap.size, w16.heap.size]) := Ny.out.go (grown_low hb70) FR.out.low
  replace Nz : Hid (NF w w69 ⟨27, [], 0, .slice (some ⟨w56.heap.size, 0, none⟩) 2 2, [N1.tr ⟨xk, xt, xn, .slice xa xL xc, xkids⟩, N1.tr ⟨yk, yt, yn, .slice ya yL yc, ykids⟩]⟩ [w38.heap.size, w16.heap.size]) := Nz.out.go (grown_low hb70) FR.out.low
  replace By : Hid (BX w w69 (w38.heap.size) ⟨yk, yt, yn, .slice ya yL yc, ykids⟩) := By.out.go (grown_low hb70) FR.out.low
  replace Bx : Hid (BX w w69 (w16.heap.size) ⟨xk, xt, xn, .slice xa xL xc, xkids⟩) := Bx.out.go (grown_low hb70) FR.out.low
  replace FR : Hid (Frm w b w69) := FR.out.go (grown_low hb70)
  replace PA : Hid (PAt b l48.tail (lv) w69) := PA.out.below hb70
  clear HD68 hb70
  clear f59 f60 f61 f62 f63 f64 f65 f66
  obtain ⟨p0, p1, p2, p3, pf, Z, hZ, ⟨r0, r1, r2, r3⟩, z1, z2, z3⟩ := FR.out.fin PA.out Nz.out
  have HF : Hid (w.grownBy Z (some b) ∧ PEnd b lv .array l w (.returned (.agg #[.int .u8 27, .string (Ln.bs []), .int .i64 0, .slice (some ⟨w56.heap.size, 0, none⟩) 2 2])) Z) := ⟨z1, .inr ⟨_, _, _, ⟨n18 + n40 + 1, by have e0 := Ps.go_le (show n18 ≤ n18 + n40 by omega) hn19; have e1 := Ps.go_le (show n40 ≤ n18 + n40 by omega) hn41; simp [hs3, h1207, hs28, hs50, e0, e1]⟩, ol54, by omega, z2, rfl, z3⟩⟩
  clear z1 z2 z3 
  go_wp2
  rw [← hZ]
  refine bodyPost_ret (v := .agg #[.int .u8 27, .string (Ln.bs []), .int .i64 0, .slice (some ⟨w56.heap.size, 0, none⟩) 2 2]) (by simp [results, Tryz.results185, go_sem, r0, r1, r2, r3]) rfl HF.out

set_option maxRecDepth 100000 in
set_option maxHeartbeats 4000000 in
theorem punary_of (m : Nat) (hU : PDoes 179 .unary [] m) (hS : PDoes 181 .suffix [] (m + 1)) : PDoes 179 .unary [] (m + 1) := by
  intro b lv l w hl hm hlv hP
  obtain ⟨A, hA⟩ : ∃ A, A = w.alloc (.cells #[.int .u8 0, .string ⟨#[]⟩, .int .i64 0, .slice none 0 0] 25) := ⟨_, rfl⟩
  have FR : Hid (Frm w b A) := hA ▸ Frm.new hP
  have PA : Hid (PAt b l lv A) := hA ▸ hP.below (below_new w _)
  have HhU : Hid (PDoes 179 .unary [] m) := hU
  have HhS : Hid (PDoes 181 .suffix [] (m + 1)) := hS
  clear hP hU hS
  go_enter Tryz.func179, Tryz.ntmps179
  have sz1 : A.heap.size = w.heap.size + 1 := by rw [hA, World.size_alloc]
  obtain ⟨V2, hV2⟩ : ∃ V, V = A.alloc (.cells #[.string ⟨#[45]⟩, .string ⟨#[33]⟩] 9) := ⟨_, rfl⟩
  have bV2 : Below A.heap.size A V2 := hV2 ▸ below_new A _
  have rV2 : RowLow V2.heap.size V2 (.slice (some ⟨w.heap.size + 1, 0, none⟩) 2 2) [[45], [33]] := by rw [hV2, ← sz1]; exact CellsLow.lit A [txtV [45], txtV [33]] 9 2
  replace FR : Hid (Frm w b V2) := FR.out.go (grown_low bV2)
  replace PA : Hid (PAt b l (lv) V2) := PA.out.below bV2
  clear bV2 sz1
  go_wp2_with fail
  rw [← hA, ← hV2]
  clear hA hV2
  have HS3 : Hid (_) := psees_any b (lv) _ l [[45], [33]] _ V2 PA.out hl rV2 (Nat.le_refl _) (by simp)
  refine Calls.mono HS3.out ?_
  rintro e w5 ⟨rfl, hb6⟩
  replace FR : Hid (Frm w b w5) := FR.out.go (grown_low hb6)
  replace PA : Hid (PAt b l (lv) w5) := PA.out.below hb6
  clear HS3 hb6 rV2
  cases hs4 : Ps.sees l [[45], [33]]
  · skip
    go_wp2_with fail
    have HC7 : Hid (_) := HhS.out b (lv) l w5 hl (by omega) (by omega) PA.out
    refine Calls.mono HC7.out ?_
    rintro e w8 ⟨hg9, ⟨E, i, ⟨n10, hn11⟩, rfl⟩ | ⟨t, l18, v, ⟨n10, hn11⟩, ol14, ln15, hp16, rfl, nd17⟩⟩
    · skip
      exact ⟨rfl, FR.out.grown.trans hg9, .inl ⟨_, _, ⟨n10 + 1, by have e0 := Ps.go_le (show n10 ≤ n10 by omega) hn11; simp [hs4, e0]⟩, rfl⟩⟩
    obtain ⟨xk, xt, xn, xa, xL, xc, xkids, rfl, rfl, nf⟩ := NF.of_end (X := []) nd17 FR.out (by simp)
    replace FR : Hid (Frm w b w8) := FR.out.go hg9
    replace PA : Hid (PAt b l18 (lv) w8) := hp16
    have Nx : Hid (NF w w8 ⟨xk, xt, xn, .slice xa xL xc, xkids⟩ []) := nf
    clear nf HC7 hg9 hp16 nd17
    obtain ⟨p0, p1, p2, p3, pf, Z, hZ, ⟨r0, r1, r2, r3⟩, z1, z2, z3⟩ := FR.out.fin PA.out Nx.out
    have HF : Hid (w.grownBy Z (some b) ∧ PEnd b lv .unary l w (.returned (.agg #[.int .u8 xk, .string (Ln.bs xt), .int .i64 xn, .slice xa xL xc])) Z) := ⟨z1, .inr ⟨_, _, _, ⟨n10 + 1, by have e0 := Ps.go_le (show n10 ≤ n10 by omega) hn11; simp [hs4, e0]⟩, ol14, by omega, z2, rfl, z3⟩⟩
    clear z1 z2 z3 
    go_wp2
    rw [← hZ]
    refine bodyPost_ret (v := .agg #[.int .u8 xk, .string (Ln.bs xt), .int .i64 xn, .slice xa xL xc]) (by simp [results, Tryz.results179, go_sem, r0, r1, r2, r3]) rfl HF.out
  obtain ⟨V7, hV7⟩ : ∃ V, V = w5.alloc (.cells #[.string ⟨#[45]⟩, .string ⟨#[33]⟩] 9) := ⟨_, rfl⟩
  have bV7 : Below w5.heap.size w5 V7 := hV7 ▸ below_new w5 _
  have rV7 : RowLow V7.heap.size V7 (.slice (some ⟨w5.heap.size, 0, none⟩) 2 2) [[45], [33]] := by rw [hV7]; exact CellsLow.lit w5 [txtV [45], txtV [33]] 9 2
  replace FR : Hid (Frm w b V7) := FR.out.go (grown_low bV7)
  replace PA : Hid (PAt b l (lv) V7) := PA.out.below bV7
  clear bV7
  go_wp2_with fail
  rw [← hV7]
  clear hV7
  by_cases h1209 : lv = 120
  · skip
    have PB : Hid (PAt b l 120 V7) := by have := PA.out; rwa [h1209] at this
    have HO8 : Hid (_) := popen_deep b _ l [[45], [33]] _ V7 PB.out hl rV7 (Nat.le_refl _) (by simp) hs4
    refine Calls.mono HO8.out ?_
    rintro e u11 ⟨rfl, hg10⟩
    exact ⟨rfl, FR.out.grown.trans hg10, .inl ⟨_, _, ⟨1, by simp [hs4, h1209]⟩, rfl⟩⟩
  obtain ⟨ol12, ln13⟩ := hl.sees hs4 (by decide)
  have HO8 : Hid (_) := popen_yes b (lv) _ l [[45], [33]] _ V7 PA.out hl rV7 (Nat.le_refl _) (by simp) hs4 (by decide) (by omega)
  refine Calls.mono HO8.out ?_
  rintro e w14 ⟨rfl, hg15, hp16⟩
  replace FR : Hid (Frm w b w14) := FR.out.go hg15
  replace PA : Hid (PAt b l.tail (lv + 1) w14) := hp16
  clear HO8 hg15 hp16 rV7
  go_wp2_with fail
  have HC17 : Hid (_) := HhU.out b (lv + 1) l.tail w14 ol12 (by omega) (by omega) PA.out
  refine Calls.mono HC17.out ?_
  rintro e w18 ⟨hg19, ⟨E, i, ⟨n20, hn21⟩, rfl⟩ | ⟨t, l28, v, ⟨n20, hn21⟩, ol24, ln25, hp26, rfl, nd27⟩⟩
  · skip
    exact ⟨rfl, FR.out.grown.trans hg19, .inl ⟨_, _, ⟨n20 + 1, by have e0 := Ps.go_le (show n20 ≤ n20 by omega) hn21; simp [hs4, h1209, e0]⟩, rfl⟩⟩
  obtain ⟨xk, xt, xn, xa, xL, xc, xkids, rfl, rfl, nf⟩ := NF.of_end (X := []) nd27 FR.out (by simp)
  replace FR : Hid (Frm w b w18) := FR.out.go hg19
  replace PA : Hid (PAt b l28 (lv + 1) w18) := hp26
  have Nx : Hid (NF w w18 ⟨xk, xt, xn, .slice xa xL xc, xkids⟩ []) := nf
  clear nf HC17 hg19 hp26 nd27
  obtain ⟨Y29, hY29⟩ : ∃ V, V = w18.alloc (.cells #[.int .u8 xk, .string (Ln.bs xt), .int .i64 xn, .slice xa xL xc] 25) := ⟨_, rfl⟩
  have bY29 : Below w18.heap.size w18 Y29 := hY29 ▸ below_new w18 _
  have nb : BX w Y29 (w18.heap.size) ⟨xk, xt, xn, .slice xa xL xc, xkids⟩ := by rw [hY29]; exact BX.new FR.out ⟨xk, xt, xn, .slice xa xL xc, xkids⟩
  replace Nx : Hid (NF w w18 ⟨xk, xt, xn, .slice xa xL xc, xkids⟩ [w18.heap.size]) := Nx.out.ex (Nat.le_refl _)
  replace Nx : Hid (NF w Y29 ⟨xk, xt, xn, .slice xa xL xc, xkids⟩ [w18.heap.size]) := Nx.out.go (grown_low bY29) FR.out.low
  replace FR : Hid (Frm w b Y29) := FR.out.go (grown_low bY29)
  replace PA : Hid (PAt b l28 (lv + 1) Y29) := PA.out.below bY29
  have Bx : Hid (BX w Y29 (w18.heap.size) ⟨xk, xt, xn, .slice xa xL xc, xkids⟩) := nb
  clear nb bY29
  go_upto_region 5 with fail
  rw [← hY29]
  clear hY29
  obtain ⟨tb, o, c, -, c1, cf, -, -, -, -, -, nx, hh⟩ := PA.out.cells ol24
  have hsub : IntKind.i64.wrap ((lv : Nat) + 1 - 1 : Int) = ((lv : Nat) : Int) := by rw [IntKind.wrap_i64]; omega
  obtain ⟨Y30, hY30⟩ : ∃ Y, Y = Y29.setCell ⟨b, 1, none⟩ (.int .i64 ((lv : Nat) : Int)) := ⟨_, rfl⟩
  have gY30 : Y29.grownBy Y30 (some b) := by rw [hY30]; exact grown_set Y29 _ _ _
  have kY30 : PAt b l28 (lv) Y30 := nx Y30 (lv) gY30 (by rw [hY30]; exact heap_setCell_same Y29 _ 1 _ _ _ hh)
  replace Nx : Hid (NF w Y30 ⟨xk, xt, xn, .slice xa xL xc, xkids⟩ [w18.heap.size]) := Nx.out.go gY30 FR.out.low
  replace Bx : Hid (BX w Y30 (w18.heap.size) ⟨xk, xt, xn, .slice xa xL xc, xkids⟩) := Bx.out.go gY30 FR.out.low
  replace FR : Hid (Frm w b Y30) := FR.out.go gY30
  replace PA : Hid (PAt b l28 (lv) Y30) := kY30
  clear gY30 kY30 nx hh
  go_upto_region 6 with fail
  rw [← hY30]
  clear hY30
  clear c1 cf hsub
  obtain ⟨f31, f32, f33, f34⟩ := Bx.out.cs
  obtain ⟨R35, hR35⟩ : ∃ V, V = Y30.alloc (.cells #[.int .u8 xk, .string (Ln.bs xt), .int .i64 xn, .slice xa xL xc] 25) := ⟨_, rfl⟩
  have bR35 : Below Y30.heap.size Y30 R35 := hR35 ▸ below_new Y30 _
  have hX : ∀ q ∈ ([w18.heap.size] : List Nat), q < Y30.heap.size := by
    intro q hq
    simp only [List.mem_cons, List.not_mem_nil, or_false] at hq
    subst hq
    exact Bx.out.lt
  have nk : NF w R35 ⟨23, (Ps.hd l).text, 0, .slice (some ⟨Y30.heap.size, 0, none⟩) 1 1, [N1.tr ⟨xk, xt, xn, .slice xa xL xc, xkids⟩]⟩ [w18.heap.size] := by
    rw [hR35]
    refine NF.kids FR.out [⟨xk, xt, xn, .slice xa xL xc, xkids⟩] (fun z hz => ?_) hX (by simp) 23 (Ps.hd l).text 0 (by omega) (hl.hd.1) (by omega)
    simp only [List.mem_cons, List.not_mem_nil, or_false] at hz
    subst hz
    exact Nx.out
  replace Nx : Hid (NF w R35 ⟨xk, xt, xn, .slice xa xL xc, xkids⟩ [w18.heap.size]) := Nx.out.go (grown_low bR35) FR.out.low
  replace Bx : Hid (BX w R35 (w18.heap.size) ⟨xk, xt, xn, .slice xa xL xc, xkids⟩) := Bx.out.go (grown_low bR35) FR.out.low
  replace FR : Hid (Frm w b R35) := FR.out.go (grown_low bR35)
  replace PA : Hid (PAt b l28 (lv) R35) := PA.out.below bR35
  have Nz : Hid (NF w R35 ⟨23, (Ps.hd l).text, 0, .slice (some ⟨Y30.heap.size, 0, none⟩) 1 1, [N1.tr ⟨xk, xt, xn, .slice xa xL xc, xkids⟩]⟩ [w18.heap.size]) := nk
  clear nk hX bR35
  go_wp2_with fail
  rw [← hR35]
  clear hR35
  have HD36 : Hid (_) := pnode_any 23 (Ln.bs ((Ps.hd l).text)) (some ⟨Y30.heap.size, 0, none⟩) 1 1 R35
  refine Calls.mono HD36.out ?_
  rintro e w37 ⟨rfl, hb38⟩
  replace Nx : Hid (NF w w37 ⟨xk, xt, xn, .slice xa xL xc, xkids⟩ [w18.heap.size]) := Nx.out.go (grown_low hb38) FR.out.low
  replace Nz : Hid (NF w w37 ⟨23, (Ps.hd l).text, 0, .slice (some ⟨Y30.heap.size, 0, none⟩) 1 1, [N1.tr ⟨xk, xt, xn, .slice xa xL xc, xkids⟩]⟩ [w18.heap.size]) := Nz.out.go (grown_low hb38) FR.out.low
  replace Bx : Hid (BX w w37 (w18.heap.size) ⟨xk, xt, xn, .slice xa xL xc, xkids⟩) := Bx.out.go (grown_low hb38) FR.out.low
  replace FR : Hid (Frm w b w37) := FR.out.go (grown_low hb38)
  replace PA : Hid (PAt b l28 (lv) w37) := PA.out.below hb38
  clear HD36 hb38
  clear f31 f32 f33 f34
  obtain ⟨p0, p1, p2, p3, pf, Z, hZ, ⟨r0, r1, r2, r3⟩, z1, z2, z3⟩ := FR.out.fin PA.out Nz.out
  have HF : Hid (w.grownBy Z (some b) ∧ PEnd b lv .unary l w (.returned (.agg #[.int .u8 23, .string (Ln.bs ((Ps.hd l).text)), .int .i64 0, .slice (some ⟨Y30.heap.size, 0, none⟩) 1 1])) Z) := ⟨z1, .inr ⟨_, _, _, ⟨n20 + 1, by have e0 := Ps.go_le (show n20 ≤ n20 by omega) hn21; simp [hs4, h1209, e0]⟩, ol24, by omega, z2, rfl, z3⟩⟩
  clear z1 z2 z3 
  go_wp2
  rw [← hZ]
  refine bodyPost_ret (v := .agg #[.int .u8 23, .string (Ln.bs ((Ps.hd l).text)), .int .i64 0, .slice (some ⟨Y30.heap.size, 0, none⟩) 1 1]) (by simp [results, Tryz.results179, go_sem, r0, r1, r2, r3]) rfl HF.out

set_option maxRecDepth 100000 in
set_option maxHeartbeats 4000000 in
theorem pnameOrCall_of (m : Nat) (hC : ∀ s, s.length ≤ 1000000 → PDoes 177 (.call s) [.string (Ln.bs s)] m) : ∀ (b lv : Nat) (l : List Lx.Tok) (w : World), OkL l → l.length ≤ m + 1 → lv ≤ 120 → PAt b l lv w → (Ps.hd l).kind = 1 → Calls Tryz.prog 184 #[.pointer (some ⟨b, 0, none⟩)] w fun e w' => w.grownBy w' (some b) ∧ PEnd b lv .prime l w e w' := by
  intro b lv l w hl hm hlv hP hk1
  obtain ⟨A, hA⟩ : ∃ A, A = w.alloc (.cells #[.int .u8 0, .string ⟨#[]⟩, .int .i64 0, .slice none 0 0] 25) := ⟨_, rfl⟩
  have FR : Hid (Frm w b A) := hA ▸ Frm.new hP
  have HhC : Hid (∀ s, s.length ≤ 1000000 → PDoes 177 (.call s) [.string (Ln.bs s)] m) := hC
  clear hC
  have PA : Hid (PAt b l lv A) := hA ▸ hP.below (below_new w _)
  clear hP 
  go_enter Tryz.func184, Tryz.ntmps184
  go_wp2_with fail
  rw [← hA]
  clear hA
  obtain ⟨ol0, ln0⟩ := hl.tail (.inl (by rw [hk1]; decide))
  have tl0 : (Ps.hd l).text.length ≤ 1000000 := hl.hd.1
  have HN : Hid (_) := pname_yes b lv l A PA.out hl hk1
  refine Calls.mono HN.out ?_
  rintro e w0 ⟨rfl, hg0, hp0⟩
  replace FR : Hid (Frm w b w0) := FR.out.go hg0
  replace PA : Hid (PAt b l.tail (lv) w0) := hp0
  clear HN hg0 hp0
  obtain ⟨V1, hV1⟩ : ∃ V, V = w0.alloc (.cells #[.string ⟨#[40]⟩] 9) := ⟨_, rfl⟩
  have bV1 : Below w0.heap.size w0 V1 := hV1 ▸ below_new w0 _
  have rV1 : RowLow V1.heap.size V1 (.slice (some ⟨w0.heap.size, 0, none⟩) 1 1) [[40]] := by rw [hV1]; exact CellsLow.lit w0 [txtV [40]] 9 1
  replace FR : Hid (Frm w b V1) := FR.out.go (grown_low bV1)
  replace PA : Hid (PAt b l.tail (lv) V1) := PA.out.below bV1
  clear bV1
  go_wp2_with fail
  rw [← hV1]
  clear hV1
  have HS2 : Hid (_) := psees_any b (lv) _ l.tail [[40]] _ V1 PA.out ol0 rV1 (Nat.le_refl _) (by simp)
  refine Calls.mono HS2.out ?_
  rintro e w4 ⟨rfl, hb5⟩
  replace FR : Hid (Frm w b w4) := FR.out.go (grown_low hb5)
  replace PA : Hid (PAt b l.tail (lv) w4) := PA.out.below hb5
  clear HS2 hb5 rV1
  cases hs3 : Ps.sees l.tail [[40]]
  · skip
    have Nx : Hid (NF w w4 ⟨22, (Ps.hd l).text, 0, .slice none 0 0, []⟩ []) := NF.leaf w w4 [] 22 (Ps.hd l).text 0 (by omega) (tl0) (by omega)
    go_wp2_with fail
    have HD6 : Hid (_) := pnode_any 22 (Ln.bs ((Ps.hd l).text)) none 0 0 w4
    refine Calls.mono HD6.out ?_
    rintro e w7 ⟨rfl, hb8⟩
    replace Nx : Hid (NF w w7 ⟨22, (Ps.hd l).text, 0, .slice none 0 0, []⟩ []) := Nx.out.go (grown_low hb8) FR.out.low
    replace FR : Hid (Frm w b w7) := FR.out.go (grown_low hb8)
    replace PA : Hid (PAt b l.tail (lv) w7) := PA.out.below hb8
    clear HD6 hb8
    obtain ⟨p0, p1, p2, p3, pf, Z, hZ, ⟨r0, r1, r2, r3⟩, z1, z2, z3⟩ := FR.out.fin PA.out Nx.out
    have HF : Hid (w.grownBy Z (some b) ∧ PEnd b lv .prime l w (.returned (.agg #[.int .u8 22, .string (Ln.bs ((Ps.hd l).text)), .int .i64 0, .slice none 0 0])) Z) := ⟨z1, .inr ⟨_, _, _, ⟨1, by simp [hk1, hs3]⟩, ol0, by omega, z2, rfl, z3⟩⟩
    clear z1 z2 z3 
    go_wp2
    rw [← hZ]
    refine bodyPost_ret (v := .agg #[.int .u8 22, .string (Ln.bs ((Ps.hd l).text)), .int .i64 0, .slice none 0 0]) (by simp [results, Tryz.results184, go_sem, r0, r1, r2, r3]) rfl HF.out
  have HCC : Hid (_) := HhC.out (Ps.hd l).text tl0
  go_wp2_with fail
  have HC6 : Hid (_) := HCC.out b (lv) l.tail w4 ol0 (by omega) (by omega) PA.out
  refine Calls.mono HC6.out ?_
  rintro e w7 ⟨hg8, ⟨E, i, ⟨n9, hn10⟩, rfl⟩ | ⟨t, l17, v, ⟨n9, hn10⟩, ol13, ln14, hp15, rfl, nd16⟩⟩
  · skip
    exact ⟨rfl, FR.out.grown.trans hg8, .inl ⟨_, _, ⟨n9 + 1, by have e0 := Ps.go_le (show n9 ≤ n9 by omega) hn10; simp [hk1, hs3, e0]⟩, rfl⟩⟩
  obtain ⟨xk, xt, xn, xa, xL, xc, xkids, rfl, rfl, nf⟩ := NF.of_end (X := []) nd16 FR.out (by simp)
  replace FR : Hid (Frm w b w7) := FR.out.go hg8
  replace PA : Hid (PAt b l17 (lv) w7) := hp15
  have Nx : Hid (NF w w7 ⟨xk, xt, xn, .slice xa xL xc, xkids⟩ []) := nf
  clear nf HC6 hg8 hp15 nd16
  obtain ⟨p0, p1, p2, p3, pf, Z, hZ, ⟨r0, r1, r2, r3⟩, z1, z2, z3⟩ := FR.out.fin PA.out Nx.out
  have HF : Hid (w.grownBy Z (some b) ∧ PEnd b lv .prime l w (.returned (.agg #[.int .u8 xk, .string (Ln.bs xt), .int .i64 xn, .slice xa xL xc])) Z) := ⟨z1, .inr ⟨_, _, _, ⟨n9 + 1, by have e0 := Ps.go_le (show n9 ≤ n9 by omega) hn10; simp [hk1, hs3, e0]⟩, ol13, by omega, z2, rfl, z3⟩⟩
  clear z1 z2 z3 
  go_wp2
  rw [← hZ]
  refine bodyPost_ret (v := .agg #[.int .u8 xk, .string (Ln.bs xt), .int .i64 xn, .slice xa xL xc]) (by simp [results, Tryz.results184, go_sem, r0, r1, r2, r3]) rfl HF.out

end Go.Proofs.YtnndgjnihhafbaaGreatDoor
