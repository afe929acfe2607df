/-
  The walk of clerestorylaw05.awake: the chapter's examples are as they must be.
-/
import Derived.Test.YtkiafelpgcmifaaDoorLxTokens
namespace Go.Proofs.YtkiafelpgcmifaaDoor
open Go.RowKit Go.Shelf

attribute [local go_sem] Oper.semAt_some

theorem SignsAt.at {w W : World} (h : SignsAt w.heap.size w) (hb : Below w.heap.size w W) : SignsAt W.heap.size W := (h.keep hb).mono hb.size

def aw1 : ByteArray := ⟨#[118, 97, 114, 32, 97, 49, 61, 51, 59, 32, 47, 47, 32, 120]⟩
def aw2 : ByteArray := ⟨#[48, 49]⟩
def aw3 : ByteArray := ⟨#[97, 32, 38, 32, 98]⟩
def aw4 : ByteArray := ⟨#[97, 60, 61, 61]⟩
theorem aw1_lex : Lx.lex aw1.data.toList = .ok [⟨2, [118, 97, 114], 0⟩, ⟨1, [97, 49], 4⟩, ⟨4, [61], 6⟩, ⟨3, [51], 7⟩, ⟨4, [59], 8⟩] := by decide +kernel
theorem aw2_lex : Lx.lex aw2.data.toList = .fault 101 0 := by decide +kernel
theorem aw3_lex : Lx.lex aw3.data.toList = .fault 100 2 := by decide +kernel
theorem aw4_lex : Lx.lex aw4.data.toList = .ok [⟨1, [97], 0⟩, ⟨4, [60, 61], 1⟩, ⟨4, [61], 3⟩] := by decide +kernel

theorem tokens_aw1 (w : World) (h : SignsAt w.heap.size w) : Calls Tryd.prog 7 #[.string ⟨#[118, 97, 114, 32, 97, 49, 61, 51, 59, 32, 47, 47, 32, 120]⟩] w fun r w' => ∃ g cap, r = .returned (.tuple #[.slice (some ⟨g, 0, none⟩) 6 cap, .agg #[.int .i64 0, .int .i64 0]]) ∧ w'.ownsRow w.heap.size 38 3 (.slice (some ⟨g, 0, none⟩) 6 cap) 6 (tokCells [⟨2, [118, 97, 114], 0⟩, ⟨1, [97, 49], 4⟩, ⟨4, [61], 6⟩, ⟨3, [51], 7⟩, ⟨4, [59], 8⟩, ⟨5, [], 14⟩]) ∧ Below w.heap.size w w' := by
  have ht := tokens_any aw1 w h (by decide)
  rw [aw1_lex] at ht
  refine ht.mono ?_
  rintro r w' ⟨⟨v, rfl, ho, -⟩, hb⟩
  obtain ⟨g, cap, rfl⟩ := ownsRow_succ ho
  exact ⟨g, cap, rfl, ho, hb⟩
theorem tokens_aw2 (w : World) (h : SignsAt w.heap.size w) : Calls Tryd.prog 7 #[.string ⟨#[48, 49]⟩] w fun r w' => r = .returned (.tuple #[.slice none 0 0, .agg #[.int .i64 101, .int .i64 0]]) ∧ Below w.heap.size w w' := by
  have ht := tokens_any aw2 w h (by decide)
  rw [aw2_lex] at ht
  exact ht
theorem tokens_aw3 (w : World) (h : SignsAt w.heap.size w) : Calls Tryd.prog 7 #[.string ⟨#[97, 32, 38, 32, 98]⟩] w fun r w' => r = .returned (.tuple #[.slice none 0 0, .agg #[.int .i64 100, .int .i64 2]]) ∧ Below w.heap.size w w' := by
  have ht := tokens_any aw3 w h (by decide)
  rw [aw3_lex] at ht
  exact ht
theorem tokens_aw4 (w : World) (h : SignsAt w.heap.size w) : Calls Tryd.prog 7 #[.string ⟨#[97, 60, 61, 61]⟩] w fun r w' => ∃ g cap, r = .returned (.tuple #[.slice (some ⟨g, 0, none⟩) 4 cap, .agg #[.int .i64 0, .int .i64 0]]) ∧ w'.ownsRow w.heap.size 38 3 (.slice (some ⟨g, 0, none⟩) 4 cap) 4 (tokCells [⟨1, [97], 0⟩, ⟨4, [60, 61], 1⟩, ⟨4, [61], 3⟩, ⟨5, [], 4⟩]) ∧ Below w.heap.size w w' := by
  have ht := tokens_any aw4 w h (by decide)
  rw [aw4_lex] at ht
  refine ht.mono ?_
  rintro r w' ⟨⟨v, rfl, ho, -⟩, hb⟩
  obtain ⟨g, cap, rfl⟩ := ownsRow_succ ho
  exact ⟨g, cap, rfl, ho, hb⟩

set_option maxRecDepth 100000 in
set_option maxHeartbeats 2000000 in
theorem awake_any (w : World) (hsg : SignsAt w.heap.size w) :
    Calls Tryd.prog 6 #[] w fun r w' => r = .returned (.bool true) ∧ Below w.heap.size w w' := by
  have HSG : Hid (SignsAt w.heap.size w) := hsg
  clear hsg
  go_enter Tryd.func6, Tryd.ntmps6
  go_wp2_with fail
  refine (tokens_aw1 w HSG.out).mono ?_
  rintro r w1 ⟨g1, cp1, rfl, o1, b1⟩
  obtain ⟨X1, hX1⟩ : ∃ X, X = w1.alloc (.cells #[.int .i64 0, .int .i64 0] 26) := ⟨_, rfl⟩
  have e1 : Below w1.heap.size w1 X1 := by rw [hX1]; exact below_nw w1 _
  have f1 : X1.heap[w1.heap.size]? = some (.cells #[.int .i64 0, .int .i64 0] 26 (0, 0)) := by rw [hX1]; exact World.alloc_heap_new w1 _
  have B1 : Hid (Below w.heap.size w X1) := below_then b1 e1
  have O1 : Hid (_) := owns_below o1 e1
  have F1 : Hid (_) := f1
  clear o1 b1 e1 f1
  go_wp2_with fail
  rw [← hX1]
  clear hX1
  refine (tokens_aw2 X1 (HSG.out.at B1.out)).mono ?_
  rintro r w2 ⟨rfl, b2⟩
  obtain ⟨X2, hX2⟩ : ∃ X, X = w2.alloc (.cells #[.int .i64 101, .int .i64 0] 26) := ⟨_, rfl⟩
  have e2 : Below w2.heap.size w2 X2 := by rw [hX2]; exact below_nw w2 _
  have f2 : X2.heap[w2.heap.size]? = some (.cells #[.int .i64 101, .int .i64 0] 26 (0, 0)) := by rw [hX2]; exact World.alloc_heap_new w2 _
  have C2 : Hid (Below X1.heap.size X1 X2) := below_then b2 e2
  have F2 : Hid (_) := f2
  clear b2 e2 f2
  go_wp2_with fail
  rw [← hX2]
  clear hX2
  refine (tokens_aw3 X2 (HSG.out.at (below_then B1.out C2.out))).mono ?_
  rintro r w3 ⟨rfl, b3⟩
  obtain ⟨X3, hX3⟩ : ∃ X, X = w3.alloc (.cells #[.int .i64 100, .int .i64 2] 26) := ⟨_, rfl⟩
  have e3 : Below w3.heap.size w3 X3 := by rw [hX3]; exact below_nw w3 _
  have f3 : X3.heap[w3.heap.size]? = some (.cells #[.int .i64 100, .int .i64 2] 26 (0, 0)) := by rw [hX3]; exact World.alloc_heap_new w3 _
  have C3 : Hid (Below X2.heap.size X2 X3) := below_then b3 e3
  have F3 : Hid (_) := f3
  clear b3 e3 f3
  go_wp2_with fail
  rw [← hX3]
  clear hX3
  refine (tokens_aw4 X3 (HSG.out.at (below_then B1.out (below_then C2.out C3.out)))).mono ?_
  rintro r w4 ⟨g4, cp4, rfl, o4, b4⟩
  have D4 : Below X1.heap.size X1 w4 := below_then C2.out (below_then C3.out b4)
  have D2 : Below X2.heap.size X2 w4 := below_then C3.out b4
  have o1' := owns_below O1.out D4
  have h1 := (D4.block _ (Array.getElem?_eq_some_iff.1 F1.out).1).trans F1.out
  have h2 := (D2.block _ (Array.getElem?_eq_some_iff.1 F2.out).1).trans F2.out
  have h3 := (b4.block _ (Array.getElem?_eq_some_iff.1 F3.out).1).trans F3.out
  have l1 := (Array.getElem?_eq_some_iff.1 h1).1
  have l2 := (Array.getElem?_eq_some_iff.1 h2).1
  have l3 := (Array.getElem?_eq_some_iff.1 h3).1
  have l4 := (o1'.lt g1 rfl).2
  have l5 := (o4.lt g4 rfl).2
  have c1 : w4.cell? ⟨w1.heap.size, 0, none⟩ = some (.int .i64 0) := by rw [Lib.cell_of_heap h1]; rfl
  have c2 : w4.cell? ⟨w2.heap.size, 0, none⟩ = some (.int .i64 101) := by rw [Lib.cell_of_heap h2]; rfl
  have c3 : w4.cell? ⟨w2.heap.size, 1, none⟩ = some (.int .i64 0) := by rw [Lib.cell_of_heap h2]; rfl
  have c4 : w4.cell? ⟨w3.heap.size, 0, none⟩ = some (.int .i64 100) := by rw [Lib.cell_of_heap h3]; rfl
  have c5 : w4.cell? ⟨w3.heap.size, 1, none⟩ = some (.int .i64 2) := by rw [Lib.cell_of_heap h3]; rfl
  have t0 : w4.cell? ⟨g1, 0, none⟩ = some (.int .u8 2) := (o1'.cellAt 0 (by decide)).trans rfl
  have t1 : w4.cell? ⟨g1, 4, none⟩ = some (.string ⟨#[97, 49]⟩) := (o1'.cellAt 4 (by decide)).trans rfl
  have t2 : w4.cell? ⟨g1, 9, none⟩ = some (.int .u8 3) := (o1'.cellAt 9 (by decide)).trans rfl
  have t3 : w4.cell? ⟨g1, 17, none⟩ = some (.int .i64 14) := (o1'.cellAt 17 (by decide)).trans rfl
  have t4 : w4.cell? ⟨g4, 4, none⟩ = some (.string ⟨#[60, 61]⟩) := (o4.cellAt 4 (by decide)).trans rfl
  have BF : Hid (Below w.heap.size w w4) := below_then B1.out D4
  clear o4 b4 D4 D2 o1' h1 h2 h3 O1 F1 F2 F3 C2 C3 B1
  go_wp2
  go_ret
  exact ⟨rfl, below_then BF.out (below_nw w4 _)⟩

end Go.Proofs.YtkiafelpgcmifaaDoor
