/-
  The walk of the document's answer Tokens of chapter 5.
-/
import Derived.Test.YtkiafelpgcmifabDoorLxRef2
namespace Go.Proofs.YtkiafelpgcmifabDoor
open Go.RowKit Go.Shelf

attribute [local go_sem] Oper.semAt_some

namespace Lx
theorem lead_zero (p : Int → Bool) (l : List UInt8) (h : ∀ h : 0 < l.length, p (l[0].toNat : Int) = false) : lead p l = 0 := lead_eq p l 0 (Nat.zero_le _) (fun _ _ h => absurd h (Nat.not_lt_zero _)) h
theorem lead_pos (p : Int → Bool) (l : List UInt8) (h0 : 0 < l.length) (h : p (l[0].toNat : Int) = true) : 0 < lead p l := by
  cases l with
  | nil => simp at h0
  | cons b l =>
    simp at h
    rw [lead_cons, if_pos h]; omega
theorem step_comment {l : List UInt8} (hb : lead blankI l = 0) (hp : pre [47, 47] l = true) : step l = .skip (lead inLineI l) := by
  have hp' : [47, 47].isPrefixOf l = true := hp
  unfold step; rw [hb, if_neg (by omega), if_pos hp']
theorem step_run {l : List UInt8} (hb : lead blankI l = 0) (hp : pre [47, 47] l = false) (hn : 0 < lead ldI l) : step l = if sort (l.take (lead ldI l)) = 0 then .bad 101 else .tok (sort (l.take (lead ldI l))) (lead ldI l) := by
  have hp' : [47, 47].isPrefixOf l = false := hp
  unfold step; rw [hb, if_neg (by omega), hp', if_neg (by simp), if_pos hn]
theorem step_sign {l : List UInt8} (hb : lead blankI l = 0) (hp : pre [47, 47] l = false) (hn : lead ldI l = 0) {t : List UInt8} (ht : sign? l = some t) : step l = .tok 4 t.length := by
  have hp' : [47, 47].isPrefixOf l = false := hp
  unfold step; rw [hb, if_neg (by omega), hp', if_neg (by simp), hn, if_neg (by omega), ht]
theorem step_nosign {l : List UInt8} (hb : lead blankI l = 0) (hp : pre [47, 47] l = false) (hn : lead ldI l = 0) (ht : sign? l = none) : step l = .bad 100 := by
  have hp' : [47, 47].isPrefixOf l = false := hp
  unfold step; rw [hb, if_neg (by omega), hp', if_neg (by simp), hn, if_neg (by omega), ht]
end Lx

/-- What holds while the document's answer goes on. -/
structure RSt (w : World) (s : ByteArray) (k : Nat) (acc : List Lx.Tok) (v : Value) (W : World) : Prop where
  le : k ≤ s.size
  len : acc.length ≤ k
  own : W.ownsRow w.heap.size 31 3 v acc.length (tokCells acc)
  lex : Lx.lex s.data.toList = Lx.rest (s.data.toList.drop k) k acc
  box : W.heap[w.heap.size]? = some (.cells #[.int .i64 0, .int .i64 0] 26 (0, 0))
  low : Below w.heap.size w W
theorem RSt.lt {w W : World} {s : ByteArray} {k : Nat} {acc : List Lx.Tok} {v : Value} (h : RSt w s k acc v W) : w.heap.size < W.heap.size := (Array.getElem?_eq_some_iff.1 h.box).1
theorem RSt.below {w W W' : World} {s : ByteArray} {k : Nat} {acc : List Lx.Tok} {v : Value} (h : RSt w s k acc v W) (hb : Below W.heap.size W W') : RSt w s k acc v W' :=
  ⟨h.le, h.len, owns_below h.own hb, h.lex, (hb.block _ h.lt).trans h.box, h.low.trans (hb.mono h.low.size)⟩

/-- A token is put behind those that are there. -/
theorem tok_app {w W : World} {s : ByteArray} {k : Nat} {acc : List Lx.Tok} {at7 : Option Addr} {n7 c7 : Nat} (h : RSt w s k acc (.slice at7 n7 c7) W) (hs : s.size ≤ 1000000) (kind : Nat) (x : ByteArray) (p : Nat) :
    ∃ v' W', (Builtin.append_ #[23, 23] 23 #[.slice at7 n7 c7, .slice (some ⟨W.heap.size, 0, none⟩) 1 1]).run Tryd.prog (W.alloc (.cells #[.int .u8 kind, .string x, .int .i64 p] 31)) = .ok v' W' ∧ W'.ownsRow w.heap.size 31 3 v' (acc ++ [(⟨kind, x.data.toList, p⟩ : Lx.Tok)]).length (tokCells (acc ++ [⟨kind, x.data.toList, p⟩])) ∧ W'.heap[w.heap.size]? = some (.cells #[.int .i64 0, .int .i64 0] 26 (0, 0)) ∧ Below w.heap.size w W' ∧ (∀ b, b < W.heap.size → (∀ g c, at7 = some ⟨g, 0, none⟩ → c = c7 → b ≠ g) → W'.heap[b]? = W.heap[b]?) := by
  obtain ⟨i0, hi, hz0, hz1, hz2⟩ := info_parts infoTok
  have hl := h.len
  have hle := h.le
  obtain ⟨ta, tc, e⟩ := slice_shape h.own
  cases e
  obtain ⟨X, hX⟩ : ∃ X, X = W.alloc (.cells #[.int .u8 kind, .string x, .int .i64 p] 31) := ⟨_, rfl⟩
  have bX : Below W.heap.size W X := by rw [hX]; exact below_nw W _
  have hcn : ∀ (j : Nat) (u : Value), [Value.int .u8 kind, .string x, .int .i64 p][j]? = some u → X.cell? ((⟨W.heap.size, 0, none⟩ : Addr).add j) = some u := by rw [hX]; exact cells_new W [.int .u8 kind, .string x, .int .i64 p] 31
  have hBX : w.heap.size ≤ X.heap.size := Nat.le_trans h.low.size bX.size
  obtain ⟨v', W', hrun, hown, hgr, -⟩ := run_append_own (P := Tryd.prog) X w.heap.size 23 23 31 i0 (.agg #[.int .u8 0, .string ⟨#[]⟩, .int .i64 0]) 3 32 Tryd.underlying23 hi hz0 hz1 hz2 rfl (by decide) (.slice at7 acc.length c7) _ _ (owns_below h.own bX) ⟨W.heap.size, 0, none⟩ 1 1 [.int .u8 kind, .string x, .int .i64 p] rfl hcn (by simp [Value.oneCell']) (by unfold maxLen; omega) (by omega) hBX
  rw [← hX]
  refine ⟨v', W', hrun, ?_, heap_grown (owns_below h.own bX) hgr ((bX.block _ h.lt).trans h.box) (by decide), ?_, fun b hb hne => ?_⟩
  · rw [tokCells_snoc, List.length_append]
    exact hown
  · exact (h.low.trans (bX.mono h.low.size)).grown hgr hBX (fun q hq => (World.ownsRow.lt (owns_below h.own bX) q hq).1)
  · refine (hgr.block b (Nat.lt_of_lt_of_le hb bX.size) (fun e => ?_)).trans (bX.block b hb)
    cases at7 with
    | none => cases e
    | some a =>
      rcases h.own.2 with ⟨h0, _⟩ | ⟨g, cap, cur, he, _⟩
      · cases h0
      · cases he
        exact hne g c7 rfl rfl (by simpa [Value.ownBlock] using e)

/-- A token in a box, beside those that are told. -/
structure TSt (w : World) (s : ByteArray) (k : Nat) (acc : List Lx.Tok) (v : Value) (tb kind : Nat) (x : ByteArray) (W : World) : Prop where
  st : RSt w s k acc v W
  tok : W.heap[tb]? = some (.cells #[.int .u8 kind, .string x, .int .i64 k] 31 (0, 0))
  apart : ∀ g, v.ownBlock = some g → g < tb
  hi : w.heap.size < tb
theorem TSt.lt {w W : World} {s x : ByteArray} {k tb kind : Nat} {acc : List Lx.Tok} {v : Value} (h : TSt w s k acc v tb kind x W) : tb < W.heap.size := (Array.getElem?_eq_some_iff.1 h.tok).1
theorem TSt.below {w W W' : World} {s x : ByteArray} {k tb kind : Nat} {acc : List Lx.Tok} {v : Value} (h : TSt w s k acc v tb kind x W) (hb : Below W.heap.size W W') : TSt w s k acc v tb kind x W' :=
  ⟨h.st.below hb, (hb.block _ h.lt).trans h.tok, h.apart, h.hi⟩
theorem TSt.cells {w W : World} {s x : ByteArray} {k tb kind : Nat} {acc : List Lx.Tok} {v : Value} (h : TSt w s k acc v tb kind x W) : W.cell? ⟨tb, 0, none⟩ = some (.int .u8 kind) ∧ W.cell? ⟨tb, 1, none⟩ = some (.string x) ∧ W.cell? ⟨tb, 2, none⟩ = some (.int .i64 k) :=
  ⟨by rw [Lib.cell_of_heap h.tok]; rfl, by rw [Lib.cell_of_heap h.tok]; rfl, by rw [Lib.cell_of_heap h.tok]; rfl⟩
theorem TSt.frozen {w W : World} {s x : ByteArray} {k tb kind : Nat} {acc : List Lx.Tok} {v : Value} (h : TSt w s k acc v tb kind x W) (i : Nat) : W.frozen? ⟨tb, i, none⟩ = false := frozen_of_row W tb i _ _ h.tok
theorem TSt.new {w W : World} {s : ByteArray} {k : Nat} {acc : List Lx.Tok} {v : Value} (h : RSt w s k acc v W) (x : ByteArray) : TSt w s k acc v W.heap.size 0 x (W.alloc (.cells #[.int .u8 0, .string x, .int .i64 k] 31)) :=
  ⟨h.below (below_nw W _), World.alloc_heap_new W _, fun g hg => (World.ownsRow.lt h.own g hg).2, h.lt⟩
theorem TSt.put {w W : World} {s x : ByteArray} {k tb kind : Nat} {acc : List Lx.Tok} {v : Value} (h : TSt w s k acc v tb kind x W) (i : Nat) (u : Value) : RSt w s k acc v (W.setCell ⟨tb, i, none⟩ u) := by
  have hg := grown_set W tb i u
  have ho := h.st.own
  refine ⟨h.st.le, h.st.len, ⟨ho.1, ?_⟩, h.st.lex, (hg.block _ h.st.lt (fun e => by have := h.hi; cases e; omega)).trans h.st.box, h.st.low.trans ⟨hg.os, hg.tape, hg.output, hg.size, fun k hk => hg.block k (Nat.lt_trans hk h.st.lt) (fun e => by have := h.hi; cases e; omega)⟩⟩
  rcases ho.2 with h0 | ⟨g, cap, cur, hv, h1, hgb, h2⟩
  · exact .inl h0
  · refine .inr ⟨g, cap, cur, hv, h1, (hg.block g (Array.getElem?_eq_some_iff.1 hgb).1 (fun e => ?_)).trans hgb, h2⟩
    have := h.apart g (by rw [hv]; rfl)
    cases e; omega
theorem TSt.kind {w W : World} {s x : ByteArray} {k tb kind : Nat} {acc : List Lx.Tok} {v : Value} (h : TSt w s k acc v tb kind x W) (kind' : Nat) : TSt w s k acc v tb kind' x (W.setCell ⟨tb, 0, none⟩ (.int .u8 kind')) :=
  ⟨h.put 0 _, heap_setCell_same W tb 0 _ 31 _ h.tok, h.apart, h.hi⟩
theorem TSt.text {w W : World} {s x : ByteArray} {k tb kind : Nat} {acc : List Lx.Tok} {v : Value} (h : TSt w s k acc v tb kind x W) (x' : ByteArray) : TSt w s k acc v tb kind x' (W.setCell ⟨tb, 1, none⟩ (.string x')) :=
  ⟨h.put 1 _, heap_setCell_same W tb 1 _ 31 _ h.tok, h.apart, h.hi⟩
/-- The token is put behind those that are there; it stays in its box. -/
theorem TSt.app {w W : World} {s x : ByteArray} {k tb kind : Nat} {acc : List Lx.Tok} {at7 : Option Addr} {n7 c7 : Nat} (h : TSt w s k acc (.slice at7 n7 c7) tb kind x W) (hs : s.size ≤ 1000000) (n : Nat) (hn : n ≤ s.size) (hkn : k < n) (hlex : Lx.lex s.data.toList = Lx.rest (s.data.toList.drop n) n (acc ++ [⟨kind, x.data.toList, k⟩])) :
    ∃ v' W', (Builtin.append_ #[23, 23] 23 #[.slice at7 n7 c7, .slice (some ⟨W.heap.size, 0, none⟩) 1 1]).run Tryd.prog (W.alloc (.cells #[.int .u8 kind, .string x, .int .i64 k] 31)) = .ok v' W' ∧ RSt w s n (acc ++ [⟨kind, x.data.toList, k⟩]) v' W' ∧ W'.cell? ⟨tb, 1, none⟩ = some (.string x) := by
  obtain ⟨v', W', hrun, hown, hbox, hbel, hkeep⟩ := tok_app h.st hs kind x k
  have hl := h.st.len
  refine ⟨v', W', hrun, ⟨hn, by rw [List.length_append]; simp; omega, hown, hlex, hbox, hbel⟩, ?_⟩
  have hb := hkeep tb h.lt (fun g c e _ => by
    have := h.apart g (by rw [e]; rfl)
    omega)
  rw [Lib.cell_of_heap (hb.trans h.tok)]; rfl

end Go.Proofs.YtkiafelpgcmifabDoor
