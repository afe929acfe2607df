/-
  What File tells of a text: few nodes; two files in a row are right; the tokens of print's expression.
-/
import Derived.Test.YtdaaecnmllpgdaaGreatDoorPsFine
import Derived.Test.YtdaaecnmllpgdaaGreatDoorMoreAll
namespace Go.Proofs.YtdaaecnmllpgdaaGreatDoor
open Go.RowKit Go.Shelf

/-- There are no more tokens than bytes. -/
theorem Lx.rest_count (a : List UInt8) : ∀ (k : Nat) (acc ts : List Lx.Tok), Lx.rest a k acc = .ok ts → ts.length ≤ acc.length + a.length := by
  refine Lx.bySteps (P := fun a => ∀ (k : Nat) (acc ts : List Lx.Tok), Lx.rest a k acc = .ok ts → ts.length ≤ acc.length + a.length) ?_ ?_ a
  · intro k acc ts h; rw [Lx.rest_nil] at h; cases h; simp
  · intro l hl ihs iht k acc ts h
    cases hs : Lx.step l with
    | skip n =>
      rw [Lx.rest_skip _ _ hs hl] at h
      have := ihs _ hs _ _ _ h
      rw [List.length_drop] at this; omega
    | tok kind n =>
      have hn := Lx.step_tok hs
      rw [Lx.rest_tok _ _ hs hl] at h
      have := iht _ _ hs _ _ _ h
      rw [List.length_drop, List.length_append] at this; simp at this; omega
    | bad e => rw [Lx.rest_bad _ _ hs hl] at h; cases h
theorem Lx.lex_count {a : List UInt8} {ts : List Lx.Tok} (h : Lx.lex a = .ok ts) : ts.length ≤ a.length := by
  have := Lx.rest_count a 0 [] ts h
  simpa using this
theorem FileOk.small {s : List UInt8} {ts : List Tr} (h : FileOk s ts) : (Tr.mk 1 [] 0 ts).size ≤ 2 * s.length + 10 := by
  obtain ⟨us, l, h1, ⟨n, h2⟩, -⟩ := h
  have h3 := Lx.lex_count h1
  have h4 := Ps.go_size n (.file []) _ _ _ _ trivial h2
  simp only [Ps.given, Ps.over, Tr.sizes_nil, List.length_append, List.length_cons, List.length_nil] at h4
  rw [Tr.size_eq]
  simp only [Tr.kids]
  omega
theorem kidsFit_two (i : Nat) : ∀ l : List Tr, Tr.kidsFit [2, 203] i l = l.all fun x => x.k == 2
  | [] => rfl
  | x :: l => by
    rw [Tr.kidsFit, List.all_cons, kidsFit_two (i + 1) l]
    have e : Tr.fitsRow [2, 203] x.k i = (x.k == 2) := by
      show (decide ((0 : Int) ≤ i) && Tr.stands 2 x.k) = (x.k == 2)
      rw [decide_eq_true (by omega)]
      rfl
    rw [e]
theorem right_file (ts : List Tr) : Tr.right 40 (.mk 1 [] 0 ts) = ts.all fun x => x.k == 2 && Tr.right 39 x := by
  rw [Tr.right]
  have e : Tr.kidsOk (.mk 1 [] 0 ts) = ts.all fun x => x.k == 2 := by
    show (true && Tr.kidsFit [2, 203] 0 ts && true) = _
    rw [kidsFit_two]
    simp
  have e2 : (Tr.textOk (Tr.mk 1 [] 0 ts).k (Tr.mk 1 [] 0 ts).t && Tr.numOk (Tr.mk 1 [] 0 ts).k (Tr.mk 1 [] 0 ts).n) = true := by
    show (Tr.textOk 1 [] && Tr.numOk 1 0) = true
    decide
  rw [e, e2, Bool.true_and]
  show ((ts.all fun x => x.k == 2) && ts.all (Tr.right 39)) = _
  induction ts with
  | nil => rfl
  | cons x r ih =>
    rw [List.all_cons, List.all_cons, List.all_cons, ← ih (by
      show (true && Tr.kidsFit [2, 203] 0 r && true) = _
      rw [kidsFit_two]
      simp) (by show (Tr.textOk 1 [] && Tr.numOk 1 0) = true; decide)]
    cases (x.k == 2) <;> cases (Tr.right 39 x) <;> simp
theorem right_row {ns ms : List Tr} (h : Tr.right 40 (.mk 1 [] 0 ns) = true) (k : Tr.right 40 (.mk 1 [] 0 ms) = true) : Tr.right 40 (.mk 1 [] 0 (ns ++ ms)) = true := by
  rw [right_file] at *
  rw [List.all_append, h, k]; rfl
theorem FileOk.right {s : List UInt8} {ts : List Tr} (h : FileOk s ts) : Tr.right 40 (.mk 1 [] 0 ts) = true := by
  obtain ⟨_, _, _, _, h⟩ := h; exact h
theorem FileOk.both {a b : List UInt8} {ns ms : List Tr} (h : FileOk a ns) (k : FileOk b ms) : FileOk (a ++ 10 :: b) (ns ++ ms) := h.row k (right_row h.right k.right)

/-- What File tells, ready to be stored. -/
def GTold (s : ByteArray) (w w' : World) (v : Value) (E i : Nat) : Prop :=
  (E = 0 ∧ i = 0 ∧ ∃ ts, FileOk s.data.toList ts ∧ NodeR (newS w.heap.size w'.heap.size) w' v (.mk 1 [] 0 ts)) ∨ (E ≠ 0 ∧ FileBad s.data.toList E i ∧ v = zeroV)
theorem GEnd.gen {s : ByteArray} {w w' : World} {e : Ending} (h : GEnd s w e w') : ∃ (k : Int) (tx : ByteArray) (n : Int) (a : Option Addr) (L c : Nat) (E i : Nat), e = .returned (.tuple #[.agg #[.int .u8 k, .string tx, .int .i64 n, .slice a L c], .agg #[.int .i64 E, .int .i64 i]]) ∧ GTold s w w' (.agg #[.int .u8 k, .string tx, .int .i64 n, .slice a L c]) E i := by
  rcases h.told with ⟨ts, v, h1, rfl, h3⟩ | ⟨E, i, h1, h2, rfl⟩
  · obtain ⟨k, tx, n, a, L, c, rfl⟩ := h3.pshape
    exact ⟨_, _, _, _, _, _, 0, 0, rfl, .inl ⟨rfl, rfl, ts, h1, h3⟩⟩
  · exact ⟨0, _, _, _, _, _, E, i, rfl, .inr ⟨h2, h1, rfl⟩⟩
theorem GTold.node {s : ByteArray} {w w' W : World} {v : Value} {E i : Nat} (h : GTold s w w' v E i) (hb : Below w'.heap.size w' W) : (E = 0 ∧ i = 0 ∧ ∃ ts, FileOk s.data.toList ts ∧ NodeR (lowS W.heap.size) W v (.mk 1 [] 0 ts)) ∨ (E ≠ 0 ∧ FileBad s.data.toList E i ∧ NodeR (lowS W.heap.size) W v Tr.zero) := by
  rcases h with ⟨h1, h2, ts, h3, h4⟩ | ⟨h1, h2, rfl⟩
  · exact .inl ⟨h1, h2, ts, h3, by
    obtain ⟨x, a, b, c, d⟩ := h4.low hb (Nat.le_refl _)
    exact ⟨x, a, b, c, d.mono (fun _ hk => hk.2)⟩⟩
  · exact .inr ⟨h1, h2, nodeR_zero _ W⟩

namespace Lx
theorem rest_tok2 {l r : List UInt8} {kind n : Nat} {k k2 : Nat} {acc acc2 : List Tok} (h : step l = .tok kind n) (hl : l ≠ []) (hr : l.drop n = r) (hk : k + n = k2) (ha : acc ++ [⟨kind, l.take n, k⟩] = acc2) : rest l k acc = rest r k2 acc2 := by
  rw [rest_tok k acc h hl, hr, hk, ha]
theorem rest_blank (r : List UInt8) (k : Nat) (acc : List Tok) : rest (32 :: r) k acc = rest r (k + 1) acc := by
  rw [rest_some (32 :: r) 1 (by rw [lead_cons, if_pos (by decide)]; omega) k acc]; rfl
/-- func f(){print -/
def toks1 : List Tok := [⟨2, [102, 117, 110, 99], 0⟩, ⟨1, [102], 5⟩, ⟨4, [40], 6⟩, ⟨4, [41], 7⟩, ⟨4, [123], 8⟩, ⟨2, [112, 114, 105, 110, 116], 9⟩]
theorem rest_print (r : List UInt8) : rest (102 :: 117 :: 110 :: 99 :: 32 :: 102 :: 40 :: 41 :: 123 :: 112 :: 114 :: 105 :: 110 :: 116 :: 32 :: r) 0 [] = rest r 15 toks1 := by
  rw [rest_tok2 (kind := 2) (n := 4) (r := 32 :: 102 :: 40 :: 41 :: 123 :: 112 :: 114 :: 105 :: 110 :: 116 :: 32 :: r) (k2 := 4) (acc2 := [⟨2, [102, 117, 110, 99], 0⟩]) rfl (by simp) rfl rfl rfl]
  rw [rest_blank]
  rw [rest_tok2 (kind := 1) (n := 1) (r := 40 :: 41 :: 123 :: 112 :: 114 :: 105 :: 110 :: 116 :: 32 :: r) (k2 := 6) (acc2 := [⟨2, [102, 117, 110, 99], 0⟩, ⟨1, [102], 5⟩]) rfl (by simp) rfl rfl rfl]
  rw [rest_tok2 (kind := 4) (n := 1) (r := 41 :: 123 :: 112 :: 114 :: 105 :: 110 :: 116 :: 32 :: r) (k2 := 7) (acc2 := [⟨2, [102, 117, 110, 99], 0⟩, ⟨1, [102], 5⟩, ⟨4, [40], 6⟩]) rfl (by simp) rfl rfl rfl]
  rw [rest_tok2 (kind := 4) (n := 1) (r := 123 :: 112 :: 114 :: 105 :: 110 :: 116 :: 32 :: r) (k2 := 8) (acc2 := [⟨2, [102, 117, 110, 99], 0⟩, ⟨1, [102], 5⟩, ⟨4, [40], 6⟩, ⟨4, [41], 7⟩]) rfl (by simp) rfl rfl rfl]
  rw [rest_tok2 (kind := 4) (n := 1) (r := 112 :: 114 :: 105 :: 110 :: 116 :: 32 :: r) (k2 := 9) (acc2 := [⟨2, [102, 117, 110, 99], 0⟩, ⟨1, [102], 5⟩, ⟨4, [40], 6⟩, ⟨4, [41], 7⟩, ⟨4, [123], 8⟩]) rfl (by simp) rfl rfl rfl]
  rw [rest_tok2 (kind := 2) (n := 5) (r := 32 :: r) (k2 := 14) (acc2 := toks1) rfl (by simp) rfl rfl rfl]
  rw [rest_blank]
theorem rest_open (r : List UInt8) : rest (40 :: 32 :: r) 15 toks1 = rest r 17 (toks1 ++ [⟨4, [40], 15⟩]) := by
  rw [rest_tok2 (kind := 4) (n := 1) (r := 32 :: r) (k2 := 16) (acc2 := toks1 ++ [⟨4, [40], 15⟩]) rfl (by simp) rfl rfl rfl, rest_blank]
theorem rest_end1 (k : Nat) (acc : List Tok) : rest [59, 125] k acc = .ok (acc ++ [⟨4, [59], k⟩, ⟨4, [125], k + 1⟩]) := by
  rw [rest_tok2 (kind := 4) (n := 1) (r := [125]) (k2 := k + 1) (acc2 := acc ++ [⟨4, [59], k⟩]) rfl (by simp) rfl rfl rfl]
  rw [rest_tok2 (kind := 4) (n := 1) (r := []) (k2 := k + 1 + 1) (acc2 := acc ++ [⟨4, [59], k⟩] ++ [⟨4, [125], k + 1⟩]) rfl (by simp) rfl rfl rfl, rest_nil]
  simp
theorem rest_end2 (k : Nat) (acc : List Tok) : rest [32, 41, 32, 59, 125] k acc = .ok (acc ++ [⟨4, [41], k + 1⟩, ⟨4, [59], k + 3⟩, ⟨4, [125], k + 4⟩]) := by
  rw [rest_blank, rest_tok2 (kind := 4) (n := 1) (r := [32, 59, 125]) (k2 := k + 1 + 1) (acc2 := acc ++ [⟨4, [41], k + 1⟩]) rfl (by simp) rfl rfl rfl, rest_blank, rest_end1]
  simp
theorem rest_of (e : List UInt8) (ts : List Tok) (h : lex e = .ok ts) (d : Nat) (acc : List Tok) : rest e d acc = .ok (acc ++ ts.map (Tok.shift d)) := by
  have h2 := rest_shift acc d e 0 []
  rw [lex_rest] at h
  rw [h, List.map_nil, List.append_nil, Nat.zero_add] at h2
  exact h2
theorem lex_print1 (e : List UInt8) (ts : List Tok) (h : lex e = .ok ts) : lex (102 :: 117 :: 110 :: 99 :: 32 :: 102 :: 40 :: 41 :: 123 :: 112 :: 114 :: 105 :: 110 :: 116 :: 32 :: (e ++ [10, 59, 125])) = .ok (toks1 ++ ts.map (Tok.shift 15) ++ [⟨4, [59], 15 + e.length + 1⟩, ⟨4, [125], 15 + e.length + 1 + 1⟩]) := by
  rw [lex_rest, rest_print, rest_behind, rest_of e ts h]
  exact rest_end1 _ _
theorem lex_print2 (e : List UInt8) (ts : List Tok) (h : lex e = .ok ts) : lex (102 :: 117 :: 110 :: 99 :: 32 :: 102 :: 40 :: 41 :: 123 :: 112 :: 114 :: 105 :: 110 :: 116 :: 32 :: 40 :: 32 :: (e ++ [10, 32, 41, 32, 59, 125])) = .ok (toks1 ++ [⟨4, [40], 15⟩] ++ ts.map (Tok.shift 17) ++ [⟨4, [41], 17 + e.length + 1 + 1⟩, ⟨4, [59], 17 + e.length + 1 + 3⟩, ⟨4, [125], 17 + e.length + 1 + 4⟩]) := by
  rw [lex_rest, rest_print, rest_open, rest_behind, rest_of e ts h]
  exact rest_end2 _ _
end Lx
theorem kt_shift (ts : List Lx.Tok) (d e : Nat) : (ts.map (Lx.Tok.shift d)).map Ps.kt = (ts.map (Lx.Tok.shift e)).map Ps.kt := by
  rw [List.map_map, List.map_map]; rfl
theorem opens_shift (ts : List Lx.Tok) (d : Nat) : Ps.opens (ts.map (Lx.Tok.shift d)) = Ps.opens ts := by
  unfold Ps.opens; rw [List.countP_map]; rfl
/-- Brackets around print's expression. -/
theorem FileOk.braces {e : List UInt8} {ts : List Lx.Tok} {ks : List Tr} (h : Lx.lex e = .ok ts) (hs : ∀ t ∈ ts, t.text ≠ [59]) (ho : Ps.opens ts ≤ 100)
    (hf : FileOk (102 :: 117 :: 110 :: 99 :: 32 :: 102 :: 40 :: 41 :: 123 :: 112 :: 114 :: 105 :: 110 :: 116 :: 32 :: (e ++ [10, 59, 125])) ks) :
    FileOk (102 :: 117 :: 110 :: 99 :: 32 :: 102 :: 40 :: 41 :: 123 :: 112 :: 114 :: 105 :: 110 :: 116 :: 32 :: 40 :: 32 :: (e ++ [10, 32, 41, 32, 59, 125])) ks := by
  obtain ⟨us, l, h1, h2, h3⟩ := hf
  rw [Lx.lex_print1 e ts h] at h1
  cases h1
  rw [List.append_assoc, List.append_assoc] at h2
  obtain ⟨K, hK⟩ : ∃ K, K = (102 :: 117 :: 110 :: 99 :: 32 :: 102 :: 40 :: 41 :: 123 :: 112 :: 114 :: 105 :: 110 :: 116 :: 32 :: 40 :: 32 :: (e ++ [10, 32, 41, 32, 59, 125])).length := ⟨_, rfl⟩
  have hb : Ps.Eats (.file []) (Lx.toks1 ++ [⟨4, [40], 15⟩] ++ ts.map (Lx.Tok.shift 17) ++ [⟨4, [41], 17 + e.length + 1 + 1⟩, ⟨4, [59], 17 + e.length + 1 + 3⟩, ⟨4, [125], 17 + e.length + 1 + 4⟩] ++ [⟨5, [], K⟩]) 0 (.ok ks [⟨5, [], K⟩]) := by
    rw [List.append_assoc, List.append_assoc, List.append_assoc]
    exact Ps.braces_eats (kt_shift ts 15 17) (fun t ht => by
      obtain ⟨u, hu, rfl⟩ := List.mem_map.1 ht
      exact hs u hu) (by rw [opens_shift]; exact ho) h2
  rw [hK] at hb
  exact ⟨_, _, Lx.lex_print2 e ts h, hb, h3⟩
end Go.Proofs.YtdaaecnmllpgdaaGreatDoor
