/-
  The tokens that lex tells are such as the document's reader reads.
-/
import Derived.Test.YtfegodofbdlbeaaGreatDoorRsRules
import Derived.Test.YtfegodofbdlbeaaGreatDoorEndAll
namespace Go.Proofs.YtfegodofbdlbeaaGreatDoor
open Go.RowKit Go.Shelf
open Rs (St)

theorem words_all : (Lx.words ++ Lx.signs).all (fun w => match Lx.step w with | .tok k _ => k == 2 || k == 4 | _ => true) = true := by decide
theorem words_kind {w : List UInt8} (hw : w ∈ Lx.words ++ Lx.signs) {k n : Nat} (h : Lx.step w = .tok k n) : k = 2 ∨ k = 4 := by
  have := List.all_eq_true.1 words_all w hw
  rw [h] at this
  simpa using this
theorem lex_known {s : List UInt8} {ts : List Lx.Tok} (h : Lx.lex s = .ok ts) (hs : s.length ≤ 1000000) (e : Nat) : Known (ts ++ [⟨5, [], e⟩]) := by
  intro t ht
  rcases List.mem_append.1 ht with ht | ht
  · have hf := (Lx.lex_told h).fine t ht
    obtain ⟨-, h1, h2, h3⟩ := fine_ok hf (by have := ((Lx.lex_told h).there t ht).1; omega)
    exact ⟨⟨h1, h2, h3⟩, fun hw => words_kind hw hf.own⟩
  · rw [List.mem_singleton] at ht
    subst ht
    exact ⟨⟨by simp, by simp, by simp⟩, fun hw => absurd (show ([] : List UInt8) ∈ Lx.words ++ Lx.signs from hw) (by decide)⟩
theorem ends_of (e : Nat) : ∀ ts : List Lx.Tok, (∀ t ∈ ts, t.kind ≠ 5) → Rs.Ends (ts ++ [⟨5, [], e⟩])
  | [], _ => .inl ⟨rfl, rfl, rfl⟩
  | t :: ts, h => .inr ⟨h t (by simp), ends_of e ts fun u hu => h u (by simp [hu])⟩
theorem lex_ends {s : List UInt8} {ts : List Lx.Tok} (h : Lx.lex s = .ok ts) (hs : s.length ≤ 1000000) (e : Nat) : Rs.Ends (ts ++ [⟨5, [], e⟩]) :=
  ends_of e ts fun t ht => (fine_ok ((Lx.lex_told h).fine t ht) (by have := ((Lx.lex_told h).there t ht).1; omega)).1
/-- The reader, as it begins. -/
def Rs.st0 : St := ⟨0, 0, 0, 0⟩
theorem lex_good {s : List UInt8} {ts : List Lx.Tok} (h : Lx.lex s = .ok ts) (hs : s.length ≤ 1000000) (e : Nat) : Rs.Good (ts ++ [⟨5, [], e⟩]) Rs.st0 :=
  ⟨lex_ends h hs e, fun _ => by show (0 : Int) ≤ 0 ∧ (0 : Int) ≤ 120; omega⟩
theorem rat_of_owns {w : World} {B : Nat} {v : Value} {L : List Lx.Tok} (h : w.ownsRow B 49 3 v L.length (tokCells L)) (hl : L ≠ []) (hn : L.length ≤ 100000000) :
    ∃ tb c, v = .slice (some ⟨tb, 0, none⟩) L.length c ∧ tb < w.heap.size ∧ ∀ (W : World) (b : Nat), tb ≠ b → (∀ k, k < w.heap.size → W.heap[k]? = w.heap[k]?) → W.heap[b]? = some (.cells #[v, .int .i64 0, .int .i64 0, .int .i64 0, .int .i64 0] 46 (0, 0)) → RAt b L Rs.st0 W := by
  obtain ⟨e1, ⟨-, e2⟩ | ⟨g, cap, cur, rfl, -, hg, hc, -, hsz, ht⟩⟩ := h
  · exact absurd (List.length_eq_zero_iff.1 e2) hl
  have hgl := (Array.getElem?_eq_some_iff.1 hg).1
  refine ⟨g, cap, rfl, hgl, fun W b hb hk hB => ⟨g, cap, hb, ⟨cur, _, (hk g hgl).trans hg⟩, hB, hc, hn, fun j u hu => ?_⟩⟩
  have hj : j < (tokCells L).length := (List.getElem?_eq_some_iff.1 hu).1
  rw [← ht, List.getElem?_take_of_lt (by omega)] at hu
  refine cells_at ((hk g hgl).trans hg) ?_
  rw [← Array.getElem?_toList]
  exact hu
end Go.Proofs.YtfegodofbdlbeaaGreatDoor
