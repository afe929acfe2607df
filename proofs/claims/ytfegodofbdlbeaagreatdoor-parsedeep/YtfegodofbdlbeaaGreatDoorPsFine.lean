/-
  What File tells of a text, in words of the text alone.
-/
import Derived.Test.YtfegodofbdlbeaaGreatDoorEndAll
import Derived.Test.YtfegodofbdlbeaaGreatDoorMoreAll
namespace Go.Proofs.YtfegodofbdlbeaaGreatDoor
open Go.RowKit Go.Shelf

/-- The text is a right file of these functions. -/
def FileOk (s : List UInt8) (ts : List Tr) : Prop := ∃ us l', Lx.lex s = .ok us ∧ Ps.Eats (.file []) (us ++ [⟨5, [], s.length⟩]) 0 (.ok ts l') ∧ Tr.right 40 (.mk 1 [] 0 ts) = true
/-- The text has this fault. -/
def FileBad (s : List UInt8) (E i : Nat) : Prop := Lx.lex s = .fault E i ∨ ∃ us, Lx.lex s = .ok us ∧ (Ps.Eats (.file []) (us ++ [⟨5, [], s.length⟩]) 0 (.bad E i) ∨ (E = 103 ∧ i = 0 ∧ ∃ ts l', Ps.Eats (.file []) (us ++ [⟨5, [], s.length⟩]) 0 (.ok ts l') ∧ Tr.right 40 (.mk 1 [] 0 ts) = false))
theorem FileBad.known {s : List UInt8} {E i : Nat} (h : FileBad s E i) : (E = 100 ∨ E = 101 ∨ E = 102 ∨ E = 103) ∧ i ≤ s.length := by
  rcases h with h | ⟨us, h, h2 | ⟨rfl, rfl, -⟩⟩
  · obtain ⟨h1, h2⟩ := Lx.lex_fault h
    exact ⟨by rcases h2 with h2 | h2 <;> simp [h2], by omega⟩
  · obtain ⟨g1, g2⟩ := Ps.Eats.good h2 (Ps.lex_atMost h)
    exact ⟨by rcases g1 with g1 | g1 <;> simp [g1], g2⟩
  · exact ⟨by simp, Nat.zero_le _⟩
theorem FileOk.one {s : List UInt8} {ts rs : List Tr} (h : FileOk s ts) (k : FileOk s rs) : ts = rs := by
  obtain ⟨us, l, h1, h2, -⟩ := h
  obtain ⟨vs, m, k1, k2, -⟩ := k
  rw [h1] at k1; cases k1
  have := h2.one k2
  cases this; rfl
theorem FileOk.not {s : List UInt8} {ts : List Tr} {E i : Nat} (h : FileOk s ts) (k : FileBad s E i) : False := by
  obtain ⟨us, l, h1, h2, h3⟩ := h
  rcases k with k | ⟨vs, k, k2 | ⟨-, -, rs, m, k2, k3⟩⟩
  · rw [h1] at k; cases k
  · rw [h1] at k; cases k
    exact absurd (h2.one k2) (by simp)
  · rw [h1] at k; cases k
    have := h2.one k2
    cases this
    rw [h3] at k3; cases k3
theorem FileBad.one {s : List UInt8} {E i F j : Nat} (h : FileBad s E i) (k : FileBad s F j) : E = F ∧ i = j := by
  rcases h with h | ⟨us, h, h2 | ⟨rfl, rfl, ts, l, h2, h3⟩⟩ <;> rcases k with k | ⟨vs, k, k2 | ⟨rfl, rfl, rs, m, k2, k3⟩⟩ <;> rw [h] at k <;> cases k
  · exact ⟨rfl, rfl⟩
  · cases h2.one k2; exact ⟨rfl, rfl⟩
  · exact absurd (h2.one k2) (by simp)
  · exact absurd (h2.one k2) (by simp)
  · exact ⟨rfl, rfl⟩

theorem GEnd.told {s : ByteArray} {w w' : World} {e : Ending} (h : GEnd s w e w') : (∃ ts v, FileOk s.data.toList ts ∧ e = .returned (.tuple #[v, .agg #[.int .i64 0, .int .i64 0]]) ∧ NodeR (newS w.heap.size w'.heap.size) w' v (.mk 1 [] 0 ts)) ∨ ∃ E i : Nat, FileBad s.data.toList E i ∧ E ≠ 0 ∧ e = .returned (.tuple #[zeroV, .agg #[.int .i64 E, .int .i64 i]]) := by
  have hsz : s.data.toList.length = s.size := by simp
  have nz : ∀ {E i}, FileBad s.data.toList E i → E ≠ 0 := fun h => by rcases h.known.1 with h | h | h | h <;> omega
  unfold GEnd at h
  cases hl : Lx.lex s.data.toList with
  | fault E i =>
    rw [hl] at h
    have hb : FileBad s.data.toList E i := .inl hl
    exact .inr ⟨E, i, hb, nz hb, h⟩
  | ok us =>
    rw [hl] at h
    rcases h with ⟨E, i, h, h2⟩ | ⟨ts', l', h, ⟨h1, h2⟩ | ⟨h1, v, h2, h3⟩⟩
    · have hb : FileBad s.data.toList E i := .inr ⟨us, hl, .inl (by rw [hsz]; exact h)⟩
      exact .inr ⟨E, i, hb, nz hb, h2⟩
    · have hb : FileBad s.data.toList 103 0 := .inr ⟨us, hl, .inr ⟨rfl, rfl, ts', l', by rw [hsz]; exact h, h1⟩⟩
      exact .inr ⟨103, 0, hb, nz hb, h2⟩
    · exact .inl ⟨ts', v, ⟨us, l', hl, by rw [hsz]; exact h, h1⟩, h2, h3⟩

/-- No token of a text is the end. -/
theorem lex_kinds {s : List UInt8} {us : List Lx.Tok} (h : Lx.lex s = .ok us) : ∀ t ∈ us, t.kind ≠ 5 := by
  intro t ht
  have hf := (Lx.lex_told h).fine t ht
  have := hf.own
  intro e
  rw [e] at this
  unfold Lx.step at this
  split at this
  · cases this
  · split at this
    · cases this
    · split at this
      · split at this
        · cases this
        · have h2 := (Lx.Step.tok.inj this).1
          unfold Lx.sort at h2
          split at h2
          · omega
          · split at h2
            · omega
            · split at h2 <;> omega
      · split at this
        · have h2 := (Lx.Step.tok.inj this).1
          omega
        · cases this

/-- Two files, one behind the other. -/
theorem FileOk.row {a b : List UInt8} {ns ms : List Tr} (h : FileOk a ns) (k : FileOk b ms) (hr : Tr.right 40 (.mk 1 [] 0 (ns ++ ms)) = true) : FileOk (a ++ 10 :: b) (ns ++ ms) := by
  obtain ⟨us, l, h1, h2, h3⟩ := h
  obtain ⟨vs, m, k1, k2, k3⟩ := k
  have hl := Lx.lex_behind a b
  rw [h1, k1] at hl
  obtain ⟨l3, h4⟩ := (Ps.row_eats (d := a.length + 1) (lex_kinds h1) h2 k2).2 ms m rfl
  refine ⟨_, l3, hl, ?_, hr⟩
  rw [show (a ++ 10 :: b).length = b.length + (a.length + 1) by simp; omega]
  exact h4
end Go.Proofs.YtfegodofbdlbeaaGreatDoor
