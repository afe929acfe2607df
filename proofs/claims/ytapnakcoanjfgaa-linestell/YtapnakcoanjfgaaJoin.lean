/-
  The walk of lines.Join: the texts one behind the other, in a string of its own.
-/
import Derived.Test.YtapnakcoanjfgaaBuild
namespace Go.Proofs.Ytapnakcoanjfgaa
open Go.RowKit

/-- v reads, in w, as the row L of texts, in a block below n. -/
def RowLow (n : Nat) (w : World) (v : Value) (L : List (List UInt8)) : Prop :=
  (L = [] ∧ ∃ ao cap, v = .slice ao 0 cap) ∨ (∃ b off cap, b < n ∧ v = .slice (some ⟨b, off, none⟩) L.length cap ∧ ∀ (j : Nat) (x : List UInt8), L[j]? = some x → w.cell? ⟨b, off + j, none⟩ = some (.string (Ln.bs x)))

theorem RowLow.row {n : Nat} {w : World} {v : Value} {L : List (List UInt8)} (h : RowLow n w v L) : RowAt w v L := by
  rcases h with h | ⟨b, off, cap, _, h⟩
  · exact .inl h
  · exact .inr ⟨b, off, cap, h⟩
theorem RowLow.below {n m : Nat} {w w' : World} {v : Value} {L : List (List UInt8)} (h : RowLow n w v L) (hb : Below m w w') (hnm : n ≤ m) : RowLow n w' v L := by
  rcases h with h | ⟨b, off, cap, hlt, hv, hc⟩
  · exact .inl h
  · exact .inr ⟨b, off, cap, hlt, hv, fun j x hx => (hb.cell (p := ⟨b, off + j, none⟩) (by show b < m; omega)).trans (hc j x hx)⟩
theorem RowLow.mono {n m : Nat} {w : World} {v : Value} {L : List (List UInt8)} (h : RowLow n w v L) (hnm : n ≤ m) : RowLow m w v L := by
  rcases h with h | ⟨b, off, cap, hlt, h⟩
  · exact .inl h
  · exact .inr ⟨b, off, cap, by omega, h⟩
theorem RowLow.parts {n : Nat} {w : World} {v : Value} {L : List (List UInt8)} (h : RowLow n w v L) : ∃ ao cap b off, v = .slice ao L.length cap ∧ (0 < L.length → ao = some ⟨b, off, none⟩ ∧ b < n) ∧ ∀ (j : Nat) (x : List UInt8), L[j]? = some x → w.cell? ⟨b, off + j, none⟩ = some (.string (Ln.bs x)) := by
  rcases h with ⟨rfl, ao, cap, rfl⟩ | ⟨b, off, cap, hlt, rfl, hc⟩
  · exact ⟨ao, cap, 0, 0, rfl, fun h => absurd h (by simp), fun j x hx => by simp at hx⟩
  · exact ⟨_, cap, b, off, rfl, fun _ => ⟨rfl, hlt⟩, hc⟩
theorem RowLow.of_owns {W : World} {B : Nat} {v : Value} {L : List (List UInt8)} (h : W.ownsRow B 9 1 v L.length (L.map txtV)) : RowLow W.heap.size W v L := by
  rcases RowAt.of_owns h (Below.refl _ W) with h2 | ⟨b, off, cap, hv, hc⟩
  · exact .inl h2
  · by_cases h0 : L = []
    · subst h0; exact .inl ⟨rfl, _, _, hv⟩
    · refine .inr ⟨b, off, cap, ?_, hv, hc⟩
      have := (h.lt b (by rw [hv]; rfl)).2
      exact this

theorem strCells_bs (x : List UInt8) : Lib.strCells (Ln.bs x) = Lib.byteCells x := rfl
theorem byteCells_app (x y : List UInt8) : Lib.byteCells (x ++ y) = Lib.byteCells x ++ Lib.byteCells y := by simp [Lib.byteCells]
theorem take_flat (L : List (List UInt8)) (k : Nat) (x : List UInt8) (hx : L[k]? = some x) : (L.take (k + 1)).flatten = (L.take k).flatten ++ x := by
  obtain ⟨hk, hx⟩ := List.getElem?_eq_some_iff.1 hx
  rw [List.take_succ_eq_append_getElem hk, List.flatten_append, hx]; simp
theorem take_flat_le (L : List (List UInt8)) (k : Nat) : (L.take k).flatten.length ≤ L.flatten.length := by
  conv => rhs; rw [← List.take_append_drop k L]
  rw [List.flatten_append, List.length_append]; omega

set_option maxRecDepth 100000 in
set_option maxHeartbeats 1000000 in
theorem putLines_any (B b : Nat) (L : List (List UInt8)) (v : Value) (w : World) (h : Lib.IsBuilder 56 5 B b [] w) (hrow : RowLow B w v L) (hBw : B ≤ w.heap.size) (hlen : L.flatten.length ≤ 140737488355328) (hl : L.length ≤ 9223372036854775807) :
    Calls Try.prog 29 #[.pointer (some ⟨b, 0, none⟩), v] w fun e w' => e = .returned (.tuple #[]) ∧ Lib.IsBuilder 56 5 B b (Lib.byteCells L.flatten) w' ∧ Below B w w' := by
  obtain ⟨ao, cap, b1, off, rfl, hao, hc⟩ := hrow.parts
  clear hrow
  go_enter Try.func29, Try.ntmps29
  go_wp2
  go_loopw [8] (fun i wr => ∃ k : Nat, k ≤ L.length ∧ i = .int .i64 k ∧ Lib.IsBuilder 56 5 B b (Lib.byteCells (L.take k).flatten) wr ∧ Below B w wr) (fun i _ => L.length - (intOf i).toNat)
  case atStart => exact ⟨0, Nat.zero_le _, rfl, h, Below.refl _ _⟩
  case round =>
    obtain ⟨k, hk, rfl, hbd, hbl⟩ := hrel
    by_cases hlt : k < L.length
    · obtain ⟨x, hx⟩ : ∃ x, L[k]? = some x := ⟨L[k], List.getElem?_eq_getElem hlt⟩
      obtain ⟨rfl, hb1⟩ := hao (by omega)
      have g1 : wr.cell? ⟨b1, off + k, none⟩ = some (.string (Ln.bs x)) := (hbl.cell (p := ⟨b1, off + k, none⟩) hb1).trans (hc k x hx)
      have hfl := take_flat L k x hx
      have hfe := take_flat_le L (k + 1)
      have HF : Hid ((L.take (k + 1)).flatten = (L.take k).flatten ++ x) := hfl
      rw [hfl, List.length_append] at hfe
      have hsz : (Lib.byteCells (L.take k).flatten).length + (Ln.bs x).size ≤ 140737488355328 := by rw [Lib.byteCells_length, Ln.bs_size]; omega
      have hBr : B ≤ wr.heap.size := Nat.le_trans hBw hbl.size
      clear hfl hfe hc hao hx
      go_wp2_with (go_at_call 34; refine (write_any B b _ _ _ hbd hsz hBr).mono ?_; rintro e w2 ⟨rfl, hbd2, hbl2⟩)
      go_roundw
      case rel => exact ⟨k + 1, by omega, by go_num, .inr (by rw [HF.out, byteCells_app]; exact hbd2), hbl.trans hbl2⟩
      case measure => simp [intOf]; omega
    · have hke : k = L.length := by omega
      have hbd2 : Lib.IsBuilder 56 5 B b (Lib.byteCells L.flatten) wr := by rw [hke, List.take_length] at hbd; exact hbd
      clear hc hao hbd
      go_wp2
      go_end0
      exact ⟨rfl, hbd2, hbl⟩

theorem fresh_builder (w : World) : Lib.IsBuilder 56 5 w.heap.size w.heap.size [] (w.alloc (.cells #[.pointer none, .slice none 0 0] 56)) :=
  .inl ⟨Nat.le_refl _, .slice none 0 0, World.alloc_heap_new w _, World.ownsRow_nil _ _ _ _, by simp [Value.ownBlock]⟩

set_option maxRecDepth 100000 in
set_option maxHeartbeats 1000000 in
theorem join_any (L : List (List UInt8)) (v : Value) (w : World) (hrow : RowLow w.heap.size w v L) (hlen : L.flatten.length ≤ 140737488355328) (hl : L.length ≤ 9223372036854775807) :
    Calls Try.prog 19 #[v] w fun e w' => e = .returned (.string (Ln.bs L.flatten)) ∧ Below w.heap.size w w' := by
  have hrow2 : RowLow w.heap.size (w.alloc (.cells #[.pointer none, .slice none 0 0] 56)) v L := hrow.below ((Below.refl _ w).alloc (Nat.le_refl _) _) (Nat.le_refl _)
  have hfb := fresh_builder w
  go_enter Try.func19, Try.ntmps19
  go_wp2_with fail
  refine (putLines_any w.heap.size w.heap.size L v _ hfb hrow2 (by simp) hlen hl).mono ?_
  rintro e w2 ⟨rfl, hbd, hbl⟩
  have hBw : w.heap.size ≤ w2.heap.size := by have := hbl.size; simp at this; omega
  go_wp2_with fail
  refine (string_any w.heap.size w.heap.size L.flatten w2 hbd hBw).mono ?_
  rintro e w3 ⟨rfl, hb3⟩
  go_wp2
  go_ret
  exact ⟨rfl, (((Below.refl _ w).alloc (Nat.le_refl _) _).trans hbl).trans hb3⟩

end Go.Proofs.Ytapnakcoanjfgaa
