/-
  Arguments that are rows of texts or of ints, opened.
-/
import Derived.Test.YtejnleigjjaenaaBase
import Derived.SliceStrings
import Derived.ProofKit
import Derived.OpenShut
import Derived.LaidMore
import Derived.Lay
import Derived.SevenTiedAt
import Derived.Stop.Joined
namespace Go.Proofs.Ytejnleigjjaenaa
open Go.ChangeShapes Go.WideShapes Go.ChangeAt Go.RowKit

theorem own : ownKnob Try.prog.godebug = none := by kernel_rfl

/-- Cells by an address, as a row. -/
theorem cells_arg {w : World} {a : Addr} {n cap : Nat} {xs : List Value} (hn : xs.length = n) (hcap : n ≤ cap) (hc : ∀ (j : Nat) (x : Value), xs[j]? = some x → w.cell? (a.add j) = some x) : CellsLow w.heap.size w (.slice (some a) n cap) n xs := by
  subst hn
  cases xs with
  | nil => exact ⟨some a, cap, 0, 0, rfl, ⟨hcap, fun e => by cases e⟩, fun h => absurd h (by simp), fun j x hx => by simp at hx⟩
  | cons y r =>
    obtain ⟨b, off, spot⟩ := a
    have h0 := hc 0 y rfl
    have hspot : spot = none := by simpa [Addr.add] using World.cell?_spot h0
    subst hspot
    have hlt : b < w.heap.size := by simpa [Addr.add] using World.block_lt_of_cell? _ _ h0
    refine ⟨_, cap, b, off, rfl, ⟨hcap, fun e => by cases e⟩, fun _ => ⟨rfl, hlt⟩, fun j x hx => ?_⟩
    have := hc j x hx
    rwa [Go.WideShapes.add_plain] at this

theorem strings_arg {H : Type} {enc : TypeId × Value → H} {W : World} {a0 : Option Addr} {len0 cap0 base : Nat} {sp : Nat → Bool} {held : Bool} {fuel : Nat} {z : DataW H × List MemPlace} (h : DataW.trod enc Try.prog W base sp held fuel 32 (Value.slice a0 len0 cap0).cells.toList = some z) :
    ∃ L : List (List UInt8), L.length = len0 ∧ RowLow W.heap.size W (.slice a0 len0 cap0) L ∧ L.length ≤ 9223372036854775807 ∧ ∀ x ∈ L, x.length ≤ 9223372036854775807 := by
  rcases open_strings Try.underlying32 Try.underlying9 (by kernel_rfl) h with ⟨hcs, _⟩ | ⟨x, l, c, ss, hcs, _, hl, hm, hz, _, hcell, hwz⟩
  · simp [Value.cells] at hcs
    obtain ⟨rfl, rfl, rfl⟩ := hcs
    exact ⟨[], rfl, ⟨none, 0, 0, 0, rfl, ⟨Nat.le_refl _, fun _ => rfl⟩, fun h => absurd h (by simp), fun j x hx => by simp at hx⟩, by simp, fun x hx => by simp at hx⟩
  · simp [Value.cells] at hcs
    obtain ⟨rfl, rfl, rfl⟩ := hcs
    have hlen : len0 ≤ ss.length := by rw [hz]; split <;> omega
    have hll : ((ss.take len0).map (fun s => s.data.toList)).length = len0 := by rw [List.length_map, List.length_take, Nat.min_eq_left hlen]
    refine ⟨(ss.take len0).map (fun s => s.data.toList), hll, ?_, ?_, ?_⟩
    · unfold RowLow
      rw [hll]
      refine cells_arg (by rw [List.length_map, hll]) hl (fun j u hu => ?_)
      rw [List.getElem?_map, List.getElem?_map, List.getElem?_take] at hu
      split at hu
      · have hj : j < ss.length := by omega
        rw [List.getElem?_eq_getElem hj] at hu
        simp only [Option.map_some, Option.some.injEq] at hu
        rw [hcell j hj, ← hu]
        simp [List.getD, List.getElem?_eq_getElem hj, txtV, Ln.bs_of]
      · simp at hu
    · rw [hll]; unfold maxLen at hm; omega
    · intro y hy
      obtain ⟨s, hs, rfl⟩ := List.mem_map.1 hy
      exact hwz s (List.mem_of_mem_take hs)

theorem ints_arg {H : Type} {enc : TypeId × Value → H} {W : World} {a0 : Option Addr} {len0 cap0 base : Nat} {sp : Nat → Bool} {held : Bool} {fuel : Nat} {z : DataW H × List MemPlace} (h : DataW.trod enc Try.prog W base sp held fuel 62 (Value.slice a0 len0 cap0).cells.toList = some z) :
    ∃ T : List Int, T.length = len0 ∧ CellsLow W.heap.size W (.slice a0 len0 cap0) T.length (T.map (Value.int .i64)) ∧ T.length ≤ 9223372036854775807 := by
  rcases open_ints Try.underlying62 Try.underlying3 (by kernel_rfl) h with ⟨hcs, _⟩ | ⟨x, l, c, zs, hcs, _, hl, hm, hz, _, hcell, _⟩
  · simp [Value.cells] at hcs
    obtain ⟨rfl, rfl, rfl⟩ := hcs
    exact ⟨[], rfl, ⟨none, 0, 0, 0, rfl, ⟨Nat.le_refl _, fun _ => rfl⟩, fun h => absurd h (by simp), fun j x hx => by simp at hx⟩, by simp⟩
  · simp [Value.cells] at hcs
    obtain ⟨rfl, rfl, rfl⟩ := hcs
    have hlen : len0 ≤ zs.length := by rw [hz]; split <;> omega
    have hll : (zs.take len0).length = len0 := by rw [List.length_take, Nat.min_eq_left hlen]
    refine ⟨zs.take len0, hll, ?_, ?_⟩
    · rw [hll]
      refine cells_arg (by rw [List.length_map, hll]) hl (fun j u hu => ?_)
      rw [List.getElem?_map, List.getElem?_take] at hu
      split at hu
      · have hj : j < zs.length := by omega
        rw [List.getElem?_eq_getElem hj] at hu
        simp only [Option.map_some, Option.some.injEq] at hu
        rw [hcell j hj, ← hu]
        simp [List.getD, List.getElem?_eq_getElem hj]
      · simp at hu
    · rw [hll]; unfold maxLen at hm; omega

end Go.Proofs.Ytejnleigjjaenaa
