/-
  Several texts in one, as they are: LxLaid, PsLaid.
-/
import Derived.Test.YtfegodofbdlbeaaGreatDoorLexAll
import Derived.Test.YtfegodofbdlbeaaGreatDoorBaseAll

/-
  The table of signs, out of the row's own condition.
-/
namespace Go.Proofs.YtfegodofbdlbeaaGreatDoor
open Go.ChangeShapes Go.WideShapes Go.ChangeAt Go.RowKit

theorem gSigns : Tryz.prog.globalNamed "clerestory/lex.signs" = some 0 := by kernel_rfl
theorem tSigns : (Tryz.prog.globals[0]?).map (·.type) = some 35 := by kernel_rfl

theorem strs_inj {H : Type} (ss : List ByteArray) (L : List (List UInt8)) (h : strs (H := H) ss = L.map fun l => .lit (.string l)) : ss.map (fun s => s.data.toList) = L := by
  unfold strs at h
  have h2 := congrArg (List.map (fun d : DataW H => match d with | .lit (.string l) => l | _ => [])) h
  rw [List.map_map, List.map_map] at h2
  have e1 : ∀ (M : List (List UInt8)), M.map ((fun d : DataW H => match d with | .lit (.string l) => l | _ => []) ∘ fun l => .lit (.string l)) = M := fun M => by
    have : ((fun d : DataW H => match d with | .lit (.string l) => l | _ => []) ∘ fun l => .lit (.string l)) = id := by funext l; rfl
    rw [this, List.map_id]
  rw [e1] at h2
  rw [← h2]
  apply List.map_congr_left
  intro s _
  rfl

end Go.Proofs.YtfegodofbdlbeaaGreatDoor

/-
  The table of signs, where more is laid.
-/
namespace Go.Proofs.YtfegodofbdlbeaaGreatDoor
open Go.ChangeShapes Go.WideShapes Go.ChangeAt Go.RowKit

theorem signs_laid6 {W : World} (h : laidMetH Tryz.prog Rows.parseTellsRow.laid W) : SignsAt W.heap.size W := by
  rw [MakeChecks.laidMetH_plain _ _ _ (by kernel_rfl)] at h
  obtain ⟨ps, ⟨_, _, _, _, _, _, _, _, _, _, ⟨_, _, _, _, _, _, _, _, _, _, ⟨_, _, _, _, _, _, _, _, _, _, ⟨_, _, _, _, _, _, _, _, _, _, ⟨_, _, _, _, _, _, _, _, _, _, ⟨g0, t0, cs0, f0, p0, q0, hg0, ht0, hv0, hd0, _, _⟩, _⟩, _⟩, _⟩, _⟩, _⟩, _, _⟩ := h
  obtain rfl := Option.some.inj (gSigns.symm.trans hg0)
  obtain rfl := Option.some.inj (tSigns.symm.trans ht0)
  rcases open_strings Tryz.underlying35 Tryz.underlying9 (by kernel_rfl) hd0 with ⟨_, hx⟩ | ⟨x, l, c, ss, hcs, _, hl, hm, hz, hzz, hcell, hwz⟩
  · simp [Rows.laid_clerestory_lex_signs] at hx
  · have e0 := (Prod.mk.inj hzz).1
    have e1 : strs (H := Unit) (ss.take l) = Lx.signs.map fun l => .lit (.string l) := by
      simp only [Rows.laid_clerestory_lex_signs, DataW.slice.injEq] at e0
      exact e0.1.symm
    have hsg := strs_inj _ _ e1
    have hlen : (ss.take l).length = Lx.signs.length := by rw [← hsg, List.length_map]
    have hlt : l ≤ ss.length := by rw [hz]; split <;> omega
    have hll : l = Lx.signs.length := by rw [← hlen, List.length_take, Nat.min_eq_left hlt]
    have hc0 : W.cell? ⟨0, 0, none⟩ = some (.slice (some x) l c) := by
      have := World.var?_cell hg0 hv0 0
      rw [Array.eq_one_of_toList hcs] at this
      simpa using this
    refine ⟨by have := World.block_lt_of_cell? _ _ hc0; exact Nat.lt_of_le_of_lt (Nat.zero_le _) this, .slice (some x) l c, hc0, ?_⟩
    unfold RowLow
    rw [← hll]
    refine cells_arg (by rw [List.length_map, ← hll]) hl (fun j u hu => ?_)
    rw [List.getElem?_map, ← hsg, List.getElem?_map, List.getElem?_take] at hu
    split at hu
    · have hj : j < ss.length := by omega
      rw [List.getElem?_eq_getElem hj] at hu
      simp only [Option.map_some, Option.some.injEq] at hu
      rw [hcell j hj, ← hu]
      simp [List.getD, List.getElem?_eq_getElem hj, txtV, Ln.bs_of]
    · simp at hu

end Go.Proofs.YtfegodofbdlbeaaGreatDoor
