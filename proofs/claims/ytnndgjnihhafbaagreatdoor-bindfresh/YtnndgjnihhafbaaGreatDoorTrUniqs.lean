/-
  Several texts in one, as they are: TrRefUniq, TrRefSize, TrSizesLaw.
-/
import Derived.Test.YtnndgjnihhafbaaGreatDoorTrNames2

/-
  Names put into a row that rises, one by one.
-/
namespace Go.Proofs.YtnndgjnihhafbaaGreatDoor

namespace Nm
theorem uniq_nil : uniq [] = [] := List.length_eq_zero_iff.1 (Nat.le_zero.1 (uniq_len []))
theorem uniq_old {X : List (List UInt8)} {s : List UInt8} (h : s ∈ uniq X) : uniq (X ++ [s]) = uniq X := uniq_ext (fun t => by
  rw [List.mem_append, List.mem_singleton]
  exact ⟨fun h1 => h1.elim id (fun e => e ▸ (uniq_mem X s).1 h), .inl⟩)
theorem ge_of (a b : List UInt8) (h : ¬ a < b) : b ≤ a := by simpa [List.not_lt] using h
/-- A name that is new, put where it belongs. -/
theorem uniq_new {X : List (List UInt8)} {s : List UInt8} {a : Nat} (ha : a ≤ (uniq X).length) (h1 : ∀ q t, q < a → (uniq X)[q]? = some t → t < s) (h2 : ∀ t, (uniq X)[a]? = some t → ¬ t < s ∧ t ≠ s) : (uniq X).take a ++ s :: (uniq X).drop a = uniq (X ++ [s]) := by
  have hr := uniq_rises X
  have hsd : ∀ t ∈ (uniq X).drop a, s < t := fun t ht => by
    obtain ⟨i, hi, rfl⟩ := List.getElem_of_mem ht
    rw [List.getElem_drop]
    have hal : a < (uniq X).length := by rw [List.length_drop] at hi; omega
    obtain ⟨k1, k2⟩ := h2 _ (List.getElem?_eq_getElem hal)
    have h0 : s < (uniq X)[a] := lt_of _ _ (ge_of _ _ k1) (fun e => k2 e.symm)
    rcases Nat.eq_zero_or_pos i with rfl | hi0
    · exact h0
    · exact List.lt_trans h0 (List.pairwise_iff_getElem.1 hr a (a + i) hal (by rw [List.length_drop] at hi; omega) (by omega))
  have hts : ∀ t ∈ (uniq X).take a, t < s := fun t ht => by
    obtain ⟨i, hi, rfl⟩ := List.getElem_of_mem ht
    have hi' : i < a := by rw [List.length_take] at hi; omega
    exact h1 i _ hi' (by rw [List.getElem?_eq_getElem (by omega), List.getElem_take])
  refine rises_ext _ _ ?_ (uniq_rises _) (fun t => ?_)
  · rw [List.pairwise_append]
    refine ⟨hr.sublist (List.take_sublist _ _), List.pairwise_cons.2 ⟨hsd, hr.sublist (List.drop_sublist _ _)⟩, fun x hx y hy => ?_⟩
    rcases List.mem_cons.1 hy with rfl | hy
    · exact hts x hx
    · exact List.lt_trans (hts x hx) (hsd y hy)
  · rw [uniq_mem, List.mem_append, List.mem_cons, List.mem_append, List.mem_singleton, ← uniq_mem X t]
    conv => rhs; rw [← List.take_append_drop a (uniq X)]
    rw [List.mem_append]
    constructor
    · rintro (h | rfl | h)
      · exact .inl (.inl h)
      · exact .inr rfl
      · exact .inl (.inr h)
    · rintro ((h | h) | rfl)
      · exact .inl h
      · exact .inr (.inr h)
      · exact .inr (.inl rfl)
end Nm
end Go.Proofs.YtnndgjnihhafbaaGreatDoor

/-
  The walk of the document's Size.
-/
namespace Go.Proofs.YtnndgjnihhafbaaGreatDoor
open Go.RowKit Go.Shelf

attribute [local go_sem] Oper.semAt_some

end Go.Proofs.YtnndgjnihhafbaaGreatDoor

/-
  The walk of the law TreeSizes.
-/
namespace Go.Proofs.YtnndgjnihhafbaaGreatDoor
open Go.RowKit Go.Shelf

attribute [local go_sem] Oper.semAt_some

namespace Nm
end Nm

mutual
theorem names_len1 : ∀ x : Tr, x.names.length ≤ x.size
  | .mk k t n l => by
    rw [Tr.names_eq, Tr.size_eq, List.length_append]
    have h1 : (Tr.own (.mk k t n l)).length ≤ 1 := by unfold Tr.own; split <;> simp
    have h2 := names_len l
    show _ + (Tr.namesL l).length ≤ 1 + Tr.sizes l
    omega
theorem names_len : ∀ l : List Tr, (Tr.namesL l).length ≤ Tr.sizes l
  | [] => by simp [Tr.namesL_nil]
  | x :: l => by
    rw [Tr.namesL_cons, Tr.sizes_cons, List.length_append]
    have h1 := names_len1 x
    have h2 := names_len l
    omega
end

end Go.Proofs.YtnndgjnihhafbaaGreatDoor
