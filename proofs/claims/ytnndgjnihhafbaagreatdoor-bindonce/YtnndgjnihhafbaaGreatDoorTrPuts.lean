/-
  Several texts in one, as they are: TrPut, TrPut2, TrSort.
-/
import Derived.Test.YtnndgjnihhafbaaGreatDoorTrAll
import Derived.Lib.OwnBridge
import Derived.Sort.OwnSorted
import Derived.Lib.RowBridge
import Derived.Lib.SlicesCompact

/-
  The walk of tree.Put.
-/
namespace Go.Proofs.YtnndgjnihhafbaaGreatDoor
open Go.RowKit Go.Shelf

attribute [local go_sem] Oper.semAt_some

namespace Tr
theorem sizes_set : ∀ (l : List Tr) (q : Nat) (y z : Tr), l[q]? = some y → sizes (l.set q z) + size y = sizes l + size z
  | [], q, _, _, h => by simp at h
  | x :: l, 0, y, z, h => by
    simp at h; subst h
    simp [List.set_cons_zero, sizes_cons]; omega
  | x :: l, q + 1, y, z, h => by
    have := sizes_set l q y z (by simpa using h)
    rw [List.set_cons_succ, sizes_cons, sizes_cons]; omega
theorem texts_set : ∀ (l : List Tr) (q : Nat) (z : Tr), ∀ s ∈ textsL (l.set q z), s ∈ textsL l ∨ s ∈ texts z
  | [], _, _, s, h => by simp [textsL_nil] at h
  | x :: l, 0, z, s, h => by
    rw [List.set_cons_zero, textsL_cons, List.mem_append] at h
    rcases h with h | h
    · exact .inr h
    · exact .inl (by rw [textsL_cons, List.mem_append]; exact .inr h)
  | x :: l, q + 1, z, s, h => by
    rw [List.set_cons_succ, textsL_cons, List.mem_append] at h
    rcases h with h | h
    · exact .inl (by rw [textsL_cons, List.mem_append]; exact .inl h)
    · rcases texts_set l q z s h with h | h
      · exact .inl (by rw [textsL_cons, List.mem_append]; exact .inr h)
      · exact .inr h
theorem put_bd (y : Tr) : ∀ (p : List Int) (x z : Tr), put y p x = some z → size z ≤ size x + size y ∧ ∀ s ∈ texts z, s ∈ texts x ∨ s ∈ texts y
  | [], x, z, h => by
    have e : z = y := (Option.some.inj h).symm
    subst e
    exact ⟨by omega, fun s hs => .inr hs⟩
  | i :: p, x, z, h => by
    by_cases hi : 0 ≤ i ∧ i < x.kids.length
    · obtain ⟨q, rfl⟩ : ∃ q : Nat, i = q := ⟨i.toNat, by omega⟩
      have hq : q < x.kids.length := by omega
      rw [put_in (List.getElem?_eq_getElem hq)] at h
      obtain ⟨u, hu, rfl⟩ := Option.map_eq_some_iff.1 h
      have ih := put_bd y p _ u hu
      have hs := sizes_set x.kids q _ u (List.getElem?_eq_getElem hq)
      refine ⟨?_, fun s hs' => ?_⟩
      · rw [size_eq, size_eq x]
        show 1 + sizes (x.kids.set q u) ≤ _
        omega
      · rw [texts_eq] at hs'
        rcases List.mem_cons.1 hs' with e | hs'
        · exact .inl (by rw [texts_eq, e]; exact List.mem_cons_self)
        · rcases texts_set x.kids q u s hs' with h1 | h1
          · exact .inl (by rw [texts_eq]; exact List.mem_cons_of_mem _ h1)
          · rcases ih.2 s h1 with h2 | h2
            · exact .inl (by rw [texts_eq]; exact List.mem_cons_of_mem _ (textsL_mem (List.getElem_mem hq) s h2))
            · exact .inr h2
    · rw [put_out hi] at h; cases h
theorem Bd.put {x y z : Tr} {p : List Int} (h : put y p x = some z) (hx : Bd [x, y]) : Bd [z] := by
  have := put_bd y p x z h
  refine ⟨?_, fun s hs => ?_⟩
  · have h1 := hx.1
    simp only [sizes_cons, sizes_nil] at h1 ⊢
    omega
  · have hs' : s ∈ texts z := by simpa [textsL_cons, textsL_nil] using hs
    refine hx.2 s ?_
    simp only [textsL_cons, textsL_nil, List.append_nil, List.mem_append]
    exact this.2 s hs'
end Tr

end Go.Proofs.YtnndgjnihhafbaaGreatDoor

/-
  The walk of tree.Put, whole.
-/
namespace Go.Proofs.YtnndgjnihhafbaaGreatDoor
open Go.RowKit Go.Shelf

attribute [local go_sem] Oper.semAt_some

end Go.Proofs.YtnndgjnihhafbaaGreatDoor

/-
  Names sorted, each once: as plain lists.
-/
namespace Go.Proofs.YtnndgjnihhafbaaGreatDoor

namespace Nm
end Nm
end Go.Proofs.YtnndgjnihhafbaaGreatDoor
