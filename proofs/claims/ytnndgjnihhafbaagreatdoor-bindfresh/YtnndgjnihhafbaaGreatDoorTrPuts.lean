/-
  Several texts in one, as they are: TrPut, TrPut2, TrSort.
-/
import Derived.Test.YtnndgjnihhafbaaGreatDoorTrAll
import Derived.Lib.OwnBridge
import Derived.Sort.OwnSorted
import Derived.Lib.RowBridge
import Derived.Lib.SlicesCompact

/-
  The walk of tree.Put.
-/
namespace Go.Proofs.YtnndgjnihhafbaaGreatDoor
open Go.RowKit Go.Shelf

attribute [local go_sem] Oper.semAt_some

namespace Tr
theorem sizes_set : ∀ (l : List Tr) (q : Nat) (y z : Tr), l[q]? = some y → sizes (l.set q z) + size y = sizes l + size z
  | [], q, _, _, h => by simp at h
  | x :: l, 0, y, z, h => by
    simp at h; subst h
    simp [List.set_cons_zero, sizes_cons]; omega
  | x :: l, q + 1, y, z, h => by
    have := sizes_set l q y z (by simpa using h)
    rw [List.set_cons_succ, sizes_cons, sizes_cons]; omega
theorem texts_set : ∀ (l : List Tr) (q : Nat) (z : Tr), ∀ s ∈ textsL (l.set q z), s ∈ textsL l ∨ s ∈ texts z
  | [], _, _, s, h => by simp [textsL_nil] at h
  | x :: l, 0, z, s, h => by
    rw [List.set_cons_zero, textsL_cons, List.mem_append] at h
    rcases h with h | h
    · exact .inr h
    · exact .inl (by rw [textsL_cons, List.mem_append]; exact .inr h)
  | x :: l, q + 1, z, s, h => by
    rw [List.set_cons_succ, textsL_cons, List.mem_append] at h
    rcases h with h | h
    · exact .inl (by rw [textsL_cons, List.mem_append]; exact .inl h)
    · rcases texts_set l q z s h with h | h
      · exact .inl (by rw [textsL_cons, List.mem_append]; exact .inr h)
      · exact .inr h
theorem put_bd (y : Tr) : ∀ (p : List Int) (x z : Tr), put y p x = some z → size z ≤ size x + size y ∧ ∀ s ∈ texts z, s ∈ texts x ∨ s ∈ texts y
  | [], x, z, h => by
    have e : z = y := (Option.some.inj h).symm
    subst e
    exact ⟨by omega, fun s hs => .inr hs⟩
  | i :: p, x, z, h => by
    by_cases hi : 0 ≤ i ∧ i < x.kids.length
    · obtain ⟨q, rfl⟩ : ∃ q : Nat, i = q := ⟨i.toNat, by omega⟩
      have hq : q < x.kids.length := by omega
      rw [put_in (List.getElem?_eq_getElem hq)] at h
      obtain ⟨u, hu, rfl⟩ := Option.map_eq_some_iff.1 h
      have ih := put_bd y p _ u hu
      have hs := sizes_set x.kids q _ u (List.getElem?_eq_getElem hq)
      refine ⟨?_, fun s hs' => ?_⟩
      · rw [size_eq, size_eq x]
        show 1 + sizes (x.kids.set q u) ≤ _
        omega
      · rw [texts_eq] at hs'
        rcases List.mem_cons.1 hs' with e | hs'
        · exact .inl (by rw [texts_eq, e]; exact List.mem_cons_self)
        · rcases texts_set x.kids q u s hs' with h1 | h1
          · exact .inl (by rw [texts_eq]; exact List.mem_cons_of_mem _ h1)
          · rcases ih.2 s h1 with h2 | h2
            · exact .inl (by rw [texts_eq]; exact List.mem_cons_of_mem _ (textsL_mem (List.getElem_mem hq) s h2))
            · exact .inr h2
    · rw [put_out hi] at h; cases h
theorem Bd.put {x y z : Tr} {p : List Int} (h : put y p x = some z) (hx : Bd [x, y]) : Bd [z] := by
  have := put_bd y p x z h
  refine ⟨?_, fun s hs => ?_⟩
  · have h1 := hx.1
    simp only [sizes_cons, sizes_nil] at h1 ⊢
    omega
  · have hs' : s ∈ texts z := by simpa [textsL_cons, textsL_nil] using hs
    refine hx.2 s ?_
    simp only [textsL_cons, textsL_nil, List.append_nil, List.mem_append]
    exact this.2 s hs'
end Tr

end Go.Proofs.YtnndgjnihhafbaaGreatDoor

/-
  The walk of tree.Put, whole.
-/
namespace Go.Proofs.YtnndgjnihhafbaaGreatDoor
open Go.RowKit Go.Shelf

attribute [local go_sem] Oper.semAt_some

end Go.Proofs.YtnndgjnihhafbaaGreatDoor

/-
  Names sorted, each once: as plain lists.
-/
namespace Go.Proofs.YtnndgjnihhafbaaGreatDoor

namespace Nm
theorem lt_of (a b : List UInt8) (h : a ≤ b) (k : a ≠ b) : a < b := by
  rcases (inferInstance : Decidable (a < b)) with h1 | h1
  · exact absurd (List.le_antisymm h (by simpa [List.not_lt] using h1)) k
  · exact h1
theorem less_iff : ∀ x y : List UInt8, Op.bytesLess x y = decide (x < y)
  | _, [] => by rw [Op.bytesLess]; simp
  | [], b :: y => by rw [Op.bytesLess]; simp
  | a :: x, b :: y => by
    rw [Op.bytesLess, less_iff x y, Bool.eq_iff_iff]
    simp [List.cons_lt_cons_iff]
def srt (L : List (List UInt8)) : List (List UInt8) := L.mergeSort fun x y => decide (x ≤ y)
theorem srt_perm (L : List (List UInt8)) : (srt L).Perm L := List.mergeSort_perm L _
theorem srt_pair (L : List (List UInt8)) : (srt L).Pairwise (fun a b => a ≤ b) :=
  (List.pairwise_mergeSort (fun a b c h k => by simp at *; exact List.le_trans h k) (fun a b => by simp; exact List.le_total a b) L).imp (fun h => by simpa using h)

/-- Of a row that rises each element once. -/
theorem compact_spec (d : List (List UInt8)) (hd : d.Pairwise (fun a b => a ≤ b)) : ∀ m, m ≤ d.length → (Lib.compactUpTo d.toArray m).Pairwise (fun a b => a < b) ∧ (∀ s, s ∈ Lib.compactUpTo d.toArray m ↔ ∃ j, j < m ∧ d[j]? = some s) ∧ (∀ s ∈ Lib.compactUpTo d.toArray m, ∀ (t : List UInt8), 0 < m → d[m - 1]? = some t → s ≤ t) := by
  intro m
  induction m with
  | zero =>
    intro _
    have e : Lib.compactUpTo d.toArray 0 = [] := rfl
    rw [e]
    exact ⟨List.Pairwise.nil, fun s => by simp, fun s hs => by cases hs⟩
  | succ m ih =>
    intro hm
    obtain ⟨i1, i2, i3⟩ := ih (by omega)
    have hml : m < d.length := by omega
    have hget : d.toArray[m]! = d[m] := by simp [getElem!_pos, hml]
    have hsome : d[m]? = some d[m] := List.getElem?_eq_getElem hml
    have hle : ∀ s ∈ Lib.compactUpTo d.toArray m, s ≤ d[m] := fun s hs => by
      rcases Nat.eq_zero_or_pos m with h0 | h0
      · subst h0; have e : Lib.compactUpTo d.toArray 0 = [] := rfl
        rw [e] at hs; cases hs
      · have h1 := i3 s hs d[m - 1] h0 (List.getElem?_eq_getElem (by omega))
        exact List.le_trans h1 (List.pairwise_iff_getElem.1 hd (m - 1) m (by omega) hml (by omega))
    rw [Lib.compactUpTo_succ, hget]
    by_cases hk : Lib.keeps d.toArray m = true
    · rw [if_pos hk]
      refine ⟨?_, fun s => ?_, fun s hs t _ ht => ?_⟩
      · rw [List.pairwise_append]
        refine ⟨i1, by simp, fun a ha b hb => ?_⟩
        rw [List.mem_singleton] at hb
        subst hb
        refine lt_of a _ (hle a ha) (fun e => ?_)
        rcases Nat.eq_zero_or_pos m with h0 | h0
        · subst h0; have e0 : Lib.compactUpTo d.toArray 0 = [] := rfl
          rw [e0] at ha; cases ha
        · have h1 := i3 a ha d[m - 1] h0 (List.getElem?_eq_getElem (by omega))
          have h2 : d[m - 1] ≤ d[m] := List.pairwise_iff_getElem.1 hd (m - 1) m (by omega) hml (by omega)
          have h3 : d[m] = d[m - 1] := (List.le_antisymm (e ▸ h2) h1).symm ▸ e.symm ▸ rfl
          simp only [Lib.keeps, decide_eq_true_eq] at hk
          rcases hk with hk | hk
          · omega
          · rw [hget] at hk
            have hg2 : d.toArray[m - 1]! = d[m - 1] := by simp [getElem!_pos, show m - 1 < d.length from by omega]
            exact hk (by rw [hg2]; exact h3)
      · rw [List.mem_append, i2 s, List.mem_singleton]
        constructor
        · rintro (⟨j, hj, h⟩ | rfl)
          · exact ⟨j, by omega, h⟩
          · exact ⟨m, by omega, hsome⟩
        · rintro ⟨j, hj, h⟩
          by_cases e : j = m
          · subst e; right; rw [hsome] at h; exact (Option.some.inj h).symm
          · exact .inl ⟨j, by omega, h⟩
      · rw [Nat.add_sub_cancel, hsome] at ht
        cases ht
        rcases List.mem_append.1 hs with hs | hs
        · exact hle s hs
        · rw [List.mem_singleton] at hs; subst hs; exact List.le_refl _
    · rw [if_neg hk, List.append_nil]
      have h0 : 0 < m := by
        rcases Nat.eq_zero_or_pos m with h0 | h0
        · subst h0; exact absurd (by simp [Lib.keeps]) hk
        · exact h0
      have heq : d[m] = d[m - 1] := by
        simp only [Lib.keeps, decide_eq_true_eq, not_or, ne_eq, Decidable.not_not] at hk
        have hg2 : d.toArray[m - 1]! = d[m - 1] := by simp [getElem!_pos, show m - 1 < d.length from by omega]
        rw [← hget, ← hg2]; exact hk.2
      refine ⟨i1, fun s => ?_, fun s hs t _ ht => ?_⟩
      · rw [i2 s]
        constructor
        · rintro ⟨j, hj, h⟩; exact ⟨j, by omega, h⟩
        · rintro ⟨j, hj, h⟩
          by_cases e : j = m
          · subst e
            exact ⟨j - 1, by omega, by rw [List.getElem?_eq_getElem (by omega), ← heq]; rw [hsome] at h; exact h⟩
          · exact ⟨j, by omega, h⟩
      · rw [Nat.add_sub_cancel, hsome] at ht
        cases ht
        exact hle s hs

/-- What Names tells of a row. -/
def uniq (L : List (List UInt8)) : List (List UInt8) := Lib.compact (srt L)
theorem uniq_rises (L : List (List UInt8)) : (uniq L).Pairwise (fun a b => a < b) := (compact_spec (srt L) (srt_pair L) (srt L).length (Nat.le_refl _)).1
theorem uniq_mem (L : List (List UInt8)) (s : List UInt8) : s ∈ uniq L ↔ s ∈ L := by
  have h := (compact_spec (srt L) (srt_pair L) (srt L).length (Nat.le_refl _)).2.1 s
  rw [← (srt_perm L).mem_iff]
  refine h.trans ?_
  rw [List.mem_iff_getElem?]
  exact ⟨fun ⟨j, _, h⟩ => ⟨j, h⟩, fun ⟨j, h⟩ => ⟨j, (List.getElem?_eq_some_iff.1 h).1, h⟩⟩
theorem uniq_len (L : List (List UInt8)) : (uniq L).length ≤ L.length := by
  have := Lib.compact_length_le (srt L)
  rw [(srt_perm L).length_eq] at this
  exact this
end Nm
end Go.Proofs.YtnndgjnihhafbaaGreatDoor
