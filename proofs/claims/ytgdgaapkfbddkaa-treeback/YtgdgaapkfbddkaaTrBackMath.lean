/-
  What a path leads to in a tree that had a node put at a path.
-/
import Derived.Test.YtgdgaapkfbddkaaTrPairSame
namespace Go.Proofs.Ytgdgaapkfbddkaa
namespace Tr

theorem kid_of {i : Int} {x : Tr} (h : 0 ≤ i ∧ i < x.kids.length) : ∃ (j : Nat) (y : Tr), i = j ∧ x.kids[j]? = some y :=
  ⟨i.toNat, x.kids[i.toNat]'(by omega), by omega, List.getElem?_eq_getElem _⟩

theorem set_here {l : List Tr} {j : Nat} {k n : Int} {t : List UInt8} {u : Tr} (h : j < l.length) : (mk k t n (l.set j u)).kids[j]? = some u := by
  show (l.set j u)[j]? = some u
  simp [h]

theorem get_bd : ∀ (p : List Int) (x g : Tr), get p x = some g → size g ≤ size x ∧ ∀ s ∈ texts g, s ∈ texts x
  | [], x, g, h => by
    have : x = g := by simpa [get] using h
    subst this
    exact ⟨Nat.le_refl _, fun _ h => h⟩
  | i :: p, x, g, h => by
    by_cases hi : 0 ≤ i ∧ i < x.kids.length
    · obtain ⟨j, z, rfl, hz⟩ := kid_of hi
      rw [get_in hz] at h
      obtain ⟨h1, h2⟩ := get_bd p z g h
      have hm := List.mem_of_getElem? hz
      have := sizes_mem hm
      have := size_eq x
      refine ⟨by omega, fun s hs => ?_⟩
      rw [texts_eq]
      exact List.mem_cons_of_mem _ (textsL_mem hm s (h2 s hs))
    · rw [get_out hi] at h; cases h

theorem put_none (y : Tr) : ∀ (p : List Int) (x : Tr), get p x = none → put y p x = none
  | [], x, h => by simp [get] at h
  | i :: p, x, h => by
    by_cases hi : 0 ≤ i ∧ i < x.kids.length
    · obtain ⟨j, z, rfl, hz⟩ := kid_of hi
      rw [get_in hz] at h
      rw [put_in hz, put_none y p z h]
      rfl
    · exact put_out hi

theorem put_get (y : Tr) : ∀ (p : List Int) (x g : Tr), get p x = some g → ∃ z, put y p x = some z ∧ get p z = some y
  | [], x, g, h => ⟨y, by simp [put], by simp [get]⟩
  | i :: p, x, g, h => by
    by_cases hi : 0 ≤ i ∧ i < x.kids.length
    · obtain ⟨j, z, rfl, hz⟩ := kid_of hi
      rw [get_in hz] at h
      obtain ⟨u, hu, hg⟩ := put_get y p z g h
      refine ⟨mk x.k x.t x.n (x.kids.set j u), by rw [put_in hz, hu]; rfl, ?_⟩
      rw [get_in (y := u) (set_here (List.getElem?_eq_some_iff.1 hz).1)]
      exact hg
    · rw [get_out hi] at h; cases h

theorem put_self : ∀ (p : List Int) (x g : Tr), get p x = some g → put g p x = some x
  | [], x, g, h => by simp [get] at h; simp [put, h]
  | i :: p, x, g, h => by
    by_cases hi : 0 ≤ i ∧ i < x.kids.length
    · obtain ⟨j, z, rfl, hz⟩ := kid_of hi
      rw [get_in hz] at h
      rw [put_in hz, put_self p z g h]
      cases x with
      | mk k t n l =>
        simp only [kids] at hz
        have : l.set j z = l := by
          apply List.ext_getElem?
          intro q
          rw [List.getElem?_set]
          split
          · next e => subst e; rw [hz]; split <;> simp_all
          · rfl
        simp [Tr.k, Tr.t, Tr.n, kids, this]
    · rw [get_out hi] at h; cases h

theorem right_up : ∀ (m : Nat) (x : Tr), right m x = true → right (m + 1) x = true
  | 0, x, h => by simp [right] at h
  | m + 1, x, h => by
    rw [right] at h ⊢
    simp only [Bool.and_eq_true, List.all_eq_true] at h ⊢
    exact ⟨h.1, fun y hy => right_up m y (h.2 y hy)⟩

theorem right_put (y : Tr) : ∀ (p : List Int) (x z : Tr) (m : Nat), put y p x = some z → right m z = true → right m y = true
  | [], x, z, m, h, hr => by simp [put] at h; rw [h]; exact hr
  | i :: p, x, z, m, h, hr => by
    by_cases hi : 0 ≤ i ∧ i < x.kids.length
    · obtain ⟨j, q, rfl, hq⟩ := kid_of hi
      rw [put_in hq] at h
      cases hu : put y p q with
      | none => rw [hu] at h; cases h
      | some u =>
        rw [hu] at h
        have hz : z = mk x.k x.t x.n (x.kids.set j u) := by simpa using h.symm
        subst hz
        cases m with
        | zero => simp [right] at hr
        | succ m =>
          rw [right] at hr
          simp only [Bool.and_eq_true, List.all_eq_true] at hr
          refine right_up m y (right_put y p q u m hu (hr.2 u ?_))
          have : (x.kids.set j u)[j]? = some u := by
            have := (List.getElem?_eq_some_iff.1 hq).1
            simp [this]
          exact List.mem_of_getElem? this
    · rw [put_out hi] at h; cases h

/-- Two paths that part from each other. -/
def part : List Int → List Int → Bool
  | a :: p, b :: q => a != b || part p q
  | _, _ => false
theorem part_get (y : Tr) : ∀ (p q : List Int) (x z : Tr), put y p x = some z → part p q = true → get q z = get q x
  | [], q, x, z, h, hp => by simp [part] at hp
  | i :: p, [], x, z, h, hp => by simp [part] at hp
  | i :: p, b :: q, x, z, h, hp => by
    by_cases hi : 0 ≤ i ∧ i < x.kids.length
    · obtain ⟨j, s, rfl, hs⟩ := kid_of hi
      rw [put_in hs] at h
      cases hu : put y p s with
      | none => rw [hu] at h; cases h
      | some u =>
        rw [hu] at h
        have hz : z = mk x.k x.t x.n (x.kids.set j u) := by simpa using h.symm
        subst hz
        have hj := (List.getElem?_eq_some_iff.1 hs).1
        by_cases hb : 0 ≤ b ∧ b < x.kids.length
        · obtain ⟨l, r, rfl, hr⟩ := kid_of hb
          by_cases e : j = l
          · subst e
            have hpq : part p q = true := by simpa [part] using hp
            rw [get_in (y := u) (set_here hj), get_in hr]
            rw [hs] at hr
            cases hr
            exact part_get y p q s u hu hpq
          · rw [get_in (y := r) (by simp only [kids]; rw [List.getElem?_set_ne e]; exact hr), get_in hr]
        · rw [get_out hb, get_out (by simpa [kids] using hb)]
    · rw [put_out hi] at h; cases h
theorem part_drop {p q : List Int} {i : Nat} {a b : Int} (ha : p[i]? = some a) (hb : q[i]? = some b) : part (p.drop i) (q.drop i) = (a != b || part (p.drop (i + 1)) (q.drop (i + 1))) := by
  obtain ⟨h1, e1⟩ := List.getElem?_eq_some_iff.1 ha
  obtain ⟨h2, e2⟩ := List.getElem?_eq_some_iff.1 hb
  rw [List.drop_eq_getElem_cons h1, List.drop_eq_getElem_cons h2, e1, e2, part]
theorem part_end {p q : List Int} {i : Nat} (h : ¬ (i < p.length ∧ i < q.length)) : part (p.drop i) (q.drop i) = false := by
  by_cases h1 : i < p.length
  · rw [show q.drop i = [] from List.drop_eq_nil_of_le (by omega)]
    cases p.drop i <;> rfl
  · rw [show p.drop i = [] from List.drop_eq_nil_of_le (by omega)]
    rfl
end Tr
end Go.Proofs.Ytgdgaapkfbddkaa
