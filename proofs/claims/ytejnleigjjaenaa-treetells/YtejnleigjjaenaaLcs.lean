/-
  Rows of pairs, with no word of Go: how long a longest one is, the one that is told, the hunks around it, and what follows of them.
-/
import Derived.WalkKit
namespace Go.Proofs.Ytejnleigjjaenaa
namespace Df

section
variable {α : Type}
/-- Pairs rise, and are of the same lines. -/
structure Good (a b : List α) (i j : Nat) (ps : List (Nat × Nat)) : Prop where
  ge : ∀ p ∈ ps, i ≤ p.1 ∧ j ≤ p.2
  lt : ∀ p ∈ ps, p.1 < a.length ∧ p.2 < b.length
  same : ∀ p ∈ ps, a[p.1]? = b[p.2]?
  rise : ps.Pairwise fun p q => p.1 < q.1 ∧ p.2 < q.2

theorem good_nil (a b : List α) (i j : Nat) : Good a b i j [] :=
  ⟨fun p hp => absurd hp (by simp), fun p hp => absurd hp (by simp), fun p hp => absurd hp (by simp), List.Pairwise.nil⟩

theorem Good.mono {a b : List α} {i j i' j' : Nat} {ps : List (Nat × Nat)} (h : Good a b i j ps) (hi : i' ≤ i) (hj : j' ≤ j) : Good a b i' j' ps :=
  ⟨fun p hp => ⟨Nat.le_trans hi (h.ge p hp).1, Nat.le_trans hj (h.ge p hp).2⟩, h.lt, h.same, h.rise⟩

theorem drop_cons_at {x : α} {xs a : List α} {i : Nat} (h : a.drop i = x :: xs) : i < a.length ∧ a[i]? = some x ∧ a.drop (i + 1) = xs := by
  have hi : i < a.length := by
    rcases Nat.lt_or_ge i a.length with h' | h'
    · exact h'
    · rw [List.drop_eq_nil_of_le h'] at h; cases h
  rw [List.drop_eq_getElem_cons hi] at h
  injection h with h1 h2
  exact ⟨hi, by rw [List.getElem?_eq_getElem hi, h1], h2⟩

/-- A hunk: where it begins, its lines, its new lines. -/
structure Hk (α : Type) where
  at_ : Nat
  old : List α
  new : List α
deriving DecidableEq

/-- The lines from i to x. -/
def part (a : List α) (i x : Nat) : List α := (a.drop i).take (x - i)

/-- The hunks around pairs (the last of which stands behind both ends). -/
def hks (a b : List α) : Nat → Nat → List (Nat × Nat) → List (Hk α)
  | _, _, [] => []
  | i, j, p :: ps => (if i < p.1 ∨ j < p.2 then [⟨i, part a i p.1, part b j p.2⟩] else []) ++ hks a b (p.1 + 1) (p.2 + 1) ps

/-- Hunks exchanged, from the last one on. -/
def app (a : List α) : List (Hk α) → List α
  | [] => a
  | h :: hs => (app a hs).take h.at_ ++ h.new ++ (app a hs).drop (h.at_ + h.old.length)

theorem part_length (a : List α) (i x : Nat) (hx : x ≤ a.length) : (part a i x).length = x - i := by
  simp [part]; omega

theorem part_append (a : List α) (i x : Nat) (hi : i ≤ x) : part a i x ++ a.drop x = a.drop i := by
  unfold part
  have : a.drop x = (a.drop i).drop (x - i) := by rw [List.drop_drop]; congr 1; omega
  rw [this, List.take_append_drop]

theorem drop_at {a : List α} {i : Nat} {x : α} (h : a[i]? = some x) : a.drop i = x :: a.drop (i + 1) := by
  have hi : i < a.length := (List.getElem?_eq_some_iff.1 h).1
  rw [List.drop_eq_getElem_cons hi]
  congr 1
  exact (List.getElem?_eq_some_iff.1 h).2

/-- What the hunks from (i, j) on make. -/
theorem app_hks (a b : List α) : ∀ (ps : List (Nat × Nat)) (i j : Nat), i ≤ a.length → j ≤ b.length → Good a b i j ps → app a (hks a b i j (ps ++ [(a.length, b.length)])) = a.take i ++ b.drop j
  | [], i, j, hi, hj, _ => by
    simp only [List.nil_append, hks, List.append_nil]
    split
    · rename_i h
      simp only [app]
      have e1 : part b j b.length = b.drop j := by unfold part; exact List.take_of_length_le (by simp)
      rw [e1, part_length a i a.length (Nat.le_refl _)]
      rw [List.drop_eq_nil_of_le (by omega : a.length ≤ i + (a.length - i)), List.append_nil]
    · rename_i h
      have h1 : i = a.length := by simp at h; omega
      have h2 : j = b.length := by simp at h; omega
      simp only [app]
      rw [h1, h2, List.take_length, List.drop_length, List.append_nil]
  | p :: ps, i, j, hi, hj, hg => by
    obtain ⟨x, y⟩ := p
    have hge := hg.ge (x, y) List.mem_cons_self
    have hlt := hg.lt (x, y) List.mem_cons_self
    have hsm := hg.same (x, y) List.mem_cons_self
    simp only at hge hlt hsm
    obtain ⟨l, hl⟩ : ∃ l, a[x]? = some l := ⟨a[x]'hlt.1, List.getElem?_eq_getElem hlt.1⟩
    have hr := List.pairwise_cons.1 hg.rise
    have hg2 : Good a b (x + 1) (y + 1) ps := ⟨fun q hq => by have := hr.1 q hq; simp only at this; omega, fun q hq => hg.lt q (List.mem_cons_of_mem _ hq), fun q hq => hg.same q (List.mem_cons_of_mem _ hq), hr.2⟩
    have ih := app_hks a b ps (x + 1) (y + 1) (by omega) (by omega) hg2
    have hb : b.drop y = l :: b.drop (y + 1) := drop_at (hsm.symm.trans hl)
    have ht : a.take (x + 1) = a.take x ++ [l] := by rw [List.take_add_one, hl]; rfl
    simp only [List.cons_append, hks]
    have hk : a.take (x + 1) ++ b.drop (y + 1) = a.take x ++ b.drop y := by rw [ht, hb]; simp
    have hxl : (a.take x).length = x := by simp; omega
    split
    · rename_i h
      simp only [List.cons_append, List.nil_append, app]
      rw [ih, hk, part_length a i x (by omega)]
      have e1 : i + (x - i) = x := by omega
      rw [e1]
      have e2 : (a.take x ++ b.drop y).drop x = b.drop y := by
        rw [List.drop_append_of_le_length (by omega), List.drop_eq_nil_of_le (by omega), List.nil_append]
      have e3 : (a.take x ++ b.drop y).take i = a.take i := by
        rw [List.take_append_of_le_length (by omega), List.take_take]; congr 1; omega
      rw [e2, e3, List.append_assoc, part_append b j y (by omega)]
    · rename_i h
      have h1 : i = x := by omega
      have h2 : j = y := by omega
      rw [List.nil_append, ih, hk, h1, h2]

/-- What 'changed' asks of each hunk. -/
def fits (a : List α) : Option (Nat) → List (Hk α) → Prop
  | _, [] => True
  | prev, h :: hs => h.at_ + h.old.length ≤ (app a hs).length ∧ part (app a hs) h.at_ (h.at_ + h.old.length) = h.old ∧ 0 < h.old.length + h.new.length ∧ (∀ p, prev = some p → p < h.at_) ∧ fits a (some (h.at_ + h.old.length)) hs

theorem fits_at (a : List α) : ∀ (hs : List (Hk α)) (prev : Option Nat) (i : Nat) (h : Hk α), fits a prev hs → hs[i]? = some h →
    h.at_ + h.old.length ≤ (app a (hs.drop (i + 1))).length ∧ part (app a (hs.drop (i + 1))) h.at_ (h.at_ + h.old.length) = h.old ∧ 0 < h.old.length + h.new.length ∧
    (∀ g, 0 < i → hs[i - 1]? = some g → g.at_ + g.old.length < h.at_) ∧ app a (hs.drop i) = (app a (hs.drop (i + 1))).take h.at_ ++ h.new ++ (app a (hs.drop (i + 1))).drop (h.at_ + h.old.length)
  | [], _, _, _, _, hh => by simp at hh
  | g :: hs, prev, 0, h, hf, hh => by
    simp at hh
    subst hh
    exact ⟨hf.1, hf.2.1, hf.2.2.1, fun _ h0 => absurd h0 (by omega), rfl⟩
  | g :: hs, prev, i + 1, h, hf, hh => by
    have hh' : hs[i]? = some h := by simpa using hh
    obtain ⟨h1, h2, h3, h4, h5⟩ := fits_at a hs _ i h hf.2.2.2.2 hh'
    refine ⟨h1, h2, h3, fun k _ hk => ?_, h5⟩
    cases i with
    | zero =>
      simp at hk
      subst hk
      cases hs with
      | nil => simp at hh'
      | cons x xs =>
        simp at hh'
        subst hh'
        exact hf.2.2.2.2.2.2.2.1 _ rfl
    | succ i => exact h4 k (by omega) (by simpa using hk)
theorem app_len (a : List α) : ∀ hs : List (Hk α), (app a hs).length ≤ a.length + (hs.map fun h => h.new.length).sum
  | [] => by simp [app]
  | h :: hs => by
    have := app_len a hs
    simp [app, List.length_take, List.length_drop]
    omega
theorem sum_drop (l : List Nat) (k : Nat) : (l.drop k).sum ≤ l.sum := by
  conv => rhs; rw [← List.take_append_drop k l]
  rw [List.sum_append]; omega
theorem hks_sum (a b : List α) : ∀ (ps : List (Nat × Nat)) (i j : Nat), j ≤ b.length + 1 → (∀ p ∈ ps, p.2 ≤ b.length) → ((hks a b i j ps).map fun h => h.new.length).sum ≤ (ps.length + 1) * b.length
  | [], _, _, _, _ => by simp [hks]
  | p :: ps, i, j, hj, hp => by
    have h1 := hks_sum a b ps (p.1 + 1) (p.2 + 1) (by have := hp p List.mem_cons_self; omega) (fun q hq => hp q (List.mem_cons_of_mem _ hq))
    have h2 : (part b j p.2).length ≤ b.length := by simp [part]; omega
    have h3 : ((p :: ps).length + 1) * b.length = (ps.length + 1) * b.length + b.length := by rw [List.length_cons, Nat.add_mul (ps.length + 1) 1]; simp
    rw [h3]
    simp only [hks, List.map_append, List.sum_append]
    split
    · simp; omega
    · simp; omega

theorem fits_hks (a b : List α) : ∀ (ps : List (Nat × Nat)) (i j : Nat) (prev : Option Nat), i ≤ a.length → j ≤ b.length → Good a b i j ps → (∀ p, prev = some p → p < i) → fits a prev (hks a b i j (ps ++ [(a.length, b.length)]))
  | [], i, j, prev, hi, hj, _, hp => by
    simp only [List.nil_append, hks, List.append_nil]
    split
    · rename_i h
      try simp only at h
      simp only [fits, app]
      rw [part_length a i a.length (Nat.le_refl _), part_length b j b.length (Nat.le_refl _)]
      have e1 : i + (a.length - i) = a.length := by omega
      rw [e1]
      exact ⟨Nat.le_refl _, rfl, by omega, hp, trivial⟩
    · trivial
  | p :: ps, i, j, prev, hi, hj, hg, hp => by
    obtain ⟨x, y⟩ := p
    have hge := hg.ge (x, y) List.mem_cons_self
    have hlt := hg.lt (x, y) List.mem_cons_self
    simp only at hge hlt
    have hr := List.pairwise_cons.1 hg.rise
    have hg2 : Good a b (x + 1) (y + 1) ps := ⟨fun q hq => by have := hr.1 q hq; simp only at this; omega, fun q hq => hg.lt q (List.mem_cons_of_mem _ hq), fun q hq => hg.same q (List.mem_cons_of_mem _ hq), hr.2⟩
    simp only [List.cons_append, hks]
    split
    · rename_i h
      try simp only at h
      simp only [List.cons_append, List.nil_append, fits]
      rw [app_hks a b ps (x + 1) (y + 1) (by omega) (by omega) hg2, part_length a i x (by omega), part_length b j y (by omega)]
      have e1 : i + (x - i) = x := by omega
      rw [e1]
      refine ⟨by simp; omega, ?_, by omega, hp, fits_hks a b ps (x + 1) (y + 1) (some x) (by omega) (by omega) hg2 (fun p hp => by cases hp; omega)⟩
      unfold part
      rw [List.drop_append_of_le_length (by simp; omega), List.take_append_of_le_length (by simp; omega), List.drop_take, List.take_take]
      congr 1; omega
    · rename_i h
      try simp only at h
      rw [List.nil_append]
      exact fits_hks a b ps (x + 1) (y + 1) prev (by omega) (by omega) hg2 (fun p hp' => by have := hp p hp'; omega)


end

section
variable {α : Type} [DecidableEq α]


/-- How long a longest row of pairs is. -/
def lc : List α → List α → Nat
  | [], _ => 0
  | _ :: _, [] => 0
  | x :: xs, y :: ys => if x = y then lc xs ys + 1 else max (lc xs (y :: ys)) (lc (x :: xs) ys)
termination_by a b => a.length + b.length

/-- The row that is told. -/
def cm : Nat → Nat → List α → List α → List (Nat × Nat)
  | _, _, [], _ => []
  | _, _, _ :: _, [] => []
  | i, j, x :: xs, y :: ys =>
    if x = y then (i, j) :: cm (i + 1) (j + 1) xs ys
    else if lc (x :: xs) ys ≤ lc xs (y :: ys) then cm (i + 1) j xs (y :: ys) else cm i (j + 1) (x :: xs) ys
termination_by _ _ a b => a.length + b.length

theorem lc_nil_left (b : List α) : lc [] b = 0 := by simp [lc]
theorem lc_nil_right (a : List α) : lc a [] = 0 := by cases a <;> simp [lc]
theorem lc_cons_eq (x : α) (xs ys : List α) : lc (x :: xs) (x :: ys) = lc xs ys + 1 := by simp [lc]
theorem lc_cons_ne {x y : α} (h : x ≠ y) (xs ys : List α) : lc (x :: xs) (y :: ys) = max (lc xs (y :: ys)) (lc (x :: xs) ys) := by
  rw [lc]; simp [h]
theorem cm_nil_left (i j : Nat) (b : List α) : cm i j [] b = [] := by simp [cm]
theorem cm_nil_right (i j : Nat) (a : List α) : cm i j a [] = [] := by cases a <;> simp [cm]
theorem cm_cons_eq (i j : Nat) (x : α) (xs ys : List α) : cm i j (x :: xs) (x :: ys) = (i, j) :: cm (i + 1) (j + 1) xs ys := by simp [cm]
theorem cm_cons_left (i j : Nat) {x y : α} (h : x ≠ y) (xs ys : List α) (hl : lc (x :: xs) ys ≤ lc xs (y :: ys)) : cm i j (x :: xs) (y :: ys) = cm (i + 1) j xs (y :: ys) := by
  rw [cm]; simp [h, hl]
theorem cm_cons_right (i j : Nat) {x y : α} (h : x ≠ y) (xs ys : List α) (hl : ¬ lc (x :: xs) ys ≤ lc xs (y :: ys)) : cm i j (x :: xs) (y :: ys) = cm i (j + 1) (x :: xs) ys := by
  rw [cm]; simp [h, hl]

theorem lc_le_left (a b : List α) : lc a b ≤ a.length := by
  induction a, b using lc.induct with
  | case1 b => simp [lc]
  | case2 x xs => simp [lc]
  | case3 x xs ys ih => rw [lc_cons_eq]; simp; omega
  | case4 x xs y ys h ih1 ih2 => rw [lc_cons_ne h]; simp at *; omega

theorem lc_comm (a b : List α) : lc a b = lc b a := by
  induction a, b using lc.induct with
  | case1 b => rw [lc_nil_left, lc_nil_right]
  | case2 x xs => rw [lc_nil_left, lc_nil_right]
  | case3 x xs ys ih => rw [lc_cons_eq, lc_cons_eq, ih]
  | case4 x xs y ys h ih1 ih2 => rw [lc_cons_ne h, lc_cons_ne (Ne.symm h), ih1, ih2, Nat.max_comm]

theorem lc_le_right (a b : List α) : lc a b ≤ b.length := by rw [lc_comm]; exact lc_le_left b a

theorem cm_length (i j : Nat) (a b : List α) : (cm i j a b).length = lc a b := by
  induction i, j, a, b using cm.induct with
  | case1 i j b => simp [cm, lc]
  | case2 i j x xs => simp [cm, lc]
  | case3 i j x xs ys ih => rw [cm_cons_eq, lc_cons_eq, List.length_cons, ih]
  | case4 i j x xs y ys h hl ih => rw [cm_cons_left _ _ h _ _ hl, lc_cons_ne h, ih]; omega
  | case5 i j x xs y ys h hl ih => rw [cm_cons_right _ _ h _ _ hl, lc_cons_ne h, ih]; omega

/-- No common sublist is longer. -/
theorem sub_le_lc (a b c : List α) (ha : c.Sublist a) (hb : c.Sublist b) : c.length ≤ lc a b := by
  induction a, b using lc.induct generalizing c with
  | case1 b => simp at ha; subst ha; simp
  | case2 x xs => simp at hb; subst hb; simp
  | case3 xs x ys ih =>
    rw [lc_cons_eq]
    cases c with
    | nil => simp
    | cons z cs =>
      have h1 : cs.Sublist xs := by
        cases ha with
        | cons _ h => exact (List.sublist_cons_self z cs).trans h
        | cons_cons _ h => exact h
      have h2 : cs.Sublist ys := by
        cases hb with
        | cons _ h => exact (List.sublist_cons_self z cs).trans h
        | cons_cons _ h => exact h
      have := ih cs h1 h2
      simp; omega
  | case4 x xs y ys h ih1 ih2 =>
    rw [lc_cons_ne h]
    cases c with
    | nil => simp
    | cons z cs =>
      cases ha with
      | cons _ h1 => have := ih1 _ h1 hb; omega
      | cons_cons _ h1 =>
        cases hb with
        | cons _ h2 => have := ih2 _ (List.Sublist.cons_cons x h1) h2; omega
        | cons_cons _ h2 => exact absurd rfl h

theorem lc_sub (a b : List α) (h : a.Sublist b) : lc a b = a.length :=
  Nat.le_antisymm (lc_le_left a b) (sub_le_lc a b a (List.Sublist.refl a) h)

/-- Numbers in the place of lines. -/
theorem lc_map {β : Type} [DecidableEq β] (f : α → β) (a b : List α) (h : ∀ x ∈ a, ∀ y ∈ b, f x = f y → x = y) : lc (a.map f) (b.map f) = lc a b := by
  induction a, b using lc.induct with
  | case1 b => simp [lc]
  | case2 x xs => simp [lc]
  | case3 x xs ys ih =>
    rw [List.map_cons, List.map_cons, lc_cons_eq, lc_cons_eq, ih (fun u hu v hv => h u (List.mem_cons_of_mem _ hu) v (List.mem_cons_of_mem _ hv))]
  | case4 x xs y ys hne ih1 ih2 =>
    have hf : f x ≠ f y := fun e => hne (h x List.mem_cons_self y List.mem_cons_self e)
    rw [List.map_cons, List.map_cons, lc_cons_ne hf, lc_cons_ne hne, ← List.map_cons (f := f) (a := y), ← List.map_cons (f := f) (a := x), ih1 (fun u hu v hv => h u (List.mem_cons_of_mem _ hu) v hv), ih2 (fun u hu v hv => h u hu v (List.mem_cons_of_mem _ hv))]

theorem cm_good (a b : List α) (i j : Nat) (xs ys : List α) (hx : a.drop i = xs) (hy : b.drop j = ys) : Good a b i j (cm i j xs ys) := by
  induction i, j, xs, ys using cm.induct with
  | case1 i j b => rw [cm_nil_left]; exact good_nil _ _ _ _
  | case2 i j x xs => rw [cm_nil_right]; exact good_nil _ _ _ _
  | case3 i j x xs ys ih =>
    obtain ⟨h1, h2, h3⟩ := drop_cons_at hx
    obtain ⟨g1, g2, g3⟩ := drop_cons_at hy
    have h := ih h3 g3
    rw [cm_cons_eq]
    refine ⟨?_, ?_, ?_, ?_⟩
    · intro p hp
      rcases List.mem_cons.1 hp with rfl | hp
      · exact ⟨Nat.le_refl _, Nat.le_refl _⟩
      · have := h.ge p hp; omega
    · intro p hp
      rcases List.mem_cons.1 hp with rfl | hp
      · exact ⟨h1, g1⟩
      · exact h.lt p hp
    · intro p hp
      rcases List.mem_cons.1 hp with rfl | hp
      · rw [h2, g2]
      · exact h.same p hp
    · refine List.Pairwise.cons (fun p hp => ?_) h.rise
      have := h.ge p hp; show i < p.1 ∧ j < p.2; omega
  | case4 i j x xs y ys h hl ih =>
    obtain ⟨h1, h2, h3⟩ := drop_cons_at hx
    rw [cm_cons_left _ _ h _ _ hl]
    exact (ih h3 hy).mono (Nat.le_succ _) (Nat.le_refl _)
  | case5 i j x xs y ys h hl ih =>
    obtain ⟨h1, h2, h3⟩ := drop_cons_at hy
    rw [cm_cons_right _ _ h _ _ hl]
    exact (ih hx h3).mono (Nat.le_refl _) (Nat.le_succ _)

theorem common_good (a b : List α) : Good a b 0 0 (cm 0 0 a b) := cm_good a b 0 0 a b rfl rfl

theorem cm_map {β : Type} [DecidableEq β] (f : α → β) (i j : Nat) (a b : List α) (h : ∀ x ∈ a, ∀ y ∈ b, f x = f y → x = y) : cm i j (a.map f) (b.map f) = cm i j a b := by
  induction i, j, a, b using cm.induct with
  | case1 i j b => simp [cm]
  | case2 i j x xs => simp [cm]
  | case3 i j x xs ys ih =>
    rw [List.map_cons, List.map_cons, cm_cons_eq, cm_cons_eq, ih (fun u hu v hv => h u (List.mem_cons_of_mem _ hu) v (List.mem_cons_of_mem _ hv))]
  | case4 i j x xs y ys hne hl ih =>
    have hf : f x ≠ f y := fun e => hne (h x List.mem_cons_self y List.mem_cons_self e)
    have e1 := lc_map f (x :: xs) ys (fun u hu v hv => h u hu v (List.mem_cons_of_mem _ hv))
    have e2 := lc_map f xs (y :: ys) (fun u hu v hv => h u (List.mem_cons_of_mem _ hu) v hv)
    rw [List.map_cons] at e1 e2
    rw [List.map_cons, List.map_cons, cm_cons_left _ _ hf _ _ (by rw [e1, e2]; exact hl), cm_cons_left _ _ hne _ _ hl, ← List.map_cons (f := f) (a := y), ih (fun u hu v hv => h u (List.mem_cons_of_mem _ hu) v hv)]
  | case5 i j x xs y ys hne hl ih =>
    have hf : f x ≠ f y := fun e => hne (h x List.mem_cons_self y List.mem_cons_self e)
    have e1 := lc_map f (x :: xs) ys (fun u hu v hv => h u hu v (List.mem_cons_of_mem _ hv))
    have e2 := lc_map f xs (y :: ys) (fun u hu v hv => h u (List.mem_cons_of_mem _ hu) v hv)
    rw [List.map_cons] at e1 e2
    rw [List.map_cons, List.map_cons, cm_cons_right _ _ hf _ _ (by rw [e1, e2]; exact hl), cm_cons_right _ _ hne _ _ hl, ← List.map_cons (f := f) (a := x), ih (fun u hu v hv => h u hu v (List.mem_cons_of_mem _ hv))]

/-- Common and Hunks, of any rows. -/
def common (a b : List α) : List (Nat × Nat) := if a.length ≤ 4096 ∧ b.length ≤ 4096 then cm 0 0 a b else []
def hunks (a b : List α) : List (Hk α) := hks a b 0 0 (common a b ++ [(a.length, b.length)])

theorem common_ok (a b : List α) : Good a b 0 0 (common a b) := by
  unfold common
  split
  · exact common_good a b
  · exact good_nil _ _ _ _

theorem app_hunks (a b : List α) : app a (hunks a b) = b := by
  have := app_hks a b (common a b) 0 0 (Nat.zero_le _) (Nat.zero_le _) (common_ok a b)
  simpa [hunks] using this

theorem fits_hunks (a b : List α) : fits a none (hunks a b) :=
  fits_hks a b (common a b) 0 0 none (Nat.zero_le _) (Nat.zero_le _) (common_ok a b) (fun p hp => by cases hp)

theorem hks_self (l : List α) (hl : ∀ (ps : List (Nat × Nat)), ps = ps) : ∀ (xs : List α) (i j : Nat), i = j → i + xs.length = l.length → hks l l i j (cm i j xs xs ++ [(l.length, l.length)]) = []
  | [], i, j, hij, h => by
    subst hij
    simp only [cm_nil_left, List.nil_append, hks, List.append_nil]
    simp at h
    simp [h]
  | x :: xs, i, j, hij, h => by
    subst hij
    rw [cm_cons_eq]
    simp only [List.cons_append, hks]
    rw [hks_self l hl xs (i + 1) (i + 1) rfl (by simp at h; omega)]
    simp

theorem hunks_self (a : List α) (h : a.length ≤ 4096) : hunks a a = [] := by
  unfold hunks common
  rw [if_pos ⟨h, h⟩]
  exact hks_self a (fun _ => rfl) a 0 0 rfl (by simp)

theorem common_length (a b : List α) (ha : a.length ≤ 4096) (hb : b.length ≤ 4096) : (common a b).length = lc a b := by
  unfold common; rw [if_pos ⟨ha, hb⟩, cm_length]


end
end Df
end Go.Proofs.Ytejnleigjjaenaa
