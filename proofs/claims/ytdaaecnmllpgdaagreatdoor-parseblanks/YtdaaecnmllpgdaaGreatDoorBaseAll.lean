/-
  Several texts in one, as they are: Lcs, Base, Clone, Same, Numbered, Lengths, Common, Copied, Told, Held, Between, Hunks, SameHunk, Append, FlatBase, Lows, Args.
-/
import Derived.WalkKit
import Derived.Test.YtdaaecnmllpgdaaGreatDoorRows
import Derived.WalkSpells
import Derived.WalkLawsBesides
import Derived.Lib.Strings
import Derived.Lib.Slices
import Derived.Lib.Walk
import Derived.Lib.Bytealg
import Derived.Lib.AppendStr
import Derived.Lib.BufferWrite
import Derived.Lib.UnsafeStr
import Derived.Laws.MakeOwn
import Derived.Laws.OwnMore
import Derived.Laws.AppendOwnNone
import Derived.Deep.QuietTactic
import Derived.BigQuiet
import Derived.RangeFuncBox
import Derived.Maps.AppendAt
import Derived.Maps.OwnSet
import Derived.Maps.Views
import Derived.OneCell
import Derived.Deep.OwnRows
import Derived.RangeFuncNested
import Derived.RangeFuncBound
import Derived.RangeFuncCalls
import Derived.RangeFuncLeaves
import Derived.Shelf.Abstract
import Derived.Shelf.RegionOpen
import Derived.OwnWalkIn
import Derived.TacticsInMore
import Derived.LoopNIn
import Derived.LoopIn
import Derived.Deep.RegionWith
import Derived.SliceStrings
import Derived.ProofKit
import Derived.OpenShut
import Derived.LaidMore
import Derived.Lay
import Derived.SevenTiedAt
import Derived.Stop.Joined

/-
  Rows of pairs, with no word of Go: how long a longest one is, the one that is told, the hunks around it, and what follows of them.
-/
namespace Go.Proofs.YtdaaecnmllpgdaaGreatDoor
namespace Df

section
variable {α : Type}
/-- Pairs rise, and are of the same lines. -/
structure Good (a b : List α) (i j : Nat) (ps : List (Nat × Nat)) : Prop where
  ge : ∀ p ∈ ps, i ≤ p.1 ∧ j ≤ p.2
  lt : ∀ p ∈ ps, p.1 < a.length ∧ p.2 < b.length
  same : ∀ p ∈ ps, a[p.1]? = b[p.2]?
  rise : ps.Pairwise fun p q => p.1 < q.1 ∧ p.2 < q.2

theorem good_nil (a b : List α) (i j : Nat) : Good a b i j [] :=
  ⟨fun p hp => absurd hp (by simp), fun p hp => absurd hp (by simp), fun p hp => absurd hp (by simp), List.Pairwise.nil⟩

theorem Good.mono {a b : List α} {i j i' j' : Nat} {ps : List (Nat × Nat)} (h : Good a b i j ps) (hi : i' ≤ i) (hj : j' ≤ j) : Good a b i' j' ps :=
  ⟨fun p hp => ⟨Nat.le_trans hi (h.ge p hp).1, Nat.le_trans hj (h.ge p hp).2⟩, h.lt, h.same, h.rise⟩

theorem drop_cons_at {x : α} {xs a : List α} {i : Nat} (h : a.drop i = x :: xs) : i < a.length ∧ a[i]? = some x ∧ a.drop (i + 1) = xs := by
  have hi : i < a.length := by
    rcases Nat.lt_or_ge i a.length with h' | h'
    · exact h'
    · rw [List.drop_eq_nil_of_le h'] at h; cases h
  rw [List.drop_eq_getElem_cons hi] at h
  injection h with h1 h2
  exact ⟨hi, by rw [List.getElem?_eq_getElem hi, h1], h2⟩

/-- A hunk: where it begins, its lines, its new lines. -/
structure Hk (α : Type) where
  at_ : Nat
  old : List α
  new : List α
deriving DecidableEq

/-- The lines from i to x. -/
def part (a : List α) (i x : Nat) : List α := (a.drop i).take (x - i)

/-- The hunks around pairs (the last of which stands behind both ends). -/
def hks (a b : List α) : Nat → Nat → List (Nat × Nat) → List (Hk α)
  | _, _, [] => []
  | i, j, p :: ps => (if i < p.1 ∨ j < p.2 then [⟨i, part a i p.1, part b j p.2⟩] else []) ++ hks a b (p.1 + 1) (p.2 + 1) ps

/-- Hunks exchanged, from the last one on. -/
def app (a : List α) : List (Hk α) → List α
  | [] => a
  | h :: hs => (app a hs).take h.at_ ++ h.new ++ (app a hs).drop (h.at_ + h.old.length)

theorem part_length (a : List α) (i x : Nat) (hx : x ≤ a.length) : (part a i x).length = x - i := by
  simp [part]; omega

theorem part_append (a : List α) (i x : Nat) (hi : i ≤ x) : part a i x ++ a.drop x = a.drop i := by
  unfold part
  have : a.drop x = (a.drop i).drop (x - i) := by rw [List.drop_drop]; congr 1; omega
  rw [this, List.take_append_drop]

theorem drop_at {a : List α} {i : Nat} {x : α} (h : a[i]? = some x) : a.drop i = x :: a.drop (i + 1) := by
  have hi : i < a.length := (List.getElem?_eq_some_iff.1 h).1
  rw [List.drop_eq_getElem_cons hi]
  congr 1
  exact (List.getElem?_eq_some_iff.1 h).2

/-- What the hunks from (i, j) on make. -/
theorem app_hks (a b : List α) : ∀ (ps : List (Nat × Nat)) (i j : Nat), i ≤ a.length → j ≤ b.length → Good a b i j ps → app a (hks a b i j (ps ++ [(a.length, b.length)])) = a.take i ++ b.drop j
  | [], i, j, hi, hj, _ => by
    simp only [List.nil_append, hks, List.append_nil]
    split
    · rename_i h
      simp only [app]
      have e1 : part b j b.length = b.drop j := by unfold part; exact List.take_of_length_le (by simp)
      rw [e1, part_length a i a.length (Nat.le_refl _)]
      rw [List.drop_eq_nil_of_le (by omega : a.length ≤ i + (a.length - i)), List.append_nil]
    · rename_i h
      have h1 : i = a.length := by simp at h; omega
      have h2 : j = b.length := by simp at h; omega
      simp only [app]
      rw [h1, h2, List.take_length, List.drop_length, List.append_nil]
  | p :: ps, i, j, hi, hj, hg => by
    obtain ⟨x, y⟩ := p
    have hge := hg.ge (x, y) List.mem_cons_self
    have hlt := hg.lt (x, y) List.mem_cons_self
    have hsm := hg.same (x, y) List.mem_cons_self
    simp only at hge hlt hsm
    obtain ⟨l, hl⟩ : ∃ l, a[x]? = some l := ⟨a[x]'hlt.1, List.getElem?_eq_getElem hlt.1⟩
    have hr := List.pairwise_cons.1 hg.rise
    have hg2 : Good a b (x + 1) (y + 1) ps := ⟨fun q hq => by have := hr.1 q hq; simp only at this; omega, fun q hq => hg.lt q (List.mem_cons_of_mem _ hq), fun q hq => hg.same q (List.mem_cons_of_mem _ hq), hr.2⟩
    have ih := app_hks a b ps (x + 1) (y + 1) (by omega) (by omega) hg2
    have hb : b.drop y = l :: b.drop (y + 1) := drop_at (hsm.symm.trans hl)
    have ht : a.take (x + 1) = a.take x ++ [l] := by rw [List.take_add_one, hl]; rfl
    simp only [List.cons_append, hks]
    have hk : a.take (x + 1) ++ b.drop (y + 1) = a.take x ++ b.drop y := by rw [ht, hb]; simp
    have hxl : (a.take x).length = x := by simp; omega
    split
    · rename_i h
      simp only [List.cons_append, List.nil_append, app]
      rw [ih, hk, part_length a i x (by omega)]
      have e1 : i + (x - i) = x := by omega
      rw [e1]
      have e2 : (a.take x ++ b.drop y).drop x = b.drop y := by
        rw [List.drop_append_of_le_length (by omega), List.drop_eq_nil_of_le (by omega), List.nil_append]
      have e3 : (a.take x ++ b.drop y).take i = a.take i := by
        rw [List.take_append_of_le_length (by omega), List.take_take]; congr 1; omega
      rw [e2, e3, List.append_assoc, part_append b j y (by omega)]
    · rename_i h
      have h1 : i = x := by omega
      have h2 : j = y := by omega
      rw [List.nil_append, ih, hk, h1, h2]

/-- What 'changed' asks of each hunk. -/
def fits (a : List α) : Option (Nat) → List (Hk α) → Prop
  | _, [] => True
  | prev, h :: hs => h.at_ + h.old.length ≤ (app a hs).length ∧ part (app a hs) h.at_ (h.at_ + h.old.length) = h.old ∧ 0 < h.old.length + h.new.length ∧ (∀ p, prev = some p → p < h.at_) ∧ fits a (some (h.at_ + h.old.length)) hs

theorem fits_at (a : List α) : ∀ (hs : List (Hk α)) (prev : Option Nat) (i : Nat) (h : Hk α), fits a prev hs → hs[i]? = some h →
    h.at_ + h.old.length ≤ (app a (hs.drop (i + 1))).length ∧ part (app a (hs.drop (i + 1))) h.at_ (h.at_ + h.old.length) = h.old ∧ 0 < h.old.length + h.new.length ∧
    (∀ g, 0 < i → hs[i - 1]? = some g → g.at_ + g.old.length < h.at_) ∧ app a (hs.drop i) = (app a (hs.drop (i + 1))).take h.at_ ++ h.new ++ (app a (hs.drop (i + 1))).drop (h.at_ + h.old.length)
  | [], _, _, _, _, hh => by simp at hh
  | g :: hs, prev, 0, h, hf, hh => by
    simp at hh
    subst hh
    exact ⟨hf.1, hf.2.1, hf.2.2.1, fun _ h0 => absurd h0 (by omega), rfl⟩
  | g :: hs, prev, i + 1, h, hf, hh => by
    have hh' : hs[i]? = some h := by simpa using hh
    obtain ⟨h1, h2, h3, h4, h5⟩ := fits_at a hs _ i h hf.2.2.2.2 hh'
    refine ⟨h1, h2, h3, fun k _ hk => ?_, h5⟩
    cases i with
    | zero =>
      simp at hk
      subst hk
      cases hs with
      | nil => simp at hh'
      | cons x xs =>
        simp at hh'
        subst hh'
        exact hf.2.2.2.2.2.2.2.1 _ rfl
    | succ i => exact h4 k (by omega) (by simpa using hk)
theorem app_len (a : List α) : ∀ hs : List (Hk α), (app a hs).length ≤ a.length + (hs.map fun h => h.new.length).sum
  | [] => by simp [app]
  | h :: hs => by
    have := app_len a hs
    simp [app, List.length_take, List.length_drop]
    omega
theorem sum_drop (l : List Nat) (k : Nat) : (l.drop k).sum ≤ l.sum := by
  conv => rhs; rw [← List.take_append_drop k l]
  rw [List.sum_append]; omega
theorem hks_sum (a b : List α) : ∀ (ps : List (Nat × Nat)) (i j : Nat), j ≤ b.length + 1 → (∀ p ∈ ps, p.2 ≤ b.length) → ((hks a b i j ps).map fun h => h.new.length).sum ≤ (ps.length + 1) * b.length
  | [], _, _, _, _ => by simp [hks]
  | p :: ps, i, j, hj, hp => by
    have h1 := hks_sum a b ps (p.1 + 1) (p.2 + 1) (by have := hp p List.mem_cons_self; omega) (fun q hq => hp q (List.mem_cons_of_mem _ hq))
    have h2 : (part b j p.2).length ≤ b.length := by simp [part]; omega
    have h3 : ((p :: ps).length + 1) * b.length = (ps.length + 1) * b.length + b.length := by rw [List.length_cons, Nat.add_mul (ps.length + 1) 1]; simp
    rw [h3]
    simp only [hks, List.map_append, List.sum_append]
    split
    · simp; omega
    · simp; omega

theorem fits_hks (a b : List α) : ∀ (ps : List (Nat × Nat)) (i j : Nat) (prev : Option Nat), i ≤ a.length → j ≤ b.length → Good a b i j ps → (∀ p, prev = some p → p < i) → fits a prev (hks a b i j (ps ++ [(a.length, b.length)]))
  | [], i, j, prev, hi, hj, _, hp => by
    simp only [List.nil_append, hks, List.append_nil]
    split
    · rename_i h
      try simp only at h
      simp only [fits, app]
      rw [part_length a i a.length (Nat.le_refl _), part_length b j b.length (Nat.le_refl _)]
      have e1 : i + (a.length - i) = a.length := by omega
      rw [e1]
      exact ⟨Nat.le_refl _, rfl, by omega, hp, trivial⟩
    · trivial
  | p :: ps, i, j, prev, hi, hj, hg, hp => by
    obtain ⟨x, y⟩ := p
    have hge := hg.ge (x, y) List.mem_cons_self
    have hlt := hg.lt (x, y) List.mem_cons_self
    simp only at hge hlt
    have hr := List.pairwise_cons.1 hg.rise
    have hg2 : Good a b (x + 1) (y + 1) ps := ⟨fun q hq => by have := hr.1 q hq; simp only at this; omega, fun q hq => hg.lt q (List.mem_cons_of_mem _ hq), fun q hq => hg.same q (List.mem_cons_of_mem _ hq), hr.2⟩
    simp only [List.cons_append, hks]
    split
    · rename_i h
      try simp only at h
      simp only [List.cons_append, List.nil_append, fits]
      rw [app_hks a b ps (x + 1) (y + 1) (by omega) (by omega) hg2, part_length a i x (by omega), part_length b j y (by omega)]
      have e1 : i + (x - i) = x := by omega
      rw [e1]
      refine ⟨by simp; omega, ?_, by omega, hp, fits_hks a b ps (x + 1) (y + 1) (some x) (by omega) (by omega) hg2 (fun p hp => by cases hp; omega)⟩
      unfold part
      rw [List.drop_append_of_le_length (by simp; omega), List.take_append_of_le_length (by simp; omega), List.drop_take, List.take_take]
      congr 1; omega
    · rename_i h
      try simp only at h
      rw [List.nil_append]
      exact fits_hks a b ps (x + 1) (y + 1) prev (by omega) (by omega) hg2 (fun p hp' => by have := hp p hp'; omega)


end

section
variable {α : Type} [DecidableEq α]


/-- How long a longest row of pairs is. -/
def lc : List α → List α → Nat
  | [], _ => 0
  | _ :: _, [] => 0
  | x :: xs, y :: ys => if x = y then lc xs ys + 1 else max (lc xs (y :: ys)) (lc (x :: xs) ys)
termination_by a b => a.length + b.length

/-- The row that is told. -/
def cm : Nat → Nat → List α → List α → List (Nat × Nat)
  | _, _, [], _ => []
  | _, _, _ :: _, [] => []
  | i, j, x :: xs, y :: ys =>
    if x = y then (i, j) :: cm (i + 1) (j + 1) xs ys
    else if lc (x :: xs) ys ≤ lc xs (y :: ys) then cm (i + 1) j xs (y :: ys) else cm i (j + 1) (x :: xs) ys
termination_by _ _ a b => a.length + b.length

theorem lc_nil_left (b : List α) : lc [] b = 0 := by simp [lc]
theorem lc_nil_right (a : List α) : lc a [] = 0 := by cases a <;> simp [lc]
theorem lc_cons_eq (x : α) (xs ys : List α) : lc (x :: xs) (x :: ys) = lc xs ys + 1 := by simp [lc]
theorem lc_cons_ne {x y : α} (h : x ≠ y) (xs ys : List α) : lc (x :: xs) (y :: ys) = max (lc xs (y :: ys)) (lc (x :: xs) ys) := by
  rw [lc]; simp [h]
theorem cm_nil_left (i j : Nat) (b : List α) : cm i j [] b = [] := by simp [cm]
theorem cm_nil_right (i j : Nat) (a : List α) : cm i j a [] = [] := by cases a <;> simp [cm]
theorem cm_cons_eq (i j : Nat) (x : α) (xs ys : List α) : cm i j (x :: xs) (x :: ys) = (i, j) :: cm (i + 1) (j + 1) xs ys := by simp [cm]
theorem cm_cons_left (i j : Nat) {x y : α} (h : x ≠ y) (xs ys : List α) (hl : lc (x :: xs) ys ≤ lc xs (y :: ys)) : cm i j (x :: xs) (y :: ys) = cm (i + 1) j xs (y :: ys) := by
  rw [cm]; simp [h, hl]
theorem cm_cons_right (i j : Nat) {x y : α} (h : x ≠ y) (xs ys : List α) (hl : ¬ lc (x :: xs) ys ≤ lc xs (y :: ys)) : cm i j (x :: xs) (y :: ys) = cm i (j + 1) (x :: xs) ys := by
  rw [cm]; simp [h, hl]

theorem lc_le_left (a b : List α) : lc a b ≤ a.length := by
  induction a, b using lc.induct with
  | case1 b => simp [lc]
  | case2 x xs => simp [lc]
  | case3 x xs ys ih => rw [lc_cons_eq]; simp; omega
  | case4 x xs y ys h ih1 ih2 => rw [lc_cons_ne h]; simp at *; omega

theorem lc_comm (a b : List α) : lc a b = lc b a := by
  induction a, b using lc.induct with
  | case1 b => rw [lc_nil_left, lc_nil_right]
  | case2 x xs => rw [lc_nil_left, lc_nil_right]
  | case3 x xs ys ih => rw [lc_cons_eq, lc_cons_eq, ih]
  | case4 x xs y ys h ih1 ih2 => rw [lc_cons_ne h, lc_cons_ne (Ne.symm h), ih1, ih2, Nat.max_comm]

theorem lc_le_right (a b : List α) : lc a b ≤ b.length := by rw [lc_comm]; exact lc_le_left b a

theorem cm_length (i j : Nat) (a b : List α) : (cm i j a b).length = lc a b := by
  induction i, j, a, b using cm.induct with
  | case1 i j b => simp [cm, lc]
  | case2 i j x xs => simp [cm, lc]
  | case3 i j x xs ys ih => rw [cm_cons_eq, lc_cons_eq, List.length_cons, ih]
  | case4 i j x xs y ys h hl ih => rw [cm_cons_left _ _ h _ _ hl, lc_cons_ne h, ih]; omega
  | case5 i j x xs y ys h hl ih => rw [cm_cons_right _ _ h _ _ hl, lc_cons_ne h, ih]; omega

/-- No common sublist is longer. -/
theorem sub_le_lc (a b c : List α) (ha : c.Sublist a) (hb : c.Sublist b) : c.length ≤ lc a b := by
  induction a, b using lc.induct generalizing c with
  | case1 b => simp at ha; subst ha; simp
  | case2 x xs => simp at hb; subst hb; simp
  | case3 xs x ys ih =>
    rw [lc_cons_eq]
    cases c with
    | nil => simp
    | cons z cs =>
      have h1 : cs.Sublist xs := by
        cases ha with
        | cons _ h => exact (List.sublist_cons_self z cs).trans h
        | cons_cons _ h => exact h
      have h2 : cs.Sublist ys := by
        cases hb with
        | cons _ h => exact (List.sublist_cons_self z cs).trans h
        | cons_cons _ h => exact h
      have := ih cs h1 h2
      simp; omega
  | case4 x xs y ys h ih1 ih2 =>
    rw [lc_cons_ne h]
    cases c with
    | nil => simp
    | cons z cs =>
      cases ha with
      | cons _ h1 => have := ih1 _ h1 hb; omega
      | cons_cons _ h1 =>
        cases hb with
        | cons _ h2 => have := ih2 _ (List.Sublist.cons_cons x h1) h2; omega
        | cons_cons _ h2 => exact absurd rfl h

theorem lc_sub (a b : List α) (h : a.Sublist b) : lc a b = a.length :=
  Nat.le_antisymm (lc_le_left a b) (sub_le_lc a b a (List.Sublist.refl a) h)

/-- Numbers in the place of lines. -/
theorem lc_map {β : Type} [DecidableEq β] (f : α → β) (a b : List α) (h : ∀ x ∈ a, ∀ y ∈ b, f x = f y → x = y) : lc (a.map f) (b.map f) = lc a b := by
  induction a, b using lc.induct with
  | case1 b => simp [lc]
  | case2 x xs => simp [lc]
  | case3 x xs ys ih =>
    rw [List.map_cons, List.map_cons, lc_cons_eq, lc_cons_eq, ih (fun u hu v hv => h u (List.mem_cons_of_mem _ hu) v (List.mem_cons_of_mem _ hv))]
  | case4 x xs y ys hne ih1 ih2 =>
    have hf : f x ≠ f y := fun e => hne (h x List.mem_cons_self y List.mem_cons_self e)
    rw [List.map_cons, List.map_cons, lc_cons_ne hf, lc_cons_ne hne, ← List.map_cons (f := f) (a := y), ← List.map_cons (f := f) (a := x), ih1 (fun u hu v hv => h u (List.mem_cons_of_mem _ hu) v hv), ih2 (fun u hu v hv => h u hu v (List.mem_cons_of_mem _ hv))]

theorem cm_good (a b : List α) (i j : Nat) (xs ys : List α) (hx : a.drop i = xs) (hy : b.drop j = ys) : Good a b i j (cm i j xs ys) := by
  induction i, j, xs, ys using cm.induct with
  | case1 i j b => rw [cm_nil_left]; exact good_nil _ _ _ _
  | case2 i j x xs => rw [cm_nil_right]; exact good_nil _ _ _ _
  | case3 i j x xs ys ih =>
    obtain ⟨h1, h2, h3⟩ := drop_cons_at hx
    obtain ⟨g1, g2, g3⟩ := drop_cons_at hy
    have h := ih h3 g3
    rw [cm_cons_eq]
    refine ⟨?_, ?_, ?_, ?_⟩
    · intro p hp
      rcases List.mem_cons.1 hp with rfl | hp
      · exact ⟨Nat.le_refl _, Nat.le_refl _⟩
      · have := h.ge p hp; omega
    · intro p hp
      rcases List.mem_cons.1 hp with rfl | hp
      · exact ⟨h1, g1⟩
      · exact h.lt p hp
    · intro p hp
      rcases List.mem_cons.1 hp with rfl | hp
      · rw [h2, g2]
      · exact h.same p hp
    · refine List.Pairwise.cons (fun p hp => ?_) h.rise
      have := h.ge p hp; show i < p.1 ∧ j < p.2; omega
  | case4 i j x xs y ys h hl ih =>
    obtain ⟨h1, h2, h3⟩ := drop_cons_at hx
    rw [cm_cons_left _ _ h _ _ hl]
    exact (ih h3 hy).mono (Nat.le_succ _) (Nat.le_refl _)
  | case5 i j x xs y ys h hl ih =>
    obtain ⟨h1, h2, h3⟩ := drop_cons_at hy
    rw [cm_cons_right _ _ h _ _ hl]
    exact (ih hx h3).mono (Nat.le_refl _) (Nat.le_succ _)

theorem common_good (a b : List α) : Good a b 0 0 (cm 0 0 a b) := cm_good a b 0 0 a b rfl rfl

theorem cm_map {β : Type} [DecidableEq β] (f : α → β) (i j : Nat) (a b : List α) (h : ∀ x ∈ a, ∀ y ∈ b, f x = f y → x = y) : cm i j (a.map f) (b.map f) = cm i j a b := by
  induction i, j, a, b using cm.induct with
  | case1 i j b => simp [cm]
  | case2 i j x xs => simp [cm]
  | case3 i j x xs ys ih =>
    rw [List.map_cons, List.map_cons, cm_cons_eq, cm_cons_eq, ih (fun u hu v hv => h u (List.mem_cons_of_mem _ hu) v (List.mem_cons_of_mem _ hv))]
  | case4 i j x xs y ys hne hl ih =>
    have hf : f x ≠ f y := fun e => hne (h x List.mem_cons_self y List.mem_cons_self e)
    have e1 := lc_map f (x :: xs) ys (fun u hu v hv => h u hu v (List.mem_cons_of_mem _ hv))
    have e2 := lc_map f xs (y :: ys) (fun u hu v hv => h u (List.mem_cons_of_mem _ hu) v hv)
    rw [List.map_cons] at e1 e2
    rw [List.map_cons, List.map_cons, cm_cons_left _ _ hf _ _ (by rw [e1, e2]; exact hl), cm_cons_left _ _ hne _ _ hl, ← List.map_cons (f := f) (a := y), ih (fun u hu v hv => h u (List.mem_cons_of_mem _ hu) v hv)]
  | case5 i j x xs y ys hne hl ih =>
    have hf : f x ≠ f y := fun e => hne (h x List.mem_cons_self y List.mem_cons_self e)
    have e1 := lc_map f (x :: xs) ys (fun u hu v hv => h u hu v (List.mem_cons_of_mem _ hv))
    have e2 := lc_map f xs (y :: ys) (fun u hu v hv => h u (List.mem_cons_of_mem _ hu) v hv)
    rw [List.map_cons] at e1 e2
    rw [List.map_cons, List.map_cons, cm_cons_right _ _ hf _ _ (by rw [e1, e2]; exact hl), cm_cons_right _ _ hne _ _ hl, ← List.map_cons (f := f) (a := x), ih (fun u hu v hv => h u hu v (List.mem_cons_of_mem _ hv))]

/-- Common and Hunks, of any rows. -/
def common (a b : List α) : List (Nat × Nat) := if a.length ≤ 4096 ∧ b.length ≤ 4096 then cm 0 0 a b else []
def hunks (a b : List α) : List (Hk α) := hks a b 0 0 (common a b ++ [(a.length, b.length)])

theorem common_ok (a b : List α) : Good a b 0 0 (common a b) := by
  unfold common
  split
  · exact common_good a b
  · exact good_nil _ _ _ _

theorem app_hunks (a b : List α) : app a (hunks a b) = b := by
  have := app_hks a b (common a b) 0 0 (Nat.zero_le _) (Nat.zero_le _) (common_ok a b)
  simpa [hunks] using this

theorem fits_hunks (a b : List α) : fits a none (hunks a b) :=
  fits_hks a b (common a b) 0 0 none (Nat.zero_le _) (Nat.zero_le _) (common_ok a b) (fun p hp => by cases hp)

theorem hks_self (l : List α) (hl : ∀ (ps : List (Nat × Nat)), ps = ps) : ∀ (xs : List α) (i j : Nat), i = j → i + xs.length = l.length → hks l l i j (cm i j xs xs ++ [(l.length, l.length)]) = []
  | [], i, j, hij, h => by
    subst hij
    simp only [cm_nil_left, List.nil_append, hks, List.append_nil]
    simp at h
    simp [h]
  | x :: xs, i, j, hij, h => by
    subst hij
    rw [cm_cons_eq]
    simp only [List.cons_append, hks]
    rw [hks_self l hl xs (i + 1) (i + 1) rfl (by simp at h; omega)]
    simp

theorem hunks_self (a : List α) (h : a.length ≤ 4096) : hunks a a = [] := by
  unfold hunks common
  rw [if_pos ⟨h, h⟩]
  exact hks_self a (fun _ => rfl) a 0 0 rfl (by simp)

theorem common_length (a b : List α) (ha : a.length ≤ 4096) (hb : b.length ≤ 4096) : (common a b).length = lc a b := by
  unfold common; rw [if_pos ⟨ha, hb⟩, cm_length]


end
end Df
end Go.Proofs.YtdaaecnmllpgdaaGreatDoor

/-
  Rows of cells and of texts, in worlds; small laws that every walk of this seat uses.
-/
namespace Go.Proofs.YtdaaecnmllpgdaaGreatDoor
open Go.RowKit

namespace Ln
/-- A string's value out of its bytes. -/
def bs (l : List UInt8) : ByteArray := ⟨l.toArray⟩
theorem size_eq (s : ByteArray) : s.size = s.data.toList.length := rfl
theorem bs_toList (l : List UInt8) : (bs l).data.toList = l := rfl
theorem bs_size (l : List UInt8) : (bs l).size = l.length := rfl
theorem bs_of (s : ByteArray) : bs s.data.toList = s := rfl
theorem bs_inj {x y : List UInt8} (h : bs x = bs y) : x = y := by
  have := congrArg (fun s => s.data.toList) h
  exact this
end Ln

theorem ret_int {k : IntKind} {a b : Int} (h : a = b) : Ending.returned (.int k a) = .returned (.int k b) := by rw [h]
theorem ret_bool {a b : Bool} (h : a = b) : Ending.returned (.bool a) = .returned (.bool b) := by rw [h]
theorem below_drewN {B : Nat} {a w : World} (h : Below B a w) (n : Nat) : Below B a (w.drewN n) := h.trans ⟨rfl, rfl, rfl, Nat.le_refl _, fun _ _ => rfl⟩

theorem info3 : (Tryz.prog.info? 3).map (fun i => (i.zero, i.size, i.bytes)) = some (some (.int .i64 0), 1, 8) := by kernel_rfl
theorem info5 : (Tryz.prog.info? 5).map (fun i => (i.zero, i.size, i.bytes)) = some (some (.int .u8 0), 1, 1) := by kernel_rfl
theorem info9 : (Tryz.prog.info? 9).map (fun i => (i.zero, i.size, i.bytes)) = some (some (.string ⟨#[]⟩), 1, 16) := by kernel_rfl

/-- The cell of a text. -/
def txtV (l : List UInt8) : Value := .string (Ln.bs l)
/-- The cell of an int. -/
def numV (k : Nat) : Value := .int .i64 k

theorem txt_one (L : List (List UInt8)) : ∀ u ∈ L.map txtV, u.oneCell' = true := by
  intro u hu
  obtain ⟨x, _, rfl⟩ := List.mem_map.1 hu
  rfl
theorem bs_beq (x y : List UInt8) : ((Ln.bs x).toList == (Ln.bs y).toList) = decide (x = y) := by
  rw [Lib.toList_data, Lib.toList_data, Ln.bs_toList, Ln.bs_toList]
  rw [Bool.eq_iff_iff]; simp

/-- v is a slice of n elements whose cells read, in w, as xs; its block lies below m. -/
def CellsLow (m : Nat) (w : World) (v : Value) (n : Nat) (xs : List Value) : Prop :=
  ∃ ao cap b off, v = .slice ao n cap ∧ (n ≤ cap ∧ (ao = none → cap = 0)) ∧ (0 < n → ao = some ⟨b, off, none⟩ ∧ b < m) ∧ ∀ (j : Nat) (x : Value), xs[j]? = some x → w.cell? ⟨b, off + j, none⟩ = some x

theorem CellsLow.below {n m k : Nat} {w w' : World} {v : Value} {xs : List Value} (h : CellsLow n w v k xs) (hb : Below m w w') (hnm : n ≤ m) (h0 : k = 0 → xs = []) : CellsLow n w' v k xs := by
  obtain ⟨ao, cap, b, off, hv, hc, ha, hx⟩ := h
  refine ⟨ao, cap, b, off, hv, hc, ha, fun j x hj => ?_⟩
  by_cases hk : k = 0
  · rw [h0 hk] at hj; simp at hj
  · exact (hb.cell (p := ⟨b, off + j, none⟩) (by have := (ha (by omega)).2; show b < m; omega)).trans (hx j x hj)
theorem CellsLow.mono {n m k : Nat} {w : World} {v : Value} {xs : List Value} (h : CellsLow n w v k xs) (hnm : n ≤ m) : CellsLow m w v k xs := by
  obtain ⟨ao, cap, b, off, hv, hc, ha, hx⟩ := h
  exact ⟨ao, cap, b, off, hv, hc, fun h => ⟨(ha h).1, by have := (ha h).2; omega⟩, hx⟩

theorem CellsLow.of_owns {W : World} {B e size k : Nat} {v : Value} {xs : List Value} (h : W.ownsRow B e size v k xs) : CellsLow W.heap.size W v k xs := by
  have h0 := h
  rcases h.2 with ⟨rfl, rfl⟩ | ⟨g, cap, cur, rfl, h1, hg, h2, h3, h4, h5⟩
  · have : xs = [] := List.length_eq_zero_iff.1 (by rw [h.1]; simp)
    subst this
    exact ⟨none, 0, 0, 0, rfl, ⟨Nat.le_refl _, fun _ => rfl⟩, fun h => absurd h (by omega), fun j x hj => by simp at hj⟩
  · refine ⟨_, cap, g, 0, rfl, ⟨h2, fun e => by cases e⟩, fun _ => ⟨rfl, (Array.getElem?_eq_some_iff.1 hg).1⟩, fun j x hx => ?_⟩
    have hc := h0.cells (g := g) rfl j x hx
    have ha : (⟨g, 0, none⟩ : Addr).add j = ⟨g, j, none⟩ := by cases j <;> simp [Addr.add]
    rw [ha] at hc
    rw [Nat.zero_add]; exact hc

/-- v reads, in w, as the row L of texts, in a block below n. -/
def RowLow (n : Nat) (w : World) (v : Value) (L : List (List UInt8)) : Prop := CellsLow n w v L.length (L.map txtV)
theorem RowLow.below {n m : Nat} {w w' : World} {v : Value} {L : List (List UInt8)} (h : RowLow n w v L) (hb : Below m w w') (hnm : n ≤ m) : RowLow n w' v L :=
  CellsLow.below h hb hnm (fun h0 => by rw [List.length_eq_zero_iff.1 h0]; rfl)
theorem RowLow.mono {n m : Nat} {w : World} {v : Value} {L : List (List UInt8)} (h : RowLow n w v L) (hnm : n ≤ m) : RowLow m w v L := CellsLow.mono h hnm
theorem RowLow.parts {n : Nat} {w : World} {v : Value} {L : List (List UInt8)} (h : RowLow n w v L) : ∃ ao cap b off, v = .slice ao L.length cap ∧ (L.length ≤ cap ∧ (ao = none → cap = 0)) ∧ (0 < L.length → ao = some ⟨b, off, none⟩ ∧ b < n) ∧ ∀ (j : Nat) (x : List UInt8), L[j]? = some x → w.cell? ⟨b, off + j, none⟩ = some (.string (Ln.bs x)) := by
  obtain ⟨ao, cap, b, off, hv, hc, ha, hx⟩ := h
  exact ⟨ao, cap, b, off, hv, hc, ha, fun j x hj => hx j _ (by rw [List.getElem?_map, hj]; rfl)⟩
theorem RowLow.of_owns {W : World} {B : Nat} {v : Value} {L : List (List UInt8)} (h : W.ownsRow B 9 1 v L.length (L.map txtV)) : RowLow W.heap.size W v L := CellsLow.of_owns h

theorem owns_below {W W' : World} {B k size : Nat} {e : TypeId} {v : Value} {xs : List Value} (h : W.ownsRow B e size v k xs) (hb : Below W.heap.size W W') : W'.ownsRow B e size v k xs := by
  refine ⟨h.1, ?_⟩
  rcases h.2 with h0 | ⟨g, cap, cur, hv, h1, hg, h2⟩
  · exact .inl h0
  · exact .inr ⟨g, cap, cur, hv, h1, (hb.block g (Array.getElem?_eq_some_iff.1 hg).1).trans hg, h2⟩
theorem owns_base {W : World} {B B' k size : Nat} {e : TypeId} {v : Value} {xs : List Value} (h : W.ownsRow B e size v k xs) (hb : B' ≤ B) : W.ownsRow B' e size v k xs := by
  refine ⟨h.1, ?_⟩
  rcases h.2 with h0 | ⟨g, cap, cur, hv, h1, hg, h2⟩
  · exact .inl h0
  · exact .inr ⟨g, cap, cur, hv, Nat.le_trans hb h1, hg, h2⟩

end Go.Proofs.YtdaaecnmllpgdaaGreatDoor

/-
  A walk over strings.Clone: the same bytes; nothing that lay has turned.
-/
namespace Go.Proofs.YtdaaecnmllpgdaaGreatDoor
open Go.RowKit


set_option maxHeartbeats 4000000 in
set_option maxRecDepth 100000 in
theorem cloneIn_any (s : ByteArray) (w : World) (hlim : s.size ≤ 281474976710656) :
    Calls Tryz.prog 37 #[.string s] w fun e w' => e = .returned (.string s) ∧ Below w.heap.size w w' := by
  by_cases h0 : s.size = 0
  · have hs : s = ⟨#[]⟩ := by
      apply ByteArray.ext
      exact Array.eq_empty_of_size_eq_zero h0
    subst hs
    go_enter Tryz.func37, Tryz.ntmps37
    go_wp2
    go_ret
    exact ⟨rfl, Below.refl _ _⟩
  · obtain ⟨i0, hi, hz0, hz1, hz2⟩ := info_parts info5
    have hinfo : (Tryz.prog.info? 5).map (·.size) = some 1 := by rw [hi]; simp [hz1]
    have hco : Tryz.prog.cellsOf 5 = 1 := by simp [Program.cellsOf, hi, hz1]
    obtain ⟨M, hM⟩ : ∃ M, M = madeCells (Value.int .u8 0).cells (((s.size : Nat) : Int).toNat * i0.size) := ⟨_, rfl⟩
    have hMs : M.size = s.size := by rw [hM, size_madeCells, hz1]; simp
    have hmk : ∀ W : World, (Instr.makeSlice 91 (.int .i64 (s.size : Int)) (.int .i64 (s.size : Int))).run Tryz.prog W = .ok (.slice (some ⟨W.heap.size, 0, none⟩) s.size s.size) (W.alloc (.cells M 5)) := fun W => by
      have h := run_make (P := Tryz.prog) W 91 5 i0 (.int .u8 0) Tryz.underlying91 hi hz0 .i64 .i64 (s.size : Int) (s.size : Int) (by omega) (by omega) (by rw [hz2]; omega) (by omega)
      rw [← hM] at h
      simpa using h
    clear hM
    have hcp := Lib.run_copy_row_string (P := Tryz.prog) (w.alloc (.cells M 5)) 91 9 3 5 w.heap.size 0 s.size s.size s M 5 Tryz.underlying91 hinfo (heap_alloc_new w _) (Nat.le_refl _) (by omega)
    obtain ⟨Y, hY⟩ : ∃ Y, Y = (M.toList.take 0 ++ Lib.byteCells s.data.toList ++ M.toList.drop (0 + s.size)).toArray := ⟨_, rfl⟩
    rw [← hY] at hcp
    have hYl : Y.toList = Lib.byteCells s.data.toList := by
      rw [hY, List.toList_toArray, List.take_zero, List.nil_append, List.drop_of_length_le (by rw [Array.length_toList]; omega), List.append_nil]
    have hYs : Y.size = s.size := by rw [← Array.length_toList, hYl, Lib.byteCells_length, ← Lib.size_eq]
    have hgY : ((w.alloc (.cells M 5)).setRow w.heap.size Y).heap[w.heap.size]? = some (.cells Y 5 (0, 0)) := setRow_heap _ _ M _ 5 (0, 0) (heap_alloc_new w _)
    have hne : s.data.toList ≠ [] := fun e => h0 (by rw [Lib.size_eq, e]; rfl)
    have hUS := Lib.run_unsafeString_row (P := Tryz.prog) ((w.alloc (.cells M 5)).setRow w.heap.size Y) 92 3 9 5 Tryz.underlying92 hco w.heap.size Y.size (by unfold World.shape?; rw [hgY]) s.data.toList hne (by rw [← Lib.size_eq]; omega) (by rw [← Lib.size_eq]; omega)
      (fun j x hx => Lib.cells_of_row hgY Y.size j _ (by rw [List.take_of_length_le (by rw [Array.length_toList]; exact Nat.le_refl _), hYl]; simp [Lib.byteCells, hx]))
    rw [← Lib.size_eq] at hUS
    clear hY
    go_enter Tryz.func37, Tryz.ntmps37
    go_wp2
    go_ret
    have hb1 : Below w.heap.size w (w.alloc (.cells M 5)) := (Below.refl _ w).alloc (Nat.le_refl _) _
    have hb2 : Below w.heap.size (w.alloc (.cells M 5)) ((w.alloc (.cells M 5)).setRow w.heap.size Y) := ⟨rfl, rfl, rfl, by simp, fun k hk => setRow_other _ _ _ _ (by omega)⟩
    exact ⟨rfl, Lib.below_freeze (hb1.trans hb2) (p := ⟨w.heap.size, 0, none⟩) (Nat.le_refl _) _⟩

set_option maxHeartbeats 1000000 in
theorem clone_any (s : ByteArray) (w : World) (hlim : s.size ≤ 281474976710656) :
    Calls Tryz.prog 21 #[.string s] w fun e w' => e = .returned (.string s) ∧ Below w.heap.size w w' := by
  go_enter Tryz.func21, Tryz.ntmps21
  go_wp2_with (go_at_call 37; refine (cloneIn_any _ _ hlim).mono ?_; rintro e w' ⟨rfl, hb⟩)
  go_ret
  exact ⟨rfl, hb⟩

end Go.Proofs.YtdaaecnmllpgdaaGreatDoor

/-
  The walks of clerestorykit.SameTexts, SameHunk, SameHunks and of the law's samePairs: are two rows the same?
-/
namespace Go.Proofs.YtdaaecnmllpgdaaGreatDoor
open Go.RowKit

theorem ext_of (L1 L2 : List (List UInt8)) (hn : L1.length = L2.length) (h : ∀ j : Nat, j < L1.length → L1[j]? = L2[j]?) : L1 = L2 := by
  apply List.ext_getElem? 
  intro j
  by_cases hj : j < L1.length
  · exact h j hj
  · rw [List.getElem?_eq_none (by omega), List.getElem?_eq_none (by omega)]

end Go.Proofs.YtdaaecnmllpgdaaGreatDoor

/-
  The walks of diff.numbered and of its closure: the same number for the same line, in both rows.
-/
namespace Go.Proofs.YtdaaecnmllpgdaaGreatDoor
open Go.RowKit Go.WideMaps

set_option maxRecDepth 100000 in
theorem Tryz.zero3 (w : World) : (zeroValue 3).run Tryz.prog w = .ok (.int .i64 0) w := by rfl

theorem grown_trans {W A B : World} {m : Nat} {r : Option Nat} (h : W.grownBy A (some m)) (k : A.grownBy B r) (hr : ∀ j, r = some j → j = m ∨ W.heap.size ≤ j) : W.grownBy B (some m) :=
  ⟨k.os.trans h.os, k.tape.trans h.tape, k.output.trans h.output, Nat.le_trans h.size k.size, fun j hj hne =>
    (k.block j (Nat.lt_of_lt_of_le hj h.size) (fun e => by
      rcases hr j e.symm with e1 | e1
      · exact hne (by rw [e1])
      · omega)).trans (h.block j hj hne)⟩
theorem grown_of_none {W A : World} (h : W.grownBy A none) (m : Option Nat) : W.grownBy A m := ⟨h.os, h.tape, h.output, h.size, fun j hj _ => h.block j hj (by simp)⟩
theorem grown_of_below {W A : World} (h : Below W.heap.size W A) (m : Option Nat) : W.grownBy A m := ⟨h.os, h.tape, h.output, h.size, fun j hj _ => h.block j hj⟩
theorem below_of_grown {W A : World} {n m : Nat} (h : W.grownBy A (some m)) (hnm : n ≤ m) (hn : n ≤ W.heap.size) : Below n W A := ⟨h.os, h.tape, h.output, h.size, fun j hj => h.block j (by omega) (fun e => by have := Option.some.inj e; omega)⟩

theorem owns_cell {w : World} {base e g n cap : Nat} {xs : List Value} (h : w.ownsRow base e 1 (.slice (some ⟨g, 0, none⟩) n cap) n xs) (j : Nat) (hj : j < n) : ∃ u, w.cell? ⟨g, j, none⟩ = some u := by
  have h1 := h.1
  have h2 := h.cellAt j (by omega)
  rw [List.getElem?_eq_getElem (by omega)] at h2
  exact ⟨_, h2⟩
theorem wf_nat {N : Nat} (h : N ≤ 1000000000000) : (Lit.int .i64 (N : Int)).wf = true := by
  have h1 : IntKind.i64.min = -9223372036854775808 := by decide
  have h2 : IntKind.i64.max = 9223372036854775807 := by decide
  simp only [Lit.wf, h1, h2, Bool.and_eq_true, decide_eq_true_eq]
  omega

/-- What the map of numbers holds: a number below N for each of its keys, no number twice. -/
structure NumOk (D : DataW Unit) (f : List UInt8 → Nat) (N : Nat) : Prop where
  size : Maps.size D = N
  at_ : ∀ x, Maps.has D (.string x) = true → D.atKey (.string x) (.lit (.int .i64 0)) = .lit (.int .i64 (f x))
  lt : ∀ x, Maps.has D (.string x) = true → f x < N
  inj : ∀ x y, Maps.has D (.string x) = true → Maps.has D (.string y) = true → f x = f y → x = y
/-- The later map holds what the one ahead held. -/
def NumExt (D : DataW Unit) (f : List UInt8 → Nat) (D' : DataW Unit) (f' : List UInt8 → Nat) : Prop :=
  ∀ x, Maps.has D (.string x) = true → Maps.has D' (.string x) = true ∧ f' x = f x

theorem NumExt.refl (D : DataW Unit) (f : List UInt8 → Nat) : NumExt D f D f := fun _ h => ⟨h, rfl⟩
theorem NumExt.trans {D D' D'' : DataW Unit} {f f' f'' : List UInt8 → Nat} (h : NumExt D f D' f') (k : NumExt D' f' D'' f'') : NumExt D f D'' f'' :=
  fun x hx => ⟨(k x (h x hx).1).1, ((k x (h x hx).1).2).trans (h x hx).2⟩

def putF (f : List UInt8 → Nat) (x : List UInt8) (N : Nat) : List UInt8 → Nat := fun y => if y = x then N else f y

theorem str_ne {x y : List UInt8} (h : x ≠ y) : (Lit.string x) ≠ (Lit.string y) := fun e => h (by injection e)

theorem NumOk.put {D : DataW Unit} {f : List UInt8 → Nat} {N : Nat} (h : NumOk D f N) (hm : Maps.IsMap D) (ht : Maps.Tidy D) {x : List UInt8} (hk : WideAt.IsKeyLit (.string x)) (hx : Maps.has D (.string x) = false) :
    NumOk (D.put (.string x) (.lit (.int .i64 N))) (putF f x N) (N + 1) ∧ NumExt D f (D.put (.string x) (.lit (.int .i64 N))) (putF f x N) ∧ Maps.has (D.put (.string x) (.lit (.int .i64 N))) (.string x) = true ∧ putF f x N x = N := by
  have hsame := Maps.has_put_same hm hk (.lit (.int .i64 N))
  have hoth : ∀ y, y ≠ x → Maps.has (D.put (.string x) (.lit (.int .i64 N))) (.string y) = Maps.has D (.string y) := fun y hy => Maps.has_put_other (str_ne hy) _
  have hp : putF f x N x = N := by simp [putF]
  have hpo : ∀ y, y ≠ x → putF f x N y = f y := fun y hy => by simp [putF, hy]
  refine ⟨⟨?_, ?_, ?_, ?_⟩, ?_, hsame, hp⟩
  · rw [Maps.size_put ht, hx, h.size]; rfl
  · intro y hy
    by_cases e : y = x
    · subst e; rw [hp]; exact Maps.atKey_put_same hm hk _ _
    · rw [hpo y e, Maps.atKey_put_other (str_ne e)]; rw [hoth y e] at hy; exact h.at_ y hy
  · intro y hy
    by_cases e : y = x
    · subst e; rw [hp]; omega
    · rw [hpo y e]; rw [hoth y e] at hy; have := h.lt y hy; omega
  · intro y z hy hz e
    by_cases e1 : y = x
    · by_cases e2 : z = x
      · rw [e1, e2]
      · rw [hoth z e2] at hz; have := h.lt z hz; rw [e1, hp, hpo z e2] at e; omega
    · by_cases e2 : z = x
      · rw [hoth y e1] at hy; have := h.lt y hy; rw [e2, hp, hpo y e1] at e; omega
      · rw [hoth y e1] at hy; rw [hoth z e2] at hz; rw [hpo y e1, hpo z e2] at e; exact h.inj y z hy hz e
  · intro y hy
    have e : y ≠ x := fun e => by rw [e, hx] at hy; cases hy
    exact ⟨by rw [hoth y e]; exact hy, hpo y e⟩

/-- The row of numbers when k lines have one. -/
def rowVals (f : List UInt8 → Nat) (L : List (List UInt8)) (k : Nat) : List Value := (L.take k).map (fun x => numV (f x)) ++ List.replicate (L.length - k) (.int .i64 0)

theorem rowVals_set (f : List UInt8 → Nat) (L : List (List UInt8)) (k : Nat) (x : List UInt8) (hx : L[k]? = some x) : (rowVals f L k).set k (numV (f x)) = rowVals f L (k + 1) := by
  obtain ⟨hk, hx⟩ := List.getElem?_eq_some_iff.1 hx
  unfold rowVals
  have hl : ((L.take k).map (fun x => numV (f x))).length = k := by simp; omega
  rw [List.set_append_right _ _ (by omega), hl, Nat.sub_self]
  have e : L.length - k = (L.length - (k + 1)) + 1 := by omega
  rw [e, List.replicate_succ, List.set_cons_zero, List.take_succ_eq_append_getElem hk, hx]
  simp
theorem rowVals_congr {f f' : List UInt8 → Nat} {L : List (List UInt8)} {k : Nat} (h : ∀ x ∈ L.take k, f' x = f x) : rowVals f' L k = rowVals f L k := by
  unfold rowVals
  congr 1
  exact List.map_congr_left (fun x hx => by rw [h x hx])
theorem rowVals_zero (f : List UInt8 → Nat) (L : List (List UInt8)) : rowVals f L 0 = List.replicate L.length (.int .i64 0) := by simp [rowVals]
theorem rowVals_full (f : List UInt8 → Nat) (L : List (List UInt8)) : rowVals f L L.length = L.map (fun x => numV (f x)) := by simp [rowVals]

end Go.Proofs.YtdaaecnmllpgdaaGreatDoor

/-
  The walks of diff.lengths and of its closure: the table of how long a longest row is.
-/
namespace Go.Proofs.YtdaaecnmllpgdaaGreatDoor
open Go.RowKit

/-- The row of the table for xs, filled from place j on. -/
def tabVals (xs ys : List Nat) (j : Nat) : List Value := (List.range (ys.length + 1)).map fun k => if j ≤ k then .int .u16 (Df.lc xs (ys.drop k)) else .int .u16 0

theorem tabVals_len (xs ys : List Nat) (j : Nat) : (tabVals xs ys j).length = ys.length + 1 := by simp [tabVals]
theorem tabVals_get (xs ys : List Nat) (j k : Nat) (hk : k ≤ ys.length) (hj : j ≤ k) : (tabVals xs ys j)[k]? = some (.int .u16 (Df.lc xs (ys.drop k))) := by
  unfold tabVals
  rw [List.getElem?_map, List.getElem?_range (by omega)]
  simp [hj]
theorem tabVals_start (xs ys : List Nat) : tabVals xs ys ys.length = List.replicate (ys.length + 1) (.int .u16 0) := by
  apply List.ext_getElem?
  intro k
  unfold tabVals
  by_cases hk : k < ys.length + 1
  · rw [List.getElem?_map, List.getElem?_range hk, List.getElem?_replicate, if_pos hk]
    by_cases e : ys.length ≤ k
    · have : k = ys.length := by omega
      subst this
      simp [Df.lc_nil_right]
    · simp [e]
  · rw [List.getElem?_eq_none (by simp; omega), List.getElem?_eq_none (by simp; omega)]
theorem tabVals_set (xs ys : List Nat) (j : Nat) (hj : j < ys.length) : (tabVals xs ys (j + 1)).set j (.int .u16 (Df.lc xs (ys.drop j))) = tabVals xs ys j := by
  apply List.ext_getElem?
  intro k
  rw [List.getElem?_set]
  by_cases hk : k < ys.length + 1
  · by_cases e : j = k
    · subst e
      rw [if_pos rfl, if_pos (by rw [tabVals_len]; omega), tabVals_get xs ys j j (by omega) (Nat.le_refl _)]
    · rw [if_neg e]
      unfold tabVals
      rw [List.getElem?_map, List.getElem?_map, List.getElem?_range hk]
      simp only [Option.map_some]
      congr 1
      by_cases e2 : j ≤ k
      · rw [if_pos e2, if_pos (by omega)]
      · rw [if_neg e2, if_neg (by omega)]
  · rw [if_neg (by omega), List.getElem?_eq_none (by rw [tabVals_len]; omega), List.getElem?_eq_none (by rw [tabVals_len]; omega)]

theorem tabVals_none (ys : List Nat) : tabVals [] ys 0 = List.replicate (ys.length + 1) (.int .u16 0) := by
  apply List.ext_getElem?
  intro k
  unfold tabVals
  by_cases hk : k < ys.length + 1
  · rw [List.getElem?_map, List.getElem?_range hk, List.getElem?_replicate, if_pos hk]
    simp [Df.lc_nil_left]
  · rw [List.getElem?_eq_none (by simp; omega), List.getElem?_eq_none (by simp; omega)]

theorem lc_drop_eq (xs ys : List Nat) (i j x : Nat) (hx : xs[i]? = some x) (hy : ys[j]? = some x) : Df.lc (xs.drop i) (ys.drop j) = Df.lc (xs.drop (i + 1)) (ys.drop (j + 1)) + 1 := by
  rw [Df.drop_at hx, Df.drop_at hy, Df.lc_cons_eq]
theorem lc_drop_ne (xs ys : List Nat) (i j x y : Nat) (hx : xs[i]? = some x) (hy : ys[j]? = some y) (h : x ≠ y) : Df.lc (xs.drop i) (ys.drop j) = max (Df.lc (xs.drop (i + 1)) (ys.drop j)) (Df.lc (xs.drop i) (ys.drop (j + 1))) := by
  rw [Df.drop_at hx, Df.drop_at hy, Df.lc_cons_ne h]
theorem lc_le (xs ys : List Nat) (j : Nat) (h : ys.length ≤ 4096) : Df.lc xs (ys.drop j) ≤ 4096 := by
  have := Df.lc_le_right xs (ys.drop j)
  rw [List.length_drop] at this
  omega

theorem cells_num {w : World} {B g : Nat} {xs : List Nat} (h : w.ownsRow B 3 1 (.slice (some ⟨g, 0, none⟩) xs.length xs.length) xs.length (xs.map numV)) : ∀ k x, xs[k]? = some x → w.cell? ⟨g, k, none⟩ = some (numV x) := by
  intro k x hx
  have hk : k < xs.length := (List.getElem?_eq_some_iff.1 hx).1
  rw [h.cellAt k (by omega), List.getElem?_map, hx]; rfl

end Go.Proofs.YtdaaecnmllpgdaaGreatDoor

/-
  The walk of diff.Common: the row of pairs that is told.
-/
namespace Go.Proofs.YtdaaecnmllpgdaaGreatDoor
open Go.RowKit

/-- The cells of a row of pairs. -/
def pairCells (ps : List (Nat × Nat)) : List Value := ps.flatMap fun p => [numV p.1, numV p.2]
theorem pairCells_append (ps qs : List (Nat × Nat)) : pairCells (ps ++ qs) = pairCells ps ++ pairCells qs := by simp [pairCells]
theorem pairCells_len (ps : List (Nat × Nat)) : (pairCells ps).length = ps.length * 2 := by
  induction ps with
  | nil => rfl
  | cons p ps ih => 
    have : pairCells (p :: ps) = [numV p.1, numV p.2] ++ pairCells ps := rfl
    rw [this, List.length_append, ih]; simp; omega

theorem cells_new (w : World) (l : List Value) (t : TypeId) : ∀ (j : Nat) (u : Value), l[j]? = some u → (w.alloc (.cells l.toArray t)).cell? ((⟨w.heap.size, 0, none⟩ : Addr).add j) = some u := by
  intro j u hu
  have ha : (⟨w.heap.size, 0, none⟩ : Addr).add j = ⟨w.heap.size, j, none⟩ := by cases j <;> simp [Addr.add]
  rw [ha, Lib.cell_of_heap (World.alloc_heap_new w _)]
  simpa using hu

end Go.Proofs.YtdaaecnmllpgdaaGreatDoor

/-
  The walks of diff.copied and diff.exchange: lines in new memory; the hunk that exchanges them.
-/
namespace Go.Proofs.YtdaaecnmllpgdaaGreatDoor
open Go.RowKit

theorem take_txt (L : List (List UInt8)) (k : Nat) (x : List UInt8) (hx : L[k]? = some x) : (L.take (k + 1)).map txtV = (L.take k).map txtV ++ [.string (Ln.bs x)] := by
  rw [List.take_add_one, hx]; simp [txtV]

/-- The value of a hunk. -/
def hkV (at_ : Nat) (vo vn : Value) : Value := .agg #[.int .i64 at_, vo, vn]

theorem grown_set (w : World) (b j : Nat) (u : Value) : w.grownBy (w.setCell ⟨b, j, none⟩ u) (some b) :=
  ⟨rfl, rfl, rfl, by simp, fun k _ hk => heap_setCell_other w ⟨b, j, none⟩ k u (fun e => hk (by simp [e]))⟩
theorem three_cells {w : World} {b : Nat} {t : TypeId} {x y z : Value} (h : w.heap[b]? = some (.cells #[x, y, z] t (0, 0))) (x' y' z' : Value) :
    (((w.setCell ⟨b, 0, none⟩ x').setCell ⟨b, 1, none⟩ y').setCell ⟨b, 2, none⟩ z').heap[b]? = some (.cells #[x', y', z'] t (0, 0)) := by
  have h1 := heap_setCell_same w b 0 _ t x' h
  have h2 := heap_setCell_same _ b 1 _ t y' h1
  have h3 := heap_setCell_same _ b 2 _ t z' h2
  exact h3

theorem slice_shape {w : World} {B e size n : Nat} {v : Value} {xs : List Value} (h : w.ownsRow B e size v n xs) : ∃ ao cap, v = .slice ao n cap := by
  rcases h.2 with ⟨rfl, rfl⟩ | ⟨g, cap, cur, rfl, _⟩
  · exact ⟨none, 0, rfl⟩
  · exact ⟨_, cap, rfl⟩

end Go.Proofs.YtdaaecnmllpgdaaGreatDoor

/-
  A range over a function whose yielded values are told with what is true of them in the world in which they are yielded (the body goes on at each of them).
-/
namespace Go.Proofs.YtdaaecnmllpgdaaGreatDoor
open Go.RowKit

/-- Nothing that was there has turned, but blocks that hold no cells and lie from B on. -/
def Shy (B : Nat) (I : World → Prop) : Prop := ∀ W l o o', I W → B ≤ l → W.heap[l]? = some o → o.isCells = false → I (W.putObj l o')

theorem range_told {α : Type} {F : Fence} {n : Nat} {P : Program} {g : Operand} {ps : Array Tmp} {assign body : Code} {Q : Exit → Act → World → Prop} {a : Act} {w : World}
    (hround : F.round = none) (hn : 1 ≤ n) {gf : Nat} {lb : Array Value} (hgf : a.eval g = .func (.func gf) #[] lb) (hin : F.fn gf) (hent : ∀ args w, (callFunc gf args).run P w = .ok (.enter gf args) w)
    (enc : α → Value) (hps : ps.size = 1) (Φ : α → World → Prop) (Kp : World → World → Prop) (S : List α → Prop) (N : Nat) (I : List α → World → Prop) (Ax : α → Act → World → Prop)
    (hKt : ∀ {A B C : World}, Kp A B → Kp B C → Kp A C) (hKb : ∀ (W : World) (l : Nat) (o o' : Obj), w.heap.size ≤ l → W.heap[l]? = some o → o.isCells = false → Kp W (W.putObj l o'))
    (hI : ∀ s, Shy w.heap.size (I s)) (hIb : ∀ s W W', I s W → Below W.heap.size W W' → I s W') (hΦ : ∀ x, Shy w.heap.size (Φ x)) (hAx : ∀ x a', Shy w.heap.size (Ax x a'))
    (hseq : ∀ (l : Nat) (J : List α → World → Prop), (∀ s W W', J s W → Below W.heap.size W W' → J s W') →
      (∀ pre x W, J pre W → Φ x W → pre.length < N → YieldAt F (n - 1 - 1) P l #[enc x] W fun e W' => e = .returned (.bool true) ∧ J (pre ++ [x]) W' ∧ Kp W W') →
      ∀ W, Below w.heap.size w W → J [] W → CallsIn F (n - 1) P gf (#[.func (.yield l) #[] #[]] ++ lb) W fun e W' => (∃ v, e = .returned v) ∧ ∃ xs, S xs ∧ J xs W')
    (hassign : ∀ (l : Nat) (pre : List α) (x : α) (W : World) (K : Act → World → Prop), I pre W → Φ x W → (∀ a' W', KeepsFrom w.heap.size W W' → Kp W W' → I pre W' → Φ x W' → Ax x a' W' → K a' W') →
      assign.wpIn (F.inRound l) (n - 1 - 1) P (Exit.then K (fun _ _ _ => False)) { tmps := (ps.zip #[enc x]).foldl (fun t (p, v) => t.setIfInBounds p v) a.tmps, defers := [] } W)
    (hbody : ∀ (l : Nat) (pre : List α) (x : α) (a' : Act) (W : World), I pre W → Φ x W → Ax x a' W → pre.length < N →
      body.wpIn (F.inRound l) (n - 1 - 1) P (fun e _ W' => e = .normal ∧ KeepsFrom w.heap.size W W' ∧ Kp W W' ∧ I (pre ++ [x]) W') a' W)
    (h0 : I [] w)
    (hdone : ∀ (D : Nat) (xs : List α) (W : World), w.heap.size ≤ D → S xs → I xs W → W.heap[D]? = some (.deferred (some [])) → Q .normal { a with defers := { target := .collected D, args := #[] } :: a.defers } W) :
    (Code.rangeFunc g ps assign body).wpIn F n P Q a w := by
  refine wpIn_rangeFunc fun fn hfn => ?_
  rw [hround]
  obtain ⟨lp, hlp⟩ : ∃ lp : LoopState → Option Code → Loop, lp = fun st pe => { state := st, pending := pe, fn, tmps := a.tmps, params := ps, assign, body, defers := w.heap.size } := ⟨_, rfl⟩
  obtain ⟨V, hV⟩ : ∃ V, V = (w.alloc (.deferred (some []))).alloc (.loop (lp .ready none)) := ⟨_, rfl⟩
  have hloop : V.heap[w.heap.size + 1]? = some (.loop (lp .ready none)) := by
    rw [hV]; have := World.alloc_heap_new (w.alloc (.deferred (some []))) (.loop (lp .ready none)); rwa [World.size_alloc] at this
  have hdef : V.heap[w.heap.size]? = some (.deferred (some [])) := by
    rw [hV]; exact (Below.heap_alloc _ _ _ (by simp)).trans (World.alloc_heap_new w _)
  have hbel : Below w.heap.size w V := by
    rw [hV]; exact ((Below.refl _ w).alloc (Nat.le_refl _) _).alloc (by simp) _
  refine ⟨w.heap.size + 1, [{ target := .collected w.heap.size, args := #[] }], V, { target := .fn (.func gf) lb, args := #[.func (.yield (w.heap.size + 1)) #[] #[]] }, V, gf,
    #[.func (.yield (w.heap.size + 1)) #[] #[]] ++ lb, V, ?_, ?_, ?_, ?_, fun _ => hn, ?_⟩
  · rw [hV, hlp]; exact run_enterLoop_outer _ _ _ _ _
  · simp only [resolve, hgf]
    simp [go_sem]
  · intro f' hf'
    simp [Target.leads] at hf'
    subst hf'
    exact hin
  · simp [invoke, go_sem, hent]
  · have hkeep : ∀ {A B : World} {k : Nat} {o : Obj}, Below A.heap.size A B → A.heap[k]? = some o → B.heap[k]? = some o := fun hb hk => (hb.block _ (Array.getElem?_eq_some_iff.1 hk).1).trans hk
    refine (hseq (w.heap.size + 1) (fun pre W => I pre W ∧ W.heap[w.heap.size + 1]? = some (.loop (lp .ready none)) ∧ W.heap[w.heap.size]? = some (.deferred (some [])))
      (fun s A B hs hb => ⟨hIb s A B hs.1 hb, hkeep hb hs.2.1, hkeep hb hs.2.2⟩) ?_ V hbel ⟨hIb _ _ _ h0 hbel, hloop, hdef⟩).mono ?_
    · rintro pre x W ⟨hi, hl, hd⟩ hx hlen
      have hy := run_yield (P := P) (args := #[enc x]) hl (by rw [hlp]; simp [hps])
      rw [hlp] at hy
      refine ⟨fn, _, assign, body, hy, roundIn_of_wpIn hfn (hassign _ pre x W _ hi hx fun a' A hkA hkpA hiA hxA haA => ?_)⟩
      have hlA := hkA.same _ _ (by omega) hl rfl
      have hdA := hkA.same _ _ (Nat.le_refl _) hd rfl
      refine ⟨_, run_beginRound hlA (by rw [hlp]), ?_⟩
      have hltA : w.heap.size + 1 < A.heap.size := (Array.getElem?_eq_some_iff.1 hlA).1
      have hlB : (A.putObj (w.heap.size + 1) (.loop { lp .ready none with state := .busy })).heap[w.heap.size + 1]? = some (.loop { lp .ready none with state := .busy }) := World.putObj_heap_same hltA
      have hdB : (A.putObj (w.heap.size + 1) (.loop { lp .ready none with state := .busy })).heap[w.heap.size]? = some (.deferred (some [])) := (World.putObj_heap_other (by omega)).trans hdA
      refine wpIn_mono (hbody _ pre x a' _ (hI pre _ _ _ _ hiA (by omega) hlA rfl) (hΦ x _ _ _ _ hxA (by omega) hlA rfl) (hAx x a' _ _ _ _ haA (by omega) hlA rfl) hlen) ?_
      rintro e a3 C ⟨rfl, hkC, hkpC, hiC⟩
      have hlC := hkC.same _ _ (by omega) hlB rfl
      have hdC := hkC.same _ _ (Nat.le_refl _) hdB rfl
      have hend := run_endRound (P := P) none hlC
      rw [hlp] at hend
      refine ⟨_, _, hend, rfl, ⟨hI _ _ _ _ _ hiC (by omega) hlC rfl, ?_, (World.putObj_heap_other (by omega)).trans hdC⟩, ?_⟩
      · rw [hlp]
        exact World.putObj_heap_same (Array.getElem?_eq_some_iff.1 hlC).1
      · exact hKt hkpA (hKt (hKb A _ _ _ (by omega) hlA rfl) (hKt hkpC (hKb C _ _ _ (by omega) hlC rfl)))
    · rintro e Z ⟨⟨v, rfl⟩, xs, hS, hi, hl, hd⟩
      refine ⟨none, _, by have := run_endLoop (P := P) hl (by rw [hlp]; simp); rw [hlp] at this; exact this, hdone _ xs _ (Nat.le_refl _) hS (hI xs _ _ _ _ hi (by omega) hl rfl) ((World.putObj_heap_other (by omega)).trans hd)⟩

end Go.Proofs.YtdaaecnmllpgdaaGreatDoor

/-
  A region that draws its order of evaluation, inside a fence: operations that yield one value in every world of a class are taken first, in the text's order, also where calls behind them turn the world within the class.
-/
namespace Go.Proofs.YtdaaecnmllpgdaaGreatDoor
open Go.RowKit

section
variable {F : Fence} {n : Nat} {P : Program} {ops : Array Oper} {Q : Exit → Act → World → Prop} {md : Region.Mode} {C : World → Prop}

/-- Wherever the class goes, the operation yields v (or is passed over), and calls nothing. -/
def Same (P : Program) (ops : Array Oper) (C : World → Prop) (o : Oper) (v : Value) (a : Act) : Prop :=
  ((Region.wanted o (yielded ops a.tmps) = true ∧ ∀ w, C w → (execOp a.eval o).run P w = .ok (.value v) w) ∨ (Region.wanted o (yielded ops a.tmps) = false ∧ v = undef)) ∧ ∀ w, o.about P w a.eval = none

theorem Same.turn {o : Oper} {v : Value} {a a' : Act} (h : Same P ops C o v a) (he : execOp a'.eval o = execOp a.eval o) (hw : Region.wanted o (yielded ops a'.tmps) = Region.wanted o (yielded ops a.tmps)) (hb : ∀ w, o.about P w a'.eval = o.about P w a.eval) : Same P ops C o v a' := by
  refine ⟨?_, fun w => by rw [hb w]; exact h.2 w⟩
  rcases h.1 with ⟨h1, h2⟩ | ⟨h1, h2⟩
  · exact .inl ⟨by rw [hw]; exact h1, fun w hc => by rw [he]; exact h2 w hc⟩
  · exact .inr ⟨by rw [hw]; exact h1, h2⟩

/-- Every order, each world on the way within the class. -/
def anyC (F : Fence) (n : Nat) (P : Program) (md : Region.Mode) (ops : Array Oper) (C : World → Prop) (Q : Exit → Act → World → Prop) : Nat → Array Bool → Act → World → Prop
  | 0, listed, a, w => Region.ready md ops listed = [] ∧ Q .normal a w
  | fuel + 1, listed, a, w => (Region.ready md ops listed = [] → Q .normal a w) ∧
    ∀ i ∈ Region.ready md ops listed, wpOpIn F n P ops Q i (fun a' w' => C w' ∧ anyC F n P md ops C Q fuel (listed.setIfInBounds i true) a' w') a w

theorem anyC_any : ∀ (fuel : Nat) (listed : Array Bool) (a : Act) (w : World), anyC F n P md ops C Q fuel listed a w → wpAnyIn F n P md ops Q fuel listed a w
  | 0, _, _, _, h => h
  | fuel + 1, listed, _, _, h => ⟨h.1, fun i hi => wpOpIn_mono (fun a' w' h' => anyC_any fuel (listed.setIfInBounds i true) a' w' h'.2) (h.2 i hi)⟩

theorem Same.op {i : Nat} {o : Oper} {v : Value} {a : Act} {w : World} (hround : F.round = none) (hi : ops[i]? = some o) (h : Same P ops C o v a) (hc : C w) {K : Act → World → Prop} (hk : K (a.put o.dst v) w) : wpOpIn F n P ops Q i K a w := by
  unfold wpOpIn
  simp only [hi]
  have hno : ∀ f, o.about P w a.eval = some f → F.fn f := fun f hf => by rw [h.2 w] at hf; cases hf
  rcases h.1 with ⟨h1, h2⟩ | ⟨h1, rfl⟩
  · simp only [h1, if_true, Oper.wpIn, hround, Oper.semAt_none, h2 w hc, Oper.uponIn]; exact ⟨hno, hk⟩
  · simp only [h1, Bool.false_eq_true, if_false]; exact ⟨hno, hk⟩

/-- What is the same may be laid in behind an operation that is apart from it. -/
theorem op_behind {j : Nat} {oi oj : Oper} {v : Value} (hround : F.round = none) (hj : ops[j]? = some oj) (hap : oi.apart ops oj = true) (hsi : ∀ cs b, oi.op ≠ .select cs b) (hsj : ∀ cs b, oj.op ≠ .select cs b)
    (hQ : ∀ c a w, Q (.panic c) (a.put oi.dst v) w → Q (.panic c) a w) {K : Act → World → Prop} {a : Act} {w : World} (hy : Same P ops C oi v a) (h : wpOpIn F n P ops Q j K (a.put oi.dst v) w) :
    wpOpIn F n P ops Q j (fun a' w' => Same P ops C oi v a' ∧ K (a'.put oi.dst v) w') a w := by
  obtain ⟨e1, e2, e3⟩ := Oper.apart_spec hap
  have stay : ∀ (b : Act), Same P ops C oi v b → ∀ u, Same P ops C oi v (b.put oj.dst u) := fun b hb u =>
    hb.turn (execOp_put oi hsi b oj.dst u e3) (wanted_put oi b oj.dst u e3) (fun w => about_put oi w b oj.dst u e3)
  have stayD : ∀ d, Same P ops C oi v { a with defers := d :: a.defers } := fun d => hy.turn rfl rfl (fun _ => rfl)
  have swap : ∀ u, K ((a.put oi.dst v).put oj.dst u) w → K ((a.put oj.dst u).put oi.dst v) w := fun u h => by rw [← Act.put_comm a v u e2]; exact h
  unfold wpOpIn at h ⊢
  simp only [hj] at h ⊢
  rw [wanted_put oj a oi.dst v e1, about_put oj w a oi.dst v e1] at h
  by_cases hw : Region.wanted oj (yielded ops a.tmps) = true
  · rw [if_pos hw] at h ⊢
    unfold Oper.wpIn at h ⊢
    rw [about_put oj w a oi.dst v e1] at h
    refine ⟨h.1, ?_⟩
    replace h := h.2
    rw [hround, Oper.semAt_none, execOp_put oj hsj a oi.dst v e1] at h
    rw [hround, Oper.semAt_none]
    generalize (execOp a.eval oj).run P w = r at *
    cases r with
    | ok x w' =>
      cases x <;> simp only [Oper.uponIn] at h ⊢
      case value u => exact ⟨stay a hy u, by rw [← Act.put_comm a v u e2]; exact h⟩
      case skip => exact ⟨stay a hy _, by rw [← Act.put_comm a v undef e2]; exact h⟩
      case defer d =>
        refine ⟨stay _ (stayD d) _, ?_⟩
        rw [← Act.put_comm _ v undef e2, ← Act.put_defers]
        exact h
      case enter f args =>
        refine ⟨h.1, CallsIn.mono h.2 fun e w'' he => ?_⟩
        cases e with
        | returned u => exact ⟨stay a hy u, by rw [← Act.put_comm a v u e2]; exact he⟩
        | panicked c => exact hQ _ _ _ he
        | outgrown => exact he
      case row row args => exact ⟨h.1, RowsIn.mono h.2 fun u w'' he => ⟨stay a hy u, by rw [← Act.put_comm a v u e2]; exact he⟩⟩
      case round l f tmps assign body =>
        refine ⟨h.1, RoundIn.mono h.2 fun e w'' he => ?_⟩
        cases e with
        | returned u => exact ⟨stay a hy u, by rw [← Act.put_comm a v u e2]; exact he⟩
        | panicked c => exact hQ _ _ _ he
        | outgrown => exact he
    | halt x w' =>
      cases x <;> simp only [Oper.uponIn] at h ⊢
      case panic u => exact hQ _ _ _ h
  · rw [if_neg hw] at h ⊢
    exact ⟨h.1, stay a hy _, swap undef h.2⟩

theorem anyC_first {i : Nat} {oi : Oper} {v : Value} (hround : F.round = none) (hi : ops[i]? = some oi) (hsel : ∀ (j : Nat) (o : Oper) cs b, ops[j]? = some o → o.op ≠ .select cs b)
    (hQ : ∀ c a w, Q (.panic c) (a.put oi.dst v) w → Q (.panic c) a w) : ∀ (fuel : Nat) (listed : Array Bool) (a : Act) (w : World),
      (∀ j oj, ops[j]? = some oj → j ≠ i → listed.getD j true = false → (∀ e ∈ oj.after, Region.binds md e = true → e.on ≠ i) → oi.apart ops oj = true) →
      i ∈ Region.ready md ops listed → Same P ops C oi v a → C w →
      anyC F n P md ops C Q fuel (listed.setIfInBounds i true) (a.put oi.dst v) w → anyC F n P md ops C Q (fuel + 1) listed a w := by
  intro fuel
  induction fuel with
  | zero =>
    intro listed a w _ hr hy hc H
    refine ⟨fun h => absurd hr (by rw [h]; simp), fun j hj => ?_⟩
    by_cases hji : j = i
    · subst hji; exact hy.op hround hi hc ⟨hc, H⟩
    · have h9 := ready_mono hj hji
      rw [H.1] at h9
      exact absurd h9 (by simp)
  | succ fuel ih =>
    intro listed a w hfree hr hy hc H
    refine ⟨fun h => absurd hr (by rw [h]; simp), fun j hj => ?_⟩
    by_cases hji : j = i
    · subst hji; exact hy.op hround hi hc ⟨hc, H⟩
    · have h1 := H.2 j (ready_mono hj hji)
      obtain ⟨hun, oj, hoj, hall⟩ := mem_ready.1 hj
      have hnot : ∀ e ∈ oj.after, Region.binds md e = true → e.on ≠ i := fun e he hb heq => by
        have q1 := hall e he hb
        have q0 := (mem_ready.1 hr).1
        rw [heq] at q1
        rcases Nat.lt_or_ge i listed.size with h' | h'
        · simp [h'] at q0 q1; rw [q0] at q1; cases q1
        · simp [Array.getElem?_eq_none h'] at q1
      have h2 := op_behind hround hoj (hfree j oj hoj hji hun hnot) (fun cs b => hsel i oi cs b hi) (fun cs b => hsel j oj cs b hoj) hQ hy h1
      refine wpOpIn_mono (fun a' w' h3 => ⟨h3.2.1, ih (listed.setIfInBounds j true) a' w' (fun k ok hk hki hu hno => ?_) (ready_mono hr (Ne.symm hji)) h3.1 h3.2.1 ?_⟩) h2
      · refine hfree k ok hk hki ?_ hno
        by_cases hjk : j = k
        · subst hjk; exact hun
        · rw [getD_set_ne true hjk] at hu; exact hu
      · rw [Array.setIfInBounds_comm _ _ hji]
        exact h3.2.2

/-- The text's order, as far as each operation yields one value in the class. -/
def lexC (P : Program) (ops : Array Oper) (C : World → Prop) (K : Act → Prop) : List Oper → Act → Prop
  | [], a => K a
  | o :: r, a => ∃ v, Same P ops C o v a ∧ lexC P ops C K r (a.put o.dst v)
def lexOk (md : Region.Mode) (ops : Array Oper) : Nat → Nat → Array Bool → Bool
  | 0, _, _ => true
  | m + 1, k, listed => (Region.ready md ops listed).contains k && Region.free md ops listed k && lexOk md ops m (k + 1) (listed.setIfInBounds k true)
def lexTo : Nat → Nat → Array Bool → Array Bool
  | 0, _, listed => listed
  | m + 1, k, listed => lexTo m (k + 1) (listed.setIfInBounds k true)

theorem anyC_lex (hround : F.round = none) (hs : Region.noSelect ops = true) (hQ : ∀ c (a : Act) d v w, Q (.panic c) (a.put d v) w → Q (.panic c) a w) (fuel : Nat) {w : World} (hc : C w) : ∀ (l : List Oper) (k : Nat) (listed : Array Bool) (a : Act), (∀ j, j < l.length → l[j]? = ops[k + j]?) → lexOk md ops l.length k listed = true →
    lexC P ops C (fun a' => anyC F n P md ops C Q fuel (lexTo l.length k listed) a' w) l a → anyC F n P md ops C Q (l.length + fuel) listed a w
  | [], k, listed, a, _, _, h => by
    have e : ([] : List Oper).length + fuel = fuel := by simp
    rw [e]; exact h
  | o :: l, k, listed, a, hl, hb, ⟨v, hy, hk⟩ => by
    have h0 : ops[k]? = some o := by have := hl 0 (by simp); simpa using this.symm
    simp only [List.length_cons, lexOk, Bool.and_eq_true] at hb
    obtain ⟨⟨hr, hf⟩, hb'⟩ := hb
    have e : (o :: l).length + fuel = (l.length + fuel) + 1 := by simp; omega
    rw [e]
    refine anyC_first hround h0 (Region.noSelect_spec hs) (fun c a w h => hQ c a _ _ w h) (l.length + fuel) listed a w (Region.free_spec h0 hf) (by simpa using hr) hy hc ?_
    refine anyC_lex hround hs hQ fuel hc l (k + 1) _ _ (fun j hj => ?_) hb' hk
    have := hl (j + 1) (by simp; omega)
    simpa [Nat.add_assoc, Nat.add_comm 1 j] using this

/-- One operation alone may come up. -/
theorem anyC_one {i : Nat} {o : Oper} {fuel : Nat} {listed : Array Bool} {a : Act} {w : World} (hr : Region.ready md ops listed = [i]) (ho : ops[i]? = some o) (hw : Region.wanted o (yielded ops a.tmps) = true)
    (h : ∀ K : Act → World → Prop, (∀ a' w', C w' → anyC F n P md ops C Q fuel (listed.setIfInBounds i true) a' w' → K a' w') → o.wpIn F n P a w K Q) : anyC F n P md ops C Q (fuel + 1) listed a w := by
  refine ⟨fun h0 => absurd h0 (by rw [hr]; simp), fun j hj => ?_⟩
  rw [hr] at hj
  simp at hj
  subst hj
  unfold wpOpIn
  simp only [ho, hw, if_true]
  exact h _ (fun a' w' h1 h2 => ⟨h1, h2⟩)
theorem anyC_pass {i : Nat} {o : Oper} {fuel : Nat} {listed : Array Bool} {a : Act} {w : World} (hr : Region.ready md ops listed = [i]) (ho : ops[i]? = some o) (hw : Region.wanted o (yielded ops a.tmps) = false)
    (hf : ∀ f, F.fn f) (hc : C w) (h : anyC F n P md ops C Q fuel (listed.setIfInBounds i true) (a.put o.dst undef) w) : anyC F n P md ops C Q (fuel + 1) listed a w := by
  refine ⟨fun h0 => absurd h0 (by rw [hr]; simp), fun j hj => ?_⟩
  rw [hr] at hj
  simp at hj
  subst hj
  unfold wpOpIn
  simp only [ho, hw, Bool.false_eq_true, if_false]
  exact ⟨fun f _ => hf f, hc, h⟩
theorem lexC_want {K : Act → Prop} {o : Oper} {r : List Oper} {a : Act} {v : Value} (hw : Region.wanted o (yielded ops a.tmps) = true) (hb : ∀ w, o.about P w a.eval = none) (hv : ∀ w, C w → (execOp a.eval o).run P w = .ok (.value v) w) (h : lexC P ops C K r (a.put o.dst v)) : lexC P ops C K (o :: r) a :=
  ⟨v, ⟨.inl ⟨hw, hv⟩, hb⟩, h⟩
theorem lexC_skip {K : Act → Prop} {o : Oper} {r : List Oper} {a : Act} (hw : Region.wanted o (yielded ops a.tmps) = false) (hb : ∀ w, o.about P w a.eval = none) (h : lexC P ops C K r (a.put o.dst undef)) : lexC P ops C K (o :: r) a :=
  ⟨undef, ⟨.inr ⟨hw, rfl⟩, hb⟩, h⟩
theorem lexC_nil {K : Act → Prop} {a : Act} (h : K a) : lexC P ops C K [] a := h
theorem region_lex {id : Nat} {l : List Oper} {a : Act} {w : World} (C : World → Prop) (m fuel : Nat) (hround : F.round = none) (hm : P.follows .mixedOrders = true) (hsz : l.length = m + fuel) (hs : Region.noSelect l.toArray = true)
    (hok : lexOk .any l.toArray m 0 (Array.replicate l.length false) = true) (hQ : ∀ c (a : Act) d v w, Q (.panic c) (a.put d v) w → Q (.panic c) a w) (hc : C w.drew)
    (h : lexC P l.toArray C (fun a' => anyC F n P .any l.toArray C Q fuel (lexTo m 0 (Array.replicate l.length false)) a' w.drew) (l.take m) a) : (Code.region id l.toArray true).wpIn F n P Q a w := by
  have hlm : (l.take m).length = m := by simp; omega
  refine wpIn_region_any hm (anyC_any (C := C) _ _ _ _ ?_)
  have e : l.toArray.size = (l.take m).length + fuel := by rw [hlm]; simpa using hsz
  have e2 : l.toArray.size = l.length := by simp
  have h1 := anyC_lex (F := F) (n := n) (md := .any) (Q := Q) hround hs hQ fuel (w := w.drew) hc (l.take m) 0 (Array.replicate l.length false) a (fun j hj => by
    rw [hlm] at hj
    rw [List.getElem?_take, if_pos hj]; simp) (by rw [hlm]; exact hok) (by rw [hlm]; exact h)
  rw [← e] at h1
  rw [e2] at h1 ⊢
  exact h1
/-- Go on in the text's order, from operation k on. -/
theorem anyC_more {L : List Oper} {listed : Array Bool} {a : Act} {w : World} (k cnt fuel m : Nat) (hround : F.round = none) (hs : Region.noSelect L.toArray = true) (hm : m = cnt + fuel) (hk : k + cnt ≤ L.length) (hok : lexOk md L.toArray cnt k listed = true)
    (hQ : ∀ c (a : Act) d v w, Q (.panic c) (a.put d v) w → Q (.panic c) a w) (hc : C w) (h : lexC P L.toArray C (fun a' => anyC F n P md L.toArray C Q fuel (lexTo cnt k listed) a' w) ((L.drop k).take cnt) a) : anyC F n P md L.toArray C Q m listed a w := by
  have hl : ((L.drop k).take cnt).length = cnt := by simp; omega
  have h1 := anyC_lex (F := F) (n := n) (md := md) (Q := Q) hround hs hQ fuel (w := w) hc ((L.drop k).take cnt) k listed a (fun j hj => by
    rw [hl] at hj
    rw [List.getElem?_take, if_pos hj, List.getElem?_drop]; simp) (by rw [hl]; exact hok) (by rw [hl]; exact h)
  rw [hl, ← hm] at h1
  exact h1
/-- An operation that is the same in the class, wherever it stands. -/
theorem anyC_take {i : Nat} {o : Oper} {v : Value} {fuel : Nat} {listed : Array Bool} {a : Act} {w : World} (hround : F.round = none) (ho : ops[i]? = some o) (hs : Region.noSelect ops = true) (hr : (Region.ready md ops listed).contains i = true) (hf : Region.free md ops listed i = true)
    (hQ : ∀ c (a : Act) d v w, Q (.panic c) (a.put d v) w → Q (.panic c) a w) (hc : C w) (hw : Region.wanted o (yielded ops a.tmps) = true) (hb : ∀ w, o.about P w a.eval = none) (hv : ∀ w, C w → (execOp a.eval o).run P w = .ok (.value v) w)
    (h : anyC F n P md ops C Q fuel (listed.setIfInBounds i true) (a.put o.dst v) w) : anyC F n P md ops C Q (fuel + 1) listed a w :=
  anyC_first hround ho (Region.noSelect_spec hs) (fun c a w h => hQ c a _ _ w h) fuel listed a w (Region.free_spec ho hf) (by simpa using hr) ⟨.inl ⟨hw, hv⟩, hb⟩ hc h
/-- append, by what it is known to give. -/
theorem op_append {o : Oper} {a : Act} {w : World} {K : Act → World → Prop} (s x : Operand) (t : TypeId) (hop : o.op = Op.call { callee := Callee.builtin Builtin.append, args := #[s, x], argTypes := #[t, t] }) (d v v' : Value) (w' : World)
    (hs : a.eval s = d) (hx : a.eval x = v) (hrun : (Builtin.append_ #[t, t] o.type #[d, v]).run P w = .ok v' w') (hk : K (a.put o.dst v') w') : o.wpIn F n P a w K Q := by
  unfold Oper.wpIn
  refine ⟨?_, ?_⟩
  · simp [Oper.about, hop, resolve, Target.leads, Sem.run_pure]
  · rw [Oper.semAt_plain F _ _ (by rw [hop]; intro c hc'; cases hc')]
    simp [execOp, hop, resolve, invoke, builtin, hs, hx, hrun, Result.andThen]
    exact hk
theorem list_append {rest : List Oper} {o : Oper} {a : Act} {w : World} (hg : o.guard = none) (s x : Operand) (t : TypeId) (hop : o.op = Op.call { callee := Callee.builtin Builtin.append, args := #[s, x], argTypes := #[t, t] }) (d v v' : Value) (w' : World)
    (hs : a.eval s = d) (hx : a.eval x = v) (hrun : (Builtin.append_ #[t, t] o.type #[d, v]).run P w = .ok v' w') (hk : wpListIn F n P ops Q rest (a.put o.dst v') w') : wpListIn F n P ops Q (o :: rest) a w :=
  wpListIn_plain hg fun _ hK => op_append s x t hop d v v' w' hs hx hrun (hK _ _ hk)
theorem anyC_done {listed : Array Bool} {a : Act} {w : World} (hr : Region.ready md ops listed = []) (h : Q .normal a w) : anyC F n P md ops C Q 0 listed a w := ⟨hr, h⟩
end

section
variable {F : Fence} {n : Nat} {P : Program} {ops : Array Oper} {Q : Exit → Act → World → Prop} {md : Region.Mode} {C : World → Prop}
/-- One of two operations comes up. -/
theorem anyC_two {i j : Nat} {o o' : Oper} {fuel : Nat} {listed : Array Bool} {a : Act} {w : World} (hr : Region.ready md ops listed = [i, j]) (ho : ops[i]? = some o) (ho' : ops[j]? = some o') (hw : Region.wanted o (yielded ops a.tmps) = true) (hw' : Region.wanted o' (yielded ops a.tmps) = true)
    (h : ∀ K : Act → World → Prop, (∀ a' w', C w' → anyC F n P md ops C Q fuel (listed.setIfInBounds i true) a' w' → K a' w') → o.wpIn F n P a w K Q)
    (h' : ∀ K : Act → World → Prop, (∀ a' w', C w' → anyC F n P md ops C Q fuel (listed.setIfInBounds j true) a' w' → K a' w') → o'.wpIn F n P a w K Q) : anyC F n P md ops C Q (fuel + 1) listed a w := by
  refine ⟨fun h0 => absurd h0 (by rw [hr]; simp), fun k hk => ?_⟩
  rw [hr] at hk
  simp at hk
  rcases hk with rfl | rfl
  · unfold wpOpIn
    simp only [ho, hw, if_true]
    exact h _ (fun a' w' h1 h2 => ⟨h1, h2⟩)
  · unfold wpOpIn
    simp only [ho', hw', if_true]
    exact h' _ (fun a' w' h1 h2 => ⟨h1, h2⟩)
end

end Go.Proofs.YtdaaecnmllpgdaaGreatDoor

/-
  The walk of the function that yields the hunks (diff.between, and the function that it makes).
-/
namespace Go.Proofs.YtdaaecnmllpgdaaGreatDoor
open Go.RowKit Go.Shelf

attribute [local go_sem] Oper.semAt_some

/-- A hunk that is yielded: its values, and the lines that they read as. -/
structure HV where
  at_ : Nat
  vo : Value
  vn : Value
  old : List (List UInt8)
  new : List (List UInt8)
def HV.hk (x : HV) : Df.Hk (List UInt8) := ⟨x.at_, x.old, x.new⟩
def HV.val (x : HV) : Value := hkV x.at_ x.vo x.vn
/-- The blocks in which lines of hunks lie. -/
def bl (xs : List HV) : List Nat := (xs.flatMap fun x => [x.vo, x.vn]).filterMap Value.ownBlock
theorem bl_append (xs ys : List HV) : bl (xs ++ ys) = bl xs ++ bl ys := by simp [bl]
/-- Its lines lie in memory of its own. -/
def HV.Ok (B : Nat) (x : HV) (W : World) : Prop := W.ownsRow B 9 1 x.vo x.old.length (x.old.map txtV) ∧ W.ownsRow B 9 1 x.vn x.new.length (x.new.map txtV)

set_option maxRecDepth 100000 in
/-- A part of a row of texts. -/
theorem slice_row {m : Nat} {W : World} {v : Value} {A : List (List UInt8)} {i k : Nat} (h : RowLow m W v A) (hi : i ≤ k) (hk : k ≤ A.length) :
    ∃ v', (∀ w, (Instr.slice 39 v (some (.int .i64 i)) (some (.int .i64 k)) none).run Tryz.prog w = .ok v' w) ∧ RowLow m W v' (Df.part A i k) := by
  obtain ⟨ao, cap, b, off, rfl, ⟨hcap, hnone⟩, ha, hc⟩ := h
  have hr : ∀ w, (Instr.slice 39 (.slice ao A.length cap) (some (.int .i64 i)) (some (.int .i64 k)) none).run Tryz.prog w = .ok (.slice (if cap = i then ao else ao.map (·.add (i * 1))) (k - i) (cap - i)) w := by
    intro w
    have h1 := run_slice_lh (P := Tryz.prog) w 39 ao A.length cap Tryz.underlying39 .i64 .i64 i k (by omega) (by omega) (by omega)
    have h2 : (sizeOf (Tryz.prog.elem 39)).run Tryz.prog w = .ok 1 w := by rfl
    rw [h1, h2]
    simp [Result.andThen, sliced]
  refine ⟨_, hr, ?_⟩
  have hl : (Df.part A i k).length = k - i := Df.part_length A i k hk
  refine ⟨_, cap - i, b, off + i, by rw [hl], ⟨by omega, fun e => ?_⟩, fun h0 => ?_, fun j x hj => ?_⟩
  · have e0 : ao = none := by
      by_cases h9 : cap = i
      · rw [if_pos h9] at e; exact e
      · rw [if_neg h9] at e; simpa using e
    have := hnone e0; omega
  · obtain ⟨e1, e2⟩ := ha (by omega)
    rw [if_neg (by omega), e1]
    refine ⟨?_, e2⟩
    cases i <;> simp [Addr.add]
  · rw [Nat.add_assoc]
    refine hc (i + j) x ?_
    rw [List.getElem?_map] at hj ⊢
    unfold Df.part at hj
    rw [List.getElem?_take] at hj
    split at hj
    · rw [List.getElem?_drop] at hj; exact hj
    · simp at hj

/-- Pairs between which there are parts of both rows. -/
def Steps (a b : Nat) : Nat → Nat → List (Nat × Nat) → Prop
  | _, _, [] => True
  | i, j, p :: ps => i ≤ p.1 ∧ p.1 ≤ a ∧ j ≤ p.2 ∧ p.2 ≤ b ∧ Steps a b (p.1 + 1) (p.2 + 1) ps
theorem steps_of_good {α : Type} {A B : List α} : ∀ (ps : List (Nat × Nat)) (i j : Nat), i ≤ A.length → j ≤ B.length → Df.Good A B i j ps → Steps A.length B.length i j (ps ++ [(A.length, B.length)])
  | [], i, j, hi, hj, _ => ⟨hi, Nat.le_refl _, hj, Nat.le_refl _, trivial⟩
  | p :: ps, i, j, hi, hj, hg => by
    have hge := hg.ge p List.mem_cons_self
    have hlt := hg.lt p List.mem_cons_self
    have hr := List.pairwise_cons.1 hg.rise
    exact ⟨hge.1, by omega, hge.2, by omega, steps_of_good ps (p.1 + 1) (p.2 + 1) (by omega) (by omega)
      ⟨fun q hq => by have := hr.1 q hq; omega, fun q hq => hg.lt q (List.mem_cons_of_mem _ hq), fun q hq => hg.same q (List.mem_cons_of_mem _ hq), hr.2⟩⟩

theorem bl_one {w : World} {q n2 : Nat} {x : HV} {L2 : List Value} (hq : ∀ b, x.vo.ownBlock = some b → b < q) (h2 : w.ownsRow q 9 1 x.vn n2 L2) : (bl [x]).Pairwise (· < ·) := by
  have e : bl [x] = [x.vo, x.vn].filterMap Value.ownBlock := by simp [bl]
  rw [e]
  cases h3 : x.vo.ownBlock with
  | none => cases h4 : x.vn.ownBlock <;> simp [h3, h4]
  | some b =>
    cases h4 : x.vn.ownBlock with
    | none => simp [h3, h4]
    | some c =>
      have := hq b h3
      have := (h2.lt c h4).1
      simp [h3, h4]; omega
theorem bl_bounds {w : World} {B q n1 n2 : Nat} {x : HV} {L1 L2 : List Value} (h1 : w.ownsRow B 9 1 x.vo n1 L1) (h2 : w.ownsRow q 9 1 x.vn n2 L2) (hB : B ≤ q) : ∀ b ∈ bl [x], B ≤ b ∧ b < w.heap.size := by
  intro b hb
  have e : bl [x] = [x.vo, x.vn].filterMap Value.ownBlock := by simp [bl]
  rw [e, List.mem_filterMap] at hb
  obtain ⟨v, hv, hvb⟩ := hb
  simp at hv
  rcases hv with rfl | rfl
  · exact h1.lt b hvb
  · have := h2.lt b hvb; omega

end Go.Proofs.YtdaaecnmllpgdaaGreatDoor

/-
  The walks of diff.between and diff.Hunks.
-/
namespace Go.Proofs.YtdaaecnmllpgdaaGreatDoor
open Go.RowKit Go.Shelf

attribute [local go_sem] Oper.semAt_some

theorem row_three (w : World) (o1 o2 o3 : Obj) : w.grownBy (((w.alloc o1).alloc o2).alloc o3) none := grown_of_below ((((Below.refl _ w).alloc (Nat.le_refl _) _).alloc (by simp) _).alloc (by simp; omega) _) _
theorem grown_join {W A B : World} {r r' : Option Nat} (h : W.grownBy A r) (k : A.grownBy B r') (hr : ∀ j, r' = some j → r = some j ∨ W.heap.size ≤ j) : W.grownBy B r :=
  ⟨k.os.trans h.os, k.tape.trans h.tape, k.output.trans h.output, Nat.le_trans h.size k.size, fun j hj hne =>
    (k.block j (Nat.lt_of_lt_of_le hj h.size) (fun e => by
      rcases hr j e.symm with e1 | e1
      · exact hne e1.symm
      · omega)).trans (h.block j hj hne)⟩

/-- The cells of a row of hunks. -/
def hkCells (xs : List HV) : List Value := xs.flatMap fun x => [numV x.at_, x.vo, x.vn]
theorem hkCells_append (xs ys : List HV) : hkCells (xs ++ ys) = hkCells xs ++ hkCells ys := by simp [hkCells]

theorem HV.Ok.shy (n₀ B : Nat) (x : HV) : Shy B (HV.Ok n₀ x) := fun _ _ _ _ h _ hl ho => ⟨ownsRow_putObj h.1 _ hl ho, ownsRow_putObj h.2 _ hl ho⟩
theorem HV.Ok.below {n₀ : Nat} {x : HV} {W W' : World} (h : HV.Ok n₀ x W) (hb : Below W.heap.size W W') : HV.Ok n₀ x W' := ⟨owns_below h.1 hb, owns_below h.2 hb⟩
theorem boxed_put {W : World} {b l : Nat} {t : TypeId} {v : Value} {o : Obj} (h : Boxed W b t v) (hl : W.heap[l]? = some o) (ho : o.isCells = false) (o' : Obj) : Boxed (W.putObj l o') b t v := by
  have hne : b ≠ l := by
    rintro rfl
    rw [show W.heap[b]? = _ from h] at hl
    cases hl; cases ho
  exact (World.putObj_heap_other (by omega)).trans h
theorem below_put {n₀ : Nat} {w W : World} {l : Nat} (h : Below n₀ w W) (hl : n₀ ≤ l) (o' : Obj) : Below n₀ w (W.putObj l o') :=
  h.trans ⟨rfl, rfl, rfl, by simp [World.putObj], fun k hk => World.putObj_heap_other (by omega)⟩
end Go.Proofs.YtdaaecnmllpgdaaGreatDoor

/-
  The walks of clerestorykit.SameHunk, SameHunks and of the law's samePairs, at rows that are the same.
-/
namespace Go.Proofs.YtdaaecnmllpgdaaGreatDoor
open Go.RowKit

/-- A hunk's lines read, in w, as they are said to; they lie below m. -/
def HV.Low (m : Nat) (w : World) (x : HV) : Prop := RowLow m w x.vo x.old ∧ RowLow m w x.vn x.new
theorem HV.Low.below {m k : Nat} {w w' : World} {x : HV} (h : x.Low m w) (hb : Below k w w') (hm : m ≤ k) : x.Low m w' := ⟨h.1.below hb hm, h.2.below hb hm⟩
theorem HV.Low.mono {m k : Nat} {w : World} {x : HV} (h : x.Low m w) (hm : m ≤ k) : x.Low k w := ⟨h.1.mono hm, h.2.mono hm⟩
theorem HV.Ok.low {B : Nat} {w : World} {x : HV} (h : x.Ok B w) : x.Low w.heap.size w := ⟨RowLow.of_owns h.1, RowLow.of_owns h.2⟩
/-- v reads, in w, as a row of hunks; all of it lies below m. -/
def HkLow (m : Nat) (w : World) (v : Value) (xs : List HV) : Prop := CellsLow m w v xs.length (hkCells xs) ∧ ∀ x ∈ xs, x.Low m w
theorem hkCells_nil : hkCells [] = [] := rfl
theorem HkLow.below {m k : Nat} {w w' : World} {v : Value} {xs : List HV} (h : HkLow m w v xs) (hb : Below k w w') (hm : m ≤ k) : HkLow m w' v xs :=
  ⟨h.1.below hb hm (fun h0 => by rw [List.length_eq_zero_iff.1 h0]; rfl), fun x hx => (h.2 x hx).below hb hm⟩
theorem hkCells_get (xs : List HV) (k : Nat) (x : HV) (hx : xs[k]? = some x) : (hkCells xs)[k * 3]? = some (numV x.at_) ∧ (hkCells xs)[k * 3 + 1]? = some x.vo ∧ (hkCells xs)[k * 3 + 2]? = some x.vn := by
  induction xs generalizing k with
  | nil => simp at hx
  | cons y ys ih =>
    have e : hkCells (y :: ys) = numV y.at_ :: y.vo :: y.vn :: hkCells ys := rfl
    rw [e]
    cases k with
    | zero => simp at hx; subst hx; simp
    | succ k =>
      have e1 : (k + 1) * 3 = k * 3 + 1 + 1 + 1 := by omega
      rw [e1]
      simpa using ih k (by simpa using hx)

theorem pairCells_get (ps : List (Nat × Nat)) (k : Nat) (p : Nat × Nat) (hp : ps[k]? = some p) : (pairCells ps)[k * 2]? = some (numV p.1) ∧ (pairCells ps)[k * 2 + 1]? = some (numV p.2) := by
  induction ps generalizing k with
  | nil => simp at hp
  | cons q qs ih =>
    have e : pairCells (q :: qs) = numV q.1 :: numV q.2 :: pairCells qs := rfl
    rw [e]
    cases k with
    | zero => simp at hp; subst hp; simp
    | succ k =>
      have e1 : (k + 1) * 2 = k * 2 + 1 + 1 := by omega
      rw [e1]
      simpa using ih k (by simpa using hp)

end Go.Proofs.YtdaaecnmllpgdaaGreatDoor

/-
  Rows that are appended to, cut and put together: what each step gives.
-/
namespace Go.Proofs.YtdaaecnmllpgdaaGreatDoor
open Go.RowKit Go.Shelf

set_option maxRecDepth 100000

/-- append(d, row...): the longer row, in memory of its own. -/
theorem app_run (base : Nat) (W : World) (d : Value) (n : Nat) (xs : List Value) (hown : W.ownsRow base 9 1 d n xs) (v : Value) (L : List (List UInt8)) (m : Nat) (hrow : RowLow m W v L) (hb : base ≤ W.heap.size) (hn : n + L.length ≤ 1000000000) :
    ∃ v' W', (Builtin.append_ #[39, 39] 39 #[d, v]).run Tryz.prog W = .ok v' W' ∧ W'.ownsRow base 9 1 v' (n + L.length) (xs ++ L.map txtV) ∧ W.grownBy W' d.ownBlock := by
  obtain ⟨i0, hi, hz0, hz1, hz2⟩ := info_parts info9
  obtain ⟨ao, cap, b, off, rfl, ⟨-, hnone⟩, ha, hc⟩ := hrow
  cases ao with
  | none =>
    have hL : L = [] := by
      cases L with
      | nil => rfl
      | cons x L => exact absurd (ha (by simp)).1 (by simp)
    subst hL
    have hc0 := hnone rfl
    subst hc0
    refine ⟨d, W, run_append_owned_none W base 39 39 9 i0 1 Tryz.underlying39 hi d n xs hown, by simpa using hown, ⟨rfl, rfl, rfl, Nat.le_refl _, fun _ _ _ => rfl⟩⟩
  | some a =>
    obtain ⟨v', W', h1, h2, h3, -⟩ := run_append_own (P := Tryz.prog) W base 39 39 9 i0 (.string ⟨#[]⟩) 1 16 Tryz.underlying39 hi hz0 hz1 hz2 rfl (by decide) d n xs hown a L.length cap (L.map txtV) (by simp)
      (fun j u hu => by
        have hj : j < L.length := by have := (List.getElem?_eq_some_iff.1 hu).1; simpa using this
        obtain ⟨e1, -⟩ := ha (by omega)
        cases e1
        have hadd : (⟨b, off, none⟩ : Addr).add j = ⟨b, off + j, none⟩ := by cases j <;> simp [Addr.add]
        rw [hadd]
        exact hc j u hu) (txt_one L) (by unfold maxLen; omega) (by omega) hb
    exact ⟨v', W', h1, h2, h3⟩

/-- The first k of a row that is owned. -/
theorem owns_prefix {W : World} {base e g n cap k : Nat} {xs : List Value} (h : W.ownsRow base e 1 (.slice (some ⟨g, 0, none⟩) n cap) n xs) (hk : k ≤ n) : W.ownsRow base e 1 (.slice (some ⟨g, 0, none⟩) k cap) k (xs.take k) := by
  have hl := h.1
  rcases h.2 with ⟨e1, _⟩ | ⟨g', cap', cur, e1, hb, hg, hnc, hcm, hcs, ht⟩
  · cases e1
  · injection e1 with e1 _ e3
    injection e1 with e1
    injection e1 with e1 _ _
    subst e1 e3
    refine ⟨by simp; omega, .inr ⟨g, cap, cur, rfl, hb, hg, by omega, hcm, hcs, ?_⟩⟩
    rw [← ht, List.take_take]
    congr 1
    omega

/-- A row's rest, from i on. -/
theorem slice_rest {m : Nat} {W : World} {v : Value} {A : List (List UInt8)} {i : Nat} (h : RowLow m W v A) (hi : i ≤ A.length) :
    ∃ v', (∀ w, (Instr.slice 39 v (some (.int .i64 i)) none none).run Tryz.prog w = .ok v' w) ∧ RowLow m W v' (A.drop i) := by
  obtain ⟨v', h1, h2⟩ := slice_row h hi (Nat.le_refl _)
  obtain ⟨ao, cap, b, off, rfl, ⟨hcap, -⟩, -, -⟩ := h
  refine ⟨v', fun w => ?_, ?_⟩
  · have q1 := run_slice_l (P := Tryz.prog) w 39 ao A.length cap Tryz.underlying39 .i64 i (by omega) (by omega)
    have q2 := run_slice_lh (P := Tryz.prog) w 39 ao A.length cap Tryz.underlying39 .i64 .i64 i A.length (by omega) (by omega) (by omega)
    rw [q1]
    have q3 := h1 w
    rw [q2] at q3
    simpa using q3
  · have e : Df.part A i A.length = A.drop i := by
      unfold Df.part
      exact List.take_of_length_le (by simp)
    rwa [e] at h2
/-- A row's first k. -/
theorem slice_front (g cap n k : Nat) (hk : k ≤ cap) (w : World) : (Instr.slice 39 (.slice (some ⟨g, 0, none⟩) n cap) none (some (.int .i64 k)) none).run Tryz.prog w = .ok (.slice (some ⟨g, 0, none⟩) k cap) w := by
  have q1 := run_slice_h (P := Tryz.prog) w 39 (some ⟨g, 0, none⟩) n cap Tryz.underlying39 .i64 k (by omega) (by omega)
  have h2 : (sizeOf (Tryz.prog.elem 39)).run Tryz.prog w = .ok 1 w := by rfl
  rw [q1, h2]
  simp [Result.andThen, sliced, Addr.add]

theorem front_run {W : World} {base n k : Nat} {v : Value} {xs : List Value} (h : W.ownsRow base 9 1 v n xs) (hk : k ≤ n) : ∃ v', (∀ w, (Instr.slice 39 v none (some (.int .i64 k)) none).run Tryz.prog w = .ok v' w) ∧ W.ownsRow base 9 1 v' k (xs.take k) ∧ v'.ownBlock = v.ownBlock := by
  have h0 := h
  rcases h.2 with ⟨rfl, rfl⟩ | ⟨g, cap, cur, rfl, hb, hg, hnc, hcm, hcs, ht⟩
  · have hk0 : k = 0 := by omega
    subst hk0
    refine ⟨.slice none 0 0, fun w => ?_, by rw [List.take_zero]; exact World.ownsRow_nil _ _ _ _, rfl⟩
    have q1 := run_slice_h (P := Tryz.prog) w 39 none 0 0 Tryz.underlying39 .i64 ((0 : Nat) : Int) (by omega) (by omega)
    have h2 : (sizeOf (Tryz.prog.elem 39)).run Tryz.prog w = .ok 1 w := by rfl
    rw [q1, h2]
    simp [Result.andThen, sliced]
  · exact ⟨_, slice_front g cap n k (by omega), owns_prefix h0 hk, rfl⟩

theorem len_run {W : World} {base n : Nat} {v : Value} {xs : List Value} (h : W.ownsRow base 9 1 v n xs) (ty : TypeId) (w : World) : (Builtin.len_ #[39] ty #[v]).run Tryz.prog w = .ok (.int .i64 n) w := by
  obtain ⟨ao, cap, rfl⟩ := slice_shape h
  go_simp

end Go.Proofs.YtdaaecnmllpgdaaGreatDoor

/-
  What the flat functions (do lists lie apart?) rest on: rows in memory of their own, written to, appended to; the others stay.
-/
namespace Go.Proofs.YtdaaecnmllpgdaaGreatDoor
open Go.RowKit

/-- append: in the row's own block, where there is room; else in a new one, and all stays. -/
theorem app_two {P : Program} (W : World) (B : Nat) (t e : TypeId) (i : TypeInfo) (z : Value) (size bytes : Nat) (ht : P.underlying t = some (.slice e)) (hi : P.info? e = some i) (hz : i.zero = some z) (hsize : i.size = size) (hby : i.bytes = bytes) (hzs : z.cells.size = size) (hsz : 0 < size)
    (v : Value) (n : Nat) (xs : List Value) (hown : W.ownsRow B e size v n xs) (a : Addr) (m c : Nat) (news : List Value) (hl : news.length = m * size) (hnews : ∀ j u, news[j]? = some u → W.cell? (a.add j) = some u) (h1 : ∀ u ∈ news, u.oneCell' = true)
    (h63 : n + m ≤ maxLen) (hbytes : (n + m) * bytes ≤ 140737488355328) :
    ∃ v' W', (Builtin.append_ #[t, t] t #[v, .slice (some a) m c]).run P W = .ok v' W' ∧
      ((∃ g cap, v = .slice (some ⟨g, 0, none⟩) n cap ∧ v' = .slice (some ⟨g, 0, none⟩) (n + m) cap ∧ W'.ownsRow B e size v' (n + m) (xs ++ news) ∧ W.grownBy W' (some g)) ∨
       (W'.ownsRow W.heap.size e size v' (n + m) (xs ++ news) ∧ Below W.heap.size W W')) := by
  rcases hown.2 with ⟨rfl, rfl⟩ | ⟨g, cap, cur, rfl, hbg, hg, hnc, hcm, hcs, htake⟩
  · have hx : xs = [] := List.eq_nil_of_length_eq_zero (by simpa using hown.1)
    subst hx
    obtain ⟨v', W', r1, r2, r3, -⟩ := run_append_own (P := P) W W.heap.size t t e i z size bytes ht hi hz hsize hby hzs hsz _ 0 [] (World.ownsRow_nil W _ e size) a m c news hl hnews h1 h63 hbytes (Nat.le_refl _)
    exact ⟨v', W', r1, .inr ⟨r2, r3.os, r3.tape, r3.output, r3.size, fun k hk => r3.block k hk (by simp [Value.ownBlock])⟩⟩
  · by_cases hroom : n + m ≤ cap
    · obtain ⟨W', r1, r2, r3⟩ := run_append_fits (P := P) W B t t e i size ht hi hsize g n cap xs hown a m c news hl hnews h1 hroom
      exact ⟨_, W', r1, .inl ⟨g, cap, rfl, rfl, r2, r3⟩⟩
    · have hr := run_append_grow (P := P) W t t e i z ht hi hz ⟨g, 0, none⟩ n cap xs (by rw [hsize]; exact hown.1) (hown.cells (g := g) rfl) a m c news (by rw [hsize]; exact hl) hnews (by omega) (by unfold maxLen at h63; omega) (by rw [hby]; exact growslice_fits (by omega) hbytes)
      obtain ⟨v', W', r1, r2, r3, -⟩ := run_append_own (P := P) W B t t e i z size bytes ht hi hz hsize hby hzs hsz _ n xs hown a m c news hl hnews h1 h63 hbytes (Nat.le_trans hbg (Nat.le_of_lt (Array.getElem?_eq_some_iff.1 hg).1))
      rw [hr] at r1
      injection r1 with e1 e2
      subst e1 e2
      refine ⟨_, _, hr, .inr ⟨⟨r2.1, ?_⟩, (below_drewN (Below.refl _ W) 1).alloc (Nat.le_refl _) _⟩⟩
      rcases r2.2 with ⟨h0, _⟩ | ⟨g', cap', cur', he, q⟩
      · cases h0
      · have hgg : g' = W.heap.size := by
          injection he with he _ _
          injection he with he
          injection he with he _ _
          exact he.symm
        exact .inr ⟨g', cap', cur', he, by omega, q.2⟩

/-- The first n of a row that is owned. -/
theorem owns_front {W : World} {base e size g n cap k : Nat} {xs : List Value} (h : W.ownsRow base e size (.slice (some ⟨g, 0, none⟩) n cap) n xs) (hk : k ≤ n) : W.ownsRow base e size (.slice (some ⟨g, 0, none⟩) k cap) k (xs.take (k * size)) := by
  have hl := h.1
  have hle : k * size ≤ n * size := Nat.mul_le_mul_right _ hk
  rcases h.2 with ⟨e1, _⟩ | ⟨g', cap', cur, e1, hb, hg, hnc, hcm, hcs, ht⟩
  · cases e1
  · injection e1 with e1 _ e3
    injection e1 with e1
    injection e1 with e1 _ _
    subst e1 e3
    refine ⟨by rw [List.length_take]; omega, .inr ⟨g, cap, cur, rfl, hb, hg, by omega, hcm, hcs, ?_⟩⟩
    rw [← ht, List.take_take]
    congr 1
    omega

/-- The cells of the first n marks of list k. -/
def mks (mc : Nat → Nat → List Value) (k n : Nat) : List Value := (List.range n).flatMap (mc k)
theorem mks_succ (mc : Nat → Nat → List Value) (k n : Nat) : mks mc k (n + 1) = mks mc k n ++ mc k n := by simp [mks, List.range_succ]
theorem mks_zero (mc : Nat → Nat → List Value) (k : Nat) : mks mc k 0 = [] := rfl

/-- What lay below n, and all that does not hold elements of type e, is as it was. -/
def KeepT (e : TypeId) (n : Nat) (W W' : World) : Prop := Below n W W' ∧ ∀ (k : Nat) (c : Array Value) (t : TypeId) (fr : Nat × Nat), W.heap[k]? = some (.cells c t fr) → t ≠ e → W'.heap[k]? = some (.cells c t fr)
theorem KeepT.refl (e : TypeId) (n : Nat) (W : World) : KeepT e n W W := ⟨Below.refl _ _, fun _ _ _ _ h _ => h⟩
theorem KeepT.trans {e : TypeId} {n : Nat} {A B C : World} (h : KeepT e n A B) (k : KeepT e n B C) : KeepT e n A C := ⟨h.1.trans k.1, fun j c t fr hj h1 => k.2 j c t fr (h.2 j c t fr hj h1) h1⟩
theorem KeepT.of_below {e : TypeId} {n : Nat} {A B : World} (h : Below A.heap.size A B) (hn : n ≤ A.heap.size) : KeepT e n A B :=
  ⟨h.mono hn, fun j _ _ _ hj _ => (h.block j (Array.getElem?_eq_some_iff.1 hj).1).trans hj⟩
theorem KeepT.owns {e e' : TypeId} {n B k size : Nat} {A C : World} (h : KeepT e n A C) {v : Value} {xs : List Value} (ho : A.ownsRow B e' size v k xs) (h1 : e' ≠ e) : C.ownsRow B e' size v k xs := by
  refine ⟨ho.1, ?_⟩
  rcases ho.2 with h0 | ⟨g, cap, cur, hv, hb, hg, h3⟩
  · exact .inl h0
  · exact .inr ⟨g, cap, cur, hv, hb, h.2 g _ _ _ hg h1, h3⟩
/-- A row's own block was written to. -/
theorem KeepT.of_grown {e : TypeId} {B n size : Nat} {W W' : World} {v : Value} {xs : List Value} (hrow : W.ownsRow B e size v n xs) (hg : W.grownBy W' v.ownBlock) (hn : B ≤ W.heap.size) : KeepT e B W W' := by
  refine ⟨⟨hg.os, hg.tape, hg.output, hg.size, fun k hk => hg.block k (by omega) (fun e => by have := (hrow.lt k e.symm).1; omega)⟩, fun j c t fr hj h1 => ?_⟩
  refine (hg.block j (Array.getElem?_eq_some_iff.1 hj).1 (fun e0 => ?_)).trans hj
  rcases hrow.2 with ⟨rfl, _⟩ | ⟨g, cap, cur, rfl, _, hgb, _⟩
  · cases e0
  · obtain rfl : j = g := by simpa [Value.ownBlock] using e0
    rw [hgb] at hj
    injection hj with hj
    injection hj with _ q _
    exact h1 q.symm

/-- Rows whose blocks are apart. -/
def Apart (R : List (Value × Nat)) : Prop := ∀ (j k : Nat) (p q : Value × Nat), R[j]? = some p → R[k]? = some q → j ≠ k → p.1.ownBlock = none ∨ p.1.ownBlock ≠ q.1.ownBlock
/-- All rows, each in memory of its own, in what f says of its cells. -/
def Own (e size B : Nat) (R : List (Value × Nat)) (W : World) (f : Nat → List Value → Prop) : Prop := ∀ (j : Nat) (p : Value × Nat), R[j]? = some p → ∃ xs, W.ownsRow B e size p.1 p.2 xs ∧ f j xs
theorem Own.below {e size B : Nat} {R : List (Value × Nat)} {W W' : World} {f : Nat → List Value → Prop} (h : Own e size B R W f) (hb : Below W.heap.size W W') : Own e size B R W' f := fun j p hp => by
  obtain ⟨xs, h1, h2⟩ := h j p hp
  exact ⟨xs, owns_below h1 hb, h2⟩
theorem Own.mono {e size B : Nat} {R : List (Value × Nat)} {W : World} {f g : Nat → List Value → Prop} (h : Own e size B R W f) (hfg : ∀ j p xs, R[j]? = some p → xs.length = p.2 * size → f j xs → g j xs) : Own e size B R W g := fun j p hp => by
  obtain ⟨xs, h1, h2⟩ := h j p hp
  exact ⟨xs, h1, hfg j p xs hp h1.1 h2⟩
/-- One row's block was written to: it holds ys now; all others stay. -/
theorem Own.put {e size B : Nat} {R : List (Value × Nat)} {W W' : World} {f g : Nat → List Value → Prop} (h : Own e size B R W f) (hA : Apart R) {k : Nat} {p : Value × Nat} (hp : R[k]? = some p) (hg : W.grownBy W' p.1.ownBlock) {ys : List Value} (hy : W'.ownsRow B e size p.1 p.2 ys) (hfy : g k ys) (hfg : ∀ j xs, j ≠ k → f j xs → g j xs) : Own e size B R W' g := fun j q hq => by
  by_cases hjk : j = k
  · subst hjk
    rw [hp] at hq
    cases hq
    exact ⟨ys, hy, hfy⟩
  · obtain ⟨xs, h1, h2⟩ := h j q hq
    exact ⟨xs, h1.kept hg (hA j k q p hq hp hjk), hfg j xs hjk h2⟩

/-- Where a row that grew out of another one lies: in its block, in a new one, or nowhere yet. -/
def Grew (WK : World) (vk : Value) (nk : Nat) (t : Value) (m : Nat) : Prop := (∃ g cap, vk = .slice (some ⟨g, 0, none⟩) nk cap ∧ t = .slice (some ⟨g, 0, none⟩) m cap) ∨ (∃ b, t.ownBlock = some b ∧ WK.heap.size ≤ b) ∨ t = .slice none 0 0

/-- One append to a row that grew out of another one: that one stays as it was. -/
theorem grow_step {P : Program} (B : Nat) (t e : TypeId) (i : TypeInfo) (z : Value) (size bytes : Nat) (ht : P.underlying t = some (.slice e)) (hi : P.info? e = some i) (hz : i.zero = some z) (hsize : i.size = size) (hby : i.bytes = bytes) (hzs : z.cells.size = size) (hsz : 0 < size)
    {WK W : World} {vk v : Value} {nk n : Nat} {ys xs : List Value} (hown : W.ownsRow B e size v n xs) (hv : W.ownsRow B e size vk nk ys) (hvl : ∀ b, vk.ownBlock = some b → b < WK.heap.size) (hg : WK.grownBy W vk.ownBlock) (hc : Grew WK vk nk v n) (hnm : nk ≤ n) (hys : ys = xs.take (nk * size))
    (a : Addr) (m c : Nat) (news : List Value) (hl : news.length = m * size) (hnews : ∀ j u, news[j]? = some u → W.cell? (a.add j) = some u) (h1 : ∀ u ∈ news, u.oneCell' = true) (h63 : n + m ≤ maxLen) (hbytes : (n + m) * bytes ≤ 140737488355328) (hm : 0 < m) (hB : B ≤ W.heap.size) :
    ∃ v' W', (Builtin.append_ #[t, t] t #[v, .slice (some a) m c]).run P W = .ok v' W' ∧ W'.ownsRow B e size v' (n + m) (xs ++ news) ∧ W'.ownsRow B e size vk nk ys ∧ WK.grownBy W' vk.ownBlock ∧ Grew WK vk nk v' (n + m) := by
  have hxl := hown.1
  have hle : nk * size ≤ n * size := Nat.mul_le_mul_right _ hnm
  obtain ⟨v', W', hr, h⟩ := app_two (P := P) W B t e i z size bytes ht hi hz hsize hby hzs hsz v n xs hown a m c news hl hnews h1 h63 hbytes
  refine ⟨v', W', hr, ?_⟩
  rcases h with ⟨g, cap, rfl, rfl, h2, h3⟩ | ⟨h2, h3⟩
  · rcases hc with ⟨g', cap', rfl, e2⟩ | ⟨b, e1, e2⟩ | e1
    · injection e2 with e2 _ e3
      injection e2 with e2
      injection e2 with e2 _ _
      subst e2 e3
      refine ⟨h2, ?_, grown_join hg h3 (fun j hj => .inl hj), .inl ⟨g, cap, rfl, rfl⟩⟩
      have h4 := owns_front h2 (show nk ≤ n + m by omega)
      rwa [List.take_append_of_le_length (by omega), ← hys] at h4
    · have eb : g = b := by simpa [Value.ownBlock] using e1
      subst eb
      refine ⟨h2, hv.kept h3 ?_, grown_join hg h3 (fun j hj => .inr (by cases hj; exact e2)), .inr (.inl ⟨g, rfl, e2⟩)⟩
      cases hb : vk.ownBlock with
      | none => exact .inl rfl
      | some b => exact .inr (fun e => by have := hvl b hb; cases e; omega)
    · cases e1
  · refine ⟨owns_base h2 hB, owns_below hv h3, grown_join hg ⟨h3.os, h3.tape, h3.output, h3.size, fun k hk _ => h3.block k hk⟩ (fun j hj => by cases hj) (r' := none), .inr (.inl ?_)⟩
    rcases h2.2 with ⟨_, e2⟩ | ⟨g, cap, cur, rfl, e2, _⟩
    · omega
    · exact ⟨g, rfl, Nat.le_trans hg.size e2⟩

theorem take_set_succ {α : Type} (xs : List α) (i : Nat) (x : α) (h : i < xs.length) : (xs.set i x).take (i + 1) = xs.take i ++ [x] := by
  apply List.ext_getElem?
  intro j
  rw [List.getElem?_take]
  by_cases h1 : j < i
  · rw [if_pos (by omega), List.getElem?_set, if_neg (by omega), List.getElem?_append_left (by simp; omega), List.getElem?_take, if_pos h1]
  · by_cases h2 : j = i
    · subst h2
      rw [if_pos (by omega), List.getElem?_set, if_pos rfl, if_pos h, List.getElem?_append_right (by simp; omega)]
      simp [Nat.min_eq_left (Nat.le_of_lt h)]
    · rw [if_neg (by omega), List.getElem?_eq_none (by simp; omega)]
theorem owns_two {W W' : World} {B B' s s' n m : Nat} {e e' : TypeId} {v u : Value} {xs ys : List Value} (h : W.ownsRow B e s v n xs) (hu : W.ownsRow B' e' s' u m ys) (hg : W.grownBy W' u.ownBlock) (hne : e ≠ e') : W'.ownsRow B e s v n xs := by
  refine ⟨h.1, ?_⟩
  rcases h.2 with h0 | ⟨g, cap, cur, hv, hb, hgb, h3⟩
  · exact .inl h0
  · refine .inr ⟨g, cap, cur, hv, hb, (hg.block g (Array.getElem?_eq_some_iff.1 hgb).1 (fun e0 => ?_)).trans hgb, h3⟩
    rcases hu.2 with ⟨rfl, _⟩ | ⟨g', cap', cur', rfl, _, hgb', _⟩
    · cases e0
    · obtain rfl : g = g' := by simpa [Value.ownBlock] using e0
      rw [hgb] at hgb'
      injection hgb' with q
      injection q with _ q _
      exact hne q

theorem below_nw (A : World) (o : Obj) : Below A.heap.size A (A.alloc o) := (Below.refl _ A).alloc (Nat.le_refl _) _
theorem owns_set {W : World} {B b n size : Nat} {e t : TypeId} {v : Value} {xs : List Value} {c : Array Value} (ho : W.ownsRow B e size v n xs) (h : W.heap[b]? = some (.cells c t (0, 0))) (ht : t ≠ e) (i : Nat) (u : Value) : (W.setCell ⟨b, i, none⟩ u).ownsRow B e size v n xs := by
  refine ho.kept (grown_set W b i u) ?_
  rcases ho.2 with ⟨rfl, _⟩ | ⟨g, cap, cur, rfl, _, hg, _⟩
  · exact .inl rfl
  · right
    intro e0
    have : g = b := by simpa [Value.ownBlock] using e0
    subst this
    rw [h] at hg
    injection hg with q
    injection q with _ q _
    exact ht q
theorem heap_grown {W W' : World} {B b n size : Nat} {e t : TypeId} {v : Value} {xs : List Value} {c : Array Value} (ho : W.ownsRow B e size v n xs) (hg : W.grownBy W' v.ownBlock) (h : W.heap[b]? = some (.cells c t (0, 0))) (ht : t ≠ e) : W'.heap[b]? = some (.cells c t (0, 0)) := by
  refine (hg.block b (Array.getElem?_eq_some_iff.1 h).1 (fun e0 => ?_)).trans h
  rcases ho.2 with ⟨rfl, _⟩ | ⟨g, cap, cur, rfl, _, hgb, _⟩
  · cases e0
  · obtain rfl : b = g := by simpa [Value.ownBlock] using e0
    rw [h] at hgb
    injection hgb with q
    injection q with _ q _
    exact ht q

end Go.Proofs.YtdaaecnmllpgdaaGreatDoor

/-
  What is read stays, whatever is made.
-/
namespace Go.Proofs.YtdaaecnmllpgdaaGreatDoor
open Go.RowKit

theorem below_then {A B C : World} (h : Below A.heap.size A B) (k : Below B.heap.size B C) : Below A.heap.size A C := h.trans (k.mono h.size)
theorem below_new (A : World) (o : Obj) : Below A.heap.size A (A.alloc o) := (Below.refl _ A).alloc (Nat.le_refl _) _
theorem below_draw (A : World) (d : Nat) : Below A.heap.size A (A.drewN d) := below_drewN (Below.refl _ A) d
theorem RowLow.at {A B : World} {v : Value} {L : List (List UInt8)} (h : RowLow A.heap.size A v L) (hb : Below A.heap.size A B) : RowLow B.heap.size B v L := (h.below hb (Nat.le_refl _)).mono hb.size
theorem CellsLow.at {A B : World} {v : Value} {n : Nat} {xs : List Value} (h : CellsLow A.heap.size A v n xs) (hb : Below A.heap.size A B) (h0 : n = 0 → xs = []) : CellsLow B.heap.size B v n xs := (h.below hb (Nat.le_refl _) h0).mono hb.size
theorem HkLow.at {A B : World} {v : Value} {xs : List HV} (h : HkLow A.heap.size A v xs) (hb : Below A.heap.size A B) : HkLow B.heap.size B v xs :=
  ⟨h.1.at hb (fun h0 => by rw [List.length_eq_zero_iff.1 h0]; rfl), fun x hx => ((h.2 x hx).below hb (Nat.le_refl _)).mono hb.size⟩
/-- A row that is written out. -/
theorem CellsLow.lit (w : World) (l : List Value) (t : TypeId) (n : Nat) : CellsLow (w.alloc (.cells l.toArray t)).heap.size (w.alloc (.cells l.toArray t)) (.slice (some ⟨w.heap.size, 0, none⟩) n n) n l := by
  refine ⟨_, n, w.heap.size, 0, rfl, ⟨Nat.le_refl _, fun e => by cases e⟩, fun _ => ⟨rfl, by simp⟩, fun j x hx => ?_⟩
  rw [Nat.zero_add, Lib.cell_of_heap (World.alloc_heap_new w _)]
  simpa using hx

end Go.Proofs.YtdaaecnmllpgdaaGreatDoor

/-
  Arguments that are rows of texts or of ints, opened.
-/
namespace Go.Proofs.YtdaaecnmllpgdaaGreatDoor
open Go.ChangeShapes Go.WideShapes Go.ChangeAt Go.RowKit

theorem own : ownKnob Tryz.prog.godebug = none := by kernel_rfl

/-- Cells by an address, as a row. -/
theorem cells_arg {w : World} {a : Addr} {n cap : Nat} {xs : List Value} (hn : xs.length = n) (hcap : n ≤ cap) (hc : ∀ (j : Nat) (x : Value), xs[j]? = some x → w.cell? (a.add j) = some x) : CellsLow w.heap.size w (.slice (some a) n cap) n xs := by
  subst hn
  cases xs with
  | nil => exact ⟨some a, cap, 0, 0, rfl, ⟨hcap, fun e => by cases e⟩, fun h => absurd h (by simp), fun j x hx => by simp at hx⟩
  | cons y r =>
    obtain ⟨b, off, spot⟩ := a
    have h0 := hc 0 y rfl
    have hspot : spot = none := by simpa [Addr.add] using World.cell?_spot h0
    subst hspot
    have hlt : b < w.heap.size := by simpa [Addr.add] using World.block_lt_of_cell? _ _ h0
    refine ⟨_, cap, b, off, rfl, ⟨hcap, fun e => by cases e⟩, fun _ => ⟨rfl, hlt⟩, fun j x hx => ?_⟩
    have := hc j x hx
    rwa [Go.WideShapes.add_plain] at this

theorem strings_arg {H : Type} {enc : TypeId × Value → H} {W : World} {a0 : Option Addr} {len0 cap0 base : Nat} {sp : Nat → Bool} {held : Bool} {fuel : Nat} {z : DataW H × List MemPlace} (h : DataW.trod enc Tryz.prog W base sp held fuel 39 (Value.slice a0 len0 cap0).cells.toList = some z) :
    ∃ L : List (List UInt8), L.length = len0 ∧ RowLow W.heap.size W (.slice a0 len0 cap0) L ∧ L.length ≤ 9223372036854775807 ∧ ∀ x ∈ L, x.length ≤ 9223372036854775807 := by
  rcases open_strings Tryz.underlying39 Tryz.underlying9 (by kernel_rfl) h with ⟨hcs, _⟩ | ⟨x, l, c, ss, hcs, _, hl, hm, hz, _, hcell, hwz⟩
  · simp [Value.cells] at hcs
    obtain ⟨rfl, rfl, rfl⟩ := hcs
    exact ⟨[], rfl, ⟨none, 0, 0, 0, rfl, ⟨Nat.le_refl _, fun _ => rfl⟩, fun h => absurd h (by simp), fun j x hx => by simp at hx⟩, by simp, fun x hx => by simp at hx⟩
  · simp [Value.cells] at hcs
    obtain ⟨rfl, rfl, rfl⟩ := hcs
    have hlen : len0 ≤ ss.length := by rw [hz]; split <;> omega
    have hll : ((ss.take len0).map (fun s => s.data.toList)).length = len0 := by rw [List.length_map, List.length_take, Nat.min_eq_left hlen]
    refine ⟨(ss.take len0).map (fun s => s.data.toList), hll, ?_, ?_, ?_⟩
    · unfold RowLow
      rw [hll]
      refine cells_arg (by rw [List.length_map, hll]) hl (fun j u hu => ?_)
      rw [List.getElem?_map, List.getElem?_map, List.getElem?_take] at hu
      split at hu
      · have hj : j < ss.length := by omega
        rw [List.getElem?_eq_getElem hj] at hu
        simp only [Option.map_some, Option.some.injEq] at hu
        rw [hcell j hj, ← hu]
        simp [List.getD, List.getElem?_eq_getElem hj, txtV, Ln.bs_of]
      · simp at hu
    · rw [hll]; unfold maxLen at hm; omega
    · intro y hy
      obtain ⟨s, hs, rfl⟩ := List.mem_map.1 hy
      exact hwz s (List.mem_of_mem_take hs)

theorem ints_arg {H : Type} {enc : TypeId × Value → H} {W : World} {a0 : Option Addr} {len0 cap0 base : Nat} {sp : Nat → Bool} {held : Bool} {fuel : Nat} {z : DataW H × List MemPlace} (h : DataW.trod enc Tryz.prog W base sp held fuel 35 (Value.slice a0 len0 cap0).cells.toList = some z) :
    ∃ T : List Int, T.length = len0 ∧ CellsLow W.heap.size W (.slice a0 len0 cap0) T.length (T.map (Value.int .i64)) ∧ T.length ≤ 9223372036854775807 := by
  rcases open_ints Tryz.underlying35 Tryz.underlying3 (by kernel_rfl) h with ⟨hcs, _⟩ | ⟨x, l, c, zs, hcs, _, hl, hm, hz, _, hcell, _⟩
  · simp [Value.cells] at hcs
    obtain ⟨rfl, rfl, rfl⟩ := hcs
    exact ⟨[], rfl, ⟨none, 0, 0, 0, rfl, ⟨Nat.le_refl _, fun _ => rfl⟩, fun h => absurd h (by simp), fun j x hx => by simp at hx⟩, by simp⟩
  · simp [Value.cells] at hcs
    obtain ⟨rfl, rfl, rfl⟩ := hcs
    have hlen : len0 ≤ zs.length := by rw [hz]; split <;> omega
    have hll : (zs.take len0).length = len0 := by rw [List.length_take, Nat.min_eq_left hlen]
    refine ⟨zs.take len0, hll, ?_, ?_⟩
    · rw [hll]
      refine cells_arg (by rw [List.length_map, hll]) hl (fun j u hu => ?_)
      rw [List.getElem?_map, List.getElem?_take] at hu
      split at hu
      · have hj : j < zs.length := by omega
        rw [List.getElem?_eq_getElem hj] at hu
        simp only [Option.map_some, Option.some.injEq] at hu
        rw [hcell j hj, ← hu]
        simp [List.getD, List.getElem?_eq_getElem hj]
      · simp at hu
    · rw [hll]; unfold maxLen at hm; omega

end Go.Proofs.YtdaaecnmllpgdaaGreatDoor
