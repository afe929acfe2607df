/-
  Several texts in one, as they are: PsMore, PsSim, PsSuf, PsSim2, PsTwo, PsRowMath, PsSize.
-/
import Derived.Test.YtfegodofbdlbeaaGreatDoorPsMath
import Derived.Test.YtfegodofbdlbeaaGreatDoorLexAll

/-
  The parser's faults: their codes, and where they may stand; the three texts that are read to see that it is awake.
-/
namespace Go.Proofs.YtfegodofbdlbeaaGreatDoor
namespace Ps

def AtMost (n : Nat) (l : List Lx.Tok) : Prop := ∀ t ∈ l, t.at_ ≤ n
theorem AtMost.tail {n : Nat} {l : List Lx.Tok} (h : AtMost n l) : AtMost n l.tail := fun t ht => h t (List.mem_of_mem_tail ht)
theorem AtMost.hd {n : Nat} {l : List Lx.Tok} (h : AtMost n l) : (hd l).at_ ≤ n := by
  cases l with
  | nil => exact Nat.zero_le _
  | cons t r => exact h t (by simp)
/-- A fault is a known one, and stands at a token; else what is left are tokens of before. -/
def Good (n : Nat) : R → Prop
  | .ok _ l => AtMost n l
  | .bad e i => (e = 102 ∨ e = 103) ∧ i ≤ n
theorem bad_good {n e : Nat} {l : List Lx.Tok} {r : R} (hl : AtMost n l) (he : e = 102 ∨ e = 103) (h : bad e l = some r) : Good n r := by
  cases h; exact ⟨he, hl.hd⟩
theorem bnd_good {n : Nat} {a : Option R} {f : List Tr → List Lx.Tok → Option R} {r : R} (h1 : ∀ r, a = some r → Good n r) (h2 : ∀ x l r, AtMost n l → f x l = some r → Good n r) (h : bnd a f = some r) : Good n r := by
  cases ha : a with
  | none => rw [ha] at h; cases h
  | some q =>
    have hq := h1 q ha
    rw [ha] at h
    cases q with
    | ok x l => exact h2 x l r hq h
    | bad e i => cases h; exact hq
theorem want_good {n : Nat} {s : List UInt8} {l : List Lx.Tok} {f : List Lx.Tok → Option R} {r : R} (hl : AtMost n l) (h2 : ∀ l r, AtMost n l → f l = some r → Good n r) (h : want s l f = some r) : Good n r := by
  unfold want at h
  split at h
  · exact h2 _ _ hl.tail h
  · exact bad_good hl (.inl rfl) h
theorem name_good {n : Nat} {l : List Lx.Tok} {f : List UInt8 → List Lx.Tok → Option R} {r : R} (hl : AtMost n l) (h2 : ∀ s l r, AtMost n l → f s l = some r → Good n r) (h : name l f = some r) : Good n r := by
  unfold name at h
  split at h
  · exact h2 _ _ _ hl.tail h
  · exact bad_good hl (.inl rfl) h
theorem opn_good {n : Nat} {S : List (List UInt8)} {l : List Lx.Tok} {lv : Nat} {f : List Lx.Tok → Option R} {r : R} (hl : AtMost n l) (h2 : ∀ l r, AtMost n l → f l = some r → Good n r) (h : opn S l lv f = some r) : Good n r := by
  unfold opn at h
  split at h
  · split at h
    · exact bad_good hl (.inr rfl) h
    · exact h2 _ _ hl.tail h
  · exact bad_good hl (.inl rfl) h
theorem ok_good {n : Nat} {x : List Tr} {l : List Lx.Tok} {r : R} (hl : AtMost n l) (h : some (R.ok x l) = some r) : Good n r := by
  cases h; exact hl
theorem ite_good {n : Nat} {c : Prop} [Decidable c] {a b : Option R} {r : R} (h1 : a = some r → Good n r) (h2 : b = some r → Good n r) (h : (if c then a else b) = some r) : Good n r := by
  split at h
  · exact h1 h
  · exact h2 h

theorem go_good (n : Nat) : ∀ (f : Nat) (j : Job) (l : List Lx.Tok) (lv : Nat) (r : R), AtMost n l → go f j l lv = some r → Good n r
  | 0, j, l, lv, r, _, h => by rw [go] at h; cases h
  | f + 1, j, l, lv, r, hl, h => by
    have ih := go_good n f
    cases j
    all_goals rw [go] at h
    all_goals repeat' first
      | exact ok_good hl h
      | exact bad_good hl (.inl rfl) h
      | exact bad_good hl (.inr rfl) h
      | exact bad_good hl.tail (.inl rfl) h
      | exact bad_good hl.tail (.inr rfl) h
      | exact ok_good hl.tail h
      | exact ih _ _ _ _ hl h
      | exact ih _ _ _ _ hl.tail h
      | (refine want_good hl ?_ h; clear h; intro _ _ hl h)
      | (refine name_good hl ?_ h; clear h; intro _ _ _ hl h)
      | (refine opn_good hl ?_ h; clear h; intro _ _ hl h)
      | (refine opn_good hl.tail ?_ h; clear h; intro _ _ hl h)
      | (refine bnd_good (fun _ h => ih _ _ _ _ hl h) ?_ h; clear h; intro _ _ _ hl h)
      | (refine bnd_good (fun _ h => ih _ _ _ _ hl.tail h) ?_ h; clear h; intro _ _ _ hl h)
      | (refine ite_good ?_ ?_ h; all_goals (clear h; intro h))
theorem Eats.good {n : Nat} {j : Job} {l : List Lx.Tok} {lv : Nat} {r : R} (h : Eats j l lv r) (hl : AtMost n l) : Good n r := by
  obtain ⟨f, h⟩ := h
  exact go_good n f j l lv r hl h
theorem lex_atMost {s : List UInt8} {ts : List Lx.Tok} (h : Lx.lex s = .ok ts) : AtMost s.length (ts ++ [⟨5, [], s.length⟩]) := by
  intro t ht
  rcases List.mem_append.1 ht with ht | ht
  · have := ((Lx.lex_told h).there t ht).1; omega
  · rw [List.mem_singleton.1 ht]; exact Nat.le_refl _
end Ps
end Go.Proofs.YtfegodofbdlbeaaGreatDoor

/-
  What stands behind a rule's tokens plays no part: the grammar over rows that end otherwise.
-/
namespace Go.Proofs.YtfegodofbdlbeaaGreatDoor
namespace Ps

/-- What is left is no longer. -/
def Le (l : List Lx.Tok) (o : Option R) : Prop := ∀ x r, o = some (.ok x r) → r.length ≤ l.length
/-- What is left is shorter. -/
def Lt (l : List Lx.Tok) (o : Option R) : Prop := ∀ x r, o = some (.ok x r) → r.length < l.length
theorem Lt.le {l : List Lx.Tok} {o : Option R} (h : Lt l o) : Le l o := fun x r e => Nat.le_of_lt (h x r e)
theorem Le.tail {l : List Lx.Tok} {o : Option R} (h : Le l.tail o) : Le l o := fun x r e => by have := h x r e; rw [List.length_tail] at this; omega
theorem Lt.tail {l : List Lx.Tok} {o : Option R} (h : Lt l.tail o) : Lt l o := fun x r e => by have := h x r e; rw [List.length_tail] at this; omega
theorem bnd_le {l : List Lx.Tok} {A : Option R} {f : List Tr → List Lx.Tok → Option R} (h1 : Le l A) (h2 : ∀ x l, Le l (f x l)) : Le l (bnd A f) := fun x r e => by
  cases A with
  | none => cases e
  | some q => cases q with
    | bad e i => cases e
    | ok y l' => exact Nat.le_trans (h2 y l' x r e) (h1 y l' rfl)
theorem bnd_lt {l : List Lx.Tok} {A : Option R} {f : List Tr → List Lx.Tok → Option R} (h1 : Lt l A) (h2 : ∀ x l, Le l (f x l)) : Lt l (bnd A f) := fun x r e => by
  cases A with
  | none => cases e
  | some q => cases q with
    | bad e i => cases e
    | ok y l' => exact Nat.lt_of_le_of_lt (h2 y l' x r e) (h1 y l' rfl)
theorem tail_lt {l : List Lx.Tok} (h : l ≠ []) : l.tail.length < l.length := by
  cases l with
  | nil => exact absurd rfl h
  | cons t r => simp
theorem ne_of_sees {l : List Lx.Tok} {S : List (List UInt8)} (hs : sees l S = true) (hS : [] ∉ S) : l ≠ [] := by
  rintro rfl
  unfold sees at hs
  rw [List.contains_iff_mem] at hs
  exact hS hs
theorem bad_lt {l l' : List Lx.Tok} {e : Nat} : Lt l (bad e l') := fun x r e => by cases e
theorem want_lt {l : List Lx.Tok} {s : List UInt8} {f : List Lx.Tok → Option R} (hs : [] ∉ [s]) (h : ∀ l, Le l (f l)) : Lt l (want s l f) := fun x r e => by
  unfold want at e
  split at e
  · next h1 => exact Nat.lt_of_le_of_lt (h _ x r e) (tail_lt (ne_of_sees h1 hs))
  · exact bad_lt x r e
theorem name_lt {l : List Lx.Tok} {f : List UInt8 → List Lx.Tok → Option R} (h : ∀ s l, Le l (f s l)) : Lt l (name l f) := fun x r e => by
  unfold name at e
  split at e
  · next h1 => exact Nat.lt_of_le_of_lt (h _ _ x r e) (tail_lt (by rintro rfl; exact absurd h1 (by decide)))
  · exact bad_lt x r e
theorem opn_lt {l : List Lx.Tok} {S : List (List UInt8)} {lv : Nat} {f : List Lx.Tok → Option R} (hs : [] ∉ S) (h : ∀ l, Le l (f l)) : Lt l (opn S l lv f) := fun x r e => by
  unfold opn at e
  split at e
  · next h1 =>
    split at e
    · exact bad_lt x r e
    · exact Nat.lt_of_le_of_lt (h _ x r e) (tail_lt (ne_of_sees h1 hs))
  · exact bad_lt x r e
theorem ok_le {l : List Lx.Tok} {x : List Tr} : Le l (some (.ok x l)) := fun _ _ e => by cases e; exact Nat.le_refl _
theorem ok_tail_lt {l : List Lx.Tok} {x : List Tr} (h : l ≠ []) : Lt l (some (.ok x l.tail)) := fun _ _ e => by cases e; exact tail_lt h
theorem ite_le {l : List Lx.Tok} {c : Prop} [Decidable c] {a b : Option R} (h1 : c → Le l a) (h2 : ¬ c → Le l b) : Le l (if c then a else b) := by
  split
  · next h => exact h1 h
  · next h => exact h2 h
theorem ite_lt {l : List Lx.Tok} {c : Prop} [Decidable c] {a b : Option R} (h1 : c → Lt l a) (h2 : ¬ c → Lt l b) : Lt l (if c then a else b) := by
  split
  · next h => exact h1 h
  · next h => exact h2 h

/-- The rule's own texts are none that is empty. -/
def Fit : Job → Prop
  | .within a b => [] ∉ [a] ∧ [] ∉ [b]
  | _ => True
/-- The rule takes a token at least. -/
def Costs : Job → Prop
  | .more _ _ => False
  | .idx _ => False
  | .file _ => False
  | _ => True

theorem both {l : List Lx.Tok} {o : Option R} {P : Prop} (h : Lt l o) : Le l o ∧ (P → Lt l o) := ⟨h.le, fun _ => h⟩
theorem ops_ne : ∀ k, [] ∉ ops k
  | 0 => by decide
  | 1 => by decide
  | 2 => by decide
  | 3 => by decide
  | _ + 4 => by show [] ∉ [[42], [47], [37]]; decide

theorem ne_kind {l : List Lx.Tok} {k : Nat} (h : (hd l).kind = k) (hk : k ≠ 5) : l ≠ [] := by rintro rfl; exact hk h.symm
theorem ne_text {l : List Lx.Tok} {s : List UInt8} (h : (hd l).text = s) (hs : s ≠ []) : l ≠ [] := by rintro rfl; exact hs h.symm

theorem go_len : ∀ (n : Nat) (j : Job) (l : List Lx.Tok) (lv : Nat), Fit j → Le l (go n j l lv) ∧ (Costs j → Lt l (go n j l lv))
  | 0, j, l, lv, _ => ⟨fun x r e => (by rw [go] at e; cases e), fun _ x r e => (by rw [go] at e; cases e)⟩
  | n + 1, j, l, lv, hF => by
    have ih := go_len n
    have le : ∀ j l lv, Fit j → Le l (go n j l lv) := fun j l lv h => (ih j l lv h).1
    have lt : ∀ j l lv, Fit j → Costs j → Lt l (go n j l lv) := fun j l lv h => (ih j l lv h).2
    cases j
    case more k x =>
      refine ⟨?_, False.elim⟩
      rw [go]
      refine ite_le (fun _ => bnd_le (Le.tail (le _ _ _ trivial)) fun _ _ => le _ _ _ trivial) fun _ => ok_le
    case idx x =>
      refine ⟨?_, False.elim⟩
      rw [go]
      exact ite_le (fun _ => bnd_le (le _ _ _ ⟨by decide, by decide⟩) fun _ _ => le _ _ _ trivial) fun _ => ok_le
    case file acc =>
      refine ⟨?_, False.elim⟩
      rw [go]
      exact ite_le (fun _ => ok_le) fun _ => bnd_le (le _ _ _ trivial) fun _ _ => le _ _ _ trivial
    case within a b =>
      suffices h : Lt l (go (n + 1) (.within a b) l lv) from ⟨h.le, fun _ => h⟩
      rw [go]
      exact opn_lt hF.1 fun _ => bnd_le (le _ _ _ trivial) fun _ _ => (want_lt hF.2 fun _ => ok_le).le
    all_goals
      refine both ?_
      rw [go]
      repeat' first
        | exact ok_le
        | exact bad_lt
        | exact bad_lt.le
        | refine opn_lt (by decide) (fun _ => ?_)
        | refine Lt.tail (opn_lt (l := l.tail) (by decide) (fun _ => ?_))
        | refine want_lt (by decide) (fun _ => ?_)
        | refine name_lt (fun _ _ => ?_)
        | refine (want_lt (by decide) (fun _ => ?_)).le
        | refine (opn_lt (by decide) (fun _ => ?_)).le
        | refine (name_lt (fun _ _ => ?_)).le
        | refine bnd_lt ?_ (fun _ _ => ?_)
        | refine bnd_le ?_ (fun _ _ => ?_)
        | refine lt _ _ _ ?_ ?_
        | refine le _ _ _ ?_
        | refine Lt.tail (lt _ _ _ ?_ ?_)
        | refine Le.tail (le _ _ _ ?_)
        | exact trivial
        | exact ⟨by decide, by decide⟩
        | (show Fit (if _ then _ else _); split <;> trivial)
        | (show Costs (if _ then _ else _); split <;> trivial)
        | exact ok_tail_lt (ne_kind (by assumption) (by decide))
        | exact ok_tail_lt (ne_text (by assumption) (by decide))
        | refine ite_lt (fun _ => ?_) (fun _ => ?_)
        | refine ite_le (fun _ => ?_) (fun _ => ?_)
theorem go_le_len {n : Nat} {j : Job} {l : List Lx.Tok} {lv : Nat} (h : Fit j) : Le l (go n j l lv) := (go_len n j l lv h).1
theorem go_lt_len {n : Nat} {j : Job} {l : List Lx.Tok} {lv : Nat} (h : Fit j) (h2 : Costs j) : Lt l (go n j l lv) := (go_len n j l lv h).2 h2
end Ps
end Go.Proofs.YtfegodofbdlbeaaGreatDoor

/-
  What a rule leaves is an end of what it was given; rules taken apart, and put together.
-/
namespace Go.Proofs.YtfegodofbdlbeaaGreatDoor
namespace Ps

def Sf (l : List Lx.Tok) (o : Option R) : Prop := ∀ x r, o = some (.ok x r) → r <:+ l
theorem Sf.tail {l : List Lx.Tok} {o : Option R} (h : Sf l.tail o) : Sf l o := fun x r e => (h x r e).trans (List.tail_suffix l)
theorem bnd_sf {l : List Lx.Tok} {A : Option R} {f : List Tr → List Lx.Tok → Option R} (h1 : Sf l A) (h2 : ∀ x l, Sf l (f x l)) : Sf l (bnd A f) := fun x r e => by
  cases A with
  | none => cases e
  | some q => cases q with
    | bad e i => cases e
    | ok y l' => exact (h2 y l' x r e).trans (h1 y l' rfl)
theorem bad_sf {l l' : List Lx.Tok} {e : Nat} : Sf l (bad e l') := fun x r e => by cases e
theorem want_sf {l : List Lx.Tok} {s : List UInt8} {f : List Lx.Tok → Option R} (h : ∀ l, Sf l (f l)) : Sf l (want s l f) := by
  unfold want; split
  · exact (h _).tail
  · exact bad_sf
theorem name_sf {l : List Lx.Tok} {f : List UInt8 → List Lx.Tok → Option R} (h : ∀ s l, Sf l (f s l)) : Sf l (name l f) := by
  unfold name; split
  · exact (h _ _).tail
  · exact bad_sf
theorem opn_sf {l : List Lx.Tok} {S : List (List UInt8)} {lv : Nat} {f : List Lx.Tok → Option R} (h : ∀ l, Sf l (f l)) : Sf l (opn S l lv f) := by
  unfold opn; split
  · split
    · exact bad_sf
    · exact (h _).tail
  · exact bad_sf
theorem ok_sf {l : List Lx.Tok} {x : List Tr} : Sf l (some (.ok x l)) := fun _ _ e => by cases e; exact List.suffix_refl _
theorem ite_sf {l : List Lx.Tok} {c : Prop} [Decidable c] {a b : Option R} (h1 : Sf l a) (h2 : Sf l b) : Sf l (if c then a else b) := by
  split
  · exact h1
  · exact h2
theorem go_sf : ∀ (n : Nat) (j : Job) (l : List Lx.Tok) (lv : Nat), Sf l (go n j l lv)
  | 0, j, l, lv => fun x r e => by rw [go] at e; cases e
  | n + 1, j, l, lv => by
    have ih := go_sf n
    cases j
    all_goals rw [go]
    all_goals repeat' first
      | exact ok_sf
      | exact Sf.tail ok_sf
      | exact bad_sf
      | exact ih _ _ _
      | exact (ih _ _ _).tail
      | refine want_sf (fun _ => ?_)
      | refine name_sf (fun _ _ => ?_)
      | refine opn_sf (fun _ => ?_)
      | refine Sf.tail (opn_sf (l := l.tail) (fun _ => ?_))
      | refine bnd_sf (ih _ _ _) (fun _ _ => ?_)
      | refine bnd_sf (ih _ _ _).tail (fun _ _ => ?_)
      | refine ite_sf ?_ ?_

theorem bnd_inv {A : Option R} {f : List Tr → List Lx.Tok → Option R} {x : List Tr} {r : List Lx.Tok} (h : bnd A f = some (.ok x r)) : ∃ y l, A = some (.ok y l) ∧ f y l = some (.ok x r) := by
  cases A with
  | none => cases h
  | some q => cases q with
    | bad e i => cases h
    | ok y l => exact ⟨y, l, rfl, h⟩
theorem want_yes {l : List Lx.Tok} {s : List UInt8} {f : List Lx.Tok → Option R} (h : sees l [s] = true) : want s l f = f l.tail := if_pos h
theorem opn_yes {l : List Lx.Tok} {S : List (List UInt8)} {lv : Nat} {f : List Lx.Tok → Option R} (h : sees l S = true) (hv : lv ≠ 120) : opn S l lv f = f l.tail := by
  unfold opn; rw [if_pos h, if_neg hv]
theorem name_yes {l : List Lx.Tok} {f : List UInt8 → List Lx.Tok → Option R} (h : (hd l).kind = 1) : name l f = f (hd l).text l.tail := if_pos h

section
variable {l l1 l2 : List Lx.Tok} {lv k : Nat} {x y : List Tr} {r : R} {a b s : List UInt8}
theorem Eats.bin (hk : k ≠ 5) (h1 : Eats (.bin (k + 1)) l lv (.ok x l1)) (h2 : Eats (.more k x) l1 lv r) : Eats (.bin k) l lv r := by
  obtain ⟨n, h1⟩ := h1
  obtain ⟨m, h2⟩ := h2
  refine ⟨max n m + 1, ?_⟩
  rw [go, if_neg hk, go_le (Nat.le_max_left n m) h1]
  exact go_le (Nat.le_max_right n m) h2
theorem Eats.more_stop (h : sees l (ops k) = false) : Eats (.more k x) l lv (.ok x l) := ⟨1, by rw [go, if_neg (by rw [h]; decide)]⟩
theorem Eats.more (h : sees l (ops k) = true) (h1 : Eats (.bin (k + 1)) l.tail lv (.ok y l1)) (h2 : Eats (.more k [.mk 24 (hd l).text 0 (x ++ y)]) l1 lv r) : Eats (.more k x) l lv r := by
  obtain ⟨n, h1⟩ := h1
  obtain ⟨m, h2⟩ := h2
  refine ⟨max n m + 1, ?_⟩
  rw [go, if_pos h, go_le (Nat.le_max_left n m) h1]
  exact go_le (Nat.le_max_right n m) h2
theorem Eats.bin5 (h : Eats .unary l lv r) : Eats (.bin 5) l lv r := by
  obtain ⟨n, h⟩ := h
  exact ⟨n + 1, by rw [go, if_pos rfl]; exact h⟩
theorem Eats.unary_no (hs : sees l [[45], [33]] = false) (h : Eats .suffix l lv r) : Eats .unary l lv r := by
  obtain ⟨n, h⟩ := h
  exact ⟨n + 1, by rw [go, if_neg (by rw [hs]; decide)]; exact h⟩
theorem Eats.unary (hs : sees l [[45], [33]] = true) (hv : lv ≠ 120) (h : Eats .unary l.tail (lv + 1) (.ok x l1)) : Eats .unary l lv (.ok [.mk 23 (hd l).text 0 x] l1) := by
  obtain ⟨n, h⟩ := h
  exact ⟨n + 1, by rw [go, if_pos hs, opn_yes hs hv, h]; rfl⟩
theorem Eats.suffix (h1 : Eats .prime l lv (.ok x l1)) (h2 : Eats (.idx x) l1 lv r) : Eats .suffix l lv r := by
  obtain ⟨n, h1⟩ := h1
  obtain ⟨m, h2⟩ := h2
  refine ⟨max n m + 1, ?_⟩
  rw [go, go_le (Nat.le_max_left n m) h1]
  exact go_le (Nat.le_max_right n m) h2
theorem Eats.idx_stop (h : sees l [[91]] = false) : Eats (.idx x) l lv (.ok x l) := ⟨1, by rw [go, if_neg (by rw [h]; decide)]⟩
theorem Eats.idx (h : sees l [[91]] = true) (h1 : Eats (.within [91] [93]) l lv (.ok y l1)) (h2 : Eats (.idx [.mk 26 [] 0 (x ++ y)]) l1 lv r) : Eats (.idx x) l lv r := by
  obtain ⟨n, h1⟩ := h1
  obtain ⟨m, h2⟩ := h2
  refine ⟨max n m + 1, ?_⟩
  rw [go, if_pos h, go_le (Nat.le_max_left n m) h1]
  exact go_le (Nat.le_max_right n m) h2
theorem Eats.within (h : sees l [a] = true) (hv : lv ≠ 120) (h1 : Eats (.bin 0) l.tail (lv + 1) (.ok x l1)) (h2 : sees l1 [b] = true) : Eats (.within a b) l lv (.ok x l1.tail) := by
  obtain ⟨n, h1⟩ := h1
  exact ⟨n + 1, by rw [go, opn_yes h hv, h1]; simp only [bnd]; exact want_yes h2⟩
end
end Ps
end Go.Proofs.YtfegodofbdlbeaaGreatDoor

/-
  What stands behind a rule's tokens plays no part: other tokens of the same kinds and texts, another end behind them.
-/
namespace Go.Proofs.YtfegodofbdlbeaaGreatDoor
namespace Ps

/-- The texts that open a level. -/
def openers : List (List UInt8) := [[40], [91], [123], [45], [33]]
def opens (a : List Lx.Tok) : Nat := a.countP (fun t => openers.contains t.text)
def kt (t : Lx.Tok) : Nat × List UInt8 := (t.kind, t.text)

/-- Tokens ahead of T, and the same ones ahead of T2. -/
def Al (T T2 : List Lx.Tok) (s lv : Nat) (l l2 : List Lx.Tok) : Prop := ∃ a a2, l = a ++ T ∧ l2 = a2 ++ T2 ∧ a.map kt = a2.map kt ∧ (s = 0 ∨ opens a + lv + s ≤ 119)
/-- What ends well, ahead of T, ends so ahead of T2. -/
def Sim (T T2 : List Lx.Tok) (s lv D : Nat) (o o2 : Option R) : Prop := ∀ x r, o = some (.ok x r) → T.length + D ≤ r.length → ∃ r2, o2 = some (.ok x r2) ∧ Al T T2 s lv r r2
/-- What may stand behind. -/
structure Edge (T2 : List Lx.Tok) : Prop where
  more : ∀ k, sees T2 (ops k) = false
  idx : sees T2 [[91]] = false
  els : sees T2 [[101, 108, 115, 101]] = false
  call : sees T2 [[40]] = false

section
variable {T T2 : List Lx.Tok} {s lv D : Nat} {l l2 : List Lx.Tok}

theorem Al.down (h : Al T T2 s (lv + 1) l l2) : Al T T2 s lv l l2 := by
  obtain ⟨a, a2, h1, h2, h3, h4⟩ := h
  exact ⟨a, a2, h1, h2, h3, h4.imp id (fun h => by omega)⟩
theorem Sim.down {o o2 : Option R} (h : Sim T T2 s (lv + 1) D o o2) : Sim T T2 s lv D o o2 := fun x r e hr => by
  obtain ⟨r2, h1, h2⟩ := h x r e hr
  exact ⟨r2, h1, h2.down⟩
theorem Al.len (h : Al T T2 s lv l l2) : T.length ≤ l.length := by
  obtain ⟨a, a2, rfl, -, -, -⟩ := h
  simp
/-- At the edge, or at a token. -/
theorem Al.step (h : Al T T2 s lv l l2) : (l = T ∧ l2 = T2 ∧ Al T T2 s lv T T2) ∨ ((hd l).kind = (hd l2).kind ∧ (hd l).text = (hd l2).text ∧ Al T T2 s lv l.tail l2.tail ∧ (openers.contains (hd l).text = true → Al T T2 s (lv + 1) l.tail l2.tail ∧ (s = 0 ∨ lv + s ≤ 118))) := by
  obtain ⟨a, a2, rfl, rfl, h3, h4⟩ := h
  cases a with
  | nil =>
    have : a2 = [] := by simpa using h3.symm
    subst this
    exact .inl ⟨rfl, rfl, [], [], rfl, rfl, rfl, h4⟩
  | cons t a =>
    cases a2 with
    | nil => simp at h3
    | cons t2 a2 =>
      simp only [List.map_cons, List.cons.injEq] at h3
      obtain ⟨e1, e2⟩ := h3
      have k1 : t.kind = t2.kind := congrArg Prod.fst e1
      have k2 : t.text = t2.text := congrArg Prod.snd e1
      have ho : opens a ≤ opens (t :: a) := by unfold opens; rw [List.countP_cons]; omega
      refine .inr ⟨k1, k2, ⟨a, a2, rfl, rfl, e2, h4.imp id (fun h => by omega)⟩, fun hc => ?_⟩
      have ho2 : opens (t :: a) = opens a + 1 := by
        unfold opens; rw [List.countP_cons]
        have : (openers.contains t.text) = true := hc
        rw [this]; rfl
      exact ⟨⟨a, a2, rfl, rfl, e2, h4.imp id (fun h => by omega)⟩, h4.imp id (fun h => by omega)⟩
theorem sees_eq {l l2 : List Lx.Tok} (h : (hd l).text = (hd l2).text) (S : List (List UInt8)) : sees l2 S = sees l S := by unfold sees; rw [h]
/-- At the edge nothing more is taken. -/
theorem Sim.edge {o o2 : Option R} (h : Lt T o) : Sim T T2 s lv D o o2 := fun x r e hr => absurd (h x r e) (by omega)

theorem ok_sim {x : List Tr} (h : Al T T2 s lv l l2) : Sim T T2 s lv D (some (.ok x l)) (some (.ok x l2)) := fun _ _ e _ => by
  cases e; exact ⟨l2, rfl, h⟩
theorem bad_sim {e e2 : Nat} : Sim T T2 s lv D (bad e l) (bad e2 l2) := fun _ _ e _ => by cases e
theorem bnd_sim {A A2 : Option R} {f f2 : List Tr → List Lx.Tok → Option R} (h1 : Sim T T2 s lv D A A2) (hl : ∀ x l, Le l (f x l)) (h2 : ∀ x l l2, Al T T2 s lv l l2 → Sim T T2 s lv D (f x l) (f2 x l2)) : Sim T T2 s lv D (bnd A f) (bnd A2 f2) := fun x r e hr => by
  cases A with
  | none => cases e
  | some q => cases q with
    | bad e' i => cases e
    | ok y l' =>
      obtain ⟨r2, rfl, h4⟩ := h1 y l' rfl (Nat.le_trans hr (hl y l' x r e))
      exact h2 y l' r2 h4 x r e hr
theorem bnd_simS {A A2 : Option R} {f f2 : List Tr → List Lx.Tok → Option R} (h1 : Sim T T2 s lv (D + 1) A A2) (hl : ∀ x l, Lt l (f x l)) (h2 : ∀ x l l2, Al T T2 s lv l l2 → Sim T T2 s lv D (f x l) (f2 x l2)) : Sim T T2 s lv D (bnd A f) (bnd A2 f2) := fun x r e hr => by
  cases A with
  | none => cases e
  | some q => cases q with
    | bad e' i => cases e
    | ok y l' =>
      obtain ⟨r2, rfl, h4⟩ := h1 y l' rfl (by have := hl y l' x r e; omega)
      exact h2 y l' r2 h4 x r e hr
theorem want_sim {t : List UInt8} {f f2 : List Lx.Tok → Option R} (h : Al T T2 s lv l l2) (ht : [] ∉ [t]) (hl : ∀ l, Le l (f l)) (h2 : ∀ l l2, Al T T2 s lv l l2 → Sim T T2 s lv D (f l) (f2 l2)) : Sim T T2 s lv D (want t l f) (want t l2 f2) := by
  rcases h.step with ⟨rfl, rfl, -⟩ | ⟨-, h3, h4, -⟩
  · exact Sim.edge (want_lt ht hl)
  · unfold want
    rw [sees_eq h3]
    split
    · exact h2 _ _ h4
    · exact bad_sim
theorem name_sim {f f2 : List UInt8 → List Lx.Tok → Option R} (h : Al T T2 s lv l l2) (hl : ∀ s l, Le l (f s l)) (h2 : ∀ t l l2, Al T T2 s lv l l2 → Sim T T2 s lv D (f t l) (f2 t l2)) : Sim T T2 s lv D (name l f) (name l2 f2) := by
  rcases h.step with ⟨rfl, rfl, -⟩ | ⟨h5, h3, h4, -⟩
  · exact Sim.edge (name_lt hl)
  · unfold name
    rw [← h5, ← h3]
    split
    · exact h2 _ _ _ h4
    · exact bad_sim
theorem opn_sim {S : List (List UInt8)} {lv2 : Nat} {f f2 : List Lx.Tok → Option R} (h : Al T T2 s lv l l2) (hv : lv2 = lv + s) (hS : [] ∉ S) (hO : ∀ t ∈ S, openers.contains t = true) (hl : ∀ l, Le l (f l)) (h2 : ∀ l l2, Al T T2 s (lv + 1) l l2 → Sim T T2 s (lv + 1) D (f l) (f2 l2)) : Sim T T2 s lv D (opn S l lv f) (opn S l2 lv2 f2) := by
  rcases h.step with ⟨rfl, rfl, -⟩ | ⟨-, h3, -, h4⟩
  · exact Sim.edge (opn_lt hS hl)
  · unfold opn
    rw [sees_eq h3]
    split
    · next hs =>
      obtain ⟨h5, h6⟩ := h4 (hO _ (by unfold sees at hs; rw [List.contains_iff_mem] at hs; exact hs))
      split
      · exact fun _ _ e _ => by cases e
      · rw [if_neg (by rcases h6 with rfl | h6 <;> omega)]
        exact (h2 _ _ h5).down
    · exact bad_sim
/-- Both ways take a token. -/
theorem ite_both {S : List (List UInt8)} {A B A2 B2 : Option R} (h : Al T T2 s lv l l2) (hA : Lt l A) (hB : Lt l B) (h1 : Sim T T2 s lv D A A2) (h2 : Sim T T2 s lv D B B2) : Sim T T2 s lv D (if sees l S then A else B) (if sees l2 S then A2 else B2) := by
  rcases h.step with ⟨rfl, rfl, -⟩ | ⟨-, h3, -, -⟩
  · exact Sim.edge (ite_lt (fun _ => hA) fun _ => hB)
  · rw [sees_eq h3]
    split
    · exact h1
    · exact h2
/-- What comes then takes a token; else nothing of it stands at the other edge. -/
theorem ite_edge {S : List (List UInt8)} {A B A2 B2 : Option R} (h : Al T T2 s lv l l2) (hS : D = 0 → sees T2 S = false) (hA : Lt l A) (hB : Le l B) (h1 : (hd l).text = (hd l2).text → Al T T2 s lv l.tail l2.tail → Sim T T2 s lv D A A2) (h2 : Sim T T2 s lv D B B2) : Sim T T2 s lv D (if sees l S then A else B) (if sees l2 S then A2 else B2) := by
  rcases h.step with ⟨rfl, rfl, -⟩ | ⟨-, h3, h4, -⟩
  · intro x r e hr
    by_cases hc : sees l S = true
    · rw [if_pos hc] at e
      exact absurd (hA x r e) (by omega)
    · rw [if_neg hc] at e
      have h0 : D = 0 := by have := hB x r e; omega
      have e2 : (if sees l2 S then A2 else B2) = B2 := if_neg (by rw [hS h0]; decide)
      rw [e2]
      exact h2 x r e hr
  · rw [sees_eq h3]
    split
    · exact h1 h3 h4
    · exact h2
theorem ite_sim {c c2 : Prop} [Decidable c] [Decidable c2] {A B A2 B2 : Option R} (hc : c ↔ c2) (h1 : Sim T T2 s lv D A A2) (h2 : Sim T T2 s lv D B B2) : Sim T T2 s lv D (if c then A else B) (if c2 then A2 else B2) := by
  by_cases h : c
  · rw [if_pos h, if_pos (hc.1 h)]; exact h1
  · rw [if_neg h, if_neg (fun k => h (hc.2 k))]; exact h2
end

def NoFile : Job → Prop
  | .file _ => False
  | .within a _ => openers.contains a = true
  | _ => True


set_option maxHeartbeats 8000000 in
theorem go_sim {T T2 : List Lx.Tok} {s D : Nat} (hE : D = 0 → Edge T2) : ∀ (n : Nat) (j : Job) (l l2 : List Lx.Tok) (lv lv2 : Nat), Fit j → NoFile j → lv2 = lv + s → Al T T2 s lv l l2 → Sim T T2 s lv D (go n j l lv) (go n j l2 lv2)
  | 0, j, l, l2, lv, lv2, _, _, _, _ => fun _ _ e _ => by rw [go] at e; cases e
  | n + 1, j, l, l2, lv, lv2, hF, hN, hv, h => by
    have ih := go_sim (T := T) (T2 := T2) (s := s) hE n
    have le : ∀ j l lv, Fit j → Le l (go n j l lv) := fun j l lv h => go_le_len h
    have lt : ∀ j l lv, Fit j → Costs j → Lt l (go n j l lv) := fun j l lv h h2 => go_lt_len h h2
    by_cases hc : Costs j
    · rcases h.step with ⟨rfl, rfl, -⟩ | ⟨hk, ht, hal, -⟩
      · exact Sim.edge (go_lt_len hF hc)
      cases j
      case more k x => exact hc.elim
      case idx x => exact hc.elim
      case file acc => exact hc.elim
      case within a b =>
        rw [go, go]
        exact opn_sim h hv hF.1 (fun t ht => by rw [List.mem_singleton.1 ht]; exact hN) (fun _ => bnd_le (le _ _ _ trivial) fun _ _ => (want_lt hF.2 fun _ => ok_le).le) fun _ _ h2 => bnd_sim (ih _ _ _ _ _ trivial trivial (by omega) h2) (fun _ _ => (want_lt hF.2 fun _ => ok_le).le) fun _ _ _ h3 => want_sim h3 hF.2 (fun _ => ok_le) fun _ _ h4 => ok_sim h4
      all_goals
        rw [go, go]
        try simp only [sees_eq ht, ← hk, ← ht]
        repeat' first
          | exact trivial
          | exact ⟨by decide, by decide⟩
          | (show openers.contains _ = true; decide)
          | exact ok_sim (by assumption)
          | exact bad_sim
          | assumption
          | exact ok_le
          | refine opn_sim (by assumption) (by omega) (by decide) (by decide) (fun _ => ?_) (fun _ _ _ => ?_)
          | refine want_sim (by assumption) (by decide) (fun _ => ?_) (fun _ _ _ => ?_)
          | refine name_sim (by assumption) (fun _ _ => ?_) (fun _ _ _ _ => ?_)
          | refine bnd_sim ?_ (fun _ _ => ?_) (fun _ _ _ _ => ?_)
          | refine ih _ _ _ _ _ ?_ ?_ (by omega) (by assumption)
          | refine ite_edge (by assumption) (fun h0 => (hE h0).call) ?_ ?_ (fun _ _ => ?_) ?_
          | refine ite_edge (by assumption) (fun h0 => (hE h0).els) ?_ ?_ (fun _ _ => ?_) ?_
          | refine ite_sim Iff.rfl ?_ ?_
          | refine ite_both (by assumption) ?_ ?_ ?_ ?_
          | (show Fit (if _ then _ else _); split <;> trivial)
          | (show NoFile (if _ then _ else _); split <;> trivial)
          | (show Costs (if _ then _ else _); split <;> trivial)
          | refine name_lt (fun _ _ => ?_)
          | refine (name_lt (fun _ _ => ?_)).le
          | refine want_lt (by decide) (fun _ => ?_)
          | refine (want_lt (by decide) (fun _ => ?_)).le
          | refine bnd_lt ?_ (fun _ _ => ?_)
          | refine bnd_le ?_ (fun _ _ => ?_)
          | refine lt _ _ _ ?_ ?_
          | refine le _ _ _ ?_
          | refine Lt.tail (lt _ _ _ ?_ ?_)
          | refine Le.tail (le _ _ _ ?_)
          | refine ite_lt (fun _ => ?_) (fun _ => ?_)
          | refine ite_le (fun _ => ?_) (fun _ => ?_)
    · cases j
      case more k x =>
        rw [go, go]
        refine ite_edge h (fun h0 => (hE h0).more k) (bnd_lt (lt (.bin (k + 1)) l.tail lv trivial trivial).tail fun _ _ => le _ _ _ trivial) ok_le (fun ht hal => ?_) (ok_sim h)
        rw [← ht]
        exact bnd_sim (ih _ _ _ _ _ trivial trivial hv hal) (fun _ _ => le _ _ _ trivial) fun _ _ _ hq => ih _ _ _ _ _ trivial trivial hv hq
      case idx x =>
        rw [go, go]
        exact ite_edge h (fun h0 => (hE h0).idx) (bnd_lt (lt _ _ _ ⟨by decide, by decide⟩ trivial) fun _ _ => le _ _ _ trivial) ok_le (fun _ _ => bnd_sim (ih _ _ _ _ _ ⟨by decide, by decide⟩ (show openers.contains [91] = true by decide) hv h) (fun _ _ => le _ _ _ trivial) fun _ _ _ hq => ih _ _ _ _ _ trivial trivial hv hq) (ok_sim h)
      case file acc => exact hN.elim
      all_goals exact absurd trivial hc

/-- What ends with a }: whatever stands behind. -/
theorem blk_sim {T T2 : List Lx.Tok} {s : Nat} : ∀ (n : Nat) (acc : List Tr) (l l2 : List Lx.Tok) (lv lv2 : Nat), lv2 = lv + s → Al T T2 s lv l l2 → Sim T T2 s lv 0 (go n (.blk acc) l lv) (go n (.blk acc) l2 lv2)
  | 0, _, _, _, _, _, _, _ => fun _ _ e _ => by rw [go] at e; cases e
  | n + 1, acc, l, l2, lv, lv2, hv, h => by
    rw [go, go]
    exact ite_both h (want_lt (by decide) fun _ => ok_le) (bnd_lt (go_lt_len trivial trivial) fun _ _ => go_le_len trivial) (want_sim h (by decide) (fun _ => ok_le) fun _ _ h => ok_sim h)
      (bnd_simS (go_sim (fun h => by cases h) n .stmt _ _ _ _ trivial trivial hv h) (fun _ _ => go_lt_len trivial trivial) fun _ _ _ h => blk_sim n _ _ _ _ _ hv h)
theorem block_sim {T T2 : List Lx.Tok} {s : Nat} (n : Nat) (l l2 : List Lx.Tok) (lv lv2 : Nat) (hv : lv2 = lv + s) (h : Al T T2 s lv l l2) : Sim T T2 s lv 0 (go n .block l lv) (go n .block l2 lv2) := by
  cases n with
  | zero => exact fun _ _ e _ => by rw [go] at e; cases e
  | succ n =>
    rw [go, go]
    exact opn_sim h hv (by decide) (by decide) (fun _ => bnd_le (go_le_len trivial) fun _ _ => ok_le) fun _ _ h => bnd_sim (blk_sim n _ _ _ _ _ (by omega) h) (fun _ _ => ok_le) fun _ _ _ h => ok_sim h
theorem func_sim {T T2 : List Lx.Tok} {s : Nat} (n : Nat) (l l2 : List Lx.Tok) (lv lv2 : Nat) (hv : lv2 = lv + s) (h : Al T T2 s lv l l2) : Sim T T2 s lv 0 (go n .func l lv) (go n .func l2 lv2) := by
  cases n with
  | zero => exact fun _ _ e _ => by rw [go] at e; cases e
  | succ n =>
    rw [go, go]
    refine want_sim h (by decide) (fun _ => (name_lt fun _ _ => bnd_le (go_le_len (j := .listed true) trivial) fun _ _ => bnd_le (go_le_len (j := .block) trivial) fun _ _ => ok_le).le) fun _ _ h => ?_
    refine name_sim h (fun _ _ => bnd_le (go_le_len trivial) fun _ _ => bnd_le (go_le_len trivial) fun _ _ => ok_le) fun _ _ _ h => ?_
    refine bnd_simS (go_sim (fun h => by cases h) n (.listed true) _ _ _ _ trivial trivial hv h) (fun _ _ => bnd_lt (go_lt_len trivial trivial) fun _ _ => ok_le) fun _ _ _ h => ?_
    exact bnd_sim (block_sim n _ _ _ _ hv h) (fun _ _ => ok_le) fun _ _ _ h => ok_sim h
end Ps
end Go.Proofs.YtfegodofbdlbeaaGreatDoor

/-
  Where tokens stand plays no part: the same tokens at other places are the same nodes, a fault is at the same one.
-/
namespace Go.Proofs.YtfegodofbdlbeaaGreatDoor
namespace Ps

/-- The same tokens at other places, up to the end. -/
def Two (P : Nat → Nat → Prop) : List Lx.Tok → List Lx.Tok → Prop
  | [], _ => False
  | _ :: _, [] => False
  | t :: r, u :: q => (t.kind = u.kind ∧ t.text = u.text ∧ P t.at_ u.at_) ∧ ((t.kind = 5 ∧ t.text = [] ∧ r = [] ∧ q = []) ∨ Two P r q)
/-- They end alike. -/
def RTwo (P : Nat → Nat → Prop) : Option R → Option R → Prop
  | none, none => True
  | some (.ok x l), some (.ok y q) => x = y ∧ Two P l q
  | some (.bad e i), some (.bad f j) => e = f ∧ P i j
  | _, _ => False
section
variable {P : Nat → Nat → Prop} {l l2 : List Lx.Tok}
theorem Two.hd (h : Two P l l2) : (hd l).kind = (hd l2).kind ∧ (hd l).text = (hd l2).text ∧ P (hd l).at_ (hd l2).at_ := by
  cases l with
  | nil => exact h.elim
  | cons t r => cases l2 with
    | nil => exact h.elim
    | cons u q => exact h.1
theorem Two.tail (h : Two P l l2) (hn : (Ps.hd l).kind ≠ 5 ∨ (Ps.hd l).text ≠ []) : Two P l.tail l2.tail := by
  cases l with
  | nil => exact h.elim
  | cons t r => cases l2 with
    | nil => exact h.elim
    | cons u q =>
      rcases h.2 with ⟨h1, h2, -⟩ | h2
      · exact (hn.elim (absurd h1) (absurd h2))
      · exact h2
theorem Two.ne (h : Two P l l2) : l ≠ [] := by rintro rfl; exact h
theorem Two.sees (h : Two P l l2) (S : List (List UInt8)) : sees l2 S = sees l S := by unfold Ps.sees; rw [h.hd.2.1]
theorem Two.seen (h : Two P l l2) {S : List (List UInt8)} (hs : Ps.sees l S = true) (hS : [] ∉ S) : Two P l.tail l2.tail :=
  h.tail (.inr (fun e => hS (by unfold Ps.sees at hs; rw [e, List.contains_iff_mem] at hs; exact hs)))
theorem ok_two {x : List Tr} (h : Two P l l2) : RTwo P (some (.ok x l)) (some (.ok x l2)) := ⟨rfl, h⟩
theorem bad_two {e : Nat} (h : Two P l l2) : RTwo P (bad e l) (bad e l2) := ⟨rfl, h.hd.2.2⟩
theorem bnd_two {A A2 : Option R} {f f2 : List Tr → List Lx.Tok → Option R} (h1 : RTwo P A A2) (h2 : ∀ x l l2, Two P l l2 → RTwo P (f x l) (f2 x l2)) : RTwo P (bnd A f) (bnd A2 f2) := by
  cases A with
  | none => cases A2 with
    | none => trivial
    | some q => exact h1.elim
  | some q => cases A2 with
    | none => cases q <;> exact h1.elim
    | some q2 => cases q with
      | ok x l => cases q2 with
        | ok y l2 =>
          obtain ⟨rfl, h⟩ := h1
          exact h2 _ _ _ h
        | bad e i => exact h1.elim
      | bad e i => cases q2 with
        | ok y l2 => exact h1.elim
        | bad f j => exact h1
theorem want_two {t : List UInt8} {f f2 : List Lx.Tok → Option R} (h : Two P l l2) (ht : [] ∉ [t]) (h2 : ∀ l l2, Two P l l2 → RTwo P (f l) (f2 l2)) : RTwo P (want t l f) (want t l2 f2) := by
  unfold want
  rw [h.sees]
  split
  · next hs => exact h2 _ _ (h.seen hs ht)
  · exact bad_two h
theorem name_two {f f2 : List UInt8 → List Lx.Tok → Option R} (h : Two P l l2) (h2 : ∀ t l l2, Two P l l2 → RTwo P (f t l) (f2 t l2)) : RTwo P (name l f) (name l2 f2) := by
  unfold name
  rw [← h.hd.1, ← h.hd.2.1]
  split
  · next hs => exact h2 _ _ _ (h.tail (.inl (by omega)))
  · exact bad_two h
theorem opn_two {S : List (List UInt8)} {lv : Nat} {f f2 : List Lx.Tok → Option R} (h : Two P l l2) (hS : [] ∉ S) (h2 : ∀ l l2, Two P l l2 → RTwo P (f l) (f2 l2)) : RTwo P (opn S l lv f) (opn S l2 lv f2) := by
  unfold opn
  rw [h.sees]
  split
  · next hs =>
    split
    · exact bad_two h
    · exact h2 _ _ (h.seen hs hS)
  · exact bad_two h
theorem sees_two {S : List (List UInt8)} {A B A2 B2 : Option R} (h : Two P l l2) (hS : [] ∉ S) (h1 : Two P l.tail l2.tail → RTwo P A A2) (h2 : RTwo P B B2) : RTwo P (if sees l S then A else B) (if sees l2 S then A2 else B2) := by
  rw [h.sees]
  split
  · next hs => exact h1 (h.seen hs hS)
  · exact h2
theorem ite_two {c c2 : Prop} [Decidable c] [Decidable c2] {A B A2 B2 : Option R} (hc : c ↔ c2) (h1 : c → RTwo P A A2) (h2 : ¬ c → RTwo P B B2) : RTwo P (if c then A else B) (if c2 then A2 else B2) := by
  by_cases h : c
  · rw [if_pos h, if_pos (hc.1 h)]; exact h1 h
  · rw [if_neg h, if_neg (fun k => h (hc.2 k))]; exact h2 h
end

set_option maxHeartbeats 8000000 in
theorem go_two {P : Nat → Nat → Prop} : ∀ (n : Nat) (j : Job) (l l2 : List Lx.Tok) (lv : Nat), Fit j → Two P l l2 → RTwo P (go n j l lv) (go n j l2 lv)
  | 0, j, l, l2, lv, _, _ => by rw [go, go]; trivial
  | n + 1, j, l, l2, lv, hF, h => by
    have ih := go_two (P := P) n
    obtain ⟨hk, ht, -⟩ := h.hd
    cases j
    case within a b =>
      rw [go, go]
      exact opn_two h hF.1 fun _ _ h => bnd_two (ih _ _ _ _ trivial h) fun _ _ _ h => want_two h hF.2 fun _ _ h => ok_two h
    case prime =>
      rw [go, go]
      rw [← hk, ← ht]
      refine ite_two Iff.rfl (fun e => ok_two (h.tail (.inl (by omega)))) fun _ => ite_two Iff.rfl (fun e => ?_) fun _ => ite_two Iff.rfl (fun e => ok_two (h.tail (.inr (by rw [e]; decide)))) fun _ => ite_two Iff.rfl (fun e => ok_two (h.tail (.inr (by rw [e]; decide)))) fun _ => ite_two Iff.rfl (fun e => ih _ _ _ _ trivial h) fun _ => ite_two Iff.rfl (fun e => bnd_two (ih _ _ _ _ ⟨by decide, by decide⟩ (h.tail (.inr (by rw [e]; decide)))) fun _ _ _ h => ok_two h) fun _ => ite_two Iff.rfl (fun e => opn_two (h.tail (.inr (by rw [e]; decide))) (by decide) fun _ _ h => want_two h (by decide) fun _ _ h => ok_two h) fun _ => ih _ _ _ _ ⟨by decide, by decide⟩ h
      have h2 := h.tail (.inl (by omega))
      exact sees_two h2 (by decide) (fun _ => ih _ _ _ _ trivial h2) (ok_two h2)
    case stmt =>
      rw [go, go]
      rw [← ht]
      have tl : ∀ s, s ≠ [] → (hd l).text = s → Two P l.tail l2.tail := fun s hs e => h.tail (.inr (by rw [e]; exact hs))
      refine ite_two Iff.rfl (fun e => ?_) fun _ => ite_two Iff.rfl (fun e => ?_) fun _ => ite_two Iff.rfl (fun e => ?_) fun _ => ite_two Iff.rfl (fun e => ?_) fun _ => ite_two Iff.rfl (fun e => ?_) fun _ => ite_two Iff.rfl (fun e => ?_) fun _ => ?_
      · exact want_two h (by decide) fun _ _ h => name_two h fun _ _ _ h => want_two h (by decide) fun _ _ h => bnd_two (ih _ _ _ _ trivial h) fun _ _ _ h => want_two h (by decide) fun _ _ h => ok_two h
      · exact want_two h (by decide) fun _ _ h => bnd_two (ih _ _ _ _ trivial h) fun _ _ _ h => bnd_two (ih _ _ _ _ trivial h) fun _ _ _ h => sees_two h (by decide) (fun h => bnd_two (ih _ _ _ _ trivial h) fun _ _ _ h => ok_two h) (ok_two h)
      · exact want_two h (by decide) fun _ _ h => bnd_two (ih _ _ _ _ trivial h) fun _ _ _ h => bnd_two (ih _ _ _ _ trivial h) fun _ _ _ h => ok_two h
      · exact bnd_two (ih _ _ _ _ trivial (tl _ (by decide) e)) fun _ _ _ h => want_two h (by decide) fun _ _ h => ok_two h
      · exact bnd_two (ih _ _ _ _ trivial (tl _ (by decide) e)) fun _ _ _ h => want_two h (by decide) fun _ _ h => ok_two h
      · exact ih _ _ _ _ trivial h
      · exact ih _ _ _ _ trivial h
    case more k x =>
      rw [go, go]
      refine sees_two h (ops_ne k) (fun h => ?_) (ok_two h)
      rw [← ht]
      exact bnd_two (ih _ _ _ _ trivial h) fun _ _ _ h => ih _ _ _ _ trivial h
    case unary =>
      rw [go, go]
      refine sees_two h (by decide) (fun _ => ?_) (ih _ _ _ _ trivial h)
      rw [← ht]
      exact opn_two h (by decide) fun _ _ h => bnd_two (ih _ _ _ _ trivial h) fun _ _ _ h => ok_two h
    case file acc =>
      rw [go, go]
      rw [← hk]
      exact ite_two Iff.rfl (fun _ => ok_two h) fun _ => bnd_two (ih _ _ _ _ trivial h) fun _ _ _ h => ih _ _ _ _ trivial h
    all_goals
      rw [go, go]
      repeat' first
        | exact trivial
        | exact ⟨by decide, by decide⟩
        | assumption
        | exact ok_two (by assumption)
        | exact bad_two (by assumption)
        | refine opn_two (by assumption) (by decide) (fun _ _ _ => ?_)
        | refine want_two (by assumption) (by decide) (fun _ _ _ => ?_)
        | refine name_two (by assumption) (fun _ _ _ _ => ?_)
        | refine bnd_two ?_ (fun _ _ _ _ => ?_)
        | refine ih _ _ _ _ ?_ (by assumption)
        | refine sees_two (by assumption) (by decide) (fun _ => ?_) ?_
        | (show Fit (if _ then _ else _); split <;> trivial)
        | refine ite_two Iff.rfl (fun _ => ?_) (fun _ => ?_)
theorem Eats.two {P : Nat → Nat → Prop} {j : Job} {l l2 : List Lx.Tok} {lv : Nat} {r : R} (h : Eats j l lv r) (hF : Fit j) (ht : Two P l l2) : ∃ r2, Eats j l2 lv r2 ∧ RTwo P (some r) (some r2) := by
  obtain ⟨n, h⟩ := h
  have := go_two n j l l2 lv hF ht
  rw [h] at this
  cases h2 : go n j l2 lv with
  | none => rw [h2] at this; cases r <;> exact this.elim
  | some r2 => rw [h2] at this; exact ⟨r2, ⟨n, h2⟩, this⟩
end Ps
end Go.Proofs.YtfegodofbdlbeaaGreatDoor

/-
  Two files, one behind the other; brackets around an expression: what the grammar tells.
-/
namespace Go.Proofs.YtfegodofbdlbeaaGreatDoor
namespace Ps

/-- The functions ahead. -/
def R.ahead (ns : List Tr) : R → R
  | .ok x l => .ok (ns ++ x) l
  | .bad e i => .bad e i
theorem file_ahead (ns : List Tr) : ∀ (n : Nat) (acc : List Tr) (l : List Lx.Tok) (lv : Nat) (r : R), go n (.file acc) l lv = some r → go n (.file (ns ++ acc)) l lv = some (r.ahead ns)
  | 0, _, _, _, _, h => by rw [go] at h; cases h
  | n + 1, acc, l, lv, r, h => by
    rw [go] at h ⊢
    split
    · next hk => rw [if_pos hk] at h; cases h; rfl
    · next hk =>
      rw [if_neg hk] at h
      cases hf : go n .func l lv with
      | none => rw [hf] at h; cases h
      | some q =>
        rw [hf] at h
        cases q with
        | bad e i => cases h; rfl
        | ok x l1 =>
          have := file_ahead ns n (acc ++ x) l1 lv r h
          rw [← List.append_assoc] at this
          exact this
/-- A file's functions, and other ones behind them. -/
theorem file_front (e : Lx.Tok) (he : e.kind = 5) (het : e.text = []) (T2 : List Lx.Tok) (q : R) : ∀ (n : Nat) (acc : List Tr) (a : List Lx.Tok) (x : List Tr) (r : List Lx.Tok), (∀ t ∈ a, t.kind ≠ 5) → go n (.file acc) (a ++ [e]) 0 = some (.ok x r) → Eats (.file x) T2 0 q → Eats (.file acc) (a ++ T2) 0 q
  | 0, _, _, _, _, _, h, _ => by rw [go] at h; cases h
  | n + 1, acc, [], x, r, _, h, hq => by
    rw [go, if_pos (show (hd ([] ++ [e])).kind = 5 from he)] at h
    cases h
    exact hq
  | n + 1, acc, t :: a, x, r, hk, h, hq => by
    have hk0 : ¬ (hd (t :: a ++ [e])).kind = 5 := hk t (by simp)
    rw [go, if_neg hk0] at h
    obtain ⟨y, l1, h1, h2⟩ := bnd_inv h
    have hself : ∀ a : List Lx.Tok, Two (fun i j => i = j) (a ++ [e]) (a ++ [e]) := by
      intro a
      induction a with
      | nil => exact ⟨⟨rfl, rfl, rfl⟩, .inl ⟨he, het, rfl, rfl⟩⟩
      | cons u a ih => exact ⟨⟨rfl, rfl, rfl⟩, .inr ih⟩
    have hne : l1 ≠ [] := by
      have := go_two (P := fun i j => i = j) n .func _ _ 0 trivial (hself (t :: a))
      rw [h1] at this
      exact this.2.ne
    have hsf := go_sf n .func _ 0 y l1 h1
    obtain ⟨r2, h3, a1, a2, e1, e2, e3, -⟩ := func_sim (T := [e]) (T2 := T2) (s := 0) n (t :: a ++ [e]) (t :: a ++ T2) 0 0 rfl ⟨t :: a, t :: a, rfl, rfl, rfl, .inl rfl⟩ y l1 h1 (by
      have := List.length_pos_iff.2 hne
      show 1 + 0 ≤ l1.length
      omega)
    subst e1 e2
    obtain ⟨p, hp⟩ := hsf
    have hin : p ++ a1 = t :: a := by
      rw [← List.append_assoc] at hp
      exact List.append_cancel_right hp
    have hk1 : ∀ u ∈ a1, u.kind ≠ 5 := fun u hu => hk u (by rw [← hin]; simp [hu])
    obtain ⟨p2, hp2⟩ := go_sf n .func _ 0 y _ h3
    have hin2 : p2 ++ a2 = t :: a := by
      rw [← List.append_assoc] at hp2
      exact List.append_cancel_right hp2
    have hlen : a1.length = a2.length := by have := congrArg List.length e3; simpa using this
    obtain rfl : a1 = a2 := (List.append_inj' (hin.trans hin2.symm) hlen).2
    obtain ⟨m, hm⟩ := file_front e he het T2 q n (acc ++ y) a1 x r hk1 h2 hq
    refine ⟨max n m + 1, ?_⟩
    rw [go, if_neg (show ¬ (hd (t :: a ++ T2)).kind = 5 from hk t (by simp)), go_le (Nat.le_max_left n m) h3]
    exact go_le (Nat.le_max_right n m) hm
/-- Tokens farther on. -/
theorem two_shift (d i : Nat) : ∀ l : List Lx.Tok, Two (fun i j => j = i + d) (l ++ [⟨5, [], i⟩]) (l.map (Lx.Tok.shift d) ++ [⟨5, [], i + d⟩])
  | [] => ⟨⟨rfl, rfl, rfl⟩, .inl ⟨rfl, rfl, rfl, rfl⟩⟩
  | _ :: l => ⟨⟨rfl, rfl, rfl⟩, .inr (two_shift d i l)⟩
/-- Two files, one behind the other. -/
theorem row_eats {ta tb : List Lx.Tok} {ns : List Tr} {l1 : List Lx.Tok} {i j d : Nat} {r : R} (hk : ∀ t ∈ ta, t.kind ≠ 5) (h1 : Eats (.file []) (ta ++ [⟨5, [], i⟩]) 0 (.ok ns l1)) (h2 : Eats (.file []) (tb ++ [⟨5, [], j⟩]) 0 r) :
    (∀ e k, r = .bad e k → Eats (.file []) (ta ++ tb.map (Lx.Tok.shift d) ++ [⟨5, [], j + d⟩]) 0 (.bad e (k + d))) ∧ (∀ ms l2, r = .ok ms l2 → ∃ l3, Eats (.file []) (ta ++ tb.map (Lx.Tok.shift d) ++ [⟨5, [], j + d⟩]) 0 (.ok (ns ++ ms) l3)) := by
  obtain ⟨r2, ⟨m, h3⟩, h4⟩ := h2.two trivial (two_shift d j tb)
  have h5 := file_ahead ns m [] _ 0 r2 h3
  rw [List.append_nil] at h5
  obtain ⟨n, h1⟩ := h1
  have h6 := file_front _ rfl rfl _ _ n [] ta ns l1 hk h1 ⟨m, h5⟩
  rw [List.append_assoc]
  refine ⟨?_, ?_⟩
  · rintro e k rfl
    cases r2 with
    | ok x l => exact h4.elim
    | bad f q =>
      obtain ⟨rfl, rfl⟩ := h4
      exact h6
  · rintro ms l2 rfl
    cases r2 with
    | ok x l =>
      obtain ⟨rfl, -⟩ := h4
      exact ⟨_, h6⟩
    | bad f q => exact h4.elim

end Ps
end Go.Proofs.YtfegodofbdlbeaaGreatDoor

/-
  A tree that is parsed has few nodes.
-/
namespace Go.Proofs.YtfegodofbdlbeaaGreatDoor
namespace Ps
open Tr (sizes)

end Ps
end Go.Proofs.YtfegodofbdlbeaaGreatDoor
