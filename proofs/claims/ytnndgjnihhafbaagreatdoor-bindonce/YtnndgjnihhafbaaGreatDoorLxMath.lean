/-
  Chapter 5 as plain lists: bytes of a program as tokens; what follows of it.
-/
namespace Go.Proofs.YtnndgjnihhafbaaGreatDoor
namespace Lx

def letterI (c : Int) : Bool := decide (97 ≤ c) && decide (c ≤ 122) || decide (65 ≤ c) && decide (c ≤ 90) || c == 95
def digitI (c : Int) : Bool := decide (48 ≤ c) && decide (c ≤ 57)
def ldI (c : Int) : Bool := letterI c || digitI c
def blankI (c : Int) : Bool := c == 32 || c == 9 || c == 10 || c == 13
def inLineI (c : Int) : Bool := c != 10
/-- A sort of bytes, out of one of ints. -/
def of (p : Int → Bool) (b : UInt8) : Bool := p (b.toNat : Int)
/-- How many bytes of the sort stand in front. -/
def lead (p : Int → Bool) (l : List UInt8) : Nat := (l.takeWhile (of p)).length

theorem lead_le (p : Int → Bool) (l : List UInt8) : lead p l ≤ l.length := List.Sublist.length_le (List.takeWhile_sublist _)
theorem lead_nil (p : Int → Bool) : lead p [] = 0 := rfl
theorem lead_cons (p : Int → Bool) (b : UInt8) (l : List UInt8) : lead p (b :: l) = if p (b.toNat : Int) then lead p l + 1 else 0 := by
  unfold lead
  rw [List.takeWhile_cons]
  by_cases h : p (b.toNat : Int) = true
  · rw [if_pos (show of p b = true from h), if_pos h]; rfl
  · rw [if_neg (show ¬ of p b = true from h), if_neg h]; rfl
theorem lead_yes (p : Int → Bool) : ∀ (l : List UInt8) (i : Nat) (h : i < l.length), i < lead p l → p (l[i].toNat : Int) = true
  | [], i, h, _ => by simp at h
  | b :: l, i, h, hi => by
    rw [lead_cons] at hi
    split at hi
    next hp =>
      cases i with
      | zero => exact hp
      | succ i => exact lead_yes p l i (by simpa using h) (by omega)
    next hp => omega
/-- The first place whose byte is not of the sort. -/
theorem lead_eq (p : Int → Bool) : ∀ (l : List UInt8) (i : Nat), i ≤ l.length → (∀ j (hj : j < l.length), j < i → p (l[j].toNat : Int) = true) → (∀ h : i < l.length, p (l[i].toNat : Int) = false) → lead p l = i
  | [], i, h, _, _ => by simp at h; rw [h]; rfl
  | b :: l, i, h, h1, h2 => by
    cases i with
    | zero =>
      have := h2 (by simp)
      simp at this
      rw [lead_cons, if_neg (by simp [this])]
    | succ i =>
      have h0 := h1 0 (by simp) (by omega)
      simp at h0
      rw [lead_cons, if_pos h0]
      rw [lead_eq p l i (by simpa using h) (fun j hj hji => by have := h1 (j + 1) (by simpa using hj) (by omega); simpa using this) (fun hh => by have := h2 (by simpa using hh); simpa using this)]
theorem lead_all (p : Int → Bool) (l : List UInt8) (h : lead p l = l.length) : ∀ b ∈ l, p (b.toNat : Int) = true := by
  intro b hb
  obtain ⟨i, hi, rfl⟩ := List.mem_iff_getElem.1 hb
  exact lead_yes p l i hi (by omega)
theorem lead_of_all (p : Int → Bool) (l : List UInt8) (h : ∀ b ∈ l, p (b.toNat : Int) = true) : lead p l = l.length :=
  lead_eq p l l.length (Nat.le_refl _) (fun _ hj _ => h _ (List.getElem_mem hj)) (fun hh => absurd hh (Nat.lt_irrefl _))
theorem lead_take_all (p : Int → Bool) (l : List UInt8) : ∀ b ∈ l.take (lead p l), p (b.toNat : Int) = true := by
  intro b hb
  obtain ⟨i, hi, rfl⟩ := List.mem_iff_getElem.1 hb
  rw [List.getElem_take]
  rw [List.length_take] at hi
  exact lead_yes p l i (by omega) (by omega)
def words : List (List UInt8) := [[102, 117, 110, 99], [118, 97, 114], [105, 102], [101, 108, 115, 101], [119, 104, 105, 108, 101], [114, 101, 116, 117, 114, 110], [112, 114, 105, 110, 116], [116, 114, 117, 101], [102, 97, 108, 115, 101], [108, 101, 110], [114, 101, 97, 100]]
def signs : List (List UInt8) := [[61, 61], [33, 61], [60, 61], [62, 61], [38, 38], [124, 124], [40], [41], [123], [125], [91], [93], [44], [59], [61], [60], [62], [43], [45], [42], [47], [37], [33]]

/-- A name, or one of the words. -/
def spelled (l : List UInt8) : Bool := decide (l.length ≤ 24) && (match l with | [] => false | b :: _ => letterI (b.toNat : Int)) && decide (lead ldI l = l.length)
def isWord (l : List UInt8) : Bool := words.contains l
def isName (l : List UInt8) : Bool := spelled l && !isWord l

/-- What digits say. -/
def val (l : List UInt8) : Nat := l.foldl (fun n b => 10 * n + (b.toNat - 48)) 0
def noZero : List UInt8 → Bool
  | b :: _ :: _ => b != 48
  | _ => true
def isInt (l : List UInt8) : Bool := decide (l ≠ []) && noZero l && decide (lead digitI l = l.length) && decide (val l ≤ 9223372036854775807)

structure Tok where
  kind : Nat
  text : List UInt8
  at_ : Nat
deriving DecidableEq, Repr

inductive Step where
  | skip (n : Nat)
  | tok (kind n : Nat)
  | bad (err : Nat)
deriving DecidableEq, Repr

/-- The sort of a row of letters and digits: 2 a word, 1 a name, 3 an integer, 0 none of them. -/
def sort (t : List UInt8) : Nat := if isWord t then 2 else if isName t then 1 else if isInt t then 3 else 0
def sign? (l : List UInt8) : Option (List UInt8) := signs.find? (fun s => s.isPrefixOf l)

/-- What is done where bytes are left. -/
def step (l : List UInt8) : Step :=
  if 0 < lead blankI l then .skip (lead blankI l)
  else if [47, 47].isPrefixOf l then .skip (lead inLineI l)
  else if 0 < lead ldI l then (if sort (l.take (lead ldI l)) = 0 then .bad 101 else .tok (sort (l.take (lead ldI l))) (lead ldI l))
  else match sign? l with
    | some s => .tok 4 s.length
    | none => .bad 100

/-- The tokens, or the fault: its error and its place. -/
inductive Res where
  | fault (err at_ : Nat)
  | ok (ts : List Tok)
deriving DecidableEq, Repr

def go : Nat → List UInt8 → Nat → List Tok → Res
  | 0, _, _, acc => .ok acc
  | f + 1, l, k, acc => if l = [] then .ok acc else match step l with
    | .skip n => go f (l.drop n) (k + n) acc
    | .tok kind n => go f (l.drop n) (k + n) (acc ++ [⟨kind, l.take n, k⟩])
    | .bad e => .fault e k

def lex (l : List UInt8) : Res := go (l.length + 1) l 0 []

theorem sign_mem {l s : List UInt8} (h : sign? l = some s) : s ∈ signs ∧ s.isPrefixOf l = true := ⟨List.mem_of_find?_eq_some h, by have := List.find?_some h; exact this⟩
theorem signs_len : ∀ s ∈ signs, 0 < s.length ∧ s.length ≤ 2 := by decide
theorem prefix_take {s l : List UInt8} (h : s.isPrefixOf l = true) : l.take s.length = s ∧ s.length ≤ l.length := by
  have h2 := List.isPrefixOf_iff_prefix.1 h
  exact ⟨(List.prefix_iff_eq_take.1 h2).symm, h2.length_le⟩

/-- Each step takes a byte at least, and no more than there are. -/
theorem step_skip {l : List UInt8} {n : Nat} (h : step l = .skip n) : 0 < n ∧ n ≤ l.length := by
  unfold step at h
  split at h
  next h1 => cases h; exact ⟨h1, lead_le _ _⟩
  next h1 =>
    split at h
    next h2 =>
      cases h
      refine ⟨?_, lead_le _ _⟩
      obtain ⟨r, rfl⟩ := List.isPrefixOf_iff_prefix.1 h2
      show 0 < lead inLineI (47 :: 47 :: r)
      rw [lead_cons, if_pos (by decide)]; omega
    next h2 =>
      split at h
      next h3 => split at h <;> cases h
      next h3 => split at h <;> cases h
theorem step_tok {l : List UInt8} {kind n : Nat} (h : step l = .tok kind n) : 0 < n ∧ n ≤ l.length := by
  unfold step at h
  split at h
  next h1 => cases h
  next h1 =>
    split at h
    next h2 => cases h
    next h2 =>
      split at h
      next h3 =>
        split at h
        · cases h
        · cases h; exact ⟨h3, lead_le _ _⟩
      next h3 =>
        split at h
        next s hs =>
          cases h
          have := sign_mem hs
          exact ⟨(signs_len s this.1).1, (prefix_take this.2).2⟩
        next => cases h

/-- More fuel than bytes: how much plays no part. -/
theorem go_fuel : ∀ (f f' : Nat) (l : List UInt8) (k : Nat) (acc : List Tok), l.length < f → l.length < f' → go f l k acc = go f' l k acc
  | 0, _, _, _, _, h, _ => absurd h (Nat.not_lt_zero _)
  | _ + 1, 0, _, _, _, _, h => absurd h (Nat.not_lt_zero _)
  | f + 1, f' + 1, l, k, acc, h, h' => by
    unfold go
    split
    · rfl
    · split
      next n hs =>
        have := step_skip hs
        exact go_fuel f f' _ _ _ (by rw [List.length_drop]; omega) (by rw [List.length_drop]; omega)
      next kind n hs =>
        have := step_tok hs
        exact go_fuel f f' _ _ _ (by rw [List.length_drop]; omega) (by rw [List.length_drop]; omega)
      next => rfl

/-- All that is left, with enough fuel. -/
def rest (l : List UInt8) (k : Nat) (acc : List Tok) : Res := go (l.length + 1) l k acc
theorem rest_nil (k : Nat) (acc : List Tok) : rest [] k acc = .ok acc := rfl
theorem rest_skip {l : List UInt8} {n : Nat} (k : Nat) (acc : List Tok) (h : step l = .skip n) (hl : l ≠ []) : rest l k acc = rest (l.drop n) (k + n) acc := by
  have := step_skip h
  unfold rest
  conv => lhs; unfold go
  rw [if_neg hl, h]
  exact go_fuel _ _ _ _ _ (by rw [List.length_drop]; omega) (by omega)
theorem rest_tok {l : List UInt8} {kind n : Nat} (k : Nat) (acc : List Tok) (h : step l = .tok kind n) (hl : l ≠ []) : rest l k acc = rest (l.drop n) (k + n) (acc ++ [⟨kind, l.take n, k⟩]) := by
  have := step_tok h
  unfold rest
  conv => lhs; unfold go
  rw [if_neg hl, h]
  exact go_fuel _ _ _ _ _ (by rw [List.length_drop]; omega) (by omega)
theorem rest_bad {l : List UInt8} {e : Nat} (k : Nat) (acc : List Tok) (h : step l = .bad e) (hl : l ≠ []) : rest l k acc = .fault e k := by
  unfold rest
  conv => lhs; unfold go
  rw [if_neg hl, h]

/-- By steps. -/
theorem bySteps {P : List UInt8 → Prop} (h0 : P []) (hs : ∀ l, l ≠ [] → (∀ n, step l = .skip n → P (l.drop n)) → (∀ kind n, step l = .tok kind n → P (l.drop n)) → P l) (l : List UInt8) : P l := by
  obtain ⟨m, hm⟩ : ∃ m, l.length ≤ m := ⟨_, Nat.le_refl _⟩
  induction m generalizing l with
  | zero => rw [List.length_eq_zero_iff.1 (Nat.le_zero.1 hm)]; exact h0
  | succ m ih =>
    by_cases hl : l = []
    · rw [hl]; exact h0
    · exact hs l hl (fun n h => ih _ (by have := step_skip h; rw [List.length_drop]; omega)) (fun kind n h => ih _ (by have := step_tok h; rw [List.length_drop]; omega))

end Lx
end Go.Proofs.YtnndgjnihhafbaaGreatDoor
