/-
  Several texts in one, as they are: PsMore, PsSim, PsSuf, PsSim2, PsTwo, PsRowMath, PsSize.
-/
import Derived.Test.YtnndgjnihhafbaaGreatDoorPsMath
import Derived.Test.YtnndgjnihhafbaaGreatDoorLexAll

/-
  The parser's faults: their codes, and where they may stand; the three texts that are read to see that it is awake.
-/
namespace Go.Proofs.YtnndgjnihhafbaaGreatDoor
namespace Ps

def AtMost (n : Nat) (l : List Lx.Tok) : Prop := ∀ t ∈ l, t.at_ ≤ n
theorem AtMost.tail {n : Nat} {l : List Lx.Tok} (h : AtMost n l) : AtMost n l.tail := fun t ht => h t (List.mem_of_mem_tail ht)
theorem AtMost.hd {n : Nat} {l : List Lx.Tok} (h : AtMost n l) : (hd l).at_ ≤ n := by
  cases l with
  | nil => exact Nat.zero_le _
  | cons t r => exact h t (by simp)
/-- A fault is a known one, and stands at a token; else what is left are tokens of before. -/
def Good (n : Nat) : R → Prop
  | .ok _ l => AtMost n l
  | .bad e i => (e = 102 ∨ e = 103) ∧ i ≤ n
theorem bad_good {n e : Nat} {l : List Lx.Tok} {r : R} (hl : AtMost n l) (he : e = 102 ∨ e = 103) (h : bad e l = some r) : Good n r := by
  cases h; exact ⟨he, hl.hd⟩
theorem bnd_good {n : Nat} {a : Option R} {f : List Tr → List Lx.Tok → Option R} {r : R} (h1 : ∀ r, a = some r → Good n r) (h2 : ∀ x l r, AtMost n l → f x l = some r → Good n r) (h : bnd a f = some r) : Good n r := by
  cases ha : a with
  | none => rw [ha] at h; cases h
  | some q =>
    have hq := h1 q ha
    rw [ha] at h
    cases q with
    | ok x l => exact h2 x l r hq h
    | bad e i => cases h; exact hq
theorem want_good {n : Nat} {s : List UInt8} {l : List Lx.Tok} {f : List Lx.Tok → Option R} {r : R} (hl : AtMost n l) (h2 : ∀ l r, AtMost n l → f l = some r → Good n r) (h : want s l f = some r) : Good n r := by
  unfold want at h
  split at h
  · exact h2 _ _ hl.tail h
  · exact bad_good hl (.inl rfl) h
theorem name_good {n : Nat} {l : List Lx.Tok} {f : List UInt8 → List Lx.Tok → Option R} {r : R} (hl : AtMost n l) (h2 : ∀ s l r, AtMost n l → f s l = some r → Good n r) (h : name l f = some r) : Good n r := by
  unfold name at h
  split at h
  · exact h2 _ _ _ hl.tail h
  · exact bad_good hl (.inl rfl) h
theorem opn_good {n : Nat} {S : List (List UInt8)} {l : List Lx.Tok} {lv : Nat} {f : List Lx.Tok → Option R} {r : R} (hl : AtMost n l) (h2 : ∀ l r, AtMost n l → f l = some r → Good n r) (h : opn S l lv f = some r) : Good n r := by
  unfold opn at h
  split at h
  · split at h
    · exact bad_good hl (.inr rfl) h
    · exact h2 _ _ hl.tail h
  · exact bad_good hl (.inl rfl) h
theorem ok_good {n : Nat} {x : List Tr} {l : List Lx.Tok} {r : R} (hl : AtMost n l) (h : some (R.ok x l) = some r) : Good n r := by
  cases h; exact hl
theorem ite_good {n : Nat} {c : Prop} [Decidable c] {a b : Option R} {r : R} (h1 : a = some r → Good n r) (h2 : b = some r → Good n r) (h : (if c then a else b) = some r) : Good n r := by
  split at h
  · exact h1 h
  · exact h2 h

theorem go_good (n : Nat) : ∀ (f : Nat) (j : Job) (l : List Lx.Tok) (lv : Nat) (r : R), AtMost n l → go f j l lv = some r → Good n r
  | 0, j, l, lv, r, _, h => by rw [go] at h; cases h
  | f + 1, j, l, lv, r, hl, h => by
    have ih := go_good n f
    cases j
    all_goals rw [go] at h
    all_goals repeat' first
      | exact ok_good hl h
      | exact bad_good hl (.inl rfl) h
      | exact bad_good hl (.inr rfl) h
      | exact bad_good hl.tail (.inl rfl) h
      | exact bad_good hl.tail (.inr rfl) h
      | exact ok_good hl.tail h
      | exact ih _ _ _ _ hl h
      | exact ih _ _ _ _ hl.tail h
      | (refine want_good hl ?_ h; clear h; intro _ _ hl h)
      | (refine name_good hl ?_ h; clear h; intro _ _ _ hl h)
      | (refine opn_good hl ?_ h; clear h; intro _ _ hl h)
      | (refine opn_good hl.tail ?_ h; clear h; intro _ _ hl h)
      | (refine bnd_good (fun _ h => ih _ _ _ _ hl h) ?_ h; clear h; intro _ _ _ hl h)
      | (refine bnd_good (fun _ h => ih _ _ _ _ hl.tail h) ?_ h; clear h; intro _ _ _ hl h)
      | (refine ite_good ?_ ?_ h; all_goals (clear h; intro h))
theorem Eats.good {n : Nat} {j : Job} {l : List Lx.Tok} {lv : Nat} {r : R} (h : Eats j l lv r) (hl : AtMost n l) : Good n r := by
  obtain ⟨f, h⟩ := h
  exact go_good n f j l lv r hl h
theorem lex_atMost {s : List UInt8} {ts : List Lx.Tok} (h : Lx.lex s = .ok ts) : AtMost s.length (ts ++ [⟨5, [], s.length⟩]) := by
  intro t ht
  rcases List.mem_append.1 ht with ht | ht
  · have := ((Lx.lex_told h).there t ht).1; omega
  · rw [List.mem_singleton.1 ht]; exact Nat.le_refl _
end Ps
end Go.Proofs.YtnndgjnihhafbaaGreatDoor

/-
  What stands behind a rule's tokens plays no part: the grammar over rows that end otherwise.
-/
namespace Go.Proofs.YtnndgjnihhafbaaGreatDoor
namespace Ps

/-- What is left is no longer. -/
def Le (l : List Lx.Tok) (o : Option R) : Prop := ∀ x r, o = some (.ok x r) → r.length ≤ l.length
/-- What is left is shorter. -/
def Lt (l : List Lx.Tok) (o : Option R) : Prop := ∀ x r, o = some (.ok x r) → r.length < l.length
theorem Le.tail {l : List Lx.Tok} {o : Option R} (h : Le l.tail o) : Le l o := fun x r e => by have := h x r e; rw [List.length_tail] at this; omega
theorem Lt.tail {l : List Lx.Tok} {o : Option R} (h : Lt l.tail o) : Lt l o := fun x r e => by have := h x r e; rw [List.length_tail] at this; omega
/-- The rule's own texts are none that is empty. -/
def Fit : Job → Prop
  | .within a b => [] ∉ [a] ∧ [] ∉ [b]
  | _ => True
theorem ops_ne : ∀ k, [] ∉ ops k
  | 0 => by decide
  | 1 => by decide
  | 2 => by decide
  | 3 => by decide
  | _ + 4 => by show [] ∉ [[42], [47], [37]]; decide

end Ps
end Go.Proofs.YtnndgjnihhafbaaGreatDoor

/-
  What a rule leaves is an end of what it was given; rules taken apart, and put together.
-/
namespace Go.Proofs.YtnndgjnihhafbaaGreatDoor
namespace Ps

def Sf (l : List Lx.Tok) (o : Option R) : Prop := ∀ x r, o = some (.ok x r) → r <:+ l
theorem Sf.tail {l : List Lx.Tok} {o : Option R} (h : Sf l.tail o) : Sf l o := fun x r e => (h x r e).trans (List.tail_suffix l)
theorem want_yes {l : List Lx.Tok} {s : List UInt8} {f : List Lx.Tok → Option R} (h : sees l [s] = true) : want s l f = f l.tail := if_pos h
theorem opn_yes {l : List Lx.Tok} {S : List (List UInt8)} {lv : Nat} {f : List Lx.Tok → Option R} (h : sees l S = true) (hv : lv ≠ 120) : opn S l lv f = f l.tail := by
  unfold opn; rw [if_pos h, if_neg hv]
section
variable {l l1 l2 : List Lx.Tok} {lv k : Nat} {x y : List Tr} {r : R} {a b s : List UInt8}
theorem Eats.bin (hk : k ≠ 5) (h1 : Eats (.bin (k + 1)) l lv (.ok x l1)) (h2 : Eats (.more k x) l1 lv r) : Eats (.bin k) l lv r := by
  obtain ⟨n, h1⟩ := h1
  obtain ⟨m, h2⟩ := h2
  refine ⟨max n m + 1, ?_⟩
  rw [go, if_neg hk, go_le (Nat.le_max_left n m) h1]
  exact go_le (Nat.le_max_right n m) h2
theorem Eats.more (h : sees l (ops k) = true) (h1 : Eats (.bin (k + 1)) l.tail lv (.ok y l1)) (h2 : Eats (.more k [.mk 24 (hd l).text 0 (x ++ y)]) l1 lv r) : Eats (.more k x) l lv r := by
  obtain ⟨n, h1⟩ := h1
  obtain ⟨m, h2⟩ := h2
  refine ⟨max n m + 1, ?_⟩
  rw [go, if_pos h, go_le (Nat.le_max_left n m) h1]
  exact go_le (Nat.le_max_right n m) h2
theorem Eats.unary (hs : sees l [[45], [33]] = true) (hv : lv ≠ 120) (h : Eats .unary l.tail (lv + 1) (.ok x l1)) : Eats .unary l lv (.ok [.mk 23 (hd l).text 0 x] l1) := by
  obtain ⟨n, h⟩ := h
  exact ⟨n + 1, by rw [go, if_pos hs, opn_yes hs hv, h]; rfl⟩
theorem Eats.suffix (h1 : Eats .prime l lv (.ok x l1)) (h2 : Eats (.idx x) l1 lv r) : Eats .suffix l lv r := by
  obtain ⟨n, h1⟩ := h1
  obtain ⟨m, h2⟩ := h2
  refine ⟨max n m + 1, ?_⟩
  rw [go, go_le (Nat.le_max_left n m) h1]
  exact go_le (Nat.le_max_right n m) h2
theorem Eats.idx (h : sees l [[91]] = true) (h1 : Eats (.within [91] [93]) l lv (.ok y l1)) (h2 : Eats (.idx [.mk 26 [] 0 (x ++ y)]) l1 lv r) : Eats (.idx x) l lv r := by
  obtain ⟨n, h1⟩ := h1
  obtain ⟨m, h2⟩ := h2
  refine ⟨max n m + 1, ?_⟩
  rw [go, if_pos h, go_le (Nat.le_max_left n m) h1]
  exact go_le (Nat.le_max_right n m) h2
theorem Eats.within (h : sees l [a] = true) (hv : lv ≠ 120) (h1 : Eats (.bin 0) l.tail (lv + 1) (.ok x l1)) (h2 : sees l1 [b] = true) : Eats (.within a b) l lv (.ok x l1.tail) := by
  obtain ⟨n, h1⟩ := h1
  exact ⟨n + 1, by rw [go, opn_yes h hv, h1]; simp only [bnd]; exact want_yes h2⟩
end
end Ps
end Go.Proofs.YtnndgjnihhafbaaGreatDoor

/-
  What stands behind a rule's tokens plays no part: other tokens of the same kinds and texts, another end behind them.
-/
namespace Go.Proofs.YtnndgjnihhafbaaGreatDoor
namespace Ps

/-- The texts that open a level. -/
def openers : List (List UInt8) := [[40], [91], [123], [45], [33]]
def opens (a : List Lx.Tok) : Nat := a.countP (fun t => openers.contains t.text)
def kt (t : Lx.Tok) : Nat × List UInt8 := (t.kind, t.text)

/-- Tokens ahead of T, and the same ones ahead of T2. -/
def Al (T T2 : List Lx.Tok) (s lv : Nat) (l l2 : List Lx.Tok) : Prop := ∃ a a2, l = a ++ T ∧ l2 = a2 ++ T2 ∧ a.map kt = a2.map kt ∧ (s = 0 ∨ opens a + lv + s ≤ 119)
section
variable {T T2 : List Lx.Tok} {s lv D : Nat} {l l2 : List Lx.Tok}

theorem Al.len (h : Al T T2 s lv l l2) : T.length ≤ l.length := by
  obtain ⟨a, a2, rfl, -, -, -⟩ := h
  simp
/-- At the edge, or at a token. -/
theorem Al.step (h : Al T T2 s lv l l2) : (l = T ∧ l2 = T2 ∧ Al T T2 s lv T T2) ∨ ((hd l).kind = (hd l2).kind ∧ (hd l).text = (hd l2).text ∧ Al T T2 s lv l.tail l2.tail ∧ (openers.contains (hd l).text = true → Al T T2 s (lv + 1) l.tail l2.tail ∧ (s = 0 ∨ lv + s ≤ 118))) := by
  obtain ⟨a, a2, rfl, rfl, h3, h4⟩ := h
  cases a with
  | nil =>
    have : a2 = [] := by simpa using h3.symm
    subst this
    exact .inl ⟨rfl, rfl, [], [], rfl, rfl, rfl, h4⟩
  | cons t a =>
    cases a2 with
    | nil => simp at h3
    | cons t2 a2 =>
      simp only [List.map_cons, List.cons.injEq] at h3
      obtain ⟨e1, e2⟩ := h3
      have k1 : t.kind = t2.kind := congrArg Prod.fst e1
      have k2 : t.text = t2.text := congrArg Prod.snd e1
      have ho : opens a ≤ opens (t :: a) := by unfold opens; rw [List.countP_cons]; omega
      refine .inr ⟨k1, k2, ⟨a, a2, rfl, rfl, e2, h4.imp id (fun h => by omega)⟩, fun hc => ?_⟩
      have ho2 : opens (t :: a) = opens a + 1 := by
        unfold opens; rw [List.countP_cons]
        have : (openers.contains t.text) = true := hc
        rw [this]; rfl
      exact ⟨⟨a, a2, rfl, rfl, e2, h4.imp id (fun h => by omega)⟩, h4.imp id (fun h => by omega)⟩
end

end Ps
end Go.Proofs.YtnndgjnihhafbaaGreatDoor

/-
  Where tokens stand plays no part: the same tokens at other places are the same nodes, a fault is at the same one.
-/
namespace Go.Proofs.YtnndgjnihhafbaaGreatDoor
namespace Ps

/-- The same tokens at other places, up to the end. -/
def Two (P : Nat → Nat → Prop) : List Lx.Tok → List Lx.Tok → Prop
  | [], _ => False
  | _ :: _, [] => False
  | t :: r, u :: q => (t.kind = u.kind ∧ t.text = u.text ∧ P t.at_ u.at_) ∧ ((t.kind = 5 ∧ t.text = [] ∧ r = [] ∧ q = []) ∨ Two P r q)
/-- They end alike. -/
def RTwo (P : Nat → Nat → Prop) : Option R → Option R → Prop
  | none, none => True
  | some (.ok x l), some (.ok y q) => x = y ∧ Two P l q
  | some (.bad e i), some (.bad f j) => e = f ∧ P i j
  | _, _ => False
section
variable {P : Nat → Nat → Prop} {l l2 : List Lx.Tok}
theorem Two.hd (h : Two P l l2) : (hd l).kind = (hd l2).kind ∧ (hd l).text = (hd l2).text ∧ P (hd l).at_ (hd l2).at_ := by
  cases l with
  | nil => exact h.elim
  | cons t r => cases l2 with
    | nil => exact h.elim
    | cons u q => exact h.1
theorem Two.tail (h : Two P l l2) (hn : (Ps.hd l).kind ≠ 5 ∨ (Ps.hd l).text ≠ []) : Two P l.tail l2.tail := by
  cases l with
  | nil => exact h.elim
  | cons t r => cases l2 with
    | nil => exact h.elim
    | cons u q =>
      rcases h.2 with ⟨h1, h2, -⟩ | h2
      · exact (hn.elim (absurd h1) (absurd h2))
      · exact h2
theorem Two.sees (h : Two P l l2) (S : List (List UInt8)) : sees l2 S = sees l S := by unfold Ps.sees; rw [h.hd.2.1]
theorem Two.seen (h : Two P l l2) {S : List (List UInt8)} (hs : Ps.sees l S = true) (hS : [] ∉ S) : Two P l.tail l2.tail :=
  h.tail (.inr (fun e => hS (by unfold Ps.sees at hs; rw [e, List.contains_iff_mem] at hs; exact hs)))
theorem ok_two {x : List Tr} (h : Two P l l2) : RTwo P (some (.ok x l)) (some (.ok x l2)) := ⟨rfl, h⟩
theorem bad_two {e : Nat} (h : Two P l l2) : RTwo P (bad e l) (bad e l2) := ⟨rfl, h.hd.2.2⟩
theorem bnd_two {A A2 : Option R} {f f2 : List Tr → List Lx.Tok → Option R} (h1 : RTwo P A A2) (h2 : ∀ x l l2, Two P l l2 → RTwo P (f x l) (f2 x l2)) : RTwo P (bnd A f) (bnd A2 f2) := by
  cases A with
  | none => cases A2 with
    | none => trivial
    | some q => exact h1.elim
  | some q => cases A2 with
    | none => cases q <;> exact h1.elim
    | some q2 => cases q with
      | ok x l => cases q2 with
        | ok y l2 =>
          obtain ⟨rfl, h⟩ := h1
          exact h2 _ _ _ h
        | bad e i => exact h1.elim
      | bad e i => cases q2 with
        | ok y l2 => exact h1.elim
        | bad f j => exact h1
theorem want_two {t : List UInt8} {f f2 : List Lx.Tok → Option R} (h : Two P l l2) (ht : [] ∉ [t]) (h2 : ∀ l l2, Two P l l2 → RTwo P (f l) (f2 l2)) : RTwo P (want t l f) (want t l2 f2) := by
  unfold want
  rw [h.sees]
  split
  · next hs => exact h2 _ _ (h.seen hs ht)
  · exact bad_two h
theorem name_two {f f2 : List UInt8 → List Lx.Tok → Option R} (h : Two P l l2) (h2 : ∀ t l l2, Two P l l2 → RTwo P (f t l) (f2 t l2)) : RTwo P (name l f) (name l2 f2) := by
  unfold name
  rw [← h.hd.1, ← h.hd.2.1]
  split
  · next hs => exact h2 _ _ _ (h.tail (.inl (by omega)))
  · exact bad_two h
theorem opn_two {S : List (List UInt8)} {lv : Nat} {f f2 : List Lx.Tok → Option R} (h : Two P l l2) (hS : [] ∉ S) (h2 : ∀ l l2, Two P l l2 → RTwo P (f l) (f2 l2)) : RTwo P (opn S l lv f) (opn S l2 lv f2) := by
  unfold opn
  rw [h.sees]
  split
  · next hs =>
    split
    · exact bad_two h
    · exact h2 _ _ (h.seen hs hS)
  · exact bad_two h
theorem sees_two {S : List (List UInt8)} {A B A2 B2 : Option R} (h : Two P l l2) (hS : [] ∉ S) (h1 : Two P l.tail l2.tail → RTwo P A A2) (h2 : RTwo P B B2) : RTwo P (if sees l S then A else B) (if sees l2 S then A2 else B2) := by
  rw [h.sees]
  split
  · next hs => exact h1 (h.seen hs hS)
  · exact h2
theorem ite_two {c c2 : Prop} [Decidable c] [Decidable c2] {A B A2 B2 : Option R} (hc : c ↔ c2) (h1 : c → RTwo P A A2) (h2 : ¬ c → RTwo P B B2) : RTwo P (if c then A else B) (if c2 then A2 else B2) := by
  by_cases h : c
  · rw [if_pos h, if_pos (hc.1 h)]; exact h1 h
  · rw [if_neg h, if_neg (fun k => h (hc.2 k))]; exact h2 h
end

set_option maxHeartbeats 8000000 in
theorem go_two {P : Nat → Nat → Prop} : ∀ (n : Nat) (j : Job) (l l2 : List Lx.Tok) (lv : Nat), Fit j → Two P l l2 → RTwo P (go n j l lv) (go n j l2 lv)
  | 0, j, l, l2, lv, _, _ => by rw [go, go]; trivial
  | n + 1, j, l, l2, lv, hF, h => by
    have ih := go_two (P := P) n
    obtain ⟨hk, ht, -⟩ := h.hd
    cases j
    case within a b =>
      rw [go, go]
      exact opn_two h hF.1 fun _ _ h => bnd_two (ih _ _ _ _ trivial h) fun _ _ _ h => want_two h hF.2 fun _ _ h => ok_two h
    case prime =>
      rw [go, go]
      rw [← hk, ← ht]
      refine ite_two Iff.rfl (fun e => ok_two (h.tail (.inl (by omega)))) fun _ => ite_two Iff.rfl (fun e => ?_) fun _ => ite_two Iff.rfl (fun e => ok_two (h.tail (.inr (by rw [e]; decide)))) fun _ => ite_two Iff.rfl (fun e => ok_two (h.tail (.inr (by rw [e]; decide)))) fun _ => ite_two Iff.rfl (fun e => ih _ _ _ _ trivial h) fun _ => ite_two Iff.rfl (fun e => bnd_two (ih _ _ _ _ ⟨by decide, by decide⟩ (h.tail (.inr (by rw [e]; decide)))) fun _ _ _ h => ok_two h) fun _ => ite_two Iff.rfl (fun e => opn_two (h.tail (.inr (by rw [e]; decide))) (by decide) fun _ _ h => want_two h (by decide) fun _ _ h => ok_two h) fun _ => ih _ _ _ _ ⟨by decide, by decide⟩ h
      have h2 := h.tail (.inl (by omega))
      exact sees_two h2 (by decide) (fun _ => ih _ _ _ _ trivial h2) (ok_two h2)
    case stmt =>
      rw [go, go]
      rw [← ht]
      have tl : ∀ s, s ≠ [] → (hd l).text = s → Two P l.tail l2.tail := fun s hs e => h.tail (.inr (by rw [e]; exact hs))
      refine ite_two Iff.rfl (fun e => ?_) fun _ => ite_two Iff.rfl (fun e => ?_) fun _ => ite_two Iff.rfl (fun e => ?_) fun _ => ite_two Iff.rfl (fun e => ?_) fun _ => ite_two Iff.rfl (fun e => ?_) fun _ => ite_two Iff.rfl (fun e => ?_) fun _ => ?_
      · exact want_two h (by decide) fun _ _ h => name_two h fun _ _ _ h => want_two h (by decide) fun _ _ h => bnd_two (ih _ _ _ _ trivial h) fun _ _ _ h => want_two h (by decide) fun _ _ h => ok_two h
      · exact want_two h (by decide) fun _ _ h => bnd_two (ih _ _ _ _ trivial h) fun _ _ _ h => bnd_two (ih _ _ _ _ trivial h) fun _ _ _ h => sees_two h (by decide) (fun h => bnd_two (ih _ _ _ _ trivial h) fun _ _ _ h => ok_two h) (ok_two h)
      · exact want_two h (by decide) fun _ _ h => bnd_two (ih _ _ _ _ trivial h) fun _ _ _ h => bnd_two (ih _ _ _ _ trivial h) fun _ _ _ h => ok_two h
      · exact bnd_two (ih _ _ _ _ trivial (tl _ (by decide) e)) fun _ _ _ h => want_two h (by decide) fun _ _ h => ok_two h
      · exact bnd_two (ih _ _ _ _ trivial (tl _ (by decide) e)) fun _ _ _ h => want_two h (by decide) fun _ _ h => ok_two h
      · exact ih _ _ _ _ trivial h
      · exact ih _ _ _ _ trivial h
    case more k x =>
      rw [go, go]
      refine sees_two h (ops_ne k) (fun h => ?_) (ok_two h)
      rw [← ht]
      exact bnd_two (ih _ _ _ _ trivial h) fun _ _ _ h => ih _ _ _ _ trivial h
    case unary =>
      rw [go, go]
      refine sees_two h (by decide) (fun _ => ?_) (ih _ _ _ _ trivial h)
      rw [← ht]
      exact opn_two h (by decide) fun _ _ h => bnd_two (ih _ _ _ _ trivial h) fun _ _ _ h => ok_two h
    case file acc =>
      rw [go, go]
      rw [← hk]
      exact ite_two Iff.rfl (fun _ => ok_two h) fun _ => bnd_two (ih _ _ _ _ trivial h) fun _ _ _ h => ih _ _ _ _ trivial h
    all_goals
      rw [go, go]
      repeat' first
        | exact trivial
        | exact ⟨by decide, by decide⟩
        | assumption
        | exact ok_two (by assumption)
        | exact bad_two (by assumption)
        | refine opn_two (by assumption) (by decide) (fun _ _ _ => ?_)
        | refine want_two (by assumption) (by decide) (fun _ _ _ => ?_)
        | refine name_two (by assumption) (fun _ _ _ _ => ?_)
        | refine bnd_two ?_ (fun _ _ _ _ => ?_)
        | refine ih _ _ _ _ ?_ (by assumption)
        | refine sees_two (by assumption) (by decide) (fun _ => ?_) ?_
        | (show Fit (if _ then _ else _); split <;> trivial)
        | refine ite_two Iff.rfl (fun _ => ?_) (fun _ => ?_)
theorem Eats.two {P : Nat → Nat → Prop} {j : Job} {l l2 : List Lx.Tok} {lv : Nat} {r : R} (h : Eats j l lv r) (hF : Fit j) (ht : Two P l l2) : ∃ r2, Eats j l2 lv r2 ∧ RTwo P (some r) (some r2) := by
  obtain ⟨n, h⟩ := h
  have := go_two n j l l2 lv hF ht
  rw [h] at this
  cases h2 : go n j l2 lv with
  | none => rw [h2] at this; cases r <;> exact this.elim
  | some r2 => rw [h2] at this; exact ⟨r2, ⟨n, h2⟩, this⟩
end Ps
end Go.Proofs.YtnndgjnihhafbaaGreatDoor

/-
  Two files, one behind the other; brackets around an expression: what the grammar tells.
-/
namespace Go.Proofs.YtnndgjnihhafbaaGreatDoor
namespace Ps

end Ps
end Go.Proofs.YtnndgjnihhafbaaGreatDoor

/-
  A tree that is parsed has few nodes.
-/
namespace Go.Proofs.YtnndgjnihhafbaaGreatDoor
namespace Ps
open Tr (sizes)

end Ps
end Go.Proofs.YtnndgjnihhafbaaGreatDoor
