/-
  Files parsed, as plain data: the grammar, rule by rule, over rows of tokens.
-/
import Derived.Test.YtnndgjnihhafbaaGreatDoorTrMath
import Derived.Test.YtnndgjnihhafbaaGreatDoorLxMath
namespace Go.Proofs.YtnndgjnihhafbaaGreatDoor
namespace Ps
open Lx (Tok)

/-- What a rule ends with: nodes, and the tokens that are left; or the first fault. -/
inductive R where
  | ok (ts : List Tr) (l : List Tok)
  | bad (e at_ : Nat)

inductive Job where
  | bin (k : Nat)
  | more (k : Nat) (x : List Tr)
  | unary
  | suffix
  | idx (x : List Tr)
  | within (a b : List UInt8)
  | prime
  | call (name : List UInt8)
  | listed (param : Bool)
  | lst (param : Bool) (acc : List Tr)
  | param
  | array
  | stmt
  | named
  | block
  | blk (acc : List Tr)
  | func
  | file (acc : List Tr)

def hd (l : List Tok) : Tok := l.headD ⟨5, [], 0⟩
def sees (l : List Tok) (S : List (List UInt8)) : Bool := S.contains (hd l).text
def bad (e : Nat) (l : List Tok) : Option R := some (.bad e (hd l).at_)
/-- One behind the other. -/
def bnd : Option R → (List Tr → List Tok → Option R) → Option R
  | none, _ => none
  | some (.bad e a), _ => some (.bad e a)
  | some (.ok x l), f => f x l
/-- The next token must be this one. -/
def want (s : List UInt8) (l : List Tok) (f : List Tok → Option R) : Option R := if sees l [s] then f l.tail else bad 102 l
/-- The next token must be a name. -/
def name (l : List Tok) (f : List UInt8 → List Tok → Option R) : Option R := if (hd l).kind = 1 then f (hd l).text l.tail else bad 102 l
/-- The next token must be one of these, and opens a level. -/
def opn (S : List (List UInt8)) (l : List Tok) (lv : Nat) (f : List Tok → Option R) : Option R := if sees l S then if lv = 120 then bad 103 l else f l.tail else bad 102 l

def ops : Nat → List (List UInt8)
  | 0 => [[124, 124]]
  | 1 => [[38, 38]]
  | 2 => [[61, 61], [33, 61], [60], [60, 61], [62], [62, 61]]
  | 3 => [[43], [45]]
  | _ => [[42], [47], [37]]

def go : Nat → Job → List Tok → Nat → Option R
  | 0, _, _, _ => none
  | n + 1, .bin k, l, lv => if k = 5 then go n .unary l lv else bnd (go n (.bin (k + 1)) l lv) fun x l => go n (.more k x) l lv
  | n + 1, .more k x, l, lv => if sees l (ops k) then bnd (go n (.bin (k + 1)) l.tail lv) fun y l' => go n (.more k [.mk 24 (hd l).text 0 (x ++ y)]) l' lv else some (.ok x l)
  | n + 1, .unary, l, lv => if sees l [[45], [33]] then opn [[45], [33]] l lv fun l' => bnd (go n .unary l' (lv + 1)) fun x l'' => some (.ok [.mk 23 (hd l).text 0 x] l'') else go n .suffix l lv
  | n + 1, .suffix, l, lv => bnd (go n .prime l lv) fun x l => go n (.idx x) l lv
  | n + 1, .idx x, l, lv => if sees l [[91]] then bnd (go n (.within [91] [93]) l lv) fun y l => go n (.idx [.mk 26 [] 0 (x ++ y)]) l lv else some (.ok x l)
  | n + 1, .within a b, l, lv => opn [a] l lv fun l => bnd (go n (.bin 0) l (lv + 1)) fun x l => want b l fun l => some (.ok x l)
  | n + 1, .prime, l, lv =>
    if (hd l).kind = 3 then some (.ok [.mk 20 [] (Lx.val (hd l).text) []] l.tail)
    else if (hd l).kind = 1 then (if sees l.tail [[40]] then go n (.call (hd l).text) l.tail lv else some (.ok [.mk 22 (hd l).text 0 []] l.tail))
    else if (hd l).text = [116, 114, 117, 101] then some (.ok [.mk 21 [] 1 []] l.tail)
    else if (hd l).text = [102, 97, 108, 115, 101] then some (.ok [.mk 21 [] 0 []] l.tail)
    else if (hd l).text = [91] then go n .array l lv
    else if (hd l).text = [108, 101, 110] then bnd (go n (.within [40] [41]) l.tail lv) fun x l => some (.ok [.mk 28 [] 0 x] l)
    else if (hd l).text = [114, 101, 97, 100] then opn [[40]] l.tail lv fun l => want [41] l fun l => some (.ok [.mk 29 [] 0 []] l)
    else go n (.within [40] [41]) l lv
  | n + 1, .call s, l, lv => bnd (go n (.listed false) l lv) fun x l => some (.ok [.mk 25 s 0 x] l)
  | n + 1, .listed p, l, lv => opn [[40]] l lv fun l => if sees l [[41]] then want [41] l fun l => some (.ok [] l) else bnd (go n (if p then .param else .bin 0) l (lv + 1)) fun x l => go n (.lst p x) l (lv + 1)
  | n + 1, .lst p acc, l, lv => if sees l [[44]] then bnd (go n (if p then .param else .bin 0) l.tail lv) fun x l => go n (.lst p (acc ++ x)) l lv else want [41] l fun l => some (.ok acc l)
  | _ + 1, .param, l, _ => name l fun s l => some (.ok [.mk 4 s 0 []] l)
  | n + 1, .array, l, lv => opn [[91]] l lv fun l => bnd (go n (.bin 0) l (lv + 1)) fun x l => want [59] l fun l => bnd (go n (.bin 0) l (lv + 1)) fun y l => want [93] l fun l => some (.ok [.mk 27 [] 0 (x ++ y)] l)
  | n + 1, .stmt, l, lv =>
    if (hd l).text = [118, 97, 114] then want [118, 97, 114] l fun l => name l fun s l => want [61] l fun l => bnd (go n (.bin 0) l lv) fun x l => want [59] l fun l => some (.ok [.mk 6 s 0 x] l)
    else if (hd l).text = [105, 102] then want [105, 102] l fun l => bnd (go n (.bin 0) l lv) fun x l => bnd (go n .block l lv) fun y l =>
      if sees l [[101, 108, 115, 101]] then bnd (go n .block l.tail lv) fun z l => some (.ok [.mk 8 [] 0 (x ++ y ++ z)] l) else some (.ok [.mk 8 [] 0 (x ++ y ++ [.mk 5 [] 0 []])] l)
    else if (hd l).text = [119, 104, 105, 108, 101] then want [119, 104, 105, 108, 101] l fun l => bnd (go n (.bin 0) l lv) fun x l => bnd (go n .block l lv) fun y l => some (.ok [.mk 9 [] 0 (x ++ y)] l)
    else if (hd l).text = [114, 101, 116, 117, 114, 110] then bnd (go n (.bin 0) l.tail lv) fun x l => want [59] l fun l => some (.ok [.mk 10 [] 0 x] l)
    else if (hd l).text = [112, 114, 105, 110, 116] then bnd (go n (.bin 0) l.tail lv) fun x l => want [59] l fun l => some (.ok [.mk 11 [] 0 x] l)
    else if (hd l).text = [123] then go n .block l lv
    else go n .named l lv
  | n + 1, .named, l, lv => name l fun s l =>
    if sees l [[40]] then bnd (go n (.call s) l lv) fun x l => want [59] l fun l => some (.ok [.mk 12 [] 0 x] l)
    else if sees l [[91]] then bnd (go n (.within [91] [93]) l lv) fun y l => want [61] l fun l => bnd (go n (.bin 0) l lv) fun x l => want [59] l fun l => some (.ok [.mk 7 [] 0 (.mk 26 [] 0 (.mk 22 s 0 [] :: y) :: x)] l)
    else want [61] l fun l => bnd (go n (.bin 0) l lv) fun x l => want [59] l fun l => some (.ok [.mk 7 [] 0 (.mk 22 s 0 [] :: x)] l)
  | n + 1, .block, l, lv => opn [[123]] l lv fun l => bnd (go n (.blk []) l (lv + 1)) fun x l => some (.ok [.mk 5 [] 0 x] l)
  | n + 1, .blk acc, l, lv => if sees l [[125]] then want [125] l fun l => some (.ok acc l) else bnd (go n .stmt l lv) fun x l => go n (.blk (acc ++ x)) l lv
  | n + 1, .func, l, lv => want [102, 117, 110, 99] l fun l => name l fun s l => bnd (go n (.listed true) l lv) fun x l => bnd (go n .block l lv) fun y l => some (.ok [.mk 2 s 0 (.mk 3 [] 0 x :: y)] l)
  | n + 1, .file acc, l, lv => if (hd l).kind = 5 then some (.ok acc l) else bnd (go n .func l lv) fun x l => go n (.file (acc ++ x)) l lv

/-- More room changes nothing. -/
theorem bnd_up {a b : Option R} {f g : List Tr → List Tok → Option R} {r : R} (h1 : ∀ r, a = some r → b = some r) (h2 : ∀ x l r, f x l = some r → g x l = some r) (h : bnd a f = some r) : bnd b g = some r := by
  cases ha : a with
  | none => rw [ha] at h; cases h
  | some q =>
    rw [h1 q ha]
    rw [ha] at h
    cases q with
    | ok x l => exact h2 x l r h
    | bad e i => exact h
theorem want_up {s : List UInt8} {l : List Tok} {f g : List Tok → Option R} {r : R} (h2 : ∀ l r, f l = some r → g l = some r) (h : want s l f = some r) : want s l g = some r := by
  unfold want at h ⊢
  split
  · next hs => rw [if_pos hs] at h; exact h2 _ _ h
  · next hs => rw [if_neg hs] at h; exact h
theorem name_up {l : List Tok} {f g : List UInt8 → List Tok → Option R} {r : R} (h2 : ∀ s l r, f s l = some r → g s l = some r) (h : name l f = some r) : name l g = some r := by
  unfold name at h ⊢
  split
  · next hs => rw [if_pos hs] at h; exact h2 _ _ _ h
  · next hs => rw [if_neg hs] at h; exact h
theorem opn_up {S : List (List UInt8)} {l : List Tok} {lv : Nat} {f g : List Tok → Option R} {r : R} (h2 : ∀ l r, f l = some r → g l = some r) (h : opn S l lv f = some r) : opn S l lv g = some r := by
  unfold opn at h ⊢
  split
  · next hs =>
    rw [if_pos hs] at h
    split
    · next h5 => rw [if_pos h5] at h; exact h
    · next h5 => rw [if_neg h5] at h; exact h2 _ _ h
  · next hs => rw [if_neg hs] at h; exact h
theorem ite_up {c : Prop} [Decidable c] {a b a' b' : Option R} {r : R} (h1 : a = some r → a' = some r) (h2 : b = some r → b' = some r) (h : (if c then a else b) = some r) : (if c then a' else b') = some r := by
  split
  · next hs => rw [if_pos hs] at h; exact h1 h
  · next hs => rw [if_neg hs] at h; exact h2 h

theorem go_up : ∀ (n : Nat) (j : Job) (l : List Tok) (lv : Nat) (r : R), go n j l lv = some r → go (n + 1) j l lv = some r
  | 0, j, l, lv, r, h => by rw [go] at h; cases h
  | n + 1, j, l, lv, r, h => by
    have ih := go_up n
    cases j
    all_goals rw [go] at h ⊢
    all_goals repeat' first
      | exact h
      | (refine ite_up ?_ ?_ h; all_goals (clear h; intro h))
      | (refine bnd_up ?_ ?_ h; all_goals (clear h; intros; rename_i h))
      | (refine want_up ?_ h; clear h; intro _ _ h)
      | (refine name_up ?_ h; clear h; intro _ _ _ h)
      | (refine opn_up ?_ h; clear h; intro _ _ h)
      | exact ih _ _ _ _ h
theorem go_le {n m : Nat} {j : Job} {l : List Tok} {lv : Nat} {r : R} (h : n ≤ m) (e : go n j l lv = some r) : go m j l lv = some r := by
  induction h with
  | refl => exact e
  | step _ ih => exact go_up _ _ _ _ _ ih

/-- The rule ends so. -/
def Eats (j : Job) (l : List Tok) (lv : Nat) (r : R) : Prop := ∃ n, go n j l lv = some r
theorem Eats.one {j : Job} {l : List Tok} {lv : Nat} {r q : R} (h : Eats j l lv r) (k : Eats j l lv q) : r = q := by
  obtain ⟨n, h⟩ := h
  obtain ⟨m, k⟩ := k
  have h1 := go_le (Nat.le_max_left n m) h
  have h2 := go_le (Nat.le_max_right n m) k
  rw [h1] at h2
  exact Option.some.inj h2
end Ps
end Go.Proofs.YtnndgjnihhafbaaGreatDoor
