/-
  Names of a file as plain data: nodes are gone through in preorder, with scopes; what is declared and used, or the first fault.
-/
import Derived.Test.YtnndgjnihhafbaaGreatDoorTrMath
namespace Go.Proofs.YtnndgjnihhafbaaGreatDoor
namespace Bn

/-- A binder, with the uses that were met so far. -/
structure Bd where
  path : List Nat
  name : List UInt8
  uses : List (List Nat)
  params : Nat

/-- Names, and the numbers of the binders that they stand for; what was put last stands first. -/
abbrev Sc := List (List UInt8 × Nat)
def find : Sc → List UInt8 → Option Nat
  | [], _ => none
  | x :: r, q => if x.1 = q then some x.2 else find r q

/-- How far it has come: the Funcs, all binders in the order in which they were made, the scopes (innermost first), those that were met. -/
structure St where
  fns : Sc
  bds : List Bd
  own : List Sc
  met : List Nat

/-- What is done behind a node's Kids. -/
inductive After where
  | nothing
  | out
  | declare (b : Nat)

def variable_ : List Sc → List UInt8 → Option Nat
  | [], _ => none
  | m :: r, q => match find m q with
    | some b => some b
    | none => variable_ r q
def addUse : List Bd → Nat → List Nat → List Bd
  | [], _, _ => []
  | d :: r, 0, p => { d with uses := d.uses ++ [p] } :: r
  | d :: r, b + 1, p => d :: addUse r b p
def St.use (s : St) (b : Nat) (p : List Nat) : St := { s with bds := addUse s.bds b p }
def St.paramsOf (s : St) (b : Nat) : Nat := match s.bds[b]? with | some d => d.params | none => 0
def St.nameOf (s : St) (b : Nat) : List UInt8 := match s.bds[b]? with | some d => d.name | none => []
def declared : List Sc → List UInt8 → Nat → List Sc
  | [], _, _ => []
  | m :: r, q, b => ((q, b) :: m) :: r
/-- How many Params a Func has. -/
def params (t : Tr) : Nat := match t.kids with | x :: _ => x.kids.length | [] => 0

/-- What is done at a node ahead of its Kids, all Funcs first. -/
def look1 (t : Tr) (p : List Nat) (s : St) : Except Nat (St × After) :=
  if t.k = 2 then
    match find s.fns t.t with
    | some _ => .error 110
    | none => .ok ({ s with fns := (t.t, s.bds.length) :: s.fns, bds := s.bds ++ [⟨p, t.t, [], params t⟩] }, .nothing)
  else .ok (s, .nothing)
/-- What is done at a node ahead of its Kids. -/
def look2 (t : Tr) (p : List Nat) (s : St) : Except Nat (St × After) :=
  if t.k = 2 then
    match find s.fns t.t with
    | none => .error 111
    | some b => .ok ({ s with met := s.met ++ [b], own := [] :: s.own }, .out)
  else if t.k = 5 then .ok ({ s with own := [] :: s.own }, .out)
  else if t.k = 4 ∨ t.k = 6 then
    match find (s.own.headD []) t.t with
    | some _ => .error 110
    | none => .ok ({ s with bds := s.bds ++ [⟨p, t.t, [], 0⟩], met := s.met ++ [s.bds.length] }, .declare s.bds.length)
  else if t.k = 22 then
    match variable_ s.own t.t with
    | none => .error 111
    | some b => .ok (s.use b p, .nothing)
  else if t.k = 25 then
    match find s.fns t.t with
    | none => .error 111
    | some b => if t.kids.length ≠ s.paramsOf b then .error 112 else .ok (s.use b p, .nothing)
  else .ok (s, .nothing)
def behind : After → St → St
  | .nothing, s => s
  | .out, s => { s with own := s.own.tail }
  | .declare b, s => { s with own := declared s.own (s.nameOf b) b }

section
variable (look : Tr → List Nat → St → Except Nat (St × After))
mutual
/-- A node is looked at, and all that is in it: how far it has come, and how many nodes there were; or an error, and at which one. -/
def visit : Tr → List Nat → Nat → St → Except (Nat × Nat) (St × Nat)
  | .mk k t n l, p, i, s =>
    match look (.mk k t n l) p s with
    | .error e => .error (e, i)
    | .ok (s1, a) =>
      match visits l 0 p (i + 1) s1 with
      | .error f => .error f
      | .ok (s2, j) => .ok (behind a s2, j)
def visits : List Tr → Nat → List Nat → Nat → St → Except (Nat × Nat) (St × Nat)
  | [], _, _, i, s => .ok (s, i)
  | x :: r, c, p, i, s =>
    match visit x (p ++ [c]) i s with
    | .error f => .error f
    | .ok (s1, j) => visits r (c + 1) p j s1
end
end

/-- All of a right file. -/
def file (t : Tr) : Except (Nat × Nat) St :=
  match visit look1 t [] 0 ⟨[], [], [[]], []⟩ with
  | .error f => .error f
  | .ok (s, _) =>
    match visit look2 t [] 0 s with
    | .error f => .error f
    | .ok (s2, _) => .ok s2
/-- What is told of it. -/
def bound (t : Tr) : Except (Nat × Nat) (List Bd) :=
  if t.k = 1 ∧ Tr.right 40 t = true then
    match file t with
    | .error f => .error f
    | .ok s => .ok (s.met.filterMap (s.bds[·]?))
  else .error (4, 0)

theorem visit_eq (look : Tr → List Nat → St → Except Nat (St × After)) (t : Tr) (p : List Nat) (i : Nat) (s : St) :
    visit look t p i s = match look t p s with
      | .error e => .error (e, i)
      | .ok (s1, a) => match visits look t.kids 0 p (i + 1) s1 with
        | .error f => .error f
        | .ok (s2, j) => .ok (behind a s2, j) := by
  cases t; rw [visit]; rfl
theorem visits_nil (look : Tr → List Nat → St → Except Nat (St × After)) (c : Nat) (p : List Nat) (i : Nat) (s : St) : visits look [] c p i s = .ok (s, i) := by rw [visits]
theorem visits_cons (look : Tr → List Nat → St → Except Nat (St × After)) (x : Tr) (r : List Tr) (c : Nat) (p : List Nat) (i : Nat) (s : St) :
    visits look (x :: r) c p i s = match visit look x (p ++ [c]) i s with
      | .error f => .error f
      | .ok (s1, j) => visits look r (c + 1) p j s1 := by rw [visits]
end Bn
end Go.Proofs.YtnndgjnihhafbaaGreatDoor
