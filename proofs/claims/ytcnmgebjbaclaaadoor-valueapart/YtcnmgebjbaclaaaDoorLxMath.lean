/-
  Chapter 5 as plain lists: bytes of a program as tokens; what follows of it.
-/
namespace Go.Proofs.YtcnmgebjbaclaaaDoor
namespace Lx

def letterI (c : Int) : Bool := decide (97 ≤ c) && decide (c ≤ 122) || decide (65 ≤ c) && decide (c ≤ 90) || c == 95
def digitI (c : Int) : Bool := decide (48 ≤ c) && decide (c ≤ 57)
def ldI (c : Int) : Bool := letterI c || digitI c
def blankI (c : Int) : Bool := c == 32 || c == 9 || c == 10 || c == 13
def inLineI (c : Int) : Bool := c != 10
/-- A sort of bytes, out of one of ints. -/
def of (p : Int → Bool) (b : UInt8) : Bool := p (b.toNat : Int)
/-- How many bytes of the sort stand in front. -/
def lead (p : Int → Bool) (l : List UInt8) : Nat := (l.takeWhile (of p)).length

def words : List (List UInt8) := [[102, 117, 110, 99], [118, 97, 114], [105, 102], [101, 108, 115, 101], [119, 104, 105, 108, 101], [114, 101, 116, 117, 114, 110], [112, 114, 105, 110, 116], [116, 114, 117, 101], [102, 97, 108, 115, 101], [108, 101, 110], [114, 101, 97, 100]]
def signs : List (List UInt8) := [[61, 61], [33, 61], [60, 61], [62, 61], [38, 38], [124, 124], [40], [41], [123], [125], [91], [93], [44], [59], [61], [60], [62], [43], [45], [42], [47], [37], [33]]

/-- A name, or one of the words. -/
def spelled (l : List UInt8) : Bool := decide (l.length ≤ 24) && (match l with | [] => false | b :: _ => letterI (b.toNat : Int)) && decide (lead ldI l = l.length)
def isWord (l : List UInt8) : Bool := words.contains l
def isName (l : List UInt8) : Bool := spelled l && !isWord l

/-- What digits say. -/
def val (l : List UInt8) : Nat := l.foldl (fun n b => 10 * n + (b.toNat - 48)) 0
def noZero : List UInt8 → Bool
  | b :: _ :: _ => b != 48
  | _ => true
def isInt (l : List UInt8) : Bool := decide (l ≠ []) && noZero l && decide (lead digitI l = l.length) && decide (val l ≤ 9223372036854775807)

structure Tok where
  kind : Nat
  text : List UInt8
  at_ : Nat
deriving DecidableEq, Repr

inductive Step where
  | skip (n : Nat)
  | tok (kind n : Nat)
  | bad (err : Nat)
deriving DecidableEq, Repr

/-- The sort of a row of letters and digits: 2 a word, 1 a name, 3 an integer, 0 none of them. -/
def sort (t : List UInt8) : Nat := if isWord t then 2 else if isName t then 1 else if isInt t then 3 else 0
def sign? (l : List UInt8) : Option (List UInt8) := signs.find? (fun s => s.isPrefixOf l)

/-- What is done where bytes are left. -/
def step (l : List UInt8) : Step :=
  if 0 < lead blankI l then .skip (lead blankI l)
  else if [47, 47].isPrefixOf l then .skip (lead inLineI l)
  else if 0 < lead ldI l then (if sort (l.take (lead ldI l)) = 0 then .bad 101 else .tok (sort (l.take (lead ldI l))) (lead ldI l))
  else match sign? l with
    | some s => .tok 4 s.length
    | none => .bad 100

/-- The tokens, or the fault: its error and its place. -/
inductive Res where
  | fault (err at_ : Nat)
  | ok (ts : List Tok)
deriving DecidableEq, Repr

def go : Nat → List UInt8 → Nat → List Tok → Res
  | 0, _, _, acc => .ok acc
  | f + 1, l, k, acc => if l = [] then .ok acc else match step l with
    | .skip n => go f (l.drop n) (k + n) acc
    | .tok kind n => go f (l.drop n) (k + n) (acc ++ [⟨kind, l.take n, k⟩])
    | .bad e => .fault e k

end Lx
end Go.Proofs.YtcnmgebjbaclaaaDoor
