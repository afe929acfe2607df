/-
  Values as plain data; what signs make of them, by the document's words.
-/
import Derived.Test.YtcnmgebjbaclaaaDoorLcs
namespace Go.Proofs.YtcnmgebjbaclaaaDoor
namespace Vl

/-- A value: its kind, its number, its row. -/
structure V where
  k : Int
  n : Int
  r : List Int
deriving DecidableEq

/-- P11.1. -/
def right (v : V) : Bool :=
  if v.k = 1 then decide (v.r.length = 0)
  else if v.k = 2 then (decide (v.n = 0) || decide (v.n = 1)) && decide (v.r.length = 0)
  else if v.k = 3 then decide (v.n = 0) && decide (v.r.length ≤ 1024)
  else false

/-- What is told: a value or an error. -/
inductive Res where
  | int (n : Int)
  | bool (b : Bool)
  | err (e : Int)

def one (b : Bool) : Int := if b then 1 else 0
def Res.k : Res → Int
  | .int _ => 1
  | .bool _ => 2
  | .err _ => 0
def Res.n : Res → Int
  | .int n => n
  | .bool b => one b
  | .err _ => 0
def Res.e : Res → Int
  | .err e => e
  | _ => 0

def wrap (z : Int) : Int := (z + 9223372036854775808) % 18446744073709551616 - 9223372036854775808

/-- The signs between two operands. -/
def signs : List (List UInt8) := [[124, 124], [38, 38], [61, 61], [33, 61], [60], [60, 61], [62], [62, 61], [43], [45], [42], [47], [37]]
/-- The place of a sign; 13: it is none. -/
def place : List (List UInt8) → List UInt8 → Nat
  | [], _ => 0
  | x :: l, q => if x = q then 0 else place l q + 1
def opOf (q : List UInt8) : Nat := place signs q

def isInt (v : V) : Bool := decide (v.k = 1)
def isBool (v : V) : Bool := decide (v.k = 2)
/-- What the operands of a sign must be. -/
def takes (o : Nat) (v : V) : Bool := if o < 2 then isBool v else if o < 4 then true else isInt v
def same (a b : V) : Bool := decide (a.k = b.k) && decide (a.n = b.n) && decide (a.r = b.r)
/-- What a sign makes of operands that it takes. -/
def makes (o : Nat) (a b : V) : Res :=
  match o with
  | 0 => .bool (decide (a.n = 1) || decide (b.n = 1))
  | 1 => .bool (decide (a.n = 1) && decide (b.n = 1))
  | 2 => .bool (same a b)
  | 3 => .bool (!same a b)
  | 4 => .bool (decide (a.n < b.n))
  | 5 => .bool (decide (a.n ≤ b.n))
  | 6 => .bool (decide (b.n < a.n))
  | 7 => .bool (decide (b.n ≤ a.n))
  | 8 => .int (wrap (a.n + b.n))
  | 9 => .int (wrap (a.n - b.n))
  | 10 => .int (wrap (a.n * b.n))
  | 11 => if b.n = 0 then .err 202 else .int (wrap (a.n.tdiv b.n))
  | _ => if b.n = 0 then .err 202 else .int (a.n.tmod b.n)

/-- P11.3. -/
def bin (q : List UInt8) (a b : V) : Res :=
  if decide (opOf q < 13) && [a, b].all right then if [a, b].all (takes (opOf q)) then makes (opOf q) a b else .err 200 else .err 2

/-- P11.2. -/
def unOf (q : List UInt8) : Nat := place [[45], [33]] q
def un (q : List UInt8) (a : V) : Res :=
  if decide (unOf q < 2) && [a].all right then
    if [a].all (if unOf q = 0 then isInt else isBool) then (if unOf q = 0 then .int (wrap (-a.n)) else .bool (a.n == 0)) else .err 200
  else .err 2
end Vl
end Go.Proofs.YtcnmgebjbaclaaaDoor
