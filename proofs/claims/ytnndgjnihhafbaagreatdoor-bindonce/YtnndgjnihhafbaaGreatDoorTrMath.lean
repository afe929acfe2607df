/-
  Trees of programs as plain data: how many nodes, which names, what is right, what a path leads to.
-/
import Derived.Test.YtnndgjnihhafbaaGreatDoorLxMath
namespace Go.Proofs.YtnndgjnihhafbaaGreatDoor

inductive Tr where
  | mk (k : Int) (t : List UInt8) (n : Int) (kids : List Tr)

namespace Tr
def k : Tr → Int | mk k _ _ _ => k
def t : Tr → List UInt8 | mk _ t _ _ => t
def n : Tr → Int | mk _ _ n _ => n
def kids : Tr → List Tr | mk _ _ _ l => l

mutual
/-- How many nodes there are. -/
def size : Tr → Nat
  | mk _ _ _ l => 1 + sizes l
def sizes : List Tr → Nat
  | [] => 0
  | x :: r => size x + sizes r
end
theorem size_eq (x : Tr) : x.size = 1 + sizes x.kids := by cases x; simp [size, kids]
theorem sizes_nil : sizes [] = 0 := by simp [sizes]
theorem sizes_cons (x : Tr) (r : List Tr) : sizes (x :: r) = size x + sizes r := by simp [sizes]
theorem sizes_append (a b : List Tr) : sizes (a ++ b) = sizes a + sizes b := by
  induction a with
  | nil => simp [sizes]
  | cons x r ih => simp [sizes, ih]; omega
theorem sizes_mem {x : Tr} {l : List Tr} (h : x ∈ l) : size x ≤ sizes l := by
  induction l with
  | nil => cases h
  | cons y r ih =>
    rw [sizes_cons]
    rcases List.mem_cons.1 h with rfl | h
    · omega
    · have := ih h; omega
theorem length_sizes (l : List Tr) : l.length ≤ sizes l := by
  induction l with
  | nil => simp
  | cons y r ih => rw [sizes_cons, size_eq]; simp; omega

/-- Kinds whose Text is a name. -/
def bears (k : Int) : Bool := k == 2 || k == 4 || k == 6 || k == 22 || k == 25

def own (x : Tr) : List (List UInt8) := if bears x.k then [x.t] else []
mutual
/-- All Texts of a node, and of those in it. -/
def texts : Tr → List (List UInt8)
  | mk _ t _ l => t :: textsL l
def textsL : List Tr → List (List UInt8)
  | [] => []
  | x :: r => texts x ++ textsL r
end
theorem texts_eq (x : Tr) : x.texts = x.t :: textsL x.kids := by cases x; simp [texts, t, kids]
theorem textsL_nil : textsL [] = [] := by simp [textsL]
theorem textsL_cons (x : Tr) (r : List Tr) : textsL (x :: r) = texts x ++ textsL r := by simp [textsL]
theorem textsL_mem {x : Tr} {l : List Tr} (h : x ∈ l) : ∀ s ∈ x.texts, s ∈ textsL l := by
  induction l with
  | nil => cases h
  | cons y r ih =>
    intro s hs
    rw [textsL_cons, List.mem_append]
    rcases List.mem_cons.1 h with rfl | h
    · exact .inl hs
    · exact .inr (ih h s hs)

/-- Not too many nodes, no Text too long. -/
def Bd (l : List Tr) : Prop := sizes l ≤ 100000 ∧ ∀ s ∈ textsL l, s.length ≤ 1000000
theorem Bd.mem {l : List Tr} (h : Bd l) {x : Tr} (hx : x ∈ l) : x.t.length ≤ 1000000 ∧ Bd x.kids := by
  refine ⟨h.2 _ (textsL_mem hx _ (by rw [texts_eq]; simp)), ?_, fun s hs => h.2 _ (textsL_mem hx _ (by rw [texts_eq]; simp [hs]))⟩
  have := sizes_mem hx
  have := size_eq x
  have := h.1
  omega
theorem Bd.one {l : List Tr} (h : Bd l) {x : Tr} (hx : x ∈ l) : Bd [x] := by
  refine ⟨?_, fun s hs => h.2 _ (textsL_mem hx _ (by simpa [textsL_cons, textsL_nil] using hs))⟩
  have := sizes_mem hx
  have := h.1
  simp [sizes_cons, sizes_nil]; omega

/-- What may stand in a node: 200 an expression, 201 a statement, 202 a Set's place, 203 any number of what is ahead. -/
def table : Int → Option (List Int)
  | 1 => some [2, 203]
  | 2 => some [3, 5]
  | 3 => some [4, 203]
  | 4 => some []
  | 5 => some [201, 203]
  | 6 => some [200]
  | 7 => some [202, 200]
  | 8 => some [200, 5, 5]
  | 9 => some [200, 5]
  | 10 => some [200]
  | 11 => some [200]
  | 12 => some [25]
  | 20 => some []
  | 21 => some []
  | 22 => some []
  | 23 => some [200]
  | 24 => some [200, 200]
  | 25 => some [200, 203]
  | 26 => some [200, 200]
  | 27 => some [200, 200]
  | 28 => some [200]
  | 29 => some []
  | _ => none

def stands (want kid : Int) : Bool :=
  if want = 200 then decide (20 ≤ kid) && decide (kid ≤ 29)
  else if want = 201 then decide (5 ≤ kid) && decide (kid ≤ 12)
  else if want = 202 then kid == 22 || kid == 26
  else kid == want

def endless (r : List Int) : Bool := r.getLast? == some 203
/-- A row without what says 'any number'. -/
def fitsRow (r : List Int) (kid : Int) (at_ : Int) : Bool :=
  if endless r then decide (0 ≤ at_) && stands (r.headD 0) kid
  else decide (0 ≤ at_) && decide (at_ < r.length) && stands (r.getD at_.toNat 0) kid
def holdsRow (r : List Int) (c : Nat) : Bool := endless r || c == r.length
/-- A Set's place: a Name, or an Index of a Name. -/
def placeOk (x : Tr) : Bool := x.k == 22 || match x.kids with | [] => false | y :: _ => y.k == 22
def kidsFit (r : List Int) (i : Nat) : List Tr → Bool
  | [] => true
  | x :: l => fitsRow r x.k i && kidsFit r (i + 1) l
def kidsOk (x : Tr) : Bool :=
  match table x.k with
  | none => false
  | some r => holdsRow r x.kids.length && kidsFit r 0 x.kids && (x.k != 7 || match x.kids with | [] => false | y :: _ => placeOk y)

/-- The signs of a Binary. -/
def signs : List (List UInt8) := [[124, 124], [38, 38], [61, 61], [33, 61], [60], [60, 61], [62], [62, 61], [43], [45], [42], [47], [37]]
def textOk (k : Int) (t : List UInt8) : Bool :=
  if bears k then Lx.isName t else if k = 23 then decide (t = [45]) || decide (t = [33]) else if k = 24 then signs.contains t else decide (t = [])
def numOk (k : Int) (n : Int) : Bool :=
  if k = 20 then decide (0 ≤ n) else if k = 21 then decide (n = 0) || decide (n = 1) else decide (n = 0)

/-- Right, at most so many nodes deep. -/
def right : Nat → Tr → Bool
  | 0, _ => false
  | m + 1, x => textOk x.k x.t && numOk x.k x.n && kidsOk x && x.kids.all (right m)

/-- What a path leads to. -/
def get : List Int → Tr → Option Tr
  | [], x => some x
  | i :: p, x => if 0 ≤ i ∧ i < x.kids.length then (x.kids[i.toNat]?).bind (get p) else none
/-- With another node where a path leads. -/
def put (y : Tr) : List Int → Tr → Option Tr
  | [], _ => some y
  | i :: p, x => if 0 ≤ i ∧ i < x.kids.length then ((x.kids[i.toNat]?).bind (put y p)).map fun z => mk x.k x.t x.n (x.kids.set i.toNat z) else none

theorem get_in {i : Nat} {p : List Int} {x y : Tr} (h : x.kids[i]? = some y) : get ((i : Int) :: p) x = get p y := by
  have hl := (List.getElem?_eq_some_iff.1 h).1
  rw [get, if_pos ⟨by omega, by omega⟩, Int.toNat_natCast, h]
  rfl
theorem get_out {i : Int} {p : List Int} {x : Tr} (h : ¬ (0 ≤ i ∧ i < x.kids.length)) : get (i :: p) x = none := by
  rw [get, if_neg h]
theorem put_in {i : Nat} {p : List Int} {x y z : Tr} (h : x.kids[i]? = some z) : put y ((i : Int) :: p) x = (put y p z).map fun u => mk x.k x.t x.n (x.kids.set i u) := by
  have hl := (List.getElem?_eq_some_iff.1 h).1
  rw [put, if_pos ⟨by omega, by omega⟩, Int.toNat_natCast, h]
  rfl
theorem put_out {i : Int} {p : List Int} {x y : Tr} (h : ¬ (0 ≤ i ∧ i < x.kids.length)) : put y (i :: p) x = none := by
  rw [put, if_neg h]

end Tr
end Go.Proofs.YtnndgjnihhafbaaGreatDoor
