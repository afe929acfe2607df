/-
  Several texts in one, as they are: Lcs, Base, Clone, Same, Numbered, Lengths, Common, Copied, Told, Held, Between, Hunks, SameHunk, Append, FlatBase, Lows, Args.
-/
import Derived.WalkKit
import Derived.Test.YtnndgjnihhafbaaGreatDoorRows
import Derived.WalkSpells
import Derived.WalkLawsBesides
import Derived.Lib.Strings
import Derived.Lib.Slices
import Derived.Lib.Walk
import Derived.Lib.Bytealg
import Derived.Lib.AppendStr
import Derived.Lib.BufferWrite
import Derived.Lib.UnsafeStr
import Derived.Laws.MakeOwn
import Derived.Laws.OwnMore
import Derived.Laws.AppendOwnNone
import Derived.Deep.QuietTactic
import Derived.BigQuiet
import Derived.RangeFuncBox
import Derived.Maps.AppendAt
import Derived.Maps.OwnSet
import Derived.Maps.Views
import Derived.OneCell
import Derived.Deep.OwnRows
import Derived.RangeFuncNested
import Derived.RangeFuncBound
import Derived.RangeFuncCalls
import Derived.RangeFuncLeaves
import Derived.Shelf.Abstract
import Derived.Shelf.RegionOpen
import Derived.OwnWalkIn
import Derived.TacticsInMore
import Derived.LoopNIn
import Derived.LoopIn
import Derived.Deep.RegionWith
import Derived.SliceStrings
import Derived.ProofKit
import Derived.OpenShut
import Derived.LaidMore
import Derived.Lay
import Derived.SevenTiedAt
import Derived.Stop.Joined

/-
  Rows of pairs, with no word of Go: how long a longest one is, the one that is told, the hunks around it, and what follows of them.
-/
namespace Go.Proofs.YtnndgjnihhafbaaGreatDoor
namespace Df

section
variable {α : Type}
/-- Pairs rise, and are of the same lines. -/
structure Good (a b : List α) (i j : Nat) (ps : List (Nat × Nat)) : Prop where
  ge : ∀ p ∈ ps, i ≤ p.1 ∧ j ≤ p.2
  lt : ∀ p ∈ ps, p.1 < a.length ∧ p.2 < b.length
  same : ∀ p ∈ ps, a[p.1]? = b[p.2]?
  rise : ps.Pairwise fun p q => p.1 < q.1 ∧ p.2 < q.2

theorem Good.mono {a b : List α} {i j i' j' : Nat} {ps : List (Nat × Nat)} (h : Good a b i j ps) (hi : i' ≤ i) (hj : j' ≤ j) : Good a b i' j' ps :=
  ⟨fun p hp => ⟨Nat.le_trans hi (h.ge p hp).1, Nat.le_trans hj (h.ge p hp).2⟩, h.lt, h.same, h.rise⟩

/-- A hunk: where it begins, its lines, its new lines. -/
structure Hk (α : Type) where
  at_ : Nat
  old : List α
  new : List α
deriving DecidableEq

/-- The lines from i to x. -/
def part (a : List α) (i x : Nat) : List α := (a.drop i).take (x - i)

/-- The hunks around pairs (the last of which stands behind both ends). -/
def hks (a b : List α) : Nat → Nat → List (Nat × Nat) → List (Hk α)
  | _, _, [] => []
  | i, j, p :: ps => (if i < p.1 ∨ j < p.2 then [⟨i, part a i p.1, part b j p.2⟩] else []) ++ hks a b (p.1 + 1) (p.2 + 1) ps

/-- Hunks exchanged, from the last one on. -/
def app (a : List α) : List (Hk α) → List α
  | [] => a
  | h :: hs => (app a hs).take h.at_ ++ h.new ++ (app a hs).drop (h.at_ + h.old.length)

end

section
variable {α : Type} [DecidableEq α]


/-- How long a longest row of pairs is. -/
def lc : List α → List α → Nat
  | [], _ => 0
  | _ :: _, [] => 0
  | x :: xs, y :: ys => if x = y then lc xs ys + 1 else max (lc xs (y :: ys)) (lc (x :: xs) ys)
termination_by a b => a.length + b.length

end
end Df
end Go.Proofs.YtnndgjnihhafbaaGreatDoor

/-
  Rows of cells and of texts, in worlds; small laws that every walk of this seat uses.
-/
namespace Go.Proofs.YtnndgjnihhafbaaGreatDoor
open Go.RowKit

namespace Ln
/-- A string's value out of its bytes. -/
def bs (l : List UInt8) : ByteArray := ⟨l.toArray⟩
theorem size_eq (s : ByteArray) : s.size = s.data.toList.length := rfl
theorem bs_toList (l : List UInt8) : (bs l).data.toList = l := rfl
theorem bs_size (l : List UInt8) : (bs l).size = l.length := rfl
theorem bs_of (s : ByteArray) : bs s.data.toList = s := rfl
end Ln

theorem ret_int {k : IntKind} {a b : Int} (h : a = b) : Ending.returned (.int k a) = .returned (.int k b) := by rw [h]
theorem ret_bool {a b : Bool} (h : a = b) : Ending.returned (.bool a) = .returned (.bool b) := by rw [h]
theorem below_drewN {B : Nat} {a w : World} (h : Below B a w) (n : Nat) : Below B a (w.drewN n) := h.trans ⟨rfl, rfl, rfl, Nat.le_refl _, fun _ _ => rfl⟩

theorem info3 : (Tryz.prog.info? 3).map (fun i => (i.zero, i.size, i.bytes)) = some (some (.int .i64 0), 1, 8) := by kernel_rfl
theorem info5 : (Tryz.prog.info? 5).map (fun i => (i.zero, i.size, i.bytes)) = some (some (.int .u8 0), 1, 1) := by kernel_rfl
/-- The cell of a text. -/
def txtV (l : List UInt8) : Value := .string (Ln.bs l)
/-- The cell of an int. -/
def numV (k : Nat) : Value := .int .i64 k

theorem bs_beq (x y : List UInt8) : ((Ln.bs x).toList == (Ln.bs y).toList) = decide (x = y) := by
  rw [Lib.toList_data, Lib.toList_data, Ln.bs_toList, Ln.bs_toList]
  rw [Bool.eq_iff_iff]; simp

/-- v is a slice of n elements whose cells read, in w, as xs; its block lies below m. -/
def CellsLow (m : Nat) (w : World) (v : Value) (n : Nat) (xs : List Value) : Prop :=
  ∃ ao cap b off, v = .slice ao n cap ∧ (n ≤ cap ∧ (ao = none → cap = 0)) ∧ (0 < n → ao = some ⟨b, off, none⟩ ∧ b < m) ∧ ∀ (j : Nat) (x : Value), xs[j]? = some x → w.cell? ⟨b, off + j, none⟩ = some x

theorem CellsLow.below {n m k : Nat} {w w' : World} {v : Value} {xs : List Value} (h : CellsLow n w v k xs) (hb : Below m w w') (hnm : n ≤ m) (h0 : k = 0 → xs = []) : CellsLow n w' v k xs := by
  obtain ⟨ao, cap, b, off, hv, hc, ha, hx⟩ := h
  refine ⟨ao, cap, b, off, hv, hc, ha, fun j x hj => ?_⟩
  by_cases hk : k = 0
  · rw [h0 hk] at hj; simp at hj
  · exact (hb.cell (p := ⟨b, off + j, none⟩) (by have := (ha (by omega)).2; show b < m; omega)).trans (hx j x hj)
theorem CellsLow.mono {n m k : Nat} {w : World} {v : Value} {xs : List Value} (h : CellsLow n w v k xs) (hnm : n ≤ m) : CellsLow m w v k xs := by
  obtain ⟨ao, cap, b, off, hv, hc, ha, hx⟩ := h
  exact ⟨ao, cap, b, off, hv, hc, fun h => ⟨(ha h).1, by have := (ha h).2; omega⟩, hx⟩

theorem CellsLow.of_owns {W : World} {B e size k : Nat} {v : Value} {xs : List Value} (h : W.ownsRow B e size v k xs) : CellsLow W.heap.size W v k xs := by
  have h0 := h
  rcases h.2 with ⟨rfl, rfl⟩ | ⟨g, cap, cur, rfl, h1, hg, h2, h3, h4, h5⟩
  · have : xs = [] := List.length_eq_zero_iff.1 (by rw [h.1]; simp)
    subst this
    exact ⟨none, 0, 0, 0, rfl, ⟨Nat.le_refl _, fun _ => rfl⟩, fun h => absurd h (by omega), fun j x hj => by simp at hj⟩
  · refine ⟨_, cap, g, 0, rfl, ⟨h2, fun e => by cases e⟩, fun _ => ⟨rfl, (Array.getElem?_eq_some_iff.1 hg).1⟩, fun j x hx => ?_⟩
    have hc := h0.cells (g := g) rfl j x hx
    have ha : (⟨g, 0, none⟩ : Addr).add j = ⟨g, j, none⟩ := by cases j <;> simp [Addr.add]
    rw [ha] at hc
    rw [Nat.zero_add]; exact hc

/-- v reads, in w, as the row L of texts, in a block below n. -/
def RowLow (n : Nat) (w : World) (v : Value) (L : List (List UInt8)) : Prop := CellsLow n w v L.length (L.map txtV)
theorem RowLow.below {n m : Nat} {w w' : World} {v : Value} {L : List (List UInt8)} (h : RowLow n w v L) (hb : Below m w w') (hnm : n ≤ m) : RowLow n w' v L :=
  CellsLow.below h hb hnm (fun h0 => by rw [List.length_eq_zero_iff.1 h0]; rfl)
theorem RowLow.mono {n m : Nat} {w : World} {v : Value} {L : List (List UInt8)} (h : RowLow n w v L) (hnm : n ≤ m) : RowLow m w v L := CellsLow.mono h hnm
theorem RowLow.parts {n : Nat} {w : World} {v : Value} {L : List (List UInt8)} (h : RowLow n w v L) : ∃ ao cap b off, v = .slice ao L.length cap ∧ (L.length ≤ cap ∧ (ao = none → cap = 0)) ∧ (0 < L.length → ao = some ⟨b, off, none⟩ ∧ b < n) ∧ ∀ (j : Nat) (x : List UInt8), L[j]? = some x → w.cell? ⟨b, off + j, none⟩ = some (.string (Ln.bs x)) := by
  obtain ⟨ao, cap, b, off, hv, hc, ha, hx⟩ := h
  exact ⟨ao, cap, b, off, hv, hc, ha, fun j x hj => hx j _ (by rw [List.getElem?_map, hj]; rfl)⟩
theorem RowLow.of_owns {W : World} {B : Nat} {v : Value} {L : List (List UInt8)} (h : W.ownsRow B 9 1 v L.length (L.map txtV)) : RowLow W.heap.size W v L := CellsLow.of_owns h

theorem owns_below {W W' : World} {B k size : Nat} {e : TypeId} {v : Value} {xs : List Value} (h : W.ownsRow B e size v k xs) (hb : Below W.heap.size W W') : W'.ownsRow B e size v k xs := by
  refine ⟨h.1, ?_⟩
  rcases h.2 with h0 | ⟨g, cap, cur, hv, h1, hg, h2⟩
  · exact .inl h0
  · exact .inr ⟨g, cap, cur, hv, h1, (hb.block g (Array.getElem?_eq_some_iff.1 hg).1).trans hg, h2⟩
theorem owns_base {W : World} {B B' k size : Nat} {e : TypeId} {v : Value} {xs : List Value} (h : W.ownsRow B e size v k xs) (hb : B' ≤ B) : W.ownsRow B' e size v k xs := by
  refine ⟨h.1, ?_⟩
  rcases h.2 with h0 | ⟨g, cap, cur, hv, h1, hg, h2⟩
  · exact .inl h0
  · exact .inr ⟨g, cap, cur, hv, Nat.le_trans hb h1, hg, h2⟩

end Go.Proofs.YtnndgjnihhafbaaGreatDoor

/-
  A walk over strings.Clone: the same bytes; nothing that lay has turned.
-/
namespace Go.Proofs.YtnndgjnihhafbaaGreatDoor
open Go.RowKit


set_option maxHeartbeats 4000000 in
set_option maxRecDepth 100000 in
theorem cloneIn_any (s : ByteArray) (w : World) (hlim : s.size ≤ 281474976710656) :
    Calls Tryz.prog 97 #[.string s] w fun e w' => e = .returned (.string s) ∧ Below w.heap.size w w' := by
  by_cases h0 : s.size = 0
  · have hs : s = ⟨#[]⟩ := by
      apply ByteArray.ext
      exact Array.eq_empty_of_size_eq_zero h0
    subst hs
    go_enter Tryz.func97, Tryz.ntmps97
    go_wp2
    go_ret
    exact ⟨rfl, Below.refl _ _⟩
  · obtain ⟨i0, hi, hz0, hz1, hz2⟩ := info_parts info5
    have hinfo : (Tryz.prog.info? 5).map (·.size) = some 1 := by rw [hi]; simp [hz1]
    have hco : Tryz.prog.cellsOf 5 = 1 := by simp [Program.cellsOf, hi, hz1]
    obtain ⟨M, hM⟩ : ∃ M, M = madeCells (Value.int .u8 0).cells (((s.size : Nat) : Int).toNat * i0.size) := ⟨_, rfl⟩
    have hMs : M.size = s.size := by rw [hM, size_madeCells, hz1]; simp
    have hmk : ∀ W : World, (Instr.makeSlice 172 (.int .i64 (s.size : Int)) (.int .i64 (s.size : Int))).run Tryz.prog W = .ok (.slice (some ⟨W.heap.size, 0, none⟩) s.size s.size) (W.alloc (.cells M 5)) := fun W => by
      have h := run_make (P := Tryz.prog) W 172 5 i0 (.int .u8 0) Tryz.underlying172 hi hz0 .i64 .i64 (s.size : Int) (s.size : Int) (by omega) (by omega) (by rw [hz2]; omega) (by omega)
      rw [← hM] at h
      simpa using h
    clear hM
    have hcp := Lib.run_copy_row_string (P := Tryz.prog) (w.alloc (.cells M 5)) 172 9 3 5 w.heap.size 0 s.size s.size s M 5 Tryz.underlying172 hinfo (heap_alloc_new w _) (Nat.le_refl _) (by omega)
    obtain ⟨Y, hY⟩ : ∃ Y, Y = (M.toList.take 0 ++ Lib.byteCells s.data.toList ++ M.toList.drop (0 + s.size)).toArray := ⟨_, rfl⟩
    rw [← hY] at hcp
    have hYl : Y.toList = Lib.byteCells s.data.toList := by
      rw [hY, List.toList_toArray, List.take_zero, List.nil_append, List.drop_of_length_le (by rw [Array.length_toList]; omega), List.append_nil]
    have hYs : Y.size = s.size := by rw [← Array.length_toList, hYl, Lib.byteCells_length, ← Lib.size_eq]
    have hgY : ((w.alloc (.cells M 5)).setRow w.heap.size Y).heap[w.heap.size]? = some (.cells Y 5 (0, 0)) := setRow_heap _ _ M _ 5 (0, 0) (heap_alloc_new w _)
    have hne : s.data.toList ≠ [] := fun e => h0 (by rw [Lib.size_eq, e]; rfl)
    have hUS := Lib.run_unsafeString_row (P := Tryz.prog) ((w.alloc (.cells M 5)).setRow w.heap.size Y) 173 3 9 5 Tryz.underlying173 hco w.heap.size Y.size (by unfold World.shape?; rw [hgY]) s.data.toList hne (by rw [← Lib.size_eq]; omega) (by rw [← Lib.size_eq]; omega)
      (fun j x hx => Lib.cells_of_row hgY Y.size j _ (by rw [List.take_of_length_le (by rw [Array.length_toList]; exact Nat.le_refl _), hYl]; simp [Lib.byteCells, hx]))
    rw [← Lib.size_eq] at hUS
    clear hY
    go_enter Tryz.func97, Tryz.ntmps97
    go_wp2
    go_ret
    have hb1 : Below w.heap.size w (w.alloc (.cells M 5)) := (Below.refl _ w).alloc (Nat.le_refl _) _
    have hb2 : Below w.heap.size (w.alloc (.cells M 5)) ((w.alloc (.cells M 5)).setRow w.heap.size Y) := ⟨rfl, rfl, rfl, by simp, fun k hk => setRow_other _ _ _ _ (by omega)⟩
    exact ⟨rfl, Lib.below_freeze (hb1.trans hb2) (p := ⟨w.heap.size, 0, none⟩) (Nat.le_refl _) _⟩

set_option maxHeartbeats 1000000 in
theorem clone_any (s : ByteArray) (w : World) (hlim : s.size ≤ 281474976710656) :
    Calls Tryz.prog 54 #[.string s] w fun e w' => e = .returned (.string s) ∧ Below w.heap.size w w' := by
  go_enter Tryz.func54, Tryz.ntmps54
  go_wp2_with (go_at_call 97; refine (cloneIn_any _ _ hlim).mono ?_; rintro e w' ⟨rfl, hb⟩)
  go_ret
  exact ⟨rfl, hb⟩

end Go.Proofs.YtnndgjnihhafbaaGreatDoor

/-
  The walks of clerestorykit.SameTexts, SameHunk, SameHunks and of the law's samePairs: are two rows the same?
-/
namespace Go.Proofs.YtnndgjnihhafbaaGreatDoor
open Go.RowKit

end Go.Proofs.YtnndgjnihhafbaaGreatDoor

/-
  The walks of diff.numbered and of its closure: the same number for the same line, in both rows.
-/
namespace Go.Proofs.YtnndgjnihhafbaaGreatDoor
open Go.RowKit Go.WideMaps

/-- What the map of numbers holds: a number below N for each of its keys, no number twice. -/
structure NumOk (D : DataW Unit) (f : List UInt8 → Nat) (N : Nat) : Prop where
  size : Maps.size D = N
  at_ : ∀ x, Maps.has D (.string x) = true → D.atKey (.string x) (.lit (.int .i64 0)) = .lit (.int .i64 (f x))
  lt : ∀ x, Maps.has D (.string x) = true → f x < N
  inj : ∀ x y, Maps.has D (.string x) = true → Maps.has D (.string y) = true → f x = f y → x = y
/-- The later map holds what the one ahead held. -/
def NumExt (D : DataW Unit) (f : List UInt8 → Nat) (D' : DataW Unit) (f' : List UInt8 → Nat) : Prop :=
  ∀ x, Maps.has D (.string x) = true → Maps.has D' (.string x) = true ∧ f' x = f x

theorem NumExt.refl (D : DataW Unit) (f : List UInt8 → Nat) : NumExt D f D f := fun _ h => ⟨h, rfl⟩
theorem NumExt.trans {D D' D'' : DataW Unit} {f f' f'' : List UInt8 → Nat} (h : NumExt D f D' f') (k : NumExt D' f' D'' f'') : NumExt D f D'' f'' :=
  fun x hx => ⟨(k x (h x hx).1).1, ((k x (h x hx).1).2).trans (h x hx).2⟩

def putF (f : List UInt8 → Nat) (x : List UInt8) (N : Nat) : List UInt8 → Nat := fun y => if y = x then N else f y

theorem str_ne {x y : List UInt8} (h : x ≠ y) : (Lit.string x) ≠ (Lit.string y) := fun e => h (by injection e)

theorem NumOk.put {D : DataW Unit} {f : List UInt8 → Nat} {N : Nat} (h : NumOk D f N) (hm : Maps.IsMap D) (ht : Maps.Tidy D) {x : List UInt8} (hk : WideAt.IsKeyLit (.string x)) (hx : Maps.has D (.string x) = false) :
    NumOk (D.put (.string x) (.lit (.int .i64 N))) (putF f x N) (N + 1) ∧ NumExt D f (D.put (.string x) (.lit (.int .i64 N))) (putF f x N) ∧ Maps.has (D.put (.string x) (.lit (.int .i64 N))) (.string x) = true ∧ putF f x N x = N := by
  have hsame := Maps.has_put_same hm hk (.lit (.int .i64 N))
  have hoth : ∀ y, y ≠ x → Maps.has (D.put (.string x) (.lit (.int .i64 N))) (.string y) = Maps.has D (.string y) := fun y hy => Maps.has_put_other (str_ne hy) _
  have hp : putF f x N x = N := by simp [putF]
  have hpo : ∀ y, y ≠ x → putF f x N y = f y := fun y hy => by simp [putF, hy]
  refine ⟨⟨?_, ?_, ?_, ?_⟩, ?_, hsame, hp⟩
  · rw [Maps.size_put ht, hx, h.size]; rfl
  · intro y hy
    by_cases e : y = x
    · subst e; rw [hp]; exact Maps.atKey_put_same hm hk _ _
    · rw [hpo y e, Maps.atKey_put_other (str_ne e)]; rw [hoth y e] at hy; exact h.at_ y hy
  · intro y hy
    by_cases e : y = x
    · subst e; rw [hp]; omega
    · rw [hpo y e]; rw [hoth y e] at hy; have := h.lt y hy; omega
  · intro y z hy hz e
    by_cases e1 : y = x
    · by_cases e2 : z = x
      · rw [e1, e2]
      · rw [hoth z e2] at hz; have := h.lt z hz; rw [e1, hp, hpo z e2] at e; omega
    · by_cases e2 : z = x
      · rw [hoth y e1] at hy; have := h.lt y hy; rw [e2, hp, hpo y e1] at e; omega
      · rw [hoth y e1] at hy; rw [hoth z e2] at hz; rw [hpo y e1, hpo z e2] at e; exact h.inj y z hy hz e
  · intro y hy
    have e : y ≠ x := fun e => by rw [e, hx] at hy; cases hy
    exact ⟨by rw [hoth y e]; exact hy, hpo y e⟩

end Go.Proofs.YtnndgjnihhafbaaGreatDoor

/-
  The walks of diff.lengths and of its closure: the table of how long a longest row is.
-/
namespace Go.Proofs.YtnndgjnihhafbaaGreatDoor
open Go.RowKit

end Go.Proofs.YtnndgjnihhafbaaGreatDoor

/-
  The walk of diff.Common: the row of pairs that is told.
-/
namespace Go.Proofs.YtnndgjnihhafbaaGreatDoor
open Go.RowKit

theorem cells_new (w : World) (l : List Value) (t : TypeId) : ∀ (j : Nat) (u : Value), l[j]? = some u → (w.alloc (.cells l.toArray t)).cell? ((⟨w.heap.size, 0, none⟩ : Addr).add j) = some u := by
  intro j u hu
  have ha : (⟨w.heap.size, 0, none⟩ : Addr).add j = ⟨w.heap.size, j, none⟩ := by cases j <;> simp [Addr.add]
  rw [ha, Lib.cell_of_heap (World.alloc_heap_new w _)]
  simpa using hu

end Go.Proofs.YtnndgjnihhafbaaGreatDoor

/-
  The walks of diff.copied and diff.exchange: lines in new memory; the hunk that exchanges them.
-/
namespace Go.Proofs.YtnndgjnihhafbaaGreatDoor
open Go.RowKit

/-- The value of a hunk. -/
def hkV (at_ : Nat) (vo vn : Value) : Value := .agg #[.int .i64 at_, vo, vn]

theorem grown_set (w : World) (b j : Nat) (u : Value) : w.grownBy (w.setCell ⟨b, j, none⟩ u) (some b) :=
  ⟨rfl, rfl, rfl, by simp, fun k _ hk => heap_setCell_other w ⟨b, j, none⟩ k u (fun e => hk (by simp [e]))⟩
theorem slice_shape {w : World} {B e size n : Nat} {v : Value} {xs : List Value} (h : w.ownsRow B e size v n xs) : ∃ ao cap, v = .slice ao n cap := by
  rcases h.2 with ⟨rfl, rfl⟩ | ⟨g, cap, cur, rfl, _⟩
  · exact ⟨none, 0, rfl⟩
  · exact ⟨_, cap, rfl⟩

end Go.Proofs.YtnndgjnihhafbaaGreatDoor

/-
  A range over a function whose yielded values are told with what is true of them in the world in which they are yielded (the body goes on at each of them).
-/
namespace Go.Proofs.YtnndgjnihhafbaaGreatDoor
open Go.RowKit

end Go.Proofs.YtnndgjnihhafbaaGreatDoor

/-
  A region that draws its order of evaluation, inside a fence: operations that yield one value in every world of a class are taken first, in the text's order, also where calls behind them turn the world within the class.
-/
namespace Go.Proofs.YtnndgjnihhafbaaGreatDoor
open Go.RowKit

section
variable {F : Fence} {n : Nat} {P : Program} {ops : Array Oper} {Q : Exit → Act → World → Prop} {md : Region.Mode} {C : World → Prop}

/-- Wherever the class goes, the operation yields v (or is passed over), and calls nothing. -/
def Same (P : Program) (ops : Array Oper) (C : World → Prop) (o : Oper) (v : Value) (a : Act) : Prop :=
  ((Region.wanted o (yielded ops a.tmps) = true ∧ ∀ w, C w → (execOp a.eval o).run P w = .ok (.value v) w) ∨ (Region.wanted o (yielded ops a.tmps) = false ∧ v = undef)) ∧ ∀ w, o.about P w a.eval = none

theorem Same.turn {o : Oper} {v : Value} {a a' : Act} (h : Same P ops C o v a) (he : execOp a'.eval o = execOp a.eval o) (hw : Region.wanted o (yielded ops a'.tmps) = Region.wanted o (yielded ops a.tmps)) (hb : ∀ w, o.about P w a'.eval = o.about P w a.eval) : Same P ops C o v a' := by
  refine ⟨?_, fun w => by rw [hb w]; exact h.2 w⟩
  rcases h.1 with ⟨h1, h2⟩ | ⟨h1, h2⟩
  · exact .inl ⟨by rw [hw]; exact h1, fun w hc => by rw [he]; exact h2 w hc⟩
  · exact .inr ⟨by rw [hw]; exact h1, h2⟩

/-- Every order, each world on the way within the class. -/
def anyC (F : Fence) (n : Nat) (P : Program) (md : Region.Mode) (ops : Array Oper) (C : World → Prop) (Q : Exit → Act → World → Prop) : Nat → Array Bool → Act → World → Prop
  | 0, listed, a, w => Region.ready md ops listed = [] ∧ Q .normal a w
  | fuel + 1, listed, a, w => (Region.ready md ops listed = [] → Q .normal a w) ∧
    ∀ i ∈ Region.ready md ops listed, wpOpIn F n P ops Q i (fun a' w' => C w' ∧ anyC F n P md ops C Q fuel (listed.setIfInBounds i true) a' w') a w

theorem anyC_any : ∀ (fuel : Nat) (listed : Array Bool) (a : Act) (w : World), anyC F n P md ops C Q fuel listed a w → wpAnyIn F n P md ops Q fuel listed a w
  | 0, _, _, _, h => h
  | fuel + 1, listed, _, _, h => ⟨h.1, fun i hi => wpOpIn_mono (fun a' w' h' => anyC_any fuel (listed.setIfInBounds i true) a' w' h'.2) (h.2 i hi)⟩

theorem Same.op {i : Nat} {o : Oper} {v : Value} {a : Act} {w : World} (hround : F.round = none) (hi : ops[i]? = some o) (h : Same P ops C o v a) (hc : C w) {K : Act → World → Prop} (hk : K (a.put o.dst v) w) : wpOpIn F n P ops Q i K a w := by
  unfold wpOpIn
  simp only [hi]
  have hno : ∀ f, o.about P w a.eval = some f → F.fn f := fun f hf => by rw [h.2 w] at hf; cases hf
  rcases h.1 with ⟨h1, h2⟩ | ⟨h1, rfl⟩
  · simp only [h1, if_true, Oper.wpIn, hround, Oper.semAt_none, h2 w hc, Oper.uponIn]; exact ⟨hno, hk⟩
  · simp only [h1, Bool.false_eq_true, if_false]; exact ⟨hno, hk⟩

/-- What is the same may be laid in behind an operation that is apart from it. -/
theorem op_behind {j : Nat} {oi oj : Oper} {v : Value} (hround : F.round = none) (hj : ops[j]? = some oj) (hap : oi.apart ops oj = true) (hsi : ∀ cs b, oi.op ≠ .select cs b) (hsj : ∀ cs b, oj.op ≠ .select cs b)
    (hQ : ∀ c a w, Q (.panic c) (a.put oi.dst v) w → Q (.panic c) a w) {K : Act → World → Prop} {a : Act} {w : World} (hy : Same P ops C oi v a) (h : wpOpIn F n P ops Q j K (a.put oi.dst v) w) :
    wpOpIn F n P ops Q j (fun a' w' => Same P ops C oi v a' ∧ K (a'.put oi.dst v) w') a w := by
  obtain ⟨e1, e2, e3⟩ := Oper.apart_spec hap
  have stay : ∀ (b : Act), Same P ops C oi v b → ∀ u, Same P ops C oi v (b.put oj.dst u) := fun b hb u =>
    hb.turn (execOp_put oi hsi b oj.dst u e3) (wanted_put oi b oj.dst u e3) (fun w => about_put oi w b oj.dst u e3)
  have stayD : ∀ d, Same P ops C oi v { a with defers := d :: a.defers } := fun d => hy.turn rfl rfl (fun _ => rfl)
  have swap : ∀ u, K ((a.put oi.dst v).put oj.dst u) w → K ((a.put oj.dst u).put oi.dst v) w := fun u h => by rw [← Act.put_comm a v u e2]; exact h
  unfold wpOpIn at h ⊢
  simp only [hj] at h ⊢
  rw [wanted_put oj a oi.dst v e1, about_put oj w a oi.dst v e1] at h
  by_cases hw : Region.wanted oj (yielded ops a.tmps) = true
  · rw [if_pos hw] at h ⊢
    unfold Oper.wpIn at h ⊢
    rw [about_put oj w a oi.dst v e1] at h
    refine ⟨h.1, ?_⟩
    replace h := h.2
    rw [hround, Oper.semAt_none, execOp_put oj hsj a oi.dst v e1] at h
    rw [hround, Oper.semAt_none]
    generalize (execOp a.eval oj).run P w = r at *
    cases r with
    | ok x w' =>
      cases x <;> simp only [Oper.uponIn] at h ⊢
      case value u => exact ⟨stay a hy u, by rw [← Act.put_comm a v u e2]; exact h⟩
      case skip => exact ⟨stay a hy _, by rw [← Act.put_comm a v undef e2]; exact h⟩
      case defer d =>
        refine ⟨stay _ (stayD d) _, ?_⟩
        rw [← Act.put_comm _ v undef e2, ← Act.put_defers]
        exact h
      case enter f args =>
        refine ⟨h.1, CallsIn.mono h.2 fun e w'' he => ?_⟩
        cases e with
        | returned u => exact ⟨stay a hy u, by rw [← Act.put_comm a v u e2]; exact he⟩
        | panicked c => exact hQ _ _ _ he
        | outgrown => exact he
      case row row args => exact ⟨h.1, RowsIn.mono h.2 fun u w'' he => ⟨stay a hy u, by rw [← Act.put_comm a v u e2]; exact he⟩⟩
      case round l f tmps assign body =>
        refine ⟨h.1, RoundIn.mono h.2 fun e w'' he => ?_⟩
        cases e with
        | returned u => exact ⟨stay a hy u, by rw [← Act.put_comm a v u e2]; exact he⟩
        | panicked c => exact hQ _ _ _ he
        | outgrown => exact he
    | halt x w' =>
      cases x <;> simp only [Oper.uponIn] at h ⊢
      case panic u => exact hQ _ _ _ h
  · rw [if_neg hw] at h ⊢
    exact ⟨h.1, stay a hy _, swap undef h.2⟩

theorem anyC_first {i : Nat} {oi : Oper} {v : Value} (hround : F.round = none) (hi : ops[i]? = some oi) (hsel : ∀ (j : Nat) (o : Oper) cs b, ops[j]? = some o → o.op ≠ .select cs b)
    (hQ : ∀ c a w, Q (.panic c) (a.put oi.dst v) w → Q (.panic c) a w) : ∀ (fuel : Nat) (listed : Array Bool) (a : Act) (w : World),
      (∀ j oj, ops[j]? = some oj → j ≠ i → listed.getD j true = false → (∀ e ∈ oj.after, Region.binds md e = true → e.on ≠ i) → oi.apart ops oj = true) →
      i ∈ Region.ready md ops listed → Same P ops C oi v a → C w →
      anyC F n P md ops C Q fuel (listed.setIfInBounds i true) (a.put oi.dst v) w → anyC F n P md ops C Q (fuel + 1) listed a w := by
  intro fuel
  induction fuel with
  | zero =>
    intro listed a w _ hr hy hc H
    refine ⟨fun h => absurd hr (by rw [h]; simp), fun j hj => ?_⟩
    by_cases hji : j = i
    · subst hji; exact hy.op hround hi hc ⟨hc, H⟩
    · have h9 := ready_mono hj hji
      rw [H.1] at h9
      exact absurd h9 (by simp)
  | succ fuel ih =>
    intro listed a w hfree hr hy hc H
    refine ⟨fun h => absurd hr (by rw [h]; simp), fun j hj => ?_⟩
    by_cases hji : j = i
    · subst hji; exact hy.op hround hi hc ⟨hc, H⟩
    · have h1 := H.2 j (ready_mono hj hji)
      obtain ⟨hun, oj, hoj, hall⟩ := mem_ready.1 hj
      have hnot : ∀ e ∈ oj.after, Region.binds md e = true → e.on ≠ i := fun e he hb heq => by
        have q1 := hall e he hb
        have q0 := (mem_ready.1 hr).1
        rw [heq] at q1
        rcases Nat.lt_or_ge i listed.size with h' | h'
        · simp [h'] at q0 q1; rw [q0] at q1; cases q1
        · simp [Array.getElem?_eq_none h'] at q1
      have h2 := op_behind hround hoj (hfree j oj hoj hji hun hnot) (fun cs b => hsel i oi cs b hi) (fun cs b => hsel j oj cs b hoj) hQ hy h1
      refine wpOpIn_mono (fun a' w' h3 => ⟨h3.2.1, ih (listed.setIfInBounds j true) a' w' (fun k ok hk hki hu hno => ?_) (ready_mono hr (Ne.symm hji)) h3.1 h3.2.1 ?_⟩) h2
      · refine hfree k ok hk hki ?_ hno
        by_cases hjk : j = k
        · subst hjk; exact hun
        · rw [getD_set_ne true hjk] at hu; exact hu
      · rw [Array.setIfInBounds_comm _ _ hji]
        exact h3.2.2

/-- The text's order, as far as each operation yields one value in the class. -/
def lexC (P : Program) (ops : Array Oper) (C : World → Prop) (K : Act → Prop) : List Oper → Act → Prop
  | [], a => K a
  | o :: r, a => ∃ v, Same P ops C o v a ∧ lexC P ops C K r (a.put o.dst v)
def lexOk (md : Region.Mode) (ops : Array Oper) : Nat → Nat → Array Bool → Bool
  | 0, _, _ => true
  | m + 1, k, listed => (Region.ready md ops listed).contains k && Region.free md ops listed k && lexOk md ops m (k + 1) (listed.setIfInBounds k true)
def lexTo : Nat → Nat → Array Bool → Array Bool
  | 0, _, listed => listed
  | m + 1, k, listed => lexTo m (k + 1) (listed.setIfInBounds k true)

theorem anyC_lex (hround : F.round = none) (hs : Region.noSelect ops = true) (hQ : ∀ c (a : Act) d v w, Q (.panic c) (a.put d v) w → Q (.panic c) a w) (fuel : Nat) {w : World} (hc : C w) : ∀ (l : List Oper) (k : Nat) (listed : Array Bool) (a : Act), (∀ j, j < l.length → l[j]? = ops[k + j]?) → lexOk md ops l.length k listed = true →
    lexC P ops C (fun a' => anyC F n P md ops C Q fuel (lexTo l.length k listed) a' w) l a → anyC F n P md ops C Q (l.length + fuel) listed a w
  | [], k, listed, a, _, _, h => by
    have e : ([] : List Oper).length + fuel = fuel := by simp
    rw [e]; exact h
  | o :: l, k, listed, a, hl, hb, ⟨v, hy, hk⟩ => by
    have h0 : ops[k]? = some o := by have := hl 0 (by simp); simpa using this.symm
    simp only [List.length_cons, lexOk, Bool.and_eq_true] at hb
    obtain ⟨⟨hr, hf⟩, hb'⟩ := hb
    have e : (o :: l).length + fuel = (l.length + fuel) + 1 := by simp; omega
    rw [e]
    refine anyC_first hround h0 (Region.noSelect_spec hs) (fun c a w h => hQ c a _ _ w h) (l.length + fuel) listed a w (Region.free_spec h0 hf) (by simpa using hr) hy hc ?_
    refine anyC_lex hround hs hQ fuel hc l (k + 1) _ _ (fun j hj => ?_) hb' hk
    have := hl (j + 1) (by simp; omega)
    simpa [Nat.add_assoc, Nat.add_comm 1 j] using this

/-- One operation alone may come up. -/
theorem anyC_one {i : Nat} {o : Oper} {fuel : Nat} {listed : Array Bool} {a : Act} {w : World} (hr : Region.ready md ops listed = [i]) (ho : ops[i]? = some o) (hw : Region.wanted o (yielded ops a.tmps) = true)
    (h : ∀ K : Act → World → Prop, (∀ a' w', C w' → anyC F n P md ops C Q fuel (listed.setIfInBounds i true) a' w' → K a' w') → o.wpIn F n P a w K Q) : anyC F n P md ops C Q (fuel + 1) listed a w := by
  refine ⟨fun h0 => absurd h0 (by rw [hr]; simp), fun j hj => ?_⟩
  rw [hr] at hj
  simp at hj
  subst hj
  unfold wpOpIn
  simp only [ho, hw, if_true]
  exact h _ (fun a' w' h1 h2 => ⟨h1, h2⟩)
theorem lexC_want {K : Act → Prop} {o : Oper} {r : List Oper} {a : Act} {v : Value} (hw : Region.wanted o (yielded ops a.tmps) = true) (hb : ∀ w, o.about P w a.eval = none) (hv : ∀ w, C w → (execOp a.eval o).run P w = .ok (.value v) w) (h : lexC P ops C K r (a.put o.dst v)) : lexC P ops C K (o :: r) a :=
  ⟨v, ⟨.inl ⟨hw, hv⟩, hb⟩, h⟩
theorem lexC_skip {K : Act → Prop} {o : Oper} {r : List Oper} {a : Act} (hw : Region.wanted o (yielded ops a.tmps) = false) (hb : ∀ w, o.about P w a.eval = none) (h : lexC P ops C K r (a.put o.dst undef)) : lexC P ops C K (o :: r) a :=
  ⟨undef, ⟨.inr ⟨hw, rfl⟩, hb⟩, h⟩
theorem lexC_nil {K : Act → Prop} {a : Act} (h : K a) : lexC P ops C K [] a := h
theorem region_lex {id : Nat} {l : List Oper} {a : Act} {w : World} (C : World → Prop) (m fuel : Nat) (hround : F.round = none) (hm : P.follows .mixedOrders = true) (hsz : l.length = m + fuel) (hs : Region.noSelect l.toArray = true)
    (hok : lexOk .any l.toArray m 0 (Array.replicate l.length false) = true) (hQ : ∀ c (a : Act) d v w, Q (.panic c) (a.put d v) w → Q (.panic c) a w) (hc : C w.drew)
    (h : lexC P l.toArray C (fun a' => anyC F n P .any l.toArray C Q fuel (lexTo m 0 (Array.replicate l.length false)) a' w.drew) (l.take m) a) : (Code.region id l.toArray true).wpIn F n P Q a w := by
  have hlm : (l.take m).length = m := by simp; omega
  refine wpIn_region_any hm (anyC_any (C := C) _ _ _ _ ?_)
  have e : l.toArray.size = (l.take m).length + fuel := by rw [hlm]; simpa using hsz
  have e2 : l.toArray.size = l.length := by simp
  have h1 := anyC_lex (F := F) (n := n) (md := .any) (Q := Q) hround hs hQ fuel (w := w.drew) hc (l.take m) 0 (Array.replicate l.length false) a (fun j hj => by
    rw [hlm] at hj
    rw [List.getElem?_take, if_pos hj]; simp) (by rw [hlm]; exact hok) (by rw [hlm]; exact h)
  rw [← e] at h1
  rw [e2] at h1 ⊢
  exact h1
/-- Go on in the text's order, from operation k on. -/
theorem anyC_more {L : List Oper} {listed : Array Bool} {a : Act} {w : World} (k cnt fuel m : Nat) (hround : F.round = none) (hs : Region.noSelect L.toArray = true) (hm : m = cnt + fuel) (hk : k + cnt ≤ L.length) (hok : lexOk md L.toArray cnt k listed = true)
    (hQ : ∀ c (a : Act) d v w, Q (.panic c) (a.put d v) w → Q (.panic c) a w) (hc : C w) (h : lexC P L.toArray C (fun a' => anyC F n P md L.toArray C Q fuel (lexTo cnt k listed) a' w) ((L.drop k).take cnt) a) : anyC F n P md L.toArray C Q m listed a w := by
  have hl : ((L.drop k).take cnt).length = cnt := by simp; omega
  have h1 := anyC_lex (F := F) (n := n) (md := md) (Q := Q) hround hs hQ fuel (w := w) hc ((L.drop k).take cnt) k listed a (fun j hj => by
    rw [hl] at hj
    rw [List.getElem?_take, if_pos hj, List.getElem?_drop]; simp) (by rw [hl]; exact hok) (by rw [hl]; exact h)
  rw [hl, ← hm] at h1
  exact h1
/-- An operation that is the same in the class, wherever it stands. -/
theorem anyC_take {i : Nat} {o : Oper} {v : Value} {fuel : Nat} {listed : Array Bool} {a : Act} {w : World} (hround : F.round = none) (ho : ops[i]? = some o) (hs : Region.noSelect ops = true) (hr : (Region.ready md ops listed).contains i = true) (hf : Region.free md ops listed i = true)
    (hQ : ∀ c (a : Act) d v w, Q (.panic c) (a.put d v) w → Q (.panic c) a w) (hc : C w) (hw : Region.wanted o (yielded ops a.tmps) = true) (hb : ∀ w, o.about P w a.eval = none) (hv : ∀ w, C w → (execOp a.eval o).run P w = .ok (.value v) w)
    (h : anyC F n P md ops C Q fuel (listed.setIfInBounds i true) (a.put o.dst v) w) : anyC F n P md ops C Q (fuel + 1) listed a w :=
  anyC_first hround ho (Region.noSelect_spec hs) (fun c a w h => hQ c a _ _ w h) fuel listed a w (Region.free_spec ho hf) (by simpa using hr) ⟨.inl ⟨hw, hv⟩, hb⟩ hc h
/-- append, by what it is known to give. -/
theorem op_append {o : Oper} {a : Act} {w : World} {K : Act → World → Prop} (s x : Operand) (t : TypeId) (hop : o.op = Op.call { callee := Callee.builtin Builtin.append, args := #[s, x], argTypes := #[t, t] }) (d v v' : Value) (w' : World)
    (hs : a.eval s = d) (hx : a.eval x = v) (hrun : (Builtin.append_ #[t, t] o.type #[d, v]).run P w = .ok v' w') (hk : K (a.put o.dst v') w') : o.wpIn F n P a w K Q := by
  unfold Oper.wpIn
  refine ⟨?_, ?_⟩
  · simp [Oper.about, hop, resolve, Target.leads, Sem.run_pure]
  · rw [Oper.semAt_plain F _ _ (by rw [hop]; intro c hc'; cases hc')]
    simp [execOp, hop, resolve, invoke, builtin, hs, hx, hrun, Result.andThen]
    exact hk
theorem list_append {rest : List Oper} {o : Oper} {a : Act} {w : World} (hg : o.guard = none) (s x : Operand) (t : TypeId) (hop : o.op = Op.call { callee := Callee.builtin Builtin.append, args := #[s, x], argTypes := #[t, t] }) (d v v' : Value) (w' : World)
    (hs : a.eval s = d) (hx : a.eval x = v) (hrun : (Builtin.append_ #[t, t] o.type #[d, v]).run P w = .ok v' w') (hk : wpListIn F n P ops Q rest (a.put o.dst v') w') : wpListIn F n P ops Q (o :: rest) a w :=
  wpListIn_plain hg fun _ hK => op_append s x t hop d v v' w' hs hx hrun (hK _ _ hk)
theorem anyC_done {listed : Array Bool} {a : Act} {w : World} (hr : Region.ready md ops listed = []) (h : Q .normal a w) : anyC F n P md ops C Q 0 listed a w := ⟨hr, h⟩
end

section
variable {F : Fence} {n : Nat} {P : Program} {ops : Array Oper} {Q : Exit → Act → World → Prop} {md : Region.Mode} {C : World → Prop}
/-- One of two operations comes up. -/
theorem anyC_two {i j : Nat} {o o' : Oper} {fuel : Nat} {listed : Array Bool} {a : Act} {w : World} (hr : Region.ready md ops listed = [i, j]) (ho : ops[i]? = some o) (ho' : ops[j]? = some o') (hw : Region.wanted o (yielded ops a.tmps) = true) (hw' : Region.wanted o' (yielded ops a.tmps) = true)
    (h : ∀ K : Act → World → Prop, (∀ a' w', C w' → anyC F n P md ops C Q fuel (listed.setIfInBounds i true) a' w' → K a' w') → o.wpIn F n P a w K Q)
    (h' : ∀ K : Act → World → Prop, (∀ a' w', C w' → anyC F n P md ops C Q fuel (listed.setIfInBounds j true) a' w' → K a' w') → o'.wpIn F n P a w K Q) : anyC F n P md ops C Q (fuel + 1) listed a w := by
  refine ⟨fun h0 => absurd h0 (by rw [hr]; simp), fun k hk => ?_⟩
  rw [hr] at hk
  simp at hk
  rcases hk with rfl | rfl
  · unfold wpOpIn
    simp only [ho, hw, if_true]
    exact h _ (fun a' w' h1 h2 => ⟨h1, h2⟩)
  · unfold wpOpIn
    simp only [ho', hw', if_true]
    exact h' _ (fun a' w' h1 h2 => ⟨h1, h2⟩)
end

end Go.Proofs.YtnndgjnihhafbaaGreatDoor

/-
  The walk of the function that yields the hunks (diff.between, and the function that it makes).
-/
namespace Go.Proofs.YtnndgjnihhafbaaGreatDoor
open Go.RowKit Go.Shelf

attribute [local go_sem] Oper.semAt_some

/-- A hunk that is yielded: its values, and the lines that they read as. -/
structure HV where
  at_ : Nat
  vo : Value
  vn : Value
  old : List (List UInt8)
  new : List (List UInt8)
def HV.val (x : HV) : Value := hkV x.at_ x.vo x.vn
/-- Its lines lie in memory of its own. -/
def HV.Ok (B : Nat) (x : HV) (W : World) : Prop := W.ownsRow B 9 1 x.vo x.old.length (x.old.map txtV) ∧ W.ownsRow B 9 1 x.vn x.new.length (x.new.map txtV)

end Go.Proofs.YtnndgjnihhafbaaGreatDoor

/-
  The walks of diff.between and diff.Hunks.
-/
namespace Go.Proofs.YtnndgjnihhafbaaGreatDoor
open Go.RowKit Go.Shelf

attribute [local go_sem] Oper.semAt_some

/-- The cells of a row of hunks. -/
def hkCells (xs : List HV) : List Value := xs.flatMap fun x => [numV x.at_, x.vo, x.vn]
theorem HV.Ok.below {n₀ : Nat} {x : HV} {W W' : World} (h : HV.Ok n₀ x W) (hb : Below W.heap.size W W') : HV.Ok n₀ x W' := ⟨owns_below h.1 hb, owns_below h.2 hb⟩
end Go.Proofs.YtnndgjnihhafbaaGreatDoor

/-
  The walks of clerestorykit.SameHunk, SameHunks and of the law's samePairs, at rows that are the same.
-/
namespace Go.Proofs.YtnndgjnihhafbaaGreatDoor
open Go.RowKit

/-- A hunk's lines read, in w, as they are said to; they lie below m. -/
def HV.Low (m : Nat) (w : World) (x : HV) : Prop := RowLow m w x.vo x.old ∧ RowLow m w x.vn x.new
theorem HV.Low.below {m k : Nat} {w w' : World} {x : HV} (h : x.Low m w) (hb : Below k w w') (hm : m ≤ k) : x.Low m w' := ⟨h.1.below hb hm, h.2.below hb hm⟩
theorem HV.Low.mono {m k : Nat} {w : World} {x : HV} (h : x.Low m w) (hm : m ≤ k) : x.Low k w := ⟨h.1.mono hm, h.2.mono hm⟩
theorem HV.Ok.low {B : Nat} {w : World} {x : HV} (h : x.Ok B w) : x.Low w.heap.size w := ⟨RowLow.of_owns h.1, RowLow.of_owns h.2⟩
/-- v reads, in w, as a row of hunks; all of it lies below m. -/
def HkLow (m : Nat) (w : World) (v : Value) (xs : List HV) : Prop := CellsLow m w v xs.length (hkCells xs) ∧ ∀ x ∈ xs, x.Low m w
theorem HkLow.below {m k : Nat} {w w' : World} {v : Value} {xs : List HV} (h : HkLow m w v xs) (hb : Below k w w') (hm : m ≤ k) : HkLow m w' v xs :=
  ⟨h.1.below hb hm (fun h0 => by rw [List.length_eq_zero_iff.1 h0]; rfl), fun x hx => (h.2 x hx).below hb hm⟩
end Go.Proofs.YtnndgjnihhafbaaGreatDoor

/-
  Rows that are appended to, cut and put together: what each step gives.
-/
namespace Go.Proofs.YtnndgjnihhafbaaGreatDoor
open Go.RowKit Go.Shelf

set_option maxRecDepth 100000

/-- The first k of a row that is owned. -/
theorem owns_prefix {W : World} {base e g n cap k : Nat} {xs : List Value} (h : W.ownsRow base e 1 (.slice (some ⟨g, 0, none⟩) n cap) n xs) (hk : k ≤ n) : W.ownsRow base e 1 (.slice (some ⟨g, 0, none⟩) k cap) k (xs.take k) := by
  have hl := h.1
  rcases h.2 with ⟨e1, _⟩ | ⟨g', cap', cur, e1, hb, hg, hnc, hcm, hcs, ht⟩
  · cases e1
  · injection e1 with e1 _ e3
    injection e1 with e1
    injection e1 with e1 _ _
    subst e1 e3
    refine ⟨by simp; omega, .inr ⟨g, cap, cur, rfl, hb, hg, by omega, hcm, hcs, ?_⟩⟩
    rw [← ht, List.take_take]
    congr 1
    omega

end Go.Proofs.YtnndgjnihhafbaaGreatDoor

/-
  What the flat functions (do lists lie apart?) rest on: rows in memory of their own, written to, appended to; the others stay.
-/
namespace Go.Proofs.YtnndgjnihhafbaaGreatDoor
open Go.RowKit

/-- What lay below n, and all that does not hold elements of type e, is as it was. -/
def KeepT (e : TypeId) (n : Nat) (W W' : World) : Prop := Below n W W' ∧ ∀ (k : Nat) (c : Array Value) (t : TypeId) (fr : Nat × Nat), W.heap[k]? = some (.cells c t fr) → t ≠ e → W'.heap[k]? = some (.cells c t fr)
theorem KeepT.refl (e : TypeId) (n : Nat) (W : World) : KeepT e n W W := ⟨Below.refl _ _, fun _ _ _ _ h _ => h⟩
theorem KeepT.trans {e : TypeId} {n : Nat} {A B C : World} (h : KeepT e n A B) (k : KeepT e n B C) : KeepT e n A C := ⟨h.1.trans k.1, fun j c t fr hj h1 => k.2 j c t fr (h.2 j c t fr hj h1) h1⟩
theorem KeepT.of_below {e : TypeId} {n : Nat} {A B : World} (h : Below A.heap.size A B) (hn : n ≤ A.heap.size) : KeepT e n A B :=
  ⟨h.mono hn, fun j _ _ _ hj _ => (h.block j (Array.getElem?_eq_some_iff.1 hj).1).trans hj⟩
/-- A row's own block was written to. -/
theorem KeepT.of_grown {e : TypeId} {B n size : Nat} {W W' : World} {v : Value} {xs : List Value} (hrow : W.ownsRow B e size v n xs) (hg : W.grownBy W' v.ownBlock) (hn : B ≤ W.heap.size) : KeepT e B W W' := by
  refine ⟨⟨hg.os, hg.tape, hg.output, hg.size, fun k hk => hg.block k (by omega) (fun e => by have := (hrow.lt k e.symm).1; omega)⟩, fun j c t fr hj h1 => ?_⟩
  refine (hg.block j (Array.getElem?_eq_some_iff.1 hj).1 (fun e0 => ?_)).trans hj
  rcases hrow.2 with ⟨rfl, _⟩ | ⟨g, cap, cur, rfl, _, hgb, _⟩
  · cases e0
  · obtain rfl : j = g := by simpa [Value.ownBlock] using e0
    rw [hgb] at hj
    injection hj with hj
    injection hj with _ q _
    exact h1 q.symm

/-- Rows whose blocks are apart. -/
def Apart (R : List (Value × Nat)) : Prop := ∀ (j k : Nat) (p q : Value × Nat), R[j]? = some p → R[k]? = some q → j ≠ k → p.1.ownBlock = none ∨ p.1.ownBlock ≠ q.1.ownBlock
/-- All rows, each in memory of its own, in what f says of its cells. -/
def Own (e size B : Nat) (R : List (Value × Nat)) (W : World) (f : Nat → List Value → Prop) : Prop := ∀ (j : Nat) (p : Value × Nat), R[j]? = some p → ∃ xs, W.ownsRow B e size p.1 p.2 xs ∧ f j xs
theorem Own.below {e size B : Nat} {R : List (Value × Nat)} {W W' : World} {f : Nat → List Value → Prop} (h : Own e size B R W f) (hb : Below W.heap.size W W') : Own e size B R W' f := fun j p hp => by
  obtain ⟨xs, h1, h2⟩ := h j p hp
  exact ⟨xs, owns_below h1 hb, h2⟩
theorem Own.mono {e size B : Nat} {R : List (Value × Nat)} {W : World} {f g : Nat → List Value → Prop} (h : Own e size B R W f) (hfg : ∀ j p xs, R[j]? = some p → xs.length = p.2 * size → f j xs → g j xs) : Own e size B R W g := fun j p hp => by
  obtain ⟨xs, h1, h2⟩ := h j p hp
  exact ⟨xs, h1, hfg j p xs hp h1.1 h2⟩
/-- One row's block was written to: it holds ys now; all others stay. -/
theorem Own.put {e size B : Nat} {R : List (Value × Nat)} {W W' : World} {f g : Nat → List Value → Prop} (h : Own e size B R W f) (hA : Apart R) {k : Nat} {p : Value × Nat} (hp : R[k]? = some p) (hg : W.grownBy W' p.1.ownBlock) {ys : List Value} (hy : W'.ownsRow B e size p.1 p.2 ys) (hfy : g k ys) (hfg : ∀ j xs, j ≠ k → f j xs → g j xs) : Own e size B R W' g := fun j q hq => by
  by_cases hjk : j = k
  · subst hjk
    rw [hp] at hq
    cases hq
    exact ⟨ys, hy, hfy⟩
  · obtain ⟨xs, h1, h2⟩ := h j q hq
    exact ⟨xs, h1.kept hg (hA j k q p hq hp hjk), hfg j xs hjk h2⟩

theorem below_nw (A : World) (o : Obj) : Below A.heap.size A (A.alloc o) := (Below.refl _ A).alloc (Nat.le_refl _) _
theorem owns_set {W : World} {B b n size : Nat} {e t : TypeId} {v : Value} {xs : List Value} {c : Array Value} (ho : W.ownsRow B e size v n xs) (h : W.heap[b]? = some (.cells c t (0, 0))) (ht : t ≠ e) (i : Nat) (u : Value) : (W.setCell ⟨b, i, none⟩ u).ownsRow B e size v n xs := by
  refine ho.kept (grown_set W b i u) ?_
  rcases ho.2 with ⟨rfl, _⟩ | ⟨g, cap, cur, rfl, _, hg, _⟩
  · exact .inl rfl
  · right
    intro e0
    have : g = b := by simpa [Value.ownBlock] using e0
    subst this
    rw [h] at hg
    injection hg with q
    injection q with _ q _
    exact ht q
theorem heap_grown {W W' : World} {B b n size : Nat} {e t : TypeId} {v : Value} {xs : List Value} {c : Array Value} (ho : W.ownsRow B e size v n xs) (hg : W.grownBy W' v.ownBlock) (h : W.heap[b]? = some (.cells c t (0, 0))) (ht : t ≠ e) : W'.heap[b]? = some (.cells c t (0, 0)) := by
  refine (hg.block b (Array.getElem?_eq_some_iff.1 h).1 (fun e0 => ?_)).trans h
  rcases ho.2 with ⟨rfl, _⟩ | ⟨g, cap, cur, rfl, _, hgb, _⟩
  · cases e0
  · obtain rfl : b = g := by simpa [Value.ownBlock] using e0
    rw [h] at hgb
    injection hgb with q
    injection q with _ q _
    exact ht q

end Go.Proofs.YtnndgjnihhafbaaGreatDoor

/-
  What is read stays, whatever is made.
-/
namespace Go.Proofs.YtnndgjnihhafbaaGreatDoor
open Go.RowKit

theorem below_then {A B C : World} (h : Below A.heap.size A B) (k : Below B.heap.size B C) : Below A.heap.size A C := h.trans (k.mono h.size)
theorem below_new (A : World) (o : Obj) : Below A.heap.size A (A.alloc o) := (Below.refl _ A).alloc (Nat.le_refl _) _
theorem below_draw (A : World) (d : Nat) : Below A.heap.size A (A.drewN d) := below_drewN (Below.refl _ A) d
theorem RowLow.at {A B : World} {v : Value} {L : List (List UInt8)} (h : RowLow A.heap.size A v L) (hb : Below A.heap.size A B) : RowLow B.heap.size B v L := (h.below hb (Nat.le_refl _)).mono hb.size
theorem CellsLow.at {A B : World} {v : Value} {n : Nat} {xs : List Value} (h : CellsLow A.heap.size A v n xs) (hb : Below A.heap.size A B) (h0 : n = 0 → xs = []) : CellsLow B.heap.size B v n xs := (h.below hb (Nat.le_refl _) h0).mono hb.size
theorem HkLow.at {A B : World} {v : Value} {xs : List HV} (h : HkLow A.heap.size A v xs) (hb : Below A.heap.size A B) : HkLow B.heap.size B v xs :=
  ⟨h.1.at hb (fun h0 => by rw [List.length_eq_zero_iff.1 h0]; rfl), fun x hx => ((h.2 x hx).below hb (Nat.le_refl _)).mono hb.size⟩
/-- A row that is written out. -/
theorem CellsLow.lit (w : World) (l : List Value) (t : TypeId) (n : Nat) : CellsLow (w.alloc (.cells l.toArray t)).heap.size (w.alloc (.cells l.toArray t)) (.slice (some ⟨w.heap.size, 0, none⟩) n n) n l := by
  refine ⟨_, n, w.heap.size, 0, rfl, ⟨Nat.le_refl _, fun e => by cases e⟩, fun _ => ⟨rfl, by simp⟩, fun j x hx => ?_⟩
  rw [Nat.zero_add, Lib.cell_of_heap (World.alloc_heap_new w _)]
  simpa using hx

end Go.Proofs.YtnndgjnihhafbaaGreatDoor

/-
  Arguments that are rows of texts or of ints, opened.
-/
namespace Go.Proofs.YtnndgjnihhafbaaGreatDoor
open Go.ChangeShapes Go.WideShapes Go.ChangeAt Go.RowKit

theorem own : ownKnob Tryz.prog.godebug = none := by kernel_rfl

/-- Cells by an address, as a row. -/
theorem cells_arg {w : World} {a : Addr} {n cap : Nat} {xs : List Value} (hn : xs.length = n) (hcap : n ≤ cap) (hc : ∀ (j : Nat) (x : Value), xs[j]? = some x → w.cell? (a.add j) = some x) : CellsLow w.heap.size w (.slice (some a) n cap) n xs := by
  subst hn
  cases xs with
  | nil => exact ⟨some a, cap, 0, 0, rfl, ⟨hcap, fun e => by cases e⟩, fun h => absurd h (by simp), fun j x hx => by simp at hx⟩
  | cons y r =>
    obtain ⟨b, off, spot⟩ := a
    have h0 := hc 0 y rfl
    have hspot : spot = none := by simpa [Addr.add] using World.cell?_spot h0
    subst hspot
    have hlt : b < w.heap.size := by simpa [Addr.add] using World.block_lt_of_cell? _ _ h0
    refine ⟨_, cap, b, off, rfl, ⟨hcap, fun e => by cases e⟩, fun _ => ⟨rfl, hlt⟩, fun j x hx => ?_⟩
    have := hc j x hx
    rwa [Go.WideShapes.add_plain] at this

end Go.Proofs.YtnndgjnihhafbaaGreatDoor
