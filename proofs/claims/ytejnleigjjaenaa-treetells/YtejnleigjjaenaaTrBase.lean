/-
  Nodes and rows of nodes in worlds.
-/
import Derived.Test.YtejnleigjjaenaaTrMath
import Derived.Test.YtejnleigjjaenaaLows
import Derived.Test.YtejnleigjjaenaaHeld
import Derived.Test.YtejnleigjjaenaaFlatBase
import Derived.Test.YtejnleigjjaenaaAppend
namespace Go.Proofs.Ytejnleigjjaenaa
open Go.RowKit

/-- A node as it lies in memory: its Kids by their slice, and what these read as. -/
structure N1 where
  k : Int
  t : List UInt8
  n : Int
  v : Value
  kids : List Tr
def N1.cells (x : N1) : List Value := [.int .u8 x.k, .string (Ln.bs x.t), .int .i64 x.n, x.v]
def N1.tr (x : N1) : Tr := .mk x.k x.t x.n x.kids
def N1.Fit (x : N1) : Prop := (0 ≤ x.k ∧ x.k ≤ 255) ∧ x.t.length ≤ 9223372036854775807 ∧ (-9223372036854775808 ≤ x.n ∧ x.n ≤ 9223372036854775807)
def n1Cells : List N1 → List Value
  | [] => []
  | x :: r => x.cells ++ n1Cells r
theorem n1Cells_len (xs : List N1) : (n1Cells xs).length = xs.length * 4 := by
  induction xs with
  | nil => rfl
  | cons x r ih => simp [n1Cells, N1.cells, ih]; omega
theorem n1Cells_append (a b : List N1) : n1Cells (a ++ b) = n1Cells a ++ n1Cells b := by
  induction a with
  | nil => rfl
  | cons x r ih => simp [n1Cells, ih]
theorem n1Cells_at {xs : List N1} {i : Nat} {x : N1} (h : xs[i]? = some x) (j : Nat) (hj : j < 4) : (n1Cells xs)[i * 4 + j]? = x.cells[j]? := by
  have hi := (List.getElem?_eq_some_iff.1 h).1
  have e : xs = xs.take i ++ x :: xs.drop (i + 1) := by
    have h1 : xs.drop i = x :: xs.drop (i + 1) := by
      rw [List.drop_eq_getElem_cons hi]
      rw [List.getElem?_eq_getElem hi] at h
      cases h; rfl
    rw [← h1, List.take_append_drop]
  have hl : (n1Cells (xs.take i)).length = i * 4 := by rw [n1Cells_len, List.length_take, Nat.min_eq_left (by omega)]
  rw [e, n1Cells_append, List.getElem?_append_right (by omega), hl]
  have e2 : i * 4 + j - i * 4 = j := by omega
  rw [e2]
  show (x.cells ++ n1Cells (xs.drop (i + 1)))[j]? = x.cells[j]?
  exact List.getElem?_append_left (by simpa [N1.cells] using hj)

/-- v is a slice of n elements whose cells read, in w, as xs; its block is one of S. -/
def CellsS (S : Nat → Prop) (w : World) (v : Value) (n : Nat) (xs : List Value) : Prop :=
  ∃ ao cap b off, v = .slice ao n cap ∧ (n ≤ cap ∧ (ao = none → cap = 0)) ∧ (0 < n → ao = some ⟨b, off, none⟩ ∧ S b) ∧ ∀ (j : Nat) (x : Value), xs[j]? = some x → w.cell? ⟨b, off + j, none⟩ = some x
theorem CellsS.keep {S T : Nat → Prop} {w w' : World} {v : Value} {n : Nat} {xs : List Value} (h : CellsS S w v n xs) (hb : ∀ b, S b → w'.heap[b]? = w.heap[b]?) (hST : ∀ b, S b → T b) (h0 : n = 0 → xs = []) : CellsS T w' v n xs := by
  obtain ⟨ao, cap, b, off, hv, hc, ha, hx⟩ := h
  refine ⟨ao, cap, b, off, hv, hc, fun h => ⟨(ha h).1, hST b (ha h).2⟩, fun j x hj => ?_⟩
  by_cases hn : n = 0
  · rw [h0 hn] at hj; simp at hj
  · exact (World.cell?_of_block (w := w) (a := ⟨b, off + j, none⟩) (hb b (ha (by omega)).2)).trans (hx j x hj)

/-- v reads, in w, as a row of nodes, in blocks of S. -/
inductive RowR (S : Nat → Prop) (w : World) : Value → List Tr → Prop
  | mk {v : Value} {ts : List Tr} (xs : List N1) (e : ts = xs.map N1.tr) (hc : CellsS S w v xs.length (n1Cells xs)) (hl : xs.length ≤ 1000000000000000) (hf : ∀ x ∈ xs, x.Fit) (hk : ∀ x ∈ xs, RowR S w x.v x.kids) : RowR S w v ts

theorem RowR.keep {S T : Nat → Prop} {w w' : World} {v : Value} {ts : List Tr} (h : RowR S w v ts) (hb : ∀ b, S b → w'.heap[b]? = w.heap[b]?) (hST : ∀ b, S b → T b) : RowR T w' v ts := by
  induction h with
  | mk xs e hc hl hf hk ih => exact .mk xs e (hc.keep hb hST (fun h0 => by rw [List.length_eq_zero_iff.1 h0]; rfl)) hl hf ih
theorem RowR.mono {S T : Nat → Prop} {w : World} {v : Value} {ts : List Tr} (h : RowR S w v ts) (hST : ∀ b, S b → T b) : RowR T w v ts := h.keep (fun _ _ => rfl) hST
/-- All that lies in w. -/
def lowS (m : Nat) : Nat → Prop := fun b => b < m
theorem RowR.at {A B : World} {v : Value} {ts : List Tr} (h : RowR (lowS A.heap.size) A v ts) (hb : Below A.heap.size A B) : RowR (lowS B.heap.size) B v ts := h.keep (fun b hs => hb.block b hs) (fun _ hs => Nat.lt_of_lt_of_le hs hb.size)

/-- A node by its cells. -/
def NodeR (S : Nat → Prop) (w : World) (val : Value) (t : Tr) : Prop := ∃ x : N1, val = .agg x.cells.toArray ∧ x.tr = t ∧ x.Fit ∧ RowR S w x.v x.kids
theorem NodeR.at {A B : World} {v : Value} {t : Tr} (h : NodeR (lowS A.heap.size) A v t) (hb : Below A.heap.size A B) : NodeR (lowS B.heap.size) B v t := by
  obtain ⟨x, e1, e2, e3, e4⟩ := h
  exact ⟨x, e1, e2, e3, e4.at hb⟩

/-- What a row is, opened. -/
theorem RowR.parts {S : Nat → Prop} {w : World} {v : Value} {ts : List Tr} (h : RowR S w v ts) :
    ∃ (xs : List N1) (ao : Option Addr) (cap b off : Nat), ts = xs.map N1.tr ∧ v = .slice ao ts.length cap ∧ (ts.length ≤ cap ∧ (ao = none → cap = 0)) ∧ (0 < ts.length → ao = some ⟨b, off, none⟩ ∧ S b) ∧ ts.length ≤ 1000000000000000 ∧
      ∀ (i : Nat) (x : N1), xs[i]? = some x → x.Fit ∧ RowR S w x.v x.kids ∧ w.cell? ⟨b, off + i * 4, none⟩ = some (.int .u8 x.k) ∧ w.cell? ⟨b, off + i * 4 + 1, none⟩ = some (.string (Ln.bs x.t)) ∧ w.cell? ⟨b, off + i * 4 + 2, none⟩ = some (.int .i64 x.n) ∧ w.cell? ⟨b, off + i * 4 + 3, none⟩ = some x.v := by
  cases h with
  | mk xs e hc hl hf hk =>
    obtain ⟨ao, cap, b, off, hv, hcap, ha, hx⟩ := hc
    have hlen : ts.length = xs.length := by rw [e, List.length_map]
    refine ⟨xs, ao, cap, b, off, e, by rw [hlen]; exact hv, by rw [hlen]; exact hcap, by rw [hlen]; exact ha, by rw [hlen]; exact hl, fun i x hi => ⟨hf x (List.mem_of_getElem? hi), hk x (List.mem_of_getElem? hi), ?_, ?_, ?_, ?_⟩⟩
    · have := hx (i * 4) (.int .u8 x.k) (by have := n1Cells_at hi 0 (by omega); simpa [N1.cells] using this)
      exact this
    · have := hx (i * 4 + 1) (.string (Ln.bs x.t)) (by have := n1Cells_at hi 1 (by omega); simpa [N1.cells] using this)
      rwa [← Nat.add_assoc] at this
    · have := hx (i * 4 + 2) (.int .i64 x.n) (by have := n1Cells_at hi 2 (by omega); simpa [N1.cells] using this)
      rwa [← Nat.add_assoc] at this
    · have := hx (i * 4 + 3) x.v (by have := n1Cells_at hi 3 (by omega); simpa [N1.cells] using this)
      rwa [← Nat.add_assoc] at this

/-- A row of one node in a block of its own. -/
theorem RowR.one {S : Nat → Prop} {w : World} {b cap : Nat} {x : N1} {c : Array Value} {ty : TypeId} {fr : Nat × Nat} (hb : w.heap[b]? = some (.cells c ty fr)) (hc : c.toList = x.cells) (hcap : 1 ≤ cap) (hS : S b) (hf : x.Fit) (hr : RowR S w x.v x.kids) : RowR S w (.slice (some ⟨b, 0, none⟩) 1 cap) [x.tr] := by
  refine .mk [x] rfl ⟨_, cap, b, 0, rfl, ⟨hcap, fun e => by cases e⟩, fun _ => ⟨rfl, hS⟩, fun j u hu => ?_⟩ (by simp) (by simpa using hf) (by simpa using hr)
  rw [Lib.cell_of_heap hb, Nat.zero_add, ← Array.getElem?_toList, hc]
  simpa [n1Cells] using hu

end Go.Proofs.Ytejnleigjjaenaa
