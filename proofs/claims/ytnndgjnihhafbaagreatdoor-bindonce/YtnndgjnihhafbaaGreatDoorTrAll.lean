/-
  Several texts in one, as they are: TrBase, TrEach, TrThrough, TrSize, TrClone, TrCopy, TrGet, TrRows, TrRight, TrKids, TrRight2, TrEqb.
-/
import Derived.Test.YtnndgjnihhafbaaGreatDoorTrMath
import Derived.Test.YtnndgjnihhafbaaGreatDoorBaseAll
import Derived.Sort.LoopGhostIn
import Derived.Test.YtnndgjnihhafbaaGreatDoorLexAll
import Derived.MapKept

/-
  Nodes and rows of nodes in worlds.
-/
namespace Go.Proofs.YtnndgjnihhafbaaGreatDoor
open Go.RowKit

/-- A node as it lies in memory: its Kids by their slice, and what these read as. -/
structure N1 where
  k : Int
  t : List UInt8
  n : Int
  v : Value
  kids : List Tr
def N1.cells (x : N1) : List Value := [.int .u8 x.k, .string (Ln.bs x.t), .int .i64 x.n, x.v]
def N1.tr (x : N1) : Tr := .mk x.k x.t x.n x.kids
def N1.Fit (x : N1) : Prop := (0 ≤ x.k ∧ x.k ≤ 255) ∧ x.t.length ≤ 9223372036854775807 ∧ (-9223372036854775808 ≤ x.n ∧ x.n ≤ 9223372036854775807)
def n1Cells : List N1 → List Value
  | [] => []
  | x :: r => x.cells ++ n1Cells r
theorem n1Cells_len (xs : List N1) : (n1Cells xs).length = xs.length * 4 := by
  induction xs with
  | nil => rfl
  | cons x r ih => simp [n1Cells, N1.cells, ih]; omega
theorem n1Cells_append (a b : List N1) : n1Cells (a ++ b) = n1Cells a ++ n1Cells b := by
  induction a with
  | nil => rfl
  | cons x r ih => simp [n1Cells, ih]
theorem n1Cells_at {xs : List N1} {i : Nat} {x : N1} (h : xs[i]? = some x) (j : Nat) (hj : j < 4) : (n1Cells xs)[i * 4 + j]? = x.cells[j]? := by
  have hi := (List.getElem?_eq_some_iff.1 h).1
  have e : xs = xs.take i ++ x :: xs.drop (i + 1) := by
    have h1 : xs.drop i = x :: xs.drop (i + 1) := by
      rw [List.drop_eq_getElem_cons hi]
      rw [List.getElem?_eq_getElem hi] at h
      cases h; rfl
    rw [← h1, List.take_append_drop]
  have hl : (n1Cells (xs.take i)).length = i * 4 := by rw [n1Cells_len, List.length_take, Nat.min_eq_left (by omega)]
  rw [e, n1Cells_append, List.getElem?_append_right (by omega), hl]
  have e2 : i * 4 + j - i * 4 = j := by omega
  rw [e2]
  show (x.cells ++ n1Cells (xs.drop (i + 1)))[j]? = x.cells[j]?
  exact List.getElem?_append_left (by simpa [N1.cells] using hj)

/-- v is a slice of n elements whose cells read, in w, as xs; its block is one of S. -/
def CellsS (S : Nat → Prop) (w : World) (v : Value) (n : Nat) (xs : List Value) : Prop :=
  ∃ ao cap b off, v = .slice ao n cap ∧ (n ≤ cap ∧ (ao = none → cap = 0)) ∧ (0 < n → ao = some ⟨b, off, none⟩ ∧ S b) ∧ ∀ (j : Nat) (x : Value), xs[j]? = some x → w.cell? ⟨b, off + j, none⟩ = some x
theorem CellsS.keep {S T : Nat → Prop} {w w' : World} {v : Value} {n : Nat} {xs : List Value} (h : CellsS S w v n xs) (hb : ∀ b, S b → w'.heap[b]? = w.heap[b]?) (hST : ∀ b, S b → T b) (h0 : n = 0 → xs = []) : CellsS T w' v n xs := by
  obtain ⟨ao, cap, b, off, hv, hc, ha, hx⟩ := h
  refine ⟨ao, cap, b, off, hv, hc, fun h => ⟨(ha h).1, hST b (ha h).2⟩, fun j x hj => ?_⟩
  by_cases hn : n = 0
  · rw [h0 hn] at hj; simp at hj
  · exact (World.cell?_of_block (w := w) (a := ⟨b, off + j, none⟩) (hb b (ha (by omega)).2)).trans (hx j x hj)

/-- v reads, in w, as a row of nodes, in blocks of S. -/
inductive RowR (S : Nat → Prop) (w : World) : Value → List Tr → Prop
  | mk {v : Value} {ts : List Tr} (xs : List N1) (e : ts = xs.map N1.tr) (hc : CellsS S w v xs.length (n1Cells xs)) (hl : xs.length ≤ 1000000000000000) (hf : ∀ x ∈ xs, x.Fit) (hk : ∀ x ∈ xs, RowR S w x.v x.kids) : RowR S w v ts

theorem RowR.keep {S T : Nat → Prop} {w w' : World} {v : Value} {ts : List Tr} (h : RowR S w v ts) (hb : ∀ b, S b → w'.heap[b]? = w.heap[b]?) (hST : ∀ b, S b → T b) : RowR T w' v ts := by
  induction h with
  | mk xs e hc hl hf hk ih => exact .mk xs e (hc.keep hb hST (fun h0 => by rw [List.length_eq_zero_iff.1 h0]; rfl)) hl hf ih
theorem RowR.mono {S T : Nat → Prop} {w : World} {v : Value} {ts : List Tr} (h : RowR S w v ts) (hST : ∀ b, S b → T b) : RowR T w v ts := h.keep (fun _ _ => rfl) hST
/-- All that lies in w. -/
def lowS (m : Nat) : Nat → Prop := fun b => b < m
theorem RowR.at {A B : World} {v : Value} {ts : List Tr} (h : RowR (lowS A.heap.size) A v ts) (hb : Below A.heap.size A B) : RowR (lowS B.heap.size) B v ts := h.keep (fun b hs => hb.block b hs) (fun _ hs => Nat.lt_of_lt_of_le hs hb.size)

/-- A node by its cells. -/
def NodeR (S : Nat → Prop) (w : World) (val : Value) (t : Tr) : Prop := ∃ x : N1, val = .agg x.cells.toArray ∧ x.tr = t ∧ x.Fit ∧ RowR S w x.v x.kids
theorem NodeR.at {A B : World} {v : Value} {t : Tr} (h : NodeR (lowS A.heap.size) A v t) (hb : Below A.heap.size A B) : NodeR (lowS B.heap.size) B v t := by
  obtain ⟨x, e1, e2, e3, e4⟩ := h
  exact ⟨x, e1, e2, e3, e4.at hb⟩

/-- What a row is, opened. -/
theorem RowR.parts {S : Nat → Prop} {w : World} {v : Value} {ts : List Tr} (h : RowR S w v ts) :
    ∃ (xs : List N1) (ao : Option Addr) (cap b off : Nat), ts = xs.map N1.tr ∧ v = .slice ao ts.length cap ∧ (ts.length ≤ cap ∧ (ao = none → cap = 0)) ∧ (0 < ts.length → ao = some ⟨b, off, none⟩ ∧ S b) ∧ ts.length ≤ 1000000000000000 ∧
      ∀ (i : Nat) (x : N1), xs[i]? = some x → x.Fit ∧ RowR S w x.v x.kids ∧ w.cell? ⟨b, off + i * 4, none⟩ = some (.int .u8 x.k) ∧ w.cell? ⟨b, off + i * 4 + 1, none⟩ = some (.string (Ln.bs x.t)) ∧ w.cell? ⟨b, off + i * 4 + 2, none⟩ = some (.int .i64 x.n) ∧ w.cell? ⟨b, off + i * 4 + 3, none⟩ = some x.v := by
  cases h with
  | mk xs e hc hl hf hk =>
    obtain ⟨ao, cap, b, off, hv, hcap, ha, hx⟩ := hc
    have hlen : ts.length = xs.length := by rw [e, List.length_map]
    refine ⟨xs, ao, cap, b, off, e, by rw [hlen]; exact hv, by rw [hlen]; exact hcap, by rw [hlen]; exact ha, by rw [hlen]; exact hl, fun i x hi => ⟨hf x (List.mem_of_getElem? hi), hk x (List.mem_of_getElem? hi), ?_, ?_, ?_, ?_⟩⟩
    · have := hx (i * 4) (.int .u8 x.k) (by have := n1Cells_at hi 0 (by omega); simpa [N1.cells] using this)
      exact this
    · have := hx (i * 4 + 1) (.string (Ln.bs x.t)) (by have := n1Cells_at hi 1 (by omega); simpa [N1.cells] using this)
      rwa [← Nat.add_assoc] at this
    · have := hx (i * 4 + 2) (.int .i64 x.n) (by have := n1Cells_at hi 2 (by omega); simpa [N1.cells] using this)
      rwa [← Nat.add_assoc] at this
    · have := hx (i * 4 + 3) x.v (by have := n1Cells_at hi 3 (by omega); simpa [N1.cells] using this)
      rwa [← Nat.add_assoc] at this

/-- A row of one node in a block of its own. -/
theorem RowR.one {S : Nat → Prop} {w : World} {b cap : Nat} {x : N1} {c : Array Value} {ty : TypeId} {fr : Nat × Nat} (hb : w.heap[b]? = some (.cells c ty fr)) (hc : c.toList = x.cells) (hcap : 1 ≤ cap) (hS : S b) (hf : x.Fit) (hr : RowR S w x.v x.kids) : RowR S w (.slice (some ⟨b, 0, none⟩) 1 cap) [x.tr] := by
  refine .mk [x] rfl ⟨_, cap, b, 0, rfl, ⟨hcap, fun e => by cases e⟩, fun _ => ⟨rfl, hS⟩, fun j u hu => ?_⟩ (by simp) (by simpa using hf) (by simpa using hr)
  rw [Lib.cell_of_heap hb, Nat.zero_add, ← Array.getElem?_toList, hc]
  simpa [n1Cells] using hu

end Go.Proofs.YtnndgjnihhafbaaGreatDoor

/-
  The walks of through and each: rows of nodes are gone through by a closure that calls itself; beyond 40 they wait.
-/
namespace Go.Proofs.YtnndgjnihhafbaaGreatDoor
open Go.RowKit Go.Shelf

attribute [local go_sem] Oper.semAt_some

/-- The types of what through makes. -/
def thrT : List TypeId := [3, 23, 159, 122, 123, 77]
/-- What through leaves alone: all that lay below n, and all of other types. -/
structure KeepO (n : Nat) (w w' : World) : Prop where
  os : w'.os = w.os
  tape : w'.tape = w.tape
  output : w'.output = w.output
  size : w.heap.size ≤ w'.heap.size
  old : ∀ b, b < n → w'.heap[b]? = w.heap[b]?
  other : ∀ (b : Nat) (c : Array Value) (t : TypeId) (fr : Nat × Nat), w.heap[b]? = some (.cells c t fr) → t ∉ thrT → w'.heap[b]? = some (.cells c t fr)
/-- What is done at each node leaves alone: what through has made. -/
structure KeepD (n : Nat) (w w' : World) : Prop where
  size : w.heap.size ≤ w'.heap.size
  own : ∀ (b : Nat) (c : Array Value) (t : TypeId) (fr : Nat × Nat), n ≤ b → w.heap[b]? = some (.cells c t fr) → t ∈ thrT → w'.heap[b]? = some (.cells c t fr)

theorem KeepO.refl (n : Nat) (w : World) : KeepO n w w := ⟨rfl, rfl, rfl, Nat.le_refl _, fun _ _ => rfl, fun _ _ _ _ h _ => h⟩
theorem KeepO.trans {n : Nat} {a b c : World} (h : KeepO n a b) (k : KeepO n b c) : KeepO n a c :=
  ⟨k.os.trans h.os, k.tape.trans h.tape, k.output.trans h.output, Nat.le_trans h.size k.size, fun i hi => (k.old i hi).trans (h.old i hi), fun i x t fr hi ht => k.other i x t fr (h.other i x t fr hi ht) ht⟩
theorem KeepO.of_below {n : Nat} {w w' : World} (h : Below w.heap.size w w') (hn : n ≤ w.heap.size) : KeepO n w w' :=
  ⟨h.os, h.tape, h.output, h.size, fun b hb => h.block b (by omega), fun b c t fr hb _ => (h.block b (Array.getElem?_eq_some_iff.1 hb).1).trans hb⟩
theorem KeepO.of_set {n b : Nat} {w : World} {c : Array Value} {t : TypeId} {fr : Nat × Nat} (hb : w.heap[b]? = some (.cells c t fr)) (ht : t ∈ thrT) (hn : n ≤ b) (i : Nat) (u : Value) : KeepO n w (w.setCell ⟨b, i, none⟩ u) := by
  have hg := grown_set w b i u
  have hlt := (Array.getElem?_eq_some_iff.1 hb).1
  refine ⟨hg.os, hg.tape, hg.output, hg.size, fun k hk => hg.block k (by omega) (fun e => by cases e; omega), fun k x t' fr' hk ht' => ?_⟩
  by_cases e : k = b
  · subst e; rw [hb] at hk; cases hk; exact absurd ht ht'
  · exact (hg.block k (Array.getElem?_eq_some_iff.1 hk).1 (fun e' => e (by cases e'; rfl))).trans hk
theorem KeepO.of_grown {n k : Nat} {w w' : World} {v : Value} {xs : List Value} (hrow : w.ownsRow n 23 1 v k xs) (hg : w.grownBy w' v.ownBlock) (hn : n ≤ w.heap.size) : KeepO n w w' := by
  refine ⟨hg.os, hg.tape, hg.output, hg.size, fun b hb => hg.block b (by omega) (fun e => ?_), fun b c t fr hb ht => (hg.block b (Array.getElem?_eq_some_iff.1 hb).1 (fun e => ?_)).trans hb⟩
  · rcases hrow.2 with ⟨rfl, _⟩ | ⟨g, cap, cur, rfl, h1, _⟩
    · cases e
    · cases e; exact absurd h1 (Nat.not_le_of_gt hb)
  · rcases hrow.2 with ⟨rfl, _⟩ | ⟨g, cap, cur, rfl, h1, h2, _⟩
    · cases e
    · cases e; rw [hb] at h2; cases h2; exact ht (by decide)

/-- A row that waits to be gone through, from a place on. -/
structure Job where
  v : Value
  i : Nat
  ts : List Tr
def mu : List Job → Nat
  | [] => 0
  | j :: r => Tr.sizes j.ts + 1 + mu r
theorem mu_append (a b : List Job) : mu (a ++ b) = mu a + mu b := by
  induction a with
  | nil => simp [mu]
  | cons x r ih => simp [mu, ih]; omega
theorem mu_len (a : List Job) : a.length ≤ mu a := by
  induction a with
  | nil => simp [mu]
  | cons x r ih => simp [mu]; omega

/-- What is done at each node, by the function g with what it holds: Inv tells what is still to be done. -/
structure Doing (n g : Nat) (lb : Array Value) (Inv : List Job → World → Prop) : Prop where
  perm : ∀ {P P' : List Job} {w : World}, P.Perm P' → Inv P w → Inv P' w
  stab : ∀ {P : List Job} {w w' : World}, Inv P w → KeepO n w w' → Inv P w'
  nil : ∀ {v : Value} {i : Nat} {P : List Job} {w : World}, Inv (⟨v, i, []⟩ :: P) w → Inv P w
  read : ∀ {v : Value} {i : Nat} {ts : List Tr} {P : List Job} {w : World}, Inv (⟨v, i, ts⟩ :: P) w → ∃ ao cap, v = .slice ao (i + ts.length) cap ∧ i + ts.length ≤ 1000000000000000 ∧ (0 < ts.length → ∃ b off, ao = some ⟨b, off, none⟩)
  step : ∀ {b off m cap i : Nat} {t : Tr} {ts : List Tr} {P : List Job} {w : World}, Inv (⟨.slice (some ⟨b, off, none⟩) m cap, i, t :: ts⟩ :: P) w →
    Calls Tryz.prog g (#[.pointer (some ⟨b, off + i * 4, none⟩)] ++ lb) w fun e w' => e = .returned (.tuple #[]) ∧ KeepD n w w' ∧ ∃ v', w'.cell? ⟨b, off + i * 4 + 3, none⟩ = some v' ∧ Inv (⟨v', 0, t.kids⟩ :: ⟨.slice (some ⟨b, off, none⟩) m cap, i + 1, ts⟩ :: P) w'

/-- What through has made: d open calls, the rows W that wait. -/
structure TW (n c0 b0 b2 b3 b4 g : Nat) (lb : Array Value) (d : Nat) (W : List Value) (w : World) : Prop where
  n0 : n ≤ c0 ∧ n ≤ b0 ∧ n ≤ b2 ∧ n ≤ b3 ∧ n ≤ b4
  doB : w.heap[c0]? = some (.cells #[.func (.func g) #[] lb] 77 (0, 0))
  vis : w.heap[b0]? = some (.cells #[.func (.func 94) #[] #[.pointer (some ⟨c0, 0, none⟩)]] 123 (0, 0))
  dwn : w.heap[b4]? = some (.cells #[.func (.func 132) #[] #[.pointer (some ⟨b3, 0, none⟩), .pointer (some ⟨b2, 0, none⟩), .pointer (some ⟨b0, 0, none⟩), .pointer (some ⟨b4, 0, none⟩)]] 122 (0, 0))
  deep : w.heap[b3]? = some (.cells #[.int .i64 d] 3 (0, 0))
  wait : ∃ v, w.heap[b2]? = some (.cells #[v] 159 (0, 0)) ∧ w.ownsRow n 23 1 v W.length W

theorem TW.keep {n c0 b0 b2 b3 b4 g : Nat} {lb : Array Value} {d : Nat} {W : List Value} {w w' : World} (h : TW n c0 b0 b2 b3 b4 g lb d W w) (k : KeepD n w w') : TW n c0 b0 b2 b3 b4 g lb d W w' := by
  obtain ⟨⟨n1, n2, n3, n4, n5⟩, h1, h2, h3, h4, v, h5, h6, h7⟩ := h
  refine ⟨⟨n1, n2, n3, n4, n5⟩, k.own _ _ _ _ n1 h1 (by decide), k.own _ _ _ _ n2 h2 (by decide), k.own _ _ _ _ n5 h3 (by decide), k.own _ _ _ _ n4 h4 (by decide), v, k.own _ _ _ _ n3 h5 (by decide), h6, ?_⟩
  rcases h7 with h7 | ⟨gg, cap, cur, e1, e2, e3, e4⟩
  · exact .inl h7
  · exact .inr ⟨gg, cap, cur, e1, e2, k.own _ _ _ _ e2 e3 (by decide), e4⟩

/-- A call of the closure that calls itself. -/
def DownAt (n c0 b0 b2 b3 b4 g : Nat) (lb : Array Value) (Inv : List Job → World → Prop) (ts : List Tr) : Prop :=
  ∀ (d : Nat) (W : List Value) (P : List Job) (v : Value) (w : World), d ≤ 40 → W.length + Tr.sizes ts ≤ 1000000 → TW n c0 b0 b2 b3 b4 g lb d W w → Inv (⟨v, 0, ts⟩ :: P) w →
    Calls Tryz.prog 132 #[v, .pointer (some ⟨b3, 0, none⟩), .pointer (some ⟨b2, 0, none⟩), .pointer (some ⟨b0, 0, none⟩), .pointer (some ⟨b4, 0, none⟩)] w fun e w' => e = .returned (.tuple #[]) ∧
      ∃ Q : List Job, TW n c0 b0 b2 b3 b4 g lb d (W ++ Q.map Job.v) w' ∧ Inv (Q ++ P) w' ∧ (∀ j ∈ Q, j.i = 0) ∧ mu Q ≤ (if d = 40 then Tr.sizes ts + 1 else Tr.sizes ts)

set_option maxRecDepth 100000 in
set_option maxHeartbeats 4000000 in
theorem visit_any {n c0 b0 b2 b3 b4 g : Nat} {lb : Array Value} {Inv : List Job → World → Prop} (D : Doing n g lb Inv) (ts : List Tr) (down : ∀ ts' : List Tr, Tr.sizes ts' < Tr.sizes ts → DownAt n c0 b0 b2 b3 b4 g lb Inv ts')
    (d : Nat) (W : List Value) (P : List Job) (v : Value) (w : World) (hd : d < 40) (hW : W.length + Tr.sizes ts ≤ 1000000) (htw : TW n c0 b0 b2 b3 b4 g lb (d + 1) W w) (hi : Inv (⟨v, 0, ts⟩ :: P) w) (hgg : ∀ args w, (callFunc g args).run Tryz.prog w = .ok (.enter g args) w) :
    Calls Tryz.prog 94 #[v, .func (.func 132) #[] #[.pointer (some ⟨b3, 0, none⟩), .pointer (some ⟨b2, 0, none⟩), .pointer (some ⟨b0, 0, none⟩), .pointer (some ⟨b4, 0, none⟩)], .pointer (some ⟨c0, 0, none⟩)] w fun e w' => e = .returned (.tuple #[]) ∧
      ∃ Q : List Job, TW n c0 b0 b2 b3 b4 g lb (d + 1) (W ++ Q.map Job.v) w' ∧ Inv (Q ++ P) w' ∧ (∀ j ∈ Q, j.i = 0) ∧ mu Q ≤ Tr.sizes ts := by
  obtain ⟨ao, cap, rfl, hlen, hao⟩ := D.read hi
  rw [Nat.zero_add] at hi hlen ⊢
  have HST : Hid (∃ Q : List Job, TW n c0 b0 b2 b3 b4 g lb (d + 1) (W ++ Q.map Job.v) w ∧ Inv (⟨.slice ao ts.length cap, 0, ts.drop 0⟩ :: (Q ++ P)) w ∧ (∀ j ∈ Q, j.i = 0) ∧ mu Q ≤ Tr.sizes (ts.take 0)) := ⟨[], by simpa using htw, by simpa using hi, by simp, by simp [mu]⟩
  have HDN : Hid (_) := down
  have HG : Hid (_) := hgg
  obtain ⟨N, hN⟩ : ∃ N, N = ts.length := ⟨_, rfl⟩
  have HN : Hid (N = ts.length) := hN
  rw [← hN] at HST hlen hao ⊢
  clear down htw hi hgg hN
  refine (callsIn_wide (n := 3)).1 ?_
  refine callsIn_of_wp Tryz.func94 rfl trivial ?_ rfl
  simp only [Tryz.ntmps94, List.size_toArray, List.length_cons, List.length_nil, Nat.reduceAdd, Nat.reduceSub, Array.replicate_succ, Array.replicate_zero, List.push_toArray, List.append_toArray, List.nil_append, List.cons_append]
  gi_wp2
  gi_loopw [8] (fun i wr => ∃ k : Nat, k ≤ N ∧ i = .int .i64 k ∧ ∃ Q : List Job, TW n c0 b0 b2 b3 b4 g lb (d + 1) (W ++ Q.map Job.v) wr ∧ Inv (⟨.slice ao N cap, k, ts.drop k⟩ :: (Q ++ P)) wr ∧ (∀ j ∈ Q, j.i = 0) ∧ mu Q ≤ Tr.sizes (ts.take k)) (fun i _ => N - (intOf i).toNat)
  case atStart => exact ⟨0, Nat.zero_le _, rfl, HST.out⟩
  case round =>
    clear HST
    obtain ⟨k, hk, rfl, Q, htw, hi, hq0, hmu⟩ := hrel
    by_cases hlt : k < N
    · obtain ⟨b, off, rfl⟩ := hao (by omega)
      clear hao
      obtain ⟨t, htk⟩ : ∃ t, ts[k]? = some t := ⟨ts[k]'(by have := HN.out; omega), List.getElem?_eq_getElem _⟩
      have edrop : ts.drop k = t :: ts.drop (k + 1) := by
        have hk' : k < ts.length := by have := HN.out; omega
        rw [List.drop_eq_getElem_cons hk']
        rw [List.getElem?_eq_getElem hk'] at htk
        cases htk; rfl
      have etake : Tr.sizes (ts.take (k + 1)) = Tr.sizes (ts.take k) + Tr.size t := by
        rw [List.take_add_one, htk, Tr.sizes_append]; simp [Tr.sizes_cons, Tr.sizes_nil]
      have eall : Tr.sizes (ts.take k) + Tr.sizes (ts.drop k) = Tr.sizes ts := by rw [← Tr.sizes_append, List.take_append_drop]
      have esz : Tr.size t = 1 + Tr.sizes t.kids := Tr.size_eq t
      rw [edrop, Tr.sizes_cons] at eall
      rw [edrop] at hi
      have hcD : wr.cell? ⟨c0, 0, none⟩ = some (.func (.func g) #[] lb) := by rw [Lib.cell_of_heap htw.doB]; rfl
      have hcD1 : wr.drew.cell? ⟨c0, 0, none⟩ = some (.func (.func g) #[] lb) := hcD
      have HM : Hid (Tr.sizes (ts.take (k + 1)) = Tr.sizes (ts.take k) + Tr.size t ∧ Tr.sizes (ts.take k) + (t.size + Tr.sizes (ts.drop (k + 1))) = Tr.sizes ts ∧ Tr.size t = 1 + Tr.sizes t.kids ∧ mu Q ≤ Tr.sizes (ts.take k)) := ⟨etake, eall, esz, hmu⟩
      have HT : Hid (_) := htw
      have HI : Hid (_) := hi
      have HW : Hid (_) := hW
      clear etake eall esz hmu htw hi hW edrop htk
      gi_wp2
      refine region_lex (fun z => z.cell? ⟨c0, 0, none⟩ = some (.func (.func g) #[] lb)) 4 1 rfl (by kernel_rfl) (by kernel_rfl) (by kernel_rfl) (by kernel_rfl) (fun _ _ d _ _ h => by cases d <;> exact h) hcD1 ?_
      simp only [List.take_succ_cons, List.take_zero]
      iterate 4 (first
        | (apply lexC_want
           · rfl
           · exact fun _ => rfl
           · (intro w' hw'; go_simp; try rfl)
           simp only [Act.put, List.setIfInBounds_toArray, List.set_cons_zero, List.set_cons_succ]))
      refine lexC_nil ?_
      refine anyC_one (i := 4) (by kernel_rfl) rfl (by rfl) (fun K1 hK1 => ?_)
      go_simp
      refine ⟨trivial, ?_⟩
      rw [HG.out]
      simp only [Oper.uponIn]
      refine ⟨by omega, ?_⟩
      refine (callsIn_wide.2 (D.step (D.stab HI.out (KeepO.of_below (below_draw wr 1) (by have := HT.out.n0; have := (Array.getElem?_eq_some_iff.1 HT.out.doB).1; omega))))).mono ?_
      rintro e w1 ⟨rfl, kd, v', hv', hi1⟩
      have kd1 : KeepD n wr w1 := ⟨kd.size, kd.own⟩
      have HT1 : Hid (_) := HT.out.keep kd1
      have hcD2 : w1.cell? ⟨c0, 0, none⟩ = some (.func (.func g) #[] lb) := by rw [Lib.cell_of_heap HT1.out.doB]; rfl
      have HI1 : Hid (_) := hi1
      clear hi1 kd kd1 HT HI hcD hcD1
      refine hK1 _ _ hcD2 ?_
      clear hK1
      refine anyC_done (by kernel_rfl) ?_
      have hm9 := HM.out
      have hw9 := HW.out
      have hl9 : (W ++ Q.map Job.v).length + Tr.sizes t.kids ≤ 1000000 := by
        have := mu_len Q
        rw [List.length_append, List.length_map]; omega
      have hlt9 : Tr.sizes t.kids < Tr.sizes ts := by omega
      have HL9 : Hid (_) := hl9
      have HLT : Hid (_) := hlt9
      clear hl9 hlt9 hm9 hw9
      gi_wp2
      refine ⟨trivial, ?_⟩
      refine (callsIn_wide.2 (HDN.out t.kids HLT.out (d + 1) _ _ v' w1 (by omega) HL9.out HT1.out HI1.out)).mono ?_
      rintro e w2 ⟨rfl, Q1, htw2, hi2, hq1, hmu2⟩
      have HFIN : Hid (∃ Q : List Job, TW n c0 b0 b2 b3 b4 g lb (d + 1) (W ++ Q.map Job.v) w2 ∧ Inv (⟨.slice (some ⟨b, off, none⟩) N cap, k + 1, ts.drop (k + 1)⟩ :: (Q ++ P)) w2 ∧ (∀ j ∈ Q, j.i = 0) ∧ mu Q ≤ Tr.sizes (ts.take (k + 1))) := by
        refine ⟨Q ++ Q1, by rw [List.map_append, ← List.append_assoc]; exact htw2, D.perm ?_ hi2, fun j hj => ?_, ?_⟩
        · refine List.perm_middle.trans (List.Perm.cons _ ?_)
          rw [← List.append_assoc]
          exact List.Perm.append_right _ List.perm_append_comm
        · rcases List.mem_append.1 hj with hj | hj
          · exact hq0 j hj
          · exact hq1 j hj
        · have hm9 := HM.out
          rw [mu_append]
          split at hmu2 <;> omega
      clear htw2 hi2 hmu2 HT1 HI1 HM
      gi_wp2
      refine ⟨⟨k + 1, by omega, by simp, HFIN.out⟩, by simp [intOf]; omega⟩
    · have hkN : k = N := by omega
      subst hkN
      gi_wp2
      go_end0
      refine ⟨rfl, Q, htw, ?_, hq0, ?_⟩
      · have e0 : ts.drop k = [] := by rw [HN.out, List.drop_length]
        rw [e0] at hi
        exact D.nil hi
      · rw [HN.out, List.take_length] at hmu
        exact hmu

theorem info_rows : (Tryz.prog.info? 23).map (fun i => (i.zero, i.size, i.bytes)) = some (some (.slice none 0 0), 1, 24) := by kernel_rfl
theorem heap_set_ne {w : World} {b b' : Nat} {c c' : Array Value} {t t' : TypeId} {fr fr' : Nat × Nat} (h : w.heap[b]? = some (.cells c t fr)) (h' : w.heap[b']? = some (.cells c' t' fr')) (ht : t ≠ t') (i : Nat) (u : Value) : (w.setCell ⟨b', i, none⟩ u).heap[b]? = some (.cells c t fr) := by
  refine ((grown_set w b' i u).block b (Array.getElem?_eq_some_iff.1 h).1 (fun e => ?_)).trans h
  have e' : b = b' := by cases e; rfl
  subst e'
  rw [h] at h'
  cases h'
  exact ht rfl

theorem TW.setDeep {n c0 b0 b2 b3 b4 g : Nat} {lb : Array Value} {d : Nat} {W : List Value} {w : World} (h : TW n c0 b0 b2 b3 b4 g lb d W w) (d' : Nat) : TW n c0 b0 b2 b3 b4 g lb d' W (w.setCell ⟨b3, 0, none⟩ (.int .i64 d')) := by
  obtain ⟨hn, h1, h2, h3, h4, v, h5, h6⟩ := h
  exact ⟨hn, heap_set_ne h1 h4 (by decide) _ _, heap_set_ne h2 h4 (by decide) _ _, heap_set_ne h3 h4 (by decide) _ _, heap_setCell_same w b3 0 _ 3 _ h4, v, heap_set_ne h5 h4 (by decide) _ _, owns_set h6 h4 (by decide) _ _⟩
theorem TW.nw {n c0 b0 b2 b3 b4 g : Nat} {lb : Array Value} {d : Nat} {W : List Value} {w : World} (h : TW n c0 b0 b2 b3 b4 g lb d W w) : n ≤ w.heap.size := by
  have := h.n0
  have := (Array.getElem?_eq_some_iff.1 h.doB).1
  omega
theorem TW.setWait {n c0 b0 b2 b3 b4 g : Nat} {lb : Array Value} {d : Nat} {W W2 : List Value} {w : World} (h : TW n c0 b0 b2 b3 b4 g lb d W w) {v : Value} (hv : w.ownsRow n 23 1 v W2.length W2) : TW n c0 b0 b2 b3 b4 g lb d W2 (w.setCell ⟨b2, 0, none⟩ v) := by
  obtain ⟨hn, h1, h2, h3, h4, v0, h5, h6⟩ := h
  exact ⟨hn, heap_set_ne h1 h5 (by decide) _ _, heap_set_ne h2 h5 (by decide) _ _, heap_set_ne h3 h5 (by decide) _ _, heap_set_ne h4 h5 (by decide) _ _, v, heap_setCell_same w b2 0 _ _ _ h5, owns_set hv h5 (by decide) _ _⟩

set_option maxRecDepth 100000 in
set_option maxHeartbeats 4000000 in
theorem down_any {n c0 b0 b2 b3 b4 g : Nat} {lb : Array Value} {Inv : List Job → World → Prop} (D : Doing n g lb Inv) (hgg : ∀ args w, (callFunc g args).run Tryz.prog w = .ok (.enter g args) w) (N : Nat) :
    ∀ ts : List Tr, Tr.sizes ts ≤ N → DownAt n c0 b0 b2 b3 b4 g lb Inv ts := by
  induction N using Nat.strongRecOn with
  | _ N ih =>
  intro ts hts d W P v w hd hW htw hi
  have HV : Hid (_) := visit_any D ts (fun ts' h => ih (Tr.sizes ts') (by omega) ts' (Nat.le_refl _))
  clear ih
  have hnw : n ≤ w.heap.size := htw.nw
  have cD : w.cell? ⟨b3, 0, none⟩ = some (.int .i64 d) := by rw [Lib.cell_of_heap htw.deep]; rfl
  have fD : w.frozen? ⟨b3, 0, none⟩ = false := frozen_of_row w b3 0 _ _ htw.deep
  obtain ⟨ao, cap, rfl, hlen, -⟩ := D.read hi
  obtain ⟨L, hL⟩ : ∃ L, L = 0 + ts.length := ⟨_, rfl⟩
  rw [← hL] at hi ⊢
  clear hL hlen
  have HT : Hid (_) := htw
  have HI : Hid (_) := hi
  have HW : Hid (_) := hW
  clear hi hW
  refine (callsIn_wide (n := 3)).1 ?_
  refine callsIn_of_wp Tryz.func132 rfl trivial ?_ rfl
  simp only [Tryz.ntmps132, List.size_toArray, List.length_cons, List.length_nil, Nat.reduceAdd, Nat.reduceSub, Array.replicate_succ, Array.replicate_zero, List.push_toArray, List.append_toArray, List.nil_append, List.cons_append]
  by_cases h40 : d = 40
  · subst h40
    obtain ⟨wv, hb2, hown⟩ := htw.wait
    obtain ⟨at7, c7, rfl⟩ := slice_shape hown
    have cW : w.cell? ⟨b2, 0, none⟩ = some (.slice at7 W.length c7) := by rw [Lib.cell_of_heap hb2]; rfl
    obtain ⟨i0, hi0, hz0, hz1, hz2⟩ := info_parts info_rows
    have bX : Below w.heap.size w (w.alloc (.cells #[.slice ao L cap] 23)) := below_new w _
    obtain ⟨v', W', hrun, hown', hgr, -⟩ := run_append_own (P := Tryz.prog) (w.alloc (.cells #[.slice ao L cap] 23)) n 159 159 23 i0 (.slice none 0 0) 1 24 Tryz.underlying159 hi0 hz0 hz1 hz2 rfl (by decide) (.slice at7 W.length c7) _ _ (owns_below hown bX) ⟨w.heap.size, 0, none⟩ 1 1 [.slice ao L cap] rfl (cell_one_new _ _ _) (by simp [Value.oneCell']) (by have := HW.out; unfold maxLen; omega) (by have := HW.out; omega) (by have := bX.size; omega)
    obtain ⟨gv, cv, rfl⟩ := ownsRow_succ hown'
    have kX : KeepO n w (w.alloc (.cells #[.slice ao L cap] 23)) := KeepO.of_below bX hnw
    have kW : KeepO n w W' := kX.trans (KeepO.of_grown (owns_below hown bX) hgr (by have := bX.size; omega))
    have tW : TW n c0 b0 b2 b3 b4 g lb 40 (W ++ [.slice ao L cap]) (W'.setCell ⟨b2, 0, none⟩ (.slice (some ⟨gv, 0, none⟩) (W.length + 1) cv)) := by
      obtain ⟨hn, h1, h2, h3, h4, v0, h5, h6⟩ := htw
      have up : ∀ {b : Nat} {c : Array Value} {t : TypeId}, w.heap[b]? = some (.cells c t (0, 0)) → t ≠ 23 → W'.heap[b]? = some (.cells c t (0, 0)) := fun h ht => heap_grown (owns_below hown bX) hgr ((bX.block _ (Array.getElem?_eq_some_iff.1 h).1).trans h) ht
      have t9 : TW n c0 b0 b2 b3 b4 g lb 40 (W ++ [.slice ao L cap]) (W'.setCell ⟨b2, 0, none⟩ (.slice (some ⟨gv, 0, none⟩) (W.length + 1) cv)) := by
        refine ⟨hn, heap_set_ne (up h1 (by decide)) (up h5 (by decide)) (by decide) _ _, heap_set_ne (up h2 (by decide)) (up h5 (by decide)) (by decide) _ _, heap_set_ne (up h3 (by decide)) (up h5 (by decide)) (by decide) _ _, heap_set_ne (up h4 (by decide)) (up h5 (by decide)) (by decide) _ _, _, heap_setCell_same W' b2 0 _ _ _ (up h5 (by decide)), ?_⟩
        have := owns_set hown' (up h5 (by decide)) (by decide) 0 (.slice (some ⟨gv, 0, none⟩) (W.length + 1) cv)
        rw [List.length_append]
        exact this
      exact t9
    have hb2' : W'.heap[b2]? = some (.cells #[.slice at7 W.length c7] 159 (0, 0)) := heap_grown (owns_below hown bX) hgr ((bX.block _ (Array.getElem?_eq_some_iff.1 hb2).1).trans hb2) (by decide)
    have cW' : W'.cell? ⟨b2, 0, none⟩ = some (.slice at7 W.length c7) := by rw [Lib.cell_of_heap hb2']; rfl
    have fW' : W'.frozen? ⟨b2, 0, none⟩ = false := frozen_of_row W' b2 0 _ _ hb2'
    have iW : Inv ([⟨.slice ao L cap, 0, ts⟩] ++ P) (W'.setCell ⟨b2, 0, none⟩ (.slice (some ⟨gv, 0, none⟩) (W.length + 1) cv)) := D.stab HI.out (kW.trans (KeepO.of_set hb2' (by decide) htw.n0.2.2.1 0 _))
    have HF : Hid (_) := And.intro tW iW
    obtain ⟨M, hM⟩ : ∃ M, M = W.length := ⟨_, rfl⟩
    rw [← hM] at cW hrun HF cW'
    clear hM tW iW kX kW hown' hgr bX hb2' hb2 hown hi0 hz0 hz1 hz2 HT htw
    gi_wp2_with (gi_at_builtin; refine list_append rfl _ _ 159 rfl (.slice at7 M c7) (.slice (some ⟨w.heap.size, 0, none⟩) 1 1) _ _ rfl rfl hrun ?_)
    refine bodyPost_ret (results_none rfl _ _ _) rfl ?_
    refine ⟨rfl, [⟨.slice ao L cap, 0, ts⟩], HF.out.1, HF.out.2, by simp, by simp [mu]⟩
  · have hd40 : ((d : Int) == 40) = false := by simp; omega
    have hd40' : decide ((d : Int) = 40) = false := by simp; omega
    have kS : KeepO n w (w.setCell ⟨b3, 0, none⟩ (.int .i64 ((d + 1 : Nat) : Int))) := KeepO.of_set htw.deep (by decide) htw.n0.2.2.2.1 0 _
    have tS : TW n c0 b0 b2 b3 b4 g lb (d + 1) W (w.setCell ⟨b3, 0, none⟩ (.int .i64 ((d + 1 : Nat) : Int))) := htw.setDeep (d + 1)
    have HC : Hid (_) := HV.out d W P _ _ (by omega) HW.out tS (D.stab HI.out kS) hgg
    have cV : (w.setCell ⟨b3, 0, none⟩ (.int .i64 ((d + 1 : Nat) : Int))).cell? ⟨b0, 0, none⟩ = some (.func (.func 94) #[] #[.pointer (some ⟨c0, 0, none⟩)]) := by rw [Lib.cell_of_heap tS.vis]; rfl
    have cN : (w.setCell ⟨b3, 0, none⟩ (.int .i64 ((d + 1 : Nat) : Int))).cell? ⟨b4, 0, none⟩ = some (.func (.func 132) #[] #[.pointer (some ⟨b3, 0, none⟩), .pointer (some ⟨b2, 0, none⟩), .pointer (some ⟨b0, 0, none⟩), .pointer (some ⟨b4, 0, none⟩)]) := by rw [Lib.cell_of_heap tS.dwn]; rfl
    have ed : ((d + 1 : Nat) : Int) = (d : Int) + 1 := by simp
    rw [ed] at HC cV cN
    clear HV kS tS hgg htw HI ed
    gi_wp2
    refine ⟨trivial, ?_⟩
    refine (callsIn_wide.2 HC.out).mono ?_
    rintro e w1 ⟨rfl, Q, tw1, hi1, hq, hmu⟩
    have cD1 : w1.cell? ⟨b3, 0, none⟩ = some (.int .i64 ((d : Int) + 1)) := by
      rw [Lib.cell_of_heap tw1.deep]; simp
    have fD1 : w1.frozen? ⟨b3, 0, none⟩ = false := frozen_of_row w1 b3 0 _ _ tw1.deep
    have HF : Hid (TW n c0 b0 b2 b3 b4 g lb d (W ++ Q.map Job.v) (w1.setCell ⟨b3, 0, none⟩ (.int .i64 d)) ∧ Inv (Q ++ P) (w1.setCell ⟨b3, 0, none⟩ (.int .i64 d))) := ⟨tw1.setDeep d, D.stab hi1 (KeepO.of_set tw1.deep (by decide) tw1.n0.2.2.2.1 0 _)⟩
    clear tw1 hi1 HC
    gi_wp2
    go_end0
    refine ⟨rfl, Q, HF.out.1, HF.out.2, hq, ?_⟩
    exact hmu

end Go.Proofs.YtnndgjnihhafbaaGreatDoor

/-
  The walks of through and each, whole.
-/
namespace Go.Proofs.YtnndgjnihhafbaaGreatDoor
open Go.RowKit Go.Shelf

attribute [local go_sem] Oper.semAt_some

set_option maxRecDepth 100000 in
set_option maxHeartbeats 4000000 in
theorem through_any {n c0 g : Nat} {lb : Array Value} {Inv : List Job → World → Prop} (D : Doing n g lb Inv) (hgg : ∀ args w, (callFunc g args).run Tryz.prog w = .ok (.enter g args) w) (v : Value) (ts : List Tr) (w : World)
    (hc0 : n ≤ c0) (hbox : w.heap[c0]? = some (.cells #[.func (.func g) #[] lb] 77 (0, 0))) (hi : Inv [⟨v, 0, ts⟩] w) (hts : Tr.sizes ts ≤ 500000) :
    Calls Tryz.prog 93 #[v, .func (.func 94) #[] #[.pointer (some ⟨c0, 0, none⟩)]] w fun e w' => e = .returned (.tuple #[]) ∧ Inv [] w' := by
  have hc0w := (Array.getElem?_eq_some_iff.1 hbox).1
  obtain ⟨ao, cap, rfl, hlen, -⟩ := D.read hi
  obtain ⟨L, hL⟩ : ∃ L, L = 0 + ts.length := ⟨_, rfl⟩
  rw [← hL] at hi ⊢
  clear hL hlen
  obtain ⟨A1, h1⟩ : ∃ A, A = w.alloc (.cells #[.func (.func 94) #[] #[.pointer (some ⟨c0, 0, none⟩)]] 123) := ⟨_, rfl⟩
  obtain ⟨A2, h2⟩ : ∃ A, A = A1.alloc (.cells #[.slice ao L cap] 23) := ⟨_, rfl⟩
  obtain ⟨A3, h3⟩ : ∃ A, A = A2.alloc (.cells #[.slice (some ⟨w.heap.size + 1, 0, none⟩) 1 1] 159) := ⟨_, rfl⟩
  obtain ⟨A4, h4⟩ : ∃ A, A = A3.alloc (.cells #[.int .i64 0] 3) := ⟨_, rfl⟩
  obtain ⟨X, hX⟩ : ∃ X, X = A4.alloc (.cells #[.func (.func 132) #[] #[.pointer (some ⟨w.heap.size + 1 + 1 + 1, 0, none⟩), .pointer (some ⟨w.heap.size + 1 + 1, 0, none⟩), .pointer (some ⟨w.heap.size, 0, none⟩), .pointer (some ⟨w.heap.size + 1 + 1 + 1 + 1, 0, none⟩)]] 122) := ⟨_, rfl⟩
  have DN : Hid (_) := fun ts' => down_any (c0 := c0) (b0 := w.heap.size) (b2 := w.heap.size + 1 + 1) (b3 := w.heap.size + 1 + 1 + 1) (b4 := w.heap.size + 1 + 1 + 1 + 1) D hgg (Tr.sizes ts') ts' (Nat.le_refl _)
  have s1 : A1.heap.size = w.heap.size + 1 := by rw [h1, World.size_alloc]
  have s2 : A2.heap.size = w.heap.size + 1 + 1 := by rw [h2, World.size_alloc, s1]
  have s3 : A3.heap.size = w.heap.size + 1 + 1 + 1 := by rw [h3, World.size_alloc, s2]
  have s4 : A4.heap.size = w.heap.size + 1 + 1 + 1 + 1 := by rw [h4, World.size_alloc, s3]
  have n1 := World.alloc_heap_new w (.cells #[.func (.func 94) #[] #[.pointer (some ⟨c0, 0, none⟩)]] 123)
  have n2 := World.alloc_heap_new A1 (.cells #[.slice ao L cap] 23)
  have n3 := World.alloc_heap_new A2 (.cells #[.slice (some ⟨w.heap.size + 1, 0, none⟩) 1 1] 159)
  have n4 := World.alloc_heap_new A3 (.cells #[.int .i64 0] 3)
  have n5 := World.alloc_heap_new A4 (.cells #[.func (.func 132) #[] #[.pointer (some ⟨w.heap.size + 1 + 1 + 1, 0, none⟩), .pointer (some ⟨w.heap.size + 1 + 1, 0, none⟩), .pointer (some ⟨w.heap.size, 0, none⟩), .pointer (some ⟨w.heap.size + 1 + 1 + 1 + 1, 0, none⟩)]] 122)
  rw [← h1] at n1
  rw [← h2, s1] at n2
  rw [← h3, s2] at n3
  rw [← h4, s3] at n4
  rw [← hX, s4] at n5
  have b1 : Below w.heap.size w A1 := h1 ▸ below_new w _
  have b2 : Below A1.heap.size A1 A2 := h2 ▸ below_new A1 _
  have b3 : Below A2.heap.size A2 A3 := h3 ▸ below_new A2 _
  have b4 : Below A3.heap.size A3 A4 := h4 ▸ below_new A3 _
  have b5 : Below A4.heap.size A4 X := hX ▸ below_new A4 _
  have b45 := below_then b4 b5
  have b35 := below_then b3 b45
  have b25 := below_then b2 b35
  have bX : Below w.heap.size w X := below_then b1 b25
  have tX : TW n c0 w.heap.size (w.heap.size + 1 + 1) (w.heap.size + 1 + 1 + 1) (w.heap.size + 1 + 1 + 1 + 1) g lb 0 [.slice ao L cap] X := by
    refine ⟨⟨hc0, by omega, by omega, by omega, by omega⟩, (bX.block c0 hc0w).trans hbox, (b25.block _ (by omega)).trans n1, n5, (b5.block _ (by omega)).trans n4, _, (b45.block _ (by omega)).trans n3, ?_⟩
    exact ⟨rfl, .inr ⟨w.heap.size + 1, 1, #[.slice ao L cap], rfl, by omega, (b35.block _ (by omega)).trans n2, by simp, by unfold maxLen; omega, by simp, by simp⟩⟩
  have iX : Inv [⟨.slice ao L cap, 0, ts⟩] X := D.stab hi (KeepO.of_below bX (by omega))
  clear s1 s2 s3 s4 n1 n2 n3 n4 n5 b1 b2 b3 b4 b5 b45 b35 b25 bX
  have HTX : Hid (_) := tX
  have HIX : Hid (_) := iX
  clear tX iX hi hbox
  have hstf := fun (a : Addr) (fn : Fn) (c1 c2 : Array Value) (w : World) => run_store Tryz.prog w a (.func fn c1 c2) .plain rfl
  refine (callsIn_wide (n := 3)).1 ?_
  refine callsIn_of_wp Tryz.func93 rfl trivial ?_ rfl
  simp only [Tryz.ntmps93, List.size_toArray, List.length_cons, List.length_nil, Nat.reduceAdd, Nat.reduceSub, Array.replicate_succ, Array.replicate_zero, List.push_toArray, List.append_toArray, List.nil_append, List.cons_append]
  gi_wp2
  rw [← h1, ← h2, ← h3, ← h4, ← hX]
  clear hstf hX h1 h2 h3 h4
  gi_loopg [] (Tr.sizes ts + 1) (fun m wr => ∃ Q : List Job, mu Q = m ∧ m ≤ 500001 ∧ (∀ j ∈ Q, j.i = 0) ∧ TW n c0 w.heap.size (w.heap.size + 1 + 1) (w.heap.size + 1 + 1 + 1) (w.heap.size + 1 + 1 + 1 + 1) g lb 0 (Q.map Job.v) wr ∧ Inv Q wr)
  case atStart => exact ⟨[⟨.slice ao L cap, 0, ts⟩], by simp [mu], by omega, by simp, HTX.out, HIX.out⟩
  case round =>
    clear HTX HIX
    obtain ⟨Q, hmu, hm, hq, htw, hi⟩ := hrel
    obtain ⟨wv, hb2, hown⟩ := htw.wait
    obtain ⟨at7, c7, rfl⟩ := slice_shape hown
    have cW : wr.cell? ⟨w.heap.size + 1 + 1, 0, none⟩ = some (.slice at7 (Q.map Job.v).length c7) := by rw [Lib.cell_of_heap hb2]; rfl
    rcases List.eq_nil_or_concat Q with rfl | ⟨Q', j, rfl⟩
    · have HI : Hid (_) := hi
      clear hi htw hown hb2
      simp only [List.map_nil, List.length_nil] at cW
      gi_wp2
      go_end0
      exact ⟨rfl, HI.out⟩
    · simp only [List.concat_eq_append] at *
      obtain ⟨M, hM⟩ : ∃ M, M = (Q'.map Job.v).length := ⟨_, rfl⟩
      have eM : ((Q' ++ [j]).map Job.v).length = M + 1 := by rw [hM]; simp
      rw [eM] at cW hown hb2
      have hM2 : M ≤ 500001 := by
        rw [hM, List.length_map]
        have := mu_len (Q' ++ [j])
        rw [List.length_append] at this
        omega
      rcases hown.2 with ⟨hno, _⟩ | ⟨gb, cap7, cur, hv, hgn, hgb, hcap, hcm, hcs, htk⟩
      · cases hno
      cases hv
      have cJ : wr.cell? ⟨gb, M, none⟩ = some j.v := by
        have := hown.cells (g := gb) rfl M j.v (by rw [List.map_append, List.getElem?_append_right (by omega), hM]; simp)
        rwa [show (⟨gb, 0, none⟩ : Addr).add M = ⟨gb, M, none⟩ from by cases M <;> simp [Addr.add]] at this
      have hj0 : j.i = 0 := hq j (by simp)
      obtain ⟨jv, ji, jts⟩ := j
      simp only at hj0 cJ
      subst hj0
      have hj : Inv (⟨jv, 0, jts⟩ :: Q') wr := D.perm List.perm_append_comm hi
      obtain ⟨ao2, cap2, rfl, -, -⟩ := D.read hj
      obtain ⟨L2, hL2⟩ : ∃ L2, L2 = 0 + jts.length := ⟨_, rfl⟩
      rw [← hL2] at hj cJ
      have hmu' : mu Q' + (Tr.sizes jts + 1) = gk := by
        rw [mu_append] at hmu
        simpa [mu] using hmu
      have fW : wr.frozen? ⟨w.heap.size + 1 + 1, 0, none⟩ = false := frozen_of_row wr _ 0 _ _ hb2
      obtain ⟨X1, hX1⟩ : ∃ X1, X1 = wr.setCell ⟨w.heap.size + 1 + 1, 0, none⟩ (.slice (some ⟨gb, 0, none⟩) M c7) := ⟨_, rfl⟩
      have t1 : TW n c0 w.heap.size (w.heap.size + 1 + 1) (w.heap.size + 1 + 1 + 1) (w.heap.size + 1 + 1 + 1 + 1) g lb 0 (Q'.map Job.v) X1 := by
        rw [hX1]
        have h9 := owns_prefix (k := M) hown (by omega)
        rw [List.map_append, List.take_append_of_le_length (by omega), hM, List.take_length] at h9
        exact hM ▸ htw.setWait h9
      have i1 : Inv (⟨.slice ao2 L2 cap2, 0, jts⟩ :: Q') X1 := by
        rw [hX1]
        exact D.stab hj (KeepO.of_set hb2 (by decide) (by omega) 0 _)
      have cN : X1.cell? ⟨w.heap.size + 1 + 1 + 1 + 1, 0, none⟩ = some (.func (.func 132) #[] #[.pointer (some ⟨w.heap.size + 1 + 1 + 1, 0, none⟩), .pointer (some ⟨w.heap.size + 1 + 1, 0, none⟩), .pointer (some ⟨w.heap.size, 0, none⟩), .pointer (some ⟨w.heap.size + 1 + 1 + 1 + 1, 0, none⟩)]) := by rw [Lib.cell_of_heap t1.dwn]; rfl
      have HC : Hid (_) := DN.out jts 0 _ _ _ X1 (by omega) (by have := mu_len Q'; rw [List.length_map]; omega) t1 i1
      have HQ : Hid (∀ j ∈ Q', j.i = 0) := fun j hj => hq j (by simp [hj])
      have hcap7 : M ≤ c7 := by omega
      rw [hX1] at cN
      clear t1 i1 hj hi htw hown hb2 hgb hgn hcs htk hmu hq DN hL2 hM eM
      gi_wp2
      rw [← hX1]
      refine ⟨trivial, ?_⟩
      refine (callsIn_wide.2 HC.out).mono ?_
      rintro e w2 ⟨rfl, Q1, tw2, hi2, hq1, hmu2⟩
      rw [if_neg (by decide)] at hmu2
      have HF : Hid (∃ Q : List Job, mu Q = mu Q' + mu Q1 ∧ mu Q' + mu Q1 ≤ 500001 ∧ (∀ j ∈ Q, j.i = 0) ∧ TW n c0 w.heap.size (w.heap.size + 1 + 1) (w.heap.size + 1 + 1 + 1) (w.heap.size + 1 + 1 + 1 + 1) g lb 0 (Q.map Job.v) w2 ∧ Inv Q w2) := by
        refine ⟨Q' ++ Q1, mu_append _ _, by omega, fun j hj => ?_, by rw [List.map_append]; exact tw2, D.perm List.perm_append_comm hi2⟩
        rcases List.mem_append.1 hj with hj | hj
        · exact HQ.out j hj
        · exact hq1 j hj
      clear tw2 hi2 HC
      gi_wp2
      gi_roundg (mu Q' + mu Q1)
      case measure => omega
      case rel => exact HF.out

set_option maxRecDepth 100000 in
set_option maxHeartbeats 4000000 in
theorem each_any {g : Nat} {lb : Array Value} {Inv : List Job → World → Prop} (v : Value) (ts : List Tr) (w : World) (D : Doing w.heap.size g lb Inv) (hgg : ∀ args w, (callFunc g args).run Tryz.prog w = .ok (.enter g args) w)
    (hi : Inv [⟨v, 0, ts⟩] w) (hts : Tr.sizes ts ≤ 500000) :
    Calls Tryz.prog 49 #[v, .func (.func g) #[] lb] w fun e w' => e = .returned (.tuple #[]) ∧ Inv [] w' := by
  obtain ⟨ao, cap, rfl, -, -⟩ := D.read hi
  obtain ⟨L, hL⟩ : ∃ L, L = 0 + ts.length := ⟨_, rfl⟩
  rw [← hL] at hi ⊢
  clear hL
  obtain ⟨X, hX⟩ : ∃ X, X = w.alloc (.cells #[.func (.func g) #[] lb] 77) := ⟨_, rfl⟩
  have hb : X.heap[w.heap.size]? = some (.cells #[.func (.func g) #[] lb] 77 (0, 0)) := by rw [hX]; exact World.alloc_heap_new w _
  have HT : Hid (_) := through_any D hgg (.slice ao L cap) ts X (Nat.le_refl _) hb (D.stab hi (KeepO.of_below (hX ▸ below_new w _) (Nat.le_refl _))) hts
  clear hi hb D hgg
  go_enter Tryz.func49, Tryz.ntmps49
  go_wp2_with fail
  rw [← hX]
  refine Calls.mono HT.out ?_
  rintro e w1 ⟨rfl, h1⟩
  have H1 : Hid (_) := h1
  clear h1 HT
  go_wp2
  go_end0
  exact ⟨rfl, H1.out⟩
end Go.Proofs.YtnndgjnihhafbaaGreatDoor

/-
  The walk of tree.Size.
-/
namespace Go.Proofs.YtnndgjnihhafbaaGreatDoor
open Go.RowKit Go.Shelf

attribute [local go_sem] Oper.semAt_some

/-- A row that waits, readable in blocks of S. -/
def JobR (S : Nat → Prop) (w : World) (j : Job) : Prop := ∃ full, RowR S w j.v full ∧ full.drop j.i = j.ts ∧ j.i ≤ full.length
theorem JobR.keep {S : Nat → Prop} {w w' : World} {j : Job} (h : JobR S w j) (hb : ∀ b, S b → w'.heap[b]? = w.heap[b]?) : JobR S w' j := by
  obtain ⟨full, h1, h2, h3⟩ := h
  exact ⟨full, h1.keep hb (fun _ h => h), h2, h3⟩
theorem JobR.read {S : Nat → Prop} {w : World} {v : Value} {i : Nat} {ts : List Tr} (h : JobR S w ⟨v, i, ts⟩) : ∃ ao cap, v = .slice ao (i + ts.length) cap ∧ i + ts.length ≤ 1000000000000000 ∧ (0 < ts.length → ∃ b off, ao = some ⟨b, off, none⟩) := by
  obtain ⟨full, h1, h2, h3⟩ := h
  simp only at h1 h2 h3
  obtain ⟨xs, ao, cap, b, off, -, hv, -, ha, hl, -⟩ := h1.parts
  have hlen : i + ts.length = full.length := by rw [← h2, List.length_drop]; omega
  rw [hlen]
  exact ⟨ao, cap, hv, hl, fun h => ⟨b, off, (ha (by omega)).1⟩⟩
theorem JobR.step {S : Nat → Prop} {w : World} {b off n cap i : Nat} {t : Tr} {ts : List Tr} (h : JobR S w ⟨.slice (some ⟨b, off, none⟩) n cap, i, t :: ts⟩) :
    ∃ x : N1, x.tr = t ∧ x.Fit ∧ S b ∧ w.cell? ⟨b, off + i * 4, none⟩ = some (.int .u8 x.k) ∧ w.cell? ⟨b, off + i * 4 + 1, none⟩ = some (.string (Ln.bs x.t)) ∧ w.cell? ⟨b, off + i * 4 + 3, none⟩ = some x.v ∧ JobR S w ⟨x.v, 0, t.kids⟩ ∧ JobR S w ⟨.slice (some ⟨b, off, none⟩) n cap, i + 1, ts⟩ := by
  obtain ⟨full, h1, h2, h3⟩ := h
  simp only at h1 h2 h3
  obtain ⟨xs, ao, cap', b', off', e, hv, -, ha, hl, hx⟩ := h1.parts
  have hlt : i < full.length := by
    rcases Nat.lt_or_ge i full.length with h | h
    · exact h
    · rw [List.drop_eq_nil_of_le h] at h2; cases h2
  obtain ⟨rfl, hS⟩ := ha (by omega)
  cases hv
  have hi : full[i]? = some t := by
    rw [List.drop_eq_getElem_cons hlt] at h2
    cases h2
    exact List.getElem?_eq_getElem hlt
  have hr : full.drop (i + 1) = ts := by
    rw [List.drop_eq_getElem_cons hlt] at h2
    cases h2; rfl
  rw [e, List.getElem?_map] at hi
  obtain ⟨x, hxi, rfl⟩ := Option.map_eq_some_iff.1 hi
  obtain ⟨f1, f2, f3, f4, -, f6⟩ := hx i x hxi
  exact ⟨x, rfl, f1, hS, f3, f4, f6, ⟨x.kids, f2, rfl, Nat.zero_le _⟩, ⟨full, h1, hr, hlt⟩⟩

/-- How many nodes still wait. -/
def left : List Job → Nat
  | [] => 0
  | j :: r => Tr.sizes j.ts + left r
end Go.Proofs.YtnndgjnihhafbaaGreatDoor

/-
  slices.Clone at nodes; a row whose Kids are exchanged for a copy reads as before.
-/
namespace Go.Proofs.YtnndgjnihhafbaaGreatDoor
open Go.RowKit Go.Shelf

attribute [local go_sem] Oper.semAt_some

theorem info_node : (Tryz.prog.info? 25).map (fun i => (i.zero, i.size, i.bytes)) = some (some (.agg #[.int .u8 0, .string ⟨#[]⟩, .int .i64 0, .slice none 0 0]), 4, 56) := by kernel_rfl
theorem n1_one {xs : List N1} (h : ∀ x ∈ xs, x.v.oneCell' = true) : ∀ u ∈ n1Cells xs, u.oneCell' = true := by
  induction xs with
  | nil => intro u hu; cases hu
  | cons x r ih =>
    intro u hu
    simp only [n1Cells, N1.cells, List.cons_append, List.nil_append, List.mem_cons] at hu
    rcases hu with rfl | rfl | rfl | rfl | hu
    · rfl
    · rfl
    · rfl
    · exact h x (by simp)
    · exact ih (fun y hy => h y (by simp [hy])) u hu
theorem RowR.slice {S : Nat → Prop} {w : World} {v : Value} {ts : List Tr} (h : RowR S w v ts) : ∃ ao cap, v = .slice ao ts.length cap := by
  obtain ⟨xs, ao, cap, b, off, -, hv, -⟩ := h.parts
  exact ⟨ao, cap, hv⟩

set_option maxRecDepth 100000 in
set_option maxHeartbeats 4000000 in
theorem nclone_any (b off n c : Nat) (news : List Value) (w : World) (hl : news.length = n * 4) (hn : n ≤ 1000000) (hc : ∀ (j : Nat) (u : Value), news[j]? = some u → w.cell? ⟨b, off + j, none⟩ = some u) (h1 : ∀ u ∈ news, u.oneCell' = true) :
    Calls Tryz.prog 46 #[.slice (some ⟨b, off, none⟩) n c] w fun e w' => ∃ v', e = .returned v' ∧ w'.ownsRow w.heap.size 25 4 v' n news ∧ v' ≠ .slice none 0 0 ∧ Below w.heap.size w w' := by
  obtain ⟨i0, hi, hz0, hz1, hz2⟩ := info_parts info_node
  have q : ∀ (w : World) (a : Option Addr) (n c n' c' : Nat), (binOp .eql 23 (.slice a n c) (.slice none n' c')).run Tryz.prog w = .ok (.bool a.isNone) w := fun w a n c n' c' => Lib.run_eql_slice_nil w _ _ a n c n' c' Tryz.underlying23
  have A : Aside (∀ j u, news[j]? = some u → w.cell? ⟨b, off + j, none⟩ = some u) := hc
  clear hc
  go_enter Tryz.func46, Tryz.ntmps46
  go_wp2_with (at_builtin; refine wpList_append_own _ rfl _ _ 23 rfl w.heap.size 25 i0 (.agg #[.int .u8 0, .string ⟨#[]⟩, .int .i64 0, .slice none 0 0]) 4 56 Tryz.underlying23 hi hz0 hz1 hz2 rfl (by decide) _ _ _ rfl (World.ownsRow_made w #[] 0 (Nat.le_refl _) (Nat.zero_le _) (by simp)) ⟨b, off, none⟩ n c news rfl ?qc1 ?qc2 ?qc3 ?qc4 ?qc5 ?qc6 ?_)
  case qc1 => exact hl
  case qc2 =>
    intro j u hj
    rw [Addr.add_lit]
    exact Lib.cell?_alloc_some _ (A.out j u hj)
  case qc3 => exact h1
  case qc4 => rw [Nat.zero_add]; unfold maxLen; omega
  case qc5 => rw [Nat.zero_add]; omega
  case qc6 => simp
  intro v' w1 hown hgrow hnil
  go_wp2
  go_ret
  refine ⟨v', rfl, by simpa using hown, ?_, ?_⟩
  · exact hnil
  · exact ((Below.refl _ w).alloc (Nat.le_refl _) _).grown hgrow (by simp) (by intro k hk; simp [Value.ownBlock] at hk; omega)

/-- One slice cell is exchanged for one that reads as it: all rows read as before. -/
theorem RowR.swap {S T : Nat → Prop} {w w' : World} {b0 o0 : Nat} {s s' : Value} (hST : ∀ b, S b → T b) (hcell : ∀ (b o : Nat) (c : Value), w.cell? ⟨b, o, none⟩ = some c → (b, o) ≠ (b0, o0) → w'.cell? ⟨b, o, none⟩ = some c)
    (h0 : w.cell? ⟨b0, o0, none⟩ = some s) (h1 : w'.cell? ⟨b0, o0, none⟩ = some s') (hs : ∃ ao n cap, s = .slice ao n cap) (heq : ∀ ts, RowR T w' s ts → RowR T w' s' ts) {v : Value} {ts : List Tr} (h : RowR S w v ts) : RowR T w' v ts := by
  induction h with
  | @mk v ts xs e hc hl hf hk ih =>
    obtain ⟨ao, cap, b, off, hv, hcap, ha, hx⟩ := hc
    let g : Nat → N1 → N1 := fun i x => if (b, off + (i * 4 + 3)) = (b0, o0) then { x with v := s' } else x
    have hgi : ∀ i x, xs[i]? = some x → (g i x).tr = x.tr ∧ (g i x).Fit ∧ RowR T w' (g i x).v (g i x).kids ∧ ∀ j : Nat, j < 4 → ∀ u, (g i x).cells[j]? = some u → w'.cell? ⟨b, off + (i * 4 + j), none⟩ = some u := by
      intro i x hi
      have hmem := List.mem_of_getElem? hi
      have hcx : ∀ j : Nat, j < 4 → ∀ u, x.cells[j]? = some u → w.cell? ⟨b, off + (i * 4 + j), none⟩ = some u := fun j hj u hu => hx (i * 4 + j) u (by rw [n1Cells_at hi j hj]; exact hu)
      by_cases he : (b, off + (i * 4 + 3)) = (b0, o0)
      · have eg : g i x = { x with v := s' } := if_pos he
        have hxv : x.v = s := by
          have := hcx 3 (by omega) x.v rfl
          rw [Prod.mk.injEq] at he
          rw [he.1, he.2, h0] at this
          exact (Option.some.inj this).symm
        rw [eg]
        refine ⟨rfl, hf x hmem, heq _ (hxv ▸ ih x hmem), fun j hj u hu => ?_⟩
        rw [Prod.mk.injEq] at he
        match j, hj with
        | 0, _ => exact hcell _ _ _ (hcx 0 (by omega) u (by simpa [N1.cells] using hu)) (by rw [Ne, Prod.mk.injEq]; omega)
        | 1, _ => exact hcell _ _ _ (hcx 1 (by omega) u (by simpa [N1.cells] using hu)) (by rw [Ne, Prod.mk.injEq]; omega)
        | 2, _ => exact hcell _ _ _ (hcx 2 (by omega) u (by simpa [N1.cells] using hu)) (by rw [Ne, Prod.mk.injEq]; omega)
        | 3, _ =>
          simp [N1.cells] at hu
          subst hu
          rw [he.1, he.2]; exact h1
      · have eg : g i x = x := if_neg he
        rw [eg]
        refine ⟨rfl, hf x hmem, ih x hmem, fun j hj u hu => ?_⟩
        by_cases hj3 : (b, off + (i * 4 + j)) = (b0, o0)
        · exfalso
          have h9 := hcx j hj u hu
          have hj3' := hj3
          rw [Prod.mk.injEq] at hj3'
          rw [hj3'.1, hj3'.2, h0] at h9
          obtain ⟨a9, n9, c9, rfl⟩ := hs
          match j, hj with
          | 0, _ => simp [N1.cells] at hu; subst hu; cases h9
          | 1, _ => simp [N1.cells] at hu; subst hu; cases h9
          | 2, _ => simp [N1.cells] at hu; subst hu; cases h9
          | 3, _ => exact he hj3
        · exact hcell _ _ _ (hcx j hj u hu) hj3
    have hxl : (xs.mapIdx g).length = xs.length := List.length_mapIdx
    have hget : ∀ i y, (xs.mapIdx g)[i]? = some y → ∃ x, xs[i]? = some x ∧ y = g i x := by
      intro i y hy
      rw [List.getElem?_mapIdx] at hy
      obtain ⟨x, hx1, hx2⟩ := Option.map_eq_some_iff.1 hy
      exact ⟨x, hx1, hx2.symm⟩
    refine .mk (xs.mapIdx g) ?_ ⟨ao, cap, b, off, by rw [hxl]; exact hv, by rw [hxl]; exact hcap, fun h => ⟨(ha (by rw [hxl] at h; exact h)).1, hST b (ha (by rw [hxl] at h; exact h)).2⟩, fun j u hu => ?_⟩ (by rw [hxl]; exact hl) (fun y hy => ?_) (fun y hy => ?_)
    · rw [e]
      apply List.ext_getElem?
      intro i
      rw [List.getElem?_map, List.getElem?_map, List.getElem?_mapIdx]
      cases hi : xs[i]? with
      | none => rfl
      | some x => simp only [Option.map_some]; rw [(hgi i x hi).1]
    · have hjl : j < (n1Cells (xs.mapIdx g)).length := (List.getElem?_eq_some_iff.1 hu).1
      rw [n1Cells_len] at hjl
      have hd : j / 4 < (xs.mapIdx g).length := by omega
      obtain ⟨x, hx1, hx2⟩ := hget (j / 4) _ (List.getElem?_eq_getElem hd)
      have hm : j = j / 4 * 4 + j % 4 := by omega
      rw [hm]
      refine (hgi (j / 4) x hx1).2.2.2 (j % 4) (by omega) u ?_
      rw [hm, n1Cells_at (List.getElem?_eq_getElem hd) (j % 4) (by omega)] at hu
      rw [← hx2]; exact hu
    · obtain ⟨i, hi⟩ := List.mem_iff_getElem?.1 hy
      obtain ⟨x, hx1, rfl⟩ := hget i y hi
      exact (hgi i x hx1).2.1
    · obtain ⟨i, hi⟩ := List.mem_iff_getElem?.1 hy
      obtain ⟨x, hx1, rfl⟩ := hget i y hi
      exact (hgi i x hx1).2.2.1

/-- Two slices of the same cells read as the same. -/
theorem RowR.as {S T : Nat → Prop} {w : World} {ao : Option Addr} {n cap : Nat} {v' : Value} {ys : List Value} (hlen : ys.length = n * 4) (hc : CellsS S w (.slice ao n cap) n ys) (hc' : CellsS T w v' n ys) {ts : List Tr} (h : RowR T w (.slice ao n cap) ts) : RowR T w v' ts := by
  cases h with
  | mk xs e hcx hl hf hk =>
    obtain ⟨ao1, cap1, b1, off1, hv1, -, ha1, hx1⟩ := hc
    obtain ⟨ao2, cap2, b2, off2, hv2, hcap2, ha2, hx2⟩ := hcx
    cases hv1
    have hxn : xs.length = n := by cases hv2; rfl
    have hao : ao = ao2 := by cases hv2; rfl
    subst hao
    have heq : n1Cells xs = ys := by
      apply List.ext_getElem?
      intro j
      by_cases hj : j < n * 4
      · have hn : 0 < n := by omega
        have e1 := (ha1 hn).1
        have e2 := (ha2 (by omega)).1
        rw [e1] at e2
        cases e2
        have g1 := hx1 j _ (List.getElem?_eq_getElem (by omega))
        have g2 := hx2 j _ (List.getElem?_eq_getElem (by rw [n1Cells_len]; omega))
        rw [g1] at g2
        rw [List.getElem?_eq_getElem (l := ys) (by omega), List.getElem?_eq_getElem (l := n1Cells xs) (by rw [n1Cells_len]; omega)]
        exact g2.symm
      · rw [List.getElem?_eq_none (by rw [n1Cells_len]; omega), List.getElem?_eq_none (by omega)]
    exact .mk xs e (by rw [hxn, heq]; exact hc') hl hf hk

end Go.Proofs.YtnndgjnihhafbaaGreatDoor

/-
  The walk of tree.copied.
-/
namespace Go.Proofs.YtnndgjnihhafbaaGreatDoor
open Go.RowKit Go.Shelf

attribute [local go_sem] Oper.semAt_some

/-- The block of a row that waits. -/
def Job.blk (j : Job) : Nat := match j.v with | .slice (some a) _ _ => a.block | _ => 0
/-- A row of the call's own, from a place on as it was handed in. -/
def CJob (S : Nat → Prop) (n0 : Nat) (w : World) (j : Job) : Prop :=
  (j.ts = [] ∧ j.i ≤ 1000000000000000 ∧ ∃ ao cap, j.v = .slice ao j.i cap) ∨
  ∃ (b cap : Nat) (c : Array Value) (xs : List N1), j.v = .slice (some ⟨b, 0, none⟩) (j.i + xs.length) cap ∧ n0 ≤ b ∧ w.heap[b]? = some (.cells c 25 (0, 0)) ∧ (∀ (q : Nat) (u : Value), (n1Cells xs)[q]? = some u → c[j.i * 4 + q]? = some u) ∧ j.ts = xs.map N1.tr ∧ j.i + xs.length ≤ 1000000 ∧ ∀ x ∈ xs, x.Fit ∧ x.t.length ≤ 1000000 ∧ Tr.sizes x.kids ≤ 1000000 ∧ (∀ s ∈ Tr.textsL x.kids, s.length ≤ 1000000) ∧ RowR (S) w x.v x.kids
def apartJ (a b : Job) : Prop := a.ts ≠ [] → b.ts ≠ [] → a.blk ≠ b.blk
theorem apartJ_symm {a b : Job} (h : apartJ a b) : apartJ b a := fun h1 h2 e => h h2 h1 e.symm

theorem CJob.keep {S : Nat → Prop} {n0 : Nat} {w w' : World} {j : Job} (h : CJob S n0 w j) (hm : ∀ b, S b → b < n0) (hlow : ∀ b, b < n0 → w'.heap[b]? = w.heap[b]?) (hb : j.ts ≠ [] → w'.heap[j.blk]? = w.heap[j.blk]?) : CJob S n0 w' j := by
  rcases h with h | ⟨b, cap, c, xs, h1, h2, h3, h4, h5, h6, h7⟩
  · exact .inl h
  · by_cases hn : j.ts = []
    · refine .inl ⟨hn, ?_⟩
      have : xs = [] := by rw [h5] at hn; exact List.map_eq_nil_iff.1 hn
      subst this
      exact ⟨by simp at h6; omega, some ⟨b, 0, none⟩, cap, by simpa using h1⟩
    · refine .inr ⟨b, cap, c, xs, h1, h2, ?_, h4, h5, h6, fun x hx => ?_⟩
      · have := hb hn
        have e : j.blk = b := by simp [Job.blk, h1]
        rw [e] at this
        exact this.trans h3
      · obtain ⟨f1, f2, f3, f4, f5⟩ := h7 x hx
        exact ⟨f1, f2, f3, f4, f5.keep (fun b hb => hlow b (hm b hb)) (fun _ h => h)⟩

/-- What was handed in, and rows of nodes from n0 on. -/
def CS (S : Nat → Prop) (n0 : Nat) (w : World) (b : Nat) : Prop := S b ∨ n0 ≤ b ∧ ∃ c fr, w.heap[b]? = some (.cells c 25 fr)
def CopyInv (S : Nat → Prop) (n0 : Nat) (w0 : World) (wv : Value) (t : Tr) (P : List Job) (w : World) : Prop :=
  Below n0 w0 w ∧ RowR (CS S n0 w) w wv [t] ∧ (∀ j ∈ P, CJob S n0 w j) ∧ P.Pairwise apartJ

theorem CJob.read {S : Nat → Prop} {n0 : Nat} {w : World} {v : Value} {i : Nat} {ts : List Tr} (h : CJob S n0 w ⟨v, i, ts⟩) : ∃ ao cap, v = .slice ao (i + ts.length) cap ∧ i + ts.length ≤ 1000000000000000 ∧ (0 < ts.length → ∃ b off, ao = some ⟨b, off, none⟩) := by
  rcases h with ⟨h1, h2, ao, cap, h3⟩ | ⟨b, cap, c, xs, h1, h2, h3, h4, h5, h6, h7⟩
  · simp only at h1 h2 h3
    subst h1
    exact ⟨ao, cap, by simpa using h3, by simpa using h2, fun h => absurd h (by simp)⟩
  · simp only at h1 h5 h6
    subst h5
    rw [List.length_map]
    exact ⟨some ⟨b, 0, none⟩, cap, h1, by omega, fun _ => ⟨b, 0, rfl⟩⟩

theorem cells_at {w : World} {b : Nat} {c : Array Value} {ty : TypeId} {fr : Nat × Nat} (h : w.heap[b]? = some (.cells c ty fr)) {o : Nat} {u : Value} (hu : c[o]? = some u) : w.cell? ⟨b, o, none⟩ = some u := by
  rw [Lib.cell_of_heap h]; exact hu

theorem setCell_size (w : World) (p : Addr) (u : Value) : (w.setCell p u).heap.size = w.heap.size := by
  simp [World.setCell]
theorem set_other {w : World} {b b' o : Nat} {u : Value} (h : b' ≠ b) : (w.setCell ⟨b, o, none⟩ u).heap[b']? = w.heap[b']? := by
  rcases Nat.lt_or_ge b' w.heap.size with h1 | h1
  · exact (grown_set w b o u).block b' h1 (fun e => h (by cases e; rfl))
  · rw [Array.getElem?_eq_none h1, Array.getElem?_eq_none (by rw [setCell_size]; exact h1)]
theorem set_cell_ne {w : World} {b o b' o' : Nat} {u c : Value} {cs : Array Value} {ty : TypeId} (hb : w.heap[b]? = some (.cells cs ty (0, 0))) (h : w.cell? ⟨b', o', none⟩ = some c) (hne : (b', o') ≠ (b, o)) : (w.setCell ⟨b, o, none⟩ u).cell? ⟨b', o', none⟩ = some c := by
  by_cases e : b' = b
  · subst e
    have ho : o' ≠ o := fun e => hne (by rw [e])
    rw [Lib.cell_of_heap (heap_setCell_same w b' o _ ty u hb), Array.getElem?_setIfInBounds, if_neg (Ne.symm ho)]
    rw [Lib.cell_of_heap hb] at h
    exact h
  · exact (World.cell?_of_block (w := w) (a := ⟨b', o', none⟩) (set_other e)).trans h

theorem four_cells {w : World} {b : Nat} {t : TypeId} {x y z u : Value} (h : w.heap[b]? = some (.cells #[x, y, z, u] t (0, 0))) (x' y' z' u' : Value) :
    ((((w.setCell ⟨b, 0, none⟩ x').setCell ⟨b, 1, none⟩ y').setCell ⟨b, 2, none⟩ z').setCell ⟨b, 3, none⟩ u').heap[b]? = some (.cells #[x', y', z', u'] t (0, 0)) := by
  have h1 := heap_setCell_same w b 0 _ t x' h
  have h2 := heap_setCell_same _ b 1 _ t y' h1
  have h3 := heap_setCell_same _ b 2 _ t z' h2
  have h4 := heap_setCell_same _ b 3 _ t u' h3
  exact h4
theorem four_keep (w : World) (b : Nat) (x' y' z' u' : Value) :
    ∀ Z, Z = (((w.setCell ⟨b, 0, none⟩ x').setCell ⟨b, 1, none⟩ y').setCell ⟨b, 2, none⟩ z').setCell ⟨b, 3, none⟩ u' → Below b w Z ∧ Z.heap.size = w.heap.size ∧ ∀ k, k ≠ b → Z.heap[k]? = w.heap[k]? := by
  rintro Z rfl
  have hk : ∀ k, k ≠ b → ((((w.setCell ⟨b, 0, none⟩ x').setCell ⟨b, 1, none⟩ y').setCell ⟨b, 2, none⟩ z').setCell ⟨b, 3, none⟩ u').heap[k]? = w.heap[k]? := fun k hk => by
    rw [set_other hk, set_other hk, set_other hk, set_other hk]
  refine ⟨⟨?_, ?_, ?_, ?_, fun k h => hk k (by omega)⟩, ?_, hk⟩
  · exact (((grown_set _ b 3 u').os.trans (grown_set _ b 2 z').os).trans (grown_set _ b 1 y').os).trans (grown_set w b 0 x').os
  · exact (((grown_set _ b 3 u').tape.trans (grown_set _ b 2 z').tape).trans (grown_set _ b 1 y').tape).trans (grown_set w b 0 x').tape
  · exact (((grown_set _ b 3 u').output.trans (grown_set _ b 2 z').output).trans (grown_set _ b 1 y').output).trans (grown_set w b 0 x').output
  · rw [setCell_size, setCell_size, setCell_size, setCell_size]; omega
  · rw [setCell_size, setCell_size, setCell_size, setCell_size]

/-- What stands behind the last store. -/
theorem copy_fin {S : Nat → Prop} {n0 n : Nat} (hm : ∀ b, S b → b < n0) {w0 : World} {wv : Value} {t0 : Tr} {b cap i : Nat} {x : N1} {xs : List N1} {P : List Job} {w : World} {c : Array Value}
    (hB : Below n0 w0 w) (hR : RowR (CS S n0 w) w wv [t0]) (hJ : ∀ j ∈ P, CJob S n0 w j) (hP : (⟨.slice (some ⟨b, 0, none⟩) (i + (x :: xs).length) cap, i, x.tr :: xs.map N1.tr⟩ :: P : List Job).Pairwise apartJ)
    (hb0 : n0 ≤ b) (hb : w.heap[b]? = some (.cells c 25 (0, 0))) (hcx : ∀ (q : Nat) (u : Value), (n1Cells (x :: xs))[q]? = some u → c[i * 4 + q]? = some u) (hlim : i + (x :: xs).length ≤ 1000000)
    (hxs : ∀ y ∈ x :: xs, y.Fit ∧ y.t.length ≤ 1000000 ∧ Tr.sizes y.kids ≤ 1000000 ∧ (∀ s ∈ Tr.textsL y.kids, s.length ≤ 1000000) ∧ RowR (S) w y.v y.kids)
    {wz : World} (hz : Below w.heap.size w wz) {s' : Value} (hs' : (x.kids = [] ∧ s' = .slice none 0 0) ∨ ∃ ys : List N1, x.kids = ys.map N1.tr ∧ CellsS (S) w x.v ys.length (n1Cells ys) ∧ (∀ y ∈ ys, y.Fit ∧ RowR (S) w y.v y.kids) ∧ wz.ownsRow w.heap.size 25 4 s' ys.length (n1Cells ys) ∧ s' ≠ .slice none 0 0) :
    KeepD n w (wz.setCell ⟨b, i * 4 + 3, none⟩ s') ∧ ∃ v', (wz.setCell ⟨b, i * 4 + 3, none⟩ s').cell? ⟨b, i * 4 + 3, none⟩ = some v' ∧ CopyInv S n0 w0 wv t0 (⟨v', 0, x.kids⟩ :: ⟨.slice (some ⟨b, 0, none⟩) (i + (x :: xs).length) cap, i + 1, xs.map N1.tr⟩ :: P) (wz.setCell ⟨b, i * 4 + 3, none⟩ s') := by
  have hblt := (Array.getElem?_eq_some_iff.1 hb).1
  have hn0w : n0 ≤ w.heap.size := by omega
  have hbz : wz.heap[b]? = some (.cells c 25 (0, 0)) := (hz.block b hblt).trans hb
  have c3 : c[i * 4 + 3]? = some x.v := hcx 3 _ rfl
  have hc3 : i * 4 + 3 < c.size := (Array.getElem?_eq_some_iff.1 c3).1
  obtain ⟨W, hW⟩ : ∃ W, W = wz.setCell ⟨b, i * 4 + 3, none⟩ s' := ⟨_, rfl⟩
  rw [← hW]
  have hsW : W.heap.size = wz.heap.size := by rw [hW, setCell_size]
  have hWb : W.heap[b]? = some (.cells (c.setIfInBounds (i * 4 + 3) s') 25 (0, 0)) := by rw [hW]; exact heap_setCell_same wz b _ _ _ _ hbz
  have hWo : ∀ k, k ≠ b → W.heap[k]? = wz.heap[k]? := fun k hk => by rw [hW]; exact set_other hk
  have hlow : ∀ k, k < n0 → W.heap[k]? = w.heap[k]? := fun k hk => (hWo k (by omega)).trans (hz.block k (by omega))
  have hWk : ∀ k, k < w.heap.size → k ≠ b → W.heap[k]? = w.heap[k]? := fun k hk hkb => (hWo k hkb).trans (hz.block k hk)
  have hWc : W.cell? ⟨b, i * 4 + 3, none⟩ = some s' := by
    rw [Lib.cell_of_heap hWb, Array.getElem?_setIfInBounds, if_pos rfl, if_pos hc3]
  have hbel : Below n0 w W := by
    have hg := grown_set wz b (i * 4 + 3) s'
    rw [← hW] at hg
    exact ⟨hg.os.trans hz.os, hg.tape.trans hz.tape, hg.output.trans hz.output, by rw [hsW]; exact hz.size, hlow⟩
  obtain ⟨xf, xt, xk, xkt, xr⟩ := hxs x List.mem_cons_self
  have hCS : ∀ k, CS S n0 w k → CS S n0 W k := fun k hk => by
    rcases hk with hk | ⟨hk0, cs, fr, hk⟩
    · exact .inl hk
    · by_cases e : k = b
      · subst e; exact .inr ⟨hk0, _, _, hWb⟩
      · exact .inr ⟨hk0, cs, fr, (hWk k (Array.getElem?_eq_some_iff.1 hk).1 e).trans hk⟩
  have hkey : CJob S n0 W ⟨s', 0, x.kids⟩ ∧ (x.kids ≠ [] → w.heap.size ≤ (⟨s', 0, x.kids⟩ : Job).blk) ∧ ∀ ts, RowR (CS S n0 W) W x.v ts → RowR (CS S n0 W) W s' ts := by
    rcases hs' with ⟨hk0, rfl⟩ | ⟨ys, hk, hcy, hys, hown, hnn⟩
    · refine ⟨.inl ⟨hk0, by simp, none, 0, rfl⟩, fun h => absurd hk0 h, fun ts hts => ?_⟩
      obtain ⟨ao, kc, hv⟩ := xr.slice
      obtain ⟨ao2, kc2, hv2⟩ := hts.slice
      rw [hv2, hk0] at hv
      have : ts = [] := by
        cases ts with
        | nil => rfl
        | cons _ _ => cases hv
      subst this
      exact .mk [] rfl ⟨none, 0, 0, 0, rfl, ⟨Nat.le_refl _, fun _ => rfl⟩, fun h => absurd h (by simp), fun j u hu => by simp [n1Cells] at hu⟩ (by simp) (by simp) (by simp)
    · rcases hown.2 with ⟨h0, _⟩ | ⟨g, cp, cur, hv, hbase, hgb, h1, h2, h3, h4⟩
      · exact absurd h0 hnn
      have hgb' : g ≠ b := by omega
      have hWg : W.heap[g]? = some (.cells cur 25 (0, 0)) := (hWo g hgb').trans hgb
      have hcell : ∀ (q : Nat) (u : Value), (n1Cells ys)[q]? = some u → cur[q]? = some u := fun q u hu => by
        rw [← h4, List.getElem?_take] at hu
        split at hu
        · rwa [Array.getElem?_toList] at hu
        · cases hu
      have hyl : ys.length ≤ 1000000 := by
        have := Tr.length_sizes x.kids
        rw [hk, List.length_map] at this
        rw [hk] at xk
        omega
      refine ⟨.inr ⟨g, cp, cur, ys, by simpa using hv, by omega, hWg, fun q u hu => by simpa using hcell q u hu, hk, by simpa using hyl, fun y hy => ?_⟩, fun _ => ?_, fun ts hts => ?_⟩
      · obtain ⟨f1, f5⟩ := hys y hy
        have hmem : y.tr ∈ x.kids := by rw [hk]; exact List.mem_map.2 ⟨y, hy, rfl⟩
        have hs9 := Tr.sizes_mem hmem
        rw [Tr.size_eq] at hs9
        have e9 : y.tr.kids = y.kids := rfl
        refine ⟨f1, ?_, by rw [e9] at hs9; omega, fun s hs => ?_, f5.keep (fun k hk => hlow k (hm k hk)) (fun _ h => h)⟩
        · exact xkt _ (Tr.textsL_mem hmem _ (by rw [Tr.texts_eq]; exact List.mem_cons_self))
        · exact xkt _ (Tr.textsL_mem hmem _ (by rw [Tr.texts_eq]; exact List.mem_cons_of_mem _ hs))
      · have e9 : (⟨s', 0, x.kids⟩ : Job).blk = g := by simp [Job.blk, hv]
        rw [e9]; exact hbase
      · obtain ⟨ao, kc, hxv⟩ := xr.slice
        have hxl : x.kids.length = ys.length := by rw [hk, List.length_map]
        rw [hxl] at hxv
        rw [hxv] at hts hcy
        refine RowR.as (ys := n1Cells ys) (n1Cells_len ys) (hcy.keep (fun k hk => hlow k (hm k hk)) (fun _ h => h) (fun h0 => by rw [List.length_eq_zero_iff.1 h0]; rfl)) ?_ hts
        exact ⟨_, cp, g, 0, hv, ⟨h1, fun e => by cases e⟩, fun _ => ⟨rfl, .inr ⟨by omega, _, _, hWg⟩⟩, fun j u hu => by rw [Lib.cell_of_heap hWg, Nat.zero_add]; exact hcell j u hu⟩
  obtain ⟨hcj, hblk, heq⟩ := hkey
  refine ⟨⟨by rw [hsW]; exact hz.size, fun k cs ty fr hk hc ht => ?_⟩, s', hWc, hB.trans hbel, ?_, fun j hj => ?_, ?_⟩
  · have hkb : k ≠ b := fun e => by subst e; rw [hb] at hc; cases hc; exact absurd ht (by decide)
    exact (hWk k (Array.getElem?_eq_some_iff.1 hc).1 hkb).trans hc
  · refine RowR.swap (b0 := b) (o0 := i * 4 + 3) (s := x.v) hCS (fun b' o' u hu hne => ?_) (cells_at hb c3) hWc ?_ heq hR
    · have hlt : b' < w.heap.size := by simpa using World.block_lt_of_cell? _ _ hu
      rw [hW]
      exact set_cell_ne hbz ((World.cell?_of_block (w := w) (a := ⟨b', o', none⟩) (hz.block b' hlt)).trans hu) hne
    · obtain ⟨ao, kc, hv⟩ := xr.slice
      exact ⟨ao, _, kc, hv⟩
  · simp only [List.mem_cons] at hj
    rcases hj with rfl | rfl | hj
    · exact hcj
    · refine .inr ⟨b, cap, c.setIfInBounds (i * 4 + 3) s', xs, ?_, hb0, hWb, fun q u hu => ?_, rfl, ?_, fun y hy => ?_⟩
      · show Value.slice _ _ _ = Value.slice _ _ _
        congr 1
        simp; omega
      · have h9 := hcx (q + 4) u (by simpa [n1Cells, N1.cells] using hu)
        rw [Array.getElem?_setIfInBounds, if_neg (by simp only; omega)]
        rw [← h9]
        congr 1
        simp only; omega
      · simp at hlim ⊢; omega
      · obtain ⟨f1, f2, f3, f4, f5⟩ := hxs y (by simp [hy])
        exact ⟨f1, f2, f3, f4, f5.keep (fun k hk => hlow k (hm k hk)) (fun _ h => h)⟩
    · refine (hJ j hj).keep hm hlow (fun hjn => ?_)
      have hap := (List.pairwise_cons.1 hP).1 j hj (by simp) hjn
      have hjb : j.blk ≠ b := fun e => hap (by rw [e]; rfl)
      have hjl : j.blk < w.heap.size := by
        rcases hJ j hj with ⟨h0, _⟩ | ⟨bj, cj, arr, xj, e1, e2, e3, _⟩
        · exact absurd h0 hjn
        · have : j.blk = bj := by simp [Job.blk, e1]
          rw [this]; exact (Array.getElem?_eq_some_iff.1 e3).1
      exact hWk _ hjl hjb
  · have hPt := (List.pairwise_cons.1 hP)
    refine List.pairwise_cons.2 ⟨fun j hj h1 h2 => ?_, List.pairwise_cons.2 ⟨fun j hj h1 h2 => ?_, hPt.2⟩⟩
    · have h9 := hblk h1
      rcases List.mem_cons.1 hj with rfl | hj
      · show (⟨s', 0, x.kids⟩ : Job).blk ≠ b
        omega
      · have hjl : j.blk < w.heap.size := by
          rcases hJ j hj with ⟨h0, _⟩ | ⟨bj, cj, arr, xj, e1, e2, e3, _⟩
          · exact absurd h0 h2
          · have : j.blk = bj := by simp [Job.blk, e1]
            rw [this]; exact (Array.getElem?_eq_some_iff.1 e3).1
        omega
    · exact hPt.1 j hj (by simp) h2

set_option maxRecDepth 100000 in
set_option maxHeartbeats 4000000 in
theorem copy_step (S : Nat → Prop) (n0 n : Nat) (hm : ∀ b, S b → b < n0) (w0 : World) (wv : Value) (t0 : Tr) {b off m cap i : Nat} {t : Tr} {ts : List Tr} {P : List Job} {w : World} (h : CopyInv S n0 w0 wv t0 (⟨.slice (some ⟨b, off, none⟩) m cap, i, t :: ts⟩ :: P) w) :
    Calls Tryz.prog 87 (#[.pointer (some ⟨b, off + i * 4, none⟩)] ++ #[]) w fun e w' => e = .returned (.tuple #[]) ∧ KeepD n w w' ∧ ∃ v', w'.cell? ⟨b, off + i * 4 + 3, none⟩ = some v' ∧ CopyInv S n0 w0 wv t0 (⟨v', 0, t.kids⟩ :: ⟨.slice (some ⟨b, off, none⟩) m cap, i + 1, ts⟩ :: P) w' := by
  obtain ⟨hB, hR, hJ, hP⟩ := h
  rcases hJ _ List.mem_cons_self with ⟨hne, _⟩ | ⟨b', cap', c, xs, e1, hb0, hb, hcx, e5, hlim, hxs⟩
  · cases hne
  simp only at e1 e5 hcx hlim
  cases e1
  obtain ⟨x, xs, rfl⟩ : ∃ x r, xs = x :: r := by
    cases xs with
    | nil => cases e5
    | cons x r => exact ⟨x, r, rfl⟩
  rw [List.map_cons, List.cons.injEq] at e5
  obtain ⟨rfl, rfl⟩ := e5
  obtain ⟨xf, xt, xk, xkt, xr⟩ := hxs x List.mem_cons_self
  have hblt := (Array.getElem?_eq_some_iff.1 hb).1
  have c1 : c[i * 4 + 1]? = some (.string (Ln.bs x.t)) := hcx 1 _ rfl
  have c3 : c[i * 4 + 3]? = some x.v := hcx 3 _ rfl
  obtain ⟨kao, kcap, hkv⟩ := xr.slice
  rw [Nat.zero_add]
  have g1 : w.cell? ⟨b, i * 4 + 1, none⟩ = some (.string (Ln.bs x.t)) := cells_at hb c1
  have g3 : w.cell? ⟨b, i * 4 + 3, none⟩ = some (.slice kao x.kids.length kcap) := by rw [← hkv]; exact cells_at hb c3
  have hlimt : (Ln.bs x.t).size ≤ 281474976710656 := by rw [Ln.bs_size]; omega
  have HFIN : Hid (∀ (wz : World) (s' : Value), Below w.heap.size w wz → ((x.kids = [] ∧ s' = .slice none 0 0) ∨ ∃ ys : List N1, x.kids = ys.map N1.tr ∧ CellsS (S) w x.v ys.length (n1Cells ys) ∧ (∀ y ∈ ys, y.Fit ∧ RowR (S) w y.v y.kids) ∧ wz.ownsRow w.heap.size 25 4 s' ys.length (n1Cells ys) ∧ s' ≠ .slice none 0 0) →
      KeepD n w (wz.setCell ⟨b, i * 4 + 3, none⟩ s') ∧ ∃ v', (wz.setCell ⟨b, i * 4 + 3, none⟩ s').cell? ⟨b, i * 4 + 3, none⟩ = some v' ∧ CopyInv S n0 w0 wv t0 (⟨v', 0, x.kids⟩ :: ⟨.slice (some ⟨b, 0, none⟩) (i + (x :: xs).length) cap, i + 1, xs.map N1.tr⟩ :: P) (wz.setCell ⟨b, i * 4 + 3, none⟩ s')) :=
    fun wz s' hz hs' => copy_fin hm hB hR (fun j hj => hJ j (List.mem_cons_of_mem _ hj)) hP hb0 hb hcx hlim hxs hz hs'
  have hkid : x.tr.kids = x.kids := rfl
  rw [hkid]
  have HB : Hid (w.heap[b]? = some (.cells c 25 (0, 0)) ∧ c[i * 4 + 1]? = some (.string (Ln.bs x.t)) ∧ c[i * 4 + 3]? = some x.v) := ⟨hb, c1, c3⟩
  have HR : Hid (RowR (S) w x.v x.kids) := xr
  have HK : Hid (Tr.sizes x.kids ≤ 1000000) := xk
  have HN : Hid (n0 ≤ w.heap.size) := by show n0 ≤ w.heap.size; omega
  have HV : Hid (x.v = .slice kao x.kids.length kcap) := hkv
  clear hB hR hJ hP hcx hlim hxs c1 c3 hb xr xk xkt xf xt hkid hkv hblt
  go_enter Tryz.func87, Tryz.ntmps87
  go_wp2_with fail
  refine (clone_any (Ln.bs x.t) _ hlimt).mono ?_
  rintro e w1 ⟨rfl, hb1⟩
  have h1b : w1.heap[b]? = some (.cells c 25 (0, 0)) := (hb1.block b (Array.getElem?_eq_some_iff.1 HB.out.1).1).trans HB.out.1
  have t1 : w1.cell? ⟨b, i * 4 + 1, none⟩ = some (.string (Ln.bs x.t)) := cells_at h1b HB.out.2.1
  have f1 : w1.frozen? ⟨b, i * 4 + 1, none⟩ = false := frozen_of_row w1 b _ _ _ h1b
  have hset : c.setIfInBounds (i * 4 + 1) (.string (Ln.bs x.t)) = c := by
    apply Array.ext_getElem?
    intro j
    rw [Array.getElem?_setIfInBounds]
    by_cases hj : i * 4 + 1 = j
    · subst hj; rw [if_pos rfl, if_pos (Array.getElem?_eq_some_iff.1 HB.out.2.1).1, HB.out.2.1]
    · rw [if_neg hj]
  have h2b : (w1.setCell ⟨b, i * 4 + 1, none⟩ (.string (Ln.bs x.t))).heap[b]? = some (.cells c 25 (0, 0)) := by
    have := heap_setCell_same w1 b (i * 4 + 1) _ _ (.string (Ln.bs x.t)) h1b
    rwa [hset] at this
  have hz2 : Below w.heap.size w (w1.setCell ⟨b, i * 4 + 1, none⟩ (.string (Ln.bs x.t))) := by
    have hg := grown_set w1 b (i * 4 + 1) (.string (Ln.bs x.t))
    refine ⟨hg.os.trans hb1.os, hg.tape.trans hb1.tape, hg.output.trans hb1.output, by rw [setCell_size]; exact hb1.size, fun k hk => ?_⟩
    by_cases e : k = b
    · subst e; rw [h2b]; exact HB.out.1.symm
    · exact (set_other e).trans (hb1.block k hk)
  have t3 : (w1.setCell ⟨b, i * 4 + 1, none⟩ (.string (Ln.bs x.t))).cell? ⟨b, i * 4 + 3, none⟩ = some (.slice kao x.kids.length kcap) := by rw [← HV.out]; exact cells_at h2b HB.out.2.2
  have f3 : (w1.setCell ⟨b, i * 4 + 1, none⟩ (.string (Ln.bs x.t))).frozen? ⟨b, i * 4 + 3, none⟩ = false := frozen_of_row _ b _ _ _ h2b
  obtain ⟨W2, hW2⟩ : ∃ W2, W2 = w1.setCell ⟨b, i * 4 + 1, none⟩ (.string (Ln.bs x.t)) := ⟨_, rfl⟩
  have HZ2 : Hid (Below w.heap.size w W2) := hW2 ▸ hz2
  have H2B : Hid (W2.heap[b]? = some (.cells c 25 (0, 0))) := hW2 ▸ h2b
  clear hz2 h2b h1b hset hb1
  by_cases hk0 : x.kids.length = 0
  · have hkn : x.kids = [] := List.length_eq_zero_iff.1 hk0
    have HE : Hid (_) := HFIN.out W2 (.slice none 0 0) HZ2.out (.inl ⟨hkn, rfl⟩)
    rw [hk0] at t3
    rw [hW2] at HE
    clear HFIN
    go_wp2
    refine bodyPost_ret (results_none rfl _ _ _) rfl ?_
    exact ⟨rfl, HE.out⟩
  · have i0 : decide ((x.kids.length : Int) = 0) = false := decide_eq_false (by omega)
    obtain ⟨ys, ao, cp, kb, koff, eys, hv, -, hao, -, hys⟩ := HR.out.parts
    rw [HV.out] at hv
    cases hv
    obtain ⟨rfl, hkb⟩ := hao (by omega)
    have hyl : x.kids.length = ys.length := by rw [eys, List.length_map]
    have hsz := Tr.length_sizes x.kids
    have hk9 := HK.out
    have hkb' : kb < n0 := hm kb hkb
    have hone : ∀ u ∈ n1Cells ys, u.oneCell' = true := n1_one (fun y hy => by
      obtain ⟨q, hq⟩ := List.mem_iff_getElem?.1 hy
      obtain ⟨a9, c9, e9⟩ := (hys q y hq).2.1.slice
      rw [e9]; rfl)
    have hcy : ∀ (j : Nat) (u : Value), (n1Cells ys)[j]? = some u → w.cell? ⟨kb, koff + j, none⟩ = some u := by
      intro j u hu
      have hjl : j < (n1Cells ys).length := (List.getElem?_eq_some_iff.1 hu).1
      rw [n1Cells_len] at hjl
      have hd : j / 4 < ys.length := by omega
      have hm : j = j / 4 * 4 + j % 4 := by omega
      obtain ⟨-, -, q0, q1, q2, q3⟩ := hys (j / 4) _ (List.getElem?_eq_getElem hd)
      have hr : j % 4 < 4 := by omega
      rw [hm, n1Cells_at (List.getElem?_eq_getElem hd) (j % 4) hr] at hu
      rw [hm]
      generalize j % 4 = r at hr hu
      match r, hr with
      | 0, _ => simp [N1.cells] at hu; subst hu; exact q0
      | 1, _ => simp [N1.cells] at hu; subst hu; rw [← Nat.add_assoc]; exact q1
      | 2, _ => simp [N1.cells] at hu; subst hu; rw [← Nat.add_assoc]; exact q2
      | 3, _ => simp [N1.cells] at hu; subst hu; rw [← Nat.add_assoc]; exact q3
    have HC : Hid (_) := nclone_any kb koff ys.length kcap (n1Cells ys) W2 (n1Cells_len ys) (by omega) (fun j u hu => (World.cell?_of_block (w := w) (a := ⟨kb, koff + j, none⟩) (HZ2.out.block kb (by have := HN.out; show kb < w.heap.size; omega))).trans (hcy j u hu)) hone
    have HY : Hid (CellsS (S) w x.v ys.length (n1Cells ys) ∧ (∀ y ∈ ys, y.Fit ∧ RowR (S) w y.v y.kids) ∧ x.kids = ys.map N1.tr) := by
      refine ⟨⟨some ⟨kb, koff, none⟩, kcap, kb, koff, by rw [HV.out, hyl], ?_, fun _ => ⟨rfl, hkb⟩, hcy⟩, fun y hy => ?_, eys⟩
      · obtain ⟨_, ao9, cp9, _, _, -, hv9, hcc, -⟩ := HR.out.parts
        rw [HV.out] at hv9
        cases hv9
        rw [hyl] at hcc
        exact hcc
      · obtain ⟨q, hq⟩ := List.mem_iff_getElem?.1 hy
        exact ⟨(hys q y hq).1, (hys q y hq).2.1⟩
    rw [hyl] at t3 i0 hk0
    rw [hW2] at HC
    clear hao hys hone hcy hsz hk9 hyl HR HK eys hkb
    go_wp2_with fail
    refine Calls.mono HC.out ?_
    rintro e w3 ⟨v', rfl, hown, hnn, hb3⟩
    rw [← hW2] at hown hb3
    have h3b : w3.heap[b]? = some (.cells c 25 (0, 0)) := (hb3.block b (Array.getElem?_eq_some_iff.1 H2B.out).1).trans H2B.out
    have t4 : w3.cell? ⟨b, i * 4 + 3, none⟩ = some x.v := cells_at h3b HB.out.2.2
    have f4 : w3.frozen? ⟨b, i * 4 + 3, none⟩ = false := frozen_of_row w3 b _ _ _ h3b
    have HE : Hid (_) := HFIN.out w3 v' (below_then HZ2.out hb3) (.inr ⟨ys, HY.out.2.2, HY.out.1, HY.out.2.1, owns_base hown HZ2.out.size, hnn⟩)
    obtain ⟨a9, c9, rfl⟩ := slice_shape hown
    clear HFIN hown hnn hb3 h3b HC HY HB H2B HZ2 hW2 t1 t3 f3
    go_wp2
    go_end0
    exact ⟨rfl, HE.out⟩

theorem copy_doing (S : Nat → Prop) (n0 n : Nat) (hm : ∀ b, S b → b < n0) (w0 : World) (wv : Value) (t : Tr) (hn : n0 ≤ n) : Doing n 87 #[] (CopyInv S n0 w0 wv t) where
  perm := fun hp ⟨h1, h2, h3, h4⟩ => ⟨h1, h2, fun j hj => h3 j (hp.mem_iff.2 hj), (hp.pairwise_iff apartJ_symm).1 h4⟩
  stab := by
    intro P w w' ⟨h1, h2, h3, h4⟩ k
    have hk : ∀ b, CS S n0 w b → w'.heap[b]? = w.heap[b]? := fun b hb => by
      rcases hb with hb | ⟨_, cs, fr, hb⟩
      · exact k.old b (by have := hm b hb; omega)
      · exact (k.other b cs _ fr hb (by decide)).trans hb.symm
    refine ⟨h1.trans ⟨k.os, k.tape, k.output, k.size, fun b hb => k.old b (by omega)⟩, h2.keep hk (fun b hb => ?_), fun j hj => (h3 j hj).keep hm (fun b hb => k.old b (by omega)) (fun hjn => ?_), h4⟩
    · rcases hb with hb' | ⟨hb0, cs, fr, hb'⟩
      · exact .inl hb'
      · exact .inr ⟨hb0, cs, fr, k.other b cs _ fr hb' (by decide)⟩
    · rcases h3 j hj with ⟨h0, _⟩ | ⟨bj, cj, arr, xj, e1, e2, e3, _⟩
      · exact absurd h0 hjn
      · have : j.blk = bj := by simp [Job.blk, e1]
        rw [this]
        exact (k.other bj arr _ _ e3 (by decide)).trans e3.symm
  nil := fun ⟨h1, h2, h3, h4⟩ => ⟨h1, h2, fun j hj => h3 j (by simp [hj]), (List.pairwise_cons.1 h4).2⟩
  read := fun ⟨_, _, h3, _⟩ => (h3 _ List.mem_cons_self).read
  step := fun h => copy_step S n0 n hm w0 wv t h

set_option maxRecDepth 100000 in
set_option maxHeartbeats 4000000 in
theorem tcopied_any (S : Nat → Prop) (t : Tr) (v : Value) (w : World) (hS : ∀ b, S b → b < w.heap.size) (hv : NodeR S w v t) (ht : Tr.Bd [t]) :
    Calls Tryz.prog 45 #[v] w fun e w' => ∃ r, e = .returned r ∧ NodeR (fun b => S b ∨ w.heap.size ≤ b ∧ b < w'.heap.size) w' r t ∧ Below w.heap.size w w' := by
  obtain ⟨x, rfl, rfl, hf, hr⟩ := hv
  have hkt := ht.mem (x := x.tr) (by simp)
  have htt : x.t.length ≤ 1000000 := hkt.1
  have hkk : Tr.Bd x.kids := hkt.2
  have hts : Tr.sizes [x.tr] ≤ 500000 := by have := ht.1; omega
  clear hkt ht
  obtain ⟨A1, h1⟩ : ∃ A, A = w.alloc (.cells x.cells.toArray 25) := ⟨_, rfl⟩
  obtain ⟨A2, h2⟩ : ∃ A, A = A1.alloc (.cells #[.int .u8 0, .string ⟨#[]⟩, .int .i64 0, .slice none 0 0] 25) := ⟨_, rfl⟩
  obtain ⟨A3, h3⟩ : ∃ A, A = A2.alloc (.cells x.cells.toArray 25) := ⟨_, rfl⟩
  have s1 : A1.heap.size = w.heap.size + 1 := by rw [h1, World.size_alloc]
  have s2 : A2.heap.size = w.heap.size + 1 + 1 := by rw [h2, World.size_alloc, s1]
  have n2 := World.alloc_heap_new A1 (.cells #[.int .u8 0, .string ⟨#[]⟩, .int .i64 0, .slice none 0 0] 25)
  have n3 := World.alloc_heap_new A2 (.cells x.cells.toArray 25)
  rw [← h2, s1] at n2
  rw [← h3, s2] at n3
  have b1 : Below w.heap.size w A1 := h1 ▸ below_new w _
  have b2 : Below A1.heap.size A1 A2 := h2 ▸ below_new A1 _
  have b3 : Below A2.heap.size A2 A3 := h3 ▸ below_new A2 _
  have b13 : Below w.heap.size w A3 := below_then b1 (below_then b2 b3)
  have hrl : RowR S A3 x.v x.kids := hr.keep (fun b hb => b13.block b (hS b hb)) (fun _ h => h)
  have s3 : A3.heap.size = w.heap.size + 1 + 1 + 1 := by rw [h3, World.size_alloc, s2]
  have D := copy_doing S A2.heap.size A3.heap.size (fun b hb => by have := hS b hb; omega) A3 (.slice (some ⟨w.heap.size + 1 + 1, 0, none⟩) 1 1) x.tr (by omega)
  have I0 : CopyInv S A2.heap.size A3 (.slice (some ⟨w.heap.size + 1 + 1, 0, none⟩) 1 1) x.tr [⟨.slice (some ⟨w.heap.size + 1 + 1, 0, none⟩) 1 1, 0, [x.tr]⟩] A3 := by
    refine ⟨Below.refl _ _, RowR.one n3 (by simp) (Nat.le_refl _) (.inr ⟨by omega, _, _, n3⟩) hf (hrl.mono (fun _ h => .inl h)), fun j hj => ?_, by simp⟩
    rw [List.mem_singleton] at hj
    subst hj
    refine .inr ⟨w.heap.size + 1 + 1, 1, x.cells.toArray, [x], rfl, by omega, n3, fun q u hu => ?_, rfl, by simp, fun y hy => ?_⟩
    · simpa [n1Cells] using hu
    · rw [List.mem_singleton] at hy
      subst hy
      exact ⟨hf, htt, by have := hkk.1; omega, hkk.2, hrl⟩
  have HE : Hid (_) := each_any _ _ A3 D (fun _ _ => rfl) I0 hts
  have HB : Hid (Below w.heap.size w A3 ∧ A3.heap[w.heap.size + 1]? = some (.cells #[.int .u8 0, .string ⟨#[]⟩, .int .i64 0, .slice none 0 0] 25 (0, 0)) ∧ A2.heap.size = w.heap.size + 1 + 1) := ⟨b13, (b3.block _ (by omega)).trans n2, s2⟩
  clear D I0 n2 n3 b1 b2 b3 b13 s1 s2 s3 hr hrl hf htt hkk hts
  obtain ⟨k, tx, nm, kv, kids⟩ := x
  simp only [N1.cells] at h1 h3 ⊢
  go_enter Tryz.func45, Tryz.ntmps45
  go_wp2_with fail
  rw [← h1, ← h2, ← h3]
  refine Calls.mono HE.out ?_
  rintro e w1 ⟨rfl, q1, q2, -, -⟩
  obtain ⟨ys, ao, cp, b, off, e1, e2, -, ha, -, hy⟩ := q2.parts
  obtain ⟨rfl, hS⟩ := ha (by simp)
  cases e2
  obtain ⟨y, rfl⟩ : ∃ y, ys = [y] := by
    cases ys with
    | nil => cases e1
    | cons y r =>
      cases r with
      | nil => exact ⟨y, rfl⟩
      | cons _ _ => simp at e1
  simp only [List.map_cons, List.map_nil, List.cons.injEq, and_true] at e1
  obtain ⟨yf, yr, y0, y1, y2, y3⟩ := hy 0 y rfl
  simp only [Nat.zero_mul, Nat.add_zero, Nat.zero_add] at y0 y1 y2 y3
  have hb9 := HB.out
  have r1 : w1.heap[w.heap.size + 1]? = some (.cells #[.int .u8 0, .string ⟨#[]⟩, .int .i64 0, .slice none 0 0] 25 (0, 0)) := (q1.block _ (by omega)).trans hb9.2.1
  obtain ⟨ya, yc, yv⟩ := yr.slice
  obtain ⟨yk, yt, yn, yw, ykids⟩ := y
  simp only at y0 y1 y2 y3 yv yr
  subst yv
  have c0 : w1.cell? ⟨w.heap.size + 1, 0, none⟩ = some (.int .u8 0) := cells_at r1 rfl
  have c1 : w1.cell? ⟨w.heap.size + 1, 1, none⟩ = some (.string ⟨#[]⟩) := cells_at r1 rfl
  have c2 : w1.cell? ⟨w.heap.size + 1, 2, none⟩ = some (.int .i64 0) := cells_at r1 rfl
  have c3 : w1.cell? ⟨w.heap.size + 1, 3, none⟩ = some (.slice none 0 0) := cells_at r1 rfl
  have f0 : ∀ j, w1.frozen? ⟨w.heap.size + 1, j, none⟩ = false := fun j => frozen_of_row w1 _ j _ _ r1
  have HQ : Hid (_) := And.intro q1 (And.intro r1 (And.intro yf (And.intro yr e1)))
  clear q1 q2 hy ha hS r1 yf yr e1 hb9 HE
  go_wp2_with fail
  obtain ⟨Z, hZ⟩ : ∃ Z, Z = (((w1.setCell ⟨w.heap.size + 1, 0, none⟩ (.int .u8 yk)).setCell ⟨w.heap.size + 1, 1, none⟩ (.string (Ln.bs yt))).setCell ⟨w.heap.size + 1, 2, none⟩ (.int .i64 yn)).setCell ⟨w.heap.size + 1, 3, none⟩ (.slice ya ykids.length yc) := ⟨_, rfl⟩
  rw [← hZ]
  have hq := HQ.out
  have hb9 := HB.out
  have hz := four_keep w1 _ _ _ _ _ Z hZ
  have hzr : Z.heap[w.heap.size + 1]? = some (.cells #[.int .u8 yk, .string (Ln.bs yt), .int .i64 yn, .slice ya ykids.length yc] 25 (0, 0)) := by rw [hZ]; exact four_cells hq.2.1 _ _ _ _
  have z0 : Z.cell? ⟨w.heap.size + 1, 0, none⟩ = some (.int .u8 yk) := cells_at hzr rfl
  have z1 : Z.cell? ⟨w.heap.size + 1, 1, none⟩ = some (.string (Ln.bs yt)) := cells_at hzr rfl
  have z2 : Z.cell? ⟨w.heap.size + 1, 2, none⟩ = some (.int .i64 yn) := cells_at hzr rfl
  have z3 : Z.cell? ⟨w.heap.size + 1, 3, none⟩ = some (.slice ya ykids.length yc) := cells_at hzr rfl
  have HF : Hid (NodeR (fun b => S b ∨ w.heap.size ≤ b ∧ b < Z.heap.size) Z (.agg #[.int .u8 yk, .string (Ln.bs yt), .int .i64 yn, .slice ya ykids.length yc]) (N1.tr ⟨k, tx, nm, kv, kids⟩) ∧ Below w.heap.size w Z) := by
    refine ⟨⟨⟨yk, yt, yn, .slice ya ykids.length yc, ykids⟩, rfl, hq.2.2.2.2.symm, hq.2.2.1, ?_⟩, ?_⟩
    · refine hq.2.2.2.1.keep (fun k hk => hz.2.2 k ?_) (fun k hk => ?_)
      · rcases hk with hk | ⟨hk, _⟩
        · have := hS k hk; omega
        · omega
      · rcases hk with hk | ⟨hk0, _, _, hk⟩
        · exact .inl hk
        · exact .inr ⟨by omega, by rw [hz.2.1]; exact (Array.getElem?_eq_some_iff.1 hk).1⟩
    · exact (hb9.1.trans (hq.1.mono (by omega))).trans (hz.1.mono (by omega))
  clear hq hb9 hz hzr hZ HQ HB c0 c1 c2 c3 f0 y0 y1 y2 y3
  go_wp2
  refine bodyPost_ret (v := .agg #[.int .u8 yk, .string (Ln.bs yt), .int .i64 yn, .slice ya ykids.length yc]) (by simp [results, Tryz.results45, go_sem, z0, z1, z2, z3]) rfl ⟨_, rfl, HF.out⟩
end Go.Proofs.YtnndgjnihhafbaaGreatDoor

/-
  The walk of tree.Get.
-/
namespace Go.Proofs.YtnndgjnihhafbaaGreatDoor
open Go.RowKit Go.Shelf

attribute [local go_sem] Oper.semAt_some

def Tr.zero : Tr := .mk 0 [] 0 []
theorem rowR_nil (S : Nat → Prop) (w : World) : RowR S w (.slice none 0 0) [] :=
  .mk [] rfl ⟨none, 0, 0, 0, rfl, ⟨Nat.le_refl _, fun _ => rfl⟩, fun h => absurd h (by simp), fun j u hu => by simp [n1Cells] at hu⟩ (by simp) (by simp) (by simp)
theorem nodeR_zero (S : Nat → Prop) (w : World) : NodeR S w (.agg #[.int .u8 0, .string ⟨#[]⟩, .int .i64 0, .slice none 0 0]) Tr.zero :=
  ⟨⟨0, [], 0, .slice none 0 0, []⟩, rfl, rfl, by simp [N1.Fit], rowR_nil S w⟩

/-- A path, as it lies in memory. -/
def PathLow (m : Nat) (w : World) (v : Value) (T : List Int) : Prop := CellsLow m w v T.length (T.map (Value.int .i64))
theorem PathLow.parts {m : Nat} {w : World} {v : Value} {T : List Int} (h : PathLow m w v T) : ∃ ao cap b off, v = .slice ao T.length cap ∧ (0 < T.length → ao = some ⟨b, off, none⟩ ∧ b < m) ∧ ∀ (j : Nat) (x : Int), T[j]? = some x → w.cell? ⟨b, off + j, none⟩ = some (.int .i64 x) := by
  obtain ⟨ao, cap, b, off, hv, -, ha, hx⟩ := h
  exact ⟨ao, cap, b, off, hv, ha, fun j x hj => hx j _ (by rw [List.getElem?_map, hj]; rfl)⟩
theorem PathLow.at {A B : World} {v : Value} {T : List Int} (h : PathLow A.heap.size A v T) (hb : Below A.heap.size A B) : PathLow B.heap.size B v T := CellsLow.at h hb (fun h0 => by rw [List.length_eq_zero_iff.1 h0]; rfl)

def GetPost (o : Option Tr) (w : World) (e : Ending) (w' : World) : Prop := Below w.heap.size w w' ∧ ∃ r, e = .returned (.tuple #[r, .bool o.isSome]) ∧ NodeR (lowS w'.heap.size) w' r (o.getD Tr.zero)

/-- The node that a path has led to so far, in a block of its own. -/
structure GetAt (w : World) (o : Option Tr) (T : List Int) (i : Nat) (wr : World) (y : N1) : Prop where
  below : Below w.heap.size w wr
  node : wr.heap[w.heap.size]? = some (.cells #[.int .u8 y.k, .string (Ln.bs y.t), .int .i64 y.n, y.v] 25 (0, 0))
  res : wr.heap[w.heap.size + 1]? = some (.cells #[.int .u8 0, .string ⟨#[]⟩, .int .i64 0, .slice none 0 0] 25 (0, 0))
  fit : y.Fit
  row : RowR (lowS w.heap.size) w y.v y.kids
  bd : Tr.Bd [y.tr]
  to : Tr.get (T.drop i) y.tr = o

set_option maxRecDepth 100000 in
set_option maxHeartbeats 4000000 in
theorem get_any (t : Tr) (v pv : Value) (T : List Int) (w : World) (hv : NodeR (lowS w.heap.size) w v t) (ht : Tr.Bd [t]) (hp : PathLow w.heap.size w pv T) (hT : T.length ≤ 1000000) :
    Calls Tryz.prog 21 #[v, pv] w (GetPost (Tr.get T t) w) := by
  obtain ⟨⟨xk, xt, xn, xv, xkids⟩, rfl, rfl, hf, hr⟩ := hv
  obtain ⟨xa, xc, hxv⟩ := hr.slice
  simp only at hxv
  subst hxv
  obtain ⟨pao, pcap, pb, poff, rfl, hpa, hpc⟩ := hp.parts
  obtain ⟨o, ho⟩ : ∃ o, o = Tr.get T (N1.tr ⟨xk, xt, xn, .slice xa xkids.length xc, xkids⟩) := ⟨_, rfl⟩
  rw [← ho]
  have HST : Hid (GetAt w o T 0 ((w.alloc (.cells #[.int .u8 xk, .string (Ln.bs xt), .int .i64 xn, .slice xa xkids.length xc] 25)).alloc (.cells #[.int .u8 0, .string ⟨#[]⟩, .int .i64 0, .slice none 0 0] 25)) ⟨xk, xt, xn, .slice xa xkids.length xc, xkids⟩) := by
    have s1 : (w.alloc (.cells #[.int .u8 xk, .string (Ln.bs xt), .int .i64 xn, .slice xa xkids.length xc] 25)).heap.size = w.heap.size + 1 := World.size_alloc _ _
    refine ⟨below_then (below_new w _) (below_new _ _), ?_, ?_, hf, hr, ht, by rw [ho]; rfl⟩
    · exact ((below_new _ _).block _ (by omega)).trans (World.alloc_heap_new w _)
    · rw [← s1]; exact World.alloc_heap_new _ _
  have HPC : Hid (_) := hpc
  clear hpc hf hr ht hp ho
  obtain ⟨N, hN⟩ : ∃ N, N = T.length := ⟨_, rfl⟩
  have HN : Hid (N = T.length) := hN
  rw [← hN] at hpa hT ⊢
  clear hN
  simp only [N1.cells]
  refine (callsIn_wide (n := 3)).1 ?_
  refine callsIn_of_wp Tryz.func21 rfl trivial ?_ rfl
  simp only [Tryz.ntmps21, List.size_toArray, List.length_cons, List.length_nil, Nat.reduceAdd, Nat.reduceSub, Array.replicate_succ, Array.replicate_zero, List.push_toArray, List.append_toArray, List.nil_append, List.cons_append]
  gi_wp2
  gi_loopw [10] (fun i wr => ∃ k : Nat, k ≤ N ∧ i = .int .i64 k ∧ ∃ y : N1, GetAt w o T k wr y) (fun i _ => N - (intOf i).toNat)
  case atStart => exact ⟨0, Nat.zero_le _, rfl, _, HST.out⟩
  case round =>
    clear HST
    obtain ⟨k, hk, rfl, y, hy⟩ := hrel
    obtain ⟨yk, yt, yn, yv, ykids⟩ := y
    obtain ⟨ya, yc, hyv⟩ := hy.row.slice
    simp only at hyv
    subst hyv
    have c0 : wr.cell? ⟨w.heap.size, 0, none⟩ = some (.int .u8 yk) := cells_at hy.node rfl
    have c1 : wr.cell? ⟨w.heap.size, 1, none⟩ = some (.string (Ln.bs yt)) := cells_at hy.node rfl
    have c2 : wr.cell? ⟨w.heap.size, 2, none⟩ = some (.int .i64 yn) := cells_at hy.node rfl
    have c3 : wr.cell? ⟨w.heap.size, 3, none⟩ = some (.slice ya ykids.length yc) := cells_at hy.node rfl
    have r0 : wr.cell? ⟨w.heap.size + 1, 0, none⟩ = some (.int .u8 0) := cells_at hy.res rfl
    have r1 : wr.cell? ⟨w.heap.size + 1, 1, none⟩ = some (.string ⟨#[]⟩) := cells_at hy.res rfl
    have r2 : wr.cell? ⟨w.heap.size + 1, 2, none⟩ = some (.int .i64 0) := cells_at hy.res rfl
    have r3 : wr.cell? ⟨w.heap.size + 1, 3, none⟩ = some (.slice none 0 0) := cells_at hy.res rfl
    have fN : ∀ j, wr.frozen? ⟨w.heap.size, j, none⟩ = false := fun j => frozen_of_row wr _ j _ _ hy.node
    have fR : ∀ j, wr.frozen? ⟨w.heap.size + 1, j, none⟩ = false := fun j => frozen_of_row wr _ j _ _ hy.res
    by_cases hlt : k < N
    · obtain ⟨rfl, hpb⟩ := hpa (by omega)
      obtain ⟨p, hpk⟩ : ∃ p, T[k]? = some p := ⟨T[k]'(by have := HN.out; omega), List.getElem?_eq_getElem _⟩
      have edrop : T.drop k = p :: T.drop (k + 1) := by
        have hk' : k < T.length := by have := HN.out; omega
        rw [List.drop_eq_getElem_cons hk']
        rw [List.getElem?_eq_getElem hk'] at hpk
        cases hpk; rfl
      have gp : wr.cell? ⟨pb, poff + k, none⟩ = some (.int .i64 p) := (hy.below.cell (p := ⟨pb, poff + k, none⟩) hpb).trans (HPC.out k p hpk)
      have hto := hy.to
      rw [edrop] at hto
      by_cases hp : 0 ≤ p ∧ p < ykids.length
      · have d1 : decide (p < 0) = false := decide_eq_false (by omega)
        have d2 : decide ((ykids.length : Int) ≤ p) = false := decide_eq_false (by omega)
        obtain ⟨q, rfl⟩ : ∃ q : Nat, p = q := ⟨p.toNat, by omega⟩
        obtain ⟨zs, za, zc, zb, zoff, ez, hzv, -, hza, hzl, hz⟩ := hy.row.parts
        simp only at ez hzv hza hzl
        cases hzv
        obtain ⟨rfl, hzb⟩ := hza (by omega)
        have hzb' : zb < w.heap.size := hzb
        have hql : q < zs.length := by rw [ez, List.length_map] at hp; omega
        obtain ⟨⟨zk, zt, zn, zv, zkids⟩, hzq⟩ : ∃ z, zs[q]? = some z := ⟨zs[q], List.getElem?_eq_getElem hql⟩
        obtain ⟨zf, zr, z0, z1, z2, z3⟩ := hz q _ hzq
        simp only at z0 z1 z2 z3 zr
        have tr : ∀ j u, w.cell? ⟨zb, j, none⟩ = some u → wr.cell? ⟨zb, j, none⟩ = some u := fun j u h => (hy.below.cell (p := ⟨zb, j, none⟩) hzb').trans h
        replace z0 := tr _ _ z0
        replace z1 := tr _ _ z1
        replace z2 := tr _ _ z2
        replace z3 := tr _ _ z3
        obtain ⟨za2, zc2, hzv2⟩ := zr.slice
        subst hzv2
        obtain ⟨Z, hZ⟩ : ∃ Z, Z = (((wr.setCell ⟨w.heap.size, 0, none⟩ (.int .u8 zk)).setCell ⟨w.heap.size, 1, none⟩ (.string (Ln.bs zt))).setCell ⟨w.heap.size, 2, none⟩ (.int .i64 zn)).setCell ⟨w.heap.size, 3, none⟩ (.slice za2 zkids.length zc2) := ⟨_, rfl⟩
        have hzk := four_keep wr _ _ _ _ _ Z hZ
        have hkq : ykids[q]? = some (N1.tr ⟨zk, zt, zn, .slice za2 zkids.length zc2, zkids⟩) := by rw [ez, List.getElem?_map, hzq]; rfl
        have HG : Hid (GetAt w o T (k + 1) Z ⟨zk, zt, zn, .slice za2 zkids.length zc2, zkids⟩) := by
          refine ⟨hy.below.trans hzk.1, by rw [hZ]; exact four_cells hy.node _ _ _ _, (hzk.2.2 _ (by omega)).trans hy.res, zf, zr, Tr.Bd.one (hy.bd.mem List.mem_cons_self).2 (List.mem_of_getElem? hkq), ?_⟩
          rw [← hto]
          exact (Tr.get_in (x := N1.tr ⟨yk, yt, yn, _, ykids⟩) hkq).symm
        have hqk : (q : Int) < ykids.length := hp.2
        clear hy hto hz hza ez hzk hkq hzq tr zr zf hp
        gi_wp2
        rw [← hZ]
        refine ⟨⟨k + 1, by omega, by simp, _, HG.out⟩, by simp [intOf]; omega⟩
      · have ho : o = none := by
          rw [← hto]
          exact Tr.get_out hp
        subst ho
        obtain ⟨Z, hZ⟩ : ∃ Z, Z = (((wr.setCell ⟨w.heap.size + 1, 0, none⟩ (.int .u8 0)).setCell ⟨w.heap.size + 1, 1, none⟩ (.string ⟨#[]⟩)).setCell ⟨w.heap.size + 1, 2, none⟩ (.int .i64 0)).setCell ⟨w.heap.size + 1, 3, none⟩ (.slice none 0 0) := ⟨_, rfl⟩
        have hzk := four_keep wr _ _ _ _ _ Z hZ
        have hzr : Z.heap[w.heap.size + 1]? = some (.cells #[.int .u8 0, .string ⟨#[]⟩, .int .i64 0, .slice none 0 0] 25 (0, 0)) := by rw [hZ]; exact four_cells hy.res _ _ _ _
        have e0 : Z.cell? ⟨w.heap.size + 1, 0, none⟩ = some (.int .u8 0) := cells_at hzr rfl
        have e1 : Z.cell? ⟨w.heap.size + 1, 1, none⟩ = some (.string ⟨#[]⟩) := cells_at hzr rfl
        have e2 : Z.cell? ⟨w.heap.size + 1, 2, none⟩ = some (.int .i64 0) := cells_at hzr rfl
        have e3 : Z.cell? ⟨w.heap.size + 1, 3, none⟩ = some (.slice none 0 0) := cells_at hzr rfl
        have HB : Hid (Below w.heap.size w Z) := hy.below.trans (hzk.1.mono (by omega))
        have END : ∀ (tm : Array Value) (d : List Deferred), tm[4]? = some (.pointer (some ⟨w.heap.size + 1, 0, none⟩)) → tm[5]? = some (.bool false) → True := fun _ _ _ _ => trivial
        clear hy hto hzk hzr END
        by_cases hneg : p < 0
        · have d1 : decide (p < 0) = true := decide_eq_true hneg
          gi_wp2
          rw [← hZ]
          refine bodyPost_ret (v := .tuple #[.agg #[.int .u8 0, .string ⟨#[]⟩, .int .i64 0, .slice none 0 0], .bool false]) (by simp [results, Tryz.results21, go_sem, e0, e1, e2, e3]) rfl ⟨HB.out, _, rfl, nodeR_zero _ _⟩
        · have d1 : decide (p < 0) = false := decide_eq_false hneg
          have d2 : decide ((ykids.length : Int) ≤ p) = true := decide_eq_true (by omega)
          gi_wp2
          rw [← hZ]
          refine bodyPost_ret (v := .tuple #[.agg #[.int .u8 0, .string ⟨#[]⟩, .int .i64 0, .slice none 0 0], .bool false]) (by simp [results, Tryz.results21, go_sem, e0, e1, e2, e3]) rfl ⟨HB.out, _, rfl, nodeR_zero _ _⟩
    · have hkN : k = N := by omega
      subst hkN
      have ho : o = some (N1.tr ⟨yk, yt, yn, .slice ya ykids.length yc, ykids⟩) := by
        rw [← hy.to, HN.out, List.drop_length]; rfl
      subst ho
      have HC : Hid (_) := tcopied_any (lowS w.heap.size) _ (.agg #[.int .u8 yk, .string (Ln.bs yt), .int .i64 yn, .slice ya ykids.length yc]) wr (fun b hb => Nat.lt_of_lt_of_le hb hy.below.size) ⟨⟨yk, yt, yn, .slice ya ykids.length yc, ykids⟩, rfl, rfl, hy.fit, hy.row.keep (fun b hb => hy.below.block b hb) (fun _ h => h)⟩ hy.bd
      have HR : Hid (wr.heap[w.heap.size + 1]? = some (.cells #[.int .u8 0, .string ⟨#[]⟩, .int .i64 0, .slice none 0 0] 25 (0, 0)) ∧ Below w.heap.size w wr) := ⟨hy.res, hy.below⟩
      clear hy
      gi_wp2
      refine ⟨trivial, ?_⟩
      refine (callsIn_wide.2 HC.out).mono ?_
      rintro e w1 ⟨r, rfl, ⟨⟨zk, zt, zn, zv, zkids⟩, rfl, hzt, zf, zr⟩, hb1⟩
      obtain ⟨za, zc, hzv⟩ := zr.slice
      simp only at hzv
      subst hzv
      simp only [N1.cells]
      have hsz := (Array.getElem?_eq_some_iff.1 HR.out.1).1
      have hr1 : w1.heap[w.heap.size + 1]? = some (.cells #[.int .u8 0, .string ⟨#[]⟩, .int .i64 0, .slice none 0 0] 25 (0, 0)) := (hb1.block _ hsz).trans HR.out.1
      have q0 : w1.cell? ⟨w.heap.size + 1, 0, none⟩ = some (.int .u8 0) := cells_at hr1 rfl
      have q1 : w1.cell? ⟨w.heap.size + 1, 1, none⟩ = some (.string ⟨#[]⟩) := cells_at hr1 rfl
      have q2 : w1.cell? ⟨w.heap.size + 1, 2, none⟩ = some (.int .i64 0) := cells_at hr1 rfl
      have q3 : w1.cell? ⟨w.heap.size + 1, 3, none⟩ = some (.slice none 0 0) := cells_at hr1 rfl
      have fq : ∀ j, w1.frozen? ⟨w.heap.size + 1, j, none⟩ = false := fun j => frozen_of_row w1 _ j _ _ hr1
      obtain ⟨Z, hZ⟩ : ∃ Z, Z = (((w1.setCell ⟨w.heap.size + 1, 0, none⟩ (.int .u8 zk)).setCell ⟨w.heap.size + 1, 1, none⟩ (.string (Ln.bs zt))).setCell ⟨w.heap.size + 1, 2, none⟩ (.int .i64 zn)).setCell ⟨w.heap.size + 1, 3, none⟩ (.slice za zkids.length zc) := ⟨_, rfl⟩
      have hzk := four_keep w1 _ _ _ _ _ Z hZ
      have hzr : Z.heap[w.heap.size + 1]? = some (.cells #[.int .u8 zk, .string (Ln.bs zt), .int .i64 zn, .slice za zkids.length zc] 25 (0, 0)) := by rw [hZ]; exact four_cells hr1 _ _ _ _
      have e0 : Z.cell? ⟨w.heap.size + 1, 0, none⟩ = some (.int .u8 zk) := cells_at hzr rfl
      have e1 : Z.cell? ⟨w.heap.size + 1, 1, none⟩ = some (.string (Ln.bs zt)) := cells_at hzr rfl
      have e2 : Z.cell? ⟨w.heap.size + 1, 2, none⟩ = some (.int .i64 zn) := cells_at hzr rfl
      have e3 : Z.cell? ⟨w.heap.size + 1, 3, none⟩ = some (.slice za zkids.length zc) := cells_at hzr rfl
      have HF : Hid (GetPost (some (N1.tr ⟨yk, yt, yn, .slice ya ykids.length yc, ykids⟩)) w (.returned (.tuple #[.agg #[.int .u8 zk, .string (Ln.bs zt), .int .i64 zn, .slice za zkids.length zc], .bool true])) Z) := by
        refine ⟨HR.out.2.trans ((hb1.mono HR.out.2.size).trans (hzk.1.mono (by omega))), _, rfl, ⟨⟨zk, zt, zn, .slice za zkids.length zc, zkids⟩, rfl, hzt, zf, ?_⟩⟩
        refine zr.keep (fun b hb => hzk.2.2 b ?_) (fun b hb => ?_)
        · rcases hb with hb | hb
          · have : b < w.heap.size := hb
            omega
          · omega
        · show b < Z.heap.size
          rw [hzk.2.1]
          rcases hb with hb | hb
          · have : b < w.heap.size := hb
            have := HR.out.2.size
            have := hb1.size
            omega
          · exact hb.2
      clear hzr hzk hr1 hb1 HR HC zr zf hzt hsz
      gi_wp2
      rw [← hZ]
      exact bodyPost_ret (v := .tuple #[.agg #[.int .u8 zk, .string (Ln.bs zt), .int .i64 zn, .slice za zkids.length zc], .bool true]) (by simp [results, Tryz.results21, go_sem, e0, e1, e2, e3]) rfl HF.out
end Go.Proofs.YtnndgjnihhafbaaGreatDoor

/-
  The walks of what may stand in a node.
-/
namespace Go.Proofs.YtnndgjnihhafbaaGreatDoor
open Go.RowKit Go.Shelf

attribute [local go_sem] Oper.semAt_some

theorem find_none (k : Int) : ∀ (es : List MapEntry) (i : Nat), (∀ e ∈ es, ∃ k', e.key = .int .u8 k' ∧ k' ≠ k) → Instr.findNow (.int .u8) (.int .u8 k) es i = some none
  | [], _, _ => rfl
  | e :: es, i, h => by
    obtain ⟨k', h1, h2⟩ := h e List.mem_cons_self
    have hk : (k == k') = false := by simp; omega
    simp only [Instr.findNow, h1, Instr.sameNow, if_true, hk]
    exact find_none k es (i + 1) (fun e he => h e (List.mem_cons_of_mem _ he))
theorem check_key (b : Bool) (k : Int) (w : World) : (Instr.checkKey b 10000 22 (.int .u8 k)).run Tryz.prog w = .ok () w := Go.MapKept.run_checkKey Tryz.underlying22 (by simp [Go.MapKept.IsKey]) b 9999
theorem find_key {k : Int} {es : List MapEntry} {r : Option (Nat × Value)} (h : Instr.findNow (.int .u8) (.int .u8 k) es 0 = some r) (w : World) : (Instr.findKey 22 (.int .u8 k) es).run Tryz.prog w = .ok r w := by
  simp [Instr.findKey, go_sem, run_underlying Tryz.underlying22, h]
theorem insert_run {w : World} {r clock : Nat} {es : Array MapEntry} {k : Int} (hb : w.heap[r]? = some (.map es clock)) (h : ∀ e ∈ es.toList, ∃ k', e.key = .int .u8 k' ∧ k' ≠ k) (v : Value) :
    (Instr.mapUpdate 118 (.map (some r)) (.int .u8 k) v).run Tryz.prog w = .ok () (w.putObj r (.map (es.push { key := .int .u8 k, val := v, born := clock }) (clock + 1))) := by
  have hf := find_key (find_none k es.toList 0 h) w
  simp only [Instr.mapUpdate, Sem.run_bind, run_underlying Tryz.underlying118, Result.andThen, Go.MapKept.run_getObj_map hb, check_key, hf, Go.MapKept.run_setObj_map _ hb]
  rfl
theorem lookup_run {w : World} {r clock : Nat} {es : Array MapEntry} {k : Int} (hb : w.heap[r]? = some (.map es clock)) {o : Option (Nat × Value)} (hf : Instr.findNow (.int .u8) (.int .u8 k) es.toList 0 = some o) :
    (Instr.lookup 118 (.map (some r)) (.int .u8 k) true).run Tryz.prog w = .ok (.tuple #[(o.map (·.2)).getD (.slice none 0 0), .bool o.isSome]) w ∧
    (Instr.lookup 118 (.map (some r)) (.int .u8 k) false).run Tryz.prog w = .ok ((o.map (·.2)).getD (.slice none 0 0)) w := by
  have hf := find_key hf w
  have hz : (zeroValue 155).run Tryz.prog w = .ok (.slice none 0 0) w := by simp [go_sem]
  constructor
  · cases o with
    | none => simp only [Instr.lookup, Sem.run_bind, run_underlying Tryz.underlying118, Result.andThen, Go.MapKept.run_getObj_map hb, check_key, hf, Sem.run_pure, hz]; rfl
    | some p => simp only [Instr.lookup, Sem.run_bind, run_underlying Tryz.underlying118, Result.andThen, Go.MapKept.run_getObj_map hb, check_key, hf, Sem.run_pure]; rfl
  · cases o with
    | none => simp only [Instr.lookup, Sem.run_bind, run_underlying Tryz.underlying118, Result.andThen, Go.MapKept.run_getObj_map hb, check_key, hf, Sem.run_pure, hz]; rfl
    | some p => simp only [Instr.lookup, Sem.run_bind, run_underlying Tryz.underlying118, Result.andThen, Go.MapKept.run_getObj_map hb, check_key, hf, Sem.run_pure]; rfl

set_option maxRecDepth 100000 in
set_option maxHeartbeats 4000000 in
theorem bears_any (k : Int) (w : World) : Calls Tryz.prog 51 #[.int .u8 k] w fun e w' => e = .returned (.bool (Tr.bears k)) ∧ w' = w := by
  go_enter Tryz.func51, Tryz.ntmps51
  go_wp2
  all_goals (go_ret; refine ⟨congrArg (fun b => Ending.returned (.bool b)) ?_, rfl⟩; unfold Tr.bears; first | rfl | (simp_all; done) | (simp; omega))

set_option maxRecDepth 100000 in
set_option maxHeartbeats 4000000 in
theorem stands_any (a k : Int) (w : World) : Calls Tryz.prog 155 #[.int .u8 a, .int .u8 k] w fun e w' => e = .returned (.bool (Tr.stands a k)) ∧ w' = w := by
  go_enter Tryz.func155, Tryz.ntmps155
  go_wp2
  all_goals (go_ret; refine ⟨congrArg (fun b => Ending.returned (.bool b)) ?_, rfl⟩; unfold Tr.stands; first | rfl | (simp_all; done) | (simp_all; omega))

/-- The table, as it lies in memory: what each Kind's row reads as. -/
def TabEs (w : World) : List MapEntry → List (Int × List Int) → Prop
  | [], [] => True
  | e :: es, p :: ps => e.key = .int .u8 p.1 ∧ CellsLow w.heap.size w e.val p.2.length (p.2.map (Value.int .u8)) ∧ TabEs w es ps
  | _, _ => False
theorem TabEs.at {A B : World} (hb : Below A.heap.size A B) : ∀ {es : List MapEntry} {ps : List (Int × List Int)}, TabEs A es ps → TabEs B es ps
  | [], [], _ => trivial
  | _ :: _, _ :: _, h => ⟨h.1, CellsLow.at h.2.1 hb (fun h0 => by rw [List.length_eq_zero_iff.1 h0]; rfl), TabEs.at hb h.2.2⟩
  | [], _ :: _, h => h.elim
  | _ :: _, [], h => h.elim
theorem TabEs.snoc {w : World} {e : MapEntry} {p : Int × List Int} (h1 : e.key = .int .u8 p.1) (h2 : CellsLow w.heap.size w e.val p.2.length (p.2.map (Value.int .u8))) : ∀ {es : List MapEntry} {ps : List (Int × List Int)}, TabEs w es ps → TabEs w (es ++ [e]) (ps ++ [p])
  | [], [], _ => ⟨h1, h2, trivial⟩
  | _ :: _, _ :: _, h => ⟨h.1, h.2.1, TabEs.snoc h1 h2 h.2.2⟩
  | [], _ :: _, h => h.elim
  | _ :: _, [], h => h.elim
theorem TabEs.apart {w : World} {k : Int} : ∀ {es : List MapEntry} {ps : List (Int × List Int)}, TabEs w es ps → (ps.all fun p => p.1 != k) = true → ∀ e ∈ es, ∃ k', e.key = .int .u8 k' ∧ k' ≠ k
  | [], _, _, _ => fun _ h => by cases h
  | e :: es, p :: ps, h, hk => fun e' he' => by
    simp only [List.all_cons, Bool.and_eq_true, bne_iff_ne] at hk
    rcases List.mem_cons.1 he' with rfl | he'
    · exact ⟨p.1, h.1, hk.1⟩
    · exact TabEs.apart h.2.2 (by simpa using hk.2) e' he'
  | _ :: _, [], h, _ => h.elim

def TabW (w0 : World) (ps : List (Int × List Int)) (w : World) : Prop := Below w0.heap.size w0 w ∧ ∃ es clock, w.heap[w0.heap.size]? = some (.map es clock) ∧ TabEs w es.toList ps

theorem tab_step {w0 w : World} {ps : List (Int × List Int)} (h : TabW w0 ps w) (k : Int) (l : List Int) (hk : (ps.all fun p => p.1 != k) = true) :
    ∃ w', (Instr.mapUpdate 118 (.map (some w0.heap.size)) (.int .u8 k) (.slice (some ⟨w.heap.size, 0, none⟩) l.length l.length)).run Tryz.prog (w.alloc (.cells (l.map (Value.int .u8)).toArray 22)) = .ok () w' ∧ TabW w0 (ps ++ [(k, l)]) w' := by
  obtain ⟨hB, es, clock, hm, ht⟩ := h
  have hlt := (Array.getElem?_eq_some_iff.1 hm).1
  have b1 : Below w.heap.size w (w.alloc (.cells (l.map (Value.int .u8)).toArray 22)) := below_new w _
  have hm1 : (w.alloc (.cells (l.map (Value.int .u8)).toArray 22)).heap[w0.heap.size]? = some (.map es clock) := (b1.block _ hlt).trans hm
  refine ⟨_, insert_run hm1 (ht.apart hk) _, ?_⟩
  obtain ⟨W, hW⟩ : ∃ W, W = w.alloc (.cells (l.map (Value.int .u8)).toArray 22) := ⟨_, rfl⟩
  rw [← hW] at b1 hm1 ⊢
  have hwlt : w0.heap.size < W.heap.size := (Array.getElem?_eq_some_iff.1 hm1).1
  obtain ⟨o, ho⟩ : ∃ o, o = Obj.map (es.push { key := .int .u8 k, val := .slice (some ⟨w.heap.size, 0, none⟩) l.length l.length, born := clock }) (clock + 1) := ⟨_, rfl⟩
  rw [← ho]
  have hsz : (W.putObj w0.heap.size o).heap.size = W.heap.size := by simp [World.putObj]
  have hoth : ∀ b, b ≠ w0.heap.size → (W.putObj w0.heap.size o).heap[b]? = W.heap[b]? := fun b hb => World.putObj_heap_other hb
  have bP : Below w0.heap.size W (W.putObj w0.heap.size o) := ⟨rfl, rfl, rfl, by rw [hsz]; omega, fun b hb => hoth b (by omega)⟩
  refine ⟨(hB.trans (b1.mono hB.size)).trans bP, es.push { key := .int .u8 k, val := .slice (some ⟨w.heap.size, 0, none⟩) l.length l.length, born := clock }, clock + 1, by rw [World.putObj_heap_same hwlt, ho], ?_⟩
  rw [Array.toList_push]
  have lift : ∀ {n : Nat} {v : Value} {xs : List Value}, (n = 0 → xs = []) → CellsLow W.heap.size W v n xs → CellsLow (W.putObj w0.heap.size o).heap.size (W.putObj w0.heap.size o) v n xs := by
    intro n v xs h0 hc
    obtain ⟨ao, cap, b, off, hv, hcap, ha, hx⟩ := hc
    refine ⟨ao, cap, b, off, hv, hcap, fun h => ⟨(ha h).1, by rw [hsz]; exact (ha h).2⟩, fun j u hu => ?_⟩
    have hc := hx j u hu
    have hbn : b ≠ w0.heap.size := fun e => by
      subst e
      simp [World.cell?, hm1] at hc
    exact (World.cell?_of_block (w := W) (a := ⟨b, off + j, none⟩) (hoth b hbn)).trans hc
  have liftE : ∀ {es : List MapEntry} {ps : List (Int × List Int)}, TabEs W es ps → TabEs (W.putObj w0.heap.size o) es ps := by
    intro es
    induction es with
    | nil => intro ps h; cases ps with
      | nil => trivial
      | cons _ _ => exact h.elim
    | cons e es ih => intro ps h; cases ps with
      | nil => exact h.elim
      | cons p ps => exact ⟨h.1, lift (fun h0 => by rw [List.length_eq_zero_iff.1 h0]; rfl) h.2.1, ih h.2.2⟩
  refine TabEs.snoc (p := (k, l)) rfl (lift (fun h0 => by rw [List.length_eq_zero_iff.1 h0]; rfl) ?_) (liftE (ht.at b1))
  have := CellsLow.lit w (l.map (Value.int .u8)) 22 l.length
  rw [← hW] at this
  exact this

def Tr.rowsL : List (Int × List Int) := [(1, [2, 203]), (2, [3, 5]), (3, [4, 203]), (4, []), (5, [201, 203]), (6, [200]), (7, [202, 200]), (8, [200, 5, 5]), (9, [200, 5]), (10, [200]), (11, [200]), (12, [25]), (20, []), (21, []), (22, []), (23, [200]), (24, [200, 200]), (25, [200, 203]), (26, [200, 200]), (27, [200, 200]), (28, [200]), (29, [])]

set_option maxRecDepth 100000 in
set_option maxHeartbeats 4000000 in
theorem rows_any (w : World) : Calls Tryz.prog 88 #[] w fun e w' => e = .returned (.map (some w.heap.size)) ∧ TabW w Tr.rowsL w' := by
  obtain ⟨V0, h0⟩ : ∃ V, V = w.alloc (.map #[] 0) := ⟨_, rfl⟩
  have u0 : (Instr.makeMap 118 none).run Tryz.prog w = .ok (.map (some w.heap.size)) V0 := by rw [h0]; rfl
  have t0 : TabW w [] V0 := ⟨by rw [h0]; exact below_new w _, #[], 0, by rw [h0]; exact World.alloc_heap_new w _, trivial⟩
  clear h0
  obtain ⟨V1, u1, t1⟩ := tab_step t0 1 [2, 203] (by decide)
  clear t0
  obtain ⟨V2, u2, t2⟩ := tab_step t1 2 [3, 5] (by decide)
  clear t1
  obtain ⟨V3, u3, t3⟩ := tab_step t2 3 [4, 203] (by decide)
  clear t2
  obtain ⟨V4, u4, t4⟩ := tab_step t3 4 [] (by decide)
  clear t3
  obtain ⟨V5, u5, t5⟩ := tab_step t4 5 [201, 203] (by decide)
  clear t4
  obtain ⟨V6, u6, t6⟩ := tab_step t5 6 [200] (by decide)
  clear t5
  obtain ⟨V7, u7, t7⟩ := tab_step t6 7 [202, 200] (by decide)
  clear t6
  obtain ⟨V8, u8, t8⟩ := tab_step t7 8 [200, 5, 5] (by decide)
  clear t7
  obtain ⟨V9, u9, t9⟩ := tab_step t8 9 [200, 5] (by decide)
  clear t8
  obtain ⟨V10, u10, t10⟩ := tab_step t9 10 [200] (by decide)
  clear t9
  obtain ⟨V11, u11, t11⟩ := tab_step t10 11 [200] (by decide)
  clear t10
  obtain ⟨V12, u12, t12⟩ := tab_step t11 12 [25] (by decide)
  clear t11
  obtain ⟨V13, u13, t13⟩ := tab_step t12 20 [] (by decide)
  clear t12
  obtain ⟨V14, u14, t14⟩ := tab_step t13 21 [] (by decide)
  clear t13
  obtain ⟨V15, u15, t15⟩ := tab_step t14 22 [] (by decide)
  clear t14
  obtain ⟨V16, u16, t16⟩ := tab_step t15 23 [200] (by decide)
  clear t15
  obtain ⟨V17, u17, t17⟩ := tab_step t16 24 [200, 200] (by decide)
  clear t16
  obtain ⟨V18, u18, t18⟩ := tab_step t17 25 [200, 203] (by decide)
  clear t17
  obtain ⟨V19, u19, t19⟩ := tab_step t18 26 [200, 200] (by decide)
  clear t18
  obtain ⟨V20, u20, t20⟩ := tab_step t19 27 [200, 200] (by decide)
  clear t19
  obtain ⟨V21, u21, t21⟩ := tab_step t20 28 [200] (by decide)
  clear t20
  obtain ⟨V22, u22, t22⟩ := tab_step t21 29 [] (by decide)
  clear t21
  have HF : Hid (TabW w Tr.rowsL V22) := t22
  clear t22
  simp only [List.length_cons, List.length_nil, Nat.reduceAdd, List.map_cons, List.map_nil] at u1 u2 u3 u4 u5 u6 u7 u8 u9 u10 u11 u12 u13 u14 u15 u16 u17 u18 u19 u20 u21 u22
  go_enter Tryz.func88, Tryz.ntmps88
  go_wp2
  go_ret
  exact ⟨rfl, HF.out⟩
end Go.Proofs.YtnndgjnihhafbaaGreatDoor

/-
  The walks of what a right node is.
-/
namespace Go.Proofs.YtnndgjnihhafbaaGreatDoor
open Go.RowKit Go.Shelf

attribute [local go_sem] Oper.semAt_some

/-- A row of kinds, as it lies in memory. -/
def KindsLow (w : World) (v : Value) (l : List Int) : Prop := CellsLow w.heap.size w v l.length (l.map (Value.int .u8))
theorem KindsLow.parts {w : World} {v : Value} {l : List Int} (h : KindsLow w v l) : ∃ ao cap b off, v = .slice ao l.length cap ∧ l.length ≤ cap ∧ (0 < l.length → ao = some ⟨b, off, none⟩) ∧ ∀ (j : Nat) (x : Int), l[j]? = some x → w.cell? ⟨b, off + j, none⟩ = some (.int .u8 x) := by
  obtain ⟨ao, cap, b, off, hv, hc, ha, hx⟩ := h
  exact ⟨ao, cap, b, off, hv, hc.1, fun h => (ha h).1, fun j x hj => hx j _ (by rw [List.getElem?_map, hj]; rfl)⟩

set_option maxRecDepth 100000 in
set_option maxHeartbeats 4000000 in
theorem endless_any (l : List Int) (v : Value) (w : World) (h : KindsLow w v l) (hl : l.length ≤ 3) : Calls Tryz.prog 154 #[v] w fun e w' => e = .returned (.bool (Tr.endless l)) ∧ w' = w := by
  obtain ⟨ao, cap, b, off, rfl, hcap, ha, hx⟩ := h.parts
  match l, hl with
  | [], _ =>
    simp only [List.length_nil]
    go_enter Tryz.func154, Tryz.ntmps154
    go_wp2
    go_ret
    exact ⟨rfl, rfl⟩
  | [x], _ =>
    have h0 := hx 0 x rfl
    have e := ha (by simp)
    subst e
    simp only [List.length_cons, List.length_nil, Nat.reduceAdd, Nat.add_zero] at h0 ⊢
    go_enter Tryz.func154, Tryz.ntmps154
    go_wp2
    go_ret
    refine ⟨congrArg (fun b => Ending.returned (.bool b)) ?_, rfl⟩
    rw [Bool.eq_iff_iff]; simp [Tr.endless]
  | [x, y], _ =>
    have h0 := hx 1 y rfl
    have e := ha (by simp)
    subst e
    simp only [List.length_cons, List.length_nil, Nat.reduceAdd] at h0 ⊢
    go_enter Tryz.func154, Tryz.ntmps154
    go_wp2
    go_ret
    refine ⟨congrArg (fun b => Ending.returned (.bool b)) ?_, rfl⟩
    rw [Bool.eq_iff_iff]; simp [Tr.endless]
  | [x, y, z], _ =>
    have h0 := hx 2 z rfl
    have e := ha (by simp)
    subst e
    simp only [List.length_cons, List.length_nil, Nat.reduceAdd] at h0 ⊢
    go_enter Tryz.func154, Tryz.ntmps154
    go_wp2
    go_ret
    refine ⟨congrArg (fun b => Ending.returned (.bool b)) ?_, rfl⟩
    rw [Bool.eq_iff_iff]; simp [Tr.endless]

set_option maxRecDepth 100000 in
set_option maxHeartbeats 4000000 in
theorem holds_any (l : List Int) (v : Value) (c : Nat) (w : World) (h : KindsLow w v l) (hl : l.length ≤ 3) : Calls Tryz.prog 129 #[v, .int .i64 c] w fun e w' => e = .returned (.bool (Tr.holdsRow l c)) ∧ w' = w := by
  have HE : Hid (_) := endless_any l v w h hl
  obtain ⟨ao, cap, b, off, rfl, hcap, ha, hx⟩ := h.parts
  clear h ha hx
  unfold Tr.holdsRow
  obtain ⟨n, hn⟩ : ∃ n, n = l.length := ⟨_, rfl⟩
  rw [← hn] at HE hl ⊢
  clear hn hcap
  go_enter Tryz.func129, Tryz.ntmps129
  go_wp2_with fail
  refine Calls.mono HE.out ?_
  rintro e w1 ⟨rfl, rfl⟩
  clear HE
  cases hE : Tr.endless l
  · go_wp2
    go_ret
    refine ⟨congrArg (fun b => Ending.returned (.bool b)) ?_, rfl⟩
    rw [Bool.eq_iff_iff, hE]; simp
    omega
  · go_wp2
    go_ret
    exact ⟨by rw [hE]; rfl, rfl⟩

set_option maxRecDepth 100000 in
set_option maxHeartbeats 4000000 in
theorem fits_in (l : List Int) (v : Value) (kid y : Int) (q : Nat) (w : World) (h : KindsLow w v l) (hl : l.length ≤ 3) (hE : Tr.endless l = false) (hq : l[q]? = some y) :
    Calls Tryz.prog 130 #[v, .int .u8 kid, .int .i64 q] w fun e w' => e = .returned (.bool (Tr.stands y kid)) ∧ w' = w := by
  have HE : Hid (_) := endless_any l v w h hl
  obtain ⟨ao, cap, b, off, rfl, hcap, ha, hx⟩ := h.parts
  rw [hE] at HE
  have hql := (List.getElem?_eq_some_iff.1 hq).1
  have ea := ha (by omega)
  subst ea
  have h0 := hx q y hq
  have HSF : Hid (_) := fun w => stands_any y kid w
  obtain ⟨n, hn⟩ : ∃ n, n = l.length := ⟨_, rfl⟩
  rw [← hn] at HE hql ⊢
  have d1 : decide ((0 : Int) ≤ q) = true := decide_eq_true (by omega)
  have d2 : decide ((q : Int) < n) = true := decide_eq_true (by omega)
  clear h hn hx ha hE hq hl hcap
  go_enter Tryz.func130, Tryz.ntmps130
  go_wp2_with fail
  refine Calls.mono HE.out ?_
  rintro e w1 ⟨rfl, rfl⟩
  go_wp2_with fail
  refine Calls.mono (HSF.out w1) ?_
  rintro e w2 ⟨rfl, rfl⟩
  go_wp2
  go_ret
  exact ⟨rfl, rfl⟩

set_option maxRecDepth 100000 in
set_option maxHeartbeats 4000000 in
theorem fits_out (l : List Int) (v : Value) (kid a : Int) (w : World) (h : KindsLow w v l) (hl : l.length ≤ 3) (hE : Tr.endless l = false) (hin : ¬ (0 ≤ a ∧ a < l.length)) :
    Calls Tryz.prog 130 #[v, .int .u8 kid, .int .i64 a] w fun e w' => e = .returned (.bool false) ∧ w' = w := by
  have HE : Hid (_) := endless_any l v w h hl
  obtain ⟨ao, cap, b, off, rfl, hcap, ha, hx⟩ := h.parts
  rw [hE] at HE
  obtain ⟨n, hn⟩ : ∃ n, n = l.length := ⟨_, rfl⟩
  rw [← hn] at HE hin ⊢
  clear h hn hx ha hE hl hcap
  by_cases h0 : 0 ≤ a
  · have d1 : decide ((0 : Int) ≤ a) = true := decide_eq_true h0
    have d2 : decide (a < (n : Int)) = false := decide_eq_false (by omega)
    go_enter Tryz.func130, Tryz.ntmps130
    go_wp2_with fail
    refine Calls.mono HE.out ?_
    rintro e w1 ⟨rfl, rfl⟩
    go_wp2
    go_ret
    exact ⟨rfl, rfl⟩
  · have d1 : decide ((0 : Int) ≤ a) = false := decide_eq_false h0
    go_enter Tryz.func130, Tryz.ntmps130
    go_wp2_with fail
    refine Calls.mono HE.out ?_
    rintro e w1 ⟨rfl, rfl⟩
    go_wp2
    go_ret
    exact ⟨rfl, rfl⟩

set_option maxRecDepth 100000 in
set_option maxHeartbeats 4000000 in
theorem fits_more (x y : Int) (v : Value) (kid a : Int) (w : World) (h : KindsLow w v [x, y]) (hE : Tr.endless [x, y] = true) :
    Calls Tryz.prog 130 #[v, .int .u8 kid, .int .i64 a] w fun e w' => e = .returned (.bool (decide (0 ≤ a) && Tr.stands x kid)) ∧ w' = w := by
  have HE : Hid (_) := endless_any _ v w h (by simp)
  obtain ⟨ao, cap, b, off, rfl, hcap, ha, hx⟩ := h.parts
  rw [hE] at HE
  have ea := ha (by simp)
  subst ea
  have h0 := hx 0 x rfl
  simp only [Nat.add_zero] at h0
  have HSF : Hid (_) := fun w => stands_any x kid w
  have hc2 : 2 ≤ cap := hcap
  clear hx ha hE hcap h
  simp only [List.length_cons, List.length_nil, Nat.reduceAdd] at HE ⊢
  by_cases h9 : 0 ≤ a
  · have d1 : decide ((0 : Int) ≤ a) = true := decide_eq_true h9
    have hmin : min a 0 = 0 := by omega
    go_enter Tryz.func130, Tryz.ntmps130
    go_wp2_with fail
    refine Calls.mono HE.out ?_
    rintro e w1 ⟨rfl, rfl⟩
    go_wp2_with fail
    refine Calls.mono (HSF.out w1) ?_
    rintro e w2 ⟨rfl, rfl⟩
    go_wp2
    go_ret
    exact ⟨by rw [d1]; rfl, rfl⟩
  · have d1 : decide ((0 : Int) ≤ a) = false := decide_eq_false h9
    have hmin : min a 0 = a := by omega
    go_enter Tryz.func130, Tryz.ntmps130
    go_wp2_with fail
    refine Calls.mono HE.out ?_
    rintro e w1 ⟨rfl, rfl⟩
    go_wp2
    go_ret
    exact ⟨by rw [d1]; rfl, rfl⟩

/-- Rows of the table: at most three, and endless ones of two. -/
def Tr.okRow (l : List Int) : Prop := l.length ≤ 3 ∧ (Tr.endless l = true → l.length = 2)
theorem fits_any (l : List Int) (v : Value) (kid a : Int) (w : World) (h : KindsLow w v l) (hl : Tr.okRow l) :
    Calls Tryz.prog 130 #[v, .int .u8 kid, .int .i64 a] w fun e w' => e = .returned (.bool (Tr.fitsRow l kid a)) ∧ w' = w := by
  unfold Tr.fitsRow
  cases hE : Tr.endless l
  · simp only [Bool.false_eq_true, if_false]
    by_cases hin : 0 ≤ a ∧ a < l.length
    · obtain ⟨q, rfl⟩ : ∃ q : Nat, a = q := ⟨a.toNat, by omega⟩
      have hq : q < l.length := by omega
      have eg : l.getD ((q : Int).toNat) 0 = l[q] := by simp [List.getD, List.getElem?_eq_getElem hq]
      rw [eg, decide_eq_true hin.1, decide_eq_true hin.2]
      exact fits_in l v kid l[q] q w h hl.1 hE (List.getElem?_eq_getElem hq)
    · have hr : (decide (0 ≤ a) && decide (a < (l.length : Int)) && Tr.stands (l.getD a.toNat 0) kid) = false := by
        rw [Bool.and_eq_false_iff]; left
        rw [Bool.and_eq_false_iff]
        by_cases h0 : 0 ≤ a
        · right; exact decide_eq_false (by omega)
        · left; exact decide_eq_false h0
      rw [hr]
      exact fits_out l v kid a w h hl.1 hE hin
  · have hl2 := hl.2 hE
    match l, hl2 with
    | [x, y], _ => exact fits_more x y v kid a w h hE

set_option maxRecDepth 100000 in
set_option maxHeartbeats 4000000 in
theorem num_any (k n : Int) (t : ByteArray) (kv : Value) (w : World) : Calls Tryz.prog 91 #[.agg #[.int .u8 k, .string t, .int .i64 n, kv]] w fun e w' => e = .returned (.bool (Tr.numOk k n)) ∧ Below w.heap.size w w' := by
  unfold Tr.numOk
  by_cases h20 : k = 20
  · subst h20
    go_enter Tryz.func91, Tryz.ntmps91
    go_wp2
    go_ret
    exact ⟨rfl, below_new w _⟩
  · by_cases h21 : k = 21
    · subst h21
      go_enter Tryz.func91, Tryz.ntmps91
      go_wp2
      · go_ret
        exact ⟨rfl, below_new w _⟩
      · go_ret
        rename_i hn0
        refine ⟨congrArg (fun b => Ending.returned (.bool b)) ?_, below_new w _⟩
        rw [Bool.eq_iff_iff]
        simp [hn0]
    · rw [if_neg h20, if_neg h21]
      have d0 : decide (k = 20) = false := decide_eq_false h20
      have d1 : decide (k = 21) = false := decide_eq_false h21
      go_enter Tryz.func91, Tryz.ntmps91
      go_wp2
      go_ret
      exact ⟨rfl, below_new w _⟩

set_option maxRecDepth 100000 in
set_option maxHeartbeats 4000000 in
theorem text_any (k n : Int) (t : List UInt8) (kv : Value) (w : World) (ht : t.length ≤ 9223372036854775807) : Calls Tryz.prog 90 #[.agg #[.int .u8 k, .string (Ln.bs t), .int .i64 n, kv]] w fun e w' => e = .returned (.bool (Tr.textOk k t)) ∧ Below w.heap.size w w' := by
  obtain ⟨X, hX⟩ : ∃ X, X = w.alloc (.cells #[.int .u8 k, .string (Ln.bs t), .int .i64 n, kv] 25) := ⟨_, rfl⟩
  have hB : Below w.heap.size w X := hX ▸ below_new w _
  have hn := World.alloc_heap_new w (.cells #[.int .u8 k, .string (Ln.bs t), .int .i64 n, kv] 25)
  rw [← hX] at hn
  have c0 : X.cell? ⟨w.heap.size, 0, none⟩ = some (.int .u8 k) := cells_at hn rfl
  have c1 : X.cell? ⟨w.heap.size, 1, none⟩ = some (.string (Ln.bs t)) := cells_at hn rfl
  have NM : Hid (_) := name_any (Ln.bs t) (by rw [Ln.bs_size]; exact ht) X
  have HB : Hid (Below w.heap.size w X) := hB
  clear hn hB
  unfold Tr.textOk
  cases hb : Tr.bears k
  · simp only [Bool.false_eq_true, if_false]
    have BE : Hid (∀ w, Calls Tryz.prog 51 #[.int .u8 k] w fun e w' => e = .returned (.bool false) ∧ w' = w) := fun w => by have := bears_any k w; rwa [hb] at this
    clear NM
    by_cases h23 : k = 23
    · subst h23
      rw [if_pos rfl]
      have hT : (Ln.bs t).toList = t := by rw [Lib.toList_data]; rfl
      have HE : Hid (Below w.heap.size w X ∧ X.cell? ⟨w.heap.size, 0, none⟩ = some (.int .u8 23) ∧ X.cell? ⟨w.heap.size, 1, none⟩ = some (.string (Ln.bs t))) := ⟨HB.out, c0, c1⟩
      by_cases t1 : t = [45]
      · have q1 : (t == [45]) = true := by rw [t1]; rfl
        have r1 : (decide (t = [45]) || decide (t = [33])) = true := by rw [t1]; rfl
        rw [r1]
        clear t1 r1
        go_enter Tryz.func90, Tryz.ntmps90
        go_wp2_with fail
        rw [← hX]
        clear hX
        refine (BE.out X).mono ?_
        rintro e w1 ⟨rfl, rfl⟩
        go_wp2
        all_goals (go_ret; first | exact ⟨rfl, HB.out⟩ | (exfalso; simp_all; done))
      · have q1 : (t == [45]) = false := by simpa using t1
        have r1 : (decide (t = [45]) || decide (t = [33])) = (t == [33]) := by rw [decide_eq_false t1, Bool.false_or, Bool.eq_iff_iff]; simp
        rw [r1]
        clear t1 r1
        go_enter Tryz.func90, Tryz.ntmps90
        go_wp2_with fail
        rw [← hX]
        clear hX
        refine (BE.out X).mono ?_
        rintro e w1 ⟨rfl, rfl⟩
        go_wp2
        all_goals (go_ret; first | exact ⟨rfl, HB.out⟩ | (exfalso; simp_all; done) | (refine ⟨congrArg (fun b => Ending.returned (.bool b)) ?_, HB.out⟩; simp_all))
    · rw [if_neg h23]
      have d3 : decide (k = 23) = false := decide_eq_false h23
      by_cases h24 : k = 24
      · subst h24
        rw [if_pos rfl]
        obtain ⟨Y, hY⟩ : ∃ Y, Y = X.alloc (.cells #[.string ⟨#[124, 124]⟩, .string ⟨#[38, 38]⟩, .string ⟨#[61, 61]⟩, .string ⟨#[33, 61]⟩, .string ⟨#[60]⟩, .string ⟨#[60, 61]⟩, .string ⟨#[62]⟩, .string ⟨#[62, 61]⟩, .string ⟨#[43]⟩, .string ⟨#[45]⟩, .string ⟨#[42]⟩, .string ⟨#[47]⟩, .string ⟨#[37]⟩] 9) := ⟨_, rfl⟩
        have hr : RowLow Y.heap.size Y (.slice (some ⟨X.heap.size, 0, none⟩) 13 13) Tr.signs := by
          rw [hY]; exact CellsLow.lit X (Tr.signs.map txtV) 9 13
        have HC : Hid (_) := contains_any Tr.signs _ _ (Ln.bs t) Y hr (by decide)
        have hbY : Below w.heap.size w Y := below_then HB.out (hY ▸ below_new X _)
        have HBY : Hid (Below w.heap.size w Y) := hbY
        have c1Y : Y.cell? ⟨w.heap.size, 1, none⟩ = some (.string (Ln.bs t)) := by
          have hlt : w.heap.size < X.heap.size := by rw [hX, World.size_alloc]; omega
          exact (World.cell?_of_block (w := X) (a := ⟨w.heap.size, 1, none⟩) ((hY ▸ below_new X _ : Below X.heap.size X Y).block _ hlt)).trans c1
        have hhas : has Tr.signs (Ln.bs t).data.toList = Tr.signs.contains t := rfl
        rw [hhas] at HC
        obtain ⟨p1, hp1⟩ : ∃ p, p = Tr.signs.contains t := ⟨_, rfl⟩
        rw [← hp1] at HC ⊢
        clear hp1 hr hbY
        rw [hY] at c1Y
        go_enter Tryz.func90, Tryz.ntmps90
        go_wp2_with fail
        rw [← hX]
        clear hX
        refine (BE.out X).mono ?_
        rintro e w1 ⟨rfl, rfl⟩
        go_wp2_with fail
        rw [← hY]
        clear hY
        refine Calls.mono HC.out ?_
        rintro e w2 ⟨rfl, rfl⟩
        go_wp2
        go_ret
        exact ⟨rfl, HBY.out⟩
      · rw [if_neg h24]
        have d4 : decide (k = 24) = false := decide_eq_false h24
        have hT : (Ln.bs t).toList = t := by rw [Lib.toList_data]; rfl
        go_enter Tryz.func90, Tryz.ntmps90
        go_wp2_with fail
        rw [← hX]
        clear hX
        refine (BE.out X).mono ?_
        rintro e w1 ⟨rfl, rfl⟩
        go_wp2
        go_ret
        refine ⟨congrArg (fun b => Ending.returned (.bool b)) ?_, HB.out⟩
        cases t <;> rfl
  · have BE : Hid (∀ w, Calls Tryz.prog 51 #[.int .u8 k] w fun e w' => e = .returned (.bool true) ∧ w' = w) := fun w => by have := bears_any k w; rwa [hb] at this
    rw [if_pos rfl]
    go_enter Tryz.func90, Tryz.ntmps90
    go_wp2_with fail
    rw [← hX]
    clear hX
    refine (BE.out X).mono ?_
    rintro e w1 ⟨rfl, rfl⟩
    go_wp2_with fail
    refine Calls.mono NM.out ?_
    rintro e w2 ⟨rfl, hb2⟩
    have HB2 : Hid (Below w.heap.size w w2) := below_then HB.out hb2
    clear hb2
    go_wp2
    go_ret
    exact ⟨rfl, HB2.out⟩
end Go.Proofs.YtnndgjnihhafbaaGreatDoor

/-
  The walks of placeRight and kidsRight.
-/
namespace Go.Proofs.YtnndgjnihhafbaaGreatDoor
open Go.RowKit Go.Shelf

attribute [local go_sem] Oper.semAt_some

/-- The table in memory. -/
def TabAt (w : World) (r : Nat) : Prop := ∃ es clock, w.heap[r]? = some (.map es clock) ∧ TabEs w es.toList Tr.rowsL
theorem TabAt.at {A B : World} {r : Nat} (h : TabAt A r) (hb : Below A.heap.size A B) : TabAt B r := by
  obtain ⟨es, clock, h1, h2⟩ := h
  exact ⟨es, clock, (hb.block r (Array.getElem?_eq_some_iff.1 h1).1).trans h1, h2.at hb⟩
theorem TabW.tab {w0 w : World} (h : TabW w0 Tr.rowsL w) : TabAt w w0.heap.size := h.2

theorem tab_find {w : World} (k : Int) : ∀ (es : List MapEntry) (ps : List (Int × List Int)) (i : Nat), TabEs w es ps → ∃ o, Instr.findNow (.int .u8) (.int .u8 k) es i = some o ∧
    ((ps.find? (fun p => p.1 == k) = none ∧ o = none) ∨ ∃ p j v, ps.find? (fun p => p.1 == k) = some p ∧ o = some (j, v) ∧ KindsLow w v p.2)
  | [], [], _, _ => ⟨none, rfl, .inl ⟨rfl, rfl⟩⟩
  | e :: es, p :: ps, i, h => by
    by_cases hk : p.1 = k
    · refine ⟨some (i, e.val), ?_, .inr ⟨p, i, e.val, ?_, rfl, h.2.1⟩⟩
      · simp [Instr.findNow, h.1, Instr.sameNow, hk]
      · simp [hk]
    · obtain ⟨o, h1, h2⟩ := tab_find k es ps (i + 1) h.2.2
      have hk2 : (k == p.1) = false := by simp; omega
      have hk3 : (p.1 == k) = false := by simp; omega
      refine ⟨o, ?_, ?_⟩
      · simp only [Instr.findNow, h.1, Instr.sameNow, if_true, hk2]; exact h1
      · rw [List.find?_cons, hk3]; exact h2
  | [], _ :: _, _, h => h.elim
  | _ :: _, [], _, h => h.elim

theorem table_eq (k : Int) : Tr.table k = (Tr.rowsL.find? (fun p => p.1 == k)).map (·.2) := by
  unfold Tr.table
  split <;> first | rfl | skip
  rename_i h1 h2 h3 h4 h5 h6 h7 h8 h9 h10 h11 h12 h13 h14 h15 h16 h17 h18 h19 h20 h21 h22
  have e : ∀ (a : Int) (f : k = a → False), (a == k) = false := fun a f => by
    rw [Bool.eq_false_iff]; intro h; exact f (by simpa using (beq_iff_eq.1 h).symm)
  simp only [Tr.rowsL, List.find?_cons, e _ h1, e _ h2, e _ h3, e _ h4, e _ h5, e _ h6, e _ h7, e _ h8, e _ h9, e _ h10, e _ h11, e _ h12, e _ h13, e _ h14, e _ h15, e _ h16, e _ h17, e _ h18, e _ h19, e _ h20, e _ h21, e _ h22, List.find?_nil, Option.map_none]

theorem rows_ok : ∀ p ∈ Tr.rowsL, p.2.length ≤ 3 ∧ (Tr.endless p.2 = true → p.2.length = 2) := by decide

theorem tab_look {w : World} {r : Nat} (h : TabAt w r) (k : Int) : ∃ (v : Value) (ok : Bool), (Instr.lookup 118 (.map (some r)) (.int .u8 k) true).run Tryz.prog w = .ok (.tuple #[v, .bool ok]) w ∧ (Instr.lookup 118 (.map (some r)) (.int .u8 k) false).run Tryz.prog w = .ok v w ∧
    ((Tr.table k = none ∧ v = .slice none 0 0 ∧ ok = false) ∨ ∃ l, Tr.table k = some l ∧ ok = true ∧ KindsLow w v l ∧ Tr.okRow l) := by
  obtain ⟨es, clock, hb, ht⟩ := h
  obtain ⟨o, h1, h2⟩ := tab_find k es.toList Tr.rowsL 0 ht
  have hl := lookup_run hb h1
  rcases h2 with ⟨h2, rfl⟩ | ⟨p, j, v, h2, rfl, h3⟩
  · exact ⟨_, _, hl.1, hl.2, .inl ⟨by rw [table_eq, h2]; rfl, rfl, rfl⟩⟩
  · exact ⟨_, _, hl.1, hl.2, .inr ⟨p.2, by rw [table_eq, h2]; rfl, rfl, h3, rows_ok p (List.mem_of_find?_eq_some h2)⟩⟩

def Tr.firstName (l : List Tr) : Bool := match l with | [] => false | y :: _ => y.k == 22
def Tr.firstPlace (l : List Tr) : Bool := match l with | [] => false | y :: _ => Tr.placeOk y
theorem placeOk_mk (x : N1) : Tr.placeOk x.tr = (x.k == 22 || Tr.firstName x.kids) := by
  obtain ⟨k, t, n, v, kids⟩ := x
  cases kids <;> rfl
theorem kidsOk_mk (x : N1) : Tr.kidsOk x.tr = match Tr.table x.k with | none => false | some r => Tr.holdsRow r x.kids.length && Tr.kidsFit r 0 x.kids && (x.k != 7 || Tr.firstPlace x.kids) := by
  obtain ⟨k, t, n, v, kids⟩ := x
  show Tr.kidsOk (.mk k t n kids) = _
  unfold Tr.kidsOk
  cases kids <;> rfl

set_option maxRecDepth 100000 in
set_option maxHeartbeats 4000000 in
theorem place_any (S : Nat → Prop) (t : Tr) (v : Value) (w : World) (hS : ∀ b, S b → b < w.heap.size) (hv : NodeR S w v t) : Calls Tryz.prog 131 #[v] w fun e w' => e = .returned (.bool (Tr.placeOk t)) ∧ Below w.heap.size w w' := by
  obtain ⟨⟨k, tx, n, kv, kids⟩, rfl, rfl, hf, hr⟩ := hv
  obtain ⟨ka, kc, hkv⟩ := hr.slice
  simp only at hkv
  subst hkv
  simp only [N1.cells]
  rw [placeOk_mk]
  simp only
  obtain ⟨X, hX⟩ : ∃ X, X = w.alloc (.cells #[.int .u8 k, .string (Ln.bs tx), .int .i64 n, .slice ka kids.length kc] 25) := ⟨_, rfl⟩
  have hB : Below w.heap.size w X := hX ▸ below_new w _
  by_cases h22 : k = 22
  · subst h22
    have HB : Hid (Below w.heap.size w X) := hB
    rw [hX] at HB
    clear hB hr hf hX
    go_enter Tryz.func131, Tryz.ntmps131
    go_wp2
    go_ret
    exact ⟨rfl, HB.out⟩
  · have d0 : (k == 22) = false := by simpa using h22
    rw [d0, Bool.false_or]
    cases kids with
    | nil =>
      have HB : Hid (Below w.heap.size w X) := hB
      rw [hX] at HB
      clear hB hr hf hX
      simp only [List.length_nil] at HB ⊢
      go_enter Tryz.func131, Tryz.ntmps131
      go_wp2
      go_ret
      exact ⟨rfl, HB.out⟩
    | cons y ys =>
      obtain ⟨xs, ao, cp, b, off, e, hv, -, ha, -, hx⟩ := hr.parts
      simp only at e hv ha
      cases hv
      obtain ⟨rfl, hSb⟩ := ha (by simp)
      obtain ⟨x, xs, rfl⟩ : ∃ x r, xs = x :: r := by
        cases xs with
        | nil => cases e
        | cons x r => exact ⟨x, r, rfl⟩
      rw [List.map_cons, List.cons.injEq] at e
      obtain ⟨rfl, rfl⟩ := e
      obtain ⟨-, -, c0, -⟩ := hx 0 x rfl
      simp only [Nat.zero_mul, Nat.add_zero] at c0
      have c0X : X.cell? ⟨b, off, none⟩ = some (.int .u8 x.k) := (hB.cell (p := ⟨b, off, none⟩) (hS b hSb)).trans c0
      show Calls _ _ _ _ fun e w' => e = .returned (.bool (x.k == 22)) ∧ Below w.heap.size w w'
      have HB : Hid (Below w.heap.size w X) := hB
      have hlen : (x.tr :: xs.map N1.tr).length = xs.length + 1 := by simp
      rw [hlen] at hX ⊢
      rw [hX] at HB c0X
      clear hB hr hf hX hx ha c0 hlen
      go_enter Tryz.func131, Tryz.ntmps131
      go_wp2
      go_ret
      exact ⟨rfl, HB.out⟩

/-- All kids ahead fit. -/
theorem kidsFit_drop (r : List Int) : ∀ (l : List Tr) (i j : Nat) (x : Tr), l[j]? = some x → Tr.kidsFit r i (l.drop j) = (Tr.fitsRow r x.k i && Tr.kidsFit r (i + 1) (l.drop (j + 1))) := by
  intro l i j x hj
  have hl := (List.getElem?_eq_some_iff.1 hj).1
  have e : l.drop j = x :: l.drop (j + 1) := by
    rw [List.drop_eq_getElem_cons hl]
    rw [List.getElem?_eq_getElem hl] at hj
    cases hj; rfl
  rw [e]
  rfl

set_option maxRecDepth 100000 in
set_option maxHeartbeats 4000000 in
theorem kids_any (S : Nat → Prop) (t : Tr) (v : Value) (r : Nat) (w : World) (hS : ∀ b, S b → b < w.heap.size) (hv : NodeR S w v t) (ht : TabAt w r) : Calls Tryz.prog 92 #[.map (some r), v] w fun e w' => e = .returned (.bool (Tr.kidsOk t)) ∧ Below w.heap.size w w' := by
  obtain ⟨⟨k, tx, n, kv, kids⟩, rfl, rfl, hf, hr⟩ := hv
  obtain ⟨ka, kc, hkv⟩ := hr.slice
  simp only at hkv
  subst hkv
  rw [kidsOk_mk]
  simp only [N1.cells]
  obtain ⟨X, hX⟩ : ∃ X, X = w.alloc (.cells #[.int .u8 k, .string (Ln.bs tx), .int .i64 n, .slice ka kids.length kc] 25) := ⟨_, rfl⟩
  have hB : Below w.heap.size w X := hX ▸ below_new w _
  have hXn : X.heap[w.heap.size]? = some (.cells #[.int .u8 k, .string (Ln.bs tx), .int .i64 n, .slice ka kids.length kc] 25 (0, 0)) := by rw [hX]; exact World.alloc_heap_new w _
  obtain ⟨rv, ok, l1, -, hcase⟩ := tab_look (ht.at hB) k
  rcases hcase with ⟨htn, rfl, rfl⟩ | ⟨l, htl, rfl, hkl, hok⟩
  · rw [htn]
    have HB : Hid (Below w.heap.size w X) := hB
    rw [hX] at l1 HB
    clear hB hXn hr hf htn hX ht
    go_enter Tryz.func92, Tryz.ntmps92
    go_wp2
    go_ret
    exact ⟨rfl, HB.out⟩
  · rw [htl]
    simp only
    have HH : Hid (_) := holds_any l rv kids.length X hkl hok.1
    obtain ⟨ra, rc, rb, ro, hrv, -⟩ := hkl.parts
    cases hho : Tr.holdsRow l kids.length
    · rw [hho] at HH
      have HB : Hid (Below w.heap.size w X) := hB
      subst hrv
      rw [hX] at l1 HB HH
      clear hB hXn hr hf htl hX ht hkl hok hho
      go_enter Tryz.func92, Tryz.ntmps92
      go_wp2_with fail
      refine Calls.mono HH.out ?_
      rintro e w1 ⟨rfl, rfl⟩
      go_wp2
      go_ret
      exact ⟨rfl, HB.out⟩
    · rw [hho] at HH
      obtain ⟨xs, xa, xc, xb, xo, ex, hxv, -, hxa, hxl, hx⟩ := hr.parts
      simp only at ex hxv hxa hxl
      cases hxv
      have HX : Hid (_) := hx
      have hSl : Hid (∀ b, S b → b < w.heap.size) := hS
      have HKL : Hid (KindsLow X rv l) := hkl
      have HOK : Hid (Tr.okRow l) := hok
      have HBX : Hid (Below w.heap.size w X) := hB
      have hkinds : Hid (k = 7 → kids ≠ []) := by
        intro h7 h0
        subst h7
        subst h0
        have hl7 : l = [202, 200] := by
          have : Tr.table 7 = some [202, 200] := rfl
          rw [this] at htl
          exact (Option.some.inj htl).symm
        subst hl7
        exact absurd hho (by decide)
      have HST : Hid (Tr.kidsFit l 0 kids = Tr.kidsFit l 0 (kids.drop 0)) := rfl
      have HP : Hid (∀ (x : N1), xs[0]? = some x → x.Fit ∧ RowR S w x.v x.kids) := fun x h => ⟨(hx 0 x h).1, (hx 0 x h).2.1⟩
      have HEX : Hid (kids = xs.map N1.tr) := ex
      subst hrv
      obtain ⟨N, hN⟩ : ∃ N, N = kids.length := ⟨_, rfl⟩
      have HN : Hid (N = kids.length) := hN
      have c0 : X.cell? ⟨w.heap.size, 0, none⟩ = some (.int .u8 k) := cells_at hXn rfl
      have c3 : X.cell? ⟨w.heap.size, 3, none⟩ = some (.slice ka N kc) := by rw [hN]; exact cells_at hXn rfl
      rw [← hN] at hX HH hxa hxl ⊢
      have hsX : X.heap.size = w.heap.size + 1 := by rw [hX, World.size_alloc]
      have HSX : Hid (X.heap.size = w.heap.size + 1) := hsX
      clear hB hXn hr hf htl ht hkl hok hho hx ex hN hS hsX
      refine (callsIn_wide (n := 3)).1 ?_
      refine callsIn_of_wp Tryz.func92 rfl trivial ?_ rfl
      simp only [Tryz.ntmps92, List.size_toArray, List.length_cons, List.length_nil, Nat.reduceAdd, Nat.reduceSub, Array.replicate_succ, Array.replicate_zero, List.push_toArray, List.append_toArray, List.nil_append, List.cons_append]
      rw [hX] at l1 HH c0 c3
      gi_wp2
      rw [← hX] at l1 HH c0 c3 ⊢
      clear hX
      refine ⟨trivial, ?_⟩
      refine (callsIn_wide.2 HH.out).mono ?_
      rintro e w1 ⟨rfl, rfl⟩
      clear l1 HH
      gi_wp2
      gi_loopw [29] (fun i wr => ∃ q : Nat, q ≤ N ∧ i = .int .i64 q ∧ Below w1.heap.size w1 wr ∧ Tr.kidsFit l 0 kids = Tr.kidsFit l q (kids.drop q)) (fun i _ => N - (intOf i).toNat)
      case atStart => exact ⟨0, Nat.zero_le _, rfl, Below.refl _ _, HST.out⟩
      case round =>
        obtain ⟨q, hq, rfl, hbr, hfit⟩ := hrel
        by_cases hlt : q < N
        · obtain ⟨rfl, hSb⟩ := hxa (by omega)
          have hql : q < xs.length := by have := HN.out; rw [HEX.out, List.length_map] at this; omega
          obtain ⟨⟨zk, zt, zn, zv, zkids⟩, hzq⟩ : ∃ z, xs[q]? = some z := ⟨xs[q], List.getElem?_eq_getElem hql⟩
          obtain ⟨-, zr, z0, z1, z2, z3⟩ := HX.out q _ hzq
          simp only at z0 z1 z2 z3 zr
          have hbw : Below w.heap.size w wr := below_then HBX.out hbr
          have hxb : xb < w.heap.size := hSl.out xb hSb
          have tr : ∀ j u, w.cell? ⟨xb, j, none⟩ = some u → wr.cell? ⟨xb, j, none⟩ = some u := fun j u h => (hbw.cell (p := ⟨xb, j, none⟩) hxb).trans h
          replace z0 := tr _ _ z0
          replace z1 := tr _ _ z1
          replace z2 := tr _ _ z2
          replace z3 := tr _ _ z3
          obtain ⟨za, zc, hzv⟩ := zr.slice
          subst hzv
          have hkq : kids[q]? = some (N1.tr ⟨zk, zt, zn, .slice za zkids.length zc, zkids⟩) := by rw [HEX.out, List.getElem?_map, hzq]; rfl
          have hstep := kidsFit_drop l kids q q _ hkq
          have hk9 : (N1.tr ⟨zk, zt, zn, .slice za zkids.length zc, zkids⟩).k = zk := rfl
          rw [hk9] at hstep
          have HFIT : Hid (Tr.kidsFit l 0 kids = (Tr.fitsRow l zk q && Tr.kidsFit l (q + 1) (kids.drop (q + 1)))) := hfit.trans hstep
          obtain ⟨Y, hY⟩ : ∃ Y, Y = wr.alloc (.cells #[.int .u8 zk, .string (Ln.bs zt), .int .i64 zn, .slice za zkids.length zc] 25) := ⟨_, rfl⟩
          have hbY : Below w1.heap.size w1 Y := below_then hbr (hY ▸ below_new wr _)
          have HFI : Hid (_) := fits_any l _ zk q Y (CellsLow.at HKL.out hbY (fun h0 => by rw [List.length_eq_zero_iff.1 h0]; rfl)) HOK.out
          have HBY : Hid (Below w1.heap.size w1 Y) := hbY
          have HBR : Hid (Below w1.heap.size w1 wr) := hbr
          cases hfi : Tr.fitsRow l zk q
          · rw [hfi] at HFI HFIT
            rw [hY] at HFI HBY
            clear hfit hstep hkq hzq hbw tr zr hbY hbr hY hfi hk9
            gi_wp2
            refine ⟨trivial, ?_⟩
            refine (callsIn_wide.2 HFI.out).mono ?_
            rintro e w2 ⟨rfl, rfl⟩
            gi_wp2
            go_ret
            refine ⟨congrArg (fun b => Ending.returned (.bool b)) ?_, below_then HBX.out HBY.out⟩
            rw [HFIT.out]
            simp
          · rw [hfi] at HFI HFIT
            rw [hY] at HFI HBY
            have HEND : Hid (Tr.kidsFit l 0 kids = Tr.kidsFit l (q + 1) (kids.drop (q + 1))) := by rw [HFIT.out]; rfl
            clear hfit hstep hkq hzq hbw tr zr hbY hbr hY hfi hk9 HFIT
            gi_wp2
            refine ⟨trivial, ?_⟩
            refine (callsIn_wide.2 HFI.out).mono ?_
            rintro e w2 ⟨rfl, rfl⟩
            gi_wp2
            refine ⟨⟨q + 1, by omega, by simp, HBY.out, HEND.out⟩, by simp [intOf]; omega⟩
        · have hqN : q = N := by omega
          subst hqN
          have hall : Tr.kidsFit l 0 kids = true := by rw [hfit, HN.out, List.drop_length]; rfl
          have e0 : wr.cell? ⟨w.heap.size, 0, none⟩ = some (.int .u8 k) := (hbr.cell (p := ⟨w.heap.size, 0, none⟩) (by have := HSX.out; show w.heap.size < w1.heap.size; omega)).trans c0
          have e3 : wr.cell? ⟨w.heap.size, 3, none⟩ = some (.slice ka q kc) := (hbr.cell (p := ⟨w.heap.size, 3, none⟩) (by have := HSX.out; show w.heap.size < w1.heap.size; omega)).trans c3
          have HBW : Hid (Below w.heap.size w wr) := below_then HBX.out hbr
          have HR : Hid (Tr.kidsFit l 0 kids = true) := hall
          by_cases h7 : k = 7
          · have hkn := hkinds.out h7
            subst h7
            obtain ⟨z, zs, hz⟩ : ∃ z zs, xs = z :: zs := by
              cases hxs : xs with
              | nil => exact absurd (by rw [HEX.out, hxs]; rfl) hkn
              | cons z zs => exact ⟨z, zs, rfl⟩
            have hq0 : 0 < q := by have := HN.out; rw [HEX.out, hz] at this; simp at this; omega
            obtain ⟨rfl, hSb⟩ := hxa hq0
            have hz0 : xs[0]? = some z := by rw [hz]; rfl
            obtain ⟨zk, zt, zn, zv, zkids⟩ := z
            obtain ⟨zf, zr, z0, z1, z2, z3⟩ := HX.out 0 _ hz0
            simp only [Nat.zero_mul, Nat.add_zero] at z0 z1 z2 z3 zr
            have hxb : xb < w.heap.size := hSl.out xb hSb
            have tr : ∀ j u, w.cell? ⟨xb, j, none⟩ = some u → wr.cell? ⟨xb, j, none⟩ = some u := fun j u h => (HBW.out.cell (p := ⟨xb, j, none⟩) hxb).trans h
            replace z0 := tr _ _ z0
            replace z1 := tr _ _ z1
            replace z2 := tr _ _ z2
            replace z3 := tr _ _ z3
            obtain ⟨za, zc, hzv⟩ := zr.slice
            subst hzv
            have HPL : Hid (_) := place_any S (N1.tr ⟨zk, zt, zn, .slice za zkids.length zc, zkids⟩) (.agg #[.int .u8 zk, .string (Ln.bs zt), .int .i64 zn, .slice za zkids.length zc]) wr (fun b hb => Nat.lt_of_lt_of_le (hSl.out b hb) HBW.out.size) ⟨⟨zk, zt, zn, .slice za zkids.length zc, zkids⟩, rfl, rfl, zf, zr.keep (fun b hb => HBW.out.block b (hSl.out b hb)) (fun _ h => h)⟩
            have HFP : Hid (Tr.firstPlace kids = Tr.placeOk (N1.tr ⟨zk, zt, zn, .slice za zkids.length zc, zkids⟩)) := by
              show Tr.firstPlace kids = _
              rw [HEX.out, hz]; rfl
            clear hfit hall hbr hkn hz hz0 tr zr zf
            gi_wp2
            refine ⟨trivial, ?_⟩
            refine (callsIn_wide.2 HPL.out).mono ?_
            rintro e w2 ⟨rfl, hb2⟩
            have HB2 : Hid (Below w.heap.size w w2) := below_then HBW.out hb2
            clear hb2
            gi_wp2
            go_ret
            refine ⟨congrArg (fun b => Ending.returned (.bool b)) ?_, HB2.out⟩
            rw [HR.out, HFP.out]
            rfl
          · have d7 : (k == 7) = false := by simpa using h7
            have n7 : (k != 7) = true := by simpa using h7
            clear hfit hall hbr
            gi_wp2
            refine ⟨trivial, ?_⟩
            gi_wp2
            go_ret
            refine ⟨congrArg (fun b => Ending.returned (.bool b)) ?_, HBW.out⟩
            rw [HR.out]
            simp [h7]
end Go.Proofs.YtnndgjnihhafbaaGreatDoor

/-
  The walk of tree.Right: a closure that calls itself.
-/
namespace Go.Proofs.YtnndgjnihhafbaaGreatDoor
open Go.RowKit Go.Shelf

attribute [local go_sem] Oper.semAt_some

theorem right_mk (m : Nat) (x : N1) : Tr.right (m + 1) x.tr = (Tr.textOk x.k x.t && Tr.numOk x.k x.n && Tr.kidsOk x.tr && x.kids.all (Tr.right m)) := by
  obtain ⟨k, t, n, v, kids⟩ := x
  rfl

/-- What the closure holds: the table, and itself. -/
def RightW (w : World) (tb rb r : Nat) : Prop :=
  w.heap[tb]? = some (.cells #[.map (some r)] 118 (0, 0)) ∧ w.heap[rb]? = some (.cells #[.func (.func 89) #[] #[.pointer (some ⟨tb, 0, none⟩), .pointer (some ⟨rb, 0, none⟩)]] 56 (0, 0)) ∧ TabAt w r
theorem RightW.at {A B : World} {tb rb r : Nat} (h : RightW A tb rb r) (hb : Below A.heap.size A B) : RightW B tb rb r :=
  ⟨(hb.block _ (Array.getElem?_eq_some_iff.1 h.1).1).trans h.1, (hb.block _ (Array.getElem?_eq_some_iff.1 h.2.1).1).trans h.2.1, h.2.2.at hb⟩


def RightAt (tb rb r m : Nat) : Prop := ∀ (S : Nat → Prop) (t : Tr) (v : Value) (deep : Nat) (w : World), deep + m = 41 → (∀ b, S b → b < w.heap.size) → NodeR S w v t → RightW w tb rb r →
  Calls Tryz.prog 89 #[v, .int .i64 deep, .pointer (some ⟨tb, 0, none⟩), .pointer (some ⟨rb, 0, none⟩)] w fun e w' => e = .returned (.bool (Tr.right m t)) ∧ Below w.heap.size w w'

set_option maxRecDepth 100000 in
set_option maxHeartbeats 4000000 in
theorem right_zero (tb rb r : Nat) : RightAt tb rb r 0 := by
  intro S t v deep w hd hS hv hw
  obtain ⟨⟨k, tx, n, kv, kids⟩, rfl, rfl, hf, hr⟩ := hv
  obtain ⟨ka, kc, hkv⟩ := hr.slice
  simp only at hkv
  subst hkv
  simp only [N1.cells]
  have hd41 : deep = 41 := by omega
  subst hd41
  have HB : Hid (Below w.heap.size w (w.alloc (.cells #[.int .u8 k, .string (Ln.bs tx), .int .i64 n, .slice ka kids.length kc] 25))) := below_new w _
  clear hr hf hw hS hd
  go_enter Tryz.func89, Tryz.ntmps89
  go_wp2
  go_ret
  exact ⟨rfl, HB.out⟩

set_option maxRecDepth 100000 in
set_option maxHeartbeats 4000000 in
theorem right_succ (tb rb r m : Nat) (ih : RightAt tb rb r m) : RightAt tb rb r (m + 1) := by
  intro S t v deep w hd hS hv hw
  obtain ⟨⟨k, tx, n, kv, kids⟩, rfl, rfl, hf, hr⟩ := hv
  obtain ⟨ka, kc, hkv⟩ := hr.slice
  simp only at hkv
  subst hkv
  rw [right_mk]
  simp only [N1.cells]
  have hd40 : ¬ ((40 : Int) < deep) := by omega
  have dd : decide ((40 : Int) < deep) = false := decide_eq_false hd40
  have hdn : deep ≤ 40 := by omega
  obtain ⟨X, hX⟩ : ∃ X, X = w.alloc (.cells #[.int .u8 k, .string (Ln.bs tx), .int .i64 n, .slice ka kids.length kc] 25) := ⟨_, rfl⟩
  have hB : Below w.heap.size w X := hX ▸ below_new w _
  have hXn : X.heap[w.heap.size]? = some (.cells #[.int .u8 k, .string (Ln.bs tx), .int .i64 n, .slice ka kids.length kc] 25 (0, 0)) := by rw [hX]; exact World.alloc_heap_new w _
  have HTX : Hid (_) := text_any k n tx (.slice ka kids.length kc) X hf.2.1
  have HNM : Hid (∀ w, Calls Tryz.prog 91 #[.agg #[.int .u8 k, .string (Ln.bs tx), .int .i64 n, .slice ka kids.length kc]] w fun e w' => e = .returned (.bool (Tr.numOk k n)) ∧ Below w.heap.size w w') := fun w => num_any k n (Ln.bs tx) _ w
  have HKD : Hid (∀ W, Below X.heap.size X W → Calls Tryz.prog 92 #[.map (some r), .agg #[.int .u8 k, .string (Ln.bs tx), .int .i64 n, .slice ka kids.length kc]] W fun e w' => e = .returned (.bool (Tr.kidsOk (N1.tr ⟨k, tx, n, .slice ka kids.length kc, kids⟩))) ∧ Below W.heap.size W w') := fun W hW =>
    kids_any S _ _ r W (fun b hb => Nat.lt_of_lt_of_le (hS b hb) (below_then hB hW).size) ⟨⟨k, tx, n, .slice ka kids.length kc, kids⟩, rfl, rfl, hf, hr.keep (fun b hb => (below_then hB hW).block b (hS b hb)) (fun _ h => h)⟩ ((hw.2.2.at hB).at hW)
  have HCE : Hid (∀ W, Below X.heap.size X W → W.cell? ⟨w.heap.size, 0, none⟩ = some (.int .u8 k) ∧ W.cell? ⟨w.heap.size, 1, none⟩ = some (.string (Ln.bs tx)) ∧ W.cell? ⟨w.heap.size, 2, none⟩ = some (.int .i64 n) ∧ W.cell? ⟨w.heap.size, 3, none⟩ = some (.slice ka kids.length kc) ∧ W.cell? ⟨tb, 0, none⟩ = some (.map (some r)) ∧ W.cell? ⟨rb, 0, none⟩ = some (.func (.func 89) #[] #[.pointer (some ⟨tb, 0, none⟩), .pointer (some ⟨rb, 0, none⟩)]) ∧ RightW W tb rb r) := fun W hW => by
    have h1 := (hW.block _ (Array.getElem?_eq_some_iff.1 hXn).1).trans hXn
    have h2 := (hw.at hB).at hW
    exact ⟨cells_at h1 rfl, cells_at h1 rfl, cells_at h1 rfl, cells_at h1 rfl, cells_at h2.1 rfl, cells_at h2.2.1 rfl, h2⟩
  have HBX : Hid (Below w.heap.size w X) := hB
  have HR : Hid (RowR S w (.slice ka kids.length kc) kids ∧ ∀ b, S b → b < w.heap.size) := ⟨hr, hS⟩
  have HIH : Hid (RightAt tb rb r m) := ih
  clear hr hS hf hw hXn hB ih
  obtain ⟨tO, htO⟩ : ∃ b, b = Tr.textOk k tx := ⟨_, rfl⟩
  obtain ⟨nO, hnO⟩ : ∃ b, b = Tr.numOk k n := ⟨_, rfl⟩
  obtain ⟨kO, hkO⟩ : ∃ b, b = Tr.kidsOk (N1.tr ⟨k, tx, n, .slice ka kids.length kc, kids⟩) := ⟨_, rfl⟩
  rw [← htO] at HTX ⊢
  rw [← hnO] at HNM ⊢
  rw [← hkO] at HKD ⊢
  clear htO hnO hkO
  refine (callsIn_wide (n := 3)).1 ?_
  refine callsIn_of_wp Tryz.func89 rfl trivial ?_ rfl
  simp only [Tryz.ntmps89, List.size_toArray, List.length_cons, List.length_nil, Nat.reduceAdd, Nat.reduceSub, Array.replicate_succ, Array.replicate_zero, List.push_toArray, List.append_toArray, List.nil_append, List.cons_append]
  gi_wp2
  rw [← hX]
  clear hX
  refine ⟨trivial, ?_⟩
  refine (callsIn_wide.2 HTX.out).mono ?_
  rintro e w1 ⟨rfl, hb1⟩
  have B1 : Hid (Below X.heap.size X w1) := hb1
  obtain ⟨e0, e1, e2, e3, et, -, -⟩ := HCE.out w1 hb1
  clear HTX hb1
  cases tO
  · gi_wp2
    refine ⟨trivial, ?_⟩
    gi_wp2
    refine ⟨trivial, ?_⟩
    gi_wp2
    go_ret
    exact ⟨rfl, below_then HBX.out B1.out⟩
  gi_wp2
  refine ⟨trivial, ?_⟩
  refine (callsIn_wide.2 (HNM.out w1)).mono ?_
  rintro e w2 ⟨rfl, hb2⟩
  have B2 : Hid (Below X.heap.size X w2) := below_then B1.out hb2
  clear HNM hb2 e0 e1 e2 e3 et B1
  obtain ⟨e0, e1, e2, e3, et, -, -⟩ := HCE.out w2 B2.out
  cases nO
  · gi_wp2
    refine ⟨trivial, ?_⟩
    gi_wp2
    go_ret
    exact ⟨rfl, below_then HBX.out B2.out⟩
  gi_wp2
  refine ⟨trivial, ?_⟩
  refine (callsIn_wide.2 (HKD.out w2 B2.out)).mono ?_
  rintro e w3 ⟨rfl, hb3⟩
  have B3 : Hid (Below X.heap.size X w3) := below_then B2.out hb3
  clear HKD hb3 e0 e1 e2 e3 et B2
  obtain ⟨e0, e1, e2, e3, et, -, -⟩ := HCE.out w3 B3.out
  cases kO
  · gi_wp2
    go_ret
    exact ⟨rfl, below_then HBX.out B3.out⟩
  obtain ⟨xs, xa, xc, xb, xo, ex, hxv, -, hxa, hxl, hx⟩ := HR.out.1.parts
  cases hxv
  have HX : Hid (_) := hx
  have HEX : Hid (kids = xs.map N1.tr) := ex
  obtain ⟨N, hN⟩ : ∃ N, N = kids.length := ⟨_, rfl⟩
  have HN : Hid (N = kids.length) := hN
  rw [← hN] at hxa hxl e3 ⊢
  clear hx ex hN e0 e1 e2 et
  have HST : Hid (kids.all (Tr.right m) = (kids.drop 0).all (Tr.right m)) := rfl
  gi_wp2
  gi_loopw [30] (fun i wr => ∃ q : Nat, q ≤ N ∧ i = .int .i64 q ∧ Below X.heap.size X wr ∧ kids.all (Tr.right m) = (kids.drop q).all (Tr.right m)) (fun i _ => N - (intOf i).toNat)
  case atStart => exact ⟨0, Nat.zero_le _, rfl, B3.out, HST.out⟩
  case round =>
    clear HST B3 e3
    obtain ⟨q, hq, rfl, hbr, hall⟩ := hrel
    by_cases hlt : q < N
    · obtain ⟨rfl, hSb⟩ := hxa (by omega)
      have hql : q < xs.length := by have := HN.out; rw [HEX.out, List.length_map] at this; omega
      obtain ⟨⟨zk, zt, zn, zv, zkids⟩, hzq⟩ : ∃ z, xs[q]? = some z := ⟨xs[q], List.getElem?_eq_getElem hql⟩
      obtain ⟨zf, zr, z0, z1, z2, z3⟩ := HX.out q _ hzq
      simp only at z0 z1 z2 z3 zr
      have hbw : Below w.heap.size w wr := below_then HBX.out hbr
      have hxb : xb < w.heap.size := HR.out.2 xb hSb
      have tr : ∀ j u, w.cell? ⟨xb, j, none⟩ = some u → wr.cell? ⟨xb, j, none⟩ = some u := fun j u h => (hbw.cell (p := ⟨xb, j, none⟩) hxb).trans h
      replace z0 := tr _ _ z0
      replace z1 := tr _ _ z1
      replace z2 := tr _ _ z2
      replace z3 := tr _ _ z3
      obtain ⟨za, zc, hzv⟩ := zr.slice
      subst hzv
      have hkq : kids[q]? = some (N1.tr ⟨zk, zt, zn, .slice za zkids.length zc, zkids⟩) := by rw [HEX.out, List.getElem?_map, hzq]; rfl
      have hql' : q < kids.length := by have := HN.out; omega
      have edrop : kids.drop q = N1.tr ⟨zk, zt, zn, .slice za zkids.length zc, zkids⟩ :: kids.drop (q + 1) := by
        rw [List.getElem?_eq_getElem hql'] at hkq
        rw [List.drop_eq_getElem_cons hql', Option.some.inj hkq]
      obtain ⟨Y, hY⟩ : ∃ Y, Y = wr.alloc (.cells #[.int .u8 zk, .string (Ln.bs zt), .int .i64 zn, .slice za zkids.length zc] 25) := ⟨_, rfl⟩
      have hbY : Below X.heap.size X Y := below_then hbr (hY ▸ below_new wr _)
      have hbwY : Below w.heap.size w Y := below_then HBX.out hbY
      have HC : Hid (_) := HIH.out S (N1.tr ⟨zk, zt, zn, .slice za zkids.length zc, zkids⟩) (.agg #[.int .u8 zk, .string (Ln.bs zt), .int .i64 zn, .slice za zkids.length zc]) (deep + 1) Y (by omega) (fun b hb => Nat.lt_of_lt_of_le (HR.out.2 b hb) hbwY.size) ⟨⟨zk, zt, zn, .slice za zkids.length zc, zkids⟩, rfl, rfl, zf, zr.keep (fun b hb => hbwY.block b (HR.out.2 b hb)) (fun _ h => h)⟩ (HCE.out Y hbY).2.2.2.2.2.2
      have er := (HCE.out Y hbY).2.2.2.2.2.1
      have hYn : Y.heap[wr.heap.size]? = some (.cells #[.int .u8 zk, .string (Ln.bs zt), .int .i64 zn, .slice za zkids.length zc] 25 (0, 0)) := by rw [hY]; exact World.alloc_heap_new wr _
      have y0 : Y.cell? ⟨wr.heap.size, 0, none⟩ = some (.int .u8 zk) := cells_at hYn rfl
      have y1 : Y.cell? ⟨wr.heap.size, 1, none⟩ = some (.string (Ln.bs zt)) := cells_at hYn rfl
      have y2 : Y.cell? ⟨wr.heap.size, 2, none⟩ = some (.int .i64 zn) := cells_at hYn rfl
      have y3 : Y.cell? ⟨wr.heap.size, 3, none⟩ = some (.slice za zkids.length zc) := cells_at hYn rfl
      have HBY : Hid (Below X.heap.size X Y) := hbY
      have HALL : Hid (kids.all (Tr.right m) = (Tr.right m (N1.tr ⟨zk, zt, zn, .slice za zkids.length zc, zkids⟩) && (kids.drop (q + 1)).all (Tr.right m))) := by rw [hall, edrop]; rfl
      have edp : ((deep + 1 : Nat) : Int) = (deep : Int) + 1 := by simp
      obtain ⟨ro, hro⟩ : ∃ b, b = Tr.right m (N1.tr ⟨zk, zt, zn, .slice za zkids.length zc, zkids⟩) := ⟨_, rfl⟩
      rw [← hro] at HC HALL
      rw [edp] at HC
      rw [hY] at HC er y0 y1 y2 y3
      clear hall hkq hzq hbw tr zr zf hbY hbwY hbr edrop hro hYn edp hql'
      gi_wp2
      rw [← hY] at HC ⊢
      clear er y0 y1 y2 y3
      refine ⟨trivial, ?_⟩
      refine (callsIn_wide.2 HC.out).mono ?_
      rintro e w4 ⟨rfl, hb4⟩
      have B4 : Hid (Below X.heap.size X w4) := below_then HBY.out hb4
      clear hb4 HC hY HBY
      cases ro
      · gi_wp2
        go_ret
        refine ⟨congrArg (fun b => Ending.returned (.bool b)) ?_, below_then HBX.out B4.out⟩
        rw [HALL.out]
        rfl
      · have HEND : Hid (kids.all (Tr.right m) = (kids.drop (q + 1)).all (Tr.right m)) := by rw [HALL.out]; rfl
        clear HALL
        gi_wp2
        refine ⟨⟨q + 1, by omega, by simp, B4.out, HEND.out⟩, by simp [intOf]; omega⟩
    · have hqN : q = N := by omega
      subst hqN
      have hend : kids.all (Tr.right m) = true := by rw [hall, HN.out, List.drop_length]; rfl
      have HE : Hid (kids.all (Tr.right m) = true ∧ Below w.heap.size w wr) := ⟨hend, below_then HBX.out hbr⟩
      clear hall hend hbr
      gi_wp2
      go_ret
      refine ⟨congrArg (fun b => Ending.returned (.bool b)) ?_, HE.out.2⟩
      rw [HE.out.1]
      rfl

theorem right_at (tb rb r : Nat) : ∀ m, RightAt tb rb r m
  | 0 => right_zero tb rb r
  | m + 1 => right_succ tb rb r m (right_at tb rb r m)

set_option maxRecDepth 100000 in
set_option maxHeartbeats 4000000 in
theorem tright_any (S : Nat → Prop) (t : Tr) (v : Value) (w : World) (hS : ∀ b, S b → b < w.heap.size) (hv : NodeR S w v t) : Calls Tryz.prog 47 #[v] w fun e w' => e = .returned (.bool (Tr.right 40 t)) ∧ Below w.heap.size w w' := by
  obtain ⟨⟨k, tx, n, kv, kids⟩, rfl, rfl, hf, hr⟩ := hv
  obtain ⟨ka, kc, hkv⟩ := hr.slice
  simp only at hkv
  subst hkv
  simp only [N1.cells]
  obtain ⟨X, hX⟩ : ∃ X, X = w.alloc (.cells #[.int .u8 k, .string (Ln.bs tx), .int .i64 n, .slice ka kids.length kc] 25) := ⟨_, rfl⟩
  have hB : Below w.heap.size w X := hX ▸ below_new w _
  have hXn : X.heap[w.heap.size]? = some (.cells #[.int .u8 k, .string (Ln.bs tx), .int .i64 n, .slice ka kids.length kc] 25 (0, 0)) := by rw [hX]; exact World.alloc_heap_new w _
  have HRO : Hid (_) := rows_any X
  have HX : Hid (Below w.heap.size w X ∧ X.heap[w.heap.size]? = some (.cells #[.int .u8 k, .string (Ln.bs tx), .int .i64 n, .slice ka kids.length kc] 25 (0, 0)) ∧ (⟨k, tx, n, .slice ka kids.length kc, kids⟩ : N1).Fit ∧ RowR S w (.slice ka kids.length kc) kids ∧ ∀ b, S b → b < w.heap.size) := ⟨hB, hXn, hf, hr, hS⟩
  clear hB hXn hf hr hS
  have hstf := fun (a : Addr) (fn : Fn) (c1 c2 : Array Value) (w : World) => run_store Tryz.prog w a (.func fn c1 c2) .plain rfl
  go_enter Tryz.func47, Tryz.ntmps47
  go_wp2_with fail
  rw [← hX]
  clear hX
  refine Calls.mono HRO.out ?_
  rintro e w1 ⟨rfl, ht⟩
  have hbt := ht.1
  have htab := ht.tab
  obtain ⟨A1, h1⟩ : ∃ A, A = w1.alloc (.cells #[.map (some X.heap.size)] 118) := ⟨_, rfl⟩
  obtain ⟨A2, h2⟩ : ∃ A, A = A1.alloc (.cells #[.func (.func 89) #[] #[.pointer (some ⟨w1.heap.size, 0, none⟩), .pointer (some ⟨w1.heap.size + 1, 0, none⟩)]] 56) := ⟨_, rfl⟩
  have s1 : A1.heap.size = w1.heap.size + 1 := by rw [h1, World.size_alloc]
  have n1 := World.alloc_heap_new w1 (.cells #[.map (some X.heap.size)] 118)
  have n2 := World.alloc_heap_new A1 (.cells #[.func (.func 89) #[] #[.pointer (some ⟨w1.heap.size, 0, none⟩), .pointer (some ⟨w1.heap.size + 1, 0, none⟩)]] 56)
  rw [← h1] at n1
  rw [← h2, s1] at n2
  have b1 : Below w1.heap.size w1 A1 := h1 ▸ below_new w1 _
  have b2 : Below A1.heap.size A1 A2 := h2 ▸ below_new A1 _
  have b12 := below_then b1 b2
  have bX2 : Below X.heap.size X A2 := below_then hbt b12
  have bw : Below w.heap.size w A2 := below_then HX.out.1 bX2
  have hRW : RightW A2 w1.heap.size (w1.heap.size + 1) X.heap.size := ⟨(b2.block _ (by omega)).trans n1, n2, htab.at b12⟩
  have hnb : A2.heap[w.heap.size]? = some (.cells #[.int .u8 k, .string (Ln.bs tx), .int .i64 n, .slice ka kids.length kc] 25 (0, 0)) := (bX2.block _ (Array.getElem?_eq_some_iff.1 HX.out.2.1).1).trans HX.out.2.1
  have HC : Hid (_) := right_at w1.heap.size (w1.heap.size + 1) X.heap.size 40 S (N1.tr ⟨k, tx, n, .slice ka kids.length kc, kids⟩) (.agg #[.int .u8 k, .string (Ln.bs tx), .int .i64 n, .slice ka kids.length kc]) 1 A2 (by omega) (fun b hb => Nat.lt_of_lt_of_le (HX.out.2.2.2.2 b hb) bw.size) ⟨⟨k, tx, n, .slice ka kids.length kc, kids⟩, rfl, rfl, HX.out.2.2.1, HX.out.2.2.2.1.keep (fun b hb => bw.block b (HX.out.2.2.2.2 b hb)) (fun _ h => h)⟩ hRW
  have c0 : A2.cell? ⟨w.heap.size, 0, none⟩ = some (.int .u8 k) := cells_at hnb rfl
  have c1 : A2.cell? ⟨w.heap.size, 1, none⟩ = some (.string (Ln.bs tx)) := cells_at hnb rfl
  have c2 : A2.cell? ⟨w.heap.size, 2, none⟩ = some (.int .i64 n) := cells_at hnb rfl
  have c3 : A2.cell? ⟨w.heap.size, 3, none⟩ = some (.slice ka kids.length kc) := cells_at hnb rfl
  have cr : A2.cell? ⟨w1.heap.size + 1, 0, none⟩ = some (.func (.func 89) #[] #[.pointer (some ⟨w1.heap.size, 0, none⟩), .pointer (some ⟨w1.heap.size + 1, 0, none⟩)]) := cells_at n2 rfl
  have HBW : Hid (Below w.heap.size w A2) := bw
  rw [h2, h1] at c0 c1 c2 c3 cr
  clear hbt ht htab s1 n1 n2 b1 b2 b12 bX2 bw hRW hnb HX HRO
  go_wp2_with fail
  rw [← h1, ← h2]
  refine Calls.mono HC.out ?_
  rintro e w2 ⟨rfl, hb2⟩
  have HB2 : Hid (Below w.heap.size w w2) := below_then HBW.out hb2
  clear hb2 HC
  go_wp2
  go_ret
  exact ⟨rfl, HB2.out⟩
end Go.Proofs.YtnndgjnihhafbaaGreatDoor

/-
  Two trees alike, as plain data.
-/
namespace Go.Proofs.YtnndgjnihhafbaaGreatDoor
open Go.RowKit Go.Shelf

namespace Tr
end Tr
end Go.Proofs.YtnndgjnihhafbaaGreatDoor
