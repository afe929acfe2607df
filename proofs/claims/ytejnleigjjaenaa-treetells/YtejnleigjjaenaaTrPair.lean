/-
  The walks of through over pairs of rows, and of what Same does at each.
-/
import Derived.Test.YtejnleigjjaenaaTrAwake
namespace Go.Proofs.Ytejnleigjjaenaa
open Go.RowKit Go.Shelf

attribute [local go_sem] Oper.semAt_some

/-- The types of what through makes here. -/
def thrP : List TypeId := [3, 59, 79, 60, 61]
structure KeepQ (n : Nat) (w w' : World) : Prop where
  os : w'.os = w.os
  tape : w'.tape = w.tape
  output : w'.output = w.output
  size : w.heap.size ≤ w'.heap.size
  old : ∀ b, b < n → w'.heap[b]? = w.heap[b]?
structure KeepE (n : Nat) (w w' : World) : Prop where
  size : w.heap.size ≤ w'.heap.size
  own : ∀ (b : Nat) (c : Array Value) (t : TypeId) (fr : Nat × Nat), n ≤ b → w.heap[b]? = some (.cells c t fr) → t ∈ thrP → w'.heap[b]? = some (.cells c t fr)
theorem KeepQ.refl (n : Nat) (w : World) : KeepQ n w w := ⟨rfl, rfl, rfl, Nat.le_refl _, fun _ _ => rfl⟩
theorem KeepQ.trans {n : Nat} {a b c : World} (h : KeepQ n a b) (k : KeepQ n b c) : KeepQ n a c :=
  ⟨k.os.trans h.os, k.tape.trans h.tape, k.output.trans h.output, Nat.le_trans h.size k.size, fun i hi => (k.old i hi).trans (h.old i hi)⟩
theorem KeepQ.of_below {n : Nat} {w w' : World} (h : Below w.heap.size w w') (hn : n ≤ w.heap.size) : KeepQ n w w' :=
  ⟨h.os, h.tape, h.output, h.size, fun b hb => h.block b (by omega)⟩
theorem KeepQ.of_set {n b : Nat} {w : World} (hn : n ≤ b) (i : Nat) (u : Value) : KeepQ n w (w.setCell ⟨b, i, none⟩ u) := by
  have hg := grown_set w b i u
  exact ⟨hg.os, hg.tape, hg.output, hg.size, fun k hk => set_other (by omega)⟩
theorem KeepQ.of_grown {n k e size : Nat} {w w' : World} {v : Value} {xs : List Value} (hrow : w.ownsRow n e size v k xs) (hg : w.grownBy w' v.ownBlock) (hn : n ≤ w.heap.size) : KeepQ n w w' := by
  refine ⟨hg.os, hg.tape, hg.output, hg.size, fun b hb => hg.block b (by omega) (fun e => ?_)⟩
  rcases hrow.2 with ⟨rfl, _⟩ | ⟨g, cap, cur, rfl, h1, _⟩
  · cases e
  · cases e; exact absurd h1 (Nat.not_le_of_gt hb)

/-- Two rows that wait to be held against each other. -/
structure PJ where
  va : Value
  vb : Value
  la : List Tr
  lb : List Tr
def PJ.cells (j : PJ) : List Value := [j.va, j.vb]
def pcells : List PJ → List Value
  | [] => []
  | j :: r => j.cells ++ pcells r
theorem pcells_append (a b : List PJ) : pcells (a ++ b) = pcells a ++ pcells b := by
  induction a with
  | nil => rfl
  | cons x r ih => simp [pcells, ih]
theorem pcells_len (a : List PJ) : (pcells a).length = a.length * 2 := by
  induction a with
  | nil => rfl
  | cons x r ih => simp [pcells, PJ.cells, ih]; omega
def muP : List PJ → Nat
  | [] => 0
  | j :: r => Tr.sizes j.la + 1 + muP r
theorem muP_append (a b : List PJ) : muP (a ++ b) = muP a + muP b := by
  induction a with
  | nil => simp [muP]
  | cons x r ih => simp [muP, ih]; omega
theorem muP_len (a : List PJ) : a.length ≤ muP a := by
  induction a with
  | nil => simp [muP]
  | cons x r ih => simp [muP]; omega
def allEq (P : List PJ) : Bool := P.all (fun j => Tr.eqbL j.la j.lb)
theorem allEq_append (a b : List PJ) : allEq (a ++ b) = (allEq a && allEq b) := by simp [allEq]
theorem allEq_perm {P Q : List PJ} (h : P.Perm Q) : allEq P = allEq Q := by
  rw [Bool.eq_iff_iff]
  simp only [allEq, List.all_eq_true]
  exact ⟨fun k j hj => k j (h.mem_iff.2 hj), fun k j hj => k j (h.mem_iff.1 hj)⟩

/-- What is known all the way: the rows, and what has been told so far. -/
structure PInv (S : Nat → Prop) (sb n : Nat) (total ex : Bool) (w0 : World) (P : List PJ) (w : World) : Prop where
  keep : KeepQ sb w0 w
  jobs : ∀ j ∈ P, RowR S w j.va j.la ∧ RowR S w j.vb j.lb
  flag : ∃ f, w.heap[sb]? = some (.cells #[.bool f] 4 (0, 0)) ∧ (f && (allEq P && ex)) = total
  sbn : sb < n
  low : ∀ b, S b → b < n ∧ b ≠ sb
  sk : ∀ b, S b → w.heap[b]? = w0.heap[b]?

theorem PInv.stab {S : Nat → Prop} {sb n : Nat} {total ex : Bool} {w0 w w' : World} {P : List PJ} (h : PInv S sb n total ex w0 P w) (k : KeepQ n w w') : PInv S sb n total ex w0 P w' := by
  obtain ⟨h1, h2, ⟨f, h3, h4⟩, h5, h6, h7⟩ := h
  exact ⟨h1.trans ⟨k.os, k.tape, k.output, k.size, fun b hb => k.old b (by omega)⟩, fun j hj => ⟨(h2 j hj).1.keep (fun b hb => k.old b (h6 b hb).1) (fun _ h => h), (h2 j hj).2.keep (fun b hb => k.old b (h6 b hb).1) (fun _ h => h)⟩, ⟨f, (k.old sb h5).trans h3, h4⟩, h5, h6, fun b hb => (k.old b (h6 b hb).1).trans (h7 b hb)⟩
theorem PInv.perm {S : Nat → Prop} {sb n : Nat} {total ex : Bool} {w0 w : World} {P Q : List PJ} (h : PInv S sb n total ex w0 P w) (hp : P.Perm Q) : PInv S sb n total ex w0 Q w := by
  obtain ⟨h1, h2, ⟨f, h3, h4⟩, h5, h6, h7⟩ := h
  exact ⟨h1, fun j hj => h2 j (hp.mem_iff.2 hj), ⟨f, h3, by rw [← allEq_perm hp]; exact h4⟩, h5, h6, h7⟩

structure TP (n sb b0 b2 b3 b4 d : Nat) (B : List (Nat × Value × Value)) (W : List PJ) (w : World) : Prop where
  n0 : n ≤ b0 ∧ n ≤ b2 ∧ n ≤ b3 ∧ n ≤ b4
  vis : w.heap[b0]? = some (.cells #[.func (.func 37) #[] #[.pointer (some ⟨sb, 0, none⟩)]] 61 (0, 0))
  dwn : w.heap[b4]? = some (.cells #[.func (.func 58) #[] #[.pointer (some ⟨b3, 0, none⟩), .pointer (some ⟨b2, 0, none⟩), .pointer (some ⟨b0, 0, none⟩), .pointer (some ⟨b4, 0, none⟩)]] 60 (0, 0))
  deep : w.heap[b3]? = some (.cells #[.int .i64 d] 3 (0, 0))
  wait : ∃ v, w.heap[b2]? = some (.cells #[v] 79 (0, 0)) ∧ w.ownsRow n 59 2 v W.length (pcells W) ∧ ∀ p ∈ B, v.ownBlock ≠ some p.1
  bx : ∀ p ∈ B, n ≤ p.1 ∧ w.heap[p.1]? = some (.cells #[p.2.1, p.2.2] 59 (0, 0))
theorem TP.keep {n sb b0 b2 b3 b4 d : Nat} {B : List (Nat × Value × Value)} {W : List PJ} {w w' : World} (h : TP n sb b0 b2 b3 b4 d B W w) (k : KeepE n w w') : TP n sb b0 b2 b3 b4 d B W w' := by
  obtain ⟨⟨n1, n2, n3, n4⟩, h2, h3, h4, ⟨v, h5, ⟨h6, h7⟩, h8⟩, h9⟩ := h
  refine ⟨⟨n1, n2, n3, n4⟩, k.own _ _ _ _ n1 h2 (by decide), k.own _ _ _ _ n4 h3 (by decide), k.own _ _ _ _ n3 h4 (by decide), ⟨v, k.own _ _ _ _ n2 h5 (by decide), ⟨h6, ?_⟩, h8⟩, fun p hp => ⟨(h9 p hp).1, k.own _ _ _ _ (h9 p hp).1 (h9 p hp).2 (by decide)⟩⟩
  rcases h7 with h7 | ⟨gg, cap, cur, e1, e2, e3, e4⟩
  · exact .inl h7
  · exact .inr ⟨gg, cap, cur, e1, e2, k.own _ _ _ _ e2 e3 (by decide), e4⟩
theorem TP.of_below {n sb b0 b2 b3 b4 d : Nat} {B : List (Nat × Value × Value)} {W : List PJ} {w w' : World} (h : TP n sb b0 b2 b3 b4 d B W w) (hb : Below w.heap.size w w') : TP n sb b0 b2 b3 b4 d B W w' :=
  h.keep ⟨hb.size, fun b _ _ _ _ hc _ => (hb.block b (Array.getElem?_eq_some_iff.1 hc).1).trans hc⟩
theorem TP.nw {n sb b0 b2 b3 b4 d : Nat} {B : List (Nat × Value × Value)} {W : List PJ} {w : World} (h : TP n sb b0 b2 b3 b4 d B W w) : n ≤ w.heap.size := by
  have := h.n0
  have := (Array.getElem?_eq_some_iff.1 h.vis).1
  omega
theorem TP.setDeep {n sb b0 b2 b3 b4 d : Nat} {B : List (Nat × Value × Value)} {W : List PJ} {w : World} (h : TP n sb b0 b2 b3 b4 d B W w) (d' : Nat) : TP n sb b0 b2 b3 b4 d' B W (w.setCell ⟨b3, 0, none⟩ (.int .i64 d')) := by
  obtain ⟨hn, h2, h3, h4, ⟨v, h5, h6, h8⟩, h9⟩ := h
  exact ⟨hn, heap_set_ne h2 h4 (by decide) _ _, heap_set_ne h3 h4 (by decide) _ _, heap_setCell_same w b3 0 _ 3 _ h4, ⟨v, heap_set_ne h5 h4 (by decide) _ _, owns_set h6 h4 (by decide) _ _, h8⟩, fun p hp => ⟨(h9 p hp).1, heap_set_ne (h9 p hp).2 h4 (by decide) _ _⟩⟩
theorem TP.setWait {n sb b0 b2 b3 b4 d : Nat} {B : List (Nat × Value × Value)} {W W2 : List PJ} {w : World} (h : TP n sb b0 b2 b3 b4 d B W w) {v : Value} (hv : w.ownsRow n 59 2 v W2.length (pcells W2)) (hB : ∀ p ∈ B, v.ownBlock ≠ some p.1) : TP n sb b0 b2 b3 b4 d B W2 (w.setCell ⟨b2, 0, none⟩ v) := by
  obtain ⟨hn, h2, h3, h4, ⟨v0, h5, h6, h8⟩, h9⟩ := h
  exact ⟨hn, heap_set_ne h2 h5 (by decide) _ _, heap_set_ne h3 h5 (by decide) _ _, heap_set_ne h4 h5 (by decide) _ _, ⟨v, heap_setCell_same w b2 0 _ _ _ h5, owns_set hv h5 (by decide) _ _, hB⟩, fun p hp => ⟨(h9 p hp).1, heap_set_ne (h9 p hp).2 h5 (by decide) _ _⟩⟩
/-- A new box beside them. -/
theorem TP.add {n sb b0 b2 b3 b4 d : Nat} {B : List (Nat × Value × Value)} {W : List PJ} {w : World} (h : TP n sb b0 b2 b3 b4 d B W w) (va vb : Value) : TP n sb b0 b2 b3 b4 d ((w.heap.size, va, vb) :: B) W (w.alloc (.cells #[va, vb] 59)) := by
  have hnw := h.nw
  obtain ⟨hn, h2, h3, h4, ⟨v, h5, h6, h8⟩, h9⟩ := h.of_below (below_new w (.cells #[va, vb] 59))
  obtain ⟨v', h5', h6', -⟩ := h.wait
  refine ⟨hn, h2, h3, h4, ⟨v, h5, h6, fun p hp => ?_⟩, fun p hp => ?_⟩
  · rcases List.mem_cons.1 hp with rfl | hp
    · have e : (w.alloc (.cells #[va, vb] 59)).heap[b2]? = w.heap[b2]? := (below_new w _).block b2 (Array.getElem?_eq_some_iff.1 h5').1
      rw [e, h5'] at h5
      have : v = v' := by cases h5; rfl
      subst this
      rcases h6'.2 with ⟨rfl, _⟩ | ⟨g, cap, cur, rfl, k1, k2, _⟩
      · exact fun e => by cases e
      · intro e
        have := (Array.getElem?_eq_some_iff.1 k2).1
        have e' : g = w.heap.size := by cases e; rfl
        omega
    · exact h8 p hp
  · rcases List.mem_cons.1 hp with rfl | hp
    · exact ⟨hnw, World.alloc_heap_new w _⟩
    · exact h9 p hp
theorem TP.drop {n sb b0 b2 b3 b4 d : Nat} {p : Nat × Value × Value} {B : List (Nat × Value × Value)} {W : List PJ} {w : World} (h : TP n sb b0 b2 b3 b4 d (p :: B) W w) : TP n sb b0 b2 b3 b4 d B W w := by
  obtain ⟨hn, h2, h3, h4, ⟨v, h5, h6, h8⟩, h9⟩ := h
  exact ⟨hn, h2, h3, h4, ⟨v, h5, h6, fun p hp => h8 p (List.mem_cons_of_mem _ hp)⟩, fun p hp => h9 p (List.mem_cons_of_mem _ hp)⟩

def DownP (S : Nat → Prop) (total : Bool) (w0 : World) (n sb b0 b2 b3 b4 : Nat) (la : List Tr) : Prop :=
  ∀ (d : Nat) (B : List (Nat × Value × Value)) (ex : Bool) (W P : List PJ) (va vb : Value) (lb : List Tr) (w : World), d ≤ 40 → W.length + Tr.sizes la ≤ 1000000 → TP n sb b0 b2 b3 b4 d B W w → PInv S sb n total ex w0 (⟨va, vb, la, lb⟩ :: P) w →
    Calls Try.prog 58 #[.agg #[va, vb], .pointer (some ⟨b3, 0, none⟩), .pointer (some ⟨b2, 0, none⟩), .pointer (some ⟨b0, 0, none⟩), .pointer (some ⟨b4, 0, none⟩)] w fun e w' => e = .returned (.tuple #[]) ∧
      ∃ Q : List PJ, TP n sb b0 b2 b3 b4 d B (W ++ Q) w' ∧ PInv S sb n total ex w0 (Q ++ P) w' ∧ muP Q ≤ (if d = 40 then Tr.sizes la + 1 else Tr.sizes la)

theorem info_pair : (Try.prog.info? 59).map (fun i => (i.zero, i.size, i.bytes)) = some (some (.agg #[.slice none 0 0, .slice none 0 0]), 2, 48) := by kernel_rfl
end Go.Proofs.Ytejnleigjjaenaa
