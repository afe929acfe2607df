/-
  Several texts in one, as they are: TrPair, TrPairVisit.
-/
import Derived.Test.YtdaaecnmllpgdaaGreatDoorTrAll

/-
  The walks of through over pairs of rows, and of what Same does at each.
-/
namespace Go.Proofs.YtdaaecnmllpgdaaGreatDoor
open Go.RowKit Go.Shelf

attribute [local go_sem] Oper.semAt_some

/-- The types of what through makes here. -/
def thrP : List TypeId := [3, 53, 76, 54, 55]
structure KeepQ (n : Nat) (w w' : World) : Prop where
  os : w'.os = w.os
  tape : w'.tape = w.tape
  output : w'.output = w.output
  size : w.heap.size ≤ w'.heap.size
  old : ∀ b, b < n → w'.heap[b]? = w.heap[b]?
structure KeepE (n : Nat) (w w' : World) : Prop where
  size : w.heap.size ≤ w'.heap.size
  own : ∀ (b : Nat) (c : Array Value) (t : TypeId) (fr : Nat × Nat), n ≤ b → w.heap[b]? = some (.cells c t fr) → t ∈ thrP → w'.heap[b]? = some (.cells c t fr)
theorem KeepQ.refl (n : Nat) (w : World) : KeepQ n w w := ⟨rfl, rfl, rfl, Nat.le_refl _, fun _ _ => rfl⟩
theorem KeepQ.trans {n : Nat} {a b c : World} (h : KeepQ n a b) (k : KeepQ n b c) : KeepQ n a c :=
  ⟨k.os.trans h.os, k.tape.trans h.tape, k.output.trans h.output, Nat.le_trans h.size k.size, fun i hi => (k.old i hi).trans (h.old i hi)⟩
theorem KeepQ.of_below {n : Nat} {w w' : World} (h : Below w.heap.size w w') (hn : n ≤ w.heap.size) : KeepQ n w w' :=
  ⟨h.os, h.tape, h.output, h.size, fun b hb => h.block b (by omega)⟩
theorem KeepQ.of_set {n b : Nat} {w : World} (hn : n ≤ b) (i : Nat) (u : Value) : KeepQ n w (w.setCell ⟨b, i, none⟩ u) := by
  have hg := grown_set w b i u
  exact ⟨hg.os, hg.tape, hg.output, hg.size, fun k hk => set_other (by omega)⟩
theorem KeepQ.of_grown {n k e size : Nat} {w w' : World} {v : Value} {xs : List Value} (hrow : w.ownsRow n e size v k xs) (hg : w.grownBy w' v.ownBlock) (hn : n ≤ w.heap.size) : KeepQ n w w' := by
  refine ⟨hg.os, hg.tape, hg.output, hg.size, fun b hb => hg.block b (by omega) (fun e => ?_)⟩
  rcases hrow.2 with ⟨rfl, _⟩ | ⟨g, cap, cur, rfl, h1, _⟩
  · cases e
  · cases e; exact absurd h1 (Nat.not_le_of_gt hb)

/-- Two rows that wait to be held against each other. -/
structure PJ where
  va : Value
  vb : Value
  la : List Tr
  lb : List Tr
def PJ.cells (j : PJ) : List Value := [j.va, j.vb]
def pcells : List PJ → List Value
  | [] => []
  | j :: r => j.cells ++ pcells r
theorem pcells_append (a b : List PJ) : pcells (a ++ b) = pcells a ++ pcells b := by
  induction a with
  | nil => rfl
  | cons x r ih => simp [pcells, ih]
theorem pcells_len (a : List PJ) : (pcells a).length = a.length * 2 := by
  induction a with
  | nil => rfl
  | cons x r ih => simp [pcells, PJ.cells, ih]; omega
def muP : List PJ → Nat
  | [] => 0
  | j :: r => Tr.sizes j.la + 1 + muP r
theorem muP_append (a b : List PJ) : muP (a ++ b) = muP a + muP b := by
  induction a with
  | nil => simp [muP]
  | cons x r ih => simp [muP, ih]; omega
theorem muP_len (a : List PJ) : a.length ≤ muP a := by
  induction a with
  | nil => simp [muP]
  | cons x r ih => simp [muP]; omega
def allEq (P : List PJ) : Bool := P.all (fun j => Tr.eqbL j.la j.lb)
theorem allEq_append (a b : List PJ) : allEq (a ++ b) = (allEq a && allEq b) := by simp [allEq]
theorem allEq_perm {P Q : List PJ} (h : P.Perm Q) : allEq P = allEq Q := by
  rw [Bool.eq_iff_iff]
  simp only [allEq, List.all_eq_true]
  exact ⟨fun k j hj => k j (h.mem_iff.2 hj), fun k j hj => k j (h.mem_iff.1 hj)⟩

/-- What is known all the way: the rows, and what has been told so far. -/
structure PInv (S : Nat → Prop) (sb n : Nat) (total ex : Bool) (w0 : World) (P : List PJ) (w : World) : Prop where
  keep : KeepQ sb w0 w
  jobs : ∀ j ∈ P, RowR S w j.va j.la ∧ RowR S w j.vb j.lb
  flag : ∃ f, w.heap[sb]? = some (.cells #[.bool f] 4 (0, 0)) ∧ (f && (allEq P && ex)) = total
  sbn : sb < n
  low : ∀ b, S b → b < n ∧ b ≠ sb
  sk : ∀ b, S b → w.heap[b]? = w0.heap[b]?

theorem PInv.stab {S : Nat → Prop} {sb n : Nat} {total ex : Bool} {w0 w w' : World} {P : List PJ} (h : PInv S sb n total ex w0 P w) (k : KeepQ n w w') : PInv S sb n total ex w0 P w' := by
  obtain ⟨h1, h2, ⟨f, h3, h4⟩, h5, h6, h7⟩ := h
  exact ⟨h1.trans ⟨k.os, k.tape, k.output, k.size, fun b hb => k.old b (by omega)⟩, fun j hj => ⟨(h2 j hj).1.keep (fun b hb => k.old b (h6 b hb).1) (fun _ h => h), (h2 j hj).2.keep (fun b hb => k.old b (h6 b hb).1) (fun _ h => h)⟩, ⟨f, (k.old sb h5).trans h3, h4⟩, h5, h6, fun b hb => (k.old b (h6 b hb).1).trans (h7 b hb)⟩
theorem PInv.perm {S : Nat → Prop} {sb n : Nat} {total ex : Bool} {w0 w : World} {P Q : List PJ} (h : PInv S sb n total ex w0 P w) (hp : P.Perm Q) : PInv S sb n total ex w0 Q w := by
  obtain ⟨h1, h2, ⟨f, h3, h4⟩, h5, h6, h7⟩ := h
  exact ⟨h1, fun j hj => h2 j (hp.mem_iff.2 hj), ⟨f, h3, by rw [← allEq_perm hp]; exact h4⟩, h5, h6, h7⟩

structure TP (n sb b0 b2 b3 b4 d : Nat) (B : List (Nat × Value × Value)) (W : List PJ) (w : World) : Prop where
  n0 : n ≤ b0 ∧ n ≤ b2 ∧ n ≤ b3 ∧ n ≤ b4
  vis : w.heap[b0]? = some (.cells #[.func (.func 20) #[] #[.pointer (some ⟨sb, 0, none⟩)]] 55 (0, 0))
  dwn : w.heap[b4]? = some (.cells #[.func (.func 36) #[] #[.pointer (some ⟨b3, 0, none⟩), .pointer (some ⟨b2, 0, none⟩), .pointer (some ⟨b0, 0, none⟩), .pointer (some ⟨b4, 0, none⟩)]] 54 (0, 0))
  deep : w.heap[b3]? = some (.cells #[.int .i64 d] 3 (0, 0))
  wait : ∃ v, w.heap[b2]? = some (.cells #[v] 76 (0, 0)) ∧ w.ownsRow n 53 2 v W.length (pcells W) ∧ ∀ p ∈ B, v.ownBlock ≠ some p.1
  bx : ∀ p ∈ B, n ≤ p.1 ∧ w.heap[p.1]? = some (.cells #[p.2.1, p.2.2] 53 (0, 0))
theorem TP.keep {n sb b0 b2 b3 b4 d : Nat} {B : List (Nat × Value × Value)} {W : List PJ} {w w' : World} (h : TP n sb b0 b2 b3 b4 d B W w) (k : KeepE n w w') : TP n sb b0 b2 b3 b4 d B W w' := by
  obtain ⟨⟨n1, n2, n3, n4⟩, h2, h3, h4, ⟨v, h5, ⟨h6, h7⟩, h8⟩, h9⟩ := h
  refine ⟨⟨n1, n2, n3, n4⟩, k.own _ _ _ _ n1 h2 (by decide), k.own _ _ _ _ n4 h3 (by decide), k.own _ _ _ _ n3 h4 (by decide), ⟨v, k.own _ _ _ _ n2 h5 (by decide), ⟨h6, ?_⟩, h8⟩, fun p hp => ⟨(h9 p hp).1, k.own _ _ _ _ (h9 p hp).1 (h9 p hp).2 (by decide)⟩⟩
  rcases h7 with h7 | ⟨gg, cap, cur, e1, e2, e3, e4⟩
  · exact .inl h7
  · exact .inr ⟨gg, cap, cur, e1, e2, k.own _ _ _ _ e2 e3 (by decide), e4⟩
theorem TP.of_below {n sb b0 b2 b3 b4 d : Nat} {B : List (Nat × Value × Value)} {W : List PJ} {w w' : World} (h : TP n sb b0 b2 b3 b4 d B W w) (hb : Below w.heap.size w w') : TP n sb b0 b2 b3 b4 d B W w' :=
  h.keep ⟨hb.size, fun b _ _ _ _ hc _ => (hb.block b (Array.getElem?_eq_some_iff.1 hc).1).trans hc⟩
theorem TP.nw {n sb b0 b2 b3 b4 d : Nat} {B : List (Nat × Value × Value)} {W : List PJ} {w : World} (h : TP n sb b0 b2 b3 b4 d B W w) : n ≤ w.heap.size := by
  have := h.n0
  have := (Array.getElem?_eq_some_iff.1 h.vis).1
  omega
theorem TP.setDeep {n sb b0 b2 b3 b4 d : Nat} {B : List (Nat × Value × Value)} {W : List PJ} {w : World} (h : TP n sb b0 b2 b3 b4 d B W w) (d' : Nat) : TP n sb b0 b2 b3 b4 d' B W (w.setCell ⟨b3, 0, none⟩ (.int .i64 d')) := by
  obtain ⟨hn, h2, h3, h4, ⟨v, h5, h6, h8⟩, h9⟩ := h
  exact ⟨hn, heap_set_ne h2 h4 (by decide) _ _, heap_set_ne h3 h4 (by decide) _ _, heap_setCell_same w b3 0 _ 3 _ h4, ⟨v, heap_set_ne h5 h4 (by decide) _ _, owns_set h6 h4 (by decide) _ _, h8⟩, fun p hp => ⟨(h9 p hp).1, heap_set_ne (h9 p hp).2 h4 (by decide) _ _⟩⟩
theorem TP.setWait {n sb b0 b2 b3 b4 d : Nat} {B : List (Nat × Value × Value)} {W W2 : List PJ} {w : World} (h : TP n sb b0 b2 b3 b4 d B W w) {v : Value} (hv : w.ownsRow n 53 2 v W2.length (pcells W2)) (hB : ∀ p ∈ B, v.ownBlock ≠ some p.1) : TP n sb b0 b2 b3 b4 d B W2 (w.setCell ⟨b2, 0, none⟩ v) := by
  obtain ⟨hn, h2, h3, h4, ⟨v0, h5, h6, h8⟩, h9⟩ := h
  exact ⟨hn, heap_set_ne h2 h5 (by decide) _ _, heap_set_ne h3 h5 (by decide) _ _, heap_set_ne h4 h5 (by decide) _ _, ⟨v, heap_setCell_same w b2 0 _ _ _ h5, owns_set hv h5 (by decide) _ _, hB⟩, fun p hp => ⟨(h9 p hp).1, heap_set_ne (h9 p hp).2 h5 (by decide) _ _⟩⟩
/-- A new box beside them. -/
theorem TP.add {n sb b0 b2 b3 b4 d : Nat} {B : List (Nat × Value × Value)} {W : List PJ} {w : World} (h : TP n sb b0 b2 b3 b4 d B W w) (va vb : Value) : TP n sb b0 b2 b3 b4 d ((w.heap.size, va, vb) :: B) W (w.alloc (.cells #[va, vb] 53)) := by
  have hnw := h.nw
  obtain ⟨hn, h2, h3, h4, ⟨v, h5, h6, h8⟩, h9⟩ := h.of_below (below_new w (.cells #[va, vb] 53))
  obtain ⟨v', h5', h6', -⟩ := h.wait
  refine ⟨hn, h2, h3, h4, ⟨v, h5, h6, fun p hp => ?_⟩, fun p hp => ?_⟩
  · rcases List.mem_cons.1 hp with rfl | hp
    · have e : (w.alloc (.cells #[va, vb] 53)).heap[b2]? = w.heap[b2]? := (below_new w _).block b2 (Array.getElem?_eq_some_iff.1 h5').1
      rw [e, h5'] at h5
      have : v = v' := by cases h5; rfl
      subst this
      rcases h6'.2 with ⟨rfl, _⟩ | ⟨g, cap, cur, rfl, k1, k2, _⟩
      · exact fun e => by cases e
      · intro e
        have := (Array.getElem?_eq_some_iff.1 k2).1
        have e' : g = w.heap.size := by cases e; rfl
        omega
    · exact h8 p hp
  · rcases List.mem_cons.1 hp with rfl | hp
    · exact ⟨hnw, World.alloc_heap_new w _⟩
    · exact h9 p hp
theorem TP.drop {n sb b0 b2 b3 b4 d : Nat} {p : Nat × Value × Value} {B : List (Nat × Value × Value)} {W : List PJ} {w : World} (h : TP n sb b0 b2 b3 b4 d (p :: B) W w) : TP n sb b0 b2 b3 b4 d B W w := by
  obtain ⟨hn, h2, h3, h4, ⟨v, h5, h6, h8⟩, h9⟩ := h
  exact ⟨hn, h2, h3, h4, ⟨v, h5, h6, fun p hp => h8 p (List.mem_cons_of_mem _ hp)⟩, fun p hp => h9 p (List.mem_cons_of_mem _ hp)⟩

def DownP (S : Nat → Prop) (total : Bool) (w0 : World) (n sb b0 b2 b3 b4 : Nat) (la : List Tr) : Prop :=
  ∀ (d : Nat) (B : List (Nat × Value × Value)) (ex : Bool) (W P : List PJ) (va vb : Value) (lb : List Tr) (w : World), d ≤ 40 → W.length + Tr.sizes la ≤ 1000000 → TP n sb b0 b2 b3 b4 d B W w → PInv S sb n total ex w0 (⟨va, vb, la, lb⟩ :: P) w →
    Calls Tryz.prog 36 #[.agg #[va, vb], .pointer (some ⟨b3, 0, none⟩), .pointer (some ⟨b2, 0, none⟩), .pointer (some ⟨b0, 0, none⟩), .pointer (some ⟨b4, 0, none⟩)] w fun e w' => e = .returned (.tuple #[]) ∧
      ∃ Q : List PJ, TP n sb b0 b2 b3 b4 d B (W ++ Q) w' ∧ PInv S sb n total ex w0 (Q ++ P) w' ∧ muP Q ≤ (if d = 40 then Tr.sizes la + 1 else Tr.sizes la)

theorem info_pair : (Tryz.prog.info? 53).map (fun i => (i.zero, i.size, i.bytes)) = some (some (.agg #[.slice none 0 0, .slice none 0 0]), 2, 48) := by kernel_rfl
end Go.Proofs.YtdaaecnmllpgdaaGreatDoor

/-
  The walk of what Same does at each pair of rows.
-/
namespace Go.Proofs.YtdaaecnmllpgdaaGreatDoor
open Go.RowKit Go.Shelf

attribute [local go_sem] Oper.semAt_some

structure VisP (S : Nat → Prop) (total ex : Bool) (w0 : World) (n sb b0 b2 b3 b4 d pb : Nat) (B : List (Nat × Value × Value)) (W P : List PJ) (va vb : Value) (la lb : List Tr) (i : Nat) (Q : List PJ) (f : Bool) (w : World) : Prop where
  tp : TP n sb b0 b2 b3 b4 d ((pb, va, vb) :: B) (W ++ Q) w
  inv : PInv S sb n total (Tr.eqbL (la.drop i) (lb.drop i) && ex) w0 (Q ++ P) w
  rows : RowR S w va la ∧ RowR S w vb lb
  mu : muP Q ≤ Tr.sizes (la.take i)
  flag : w.heap[sb]? = some (.cells #[.bool f] 4 (0, 0))
  len : f = true → la.length = lb.length
theorem VisP.box {S : Nat → Prop} {total ex : Bool} {w0 : World} {n sb b0 b2 b3 b4 d pb : Nat} {B : List (Nat × Value × Value)} {W P : List PJ} {va vb : Value} {la lb : List Tr} {i : Nat} {Q : List PJ} {f : Bool} {w : World} (h : VisP S total ex w0 n sb b0 b2 b3 b4 d pb B W P va vb la lb i Q f w) : w.heap[pb]? = some (.cells #[va, vb] 53 (0, 0)) := (h.tp.bx _ List.mem_cons_self).2

/-- The flag told anew. -/
theorem PInv.tell {S : Nat → Prop} {sb n : Nat} {total ex ex' : Bool} {w0 w : World} {P P' : List PJ} (h : PInv S sb n total ex w0 P w) (g : Bool) (hP : ∀ j ∈ P', RowR S w j.va j.la ∧ RowR S w j.vb j.lb) (he : ∀ f, w.heap[sb]? = some (.cells #[.bool f] 4 (0, 0)) → (f && (allEq P && ex)) = (g && (allEq P' && ex'))) : PInv S sb n total ex' w0 P' (w.setCell ⟨sb, 0, none⟩ (.bool g)) := by
  obtain ⟨h1, h2, ⟨f, h3, h4⟩, h5, h6, h7⟩ := h
  have ho : ∀ b, b ≠ sb → (w.setCell ⟨sb, 0, none⟩ (.bool g)).heap[b]? = w.heap[b]? := fun b hb => set_other hb
  refine ⟨h1.trans (KeepQ.of_set (Nat.le_refl _) 0 _), fun j hj => ⟨(hP j hj).1.keep (fun b hb => ho b (h6 b hb).2) (fun _ h => h), (hP j hj).2.keep (fun b hb => ho b (h6 b hb).2) (fun _ h => h)⟩, ⟨g, heap_setCell_same w sb 0 _ 4 _ h3, by rw [← he f h3]; exact h4⟩, h5, h6, fun b hb => (ho b (h6 b hb).2).trans (h7 b hb)⟩
theorem TP.setFlag {n sb b0 b2 b3 b4 d : Nat} {B : List (Nat × Value × Value)} {W : List PJ} {w : World} (h : TP n sb b0 b2 b3 b4 d B W w) (hs : sb < n) (u : Value) : TP n sb b0 b2 b3 b4 d B W (w.setCell ⟨sb, 0, none⟩ u) :=
  h.keep ⟨by rw [setCell_size]; omega, fun b c t fr hb hc _ => (set_other (by omega)).trans hc⟩

theorem sizes_take (l : List Tr) (i : Nat) : Tr.sizes (l.take i) ≤ Tr.sizes l := by
  have h9 : Tr.sizes (l.take i) + Tr.sizes (l.drop i) = Tr.sizes l := by rw [← Tr.sizes_append, List.take_append_drop]
  omega

set_option maxRecDepth 100000 in
set_option maxHeartbeats 8000000 in
theorem visitP (S : Nat → Prop) (total : Bool) (w0 : World) (n sb b0 b2 b3 b4 : Nat) (la : List Tr) (down : ∀ la' : List Tr, Tr.sizes la' < Tr.sizes la → DownP S total w0 n sb b0 b2 b3 b4 la')
    (d : Nat) (B : List (Nat × Value × Value)) (ex : Bool) (W P : List PJ) (va vb : Value) (lb : List Tr) (w : World) (hd : d < 40) (hW : W.length + Tr.sizes la ≤ 1000000) (htp : TP n sb b0 b2 b3 b4 (d + 1) B W w) (hi : PInv S sb n total ex w0 (⟨va, vb, la, lb⟩ :: P) w) :
    Calls Tryz.prog 20 #[.agg #[va, vb], .func (.func 36) #[] #[.pointer (some ⟨b3, 0, none⟩), .pointer (some ⟨b2, 0, none⟩), .pointer (some ⟨b0, 0, none⟩), .pointer (some ⟨b4, 0, none⟩)], .pointer (some ⟨sb, 0, none⟩)] w fun e w' => e = .returned (.tuple #[]) ∧
      ∃ Q : List PJ, TP n sb b0 b2 b3 b4 (d + 1) B (W ++ Q) w' ∧ PInv S sb n total ex w0 (Q ++ P) w' ∧ muP Q ≤ Tr.sizes la := by
  obtain ⟨hra, hrb⟩ := hi.jobs _ List.mem_cons_self
  obtain ⟨aa, ac, hva⟩ := hra.slice
  obtain ⟨ba, bc, hvb⟩ := hrb.slice
  simp only at hva hvb hra hrb
  subst hva
  subst hvb
  have hla : la.length ≤ 1000000 := by have := Tr.length_sizes la; omega
  obtain ⟨X, hX⟩ : ∃ X, X = w.alloc (.cells #[.slice aa la.length ac, .slice ba lb.length bc] 53) := ⟨_, rfl⟩
  have bX : Below w.heap.size w X := hX ▸ below_new w _
  have hXn : X.heap[w.heap.size]? = some (.cells #[.slice aa la.length ac, .slice ba lb.length bc] 53 (0, 0)) := by rw [hX]; exact World.alloc_heap_new w _
  have tpX : TP n sb b0 b2 b3 b4 (d + 1) ((w.heap.size, .slice aa la.length ac, .slice ba lb.length bc) :: B) W X := hX ▸ htp.add _ _
  have hiX := hi.stab (KeepQ.of_below bX htp.nw)
  obtain ⟨f, hf, hfe⟩ := hiX.flag
  have cS : X.cell? ⟨sb, 0, none⟩ = some (.bool f) := cells_at hf rfl
  have fS : X.frozen? ⟨sb, 0, none⟩ = false := frozen_of_row X sb 0 _ _ hf
  have x0 : X.cell? ⟨w.heap.size, 0, none⟩ = some (.slice aa la.length ac) := cells_at hXn rfl
  have x1 : X.cell? ⟨w.heap.size, 1, none⟩ = some (.slice ba lb.length bc) := cells_at hXn rfl
  obtain ⟨rXa, rXb⟩ := hiX.jobs _ List.mem_cons_self
  simp only at rXa rXb
  obtain ⟨g, hg⟩ : ∃ g, g = (f && (la.length == lb.length)) := ⟨_, rfl⟩
  obtain ⟨Y, hY⟩ : ∃ Y, Y = X.setCell ⟨sb, 0, none⟩ (.bool g) := ⟨_, rfl⟩
  have hpbs : w.heap.size ≠ sb := by have := hi.sbn; have := htp.nw; omega
  have HV : Hid (VisP S total ex w0 n sb b0 b2 b3 b4 (d + 1) w.heap.size B W P (.slice aa la.length ac) (.slice ba lb.length bc) la lb 0 [] g Y) := by
    have hSl : ∀ b, S b → Y.heap[b]? = X.heap[b]? := fun b hb => by rw [hY]; exact set_other (hiX.low b hb).2
    refine ⟨by rw [hY, List.append_nil]; exact tpX.setFlag hi.sbn _, ?_, ⟨rXa.keep hSl (fun _ h => h), rXb.keep hSl (fun _ h => h)⟩, by simp [muP], by rw [hY]; exact heap_setCell_same X sb 0 _ 4 _ hf, fun h => ?_⟩
    · rw [hY]
      refine hiX.tell g (fun j hj => hiX.jobs j (List.mem_cons_of_mem _ (by simpa using hj))) (fun f' hf' => ?_)
      rw [hf] at hf'
      have : f' = f := by cases hf'; rfl
      subst this
      rw [hg, List.drop_zero, List.drop_zero, List.nil_append]
      simp only [allEq, List.all_cons]
      by_cases hl : la.length = lb.length
      · rw [hl]; simp only [beq_self_eq_true, Bool.and_true]
        cases f' <;> simp [Bool.and_assoc, Bool.and_comm, Bool.and_left_comm]
      · rw [Tr.eqbL_len hl]; simp
    · rw [hg] at h
      simpa using (Bool.and_eq_true_iff.1 h).2
  have HDN : Hid (_) := down
  have HWl : Hid (W.length + Tr.sizes la ≤ 1000000) := hW
  have dl : ((la.length : Int) == lb.length) = (la.length == lb.length) := by rw [Bool.eq_iff_iff]; simp only [beq_iff_eq]; omega
  obtain ⟨lq, hlq⟩ : ∃ q, q = (la.length == lb.length) := ⟨_, rfl⟩
  rw [← hlq] at dl hg
  obtain ⟨N, hN⟩ : ∃ N, N = la.length := ⟨_, rfl⟩
  have HN : Hid (N = la.length) := hN
  obtain ⟨M, hM⟩ : ∃ M, M = lb.length := ⟨_, rfl⟩
  have HM : Hid (M = lb.length) := hM
  rw [← hN] at hla hX x0 HV dl ⊢
  rw [← hM] at hX x1 HV dl ⊢
  clear hN hM hra hrb rXa rXb hf hfe tpX hiX hXn bX hi htp hlq down hW hpbs
  refine (callsIn_wide (n := 3)).1 ?_
  refine callsIn_of_wp Tryz.func20 rfl trivial ?_ rfl
  simp only [Tryz.ntmps20, List.size_toArray, List.length_cons, List.length_nil, Nat.reduceAdd, Nat.reduceSub, Array.replicate_succ, Array.replicate_zero, List.push_toArray, List.append_toArray, List.nil_append, List.cons_append]
  rw [hX] at cS fS x0 x1 hY
  have hgf : f = false → g = false := fun h => by rw [hg, h]; rfl
  have hgt : f = true → g = lq := fun h => by rw [hg, h]; rfl
  cases f
  · have := hgf rfl
    subst this
    clear hg hgf hgt
    gi_wp2
    rw [← hY]
    clear cS fS x0 x1 hY hX
    gi_loopw [5] (fun iv wr => iv = .int .i64 0 ∧ wr = Y) (fun iv _ => 0)
    case atStart => exact ⟨rfl, rfl⟩
    case round =>
      obtain ⟨rfl, rfl⟩ := hrel
      have s0 : wr.cell? ⟨sb, 0, none⟩ = some (.bool false) := cells_at HV.out.flag rfl
      have HE : Hid (∃ Q : List PJ, TP n sb b0 b2 b3 b4 (d + 1) B (W ++ Q) wr ∧ PInv S sb n total ex w0 (Q ++ P) wr ∧ muP Q ≤ Tr.sizes la) := by
        have hv := HV.out
        refine ⟨[], hv.tp.drop, ⟨hv.inv.keep, hv.inv.jobs, ⟨false, hv.flag, ?_⟩, hv.inv.sbn, hv.inv.low, hv.inv.sk⟩, by simp [muP]⟩
        obtain ⟨f', hf', he'⟩ := hv.inv.flag
        rw [hv.flag] at hf'
        cases hf'
        simpa using he'
      clear HV
      gi_wp2
      go_end0
      exact ⟨rfl, HE.out⟩
  · have := hgt rfl
    subst this
    clear hg hgf hgt
    gi_wp2
    rw [← hY]
    clear cS fS x0 x1 hY hX dl
    gi_loopw [5] (fun iv wr => ∃ (i : Nat) (Q : List PJ) (f : Bool), i ≤ N ∧ iv = .int .i64 i ∧ VisP S total ex w0 n sb b0 b2 b3 b4 (d + 1) w.heap.size B W P (.slice aa N ac) (.slice ba M bc) la lb i Q f wr) (fun iv _ => N - (intOf iv).toNat)
    case atStart => exact ⟨0, [], _, Nat.zero_le _, rfl, HV.out⟩
    case round =>
      clear HV
      obtain ⟨i, Q, f, hi, rfl, hv⟩ := hrel
      have s0 : wr.cell? ⟨sb, 0, none⟩ = some (.bool f) := cells_at hv.flag rfl
      have y0 : wr.cell? ⟨w.heap.size, 0, none⟩ = some (.slice aa N ac) := cells_at hv.box rfl
      have y1 : wr.cell? ⟨w.heap.size, 1, none⟩ = some (.slice ba M bc) := cells_at hv.box rfl
      cases f
      · have HE : Hid (∃ Q : List PJ, TP n sb b0 b2 b3 b4 (d + 1) B (W ++ Q) wr ∧ PInv S sb n total ex w0 (Q ++ P) wr ∧ muP Q ≤ Tr.sizes la) := by
          refine ⟨Q, hv.tp.drop, ⟨hv.inv.keep, hv.inv.jobs, ⟨false, hv.flag, ?_⟩, hv.inv.sbn, hv.inv.low, hv.inv.sk⟩, Nat.le_trans hv.mu (sizes_take _ _)⟩
          obtain ⟨f', hf', he'⟩ := hv.inv.flag
          rw [hv.flag] at hf'
          cases hf'
          simpa using he'
        clear hv
        gi_wp2
        go_end0
        exact ⟨rfl, HE.out⟩
      by_cases hlt : i < N
      · have hMN : M = N := by rw [HM.out, HN.out]; exact (hv.len rfl).symm
        obtain ⟨xs, xa, xc, xb, xo, ex', hxv, -, hxa, -, hx⟩ := hv.rows.1.parts
        obtain ⟨ys, ya, yc, yb, yo, ey', hyv, -, hya, -, hy⟩ := hv.rows.2.parts
        have hxaa : aa = xa := by cases hxv; rfl
        have hyaa : ba = ya := by cases hyv; rfl
        subst hxaa
        subst hyaa
        obtain ⟨rfl, hSx⟩ := hxa (by have := HN.out; omega)
        obtain ⟨rfl, hSy⟩ := hya (by have := HM.out; omega)
        have hiM : i < M := by omega
        clear hMN
        have hqx : i < xs.length := by have := HN.out; rw [ex', List.length_map] at this; omega
        have hqy : i < ys.length := by have := HM.out; rw [ey', List.length_map] at this; omega
        obtain ⟨⟨zk, zt, zn, zv, zkids⟩, hzq⟩ : ∃ z, xs[i]? = some z := ⟨xs[i], List.getElem?_eq_getElem hqx⟩
        obtain ⟨⟨uk, ut, un, uv, ukids⟩, huq⟩ : ∃ z, ys[i]? = some z := ⟨ys[i], List.getElem?_eq_getElem hqy⟩
        obtain ⟨-, zr, z0, z1, z2, z3⟩ := hx i _ hzq
        obtain ⟨-, ur, u0, u1, u2, u3⟩ := hy i _ huq
        simp only at z0 z1 z2 z3 zr u0 u1 u2 u3 ur
        obtain ⟨za, zc, hzv⟩ := zr.slice
        subst hzv
        obtain ⟨ua, uc, huv⟩ := ur.slice
        subst huv
        have hlx : la[i]? = some (N1.tr ⟨zk, zt, zn, .slice za zkids.length zc, zkids⟩) := by rw [ex', List.getElem?_map, hzq]; rfl
        have hly : lb[i]? = some (N1.tr ⟨uk, ut, un, .slice ua ukids.length uc, ukids⟩) := by rw [ey', List.getElem?_map, huq]; rfl
        obtain ⟨fe, hfe⟩ : ∃ fe, fe = (zk == uk && zt == ut && zn == un) := ⟨_, rfl⟩
        have HEQ : Hid (Tr.eqbL (la.drop i) (lb.drop i) = ((fe && Tr.eqbL zkids ukids) && Tr.eqbL (la.drop (i + 1)) (lb.drop (i + 1)))) := by
          show Tr.eqbL (la.drop i) (lb.drop i) = _
          rw [Tr.eqbL_drop hlx hly, eqb_mk, hfe]
        have HSZ : Hid (Tr.sizes (la.take (i + 1)) = Tr.sizes (la.take i) + (1 + Tr.sizes zkids) ∧ Tr.sizes zkids < Tr.sizes la ∧ Tr.sizes (la.take i) + Tr.sizes zkids ≤ Tr.sizes la) := by
          have h1 : Tr.sizes (la.take (i + 1)) = Tr.sizes (la.take i) + Tr.size (N1.tr ⟨zk, zt, zn, .slice za zkids.length zc, zkids⟩) := by
            rw [List.take_add_one, hlx, Tr.sizes_append]; simp [Tr.sizes_cons, Tr.sizes_nil]
          have h2 : Tr.size (N1.tr ⟨zk, zt, zn, .slice za zkids.length zc, zkids⟩) = 1 + Tr.sizes zkids := Tr.size_eq _
          have h3 := sizes_take la (i + 1)
          refine ⟨by rw [h1, h2], by omega, by omega⟩
        have HZR : Hid (RowR S wr (.slice za zkids.length zc) zkids ∧ RowR S wr (.slice ua ukids.length uc) ukids) := ⟨zr, ur⟩
        have hSbx : xb < wr.heap.size := by have := (hv.inv.low xb hSx).1; have := hv.tp.nw; omega
        have hSby : yb < wr.heap.size := by have := (hv.inv.low yb hSy).1; have := hv.tp.nw; omega
        have hpbw : w.heap.size < wr.heap.size := (Array.getElem?_eq_some_iff.1 hv.box).1
        have CF : ∀ z, Below wr.heap.size wr z → (z.cell? ⟨xb, xo + i * 4, none⟩ = some (.int .u8 zk) ∧ z.cell? ⟨xb, xo + i * 4 + 1, none⟩ = some (.string (Ln.bs zt)) ∧ z.cell? ⟨xb, xo + i * 4 + 2, none⟩ = some (.int .i64 zn) ∧ z.cell? ⟨xb, xo + i * 4 + 3, none⟩ = some (.slice za zkids.length zc)) ∧ (z.cell? ⟨yb, yo + i * 4, none⟩ = some (.int .u8 uk) ∧ z.cell? ⟨yb, yo + i * 4 + 1, none⟩ = some (.string (Ln.bs ut)) ∧ z.cell? ⟨yb, yo + i * 4 + 2, none⟩ = some (.int .i64 un) ∧ z.cell? ⟨yb, yo + i * 4 + 3, none⟩ = some (.slice ua ukids.length uc)) ∧ z.cell? ⟨w.heap.size, 0, none⟩ = some (.slice (some ⟨xb, xo, none⟩) N ac) ∧ z.cell? ⟨w.heap.size, 1, none⟩ = some (.slice (some ⟨yb, yo, none⟩) M bc) := fun z hz => by
          have tx : ∀ j u, wr.cell? ⟨xb, j, none⟩ = some u → z.cell? ⟨xb, j, none⟩ = some u := fun j u h => (hz.cell (p := ⟨xb, j, none⟩) hSbx).trans h
          have ty : ∀ j u, wr.cell? ⟨yb, j, none⟩ = some u → z.cell? ⟨yb, j, none⟩ = some u := fun j u h => (hz.cell (p := ⟨yb, j, none⟩) hSby).trans h
          exact ⟨⟨tx _ _ z0, tx _ _ z1, tx _ _ z2, tx _ _ z3⟩, ⟨ty _ _ u0, ty _ _ u1, ty _ _ u2, ty _ _ u3⟩, (hz.cell (p := ⟨w.heap.size, 0, none⟩) hpbw).trans y0, (hz.cell (p := ⟨w.heap.size, 1, none⟩) hpbw).trans y1⟩
        have HCF : Hid (_) := CF
        have hbd : Below wr.heap.size wr wr.drew := below_draw wr 1
        have HV1 : Hid (VisP S total ex w0 n sb b0 b2 b3 b4 (d + 1) w.heap.size B W P (.slice (some ⟨xb, xo, none⟩) N ac) (.slice (some ⟨yb, yo, none⟩) M bc) la lb i Q true wr) := hv
        have HXY : Hid (fe = (zk == uk && zt == ut && zn == un)) := hfe
        clear hv hx hy hzq huq hlx hly ex' ey' hxv hyv hxa hya CF z0 z1 z2 z3 u0 u1 u2 u3 zr ur hfe hSx hSy hqx hqy
        gi_wp2
        refine region_lex (fun z => Below wr.heap.size wr z) 10 4 rfl (by kernel_rfl) (by kernel_rfl) (by kernel_rfl) (by kernel_rfl) (fun _ _ d _ _ h => by cases d <;> exact h) hbd ?_
        simp only [List.take_succ_cons, List.take_zero]
        iterate 10 (first
          | (apply lexC_want
             · rfl
             · exact fun _ => rfl
             · (intro w' hw'; obtain ⟨⟨a0, a1, a2, a3⟩, ⟨b0, b1, b2, b3⟩, m0, m1⟩ := HCF.out w' hw'; go_simp; try rfl)
             simp only [Act.put, List.setIfInBounds_toArray, List.set_cons_zero, List.set_cons_succ]))
        refine lexC_nil ?_
        refine anyC_two (i := 10) (j := 11) (by kernel_rfl) rfl rfl (by rfl) (by rfl) (fun K1 hK1 => ?_) (fun K1 hK1 => ?_)
        · go_simp
          refine hK1 _ _ (below_then hbd (below_new _ _)) ?_
          clear hK1
          refine anyC_one (i := 11) (by kernel_rfl) rfl (by rfl) (fun K2 hK2 => ?_)
          go_simp
          obtain ⟨G, hG⟩ : ∃ G, G = ((wr.alloc (.cells #[.int .u8 0, .string ⟨#[]⟩, .int .i64 0, .slice none 0 0] 26)).alloc (.cells #[.int .u8 0, .string ⟨#[]⟩, .int .i64 0, .slice none 0 0] 26)).drew := ⟨_, rfl⟩
          rw [← hG]
          have bG : Below wr.heap.size wr G := by rw [hG]; exact below_then (below_then (below_new _ _) (below_new _ _)) (below_draw _ 1)
          have sG : G.heap.size = wr.heap.size + 1 + 1 := by rw [hG]; show ((wr.alloc _).alloc _).heap.size = _; rw [World.size_alloc, World.size_alloc]
          have g6 : G.heap[wr.heap.size]? = some (.cells #[.int .u8 0, .string ⟨#[]⟩, .int .i64 0, .slice none 0 0] 26 (0, 0)) := by rw [hG]; exact ((below_new (wr.alloc _) _).block _ (by rw [World.size_alloc]; omega)).trans (World.alloc_heap_new wr _)
          have g7 : G.heap[wr.heap.size + 1]? = some (.cells #[.int .u8 0, .string ⟨#[]⟩, .int .i64 0, .slice none 0 0] 26 (0, 0)) := by
            have := World.alloc_heap_new (wr.alloc (.cells #[.int .u8 0, .string ⟨#[]⟩, .int .i64 0, .slice none 0 0] 26)) (.cells #[.int .u8 0, .string ⟨#[]⟩, .int .i64 0, .slice none 0 0] 26)
            rw [World.size_alloc] at this
            rw [hG]; exact this
          have k60 : G.cell? ⟨wr.heap.size, 0, none⟩ = some (.int .u8 0) := cells_at g6 rfl
          have k61 : G.cell? ⟨wr.heap.size, 1, none⟩ = some (.string ⟨#[]⟩) := cells_at g6 rfl
          have k62 : G.cell? ⟨wr.heap.size, 2, none⟩ = some (.int .i64 0) := cells_at g6 rfl
          have k63 : G.cell? ⟨wr.heap.size, 3, none⟩ = some (.slice none 0 0) := cells_at g6 rfl
          have ff6 : ∀ j, G.frozen? ⟨wr.heap.size, j, none⟩ = false := fun j => frozen_of_row G _ j _ _ g6
          refine hK2 _ _ bG ?_
          clear hK2 hG
          refine anyC_one (i := 12) (by kernel_rfl) rfl (by rfl) (fun K3 hK3 => ?_)
          go_simp
          obtain ⟨F1, hF1⟩ : ∃ F, F = (((G.setCell ⟨wr.heap.size, 0, none⟩ (.int .u8 zk)).setCell ⟨wr.heap.size, 1, none⟩ (.string (Ln.bs zt))).setCell ⟨wr.heap.size, 2, none⟩ (.int .i64 zn)).setCell ⟨wr.heap.size, 3, none⟩ (.slice za zkids.length zc) := ⟨_, rfl⟩
          rw [← hF1]
          have e61 := four_keep G _ _ _ _ _ F1 hF1
          have q61 : F1.heap[wr.heap.size]? = some (.cells #[.int .u8 zk, .string (Ln.bs zt), .int .i64 zn, .slice za zkids.length zc] 26 (0, 0)) := by rw [hF1]; exact four_cells g6 _ _ _ _
          have q71 : F1.heap[wr.heap.size + 1]? = some (.cells #[.int .u8 0, .string ⟨#[]⟩, .int .i64 0, .slice none 0 0] 26 (0, 0)) := (e61.2.2 _ (by omega)).trans g7
          have bF1 : Below wr.heap.size wr F1 := bG.trans (e61.1.mono (by omega))
          have k70 : F1.cell? ⟨wr.heap.size + 1, 0, none⟩ = some (.int .u8 0) := cells_at q71 rfl
          have k71 : F1.cell? ⟨wr.heap.size + 1, 1, none⟩ = some (.string ⟨#[]⟩) := cells_at q71 rfl
          have k72 : F1.cell? ⟨wr.heap.size + 1, 2, none⟩ = some (.int .i64 0) := cells_at q71 rfl
          have k73 : F1.cell? ⟨wr.heap.size + 1, 3, none⟩ = some (.slice none 0 0) := cells_at q71 rfl
          have ff7 : ∀ j, F1.frozen? ⟨wr.heap.size + 1, j, none⟩ = false := fun j => frozen_of_row F1 _ j _ _ q71
          refine hK3 _ _ bF1 ?_
          clear hK3 hF1 k60 k61 k62 k63 ff6
          refine anyC_one (i := 13) (by kernel_rfl) rfl (by rfl) (fun K4 hK4 => ?_)
          go_simp
          obtain ⟨F, hF⟩ : ∃ F, F = (((F1.setCell ⟨wr.heap.size + 1, 0, none⟩ (.int .u8 uk)).setCell ⟨wr.heap.size + 1, 1, none⟩ (.string (Ln.bs ut))).setCell ⟨wr.heap.size + 1, 2, none⟩ (.int .i64 un)).setCell ⟨wr.heap.size + 1, 3, none⟩ (.slice ua ukids.length uc) := ⟨_, rfl⟩
          rw [← hF]
          have e71 := four_keep F1 _ _ _ _ _ F hF
          have q7 : F.heap[wr.heap.size + 1]? = some (.cells #[.int .u8 uk, .string (Ln.bs ut), .int .i64 un, .slice ua ukids.length uc] 26 (0, 0)) := by rw [hF]; exact four_cells q71 _ _ _ _
          have q6 : F.heap[wr.heap.size]? = some (.cells #[.int .u8 zk, .string (Ln.bs zt), .int .i64 zn, .slice za zkids.length zc] 26 (0, 0)) := (e71.2.2 _ (by omega)).trans q61
          have bF : Below wr.heap.size wr F := bF1.trans (e71.1.mono (by omega))
          have HQ67 : Hid (F.heap[wr.heap.size]? = some (.cells #[.int .u8 zk, .string (Ln.bs zt), .int .i64 zn, .slice za zkids.length zc] 26 (0, 0)) ∧ F.heap[wr.heap.size + 1]? = some (.cells #[.int .u8 uk, .string (Ln.bs ut), .int .i64 un, .slice ua ukids.length uc] 26 (0, 0)) ∧ Below wr.heap.size wr F) := ⟨q6, q7, bF⟩
          refine hK4 _ _ bF ?_
          clear hK4 hF e61 q61 q71 bF1 e71 k70 k71 k72 k73 ff7 bG sG g6 g7
          refine anyC_done (by kernel_rfl) ?_
          have c60 : F.cell? ⟨wr.heap.size, 0, none⟩ = some (.int .u8 zk) := cells_at q6 rfl
          have c61 : F.cell? ⟨wr.heap.size, 1, none⟩ = some (.string (Ln.bs zt)) := cells_at q6 rfl
          have c62 : F.cell? ⟨wr.heap.size, 2, none⟩ = some (.int .i64 zn) := cells_at q6 rfl
          have c70 : F.cell? ⟨wr.heap.size + 1, 0, none⟩ = some (.int .u8 uk) := cells_at q7 rfl
          have c71 : F.cell? ⟨wr.heap.size + 1, 1, none⟩ = some (.string (Ln.bs ut)) := cells_at q7 rfl
          have c72 : F.cell? ⟨wr.heap.size + 1, 2, none⟩ = some (.int .i64 un) := cells_at q7 rfl
          have hfF : F.heap[sb]? = some (.cells #[.bool true] 4 (0, 0)) := (bF.block sb (Array.getElem?_eq_some_iff.1 HV1.out.flag).1).trans HV1.out.flag
          have cSF : F.cell? ⟨sb, 0, none⟩ = some (.bool true) := cells_at hfF rfl
          have fSF : F.frozen? ⟨sb, 0, none⟩ = false := frozen_of_row F sb 0 _ _ hfF
          have hnwr : n ≤ wr.heap.size := HV1.out.tp.nw
          have hsbn : sb < n := HV1.out.inv.sbn
          obtain ⟨Z, hZ⟩ : ∃ Z, Z = F.setCell ⟨sb, 0, none⟩ (.bool fe) := ⟨_, rfl⟩
          have tpF := HV1.out.tp.of_below bF
          have invF := HV1.out.inv.stab (KeepQ.of_below bF hnwr)
          have z63 : Z.cell? ⟨wr.heap.size, 3, none⟩ = some (.slice za zkids.length zc) := cells_at (by rw [hZ, set_other (by omega)]; exact q6) rfl
          have z73 : Z.cell? ⟨wr.heap.size + 1, 3, none⟩ = some (.slice ua ukids.length uc) := cells_at (by rw [hZ, set_other (by omega)]; exact q7) rfl
          have HZI : Hid (TP n sb b0 b2 b3 b4 (d + 1) ((w.heap.size, .slice (some ⟨xb, xo, none⟩) N ac, .slice (some ⟨yb, yo, none⟩) M bc) :: B) (W ++ Q) Z ∧ PInv S sb n total (Tr.eqbL (la.drop (i + 1)) (lb.drop (i + 1)) && ex) w0 (⟨.slice za zkids.length zc, .slice ua ukids.length uc, zkids, ukids⟩ :: (Q ++ P)) Z ∧ RowR S Z (.slice (some ⟨xb, xo, none⟩) N ac) la ∧ RowR S Z (.slice (some ⟨yb, yo, none⟩) M bc) lb) := by
            have hSl : ∀ b, S b → Z.heap[b]? = F.heap[b]? := fun b hb => by rw [hZ]; exact set_other (invF.low b hb).2
            have hSw : ∀ b, S b → F.heap[b]? = wr.heap[b]? := fun b hb => bF.block b (by have := (invF.low b hb).1; omega)
            refine ⟨by rw [hZ]; exact tpF.setFlag hsbn _, ?_, HV1.out.rows.1.keep (fun b hb => (hSl b hb).trans (hSw b hb)) (fun _ h => h), HV1.out.rows.2.keep (fun b hb => (hSl b hb).trans (hSw b hb)) (fun _ h => h)⟩
            · rw [hZ]
              refine invF.tell fe (fun j hj => ?_) (fun f' hf' => ?_)
              · rcases List.mem_cons.1 hj with rfl | hj
                · exact ⟨HZR.out.1.keep hSw (fun _ h => h), HZR.out.2.keep hSw (fun _ h => h)⟩
                · exact invF.jobs j hj
              · rw [hfF] at hf'
                have : f' = true := by cases hf'; rfl
                subst this
                rw [HEQ.out]
                simp only [allEq, List.all_cons]
                cases fe <;> simp [Bool.and_assoc, Bool.and_comm, Bool.and_left_comm]
          obtain ⟨bk, hbk⟩ : ∃ b, b = (zk == uk) := ⟨_, rfl⟩
          obtain ⟨bt, hbt⟩ : ∃ b, b = (zt == ut) := ⟨_, rfl⟩
          obtain ⟨bn, hbn⟩ : ∃ b, b = (zn == un) := ⟨_, rfl⟩
          have e1 : ((Ln.bs zt).toList == (Ln.bs ut).toList) = (zt == ut) := by rw [Lib.toList_data, Lib.toList_data]; rfl
          have f1 : (zk == uk) = bk := hbk.symm
          have f2 : ((Ln.bs zt).toList == (Ln.bs ut).toList) = bt := e1.trans hbt.symm
          have f3 : (zn == un) = bn := hbn.symm
          have hfe : fe = (bk && bt && bn) := by rw [HXY.out, hbk, hbt, hbn]
          have HC : Hid (_) := HDN.out zkids HSZ.out.2.1 (d + 1) ((w.heap.size, .slice (some ⟨xb, xo, none⟩) N ac, .slice (some ⟨yb, yo, none⟩) M bc) :: B) (Tr.eqbL (la.drop (i + 1)) (lb.drop (i + 1)) && ex) (W ++ Q) (Q ++ P) (.slice za zkids.length zc) (.slice ua ukids.length uc) ukids Z (by omega) (by have h1 := HWl.out; have h2 := HSZ.out.2.2; have h3 := muP_len Q; have h4 := HV1.out.mu; rw [List.length_append]; omega) HZI.out.1 HZI.out.2.1
          have HT : Hid (∀ w2 : World, (∃ Q1 : List PJ, TP n sb b0 b2 b3 b4 (d + 1) ((w.heap.size, .slice (some ⟨xb, xo, none⟩) N ac, .slice (some ⟨yb, yo, none⟩) M bc) :: B) (W ++ Q ++ Q1) w2 ∧ PInv S sb n total (Tr.eqbL (la.drop (i + 1)) (lb.drop (i + 1)) && ex) w0 (Q1 ++ (Q ++ P)) w2 ∧ muP Q1 ≤ (if d + 1 = 40 then Tr.sizes zkids + 1 else Tr.sizes zkids)) → ∃ (Q : List PJ) (f : Bool), VisP S total ex w0 n sb b0 b2 b3 b4 (d + 1) w.heap.size B W P (.slice (some ⟨xb, xo, none⟩) N ac) (.slice (some ⟨yb, yo, none⟩) M bc) la lb (i + 1) Q f w2) := by
            rintro w2 ⟨Q1, t2, i2, m2⟩
            obtain ⟨f2, hf2, he2⟩ := i2.flag
            have i3 := i2.perm (Q := (Q ++ Q1) ++ P) (by rw [← List.append_assoc]; exact List.Perm.append_right _ List.perm_append_comm)
            refine ⟨Q ++ Q1, f2, by rw [← List.append_assoc]; exact t2, i3, ?_, ?_, hf2, fun _ => HV1.out.len rfl⟩
            · exact ⟨HV1.out.rows.1.keep (fun b hb => (i2.sk b hb).trans (HV1.out.inv.sk b hb).symm) (fun _ h => h), HV1.out.rows.2.keep (fun b hb => (i2.sk b hb).trans (HV1.out.inv.sk b hb).symm) (fun _ h => h)⟩
            · have h1 := HSZ.out.1
              have h2 := HV1.out.mu
              rw [muP_append]
              split at m2 <;> omega
          clear hbk hbt hbn e1 HXY HV1 HZR HEQ HCF HSZ tpF invF hfF q6 q7 bF
          rw [hZ] at z63 z73
          have HZ : Hid (Z = F.setCell ⟨sb, 0, none⟩ (.bool fe)) := hZ
          clear hZ
          cases bk
          · have hfe' : fe = false := hfe
            clear hfe
            subst hfe'
            gi_wp2
            rw [← HZ.out]
            refine ⟨trivial, ?_⟩
            refine (callsIn_wide.2 HC.out).mono ?_
            rintro e w2 ⟨rfl, hq⟩
            have HR : Hid (_) := HT.out w2 hq
            clear hq HC HT HZI HQ67 HZ z63 z73 c60 c61 c62 c70 c71 c72 cSF fSF
            gi_wp2
            obtain ⟨Q2, f9, hv9⟩ := HR.out
            refine ⟨⟨i + 1, Q2, f9, by omega, by simp, hv9⟩, by simp [intOf]; omega⟩
          cases bt
          · have hfe' : fe = false := hfe
            clear hfe
            subst hfe'
            gi_wp2
            rw [← HZ.out]
            refine ⟨trivial, ?_⟩
            refine (callsIn_wide.2 HC.out).mono ?_
            rintro e w2 ⟨rfl, hq⟩
            have HR : Hid (_) := HT.out w2 hq
            clear hq HC HT HZI HQ67 HZ z63 z73 c60 c61 c62 c70 c71 c72 cSF fSF
            gi_wp2
            obtain ⟨Q2, f9, hv9⟩ := HR.out
            refine ⟨⟨i + 1, Q2, f9, by omega, by simp, hv9⟩, by simp [intOf]; omega⟩
          cases bn
          · have hfe' : fe = false := hfe
            clear hfe
            subst hfe'
            gi_wp2
            rw [← HZ.out]
            refine ⟨trivial, ?_⟩
            refine (callsIn_wide.2 HC.out).mono ?_
            rintro e w2 ⟨rfl, hq⟩
            have HR : Hid (_) := HT.out w2 hq
            clear hq HC HT HZI HQ67 HZ z63 z73 c60 c61 c62 c70 c71 c72 cSF fSF
            gi_wp2
            obtain ⟨Q2, f9, hv9⟩ := HR.out
            refine ⟨⟨i + 1, Q2, f9, by omega, by simp, hv9⟩, by simp [intOf]; omega⟩
          have hfe' : fe = true := hfe
          clear hfe
          subst hfe'
          gi_wp2
          rw [← HZ.out]
          refine ⟨trivial, ?_⟩
          refine (callsIn_wide.2 HC.out).mono ?_
          rintro e w2 ⟨rfl, hq⟩
          have HR : Hid (_) := HT.out w2 hq
          clear hq HC HT HZI HQ67 HZ z63 z73 c60 c61 c62 c70 c71 c72 cSF fSF
          gi_wp2
          obtain ⟨Q2, f9, hv9⟩ := HR.out
          refine ⟨⟨i + 1, Q2, f9, by omega, by simp, hv9⟩, by simp [intOf]; omega⟩
        · go_simp
          refine hK1 _ _ (below_then hbd (below_new _ _)) ?_
          clear hK1
          refine anyC_one (i := 10) (by kernel_rfl) rfl (by rfl) (fun K2 hK2 => ?_)
          go_simp
          obtain ⟨G, hG⟩ : ∃ G, G = ((wr.alloc (.cells #[.int .u8 0, .string ⟨#[]⟩, .int .i64 0, .slice none 0 0] 26)).alloc (.cells #[.int .u8 0, .string ⟨#[]⟩, .int .i64 0, .slice none 0 0] 26)).drew := ⟨_, rfl⟩
          rw [← hG]
          have bG : Below wr.heap.size wr G := by rw [hG]; exact below_then (below_then (below_new _ _) (below_new _ _)) (below_draw _ 1)
          have sG : G.heap.size = wr.heap.size + 1 + 1 := by rw [hG]; show ((wr.alloc _).alloc _).heap.size = _; rw [World.size_alloc, World.size_alloc]
          have g6 : G.heap[wr.heap.size]? = some (.cells #[.int .u8 0, .string ⟨#[]⟩, .int .i64 0, .slice none 0 0] 26 (0, 0)) := by rw [hG]; exact ((below_new (wr.alloc _) _).block _ (by rw [World.size_alloc]; omega)).trans (World.alloc_heap_new wr _)
          have g7 : G.heap[wr.heap.size + 1]? = some (.cells #[.int .u8 0, .string ⟨#[]⟩, .int .i64 0, .slice none 0 0] 26 (0, 0)) := by
            have := World.alloc_heap_new (wr.alloc (.cells #[.int .u8 0, .string ⟨#[]⟩, .int .i64 0, .slice none 0 0] 26)) (.cells #[.int .u8 0, .string ⟨#[]⟩, .int .i64 0, .slice none 0 0] 26)
            rw [World.size_alloc] at this
            rw [hG]; exact this
          have k60 : G.cell? ⟨wr.heap.size + 1, 0, none⟩ = some (.int .u8 0) := cells_at g7 rfl
          have k61 : G.cell? ⟨wr.heap.size + 1, 1, none⟩ = some (.string ⟨#[]⟩) := cells_at g7 rfl
          have k62 : G.cell? ⟨wr.heap.size + 1, 2, none⟩ = some (.int .i64 0) := cells_at g7 rfl
          have k63 : G.cell? ⟨wr.heap.size + 1, 3, none⟩ = some (.slice none 0 0) := cells_at g7 rfl
          have ff6 : ∀ j, G.frozen? ⟨wr.heap.size + 1, j, none⟩ = false := fun j => frozen_of_row G _ j _ _ g7
          refine hK2 _ _ bG ?_
          clear hK2 hG
          refine anyC_one (i := 12) (by kernel_rfl) rfl (by rfl) (fun K3 hK3 => ?_)
          go_simp
          obtain ⟨F1, hF1⟩ : ∃ F, F = (((G.setCell ⟨wr.heap.size + 1, 0, none⟩ (.int .u8 zk)).setCell ⟨wr.heap.size + 1, 1, none⟩ (.string (Ln.bs zt))).setCell ⟨wr.heap.size + 1, 2, none⟩ (.int .i64 zn)).setCell ⟨wr.heap.size + 1, 3, none⟩ (.slice za zkids.length zc) := ⟨_, rfl⟩
          rw [← hF1]
          have e61 := four_keep G _ _ _ _ _ F1 hF1
          have q61 : F1.heap[wr.heap.size + 1]? = some (.cells #[.int .u8 zk, .string (Ln.bs zt), .int .i64 zn, .slice za zkids.length zc] 26 (0, 0)) := by rw [hF1]; exact four_cells g7 _ _ _ _
          have q71 : F1.heap[wr.heap.size]? = some (.cells #[.int .u8 0, .string ⟨#[]⟩, .int .i64 0, .slice none 0 0] 26 (0, 0)) := (e61.2.2 _ (by omega)).trans g6
          have bF1 : Below wr.heap.size wr F1 := bG.trans (e61.1.mono (by omega))
          have k70 : F1.cell? ⟨wr.heap.size, 0, none⟩ = some (.int .u8 0) := cells_at q71 rfl
          have k71 : F1.cell? ⟨wr.heap.size, 1, none⟩ = some (.string ⟨#[]⟩) := cells_at q71 rfl
          have k72 : F1.cell? ⟨wr.heap.size, 2, none⟩ = some (.int .i64 0) := cells_at q71 rfl
          have k73 : F1.cell? ⟨wr.heap.size, 3, none⟩ = some (.slice none 0 0) := cells_at q71 rfl
          have ff7 : ∀ j, F1.frozen? ⟨wr.heap.size, j, none⟩ = false := fun j => frozen_of_row F1 _ j _ _ q71
          refine hK3 _ _ bF1 ?_
          clear hK3 hF1 k60 k61 k62 k63 ff6
          refine anyC_one (i := 13) (by kernel_rfl) rfl (by rfl) (fun K4 hK4 => ?_)
          go_simp
          obtain ⟨F, hF⟩ : ∃ F, F = (((F1.setCell ⟨wr.heap.size, 0, none⟩ (.int .u8 uk)).setCell ⟨wr.heap.size, 1, none⟩ (.string (Ln.bs ut))).setCell ⟨wr.heap.size, 2, none⟩ (.int .i64 un)).setCell ⟨wr.heap.size, 3, none⟩ (.slice ua ukids.length uc) := ⟨_, rfl⟩
          rw [← hF]
          have e71 := four_keep F1 _ _ _ _ _ F hF
          have q7 : F.heap[wr.heap.size]? = some (.cells #[.int .u8 uk, .string (Ln.bs ut), .int .i64 un, .slice ua ukids.length uc] 26 (0, 0)) := by rw [hF]; exact four_cells q71 _ _ _ _
          have q6 : F.heap[wr.heap.size + 1]? = some (.cells #[.int .u8 zk, .string (Ln.bs zt), .int .i64 zn, .slice za zkids.length zc] 26 (0, 0)) := (e71.2.2 _ (by omega)).trans q61
          have bF : Below wr.heap.size wr F := bF1.trans (e71.1.mono (by omega))
          have HQ67 : Hid (F.heap[wr.heap.size + 1]? = some (.cells #[.int .u8 zk, .string (Ln.bs zt), .int .i64 zn, .slice za zkids.length zc] 26 (0, 0)) ∧ F.heap[wr.heap.size]? = some (.cells #[.int .u8 uk, .string (Ln.bs ut), .int .i64 un, .slice ua ukids.length uc] 26 (0, 0)) ∧ Below wr.heap.size wr F) := ⟨q6, q7, bF⟩
          refine hK4 _ _ bF ?_
          clear hK4 hF e61 q61 q71 bF1 e71 k70 k71 k72 k73 ff7 bG sG g6 g7
          refine anyC_done (by kernel_rfl) ?_
          have c60 : F.cell? ⟨wr.heap.size + 1, 0, none⟩ = some (.int .u8 zk) := cells_at q6 rfl
          have c61 : F.cell? ⟨wr.heap.size + 1, 1, none⟩ = some (.string (Ln.bs zt)) := cells_at q6 rfl
          have c62 : F.cell? ⟨wr.heap.size + 1, 2, none⟩ = some (.int .i64 zn) := cells_at q6 rfl
          have c70 : F.cell? ⟨wr.heap.size, 0, none⟩ = some (.int .u8 uk) := cells_at q7 rfl
          have c71 : F.cell? ⟨wr.heap.size, 1, none⟩ = some (.string (Ln.bs ut)) := cells_at q7 rfl
          have c72 : F.cell? ⟨wr.heap.size, 2, none⟩ = some (.int .i64 un) := cells_at q7 rfl
          have hfF : F.heap[sb]? = some (.cells #[.bool true] 4 (0, 0)) := (bF.block sb (Array.getElem?_eq_some_iff.1 HV1.out.flag).1).trans HV1.out.flag
          have cSF : F.cell? ⟨sb, 0, none⟩ = some (.bool true) := cells_at hfF rfl
          have fSF : F.frozen? ⟨sb, 0, none⟩ = false := frozen_of_row F sb 0 _ _ hfF
          have hnwr : n ≤ wr.heap.size := HV1.out.tp.nw
          have hsbn : sb < n := HV1.out.inv.sbn
          obtain ⟨Z, hZ⟩ : ∃ Z, Z = F.setCell ⟨sb, 0, none⟩ (.bool fe) := ⟨_, rfl⟩
          have tpF := HV1.out.tp.of_below bF
          have invF := HV1.out.inv.stab (KeepQ.of_below bF hnwr)
          have z63 : Z.cell? ⟨wr.heap.size + 1, 3, none⟩ = some (.slice za zkids.length zc) := cells_at (by rw [hZ, set_other (by omega)]; exact q6) rfl
          have z73 : Z.cell? ⟨wr.heap.size, 3, none⟩ = some (.slice ua ukids.length uc) := cells_at (by rw [hZ, set_other (by omega)]; exact q7) rfl
          have HZI : Hid (TP n sb b0 b2 b3 b4 (d + 1) ((w.heap.size, .slice (some ⟨xb, xo, none⟩) N ac, .slice (some ⟨yb, yo, none⟩) M bc) :: B) (W ++ Q) Z ∧ PInv S sb n total (Tr.eqbL (la.drop (i + 1)) (lb.drop (i + 1)) && ex) w0 (⟨.slice za zkids.length zc, .slice ua ukids.length uc, zkids, ukids⟩ :: (Q ++ P)) Z ∧ RowR S Z (.slice (some ⟨xb, xo, none⟩) N ac) la ∧ RowR S Z (.slice (some ⟨yb, yo, none⟩) M bc) lb) := by
            have hSl : ∀ b, S b → Z.heap[b]? = F.heap[b]? := fun b hb => by rw [hZ]; exact set_other (invF.low b hb).2
            have hSw : ∀ b, S b → F.heap[b]? = wr.heap[b]? := fun b hb => bF.block b (by have := (invF.low b hb).1; omega)
            refine ⟨by rw [hZ]; exact tpF.setFlag hsbn _, ?_, HV1.out.rows.1.keep (fun b hb => (hSl b hb).trans (hSw b hb)) (fun _ h => h), HV1.out.rows.2.keep (fun b hb => (hSl b hb).trans (hSw b hb)) (fun _ h => h)⟩
            · rw [hZ]
              refine invF.tell fe (fun j hj => ?_) (fun f' hf' => ?_)
              · rcases List.mem_cons.1 hj with rfl | hj
                · exact ⟨HZR.out.1.keep hSw (fun _ h => h), HZR.out.2.keep hSw (fun _ h => h)⟩
                · exact invF.jobs j hj
              · rw [hfF] at hf'
                have : f' = true := by cases hf'; rfl
                subst this
                rw [HEQ.out]
                simp only [allEq, List.all_cons]
                cases fe <;> simp [Bool.and_assoc, Bool.and_comm, Bool.and_left_comm]
          obtain ⟨bk, hbk⟩ : ∃ b, b = (zk == uk) := ⟨_, rfl⟩
          obtain ⟨bt, hbt⟩ : ∃ b, b = (zt == ut) := ⟨_, rfl⟩
          obtain ⟨bn, hbn⟩ : ∃ b, b = (zn == un) := ⟨_, rfl⟩
          have e1 : ((Ln.bs zt).toList == (Ln.bs ut).toList) = (zt == ut) := by rw [Lib.toList_data, Lib.toList_data]; rfl
          have f1 : (zk == uk) = bk := hbk.symm
          have f2 : ((Ln.bs zt).toList == (Ln.bs ut).toList) = bt := e1.trans hbt.symm
          have f3 : (zn == un) = bn := hbn.symm
          have hfe : fe = (bk && bt && bn) := by rw [HXY.out, hbk, hbt, hbn]
          have HC : Hid (_) := HDN.out zkids HSZ.out.2.1 (d + 1) ((w.heap.size, .slice (some ⟨xb, xo, none⟩) N ac, .slice (some ⟨yb, yo, none⟩) M bc) :: B) (Tr.eqbL (la.drop (i + 1)) (lb.drop (i + 1)) && ex) (W ++ Q) (Q ++ P) (.slice za zkids.length zc) (.slice ua ukids.length uc) ukids Z (by omega) (by have h1 := HWl.out; have h2 := HSZ.out.2.2; have h3 := muP_len Q; have h4 := HV1.out.mu; rw [List.length_append]; omega) HZI.out.1 HZI.out.2.1
          have HT : Hid (∀ w2 : World, (∃ Q1 : List PJ, TP n sb b0 b2 b3 b4 (d + 1) ((w.heap.size, .slice (some ⟨xb, xo, none⟩) N ac, .slice (some ⟨yb, yo, none⟩) M bc) :: B) (W ++ Q ++ Q1) w2 ∧ PInv S sb n total (Tr.eqbL (la.drop (i + 1)) (lb.drop (i + 1)) && ex) w0 (Q1 ++ (Q ++ P)) w2 ∧ muP Q1 ≤ (if d + 1 = 40 then Tr.sizes zkids + 1 else Tr.sizes zkids)) → ∃ (Q : List PJ) (f : Bool), VisP S total ex w0 n sb b0 b2 b3 b4 (d + 1) w.heap.size B W P (.slice (some ⟨xb, xo, none⟩) N ac) (.slice (some ⟨yb, yo, none⟩) M bc) la lb (i + 1) Q f w2) := by
            rintro w2 ⟨Q1, t2, i2, m2⟩
            obtain ⟨f2, hf2, he2⟩ := i2.flag
            have i3 := i2.perm (Q := (Q ++ Q1) ++ P) (by rw [← List.append_assoc]; exact List.Perm.append_right _ List.perm_append_comm)
            refine ⟨Q ++ Q1, f2, by rw [← List.append_assoc]; exact t2, i3, ?_, ?_, hf2, fun _ => HV1.out.len rfl⟩
            · exact ⟨HV1.out.rows.1.keep (fun b hb => (i2.sk b hb).trans (HV1.out.inv.sk b hb).symm) (fun _ h => h), HV1.out.rows.2.keep (fun b hb => (i2.sk b hb).trans (HV1.out.inv.sk b hb).symm) (fun _ h => h)⟩
            · have h1 := HSZ.out.1
              have h2 := HV1.out.mu
              rw [muP_append]
              split at m2 <;> omega
          clear hbk hbt hbn e1 HXY HV1 HZR HEQ HCF HSZ tpF invF hfF q6 q7 bF
          rw [hZ] at z63 z73
          have HZ : Hid (Z = F.setCell ⟨sb, 0, none⟩ (.bool fe)) := hZ
          clear hZ
          cases bk
          · have hfe' : fe = false := hfe
            clear hfe
            subst hfe'
            gi_wp2
            rw [← HZ.out]
            refine ⟨trivial, ?_⟩
            refine (callsIn_wide.2 HC.out).mono ?_
            rintro e w2 ⟨rfl, hq⟩
            have HR : Hid (_) := HT.out w2 hq
            clear hq HC HT HZI HQ67 HZ z63 z73 c60 c61 c62 c70 c71 c72 cSF fSF
            gi_wp2
            obtain ⟨Q2, f9, hv9⟩ := HR.out
            refine ⟨⟨i + 1, Q2, f9, by omega, by simp, hv9⟩, by simp [intOf]; omega⟩
          cases bt
          · have hfe' : fe = false := hfe
            clear hfe
            subst hfe'
            gi_wp2
            rw [← HZ.out]
            refine ⟨trivial, ?_⟩
            refine (callsIn_wide.2 HC.out).mono ?_
            rintro e w2 ⟨rfl, hq⟩
            have HR : Hid (_) := HT.out w2 hq
            clear hq HC HT HZI HQ67 HZ z63 z73 c60 c61 c62 c70 c71 c72 cSF fSF
            gi_wp2
            obtain ⟨Q2, f9, hv9⟩ := HR.out
            refine ⟨⟨i + 1, Q2, f9, by omega, by simp, hv9⟩, by simp [intOf]; omega⟩
          cases bn
          · have hfe' : fe = false := hfe
            clear hfe
            subst hfe'
            gi_wp2
            rw [← HZ.out]
            refine ⟨trivial, ?_⟩
            refine (callsIn_wide.2 HC.out).mono ?_
            rintro e w2 ⟨rfl, hq⟩
            have HR : Hid (_) := HT.out w2 hq
            clear hq HC HT HZI HQ67 HZ z63 z73 c60 c61 c62 c70 c71 c72 cSF fSF
            gi_wp2
            obtain ⟨Q2, f9, hv9⟩ := HR.out
            refine ⟨⟨i + 1, Q2, f9, by omega, by simp, hv9⟩, by simp [intOf]; omega⟩
          have hfe' : fe = true := hfe
          clear hfe
          subst hfe'
          gi_wp2
          rw [← HZ.out]
          refine ⟨trivial, ?_⟩
          refine (callsIn_wide.2 HC.out).mono ?_
          rintro e w2 ⟨rfl, hq⟩
          have HR : Hid (_) := HT.out w2 hq
          clear hq HC HT HZI HQ67 HZ z63 z73 c60 c61 c62 c70 c71 c72 cSF fSF
          gi_wp2
          obtain ⟨Q2, f9, hv9⟩ := HR.out
          refine ⟨⟨i + 1, Q2, f9, by omega, by simp, hv9⟩, by simp [intOf]; omega⟩
      · have hiN : i = N := by omega
        subst hiN
        have HE : Hid (∃ Q : List PJ, TP n sb b0 b2 b3 b4 (d + 1) B (W ++ Q) wr ∧ PInv S sb n total ex w0 (Q ++ P) wr ∧ muP Q ≤ Tr.sizes la) := by
          refine ⟨Q, hv.tp.drop, ⟨hv.inv.keep, hv.inv.jobs, ⟨true, hv.flag, ?_⟩, hv.inv.sbn, hv.inv.low, hv.inv.sk⟩, Nat.le_trans hv.mu (sizes_take _ _)⟩
          obtain ⟨f', hf', he'⟩ := hv.inv.flag
          rw [hv.flag] at hf'
          cases hf'
          have hln := hv.len rfl
          rw [List.drop_eq_nil_of_le (by have := HN.out; omega), List.drop_eq_nil_of_le (by have := HN.out; omega)] at he'
          simpa [Tr.eqbL] using he'
        clear hv
        gi_wp2
        go_end0
        exact ⟨rfl, HE.out⟩
end Go.Proofs.YtdaaecnmllpgdaaGreatDoor
