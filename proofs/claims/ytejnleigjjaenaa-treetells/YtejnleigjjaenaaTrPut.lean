/-
  The walk of tree.Put.
-/
import Derived.Test.YtejnleigjjaenaaTrRight2
namespace Go.Proofs.Ytejnleigjjaenaa
open Go.RowKit Go.Shelf

attribute [local go_sem] Oper.semAt_some

namespace Tr
theorem sizes_set : ∀ (l : List Tr) (q : Nat) (y z : Tr), l[q]? = some y → sizes (l.set q z) + size y = sizes l + size z
  | [], q, _, _, h => by simp at h
  | x :: l, 0, y, z, h => by
    simp at h; subst h
    simp [List.set_cons_zero, sizes_cons]; omega
  | x :: l, q + 1, y, z, h => by
    have := sizes_set l q y z (by simpa using h)
    rw [List.set_cons_succ, sizes_cons, sizes_cons]; omega
theorem texts_set : ∀ (l : List Tr) (q : Nat) (z : Tr), ∀ s ∈ textsL (l.set q z), s ∈ textsL l ∨ s ∈ texts z
  | [], _, _, s, h => by simp [textsL_nil] at h
  | x :: l, 0, z, s, h => by
    rw [List.set_cons_zero, textsL_cons, List.mem_append] at h
    rcases h with h | h
    · exact .inr h
    · exact .inl (by rw [textsL_cons, List.mem_append]; exact .inr h)
  | x :: l, q + 1, z, s, h => by
    rw [List.set_cons_succ, textsL_cons, List.mem_append] at h
    rcases h with h | h
    · exact .inl (by rw [textsL_cons, List.mem_append]; exact .inl h)
    · rcases texts_set l q z s h with h | h
      · exact .inl (by rw [textsL_cons, List.mem_append]; exact .inr h)
      · exact .inr h
theorem put_bd (y : Tr) : ∀ (p : List Int) (x z : Tr), put y p x = some z → size z ≤ size x + size y ∧ ∀ s ∈ texts z, s ∈ texts x ∨ s ∈ texts y
  | [], x, z, h => by
    have e : z = y := (Option.some.inj h).symm
    subst e
    exact ⟨by omega, fun s hs => .inr hs⟩
  | i :: p, x, z, h => by
    by_cases hi : 0 ≤ i ∧ i < x.kids.length
    · obtain ⟨q, rfl⟩ : ∃ q : Nat, i = q := ⟨i.toNat, by omega⟩
      have hq : q < x.kids.length := by omega
      rw [put_in (List.getElem?_eq_getElem hq)] at h
      obtain ⟨u, hu, rfl⟩ := Option.map_eq_some_iff.1 h
      have ih := put_bd y p _ u hu
      have hs := sizes_set x.kids q _ u (List.getElem?_eq_getElem hq)
      refine ⟨?_, fun s hs' => ?_⟩
      · rw [size_eq, size_eq x]
        show 1 + sizes (x.kids.set q u) ≤ _
        omega
      · rw [texts_eq] at hs'
        rcases List.mem_cons.1 hs' with e | hs'
        · exact .inl (by rw [texts_eq, e]; exact List.mem_cons_self)
        · rcases texts_set x.kids q u s hs' with h1 | h1
          · exact .inl (by rw [texts_eq]; exact List.mem_cons_of_mem _ h1)
          · rcases ih.2 s h1 with h2 | h2
            · exact .inl (by rw [texts_eq]; exact List.mem_cons_of_mem _ (textsL_mem (List.getElem_mem hq) s h2))
            · exact .inr h2
    · rw [put_out hi] at h; cases h
theorem Bd.put {x y z : Tr} {p : List Int} (h : put y p x = some z) (hx : Bd [x, y]) : Bd [z] := by
  have := put_bd y p x z h
  refine ⟨?_, fun s hs => ?_⟩
  · have h1 := hx.1
    simp only [sizes_cons, sizes_nil] at h1 ⊢
    omega
  · have hs' : s ∈ texts z := by simpa [textsL_cons, textsL_nil] using hs
    refine hx.2 s ?_
    simp only [textsL_cons, textsL_nil, List.append_nil, List.mem_append]
    exact this.2 s hs'
/-- What Put tells. -/
def putRes (o : Option Tr) : Int × Tr := match o with | none => (6, zero) | some z => if right 40 z then (0, z) else (4, zero)
end Tr

/-- Rows that were handed in, or are of the call's own, but none of its boxes. -/
def SP (w0 w : World) (b : Nat) : Prop := b < w0.heap.size ∨ w0.heap.size + 2 < b ∧ b < w.heap.size

/-- Whatever is laid into the place, the whole reads as C of it. -/
def HoleR (w0 w : World) (hb ho : Nat) (C : Tr → Tr) : Prop :=
  ∀ (w' : World) (x : N1) (c c' : Array Value), w.heap.size ≤ w'.heap.size → (∀ b, b ≠ hb → b < w.heap.size → w'.heap[b]? = w.heap[b]?) →
    w.heap[hb]? = some (.cells c 25 (0, 0)) → w'.heap[hb]? = some (.cells c' 25 (0, 0)) → (∀ j, j < ho ∨ ho + 4 ≤ j → c'[j]? = c[j]?) → (∀ j, j < 4 → c'[ho + j]? = x.cells[j]?) →
    x.Fit → RowR (SP w0 w') w' x.v x.kids →
    ∃ y : N1, w'.heap[w0.heap.size]? = some (.cells #[.int .u8 y.k, .string (Ln.bs y.t), .int .i64 y.n, y.v] 25 (0, 0)) ∧ y.tr = C x.tr ∧ y.Fit ∧ RowR (SP w0 w') w' y.v y.kids

structure PutAt (w0 : World) (kid t : Tr) (kc : Array Value) (T : List Int) (i : Nat) (hb ho : Nat) (w : World) (y : N1) (C : Tr → Tr) : Prop where
  below : Below w0.heap.size w0 w
  kidB : w.heap[w0.heap.size + 1]? = some (.cells kc 25 (0, 0))
  resB : w.heap[w0.heap.size + 2]? = some (.cells #[.int .u8 0, .string ⟨#[]⟩, .int .i64 0, .slice none 0 0] 25 (0, 0))
  hole : HoleR w0 w hb ho C
  cells : ∃ c, w.heap[hb]? = some (.cells c 25 (0, 0)) ∧ ∀ j, j < 4 → c[ho + j]? = y.cells[j]?
  hbr : hb = w0.heap.size ∧ ho = 0 ∨ w0.heap.size + 2 < hb
  fit : y.Fit
  row : RowR (lowS w0.heap.size) w0 y.v y.kids
  bd : Tr.Bd [y.tr]
  to : Tr.put kid T t = (Tr.put kid (T.drop i) y.tr).map C

theorem hole_root {w0 w : World} {y : N1} (hn : w.heap[w0.heap.size]? = some (.cells #[.int .u8 y.k, .string (Ln.bs y.t), .int .i64 y.n, y.v] 25 (0, 0))) : HoleR w0 w w0.heap.size 0 id := by
  intro w' x c c' _ _ h1 h2 h3 h4 hf hr
  rw [hn] at h1
  cases h1
  refine ⟨x, ?_, rfl, hf, hr⟩
  rw [h2]
  congr 2
  apply Array.ext_getElem?
  intro j
  by_cases hj : j < 4
  · have := h4 j hj
    rw [Nat.zero_add] at this
    rw [this]
    match j, hj with
    | 0, _ => rfl
    | 1, _ => rfl
    | 2, _ => rfl
    | 3, _ => rfl
  · rw [h3 j (.inr (by omega)), Array.getElem?_eq_none (by simp; omega), Array.getElem?_eq_none (by simp; omega)]

/-- One step down: the Kids are copied, and the place is one of the copy. -/
theorem hole_down {w0 w wz : World} {hb ho q : Nat} {C : Tr → Tr} {y : N1} {c : Array Value} (h : HoleR w0 w hb ho C) (hbw : w.heap[hb]? = some (.cells c 25 (0, 0))) (hcy : ∀ j, j < 4 → c[ho + j]? = y.cells[j]?) (hbr : hb = w0.heap.size ∧ ho = 0 ∨ w0.heap.size + 2 < hb)
    (hw0 : w0.heap.size + 2 < w.heap.size) (hbel : Below w0.heap.size w0 w) (hf : y.Fit) {ys : List N1} (hk : y.kids = ys.map N1.tr) (hys : ∀ z ∈ ys, z.Fit ∧ RowR (lowS w0.heap.size) w0 z.v z.kids) (hl : ys.length ≤ 1000000000000000)
    (hz : Below w.heap.size w wz) {g cap : Nat} {cur : Array Value} (hg : w.heap.size ≤ g) (hgb : wz.heap[g]? = some (.cells cur 25 (0, 0))) (hcap : ys.length ≤ cap) (hcur : ∀ (j : Nat) (u : Value), (n1Cells ys)[j]? = some u → cur[j]? = some u) (hq : q < ys.length) :
    HoleR w0 (wz.setCell ⟨hb, ho + 3, none⟩ (.slice (some ⟨g, 0, none⟩) ys.length cap)) g (q * 4) (fun z => C (.mk y.k y.t y.n (y.kids.set q z))) := by
  intro w' x d d' hsz hsame h1 h2 h3 h4 hxf hxr
  have hblt := (Array.getElem?_eq_some_iff.1 hbw).1
  have hbz : wz.heap[hb]? = some (.cells c 25 (0, 0)) := (hz.block hb hblt).trans hbw
  obtain ⟨W, hW⟩ : ∃ W, W = wz.setCell ⟨hb, ho + 3, none⟩ (.slice (some ⟨g, 0, none⟩) ys.length cap) := ⟨_, rfl⟩
  rw [← hW] at hsz hsame h1
  have hsW : W.heap.size = wz.heap.size := by rw [hW, setCell_size]
  have hgb' : g ≠ hb := by omega
  have hWg : W.heap[g]? = some (.cells cur 25 (0, 0)) := by rw [hW]; exact (set_other hgb').trans hgb
  have hWb : W.heap[hb]? = some (.cells (c.setIfInBounds (ho + 3) (.slice (some ⟨g, 0, none⟩) ys.length cap)) 25 (0, 0)) := by rw [hW]; exact heap_setCell_same wz hb _ _ _ _ hbz
  rw [hWg] at h1
  cases h1
  have hglt := (Array.getElem?_eq_some_iff.1 h2).1
  have hWlt : hb < W.heap.size := (Array.getElem?_eq_some_iff.1 hWb).1
  have hlow : ∀ b, b < w0.heap.size → w'.heap[b]? = w0.heap[b]? := fun b hb0 => by
    rw [hsame b (by omega) (by rw [hsW]; have := hz.size; omega)]
    rw [hW, set_other (by rcases hbr with h | h <;> omega), hz.block b (by omega)]
    exact hbel.block b hb0
  have c3 : ho + 3 < c.size := by
    have := hcy 3 (by omega)
    exact (Array.getElem?_eq_some_iff.1 (this.trans rfl)).1
  have hcell : ∀ (j : Nat), j < 4 → ((c.setIfInBounds (ho + 3) (.slice (some ⟨g, 0, none⟩) ys.length cap)))[ho + j]? = (N1.cells ⟨y.k, y.t, y.n, .slice (some ⟨g, 0, none⟩) ys.length cap, y.kids.set q x.tr⟩)[j]? := fun j hj => by
    rw [Array.getElem?_setIfInBounds]
    match j, hj with
    | 0, _ => rw [if_neg (by omega)]; exact hcy 0 (by omega)
    | 1, _ => rw [if_neg (by omega)]; exact hcy 1 (by omega)
    | 2, _ => rw [if_neg (by omega)]; exact hcy 2 (by omega)
    | 3, _ => rw [if_pos rfl, if_pos c3]; rfl
  refine h w' ⟨y.k, y.t, y.n, .slice (some ⟨g, 0, none⟩) ys.length cap, y.kids.set q x.tr⟩ c _ (by have := hz.size; omega) (fun b hb1 hb2 => ?_) hbw ((hsame hb (Ne.symm hgb') hWlt).trans hWb) (fun j hj => ?_) hcell hf ?_
  · rw [hsame b (by omega) (by rw [hsW]; have := hz.size; omega), hW, set_other hb1, hz.block b hb2]
  · rw [Array.getElem?_setIfInBounds, if_neg (by omega)]
  · refine .mk (ys.set q x) ?_ ⟨some ⟨g, 0, none⟩, cap, g, 0, by rw [List.length_set], ⟨by rw [List.length_set]; exact hcap, fun e => by cases e⟩, fun _ => ⟨rfl, .inr ⟨by omega, hglt⟩⟩, fun j u hu => ?_⟩ (by rw [List.length_set]; exact hl) (fun z hz' => ?_) (fun z hz' => ?_)
    · show y.kids.set q x.tr = _
      rw [hk, List.map_set]
    · rw [Nat.zero_add, Lib.cell_of_heap h2]
      have hjl : j < (n1Cells (ys.set q x)).length := (List.getElem?_eq_some_iff.1 hu).1
      rw [n1Cells_len, List.length_set] at hjl
      have hd : j / 4 < ys.length := by omega
      have hm : j = j / 4 * 4 + j % 4 := by omega
      by_cases he : j / 4 = q
      · have hset : (ys.set q x)[j / 4]? = some x := by rw [he, List.getElem?_set_self hq]
        rw [hm, n1Cells_at hset (j % 4) (by omega)] at hu
        have := h4 (j % 4) (by omega)
        rw [hu, ← he, ← hm] at this
        exact this
      · have hset : (ys.set q x)[j / 4]? = some ys[j / 4] := by rw [List.getElem?_set_ne (Ne.symm he), List.getElem?_eq_getElem hd]
        rw [hm, n1Cells_at hset (j % 4) (by omega)] at hu
        rw [h3 j (by omega)]
        refine hcur j u ?_
        rw [hm, n1Cells_at (List.getElem?_eq_getElem hd) (j % 4) (by omega)]
        exact hu
    · rcases List.mem_or_eq_of_mem_set hz' with h9 | rfl
      · exact (hys z h9).1
      · exact hxf
    · rcases List.mem_or_eq_of_mem_set hz' with h9 | rfl
      · exact (hys z h9).2.keep (fun b hb9 => hlow b hb9) (fun b hb9 => .inl hb9)
      · exact hxr

end Go.Proofs.Ytejnleigjjaenaa
