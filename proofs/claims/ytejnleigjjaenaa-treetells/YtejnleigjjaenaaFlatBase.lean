/-
  What the flat functions (do lists lie apart?) rest on: rows in memory of their own, written to, appended to; the others stay.
-/
import Derived.Test.YtejnleigjjaenaaAppend
namespace Go.Proofs.Ytejnleigjjaenaa
open Go.RowKit

/-- append: in the row's own block, where there is room; else in a new one, and all stays. -/
theorem app_two {P : Program} (W : World) (B : Nat) (t e : TypeId) (i : TypeInfo) (z : Value) (size bytes : Nat) (ht : P.underlying t = some (.slice e)) (hi : P.info? e = some i) (hz : i.zero = some z) (hsize : i.size = size) (hby : i.bytes = bytes) (hzs : z.cells.size = size) (hsz : 0 < size)
    (v : Value) (n : Nat) (xs : List Value) (hown : W.ownsRow B e size v n xs) (a : Addr) (m c : Nat) (news : List Value) (hl : news.length = m * size) (hnews : ∀ j u, news[j]? = some u → W.cell? (a.add j) = some u) (h1 : ∀ u ∈ news, u.oneCell' = true)
    (h63 : n + m ≤ maxLen) (hbytes : (n + m) * bytes ≤ 140737488355328) :
    ∃ v' W', (Builtin.append_ #[t, t] t #[v, .slice (some a) m c]).run P W = .ok v' W' ∧
      ((∃ g cap, v = .slice (some ⟨g, 0, none⟩) n cap ∧ v' = .slice (some ⟨g, 0, none⟩) (n + m) cap ∧ W'.ownsRow B e size v' (n + m) (xs ++ news) ∧ W.grownBy W' (some g)) ∨
       (W'.ownsRow W.heap.size e size v' (n + m) (xs ++ news) ∧ Below W.heap.size W W')) := by
  rcases hown.2 with ⟨rfl, rfl⟩ | ⟨g, cap, cur, rfl, hbg, hg, hnc, hcm, hcs, htake⟩
  · have hx : xs = [] := List.eq_nil_of_length_eq_zero (by simpa using hown.1)
    subst hx
    obtain ⟨v', W', r1, r2, r3, -⟩ := run_append_own (P := P) W W.heap.size t t e i z size bytes ht hi hz hsize hby hzs hsz _ 0 [] (World.ownsRow_nil W _ e size) a m c news hl hnews h1 h63 hbytes (Nat.le_refl _)
    exact ⟨v', W', r1, .inr ⟨r2, r3.os, r3.tape, r3.output, r3.size, fun k hk => r3.block k hk (by simp [Value.ownBlock])⟩⟩
  · by_cases hroom : n + m ≤ cap
    · obtain ⟨W', r1, r2, r3⟩ := run_append_fits (P := P) W B t t e i size ht hi hsize g n cap xs hown a m c news hl hnews h1 hroom
      exact ⟨_, W', r1, .inl ⟨g, cap, rfl, rfl, r2, r3⟩⟩
    · have hr := run_append_grow (P := P) W t t e i z ht hi hz ⟨g, 0, none⟩ n cap xs (by rw [hsize]; exact hown.1) (hown.cells (g := g) rfl) a m c news (by rw [hsize]; exact hl) hnews (by omega) (by unfold maxLen at h63; omega) (by rw [hby]; exact growslice_fits (by omega) hbytes)
      obtain ⟨v', W', r1, r2, r3, -⟩ := run_append_own (P := P) W B t t e i z size bytes ht hi hz hsize hby hzs hsz _ n xs hown a m c news hl hnews h1 h63 hbytes (Nat.le_trans hbg (Nat.le_of_lt (Array.getElem?_eq_some_iff.1 hg).1))
      rw [hr] at r1
      injection r1 with e1 e2
      subst e1 e2
      refine ⟨_, _, hr, .inr ⟨⟨r2.1, ?_⟩, (below_drewN (Below.refl _ W) 1).alloc (Nat.le_refl _) _⟩⟩
      rcases r2.2 with ⟨h0, _⟩ | ⟨g', cap', cur', he, q⟩
      · cases h0
      · have hgg : g' = W.heap.size := by
          injection he with he _ _
          injection he with he
          injection he with he _ _
          exact he.symm
        exact .inr ⟨g', cap', cur', he, by omega, q.2⟩

/-- The first n of a row that is owned. -/
theorem owns_front {W : World} {base e size g n cap k : Nat} {xs : List Value} (h : W.ownsRow base e size (.slice (some ⟨g, 0, none⟩) n cap) n xs) (hk : k ≤ n) : W.ownsRow base e size (.slice (some ⟨g, 0, none⟩) k cap) k (xs.take (k * size)) := by
  have hl := h.1
  have hle : k * size ≤ n * size := Nat.mul_le_mul_right _ hk
  rcases h.2 with ⟨e1, _⟩ | ⟨g', cap', cur, e1, hb, hg, hnc, hcm, hcs, ht⟩
  · cases e1
  · injection e1 with e1 _ e3
    injection e1 with e1
    injection e1 with e1 _ _
    subst e1 e3
    refine ⟨by rw [List.length_take]; omega, .inr ⟨g, cap, cur, rfl, hb, hg, by omega, hcm, hcs, ?_⟩⟩
    rw [← ht, List.take_take]
    congr 1
    omega

/-- The cells of the first n marks of list k. -/
def mks (mc : Nat → Nat → List Value) (k n : Nat) : List Value := (List.range n).flatMap (mc k)
theorem mks_succ (mc : Nat → Nat → List Value) (k n : Nat) : mks mc k (n + 1) = mks mc k n ++ mc k n := by simp [mks, List.range_succ]
theorem mks_zero (mc : Nat → Nat → List Value) (k : Nat) : mks mc k 0 = [] := rfl

/-- What lay below n, and all that does not hold elements of type e, is as it was. -/
def KeepT (e : TypeId) (n : Nat) (W W' : World) : Prop := Below n W W' ∧ ∀ (k : Nat) (c : Array Value) (t : TypeId) (fr : Nat × Nat), W.heap[k]? = some (.cells c t fr) → t ≠ e → W'.heap[k]? = some (.cells c t fr)
theorem KeepT.refl (e : TypeId) (n : Nat) (W : World) : KeepT e n W W := ⟨Below.refl _ _, fun _ _ _ _ h _ => h⟩
theorem KeepT.trans {e : TypeId} {n : Nat} {A B C : World} (h : KeepT e n A B) (k : KeepT e n B C) : KeepT e n A C := ⟨h.1.trans k.1, fun j c t fr hj h1 => k.2 j c t fr (h.2 j c t fr hj h1) h1⟩
theorem KeepT.of_below {e : TypeId} {n : Nat} {A B : World} (h : Below A.heap.size A B) (hn : n ≤ A.heap.size) : KeepT e n A B :=
  ⟨h.mono hn, fun j _ _ _ hj _ => (h.block j (Array.getElem?_eq_some_iff.1 hj).1).trans hj⟩
theorem KeepT.owns {e e' : TypeId} {n B k size : Nat} {A C : World} (h : KeepT e n A C) {v : Value} {xs : List Value} (ho : A.ownsRow B e' size v k xs) (h1 : e' ≠ e) : C.ownsRow B e' size v k xs := by
  refine ⟨ho.1, ?_⟩
  rcases ho.2 with h0 | ⟨g, cap, cur, hv, hb, hg, h3⟩
  · exact .inl h0
  · exact .inr ⟨g, cap, cur, hv, hb, h.2 g _ _ _ hg h1, h3⟩
/-- A row's own block was written to. -/
theorem KeepT.of_grown {e : TypeId} {B n size : Nat} {W W' : World} {v : Value} {xs : List Value} (hrow : W.ownsRow B e size v n xs) (hg : W.grownBy W' v.ownBlock) (hn : B ≤ W.heap.size) : KeepT e B W W' := by
  refine ⟨⟨hg.os, hg.tape, hg.output, hg.size, fun k hk => hg.block k (by omega) (fun e => by have := (hrow.lt k e.symm).1; omega)⟩, fun j c t fr hj h1 => ?_⟩
  refine (hg.block j (Array.getElem?_eq_some_iff.1 hj).1 (fun e0 => ?_)).trans hj
  rcases hrow.2 with ⟨rfl, _⟩ | ⟨g, cap, cur, rfl, _, hgb, _⟩
  · cases e0
  · obtain rfl : j = g := by simpa [Value.ownBlock] using e0
    rw [hgb] at hj
    injection hj with hj
    injection hj with _ q _
    exact h1 q.symm

/-- Rows whose blocks are apart. -/
def Apart (R : List (Value × Nat)) : Prop := ∀ (j k : Nat) (p q : Value × Nat), R[j]? = some p → R[k]? = some q → j ≠ k → p.1.ownBlock = none ∨ p.1.ownBlock ≠ q.1.ownBlock
/-- All rows, each in memory of its own, in what f says of its cells. -/
def Own (e size B : Nat) (R : List (Value × Nat)) (W : World) (f : Nat → List Value → Prop) : Prop := ∀ (j : Nat) (p : Value × Nat), R[j]? = some p → ∃ xs, W.ownsRow B e size p.1 p.2 xs ∧ f j xs
theorem Own.below {e size B : Nat} {R : List (Value × Nat)} {W W' : World} {f : Nat → List Value → Prop} (h : Own e size B R W f) (hb : Below W.heap.size W W') : Own e size B R W' f := fun j p hp => by
  obtain ⟨xs, h1, h2⟩ := h j p hp
  exact ⟨xs, owns_below h1 hb, h2⟩
theorem Own.mono {e size B : Nat} {R : List (Value × Nat)} {W : World} {f g : Nat → List Value → Prop} (h : Own e size B R W f) (hfg : ∀ j p xs, R[j]? = some p → xs.length = p.2 * size → f j xs → g j xs) : Own e size B R W g := fun j p hp => by
  obtain ⟨xs, h1, h2⟩ := h j p hp
  exact ⟨xs, h1, hfg j p xs hp h1.1 h2⟩
/-- One row's block was written to: it holds ys now; all others stay. -/
theorem Own.put {e size B : Nat} {R : List (Value × Nat)} {W W' : World} {f g : Nat → List Value → Prop} (h : Own e size B R W f) (hA : Apart R) {k : Nat} {p : Value × Nat} (hp : R[k]? = some p) (hg : W.grownBy W' p.1.ownBlock) {ys : List Value} (hy : W'.ownsRow B e size p.1 p.2 ys) (hfy : g k ys) (hfg : ∀ j xs, j ≠ k → f j xs → g j xs) : Own e size B R W' g := fun j q hq => by
  by_cases hjk : j = k
  · subst hjk
    rw [hp] at hq
    cases hq
    exact ⟨ys, hy, hfy⟩
  · obtain ⟨xs, h1, h2⟩ := h j q hq
    exact ⟨xs, h1.kept hg (hA j k q p hq hp hjk), hfg j xs hjk h2⟩

/-- Where a row that grew out of another one lies: in its block, in a new one, or nowhere yet. -/
def Grew (WK : World) (vk : Value) (nk : Nat) (t : Value) (m : Nat) : Prop := (∃ g cap, vk = .slice (some ⟨g, 0, none⟩) nk cap ∧ t = .slice (some ⟨g, 0, none⟩) m cap) ∨ (∃ b, t.ownBlock = some b ∧ WK.heap.size ≤ b) ∨ t = .slice none 0 0

/-- One append to a row that grew out of another one: that one stays as it was. -/
theorem grow_step {P : Program} (B : Nat) (t e : TypeId) (i : TypeInfo) (z : Value) (size bytes : Nat) (ht : P.underlying t = some (.slice e)) (hi : P.info? e = some i) (hz : i.zero = some z) (hsize : i.size = size) (hby : i.bytes = bytes) (hzs : z.cells.size = size) (hsz : 0 < size)
    {WK W : World} {vk v : Value} {nk n : Nat} {ys xs : List Value} (hown : W.ownsRow B e size v n xs) (hv : W.ownsRow B e size vk nk ys) (hvl : ∀ b, vk.ownBlock = some b → b < WK.heap.size) (hg : WK.grownBy W vk.ownBlock) (hc : Grew WK vk nk v n) (hnm : nk ≤ n) (hys : ys = xs.take (nk * size))
    (a : Addr) (m c : Nat) (news : List Value) (hl : news.length = m * size) (hnews : ∀ j u, news[j]? = some u → W.cell? (a.add j) = some u) (h1 : ∀ u ∈ news, u.oneCell' = true) (h63 : n + m ≤ maxLen) (hbytes : (n + m) * bytes ≤ 140737488355328) (hm : 0 < m) (hB : B ≤ W.heap.size) :
    ∃ v' W', (Builtin.append_ #[t, t] t #[v, .slice (some a) m c]).run P W = .ok v' W' ∧ W'.ownsRow B e size v' (n + m) (xs ++ news) ∧ W'.ownsRow B e size vk nk ys ∧ WK.grownBy W' vk.ownBlock ∧ Grew WK vk nk v' (n + m) := by
  have hxl := hown.1
  have hle : nk * size ≤ n * size := Nat.mul_le_mul_right _ hnm
  obtain ⟨v', W', hr, h⟩ := app_two (P := P) W B t e i z size bytes ht hi hz hsize hby hzs hsz v n xs hown a m c news hl hnews h1 h63 hbytes
  refine ⟨v', W', hr, ?_⟩
  rcases h with ⟨g, cap, rfl, rfl, h2, h3⟩ | ⟨h2, h3⟩
  · rcases hc with ⟨g', cap', rfl, e2⟩ | ⟨b, e1, e2⟩ | e1
    · injection e2 with e2 _ e3
      injection e2 with e2
      injection e2 with e2 _ _
      subst e2 e3
      refine ⟨h2, ?_, grown_join hg h3 (fun j hj => .inl hj), .inl ⟨g, cap, rfl, rfl⟩⟩
      have h4 := owns_front h2 (show nk ≤ n + m by omega)
      rwa [List.take_append_of_le_length (by omega), ← hys] at h4
    · have eb : g = b := by simpa [Value.ownBlock] using e1
      subst eb
      refine ⟨h2, hv.kept h3 ?_, grown_join hg h3 (fun j hj => .inr (by cases hj; exact e2)), .inr (.inl ⟨g, rfl, e2⟩)⟩
      cases hb : vk.ownBlock with
      | none => exact .inl rfl
      | some b => exact .inr (fun e => by have := hvl b hb; cases e; omega)
    · cases e1
  · refine ⟨owns_base h2 hB, owns_below hv h3, grown_join hg ⟨h3.os, h3.tape, h3.output, h3.size, fun k hk _ => h3.block k hk⟩ (fun j hj => by cases hj) (r' := none), .inr (.inl ?_)⟩
    rcases h2.2 with ⟨_, e2⟩ | ⟨g, cap, cur, rfl, e2, _⟩
    · omega
    · exact ⟨g, rfl, Nat.le_trans hg.size e2⟩

theorem take_set_succ {α : Type} (xs : List α) (i : Nat) (x : α) (h : i < xs.length) : (xs.set i x).take (i + 1) = xs.take i ++ [x] := by
  apply List.ext_getElem?
  intro j
  rw [List.getElem?_take]
  by_cases h1 : j < i
  · rw [if_pos (by omega), List.getElem?_set, if_neg (by omega), List.getElem?_append_left (by simp; omega), List.getElem?_take, if_pos h1]
  · by_cases h2 : j = i
    · subst h2
      rw [if_pos (by omega), List.getElem?_set, if_pos rfl, if_pos h, List.getElem?_append_right (by simp; omega)]
      simp [Nat.min_eq_left (Nat.le_of_lt h)]
    · rw [if_neg (by omega), List.getElem?_eq_none (by simp; omega)]
theorem owns_two {W W' : World} {B B' s s' n m : Nat} {e e' : TypeId} {v u : Value} {xs ys : List Value} (h : W.ownsRow B e s v n xs) (hu : W.ownsRow B' e' s' u m ys) (hg : W.grownBy W' u.ownBlock) (hne : e ≠ e') : W'.ownsRow B e s v n xs := by
  refine ⟨h.1, ?_⟩
  rcases h.2 with h0 | ⟨g, cap, cur, hv, hb, hgb, h3⟩
  · exact .inl h0
  · refine .inr ⟨g, cap, cur, hv, hb, (hg.block g (Array.getElem?_eq_some_iff.1 hgb).1 (fun e0 => ?_)).trans hgb, h3⟩
    rcases hu.2 with ⟨rfl, _⟩ | ⟨g', cap', cur', rfl, _, hgb', _⟩
    · cases e0
    · obtain rfl : g = g' := by simpa [Value.ownBlock] using e0
      rw [hgb] at hgb'
      injection hgb' with q
      injection q with _ q _
      exact hne q

theorem below_nw (A : World) (o : Obj) : Below A.heap.size A (A.alloc o) := (Below.refl _ A).alloc (Nat.le_refl _) _
theorem owns_set {W : World} {B b n size : Nat} {e t : TypeId} {v : Value} {xs : List Value} {c : Array Value} (ho : W.ownsRow B e size v n xs) (h : W.heap[b]? = some (.cells c t (0, 0))) (ht : t ≠ e) (i : Nat) (u : Value) : (W.setCell ⟨b, i, none⟩ u).ownsRow B e size v n xs := by
  refine ho.kept (grown_set W b i u) ?_
  rcases ho.2 with ⟨rfl, _⟩ | ⟨g, cap, cur, rfl, _, hg, _⟩
  · exact .inl rfl
  · right
    intro e0
    have : g = b := by simpa [Value.ownBlock] using e0
    subst this
    rw [h] at hg
    injection hg with q
    injection q with _ q _
    exact ht q
theorem heap_grown {W W' : World} {B b n size : Nat} {e t : TypeId} {v : Value} {xs : List Value} {c : Array Value} (ho : W.ownsRow B e size v n xs) (hg : W.grownBy W' v.ownBlock) (h : W.heap[b]? = some (.cells c t (0, 0))) (ht : t ≠ e) : W'.heap[b]? = some (.cells c t (0, 0)) := by
  refine (hg.block b (Array.getElem?_eq_some_iff.1 h).1 (fun e0 => ?_)).trans h
  rcases ho.2 with ⟨rfl, _⟩ | ⟨g, cap, cur, rfl, _, hgb, _⟩
  · cases e0
  · obtain rfl : b = g := by simpa [Value.ownBlock] using e0
    rw [h] at hgb
    injection hgb with q
    injection q with _ q _
    exact ht q

end Go.Proofs.Ytejnleigjjaenaa
