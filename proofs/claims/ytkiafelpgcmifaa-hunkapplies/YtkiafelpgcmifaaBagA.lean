/-
  The bag of all lists that were found (clerestorykit): a list of texts put into it, a hunk, a row of hunks.
-/
import Derived.Test.YtkiafelpgcmifaaMarkHunks
import Derived.Test.YtkiafelpgcmifaaHnCopy
namespace Go.Proofs.Ytkiafelpgcmifaa
open Go.RowKit Go.Shelf

attribute [local go_sem] Oper.semAt_some

/-- What lay below B is as it was; and whatever holds texts or hunks. -/
def KeepSH (B : Nat) (W W' : World) : Prop := Below B W W' ∧ ∀ (k : Nat) (c : Array Value) (t : TypeId) (fr : Nat × Nat), W.heap[k]? = some (.cells c t fr) → t = 9 ∨ t = 40 → W'.heap[k]? = some (.cells c t fr)
theorem KeepSH.refl (B : Nat) (W : World) : KeepSH B W W := ⟨Below.refl _ _, fun _ _ _ _ h _ => h⟩
theorem KeepSH.trans {B : Nat} {W X Y : World} (h : KeepSH B W X) (k : KeepSH B X Y) : KeepSH B W Y := ⟨h.1.trans k.1, fun j c t fr hj h1 => k.2 j c t fr (h.2 j c t fr hj h1) h1⟩
theorem KeepSH.of_below {B : Nat} {W X : World} (h : Below W.heap.size W X) (hn : B ≤ W.heap.size) : KeepSH B W X :=
  ⟨h.mono hn, fun j _ _ _ hj _ => (h.block j (Array.getElem?_eq_some_iff.1 hj).1).trans hj⟩
theorem KeepSH.owns {B B' k size : Nat} {e : TypeId} {W X : World} (h : KeepSH B W X) {v : Value} {xs : List Value} (ho : W.ownsRow B' e size v k xs) (h1 : e = 9 ∨ e = 40) : X.ownsRow B' e size v k xs := by
  refine ⟨ho.1, ?_⟩
  rcases ho.2 with h0 | ⟨g, cap, cur, hv, hb, hg, h3⟩
  · exact .inl h0
  · exact .inr ⟨g, cap, cur, hv, hb, h.2 g _ _ _ hg h1, h3⟩
theorem KeepSH.of_grown {e : TypeId} {B n size : Nat} {W W' : World} {v : Value} {xs : List Value} (hrow : W.ownsRow B e size v n xs) (hg : W.grownBy W' v.ownBlock) (hn : B ≤ W.heap.size) (h1 : e ≠ 9) (h2 : e ≠ 40) : KeepSH B W W' := by
  have h := KeepT.of_grown hrow hg hn
  exact ⟨h.1, fun j c t fr hj h3 => h.2 j c t fr hj (fun e0 => by
    rcases h3 with h3 | h3
    · exact h1 (e0.symm.trans h3)
    · exact h2 (e0.symm.trans h3))⟩
theorem KeepSH.of_set {B b : Nat} {W : World} {c : Array Value} {t : TypeId} (h : W.heap[b]? = some (.cells c t (0, 0))) (hB : B ≤ b) (h1 : t ≠ 9) (h2 : t ≠ 40) (i : Nat) (u : Value) : KeepSH B W (W.setCell ⟨b, i, none⟩ u) := by
  have hg := grown_set W b i u
  refine ⟨⟨hg.os, hg.tape, hg.output, hg.size, fun k hk => hg.block k (by have := (Array.getElem?_eq_some_iff.1 h).1; omega) (fun e => by cases e; omega)⟩, fun j c' t' fr hj h3 => ?_⟩
  refine (hg.block j (Array.getElem?_eq_some_iff.1 hj).1 (fun e0 => ?_)).trans hj
  injection e0 with e0
  subst e0
  rw [h] at hj
  injection hj with q
  injection q with _ q _
  rcases h3 with h3 | h3
  · exact h1 (q.trans h3)
  · exact h2 (q.trans h3)

/-- The cells of a bag of texts and of hunks. -/
def bagC (tv hv : Value) : Array Value := #[.slice none 0 0, .slice none 0 0, .slice none 0 0, .slice none 0 0, tv, .slice none 0 0, .slice none 0 0, .slice none 0 0, .slice none 0 0, .slice none 0 0, .slice none 0 0, .slice none 0 0, hv, .slice none 0 0, .slice none 0 0, .slice none 0 0, .slice none 0 0, .slice none 0 0, .slice none 0 0, .slice none 0 0, .slice none 0 0]
/-- The bag at block b holds these lists of texts, and these of hunks. -/
def BagIs (B b : Nat) (T H : List Value) (W : World) : Prop :=
  ∃ tv hv, W.heap[b]? = some (.cells (bagC tv hv) 73 (0, 0)) ∧ B ≤ b ∧ W.ownsRow B 22 1 tv T.length T ∧ W.ownsRow B 23 1 hv H.length H
theorem infoTs : (Try.prog.info? 22).map (fun i => (i.zero, i.size, i.bytes)) = some (some (.slice none 0 0), 1, 24) := by kernel_rfl
theorem infoHs : (Try.prog.info? 23).map (fun i => (i.zero, i.size, i.bytes)) = some (some (.slice none 0 0), 1, 24) := by kernel_rfl

set_option maxRecDepth 100000 in
set_option maxHeartbeats 4000000 in
theorem putTexts_any (B b : Nat) (T H : List Value) (ao : Option Addr) (n cap : Nat) (w : World) (hbag : BagIs B b T H w) (hB : B ≤ w.heap.size) (hT : T.length ≤ 100000) :
    Calls Try.prog 30 #[.pointer (some ⟨b, 0, none⟩), .slice ao n cap] w fun e w' => e = .returned (.tuple #[]) ∧ BagIs B b (T ++ [.slice ao n cap]) H w' ∧ KeepSH B w w' := by
  obtain ⟨tv, hv, h0, hBb, h1, h2⟩ := hbag
  obtain ⟨i0, hi, hz0, hz1, hz2⟩ := info_parts infoTs
  have c4 : w.cell? ⟨b, 4, none⟩ = some tv := by rw [Lib.cell_of_heap h0]; rfl
  obtain ⟨X, hX⟩ : ∃ X, X = w.alloc (.cells #[.slice ao n cap] 22) := ⟨_, rfl⟩
  have bX : Below w.heap.size w X := by rw [hX]; exact below_nw w _
  have hsrc : ∀ (j : Nat) (u : Value), [Value.slice ao n cap][j]? = some u → X.cell? ((⟨w.heap.size, 0, none⟩ : Addr).add j) = some u := by rw [hX]; exact cells_new w [.slice ao n cap] 22
  obtain ⟨v', W', hrun, hown, hgr, -⟩ := run_append_own (P := Try.prog) X B 37 37 22 i0 (.slice none 0 0) 1 24 Try.underlying37 hi hz0 hz1 hz2 rfl (by decide) tv T.length T (owns_below h1 bX) ⟨w.heap.size, 0, none⟩ 1 1 [.slice ao n cap] rfl hsrc (by simp [Value.oneCell']) (by unfold maxLen; omega) (by omega) (by have := bX.size; omega)
  obtain ⟨gv, cv, rfl⟩ := ownsRow_succ hown
  have h0' : W'.heap[b]? = some (.cells (bagC tv hv) 73 (0, 0)) := heap_grown (owns_below h1 bX) hgr ((bX.block b (Array.getElem?_eq_some_iff.1 h0).1).trans h0) (by decide)
  have c4' : W'.cell? ⟨b, 4, none⟩ = some tv := by rw [Lib.cell_of_heap h0']; rfl
  have f4' : W'.frozen? ⟨b, 4, none⟩ = false := frozen_of_row W' b 4 _ _ h0'
  have HF : Hid (BagIs B b (T ++ [.slice ao n cap]) H (W'.setCell ⟨b, 4, none⟩ (.slice (some ⟨gv, 0, none⟩) (T.length + 1) cv)) ∧ KeepSH B w (W'.setCell ⟨b, 4, none⟩ (.slice (some ⟨gv, 0, none⟩) (T.length + 1) cv))) := by
    refine ⟨⟨_, hv, heap_setCell_same W' b 4 _ _ _ h0', hBb, ?_, ?_⟩, ?_⟩
    · rw [List.length_append]; exact owns_set hown h0' (by decide) 4 _
    · exact owns_set ((owns_below h2 bX).kept hgr (by
        rcases h1.2 with ⟨e, _⟩ | ⟨g, cp, cur, e, _, hg, _⟩
        · rw [e]
          rcases h2.2 with ⟨e, _⟩ | ⟨g, cp, cur, e, _⟩
          · exact .inl (by rw [e]; rfl)
          · exact .inr (by rw [e]; simp [Value.ownBlock])
        · rcases h2.2 with ⟨e', _⟩ | ⟨g', cp', cur', e', _, hg', _⟩
          · exact .inl (by rw [e']; rfl)
          · right
            rw [e, e']
            intro q
            have : g' = g := by simpa [Value.ownBlock] using q
            subst this
            rw [hg] at hg'
            injection hg' with q
            injection q with _ q _
            exact absurd q (by decide))) h0' (by decide) 4 _
    · exact ((KeepSH.of_below bX hB).trans (KeepSH.of_grown (owns_below h1 bX) hgr (Nat.le_trans hB bX.size) (by decide) (by decide))).trans (KeepSH.of_set h0' hBb (by decide) (by decide) 4 _)
  clear h0 h1 h2 hown hgr h0' hsrc bX
  subst hX
  refine (callsIn_wide (n := 3)).1 ?_
  refine callsIn_of_wp Try.func30 rfl trivial ?_ rfl
  simp only [Try.ntmps30, List.size_toArray, List.length_cons, List.length_nil, Nat.reduceAdd, Nat.reduceSub, Array.replicate_succ, Array.replicate_zero, List.push_toArray, List.append_toArray, List.nil_append, List.cons_append]
  gi_wp2_with (gi_at_builtin; refine list_append rfl _ _ 37 rfl _ _ _ _ rfl rfl hrun ?_)
  go_end0
  exact ⟨rfl, HF.out⟩

theorem bag_draw {B b : Nat} {T H : List Value} {w : World} (h : BagIs B b T H w) (k : Nat) : BagIs B b T H (w.drewN k) := h
theorem bag_below' {B b : Nat} {T H : List Value} {w w' : World} (h : BagIs B b T H w) (hb : Below w.heap.size w w') : BagIs B b T H w' := by
  obtain ⟨tv, hv, h0, hBb, h1, h2⟩ := h
  exact ⟨tv, hv, (hb.block b (Array.getElem?_eq_some_iff.1 h0).1).trans h0, hBb, owns_below h1 hb, owns_below h2 hb⟩

/-- The lists of texts of a row of hunks. -/
def txts (xs : List HA) : List Value := xs.flatMap fun x => [x.vo, x.vn]
theorem txts_succ (xs : List HA) (k : Nat) (x : HA) (h : xs[k]? = some x) : txts (xs.take (k + 1)) = txts (xs.take k) ++ [x.vo, x.vn] := by
  rw [List.take_add_one, h]; simp [txts]
theorem txts_len (xs : List HA) : (txts xs).length = 2 * xs.length := by
  induction xs with
  | nil => rfl
  | cons x r ih => simp [txts] at ih ⊢; omega

end Go.Proofs.Ytkiafelpgcmifaa
