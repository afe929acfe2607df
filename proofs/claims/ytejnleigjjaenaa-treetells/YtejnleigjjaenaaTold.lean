/-
  A range over a function whose yielded values are told with what is true of them in the world in which they are yielded (the body goes on at each of them).
-/
import Derived.Test.YtejnleigjjaenaaBase
import Derived.RangeFuncNested
import Derived.RangeFuncBound
import Derived.RangeFuncCalls
import Derived.RangeFuncLeaves
import Derived.RangeFuncBox
import Derived.Shelf.Abstract
import Derived.Shelf.RegionOpen
import Derived.OwnWalkIn
import Derived.TacticsInMore
import Derived.LoopNIn
import Derived.LoopIn
namespace Go.Proofs.Ytejnleigjjaenaa
open Go.RowKit

/-- Nothing that was there has turned, but blocks that hold no cells and lie from B on. -/
def Shy (B : Nat) (I : World → Prop) : Prop := ∀ W l o o', I W → B ≤ l → W.heap[l]? = some o → o.isCells = false → I (W.putObj l o')

theorem range_told {α : Type} {F : Fence} {n : Nat} {P : Program} {g : Operand} {ps : Array Tmp} {assign body : Code} {Q : Exit → Act → World → Prop} {a : Act} {w : World}
    (hround : F.round = none) (hn : 1 ≤ n) {gf : Nat} {lb : Array Value} (hgf : a.eval g = .func (.func gf) #[] lb) (hin : F.fn gf) (hent : ∀ args w, (callFunc gf args).run P w = .ok (.enter gf args) w)
    (enc : α → Value) (hps : ps.size = 1) (Φ : α → World → Prop) (Kp : World → World → Prop) (S : List α → Prop) (N : Nat) (I : List α → World → Prop) (Ax : α → Act → World → Prop)
    (hKt : ∀ {A B C : World}, Kp A B → Kp B C → Kp A C) (hKb : ∀ (W : World) (l : Nat) (o o' : Obj), w.heap.size ≤ l → W.heap[l]? = some o → o.isCells = false → Kp W (W.putObj l o'))
    (hI : ∀ s, Shy w.heap.size (I s)) (hIb : ∀ s W W', I s W → Below W.heap.size W W' → I s W') (hΦ : ∀ x, Shy w.heap.size (Φ x)) (hAx : ∀ x a', Shy w.heap.size (Ax x a'))
    (hseq : ∀ (l : Nat) (J : List α → World → Prop), (∀ s W W', J s W → Below W.heap.size W W' → J s W') →
      (∀ pre x W, J pre W → Φ x W → pre.length < N → YieldAt F (n - 1 - 1) P l #[enc x] W fun e W' => e = .returned (.bool true) ∧ J (pre ++ [x]) W' ∧ Kp W W') →
      ∀ W, Below w.heap.size w W → J [] W → CallsIn F (n - 1) P gf (#[.func (.yield l) #[] #[]] ++ lb) W fun e W' => (∃ v, e = .returned v) ∧ ∃ xs, S xs ∧ J xs W')
    (hassign : ∀ (l : Nat) (pre : List α) (x : α) (W : World) (K : Act → World → Prop), I pre W → Φ x W → (∀ a' W', KeepsFrom w.heap.size W W' → Kp W W' → I pre W' → Φ x W' → Ax x a' W' → K a' W') →
      assign.wpIn (F.inRound l) (n - 1 - 1) P (Exit.then K (fun _ _ _ => False)) { tmps := (ps.zip #[enc x]).foldl (fun t (p, v) => t.setIfInBounds p v) a.tmps, defers := [] } W)
    (hbody : ∀ (l : Nat) (pre : List α) (x : α) (a' : Act) (W : World), I pre W → Φ x W → Ax x a' W → pre.length < N →
      body.wpIn (F.inRound l) (n - 1 - 1) P (fun e _ W' => e = .normal ∧ KeepsFrom w.heap.size W W' ∧ Kp W W' ∧ I (pre ++ [x]) W') a' W)
    (h0 : I [] w)
    (hdone : ∀ (D : Nat) (xs : List α) (W : World), w.heap.size ≤ D → S xs → I xs W → W.heap[D]? = some (.deferred (some [])) → Q .normal { a with defers := { target := .collected D, args := #[] } :: a.defers } W) :
    (Code.rangeFunc g ps assign body).wpIn F n P Q a w := by
  refine wpIn_rangeFunc fun fn hfn => ?_
  rw [hround]
  obtain ⟨lp, hlp⟩ : ∃ lp : LoopState → Option Code → Loop, lp = fun st pe => { state := st, pending := pe, fn, tmps := a.tmps, params := ps, assign, body, defers := w.heap.size } := ⟨_, rfl⟩
  obtain ⟨V, hV⟩ : ∃ V, V = (w.alloc (.deferred (some []))).alloc (.loop (lp .ready none)) := ⟨_, rfl⟩
  have hloop : V.heap[w.heap.size + 1]? = some (.loop (lp .ready none)) := by
    rw [hV]; have := World.alloc_heap_new (w.alloc (.deferred (some []))) (.loop (lp .ready none)); rwa [World.size_alloc] at this
  have hdef : V.heap[w.heap.size]? = some (.deferred (some [])) := by
    rw [hV]; exact (Below.heap_alloc _ _ _ (by simp)).trans (World.alloc_heap_new w _)
  have hbel : Below w.heap.size w V := by
    rw [hV]; exact ((Below.refl _ w).alloc (Nat.le_refl _) _).alloc (by simp) _
  refine ⟨w.heap.size + 1, [{ target := .collected w.heap.size, args := #[] }], V, { target := .fn (.func gf) lb, args := #[.func (.yield (w.heap.size + 1)) #[] #[]] }, V, gf,
    #[.func (.yield (w.heap.size + 1)) #[] #[]] ++ lb, V, ?_, ?_, ?_, ?_, fun _ => hn, ?_⟩
  · rw [hV, hlp]; exact run_enterLoop_outer _ _ _ _ _
  · simp only [resolve, hgf]
    simp [go_sem]
  · intro f' hf'
    simp [Target.leads] at hf'
    subst hf'
    exact hin
  · simp [invoke, go_sem, hent]
  · have hkeep : ∀ {A B : World} {k : Nat} {o : Obj}, Below A.heap.size A B → A.heap[k]? = some o → B.heap[k]? = some o := fun hb hk => (hb.block _ (Array.getElem?_eq_some_iff.1 hk).1).trans hk
    refine (hseq (w.heap.size + 1) (fun pre W => I pre W ∧ W.heap[w.heap.size + 1]? = some (.loop (lp .ready none)) ∧ W.heap[w.heap.size]? = some (.deferred (some [])))
      (fun s A B hs hb => ⟨hIb s A B hs.1 hb, hkeep hb hs.2.1, hkeep hb hs.2.2⟩) ?_ V hbel ⟨hIb _ _ _ h0 hbel, hloop, hdef⟩).mono ?_
    · rintro pre x W ⟨hi, hl, hd⟩ hx hlen
      have hy := run_yield (P := P) (args := #[enc x]) hl (by rw [hlp]; simp [hps])
      rw [hlp] at hy
      refine ⟨fn, _, assign, body, hy, roundIn_of_wpIn hfn (hassign _ pre x W _ hi hx fun a' A hkA hkpA hiA hxA haA => ?_)⟩
      have hlA := hkA.same _ _ (by omega) hl rfl
      have hdA := hkA.same _ _ (Nat.le_refl _) hd rfl
      refine ⟨_, run_beginRound hlA (by rw [hlp]), ?_⟩
      have hltA : w.heap.size + 1 < A.heap.size := (Array.getElem?_eq_some_iff.1 hlA).1
      have hlB : (A.putObj (w.heap.size + 1) (.loop { lp .ready none with state := .busy })).heap[w.heap.size + 1]? = some (.loop { lp .ready none with state := .busy }) := World.putObj_heap_same hltA
      have hdB : (A.putObj (w.heap.size + 1) (.loop { lp .ready none with state := .busy })).heap[w.heap.size]? = some (.deferred (some [])) := (World.putObj_heap_other (by omega)).trans hdA
      refine wpIn_mono (hbody _ pre x a' _ (hI pre _ _ _ _ hiA (by omega) hlA rfl) (hΦ x _ _ _ _ hxA (by omega) hlA rfl) (hAx x a' _ _ _ _ haA (by omega) hlA rfl) hlen) ?_
      rintro e a3 C ⟨rfl, hkC, hkpC, hiC⟩
      have hlC := hkC.same _ _ (by omega) hlB rfl
      have hdC := hkC.same _ _ (Nat.le_refl _) hdB rfl
      have hend := run_endRound (P := P) none hlC
      rw [hlp] at hend
      refine ⟨_, _, hend, rfl, ⟨hI _ _ _ _ _ hiC (by omega) hlC rfl, ?_, (World.putObj_heap_other (by omega)).trans hdC⟩, ?_⟩
      · rw [hlp]
        exact World.putObj_heap_same (Array.getElem?_eq_some_iff.1 hlC).1
      · exact hKt hkpA (hKt (hKb A _ _ _ (by omega) hlA rfl) (hKt hkpC (hKb C _ _ _ (by omega) hlC rfl)))
    · rintro e Z ⟨⟨v, rfl⟩, xs, hS, hi, hl, hd⟩
      refine ⟨none, _, by have := run_endLoop (P := P) hl (by rw [hlp]; simp); rw [hlp] at this; exact this, hdone _ xs _ (Nat.le_refl _) hS (hI xs _ _ _ _ hi (by omega) hl rfl) ((World.putObj_heap_other (by omega)).trans hd)⟩

end Go.Proofs.Ytejnleigjjaenaa
