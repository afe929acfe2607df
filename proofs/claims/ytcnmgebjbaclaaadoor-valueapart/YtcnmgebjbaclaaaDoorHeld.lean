/-
  A region that draws its order of evaluation, inside a fence: operations that yield one value in every world of a class are taken first, in the text's order, also where calls behind them turn the world within the class.
-/
import Derived.Test.YtcnmgebjbaclaaaDoorTold
namespace Go.Proofs.YtcnmgebjbaclaaaDoor
open Go.RowKit

section
variable {F : Fence} {n : Nat} {P : Program} {ops : Array Oper} {Q : Exit → Act → World → Prop} {md : Region.Mode} {C : World → Prop}

/-- Wherever the class goes, the operation yields v (or is passed over), and calls nothing. -/
def Same (P : Program) (ops : Array Oper) (C : World → Prop) (o : Oper) (v : Value) (a : Act) : Prop :=
  ((Region.wanted o (yielded ops a.tmps) = true ∧ ∀ w, C w → (execOp a.eval o).run P w = .ok (.value v) w) ∨ (Region.wanted o (yielded ops a.tmps) = false ∧ v = undef)) ∧ ∀ w, o.about P w a.eval = none

theorem Same.turn {o : Oper} {v : Value} {a a' : Act} (h : Same P ops C o v a) (he : execOp a'.eval o = execOp a.eval o) (hw : Region.wanted o (yielded ops a'.tmps) = Region.wanted o (yielded ops a.tmps)) (hb : ∀ w, o.about P w a'.eval = o.about P w a.eval) : Same P ops C o v a' := by
  refine ⟨?_, fun w => by rw [hb w]; exact h.2 w⟩
  rcases h.1 with ⟨h1, h2⟩ | ⟨h1, h2⟩
  · exact .inl ⟨by rw [hw]; exact h1, fun w hc => by rw [he]; exact h2 w hc⟩
  · exact .inr ⟨by rw [hw]; exact h1, h2⟩

/-- Every order, each world on the way within the class. -/
def anyC (F : Fence) (n : Nat) (P : Program) (md : Region.Mode) (ops : Array Oper) (C : World → Prop) (Q : Exit → Act → World → Prop) : Nat → Array Bool → Act → World → Prop
  | 0, listed, a, w => Region.ready md ops listed = [] ∧ Q .normal a w
  | fuel + 1, listed, a, w => (Region.ready md ops listed = [] → Q .normal a w) ∧
    ∀ i ∈ Region.ready md ops listed, wpOpIn F n P ops Q i (fun a' w' => C w' ∧ anyC F n P md ops C Q fuel (listed.setIfInBounds i true) a' w') a w

theorem anyC_any : ∀ (fuel : Nat) (listed : Array Bool) (a : Act) (w : World), anyC F n P md ops C Q fuel listed a w → wpAnyIn F n P md ops Q fuel listed a w
  | 0, _, _, _, h => h
  | fuel + 1, listed, _, _, h => ⟨h.1, fun i hi => wpOpIn_mono (fun a' w' h' => anyC_any fuel (listed.setIfInBounds i true) a' w' h'.2) (h.2 i hi)⟩

theorem Same.op {i : Nat} {o : Oper} {v : Value} {a : Act} {w : World} (hround : F.round = none) (hi : ops[i]? = some o) (h : Same P ops C o v a) (hc : C w) {K : Act → World → Prop} (hk : K (a.put o.dst v) w) : wpOpIn F n P ops Q i K a w := by
  unfold wpOpIn
  simp only [hi]
  have hno : ∀ f, o.about P w a.eval = some f → F.fn f := fun f hf => by rw [h.2 w] at hf; cases hf
  rcases h.1 with ⟨h1, h2⟩ | ⟨h1, rfl⟩
  · simp only [h1, if_true, Oper.wpIn, hround, Oper.semAt_none, h2 w hc, Oper.uponIn]; exact ⟨hno, hk⟩
  · simp only [h1, Bool.false_eq_true, if_false]; exact ⟨hno, hk⟩

/-- What is the same may be laid in behind an operation that is apart from it. -/
theorem op_behind {j : Nat} {oi oj : Oper} {v : Value} (hround : F.round = none) (hj : ops[j]? = some oj) (hap : oi.apart ops oj = true) (hsi : ∀ cs b, oi.op ≠ .select cs b) (hsj : ∀ cs b, oj.op ≠ .select cs b)
    (hQ : ∀ c a w, Q (.panic c) (a.put oi.dst v) w → Q (.panic c) a w) {K : Act → World → Prop} {a : Act} {w : World} (hy : Same P ops C oi v a) (h : wpOpIn F n P ops Q j K (a.put oi.dst v) w) :
    wpOpIn F n P ops Q j (fun a' w' => Same P ops C oi v a' ∧ K (a'.put oi.dst v) w') a w := by
  obtain ⟨e1, e2, e3⟩ := Oper.apart_spec hap
  have stay : ∀ (b : Act), Same P ops C oi v b → ∀ u, Same P ops C oi v (b.put oj.dst u) := fun b hb u =>
    hb.turn (execOp_put oi hsi b oj.dst u e3) (wanted_put oi b oj.dst u e3) (fun w => about_put oi w b oj.dst u e3)
  have stayD : ∀ d, Same P ops C oi v { a with defers := d :: a.defers } := fun d => hy.turn rfl rfl (fun _ => rfl)
  have swap : ∀ u, K ((a.put oi.dst v).put oj.dst u) w → K ((a.put oj.dst u).put oi.dst v) w := fun u h => by rw [← Act.put_comm a v u e2]; exact h
  unfold wpOpIn at h ⊢
  simp only [hj] at h ⊢
  rw [wanted_put oj a oi.dst v e1, about_put oj w a oi.dst v e1] at h
  by_cases hw : Region.wanted oj (yielded ops a.tmps) = true
  · rw [if_pos hw] at h ⊢
    unfold Oper.wpIn at h ⊢
    rw [about_put oj w a oi.dst v e1] at h
    refine ⟨h.1, ?_⟩
    replace h := h.2
    rw [hround, Oper.semAt_none, execOp_put oj hsj a oi.dst v e1] at h
    rw [hround, Oper.semAt_none]
    generalize (execOp a.eval oj).run P w = r at *
    cases r with
    | ok x w' =>
      cases x <;> simp only [Oper.uponIn] at h ⊢
      case value u => exact ⟨stay a hy u, by rw [← Act.put_comm a v u e2]; exact h⟩
      case skip => exact ⟨stay a hy _, by rw [← Act.put_comm a v undef e2]; exact h⟩
      case defer d =>
        refine ⟨stay _ (stayD d) _, ?_⟩
        rw [← Act.put_comm _ v undef e2, ← Act.put_defers]
        exact h
      case enter f args =>
        refine ⟨h.1, CallsIn.mono h.2 fun e w'' he => ?_⟩
        cases e with
        | returned u => exact ⟨stay a hy u, by rw [← Act.put_comm a v u e2]; exact he⟩
        | panicked c => exact hQ _ _ _ he
        | outgrown => exact he
      case row row args => exact ⟨h.1, RowsIn.mono h.2 fun u w'' he => ⟨stay a hy u, by rw [← Act.put_comm a v u e2]; exact he⟩⟩
      case round l f tmps assign body =>
        refine ⟨h.1, RoundIn.mono h.2 fun e w'' he => ?_⟩
        cases e with
        | returned u => exact ⟨stay a hy u, by rw [← Act.put_comm a v u e2]; exact he⟩
        | panicked c => exact hQ _ _ _ he
        | outgrown => exact he
    | halt x w' =>
      cases x <;> simp only [Oper.uponIn] at h ⊢
      case panic u => exact hQ _ _ _ h
  · rw [if_neg hw] at h ⊢
    exact ⟨h.1, stay a hy _, swap undef h.2⟩

theorem anyC_first {i : Nat} {oi : Oper} {v : Value} (hround : F.round = none) (hi : ops[i]? = some oi) (hsel : ∀ (j : Nat) (o : Oper) cs b, ops[j]? = some o → o.op ≠ .select cs b)
    (hQ : ∀ c a w, Q (.panic c) (a.put oi.dst v) w → Q (.panic c) a w) : ∀ (fuel : Nat) (listed : Array Bool) (a : Act) (w : World),
      (∀ j oj, ops[j]? = some oj → j ≠ i → listed.getD j true = false → (∀ e ∈ oj.after, Region.binds md e = true → e.on ≠ i) → oi.apart ops oj = true) →
      i ∈ Region.ready md ops listed → Same P ops C oi v a → C w →
      anyC F n P md ops C Q fuel (listed.setIfInBounds i true) (a.put oi.dst v) w → anyC F n P md ops C Q (fuel + 1) listed a w := by
  intro fuel
  induction fuel with
  | zero =>
    intro listed a w _ hr hy hc H
    refine ⟨fun h => absurd hr (by rw [h]; simp), fun j hj => ?_⟩
    by_cases hji : j = i
    · subst hji; exact hy.op hround hi hc ⟨hc, H⟩
    · have h9 := ready_mono hj hji
      rw [H.1] at h9
      exact absurd h9 (by simp)
  | succ fuel ih =>
    intro listed a w hfree hr hy hc H
    refine ⟨fun h => absurd hr (by rw [h]; simp), fun j hj => ?_⟩
    by_cases hji : j = i
    · subst hji; exact hy.op hround hi hc ⟨hc, H⟩
    · have h1 := H.2 j (ready_mono hj hji)
      obtain ⟨hun, oj, hoj, hall⟩ := mem_ready.1 hj
      have hnot : ∀ e ∈ oj.after, Region.binds md e = true → e.on ≠ i := fun e he hb heq => by
        have q1 := hall e he hb
        have q0 := (mem_ready.1 hr).1
        rw [heq] at q1
        rcases Nat.lt_or_ge i listed.size with h' | h'
        · simp [h'] at q0 q1; rw [q0] at q1; cases q1
        · simp [Array.getElem?_eq_none h'] at q1
      have h2 := op_behind hround hoj (hfree j oj hoj hji hun hnot) (fun cs b => hsel i oi cs b hi) (fun cs b => hsel j oj cs b hoj) hQ hy h1
      refine wpOpIn_mono (fun a' w' h3 => ⟨h3.2.1, ih (listed.setIfInBounds j true) a' w' (fun k ok hk hki hu hno => ?_) (ready_mono hr (Ne.symm hji)) h3.1 h3.2.1 ?_⟩) h2
      · refine hfree k ok hk hki ?_ hno
        by_cases hjk : j = k
        · subst hjk; exact hun
        · rw [getD_set_ne true hjk] at hu; exact hu
      · rw [Array.setIfInBounds_comm _ _ hji]
        exact h3.2.2

/-- The text's order, as far as each operation yields one value in the class. -/
def lexC (P : Program) (ops : Array Oper) (C : World → Prop) (K : Act → Prop) : List Oper → Act → Prop
  | [], a => K a
  | o :: r, a => ∃ v, Same P ops C o v a ∧ lexC P ops C K r (a.put o.dst v)
def lexOk (md : Region.Mode) (ops : Array Oper) : Nat → Nat → Array Bool → Bool
  | 0, _, _ => true
  | m + 1, k, listed => (Region.ready md ops listed).contains k && Region.free md ops listed k && lexOk md ops m (k + 1) (listed.setIfInBounds k true)
def lexTo : Nat → Nat → Array Bool → Array Bool
  | 0, _, listed => listed
  | m + 1, k, listed => lexTo m (k + 1) (listed.setIfInBounds k true)

theorem anyC_lex (hround : F.round = none) (hs : Region.noSelect ops = true) (hQ : ∀ c (a : Act) d v w, Q (.panic c) (a.put d v) w → Q (.panic c) a w) (fuel : Nat) {w : World} (hc : C w) : ∀ (l : List Oper) (k : Nat) (listed : Array Bool) (a : Act), (∀ j, j < l.length → l[j]? = ops[k + j]?) → lexOk md ops l.length k listed = true →
    lexC P ops C (fun a' => anyC F n P md ops C Q fuel (lexTo l.length k listed) a' w) l a → anyC F n P md ops C Q (l.length + fuel) listed a w
  | [], k, listed, a, _, _, h => by
    have e : ([] : List Oper).length + fuel = fuel := by simp
    rw [e]; exact h
  | o :: l, k, listed, a, hl, hb, ⟨v, hy, hk⟩ => by
    have h0 : ops[k]? = some o := by have := hl 0 (by simp); simpa using this.symm
    simp only [List.length_cons, lexOk, Bool.and_eq_true] at hb
    obtain ⟨⟨hr, hf⟩, hb'⟩ := hb
    have e : (o :: l).length + fuel = (l.length + fuel) + 1 := by simp; omega
    rw [e]
    refine anyC_first hround h0 (Region.noSelect_spec hs) (fun c a w h => hQ c a _ _ w h) (l.length + fuel) listed a w (Region.free_spec h0 hf) (by simpa using hr) hy hc ?_
    refine anyC_lex hround hs hQ fuel hc l (k + 1) _ _ (fun j hj => ?_) hb' hk
    have := hl (j + 1) (by simp; omega)
    simpa [Nat.add_assoc, Nat.add_comm 1 j] using this

/-- One operation alone may come up. -/
theorem anyC_one {i : Nat} {o : Oper} {fuel : Nat} {listed : Array Bool} {a : Act} {w : World} (hr : Region.ready md ops listed = [i]) (ho : ops[i]? = some o) (hw : Region.wanted o (yielded ops a.tmps) = true)
    (h : ∀ K : Act → World → Prop, (∀ a' w', C w' → anyC F n P md ops C Q fuel (listed.setIfInBounds i true) a' w' → K a' w') → o.wpIn F n P a w K Q) : anyC F n P md ops C Q (fuel + 1) listed a w := by
  refine ⟨fun h0 => absurd h0 (by rw [hr]; simp), fun j hj => ?_⟩
  rw [hr] at hj
  simp at hj
  subst hj
  unfold wpOpIn
  simp only [ho, hw, if_true]
  exact h _ (fun a' w' h1 h2 => ⟨h1, h2⟩)
theorem lexC_want {K : Act → Prop} {o : Oper} {r : List Oper} {a : Act} {v : Value} (hw : Region.wanted o (yielded ops a.tmps) = true) (hb : ∀ w, o.about P w a.eval = none) (hv : ∀ w, C w → (execOp a.eval o).run P w = .ok (.value v) w) (h : lexC P ops C K r (a.put o.dst v)) : lexC P ops C K (o :: r) a :=
  ⟨v, ⟨.inl ⟨hw, hv⟩, hb⟩, h⟩
theorem lexC_skip {K : Act → Prop} {o : Oper} {r : List Oper} {a : Act} (hw : Region.wanted o (yielded ops a.tmps) = false) (hb : ∀ w, o.about P w a.eval = none) (h : lexC P ops C K r (a.put o.dst undef)) : lexC P ops C K (o :: r) a :=
  ⟨undef, ⟨.inr ⟨hw, rfl⟩, hb⟩, h⟩
theorem lexC_nil {K : Act → Prop} {a : Act} (h : K a) : lexC P ops C K [] a := h
theorem region_lex {id : Nat} {l : List Oper} {a : Act} {w : World} (C : World → Prop) (m fuel : Nat) (hround : F.round = none) (hm : P.follows .mixedOrders = true) (hsz : l.length = m + fuel) (hs : Region.noSelect l.toArray = true)
    (hok : lexOk .any l.toArray m 0 (Array.replicate l.length false) = true) (hQ : ∀ c (a : Act) d v w, Q (.panic c) (a.put d v) w → Q (.panic c) a w) (hc : C w.drew)
    (h : lexC P l.toArray C (fun a' => anyC F n P .any l.toArray C Q fuel (lexTo m 0 (Array.replicate l.length false)) a' w.drew) (l.take m) a) : (Code.region id l.toArray true).wpIn F n P Q a w := by
  have hlm : (l.take m).length = m := by simp; omega
  refine wpIn_region_any hm (anyC_any (C := C) _ _ _ _ ?_)
  have e : l.toArray.size = (l.take m).length + fuel := by rw [hlm]; simpa using hsz
  have e2 : l.toArray.size = l.length := by simp
  have h1 := anyC_lex (F := F) (n := n) (md := .any) (Q := Q) hround hs hQ fuel (w := w.drew) hc (l.take m) 0 (Array.replicate l.length false) a (fun j hj => by
    rw [hlm] at hj
    rw [List.getElem?_take, if_pos hj]; simp) (by rw [hlm]; exact hok) (by rw [hlm]; exact h)
  rw [← e] at h1
  rw [e2] at h1 ⊢
  exact h1
/-- Go on in the text's order, from operation k on. -/
theorem anyC_more {L : List Oper} {listed : Array Bool} {a : Act} {w : World} (k cnt fuel m : Nat) (hround : F.round = none) (hs : Region.noSelect L.toArray = true) (hm : m = cnt + fuel) (hk : k + cnt ≤ L.length) (hok : lexOk md L.toArray cnt k listed = true)
    (hQ : ∀ c (a : Act) d v w, Q (.panic c) (a.put d v) w → Q (.panic c) a w) (hc : C w) (h : lexC P L.toArray C (fun a' => anyC F n P md L.toArray C Q fuel (lexTo cnt k listed) a' w) ((L.drop k).take cnt) a) : anyC F n P md L.toArray C Q m listed a w := by
  have hl : ((L.drop k).take cnt).length = cnt := by simp; omega
  have h1 := anyC_lex (F := F) (n := n) (md := md) (Q := Q) hround hs hQ fuel (w := w) hc ((L.drop k).take cnt) k listed a (fun j hj => by
    rw [hl] at hj
    rw [List.getElem?_take, if_pos hj, List.getElem?_drop]; simp) (by rw [hl]; exact hok) (by rw [hl]; exact h)
  rw [hl, ← hm] at h1
  exact h1
/-- An operation that is the same in the class, wherever it stands. -/
theorem anyC_take {i : Nat} {o : Oper} {v : Value} {fuel : Nat} {listed : Array Bool} {a : Act} {w : World} (hround : F.round = none) (ho : ops[i]? = some o) (hs : Region.noSelect ops = true) (hr : (Region.ready md ops listed).contains i = true) (hf : Region.free md ops listed i = true)
    (hQ : ∀ c (a : Act) d v w, Q (.panic c) (a.put d v) w → Q (.panic c) a w) (hc : C w) (hw : Region.wanted o (yielded ops a.tmps) = true) (hb : ∀ w, o.about P w a.eval = none) (hv : ∀ w, C w → (execOp a.eval o).run P w = .ok (.value v) w)
    (h : anyC F n P md ops C Q fuel (listed.setIfInBounds i true) (a.put o.dst v) w) : anyC F n P md ops C Q (fuel + 1) listed a w :=
  anyC_first hround ho (Region.noSelect_spec hs) (fun c a w h => hQ c a _ _ w h) fuel listed a w (Region.free_spec ho hf) (by simpa using hr) ⟨.inl ⟨hw, hv⟩, hb⟩ hc h
theorem anyC_done {listed : Array Bool} {a : Act} {w : World} (hr : Region.ready md ops listed = []) (h : Q .normal a w) : anyC F n P md ops C Q 0 listed a w := ⟨hr, h⟩
end

section
variable {F : Fence} {n : Nat} {P : Program} {ops : Array Oper} {Q : Exit → Act → World → Prop} {md : Region.Mode} {C : World → Prop}
/-- One of two operations comes up. -/
theorem anyC_two {i j : Nat} {o o' : Oper} {fuel : Nat} {listed : Array Bool} {a : Act} {w : World} (hr : Region.ready md ops listed = [i, j]) (ho : ops[i]? = some o) (ho' : ops[j]? = some o') (hw : Region.wanted o (yielded ops a.tmps) = true) (hw' : Region.wanted o' (yielded ops a.tmps) = true)
    (h : ∀ K : Act → World → Prop, (∀ a' w', C w' → anyC F n P md ops C Q fuel (listed.setIfInBounds i true) a' w' → K a' w') → o.wpIn F n P a w K Q)
    (h' : ∀ K : Act → World → Prop, (∀ a' w', C w' → anyC F n P md ops C Q fuel (listed.setIfInBounds j true) a' w' → K a' w') → o'.wpIn F n P a w K Q) : anyC F n P md ops C Q (fuel + 1) listed a w := by
  refine ⟨fun h0 => absurd h0 (by rw [hr]; simp), fun k hk => ?_⟩
  rw [hr] at hk
  simp at hk
  rcases hk with rfl | rfl
  · unfold wpOpIn
    simp only [ho, hw, if_true]
    exact h _ (fun a' w' h1 h2 => ⟨h1, h2⟩)
  · unfold wpOpIn
    simp only [ho', hw', if_true]
    exact h' _ (fun a' w' h1 h2 => ⟨h1, h2⟩)
end

end Go.Proofs.YtcnmgebjbaclaaaDoor
