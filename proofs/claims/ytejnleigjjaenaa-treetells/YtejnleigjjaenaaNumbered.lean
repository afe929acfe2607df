/-
  The walks of diff.numbered and of its closure: the same number for the same line, in both rows.
-/
import Derived.Test.YtejnleigjjaenaaBase
import Derived.Maps.OwnSet
import Derived.Maps.Views
import Derived.OneCell
import Derived.Deep.OwnRows
namespace Go.Proofs.Ytejnleigjjaenaa
open Go.RowKit Go.WideMaps

set_option maxRecDepth 100000 in
theorem Try.zero3 (w : World) : (zeroValue 3).run Try.prog w = .ok (.int .i64 0) w := by rfl

theorem grown_trans {W A B : World} {m : Nat} {r : Option Nat} (h : W.grownBy A (some m)) (k : A.grownBy B r) (hr : ∀ j, r = some j → j = m ∨ W.heap.size ≤ j) : W.grownBy B (some m) :=
  ⟨k.os.trans h.os, k.tape.trans h.tape, k.output.trans h.output, Nat.le_trans h.size k.size, fun j hj hne =>
    (k.block j (Nat.lt_of_lt_of_le hj h.size) (fun e => by
      rcases hr j e.symm with e1 | e1
      · exact hne (by rw [e1])
      · omega)).trans (h.block j hj hne)⟩
theorem grown_of_none {W A : World} (h : W.grownBy A none) (m : Option Nat) : W.grownBy A m := ⟨h.os, h.tape, h.output, h.size, fun j hj _ => h.block j hj (by simp)⟩
theorem grown_of_below {W A : World} (h : Below W.heap.size W A) (m : Option Nat) : W.grownBy A m := ⟨h.os, h.tape, h.output, h.size, fun j hj _ => h.block j hj⟩
theorem below_of_grown {W A : World} {n m : Nat} (h : W.grownBy A (some m)) (hnm : n ≤ m) (hn : n ≤ W.heap.size) : Below n W A := ⟨h.os, h.tape, h.output, h.size, fun j hj => h.block j (by omega) (fun e => by have := Option.some.inj e; omega)⟩

theorem owns_cell {w : World} {base e g n cap : Nat} {xs : List Value} (h : w.ownsRow base e 1 (.slice (some ⟨g, 0, none⟩) n cap) n xs) (j : Nat) (hj : j < n) : ∃ u, w.cell? ⟨g, j, none⟩ = some u := by
  have h1 := h.1
  have h2 := h.cellAt j (by omega)
  rw [List.getElem?_eq_getElem (by omega)] at h2
  exact ⟨_, h2⟩
theorem wf_nat {N : Nat} (h : N ≤ 1000000000000) : (Lit.int .i64 (N : Int)).wf = true := by
  have h1 : IntKind.i64.min = -9223372036854775808 := by decide
  have h2 : IntKind.i64.max = 9223372036854775807 := by decide
  simp only [Lit.wf, h1, h2, Bool.and_eq_true, decide_eq_true_eq]
  omega

/-- What the map of numbers holds: a number below N for each of its keys, no number twice. -/
structure NumOk (D : DataW Unit) (f : List UInt8 → Nat) (N : Nat) : Prop where
  size : Maps.size D = N
  at_ : ∀ x, Maps.has D (.string x) = true → D.atKey (.string x) (.lit (.int .i64 0)) = .lit (.int .i64 (f x))
  lt : ∀ x, Maps.has D (.string x) = true → f x < N
  inj : ∀ x y, Maps.has D (.string x) = true → Maps.has D (.string y) = true → f x = f y → x = y
/-- The later map holds what the one ahead held. -/
def NumExt (D : DataW Unit) (f : List UInt8 → Nat) (D' : DataW Unit) (f' : List UInt8 → Nat) : Prop :=
  ∀ x, Maps.has D (.string x) = true → Maps.has D' (.string x) = true ∧ f' x = f x

theorem NumExt.refl (D : DataW Unit) (f : List UInt8 → Nat) : NumExt D f D f := fun _ h => ⟨h, rfl⟩
theorem NumExt.trans {D D' D'' : DataW Unit} {f f' f'' : List UInt8 → Nat} (h : NumExt D f D' f') (k : NumExt D' f' D'' f'') : NumExt D f D'' f'' :=
  fun x hx => ⟨(k x (h x hx).1).1, ((k x (h x hx).1).2).trans (h x hx).2⟩

def putF (f : List UInt8 → Nat) (x : List UInt8) (N : Nat) : List UInt8 → Nat := fun y => if y = x then N else f y

theorem str_ne {x y : List UInt8} (h : x ≠ y) : (Lit.string x) ≠ (Lit.string y) := fun e => h (by injection e)

theorem NumOk.put {D : DataW Unit} {f : List UInt8 → Nat} {N : Nat} (h : NumOk D f N) (hm : Maps.IsMap D) (ht : Maps.Tidy D) {x : List UInt8} (hk : WideAt.IsKeyLit (.string x)) (hx : Maps.has D (.string x) = false) :
    NumOk (D.put (.string x) (.lit (.int .i64 N))) (putF f x N) (N + 1) ∧ NumExt D f (D.put (.string x) (.lit (.int .i64 N))) (putF f x N) ∧ Maps.has (D.put (.string x) (.lit (.int .i64 N))) (.string x) = true ∧ putF f x N x = N := by
  have hsame := Maps.has_put_same hm hk (.lit (.int .i64 N))
  have hoth : ∀ y, y ≠ x → Maps.has (D.put (.string x) (.lit (.int .i64 N))) (.string y) = Maps.has D (.string y) := fun y hy => Maps.has_put_other (str_ne hy) _
  have hp : putF f x N x = N := by simp [putF]
  have hpo : ∀ y, y ≠ x → putF f x N y = f y := fun y hy => by simp [putF, hy]
  refine ⟨⟨?_, ?_, ?_, ?_⟩, ?_, hsame, hp⟩
  · rw [Maps.size_put ht, hx, h.size]; rfl
  · intro y hy
    by_cases e : y = x
    · subst e; rw [hp]; exact Maps.atKey_put_same hm hk _ _
    · rw [hpo y e, Maps.atKey_put_other (str_ne e)]; rw [hoth y e] at hy; exact h.at_ y hy
  · intro y hy
    by_cases e : y = x
    · subst e; rw [hp]; omega
    · rw [hpo y e]; rw [hoth y e] at hy; have := h.lt y hy; omega
  · intro y z hy hz e
    by_cases e1 : y = x
    · by_cases e2 : z = x
      · rw [e1, e2]
      · rw [hoth z e2] at hz; have := h.lt z hz; rw [e1, hp, hpo z e2] at e; omega
    · by_cases e2 : z = x
      · rw [hoth y e1] at hy; have := h.lt y hy; rw [e2, hp, hpo y e1] at e; omega
      · rw [hoth y e1] at hy; rw [hoth z e2] at hz; rw [hpo y e1, hpo z e2] at e; exact h.inj y z hy hz e
  · intro y hy
    have e : y ≠ x := fun e => by rw [e, hx] at hy; cases hy
    exact ⟨by rw [hoth y e]; exact hy, hpo y e⟩

/-- The row of numbers when k lines have one. -/
def rowVals (f : List UInt8 → Nat) (L : List (List UInt8)) (k : Nat) : List Value := (L.take k).map (fun x => numV (f x)) ++ List.replicate (L.length - k) (.int .i64 0)

theorem rowVals_set (f : List UInt8 → Nat) (L : List (List UInt8)) (k : Nat) (x : List UInt8) (hx : L[k]? = some x) : (rowVals f L k).set k (numV (f x)) = rowVals f L (k + 1) := by
  obtain ⟨hk, hx⟩ := List.getElem?_eq_some_iff.1 hx
  unfold rowVals
  have hl : ((L.take k).map (fun x => numV (f x))).length = k := by simp; omega
  rw [List.set_append_right _ _ (by omega), hl, Nat.sub_self]
  have e : L.length - k = (L.length - (k + 1)) + 1 := by omega
  rw [e, List.replicate_succ, List.set_cons_zero, List.take_succ_eq_append_getElem hk, hx]
  simp
theorem rowVals_congr {f f' : List UInt8 → Nat} {L : List (List UInt8)} {k : Nat} (h : ∀ x ∈ L.take k, f' x = f x) : rowVals f' L k = rowVals f L k := by
  unfold rowVals
  congr 1
  exact List.map_congr_left (fun x hx => by rw [h x hx])
theorem rowVals_zero (f : List UInt8 → Nat) (L : List (List UInt8)) : rowVals f L 0 = List.replicate L.length (.int .i64 0) := by simp [rowVals]
theorem rowVals_full (f : List UInt8 → Nat) (L : List (List UInt8)) : rowVals f L L.length = L.map (fun x => numV (f x)) := by simp [rowVals]

end Go.Proofs.Ytejnleigjjaenaa
