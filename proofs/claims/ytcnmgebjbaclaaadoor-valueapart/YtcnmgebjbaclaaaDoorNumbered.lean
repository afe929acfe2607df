/-
  The walks of diff.numbered and of its closure: the same number for the same line, in both rows.
-/
import Derived.Test.YtcnmgebjbaclaaaDoorBase
import Derived.Maps.OwnSet
import Derived.Maps.Views
import Derived.OneCell
import Derived.Deep.OwnRows
namespace Go.Proofs.YtcnmgebjbaclaaaDoor
open Go.RowKit Go.WideMaps

/-- What the map of numbers holds: a number below N for each of its keys, no number twice. -/
structure NumOk (D : DataW Unit) (f : List UInt8 → Nat) (N : Nat) : Prop where
  size : Maps.size D = N
  at_ : ∀ x, Maps.has D (.string x) = true → D.atKey (.string x) (.lit (.int .i64 0)) = .lit (.int .i64 (f x))
  lt : ∀ x, Maps.has D (.string x) = true → f x < N
  inj : ∀ x y, Maps.has D (.string x) = true → Maps.has D (.string y) = true → f x = f y → x = y
/-- The later map holds what the one ahead held. -/
def NumExt (D : DataW Unit) (f : List UInt8 → Nat) (D' : DataW Unit) (f' : List UInt8 → Nat) : Prop :=
  ∀ x, Maps.has D (.string x) = true → Maps.has D' (.string x) = true ∧ f' x = f x

theorem NumExt.refl (D : DataW Unit) (f : List UInt8 → Nat) : NumExt D f D f := fun _ h => ⟨h, rfl⟩
theorem NumExt.trans {D D' D'' : DataW Unit} {f f' f'' : List UInt8 → Nat} (h : NumExt D f D' f') (k : NumExt D' f' D'' f'') : NumExt D f D'' f'' :=
  fun x hx => ⟨(k x (h x hx).1).1, ((k x (h x hx).1).2).trans (h x hx).2⟩

def putF (f : List UInt8 → Nat) (x : List UInt8) (N : Nat) : List UInt8 → Nat := fun y => if y = x then N else f y

theorem str_ne {x y : List UInt8} (h : x ≠ y) : (Lit.string x) ≠ (Lit.string y) := fun e => h (by injection e)

theorem NumOk.put {D : DataW Unit} {f : List UInt8 → Nat} {N : Nat} (h : NumOk D f N) (hm : Maps.IsMap D) (ht : Maps.Tidy D) {x : List UInt8} (hk : WideAt.IsKeyLit (.string x)) (hx : Maps.has D (.string x) = false) :
    NumOk (D.put (.string x) (.lit (.int .i64 N))) (putF f x N) (N + 1) ∧ NumExt D f (D.put (.string x) (.lit (.int .i64 N))) (putF f x N) ∧ Maps.has (D.put (.string x) (.lit (.int .i64 N))) (.string x) = true ∧ putF f x N x = N := by
  have hsame := Maps.has_put_same hm hk (.lit (.int .i64 N))
  have hoth : ∀ y, y ≠ x → Maps.has (D.put (.string x) (.lit (.int .i64 N))) (.string y) = Maps.has D (.string y) := fun y hy => Maps.has_put_other (str_ne hy) _
  have hp : putF f x N x = N := by simp [putF]
  have hpo : ∀ y, y ≠ x → putF f x N y = f y := fun y hy => by simp [putF, hy]
  refine ⟨⟨?_, ?_, ?_, ?_⟩, ?_, hsame, hp⟩
  · rw [Maps.size_put ht, hx, h.size]; rfl
  · intro y hy
    by_cases e : y = x
    · subst e; rw [hp]; exact Maps.atKey_put_same hm hk _ _
    · rw [hpo y e, Maps.atKey_put_other (str_ne e)]; rw [hoth y e] at hy; exact h.at_ y hy
  · intro y hy
    by_cases e : y = x
    · subst e; rw [hp]; omega
    · rw [hpo y e]; rw [hoth y e] at hy; have := h.lt y hy; omega
  · intro y z hy hz e
    by_cases e1 : y = x
    · by_cases e2 : z = x
      · rw [e1, e2]
      · rw [hoth z e2] at hz; have := h.lt z hz; rw [e1, hp, hpo z e2] at e; omega
    · by_cases e2 : z = x
      · rw [hoth y e1] at hy; have := h.lt y hy; rw [e2, hp, hpo y e1] at e; omega
      · rw [hoth y e1] at hy; rw [hoth z e2] at hz; rw [hpo y e1, hpo z e2] at e; exact h.inj y z hy hz e
  · intro y hy
    have e : y ≠ x := fun e => by rw [e, hx] at hy; cases hy
    exact ⟨by rw [hoth y e]; exact hy, hpo y e⟩

end Go.Proofs.YtcnmgebjbaclaaaDoor
