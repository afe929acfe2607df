/-
  How much a walk of names has put down: no more than so much a node.
-/
import Derived.Test.YtnndgjnihhafbaaGreatDoorBnMath
namespace Go.Proofs.YtnndgjnihhafbaaGreatDoor
namespace Bn

def usesSum : List Bd → Nat
  | [] => 0
  | d :: r => d.uses.length + usesSum r
def ownSum : List Sc → Nat
  | [] => 0
  | m :: r => m.length + ownSum r
def St.mass (s : St) : Nat := s.fns.length + s.bds.length + s.met.length + usesSum s.bds + ownSum s.own
theorem usesSum_append (a b : List Bd) : usesSum (a ++ b) = usesSum a + usesSum b := by
  induction a with
  | nil => simp [usesSum]
  | cons x r ih => simp [usesSum, ih]; omega
theorem usesSum_use (l : List Bd) : ∀ (k : Nat) (p : List Nat), usesSum (addUse l k p) ≤ usesSum l + 1 := by
  induction l with
  | nil => intro k p; simp [addUse, usesSum]
  | cons x r ih =>
    intro k p
    cases k with
    | zero => simp [addUse, usesSum]; omega
    | succ k => have := ih k p; simp [addUse, usesSum]; omega
theorem use_len (l : List Bd) : ∀ (k : Nat) (p : List Nat), (addUse l k p).length = l.length := by
  induction l with
  | nil => intro k p; rfl
  | cons x r ih => intro k p; cases k with
    | zero => rfl
    | succ k => simp [addUse, ih]
theorem usesSum_mem {l : List Bd} {d : Bd} (h : d ∈ l) : d.uses.length ≤ usesSum l := by
  induction l with
  | nil => cases h
  | cons x r ih =>
    rcases List.mem_cons.1 h with rfl | h
    · simp [usesSum]
    · have := ih h; simp [usesSum]; omega
theorem ownSum_mem {l : List Sc} {m : Sc} (h : m ∈ l) : m.length ≤ ownSum l := by
  induction l with
  | nil => cases h
  | cons x r ih =>
    rcases List.mem_cons.1 h with rfl | h
    · simp [ownSum]
    · have := ih h; simp [ownSum]; omega
theorem ownSum_declared (l : List Sc) (q : List UInt8) (k : Nat) : ownSum (declared l q k) ≤ ownSum l + 1 := by
  cases l with
  | nil => simp [declared, ownSum]
  | cons m r => simp [declared, ownSum]; omega
theorem mass_use (s : St) (k : Nat) (p : List Nat) : (s.use k p).mass ≤ s.mass + 1 := by
  have h1 := usesSum_use s.bds k p
  have h2 := use_len s.bds k p
  simp only [St.mass, St.use]
  omega
theorem mass_look1 {t : Tr} {p : List Nat} {s s1 : St} {a : After} (h : look1 t p s = .ok (s1, a)) : s1.mass ≤ s.mass + 2 := by
  unfold look1 at h
  split at h
  · split at h
    · cases h
    · cases h
      simp [St.mass, usesSum_append, usesSum]; omega
  · cases h; omega
theorem mass_look2 {t : Tr} {p : List Nat} {s s1 : St} {a : After} (h : look2 t p s = .ok (s1, a)) : s1.mass ≤ s.mass + 2 := by
  unfold look2 at h
  repeat' split at h
  all_goals first
    | cases h
    | skip
  all_goals first
    | (simp [St.mass, usesSum_append, usesSum, ownSum]; omega)
    | (refine Nat.le_trans (mass_use _ _ _) ?_; omega)
    | (simp [St.mass, ownSum]; done)
    | omega
theorem mass_behind (a : After) (s : St) : (behind a s).mass ≤ s.mass + 1 := by
  cases a with
  | nothing => simp [behind]
  | out =>
    simp only [behind, St.mass]
    cases s.own with
    | nil => simp [ownSum]
    | cons m r => simp [ownSum]; omega
  | declare b =>
    have := ownSum_declared s.own (s.nameOf b) b
    simp only [behind, St.mass]
    omega
end Bn
end Go.Proofs.YtnndgjnihhafbaaGreatDoor
