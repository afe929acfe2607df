/-
  Several texts in one, as they are: BnShape, BnPlaces, BnRef.
-/
import Derived.Test.YtnndgjnihhafbaaGreatDoorBnMath

/-
  Which nodes may stand where, in a right tree.
-/
namespace Go.Proofs.YtnndgjnihhafbaaGreatDoor
namespace Bn

theorem kid_fits {r : List Int} : ∀ {l : List Tr} {i : Nat} {y : Tr}, Tr.kidsFit r i l = true → y ∈ l → ∃ j : Nat, Tr.fitsRow r y.k j = true
  | [], _, _, _, h => by cases h
  | x :: l, i, y, hf, h => by
    rw [Tr.kidsFit, Bool.and_eq_true] at hf
    rcases List.mem_cons.1 h with rfl | h
    · exact ⟨i, hf.1⟩
    · exact kid_fits hf.2 h
theorem ok_parts {x : Tr} (h : Tr.kidsOk x = true) : ∃ r, Tr.table x.k = some r ∧ Tr.holdsRow r x.kids.length = true ∧ Tr.kidsFit r 0 x.kids = true := by
  unfold Tr.kidsOk at h
  split at h
  · cases h
  · next r hr =>
    simp only [Bool.and_eq_true] at h
    exact ⟨r, hr, h.1.1, h.1.2⟩
theorem right_ok {m : Nat} {x : Tr} (h : Tr.right m x = true) : Tr.kidsOk x = true ∧ ∀ y ∈ x.kids, Tr.right (m - 1) y = true := by
  cases m with
  | zero => rw [Tr.right] at h; cases h
  | succ m =>
    rw [Tr.right] at h
    simp only [Bool.and_eq_true, List.all_eq_true] at h
    exact ⟨h.1.2, h.2⟩
theorem ok_parent {x y : Tr} (h : Tr.kidsOk x = true) (hy : y ∈ x.kids) : (y.k = 2 → x.k = 1) ∧ (y.k = 3 → x.k = 2) ∧ (y.k = 4 → x.k = 3) ∧ (y.k = 6 → x.k = 5) ∧ y.k ≠ 1 := by
  obtain ⟨r, hr, -, hf⟩ := ok_parts h
  obtain ⟨j, hj⟩ := kid_fits hf hy
  unfold Tr.table at hr
  split at hr <;> first | cases hr | skip
  all_goals
    rename_i hk
    rw [hk]
    simp only [Tr.fitsRow, Tr.endless, Tr.stands] at hj
    refine ⟨fun e => ?_, fun e => ?_, fun e => ?_, fun e => ?_, fun e => ?_⟩
    all_goals first | rfl | skip
    all_goals
      exfalso
      rw [e] at hj
      rcases j with _ | _ | _ | j <;> simp at hj <;> omega
theorem ok_leaf {x : Tr} (h : Tr.kidsOk x = true) (hk : x.k = 4 ∨ x.k = 22) : x.kids = [] := by
  obtain ⟨r, hr, hl, -⟩ := ok_parts h
  rcases hk with hk | hk <;> rw [hk] at hr <;> cases hr <;> simpa [Tr.holdsRow, Tr.endless] using hl
theorem ok_func {x : Tr} (h : Tr.kidsOk x = true) (hk : x.k = 2) : ∃ a b, x.kids = [a, b] ∧ a.k = 3 ∧ b.k = 5 := by
  obtain ⟨r, hr, hl, hf⟩ := ok_parts h
  rw [hk] at hr
  cases hr
  match hx : x.kids with
  | [] => rw [hx] at hl; simp [Tr.holdsRow, Tr.endless] at hl
  | [_] => rw [hx] at hl; simp [Tr.holdsRow, Tr.endless] at hl
  | [a, b] =>
    rw [hx] at hf
    simp [Tr.kidsFit, Tr.fitsRow, Tr.endless, Tr.stands] at hf
    exact ⟨a, b, rfl, hf.1, hf.2⟩
  | _ :: _ :: _ :: _ => rw [hx] at hl; simp [Tr.holdsRow, Tr.endless] at hl
theorem ok_params {x : Tr} (h : Tr.kidsOk x = true) (hk : x.k = 3) : ∀ y ∈ x.kids, y.k = 4 := by
  obtain ⟨r, hr, -, hf⟩ := ok_parts h
  rw [hk] at hr
  cases hr
  intro y hy
  obtain ⟨j, hj⟩ := kid_fits hf hy
  simp [Tr.fitsRow, Tr.endless, Tr.stands] at hj
  exact hj
theorem ok_file {x : Tr} (h : Tr.kidsOk x = true) (hk : x.k = 1) : ∀ y ∈ x.kids, y.k = 2 := by
  obtain ⟨r, hr, -, hf⟩ := ok_parts h
  rw [hk] at hr
  cases hr
  intro y hy
  obtain ⟨j, hj⟩ := kid_fits hf hy
  simp [Tr.fitsRow, Tr.endless, Tr.stands] at hj
  exact hj
end Bn
end Go.Proofs.YtnndgjnihhafbaaGreatDoor

/-
  Nodes with their paths, in preorder; the reach of a binder.
-/
namespace Go.Proofs.YtnndgjnihhafbaaGreatDoor
namespace Bn

/-- A node of a file, and its path. -/
structure Pl where
  n : Tr
  p : List Nat

mutual
def placesOf : Tr → List Nat → List Pl
  | .mk k t n l, p => ⟨.mk k t n l, p⟩ :: placesL l 0 p
def placesL : List Tr → Nat → List Nat → List Pl
  | [], _, _ => []
  | x :: r, c, p => placesOf x (p ++ [c]) ++ placesL r (c + 1) p
end
theorem placesOf_eq (x : Tr) (p : List Nat) : placesOf x p = ⟨x, p⟩ :: placesL x.kids 0 p := by cases x; rw [placesOf]; rfl
theorem placesL_nil (c : Nat) (p : List Nat) : placesL [] c p = [] := by rw [placesL]
theorem placesL_cons (x : Tr) (r : List Tr) (c : Nat) (p : List Nat) : placesL (x :: r) c p = placesOf x (p ++ [c]) ++ placesL r (c + 1) p := by rw [placesL]
theorem placesL_append (a b : List Tr) : ∀ (c : Nat) (p : List Nat), placesL (a ++ b) c p = placesL a c p ++ placesL b (c + a.length) p := by
  induction a with
  | nil => intro c p; simp [placesL_nil]
  | cons x r ih => intro c p; rw [List.cons_append, placesL_cons, placesL_cons, ih, List.append_assoc, List.length_cons, show c + 1 + r.length = c + (r.length + 1) by omega]
mutual
theorem placesOf_len : ∀ (x : Tr) (p : List Nat), (placesOf x p).length = x.size
  | .mk k t n l, p => by rw [placesOf, Tr.size, List.length_cons, placesL_len l]; omega
theorem placesL_len : ∀ (l : List Tr) (c : Nat) (p : List Nat), (placesL l c p).length = Tr.sizes l
  | [], c, p => by rw [placesL]; rfl
  | x :: r, c, p => by rw [placesL, Tr.sizes, List.length_append, placesOf_len x, placesL_len r]
end
mutual
theorem placesOf_prefix : ∀ (x : Tr) (p : List Nat), ∀ b ∈ placesOf x p, p <+: b.p
  | .mk k t n l, p => fun b hb => by
    rw [placesOf] at hb
    rcases List.mem_cons.1 hb with rfl | hb
    · exact List.prefix_refl _
    · obtain ⟨j, r, -, -, e⟩ := placesL_prefix l 0 p b hb
      exact ⟨j :: r, e.symm⟩
theorem placesL_prefix : ∀ (l : List Tr) (c : Nat) (p : List Nat), ∀ b ∈ placesL l c p, ∃ j r, c ≤ j ∧ j < c + l.length ∧ b.p = p ++ j :: r
  | [], c, p => fun b hb => by rw [placesL] at hb; cases hb
  | x :: l, c, p => fun b hb => by
    rw [placesL] at hb
    rcases List.mem_append.1 hb with hb | hb
    · obtain ⟨r, e⟩ := placesOf_prefix x (p ++ [c]) b hb
      exact ⟨c, r, Nat.le_refl _, by simp, by rw [← e]; simp⟩
    · obtain ⟨j, r, h1, h2, e⟩ := placesL_prefix l (c + 1) p b hb
      exact ⟨j, r, by omega, by simp; omega, e⟩
end

def isPV (x : Tr) : Bool := x.k == 4 || x.k == 6
def isBinder (x : Tr) : Bool := x.k == 2 || x.k == 4 || x.k == 6
def isUse (x : Tr) : Bool := x.k == 22 || x.k == 25

/-- Is a path in the reach of a Param or Var? -/
def reach (b : Pl) (q : List Nat) : Bool :=
  if b.n.k = 4 then decide (b.p.take (b.p.length - 2) ++ [1] <+: q)
  else decide (b.p.length ≤ q.length) && decide (b.p.take (b.p.length - 1) <+: q) && decide (b.p.getD (b.p.length - 1) 0 < q.getD (b.p.length - 1) 0)
/-- Where Params, Vars and Funcs may stand. -/
def Good (x : Tr) (p : List Nat) : Prop := (x.k = 2 → ∃ j, p = [j]) ∧ (x.k = 3 → ∃ j, p = [j, 0]) ∧ (x.k = 4 → ∃ f j, p = f ++ [0, j] ∧ f ≠ []) ∧ (x.k = 6 → ∃ q j, p = q ++ [j] ∧ q ≠ []) ∧ (x.k = 5 → p ≠ [])
theorem prefix_cons_iff {f q : List Nat} {i : Nat} : f ++ [i] <+: q ↔ ∃ r, q = f ++ i :: r := by
  constructor
  · rintro ⟨r, rfl⟩; exact ⟨r, by simp⟩
  · rintro ⟨r, rfl⟩; exact ⟨r, by simp⟩
theorem reach_param {b : Pl} {f q : List Nat} {j : Nat} (hk : b.n.k = 4) (hp : b.p = f ++ [0, j]) : reach b q = true ↔ ∃ r, q = f ++ 1 :: r := by
  unfold reach
  rw [if_pos hk, hp, decide_eq_true_iff, show (f ++ [0, j]).length - 2 = f.length by simp, List.take_left' rfl, prefix_cons_iff]
theorem reach_var {b : Pl} {f q : List Nat} {j : Nat} (hk : b.n.k = 6) (hp : b.p = f ++ [j]) : reach b q = true ↔ ∃ i r, q = f ++ i :: r ∧ j < i := by
  unfold reach
  rw [if_neg (by rw [hk]; decide), hp, show (f ++ [j]).length - 1 = f.length by simp, List.take_left' rfl]
  simp only [Bool.and_eq_true, decide_eq_true_iff]
  constructor
  · rintro ⟨⟨h1, r, rfl⟩, h3⟩
    cases r with
    | nil => simp at h1; omega
    | cons i r => exact ⟨i, r, rfl, by simpa [List.getD_eq_getElem?_getD] using h3⟩
  · rintro ⟨i, r, rfl, h⟩
    exact ⟨⟨by simp, List.prefix_append _ _⟩, by simpa [List.getD_eq_getElem?_getD] using h⟩
/-- Of two ways through one node. -/
theorem split_eq {f p : List Nat} : ∀ {i c : Nat} {r s : List Nat}, f ++ i :: r = p ++ c :: s → (∃ u, p = f ++ i :: u) ∨ (f = p ∧ i = c ∧ r = s) ∨ (∃ u, f = p ++ c :: u) := by
  induction f generalizing p with
  | nil =>
    intro i c r s h
    cases p with
    | nil => injection h with h1 h2; exact .inr (.inl ⟨rfl, h1, h2⟩)
    | cons y p => injection h with h1 h2; subst h1; exact .inl ⟨p, rfl⟩
  | cons x f ih =>
    intro i c r s h
    cases p with
    | nil => injection h with h1 h2; subst h1; exact .inr (.inr ⟨f, rfl⟩)
    | cons y p =>
      injection h with h1 h2
      subst h1
      rcases ih h2 with ⟨u, rfl⟩ | ⟨rfl, rfl, rfl⟩ | ⟨u, rfl⟩
      · exact .inl ⟨u, rfl⟩
      · exact .inr (.inl ⟨rfl, rfl, rfl⟩)
      · exact .inr (.inr ⟨u, rfl⟩)
theorem cancel {p r s : List Nat} {i c : Nat} (h : p ++ i :: r = p ++ c :: s) : i = c ∧ r = s := by
  have := List.append_cancel_left h
  injection this with a b; exact ⟨a, b⟩
theorem isPV_cases {b : Pl} (hg : Good b.n b.p) (h : isPV b.n = true) : (b.n.k = 4 ∧ ∃ f j, b.p = f ++ [0, j]) ∨ (b.n.k = 6 ∧ ∃ q j, b.p = q ++ [j]) := by
  simp only [isPV, Bool.or_eq_true, beq_iff_eq] at h
  rcases h with h | h
  · obtain ⟨q, j, e, -⟩ := hg.2.2.1 h
    exact .inl ⟨h, q, j, e⟩
  · obtain ⟨q, j, e, -⟩ := hg.2.2.2.1 h
    exact .inr ⟨h, q, j, e⟩
/-- A binder does not reach what is ahead on the way to it. -/
theorem reach_up {b : Pl} {p r : List Nat} (hg : Good b.n b.p) (h : isPV b.n = true) (hp : b.p = p ++ r) : reach b p = false := by
  rw [Bool.eq_false_iff]
  intro hr
  rcases isPV_cases hg h with ⟨hk, f, j, e⟩ | ⟨hk, f, j, e⟩
  · obtain ⟨u, rfl⟩ := (reach_param hk e).1 hr
    rw [hp, List.append_assoc, List.cons_append] at e
    have := cancel e
    omega
  · obtain ⟨i, u, rfl, hi⟩ := (reach_var hk e).1 hr
    rw [hp, List.append_assoc, List.cons_append] at e
    have := (cancel e).1
    omega
/-- What reaches a kid, of what is not in the node: what reaches the node. -/
theorem reach_kid {b : Pl} {p : List Nat} {c : Nat} (hg : Good b.n b.p) (h : isPV b.n = true) (hn : ¬ p <+: b.p) : reach b (p ++ [c]) = reach b p := by
  rw [Bool.eq_iff_iff]
  rcases isPV_cases hg h with ⟨hk, f, j, e⟩ | ⟨hk, f, j, e⟩
  · rw [reach_param hk e, reach_param hk e]
    constructor
    · rintro ⟨r, hr⟩
      rcases split_eq hr.symm with ⟨u, e2⟩ | ⟨rfl, -, -⟩ | ⟨u, rfl⟩
      · exact ⟨u, e2⟩
      · exact absurd ⟨_, e.symm⟩ hn
      · exact absurd ⟨_, by rw [e, List.append_assoc]⟩ hn
    · rintro ⟨r, rfl⟩; exact ⟨r ++ [c], by simp⟩
  · rw [reach_var hk e, reach_var hk e]
    constructor
    · rintro ⟨i, r, hr, hi⟩
      rcases split_eq hr.symm with ⟨u, e2⟩ | ⟨rfl, -, -⟩ | ⟨u, rfl⟩
      · exact ⟨i, u, e2, hi⟩
      · exact absurd ⟨_, e.symm⟩ hn
      · exact absurd ⟨_, by rw [e, List.append_assoc]⟩ hn
    · rintro ⟨i, r, rfl, hi⟩; exact ⟨i, r ++ [c], by simp, hi⟩
/-- What reaches a kid, of what is in an earlier kid: that kid, if it is a Var; a Func's Params. -/
theorem reach_in {b : Pl} {p r : List Nat} {c j : Nat} (hg : Good b.n b.p) (h : isPV b.n = true) (hp : b.p = p ++ j :: r) (hj : j < c) : reach b (p ++ [c]) = true ↔ (b.n.k = 6 ∧ r = []) ∨ (b.n.k = 4 ∧ j = 0 ∧ c = 1 ∧ ∃ i, r = [i]) := by
  rcases isPV_cases hg h with ⟨hk, f, i, e⟩ | ⟨hk, f, i, e⟩
  · rw [reach_param hk e]
    rw [hp] at e
    constructor
    · rintro ⟨u, hu⟩
      rcases split_eq hu.symm with ⟨v, rfl⟩ | ⟨rfl, rfl, rfl⟩ | ⟨v, rfl⟩
      · rw [List.append_assoc, List.cons_append] at e
        have := (cancel e).1
        omega
      · have := cancel e
        exact .inr ⟨hk, this.1, rfl, _, this.2⟩
      · rw [List.append_assoc, List.cons_append] at e
        have := (cancel e).1
        omega
    · rintro (⟨h6, -⟩ | ⟨-, rfl, rfl, u, rfl⟩)
      · rw [hk] at h6; exact absurd h6 (by decide)
      · have e2 : p ++ [0] ++ [u] = f ++ [0] ++ [i] := by simpa using e
        have e3 := (List.append_inj' e2 rfl).1
        have e4 := (List.append_inj' e3 rfl).1
        exact ⟨[], by rw [e4]⟩
  · rw [reach_var hk e]
    rw [hp] at e
    constructor
    · rintro ⟨i2, u, hu, hi⟩
      rcases split_eq hu.symm with ⟨v, rfl⟩ | ⟨rfl, rfl, rfl⟩ | ⟨v, rfl⟩
      · rw [List.append_assoc, List.cons_append] at e
        have := (cancel e).2
        simp at this
      · exact .inl ⟨hk, (cancel e).2⟩
      · rw [List.append_assoc, List.cons_append] at e
        have := (cancel e).1
        omega
    · rintro (⟨-, rfl⟩ | ⟨h4, -⟩)
      · have e2 := List.append_inj' e rfl
        obtain ⟨rfl, e3⟩ := e2
        injection e3 with e3 _
        subst e3
        exact ⟨c, [], rfl, hj⟩
      · rw [hk] at h4; exact absurd h4 (by decide)
/-- What comes later does not reach what comes earlier. -/
theorem reach_later {b : Pl} {p r s : List Nat} {c j : Nat} (hg : Good b.n b.p) (h : isPV b.n = true) (hp : b.p = p ++ j :: r) (hj : c < j) : reach b (p ++ c :: s) = false := by
  rw [Bool.eq_false_iff]
  intro hr
  rcases isPV_cases hg h with ⟨hk, f, i, e⟩ | ⟨hk, f, i, e⟩
  · obtain ⟨u, hu⟩ := (reach_param hk e).1 hr
    rw [hp] at e
    rcases split_eq hu.symm with ⟨v, rfl⟩ | ⟨rfl, rfl, rfl⟩ | ⟨v, rfl⟩
    · rw [List.append_assoc, List.cons_append] at e
      have := (cancel e).1
      omega
    · have := (cancel e).1
      omega
    · rw [List.append_assoc, List.cons_append] at e
      have := (cancel e).1
      omega
  · obtain ⟨i2, u, hu, hi⟩ := (reach_var hk e).1 hr
    rw [hp] at e
    rcases split_eq hu.symm with ⟨v, rfl⟩ | ⟨rfl, rfl, rfl⟩ | ⟨v, rfl⟩
    · rw [List.append_assoc, List.cons_append] at e
      have := (cancel e).2
      simp at this
    · have := (cancel e).1
      omega
    · rw [List.append_assoc, List.cons_append] at e
      have := (cancel e).1
      omega

/-- All stand where they may. -/
theorem good_kid {m : Nat} {x y : Tr} {p : List Nat} {c : Nat} (hr : Tr.right m x = true) (hg : Good x p) (h1 : x.k = 1 → p = []) (hy : x.kids[c]? = some y) : Good y (p ++ [c]) := by
  have hm := List.mem_of_getElem? hy
  obtain ⟨a1, a2, a3, a4, -⟩ := ok_parent (right_ok hr).1 hm
  refine ⟨fun e => ?_, fun e => ?_, fun e => ?_, fun e => ⟨p, c, rfl, hg.2.2.2.2 (a4 e)⟩, fun _ => by simp⟩
  · rw [h1 (a1 e)]; exact ⟨c, rfl⟩
  · obtain ⟨j, rfl⟩ := hg.1 (a2 e)
    obtain ⟨a, b, hk, ha, hb⟩ := ok_func (right_ok hr).1 (a2 e)
    rw [hk] at hy
    match c, hy with
    | 0, _ => exact ⟨j, rfl⟩
    | 1, hy => cases hy; rw [hb] at e; exact absurd e (by decide)
    | c + 2, hy => simp at hy
  · obtain ⟨j, rfl⟩ := hg.2.1 (a3 e)
    exact ⟨[j], c, rfl, by simp⟩
mutual
theorem good_all : ∀ (x : Tr) (m : Nat) (p : List Nat), Tr.right m x = true → Good x p → (x.k = 1 → p = []) → ∀ b ∈ placesOf x p, Good b.n b.p
  | .mk k t n l, m, p => fun hr hg h1 b hb => by
    rw [placesOf] at hb
    rcases List.mem_cons.1 hb with rfl | hb
    · exact hg
    · refine good_allL l (m - 1) 0 p (fun i y hy => ⟨(right_ok hr).2 y (List.mem_of_getElem? hy), by rw [Nat.zero_add]; exact good_kid hr hg h1 hy, fun e => absurd e (ok_parent (right_ok hr).1 (List.mem_of_getElem? hy)).2.2.2.2⟩) b hb
theorem good_allL : ∀ (l : List Tr) (m c : Nat) (p : List Nat), (∀ i y, l[i]? = some y → Tr.right m y = true ∧ Good y (p ++ [c + i]) ∧ y.k ≠ 1) → ∀ b ∈ placesL l c p, Good b.n b.p
  | [], m, c, p => fun _ b hb => by rw [placesL] at hb; cases hb
  | x :: l, m, c, p => fun h b hb => by
    rw [placesL] at hb
    rcases List.mem_append.1 hb with hb | hb
    · obtain ⟨h1, h2, h3⟩ := h 0 x rfl
      exact good_all x m (p ++ [c]) h1 h2 (fun e => absurd e h3) b hb
    · exact good_allL l m (c + 1) p (fun i y hy => by rw [Nat.add_assoc, Nat.add_comm 1 i]; exact h (i + 1) y hy) b hb
end

/-- Later ones are not on the way to earlier ones, and do not reach them. -/
def Later (a b : Pl) : Prop := ¬ b.p <+: a.p ∧ (isPV b.n = true → reach b a.p = false)
mutual
theorem later_of : ∀ (x : Tr) (p : List Nat), (∀ b ∈ placesOf x p, Good b.n b.p) → (placesOf x p).Pairwise Later
  | .mk k t n l, p => fun hg => by
    rw [placesOf] at hg ⊢
    refine List.pairwise_cons.2 ⟨fun b hb => ?_, later_ofL l 0 p (fun b hb => hg b (List.mem_cons_of_mem _ hb))⟩
    obtain ⟨j, r, -, -, e⟩ := placesL_prefix l 0 p b hb
    refine ⟨fun h => ?_, fun h => reach_up (hg b (List.mem_cons_of_mem _ hb)) h e⟩
    have := h.length_le
    rw [e] at this
    simp at this
    omega
theorem later_ofL : ∀ (l : List Tr) (c : Nat) (p : List Nat), (∀ b ∈ placesL l c p, Good b.n b.p) → (placesL l c p).Pairwise Later
  | [], c, p => fun _ => by rw [placesL]; exact List.Pairwise.nil
  | x :: l, c, p => fun hg => by
    rw [placesL] at hg ⊢
    refine List.pairwise_append.2 ⟨later_of x (p ++ [c]) (fun b hb => hg b (List.mem_append_left _ hb)), later_ofL l (c + 1) p (fun b hb => hg b (List.mem_append_right _ hb)), fun a ha b hb => ?_⟩
    obtain ⟨s, e1⟩ := placesOf_prefix x (p ++ [c]) a ha
    obtain ⟨j, r, h1, -, e2⟩ := placesL_prefix l (c + 1) p b hb
    rw [List.append_assoc, List.singleton_append] at e1
    refine ⟨fun h => ?_, fun h => ?_⟩
    · rw [e2, ← e1] at h
      obtain ⟨u, h⟩ := h
      rw [List.append_assoc, List.cons_append] at h
      have := (cancel h).1
      omega
    · rw [← e1]
      exact reach_later (hg b (List.mem_append_right _ hb)) h e2 (by omega)
end
end Bn
end Go.Proofs.YtnndgjnihhafbaaGreatDoor

/-
  What the document tells of names, in its own words: each use looks at all binders.
-/
namespace Go.Proofs.YtnndgjnihhafbaaGreatDoor
namespace Bn

/-- What a Name stands for: the last one whose reach it is in. -/
def nameStands (L : List Pl) (q : List UInt8) (p : List Nat) : Option Pl := L.reverse.find? fun b => (isPV b.n && reach b p) && decide (b.n.t = q)
/-- What a Call stands for: the first Func of its name. -/
def callStands (L : List Pl) (q : List UInt8) : Option Pl := L.find? fun b => decide (b.n.k = 2) && decide (b.n.t = q)
def standsFor (L : List Pl) (u : Pl) : Option Pl := if u.n.k = 25 then callStands L u.n.t else nameStands L u.n.t u.p
/-- Is there one beside it, among these, of its name? -/
def twice (P : List Pl) (u : Pl) : Bool := P.any fun b => decide (b.n.k = u.n.k) && decide (b.n.t = u.n.t) && decide (b.p.length = u.p.length) && decide (u.p.take (u.p.length - 1) <+: b.p)
def fault1 (P : List Pl) (u : Pl) : Option Nat := if u.n.k = 2 ∧ twice P u = true then some 110 else none
def fault2 (L P : List Pl) (u : Pl) : Option Nat :=
  if u.n.k = 4 ∨ u.n.k = 6 then (if twice P u = true then some 110 else none)
  else if u.n.k = 22 ∨ u.n.k = 25 then
    match standsFor L u with
    | none => some 111
    | some b => if u.n.k = 25 ∧ u.n.kids.length ≠ params b.n then some 112 else none
  else none
/-- The first fault, and its number; the first ones of a row have none. -/
def firstFault (f : List Pl → Pl → Option Nat) : List Pl → List Pl → Option (Nat × Nat)
  | _, [] => none
  | P, u :: r => match f P u with
    | some e => some (e, P.length)
    | none => firstFault f (P ++ [u]) r
theorem firstFault_append (f : List Pl → Pl → Option Nat) : ∀ (a P b : List Pl), firstFault f P (a ++ b) = match firstFault f P a with | some e => some e | none => firstFault f (P ++ a) b
  | [], P, b => by simp [firstFault]
  | u :: a, P, b => by
    rw [List.cons_append, firstFault, firstFault]
    cases f P u with
    | some e => rfl
    | none => simp only; rw [firstFault_append f a (P ++ [u]) b, List.append_assoc, List.singleton_append]
/-- Does a use stand for a binder? -/
def isFor (L : List Pl) (b u : Pl) : Bool := isUse u.n && match standsFor L u with | some x => decide (x.p = b.p) | none => false
/-- The uses of a binder, among these. -/
def usesIn (L P : List Pl) (b : Pl) : List (List Nat) := (P.filter (isFor L b)).map (·.p)
def paramsOf' (x : Tr) : Nat := if x.k = 2 then params x else 0
def bd (L P : List Pl) (b : Pl) : Bd := ⟨b.p, b.n.t, usesIn L P b, paramsOf' b.n⟩
/-- What is told of a file. -/
def refBound (t : Tr) : Except (Nat × Nat) (List Bd) :=
  if t.k = 1 ∧ Tr.right 40 t = true then
    match firstFault fault1 [] (placesOf t []) with
    | some f => .error f
    | none => match firstFault (fault2 (placesOf t [])) [] (placesOf t []) with
      | some f => .error f
      | none => .ok (((placesOf t []).filter fun b => isBinder b.n).map (bd (placesOf t []) (placesOf t [])))
  else .error (4, 0)

/-- A file's nodes: each where it may stand, later ones apart from earlier ones. -/
structure File (L : List Pl) : Prop where
  later : L.Pairwise Later
  good : ∀ b ∈ L, Good b.n b.p
theorem File.of {t : Tr} (hr : Tr.right 40 t = true) (hk : t.k = 1) : File (placesOf t []) := by
  have hg := good_all t 40 [] hr ⟨fun e => by rw [hk] at e; exact absurd e (by decide), fun e => by rw [hk] at e; exact absurd e (by decide), fun e => by rw [hk] at e; exact absurd e (by decide), fun e => by rw [hk] at e; exact absurd e (by decide), fun e => by rw [hk] at e; exact absurd e (by decide)⟩ (fun _ => rfl)
  exact ⟨later_of t [] hg, hg⟩
theorem File.inj {L : List Pl} (h : File L) {i j : Nat} {a b : Pl} (ha : L[i]? = some a) (hb : L[j]? = some b) (he : a.p = b.p) : i = j := by
  obtain ⟨hi, rfl⟩ := List.getElem?_eq_some_iff.1 ha
  obtain ⟨hj, rfl⟩ := List.getElem?_eq_some_iff.1 hb
  rcases Nat.lt_trichotomy i j with hij | hij | hij
  · exact absurd (he ▸ List.prefix_refl _) (List.pairwise_iff_getElem.1 h.later i j hi hj hij).1
  · exact hij
  · exact absurd (he ▸ List.prefix_refl _) (List.pairwise_iff_getElem.1 h.later j i hj hi hij).1
theorem File.inj_mem {L : List Pl} (h : File L) {a b : Pl} (ha : a ∈ L) (hb : b ∈ L) (he : a.p = b.p) : a = b := by
  obtain ⟨i, hi⟩ := List.getElem?_of_mem ha
  obtain ⟨j, hj⟩ := List.getElem?_of_mem hb
  have := h.inj hi hj he
  subst this
  rw [hi] at hj
  injection hj
theorem File.nodup {L l : List Pl} (h : File L) (hs : l.Sublist L) : (l.map (·.p)).Nodup := by
  refine List.pairwise_map.2 ((h.later.sublist hs).imp ?_)
  intro a b hl he
  exact hl.1 (he ▸ List.prefix_refl _)
/-- What stands behind a node, or is it, does not reach it; what stands ahead of it is not in it. -/
theorem File.split {L P R : List Pl} {u : Pl} (h : File L) (hL : L = P ++ u :: R) : (∀ b ∈ P, ¬ u.p <+: b.p) ∧ (∀ b ∈ u :: R, isPV b.n = true → reach b u.p = false) := by
  have hp := h.later
  rw [hL] at hp
  obtain ⟨-, h2, h3⟩ := List.pairwise_append.1 hp
  refine ⟨fun b hb => (h3 b hb u (List.mem_cons_self)).1, fun b hb hv => ?_⟩
  rcases List.mem_cons.1 hb with rfl | hb
  · exact reach_up (h.good _ (by rw [hL]; simp)) hv (List.append_nil _).symm
  · exact ((List.pairwise_cons.1 h2).1 b hb).2 hv
theorem find_none_of {l : List Pl} {f : Pl → Bool} (h : ∀ b ∈ l, f b = false) : l.find? f = none := List.find?_eq_none.2 fun b hb => by rw [h b hb]; decide
/-- What stands behind a Name plays no part in what it stands for. -/
theorem File.stands {L P R : List Pl} {u : Pl} (h : File L) (hL : L = P ++ u :: R) (q : List UInt8) : nameStands L q u.p = nameStands P q u.p := by
  obtain ⟨-, h2⟩ := h.split hL
  unfold nameStands
  rw [hL, List.reverse_append, List.find?_append, find_none_of (l := (u :: R).reverse) (fun b hb => ?_)]
  · rfl
  · cases hv : isPV b.n with
    | false => rfl
    | true => rw [h2 b (List.mem_reverse.1 hb) hv]; rfl
theorem nameStands_mem {L : List Pl} {q : List UInt8} {p : List Nat} {b : Pl} (h : nameStands L q p = some b) : b ∈ L ∧ isPV b.n = true ∧ reach b p = true ∧ b.n.t = q := by
  unfold nameStands at h
  have h1 := List.mem_of_find?_eq_some h
  have h2 := List.find?_some h
  simp only [Bool.and_eq_true, decide_eq_true_iff] at h2
  exact ⟨List.mem_reverse.1 h1, h2.1.1, h2.1.2, h2.2⟩
theorem callStands_mem {L : List Pl} {q : List UInt8} {b : Pl} (h : callStands L q = some b) : b ∈ L ∧ b.n.k = 2 ∧ b.n.t = q := by
  unfold callStands at h
  have h1 := List.mem_of_find?_eq_some h
  have h2 := List.find?_some h
  simp only [Bool.and_eq_true, decide_eq_true_iff] at h2
  exact ⟨h1, h2.1, h2.2⟩
theorem standsFor_mem {L : List Pl} {u b : Pl} (h : standsFor L u = some b) : b ∈ L ∧ (u.n.k = 25 → b.n.k = 2) ∧ (u.n.k ≠ 25 → isPV b.n = true ∧ reach b u.p = true) ∧ b.n.t = u.n.t := by
  unfold standsFor at h
  split at h
  · next hk => obtain ⟨a, b, c⟩ := callStands_mem h; exact ⟨a, fun _ => b, fun e => absurd hk e, c⟩
  · next hk => obtain ⟨a, b, c, d⟩ := nameStands_mem h; exact ⟨a, fun e => absurd e hk, fun _ => ⟨b, c⟩, d⟩
theorem usesIn_snoc (L P : List Pl) (u b : Pl) : usesIn L (P ++ [u]) b = usesIn L P b ++ if isFor L b u = true then [u.p] else [] := by
  unfold usesIn
  rw [List.filter_append, List.map_append]
  congr 1
  cases h : isFor L b u <;> simp [h]
/-- No use stands for a Param or Var ahead of it. -/
theorem File.uses_none {L P R : List Pl} {u : Pl} (h : File L) (hL : L = P ++ u :: R) (hv : isPV u.n = true) : usesIn L P u = [] := by
  unfold usesIn
  rw [List.filter_eq_nil_iff.2, List.map_nil]
  intro w hw hf
  unfold isFor at hf
  rw [Bool.and_eq_true] at hf
  obtain ⟨-, hf⟩ := hf
  split at hf
  · next x hx =>
    rw [decide_eq_true_iff] at hf
    obtain ⟨m1, m2, m3, -⟩ := standsFor_mem hx
    have hu : u ∈ L := by rw [hL]; simp
    have := h.inj_mem m1 hu hf
    subst this
    by_cases hk : w.n.k = 25
    · have := m2 hk
      simp [isPV, this] at hv
    · have h9 := (m3 hk).2
      have hp := h.later
      rw [hL] at hp
      obtain ⟨-, -, h3⟩ := List.pairwise_append.1 hp
      rw [(h3 w hw x List.mem_cons_self).2 hv] at h9
      cases h9
  · cases hf
end Bn
end Go.Proofs.YtnndgjnihhafbaaGreatDoor
