/-
  Of a file without a fault each use is one of just one binder.
-/
import Derived.Test.YtnndgjnihhafbaaGreatDoorBnPass
namespace Go.Proofs.YtnndgjnihhafbaaGreatDoor
namespace Bn

abbrev ints (p : List Nat) : List Int := p.map fun (n : Nat) => (n : Int)
mutual
theorem get_place : ∀ (x : Tr) (p : List Nat), ∀ b ∈ placesOf x p, ∃ r, b.p = p ++ r ∧ Tr.get (ints r) x = some b.n
  | .mk k t n l, p => fun b hb => by
    rw [placesOf] at hb
    rcases List.mem_cons.1 hb with rfl | hb
    · exact ⟨[], by simp, rfl⟩
    · obtain ⟨j, y, r, h1, h2, h3⟩ := get_placeL l 0 p b hb
      refine ⟨j :: r, by simpa using h1, ?_⟩
      rw [Nat.sub_zero] at h2
      show Tr.get ((j : Int) :: ints r) _ = _
      rw [Tr.get_in (x := .mk k t n l) (i := j) h2]
      exact h3
theorem get_placeL : ∀ (l : List Tr) (c : Nat) (p : List Nat), ∀ b ∈ placesL l c p, ∃ j y r, b.p = p ++ j :: r ∧ l[j - c]? = some y ∧ Tr.get (ints r) y = some b.n
  | [], c, p => fun b hb => by rw [placesL] at hb; cases hb
  | x :: l, c, p => fun b hb => by
    rw [placesL] at hb
    rcases List.mem_append.1 hb with hb | hb
    · obtain ⟨r, h1, h2⟩ := get_place x (p ++ [c]) b hb
      exact ⟨c, x, r, by rw [h1]; simp, by rw [Nat.sub_self]; rfl, h2⟩
    · obtain ⟨j, y, r, h1, h2, h3⟩ := get_placeL l (c + 1) p b hb
      obtain ⟨i, q, hc, -, hq⟩ := placesL_prefix l (c + 1) p b hb
      have hij := (cancel (h1.symm.trans hq)).1
      exact ⟨j, y, r, h1, by rw [show j - c = (j - (c + 1)) + 1 by omega]; exact h2, h3⟩
end
theorem get_at {t : Tr} {b : Pl} (hb : b ∈ placesOf t []) : Tr.get (ints b.p) t = some b.n := by
  obtain ⟨r, h1, h2⟩ := get_place t [] b hb
  rw [h1]; exact h2
mutual
/-- How many Names and Calls there are. -/
def usesN : Tr → Nat
  | .mk k _ _ l => (if k = 22 ∨ k = 25 then 1 else 0) + usesNL l
def usesNL : List Tr → Nat
  | [] => 0
  | x :: r => usesN x + usesNL r
end
theorem usesNL_append (a b : List Tr) : usesNL (a ++ b) = usesNL a + usesNL b := by
  induction a with
  | nil => simp [usesNL]
  | cons x r ih => simp [usesNL, ih]; omega
mutual
theorem uses_places : ∀ (x : Tr) (p : List Nat), ((placesOf x p).filter fun u => isUse u.n).length = usesN x
  | .mk k t n l, p => by
    rw [placesOf, List.filter_cons, usesN]
    have h := uses_placesL l 0 p
    by_cases hk : k = 22 ∨ k = 25
    · have : isUse (Tr.mk k t n l) = true := by simp only [isUse, Bool.or_eq_true, beq_iff_eq]; exact hk
      rw [if_pos this, if_pos hk, List.length_cons, h]; omega
    · have : ¬ isUse (Tr.mk k t n l) = true := by simp only [isUse, Bool.or_eq_true, beq_iff_eq]; exact hk
      rw [if_neg this, if_neg hk, h]; omega
theorem uses_placesL : ∀ (l : List Tr) (c : Nat) (p : List Nat), ((placesL l c p).filter fun u => isUse u.n).length = usesNL l
  | [], c, p => by rw [placesL]; rfl
  | x :: l, c, p => by rw [placesL, List.filter_append, List.length_append, uses_places x, uses_placesL l, usesNL]
end
theorem firstFault_some {f : List Pl → Pl → Option Nat} : ∀ {Q P : List Pl} {e : Nat × Nat}, firstFault f P Q = some e → ∃ P' u, f P' u = some e.1
  | [], P, e, h => by cases h
  | u :: Q, P, e, h => by
    rw [firstFault] at h
    split at h
    · next x hx => injection h with h; exact ⟨P, u, by rw [← h]; exact hx⟩
    · exact firstFault_some h
theorem fault1_ne {P : List Pl} {u : Pl} {e : Nat} (h : fault1 P u = some e) : e ≠ 0 := by
  unfold fault1 at h
  split at h
  · injection h with h; omega
  · cases h
theorem fault2_ne {L P : List Pl} {u : Pl} {e : Nat} (h : fault2 L P u = some e) : e ≠ 0 := by
  unfold fault2 at h
  repeat' split at h
  all_goals first
    | (injection h with h; omega)
    | cases h
/-- No fault: what is told are all binders, with all their uses. -/
theorem no_fault {t : Tr} (h : (match bound t with | .error f => f | .ok _ => (0, 0)).1 = 0) : t.k = 1 ∧ Tr.right 40 t = true ∧ File (placesOf t []) ∧ firstFault fault1 [] (placesOf t []) = none ∧ firstFault (fault2 (placesOf t [])) [] (placesOf t []) = none ∧ bound t = .ok (((placesOf t []).filter fun b => isBinder b.n).map (bd (placesOf t []) (placesOf t []))) := by
  rw [bound_ref] at h ⊢
  unfold refBound at h ⊢
  by_cases hc : t.k = 1 ∧ Tr.right 40 t = true
  · rw [if_pos hc] at h ⊢
    refine ⟨hc.1, hc.2, File.of hc.2 hc.1, ?_⟩
    cases hf : firstFault fault1 [] (placesOf t []) with
    | some f =>
      rw [hf] at h
      obtain ⟨P', u, e⟩ := firstFault_some hf
      exact absurd h (fault1_ne e)
    | none =>
      rw [hf] at h
      cases hf2 : firstFault (fault2 (placesOf t [])) [] (placesOf t []) with
      | some f =>
        rw [hf2] at h
        obtain ⟨P', u, e⟩ := firstFault_some hf2
        exact absurd h (fault2_ne e)
      | none => exact ⟨rfl, rfl, rfl⟩
  · rw [if_neg hc] at h
    exact absurd h (by decide)
/-- Each use stands for a binder. -/
theorem stands_all {L : List Pl} (h : firstFault (fault2 L) [] L = none) {u : Pl} (hu : u ∈ L) (hk : isUse u.n = true) : ∃ b, standsFor L u = some b := by
  obtain ⟨a, r, e⟩ := List.append_of_mem hu
  have h1 := firstFault_none h e
  rw [List.nil_append] at h1
  simp only [isUse, Bool.or_eq_true, beq_iff_eq] at hk
  unfold fault2 at h1
  rw [if_neg (by omega), if_pos hk] at h1
  split at h1
  · cases h1
  · next b hb => exact ⟨b, hb⟩
theorem binder_of {L : List Pl} {u b : Pl} (h : standsFor L u = some b) : isBinder b.n = true ∧ b ∈ L := by
  obtain ⟨h1, h2, h3, -⟩ := standsFor_mem h
  refine ⟨?_, h1⟩
  by_cases hk : u.n.k = 25
  · simp [isBinder, h2 hk]
  · have := (h3 hk).1
    simp only [isPV, Bool.or_eq_true, beq_iff_eq] at this
    simp only [isBinder, Bool.or_eq_true, beq_iff_eq]
    rcases this with h | h <;> simp [h]
theorem isFor_iff {L : List Pl} {b u : Pl} : isFor L b u = true ↔ isUse u.n = true ∧ ∃ x, standsFor L u = some x ∧ x.p = b.p := by
  unfold isFor
  rw [Bool.and_eq_true]
  constructor
  · rintro ⟨h1, h2⟩
    split at h2
    · next x hx => exact ⟨h1, x, hx, of_decide_eq_true h2⟩
    · cases h2
  · rintro ⟨h1, x, h2, h3⟩
    rw [h2]
    exact ⟨h1, decide_eq_true h3⟩
/-- All uses of these binders. -/
def allUses (L : List Pl) (bs : List Pl) : List (List Nat) := bs.flatMap fun b => usesIn L L b
theorem mem_uses {L : List Pl} {b : Pl} {q : List Nat} (h : q ∈ usesIn L L b) : ∃ u ∈ L, u.p = q ∧ isFor L b u = true := by
  unfold usesIn at h
  obtain ⟨u, hu, e⟩ := List.mem_map.1 h
  obtain ⟨h1, h2⟩ := List.mem_filter.1 hu
  exact ⟨u, h1, e, h2⟩
theorem allUses_nodup {L : List Pl} (hF : File L) : ∀ (bs : List Pl), bs.Sublist L → (allUses L bs).Nodup
  | [], _ => by simp [allUses]
  | b :: bs, hs => by
    have hn := hF.nodup hs
    rw [List.map_cons, List.nodup_cons] at hn
    unfold allUses
    rw [List.flatMap_cons]
    refine List.nodup_append.2 ⟨?_, allUses_nodup hF bs ((List.sublist_cons_self b bs).trans hs), fun x hx y hy he => ?_⟩
    · unfold usesIn
      exact hF.nodup List.filter_sublist
    · subst he
      obtain ⟨u, hu, e1, f1⟩ := mem_uses hx
      obtain ⟨b2, hb2, hx2⟩ := List.mem_flatMap.1 hy
      obtain ⟨u2, hu2, e2, f2⟩ := mem_uses hx2
      have := hF.inj_mem hu hu2 (e1.trans e2.symm)
      subst this
      obtain ⟨-, z1, s1, p1⟩ := isFor_iff.1 f1
      obtain ⟨-, z2, s2, p2⟩ := isFor_iff.1 f2
      rw [s1] at s2
      injection s2 with s2
      subst s2
      exact hn.1 (List.mem_map.2 ⟨b2, hb2, by rw [← p2, p1]⟩)
theorem sum_filter {α : Type} (l : List α) (f g : α → Bool) : (l.filter fun x => f x || g x).length + (l.filter fun x => f x && g x).length = (l.filter f).length + (l.filter g).length := by
  induction l with
  | nil => rfl
  | cons x r ih => cases hf : f x <;> cases hg : g x <;> simp [hf, hg] <;> omega
theorem allUses_len {L : List Pl} (hF : File L) : ∀ (bs : List Pl), bs.Sublist L → (allUses L bs).length = (L.filter fun u => bs.any fun b => isFor L b u).length
  | [], _ => by
    have : (L.filter fun u => ([] : List Pl).any fun b => isFor L b u) = [] := List.filter_eq_nil_iff.2 (fun u _ h => by cases h)
    rw [this]; rfl
  | b :: bs, hs => by
    have hn := hF.nodup hs
    rw [List.map_cons, List.nodup_cons] at hn
    have ih := allUses_len hF bs ((List.sublist_cons_self b bs).trans hs)
    unfold allUses at ih ⊢
    rw [List.flatMap_cons, List.length_append, ih]
    have h2 := sum_filter L (fun u => isFor L b u) (fun u => bs.any fun c => isFor L c u)
    have h3 : (L.filter fun u => isFor L b u && bs.any fun c => isFor L c u) = [] := by
      rw [List.filter_eq_nil_iff]
      intro u hu h
      rw [Bool.and_eq_true, List.any_eq_true] at h
      obtain ⟨f1, c, hc, f2⟩ := h
      obtain ⟨-, z1, s1, p1⟩ := isFor_iff.1 f1
      obtain ⟨-, z2, s2, p2⟩ := isFor_iff.1 f2
      rw [s1] at s2
      injection s2 with s2
      subst s2
      exact hn.1 (List.mem_map.2 ⟨c, hc, by rw [← p2, p1]⟩)
    rw [h3] at h2
    have h4 : (usesIn L L b).length = (L.filter fun u => isFor L b u).length := by unfold usesIn; rw [List.length_map]
    simp only [List.any_cons]
    simp at h2
    omega
theorem allUses_all {t : Tr} (h : (match bound t with | .error f => f | .ok _ => (0, 0)).1 = 0) : (allUses (placesOf t []) ((placesOf t []).filter fun b => isBinder b.n)).length = usesN t := by
  obtain ⟨-, -, hF, -, h2, -⟩ := no_fault h
  rw [allUses_len hF _ List.filter_sublist, ← uses_places t []]
  congr 1
  refine List.filter_congr fun u hu => ?_
  cases hk : isUse u.n with
  | false =>
    rw [List.any_eq_false]
    intro b _ hf
    have := (isFor_iff.1 hf).1
    rw [hk] at this; cases this
  | true =>
    obtain ⟨b, hb⟩ := stands_all h2 hu hk
    rw [List.any_eq_true]
    obtain ⟨h3, h4⟩ := binder_of hb
    exact ⟨b, List.mem_filter.2 ⟨h4, h3⟩, isFor_iff.2 ⟨hk, b, hb, rfl⟩⟩
/-- A binder stands where its path leads, and each of its uses is one of its name and sort. -/
theorem binder_facts {t : Tr} {b : Pl} (hb : b ∈ placesOf t []) (hk : isBinder b.n = true) : Tr.get (ints b.p) t = some b.n ∧ (b.n.k = 2 ∨ b.n.k = 4 ∨ b.n.k = 6) := by
  refine ⟨get_at hb, ?_⟩
  simp only [isBinder, Bool.or_eq_true, beq_iff_eq] at hk
  omega
theorem use_facts {t : Tr} (hF : File (placesOf t [])) {b : Pl} (hb : b ∈ placesOf t []) {q : List Nat} (hq : q ∈ usesIn (placesOf t []) (placesOf t []) b) : ∃ y, Tr.get (ints q) t = some y ∧ y.t = b.n.t ∧ (y.k = 22 ∨ y.k = 25) ∧ (y.k = 25 ↔ b.n.k = 2) := by
  obtain ⟨u, hu, rfl, hf⟩ := mem_uses hq
  obtain ⟨h1, x, h2, h3⟩ := isFor_iff.1 hf
  obtain ⟨m1, m2, m3, m4⟩ := standsFor_mem h2
  have := hF.inj_mem m1 hb h3
  subst this
  refine ⟨u.n, get_at hu, m4.symm, ?_, m2, fun e => ?_⟩
  · simp only [isUse, Bool.or_eq_true, beq_iff_eq] at h1; exact h1
  · refine Classical.byContradiction fun hk => ?_
    have := (m3 hk).1
    simp [isPV, e] at this
mutual
theorem path_len : ∀ (x : Tr) (m : Nat) (p : List Nat), Tr.right m x = true → ∀ b ∈ placesOf x p, b.p.length < p.length + m
  | .mk k t n l, m, p => fun hr b hb => by
    have hm : m ≠ 0 := fun e => by rw [e, Tr.right] at hr; cases hr
    rw [placesOf] at hb
    rcases List.mem_cons.1 hb with rfl | hb
    · show p.length < _; omega
    · have := path_lenL l (m - 1) 0 p (fun y hy => (right_ok hr).2 y hy) b hb
      omega
theorem path_lenL : ∀ (l : List Tr) (m c : Nat) (p : List Nat), (∀ y ∈ l, Tr.right m y = true) → ∀ b ∈ placesL l c p, b.p.length < p.length + 1 + m
  | [], m, c, p => fun _ b hb => by rw [placesL] at hb; cases hb
  | x :: l, m, c, p => fun h b hb => by
    rw [placesL] at hb
    rcases List.mem_append.1 hb with hb | hb
    · have := path_len x m (p ++ [c]) (h x (by simp)) b hb
      simpa using this
    · exact path_lenL l m (c + 1) p (fun y hy => h y (by simp [hy])) b hb
end
theorem flat_uses (L : List Pl) (bs : List Pl) : (bs.map (bd L L)).flatMap (·.uses) = allUses L bs := by
  unfold allUses
  rw [List.flatMap_map]
  rfl
/-- What is told of a file without a fault. -/
theorem once_plain {t : Tr} {l : List Bd} (h : (match bound t with | .error f => f | .ok _ => (0, 0)).1 = 0) (hl : l = match bound t with | .error _ => [] | .ok l => l) :
    (∀ (q : Nat) (d : Bd), l[q]? = some d → ∃ y, Tr.get (ints d.path) t = some y ∧ y.t = d.name ∧ (y.k = 2 ∨ y.k = 4 ∨ y.k = 6) ∧ d.path.length ≤ 40 ∧ ∀ u ∈ d.uses, u.length ≤ 40 ∧ ∃ z, Tr.get (ints u) t = some z ∧ z.t = d.name ∧ (z.k = 22 ∨ z.k = 25) ∧ (z.k = 25 ↔ y.k = 2)) ∧ (l.flatMap (·.uses)).Nodup ∧ (l.flatMap (·.uses)).length = usesN t ∧ l.length ≤ t.size := by
  obtain ⟨h1, h2, hF, h3, h4, h5⟩ := no_fault h
  have h6 := allUses_all h
  rw [h5] at hl
  simp only at hl
  subst hl
  refine ⟨fun q d hd => ?_, by rw [flat_uses]; exact allUses_nodup hF _ List.filter_sublist, by rw [flat_uses]; exact h6, by rw [List.length_map, ← placesOf_len t []]; exact List.length_filter_le _ _⟩
  rw [List.getElem?_map] at hd
  obtain ⟨b, hb, rfl⟩ := Option.map_eq_some_iff.1 hd
  obtain ⟨m1, m2⟩ := List.mem_filter.1 (List.mem_of_getElem? hb)
  obtain ⟨g1, g2⟩ := binder_facts m1 m2
  have hlen := path_len t 40 [] h2
  refine ⟨b.n, g1, rfl, g2, by have := hlen b m1; simp at this; show b.p.length ≤ 40; omega, fun u hu => ?_⟩
  obtain ⟨y, y1, y2, y3, y4⟩ := use_facts hF m1 hu
  obtain ⟨v, hv, rfl, -⟩ := mem_uses hu
  exact ⟨by have := hlen v hv; simp at this; omega, y, y1, y2, y3, y4⟩
theorem flat_split {l : List Bd} {q : Nat} {d : Bd} (hd : l[q]? = some d) : l.flatMap (·.uses) = (l.take q).flatMap (·.uses) ++ (d.uses ++ (l.drop (q + 1)).flatMap (·.uses)) := by
  have hl := (List.getElem?_eq_some_iff.1 hd)
  obtain ⟨hq, hd⟩ := hl
  have e : l = l.take q ++ d :: l.drop (q + 1) := by
    rw [← hd, List.getElem_cons_drop, List.take_append_drop]
  conv => lhs; rw [e]
  rw [List.flatMap_append, List.flatMap_cons]
theorem not_before {l : List Bd} {q p : Nat} {d : Bd} {u : List Nat} (hn : (l.flatMap (·.uses)).Nodup) (hd : l[q]? = some d) (hu : d.uses[p]? = some u) : u ∉ (l.take q).flatMap (·.uses) ++ d.uses.take p := by
  rw [flat_split hd] at hn
  obtain ⟨hp, hu⟩ := List.getElem?_eq_some_iff.1 hu
  have e : d.uses = d.uses.take p ++ u :: d.uses.drop (p + 1) := by
    rw [← hu, List.getElem_cons_drop, List.take_append_drop]
  rw [e, List.append_assoc, ← List.append_assoc, List.cons_append] at hn
  intro h
  obtain ⟨-, -, h3⟩ := List.nodup_append.1 hn
  exact h3 u h u (by simp) rfl
theorem flat_len {l : List Bd} {q : Nat} {d : Bd} (hd : l[q]? = some d) : ((l.take q).flatMap (·.uses)).length + d.uses.length ≤ (l.flatMap (·.uses)).length := by
  rw [flat_split hd]
  simp only [List.length_append]
  omega
theorem flat_next {l : List Bd} {q : Nat} {d : Bd} (hd : l[q]? = some d) : (l.take (q + 1)).flatMap (·.uses) = (l.take q).flatMap (·.uses) ++ d.uses := by
  rw [List.take_add_one, hd, List.flatMap_append]
  simp
theorem take_next {d : Bd} {p : Nat} {u : List Nat} (hu : d.uses[p]? = some u) : d.uses.take (p + 1) = d.uses.take p ++ [u] := by
  rw [List.take_add_one, hu]; rfl
end Bn
end Go.Proofs.YtnndgjnihhafbaaGreatDoor
