/-
  The hunks of two rows of lines, as plain lists: they are sorted, and make the one of the other.
-/
import Derived.Test.YtpcinbfelikgpaaHnMath
namespace Go.Proofs.Ytpcinbfelikgpaa.Hn

def ofHk (h : Df.Hk Line) : H := ⟨(h.at_ : Int), h.old, h.new⟩
theorem lines_front (A B : List Line) (h : lines (A ++ B) = true) : lines A = true := by
  induction A with
  | nil => rfl
  | cons x A ih =>
    by_cases hA : A = []
    · subst hA
      by_cases hB : B = []
      · subst hB; exact h
      · rw [List.cons_append, List.nil_append, lines_cons x B hB] at h
        simp only [Bool.and_eq_true] at h
        exact h.1.1
    · rw [List.cons_append, lines_cons x _ (by simp [hA]), Bool.and_eq_true] at h
      rw [lines_cons x A hA, h.1, ih h.2]; rfl
theorem lines_part (A : List Line) (i x : Nat) (h : lines A = true) : lines (Df.part A i x) = true := by
  have h1 : lines (A.drop i) = true := lines_tail (A.take i) _ (by rw [List.take_append_drop]; exact h)
  exact lines_front _ ((A.drop i).drop (x - i)) (by unfold Df.part; rw [List.take_append_drop]; exact h1)

/-- The hunks, in parts; kept: the lines ahead that stay. -/
theorem hks_segs (a b : List Line) : ∀ (ps : List (Nat × Nat)) (i j : Nat) (kept : List Line), i ≤ a.length → j ≤ b.length → Df.Good a b i j ps → kept.length ≤ i →
    ∃ segs t, (Df.hks a b i j (ps ++ [(a.length, b.length)])).map ofHk = hunksOf (i - kept.length) segs ∧ kept ++ a.drop i = oldOf segs t ∧ kept ++ b.drop j = newOf segs t ∧ (∀ s ∈ segs.tail, s.keep ≠ []) ∧ (kept ≠ [] → ∀ s ∈ segs, s.keep ≠ []) := by
  intro ps
  induction ps with
  | nil =>
    intro i j kept hi hj _ hk
    simp only [List.nil_append, Df.hks, List.append_nil]
    by_cases h : i < a.length ∨ j < b.length
    · rw [if_pos h]
      refine ⟨[⟨kept, Df.part a i a.length, Df.part b j b.length⟩], [], ?_, ?_, ?_, by simp, by simp⟩
      · simp only [List.map_cons, List.map_nil, ofHk, hunksOf]
        rw [show i - kept.length + kept.length = i by omega]
      · simp only [oldOf, List.append_nil]
        rw [← Df.part_append a i a.length hi]; simp
      · simp only [newOf, List.append_nil]
        rw [← Df.part_append b j b.length hj]; simp
    · rw [if_neg h]
      refine ⟨[], kept, rfl, ?_, ?_, by simp, by simp⟩
      · rw [List.drop_eq_nil_of_le (by omega)]; simp [oldOf]
      · rw [List.drop_eq_nil_of_le (by omega)]; simp [newOf]
  | cons p ps ih =>
    intro i j kept hi hj hg hk
    obtain ⟨x, y⟩ := p
    have hge := hg.ge (x, y) List.mem_cons_self
    have hlt := hg.lt (x, y) List.mem_cons_self
    have hsm := hg.same (x, y) List.mem_cons_self
    simp only at hge hlt hsm
    obtain ⟨l, hl⟩ : ∃ l, a[x]? = some l := ⟨a[x]'hlt.1, List.getElem?_eq_getElem hlt.1⟩
    have hr := List.pairwise_cons.1 hg.rise
    have hg2 : Df.Good a b (x + 1) (y + 1) ps := ⟨fun q hq => by have := hr.1 q hq; simp only at this; omega, fun q hq => hg.lt q (List.mem_cons_of_mem _ hq), fun q hq => hg.same q (List.mem_cons_of_mem _ hq), hr.2⟩
    have ha2 : a.drop x = [l] ++ a.drop (x + 1) := Df.drop_at hl
    have hb2 : b.drop y = [l] ++ b.drop (y + 1) := Df.drop_at (hsm.symm.trans hl)
    simp only [List.cons_append, Df.hks]
    by_cases h : i < x ∨ j < y
    · rw [if_pos h]
      obtain ⟨segs, t, e1, e2, e3, e4, e5⟩ := ih (x + 1) (y + 1) [l] (by omega) (by omega) hg2 (by simp)
      refine ⟨⟨kept, Df.part a i x, Df.part b j y⟩ :: segs, t, ?_, ?_, ?_, ?_, ?_⟩
      · simp only [List.cons_append, List.nil_append, List.map_cons, ofHk, hunksOf, e1]
        rw [show i - kept.length + kept.length = i by omega, Df.part_length a i x (by omega), show x + 1 - [l].length = i + (x - i) by simp; omega]
      · simp only [oldOf]
        rw [← e2, ← ha2, Df.part_append a i x hge.1]
      · simp only [newOf]
        rw [← e3, ← hb2, Df.part_append b j y hge.2]
      · exact fun s hs => e5 (by simp) s hs
      · intro hk0 s hs
        rcases List.mem_cons.1 hs with rfl | hs
        · exact hk0
        · exact e5 (by simp) s hs
    · rw [if_neg h]
      have h1 : i = x := by omega
      have h2 : j = y := by omega
      subst h1 h2
      obtain ⟨segs, t, e1, e2, e3, e4, e5⟩ := ih (i + 1) (j + 1) (kept ++ [l]) (by omega) (by omega) hg2 (by simp; omega)
      refine ⟨segs, t, ?_, ?_, ?_, e4, fun _ => e5 (by simp)⟩
      · rw [List.nil_append, e1]; congr 1; simp
      · rw [ha2, ← e2]; simp
      · rw [hb2, ← e3]; simp

/-- Where a hunk began, the lines differ. -/
theorem hks_fresh (a b : List Line) : ∀ (n : Nat) (xs ys : List Line) (i j i0 j0 : Nat), xs.length + ys.length ≤ n → a.drop i = xs → b.drop j = ys → i0 ≤ i → j0 ≤ j → ((i0 = i ∧ j0 = j) ∨ a[i0]? ≠ b[j0]?) →
    ∀ h ∈ Df.hks a b i0 j0 (Df.cm i j xs ys ++ [(a.length, b.length)]), h.old ≠ h.new := by
  have key : ∀ i0 j0 x y : Nat, x ≤ a.length → y ≤ b.length → (i0 < x ∨ j0 < y) → i0 ≤ x → j0 ≤ y → a[i0]? ≠ b[j0]? ∨ i0 = x ∨ j0 = y → Df.part a i0 x ≠ Df.part b j0 y := by
    intro i0 j0 x y hx hy hlt h1 h2 hd e
    have hl := congrArg List.length e
    rw [Df.part_length a i0 x hx, Df.part_length b j0 y hy] at hl
    rcases hd with hd | hd | hd
    · have h0 := congrArg (fun l => l[0]?) e
      simp only [Df.part, List.getElem?_take, List.getElem?_drop, Nat.add_zero] at h0
      rw [if_pos (by omega), if_pos (by omega)] at h0
      exact hd h0
    · omega
    · omega
  have fin : ∀ i j i0 j0 : Nat, i0 ≤ i → j0 ≤ j → (a.drop i = [] ∨ b.drop j = []) → ((i0 = i ∧ j0 = j) ∨ a[i0]? ≠ b[j0]?) → ∀ h ∈ Df.hks a b i0 j0 [(a.length, b.length)], h.old ≠ h.new := by
    intro i j i0 j0 hi hj hnil hd h hh
    simp only [Df.hks, List.append_nil] at hh
    split at hh
    · rename_i hlt
      simp only [List.mem_singleton] at hh
      subst hh
      simp only
      intro e
      have hl := congrArg List.length e
      rw [Df.part_length a i0 _ (Nat.le_refl _), Df.part_length b j0 _ (Nat.le_refl _)] at hl
      rcases hd with ⟨rfl, rfl⟩ | hd
      · rcases hnil with hnil | hnil
        · have := congrArg List.length hnil; simp at this; omega
        · have := congrArg List.length hnil; simp at this; omega
      · exact key i0 j0 _ _ (Nat.le_refl _) (Nat.le_refl _) hlt (by omega) (by omega) (.inl hd) e
    · simp at hh
  intro n
  induction n with
  | zero =>
    intro xs ys i j i0 j0 hn hx hy hi hj hd
    have h1 : xs = [] := List.eq_nil_of_length_eq_zero (by omega)
    subst h1
    rw [Df.cm_nil_left, List.nil_append]
    exact fin i j i0 j0 hi hj (.inl hx) hd
  | succ n ih =>
    intro xs ys i j i0 j0 hn hx hy hi hj hd
    cases xs with
    | nil => rw [Df.cm_nil_left, List.nil_append]; exact fin i j i0 j0 hi hj (.inl hx) hd
    | cons x xs =>
      cases ys with
      | nil => rw [Df.cm_nil_right, List.nil_append]; exact fin i j i0 j0 hi hj (.inr hy) hd
      | cons y ys =>
        obtain ⟨a1, a2, a3⟩ := Df.drop_cons_at hx
        obtain ⟨b1, b2, b3⟩ := Df.drop_cons_at hy
        simp only [List.length_cons] at hn
        have hd' : ∀ i' j', x ≠ y → ((i0 = i' ∧ j0 = j') ∨ a[i0]? ≠ b[j0]?) := by
          intro i' j' hxy
          right
          rcases hd with ⟨rfl, rfl⟩ | hd
          · rw [a2, b2]; exact fun e => hxy (Option.some.inj e)
          · exact hd
        by_cases hxy : x = y
        · subst hxy
          rw [Df.cm_cons_eq, List.cons_append]
          intro h hh
          simp only [Df.hks, List.mem_append] at hh
          rcases hh with hh | hh
          · split at hh
            · rename_i hlt
              simp only [List.mem_singleton] at hh
              subst hh
              refine key i0 j0 i j (by omega) (by omega) hlt hi hj ?_
              rcases hd with ⟨rfl, rfl⟩ | hd
              · omega
              · exact .inl hd
            · simp at hh
          · exact ih xs ys (i + 1) (j + 1) (i + 1) (j + 1) (by omega) a3 b3 (Nat.le_refl _) (Nat.le_refl _) (.inl ⟨rfl, rfl⟩) h hh
        · by_cases hl : Df.lc (x :: xs) ys ≤ Df.lc xs (y :: ys)
          · rw [Df.cm_cons_left i j hxy xs ys hl]
            exact ih xs (y :: ys) (i + 1) j i0 j0 (by simp; omega) a3 hy (by omega) hj (hd' _ _ hxy)
          · rw [Df.cm_cons_right i j hxy xs ys hl]
            exact ih (x :: xs) ys i (j + 1) i0 j0 (by simp; omega) hx b3 hi (by omega) (hd' _ _ hxy)

theorem sorted_of_segs (segs : List Seg) : ∀ (k : Nat) (last : Int), last < k + (segs.head?.map fun s => s.keep.length).getD 0 ∨ segs = [] → (∀ s ∈ segs.tail, s.keep ≠ []) → (∀ h ∈ hunksOf k segs, right h = true) → sorted last (hunksOf k segs) = true := by
  induction segs with
  | nil => intros; rfl
  | cons s r ih =>
    intro k last hl hk hr
    simp only [List.head?_cons, Option.map_some, Option.getD_some, reduceCtorEq, or_false] at hl
    simp only [hunksOf, sorted, Bool.and_eq_true, decide_eq_true_eq]
    refine ⟨⟨hr _ (by simp [hunksOf]), by omega⟩, ?_⟩
    have := ih (k + s.keep.length + s.old.length) (((k + s.keep.length : Nat) : Int) + s.old.length) ?_ (fun x hx => hk x (List.mem_of_mem_tail hx)) (fun h hh => hr h (by simp [hunksOf, hh]))
    · exact this
    · cases r with
      | nil => exact .inr rfl
      | cons y r =>
        left
        have : 0 < y.keep.length := List.length_pos_iff.2 (hk y (by simp))
        simp only [List.head?_cons, Option.map_some, Option.getD_some]
        omega

theorem hks_mem (a b : List Line) : ∀ (ps : List (Nat × Nat)) (i j : Nat), ∀ h ∈ Df.hks a b i j ps, ∃ x y j', h.old = Df.part a h.at_ x ∧ h.new = Df.part b j' y ∧ (h.at_ = i ∨ ∃ p ∈ ps, h.at_ = p.1 + 1) := by
  intro ps
  induction ps with
  | nil => intro i j h hh; simp [Df.hks] at hh
  | cons p ps ih =>
    intro i j h hh
    simp only [Df.hks, List.mem_append] at hh
    rcases hh with hh | hh
    · split at hh
      · simp only [List.mem_singleton] at hh
        subst hh
        exact ⟨p.1, p.2, j, rfl, rfl, .inl rfl⟩
      · simp at hh
    · obtain ⟨x, y, j', e1, e2, e3⟩ := ih _ _ h hh
      refine ⟨x, y, j', e1, e2, .inr ?_⟩
      rcases e3 with e3 | ⟨q, hq, e3⟩
      · exact ⟨p, by simp, e3⟩
      · exact ⟨q, by simp [hq], e3⟩

theorem right_of {h : H} (h0 : 0 ≤ h.at_) (h1 : h.at_ ≤ 1099511627776) (h2 : lines h.old = true) (h3 : lines h.new = true) (h4 : h.old ≠ h.new) : right h = true := by
  simp [right, h0, h1, h2, h3, h4]

/-- The hunks of two texts' lines are sorted, and make the one of the other. -/
theorem diffs (a b : List Line) (ha : lines a = true) (hb : lines b = true) (la : a.length ≤ 4096) (lb : b.length ≤ 4096) : sorted (-1) ((Df.hunks a b).map ofHk) = true ∧ apply a ((Df.hunks a b).map ofHk) = .ok b := by
  have hc : Df.common a b = Df.cm 0 0 a b := by unfold Df.common; rw [if_pos ⟨la, lb⟩]
  obtain ⟨segs, t, e1, e2, e3, e4, -⟩ := hks_segs a b (Df.common a b) 0 0 [] (by omega) (by omega) (Df.common_ok a b) (by simp)
  have e1' : (Df.hunks a b).map ofHk = hunksOf 0 segs := e1
  have hr : ∀ h ∈ hunksOf 0 segs, right h = true := by
    intro h hh
    rw [← e1'] at hh
    obtain ⟨k, hk, rfl⟩ := List.mem_map.1 hh
    have hf := hks_fresh a b _ a b 0 0 0 0 (Nat.le_refl _) rfl rfl (Nat.le_refl _) (Nat.le_refl _) (.inl ⟨rfl, rfl⟩) k (by rw [← hc]; exact hk)
    obtain ⟨x, y, j', q1, q2, q3⟩ := hks_mem a b _ 0 0 k hk
    have hat : k.at_ ≤ 4097 := by
      rcases q3 with q3 | ⟨p, hp, q3⟩
      · omega
      · rcases List.mem_append.1 hp with hp | hp
        · have := ((Df.common_ok a b).lt p hp).1; omega
        · simp only [List.mem_singleton] at hp
          subst hp
          simp only at q3; omega
    refine right_of (by show (0 : Int) ≤ (k.at_ : Int); omega) (by show (k.at_ : Int) ≤ _; omega) ?_ ?_ hf
    · show lines k.old = true
      rw [q1]; exact lines_part a _ _ ha
    · show lines k.new = true
      rw [q2]; exact lines_part b _ _ hb
  have hs : sorted (-1) ((Df.hunks a b).map ofHk) = true := by
    rw [e1']
    exact sorted_of_segs segs 0 (-1) (.inl (by omega)) e4 hr
  refine ⟨hs, ?_⟩
  have hg := segs_go a segs t 0 [] (by omega) (by simpa using e2)
  have e3' : b = newOf segs t := by simpa using e3
  unfold apply
  rw [ha, hs, e1', hg]
  simp [← e3', hb]

end Go.Proofs.Ytpcinbfelikgpaa.Hn
