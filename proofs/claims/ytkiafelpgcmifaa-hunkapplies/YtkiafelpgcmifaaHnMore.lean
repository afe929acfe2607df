/-
  Hunks as plain lists: errors, lengths, lines of what is told, the inverses one by one.
-/
import Derived.Test.YtkiafelpgcmifaaHnMath
namespace Go.Proofs.Ytkiafelpgcmifaa.Hn

theorem go_err (l : List Line) : ∀ (hs : List H) (k : Nat) (out : List Line) (c : Nat), go l k out hs = .error c → c = 6 ∨ c = 121 := by
  intro hs
  induction hs with
  | nil => intro k out c h; simp [go] at h
  | cons x r ih =>
    intro k out c h
    simp only [go] at h
    split at h
    · cases h; exact .inl rfl
    · split at h
      · exact ih _ _ _ h
      · cases h; exact .inr rfl
theorem apply_err {l : List Line} {hs : List H} {c : Nat} (h : apply l hs = .error c) : c = 4 ∨ c = 6 ∨ c = 121 := by
  unfold apply at h
  split at h
  · split at h
    · rename_i e he
      cases h
      exact .inr (go_err l hs 0 [] _ he)
    · split at h
      · cases h
      · cases h; exact .inl rfl
  · cases h; exact .inl rfl
theorem apply_len {l a : List Line} {hs : List H} (h : apply l hs = .ok a) : (a.length : Int) = l.length + moreOf hs := by
  obtain ⟨segs, t, rfl, rfl, rfl, -, -, -, -⟩ := apply_segs h
  exact more_segs segs t 0
theorem newOf_mem (segs : List Seg) (t : List Line) : ∀ (k : Nat) (s : Line), s ∈ newOf segs t → s ∈ oldOf segs t ∨ ∃ h ∈ hunksOf k segs, s ∈ h.new := by
  induction segs with
  | nil => intro k s hs; exact .inl hs
  | cons x r ih =>
    intro k s hs
    simp only [newOf, List.mem_append] at hs
    rcases hs with hs | hs | hs
    · left; simp [oldOf, hs]
    · right; exact ⟨_, by simp only [hunksOf]; exact List.mem_cons_self, hs⟩
    · rcases ih (k + x.keep.length + x.old.length) s hs with h1 | ⟨h, h1, h2⟩
      · left; simp [oldOf, h1]
      · right; exact ⟨h, by simp only [hunksOf]; exact List.mem_cons_of_mem _ h1, h2⟩
theorem apply_mem {l a : List Line} {hs : List H} (h : apply l hs = .ok a) : ∀ s ∈ a, s ∈ l ∨ ∃ x ∈ hs, s ∈ x.new := by
  obtain ⟨segs, t, rfl, rfl, rfl, -, -, -, -⟩ := apply_segs h
  exact newOf_mem segs t 0
theorem moreOf_take (hs : List H) (k : Nat) (h : H) (hk : hs[k]? = some h) : moreOf (hs.take (k + 1)) = moreOf (hs.take k) + (h.new.length - h.old.length) := by
  induction hs generalizing k with
  | nil => simp at hk
  | cons x r ih =>
    cases k with
    | zero => simp at hk; subst hk; simp [moreOf]
    | succ k =>
      have := ih k (by simpa using hk)
      simp only [List.take_succ_cons, moreOf] at this ⊢
      omega
theorem backs_get (hs : List H) : ∀ (d : Int) (k : Nat) (h : H), hs[k]? = some h → (backs d hs)[k]? = some ⟨h.at_ + (d + moreOf (hs.take k)), h.new, h.old⟩ := by
  induction hs with
  | nil => intro d k h hk; simp at hk
  | cons x r ih =>
    intro d k h hk
    cases k with
    | zero => simp at hk; subst hk; simp [backs, moreOf]
    | succ k =>
      have := ih (d + x.new.length - x.old.length) k h (by simpa using hk)
      simp only [backs, List.getElem?_cons_succ, List.take_succ_cons, moreOf]
      rw [this]
      congr 2
      omega
theorem backs_len (hs : List H) : ∀ d, (backs d hs).length = hs.length := by
  induction hs with
  | nil => intro d; rfl
  | cons x r ih => intro d; simp [backs, ih]
theorem moreOf_bound (hs : List H) (N : Nat) (h : (hs.map fun x => x.old.length + x.new.length).sum ≤ N) : -(N : Int) ≤ moreOf hs ∧ moreOf hs ≤ N := by
  have key : ∀ hs : List H, -(((hs.map fun x => x.old.length + x.new.length).sum : Nat) : Int) ≤ moreOf hs ∧ moreOf hs ≤ (((hs.map fun x => x.old.length + x.new.length).sum : Nat) : Int) := by
    intro hs
    induction hs with
    | nil => simp [moreOf]
    | cons x r ih =>
      simp only [moreOf, List.map_cons, List.sum_cons]
      omega
  have := key hs
  omega

theorem backs_new (hs : List H) : ∀ d, ((backs d hs).map fun x => x.new.length).sum ≤ (hs.map fun x => x.old.length + x.new.length).sum := by
  induction hs with
  | nil => intro d; simp [backs]
  | cons x r ih =>
    intro d
    have := ih (d + x.new.length - x.old.length)
    simp only [backs, List.map_cons, List.sum_cons]
    omega

end Go.Proofs.Ytkiafelpgcmifaa.Hn
