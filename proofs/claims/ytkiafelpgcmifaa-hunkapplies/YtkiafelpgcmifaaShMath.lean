/-
  Hunks past each other, as plain lists.
-/
import Derived.Test.YtkiafelpgcmifaaHnMore
namespace Go.Proofs.Ytkiafelpgcmifaa.Hn

/-- A line at least stands between a and b, a first. -/
def apart (a b : H) : Bool := decide (a.at_ + a.old.length < b.at_)
def more (h : H) : Int := h.new.length - h.old.length
def moved (h : H) (d : Int) : H := ⟨h.at_ + d, h.old, h.new⟩
/-- Two hunks, if they are right. -/
def told (a b : H) : Except Nat (H × H) := if right a && right b then .ok (a, b) else .error 130
def commute (p q : H) : Except Nat (H × H) :=
  if right p && right q then
    if apart q p then told q (moved p (more q))
    else if apart (inv p) q then told (moved q (-more p)) p
    else .error 130
  else .error 4
def merge (p q : H) : Except Nat (H × H) :=
  if right p && right q then
    if apart p q then told p (moved q (more p))
    else if apart q p then told (moved p (more q)) q
    else .error 130
  else .error 4

theorem told_ok {a b : H} {r : H × H} (h : told a b = .ok r) : r = (a, b) ∧ right a = true ∧ right b = true := by
  unfold told at h
  split at h
  · rename_i h1
    rw [Bool.and_eq_true] at h1
    cases h; exact ⟨rfl, h1.1, h1.2⟩
  · cases h
theorem told_mk {a b : H} (h1 : right a = true) (h2 : right b = true) : told a b = .ok (a, b) := by
  unfold told; rw [h1, h2]; rfl
/-- What Commute tells: one of two ways. -/
theorem commute_ok {p q a b : H} (h : commute p q = .ok (a, b)) : right p = true ∧ right q = true ∧ right a = true ∧ right b = true ∧
    ((q.at_ + q.old.length < p.at_ ∧ a = q ∧ b = moved p (more q)) ∨ (p.at_ + p.new.length < q.at_ ∧ a = moved q (-more p) ∧ b = p)) := by
  unfold commute at h
  split at h
  · rename_i h0
    rw [Bool.and_eq_true] at h0
    split at h
    · rename_i h1
      obtain ⟨e, r1, r2⟩ := told_ok h
      cases e
      exact ⟨h0.1, h0.2, r1, r2, .inl ⟨by simpa [apart] using h1, rfl, rfl⟩⟩
    · split at h
      · rename_i h1
        obtain ⟨e, r1, r2⟩ := told_ok h
        cases e
        exact ⟨h0.1, h0.2, r1, r2, .inr ⟨of_decide_eq_true h1, rfl, rfl⟩⟩
      · cases h
  · cases h
theorem commute_one {p q : H} (hp : right p = true) (hq : right q = true) (h : q.at_ + q.old.length < p.at_) (hr : right (moved p (more q)) = true) : commute p q = .ok (q, moved p (more q)) := by
  unfold commute
  rw [hp, hq, Bool.and_self, if_pos rfl, if_pos (show apart q p = true from decide_eq_true h), told_mk hq hr]
theorem commute_two {p q : H} (hp : right p = true) (hq : right q = true) (h : p.at_ + p.new.length < q.at_) (hr : right (moved q (-more p)) = true) : commute p q = .ok (moved q (-more p), p) := by
  unfold commute
  rw [hp, hq, Bool.and_self, if_pos rfl, if_neg (by simp [apart]; omega), if_pos (show apart (inv p) q = true from decide_eq_true h), told_mk hr hp]
theorem moved_back (h : H) (d : Int) : moved (moved h d) (-d) = h := by
  cases h; simp only [moved, H.mk.injEq, and_true]; omega
theorem moved_back2 (h : H) (d : Int) : moved (moved h (-d)) d = h := by
  cases h; simp only [moved, H.mk.injEq, and_true]; omega
theorem more_moved (h : H) (d : Int) : more (moved h d) = more h := rfl
/-- What Commute tells goes past each other as p and q. -/
theorem commute_back {p q a b : H} (h : commute p q = .ok (a, b)) : commute a b = .ok (p, q) := by
  obtain ⟨rp, rq, ra, rb, ⟨h1, rfl, rfl⟩ | ⟨h1, rfl, rfl⟩⟩ := commute_ok h
  · have e := commute_two ra rb (by simp only [moved, more]; omega) (by rw [moved_back]; exact rp)
    rw [moved_back] at e
    exact e
  · have e := commute_one ra rb (by simp only [moved, more]; omega) (by rw [moved_back2]; exact rq)
    rw [moved_back2] at e
    exact e

/-- One hunk that was applied. -/
theorem apply_one_ok {l a : List Line} {h : H} (e : apply l [h] = .ok a) : ∃ p q, l = p ++ (h.old ++ q) ∧ a = p ++ (h.new ++ q) ∧ h.at_ = p.length ∧ lines l = true ∧ lines a = true ∧ right h = true := by
  obtain ⟨segs, t, h1, h2, h3, -, h4, h5, h6⟩ := apply_segs e
  match segs, h1 with
  | [s], h1 =>
    simp only [hunksOf, List.cons.injEq, and_true, Nat.zero_add] at h1
    subst h1
    exact ⟨s.keep, t, h2, h3, rfl, h4, h5, sorted_pos _ _ h6 _ (by simp)⟩
  | [], h1 => cases h1
  | s :: s' :: r, h1 => simp [hunksOf] at h1
theorem right_inv {h : H} (r : right h = true) : right (inv h) = true := by
  obtain ⟨a, o, n⟩ := h
  show (decide (0 ≤ a) && decide (a ≤ 1099511627776) && lines n && lines o && !decide (n = o)) = true
  simp only [right, Bool.and_eq_true, decide_eq_true_eq, Bool.not_eq_true', decide_eq_false_iff_not] at r ⊢
  exact ⟨⟨⟨r.1.1.1, r.1.2⟩, r.1.1.2⟩, fun e => r.2 e.symm⟩
theorem apply_inv {l a : List Line} {h : H} (e : apply l [h] = .ok a) : apply a [inv h] = .ok l := by
  obtain ⟨p, q, h1, h2, h3, h4, h5, h6⟩ := apply_one_ok e
  exact apply_one (h := inv h) p q h2 h1 h3 h5 h4 (right_inv h6)
/-- Lines of which the front is one text's, the rest another one's. -/
theorem lines_cross {A A' B B' : List Line} (hB : B ≠ []) (h1 : lines (A ++ B) = true) (h2 : lines (A' ++ B') = true) (hB' : B' ≠ []) : lines (A ++ B') = true := by
  rw [lines_append _ _ hB, Bool.and_eq_true] at h1
  rw [lines_append _ _ hB', h1.1, lines_tail _ _ h2]
  rfl
/-- Two parts of one row, the first ahead of the second, a line at least between. -/
theorem parts_two {l A C A' C' X Y : List Line} (e1 : l = A ++ (X ++ C)) (e2 : l = A' ++ (Y ++ C')) (h : A.length + X.length < A'.length) : ∃ B, B ≠ [] ∧ A' = A ++ (X ++ B) ∧ C = B ++ (Y ++ C') := by
  have e : (A ++ X) ++ C = A' ++ (Y ++ C') := by rw [← e2, e1]; simp
  rw [List.append_eq_append_iff] at e
  rcases e with ⟨B, h1, h2⟩ | ⟨B, h1, h2⟩
  · refine ⟨B, ?_, by rw [h1]; simp, h2⟩
    intro hb
    have := congrArg List.length h1
    rw [hb] at this
    simp at this
    omega
  · have := congrArg List.length h1
    simp at this
    omega

/-- Where p, then q, apply, and they go past each other, what is told applies, and makes the same. -/
theorem commute_apply {p q a b : H} {l x1 x : List Line} (h : commute p q = .ok (a, b)) (h1 : apply l [p] = .ok x1) (h2 : apply x1 [q] = .ok x) : ∃ y, apply l [a] = .ok y ∧ apply y [b] = .ok x := by
  obtain ⟨rp, rq, ra, rb, hh⟩ := commute_ok h
  obtain ⟨A, C, rfl, rfl, eA, ll, lx1, -⟩ := apply_one_ok h1
  obtain ⟨A', C', e1, rfl, eA', -, lx, -⟩ := apply_one_ok h2
  rcases hh with ⟨h1, rfl, rfl⟩ | ⟨h1, rfl, rfl⟩
  · obtain ⟨B, hB, rfl, rfl⟩ := parts_two e1 rfl (by omega)
    have hl : A' ++ (a.old ++ B) ++ (p.old ++ C) = A' ++ (a.old ++ (B ++ (p.old ++ C))) := by simp
    rw [hl] at ll ⊢
    have ly : lines (A' ++ (a.new ++ (B ++ (p.old ++ C)))) = true := by
      have k1 : lines ((A' ++ a.new) ++ (B ++ (p.new ++ C))) = true := by simpa using lx
      have k2 : lines ((A' ++ a.old) ++ (B ++ (p.old ++ C))) = true := by simpa using ll
      have := lines_cross (by simp [hB]) k1 k2 (by simp [hB])
      simpa using this
    refine ⟨_, apply_one A' (B ++ (p.old ++ C)) rfl rfl eA' ll ly ra, ?_⟩
    refine apply_one (h := moved p (more a)) (A' ++ (a.new ++ B)) C (by simp [moved]) (by simp [moved]) ?_ ly lx rb
    simp only [moved, more, List.length_append] at eA ⊢
    simp only [Int.natCast_add] at *
    omega
  · obtain ⟨B, hB, rfl, rfl⟩ := parts_two rfl e1 (by omega)
    have hl : A ++ (b.new ++ B) ++ (q.new ++ C') = A ++ (b.new ++ (B ++ (q.new ++ C'))) := by simp
    rw [hl] at lx ⊢
    have ly : lines (A ++ (b.old ++ (B ++ (q.new ++ C')))) = true := by
      have k1 : lines ((A ++ b.old) ++ (B ++ (q.old ++ C'))) = true := by simpa using ll
      have k2 : lines ((A ++ b.new) ++ (B ++ (q.new ++ C'))) = true := by simpa using lx
      have := lines_cross (by simp [hB]) k1 k2 (by simp [hB])
      simpa using this
    refine ⟨_, apply_one (h := moved q (-more b)) (A ++ (b.old ++ B)) C' (by simp [moved]) rfl ?_ ll (by simpa [moved] using ly) ra, ?_⟩
    · simp only [moved, more, List.length_append] at eA' ⊢
      simp only [Int.natCast_add] at *
      omega
    · exact apply_one A (B ++ (q.new ++ C')) (by simp [moved]) rfl eA (by simpa [moved] using ly) lx rb

theorem merge_ok {p q s t : H} (h : merge p q = .ok (s, t)) : right p = true ∧ right q = true ∧ right s = true ∧ right t = true ∧
    ((p.at_ + p.old.length < q.at_ ∧ s = p ∧ t = moved q (more p)) ∨ (q.at_ + q.old.length < p.at_ ∧ s = moved p (more q) ∧ t = q)) := by
  unfold merge at h
  split at h
  · rename_i h0
    rw [Bool.and_eq_true] at h0
    split at h
    · rename_i h1
      obtain ⟨e, r1, r2⟩ := told_ok h
      cases e
      exact ⟨h0.1, h0.2, r1, r2, .inl ⟨by simpa [apart] using h1, rfl, rfl⟩⟩
    · split at h
      · rename_i h1
        obtain ⟨e, r1, r2⟩ := told_ok h
        cases e
        exact ⟨h0.1, h0.2, r1, r2, .inr ⟨by simpa [apart] using h1, rfl, rfl⟩⟩
      · cases h
  · cases h
def flip (r : Except Nat (H × H)) : Except Nat (H × H) :=
  match r with
  | .ok (a, b) => .ok (b, a)
  | .error c => .error c
theorem told_flip (a b : H) : told b a = flip (told a b) := by
  unfold told
  rw [Bool.and_comm]
  split <;> rfl
/-- Merge the other way round tells the same two, or the same error. -/
theorem merge_flip (p q : H) : merge q p = flip (merge p q) := by
  unfold merge
  rw [Bool.and_comm]
  split
  · by_cases h1 : apart p q = true
    · have h2 : ¬ apart q p = true := by simp [apart] at h1 ⊢; omega
      rw [if_neg h2, if_pos h1, if_pos h1, told_flip]
    · rw [if_neg h1, if_neg h1]
      by_cases h2 : apart q p = true
      · rw [if_pos h2, if_pos h2, told_flip]
      · rw [if_neg h2, if_neg h2]; rfl
  · rfl
theorem merge_commute {p q s t : H} (h : merge p q = .ok (s, t)) : commute p t = .ok (q, s) := by
  obtain ⟨rp, rq, rs, rt, ⟨h1, rfl, rfl⟩ | ⟨h1, rfl, rfl⟩⟩ := merge_ok h
  · have e := commute_two rp rt (by simp only [moved, more]; omega) (by rw [moved_back]; exact rq)
    rw [moved_back] at e
    exact e
  · exact commute_one rp rq h1 rs
/-- Where two apply to one text, and merge, what is told of the one applies behind the other. -/
theorem merge_apply {p q s t : H} {l y z : List Line} (h : merge p q = .ok (s, t)) (h1 : apply l [p] = .ok y) (h2 : apply l [q] = .ok z) : ∃ x, apply y [t] = .ok x ∧ apply z [s] = .ok x := by
  have key : ∀ {p q s t : H} {l y z : List Line}, right p = true → right t = true → p.at_ + p.old.length < q.at_ → t = moved q (more p) → apply l [p] = .ok y → apply l [q] = .ok z → ∃ x, apply y [t] = .ok x ∧ apply z [p] = .ok x := by
    intro p q s t l y z rp rt h0 ht h1 h2
    subst ht
    obtain ⟨A, C, e1, rfl, eA, ll, ly, -⟩ := apply_one_ok h1
    obtain ⟨A', C', e2, rfl, eA', -, lz, -⟩ := apply_one_ok h2
    obtain ⟨B, hB, rfl, rfl⟩ := parts_two e1 e2 (by omega)
    have lx : lines (A ++ (p.new ++ (B ++ (q.new ++ C')))) = true := by
      have k1 : lines ((A ++ p.new) ++ (B ++ (q.old ++ C'))) = true := by simpa using ly
      have k2 : lines ((A ++ p.old) ++ (B ++ (q.new ++ C'))) = true := by simpa using lz
      have := lines_cross (by simp [hB]) k1 k2 (by simp [hB])
      simpa using this
    refine ⟨_, apply_one (h := moved q (more p)) (A ++ (p.new ++ B)) C' (by simp [moved]) rfl ?_ ly (by simpa [moved] using lx) rt, ?_⟩
    · simp only [moved, more, List.length_append] at eA' ⊢
      simp only [Int.natCast_add] at *
      omega
    · exact apply_one A (B ++ (q.new ++ C')) (by simp) (by simp [moved]) eA lz (by simpa [moved] using lx) rp
  obtain ⟨rp, rq, rs, rt, ⟨h0, rfl, rfl⟩ | ⟨h0, rfl, rfl⟩⟩ := merge_ok h
  · exact key (s := s) rp rt h0 rfl h1 h2
  · obtain ⟨x, k1, k2⟩ := key (s := t) rq rs h0 rfl h2 h1
    exact ⟨x, k2, k1⟩

/-- Of three hunks each two ways past each other, that both go, end in the same three. -/
theorem three {p q r a b c d g h s t u v w x : H} (h1 : commute p q = .ok (a, b)) (h2 : commute b r = .ok (c, d)) (h3 : commute a c = .ok (g, h)) (h4 : commute q r = .ok (s, t)) (h5 : commute p s = .ok (u, v)) (h6 : commute v t = .ok (w, x)) : g = u ∧ h = w ∧ d = x := by
  obtain ⟨-, -, -, -, k1⟩ := commute_ok h1
  obtain ⟨-, -, -, -, k2⟩ := commute_ok h2
  obtain ⟨-, -, -, -, k3⟩ := commute_ok h3
  obtain ⟨-, -, -, -, k4⟩ := commute_ok h4
  obtain ⟨-, -, -, -, k5⟩ := commute_ok h5
  obtain ⟨-, -, -, -, k6⟩ := commute_ok h6
  clear h1 h2 h3 h4 h5 h6
  obtain ⟨p0, p1, p2⟩ := p
  obtain ⟨q0, q1, q2⟩ := q
  obtain ⟨r0, r1, r2⟩ := r
  rcases k1 with ⟨k1, rfl, rfl⟩ | ⟨k1, rfl, rfl⟩ <;> rcases k4 with ⟨k4, rfl, rfl⟩ | ⟨k4, rfl, rfl⟩ <;> rcases k2 with ⟨k2, rfl, rfl⟩ | ⟨k2, rfl, rfl⟩ <;> rcases k5 with ⟨k5, rfl, rfl⟩ | ⟨k5, rfl, rfl⟩ <;> rcases k3 with ⟨k3, rfl, rfl⟩ | ⟨k3, rfl, rfl⟩ <;> rcases k6 with ⟨k6, rfl, rfl⟩ | ⟨k6, rfl, rfl⟩ <;> simp only [moved, more, H.mk.injEq, and_true, true_and] at * <;> omega

end Go.Proofs.Ytkiafelpgcmifaa.Hn
