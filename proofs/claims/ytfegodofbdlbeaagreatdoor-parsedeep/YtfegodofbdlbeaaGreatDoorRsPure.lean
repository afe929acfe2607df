/-
  The reader's rules, put together: primes, signs.
-/
import Derived.Test.YtfegodofbdlbeaaGreatDoorRsMath
namespace Go.Proofs.YtfegodofbdlbeaaGreatDoor
namespace Rs
open Ps (R Eats sees hd go)
section
variable {L : List Lx.Tok} {s s' s0 s1 s2 s3 s4 s5 : St} {t a b : List UInt8} {J C : Ps.Job} {x y z : Tr}

theorem Rel.dead (hg : Good L s) (he : s.E ≠ 0) : Rel L J s x s := ⟨hg, Kept.refl s, fun h => absurd h he⟩
theorem Good.adv (h : Good L s) (hn : (hd (rest L s)).kind ≠ 5 ∨ (hd (rest L s)).text ≠ []) : Good L (adv s) := ⟨by rw [rest_adv]; exact h.ends.tail hn, h.lev⟩
/-- A live rule is another one, of as many tokens. -/
theorem Rel.same (h : Rel L C s x s') (hl : ∀ q, s.E = 0 → Eats C (rest L s) s.o.toNat q → Eats J (rest L s) s.o.toNat q) : Rel L J s x s' := by
  refine ⟨h.good, h.kept, fun h0 => ?_⟩
  rcases h.live h0 with ⟨h1, h2⟩ | ⟨h1, h2, h3⟩
  · exact .inl ⟨h1, hl _ h0 h2⟩
  · exact .inr ⟨h1, h2, hl _ h0 h3⟩
/-- A rule behind one token. -/
theorem Rel.next (h : Rel L C (adv s) x s') (h0 : s.E = 0) (hb : ∀ e i, Eats C (rest L s).tail s.o.toNat (.bad e i) → Eats J (rest L s) s.o.toNat (.bad e i)) (hk : ∀ l, Eats C (rest L s).tail s.o.toNat (.ok [x] l) → Eats J (rest L s) s.o.toNat (.ok [y] l)) : Rel L J s y s' := by
  refine ⟨h.good, fun he => absurd h0 he, fun _ => ?_⟩
  have hr : rest L (adv s) = (rest L s).tail := rest_adv s
  have ho : (adv s).o = s.o := rfl
  rcases h.live h0 with ⟨h1, h2⟩ | ⟨h1, h2, h3⟩
  · rw [hr, ho] at h2; exact .inl ⟨h1, hb _ _ h2⟩
  · rw [hr, ho] at h3; exact .inr ⟨h1, h2, hk _ h3⟩
theorem Rel.one (hg : Good L s) (h0 : s.E = 0) (hn : (hd (rest L s)).kind ≠ 5 ∨ (hd (rest L s)).text ≠ []) (h : Eats J (rest L s) s.o.toNat (.ok [x] (rest L s).tail)) : Rel L J s x (Rs.adv s) :=
  ⟨hg.adv hn, fun he => absurd h0 he, fun _ => .inr ⟨h0, rfl, by rw [rest_adv]; exact h⟩⟩
theorem rel_int (hg : Good L s) (h0 : s.E = 0) (hk : (hd (rest L s)).kind = 3) : Rel L .prime s (.mk 20 [] (Lx.val (hd (rest L s)).text) []) (adv s) :=
  .one hg h0 (.inl (by omega)) ⟨1, by rw [go, if_pos hk]⟩
theorem rel_var (hg : Good L s) (h0 : s.E = 0) (hk : (hd (rest L s)).kind = 1) (hp : isB L (adv s) [40] = false) : Rel L .prime s (.mk 22 (hd (rest L s)).text 0 []) (adv s) := by
  rw [isB_live (s := adv s) h0, rest_adv] at hp
  exact .one hg h0 (.inl (by omega)) ⟨1, by rw [go, if_neg (by omega), if_pos hk, if_neg (by rw [hp]; decide)]⟩
theorem rel_call (h0 : s.E = 0) (hk : (hd (rest L s)).kind = 1) (hp : isB L (adv s) [40] = true) (h : Rel L (.call (hd (rest L s)).text) (adv s) x s') : Rel L .prime s x s' := by
  rw [isB_live (s := adv s) h0, rest_adv] at hp
  exact h.next h0 (fun e i ⟨n, hn⟩ => ⟨n + 1, by rw [go, if_neg (by omega), if_pos hk, if_pos hp]; exact hn⟩) (fun l ⟨n, hn⟩ => ⟨n + 1, by rw [go, if_neg (by omega), if_pos hk, if_pos hp]; exact hn⟩)
/-- No integer, no name. -/
structure Else (L : List Lx.Tok) (s : St) : Prop where
  live : s.E = 0
  i : (hd (rest L s)).kind ≠ 3
  n : (hd (rest L s)).kind ≠ 1
theorem not_text (h0 : s.E = 0) (h : isB L s t = false) : (hd (rest L s)).text ≠ t := by
  rw [isB_live h0] at h
  intro e
  unfold sees at h
  rw [e] at h
  simp at h
theorem is_text (h : isB L s t = true) : (hd (rest L s)).text = t := by
  have := (isB_true h).2
  unfold sees at this
  simpa using this
theorem rel_true (hg : Good L s) (he : Else L s) (h : isB L s [116, 114, 117, 101] = true) : Rel L .prime s (.mk 21 [] 1 []) (adv s) := by
  have ht := is_text h
  exact .one hg he.live (.inr (by rw [ht]; decide)) ⟨1, by rw [go, if_neg he.i, if_neg he.n, if_pos ht]⟩
theorem rel_false (hg : Good L s) (he : Else L s) (h : isB L s [102, 97, 108, 115, 101] = true) : Rel L .prime s (.mk 21 [] 0 []) (adv s) := by
  have ht := is_text h
  exact .one hg he.live (.inr (by rw [ht]; decide)) ⟨1, by rw [go, if_neg he.i, if_neg he.n, if_neg (by rw [ht]; decide), if_pos ht]⟩
theorem rel_len (he : Else L s) (h : isB L s [108, 101, 110] = true) (hw : Rel L (.within [40] [41]) (adv s) x s') : Rel L .prime s (.mk 28 [] 0 [x]) s' := by
  have ht := is_text h
  refine hw.next he.live (fun e i ⟨n, hn⟩ => ⟨n + 1, ?_⟩) (fun l ⟨n, hn⟩ => ⟨n + 1, ?_⟩)
  all_goals
    rw [go, if_neg he.i, if_neg he.n, if_neg (by rw [ht]; decide), if_neg (by rw [ht]; decide), if_neg (by rw [ht]; decide), if_pos ht, hn]
    rfl
theorem rel_paren (he : Else L s) (h : isB L s [40] = true) (hw : Rel L (.within [40] [41]) s x s') : Rel L .prime s x s' := by
  have ht := is_text h
  exact hw.same (fun q _ ⟨n, hn⟩ => ⟨n + 1, by rw [go, if_neg he.i, if_neg he.n, if_neg (by rw [ht]; decide), if_neg (by rw [ht]; decide), if_neg (by rw [ht]; decide), if_neg (by rw [ht]; decide), if_neg (by rw [ht]; decide)]; exact hn⟩)
theorem rel_none (hg : Good L s) (he : Else L s) (h1 : isB L s [116, 114, 117, 101] = false) (h2 : isB L s [102, 97, 108, 115, 101] = false) (h3 : isB L s [91] = false) (h4 : isB L s [108, 101, 110] = false) (h5 : isB L s [114, 101, 97, 100] = false) (h6 : isB L s [40] = false) : Rel L .prime s x (fail L s 102) := by
  obtain ⟨e1, e2⟩ := fail_live (L := L) (e := 102) he.live
  refine ⟨fail_good (by decide) hg, fail_kept 102, fun _ => .inl ⟨by rw [e1]; decide, ?_⟩⟩
  rw [e1, e2]
  have h6' := h6
  rw [isB_live he.live] at h6'
  exact ⟨2, by rw [go, if_neg he.i, if_neg he.n, if_neg (not_text he.live h1), if_neg (not_text he.live h2), if_neg (not_text he.live h3), if_neg (not_text he.live h4), if_neg (not_text he.live h5), go]; unfold Ps.opn; rw [if_neg (by rw [h6']; decide)]; rfl⟩
theorem live_of (h : Kept s s') (h0 : s'.E = 0) : s.E = 0 := by
  by_cases he : s.E = 0
  · exact he
  · exact absurd h0 (h.dead he)
/-- What a begin that does not go ends with. -/
theorem begin_bad (hg : Good L s) (h0 : s.E = 0) (hb : (begin L s a).E ≠ 0) (f : List Lx.Tok → Option R) : Ps.opn [a] (rest L s) s.o.toNat f = some (.bad (begin L s a).E (begin L s a).i) := by
  rcases begin_ways (t := a) hg h0 with ⟨e1, e2, e3⟩ | ⟨e1, e2, e3, e4⟩ | ⟨e, -⟩
  · rw [e1, e2]; unfold Ps.opn; rw [if_neg (by rw [e3]; decide)]; rfl
  · rw [e1, e2]; unfold Ps.opn; rw [if_pos e3, if_pos (by omega)]; rfl
  · exact absurd e hb
theorem begin_goes (hg : Good L s) (h0 : s.E = 0) (hb : (begin L s a).E = 0) (f : List Lx.Tok → Option R) : Ps.opn [a] (rest L s) s.o.toNat f = f (rest L (begin L s a)) ∧ (begin L s a).o.toNat = s.o.toNat + 1 ∧ (begin L s a).o = s.o + 1 := by
  have := hg.lev h0
  rcases begin_ways (t := a) hg h0 with ⟨e1, -⟩ | ⟨e1, -⟩ | ⟨-, e1, e2, e3, e4⟩
  · omega
  · omega
  · exact ⟨by rw [Ps.opn_yes e2 (by omega), e4], by rw [e1]; omega, e1⟩
theorem want_bad (h0 : s.E = 0) (hb : (want L s a).E ≠ 0) (f : List Lx.Tok → Option R) : Ps.want a (rest L s) f = some (.bad (want L s a).E (want L s a).i) := by
  rcases want_ways (L := L) (t := a) h0 with ⟨e1, e2, e3⟩ | ⟨e, -⟩
  · rw [e1, e2]; unfold Ps.want; rw [if_neg (by rw [e3]; decide)]; rfl
  · exact absurd e hb
theorem want_goes (h0 : s.E = 0) (hb : (want L s a).E = 0) (f : List Lx.Tok → Option R) : Ps.want a (rest L s) f = f (rest L (want L s a)) ∧ (want L s a).o = s.o := by
  rcases want_ways (L := L) (t := a) h0 with ⟨e1, -⟩ | ⟨-, e1, e2, e4⟩
  · omega
  · exact ⟨by rw [Ps.want_yes e2, e4], e1⟩
theorem endd_lev (hg : Good L s) (h0 : s.E = 0 → 1 ≤ s.o) (hb : b ≠ []) : Good L (endd L s b) := less_good (want_good hg hb) (fun he => by
  have h1 := live_of want_kept he
  have := (want_goes (a := b) h1 he (fun _ => none)).2
  have := h0 h1
  omega)
theorem rel_read (hg : Good L s) (he : Else L s) (h : isB L s [114, 101, 97, 100] = true) : Rel L .prime s (.mk 29 [] 0 []) (endd L (begin L (adv s) [40]) [41]) := by
  have ht := is_text h
  have g1 : Good L (adv s) := hg.adv (.inr (by rw [ht]; decide))
  have g2 : Good L (begin L (adv s) [40]) := begin_good g1 (by decide)
  have h0 : (adv s).E = 0 := he.live
  have hl := g1.lev h0
  have hr : rest L (adv s) = (rest L s).tail := rest_adv s
  have hg3 : Good L (endd L (begin L (adv s) [40]) [41]) := endd_lev g2 (fun hb => by have := (begin_goes g1 h0 hb (fun _ => none)).2.2; omega) (by decide)
  refine ⟨hg3, fun hd => absurd he.live hd, fun _ => ?_⟩
  have hgo : ∀ n, go (n + 1) .prime (rest L s) s.o.toNat = Ps.opn [[40]] (rest L (adv s)) (adv s).o.toNat fun l => Ps.want [41] l fun l => some (.ok [.mk 29 [] 0 []] l) := fun n => by
    rw [go, if_neg he.i, if_neg he.n, if_neg (by rw [ht]; decide), if_neg (by rw [ht]; decide), if_neg (by rw [ht]; decide), if_neg (by rw [ht]; decide), if_pos ht, hr]
    rfl
  by_cases hb : (begin L (adv s) [40]).E = 0
  · obtain ⟨b1, b2, b3⟩ := begin_goes g1 h0 hb (fun l => Ps.want [41] l fun l => some (.ok [.mk 29 [] 0 []] l))
    by_cases hw : (want L (begin L (adv s) [40]) [41]).E = 0
    · obtain ⟨w1, w2⟩ := want_goes (a := [41]) hb hw (fun l => some (.ok [.mk 29 [] 0 []] l))
      refine .inr ⟨hw, ?_, ⟨1, by rw [hgo, b1, w1]; rfl⟩⟩
      show wr ((want L (begin L (adv s) [40]) [41]).o - 1) = s.o
      have e9 : (adv s).o = s.o := rfl
      rw [w2, b3, e9, wr_in (by omega)]
      omega
    · exact .inl ⟨hw, ⟨1, by rw [hgo, b1]; exact want_bad hb hw _⟩⟩
  · have hk := (endd_kept (L := L) (t := [41])) hb
    refine .inl ⟨by rw [hk.1]; exact hb, ?_⟩
    rw [hk.1, hk.2]
    exact ⟨1, by rw [hgo]; exact begin_bad g1 h0 hb _⟩
theorem rel_array (hg : Good L s) (he : Else L s) (h : isB L s [91] = true) (h1 : Rel L (.bin 0) (begin L s [91]) x s2) (h2 : Rel L (.bin 0) (want L s2 [59]) y s4) : Rel L .prime s (.mk 27 [] 0 [x, y]) (endd L s4 [93]) := by
  have ht := is_text h
  have h0 := he.live
  have hl := hg.lev h0
  have k1 : Kept (begin L s [91]) s4 := h1.kept.trans (want_kept.trans h2.kept)
  have hlev : s4.E = 0 → s4.o = s.o + 1 := fun e4 => by
    have e3 := live_of h2.kept e4
    have e2 := live_of want_kept e3
    have e1 := live_of h1.kept e2
    have o1 := (begin_goes hg h0 e1 (fun _ => none)).2.2
    have o3 := (want_goes (a := [59]) e2 e3 (fun _ => none)).2
    rcases h1.live e1 with ⟨q, -⟩ | ⟨-, o2, -⟩
    · exact absurd e2 q
    rcases h2.live e3 with ⟨q, -⟩ | ⟨-, o4, -⟩
    · exact absurd e4 q
    omega
  refine ⟨endd_lev h2.good (fun e4 => by have := hlev e4; omega) (by decide), fun hd => absurd h0 hd, fun _ => ?_⟩
  have hgo : ∀ n, go (n + 2) .prime (rest L s) s.o.toNat = Ps.opn [[91]] (rest L s) s.o.toNat fun l => Ps.bnd (go n (.bin 0) l (s.o.toNat + 1)) fun x l => Ps.want [59] l fun l => Ps.bnd (go n (.bin 0) l (s.o.toNat + 1)) fun y l => Ps.want [93] l fun l => some (.ok [.mk 27 [] 0 (x ++ y)] l) := fun n => by
    rw [go, if_neg he.i, if_neg he.n, if_neg (by rw [ht]; decide), if_neg (by rw [ht]; decide), if_pos ht, go]
  have fin : ∀ st : St, st.E ≠ 0 → Kept st s4 → (∃ n, go n .prime (rest L s) s.o.toNat = some (.bad st.E st.i)) → ((endd L s4 [93]).E ≠ 0 ∧ Eats .prime (rest L s) s.o.toNat (.bad (endd L s4 [93]).E (endd L s4 [93]).i)) := fun st hst hk hn => by
    obtain ⟨q1, q2⟩ := (hk.trans (endd_kept (L := L) (t := [93]))) hst
    exact ⟨by rw [q1]; exact hst, by rw [q1, q2]; exact hn⟩
  by_cases e1 : ¬ (begin L s [91]).E = 0
  · exact .inl (fin _ e1 k1 ⟨2, by rw [hgo]; exact begin_bad hg h0 e1 _⟩)
  have e1 : (begin L s [91]).E = 0 := by simpa using e1
  obtain ⟨-, o1, o1'⟩ := begin_goes hg h0 e1 (fun _ => none)
  have b1 : ∀ f, Ps.opn [[91]] (rest L s) s.o.toNat f = f (rest L (begin L s [91])) := fun f => (begin_goes hg h0 e1 f).1
  rcases h1.live e1 with ⟨e2, n, hn⟩ | ⟨e2, o2, n, hn⟩
  · rw [o1] at hn
    exact .inl (fin s2 e2 (want_kept.trans h2.kept) ⟨n + 2, by rw [hgo, b1, hn]; rfl⟩)
  rw [o1] at hn
  by_cases e3 : ¬ (want L s2 [59]).E = 0
  · exact .inl (fin _ e3 h2.kept ⟨n + 2, by rw [hgo, b1, hn]; simp only [Ps.bnd]; exact want_bad e2 e3 _⟩)
  have e3 : (want L s2 [59]).E = 0 := by simpa using e3
  have w1 : ∀ f, Ps.want [59] (rest L s2) f = f (rest L (want L s2 [59])) := fun f => (want_goes e2 e3 f).1
  have o3 := (want_goes (a := [59]) e2 e3 (fun _ => none)).2
  have o3' : (want L s2 [59]).o.toNat = s.o.toNat + 1 := by rw [o3, o2]; exact o1
  rcases h2.live e3 with ⟨e4, m, hm⟩ | ⟨e4, o4, m, hm⟩
  · rw [o3'] at hm
    have hn' := Ps.go_le (Nat.le_max_left n m) hn
    have hm' := Ps.go_le (Nat.le_max_right n m) hm
    exact .inl (fin s4 e4 (Kept.refl s4) ⟨max n m + 2, by rw [hgo, b1, hn']; simp only [Ps.bnd]; rw [w1, hm']⟩)
  rw [o3'] at hm
  have hn' := Ps.go_le (Nat.le_max_left n m) hn
  have hm' := Ps.go_le (Nat.le_max_right n m) hm
  by_cases e5 : ¬ (want L s4 [93]).E = 0
  · exact .inl ⟨e5, ⟨max n m + 2, by rw [hgo, b1, hn']; simp only [Ps.bnd]; rw [w1, hm']; simp only []; exact want_bad e4 e5 _⟩⟩
  have e5 : (want L s4 [93]).E = 0 := by simpa using e5
  obtain ⟨-, o5⟩ := want_goes (a := [93]) e4 e5 (fun _ => none)
  have w5 : ∀ f, Ps.want [93] (rest L s4) f = f (rest L (want L s4 [93])) := fun f => (want_goes e4 e5 f).1
  refine .inr ⟨e5, ?_, ⟨max n m + 2, by rw [hgo, b1, hn']; simp only [Ps.bnd]; rw [w1, hm']; simp only []; rw [w5]; rfl⟩⟩
  show wr ((want L s4 [93]).o - 1) = s.o
  have := hlev e4
  rw [o5, this, wr_in (by omega)]
  omega
theorem rel_sign (hg : Good L s) (h : isB L s t = true) (ht : t = [45] ∨ t = [33]) (h1 : Rel L .unary (begin L s t) x s2) : Rel L .unary s (.mk 23 t 0 [x]) (less s2) := by
  have h0 := (isB_true h).1
  have htx := is_text h
  have hl := hg.lev h0
  have hs : sees (rest L s) [[45], [33]] = true := by unfold sees; rw [htx]; rcases ht with rfl | rfl <;> decide
  have hlev : s2.E = 0 → s2.o = s.o + 1 := fun e2 => by
    have e1 := live_of h1.kept e2
    have o1 := (begin_goes hg h0 e1 (fun _ => none)).2.2
    rcases h1.live e1 with ⟨q, -⟩ | ⟨-, o2, -⟩
    · exact absurd e2 q
    omega
  have hgo : ∀ n, go (n + 1) .unary (rest L s) s.o.toNat = Ps.opn [t] (rest L s) s.o.toNat fun l' => Ps.bnd (go n .unary l' (s.o.toNat + 1)) fun x l'' => some (.ok [.mk 23 t 0 x] l'') := fun n => by
    have hs2 : sees (rest L s) [t] = true := (isB_true h).2
    rw [go, if_pos hs, htx]
    unfold Ps.opn
    rw [if_pos hs, if_pos hs2]
  refine ⟨less_good h1.good (fun e2 => by have := hlev e2; omega), fun hd => absurd h0 hd, fun _ => ?_⟩
  by_cases e1 : ¬ (begin L s t).E = 0
  · obtain ⟨q1, q2⟩ := (h1.kept.trans less_kept) e1
    refine .inl ⟨by rw [q1]; exact e1, ?_⟩
    rw [q1, q2]
    exact ⟨1, by rw [hgo]; exact begin_bad hg h0 e1 _⟩
  have e1 : (begin L s t).E = 0 := by simpa using e1
  obtain ⟨-, o1, o1'⟩ := begin_goes hg h0 e1 (fun _ => none)
  have b1 : ∀ f, Ps.opn [t] (rest L s) s.o.toNat f = f (rest L (begin L s t)) := fun f => (begin_goes hg h0 e1 f).1
  rcases h1.live e1 with ⟨e2, n, hn⟩ | ⟨e2, o2, n, hn⟩
  · rw [o1] at hn
    exact .inl ⟨e2, ⟨n + 1, by rw [hgo, b1, hn]; rfl⟩⟩
  · rw [o1] at hn
    refine .inr ⟨e2, ?_, ⟨n + 1, by rw [hgo, b1, hn]; rfl⟩⟩
    show wr (s2.o - 1) = s.o
    have := hlev e2
    rw [this, wr_in (by omega)]
    omega
theorem rel_nosign (h1 : isB L s [45] = false) (h2 : isB L s [33] = false) (h : Rel L .suffix s x s') : Rel L .unary s x s' := by
  refine h.same (fun q h0 hq => Ps.Eats.unary_no ?_ hq)
  have a1 := not_text h0 h1
  have a2 := not_text h0 h2
  rw [Bool.eq_false_iff]
  intro e
  unfold sees at e
  simp at e
  rcases e with e | e
  · exact a1 e
  · exact a2 e
end
end Rs
end Go.Proofs.YtfegodofbdlbeaaGreatDoor
