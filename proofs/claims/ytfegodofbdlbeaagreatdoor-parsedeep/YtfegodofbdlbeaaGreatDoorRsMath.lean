/-
  The document's reader as plain data: a state that a fault ends; what its steps do, against the grammar's rules.
-/
import Derived.Test.YtfegodofbdlbeaaGreatDoorMoreAll
namespace Go.Proofs.YtfegodofbdlbeaaGreatDoor
namespace Rs
open Ps (Job R Eats sees hd go)

/-- Where the reader stands, how many levels are open, its fault. -/
structure St where
  k : Nat
  o : Int
  E : Nat
  i : Nat

section
variable (L : List Lx.Tok)
def rest (s : St) : List Lx.Tok := L.drop s.k
def isB (s : St) (t : List UInt8) : Bool := decide (s.E = 0) && sees (rest L s) [t]
def fail (s : St) (e : Nat) : St := if s.E = 0 then ⟨s.k, s.o, e, (hd (rest L s)).at_⟩ else s
def adv (s : St) : St := ⟨s.k + 1, s.o, s.E, s.i⟩
def want (s : St) (t : List UInt8) : St := if isB L s t then adv s else fail L s 102
def wr (z : Int) : Int := Go.IntKind.i64.wrap z
def begin (s : St) (t : List UInt8) : St := if isB L s t then (if 120 ≤ s.o then fail L s 103 else ⟨s.k + 1, wr (s.o + 1), s.E, s.i⟩) else fail L s 102
def less (s : St) : St := ⟨s.k, wr (s.o - 1), s.E, s.i⟩
def endd (s : St) (t : List UInt8) : St := less (want L s t)
def kindS (s : St) (q : Nat) : St := if s.E = 0 then (if (hd (rest L s)).kind = q then adv s else fail L s 102) else s
def kindT (s : St) (q : Nat) : List UInt8 := if s.E = 0 ∧ (hd (rest L s)).kind = q then (hd (rest L s)).text else []
end

/-- The end is the last token, and no other one is; the level is one. -/
def Ends : List Lx.Tok → Prop
  | [] => False
  | t :: r => (t.kind = 5 ∧ t.text = [] ∧ r = []) ∨ (t.kind ≠ 5 ∧ Ends r)
theorem Ends.ne {l : List Lx.Tok} (h : Ends l) : l ≠ [] := by rintro rfl; exact h
theorem Ends.tail {l : List Lx.Tok} (h : Ends l) (hn : (hd l).kind ≠ 5 ∨ (hd l).text ≠ []) : Ends l.tail := by
  cases l with
  | nil => exact h.elim
  | cons t r =>
    rcases h with ⟨h1, h2, -⟩ | ⟨-, h⟩
    · exact hn.elim (absurd h1) (absurd h2)
    · exact h
structure Good (L : List Lx.Tok) (s : St) : Prop where
  ends : Ends (rest L s)
  lev : s.E = 0 → 0 ≤ s.o ∧ s.o ≤ 120
/-- A fault stays. -/
def Kept (s s' : St) : Prop := s.E ≠ 0 → s'.E = s.E ∧ s'.i = s.i
theorem Kept.refl (s : St) : Kept s s := fun _ => ⟨rfl, rfl⟩
theorem Kept.trans {a b c : St} (h : Kept a b) (k : Kept b c) : Kept a c := fun ha => by
  obtain ⟨e1, e2⟩ := h ha
  obtain ⟨e3, e4⟩ := k (by rw [e1]; exact ha)
  exact ⟨e3.trans e1, e4.trans e2⟩
theorem Kept.dead {a b : St} (h : Kept a b) (ha : a.E ≠ 0) : b.E ≠ 0 := by rw [(h ha).1]; exact ha

section
variable {L : List Lx.Tok} {s s' s0 s1 s2 s3 s4 s5 : St} {t a b : List UInt8} {q lv : Nat} {J C : Job} {x y z : Tr}

theorem rest_adv (s : St) : rest L (adv s) = (rest L s).tail := by unfold rest adv; rw [List.tail_drop]
theorem wr_in {z : Int} (h : -1000000 ≤ z ∧ z ≤ 1000000) : wr z = z := by unfold wr; rw [Go.IntKind.wrap_i64]; omega
theorem fail_kept (e : Nat) : Kept s (fail L s e) := fun h => by unfold fail; rw [if_neg h]; exact ⟨rfl, rfl⟩
theorem isB_dead (h : s.E ≠ 0) : isB L s t = false := by unfold isB; rw [decide_eq_false h]; rfl
theorem isB_live (h : s.E = 0) : isB L s t = sees (rest L s) [t] := by unfold isB; rw [decide_eq_true h]; rfl
theorem isB_true (h : isB L s t = true) : s.E = 0 ∧ sees (rest L s) [t] = true := by
  unfold isB at h
  simpa using h
theorem want_kept : Kept s (want L s t) := fun h => by unfold want; rw [isB_dead h]; exact fail_kept 102 h
theorem begin_kept : Kept s (begin L s t) := fun h => by unfold begin; rw [isB_dead h]; exact fail_kept 102 h
theorem less_kept : Kept s (less s) := fun _ => ⟨rfl, rfl⟩
theorem endd_kept : Kept s (endd L s t) := want_kept.trans less_kept
theorem adv_kept : Kept s (adv s) := fun _ => ⟨rfl, rfl⟩
theorem kindS_kept : Kept s (kindS L s q) := fun h => by unfold kindS; rw [if_neg h]; exact ⟨rfl, rfl⟩
theorem fail_good {e : Nat} (he : e ≠ 0) (h : Good L s) : Good L (fail L s e) := by
  unfold fail
  split
  · exact ⟨h.ends, fun h0 => absurd h0 he⟩
  · exact h
theorem fail_live {e : Nat} (h : s.E = 0) : (fail L s e).E = e ∧ (fail L s e).i = (hd (rest L s)).at_ := by unfold fail; rw [if_pos h]; exact ⟨rfl, rfl⟩
theorem seen_good (h : Good L s) (hs : sees (rest L s) [t] = true) (ht : t ≠ []) : Good L (adv s) := by
  refine ⟨?_, h.lev⟩
  rw [rest_adv]
  refine h.ends.tail (.inr (fun e => ht ?_))
  unfold sees at hs
  rw [e] at hs
  simpa using hs.symm
theorem want_good (h : Good L s) (ht : t ≠ []) : Good L (want L s t) := by
  unfold want
  split
  · next hs => exact seen_good h (isB_true hs).2 ht
  · exact fail_good (by decide) h
theorem less_good (h : Good L s) (h0 : s.E = 0 → 1 ≤ s.o) : Good L (less s) := by
  refine ⟨h.ends, fun he => ?_⟩
  have h1 := h.lev he
  have h2 := h0 he
  show 0 ≤ wr (s.o - 1) ∧ wr (s.o - 1) ≤ 120
  rw [wr_in (by omega)]
  omega
/-- A rule, read from s0 to s, with this node. -/
structure Rel (L : List Lx.Tok) (J : Job) (s0 : St) (x : Tr) (s : St) : Prop where
  good : Good L s
  kept : Kept s0 s
  live : s0.E = 0 → (s.E ≠ 0 ∧ Eats J (rest L s0) s0.o.toNat (.bad s.E s.i)) ∨ (s.E = 0 ∧ s.o = s0.o ∧ Eats J (rest L s0) s0.o.toNat (.ok [x] (rest L s)))
/-- A rule, read from s0 to s: what is left to be read is C. -/
structure Till (L : List Lx.Tok) (J : Job) (s0 : St) (C : Job) (s : St) : Prop where
  good : Good L s
  kept : Kept s0 s
  live : s0.E = 0 → (s.E ≠ 0 ∧ Eats J (rest L s0) s0.o.toNat (.bad s.E s.i)) ∨ (s.E = 0 ∧ s.o = s0.o ∧ ∀ q, Eats C (rest L s) s.o.toNat q → Eats J (rest L s0) s0.o.toNat q)
theorem Till.fin (h : Till L J s0 C s) (hC : s.E = 0 → Eats C (rest L s) s.o.toNat (.ok [x] (rest L s))) : Rel L J s0 x s := by
  refine ⟨h.good, h.kept, fun h0 => ?_⟩
  rcases h.live h0 with h1 | ⟨h1, h2, h3⟩
  · exact .inl h1
  · exact .inr ⟨h1, h2, h3 _ (hC h1)⟩
theorem Till.refl (h : Good L s) : Till L J s J s := ⟨h, Kept.refl s, fun h0 => .inr ⟨h0, rfl, fun _ h => h⟩⟩
/-- One rule is another one's beginning. -/
theorem Rel.till (h : Rel L C s0 x s) (hb : ∀ e i, s0.E = 0 → Eats C (rest L s0) s0.o.toNat (.bad e i) → Eats J (rest L s0) s0.o.toNat (.bad e i)) {D : Job} (hk : ∀ q, s0.E = 0 → s.E = 0 → s.o = s0.o → Eats C (rest L s0) s0.o.toNat (.ok [x] (rest L s)) → Eats D (rest L s) s.o.toNat q → Eats J (rest L s0) s0.o.toNat q) : Till L J s0 D s := by
  refine ⟨h.good, h.kept, fun h0 => ?_⟩
  rcases h.live h0 with ⟨h1, h2⟩ | ⟨h1, h2, h3⟩
  · exact .inl ⟨h1, hb _ _ h0 h2⟩
  · exact .inr ⟨h1, h2, fun q hq => hk q h0 h1 h2 h3 hq⟩
theorem Rel.bin {k : Nat} (hk : k ≠ 5) (h : Rel L (.bin (k + 1)) s0 x s) : Till L (.bin k) s0 (.more k [x]) s :=
  h.till (fun e i _ ⟨n, hn⟩ => ⟨n + 1, by rw [go, if_neg hk, hn]; rfl⟩) (fun q _ _ e h1 h2 => Ps.Eats.bin hk h1 (e ▸ h2))
theorem Till.more {k : Nat} (h : Till L J s0 (.more k [x]) s) (h0 : s.E = 0) (hs : sees (rest L s) (Ps.ops k) = true) (h2 : Rel L (.bin (k + 1)) (adv s) y s2) : Till L J s0 (.more k [.mk 24 (hd (rest L s)).text 0 [x, y]]) s2 := by
  refine ⟨h2.good, h.kept.trans (adv_kept.trans h2.kept), fun hl => ?_⟩
  rcases h.live hl with ⟨h3, -⟩ | ⟨-, h4, h5⟩
  · exact absurd h0 h3
  have hr : rest L (adv s) = (rest L s).tail := rest_adv s
  have ho : (adv s).o = s.o := rfl
  rcases h2.live h0 with ⟨h6, n, h7⟩ | ⟨h6, h7, h8⟩
  · rw [hr, ho] at h7
    exact .inl ⟨h6, h5 _ ⟨n + 1, by rw [go, if_pos hs, h7]; rfl⟩⟩
  · rw [hr, ho] at h8
    refine .inr ⟨h6, h7.trans h4, fun q hq => h5 q ?_⟩
    have e : s2.o = s.o := h7
    rw [e] at hq
    exact Ps.Eats.more hs h8 hq
theorem Till.more_end {k : Nat} (h : Till L J s0 (.more k [x]) s) (hs : s.E = 0 → sees (rest L s) (Ps.ops k) = false) : Rel L J s0 x s := h.fin (fun h0 => Ps.Eats.more_stop (hs h0))
theorem Rel.prime (h : Rel L .prime s0 x s) : Till L .suffix s0 (.idx [x]) s :=
  h.till (fun e i _ ⟨n, hn⟩ => ⟨n + 1, by rw [go, hn]; rfl⟩) (fun q _ _ e h1 h2 => Ps.Eats.suffix h1 (e ▸ h2))
theorem Till.idx (h : Till L J s0 (.idx [x]) s) (hs : isB L s [91] = true) (h2 : Rel L (.within [91] [93]) s y s2) : Till L J s0 (.idx [.mk 26 [] 0 [x, y]]) s2 := by
  obtain ⟨h0, hs⟩ := isB_true hs
  refine ⟨h2.good, h.kept.trans h2.kept, fun hl => ?_⟩
  rcases h.live hl with ⟨h3, -⟩ | ⟨-, h4, h5⟩
  · exact absurd h0 h3
  rcases h2.live h0 with ⟨h6, n, h7⟩ | ⟨h6, h7, h8⟩
  · exact .inl ⟨h6, h5 _ ⟨n + 1, by rw [go, if_pos hs, h7]; rfl⟩⟩
  · refine .inr ⟨h6, h7.trans h4, fun q hq => h5 q ?_⟩
    rw [h7] at hq
    exact Ps.Eats.idx hs h8 hq
theorem Till.idx_end (h : Till L J s0 (.idx [x]) s) (hs : isB L s [91] = false) : Rel L J s0 x s := h.fin (fun h0 => Ps.Eats.idx_stop (by rw [isB_live h0] at hs; exact hs))
/-- What begin leaves. -/
theorem begin_ways (h : Good L s) (h0 : s.E = 0) : ((begin L s t).E = 102 ∧ (begin L s t).i = (hd (rest L s)).at_ ∧ sees (rest L s) [t] = false) ∨ ((begin L s t).E = 103 ∧ (begin L s t).i = (hd (rest L s)).at_ ∧ sees (rest L s) [t] = true ∧ s.o = 120) ∨ ((begin L s t).E = 0 ∧ (begin L s t).o = s.o + 1 ∧ sees (rest L s) [t] = true ∧ s.o < 120 ∧ rest L (begin L s t) = (rest L s).tail) := by
  have hl := h.lev h0
  unfold begin
  rw [isB_live h0]
  cases hs : sees (rest L s) [t]
  · obtain ⟨e1, e2⟩ := fail_live (L := L) (e := 102) h0
    exact .inl ⟨by simpa using e1, by simpa using e2, rfl⟩
  · by_cases h1 : 120 ≤ s.o
    · obtain ⟨e1, e2⟩ := fail_live (L := L) (e := 103) h0
      exact .inr (.inl ⟨by simpa [h1] using e1, by simpa [h1] using e2, rfl, by omega⟩)
    · refine .inr (.inr ⟨by simp [h1, h0], by simp [h1]; exact wr_in (by omega), rfl, by omega, ?_⟩)
      simp only [if_true, h1, if_false]
      exact rest_adv s
theorem begin_good (h : Good L s) (ht : t ≠ []) : Good L (begin L s t) := by
  unfold begin
  split
  · next hs =>
    obtain ⟨h0, hs⟩ := isB_true hs
    have hl := h.lev h0
    split
    · exact fail_good (by decide) h
    · next h1 =>
      refine ⟨(seen_good h hs ht).ends, fun _ => ?_⟩
      show 0 ≤ wr (s.o + 1) ∧ wr (s.o + 1) ≤ 120
      rw [wr_in (by omega)]
      omega
  · exact fail_good (by decide) h
theorem want_ways (h0 : s.E = 0) : ((want L s t).E = 102 ∧ (want L s t).i = (hd (rest L s)).at_ ∧ sees (rest L s) [t] = false) ∨ ((want L s t).E = 0 ∧ (want L s t).o = s.o ∧ sees (rest L s) [t] = true ∧ rest L (want L s t) = (rest L s).tail) := by
  unfold want
  rw [isB_live h0]
  cases hs : sees (rest L s) [t]
  · obtain ⟨e1, e2⟩ := fail_live (L := L) (e := 102) h0
    exact .inl ⟨by simpa using e1, by simpa using e2, rfl⟩
  · exact .inr ⟨h0, rfl, rfl, rest_adv s⟩
/-- An expression between two texts. -/
theorem rel_within (h : Good L s) (hb : b ≠ []) (h1 : Rel L (.bin 0) (begin L s a) x s2) : Rel L (.within a b) s x (endd L s2 b) := by
  have hk : Kept s (endd L s2 b) := begin_kept.trans (h1.kept.trans endd_kept)
  have hg0 : s2.E = 0 → 1 ≤ (want L s2 b).o := fun h2 => by
    have hb0 : (begin L s a).E = 0 := by
      by_cases he : (begin L s a).E = 0
      · exact he
      · exact absurd h2 (h1.kept.dead he)
    have hs0 : s.E = 0 := by
      by_cases he : s.E = 0
      · exact he
      · exact absurd hb0 (begin_kept.dead he)
    have hl := h.lev hs0
    rcases begin_ways (t := a) h hs0 with ⟨h3, -⟩ | ⟨h3, -⟩ | ⟨-, h3, -⟩
    · omega
    · omega
    rcases h1.live hb0 with ⟨h4, -⟩ | ⟨-, h4, -⟩
    · exact absurd h2 h4
    rcases want_ways (L := L) (t := b) h2 with ⟨-, -, -⟩ | ⟨-, h5, -⟩
    · have : (want L s2 b).o = s2.o := by
        unfold want fail; split
        · rfl
        · first
          | rfl
          | (split <;> rfl)
      omega
    · omega
  refine ⟨less_good (want_good h1.good hb) (fun h2 => hg0 ?_), hk, fun h0 => ?_⟩
  · by_cases he : s2.E = 0
    · exact he
    · exact absurd h2 (want_kept.dead he)
  have hl := h.lev h0
  rcases begin_ways (t := a) h h0 with ⟨h3, h4, h5⟩ | ⟨h3, h4, h5, h6⟩ | ⟨h3, h4, h5, h6, h7⟩
  · obtain ⟨e1, e2⟩ := (h1.kept.trans (endd_kept (L := L) (t := b))) (by rw [h3]; decide)
    rw [h3] at e1; rw [h4] at e2
    refine .inl ⟨by rw [e1]; decide, ?_⟩
    rw [e1, e2]
    exact ⟨1, by rw [go]; unfold Ps.opn; rw [if_neg (by rw [h5]; decide)]; rfl⟩
  · obtain ⟨e1, e2⟩ := (h1.kept.trans (endd_kept (L := L) (t := b))) (by rw [h3]; decide)
    rw [h3] at e1; rw [h4] at e2
    refine .inl ⟨by rw [e1]; decide, ?_⟩
    rw [e1, e2]
    exact ⟨1, by rw [go]; unfold Ps.opn; rw [if_pos h5, if_pos (by omega)]; rfl⟩
  · have ho : (begin L s a).o.toNat = s.o.toNat + 1 := by rw [h4]; omega
    have hv : s.o.toNat ≠ 120 := by omega
    rcases h1.live h3 with ⟨h8, n, h9⟩ | ⟨h8, h9, n, h10⟩
    · rw [h7, ho] at h9
      obtain ⟨e1, e2⟩ := (endd_kept (L := L) (t := b)) h8
      refine .inl ⟨by rw [e1]; exact h8, ?_⟩
      rw [e1, e2]
      exact ⟨n + 1, by rw [go, Ps.opn_yes h5 hv, h9]; rfl⟩
    · rw [h7, ho] at h10
      rcases want_ways (L := L) (t := b) h8 with ⟨g1, g2, g3⟩ | ⟨g1, g2, g3, g4⟩
      · refine .inl ⟨by show (want L s2 b).E ≠ 0; rw [g1]; decide, ?_⟩
        show Eats _ _ _ (.bad (want L s2 b).E (want L s2 b).i)
        rw [g1, g2]
        exact ⟨n + 1, by rw [go, Ps.opn_yes h5 hv, h10]; simp only [Ps.bnd]; unfold Ps.want; rw [if_neg (by rw [g3]; decide)]; rfl⟩
      · refine .inr ⟨g1, ?_, ?_⟩
        · show wr ((want L s2 b).o - 1) = s.o
          rw [g2, h9, h4, wr_in (by omega)]
          omega
        · show Eats _ _ _ (.ok [x] (rest L (want L s2 b)))
          rw [g4]
          exact ⟨n + 1, by rw [go, Ps.opn_yes h5 hv, h10]; simp only [Ps.bnd]; rw [Ps.want_yes g3]⟩
end
end Rs
end Go.Proofs.YtfegodofbdlbeaaGreatDoor
