/-
  The reader's statements, put together: one step behind the other.
-/
import Derived.Test.YtfegodofbdlbeaaGreatDoorRsLists
namespace Go.Proofs.YtfegodofbdlbeaaGreatDoor
namespace Rs
open Ps (R Eats sees hd go)
section
variable {L : List Lx.Tok} {s s' s0 s1 s2 s3 : St} {t a b : List UInt8} {J C : Ps.Job} {x y z : Tr} {G : List Lx.Tok → Nat → R → Prop}

/-- From some room on, K answers q. -/
def Ev (K : Nat → List Lx.Tok → Nat → Option R) (l : List Lx.Tok) (lv : Nat) (q : R) : Prop := ∃ n, ∀ m, n ≤ m → K m l lv = some q
/-- A rule's beginning. -/
theorem seq_start {K : Nat → List Lx.Tok → Nat → Option R} (hg : Good L s) (h : s.E = 0 → ∀ n, ∃ k, go k J (rest L s) s.o.toNat = K n (rest L s) s.o.toNat) : Tills L (Eats J) s (Ev K) s := by
  refine ⟨hg, Kept.refl s, fun h0 => .inr ⟨h0, rfl, fun q ⟨n, hn⟩ => ?_⟩⟩
  obtain ⟨k, hk⟩ := h h0 n
  exact ⟨k, hk.trans (hn n (Nat.le_refl n))⟩
theorem seq_first {K : Nat → List Lx.Tok → Nat → Option R} (hg : Good L (adv s)) (h0 : s.E = 0) (h : ∀ n, ∃ k, go k J (rest L s) s.o.toNat = K n (rest L s).tail s.o.toNat) : Tills L (Eats J) s (Ev K) (adv s) := by
  refine ⟨hg, adv_kept, fun _ => .inr ⟨h0, rfl, fun q ⟨n, hn⟩ => ?_⟩⟩
  obtain ⟨k, hk⟩ := h n
  have := hn n (Nat.le_refl n)
  rw [rest_adv] at this
  exact ⟨k, hk.trans this⟩
theorem Tills.want {K : Nat → List Lx.Tok → Nat → Option R} (h : Tills L G s0 (Ev fun m l lv => Ps.want t l fun l => K m l lv) s) (ht : t ≠ []) : Tills L G s0 (Ev K) (want L s t) := by
  refine ⟨want_good h.good ht, h.kept.trans want_kept, fun h0 => ?_⟩
  rcases h.live h0 with ⟨e, g⟩ | ⟨e, o, hq⟩
  · obtain ⟨k1, k2⟩ := want_kept (L := L) (t := t) e
    exact .inl ⟨by rw [k1]; exact e, by rw [k1, k2]; exact g⟩
  · by_cases e3 : (Rs.want L s t).E = 0
    · have o3 := (want_goes (a := t) e e3 (fun _ => none)).2
      refine .inr ⟨e3, o3.trans o, fun q ⟨n, hn⟩ => hq q ⟨n, fun m hm => ?_⟩⟩
      have := hn m hm
      rw [o3] at this
      show Ps.want t (rest L s) (fun l => K m l s.o.toNat) = _
      rw [(want_goes e e3 _).1]
      exact this
    · exact .inl ⟨e3, hq _ ⟨0, fun m _ => want_bad e e3 _⟩⟩
theorem Tills.name {K : Nat → List UInt8 → List Lx.Tok → Nat → Option R} (h : Tills L G s0 (Ev fun m l lv => Ps.name l fun tx l => K m tx l lv) s) : Tills L G s0 (Ev fun m l lv => K m (kindT L s 1) l lv) (kindS L s 1) := by
  have hgd : Good L (kindS L s 1) := by
    unfold kindS
    split
    · split
      · next hk => exact h.good.adv (.inl (by omega))
      · exact fail_good (by decide) h.good
    · exact h.good
  refine ⟨hgd, h.kept.trans kindS_kept, fun h0 => ?_⟩
  rcases h.live h0 with ⟨e, g⟩ | ⟨e, o, hq⟩
  · obtain ⟨k1, k2⟩ := kindS_kept (L := L) (q := 1) e
    exact .inl ⟨by rw [k1]; exact e, by rw [k1, k2]; exact g⟩
  · by_cases hk : (hd (rest L s)).kind = 1
    · have e1 : kindS L s 1 = Rs.adv s := by unfold kindS; rw [if_pos e, if_pos hk]
      have e2 : kindT L s 1 = (hd (rest L s)).text := by unfold kindT; rw [if_pos ⟨e, hk⟩]
      rw [e1, e2]
      refine .inr ⟨e, o, fun q ⟨n, hn⟩ => hq q ⟨n, fun m hm => ?_⟩⟩
      have := hn m hm
      rw [rest_adv] at this
      show Ps.name (rest L s) (fun tx l => K m tx l s.o.toNat) = _
      rw [Ps.name_yes hk]
      exact this
    · have e1 : kindS L s 1 = fail L s 102 := by unfold kindS; rw [if_pos e, if_neg hk]
      obtain ⟨f1, f2⟩ := fail_live (L := L) (e := 102) e
      rw [e1]
      refine .inl ⟨by rw [f1]; decide, hq _ ⟨0, fun m _ => ?_⟩⟩
      rw [f1, f2]
      show Ps.name (rest L s) (fun tx l => K m tx l s.o.toNat) = _
      unfold Ps.name
      rw [if_neg hk]
      rfl
theorem Tills.bnd {K : Nat → List Tr → List Lx.Tok → Nat → Option R} (h : Tills L G s0 (Ev fun m l lv => Ps.bnd (go m J l lv) fun x l => K m x l lv) s) (hr : Rel L J s x s') : Tills L G s0 (Ev fun m l lv => K m [x] l lv) s' := by
  refine ⟨hr.good, h.kept.trans hr.kept, fun h0 => ?_⟩
  rcases h.live h0 with ⟨e, g⟩ | ⟨e, o, hq⟩
  · obtain ⟨k1, k2⟩ := hr.kept e
    exact .inl ⟨by rw [k1]; exact e, by rw [k1, k2]; exact g⟩
  · rcases hr.live e with ⟨e3, k, hk⟩ | ⟨e3, o3, k, hk⟩
    · exact .inl ⟨e3, hq _ ⟨k, fun m hm => by dsimp only; rw [Ps.go_le hm hk]; rfl⟩⟩
    · refine .inr ⟨e3, o3.trans o, fun q ⟨n, hn⟩ => hq q ⟨max k n, fun m hm => ?_⟩⟩
      have := hn m (by omega)
      rw [o3] at this
      dsimp only
      rw [Ps.go_le (show k ≤ m by omega) hk]
      exact this
theorem Tills.yes {A B : Nat → List Lx.Tok → Nat → Option R} (h : Tills L G s0 (Ev fun m l lv => if sees l [t] then A m l lv else B m l lv) s) (hs : isB L s t = true) : Tills L G s0 (Ev A) s := by
  refine ⟨h.good, h.kept, fun h0 => ?_⟩
  rcases h.live h0 with h1 | ⟨e, o, hq⟩
  · exact .inl h1
  · exact .inr ⟨e, o, fun q ⟨n, hn⟩ => hq q ⟨n, fun m hm => by dsimp only; rw [if_pos (isB_true hs).2]; exact hn m hm⟩⟩
theorem Tills.no {A B : Nat → List Lx.Tok → Nat → Option R} (h : Tills L G s0 (Ev fun m l lv => if sees l [t] then A m l lv else B m l lv) s) (hs : isB L s t = false) : Tills L G s0 (Ev B) s := by
  refine ⟨h.good, h.kept, fun h0 => ?_⟩
  rcases h.live h0 with h1 | ⟨e, o, hq⟩
  · exact .inl h1
  · rw [isB_live e] at hs
    exact .inr ⟨e, o, fun q ⟨n, hn⟩ => hq q ⟨n, fun m hm => by dsimp only; rw [if_neg (by rw [hs]; decide)]; exact hn m hm⟩⟩
theorem Tills.adv {K : Nat → List Lx.Tok → Nat → Option R} (h : Tills L G s0 (Ev fun m l lv => K m l.tail lv) s) (hs : isB L s t = true) (ht : t ≠ []) : Tills L G s0 (Ev K) (Rs.adv s) := by
  obtain ⟨e9, hs⟩ := isB_true hs
  refine ⟨seen_good h.good hs ht, h.kept.trans adv_kept, fun h0 => ?_⟩
  rcases h.live h0 with ⟨e, -⟩ | ⟨e, o, hq⟩
  · exact absurd e9 e
  · exact .inr ⟨e, o, fun q ⟨n, hn⟩ => hq q ⟨n, fun m hm => by have := hn m hm; rw [rest_adv] at this; exact this⟩⟩
theorem Tills.done (h : Tills L (Eats J) s0 (Ev fun _ l _ => some (.ok [x] l)) s) : Rel L J s0 x s := by
  refine ⟨h.good, h.kept, fun h0 => ?_⟩
  rcases h.live h0 with h1 | ⟨e, o, hq⟩
  · exact .inl h1
  · exact .inr ⟨e, o, hq _ ⟨0, fun _ _ => rfl⟩⟩
theorem stmt_var (hg : Good L (Rs.adv s)) (h : isB L s [118, 97, 114] = true) : Tills L (Eats .stmt) s (Ev fun m l lv => Ps.name l fun tx l => Ps.want [61] l fun l => Ps.bnd (go m (.bin 0) l lv) fun x l => Ps.want [59] l fun l => some (.ok [.mk 6 tx 0 x] l)) (Rs.adv s) := by
  obtain ⟨h0, hs⟩ := isB_true h
  exact seq_first hg h0 fun n => ⟨n + 1, by rw [go, if_pos (is_text h), Ps.want_yes hs]⟩
theorem stmt_if (hg : Good L (Rs.adv s)) (h : isB L s [105, 102] = true) : Tills L (Eats .stmt) s (Ev fun m l lv => Ps.bnd (go m (.bin 0) l lv) fun x l => Ps.bnd (go m .block l lv) fun y l => if sees l [[101, 108, 115, 101]] then Ps.bnd (go m .block l.tail lv) fun z l => some (.ok [.mk 8 [] 0 (x ++ y ++ z)] l) else some (.ok [.mk 8 [] 0 (x ++ y ++ [.mk 5 [] 0 []])] l)) (Rs.adv s) := by
  obtain ⟨h0, hs⟩ := isB_true h
  have ht := is_text h
  exact seq_first hg h0 fun n => ⟨n + 1, by rw [go, if_neg (by rw [ht]; decide), if_pos ht, Ps.want_yes hs]⟩
theorem stmt_while (hg : Good L (Rs.adv s)) (h : isB L s [119, 104, 105, 108, 101] = true) : Tills L (Eats .stmt) s (Ev fun m l lv => Ps.bnd (go m (.bin 0) l lv) fun x l => Ps.bnd (go m .block l lv) fun y l => some (.ok [.mk 9 [] 0 (x ++ y)] l)) (Rs.adv s) := by
  obtain ⟨h0, hs⟩ := isB_true h
  have ht := is_text h
  exact seq_first hg h0 fun n => ⟨n + 1, by rw [go, if_neg (by rw [ht]; decide), if_neg (by rw [ht]; decide), if_pos ht, Ps.want_yes hs]⟩
theorem stmt_return (hg : Good L (Rs.adv s)) (h : isB L s [114, 101, 116, 117, 114, 110] = true) : Tills L (Eats .stmt) s (Ev fun m l lv => Ps.bnd (go m (.bin 0) l lv) fun x l => Ps.want [59] l fun l => some (.ok [.mk 10 [] 0 x] l)) (Rs.adv s) := by
  obtain ⟨h0, hs⟩ := isB_true h
  have ht := is_text h
  exact seq_first hg h0 fun n => ⟨n + 1, by rw [go, if_neg (by rw [ht]; decide), if_neg (by rw [ht]; decide), if_neg (by rw [ht]; decide), if_pos ht]⟩
theorem stmt_print (hg : Good L (Rs.adv s)) (h : isB L s [112, 114, 105, 110, 116] = true) : Tills L (Eats .stmt) s (Ev fun m l lv => Ps.bnd (go m (.bin 0) l lv) fun x l => Ps.want [59] l fun l => some (.ok [.mk 11 [] 0 x] l)) (Rs.adv s) := by
  obtain ⟨h0, hs⟩ := isB_true h
  have ht := is_text h
  exact seq_first hg h0 fun n => ⟨n + 1, by rw [go, if_neg (by rw [ht]; decide), if_neg (by rw [ht]; decide), if_neg (by rw [ht]; decide), if_neg (by rw [ht]; decide), if_pos ht]⟩
theorem stmt_block (h : isB L s [123] = true) (hr : Rel L .block s x s') : Rel L .stmt s x s' := by
  have ht := is_text h
  exact hr.same fun q _ ⟨n, hn⟩ => ⟨n + 1, by rw [go, if_neg (by rw [ht]; decide), if_neg (by rw [ht]; decide), if_neg (by rw [ht]; decide), if_neg (by rw [ht]; decide), if_neg (by rw [ht]; decide), if_pos ht]; exact hn⟩
theorem stmt_named (hg : Good L s) (h1 : isB L s [118, 97, 114] = false) (h2 : isB L s [105, 102] = false) (h3 : isB L s [119, 104, 105, 108, 101] = false) (h4 : isB L s [114, 101, 116, 117, 114, 110] = false) (h5 : isB L s [112, 114, 105, 110, 116] = false) (h6 : isB L s [123] = false) : Tills L (Eats .stmt) s (Ev fun m l lv => Ps.name l fun tx l => if sees l [[40]] then Ps.bnd (go m (.call tx) l lv) fun x l => Ps.want [59] l fun l => some (.ok [.mk 12 [] 0 x] l) else if sees l [[91]] then Ps.bnd (go m (.within [91] [93]) l lv) fun y l => Ps.want [61] l fun l => Ps.bnd (go m (.bin 0) l lv) fun x l => Ps.want [59] l fun l => some (.ok [.mk 7 [] 0 (.mk 26 [] 0 (.mk 22 tx 0 [] :: y) :: x)] l) else Ps.want [61] l fun l => Ps.bnd (go m (.bin 0) l lv) fun x l => Ps.want [59] l fun l => some (.ok [.mk 7 [] 0 (.mk 22 tx 0 [] :: x)] l)) s :=
  seq_start hg fun h0 n => ⟨n + 2, by rw [go, if_neg (not_text h0 h1), if_neg (not_text h0 h2), if_neg (not_text h0 h3), if_neg (not_text h0 h4), if_neg (not_text h0 h5), if_neg (not_text h0 h6), go]⟩
end
end Rs
end Go.Proofs.YtfegodofbdlbeaaGreatDoor
