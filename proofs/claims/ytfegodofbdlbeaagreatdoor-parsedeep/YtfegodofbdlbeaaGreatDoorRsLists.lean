/-
  The reader's rows, put together: blocks, what stands between brackets.
-/
import Derived.Test.YtfegodofbdlbeaaGreatDoorRsPure
namespace Go.Proofs.YtfegodofbdlbeaaGreatDoor
namespace Rs
open Ps (R Eats sees hd go)
section
variable {L : List Lx.Tok} {s s' s0 s1 s2 s3 s4 s5 : St} {t a b nm : List UInt8} {J C : Ps.Job} {x y z : Tr} {acc : List Tr} {p more : Bool}

/-- What comes behind a level that is open, and its end: when it goes well. -/
theorem level_end (hg : Good L s) (hG2 : Good L s2) (hk : Kept (begin L s a) s2) (ho : s.E = 0 → s2.E = 0 → s2.o = s.o + 1) (hb : b ≠ []) : Good L (endd L s2 b) ∧ Kept s (endd L s2 b) := by
  refine ⟨endd_lev hG2 (fun e2 => ?_) hb, begin_kept.trans (hk.trans endd_kept)⟩
  have h0 := live_of begin_kept (live_of hk e2)
  have := ho h0 e2
  have := hg.lev h0
  omega
theorem Till.blk (h : Till L (.blk []) s1 (.blk acc) s2) (h0 : s2.E = 0) (hs : isB L s2 [125] = false) (hr : Rel L .stmt s2 y s3) : Till L (.blk []) s1 (.blk (acc ++ [y])) s3 := by
  refine ⟨hr.good, h.kept.trans hr.kept, fun hl => ?_⟩
  have hs' : sees (rest L s2) [[125]] = false := by rw [isB_live h0] at hs; exact hs
  rcases h.live hl with ⟨h3, -⟩ | ⟨-, h4, h5⟩
  · exact absurd h0 h3
  rcases hr.live h0 with ⟨h6, n, h7⟩ | ⟨h6, h7, n, h8⟩
  · exact .inl ⟨h6, h5 _ ⟨n + 1, by rw [go, if_neg (by rw [hs']; decide), h7]; rfl⟩⟩
  · refine .inr ⟨h6, h7.trans h4, fun q hq => h5 q ?_⟩
    obtain ⟨k, hk⟩ := hq
    rw [h7] at hk
    have e0 := Ps.go_le (Nat.le_max_left n k) h8
    have e1 := Ps.go_le (Nat.le_max_right n k) hk
    exact ⟨max n k + 1, by rw [go, if_neg (by rw [hs']; decide), e0]; exact e1⟩
theorem rel_block (hg : Good L s) (h : Till L (.blk []) (begin L s [123]) (.blk acc) s2) (hs : s2.E = 0 → isB L s2 [125] = true) : Rel L .block s (.mk 5 [] 0 acc) (endd L s2 [125]) := by
  have ho : s.E = 0 → s2.E = 0 → s2.o = s.o + 1 := fun h0 e2 => by
    have e1 := live_of h.kept e2
    have := (begin_goes hg h0 e1 (fun _ => none)).2.2
    rcases h.live e1 with ⟨q, -⟩ | ⟨-, o2, -⟩
    · exact absurd e2 q
    · omega
  obtain ⟨k1, k2⟩ := level_end hg h.good h.kept ho (b := [125]) (by decide)
  refine ⟨k1, k2, fun h0 => ?_⟩
  have hgo : ∀ n, go (n + 1) .block (rest L s) s.o.toNat = Ps.opn [[123]] (rest L s) s.o.toNat fun l => Ps.bnd (go n (.blk []) l (s.o.toNat + 1)) fun x l => some (.ok [.mk 5 [] 0 x] l) := fun n => by rw [go]
  by_cases e1 : ¬ (begin L s [123]).E = 0
  · obtain ⟨q1, q2⟩ := (h.kept.trans (endd_kept (L := L) (t := [125]))) e1
    refine .inl ⟨by rw [q1]; exact e1, ?_⟩
    rw [q1, q2]
    exact ⟨1, by rw [hgo]; exact begin_bad hg h0 e1 _⟩
  have e1 : (begin L s [123]).E = 0 := by simpa using e1
  obtain ⟨-, o1, -⟩ := begin_goes hg h0 e1 (fun _ => none)
  have b1 : ∀ f, Ps.opn [[123]] (rest L s) s.o.toNat f = f (rest L (begin L s [123])) := fun f => (begin_goes hg h0 e1 f).1
  rcases h.live e1 with ⟨e2, n, hn⟩ | ⟨e2, o2, hq⟩
  · rw [o1] at hn
    obtain ⟨q1, q2⟩ := (endd_kept (L := L) (t := [125])) e2
    refine .inl ⟨by rw [q1]; exact e2, ?_⟩
    rw [q1, q2]
    exact ⟨n + 1, by rw [hgo, b1, hn]; rfl⟩
  · have hse := (isB_true (hs e2)).2
    have hw : want L s2 [125] = adv s2 := by unfold want; rw [hs e2, if_pos rfl]
    have hre : rest L (endd L s2 [125]) = (rest L s2).tail := by
      show rest L (want L s2 [125]) = _
      rw [hw]; exact rest_adv s2
    have hE : (endd L s2 [125]).E = 0 := by
      show (want L s2 [125]).E = 0
      rw [hw]; exact e2
    obtain ⟨n, hn⟩ := hq (.ok acc (rest L s2).tail) ⟨1, by rw [go, if_pos hse, Ps.want_yes hse]⟩
    rw [o1] at hn
    refine .inr ⟨hE, ?_, ⟨n + 1, by rw [hgo, b1, hn, hre]; rfl⟩⟩
    show wr ((want L s2 [125]).o - 1) = s.o
    rw [hw]
    show wr (s2.o - 1) = s.o
    have := ho h0 e2
    have := hg.lev h0
    rw [wr_in (by omega)]
    omega

/-- The rest of a row: what a rest reads, the whole reads. -/
structure Tills (L : List Lx.Tok) (G : List Lx.Tok → Nat → R → Prop) (s0 : St) (C : List Lx.Tok → Nat → R → Prop) (s : St) : Prop where
  good : Good L s
  kept : Kept s0 s
  live : s0.E = 0 → (s.E ≠ 0 ∧ G (rest L s0) s0.o.toNat (.bad s.E s.i)) ∨ (s.E = 0 ∧ s.o = s0.o ∧ ∀ q, C (rest L s) s.o.toNat q → G (rest L s0) s0.o.toNat q)
/-- An item of a row. -/
def item (p : Bool) : Ps.Job := if p then .param else .bin 0
/-- What stands between the brackets. -/
def Ins (p : Bool) (l : List Lx.Tok) (lv : Nat) (q : R) : Prop := ∃ n, (if sees l [[41]] then Ps.want [41] l (fun l => some (.ok [] l)) else Ps.bnd (go n (item p) l lv) fun x l => go n (.lst p x) l lv) = some q
/-- An item comes. -/
def Itm (p : Bool) (acc : List Tr) (l : List Lx.Tok) (lv : Nat) (q : R) : Prop := ∃ n, Ps.bnd (go n (item p) l lv) (fun x l => go n (.lst p (acc ++ x)) l lv) = some q
/-- The end comes. -/
def Fin (acc : List Tr) (l : List Lx.Tok) (_ : Nat) (q : R) : Prop := Ps.want [41] l (fun l => some (.ok acc l)) = some q
/-- More, or no more. -/
def Nxt (p more : Bool) (acc : List Tr) : List Lx.Tok → Nat → R → Prop := if more then Itm p acc else Fin acc
theorem list_start (hg : Good L s) : Tills L (Ins p) s (Nxt p (!isB L s [41]) []) s := by
  refine ⟨hg, Kept.refl s, fun h0 => .inr ⟨h0, rfl, fun q hq => ?_⟩⟩
  have hb := isB_live (L := L) (t := [41]) h0
  unfold Nxt at hq
  cases hs : isB L s [41]
  · rw [hs] at hq hb
    obtain ⟨n, hn⟩ := hq
    exact ⟨n, by rw [if_neg (by rw [← hb]; decide)]; simpa using hn⟩
  · rw [hs] at hq hb
    exact ⟨0, by rw [if_pos hb.symm]; exact hq⟩
theorem list_item {G : List Lx.Tok → Nat → R → Prop} (h : Tills L G s1 (Nxt p true acc) s2) (h0 : s2.E = 0) (hr : Rel L (item p) s2 y s3) (hc : isB L s3 [44] = false) : Tills L G s1 (Nxt p false (acc ++ [y])) s3 := by
  refine ⟨hr.good, h.kept.trans hr.kept, fun hl => ?_⟩
  rcases h.live hl with ⟨h3, -⟩ | ⟨-, h4, h5⟩
  · exact absurd h0 h3
  rcases hr.live h0 with ⟨h6, n, h7⟩ | ⟨h6, h7, n, h8⟩
  · exact .inl ⟨h6, h5 _ ⟨n, by rw [h7]; rfl⟩⟩
  · refine .inr ⟨h6, h7.trans h4, fun q hq => h5 q ?_⟩
    have hs : sees (rest L s3) [[44]] = false := by rw [isB_live h6] at hc; exact hc
    have hq' : go 1 (.lst p (acc ++ [y])) (rest L s3) s2.o.toNat = some q := by rw [go, if_neg (by rw [hs]; decide)]; exact hq
    have e0 := Ps.go_le (Nat.le_max_left n 1) h8
    have e1 := Ps.go_le (Nat.le_max_right n 1) hq'
    exact ⟨max n 1, by rw [e0]; exact e1⟩
theorem list_comma {G : List Lx.Tok → Nat → R → Prop} (h : Tills L G s1 (Nxt p true acc) s2) (h0 : s2.E = 0) (hr : Rel L (item p) s2 y s3) (hc : isB L s3 [44] = true) : Tills L G s1 (Nxt p true (acc ++ [y])) (adv s3) := by
  obtain ⟨e3, hs⟩ := isB_true hc
  have hr3 : rest L (adv s3) = (rest L s3).tail := rest_adv s3
  refine ⟨seen_good hr.good hs (by decide), h.kept.trans (hr.kept.trans adv_kept), fun hl => ?_⟩
  rcases h.live hl with ⟨h3, -⟩ | ⟨-, h4, h5⟩
  · exact absurd h0 h3
  rcases hr.live h0 with ⟨h6, n, h7⟩ | ⟨h6, h7, n, h8⟩
  · exact absurd e3 h6
  · refine .inr ⟨h6, h7.trans h4, fun q hq => h5 q ?_⟩
    obtain ⟨k, hk⟩ := hq
    have ho : (adv s3).o = s2.o := h7
    rw [hr3, ho] at hk
    have hq' : go (k + 1) (.lst p (acc ++ [y])) (rest L s3) s2.o.toNat = some q := by rw [go, if_pos hs]; exact hk
    have e0 := Ps.go_le (Nat.le_max_left n (k + 1)) h8
    have e1 := Ps.go_le (Nat.le_max_right n (k + 1)) hq'
    exact ⟨max n (k + 1), by rw [e0]; exact e1⟩
/-- A row between brackets, read from s to s'. -/
structure RelL (L : List Lx.Tok) (p : Bool) (s : St) (acc : List Tr) (s' : St) : Prop where
  good : Good L s'
  kept : Kept s s'
  live : s.E = 0 → (s'.E ≠ 0 ∧ Eats (.listed p) (rest L s) s.o.toNat (.bad s'.E s'.i)) ∨ (s'.E = 0 ∧ s'.o = s.o ∧ Eats (.listed p) (rest L s) s.o.toNat (.ok acc (rest L s')))
theorem rel_listed (hg : Good L s) (h : Tills L (Ins p) (begin L s [40]) (Nxt p more acc) s2) (hm : s2.E = 0 → more = false) : RelL L p s acc (endd L s2 [41]) := by
  have ho : s.E = 0 → s2.E = 0 → s2.o = s.o + 1 := fun h0 e2 => by
    have e1 := live_of h.kept e2
    have := (begin_goes hg h0 e1 (fun _ => none)).2.2
    rcases h.live e1 with ⟨q, -⟩ | ⟨-, o2, -⟩
    · exact absurd e2 q
    · omega
  obtain ⟨k1, k2⟩ := level_end hg h.good h.kept ho (b := [41]) (by decide)
  refine ⟨k1, k2, fun h0 => ?_⟩
  have hgo : ∀ n q, (if sees (rest L (begin L s [40])) [[41]] then Ps.want [41] (rest L (begin L s [40])) (fun l => some (.ok [] l)) else Ps.bnd (go n (item p) (rest L (begin L s [40])) (s.o.toNat + 1)) fun x l => go n (.lst p x) l (s.o.toNat + 1)) = some q → (begin L s [40]).E = 0 → Eats (.listed p) (rest L s) s.o.toNat q := fun n q hq e1 => by
    have b1 : ∀ f, Ps.opn [[40]] (rest L s) s.o.toNat f = f (rest L (begin L s [40])) := fun f => (begin_goes hg h0 e1 f).1
    exact ⟨n + 1, by rw [go, b1]; exact hq⟩
  by_cases e1 : ¬ (begin L s [40]).E = 0
  · obtain ⟨q1, q2⟩ := (h.kept.trans (endd_kept (L := L) (t := [41]))) e1
    refine .inl ⟨by rw [q1]; exact e1, ?_⟩
    rw [q1, q2]
    exact ⟨1, by rw [go]; exact begin_bad hg h0 e1 _⟩
  have e1 : (begin L s [40]).E = 0 := by simpa using e1
  obtain ⟨-, o1, -⟩ := begin_goes hg h0 e1 (fun _ => none)
  rcases h.live e1 with ⟨e2, n, hn⟩ | ⟨e2, o2, hq⟩
  · rw [o1] at hn
    obtain ⟨q1, q2⟩ := (endd_kept (L := L) (t := [41])) e2
    refine .inl ⟨by rw [q1]; exact e2, ?_⟩
    rw [q1, q2]
    exact hgo n _ hn e1
  · have hmo := hm e2
    subst hmo
    by_cases e3 : ¬ (want L s2 [41]).E = 0
    · refine .inl ⟨e3, ?_⟩
      obtain ⟨n, hn⟩ := hq (.bad (want L s2 [41]).E (want L s2 [41]).i) (want_bad e2 e3 _)
      rw [o1] at hn
      exact hgo n _ hn e1
    have e3 : (want L s2 [41]).E = 0 := by simpa using e3
    obtain ⟨-, o3⟩ := want_goes (a := [41]) e2 e3 (fun _ => none)
    have w3 : ∀ f, Ps.want [41] (rest L s2) f = f (rest L (want L s2 [41])) := fun f => (want_goes e2 e3 f).1
    obtain ⟨n, hn⟩ := hq (.ok acc (rest L (want L s2 [41]))) (by show Ps.want [41] (rest L s2) _ = _; rw [w3])
    rw [o1] at hn
    refine .inr ⟨e3, ?_, hgo n _ hn e1⟩
    show wr ((want L s2 [41]).o - 1) = s.o
    have := ho h0 e2
    have := hg.lev h0
    rw [o3, wr_in (by omega)]
    omega
theorem rel_callof (h : RelL L false s acc s') : Rel L (.call nm) s (.mk 25 nm 0 acc) s' := by
  refine ⟨h.good, h.kept, fun h0 => ?_⟩
  rcases h.live h0 with ⟨h1, n, h2⟩ | ⟨h1, h2, n, h3⟩
  · exact .inl ⟨h1, n + 1, by rw [go, h2]; rfl⟩
  · exact .inr ⟨h1, h2, n + 1, by rw [go, h3]; rfl⟩
theorem rel_param (hg : Good L s) (h0 : s.E = 0) : Rel L .param s (.mk 4 (kindT L s 1) 0 []) (kindS L s 1) := by
  by_cases hk : (hd (rest L s)).kind = 1
  · have e1 : kindS L s 1 = adv s := by unfold kindS; rw [if_pos h0, if_pos hk]
    have e2 : kindT L s 1 = (hd (rest L s)).text := by unfold kindT; rw [if_pos ⟨h0, hk⟩]
    rw [e1, e2]
    exact .one hg h0 (.inl (by omega)) ⟨1, by rw [go, Ps.name_yes hk]⟩
  · have e1 : kindS L s 1 = fail L s 102 := by unfold kindS; rw [if_pos h0, if_neg hk]
    obtain ⟨f1, f2⟩ := fail_live (L := L) (e := 102) h0
    rw [e1]
    refine ⟨fail_good (by decide) hg, fail_kept 102, fun _ => .inl ⟨by rw [f1]; decide, 1, ?_⟩⟩
    rw [f1, f2, go]
    unfold Ps.name
    rw [if_neg hk]
    rfl
end
end Rs
end Go.Proofs.YtfegodofbdlbeaaGreatDoor
