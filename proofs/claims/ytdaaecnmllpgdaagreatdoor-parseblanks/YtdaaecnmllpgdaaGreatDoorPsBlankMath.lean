/-
  The same tokens with other blanks and comments between them.
-/
import Derived.Test.YtdaaecnmllpgdaaGreatDoorPsFine2
namespace Go.Proofs.YtdaaecnmllpgdaaGreatDoor
open Go.RowKit Go.Shelf

namespace Lx
/-- What stands between tokens. -/
def seps : List (List UInt8) := [[32], [10], [9, 32], [32, 47, 47, 32, 99, 10], [13, 10, 13, 10]]
theorem rest_sep {b : List UInt8} (hb : b ∈ seps) (X : List UInt8) (k : Nat) (acc : List Lx.Tok) : rest (b ++ X) k acc = rest X (k + b.length) acc := by
  simp only [seps, List.mem_cons, List.not_mem_nil, or_false] at hb
  rcases hb with rfl | rfl | rfl | rfl | rfl
  · exact rest_some (32 :: X) 1 (by rw [lead_cons, if_pos (by decide)]; omega) k acc
  · exact rest_some (10 :: X) 1 (by rw [lead_cons, if_pos (by decide)]; omega) k acc
  · exact rest_some (9 :: 32 :: X) 2 (by rw [lead_cons, if_pos (by decide), lead_cons, if_pos (by decide)]; omega) k acc
  · have h1 := rest_some (32 :: 47 :: 47 :: 32 :: 99 :: 10 :: X) 1 (by rw [lead_cons, if_pos (by decide)]; omega) k acc
    have h2 := rest_skip (l := 47 :: 47 :: 32 :: 99 :: 10 :: X) (n := 4) (k + 1) acc rfl (by simp)
    have h3 := rest_some (10 :: X) 1 (by rw [lead_cons, if_pos (by decide)]; omega) (k + 1 + 4) acc
    exact h1.trans (h2.trans h3)
  · exact rest_some (13 :: 10 :: 13 :: 10 :: X) 4 (by rw [lead_cons, if_pos (by decide), lead_cons, if_pos (by decide), lead_cons, if_pos (by decide), lead_cons, if_pos (by decide)]; omega) k acc
theorem sep_head {b : List UInt8} (hb : b ∈ seps) (X : List UInt8) : ∃ c Y, b ++ X = c :: Y ∧ ldI (c.toNat : Int) = false ∧ (∀ s ∈ signs, c ∉ s) ∧ c ≠ 47 := by
  simp only [seps, List.mem_cons, List.not_mem_nil, or_false] at hb
  rcases hb with rfl | rfl | rfl | rfl | rfl
  · exact ⟨32, _, rfl, by decide, no32, by decide⟩
  · exact ⟨10, _, rfl, by decide, no10, by decide⟩
  · exact ⟨9, _, rfl, by decide, by decide, by decide⟩
  · exact ⟨32, _, rfl, by decide, no32, by decide⟩
  · exact ⟨13, _, rfl, by decide, by decide, by decide⟩

/-- Tokens' texts, each behind what is given. -/
def sp : List (List UInt8 × Lx.Tok) → List UInt8
  | [] => []
  | z :: r => z.1 ++ (z.2.text ++ sp r)
/-- These tokens, where they stand then. -/
def pl : Nat → List (List UInt8 × Lx.Tok) → List Lx.Tok
  | _, [] => []
  | k, z :: r => ⟨z.2.kind, z.2.text, k + z.1.length⟩ :: pl (k + z.1.length + z.2.text.length) r
theorem sp_append (a b : List (List UInt8 × Lx.Tok)) : sp (a ++ b) = sp a ++ sp b := by
  induction a with
  | nil => rfl
  | cons z r ih => simp [sp, ih]
theorem pl_append (a b : List (List UInt8 × Lx.Tok)) : ∀ k, pl k (a ++ b) = pl k a ++ pl (k + (sp a).length) b := by
  induction a with
  | nil => intro k; simp [pl, sp]
  | cons z r ih => intro k; simp [pl, sp, ih, Nat.add_assoc]
theorem pl_len (a : List (List UInt8 × Lx.Tok)) : ∀ k, (pl k a).length = a.length := by
  induction a with
  | nil => intro k; rfl
  | cons z r ih => intro k; simp [pl, ih]
theorem pl_kt (a : List (List UInt8 × Lx.Tok)) : ∀ k, (pl k a).map Ps.kt = a.map (fun z => Ps.kt z.2) := by
  induction a with
  | nil => intro k; rfl
  | cons z r ih => intro k; simp [pl, ih, Ps.kt]
theorem rest_sp : ∀ (zs : List (List UInt8 × Lx.Tok)) (fin : List UInt8) (k : Nat) (acc : List Lx.Tok), (∀ z ∈ zs, z.1 ∈ seps ∧ z.2.Fine) → fin ∈ seps → rest (sp zs ++ fin) k acc = .ok (acc ++ pl k zs)
  | [], fin, k, acc, _, hf => by
    have := rest_sep hf [] k acc
    rw [List.append_nil] at this
    show rest fin k acc = _
    rw [this, rest_nil]
    simp [pl]
  | (b, t) :: r, fin, k, acc, h, hf => by
    obtain ⟨hb, ft⟩ := h (b, t) (by simp)
    obtain ⟨f1, f2, f3, f4⟩ := ft
    have e1 : sp ((b, t) :: r) ++ fin = b ++ (t.text ++ (sp r ++ fin)) := by simp [sp]
    rw [e1, rest_sep hb]
    have hh : ∃ c Y, sp r ++ fin = c :: Y ∧ ldI (c.toNat : Int) = false ∧ (∀ s ∈ signs, c ∉ s) ∧ c ≠ 47 := by
      cases r with
      | nil =>
        have := sep_head hf []
        rw [List.append_nil] at this
        exact this
      | cons z r =>
        have hz := (h z (by simp)).1
        have := sep_head hz (z.2.text ++ sp r ++ fin)
        simpa [sp] using this
    obtain ⟨c, Y, hY, h1, h2, h3⟩ := hh
    have hs : step (t.text ++ (sp r ++ fin)) = .tok t.kind t.text.length := by
      rw [hY]
      exact (step_stop_tok h1 h2 h3 t.text Y f1 f2 f3).trans f4
    rw [rest_tok _ _ hs (by simp [f1]), List.drop_left, List.take_left, rest_sp r fin _ _ (fun z hz => h z (by simp [hz])) hf]
    simp [pl]
end Lx

/-- The same tokens, one by one, at places that are pairs of P. -/
theorem two_of {P : Nat → Nat → Prop} {e f : Lx.Tok} (he : e.kind = 5 ∧ e.text = []) : ∀ (A B : List Lx.Tok), (A ++ [e]).map Ps.kt = (B ++ [f]).map Ps.kt → (∀ p ∈ (A ++ [e]).zip (B ++ [f]), P p.1.at_ p.2.at_) → A.length = B.length → Ps.Two P (A ++ [e]) (B ++ [f])
  | [], [], h, hp, _ => by
    have h1 : Ps.kt e = Ps.kt f := by simpa using h
    exact ⟨⟨congrArg Prod.fst h1, congrArg Prod.snd h1, hp (e, f) (by simp)⟩, .inl ⟨he.1, he.2, rfl, rfl⟩⟩
  | t :: A, u :: B, h, hp, hl => by
    simp only [List.cons_append, List.map_cons, List.cons.injEq] at h
    exact ⟨⟨congrArg Prod.fst h.1, congrArg Prod.snd h.1, hp (t, u) (by simp)⟩, .inr (two_of he A B h.2 (fun p hq => hp p (by simp [hq])) (by simpa using hl))⟩
  | [], _ :: _, _, _, hl => by simp at hl
  | _ :: _, [], _, _, hl => by simp at hl

/-- What File tells of texts of the same tokens. -/
theorem FileOk.two {s o : List UInt8} {us vs : List Lx.Tok} {P : Nat → Nat → Prop} {ts : List Tr} (hs : Lx.lex s = .ok us) (ho : Lx.lex o = .ok vs) (ht : Ps.Two P (us ++ [⟨5, [], s.length⟩]) (vs ++ [⟨5, [], o.length⟩])) (h : FileOk s ts) : FileOk o ts := by
  obtain ⟨us', l, h1, h2, h3⟩ := h
  rw [hs] at h1; cases h1
  obtain ⟨r2, h4, h5⟩ := h2.two trivial ht
  cases r2 with
  | bad e i => exact h5.elim
  | ok y q =>
    obtain ⟨rfl, -⟩ := h5
    exact ⟨vs, q, ho, h4, h3⟩
theorem FileBad.two {s o : List UInt8} {us vs : List Lx.Tok} {P : Nat → Nat → Prop} {E i : Nat} (hs : Lx.lex s = .ok us) (ho : Lx.lex o = .ok vs) (ht : Ps.Two P (us ++ [⟨5, [], s.length⟩]) (vs ++ [⟨5, [], o.length⟩])) (h : FileBad s E i) : ∃ j, FileBad o E j ∧ (E = 102 → P i j) := by
  rcases h with h | ⟨us', h1, h2 | ⟨rfl, rfl, ts, l, h2, h3⟩⟩
  · rw [hs] at h; cases h
  · rw [hs] at h1; cases h1
    obtain ⟨r2, h4, h5⟩ := h2.two trivial ht
    cases r2 with
    | ok y q => exact h5.elim
    | bad e j =>
      obtain ⟨rfl, hp⟩ := h5
      exact ⟨j, .inr ⟨vs, ho, .inl h4⟩, fun _ => hp⟩
  · rw [hs] at h1; cases h1
    obtain ⟨r2, h4, h5⟩ := h2.two trivial ht
    cases r2 with
    | bad e i => exact h5.elim
    | ok y q =>
      obtain ⟨rfl, -⟩ := h5
      exact ⟨0, .inr ⟨vs, ho, .inr ⟨rfl, rfl, ts, q, h4, h3⟩⟩, fun e => by omega⟩

/-- The places of a text's tokens, the end's too, rise. -/
theorem lex_rises {s : List UInt8} {us : List Lx.Tok} (h : Lx.lex s = .ok us) : ∀ i j (hi : i < (us ++ [(⟨5, [], s.length⟩ : Lx.Tok)]).length) (hj : j < (us ++ [(⟨5, [], s.length⟩ : Lx.Tok)]).length), i < j → (us ++ [(⟨5, [], s.length⟩ : Lx.Tok)])[i].at_ < (us ++ [(⟨5, [], s.length⟩ : Lx.Tok)])[j].at_ := by
  have T := Lx.lex_told h
  have pos : ∀ t ∈ us, 0 < t.text.length := fun t ht => List.length_pos_iff.2 (T.fine t ht).ne
  have step1 : ∀ i (hi : i + 1 < (us ++ [(⟨5, [], s.length⟩ : Lx.Tok)]).length), (us ++ [(⟨5, [], s.length⟩ : Lx.Tok)])[i].at_ < (us ++ [(⟨5, [], s.length⟩ : Lx.Tok)])[i + 1].at_ := by
    intro i hi
    have hl : i < us.length := by simpa using hi
    by_cases h2 : i + 1 < us.length
    · rw [List.getElem_append_left hl, List.getElem_append_left h2]
      have := T.rise i h2
      have := pos us[i] (List.getElem_mem hl)
      omega
    · rw [List.getElem_append_left hl, List.getElem_append_right (by omega)]
      have := (T.there us[i] (List.getElem_mem hl)).1
      have := pos us[i] (List.getElem_mem hl)
      simp only [List.getElem_singleton]
      omega
  intro i j hi hj hij
  induction j with
  | zero => omega
  | succ j ih =>
    have h3 := step1 j hj
    by_cases he : i = j
    · subst he; exact h3
    · exact Nat.lt_trans (ih (by omega) (by omega)) h3

/-- What the law puts ahead of token i. -/
def sepOf (bl : List Int) (i : Nat) : List UInt8 := match bl[i]? with
  | none => [32]
  | some x => Lx.seps.getD (max (x.tmod 5) 0).toNat [32]
theorem seps_getD (n : Nat) (h : n ≤ 4) : Lx.seps.getD n [32] ∈ Lx.seps := by
  match n with
  | 0 => decide
  | 1 => decide
  | 2 => decide
  | 3 => decide
  | 4 => decide
  | _ + 5 => omega
theorem tmod_bounds (x : Int) : -4 ≤ x.tmod 5 ∧ x.tmod 5 ≤ 4 := by
  have h1 := Int.tmod_lt_of_pos x (show (0 : Int) < 5 by decide)
  have h2 := Int.lt_tmod_of_pos x (show (0 : Int) < 5 by decide)
  omega
theorem sepOf_mem (bl : List Int) (i : Nat) : sepOf bl i ∈ Lx.seps := by
  unfold sepOf
  split
  · decide
  · next x _ =>
    have := tmod_bounds x
    exact seps_getD _ (by omega)
theorem sepOf_len (bl : List Int) (i : Nat) : (sepOf bl i).length ≤ 6 := by
  have := sepOf_mem bl i
  simp only [Lx.seps, List.mem_cons, List.not_mem_nil, or_false] at this
  rcases this with h | h | h | h | h <;> rw [h] <;> decide
/-- The tokens, with what is put ahead of each. -/
def zipped (bl : List Int) (L : List Lx.Tok) : List (List UInt8 × Lx.Tok) := L.mapIdx (fun i t => (sepOf bl i, t))
theorem zipped_get (bl : List Int) (L : List Lx.Tok) (i : Nat) : (zipped bl L)[i]? = (L[i]?).map (fun t => (sepOf bl i, t)) := by
  unfold zipped; rw [List.getElem?_mapIdx]
theorem zipped_len (bl : List Int) (L : List Lx.Tok) : (zipped bl L).length = L.length := by unfold zipped; simp
theorem zipped_snd (bl : List Int) (L : List Lx.Tok) : (zipped bl L).map Prod.snd = L := by
  apply List.ext_getElem?
  intro i
  rw [List.getElem?_map, zipped_get]
  cases L[i]? <;> rfl
theorem zipped_sep (bl : List Int) (L : List Lx.Tok) : ∀ z ∈ zipped bl L, z.1 ∈ Lx.seps := by
  intro z hz
  obtain ⟨i, hi, rfl⟩ := List.mem_iff_getElem.1 hz
  have h := zipped_get bl L i
  rw [List.getElem?_eq_getElem hi] at h
  cases hl : L[i]? with
  | none => rw [hl] at h; cases h
  | some t =>
    rw [hl] at h
    have := Option.some.inj h
    rw [this]
    exact sepOf_mem bl i
theorem sp_len : ∀ zs : List (List UInt8 × Lx.Tok), (∀ z ∈ zs, z.1.length ≤ 6 ∧ z.2.text.length ≤ 2000) → (Lx.sp zs).length ≤ 2006 * zs.length
  | [], _ => by simp [Lx.sp]
  | z :: r, h => by
    have h1 := h z (by simp)
    have h2 := sp_len r (fun y hy => h y (by simp [hy]))
    simp only [Lx.sp, List.length_append, List.length_cons]
    omega
theorem pl_take (zs : List (List UInt8 × Lx.Tok)) : ∀ (q k : Nat), (Lx.pl k zs).take q = Lx.pl k (zs.take q) := by
  induction zs with
  | nil => intro q k; simp [Lx.pl]
  | cons z r ih =>
    intro q k
    cases q with
    | zero => rfl
    | succ q => simp [Lx.pl, ih]
theorem sp_take_succ (zs : List (List UInt8 × Lx.Tok)) (q : Nat) (z : List UInt8 × Lx.Tok) (h : zs[q]? = some z) : Lx.sp (zs.take (q + 1)) = Lx.sp (zs.take q) ++ z.1 ++ z.2.text := by
  obtain ⟨hq, he⟩ := List.getElem?_eq_some_iff.1 h
  rw [List.take_succ_eq_append_getElem hq, Lx.sp_append, he]
  simp [Lx.sp]
theorem pl_take_succ (zs : List (List UInt8 × Lx.Tok)) (q : Nat) (z : List UInt8 × Lx.Tok) (h : zs[q]? = some z) : Lx.pl 0 (zs.take (q + 1)) = Lx.pl 0 (zs.take q) ++ [⟨z.2.kind, z.2.text, (Lx.sp (zs.take q)).length + z.1.length⟩] := by
  obtain ⟨hq, he⟩ := List.getElem?_eq_some_iff.1 h
  rw [List.take_succ_eq_append_getElem hq, Lx.pl_append, he]
  simp [Lx.pl]

/-- Where the tokens of the one and the other text stand. -/
def Beside (L M : List Lx.Tok) (i j : Nat) : Prop := ∃ (q : Nat) (t u : Lx.Tok), L[q]? = some t ∧ M[q]? = some u ∧ t.at_ = i ∧ u.at_ = j
theorem blanks_all {s : List UInt8} {us : List Lx.Tok} (hs : Lx.lex s = .ok us) (bl : List Int) (L : List Lx.Tok) (hL : L = us ++ [⟨5, [], s.length⟩]) :
    ∃ vs, Lx.lex (Lx.sp (zipped bl L)) = .ok vs ∧ Lx.pl 0 (zipped bl L) = vs ++ [⟨5, [], (Lx.sp (zipped bl L)).length⟩] ∧ Ps.Two (Beside L (Lx.pl 0 (zipped bl L))) (us ++ [⟨5, [], s.length⟩]) (vs ++ [⟨5, [], (Lx.sp (zipped bl L)).length⟩]) := by
  have hlen : L.length = us.length + 1 := by rw [hL]; simp
  have hlast : L[us.length]? = some ⟨5, [], s.length⟩ := by rw [hL]; simp
  have hz : zipped bl L = (zipped bl L).take us.length ++ [(sepOf bl us.length, ⟨5, [], s.length⟩)] := by
    have h1 : (zipped bl L)[us.length]? = some (sepOf bl us.length, ⟨5, [], s.length⟩) := by rw [zipped_get, hlast]; rfl
    obtain ⟨hq, he⟩ := List.getElem?_eq_some_iff.1 h1
    have h2 : (zipped bl L).take (us.length + 1) = zipped bl L := List.take_of_length_le (by rw [zipped_len, hlen]; omega)
    rw [← he, ← List.take_succ_eq_append_getElem hq, h2]
  obtain ⟨zs, hzs⟩ : ∃ zs, zs = (zipped bl L).take us.length := ⟨_, rfl⟩
  have hsp : Lx.sp (zipped bl L) = Lx.sp zs ++ sepOf bl us.length := by
    rw [hz, ← hzs, Lx.sp_append]; simp [Lx.sp]
  have hpl : Lx.pl 0 (zipped bl L) = Lx.pl 0 zs ++ [⟨5, [], (Lx.sp (zipped bl L)).length⟩] := by
    rw [hsp]
    rw [hz, ← hzs, Lx.pl_append]
    simp [Lx.pl]
  have hfine : ∀ z ∈ zs, z.1 ∈ Lx.seps ∧ z.2.Fine := by
    intro z hz1
    rw [hzs] at hz1
    refine ⟨zipped_sep bl L z (List.mem_of_mem_take hz1), ?_⟩
    obtain ⟨i, hi, rfl⟩ := List.mem_iff_getElem.1 hz1
    have hi2 : i < us.length := by rw [List.length_take] at hi; omega
    have h := zipped_get bl L i
    have hLi : L[i]? = some us[i] := by rw [hL, List.getElem?_append_left hi2]; exact List.getElem?_eq_getElem hi2
    rw [hLi] at h
    have h3 : (zipped bl L)[i]? = some ((zipped bl L).take us.length)[i] := by
      rw [← List.getElem?_eq_getElem hi, List.getElem?_take_of_lt hi2]
    rw [h3] at h
    have := Option.some.inj h
    rw [this]
    exact (Lx.lex_told hs).fine us[i] (List.getElem_mem hi2)
  have hlex : Lx.lex (Lx.sp (zipped bl L)) = .ok (Lx.pl 0 zs) := by
    rw [Lx.lex_rest, hsp, Lx.rest_sp zs _ 0 [] hfine (sepOf_mem bl us.length)]
    rfl
  refine ⟨Lx.pl 0 zs, hlex, hpl, ?_⟩
  have hkt : (us ++ [(⟨5, [], s.length⟩ : Lx.Tok)]).map Ps.kt = (Lx.pl 0 zs ++ [(⟨5, [], (Lx.sp (zipped bl L)).length⟩ : Lx.Tok)]).map Ps.kt := by
    rw [← hpl, Lx.pl_kt, ← hL]
    have h9 := congrArg (List.map Ps.kt) (zipped_snd bl L)
    rw [List.map_map] at h9
    exact h9.symm
  refine two_of ⟨rfl, rfl⟩ us (Lx.pl 0 zs) hkt (fun p hp => ?_) (by rw [Lx.pl_len, hzs, List.length_take, zipped_len, hlen]; omega)
  rw [← hpl, ← hL] at hp
  obtain ⟨q, hq, he⟩ := List.mem_iff_getElem.1 hp
  rw [List.getElem_zip] at he
  rw [List.length_zip] at hq
  exact ⟨q, p.1, p.2, by rw [← he]; exact List.getElem?_eq_getElem (by omega), by rw [← he]; exact List.getElem?_eq_getElem (by omega), rfl, rfl⟩
/-- The first token at a fault's place is the one that is meant. -/
theorem beside_one {s : List UInt8} {us : List Lx.Tok} (hs : Lx.lex s = .ok us) {L M : List Lx.Tok} (hL : L = us ++ [⟨5, [], s.length⟩]) {i j q : Nat} (h : Beside L M i j) {t u : Lx.Tok} (ht : L[q]? = some t) (hu : M[q]? = some u) (hi : t.at_ = i) : u.at_ = j := by
  obtain ⟨p, t', u', h1, h2, h3, h4⟩ := h
  obtain ⟨a1, a2⟩ := List.getElem?_eq_some_iff.1 ht
  obtain ⟨b1, b2⟩ := List.getElem?_eq_some_iff.1 h1
  have hq : q = p := by
    subst hL
    rcases Nat.lt_trichotomy q p with h5 | h5 | h5
    · have := lex_rises hs q p a1 b1 h5
      rw [a2, b2] at this
      omega
    · exact h5
    · have := lex_rises hs p q b1 a1 h5
      rw [a2, b2] at this
      omega
  subst hq
  rw [hu] at h2
  cases h2
  exact h4
theorem beside_some {L M : List Lx.Tok} {i j : Nat} (h : Beside L M i j) : ∃ (q : Nat) (t : Lx.Tok), L[q]? = some t ∧ t.at_ = i := by
  obtain ⟨p, t', u', h1, -, h3, -⟩ := h
  exact ⟨p, t', h1, h3⟩
/-- Tokens' texts are no longer than the text. -/
def tlen (ts : List Lx.Tok) : Nat := (ts.map fun t => t.text.length).sum
theorem tlen_append (a b : List Lx.Tok) : tlen (a ++ b) = tlen a + tlen b := by unfold tlen; rw [List.map_append, List.sum_append]
theorem Lx.rest_sum (a : List UInt8) : ∀ (k : Nat) (acc ts : List Lx.Tok), Lx.rest a k acc = .ok ts → tlen ts ≤ tlen acc + a.length := by
  refine Lx.bySteps (P := fun a => ∀ (k : Nat) (acc ts : List Lx.Tok), Lx.rest a k acc = .ok ts → tlen ts ≤ tlen acc + a.length) ?_ ?_ a
  · intro k acc ts h; rw [Lx.rest_nil] at h; cases h; simp
  · intro l hl ihs iht k acc ts h
    cases hs : Lx.step l with
    | skip n =>
      rw [Lx.rest_skip _ _ hs hl] at h
      have := ihs _ hs _ _ _ h
      rw [List.length_drop] at this; omega
    | tok kind n =>
      have hn := Lx.step_tok hs
      rw [Lx.rest_tok _ _ hs hl] at h
      have := iht _ _ hs _ _ _ h
      rw [List.length_drop, tlen_append] at this
      have e : tlen [(⟨kind, l.take n, k⟩ : Lx.Tok)] = n := by
        show (l.take n).length + 0 = n
        rw [List.length_take]; omega
      rw [e] at this
      omega
    | bad e => rw [Lx.rest_bad _ _ hs hl] at h; cases h
theorem sp_sum (zs : List (List UInt8 × Lx.Tok)) (h : ∀ z ∈ zs, z.1.length ≤ 6) : (Lx.sp zs).length ≤ 6 * zs.length + tlen (zs.map Prod.snd) := by
  induction zs with
  | nil => simp [Lx.sp, tlen]
  | cons z r ih =>
    have h1 := h z (by simp)
    have h2 := ih (fun y hy => h y (by simp [hy]))
    have e : tlen ((z :: r).map Prod.snd) = z.2.text.length + tlen (r.map Prod.snd) := by simp [tlen]
    rw [e]
    simp only [Lx.sp, List.length_append, List.length_cons]
    omega
/-- The other text is not long. -/
theorem blanks_size {s : List UInt8} {us : List Lx.Tok} (hs : Lx.lex s = .ok us) (bl : List Int) (L : List Lx.Tok) (hL : L = us ++ [⟨5, [], s.length⟩]) : (Lx.sp (zipped bl L)).length ≤ 7 * s.length + 6 := by
  have h1 := sp_sum (zipped bl L) (fun z hz => by
    have := zipped_sep bl L z hz
    simp only [Lx.seps, List.mem_cons, List.not_mem_nil, or_false] at this
    rcases this with h | h | h | h | h <;> rw [h] <;> decide)
  rw [zipped_snd, zipped_len] at h1
  have h2 := Lx.rest_sum s 0 [] us hs
  have h3 := Lx.lex_count hs
  have e : tlen L = tlen us := by rw [hL, tlen_append]; rfl
  have e2 : L.length = us.length + 1 := by rw [hL]; simp
  have e3 : tlen ([] : List Lx.Tok) = 0 := rfl
  omega
end Go.Proofs.YtdaaecnmllpgdaaGreatDoor
