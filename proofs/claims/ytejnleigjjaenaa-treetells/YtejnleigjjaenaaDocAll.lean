/-
  Several texts in one, as they are: LxRead, LxState, LxWays, LxRun, LxSign, LxLoop, LxMore, LxTokens, LxAwake, LxRef, TrRefSize, TrRefText, TrSizesLaw, TrRefUniq, TrRefNames.
-/
import Derived.Test.YtejnleigjjaenaaLxWord
import Derived.Test.YtejnleigjjaenaaHeld
import Derived.Test.YtejnleigjjaenaaLxMath
import Derived.Test.YtejnleigjjaenaaSame
import Derived.Test.YtejnleigjjaenaaTrCount
import Derived.Test.YtejnleigjjaenaaTrRight
import Derived.Test.YtejnleigjjaenaaTrAwake
import Derived.Test.YtejnleigjjaenaaTrNames2

/-
  The walks of the reader: what is left, what is taken.
-/
namespace Go.Proofs.Ytejnleigjjaenaa
open Go.RowKit Go.Shelf

attribute [local go_sem] Oper.semAt_some

/-- The cells of a lexer. -/
def lxC (s : ByteArray) (k : Nat) (tv : Value) (e f : Nat) : Array Value := #[.string s, .int .i64 k, tv, .int .i64 e, .int .i64 f]
end Go.Proofs.Ytejnleigjjaenaa

/-
  A lexer at work: what it holds, what stays; the walks of takeAll and put.
-/
namespace Go.Proofs.Ytejnleigjjaenaa
open Go.RowKit Go.Shelf

attribute [local go_sem] Oper.semAt_some

/-- The cells of tokens. -/
def tokC (t : Lx.Tok) : List Value := [.int .u8 t.kind, txtV t.text, .int .i64 t.at_]
def tokCells (ts : List Lx.Tok) : List Value := ts.flatMap tokC
theorem tokCells_snoc (ts : List Lx.Tok) (t : Lx.Tok) : tokCells (ts ++ [t]) = tokCells ts ++ tokC t := by simp [tokCells]
theorem extract_rest (r : ByteArray) (k : Nat) : (r.extract k r.size).data.toList = r.data.toList.drop k := by
  rw [Lib.extract_data]
  apply List.take_of_length_le
  simp
theorem extract_part (r : ByteArray) (k n : Nat) : (r.extract k (k + n)).data.toList = (r.data.toList.drop k).take n := by
  rw [Lib.extract_data, Nat.add_sub_cancel_left]
theorem size_rest (r : ByteArray) (k : Nat) (hs : r.size ≤ maxLen) : (r.extract k r.size).size ≤ maxLen := by
  rw [ByteArray.size_extract]; omega
theorem grown_draws {W W' : World} {o : Option Nat} (h : W.grownBy W' o) (d : Nat) : W.grownBy (W'.drewN d) o := ⟨h.os, h.tape, h.output, h.size, h.block⟩
theorem grown_drawn {W W' : World} {o : Option Nat} {d : Nat} (h : (W.drewN d).grownBy W' o) : W.grownBy W' o := ⟨h.os, h.tape, h.output, h.size, h.block⟩

end Go.Proofs.Ytejnleigjjaenaa

/-
  The walks of the ways of a lexer: blanks, comment, run, sign.
-/
namespace Go.Proofs.Ytejnleigjjaenaa
open Go.RowKit Go.Shelf

attribute [local go_sem] Oper.semAt_some

theorem str_empty (x : ByteArray) (h : x.size = 0) : x = ⟨#[]⟩ := ByteArray.ext (Array.eq_empty_of_size_eq_zero h)
theorem str_some (x : ByteArray) (h : 0 < x.size) : x.toList ≠ [] ∧ (!x.toList.isEmpty) = true ∧ x.toList.isEmpty = false := by
  have h1 : x.toList ≠ [] := by
    rw [Lib.toList_data]
    intro e
    have h2 : x.data.toList.length = x.size := rfl
    rw [e] at h2; simp at h2; omega
  exact ⟨h1, by simpa using h1, by simpa using h1⟩

namespace Lx
def blanksS (l : List UInt8) : Option Step := if 0 < lead blankI l then some (.skip (lead blankI l)) else none
def commentS (l : List UInt8) : Option Step := if pre [47, 47] l = true then some (.skip (lead inLineI l)) else none
def runS (l : List UInt8) : Option Step := if 0 < lead ldI l then some (if sort (l.take (lead ldI l)) = 0 then .bad 101 else .tok (sort (l.take (lead ldI l))) (lead ldI l)) else none
def signS (l : List UInt8) : Option Step := (sign? l).map fun t => .tok 4 t.length
end Lx

theorem size_part (r : ByteArray) (k n : Nat) (h : k + n ≤ r.size) : (r.extract k (k + n)).size = n := by
  rw [ByteArray.size_extract]; omega
theorem lead_fits (p : Int → Bool) (s : ByteArray) (k : Nat) (hk : k ≤ s.size) : k + Lx.lead p (s.data.toList.drop k) ≤ s.size := by
  have h3 := Lx.lead_le p (s.data.toList.drop k)
  have h4 : s.data.toList.length = s.size := rfl
  rw [List.length_drop, h4] at h3
  omega

end Go.Proofs.Ytejnleigjjaenaa

/-
  The walk of the lexer's way run: letters and digits.
-/
namespace Go.Proofs.Ytejnleigjjaenaa
open Go.RowKit Go.Shelf

attribute [local go_sem] Oper.semAt_some

end Go.Proofs.Ytejnleigjjaenaa

/-
  The walk of the lexer's way sign: the longest sign.
-/
namespace Go.Proofs.Ytejnleigjjaenaa
open Go.RowKit Go.Shelf

attribute [local go_sem] Oper.semAt_some

/-- The table of signs is as the program's text lays it. -/
def SignsAt (B : Nat) (W : World) : Prop := 0 < B ∧ ∃ v, W.cell? ⟨0, 0, none⟩ = some v ∧ RowLow B W v Lx.signs
theorem SignsAt.keep {B : Nat} {W W' : World} (h : SignsAt B W) (hb : Below B W W') : SignsAt B W' := by
  obtain ⟨h0, v, h1, h2⟩ := h
  exact ⟨h0, v, (hb.cell (p := ⟨0, 0, none⟩) h0).trans h1, h2.below hb (Nat.le_refl _)⟩
theorem SignsAt.mono {B B' : Nat} {W : World} (h : SignsAt B W) (hb : B ≤ B') : SignsAt B' W := by
  obtain ⟨h0, v, h1, h2⟩ := h
  exact ⟨by omega, v, h1, h2.mono hb⟩

theorem find_at {α : Type} (p : α → Bool) : ∀ (L : List α) (i : Nat) (x : α), L[i]? = some x → p x = true → (∀ j y, L[j]? = some y → j < i → p y = false) → L.find? p = some x
  | [], _, _, h, _, _ => by simp at h
  | a :: L, 0, x, h, hx, _ => by simp at h; subst h; rw [List.find?_cons, hx]
  | a :: L, i + 1, x, h, hx, hn => by
    rw [List.find?_cons, hn 0 a rfl (by omega)]
    exact find_at p L i x (by simpa using h) hx (fun j y hj hji => hn (j + 1) y (by simpa using hj) (by omega))
theorem sign_find_none {α : Type} (p : α → Bool) (L : List α) (hn : ∀ (j : Nat) y, L[j]? = some y → p y = false) : L.find? p = none := by
  rw [List.find?_eq_none]
  intro x hx
  obtain ⟨j, hj⟩ := List.mem_iff_getElem?.1 hx
  rw [hn j x hj]; decide

theorem pre_len {p : ByteArray} {s : ByteArray} {k : Nat} (hk : k ≤ s.size) (h : pre p.data.toList (s.data.toList.drop k) = true) : k + p.size ≤ s.size ∧ s.extract k (k + p.size) = p := by
  have h1 := Lx.prefix_take (s := p.data.toList) h
  have h2 : p.data.toList.length = p.size := rfl
  have h3 : s.data.toList.length = s.size := rfl
  have h4 := h1.2
  rw [List.length_drop, h2, h3] at h4
  refine ⟨by omega, ByteArray.ext (Array.ext' ?_)⟩
  rw [extract_part, ← h2]
  exact h1.1
theorem signs_short (i : Nat) (x : List UInt8) (h : Lx.signs[i]? = some x) : x.length ≤ 2 := (Lx.signs_len x (List.mem_of_getElem? h)).2

end Go.Proofs.Ytejnleigjjaenaa

/-
  The walks of the row of ways: the first one that is open; read, up to the end or the first fault; Tokens.
-/
namespace Go.Proofs.Ytejnleigjjaenaa
open Go.RowKit Go.Shelf

attribute [local go_sem] Oper.semAt_some

namespace Lx
/-- The ways from the one at a place on. -/
def from4 (l : List UInt8) : Nat → Option Step
  | 0 => (blanksS l).or ((commentS l).or ((runS l).or (signS l)))
  | 1 => (commentS l).or ((runS l).or (signS l))
  | 2 => (runS l).or (signS l)
  | 3 => signS l
  | _ => none
theorem from4_step (l : List UInt8) : step l = (from4 l 0).getD (.bad 100) := by
  unfold step from4 blanksS commentS runS signS pre
  split
  next h => simp
  next h =>
    split
    next h2 => simp
    next h2 =>
      split
      next h3 => simp
      next h3 => cases sign? l <;> simp
end Lx

/-- A way, as a value. -/
def wayV (f b : Nat) : Value := .func (.func f) #[.pointer (some ⟨b, 0, none⟩)] #[]
end Go.Proofs.Ytejnleigjjaenaa

/-
  What follows of chapter 5: what stands behind a text; tokens' texts with blanks between them.
-/
namespace Go.Proofs.Ytejnleigjjaenaa
namespace Lx

theorem prefix_stop {s : List UInt8} {c : UInt8} (hc : c ∉ s) (a r : List UInt8) : s.isPrefixOf (a ++ c :: r) = s.isPrefixOf a := by
  induction s generalizing a with
  | nil => cases a <;> rfl
  | cons b s ih =>
    have h1 : b ≠ c := fun e => hc (by rw [e]; simp)
    have h2 : c ∉ s := fun h => hc (by simp [h])
    cases a with
    | nil => simp [List.isPrefixOf, h1]
    | cons x a => simp only [List.cons_append, List.isPrefixOf, ih h2]

theorem find_congr {α : Type} (p q : α → Bool) : ∀ l : List α, (∀ x ∈ l, p x = q x) → l.find? p = l.find? q
  | [], _ => rfl
  | x :: l, h => by
    rw [List.find?_cons, List.find?_cons, h x (by simp), find_congr p q l (fun y hy => h y (by simp [hy]))]
/-- No sign has this byte. -/
theorem sign_stop {c : UInt8} (hc : ∀ s ∈ signs, c ∉ s) (a r : List UInt8) : sign? (a ++ c :: r) = sign? a :=
  find_congr _ _ _ (fun s hs => prefix_stop (hc s hs) a r)

theorem no10 : ∀ s ∈ signs, (10 : UInt8) ∉ s := by decide
theorem no32 : ∀ s ∈ signs, (32 : UInt8) ∉ s := by decide

/-- A token stays as it is, if a blank or the byte 10 is put behind the bytes. -/
theorem step_stop_tok {c : UInt8} (h3 : ldI (c.toNat : Int) = false) (h4 : ∀ s ∈ signs, c ∉ s) (h5 : c ≠ 47) (a r : List UInt8) (ha : a ≠ []) (hb : lead blankI a = 0) (hp : [47, 47].isPrefixOf a = false) : step (a ++ c :: r) = step a := by
  have e1 : lead blankI (a ++ c :: r) = 0 := by
    rw [lead_append_lt _ _ _ (by rw [hb]; exact List.length_pos_iff.2 ha), hb]
  have e2 : [47, 47].isPrefixOf (a ++ c :: r) = false := by
    rw [prefix_stop (by simp [h5]), hp]
  have e3 : lead ldI (a ++ c :: r) = lead ldI a := lead_append_stop _ _ _ _ h3
  have e4 : (a ++ c :: r).take (lead ldI a) = a.take (lead ldI a) := by
    rw [List.take_append_of_le_length (lead_le _ _)]
  have e5 := sign_stop h4 a r
  unfold step
  rw [e1, e2, e3, e4, e5, hb, hp]
  simp

/-- Blanks in front play no part. -/
theorem rest_blanks (l : List UInt8) (k : Nat) (acc : List Tok) : rest l k acc = rest (l.drop (lead blankI l)) (k + lead blankI l) acc := by
  by_cases h : 0 < lead blankI l
  · have hl : l ≠ [] := by intro e; rw [e] at h; simp [lead_nil] at h
    exact rest_skip k acc (by unfold step; rw [if_pos h]) hl
  · have h0 : lead blankI l = 0 := by omega
    rw [h0]; rfl

theorem lead_drop (p : Int → Bool) : ∀ (l : List UInt8) (i : Nat), i ≤ lead p l → lead p (l.drop i) = lead p l - i
  | _, 0, _ => by simp
  | [], i + 1, h => by simp [lead_nil] at h
  | b :: l, i + 1, h => by
    rw [lead_cons] at h
    split at h
    next hp =>
      rw [List.drop_succ_cons, lead_drop p l i (by omega), lead_cons, if_pos hp]
      omega
    next hp => omega
theorem rest_some (l : List UInt8) (i : Nat) (h : i ≤ lead blankI l) (k : Nat) (acc : List Tok) : rest l k acc = rest (l.drop i) (k + i) acc := by
  rw [rest_blanks l, rest_blanks (l.drop i), lead_drop _ _ _ h, List.drop_drop]
  rw [show i + (lead blankI l - i) = lead blankI l by omega, show k + i + (lead blankI l - i) = k + lead blankI l by omega]

theorem lead_le_append (p : Int → Bool) (a r : List UInt8) : lead p a ≤ lead p (a ++ r) := by
  by_cases h : lead p a < a.length
  · rw [lead_append_lt _ _ _ h]; exact Nat.le_refl _
  · have := lead_le p a
    rw [lead_append_all p a r (by omega)]; omega

/-- What stands behind: of a text's tokens, or its fault. -/
def behind (m : List UInt8) (n : Nat) : Res → Res
  | .fault e i => .fault e i
  | .ok ts => rest m n ts

/-- What stands behind a text and a byte 10. -/
theorem rest_behind (m : List UInt8) (a : List UInt8) : ∀ (k : Nat) (acc : List Tok), rest (a ++ 10 :: m) k acc = behind m (k + a.length + 1) (rest a k acc) := by
  refine bySteps (P := fun a => ∀ (k : Nat) (acc : List Tok), rest (a ++ 10 :: m) k acc = behind m (k + a.length + 1) (rest a k acc)) ?_ ?_ a
  · intro k acc
    rw [rest_nil, List.nil_append]
    show rest (10 :: m) k acc = rest m (k + 0 + 1) acc
    exact rest_some (10 :: m) 1 (by rw [lead_cons, if_pos (by decide)]; omega) k acc
  · intro l hl ihs iht k acc
    have hla : l ++ 10 :: m ≠ [] := by simp
    have ll : ∀ n, n ≤ l.length → k + n + (l.drop n).length + 1 = k + l.length + 1 := fun n hn => by rw [List.length_drop]; omega
    by_cases hb : 0 < lead blankI l
    · have hs : step l = .skip (lead blankI l) := by unfold step; rw [if_pos hb]
      rw [rest_skip k acc hs hl, ← ll _ (lead_le blankI l), ← ihs _ hs, rest_some _ _ (lead_le_append blankI l (10 :: m)), List.drop_append_of_le_length (lead_le _ _)]
    · have hb0 : lead blankI l = 0 := by omega
      have hb1 : lead blankI (l ++ 10 :: m) = 0 := by rw [lead_append_lt _ _ _ (by rw [hb0]; exact List.length_pos_iff.2 hl), hb0]
      cases hp : [47, 47].isPrefixOf l with
      | true =>
        have hs : step l = .skip (lead inLineI l) := by unfold step; rw [if_neg hb, if_pos hp]
        have hs2 : step (l ++ 10 :: m) = .skip (lead inLineI l) := by
          unfold step; rw [hb1, if_neg (by omega), prefix_stop (by decide), if_pos hp, lead_append_stop _ _ _ _ (by decide)]
        rw [rest_skip k acc hs hl, ← ll _ (lead_le inLineI l), ← ihs _ hs, rest_skip k acc hs2 hla, List.drop_append_of_le_length (lead_le _ _)]
      | false =>
        have e := step_stop_tok (c := 10) (by decide) no10 (by decide) l m hl hb0 hp
        cases hs : step l with
        | skip n =>
          have hn := (step_skip hs).2
          rw [hs] at e
          rw [rest_skip k acc hs hl, ← ll _ hn, ← ihs _ hs, rest_skip k acc e hla, List.drop_append_of_le_length hn]
        | tok kind n =>
          have hn := (step_tok hs).2
          rw [hs] at e
          rw [rest_tok k acc hs hl, ← ll _ hn, ← iht _ _ hs, rest_tok k acc e hla, List.drop_append_of_le_length hn, List.take_append_of_le_length hn]
        | bad er =>
          rw [hs] at e
          rw [rest_bad k acc hs hl, rest_bad k acc e hla]; rfl

/-- Tokens at other places. -/
def Tok.shift (d : Nat) (t : Tok) : Tok := ⟨t.kind, t.text, t.at_ + d⟩
def Res.shift (pre : List Tok) (d : Nat) : Res → Res
  | .fault e i => .fault e (i + d)
  | .ok ts => .ok (pre ++ ts.map (Tok.shift d))
theorem rest_shift (pre : List Tok) (d : Nat) (a : List UInt8) : ∀ (k : Nat) (acc : List Tok), rest a (k + d) (pre ++ acc.map (Tok.shift d)) = (rest a k acc).shift pre d := by
  refine bySteps (P := fun a => ∀ (k : Nat) (acc : List Tok), rest a (k + d) (pre ++ acc.map (Tok.shift d)) = (rest a k acc).shift pre d) ?_ ?_ a
  · intro k acc; rfl
  · intro l hl ihs iht k acc
    cases hs : step l with
    | skip n => rw [rest_skip _ _ hs hl, rest_skip _ _ hs hl, show k + d + n = k + n + d by omega]; exact ihs _ hs _ _
    | tok kind n =>
      rw [rest_tok _ _ hs hl, rest_tok _ _ hs hl, show k + d + n = k + n + d by omega, ← iht _ _ hs]
      simp [Tok.shift]
    | bad e => rw [rest_bad _ _ hs hl, rest_bad _ _ hs hl]; rfl

/-- P5.1: what stands behind a text, with a byte 10 between. -/
theorem lex_behind (a m : List UInt8) : lex (a ++ 10 :: m) = match lex a with
    | .fault e i => .fault e i
    | .ok ts => (lex m).shift ts (a.length + 1) := by
  rw [lex_rest, lex_rest, lex_rest, rest_behind m a 0 []]
  cases rest a 0 [] with
  | fault e i => rfl
  | ok ts =>
    have := rest_shift ts (a.length + 1) m 0 []
    simp only [List.map_nil, List.append_nil] at this
    rw [show 0 + (a.length + 1) = 0 + a.length + 1 by omega] at this
    exact this

/-- Where a token is told: a token's text is one of its own kind, alone. -/
structure Tok.Fine (t : Tok) : Prop where
  ne : t.text ≠ []
  blank : lead blankI t.text = 0
  slash : [47, 47].isPrefixOf t.text = false
  own : step t.text = .tok t.kind t.text.length

theorem take_all (p : Int → Bool) (l : List UInt8) : lead p (l.take (lead p l)) = (l.take (lead p l)).length := lead_of_all p _ (lead_take_all p l)
theorem lead_take (p : Int → Bool) (l : List UInt8) (n : Nat) (hn : 0 < n) (h : lead p l = 0) : lead p (l.take n) = 0 := by
  cases l with
  | nil => simp [lead_nil]
  | cons b l =>
    obtain ⟨n, rfl⟩ : ∃ m, n = m + 1 := ⟨n - 1, by omega⟩
    rw [List.take_succ_cons, lead_cons]
    rw [lead_cons] at h
    split at h
    · omega
    · next hp => rw [if_neg hp]
theorem signs_own : ∀ s ∈ signs, lead blankI s = 0 ∧ [47, 47].isPrefixOf s = false ∧ lead ldI s = 0 ∧ sign? s = some s := by decide
theorem fine_of_step {l : List UInt8} {kind n : Nat} (k : Nat) (h : step l = .tok kind n) : (Tok.mk kind (l.take n) k).Fine := by
  have h0 := step_tok h
  have hne : l.take n ≠ [] := by
    intro e
    have := congrArg List.length e
    rw [List.length_take, List.length_nil] at this
    omega
  unfold step at h
  split at h
  next h1 => cases h
  next h1 =>
    have hb0 : lead blankI l = 0 := by omega
    have hb := lead_take blankI l n h0.1 hb0
    split at h
    next h2 => cases h
    next h2 =>
      split at h
      next h3 =>
        split at h
        · cases h
        · next h4 =>
          cases h
          have hld : lead ldI (l.take (lead ldI l)) = (l.take (lead ldI l)).length := take_all ldI l
          have hp : [47, 47].isPrefixOf (l.take (lead ldI l)) = false := by
            cases hp : [47, 47].isPrefixOf (l.take (lead ldI l)) with
            | false => rfl
            | true =>
              have := (List.isPrefixOf_iff_prefix.1 hp).trans (List.take_prefix _ _)
              exact absurd (List.isPrefixOf_iff_prefix.2 this) h2
          refine ⟨hne, hb, hp, ?_⟩
          show step (l.take (lead ldI l)) = .tok (sort (l.take (lead ldI l))) (l.take (lead ldI l)).length
          unfold step
          rw [hb, if_neg (by omega), hp, if_neg (by simp), hld, if_pos (List.length_pos_iff.2 hne), List.take_length, if_neg h4]
      next h3 =>
        split at h
        next s hs =>
          cases h
          have hm := sign_mem hs
          rw [(prefix_take hm.2).1]
          obtain ⟨g1, g2, g3, g4⟩ := signs_own s hm.1
          refine ⟨?_, g1, g2, ?_⟩
          · intro e; have := (signs_len s hm.1).1; simp [show s = [] from e] at this
          · show step s = .tok 4 s.length
            unfold step
            rw [g1, if_neg (by omega), g2, if_neg (by simp), g3, if_neg (by omega), g4]
        next => cases h

/-- The texts of tokens, a blank ahead of each. -/
def spaced : List Tok → List UInt8
  | [] => []
  | t :: ts => 32 :: t.text ++ spaced ts
theorem spaced_snoc (ts : List Tok) (t : Tok) : spaced (ts ++ [t]) = spaced ts ++ 32 :: t.text := by
  induction ts with
  | nil => simp [spaced]
  | cons x ts ih => simp [spaced, ih]

/-- Tokens alike but for their places. -/
def Tok.alike (t u : Tok) : Prop := t.kind = u.kind ∧ t.text = u.text
theorem rest_spaced : ∀ (ts : List Tok) (k : Nat) (acc : List Tok), (∀ t ∈ ts, t.Fine) → ∃ us : List Tok, rest (spaced ts) k acc = .ok (acc ++ us) ∧ us.map (fun t => (t.kind, t.text)) = ts.map (fun t => (t.kind, t.text))
  | [], k, acc, _ => ⟨[], by simp [spaced, rest_nil], rfl⟩
  | t :: ts, k, acc, h => by
    obtain ⟨f1, f2, f3, f4⟩ := h t (by simp)
    have e1 : rest (spaced (t :: ts)) k acc = rest (t.text ++ spaced ts) (k + 1) acc := rest_some (32 :: (t.text ++ spaced ts)) 1 (by rw [lead_cons, if_pos (by decide)]; omega) k acc
    have hs : step (t.text ++ spaced ts) = .tok t.kind t.text.length := by
      cases ts with
      | nil => simp only [spaced, List.append_nil]; exact f4
      | cons u us =>
        have := step_stop_tok (c := 32) (by decide) no32 (by decide) t.text (u.text ++ spaced us) f1 f2 f3
        rw [f4] at this
        exact this
    have hne : t.text ++ spaced ts ≠ [] := by simp [f1]
    obtain ⟨us, h1, h2⟩ := rest_spaced ts (k + 1 + t.text.length) (acc ++ [⟨t.kind, t.text, k + 1⟩]) (fun u hu => h u (by simp [hu]))
    refine ⟨⟨t.kind, t.text, k + 1⟩ :: us, ?_, by simp [h2]⟩
    rw [e1, rest_tok _ _ hs hne, List.drop_left, List.take_left, h1]
    simp

/-- All tokens are fine, rise, and stand where they say. -/
structure Told (s : List UInt8) (ts : List Tok) : Prop where
  fine : ∀ t ∈ ts, t.Fine
  there : ∀ t ∈ ts, t.at_ + t.text.length ≤ s.length ∧ (s.drop t.at_).take t.text.length = t.text
  rise : ∀ i (h : i + 1 < ts.length), ts[i].at_ + ts[i].text.length ≤ ts[i + 1].at_
theorem rest_told (s : List UInt8) (a : List UInt8) : ∀ (k : Nat) (acc ts : List Tok), a = s.drop k → k ≤ s.length → Told s acc → (∀ t ∈ acc, t.at_ + t.text.length ≤ k) → rest a k acc = .ok ts → Told s ts := by
  refine bySteps (P := fun a => ∀ (k : Nat) (acc ts : List Tok), a = s.drop k → k ≤ s.length → Told s acc → (∀ t ∈ acc, t.at_ + t.text.length ≤ k) → rest a k acc = .ok ts → Told s ts) ?_ ?_ a
  · intro k acc ts _ _ h _ hr
    rw [rest_nil] at hr
    cases hr; exact h
  · intro l hl ihs iht k acc ts hk hks h hb hr
    have hlen : l.length = s.length - k := by rw [hk, List.length_drop]
    cases hs : step l with
    | skip n =>
      have hn := step_skip hs
      rw [rest_skip _ _ hs hl] at hr
      exact ihs _ hs (k + n) acc ts (by rw [hk, List.drop_drop]) (by omega) h (fun t ht => by have := hb t ht; omega) hr
    | tok kind n =>
      have hn := step_tok hs
      rw [rest_tok _ _ hs hl] at hr
      have hlt : (l.take n).length = n := by rw [List.length_take]; omega
      refine iht _ _ hs (k + n) _ ts (by rw [hk, List.drop_drop]) (by omega) ⟨?_, ?_, ?_⟩ ?_ hr
      · intro t ht
        rcases List.mem_append.1 ht with ht | ht
        · exact h.fine t ht
        · rw [List.mem_singleton.1 ht]; exact fine_of_step k hs
      · intro t ht
        rcases List.mem_append.1 ht with ht | ht
        · exact h.there t ht
        · rw [List.mem_singleton.1 ht]
          exact ⟨by show k + (l.take n).length ≤ s.length; omega, by show (s.drop k).take (l.take n).length = l.take n; rw [hlt, ← hk]⟩
      · intro i hi
        rw [List.length_append] at hi
        simp at hi
        by_cases hi2 : i + 1 < acc.length
        · rw [List.getElem_append_left (by omega), List.getElem_append_left hi2]; exact h.rise i hi2
        · rw [List.getElem_append_left (by omega), List.getElem_append_right (by omega)]
          simpa using hb _ (List.getElem_mem _)
      · intro t ht
        rcases List.mem_append.1 ht with ht | ht
        · have := hb t ht; omega
        · rw [List.mem_singleton.1 ht]; show k + (l.take n).length ≤ k + n; omega
    | bad e => rw [rest_bad _ _ hs hl] at hr; cases hr
theorem lex_told {s : List UInt8} {ts : List Tok} (h : lex s = .ok ts) : Told s ts :=
  rest_told s s 0 [] ts rfl (Nat.zero_le _) ⟨by simp, by simp, fun i h => by simp at h⟩ (by simp) h
theorem rest_fault (s : List UInt8) (a : List UInt8) : ∀ (k : Nat) (acc : List Tok) (e i : Nat), a.length + k = s.length → rest a k acc = .fault e i → i < s.length ∧ (e = 100 ∨ e = 101) := by
  refine bySteps (P := fun a => ∀ (k : Nat) (acc : List Tok) (e i : Nat), a.length + k = s.length → rest a k acc = .fault e i → i < s.length ∧ (e = 100 ∨ e = 101)) ?_ ?_ a
  · intro k acc e i _ hr; rw [rest_nil] at hr; cases hr
  · intro l hl ihs iht k acc e i hk hr
    cases hs : step l with
    | skip n =>
      have hn := step_skip hs
      rw [rest_skip _ _ hs hl] at hr
      exact ihs _ hs _ _ _ _ (by rw [List.length_drop]; omega) hr
    | tok kind n =>
      have hn := step_tok hs
      rw [rest_tok _ _ hs hl] at hr
      exact iht _ _ hs _ _ _ _ (by rw [List.length_drop]; omega) hr
    | bad er =>
      rw [rest_bad _ _ hs hl] at hr
      cases hr
      refine ⟨by have := List.length_pos_iff.2 hl; omega, ?_⟩
      unfold step at hs
      split at hs
      · cases hs
      · split at hs
        · cases hs
        · split at hs
          · split at hs
            · cases hs; exact .inr rfl
            · cases hs
          · split at hs
            · cases hs
            · cases hs; exact .inl rfl
theorem lex_fault {s : List UInt8} {e i : Nat} (h : lex s = .fault e i) : i < s.length ∧ (e = 100 ∨ e = 101) := rest_fault s s 0 [] e i (by simp) h
/-- P5.3: the texts of a text's tokens, a blank ahead of each, are the same tokens. -/
theorem lex_again {s : List UInt8} {ts : List Tok} (h : lex s = .ok ts) : ∃ us, lex (spaced ts) = .ok us ∧ us.map (fun t => (t.kind, t.text)) = ts.map (fun t => (t.kind, t.text)) := by
  obtain ⟨us, h1, h2⟩ := rest_spaced ts 0 [] (lex_told h).fine
  exact ⟨us, by rw [lex_rest]; simpa using h1, h2⟩

end Lx
end Go.Proofs.Ytejnleigjjaenaa

/-
  The walks of read, up to the end or the first fault, and of Tokens.
-/
namespace Go.Proofs.Ytejnleigjjaenaa
open Go.RowKit Go.Shelf

attribute [local go_sem] Oper.semAt_some

/-- How much a lexer has still to do. -/
def mOf (b n : Nat) (W : World) : Nat := (match W.cell? ⟨b, 1, none⟩ with | some (.int _ k) => 2 * (n - k.toNat) | _ => 0) + (match W.cell? ⟨b, 3, none⟩ with | some (.int _ e) => (if e = 0 then 1 else 0) | _ => 0)
theorem step_of {l : List UInt8} {st : Lx.Step} (h : Lx.from4 l 0 = some st) : Lx.step l = st := by rw [Lx.from4_step, h]; rfl
theorem step_none {l : List UInt8} (h : Lx.from4 l 0 = none) : Lx.step l = .bad 100 := by rw [Lx.from4_step, h]; rfl

theorem below_box {B n : Nat} {A W Y : World} (h : Below B A W) (hg : W.grownBy Y (some n)) (hn : B ≤ n) (hB : B ≤ W.heap.size) : Below B A Y :=
  h.trans ⟨hg.os, hg.tape, hg.output, hg.size, fun k hk => hg.block k (by omega) (fun e => by cases e; omega)⟩

end Go.Proofs.Ytejnleigjjaenaa

/-
  The walk of clerestorylaw05.awake: the chapter's examples are as they must be.
-/
namespace Go.Proofs.Ytejnleigjjaenaa
open Go.RowKit Go.Shelf

attribute [local go_sem] Oper.semAt_some

theorem SignsAt.at {w W : World} (h : SignsAt w.heap.size w) (hb : Below w.heap.size w W) : SignsAt W.heap.size W := (h.keep hb).mono hb.size

def aw1 : ByteArray := ⟨#[118, 97, 114, 32, 97, 49, 61, 51, 59, 32, 47, 47, 32, 120]⟩
def aw2 : ByteArray := ⟨#[48, 49]⟩
def aw3 : ByteArray := ⟨#[97, 32, 38, 32, 98]⟩
def aw4 : ByteArray := ⟨#[97, 60, 61, 61]⟩
theorem aw1_lex : Lx.lex aw1.data.toList = .ok [⟨2, [118, 97, 114], 0⟩, ⟨1, [97, 49], 4⟩, ⟨4, [61], 6⟩, ⟨3, [51], 7⟩, ⟨4, [59], 8⟩] := by decide +kernel
theorem aw2_lex : Lx.lex aw2.data.toList = .fault 101 0 := by decide +kernel
theorem aw3_lex : Lx.lex aw3.data.toList = .fault 100 2 := by decide +kernel
theorem aw4_lex : Lx.lex aw4.data.toList = .ok [⟨1, [97], 0⟩, ⟨4, [60, 61], 1⟩, ⟨4, [61], 3⟩] := by decide +kernel

end Go.Proofs.Ytejnleigjjaenaa

/-
  The walks of the document's answers of chapter 5: letters, digits, blanks, words, names, numbers.
-/
namespace Go.Proofs.Ytejnleigjjaenaa
open Go.RowKit

set_option maxRecDepth 100000 in
set_option maxHeartbeats 1000000 in
theorem rletter_any (c : Int) (w : World) :
    Calls Try.prog 82 #[.int .u8 c] w fun e w' => e = .returned (.bool (Lx.letterI c)) ∧ w' = w := by
  go_enter Try.func82, Try.ntmps82
  go_wp2
  all_goals go_ret
  all_goals refine ⟨ret_bool ?_, rfl⟩
  all_goals unfold Lx.letterI
  all_goals first | rfl | (rw [Bool.eq_iff_iff]; simp; try omega)

set_option maxRecDepth 100000 in
set_option maxHeartbeats 1000000 in
theorem rdigit_any (c : Int) (w : World) :
    Calls Try.prog 85 #[.int .u8 c] w fun e w' => e = .returned (.bool (Lx.digitI c)) ∧ w' = w := by
  go_enter Try.func85, Try.ntmps85
  go_wp2
  all_goals go_ret
  all_goals refine ⟨ret_bool ?_, rfl⟩
  all_goals unfold Lx.digitI
  all_goals first | rfl | (rw [Bool.eq_iff_iff]; simp; try omega)

set_option maxRecDepth 100000 in
set_option maxHeartbeats 2000000 in
theorem one_any (L : List (List UInt8)) (v : Value) (m : Nat) (x : ByteArray) (w : World) (hrow : RowLow m w v L) (hL : L.length ≤ 1000000) :
    Calls Try.prog 83 #[.string x, v] w fun e w' => e = .returned (.bool (has L x.data.toList)) ∧ w' = w := by
  obtain ⟨ao, cap, b, off, rfl, -, hao, hc⟩ := hrow.parts
  clear hrow
  have HC : Hid (_) := hc
  clear hc
  go_enter Try.func83, Try.ntmps83
  go_wp2_with fail
  go_loop [5] (fun t => ∃ i : Nat, i ≤ L.length ∧ t = .int .i64 i ∧ ∀ j y, L[j]? = some y → j < i → y ≠ x.data.toList) (fun t => L.length - (intOf t).toNat)
  case atStart => exact ⟨0, Nat.zero_le _, rfl, fun j _ _ h => absurd h (Nat.not_lt_zero _)⟩
  case round =>
    obtain ⟨i, hi, rfl, hall⟩ := hrel
    have HA : Hid (_) := hall
    clear hall
    by_cases hlt : i < L.length
    · obtain ⟨y, hy⟩ : ∃ y, L[i]? = some y := ⟨L[i], List.getElem?_eq_getElem hlt⟩
      obtain ⟨rfl, -⟩ := hao (by omega)
      have g1 := HC.out i y hy
      have HY : Hid (_) := hy
      clear hy
      have hbq : (((Ln.bs y).toList == x.toList)) = decide (y = x.data.toList) := bs_beq y x.data.toList
      by_cases he : y = x.data.toList
      · have h1 : ((Ln.bs y).toList == x.toList) = true := by rw [hbq]; exact decide_eq_true he
        have HE : Hid (_) := he
        clear he hbq
        go_wp2
        go_ret
        refine ⟨ret_bool ?_, rfl⟩
        unfold has
        rw [← HE.out]
        symm
        rw [List.contains_iff_mem]
        exact List.mem_of_getElem? HY.out
      · have h1 : ((Ln.bs y).toList == x.toList) = false := by rw [hbq]; exact decide_eq_false he
        have HE : Hid (_) := he
        clear he hbq
        go_wp2
        go_round
        case rel =>
          refine ⟨i + 1, by omega, by go_num, fun j z hz hji => ?_⟩
          by_cases hji2 : j < i
          · exact HA.out j z hz hji2
          · obtain rfl : j = i := by omega
            rw [HY.out] at hz
            cases hz
            exact HE.out
        case measure => simp [intOf]; omega
    · have hie : i = L.length := by omega
      subst hie
      clear hao
      go_wp2
      go_ret
      refine ⟨ret_bool ?_, rfl⟩
      unfold has
      symm
      rw [Bool.eq_false_iff]
      intro hm
      rw [List.contains_iff_mem] at hm
      obtain ⟨j, hj⟩ := List.mem_iff_getElem?.1 hm
      exact HA.out j _ hj (List.getElem?_eq_some_iff.1 hj).1 rfl

set_option maxRecDepth 100000 in
set_option maxHeartbeats 1000000 in
theorem rwords_any (w : World) :
    Calls Try.prog 84 #[] w fun e w' => ∃ v, e = .returned v ∧ RowLow w'.heap.size w' v Lx.words ∧ Below w.heap.size w w' := by
  go_enter Try.func84, Try.ntmps84
  go_wp2
  go_ret
  exact ⟨_, rfl, CellsLow.lit w (Lx.words.map txtV) 9 11, below_nw w _⟩

set_option maxRecDepth 100000 in
set_option maxHeartbeats 2000000 in
theorem rname_any (s : ByteArray) (hs : s.size ≤ maxLen) (w : World) :
    Calls Try.prog 65 #[.string s] w fun e w' => e = .returned (.bool (Lx.isName s.data.toList)) ∧ Below w.heap.size w w' := by
  have HS : Hid (s.data.toList.length = s.size) := rfl
  have ht : s.toList = s.data.toList := Lib.toList_data s
  by_cases h0 : s.size = 0
  · have hs : s = ⟨#[]⟩ := str_empty s h0
    subst hs
    clear ht HS h0
    go_enter Try.func65, Try.ntmps65
    go_wp2
    go_ret
    exact ⟨rfl, Below.refl _ _⟩
  · obtain ⟨n1, n2, n3⟩ := str_some s (by omega)
    obtain ⟨b, r, hbr⟩ : ∃ b r, s.data.toList = b :: r := by
      cases h : s.data.toList with
      | nil => rw [ht] at n1; exact absurd h n1
      | cons b r => exact ⟨b, r, rfl⟩
    have hp : 0 < s.size := by omega
    have hb0 : s[0] = b := by
      have : s[0] = s.data.toList[0]'hp := rfl
      rw [this]; simp [hbr]
    have HSP : Hid (Lx.isName s.data.toList = (decide (s.size ≤ 24) && Lx.letterI (s[0].toNat : Int) && decide (Lx.lead Lx.ldI s.data.toList = s.size) && !has Lx.words s.data.toList)) := by
      show Lx.isName s.data.toList = _
      unfold Lx.isName Lx.spelled
      rw [HS.out, hb0]
      simp only [hbr]
      rfl
    have hl := rletter_any (s[0].toNat : Int)
    have hs1 : s.size ≤ 9223372036854775807 := hs
    clear hbr hb0 ht
    by_cases h1 : s.size ≤ 24
    · have h1' : decide (24 < s.size) = false := by simp; omega
      cases h2 : Lx.letterI (s[0].toNat : Int) with
      | true =>
        rw [h2] at hl
        cases h3 : has Lx.words s.data.toList with
        | true =>
          go_enter Try.func65, Try.ntmps65
          go_wp2_with fail
          refine (hl _).mono ?_
          rintro e w' ⟨rfl, rfl⟩
          go_wp2_with fail
          refine (rwords_any _).mono ?_
          rintro e w1 ⟨v, rfl, hrow, hb⟩
          have CT : Hid (_) := one_any _ _ _ s w1 hrow (by decide)
          rw [h3] at CT
          obtain ⟨va, vc, vb, vd, rfl, -, -, -⟩ := hrow.parts
          have HB : Hid (_) := hb
          clear hrow hb
          go_wp2_with fail
          refine Calls.mono CT.out ?_
          rintro e w2 ⟨rfl, rfl⟩
          go_wp2
          go_ret
          refine ⟨ret_bool ?_, HB.out⟩
          rw [HSP.out, h3]
          simp
        | false =>
          go_enter Try.func65, Try.ntmps65
          go_wp2_with fail
          refine (hl _).mono ?_
          rintro e w' ⟨rfl, rfl⟩
          go_wp2_with fail
          refine (rwords_any _).mono ?_
          rintro e w1 ⟨v, rfl, hrow, hb⟩
          have CT : Hid (_) := one_any _ _ _ s w1 hrow (by decide)
          rw [h3] at CT
          obtain ⟨va, vc, vb, vd, rfl, -, -, -⟩ := hrow.parts
          have HB : Hid (_) := hb
          clear hrow hb
          go_wp2_with fail
          refine Calls.mono CT.out ?_
          rintro e w2 ⟨rfl, rfl⟩
          have H23 : Hid (Lx.isName s.data.toList = decide (Lx.lead Lx.ldI s.data.toList = s.size)) := by
            show Lx.isName s.data.toList = _
            rw [HSP.out, h2, h3, decide_eq_true h1]; simp
          clear CT HSP h3
          go_wp2_with fail
          go_loop [3] (fun t => ∃ i : Nat, i ≤ s.size ∧ t = .int .i64 i ∧ ∀ j (hj : j < s.data.toList.length), j < i → Lx.ldI (s.data.toList[j].toNat : Int) = true) (fun t => s.size - (intOf t).toNat)
          case atStart => exact ⟨0, Nat.zero_le _, rfl, fun j _ h => absurd h (Nat.not_lt_zero _)⟩
          case round =>
            obtain ⟨i, hi, rfl, hall⟩ := hrel
            have HA : Hid (_) := hall
            clear hall hl h2
            by_cases hlt : i < s.size
            · have hle := rletter_any (s[i].toNat : Int)
              have hdi := rdigit_any (s[i].toNat : Int)
              have HI : Hid (∀ h : i < s.data.toList.length, s.data.toList[i] = s[i]) := fun _ => rfl
              have fin : Hid (Lx.ldI (s[i].toNat : Int) = false → decide (Lx.lead Lx.ldI s.data.toList = s.size) = false) := fun hf => by
                rw [decide_eq_false_iff_not]
                intro he
                have := Lx.lead_all Lx.ldI s.data.toList (by rw [HS.out]; exact he) _ (List.getElem_mem hlt)
                have e2 : s.data.toList[i]'hlt = s[i] := rfl
                rw [e2, hf] at this
                cases this
              have nxt : Hid (Lx.ldI (s[i].toNat : Int) = true → ∀ j (hj : j < s.data.toList.length), j < i + 1 → Lx.ldI (s.data.toList[j].toNat : Int) = true) := fun hf j hj hji => by
                by_cases hji2 : j < i
                · exact HA.out j hj hji2
                · obtain rfl : j = i := by omega
                  exact hf
              cases h4 : Lx.letterI (s[i].toNat : Int) with
              | true =>
                rw [h4] at hle
                go_wp2_with (go_at_call 82; refine (hle _).mono ?_; rintro e w' ⟨rfl, rfl⟩)
                go_round
                case rel => exact ⟨i + 1, by omega, by go_num, nxt.out (by simp [Lx.ldI, h4])⟩
                case measure => simp [intOf]; omega
              | false =>
                rw [h4] at hle
                cases h5 : Lx.digitI (s[i].toNat : Int) with
                | true =>
                  rw [h5] at hdi
                  go_wp2_with (first
                    | (go_at_call 82; refine (hle _).mono ?_; rintro e w' ⟨rfl, rfl⟩)
                    | (go_at_call 85; refine (hdi _).mono ?_; rintro e w' ⟨rfl, rfl⟩))
                  go_round
                  case rel => exact ⟨i + 1, by omega, by go_num, nxt.out (by simp [Lx.ldI, h5])⟩
                  case measure => simp [intOf]; omega
                | false =>
                  rw [h5] at hdi
                  go_wp2_with (first
                    | (go_at_call 82; refine (hle _).mono ?_; rintro e w' ⟨rfl, rfl⟩)
                    | (go_at_call 85; refine (hdi _).mono ?_; rintro e w' ⟨rfl, rfl⟩))
                  go_ret
                  exact ⟨ret_bool (by rw [H23.out, fin.out (by simp [Lx.ldI, h4, h5])]), HB.out⟩
            · have hie : i = s.size := by omega
              go_wp2
              go_ret
              refine ⟨ret_bool ?_, HB.out⟩
              rw [H23.out]
              symm
              rw [decide_eq_true_iff]
              exact Lx.lead_eq Lx.ldI s.data.toList s.size (Nat.le_refl _) (by rw [← hie]; exact HA.out) (fun h => absurd h (Nat.lt_irrefl _))
      | false =>
        rw [h2] at hl
        go_enter Try.func65, Try.ntmps65
        go_wp2_with (go_at_call 82; refine (hl _).mono ?_; rintro e w' ⟨rfl, rfl⟩)
        go_ret
        refine ⟨ret_bool ?_, Below.refl _ _⟩
        rw [HSP.out, h2]
        simp
    · have h1' : decide (24 < s.size) = true := by simp; omega
      go_enter Try.func65, Try.ntmps65
      go_wp2
      go_ret
      refine ⟨ret_bool ?_, Below.refl _ _⟩
      rw [HSP.out, decide_eq_false h1]
      simp

end Go.Proofs.Ytejnleigjjaenaa

/-
  The walk of the document's Size.
-/
namespace Go.Proofs.Ytejnleigjjaenaa
open Go.RowKit Go.Shelf

attribute [local go_sem] Oper.semAt_some

def RSizeAt (t : Tr) : Prop := ∀ (S : Nat → Prop) (v : Value) (w : World), (∀ b, S b → b < w.heap.size) → NodeR S w v t → t.size ≤ 1000000 →
  Calls Try.prog 10 #[v] w fun e w' => e = .returned (.int .i64 t.size) ∧ Below w.heap.size w w'

set_option maxRecDepth 100000 in
set_option maxHeartbeats 4000000 in
theorem rsize_step (t : Tr) (ih : ∀ y ∈ t.kids, RSizeAt y) : RSizeAt t := by
  intro S v w hS hv hm
  obtain ⟨⟨k, tx, n, kv, kids⟩, rfl, rfl, hf, hr⟩ := hv
  obtain ⟨ka, kc, hkv⟩ := hr.slice
  simp only at hkv
  subst hkv
  simp only [N1.cells]
  have HIH : Hid (∀ y ∈ kids, RSizeAt y) := ih
  obtain ⟨X, hX⟩ : ∃ X, X = w.alloc (.cells #[.int .u8 k, .string (Ln.bs tx), .int .i64 n, .slice ka kids.length kc] 25) := ⟨_, rfl⟩
  have hB : Below w.heap.size w X := hX ▸ below_new w _
  have hXn : X.heap[w.heap.size]? = some (.cells #[.int .u8 k, .string (Ln.bs tx), .int .i64 n, .slice ka kids.length kc] 25 (0, 0)) := by rw [hX]; exact World.alloc_heap_new w _
  have HCE : Hid (∀ W, Below X.heap.size X W → W.cell? ⟨w.heap.size, 3, none⟩ = some (.slice ka kids.length kc)) := fun W hW => cells_at ((hW.block _ (Array.getElem?_eq_some_iff.1 hXn).1).trans hXn) rfl
  have HBX : Hid (Below w.heap.size w X) := hB
  obtain ⟨xs, xa, xc, xb, xo, ex, hxv, -, hxa, hxl, hx⟩ := hr.parts
  simp only at ex hxv hxa hxl
  cases hxv
  have HX : Hid (_) := hx
  have HSS : Hid (∀ b, S b → b < w.heap.size) := hS
  have HEX : Hid (kids = xs.map N1.tr) := ex
  have hsz : (N1.tr ⟨k, tx, n, .slice ka kids.length kc, kids⟩).size = 1 + Tr.sizes kids := Tr.size_eq _
  rw [hsz] at hm ⊢
  have HSZ : Hid (1 + Tr.sizes kids ≤ 1000000) := hm
  obtain ⟨N, hN⟩ : ∃ N, N = kids.length := ⟨_, rfl⟩
  have HN : Hid (N = kids.length) := hN
  obtain ⟨TT, hTT⟩ : ∃ T, T = 1 + Tr.sizes kids := ⟨_, rfl⟩
  have HTT : Hid (TT = 1 + Tr.sizes kids) := hTT
  rw [← hTT]
  rw [← hN] at hX HCE hxa hxl ⊢
  clear ih hf hr hB hXn hx ex hN hS hsz hm hTT
  refine (callsIn_wide (n := 3)).1 ?_
  refine callsIn_of_wp Try.func10 rfl trivial ?_ rfl
  simp only [Try.ntmps10, List.size_toArray, List.length_cons, List.length_nil, Nat.reduceAdd, Nat.reduceSub, Array.replicate_succ, Array.replicate_zero, List.push_toArray, List.append_toArray, List.nil_append, List.cons_append]
  gi_wp2
  rw [← hX]
  clear hX
  gi_loopw [3, 4] (fun cv i wr => ∃ q c : Nat, q ≤ N ∧ i = .int .i64 q ∧ cv = .int .i64 c ∧ Below X.heap.size X wr ∧ c = 1 + Tr.sizes (kids.take q)) (fun _ i _ => N - (intOf i).toNat)
  case atStart => exact ⟨0, 1, Nat.zero_le _, rfl, rfl, Below.refl _ _, by simp [Tr.sizes_nil]⟩
  case round =>
    obtain ⟨q, c, hq, rfl, rfl, hbr, hc1⟩ := hrel
    have e3 := HCE.out wr hbr
    by_cases hlt : q < N
    · obtain ⟨rfl, hSb⟩ := hxa (by omega)
      have hql : q < xs.length := by have := HN.out; rw [HEX.out, List.length_map] at this; omega
      obtain ⟨⟨zk, zt, zn, zv, zkids⟩, hzq⟩ : ∃ z, xs[q]? = some z := ⟨xs[q], List.getElem?_eq_getElem hql⟩
      obtain ⟨zf, zr, z0, z1, z2, z3⟩ := HX.out q _ hzq
      simp only at z0 z1 z2 z3 zr
      have hbw : Below w.heap.size w wr := below_then HBX.out hbr
      have hxb : xb < w.heap.size := HSS.out xb hSb
      have tr : ∀ j u, w.cell? ⟨xb, j, none⟩ = some u → wr.cell? ⟨xb, j, none⟩ = some u := fun j u h => (hbw.cell (p := ⟨xb, j, none⟩) hxb).trans h
      replace z0 := tr _ _ z0
      replace z1 := tr _ _ z1
      replace z2 := tr _ _ z2
      replace z3 := tr _ _ z3
      obtain ⟨za, zc, hzv⟩ := zr.slice
      subst hzv
      have hkq : kids[q]? = some (N1.tr ⟨zk, zt, zn, .slice za zkids.length zc, zkids⟩) := by rw [HEX.out, List.getElem?_map, hzq]; rfl
      have htk : Tr.sizes (kids.take (q + 1)) = Tr.sizes (kids.take q) + Tr.size (N1.tr ⟨zk, zt, zn, .slice za zkids.length zc, zkids⟩) := by
        rw [List.take_add_one, hkq, Tr.sizes_append]; simp [Tr.sizes_cons, Tr.sizes_nil]
      have hle : Tr.sizes (kids.take (q + 1)) ≤ Tr.sizes kids := by
        have h9 : Tr.sizes (kids.take (q + 1)) + Tr.sizes (kids.drop (q + 1)) = Tr.sizes kids := by rw [← Tr.sizes_append, List.take_append_drop]
        omega
      obtain ⟨zz, hzz⟩ : ∃ zz, zz = (N1.tr ⟨zk, zt, zn, .slice za zkids.length zc, zkids⟩).size := ⟨_, rfl⟩
      have hcz : c + zz ≤ 1000000 := by have := HSZ.out; omega
      have HC : Hid (_) := HIH.out _ (List.mem_of_getElem? hkq) S (.agg #[.int .u8 zk, .string (Ln.bs zt), .int .i64 zn, .slice za zkids.length zc]) wr (fun b hb => Nat.lt_of_lt_of_le (HSS.out b hb) hbw.size) ⟨⟨zk, zt, zn, .slice za zkids.length zc, zkids⟩, rfl, rfl, zf, zr.keep (fun b hb => hbw.block b (HSS.out b hb)) (fun _ h => h)⟩ (by rw [← hzz]; omega)
      rw [← hzz] at HC
      have HEND : Hid (c + zz = 1 + Tr.sizes (kids.take (q + 1))) := by
        show c + zz = _
        rw [htk, hc1, ← hzz]; omega
      have HBR : Hid (Below X.heap.size X wr) := hbr
      clear hbr hbw tr zr zf hkq hzq htk hle hzz hc1
      gi_wp2
      refine ⟨trivial, ?_⟩
      refine (callsIn_wide.2 HC.out).mono ?_
      rintro e w2 ⟨rfl, hb2⟩
      have HB2 : Hid (Below X.heap.size X w2) := below_then HBR.out hb2
      clear hb2 HC HBR
      gi_wp2
      refine ⟨⟨q + 1, c + zz, by omega, by simp, by simp, HB2.out, HEND.out⟩, by simp [intOf]; omega⟩
    · have hqN : q = N := by omega
      subst hqN
      have hcT : c = TT := by rw [hc1, HTT.out, HN.out, List.take_length]
      subst hcT
      have HE : Hid (Below w.heap.size w wr) := below_then HBX.out hbr
      clear hbr hc1
      gi_wp2
      go_ret
      exact ⟨rfl, HE.out⟩
theorem rsize_any : ∀ (m : Nat) (t : Tr), t.size ≤ m → RSizeAt t
  | 0, t, h => by have := Tr.size_eq t; omega
  | m + 1, t, h => rsize_step t (fun y hy => rsize_any m y (by have := Tr.size_eq t; have := Tr.sizes_mem hy; omega))
end Go.Proofs.Ytejnleigjjaenaa

/-
  The walks of the document's Named and text.
-/
namespace Go.Proofs.Ytejnleigjjaenaa
open Go.RowKit Go.Shelf

attribute [local go_sem] Oper.semAt_some

set_option maxRecDepth 100000 in
set_option maxHeartbeats 2000000 in
theorem rnamed_any (k : Int) (w : World) : Calls Try.prog 57 #[.int .u8 k] w fun e w' => e = .returned (.bool (Tr.bears k)) ∧ w' = w := by
  go_enter Try.func57, Try.ntmps57
  go_wp2
  all_goals go_ret
  all_goals refine ⟨ret_bool ?_, rfl⟩
  all_goals unfold Tr.bears
  all_goals first | rfl | (rw [Bool.eq_iff_iff]; simp; try omega)

set_option maxRecDepth 100000 in
set_option maxHeartbeats 4000000 in
theorem rtext_any (k n : Int) (t : List UInt8) (kv : Value) (w : World) (ht : t.length ≤ 9223372036854775807) : Calls Try.prog 50 #[.agg #[.int .u8 k, .string (Ln.bs t), .int .i64 n, kv]] w fun e w' => e = .returned (.bool (Tr.textOk k t)) ∧ Below w.heap.size w w' := by
  obtain ⟨X, hX⟩ : ∃ X, X = w.alloc (.cells #[.int .u8 k, .string (Ln.bs t), .int .i64 n, kv] 25) := ⟨_, rfl⟩
  have hB : Below w.heap.size w X := hX ▸ below_new w _
  have hn := World.alloc_heap_new w (.cells #[.int .u8 k, .string (Ln.bs t), .int .i64 n, kv] 25)
  rw [← hX] at hn
  have c0 : X.cell? ⟨w.heap.size, 0, none⟩ = some (.int .u8 k) := cells_at hn rfl
  have c1 : X.cell? ⟨w.heap.size, 1, none⟩ = some (.string (Ln.bs t)) := cells_at hn rfl
  have NM : Hid (_) := rname_any (Ln.bs t) (by rw [Ln.bs_size]; exact ht) X
  have HB : Hid (Below w.heap.size w X) := hB
  clear hn hB
  unfold Tr.textOk
  cases hb : Tr.bears k
  · simp only [Bool.false_eq_true, if_false]
    have BE : Hid (∀ w, Calls Try.prog 57 #[.int .u8 k] w fun e w' => e = .returned (.bool false) ∧ w' = w) := fun w => by have := rnamed_any k w; rwa [hb] at this
    clear NM
    by_cases h23 : k = 23
    · subst h23
      rw [if_pos rfl]
      have hT : (Ln.bs t).toList = t := by rw [Lib.toList_data]; rfl
      have HE : Hid (Below w.heap.size w X ∧ X.cell? ⟨w.heap.size, 0, none⟩ = some (.int .u8 23) ∧ X.cell? ⟨w.heap.size, 1, none⟩ = some (.string (Ln.bs t))) := ⟨HB.out, c0, c1⟩
      by_cases t1 : t = [45]
      · have q1 : (t == [45]) = true := by rw [t1]; rfl
        have r1 : (decide (t = [45]) || decide (t = [33])) = true := by rw [t1]; rfl
        rw [r1]
        clear t1 r1
        go_enter Try.func50, Try.ntmps50
        go_wp2_with fail
        rw [← hX]
        clear hX
        refine (BE.out X).mono ?_
        rintro e w1 ⟨rfl, rfl⟩
        go_wp2
        all_goals (go_ret; first | exact ⟨rfl, HB.out⟩ | (exfalso; simp_all; done))
      · have q1 : (t == [45]) = false := by simpa using t1
        have r1 : (decide (t = [45]) || decide (t = [33])) = (t == [33]) := by rw [decide_eq_false t1, Bool.false_or, Bool.eq_iff_iff]; simp
        rw [r1]
        clear t1 r1
        go_enter Try.func50, Try.ntmps50
        go_wp2_with fail
        rw [← hX]
        clear hX
        refine (BE.out X).mono ?_
        rintro e w1 ⟨rfl, rfl⟩
        go_wp2
        all_goals (go_ret; first | exact ⟨rfl, HB.out⟩ | (exfalso; simp_all; done) | (refine ⟨congrArg (fun b => Ending.returned (.bool b)) ?_, HB.out⟩; simp_all))
    · rw [if_neg h23]
      have d3 : decide (k = 23) = false := decide_eq_false h23
      by_cases h24 : k = 24
      · subst h24
        rw [if_pos rfl]
        obtain ⟨Y, hY⟩ : ∃ Y, Y = X.alloc (.cells #[.string ⟨#[124, 124]⟩, .string ⟨#[38, 38]⟩, .string ⟨#[61, 61]⟩, .string ⟨#[33, 61]⟩, .string ⟨#[60]⟩, .string ⟨#[60, 61]⟩, .string ⟨#[62]⟩, .string ⟨#[62, 61]⟩, .string ⟨#[43]⟩, .string ⟨#[45]⟩, .string ⟨#[42]⟩, .string ⟨#[47]⟩, .string ⟨#[37]⟩] 9) := ⟨_, rfl⟩
        have hr : RowLow Y.heap.size Y (.slice (some ⟨X.heap.size, 0, none⟩) 13 13) Tr.signs := by
          rw [hY]; exact CellsLow.lit X (Tr.signs.map txtV) 9 13
        obtain ⟨ra, rc, rb, ro, hre, -, hra, hrc⟩ := hr.parts
        obtain ⟨rfl, -⟩ := hra (by decide)
        have hbY : Below X.heap.size X Y := hY ▸ below_new X _
        have HBY : Hid (Below w.heap.size w Y) := below_then HB.out hbY
        have c1Y : Y.cell? ⟨w.heap.size, 1, none⟩ = some (.string (Ln.bs t)) := by
          have hlt : w.heap.size < X.heap.size := by rw [hX, World.size_alloc]; omega
          exact (World.cell?_of_block (w := X) (a := ⟨w.heap.size, 1, none⟩) (hbY.block _ hlt)).trans c1
        have ere : rb = X.heap.size ∧ ro = 0 := by cases hre; exact ⟨rfl, rfl⟩
        obtain ⟨rfl, rfl⟩ := ere
        have HRC : Hid (∀ (j : Nat) (x : List UInt8), Tr.signs[j]? = some x → Y.cell? ⟨X.heap.size, j, none⟩ = some (.string (Ln.bs x))) := fun j x hj => by
          have := hrc j x hj
          rwa [Nat.zero_add] at this
        obtain ⟨cc, hcc⟩ : ∃ c, c = Tr.signs.contains t := ⟨_, rfl⟩
        have HCC : Hid (cc = Tr.signs.contains t) := hcc
        rw [← hcc]
        clear hr hra hrc hre hbY hcc
        refine (callsIn_wide (n := 3)).1 ?_
        refine callsIn_of_wp Try.func50 rfl trivial ?_ rfl
        simp only [Try.ntmps50, List.size_toArray, List.length_cons, List.length_nil, Nat.reduceAdd, Nat.reduceSub, Array.replicate_succ, Array.replicate_zero, List.push_toArray, List.append_toArray, List.nil_append, List.cons_append]
        gi_wp2
        rw [← hX]
        clear hX
        refine ⟨trivial, ?_⟩
        refine (callsIn_wide.2 (BE.out X)).mono ?_
        rintro e w1 ⟨rfl, rfl⟩
        gi_wp2
        rw [← hY]
        clear hY
        gi_loopw [4] (fun i wr => ∃ (j d : Nat), j ≤ 13 ∧ i = .int .i64 j ∧ wr = Y.drewN d ∧ ∀ q, q < j → Tr.signs[q]? ≠ some t) (fun i _ => 13 - (intOf i).toNat)
        case atStart => exact ⟨0, 0, by omega, rfl, rfl, fun q h => absurd h (Nat.not_lt_zero _)⟩
        case round =>
          obtain ⟨j, d, hj, rfl, rfl, hall⟩ := hrel
          by_cases hlt : j < 13
          · obtain ⟨x, hx⟩ : ∃ x, Tr.signs[j]? = some x := ⟨Tr.signs[j]'hlt, List.getElem?_eq_getElem hlt⟩
            have cx := HRC.out j x hx
            have hj13 : (j : Int) < 13 := by omega
            have q0 : ((Ln.bs t).toList == (Ln.bs x).toList) = (t == x) := by rw [Lib.toList_data, Lib.toList_data]; rfl
            by_cases hE : t = x
            · have q1 : ((Ln.bs t).toList == (Ln.bs x).toList) = true := by rw [q0]; simpa using hE
              have hyes : Tr.signs.contains t = true := by
                rw [List.contains_iff_mem, hE]; exact List.mem_of_getElem? hx
              have HYS : Hid (cc = true) := HCC.out.trans hyes
              clear hall hE q0 hx hyes
              gi_wp2
              refine region_lex (fun z => z.cell? ⟨w.heap.size, 1, none⟩ = some (.string (Ln.bs t)) ∧ z.cell? ⟨w1.heap.size, j, none⟩ = some (.string (Ln.bs x))) 7 0 rfl (by kernel_rfl) (by kernel_rfl) (by kernel_rfl) (by kernel_rfl) (fun _ _ d _ _ h => by cases d <;> exact h) ⟨c1Y, cx⟩ ?_
              simp only [List.take_succ_cons, List.take_zero]
              iterate 7 (first
                | (apply lexC_want
                   · rfl
                   · exact fun _ => rfl
                   · (intro w' hw'; obtain ⟨a0, a1⟩ := hw'; go_simp; try rfl)
                   simp only [Act.put, List.setIfInBounds_toArray, List.set_cons_zero, List.set_cons_succ]))
              refine lexC_nil ?_
              refine anyC_done (by kernel_rfl) ?_
              gi_wp2
              go_ret
              have e9 := HYS.out
              subst e9
              exact ⟨rfl, below_then HBY.out (below_then (below_draw Y d) (below_draw _ 1))⟩
            · have q1 : ((Ln.bs t).toList == (Ln.bs x).toList) = false := by rw [q0]; simpa using hE
              have HA : Hid (∀ q, q < j + 1 → Tr.signs[q]? ≠ some t) := fun q hq e => by
                rcases Nat.lt_succ_iff_lt_or_eq.1 hq with h | h
                · exact hall q h e
                · subst h; rw [hx] at e; cases e; exact hE rfl
              clear hall hE q0 hx
              gi_wp2
              refine region_lex (fun z => z.cell? ⟨w.heap.size, 1, none⟩ = some (.string (Ln.bs t)) ∧ z.cell? ⟨w1.heap.size, j, none⟩ = some (.string (Ln.bs x))) 7 0 rfl (by kernel_rfl) (by kernel_rfl) (by kernel_rfl) (by kernel_rfl) (fun _ _ d _ _ h => by cases d <;> exact h) ⟨c1Y, cx⟩ ?_
              simp only [List.take_succ_cons, List.take_zero]
              iterate 7 (first
                | (apply lexC_want
                   · rfl
                   · exact fun _ => rfl
                   · (intro w' hw'; obtain ⟨a0, a1⟩ := hw'; go_simp; try rfl)
                   simp only [Act.put, List.setIfInBounds_toArray, List.set_cons_zero, List.set_cons_succ]))
              refine lexC_nil ?_
              refine anyC_done (by kernel_rfl) ?_
              gi_wp2
              refine ⟨⟨j + 1, d + 1, by omega, by simp, rfl, HA.out⟩, by simp [intOf]; omega⟩
          · have hj13 : j = 13 := by omega
            subst hj13
            have hno : Tr.signs.contains t = false := by
              rw [Bool.eq_false_iff]
              intro h
              rw [List.contains_iff_mem] at h
              obtain ⟨q, hq, e⟩ := List.getElem_of_mem h
              exact hall q hq (by rw [List.getElem?_eq_getElem hq, e])
            have HNO : Hid (cc = false) := HCC.out.trans hno
            clear hall hno
            gi_wp2
            go_ret
            have e9 := HNO.out
            subst e9
            exact ⟨rfl, below_then HBY.out (below_draw Y d)⟩
      · rw [if_neg h24]
        have d4 : decide (k = 24) = false := decide_eq_false h24
        have hT : (Ln.bs t).toList = t := by rw [Lib.toList_data]; rfl
        go_enter Try.func50, Try.ntmps50
        go_wp2_with fail
        rw [← hX]
        clear hX
        refine (BE.out X).mono ?_
        rintro e w1 ⟨rfl, rfl⟩
        go_wp2
        go_ret
        refine ⟨congrArg (fun b => Ending.returned (.bool b)) ?_, HB.out⟩
        cases t <;> rfl
  · have BE : Hid (∀ w, Calls Try.prog 57 #[.int .u8 k] w fun e w' => e = .returned (.bool true) ∧ w' = w) := fun w => by have := rnamed_any k w; rwa [hb] at this
    rw [if_pos rfl]
    go_enter Try.func50, Try.ntmps50
    go_wp2_with fail
    rw [← hX]
    clear hX
    refine (BE.out X).mono ?_
    rintro e w1 ⟨rfl, rfl⟩
    go_wp2_with fail
    refine Calls.mono NM.out ?_
    rintro e w2 ⟨rfl, hb2⟩
    have HB2 : Hid (Below w.heap.size w w2) := below_then HB.out hb2
    clear hb2
    go_wp2
    go_ret
    exact ⟨rfl, HB2.out⟩
end Go.Proofs.Ytejnleigjjaenaa

/-
  The walk of the law TreeSizes.
-/
namespace Go.Proofs.Ytejnleigjjaenaa
open Go.RowKit Go.Shelf

attribute [local go_sem] Oper.semAt_some

namespace Nm
theorem nodup_of {L : List (List UInt8)} (h : L.Pairwise (fun a b => a < b)) : L.Nodup := h.imp (fun h e => by subst e; exact List.lt_irrefl _ h)
/-- One more name: as many, or one more. -/
theorem uniq_more (x : Tr) : (uniq (Tr.namesL x.kids)).length ≤ (uniq (Tr.namesL [x])).length ∧ (uniq (Tr.namesL [x])).length ≤ (uniq (Tr.namesL x.kids)).length + 1 := by
  have e : Tr.namesL [x] = x.own ++ Tr.namesL x.kids := by rw [Tr.namesL_cons, Tr.namesL_nil, List.append_nil, Tr.names_eq]
  rw [e]
  unfold Tr.own
  split
  · by_cases hin : x.t ∈ Tr.namesL x.kids
    · have : uniq ([x.t] ++ Tr.namesL x.kids) = uniq (Tr.namesL x.kids) := uniq_ext (fun s => by
        simp only [List.singleton_append, List.mem_cons]
        exact ⟨fun h => h.elim (fun e => e ▸ hin) id, .inr⟩)
      rw [this]; omega
    · have hmem : x.t ∈ uniq ([x.t] ++ Tr.namesL x.kids) := (uniq_mem _ _).2 (by simp)
      have hr := uniq_rises ([x.t] ++ Tr.namesL x.kids)
      have : (uniq ([x.t] ++ Tr.namesL x.kids)).erase x.t = uniq (Tr.namesL x.kids) := by
        refine rises_ext _ _ (hr.sublist List.erase_sublist) (uniq_rises _) (fun s => ?_)
        rw [(nodup_of hr).mem_erase_iff, uniq_mem, uniq_mem]
        simp only [List.singleton_append, List.mem_cons]
        constructor
        · rintro ⟨h1, h2 | h2⟩
          · exact absurd h2 h1
          · exact h2
        · intro h
          exact ⟨fun e => hin (e ▸ h), .inr h⟩
      have hl := List.length_erase_of_mem hmem
      rw [this] at hl
      have : 0 < (uniq ([x.t] ++ Tr.namesL x.kids)).length := List.length_pos_of_mem hmem
      omega
  · rw [List.nil_append]; omega
end Nm

mutual
theorem names_len1 : ∀ x : Tr, x.names.length ≤ x.size
  | .mk k t n l => by
    rw [Tr.names_eq, Tr.size_eq, List.length_append]
    have h1 : (Tr.own (.mk k t n l)).length ≤ 1 := by unfold Tr.own; split <;> simp
    have h2 := names_len l
    show _ + (Tr.namesL l).length ≤ 1 + Tr.sizes l
    omega
theorem names_len : ∀ l : List Tr, (Tr.namesL l).length ≤ Tr.sizes l
  | [] => by simp [Tr.namesL_nil]
  | x :: l => by
    rw [Tr.namesL_cons, Tr.sizes_cons, List.length_append]
    have h1 := names_len1 x
    have h2 := names_len l
    omega
end

end Go.Proofs.Ytejnleigjjaenaa

/-
  Names put into a row that rises, one by one.
-/
namespace Go.Proofs.Ytejnleigjjaenaa

namespace Nm
theorem uniq_nil : uniq [] = [] := List.length_eq_zero_iff.1 (Nat.le_zero.1 (uniq_len []))
theorem uniq_old {X : List (List UInt8)} {s : List UInt8} (h : s ∈ uniq X) : uniq (X ++ [s]) = uniq X := uniq_ext (fun t => by
  rw [List.mem_append, List.mem_singleton]
  exact ⟨fun h1 => h1.elim id (fun e => e ▸ (uniq_mem X s).1 h), .inl⟩)
theorem ge_of (a b : List UInt8) (h : ¬ a < b) : b ≤ a := by simpa [List.not_lt] using h
theorem le_lt (a b c : List UInt8) (h : a ≤ b) (k : b < c) : a < c := by
  by_cases e : a = b
  · exact e ▸ k
  · exact List.lt_trans (lt_of a b h e) k
/-- A name that is new, put where it belongs. -/
theorem uniq_new {X : List (List UInt8)} {s : List UInt8} {a : Nat} (ha : a ≤ (uniq X).length) (h1 : ∀ q t, q < a → (uniq X)[q]? = some t → t < s) (h2 : ∀ t, (uniq X)[a]? = some t → ¬ t < s ∧ t ≠ s) : (uniq X).take a ++ s :: (uniq X).drop a = uniq (X ++ [s]) := by
  have hr := uniq_rises X
  have hsd : ∀ t ∈ (uniq X).drop a, s < t := fun t ht => by
    obtain ⟨i, hi, rfl⟩ := List.getElem_of_mem ht
    rw [List.getElem_drop]
    have hal : a < (uniq X).length := by rw [List.length_drop] at hi; omega
    obtain ⟨k1, k2⟩ := h2 _ (List.getElem?_eq_getElem hal)
    have h0 : s < (uniq X)[a] := lt_of _ _ (ge_of _ _ k1) (fun e => k2 e.symm)
    rcases Nat.eq_zero_or_pos i with rfl | hi0
    · exact h0
    · exact List.lt_trans h0 (List.pairwise_iff_getElem.1 hr a (a + i) hal (by rw [List.length_drop] at hi; omega) (by omega))
  have hts : ∀ t ∈ (uniq X).take a, t < s := fun t ht => by
    obtain ⟨i, hi, rfl⟩ := List.getElem_of_mem ht
    have hi' : i < a := by rw [List.length_take] at hi; omega
    exact h1 i _ hi' (by rw [List.getElem?_eq_getElem (by omega), List.getElem_take])
  refine rises_ext _ _ ?_ (uniq_rises _) (fun t => ?_)
  · rw [List.pairwise_append]
    refine ⟨hr.sublist (List.take_sublist _ _), List.pairwise_cons.2 ⟨hsd, hr.sublist (List.drop_sublist _ _)⟩, fun x hx y hy => ?_⟩
    rcases List.mem_cons.1 hy with rfl | hy
    · exact hts x hx
    · exact List.lt_trans (hts x hx) (hsd y hy)
  · rw [uniq_mem, List.mem_append, List.mem_cons, List.mem_append, List.mem_singleton, ← uniq_mem X t]
    conv => rhs; rw [← List.take_append_drop a (uniq X)]
    rw [List.mem_append]
    constructor
    · rintro (h | rfl | h)
      · exact .inl (.inl h)
      · exact .inr rfl
      · exact .inl (.inr h)
    · rintro ((h | h) | rfl)
      · exact .inl h
      · exact .inr (.inr h)
      · exact .inr (.inl rfl)
end Nm
end Go.Proofs.Ytejnleigjjaenaa

/-
  The walks of the document's names and Names: a row that rises, put into one by one.
-/
namespace Go.Proofs.Ytejnleigjjaenaa
open Go.RowKit Go.Shelf

attribute [local go_sem] Oper.semAt_some

/-- What stays: all below B, and all that is no row of texts. -/
def KeepU (B : Nat) (W W' : World) : Prop := Below B W W' ∧ ∀ (k : Nat) (c : Array Value) (t : TypeId) (fr : Nat × Nat), W.heap[k]? = some (.cells c t fr) → t ≠ 9 → W'.heap[k]? = some (.cells c t fr)
theorem KeepU.refl (B : Nat) (W : World) : KeepU B W W := ⟨Below.refl _ _, fun _ _ _ _ h _ => h⟩
theorem KeepU.trans {B : Nat} {W X Y : World} (h : KeepU B W X) (k : KeepU B X Y) : KeepU B W Y := ⟨h.1.trans k.1, fun j c t fr hj h1 => k.2 j c t fr (h.2 j c t fr hj h1) h1⟩
theorem KeepU.of_below {B : Nat} {W X : World} (h : Below W.heap.size W X) (hn : B ≤ W.heap.size) : KeepU B W X :=
  ⟨h.mono hn, fun j _ _ _ hj _ => (h.block j (Array.getElem?_eq_some_iff.1 hj).1).trans hj⟩
theorem KeepU.of_grown {B n : Nat} {W W' : World} {v : Value} {xs : List Value} (ho : W.ownsRow B 9 1 v n xs) (hg : W.grownBy W' v.ownBlock) (hn : B ≤ W.heap.size) : KeepU B W W' := by
  have hne : ∀ k, (∃ c t fr, W.heap[k]? = some (.cells c t fr) ∧ t ≠ 9) ∨ k < B → some k ≠ v.ownBlock := fun k hk e => by
    rcases ho.2 with ⟨rfl, _⟩ | ⟨g, cap, cur, rfl, hbg, hgb, _⟩
    · cases e
    · obtain rfl : k = g := by simpa [Value.ownBlock] using e
      rcases hk with ⟨c, t, fr, h1, h2⟩ | h
      · rw [h1] at hgb
        injection hgb with q
        injection q with _ q _
        exact h2 q
      · omega
  exact ⟨⟨hg.os, hg.tape, hg.output, hg.size, fun k hk => hg.block k (by omega) (hne k (.inr hk))⟩, fun k c t fr hj ht => (hg.block k (Array.getElem?_eq_some_iff.1 hj).1 (hne k (.inl ⟨c, t, fr, hj, ht⟩))).trans hj⟩
theorem KeepU.of_heap {B : Nat} {W X : World} (h : X.heap = W.heap) (h1 : X.os = W.os) (h2 : X.tape = W.tape) (h3 : X.output = W.output) : KeepU B W X := ⟨⟨h1, h2, h3, by rw [h]; exact Nat.le_refl _, fun _ _ => by rw [h]⟩, fun j _ _ _ hj _ => by rw [h]; exact hj⟩

/-- A text put into a row at a place: the steps. -/
theorem ins_rows {W : World} {B : Nat} {v : Value} {O : List (List UInt8)} {s : List UInt8} {a : Nat} (hown : W.ownsRow B 9 1 v O.length (O.map txtV)) (ha : a ≤ O.length) (hO : O.length ≤ 10000000) (hB : B ≤ W.heap.size) :
    ∃ v2 v3 Z2 v4 v5 Z3 v6 Z4, (∀ w, (Instr.slice 32 v (some (.int .i64 a)) none none).run Try.prog w = .ok v2 w) ∧
      (Builtin.append_ #[32, 32] 32 #[.slice (some ⟨W.heap.size, 0, none⟩) 0 0, v2]).run Try.prog (W.alloc (.cells #[] 9)) = .ok v3 Z2 ∧
      (∀ w, (Instr.slice 32 v none (some (.int .i64 a)) none).run Try.prog w = .ok v4 w) ∧
      (Builtin.append_ #[32, 32] 32 #[v4, .slice (some ⟨Z2.heap.size, 0, none⟩) 1 1]).run Try.prog (Z2.drew.alloc (.cells #[.string (Ln.bs s)] 9)) = .ok v5 Z3 ∧ (Builtin.append_ #[32, 32] 32 #[v5, v3]).run Try.prog Z3 = .ok v6 Z4 ∧
      Z4.ownsRow B 9 1 v6 (O.take a ++ s :: O.drop a).length ((O.take a ++ s :: O.drop a).map txtV) ∧ KeepU B W Z2 ∧ KeepU B W Z3 ∧ KeepU B W Z4 := by
  have lowO : RowLow W.heap.size W v O := RowLow.of_owns hown
  obtain ⟨v2, sr, lw2⟩ := slice_rest lowO ha
  have hb1 : Below W.heap.size W (W.alloc (.cells #[] 9)) := below_nw W _
  have hd0 : (W.alloc (.cells #[] 9)).ownsRow W.heap.size 9 1 (.slice (some ⟨W.heap.size, 0, none⟩) 0 0) 0 [] := World.ownsRow_lit W #[] 0 (Nat.le_refl _) (Nat.zero_le _) rfl
  obtain ⟨v3, Z2, hrun3, ow3, hg3⟩ := app_run W.heap.size _ _ 0 [] hd0 v2 (O.drop a) W.heap.size (lw2.below hb1 (Nat.le_refl _)) (by simp) (by simp; omega)
  have kt2' : KeepU W.heap.size (W.alloc (.cells #[] 9)) Z2 := KeepU.of_grown hd0 hg3 (by simp)
  have hs2 : W.heap.size ≤ Z2.heap.size := Nat.le_trans hb1.size hg3.size
  have hb2 : Below W.heap.size W Z2 := hb1.trans kt2'.1
  have kt2 : KeepU B W Z2 := KeepU.of_below hb2 hB
  have ow2 : Z2.drew.ownsRow B 9 1 v O.length (O.map txtV) := owns_below hown (below_drewN hb2 1)
  obtain ⟨v4, sf, ow4, hob⟩ := front_run ow2 ha
  have hbA : Below Z2.heap.size Z2.drew (Z2.drew.alloc (.cells #[.string (Ln.bs s)] 9)) := below_nw Z2.drew _
  have ow4A : (Z2.drew.alloc (.cells #[.string (Ln.bs s)] 9)).ownsRow B 9 1 v4 a ((O.map txtV).take a) := owns_below ow4 hbA
  have rl : RowLow (Z2.drew.alloc (.cells #[.string (Ln.bs s)] 9)).heap.size (Z2.drew.alloc (.cells #[.string (Ln.bs s)] 9)) (.slice (some ⟨Z2.heap.size, 0, none⟩) 1 1) [s] := CellsLow.lit Z2.drew [txtV s] 9 1
  have hsA : Z2.heap.size ≤ (Z2.drew.alloc (.cells #[.string (Ln.bs s)] 9)).heap.size := hbA.size
  obtain ⟨v5, Z3, hrun5, ow5, hg5⟩ := app_run B _ v4 a _ ow4A _ [s] _ rl (by omega) (by simp; omega)
  have kt5 : KeepU B (Z2.drew.alloc (.cells #[.string (Ln.bs s)] 9)) Z3 := KeepU.of_grown ow4A hg5 (by omega)
  have kt3 : KeepU B W Z3 := (kt2.trans (KeepU.of_below (W := Z2) ((below_drewN (Below.refl _ Z2) 1).trans hbA) (by omega))).trans kt5
  have hlt4 : ∀ q, v4.ownBlock = some q → q < W.heap.size := fun q hq => (hown.lt q (by rw [← hob]; exact hq)).2
  have ow3A : (Z2.drew.alloc (.cells #[.string (Ln.bs s)] 9)).ownsRow W.heap.size 9 1 v3 (0 + (O.drop a).length) ([] ++ (O.drop a).map txtV) := owns_below (owns_below ow3 (below_drewN (Below.refl _ Z2) 1)) hbA
  have ow3' : Z3.ownsRow W.heap.size 9 1 v3 (0 + (O.drop a).length) ([] ++ (O.drop a).map txtV) := ow3A.kept hg5 (by
    rcases ow3.2 with ⟨e, _⟩ | ⟨g', cap', cur', e, hg', _⟩
    · exact .inl (by rw [e]; rfl)
    · refine .inr (fun h => ?_)
      rw [e] at h
      have := hlt4 g' h.symm
      omega)
  have ow3'' : Z3.ownsRow W.heap.size 9 1 v3 (O.drop a).length ((O.drop a).map txtV) := by simpa using ow3'
  have hs3 : Z2.heap.size ≤ Z3.heap.size := Nat.le_trans hsA hg5.size
  obtain ⟨v6, Z4, hrun6, ow6, hg6⟩ := app_run B Z3 v5 (a + [s].length) _ ow5 v3 (O.drop a) Z3.heap.size (RowLow.of_owns ow3'') (by omega) (by simp; omega)
  have kt4 : KeepU B W Z4 := kt3.trans (KeepU.of_grown ow5 hg6 (by omega))
  refine ⟨v2, v3, Z2, v4, v5, Z3, v6, Z4, sr, hrun3, sf, hrun5, hrun6, ?_, kt2, kt3, kt4⟩
  have e1 : (O.take a ++ s :: O.drop a).length = a + [s].length + (O.drop a).length := by simp; omega
  have e2 : (O.take a ++ s :: O.drop a).map txtV = (O.map txtV).take a ++ [s].map txtV ++ (O.drop a).map txtV := by simp [List.map_take]
  rw [e1, e2]
  exact ow6

def RNamesAt (t : Tr) : Prop := ∀ (S : Nat → Prop) (B : Nat) (XS : List (List UInt8)) (v nv : Value) (w : World), (∀ b, S b → b < B) → B ≤ w.heap.size → NodeR S w nv t → w.ownsRow B 9 1 v (Nm.uniq XS).length ((Nm.uniq XS).map txtV) → XS.length + t.size ≤ 1000000 →
  Calls Try.prog 35 #[v, nv] w fun e w' => ∃ r, e = .returned r ∧ w'.ownsRow B 9 1 r (Nm.uniq (XS ++ t.names)).length ((Nm.uniq (XS ++ t.names)).map txtV) ∧ KeepU B w w'

set_option maxRecDepth 100000 in
set_option maxHeartbeats 8000000 in
theorem rnames_step (t : Tr) (ih : ∀ y ∈ t.kids, RNamesAt y) : RNamesAt t := by
  intro S B XS v nv w hS hBw hv hown hm
  obtain ⟨⟨k, tx, n, kv, kids⟩, rfl, rfl, hf, hr⟩ := hv
  obtain ⟨ka, kc, hkv⟩ := hr.slice
  simp only at hkv
  subst hkv
  simp only [N1.cells]
  have HIH : Hid (∀ y ∈ kids, RNamesAt y) := ih
  obtain ⟨X, hX⟩ : ∃ X, X = w.alloc (.cells #[.int .u8 k, .string (Ln.bs tx), .int .i64 n, .slice ka kids.length kc] 25) := ⟨_, rfl⟩
  have hB : Below w.heap.size w X := hX ▸ below_new w _
  have hXn : X.heap[w.heap.size]? = some (.cells #[.int .u8 k, .string (Ln.bs tx), .int .i64 n, .slice ka kids.length kc] 25 (0, 0)) := by rw [hX]; exact World.alloc_heap_new w _
  have hsX : X.heap.size = w.heap.size + 1 := by rw [hX, World.size_alloc]
  have HBX : Hid (Below B w X) := hB.mono hBw
  have HKX : Hid (KeepU B w X) := KeepU.of_below hB hBw
  obtain ⟨xs, xa, xc, xb, xo, ex, hxv, -, hxa, hxl, hx⟩ := hr.parts
  simp only at ex hxv hxa hxl
  cases hxv
  have HX : Hid (_) := hx
  have HSS : Hid ((∀ b, S b → b < B) ∧ B ≤ w.heap.size) := ⟨hS, hBw⟩
  have HBS : Hid (B ≤ X.heap.size) := by show B ≤ X.heap.size; omega
  have HEX : Hid (kids = xs.map N1.tr) := ex
  have hszk : (N1.tr ⟨k, tx, n, .slice ka kids.length kc, kids⟩).size = 1 + Tr.sizes kids := Tr.size_eq _
  rw [hszk] at hm
  have HSZ : Hid (XS.length + (1 + Tr.sizes kids) ≤ 1000000) := hm
  obtain ⟨U, hU⟩ : ∃ U, U = Nm.uniq XS := ⟨_, rfl⟩
  rw [← hU] at hown
  have HU : Hid (U = Nm.uniq XS) := hU
  obtain ⟨UL, hUL⟩ : ∃ n, n = U.length := ⟨_, rfl⟩
  have HUL : Hid (UL = U.length) := hUL
  have hu9 := Nm.uniq_len XS
  have HUL2 : Hid (U.length ≤ 10000000) := by show _ ≤ _; rw [hU]; omega
  have hUL3 : UL ≤ 10000000 := by rw [hUL, hU]; omega
  obtain ⟨va, vc, hvv⟩ := slice_shape hown
  have HOW : Hid (w.ownsRow B 9 1 v U.length (U.map txtV)) := hown
  rw [hvv, ← hUL] at HOW ⊢
  rw [hUL] at HOW
  have HRW : Hid (∀ d : Nat, (X.drewN d).ownsRow B 9 1 (.slice va U.length vc) U.length (U.map txtV)) := fun d => owns_below (owns_below HOW.out hB) (below_drewN (Below.refl _ X) d)
  rw [← hUL] at HRW
  have HCE : Hid (∀ (q : Nat) (x : List UInt8), U[q]? = some x → ∃ vb, va = some ⟨vb, 0, none⟩ ∧ X.cell? ⟨vb, q, none⟩ = some (.string (Ln.bs x))) := fun q x hq => by
    have hql := (List.getElem?_eq_some_iff.1 hq).1
    have h0 := owns_below HOW.out hB
    rcases h0.2 with ⟨_, h9⟩ | ⟨g, cap, cur, he, _⟩
    · omega
    · cases he
      refine ⟨g, rfl, ?_⟩
      rw [h0.cellAt q (by simpa using hql), List.getElem?_map, hq]
      rfl
  obtain ⟨N, hN⟩ : ∃ N, N = kids.length := ⟨_, rfl⟩
  have HN : Hid (N = kids.length) := hN
  have HNO : Hid ((Tr.bears k = false → Tr.names (N1.tr ⟨k, tx, n, .slice ka kids.length kc, kids⟩) = [] ++ Tr.namesL kids) ∧ (Tr.bears k = true → Tr.names (N1.tr ⟨k, tx, n, .slice ka kids.length kc, kids⟩) = [tx] ++ Tr.namesL kids)) := by
    refine ⟨fun h => ?_, fun h => ?_⟩
    · rw [Tr.names_eq]; unfold Tr.own; rw [show (N1.tr ⟨k, tx, n, .slice ka kids.length kc, kids⟩).k = k from rfl, h]; rfl
    · rw [Tr.names_eq]; unfold Tr.own; rw [show (N1.tr ⟨k, tx, n, .slice ka kids.length kc, kids⟩).k = k from rfl, h]; rfl
  have HNA : Hid (_) := rnamed_any k X
  obtain ⟨bO, hbO⟩ : ∃ b, b = Tr.bears k := ⟨_, rfl⟩
  rw [← hbO] at HNA HNO
  rw [← hN] at hX hXn hxa hxl HNO ⊢
  have HXN : Hid (X.heap[w.heap.size]? = some (.cells #[.int .u8 k, .string (Ln.bs tx), .int .i64 n, .slice ka N kc] 25 (0, 0))) := hXn
  have HX3 : Hid (X.heap[w.heap.size]? = some (.cells #[.int .u8 k, .string (Ln.bs tx), .int .i64 n, .slice ka N kc] 25 (0, 0)) ∧ True) := ⟨hXn, trivial⟩
  obtain ⟨NM, hNM⟩ : ∃ m, m = Tr.names (N1.tr ⟨k, tx, n, .slice ka N kc, kids⟩) := ⟨_, rfl⟩
  rw [← hNM]
  have HNM : Hid (NM = Tr.names (N1.tr ⟨k, tx, n, .slice ka N kc, kids⟩)) := hNM
  clear ih hf hr hB hXn hx ex hN hS hszk hm hU hUL hown hvv hbO hsX hu9 hBw hNM
  refine (callsIn_wide (n := 3)).1 ?_
  refine callsIn_of_wp Try.func35 rfl trivial ?_ rfl
  simp only [Try.ntmps35, List.size_toArray, List.length_cons, List.length_nil, Nat.reduceAdd, Nat.reduceSub, Array.replicate_succ, Array.replicate_zero, List.push_toArray, List.append_toArray, List.nil_append, List.cons_append]
  gi_wp2
  rw [← hX]
  clear hX
  refine ⟨trivial, ?_⟩
  refine (callsIn_wide.2 HNA.out).mono ?_
  rintro e w1 ⟨rfl, hw1⟩
  have hw2 := hw1.symm
  clear hw1
  subst hw2
  clear HNA

  cases bO
  · have HY : Hid (X.ownsRow B 9 1 (.slice va UL vc) (Nm.uniq (XS ++ [])).length ((Nm.uniq (XS ++ [])).map txtV) ∧ KeepU B X X) := by
      refine ⟨?_, KeepU.refl _ _⟩
      rw [List.append_nil, ← HU.out, ← HUL.out]
      exact HRW.out 0
    have HNE : Hid (Tr.names (N1.tr ⟨k, tx, n, .slice ka N kc, kids⟩) = [] ++ Tr.namesL kids) := HNO.out.1 rfl
    have HOL : Hid (([] : List (List UInt8)).length ≤ 1) := by show _ ≤ _; simp
    obtain ⟨rv, hrv⟩ : ∃ rv, rv = Value.slice va UL vc := ⟨_, rfl⟩
    rw [← hrv] at HY ⊢
    clear hrv
    have HST : Hid (X.ownsRow B 9 1 rv (Nm.uniq (XS ++ [])).length ((Nm.uniq (XS ++ [])).map txtV) ∧ KeepU B X X) := HY.out
    clear HY
    gi_wp2
    gi_loopw [0, 7] (fun rv i wr => ∃ q : Nat, q ≤ N ∧ i = .int .i64 q ∧ wr.ownsRow B 9 1 rv (Nm.uniq (XS ++ [] ++ Tr.namesL (kids.take q))).length ((Nm.uniq (XS ++ [] ++ Tr.namesL (kids.take q))).map txtV) ∧ KeepU B X wr) (fun _ i _ => N - (intOf i).toNat)
    case atStart => exact ⟨0, Nat.zero_le _, rfl, by simpa [Tr.namesL_nil] using HST.out.1, HST.out.2⟩
    case round =>
      clear HST
      obtain ⟨q, hq, rfl, hrow, hkt⟩ := hrel
      have hXs := HX3.out.2
      have c3 : wr.cell? ⟨w.heap.size, 3, none⟩ = some (.slice ka N kc) := cells_at (hkt.2 _ _ _ _ HX3.out.1 (by decide)) rfl
      by_cases hlt : q < N
      · obtain ⟨rfl, hSb⟩ := hxa (by omega)
        have hql : q < xs.length := by have := HN.out; rw [HEX.out, List.length_map] at this; omega
        obtain ⟨⟨zk, zt, zn, zv, zkids⟩, hzq⟩ : ∃ z, xs[q]? = some z := ⟨xs[q], List.getElem?_eq_getElem hql⟩
        obtain ⟨zf, zr, z0, z1, z2, z3⟩ := HX.out q _ hzq
        simp only at z0 z1 z2 z3 zr
        have hbB : Below B w wr := HBX.out.trans hkt.1
        have hxb : xb < B := HSS.out.1 xb hSb
        have tr : ∀ j u, w.cell? ⟨xb, j, none⟩ = some u → wr.cell? ⟨xb, j, none⟩ = some u := fun j u h => (World.cell?_of_block (w := w) (a := ⟨xb, j, none⟩) (hbB.block xb hxb)).trans h
        replace z0 := tr _ _ z0
        replace z1 := tr _ _ z1
        replace z2 := tr _ _ z2
        replace z3 := tr _ _ z3
        obtain ⟨za, zc, hzv⟩ := zr.slice
        subst hzv
        have hkq : kids[q]? = some (N1.tr ⟨zk, zt, zn, .slice za zkids.length zc, zkids⟩) := by rw [HEX.out, List.getElem?_map, hzq]; rfl
        have htk : Tr.namesL (kids.take (q + 1)) = Tr.namesL (kids.take q) ++ Tr.names (N1.tr ⟨zk, zt, zn, .slice za zkids.length zc, zkids⟩) := by
          rw [List.take_add_one, hkq, Tr.namesL_append]; simp [Tr.namesL_cons, Tr.namesL_nil]
        have hsz9 : (XS ++ [] ++ Tr.namesL (kids.take q)).length + Tr.size (N1.tr ⟨zk, zt, zn, .slice za zkids.length zc, zkids⟩) ≤ 1000000 := by
          have h1 := HSZ.out
          have h2 := names_len (kids.take q)
          have h3 : Tr.sizes (kids.take (q + 1)) = Tr.sizes (kids.take q) + Tr.size (N1.tr ⟨zk, zt, zn, .slice za zkids.length zc, zkids⟩) := by rw [List.take_add_one, hkq, Tr.sizes_append]; simp [Tr.sizes_cons, Tr.sizes_nil]
          have h4 : Tr.sizes (kids.take (q + 1)) + Tr.sizes (kids.drop (q + 1)) = Tr.sizes kids := by rw [← Tr.sizes_append, List.take_append_drop]
          have h5 := HOL.out
          simp only [List.length_append]
          omega
        obtain ⟨ra, rc, rfl⟩ := slice_shape hrow
        have HC : Hid (_) := HIH.out _ (List.mem_of_getElem? hkq) S B (XS ++ [] ++ Tr.namesL (kids.take q)) _ (.agg #[.int .u8 zk, .string (Ln.bs zt), .int .i64 zn, .slice za zkids.length zc]) wr HSS.out.1 (Nat.le_trans HSS.out.2 hbB.size) ⟨⟨zk, zt, zn, .slice za zkids.length zc, zkids⟩, rfl, rfl, zf, zr.keep (fun b hb => hbB.block b (HSS.out.1 b hb)) (fun _ h => h)⟩ hrow hsz9
        have HKT : Hid (KeepU B X wr) := hkt
        have HTK : Hid (XS ++ [] ++ Tr.namesL (kids.take q) ++ Tr.names (N1.tr ⟨zk, zt, zn, .slice za zkids.length zc, zkids⟩) = XS ++ [] ++ Tr.namesL (kids.take (q + 1))) := by rw [Hid, htk, List.append_assoc]
        obtain ⟨RL, hRL⟩ : ∃ L, L = (Nm.uniq (XS ++ [] ++ Tr.namesL (kids.take q))).length := ⟨_, rfl⟩
        rw [← hRL] at HC ⊢
        clear hrow hkt hbB tr zr zf hkq hzq htk hsz9 hRL
        gi_wp2
        refine ⟨trivial, ?_⟩
        refine (callsIn_wide.2 HC.out).mono ?_
        rintro e w2 ⟨r2, rfl, ho2, hk2⟩
        rw [HTK.out] at ho2
        have HE : Hid (w2.ownsRow B 9 1 r2 (Nm.uniq (XS ++ [] ++ Tr.namesL (kids.take (q + 1)))).length ((Nm.uniq (XS ++ [] ++ Tr.namesL (kids.take (q + 1)))).map txtV) ∧ KeepU B X w2) := ⟨ho2, HKT.out.trans hk2⟩
        clear ho2 hk2 HC HKT HTK z0 z1 z2 z3 c3
        gi_wp2
        refine ⟨⟨q + 1, by omega, by simp, HE.out.1, HE.out.2⟩, by simp [intOf]; omega⟩
      · have hqN : q = N := by omega
        subst hqN
        have HE : Hid (wr.ownsRow B 9 1 u0 (Nm.uniq (XS ++ ([] ++ Tr.namesL kids))).length ((Nm.uniq (XS ++ ([] ++ Tr.namesL kids))).map txtV) ∧ KeepU B w wr) := by
          refine ⟨?_, HKX.out.trans hkt⟩
          rw [HN.out, List.take_length, List.append_assoc] at hrow
          exact hrow
        clear hrow hkt
        gi_wp2
        go_ret
        refine ⟨_, rfl, ?_, HE.out.2⟩
        rw [HNM.out, HNE.out]
        exact HE.out.1

  have HNE : Hid (Tr.names (N1.tr ⟨k, tx, n, .slice ka N kc, kids⟩) = [tx] ++ Tr.namesL kids) := HNO.out.2 rfl
  have HOL : Hid (([tx] : List (List UInt8)).length ≤ 1) := by show _ ≤ _; simp
  gi_wp2
  gi_loopw [5] (fun i wr => ∃ (q d : Nat), q ≤ UL ∧ i = .int .i64 q ∧ wr = X.drewN d ∧ ∀ j t, j < q → U[j]? = some t → t < tx) (fun i _ => UL - (intOf i).toNat)
  case atStart => exact ⟨0, 0, Nat.zero_le _, rfl, rfl, fun j t h => absurd h (Nat.not_lt_zero _)⟩
  case round =>
    obtain ⟨q, d, hq, rfl, rfl, hall⟩ := hrel
    have e1 : X.cell? ⟨w.heap.size, 1, none⟩ = some (.string (Ln.bs tx)) := cells_at HXN.out rfl
    by_cases hlt : q < UL
    · obtain ⟨x, hx⟩ : ∃ x, U[q]? = some x := ⟨U[q]'(by have := HUL.out; omega), List.getElem?_eq_getElem _⟩
      obtain ⟨vb, rfl, hcx⟩ := HCE.out q x hx
      have hqI : (q : Int) < UL := by omega
      have less : Op.bytesLess (Ln.bs x).toList (Ln.bs tx).toList = decide (x < tx) := by rw [Lib.toList_data, Lib.toList_data, Nm.less_iff]; rfl
      by_cases hE : x < tx
      · have l1 : Op.bytesLess (Ln.bs x).toList (Ln.bs tx).toList = true := by rw [less]; exact decide_eq_true hE
        have HA : Hid (∀ j t, j < q + 1 → U[j]? = some t → t < tx) := fun j t hj ht => by
          rcases Nat.lt_succ_iff_lt_or_eq.1 hj with h | h
          · exact hall j t h ht
          · subst h; rw [hx] at ht; cases ht; exact hE
        clear hall hE less hx
        gi_wp2
        refine region_lex (fun z => z.cell? ⟨w.heap.size, 1, none⟩ = some (.string (Ln.bs tx)) ∧ z.cell? ⟨vb, q, none⟩ = some (.string (Ln.bs x))) 13 0 rfl (by kernel_rfl) (by kernel_rfl) (by kernel_rfl) (by kernel_rfl) (fun _ _ d _ _ h => by cases d <;> exact h) ⟨e1, hcx⟩ ?_
        simp only [List.take_succ_cons, List.take_zero]
        iterate 13 (first
          | (apply lexC_want
             · rfl
             · exact fun _ => rfl
             · (intro w' hw'; obtain ⟨a0, a1⟩ := hw'; go_simp; try rfl)
             simp only [Act.put, List.setIfInBounds_toArray, List.set_cons_zero, List.set_cons_succ])
          | (apply lexC_skip
             · rfl
             · exact fun _ => rfl
             simp only [Act.put, List.setIfInBounds_toArray, List.set_cons_zero, List.set_cons_succ]))
        refine lexC_nil ?_
        refine anyC_done (by kernel_rfl) ?_
        gi_wp2
        refine ⟨⟨q + 1, d + 1, by omega, by simp, rfl, HA.out⟩, by simp [intOf]; omega⟩
      · have l1 : Op.bytesLess (Ln.bs x).toList (Ln.bs tx).toList = false := by rw [less]; exact decide_eq_false hE
        have q0 : ((Ln.bs x).toList == (Ln.bs tx).toList) = (x == tx) := by rw [Lib.toList_data, Lib.toList_data]; rfl
        have dn : decide ((q : Int) = UL) = false := decide_eq_false (by omega)
        have dn2 : ((q : Int) == (UL : Int)) = false := by simpa using (by omega : ¬ ((q : Int) = UL))
        by_cases hX9 : x = tx
        · -- found
          have q1 : ((Ln.bs x).toList == (Ln.bs tx).toList) = true := by rw [q0]; simpa using hX9
          have HY0 : Hid (((X.drewN d).drew).drew.ownsRow B 9 1 (.slice (some ⟨vb, 0, none⟩) UL vc) (Nm.uniq (XS ++ [tx])).length ((Nm.uniq (XS ++ [tx])).map txtV) ∧ KeepU B X ((X.drewN d).drew).drew) := by
            have hin : tx ∈ Nm.uniq XS := by rw [← hX9, ← HU.out]; exact List.mem_of_getElem? hx
            rw [Hid, Nm.uniq_old hin, ← HU.out, ← HUL.out]
            exact ⟨HRW.out (d + 1 + 1), KeepU.of_heap rfl rfl rfl rfl⟩
          clear hall hE less hx q0 hX9
          gi_wp2
          refine region_lex (fun z => z.cell? ⟨w.heap.size, 1, none⟩ = some (.string (Ln.bs tx)) ∧ z.cell? ⟨vb, q, none⟩ = some (.string (Ln.bs x))) 13 0 rfl (by kernel_rfl) (by kernel_rfl) (by kernel_rfl) (by kernel_rfl) (fun _ _ d _ _ h => by cases d <;> exact h) ⟨e1, hcx⟩ ?_
          simp only [List.take_succ_cons, List.take_zero]
          iterate 13 (first
            | (apply lexC_want
               · rfl
               · exact fun _ => rfl
               · (intro w' hw'; obtain ⟨a0, a1⟩ := hw'; go_simp; try rfl)
               simp only [Act.put, List.setIfInBounds_toArray, List.set_cons_zero, List.set_cons_succ])
            | (apply lexC_skip
               · rfl
               · exact fun _ => rfl
               simp only [Act.put, List.setIfInBounds_toArray, List.set_cons_zero, List.set_cons_succ]))
          refine lexC_nil ?_
          refine anyC_done (by kernel_rfl) ?_
          gi_wp2
          refine region_lex (fun z => z.cell? ⟨w.heap.size, 1, none⟩ = some (.string (Ln.bs tx)) ∧ z.cell? ⟨vb, q, none⟩ = some (.string (Ln.bs x))) 13 0 rfl (by kernel_rfl) (by kernel_rfl) (by kernel_rfl) (by kernel_rfl) (fun _ _ d _ _ h => by cases d <;> exact h) ⟨e1, hcx⟩ ?_
          simp only [List.take_succ_cons, List.take_zero]
          iterate 13 (first
            | (apply lexC_want
               · rfl
               · exact fun _ => rfl
               · (intro w' hw'; obtain ⟨a0, a1⟩ := hw'; go_simp; try rfl)
               simp only [Act.put, List.setIfInBounds_toArray, List.set_cons_zero, List.set_cons_succ])
            | (apply lexC_skip
               · rfl
               · exact fun _ => rfl
               simp only [Act.put, List.setIfInBounds_toArray, List.set_cons_zero, List.set_cons_succ]))
          refine lexC_nil ?_
          refine anyC_done (by kernel_rfl) ?_
          obtain ⟨rv, hrv⟩ : ∃ rv, rv = Value.slice (some ⟨vb, 0, none⟩) UL vc := ⟨_, rfl⟩
          obtain ⟨Y, hY⟩ : ∃ Y, Y = ((X.drewN d).drew).drew := ⟨_, rfl⟩
          rw [← hrv, ← hY] at HY0
          have HY : Hid (_) := HY0.out
          clear HY0
          rw [← hrv, ← hY]
          clear hrv hY
          have HST : Hid (Y.ownsRow B 9 1 rv (Nm.uniq (XS ++ [tx])).length ((Nm.uniq (XS ++ [tx])).map txtV) ∧ KeepU B X Y) := HY.out
          clear HY
          gi_wp2
          gi_loopw [0, 7] (fun rv i wr => ∃ q : Nat, q ≤ N ∧ i = .int .i64 q ∧ wr.ownsRow B 9 1 rv (Nm.uniq (XS ++ [tx] ++ Tr.namesL (kids.take q))).length ((Nm.uniq (XS ++ [tx] ++ Tr.namesL (kids.take q))).map txtV) ∧ KeepU B X wr) (fun _ i _ => N - (intOf i).toNat)
          case atStart => exact ⟨0, Nat.zero_le _, rfl, by simpa [Tr.namesL_nil] using HST.out.1, HST.out.2⟩
          case round =>
            clear HST
            obtain ⟨q, hq, rfl, hrow, hkt⟩ := hrel
            have hXs := HX3.out.2
            have c3 : wr.cell? ⟨w.heap.size, 3, none⟩ = some (.slice ka N kc) := cells_at (hkt.2 _ _ _ _ HX3.out.1 (by decide)) rfl
            by_cases hlt : q < N
            · obtain ⟨rfl, hSb⟩ := hxa (by omega)
              have hql : q < xs.length := by have := HN.out; rw [HEX.out, List.length_map] at this; omega
              obtain ⟨⟨zk, zt, zn, zv, zkids⟩, hzq⟩ : ∃ z, xs[q]? = some z := ⟨xs[q], List.getElem?_eq_getElem hql⟩
              obtain ⟨zf, zr, z0, z1, z2, z3⟩ := HX.out q _ hzq
              simp only at z0 z1 z2 z3 zr
              have hbB : Below B w wr := HBX.out.trans hkt.1
              have hxb : xb < B := HSS.out.1 xb hSb
              have tr : ∀ j u, w.cell? ⟨xb, j, none⟩ = some u → wr.cell? ⟨xb, j, none⟩ = some u := fun j u h => (World.cell?_of_block (w := w) (a := ⟨xb, j, none⟩) (hbB.block xb hxb)).trans h
              replace z0 := tr _ _ z0
              replace z1 := tr _ _ z1
              replace z2 := tr _ _ z2
              replace z3 := tr _ _ z3
              obtain ⟨za, zc, hzv⟩ := zr.slice
              subst hzv
              have hkq : kids[q]? = some (N1.tr ⟨zk, zt, zn, .slice za zkids.length zc, zkids⟩) := by rw [HEX.out, List.getElem?_map, hzq]; rfl
              have htk : Tr.namesL (kids.take (q + 1)) = Tr.namesL (kids.take q) ++ Tr.names (N1.tr ⟨zk, zt, zn, .slice za zkids.length zc, zkids⟩) := by
                rw [List.take_add_one, hkq, Tr.namesL_append]; simp [Tr.namesL_cons, Tr.namesL_nil]
              have hsz9 : (XS ++ [tx] ++ Tr.namesL (kids.take q)).length + Tr.size (N1.tr ⟨zk, zt, zn, .slice za zkids.length zc, zkids⟩) ≤ 1000000 := by
                have h1 := HSZ.out
                have h2 := names_len (kids.take q)
                have h3 : Tr.sizes (kids.take (q + 1)) = Tr.sizes (kids.take q) + Tr.size (N1.tr ⟨zk, zt, zn, .slice za zkids.length zc, zkids⟩) := by rw [List.take_add_one, hkq, Tr.sizes_append]; simp [Tr.sizes_cons, Tr.sizes_nil]
                have h4 : Tr.sizes (kids.take (q + 1)) + Tr.sizes (kids.drop (q + 1)) = Tr.sizes kids := by rw [← Tr.sizes_append, List.take_append_drop]
                have h5 := HOL.out
                simp only [List.length_append]
                omega
              obtain ⟨ra, rc, rfl⟩ := slice_shape hrow
              have HC : Hid (_) := HIH.out _ (List.mem_of_getElem? hkq) S B (XS ++ [tx] ++ Tr.namesL (kids.take q)) _ (.agg #[.int .u8 zk, .string (Ln.bs zt), .int .i64 zn, .slice za zkids.length zc]) wr HSS.out.1 (Nat.le_trans HSS.out.2 hbB.size) ⟨⟨zk, zt, zn, .slice za zkids.length zc, zkids⟩, rfl, rfl, zf, zr.keep (fun b hb => hbB.block b (HSS.out.1 b hb)) (fun _ h => h)⟩ hrow hsz9
              have HKT : Hid (KeepU B X wr) := hkt
              have HTK : Hid (XS ++ [tx] ++ Tr.namesL (kids.take q) ++ Tr.names (N1.tr ⟨zk, zt, zn, .slice za zkids.length zc, zkids⟩) = XS ++ [tx] ++ Tr.namesL (kids.take (q + 1))) := by rw [Hid, htk, List.append_assoc]
              obtain ⟨RL, hRL⟩ : ∃ L, L = (Nm.uniq (XS ++ [tx] ++ Tr.namesL (kids.take q))).length := ⟨_, rfl⟩
              rw [← hRL] at HC ⊢
              clear hrow hkt hbB tr zr zf hkq hzq htk hsz9 hRL
              gi_wp2
              refine ⟨trivial, ?_⟩
              refine (callsIn_wide.2 HC.out).mono ?_
              rintro e w2 ⟨r2, rfl, ho2, hk2⟩
              rw [HTK.out] at ho2
              have HE : Hid (w2.ownsRow B 9 1 r2 (Nm.uniq (XS ++ [tx] ++ Tr.namesL (kids.take (q + 1)))).length ((Nm.uniq (XS ++ [tx] ++ Tr.namesL (kids.take (q + 1)))).map txtV) ∧ KeepU B X w2) := ⟨ho2, HKT.out.trans hk2⟩
              clear ho2 hk2 HC HKT HTK z0 z1 z2 z3 c3
              gi_wp2
              refine ⟨⟨q + 1, by omega, by simp, HE.out.1, HE.out.2⟩, by simp [intOf]; omega⟩
            · have hqN : q = N := by omega
              subst hqN
              have HE : Hid (wr.ownsRow B 9 1 u0 (Nm.uniq (XS ++ ([tx] ++ Tr.namesL kids))).length ((Nm.uniq (XS ++ ([tx] ++ Tr.namesL kids))).map txtV) ∧ KeepU B w wr) := by
                refine ⟨?_, HKX.out.trans hkt⟩
                rw [HN.out, List.take_length, List.append_assoc] at hrow
                exact hrow
              clear hrow hkt
              gi_wp2
              go_ret
              refine ⟨_, rfl, ?_, HE.out.2⟩
              rw [HNM.out, HNE.out]
              exact HE.out.1
        · -- another one
          have q1 : ((Ln.bs x).toList == (Ln.bs tx).toList) = false := by rw [q0]; simpa using hX9
          have HINS : Hid (U.take q ++ tx :: U.drop q = Nm.uniq (XS ++ [tx])) := by
            rw [Hid, HU.out]
            refine Nm.uniq_new (by rw [← HU.out]; have := HUL.out; omega) (fun j t hj ht => hall j t hj (by rw [HU.out]; exact ht)) (fun t ht => ?_)
            rw [← HU.out, hx] at ht
            cases ht
            exact ⟨hE, hX9⟩
          clear hall hE less hx q0 hX9
          gi_wp2
          refine region_lex (fun z => z.cell? ⟨w.heap.size, 1, none⟩ = some (.string (Ln.bs tx)) ∧ z.cell? ⟨vb, q, none⟩ = some (.string (Ln.bs x))) 13 0 rfl (by kernel_rfl) (by kernel_rfl) (by kernel_rfl) (by kernel_rfl) (fun _ _ d _ _ h => by cases d <;> exact h) ⟨e1, hcx⟩ ?_
          simp only [List.take_succ_cons, List.take_zero]
          iterate 13 (first
            | (apply lexC_want
               · rfl
               · exact fun _ => rfl
               · (intro w' hw'; obtain ⟨a0, a1⟩ := hw'; go_simp; try rfl)
               simp only [Act.put, List.setIfInBounds_toArray, List.set_cons_zero, List.set_cons_succ])
            | (apply lexC_skip
               · rfl
               · exact fun _ => rfl
               simp only [Act.put, List.setIfInBounds_toArray, List.set_cons_zero, List.set_cons_succ]))
          refine lexC_nil ?_
          refine anyC_done (by kernel_rfl) ?_
          gi_wp2
          refine region_lex (fun z => z.cell? ⟨w.heap.size, 1, none⟩ = some (.string (Ln.bs tx)) ∧ z.cell? ⟨vb, q, none⟩ = some (.string (Ln.bs x))) 13 0 rfl (by kernel_rfl) (by kernel_rfl) (by kernel_rfl) (by kernel_rfl) (fun _ _ d _ _ h => by cases d <;> exact h) ⟨e1, hcx⟩ ?_
          simp only [List.take_succ_cons, List.take_zero]
          iterate 13 (first
            | (apply lexC_want
               · rfl
               · exact fun _ => rfl
               · (intro w' hw'; obtain ⟨a0, a1⟩ := hw'; go_simp; try rfl)
               simp only [Act.put, List.setIfInBounds_toArray, List.set_cons_zero, List.set_cons_succ])
            | (apply lexC_skip
               · rfl
               · exact fun _ => rfl
               simp only [Act.put, List.setIfInBounds_toArray, List.set_cons_zero, List.set_cons_succ]))
          refine lexC_nil ?_
          refine anyC_done (by kernel_rfl) ?_
          -- put in
          obtain ⟨v2, v3, Z2, v4, v5, Z3, v6, Z4, sr, hrun3, sf, hrun5, hrun6, ow6, kt2, kt3, kt4⟩ := ins_rows (W := (X.drewN d).drew.drew) (O := U) (s := tx) (a := q) (by rw [← HUL.out]; exact HRW.out (d + 1 + 1)) (by have := HUL.out; omega) HUL2.out HBS.out
          have c2 : Z2.cell? ⟨w.heap.size, 1, none⟩ = some (.string (Ln.bs tx)) := cells_at (kt2.2 _ _ _ _ HXN.out (by decide)) rfl
          have c2A : (Z2.drew.alloc (.cells #[.string (Ln.bs tx)] 9)).cell? ⟨w.heap.size, 1, none⟩ = some (.string (Ln.bs tx)) := ((below_nw Z2.drew _).cell (p := ⟨w.heap.size, 1, none⟩) (by simpa using World.block_lt_of_cell? _ _ c2)).trans c2
          have c3 : Z3.cell? ⟨w.heap.size, 1, none⟩ = some (.string (Ln.bs tx)) := cells_at (kt3.2 _ _ _ _ HXN.out (by decide)) rfl
          have c4 : Z4.cell? ⟨w.heap.size, 1, none⟩ = some (.string (Ln.bs tx)) := cells_at (kt4.2 _ _ _ _ HXN.out (by decide)) rfl
          have HNEW : Hid (Z4.ownsRow B 9 1 v6 (Nm.uniq (XS ++ [tx])).length ((Nm.uniq (XS ++ [tx])).map txtV) ∧ KeepU B X Z4) := by
            rw [HINS.out] at ow6
            exact ⟨ow6, (KeepU.of_heap (W := X) (X := (X.drewN d).drew.drew) rfl rfl rfl rfl).trans kt4⟩
          clear ow6 kt2 kt3 kt4
          gi_wp2_with (gi_at_builtin; refine list_append rfl _ _ 32 rfl _ _ _ _ rfl rfl hrun3 ?_)
          refine region_lex (fun z => z.cell? ⟨w.heap.size, 1, none⟩ = some (.string (Ln.bs tx))) 5 5 rfl (by kernel_rfl) (by kernel_rfl) (by kernel_rfl) (by kernel_rfl) (fun _ _ d _ _ h => by cases d <;> exact h) c2 ?_
          simp only [List.take_succ_cons, List.take_zero]
          iterate 5 (first
            | (apply lexC_want
               · rfl
               · exact fun _ => rfl
               · (intro w' hw'; go_simp; try rfl)
               simp only [Act.put, List.setIfInBounds_toArray, List.set_cons_zero, List.set_cons_succ]))
          refine lexC_nil ?_
          refine anyC_take (i := 7) rfl rfl (by kernel_rfl) (by kernel_rfl) (by kernel_rfl) (fun _ _ d _ _ h => by cases d <;> exact h) c2 (by rfl) (fun _ => rfl) (fun _ _ => rfl) ?_
          simp only [Act.put, List.setIfInBounds_toArray]
          refine anyC_one (i := 5) (by kernel_rfl) rfl (by rfl) (fun K1 hK1 => ?_)
          go_simp
          refine hK1 _ _ c2A ?_
          clear hK1
          refine anyC_one (i := 6) (by kernel_rfl) rfl (by rfl) (fun K2 hK2 => ?_)
          refine op_append _ _ 32 rfl _ _ _ _ rfl rfl hrun5 (hK2 _ _ c3 ?_)
          clear hK2
          refine anyC_one (i := 8) (by kernel_rfl) rfl (by rfl) (fun K3 hK3 => ?_)
          refine op_append _ _ 32 rfl _ _ _ _ rfl rfl hrun6 (hK3 _ _ c4 ?_)
          clear hK3
          refine anyC_one (i := 9) (by kernel_rfl) rfl (by rfl) (fun K4 hK4 => ?_)
          go_simp
          refine hK4 _ _ c4 ?_
          clear hK4
          refine anyC_done (by kernel_rfl) ?_
          clear hrun3 hrun5 hrun6 sr sf c2 c2A c3 c4
          obtain ⟨rv, hrv⟩ : ∃ rv, rv = v6 := ⟨_, rfl⟩
          obtain ⟨Y, hY⟩ : ∃ Y, Y = Z4 := ⟨_, rfl⟩
          subst hrv
          subst hY
          have HY : Hid (_) := HNEW.out
          clear HNEW
          have HST : Hid (Y.ownsRow B 9 1 rv (Nm.uniq (XS ++ [tx])).length ((Nm.uniq (XS ++ [tx])).map txtV) ∧ KeepU B X Y) := HY.out
          clear HY
          gi_wp2
          gi_loopw [0, 7] (fun rv i wr => ∃ q : Nat, q ≤ N ∧ i = .int .i64 q ∧ wr.ownsRow B 9 1 rv (Nm.uniq (XS ++ [tx] ++ Tr.namesL (kids.take q))).length ((Nm.uniq (XS ++ [tx] ++ Tr.namesL (kids.take q))).map txtV) ∧ KeepU B X wr) (fun _ i _ => N - (intOf i).toNat)
          case atStart => exact ⟨0, Nat.zero_le _, rfl, by simpa [Tr.namesL_nil] using HST.out.1, HST.out.2⟩
          case round =>
            clear HST
            obtain ⟨q, hq, rfl, hrow, hkt⟩ := hrel
            have hXs := HX3.out.2
            have c3 : wr.cell? ⟨w.heap.size, 3, none⟩ = some (.slice ka N kc) := cells_at (hkt.2 _ _ _ _ HX3.out.1 (by decide)) rfl
            by_cases hlt : q < N
            · obtain ⟨rfl, hSb⟩ := hxa (by omega)
              have hql : q < xs.length := by have := HN.out; rw [HEX.out, List.length_map] at this; omega
              obtain ⟨⟨zk, zt, zn, zv, zkids⟩, hzq⟩ : ∃ z, xs[q]? = some z := ⟨xs[q], List.getElem?_eq_getElem hql⟩
              obtain ⟨zf, zr, z0, z1, z2, z3⟩ := HX.out q _ hzq
              simp only at z0 z1 z2 z3 zr
              have hbB : Below B w wr := HBX.out.trans hkt.1
              have hxb : xb < B := HSS.out.1 xb hSb
              have tr : ∀ j u, w.cell? ⟨xb, j, none⟩ = some u → wr.cell? ⟨xb, j, none⟩ = some u := fun j u h => (World.cell?_of_block (w := w) (a := ⟨xb, j, none⟩) (hbB.block xb hxb)).trans h
              replace z0 := tr _ _ z0
              replace z1 := tr _ _ z1
              replace z2 := tr _ _ z2
              replace z3 := tr _ _ z3
              obtain ⟨za, zc, hzv⟩ := zr.slice
              subst hzv
              have hkq : kids[q]? = some (N1.tr ⟨zk, zt, zn, .slice za zkids.length zc, zkids⟩) := by rw [HEX.out, List.getElem?_map, hzq]; rfl
              have htk : Tr.namesL (kids.take (q + 1)) = Tr.namesL (kids.take q) ++ Tr.names (N1.tr ⟨zk, zt, zn, .slice za zkids.length zc, zkids⟩) := by
                rw [List.take_add_one, hkq, Tr.namesL_append]; simp [Tr.namesL_cons, Tr.namesL_nil]
              have hsz9 : (XS ++ [tx] ++ Tr.namesL (kids.take q)).length + Tr.size (N1.tr ⟨zk, zt, zn, .slice za zkids.length zc, zkids⟩) ≤ 1000000 := by
                have h1 := HSZ.out
                have h2 := names_len (kids.take q)
                have h3 : Tr.sizes (kids.take (q + 1)) = Tr.sizes (kids.take q) + Tr.size (N1.tr ⟨zk, zt, zn, .slice za zkids.length zc, zkids⟩) := by rw [List.take_add_one, hkq, Tr.sizes_append]; simp [Tr.sizes_cons, Tr.sizes_nil]
                have h4 : Tr.sizes (kids.take (q + 1)) + Tr.sizes (kids.drop (q + 1)) = Tr.sizes kids := by rw [← Tr.sizes_append, List.take_append_drop]
                have h5 := HOL.out
                simp only [List.length_append]
                omega
              obtain ⟨ra, rc, rfl⟩ := slice_shape hrow
              have HC : Hid (_) := HIH.out _ (List.mem_of_getElem? hkq) S B (XS ++ [tx] ++ Tr.namesL (kids.take q)) _ (.agg #[.int .u8 zk, .string (Ln.bs zt), .int .i64 zn, .slice za zkids.length zc]) wr HSS.out.1 (Nat.le_trans HSS.out.2 hbB.size) ⟨⟨zk, zt, zn, .slice za zkids.length zc, zkids⟩, rfl, rfl, zf, zr.keep (fun b hb => hbB.block b (HSS.out.1 b hb)) (fun _ h => h)⟩ hrow hsz9
              have HKT : Hid (KeepU B X wr) := hkt
              have HTK : Hid (XS ++ [tx] ++ Tr.namesL (kids.take q) ++ Tr.names (N1.tr ⟨zk, zt, zn, .slice za zkids.length zc, zkids⟩) = XS ++ [tx] ++ Tr.namesL (kids.take (q + 1))) := by rw [Hid, htk, List.append_assoc]
              obtain ⟨RL, hRL⟩ : ∃ L, L = (Nm.uniq (XS ++ [tx] ++ Tr.namesL (kids.take q))).length := ⟨_, rfl⟩
              rw [← hRL] at HC ⊢
              clear hrow hkt hbB tr zr zf hkq hzq htk hsz9 hRL
              gi_wp2
              refine ⟨trivial, ?_⟩
              refine (callsIn_wide.2 HC.out).mono ?_
              rintro e w2 ⟨r2, rfl, ho2, hk2⟩
              rw [HTK.out] at ho2
              have HE : Hid (w2.ownsRow B 9 1 r2 (Nm.uniq (XS ++ [tx] ++ Tr.namesL (kids.take (q + 1)))).length ((Nm.uniq (XS ++ [tx] ++ Tr.namesL (kids.take (q + 1)))).map txtV) ∧ KeepU B X w2) := ⟨ho2, HKT.out.trans hk2⟩
              clear ho2 hk2 HC HKT HTK z0 z1 z2 z3 c3
              gi_wp2
              refine ⟨⟨q + 1, by omega, by simp, HE.out.1, HE.out.2⟩, by simp [intOf]; omega⟩
            · have hqN : q = N := by omega
              subst hqN
              have HE : Hid (wr.ownsRow B 9 1 u0 (Nm.uniq (XS ++ ([tx] ++ Tr.namesL kids))).length ((Nm.uniq (XS ++ ([tx] ++ Tr.namesL kids))).map txtV) ∧ KeepU B w wr) := by
                refine ⟨?_, HKX.out.trans hkt⟩
                rw [HN.out, List.take_length, List.append_assoc] at hrow
                exact hrow
              clear hrow hkt
              gi_wp2
              go_ret
              refine ⟨_, rfl, ?_, HE.out.2⟩
              rw [HNM.out, HNE.out]
              exact HE.out.1
    · have hqe : q = UL := by omega
      subst hqe
      have dn : decide ((q : Int) = q) = true := decide_eq_true rfl
      have dn2 : ((q : Int) == (q : Int)) = true := by simp
      have dl : decide ((q : Int) < q) = false := decide_eq_false (by omega)
      have HINS : Hid (U.take q ++ tx :: U.drop q = Nm.uniq (XS ++ [tx])) := by
        rw [Hid, HU.out]
        refine Nm.uniq_new (by rw [← HU.out]; have := HUL.out; omega) (fun j t hj ht => hall j t hj (by rw [HU.out]; exact ht)) (fun t ht => ?_)
        rw [← HU.out, List.getElem?_eq_none (by have := HUL.out; omega)] at ht
        cases ht
      clear hall
      gi_wp2
      refine region_lex (fun z => z.cell? ⟨w.heap.size, 1, none⟩ = some (.string (Ln.bs tx)) ∧ True) 13 0 rfl (by kernel_rfl) (by kernel_rfl) (by kernel_rfl) (by kernel_rfl) (fun _ _ d _ _ h => by cases d <;> exact h) ⟨e1, trivial⟩ ?_
      simp only [List.take_succ_cons, List.take_zero]
      iterate 13 (first
        | (apply lexC_want
           · rfl
           · exact fun _ => rfl
           · (intro w' hw'; obtain ⟨a0, a1⟩ := hw'; go_simp; try rfl)
           simp only [Act.put, List.setIfInBounds_toArray, List.set_cons_zero, List.set_cons_succ])
        | (apply lexC_skip
           · rfl
           · exact fun _ => rfl
           simp only [Act.put, List.setIfInBounds_toArray, List.set_cons_zero, List.set_cons_succ]))
      refine lexC_nil ?_
      refine anyC_done (by kernel_rfl) ?_
      gi_wp2
      refine region_lex (fun z => z.cell? ⟨w.heap.size, 1, none⟩ = some (.string (Ln.bs tx)) ∧ True) 13 0 rfl (by kernel_rfl) (by kernel_rfl) (by kernel_rfl) (by kernel_rfl) (fun _ _ d _ _ h => by cases d <;> exact h) ⟨e1, trivial⟩ ?_
      simp only [List.take_succ_cons, List.take_zero]
      iterate 13 (first
        | (apply lexC_want
           · rfl
           · exact fun _ => rfl
           · (intro w' hw'; obtain ⟨a0, a1⟩ := hw'; go_simp; try rfl)
           simp only [Act.put, List.setIfInBounds_toArray, List.set_cons_zero, List.set_cons_succ])
        | (apply lexC_skip
           · rfl
           · exact fun _ => rfl
           simp only [Act.put, List.setIfInBounds_toArray, List.set_cons_zero, List.set_cons_succ]))
      refine lexC_nil ?_
      refine anyC_done (by kernel_rfl) ?_
      -- put in
      obtain ⟨v2, v3, Z2, v4, v5, Z3, v6, Z4, sr, hrun3, sf, hrun5, hrun6, ow6, kt2, kt3, kt4⟩ := ins_rows (W := (X.drewN d).drew.drew) (O := U) (s := tx) (a := q) (by rw [← HUL.out]; exact HRW.out (d + 1 + 1)) (by have := HUL.out; omega) HUL2.out HBS.out
      have c2 : Z2.cell? ⟨w.heap.size, 1, none⟩ = some (.string (Ln.bs tx)) := cells_at (kt2.2 _ _ _ _ HXN.out (by decide)) rfl
      have c2A : (Z2.drew.alloc (.cells #[.string (Ln.bs tx)] 9)).cell? ⟨w.heap.size, 1, none⟩ = some (.string (Ln.bs tx)) := ((below_nw Z2.drew _).cell (p := ⟨w.heap.size, 1, none⟩) (by simpa using World.block_lt_of_cell? _ _ c2)).trans c2
      have c3 : Z3.cell? ⟨w.heap.size, 1, none⟩ = some (.string (Ln.bs tx)) := cells_at (kt3.2 _ _ _ _ HXN.out (by decide)) rfl
      have c4 : Z4.cell? ⟨w.heap.size, 1, none⟩ = some (.string (Ln.bs tx)) := cells_at (kt4.2 _ _ _ _ HXN.out (by decide)) rfl
      have HNEW : Hid (Z4.ownsRow B 9 1 v6 (Nm.uniq (XS ++ [tx])).length ((Nm.uniq (XS ++ [tx])).map txtV) ∧ KeepU B X Z4) := by
        rw [HINS.out] at ow6
        exact ⟨ow6, (KeepU.of_heap (W := X) (X := (X.drewN d).drew.drew) rfl rfl rfl rfl).trans kt4⟩
      clear ow6 kt2 kt3 kt4
      gi_wp2_with (gi_at_builtin; refine list_append rfl _ _ 32 rfl _ _ _ _ rfl rfl hrun3 ?_)
      refine region_lex (fun z => z.cell? ⟨w.heap.size, 1, none⟩ = some (.string (Ln.bs tx))) 5 5 rfl (by kernel_rfl) (by kernel_rfl) (by kernel_rfl) (by kernel_rfl) (fun _ _ d _ _ h => by cases d <;> exact h) c2 ?_
      simp only [List.take_succ_cons, List.take_zero]
      iterate 5 (first
        | (apply lexC_want
           · rfl
           · exact fun _ => rfl
           · (intro w' hw'; go_simp; try rfl)
           simp only [Act.put, List.setIfInBounds_toArray, List.set_cons_zero, List.set_cons_succ]))
      refine lexC_nil ?_
      refine anyC_take (i := 7) rfl rfl (by kernel_rfl) (by kernel_rfl) (by kernel_rfl) (fun _ _ d _ _ h => by cases d <;> exact h) c2 (by rfl) (fun _ => rfl) (fun _ _ => rfl) ?_
      simp only [Act.put, List.setIfInBounds_toArray]
      refine anyC_one (i := 5) (by kernel_rfl) rfl (by rfl) (fun K1 hK1 => ?_)
      go_simp
      refine hK1 _ _ c2A ?_
      clear hK1
      refine anyC_one (i := 6) (by kernel_rfl) rfl (by rfl) (fun K2 hK2 => ?_)
      refine op_append _ _ 32 rfl _ _ _ _ rfl rfl hrun5 (hK2 _ _ c3 ?_)
      clear hK2
      refine anyC_one (i := 8) (by kernel_rfl) rfl (by rfl) (fun K3 hK3 => ?_)
      refine op_append _ _ 32 rfl _ _ _ _ rfl rfl hrun6 (hK3 _ _ c4 ?_)
      clear hK3
      refine anyC_one (i := 9) (by kernel_rfl) rfl (by rfl) (fun K4 hK4 => ?_)
      go_simp
      refine hK4 _ _ c4 ?_
      clear hK4
      refine anyC_done (by kernel_rfl) ?_
      clear hrun3 hrun5 hrun6 sr sf c2 c2A c3 c4
      obtain ⟨rv, hrv⟩ : ∃ rv, rv = v6 := ⟨_, rfl⟩
      obtain ⟨Y, hY⟩ : ∃ Y, Y = Z4 := ⟨_, rfl⟩
      subst hrv
      subst hY
      have HY : Hid (_) := HNEW.out
      clear HNEW
      have HST : Hid (Y.ownsRow B 9 1 rv (Nm.uniq (XS ++ [tx])).length ((Nm.uniq (XS ++ [tx])).map txtV) ∧ KeepU B X Y) := HY.out
      clear HY
      gi_wp2
      gi_loopw [0, 7] (fun rv i wr => ∃ q : Nat, q ≤ N ∧ i = .int .i64 q ∧ wr.ownsRow B 9 1 rv (Nm.uniq (XS ++ [tx] ++ Tr.namesL (kids.take q))).length ((Nm.uniq (XS ++ [tx] ++ Tr.namesL (kids.take q))).map txtV) ∧ KeepU B X wr) (fun _ i _ => N - (intOf i).toNat)
      case atStart => exact ⟨0, Nat.zero_le _, rfl, by simpa [Tr.namesL_nil] using HST.out.1, HST.out.2⟩
      case round =>
        clear HST
        obtain ⟨q, hq, rfl, hrow, hkt⟩ := hrel
        have hXs := HX3.out.2
        have c3 : wr.cell? ⟨w.heap.size, 3, none⟩ = some (.slice ka N kc) := cells_at (hkt.2 _ _ _ _ HX3.out.1 (by decide)) rfl
        by_cases hlt : q < N
        · obtain ⟨rfl, hSb⟩ := hxa (by omega)
          have hql : q < xs.length := by have := HN.out; rw [HEX.out, List.length_map] at this; omega
          obtain ⟨⟨zk, zt, zn, zv, zkids⟩, hzq⟩ : ∃ z, xs[q]? = some z := ⟨xs[q], List.getElem?_eq_getElem hql⟩
          obtain ⟨zf, zr, z0, z1, z2, z3⟩ := HX.out q _ hzq
          simp only at z0 z1 z2 z3 zr
          have hbB : Below B w wr := HBX.out.trans hkt.1
          have hxb : xb < B := HSS.out.1 xb hSb
          have tr : ∀ j u, w.cell? ⟨xb, j, none⟩ = some u → wr.cell? ⟨xb, j, none⟩ = some u := fun j u h => (World.cell?_of_block (w := w) (a := ⟨xb, j, none⟩) (hbB.block xb hxb)).trans h
          replace z0 := tr _ _ z0
          replace z1 := tr _ _ z1
          replace z2 := tr _ _ z2
          replace z3 := tr _ _ z3
          obtain ⟨za, zc, hzv⟩ := zr.slice
          subst hzv
          have hkq : kids[q]? = some (N1.tr ⟨zk, zt, zn, .slice za zkids.length zc, zkids⟩) := by rw [HEX.out, List.getElem?_map, hzq]; rfl
          have htk : Tr.namesL (kids.take (q + 1)) = Tr.namesL (kids.take q) ++ Tr.names (N1.tr ⟨zk, zt, zn, .slice za zkids.length zc, zkids⟩) := by
            rw [List.take_add_one, hkq, Tr.namesL_append]; simp [Tr.namesL_cons, Tr.namesL_nil]
          have hsz9 : (XS ++ [tx] ++ Tr.namesL (kids.take q)).length + Tr.size (N1.tr ⟨zk, zt, zn, .slice za zkids.length zc, zkids⟩) ≤ 1000000 := by
            have h1 := HSZ.out
            have h2 := names_len (kids.take q)
            have h3 : Tr.sizes (kids.take (q + 1)) = Tr.sizes (kids.take q) + Tr.size (N1.tr ⟨zk, zt, zn, .slice za zkids.length zc, zkids⟩) := by rw [List.take_add_one, hkq, Tr.sizes_append]; simp [Tr.sizes_cons, Tr.sizes_nil]
            have h4 : Tr.sizes (kids.take (q + 1)) + Tr.sizes (kids.drop (q + 1)) = Tr.sizes kids := by rw [← Tr.sizes_append, List.take_append_drop]
            have h5 := HOL.out
            simp only [List.length_append]
            omega
          obtain ⟨ra, rc, rfl⟩ := slice_shape hrow
          have HC : Hid (_) := HIH.out _ (List.mem_of_getElem? hkq) S B (XS ++ [tx] ++ Tr.namesL (kids.take q)) _ (.agg #[.int .u8 zk, .string (Ln.bs zt), .int .i64 zn, .slice za zkids.length zc]) wr HSS.out.1 (Nat.le_trans HSS.out.2 hbB.size) ⟨⟨zk, zt, zn, .slice za zkids.length zc, zkids⟩, rfl, rfl, zf, zr.keep (fun b hb => hbB.block b (HSS.out.1 b hb)) (fun _ h => h)⟩ hrow hsz9
          have HKT : Hid (KeepU B X wr) := hkt
          have HTK : Hid (XS ++ [tx] ++ Tr.namesL (kids.take q) ++ Tr.names (N1.tr ⟨zk, zt, zn, .slice za zkids.length zc, zkids⟩) = XS ++ [tx] ++ Tr.namesL (kids.take (q + 1))) := by rw [Hid, htk, List.append_assoc]
          obtain ⟨RL, hRL⟩ : ∃ L, L = (Nm.uniq (XS ++ [tx] ++ Tr.namesL (kids.take q))).length := ⟨_, rfl⟩
          rw [← hRL] at HC ⊢
          clear hrow hkt hbB tr zr zf hkq hzq htk hsz9 hRL
          gi_wp2
          refine ⟨trivial, ?_⟩
          refine (callsIn_wide.2 HC.out).mono ?_
          rintro e w2 ⟨r2, rfl, ho2, hk2⟩
          rw [HTK.out] at ho2
          have HE : Hid (w2.ownsRow B 9 1 r2 (Nm.uniq (XS ++ [tx] ++ Tr.namesL (kids.take (q + 1)))).length ((Nm.uniq (XS ++ [tx] ++ Tr.namesL (kids.take (q + 1)))).map txtV) ∧ KeepU B X w2) := ⟨ho2, HKT.out.trans hk2⟩
          clear ho2 hk2 HC HKT HTK z0 z1 z2 z3 c3
          gi_wp2
          refine ⟨⟨q + 1, by omega, by simp, HE.out.1, HE.out.2⟩, by simp [intOf]; omega⟩
        · have hqN : q = N := by omega
          subst hqN
          have HE : Hid (wr.ownsRow B 9 1 u0 (Nm.uniq (XS ++ ([tx] ++ Tr.namesL kids))).length ((Nm.uniq (XS ++ ([tx] ++ Tr.namesL kids))).map txtV) ∧ KeepU B w wr) := by
            refine ⟨?_, HKX.out.trans hkt⟩
            rw [HN.out, List.take_length, List.append_assoc] at hrow
            exact hrow
          clear hrow hkt
          gi_wp2
          go_ret
          refine ⟨_, rfl, ?_, HE.out.2⟩
          rw [HNM.out, HNE.out]
          exact HE.out.1

theorem rnames_any : ∀ (m : Nat) (t : Tr), t.size ≤ m → RNamesAt t
  | 0, t, h => by have := Tr.size_eq t; omega
  | m + 1, t, h => rnames_step t (fun y hy => rnames_any m y (by have := Tr.size_eq t; have := Tr.sizes_mem hy; omega))

set_option maxRecDepth 100000 in
set_option maxHeartbeats 8000000 in
theorem rNames_any (S : Nat → Prop) (v : Value) (l : List Tr) (w : World) (hS : ∀ b, S b → b < w.heap.size) (hv : RowR S w v l) (hm : Tr.sizes l ≤ 500000) : Calls Try.prog 13 #[v] w fun e w' => ∃ r, e = .returned r ∧ w'.ownsRow w.heap.size 9 1 r (Nm.uniq (Tr.namesL l)).length ((Nm.uniq (Tr.namesL l)).map txtV) ∧ Below w.heap.size w w' := by
  obtain ⟨xs, xa, xc, xb, xo, ex, hxv, -, hxa, hxl, hx⟩ := hv.parts
  subst hxv
  have HX : Hid (_) := hx
  have HSS : Hid (∀ b, S b → b < w.heap.size) := hS
  have HEX : Hid (l = xs.map N1.tr) := ex
  have HM : Hid (Tr.sizes l ≤ 500000) := hm
  obtain ⟨N, hN⟩ : ∃ N, N = l.length := ⟨_, rfl⟩
  have HN : Hid (N = l.length) := hN
  rw [← hN] at hxa hxl ⊢
  have HST : Hid (w.ownsRow w.heap.size 9 1 (.slice none 0 0) (Nm.uniq (Tr.namesL (l.take 0))).length ((Nm.uniq (Tr.namesL (l.take 0))).map txtV)) := by
    rw [Hid, List.take_zero, Tr.namesL_nil, Nm.uniq_nil]
    exact World.ownsRow_nil _ _ _ _
  clear hx hS ex hv hm hN
  refine (callsIn_wide (n := 3)).1 ?_
  refine callsIn_of_wp Try.func13 rfl trivial ?_ rfl
  simp only [Try.ntmps13, List.size_toArray, List.length_cons, List.length_nil, Nat.reduceAdd, Nat.reduceSub, Array.replicate_succ, Array.replicate_zero, List.push_toArray, List.append_toArray, List.nil_append, List.cons_append]
  gi_wp2
  gi_loopw [3, 4] (fun rv i wr => ∃ q : Nat, q ≤ N ∧ i = .int .i64 q ∧ wr.ownsRow w.heap.size 9 1 rv (Nm.uniq (Tr.namesL (l.take q))).length ((Nm.uniq (Tr.namesL (l.take q))).map txtV) ∧ Below w.heap.size w wr) (fun _ i _ => N - (intOf i).toNat)
  case atStart => exact ⟨0, Nat.zero_le _, rfl, HST.out, Below.refl _ _⟩
  case round =>
    clear HST
    obtain ⟨q, hq, rfl, hrow, hbw⟩ := hrel
    by_cases hlt : q < N
    · obtain ⟨rfl, hSb⟩ := hxa (by omega)
      have hql : q < xs.length := by have := HN.out; rw [HEX.out, List.length_map] at this; omega
      obtain ⟨⟨zk, zt, zn, zv, zkids⟩, hzq⟩ : ∃ z, xs[q]? = some z := ⟨xs[q], List.getElem?_eq_getElem hql⟩
      obtain ⟨zf, zr, z0, z1, z2, z3⟩ := HX.out q _ hzq
      simp only at z0 z1 z2 z3 zr
      have hxb : xb < w.heap.size := HSS.out xb hSb
      have tr : ∀ j u, w.cell? ⟨xb, j, none⟩ = some u → wr.cell? ⟨xb, j, none⟩ = some u := fun j u h => (hbw.cell (p := ⟨xb, j, none⟩) hxb).trans h
      replace z0 := tr _ _ z0
      replace z1 := tr _ _ z1
      replace z2 := tr _ _ z2
      replace z3 := tr _ _ z3
      obtain ⟨za, zc, hzv⟩ := zr.slice
      subst hzv
      have hkq : l[q]? = some (N1.tr ⟨zk, zt, zn, .slice za zkids.length zc, zkids⟩) := by rw [HEX.out, List.getElem?_map, hzq]; rfl
      have htk : Tr.namesL (l.take (q + 1)) = Tr.namesL (l.take q) ++ Tr.names (N1.tr ⟨zk, zt, zn, .slice za zkids.length zc, zkids⟩) := by
        rw [List.take_add_one, hkq, Tr.namesL_append]; simp [Tr.namesL_cons, Tr.namesL_nil]
      have hsz9 : (Tr.namesL (l.take q)).length + Tr.size (N1.tr ⟨zk, zt, zn, .slice za zkids.length zc, zkids⟩) ≤ 1000000 := by
        have h1 := HM.out
        have h2 := names_len (l.take q)
        have h4 : Tr.sizes (l.take q) + Tr.sizes (l.drop q) = Tr.sizes l := by rw [← Tr.sizes_append, List.take_append_drop]
        have h5 := Tr.sizes_mem (List.mem_of_getElem? hkq)
        omega
      obtain ⟨ra, rc, rfl⟩ := slice_shape hrow
      have HC : Hid (_) := rnames_any _ _ (Nat.le_refl _) S w.heap.size (Tr.namesL (l.take q)) _ (.agg #[.int .u8 zk, .string (Ln.bs zt), .int .i64 zn, .slice za zkids.length zc]) wr HSS.out hbw.size ⟨⟨zk, zt, zn, .slice za zkids.length zc, zkids⟩, rfl, rfl, zf, zr.keep (fun b hb => hbw.block b (HSS.out b hb)) (fun _ h => h)⟩ hrow hsz9
      rw [← htk] at HC
      have HBW : Hid (Below w.heap.size w wr) := hbw
      obtain ⟨RL, hRL⟩ : ∃ L, L = (Nm.uniq (Tr.namesL (l.take q))).length := ⟨_, rfl⟩
      rw [← hRL] at HC ⊢
      clear hrow hbw tr zr zf hkq hzq htk hsz9 hRL
      gi_wp2
      refine ⟨trivial, ?_⟩
      refine (callsIn_wide.2 HC.out).mono ?_
      rintro e w2 ⟨r2, rfl, ho2, hk2⟩
      have HE : Hid (w2.ownsRow w.heap.size 9 1 r2 (Nm.uniq (Tr.namesL (l.take (q + 1)))).length ((Nm.uniq (Tr.namesL (l.take (q + 1)))).map txtV) ∧ Below w.heap.size w w2) := ⟨ho2, HBW.out.trans hk2.1⟩
      clear ho2 hk2 HC HBW z0 z1 z2 z3
      gi_wp2
      refine ⟨⟨q + 1, by omega, by simp, HE.out.1, HE.out.2⟩, by simp [intOf]; omega⟩
    · have hqN : q = N := by omega
      have HE : Hid (wr.ownsRow w.heap.size 9 1 u3 (Nm.uniq (Tr.namesL l)).length ((Nm.uniq (Tr.namesL l)).map txtV) ∧ Below w.heap.size w wr) := by
        rw [hqN, HN.out, List.take_length] at hrow
        exact ⟨hrow, hbw⟩
      clear hrow hbw
      subst hqN
      gi_wp2
      go_ret
      exact ⟨_, rfl, HE.out.1, HE.out.2⟩
end Go.Proofs.Ytejnleigjjaenaa
