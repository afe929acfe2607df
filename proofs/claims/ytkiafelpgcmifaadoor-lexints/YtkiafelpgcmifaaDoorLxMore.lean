/-
  What follows of chapter 5: what stands behind a text; tokens' texts with blanks between them.
-/
import Derived.Test.YtkiafelpgcmifaaDoorLxMath
namespace Go.Proofs.YtkiafelpgcmifaaDoor
namespace Lx

theorem prefix_stop {s : List UInt8} {c : UInt8} (hc : c ∉ s) (a r : List UInt8) : s.isPrefixOf (a ++ c :: r) = s.isPrefixOf a := by
  induction s generalizing a with
  | nil => cases a <;> rfl
  | cons b s ih =>
    have h1 : b ≠ c := fun e => hc (by rw [e]; simp)
    have h2 : c ∉ s := fun h => hc (by simp [h])
    cases a with
    | nil => simp [List.isPrefixOf, h1]
    | cons x a => simp only [List.cons_append, List.isPrefixOf, ih h2]

theorem find_congr {α : Type} (p q : α → Bool) : ∀ l : List α, (∀ x ∈ l, p x = q x) → l.find? p = l.find? q
  | [], _ => rfl
  | x :: l, h => by
    rw [List.find?_cons, List.find?_cons, h x (by simp), find_congr p q l (fun y hy => h y (by simp [hy]))]
/-- No sign has this byte. -/
theorem sign_stop {c : UInt8} (hc : ∀ s ∈ signs, c ∉ s) (a r : List UInt8) : sign? (a ++ c :: r) = sign? a :=
  find_congr _ _ _ (fun s hs => prefix_stop (hc s hs) a r)

theorem no10 : ∀ s ∈ signs, (10 : UInt8) ∉ s := by decide
theorem no32 : ∀ s ∈ signs, (32 : UInt8) ∉ s := by decide

/-- A token stays as it is, if a blank or the byte 10 is put behind the bytes. -/
theorem step_stop_tok {c : UInt8} (h3 : ldI (c.toNat : Int) = false) (h4 : ∀ s ∈ signs, c ∉ s) (h5 : c ≠ 47) (a r : List UInt8) (ha : a ≠ []) (hb : lead blankI a = 0) (hp : [47, 47].isPrefixOf a = false) : step (a ++ c :: r) = step a := by
  have e1 : lead blankI (a ++ c :: r) = 0 := by
    rw [lead_append_lt _ _ _ (by rw [hb]; exact List.length_pos_iff.2 ha), hb]
  have e2 : [47, 47].isPrefixOf (a ++ c :: r) = false := by
    rw [prefix_stop (by simp [h5]), hp]
  have e3 : lead ldI (a ++ c :: r) = lead ldI a := lead_append_stop _ _ _ _ h3
  have e4 : (a ++ c :: r).take (lead ldI a) = a.take (lead ldI a) := by
    rw [List.take_append_of_le_length (lead_le _ _)]
  have e5 := sign_stop h4 a r
  unfold step
  rw [e1, e2, e3, e4, e5, hb, hp]
  simp

/-- Blanks in front play no part. -/
theorem rest_blanks (l : List UInt8) (k : Nat) (acc : List Tok) : rest l k acc = rest (l.drop (lead blankI l)) (k + lead blankI l) acc := by
  by_cases h : 0 < lead blankI l
  · have hl : l ≠ [] := by intro e; rw [e] at h; simp [lead_nil] at h
    exact rest_skip k acc (by unfold step; rw [if_pos h]) hl
  · have h0 : lead blankI l = 0 := by omega
    rw [h0]; rfl

theorem lead_drop (p : Int → Bool) : ∀ (l : List UInt8) (i : Nat), i ≤ lead p l → lead p (l.drop i) = lead p l - i
  | _, 0, _ => by simp
  | [], i + 1, h => by simp [lead_nil] at h
  | b :: l, i + 1, h => by
    rw [lead_cons] at h
    split at h
    next hp =>
      rw [List.drop_succ_cons, lead_drop p l i (by omega), lead_cons, if_pos hp]
      omega
    next hp => omega
theorem rest_some (l : List UInt8) (i : Nat) (h : i ≤ lead blankI l) (k : Nat) (acc : List Tok) : rest l k acc = rest (l.drop i) (k + i) acc := by
  rw [rest_blanks l, rest_blanks (l.drop i), lead_drop _ _ _ h, List.drop_drop]
  rw [show i + (lead blankI l - i) = lead blankI l by omega, show k + i + (lead blankI l - i) = k + lead blankI l by omega]

theorem lead_le_append (p : Int → Bool) (a r : List UInt8) : lead p a ≤ lead p (a ++ r) := by
  by_cases h : lead p a < a.length
  · rw [lead_append_lt _ _ _ h]; exact Nat.le_refl _
  · have := lead_le p a
    rw [lead_append_all p a r (by omega)]; omega

/-- What stands behind: of a text's tokens, or its fault. -/
def behind (m : List UInt8) (n : Nat) : Res → Res
  | .fault e i => .fault e i
  | .ok ts => rest m n ts

/-- What stands behind a text and a byte 10. -/
theorem rest_behind (m : List UInt8) (a : List UInt8) : ∀ (k : Nat) (acc : List Tok), rest (a ++ 10 :: m) k acc = behind m (k + a.length + 1) (rest a k acc) := by
  refine bySteps (P := fun a => ∀ (k : Nat) (acc : List Tok), rest (a ++ 10 :: m) k acc = behind m (k + a.length + 1) (rest a k acc)) ?_ ?_ a
  · intro k acc
    rw [rest_nil, List.nil_append]
    show rest (10 :: m) k acc = rest m (k + 0 + 1) acc
    exact rest_some (10 :: m) 1 (by rw [lead_cons, if_pos (by decide)]; omega) k acc
  · intro l hl ihs iht k acc
    have hla : l ++ 10 :: m ≠ [] := by simp
    have ll : ∀ n, n ≤ l.length → k + n + (l.drop n).length + 1 = k + l.length + 1 := fun n hn => by rw [List.length_drop]; omega
    by_cases hb : 0 < lead blankI l
    · have hs : step l = .skip (lead blankI l) := by unfold step; rw [if_pos hb]
      rw [rest_skip k acc hs hl, ← ll _ (lead_le blankI l), ← ihs _ hs, rest_some _ _ (lead_le_append blankI l (10 :: m)), List.drop_append_of_le_length (lead_le _ _)]
    · have hb0 : lead blankI l = 0 := by omega
      have hb1 : lead blankI (l ++ 10 :: m) = 0 := by rw [lead_append_lt _ _ _ (by rw [hb0]; exact List.length_pos_iff.2 hl), hb0]
      cases hp : [47, 47].isPrefixOf l with
      | true =>
        have hs : step l = .skip (lead inLineI l) := by unfold step; rw [if_neg hb, if_pos hp]
        have hs2 : step (l ++ 10 :: m) = .skip (lead inLineI l) := by
          unfold step; rw [hb1, if_neg (by omega), prefix_stop (by decide), if_pos hp, lead_append_stop _ _ _ _ (by decide)]
        rw [rest_skip k acc hs hl, ← ll _ (lead_le inLineI l), ← ihs _ hs, rest_skip k acc hs2 hla, List.drop_append_of_le_length (lead_le _ _)]
      | false =>
        have e := step_stop_tok (c := 10) (by decide) no10 (by decide) l m hl hb0 hp
        cases hs : step l with
        | skip n =>
          have hn := (step_skip hs).2
          rw [hs] at e
          rw [rest_skip k acc hs hl, ← ll _ hn, ← ihs _ hs, rest_skip k acc e hla, List.drop_append_of_le_length hn]
        | tok kind n =>
          have hn := (step_tok hs).2
          rw [hs] at e
          rw [rest_tok k acc hs hl, ← ll _ hn, ← iht _ _ hs, rest_tok k acc e hla, List.drop_append_of_le_length hn, List.take_append_of_le_length hn]
        | bad er =>
          rw [hs] at e
          rw [rest_bad k acc hs hl, rest_bad k acc e hla]; rfl

/-- Tokens at other places. -/
def Tok.shift (d : Nat) (t : Tok) : Tok := ⟨t.kind, t.text, t.at_ + d⟩
def Res.shift (pre : List Tok) (d : Nat) : Res → Res
  | .fault e i => .fault e (i + d)
  | .ok ts => .ok (pre ++ ts.map (Tok.shift d))
theorem rest_shift (pre : List Tok) (d : Nat) (a : List UInt8) : ∀ (k : Nat) (acc : List Tok), rest a (k + d) (pre ++ acc.map (Tok.shift d)) = (rest a k acc).shift pre d := by
  refine bySteps (P := fun a => ∀ (k : Nat) (acc : List Tok), rest a (k + d) (pre ++ acc.map (Tok.shift d)) = (rest a k acc).shift pre d) ?_ ?_ a
  · intro k acc; rfl
  · intro l hl ihs iht k acc
    cases hs : step l with
    | skip n => rw [rest_skip _ _ hs hl, rest_skip _ _ hs hl, show k + d + n = k + n + d by omega]; exact ihs _ hs _ _
    | tok kind n =>
      rw [rest_tok _ _ hs hl, rest_tok _ _ hs hl, show k + d + n = k + n + d by omega, ← iht _ _ hs]
      simp [Tok.shift]
    | bad e => rw [rest_bad _ _ hs hl, rest_bad _ _ hs hl]; rfl

/-- P5.1: what stands behind a text, with a byte 10 between. -/
theorem lex_behind (a m : List UInt8) : lex (a ++ 10 :: m) = match lex a with
    | .fault e i => .fault e i
    | .ok ts => (lex m).shift ts (a.length + 1) := by
  rw [lex_rest, lex_rest, lex_rest, rest_behind m a 0 []]
  cases rest a 0 [] with
  | fault e i => rfl
  | ok ts =>
    have := rest_shift ts (a.length + 1) m 0 []
    simp only [List.map_nil, List.append_nil] at this
    rw [show 0 + (a.length + 1) = 0 + a.length + 1 by omega] at this
    exact this

/-- Where a token is told: a token's text is one of its own kind, alone. -/
structure Tok.Fine (t : Tok) : Prop where
  ne : t.text ≠ []
  blank : lead blankI t.text = 0
  slash : [47, 47].isPrefixOf t.text = false
  own : step t.text = .tok t.kind t.text.length

theorem take_all (p : Int → Bool) (l : List UInt8) : lead p (l.take (lead p l)) = (l.take (lead p l)).length := lead_of_all p _ (lead_take_all p l)
theorem lead_take (p : Int → Bool) (l : List UInt8) (n : Nat) (hn : 0 < n) (h : lead p l = 0) : lead p (l.take n) = 0 := by
  cases l with
  | nil => simp [lead_nil]
  | cons b l =>
    obtain ⟨n, rfl⟩ : ∃ m, n = m + 1 := ⟨n - 1, by omega⟩
    rw [List.take_succ_cons, lead_cons]
    rw [lead_cons] at h
    split at h
    · omega
    · next hp => rw [if_neg hp]
theorem signs_own : ∀ s ∈ signs, lead blankI s = 0 ∧ [47, 47].isPrefixOf s = false ∧ lead ldI s = 0 ∧ sign? s = some s := by decide
theorem fine_of_step {l : List UInt8} {kind n : Nat} (k : Nat) (h : step l = .tok kind n) : (Tok.mk kind (l.take n) k).Fine := by
  have h0 := step_tok h
  have hne : l.take n ≠ [] := by
    intro e
    have := congrArg List.length e
    rw [List.length_take, List.length_nil] at this
    omega
  unfold step at h
  split at h
  next h1 => cases h
  next h1 =>
    have hb0 : lead blankI l = 0 := by omega
    have hb := lead_take blankI l n h0.1 hb0
    split at h
    next h2 => cases h
    next h2 =>
      split at h
      next h3 =>
        split at h
        · cases h
        · next h4 =>
          cases h
          have hld : lead ldI (l.take (lead ldI l)) = (l.take (lead ldI l)).length := take_all ldI l
          have hp : [47, 47].isPrefixOf (l.take (lead ldI l)) = false := by
            cases hp : [47, 47].isPrefixOf (l.take (lead ldI l)) with
            | false => rfl
            | true =>
              have := (List.isPrefixOf_iff_prefix.1 hp).trans (List.take_prefix _ _)
              exact absurd (List.isPrefixOf_iff_prefix.2 this) h2
          refine ⟨hne, hb, hp, ?_⟩
          show step (l.take (lead ldI l)) = .tok (sort (l.take (lead ldI l))) (l.take (lead ldI l)).length
          unfold step
          rw [hb, if_neg (by omega), hp, if_neg (by simp), hld, if_pos (List.length_pos_iff.2 hne), List.take_length, if_neg h4]
      next h3 =>
        split at h
        next s hs =>
          cases h
          have hm := sign_mem hs
          rw [(prefix_take hm.2).1]
          obtain ⟨g1, g2, g3, g4⟩ := signs_own s hm.1
          refine ⟨?_, g1, g2, ?_⟩
          · intro e; have := (signs_len s hm.1).1; simp [show s = [] from e] at this
          · show step s = .tok 4 s.length
            unfold step
            rw [g1, if_neg (by omega), g2, if_neg (by simp), g3, if_neg (by omega), g4]
        next => cases h

/-- The texts of tokens, a blank ahead of each. -/
def spaced : List Tok → List UInt8
  | [] => []
  | t :: ts => 32 :: t.text ++ spaced ts
theorem spaced_snoc (ts : List Tok) (t : Tok) : spaced (ts ++ [t]) = spaced ts ++ 32 :: t.text := by
  induction ts with
  | nil => simp [spaced]
  | cons x ts ih => simp [spaced, ih]

/-- Tokens alike but for their places. -/
def Tok.alike (t u : Tok) : Prop := t.kind = u.kind ∧ t.text = u.text
theorem rest_spaced : ∀ (ts : List Tok) (k : Nat) (acc : List Tok), (∀ t ∈ ts, t.Fine) → ∃ us : List Tok, rest (spaced ts) k acc = .ok (acc ++ us) ∧ us.map (fun t => (t.kind, t.text)) = ts.map (fun t => (t.kind, t.text))
  | [], k, acc, _ => ⟨[], by simp [spaced, rest_nil], rfl⟩
  | t :: ts, k, acc, h => by
    obtain ⟨f1, f2, f3, f4⟩ := h t (by simp)
    have e1 : rest (spaced (t :: ts)) k acc = rest (t.text ++ spaced ts) (k + 1) acc := rest_some (32 :: (t.text ++ spaced ts)) 1 (by rw [lead_cons, if_pos (by decide)]; omega) k acc
    have hs : step (t.text ++ spaced ts) = .tok t.kind t.text.length := by
      cases ts with
      | nil => simp only [spaced, List.append_nil]; exact f4
      | cons u us =>
        have := step_stop_tok (c := 32) (by decide) no32 (by decide) t.text (u.text ++ spaced us) f1 f2 f3
        rw [f4] at this
        exact this
    have hne : t.text ++ spaced ts ≠ [] := by simp [f1]
    obtain ⟨us, h1, h2⟩ := rest_spaced ts (k + 1 + t.text.length) (acc ++ [⟨t.kind, t.text, k + 1⟩]) (fun u hu => h u (by simp [hu]))
    refine ⟨⟨t.kind, t.text, k + 1⟩ :: us, ?_, by simp [h2]⟩
    rw [e1, rest_tok _ _ hs hne, List.drop_left, List.take_left, h1]
    simp

/-- All tokens are fine, rise, and stand where they say. -/
structure Told (s : List UInt8) (ts : List Tok) : Prop where
  fine : ∀ t ∈ ts, t.Fine
  there : ∀ t ∈ ts, t.at_ + t.text.length ≤ s.length ∧ (s.drop t.at_).take t.text.length = t.text
  rise : ∀ i (h : i + 1 < ts.length), ts[i].at_ + ts[i].text.length ≤ ts[i + 1].at_
theorem rest_told (s : List UInt8) (a : List UInt8) : ∀ (k : Nat) (acc ts : List Tok), a = s.drop k → k ≤ s.length → Told s acc → (∀ t ∈ acc, t.at_ + t.text.length ≤ k) → rest a k acc = .ok ts → Told s ts := by
  refine bySteps (P := fun a => ∀ (k : Nat) (acc ts : List Tok), a = s.drop k → k ≤ s.length → Told s acc → (∀ t ∈ acc, t.at_ + t.text.length ≤ k) → rest a k acc = .ok ts → Told s ts) ?_ ?_ a
  · intro k acc ts _ _ h _ hr
    rw [rest_nil] at hr
    cases hr; exact h
  · intro l hl ihs iht k acc ts hk hks h hb hr
    have hlen : l.length = s.length - k := by rw [hk, List.length_drop]
    cases hs : step l with
    | skip n =>
      have hn := step_skip hs
      rw [rest_skip _ _ hs hl] at hr
      exact ihs _ hs (k + n) acc ts (by rw [hk, List.drop_drop]) (by omega) h (fun t ht => by have := hb t ht; omega) hr
    | tok kind n =>
      have hn := step_tok hs
      rw [rest_tok _ _ hs hl] at hr
      have hlt : (l.take n).length = n := by rw [List.length_take]; omega
      refine iht _ _ hs (k + n) _ ts (by rw [hk, List.drop_drop]) (by omega) ⟨?_, ?_, ?_⟩ ?_ hr
      · intro t ht
        rcases List.mem_append.1 ht with ht | ht
        · exact h.fine t ht
        · rw [List.mem_singleton.1 ht]; exact fine_of_step k hs
      · intro t ht
        rcases List.mem_append.1 ht with ht | ht
        · exact h.there t ht
        · rw [List.mem_singleton.1 ht]
          exact ⟨by show k + (l.take n).length ≤ s.length; omega, by show (s.drop k).take (l.take n).length = l.take n; rw [hlt, ← hk]⟩
      · intro i hi
        rw [List.length_append] at hi
        simp at hi
        by_cases hi2 : i + 1 < acc.length
        · rw [List.getElem_append_left (by omega), List.getElem_append_left hi2]; exact h.rise i hi2
        · rw [List.getElem_append_left (by omega), List.getElem_append_right (by omega)]
          simpa using hb _ (List.getElem_mem _)
      · intro t ht
        rcases List.mem_append.1 ht with ht | ht
        · have := hb t ht; omega
        · rw [List.mem_singleton.1 ht]; show k + (l.take n).length ≤ k + n; omega
    | bad e => rw [rest_bad _ _ hs hl] at hr; cases hr
theorem lex_told {s : List UInt8} {ts : List Tok} (h : lex s = .ok ts) : Told s ts :=
  rest_told s s 0 [] ts rfl (Nat.zero_le _) ⟨by simp, by simp, fun i h => by simp at h⟩ (by simp) h
theorem rest_fault (s : List UInt8) (a : List UInt8) : ∀ (k : Nat) (acc : List Tok) (e i : Nat), a.length + k = s.length → rest a k acc = .fault e i → i < s.length ∧ (e = 100 ∨ e = 101) := by
  refine bySteps (P := fun a => ∀ (k : Nat) (acc : List Tok) (e i : Nat), a.length + k = s.length → rest a k acc = .fault e i → i < s.length ∧ (e = 100 ∨ e = 101)) ?_ ?_ a
  · intro k acc e i _ hr; rw [rest_nil] at hr; cases hr
  · intro l hl ihs iht k acc e i hk hr
    cases hs : step l with
    | skip n =>
      have hn := step_skip hs
      rw [rest_skip _ _ hs hl] at hr
      exact ihs _ hs _ _ _ _ (by rw [List.length_drop]; omega) hr
    | tok kind n =>
      have hn := step_tok hs
      rw [rest_tok _ _ hs hl] at hr
      exact iht _ _ hs _ _ _ _ (by rw [List.length_drop]; omega) hr
    | bad er =>
      rw [rest_bad _ _ hs hl] at hr
      cases hr
      refine ⟨by have := List.length_pos_iff.2 hl; omega, ?_⟩
      unfold step at hs
      split at hs
      · cases hs
      · split at hs
        · cases hs
        · split at hs
          · split at hs
            · cases hs; exact .inr rfl
            · cases hs
          · split at hs
            · cases hs
            · cases hs; exact .inl rfl
theorem lex_fault {s : List UInt8} {e i : Nat} (h : lex s = .fault e i) : i < s.length ∧ (e = 100 ∨ e = 101) := rest_fault s s 0 [] e i (by simp) h
/-- P5.3: the texts of a text's tokens, a blank ahead of each, are the same tokens. -/
theorem lex_again {s : List UInt8} {ts : List Tok} (h : lex s = .ok ts) : ∃ us, lex (spaced ts) = .ok us ∧ us.map (fun t => (t.kind, t.text)) = ts.map (fun t => (t.kind, t.text)) := by
  obtain ⟨us, h1, h2⟩ := rest_spaced ts 0 [] (lex_told h).fine
  exact ⟨us, by rw [lex_rest]; simpa using h1, h2⟩

end Lx
end Go.Proofs.YtkiafelpgcmifaaDoor
