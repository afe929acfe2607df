/-
  Plain mathematics of lines: lists of bytes alone, no program.
-/
import Derived.Lib.Bytealg
namespace Go.Proofs.Ytapnakcoanjfgaa
namespace Ln

/-- A string's value out of its bytes. -/
def bs (l : List UInt8) : ByteArray := ⟨l.toArray⟩
/-- How many bytes the first line has. -/
def lsz : List UInt8 → Nat
  | [] => 0
  | c :: r => if c = 10 then 1 else lsz r + 1
/-- Does a text end with byte 10? -/
def endsL (l : List UInt8) : Bool := l.getLast? == some 10
/-- The lines. -/
def splitL : List UInt8 → List (List UInt8)
  | [] => []
  | c :: r => if c = 10 then [10] :: splitL r else
    match splitL r with
    | [] => [[c]]
    | h :: t => (c :: h) :: t
/-- How many bytes 10 there are; how many bytes stand behind the last of them. -/
def cntL : List UInt8 → Nat
  | [] => 0
  | c :: r => if c = 10 then cntL r + 1 else cntL r
def colL : List UInt8 → Nat := List.foldl (fun n c => if c = 10 then 0 else n + 1) 0
def widthL (l : List UInt8) : Nat := if endsL (l.take (lsz l)) then lsz l - 1 else lsz l
def behindL (l : List UInt8) (n : Nat) : Nat := ((splitL l).take n).flatten.length

theorem bs_toList (l : List UInt8) : (bs l).data.toList = l := rfl
theorem bs_size (l : List UInt8) : (bs l).size = l.length := rfl
theorem bs_of (s : ByteArray) : bs s.data.toList = s := rfl
theorem size_eq (s : ByteArray) : s.size = s.data.toList.length := rfl

theorem lsz_le (l : List UInt8) : lsz l ≤ l.length := by
  induction l with
  | nil => simp [lsz]
  | cons c r ih => simp only [lsz, List.length_cons]; split <;> omega
theorem lsz_pos (l : List UInt8) (h : l ≠ []) : 0 < lsz l := by
  cases l with
  | nil => exact absurd rfl h
  | cons c r => simp only [lsz]; split <;> omega

theorem idx_lsz (l : List UInt8) : (0 ≤ Lib.indexByte l 10 → Lib.indexByte l 10 + 1 = lsz l) ∧ (Lib.indexByte l 10 < 0 → lsz l = l.length) := by
  induction l with
  | nil => simp [Lib.indexByte, lsz]
  | cons c r ih =>
    have hg := Lib.indexByte_ge r 10
    unfold Lib.indexByte lsz
    by_cases hc : c = 10
    · subst hc; simp
    · have : (c == 10) = false := by simpa using hc
      simp only [this, hc, if_false, Bool.false_eq_true]
      by_cases h1 : Lib.indexByte r 10 = -1
      · simp only [h1, beq_self_eq_true, if_true]
        have := ih.2 (by omega)
        simp [this]
      · have h2 : (Lib.indexByte r 10 == -1) = false := by simpa using h1
        simp only [h2, Bool.false_eq_true, if_false]
        have := ih.1 (by omega)
        constructor <;> intro _ <;> omega

theorem splitL_step (l : List UInt8) (h : l ≠ []) : splitL l = l.take (lsz l) :: splitL (l.drop (lsz l)) := by
  induction l with
  | nil => exact absurd rfl h
  | cons c r ih =>
    by_cases hc : c = 10
    · subst hc; simp [splitL, lsz]
    · cases r with
      | nil => simp [splitL, lsz, hc]
      | cons d r' =>
        have h2 := ih (by simp)
        have e1 : splitL (c :: d :: r') = match splitL (d :: r') with | [] => [[c]] | h :: t => (c :: h) :: t := by
          conv => lhs; unfold splitL
          rw [if_neg hc]
        have e2 : lsz (c :: d :: r') = lsz (d :: r') + 1 := by
          conv => lhs; unfold lsz
          rw [if_neg hc]
        rw [e1, h2, e2]
        simp

theorem splitL_flatten (l : List UInt8) : (splitL l).flatten = l := by
  induction l with
  | nil => rfl
  | cons c r ih =>
    unfold splitL
    by_cases hc : c = 10
    · subst hc; simp [ih]
    · rw [if_neg hc]
      cases hs : splitL r with
      | nil => rw [hs] at ih; simp at ih; simp [← ih]
      | cons h t => rw [hs] at ih; simp at ih; simp [ih]

theorem splitL_len (l : List UInt8) : (splitL l).length ≤ l.length := by
  induction l with
  | nil => simp [splitL]
  | cons c r ih =>
    unfold splitL
    by_cases hc : c = 10
    · subst hc; simp [ih]
    · rw [if_neg hc]
      cases hs : splitL r with
      | nil => simp
      | cons h t => rw [hs] at ih; simp at ih; simp; omega

/-- An induction by lines. -/
theorem byLines {P : List UInt8 → Prop} (h0 : P []) (hs : ∀ l, l ≠ [] → P (l.drop (lsz l)) → P l) : ∀ l, P l := by
  intro l
  generalize hn : l.length = n
  induction n using Nat.strongRecOn generalizing l with
  | ind n ih =>
    by_cases h : l = []
    · subst h; exact h0
    · refine hs l h (ih (l.drop (lsz l)).length ?_ _ rfl)
      have := lsz_pos l h
      have : 0 < l.length := List.length_pos_iff.2 h
      simp; omega

theorem first_no (l : List UInt8) (k : Nat) (hk : k < lsz l) : k + 1 < lsz l ∨ endsL (l.take (lsz l)) = false → l[k]? ≠ some 10 := by
  induction l generalizing k with
  | nil => simp [lsz] at hk
  | cons c r ih =>
    by_cases hc : c = 10
    · subst hc; simp [lsz, endsL] at hk ⊢
    · have e2 : lsz (c :: r) = lsz r + 1 := by
        conv => lhs; unfold lsz
        rw [if_neg hc]
      rw [e2] at hk ⊢
      cases k with
      | zero => intro _; simpa using hc
      | succ k =>
        intro h
        have := ih k (by omega)
        simp only [List.getElem?_cons_succ]
        apply this
        rcases h with h | h
        · left; omega
        · right
          rw [List.take_succ_cons] at h
          unfold endsL at h ⊢
          cases hr : r.take (lsz r) with
          | nil => simp
          | cons a b => rw [hr] at h; simpa using h

theorem first_ends (l : List UInt8) : endsL (l.take (lsz l)) = true → l[lsz l - 1]? = some 10 := by
  intro h
  unfold endsL at h
  have h2 : (l.take (lsz l)).getLast? = some 10 := by simpa using h
  rw [List.getLast?_eq_getElem?] at h2
  have hl := lsz_le l
  have : (l.take (lsz l)).length = lsz l := by simp; omega
  rw [this, List.getElem?_take] at h2
  split at h2
  · exact h2
  · simp at h2

/-- A first line that does not end with byte 10 is all there is. -/
theorem first_open (l : List UInt8) : endsL (l.take (lsz l)) = false → l.drop (lsz l) = [] := by
  induction l with
  | nil => simp [lsz]
  | cons c r ih =>
    by_cases hc : c = 10
    · subst hc; simp [lsz, endsL]
    · have e2 : lsz (c :: r) = lsz r + 1 := by
        conv => lhs; unfold lsz
        rw [if_neg hc]
      rw [e2, List.take_succ_cons, List.drop_succ_cons]
      intro h
      apply ih
      unfold endsL at h ⊢
      cases hr : r.take (lsz r) with
      | nil => simp
      | cons a b => rw [hr] at h; simpa using h

theorem cntL_append (a b : List UInt8) : cntL (a ++ b) = cntL a + cntL b := by
  induction a with
  | nil => simp [cntL]
  | cons c r ih => simp only [List.cons_append, cntL, ih]; split <;> omega
theorem colL_append (a b : List UInt8) : colL (a ++ b) = b.foldl (fun n c => if c = 10 then 0 else n + 1) (colL a) := by
  unfold colL; rw [List.foldl_append]
theorem foldl_no (b : List UInt8) (h : ∀ k : Nat, b[k]? ≠ some 10) (n : Nat) : b.foldl (fun n c => if c = 10 then 0 else n + 1) n = n + b.length := by
  induction b generalizing n with
  | nil => simp
  | cons c r ih =>
    have hc : c ≠ 10 := fun e => h 0 (by simp [e])
    simp only [List.foldl_cons, if_neg hc, List.length_cons]
    rw [ih (fun k => by simpa using h (k + 1))]
    omega
theorem cntL_no (b : List UInt8) (h : ∀ k : Nat, b[k]? ≠ some 10) : cntL b = 0 := by
  induction b with
  | nil => rfl
  | cons c r ih =>
    have hc : c ≠ 10 := fun e => h 0 (by simp [e])
    simp only [cntL, if_neg hc]
    exact ih (fun k => by simpa using h (k + 1))
theorem colL_snoc (a : List UInt8) (c : UInt8) : colL (a ++ [c]) = if c = 10 then 0 else colL a + 1 := by
  rw [colL_append]; rfl
theorem cntL_snoc (a : List UInt8) (c : UInt8) : cntL (a ++ [c]) = if c = 10 then cntL a + 1 else cntL a := by
  rw [cntL_append]; simp only [cntL]; split <;> simp

/-- Behind a first line that ends: one line, no column. -/
theorem first_counts (l : List UInt8) (h : endsL (l.take (lsz l)) = true) : cntL (l.take (lsz l)) = 1 ∧ colL (l.take (lsz l)) = 0 := by
  have hne : l ≠ [] := by rintro rfl; simp [lsz, endsL] at h
  have hp := lsz_pos l hne
  have hle := lsz_le l
  have e : l.take (lsz l) = l.take (lsz l - 1) ++ [10] := by
    have := List.take_succ_eq_append_getElem (l := l) (i := lsz l - 1) (by omega)
    rw [show lsz l - 1 + 1 = lsz l from by omega] at this
    rw [this]
    have h2 := first_ends l h
    rw [List.getElem?_eq_getElem (by omega)] at h2
    simp at h2
    rw [h2]
  have hno : ∀ k : Nat, (l.take (lsz l - 1))[k]? ≠ some 10 := by
    intro k
    rw [List.getElem?_take]
    split
    · exact first_no l k (by omega) (.inl (by omega))
    · simp
  rw [e, cntL_snoc, colL_snoc, cntL_no _ hno]
  simp

theorem take_no (l : List UInt8) (p : Nat) (hp : p ≤ widthL l) : ∀ k : Nat, (l.take p)[k]? ≠ some 10 := by
  intro k
  rw [List.getElem?_take]
  unfold widthL at hp
  split
  · next hk =>
    by_cases he : endsL (l.take (lsz l)) = true
    · rw [if_pos he] at hp
      exact first_no l k (by omega) (.inl (by omega))
    · have he' : endsL (l.take (lsz l)) = false := by simpa using he
      rw [if_neg he] at hp
      exact first_no l k (by omega) (.inr he')
  · simp

theorem behindL_zero (l : List UInt8) : behindL l 0 = 0 := by simp [behindL]
theorem behindL_succ (l : List UInt8) (h : l ≠ []) (n : Nat) : behindL l (n + 1) = lsz l + behindL (l.drop (lsz l)) n := by
  unfold behindL
  rw [splitL_step l h]
  have := lsz_le l
  simp [List.take_succ_cons, Nat.min_eq_left this]
theorem behindL_le (l : List UInt8) (n : Nat) : behindL l n ≤ l.length := by
  unfold behindL
  have h := splitL_flatten l
  have h2 : ((splitL l).take n).flatten.length + ((splitL l).drop n).flatten.length = l.length := by
    rw [← List.length_append, ← List.flatten_append, List.take_append_drop, h]
  omega
theorem widthL_le (l : List UInt8) : widthL l ≤ l.length := by
  unfold widthL; have := lsz_le l; split <;> omega

/-- What At tells: whether there is such a place, and which. -/
def atOk (l : List UInt8) (n c : Nat) : Prop := n ≤ (splitL l).length ∧ (n = 0 ∨ endsL (l.take (behindL l n)) = true) ∧ c ≤ widthL (l.drop (behindL l n))

theorem endsL_append (a b : List UInt8) (h : b ≠ []) : endsL (a ++ b) = endsL b := by
  unfold endsL
  rw [List.getLast?_append]
  cases hb : b.getLast? with
  | none => rw [List.getLast?_eq_none_iff] at hb; exact absurd hb h
  | some x => simp

/-- How At goes line by line. -/
theorem atOk_succ (l : List UInt8) (h : l ≠ []) (n c : Nat) : atOk l (n + 1) c ↔ (endsL (l.take (lsz l)) = true ∧ atOk (l.drop (lsz l)) n c) := by
  unfold atOk
  have hle := lsz_le l
  have hlen : (splitL l).length = (splitL (l.drop (lsz l))).length + 1 := by rw [splitL_step l h]; simp
  have hdrop : l.drop (lsz l + behindL (l.drop (lsz l)) n) = (l.drop (lsz l)).drop (behindL (l.drop (lsz l)) n) := by rw [List.drop_drop]
  have htake : l.take (lsz l + behindL (l.drop (lsz l)) n) = l.take (lsz l) ++ (l.drop (lsz l)).take (behindL (l.drop (lsz l)) n) := List.take_add
  rw [behindL_succ l h, hlen, hdrop, htake]
  have hends : n ≠ 0 → n ≤ (splitL (l.drop (lsz l))).length → (l.drop (lsz l)).take (behindL (l.drop (lsz l)) n) ≠ [] := by
    intro hn hn2 e
    have hne : l.drop (lsz l) ≠ [] := by intro e2; rw [e2] at hn2; simp [splitL] at hn2; exact hn hn2
    obtain ⟨m, rfl⟩ := Nat.exists_eq_succ_of_ne_zero hn
    rw [Nat.succ_eq_add_one, behindL_succ _ hne] at e
    have := lsz_pos _ hne
    have hl2 := List.length_pos_iff.2 hne
    have := congrArg List.length e
    simp at this
    simp at hl2
    omega
  constructor
  · rintro ⟨h1, h2, h3⟩
    simp only [Nat.add_eq_zero_iff, Nat.one_ne_zero, and_false, false_or] at h2
    by_cases hn : n = 0
    · subst hn
      simp only [behindL_zero, List.take_zero, List.append_nil] at h2
      exact ⟨h2, by omega, .inl rfl, h3⟩
    · have h4 := hends hn (by omega)
      rw [endsL_append _ _ h4] at h2
      refine ⟨?_, by omega, .inr h2, h3⟩
      cases hE : endsL (l.take (lsz l)) with
      | true => rfl
      | false => exfalso; rw [first_open l hE] at h4; simp at h4
  · rintro ⟨h0, h1, h2, h3⟩
    refine ⟨by omega, .inr ?_, h3⟩
    by_cases hn : n = 0
    · subst hn; simpa [behindL_zero] using h0
    · have h4 := hends hn (by omega)
      rw [endsL_append _ _ h4]
      exact h2.resolve_left hn

theorem atOk_zero (l : List UInt8) (c : Nat) : atOk l 0 c ↔ c ≤ widthL l := by
  simp [atOk, behindL_zero]

theorem colL_after (a b : List UInt8) (h : colL a = 0) : colL (a ++ b) = colL b := by
  rw [colL_append, h]; rfl

/-- Place, then At. -/
theorem place_at : ∀ (l : List UInt8) (p : Nat), p ≤ l.length → atOk l (cntL (l.take p)) (colL (l.take p)) ∧ behindL l (cntL (l.take p)) + colL (l.take p) = p := by
  refine byLines ?_ ?_
  · intro p hp; simp at hp; subst hp; simp [cntL, colL, atOk_zero, behindL_zero]
  · intro l hne ih p hp
    by_cases hw : p ≤ widthL l
    · have hno := take_no l p hw
      rw [cntL_no _ hno]
      have : colL (l.take p) = p := by
        have := foldl_no _ hno 0
        unfold colL; rw [this]; simp; omega
      rw [this]
      exact ⟨(atOk_zero l p).2 hw, by simp [behindL_zero]⟩
    · have hlw : endsL (l.take (lsz l)) = true ∧ lsz l ≤ p := by
        unfold widthL at hw
        cases hE : endsL (l.take (lsz l)) with
        | true => rw [hE] at hw; simp at hw; exact ⟨rfl, by omega⟩
        | false =>
          rw [hE] at hw; simp at hw
          have := first_open l hE
          have h2 := congrArg List.length this
          simp at h2
          omega
      obtain ⟨hE, hkp⟩ := hlw
      have hk := lsz_le l
      have ht : l.take p = l.take (lsz l) ++ (l.drop (lsz l)).take (p - lsz l) := by
        have := List.take_add (l := l) (i := lsz l) (j := p - lsz l)
        rw [show lsz l + (p - lsz l) = p from by omega] at this
        exact this
      have hf := first_counts l hE
      have hc : cntL (l.take p) = cntL ((l.drop (lsz l)).take (p - lsz l)) + 1 := by rw [ht, cntL_append, hf.1]; omega
      have hcol : colL (l.take p) = colL ((l.drop (lsz l)).take (p - lsz l)) := by rw [ht, colL_after _ _ hf.2]
      have h2 := ih (p - lsz l) (by simp; omega)
      rw [hc, hcol, atOk_succ l hne, behindL_succ l hne]
      exact ⟨⟨hE, h2.1⟩, by omega⟩

/-- At, then Place. -/
theorem at_place : ∀ (l : List UInt8) (n c : Nat), atOk l n c → behindL l n + c ≤ l.length ∧ cntL (l.take (behindL l n + c)) = n ∧ colL (l.take (behindL l n + c)) = c := by
  refine byLines ?_ ?_
  · intro n c h
    obtain ⟨h1, _, h3⟩ := h
    simp [splitL] at h1; subst h1
    simp [widthL, lsz, endsL] at h3; subst h3
    simp [behindL, splitL, cntL, colL]
  · intro l hne ih n c h
    cases n with
    | zero =>
      rw [atOk_zero] at h
      have hno := take_no l c h
      have hle := widthL_le l
      rw [behindL_zero, Nat.zero_add]
      refine ⟨by omega, cntL_no _ hno, ?_⟩
      have := foldl_no _ hno 0
      unfold colL; rw [this]; simp; omega
    | succ n =>
      rw [atOk_succ l hne] at h
      obtain ⟨hE, h⟩ := h
      have h2 := ih n c h
      have hk := lsz_le l
      rw [behindL_succ l hne]
      have ht : l.take (lsz l + behindL (l.drop (lsz l)) n + c) = l.take (lsz l) ++ (l.drop (lsz l)).take (behindL (l.drop (lsz l)) n + c) := by
        rw [Nat.add_assoc]; exact List.take_add
      have hf := first_counts l hE
      rw [ht, cntL_append, colL_after _ _ hf.2, hf.1]
      have := h2.1
      simp at this
      exact ⟨by omega, by omega, h2.2.2⟩

/-- Places follow one another. -/
theorem place_lt (l : List UInt8) (p q : Nat) (hpq : p < q) (hq : q ≤ l.length) : cntL (l.take p) < cntL (l.take q) ∨ (cntL (l.take p) = cntL (l.take q) ∧ colL (l.take p) < colL (l.take q)) := by
  obtain ⟨d, rfl⟩ : ∃ d, q = p + d + 1 := ⟨q - p - 1, by omega⟩
  clear hpq
  induction d with
  | zero =>
    simp only [Nat.add_zero]
    rw [List.take_succ_eq_append_getElem (by omega), cntL_snoc, colL_snoc]
    split
    · left; omega
    · right; exact ⟨rfl, by omega⟩
  | succ d ih =>
    have h := ih (by omega)
    rw [show p + (d + 1) + 1 = (p + d + 1) + 1 from by omega, List.take_succ_eq_append_getElem (by omega), cntL_snoc, colL_snoc]
    split
    · left; omega
    · rcases h with h | h
      · left; exact h
      · right; exact ⟨h.1, by omega⟩

theorem place_inj (l : List UInt8) (p q : Nat) (hp : p ≤ l.length) (hq : q ≤ l.length) (h1 : cntL (l.take p) = cntL (l.take q)) (h2 : colL (l.take p) = colL (l.take q)) : p = q := by
  rcases Nat.lt_trichotomy p q with h | h | h
  · have := place_lt l p q h hq; omega
  · exact h
  · have := place_lt l q p h hp; omega

/-- The lines of a text, one by one: what Place reckons. -/
def lineF (x : List UInt8) (n : Nat) : Nat := if endsL x then n + 1 else n
def colF (x : List UInt8) (c : Nat) : Nat := if endsL x then c else x.length
theorem place_fold : ∀ l : List UInt8, (splitL l).foldr (fun x n => lineF x n) 0 = cntL l ∧ (splitL l).foldl (fun c x => colF x c) 0 = colL l := by
  refine byLines ?_ ?_
  · simp [splitL, cntL, colL]
  · intro l hne ih
    have hsplit : l.take (lsz l) ++ l.drop (lsz l) = l := List.take_append_drop _ _
    rw [splitL_step l hne, List.foldr_cons, List.foldl_cons, ih.1]
    cases hE : endsL (l.take (lsz l)) with
    | true =>
      have hf := first_counts l hE
      have e1 : lineF (l.take (lsz l)) (cntL (l.drop (lsz l))) = cntL (l.drop (lsz l)) + 1 := by simp [lineF, hE]
      have e2 : colF (l.take (lsz l)) 0 = 0 := by simp [colF, hE]
      rw [e1, e2, ih.2]
      constructor
      · conv => rhs; rw [← hsplit]
        rw [cntL_append, hf.1]; omega
      · conv => rhs; rw [← hsplit]
        rw [colL_after _ _ hf.2]
    | false =>
      have ho := first_open l hE
      have hlen : lsz l = l.length := by have := congrArg List.length ho; simp at this; have := lsz_le l; omega
      have ht : l.take (lsz l) = l := by rw [hlen]; exact List.take_length
      have hE' : endsL l = false := by rw [ht] at hE; exact hE
      have hno : ∀ k : Nat, l[k]? ≠ some 10 := by
        intro k
        by_cases hk : k < l.length
        · exact first_no l k (by omega) (.inr hE)
        · rw [List.getElem?_eq_none (by omega)]; simp
      rw [ho]
      simp only [ht, splitL, List.foldl_nil, cntL, lineF, colF, hE', Bool.false_eq_true, if_false]
      exact ⟨(cntL_no l hno).symm, by have := foldl_no l hno 0; unfold colL; rw [this]; omega⟩

end Ln
end Go.Proofs.Ytapnakcoanjfgaa
