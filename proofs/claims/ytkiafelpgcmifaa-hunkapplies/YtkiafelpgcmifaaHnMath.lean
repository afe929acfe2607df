/-
  Hunks of lines, as plain lists: which are right, sorted; what a text is with them.
-/
import Derived.Test.YtkiafelpgcmifaaLcs
namespace Go.Proofs.Ytkiafelpgcmifaa.Hn

abbrev Line := List UInt8
/-- A line: not empty, no byte 10 but the last. -/
def okLine (x : Line) : Bool := !x.isEmpty && !(x.dropLast.contains 10)
/-- It ends with a byte 10. -/
def shut (x : Line) : Bool := x.getLast? == some 10
/-- Lines of which only the last one may be open. -/
def lines : List Line → Bool
  | [] => true
  | [x] => okLine x
  | x :: y :: r => okLine x && shut x && lines (y :: r)

structure H where
  at_ : Int
  old : List Line
  new : List Line
deriving DecidableEq

def right (h : H) : Bool := decide (0 ≤ h.at_) && decide (h.at_ ≤ 1099511627776) && lines h.old && lines h.new && !decide (h.old = h.new)
def sorted : Int → List H → Bool
  | _, [] => true
  | last, h :: r => right h && decide (last < h.at_) && sorted (h.at_ + h.old.length) r
def inv (h : H) : H := ⟨h.at_, h.new, h.old⟩

/-- The lines l from the line at on, with the hunks exchanged; or the error's number. -/
def go (l : List Line) : Nat → List Line → List H → Except Nat (List Line)
  | at_, out, [] => .ok (out ++ l.drop at_)
  | at_, out, h :: r =>
    if l.length < h.at_.toNat + h.old.length then .error 6
    else if (l.drop h.at_.toNat).take h.old.length = h.old then go l (h.at_.toNat + h.old.length) (out ++ ((l.take h.at_.toNat).drop at_ ++ h.new)) r
    else .error 121
def apply (l : List Line) (hs : List H) : Except Nat (List Line) :=
  if lines l && sorted (-1) hs then
    match go l 0 [] hs with
    | .error e => .error e
    | .ok o => if lines o then .ok o else .error 4
  else .error 4

/-- Parts that stay, each with what stands behind it exchanged; k: how many lines stood ahead. -/
structure Seg where
  keep : List Line
  old : List Line
  new : List Line
def oldOf : List Seg → List Line → List Line
  | [], t => t
  | s :: r, t => s.keep ++ (s.old ++ oldOf r t)
def newOf : List Seg → List Line → List Line
  | [], t => t
  | s :: r, t => s.keep ++ (s.new ++ newOf r t)
def hunksOf : Nat → List Seg → List H
  | _, [] => []
  | k, s :: r => ⟨((k + s.keep.length : Nat) : Int), s.old, s.new⟩ :: hunksOf (k + s.keep.length + s.old.length) r

theorem go_segs (l : List Line) (hs : List H) : ∀ (at_ : Nat) (out : List Line) (a : List Line) (last : Int), at_ ≤ l.length → last ≤ at_ → (∀ h ∈ hs, 0 ≤ h.at_) → (hs ≠ [] → ∀ h, hs.head? = some h → (at_ : Int) ≤ h.at_) → sorted last hs = true → go l at_ out hs = .ok a →
    ∃ segs t, hs = hunksOf at_ segs ∧ l.drop at_ = oldOf segs t ∧ a = out ++ newOf segs t ∧ ∀ s ∈ segs.tail, s.keep ≠ [] := by
  induction hs with
  | nil =>
    intro at_ out a last _ _ _ _ _ h
    simp only [go, Except.ok.injEq] at h
    exact ⟨[], l.drop at_, rfl, rfl, h.symm, by simp⟩
  | cons h r ih =>
    intro at_ out a last hat hlast hpos hfst hs hgo
    have h0 : 0 ≤ h.at_ := hpos h (by simp)
    have h1 : (at_ : Int) ≤ h.at_ := hfst (by simp) h rfl
    obtain ⟨k, hk⟩ : ∃ k : Nat, h.at_ = k := ⟨h.at_.toNat, by omega⟩
    simp only [sorted, Bool.and_eq_true, decide_eq_true_eq] at hs
    simp only [go, hk, Int.toNat_natCast] at hgo
    by_cases hl : l.length < k + h.old.length
    · rw [if_pos hl] at hgo; cases hgo
    · rw [if_neg hl] at hgo
      by_cases he : (l.drop k).take h.old.length = h.old
      · rw [if_pos he] at hgo
        have hs2 := hs.2
        rw [hk] at hs2
        have hlt : ∀ h2, r.head? = some h2 → (k : Int) + h.old.length < h2.at_ := by
          intro h2 e
          cases r with
          | nil => cases e
          | cons y r =>
            cases e
            simp only [sorted, Bool.and_eq_true, decide_eq_true_eq] at hs2
            exact hs2.1.2
        obtain ⟨segs, t, e1, e2, e3, e4⟩ := ih (k + h.old.length) _ a _ (by omega) (by omega) (fun x hx => hpos x (by simp [hx])) (fun _ h2 e => by have := hlt h2 e; omega) hs2 hgo
        refine ⟨⟨(l.take k).drop at_, h.old, h.new⟩ :: segs, t, ?_, ?_, ?_, ?_⟩
        · have hl2 : ((l.take k).drop at_).length = k - at_ := by simp; omega
          simp only [hunksOf, hl2]
          rw [show at_ + (k - at_) = k by omega, ← e1]
          cases h
          simp_all
        · simp only [oldOf]
          rw [← e2]
          have : l.drop at_ = (l.take k).drop at_ ++ l.drop k := by
            conv => lhs; rw [← List.take_append_drop k l]
            rw [List.drop_append_of_le_length (by simp; omega)]
          rw [this]
          congr 1
          conv => lhs; rw [← List.take_append_drop h.old.length (l.drop k), he]
          rw [List.drop_drop]
        · rw [e3]; simp [newOf]
        · intro s hsm
          simp only [List.tail_cons] at hsm
          cases segs with
          | nil => cases hsm
          | cons s0 segs =>
            rcases List.mem_cons.1 hsm with rfl | hm
            · intro e
              have := hlt ⟨((k + h.old.length + s.keep.length : Nat) : Int), s.old, s.new⟩ (by rw [e1]; rfl)
              rw [e] at this
              simp at this
            · exact e4 s hm
      · rw [if_neg he] at hgo; cases hgo

theorem lines_cons (x : Line) (r : List Line) (hr : r ≠ []) : lines (x :: r) = (okLine x && shut x && lines r) := by
  cases r with
  | nil => exact absurd rfl hr
  | cons y r => rfl
/-- Behind some lines others stand: the first ones all end. -/
theorem lines_append (A B : List Line) (hB : B ≠ []) : lines (A ++ B) = (A.all (fun x => okLine x && shut x) && lines B) := by
  induction A with
  | nil => simp
  | cons x A ih =>
    rw [List.cons_append, lines_cons x _ (by simp [hB]), ih, List.all_cons]
    simp [Bool.and_assoc]
theorem lines_tail (A B : List Line) (h : lines (A ++ B) = true) : lines B = true := by
  by_cases hB : B = []
  · subst hB; rfl
  · rw [lines_append A B hB, Bool.and_eq_true] at h
    exact h.2
theorem oldOf_append (s r : List Seg) (t : List Line) : oldOf (s ++ r) t = oldOf s [] ++ oldOf r t := by
  induction s with
  | nil => rfl
  | cons x s ih => simp [oldOf, ih]
theorem newOf_append (s r : List Seg) (t : List Line) : newOf (s ++ r) t = newOf s [] ++ newOf r t := by
  induction s with
  | nil => rfl
  | cons x s ih => simp [newOf, ih]

/-- The front as it was, the rest exchanged: lines, where all was and all is. -/
theorem lines_mixed (p r : List Seg) (t : List Line) (hk : ∀ s ∈ (p ++ r).tail, s.keep ≠ []) (h1 : lines (oldOf (p ++ r) t) = true) (h2 : lines (newOf (p ++ r) t) = true) : lines (oldOf p [] ++ newOf r t) = true := by
  cases p with
  | nil => exact h2
  | cons s0 p =>
    cases r with
    | nil => rw [oldOf_append] at h1; exact h1
    | cons s r =>
      have hs : s.keep ≠ [] := hk s (by simp)
      rw [oldOf_append] at h1
      rw [newOf_append] at h2
      have h3 := lines_tail _ _ h2
      have n1 : newOf (s :: r) t ≠ [] := by simp [newOf, hs]
      have n2 : oldOf (s :: r) t ≠ [] := by simp [oldOf, hs]
      rw [lines_append _ _ n1, h3]
      rw [lines_append _ _ n2, Bool.and_eq_true] at h1
      rw [h1.1]; rfl

def Seg.swap (s : Seg) : Seg := ⟨s.keep, s.new, s.old⟩
/-- The inverses, each at its place behind the others; d: how many lines more there are ahead. -/
def backs : Int → List H → List H
  | _, [] => []
  | d, h :: r => ⟨h.at_ + d, h.new, h.old⟩ :: backs (d + h.new.length - h.old.length) r
/-- How many lines more there are. -/
def moreOf : List H → Int
  | [] => 0
  | h :: r => h.new.length - h.old.length + moreOf r
theorem backs_segs (segs : List Seg) : ∀ (k k' : Nat) (d : Int), (k : Int) + d = k' → backs d (hunksOf k segs) = hunksOf k' (segs.map Seg.swap) := by
  induction segs with
  | nil => intros; rfl
  | cons s r ih =>
    intro k k' d hd
    simp only [hunksOf, backs, List.map_cons, Seg.swap]
    rw [ih (k + s.keep.length + s.old.length) (k' + s.keep.length + s.new.length) _ (by omega)]
    congr 2
    omega
theorem oldOf_swap (segs : List Seg) (t : List Line) : oldOf (segs.map Seg.swap) t = newOf segs t := by
  induction segs with
  | nil => rfl
  | cons s r ih => simp [oldOf, newOf, Seg.swap] at ih ⊢; exact ih
theorem newOf_swap (segs : List Seg) (t : List Line) : newOf (segs.map Seg.swap) t = oldOf segs t := by
  induction segs with
  | nil => rfl
  | cons s r ih => simp [oldOf, newOf, Seg.swap] at ih ⊢; exact ih
theorem more_segs (segs : List Seg) (t : List Line) : ∀ k, ((newOf segs t).length : Int) = (oldOf segs t).length + moreOf (hunksOf k segs) := by
  induction segs with
  | nil => intro k; simp [newOf, oldOf, hunksOf, moreOf]
  | cons s r ih =>
    intro k
    have := ih (k + s.keep.length + s.old.length)
    simp only [newOf, oldOf, hunksOf, moreOf, List.length_append]
    omega
/-- The hunks of parts do what they say. -/
theorem segs_go (l : List Line) (segs : List Seg) (t : List Line) : ∀ (k : Nat) (out : List Line), k ≤ l.length → l.drop k = oldOf segs t → go l k out (hunksOf k segs) = .ok (out ++ newOf segs t) := by
  induction segs with
  | nil => intro k out _ h; simp [hunksOf, go, newOf, h, oldOf]
  | cons s r ih =>
    intro k out hk h
    have hl : (l.drop k).length = l.length - k := by simp
    have hl2 := congrArg List.length h
    simp only [oldOf, List.length_append, hl] at hl2
    simp only [hunksOf, go, Int.toNat_natCast]
    rw [if_neg (by omega)]
    have e1 : l.drop (k + s.keep.length) = s.old ++ oldOf r t := by
      rw [← List.drop_drop, h]; simp [oldOf]
    have e2 : (l.take (k + s.keep.length)).drop k = s.keep := by
      rw [List.drop_take, Nat.add_sub_cancel_left, h]; simp [oldOf]
    rw [e1, e2, if_pos (by simp), ih _ _ (by omega) (by rw [← List.drop_drop, e1]; simp)]
    simp [newOf]
theorem sorted_back (segs : List Seg) : ∀ (k k' : Nat) (last last' : Int), last' < k' + (segs.head?.map fun s => s.keep.length).getD 0 ∨ segs = [] → (∀ s ∈ segs.tail, s.keep ≠ []) → k' + (newOf segs []).length ≤ 1099511627776 → sorted last (hunksOf k segs) = true → sorted last' (hunksOf k' (segs.map Seg.swap)) = true := by
  induction segs with
  | nil => intros; rfl
  | cons s r ih =>
    intro k k' last last' hl hk hb h
    simp only [List.head?_cons, Option.map_some, Option.getD_some, reduceCtorEq, or_false] at hl
    simp only [hunksOf, sorted, right, Bool.and_eq_true, decide_eq_true_eq, Bool.not_eq_true'] at h
    simp only [newOf, List.length_append] at hb
    simp only [List.map_cons, hunksOf, Seg.swap, sorted, right, Bool.and_eq_true, decide_eq_true_eq, Bool.not_eq_true']
    refine ⟨⟨⟨⟨⟨⟨by omega, by omega⟩, h.1.1.1.2⟩, h.1.1.1.1.2⟩, ?_⟩, by omega⟩, ?_⟩
    · have := h.1.1.2
      simp only [decide_eq_false_iff_not] at this ⊢
      exact fun e => this e.symm
    · refine ih (k + s.keep.length + s.old.length) (k' + s.keep.length + s.new.length) _ _ ?_ (fun x hx => hk x ?_) (by omega) h.2
      · cases r with
        | nil => exact .inr rfl
        | cons y r =>
          left
          have : y.keep ≠ [] := hk y (by simp)
          have : 0 < y.keep.length := List.length_pos_iff.2 this
          simp only [List.head?_cons, Option.map_some, Option.getD_some]
          omega
      · exact List.mem_of_mem_tail hx
theorem newOf_le (segs : List Seg) (t : List Line) : (newOf segs []).length ≤ (newOf segs t).length := by
  induction segs with
  | nil => simp [newOf]
  | cons s r ih => simp [newOf] at ih ⊢; omega
theorem sorted_pos : ∀ (hs : List H) (last : Int), sorted last hs = true → ∀ h ∈ hs, right h = true := by
  intro hs
  induction hs with
  | nil => intro _ _ h hh; cases hh
  | cons x r ih =>
    intro last h y hy
    simp only [sorted, Bool.and_eq_true, decide_eq_true_eq] at h
    rcases List.mem_cons.1 hy with rfl | hy
    · exact h.1.1
    · exact ih _ h.2 y hy
theorem right_pos {h : H} (r : right h = true) : 0 ≤ h.at_ := by
  simp only [right, Bool.and_eq_true, decide_eq_true_eq] at r
  exact r.1.1.1.1

/-- What was applied, in parts. -/
theorem apply_segs {l a : List Line} {hs : List H} (h : apply l hs = .ok a) : ∃ segs t, hs = hunksOf 0 segs ∧ l = oldOf segs t ∧ a = newOf segs t ∧ (∀ s ∈ segs.tail, s.keep ≠ []) ∧ lines l = true ∧ lines a = true ∧ sorted (-1) hs = true := by
  unfold apply at h
  by_cases h0 : (lines l && sorted (-1) hs) = true
  · rw [if_pos h0] at h
    rw [Bool.and_eq_true] at h0
    cases hg : go l 0 [] hs with
    | error e => rw [hg] at h; cases h
    | ok o =>
      rw [hg] at h
      simp only at h
      by_cases ho : lines o = true
      · rw [if_pos ho] at h
        cases h
        have hp : ∀ h ∈ hs, 0 ≤ h.at_ := fun x hx => right_pos (sorted_pos hs _ h0.2 x hx)
        obtain ⟨segs, t, e1, e2, e3, e4⟩ := go_segs l hs 0 [] a (-1) (by omega) (by omega) hp (fun _ x hx => hp x (List.mem_of_mem_head? hx)) h0.2 hg
        exact ⟨segs, t, e1, by simpa using e2, by simpa using e3, e4, h0.1, ho, h0.2⟩
      · rw [if_neg ho] at h; cases h
  · rw [if_neg h0] at h; cases h
/-- Hunks that were applied are undone by their inverses. -/
theorem apply_back {l a : List Line} {hs : List H} (h : apply l hs = .ok a) (hb : a.length ≤ 1099511627776) : apply a (backs 0 hs) = .ok l ∧ (a.length : Int) = l.length + moreOf hs := by
  obtain ⟨segs, t, rfl, rfl, rfl, hk, hl, ha, hs⟩ := apply_segs h
  refine ⟨?_, more_segs segs t 0⟩
  rw [backs_segs segs 0 0 0 rfl]
  have h1 : sorted (-1) (hunksOf 0 (segs.map Seg.swap)) = true := by
    refine sorted_back segs 0 0 (-1) (-1) ?_ hk ?_ hs
    · left; omega
    · have := newOf_le segs t; omega
  have h2 := segs_go (newOf segs t) (segs.map Seg.swap) t 0 [] (by omega) (by rw [oldOf_swap]; rfl)
  unfold apply
  rw [ha, h1, h2, newOf_swap]
  simp [hl]
theorem hunksOf_append (p r : List Seg) : ∀ k, hunksOf k (p ++ r) = hunksOf k p ++ hunksOf (k + (oldOf p []).length) r := by
  induction p with
  | nil => intro k; simp [hunksOf, oldOf]
  | cons s p ih => intro k; simp [hunksOf, oldOf, ih, Nat.add_assoc]
theorem hunksOf_len (p : List Seg) : ∀ k, (hunksOf k p).length = p.length := by
  induction p with
  | nil => intro k; rfl
  | cons s p ih => intro k; simp [hunksOf, ih]
/-- One hunk alone. -/
theorem apply_one {l a : List Line} {h : H} (p q : List Line) (hl : l = p ++ (h.old ++ q)) (ha : a = p ++ (h.new ++ q)) (he : h.at_ = p.length) (h1 : lines l = true) (h2 : lines a = true) (hr : right h = true) : apply l [h] = .ok a := by
  have hs : [h] = hunksOf 0 [⟨p, h.old, h.new⟩] := by
    cases h; simp_all [hunksOf]
  have hg := segs_go l [⟨p, h.old, h.new⟩] q 0 [] (by omega) (by simp [oldOf, hl])
  have hso : sorted (-1) [h] = true := by
    simp only [sorted, hr, Bool.and_true, Bool.true_and, decide_eq_true_eq]; omega
  unfold apply
  rw [h1, hso, hs, hg]
  simp [newOf, ← ha, h2]
/-- Applied one by one, from the last one to the first, hunks make what they make at once: each step. -/
theorem apply_last {l a : List Line} {hs : List H} (h : apply l hs = .ok a) : ∃ c : Nat → List Line, c hs.length = l ∧ c 0 = a ∧ ∀ (i : Nat) (x : H), hs[i]? = some x → apply (c (i + 1)) [x] = .ok (c i) := by
  obtain ⟨segs, t, rfl, rfl, rfl, hk, hl, ha, hs⟩ := apply_segs h
  have hmix : ∀ i, lines (oldOf (segs.take i) [] ++ newOf (segs.drop i) t) = true := fun i =>
    lines_mixed (segs.take i) (segs.drop i) t (by rw [List.take_append_drop]; exact hk) (by rw [List.take_append_drop]; exact hl) (by rw [List.take_append_drop]; exact ha)
  refine ⟨fun i => oldOf (segs.take i) [] ++ newOf (segs.drop i) t, ?_, ?_, ?_⟩
  · simp only [hunksOf_len, List.take_length, List.drop_length]
    have := oldOf_append segs [] t
    rw [List.append_nil] at this
    exact this.symm
  · simp [oldOf]
  · intro i x hx
    have hil : i < segs.length := by have := (List.getElem?_eq_some_iff.1 hx).1; rwa [hunksOf_len] at this
    obtain ⟨s, hs0⟩ : ∃ s, segs[i]? = some s := ⟨segs[i], List.getElem?_eq_getElem hil⟩
    have hsplit : segs = segs.take i ++ (s :: segs.drop (i + 1)) := by
      conv => lhs; rw [← List.take_append_drop i segs]
      rw [List.drop_eq_getElem_cons hil]
      have := (List.getElem?_eq_some_iff.1 hs0).2
      rw [this]
    have hxe : x = ⟨(((oldOf (segs.take i) []).length + s.keep.length : Nat) : Int), s.old, s.new⟩ := by
      have h2 : (hunksOf 0 segs)[i]? = some x := hx
      rw [hsplit, hunksOf_append, List.getElem?_append_right (by rw [hunksOf_len]; simp; omega), hunksOf_len] at h2
      simp only [List.length_take, Nat.min_eq_left (Nat.le_of_lt hil), Nat.sub_self, hunksOf, List.getElem?_cons_zero, Option.some.injEq, Nat.zero_add] at h2
      exact h2.symm
    have ht : segs.take (i + 1) = segs.take i ++ [s] := by
      rw [List.take_add_one, hs0]; rfl
    refine apply_one (oldOf (segs.take i) [] ++ s.keep) (newOf (segs.drop (i + 1)) t) ?_ ?_ ?_ (hmix (i + 1)) (hmix i) (sorted_pos _ _ hs x (List.mem_of_getElem? hx))
    · show oldOf (segs.take (i + 1)) [] ++ _ = _
      rw [ht, oldOf_append, hxe]; simp [oldOf]
    · have hd : segs.drop i = s :: segs.drop (i + 1) := by
        rw [List.drop_eq_getElem_cons hil]
        have := (List.getElem?_eq_some_iff.1 hs0).2
        rw [this]
      show oldOf (segs.take i) [] ++ newOf (segs.drop i) t = _
      rw [hd, hxe]; simp [newOf]
    · rw [hxe]; simp

end Go.Proofs.Ytkiafelpgcmifaa.Hn
