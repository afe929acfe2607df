/-
  Several texts in one, as they are: BnPass1, BnPass2, BnPass3, BnPass4.
-/
import Derived.Test.YtnndgjnihhafbaaGreatDoorBnPlain

/-
  The first pass, against what the document tells: two Funcs of one name.
-/
namespace Go.Proofs.YtnndgjnihhafbaaGreatDoor
namespace Bn

def funcs (P : List Pl) : List Pl := P.filter fun b => decide (b.n.k = 2)
/-- What the names of Funcs stand for, those ahead. -/
def FnsOk (P : List Pl) (fns : Sc) : Prop := ∀ q, (find fns q).map (fun k => (funcs P)[k]?) = (callStands P q).map some
structure Inv1 (P : List Pl) (s : St) : Prop where
  bds : s.bds = (funcs P).map fun b => ⟨b.p, b.n.t, [], params b.n⟩
  fns : FnsOk P s.fns
  own : s.own = [[]]
  met : s.met = []
theorem twice_func {P : List Pl} {u : Pl} (hg : ∀ b ∈ P, Good b.n b.p) (hu : Good u.n u.p) (hk : u.n.k = 2) : twice P u = true ↔ callStands P u.n.t ≠ none := by
  unfold twice callStands
  rw [List.any_eq_true, ne_eq, List.find?_eq_none]
  obtain ⟨j, hj⟩ := hu.1 hk
  constructor
  · rintro ⟨b, hb, h⟩ hn
    simp only [Bool.and_eq_true, decide_eq_true_iff] at h
    refine hn b hb ?_
    simp only [Bool.and_eq_true, decide_eq_true_iff]
    exact ⟨h.1.1.1.trans hk, h.1.1.2⟩
  · intro hn
    refine Classical.byContradiction fun hc => hn fun b hb hh => hc ⟨b, hb, ?_⟩
    simp only [Bool.and_eq_true, decide_eq_true_iff] at hh ⊢
    obtain ⟨i, hi⟩ := (hg b hb).1 hh.1
    refine ⟨⟨⟨hh.1.trans hk.symm, hh.2⟩, by rw [hi, hj]; rfl⟩, by rw [hj, hi]; exact List.nil_prefix⟩
theorem funcs_snoc (P : List Pl) (u : Pl) : funcs (P ++ [u]) = funcs P ++ if u.n.k = 2 then [u] else [] := by
  unfold funcs
  rw [List.filter_append]
  by_cases h : u.n.k = 2 <;> simp [h]
theorem callStands_snoc (P : List Pl) (u : Pl) (q : List UInt8) : callStands (P ++ [u]) q = (callStands P q).or (if u.n.k = 2 ∧ u.n.t = q then some u else none) := by
  unfold callStands
  rw [List.find?_append]
  congr 1
  by_cases h : u.n.k = 2 <;> by_cases h2 : u.n.t = q <;> simp [h, h2]
/-- A node is looked at in the first pass. -/
theorem look1_ref {P : List Pl} {x : Tr} {p : List Nat} {s : St} (hg : ∀ b ∈ P, Good b.n b.p) (hu : Good x p) (h : Inv1 P s) :
    match fault1 P ⟨x, p⟩ with
    | some e => look1 x p s = .error e
    | none => ∃ s', look1 x p s = .ok (s', .nothing) ∧ Inv1 (P ++ [⟨x, p⟩]) s' := by
  unfold fault1 look1
  by_cases hk : x.k = 2
  · have h2 := twice_func (u := ⟨x, p⟩) hg hu hk
    have hf := h.fns x.t
    rw [if_pos hk]
    simp only [hk, true_and]
    by_cases ht : twice P ⟨x, p⟩ = true
    · rw [if_pos ht]
      simp only
      have hc := h2.1 ht
      cases hfd : find s.fns x.t with
      | some k => rfl
      | none => rw [hfd] at hf; exact absurd (Option.map_eq_none_iff.1 hf.symm) hc
    · rw [if_neg ht]
      have hc : callStands P x.t = none := Classical.byContradiction fun e => ht (h2.2 e)
      cases hfd : find s.fns x.t with
      | some k => rw [hfd, hc] at hf; simp at hf
      | none =>
        refine ⟨_, rfl, ⟨?_, fun q => ?_, h.own, h.met⟩⟩
        · show s.bds ++ _ = _
          rw [h.bds, funcs_snoc, if_pos hk, List.map_append]
          rfl
        · rw [callStands_snoc, funcs_snoc]
          simp only [hk, if_true, true_and, find]
          by_cases hq : x.t = q
          · subst hq
            rw [if_pos rfl, if_pos rfl, hc]
            show some ((funcs P ++ [_])[s.bds.length]?) = some (some _)
            rw [h.bds, List.length_map]
            simp
          · rw [if_neg hq, if_neg hq, Option.or_none]
            have hfq := h.fns q
            cases hq2 : find s.fns q with
            | none => rw [hq2] at hfq; exact hfq
            | some k =>
              rw [hq2] at hfq
              rw [← hfq]
              show some _ = some _
              congr 1
              simp only [Option.map_some] at hfq
              obtain ⟨b, -, hb⟩ := Option.map_eq_some_iff.1 hfq.symm
              exact List.getElem?_append_left (List.getElem?_eq_some_iff.1 hb.symm).1
  · rw [if_neg hk, if_neg (fun e => hk e.1)]
    refine ⟨s, rfl, ⟨by rw [funcs_snoc, if_neg hk, List.append_nil]; exact h.bds, fun q => ?_, h.own, h.met⟩⟩
    rw [callStands_snoc, funcs_snoc, if_neg hk, if_neg (fun e => hk e.1), List.append_nil, Option.or_none]
    exact h.fns q
def Res1 (P : List Pl) (Q : List Pl) (n : Nat) (r : Except (Nat × Nat) (St × Nat)) : Prop :=
  match firstFault fault1 P Q with
  | some f => r = .error f
  | none => ∃ s', r = .ok (s', P.length + n) ∧ Inv1 (P ++ Q) s'
mutual
theorem visit1_ref : ∀ (x : Tr) (p : List Nat) (P : List Pl) (s : St), (∀ b ∈ P ++ placesOf x p, Good b.n b.p) → Inv1 P s → Res1 P (placesOf x p) x.size (visit look1 x p P.length s)
  | .mk k t n l, p, P, s => fun hg h => by
    rw [placesOf] at hg ⊢
    rw [visit_eq]
    have h1 := look1_ref (x := .mk k t n l) (p := p) (fun b hb => hg b (List.mem_append_left _ hb)) (hg ⟨.mk k t n l, p⟩ (by simp)) h
    unfold Res1
    rw [firstFault]
    cases hf : fault1 P ⟨.mk k t n l, p⟩ with
    | some e => rw [hf] at h1; simp only; rw [h1]
    | none =>
      rw [hf] at h1
      obtain ⟨s1, e1, hI⟩ := h1
      rw [e1]
      simp only
      have h2 := visits1_ref l 0 p (P ++ [⟨.mk k t n l, p⟩]) s1 (by simpa using hg) hI
      unfold Res1 at h2
      rw [List.length_append] at h2
      cases hf2 : firstFault fault1 (P ++ [⟨.mk k t n l, p⟩]) (placesL l 0 p) with
      | some e =>
        rw [hf2] at h2
        show (match visits look1 l 0 p (P.length + 1) s1 with | .error f => _ | .ok (s2, j) => _) = _
        rw [show P.length + 1 = P.length + [(⟨.mk k t n l, p⟩ : Pl)].length from rfl, h2]
      | none =>
        rw [hf2] at h2
        obtain ⟨s2, e2, hI2⟩ := h2
        refine ⟨s2, ?_, by simpa using hI2⟩
        show (match visits look1 l 0 p (P.length + 1) s1 with | .error f => _ | .ok (s2, j) => _) = _
        rw [show P.length + 1 = P.length + [(⟨.mk k t n l, p⟩ : Pl)].length from rfl, e2]
        simp only [Tr.size, behind, List.length_singleton]
        rw [Nat.add_assoc]
theorem visits1_ref : ∀ (l : List Tr) (c : Nat) (p : List Nat) (P : List Pl) (s : St), (∀ b ∈ P ++ placesL l c p, Good b.n b.p) → Inv1 P s → Res1 P (placesL l c p) (Tr.sizes l) (visits look1 l c p P.length s)
  | [], c, p, P, s => fun _ h => by
    unfold Res1
    rw [placesL, visits_nil]
    exact ⟨s, by simp [Tr.sizes], by simpa using h⟩
  | x :: l, c, p, P, s => fun hg h => by
    rw [placesL] at hg ⊢
    rw [visits_cons]
    have h1 := visit1_ref x (p ++ [c]) P s (fun b hb => hg b (by rw [← List.append_assoc]; exact List.mem_append_left _ hb)) h
    unfold Res1 at h1 ⊢
    rw [firstFault_append]
    cases hf : firstFault fault1 P (placesOf x (p ++ [c])) with
    | some e => rw [hf] at h1; simp only; rw [h1]
    | none =>
      rw [hf] at h1
      obtain ⟨s1, e1, hI⟩ := h1
      rw [e1]
      simp only
      have h2 := visits1_ref l (c + 1) p (P ++ placesOf x (p ++ [c])) s1 (by simpa using hg) hI
      unfold Res1 at h2
      rw [List.length_append, placesOf_len] at h2
      cases hf2 : firstFault fault1 (P ++ placesOf x (p ++ [c])) (placesL l (c + 1) p) with
      | some e => rw [hf2] at h2; rw [h2]
      | none =>
        rw [hf2] at h2
        obtain ⟨s2, e2, hI2⟩ := h2
        refine ⟨s2, ?_, by simpa using hI2⟩
        rw [e2, Tr.sizes, Nat.add_assoc]
end
end Bn
end Go.Proofs.YtnndgjnihhafbaaGreatDoor

/-
  The second pass, against what the document tells: what is done at one node.
-/
namespace Go.Proofs.YtnndgjnihhafbaaGreatDoor
namespace Bn

def pvs (P : List Pl) : List Pl := P.filter fun b => isPV b.n
/-- The binders that there are so far: all Funcs, Params and Vars ahead. -/
def FP (L P : List Pl) : List Pl := funcs L ++ pvs P
structure Inv (L P : List Pl) (s : St) : Prop where
  bds : s.bds = (FP L P).map (bd L P)
  met : s.met.map (fun k => (FP L P)[k]?) = (P.filter fun b => isBinder b.n).map some
  fns : FnsOk L s.fns
/-- Names with the numbers of binders read as these nodes. -/
def Maps (L P : List Pl) (xs : Sc) (ys : List Pl) : Prop := xs.map (fun x => (x.1, (FP L P)[x.2]?)) = ys.map fun b => (b.n.t, some b)
/-- What is in reach. -/
def inReach (P : List Pl) (p : List Nat) : List Pl := P.filter fun b => isPV b.n && reach b p
def Env (L P : List Pl) (p : List Nat) (own : List Sc) : Prop := Maps L P own.flatten (inReach P p).reverse

theorem FP_append (L P Q : List Pl) : FP L (P ++ Q) = FP L P ++ pvs Q := by
  unfold FP pvs
  rw [List.filter_append, List.append_assoc]
theorem FP_more {L P : List Pl} (Q : List Pl) {k : Nat} {b : Pl} (h : (FP L P)[k]? = some b) : (FP L (P ++ Q))[k]? = some b := by
  rw [FP_append, List.getElem?_append_left (List.getElem?_eq_some_iff.1 h).1, h]
theorem pvs_one (u : Pl) : pvs [u] = if isPV u.n = true then [u] else [] := by
  unfold pvs
  cases h : isPV u.n <;> simp [h]
theorem Maps.more {L P : List Pl} (Q : List Pl) : ∀ {xs : Sc} {ys : List Pl}, Maps L P xs ys → Maps L (P ++ Q) xs ys
  | [], [], _ => rfl
  | [], _ :: _, h => by simp [Maps] at h
  | _ :: _, [], h => by simp [Maps] at h
  | x :: xs, y :: ys, h => by
    unfold Maps at h ⊢
    rw [List.map_cons, List.map_cons] at h ⊢
    injection h with h1 h2
    injection h1 with h3 h4
    have := Maps.more Q (L := L) (P := P) (xs := xs) (ys := ys) h2
    unfold Maps at this
    rw [this, FP_more Q h4, h3]
theorem Maps.append {L P : List Pl} {xs xs' : Sc} {ys ys' : List Pl} (h : Maps L P xs ys) (h' : Maps L P xs' ys') : Maps L P (xs ++ xs') (ys ++ ys') := by
  unfold Maps at *
  rw [List.map_append, List.map_append, h, h']
theorem Maps.cons {L P : List Pl} {xs : Sc} {ys : List Pl} {q : List UInt8} {k : Nat} {b : Pl} (h : Maps L P xs ys) (hb : (FP L P)[k]? = some b) (hq : b.n.t = q) : Maps L P ((q, k) :: xs) (b :: ys) := by
  unfold Maps at *
  rw [List.map_cons, List.map_cons, h, hb, hq]
theorem Maps.nil {L P : List Pl} {xs : Sc} (h : Maps L P xs []) : xs = [] := by
  unfold Maps at h
  exact List.map_eq_nil_iff.1 h
theorem Maps.find {L P : List Pl} (q : List UInt8) : ∀ {xs : Sc} {ys : List Pl}, Maps L P xs ys → (Bn.find xs q).map (fun k => (FP L P)[k]?) = (ys.find? fun b => decide (b.n.t = q)).map some
  | [], [], _ => rfl
  | [], _ :: _, h => by simp [Maps] at h
  | _ :: _, [], h => by simp [Maps] at h
  | x :: xs, y :: ys, h => by
    unfold Maps at h
    rw [List.map_cons, List.map_cons] at h
    injection h with h1 h2
    injection h1 with h3 h4
    rw [Bn.find, List.find?_cons]
    by_cases hq : x.1 = q
    · rw [if_pos hq, show decide (y.n.t = q) = true from decide_eq_true (h3 ▸ hq)]
      show some ((FP L P)[x.2]?) = some (some y)
      rw [h4]
    · rw [if_neg hq, show decide (y.n.t = q) = false from decide_eq_false (h3 ▸ hq)]
      exact Maps.find q h2
theorem find_append (a b : Sc) (q : List UInt8) : Bn.find (a ++ b) q = match Bn.find a q with | some k => some k | none => Bn.find b q := by
  induction a with
  | nil => rfl
  | cons x r ih =>
    rw [List.cons_append, Bn.find, Bn.find]
    split
    · rfl
    · exact ih
theorem variable_flat (own : List Sc) (q : List UInt8) : variable_ own q = Bn.find own.flatten q := by
  induction own with
  | nil => rfl
  | cons m r ih => rw [variable_, List.flatten_cons, find_append, ih]; cases Bn.find m q <;> rfl
theorem find_filter {α : Type} (l : List α) (f g : α → Bool) : (l.filter f).find? g = l.find? fun a => f a && g a := by
  induction l with
  | nil => rfl
  | cons x r ih =>
    rw [List.filter_cons, List.find?_cons]
    cases hf : f x with
    | false => simp only [Bool.false_and, Bool.false_eq_true, if_false]; exact ih
    | true => simp only [if_true, Bool.true_and]; rw [List.find?_cons, ih]
theorem nameStands_in (P : List Pl) (q : List UInt8) (p : List Nat) : nameStands P q p = (inReach P p).reverse.find? fun b => decide (b.n.t = q) := by
  unfold nameStands inReach
  rw [← List.filter_reverse, find_filter]
theorem File.fp {L P R : List Pl} (h : File L) (hL : L = P ++ R) : ((FP L P).map (·.p)).Nodup := by
  unfold FP
  rw [List.map_append]
  have hs : (pvs P).Sublist L := by rw [hL]; exact (List.filter_sublist).trans (List.sublist_append_left _ _)
  refine List.nodup_append.2 ⟨h.nodup List.filter_sublist, h.nodup hs, fun a ha b hb he => ?_⟩
  obtain ⟨x, hx, rfl⟩ := List.mem_map.1 ha
  obtain ⟨y, hy, rfl⟩ := List.mem_map.1 hb
  have := h.inj_mem (List.filter_sublist.subset hx) (hs.subset hy) he
  subst this
  have h1 := (List.mem_filter.1 hx).2
  have h2 := (List.mem_filter.1 hy).2
  rw [decide_eq_true_iff] at h1
  simp [isPV, h1] at h2
theorem isFor_some {L : List Pl} {u b0 : Pl} (hu : isUse u.n = true) (hs : standsFor L u = some b0) (b : Pl) : isFor L b u = decide (b0.p = b.p) := by
  unfold isFor
  rw [hu, hs]
  rfl
theorem addUse_map {L P : List Pl} {u b0 : Pl} (hu : isUse u.n = true) (hs : standsFor L u = some b0) : ∀ (l : List Pl) (k : Nat), (l.map (·.p)).Nodup → l[k]? = some b0 → addUse (l.map (bd L P)) k u.p = l.map (bd L (P ++ [u]))
  | [], k, _, hk => by simp at hk
  | b :: r, 0, hn, hk => by
    injection hk with hk
    subst hk
    rw [List.map_cons, List.map_cons, addUse]
    rw [List.map_cons, List.nodup_cons] at hn
    congr 1
    · unfold bd
      rw [usesIn_snoc, isFor_some hu hs, if_pos (by simp)]
    · refine List.map_congr_left fun c hc => ?_
      unfold bd
      rw [usesIn_snoc, isFor_some hu hs, if_neg, List.append_nil]
      rw [decide_eq_true_iff]
      intro e
      exact hn.1 (e ▸ List.mem_map_of_mem hc)
  | b :: r, k + 1, hn, hk => by
    rw [List.map_cons, List.map_cons, addUse]
    rw [List.map_cons, List.nodup_cons] at hn
    rw [List.getElem?_cons_succ] at hk
    rw [addUse_map hu hs r k hn.2 hk]
    congr 1
    unfold bd
    rw [usesIn_snoc, isFor_some hu hs, if_neg, List.append_nil]
    rw [decide_eq_true_iff]
    intro e
    exact hn.1 (e ▸ List.mem_map_of_mem (List.mem_of_getElem? hk))
theorem FP_skip {L P : List Pl} {u : Pl} (h : isPV u.n = false) : FP L (P ++ [u]) = FP L P := by
  rw [FP_append, pvs_one, h]; simp
theorem bd_skip {L P : List Pl} {u : Pl} (h : isUse u.n = false) (l : List Pl) : l.map (bd L (P ++ [u])) = l.map (bd L P) := by
  refine List.map_congr_left fun c _ => ?_
  unfold bd
  rw [usesIn_snoc, if_neg, List.append_nil]
  unfold isFor
  rw [h]; simp
theorem met_more {L P : List Pl} (Q : List Pl) : ∀ {l : List Nat} {ys : List Pl}, l.map (fun k => (FP L P)[k]?) = ys.map some → l.map (fun k => (FP L (P ++ Q))[k]?) = ys.map some
  | [], [], _ => rfl
  | [], _ :: _, h => by simp at h
  | _ :: _, [], h => by simp at h
  | x :: l, y :: ys, h => by
    rw [List.map_cons, List.map_cons] at h ⊢
    injection h with h1 h2
    rw [met_more Q h2, FP_more Q h1]
theorem Inv.skip {L P : List Pl} {u : Pl} {s : St} (h : Inv L P s) (h1 : isPV u.n = false) (h2 : isUse u.n = false) (h3 : isBinder u.n = false) : Inv L (P ++ [u]) s := by
  refine ⟨by rw [h.bds, FP_skip h1, bd_skip h2], ?_, h.fns⟩
  rw [FP_skip h1, h.met, List.filter_append]
  simp [h3]
theorem Inv.used {L P R : List Pl} {u b0 : Pl} {s : St} {k : Nat} (hF : File L) (hL : L = P ++ u :: R) (h : Inv L P s) (hu : isUse u.n = true) (hs : standsFor L u = some b0) (hk : (FP L P)[k]? = some b0) : Inv L (P ++ [u]) (s.use k u.p) := by
  have h1 : isPV u.n = false := by
    simp only [isUse, isPV, Bool.or_eq_true, beq_iff_eq] at hu ⊢
    rcases hu with hu | hu <;> rw [hu] <;> rfl
  have h3 : isBinder u.n = false := by
    simp only [isUse, isBinder, Bool.or_eq_true, beq_iff_eq] at hu ⊢
    rcases hu with hu | hu <;> rw [hu] <;> rfl
  refine ⟨?_, ?_, h.fns⟩
  · show addUse s.bds k u.p = _
    rw [h.bds, FP_skip h1]
    exact addUse_map hu hs _ k (hF.fp hL) hk
  · rw [FP_skip h1]
    show s.met.map _ = _
    rw [h.met, List.filter_append]
    simp [h3]
theorem Inv.new {L P R : List Pl} {u : Pl} {s : St} (hF : File L) (hL : L = P ++ u :: R) (h : Inv L P s) (hv : isPV u.n = true) : Inv L (P ++ [u]) { s with bds := s.bds ++ [⟨u.p, u.n.t, [], 0⟩], met := s.met ++ [s.bds.length] } ∧ (FP L (P ++ [u]))[s.bds.length]? = some u := by
  have h2 : isUse u.n = false := by
    simp only [isUse, isPV, Bool.or_eq_true, beq_iff_eq] at hv ⊢
    rcases hv with hv | hv <;> rw [hv] <;> rfl
  have h3 : isBinder u.n = true := by
    simp only [isBinder, isPV, Bool.or_eq_true, beq_iff_eq] at hv ⊢
    rcases hv with hv | hv <;> simp [hv]
  have h4 : paramsOf' u.n = 0 := by
    simp only [isPV, Bool.or_eq_true, beq_iff_eq] at hv
    unfold paramsOf'
    rcases hv with hv | hv <;> rw [hv] <;> rfl
  have e : FP L (P ++ [u]) = FP L P ++ [u] := by rw [FP_append, pvs_one, if_pos hv]
  have e2 : (FP L (P ++ [u]))[s.bds.length]? = some u := by
    rw [e, h.bds, List.length_map]
    simp
  refine ⟨⟨?_, ?_, h.fns⟩, e2⟩
  · show s.bds ++ _ = _
    rw [bd_skip h2, e, List.map_append, h.bds]
    congr 1
    show [_] = [_]
    unfold bd
    rw [hF.uses_none hL hv, h4]
  · show (s.met ++ [s.bds.length]).map _ = _
    rw [List.map_append, met_more [u] h.met, List.filter_append, List.map_append]
    congr 1
    simp [h3, e2]
def afterOf (x : Tr) (n : Nat) : After := if x.k = 5 then .out else if x.k = 4 ∨ x.k = 6 then .declare n else .nothing
def ownOf (x : Tr) (own : List Sc) : List Sc := if x.k = 5 then [] :: own else own
/-- A node is looked at in the second pass. -/
theorem look2_ref {L P R : List Pl} {x : Tr} {p : List Nat} {s : St} (hF : File L) (hL : L = P ++ ⟨x, p⟩ :: R) (h : Inv L P s) (hE : x.k = 22 → Env L P p s.own) (n2 : x.k ≠ 2) (ht : x.k = 4 ∨ x.k = 6 → (Bn.find (s.own.headD []) x.t = none ↔ twice P ⟨x, p⟩ = false)) :
    match fault2 L P ⟨x, p⟩ with
    | some e => look2 x p s = .error e
    | none => ∃ s', look2 x p s = .ok (s', afterOf x s.bds.length) ∧ Inv L (P ++ [⟨x, p⟩]) s' ∧ s'.own = ownOf x s.own ∧ (x.k = 4 ∨ x.k = 6 → (FP L (P ++ [⟨x, p⟩]))[s.bds.length]? = some ⟨x, p⟩) := by
  unfold fault2 look2
  rw [if_neg n2]
  by_cases h46 : x.k = 4 ∨ x.k = 6
  · have hv : isPV x = true := by simp only [isPV, Bool.or_eq_true, beq_iff_eq]; exact h46
    have n5 : x.k ≠ 5 := by omega
    rw [if_neg n5, if_pos h46]
    rw [if_pos (show (⟨x, p⟩ : Pl).n.k = 4 ∨ (⟨x, p⟩ : Pl).n.k = 6 from h46)]
    have ht := ht h46
    by_cases htw : twice P ⟨x, p⟩ = true
    · rw [if_pos htw]
      cases hf : Bn.find (s.own.headD []) x.t with
      | some k => rfl
      | none => rw [ht.1 hf] at htw; cases htw
    · rw [if_neg htw]
      have hf := ht.2 (by simpa using htw)
      rw [hf]
      obtain ⟨h1, h2⟩ := h.new hF hL hv
      refine ⟨_, ?_, h1, ?_, fun _ => h2⟩
      · unfold afterOf; rw [if_neg n5, if_pos h46]
      · unfold ownOf; rw [if_neg n5]
  · rw [if_neg h46, if_neg (show ¬ ((⟨x, p⟩ : Pl).n.k = 4 ∨ (⟨x, p⟩ : Pl).n.k = 6) from h46)]
    have hv : isPV x = false := by
      rw [Bool.eq_false_iff]; simp only [isPV, ne_eq, Bool.or_eq_true, beq_iff_eq]; exact h46
    have hb : isBinder x = false := by
      rw [Bool.eq_false_iff]; simp only [isBinder, ne_eq, Bool.or_eq_true, beq_iff_eq]; omega
    by_cases h22 : x.k = 22
    · have n5 : x.k ≠ 5 := by omega
      have hu : isUse x = true := by simp [isUse, h22]
      rw [if_neg n5, if_pos h22, if_pos (show (⟨x, p⟩ : Pl).n.k = 22 ∨ (⟨x, p⟩ : Pl).n.k = 25 from .inl h22)]
      have hst : standsFor L ⟨x, p⟩ = nameStands P x.t p := by
        unfold standsFor
        rw [if_neg (show (⟨x, p⟩ : Pl).n.k ≠ 25 by show x.k ≠ 25; omega)]
        exact hF.stands hL x.t
      have hfd := (hE h22).find x.t
      rw [← nameStands_in, ← variable_flat, ← hst] at hfd
      cases hs : standsFor L ⟨x, p⟩ with
      | none =>
        rw [hs] at hfd
        cases hq : variable_ s.own x.t with
        | none => rfl
        | some k => rw [hq] at hfd; cases hfd
      | some b0 =>
        rw [hs] at hfd
        cases hq : variable_ s.own x.t with
        | none => rw [hq] at hfd; cases hfd
        | some k =>
          rw [hq] at hfd
          injection hfd with hfd
          simp only
          rw [if_neg (fun e => by have := e.1; omega)]
          refine ⟨_, ?_, h.used hF hL hu hs hfd, ?_, fun e => absurd e h46⟩
          · unfold afterOf; rw [if_neg n5, if_neg h46]
          · unfold ownOf; rw [if_neg n5]; rfl
    · by_cases h25 : x.k = 25
      · have n5 : x.k ≠ 5 := by omega
        have hu : isUse x = true := by simp [isUse, h25]
        rw [if_neg n5, if_neg h22, if_pos h25, if_pos (show (⟨x, p⟩ : Pl).n.k = 22 ∨ (⟨x, p⟩ : Pl).n.k = 25 from .inr h25)]
        have hst : standsFor L ⟨x, p⟩ = callStands L x.t := by
          unfold standsFor
          rw [if_pos (show (⟨x, p⟩ : Pl).n.k = 25 from h25)]
        have hfd := h.fns x.t
        rw [← hst] at hfd
        cases hs : standsFor L ⟨x, p⟩ with
        | none =>
          rw [hs] at hfd
          cases hq : Bn.find s.fns x.t with
          | none => rfl
          | some k => rw [hq] at hfd; cases hfd
        | some b0 =>
          rw [hs] at hfd
          cases hq : Bn.find s.fns x.t with
          | none => rw [hq] at hfd; cases hfd
          | some k =>
            rw [hq] at hfd
            injection hfd with hfd
            have hfp : (FP L P)[k]? = some b0 := by
              unfold FP
              rw [List.getElem?_append_left (List.getElem?_eq_some_iff.1 hfd).1]; exact hfd
            have hk2 : b0.n.k = 2 := (callStands_mem (hst ▸ hs)).2.1
            have hpo : s.paramsOf k = params b0.n := by
              unfold St.paramsOf
              rw [h.bds, List.getElem?_map, hfp]
              show paramsOf' b0.n = _
              unfold paramsOf'
              rw [if_pos hk2]
            simp only
            rw [hpo]
            by_cases hc : x.kids.length ≠ params b0.n
            · rw [if_pos hc, if_pos ⟨h25, hc⟩]
            · rw [if_neg hc, if_neg (fun e => hc e.2)]
              refine ⟨_, ?_, h.used hF hL hu hs hfp, ?_, fun e => absurd e h46⟩
              · unfold afterOf; rw [if_neg n5, if_neg h46]
              · unfold ownOf; rw [if_neg n5]; rfl
      · rw [if_neg h22, if_neg h25, if_neg (show ¬ ((⟨x, p⟩ : Pl).n.k = 22 ∨ (⟨x, p⟩ : Pl).n.k = 25) from fun e => by rcases e with e | e; exact h22 e; exact h25 e)]
        have hu : isUse x = false := by
          rw [Bool.eq_false_iff]; simp only [isUse, ne_eq, Bool.or_eq_true, beq_iff_eq]; omega
        by_cases h5 : x.k = 5
        · rw [if_pos h5]
          refine ⟨{ s with own := [] :: s.own }, ?_, ⟨(h.skip hv hu hb).bds, (h.skip hv hu hb).met, h.fns⟩, ?_, fun e => absurd e h46⟩
          · unfold afterOf; rw [if_pos h5]
          · unfold ownOf; rw [if_pos h5]
        · rw [if_neg h5]
          refine ⟨_, ?_, h.skip hv hu hb, ?_, fun e => absurd e h46⟩
          · unfold afterOf; rw [if_neg h5, if_neg h46]
          · unfold ownOf; rw [if_neg h5]
end Bn
end Go.Proofs.YtnndgjnihhafbaaGreatDoor

/-
  The second pass, against what the document tells: statements and expressions.
-/
namespace Go.Proofs.YtnndgjnihhafbaaGreatDoor
namespace Bn

/-- The kids of a kind. -/
def kidsOf (k0 : Int) : List Tr → Nat → List Nat → List Pl
  | [], _, _ => []
  | y :: r, c, p => (if y.k = k0 then [⟨y, p ++ [c]⟩] else []) ++ kidsOf k0 r (c + 1) p
theorem kidsOf_append (k0 : Int) (a b : List Tr) : ∀ (c : Nat) (p : List Nat), kidsOf k0 (a ++ b) c p = kidsOf k0 a c p ++ kidsOf k0 b (c + a.length) p := by
  induction a with
  | nil => intro c p; simp [kidsOf]
  | cons x r ih => intro c p; rw [List.cons_append, kidsOf, kidsOf, ih, List.append_assoc, List.length_cons, show c + 1 + r.length = c + (r.length + 1) by omega]
theorem kidsOf_none {k0 : Int} : ∀ {l : List Tr} {c : Nat} {p : List Nat}, (∀ y ∈ l, y.k ≠ k0) → kidsOf k0 l c p = []
  | [], _, _, _ => rfl
  | y :: r, c, p, h => by rw [kidsOf, if_neg (h y (by simp)), kidsOf_none (fun z hz => h z (by simp [hz]))]; rfl
/-- What of earlier kids reaches a kid: those that are Vars. -/
theorem kids_reach : ∀ (l : List Tr) (c0 : Nat) (p : List Nat) (c : Nat), (∀ b ∈ placesL l c0 p, Good b.n b.p ∧ b.n.k ≠ 4) → c0 + l.length ≤ c → inReach (placesL l c0 p) (p ++ [c]) = kidsOf 6 l c0 p
  | [], c0, p, c, _, _ => by rw [placesL]; rfl
  | x :: l, c0, p, c, hg, hc => by
    rw [placesL] at hg ⊢
    rw [List.length_cons] at hc
    unfold inReach
    rw [List.filter_append]
    have h2 := kids_reach l (c0 + 1) p c (fun b hb => hg b (List.mem_append_right _ hb)) (by omega)
    unfold inReach at h2
    rw [h2, kidsOf, placesOf_eq, List.filter_cons]
    congr 1
    have hin : ∀ b ∈ placesL x.kids 0 (p ++ [c0]), (isPV b.n && reach b (p ++ [c])) = false := fun b hb => by
      obtain ⟨j, r, -, -, e⟩ := placesL_prefix _ _ _ b hb
      have hb' : b ∈ placesOf x (p ++ [c0]) ++ placesL l (c0 + 1) p := List.mem_append_left _ (by rw [placesOf_eq]; exact List.mem_cons_of_mem _ hb)
      cases hv : isPV b.n with
      | false => rfl
      | true =>
        rw [Bool.true_and, Bool.eq_false_iff]
        intro hr
        rcases (reach_in (p := p) (r := j :: r) (j := c0) (hg b hb').1 hv (by rw [e]; simp) (by omega)).1 hr with ⟨-, h⟩ | ⟨h, -⟩
        · cases h
        · exact (hg b hb').2 h
    rw [List.filter_eq_nil_iff.2 (fun b hb => by rw [hin b hb]; decide)]
    have hx := hg ⟨x, p ++ [c0]⟩ (List.mem_append_left _ (by rw [placesOf_eq]; exact List.mem_cons_self))
    by_cases h6 : x.k = 6
    · have hv : isPV x = true := by simp [isPV, h6]
      rw [if_pos h6, if_pos]
      show (isPV x && _) = true
      rw [hv, Bool.true_and]
      exact (reach_in (b := ⟨x, p ++ [c0]⟩) (p := p) (r := []) (j := c0) hx.1 hv rfl (by omega)).2 (.inl ⟨h6, rfl⟩)
    · rw [if_neg h6, if_neg]
      intro h
      rw [Bool.and_eq_true] at h
      have hv : isPV x = true := h.1
      have h4 : x.k ≠ 4 := hx.2
      simp only [isPV, Bool.or_eq_true, beq_iff_eq] at hv
      omega
/-- Which of these stands beside it. -/
theorem kids_beside (k0 : Int) (q : List UInt8) : ∀ (l : List Tr) (c0 : Nat) (p : List Nat) (f : Pl → Bool), (∀ b, f b = (decide (b.n.k = k0) && decide (b.n.t = q) && decide (b.p.length = p.length + 1) && decide (p <+: b.p))) → (placesL l c0 p).any f = (kidsOf k0 l c0 p).any fun b => decide (b.n.t = q)
  | [], c0, p, f, _ => by rw [placesL]; rfl
  | x :: l, c0, p, f, hf => by
    rw [placesL, kidsOf, List.any_append, List.any_append, kids_beside k0 q l (c0 + 1) p f hf, placesOf_eq, List.any_cons]
    congr 1
    have hin : (placesL x.kids 0 (p ++ [c0])).any f = false := by
      rw [List.any_eq_false]
      intro b hb
      obtain ⟨j, r, -, -, e⟩ := placesL_prefix _ _ _ b hb
      rw [hf b, e]
      simp
    rw [hin, Bool.or_false, hf]
    by_cases h : x.k = k0
    · rw [if_pos h]; simp [h]
    · rw [if_neg h]; simp [h]
/-- A binder does not reach what is in it. -/
theorem reach_own {b : Pl} {c : Nat} (hg : Good b.n b.p) : (isPV b.n && reach b (b.p ++ [c])) = false := by
  cases hv : isPV b.n with
  | false => rfl
  | true =>
    rw [Bool.true_and, Bool.eq_false_iff]
    intro hr
    rcases isPV_cases hg hv with ⟨hk, f, j, e⟩ | ⟨hk, f, j, e⟩
    · obtain ⟨u, hu⟩ := (reach_param hk e).1 hr
      rw [e, List.append_assoc, List.cons_append] at hu
      have := (cancel hu).1
      omega
    · obtain ⟨i, u, hu, hi⟩ := (reach_var hk e).1 hr
      rw [e, List.append_assoc, List.cons_append] at hu
      have := (cancel hu).1
      omega
/-- What reaches a kid. -/
theorem reach_next {P0 dn : List Pl} {x : Tr} {p : List Nat} {c : Nat} (hg : ∀ b ∈ P0, Good b.n b.p) (hx : Good x p) (hP : ∀ b ∈ P0, ¬ p <+: b.p) : inReach (P0 ++ ⟨x, p⟩ :: dn) (p ++ [c]) = inReach P0 p ++ inReach dn (p ++ [c]) := by
  unfold inReach
  rw [List.filter_append, List.filter_cons, if_neg (by rw [show (isPV (⟨x, p⟩ : Pl).n && reach ⟨x, p⟩ (p ++ [c])) = false from reach_own (b := ⟨x, p⟩) hx]; decide)]
  congr 1
  refine List.filter_congr fun b hb => ?_
  cases hv : isPV b.n with
  | false => rfl
  | true => rw [Bool.true_and, Bool.true_and, reach_kid (hg b hb) hv (hP b hb)]
theorem twice_next {P0 : List Pl} {dn : List Tr} {x y : Tr} {p : List Nat} {c : Nat} (hP : ∀ b ∈ P0, ¬ p <+: b.p) : twice (P0 ++ ⟨x, p⟩ :: placesL dn 0 p) ⟨y, p ++ [c]⟩ = (kidsOf y.k dn 0 p).any fun b => decide (b.n.t = y.t) := by
  unfold twice
  simp only [List.length_append, List.length_singleton, Nat.add_sub_cancel, List.take_left']
  rw [List.any_append, List.any_cons, kids_beside y.k y.t dn 0 p _ (fun b => rfl)]
  have h1 : (P0.any fun b => decide (b.n.k = y.k) && decide (b.n.t = y.t) && decide (b.p.length = p.length + 1) && decide (p <+: b.p)) = false := by
    rw [List.any_eq_false]
    intro b hb
    simp [hP b hb]
  rw [h1]
  simp
theorem Maps.free {L P : List Pl} {m : Sc} {ys : List Pl} (h : Maps L P m ys.reverse) (q : List UInt8) : Bn.find m q = none ↔ (ys.any fun b => decide (b.n.t = q)) = false := by
  have hf := h.find q
  constructor
  · intro e
    rw [e] at hf
    have h2 := Option.map_eq_none_iff.1 hf.symm
    rw [List.find?_eq_none] at h2
    rw [List.any_eq_false]
    intro b hb
    exact h2 b (List.mem_reverse.2 hb)
  · intro e
    rw [List.any_eq_false] at e
    have h2 : (ys.reverse.find? fun b => decide (b.n.t = q)) = none := by
      rw [List.find?_eq_none]
      intro b hb
      exact e b (List.mem_reverse.1 hb)
    rw [h2] at hf
    exact Option.map_eq_none_iff.1 hf
/-- A node of a Block, and all that is in it. -/
def Res2 (L P : List Pl) (x : Tr) (p : List Nat) (s : St) : Prop :=
  match firstFault (fault2 L) P (placesOf x p) with
  | some f => visit look2 x p P.length s = .error f
  | none => ∃ s', visit look2 x p P.length s = .ok (s', P.length + x.size) ∧ Inv L (P ++ placesOf x p) s' ∧ s'.own = if x.k = 6 then declared s.own x.t s.bds.length else s.own
def V2 (L : List Pl) (x : Tr) : Prop := ∀ (p : List Nat) (P R : List Pl) (s : St), L = P ++ placesOf x p ++ R → Inv L P s → Env L P p s.own → s.own ≠ [] → (x.k = 6 → (Bn.find (s.own.headD []) x.t = none ↔ twice P ⟨x, p⟩ = false)) → Res2 L P x p s
/-- The nodes in a node, one behind the other. -/
theorem kids2_ref {L : List Pl} {x : Tr} {p : List Nat} {P0 : List Pl} {m0 : Sc} {r : List Sc} (hF : File L) (hx : Good x p) (hP0 : ∀ b ∈ P0, ¬ p <+: b.p) (hgP : ∀ b ∈ P0, Good b.n b.p) :
    ∀ (l dn : List Tr) (P R : List Pl) (s : St) (v : Sc), P = P0 ++ ⟨x, p⟩ :: placesL dn 0 p → L = P ++ placesL l dn.length p ++ R → (∀ y ∈ l, V2 L y ∧ (y.k = 6 → m0 = [])) → (∀ b ∈ placesL (dn ++ l) 0 p, Good b.n b.p ∧ b.n.k ≠ 4) → Inv L P s → s.own = (v ++ m0) :: r → Maps L P v (kidsOf 6 dn 0 p).reverse → Maps L P (m0 ++ r.flatten) (inReach P0 p).reverse →
      match firstFault (fault2 L) P (placesL l dn.length p) with
      | some f => visits look2 l dn.length p P.length s = .error f
      | none => ∃ s' v', visits look2 l dn.length p P.length s = .ok (s', P.length + Tr.sizes l) ∧ Inv L (P ++ placesL l dn.length p) s' ∧ s'.own = (v' ++ m0) :: r ∧ Maps L (P ++ placesL l dn.length p) v' (kidsOf 6 (dn ++ l) 0 p).reverse
  | [], dn, P, R, s, v => fun hP hL hV hg hI ho hv hr => by
    rw [placesL_nil, visits_nil]
    exact ⟨s, v, by rw [Tr.sizes_nil, Nat.add_zero], by rw [List.append_nil]; exact hI, ho, by rw [List.append_nil, List.append_nil]; exact hv⟩
  | y :: l, dn, P, R, s, v => fun hP hL hV hg hI ho hv hr => by
    obtain ⟨hVy, hm6⟩ := hV y (by simp)
    have hE : Env L P (p ++ [dn.length]) s.own := by
      unfold Env
      rw [ho, List.flatten_cons, List.append_assoc, hP, reach_next hgP hx hP0, List.reverse_append, ← hP, kids_reach dn 0 p dn.length (fun b hb => hg b (by rw [placesL_append]; exact List.mem_append_left _ hb)) (by omega)]
      exact hv.append hr
    have ht : y.k = 6 → (Bn.find (s.own.headD []) y.t = none ↔ twice P ⟨y, p ++ [dn.length]⟩ = false) := fun h6 => by
      rw [ho, hP, twice_next hP0, h6, List.headD_cons, hm6 h6, List.append_nil]
      exact hv.free y.t
    rw [placesL_cons] at hL ⊢
    have h1 := hVy (p ++ [dn.length]) P (placesL l (dn.length + 1) p ++ R) s (by rw [hL]; simp) hI hE (by rw [ho]; simp) ht
    unfold Res2 at h1
    rw [visits_cons, firstFault_append]
    cases hf : firstFault (fault2 L) P (placesOf y (p ++ [dn.length])) with
    | some e => rw [hf] at h1; simp only; rw [h1]
    | none =>
      rw [hf] at h1
      obtain ⟨s1, e1, hI1, ho1⟩ := h1
      rw [e1]
      simp only
      obtain ⟨v1, hv1, hm1⟩ : ∃ v1, s1.own = (v1 ++ m0) :: r ∧ Maps L (P ++ placesOf y (p ++ [dn.length])) v1 (kidsOf 6 (dn ++ [y]) 0 p).reverse := by
        rw [kidsOf_append, List.reverse_append, kidsOf, kidsOf, List.append_nil, Nat.zero_add]
        by_cases h6 : y.k = 6
        · rw [if_pos h6] at ho1 ⊢
          refine ⟨(y.t, s.bds.length) :: v, by rw [ho1, ho]; rfl, ?_⟩
          refine (hv.more _).cons ?_ rfl
          rw [FP_append, hI.bds, List.length_map, List.getElem?_append_right (Nat.le_refl _), Nat.sub_self, placesOf_eq]
          have hpv : isPV y = true := by simp [isPV, h6]
          show (pvs (⟨y, _⟩ :: _))[0]? = _
          unfold pvs
          rw [List.filter_cons, if_pos hpv]
          rfl
        · rw [if_neg h6] at ho1 ⊢
          exact ⟨v, by rw [ho1, ho], hv.more _⟩
      have h2 := kids2_ref hF hx hP0 hgP l (dn ++ [y]) (P ++ placesOf y (p ++ [dn.length])) R s1 v1 (by rw [hP, placesL_append, placesL_cons, placesL_nil, List.append_nil, Nat.zero_add]; simp) (by rw [hL, List.length_append, List.length_singleton]; simp) (fun z hz => hV z (by simp [hz])) (by rw [List.append_assoc]; exact hg) hI1 hv1 hm1 (hr.more _)
      rw [show (dn ++ [y]).length = dn.length + 1 by simp, show dn ++ [y] ++ l = dn ++ y :: l by simp, show (P ++ placesOf y (p ++ [dn.length])).length = P.length + y.size by rw [List.length_append, placesOf_len]] at h2
      cases hf2 : firstFault (fault2 L) (P ++ placesOf y (p ++ [dn.length])) (placesL l (dn.length + 1) p) with
      | some e => rw [hf2] at h2; rw [h2]
      | none =>
        rw [hf2] at h2
        obtain ⟨s2, v2, e2, hI2, ho2, hm2⟩ := h2
        refine ⟨s2, v2, by rw [e2, Tr.sizes_cons, Nat.add_assoc], by rw [← List.append_assoc]; exact hI2, ho2, by rw [← List.append_assoc]; exact hm2⟩
theorem inner_all : ∀ (m : Nat) (x : Tr) (p : List Nat), Tr.right m x = true → x.k ≠ 1 → x.k ≠ 2 → x.k ≠ 3 → x.k ≠ 4 → ∀ b ∈ placesOf x p, b.n.k ≠ 4
  | 0, x, p, hr, _, _, _, _ => by rw [Tr.right] at hr; cases hr
  | m + 1, x, p, hr, n1, n2, n3, n4 => fun b hb => by
    rw [placesOf_eq] at hb
    rcases List.mem_cons.1 hb with rfl | hb
    · exact n4
    · have hkid : ∀ (l : List Tr) (c : Nat), (∀ y ∈ l, y ∈ x.kids) → ∀ b ∈ placesL l c p, b.n.k ≠ 4 := by
        intro l
        induction l with
        | nil => intro c _ b hb; rw [placesL_nil] at hb; cases hb
        | cons y l ih =>
          intro c hl b hb
          rw [placesL_cons] at hb
          rcases List.mem_append.1 hb with hb | hb
          · have hy := hl y (by simp)
            obtain ⟨a2, a3, a4, -, a1⟩ := ok_parent (right_ok hr).1 hy
            exact inner_all m y (p ++ [c]) ((right_ok hr).2 y hy) a1 (fun e => n1 (a2 e)) (fun e => n2 (a3 e)) (fun e => n3 (a4 e)) b hb
          · exact ih (c + 1) (fun z hz => hl z (by simp [hz])) b hb
      exact hkid x.kids 0 (fun _ h => h) b hb
theorem v2_all {L : List Pl} (hF : File L) : ∀ (m : Nat) (x : Tr), Tr.right m x = true → x.k ≠ 1 → x.k ≠ 2 → x.k ≠ 3 → x.k ≠ 4 → V2 L x
  | 0, x, hr, _, _, _, _ => by rw [Tr.right] at hr; cases hr
  | m + 1, x, hr, n1, n2, n3, n4 => by
    intro p P R s hL hI hE hne ht
    have hin := inner_all (m + 1) x p hr n1 n2 n3 n4
    have hLc : L = P ++ ⟨x, p⟩ :: (placesL x.kids 0 p ++ R) := by rw [hL, placesOf_eq]; simp
    have hsp := hF.split hLc
    have hgP : ∀ b ∈ P, Good b.n b.p := fun b hb => hF.good b (by rw [hLc]; simp [hb])
    have hx : Good x p := hF.good ⟨x, p⟩ (by rw [hLc]; simp)
    have hgK : ∀ b ∈ placesL ([] ++ x.kids) 0 p, Good b.n b.p ∧ b.n.k ≠ 4 := fun b hb => ⟨hF.good b (by rw [hLc]; simp at hb ⊢; simp [hb]), hin b (by rw [placesOf_eq]; exact List.mem_cons_of_mem _ hb)⟩
    have h1 := look2_ref hF hLc hI (fun _ => hE) n2 (fun h => by
      rcases h with h | h
      · exact absurd h n4
      · exact ht h)
    unfold Res2
    rw [placesOf_eq, firstFault, visit_eq]
    cases hf : fault2 L P ⟨x, p⟩ with
    | some e => rw [hf] at h1; simp only; rw [h1]
    | none =>
      rw [hf] at h1
      obtain ⟨s1, e1, hI1, ho1, hb1⟩ := h1
      rw [e1]
      simp only
      obtain ⟨m, r, hown⟩ : ∃ m r, s.own = m :: r := by
        cases ho : s.own with
        | nil => exact absurd ho hne
        | cons m r => exact ⟨m, r, rfl⟩
      have hkv : ∀ y ∈ x.kids, V2 L y ∧ (y.k = 6 → x.k = 5) := fun y hy => by
        obtain ⟨a2, a3, a4, a6, a1⟩ := ok_parent (right_ok hr).1 hy
        exact ⟨v2_all hF _ y ((right_ok hr).2 y hy) a1 (fun e => n1 (a2 e)) (fun e => n2 (a3 e)) (fun e => n3 (a4 e)), a6⟩
      have hEm : Maps L (P ++ [⟨x, p⟩]) s.own.flatten (inReach P p).reverse := hE.more _
      have hlen : (P ++ [(⟨x, p⟩ : Pl)]).length = P.length + 1 := by simp
      by_cases h5 : x.k = 5
      · have h6 : x.k ≠ 6 := by omega
        unfold ownOf at ho1
        rw [if_pos h5] at ho1
        have h2 := kids2_ref (r := s.own) (m0 := []) hF hx hsp.1 hgP x.kids [] (P ++ [⟨x, p⟩]) R s1 [] (by rw [placesL_nil]) (by rw [hLc]; simp) (fun y hy => ⟨(hkv y hy).1, fun _ => rfl⟩) hgK hI1 ho1 rfl hEm
        rw [List.length_nil, hlen] at h2
        cases hf2 : firstFault (fault2 L) (P ++ [⟨x, p⟩]) (placesL x.kids 0 p) with
        | some e => rw [hf2] at h2; rw [h2]
        | none =>
          rw [hf2] at h2
          obtain ⟨s2, v2, e2, hI2, ho2, -⟩ := h2
          refine ⟨{ s2 with own := s2.own.tail }, ?_, ⟨by simpa using hI2.bds, by simpa using hI2.met, hI2.fns⟩, ?_⟩
          · rw [e2]
            unfold afterOf
            rw [if_pos h5]
            simp only [behind]
            rw [Tr.size_eq x, Nat.add_assoc]
          · rw [if_neg h6]
            show s2.own.tail = _
            rw [ho2]; rfl
      · unfold ownOf at ho1
        rw [if_neg h5, hown] at ho1
        rw [hown, List.flatten_cons] at hEm
        have h2 := kids2_ref (r := r) (m0 := m) hF hx hsp.1 hgP x.kids [] (P ++ [⟨x, p⟩]) R s1 [] (by rw [placesL_nil]) (by rw [hLc]; simp) (fun y hy => ⟨(hkv y hy).1, fun e => absurd ((hkv y hy).2 e) h5⟩) hgK hI1 ho1 rfl hEm
        rw [List.length_nil, hlen] at h2
        cases hf2 : firstFault (fault2 L) (P ++ [⟨x, p⟩]) (placesL x.kids 0 p) with
        | some e => rw [hf2] at h2; rw [h2]
        | none =>
          rw [hf2] at h2
          obtain ⟨s2, v2, e2, hI2, ho2, hm2⟩ := h2
          rw [List.nil_append, kidsOf_none (fun y hy e => h5 ((hkv y hy).2 e))] at hm2
          obtain rfl := hm2.nil
          rw [List.nil_append] at ho2
          rw [e2]
          unfold afterOf
          rw [if_neg h5]
          by_cases h46 : x.k = 4 ∨ x.k = 6
          · have h6 : x.k = 6 := by rcases h46 with h | h; exact absurd h n4; exact h
            rw [if_pos h46, if_pos h6]
            have hnm : s2.nameOf s.bds.length = x.t := by
              unfold St.nameOf
              have := FP_more (placesL x.kids 0 p) (hb1 h46)
              rw [hI2.bds, List.getElem?_map, this]
              rfl
            refine ⟨{ s2 with own := declared s2.own x.t s.bds.length }, ?_, ⟨by simpa using hI2.bds, by simpa using hI2.met, hI2.fns⟩, ?_⟩
            · simp only [behind]
              rw [hnm, Tr.size_eq x, Nat.add_assoc]
            · show declared s2.own _ _ = _
              rw [ho2, hown]
          · rw [if_neg h46, if_neg (fun e => h46 (.inr e))]
            refine ⟨s2, ?_, ⟨by simpa using hI2.bds, by simpa using hI2.met, hI2.fns⟩, by rw [ho2, hown]⟩
            simp only [behind]
            rw [Tr.size_eq x, Nat.add_assoc]
end Bn
end Go.Proofs.YtnndgjnihhafbaaGreatDoor

/-
  The walk of names tells what the document tells: functions, files.
-/
namespace Go.Proofs.YtnndgjnihhafbaaGreatDoor
namespace Bn

theorem params2_ref {L : List Pl} {a : Tr} {p : List Nat} {P0 : List Pl} {r : List Sc} (hF : File L) (hP0 : ∀ b ∈ P0, ¬ p <+: b.p) :
    ∀ (l dn : List Tr) (P R : List Pl) (s : St) (v : Sc), P = P0 ++ ⟨a, p⟩ :: placesL dn 0 p → L = P ++ placesL l dn.length p ++ R → (∀ y ∈ l, y.k = 4 ∧ y.kids = []) → Inv L P s → s.own = v :: r → Maps L P v (kidsOf 4 dn 0 p).reverse →
      match firstFault (fault2 L) P (placesL l dn.length p) with
      | some f => visits look2 l dn.length p P.length s = .error f
      | none => ∃ s' v', visits look2 l dn.length p P.length s = .ok (s', P.length + Tr.sizes l) ∧ Inv L (P ++ placesL l dn.length p) s' ∧ s'.own = v' :: r ∧ Maps L (P ++ placesL l dn.length p) v' (kidsOf 4 (dn ++ l) 0 p).reverse
  | [], dn, P, R, s, v => fun hP hL hV hI ho hv => by
    rw [placesL_nil, visits_nil]
    exact ⟨s, v, by rw [Tr.sizes_nil, Nat.add_zero], by rw [List.append_nil]; exact hI, ho, by rw [List.append_nil, List.append_nil]; exact hv⟩
  | y :: l, dn, P, R, s, v => fun hP hL hV hI ho hv => by
    obtain ⟨h4, hk⟩ := hV y (by simp)
    have hpl : placesOf y (p ++ [dn.length]) = [⟨y, p ++ [dn.length]⟩] := by rw [placesOf_eq, hk, placesL_nil]
    have ht : y.k = 4 ∨ y.k = 6 → (Bn.find (s.own.headD []) y.t = none ↔ twice P ⟨y, p ++ [dn.length]⟩ = false) := fun _ => by
      rw [ho, hP, twice_next hP0, h4, List.headD_cons]
      exact hv.free y.t
    rw [placesL_cons, hpl] at hL ⊢
    have hLc : L = P ++ ⟨y, p ++ [dn.length]⟩ :: (placesL l (dn.length + 1) p ++ R) := by rw [hL]; simp
    have h1 := look2_ref hF hLc hI (fun e => by omega) (by omega) ht
    rw [visits_cons, visit_eq, firstFault_append, firstFault, firstFault]
    cases hf : fault2 L P ⟨y, p ++ [dn.length]⟩ with
    | some e => rw [hf] at h1; simp only; rw [h1]
    | none =>
      rw [hf] at h1
      obtain ⟨s1, e1, hI1, ho1, hb1⟩ := h1
      have hb1 := hb1 (.inl h4)
      rw [e1]
      simp only
      rw [hk, visits_nil]
      unfold afterOf
      rw [if_neg (by omega), if_pos (.inl h4)]
      simp only [behind]
      have hnm : s1.nameOf s.bds.length = y.t := by
        unfold St.nameOf
        rw [hI1.bds, List.getElem?_map, hb1]
        rfl
      rw [hnm]
      unfold ownOf at ho1
      rw [if_neg (by omega)] at ho1
      have hI2 : Inv L (P ++ [⟨y, p ++ [dn.length]⟩]) { s1 with own := declared s1.own y.t s.bds.length } := ⟨hI1.bds, hI1.met, hI1.fns⟩
      have hm2 : Maps L (P ++ [⟨y, p ++ [dn.length]⟩]) ((y.t, s.bds.length) :: v) (kidsOf 4 (dn ++ [y]) 0 p).reverse := by
        rw [kidsOf_append, List.reverse_append, kidsOf, kidsOf, List.append_nil, Nat.zero_add, if_pos h4]
        exact (hv.more _).cons hb1 rfl
      have h2 := params2_ref (a := a) (r := r) hF hP0 l (dn ++ [y]) (P ++ [⟨y, p ++ [dn.length]⟩]) R _ ((y.t, s.bds.length) :: v) (by rw [hP, placesL_append, placesL_cons, placesL_nil, List.append_nil, Nat.zero_add, hpl]; simp) (by rw [hL, List.length_append, List.length_singleton]; simp) (fun z hz => hV z (by simp [hz])) hI2 (by show declared s1.own _ _ = _; rw [ho1, ho]; rfl) hm2
      rw [show (dn ++ [y]).length = dn.length + 1 by simp, show dn ++ [y] ++ l = dn ++ y :: l by simp, show (P ++ [(⟨y, p ++ [dn.length]⟩ : Pl)]).length = P.length + 1 by simp] at h2
      cases hf2 : firstFault (fault2 L) (P ++ [⟨y, p ++ [dn.length]⟩]) (placesL l (dn.length + 1) p) with
      | some e => rw [hf2] at h2; simp only; rw [h2]
      | none =>
        rw [hf2] at h2
        obtain ⟨s2, v2, e2, hI3, ho2, hm3⟩ := h2
        refine ⟨s2, v2, by rw [e2, Tr.sizes_cons, Tr.size_eq y, hk, Tr.sizes_nil, Nat.add_assoc], by rw [← List.append_assoc]; exact hI3, ho2, by rw [← List.append_assoc]; exact hm3⟩
theorem params_reach (p : List Nat) : ∀ (l : List Tr) (c : Nat), (∀ y ∈ l, y.k = 4 ∧ y.kids = []) → (∀ b ∈ placesL l c (p ++ [0]), Good b.n b.p) → inReach (placesL l c (p ++ [0])) (p ++ [1]) = kidsOf 4 l c (p ++ [0])
  | [], c, _, _ => by rw [placesL_nil]; rfl
  | y :: l, c, h, hg => by
    obtain ⟨h4, hk⟩ := h y (by simp)
    have hpl : placesOf y (p ++ [0] ++ [c]) = [⟨y, p ++ [0] ++ [c]⟩] := by rw [placesOf_eq, hk, placesL_nil]
    rw [placesL_cons, hpl] at hg ⊢
    have h2 := params_reach p l (c + 1) (fun z hz => h z (by simp [hz])) (fun b hb => hg b (List.mem_append_right _ hb))
    have hv : isPV y = true := by simp [isPV, h4]
    have hr : reach ⟨y, p ++ [0] ++ [c]⟩ (p ++ [1]) = true := (reach_in (p := p) (r := [c]) (j := 0) (hg _ (List.mem_append_left _ (by simp))) hv (by simp) (by omega)).2 (.inr ⟨h4, rfl, rfl, c, rfl⟩)
    unfold inReach at h2 ⊢
    rw [List.filter_append, h2, kidsOf, if_pos h4]
    congr 1
    rw [List.filter_cons, if_pos (by show (isPV y && _) = true; rw [hv, hr]; rfl)]
    rfl
/-- A Func, and all that is in it. -/
def Res3 (L P : List Pl) (x : Tr) (p : List Nat) (s : St) : Prop :=
  match firstFault (fault2 L) P (placesOf x p) with
  | some f => visit look2 x p P.length s = .error f
  | none => ∃ s', visit look2 x p P.length s = .ok (s', P.length + x.size) ∧ Inv L (P ++ placesOf x p) s' ∧ s'.own = s.own
theorem func2_ref {L : List Pl} (hF : File L) (h1st : ∀ u ∈ L, u.n.k = 2 → callStands L u.n.t = some u) (m : Nat) (x : Tr) (p : List Nat) (P R : List Pl) (s : St) (hr : Tr.right m x = true) (hk : x.k = 2) (hL : L = P ++ placesOf x p ++ R) (hI : Inv L P s) (hown : s.own.flatten = []) (hre : inReach P p = []) : Res3 L P x p s := by
  obtain ⟨a, b, hkids, ha, hb⟩ := ok_func (right_ok hr).1 hk
  have hra : Tr.right (m - 1) a = true := (right_ok hr).2 a (by rw [hkids]; simp)
  have hrb : Tr.right (m - 1) b = true := (right_ok hr).2 b (by rw [hkids]; simp)
  have hak : ∀ y ∈ a.kids, y.k = 4 ∧ y.kids = [] := fun y hy => by
    have h4 := ok_params (right_ok hra).1 ha y hy
    exact ⟨h4, ok_leaf (right_ok ((right_ok hra).2 y hy)).1 (.inl h4)⟩
  have hpl : placesOf x p = ⟨x, p⟩ :: (⟨a, p ++ [0]⟩ :: placesL a.kids 0 (p ++ [0]) ++ placesOf b (p ++ [1])) := by
    rw [placesOf_eq, hkids, placesL_cons, placesL_cons, placesL_nil, placesOf_eq a, List.append_nil]
  have hLc : L = P ++ ⟨x, p⟩ :: (⟨a, p ++ [0]⟩ :: placesL a.kids 0 (p ++ [0]) ++ placesOf b (p ++ [1]) ++ R) := by rw [hL, hpl]; simp
  have hLa : L = (P ++ [⟨x, p⟩]) ++ ⟨a, p ++ [0]⟩ :: (placesL a.kids 0 (p ++ [0]) ++ placesOf b (p ++ [1]) ++ R) := by rw [hLc]; simp
  have hgP : ∀ b ∈ P, Good b.n b.p := fun b hb => hF.good b (by rw [hLc]; simp [hb])
  have hx : Good x p := hF.good ⟨x, p⟩ (by rw [hLc]; simp)
  have hsp := (hF.split hLc).1
  have hspa := (hF.split hLa).1
  unfold Res3
  rw [hpl, firstFault, visit_eq]
  have hf0 : fault2 L P ⟨x, p⟩ = none := by unfold fault2; simp [hk]
  rw [hf0]
  have hfn := hI.fns x.t
  have hcs : callStands L x.t = some ⟨x, p⟩ := h1st ⟨x, p⟩ (by rw [hLc]; simp) hk
  rw [hcs] at hfn
  cases hq : Bn.find s.fns x.t with
  | none => rw [hq] at hfn; cases hfn
  | some k =>
    rw [hq] at hfn
    injection hfn with hfn
    have hlk : look2 x p s = .ok ({ s with met := s.met ++ [k], own := [] :: s.own }, .out) := by unfold look2; rw [if_pos hk, hq]
    rw [hlk]
    simp only
    have hvx : isPV x = false := by simp [isPV, hk]
    have hux : isUse x = false := by simp [isUse, hk]
    have hbx : isBinder x = true := by simp [isBinder, hk]
    have hkf : (FP L P)[k]? = some ⟨x, p⟩ := by
      unfold FP
      rw [List.getElem?_append_left (List.getElem?_eq_some_iff.1 hfn).1]; exact hfn
    have hI1 : Inv L (P ++ [⟨x, p⟩]) { s with met := s.met ++ [k], own := [] :: s.own } := by
      refine ⟨?_, ?_, hI.fns⟩
      · show s.bds = _
        rw [hI.bds, FP_skip (u := ⟨x, p⟩) hvx, bd_skip (u := ⟨x, p⟩) hux]
      · show (s.met ++ [k]).map _ = _
        rw [FP_skip (u := ⟨x, p⟩) hvx, List.map_append, hI.met, List.filter_append, List.map_append]
        congr 1
        simp [hbx, hkf]
    have hva : isPV a = false := by simp [isPV, ha]
    have hua : isUse a = false := by simp [isUse, ha]
    have hba : isBinder a = false := by simp [isBinder, ha]
    have hI2 : Inv L (P ++ [⟨x, p⟩] ++ [⟨a, p ++ [0]⟩]) { s with met := s.met ++ [k], own := [] :: s.own } := hI1.skip (u := ⟨a, p ++ [0]⟩) hva hua hba
    have hlka : ∀ s, look2 a (p ++ [0]) s = .ok (s, .nothing) := fun s => by unfold look2; simp [ha]
    have hfa : fault2 L (P ++ [⟨x, p⟩]) ⟨a, p ++ [0]⟩ = none := by unfold fault2; simp [ha]
    rw [hkids, visits_cons, visit_eq, hlka, List.cons_append, firstFault, hfa]
    simp only
    have h2 := params2_ref (a := a) (r := s.own) (P0 := P ++ [⟨x, p⟩]) hF hspa a.kids [] (P ++ [⟨x, p⟩] ++ [⟨a, p ++ [0]⟩]) (placesOf b (p ++ [1]) ++ R) _ [] (by rw [placesL_nil]) (by rw [hLa]; simp) hak hI2 rfl rfl
    rw [show ((P ++ [(⟨x, p⟩ : Pl)]) ++ [(⟨a, p ++ [0]⟩ : Pl)]).length = P.length + 1 + 1 by simp, List.length_nil, List.nil_append] at h2
    rw [firstFault_append]
    cases hf2 : firstFault (fault2 L) (P ++ [⟨x, p⟩] ++ [⟨a, p ++ [0]⟩]) (placesL a.kids 0 (p ++ [0])) with
    | some e => rw [hf2] at h2; simp only; rw [h2]
    | none =>
      rw [hf2] at h2
      obtain ⟨s2, v2, e2, hI3, ho2, hm2⟩ := h2
      simp only
      rw [e2]
      simp only [behind]
      obtain ⟨P', hP'⟩ : ∃ P', P' = P ++ [⟨x, p⟩] ++ [⟨a, p ++ [0]⟩] ++ placesL a.kids 0 (p ++ [0]) := ⟨_, rfl⟩
      rw [← hP'] at hI3 hm2 ⊢
      have hP2 : P' = P ++ ⟨x, p⟩ :: (⟨a, p ++ [0]⟩ :: placesL a.kids 0 (p ++ [0])) := by rw [hP']; simp
      have hlP : P'.length = P.length + 1 + 1 + Tr.sizes a.kids := by rw [hP']; simp only [List.length_append, List.length_singleton, placesL_len]
      have hE : Env L P' (p ++ [1]) s2.own := by
        unfold Env
        rw [ho2, List.flatten_cons, hown, List.append_nil, hP2, reach_next hgP hx hsp, hre, List.nil_append]
        have : inReach (⟨a, p ++ [0]⟩ :: placesL a.kids 0 (p ++ [0])) (p ++ [1]) = kidsOf 4 a.kids 0 (p ++ [0]) := by
          rw [← params_reach p a.kids 0 hak (fun b hb => hF.good b (by rw [hLc]; simp [hb]))]
          unfold inReach
          rw [List.filter_cons, if_neg (by simp [hva])]
        rw [this, ← hP2]
        exact hm2
      have hVb := v2_all hF (m - 1) b hrb (by omega) (by omega) (by omega) (by omega) (p ++ [1]) P' R s2 (by rw [hP2, hLc]; simp) hI3 hE (by rw [ho2]; simp) (fun e => by omega)
      unfold Res2 at hVb
      rw [hlP] at hVb
      rw [visits_cons]
      cases hf3 : firstFault (fault2 L) P' (placesOf b (p ++ [1])) with
      | some e => rw [hf3] at hVb; simp only; rw [hVb]
      | none =>
        rw [hf3] at hVb
        obtain ⟨s3, e3, hI4, ho3⟩ := hVb
        rw [if_neg (by omega), ho2] at ho3
        simp only [Nat.zero_add]
        rw [e3]
        simp only [visits_nil]
        refine ⟨{ s3 with own := s3.own.tail }, ?_, ⟨by rw [hP2] at hI4; simpa using hI4.bds, by rw [hP2] at hI4; simpa using hI4.met, hI4.fns⟩, by show s3.own.tail = _; rw [ho3]; rfl⟩
        rw [Tr.size_eq x, hkids, Tr.sizes_cons, Tr.sizes_cons, Tr.sizes_nil, Tr.size_eq a]
        rw [show P.length + 1 + 1 + Tr.sizes a.kids + b.size = P.length + (1 + (1 + Tr.sizes a.kids + (b.size + 0))) by omega]
/-- No Param or Var reaches a Func. -/
theorem reach_top {P : List Pl} (hg : ∀ b ∈ P, Good b.n b.p) (j : Nat) : inReach P [j] = [] := by
  unfold inReach
  rw [List.filter_eq_nil_iff]
  intro b hb h
  rw [Bool.and_eq_true] at h
  obtain ⟨hv, hr⟩ := h
  simp only [isPV, Bool.or_eq_true, beq_iff_eq] at hv
  rcases hv with hv | hv
  · obtain ⟨f, i, e, hne⟩ := (hg b hb).2.2.1 hv
    obtain ⟨r, hr⟩ := (reach_param hv e).1 hr
    have h1 := congrArg List.length hr
    simp at h1
    exact hne (List.eq_nil_of_length_eq_zero (by omega))
  · obtain ⟨f, i, e, hne⟩ := (hg b hb).2.2.2.1 hv
    obtain ⟨i2, r, hr, -⟩ := (reach_var hv e).1 hr
    have h1 := congrArg List.length hr
    simp at h1
    exact hne (List.eq_nil_of_length_eq_zero (by omega))
theorem funcs2_ref {L : List Pl} (hF : File L) (h1st : ∀ u ∈ L, u.n.k = 2 → callStands L u.n.t = some u) (m : Nat) : ∀ (l : List Tr) (c : Nat) (P R : List Pl) (s : St), (∀ y ∈ l, y.k = 2 ∧ Tr.right m y = true) → L = P ++ placesL l c [] ++ R → Inv L P s → s.own.flatten = [] →
      match firstFault (fault2 L) P (placesL l c []) with
      | some f => visits look2 l c [] P.length s = .error f
      | none => ∃ s', visits look2 l c [] P.length s = .ok (s', P.length + Tr.sizes l) ∧ Inv L (P ++ placesL l c []) s'
  | [], c, P, R, s => fun _ _ hI _ => by
    rw [placesL_nil, visits_nil]
    exact ⟨s, by rw [Tr.sizes_nil, Nat.add_zero], by rw [List.append_nil]; exact hI⟩
  | y :: l, c, P, R, s => fun hy hL hI ho => by
    obtain ⟨hk, hr⟩ := hy y (by simp)
    rw [placesL_cons] at hL ⊢
    have h1 := func2_ref hF h1st m y ([] ++ [c]) P (placesL l (c + 1) [] ++ R) s hr hk (by rw [hL]; simp) hI ho (reach_top (fun b hb => hF.good b (by rw [hL]; simp [hb])) c)
    unfold Res3 at h1
    rw [visits_cons, firstFault_append]
    cases hf : firstFault (fault2 L) P (placesOf y ([] ++ [c])) with
    | some e => rw [hf] at h1; simp only; rw [h1]
    | none =>
      rw [hf] at h1
      obtain ⟨s1, e1, hI1, ho1⟩ := h1
      rw [e1]
      simp only
      have h2 := funcs2_ref hF h1st m l (c + 1) (P ++ placesOf y ([] ++ [c])) R s1 (fun z hz => hy z (by simp [hz])) (by rw [hL]; simp) hI1 (by rw [ho1]; exact ho)
      rw [show (P ++ placesOf y ([] ++ [c])).length = P.length + y.size by rw [List.length_append, placesOf_len]] at h2
      cases hf2 : firstFault (fault2 L) (P ++ placesOf y ([] ++ [c])) (placesL l (c + 1) []) with
      | some e => rw [hf2] at h2; rw [h2]
      | none =>
        rw [hf2] at h2
        obtain ⟨s2, e2, hI2⟩ := h2
        exact ⟨s2, by rw [e2, Tr.sizes_cons, Nat.add_assoc], by rw [← List.append_assoc]; exact hI2⟩
theorem firstFault_none {f : List Pl → Pl → Option Nat} : ∀ {Q P : List Pl} {a b : List Pl} {u : Pl}, firstFault f P Q = none → Q = a ++ u :: b → f (P ++ a) u = none
  | Q, P, [], b, u, h, e => by
    rw [e, List.nil_append, firstFault] at h
    rw [List.append_nil]
    split at h
    · cases h
    · next hn => exact hn
  | Q, P, x :: a, b, u, h, e => by
    rw [e, List.cons_append, firstFault] at h
    split at h
    · cases h
    · have := firstFault_none (Q := a ++ u :: b) (P := P ++ [x]) (a := a) (b := b) (u := u) h rfl
      rwa [List.append_assoc, List.singleton_append] at this
theorem first_stands {L : List Pl} (hF : File L) (h : firstFault fault1 [] L = none) : ∀ u ∈ L, u.n.k = 2 → callStands L u.n.t = some u := by
  intro u hu hk
  obtain ⟨a, b, e⟩ := List.append_of_mem hu
  have h1 := firstFault_none h e
  rw [List.nil_append] at h1
  have hg : ∀ b ∈ a, Good b.n b.p := fun b hb => hF.good b (by rw [e]; simp [hb])
  have h2 : callStands a u.n.t = none := by
    refine Classical.byContradiction fun hn => ?_
    have := (twice_func hg (hF.good u hu) hk).2 hn
    unfold fault1 at h1
    rw [if_pos ⟨hk, this⟩] at h1
    cases h1
  unfold callStands at h2 ⊢
  rw [e, List.find?_append, h2, List.find?_cons]
  simp [hk]
theorem met_told {α : Type} (g : Pl → α) {l : List Pl} : ∀ {ks : List Nat} {ys : List Pl}, ks.map (fun k => l[k]?) = ys.map some → ks.filterMap (fun k => (l.map g)[k]?) = ys.map g
  | [], [], _ => rfl
  | [], _ :: _, h => by simp at h
  | _ :: _, [], h => by simp at h
  | k :: ks, y :: ys, h => by
    rw [List.map_cons, List.map_cons] at h
    injection h with h1 h2
    rw [List.filterMap_cons, List.getElem?_map, h1, List.map_cons]
    simp only [Option.map_some]
    rw [met_told g h2]
/-- The walk tells what the document tells. -/
theorem bound_ref (t : Tr) : bound t = refBound t := by
  unfold bound refBound
  by_cases hc : t.k = 1 ∧ Tr.right 40 t = true
  · rw [if_pos hc, if_pos hc]
    obtain ⟨hk, hr⟩ := hc
    have hF := File.of hr hk
    obtain ⟨L, hL⟩ : ∃ L, L = placesOf t [] := ⟨_, rfl⟩
    rw [← hL] at hF ⊢
    have h1 := visit1_ref t [] [] ⟨[], [], [[]], []⟩ (by rw [List.nil_append, ← hL]; exact hF.good) ⟨rfl, fun _ => rfl, rfl, rfl⟩
    unfold Res1 at h1
    rw [List.nil_append, ← hL, List.length_nil] at h1
    unfold file
    cases hf : firstFault fault1 [] L with
    | some e => rw [hf] at h1; simp only; rw [h1]
    | none =>
      rw [hf] at h1
      obtain ⟨s1, e1, hI1⟩ := h1
      rw [e1]
      simp only
      have h1st := first_stands hF hf
      have hI : Inv L [] s1 := by
        refine ⟨?_, by rw [hI1.met]; rfl, hI1.fns⟩
        rw [hI1.bds]
        show _ = (funcs L ++ []).map _
        rw [List.append_nil]
        refine List.map_congr_left fun b hb => ?_
        have := (List.mem_filter.1 hb).2
        rw [decide_eq_true_iff] at this
        unfold bd paramsOf'
        rw [if_pos this]
        rfl
      have hpl : L = ⟨t, []⟩ :: placesL t.kids 0 [] := by rw [hL, placesOf_eq]
      have hlk : look2 t [] s1 = .ok (s1, .nothing) := by unfold look2; simp [hk]
      have hf0 : fault2 L [] ⟨t, []⟩ = none := by unfold fault2; simp [hk]
      have hI0 : Inv L ([] ++ [⟨t, []⟩]) s1 := hI.skip (u := ⟨t, []⟩) (by simp [isPV, hk]) (by simp [isUse, hk]) (by simp [isBinder, hk])
      have h2 := funcs2_ref hF h1st 39 t.kids 0 ([] ++ [⟨t, []⟩]) [] s1 (fun y hy => ⟨ok_file (right_ok hr).1 hk y hy, (right_ok hr).2 y hy⟩) (by rw [List.append_nil]; exact hpl) hI0 (by rw [hI1.own]; rfl)
      have hff : firstFault (fault2 L) [] L = firstFault (fault2 L) ([] ++ [⟨t, []⟩]) (placesL t.kids 0 []) := by
        conv => lhs; rw [hpl]
        rw [firstFault, ← hpl, hf0]
      rw [visit_eq, hlk, hff]
      simp only
      have hl1 : (([] : List Pl) ++ [(⟨t, []⟩ : Pl)]).length = 0 + 1 := rfl
      rw [hl1] at h2
      cases hf2 : firstFault (fault2 L) ([] ++ [⟨t, []⟩]) (placesL t.kids 0 []) with
      | some e => rw [hf2] at h2; rw [h2]
      | none =>
        rw [hf2] at h2
        obtain ⟨s2, e2, hI2⟩ := h2
        rw [e2]
        simp only [behind]
        rw [show ([] ++ [⟨t, []⟩] ++ placesL t.kids 0 [] : List Pl) = L from hpl.symm] at hI2
        rw [hI2.bds, met_told (bd L L) hI2.met]
  · rw [if_neg hc, if_neg hc]
end Bn
end Go.Proofs.YtnndgjnihhafbaaGreatDoor
