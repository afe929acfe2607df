/-
  The walk of the law LexBehind.
-/
import Derived.Test.YtkiafelpgcmifabDoorLxAgainLaw
namespace Go.Proofs.YtkiafelpgcmifabDoor
open Go.RowKit Go.Shelf

attribute [local go_sem] Oper.semAt_some

section
variable {F : Fence} {n : Nat} {P : Program} {ops : Array Oper} {Q : Exit → Act → World → Prop}
/-- append, where a guard lets it go. -/
theorem list_append_g {rest : List Oper} {o : Oper} {a : Act} {w : World} (hw : Region.wanted o (yielded ops a.tmps) = true) (s x : Operand) (t : TypeId) (hop : o.op = Op.call { callee := Callee.builtin Builtin.append, args := #[s, x], argTypes := #[t, t] }) (d v v' : Value) (w' : World)
    (hs : a.eval s = d) (hx : a.eval x = v) (hrun : (Builtin.append_ #[t, t] o.type #[d, v]).run P w = .ok v' w') (hk : wpListIn F n P ops Q rest (a.put o.dst v') w') : wpListIn F n P ops Q (o :: rest) a w := by
  rw [wpListIn, if_pos hw]
  exact op_append s x t hop d v v' w' hs hx hrun hk
end
theorem tok_one (ts : List Lx.Tok) : ∀ u ∈ tokCells ts, u.oneCell' = true := by
  intro u hu
  obtain ⟨t, _, ht⟩ := List.mem_flatMap.1 hu
  simp only [tokC, List.mem_cons, List.not_mem_nil, or_false] at ht
  rcases ht with rfl | rfl | rfl <;> rfl
theorem add_zero_plain (g j : Nat) : (⟨g, 0, none⟩ : Addr).add j = ⟨g, j, none⟩ := by cases j <;> simp [Addr.add]
theorem owns_cap {W : World} {B k size g cap : Nat} {e : TypeId} {xs : List Value} (h : W.ownsRow B e size (.slice (some ⟨g, 0, none⟩) k cap) k xs) : k ≤ cap := by
  rcases h.2 with ⟨h0, _⟩ | ⟨g', cap', cur, he, _, _, hnc, _⟩
  · cases h0
  · injection he with _ _ e3; omega

/-- Tokens, the first ones at other places. -/
def mixed (d : Nat) (L : List Lx.Tok) (q : Nat) : List Lx.Tok := (L.take q).map (Lx.Tok.shift d) ++ L.drop q
theorem mixed_zero (d : Nat) (L : List Lx.Tok) : mixed d L 0 = L := by simp [mixed]
theorem mixed_all (d : Nat) (L : List Lx.Tok) : mixed d L L.length = L.map (Lx.Tok.shift d) := by simp [mixed]
theorem mixed_len (d : Nat) (L : List Lx.Tok) (q : Nat) : (mixed d L q).length = L.length := by
  unfold mixed; rw [List.length_append, List.length_map, ← List.length_append, List.take_append_drop]
theorem mixed_get (d : Nat) (L : List Lx.Tok) (q : Nat) (t : Lx.Tok) (h : L[q]? = some t) : (mixed d L q)[q]? = some t := by
  have hq := (List.getElem?_eq_some_iff.1 h).1
  unfold mixed
  rw [List.getElem?_append_right (by rw [List.length_map, List.length_take]; omega), List.length_map, List.length_take, Nat.min_eq_left (by omega), Nat.sub_self, List.getElem?_drop]
  exact h
theorem mixed_succ (d : Nat) (L : List Lx.Tok) (q : Nat) (t : Lx.Tok) (h : L[q]? = some t) : (mixed d L q).set q (t.shift d) = mixed d L (q + 1) := by
  obtain ⟨hq, he⟩ := List.getElem?_eq_some_iff.1 h
  unfold mixed
  rw [List.set_append_right _ _ (by rw [List.length_map, List.length_take]; omega), List.length_map, List.length_take, Nat.min_eq_left (by omega), Nat.sub_self]
  rw [List.drop_eq_getElem_cons hq, List.set_cons_zero, List.take_succ_eq_append_getElem hq, List.map_append, List.append_assoc, he]
  rfl
theorem tokCells_set (L : List Lx.Tok) : ∀ (q : Nat) (t : Lx.Tok) (a : Nat), L[q]? = some t → (tokCells L).set (q * 3 + 2) (.int .i64 a) = tokCells (L.set q ⟨t.kind, t.text, a⟩) := by
  induction L with
  | nil => intro q t a h; simp at h
  | cons y r ih =>
    intro q t a h
    have e : tokCells (y :: r) = tokC y ++ tokCells r := rfl
    cases q with
    | zero =>
      simp at h; subst h
      rfl
    | succ q =>
      have h2 := ih q t a (by simpa using h)
      have e3 : (tokC y).length = 3 := rfl
      rw [e, show (q + 1) * 3 + 2 = 3 + (q * 3 + 2) by omega, List.set_append_right _ _ (by omega), e3, Nat.add_sub_cancel_left, h2]
      rfl

/-- There are no more tokens than bytes. -/
theorem Lx.rest_len (a : List UInt8) : ∀ (k : Nat) (acc ts : List Lx.Tok), Lx.rest a k acc = .ok ts → ts.length ≤ acc.length + a.length := by
  refine Lx.bySteps (P := fun a => ∀ (k : Nat) (acc ts : List Lx.Tok), Lx.rest a k acc = .ok ts → ts.length ≤ acc.length + a.length) ?_ ?_ a
  · intro k acc ts h; rw [Lx.rest_nil] at h; cases h; simp
  · intro l hl ihs iht k acc ts h
    cases hs : Lx.step l with
    | skip n =>
      rw [Lx.rest_skip _ _ hs hl] at h
      have := ihs _ hs _ _ _ h
      rw [List.length_drop] at this; omega
    | tok kind n =>
      have hn := Lx.step_tok hs
      rw [Lx.rest_tok _ _ hs hl] at h
      have := iht _ _ hs _ _ _ h
      rw [List.length_drop, List.length_append] at this; simp at this; omega
    | bad e => rw [Lx.rest_bad _ _ hs hl] at h; cases h
theorem Lx.lex_len {a : List UInt8} {ts : List Lx.Tok} (h : Lx.lex a = .ok ts) : ts.length ≤ a.length := by
  have := Lx.rest_len a 0 [] ts h
  simpa using this

set_option maxRecDepth 100000 in
set_option maxHeartbeats 4000000 in
theorem behind_law (s m : ByteArray) (hs : s.size ≤ 140737488355328) (hm : m.size ≤ 140737488355328) (w : World) (hsg : SignsAt w.heap.size w) :
    Calls Tryd.prog 4 #[.string s, .string m] w fun r w' => r = .returned (.bool true) ∧ Below w.heap.size w w' := by
  have HSG : Hid (SignsAt w.heap.size w) := hsg
  have hadd : IntKind.i64.wrap ((s.size : Int) + (m.size : Int)) = (s.size : Int) + (m.size : Int) := by rw [IntKind.wrap_i64]; omega
  clear hsg
  by_cases h2 : s.size + m.size ≤ 2000
  · have AW : Hid (_) := awake_any w HSG.out
    have i2 : decide (2000 < (s.size : Int) + (m.size : Int)) = false := by simp; omega
    have LB : Hid (_) := Lx.lex_behind s.data.toList m.data.toList
    obtain ⟨c, hc⟩ : ∃ c, c = s ++ ⟨#[10]⟩ ++ m := ⟨_, rfl⟩
    have hcd : c.data.toList = s.data.toList ++ 10 :: m.data.toList := by rw [hc, app_data, app_data]; simp
    have hcs : c.size = s.size + 1 + m.size := by
      have h1 : c.data.toList.length = c.size := rfl
      have h3 : s.data.toList.length = s.size := rfl
      have h4 : m.data.toList.length = m.size := rfl
      rw [← h1, hcd, List.length_append, List.length_cons, h3, h4]; omega
    rw [← hcd] at LB
    have HCS : Hid (_) := hcs
    have hcl : c.size ≤ 2001 := by omega
    clear hcd hcs
    refine (callsIn_wide (n := 3)).1 ?_
    refine callsIn_of_wp Tryd.func4 rfl trivial ?_ rfl
    simp only [Tryd.ntmps4, List.size_toArray, List.length_cons, List.length_nil, Nat.reduceAdd, Nat.reduceSub, Array.replicate_succ, Array.replicate_zero, List.push_toArray, List.append_toArray, List.nil_append, List.cons_append]
    gi_wp2_with fail
    refine ⟨trivial, ?_⟩
    refine (callsIn_wide.2 AW.out).mono ?_
    rintro r w1 ⟨rfl, b1⟩
    have B1 : Hid (Below w.heap.size w w1) := b1
    clear b1 AW
    gi_wp2_with fail
    refine ⟨trivial, ?_⟩
    refine (callsIn_wide.2 (tokens_any s w1 (HSG.out.at B1.out) (by omega))).mono ?_
    rintro r w2 ⟨ht2, b2⟩
    obtain ⟨v2, e2, j2, hr, T2⟩ := ht2.told
    subst hr
    have HT2 : Hid (Told5 w1.heap.size s.size v2 e2 j2 w2 (Lx.lex s.data.toList)) := T2
    obtain ⟨X2, hX2⟩ : ∃ X, X = w2.alloc (.cells #[.int .i64 e2, .int .i64 j2] 26) := ⟨_, rfl⟩
    have bX2 : Below w2.heap.size w2 X2 := by rw [hX2]; exact below_nw w2 _
    have fX2 : X2.heap[w2.heap.size]? = some (.cells #[.int .i64 e2, .int .i64 j2] 26 (0, 0)) := by rw [hX2]; exact World.alloc_heap_new w2 _
    have B2 : Hid (Below w.heap.size w X2) := below_then (below_then B1.out b2) bX2
    have FX2 : Hid (_) := fX2
    have BX2 : Hid (_) := bX2
    obtain ⟨ts0, tl0, -, -⟩ := T2
    obtain ⟨va, vc, vb, vd, rfl, -, -, -⟩ := tl0.parts
    clear b2 bX2 fX2 ht2 tl0
    gi_wp2_with fail
    rw [← hX2]
    clear hX2
    refine ⟨trivial, ?_⟩
    refine (callsIn_wide.2 (tokens_any m X2 (HSG.out.at B2.out) (by omega))).mono ?_
    rintro r w3 ⟨ht3, b3⟩
    obtain ⟨v3, e3, j3, hr, T3⟩ := ht3.told
    subst hr
    have HT3 : Hid (Told5 X2.heap.size m.size v3 e3 j3 w3 (Lx.lex m.data.toList)) := T3
    obtain ⟨X3, hX3⟩ : ∃ X, X = w3.alloc (.cells #[.int .i64 e3, .int .i64 j3] 26) := ⟨_, rfl⟩
    have bX3 : Below w3.heap.size w3 X3 := by rw [hX3]; exact below_nw w3 _
    have fX3 : X3.heap[w3.heap.size]? = some (.cells #[.int .i64 e3, .int .i64 j3] 26 (0, 0)) := by rw [hX3]; exact World.alloc_heap_new w3 _
    have C3 : Hid (Below X2.heap.size X2 X3) := below_then b3 bX3
    have FX3 : Hid (_) := fX3
    have BX3 : Hid (_) := bX3
    obtain ⟨us0, ul0, -, -⟩ := T3
    obtain ⟨ua, uc, ub, ud, rfl, -, -, -⟩ := ul0.parts
    clear b3 bX3 fX3 ht3 ul0
    gi_wp2_with fail
    rw [← hX3, ← hc]
    clear hX3 hc
    refine ⟨trivial, ?_⟩
    refine (callsIn_wide.2 (tokens_any c X3 (HSG.out.at (below_then B2.out C3.out)) (by omega))).mono ?_
    rintro r w4 ⟨ht4, b4⟩
    obtain ⟨v4, e4, j4, hr, T4⟩ := ht4.told
    subst hr
    have HT4 : Hid (Told5 X3.heap.size c.size v4 e4 j4 w4 (Lx.lex c.data.toList)) := T4
    have D4 : Below X2.heap.size X2 w4 := below_then C3.out b4
    have h2b := (D4.block _ (Array.getElem?_eq_some_iff.1 FX2.out).1).trans FX2.out
    have h3b := (b4.block _ (Array.getElem?_eq_some_iff.1 FX3.out).1).trans FX3.out
    have l2 := (Array.getElem?_eq_some_iff.1 h2b).1
    have l3 := (Array.getElem?_eq_some_iff.1 h3b).1
    have c20 : w4.cell? ⟨w2.heap.size, 0, none⟩ = some (.int .i64 e2) := by rw [Lib.cell_of_heap h2b]; rfl
    have c21 : w4.cell? ⟨w2.heap.size, 1, none⟩ = some (.int .i64 j2) := by rw [Lib.cell_of_heap h2b]; rfl
    have c30 : w4.cell? ⟨w3.heap.size, 0, none⟩ = some (.int .i64 e3) := by rw [Lib.cell_of_heap h3b]; rfl
    have c31 : w4.cell? ⟨w3.heap.size, 1, none⟩ = some (.int .i64 j3) := by rw [Lib.cell_of_heap h3b]; rfl
    have B4 : Hid (Below w.heap.size w w4) := below_then B2.out D4
    have HD4 : Hid (Below X2.heap.size X2 w4) := D4
    have HB4 : Hid (Below X3.heap.size X3 w4) := b4
    clear D4 h2b h3b b4 ht4
    cases hA : Lx.lex s.data.toList with
    | fault e i =>
      rw [hA] at HT2 LB
      simp only at LB
      rw [LB.out] at HT4
      obtain ⟨tsx, -, -, h2r⟩ := HT2.out
      obtain ⟨ts4, tl4, -, h4r⟩ := HT4.out
      have e21 : e2 = e ∧ j2 = i := by
        rcases h2r with ⟨q, -⟩ | ⟨us, q, -⟩
        · cases q; exact ⟨rfl, rfl⟩
        · cases q
      have e41 : e4 = e ∧ j4 = i ∧ ts4 = [] := by
        rcases h4r with ⟨q, q2⟩ | ⟨us, q, -⟩
        · cases q; exact ⟨rfl, rfl, q2⟩
        · cases q
      obtain ⟨rfl, rfl⟩ := e21
      obtain ⟨rfl, rfl, rfl⟩ := e41
      obtain ⟨qa, qc, qb, qd, rfl, -, -, -⟩ := tl4.parts
      have he : e4 ≠ 0 := by rcases (Lx.lex_fault hA).2 with rfl | rfl <;> decide
      have hz : ((e4 : Int) != 0) = true := by simpa using he
      have hee : ((e4 : Int) == (e4 : Int)) = true := by simp
      have hjj : ((j4 : Int) == (j4 : Int)) = true := by simp
      clear hA LB HT2 HT3 HT4 h2r h4r tl4
      gi_wp2
      exact bodyPost_ret (results_tmp rfl _ _ _) rfl ⟨rfl, below_then B4.out (below_nw w4 _)⟩
    | ok ts =>
      rw [hA] at HT2 LB
      simp only at LB
      obtain ⟨ts2, tl2, -, h2r⟩ := HT2.out
      have e21 : e2 = 0 ∧ j2 = 0 ∧ ts2 = ts ++ [⟨5, [], s.size⟩] ∧ w2.ownsRow w1.heap.size 31 3 (.slice va ts0.length vc) ts2.length (tokCells ts2) := by
        rcases h2r with ⟨q, -⟩ | ⟨us, q, q1, q2, q3, q4⟩
        · cases q
        · cases q; exact ⟨q1, q2, q3, q4⟩
      obtain ⟨rfl, rfl, rfl, ho2⟩ := e21
      cases hB : Lx.lex m.data.toList with
      | fault e i =>
        rw [hB] at HT3 LB
        rw [LB.out] at HT4
        obtain ⟨usx, -, -, h3r⟩ := HT3.out
        obtain ⟨ts4, tl4, -, h4r⟩ := HT4.out
        have e31 : e3 = e ∧ j3 = i := by
          rcases h3r with ⟨q, -⟩ | ⟨us, q, -⟩
          · cases q; exact ⟨rfl, rfl⟩
          · cases q
        have e41 : e4 = e ∧ j4 = i + (s.size + 1) := by
          rcases h4r with ⟨q, q2⟩ | ⟨us, q, -⟩
          · cases q; exact ⟨rfl, rfl⟩
          · cases q
        obtain ⟨rfl, rfl⟩ := e31
        obtain ⟨rfl, hj4⟩ := e41
        obtain ⟨qa, qc, qb, qd, rfl, -, -, -⟩ := tl4.parts
        have he : e4 ≠ 0 := by rcases (Lx.lex_fault hB).2 with rfl | rfl <;> decide
        have hi : j3 < m.size := (Lx.lex_fault hB).1
        have hz : ((e4 : Int) != 0) = true := by simpa using he
        have hee : ((e4 : Int) == (e4 : Int)) = true := by simp
        have w1' : IntKind.i64.wrap ((j3 : Int) + (s.size : Int)) = (j3 : Int) + (s.size : Int) := by rw [IntKind.wrap_i64]; omega
        have w2' : IntKind.i64.wrap ((j3 : Int) + (s.size : Int) + 1) = (j3 : Int) + (s.size : Int) + 1 := by rw [IntKind.wrap_i64]; omega
        have hjj : ((j4 : Int) == (j3 : Int) + (s.size : Int) + 1) = true := by rw [beq_iff_eq, hj4]; omega
        clear hA hB LB HT2 HT3 HT4 h2r h3r h4r tl2 tl4 ho2 hj4
        gi_wp2
        exact bodyPost_ret (results_tmp rfl _ _ _) rfl ⟨rfl, below_then B4.out (below_nw w4 _)⟩
      | ok us =>
        rw [hB] at HT3 LB
        rw [LB.out] at HT4
        obtain ⟨us2, ul2, -, h3r⟩ := HT3.out
        obtain ⟨ts4, tl4, -, h4r⟩ := HT4.out
        have e31 : e3 = 0 ∧ j3 = 0 ∧ us2 = us ++ [⟨5, [], m.size⟩] ∧ w3.ownsRow X2.heap.size 31 3 (.slice ua us0.length uc) us2.length (tokCells us2) := by
          rcases h3r with ⟨q, -⟩ | ⟨us, q, q1, q2, q3, q4⟩
          · cases q
          · cases q; exact ⟨q1, q2, q3, q4⟩
        have e41 : e4 = 0 ∧ j4 = 0 ∧ ts4 = ts ++ us.map (Lx.Tok.shift (s.size + 1)) ++ [⟨5, [], c.size⟩] ∧ w4.ownsRow X3.heap.size 31 3 v4 ts4.length (tokCells ts4) := by
          rcases h4r with ⟨q, -⟩ | ⟨us', q, q1, q2, q3, q4⟩
          · cases q
          · cases q; exact ⟨q1, q2, q3, q4⟩
        obtain ⟨rfl, rfl, rfl, ho3⟩ := e31
        obtain ⟨rfl, rfl, rfl, ho4⟩ := e41
        have hla : (ts ++ [(⟨5, [], s.size⟩ : Lx.Tok)]).length = ts.length + 1 := by simp
        have hlb : (us ++ [(⟨5, [], m.size⟩ : Lx.Tok)]).length = us.length + 1 := by simp
        have hlc : (ts ++ us.map (Lx.Tok.shift (s.size + 1)) ++ [(⟨5, [], c.size⟩ : Lx.Tok)]).length = ts.length + us.length + 1 := by simp; omega
        rw [hla] at ho2
        rw [hlb] at ho3
        rw [hlc] at ho4
        obtain ⟨g2, p2, x2⟩ := ownsRow_succ ho2
        obtain ⟨g3, p3, x3⟩ := ownsRow_succ ho3
        obtain ⟨g4, p4, x4⟩ := ownsRow_succ ho4
        rw [x2] at ho2 ⊢
        rw [x3] at ho3 ⊢
        rw [x4] at ho4 ⊢
        have HTC : Hid (ts ++ (us ++ [(⟨5, [], m.size⟩ : Lx.Tok)]).map (Lx.Tok.shift (s.size + 1)) = ts ++ us.map (Lx.Tok.shift (s.size + 1)) ++ [(⟨5, [], c.size⟩ : Lx.Tok)]) := by
          show ts ++ (us ++ [(⟨5, [], m.size⟩ : Lx.Tok)]).map (Lx.Tok.shift (s.size + 1)) = _
          have e9 : Lx.Tok.shift (s.size + 1) ⟨5, [], m.size⟩ = ⟨5, [], c.size⟩ := by
            show (⟨5, [], m.size + (s.size + 1)⟩ : Lx.Tok) = _
            rw [HCS.out, show m.size + (s.size + 1) = s.size + 1 + m.size by omega]
          rw [List.map_append, List.map_cons, List.map_nil, e9, List.append_assoc]
        have hna : ts.length ≤ 2000 := by
          have h1 := Lx.lex_len hA
          have h3 : s.data.toList.length = s.size := rfl
          omega
        have hnb : us.length ≤ 2000 := by
          have h1 := Lx.lex_len hB
          have h3 : m.data.toList.length = m.size := rfl
          omega
        have UAT : Hid (∀ u ∈ us ++ [(⟨5, [], m.size⟩ : Lx.Tok)], u.at_ ≤ 2000) := fun u hu => by
          rcases List.mem_append.1 hu with hu | hu
          · have h1 := ((Lx.lex_told hB).there u hu).1
            have h3 : m.data.toList.length = m.size := rfl
            omega
          · rw [List.mem_singleton.1 hu]; show m.size ≤ 2000; omega
        obtain ⟨NA, hNA⟩ : ∃ n, n = ts.length := ⟨_, rfl⟩
        obtain ⟨NB, hNB⟩ : ∃ n, n = us.length := ⟨_, rfl⟩
        obtain ⟨UB, hUB⟩ : ∃ U, U = us ++ [(⟨5, [], m.size⟩ : Lx.Tok)] := ⟨_, rfl⟩
        rw [← hNA] at ho2 ho4 hna ⊢
        rw [← hNB] at ho3 ho4 hnb ⊢
        rw [← hUB] at ho3 UAT HTC
        have hUL : UB.length = NB + 1 := by rw [hUB, hNB]; simp
        have HUL : Hid (UB.length = NB + 1) := hUL
        have HNA : Hid (NA = ts.length) := hNA
        obtain ⟨X4, hX4⟩ : ∃ X, X = w4.alloc (.cells #[.int .i64 0, .int .i64 0] 26) := ⟨_, rfl⟩
        have bX4 : Below w4.heap.size w4 X4 := by rw [hX4]; exact below_nw w4 _
        have fX4 : X4.heap[w4.heap.size]? = some (.cells #[.int .i64 0, .int .i64 0] 26 (0, 0)) := by rw [hX4]; exact World.alloc_heap_new w4 _
        have lg2 := (ho2.lt g2 rfl).2
        have lg3 := ho3.lt g3 rfl
        have lg4 := (ho4.lt g4 rfl).1
        have O2 : Hid (_) := owns_below ho2 (below_then BX2.out (below_then HD4.out bX4))
        have O3 : Hid (_) := owns_below ho3 (below_then BX3.out (below_then HB4.out bX4))
        have O4 : Hid (_) := owns_below ho4 bX4
        have s2 := BX2.out.size
        have s3 := C3.out.size
        have s3' := BX3.out.size
        have s4 := HB4.out.size
        have n23 : g2 ≠ g3 := by omega
        have n34 : g4 ≠ g3 := by omega
        have n5 : w4.heap.size ≠ g3 := by omega
        have FX4 : Hid (_) := fX4
        have BX4 : Hid (Below w.heap.size w X4) := below_then B4.out bX4
        have hg3 : w.heap.size ≤ g3 := by have := B2.out.size; omega
        clear hA hB LB HT2 HT3 HT4 h2r h3r h4r tl2 ul2 tl4 ho2 ho3 ho4 x2 x3 x4 hla hlb hlc hNA hNB hUB hUL bX4 fX4 lg2 lg3 lg4 s2 s3 s3' s4
        have j2 : ((NA : Int) + 1 == 0) = false := by rw [beq_eq_false_iff_ne]; omega
        have j3 : ((NB : Int) + 1 == 0) = false := by rw [beq_eq_false_iff_ne]; omega
        have j1 : ((NA : Int) + (NB : Int) + 1 != (NA : Int) + ((NB : Int) + 1)) = false := by
          rw [bne_eq_false_iff_eq]; omega
        gi_wp2_with fail
        gi_loopw [11] (fun I wr => ∃ q : Nat, q ≤ NB + 1 ∧ I = .int .i64 q ∧ wr.ownsRow X2.heap.size 31 3 (.slice (some ⟨g3, 0, none⟩) (NB + 1) p3) (NB + 1) (tokCells (mixed (s.size + 1) UB q)) ∧ X4.grownBy wr (some g3)) (fun I _ => NB + 1 - (intOf I).toNat)
        case atStart => exact ⟨0, Nat.zero_le _, rfl, by rw [mixed_zero, ← hX4]; exact O3.out, by rw [← hX4]; exact ⟨rfl, rfl, rfl, Nat.le_refl _, fun _ _ _ => rfl⟩⟩
        case round =>
          clear hX4 c20 c21 c30 c31 l2 l3
          obtain ⟨q, hq, rfl, hown, hgr⟩ := hrel
          have HGR : Hid (_) := hgr
          have HOW : Hid (_) := hown
          by_cases hlt : q < NB + 1
          · obtain ⟨t, ht⟩ : ∃ t, UB[q]? = some t := ⟨UB[q]'(by have := HUL.out; omega), List.getElem?_eq_getElem _⟩
            have hat := UAT.out t (List.mem_of_getElem? ht)
            obtain ⟨-, -, m2⟩ := tokCells_get _ q t (mixed_get (s.size + 1) UB q t ht)
            have c2 : wr.cell? ⟨g3, q * 3 + 2, none⟩ = some (.int .i64 t.at_) := (hown.cellAt (q * 3 + 2) (by omega)).trans m2
            have f2 := hown.frozenAt (q * 3 + 2)
            have hst := hown.stored (q * 3 + 2) (.int .i64 ((t.at_ : Int) + (s.size : Int) + 1))
            have HNX : Hid (_) := hst
            have HTS : Hid ((tokCells (mixed (s.size + 1) UB q)).set (q * 3 + 2) (.int .i64 ((t.at_ : Int) + (s.size : Int) + 1)) = tokCells (mixed (s.size + 1) UB (q + 1))) := by
              show (tokCells (mixed (s.size + 1) UB q)).set (q * 3 + 2) (.int .i64 ((t.at_ : Int) + (s.size : Int) + 1)) = _
              have e8 := tokCells_set _ q t (t.at_ + (s.size + 1)) (mixed_get (s.size + 1) UB q t ht)
              have e9 : (((t.at_ + (s.size + 1) : Nat)) : Int) = (t.at_ : Int) + (s.size : Int) + 1 := by omega
              rw [e9] at e8
              rw [e8, ← mixed_succ (s.size + 1) UB q t ht]
              rfl
            obtain ⟨p, hp⟩ : ∃ p, p = t.at_ := ⟨_, rfl⟩
            rw [← hp] at hat c2 HNX HTS
            have w1' : IntKind.i64.wrap ((p : Int) + (s.size : Int)) = (p : Int) + (s.size : Int) := by rw [IntKind.wrap_i64]; omega
            have w2' : IntKind.i64.wrap ((p : Int) + (s.size : Int) + 1) = (p : Int) + (s.size : Int) + 1 := by rw [IntKind.wrap_i64]; omega
            clear hst ht m2 hown hgr hp
            gi_wp2
            go_roundw
            case rel =>
              refine ⟨q + 1, by omega, by go_num, ?_, ?_⟩
              · have h1 := HNX.out.1
                rw [HTS.out] at h1
                exact h1
              · have h1 := HNX.out.2
                have h2 := HGR.out
                exact ⟨h1.os.trans h2.os, h1.tape.trans h2.tape, h1.output.trans h2.output, Nat.le_trans h2.size h1.size, fun j hj hn => (h1.block j (Nat.lt_of_lt_of_le hj h2.size) hn).trans (h2.block j hj hn)⟩
            case measure => simp [intOf]; omega
          · have hqe : q = UB.length := by have := HUL.out; omega
            have o3 := HOW.out
            rw [hqe, mixed_all] at o3
            have OB : Hid (_) := o3
            have kp : ∀ k, k < X4.heap.size → k ≠ g3 → wr.heap[k]? = X4.heap[k]? := fun k hk hn => hgr.block k hk (fun e => hn (by cases e; rfl))
            have OA : Hid (wr.ownsRow w1.heap.size 31 3 (.slice (some ⟨g2, 0, none⟩) (NA + 1) p2) (NA + 1) (tokCells (ts ++ [⟨5, [], s.size⟩]))) := by
              refine ⟨O2.out.1, ?_⟩
              rcases O2.out.2 with ⟨h0, _⟩ | ⟨g, cap, cur, hv, h1, hgb, h2⟩
              · cases h0
              · cases hv
                exact .inr ⟨g2, p2, cur, rfl, h1, (kp g2 (Array.getElem?_eq_some_iff.1 hgb).1 n23).trans hgb, h2⟩
            have OC : Hid (wr.ownsRow X3.heap.size 31 3 (.slice (some ⟨g4, 0, none⟩) (NA + NB + 1) p4) (NA + NB + 1) (tokCells (ts ++ us.map (Lx.Tok.shift (s.size + 1)) ++ [⟨5, [], c.size⟩]))) := by
              refine ⟨O4.out.1, ?_⟩
              rcases O4.out.2 with ⟨h0, _⟩ | ⟨g, cap, cur, hv, h1, hgb, h2⟩
              · cases h0
              · cases hv
                exact .inr ⟨g4, p4, cur, rfl, h1, (kp g4 (Array.getElem?_eq_some_iff.1 hgb).1 n34).trans hgb, h2⟩
            have hbx := (kp w4.heap.size (Array.getElem?_eq_some_iff.1 FX4.out).1 n5).trans FX4.out
            have z0 : wr.cell? ⟨w4.heap.size, 0, none⟩ = some (.int .i64 0) := by rw [Lib.cell_of_heap hbx]; rfl
            have BWR : Hid (Below w.heap.size w wr) := below_box BX4.out hgr hg3 BX4.out.size
            have hc2 := owns_cap OA.out
            have hc2' : NA ≤ p2 := by omega
            obtain ⟨i0, hi, hz0, hz1, hz2⟩ := info_parts infoTok
            obtain ⟨Y, hY⟩ : ∃ Y, Y = wr.alloc (.cells #[] 31) := ⟨_, rfl⟩
            have bY : Below wr.heap.size wr Y := by rw [hY]; exact below_nw wr _
            have oY : Y.ownsRow wr.heap.size 31 3 (.slice (some ⟨wr.heap.size, 0, none⟩) 0 0) 0 [] := by
              refine ⟨rfl, .inr ⟨wr.heap.size, 0, #[], rfl, Nat.le_refl _, ?_, Nat.le_refl _, by unfold maxLen; omega, rfl, rfl⟩⟩
              rw [hY]; exact World.alloc_heap_new wr _
            have hta : (tokCells ts).length = NA * 3 := by rw [tokCells_len, HNA.out]
            have src1 : ∀ (j : Nat) (u : Value), (tokCells ts)[j]? = some u → Y.cell? ((⟨g2, 0, none⟩ : Addr).add j) = some u := fun j u hu => by
              have hj := (List.getElem?_eq_some_iff.1 hu).1
              rw [add_zero_plain]
              refine ((owns_below OA.out bY).cellAt j (by omega)).trans ?_
              have e9 : tokCells (ts ++ [(⟨5, [], s.size⟩ : Lx.Tok)]) = tokCells ts ++ tokC ⟨5, [], s.size⟩ := tokCells_snoc ts _
              rw [e9, List.getElem?_append_left hj]; exact hu
            obtain ⟨u1, Y1, hrun1, own1, gr1, -⟩ := run_append_own (P := Tryd.prog) Y wr.heap.size 23 23 31 i0 (.agg #[.int .u8 0, .string ⟨#[]⟩, .int .i64 0]) 3 32 Tryd.underlying23 hi hz0 hz1 hz2 rfl (by decide) (.slice (some ⟨wr.heap.size, 0, none⟩) 0 0) _ _ oY ⟨g2, 0, none⟩ NA p2 (tokCells ts) hta src1 (tok_one ts) (by unfold maxLen; omega) (by omega) bY.size
            rw [Nat.zero_add, List.nil_append] at own1
            have bY1 : Below wr.heap.size wr Y1 := bY.grown gr1 bY.size (fun q hq => (World.ownsRow.lt oY q hq).1)
            have htb : (tokCells (UB.map (Lx.Tok.shift (s.size + 1)))).length = (NB + 1) * 3 := by rw [tokCells_len, List.length_map, HUL.out]
            have src2 : ∀ (j : Nat) (u : Value), (tokCells (UB.map (Lx.Tok.shift (s.size + 1))))[j]? = some u → Y1.cell? ((⟨g3, 0, none⟩ : Addr).add j) = some u := fun j u hu => by
              have hj := (List.getElem?_eq_some_iff.1 hu).1
              rw [add_zero_plain]
              exact ((owns_below OB.out bY1).cellAt j (by omega)).trans hu
            obtain ⟨u2, Y2, hrun2, own2, gr2, -⟩ := run_append_own (P := Tryd.prog) Y1 wr.heap.size 23 23 31 i0 (.agg #[.int .u8 0, .string ⟨#[]⟩, .int .i64 0]) 3 32 Tryd.underlying23 hi hz0 hz1 hz2 rfl (by decide) u1 _ _ own1 ⟨g3, 0, none⟩ (NB + 1) p3 (tokCells (UB.map (Lx.Tok.shift (s.size + 1)))) htb src2 (tok_one _) (by unfold maxLen; omega) (by omega) bY1.size
            have bY2 : Below wr.heap.size wr Y2 := bY1.grown gr2 bY1.size (fun q hq => (World.ownsRow.lt own1 q hq).1)
            have eTC : tokCells ts ++ tokCells (UB.map (Lx.Tok.shift (s.size + 1))) = tokCells (ts ++ us.map (Lx.Tok.shift (s.size + 1)) ++ [⟨5, [], c.size⟩]) := by
              rw [← HTC.out]; simp [tokCells]
            have eln : (ts ++ us.map (Lx.Tok.shift (s.size + 1)) ++ [(⟨5, [], c.size⟩ : Lx.Tok)]).length = NA + (NB + 1) := by
              rw [← HTC.out, List.length_append, List.length_map, HUL.out, HNA.out]
            have own2' : Y2.ownsRow wr.heap.size 31 3 u2 (ts ++ us.map (Lx.Tok.shift (s.size + 1)) ++ [(⟨5, [], c.size⟩ : Lx.Tok)]).length (tokCells (ts ++ us.map (Lx.Tok.shift (s.size + 1)) ++ [⟨5, [], c.size⟩])) := by
              rw [eln, ← eTC]; exact own2
            have o4' : Y2.ownsRow X3.heap.size 31 3 (.slice (some ⟨g4, 0, none⟩) (NA + NB + 1) p4) (ts ++ us.map (Lx.Tok.shift (s.size + 1)) ++ [(⟨5, [], c.size⟩ : Lx.Tok)]).length (tokCells (ts ++ us.map (Lx.Tok.shift (s.size + 1)) ++ [⟨5, [], c.size⟩])) := by
              rw [show (ts ++ us.map (Lx.Tok.shift (s.size + 1)) ++ [(⟨5, [], c.size⟩ : Lx.Tok)]).length = NA + NB + 1 by rw [eln]; omega]
              exact owns_below OC.out bY2
            have SM : Hid (_) := sameTokens_yes _ _ _ _ _ Y2 (ToksLow.of_owns o4') (ToksLow.of_owns own2') (by rw [eln]; omega)
            obtain ⟨ua1, uc1, rfl⟩ := slice_shape own1
            obtain ⟨L2, hL2⟩ : ∃ L, L = NA + (NB + 1) := ⟨_, rfl⟩
            rw [← hL2] at own2
            obtain ⟨ua2, uc2, rfl⟩ := slice_shape own2
            have BF : Hid (Below w.heap.size w Y2) := below_then BWR.out bY2
            rw [hY] at hrun1
            clear hown hgr o3 kp hbx hqe oY own1 own2 own2' o4' gr1 gr2 src1 src2 bY bY1 bY2 eTC eln hta htb hY hc2 hL2
            gi_wp2_with (first
              | (gi_at_builtin; refine list_append_g (by rfl) _ _ 23 rfl _ _ _ _ rfl rfl hrun1 ?_)
              | (gi_at_builtin; refine list_append_g (by rfl) _ _ 23 rfl _ _ _ _ rfl rfl hrun2 ?_)
              | (refine ⟨trivial, ?_⟩; refine (callsIn_wide.2 SM.out).mono ?_; rintro r w9 ⟨rfl, d9, rfl⟩))
            exact bodyPost_ret (results_tmp rfl _ _ _) rfl ⟨rfl, below_drewN BF.out _⟩
  · have i2 : decide (2000 < (s.size : Int) + (m.size : Int)) = true := by simp; omega
    go_enter Tryd.func4, Tryd.ntmps4
    go_wp2_with fail
    refine (awake_any w HSG.out).mono ?_
    rintro r w1 ⟨rfl, b1⟩
    have B1 : Hid (Below w.heap.size w w1) := b1
    clear b1
    go_wp2
    go_ret
    exact ⟨rfl, B1.out⟩

end Go.Proofs.YtkiafelpgcmifabDoor
