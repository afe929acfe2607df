/-
  The walks of clerestorykit.SameTokens (the same tokens) and of the law LexTells.
-/
import Derived.Test.YtkiafelpgcmifaaDoorLxRefTok
namespace Go.Proofs.YtkiafelpgcmifaaDoor
open Go.RowKit Go.Shelf

attribute [local go_sem] Oper.semAt_some

theorem tokCells_len (ts : List Lx.Tok) : (tokCells ts).length = ts.length * 3 := by
  induction ts with
  | nil => rfl
  | cons t r ih => simp only [tokCells, List.flatMap_cons, List.length_append, List.length_cons] at ih ⊢; rw [ih]; simp [tokC]; omega
theorem tokCells_get (ts : List Lx.Tok) : ∀ (k : Nat) (t : Lx.Tok), ts[k]? = some t → (tokCells ts)[k * 3]? = some (.int .u8 t.kind) ∧ (tokCells ts)[k * 3 + 1]? = some (.string (Ln.bs t.text)) ∧ (tokCells ts)[k * 3 + 2]? = some (.int .i64 t.at_) := by
  induction ts with
  | nil => intro k t h; simp at h
  | cons y r ih =>
    intro k t h
    cases k with
    | zero => simp at h; subst h; exact ⟨rfl, rfl, rfl⟩
    | succ k =>
      have h2 := ih k t (by simpa using h)
      have e : tokCells (y :: r) = tokC y ++ tokCells r := rfl
      have e3 : (tokC y).length = 3 := rfl
      rw [e, show (k + 1) * 3 = 3 + k * 3 by omega]
      refine ⟨?_, ?_, ?_⟩
      · rw [List.getElem?_append_right (by omega), e3, Nat.add_sub_cancel_left]; exact h2.1
      · rw [List.getElem?_append_right (by omega), e3, show 3 + k * 3 + 1 - 3 = k * 3 + 1 by omega]; exact h2.2.1
      · rw [List.getElem?_append_right (by omega), e3, show 3 + k * 3 + 2 - 3 = k * 3 + 2 by omega]; exact h2.2.2

/-- A row that reads as tokens. -/
def ToksLow (m : Nat) (w : World) (v : Value) (ts : List Lx.Tok) : Prop := CellsLow m w v ts.length (tokCells ts)
theorem ToksLow.parts {m : Nat} {w : World} {v : Value} {ts : List Lx.Tok} (h : ToksLow m w v ts) : ∃ ao cap b off, v = .slice ao ts.length cap ∧ (ts.length ≤ cap ∧ (ao = none → cap = 0)) ∧ (0 < ts.length → ao = some ⟨b, off, none⟩ ∧ b < m) ∧ ∀ (j : Nat) (t : Lx.Tok), ts[j]? = some t → w.cell? ⟨b, off + j * 3, none⟩ = some (.int .u8 t.kind) ∧ w.cell? ⟨b, off + j * 3 + 1, none⟩ = some (.string (Ln.bs t.text)) ∧ w.cell? ⟨b, off + j * 3 + 2, none⟩ = some (.int .i64 t.at_) := by
  obtain ⟨ao, cap, b, off, hv, hc, ha, hx⟩ := h
  refine ⟨ao, cap, b, off, hv, hc, ha, fun j t hj => ?_⟩
  obtain ⟨h0, h1, h2⟩ := tokCells_get ts j t hj
  exact ⟨hx _ _ h0, by have := hx _ _ h1; rwa [← Nat.add_assoc] at this, by have := hx _ _ h2; rwa [← Nat.add_assoc] at this⟩
theorem ToksLow.of_owns {W : World} {B : Nat} {v : Value} {ts : List Lx.Tok} (h : W.ownsRow B 38 3 v ts.length (tokCells ts)) : ToksLow W.heap.size W v ts := CellsLow.of_owns h
theorem ToksLow.at {w W : World} {v : Value} {ts : List Lx.Tok} (h : ToksLow w.heap.size w v ts) (hb : Below w.heap.size w W) : ToksLow W.heap.size W v ts :=
  CellsLow.at h hb (fun h0 => by rw [List.length_eq_zero_iff.1 h0]; rfl)
theorem ToksLow.nil (m : Nat) (w : World) : ToksLow m w (.slice none 0 0) [] := ⟨none, 0, 0, 0, rfl, ⟨Nat.le_refl _, fun _ => rfl⟩, fun h => absurd h (by simp), fun j x hx => by simp [tokCells] at hx⟩

set_option maxRecDepth 100000 in
set_option maxHeartbeats 2000000 in
theorem sameTokens_yes (ts : List Lx.Tok) (v1 v2 : Value) (n1 n2 : Nat) (w : World) (h1 : ToksLow n1 w v1 ts) (h2 : ToksLow n2 w v2 ts) (hl : ts.length ≤ 1000000) :
    Calls Tryd.prog 9 #[v1, v2] w fun r w' => r = .returned (.bool true) ∧ ∃ d, w' = w.drewN d := by
  obtain ⟨ao1, cap1, b1, o1, rfl, -, ha1, hc1⟩ := h1.parts
  obtain ⟨ao2, cap2, b2, o2, rfl, -, ha2, hc2⟩ := h2.parts
  have HC1 : Hid (_) := hc1
  have HC2 : Hid (_) := hc2
  clear h1 h2 hc1 hc2
  go_enter Tryd.func9, Tryd.ntmps9
  go_wp2_with fail
  go_loopw [5] (fun t wr => ∃ i : Nat, i ≤ ts.length ∧ t = .int .i64 i ∧ ∃ d, wr = w.drewN d) (fun t _ => ts.length - (intOf t).toNat)
  case atStart => exact ⟨0, Nat.zero_le _, rfl, 0, rfl⟩
  case round =>
    obtain ⟨i, hi, rfl, d, hd⟩ := hrel
    by_cases hlt : i < ts.length
    · obtain ⟨t, ht⟩ : ∃ t, ts[i]? = some t := ⟨ts[i], List.getElem?_eq_getElem hlt⟩
      obtain ⟨rfl, -⟩ := ha1 (by omega)
      obtain ⟨rfl, -⟩ := ha2 (by omega)
      obtain ⟨c0, c1, c2⟩ := HC1.out i t ht
      obtain ⟨d0, d1, d2⟩ := HC2.out i t ht
      have hcell : ∀ p, wr.cell? p = w.cell? p := fun p => by rw [hd]; rfl
      rw [← hcell] at c0 c1 c2 d0 d1 d2
      have HD : Hid (_) := hd
      clear hcell ha1 ha2 ht hd
      go_wp2
      go_quiet (fail)
      go_wp2
      go_roundw
      case rel => exact ⟨i + 1, by omega, by go_num, _, by rw [HD.out, World.drewN_drewN]⟩
      case measure => simp [intOf]; omega
    · have HD : Hid (_) := hd
      clear hd ha1 ha2
      go_wp2
      go_ret
      exact ⟨rfl, d, HD.out⟩

/-- Tokens and the fault, as they are handed out. -/
def Told5 (B n : Nat) (v : Value) (e i : Nat) (W : World) (res : Lx.Res) : Prop := (∃ ts, ToksLow W.heap.size W v ts ∧ ts.length ≤ n + 1 ∧ ((res = .fault e i ∧ ts = []) ∨ ∃ us, res = .ok us ∧ e = 0 ∧ i = 0 ∧ ts = us ++ [⟨5, [], n⟩] ∧ W.ownsRow B 38 3 v ts.length (tokCells ts)))
theorem TokPost.told {B n : Nat} {r : Ending} {W : World} {res : Lx.Res} (h : TokPost B n r W res) : ∃ v e i, r = .returned (.tuple #[v, .agg #[.int .i64 (e : Nat), .int .i64 (i : Nat)]]) ∧ Told5 B n v e i W res := by
  cases res with
  | fault e i => exact ⟨.slice none 0 0, e, i, h, [], ToksLow.nil _ _, by simp, .inl ⟨rfl, rfl⟩⟩
  | ok ts =>
    obtain ⟨v, hr, ho, hl⟩ := h
    exact ⟨v, 0, 0, hr, _, ToksLow.of_owns ho, by simp; omega, .inr ⟨ts, rfl, rfl, rfl, rfl, ho⟩⟩

set_option maxRecDepth 100000 in
set_option maxHeartbeats 2000000 in
theorem tells_law (s : ByteArray) (hs : s.size ≤ maxLen) (w : World) (hsg : SignsAt w.heap.size w) :
    Calls Tryd.prog 3 #[.string s] w fun r w' => r = .returned (.bool true) ∧ Below w.heap.size w w' := by
  have HSG : Hid (SignsAt w.heap.size w) := hsg
  have hs1 : s.size ≤ 9223372036854775807 := hs
  clear hsg
  by_cases h2 : s.size ≤ 2000
  · have AW : Hid (_) := awake_any w HSG.out
    go_enter Tryd.func3, Tryd.ntmps3
    go_wp2_with fail
    refine Calls.mono AW.out ?_
    rintro r w1 ⟨rfl, b1⟩
    have B1 : Hid (Below w.heap.size w w1) := b1
    clear b1 AW
    go_wp2_with fail
    refine (tokens_any s w1 (HSG.out.at B1.out) (by omega)).mono ?_
    rintro r w2 ⟨ht2, b2⟩
    obtain ⟨v2, e2, i2, rfl, hv2⟩ := ht2.told
    obtain ⟨ts2, tl2, l2, hr2⟩ := hv2
    obtain ⟨X2, hX2⟩ : ∃ X, X = w2.alloc (.cells #[.int .i64 e2, .int .i64 i2] 26) := ⟨_, rfl⟩
    have bX2 : Below w2.heap.size w2 X2 := by rw [hX2]; exact below_nw w2 _
    have fX2 : X2.heap[w2.heap.size]? = some (.cells #[.int .i64 e2, .int .i64 i2] 26 (0, 0)) := by rw [hX2]; exact World.alloc_heap_new w2 _
    have B2 : Hid (Below w.heap.size w X2) := below_then (below_then B1.out b2) bX2
    have TL2 : Hid (ToksLow X2.heap.size X2 v2 ts2) := tl2.at bX2
    have FX2 : Hid (_) := fX2
    obtain ⟨va, vc, vb, vd, rfl, -, -, -⟩ := tl2.parts
    have HR2 : Hid (_) := hr2
    clear b2 bX2 fX2 tl2 hr2 ht2
    go_wp2_with fail
    rw [← hX2]
    clear hX2
    refine (rtokens_any s X2 (by omega)).mono ?_
    rintro r w3 ⟨ht3, b3⟩
    obtain ⟨v3, e3, i3, rfl, hv3⟩ := ht3.told
    obtain ⟨ts3, tl3, l3, hr3⟩ := hv3
    have hts : ts3 = ts2 ∧ e3 = e2 ∧ i3 = i2 := by
      rcases HR2.out with ⟨q1, q2⟩ | ⟨us, q1, q2, q3, q4, -⟩
      · rcases hr3 with ⟨p1, p2⟩ | ⟨us', p1, -⟩
        · rw [q1] at p1; cases p1; exact ⟨by rw [p2, q2], rfl, rfl⟩
        · rw [q1] at p1; cases p1
      · rcases hr3 with ⟨p1, p2⟩ | ⟨us', p1, p2, p3, p4, -⟩
        · rw [q1] at p1; cases p1
        · rw [q1] at p1; cases p1; exact ⟨by rw [p4, q4], by rw [p2, q2], by rw [p3, q3]⟩
    obtain ⟨g1, g2, g3⟩ := hts
    rw [g1] at tl3
    rw [g2, g3]
    have h02 := (b3.block _ (Array.getElem?_eq_some_iff.1 FX2.out).1).trans FX2.out
    have l02 := (Array.getElem?_eq_some_iff.1 h02).1
    have c0 : w3.cell? ⟨w2.heap.size, 0, none⟩ = some (.int .i64 e2) := by rw [Lib.cell_of_heap h02]; rfl
    have c1 : w3.cell? ⟨w2.heap.size, 1, none⟩ = some (.int .i64 i2) := by rw [Lib.cell_of_heap h02]; rfl
    obtain ⟨X3, hX3⟩ : ∃ X, X = w3.alloc (.cells #[.int .i64 e2, .int .i64 i2] 26) := ⟨_, rfl⟩
    have bX3 : Below w3.heap.size w3 X3 := by rw [hX3]; exact below_nw w3 _
    have SM : Hid (_) := sameTokens_yes ts2 _ v3 _ _ X3 (TL2.out.at (below_then b3 bX3)) (tl3.at bX3) (by omega)
    obtain ⟨ua, uc, ub, ud, rfl, -, -, -⟩ := tl3.parts
    have B3 : Hid (Below w.heap.size w X3) := below_then B2.out (below_then b3 bX3)
    have he : ((e2 : Int) == (e2 : Int)) = true := by simp
    have hii : ((i2 : Int) == (i2 : Int)) = true := by simp
    clear b3 bX3 tl3 hr3 ht3 h02 g1 g2 g3 HR2
    go_wp2_with fail
    rw [← hX3]
    clear hX3
    refine Calls.mono SM.out ?_
    rintro r w4 ⟨rfl, d, rfl⟩
    go_wp2
    go_ret
    exact ⟨rfl, below_drewN B3.out d⟩
  · go_enter Tryd.func3, Tryd.ntmps3
    go_wp2_with fail
    refine (awake_any w HSG.out).mono ?_
    rintro r w1 ⟨rfl, b1⟩
    have B1 : Hid (Below w.heap.size w w1) := b1
    clear b1
    go_wp2
    go_ret
    exact ⟨rfl, B1.out⟩

end Go.Proofs.YtkiafelpgcmifaaDoor
