/-
  The walk of ParseBraces.
-/
import Derived.Test.YtdaaecnmllpgdaaGreatDoorPsFine2
import Derived.Test.YtdaaecnmllpgdaaGreatDoorEndAll
import Derived.Test.YtdaaecnmllpgdaaGreatDoorPairAll
import Derived.Test.YtdaaecnmllpgdaaGreatDoorTrAll
namespace Go.Proofs.YtdaaecnmllpgdaaGreatDoor
open Go.RowKit Go.Shelf

attribute [local go_sem] Oper.semAt_some

/-- Texts that a brace or a ; is. -/
def deepers : List (List UInt8) := [[59], [123], [125]]
def deeps (a : List Lx.Tok) : Nat := a.countP (fun t => deepers.contains t.text)
theorem opens_succ (L : List Lx.Tok) (q : Nat) (t : Lx.Tok) (h : L[q]? = some t) : Ps.opens (L.take (q + 1)) = Ps.opens (L.take q) + if Ps.openers.contains t.text then 1 else 0 := by
  obtain ⟨hq, he⟩ := List.getElem?_eq_some_iff.1 h
  unfold Ps.opens
  rw [List.take_succ_eq_append_getElem hq, List.countP_append, List.countP_singleton, he]
theorem deeps_succ (L : List Lx.Tok) (q : Nat) (t : Lx.Tok) (h : L[q]? = some t) : deeps (L.take (q + 1)) = deeps (L.take q) + if deepers.contains t.text then 1 else 0 := by
  obtain ⟨hq, he⟩ := List.getElem?_eq_some_iff.1 h
  unfold deeps
  rw [List.take_succ_eq_append_getElem hq, List.countP_append, List.countP_singleton, he]
theorem app_toList (a b : ByteArray) : (a ++ b).data.toList = a.data.toList ++ b.data.toList := by
  rw [ByteArray.data_append, Array.toList_append]
theorem bs_one (x : List UInt8) (c : UInt8) : ((Ln.bs x).toList == [c]) = decide (x = [c]) := by
  have h : (Ln.bs [c]).toList = [c] := by rw [Lib.toList_data]; rfl
  have := bs_beq x [c]
  rw [h] at this
  exact this
theorem tx_cases (tx : List UInt8) : tx = [40] ∨ tx = [91] ∨ tx = [123] ∨ tx = [45] ∨ tx = [33] ∨ tx = [59] ∨ tx = [125] ∨ (tx ≠ [40] ∧ tx ≠ [91] ∧ tx ≠ [123] ∧ tx ≠ [45] ∧ tx ≠ [33] ∧ tx ≠ [59] ∧ tx ≠ [125]) := by
  by_cases h1 : tx = [40]; · exact .inl h1
  by_cases h2 : tx = [91]; · exact .inr (.inl h2)
  by_cases h3 : tx = [123]; · exact .inr (.inr (.inl h3))
  by_cases h4 : tx = [45]; · exact .inr (.inr (.inr (.inl h4)))
  by_cases h5 : tx = [33]; · exact .inr (.inr (.inr (.inr (.inl h5))))
  by_cases h6 : tx = [59]; · exact .inr (.inr (.inr (.inr (.inr (.inl h6)))))
  by_cases h7 : tx = [125]; · exact .inr (.inr (.inr (.inr (.inr (.inr (.inl h7))))))
  exact .inr (.inr (.inr (.inr (.inr (.inr (.inr ⟨h1, h2, h3, h4, h5, h6, h7⟩))))))
theorem tokCells_one (ts : List Lx.Tok) : ∀ (k : Nat) (t : Lx.Tok), ts[k]? = some t → (tokCells ts)[k * 3 + 1]? = some (.string (Ln.bs t.text)) := by
  induction ts with
  | nil => intro k t h; simp at h
  | cons y r ih =>
    intro k t h
    have e : tokCells (y :: r) = tokC y ++ tokCells r := rfl
    have e3 : (tokC y).length = 3 := rfl
    cases k with
    | zero => simp at h; subst h; rfl
    | succ k =>
      rw [e, List.getElem?_append_right (by rw [e3]; omega), e3, show (k + 1) * 3 + 1 - 3 = k * 3 + 1 by omega]
      exact ih k t (by simpa using h)

set_option maxRecDepth 100000 in
set_option maxHeartbeats 8000000 in
theorem pbraces_law (s : ByteArray) (hs : s.size ≤ maxLen) (w : World) (hsg : SignsAt w.heap.size w) :
    Calls Tryz.prog 6 #[.string s] w fun e w' => e = .returned (.bool true) ∧ Below w.heap.size w w' := by
  have HSG : Hid (SignsAt w.heap.size w) := hsg
  have hs1 : s.size ≤ 9223372036854775807 := hs
  have HA : Hid (_) := pawake_any w hsg
  clear hsg hs
  go_enter Tryz.func6, Tryz.ntmps6
  go_wp2_with fail
  refine Calls.mono HA.out ?_
  rintro e w1 ⟨rfl, b1⟩
  clear HA
  have HB1 : Hid (Below w.heap.size w w1) := b1
  clear b1
  by_cases h2 : 1000 < s.size
  · have d1 : decide (1000 < s.size) = true := decide_eq_true h2
    have d2 : decide ((1000 : Int) < s.size) = true := decide_eq_true (by omega)
    go_wp2
    go_ret
    exact ⟨rfl, HB1.out⟩
  have d1 : decide (1000 < s.size) = false := decide_eq_false h2
  have d2 : decide ((1000 : Int) < s.size) = false := decide_eq_false (by omega)
  have HT : Hid (_) := tokens_any s w1 ((HSG.out.keep HB1.out).mono HB1.out.size) (by omega)
  go_wp2_with fail
  refine Calls.mono HT.out ?_
  rintro e w2 ⟨hp, hb2⟩
  clear HT
  cases hres : Lx.lex s.data.toList with
  | fault E i =>
    rw [hres] at hp
    obtain rfl := hp
    have he : E ≠ 0 := by rcases (Lx.lex_fault hres).2 with rfl | rfl <;> decide
    have hz : ((E : Int) != 0) = true := by simpa using he
    obtain ⟨X, hX⟩ : ∃ X, X = w2.alloc (.cells #[.int .i64 E, .int .i64 i] 29) := ⟨_, rfl⟩
    have bX : Below w2.heap.size w2 X := hX ▸ below_new w2 _
    have hXf : X.heap[w2.heap.size]? = some (.cells #[.int .i64 E, .int .i64 i] 29 (0, 0)) := by rw [hX]; exact World.alloc_heap_new w2 _
    have f0 : X.cell? ⟨w2.heap.size, 0, none⟩ = some (.int .i64 E) := cells_at hXf rfl
    have HE : Hid (Below w.heap.size w X) := below_then (below_then HB1.out hb2) bX
    clear hres he bX hXf hb2
    rw [hX] at f0
    go_wp2
    rw [← hX]
    go_ret
    exact ⟨rfl, HE.out⟩
  | ok us =>
    rw [hres] at hp
    obtain ⟨v, rfl, ho, hn⟩ := hp
    have hcount := Lx.lex_count hres
    have hsl : s.data.toList.length = s.size := rfl
    obtain ⟨X, hX⟩ : ∃ X, X = w2.alloc (.cells #[.int .i64 0, .int .i64 0] 29) := ⟨_, rfl⟩
    have bX : Below w2.heap.size w2 X := hX ▸ below_new w2 _
    have hXf : X.heap[w2.heap.size]? = some (.cells #[.int .i64 0, .int .i64 0] 29 (0, 0)) := by rw [hX]; exact World.alloc_heap_new w2 _
    have f0 : X.cell? ⟨w2.heap.size, 0, none⟩ = some (.int .i64 0) := cells_at hXf rfl
    obtain ⟨L, hL⟩ : ∃ L, L = us ++ [(⟨5, [], s.size⟩ : Lx.Tok)] := ⟨_, rfl⟩
    rw [← hL] at ho
    have hLn : L.length = us.length + 1 := by rw [hL]; simp
    have hne : L ≠ [] := by rw [hL]; simp
    obtain ⟨g, o, c, rfl, -, hc, -, hcell⟩ := tat_of_owns (owns_below ho bX) hne (by omega)
    have HB : Hid (Below w.heap.size w X) := below_then (below_then HB1.out hb2) bX
    have HC : Hid (∀ (q : Nat) (t : Lx.Tok), L[q]? = some t → X.cell? ⟨g, o + q * 3 + 1, none⟩ = some (.string (Ln.bs t.text))) := fun q t ht => by
      have := hcell _ _ (tokCells_one L q t ht)
      rwa [← Nat.add_assoc] at this
    have HL : Hid (L = us ++ [(⟨5, [], s.size⟩ : Lx.Tok)]) := hL
    have HR : Hid (Lx.lex s.data.toList = .ok us) := hres
    obtain ⟨N, hN⟩ : ∃ N, N = L.length := ⟨_, rfl⟩
    have HN : Hid (N = L.length) := hN
    rw [← hN] at hc hLn ⊢
    have hNb : N ≤ 1001 := by omega
    have hNc : (N : Int) ≤ c := by omega
    clear hcell bX hXf hb2 ho hL hres hN hcount hsl hne hLn HB1
    rw [hX] at f0
    go_wp2
    rw [← hX]
    rw [← hX] at f0
    clear hX
    go_loopw [5, 6, 7] (fun u d i wr => ∃ q : Nat, q ≤ N ∧ u = .int .i64 (Ps.opens (L.take q) : Nat) ∧ d = .int .i64 (deeps (L.take q) : Nat) ∧ i = .int .i64 q ∧ wr = X) (fun _ _ i _ => N - (intOf i).toNat)
    case atStart => exact ⟨0, Nat.zero_le _, rfl, rfl, rfl, rfl⟩
    case round =>
      obtain ⟨q, hq, rfl, rfl, rfl, rfl⟩ := hrel
      by_cases hlt : q < N
      · obtain ⟨t, ht⟩ : ∃ t, L[q]? = some t := ⟨L[q]'(by have := HN.out; omega), List.getElem?_eq_getElem _⟩
        have ct := HC.out q t ht
        have i1 : decide ((q : Int) < N) = true := decide_eq_true (by omega)
        have HO : Hid (_) := opens_succ L q t ht
        have HD : Hid (_) := deeps_succ L q t ht
        have lo : Ps.opens (L.take q) ≤ q := Nat.le_trans List.countP_le_length (by rw [List.length_take]; omega)
        have ld : deeps (L.take q) ≤ q := Nat.le_trans List.countP_le_length (by rw [List.length_take]; omega)
        obtain ⟨P, hP⟩ : ∃ P, P = Ps.opens (L.take q) := ⟨_, rfl⟩
        obtain ⟨D, hD⟩ : ∃ D, D = deeps (L.take q) := ⟨_, rfl⟩
        rw [← hP] at lo HO ⊢
        rw [← hD] at ld HD ⊢
        obtain ⟨tx, htx⟩ : ∃ tx, tx = t.text := ⟨_, rfl⟩
        rw [← htx] at ct HO HD
        clear hP hD htx ht
        have b40 := bs_one tx 40
        have b91 := bs_one tx 91
        have b123 := bs_one tx 123
        have b45 := bs_one tx 45
        have b33 := bs_one tx 33
        have b59 := bs_one tx 59
        have b125 := bs_one tx 125
        rcases tx_cases tx with rfl | rfl | rfl | rfl | rfl | rfl | rfl | ⟨n40, n91, n123, n45, n33, n59, n125⟩
        · have e40 := b40.trans (decide_eq_true rfl)
          have e91 := b91.trans (decide_eq_false (by decide))
          have e123 := b123.trans (decide_eq_false (by decide))
          have e45 := b45.trans (decide_eq_false (by decide))
          have e33 := b33.trans (decide_eq_false (by decide))
          have e59 := b59.trans (decide_eq_false (by decide))
          have e125 := b125.trans (decide_eq_false (by decide))
          have HO2 : Hid (Ps.opens (L.take (q + 1)) = P + 1) := HO.out
          have HD2 : Hid (deeps (L.take (q + 1)) = D) := HD.out
          clear b40 b91 b123 b45 b33 b59 b125 HO HD
          have wo : IntKind.i64.wrap ((P : Int) + 1) = (P : Int) + 1 := by rw [IntKind.wrap_i64]; omega
          have wq : IntKind.i64.wrap ((q : Int) + 1) = (q : Int) + 1 := by rw [IntKind.wrap_i64]; omega
          go_wp2
          go_roundw
          case rel => exact ⟨q + 1, by omega, by simp [HO2.out], by simp [HD2.out], by go_num, trivial⟩
          case measure => simp [intOf]; omega
        · have e40 := b40.trans (decide_eq_false (by decide))
          have e91 := b91.trans (decide_eq_true rfl)
          have e123 := b123.trans (decide_eq_false (by decide))
          have e45 := b45.trans (decide_eq_false (by decide))
          have e33 := b33.trans (decide_eq_false (by decide))
          have e59 := b59.trans (decide_eq_false (by decide))
          have e125 := b125.trans (decide_eq_false (by decide))
          have HO2 : Hid (Ps.opens (L.take (q + 1)) = P + 1) := HO.out
          have HD2 : Hid (deeps (L.take (q + 1)) = D) := HD.out
          clear b40 b91 b123 b45 b33 b59 b125 HO HD
          have wo : IntKind.i64.wrap ((P : Int) + 1) = (P : Int) + 1 := by rw [IntKind.wrap_i64]; omega
          have wq : IntKind.i64.wrap ((q : Int) + 1) = (q : Int) + 1 := by rw [IntKind.wrap_i64]; omega
          go_wp2
          go_roundw
          case rel => exact ⟨q + 1, by omega, by simp [HO2.out], by simp [HD2.out], by go_num, trivial⟩
          case measure => simp [intOf]; omega
        · have e40 := b40.trans (decide_eq_false (by decide))
          have e91 := b91.trans (decide_eq_false (by decide))
          have e123 := b123.trans (decide_eq_true rfl)
          have e45 := b45.trans (decide_eq_false (by decide))
          have e33 := b33.trans (decide_eq_false (by decide))
          have e59 := b59.trans (decide_eq_false (by decide))
          have e125 := b125.trans (decide_eq_false (by decide))
          have HO2 : Hid (Ps.opens (L.take (q + 1)) = P + 1) := HO.out
          have HD2 : Hid (deeps (L.take (q + 1)) = D + 1) := HD.out
          clear b40 b91 b123 b45 b33 b59 b125 HO HD
          have wo : IntKind.i64.wrap ((P : Int) + 1) = (P : Int) + 1 := by rw [IntKind.wrap_i64]; omega
          have wd : IntKind.i64.wrap ((D : Int) + 1) = (D : Int) + 1 := by rw [IntKind.wrap_i64]; omega
          have wq : IntKind.i64.wrap ((q : Int) + 1) = (q : Int) + 1 := by rw [IntKind.wrap_i64]; omega
          go_wp2
          go_roundw
          case rel => exact ⟨q + 1, by omega, by simp [HO2.out], by simp [HD2.out], by go_num, trivial⟩
          case measure => simp [intOf]; omega
        · have e40 := b40.trans (decide_eq_false (by decide))
          have e91 := b91.trans (decide_eq_false (by decide))
          have e123 := b123.trans (decide_eq_false (by decide))
          have e45 := b45.trans (decide_eq_true rfl)
          have e33 := b33.trans (decide_eq_false (by decide))
          have e59 := b59.trans (decide_eq_false (by decide))
          have e125 := b125.trans (decide_eq_false (by decide))
          have HO2 : Hid (Ps.opens (L.take (q + 1)) = P + 1) := HO.out
          have HD2 : Hid (deeps (L.take (q + 1)) = D) := HD.out
          clear b40 b91 b123 b45 b33 b59 b125 HO HD
          have wo : IntKind.i64.wrap ((P : Int) + 1) = (P : Int) + 1 := by rw [IntKind.wrap_i64]; omega
          have wq : IntKind.i64.wrap ((q : Int) + 1) = (q : Int) + 1 := by rw [IntKind.wrap_i64]; omega
          go_wp2
          go_roundw
          case rel => exact ⟨q + 1, by omega, by simp [HO2.out], by simp [HD2.out], by go_num, trivial⟩
          case measure => simp [intOf]; omega
        · have e40 := b40.trans (decide_eq_false (by decide))
          have e91 := b91.trans (decide_eq_false (by decide))
          have e123 := b123.trans (decide_eq_false (by decide))
          have e45 := b45.trans (decide_eq_false (by decide))
          have e33 := b33.trans (decide_eq_true rfl)
          have e59 := b59.trans (decide_eq_false (by decide))
          have e125 := b125.trans (decide_eq_false (by decide))
          have HO2 : Hid (Ps.opens (L.take (q + 1)) = P + 1) := HO.out
          have HD2 : Hid (deeps (L.take (q + 1)) = D) := HD.out
          clear b40 b91 b123 b45 b33 b59 b125 HO HD
          have wo : IntKind.i64.wrap ((P : Int) + 1) = (P : Int) + 1 := by rw [IntKind.wrap_i64]; omega
          have wq : IntKind.i64.wrap ((q : Int) + 1) = (q : Int) + 1 := by rw [IntKind.wrap_i64]; omega
          go_wp2
          go_roundw
          case rel => exact ⟨q + 1, by omega, by simp [HO2.out], by simp [HD2.out], by go_num, trivial⟩
          case measure => simp [intOf]; omega
        · have e40 := b40.trans (decide_eq_false (by decide))
          have e91 := b91.trans (decide_eq_false (by decide))
          have e123 := b123.trans (decide_eq_false (by decide))
          have e45 := b45.trans (decide_eq_false (by decide))
          have e33 := b33.trans (decide_eq_false (by decide))
          have e59 := b59.trans (decide_eq_true rfl)
          have e125 := b125.trans (decide_eq_false (by decide))
          have HO2 : Hid (Ps.opens (L.take (q + 1)) = P) := HO.out
          have HD2 : Hid (deeps (L.take (q + 1)) = D + 1) := HD.out
          clear b40 b91 b123 b45 b33 b59 b125 HO HD
          have wd : IntKind.i64.wrap ((D : Int) + 1) = (D : Int) + 1 := by rw [IntKind.wrap_i64]; omega
          have wq : IntKind.i64.wrap ((q : Int) + 1) = (q : Int) + 1 := by rw [IntKind.wrap_i64]; omega
          go_wp2
          go_roundw
          case rel => exact ⟨q + 1, by omega, by simp [HO2.out], by simp [HD2.out], by go_num, trivial⟩
          case measure => simp [intOf]; omega
        · have e40 := b40.trans (decide_eq_false (by decide))
          have e91 := b91.trans (decide_eq_false (by decide))
          have e123 := b123.trans (decide_eq_false (by decide))
          have e45 := b45.trans (decide_eq_false (by decide))
          have e33 := b33.trans (decide_eq_false (by decide))
          have e59 := b59.trans (decide_eq_false (by decide))
          have e125 := b125.trans (decide_eq_true rfl)
          have HO2 : Hid (Ps.opens (L.take (q + 1)) = P) := HO.out
          have HD2 : Hid (deeps (L.take (q + 1)) = D + 1) := HD.out
          clear b40 b91 b123 b45 b33 b59 b125 HO HD
          have wd : IntKind.i64.wrap ((D : Int) + 1) = (D : Int) + 1 := by rw [IntKind.wrap_i64]; omega
          have wq : IntKind.i64.wrap ((q : Int) + 1) = (q : Int) + 1 := by rw [IntKind.wrap_i64]; omega
          go_wp2
          go_roundw
          case rel => exact ⟨q + 1, by omega, by simp [HO2.out], by simp [HD2.out], by go_num, trivial⟩
          case measure => simp [intOf]; omega
        · have e40 := b40.trans (decide_eq_false n40)
          have e91 := b91.trans (decide_eq_false n91)
          have e123 := b123.trans (decide_eq_false n123)
          have e45 := b45.trans (decide_eq_false n45)
          have e33 := b33.trans (decide_eq_false n33)
          have e59 := b59.trans (decide_eq_false n59)
          have e125 := b125.trans (decide_eq_false n125)
          have HO2 : Hid (Ps.opens (L.take (q + 1)) = P) := HO.out.trans (by simp [Ps.openers, n40, n91, n123, n45, n33])
          have HD2 : Hid (deeps (L.take (q + 1)) = D) := HD.out.trans (by simp [deepers, n59, n123, n125])
          clear b40 b91 b123 b45 b33 b59 b125 HO HD n40 n91 n123 n45 n33 n59 n125
          have wq : IntKind.i64.wrap ((q : Int) + 1) = (q : Int) + 1 := by rw [IntKind.wrap_i64]; omega
          go_wp2
          go_roundw
          case rel => exact ⟨q + 1, by omega, by simp [HO2.out], by simp [HD2.out], by go_num, trivial⟩
          case measure => simp [intOf]; omega
      · have hqN : q = N := by omega
        subst hqN
        have i1 : decide ((q : Int) < q) = false := decide_eq_false (by omega)
        have hof : Ps.opens (L.take q) = Ps.opens us := by
          rw [HN.out, List.take_length, HL.out]
          unfold Ps.opens
          rw [List.countP_append]
          rfl
        have hdf : deeps (L.take q) = deeps us := by
          rw [HN.out, List.take_length, HL.out]
          unfold deeps
          rw [List.countP_append]
          rfl
        rw [hof, hdf]
        have HUP : Hid (Ps.opens us ≤ 100 → Ps.opens us ≤ 100) := id
        obtain ⟨P, hP⟩ : ∃ P, P = Ps.opens us := ⟨_, rfl⟩
        obtain ⟨D, hD⟩ : ∃ D, D = deeps us := ⟨_, rfl⟩
        have HP : Hid (P = Ps.opens us) := hP
        have HD : Hid (D = deeps us) := hD
        rw [← hP, ← hD]
        clear hP hD hof hdf
        by_cases h100 : 100 < P
        · have p1 : decide ((100 : Int) < P) = true := decide_eq_true (by omega)
          go_wp2
          go_ret
          exact ⟨rfl, HB.out⟩
        have p1 : decide ((100 : Int) < P) = false := decide_eq_false (by omega)
        by_cases h0 : 0 < D
        · have p2 : decide ((0 : Int) < D) = true := decide_eq_true (by omega)
          go_wp2
          go_ret
          exact ⟨rfl, HB.out⟩
        have p2 : decide ((0 : Int) < D) = false := decide_eq_false (by omega)
        have HNS : Hid (∀ t ∈ us, t.text ≠ [59]) := fun t ht e => by
          have : 0 < deeps us := List.countP_pos_iff.2 ⟨t, ht, by rw [e]; decide⟩
          have := HD.out
          omega
        have HOP : Hid (Ps.opens us ≤ 100) := by
          have := HP.out
          show Ps.opens us ≤ 100
          omega
        obtain ⟨c1, hc1⟩ : ∃ c, c = (⟨#[102, 117, 110, 99, 32, 102, 40, 41, 123, 112, 114, 105, 110, 116, 32]⟩ : ByteArray) ++ s ++ ⟨#[10, 59, 125]⟩ := ⟨_, rfl⟩
        obtain ⟨c2, hc2⟩ : ∃ c, c = (⟨#[102, 117, 110, 99, 32, 102, 40, 41, 123, 112, 114, 105, 110, 116, 32, 40, 32]⟩ : ByteArray) ++ s ++ ⟨#[10, 32, 41, 32, 59, 125]⟩ := ⟨_, rfl⟩
        have hd1 : c1.data.toList = 102 :: 117 :: 110 :: 99 :: 32 :: 102 :: 40 :: 41 :: 123 :: 112 :: 114 :: 105 :: 110 :: 116 :: 32 :: (s.data.toList ++ [10, 59, 125]) := by rw [hc1, app_toList, app_toList]; simp
        have hd2 : c2.data.toList = 102 :: 117 :: 110 :: 99 :: 32 :: 102 :: 40 :: 41 :: 123 :: 112 :: 114 :: 105 :: 110 :: 116 :: 32 :: 40 :: 32 :: (s.data.toList ++ [10, 32, 41, 32, 59, 125]) := by rw [hc2, app_toList, app_toList]; simp
        have hsl : s.data.toList.length = s.size := rfl
        have hz1 : c1.size = s.size + 18 := by
          have h1 : c1.data.toList.length = c1.size := rfl
          rw [← h1, hd1]; simp
        have hz2 : c2.size = s.size + 23 := by
          have h1 : c2.data.toList.length = c2.size := rfl
          rw [← h1, hd2]; simp
        have HBR : Hid (∀ ks, FileOk c1.data.toList ks → FileOk c2.data.toList ks) := fun ks hk => by
          rw [hd1] at hk
          rw [hd2]
          exact hk.braces HR.out HNS.out HOP.out
        have HSM : Hid (∀ ks, FileOk c1.data.toList ks → (Tr.mk 1 [] 0 ks).size ≤ 400000) := fun ks hk => by
          have h1 := hk.small
          have h3 : c1.data.toList.length = c1.size := rfl
          omega
        have HF : Hid (_) := pfileAll_any c1 wr ((HSG.out.keep HB.out).mono HB.out.size) (by omega)
        have HZ2 : Hid (c2.size ≤ 1000000) := by
          show c2.size ≤ 1000000
          omega
        clear hd1 hd2 hsl hz1 hz2 HUP HC HN HL HR HP HD HNS HOP
        go_wp2_with fail
        rw [← hc1]
        clear hc1
        refine Calls.mono HF.out ?_
        rintro e w3 ⟨b3, g3⟩
        clear HF
        obtain ⟨k, tx, n, a, L1, cc, E, i, rfl, t3⟩ := g3.gen
        obtain ⟨y1, y2, y3, y4⟩ := two_boxes w3 #[.int .u8 k, .string tx, .int .i64 n, .slice a L1 cc] #[.int .i64 E, .int .i64 i]
        obtain ⟨Y, hY⟩ : ∃ Y, Y = (w3.alloc (.cells #[.int .u8 k, .string tx, .int .i64 n, .slice a L1 cc] 26)).alloc (.cells #[.int .i64 E, .int .i64 i] 29) := ⟨_, rfl⟩
        rw [← hY] at y1 y2 y3 y4
        have HY : Hid (Below w3.heap.size w3 Y ∧ Below w.heap.size w Y ∧ Y.heap[w3.heap.size]? = some (.cells #[.int .u8 k, .string tx, .int .i64 n, .slice a L1 cc] 26 (0, 0)) ∧ Y.heap[w3.heap.size + 1]? = some (.cells #[.int .i64 E, .int .i64 i] 29 (0, 0))) := ⟨y1, below_then (below_then HB.out b3) y1, y3, y4⟩
        have HT3 : Hid (GTold c1 wr w3 (.agg #[.int .u8 k, .string tx, .int .i64 n, .slice a L1 cc]) E i) := t3
        have HF : Hid (_) := pfileAll_any c2 Y ((HSG.out.keep HY.out.2.1).mono HY.out.2.1.size) HZ2.out
        clear y1 y2 y3 y4 t3 g3 b3
        go_wp2_with fail
        rw [← hY, ← hc2]
        clear hY hc2
        refine Calls.mono HF.out ?_
        rintro e w4 ⟨b4, g4⟩
        clear HF
        obtain ⟨k', tx', n', a', L2, cc', E', i', rfl, t4⟩ := g4.gen
        obtain ⟨y1, y2, y3, y4⟩ := two_boxes w4 #[.int .u8 k', .string tx', .int .i64 n', .slice a' L2 cc'] #[.int .i64 E', .int .i64 i']
        obtain ⟨Z, hZ⟩ : ∃ Z, Z = (w4.alloc (.cells #[.int .u8 k', .string tx', .int .i64 n', .slice a' L2 cc'] 26)).alloc (.cells #[.int .i64 E', .int .i64 i'] 29) := ⟨_, rfl⟩
        rw [← hZ] at y1 y2 y3 y4
        obtain ⟨x1, x2, x3, x4⟩ := HY.out
        have bYZ : Below Y.heap.size Y Z := below_then b4 y1
        have z3 := (bYZ.block _ (Array.getElem?_eq_some_iff.1 x3).1).trans x3
        have z4 := (bYZ.block _ (Array.getElem?_eq_some_iff.1 x4).1).trans x4
        have HZ : Hid (Below w.heap.size w Z) := below_then x2 bYZ
        have q3 := HT3.out.node (below_then x1 bYZ)
        have q4 := t4.node y1
        have u3 := (b4.block _ (Array.getElem?_eq_some_iff.1 x3).1).trans x3
        have u4 := (b4.block _ (Array.getElem?_eq_some_iff.1 x4).1).trans x4
        have lt1 : w3.heap.size < w4.heap.size := (Array.getElem?_eq_some_iff.1 u3).1
        have lt2 : w3.heap.size + 1 < w4.heap.size := (Array.getElem?_eq_some_iff.1 u4).1
        have f0 : w4.cell? ⟨w3.heap.size + 1, 0, none⟩ = some (.int .i64 E) := cells_at u4 rfl
        rcases q3 with ⟨rfl, rfl, ks, ok1, nd1⟩ | ⟨hE, -, -⟩
        · rcases q4 with ⟨rfl, rfl, ks', ok2, nd2⟩ | ⟨-, bad2, -⟩
          · obtain rfl : ks = ks' := (HBR.out ks ok1).one ok2
            have HT : Hid (_) := tsame_any _ _ _ _ Z nd1 nd2 (HSM.out ks ok1)
            rw [Tr.eqb_refl] at HT
            rw [show ((0 : Nat) : Int) = 0 from rfl] at hZ
            have m0 : w4.cell? ⟨w3.heap.size, 0, none⟩ = some (.int .u8 k) := cells_at u3 rfl
            have m1 : w4.cell? ⟨w3.heap.size, 1, none⟩ = some (.string tx) := cells_at u3 rfl
            have m2 : w4.cell? ⟨w3.heap.size, 2, none⟩ = some (.int .i64 n) := cells_at u3 rfl
            have m3 : w4.cell? ⟨w3.heap.size, 3, none⟩ = some (.slice a L1 cc) := cells_at u3 rfl
            clear y1 y2 y3 y4 x1 x2 x3 x4 bYZ z3 z4 u3 u4 t4 g4 b4 ok1 ok2 nd1 nd2 HT3 HY HBR HSM
            go_wp2_with fail
            rw [← hZ]
            clear hZ f0 m0 m1 m2 m3 lt1 lt2
            refine Calls.mono HT.out ?_
            rintro e w5 ⟨rfl, b5⟩
            have HE : Hid (Below w.heap.size w w5) := below_then HZ.out b5
            clear b5 HT HZ
            go_wp2
            go_ret
            exact ⟨rfl, HE.out⟩
          · exact ((HBR.out ks ok1).not bad2).elim
        · have hz : ((E : Int) != 0) = true := by simpa using hE
          clear y1 y2 y3 y4 x1 x2 x3 x4 bYZ z3 z4 u3 u4 t4 g4 b4 HT3 HY HBR HSM q4 hE
          go_wp2
          rw [← hZ]
          go_ret
          exact ⟨rfl, HZ.out⟩
end Go.Proofs.YtdaaecnmllpgdaaGreatDoor
