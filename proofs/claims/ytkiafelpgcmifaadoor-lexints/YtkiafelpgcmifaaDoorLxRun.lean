/-
  The walk of the lexer's way run: letters and digits.
-/
import Derived.Test.YtkiafelpgcmifaaDoorLxWays
namespace Go.Proofs.YtkiafelpgcmifaaDoor
open Go.RowKit Go.Shelf

attribute [local go_sem] Oper.semAt_some

theorem LexAt.fault {b k e f : Nat} {s : ByteArray} {tv : Value} {W : World} (h : LexAt b s k tv e f W) (e' f' : Nat) : LexAt b s k tv e' f' ((W.setCell ⟨b, 3, none⟩ (.int .i64 e')).setCell ⟨b, 4, none⟩ (.int .i64 f')) ∧ W.grownBy ((W.setCell ⟨b, 3, none⟩ (.int .i64 e')).setCell ⟨b, 4, none⟩ (.int .i64 f')) (some b) := by
  have h1 := heap_setCell_same W b 3 _ 44 (.int .i64 e') h
  have h2 := heap_setCell_same _ b 4 _ 44 (.int .i64 f') h1
  refine ⟨h2, ?_⟩
  have g1 := grown_set W b 3 (.int .i64 e')
  have g2 := grown_set (W.setCell ⟨b, 3, none⟩ (.int .i64 e')) b 4 (.int .i64 f')
  exact ⟨g2.os.trans g1.os, g2.tape.trans g1.tape, g2.output.trans g1.output, Nat.le_trans g1.size g2.size, fun j hj hn => (g2.block j (Nat.lt_of_lt_of_le hj g1.size) hn).trans (g1.block j hj hn)⟩

set_option maxRecDepth 100000 in
set_option maxHeartbeats 2000000 in
theorem run_any (B b k : Nat) (s : ByteArray) (acc : List Lx.Tok) (w : World) (h : LSt B b s k acc 0 0 w) (hk : k ≤ s.size) (hs : s.size ≤ 1000000) (hl : acc.length ≤ 1000000) :
    Calls Tryd.prog 19 #[.pointer (some ⟨b, 0, none⟩)] w fun r w' => Way B b s k acc r w' (Lx.runS (s.data.toList.drop k)) ∧ KeepL B b w w' := by
  have hsm : s.size ≤ maxLen := by unfold maxLen; omega
  have HT : Hid (_) := takeAll_ld B b k 0 0 s acc w h hk hsm
  have hf := lead_fits Lx.ldI s k hk
  have hx := size_part s k _ hf
  have hxd := extract_part s k (Lx.lead Lx.ldI (s.data.toList.drop k))
  have hBw := h.size
  unfold Lx.runS
  obtain ⟨n, hn⟩ : ∃ n, n = Lx.lead Lx.ldI (s.data.toList.drop k) := ⟨_, rfl⟩
  rw [← hn] at HT hf hx hxd ⊢
  obtain ⟨x, hxe⟩ : ∃ x, x = s.extract k (k + n) := ⟨_, rfl⟩
  rw [← hxe] at HT hx hxd
  clear hn hxe h
  by_cases h0 : 0 < n
  · rw [if_pos h0, ← hxd]
    obtain ⟨n1, n2, n3⟩ := str_some x (by omega)
    have hxm : x.size ≤ maxLen := by unfold maxLen; omega
    have HX : Hid (x.size = n) := hx
    have HXD : Hid (_) := hxd
    have hx1 : x.size ≤ k + n := by omega
    have hAt : k + n - x.size = k := by omega
    have HAT : Hid (_) := hAt
    have hsub : IntKind.i64.wrap (((k + n : Nat) : Int) - (x.size : Int)) = ((k + n : Nat) : Int) - (x.size : Int) := by rw [IntKind.wrap_i64]; omega
    clear hx hxd hAt
    have PUT : Hid (∀ (kind : Nat) (W : World), LSt B b s (k + n) acc 0 0 W → KeepL B b w W → Calls Tryd.prog 21 #[.pointer (some ⟨b, 0, none⟩), .int .u8 kind, .string x] W fun r w' => r = .returned (.tuple #[]) ∧ (Way B b s k acc (.returned (.bool true)) w' (some (.tok kind n)) ∧ KeepL B b w w')) := fun kind W hW hK => by
      refine (put_any B b (k + n) 0 0 kind s x acc W hW hx1 (by omega) hl).mono ?_
      rintro r w' ⟨rfl, q1, q2⟩
      rw [HAT.out] at q1
      refine ⟨rfl, ⟨rfl, ?_⟩, hK.trans q2⟩
      rw [← HXD.out]
      exact q1
    cases hw : Lx.isWord x.data.toList with
    | true =>
      have hso : Lx.sort x.data.toList = 2 := by simp [Lx.sort, hw]
      rw [hso, if_neg (by decide)]
      have hw1 : has Lx.words x.data.toList = true := hw
      clear hw hso
      go_enter Tryd.func19, Tryd.ntmps19
      go_wp2_with fail
      refine Calls.mono HT.out ?_
      rintro r w1 ⟨rfl, h1, h2⟩
      have H1 : Hid (_) := And.intro h1 h2
      clear h1 h2 HT
      go_wp2_with fail
      refine (words_any w1).mono ?_
      rintro r w2 ⟨v, rfl, hrow, hb⟩
      have CT : Hid (_) := contains_any _ _ _ x w2 hrow (by decide)
      rw [hw1] at CT
      obtain ⟨va, vc, vb, vd, rfl, -, -, -⟩ := hrow.parts
      have P2 : Hid (_) := PUT.out 2 w2 (H1.out.1.below hb) (H1.out.2.trans (KeepL.of_below hb H1.out.1.size))
      clear hrow hb
      go_wp2_with fail
      refine Calls.mono CT.out ?_
      rintro r w3 ⟨rfl, rfl⟩
      clear CT
      go_wp2_with fail
      refine Calls.mono P2.out ?_
      rintro r w4 ⟨rfl, q⟩
      have HQ : Hid (_) := q
      clear q P2
      go_wp2
      go_ret
      exact ⟨HQ.out.1, HQ.out.2⟩
    | false =>
      have hw1 : has Lx.words x.data.toList = false := hw
      have NM : Hid (∀ w, Calls Tryd.prog 10 #[.string x] w fun e w' => e = .returned (.bool (Lx.isName x.data.toList)) ∧ Below w.heap.size w w') := fun w => name_any x hxm w
      have IN : Hid (∀ w, Calls Tryd.prog 41 #[.string x] w fun e w' => e = .returned (.bool (Lx.isInt x.data.toList)) ∧ w' = w) := fun w => integer_any x hxm w
      cases hnm : Lx.isName x.data.toList with
      | true =>
        have hso : Lx.sort x.data.toList = 1 := by simp [Lx.sort, hw, hnm]
        rw [hso, if_neg (by decide)]
        rw [hnm] at NM
        clear hw hso hnm IN
        go_enter Tryd.func19, Tryd.ntmps19
        go_wp2_with fail
        refine Calls.mono HT.out ?_
        rintro r w1 ⟨rfl, h1, h2⟩
        have H1 : Hid (_) := And.intro h1 h2
        clear h1 h2 HT
        go_wp2_with fail
        refine (words_any w1).mono ?_
        rintro r w2 ⟨v, rfl, hrow, hb⟩
        have CT : Hid (_) := contains_any _ _ _ x w2 hrow (by decide)
        rw [hw1] at CT
        obtain ⟨va, vc, vb, vd, rfl, -, -, -⟩ := hrow.parts
        have H2 : Hid (_) := And.intro (H1.out.1.below hb) (H1.out.2.trans (KeepL.of_below (b := b) hb H1.out.1.size))
        clear hrow hb
        go_wp2_with fail
        refine Calls.mono CT.out ?_
        rintro r w3 ⟨rfl, rfl⟩
        clear CT
        go_wp2_with fail
        refine (NM.out _).mono ?_
        rintro r w4 ⟨rfl, hb⟩
        have P2 : Hid (_) := PUT.out 1 w4 (H2.out.1.below hb) (H2.out.2.trans (KeepL.of_below hb H2.out.1.size))
        clear hb
        go_wp2_with fail
        refine Calls.mono P2.out ?_
        rintro r w5 ⟨rfl, q⟩
        have HQ : Hid (_) := q
        clear q P2
        go_wp2
        go_ret
        exact ⟨HQ.out.1, HQ.out.2⟩
      | false =>
        rw [hnm] at NM
        cases hin : Lx.isInt x.data.toList with
        | true =>
          have hso : Lx.sort x.data.toList = 3 := by simp [Lx.sort, hw, hnm, hin]
          rw [hso, if_neg (by decide)]
          rw [hin] at IN
          clear hw hso hnm hin
          go_enter Tryd.func19, Tryd.ntmps19
          go_wp2_with fail
          refine Calls.mono HT.out ?_
          rintro r w1 ⟨rfl, h1, h2⟩
          have H1 : Hid (_) := And.intro h1 h2
          clear h1 h2 HT
          go_wp2_with fail
          refine (words_any w1).mono ?_
          rintro r w2 ⟨v, rfl, hrow, hb⟩
          have CT : Hid (_) := contains_any _ _ _ x w2 hrow (by decide)
          rw [hw1] at CT
          obtain ⟨va, vc, vb, vd, rfl, -, -, -⟩ := hrow.parts
          have H2 : Hid (_) := And.intro (H1.out.1.below hb) (H1.out.2.trans (KeepL.of_below (b := b) hb H1.out.1.size))
          clear hrow hb
          go_wp2_with fail
          refine Calls.mono CT.out ?_
          rintro r w3 ⟨rfl, rfl⟩
          clear CT
          go_wp2_with fail
          refine (NM.out _).mono ?_
          rintro r w4 ⟨rfl, hb⟩
          have P2 : Hid (_) := PUT.out 3 w4 (H2.out.1.below hb) (H2.out.2.trans (KeepL.of_below hb H2.out.1.size))
          clear hb
          go_wp2_with fail
          refine (IN.out _).mono ?_
          rintro r w5 ⟨rfl, rfl⟩
          go_wp2_with fail
          refine Calls.mono P2.out ?_
          rintro r w6 ⟨rfl, q⟩
          have HQ : Hid (_) := q
          clear q P2
          go_wp2
          go_ret
          exact ⟨HQ.out.1, HQ.out.2⟩
        | false =>
          have hso : Lx.sort x.data.toList = 0 := by simp [Lx.sort, hw, hnm, hin]
          rw [hso, if_pos rfl]
          rw [hin] at IN
          clear hw hso hnm hin PUT
          go_enter Tryd.func19, Tryd.ntmps19
          go_wp2_with fail
          refine Calls.mono HT.out ?_
          rintro r w1 ⟨rfl, h1, h2⟩
          have H1 : Hid (_) := And.intro h1 h2
          clear h1 h2 HT
          go_wp2_with fail
          refine (words_any w1).mono ?_
          rintro r w2 ⟨v, rfl, hrow, hb⟩
          have CT : Hid (_) := contains_any _ _ _ x w2 hrow (by decide)
          rw [hw1] at CT
          obtain ⟨va, vc, vb, vd, rfl, -, -, -⟩ := hrow.parts
          have H2 : Hid (_) := And.intro (H1.out.1.below hb) (H1.out.2.trans (KeepL.of_below (b := b) hb H1.out.1.size))
          clear hrow hb
          go_wp2_with fail
          refine Calls.mono CT.out ?_
          rintro r w3 ⟨rfl, rfl⟩
          clear CT
          go_wp2_with fail
          refine (NM.out _).mono ?_
          rintro r w4 ⟨rfl, hb⟩
          have H4 : Hid (_) := And.intro (H2.out.1.below hb) (H2.out.2.trans (KeepL.of_below (b := b) hb H2.out.1.size))
          clear hb
          obtain ⟨tv, q1, q2⟩ := H4.out.1.row
          obtain ⟨c0, c1, c2, c3, c4⟩ := q1.cells
          have f3 := q1.frozen 3
          have f4 := q1.frozen 4
          have d3 : (w4.setCell ⟨b, 3, none⟩ (.int .i64 101)).frozen? ⟨b, 4, none⟩ = false := by
            have h1 := heap_setCell_same w4 b 3 _ 44 (.int .i64 101) q1
            exact frozen_of_row _ b 4 _ _ h1
          have HFT : Hid (_) := q1.fault 101 k
          have Q2 : Hid (_) := q2
          have Q1 : Hid (_) := q1
          clear q1 q2
          have hat : ((k + n : Nat) : Int) - (x.size : Int) = (k : Int) := by have := HX.out; omega
          go_wp2_with fail
          refine (IN.out _).mono ?_
          rintro r w5 ⟨rfl, rfl⟩
          go_wp2
          have e9 : ((k : Int) + (n : Int) - (x.size : Int)) = (k : Int) := by have := HX.out; omega
          rw [e9]
          go_ret
          exact ⟨⟨rfl, k + n, by omega, ⟨tv, HFT.out.1, owns_box Q1.out Q2.out HFT.out.2⟩, H4.out.1.low⟩, H4.out.2.trans (KeepL.of_box H4.out.1.low H4.out.1.size HFT.out.2)⟩
  · rw [if_neg h0]
    have hx0 := str_empty x (by omega)
    have hn0 : n = 0 := by omega
    subst hn0 hx0
    clear hx hxd
    rw [Nat.add_zero] at HT
    go_enter Tryd.func19, Tryd.ntmps19
    go_wp2_with fail
    refine Calls.mono HT.out ?_
    rintro r w1 ⟨rfl, h1, h2⟩
    have HF : Hid (_) := And.intro h1 h2
    clear h1 h2 HT
    go_wp2
    go_ret
    exact ⟨⟨rfl, HF.out.1⟩, HF.out.2⟩

end Go.Proofs.YtkiafelpgcmifaaDoor
