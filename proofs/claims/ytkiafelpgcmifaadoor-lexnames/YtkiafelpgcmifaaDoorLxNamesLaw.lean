/-
  The walk of the law LexNames.
-/
import Derived.Test.YtkiafelpgcmifaaDoorLxRef
namespace Go.Proofs.YtkiafelpgcmifaaDoor
open Go.RowKit Go.Shelf

attribute [local go_sem] Oper.semAt_some

theorem words_none : ∀ x ∈ Lx.words, Lx.isName x = false := by decide +kernel
theorem words_size : ∀ x ∈ Lx.words, x.length ≤ 10 := by decide +kernel

set_option maxRecDepth 100000 in
set_option maxHeartbeats 2000000 in
theorem names_law (s : ByteArray) (hs : s.size ≤ maxLen) (w : World) (hsg : SignsAt w.heap.size w) :
    Calls Tryd.prog 4 #[.string s] w fun r w' => r = .returned (.bool true) ∧ Below w.heap.size w w' := by
  have HSG : Hid (SignsAt w.heap.size w) := hsg
  have hs1 : s.size ≤ 9223372036854775807 := hs
  clear hsg
  have NM : Hid (∀ w, Calls Tryd.prog 10 #[.string s] w fun e w' => e = .returned (.bool (Lx.isName s.data.toList)) ∧ Below w.heap.size w w') := fun w => name_any s hs w
  have RN : Hid (∀ w, Calls Tryd.prog 11 #[.string s] w fun e w' => e = .returned (.bool (Lx.isName s.data.toList)) ∧ Below w.heap.size w w') := fun w => rname_any s hs w
  obtain ⟨nm, hnm⟩ : ∃ nm, nm = Lx.isName s.data.toList := ⟨_, rfl⟩
  rw [← hnm] at NM RN
  clear hnm
  have hnn : (nm != nm) = false := by cases nm <;> rfl
  by_cases h2 : s.size ≤ 2000
  · have i2 : decide ((s.size : Int) ≤ 2000) = true := by simp; omega
    go_enter Tryd.func4, Tryd.ntmps4
    go_wp2_with fail
    refine (awake_any w HSG.out).mono ?_
    rintro r w1 ⟨rfl, b1⟩
    have B1 : Hid (Below w.heap.size w w1) := b1
    clear b1
    go_wp2_with fail
    refine (NM.out w1).mono ?_
    rintro r w2 ⟨rfl, b2⟩
    have B2a : Hid (Below w.heap.size w w2) := below_then B1.out b2
    clear b2
    go_wp2_with fail
    refine (RN.out w2).mono ?_
    rintro r w2b ⟨rfl, b2⟩
    have B2b : Hid (Below w.heap.size w w2b) := below_then B2a.out b2
    clear b2
    have B2 : Hid (Below w.heap.size w w2b) := B2b.out
    go_wp2_with fail
    refine (words_any w2b).mono ?_
    rintro r w3 ⟨v, rfl, hrow, hb⟩
    have HROW : Hid (RowLow w3.heap.size w3 v Lx.words) := hrow
    have B3 : Hid (Below w.heap.size w w3) := below_then B2.out hb
    obtain ⟨va, vc, vb, vd, rfl, -, hao, hc⟩ := hrow.parts
    obtain ⟨rfl, hvb⟩ := hao (by decide)
    have HC : Hid (_) := hc
    clear hrow hb hao hc NM RN
    obtain ⟨N, hN⟩ : ∃ N, N = Lx.words.length := ⟨_, rfl⟩
    have hN11 : N ≤ 11 := Nat.le_of_eq hN
    have HN : Hid (N = Lx.words.length) := hN
    rw [← hN] at HROW ⊢
    clear hN
    go_wp2_with fail
    go_loopw [4] (fun t wr => ∃ k : Nat, k ≤ N ∧ t = .int .i64 k ∧ Below w3.heap.size w3 wr) (fun t _ => N - (intOf t).toNat)
    case atStart => exact ⟨0, Nat.zero_le _, rfl, Below.refl _ _⟩
    case round =>
      obtain ⟨k, hk, rfl, hB⟩ := hrel
      have HB : Hid (Below w3.heap.size w3 wr) := hB
      by_cases hlt : k < N
      · obtain ⟨y, hy⟩ : ∃ y, Lx.words[k]? = some y := ⟨Lx.words[k]'(by have := HN.out; omega), List.getElem?_eq_getElem _⟩
        have g1 : wr.cell? ⟨vb, vd + k, none⟩ = some (.string (Ln.bs y)) := (hB.cell (p := ⟨vb, vd + k, none⟩) hvb).trans (HC.out k y hy)
        have hym := List.mem_of_getElem? hy
        have YN : Hid (_) := name_any (Ln.bs y) (by have := words_size y hym; rw [Ln.bs_size]; unfold maxLen; omega) wr
        rw [Ln.bs_toList, words_none y hym] at YN
        clear hy hym hB
        go_wp2_with fail
        refine Calls.mono YN.out ?_
        rintro r w4 ⟨rfl, b4⟩
        have B4 : Hid (_) := b4
        clear b4 YN
        go_wp2
        go_roundw
        case rel => exact ⟨k + 1, by omega, by go_num, below_then HB.out B4.out⟩
        case measure => simp [intOf]; omega
      · clear hB
        go_wp2_with fail
        refine (rwords_any wr).mono ?_
        rintro r w5 ⟨u, rfl, hrow5, b5⟩
        have SM : Hid (_) := same_any w5 (.slice (some ⟨vb, vd, none⟩) N vc) u Lx.words Lx.words _ _ (HROW.out.at (below_then HB.out b5)) hrow5 (by decide) (by decide)
        rw [decide_eq_true rfl] at SM
        obtain ⟨ua, uc, ub, ud, rfl, -, -, -⟩ := hrow5.parts
        have B5 : Hid (Below w.heap.size w w5) := below_then B3.out (below_then HB.out b5)
        clear hrow5 b5
        go_wp2_with fail
        refine Calls.mono SM.out ?_
        rintro r w6 ⟨rfl, d, rfl⟩
        go_wp2
        go_ret
        exact ⟨rfl, below_drewN B5.out d⟩
  · have i2 : decide ((s.size : Int) ≤ 2000) = false := by simp; omega
    go_enter Tryd.func4, Tryd.ntmps4
    go_wp2_with fail
    refine (awake_any w HSG.out).mono ?_
    rintro r w1 ⟨rfl, b1⟩
    have B1 : Hid (Below w.heap.size w w1) := b1
    clear b1
    have B2 : Hid (Below w.heap.size w w1) := B1.out
    go_wp2_with fail
    refine (words_any w1).mono ?_
    rintro r w3 ⟨v, rfl, hrow, hb⟩
    have HROW : Hid (RowLow w3.heap.size w3 v Lx.words) := hrow
    have B3 : Hid (Below w.heap.size w w3) := below_then B2.out hb
    obtain ⟨va, vc, vb, vd, rfl, -, hao, hc⟩ := hrow.parts
    obtain ⟨rfl, hvb⟩ := hao (by decide)
    have HC : Hid (_) := hc
    clear hrow hb hao hc NM RN
    obtain ⟨N, hN⟩ : ∃ N, N = Lx.words.length := ⟨_, rfl⟩
    have hN11 : N ≤ 11 := Nat.le_of_eq hN
    have HN : Hid (N = Lx.words.length) := hN
    rw [← hN] at HROW ⊢
    clear hN
    go_wp2_with fail
    go_loopw [4] (fun t wr => ∃ k : Nat, k ≤ N ∧ t = .int .i64 k ∧ Below w3.heap.size w3 wr) (fun t _ => N - (intOf t).toNat)
    case atStart => exact ⟨0, Nat.zero_le _, rfl, Below.refl _ _⟩
    case round =>
      obtain ⟨k, hk, rfl, hB⟩ := hrel
      have HB : Hid (Below w3.heap.size w3 wr) := hB
      by_cases hlt : k < N
      · obtain ⟨y, hy⟩ : ∃ y, Lx.words[k]? = some y := ⟨Lx.words[k]'(by have := HN.out; omega), List.getElem?_eq_getElem _⟩
        have g1 : wr.cell? ⟨vb, vd + k, none⟩ = some (.string (Ln.bs y)) := (hB.cell (p := ⟨vb, vd + k, none⟩) hvb).trans (HC.out k y hy)
        have hym := List.mem_of_getElem? hy
        have YN : Hid (_) := name_any (Ln.bs y) (by have := words_size y hym; rw [Ln.bs_size]; unfold maxLen; omega) wr
        rw [Ln.bs_toList, words_none y hym] at YN
        clear hy hym hB
        go_wp2_with fail
        refine Calls.mono YN.out ?_
        rintro r w4 ⟨rfl, b4⟩
        have B4 : Hid (_) := b4
        clear b4 YN
        go_wp2
        go_roundw
        case rel => exact ⟨k + 1, by omega, by go_num, below_then HB.out B4.out⟩
        case measure => simp [intOf]; omega
      · clear hB
        go_wp2_with fail
        refine (rwords_any wr).mono ?_
        rintro r w5 ⟨u, rfl, hrow5, b5⟩
        have SM : Hid (_) := same_any w5 (.slice (some ⟨vb, vd, none⟩) N vc) u Lx.words Lx.words _ _ (HROW.out.at (below_then HB.out b5)) hrow5 (by decide) (by decide)
        rw [decide_eq_true rfl] at SM
        obtain ⟨ua, uc, ub, ud, rfl, -, -, -⟩ := hrow5.parts
        have B5 : Hid (Below w.heap.size w w5) := below_then B3.out (below_then HB.out b5)
        clear hrow5 b5
        go_wp2_with fail
        refine Calls.mono SM.out ?_
        rintro r w6 ⟨rfl, d, rfl⟩
        go_wp2
        go_ret
        exact ⟨rfl, below_drewN B5.out d⟩

end Go.Proofs.YtkiafelpgcmifaaDoor
