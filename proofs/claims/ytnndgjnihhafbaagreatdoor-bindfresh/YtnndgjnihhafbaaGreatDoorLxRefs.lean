/-
  Several texts in one, as they are: LxAwake, LxRef.
-/
import Derived.Test.YtnndgjnihhafbaaGreatDoorLexTok
import Derived.Test.YtnndgjnihhafbaaGreatDoorBaseAll

/-
  The walk of clerestorylaw05.awake: the chapter's examples are as they must be.
-/
namespace Go.Proofs.YtnndgjnihhafbaaGreatDoor
open Go.RowKit Go.Shelf

attribute [local go_sem] Oper.semAt_some

theorem SignsAt.at {w W : World} (h : SignsAt w.heap.size w) (hb : Below w.heap.size w W) : SignsAt W.heap.size W := (h.keep hb).mono hb.size

end Go.Proofs.YtnndgjnihhafbaaGreatDoor

/-
  The walks of the document's answers of chapter 5: letters, digits, blanks, words, names, numbers.
-/
namespace Go.Proofs.YtnndgjnihhafbaaGreatDoor
open Go.RowKit

set_option maxRecDepth 100000 in
set_option maxHeartbeats 1000000 in
theorem rletter_any (c : Int) (w : World) :
    Calls Tryz.prog 82 #[.int .u8 c] w fun e w' => e = .returned (.bool (Lx.letterI c)) ∧ w' = w := by
  go_enter Tryz.func82, Tryz.ntmps82
  go_wp2
  all_goals go_ret
  all_goals refine ⟨ret_bool ?_, rfl⟩
  all_goals unfold Lx.letterI
  all_goals first | rfl | (rw [Bool.eq_iff_iff]; simp; try omega)

set_option maxRecDepth 100000 in
set_option maxHeartbeats 1000000 in
theorem rdigit_any (c : Int) (w : World) :
    Calls Tryz.prog 85 #[.int .u8 c] w fun e w' => e = .returned (.bool (Lx.digitI c)) ∧ w' = w := by
  go_enter Tryz.func85, Tryz.ntmps85
  go_wp2
  all_goals go_ret
  all_goals refine ⟨ret_bool ?_, rfl⟩
  all_goals unfold Lx.digitI
  all_goals first | rfl | (rw [Bool.eq_iff_iff]; simp; try omega)

set_option maxRecDepth 100000 in
set_option maxHeartbeats 2000000 in
theorem one_any (L : List (List UInt8)) (v : Value) (m : Nat) (x : ByteArray) (w : World) (hrow : RowLow m w v L) (hL : L.length ≤ 1000000) :
    Calls Tryz.prog 83 #[.string x, v] w fun e w' => e = .returned (.bool (has L x.data.toList)) ∧ w' = w := by
  obtain ⟨ao, cap, b, off, rfl, -, hao, hc⟩ := hrow.parts
  clear hrow
  have HC : Hid (_) := hc
  clear hc
  go_enter Tryz.func83, Tryz.ntmps83
  go_wp2_with fail
  go_loop [5] (fun t => ∃ i : Nat, i ≤ L.length ∧ t = .int .i64 i ∧ ∀ j y, L[j]? = some y → j < i → y ≠ x.data.toList) (fun t => L.length - (intOf t).toNat)
  case atStart => exact ⟨0, Nat.zero_le _, rfl, fun j _ _ h => absurd h (Nat.not_lt_zero _)⟩
  case round =>
    obtain ⟨i, hi, rfl, hall⟩ := hrel
    have HA : Hid (_) := hall
    clear hall
    by_cases hlt : i < L.length
    · obtain ⟨y, hy⟩ : ∃ y, L[i]? = some y := ⟨L[i], List.getElem?_eq_getElem hlt⟩
      obtain ⟨rfl, -⟩ := hao (by omega)
      have g1 := HC.out i y hy
      have HY : Hid (_) := hy
      clear hy
      have hbq : (((Ln.bs y).toList == x.toList)) = decide (y = x.data.toList) := bs_beq y x.data.toList
      by_cases he : y = x.data.toList
      · have h1 : ((Ln.bs y).toList == x.toList) = true := by rw [hbq]; exact decide_eq_true he
        have HE : Hid (_) := he
        clear he hbq
        go_wp2
        go_ret
        refine ⟨ret_bool ?_, rfl⟩
        unfold has
        rw [← HE.out]
        symm
        rw [List.contains_iff_mem]
        exact List.mem_of_getElem? HY.out
      · have h1 : ((Ln.bs y).toList == x.toList) = false := by rw [hbq]; exact decide_eq_false he
        have HE : Hid (_) := he
        clear he hbq
        go_wp2
        go_round
        case rel =>
          refine ⟨i + 1, by omega, by go_num, fun j z hz hji => ?_⟩
          by_cases hji2 : j < i
          · exact HA.out j z hz hji2
          · obtain rfl : j = i := by omega
            rw [HY.out] at hz
            cases hz
            exact HE.out
        case measure => simp [intOf]; omega
    · have hie : i = L.length := by omega
      subst hie
      clear hao
      go_wp2
      go_ret
      refine ⟨ret_bool ?_, rfl⟩
      unfold has
      symm
      rw [Bool.eq_false_iff]
      intro hm
      rw [List.contains_iff_mem] at hm
      obtain ⟨j, hj⟩ := List.mem_iff_getElem?.1 hm
      exact HA.out j _ hj (List.getElem?_eq_some_iff.1 hj).1 rfl

set_option maxRecDepth 100000 in
set_option maxHeartbeats 1000000 in
theorem rwords_any (w : World) :
    Calls Tryz.prog 84 #[] w fun e w' => ∃ v, e = .returned v ∧ RowLow w'.heap.size w' v Lx.words ∧ Below w.heap.size w w' := by
  go_enter Tryz.func84, Tryz.ntmps84
  go_wp2
  go_ret
  exact ⟨_, rfl, CellsLow.lit w (Lx.words.map txtV) 9 11, below_nw w _⟩

set_option maxRecDepth 100000 in
set_option maxHeartbeats 2000000 in
theorem rname_any (s : ByteArray) (hs : s.size ≤ maxLen) (w : World) :
    Calls Tryz.prog 43 #[.string s] w fun e w' => e = .returned (.bool (Lx.isName s.data.toList)) ∧ Below w.heap.size w w' := by
  have HS : Hid (s.data.toList.length = s.size) := rfl
  have ht : s.toList = s.data.toList := Lib.toList_data s
  by_cases h0 : s.size = 0
  · have hs : s = ⟨#[]⟩ := str_empty s h0
    subst hs
    clear ht HS h0
    go_enter Tryz.func43, Tryz.ntmps43
    go_wp2
    go_ret
    exact ⟨rfl, Below.refl _ _⟩
  · obtain ⟨n1, n2, n3⟩ := str_some s (by omega)
    obtain ⟨b, r, hbr⟩ : ∃ b r, s.data.toList = b :: r := by
      cases h : s.data.toList with
      | nil => rw [ht] at n1; exact absurd h n1
      | cons b r => exact ⟨b, r, rfl⟩
    have hp : 0 < s.size := by omega
    have hb0 : s[0] = b := by
      have : s[0] = s.data.toList[0]'hp := rfl
      rw [this]; simp [hbr]
    have HSP : Hid (Lx.isName s.data.toList = (decide (s.size ≤ 24) && Lx.letterI (s[0].toNat : Int) && decide (Lx.lead Lx.ldI s.data.toList = s.size) && !has Lx.words s.data.toList)) := by
      show Lx.isName s.data.toList = _
      unfold Lx.isName Lx.spelled
      rw [HS.out, hb0]
      simp only [hbr]
      rfl
    have hl := rletter_any (s[0].toNat : Int)
    have hs1 : s.size ≤ 9223372036854775807 := hs
    clear hbr hb0 ht
    by_cases h1 : s.size ≤ 24
    · have h1' : decide (24 < s.size) = false := by simp; omega
      cases h2 : Lx.letterI (s[0].toNat : Int) with
      | true =>
        rw [h2] at hl
        cases h3 : has Lx.words s.data.toList with
        | true =>
          go_enter Tryz.func43, Tryz.ntmps43
          go_wp2_with fail
          refine (hl _).mono ?_
          rintro e w' ⟨rfl, rfl⟩
          go_wp2_with fail
          refine (rwords_any _).mono ?_
          rintro e w1 ⟨v, rfl, hrow, hb⟩
          have CT : Hid (_) := one_any _ _ _ s w1 hrow (by decide)
          rw [h3] at CT
          obtain ⟨va, vc, vb, vd, rfl, -, -, -⟩ := hrow.parts
          have HB : Hid (_) := hb
          clear hrow hb
          go_wp2_with fail
          refine Calls.mono CT.out ?_
          rintro e w2 ⟨rfl, rfl⟩
          go_wp2
          go_ret
          refine ⟨ret_bool ?_, HB.out⟩
          rw [HSP.out, h3]
          simp
        | false =>
          go_enter Tryz.func43, Tryz.ntmps43
          go_wp2_with fail
          refine (hl _).mono ?_
          rintro e w' ⟨rfl, rfl⟩
          go_wp2_with fail
          refine (rwords_any _).mono ?_
          rintro e w1 ⟨v, rfl, hrow, hb⟩
          have CT : Hid (_) := one_any _ _ _ s w1 hrow (by decide)
          rw [h3] at CT
          obtain ⟨va, vc, vb, vd, rfl, -, -, -⟩ := hrow.parts
          have HB : Hid (_) := hb
          clear hrow hb
          go_wp2_with fail
          refine Calls.mono CT.out ?_
          rintro e w2 ⟨rfl, rfl⟩
          have H23 : Hid (Lx.isName s.data.toList = decide (Lx.lead Lx.ldI s.data.toList = s.size)) := by
            show Lx.isName s.data.toList = _
            rw [HSP.out, h2, h3, decide_eq_true h1]; simp
          clear CT HSP h3
          go_wp2_with fail
          go_loop [3] (fun t => ∃ i : Nat, i ≤ s.size ∧ t = .int .i64 i ∧ ∀ j (hj : j < s.data.toList.length), j < i → Lx.ldI (s.data.toList[j].toNat : Int) = true) (fun t => s.size - (intOf t).toNat)
          case atStart => exact ⟨0, Nat.zero_le _, rfl, fun j _ h => absurd h (Nat.not_lt_zero _)⟩
          case round =>
            obtain ⟨i, hi, rfl, hall⟩ := hrel
            have HA : Hid (_) := hall
            clear hall hl h2
            by_cases hlt : i < s.size
            · have hle := rletter_any (s[i].toNat : Int)
              have hdi := rdigit_any (s[i].toNat : Int)
              have HI : Hid (∀ h : i < s.data.toList.length, s.data.toList[i] = s[i]) := fun _ => rfl
              have fin : Hid (Lx.ldI (s[i].toNat : Int) = false → decide (Lx.lead Lx.ldI s.data.toList = s.size) = false) := fun hf => by
                rw [decide_eq_false_iff_not]
                intro he
                have := Lx.lead_all Lx.ldI s.data.toList (by rw [HS.out]; exact he) _ (List.getElem_mem hlt)
                have e2 : s.data.toList[i]'hlt = s[i] := rfl
                rw [e2, hf] at this
                cases this
              have nxt : Hid (Lx.ldI (s[i].toNat : Int) = true → ∀ j (hj : j < s.data.toList.length), j < i + 1 → Lx.ldI (s.data.toList[j].toNat : Int) = true) := fun hf j hj hji => by
                by_cases hji2 : j < i
                · exact HA.out j hj hji2
                · obtain rfl : j = i := by omega
                  exact hf
              cases h4 : Lx.letterI (s[i].toNat : Int) with
              | true =>
                rw [h4] at hle
                go_wp2_with (go_at_call 82; refine (hle _).mono ?_; rintro e w' ⟨rfl, rfl⟩)
                go_round
                case rel => exact ⟨i + 1, by omega, by go_num, nxt.out (by simp [Lx.ldI, h4])⟩
                case measure => simp [intOf]; omega
              | false =>
                rw [h4] at hle
                cases h5 : Lx.digitI (s[i].toNat : Int) with
                | true =>
                  rw [h5] at hdi
                  go_wp2_with (first
                    | (go_at_call 82; refine (hle _).mono ?_; rintro e w' ⟨rfl, rfl⟩)
                    | (go_at_call 85; refine (hdi _).mono ?_; rintro e w' ⟨rfl, rfl⟩))
                  go_round
                  case rel => exact ⟨i + 1, by omega, by go_num, nxt.out (by simp [Lx.ldI, h5])⟩
                  case measure => simp [intOf]; omega
                | false =>
                  rw [h5] at hdi
                  go_wp2_with (first
                    | (go_at_call 82; refine (hle _).mono ?_; rintro e w' ⟨rfl, rfl⟩)
                    | (go_at_call 85; refine (hdi _).mono ?_; rintro e w' ⟨rfl, rfl⟩))
                  go_ret
                  exact ⟨ret_bool (by rw [H23.out, fin.out (by simp [Lx.ldI, h4, h5])]), HB.out⟩
            · have hie : i = s.size := by omega
              go_wp2
              go_ret
              refine ⟨ret_bool ?_, HB.out⟩
              rw [H23.out]
              symm
              rw [decide_eq_true_iff]
              exact Lx.lead_eq Lx.ldI s.data.toList s.size (Nat.le_refl _) (by rw [← hie]; exact HA.out) (fun h => absurd h (Nat.lt_irrefl _))
      | false =>
        rw [h2] at hl
        go_enter Tryz.func43, Tryz.ntmps43
        go_wp2_with (go_at_call 82; refine (hl _).mono ?_; rintro e w' ⟨rfl, rfl⟩)
        go_ret
        refine ⟨ret_bool ?_, Below.refl _ _⟩
        rw [HSP.out, h2]
        simp
    · have h1' : decide (24 < s.size) = true := by simp; omega
      go_enter Tryz.func43, Tryz.ntmps43
      go_wp2
      go_ret
      refine ⟨ret_bool ?_, Below.refl _ _⟩
      rw [HSP.out, decide_eq_false h1]
      simp

end Go.Proofs.YtnndgjnihhafbaaGreatDoor
