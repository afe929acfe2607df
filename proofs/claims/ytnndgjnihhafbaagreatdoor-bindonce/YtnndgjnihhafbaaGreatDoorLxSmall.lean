/-
  The walks of lex's sorts of bytes, and how many of a sort stand in front.
-/
import Derived.Test.YtnndgjnihhafbaaGreatDoorLxMath
import Derived.Test.YtnndgjnihhafbaaGreatDoorBaseAll
namespace Go.Proofs.YtnndgjnihhafbaaGreatDoor
open Go.RowKit

set_option maxRecDepth 100000 in
set_option maxHeartbeats 1000000 in
theorem letter_any (c : Int) (w : World) :
    Calls Tryz.prog 126 #[.int .u8 c] w fun e w' => e = .returned (.bool (Lx.letterI c)) ∧ w' = w := by
  go_enter Tryz.func126, Tryz.ntmps126
  go_wp2
  all_goals go_ret
  all_goals refine ⟨ret_bool ?_, rfl⟩
  all_goals unfold Lx.letterI
  all_goals first | rfl | (rw [Bool.eq_iff_iff]; simp; try omega)

set_option maxRecDepth 100000 in
set_option maxHeartbeats 1000000 in
theorem digit_any (c : Int) (w : World) :
    Calls Tryz.prog 148 #[.int .u8 c] w fun e w' => e = .returned (.bool (Lx.digitI c)) ∧ w' = w := by
  go_enter Tryz.func148, Tryz.ntmps148
  go_wp2
  all_goals go_ret
  all_goals refine ⟨ret_bool ?_, rfl⟩
  all_goals unfold Lx.digitI
  all_goals first | rfl | (rw [Bool.eq_iff_iff]; simp; try omega)

set_option maxRecDepth 100000 in
set_option maxHeartbeats 1000000 in
theorem blank_any (c : Int) (w : World) :
    Calls Tryz.prog 116 #[.int .u8 c] w fun e w' => e = .returned (.bool (Lx.blankI c)) ∧ w' = w := by
  go_enter Tryz.func116, Tryz.ntmps116
  go_wp2
  all_goals go_ret
  all_goals refine ⟨ret_bool ?_, rfl⟩
  all_goals unfold Lx.blankI
  all_goals first | rfl | (rw [Bool.eq_iff_iff]; simp; try omega)

set_option maxRecDepth 100000 in
set_option maxHeartbeats 1000000 in
theorem inLine_any (c : Int) (w : World) :
    Calls Tryz.prog 119 #[.int .u8 c] w fun e w' => e = .returned (.bool (Lx.inLineI c)) ∧ w' = w := by
  go_enter Tryz.func119, Tryz.ntmps119
  go_wp2
  all_goals go_ret
  all_goals refine ⟨ret_bool ?_, rfl⟩
  all_goals unfold Lx.inLineI
  all_goals first | rfl | (rw [Bool.eq_iff_iff]; simp; try omega)

set_option maxRecDepth 100000 in
set_option maxHeartbeats 1000000 in
theorem ld_any (c : Int) (w : World) :
    Calls Tryz.prog 120 #[.int .u8 c] w fun e w' => e = .returned (.bool (Lx.ldI c)) ∧ w' = w := by
  cases h : Lx.letterI c with
  | true =>
    have hl := letter_any c
    rw [h] at hl
    go_enter Tryz.func120, Tryz.ntmps120
    go_wp2_with (go_at_call 126; refine (hl _).mono ?_; rintro e w' ⟨rfl, rfl⟩)
    go_ret
    exact ⟨ret_bool (by simp [Lx.ldI, h]), rfl⟩
  | false =>
    have hl := letter_any c
    rw [h] at hl
    go_enter Tryz.func120, Tryz.ntmps120
    go_wp2_with (first
      | (go_at_call 126; refine (hl _).mono ?_; rintro e w' ⟨rfl, rfl⟩)
      | (go_at_call 148; refine (digit_any c _).mono ?_; rintro e w' ⟨rfl, rfl⟩))
    go_ret
    exact ⟨ret_bool (by simp [Lx.ldI, h]), rfl⟩

set_option maxRecDepth 100000 in
set_option maxHeartbeats 2000000 in
theorem lead_ld (s : ByteArray) (hs : s.size ≤ maxLen) (w : World) :
    Calls Tryz.prog 127 #[.string s, .func (.func 120) #[] #[]] w fun e w' => e = .returned (.int .i64 (Lx.lead Lx.ldI s.data.toList)) ∧ w' = w := by
  unfold maxLen at hs
  have HS : Hid (s.data.toList.length = s.size) := rfl
  go_enter Tryz.func127, Tryz.ntmps127
  go_wp2_with fail
  go_loop [8] (fun t => ∃ i : Nat, i ≤ s.size ∧ t = .int .i64 i ∧ ∀ j (hj : j < s.data.toList.length), j < i → Lx.ldI (s.data.toList[j].toNat : Int) = true) (fun t => s.size - (intOf t).toNat)
  case atStart => exact ⟨0, Nat.zero_le _, rfl, fun j _ h => absurd h (Nat.not_lt_zero _)⟩
  case round =>
    obtain ⟨i, hi, rfl, hall⟩ := hrel
    have HA : Hid (_) := hall
    clear hall
    by_cases hlt : i < s.size
    · have hb : (s[i]) = s.data.toList[i]'hlt := rfl
      cases hp : Lx.ldI (s[i].toNat : Int) with
      | true =>
        have hc := ld_any (s[i].toNat : Int)
        rw [hp] at hc
        have HP : Hid (_) := hp
        clear hp hb
        go_wp2_with (go_at_call 120; refine (hc _).mono ?_; rintro e w' ⟨rfl, rfl⟩)
        go_round
        case rel =>
          refine ⟨i + 1, by omega, by go_num, fun j hj hji => ?_⟩
          by_cases hji2 : j < i
          · exact HA.out j hj hji2
          · obtain rfl : j = i := by omega
            exact HP.out
        case measure => simp [intOf]; omega
      | false =>
        have hc := ld_any (s[i].toNat : Int)
        rw [hp] at hc
        have HP : Hid (_) := hp
        clear hp hb
        go_wp2_with (go_at_call 120; refine (hc _).mono ?_; rintro e w' ⟨rfl, rfl⟩)
        go_ret
        exact ⟨ret_int (by rw [Lx.lead_eq Lx.ldI s.data.toList i hi HA.out (fun _ => HP.out)]), rfl⟩
    · have hie : i = s.size := by omega
      subst hie
      go_wp2
      go_ret
      exact ⟨ret_int (by rw [Lx.lead_eq Lx.ldI s.data.toList s.size (Nat.le_refl _) HA.out (fun h => absurd h (Nat.lt_irrefl _))]), rfl⟩

set_option maxRecDepth 100000 in
set_option maxHeartbeats 2000000 in
theorem lead_digit (s : ByteArray) (hs : s.size ≤ maxLen) (w : World) :
    Calls Tryz.prog 127 #[.string s, .func (.func 148) #[] #[]] w fun e w' => e = .returned (.int .i64 (Lx.lead Lx.digitI s.data.toList)) ∧ w' = w := by
  unfold maxLen at hs
  have HS : Hid (s.data.toList.length = s.size) := rfl
  go_enter Tryz.func127, Tryz.ntmps127
  go_wp2_with fail
  go_loop [8] (fun t => ∃ i : Nat, i ≤ s.size ∧ t = .int .i64 i ∧ ∀ j (hj : j < s.data.toList.length), j < i → Lx.digitI (s.data.toList[j].toNat : Int) = true) (fun t => s.size - (intOf t).toNat)
  case atStart => exact ⟨0, Nat.zero_le _, rfl, fun j _ h => absurd h (Nat.not_lt_zero _)⟩
  case round =>
    obtain ⟨i, hi, rfl, hall⟩ := hrel
    have HA : Hid (_) := hall
    clear hall
    by_cases hlt : i < s.size
    · have hb : (s[i]) = s.data.toList[i]'hlt := rfl
      cases hp : Lx.digitI (s[i].toNat : Int) with
      | true =>
        have hc := digit_any (s[i].toNat : Int)
        rw [hp] at hc
        have HP : Hid (_) := hp
        clear hp hb
        go_wp2_with (go_at_call 148; refine (hc _).mono ?_; rintro e w' ⟨rfl, rfl⟩)
        go_round
        case rel =>
          refine ⟨i + 1, by omega, by go_num, fun j hj hji => ?_⟩
          by_cases hji2 : j < i
          · exact HA.out j hj hji2
          · obtain rfl : j = i := by omega
            exact HP.out
        case measure => simp [intOf]; omega
      | false =>
        have hc := digit_any (s[i].toNat : Int)
        rw [hp] at hc
        have HP : Hid (_) := hp
        clear hp hb
        go_wp2_with (go_at_call 148; refine (hc _).mono ?_; rintro e w' ⟨rfl, rfl⟩)
        go_ret
        exact ⟨ret_int (by rw [Lx.lead_eq Lx.digitI s.data.toList i hi HA.out (fun _ => HP.out)]), rfl⟩
    · have hie : i = s.size := by omega
      subst hie
      go_wp2
      go_ret
      exact ⟨ret_int (by rw [Lx.lead_eq Lx.digitI s.data.toList s.size (Nat.le_refl _) HA.out (fun h => absurd h (Nat.lt_irrefl _))]), rfl⟩

set_option maxRecDepth 100000 in
set_option maxHeartbeats 2000000 in
theorem lead_blank (s : ByteArray) (hs : s.size ≤ maxLen) (w : World) :
    Calls Tryz.prog 127 #[.string s, .func (.func 116) #[] #[]] w fun e w' => e = .returned (.int .i64 (Lx.lead Lx.blankI s.data.toList)) ∧ w' = w := by
  unfold maxLen at hs
  have HS : Hid (s.data.toList.length = s.size) := rfl
  go_enter Tryz.func127, Tryz.ntmps127
  go_wp2_with fail
  go_loop [8] (fun t => ∃ i : Nat, i ≤ s.size ∧ t = .int .i64 i ∧ ∀ j (hj : j < s.data.toList.length), j < i → Lx.blankI (s.data.toList[j].toNat : Int) = true) (fun t => s.size - (intOf t).toNat)
  case atStart => exact ⟨0, Nat.zero_le _, rfl, fun j _ h => absurd h (Nat.not_lt_zero _)⟩
  case round =>
    obtain ⟨i, hi, rfl, hall⟩ := hrel
    have HA : Hid (_) := hall
    clear hall
    by_cases hlt : i < s.size
    · have hb : (s[i]) = s.data.toList[i]'hlt := rfl
      cases hp : Lx.blankI (s[i].toNat : Int) with
      | true =>
        have hc := blank_any (s[i].toNat : Int)
        rw [hp] at hc
        have HP : Hid (_) := hp
        clear hp hb
        go_wp2_with (go_at_call 116; refine (hc _).mono ?_; rintro e w' ⟨rfl, rfl⟩)
        go_round
        case rel =>
          refine ⟨i + 1, by omega, by go_num, fun j hj hji => ?_⟩
          by_cases hji2 : j < i
          · exact HA.out j hj hji2
          · obtain rfl : j = i := by omega
            exact HP.out
        case measure => simp [intOf]; omega
      | false =>
        have hc := blank_any (s[i].toNat : Int)
        rw [hp] at hc
        have HP : Hid (_) := hp
        clear hp hb
        go_wp2_with (go_at_call 116; refine (hc _).mono ?_; rintro e w' ⟨rfl, rfl⟩)
        go_ret
        exact ⟨ret_int (by rw [Lx.lead_eq Lx.blankI s.data.toList i hi HA.out (fun _ => HP.out)]), rfl⟩
    · have hie : i = s.size := by omega
      subst hie
      go_wp2
      go_ret
      exact ⟨ret_int (by rw [Lx.lead_eq Lx.blankI s.data.toList s.size (Nat.le_refl _) HA.out (fun h => absurd h (Nat.lt_irrefl _))]), rfl⟩

set_option maxRecDepth 100000 in
set_option maxHeartbeats 2000000 in
theorem lead_inLine (s : ByteArray) (hs : s.size ≤ maxLen) (w : World) :
    Calls Tryz.prog 127 #[.string s, .func (.func 119) #[] #[]] w fun e w' => e = .returned (.int .i64 (Lx.lead Lx.inLineI s.data.toList)) ∧ w' = w := by
  unfold maxLen at hs
  have HS : Hid (s.data.toList.length = s.size) := rfl
  go_enter Tryz.func127, Tryz.ntmps127
  go_wp2_with fail
  go_loop [8] (fun t => ∃ i : Nat, i ≤ s.size ∧ t = .int .i64 i ∧ ∀ j (hj : j < s.data.toList.length), j < i → Lx.inLineI (s.data.toList[j].toNat : Int) = true) (fun t => s.size - (intOf t).toNat)
  case atStart => exact ⟨0, Nat.zero_le _, rfl, fun j _ h => absurd h (Nat.not_lt_zero _)⟩
  case round =>
    obtain ⟨i, hi, rfl, hall⟩ := hrel
    have HA : Hid (_) := hall
    clear hall
    by_cases hlt : i < s.size
    · have hb : (s[i]) = s.data.toList[i]'hlt := rfl
      cases hp : Lx.inLineI (s[i].toNat : Int) with
      | true =>
        have hc := inLine_any (s[i].toNat : Int)
        rw [hp] at hc
        have HP : Hid (_) := hp
        clear hp hb
        go_wp2_with (go_at_call 119; refine (hc _).mono ?_; rintro e w' ⟨rfl, rfl⟩)
        go_round
        case rel =>
          refine ⟨i + 1, by omega, by go_num, fun j hj hji => ?_⟩
          by_cases hji2 : j < i
          · exact HA.out j hj hji2
          · obtain rfl : j = i := by omega
            exact HP.out
        case measure => simp [intOf]; omega
      | false =>
        have hc := inLine_any (s[i].toNat : Int)
        rw [hp] at hc
        have HP : Hid (_) := hp
        clear hp hb
        go_wp2_with (go_at_call 119; refine (hc _).mono ?_; rintro e w' ⟨rfl, rfl⟩)
        go_ret
        exact ⟨ret_int (by rw [Lx.lead_eq Lx.inLineI s.data.toList i hi HA.out (fun _ => HP.out)]), rfl⟩
    · have hie : i = s.size := by omega
      subst hie
      go_wp2
      go_ret
      exact ⟨ret_int (by rw [Lx.lead_eq Lx.inLineI s.data.toList s.size (Nat.le_refl _) HA.out (fun h => absurd h (Nat.lt_irrefl _))]), rfl⟩

end Go.Proofs.YtnndgjnihhafbaaGreatDoor
