/-
  The walks of lex's sorts of bytes, and how many of a sort stand in front.
-/
import Derived.Test.YtejnleigjjaenaaLxMath
import Derived.Test.YtejnleigjjaenaaBase
namespace Go.Proofs.Ytejnleigjjaenaa
open Go.RowKit

set_option maxRecDepth 100000 in
set_option maxHeartbeats 1000000 in
theorem letter_any (c : Int) (w : World) :
    Calls Try.prog 79 #[.int .u8 c] w fun e w' => e = .returned (.bool (Lx.letterI c)) ∧ w' = w := by
  go_enter Try.func79, Try.ntmps79
  go_wp2
  all_goals go_ret
  all_goals refine ⟨ret_bool ?_, rfl⟩
  all_goals unfold Lx.letterI
  all_goals first | rfl | (rw [Bool.eq_iff_iff]; simp; try omega)

set_option maxRecDepth 100000 in
set_option maxHeartbeats 1000000 in
theorem digit_any (c : Int) (w : World) :
    Calls Try.prog 92 #[.int .u8 c] w fun e w' => e = .returned (.bool (Lx.digitI c)) ∧ w' = w := by
  go_enter Try.func92, Try.ntmps92
  go_wp2
  all_goals go_ret
  all_goals refine ⟨ret_bool ?_, rfl⟩
  all_goals unfold Lx.digitI
  all_goals first | rfl | (rw [Bool.eq_iff_iff]; simp; try omega)

set_option maxRecDepth 100000 in
set_option maxHeartbeats 1000000 in
theorem ld_any (c : Int) (w : World) :
    Calls Try.prog 81 #[.int .u8 c] w fun e w' => e = .returned (.bool (Lx.ldI c)) ∧ w' = w := by
  cases h : Lx.letterI c with
  | true =>
    have hl := letter_any c
    rw [h] at hl
    go_enter Try.func81, Try.ntmps81
    go_wp2_with (go_at_call 79; refine (hl _).mono ?_; rintro e w' ⟨rfl, rfl⟩)
    go_ret
    exact ⟨ret_bool (by simp [Lx.ldI, h]), rfl⟩
  | false =>
    have hl := letter_any c
    rw [h] at hl
    go_enter Try.func81, Try.ntmps81
    go_wp2_with (first
      | (go_at_call 79; refine (hl _).mono ?_; rintro e w' ⟨rfl, rfl⟩)
      | (go_at_call 92; refine (digit_any c _).mono ?_; rintro e w' ⟨rfl, rfl⟩))
    go_ret
    exact ⟨ret_bool (by simp [Lx.ldI, h]), rfl⟩

set_option maxRecDepth 100000 in
set_option maxHeartbeats 2000000 in
theorem lead_ld (s : ByteArray) (hs : s.size ≤ maxLen) (w : World) :
    Calls Try.prog 80 #[.string s, .func (.func 81) #[] #[]] w fun e w' => e = .returned (.int .i64 (Lx.lead Lx.ldI s.data.toList)) ∧ w' = w := by
  unfold maxLen at hs
  have HS : Hid (s.data.toList.length = s.size) := rfl
  go_enter Try.func80, Try.ntmps80
  go_wp2_with fail
  go_loop [8] (fun t => ∃ i : Nat, i ≤ s.size ∧ t = .int .i64 i ∧ ∀ j (hj : j < s.data.toList.length), j < i → Lx.ldI (s.data.toList[j].toNat : Int) = true) (fun t => s.size - (intOf t).toNat)
  case atStart => exact ⟨0, Nat.zero_le _, rfl, fun j _ h => absurd h (Nat.not_lt_zero _)⟩
  case round =>
    obtain ⟨i, hi, rfl, hall⟩ := hrel
    have HA : Hid (_) := hall
    clear hall
    by_cases hlt : i < s.size
    · have hb : (s[i]) = s.data.toList[i]'hlt := rfl
      cases hp : Lx.ldI (s[i].toNat : Int) with
      | true =>
        have hc := ld_any (s[i].toNat : Int)
        rw [hp] at hc
        have HP : Hid (_) := hp
        clear hp hb
        go_wp2_with (go_at_call 81; refine (hc _).mono ?_; rintro e w' ⟨rfl, rfl⟩)
        go_round
        case rel =>
          refine ⟨i + 1, by omega, by go_num, fun j hj hji => ?_⟩
          by_cases hji2 : j < i
          · exact HA.out j hj hji2
          · obtain rfl : j = i := by omega
            exact HP.out
        case measure => simp [intOf]; omega
      | false =>
        have hc := ld_any (s[i].toNat : Int)
        rw [hp] at hc
        have HP : Hid (_) := hp
        clear hp hb
        go_wp2_with (go_at_call 81; refine (hc _).mono ?_; rintro e w' ⟨rfl, rfl⟩)
        go_ret
        exact ⟨ret_int (by rw [Lx.lead_eq Lx.ldI s.data.toList i hi HA.out (fun _ => HP.out)]), rfl⟩
    · have hie : i = s.size := by omega
      subst hie
      go_wp2
      go_ret
      exact ⟨ret_int (by rw [Lx.lead_eq Lx.ldI s.data.toList s.size (Nat.le_refl _) HA.out (fun h => absurd h (Nat.lt_irrefl _))]), rfl⟩

set_option maxRecDepth 100000 in
set_option maxHeartbeats 2000000 in
theorem lead_digit (s : ByteArray) (hs : s.size ≤ maxLen) (w : World) :
    Calls Try.prog 80 #[.string s, .func (.func 92) #[] #[]] w fun e w' => e = .returned (.int .i64 (Lx.lead Lx.digitI s.data.toList)) ∧ w' = w := by
  unfold maxLen at hs
  have HS : Hid (s.data.toList.length = s.size) := rfl
  go_enter Try.func80, Try.ntmps80
  go_wp2_with fail
  go_loop [8] (fun t => ∃ i : Nat, i ≤ s.size ∧ t = .int .i64 i ∧ ∀ j (hj : j < s.data.toList.length), j < i → Lx.digitI (s.data.toList[j].toNat : Int) = true) (fun t => s.size - (intOf t).toNat)
  case atStart => exact ⟨0, Nat.zero_le _, rfl, fun j _ h => absurd h (Nat.not_lt_zero _)⟩
  case round =>
    obtain ⟨i, hi, rfl, hall⟩ := hrel
    have HA : Hid (_) := hall
    clear hall
    by_cases hlt : i < s.size
    · have hb : (s[i]) = s.data.toList[i]'hlt := rfl
      cases hp : Lx.digitI (s[i].toNat : Int) with
      | true =>
        have hc := digit_any (s[i].toNat : Int)
        rw [hp] at hc
        have HP : Hid (_) := hp
        clear hp hb
        go_wp2_with (go_at_call 92; refine (hc _).mono ?_; rintro e w' ⟨rfl, rfl⟩)
        go_round
        case rel =>
          refine ⟨i + 1, by omega, by go_num, fun j hj hji => ?_⟩
          by_cases hji2 : j < i
          · exact HA.out j hj hji2
          · obtain rfl : j = i := by omega
            exact HP.out
        case measure => simp [intOf]; omega
      | false =>
        have hc := digit_any (s[i].toNat : Int)
        rw [hp] at hc
        have HP : Hid (_) := hp
        clear hp hb
        go_wp2_with (go_at_call 92; refine (hc _).mono ?_; rintro e w' ⟨rfl, rfl⟩)
        go_ret
        exact ⟨ret_int (by rw [Lx.lead_eq Lx.digitI s.data.toList i hi HA.out (fun _ => HP.out)]), rfl⟩
    · have hie : i = s.size := by omega
      subst hie
      go_wp2
      go_ret
      exact ⟨ret_int (by rw [Lx.lead_eq Lx.digitI s.data.toList s.size (Nat.le_refl _) HA.out (fun h => absurd h (Nat.lt_irrefl _))]), rfl⟩

end Go.Proofs.Ytejnleigjjaenaa
