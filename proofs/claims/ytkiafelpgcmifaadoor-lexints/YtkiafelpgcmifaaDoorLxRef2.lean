/-
  The walks of the document's answers of chapter 5: numbers, what begins where, the signs.
-/
import Derived.Test.YtkiafelpgcmifaaDoorLxRef
namespace Go.Proofs.YtkiafelpgcmifaaDoor
open Go.RowKit

set_option maxRecDepth 100000 in
set_option maxHeartbeats 1000000 in
theorem rsigns_any (w : World) :
    Calls Tryd.prog 28 #[] w fun e w' => ∃ v, e = .returned v ∧ RowLow w'.heap.size w' v Lx.signs ∧ Below w.heap.size w w' := by
  go_enter Tryd.func28, Tryd.ntmps28
  go_wp2
  go_ret
  exact ⟨_, rfl, CellsLow.lit w (Lx.signs.map txtV) 9 23, below_nw w _⟩

theorem part_eq (s p : ByteArray) (k : Nat) : ((s.extract k (k + p.size)).toList == p.toList) = pre p.data.toList (s.data.toList.drop k) := by
  unfold pre
  rw [Lib.toList_data, Lib.toList_data, extract_part]
  have hl : p.data.toList.length = p.size := rfl
  rw [Bool.eq_iff_iff, beq_iff_eq, List.isPrefixOf_iff_prefix, List.prefix_iff_eq_take, hl]
  exact ⟨fun h => h.symm, fun h => h.symm⟩

set_option maxRecDepth 100000 in
set_option maxHeartbeats 1000000 in
theorem begins_any (s p : ByteArray) (k : Nat) (hk : k ≤ s.size) (hs : s.size ≤ 1000000) (hp : p.size ≤ 1000000) (w : World) :
    Calls Tryd.prog 23 #[.string s, .int .i64 k, .string p] w fun e w' => e = .returned (.bool (pre p.data.toList (s.data.toList.drop k))) ∧ w' = w := by
  have h3 : s.data.toList.length = s.size := rfl
  have h2 : p.data.toList.length = p.size := rfl
  have hsub : IntKind.i64.wrap ((s.size : Int) - (k : Int)) = (s.size : Int) - (k : Int) := by rw [IntKind.wrap_i64]; omega
  have hadd : IntKind.i64.wrap ((k : Int) + (p.size : Int)) = (k : Int) + (p.size : Int) := by rw [IntKind.wrap_i64]; omega
  by_cases h : k + p.size ≤ s.size
  · have HE : Hid (_) := part_eq s p k
    have hg : decide ((p.size : Int) ≤ (s.size : Int) - (k : Int)) = true := by simp; omega
    clear h3 h2
    go_enter Tryd.func23, Tryd.ntmps23
    go_wp2
    go_ret
    exact ⟨ret_bool HE.out, rfl⟩
  · have HE : Hid (pre p.data.toList (s.data.toList.drop k) = false) := by
      show pre p.data.toList (s.data.toList.drop k) = false
      cases hq : pre p.data.toList (s.data.toList.drop k) with
      | false => rfl
      | true => exact absurd (pre_len hk hq).1 h
    have hg : decide ((p.size : Int) ≤ (s.size : Int) - (k : Int)) = false := by simp; omega
    clear h3 h2
    go_enter Tryd.func23, Tryd.ntmps23
    go_wp2
    go_ret
    exact ⟨ret_bool HE.out.symm, rfl⟩

set_option maxRecDepth 100000 in
set_option maxHeartbeats 2000000 in
theorem number_any (s : ByteArray) (hs : s.size ≤ 1000000) (w : World) :
    Calls Tryd.prog 26 #[.string s] w fun e w' => (∃ v : Int, e = .returned (.tuple #[.int .i64 v, .bool (Lx.isInt s.data.toList)])) ∧ w' = w := by
  have HS : Hid (s.data.toList.length = s.size) := rfl
  by_cases h0 : s.size = 0
  · have hs : s = ⟨#[]⟩ := str_empty s h0
    subst hs
    clear HS h0
    go_enter Tryd.func26, Tryd.ntmps26
    go_wp2
    go_ret2
    exact ⟨⟨0, rfl⟩, rfl⟩
  · obtain ⟨n1, n2, n3⟩ := str_some s (by omega)
    have ht : s.toList = s.data.toList := Lib.toList_data s
    obtain ⟨b, r, hbr⟩ : ∃ b r, s.data.toList = b :: r := by
      cases h : s.data.toList with
      | nil => rw [ht] at n1; exact absurd h n1
      | cons b r => exact ⟨b, r, rfl⟩
    have hp : 0 < s.size := by omega
    have hb0 : s[0] = b := by
      have : s[0] = s.data.toList[0]'hp := rfl
      rw [this]; simp [hbr]
    have HI : Hid (Lx.isInt s.data.toList = (Lx.noZero s.data.toList && decide (Lx.lead Lx.digitI s.data.toList = s.size) && decide (Lx.val s.data.toList ≤ 9223372036854775807))) := by
      show Lx.isInt s.data.toList = _
      rw [← HS.out, hbr]; exact isInt_cons b r
    have HZ : Hid (Lx.noZero s.data.toList = !(decide (1 < s.size) && ((s[0].toNat : Int) == 48))) := by
      show Lx.noZero s.data.toList = _
      cases r with
      | nil =>
        have h1 : s.size = 1 := by rw [← HS.out, hbr]; rfl
        rw [hbr, decide_eq_false (by omega)]; rfl
      | cons c q =>
        have h1 : 1 < s.size := by rw [← HS.out, hbr]; simp
        rw [hb0, hbr, decide_eq_true h1]
        show (b != 48) = _
        rw [Bool.eq_iff_iff]
        simp only [bne_iff_ne, ne_eq, Bool.true_and, Bool.not_eq_true', beq_eq_false_iff_ne]
        constructor
        · intro h e; apply h; apply UInt8.toNat_inj.1; have : (48 : UInt8).toNat = 48 := rfl; omega
        · intro h e; apply h; rw [e]; rfl
    clear hbr hb0 ht
    by_cases h1 : 1 < s.size
    · cases h4 : ((s[0].toNat : Int) == 48) with
      | true =>
        have HF : Hid (Lx.isInt s.data.toList = false) := by
          show Lx.isInt s.data.toList = false
          rw [HI.out, HZ.out, h4, decide_eq_true h1]; simp
        clear HI HZ
        go_enter Tryd.func26, Tryd.ntmps26
        go_wp2
        go_ret2
        exact ⟨⟨0, by rw [HF.out]; rfl⟩, rfl⟩
      | false =>
        have HNZ : Hid (Lx.noZero s.data.toList = true) := by
          show Lx.noZero s.data.toList = true
          rw [HZ.out, h4]; simp
        clear HZ
        go_enter Tryd.func26, Tryd.ntmps26
        go_wp2_with fail
        go_loop [4, 5] (fun n t => ∃ i : Nat, i ≤ s.size ∧ t = .int .i64 i ∧ n = .int .u64 (Lx.val (s.data.toList.take i) : Nat) ∧ Lx.val (s.data.toList.take i) ≤ 9223372036854775807 ∧ ∀ j (hj : j < s.data.toList.length), j < i → Lx.digitI (s.data.toList[j].toNat : Int) = true) (fun _ t => s.size - (intOf t).toNat)
        case atStart => exact ⟨0, Nat.zero_le _, rfl, rfl, by simp [Lx.val], fun j _ h => absurd h (Nat.not_lt_zero _)⟩
        case round =>
          obtain ⟨i, hi, rfl, rfl, hm, hall⟩ := hrel
          have HA : Hid (_) := hall
          clear hall
          by_cases hlt : i < s.size
          · have hdi := rdigit_any (s[i].toNat : Int)
            have hgt := Lx.val_take_lt s.data.toList i (by rw [HS.out]; exact hlt)
            have hnx : Lx.val (s.data.toList.take (i + 1)) = 10 * Lx.val (s.data.toList.take i) + (s[i].toNat - 48) := by
              rw [List.take_succ_eq_append_getElem (by rw [HS.out]; exact hlt), Lx.val_snoc]; rfl
            have hle2 := Lx.val_take_le s.data.toList (i + 1)
            obtain ⟨n, hn⟩ : ∃ n, n = Lx.val (s.data.toList.take i) := ⟨_, rfl⟩
            rw [← hn] at hm hgt hnx ⊢
            have HNX : Hid (_) := hnx
            have HGT : Hid (_) := hgt
            have HL2 : Hid (_) := hle2
            clear hn hnx hgt hle2
            cases h5 : Lx.digitI (s[i].toNat : Int) with
            | false =>
              rw [h5] at hdi
              have HF : Hid (Lx.isInt s.data.toList = false) := by
                show Lx.isInt s.data.toList = false
                have : ¬ Lx.lead Lx.digitI s.data.toList = s.size := fun he => by
                  have := Lx.lead_all Lx.digitI s.data.toList (by rw [HS.out]; exact he) _ (List.getElem_mem hlt)
                  have e2 : s.data.toList[i]'hlt = s[i] := rfl
                  rw [e2, h5] at this
                  cases this
                rw [HI.out, decide_eq_false this]; simp
              go_wp2_with (go_at_call 25; refine (hdi _).mono ?_; rintro e w' ⟨rfl, rfl⟩)
              go_ret2
              exact ⟨⟨0, by rw [HF.out]; rfl⟩, rfl⟩
            | true =>
              rw [h5] at hdi
              have hd : 48 ≤ s[i].toNat ∧ s[i].toNat ≤ 57 := by
                simp [Lx.digitI] at h5; omega
              obtain ⟨d1, d2⟩ := hd
              by_cases hbig : 922337203685477580 < n
              · have HF : Hid (Lx.isInt s.data.toList = false) := by
                  show Lx.isInt s.data.toList = false
                  have := HGT.out
                  rw [HI.out, decide_eq_false (show ¬ Lx.val s.data.toList ≤ 9223372036854775807 by omega)]; simp
                go_wp2_with (go_at_call 25; refine (hdi _).mono ?_; rintro e w' ⟨rfl, rfl⟩)
                go_ret2
                exact ⟨⟨0, by rw [HF.out]; rfl⟩, rfl⟩
              · have m1 : IntKind.u64.wrap (10 * (n : Int)) = 10 * (n : Int) := by rw [IntKind.wrap_u64]; omega
                have m2 : IntKind.u8.wrap ((s[i].toNat : Int) - 48) = (s[i].toNat : Int) - 48 := by rw [IntKind.wrap_u8]; omega
                have m4 : IntKind.u64.wrap ((s[i].toNat : Int) - 48) = (s[i].toNat : Int) - 48 := by rw [IntKind.wrap_u64]; omega
                have m3 : IntKind.u64.wrap (10 * (n : Int) + ((s[i].toNat : Int) - 48)) = 10 * (n : Int) + ((s[i].toNat : Int) - 48) := by rw [IntKind.wrap_u64]; omega
                have e3 : (10 * (n : Int) + ((s[i].toNat : Int) - 48)) = ((Lx.val (s.data.toList.take (i + 1)) : Nat) : Int) := by rw [HNX.out]; omega
                have E3 : Hid (_) := e3
                clear e3
                by_cases hmore : 9223372036854775807 < 10 * n + (s[i].toNat - 48)
                · have g1 : decide (9223372036854775807 < 10 * (n : Int) + ((s[i].toNat : Int) - 48)) = true := by simp; omega
                  have HF : Hid (Lx.isInt s.data.toList = false) := by
                    show Lx.isInt s.data.toList = false
                    have h1 := HNX.out
                    have h2 := HL2.out
                    rw [HI.out, decide_eq_false (show ¬ Lx.val s.data.toList ≤ 9223372036854775807 by omega)]; simp
                  go_wp2_with (go_at_call 25; refine (hdi _).mono ?_; rintro e w' ⟨rfl, rfl⟩)
                  go_ret2
                  exact ⟨⟨0, by rw [HF.out]; rfl⟩, rfl⟩
                · have g1 : decide (9223372036854775807 < 10 * (n : Int) + ((s[i].toNat : Int) - 48)) = false := by simp; omega
                  go_wp2_with (go_at_call 25; refine (hdi _).mono ?_; rintro e w' ⟨rfl, rfl⟩)
                  go_round
                  case rel =>
                    refine ⟨i + 1, by omega, by go_num, ?_, by rw [HNX.out]; omega, fun j hj hji => ?_⟩
                    · rw [← E3.out]
                    · by_cases hji2 : j < i
                      · exact HA.out j hj hji2
                      · obtain rfl : j = i := by omega
                        exact h5
                  case measure => simp [intOf]; omega
          · have hie : i = s.size := by omega
            have hT : s.data.toList.take i = s.data.toList := List.take_of_length_le (by rw [HS.out]; omega)
            have HF : Hid (Lx.isInt s.data.toList = true) := by
              show Lx.isInt s.data.toList = true
              rw [hT] at hm
              rw [HI.out, HNZ.out, decide_eq_true hm, decide_eq_true (Lx.lead_eq Lx.digitI s.data.toList s.size (Nat.le_refl _) (by rw [← hie]; exact HA.out) (fun h => absurd h (Nat.lt_irrefl _)))]; rfl
            obtain ⟨n, hn⟩ : ∃ n, n = Lx.val (s.data.toList.take i) := ⟨_, rfl⟩
            rw [← hn] at hm ⊢
            clear hn hT
            go_wp2
            go_ret2
            exact ⟨⟨_, by rw [HF.out]; rfl⟩, rfl⟩
    · have HNZ : Hid (Lx.noZero s.data.toList = true) := by
        show Lx.noZero s.data.toList = true
        rw [HZ.out, decide_eq_false h1]; simp
      have hg : decide ((1 : Int) < (s.size : Int)) = false := by simp; omega
      clear HZ
      go_enter Tryd.func26, Tryd.ntmps26
      go_wp2_with fail
      go_loop [4, 5] (fun n t => ∃ i : Nat, i ≤ s.size ∧ t = .int .i64 i ∧ n = .int .u64 (Lx.val (s.data.toList.take i) : Nat) ∧ Lx.val (s.data.toList.take i) ≤ 9223372036854775807 ∧ ∀ j (hj : j < s.data.toList.length), j < i → Lx.digitI (s.data.toList[j].toNat : Int) = true) (fun _ t => s.size - (intOf t).toNat)
      case atStart => exact ⟨0, Nat.zero_le _, rfl, rfl, by simp [Lx.val], fun j _ h => absurd h (Nat.not_lt_zero _)⟩
      case round =>
        obtain ⟨i, hi, rfl, rfl, hm, hall⟩ := hrel
        have HA : Hid (_) := hall
        clear hall
        by_cases hlt : i < s.size
        · have hdi := rdigit_any (s[i].toNat : Int)
          have hgt := Lx.val_take_lt s.data.toList i (by rw [HS.out]; exact hlt)
          have hnx : Lx.val (s.data.toList.take (i + 1)) = 10 * Lx.val (s.data.toList.take i) + (s[i].toNat - 48) := by
            rw [List.take_succ_eq_append_getElem (by rw [HS.out]; exact hlt), Lx.val_snoc]; rfl
          have hle2 := Lx.val_take_le s.data.toList (i + 1)
          obtain ⟨n, hn⟩ : ∃ n, n = Lx.val (s.data.toList.take i) := ⟨_, rfl⟩
          rw [← hn] at hm hgt hnx ⊢
          have HNX : Hid (_) := hnx
          have HGT : Hid (_) := hgt
          have HL2 : Hid (_) := hle2
          clear hn hnx hgt hle2
          cases h5 : Lx.digitI (s[i].toNat : Int) with
          | false =>
            rw [h5] at hdi
            have HF : Hid (Lx.isInt s.data.toList = false) := by
              show Lx.isInt s.data.toList = false
              have : ¬ Lx.lead Lx.digitI s.data.toList = s.size := fun he => by
                have := Lx.lead_all Lx.digitI s.data.toList (by rw [HS.out]; exact he) _ (List.getElem_mem hlt)
                have e2 : s.data.toList[i]'hlt = s[i] := rfl
                rw [e2, h5] at this
                cases this
              rw [HI.out, decide_eq_false this]; simp
            go_wp2_with (go_at_call 25; refine (hdi _).mono ?_; rintro e w' ⟨rfl, rfl⟩)
            go_ret2
            exact ⟨⟨0, by rw [HF.out]; rfl⟩, rfl⟩
          | true =>
            rw [h5] at hdi
            have hd : 48 ≤ s[i].toNat ∧ s[i].toNat ≤ 57 := by
              simp [Lx.digitI] at h5; omega
            obtain ⟨d1, d2⟩ := hd
            by_cases hbig : 922337203685477580 < n
            · have HF : Hid (Lx.isInt s.data.toList = false) := by
                show Lx.isInt s.data.toList = false
                have := HGT.out
                rw [HI.out, decide_eq_false (show ¬ Lx.val s.data.toList ≤ 9223372036854775807 by omega)]; simp
              go_wp2_with (go_at_call 25; refine (hdi _).mono ?_; rintro e w' ⟨rfl, rfl⟩)
              go_ret2
              exact ⟨⟨0, by rw [HF.out]; rfl⟩, rfl⟩
            · have m1 : IntKind.u64.wrap (10 * (n : Int)) = 10 * (n : Int) := by rw [IntKind.wrap_u64]; omega
              have m2 : IntKind.u8.wrap ((s[i].toNat : Int) - 48) = (s[i].toNat : Int) - 48 := by rw [IntKind.wrap_u8]; omega
              have m4 : IntKind.u64.wrap ((s[i].toNat : Int) - 48) = (s[i].toNat : Int) - 48 := by rw [IntKind.wrap_u64]; omega
              have m3 : IntKind.u64.wrap (10 * (n : Int) + ((s[i].toNat : Int) - 48)) = 10 * (n : Int) + ((s[i].toNat : Int) - 48) := by rw [IntKind.wrap_u64]; omega
              have e3 : (10 * (n : Int) + ((s[i].toNat : Int) - 48)) = ((Lx.val (s.data.toList.take (i + 1)) : Nat) : Int) := by rw [HNX.out]; omega
              have E3 : Hid (_) := e3
              clear e3
              by_cases hmore : 9223372036854775807 < 10 * n + (s[i].toNat - 48)
              · have g1 : decide (9223372036854775807 < 10 * (n : Int) + ((s[i].toNat : Int) - 48)) = true := by simp; omega
                have HF : Hid (Lx.isInt s.data.toList = false) := by
                  show Lx.isInt s.data.toList = false
                  have h1 := HNX.out
                  have h2 := HL2.out
                  rw [HI.out, decide_eq_false (show ¬ Lx.val s.data.toList ≤ 9223372036854775807 by omega)]; simp
                go_wp2_with (go_at_call 25; refine (hdi _).mono ?_; rintro e w' ⟨rfl, rfl⟩)
                go_ret2
                exact ⟨⟨0, by rw [HF.out]; rfl⟩, rfl⟩
              · have g1 : decide (9223372036854775807 < 10 * (n : Int) + ((s[i].toNat : Int) - 48)) = false := by simp; omega
                go_wp2_with (go_at_call 25; refine (hdi _).mono ?_; rintro e w' ⟨rfl, rfl⟩)
                go_round
                case rel =>
                  refine ⟨i + 1, by omega, by go_num, ?_, by rw [HNX.out]; omega, fun j hj hji => ?_⟩
                  · rw [← E3.out]
                  · by_cases hji2 : j < i
                    · exact HA.out j hj hji2
                    · obtain rfl : j = i := by omega
                      exact h5
                case measure => simp [intOf]; omega
        · have hie : i = s.size := by omega
          have hT : s.data.toList.take i = s.data.toList := List.take_of_length_le (by rw [HS.out]; omega)
          have HF : Hid (Lx.isInt s.data.toList = true) := by
            show Lx.isInt s.data.toList = true
            rw [hT] at hm
            rw [HI.out, HNZ.out, decide_eq_true hm, decide_eq_true (Lx.lead_eq Lx.digitI s.data.toList s.size (Nat.le_refl _) (by rw [← hie]; exact HA.out) (fun h => absurd h (Nat.lt_irrefl _)))]; rfl
          obtain ⟨n, hn⟩ : ∃ n, n = Lx.val (s.data.toList.take i) := ⟨_, rfl⟩
          rw [← hn] at hm ⊢
          clear hn hT
          go_wp2
          go_ret2
          exact ⟨⟨_, by rw [HF.out]; rfl⟩, rfl⟩

end Go.Proofs.YtkiafelpgcmifaaDoor
