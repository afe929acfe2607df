/-
  Several texts in one, as they are: LxAwake, LxRef, LxRef2, LxRefNum.
-/
import Derived.Test.YtfegodofbdlbeaaGreatDoorLexTok
import Derived.Test.YtfegodofbdlbeaaGreatDoorBaseAll

/-
  The walk of clerestorylaw05.awake: the chapter's examples are as they must be.
-/
namespace Go.Proofs.YtfegodofbdlbeaaGreatDoor
open Go.RowKit Go.Shelf

attribute [local go_sem] Oper.semAt_some

theorem SignsAt.at {w W : World} (h : SignsAt w.heap.size w) (hb : Below w.heap.size w W) : SignsAt W.heap.size W := (h.keep hb).mono hb.size

end Go.Proofs.YtfegodofbdlbeaaGreatDoor

/-
  The walks of the document's answers of chapter 5: letters, digits, blanks, words, names, numbers.
-/
namespace Go.Proofs.YtfegodofbdlbeaaGreatDoor
open Go.RowKit

set_option maxRecDepth 100000 in
set_option maxHeartbeats 1000000 in
theorem rletter_any (c : Int) (w : World) :
    Calls Tryz.prog 30 #[.int .u8 c] w fun e w' => e = .returned (.bool (Lx.letterI c)) ∧ w' = w := by
  go_enter Tryz.func30, Tryz.ntmps30
  go_wp2
  all_goals go_ret
  all_goals refine ⟨ret_bool ?_, rfl⟩
  all_goals unfold Lx.letterI
  all_goals first | rfl | (rw [Bool.eq_iff_iff]; simp; try omega)

set_option maxRecDepth 100000 in
set_option maxHeartbeats 1000000 in
theorem rdigit_any (c : Int) (w : World) :
    Calls Tryz.prog 31 #[.int .u8 c] w fun e w' => e = .returned (.bool (Lx.digitI c)) ∧ w' = w := by
  go_enter Tryz.func31, Tryz.ntmps31
  go_wp2
  all_goals go_ret
  all_goals refine ⟨ret_bool ?_, rfl⟩
  all_goals unfold Lx.digitI
  all_goals first | rfl | (rw [Bool.eq_iff_iff]; simp; try omega)

set_option maxRecDepth 100000 in
set_option maxHeartbeats 1000000 in
theorem rblank_any (c : Int) (w : World) :
    Calls Tryz.prog 28 #[.int .u8 c] w fun e w' => e = .returned (.bool (Lx.blankI c)) ∧ w' = w := by
  go_enter Tryz.func28, Tryz.ntmps28
  go_wp2
  all_goals go_ret
  all_goals refine ⟨ret_bool ?_, rfl⟩
  all_goals unfold Lx.blankI
  all_goals first | rfl | (rw [Bool.eq_iff_iff]; simp; try omega)

set_option maxRecDepth 100000 in
set_option maxHeartbeats 2000000 in
theorem one_any (L : List (List UInt8)) (v : Value) (m : Nat) (x : ByteArray) (w : World) (hrow : RowLow m w v L) (hL : L.length ≤ 1000000) :
    Calls Tryz.prog 33 #[.string x, v] w fun e w' => e = .returned (.bool (has L x.data.toList)) ∧ w' = w := by
  obtain ⟨ao, cap, b, off, rfl, -, hao, hc⟩ := hrow.parts
  clear hrow
  have HC : Hid (_) := hc
  clear hc
  go_enter Tryz.func33, Tryz.ntmps33
  go_wp2_with fail
  go_loop [5] (fun t => ∃ i : Nat, i ≤ L.length ∧ t = .int .i64 i ∧ ∀ j y, L[j]? = some y → j < i → y ≠ x.data.toList) (fun t => L.length - (intOf t).toNat)
  case atStart => exact ⟨0, Nat.zero_le _, rfl, fun j _ _ h => absurd h (Nat.not_lt_zero _)⟩
  case round =>
    obtain ⟨i, hi, rfl, hall⟩ := hrel
    have HA : Hid (_) := hall
    clear hall
    by_cases hlt : i < L.length
    · obtain ⟨y, hy⟩ : ∃ y, L[i]? = some y := ⟨L[i], List.getElem?_eq_getElem hlt⟩
      obtain ⟨rfl, -⟩ := hao (by omega)
      have g1 := HC.out i y hy
      have HY : Hid (_) := hy
      clear hy
      have hbq : (((Ln.bs y).toList == x.toList)) = decide (y = x.data.toList) := bs_beq y x.data.toList
      by_cases he : y = x.data.toList
      · have h1 : ((Ln.bs y).toList == x.toList) = true := by rw [hbq]; exact decide_eq_true he
        have HE : Hid (_) := he
        clear he hbq
        go_wp2
        go_ret
        refine ⟨ret_bool ?_, rfl⟩
        unfold has
        rw [← HE.out]
        symm
        rw [List.contains_iff_mem]
        exact List.mem_of_getElem? HY.out
      · have h1 : ((Ln.bs y).toList == x.toList) = false := by rw [hbq]; exact decide_eq_false he
        have HE : Hid (_) := he
        clear he hbq
        go_wp2
        go_round
        case rel =>
          refine ⟨i + 1, by omega, by go_num, fun j z hz hji => ?_⟩
          by_cases hji2 : j < i
          · exact HA.out j z hz hji2
          · obtain rfl : j = i := by omega
            rw [HY.out] at hz
            cases hz
            exact HE.out
        case measure => simp [intOf]; omega
    · have hie : i = L.length := by omega
      subst hie
      clear hao
      go_wp2
      go_ret
      refine ⟨ret_bool ?_, rfl⟩
      unfold has
      symm
      rw [Bool.eq_false_iff]
      intro hm
      rw [List.contains_iff_mem] at hm
      obtain ⟨j, hj⟩ := List.mem_iff_getElem?.1 hm
      exact HA.out j _ hj (List.getElem?_eq_some_iff.1 hj).1 rfl

set_option maxRecDepth 100000 in
set_option maxHeartbeats 1000000 in
theorem rwords_any (w : World) :
    Calls Tryz.prog 34 #[] w fun e w' => ∃ v, e = .returned v ∧ RowLow w'.heap.size w' v Lx.words ∧ Below w.heap.size w w' := by
  go_enter Tryz.func34, Tryz.ntmps34
  go_wp2
  go_ret
  exact ⟨_, rfl, CellsLow.lit w (Lx.words.map txtV) 9 11, below_nw w _⟩

set_option maxRecDepth 100000 in
set_option maxHeartbeats 2000000 in
theorem rname_any (s : ByteArray) (hs : s.size ≤ maxLen) (w : World) :
    Calls Tryz.prog 35 #[.string s] w fun e w' => e = .returned (.bool (Lx.isName s.data.toList)) ∧ Below w.heap.size w w' := by
  have HS : Hid (s.data.toList.length = s.size) := rfl
  have ht : s.toList = s.data.toList := Lib.toList_data s
  by_cases h0 : s.size = 0
  · have hs : s = ⟨#[]⟩ := str_empty s h0
    subst hs
    clear ht HS h0
    go_enter Tryz.func35, Tryz.ntmps35
    go_wp2
    go_ret
    exact ⟨rfl, Below.refl _ _⟩
  · obtain ⟨n1, n2, n3⟩ := str_some s (by omega)
    obtain ⟨b, r, hbr⟩ : ∃ b r, s.data.toList = b :: r := by
      cases h : s.data.toList with
      | nil => rw [ht] at n1; exact absurd h n1
      | cons b r => exact ⟨b, r, rfl⟩
    have hp : 0 < s.size := by omega
    have hb0 : s[0] = b := by
      have : s[0] = s.data.toList[0]'hp := rfl
      rw [this]; simp [hbr]
    have HSP : Hid (Lx.isName s.data.toList = (decide (s.size ≤ 24) && Lx.letterI (s[0].toNat : Int) && decide (Lx.lead Lx.ldI s.data.toList = s.size) && !has Lx.words s.data.toList)) := by
      show Lx.isName s.data.toList = _
      unfold Lx.isName Lx.spelled
      rw [HS.out, hb0]
      simp only [hbr]
      rfl
    have hl := rletter_any (s[0].toNat : Int)
    have hs1 : s.size ≤ 9223372036854775807 := hs
    clear hbr hb0 ht
    by_cases h1 : s.size ≤ 24
    · have h1' : decide (24 < s.size) = false := by simp; omega
      cases h2 : Lx.letterI (s[0].toNat : Int) with
      | true =>
        rw [h2] at hl
        cases h3 : has Lx.words s.data.toList with
        | true =>
          go_enter Tryz.func35, Tryz.ntmps35
          go_wp2_with fail
          refine (hl _).mono ?_
          rintro e w' ⟨rfl, rfl⟩
          go_wp2_with fail
          refine (rwords_any _).mono ?_
          rintro e w1 ⟨v, rfl, hrow, hb⟩
          have CT : Hid (_) := one_any _ _ _ s w1 hrow (by decide)
          rw [h3] at CT
          obtain ⟨va, vc, vb, vd, rfl, -, -, -⟩ := hrow.parts
          have HB : Hid (_) := hb
          clear hrow hb
          go_wp2_with fail
          refine Calls.mono CT.out ?_
          rintro e w2 ⟨rfl, rfl⟩
          go_wp2
          go_ret
          refine ⟨ret_bool ?_, HB.out⟩
          rw [HSP.out, h3]
          simp
        | false =>
          go_enter Tryz.func35, Tryz.ntmps35
          go_wp2_with fail
          refine (hl _).mono ?_
          rintro e w' ⟨rfl, rfl⟩
          go_wp2_with fail
          refine (rwords_any _).mono ?_
          rintro e w1 ⟨v, rfl, hrow, hb⟩
          have CT : Hid (_) := one_any _ _ _ s w1 hrow (by decide)
          rw [h3] at CT
          obtain ⟨va, vc, vb, vd, rfl, -, -, -⟩ := hrow.parts
          have HB : Hid (_) := hb
          clear hrow hb
          go_wp2_with fail
          refine Calls.mono CT.out ?_
          rintro e w2 ⟨rfl, rfl⟩
          have H23 : Hid (Lx.isName s.data.toList = decide (Lx.lead Lx.ldI s.data.toList = s.size)) := by
            show Lx.isName s.data.toList = _
            rw [HSP.out, h2, h3, decide_eq_true h1]; simp
          clear CT HSP h3
          go_wp2_with fail
          go_loop [3] (fun t => ∃ i : Nat, i ≤ s.size ∧ t = .int .i64 i ∧ ∀ j (hj : j < s.data.toList.length), j < i → Lx.ldI (s.data.toList[j].toNat : Int) = true) (fun t => s.size - (intOf t).toNat)
          case atStart => exact ⟨0, Nat.zero_le _, rfl, fun j _ h => absurd h (Nat.not_lt_zero _)⟩
          case round =>
            obtain ⟨i, hi, rfl, hall⟩ := hrel
            have HA : Hid (_) := hall
            clear hall hl h2
            by_cases hlt : i < s.size
            · have hle := rletter_any (s[i].toNat : Int)
              have hdi := rdigit_any (s[i].toNat : Int)
              have HI : Hid (∀ h : i < s.data.toList.length, s.data.toList[i] = s[i]) := fun _ => rfl
              have fin : Hid (Lx.ldI (s[i].toNat : Int) = false → decide (Lx.lead Lx.ldI s.data.toList = s.size) = false) := fun hf => by
                rw [decide_eq_false_iff_not]
                intro he
                have := Lx.lead_all Lx.ldI s.data.toList (by rw [HS.out]; exact he) _ (List.getElem_mem hlt)
                have e2 : s.data.toList[i]'hlt = s[i] := rfl
                rw [e2, hf] at this
                cases this
              have nxt : Hid (Lx.ldI (s[i].toNat : Int) = true → ∀ j (hj : j < s.data.toList.length), j < i + 1 → Lx.ldI (s.data.toList[j].toNat : Int) = true) := fun hf j hj hji => by
                by_cases hji2 : j < i
                · exact HA.out j hj hji2
                · obtain rfl : j = i := by omega
                  exact hf
              cases h4 : Lx.letterI (s[i].toNat : Int) with
              | true =>
                rw [h4] at hle
                go_wp2_with (go_at_call 30; refine (hle _).mono ?_; rintro e w' ⟨rfl, rfl⟩)
                go_round
                case rel => exact ⟨i + 1, by omega, by go_num, nxt.out (by simp [Lx.ldI, h4])⟩
                case measure => simp [intOf]; omega
              | false =>
                rw [h4] at hle
                cases h5 : Lx.digitI (s[i].toNat : Int) with
                | true =>
                  rw [h5] at hdi
                  go_wp2_with (first
                    | (go_at_call 30; refine (hle _).mono ?_; rintro e w' ⟨rfl, rfl⟩)
                    | (go_at_call 31; refine (hdi _).mono ?_; rintro e w' ⟨rfl, rfl⟩))
                  go_round
                  case rel => exact ⟨i + 1, by omega, by go_num, nxt.out (by simp [Lx.ldI, h5])⟩
                  case measure => simp [intOf]; omega
                | false =>
                  rw [h5] at hdi
                  go_wp2_with (first
                    | (go_at_call 30; refine (hle _).mono ?_; rintro e w' ⟨rfl, rfl⟩)
                    | (go_at_call 31; refine (hdi _).mono ?_; rintro e w' ⟨rfl, rfl⟩))
                  go_ret
                  exact ⟨ret_bool (by rw [H23.out, fin.out (by simp [Lx.ldI, h4, h5])]), HB.out⟩
            · have hie : i = s.size := by omega
              go_wp2
              go_ret
              refine ⟨ret_bool ?_, HB.out⟩
              rw [H23.out]
              symm
              rw [decide_eq_true_iff]
              exact Lx.lead_eq Lx.ldI s.data.toList s.size (Nat.le_refl _) (by rw [← hie]; exact HA.out) (fun h => absurd h (Nat.lt_irrefl _))
      | false =>
        rw [h2] at hl
        go_enter Tryz.func35, Tryz.ntmps35
        go_wp2_with (go_at_call 30; refine (hl _).mono ?_; rintro e w' ⟨rfl, rfl⟩)
        go_ret
        refine ⟨ret_bool ?_, Below.refl _ _⟩
        rw [HSP.out, h2]
        simp
    · have h1' : decide (24 < s.size) = true := by simp; omega
      go_enter Tryz.func35, Tryz.ntmps35
      go_wp2
      go_ret
      refine ⟨ret_bool ?_, Below.refl _ _⟩
      rw [HSP.out, decide_eq_false h1]
      simp

end Go.Proofs.YtfegodofbdlbeaaGreatDoor

/-
  The walks of the document's answers of chapter 5: numbers, what begins where, the signs.
-/
namespace Go.Proofs.YtfegodofbdlbeaaGreatDoor
open Go.RowKit

set_option maxRecDepth 100000 in
set_option maxHeartbeats 1000000 in
theorem rsigns_any (w : World) :
    Calls Tryz.prog 36 #[] w fun e w' => ∃ v, e = .returned v ∧ RowLow w'.heap.size w' v Lx.signs ∧ Below w.heap.size w w' := by
  go_enter Tryz.func36, Tryz.ntmps36
  go_wp2
  go_ret
  exact ⟨_, rfl, CellsLow.lit w (Lx.signs.map txtV) 9 23, below_nw w _⟩

theorem part_eq (s p : ByteArray) (k : Nat) : ((s.extract k (k + p.size)).toList == p.toList) = pre p.data.toList (s.data.toList.drop k) := by
  unfold pre
  rw [Lib.toList_data, Lib.toList_data, extract_part]
  have hl : p.data.toList.length = p.size := rfl
  rw [Bool.eq_iff_iff, beq_iff_eq, List.isPrefixOf_iff_prefix, List.prefix_iff_eq_take, hl]
  exact ⟨fun h => h.symm, fun h => h.symm⟩

set_option maxRecDepth 100000 in
set_option maxHeartbeats 1000000 in
theorem begins_any (s p : ByteArray) (k : Nat) (hk : k ≤ s.size) (hs : s.size ≤ 1000000) (hp : p.size ≤ 1000000) (w : World) :
    Calls Tryz.prog 29 #[.string s, .int .i64 k, .string p] w fun e w' => e = .returned (.bool (pre p.data.toList (s.data.toList.drop k))) ∧ w' = w := by
  have h3 : s.data.toList.length = s.size := rfl
  have h2 : p.data.toList.length = p.size := rfl
  have hsub : IntKind.i64.wrap ((s.size : Int) - (k : Int)) = (s.size : Int) - (k : Int) := by rw [IntKind.wrap_i64]; omega
  have hadd : IntKind.i64.wrap ((k : Int) + (p.size : Int)) = (k : Int) + (p.size : Int) := by rw [IntKind.wrap_i64]; omega
  by_cases h : k + p.size ≤ s.size
  · have HE : Hid (_) := part_eq s p k
    have hg : decide ((p.size : Int) ≤ (s.size : Int) - (k : Int)) = true := by simp; omega
    clear h3 h2
    go_enter Tryz.func29, Tryz.ntmps29
    go_wp2
    go_ret
    exact ⟨ret_bool HE.out, rfl⟩
  · have HE : Hid (pre p.data.toList (s.data.toList.drop k) = false) := by
      show pre p.data.toList (s.data.toList.drop k) = false
      cases hq : pre p.data.toList (s.data.toList.drop k) with
      | false => rfl
      | true => exact absurd (pre_len hk hq).1 h
    have hg : decide ((p.size : Int) ≤ (s.size : Int) - (k : Int)) = false := by simp; omega
    clear h3 h2
    go_enter Tryz.func29, Tryz.ntmps29
    go_wp2
    go_ret
    exact ⟨ret_bool HE.out.symm, rfl⟩

set_option maxRecDepth 100000 in
set_option maxHeartbeats 2000000 in
theorem number_any (s : ByteArray) (hs : s.size ≤ 1000000) (w : World) :
    Calls Tryz.prog 32 #[.string s] w fun e w' => (∃ v : Int, e = .returned (.tuple #[.int .i64 v, .bool (Lx.isInt s.data.toList)])) ∧ w' = w := by
  have HS : Hid (s.data.toList.length = s.size) := rfl
  by_cases h0 : s.size = 0
  · have hs : s = ⟨#[]⟩ := str_empty s h0
    subst hs
    clear HS h0
    go_enter Tryz.func32, Tryz.ntmps32
    go_wp2
    go_ret2
    exact ⟨⟨0, rfl⟩, rfl⟩
  · obtain ⟨n1, n2, n3⟩ := str_some s (by omega)
    have ht : s.toList = s.data.toList := Lib.toList_data s
    obtain ⟨b, r, hbr⟩ : ∃ b r, s.data.toList = b :: r := by
      cases h : s.data.toList with
      | nil => rw [ht] at n1; exact absurd h n1
      | cons b r => exact ⟨b, r, rfl⟩
    have hp : 0 < s.size := by omega
    have hb0 : s[0] = b := by
      have : s[0] = s.data.toList[0]'hp := rfl
      rw [this]; simp [hbr]
    have HI : Hid (Lx.isInt s.data.toList = (Lx.noZero s.data.toList && decide (Lx.lead Lx.digitI s.data.toList = s.size) && decide (Lx.val s.data.toList ≤ 9223372036854775807))) := by
      show Lx.isInt s.data.toList = _
      rw [← HS.out, hbr]; exact isInt_cons b r
    have HZ : Hid (Lx.noZero s.data.toList = !(decide (1 < s.size) && ((s[0].toNat : Int) == 48))) := by
      show Lx.noZero s.data.toList = _
      cases r with
      | nil =>
        have h1 : s.size = 1 := by rw [← HS.out, hbr]; rfl
        rw [hbr, decide_eq_false (by omega)]; rfl
      | cons c q =>
        have h1 : 1 < s.size := by rw [← HS.out, hbr]; simp
        rw [hb0, hbr, decide_eq_true h1]
        show (b != 48) = _
        rw [Bool.eq_iff_iff]
        simp only [bne_iff_ne, ne_eq, Bool.true_and, Bool.not_eq_true', beq_eq_false_iff_ne]
        constructor
        · intro h e; apply h; apply UInt8.toNat_inj.1; have : (48 : UInt8).toNat = 48 := rfl; omega
        · intro h e; apply h; rw [e]; rfl
    clear hbr hb0 ht
    by_cases h1 : 1 < s.size
    · cases h4 : ((s[0].toNat : Int) == 48) with
      | true =>
        have HF : Hid (Lx.isInt s.data.toList = false) := by
          show Lx.isInt s.data.toList = false
          rw [HI.out, HZ.out, h4, decide_eq_true h1]; simp
        clear HI HZ
        go_enter Tryz.func32, Tryz.ntmps32
        go_wp2
        go_ret2
        exact ⟨⟨0, by rw [HF.out]; rfl⟩, rfl⟩
      | false =>
        have HNZ : Hid (Lx.noZero s.data.toList = true) := by
          show Lx.noZero s.data.toList = true
          rw [HZ.out, h4]; simp
        clear HZ
        go_enter Tryz.func32, Tryz.ntmps32
        go_wp2_with fail
        go_loop [4, 5] (fun n t => ∃ i : Nat, i ≤ s.size ∧ t = .int .i64 i ∧ n = .int .u64 (Lx.val (s.data.toList.take i) : Nat) ∧ Lx.val (s.data.toList.take i) ≤ 9223372036854775807 ∧ ∀ j (hj : j < s.data.toList.length), j < i → Lx.digitI (s.data.toList[j].toNat : Int) = true) (fun _ t => s.size - (intOf t).toNat)
        case atStart => exact ⟨0, Nat.zero_le _, rfl, rfl, by simp [Lx.val], fun j _ h => absurd h (Nat.not_lt_zero _)⟩
        case round =>
          obtain ⟨i, hi, rfl, rfl, hm, hall⟩ := hrel
          have HA : Hid (_) := hall
          clear hall
          by_cases hlt : i < s.size
          · have hdi := rdigit_any (s[i].toNat : Int)
            have hgt := Lx.val_take_lt s.data.toList i (by rw [HS.out]; exact hlt)
            have hnx : Lx.val (s.data.toList.take (i + 1)) = 10 * Lx.val (s.data.toList.take i) + (s[i].toNat - 48) := by
              rw [List.take_succ_eq_append_getElem (by rw [HS.out]; exact hlt), Lx.val_snoc]; rfl
            have hle2 := Lx.val_take_le s.data.toList (i + 1)
            obtain ⟨n, hn⟩ : ∃ n, n = Lx.val (s.data.toList.take i) := ⟨_, rfl⟩
            rw [← hn] at hm hgt hnx ⊢
            have HNX : Hid (_) := hnx
            have HGT : Hid (_) := hgt
            have HL2 : Hid (_) := hle2
            clear hn hnx hgt hle2
            cases h5 : Lx.digitI (s[i].toNat : Int) with
            | false =>
              rw [h5] at hdi
              have HF : Hid (Lx.isInt s.data.toList = false) := by
                show Lx.isInt s.data.toList = false
                have : ¬ Lx.lead Lx.digitI s.data.toList = s.size := fun he => by
                  have := Lx.lead_all Lx.digitI s.data.toList (by rw [HS.out]; exact he) _ (List.getElem_mem hlt)
                  have e2 : s.data.toList[i]'hlt = s[i] := rfl
                  rw [e2, h5] at this
                  cases this
                rw [HI.out, decide_eq_false this]; simp
              go_wp2_with (go_at_call 31; refine (hdi _).mono ?_; rintro e w' ⟨rfl, rfl⟩)
              go_ret2
              exact ⟨⟨0, by rw [HF.out]; rfl⟩, rfl⟩
            | true =>
              rw [h5] at hdi
              have hd : 48 ≤ s[i].toNat ∧ s[i].toNat ≤ 57 := by
                simp [Lx.digitI] at h5; omega
              obtain ⟨d1, d2⟩ := hd
              by_cases hbig : 922337203685477580 < n
              · have HF : Hid (Lx.isInt s.data.toList = false) := by
                  show Lx.isInt s.data.toList = false
                  have := HGT.out
                  rw [HI.out, decide_eq_false (show ¬ Lx.val s.data.toList ≤ 9223372036854775807 by omega)]; simp
                go_wp2_with (go_at_call 31; refine (hdi _).mono ?_; rintro e w' ⟨rfl, rfl⟩)
                go_ret2
                exact ⟨⟨0, by rw [HF.out]; rfl⟩, rfl⟩
              · have m1 : IntKind.u64.wrap (10 * (n : Int)) = 10 * (n : Int) := by rw [IntKind.wrap_u64]; omega
                have m2 : IntKind.u8.wrap ((s[i].toNat : Int) - 48) = (s[i].toNat : Int) - 48 := by rw [IntKind.wrap_u8]; omega
                have m4 : IntKind.u64.wrap ((s[i].toNat : Int) - 48) = (s[i].toNat : Int) - 48 := by rw [IntKind.wrap_u64]; omega
                have m3 : IntKind.u64.wrap (10 * (n : Int) + ((s[i].toNat : Int) - 48)) = 10 * (n : Int) + ((s[i].toNat : Int) - 48) := by rw [IntKind.wrap_u64]; omega
                have e3 : (10 * (n : Int) + ((s[i].toNat : Int) - 48)) = ((Lx.val (s.data.toList.take (i + 1)) : Nat) : Int) := by rw [HNX.out]; omega
                have E3 : Hid (_) := e3
                clear e3
                by_cases hmore : 9223372036854775807 < 10 * n + (s[i].toNat - 48)
                · have g1 : decide (9223372036854775807 < 10 * (n : Int) + ((s[i].toNat : Int) - 48)) = true := by simp; omega
                  have HF : Hid (Lx.isInt s.data.toList = false) := by
                    show Lx.isInt s.data.toList = false
                    have h1 := HNX.out
                    have h2 := HL2.out
                    rw [HI.out, decide_eq_false (show ¬ Lx.val s.data.toList ≤ 9223372036854775807 by omega)]; simp
                  go_wp2_with (go_at_call 31; refine (hdi _).mono ?_; rintro e w' ⟨rfl, rfl⟩)
                  go_ret2
                  exact ⟨⟨0, by rw [HF.out]; rfl⟩, rfl⟩
                · have g1 : decide (9223372036854775807 < 10 * (n : Int) + ((s[i].toNat : Int) - 48)) = false := by simp; omega
                  go_wp2_with (go_at_call 31; refine (hdi _).mono ?_; rintro e w' ⟨rfl, rfl⟩)
                  go_round
                  case rel =>
                    refine ⟨i + 1, by omega, by go_num, ?_, by rw [HNX.out]; omega, fun j hj hji => ?_⟩
                    · rw [← E3.out]
                    · by_cases hji2 : j < i
                      · exact HA.out j hj hji2
                      · obtain rfl : j = i := by omega
                        exact h5
                  case measure => simp [intOf]; omega
          · have hie : i = s.size := by omega
            have hT : s.data.toList.take i = s.data.toList := List.take_of_length_le (by rw [HS.out]; omega)
            have HF : Hid (Lx.isInt s.data.toList = true) := by
              show Lx.isInt s.data.toList = true
              rw [hT] at hm
              rw [HI.out, HNZ.out, decide_eq_true hm, decide_eq_true (Lx.lead_eq Lx.digitI s.data.toList s.size (Nat.le_refl _) (by rw [← hie]; exact HA.out) (fun h => absurd h (Nat.lt_irrefl _)))]; rfl
            obtain ⟨n, hn⟩ : ∃ n, n = Lx.val (s.data.toList.take i) := ⟨_, rfl⟩
            rw [← hn] at hm ⊢
            clear hn hT
            go_wp2
            go_ret2
            exact ⟨⟨_, by rw [HF.out]; rfl⟩, rfl⟩
    · have HNZ : Hid (Lx.noZero s.data.toList = true) := by
        show Lx.noZero s.data.toList = true
        rw [HZ.out, decide_eq_false h1]; simp
      have hg : decide ((1 : Int) < (s.size : Int)) = false := by simp; omega
      clear HZ
      go_enter Tryz.func32, Tryz.ntmps32
      go_wp2_with fail
      go_loop [4, 5] (fun n t => ∃ i : Nat, i ≤ s.size ∧ t = .int .i64 i ∧ n = .int .u64 (Lx.val (s.data.toList.take i) : Nat) ∧ Lx.val (s.data.toList.take i) ≤ 9223372036854775807 ∧ ∀ j (hj : j < s.data.toList.length), j < i → Lx.digitI (s.data.toList[j].toNat : Int) = true) (fun _ t => s.size - (intOf t).toNat)
      case atStart => exact ⟨0, Nat.zero_le _, rfl, rfl, by simp [Lx.val], fun j _ h => absurd h (Nat.not_lt_zero _)⟩
      case round =>
        obtain ⟨i, hi, rfl, rfl, hm, hall⟩ := hrel
        have HA : Hid (_) := hall
        clear hall
        by_cases hlt : i < s.size
        · have hdi := rdigit_any (s[i].toNat : Int)
          have hgt := Lx.val_take_lt s.data.toList i (by rw [HS.out]; exact hlt)
          have hnx : Lx.val (s.data.toList.take (i + 1)) = 10 * Lx.val (s.data.toList.take i) + (s[i].toNat - 48) := by
            rw [List.take_succ_eq_append_getElem (by rw [HS.out]; exact hlt), Lx.val_snoc]; rfl
          have hle2 := Lx.val_take_le s.data.toList (i + 1)
          obtain ⟨n, hn⟩ : ∃ n, n = Lx.val (s.data.toList.take i) := ⟨_, rfl⟩
          rw [← hn] at hm hgt hnx ⊢
          have HNX : Hid (_) := hnx
          have HGT : Hid (_) := hgt
          have HL2 : Hid (_) := hle2
          clear hn hnx hgt hle2
          cases h5 : Lx.digitI (s[i].toNat : Int) with
          | false =>
            rw [h5] at hdi
            have HF : Hid (Lx.isInt s.data.toList = false) := by
              show Lx.isInt s.data.toList = false
              have : ¬ Lx.lead Lx.digitI s.data.toList = s.size := fun he => by
                have := Lx.lead_all Lx.digitI s.data.toList (by rw [HS.out]; exact he) _ (List.getElem_mem hlt)
                have e2 : s.data.toList[i]'hlt = s[i] := rfl
                rw [e2, h5] at this
                cases this
              rw [HI.out, decide_eq_false this]; simp
            go_wp2_with (go_at_call 31; refine (hdi _).mono ?_; rintro e w' ⟨rfl, rfl⟩)
            go_ret2
            exact ⟨⟨0, by rw [HF.out]; rfl⟩, rfl⟩
          | true =>
            rw [h5] at hdi
            have hd : 48 ≤ s[i].toNat ∧ s[i].toNat ≤ 57 := by
              simp [Lx.digitI] at h5; omega
            obtain ⟨d1, d2⟩ := hd
            by_cases hbig : 922337203685477580 < n
            · have HF : Hid (Lx.isInt s.data.toList = false) := by
                show Lx.isInt s.data.toList = false
                have := HGT.out
                rw [HI.out, decide_eq_false (show ¬ Lx.val s.data.toList ≤ 9223372036854775807 by omega)]; simp
              go_wp2_with (go_at_call 31; refine (hdi _).mono ?_; rintro e w' ⟨rfl, rfl⟩)
              go_ret2
              exact ⟨⟨0, by rw [HF.out]; rfl⟩, rfl⟩
            · have m1 : IntKind.u64.wrap (10 * (n : Int)) = 10 * (n : Int) := by rw [IntKind.wrap_u64]; omega
              have m2 : IntKind.u8.wrap ((s[i].toNat : Int) - 48) = (s[i].toNat : Int) - 48 := by rw [IntKind.wrap_u8]; omega
              have m4 : IntKind.u64.wrap ((s[i].toNat : Int) - 48) = (s[i].toNat : Int) - 48 := by rw [IntKind.wrap_u64]; omega
              have m3 : IntKind.u64.wrap (10 * (n : Int) + ((s[i].toNat : Int) - 48)) = 10 * (n : Int) + ((s[i].toNat : Int) - 48) := by rw [IntKind.wrap_u64]; omega
              have e3 : (10 * (n : Int) + ((s[i].toNat : Int) - 48)) = ((Lx.val (s.data.toList.take (i + 1)) : Nat) : Int) := by rw [HNX.out]; omega
              have E3 : Hid (_) := e3
              clear e3
              by_cases hmore : 9223372036854775807 < 10 * n + (s[i].toNat - 48)
              · have g1 : decide (9223372036854775807 < 10 * (n : Int) + ((s[i].toNat : Int) - 48)) = true := by simp; omega
                have HF : Hid (Lx.isInt s.data.toList = false) := by
                  show Lx.isInt s.data.toList = false
                  have h1 := HNX.out
                  have h2 := HL2.out
                  rw [HI.out, decide_eq_false (show ¬ Lx.val s.data.toList ≤ 9223372036854775807 by omega)]; simp
                go_wp2_with (go_at_call 31; refine (hdi _).mono ?_; rintro e w' ⟨rfl, rfl⟩)
                go_ret2
                exact ⟨⟨0, by rw [HF.out]; rfl⟩, rfl⟩
              · have g1 : decide (9223372036854775807 < 10 * (n : Int) + ((s[i].toNat : Int) - 48)) = false := by simp; omega
                go_wp2_with (go_at_call 31; refine (hdi _).mono ?_; rintro e w' ⟨rfl, rfl⟩)
                go_round
                case rel =>
                  refine ⟨i + 1, by omega, by go_num, ?_, by rw [HNX.out]; omega, fun j hj hji => ?_⟩
                  · rw [← E3.out]
                  · by_cases hji2 : j < i
                    · exact HA.out j hj hji2
                    · obtain rfl : j = i := by omega
                      exact h5
                case measure => simp [intOf]; omega
        · have hie : i = s.size := by omega
          have hT : s.data.toList.take i = s.data.toList := List.take_of_length_le (by rw [HS.out]; omega)
          have HF : Hid (Lx.isInt s.data.toList = true) := by
            show Lx.isInt s.data.toList = true
            rw [hT] at hm
            rw [HI.out, HNZ.out, decide_eq_true hm, decide_eq_true (Lx.lead_eq Lx.digitI s.data.toList s.size (Nat.le_refl _) (by rw [← hie]; exact HA.out) (fun h => absurd h (Nat.lt_irrefl _)))]; rfl
          obtain ⟨n, hn⟩ : ∃ n, n = Lx.val (s.data.toList.take i) := ⟨_, rfl⟩
          rw [← hn] at hm ⊢
          clear hn hT
          go_wp2
          go_ret2
          exact ⟨⟨_, by rw [HF.out]; rfl⟩, rfl⟩

end Go.Proofs.YtfegodofbdlbeaaGreatDoor

/-
  The walk of the document's Number once more: with the number that it tells.
-/
namespace Go.Proofs.YtfegodofbdlbeaaGreatDoor
open Go.RowKit

set_option maxRecDepth 100000 in
set_option maxHeartbeats 2000000 in
theorem numval_any (s : ByteArray) (hs : s.size ≤ 1000000) (w : World) :
    Calls Tryz.prog 32 #[.string s] w fun e w' => (∃ v : Int, e = .returned (.tuple #[.int .i64 v, .bool (Lx.isInt s.data.toList)]) ∧ (Lx.isInt s.data.toList = true → v = (Lx.val s.data.toList : Nat))) ∧ w' = w := by
  have HS : Hid (s.data.toList.length = s.size) := rfl
  by_cases h0 : s.size = 0
  · have hs : s = ⟨#[]⟩ := str_empty s h0
    subst hs
    clear HS h0
    go_enter Tryz.func32, Tryz.ntmps32
    go_wp2
    go_ret2
    exact ⟨⟨0, rfl, fun h9 => by cases h9⟩, rfl⟩
  · obtain ⟨n1, n2, n3⟩ := str_some s (by omega)
    have ht : s.toList = s.data.toList := Lib.toList_data s
    obtain ⟨b, r, hbr⟩ : ∃ b r, s.data.toList = b :: r := by
      cases h : s.data.toList with
      | nil => rw [ht] at n1; exact absurd h n1
      | cons b r => exact ⟨b, r, rfl⟩
    have hp : 0 < s.size := by omega
    have hb0 : s[0] = b := by
      have : s[0] = s.data.toList[0]'hp := rfl
      rw [this]; simp [hbr]
    have HI : Hid (Lx.isInt s.data.toList = (Lx.noZero s.data.toList && decide (Lx.lead Lx.digitI s.data.toList = s.size) && decide (Lx.val s.data.toList ≤ 9223372036854775807))) := by
      show Lx.isInt s.data.toList = _
      rw [← HS.out, hbr]; exact isInt_cons b r
    have HZ : Hid (Lx.noZero s.data.toList = !(decide (1 < s.size) && ((s[0].toNat : Int) == 48))) := by
      show Lx.noZero s.data.toList = _
      cases r with
      | nil =>
        have h1 : s.size = 1 := by rw [← HS.out, hbr]; rfl
        rw [hbr, decide_eq_false (by omega)]; rfl
      | cons c q =>
        have h1 : 1 < s.size := by rw [← HS.out, hbr]; simp
        rw [hb0, hbr, decide_eq_true h1]
        show (b != 48) = _
        rw [Bool.eq_iff_iff]
        simp only [bne_iff_ne, ne_eq, Bool.true_and, Bool.not_eq_true', beq_eq_false_iff_ne]
        constructor
        · intro h e; apply h; apply UInt8.toNat_inj.1; have : (48 : UInt8).toNat = 48 := rfl; omega
        · intro h e; apply h; rw [e]; rfl
    clear hbr hb0 ht
    by_cases h1 : 1 < s.size
    · cases h4 : ((s[0].toNat : Int) == 48) with
      | true =>
        have HF : Hid (Lx.isInt s.data.toList = false) := by
          show Lx.isInt s.data.toList = false
          rw [HI.out, HZ.out, h4, decide_eq_true h1]; simp
        clear HI HZ
        go_enter Tryz.func32, Tryz.ntmps32
        go_wp2
        go_ret2
        exact ⟨⟨0, by rw [HF.out]; rfl, fun h9 => by rw [HF.out] at h9; cases h9⟩, rfl⟩
      | false =>
        have HNZ : Hid (Lx.noZero s.data.toList = true) := by
          show Lx.noZero s.data.toList = true
          rw [HZ.out, h4]; simp
        clear HZ
        go_enter Tryz.func32, Tryz.ntmps32
        go_wp2_with fail
        go_loop [4, 5] (fun n t => ∃ i : Nat, i ≤ s.size ∧ t = .int .i64 i ∧ n = .int .u64 (Lx.val (s.data.toList.take i) : Nat) ∧ Lx.val (s.data.toList.take i) ≤ 9223372036854775807 ∧ ∀ j (hj : j < s.data.toList.length), j < i → Lx.digitI (s.data.toList[j].toNat : Int) = true) (fun _ t => s.size - (intOf t).toNat)
        case atStart => exact ⟨0, Nat.zero_le _, rfl, rfl, by simp [Lx.val], fun j _ h => absurd h (Nat.not_lt_zero _)⟩
        case round =>
          obtain ⟨i, hi, rfl, rfl, hm, hall⟩ := hrel
          have HA : Hid (_) := hall
          clear hall
          by_cases hlt : i < s.size
          · have hdi := rdigit_any (s[i].toNat : Int)
            have hgt := Lx.val_take_lt s.data.toList i (by rw [HS.out]; exact hlt)
            have hnx : Lx.val (s.data.toList.take (i + 1)) = 10 * Lx.val (s.data.toList.take i) + (s[i].toNat - 48) := by
              rw [List.take_succ_eq_append_getElem (by rw [HS.out]; exact hlt), Lx.val_snoc]; rfl
            have hle2 := Lx.val_take_le s.data.toList (i + 1)
            obtain ⟨n, hn⟩ : ∃ n, n = Lx.val (s.data.toList.take i) := ⟨_, rfl⟩
            rw [← hn] at hm hgt hnx ⊢
            have HNX : Hid (_) := hnx
            have HGT : Hid (_) := hgt
            have HL2 : Hid (_) := hle2
            clear hn hnx hgt hle2
            cases h5 : Lx.digitI (s[i].toNat : Int) with
            | false =>
              rw [h5] at hdi
              have HF : Hid (Lx.isInt s.data.toList = false) := by
                show Lx.isInt s.data.toList = false
                have : ¬ Lx.lead Lx.digitI s.data.toList = s.size := fun he => by
                  have := Lx.lead_all Lx.digitI s.data.toList (by rw [HS.out]; exact he) _ (List.getElem_mem hlt)
                  have e2 : s.data.toList[i]'hlt = s[i] := rfl
                  rw [e2, h5] at this
                  cases this
                rw [HI.out, decide_eq_false this]; simp
              go_wp2_with (go_at_call 31; refine (hdi _).mono ?_; rintro e w' ⟨rfl, rfl⟩)
              go_ret2
              exact ⟨⟨0, by rw [HF.out]; rfl, fun h9 => by rw [HF.out] at h9; cases h9⟩, rfl⟩
            | true =>
              rw [h5] at hdi
              have hd : 48 ≤ s[i].toNat ∧ s[i].toNat ≤ 57 := by
                simp [Lx.digitI] at h5; omega
              obtain ⟨d1, d2⟩ := hd
              by_cases hbig : 922337203685477580 < n
              · have HF : Hid (Lx.isInt s.data.toList = false) := by
                  show Lx.isInt s.data.toList = false
                  have := HGT.out
                  rw [HI.out, decide_eq_false (show ¬ Lx.val s.data.toList ≤ 9223372036854775807 by omega)]; simp
                go_wp2_with (go_at_call 31; refine (hdi _).mono ?_; rintro e w' ⟨rfl, rfl⟩)
                go_ret2
                exact ⟨⟨0, by rw [HF.out]; rfl, fun h9 => by rw [HF.out] at h9; cases h9⟩, rfl⟩
              · have m1 : IntKind.u64.wrap (10 * (n : Int)) = 10 * (n : Int) := by rw [IntKind.wrap_u64]; omega
                have m2 : IntKind.u8.wrap ((s[i].toNat : Int) - 48) = (s[i].toNat : Int) - 48 := by rw [IntKind.wrap_u8]; omega
                have m4 : IntKind.u64.wrap ((s[i].toNat : Int) - 48) = (s[i].toNat : Int) - 48 := by rw [IntKind.wrap_u64]; omega
                have m3 : IntKind.u64.wrap (10 * (n : Int) + ((s[i].toNat : Int) - 48)) = 10 * (n : Int) + ((s[i].toNat : Int) - 48) := by rw [IntKind.wrap_u64]; omega
                have e3 : (10 * (n : Int) + ((s[i].toNat : Int) - 48)) = ((Lx.val (s.data.toList.take (i + 1)) : Nat) : Int) := by rw [HNX.out]; omega
                have E3 : Hid (_) := e3
                clear e3
                by_cases hmore : 9223372036854775807 < 10 * n + (s[i].toNat - 48)
                · have g1 : decide (9223372036854775807 < 10 * (n : Int) + ((s[i].toNat : Int) - 48)) = true := by simp; omega
                  have HF : Hid (Lx.isInt s.data.toList = false) := by
                    show Lx.isInt s.data.toList = false
                    have h1 := HNX.out
                    have h2 := HL2.out
                    rw [HI.out, decide_eq_false (show ¬ Lx.val s.data.toList ≤ 9223372036854775807 by omega)]; simp
                  go_wp2_with (go_at_call 31; refine (hdi _).mono ?_; rintro e w' ⟨rfl, rfl⟩)
                  go_ret2
                  exact ⟨⟨0, by rw [HF.out]; rfl, fun h9 => by rw [HF.out] at h9; cases h9⟩, rfl⟩
                · have g1 : decide (9223372036854775807 < 10 * (n : Int) + ((s[i].toNat : Int) - 48)) = false := by simp; omega
                  go_wp2_with (go_at_call 31; refine (hdi _).mono ?_; rintro e w' ⟨rfl, rfl⟩)
                  go_round
                  case rel =>
                    refine ⟨i + 1, by omega, by go_num, ?_, by rw [HNX.out]; omega, fun j hj hji => ?_⟩
                    · rw [← E3.out]
                    · by_cases hji2 : j < i
                      · exact HA.out j hj hji2
                      · obtain rfl : j = i := by omega
                        exact h5
                  case measure => simp [intOf]; omega
          · have hie : i = s.size := by omega
            have hT : s.data.toList.take i = s.data.toList := List.take_of_length_le (by rw [HS.out]; omega)
            have HF : Hid (Lx.isInt s.data.toList = true) := by
              show Lx.isInt s.data.toList = true
              rw [hT] at hm
              rw [HI.out, HNZ.out, decide_eq_true hm, decide_eq_true (Lx.lead_eq Lx.digitI s.data.toList s.size (Nat.le_refl _) (by rw [← hie]; exact HA.out) (fun h => absurd h (Nat.lt_irrefl _)))]; rfl
            obtain ⟨n, hn⟩ : ∃ n, n = Lx.val (s.data.toList.take i) := ⟨_, rfl⟩
            rw [← hn] at hm ⊢
            have HV : Hid (n = Lx.val s.data.toList) := by rw [hT] at hn; exact hn
            clear hn hT
            go_wp2
            go_ret2
            exact ⟨⟨_, by rw [HF.out]; rfl, fun _ => congrArg (fun q : Nat => (q : Int)) HV.out⟩, rfl⟩
    · have HNZ : Hid (Lx.noZero s.data.toList = true) := by
        show Lx.noZero s.data.toList = true
        rw [HZ.out, decide_eq_false h1]; simp
      have hg : decide ((1 : Int) < (s.size : Int)) = false := by simp; omega
      clear HZ
      go_enter Tryz.func32, Tryz.ntmps32
      go_wp2_with fail
      go_loop [4, 5] (fun n t => ∃ i : Nat, i ≤ s.size ∧ t = .int .i64 i ∧ n = .int .u64 (Lx.val (s.data.toList.take i) : Nat) ∧ Lx.val (s.data.toList.take i) ≤ 9223372036854775807 ∧ ∀ j (hj : j < s.data.toList.length), j < i → Lx.digitI (s.data.toList[j].toNat : Int) = true) (fun _ t => s.size - (intOf t).toNat)
      case atStart => exact ⟨0, Nat.zero_le _, rfl, rfl, by simp [Lx.val], fun j _ h => absurd h (Nat.not_lt_zero _)⟩
      case round =>
        obtain ⟨i, hi, rfl, rfl, hm, hall⟩ := hrel
        have HA : Hid (_) := hall
        clear hall
        by_cases hlt : i < s.size
        · have hdi := rdigit_any (s[i].toNat : Int)
          have hgt := Lx.val_take_lt s.data.toList i (by rw [HS.out]; exact hlt)
          have hnx : Lx.val (s.data.toList.take (i + 1)) = 10 * Lx.val (s.data.toList.take i) + (s[i].toNat - 48) := by
            rw [List.take_succ_eq_append_getElem (by rw [HS.out]; exact hlt), Lx.val_snoc]; rfl
          have hle2 := Lx.val_take_le s.data.toList (i + 1)
          obtain ⟨n, hn⟩ : ∃ n, n = Lx.val (s.data.toList.take i) := ⟨_, rfl⟩
          rw [← hn] at hm hgt hnx ⊢
          have HNX : Hid (_) := hnx
          have HGT : Hid (_) := hgt
          have HL2 : Hid (_) := hle2
          clear hn hnx hgt hle2
          cases h5 : Lx.digitI (s[i].toNat : Int) with
          | false =>
            rw [h5] at hdi
            have HF : Hid (Lx.isInt s.data.toList = false) := by
              show Lx.isInt s.data.toList = false
              have : ¬ Lx.lead Lx.digitI s.data.toList = s.size := fun he => by
                have := Lx.lead_all Lx.digitI s.data.toList (by rw [HS.out]; exact he) _ (List.getElem_mem hlt)
                have e2 : s.data.toList[i]'hlt = s[i] := rfl
                rw [e2, h5] at this
                cases this
              rw [HI.out, decide_eq_false this]; simp
            go_wp2_with (go_at_call 31; refine (hdi _).mono ?_; rintro e w' ⟨rfl, rfl⟩)
            go_ret2
            exact ⟨⟨0, by rw [HF.out]; rfl, fun h9 => by rw [HF.out] at h9; cases h9⟩, rfl⟩
          | true =>
            rw [h5] at hdi
            have hd : 48 ≤ s[i].toNat ∧ s[i].toNat ≤ 57 := by
              simp [Lx.digitI] at h5; omega
            obtain ⟨d1, d2⟩ := hd
            by_cases hbig : 922337203685477580 < n
            · have HF : Hid (Lx.isInt s.data.toList = false) := by
                show Lx.isInt s.data.toList = false
                have := HGT.out
                rw [HI.out, decide_eq_false (show ¬ Lx.val s.data.toList ≤ 9223372036854775807 by omega)]; simp
              go_wp2_with (go_at_call 31; refine (hdi _).mono ?_; rintro e w' ⟨rfl, rfl⟩)
              go_ret2
              exact ⟨⟨0, by rw [HF.out]; rfl, fun h9 => by rw [HF.out] at h9; cases h9⟩, rfl⟩
            · have m1 : IntKind.u64.wrap (10 * (n : Int)) = 10 * (n : Int) := by rw [IntKind.wrap_u64]; omega
              have m2 : IntKind.u8.wrap ((s[i].toNat : Int) - 48) = (s[i].toNat : Int) - 48 := by rw [IntKind.wrap_u8]; omega
              have m4 : IntKind.u64.wrap ((s[i].toNat : Int) - 48) = (s[i].toNat : Int) - 48 := by rw [IntKind.wrap_u64]; omega
              have m3 : IntKind.u64.wrap (10 * (n : Int) + ((s[i].toNat : Int) - 48)) = 10 * (n : Int) + ((s[i].toNat : Int) - 48) := by rw [IntKind.wrap_u64]; omega
              have e3 : (10 * (n : Int) + ((s[i].toNat : Int) - 48)) = ((Lx.val (s.data.toList.take (i + 1)) : Nat) : Int) := by rw [HNX.out]; omega
              have E3 : Hid (_) := e3
              clear e3
              by_cases hmore : 9223372036854775807 < 10 * n + (s[i].toNat - 48)
              · have g1 : decide (9223372036854775807 < 10 * (n : Int) + ((s[i].toNat : Int) - 48)) = true := by simp; omega
                have HF : Hid (Lx.isInt s.data.toList = false) := by
                  show Lx.isInt s.data.toList = false
                  have h1 := HNX.out
                  have h2 := HL2.out
                  rw [HI.out, decide_eq_false (show ¬ Lx.val s.data.toList ≤ 9223372036854775807 by omega)]; simp
                go_wp2_with (go_at_call 31; refine (hdi _).mono ?_; rintro e w' ⟨rfl, rfl⟩)
                go_ret2
                exact ⟨⟨0, by rw [HF.out]; rfl, fun h9 => by rw [HF.out] at h9; cases h9⟩, rfl⟩
              · have g1 : decide (9223372036854775807 < 10 * (n : Int) + ((s[i].toNat : Int) - 48)) = false := by simp; omega
                go_wp2_with (go_at_call 31; refine (hdi _).mono ?_; rintro e w' ⟨rfl, rfl⟩)
                go_round
                case rel =>
                  refine ⟨i + 1, by omega, by go_num, ?_, by rw [HNX.out]; omega, fun j hj hji => ?_⟩
                  · rw [← E3.out]
                  · by_cases hji2 : j < i
                    · exact HA.out j hj hji2
                    · obtain rfl : j = i := by omega
                      exact h5
                case measure => simp [intOf]; omega
        · have hie : i = s.size := by omega
          have hT : s.data.toList.take i = s.data.toList := List.take_of_length_le (by rw [HS.out]; omega)
          have HF : Hid (Lx.isInt s.data.toList = true) := by
            show Lx.isInt s.data.toList = true
            rw [hT] at hm
            rw [HI.out, HNZ.out, decide_eq_true hm, decide_eq_true (Lx.lead_eq Lx.digitI s.data.toList s.size (Nat.le_refl _) (by rw [← hie]; exact HA.out) (fun h => absurd h (Nat.lt_irrefl _)))]; rfl
          obtain ⟨n, hn⟩ : ∃ n, n = Lx.val (s.data.toList.take i) := ⟨_, rfl⟩
          rw [← hn] at hm ⊢
          have HV : Hid (n = Lx.val s.data.toList) := by rw [hT] at hn; exact hn
          clear hn hT
          go_wp2
          go_ret2
          exact ⟨⟨_, by rw [HF.out]; rfl, fun _ => congrArg (fun q : Nat => (q : Int)) HV.out⟩, rfl⟩

end Go.Proofs.YtfegodofbdlbeaaGreatDoor
