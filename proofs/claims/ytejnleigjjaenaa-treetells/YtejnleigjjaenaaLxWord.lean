/-
  The walks of strings.HasPrefix, slices.Contains, lex.Words, Name, spelledAsName and integer.
-/
import Derived.Test.YtejnleigjjaenaaLxSmall
import Derived.Test.YtejnleigjjaenaaLxInt
import Derived.Test.YtejnleigjjaenaaFlatBase
import Derived.Test.YtejnleigjjaenaaLows
namespace Go.Proofs.Ytejnleigjjaenaa
open Go.RowKit

/-- Whether a text begins with another one. -/
def pre (p l : List UInt8) : Bool := p.isPrefixOf l
/-- Whether a text is one of a row. -/
def has (L : List (List UInt8)) (x : List UInt8) : Bool := L.contains x
theorem prefix_eq (s p : ByteArray) : ((s.extract 0 p.size).toList == p.toList) = pre p.data.toList s.data.toList := by
  unfold pre
  rw [Lib.toList_data, Lib.toList_data, Lib.extract_data]
  simp only [List.drop_zero, Nat.sub_zero]
  have hl : p.data.toList.length = p.size := rfl
  rw [Bool.eq_iff_iff, beq_iff_eq, List.isPrefixOf_iff_prefix, List.prefix_iff_eq_take, hl]
  exact ⟨fun h => h.symm, fun h => h.symm⟩

/-- What Index tells: below 0, or not. -/
def Found (r : Int) (b : Bool) : Prop := decide (0 ≤ r) = b

set_option maxRecDepth 100000 in
set_option maxHeartbeats 2000000 in
theorem index_any (L : List (List UInt8)) (v : Value) (m : Nat) (x : ByteArray) (w : World) (hrow : RowLow m w v L) (hL : L.length ≤ 1000000) :
    Calls Try.prog 62 #[v, .string x] w fun e w' => (∃ r : Int, e = .returned (.int .i64 r) ∧ Found r (has L x.data.toList)) ∧ w' = w := by
  obtain ⟨ao, cap, b, off, rfl, -, hao, hc⟩ := hrow.parts
  clear hrow
  have HC : Hid (_) := hc
  clear hc
  go_enter Try.func62, Try.ntmps62
  go_wp2_with fail
  go_loop [8] (fun t => ∃ i : Nat, i ≤ L.length ∧ t = .int .i64 i ∧ ∀ j y, L[j]? = some y → j < i → y ≠ x.data.toList) (fun t => L.length - (intOf t).toNat)
  case atStart => exact ⟨0, Nat.zero_le _, rfl, fun j _ _ h => absurd h (Nat.not_lt_zero _)⟩
  case round =>
    obtain ⟨i, hi, rfl, hall⟩ := hrel
    have HA : Hid (_) := hall
    clear hall
    by_cases hlt : i < L.length
    · obtain ⟨y, hy⟩ : ∃ y, L[i]? = some y := ⟨L[i], List.getElem?_eq_getElem hlt⟩
      obtain ⟨rfl, -⟩ := hao (by omega)
      have g1 := HC.out i y hy
      have HY : Hid (_) := hy
      clear hy
      have hbq : ((x.toList == (Ln.bs y).toList)) = decide (x.data.toList = y) := bs_beq x.data.toList y
      by_cases he : x.data.toList = y
      · have h1 : (x.toList == (Ln.bs y).toList) = true := by rw [hbq]; exact decide_eq_true he
        have HE : Hid (_) := he
        clear he hbq
        go_wp2
        go_ret
        refine ⟨⟨i, rfl, ?_⟩, rfl⟩
        unfold Found has
        rw [decide_eq_true (by omega), HE.out]
        symm
        rw [List.contains_iff_mem]
        exact List.mem_of_getElem? HY.out
      · have h1 : (x.toList == (Ln.bs y).toList) = false := by rw [hbq]; exact decide_eq_false he
        have HE : Hid (_) := he
        clear he hbq
        go_wp2
        go_round
        case rel =>
          refine ⟨i + 1, by omega, by go_num, fun j z hz hji => ?_⟩
          by_cases hji2 : j < i
          · exact HA.out j z hz hji2
          · obtain rfl : j = i := by omega
            rw [HY.out] at hz
            cases hz
            exact fun e => HE.out e.symm
        case measure => simp [intOf]; omega
    · have hie : i = L.length := by omega
      subst hie
      clear hao
      go_wp2
      go_ret
      refine ⟨⟨-1, rfl, ?_⟩, rfl⟩
      unfold Found has
      rw [decide_eq_false (by omega)]
      symm
      rw [Bool.eq_false_iff]
      intro hm
      rw [List.contains_iff_mem] at hm
      obtain ⟨j, hj⟩ := List.mem_iff_getElem?.1 hm
      exact HA.out j _ hj (List.getElem?_eq_some_iff.1 hj).1 rfl

set_option maxHeartbeats 1000000 in
theorem contains_any (L : List (List UInt8)) (v : Value) (m : Nat) (x : ByteArray) (w : World) (hrow : RowLow m w v L) (hL : L.length ≤ 1000000) :
    Calls Try.prog 44 #[v, .string x] w fun e w' => e = .returned (.bool (has L x.data.toList)) ∧ w' = w := by
  have HI : Hid (_) := index_any L v m x w hrow hL
  obtain ⟨ao, cap, b, off, rfl, -, -, -⟩ := hrow.parts
  go_enter Try.func44, Try.ntmps44
  go_wp2_with fail
  refine Calls.mono HI.out ?_
  rintro e w' ⟨⟨r, rfl, hr⟩, rfl⟩
  have HR : Hid (_) := hr
  clear hr
  go_wp2
  go_ret
  exact ⟨ret_bool HR.out, rfl⟩

set_option maxRecDepth 100000 in
set_option maxHeartbeats 1000000 in
theorem words_any (w : World) :
    Calls Try.prog 61 #[] w fun e w' => ∃ v, e = .returned v ∧ RowLow w'.heap.size w' v Lx.words ∧ Below w.heap.size w w' := by
  go_enter Try.func61, Try.ntmps61
  go_wp2
  go_ret
  exact ⟨_, rfl, CellsLow.lit w (Lx.words.map txtV) 9 11, below_nw w _⟩

set_option maxRecDepth 100000 in
set_option maxHeartbeats 2000000 in
theorem spelled_any (s : ByteArray) (hs : s.size ≤ maxLen) (w : World) :
    Calls Try.prog 60 #[.string s] w fun e w' => e = .returned (.bool (Lx.spelled s.data.toList)) ∧ w' = w := by
  have HS : Hid (s.data.toList.length = s.size) := rfl
  have ht : s.toList = s.data.toList := Lib.toList_data s
  have HL : Hid (_) := lead_ld s hs w
  by_cases h0 : s.size = 0
  · have hs : s = ⟨#[]⟩ := by
      apply ByteArray.ext
      exact Array.eq_empty_of_size_eq_zero h0
    subst hs
    clear ht HS HL h0
    go_enter Try.func60, Try.ntmps60
    go_wp2
    go_ret
    exact ⟨rfl, rfl⟩
  · have hne : s.toList ≠ [] := by rw [ht]; intro e; have := HS.out; rw [e] at this; simp at this; omega
    have hb : (!s.toList.isEmpty) = true := by simpa using hne
    obtain ⟨b, r, hbr⟩ : ∃ b r, s.data.toList = b :: r := by
      cases h : s.data.toList with
      | nil => rw [ht] at hne; exact absurd h hne
      | cons b r => exact ⟨b, r, rfl⟩
    have hp : 0 < s.size := by omega
    have hb0 : s[0] = b := by
      have : s[0] = s.data.toList[0]'hp := rfl
      rw [this]; simp [hbr]
    have HSP : Hid (Lx.spelled s.data.toList = (decide (s.size ≤ 24) && Lx.letterI (s[0].toNat : Int) && decide (Lx.lead Lx.ldI s.data.toList = s.size))) := by
      show Lx.spelled s.data.toList = _
      unfold Lx.spelled
      rw [HS.out, hb0]
      simp only [hbr]
    have hl := letter_any (s[0].toNat : Int)
    have hll := Lx.lead_le Lx.ldI s.data.toList
    rw [HS.out] at hll
    have hs1 : s.size ≤ 9223372036854775807 := hs
    clear hbr hb0 ht
    by_cases h1 : s.size ≤ 24
    · cases h2 : Lx.letterI (s[0].toNat : Int) with
      | true =>
        rw [h2] at hl
        go_enter Try.func60, Try.ntmps60
        go_wp2_with (first
          | (go_at_call 79; refine (hl _).mono ?_; rintro e w' ⟨rfl, rfl⟩)
          | (go_at_call 80; refine Calls.mono HL.out ?_; rintro e w' ⟨rfl, rfl⟩))
        go_ret
        refine ⟨ret_bool ?_, rfl⟩
        rw [HSP.out, h2, decide_eq_true h1]
        rw [Bool.eq_iff_iff]; simp; omega
      | false =>
        rw [h2] at hl
        go_enter Try.func60, Try.ntmps60
        go_wp2_with (first
          | (go_at_call 79; refine (hl _).mono ?_; rintro e w' ⟨rfl, rfl⟩)
          | (go_at_call 80; refine Calls.mono HL.out ?_; rintro e w' ⟨rfl, rfl⟩))
        go_ret
        refine ⟨ret_bool ?_, rfl⟩
        rw [HSP.out, h2]
        simp
    · go_enter Try.func60, Try.ntmps60
      go_wp2
      go_ret
      refine ⟨ret_bool ?_, rfl⟩
      rw [HSP.out, decide_eq_false h1]
      simp

set_option maxRecDepth 100000 in
set_option maxHeartbeats 2000000 in
theorem name_any (s : ByteArray) (hs : s.size ≤ maxLen) (w : World) :
    Calls Try.prog 43 #[.string s] w fun e w' => e = .returned (.bool (Lx.isName s.data.toList)) ∧ Below w.heap.size w w' := by
  have hsp := spelled_any s hs
  cases h : Lx.spelled s.data.toList with
  | false =>
    rw [h] at hsp
    go_enter Try.func43, Try.ntmps43
    go_wp2_with (go_at_call 60; refine (hsp _).mono ?_; rintro e w' ⟨rfl, rfl⟩)
    go_ret
    exact ⟨ret_bool (by simp [Lx.isName, h]), Below.refl _ _⟩
  | true =>
    rw [h] at hsp
    go_enter Try.func43, Try.ntmps43
    go_wp2_with (first
      | (go_at_call 60; refine (hsp _).mono ?_; rintro e w' ⟨rfl, rfl⟩)
      | (go_at_call 61; refine (words_any _).mono ?_; rintro e w1 ⟨v, rfl, hrow, hb⟩; have HROW : Hid (_) := hrow; have HB : Hid (_) := hb; obtain ⟨ao, cap, b, off, rfl, -, -, -⟩ := hrow.parts; clear hrow hb)
      | (go_at_call 44; refine (contains_any _ _ _ _ _ HROW.out (by decide)).mono ?_; rintro e w' ⟨rfl, rfl⟩))
    go_ret
    exact ⟨ret_bool (by simp [Lx.isName, h, Lx.isWord, has]), HB.out⟩

theorem isInt_cons (b : UInt8) (r : List UInt8) : Lx.isInt (b :: r) = (Lx.noZero (b :: r) && decide (Lx.lead Lx.digitI (b :: r) = (b :: r).length) && decide (Lx.val (b :: r) ≤ 9223372036854775807)) := by
  simp [Lx.isInt]

end Go.Proofs.Ytejnleigjjaenaa
