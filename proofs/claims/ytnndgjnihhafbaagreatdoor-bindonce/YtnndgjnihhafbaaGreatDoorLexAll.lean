/-
  Several texts in one, as they are: LxWord, LxRead, LxState, LxWays, LxRun, LxSign, LxMore.
-/
import Derived.Test.YtnndgjnihhafbaaGreatDoorLxSmall
import Derived.Test.YtnndgjnihhafbaaGreatDoorLxInt
import Derived.Test.YtnndgjnihhafbaaGreatDoorBaseAll
import Derived.Test.YtnndgjnihhafbaaGreatDoorLxMath

/-
  The walks of strings.HasPrefix, slices.Contains, lex.Words, Name, spelledAsName and integer.
-/
namespace Go.Proofs.YtnndgjnihhafbaaGreatDoor
open Go.RowKit

/-- Whether a text begins with another one. -/
def pre (p l : List UInt8) : Bool := p.isPrefixOf l
/-- Whether a text is one of a row. -/
def has (L : List (List UInt8)) (x : List UInt8) : Bool := L.contains x
theorem prefix_eq (s p : ByteArray) : ((s.extract 0 p.size).toList == p.toList) = pre p.data.toList s.data.toList := by
  unfold pre
  rw [Lib.toList_data, Lib.toList_data, Lib.extract_data]
  simp only [List.drop_zero, Nat.sub_zero]
  have hl : p.data.toList.length = p.size := rfl
  rw [Bool.eq_iff_iff, beq_iff_eq, List.isPrefixOf_iff_prefix, List.prefix_iff_eq_take, hl]
  exact ⟨fun h => h.symm, fun h => h.symm⟩

set_option maxRecDepth 100000 in
set_option maxHeartbeats 1000000 in
theorem prefixIn_any (s p : ByteArray) (w : World) :
    Calls Tryz.prog 147 #[.string s, .string p] w fun e w' => e = .returned (.bool (pre p.data.toList s.data.toList)) ∧ w' = w := by
  by_cases h : p.size ≤ s.size
  · have HE : Hid (_) := prefix_eq s p
    go_enter Tryz.func147, Tryz.ntmps147
    go_wp2
    go_ret
    exact ⟨ret_bool HE.out, rfl⟩
  · have HE : Hid (pre p.data.toList s.data.toList = false) := by
      show pre p.data.toList s.data.toList = false
      cases hq : pre p.data.toList s.data.toList with
      | false => rfl
      | true => exact absurd (Lx.prefix_take hq).2 h
    go_enter Tryz.func147, Tryz.ntmps147
    go_wp2
    go_ret
    exact ⟨ret_bool HE.out.symm, rfl⟩

set_option maxHeartbeats 1000000 in
theorem prefix_any (s p : ByteArray) (w : World) :
    Calls Tryz.prog 117 #[.string s, .string p] w fun e w' => e = .returned (.bool (pre p.data.toList s.data.toList)) ∧ w' = w := by
  go_enter Tryz.func117, Tryz.ntmps117
  go_wp2_with (go_at_call 147; refine (prefixIn_any _ _ _).mono ?_; rintro e w' ⟨rfl, rfl⟩)
  go_ret
  exact ⟨rfl, rfl⟩

/-- What Index tells: below 0, or not. -/
def Found (r : Int) (b : Bool) : Prop := decide (0 ≤ r) = b

set_option maxRecDepth 100000 in
set_option maxHeartbeats 2000000 in
theorem index_any (L : List (List UInt8)) (v : Value) (m : Nat) (x : ByteArray) (w : World) (hrow : RowLow m w v L) (hL : L.length ≤ 1000000) :
    Calls Tryz.prog 81 #[v, .string x] w fun e w' => (∃ r : Int, e = .returned (.int .i64 r) ∧ Found r (has L x.data.toList)) ∧ w' = w := by
  obtain ⟨ao, cap, b, off, rfl, -, hao, hc⟩ := hrow.parts
  clear hrow
  have HC : Hid (_) := hc
  clear hc
  go_enter Tryz.func81, Tryz.ntmps81
  go_wp2_with fail
  go_loop [8] (fun t => ∃ i : Nat, i ≤ L.length ∧ t = .int .i64 i ∧ ∀ j y, L[j]? = some y → j < i → y ≠ x.data.toList) (fun t => L.length - (intOf t).toNat)
  case atStart => exact ⟨0, Nat.zero_le _, rfl, fun j _ _ h => absurd h (Nat.not_lt_zero _)⟩
  case round =>
    obtain ⟨i, hi, rfl, hall⟩ := hrel
    have HA : Hid (_) := hall
    clear hall
    by_cases hlt : i < L.length
    · obtain ⟨y, hy⟩ : ∃ y, L[i]? = some y := ⟨L[i], List.getElem?_eq_getElem hlt⟩
      obtain ⟨rfl, -⟩ := hao (by omega)
      have g1 := HC.out i y hy
      have HY : Hid (_) := hy
      clear hy
      have hbq : ((x.toList == (Ln.bs y).toList)) = decide (x.data.toList = y) := bs_beq x.data.toList y
      by_cases he : x.data.toList = y
      · have h1 : (x.toList == (Ln.bs y).toList) = true := by rw [hbq]; exact decide_eq_true he
        have HE : Hid (_) := he
        clear he hbq
        go_wp2
        go_ret
        refine ⟨⟨i, rfl, ?_⟩, rfl⟩
        unfold Found has
        rw [decide_eq_true (by omega), HE.out]
        symm
        rw [List.contains_iff_mem]
        exact List.mem_of_getElem? HY.out
      · have h1 : (x.toList == (Ln.bs y).toList) = false := by rw [hbq]; exact decide_eq_false he
        have HE : Hid (_) := he
        clear he hbq
        go_wp2
        go_round
        case rel =>
          refine ⟨i + 1, by omega, by go_num, fun j z hz hji => ?_⟩
          by_cases hji2 : j < i
          · exact HA.out j z hz hji2
          · obtain rfl : j = i := by omega
            rw [HY.out] at hz
            cases hz
            exact fun e => HE.out e.symm
        case measure => simp [intOf]; omega
    · have hie : i = L.length := by omega
      subst hie
      clear hao
      go_wp2
      go_ret
      refine ⟨⟨-1, rfl, ?_⟩, rfl⟩
      unfold Found has
      rw [decide_eq_false (by omega)]
      symm
      rw [Bool.eq_false_iff]
      intro hm
      rw [List.contains_iff_mem] at hm
      obtain ⟨j, hj⟩ := List.mem_iff_getElem?.1 hm
      exact HA.out j _ hj (List.getElem?_eq_some_iff.1 hj).1 rfl

set_option maxHeartbeats 1000000 in
theorem contains_any (L : List (List UInt8)) (v : Value) (m : Nat) (x : ByteArray) (w : World) (hrow : RowLow m w v L) (hL : L.length ≤ 1000000) :
    Calls Tryz.prog 42 #[v, .string x] w fun e w' => e = .returned (.bool (has L x.data.toList)) ∧ w' = w := by
  have HI : Hid (_) := index_any L v m x w hrow hL
  obtain ⟨ao, cap, b, off, rfl, -, -, -⟩ := hrow.parts
  go_enter Tryz.func42, Tryz.ntmps42
  go_wp2_with fail
  refine Calls.mono HI.out ?_
  rintro e w' ⟨⟨r, rfl, hr⟩, rfl⟩
  have HR : Hid (_) := hr
  clear hr
  go_wp2
  go_ret
  exact ⟨ret_bool HR.out, rfl⟩

set_option maxRecDepth 100000 in
set_option maxHeartbeats 1000000 in
theorem words_any (w : World) :
    Calls Tryz.prog 80 #[] w fun e w' => ∃ v, e = .returned v ∧ RowLow w'.heap.size w' v Lx.words ∧ Below w.heap.size w w' := by
  go_enter Tryz.func80, Tryz.ntmps80
  go_wp2
  go_ret
  exact ⟨_, rfl, CellsLow.lit w (Lx.words.map txtV) 9 11, below_nw w _⟩

set_option maxRecDepth 100000 in
set_option maxHeartbeats 2000000 in
theorem spelled_any (s : ByteArray) (hs : s.size ≤ maxLen) (w : World) :
    Calls Tryz.prog 79 #[.string s] w fun e w' => e = .returned (.bool (Lx.spelled s.data.toList)) ∧ w' = w := by
  have HS : Hid (s.data.toList.length = s.size) := rfl
  have ht : s.toList = s.data.toList := Lib.toList_data s
  have HL : Hid (_) := lead_ld s hs w
  by_cases h0 : s.size = 0
  · have hs : s = ⟨#[]⟩ := by
      apply ByteArray.ext
      exact Array.eq_empty_of_size_eq_zero h0
    subst hs
    clear ht HS HL h0
    go_enter Tryz.func79, Tryz.ntmps79
    go_wp2
    go_ret
    exact ⟨rfl, rfl⟩
  · have hne : s.toList ≠ [] := by rw [ht]; intro e; have := HS.out; rw [e] at this; simp at this; omega
    have hb : (!s.toList.isEmpty) = true := by simpa using hne
    obtain ⟨b, r, hbr⟩ : ∃ b r, s.data.toList = b :: r := by
      cases h : s.data.toList with
      | nil => rw [ht] at hne; exact absurd h hne
      | cons b r => exact ⟨b, r, rfl⟩
    have hp : 0 < s.size := by omega
    have hb0 : s[0] = b := by
      have : s[0] = s.data.toList[0]'hp := rfl
      rw [this]; simp [hbr]
    have HSP : Hid (Lx.spelled s.data.toList = (decide (s.size ≤ 24) && Lx.letterI (s[0].toNat : Int) && decide (Lx.lead Lx.ldI s.data.toList = s.size))) := by
      show Lx.spelled s.data.toList = _
      unfold Lx.spelled
      rw [HS.out, hb0]
      simp only [hbr]
    have hl := letter_any (s[0].toNat : Int)
    have hll := Lx.lead_le Lx.ldI s.data.toList
    rw [HS.out] at hll
    have hs1 : s.size ≤ 9223372036854775807 := hs
    clear hbr hb0 ht
    by_cases h1 : s.size ≤ 24
    · cases h2 : Lx.letterI (s[0].toNat : Int) with
      | true =>
        rw [h2] at hl
        go_enter Tryz.func79, Tryz.ntmps79
        go_wp2_with (first
          | (go_at_call 126; refine (hl _).mono ?_; rintro e w' ⟨rfl, rfl⟩)
          | (go_at_call 127; refine Calls.mono HL.out ?_; rintro e w' ⟨rfl, rfl⟩))
        go_ret
        refine ⟨ret_bool ?_, rfl⟩
        rw [HSP.out, h2, decide_eq_true h1]
        rw [Bool.eq_iff_iff]; simp; omega
      | false =>
        rw [h2] at hl
        go_enter Tryz.func79, Tryz.ntmps79
        go_wp2_with (first
          | (go_at_call 126; refine (hl _).mono ?_; rintro e w' ⟨rfl, rfl⟩)
          | (go_at_call 127; refine Calls.mono HL.out ?_; rintro e w' ⟨rfl, rfl⟩))
        go_ret
        refine ⟨ret_bool ?_, rfl⟩
        rw [HSP.out, h2]
        simp
    · go_enter Tryz.func79, Tryz.ntmps79
      go_wp2
      go_ret
      refine ⟨ret_bool ?_, rfl⟩
      rw [HSP.out, decide_eq_false h1]
      simp

set_option maxRecDepth 100000 in
set_option maxHeartbeats 2000000 in
theorem name_any (s : ByteArray) (hs : s.size ≤ maxLen) (w : World) :
    Calls Tryz.prog 41 #[.string s] w fun e w' => e = .returned (.bool (Lx.isName s.data.toList)) ∧ Below w.heap.size w w' := by
  have hsp := spelled_any s hs
  cases h : Lx.spelled s.data.toList with
  | false =>
    rw [h] at hsp
    go_enter Tryz.func41, Tryz.ntmps41
    go_wp2_with (go_at_call 79; refine (hsp _).mono ?_; rintro e w' ⟨rfl, rfl⟩)
    go_ret
    exact ⟨ret_bool (by simp [Lx.isName, h]), Below.refl _ _⟩
  | true =>
    rw [h] at hsp
    go_enter Tryz.func41, Tryz.ntmps41
    go_wp2_with (first
      | (go_at_call 79; refine (hsp _).mono ?_; rintro e w' ⟨rfl, rfl⟩)
      | (go_at_call 80; refine (words_any _).mono ?_; rintro e w1 ⟨v, rfl, hrow, hb⟩; have HROW : Hid (_) := hrow; have HB : Hid (_) := hb; obtain ⟨ao, cap, b, off, rfl, -, -, -⟩ := hrow.parts; clear hrow hb)
      | (go_at_call 42; refine (contains_any _ _ _ _ _ HROW.out (by decide)).mono ?_; rintro e w' ⟨rfl, rfl⟩))
    go_ret
    exact ⟨ret_bool (by simp [Lx.isName, h, Lx.isWord, has]), HB.out⟩

theorem isInt_cons (b : UInt8) (r : List UInt8) : Lx.isInt (b :: r) = (Lx.noZero (b :: r) && decide (Lx.lead Lx.digitI (b :: r) = (b :: r).length) && decide (Lx.val (b :: r) ≤ 9223372036854775807)) := by
  simp [Lx.isInt]

set_option maxRecDepth 100000 in
set_option maxHeartbeats 2000000 in
theorem integer_any (s : ByteArray) (hs : s.size ≤ maxLen) (w : World) :
    Calls Tryz.prog 121 #[.string s] w fun e w' => e = .returned (.bool (Lx.isInt s.data.toList)) ∧ w' = w := by
  have HS : Hid (s.data.toList.length = s.size) := rfl
  have ht : s.toList = s.data.toList := Lib.toList_data s
  have HL : Hid (_) := lead_digit s hs w
  have hs1 : s.size ≤ 9223372036854775807 := hs
  by_cases h0 : s.size = 0
  · have hs : s = ⟨#[]⟩ := by
      apply ByteArray.ext
      exact Array.eq_empty_of_size_eq_zero h0
    subst hs
    clear ht HS HL h0
    go_enter Tryz.func121, Tryz.ntmps121
    go_wp2
    go_ret
    exact ⟨rfl, rfl⟩
  · have hne : s.toList ≠ [] := by rw [ht]; intro e; have := HS.out; rw [e] at this; simp at this; omega
    have hb : s.toList.isEmpty = false := by simpa using hne
    obtain ⟨b, r, hbr⟩ : ∃ b r, s.data.toList = b :: r := by
      cases h : s.data.toList with
      | nil => rw [ht] at hne; exact absurd h hne
      | cons b r => exact ⟨b, r, rfl⟩
    have hp : 0 < s.size := by omega
    have hb0 : s[0] = b := by
      have : s[0] = s.data.toList[0]'hp := rfl
      rw [this]; simp [hbr]
    have hll := Lx.lead_le Lx.digitI s.data.toList
    rw [HS.out] at hll
    have HI : Hid (Lx.isInt s.data.toList = (Lx.noZero s.data.toList && decide (Lx.lead Lx.digitI s.data.toList = s.size) && decide (Lx.val s.data.toList ≤ 9223372036854775807))) := by
      show Lx.isInt s.data.toList = _
      rw [← HS.out, hbr]; exact isInt_cons b r
    by_cases h1 : Lx.lead Lx.digitI s.data.toList < s.size
    · have HF : Hid (Lx.isInt s.data.toList = false) := by
        show Lx.isInt s.data.toList = false
        rw [HI.out, decide_eq_false (show ¬ Lx.lead Lx.digitI s.data.toList = s.size by omega)]; simp
      clear hbr hb0 ht HI
      go_enter Tryz.func121, Tryz.ntmps121
      go_wp2_with (go_at_call 127; refine Calls.mono HL.out ?_; rintro e w' ⟨rfl, rfl⟩)
      go_ret
      exact ⟨ret_bool HF.out.symm, rfl⟩
    · have hle : Lx.lead Lx.digitI s.data.toList = s.size := by omega
      by_cases h2 : s.size = 1
      · have HZ : Hid (Lx.isInt s.data.toList = true) := by
          show Lx.isInt s.data.toList = true
          have hr : r = [] := by
            have := HS.out
            rw [hbr] at this; simp at this
            exact List.length_eq_zero_iff.1 (by omega)
          have hd := Lx.digits_of_lead (l := s.data.toList) (by rw [HS.out]; exact hle)
          have := Lx.val_lt _ hd
          rw [HS.out, h2] at this
          rw [HI.out, decide_eq_true hle, decide_eq_true (by omega), hbr, hr]
          rfl
        have hg : decide ((s.size : Int) > 1) = false := by simp; omega
        clear hbr hb0 ht HI
        go_enter Tryz.func121, Tryz.ntmps121
        go_wp2_with (go_at_call 127; refine Calls.mono HL.out ?_; rintro e w' ⟨rfl, rfl⟩)
        go_ret
        exact ⟨ret_bool (by rw [HZ.out]; try simp; try omega), rfl⟩
      · obtain ⟨c, q, hcq⟩ : ∃ c q, r = c :: q := by
          cases r with
          | nil => have := HS.out; rw [hbr] at this; simp at this; omega
          | cons c q => exact ⟨c, q, rfl⟩
        have HZ : Hid (Lx.noZero s.data.toList = !((s[0].toNat : Int) == 48)) := by
          show Lx.noZero s.data.toList = _
          rw [hb0, hbr, hcq]
          show (b != 48) = _
          rw [Bool.eq_iff_iff]
          simp only [bne_iff_ne, ne_eq, Bool.not_eq_true', beq_eq_false_iff_ne]
          constructor
          · intro h e; apply h; apply UInt8.toNat_inj.1; have : (48 : UInt8).toNat = 48 := rfl; omega
          · intro h e; apply h; rw [e]; rfl
        have hd := Lx.digits_of_lead (l := s.data.toList) (by rw [HS.out]; exact hle)
        have HV : Hid (Lx.noZero s.data.toList = true → decide (Lx.val s.data.toList ≤ 9223372036854775807) = (decide (s.size < 19) || (decide (s.size = 19) && (Op.bytesLess s.data.toList Lx.most || s.data.toList == Lx.most)))) := fun h => by
          have := Lx.val_text s.data.toList hd (by rw [hbr]; simp) h
          rw [HS.out] at this
          exact this
        have h3 : 1 < s.size := by omega
        cases h4 : ((s[0].toNat : Int) == 48) with
        | true =>
          have HF : Hid (Lx.isInt s.data.toList = false) := by
            show Lx.isInt s.data.toList = false
            rw [HI.out, HZ.out, h4]; simp
          clear hbr hb0 ht HI HZ HV hd hcq
          go_enter Tryz.func121, Tryz.ntmps121
          go_wp2_with (go_at_call 127; refine Calls.mono HL.out ?_; rintro e w' ⟨rfl, rfl⟩)
          go_ret
          exact ⟨ret_bool HF.out.symm, rfl⟩
        | false =>
          have HF : Hid (Lx.isInt s.data.toList = (decide (s.size < 19) || (decide (s.size = 19) && (Op.bytesLess s.data.toList Lx.most || s.data.toList == Lx.most)))) := by
            show Lx.isInt s.data.toList = _
            rw [HI.out, decide_eq_true hle, HZ.out, h4, HV.out (by rw [HZ.out, h4]; rfl)]; simp
          have HT : Hid (_) := ht
          clear hbr hb0 ht HI HZ HV hd hcq
          by_cases h5 : s.size < 19
          · go_enter Tryz.func121, Tryz.ntmps121
            go_wp2_with (go_at_call 127; refine Calls.mono HL.out ?_; rintro e w' ⟨rfl, rfl⟩)
            go_ret
            exact ⟨ret_bool (by rw [HF.out, decide_eq_true h5]; rfl), rfl⟩
          · by_cases h6 : s.size = 19
            · have i6 : ((s.size : Int) == 19) = true := by rw [beq_iff_eq]; omega
              go_enter Tryz.func121, Tryz.ntmps121
              go_wp2_with (go_at_call 127; refine Calls.mono HL.out ?_; rintro e w' ⟨rfl, rfl⟩)
              go_ret
              exact ⟨ret_bool (by rw [HF.out, decide_eq_false h5, decide_eq_true h6, ← HT.out]; rfl), rfl⟩
            · have i6 : ((s.size : Int) == 19) = false := by rw [beq_eq_false_iff_ne]; omega
              go_enter Tryz.func121, Tryz.ntmps121
              go_wp2_with (go_at_call 127; refine Calls.mono HL.out ?_; rintro e w' ⟨rfl, rfl⟩)
              go_ret
              exact ⟨ret_bool (by rw [HF.out, decide_eq_false h5, decide_eq_false h6]; simp; try omega), rfl⟩

end Go.Proofs.YtnndgjnihhafbaaGreatDoor

/-
  The walks of the reader: what is left, what is taken.
-/
namespace Go.Proofs.YtnndgjnihhafbaaGreatDoor
open Go.RowKit Go.Shelf

attribute [local go_sem] Oper.semAt_some

/-- The cells of a lexer. -/
def lxC (s : ByteArray) (k : Nat) (tv : Value) (e f : Nat) : Array Value := #[.string s, .int .i64 k, tv, .int .i64 e, .int .i64 f]
/-- A lexer lies in block b. -/
def LexAt (b : Nat) (s : ByteArray) (k : Nat) (tv : Value) (e f : Nat) (W : World) : Prop := W.heap[b]? = some (.cells (lxC s k tv e f) 104 (0, 0))
theorem LexAt.cells {b k e f : Nat} {s : ByteArray} {tv : Value} {W : World} (h : LexAt b s k tv e f W) : W.cell? ⟨b, 0, none⟩ = some (.string s) ∧ W.cell? ⟨b, 1, none⟩ = some (.int .i64 k) ∧ W.cell? ⟨b, 2, none⟩ = some tv ∧ W.cell? ⟨b, 3, none⟩ = some (.int .i64 e) ∧ W.cell? ⟨b, 4, none⟩ = some (.int .i64 f) :=
  ⟨by rw [Lib.cell_of_heap h]; rfl, by rw [Lib.cell_of_heap h]; rfl, by rw [Lib.cell_of_heap h]; rfl, by rw [Lib.cell_of_heap h]; rfl, by rw [Lib.cell_of_heap h]; rfl⟩
theorem LexAt.frozen {b k e f : Nat} {s : ByteArray} {tv : Value} {W : World} (h : LexAt b s k tv e f W) (i : Nat) : W.frozen? ⟨b, i, none⟩ = false := frozen_of_row W b i _ _ h
theorem LexAt.lt {b k e f : Nat} {s : ByteArray} {tv : Value} {W : World} (h : LexAt b s k tv e f W) : b < W.heap.size := (Array.getElem?_eq_some_iff.1 h).1

set_option maxRecDepth 100000 in
set_option maxHeartbeats 1000000 in
theorem more_any (b k e f : Nat) (s : ByteArray) (tv : Value) (w : World) (h : LexAt b s k tv e f w) :
    Calls Tryz.prog 113 #[.pointer (some ⟨b, 0, none⟩)] w fun r w' => r = .returned (.bool (decide (k < s.size))) ∧ ∃ d, w' = w.drewN d := by
  obtain ⟨c0, c1, -⟩ := h.cells
  clear h
  go_enter Tryz.func113, Tryz.ntmps113
  go_wp2
  go_quiet (fail)
  go_wp2
  go_ret
  exact ⟨ret_bool (by rw [Bool.eq_iff_iff]), _, rfl⟩

set_option maxRecDepth 100000 in
set_option maxHeartbeats 1000000 in
theorem left_any (b k e f : Nat) (s : ByteArray) (tv : Value) (w : World) (h : LexAt b s k tv e f w) (hk : k ≤ s.size) :
    Calls Tryz.prog 118 #[.pointer (some ⟨b, 0, none⟩)] w fun r w' => r = .returned (.string (s.extract k s.size)) ∧ ∃ d, w' = w.drewN d := by
  obtain ⟨c0, c1, -⟩ := h.cells
  clear h
  go_enter Tryz.func118, Tryz.ntmps118
  go_wp2
  go_quiet (fail)
  go_wp2
  go_ret
  exact ⟨rfl, _, rfl⟩

theorem LexAt.put {b k e f : Nat} {s : ByteArray} {tv : Value} {W : World} (h : LexAt b s k tv e f W) (n : Nat) : LexAt b s n tv e f (W.setCell ⟨b, 1, none⟩ (.int .i64 n)) :=
  heap_setCell_same W b 1 _ 104 (.int .i64 n) h

set_option maxRecDepth 100000 in
set_option maxHeartbeats 1000000 in
theorem take_any (b k e f n : Nat) (s : ByteArray) (tv : Value) (w : World) (h : LexAt b s k tv e f w) (hk : k + n ≤ s.size) (hs : s.size ≤ maxLen) :
    Calls Tryz.prog 122 #[.pointer (some ⟨b, 0, none⟩), .int .i64 n] w fun r w' => r = .returned (.string (s.extract k (k + n))) ∧ ∃ d, w' = (w.setCell ⟨b, 1, none⟩ (.int .i64 ((k + n : Nat) : Int))).drewN d := by
  unfold maxLen at hs
  obtain ⟨c0, c1, -⟩ := h.cells
  have f1 := h.frozen 1
  have h2 := h.put (k + n)
  rw [Int.natCast_add] at h2 ⊢
  obtain ⟨W, hW⟩ : ∃ W, W = w.setCell ⟨b, 1, none⟩ (.int .i64 ((k : Int) + (n : Int))) := ⟨_, rfl⟩
  rw [← hW] at h2 ⊢
  obtain ⟨d0, d1, -⟩ := h2.cells
  rw [Int.natCast_add] at d1
  have hadd : IntKind.i64.wrap ((k : Int) + (n : Int)) = (k : Int) + (n : Int) := by rw [IntKind.wrap_i64]; omega
  clear h h2
  go_enter Tryz.func122, Tryz.ntmps122
  go_wp2
  rw [← hW]
  go_quiet (fail)
  go_wp2
  go_ret
  exact ⟨rfl, _, rfl⟩

end Go.Proofs.YtnndgjnihhafbaaGreatDoor

/-
  A lexer at work: what it holds, what stays; the walks of takeAll and put.
-/
namespace Go.Proofs.YtnndgjnihhafbaaGreatDoor
open Go.RowKit Go.Shelf

attribute [local go_sem] Oper.semAt_some

/-- What lay below B is as it was; and whatever holds no tokens, but block b. -/
def KeepL (B b : Nat) (W W' : World) : Prop := Below B W W' ∧ ∀ (k : Nat) (c : Array Value) (t : TypeId) (fr : Nat × Nat), W.heap[k]? = some (.cells c t fr) → t ≠ 149 → k ≠ b → W'.heap[k]? = some (.cells c t fr)
theorem KeepL.refl (B b : Nat) (W : World) : KeepL B b W W := ⟨Below.refl _ _, fun _ _ _ _ h _ _ => h⟩
theorem KeepL.trans {B b : Nat} {W X Y : World} (h : KeepL B b W X) (k : KeepL B b X Y) : KeepL B b W Y := ⟨h.1.trans k.1, fun j c t fr hj h1 h2 => k.2 j c t fr (h.2 j c t fr hj h1 h2) h1 h2⟩
theorem KeepL.of_below {B b : Nat} {W X : World} (h : Below W.heap.size W X) (hn : B ≤ W.heap.size) : KeepL B b W X :=
  ⟨h.mono hn, fun j _ _ _ hj _ _ => (h.block j (Array.getElem?_eq_some_iff.1 hj).1).trans hj⟩
theorem KeepL.of_grown {B b n : Nat} {W W' : World} {v : Value} {xs : List Value} (hrow : W.ownsRow B 149 3 v n xs) (hg : W.grownBy W' v.ownBlock) (hn : B ≤ W.heap.size) : KeepL B b W W' := by
  have h := KeepT.of_grown hrow hg hn
  exact ⟨h.1, fun j c t fr hj h1 _ => h.2 j c t fr hj h1⟩
theorem KeepL.of_box {B b : Nat} {W W' : World} (hB : B ≤ b) (hW : B ≤ W.heap.size) (hg : W.grownBy W' (some b)) : KeepL B b W W' := by
  refine ⟨⟨hg.os, hg.tape, hg.output, hg.size, fun k hk => hg.block k (by omega) (fun e => by cases e; omega)⟩, fun j c t fr hj _ h2 => ?_⟩
  exact (hg.block j (Array.getElem?_eq_some_iff.1 hj).1 (fun e => h2 (by cases e; rfl))).trans hj

/-- The cells of tokens. -/
def tokC (t : Lx.Tok) : List Value := [.int .u8 t.kind, txtV t.text, .int .i64 t.at_]
def tokCells (ts : List Lx.Tok) : List Value := ts.flatMap tokC
theorem tokCells_snoc (ts : List Lx.Tok) (t : Lx.Tok) : tokCells (ts ++ [t]) = tokCells ts ++ tokC t := by simp [tokCells]
theorem infoTok : (Tryz.prog.info? 149).map (fun i => (i.zero, i.size, i.bytes)) = some (some (.agg #[.int .u8 0, .string ⟨#[]⟩, .int .i64 0]), 3, 32) := by kernel_rfl

/-- A lexer of s: where it stands, what it told so far, its fault. -/
structure LSt (B b : Nat) (s : ByteArray) (k : Nat) (acc : List Lx.Tok) (e f : Nat) (W : World) : Prop where
  row : ∃ tv, LexAt b s k tv e f W ∧ W.ownsRow B 149 3 tv acc.length (tokCells acc)
  low : B ≤ b
theorem LSt.lt {B b k e f : Nat} {s : ByteArray} {acc : List Lx.Tok} {W : World} (h : LSt B b s k acc e f W) : b < W.heap.size := by
  obtain ⟨tv, h1, -⟩ := h.row; exact h1.lt
theorem LSt.size {B b k e f : Nat} {s : ByteArray} {acc : List Lx.Tok} {W : World} (h : LSt B b s k acc e f W) : B ≤ W.heap.size := by
  have := h.lt; have := h.low; omega
theorem LSt.below {B b k e f : Nat} {s : ByteArray} {acc : List Lx.Tok} {W W' : World} (h : LSt B b s k acc e f W) (hb : Below W.heap.size W W') : LSt B b s k acc e f W' := by
  obtain ⟨tv, h1, h2⟩ := h.row
  exact ⟨⟨tv, (hb.block _ h1.lt).trans h1, owns_below h2 hb⟩, h.low⟩
/-- A cell of the lexer is set. -/
theorem owns_box {B b k e f n : Nat} {s : ByteArray} {tv v : Value} {xs : List Value} {W W' : World} (h : LexAt b s k tv e f W) (ho : W.ownsRow B 149 3 v n xs) (hg : W.grownBy W' (some b)) : W'.ownsRow B 149 3 v n xs := by
  refine ⟨ho.1, ?_⟩
  rcases ho.2 with h0 | ⟨g, cap, cur, hv, h1, hgb, h2⟩
  · exact .inl h0
  · refine .inr ⟨g, cap, cur, hv, h1, (hg.block g (Array.getElem?_eq_some_iff.1 hgb).1 (fun e1 => ?_)).trans hgb, h2⟩
    have e2 : g = b := Option.some.inj e1
    unfold LexAt at h
    rw [e2, h] at hgb
    cases hgb

theorem extract_rest (r : ByteArray) (k : Nat) : (r.extract k r.size).data.toList = r.data.toList.drop k := by
  rw [Lib.extract_data]
  apply List.take_of_length_le
  simp
theorem extract_part (r : ByteArray) (k n : Nat) : (r.extract k (k + n)).data.toList = (r.data.toList.drop k).take n := by
  rw [Lib.extract_data, Nat.add_sub_cancel_left]
theorem size_rest (r : ByteArray) (k : Nat) (hs : r.size ≤ maxLen) : (r.extract k r.size).size ≤ maxLen := by
  rw [ByteArray.size_extract]; omega
theorem grown_draws {W W' : World} {o : Option Nat} (h : W.grownBy W' o) (d : Nat) : W.grownBy (W'.drewN d) o := ⟨h.os, h.tape, h.output, h.size, h.block⟩
theorem grown_drawn {W W' : World} {o : Option Nat} {d : Nat} (h : (W.drewN d).grownBy W' o) : W.grownBy W' o := ⟨h.os, h.tape, h.output, h.size, h.block⟩

set_option maxRecDepth 100000 in
set_option maxHeartbeats 1000000 in
theorem takeAll_ld (B b k e f : Nat) (s : ByteArray) (acc : List Lx.Tok) (w : World) (h : LSt B b s k acc e f w) (hk : k ≤ s.size) (hs : s.size ≤ maxLen) :
    Calls Tryz.prog 115 #[.pointer (some ⟨b, 0, none⟩), .func (.func 120) #[] #[]] w fun r w' => r = .returned (.string (s.extract k (k + Lx.lead Lx.ldI (s.data.toList.drop k)))) ∧ LSt B b s (k + Lx.lead Lx.ldI (s.data.toList.drop k)) acc e f w' ∧ KeepL B b w w' := by
  obtain ⟨tv, h1, h2⟩ := h.row
  have hsz := h.size
  have hlow := h.low
  obtain ⟨n, hn⟩ : ∃ n, n = Lx.lead Lx.ldI (s.data.toList.drop k) := ⟨_, rfl⟩
  have hnk : k + n ≤ s.size := by
    have h3 := Lx.lead_le Lx.ldI (s.data.toList.drop k)
    have h4 : s.data.toList.length = s.size := rfl
    rw [← hn, List.length_drop, h4] at h3
    omega
  have HL : Hid (∀ w, Calls Tryz.prog 127 #[.string (s.extract k s.size), .func (.func 120) #[] #[]] w fun e w' => e = .returned (.int .i64 n) ∧ w' = w) := fun w => by
    have := lead_ld (s.extract k s.size) (size_rest s k hs) w
    rw [extract_rest, ← hn] at this
    exact this
  rw [← hn]
  clear hn h
  go_enter Tryz.func115, Tryz.ntmps115
  go_wp2_with fail
  refine (left_any b k e f s tv w h1 hk).mono ?_
  rintro r w1 ⟨rfl, d1, rfl⟩
  go_wp2_with fail
  refine (HL.out _).mono ?_
  rintro r w2 ⟨rfl, rfl⟩
  go_wp2_with fail
  refine (take_any b k e f n s tv (w.drewN d1) h1 hnk hs).mono ?_
  rintro r w3 ⟨rfl, d3, rfl⟩
  have h1' : LexAt b s k tv e f (w.drewN d1) := h1
  have hg : w.grownBy (((w.drewN d1).setCell ⟨b, 1, none⟩ (.int .i64 ((k + n : Nat) : Int))).drewN d3) (some b) := grown_draws (grown_drawn (grown_set (w.drewN d1) b 1 _)) d3
  have HF : Hid (LSt B b s (k + n) acc e f (((w.drewN d1).setCell ⟨b, 1, none⟩ (.int .i64 ((k + n : Nat) : Int))).drewN d3) ∧ KeepL B b w (((w.drewN d1).setCell ⟨b, 1, none⟩ (.int .i64 ((k + n : Nat) : Int))).drewN d3)) := ⟨⟨⟨tv, h1'.put (k + n), owns_box h1 h2 hg⟩, hlow⟩, KeepL.of_box hlow hsz hg⟩
  obtain ⟨X, hX⟩ : ∃ X, X = (((w.drewN d1).setCell ⟨b, 1, none⟩ (.int .i64 ((k + n : Nat) : Int))).drewN d3) := ⟨_, rfl⟩
  rw [← hX] at HF ⊢
  clear hX hg h1' h1 h2
  go_wp2
  go_ret
  exact ⟨rfl, HF.out⟩

set_option maxRecDepth 100000 in
set_option maxHeartbeats 1000000 in
theorem takeAll_blank (B b k e f : Nat) (s : ByteArray) (acc : List Lx.Tok) (w : World) (h : LSt B b s k acc e f w) (hk : k ≤ s.size) (hs : s.size ≤ maxLen) :
    Calls Tryz.prog 115 #[.pointer (some ⟨b, 0, none⟩), .func (.func 116) #[] #[]] w fun r w' => r = .returned (.string (s.extract k (k + Lx.lead Lx.blankI (s.data.toList.drop k)))) ∧ LSt B b s (k + Lx.lead Lx.blankI (s.data.toList.drop k)) acc e f w' ∧ KeepL B b w w' := by
  obtain ⟨tv, h1, h2⟩ := h.row
  have hsz := h.size
  have hlow := h.low
  obtain ⟨n, hn⟩ : ∃ n, n = Lx.lead Lx.blankI (s.data.toList.drop k) := ⟨_, rfl⟩
  have hnk : k + n ≤ s.size := by
    have h3 := Lx.lead_le Lx.blankI (s.data.toList.drop k)
    have h4 : s.data.toList.length = s.size := rfl
    rw [← hn, List.length_drop, h4] at h3
    omega
  have HL : Hid (∀ w, Calls Tryz.prog 127 #[.string (s.extract k s.size), .func (.func 116) #[] #[]] w fun e w' => e = .returned (.int .i64 n) ∧ w' = w) := fun w => by
    have := lead_blank (s.extract k s.size) (size_rest s k hs) w
    rw [extract_rest, ← hn] at this
    exact this
  rw [← hn]
  clear hn h
  go_enter Tryz.func115, Tryz.ntmps115
  go_wp2_with fail
  refine (left_any b k e f s tv w h1 hk).mono ?_
  rintro r w1 ⟨rfl, d1, rfl⟩
  go_wp2_with fail
  refine (HL.out _).mono ?_
  rintro r w2 ⟨rfl, rfl⟩
  go_wp2_with fail
  refine (take_any b k e f n s tv (w.drewN d1) h1 hnk hs).mono ?_
  rintro r w3 ⟨rfl, d3, rfl⟩
  have h1' : LexAt b s k tv e f (w.drewN d1) := h1
  have hg : w.grownBy (((w.drewN d1).setCell ⟨b, 1, none⟩ (.int .i64 ((k + n : Nat) : Int))).drewN d3) (some b) := grown_draws (grown_drawn (grown_set (w.drewN d1) b 1 _)) d3
  have HF : Hid (LSt B b s (k + n) acc e f (((w.drewN d1).setCell ⟨b, 1, none⟩ (.int .i64 ((k + n : Nat) : Int))).drewN d3) ∧ KeepL B b w (((w.drewN d1).setCell ⟨b, 1, none⟩ (.int .i64 ((k + n : Nat) : Int))).drewN d3)) := ⟨⟨⟨tv, h1'.put (k + n), owns_box h1 h2 hg⟩, hlow⟩, KeepL.of_box hlow hsz hg⟩
  obtain ⟨X, hX⟩ : ∃ X, X = (((w.drewN d1).setCell ⟨b, 1, none⟩ (.int .i64 ((k + n : Nat) : Int))).drewN d3) := ⟨_, rfl⟩
  rw [← hX] at HF ⊢
  clear hX hg h1' h1 h2
  go_wp2
  go_ret
  exact ⟨rfl, HF.out⟩

set_option maxRecDepth 100000 in
set_option maxHeartbeats 1000000 in
theorem takeAll_inLine (B b k e f : Nat) (s : ByteArray) (acc : List Lx.Tok) (w : World) (h : LSt B b s k acc e f w) (hk : k ≤ s.size) (hs : s.size ≤ maxLen) :
    Calls Tryz.prog 115 #[.pointer (some ⟨b, 0, none⟩), .func (.func 119) #[] #[]] w fun r w' => r = .returned (.string (s.extract k (k + Lx.lead Lx.inLineI (s.data.toList.drop k)))) ∧ LSt B b s (k + Lx.lead Lx.inLineI (s.data.toList.drop k)) acc e f w' ∧ KeepL B b w w' := by
  obtain ⟨tv, h1, h2⟩ := h.row
  have hsz := h.size
  have hlow := h.low
  obtain ⟨n, hn⟩ : ∃ n, n = Lx.lead Lx.inLineI (s.data.toList.drop k) := ⟨_, rfl⟩
  have hnk : k + n ≤ s.size := by
    have h3 := Lx.lead_le Lx.inLineI (s.data.toList.drop k)
    have h4 : s.data.toList.length = s.size := rfl
    rw [← hn, List.length_drop, h4] at h3
    omega
  have HL : Hid (∀ w, Calls Tryz.prog 127 #[.string (s.extract k s.size), .func (.func 119) #[] #[]] w fun e w' => e = .returned (.int .i64 n) ∧ w' = w) := fun w => by
    have := lead_inLine (s.extract k s.size) (size_rest s k hs) w
    rw [extract_rest, ← hn] at this
    exact this
  rw [← hn]
  clear hn h
  go_enter Tryz.func115, Tryz.ntmps115
  go_wp2_with fail
  refine (left_any b k e f s tv w h1 hk).mono ?_
  rintro r w1 ⟨rfl, d1, rfl⟩
  go_wp2_with fail
  refine (HL.out _).mono ?_
  rintro r w2 ⟨rfl, rfl⟩
  go_wp2_with fail
  refine (take_any b k e f n s tv (w.drewN d1) h1 hnk hs).mono ?_
  rintro r w3 ⟨rfl, d3, rfl⟩
  have h1' : LexAt b s k tv e f (w.drewN d1) := h1
  have hg : w.grownBy (((w.drewN d1).setCell ⟨b, 1, none⟩ (.int .i64 ((k + n : Nat) : Int))).drewN d3) (some b) := grown_draws (grown_drawn (grown_set (w.drewN d1) b 1 _)) d3
  have HF : Hid (LSt B b s (k + n) acc e f (((w.drewN d1).setCell ⟨b, 1, none⟩ (.int .i64 ((k + n : Nat) : Int))).drewN d3) ∧ KeepL B b w (((w.drewN d1).setCell ⟨b, 1, none⟩ (.int .i64 ((k + n : Nat) : Int))).drewN d3)) := ⟨⟨⟨tv, h1'.put (k + n), owns_box h1 h2 hg⟩, hlow⟩, KeepL.of_box hlow hsz hg⟩
  obtain ⟨X, hX⟩ : ∃ X, X = (((w.drewN d1).setCell ⟨b, 1, none⟩ (.int .i64 ((k + n : Nat) : Int))).drewN d3) := ⟨_, rfl⟩
  rw [← hX] at HF ⊢
  clear hX hg h1' h1 h2
  go_wp2
  go_ret
  exact ⟨rfl, HF.out⟩

set_option maxRecDepth 100000 in
set_option maxHeartbeats 4000000 in
theorem put_any (B b k e f kind : Nat) (s x : ByteArray) (acc : List Lx.Tok) (w : World) (h : LSt B b s k acc e f w) (hx : x.size ≤ k) (hk : k ≤ 1000000) (hl : acc.length ≤ 1000000) :
    Calls Tryz.prog 76 #[.pointer (some ⟨b, 0, none⟩), .int .u8 kind, .string x] w fun r w' => r = .returned (.tuple #[]) ∧ LSt B b s k (acc ++ [⟨kind, x.data.toList, k - x.size⟩]) e f w' ∧ KeepL B b w w' := by
  obtain ⟨i0, hi, hz0, hz1, hz2⟩ := info_parts infoTok
  have hBw := h.size
  have hlow := h.low
  obtain ⟨tv, h1, h2⟩ := h.row
  obtain ⟨at7, c7, rfl⟩ := slice_shape h2
  have H1 : Hid (_) := h1
  have H2 : Hid (_) := h2
  obtain ⟨c0, c1, c2, -⟩ := h1.cells
  have hblt := h1.lt
  clear h h1 h2
  have hsub : IntKind.i64.wrap ((k : Int) - (x.size : Int)) = (k : Int) - (x.size : Int) := by rw [IntKind.wrap_i64]; omega
  refine (callsIn_wide (n := 3)).1 ?_
  refine callsIn_of_wp Tryz.func76 rfl trivial ?_ rfl
  simp only [Tryz.ntmps76, List.size_toArray, List.length_cons, List.length_nil, Nat.reduceAdd, Nat.reduceSub, Array.replicate_succ, Array.replicate_zero, List.push_toArray, List.append_toArray, List.nil_append, List.cons_append]
  gi_wp2
  refine region_lex (fun w' => w'.cell? ⟨b, 1, none⟩ = some (.int .i64 k)) 4 17 rfl (by kernel_rfl) (by kernel_rfl) (by kernel_rfl) (by kernel_rfl) (fun _ _ d _ _ h => by cases d <;> exact h) c1 ?_
  simp only [List.take_succ_cons, List.take_zero]
  iterate 4 (first
    | (apply lexC_want
       · rfl
       · exact fun _ => rfl
       · (intro w' hw'; go_simp; try rfl)
       simp only [Act.put, List.setIfInBounds_toArray, List.set_cons_zero, List.set_cons_succ])
    | (apply lexC_skip
       · rfl
       · exact fun _ => rfl
       simp only [Act.put, List.setIfInBounds_toArray, List.set_cons_zero, List.set_cons_succ]))
  refine lexC_nil ?_
  refine anyC_take (i := 5) (v := .int .u8 kind) rfl rfl (by kernel_rfl) (by kernel_rfl) (by kernel_rfl) (fun _ _ d _ _ h => by cases d <;> exact h) c1 (by rfl) (fun _ => rfl) (by intro w' hw'; go_simp; try rfl) ?_
  refine anyC_take (i := 6) (v := .string x) rfl rfl (by kernel_rfl) (by kernel_rfl) (by kernel_rfl) (fun _ _ d _ _ h => by cases d <;> exact h) c1 (by rfl) (fun _ => rfl) (by intro w' hw'; go_simp; try rfl) ?_
  refine anyC_take (i := 7) (v := .pointer (some ⟨b, 0, none⟩)) rfl rfl (by kernel_rfl) (by kernel_rfl) (by kernel_rfl) (fun _ _ d _ _ h => by cases d <;> exact h) c1 (by rfl) (fun _ => rfl) (by intro w' hw'; go_simp; try rfl) ?_
  refine anyC_take (i := 8) (v := .pointer (some ⟨b, 0, none⟩)) rfl rfl (by kernel_rfl) (by kernel_rfl) (by kernel_rfl) (fun _ _ d _ _ h => by cases d <;> exact h) c1 (by rfl) (fun _ => rfl) (by intro w' hw'; go_simp; try rfl) ?_
  refine anyC_take (i := 9) (v := .pointer (some ⟨b, 0, none⟩)) rfl rfl (by kernel_rfl) (by kernel_rfl) (by kernel_rfl) (fun _ _ d _ _ h => by cases d <;> exact h) c1 (by rfl) (fun _ => rfl) (by intro w' hw'; go_simp; try rfl) ?_
  refine anyC_take (i := 10) (v := .pointer (some ⟨b, 1, none⟩)) rfl rfl (by kernel_rfl) (by kernel_rfl) (by kernel_rfl) (fun _ _ d _ _ h => by cases d <;> exact h) c1 (by rfl) (fun _ => rfl) (by intro w' hw'; go_simp; try rfl) ?_
  refine anyC_take (i := 11) (v := .int .i64 k) rfl rfl (by kernel_rfl) (by kernel_rfl) (by kernel_rfl) (fun _ _ d _ _ h => by cases d <;> exact h) c1 (by rfl) (fun _ => rfl) (by intro w' hw'; go_simp; try rfl) ?_
  refine anyC_take (i := 12) (v := .string x) rfl rfl (by kernel_rfl) (by kernel_rfl) (by kernel_rfl) (fun _ _ d _ _ h => by cases d <;> exact h) c1 (by rfl) (fun _ => rfl) (by intro w' hw'; go_simp; try rfl) ?_
  refine anyC_take (i := 13) (v := .int .i64 x.size) rfl rfl (by kernel_rfl) (by kernel_rfl) (by kernel_rfl) (fun _ _ d _ _ h => by cases d <;> exact h) c1 (by rfl) (fun _ => rfl) (by intro w' hw'; go_simp; try rfl) ?_
  refine anyC_take (i := 14) (v := .int .i64 ((k : Int) - (x.size : Int))) rfl rfl (by kernel_rfl) (by kernel_rfl) (by kernel_rfl) (fun _ _ d _ _ h => by cases d <;> exact h) c1 (by rfl) (fun _ => rfl) (by intro w' hw'; go_simp; try rfl) ?_
  refine anyC_take (i := 15) (v := .agg #[.int .u8 kind, .string x, .int .i64 ((k : Int) - (x.size : Int))]) rfl rfl (by kernel_rfl) (by kernel_rfl) (by kernel_rfl) (fun _ _ d _ _ h => by cases d <;> exact h) c1 (by rfl) (fun _ => rfl) (by intro w' hw'; go_simp; try rfl) ?_
  obtain ⟨X, hX⟩ : ∃ X, X = (w.alloc (.cells #[.int .u8 kind, .string x, .int .i64 ((k : Int) - (x.size : Int))] 149)).drew := ⟨_, rfl⟩
  have bX : Below w.heap.size w X := by rw [hX]; exact below_drewN (below_nw w _) 1
  have hcn : ∀ (j : Nat) (u : Value), [Value.int .u8 kind, .string x, .int .i64 ((k : Int) - (x.size : Int))][j]? = some u → X.cell? ((⟨w.heap.size, 0, none⟩ : Addr).add j) = some u := by rw [hX]; exact cells_new w [.int .u8 kind, .string x, .int .i64 ((k : Int) - (x.size : Int))] 149
  obtain ⟨v', W', hrun, hown, hgr, -⟩ := run_append_own (P := Tryz.prog) X B 68 68 149 i0 (.agg #[.int .u8 0, .string ⟨#[]⟩, .int .i64 0]) 3 32 Tryz.underlying68 hi hz0 hz1 hz2 rfl (by decide) (.slice at7 acc.length c7) _ _ (owns_below H2.out bX) ⟨w.heap.size, 0, none⟩ 1 1 [.int .u8 kind, .string x, .int .i64 ((k : Int) - (x.size : Int))] rfl hcn (by simp [Value.oneCell']) (by unfold maxLen; omega) (by omega) (by have := bX.size; omega)
  obtain ⟨gv, cv, rfl⟩ := ownsRow_succ hown
  have hh1 : X.heap[b]? = some (.cells (lxC s k (.slice at7 acc.length c7) e f) 104 (0, 0)) := (bX.block b hblt).trans H1.out
  have hh2 : W'.heap[b]? = some (.cells (lxC s k (.slice at7 acc.length c7) e f) 104 (0, 0)) := heap_grown (owns_below H2.out bX) hgr hh1 (by decide)
  have L1 : LexAt b s k (.slice at7 acc.length c7) e f X := hh1
  have L2 : LexAt b s k (.slice at7 acc.length c7) e f W' := hh2
  obtain ⟨-, p1, p2, -⟩ := L1.cells
  obtain ⟨-, g1, g2, -⟩ := L2.cells
  have f2 := L2.frozen 2
  have hgs := grown_set W' b 2 (.slice (some ⟨gv, 0, none⟩) (acc.length + 1) cv)
  have hBX : B ≤ X.heap.size := Nat.le_trans hBw bX.size
  have LS : LexAt b s k (.slice (some ⟨gv, 0, none⟩) (acc.length + 1) cv) e f (W'.setCell ⟨b, 2, none⟩ (.slice (some ⟨gv, 0, none⟩) (acc.length + 1) cv)) := heap_setCell_same W' b 2 _ 104 _ hh2
  obtain ⟨-, s1, -⟩ := LS.cells
  have HFIN : Hid (LSt B b s k (acc ++ [⟨kind, x.data.toList, k - x.size⟩]) e f (W'.setCell ⟨b, 2, none⟩ (.slice (some ⟨gv, 0, none⟩) (acc.length + 1) cv)) ∧ KeepL B b w (W'.setCell ⟨b, 2, none⟩ (.slice (some ⟨gv, 0, none⟩) (acc.length + 1) cv))) := by
    refine ⟨⟨⟨.slice (some ⟨gv, 0, none⟩) (acc.length + 1) cv, LS, ?_⟩, hlow⟩, (KeepL.of_below bX hBw).trans ((KeepL.of_grown (owns_below H2.out bX) hgr hBX).trans (KeepL.of_box hlow (Nat.le_trans hBX hgr.size) hgs))⟩
    have h9 := owns_box L2 hown hgs
    have e8 : (acc ++ [(⟨kind, x.data.toList, k - x.size⟩ : Lx.Tok)]).length = acc.length + 1 := by simp
    rw [e8, tokCells_snoc]
    have e9 : tokC ⟨kind, x.data.toList, k - x.size⟩ = [.int .u8 kind, .string x, .int .i64 ((k : Int) - (x.size : Int))] := by
      show [Value.int .u8 kind, txtV x.data.toList, .int .i64 ((k - x.size : Nat) : Int)] = _
      rw [show ((k - x.size : Nat) : Int) = (k : Int) - (x.size : Int) by omega]; rfl
    rw [e9]
    exact h9
  clear hown hgr hh1 hh2 H1 H2 bX L1 L2 LS hgs hcn
  refine anyC_two (i := 4) (j := 16) (by kernel_rfl) rfl rfl (by rfl) (by rfl) (fun K1 hK1 => ?_) (fun K1 hK1 => ?_)
  · go_simp
    refine hK1 _ _ c1 ?_
    clear hK1
    refine anyC_one (i := 16) (by kernel_rfl) rfl (by rfl) (fun K2 hK2 => ?_)
    go_simp
    rw [← hX]
    refine hK2 _ _ p1 ?_
    clear hK2 hX
    obtain ⟨Y, hY⟩ : ∃ Y, Y = W'.setCell ⟨b, 2, none⟩ (.slice (some ⟨gv, 0, none⟩) (acc.length + 1) cv) := ⟨_, rfl⟩
    rw [← hY] at HFIN s1
    refine anyC_one (i := 17) (by kernel_rfl) rfl (by rfl) (fun K4 hK4 => ?_)
    refine op_append _ _ 68 rfl _ _ _ _ rfl rfl hrun (hK4 _ _ g1 ?_)
    clear hK4
    refine anyC_one (i := 18) (by kernel_rfl) rfl (by rfl) (fun K5 hK5 => ?_)
    go_simp
    refine hK5 _ _ g1 ?_
    clear hK5
    refine anyC_one (i := 19) (by kernel_rfl) rfl (by rfl) (fun K6 hK6 => ?_)
    go_simp
    refine hK6 _ _ g1 ?_
    clear hK6
    refine anyC_one (i := 20) (by kernel_rfl) rfl (by rfl) (fun K7 hK7 => ?_)
    go_simp
    rw [← hY]
    refine hK7 _ _ s1 ?_
    clear hK7
    refine anyC_done (by kernel_rfl) ?_
    gi_wp2
    go_end0
    exact ⟨rfl, HFIN.out⟩
  · go_simp
    rw [← hX]
    refine hK1 _ _ p1 ?_
    clear hK1 hX
    refine anyC_one (i := 4) (by kernel_rfl) rfl (by rfl) (fun K2 hK2 => ?_)
    go_simp
    refine hK2 _ _ p1 ?_
    clear hK2
    obtain ⟨Y, hY⟩ : ∃ Y, Y = W'.setCell ⟨b, 2, none⟩ (.slice (some ⟨gv, 0, none⟩) (acc.length + 1) cv) := ⟨_, rfl⟩
    rw [← hY] at HFIN s1
    refine anyC_one (i := 17) (by kernel_rfl) rfl (by rfl) (fun K4 hK4 => ?_)
    refine op_append _ _ 68 rfl _ _ _ _ rfl rfl hrun (hK4 _ _ g1 ?_)
    clear hK4
    refine anyC_one (i := 18) (by kernel_rfl) rfl (by rfl) (fun K5 hK5 => ?_)
    go_simp
    refine hK5 _ _ g1 ?_
    clear hK5
    refine anyC_one (i := 19) (by kernel_rfl) rfl (by rfl) (fun K6 hK6 => ?_)
    go_simp
    refine hK6 _ _ g1 ?_
    clear hK6
    refine anyC_one (i := 20) (by kernel_rfl) rfl (by rfl) (fun K7 hK7 => ?_)
    go_simp
    rw [← hY]
    refine hK7 _ _ s1 ?_
    clear hK7
    refine anyC_done (by kernel_rfl) ?_
    gi_wp2
    go_end0
    exact ⟨rfl, HFIN.out⟩

end Go.Proofs.YtnndgjnihhafbaaGreatDoor

/-
  The walks of the ways of a lexer: blanks, comment, run, sign.
-/
namespace Go.Proofs.YtnndgjnihhafbaaGreatDoor
open Go.RowKit Go.Shelf

attribute [local go_sem] Oper.semAt_some

theorem str_empty (x : ByteArray) (h : x.size = 0) : x = ⟨#[]⟩ := ByteArray.ext (Array.eq_empty_of_size_eq_zero h)
theorem str_some (x : ByteArray) (h : 0 < x.size) : x.toList ≠ [] ∧ (!x.toList.isEmpty) = true ∧ x.toList.isEmpty = false := by
  have h1 : x.toList ≠ [] := by
    rw [Lib.toList_data]
    intro e
    have h2 : x.data.toList.length = x.size := rfl
    rw [e] at h2; simp at h2; omega
  exact ⟨h1, by simpa using h1, by simpa using h1⟩

namespace Lx
def blanksS (l : List UInt8) : Option Step := if 0 < lead blankI l then some (.skip (lead blankI l)) else none
def commentS (l : List UInt8) : Option Step := if pre [47, 47] l = true then some (.skip (lead inLineI l)) else none
def runS (l : List UInt8) : Option Step := if 0 < lead ldI l then some (if sort (l.take (lead ldI l)) = 0 then .bad 101 else .tok (sort (l.take (lead ldI l))) (lead ldI l)) else none
def signS (l : List UInt8) : Option Step := (sign? l).map fun t => .tok 4 t.length
end Lx

/-- What a way does: nothing, where it is not open. -/
def Way (B b : Nat) (s : ByteArray) (k : Nat) (acc : List Lx.Tok) (r : Ending) (W : World) : Option Lx.Step → Prop
  | none => r = .returned (.bool false) ∧ LSt B b s k acc 0 0 W
  | some (.skip n) => r = .returned (.bool true) ∧ LSt B b s (k + n) acc 0 0 W
  | some (.tok kind n) => r = .returned (.bool true) ∧ LSt B b s (k + n) (acc ++ [⟨kind, (s.data.toList.drop k).take n, k⟩]) 0 0 W
  | some (.bad e) => r = .returned (.bool true) ∧ ∃ k', k ≤ k' ∧ LSt B b s k' acc e k W

theorem size_part (r : ByteArray) (k n : Nat) (h : k + n ≤ r.size) : (r.extract k (k + n)).size = n := by
  rw [ByteArray.size_extract]; omega
theorem lead_fits (p : Int → Bool) (s : ByteArray) (k : Nat) (hk : k ≤ s.size) : k + Lx.lead p (s.data.toList.drop k) ≤ s.size := by
  have h3 := Lx.lead_le p (s.data.toList.drop k)
  have h4 : s.data.toList.length = s.size := rfl
  rw [List.length_drop, h4] at h3
  omega

set_option maxRecDepth 100000 in
set_option maxHeartbeats 1000000 in
theorem blanks_any (B b k : Nat) (s : ByteArray) (acc : List Lx.Tok) (w : World) (h : LSt B b s k acc 0 0 w) (hk : k ≤ s.size) (hs : s.size ≤ maxLen) :
    Calls Tryz.prog 72 #[.pointer (some ⟨b, 0, none⟩)] w fun r w' => Way B b s k acc r w' (Lx.blanksS (s.data.toList.drop k)) ∧ KeepL B b w w' := by
  have HT : Hid (_) := takeAll_blank B b k 0 0 s acc w h hk hs
  have hf := lead_fits Lx.blankI s k hk
  have hx := size_part s k _ hf
  unfold Lx.blanksS
  obtain ⟨n, hn⟩ : ∃ n, n = Lx.lead Lx.blankI (s.data.toList.drop k) := ⟨_, rfl⟩
  rw [← hn] at HT hf hx ⊢
  obtain ⟨x, hxe⟩ : ∃ x, x = s.extract k (k + n) := ⟨_, rfl⟩
  rw [← hxe] at HT hx
  clear hn hxe h
  by_cases h0 : 0 < n
  · rw [if_pos h0]
    obtain ⟨n1, n2, n3⟩ := str_some x (by omega)
    clear hx
    go_enter Tryz.func72, Tryz.ntmps72
    go_wp2_with fail
    refine Calls.mono HT.out ?_
    rintro r w1 ⟨rfl, h1, h2⟩
    have HF : Hid (_) := And.intro h1 h2
    clear h1 h2 HT
    go_wp2
    go_ret
    exact ⟨⟨rfl, HF.out.1⟩, HF.out.2⟩
  · rw [if_neg h0]
    have hx0 := str_empty x (by omega)
    have hn0 : n = 0 := by omega
    subst hn0 hx0
    clear hx
    rw [Nat.add_zero] at HT
    go_enter Tryz.func72, Tryz.ntmps72
    go_wp2_with fail
    refine Calls.mono HT.out ?_
    rintro r w1 ⟨rfl, h1, h2⟩
    have HF : Hid (_) := And.intro h1 h2
    clear h1 h2 HT
    go_wp2
    go_ret
    exact ⟨⟨rfl, HF.out.1⟩, HF.out.2⟩

set_option maxRecDepth 100000 in
set_option maxHeartbeats 1000000 in
theorem comment_any (B b k : Nat) (s : ByteArray) (acc : List Lx.Tok) (w : World) (h : LSt B b s k acc 0 0 w) (hk : k ≤ s.size) (hs : s.size ≤ maxLen) :
    Calls Tryz.prog 73 #[.pointer (some ⟨b, 0, none⟩)] w fun r w' => Way B b s k acc r w' (Lx.commentS (s.data.toList.drop k)) ∧ KeepL B b w w' := by
  obtain ⟨tv, h1, -⟩ := h.row
  have HP : Hid (∀ w, Calls Tryz.prog 117 #[.string (s.extract k s.size), .string ⟨#[47, 47]⟩] w fun e w' => e = .returned (.bool (pre [47, 47] (s.data.toList.drop k))) ∧ w' = w) := fun w => by
    have := prefix_any (s.extract k s.size) ⟨#[47, 47]⟩ w
    rw [extract_rest] at this
    exact this
  have hB := h.size
  have H : Hid (_) := h
  clear h
  unfold Lx.commentS
  cases hp : pre [47, 47] (s.data.toList.drop k) with
  | false =>
    rw [if_neg (by simp)]
    rw [hp] at HP
    go_enter Tryz.func73, Tryz.ntmps73
    go_wp2_with fail
    refine (left_any b k 0 0 s tv w h1 hk).mono ?_
    rintro r w1 ⟨rfl, d1, rfl⟩
    go_wp2_with fail
    refine (HP.out _).mono ?_
    rintro r w2 ⟨rfl, rfl⟩
    go_wp2
    go_ret
    have bd : Below w.heap.size w (w.drewN d1) := below_drewN (Below.refl _ w) d1
    exact ⟨⟨rfl, H.out.below bd⟩, KeepL.of_below bd hB⟩
  | true =>
    rw [if_pos rfl]
    rw [hp] at HP
    go_enter Tryz.func73, Tryz.ntmps73
    go_wp2_with fail
    refine (left_any b k 0 0 s tv w h1 hk).mono ?_
    rintro r w1 ⟨rfl, d1, rfl⟩
    go_wp2_with fail
    refine (HP.out _).mono ?_
    rintro r w2 ⟨rfl, rfl⟩
    have bd : Below w.heap.size w (w.drewN d1) := below_drewN (Below.refl _ w) d1
    have HT : Hid (_) := takeAll_inLine B b k 0 0 s acc (w.drewN d1) (H.out.below bd) hk hs
    have HK : Hid (KeepL B b w (w.drewN d1)) := KeepL.of_below bd hB
    clear bd
    go_wp2_with fail
    refine Calls.mono HT.out ?_
    rintro r w3 ⟨rfl, h3, h4⟩
    have HF : Hid (_) := And.intro h3 h4
    clear h3 h4 HT
    go_wp2
    go_ret
    exact ⟨⟨rfl, HF.out.1⟩, HK.out.trans HF.out.2⟩

end Go.Proofs.YtnndgjnihhafbaaGreatDoor

/-
  The walk of the lexer's way run: letters and digits.
-/
namespace Go.Proofs.YtnndgjnihhafbaaGreatDoor
open Go.RowKit Go.Shelf

attribute [local go_sem] Oper.semAt_some

theorem LexAt.fault {b k e f : Nat} {s : ByteArray} {tv : Value} {W : World} (h : LexAt b s k tv e f W) (e' f' : Nat) : LexAt b s k tv e' f' ((W.setCell ⟨b, 3, none⟩ (.int .i64 e')).setCell ⟨b, 4, none⟩ (.int .i64 f')) ∧ W.grownBy ((W.setCell ⟨b, 3, none⟩ (.int .i64 e')).setCell ⟨b, 4, none⟩ (.int .i64 f')) (some b) := by
  have h1 := heap_setCell_same W b 3 _ 104 (.int .i64 e') h
  have h2 := heap_setCell_same _ b 4 _ 104 (.int .i64 f') h1
  refine ⟨h2, ?_⟩
  have g1 := grown_set W b 3 (.int .i64 e')
  have g2 := grown_set (W.setCell ⟨b, 3, none⟩ (.int .i64 e')) b 4 (.int .i64 f')
  exact ⟨g2.os.trans g1.os, g2.tape.trans g1.tape, g2.output.trans g1.output, Nat.le_trans g1.size g2.size, fun j hj hn => (g2.block j (Nat.lt_of_lt_of_le hj g1.size) hn).trans (g1.block j hj hn)⟩

set_option maxRecDepth 100000 in
set_option maxHeartbeats 2000000 in
theorem run_any (B b k : Nat) (s : ByteArray) (acc : List Lx.Tok) (w : World) (h : LSt B b s k acc 0 0 w) (hk : k ≤ s.size) (hs : s.size ≤ 1000000) (hl : acc.length ≤ 1000000) :
    Calls Tryz.prog 74 #[.pointer (some ⟨b, 0, none⟩)] w fun r w' => Way B b s k acc r w' (Lx.runS (s.data.toList.drop k)) ∧ KeepL B b w w' := by
  have hsm : s.size ≤ maxLen := by unfold maxLen; omega
  have HT : Hid (_) := takeAll_ld B b k 0 0 s acc w h hk hsm
  have hf := lead_fits Lx.ldI s k hk
  have hx := size_part s k _ hf
  have hxd := extract_part s k (Lx.lead Lx.ldI (s.data.toList.drop k))
  have hBw := h.size
  unfold Lx.runS
  obtain ⟨n, hn⟩ : ∃ n, n = Lx.lead Lx.ldI (s.data.toList.drop k) := ⟨_, rfl⟩
  rw [← hn] at HT hf hx hxd ⊢
  obtain ⟨x, hxe⟩ : ∃ x, x = s.extract k (k + n) := ⟨_, rfl⟩
  rw [← hxe] at HT hx hxd
  clear hn hxe h
  by_cases h0 : 0 < n
  · rw [if_pos h0, ← hxd]
    obtain ⟨n1, n2, n3⟩ := str_some x (by omega)
    have hxm : x.size ≤ maxLen := by unfold maxLen; omega
    have HX : Hid (x.size = n) := hx
    have HXD : Hid (_) := hxd
    have hx1 : x.size ≤ k + n := by omega
    have hAt : k + n - x.size = k := by omega
    have HAT : Hid (_) := hAt
    have hsub : IntKind.i64.wrap (((k + n : Nat) : Int) - (x.size : Int)) = ((k + n : Nat) : Int) - (x.size : Int) := by rw [IntKind.wrap_i64]; omega
    clear hx hxd hAt
    have PUT : Hid (∀ (kind : Nat) (W : World), LSt B b s (k + n) acc 0 0 W → KeepL B b w W → Calls Tryz.prog 76 #[.pointer (some ⟨b, 0, none⟩), .int .u8 kind, .string x] W fun r w' => r = .returned (.tuple #[]) ∧ (Way B b s k acc (.returned (.bool true)) w' (some (.tok kind n)) ∧ KeepL B b w w')) := fun kind W hW hK => by
      refine (put_any B b (k + n) 0 0 kind s x acc W hW hx1 (by omega) hl).mono ?_
      rintro r w' ⟨rfl, q1, q2⟩
      rw [HAT.out] at q1
      refine ⟨rfl, ⟨rfl, ?_⟩, hK.trans q2⟩
      rw [← HXD.out]
      exact q1
    cases hw : Lx.isWord x.data.toList with
    | true =>
      have hso : Lx.sort x.data.toList = 2 := by simp [Lx.sort, hw]
      rw [hso, if_neg (by decide)]
      have hw1 : has Lx.words x.data.toList = true := hw
      clear hw hso
      go_enter Tryz.func74, Tryz.ntmps74
      go_wp2_with fail
      refine Calls.mono HT.out ?_
      rintro r w1 ⟨rfl, h1, h2⟩
      have H1 : Hid (_) := And.intro h1 h2
      clear h1 h2 HT
      go_wp2_with fail
      refine (words_any w1).mono ?_
      rintro r w2 ⟨v, rfl, hrow, hb⟩
      have CT : Hid (_) := contains_any _ _ _ x w2 hrow (by decide)
      rw [hw1] at CT
      obtain ⟨va, vc, vb, vd, rfl, -, -, -⟩ := hrow.parts
      have P2 : Hid (_) := PUT.out 2 w2 (H1.out.1.below hb) (H1.out.2.trans (KeepL.of_below hb H1.out.1.size))
      clear hrow hb
      go_wp2_with fail
      refine Calls.mono CT.out ?_
      rintro r w3 ⟨rfl, rfl⟩
      clear CT
      go_wp2_with fail
      refine Calls.mono P2.out ?_
      rintro r w4 ⟨rfl, q⟩
      have HQ : Hid (_) := q
      clear q P2
      go_wp2
      go_ret
      exact ⟨HQ.out.1, HQ.out.2⟩
    | false =>
      have hw1 : has Lx.words x.data.toList = false := hw
      have NM : Hid (∀ w, Calls Tryz.prog 41 #[.string x] w fun e w' => e = .returned (.bool (Lx.isName x.data.toList)) ∧ Below w.heap.size w w') := fun w => name_any x hxm w
      have IN : Hid (∀ w, Calls Tryz.prog 121 #[.string x] w fun e w' => e = .returned (.bool (Lx.isInt x.data.toList)) ∧ w' = w) := fun w => integer_any x hxm w
      cases hnm : Lx.isName x.data.toList with
      | true =>
        have hso : Lx.sort x.data.toList = 1 := by simp [Lx.sort, hw, hnm]
        rw [hso, if_neg (by decide)]
        rw [hnm] at NM
        clear hw hso hnm IN
        go_enter Tryz.func74, Tryz.ntmps74
        go_wp2_with fail
        refine Calls.mono HT.out ?_
        rintro r w1 ⟨rfl, h1, h2⟩
        have H1 : Hid (_) := And.intro h1 h2
        clear h1 h2 HT
        go_wp2_with fail
        refine (words_any w1).mono ?_
        rintro r w2 ⟨v, rfl, hrow, hb⟩
        have CT : Hid (_) := contains_any _ _ _ x w2 hrow (by decide)
        rw [hw1] at CT
        obtain ⟨va, vc, vb, vd, rfl, -, -, -⟩ := hrow.parts
        have H2 : Hid (_) := And.intro (H1.out.1.below hb) (H1.out.2.trans (KeepL.of_below (b := b) hb H1.out.1.size))
        clear hrow hb
        go_wp2_with fail
        refine Calls.mono CT.out ?_
        rintro r w3 ⟨rfl, rfl⟩
        clear CT
        go_wp2_with fail
        refine (NM.out _).mono ?_
        rintro r w4 ⟨rfl, hb⟩
        have P2 : Hid (_) := PUT.out 1 w4 (H2.out.1.below hb) (H2.out.2.trans (KeepL.of_below hb H2.out.1.size))
        clear hb
        go_wp2_with fail
        refine Calls.mono P2.out ?_
        rintro r w5 ⟨rfl, q⟩
        have HQ : Hid (_) := q
        clear q P2
        go_wp2
        go_ret
        exact ⟨HQ.out.1, HQ.out.2⟩
      | false =>
        rw [hnm] at NM
        cases hin : Lx.isInt x.data.toList with
        | true =>
          have hso : Lx.sort x.data.toList = 3 := by simp [Lx.sort, hw, hnm, hin]
          rw [hso, if_neg (by decide)]
          rw [hin] at IN
          clear hw hso hnm hin
          go_enter Tryz.func74, Tryz.ntmps74
          go_wp2_with fail
          refine Calls.mono HT.out ?_
          rintro r w1 ⟨rfl, h1, h2⟩
          have H1 : Hid (_) := And.intro h1 h2
          clear h1 h2 HT
          go_wp2_with fail
          refine (words_any w1).mono ?_
          rintro r w2 ⟨v, rfl, hrow, hb⟩
          have CT : Hid (_) := contains_any _ _ _ x w2 hrow (by decide)
          rw [hw1] at CT
          obtain ⟨va, vc, vb, vd, rfl, -, -, -⟩ := hrow.parts
          have H2 : Hid (_) := And.intro (H1.out.1.below hb) (H1.out.2.trans (KeepL.of_below (b := b) hb H1.out.1.size))
          clear hrow hb
          go_wp2_with fail
          refine Calls.mono CT.out ?_
          rintro r w3 ⟨rfl, rfl⟩
          clear CT
          go_wp2_with fail
          refine (NM.out _).mono ?_
          rintro r w4 ⟨rfl, hb⟩
          have P2 : Hid (_) := PUT.out 3 w4 (H2.out.1.below hb) (H2.out.2.trans (KeepL.of_below hb H2.out.1.size))
          clear hb
          go_wp2_with fail
          refine (IN.out _).mono ?_
          rintro r w5 ⟨rfl, rfl⟩
          go_wp2_with fail
          refine Calls.mono P2.out ?_
          rintro r w6 ⟨rfl, q⟩
          have HQ : Hid (_) := q
          clear q P2
          go_wp2
          go_ret
          exact ⟨HQ.out.1, HQ.out.2⟩
        | false =>
          have hso : Lx.sort x.data.toList = 0 := by simp [Lx.sort, hw, hnm, hin]
          rw [hso, if_pos rfl]
          rw [hin] at IN
          clear hw hso hnm hin PUT
          go_enter Tryz.func74, Tryz.ntmps74
          go_wp2_with fail
          refine Calls.mono HT.out ?_
          rintro r w1 ⟨rfl, h1, h2⟩
          have H1 : Hid (_) := And.intro h1 h2
          clear h1 h2 HT
          go_wp2_with fail
          refine (words_any w1).mono ?_
          rintro r w2 ⟨v, rfl, hrow, hb⟩
          have CT : Hid (_) := contains_any _ _ _ x w2 hrow (by decide)
          rw [hw1] at CT
          obtain ⟨va, vc, vb, vd, rfl, -, -, -⟩ := hrow.parts
          have H2 : Hid (_) := And.intro (H1.out.1.below hb) (H1.out.2.trans (KeepL.of_below (b := b) hb H1.out.1.size))
          clear hrow hb
          go_wp2_with fail
          refine Calls.mono CT.out ?_
          rintro r w3 ⟨rfl, rfl⟩
          clear CT
          go_wp2_with fail
          refine (NM.out _).mono ?_
          rintro r w4 ⟨rfl, hb⟩
          have H4 : Hid (_) := And.intro (H2.out.1.below hb) (H2.out.2.trans (KeepL.of_below (b := b) hb H2.out.1.size))
          clear hb
          obtain ⟨tv, q1, q2⟩ := H4.out.1.row
          obtain ⟨c0, c1, c2, c3, c4⟩ := q1.cells
          have f3 := q1.frozen 3
          have f4 := q1.frozen 4
          have d3 : (w4.setCell ⟨b, 3, none⟩ (.int .i64 101)).frozen? ⟨b, 4, none⟩ = false := by
            have h1 := heap_setCell_same w4 b 3 _ 104 (.int .i64 101) q1
            exact frozen_of_row _ b 4 _ _ h1
          have HFT : Hid (_) := q1.fault 101 k
          have Q2 : Hid (_) := q2
          have Q1 : Hid (_) := q1
          clear q1 q2
          have hat : ((k + n : Nat) : Int) - (x.size : Int) = (k : Int) := by have := HX.out; omega
          go_wp2_with fail
          refine (IN.out _).mono ?_
          rintro r w5 ⟨rfl, rfl⟩
          go_wp2
          have e9 : ((k : Int) + (n : Int) - (x.size : Int)) = (k : Int) := by have := HX.out; omega
          rw [e9]
          go_ret
          exact ⟨⟨rfl, k + n, by omega, ⟨tv, HFT.out.1, owns_box Q1.out Q2.out HFT.out.2⟩, H4.out.1.low⟩, H4.out.2.trans (KeepL.of_box H4.out.1.low H4.out.1.size HFT.out.2)⟩
  · rw [if_neg h0]
    have hx0 := str_empty x (by omega)
    have hn0 : n = 0 := by omega
    subst hn0 hx0
    clear hx hxd
    rw [Nat.add_zero] at HT
    go_enter Tryz.func74, Tryz.ntmps74
    go_wp2_with fail
    refine Calls.mono HT.out ?_
    rintro r w1 ⟨rfl, h1, h2⟩
    have HF : Hid (_) := And.intro h1 h2
    clear h1 h2 HT
    go_wp2
    go_ret
    exact ⟨⟨rfl, HF.out.1⟩, HF.out.2⟩

end Go.Proofs.YtnndgjnihhafbaaGreatDoor

/-
  The walk of the lexer's way sign: the longest sign.
-/
namespace Go.Proofs.YtnndgjnihhafbaaGreatDoor
open Go.RowKit Go.Shelf

attribute [local go_sem] Oper.semAt_some

/-- The table of signs is as the program's text lays it. -/
def SignsAt (B : Nat) (W : World) : Prop := 0 < B ∧ ∃ v, W.cell? ⟨0, 0, none⟩ = some v ∧ RowLow B W v Lx.signs
theorem SignsAt.keep {B : Nat} {W W' : World} (h : SignsAt B W) (hb : Below B W W') : SignsAt B W' := by
  obtain ⟨h0, v, h1, h2⟩ := h
  exact ⟨h0, v, (hb.cell (p := ⟨0, 0, none⟩) h0).trans h1, h2.below hb (Nat.le_refl _)⟩
theorem SignsAt.mono {B B' : Nat} {W : World} (h : SignsAt B W) (hb : B ≤ B') : SignsAt B' W := by
  obtain ⟨h0, v, h1, h2⟩ := h
  exact ⟨by omega, v, h1, h2.mono hb⟩

theorem find_at {α : Type} (p : α → Bool) : ∀ (L : List α) (i : Nat) (x : α), L[i]? = some x → p x = true → (∀ j y, L[j]? = some y → j < i → p y = false) → L.find? p = some x
  | [], _, _, h, _, _ => by simp at h
  | a :: L, 0, x, h, hx, _ => by simp at h; subst h; rw [List.find?_cons, hx]
  | a :: L, i + 1, x, h, hx, hn => by
    rw [List.find?_cons, hn 0 a rfl (by omega)]
    exact find_at p L i x (by simpa using h) hx (fun j y hj hji => hn (j + 1) y (by simpa using hj) (by omega))
theorem sign_find_none {α : Type} (p : α → Bool) (L : List α) (hn : ∀ (j : Nat) y, L[j]? = some y → p y = false) : L.find? p = none := by
  rw [List.find?_eq_none]
  intro x hx
  obtain ⟨j, hj⟩ := List.mem_iff_getElem?.1 hx
  rw [hn j x hj]; decide

theorem pre_len {p : ByteArray} {s : ByteArray} {k : Nat} (hk : k ≤ s.size) (h : pre p.data.toList (s.data.toList.drop k) = true) : k + p.size ≤ s.size ∧ s.extract k (k + p.size) = p := by
  have h1 := Lx.prefix_take (s := p.data.toList) h
  have h2 : p.data.toList.length = p.size := rfl
  have h3 : s.data.toList.length = s.size := rfl
  have h4 := h1.2
  rw [List.length_drop, h2, h3] at h4
  refine ⟨by omega, ByteArray.ext (Array.ext' ?_)⟩
  rw [extract_part, ← h2]
  exact h1.1
theorem signs_short (i : Nat) (x : List UInt8) (h : Lx.signs[i]? = some x) : x.length ≤ 2 := (Lx.signs_len x (List.mem_of_getElem? h)).2

set_option maxRecDepth 100000 in
set_option maxHeartbeats 2000000 in
theorem sign_any (B b k : Nat) (s : ByteArray) (acc : List Lx.Tok) (w : World) (h : LSt B b s k acc 0 0 w) (hsg : SignsAt B w) (hk : k ≤ s.size) (hs : s.size ≤ 1000000) (hl : acc.length ≤ 1000000) :
    Calls Tryz.prog 75 #[.pointer (some ⟨b, 0, none⟩)] w fun r w' => Way B b s k acc r w' (Lx.signS (s.data.toList.drop k)) ∧ KeepL B b w w' := by
  have hsm : s.size ≤ maxLen := by unfold maxLen; omega
  obtain ⟨hB0, v, g0, hrow⟩ := hsg
  obtain ⟨ao, cap, bb, off, rfl, -, hao, hc⟩ := hrow.parts
  obtain ⟨rfl, hbb⟩ := hao (by decide)
  have HC : Hid (_) := hc
  have H : Hid (_) := h
  have hlen : Lx.signs.length = 23 := rfl
  obtain ⟨N, hN⟩ : ∃ N, N = Lx.signs.length := ⟨_, rfl⟩
  rw [← hN] at g0 hlen
  have HN : Hid (N = Lx.signs.length) := hN
  clear hrow hc hao h hN
  go_enter Tryz.func75, Tryz.ntmps75
  go_wp2_with fail
  go_loopw [7] (fun t wr => ∃ i : Nat, i ≤ N ∧ t = .int .i64 i ∧ (∀ j y, Lx.signs[j]? = some y → j < i → pre y (s.data.toList.drop k) = false) ∧ LSt B b s k acc 0 0 wr ∧ KeepL B b w wr) (fun t _ => N - (intOf t).toNat)
  case atStart => exact ⟨0, Nat.zero_le _, rfl, fun j _ _ h => absurd h (Nat.not_lt_zero _), H.out, KeepL.refl _ _ _⟩
  case round =>
    obtain ⟨i, hi, rfl, hall, hst, hkp⟩ := hrel
    have HA : Hid (_) := hall
    have HST : Hid (LSt B b s k acc 0 0 wr) := hst
    have HK : Hid (KeepL B b w wr) := hkp
    clear hall hst hkp
    by_cases hlt : i < N
    · obtain ⟨y, hy⟩ : ∃ y, Lx.signs[i]? = some y := ⟨Lx.signs[i]'(by have := HN.out; omega), List.getElem?_eq_getElem _⟩
      have g1 : wr.cell? ⟨bb, off + i, none⟩ = some (.string (Ln.bs y)) := (HK.out.1.cell (p := ⟨bb, off + i, none⟩) hbb).trans (HC.out i y hy)
      have HY : Hid (_) := hy
      have hyl := signs_short i y hy
      obtain ⟨x, hxe⟩ : ∃ x, x = Ln.bs y := ⟨_, rfl⟩
      have HXD : Hid (x.data.toList = y) := by show x.data.toList = y; rw [hxe]; rfl
      have hxs : x.size ≤ 2 := by rw [hxe]; exact hyl
      rw [← hxe] at g1
      clear hy hxe hyl
      obtain ⟨tv, q1, -⟩ := HST.out.row
      have HP : Hid (∀ w, Calls Tryz.prog 117 #[.string (s.extract k s.size), .string x] w fun e w' => e = .returned (.bool (pre y (s.data.toList.drop k))) ∧ w' = w) := fun w => by
        have := prefix_any (s.extract k s.size) x w
        rw [extract_rest, HXD.out] at this
        exact this
      cases hp : pre y (s.data.toList.drop k) with
      | true =>
        rw [hp] at HP
        obtain ⟨hle, hex⟩ := pre_len (p := x) hk (by rw [HXD.out]; exact hp)
        have HF : Hid (Lx.signS (s.data.toList.drop k) = some (.tok 4 x.size)) := by
          show Lx.signS (s.data.toList.drop k) = some (.tok 4 x.size)
          have : Lx.sign? (s.data.toList.drop k) = some y := find_at _ Lx.signs i y HY.out hp HA.out
          unfold Lx.signS
          rw [this, ← HXD.out]; rfl
        have HEX : Hid (s.extract k (k + x.size) = x) := hex
        have HT : Hid (x.data.toList = (s.data.toList.drop k).take x.size) := by
          show x.data.toList = _
          rw [← extract_part, hex]
        clear hp hex
        go_wp2_with fail
        refine (left_any b k 0 0 s tv wr q1 hk).mono ?_
        rintro r w1 ⟨rfl, d1, rfl⟩
        go_wp2_with fail
        refine (HP.out _).mono ?_
        rintro r w2 ⟨rfl, rfl⟩
        have bd : Below wr.heap.size wr (wr.drewN d1) := below_drewN (Below.refl _ wr) d1
        have L1 : Hid (LSt B b s k acc 0 0 (wr.drewN d1)) := HST.out.below bd
        have K1 : Hid (KeepL B b w (wr.drewN d1)) := HK.out.trans (KeepL.of_below bd HST.out.size)
        obtain ⟨Z, hZ⟩ : ∃ Z, Z = wr.drewN d1 := ⟨_, rfl⟩
        rw [← hZ] at L1 K1 ⊢
        obtain ⟨tz, z1, z2⟩ := L1.out.row
        have TK : Hid (_) := take_any b k 0 0 x.size s tz Z z1 hle hsm
        rw [HEX.out] at TK
        have Z1 : Hid (_) := z1
        have Z2 : Hid (_) := z2
        clear hZ z1 z2 q1 bd HP HEX
        go_wp2_with fail
        refine Calls.mono TK.out ?_
        rintro r w3 ⟨rfl, d3, hw3⟩
        have hg : Z.grownBy w3 (some b) := by rw [hw3]; exact grown_draws (grown_set Z b 1 _) d3
        have L3 : LSt B b s (k + x.size) acc 0 0 w3 := by
          refine ⟨⟨tz, ?_, owns_box Z1.out Z2.out hg⟩, L1.out.low⟩
          rw [hw3]; exact LexAt.put Z1.out (k + x.size)
        have K3 : KeepL B b w w3 := K1.out.trans (KeepL.of_box L1.out.low L1.out.size hg)
        have PT : Hid (_) := put_any B b (k + x.size) 0 0 4 s x acc w3 L3 (by omega) (by omega) hl
        have HK3 : Hid (KeepL B b w w3) := K3
        clear hw3 hg L3 K3 TK Z1 Z2 L1 K1
        go_wp2_with fail
        refine Calls.mono PT.out ?_
        rintro r w4 ⟨rfl, q4, k4⟩
        have HQ : Hid (_) := And.intro q4 k4
        clear q4 k4 PT
        go_wp2
        go_ret
        rw [HF.out]
        refine ⟨⟨rfl, ?_⟩, KeepL.trans HK3.out HQ.out.2⟩
        have h9 := HQ.out.1
        rw [Nat.add_sub_cancel, HT.out] at h9
        exact h9
      | false =>
        rw [hp] at HP
        have HPF : Hid (_) := hp
        clear hp
        go_wp2_with fail
        refine (left_any b k 0 0 s tv wr q1 hk).mono ?_
        rintro r w1 ⟨rfl, d1, rfl⟩
        go_wp2_with fail
        refine (HP.out _).mono ?_
        rintro r w2 ⟨rfl, rfl⟩
        go_wp2
        go_roundw
        case rel =>
          have bd : Below wr.heap.size wr (wr.drewN d1) := below_drewN (Below.refl _ wr) d1
          refine ⟨i + 1, by omega, by go_num, fun j z hz hji => ?_, HST.out.below bd, HK.out.trans (KeepL.of_below bd HST.out.size)⟩
          by_cases hji2 : j < i
          · exact HA.out j z hz hji2
          · obtain rfl : j = i := by omega
            rw [HY.out] at hz
            cases hz
            exact HPF.out
        case measure => simp [intOf]; omega
    · have HF : Hid (Lx.signS (s.data.toList.drop k) = none) := by
        show Lx.signS (s.data.toList.drop k) = none
        have : Lx.sign? (s.data.toList.drop k) = none := sign_find_none _ Lx.signs (fun j y hj => HA.out j y hj (by have := (List.getElem?_eq_some_iff.1 hj).1; have := HN.out; omega))
        unfold Lx.signS
        rw [this]; rfl
      go_wp2
      go_ret
      rw [HF.out]
      exact ⟨⟨rfl, HST.out⟩, HK.out⟩

end Go.Proofs.YtnndgjnihhafbaaGreatDoor

/-
  What follows of chapter 5: what stands behind a text; tokens' texts with blanks between them.
-/
namespace Go.Proofs.YtnndgjnihhafbaaGreatDoor
namespace Lx

/-- What stands behind: of a text's tokens, or its fault. -/
def behind (m : List UInt8) (n : Nat) : Res → Res
  | .fault e i => .fault e i
  | .ok ts => rest m n ts

/-- Where a token is told: a token's text is one of its own kind, alone. -/
structure Tok.Fine (t : Tok) : Prop where
  ne : t.text ≠ []
  blank : lead blankI t.text = 0
  slash : [47, 47].isPrefixOf t.text = false
  own : step t.text = .tok t.kind t.text.length

theorem take_all (p : Int → Bool) (l : List UInt8) : lead p (l.take (lead p l)) = (l.take (lead p l)).length := lead_of_all p _ (lead_take_all p l)
theorem lead_take (p : Int → Bool) (l : List UInt8) (n : Nat) (hn : 0 < n) (h : lead p l = 0) : lead p (l.take n) = 0 := by
  cases l with
  | nil => simp [lead_nil]
  | cons b l =>
    obtain ⟨n, rfl⟩ : ∃ m, n = m + 1 := ⟨n - 1, by omega⟩
    rw [List.take_succ_cons, lead_cons]
    rw [lead_cons] at h
    split at h
    · omega
    · next hp => rw [if_neg hp]
theorem signs_own : ∀ s ∈ signs, lead blankI s = 0 ∧ [47, 47].isPrefixOf s = false ∧ lead ldI s = 0 ∧ sign? s = some s := by decide
theorem fine_of_step {l : List UInt8} {kind n : Nat} (k : Nat) (h : step l = .tok kind n) : (Tok.mk kind (l.take n) k).Fine := by
  have h0 := step_tok h
  have hne : l.take n ≠ [] := by
    intro e
    have := congrArg List.length e
    rw [List.length_take, List.length_nil] at this
    omega
  unfold step at h
  split at h
  next h1 => cases h
  next h1 =>
    have hb0 : lead blankI l = 0 := by omega
    have hb := lead_take blankI l n h0.1 hb0
    split at h
    next h2 => cases h
    next h2 =>
      split at h
      next h3 =>
        split at h
        · cases h
        · next h4 =>
          cases h
          have hld : lead ldI (l.take (lead ldI l)) = (l.take (lead ldI l)).length := take_all ldI l
          have hp : [47, 47].isPrefixOf (l.take (lead ldI l)) = false := by
            cases hp : [47, 47].isPrefixOf (l.take (lead ldI l)) with
            | false => rfl
            | true =>
              have := (List.isPrefixOf_iff_prefix.1 hp).trans (List.take_prefix _ _)
              exact absurd (List.isPrefixOf_iff_prefix.2 this) h2
          refine ⟨hne, hb, hp, ?_⟩
          show step (l.take (lead ldI l)) = .tok (sort (l.take (lead ldI l))) (l.take (lead ldI l)).length
          unfold step
          rw [hb, if_neg (by omega), hp, if_neg (by simp), hld, if_pos (List.length_pos_iff.2 hne), List.take_length, if_neg h4]
      next h3 =>
        split at h
        next s hs =>
          cases h
          have hm := sign_mem hs
          rw [(prefix_take hm.2).1]
          obtain ⟨g1, g2, g3, g4⟩ := signs_own s hm.1
          refine ⟨?_, g1, g2, ?_⟩
          · intro e; have := (signs_len s hm.1).1; simp [show s = [] from e] at this
          · show step s = .tok 4 s.length
            unfold step
            rw [g1, if_neg (by omega), g2, if_neg (by simp), g3, if_neg (by omega), g4]
        next => cases h

/-- All tokens are fine, rise, and stand where they say. -/
structure Told (s : List UInt8) (ts : List Tok) : Prop where
  fine : ∀ t ∈ ts, t.Fine
  there : ∀ t ∈ ts, t.at_ + t.text.length ≤ s.length ∧ (s.drop t.at_).take t.text.length = t.text
  rise : ∀ i (h : i + 1 < ts.length), ts[i].at_ + ts[i].text.length ≤ ts[i + 1].at_
theorem rest_told (s : List UInt8) (a : List UInt8) : ∀ (k : Nat) (acc ts : List Tok), a = s.drop k → k ≤ s.length → Told s acc → (∀ t ∈ acc, t.at_ + t.text.length ≤ k) → rest a k acc = .ok ts → Told s ts := by
  refine bySteps (P := fun a => ∀ (k : Nat) (acc ts : List Tok), a = s.drop k → k ≤ s.length → Told s acc → (∀ t ∈ acc, t.at_ + t.text.length ≤ k) → rest a k acc = .ok ts → Told s ts) ?_ ?_ a
  · intro k acc ts _ _ h _ hr
    rw [rest_nil] at hr
    cases hr; exact h
  · intro l hl ihs iht k acc ts hk hks h hb hr
    have hlen : l.length = s.length - k := by rw [hk, List.length_drop]
    cases hs : step l with
    | skip n =>
      have hn := step_skip hs
      rw [rest_skip _ _ hs hl] at hr
      exact ihs _ hs (k + n) acc ts (by rw [hk, List.drop_drop]) (by omega) h (fun t ht => by have := hb t ht; omega) hr
    | tok kind n =>
      have hn := step_tok hs
      rw [rest_tok _ _ hs hl] at hr
      have hlt : (l.take n).length = n := by rw [List.length_take]; omega
      refine iht _ _ hs (k + n) _ ts (by rw [hk, List.drop_drop]) (by omega) ⟨?_, ?_, ?_⟩ ?_ hr
      · intro t ht
        rcases List.mem_append.1 ht with ht | ht
        · exact h.fine t ht
        · rw [List.mem_singleton.1 ht]; exact fine_of_step k hs
      · intro t ht
        rcases List.mem_append.1 ht with ht | ht
        · exact h.there t ht
        · rw [List.mem_singleton.1 ht]
          exact ⟨by show k + (l.take n).length ≤ s.length; omega, by show (s.drop k).take (l.take n).length = l.take n; rw [hlt, ← hk]⟩
      · intro i hi
        rw [List.length_append] at hi
        simp at hi
        by_cases hi2 : i + 1 < acc.length
        · rw [List.getElem_append_left (by omega), List.getElem_append_left hi2]; exact h.rise i hi2
        · rw [List.getElem_append_left (by omega), List.getElem_append_right (by omega)]
          simpa using hb _ (List.getElem_mem _)
      · intro t ht
        rcases List.mem_append.1 ht with ht | ht
        · have := hb t ht; omega
        · rw [List.mem_singleton.1 ht]; show k + (l.take n).length ≤ k + n; omega
    | bad e => rw [rest_bad _ _ hs hl] at hr; cases hr
theorem lex_told {s : List UInt8} {ts : List Tok} (h : lex s = .ok ts) : Told s ts :=
  rest_told s s 0 [] ts rfl (Nat.zero_le _) ⟨by simp, by simp, fun i h => by simp at h⟩ (by simp) h
theorem rest_fault (s : List UInt8) (a : List UInt8) : ∀ (k : Nat) (acc : List Tok) (e i : Nat), a.length + k = s.length → rest a k acc = .fault e i → i < s.length ∧ (e = 100 ∨ e = 101) := by
  refine bySteps (P := fun a => ∀ (k : Nat) (acc : List Tok) (e i : Nat), a.length + k = s.length → rest a k acc = .fault e i → i < s.length ∧ (e = 100 ∨ e = 101)) ?_ ?_ a
  · intro k acc e i _ hr; rw [rest_nil] at hr; cases hr
  · intro l hl ihs iht k acc e i hk hr
    cases hs : step l with
    | skip n =>
      have hn := step_skip hs
      rw [rest_skip _ _ hs hl] at hr
      exact ihs _ hs _ _ _ _ (by rw [List.length_drop]; omega) hr
    | tok kind n =>
      have hn := step_tok hs
      rw [rest_tok _ _ hs hl] at hr
      exact iht _ _ hs _ _ _ _ (by rw [List.length_drop]; omega) hr
    | bad er =>
      rw [rest_bad _ _ hs hl] at hr
      cases hr
      refine ⟨by have := List.length_pos_iff.2 hl; omega, ?_⟩
      unfold step at hs
      split at hs
      · cases hs
      · split at hs
        · cases hs
        · split at hs
          · split at hs
            · cases hs; exact .inr rfl
            · cases hs
          · split at hs
            · cases hs
            · cases hs; exact .inl rfl
theorem lex_fault {s : List UInt8} {e i : Nat} (h : lex s = .fault e i) : i < s.length ∧ (e = 100 ∨ e = 101) := rest_fault s s 0 [] e i (by simp) h
end Lx
end Go.Proofs.YtnndgjnihhafbaaGreatDoor
