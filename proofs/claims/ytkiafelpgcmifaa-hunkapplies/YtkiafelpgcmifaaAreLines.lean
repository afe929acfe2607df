/-
  The walks of hunk.areLines and of slices.Equal at rows of texts.
-/
import Derived.Test.YtkiafelpgcmifaaIndexByte
import Derived.Test.YtkiafelpgcmifaaSame
import Derived.Test.YtkiafelpgcmifaaHnMath
namespace Go.Proofs.Ytkiafelpgcmifaa
open Go.RowKit

/-- Where the byte 10 is first, and whether a text is a line. -/
theorem ix_line (x : List UInt8) (h0 : x ≠ []) : (Lib.indexByte x 10 = (x.length : Int) - 1 ↔ (Hn.okLine x && Hn.shut x) = true) ∧ (Lib.indexByte x 10 < 0 → Hn.okLine x = true) ∧ (Hn.okLine x = true → Hn.shut x = false → Lib.indexByte x 10 < 0) ∧ -1 ≤ Lib.indexByte x 10 ∧ Lib.indexByte x 10 < x.length := by
  have hd : x = x.dropLast ++ [x.getLast h0] := (List.dropLast_concat_getLast h0).symm
  have hl : 0 < x.length := List.length_pos_iff.2 h0
  have hdl : x.dropLast.length = x.length - 1 := List.length_dropLast
  have hge := Lib.indexByte_ge x 10
  have hlast : x.getLast? = some (x.getLast h0) := List.getLast?_eq_some_getLast h0
  have hlt : Lib.indexByte x 10 < x.length := by
    by_cases h : Lib.indexByte x 10 = -1
    · omega
    · obtain ⟨o, ho⟩ : ∃ o : Nat, Lib.indexByte x 10 = o := ⟨(Lib.indexByte x 10).toNat, by omega⟩
      have := (List.getElem?_eq_some_iff.1 (Lib.indexByte_some ho).1).1
      omega
  have hmem : ∀ k, x.dropLast[k]? = some 10 → k < x.length - 1 ∧ x[k]? = some 10 := by
    intro k hk
    have h1 := (List.getElem?_eq_some_iff.1 hk).1
    rw [hdl] at h1
    refine ⟨h1, ?_⟩
    rw [hd, List.getElem?_append_left (by omega)]
    exact hk
  have hok : Hn.okLine x = true ↔ ∀ k, k < x.length - 1 → x[k]? ≠ some 10 := by
    have e1 : x.isEmpty = false := by cases x; exact absurd rfl h0; rfl
    simp only [Hn.okLine, e1, Bool.not_false, Bool.true_and, Bool.not_eq_true']
    constructor
    · intro h k hk hx
      have hx2 : x.dropLast[k]? = some 10 := by
        rw [List.getElem?_dropLast, if_pos hk]; exact hx
      have := List.mem_of_getElem? hx2
      rw [List.contains_iff_mem.2 this] at h
      cases h
    · intro h
      cases hc : x.dropLast.contains 10 with
      | false => rfl
      | true =>
        obtain ⟨k, hk⟩ := List.mem_iff_getElem?.1 (List.contains_iff_mem.1 hc)
        obtain ⟨h1, h2⟩ := hmem k hk
        exact absurd h2 (h k h1)
  have hsh : Hn.shut x = true ↔ x[x.length - 1]? = some 10 := by
    unfold Hn.shut
    rw [List.getLast?_eq_getElem?]
    constructor
    · intro h; exact eq_of_beq h
    · intro h; rw [h]; rfl
  refine ⟨⟨fun h => ?_, fun h => ?_⟩, fun h => ?_, fun h1 h2 => ?_, hge, hlt⟩
  · have ho : Lib.indexByte x 10 = ((x.length - 1 : Nat) : Int) := by omega
    obtain ⟨q1, q2⟩ := Lib.indexByte_some ho
    rw [Bool.and_eq_true]
    exact ⟨hok.2 q2, hsh.2 q1⟩
  · rw [Bool.and_eq_true] at h
    have q1 := hok.1 h.1
    have q2 := hsh.1 h.2
    by_cases hn : Lib.indexByte x 10 = -1
    · exact absurd q2 (Lib.indexByte_none hn _)
    · obtain ⟨o, ho⟩ : ∃ o : Nat, Lib.indexByte x 10 = o := ⟨(Lib.indexByte x 10).toNat, by omega⟩
      obtain ⟨p1, p2⟩ := Lib.indexByte_some ho
      rcases Nat.lt_trichotomy o (x.length - 1) with h3 | h3 | h3
      · exact absurd p1 (q1 o h3)
      · omega
      · omega
  · have hn : Lib.indexByte x 10 = -1 := by omega
    exact hok.2 (fun k _ => Lib.indexByte_none hn k)
  · by_cases hn : Lib.indexByte x 10 = -1
    · omega
    · obtain ⟨o, ho⟩ : ∃ o : Nat, Lib.indexByte x 10 = o := ⟨(Lib.indexByte x 10).toNat, by omega⟩
      obtain ⟨p1, p2⟩ := Lib.indexByte_some ho
      have q1 := hok.1 h1
      by_cases h3 : o < x.length - 1
      · exact absurd p1 (q1 o h3)
      · have : o = x.length - 1 := by omega
        subst this
        rw [hsh.2 p1] at h2; cases h2

/-- The lines from k on: the first of them, and the rest. -/
theorem lines_at (L : List (List UInt8)) (k : Nat) (x : List UInt8) (hx : L[k]? = some x) : Hn.lines (L.drop k) = if k + 1 = L.length then Hn.okLine x else (Hn.okLine x && Hn.shut x && Hn.lines (L.drop (k + 1))) := by
  have hk : k < L.length := (List.getElem?_eq_some_iff.1 hx).1
  have e : L.drop k = x :: L.drop (k + 1) := by
    rw [List.drop_eq_getElem_cons hk, (List.getElem?_eq_some_iff.1 hx).2]
  rw [e]
  by_cases h : k + 1 = L.length
  · rw [if_pos h, List.drop_eq_nil_of_le (by omega)]; rfl
  · rw [if_neg h]
    exact Hn.lines_cons x _ (by intro e; have := congrArg List.length e; simp at this; omega)

theorem bs_empty (x : List UInt8) : (Ln.bs x).toList.isEmpty = x.isEmpty := by rw [Lib.toList_data, Ln.bs_toList]
theorem wrap_pred (n : Nat) (h : n ≤ 9223372036854775807) : wrap64 ((n : Int) - 1) = (n : Int) - 1 := by unfold wrap64; omega
theorem ix_any (x : List UInt8) (w : World) : Calls Try.prog 33 #[.string (Ln.bs x), .int .u8 10] w fun e w' => e = .returned (.int .i64 (Lib.indexByte x 10)) ∧ w' = w := indexByte_any (Ln.bs x) 10 w

set_option maxRecDepth 100000 in
set_option maxHeartbeats 2000000 in
theorem areLines_any (L : List (List UInt8)) (v : Value) (m : Nat) (w : World) (hrow : RowLow m w v L) (hl : L.length ≤ 9223372036854775807) (hs : ∀ x ∈ L, x.length ≤ 9223372036854775807) :
    Calls Try.prog 22 #[v] w fun e w' => e = .returned (.bool (Hn.lines L)) ∧ w' = w := by
  obtain ⟨ao, cap, b, off, rfl, -, hao, hc⟩ := hrow.parts
  clear hrow
  go_enter Try.func22, Try.ntmps22
  go_wp2
  go_loopw [9] (fun i wr => ∃ k : Nat, k ≤ L.length ∧ i = .int .i64 k ∧ wr = w ∧ Hn.lines L = Hn.lines (L.drop k)) (fun i _ => L.length - (intOf i).toNat)
  case atStart => exact ⟨0, Nat.zero_le _, rfl, rfl, rfl⟩
  case round =>
    obtain ⟨k, hk, rfl, rfl, hj⟩ := hrel
    by_cases hlt : k < L.length
    · obtain ⟨x, hx⟩ : ∃ x, L[k]? = some x := ⟨L[k], List.getElem?_eq_getElem hlt⟩
      obtain ⟨rfl, hbm⟩ := hao (by omega)
      have g1 : wr.cell? ⟨b, off + k, none⟩ = some (.string (Ln.bs x)) := hc k x hx
      have hxl := hs x (List.mem_of_getElem? hx)
      have HL : Hid (Hn.lines L = if k + 1 = L.length then Hn.okLine x else (Hn.okLine x && Hn.shut x && Hn.lines (L.drop (k + 1)))) := hj.trans (lines_at L k x hx)
      clear hc hao hj hx hs
      by_cases h0 : x = []
      · have HF : Hid (Hn.lines L = false) := by
          rw [Hid, HL.out, h0]; split <;> rfl
        have hbe : (Ln.bs x).toList.isEmpty = true := by rw [bs_empty, h0]; rfl
        clear h0
        go_wp2
        go_ret
        exact ⟨ret_bool HF.out.symm, rfl⟩
      · obtain ⟨i1, i2, i3, i4, i5⟩ := ix_line x h0
        have hbe : (Ln.bs x).toList.isEmpty = false := by
          rw [bs_empty]; cases x; exact absurd rfl h0; rfl
        have IX := ix_any x wr
        obtain ⟨d, hd⟩ : ∃ d, d = Lib.indexByte x 10 := ⟨_, rfl⟩
        have hx0 : 0 < x.length := List.length_pos_iff.2 h0
        rw [← hd] at i1 i2 i3 i4 i5 IX
        have hsz : wrap64 (((Ln.bs x).size : Int) - 1) = (x.length : Int) - 1 := wrap_pred x.length hxl
        have hsl : wrap64 ((L.length : Int) - 1) = (L.length : Int) - 1 := wrap_pred L.length hl
        clear hd h0
        by_cases hA : d = (x.length : Int) - 1
        · have q1 : (d != (x.length : Int) - 1) = false := by rw [bne_eq_false_iff_eq]; exact hA
          have q2 : decide (d < 0) = false := by simp; omega
          have q3 : ¬ d < 0 := by omega
          have HR : Hid (Hn.lines L = Hn.lines (L.drop (k + 1))) := by
            have h1 := i1.1 hA
            show Hn.lines L = _
            rw [HL.out]
            split
            · rename_i e
              rw [List.drop_eq_nil_of_le (by omega)]
              rw [Bool.and_eq_true] at h1
              exact h1.1
            · rw [h1, Bool.true_and]
          clear hA i1 i2 i3 HL
          go_wp2_with (go_at_call 33; refine IX.mono ?_; rintro e w1 ⟨rfl, rfl⟩)
          go_roundw
          case rel => exact ⟨k + 1, by omega, by go_num, by first | rfl | trivial, HR.out⟩
          case measure => simp [intOf]; omega
        · have q1 : (d != (x.length : Int) - 1) = true := by rw [bne_iff_ne]; exact hA
          by_cases hB : d < 0
          · have q2 : decide (d < 0) = true := by simp; omega
            by_cases hC : k + 1 = L.length
            · have q4 : ((k : Int) == (L.length : Int) - 1) = true := by rw [beq_iff_eq]; omega
              have HR : Hid (Hn.lines L = Hn.lines (L.drop (k + 1))) := by
                show Hn.lines L = _
                rw [HL.out, if_pos hC, List.drop_eq_nil_of_le (by omega)]
                exact i2 hB
              clear hA hC i1 i2 i3 HL
              go_wp2_with (go_at_call 33; refine IX.mono ?_; rintro e w1 ⟨rfl, rfl⟩)
              go_roundw
              case rel => exact ⟨k + 1, by omega, by go_num, by first | rfl | trivial, HR.out⟩
              case measure => simp [intOf]; omega
            · have q4 : ((k : Int) == (L.length : Int) - 1) = false := by rw [beq_eq_false_iff_ne]; omega
              have HR : Hid (Hn.lines L = false) := by
                show Hn.lines L = _
                rw [HL.out, if_neg hC]
                cases hq : (Hn.okLine x && Hn.shut x) with
                | false => rfl
                | true => exact absurd (i1.2 hq) hA
              clear hA hC i1 i2 i3 HL
              go_wp2_with (go_at_call 33; refine IX.mono ?_; rintro e w1 ⟨rfl, rfl⟩)
              go_ret
              exact ⟨ret_bool HR.out.symm, rfl⟩
          · have q2 : decide (d < 0) = false := by simp; omega
            have HR : Hid (Hn.lines L = false) := by
              show Hn.lines L = _
              rw [HL.out]
              cases h1 : Hn.okLine x with
              | false => split <;> rfl
              | true =>
                cases h2 : Hn.shut x with
                | false => exact absurd (i3 h1 h2) hB
                | true => exact absurd (i1.2 (by rw [h1, h2]; rfl)) hA
            clear hA i1 i2 i3 HL
            go_wp2_with (go_at_call 33; refine IX.mono ?_; rintro e w1 ⟨rfl, rfl⟩)
            go_ret
            exact ⟨ret_bool HR.out.symm, rfl⟩
    · have hkl : k = L.length := by omega
      have HR : Hid (Hn.lines L = true) := by
        show Hn.lines L = _
        rw [hj, hkl, List.drop_length]; rfl
      clear hc hao hj hkl
      go_wp2
      go_ret
      exact ⟨ret_bool HR.out.symm, rfl⟩

set_option maxRecDepth 100000 in
set_option maxHeartbeats 1000000 in
theorem equal_any (w : World) (v1 v2 : Value) (L1 L2 : List (List UInt8)) (n1 n2 : Nat) (h1 : RowLow n1 w v1 L1) (h2 : RowLow n2 w v2 L2) (hl1 : L1.length ≤ 9223372036854775807) (hl2 : L2.length ≤ 9223372036854775807) :
    Calls Try.prog 63 #[v1, v2] w fun e w' => e = .returned (.bool (decide (L1 = L2))) ∧ ∃ k, w' = w.drewN k := by
  obtain ⟨ao1, cap1, b1, o1, rfl, -, ha1, hc1⟩ := h1.parts
  obtain ⟨ao2, cap2, b2, o2, rfl, -, ha2, hc2⟩ := h2.parts
  clear h1 h2
  by_cases hne : L1.length = L2.length
  · have hb : ((L1.length : Int) != (L2.length : Int)) = false := by rw [bne_eq_false_iff_eq]; omega
    have HN : Hid (L1.length = L2.length) := hne
    have hn2 : L1.length ≤ L2.length := by omega
    clear hne
    go_enter Try.func63, Try.ntmps63
    go_wp2
    go_loopw [13] (fun i wr => ∃ k d : Nat, k ≤ L1.length ∧ i = .int .i64 k ∧ wr = w.drewN d ∧ (∀ j : Nat, j < k → L1[j]? = L2[j]?)) (fun i _ => L1.length - (intOf i).toNat)
    case atStart => exact ⟨0, 0, Nat.zero_le _, rfl, rfl, fun j hj => absurd hj (by omega)⟩
    case round =>
      obtain ⟨k, d, hk, rfl, rfl, hj⟩ := hrel
      have HJ : Hid (∀ j : Nat, j < k → L1[j]? = L2[j]?) := hj
      clear hj
      by_cases hlt : k < L1.length
      · obtain ⟨x, hx⟩ : ∃ x, L1[k]? = some x := ⟨L1[k], List.getElem?_eq_getElem hlt⟩
        obtain ⟨y, hy⟩ : ∃ y, L2[k]? = some y := ⟨L2[k]'(by omega), List.getElem?_eq_getElem (by omega)⟩
        have g1 := hc1 k x hx
        have g2 := hc2 k y hy
        have hlt2 : k < L2.length := by omega
        obtain ⟨rfl, -⟩ := ha1 (by omega)
        obtain ⟨rfl, -⟩ := ha2 (by omega)
        have HX : Hid (L1[k]? = some x) := hx
        have HY : Hid (L2[k]? = some y) := hy
        clear hx hy hc1 hc2 ha1 ha2
        by_cases hxy : x = y
        · have hbq : ((Ln.bs x).toList == (Ln.bs y).toList) = true := by rw [bs_beq]; exact decide_eq_true hxy
          have HE : Hid (x = y) := hxy
          clear hxy
          go_wp2
          go_region
          all_goals go_wp2
          all_goals go_roundw
          case rel =>
            refine ⟨k + 1, d + 1, by omega, by go_num, rfl, fun j hj => ?_⟩
            by_cases hjk : j < k
            · exact HJ.out j hjk
            · have : j = k := by omega
              subst this
              rw [HX.out, HY.out, HE.out]
          case measure => simp [intOf]; omega
        · have hbq : ((Ln.bs x).toList == (Ln.bs y).toList) = false := by rw [bs_beq]; exact decide_eq_false hxy
          have HE : Hid (decide (L1 = L2) = false) := by
            show decide (L1 = L2) = false
            rw [decide_eq_false]
            intro e
            subst e
            have := HX.out.symm.trans HY.out
            simp at this
            exact hxy this
          clear hxy
          go_wp2
          go_region
          all_goals go_wp2
          all_goals go_ret
          exact ⟨ret_bool HE.out.symm, d + 1, rfl⟩
      · clear hc1 hc2 ha1 ha2
        go_wp2
        go_ret
        have hke : k = L1.length := by omega
        exact ⟨ret_bool (by rw [decide_eq_true (ext_of L1 L2 HN.out (by rw [← hke]; exact HJ.out))]), d, rfl⟩
  · have hb : ((L1.length : Int) != (L2.length : Int)) = true := by rw [bne_iff_ne]; omega
    have HD : Hid (decide (L1 = L2) = false) := by
      show decide (L1 = L2) = false
      rw [decide_eq_false]; rintro rfl; exact hne rfl
    clear hne hc1 hc2 ha1 ha2
    go_enter Try.func63, Try.ntmps63
    go_wp2
    go_ret
    exact ⟨ret_bool HD.out.symm, 0, rfl⟩



end Go.Proofs.Ytkiafelpgcmifaa
