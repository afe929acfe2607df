/-
  Walks over small functions of the dump: the search for a byte, how long the first line is, whether a text ends with byte 10.
-/
import Derived.Test.YtapnakcoanjfgaaRows
import Derived.WalkKit
import Derived.WalkSpells
import Derived.WalkLawsBesides
import Derived.Lib.Strings
import Derived.Lib.Slices
import Derived.Lib.Walk
import Derived.Lib.Bytealg
import Derived.Test.YtapnakcoanjfgaaMath
namespace Go.Proofs.Ytapnakcoanjfgaa
open Go.RowKit

set_option maxHeartbeats 1000000 in
set_option maxRecDepth 100000 in
theorem idx37 (s : ByteArray) (c : Int) (w : World) :
    Calls Try.prog 37 #[.string s, .int .u8 c] w fun e w' => e = .returned (.int .i64 (Lib.indexByte s.data.toList c.toNat.toUInt8)) ∧ w' = w := by
  go_enter Try.func37, Try.ntmps37
  go_wp2
  rw [run_callFunc_extern Try.func39 (by kernel_rfl) (by kernel_rfl) (by kernel_rfl) (e := Extern.BytealgIndexByte.indexByte) (by kernel_rfl), Lib.run_indexByteString]
  simp only [Result.andThen]
  rw [Oper.upon_value]
  go_wp2
  go_ret
  exact ⟨rfl, rfl⟩

set_option maxHeartbeats 1000000 in
theorem idx35 (s : ByteArray) (c : Int) (w : World) :
    Calls Try.prog 35 #[.string s, .int .u8 c] w fun e w' => e = .returned (.int .i64 (Lib.indexByte s.data.toList c.toNat.toUInt8)) ∧ w' = w := by
  go_enter Try.func35, Try.ntmps35
  go_wp2_with (go_at_call 37; refine (idx37 _ _ _).mono ?_; rintro e w' ⟨rfl, rfl⟩)
  go_ret
  exact ⟨rfl, rfl⟩

theorem ret_int {k : IntKind} {a b : Int} (h : a = b) : Ending.returned (.int k a) = .returned (.int k b) := by rw [h]
theorem ret_bool {a b : Bool} (h : a = b) : Ending.returned (.bool a) = .returned (.bool b) := by rw [h]

set_option maxHeartbeats 1000000 in
theorem lineSize_any (s : ByteArray) (w : World) (hs : s.size ≤ maxLen) :
    Calls Try.prog 32 #[.string s] w fun e w' => e = .returned (.int .i64 (Ln.lsz s.data.toList)) ∧ w' = w := by
  unfold maxLen at hs
  have h1 := Ln.idx_lsz s.data.toList
  have h2 := Ln.lsz_le s.data.toList
  have h3 : s.data.toList.length = s.size := rfl
  have h4 : 0 ≤ Lib.indexByte s.data.toList 10 → Lib.indexByte s.data.toList 10 < 9223372036854775807 := by intro h; have := h1.1 h; omega
  have H1 : Hid ((0 ≤ Lib.indexByte s.data.toList 10 → Lib.indexByte s.data.toList 10 + 1 = Ln.lsz s.data.toList) ∧ (Lib.indexByte s.data.toList 10 < 0 → Ln.lsz s.data.toList = s.data.toList.length)) := h1
  clear h1 h2 h3
  by_cases hi : 0 ≤ Lib.indexByte s.data.toList 10
  · have h5 := h4 hi
    clear h4
    go_enter Try.func32, Try.ntmps32
    go_wp2_with (go_at_call 35; refine (idx35 _ _ _).mono ?_; rintro e w' ⟨rfl, rfl⟩)
    go_ret
    exact ⟨ret_int (H1.out.1 hi), rfl⟩
  · have hi' : Lib.indexByte s.data.toList 10 < 0 := by omega
    clear h4 hi
    go_enter Try.func32, Try.ntmps32
    go_wp2_with (go_at_call 35; refine (idx35 _ _ _).mono ?_; rintro e w' ⟨rfl, rfl⟩)
    go_ret
    exact ⟨ret_int (by rw [H1.out.2 hi']; rfl), rfl⟩

theorem endsL_data (s : ByteArray) (h : 0 < s.size) : Ln.endsL s.data.toList = ((s[s.size - 1].toNat : Int) == 10) := by
  unfold Ln.endsL
  have h3 : s.data.toList.length = s.size := rfl
  have hd : s[s.size - 1] = s.data.toList[s.size - 1]'(by omega) := rfl
  rw [List.getLast?_eq_getElem?, h3, List.getElem?_eq_getElem (by omega), ← hd]
  rw [Bool.eq_iff_iff]
  simp only [beq_iff_eq, Option.some.injEq]
  constructor
  · intro h; rw [h]; rfl
  · intro h; apply UInt8.toNat_inj.1; have : (10 : UInt8).toNat = 10 := rfl; omega

set_option maxHeartbeats 1000000 in
theorem ended_any (s : ByteArray) (w : World) (hs : s.size ≤ maxLen) :
    Calls Try.prog 24 #[.string s] w fun e w' => e = .returned (.bool (Ln.endsL s.data.toList)) ∧ w' = w := by
  unfold maxLen at hs
  have h3 : s.data.toList.length = s.size := rfl
  have ht : s.toList = s.data.toList := Lib.toList_data s
  by_cases h0 : s.size = 0
  · have hd : s.data.toList = [] := List.length_eq_zero_iff.1 (by omega)
    have hs : s = ⟨#[]⟩ := by
      apply ByteArray.ext
      exact Array.eq_empty_of_size_eq_zero h0
    subst hs
    clear ht h3 hd h0
    go_enter Try.func24, Try.ntmps24
    go_wp2
    go_ret
    exact ⟨rfl, rfl⟩
  · have h6 : 0 < s.size := by omega
    have HE : Hid (Ln.endsL s.data.toList = ((s[s.size - 1].toNat : Int) == 10)) := endsL_data s h6
    have hb : (!s.toList.isEmpty) = true := by rw [ht]; simp; intro e; rw [e] at h3; simp at h3; omega
    have hne : s.toList ≠ [] := by rw [ht]; intro e; rw [e] at h3; simp at h3; omega
    have h5 : 1 ≤ s.size := by omega
    clear ht
    go_enter Try.func24, Try.ntmps24
    go_wp2
    go_ret
    exact ⟨ret_bool (by rw [HE.out]), rfl⟩

theorem extract_size_le (s : ByteArray) (a b : Nat) (hs : s.size ≤ maxLen) : (s.extract a b).size ≤ maxLen := by
  rw [ByteArray.size_extract]; omega

set_option maxHeartbeats 1000000 in
theorem width_any (s : ByteArray) (w : World) (hs : s.size ≤ maxLen) :
    Calls Try.prog 26 #[.string s] w fun e w' => e = .returned (.int .i64 (Ln.widthL s.data.toList)) ∧ w' = w := by
  have hs0 := hs
  have hl := Ln.lsz_le s.data.toList
  have hp : s.data.toList ≠ [] → 0 < Ln.lsz s.data.toList := Ln.lsz_pos _
  have h3 : s.data.toList.length = s.size := rfl
  have hx : (s.extract 0 (Ln.lsz s.data.toList)).data.toList = s.data.toList.take (Ln.lsz s.data.toList) := by rw [Lib.extract_data]; simp
  have HX : Hid ((s.extract 0 (Ln.lsz s.data.toList)).data.toList = s.data.toList.take (Ln.lsz s.data.toList)) := hx
  have hpos : Ln.endsL (s.data.toList.take (Ln.lsz s.data.toList)) = true → 1 ≤ Ln.lsz s.data.toList := by
    intro h
    have : s.data.toList ≠ [] := by intro e; rw [e] at h; simp [Ln.endsL] at h
    exact hp this
  clear hp hx
  unfold maxLen at hs
  by_cases hE : Ln.endsL (s.data.toList.take (Ln.lsz s.data.toList)) = true
  · have h1 := hpos hE
    have hw : Hid (Ln.widthL s.data.toList = Ln.lsz s.data.toList - 1) := by
      show Ln.widthL s.data.toList = Ln.lsz s.data.toList - 1
      rw [Ln.widthL, if_pos hE]
    have HE : Hid (Ln.endsL (s.data.toList.take (Ln.lsz s.data.toList)) = true) := hE
    clear hE hpos
    go_enter Try.func26, Try.ntmps26
    go_wp2_with (first
      | (go_at_call 32; refine (lineSize_any _ _ hs0).mono ?_; rintro e w' ⟨rfl, rfl⟩)
      | (go_at_call 24; refine (ended_any _ _ (extract_size_le _ _ _ hs0)).mono ?_; rintro e w' ⟨rfl, rfl⟩; rw [HX.out, HE.out]))
    go_ret
    exact ⟨ret_int (by rw [hw.out]; omega), rfl⟩
  · have hE' : Ln.endsL (s.data.toList.take (Ln.lsz s.data.toList)) = false := by simpa using hE
    have hw : Hid (Ln.widthL s.data.toList = Ln.lsz s.data.toList) := by
      show Ln.widthL s.data.toList = Ln.lsz s.data.toList
      rw [Ln.widthL, if_neg hE]
    have HE : Hid (Ln.endsL (s.data.toList.take (Ln.lsz s.data.toList)) = false) := hE'
    clear hE hpos hE'
    go_enter Try.func26, Try.ntmps26
    go_wp2_with (first
      | (go_at_call 32; refine (lineSize_any _ _ hs0).mono ?_; rintro e w' ⟨rfl, rfl⟩)
      | (go_at_call 24; refine (ended_any _ _ (extract_size_le _ _ _ hs0)).mono ?_; rintro e w' ⟨rfl, rfl⟩; rw [HX.out, HE.out]))
    go_ret
    exact ⟨ret_int (by rw [hw.out]), rfl⟩

set_option maxHeartbeats 1000000 in
theorem pick_any (x n : Int) (w : World) (h1 : 1 ≤ n) (h2 : n ≤ 9223372036854775807) :
    Calls Try.prog 22 #[.int .i64 x, .int .i64 n] w fun e w' => (∃ r : Int, e = .returned (.int .i64 r) ∧ 0 ≤ r ∧ r < n) ∧ w' = w := by
  have h3 := Int.tmod_lt_of_pos x (show 0 < n by omega)
  have h4 := Int.lt_tmod_of_pos x (show 0 < n by omega)
  go_enter Try.func22, Try.ntmps22
  go_wp2
  · have h5 : x.tmod n < 0 := by assumption
    go_ret
    exact ⟨⟨_, rfl, by omega, by omega⟩, rfl⟩
  · have h5 : 0 ≤ x.tmod n := by assumption
    go_ret
    exact ⟨⟨_, rfl, by omega, by omega⟩, rfl⟩

end Go.Proofs.Ytapnakcoanjfgaa
