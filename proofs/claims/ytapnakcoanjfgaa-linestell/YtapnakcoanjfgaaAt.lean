/-
  The walks of lines.At and lines.Span.
-/
import Derived.Test.YtapnakcoanjfgaaBehind
namespace Go.Proofs.Ytapnakcoanjfgaa
open Go.RowKit Go.Shelf

theorem take_data (s : ByteArray) (k : Nat) : (s.extract 0 k).data.toList = s.data.toList.take k := by rw [Lib.extract_data]; simp

/-- At has no such place. -/
def atNo : Value := .tuple #[.int .i64 0, .int .i64 6]

set_option maxRecDepth 100000 in
set_option maxHeartbeats 1000000 in
theorem at_no1 (s : ByteArray) (hs : s.size ≤ 4398046511104) (n c : Int) (hn0 : -9223372036854775808 ≤ n) (hn1 : n ≤ 9223372036854775807) (w : World) (h : behB s.data.toList n = false) :
    Calls Try.prog 11 #[.string s, .int .i64 n, .int .i64 c] w fun e W' => e = .returned atNo ∧ Below w.heap.size w W' := by
  have H : Hid (behB s.data.toList n = false) := h
  clear h
  go_enter Try.func11, Try.ntmps11
  go_wp2_with (go_at_call 25; refine (behind_any s hs n hn0 hn1 _).mono ?_; rintro e w1 ⟨rfl, hb1⟩; rw [H.out])
  go_ret2
  exact ⟨rfl, hb1⟩

set_option maxRecDepth 100000 in
set_option maxHeartbeats 1000000 in
theorem at_no2 (s : ByteArray) (hs : s.size ≤ 4398046511104) (n c : Int) (hn0 : -9223372036854775808 ≤ n) (hn1 : n ≤ 9223372036854775807) (w : World) (h : behB s.data.toList n = true) (h1 : 0 < n) (h2 : Ln.endsL (s.data.toList.take (Ln.behindL s.data.toList n.toNat)) = false) :
    Calls Try.prog 11 #[.string s, .int .i64 n, .int .i64 c] w fun e W' => e = .returned atNo ∧ Below w.heap.size w W' := by
  have H : Hid (behB s.data.toList n = true) := h
  have hs1 : s.size ≤ maxLen := by unfold maxLen; omega
  have hbl : Ln.behindL s.data.toList n.toNat ≤ s.size := Ln.behindL_le _ _
  have H2 : Hid (Ln.endsL (s.extract 0 (Ln.behindL s.data.toList n.toNat)).data.toList = false) := by
    show Ln.endsL (s.extract 0 (Ln.behindL s.data.toList n.toNat)).data.toList = false
    rw [take_data]; exact h2
  clear h h2
  go_enter Try.func11, Try.ntmps11
  go_wp2_with (first
    | (go_at_call 25; refine (behind_any s hs n hn0 hn1 _).mono ?_; rintro e w1 ⟨rfl, hb1⟩; rw [H.out])
    | (go_at_call 24; refine (ended_any _ _ (extract_size_le _ _ _ hs1)).mono ?_; rintro e w2 ⟨rfl, rfl⟩; rw [H2.out]))
  go_ret2
  exact ⟨rfl, hb1⟩

set_option maxRecDepth 100000 in
set_option maxHeartbeats 1000000 in
theorem at_no3 (s : ByteArray) (hs : s.size ≤ 4398046511104) (n c : Int) (hn0 : -9223372036854775808 ≤ n) (hn1 : n ≤ 9223372036854775807) (w : World) (h : behB s.data.toList n = true) (h1 : n ≤ 0 ∨ (0 < n ∧ Ln.endsL (s.data.toList.take (Ln.behindL s.data.toList n.toNat)) = true)) (h3 : c < 0) :
    Calls Try.prog 11 #[.string s, .int .i64 n, .int .i64 c] w fun e W' => e = .returned atNo ∧ Below w.heap.size w W' := by
  have H : Hid (behB s.data.toList n = true) := h
  have hs1 : s.size ≤ maxLen := by unfold maxLen; omega
  have hbl : Ln.behindL s.data.toList n.toNat ≤ s.size := Ln.behindL_le _ _
  have hwl := Ln.widthL_le (s.data.toList.drop (Ln.behindL s.data.toList n.toNat))
  have hdl : (s.data.toList.drop (Ln.behindL s.data.toList n.toNat)).length ≤ s.size := by rw [List.length_drop]; exact Nat.sub_le _ _
  have hwl2 : Ln.widthL (s.data.toList.drop (Ln.behindL s.data.toList n.toNat)) ≤ 4398046511104 := by omega
  have H4 : Hid (Ln.widthL (s.extract (Ln.behindL s.data.toList n.toNat) s.size).data.toList = Ln.widthL (s.data.toList.drop (Ln.behindL s.data.toList n.toNat))) := by
    show Ln.widthL (s.extract (Ln.behindL s.data.toList n.toNat) s.size).data.toList = Ln.widthL (s.data.toList.drop (Ln.behindL s.data.toList n.toNat))
    rw [extract_rest]
  clear h hwl hdl
  rcases h1 with h1 | ⟨h1, h2⟩
  · go_enter Try.func11, Try.ntmps11
    go_wp2_with (first
      | (go_at_call 25; refine (behind_any s hs n hn0 hn1 _).mono ?_; rintro e w1 ⟨rfl, hb1⟩; rw [H.out])
      | (go_at_call 26; refine (width_any _ _ (extract_size_le _ _ _ hs1)).mono ?_; rintro e w2 ⟨rfl, rfl⟩; rw [H4.out]))
    go_ret2
    exact ⟨rfl, hb1⟩
  · have H2 : Hid (Ln.endsL (s.extract 0 (Ln.behindL s.data.toList n.toNat)).data.toList = true) := by
      show Ln.endsL (s.extract 0 (Ln.behindL s.data.toList n.toNat)).data.toList = true
      rw [take_data]; exact h2
    clear h2
    go_enter Try.func11, Try.ntmps11
    go_wp2_with (first
      | (go_at_call 25; refine (behind_any s hs n hn0 hn1 _).mono ?_; rintro e w1 ⟨rfl, hb1⟩; rw [H.out])
      | (go_at_call 24; refine (ended_any _ _ (extract_size_le _ _ _ hs1)).mono ?_; rintro e w2 ⟨rfl, rfl⟩; rw [H2.out])
      | (go_at_call 26; refine (width_any _ _ (extract_size_le _ _ _ hs1)).mono ?_; rintro e w2 ⟨rfl, rfl⟩; rw [H4.out]))
    go_ret2
    exact ⟨rfl, hb1⟩

set_option maxRecDepth 100000 in
set_option maxHeartbeats 1000000 in
theorem at_no4 (s : ByteArray) (hs : s.size ≤ 4398046511104) (n c : Int) (hn0 : -9223372036854775808 ≤ n) (hn1 : n ≤ 9223372036854775807) (w : World) (h : behB s.data.toList n = true) (h1 : n ≤ 0 ∨ (0 < n ∧ Ln.endsL (s.data.toList.take (Ln.behindL s.data.toList n.toNat)) = true)) (h3 : 0 ≤ c) (h4 : (Ln.widthL (s.data.toList.drop (Ln.behindL s.data.toList n.toNat)) : Int) < c) :
    Calls Try.prog 11 #[.string s, .int .i64 n, .int .i64 c] w fun e W' => e = .returned atNo ∧ Below w.heap.size w W' := by
  have H : Hid (behB s.data.toList n = true) := h
  have hs1 : s.size ≤ maxLen := by unfold maxLen; omega
  have hbl : Ln.behindL s.data.toList n.toNat ≤ s.size := Ln.behindL_le _ _
  have hwl := Ln.widthL_le (s.data.toList.drop (Ln.behindL s.data.toList n.toNat))
  have hdl : (s.data.toList.drop (Ln.behindL s.data.toList n.toNat)).length ≤ s.size := by rw [List.length_drop]; exact Nat.sub_le _ _
  have hwl2 : Ln.widthL (s.data.toList.drop (Ln.behindL s.data.toList n.toNat)) ≤ 4398046511104 := by omega
  have H4 : Hid (Ln.widthL (s.extract (Ln.behindL s.data.toList n.toNat) s.size).data.toList = Ln.widthL (s.data.toList.drop (Ln.behindL s.data.toList n.toNat))) := by
    show Ln.widthL (s.extract (Ln.behindL s.data.toList n.toNat) s.size).data.toList = Ln.widthL (s.data.toList.drop (Ln.behindL s.data.toList n.toNat))
    rw [extract_rest]
  clear h hwl hdl
  rcases h1 with h1 | ⟨h1, h2⟩
  · go_enter Try.func11, Try.ntmps11
    go_wp2_with (first
      | (go_at_call 25; refine (behind_any s hs n hn0 hn1 _).mono ?_; rintro e w1 ⟨rfl, hb1⟩; rw [H.out])
      | (go_at_call 26; refine (width_any _ _ (extract_size_le _ _ _ hs1)).mono ?_; rintro e w2 ⟨rfl, rfl⟩; rw [H4.out]))
    go_ret2
    exact ⟨rfl, hb1⟩
  · have H2 : Hid (Ln.endsL (s.extract 0 (Ln.behindL s.data.toList n.toNat)).data.toList = true) := by
      show Ln.endsL (s.extract 0 (Ln.behindL s.data.toList n.toNat)).data.toList = true
      rw [take_data]; exact h2
    clear h2
    go_enter Try.func11, Try.ntmps11
    go_wp2_with (first
      | (go_at_call 25; refine (behind_any s hs n hn0 hn1 _).mono ?_; rintro e w1 ⟨rfl, hb1⟩; rw [H.out])
      | (go_at_call 24; refine (ended_any _ _ (extract_size_le _ _ _ hs1)).mono ?_; rintro e w2 ⟨rfl, rfl⟩; rw [H2.out])
      | (go_at_call 26; refine (width_any _ _ (extract_size_le _ _ _ hs1)).mono ?_; rintro e w2 ⟨rfl, rfl⟩; rw [H4.out]))
    go_ret2
    exact ⟨rfl, hb1⟩

set_option maxRecDepth 100000 in
set_option maxHeartbeats 1000000 in
theorem at_yes0 (s : ByteArray) (hs : s.size ≤ 4398046511104) (n c : Int) (hn0 : -9223372036854775808 ≤ n) (hn1 : n ≤ 9223372036854775807) (w : World) (h : behB s.data.toList n = true) (h1 : n ≤ 0 ∨ (0 < n ∧ Ln.endsL (s.data.toList.take (Ln.behindL s.data.toList n.toNat)) = true)) (h3 : 0 ≤ c) (h4 : c ≤ (Ln.widthL (s.data.toList.drop (Ln.behindL s.data.toList n.toNat)) : Int)) :
    Calls Try.prog 11 #[.string s, .int .i64 n, .int .i64 c] w fun e W' => e = .returned (.tuple #[.int .i64 (Ln.behindL s.data.toList n.toNat + c), .int .i64 0]) ∧ Below w.heap.size w W' := by
  have H : Hid (behB s.data.toList n = true) := h
  have hs1 : s.size ≤ maxLen := by unfold maxLen; omega
  have hbl : Ln.behindL s.data.toList n.toNat ≤ s.size := Ln.behindL_le _ _
  have hwl := Ln.widthL_le (s.data.toList.drop (Ln.behindL s.data.toList n.toNat))
  have hdl : (s.data.toList.drop (Ln.behindL s.data.toList n.toNat)).length ≤ s.size := by rw [List.length_drop]; exact Nat.sub_le _ _
  have hwl2 : Ln.widthL (s.data.toList.drop (Ln.behindL s.data.toList n.toNat)) ≤ 4398046511104 := by omega
  have H4 : Hid (Ln.widthL (s.extract (Ln.behindL s.data.toList n.toNat) s.size).data.toList = Ln.widthL (s.data.toList.drop (Ln.behindL s.data.toList n.toNat))) := by
    show Ln.widthL (s.extract (Ln.behindL s.data.toList n.toNat) s.size).data.toList = Ln.widthL (s.data.toList.drop (Ln.behindL s.data.toList n.toNat))
    rw [extract_rest]
  clear h hwl hdl
  rcases h1 with h1 | ⟨h1, h2⟩
  · go_enter Try.func11, Try.ntmps11
    go_wp2_with (first
      | (go_at_call 25; refine (behind_any s hs n hn0 hn1 _).mono ?_; rintro e w1 ⟨rfl, hb1⟩; rw [H.out])
      | (go_at_call 26; refine (width_any _ _ (extract_size_le _ _ _ hs1)).mono ?_; rintro e w2 ⟨rfl, rfl⟩; rw [H4.out]))
    go_ret2
    exact ⟨rfl, hb1⟩
  · have H2 : Hid (Ln.endsL (s.extract 0 (Ln.behindL s.data.toList n.toNat)).data.toList = true) := by
      show Ln.endsL (s.extract 0 (Ln.behindL s.data.toList n.toNat)).data.toList = true
      rw [take_data]; exact h2
    clear h2
    go_enter Try.func11, Try.ntmps11
    go_wp2_with (first
      | (go_at_call 25; refine (behind_any s hs n hn0 hn1 _).mono ?_; rintro e w1 ⟨rfl, hb1⟩; rw [H.out])
      | (go_at_call 24; refine (ended_any _ _ (extract_size_le _ _ _ hs1)).mono ?_; rintro e w2 ⟨rfl, rfl⟩; rw [H2.out])
      | (go_at_call 26; refine (width_any _ _ (extract_size_le _ _ _ hs1)).mono ?_; rintro e w2 ⟨rfl, rfl⟩; rw [H4.out]))
    go_ret2
    exact ⟨rfl, hb1⟩

theorem behB_iff (l : List UInt8) (n : Int) : behB l n = true ↔ 0 ≤ n ∧ n ≤ (Ln.splitL l).length := by simp [behB]

theorem at_yes (s : ByteArray) (hs : s.size ≤ 4398046511104) (n c : Int) (hn0 : -9223372036854775808 ≤ n) (hn1 : n ≤ 9223372036854775807) (w : World) (h0 : 0 ≤ n) (h1 : 0 ≤ c) (h : Ln.atOk s.data.toList n.toNat c.toNat) :
    Calls Try.prog 11 #[.string s, .int .i64 n, .int .i64 c] w fun e W' => e = .returned (.tuple #[.int .i64 (Ln.behindL s.data.toList n.toNat + c), .int .i64 0]) ∧ Below w.heap.size w W' := by
  obtain ⟨a1, a2, a3⟩ := h
  refine at_yes0 s hs n c hn0 hn1 w ((behB_iff _ _).2 ⟨h0, by omega⟩) ?_ h1 (by omega)
  rcases a2 with a2 | a2
  · left; omega
  · by_cases hz : n ≤ 0
    · exact .inl hz
    · exact .inr ⟨by omega, a2⟩

theorem at_no (s : ByteArray) (hs : s.size ≤ 4398046511104) (n c : Int) (hn0 : -9223372036854775808 ≤ n) (hn1 : n ≤ 9223372036854775807) (w : World) (h : ¬ (0 ≤ n ∧ 0 ≤ c ∧ Ln.atOk s.data.toList n.toNat c.toNat)) :
    Calls Try.prog 11 #[.string s, .int .i64 n, .int .i64 c] w fun e W' => e = .returned atNo ∧ Below w.heap.size w W' := by
  cases hb : behB s.data.toList n with
  | false => exact at_no1 s hs n c hn0 hn1 w hb
  | true =>
    have hb2 := (behB_iff _ _).1 hb
    have hor : (0 < n ∧ Ln.endsL (s.data.toList.take (Ln.behindL s.data.toList n.toNat)) = false) ∨ (n ≤ 0 ∨ (0 < n ∧ Ln.endsL (s.data.toList.take (Ln.behindL s.data.toList n.toNat)) = true)) := by
      by_cases hz : n ≤ 0
      · exact .inr (.inl hz)
      · cases hE : Ln.endsL (s.data.toList.take (Ln.behindL s.data.toList n.toNat)) with
        | false => exact .inl ⟨by omega, rfl⟩
        | true => exact .inr (.inr ⟨by omega, rfl⟩)
    rcases hor with ⟨h1, h2⟩ | h1
    · exact at_no2 s hs n c hn0 hn1 w hb h1 h2
    · by_cases hc : c < 0
      · exact at_no3 s hs n c hn0 hn1 w hb h1 hc
      · refine at_no4 s hs n c hn0 hn1 w hb h1 (by omega) ?_
        rcases Int.lt_or_le (Ln.widthL (s.data.toList.drop (Ln.behindL s.data.toList n.toNat)) : Int) c with hw | hw
        · exact hw
        · refine absurd ⟨hb2.1, by omega, by omega, ?_, by omega⟩ h
          rcases h1 with h1 | h1
          · left; omega
          · exact .inr h1.2

end Go.Proofs.Ytapnakcoanjfgaa
