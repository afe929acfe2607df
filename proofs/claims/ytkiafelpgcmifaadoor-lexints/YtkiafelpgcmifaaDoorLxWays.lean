/-
  The walks of the ways of a lexer: blanks, comment, run, sign.
-/
import Derived.Test.YtkiafelpgcmifaaDoorLxState
namespace Go.Proofs.YtkiafelpgcmifaaDoor
open Go.RowKit Go.Shelf

attribute [local go_sem] Oper.semAt_some

theorem str_empty (x : ByteArray) (h : x.size = 0) : x = ⟨#[]⟩ := ByteArray.ext (Array.eq_empty_of_size_eq_zero h)
theorem str_some (x : ByteArray) (h : 0 < x.size) : x.toList ≠ [] ∧ (!x.toList.isEmpty) = true ∧ x.toList.isEmpty = false := by
  have h1 : x.toList ≠ [] := by
    rw [Lib.toList_data]
    intro e
    have h2 : x.data.toList.length = x.size := rfl
    rw [e] at h2; simp at h2; omega
  exact ⟨h1, by simpa using h1, by simpa using h1⟩

namespace Lx
def blanksS (l : List UInt8) : Option Step := if 0 < lead blankI l then some (.skip (lead blankI l)) else none
def commentS (l : List UInt8) : Option Step := if pre [47, 47] l = true then some (.skip (lead inLineI l)) else none
def runS (l : List UInt8) : Option Step := if 0 < lead ldI l then some (if sort (l.take (lead ldI l)) = 0 then .bad 101 else .tok (sort (l.take (lead ldI l))) (lead ldI l)) else none
def signS (l : List UInt8) : Option Step := (sign? l).map fun t => .tok 4 t.length
end Lx

/-- What a way does: nothing, where it is not open. -/
def Way (B b : Nat) (s : ByteArray) (k : Nat) (acc : List Lx.Tok) (r : Ending) (W : World) : Option Lx.Step → Prop
  | none => r = .returned (.bool false) ∧ LSt B b s k acc 0 0 W
  | some (.skip n) => r = .returned (.bool true) ∧ LSt B b s (k + n) acc 0 0 W
  | some (.tok kind n) => r = .returned (.bool true) ∧ LSt B b s (k + n) (acc ++ [⟨kind, (s.data.toList.drop k).take n, k⟩]) 0 0 W
  | some (.bad e) => r = .returned (.bool true) ∧ ∃ k', k ≤ k' ∧ LSt B b s k' acc e k W

theorem size_part (r : ByteArray) (k n : Nat) (h : k + n ≤ r.size) : (r.extract k (k + n)).size = n := by
  rw [ByteArray.size_extract]; omega
theorem lead_fits (p : Int → Bool) (s : ByteArray) (k : Nat) (hk : k ≤ s.size) : k + Lx.lead p (s.data.toList.drop k) ≤ s.size := by
  have h3 := Lx.lead_le p (s.data.toList.drop k)
  have h4 : s.data.toList.length = s.size := rfl
  rw [List.length_drop, h4] at h3
  omega

set_option maxRecDepth 100000 in
set_option maxHeartbeats 1000000 in
theorem blanks_any (B b k : Nat) (s : ByteArray) (acc : List Lx.Tok) (w : World) (h : LSt B b s k acc 0 0 w) (hk : k ≤ s.size) (hs : s.size ≤ maxLen) :
    Calls Tryd.prog 17 #[.pointer (some ⟨b, 0, none⟩)] w fun r w' => Way B b s k acc r w' (Lx.blanksS (s.data.toList.drop k)) ∧ KeepL B b w w' := by
  have HT : Hid (_) := takeAll_blank B b k 0 0 s acc w h hk hs
  have hf := lead_fits Lx.blankI s k hk
  have hx := size_part s k _ hf
  unfold Lx.blanksS
  obtain ⟨n, hn⟩ : ∃ n, n = Lx.lead Lx.blankI (s.data.toList.drop k) := ⟨_, rfl⟩
  rw [← hn] at HT hf hx ⊢
  obtain ⟨x, hxe⟩ : ∃ x, x = s.extract k (k + n) := ⟨_, rfl⟩
  rw [← hxe] at HT hx
  clear hn hxe h
  by_cases h0 : 0 < n
  · rw [if_pos h0]
    obtain ⟨n1, n2, n3⟩ := str_some x (by omega)
    clear hx
    go_enter Tryd.func17, Tryd.ntmps17
    go_wp2_with fail
    refine Calls.mono HT.out ?_
    rintro r w1 ⟨rfl, h1, h2⟩
    have HF : Hid (_) := And.intro h1 h2
    clear h1 h2 HT
    go_wp2
    go_ret
    exact ⟨⟨rfl, HF.out.1⟩, HF.out.2⟩
  · rw [if_neg h0]
    have hx0 := str_empty x (by omega)
    have hn0 : n = 0 := by omega
    subst hn0 hx0
    clear hx
    rw [Nat.add_zero] at HT
    go_enter Tryd.func17, Tryd.ntmps17
    go_wp2_with fail
    refine Calls.mono HT.out ?_
    rintro r w1 ⟨rfl, h1, h2⟩
    have HF : Hid (_) := And.intro h1 h2
    clear h1 h2 HT
    go_wp2
    go_ret
    exact ⟨⟨rfl, HF.out.1⟩, HF.out.2⟩

set_option maxRecDepth 100000 in
set_option maxHeartbeats 1000000 in
theorem comment_any (B b k : Nat) (s : ByteArray) (acc : List Lx.Tok) (w : World) (h : LSt B b s k acc 0 0 w) (hk : k ≤ s.size) (hs : s.size ≤ maxLen) :
    Calls Tryd.prog 18 #[.pointer (some ⟨b, 0, none⟩)] w fun r w' => Way B b s k acc r w' (Lx.commentS (s.data.toList.drop k)) ∧ KeepL B b w w' := by
  obtain ⟨tv, h1, -⟩ := h.row
  have HP : Hid (∀ w, Calls Tryd.prog 37 #[.string (s.extract k s.size), .string ⟨#[47, 47]⟩] w fun e w' => e = .returned (.bool (pre [47, 47] (s.data.toList.drop k))) ∧ w' = w) := fun w => by
    have := prefix_any (s.extract k s.size) ⟨#[47, 47]⟩ w
    rw [extract_rest] at this
    exact this
  have hB := h.size
  have H : Hid (_) := h
  clear h
  unfold Lx.commentS
  cases hp : pre [47, 47] (s.data.toList.drop k) with
  | false =>
    rw [if_neg (by simp)]
    rw [hp] at HP
    go_enter Tryd.func18, Tryd.ntmps18
    go_wp2_with fail
    refine (left_any b k 0 0 s tv w h1 hk).mono ?_
    rintro r w1 ⟨rfl, d1, rfl⟩
    go_wp2_with fail
    refine (HP.out _).mono ?_
    rintro r w2 ⟨rfl, rfl⟩
    go_wp2
    go_ret
    have bd : Below w.heap.size w (w.drewN d1) := below_drewN (Below.refl _ w) d1
    exact ⟨⟨rfl, H.out.below bd⟩, KeepL.of_below bd hB⟩
  | true =>
    rw [if_pos rfl]
    rw [hp] at HP
    go_enter Tryd.func18, Tryd.ntmps18
    go_wp2_with fail
    refine (left_any b k 0 0 s tv w h1 hk).mono ?_
    rintro r w1 ⟨rfl, d1, rfl⟩
    go_wp2_with fail
    refine (HP.out _).mono ?_
    rintro r w2 ⟨rfl, rfl⟩
    have bd : Below w.heap.size w (w.drewN d1) := below_drewN (Below.refl _ w) d1
    have HT : Hid (_) := takeAll_inLine B b k 0 0 s acc (w.drewN d1) (H.out.below bd) hk hs
    have HK : Hid (KeepL B b w (w.drewN d1)) := KeepL.of_below bd hB
    clear bd
    go_wp2_with fail
    refine Calls.mono HT.out ?_
    rintro r w3 ⟨rfl, h3, h4⟩
    have HF : Hid (_) := And.intro h3 h4
    clear h3 h4 HT
    go_wp2
    go_ret
    exact ⟨⟨rfl, HF.out.1⟩, HK.out.trans HF.out.2⟩

end Go.Proofs.YtkiafelpgcmifaaDoor
