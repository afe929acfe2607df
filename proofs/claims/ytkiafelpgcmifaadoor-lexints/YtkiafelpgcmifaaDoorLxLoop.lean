/-
  The walks of the row of ways: the first one that is open; read, up to the end or the first fault; Tokens.
-/
import Derived.Test.YtkiafelpgcmifaaDoorLxSign
namespace Go.Proofs.YtkiafelpgcmifaaDoor
open Go.RowKit Go.Shelf

attribute [local go_sem] Oper.semAt_some

namespace Lx
/-- The ways from the one at a place on. -/
def from4 (l : List UInt8) : Nat → Option Step
  | 0 => (blanksS l).or ((commentS l).or ((runS l).or (signS l)))
  | 1 => (commentS l).or ((runS l).or (signS l))
  | 2 => (runS l).or (signS l)
  | 3 => signS l
  | _ => none
theorem from4_step (l : List UInt8) : step l = (from4 l 0).getD (.bad 100) := by
  unfold step from4 blanksS commentS runS signS pre
  split
  next h => simp
  next h =>
    split
    next h2 => simp
    next h2 =>
      split
      next h3 => simp
      next h3 => cases sign? l <;> simp
end Lx

/-- A way, as a value. -/
def wayV (f b : Nat) : Value := .func (.func f) #[.pointer (some ⟨b, 0, none⟩)] #[]
def waysC (b : Nat) : Array Value := #[wayV 17 b, wayV 18 b, wayV 19 b, wayV 20 b]
def WaysAt (b q : Nat) (W : World) : Prop := W.heap[q]? = some (.cells (waysC b) 22 (0, 0)) ∧ q ≠ b
theorem WaysAt.keep {B b q : Nat} {W W' : World} (h : WaysAt b q W) (hk : KeepL B b W W') : WaysAt b q W' := ⟨hk.2 _ _ _ _ h.1 (by decide) h.2, h.2⟩
theorem WaysAt.cells {b q : Nat} {W : World} (h : WaysAt b q W) : W.cell? ⟨q, 0, none⟩ = some (wayV 17 b) ∧ W.cell? ⟨q, 1, none⟩ = some (wayV 18 b) ∧ W.cell? ⟨q, 2, none⟩ = some (wayV 19 b) ∧ W.cell? ⟨q, 3, none⟩ = some (wayV 20 b) :=
  ⟨by rw [Lib.cell_of_heap h.1]; rfl, by rw [Lib.cell_of_heap h.1]; rfl, by rw [Lib.cell_of_heap h.1]; rfl, by rw [Lib.cell_of_heap h.1]; rfl⟩

theorem Way.open {B b k : Nat} {s : ByteArray} {acc : List Lx.Tok} {r : Ending} {W : World} {st : Lx.Step} (h : Way B b s k acc r W (some st)) : r = .returned (.bool true) := by
  cases st <;> exact h.1
theorem Way.told {B b k : Nat} {s : ByteArray} {acc : List Lx.Tok} {r : Ending} {W : World} {o : Option Lx.Step} (h : Way B b s k acc r W o) : r = .returned (.bool o.isSome) := by
  cases o with
  | none => exact h.1
  | some st => exact h.open

/-- What holds while ways are tried. -/
structure Tries (B b q : Nat) (s : ByteArray) (k : Nat) (acc : List Lx.Tok) (w : World) (W : World) : Prop where
  st : LSt B b s k acc 0 0 W
  kp : KeepL B b w W

set_option maxRecDepth 100000 in
set_option maxHeartbeats 1000000 in
theorem open_blanks (B b k : Nat) (s : ByteArray) (acc : List Lx.Tok) (w : World) (h : LSt B b s k acc 0 0 w) (hk : k ≤ s.size) (hs : s.size ≤ 1000000) :
    Calls Tryd.prog 32 #[wayV 17 b] w fun r w' => Way B b s k acc r w' (Lx.blanksS (s.data.toList.drop k)) ∧ KeepL B b w w' := by
  have HW : Hid (_) := blanks_any B b k s acc w h hk (by unfold maxLen; omega)
  unfold wayV
  go_enter Tryd.func32, Tryd.ntmps32
  go_wp2_with fail
  refine Calls.mono HW.out ?_
  rintro r w1 ⟨h1, h2⟩
  obtain rfl := h1.told
  have HF : Hid (_) := And.intro h1 h2
  clear h1 h2 HW
  go_wp2
  go_ret
  exact ⟨HF.out.1, HF.out.2⟩

set_option maxRecDepth 100000 in
set_option maxHeartbeats 1000000 in
theorem open_comment (B b k : Nat) (s : ByteArray) (acc : List Lx.Tok) (w : World) (h : LSt B b s k acc 0 0 w) (hk : k ≤ s.size) (hs : s.size ≤ 1000000) :
    Calls Tryd.prog 32 #[wayV 18 b] w fun r w' => Way B b s k acc r w' (Lx.commentS (s.data.toList.drop k)) ∧ KeepL B b w w' := by
  have HW : Hid (_) := comment_any B b k s acc w h hk (by unfold maxLen; omega)
  unfold wayV
  go_enter Tryd.func32, Tryd.ntmps32
  go_wp2_with fail
  refine Calls.mono HW.out ?_
  rintro r w1 ⟨h1, h2⟩
  obtain rfl := h1.told
  have HF : Hid (_) := And.intro h1 h2
  clear h1 h2 HW
  go_wp2
  go_ret
  exact ⟨HF.out.1, HF.out.2⟩

set_option maxRecDepth 100000 in
set_option maxHeartbeats 1000000 in
theorem open_run (B b k : Nat) (s : ByteArray) (acc : List Lx.Tok) (w : World) (h : LSt B b s k acc 0 0 w) (hk : k ≤ s.size) (hs : s.size ≤ 1000000) (hl : acc.length ≤ 1000000) :
    Calls Tryd.prog 32 #[wayV 19 b] w fun r w' => Way B b s k acc r w' (Lx.runS (s.data.toList.drop k)) ∧ KeepL B b w w' := by
  have HW : Hid (_) := run_any B b k s acc w h hk hs hl
  unfold wayV
  go_enter Tryd.func32, Tryd.ntmps32
  go_wp2_with fail
  refine Calls.mono HW.out ?_
  rintro r w1 ⟨h1, h2⟩
  obtain rfl := h1.told
  have HF : Hid (_) := And.intro h1 h2
  clear h1 h2 HW
  go_wp2
  go_ret
  exact ⟨HF.out.1, HF.out.2⟩

set_option maxRecDepth 100000 in
set_option maxHeartbeats 1000000 in
theorem open_sign (B b k : Nat) (s : ByteArray) (acc : List Lx.Tok) (w : World) (h : LSt B b s k acc 0 0 w) (hsg : SignsAt B w) (hk : k ≤ s.size) (hs : s.size ≤ 1000000) (hl : acc.length ≤ 1000000) :
    Calls Tryd.prog 32 #[wayV 20 b] w fun r w' => Way B b s k acc r w' (Lx.signS (s.data.toList.drop k)) ∧ KeepL B b w w' := by
  have HW : Hid (_) := sign_any B b k s acc w h hsg hk hs hl
  unfold wayV
  go_enter Tryd.func32, Tryd.ntmps32
  go_wp2_with fail
  refine Calls.mono HW.out ?_
  rintro r w1 ⟨h1, h2⟩
  obtain rfl := h1.told
  have HF : Hid (_) := And.intro h1 h2
  clear h1 h2 HW
  go_wp2
  go_ret
  exact ⟨HF.out.1, HF.out.2⟩

set_option maxRecDepth 100000 in
set_option maxHeartbeats 4000000 in
theorem indexFunc_any (B b q k : Nat) (s : ByteArray) (acc : List Lx.Tok) (w : World) (h : LSt B b s k acc 0 0 w) (hq : WaysAt b q w) (hsg : SignsAt B w) (hk : k ≤ s.size) (hs : s.size ≤ 1000000) (hl : acc.length ≤ 1000000) :
    Calls Tryd.prog 46 #[.slice (some ⟨q, 0, none⟩) 4 4, .func (.func 32) #[] #[]] w fun r w' => (∃ i : Int, r = .returned (.int .i64 i) ∧ Way B b s k acc (.returned (.bool (decide (0 ≤ i)))) w' (Lx.from4 (s.data.toList.drop k) 0)) ∧ KeepL B b w w' := by
  have H : Hid (_) := h
  have HQ : Hid (WaysAt b q w) := hq
  have HSG : Hid (SignsAt B w) := hsg
  clear h hq hsg
  go_enter Tryd.func46, Tryd.ntmps46
  go_wp2_with fail
  go_loopw [8] (fun t wr => ∃ i : Nat, i ≤ 4 ∧ t = .int .i64 i ∧ Lx.from4 (s.data.toList.drop k) 0 = Lx.from4 (s.data.toList.drop k) i ∧ Tries B b q s k acc w wr) (fun t _ => 4 - (intOf t).toNat)
  case atStart => exact ⟨0, Nat.zero_le _, rfl, rfl, H.out, KeepL.refl _ _ _⟩
  case round =>
    obtain ⟨i, hi, rfl, hall, htr⟩ := hrel
    have HA : Hid (_) := hall
    have HT : Hid (Tries B b q s k acc w wr) := htr
    obtain ⟨c0, c1, c2, c3⟩ := (HQ.out.keep htr.kp).cells
    have SG : Hid (SignsAt B wr) := HSG.out.keep htr.kp.1
    clear hall htr
    match i, hi with
    | 0, _ =>
      have HO : Hid (_) := open_blanks B b k s acc wr HT.out.st hk hs
      have fc : wr.cell? ⟨q, 0 + 0, none⟩ = some (wayV 17 b) := c0
      cases ho : Lx.blanksS (s.data.toList.drop k) with
      | none =>
        rw [ho] at HO
        have HE : Hid (Lx.from4 (s.data.toList.drop k) 0 = Lx.from4 (s.data.toList.drop k) 1) := by
          show Lx.from4 (s.data.toList.drop k) 0 = Lx.from4 (s.data.toList.drop k) 1
          rw [HA.out]; simp [Lx.from4, ho]
        clear ho
        go_wp2_with fail
        refine Calls.mono HO.out ?_
        rintro r w1 ⟨⟨rfl, h1⟩, h2⟩
        have HF : Hid (_) := And.intro h1 h2
        clear h1 h2 HO
        go_wp2
        go_roundw
        case rel => exact ⟨1, by omega, by go_num, HE.out, HF.out.1, KeepL.trans HT.out.kp HF.out.2⟩
        case measure => simp [intOf]
      | some st =>
        rw [ho] at HO
        have HE : Hid (Lx.from4 (s.data.toList.drop k) 0 = some st) := by
          show Lx.from4 (s.data.toList.drop k) 0 = some st
          rw [HA.out]; simp [Lx.from4, ho]
        clear ho
        go_wp2_with fail
        refine Calls.mono HO.out ?_
        rintro r w1 ⟨h1, h2⟩
        obtain rfl := h1.open
        have HF : Hid (_) := And.intro h1 h2
        clear h1 h2 HO
        go_wp2
        go_ret
        rw [HE.out]
        exact ⟨⟨0, rfl, HF.out.1⟩, KeepL.trans HT.out.kp HF.out.2⟩
    | 1, _ =>
      have HO : Hid (_) := open_comment B b k s acc wr HT.out.st hk hs
      have fc : wr.cell? ⟨q, 0 + 1, none⟩ = some (wayV 18 b) := c1
      cases ho : Lx.commentS (s.data.toList.drop k) with
      | none =>
        rw [ho] at HO
        have HE : Hid (Lx.from4 (s.data.toList.drop k) 0 = Lx.from4 (s.data.toList.drop k) 2) := by
          show Lx.from4 (s.data.toList.drop k) 0 = Lx.from4 (s.data.toList.drop k) 2
          rw [HA.out]; simp [Lx.from4, ho]
        clear ho
        go_wp2_with fail
        refine Calls.mono HO.out ?_
        rintro r w1 ⟨⟨rfl, h1⟩, h2⟩
        have HF : Hid (_) := And.intro h1 h2
        clear h1 h2 HO
        go_wp2
        go_roundw
        case rel => exact ⟨2, by omega, by go_num, HE.out, HF.out.1, KeepL.trans HT.out.kp HF.out.2⟩
        case measure => simp [intOf]
      | some st =>
        rw [ho] at HO
        have HE : Hid (Lx.from4 (s.data.toList.drop k) 0 = some st) := by
          show Lx.from4 (s.data.toList.drop k) 0 = some st
          rw [HA.out]; simp [Lx.from4, ho]
        clear ho
        go_wp2_with fail
        refine Calls.mono HO.out ?_
        rintro r w1 ⟨h1, h2⟩
        obtain rfl := h1.open
        have HF : Hid (_) := And.intro h1 h2
        clear h1 h2 HO
        go_wp2
        go_ret
        rw [HE.out]
        exact ⟨⟨1, rfl, HF.out.1⟩, KeepL.trans HT.out.kp HF.out.2⟩
    | 2, _ =>
      have HO : Hid (_) := open_run B b k s acc wr HT.out.st hk hs hl
      have fc : wr.cell? ⟨q, 0 + 2, none⟩ = some (wayV 19 b) := c2
      cases ho : Lx.runS (s.data.toList.drop k) with
      | none =>
        rw [ho] at HO
        have HE : Hid (Lx.from4 (s.data.toList.drop k) 0 = Lx.from4 (s.data.toList.drop k) 3) := by
          show Lx.from4 (s.data.toList.drop k) 0 = Lx.from4 (s.data.toList.drop k) 3
          rw [HA.out]; simp [Lx.from4, ho]
        clear ho
        go_wp2_with fail
        refine Calls.mono HO.out ?_
        rintro r w1 ⟨⟨rfl, h1⟩, h2⟩
        have HF : Hid (_) := And.intro h1 h2
        clear h1 h2 HO
        go_wp2
        go_roundw
        case rel => exact ⟨3, by omega, by go_num, HE.out, HF.out.1, KeepL.trans HT.out.kp HF.out.2⟩
        case measure => simp [intOf]
      | some st =>
        rw [ho] at HO
        have HE : Hid (Lx.from4 (s.data.toList.drop k) 0 = some st) := by
          show Lx.from4 (s.data.toList.drop k) 0 = some st
          rw [HA.out]; simp [Lx.from4, ho]
        clear ho
        go_wp2_with fail
        refine Calls.mono HO.out ?_
        rintro r w1 ⟨h1, h2⟩
        obtain rfl := h1.open
        have HF : Hid (_) := And.intro h1 h2
        clear h1 h2 HO
        go_wp2
        go_ret
        rw [HE.out]
        exact ⟨⟨2, rfl, HF.out.1⟩, KeepL.trans HT.out.kp HF.out.2⟩
    | 3, _ =>
      have HO : Hid (_) := open_sign B b k s acc wr HT.out.st SG.out hk hs hl
      have fc : wr.cell? ⟨q, 0 + 3, none⟩ = some (wayV 20 b) := c3
      cases ho : Lx.signS (s.data.toList.drop k) with
      | none =>
        rw [ho] at HO
        have HE : Hid (Lx.from4 (s.data.toList.drop k) 0 = Lx.from4 (s.data.toList.drop k) 4) := by
          show Lx.from4 (s.data.toList.drop k) 0 = Lx.from4 (s.data.toList.drop k) 4
          rw [HA.out]; simp [Lx.from4, ho]
        clear ho
        go_wp2_with fail
        refine Calls.mono HO.out ?_
        rintro r w1 ⟨⟨rfl, h1⟩, h2⟩
        have HF : Hid (_) := And.intro h1 h2
        clear h1 h2 HO
        go_wp2
        go_roundw
        case rel => exact ⟨4, by omega, by go_num, HE.out, HF.out.1, KeepL.trans HT.out.kp HF.out.2⟩
        case measure => simp [intOf]
      | some st =>
        rw [ho] at HO
        have HE : Hid (Lx.from4 (s.data.toList.drop k) 0 = some st) := by
          show Lx.from4 (s.data.toList.drop k) 0 = some st
          rw [HA.out]; simp [Lx.from4, ho]
        clear ho
        go_wp2_with fail
        refine Calls.mono HO.out ?_
        rintro r w1 ⟨h1, h2⟩
        obtain rfl := h1.open
        have HF : Hid (_) := And.intro h1 h2
        clear h1 h2 HO
        go_wp2
        go_ret
        rw [HE.out]
        exact ⟨⟨3, rfl, HF.out.1⟩, KeepL.trans HT.out.kp HF.out.2⟩
    | 4, _ =>
      have HE : Hid (Lx.from4 (s.data.toList.drop k) 0 = none) := by
        show Lx.from4 (s.data.toList.drop k) 0 = none
        rw [HA.out]; rfl
      go_wp2
      go_ret
      rw [HE.out]
      exact ⟨⟨-1, rfl, rfl, HT.out.st⟩, HT.out.kp⟩

set_option maxRecDepth 100000 in
set_option maxHeartbeats 1000000 in
theorem containsFunc_any (B b q k : Nat) (s : ByteArray) (acc : List Lx.Tok) (w : World) (h : LSt B b s k acc 0 0 w) (hq : WaysAt b q w) (hsg : SignsAt B w) (hk : k ≤ s.size) (hs : s.size ≤ 1000000) (hl : acc.length ≤ 1000000) :
    Calls Tryd.prog 34 #[.slice (some ⟨q, 0, none⟩) 4 4, .func (.func 32) #[] #[]] w fun r w' => Way B b s k acc r w' (Lx.from4 (s.data.toList.drop k) 0) ∧ KeepL B b w w' := by
  have HI : Hid (_) := indexFunc_any B b q k s acc w h hq hsg hk hs hl
  clear h hq hsg
  go_enter Tryd.func34, Tryd.ntmps34
  go_wp2_with fail
  refine Calls.mono HI.out ?_
  rintro r w1 ⟨⟨i, rfl, h1⟩, h2⟩
  have HF : Hid (_) := And.intro h1 h2
  clear h1 h2 HI
  go_wp2
  go_ret
  exact ⟨HF.out.1, HF.out.2⟩

end Go.Proofs.YtkiafelpgcmifaaDoor
