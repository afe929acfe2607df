/-
  Several texts in one, as they are: LxLoop, LxTokens.
-/
import Derived.Test.YtnndgjnihhafbaaGreatDoorLexAll

/-
  The walks of the row of ways: the first one that is open; read, up to the end or the first fault; Tokens.
-/
namespace Go.Proofs.YtnndgjnihhafbaaGreatDoor
open Go.RowKit Go.Shelf

attribute [local go_sem] Oper.semAt_some

namespace Lx
/-- The ways from the one at a place on. -/
def from4 (l : List UInt8) : Nat → Option Step
  | 0 => (blanksS l).or ((commentS l).or ((runS l).or (signS l)))
  | 1 => (commentS l).or ((runS l).or (signS l))
  | 2 => (runS l).or (signS l)
  | 3 => signS l
  | _ => none
theorem from4_step (l : List UInt8) : step l = (from4 l 0).getD (.bad 100) := by
  unfold step from4 blanksS commentS runS signS pre
  split
  next h => simp
  next h =>
    split
    next h2 => simp
    next h2 =>
      split
      next h3 => simp
      next h3 => cases sign? l <;> simp
end Lx

/-- A way, as a value. -/
def wayV (f b : Nat) : Value := .func (.func f) #[.pointer (some ⟨b, 0, none⟩)] #[]
def waysC (b : Nat) : Array Value := #[wayV 72 b, wayV 73 b, wayV 74 b, wayV 75 b]
def WaysAt (b q : Nat) (W : World) : Prop := W.heap[q]? = some (.cells (waysC b) 26 (0, 0)) ∧ q ≠ b
theorem WaysAt.keep {B b q : Nat} {W W' : World} (h : WaysAt b q W) (hk : KeepL B b W W') : WaysAt b q W' := ⟨hk.2 _ _ _ _ h.1 (by decide) h.2, h.2⟩
theorem WaysAt.cells {b q : Nat} {W : World} (h : WaysAt b q W) : W.cell? ⟨q, 0, none⟩ = some (wayV 72 b) ∧ W.cell? ⟨q, 1, none⟩ = some (wayV 73 b) ∧ W.cell? ⟨q, 2, none⟩ = some (wayV 74 b) ∧ W.cell? ⟨q, 3, none⟩ = some (wayV 75 b) :=
  ⟨by rw [Lib.cell_of_heap h.1]; rfl, by rw [Lib.cell_of_heap h.1]; rfl, by rw [Lib.cell_of_heap h.1]; rfl, by rw [Lib.cell_of_heap h.1]; rfl⟩

theorem Way.open {B b k : Nat} {s : ByteArray} {acc : List Lx.Tok} {r : Ending} {W : World} {st : Lx.Step} (h : Way B b s k acc r W (some st)) : r = .returned (.bool true) := by
  cases st <;> exact h.1
theorem Way.told {B b k : Nat} {s : ByteArray} {acc : List Lx.Tok} {r : Ending} {W : World} {o : Option Lx.Step} (h : Way B b s k acc r W o) : r = .returned (.bool o.isSome) := by
  cases o with
  | none => exact h.1
  | some st => exact h.open

/-- What holds while ways are tried. -/
structure Tries (B b q : Nat) (s : ByteArray) (k : Nat) (acc : List Lx.Tok) (w : World) (W : World) : Prop where
  st : LSt B b s k acc 0 0 W
  kp : KeepL B b w W

set_option maxRecDepth 100000 in
set_option maxHeartbeats 1000000 in
theorem open_blanks (B b k : Nat) (s : ByteArray) (acc : List Lx.Tok) (w : World) (h : LSt B b s k acc 0 0 w) (hk : k ≤ s.size) (hs : s.size ≤ 1000000) :
    Calls Tryz.prog 112 #[wayV 72 b] w fun r w' => Way B b s k acc r w' (Lx.blanksS (s.data.toList.drop k)) ∧ KeepL B b w w' := by
  have HW : Hid (_) := blanks_any B b k s acc w h hk (by unfold maxLen; omega)
  unfold wayV
  go_enter Tryz.func112, Tryz.ntmps112
  go_wp2_with fail
  refine Calls.mono HW.out ?_
  rintro r w1 ⟨h1, h2⟩
  obtain rfl := h1.told
  have HF : Hid (_) := And.intro h1 h2
  clear h1 h2 HW
  go_wp2
  go_ret
  exact ⟨HF.out.1, HF.out.2⟩

set_option maxRecDepth 100000 in
set_option maxHeartbeats 1000000 in
theorem open_comment (B b k : Nat) (s : ByteArray) (acc : List Lx.Tok) (w : World) (h : LSt B b s k acc 0 0 w) (hk : k ≤ s.size) (hs : s.size ≤ 1000000) :
    Calls Tryz.prog 112 #[wayV 73 b] w fun r w' => Way B b s k acc r w' (Lx.commentS (s.data.toList.drop k)) ∧ KeepL B b w w' := by
  have HW : Hid (_) := comment_any B b k s acc w h hk (by unfold maxLen; omega)
  unfold wayV
  go_enter Tryz.func112, Tryz.ntmps112
  go_wp2_with fail
  refine Calls.mono HW.out ?_
  rintro r w1 ⟨h1, h2⟩
  obtain rfl := h1.told
  have HF : Hid (_) := And.intro h1 h2
  clear h1 h2 HW
  go_wp2
  go_ret
  exact ⟨HF.out.1, HF.out.2⟩

set_option maxRecDepth 100000 in
set_option maxHeartbeats 1000000 in
theorem open_run (B b k : Nat) (s : ByteArray) (acc : List Lx.Tok) (w : World) (h : LSt B b s k acc 0 0 w) (hk : k ≤ s.size) (hs : s.size ≤ 1000000) (hl : acc.length ≤ 1000000) :
    Calls Tryz.prog 112 #[wayV 74 b] w fun r w' => Way B b s k acc r w' (Lx.runS (s.data.toList.drop k)) ∧ KeepL B b w w' := by
  have HW : Hid (_) := run_any B b k s acc w h hk hs hl
  unfold wayV
  go_enter Tryz.func112, Tryz.ntmps112
  go_wp2_with fail
  refine Calls.mono HW.out ?_
  rintro r w1 ⟨h1, h2⟩
  obtain rfl := h1.told
  have HF : Hid (_) := And.intro h1 h2
  clear h1 h2 HW
  go_wp2
  go_ret
  exact ⟨HF.out.1, HF.out.2⟩

set_option maxRecDepth 100000 in
set_option maxHeartbeats 1000000 in
theorem open_sign (B b k : Nat) (s : ByteArray) (acc : List Lx.Tok) (w : World) (h : LSt B b s k acc 0 0 w) (hsg : SignsAt B w) (hk : k ≤ s.size) (hs : s.size ≤ 1000000) (hl : acc.length ≤ 1000000) :
    Calls Tryz.prog 112 #[wayV 75 b] w fun r w' => Way B b s k acc r w' (Lx.signS (s.data.toList.drop k)) ∧ KeepL B b w w' := by
  have HW : Hid (_) := sign_any B b k s acc w h hsg hk hs hl
  unfold wayV
  go_enter Tryz.func112, Tryz.ntmps112
  go_wp2_with fail
  refine Calls.mono HW.out ?_
  rintro r w1 ⟨h1, h2⟩
  obtain rfl := h1.told
  have HF : Hid (_) := And.intro h1 h2
  clear h1 h2 HW
  go_wp2
  go_ret
  exact ⟨HF.out.1, HF.out.2⟩

set_option maxRecDepth 100000 in
set_option maxHeartbeats 4000000 in
theorem indexFunc_any (B b q k : Nat) (s : ByteArray) (acc : List Lx.Tok) (w : World) (h : LSt B b s k acc 0 0 w) (hq : WaysAt b q w) (hsg : SignsAt B w) (hk : k ≤ s.size) (hs : s.size ≤ 1000000) (hl : acc.length ≤ 1000000) :
    Calls Tryz.prog 146 #[.slice (some ⟨q, 0, none⟩) 4 4, .func (.func 112) #[] #[]] w fun r w' => (∃ i : Int, r = .returned (.int .i64 i) ∧ Way B b s k acc (.returned (.bool (decide (0 ≤ i)))) w' (Lx.from4 (s.data.toList.drop k) 0)) ∧ KeepL B b w w' := by
  have H : Hid (_) := h
  have HQ : Hid (WaysAt b q w) := hq
  have HSG : Hid (SignsAt B w) := hsg
  clear h hq hsg
  go_enter Tryz.func146, Tryz.ntmps146
  go_wp2_with fail
  go_loopw [8] (fun t wr => ∃ i : Nat, i ≤ 4 ∧ t = .int .i64 i ∧ Lx.from4 (s.data.toList.drop k) 0 = Lx.from4 (s.data.toList.drop k) i ∧ Tries B b q s k acc w wr) (fun t _ => 4 - (intOf t).toNat)
  case atStart => exact ⟨0, Nat.zero_le _, rfl, rfl, H.out, KeepL.refl _ _ _⟩
  case round =>
    obtain ⟨i, hi, rfl, hall, htr⟩ := hrel
    have HA : Hid (_) := hall
    have HT : Hid (Tries B b q s k acc w wr) := htr
    obtain ⟨c0, c1, c2, c3⟩ := (HQ.out.keep htr.kp).cells
    have SG : Hid (SignsAt B wr) := HSG.out.keep htr.kp.1
    clear hall htr
    match i, hi with
    | 0, _ =>
      have HO : Hid (_) := open_blanks B b k s acc wr HT.out.st hk hs
      have fc : wr.cell? ⟨q, 0 + 0, none⟩ = some (wayV 72 b) := c0
      cases ho : Lx.blanksS (s.data.toList.drop k) with
      | none =>
        rw [ho] at HO
        have HE : Hid (Lx.from4 (s.data.toList.drop k) 0 = Lx.from4 (s.data.toList.drop k) 1) := by
          show Lx.from4 (s.data.toList.drop k) 0 = Lx.from4 (s.data.toList.drop k) 1
          rw [HA.out]; simp [Lx.from4, ho]
        clear ho
        go_wp2_with fail
        refine Calls.mono HO.out ?_
        rintro r w1 ⟨⟨rfl, h1⟩, h2⟩
        have HF : Hid (_) := And.intro h1 h2
        clear h1 h2 HO
        go_wp2
        go_roundw
        case rel => exact ⟨1, by omega, by go_num, HE.out, HF.out.1, KeepL.trans HT.out.kp HF.out.2⟩
        case measure => simp [intOf]
      | some st =>
        rw [ho] at HO
        have HE : Hid (Lx.from4 (s.data.toList.drop k) 0 = some st) := by
          show Lx.from4 (s.data.toList.drop k) 0 = some st
          rw [HA.out]; simp [Lx.from4, ho]
        clear ho
        go_wp2_with fail
        refine Calls.mono HO.out ?_
        rintro r w1 ⟨h1, h2⟩
        obtain rfl := h1.open
        have HF : Hid (_) := And.intro h1 h2
        clear h1 h2 HO
        go_wp2
        go_ret
        rw [HE.out]
        exact ⟨⟨0, rfl, HF.out.1⟩, KeepL.trans HT.out.kp HF.out.2⟩
    | 1, _ =>
      have HO : Hid (_) := open_comment B b k s acc wr HT.out.st hk hs
      have fc : wr.cell? ⟨q, 0 + 1, none⟩ = some (wayV 73 b) := c1
      cases ho : Lx.commentS (s.data.toList.drop k) with
      | none =>
        rw [ho] at HO
        have HE : Hid (Lx.from4 (s.data.toList.drop k) 0 = Lx.from4 (s.data.toList.drop k) 2) := by
          show Lx.from4 (s.data.toList.drop k) 0 = Lx.from4 (s.data.toList.drop k) 2
          rw [HA.out]; simp [Lx.from4, ho]
        clear ho
        go_wp2_with fail
        refine Calls.mono HO.out ?_
        rintro r w1 ⟨⟨rfl, h1⟩, h2⟩
        have HF : Hid (_) := And.intro h1 h2
        clear h1 h2 HO
        go_wp2
        go_roundw
        case rel => exact ⟨2, by omega, by go_num, HE.out, HF.out.1, KeepL.trans HT.out.kp HF.out.2⟩
        case measure => simp [intOf]
      | some st =>
        rw [ho] at HO
        have HE : Hid (Lx.from4 (s.data.toList.drop k) 0 = some st) := by
          show Lx.from4 (s.data.toList.drop k) 0 = some st
          rw [HA.out]; simp [Lx.from4, ho]
        clear ho
        go_wp2_with fail
        refine Calls.mono HO.out ?_
        rintro r w1 ⟨h1, h2⟩
        obtain rfl := h1.open
        have HF : Hid (_) := And.intro h1 h2
        clear h1 h2 HO
        go_wp2
        go_ret
        rw [HE.out]
        exact ⟨⟨1, rfl, HF.out.1⟩, KeepL.trans HT.out.kp HF.out.2⟩
    | 2, _ =>
      have HO : Hid (_) := open_run B b k s acc wr HT.out.st hk hs hl
      have fc : wr.cell? ⟨q, 0 + 2, none⟩ = some (wayV 74 b) := c2
      cases ho : Lx.runS (s.data.toList.drop k) with
      | none =>
        rw [ho] at HO
        have HE : Hid (Lx.from4 (s.data.toList.drop k) 0 = Lx.from4 (s.data.toList.drop k) 3) := by
          show Lx.from4 (s.data.toList.drop k) 0 = Lx.from4 (s.data.toList.drop k) 3
          rw [HA.out]; simp [Lx.from4, ho]
        clear ho
        go_wp2_with fail
        refine Calls.mono HO.out ?_
        rintro r w1 ⟨⟨rfl, h1⟩, h2⟩
        have HF : Hid (_) := And.intro h1 h2
        clear h1 h2 HO
        go_wp2
        go_roundw
        case rel => exact ⟨3, by omega, by go_num, HE.out, HF.out.1, KeepL.trans HT.out.kp HF.out.2⟩
        case measure => simp [intOf]
      | some st =>
        rw [ho] at HO
        have HE : Hid (Lx.from4 (s.data.toList.drop k) 0 = some st) := by
          show Lx.from4 (s.data.toList.drop k) 0 = some st
          rw [HA.out]; simp [Lx.from4, ho]
        clear ho
        go_wp2_with fail
        refine Calls.mono HO.out ?_
        rintro r w1 ⟨h1, h2⟩
        obtain rfl := h1.open
        have HF : Hid (_) := And.intro h1 h2
        clear h1 h2 HO
        go_wp2
        go_ret
        rw [HE.out]
        exact ⟨⟨2, rfl, HF.out.1⟩, KeepL.trans HT.out.kp HF.out.2⟩
    | 3, _ =>
      have HO : Hid (_) := open_sign B b k s acc wr HT.out.st SG.out hk hs hl
      have fc : wr.cell? ⟨q, 0 + 3, none⟩ = some (wayV 75 b) := c3
      cases ho : Lx.signS (s.data.toList.drop k) with
      | none =>
        rw [ho] at HO
        have HE : Hid (Lx.from4 (s.data.toList.drop k) 0 = Lx.from4 (s.data.toList.drop k) 4) := by
          show Lx.from4 (s.data.toList.drop k) 0 = Lx.from4 (s.data.toList.drop k) 4
          rw [HA.out]; simp [Lx.from4, ho]
        clear ho
        go_wp2_with fail
        refine Calls.mono HO.out ?_
        rintro r w1 ⟨⟨rfl, h1⟩, h2⟩
        have HF : Hid (_) := And.intro h1 h2
        clear h1 h2 HO
        go_wp2
        go_roundw
        case rel => exact ⟨4, by omega, by go_num, HE.out, HF.out.1, KeepL.trans HT.out.kp HF.out.2⟩
        case measure => simp [intOf]
      | some st =>
        rw [ho] at HO
        have HE : Hid (Lx.from4 (s.data.toList.drop k) 0 = some st) := by
          show Lx.from4 (s.data.toList.drop k) 0 = some st
          rw [HA.out]; simp [Lx.from4, ho]
        clear ho
        go_wp2_with fail
        refine Calls.mono HO.out ?_
        rintro r w1 ⟨h1, h2⟩
        obtain rfl := h1.open
        have HF : Hid (_) := And.intro h1 h2
        clear h1 h2 HO
        go_wp2
        go_ret
        rw [HE.out]
        exact ⟨⟨3, rfl, HF.out.1⟩, KeepL.trans HT.out.kp HF.out.2⟩
    | 4, _ =>
      have HE : Hid (Lx.from4 (s.data.toList.drop k) 0 = none) := by
        show Lx.from4 (s.data.toList.drop k) 0 = none
        rw [HA.out]; rfl
      go_wp2
      go_ret
      rw [HE.out]
      exact ⟨⟨-1, rfl, rfl, HT.out.st⟩, HT.out.kp⟩

set_option maxRecDepth 100000 in
set_option maxHeartbeats 1000000 in
theorem containsFunc_any (B b q k : Nat) (s : ByteArray) (acc : List Lx.Tok) (w : World) (h : LSt B b s k acc 0 0 w) (hq : WaysAt b q w) (hsg : SignsAt B w) (hk : k ≤ s.size) (hs : s.size ≤ 1000000) (hl : acc.length ≤ 1000000) :
    Calls Tryz.prog 114 #[.slice (some ⟨q, 0, none⟩) 4 4, .func (.func 112) #[] #[]] w fun r w' => Way B b s k acc r w' (Lx.from4 (s.data.toList.drop k) 0) ∧ KeepL B b w w' := by
  have HI : Hid (_) := indexFunc_any B b q k s acc w h hq hsg hk hs hl
  clear h hq hsg
  go_enter Tryz.func114, Tryz.ntmps114
  go_wp2_with fail
  refine Calls.mono HI.out ?_
  rintro r w1 ⟨⟨i, rfl, h1⟩, h2⟩
  have HF : Hid (_) := And.intro h1 h2
  clear h1 h2 HI
  go_wp2
  go_ret
  exact ⟨HF.out.1, HF.out.2⟩

end Go.Proofs.YtnndgjnihhafbaaGreatDoor

/-
  The walks of read, up to the end or the first fault, and of Tokens.
-/
namespace Go.Proofs.YtnndgjnihhafbaaGreatDoor
open Go.RowKit Go.Shelf

attribute [local go_sem] Oper.semAt_some

/-- How much a lexer has still to do. -/
def mOf (b n : Nat) (W : World) : Nat := (match W.cell? ⟨b, 1, none⟩ with | some (.int _ k) => 2 * (n - k.toNat) | _ => 0) + (match W.cell? ⟨b, 3, none⟩ with | some (.int _ e) => (if e = 0 then 1 else 0) | _ => 0)
theorem mOf_at {b k e f n : Nat} {s : ByteArray} {tv : Value} {W : World} (h : LexAt b s k tv e f W) : mOf b n W = 2 * (n - k) + (if e = 0 then 1 else 0) := by
  obtain ⟨-, c1, -, c3, -⟩ := h.cells
  unfold mOf
  rw [c1, c3]
  by_cases he : e = 0
  · simp [he]
  · simp [he]
theorem mOf_st {B b k e f n : Nat} {s : ByteArray} {acc : List Lx.Tok} {W : World} (h : LSt B b s k acc e f W) : mOf b n W = 2 * (n - k) + (if e = 0 then 1 else 0) := by
  obtain ⟨tv, h1, -⟩ := h.row
  exact mOf_at h1

/-- A lexer that goes on, or has found a fault. -/
def Going (B b : Nat) (s : ByteArray) (k : Nat) (acc : List Lx.Tok) (W : World) : Prop := k ≤ s.size ∧ acc.length ≤ k ∧ LSt B b s k acc 0 0 W ∧ Lx.lex s.data.toList = Lx.rest (s.data.toList.drop k) k acc
def Failed (B b : Nat) (s : ByteArray) (W : World) : Prop := ∃ k acc e i, e ≠ 0 ∧ LSt B b s k acc e i W ∧ Lx.lex s.data.toList = .fault e i
def ReadPost (B b : Nat) (s : ByteArray) (W : World) : Lx.Res → Prop
  | .fault e i => ∃ k acc, LSt B b s k acc e i W
  | .ok ts => LSt B b s s.size ts 0 0 W ∧ ts.length ≤ s.size

theorem step_of {l : List UInt8} {st : Lx.Step} (h : Lx.from4 l 0 = some st) : Lx.step l = st := by rw [Lx.from4_step, h]; rfl
theorem step_none {l : List UInt8} (h : Lx.from4 l 0 = none) : Lx.step l = .bad 100 := by rw [Lx.from4_step, h]; rfl

set_option maxRecDepth 100000 in
set_option maxHeartbeats 2000000 in
theorem read_any (B b q : Nat) (s : ByteArray) (w : World) (h : LSt B b s 0 [] 0 0 w) (hq : WaysAt b q w) (hsg : SignsAt B w) (hs : s.size ≤ 1000000) :
    Calls Tryz.prog 71 #[.pointer (some ⟨b, 0, none⟩), .slice (some ⟨q, 0, none⟩) 4 4] w fun r w' => r = .returned (.tuple #[]) ∧ ReadPost B b s w' (Lx.lex s.data.toList) ∧ KeepL B b w w' := by
  have H : Hid (_) := h
  have HQ : Hid (WaysAt b q w) := hq
  have HSG : Hid (SignsAt B w) := hsg
  have HSZ : Hid (s.data.toList.length = s.size) := rfl
  clear h hq hsg
  go_enter Tryz.func71, Tryz.ntmps71
  go_wp2_with fail
  go_loopw [] (fun wr => ((∃ k acc, Going B b s k acc wr) ∨ Failed B b s wr) ∧ KeepL B b w wr) (fun wr => mOf b s.size wr)
  case atStart => exact ⟨.inl ⟨0, [], Nat.zero_le _, Nat.zero_le _, H.out, rfl⟩, KeepL.refl _ _ _⟩
  case round =>
    obtain ⟨hg, hkp⟩ := hrel
    have HK : Hid (KeepL B b w wr) := hkp
    clear hkp
    rcases hg with ⟨k, acc, hk, ha, hst, hlex⟩ | ⟨k, acc, e, i, he, hst, hlex⟩
    · have HST : Hid (LSt B b s k acc 0 0 wr) := hst
      have HLX : Hid (_) := hlex
      obtain ⟨tv, q1, -⟩ := hst.row
      have bd : ∀ d, Below wr.heap.size wr (wr.drewN d) := fun d => below_drewN (Below.refl _ wr) d
      have BD : Hid (∀ d, Below wr.heap.size wr (wr.drewN d)) := bd
      clear hst hlex bd
      by_cases hlt : k < s.size
      · have MO : Hid (_) := more_any b k 0 0 s tv wr q1
        rw [decide_eq_true hlt] at MO
        have hne : s.data.toList.drop k ≠ [] := by
          intro e; have := congrArg List.length e; rw [List.length_drop, HSZ.out, List.length_nil] at this; omega
        have HNE : Hid (_) := hne
        have CF : Hid (∀ d, Calls Tryz.prog 114 #[.slice (some ⟨q, 0, none⟩) 4 4, .func (.func 112) #[] #[]] (wr.drewN d) fun r w' => Way B b s k acc r w' (Lx.from4 (s.data.toList.drop k) 0) ∧ KeepL B b (wr.drewN d) w') := fun d =>
          containsFunc_any B b q k s acc (wr.drewN d) (HST.out.below (BD.out d)) (HQ.out.keep (KeepL.trans HK.out (KeepL.of_below (BD.out d) HST.out.size))) ((HSG.out.keep HK.out.1).keep ((BD.out d).mono HST.out.size)) hk hs (by omega)
        have KD : Hid (∀ d, KeepL B b w (wr.drewN d)) := fun d => KeepL.trans HK.out (KeepL.of_below (BD.out d) HST.out.size)
        have c3 : ∀ d, (wr.drewN d).cell? ⟨b, 3, none⟩ = some (.int .i64 0) := fun d => q1.cells.2.2.2.1
        clear hne q1
        go_wp2_with fail
        refine Calls.mono MO.out ?_
        rintro r w1 ⟨rfl, d, rfl⟩
        have c3 := c3 d
        go_wp2_with fail
        refine (CF.out d).mono ?_
        rintro r w2 ⟨h1, h2⟩
        obtain rfl := h1.told
        have K2 : Hid (KeepL B b w w2) := KeepL.trans (KD.out d) h2
        have MW : Hid (mOf b s.size wr = 2 * (s.size - k) + 1) := by
          have := mOf_st (n := s.size) HST.out
          rw [if_pos rfl] at this
          exact this
        clear h2 CF KD c3 MO
        cases ho : Lx.from4 (s.data.toList.drop k) 0 with
        | none =>
          rw [ho] at h1
          obtain ⟨-, h1⟩ := h1
          have HS1 : Hid (LSt B b s k acc 0 0 w2) := h1
          have HB : Hid (Lx.lex s.data.toList = .fault 100 k) := by
            show Lx.lex s.data.toList = .fault 100 k
            rw [HLX.out]; exact Lx.rest_bad k acc (step_none ho) HNE.out
          obtain ⟨tw, q2, q3⟩ := h1.row
          obtain ⟨-, c1, -, c3, c4⟩ := q2.cells
          have f3 := q2.frozen 3
          have d4 : (w2.setCell ⟨b, 3, none⟩ (.int .i64 100)).frozen? ⟨b, 4, none⟩ = false := by
            have h1 := heap_setCell_same w2 b 3 _ 104 (.int .i64 100) q2
            exact frozen_of_row _ b 4 _ _ h1
          have HFT : Hid (_) := q2.fault 100 k
          have Q2 : Hid (LexAt b s k tw 0 0 w2) := q2
          have Q3 : Hid (_) := q3
          clear h1 q2 q3 ho
          go_wp2
          go_roundw
          case rel => exact ⟨.inr ⟨k, acc, 100, k, by decide, ⟨⟨tw, HFT.out.1, owns_box Q2.out Q3.out HFT.out.2⟩, HS1.out.low⟩, HB.out⟩, KeepL.trans K2.out (KeepL.of_box HS1.out.low HS1.out.size HFT.out.2)⟩
          case measure =>
            rw [MW.out]
            have := mOf_at (n := s.size) HFT.out.1
            simp only [Nat.reduceEqDiff, if_false] at this
            exact Nat.lt_of_le_of_lt (Nat.le_of_eq this) (by omega)
        | some st =>
          rw [ho] at h1
          have HW : Hid (Way B b s k acc (.returned (.bool true)) w2 (some st)) := h1
          have HO : Hid (Lx.step (s.data.toList.drop k) = st) := step_of ho
          clear h1 ho
          go_wp2
          go_roundw
          case rel =>
            cases st with
            | skip n =>
              have hn := Lx.step_skip HO.out
              rw [List.length_drop, HSZ.out] at hn
              exact ⟨.inl ⟨k + n, acc, by omega, by omega, HW.out.2, by rw [HLX.out, Lx.rest_skip k acc HO.out HNE.out, List.drop_drop]⟩, K2.out⟩
            | tok kind n =>
              have hn := Lx.step_tok HO.out
              rw [List.length_drop, HSZ.out] at hn
              exact ⟨.inl ⟨k + n, _, by omega, by simp; omega, HW.out.2, by rw [HLX.out, Lx.rest_tok k acc HO.out HNE.out, List.drop_drop]⟩, K2.out⟩
            | bad e =>
              obtain ⟨-, k', hk', hst'⟩ := HW.out
              have hB : Lx.lex s.data.toList = .fault e k := by rw [HLX.out]; exact Lx.rest_bad k acc HO.out HNE.out
              have he : e ≠ 0 := by rcases (Lx.lex_fault hB).2 with rfl | rfl <;> decide
              exact ⟨.inr ⟨k', acc, e, k, he, hst', hB⟩, K2.out⟩
          case measure =>
            rw [MW.out]
            cases st with
            | skip n =>
              have hn := Lx.step_skip HO.out
              rw [List.length_drop, HSZ.out] at hn
              have := mOf_st (n := s.size) HW.out.2
              rw [if_pos rfl] at this
              omega
            | tok kind n =>
              have hn := Lx.step_tok HO.out
              rw [List.length_drop, HSZ.out] at hn
              have := mOf_st (n := s.size) HW.out.2
              rw [if_pos rfl] at this
              omega
            | bad e =>
              obtain ⟨-, k', hk', hst'⟩ := HW.out
              have hB : Lx.lex s.data.toList = .fault e k := by rw [HLX.out]; exact Lx.rest_bad k acc HO.out HNE.out
              have he : e ≠ 0 := by rcases (Lx.lex_fault hB).2 with rfl | rfl <;> decide
              have := mOf_st (n := s.size) hst'
              rw [if_neg he] at this
              omega
      · have hke : k = s.size := by omega
        have MO : Hid (_) := more_any b k 0 0 s tv wr q1
        rw [decide_eq_false hlt] at MO
        have HF : Hid (∀ d, ReadPost B b s (wr.drewN d) (Lx.lex s.data.toList) ∧ KeepL B b w (wr.drewN d)) := fun d => by
          refine ⟨?_, KeepL.trans HK.out (KeepL.of_below (BD.out d) HST.out.size)⟩
          have hn : s.data.toList.drop k = [] := List.drop_of_length_le (by rw [HSZ.out]; omega)
          rw [HLX.out, hn, Lx.rest_nil]
          have := HST.out.below (BD.out d)
          rw [hke] at this
          exact ⟨this, by omega⟩
        clear q1
        go_wp2_with fail
        refine Calls.mono MO.out ?_
        rintro r w1 ⟨rfl, d, rfl⟩
        go_wp2
        go_end0
        exact ⟨rfl, HF.out d⟩
    · obtain ⟨tv, q1, -⟩ := hst.row
      have MO : Hid (_) := more_any b k e i s tv wr q1
      have c3 : ∀ d, (wr.drewN d).cell? ⟨b, 3, none⟩ = some (.int .i64 e) := fun d => q1.cells.2.2.2.1
      have HF : Hid (∀ d, ReadPost B b s (wr.drewN d) (Lx.lex s.data.toList) ∧ KeepL B b w (wr.drewN d)) := fun d => by
        have bd : Below wr.heap.size wr (wr.drewN d) := below_drewN (Below.refl _ wr) d
        refine ⟨?_, KeepL.trans HK.out (KeepL.of_below bd hst.size)⟩
        rw [hlex]
        exact ⟨k, acc, hst.below bd⟩
      have hz : ((e : Int) == 0) = false := by rw [beq_eq_false_iff_ne]; omega
      clear hst hlex q1
      cases hlt : decide (k < s.size) with
      | true =>
        rw [hlt] at MO
        clear hlt
        go_wp2_with fail
        refine Calls.mono MO.out ?_
        rintro r w1 ⟨rfl, d, rfl⟩
        have c3 := c3 d
        go_wp2
        go_end0
        exact ⟨rfl, HF.out d⟩
      | false =>
        rw [hlt] at MO
        clear hlt
        go_wp2_with fail
        refine Calls.mono MO.out ?_
        rintro r w1 ⟨rfl, d, rfl⟩
        go_wp2
        go_end0
        exact ⟨rfl, HF.out d⟩

/-- What Tokens tells: tokens in a row of their own, the end behind them; or a fault alone. -/
def TokPost (B n : Nat) (r : Ending) (W : World) : Lx.Res → Prop
  | .fault e i => r = .returned (.tuple #[.slice none 0 0, .agg #[.int .i64 e, .int .i64 i]])
  | .ok ts => ∃ v, r = .returned (.tuple #[v, .agg #[.int .i64 0, .int .i64 0]]) ∧ W.ownsRow B 149 3 v (ts ++ [(⟨5, [], n⟩ : Lx.Tok)]).length (tokCells (ts ++ [⟨5, [], n⟩])) ∧ ts.length ≤ n

/-- A fault in a box: what is set. -/
theorem fault_put {W : World} {n : Nat} {a0 b0 : Value} (h : W.heap[n]? = some (.cells #[a0, b0] 31 (0, 0))) (a c : Value) :
    W.frozen? ⟨n, 0, none⟩ = false ∧ (W.setCell ⟨n, 0, none⟩ a).frozen? ⟨n, 1, none⟩ = false ∧ ∃ Y, Y = (W.setCell ⟨n, 0, none⟩ a).setCell ⟨n, 1, none⟩ c ∧ Y.cell? ⟨n, 0, none⟩ = some a ∧ Y.cell? ⟨n, 1, none⟩ = some c ∧ W.grownBy Y (some n) ∧ ∀ (B k : Nat) (v : Value) (xs : List Value), W.ownsRow B 149 3 v k xs → Y.ownsRow B 149 3 v k xs := by
  have h1 := heap_setCell_same W n 0 _ 31 a h
  have h2 := heap_setCell_same _ n 1 _ 31 c h1
  refine ⟨frozen_of_row W n 0 _ _ h, frozen_of_row _ n 1 _ _ h1, _, rfl, by rw [Lib.cell_of_heap h2]; rfl, by rw [Lib.cell_of_heap h2]; rfl, ?_, fun B k v xs ho => owns_set (owns_set ho h (by decide) 0 a) h1 (by decide) 1 c⟩
  have g1 := grown_set W n 0 a
  have g2 := grown_set (W.setCell ⟨n, 0, none⟩ a) n 1 c
  exact ⟨g2.os.trans g1.os, g2.tape.trans g1.tape, g2.output.trans g1.output, Nat.le_trans g1.size g2.size, fun j hj hn => (g2.block j (Nat.lt_of_lt_of_le hj g1.size) hn).trans (g1.block j hj hn)⟩
theorem below_box {B n : Nat} {A W Y : World} (h : Below B A W) (hg : W.grownBy Y (some n)) (hn : B ≤ n) (hB : B ≤ W.heap.size) : Below B A Y :=
  h.trans ⟨hg.os, hg.tape, hg.output, hg.size, fun k hk => hg.block k (by omega) (fun e => by cases e; omega)⟩

set_option maxRecDepth 100000 in
set_option maxHeartbeats 2000000 in
theorem tokens_any (s : ByteArray) (w : World) (hsg : SignsAt w.heap.size w) (hs : s.size ≤ 1000000) :
    Calls Tryz.prog 39 #[.string s] w fun r w' => TokPost w.heap.size s.size r w' (Lx.lex s.data.toList) ∧ Below w.heap.size w w' := by
  have HSG : Hid (SignsAt w.heap.size w) := hsg
  clear hsg
  go_enter Tryz.func39, Tryz.ntmps39
  go_wp2_with fail
  refine (clone_any s _ (by omega)).mono ?_
  rintro r w1 ⟨rfl, hb1⟩
  have h0 : w1.heap[w.heap.size]? = some (.cells #[.int .i64 0, .int .i64 0] 31 (0, 0)) := (hb1.block w.heap.size (by simp)).trans (World.alloc_heap_new w _)
  have B1 : Below w.heap.size w w1 := (below_nw w _).trans (hb1.mono (by simp))
  have hsz : w.heap.size < w1.heap.size := by have := hb1.size; simp at this; omega
  clear hb1
  go_wp2_with fail
  obtain ⟨X, hX⟩ : ∃ X, X = (w1.alloc (.cells #[.string s, .int .i64 0, .slice none 0 0, .int .i64 0, .int .i64 0] 104)).alloc (.cells #[.func (.func 72) #[.pointer (some ⟨w1.heap.size, 0, none⟩)] #[], .func (.func 73) #[.pointer (some ⟨w1.heap.size, 0, none⟩)] #[], .func (.func 74) #[.pointer (some ⟨w1.heap.size, 0, none⟩)] #[], .func (.func 75) #[.pointer (some ⟨w1.heap.size, 0, none⟩)] #[]] 26) := ⟨_, rfl⟩
  have bX : Below w1.heap.size w1 X := by rw [hX]; exact ((below_nw w1 _).alloc (by simp) _)
  have hL : LexAt w1.heap.size s 0 (.slice none 0 0) 0 0 X := by
    show X.heap[w1.heap.size]? = _
    rw [hX]; exact (Below.heap_alloc _ _ _ (by simp)).trans (World.alloc_heap_new w1 _)
  have hWy : WaysAt w1.heap.size (w1.heap.size + 1) X := by
    refine ⟨?_, by omega⟩
    rw [hX]
    have h9 := World.alloc_heap_new (w1.alloc (.cells #[.string s, .int .i64 0, .slice none 0 0, .int .i64 0, .int .i64 0] 104)) (.cells #[.func (.func 72) #[.pointer (some ⟨w1.heap.size, 0, none⟩)] #[], .func (.func 73) #[.pointer (some ⟨w1.heap.size, 0, none⟩)] #[], .func (.func 74) #[.pointer (some ⟨w1.heap.size, 0, none⟩)] #[], .func (.func 75) #[.pointer (some ⟨w1.heap.size, 0, none⟩)] #[]] 26)
    rw [World.size_alloc] at h9
    exact h9
  have BX : Below w.heap.size w X := B1.trans (bX.mono (by omega))
  have hS : LSt w.heap.size w1.heap.size s 0 [] 0 0 X := ⟨⟨_, hL, World.ownsRow_nil _ _ _ _⟩, by omega⟩
  have RD : Hid (_) := read_any w.heap.size w1.heap.size (w1.heap.size + 1) s X hS hWy (HSG.out.keep BX) hs
  have h0X : X.heap[w.heap.size]? = some (.cells #[.int .i64 0, .int .i64 0] 31 (0, 0)) := (bX.block w.heap.size hsz).trans h0
  have H0 : Hid (_) := h0X
  have HBX : Hid (Below w.heap.size w X) := BX
  rw [← hX]
  clear hX hL hWy hS BX h0 h0X B1 bX
  refine Calls.mono RD.out ?_
  rintro r w2 ⟨rfl, hp, hk⟩
  have h02 := hk.2 _ _ _ _ H0.out (by decide) (by omega)
  have B2 : Hid (Below w.heap.size w w2) := HBX.out.trans hk.1
  clear RD hk HBX H0
  have z0 : w2.cell? ⟨w.heap.size, 0, none⟩ = some (.int .i64 0) := by rw [Lib.cell_of_heap h02]; rfl
  have z1 : w2.cell? ⟨w.heap.size, 1, none⟩ = some (.int .i64 0) := by rw [Lib.cell_of_heap h02]; rfl
  cases hres : Lx.lex s.data.toList with
  | fault e i =>
    rw [hres] at hp
    obtain ⟨k, acc, hst⟩ := hp
    have he : e ≠ 0 := by rcases (Lx.lex_fault hres).2 with rfl | rfl <;> decide
    have hz : ((e : Int) != 0) = true := by simpa using he
    obtain ⟨tv, q1, -⟩ := hst.row
    obtain ⟨-, -, -, c3, c4⟩ := q1.cells
    have HR : Hid (Lx.lex s.data.toList = .fault e i) := hres
    clear hres hst q1
    obtain ⟨f0, f1, Y, hY, k0, k1, gY, -⟩ := fault_put h02 (.int .i64 e) (.int .i64 i)
    have HF : Hid (Below w.heap.size w Y.drew) := below_drewN (below_box B2.out gY (Nat.le_refl _) B2.out.size) 1
    clear gY
    go_wp2
    go_region
    rw [← hY]
    have k0' : Y.drew.cell? ⟨w.heap.size, 0, none⟩ = some (.int .i64 e) := k0
    have k1' : Y.drew.cell? ⟨w.heap.size, 1, none⟩ = some (.int .i64 i) := k1
    clear hY
    go_wp2
    refine bodyPost_ret (v := .tuple #[.slice none 0 0, .agg #[.int .i64 e, .int .i64 i]]) (by simp [results, Tryz.results39, go_sem, k0, k1]) rfl ?_
    rw [HR.out]
    exact ⟨rfl, HF.out⟩
  | ok ts =>
    rw [hres] at hp
    obtain ⟨hst, hle⟩ := hp
    obtain ⟨tv, q1, -⟩ := hst.row
    obtain ⟨-, -, -, c3, c4⟩ := q1.cells
    have PT : Hid (_) := put_any w.heap.size w1.heap.size s.size 0 0 5 s ⟨#[]⟩ ts w2 hst (Nat.zero_le _) hs (by omega)
    have HLE : Hid (_) := hle
    have HR : Hid (Lx.lex s.data.toList = .ok ts) := hres
    clear hres hst q1 hle
    go_wp2_with fail
    refine Calls.mono PT.out ?_
    rintro r w3 ⟨rfl, h3, k3⟩
    have h03 := k3.2 _ _ _ _ h02 (by decide) (by omega)
    have B3 : Hid (Below w.heap.size w w3) := B2.out.trans k3.1
    have y0 : w3.cell? ⟨w.heap.size, 0, none⟩ = some (.int .i64 0) := by rw [Lib.cell_of_heap h03]; rfl
    have y1 : w3.cell? ⟨w.heap.size, 1, none⟩ = some (.int .i64 0) := by rw [Lib.cell_of_heap h03]; rfl
    obtain ⟨tv3, q3, o3⟩ := h3.row
    obtain ⟨-, -, c2, -⟩ := q3.cells
    obtain ⟨f0, f1, Y, hY, k0, k1, gY, oY⟩ := fault_put h03 (.int .i64 0) (.int .i64 0)
    have HF : Hid (TokPost w.heap.size s.size (.returned (.tuple #[tv3, .agg #[.int .i64 0, .int .i64 0]])) Y (.ok ts) ∧ Below w.heap.size w Y) := ⟨⟨tv3, rfl, oY _ _ _ _ o3, HLE.out⟩, below_box B3.out gY (Nat.le_refl _) B3.out.size⟩
    clear o3 q3 h3 k3 h03 gY oY B3 HLE PT
    go_wp2
    rw [← hY]
    refine bodyPost_ret (v := .tuple #[tv3, .agg #[.int .i64 0, .int .i64 0]]) (by simp [results, Tryz.results39, go_sem, k0, k1]) rfl ?_
    rw [HR.out]
    exact HF.out

end Go.Proofs.YtnndgjnihhafbaaGreatDoor
