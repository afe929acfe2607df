/-
  The walks of hunk.asking and of the closure that it tells.
-/
import Derived.Test.YtkiafelpgcmifaaHnInvert
import Derived.WalkLawsBesides
namespace Go.Proofs.Ytkiafelpgcmifaa
open Go.RowKit Go.Shelf

attribute [local go_sem] Oper.semAt_some

/-- The closure that is asked for lines. -/
def upTo (lb fb : Nat) : Value := .func (.func 64) #[] #[.pointer (some ⟨lb, 0, none⟩), .pointer (some ⟨fb, 0, none⟩)]

set_option maxRecDepth 100000 in
set_option maxHeartbeats 2000000 in
theorem asking_any (ao : Option Addr) (n cap : Nat) (w : World) :
    Calls Try.prog 36 #[.slice ao n cap] w fun e w' => e = .returned (upTo w.heap.size (w.heap.size + 1)) ∧ w' = (w.alloc (.cells #[.slice ao n cap] 22)).alloc (.cells #[.int .i64 0] 3) := by
  have hmf : ∀ (fn : Fn) (first cap : Array Value) (w : World), (Instr.makeFunc fn first cap).run Try.prog w = .ok (.func fn first cap) w := fun _ _ _ _ => rfl
  go_enter Try.func36, Try.ntmps36
  go_wp2
  go_ret
  exact ⟨rfl, rfl⟩

set_option maxRecDepth 100000 in
set_option maxHeartbeats 2000000 in
theorem up_more (lb fb : Nat) (ao : Option Addr) (n cap : Nat) (at_ : Int) (w : World) (hl : w.cell? ⟨lb, 0, none⟩ = some (.slice ao n cap)) (hk : (n : Int) < at_) :
    Calls Try.prog 64 #[.int .i64 at_, .pointer (some ⟨lb, 0, none⟩), .pointer (some ⟨fb, 0, none⟩)] w fun e w' => e = .panicked [{ v := .iface 28 (.int .i64 6), recovered := false }] ∧ w' = w := by
  have q : decide ((n : Int) < at_) = true := by simp; omega
  go_enter Try.func64, Try.ntmps64
  go_wp2
  exact ⟨rfl, rfl, rfl⟩

set_option maxRecDepth 100000 in
set_option maxHeartbeats 2000000 in
theorem up_some (lb fb : Nat) (L : List (List UInt8)) (v : Value) (k at_ m : Nat) (w : World) (hrow : RowLow m w v L) (hl : w.cell? ⟨lb, 0, none⟩ = some v) (hf : w.cell? ⟨fb, 0, none⟩ = some (.int .i64 k)) (hz : w.frozen? ⟨fb, 0, none⟩ = false) (h1 : k ≤ at_) (h2 : at_ ≤ L.length) :
    Calls Try.prog 64 #[.int .i64 at_, .pointer (some ⟨lb, 0, none⟩), .pointer (some ⟨fb, 0, none⟩)] w fun e w' => ∃ v', e = .returned v' ∧ RowLow m w v' (Df.part L k at_) ∧ w' = w.setCell ⟨fb, 0, none⟩ (.int .i64 at_) := by
  obtain ⟨v', hsl, hrow'⟩ := slice_row hrow h1 h2
  obtain ⟨ao, cap, b1, o1, rfl, -, -, -⟩ := hrow.parts
  have q : decide ((L.length : Int) < (at_ : Int)) = false := by simp; omega
  have q2 : decide (L.length < at_) = false := by simp; omega
  go_enter Try.func64, Try.ntmps64
  go_wp2
  go_ret
  exact ⟨_, rfl, hrow', rfl⟩

end Go.Proofs.Ytkiafelpgcmifaa
