/-
  The walks of exchanged's deferred closure: what was thrown becomes the error.
-/
import Derived.Test.YtkiafelpgcmifaaHnExch
import Derived.Defers
import Derived.Recover
import Derived.Laws.Pointers
namespace Go.Proofs.Ytkiafelpgcmifaa
open Go.RowKit Go.Shelf

theorem assert_yes (n : Int) (xT : TypeId) (w : World) : (Instr.typeAssert (.iface 28 (.int .i64 n)) xT 28 true).run Try.prog w = .ok (.tuple #[.int .i64 n, .bool true]) w := by
  simp [Instr.typeAssert, run_underlying Try.underlying28, go_sem, Result.andThen]
theorem assert_no (xT : TypeId) (w : World) : (Instr.typeAssert .nilIface xT 28 true).run Try.prog w = .ok (.tuple #[.int .i64 0, .bool false]) w := by
  simp [Instr.typeAssert, run_underlying Try.underlying28, go_sem, Result.andThen]

set_option maxRecDepth 100000 in
set_option maxHeartbeats 1000000 in
theorem catch_panicking (pt pe : Addr) (x y : Value) (n : Int) (older : List PanicEntry) (w : World) (h1 : w.cell? pt = some x) (z1 : w.frozen? pt = false) (h2 : (w.setCell pt (.slice none 0 0)).cell? pe = some y) (z2 : w.frozen? pe = false) :
    CallsD Try.prog 35 #[.pointer (some pt), .pointer (some pe)] (.panicking ({ v := .iface 28 (.int .i64 n), recovered := false } :: older)) w fun e u' w' =>
      e = .returned (.tuple #[]) ∧ u' = .panicking ({ v := .iface 28 (.int .i64 n), recovered := true } :: older) ∧ w' = (w.setCell pt (.slice none 0 0)).setCell pe (.int .i64 n) := by
  refine callsD_of_wpS Try.func35 rfl fun c₀ cs hu => ?_
  apply wpS_seq
  apply wpS_region
  simp [wpOpsS, go_sem, recoverD, hu, Try.ntmps35, Exit.thenS, assert_yes]
  apply wpS_seq
  apply wpS_region
  simp [wpOpsS, go_sem, Exit.thenS]
  refine wpS_cond (t := true) (by simp [Act.eval, Array.replicate]) ?_
  simp only [if_true]
  apply wpS_region
  simp [wpOpsS, go_sem, h1, z1, h2, z2, bodyPostS, results, Try.results35]

set_option maxRecDepth 100000 in
set_option maxHeartbeats 1000000 in
theorem catch_idle (pt pe : Addr) (w : World) :
    CallsD Try.prog 35 #[.pointer (some pt), .pointer (some pe)] .returning w fun e u' w' => e = .returned (.tuple #[]) ∧ u' = .returning ∧ w' = w := by
  refine callsD_of_wpS Try.func35 rfl fun c₀ cs hu => ?_
  apply wpS_seq
  apply wpS_region
  simp [wpOpsS, go_sem, recoverD, hu, Try.ntmps35, Exit.thenS, assert_no]
  apply wpS_seq
  apply wpS_region
  simp [wpOpsS, go_sem, Exit.thenS]
  refine wpS_cond (t := false) (by simp [Act.eval, Array.replicate]) ?_
  simp only [Bool.false_eq_true, if_false]
  refine wpS_of_wp (wp_skip ?_)
  cases c₀
  simp_all [bodyPostS, results, Try.results35]

end Go.Proofs.Ytkiafelpgcmifaa
