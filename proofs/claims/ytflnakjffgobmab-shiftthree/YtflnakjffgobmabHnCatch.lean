/-
  The walks of exchanged's deferred closure: what was thrown becomes the error.
-/
import Derived.Test.YtflnakjffgobmabHnExch
import Derived.Defers
import Derived.Recover
import Derived.Laws.Pointers
namespace Go.Proofs.Ytflnakjffgobmab
open Go.RowKit Go.Shelf

theorem assert_yes (n : Int) (xT : TypeId) (w : World) : (Instr.typeAssert (.iface 27 (.int .i64 n)) xT 27 true).run Try.prog w = .ok (.tuple #[.int .i64 n, .bool true]) w := by
  simp [Instr.typeAssert, run_underlying Try.underlying27, go_sem, Result.andThen]
theorem assert_no (xT : TypeId) (w : World) : (Instr.typeAssert .nilIface xT 27 true).run Try.prog w = .ok (.tuple #[.int .i64 0, .bool false]) w := by
  simp [Instr.typeAssert, run_underlying Try.underlying27, go_sem, Result.andThen]

end Go.Proofs.Ytflnakjffgobmab
