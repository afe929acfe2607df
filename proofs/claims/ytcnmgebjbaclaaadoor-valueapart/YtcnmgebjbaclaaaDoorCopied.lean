/-
  The walks of diff.copied and diff.exchange: lines in new memory; the hunk that exchanges them.
-/
import Derived.Test.YtcnmgebjbaclaaaDoorClone
import Derived.Test.YtcnmgebjbaclaaaDoorNumbered
namespace Go.Proofs.YtcnmgebjbaclaaaDoor
open Go.RowKit

/-- The value of a hunk. -/
def hkV (at_ : Nat) (vo vn : Value) : Value := .agg #[.int .i64 at_, vo, vn]

theorem grown_set (w : World) (b j : Nat) (u : Value) : w.grownBy (w.setCell ⟨b, j, none⟩ u) (some b) :=
  ⟨rfl, rfl, rfl, by simp, fun k _ hk => heap_setCell_other w ⟨b, j, none⟩ k u (fun e => hk (by simp [e]))⟩
end Go.Proofs.YtcnmgebjbaclaaaDoor
