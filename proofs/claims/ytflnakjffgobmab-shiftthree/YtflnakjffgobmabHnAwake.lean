/-
  The walk of the law's awake (chapter 3): the chapter's examples.
-/
import Derived.Test.YtflnakjffgobmabHnApply
import Derived.Test.YtflnakjffgobmabLows
namespace Go.Proofs.Ytflnakjffgobmab
open Go.RowKit Go.Shelf

attribute [local go_sem] Oper.semAt_some

def abcL : List (List UInt8) := [[97, 10], [98, 10], [99, 10]]
theorem ap1 : Hn.apply abcL [⟨1, [[98, 10]], [[120, 10], [121, 10]]⟩] = .ok [[97, 10], [120, 10], [121, 10], [99, 10]] := by rfl
theorem ap2 : Hn.apply abcL [⟨1, [[99, 10]], [[120, 10]]⟩] = .error 121 := by rfl
theorem ap3 : Hn.apply abcL [⟨3, [[99, 10]], []⟩] = .error 6 := by rfl
theorem ap4 : Hn.apply abcL [⟨2, [[99, 10]], [[100]]⟩] = .ok [[97, 10], [98, 10], [100]] := by rfl
theorem ap5 : Hn.apply abcL [⟨0, [[97, 10]], [[100]]⟩] = .error 4 := by rfl

theorem low_lit (w : World) (L : List (List UInt8)) : RowLow (w.alloc (.cells (L.map txtV).toArray 9)).heap.size (w.alloc (.cells (L.map txtV).toArray 9)) (.slice (some ⟨w.heap.size, 0, none⟩) L.length L.length) L := by
  unfold RowLow
  exact CellsLow.lit w (L.map txtV) 9 L.length

/-- Few lines, and short ones. -/
def few (L : List (List UInt8)) : Bool := decide (L.length ≤ 1000) && L.all fun s => decide (s.length ≤ 1000)
theorem few_spec {L : List (List UInt8)} (h : few L = true) : L.length ≤ 1000 ∧ ∀ s ∈ L, s.length ≤ 1000 := by
  simp only [few, Bool.and_eq_true, decide_eq_true_eq, List.all_eq_true] at h
  exact h
/-- A hunk in a row of its own. -/
theorem haLow_lit (w : World) (p : Int) (vo vn : Value) (L1 L2 : List (List UInt8)) (h1 : RowLow w.heap.size w vo L1) (h2 : RowLow w.heap.size w vn L2) :
    HaLow (w.alloc (.cells #[.int .i64 p, vo, vn] 24)).heap.size (w.alloc (.cells #[.int .i64 p, vo, vn] 24)) (.slice (some ⟨w.heap.size, 0, none⟩) 1 1) [⟨p, vo, vn, L1, L2⟩] := by
  refine ⟨CellsLow.lit w [.int .i64 p, vo, vn] 24 1, fun x hx => ?_⟩
  rw [List.mem_singleton] at hx
  subst hx
  exact ⟨h1.at (below_new w _), h2.at (below_new w _)⟩
end Go.Proofs.Ytflnakjffgobmab
