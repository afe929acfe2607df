/-
  The walks of diff.copied and diff.exchange: lines in new memory; the hunk that exchanges them.
-/
import Derived.Test.YtejnleigjjaenaaClone
import Derived.Test.YtejnleigjjaenaaNumbered
namespace Go.Proofs.Ytejnleigjjaenaa
open Go.RowKit

theorem take_txt (L : List (List UInt8)) (k : Nat) (x : List UInt8) (hx : L[k]? = some x) : (L.take (k + 1)).map txtV = (L.take k).map txtV ++ [.string (Ln.bs x)] := by
  rw [List.take_add_one, hx]; simp [txtV]

/-- The value of a hunk. -/
def hkV (at_ : Nat) (vo vn : Value) : Value := .agg #[.int .i64 at_, vo, vn]

theorem grown_set (w : World) (b j : Nat) (u : Value) : w.grownBy (w.setCell ⟨b, j, none⟩ u) (some b) :=
  ⟨rfl, rfl, rfl, by simp, fun k _ hk => heap_setCell_other w ⟨b, j, none⟩ k u (fun e => hk (by simp [e]))⟩
theorem three_cells {w : World} {b : Nat} {t : TypeId} {x y z : Value} (h : w.heap[b]? = some (.cells #[x, y, z] t (0, 0))) (x' y' z' : Value) :
    (((w.setCell ⟨b, 0, none⟩ x').setCell ⟨b, 1, none⟩ y').setCell ⟨b, 2, none⟩ z').heap[b]? = some (.cells #[x', y', z'] t (0, 0)) := by
  have h1 := heap_setCell_same w b 0 _ t x' h
  have h2 := heap_setCell_same _ b 1 _ t y' h1
  have h3 := heap_setCell_same _ b 2 _ t z' h2
  exact h3

theorem slice_shape {w : World} {B e size n : Nat} {v : Value} {xs : List Value} (h : w.ownsRow B e size v n xs) : ∃ ao cap, v = .slice ao n cap := by
  rcases h.2 with ⟨rfl, rfl⟩ | ⟨g, cap, cur, rfl, _⟩
  · exact ⟨none, 0, rfl⟩
  · exact ⟨_, cap, rfl⟩

end Go.Proofs.Ytejnleigjjaenaa
