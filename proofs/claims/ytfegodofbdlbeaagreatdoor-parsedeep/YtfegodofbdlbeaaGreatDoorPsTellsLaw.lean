/-
  The program's File and the document's tell the same; the walk of ParseTells.
-/
import Derived.Test.YtfegodofbdlbeaaGreatDoorRsFile
import Derived.Test.YtfegodofbdlbeaaGreatDoorPsFine2
import Derived.Test.YtfegodofbdlbeaaGreatDoorEndAll
import Derived.Test.YtfegodofbdlbeaaGreatDoorTrDoc
namespace Go.Proofs.YtfegodofbdlbeaaGreatDoor
open Go.RowKit Go.Shelf

attribute [local go_sem] Oper.semAt_some

theorem told_two {s : ByteArray} {w0 w1 w3 Y w4 Z : World} {v v' : Value} {E i E' i' : Nat} (h : GTold s w0 w3 v E i) (h' : GTold s w1 w4 v' E' i') (b3 : Below w3.heap.size w3 Y) (b4 : Below Y.heap.size Y w4) (bZ : Below w4.heap.size w4 Z) :
    ∃ tt, E = E' ∧ i = i' ∧ NodeR (lowS Z.heap.size) Z v tt ∧ NodeR (lowS Z.heap.size) Z v' tt := by
  rcases h.node (below_then b3 (below_then b4 bZ)) with ⟨rfl, rfl, ks, ok1, nd1⟩ | ⟨hE, bad1, nd1⟩
  · rcases h'.node bZ with ⟨rfl, rfl, ks', ok3, nd2⟩ | ⟨-, bad2, -⟩
    · obtain rfl : ks = ks' := ok1.one ok3
      exact ⟨_, rfl, rfl, nd1, nd2⟩
    · exact (ok1.not bad2).elim
  · rcases h'.node bZ with ⟨rfl, rfl, ks', ok3, nd2⟩ | ⟨-, bad2, nd2⟩
    · exact (ok3.not bad1).elim
    · obtain ⟨rfl, rfl⟩ := bad1.one bad2
      exact ⟨_, rfl, rfl, nd1, nd2⟩

set_option maxRecDepth 100000 in
set_option maxHeartbeats 8000000 in
theorem ptells_law (s : ByteArray) (hs : s.size ≤ maxLen) (w : World) (hsg : SignsAt w.heap.size w) :
    Calls Tryz.prog 3 #[.string s] w fun e w' => e = .returned (.bool true) ∧ Below w.heap.size w w' := by
  have HSG : Hid (SignsAt w.heap.size w) := hsg
  have hs1 : s.size ≤ 9223372036854775807 := hs
  have HA : Hid (_) := pawake_any w hsg
  clear hsg hs
  go_enter Tryz.func3, Tryz.ntmps3
  go_wp2_with fail
  refine Calls.mono HA.out ?_
  rintro e w1 ⟨rfl, b1⟩
  clear HA
  have HB1 : Hid (Below w.heap.size w w1) := b1
  clear b1
  by_cases h2 : 3000 < s.size
  · have d1 : decide (3000 < s.size) = true := decide_eq_true h2
    have d2 : decide ((3000 : Int) < s.size) = true := decide_eq_true (by omega)
    go_wp2
    go_ret
    exact ⟨rfl, HB1.out⟩
  have d1 : decide (3000 < s.size) = false := decide_eq_false h2
  have d2 : decide ((3000 : Int) < s.size) = false := decide_eq_false (by omega)
  have HSM : Hid (∀ ks, FileOk (s).data.toList ks → True) := fun _ _ => trivial
  have HF : Hid (_) := pfileAll_any (s) w1 ((HSG.out.keep HB1.out).mono HB1.out.size) (by omega)
  go_wp2_with fail
  refine Calls.mono HF.out ?_
  rintro e w3 ⟨b3, g3⟩
  clear HF HSM
  obtain ⟨k, tx, n, a, L1, cc, E, i, rfl, t3⟩ := g3.gen
  obtain ⟨y1, y2, y3, y4⟩ := two_boxes w3 #[.int .u8 k, .string tx, .int .i64 n, .slice a L1 cc] #[.int .i64 E, .int .i64 i]
  obtain ⟨Y, hY⟩ : ∃ Y, Y = (w3.alloc (.cells #[.int .u8 k, .string tx, .int .i64 n, .slice a L1 cc] 26)).alloc (.cells #[.int .i64 E, .int .i64 i] 29) := ⟨_, rfl⟩
  rw [← hY] at y1 y2 y3 y4
  have HY : Hid (Below w3.heap.size w3 Y ∧ Below w1.heap.size w1 Y ∧ Y.heap[w3.heap.size]? = some (.cells #[.int .u8 k, .string tx, .int .i64 n, .slice a L1 cc] 26 (0, 0)) ∧ Y.heap[w3.heap.size + 1]? = some (.cells #[.int .i64 E, .int .i64 i] 29 (0, 0))) := ⟨y1, below_then b3 y1, y3, y4⟩
  have HT3 : Hid (GTold (s) w1 w3 (.agg #[.int .u8 k, .string tx, .int .i64 n, .slice a L1 cc]) E i) := t3
  have HF : Hid (_) := rfileAll_any (s) Y (by omega)
  clear y1 y2 y3 y4 t3 g3 b3
  go_wp2_with fail
  rw [← hY]
  clear hY
  refine Calls.mono HF.out ?_
  rintro e w4 ⟨b4, g4⟩
  clear HF
  obtain ⟨k', tx', n', a', L2, cc', E', i', rfl, t4⟩ := g4.gen
  obtain ⟨y1, y2, y3, y4⟩ := two_boxes w4 #[.int .u8 k', .string tx', .int .i64 n', .slice a' L2 cc'] #[.int .i64 E', .int .i64 i']
  obtain ⟨x1, x2, x3, x4⟩ := HY.out
  obtain ⟨tt, hEE, hii, nd1, nd2⟩ := told_two (w1 := Y) HT3.out t4 x1 b4 y1
  subst hEE
  subst hii
  obtain ⟨Z, hZ⟩ : ∃ Z, Z = (w4.alloc (.cells #[.int .u8 k', .string tx', .int .i64 n', .slice a' L2 cc'] 26)).alloc (.cells #[.int .i64 E, .int .i64 i] 29) := ⟨_, rfl⟩
  rw [← hZ] at y1 y2 y3 y4 nd1 nd2
  have bYZ : Below Y.heap.size Y Z := below_then b4 y1
  have bwZ : Below w1.heap.size w1 Z := below_then x2 bYZ
  have u3 := (b4.block _ (Array.getElem?_eq_some_iff.1 x3).1).trans x3
  have u4 := (b4.block _ (Array.getElem?_eq_some_iff.1 x4).1).trans x4
  have lt1 : w3.heap.size < w4.heap.size := (Array.getElem?_eq_some_iff.1 u3).1
  have lt2 : w3.heap.size + 1 < w4.heap.size := (Array.getElem?_eq_some_iff.1 u4).1
  have f0 : w4.cell? ⟨w3.heap.size + 1, 0, none⟩ = some (.int .i64 E) := cells_at u4 rfl
  have f1 : w4.cell? ⟨w3.heap.size + 1, 1, none⟩ = some (.int .i64 i) := cells_at u4 rfl
  have m0 : w4.cell? ⟨w3.heap.size, 0, none⟩ = some (.int .u8 k) := cells_at u3 rfl
  have m1 : w4.cell? ⟨w3.heap.size, 1, none⟩ = some (.string tx) := cells_at u3 rfl
  have m2 : w4.cell? ⟨w3.heap.size, 2, none⟩ = some (.int .i64 n) := cells_at u3 rfl
  have m3 : w4.cell? ⟨w3.heap.size, 3, none⟩ = some (.slice a L1 cc) := cells_at u3 rfl
  have HT : Hid (_) := sameNode_any tt (lowS Z.heap.size) (lowS Z.heap.size) _ _ tt Z (fun _ h => h) (fun _ h => h) nd1 nd2
  rw [Tr.eqb_refl] at HT
  have HZ : Hid (Below w.heap.size w Z) := below_then HB1.out bwZ
  clear y1 y2 y3 y4 x1 x2 x3 x4 bYZ bwZ u3 u4 t4 g4 b4 nd1 nd2 HT3 HY
  go_wp2_with fail
  rw [← hZ]
  clear hZ f0 f1 m0 m1 m2 m3 lt1 lt2
  refine Calls.mono HT.out ?_
  rintro e w5 ⟨rfl, b5⟩
  have HE : Hid (Below w.heap.size w w5) := below_then HZ.out b5
  clear b5 HT HZ
  go_wp2
  go_ret
  exact ⟨rfl, HE.out⟩
end Go.Proofs.YtfegodofbdlbeaaGreatDoor
