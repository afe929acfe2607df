/-
  The walk of ParseRight.
-/
import Derived.Test.YtdaaecnmllpgdaaGreatDoorEndAll
import Derived.Test.YtdaaecnmllpgdaaGreatDoorPairAll
import Derived.Test.YtdaaecnmllpgdaaGreatDoorTrAll
namespace Go.Proofs.YtdaaecnmllpgdaaGreatDoor
open Go.RowKit Go.Shelf

attribute [local go_sem] Oper.semAt_some

set_option maxRecDepth 100000 in
set_option maxHeartbeats 8000000 in
theorem pright_law (s : ByteArray) (hs : s.size ≤ maxLen) (w : World) (hsg : SignsAt w.heap.size w) :
    Calls Tryz.prog 3 #[.string s] w fun e w' => e = .returned (.bool true) ∧ Below w.heap.size w w' := by
  have HSG : Hid (SignsAt w.heap.size w) := hsg
  have hs1 : s.size ≤ 9223372036854775807 := hs
  have HA : Hid (_) := pawake_any w hsg
  clear hsg hs
  go_enter Tryz.func3, Tryz.ntmps3
  go_wp2_with fail
  refine Calls.mono HA.out ?_
  rintro e w1 ⟨rfl, b1⟩
  clear HA
  have HB1 : Hid (Below w.heap.size w w1) := b1
  clear b1
  by_cases h2 : 3000 < s.size
  · have d1 : decide (3000 < s.size) = true := decide_eq_true h2
    have d2 : decide ((3000 : Int) < s.size) = true := decide_eq_true (by omega)
    go_wp2
    go_ret
    exact ⟨rfl, HB1.out⟩
  have d1 : decide (3000 < s.size) = false := decide_eq_false h2
  have d2 : decide ((3000 : Int) < s.size) = false := decide_eq_false (by omega)
  have HF : Hid (_) := pfileAll_any s w1 ((HSG.out.keep HB1.out).mono HB1.out.size) (by omega)
  clear HSG
  go_wp2_with fail
  refine Calls.mono HF.out ?_
  rintro e w2 ⟨b2, g2⟩
  clear HF
  rcases g2.any with ⟨ts, v, rfl, hr, nd⟩ | ⟨E, i, rfl, hE, hi⟩
  · clear g2
    obtain ⟨x, ev, et, xf, xr⟩ := nd
    have nd : NodeR (newS w1.heap.size w2.heap.size) w2 v (.mk 1 [] 0 ts) := ⟨x, ev, et, xf, xr⟩
    obtain ⟨xk, xt, xn, xv, xkids⟩ := x
    simp only [N1.tr] at et
    injection et with et et2 et3 _
    obtain rfl : xk = 1 := et
    obtain rfl : xt = [] := et2
    obtain rfl : xn = 0 := et3
    obtain ⟨a, c, hxv⟩ := xr.slice
    simp only at hxv
    subst hxv
    simp only [N1.cells] at ev
    obtain ⟨L, hL⟩ : ∃ L, L = xkids.length := ⟨_, rfl⟩
    rw [← hL] at ev
    subst ev
    clear xr xf hL
    obtain ⟨t1, t2, t3, t4⟩ := two_boxes w2 #[.int .u8 1, .string (Ln.bs []), .int .i64 0, .slice a L c] #[.int .i64 0, .int .i64 0]
    obtain ⟨X, hX⟩ : ∃ X, X = (w2.alloc (.cells #[.int .u8 1, .string (Ln.bs []), .int .i64 0, .slice a L c] 26)).alloc (.cells #[.int .i64 0, .int .i64 0] 29) := ⟨_, rfl⟩
    rw [← hX] at t1 t2 t3 t4
    have HT : Hid (_) := tright_any (newS w1.heap.size X.heap.size) (.mk 1 [] 0 ts) _ X (fun b hb => hb.2) (nd.low t1 (Nat.le_refl _))
    rw [hr] at HT
    have f0 : X.cell? ⟨w2.heap.size + 1, 0, none⟩ = some (.int .i64 0) := cells_at t4 rfl
    have f1 : X.cell? ⟨w2.heap.size + 1, 1, none⟩ = some (.int .i64 0) := cells_at t4 rfl
    have n0 : X.cell? ⟨w2.heap.size, 0, none⟩ = some (.int .u8 1) := cells_at t3 rfl
    have n1 : X.cell? ⟨w2.heap.size, 1, none⟩ = some (.string (Ln.bs [])) := cells_at t3 rfl
    have n2 : X.cell? ⟨w2.heap.size, 2, none⟩ = some (.int .i64 0) := cells_at t3 rfl
    have n3 : X.cell? ⟨w2.heap.size, 3, none⟩ = some (.slice a L c) := cells_at t3 rfl
    have HBX : Hid (Below w.heap.size w X) := below_then (below_then HB1.out b2) t1
    clear t1 t2 t3 t4 nd hr b2 HB1
    rw [hX] at f0 f1 n0 n1 n2 n3
    go_wp2_with fail
    rw [← hX]
    clear hX f0 f1 n0 n1 n2 n3
    refine Calls.mono HT.out ?_
    rintro e w3 ⟨rfl, b3⟩
    have HE : Hid (Below w.heap.size w w3) := below_then HBX.out b3
    clear b3 HT HBX
    go_wp2
    go_ret
    exact ⟨rfl, HE.out⟩
  · clear g2
    obtain ⟨z, hz, hzE⟩ : ∃ z : Int, (E : Int) = z ∧ (z = 100 ∨ z = 101 ∨ z = 102 ∨ z = 103) := ⟨E, rfl, by omega⟩
    rw [hz]
    clear hz hE
    obtain ⟨t1, t2, t3, t4⟩ := two_boxes w2 #[.int .u8 0, .string ⟨#[]⟩, .int .i64 0, .slice none 0 0] #[.int .i64 z, .int .i64 i]
    obtain ⟨X, hX⟩ : ∃ X, X = (w2.alloc (.cells #[.int .u8 0, .string ⟨#[]⟩, .int .i64 0, .slice none 0 0] 26)).alloc (.cells #[.int .i64 z, .int .i64 i] 29) := ⟨_, rfl⟩
    rw [← hX] at t1 t2 t3 t4
    have HT : Hid (_) := tsame_any Tr.zero Tr.zero _ _ X (nodeR_zero _ X) (nodeR_zero _ X) (by decide)
    rw [Tr.eqb_refl] at HT
    have f0 : X.cell? ⟨w2.heap.size + 1, 0, none⟩ = some (.int .i64 z) := cells_at t4 rfl
    have f1 : X.cell? ⟨w2.heap.size + 1, 1, none⟩ = some (.int .i64 i) := cells_at t4 rfl
    have n0 : X.cell? ⟨w2.heap.size, 0, none⟩ = some (.int .u8 0) := cells_at t3 rfl
    have n1 : X.cell? ⟨w2.heap.size, 1, none⟩ = some (.string ⟨#[]⟩) := cells_at t3 rfl
    have n2 : X.cell? ⟨w2.heap.size, 2, none⟩ = some (.int .i64 0) := cells_at t3 rfl
    have n3 : X.cell? ⟨w2.heap.size, 3, none⟩ = some (.slice none 0 0) := cells_at t3 rfl
    have HBX : Hid (Below w.heap.size w X) := below_then (below_then HB1.out b2) t1
    have c1 : decide (i ≤ s.size) = true := decide_eq_true hi
    have c2 : decide ((i : Int) ≤ s.size) = true := decide_eq_true (by omega)
    have c3 : decide ((0 : Int) ≤ i) = true := decide_eq_true (by omega)
    clear t1 t2 t3 t4 b2 HB1 hi
    rw [hX] at f0 f1 n0 n1 n2 n3
    simp only [zeroV]
    rcases hzE with rfl | rfl | rfl | rfl
    all_goals
      go_wp2_with fail
      rw [← hX]
      clear hX f0 f1 n0 n1 n2 n3
      refine Calls.mono HT.out ?_
      rintro e w3 ⟨rfl, b3⟩
      have HE : Hid (Below w.heap.size w w3) := below_then HBX.out b3
      clear b3 HT HBX
      go_wp2
      go_ret
      exact ⟨rfl, HE.out⟩
end Go.Proofs.YtdaaecnmllpgdaaGreatDoor
