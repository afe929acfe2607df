/-
  The walks of diff.copied and diff.exchange: lines in new memory; the hunk that exchanges them.
-/
import Derived.Test.YtpcinbfelikgpaaClone
import Derived.Test.YtpcinbfelikgpaaNumbered
namespace Go.Proofs.Ytpcinbfelikgpaa
open Go.RowKit

theorem take_txt (L : List (List UInt8)) (k : Nat) (x : List UInt8) (hx : L[k]? = some x) : (L.take (k + 1)).map txtV = (L.take k).map txtV ++ [.string (Ln.bs x)] := by
  rw [List.take_add_one, hx]; simp [txtV]

set_option maxRecDepth 100000 in
set_option maxHeartbeats 4000000 in
theorem copied_any (L : List (List UInt8)) (v : Value) (w : World) (m : Nat) (hrow : RowLow m w v L) (hm : m ≤ w.heap.size) (hL : L.length ≤ 1000000) (hs : ∀ x ∈ L, x.length ≤ 1000000) :
    Calls Try.prog 106 #[v] w fun e w' => ∃ r, e = .returned r ∧ w'.ownsRow w.heap.size 9 1 r L.length (L.map txtV) ∧ Below w.heap.size w w' := by
  obtain ⟨ao, cap, b, off, rfl, -, hao, hc⟩ := hrow.parts
  clear hrow
  obtain ⟨i0, hi, hz0, hz1, hz2⟩ := info_parts info9
  go_enter Try.func106, Try.ntmps106
  go_wp2
  go_loopw [3, 8] (fun t i wr => ∃ k : Nat, k ≤ L.length ∧ i = .int .i64 k ∧ wr.ownsRow w.heap.size 9 1 t k ((L.take k).map txtV) ∧ Below w.heap.size w wr) (fun _ i _ => L.length - (intOf i).toNat)
  case atStart => exact ⟨0, Nat.zero_le _, rfl, World.ownsRow_nil _ _ _ _, Below.refl _ _⟩
  case round =>
    obtain ⟨k, hk, rfl, hown, hB⟩ := hrel
    by_cases hlt : k < L.length
    · obtain ⟨x, hx⟩ : ∃ x, L[k]? = some x := ⟨L[k], List.getElem?_eq_getElem hlt⟩
      obtain ⟨rfl, hbm⟩ := hao (by omega)
      have hxs := hs x (List.mem_of_getElem? hx)
      have hsz : (Ln.bs x).size ≤ 281474976710656 := by rw [Ln.bs_size]; omega
      have g1 : wr.cell? ⟨b, off + k, none⟩ = some (.string (Ln.bs x)) := (hB.cell (p := ⟨b, off + k, none⟩) (by show b < w.heap.size; omega)).trans (hc k x hx)
      have HT := take_txt L k x hx
      have HH : Hid ((L.take (k + 1)).map txtV = (L.take k).map txtV ++ [.string (Ln.bs x)]) := HT
      clear HT hc hao hx
      go_wp2_with (first
        | (go_at_call 82; refine (clone_any _ _ hsz).mono ?_; rintro e w1 ⟨rfl, hb1⟩; have hown1 := owns_below hown hb1; have hB1 := hB.trans (hb1.mono hB.size))
        | (at_builtin; refine wpList_append_own _ rfl _ _ 22 rfl w.heap.size 9 i0 (.string ⟨#[]⟩) 1 16 Try.underlying22 hi hz0 hz1 hz2 rfl (by decide) _ _ _ rfl (hown1.alloc _) ⟨w1.heap.size, 0, none⟩ 1 1 [.string (Ln.bs x)] rfl rfl (cell_one_new _ _ _) (by simp [Value.oneCell']) (by unfold maxLen; omega) (by omega) (by have := hB1.size; simp; omega) ?_; intro v' w2 hown' hgrow _))
      go_roundw
      case rel =>
        refine ⟨k + 1, by omega, by go_num, ?_, ?_⟩
        · rw [HH.out]; exact hown'
        · exact (hB1.alloc hB1.size _).grown hgrow (by have := hB1.size; simp; omega) (fun q hq => (hown1.lt q hq).1)
      case measure => simp [intOf]; omega
    · clear hc hao
      have hke : k = L.length := by omega
      have hq := hown
      rw [hke, List.take_length] at hq
      have HQ : Hid (_) := hq
      clear hq
      go_wp2
      go_ret
      exact ⟨_, rfl, HQ.out, hB⟩

/-- The value of a hunk. -/
def hkV (at_ : Nat) (vo vn : Value) : Value := .agg #[.int .i64 at_, vo, vn]

theorem grown_set (w : World) (b j : Nat) (u : Value) : w.grownBy (w.setCell ⟨b, j, none⟩ u) (some b) :=
  ⟨rfl, rfl, rfl, by simp, fun k _ hk => heap_setCell_other w ⟨b, j, none⟩ k u (fun e => hk (by simp [e]))⟩
theorem three_cells {w : World} {b : Nat} {t : TypeId} {x y z : Value} (h : w.heap[b]? = some (.cells #[x, y, z] t (0, 0))) (x' y' z' : Value) :
    (((w.setCell ⟨b, 0, none⟩ x').setCell ⟨b, 1, none⟩ y').setCell ⟨b, 2, none⟩ z').heap[b]? = some (.cells #[x', y', z'] t (0, 0)) := by
  have h1 := heap_setCell_same w b 0 _ t x' h
  have h2 := heap_setCell_same _ b 1 _ t y' h1
  have h3 := heap_setCell_same _ b 2 _ t z' h2
  exact h3

theorem slice_shape {w : World} {B e size n : Nat} {v : Value} {xs : List Value} (h : w.ownsRow B e size v n xs) : ∃ ao cap, v = .slice ao n cap := by
  rcases h.2 with ⟨rfl, rfl⟩ | ⟨g, cap, cur, rfl, _⟩
  · exact ⟨none, 0, rfl⟩
  · exact ⟨_, cap, rfl⟩

set_option maxRecDepth 100000 in
set_option maxHeartbeats 4000000 in
theorem exchange_any (k : Nat) (L1 L2 : List (List UInt8)) (v1 v2 : Value) (w : World) (m : Nat) (h1 : RowLow m w v1 L1) (h2 : RowLow m w v2 L2) (hm : m ≤ w.heap.size) (hL1 : L1.length ≤ 1000000) (hL2 : L2.length ≤ 1000000)
    (hs1 : ∀ x ∈ L1, x.length ≤ 1000000) (hs2 : ∀ x ∈ L2, x.length ≤ 1000000) :
    Calls Try.prog 77 #[.int .i64 k, v1, v2] w fun e w' => ∃ r1 r2 q, e = .returned (hkV k r1 r2) ∧ w'.ownsRow w.heap.size 9 1 r1 L1.length (L1.map txtV) ∧ (∀ b, r1.ownBlock = some b → b < q) ∧ w.heap.size ≤ q ∧
      w'.ownsRow q 9 1 r2 L2.length (L2.map txtV) ∧ Below w.heap.size w w' := by
  go_enter Try.func77, Try.ntmps77
  go_wp2_with fail
  obtain ⟨X, hX⟩ : ∃ X, X = w.alloc (.cells #[.int .i64 0, .slice none 0 0, .slice none 0 0] 41) := ⟨_, rfl⟩
  have hbX : Below w.heap.size w X := by rw [hX]; exact (Below.refl _ w).alloc (Nat.le_refl _) _
  have hhX : X.heap[w.heap.size]? = some (.cells #[.int .i64 0, .slice none 0 0, .slice none 0 0] 41 (0, 0)) := by rw [hX]; exact World.alloc_heap_new w _
  have hsX : X.heap.size = w.heap.size + 1 := by rw [hX]; simp
  rw [← hX]
  clear hX
  refine (copied_any L1 v1 X m (h1.below hbX (by omega)) (by omega) hL1 hs1).mono ?_
  rintro e w1 ⟨r1, rfl, ho1, hb1⟩
  go_wp2_with fail
  refine (copied_any L2 v2 w1 m ((h2.below hbX (by omega)).below hb1 (by omega)) (by have := hb1.size; omega) hL2 hs2).mono ?_
  rintro e w2 ⟨r2, rfl, ho2, hb2⟩
  obtain ⟨a1, c1, rfl⟩ := slice_shape ho1
  obtain ⟨a2, c2, rfl⟩ := slice_shape ho2
  have ho1' := owns_below ho1 hb2
  have hlt1 := fun b hb => (ho1.lt b hb).2
  have hh2 : w2.heap[w.heap.size]? = some (.cells #[.int .i64 0, .slice none 0 0, .slice none 0 0] 41 (0, 0)) := (hb2.block _ (by have := hb1.size; omega)).trans ((hb1.block _ (by omega)).trans hhX)
  have c0 : w2.cell? ⟨w.heap.size, 0, none⟩ = some (.int .i64 0) := by rw [Lib.cell_of_heap hh2]; rfl
  have c1' : w2.cell? ⟨w.heap.size, 1, none⟩ = some (.slice none 0 0) := by rw [Lib.cell_of_heap hh2]; rfl
  have c2' : w2.cell? ⟨w.heap.size, 2, none⟩ = some (.slice none 0 0) := by rw [Lib.cell_of_heap hh2]; rfl
  have f0 : ∀ j, w2.frozen? ⟨w.heap.size, j, none⟩ = false := fun j => by simp [World.frozen?, hh2]
  go_wp2
  obtain ⟨Z, hZ⟩ : ∃ Z, Z = ((w2.setCell ⟨w.heap.size, 0, none⟩ (.int .i64 k)).setCell ⟨w.heap.size, 1, none⟩ (.slice a1 L1.length c1)).setCell ⟨w.heap.size, 2, none⟩ (.slice a2 L2.length c2) := ⟨_, rfl⟩
  have hzh : Z.heap[w.heap.size]? = some (.cells #[.int .i64 k, .slice a1 L1.length c1, .slice a2 L2.length c2] 41 (0, 0)) := by rw [hZ]; exact three_cells hh2 _ _ _
  have hzg : w2.grownBy Z (some w.heap.size) := by
    rw [hZ]
    exact grown_trans (grown_trans (grown_set w2 _ 0 _) (grown_set _ _ 1 _) (fun j hj => .inl (by cases hj; rfl))) (grown_set _ _ 2 _) (fun j hj => .inl (by cases hj; rfl))
  rw [← hZ]
  have z0 : Z.cell? ⟨w.heap.size, 0, none⟩ = some (.int .i64 k) := by rw [Lib.cell_of_heap hzh]; rfl
  have z1 : Z.cell? ⟨w.heap.size, 1, none⟩ = some (.slice a1 L1.length c1) := by rw [Lib.cell_of_heap hzh]; rfl
  have z2 : Z.cell? ⟨w.heap.size, 2, none⟩ = some (.slice a2 L2.length c2) := by rw [Lib.cell_of_heap hzh]; rfl
  have s1 := hb1.size
  have s2 := hb2.size
  have k1 := ho1'.kept hzg (by
    rcases ho1'.2 with ⟨e1, _⟩ | ⟨g', cap', cur', e1, hg', _⟩
    · exact .inl (by rw [e1]; rfl)
    · refine .inr (fun e => ?_)
      rw [e1] at e
      have h9 : g' = w.heap.size := Option.some.inj e
      omega)
  have k2 := ho2.kept hzg (by
    rcases ho2.2 with ⟨e1, _⟩ | ⟨g', cap', cur', e1, hg', _⟩
    · exact .inl (by rw [e1]; rfl)
    · refine .inr (fun e => ?_)
      rw [e1] at e
      have h9 : g' = w.heap.size := Option.some.inj e
      omega)
  refine bodyPost_ret (v := hkV k (.slice a1 L1.length c1) (.slice a2 L2.length c2)) (by simp [results, Try.results77, go_sem, hkV, z0, z1, z2]) rfl ⟨_, _, w1.heap.size, rfl, owns_base k1 (by omega), hlt1, by omega, k2, ?_⟩
  exact ((hbX.trans (hb1.mono (by omega))).trans (hb2.mono (by omega))).trans (below_of_grown hzg (Nat.le_refl _) (by omega))

end Go.Proofs.Ytpcinbfelikgpaa
