/-
  The walks of hunk.Sorted and Invert.
-/
import Derived.Test.YtkiafelpgcmifaaHnRight
namespace Go.Proofs.Ytkiafelpgcmifaa
open Go.RowKit Go.Shelf

attribute [local go_sem] Oper.semAt_some

/-- Its sizes, where all is gone through in time. -/
def HA.Small (x : HA) : Prop := x.old.length ≤ 1000000 ∧ x.new.length ≤ 1000000
theorem sorted_at (xs : List HA) (k : Nat) (x : HA) (last : Int) (hx : xs[k]? = some x) : Hn.sorted last ((xs.drop k).map HA.h) = (Hn.right x.h && decide (last < x.at_) && Hn.sorted (x.at_ + x.old.length) ((xs.drop (k + 1)).map HA.h)) := by
  have hk : k < xs.length := (List.getElem?_eq_some_iff.1 hx).1
  have e : xs.drop k = x :: xs.drop (k + 1) := by rw [List.drop_eq_getElem_cons hk, (List.getElem?_eq_some_iff.1 hx).2]
  rw [e]; rfl
theorem right_bound {h : Hn.H} (r : Hn.right h = true) : 0 ≤ h.at_ ∧ h.at_ ≤ 1099511627776 := by
  simp only [Hn.right, Bool.and_eq_true, decide_eq_true_eq] at r
  exact ⟨r.1.1.1.1, r.1.1.1.2⟩

set_option maxRecDepth 100000 in
set_option maxHeartbeats 4000000 in
theorem sorted_any (xs : List HA) (v : Value) (m : Nat) (w : World) (hv : HaLow m w v xs) (hm : m ≤ w.heap.size) (hf : ∀ x ∈ xs, x.Fits) (hs : ∀ x ∈ xs, x.Small) (hl : xs.length ≤ 1000000) :
    Calls Try.prog 23 #[v] w fun e w' => e = .returned (.bool (Hn.sorted (-1) (xs.map HA.h))) ∧ Below w.heap.size w w' := by
  obtain ⟨⟨ao, cap, b, off, rfl, -, hao, hc⟩, hlow⟩ := hv
  go_enter Try.func23, Try.ntmps23
  go_wp2
  go_loopw [3, 8] (fun u i wr => ∃ (k : Nat) (last : Int), k ≤ xs.length ∧ u = .int .i64 last ∧ i = .int .i64 k ∧ (-1 ≤ last ∧ last ≤ 1099512627776) ∧ Hn.sorted (-1) (xs.map HA.h) = Hn.sorted last ((xs.drop k).map HA.h) ∧ Below w.heap.size w wr) (fun _ i _ => xs.length - (intOf i).toNat)
  case atStart => exact ⟨0, -1, Nat.zero_le _, rfl, rfl, ⟨by omega, by omega⟩, rfl, Below.refl _ _⟩
  case round =>
    obtain ⟨k, last, hk, rfl, rfl, ⟨hl1, hl2⟩, hj, hb⟩ := hrel
    by_cases hlt : k < xs.length
    · obtain ⟨x, hx⟩ : ∃ x, xs[k]? = some x := ⟨xs[k], List.getElem?_eq_getElem hlt⟩
      obtain ⟨rfl, hbm⟩ := hao (by omega)
      obtain ⟨g0, g1, g2⟩ := haCells_get xs k x hx
      have c0 : wr.cell? ⟨b, off + k * 3, none⟩ = some (.int .i64 x.at_) := (hb.cell (p := ⟨b, off + k * 3, none⟩) (by show b < _; omega)).trans (hc _ _ g0)
      have c1 : wr.cell? ⟨b, off + k * 3 + 1, none⟩ = some x.vo := (hb.cell (p := ⟨b, off + k * 3 + 1, none⟩) (by show b < _; omega)).trans (hc _ _ g1)
      have c2 : wr.cell? ⟨b, off + k * 3 + 2, none⟩ = some x.vn := (hb.cell (p := ⟨b, off + k * 3 + 2, none⟩) (by show b < _; omega)).trans (hc _ _ g2)
      have hm2 := List.mem_of_getElem? hx
      have xl := (hlow x hm2).below hb hm
      have hfx := hf x hm2
      have hsx := hs x hm2
      have HJ : Hid (Hn.sorted (-1) (xs.map HA.h) = (Hn.right x.h && decide (last < x.at_) && Hn.sorted (x.at_ + x.old.length) ((xs.drop (k + 1)).map HA.h))) := hj.trans (sorted_at xs k x last hx)
      obtain ⟨a1, cp1, bb1, oo1, e1, -, -, -⟩ := xl.1.parts
      obtain ⟨a2, cp2, bb2, oo2, e2, -, -, -⟩ := xl.2.parts
      have RG := right_any x m (wr.alloc (.cells #[.int .i64 x.at_, x.vo, x.vn] 40)) (xl.below (below_nw wr _) (by have := hb.size; omega)) (by have := hb.size; simp; omega) hfx
      obtain ⟨p, vo, vn, L1, L2⟩ := x
      simp only [HA.val, HA.h] at c0 c1 c2 e1 e2 HJ RG
      subst e1 e2
      obtain ⟨⟨f1, f2⟩, -⟩ := hfx
      obtain ⟨s1, s2⟩ := hsx
      simp only at f1 f2 s1 s2
      have hbZ : Below wr.heap.size wr (wr.alloc (.cells #[.int .i64 p, .slice a1 L1.length cp1, .slice a2 L2.length cp2] 40)) := below_nw wr _
      have hZh : (wr.alloc (.cells #[.int .i64 p, .slice a1 L1.length cp1, .slice a2 L2.length cp2] 40)).heap[wr.heap.size]? = some (.cells #[.int .i64 p, .slice a1 L1.length cp1, .slice a2 L2.length cp2] 40 (0, 0)) := World.alloc_heap_new wr _
      obtain ⟨Z, hZ⟩ : ∃ Z, Z = wr.alloc (.cells #[.int .i64 p, .slice a1 L1.length cp1, .slice a2 L2.length cp2] 40) := ⟨_, rfl⟩
      rw [← hZ] at hbZ hZh RG
      have RG2 : Hid (_) := RG
      have HB : Hid (_) := hb
      have HBZ : Hid (_) := hbZ
      have HZH : Hid (_) := hZh
      clear hc hao hlow hj hx g0 g1 g2 hf hs RG hb hbZ hZh xl hm2
      go_wp2_with fail
      rw [← hZ]
      clear hZ
      refine Calls.mono RG2.out ?_
      rintro e w1 ⟨rfl, b1⟩
      have hw1 : w1.heap[wr.heap.size]? = some (.cells #[.int .i64 p, .slice a1 L1.length cp1, .slice a2 L2.length cp2] 40 (0, 0)) := (b1.block _ (Array.getElem?_eq_some_iff.1 HZH.out).1).trans HZH.out
      have z0 : w1.cell? ⟨wr.heap.size, 0, none⟩ = some (.int .i64 p) := by rw [Lib.cell_of_heap hw1]; rfl
      have z1 : w1.cell? ⟨wr.heap.size, 1, none⟩ = some (.slice a1 L1.length cp1) := by rw [Lib.cell_of_heap hw1]; rfl
      have BW : Hid (Below w.heap.size w w1) := HB.out.trans ((Below.trans HBZ.out (b1.mono HBZ.out.size)).mono HB.out.size)
      clear RG2 HB HBZ HZH b1 hw1 c0 c1 c2
      cases hr : Hn.right ⟨p, L1, L2⟩ with
      | false =>
        rw [hr] at HJ
        go_wp2
        go_ret
        exact ⟨ret_bool (by rw [HJ.out]; rfl), BW.out⟩
      | true =>
        rw [hr] at HJ
        obtain ⟨r1, r2⟩ := right_bound hr
        simp only at r1 r2
        clear hr
        by_cases hq : last < p
        · have q1 : decide (p ≤ last) = false := by simp; omega
          have HJ2 : Hid (Hn.sorted (-1) (xs.map HA.h) = Hn.sorted (p + L1.length) ((xs.drop (k + 1)).map HA.h)) := by
            show Hn.sorted (-1) (xs.map HA.h) = _
            rw [HJ.out, decide_eq_true hq]; rfl
          have hw : IntKind.i64.wrap (p + (L1.length : Int)) = p + L1.length := by rw [IntKind.wrap_i64]; omega
          clear HJ
          go_wp2
          go_roundw
          case rel => exact ⟨k + 1, p + L1.length, by omega, by go_num, by go_num, ⟨by omega, by omega⟩, HJ2.out, BW.out⟩
          case measure => simp [intOf]; omega
        · have q1 : decide (p ≤ last) = true := by simp; omega
          have HJ2 : Hid (Hn.sorted (-1) (xs.map HA.h) = false) := by
            show Hn.sorted (-1) (xs.map HA.h) = _
            rw [HJ.out, decide_eq_false hq]; rfl
          clear HJ
          go_wp2
          go_ret
          exact ⟨ret_bool HJ2.out.symm, BW.out⟩
    · have hkl : k = xs.length := by omega
      have HJ : Hid (Hn.sorted (-1) (xs.map HA.h) = true) := by
        show Hn.sorted (-1) (xs.map HA.h) = _
        rw [hj, hkl, List.drop_length]; rfl
      clear hc hao hlow hj hkl hf hs
      go_wp2
      go_ret
      exact ⟨ret_bool HJ.out.symm, hb⟩

end Go.Proofs.Ytkiafelpgcmifaa
