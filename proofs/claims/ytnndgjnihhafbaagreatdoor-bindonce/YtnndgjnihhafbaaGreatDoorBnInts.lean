/-
  Rows of numbers; the walk of SameInts.
-/
import Derived.Test.YtnndgjnihhafbaaGreatDoorBnTell
namespace Go.Proofs.YtnndgjnihhafbaaGreatDoor
open Go.RowKit Go.Shelf

/-- A row of numbers that may be read. -/
def IntsAt (w : World) (v : Value) (l : List Nat) : Prop := ∃ (ao : Option Addr) (cap b off : Nat), v = .slice ao l.length cap ∧ (0 < l.length → ao = some ⟨b, off, none⟩ ∧ b < w.heap.size) ∧ ∀ (j x : Nat), l[j]? = some x → w.cell? ⟨b, off + j, none⟩ = some (.int .i64 x)
theorem IntsAt.of {n k : Nat} {w : World} {v : Value} {l : List Nat} (h : w.ownsRow n 3 1 v k (l.map numV)) : IntsAt w v l := by
  have hk : k = l.length := by have := h.1; simpa using this.symm
  subst hk
  rcases h.2 with ⟨rfl, h0⟩ | ⟨g, cap, cur, rfl, hb, hg, r⟩
  · refine ⟨none, 0, 0, 0, by rw [h0], fun hl => by omega, fun j x hx => by rw [List.length_eq_zero_iff.1 h0] at hx; cases hx⟩
  · refine ⟨_, cap, g, 0, rfl, fun _ => ⟨rfl, (Array.getElem?_eq_some_iff.1 hg).1⟩, fun j x hx => ?_⟩
    have hl := (List.getElem?_eq_some_iff.1 hx).1
    have hc := h.cellAt j (by omega)
    rw [List.getElem?_map, hx] at hc
    rw [Nat.zero_add]
    exact hc
theorem IntsAt.at {w w' : World} {v : Value} {l : List Nat} (h : IntsAt w v l) (hb : Below w.heap.size w w') : IntsAt w' v l := by
  obtain ⟨ao, cap, b, off, rfl, h1, h2⟩ := h
  refine ⟨ao, cap, b, off, rfl, fun hl => ⟨(h1 hl).1, Nat.lt_of_lt_of_le (h1 hl).2 hb.size⟩, fun j x hx => ?_⟩
  have hl := (List.getElem?_eq_some_iff.1 hx).1
  exact (hb.cell (p := ⟨b, off + j, none⟩) (h1 (by omega)).2).trans (h2 j x hx)

set_option maxRecDepth 100000 in
set_option maxHeartbeats 1000000 in
theorem sameInts_any (w : World) (v1 v2 : Value) (L1 L2 : List Nat) (h1 : IntsAt w v1 L1) (h2 : IntsAt w v2 L2) (hl1 : L1.length ≤ 9223372036854775807) (hl2 : L2.length ≤ 9223372036854775807) :
    Calls Tryz.prog 22 #[v1, v2] w fun e w' => e = .returned (.bool (decide (L1 = L2))) ∧ ∃ k, w' = w.drewN k := by
  obtain ⟨ao1, cap1, b1, o1, rfl, ha1, hc1⟩ := h1
  obtain ⟨ao2, cap2, b2, o2, rfl, ha2, hc2⟩ := h2
  by_cases hne : L1.length = L2.length
  · have hb : ((L1.length : Int) != (L2.length : Int)) = false := by rw [bne_eq_false_iff_eq]; omega
    have HN : Hid (L1.length = L2.length) := hne
    have hn2 : L1.length ≤ L2.length := by omega
    clear hne
    go_enter Tryz.func22, Tryz.ntmps22
    go_wp2
    go_loopw [5] (fun i wr => ∃ k d : Nat, k ≤ L1.length ∧ i = .int .i64 k ∧ wr = w.drewN d ∧ (∀ j : Nat, j < k → L1[j]? = L2[j]?)) (fun i _ => L1.length - (intOf i).toNat)
    case atStart => exact ⟨0, 0, Nat.zero_le _, rfl, rfl, fun j hj => absurd hj (by omega)⟩
    case round =>
      obtain ⟨k, d, hk, rfl, rfl, hj⟩ := hrel
      have HJ : Hid (∀ j : Nat, j < k → L1[j]? = L2[j]?) := hj
      clear hj
      by_cases hlt : k < L1.length
      · obtain ⟨x, hx⟩ : ∃ x, L1[k]? = some x := ⟨L1[k], List.getElem?_eq_getElem hlt⟩
        obtain ⟨y, hy⟩ : ∃ y, L2[k]? = some y := ⟨L2[k]'(by omega), List.getElem?_eq_getElem (by omega)⟩
        have g1 := hc1 k x hx
        have g2 := hc2 k y hy
        have hlt2 : k < L2.length := by omega
        obtain ⟨rfl, -⟩ := ha1 (by omega)
        obtain ⟨rfl, -⟩ := ha2 (by omega)
        have HX : Hid (L1[k]? = some x) := hx
        have HY : Hid (L2[k]? = some y) := hy
        clear hx hy hc1 hc2 ha1 ha2
        by_cases hxy : x = y
        · have hbq : ((x : Int) != (y : Int)) = false := by rw [bne_eq_false_iff_eq, hxy]
          have HE : Hid (x = y) := hxy
          clear hxy
          go_wp2
          go_region
          all_goals go_wp2
          all_goals go_roundw
          case rel =>
            refine ⟨k + 1, d + 1, by omega, by go_num, rfl, fun j hj => ?_⟩
            by_cases hjk : j < k
            · exact HJ.out j hjk
            · have : j = k := by omega
              subst this
              rw [HX.out, HY.out, HE.out]
          case measure => simp [intOf]; omega
        · have hbq : ((x : Int) != (y : Int)) = true := by simp; omega
          have HE : Hid (decide (L1 = L2) = false) := by
            show decide (L1 = L2) = false
            rw [decide_eq_false]
            intro e
            subst e
            have := HX.out.symm.trans HY.out
            simp at this
            exact hxy this
          clear hxy
          go_wp2
          go_region
          all_goals go_wp2
          all_goals go_ret
          exact ⟨ret_bool HE.out.symm, d + 1, rfl⟩
      · have hkl : k = L1.length := by omega
        have HE : Hid (decide (L1 = L2) = true) := by
          show decide (L1 = L2) = true
          refine decide_eq_true (List.ext_getElem? fun j => ?_)
          by_cases hjk : j < k
          · exact HJ.out j hjk
          · rw [List.getElem?_eq_none (by omega), List.getElem?_eq_none (by have := HN.out; omega)]
        clear hc1 hc2 ha1 ha2 hkl
        go_wp2
        go_ret
        exact ⟨ret_bool HE.out.symm, d, rfl⟩
  · have hb : ((L1.length : Int) != (L2.length : Int)) = true := by simp; omega
    have HE : Hid (decide (L1 = L2) = false) := by
      show decide (L1 = L2) = false
      exact decide_eq_false fun e => hne (by rw [e])
    clear hc1 hc2 ha1 ha2 hne
    go_enter Tryz.func22, Tryz.ntmps22
    go_wp2
    go_ret
    exact ⟨ret_bool HE.out.symm, 0, rfl⟩
end Go.Proofs.YtnndgjnihhafbaaGreatDoor
