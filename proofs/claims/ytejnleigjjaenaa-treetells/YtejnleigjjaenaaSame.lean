/-
  The walks of clerestorykit.SameTexts, SameHunk, SameHunks and of the law's samePairs: are two rows the same?
-/
import Derived.Test.YtejnleigjjaenaaBase
namespace Go.Proofs.Ytejnleigjjaenaa
open Go.RowKit

theorem ext_of (L1 L2 : List (List UInt8)) (hn : L1.length = L2.length) (h : ∀ j : Nat, j < L1.length → L1[j]? = L2[j]?) : L1 = L2 := by
  apply List.ext_getElem? 
  intro j
  by_cases hj : j < L1.length
  · exact h j hj
  · rw [List.getElem?_eq_none (by omega), List.getElem?_eq_none (by omega)]

set_option maxRecDepth 100000 in
set_option maxHeartbeats 1000000 in
theorem same_any (w : World) (v1 v2 : Value) (L1 L2 : List (List UInt8)) (n1 n2 : Nat) (h1 : RowLow n1 w v1 L1) (h2 : RowLow n2 w v2 L2) (hl1 : L1.length ≤ 9223372036854775807) (hl2 : L2.length ≤ 9223372036854775807) :
    Calls Try.prog 11 #[v1, v2] w fun e w' => e = .returned (.bool (decide (L1 = L2))) ∧ ∃ k, w' = w.drewN k := by
  obtain ⟨ao1, cap1, b1, o1, rfl, -, ha1, hc1⟩ := h1.parts
  obtain ⟨ao2, cap2, b2, o2, rfl, -, ha2, hc2⟩ := h2.parts
  clear h1 h2
  by_cases hne : L1.length = L2.length
  · have hb : ((L1.length : Int) != (L2.length : Int)) = false := by rw [bne_eq_false_iff_eq]; omega
    have HN : Hid (L1.length = L2.length) := hne
    have hn2 : L1.length ≤ L2.length := by omega
    clear hne
    go_enter Try.func11, Try.ntmps11
    go_wp2
    go_loopw [5] (fun i wr => ∃ k d : Nat, k ≤ L1.length ∧ i = .int .i64 k ∧ wr = w.drewN d ∧ (∀ j : Nat, j < k → L1[j]? = L2[j]?)) (fun i _ => L1.length - (intOf i).toNat)
    case atStart => exact ⟨0, 0, Nat.zero_le _, rfl, rfl, fun j hj => absurd hj (by omega)⟩
    case round =>
      obtain ⟨k, d, hk, rfl, rfl, hj⟩ := hrel
      have HJ : Hid (∀ j : Nat, j < k → L1[j]? = L2[j]?) := hj
      clear hj
      by_cases hlt : k < L1.length
      · obtain ⟨x, hx⟩ : ∃ x, L1[k]? = some x := ⟨L1[k], List.getElem?_eq_getElem hlt⟩
        obtain ⟨y, hy⟩ : ∃ y, L2[k]? = some y := ⟨L2[k]'(by omega), List.getElem?_eq_getElem (by omega)⟩
        have g1 := hc1 k x hx
        have g2 := hc2 k y hy
        have hlt2 : k < L2.length := by omega
        obtain ⟨rfl, -⟩ := ha1 (by omega)
        obtain ⟨rfl, -⟩ := ha2 (by omega)
        have HX : Hid (L1[k]? = some x) := hx
        have HY : Hid (L2[k]? = some y) := hy
        clear hx hy hc1 hc2 ha1 ha2
        by_cases hxy : x = y
        · have hbq : ((Ln.bs x).toList == (Ln.bs y).toList) = true := by rw [bs_beq]; exact decide_eq_true hxy
          have HE : Hid (x = y) := hxy
          clear hxy
          go_wp2
          go_region
          all_goals go_wp2
          all_goals go_roundw
          case rel =>
            refine ⟨k + 1, d + 1, by omega, by go_num, rfl, fun j hj => ?_⟩
            by_cases hjk : j < k
            · exact HJ.out j hjk
            · have : j = k := by omega
              subst this
              rw [HX.out, HY.out, HE.out]
          case measure => simp [intOf]; omega
        · have hbq : ((Ln.bs x).toList == (Ln.bs y).toList) = false := by rw [bs_beq]; exact decide_eq_false hxy
          have HE : Hid (decide (L1 = L2) = false) := by
            show decide (L1 = L2) = false
            rw [decide_eq_false]
            intro e
            subst e
            have := HX.out.symm.trans HY.out
            simp at this
            exact hxy this
          clear hxy
          go_wp2
          go_region
          all_goals go_wp2
          all_goals go_ret
          exact ⟨ret_bool HE.out.symm, d + 1, rfl⟩
      · clear hc1 hc2 ha1 ha2
        go_wp2
        go_ret
        have hke : k = L1.length := by omega
        exact ⟨ret_bool (by rw [decide_eq_true (ext_of L1 L2 HN.out (by rw [← hke]; exact HJ.out))]), d, rfl⟩
  · have hb : ((L1.length : Int) != (L2.length : Int)) = true := by rw [bne_iff_ne]; omega
    have HD : Hid (decide (L1 = L2) = false) := by
      show decide (L1 = L2) = false
      rw [decide_eq_false]; rintro rfl; exact hne rfl
    clear hne hc1 hc2 ha1 ha2
    go_enter Try.func11, Try.ntmps11
    go_wp2
    go_ret
    exact ⟨ret_bool HD.out.symm, 0, rfl⟩

end Go.Proofs.Ytejnleigjjaenaa

