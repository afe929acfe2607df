/-
  The walk of ValueTexts.
-/
import Derived.Test.YtcnmgebjbaclaaaDoorVlKepts
import Derived.Test.YtcnmgebjbaclaaaDoorVlRefText2
namespace Go.Proofs.YtcnmgebjbaclaaaDoor
open Go.RowKit Go.Shelf
open Vl (V Res)

attribute [local go_sem] Oper.semAt_some

/-- How many numbers lie in the rows of a row of values. -/
def rsum (xs : List VA) : Nat := (xs.map fun x => x.r.length).sum
theorem rsum_snoc (xs : List VA) (x : VA) : rsum (xs ++ [x]) = rsum xs + x.r.length := by simp [rsum]
theorem rsum_le (xs : List VA) (x : VA) (h : x ∈ xs) : x.r.length ≤ rsum xs := by
  unfold rsum
  induction xs with
  | nil => cases h
  | cons y r ih =>
    rw [List.map_cons, List.sum_cons]
    rcases List.mem_cons.1 h with rfl | h
    · omega
    · have := ih h; omega
theorem rsum_bound (xs : List VA) (B : Nat) (h : ∀ x ∈ xs, x.r.length ≤ B) : rsum xs ≤ xs.length * B := by
  unfold rsum
  induction xs with
  | nil => simp
  | cons y r ih =>
    rw [List.map_cons, List.sum_cons, List.length_cons, Nat.add_mul]
    have h1 := h y (by simp)
    have h2 := ih (fun x hx => h x (by simp [hx]))
    omega
theorem LentVs.map_v {B : Nat} {W : World} {xs ys : List VA} (h : LentVs B W xs ys) : ys.map VA.v = xs.map VA.v := by
  apply List.ext_getElem?
  intro j
  rw [List.getElem?_map, List.getElem?_map]
  by_cases hj : j < xs.length
  · have hj2 : j < ys.length := by rw [h.1]; exact hj
    rw [List.getElem?_eq_getElem hj, List.getElem?_eq_getElem hj2]
    simp only [Option.map_some]
    rw [(h.2 j _ _ (List.getElem?_eq_getElem hj) (List.getElem?_eq_getElem hj2)).v]
  · rw [List.getElem?_eq_none (Nat.not_lt.1 hj), List.getElem?_eq_none (by rw [h.1]; exact Nat.not_lt.1 hj)]
theorem LentVs.vslow {B B' : Nat} {W : World} {xs ys : List VA} {g cap : Nat} (h : LentVs B W xs ys) (ho : W.ownsRow B' 25 3 (.slice (some ⟨g, 0, none⟩) (xs.length + 12) cap) (xs.length + 12) (vaCells (ys ++ vmk 12))) (hl : ∀ x ∈ xs, x.r.length ≤ 1000000000000000) :
    VsLow W.heap.size W (.slice (some ⟨g, 0, none⟩) xs.length cap) ys := by
  have hcap : xs.length + 12 ≤ cap := by
    rcases ho.2 with ⟨h0, _⟩ | ⟨g', cap', cur, he, _, _, hnc, _⟩
    · cases h0
    · injection he with _ _ e3; omega
  have hg : g < W.heap.size := (ho.lt g rfl).2
  refine ⟨?_, fun y hy => ?_⟩
  · rw [← h.1]
    refine ⟨_, cap, g, 0, rfl, ⟨by rw [h.1]; omega, fun e => by cases e⟩, fun _ => ⟨rfl, hg⟩, fun j u hj => ?_⟩
    have hjl := (List.getElem?_eq_some_iff.1 hj).1
    rw [vaCells_len, h.1] at hjl
    rw [Nat.zero_add]
    refine (ho.cellAt j (by omega)).trans ?_
    have e : vaCells (ys ++ vmk 12) = vaCells ys ++ vaCells (vmk 12) := by simp [vaCells]
    rw [e, List.getElem?_append_left (by rw [vaCells_len, h.1]; omega)]
    exact hj
  · obtain ⟨j, hj⟩ := List.getElem?_of_mem hy
    have hj2 : j < xs.length := by rw [← h.1]; exact (List.getElem?_eq_some_iff.1 hj).1
    exact (h.2 j _ y (List.getElem?_eq_getElem hj2) hj).low (hl _ (List.getElem_mem _))

set_option maxRecDepth 100000 in
set_option maxHeartbeats 8000000 in
theorem texts_law (xs : List VA) (v : Value) (w : World) (hv : VsLow w.heap.size w v xs) (hl : xs.length ≤ 1000000000000000) (hf : ∀ x ∈ xs, V.Fit x.v) (ht : TabW w) :
    Calls Tryd.prog 4 #[v] w fun e w' => e = .returned (.bool true) ∧ Below w.heap.size w w' := by
  have HV : Hid (∀ W, Below w.heap.size w W → VsLow W.heap.size W v xs) := fun W hW => hv.at hW
  have HT : Hid (∀ W, Below w.heap.size w W → TabW W) := fun W hW => ht.at hW
  have HFF : Hid (∀ x ∈ xs, V.Fit x.v) := hf
  have HLO : Hid (∀ x ∈ xs, x.Low w.heap.size w) := hv.2
  obtain ⟨⟨ao, cap, b, off, rfl, -, hao, hc⟩, hlow⟩ := hv
  have HC : Hid (_) := hc
  have HRB : Hid (∀ j, j ≤ 301 → rsum (xs.take j) ≤ 301 * 1000000000000000) := by
    show ∀ j, _
    intro j hj
    have h := rsum_bound (xs.take j) 1000000000000000 (fun x hx => (HLO.out x (List.mem_of_mem_take hx)).2)
    rw [List.length_take] at h
    exact Nat.le_trans h (Nat.mul_le_mul_right _ (Nat.le_trans (Nat.min_le_left _ _) hj))
  clear hc hlow hf ht
  go_enter Tryd.func4, Tryd.ntmps4
  go_wp2
  go_loopw [3, 4] (fun s i wr => ∃ j : Nat, j ≤ xs.length ∧ j ≤ 301 ∧ i = .int .i64 j ∧ s = .int .i64 (rsum (xs.take j) : Nat) ∧ Below w.heap.size w wr) (fun _ i _ => 301 - (intOf i).toNat)
  case atStart => exact ⟨0, Nat.zero_le _, by omega, rfl, rfl, Below.refl _ _⟩
  case round =>
    obtain ⟨j, hj, hj3, rfl, rfl, hB⟩ := hrel
    have hrb := HRB.out j hj3
    by_cases hlt : j < xs.length ∧ j < 301
    · obtain ⟨hlt, hlt3⟩ := hlt
      obtain ⟨x, hx⟩ : ∃ x, xs[j]? = some x := ⟨xs[j], List.getElem?_eq_getElem hlt⟩
      obtain ⟨rfl, hbm⟩ := hao (by omega)
      obtain ⟨g0, g1, g2⟩ := vaCells_get xs j x hx
      have c2 : wr.cell? ⟨b, off + j * 3 + 2, none⟩ = some x.vs := cell_some_below (HC.out _ _ g2) hB
      have hm := List.mem_of_getElem? hx
      obtain ⟨sa, sc, hsv⟩ := (HLO.out x hm).shape
      have hxl : x.r.length ≤ 1000000000000000 := (HLO.out x hm).2
      have HN : Hid (rsum (xs.take (j + 1)) = rsum (xs.take j) + x.r.length) := by
        show _ = _
        have e : xs.take (j + 1) = xs.take j ++ [x] := by rw [List.take_add_one, hx]; rfl
        rw [e, rsum_snoc]
      obtain ⟨N, hN⟩ : ∃ N, N = rsum (xs.take j) := ⟨_, rfl⟩
      rw [← hN] at HN hrb ⊢
      rw [hsv] at c2
      clear g0 g1 g2 hx hm hN
      go_wp2
      go_roundw
      case rel => exact ⟨j + 1, by omega, by omega, by go_num, by rw [HN.out]; go_num, hB⟩
      case measure => simp [intOf]; omega
    · have HX : Hid (xs.length ≤ 300 → rsum (xs.take j) = rsum xs) := by
        show _ → _
        intro h
        rw [List.take_of_length_le (by omega)]
      obtain ⟨N, hN⟩ : ∃ N, N = rsum (xs.take j) := ⟨_, rfl⟩
      rw [← hN] at HX hrb ⊢
      have hjj : ¬ ((j : Int) < (xs.length : Int) ∧ (j : Int) < 301) := by omega
      have hjr : xs.length ≤ 300 → j = xs.length := by omega
      clear hN hlt hao HC HRB
      by_cases hbig : 300 < xs.length ∨ 3000 < N
      · go_wp2_with (go_at_call 8; refine (awake_any _ (HT.out _ hB)).mono ?_; rintro e w2 ⟨rfl, hb⟩)
        all_goals go_ret
        all_goals exact ⟨rfl, hB.trans (hb.mono hB.size)⟩
      · have hsm : xs.length ≤ 300 := by omega
        have hN3 : N ≤ 3000 := by omega
        have hxr : ∀ x ∈ xs, x.r.length ≤ 3000 := fun x hx => by have := rsum_le xs x hx; have := HX.out hsm; omega
        have HXR : Hid (∀ x ∈ xs, x.r.length ≤ 3000) := hxr
        obtain rfl := hjr hsm
        have HLV : Hid (_) := lentValues_any xs _ wr (HV.out _ hB) (by omega) (fun x hx => by have := hxr x hx; omega)
        clear hbig hxr hjr HX
        go_wp2_with fail
        refine Calls.mono HLV.out ?_
        rintro e w2 ⟨g, c, ys, rfl, hown, hla, hb⟩
        have hB2 : Below w.heap.size w w2 := hB.trans (hb.mono hB.size)
        have HB2 : Hid (Below w.heap.size w w2) := hB2
        have hxr := HXR.out
        have hys := hla.vslow hown (fun x hx => by have := hxr x hx; omega)
        obtain ⟨T, hT⟩ : ∃ T, T = Ln.bs (Vl.texts (xs.map VA.v)) := ⟨_, rfl⟩
        have hyf : ∀ y ∈ ys, V.Fit y.v := fun y hy => by
          have h : y.v ∈ ys.map VA.v := List.mem_map.2 ⟨y, hy, rfl⟩
          rw [hla.map_v] at h
          obtain ⟨x, hx, e⟩ := List.mem_map.1 h
          rw [← e]; exact HFF.out x hx
        have F1 : Hid (∀ W, Below w2.heap.size w2 W → Calls Tryd.prog 15 #[.slice (some ⟨g, 0, none⟩) xs.length c] W fun e w' => e = .returned (.string T) ∧ Below W.heap.size W w') := fun W hW => by
          have h := Text_any ys _ W (hys.at hW) (by rw [hla.1]; omega) hyf (HT.out _ (hB2.trans (hW.mono hB2.size)))
          rw [hT, ← hla.map_v]; exact h
        have F2 : Hid (∀ W, Below w2.heap.size w2 W → Calls Tryd.prog 16 #[.slice ao xs.length cap] W fun e w' => e = .returned (.string T) ∧ Below W.heap.size W w') := fun W hW => by
          rw [hT]; exact rText_any xs _ W (HV.out _ (hB2.trans (hW.mono hB2.size))) (by omega) HFF.out (HT.out _ (hB2.trans (hW.mono hB2.size)))
        have F3 : Hid (∀ W, Below w2.heap.size w2 W → Calls Tryd.prog 17 #[.slice (some ⟨g, 0, none⟩) xs.length c, .slice ao xs.length cap] W fun e w' => e = .returned (.bool true) ∧ Below W.heap.size W w') := fun W hW =>
          keptValues_any xs ys _ g c _ W (HV.out _ (hB2.trans (hW.mono hB2.size))) (owns_below hown hW) (hla.below hW) (by omega) (fun x hx => by have := hxr x hx; omega)
        have F4 : Hid (∀ W, Below w2.heap.size w2 W → Calls Tryd.prog 8 #[] W fun e w' => e = .returned (.bool true) ∧ Below W.heap.size W w') := fun W hW => awake_any W (HT.out _ (hB2.trans (hW.mono hB2.size)))
        clear hown hla hb hB2 hB hxr hys hT hyf HLV
        go_wp2_with fail
        refine Calls.mono (F1.out _ (Below.refl _ _)) ?_
        rintro e w3 ⟨rfl, hb3⟩
        go_wp2_with fail
        refine Calls.mono (F2.out _ hb3) ?_
        rintro e w4 ⟨rfl, hb4⟩
        have h4 := below_then hb3 hb4
        go_wp2_with fail
        refine Calls.mono (F3.out _ h4) ?_
        rintro e w5 ⟨rfl, hb5⟩
        have h5 := below_then h4 hb5
        go_wp2_with fail
        refine Calls.mono (F4.out _ h5) ?_
        rintro e w6 ⟨rfl, hb6⟩
        go_wp2
        go_ret
        exact ⟨rfl, below_then HB2.out (below_then h5 hb6)⟩
end Go.Proofs.YtcnmgebjbaclaaaDoor
