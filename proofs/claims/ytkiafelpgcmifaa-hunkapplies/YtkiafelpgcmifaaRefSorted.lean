/-
  The walk of the document's answer, clerestoryref03.Sorted.
-/
import Derived.Test.YtkiafelpgcmifaaRefRight
import Derived.Test.YtkiafelpgcmifaaKeptHunksA
namespace Go.Proofs.Ytkiafelpgcmifaa
open Go.RowKit Go.Shelf

/-- Where the hunk before the k-th ends. -/
def lastOf (xs : List HA) : Nat → Int
  | 0 => -1
  | j + 1 => match xs[j]? with
    | some x => x.at_ + x.old.length
    | none => -1
def backOk (xs : List HA) (k : Nat) : Prop := ∀ j x, k = j + 1 → xs[j]? = some x → 0 ≤ x.at_ ∧ x.at_ ≤ 1099511627776

set_option maxRecDepth 100000 in
set_option maxHeartbeats 8000000 in
theorem refSorted_any (xs : List HA) (v : Value) (w : World) (hv : HaLow w.heap.size w v xs) (hf : ∀ x ∈ xs, x.Fits) (hs : ∀ x ∈ xs, x.Small) (hl : xs.length ≤ 1000000) :
    Calls Try.prog 26 #[v] w fun e w' => e = .returned (.bool (Hn.sorted (-1) (xs.map HA.h))) ∧ Below w.heap.size w w' := by
  obtain ⟨⟨ao, cap, b, off, rfl, -, hao, hc⟩, hlow⟩ := hv
  have HC : Hid (_) := hc
  have HLOW : Hid (∀ x ∈ xs, x.Low w.heap.size w) := hlow
  have HF : Hid (_) := hf
  have HS : Hid (_) := hs
  clear hc hlow hf hs
  go_enter Try.func26, Try.ntmps26
  go_wp2
  go_loopw [3] (fun i wr => ∃ k : Nat, k ≤ xs.length ∧ i = .int .i64 k ∧ Hn.sorted (-1) (xs.map HA.h) = Hn.sorted (lastOf xs k) ((xs.drop k).map HA.h) ∧ backOk xs k ∧ Below w.heap.size w wr) (fun i _ => xs.length - (intOf i).toNat)
  case atStart => exact ⟨0, by omega, rfl, rfl, (fun j x h => by omega), Below.refl _ _⟩
  case round =>
    obtain ⟨k, hk, rfl, hj, hbo, hB⟩ := hrel
    have hne : Nonempty (BCls w) := ⟨⟨wr.drew, Below.drew hB⟩⟩
    by_cases hlt : k < xs.length
    · obtain ⟨x, hx⟩ : ∃ x, xs[k]? = some x := ⟨xs[k], List.getElem?_eq_getElem hlt⟩
      obtain ⟨rfl, hbm⟩ := hao (by omega)
      obtain ⟨g0, g1, g2⟩ := haCells_get xs k x hx
      have d0 := HC.out _ _ g0
      have d1 := HC.out _ _ g1
      have d2 := HC.out _ _ g2
      have hm2 := List.mem_of_getElem? hx
      have xl := HLOW.out x hm2
      have hfx := HF.out x hm2
      have hsx := HS.out x hm2
      have RG : Hid (∀ z : BCls w, Calls Try.prog 40 #[x.val] z.val fun e w' => e = .returned (.bool (Hn.right x.h)) ∧ Below z.val.heap.size z.val w') := fun z => refRight_any x z.val.heap.size z.val (xl.at z.below) (Nat.le_refl _) hfx
      have HJ : Hid (Hn.sorted (-1) (xs.map HA.h) = (Hn.right x.h && decide (lastOf xs k < x.at_) && Hn.sorted (x.at_ + x.old.length) ((xs.drop (k + 1)).map HA.h))) := hj.trans (sorted_at xs k x _ hx)
      have HL : Hid (lastOf xs (k + 1) = x.at_ + x.old.length) := by show lastOf xs (k + 1) = _; simp only [lastOf, hx]
      have HK : Hid (Hn.right x.h = true → backOk xs (k + 1)) := fun hr j y e hy => by
        have : j = k := by omega
        subst this
        rw [hx] at hy; cases hy
        exact right_bound hr
      obtain ⟨⟨a1, k1, e1⟩, ⟨a2, k2, e2⟩⟩ := xl.shape
      have HX : Hid (xs[k]? = some x) := hx
      obtain ⟨p, vo, vn, L1, L2⟩ := x
      simp only at d0 d1 d2 e1 e2
      subst e1 e2
      have c0 : ∀ z : BCls w, z.val.cell? ⟨b, off + k * 3, none⟩ = some (.int .i64 p) := fun z => below_cell_some d0 z.below
      have c1 : ∀ z : BCls w, z.val.cell? ⟨b, off + k * 3 + 1, none⟩ = some (.slice a1 L1.length k1) := fun z => below_cell_some d1 z.below
      have c2 : ∀ z : BCls w, z.val.cell? ⟨b, off + k * 3 + 2, none⟩ = some (.slice a2 L2.length k2) := fun z => below_cell_some d2 z.below
      simp only [HA.val, HA.h] at RG HJ HL HK
      obtain ⟨⟨n1, n2⟩, -⟩ := hfx
      simp only at n1 n2
      clear g0 g1 g2 d0 d1 d2 hx hm2 xl hsx
      cases hr : Hn.right ⟨p, L1, L2⟩ with
      | false =>
        rw [hr] at RG HJ
        clear hj hbo HL HK HC HLOW HF HS hao
        go_wp2
        refine wp_region_cls (BCls.val (w := w)) (by kernel_rfl) (by kernel_rfl) ⟨wr.drew, Below.drew hB⟩ rfl ?_
        repeat (go_big_quiet_step ((rename_i z; refine (RG.out z).mono ?_; rintro e w2 ⟨rfl, hb⟩; exact ⟨rfl, z.next hb⟩)))
        refine wpQuiet_nil ?_
        rintro _ ⟨z, rfl⟩
        clear c0 c1 c2
        go_wp2
        go_ret
        exact ⟨ret_bool (by rw [HJ.out]; rfl), z.below⟩
      | true =>
        obtain ⟨r1, r2⟩ := right_bound hr
        simp only at r1 r2
        rw [hr] at RG HJ
        have hK := HK.out hr
        clear HK hr
        cases k with
        | zero =>
          simp only [Nat.zero_mul, Nat.add_zero] at c0 c1 c2
          have HJ2 : Hid (Hn.sorted (-1) (xs.map HA.h) = Hn.sorted (lastOf xs (0 + 1)) ((xs.drop (0 + 1)).map HA.h)) := by
            show Hn.sorted (-1) (xs.map HA.h) = _
            rw [HJ.out, HL.out, show lastOf xs 0 = -1 from rfl, decide_eq_true (by omega)]; rfl
          have HKK : Hid (_) := hK
          clear hj hbo HJ HL HC HLOW HF HS hao hK
          go_wp2
          refine wp_region_cls (BCls.val (w := w)) (by kernel_rfl) (by kernel_rfl) ⟨wr.drew, Below.drew hB⟩ rfl ?_
          repeat (go_big_quiet_step ((rename_i z; refine (RG.out z).mono ?_; rintro e w2 ⟨rfl, hb⟩; exact ⟨rfl, z.next hb⟩)))
          refine wpQuiet_nil ?_
          rintro _ ⟨z, rfl⟩
          clear c0 c1 c2
          go_wp2
          go_roundw
          case rel => exact ⟨0 + 1, by omega, by go_num, HJ2.out, HKK.out, z.below⟩
          case measure => simp [intOf]; omega
        | succ j =>
          obtain ⟨y, hy⟩ : ∃ y, xs[j]? = some y := ⟨xs[j]'(by omega), List.getElem?_eq_getElem (by omega)⟩
          obtain ⟨y1, y2⟩ := hbo j y rfl hy
          obtain ⟨g0, g1, -⟩ := haCells_get xs j y hy
          have d0 := HC.out _ _ g0
          have d1 := HC.out _ _ g1
          have ys := HS.out y (List.mem_of_getElem? hy)
          have hLL : lastOf xs (j + 1) = y.at_ + y.old.length := by simp only [lastOf, hy]
          rw [hLL] at HJ
          obtain ⟨⟨a3, k3, e3⟩, -⟩ := (HLOW.out y (List.mem_of_getElem? hy)).shape
          obtain ⟨q, uo, un, M1, M2⟩ := y
          simp only [HA.Small] at d0 d1 e3 y1 y2 HJ ys
          subst e3
          obtain ⟨s1, s2⟩ := ys
          have c3 : ∀ z : BCls w, z.val.cell? ⟨b, off + j * 3, none⟩ = some (.int .i64 q) := fun z => below_cell_some d0 z.below
          have c4 : ∀ z : BCls w, z.val.cell? ⟨b, off + j * 3 + 1, none⟩ = some (.slice a3 M1.length k3) := fun z => below_cell_some d1 z.below
          have hw : IntKind.i64.wrap (p - (M1.length : Int)) = p - M1.length := by rw [IntKind.wrap_i64]; omega
          have i3 : ((j + 1 : Nat) : Int) - 1 = (j : Int) := by omega
          have i5 : decide ((0 : Int) < ((j + 1 : Nat) : Int)) = true := by simp
          clear hy g0 g1 d0 d1 hLL
          by_cases hq : p - M1.length ≤ q
          · have q1 : decide (p - (M1.length : Int) ≤ q) = true := by simp; omega
            have HJ2 : Hid (Hn.sorted (-1) (xs.map HA.h) = false) := by
              show Hn.sorted (-1) (xs.map HA.h) = _
              rw [HJ.out, decide_eq_false (by omega)]; rfl
            clear hj hbo HJ HL HC HLOW HF HS hao hK
            go_wp2
            refine wp_region_cls (BCls.val (w := w)) (by kernel_rfl) (by kernel_rfl) ⟨wr.drew, Below.drew hB⟩ rfl ?_
            repeat (go_big_quiet_step ((rename_i z; refine (RG.out z).mono ?_; rintro e w2 ⟨rfl, hb⟩; exact ⟨rfl, z.next hb⟩)))
            refine wpQuiet_nil ?_
            rintro _ ⟨z, rfl⟩
            clear c0 c1 c2 c3 c4
            go_wp2
            go_ret
            exact ⟨ret_bool HJ2.out.symm, z.below⟩
          · have q1 : decide (p - (M1.length : Int) ≤ q) = false := by simp; omega
            have HJ2 : Hid (Hn.sorted (-1) (xs.map HA.h) = Hn.sorted (lastOf xs (j + 1 + 1)) ((xs.drop (j + 1 + 1)).map HA.h)) := by
              show Hn.sorted (-1) (xs.map HA.h) = _
              rw [HJ.out, HL.out, decide_eq_true (by omega)]; rfl
            have HKK : Hid (_) := hK
            clear hj hbo HJ HL HC HLOW HF HS hao hK
            go_wp2
            refine wp_region_cls (BCls.val (w := w)) (by kernel_rfl) (by kernel_rfl) ⟨wr.drew, Below.drew hB⟩ rfl ?_
            repeat (go_big_quiet_step ((rename_i z; refine (RG.out z).mono ?_; rintro e w2 ⟨rfl, hb⟩; exact ⟨rfl, z.next hb⟩)))
            refine wpQuiet_nil ?_
            rintro _ ⟨z, rfl⟩
            clear c0 c1 c2 c3 c4
            go_wp2
            go_roundw
            case rel => exact ⟨j + 1 + 1, by omega, by go_num, HJ2.out, HKK.out, z.below⟩
            case measure => simp [intOf]; omega
    · have hkl : k = xs.length := by omega
      have HJ : Hid (Hn.sorted (-1) (xs.map HA.h) = true) := by
        show Hn.sorted (-1) (xs.map HA.h) = _
        rw [hj, hkl, List.drop_length]; rfl
      clear hj hkl HC HLOW HF HS hao hbo
      go_wp2
      go_ret
      exact ⟨ret_bool HJ.out.symm, hB⟩

end Go.Proofs.Ytkiafelpgcmifaa
