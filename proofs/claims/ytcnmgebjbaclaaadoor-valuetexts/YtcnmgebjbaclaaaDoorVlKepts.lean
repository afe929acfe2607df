/-
  The walk of clerestorykit.KeptValues: a lent row of values that stayed as it was.
-/
import Derived.Test.YtcnmgebjbaclaaaDoorVlLents
namespace Go.Proofs.YtcnmgebjbaclaaaDoor
open Go.RowKit Go.Shelf
open Vl (V Res)

/-- The worlds in which a part of a region goes: nothing below has turned. -/
structure BCls (w : World) where
  val : World
  below : Below w.heap.size w val

theorem BCls.next {w : World} (z : BCls w) {w2 : World} (hb : Below z.val.heap.size z.val w2) : ∃ z2 : BCls w, w2 = z2.val :=
  ⟨⟨w2, z.below.trans (hb.mono z.below.size)⟩, rfl⟩
theorem sameMark (j : Nat) (w : World) : Calls Tryd.prog 25 #[vV 0 (mk1 j) (.slice none 0 0), vV 0 (mk1 j) (.slice none 0 0)] w fun e w' => e = .returned (.bool true) ∧ Below w.heap.size w w' := same0_any 0 (mk1 j) 0 (mk1 j) true (by simp [Vl.same]) w
set_option maxRecDepth 100000 in
set_option maxHeartbeats 8000000 in
theorem keptValues_any (xs ys : List VA) (v : Value) (g cap B : Nat) (w : World) (hv : VsLow w.heap.size w v xs) (hown : w.ownsRow B 25 3 (.slice (some ⟨g, 0, none⟩) (xs.length + 12) cap) (xs.length + 12) (vaCells (ys ++ vmk 12))) (hla : LentVs B w xs ys) (hl : xs.length ≤ 4000) (hs : ∀ x ∈ xs, x.r.length ≤ 5000) :
    Calls Tryd.prog 17 #[.slice (some ⟨g, 0, none⟩) xs.length cap, v] w fun e w' => e = .returned (.bool true) ∧ Below w.heap.size w w' := by
  obtain ⟨⟨ao, capl, b, off, rfl, -, hao, hc⟩, hlow⟩ := hv
  have hcap : ((xs.length : Int) + 12) ≤ (cap : Int) := by
    rcases hown.2 with ⟨h0, _⟩ | ⟨g', cap', cur, he, _, _, hnc, _⟩
    · cases h0
    · injection he with _ _ e3; omega
  have hyl := hla.1
  have HC : Hid (_) := hc
  have HLOW : Hid (∀ x ∈ xs, x.Low w.heap.size w) := hlow
  have HS : Hid (_) := hs
  have HLA : Hid (_) := hla
  have HZ : Hid (∀ (k : Nat) (y : VA), (ys ++ vmk 12)[k]? = some y → w.cell? ⟨g, k * 3, none⟩ = some (.int .u8 y.k) ∧ w.cell? ⟨g, k * 3 + 1, none⟩ = some (.int .i64 y.n) ∧ w.cell? ⟨g, k * 3 + 2, none⟩ = some y.vs) := fun k y hy => by
    have hk := (List.getElem?_eq_some_iff.1 hy).1
    rw [List.length_append, vmk_len, hyl] at hk
    obtain ⟨g0, g1, g2⟩ := vaCells_get _ k y hy
    exact ⟨(hown.cellAt _ (by omega)).trans g0, (hown.cellAt _ (by omega)).trans g1, (hown.cellAt _ (by omega)).trans g2⟩
  have HY : Hid (∀ (k : Nat) (y : VA), ys[k]? = some y → w.cell? ⟨g, k * 3, none⟩ = some (.int .u8 y.k) ∧ w.cell? ⟨g, k * 3 + 1, none⟩ = some (.int .i64 y.n) ∧ w.cell? ⟨g, k * 3 + 2, none⟩ = some y.vs) := fun k y hy => HZ.out k y (by rw [List.getElem?_append_left (List.getElem?_eq_some_iff.1 hy).1]; exact hy)
  have HM : Hid (∀ (k : Nat), xs.length ≤ k → k < xs.length + 12 → w.cell? ⟨g, k * 3, none⟩ = some (.int .u8 0) ∧ w.cell? ⟨g, k * 3 + 1, none⟩ = some (.int .i64 (mk1 (k - xs.length))) ∧ w.cell? ⟨g, k * 3 + 2, none⟩ = some (.slice none 0 0)) := fun k h1 h2 => HZ.out k (vm1 (k - xs.length)) (by rw [List.getElem?_append_right (by omega), hyl]; exact vmk_get _ (by omega))
  clear HZ
  clear hc hlow hs hown hla
  go_enter Tryd.func17, Tryd.ntmps17
  go_wp2
  go_loopw [6] (fun i wr => ∃ k : Nat, k ≤ xs.length + 12 ∧ i = .int .i64 k ∧ Below w.heap.size w wr) (fun i _ => xs.length + 12 - (intOf i).toNat)
  case atStart => exact ⟨0, by omega, rfl, Below.refl _ _⟩
  case round =>
    obtain ⟨k, hk, rfl, hB⟩ := hrel
    have hne : Nonempty (BCls w) := ⟨⟨wr.drew, Below.drew hB⟩⟩
    by_cases hlt : k < xs.length
    · obtain ⟨x, hx⟩ : ∃ x, xs[k]? = some x := ⟨xs[k], List.getElem?_eq_getElem hlt⟩
      obtain ⟨y, hy⟩ : ∃ y, ys[k]? = some y := ⟨ys[k]'(by omega), List.getElem?_eq_getElem (by omega)⟩
      obtain ⟨rfl, hbm⟩ := hao (by omega)
      obtain ⟨g0, g1, g2⟩ := vaCells_get xs k x hx
      have d0 := HC.out _ _ g0
      have d1 := HC.out _ _ g1
      have d2 := HC.out _ _ g2
      obtain ⟨f0, f1, f2⟩ := HY.out k y hy
      have hm2 := List.mem_of_getElem? hx
      have xl := HLOW.out x hm2
      have l1 := HS.out x hm2
      have lo := HLA.out.2 k x y hx hy
      have KP : Hid (∀ z : BCls w, Calls Tryd.prog 13 #[y.val, x.val] z.val fun e w' => e = .returned (.bool true) ∧ Below z.val.heap.size z.val w') := fun z => keptValue_any x y B z.val (xl.at z.below) l1 (lo.at z.below)
      obtain ⟨a1, k1, e1⟩ := xl.shape
      obtain ⟨a3, k3, e3⟩ := (lo.low (by omega)).shape
      obtain ⟨p, r, vn, L1⟩ := x
      obtain ⟨q, s, un, M1⟩ := y
      simp only at d0 d1 d2 f0 f1 f2 e1 e3
      subst e1 e3
      have c0 : ∀ z : BCls w, z.val.cell? ⟨b, off + k * 3, none⟩ = some (.int .u8 p) := fun z => cell_some_below d0 z.below
      have c1 : ∀ z : BCls w, z.val.cell? ⟨b, off + k * 3 + 1, none⟩ = some (.int .i64 r) := fun z => cell_some_below d1 z.below
      have c2 : ∀ z : BCls w, z.val.cell? ⟨b, off + k * 3 + 2, none⟩ = some (.slice a1 L1.length k1) := fun z => cell_some_below d2 z.below
      have c3 : ∀ z : BCls w, z.val.cell? ⟨g, k * 3, none⟩ = some (.int .u8 q) := fun z => cell_some_below f0 z.below
      have c4 : ∀ z : BCls w, z.val.cell? ⟨g, k * 3 + 1, none⟩ = some (.int .i64 s) := fun z => cell_some_below f1 z.below
      have c5 : ∀ z : BCls w, z.val.cell? ⟨g, k * 3 + 2, none⟩ = some (.slice a3 M1.length k3) := fun z => cell_some_below f2 z.below
      clear g0 g1 g2 d0 d1 d2 f0 f1 f2 hx hy hm2 xl lo l1 HC HLOW HS HLA HY HM hao
      have i1 : decide ((k : Int) < (xs.length : Int)) = true := by simp; omega
      have i4 : decide (k < xs.length) = true := by simp; omega
      have i2 : decide (xs.length ≤ k) = false := by simp; omega
      simp only [VA.val] at KP
      go_wp2
      refine wp_region_cls (BCls.val (w := w)) (by kernel_rfl) (by kernel_rfl) ⟨wr.drew, Below.drew hB⟩ rfl ?_
      repeat (go_big_quiet_step ((rename_i z; refine (KP.out z).mono ?_; rintro e w2 ⟨rfl, hb⟩; exact ⟨rfl, z.next hb⟩)))
      refine wpQuiet_nil ?_
      rintro _ ⟨z, rfl⟩
      clear c0 c1 c2 c3 c4 c5
      go_wp2
      go_roundw
      case rel => exact ⟨k + 1, by omega, by go_num, z.below⟩
      case measure => simp [intOf]; omega
    · by_cases hlt2 : k < xs.length + 12
      · obtain ⟨f0, f1, f2⟩ := HM.out k (by omega) hlt2
        have c3 : ∀ z : BCls w, z.val.cell? ⟨g, k * 3, none⟩ = some (.int .u8 0) := fun z => cell_some_below f0 z.below
        have c4 : ∀ z : BCls w, z.val.cell? ⟨g, k * 3 + 1, none⟩ = some (.int .i64 (mk1 (k - xs.length))) := fun z => cell_some_below f1 z.below
        have c5 : ∀ z : BCls w, z.val.cell? ⟨g, k * 3 + 2, none⟩ = some (.slice none 0 0) := fun z => cell_some_below f2 z.below
        clear f0 f1 f2 HC HLOW HS HLA HY HM hao
        have i1 : decide ((k : Int) < (xs.length : Int)) = false := by simp; omega
        have i2 : decide (xs.length ≤ k) = true := by simp; omega
        have i4 : decide (k < xs.length) = false := by simp; omega
        have i3 : (k : Int) - (xs.length : Int) = ((k - xs.length : Nat) : Int) := by omega
        go_wp2
        refine wp_region_cls (BCls.val (w := w)) (by kernel_rfl) (by kernel_rfl) ⟨wr.drew, Below.drew hB⟩ rfl ?_
        repeat (go_big_quiet_step ((rename_i z; first | (refine (markValue_any (k - xs.length) (by omega) _).mono ?_; rintro e w2 ⟨rfl, hb⟩; exact ⟨rfl, z.next hb⟩) | (refine (sameMark (k - xs.length) _).mono ?_; rintro e w2 ⟨rfl, hb⟩; exact ⟨rfl, z.next hb⟩))))
        refine wpQuiet_nil ?_
        rintro _ ⟨z, rfl⟩
        clear c3 c4 c5
        go_wp2
        go_roundw
        case rel => exact ⟨k + 1, by omega, by go_num, z.below⟩
        case measure => simp [intOf]; omega
      · clear HC HLOW HS HLA HY HM hao
        go_wp2
        go_ret
        exact ⟨rfl, hB⟩

end Go.Proofs.YtcnmgebjbaclaaaDoor
