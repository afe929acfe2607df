/-
  The walks of clerestorykit.KeptTexts (a lent row that stayed as it was) and OverTexts (a lent row written over).
-/
import Derived.Test.YtkiafelpgcmifaaLent
import Derived.Deep.QuietTactic
import Derived.BigQuiet
import Derived.Deep.RegionWith
namespace Go.Proofs.Ytkiafelpgcmifaa
open Go.RowKit

/-- The worlds in which a part of a region goes: a cell holds what it held, and nothing below has turned. -/
structure KCls (w : World) (g k : Nat) (v : Value) where
  val : World
  cell : val.cell? ⟨g, k, none⟩ = some v
  below : Below w.heap.size w val

theorem KCls.next {w : World} {g k : Nat} {v : Value} (z : KCls w g k v) (hg : g < w.heap.size) {w2 : World} (hb : Below z.val.heap.size z.val w2) : ∃ z2 : KCls w g k v, w2 = z2.val :=
  ⟨⟨w2, (hb.cell (p := ⟨g, k, none⟩) (Nat.lt_of_lt_of_le hg z.below.size)).trans z.cell, z.below.trans (hb.mono z.below.size)⟩, rfl⟩

/-- A region that draws its order, walked once, in a class of worlds that is given by a family. -/
theorem wp_region_cls {P : Program} {ι : Type} (f : ι → World) {id : Nat} {Q : Exit → Act → World → Prop} {a : Act} {w : World} {l : List Oper} (hm : P.follows .mixedOrders = true) (hB : Region.lexB .any l.toArray = true) (z0 : ι) (h0 : f z0 = w.drew)
    (h : wpQuiet P l.toArray (fun w' => ∃ z, w' = f z) (fun a' => ∀ w', (∃ z, w' = f z) → Q .normal a' w') l a) : (Code.region id l.toArray true).wp P Q a w :=
  wp_region_quiet (C := fun w' => ∃ z, w' = f z) hm hB ⟨z0, h0.symm⟩ (by simpa using h)

theorem marks_get (k : Nat) (h : k < 12) : (marks 12)[k]? = some (mkT 1 k) := by
  unfold marks
  rw [List.getElem?_map, List.getElem?_range h]; rfl

set_option maxRecDepth 100000 in
set_option maxHeartbeats 2000000 in
theorem kept_any (L : List (List UInt8)) (v : Value) (g cap B : Nat) (w : World) (hrow : RowLow w.heap.size w v L) (hall : w.ownsRow B 9 1 (.slice (some ⟨g, 0, none⟩) (L.length + 12) cap) (L.length + 12) ((L ++ marks 12).map txtV)) (hL : L.length ≤ 5000) :
    Calls Try.prog 11 #[.slice (some ⟨g, 0, none⟩) L.length cap, v] w fun e w' => e = .returned (.bool true) ∧ Below w.heap.size w w' := by
  obtain ⟨ao, capl, b, off, rfl, -, hao, hc⟩ := hrow.parts
  have hcap : ((L.length : Int) + 12) ≤ (cap : Int) := by
    rcases hall.2 with ⟨h0, _⟩ | ⟨g', cap', cur, he, _, _, hnc, _⟩
    · cases h0
    · injection he with _ _ e3; omega
  have hg : g < w.heap.size := (hall.lt g rfl).2
  have hcell : ∀ (j : Nat) (x : List UInt8), (L ++ marks 12)[j]? = some x → w.cell? ⟨g, j, none⟩ = some (.string (Ln.bs x)) := by
    intro j x hx
    have h := hall.cells (g := g) rfl j (.string (Ln.bs x)) (by rw [List.getElem?_map, hx]; rfl)
    have ha : (⟨g, 0, none⟩ : Addr).add j = ⟨g, j, none⟩ := by cases j <;> simp [Addr.add]
    rwa [ha] at h
  clear hall hrow
  go_enter Try.func11, Try.ntmps11
  go_wp2
  go_loopw [6] (fun i wr => ∃ k : Nat, k ≤ L.length + 12 ∧ i = .int .i64 k ∧ Below w.heap.size w wr) (fun i _ => L.length + 12 - (intOf i).toNat)
  case atStart => exact ⟨0, by omega, rfl, Below.refl _ _⟩
  case round =>
    obtain ⟨k, hk, rfl, hB⟩ := hrel
    by_cases hlt : k < L.length
    · obtain ⟨x, hx⟩ : ∃ x, L[k]? = some x := ⟨L[k], List.getElem?_eq_getElem hlt⟩
      obtain ⟨rfl, hbl⟩ := hao (by omega)
      have g1 : wr.cell? ⟨b, off + k, none⟩ = some (.string (Ln.bs x)) := (hB.cell (p := ⟨b, off + k, none⟩) hbl).trans (hc k x hx)
      have g2 : wr.cell? ⟨g, k, none⟩ = some (.string (Ln.bs x)) := (hB.cell (p := ⟨g, k, none⟩) hg).trans (hcell k x (by rw [List.getElem?_append_left hlt]; exact hx))
      clear hc hcell hao hx
      have i1 : decide ((k : Int) < (L.length : Int)) = true := by simp; omega
      have i2 : decide (L.length ≤ k) = false := by simp; omega
      go_wp2
      go_quiet (fail)
      go_wp2
      go_roundw
      case rel => exact ⟨k + 1, by omega, by go_num, below_drewN hB _⟩
      case measure => simp [intOf]; omega
    · by_cases hlt2 : k < L.length + 12
      · have g2 : wr.cell? ⟨g, k, none⟩ = some (.string (Ln.bs (mkT 1 (k - L.length)))) := (hB.cell (p := ⟨g, k, none⟩) hg).trans (hcell k _ (by rw [List.getElem?_append_right (by omega)]; exact marks_get _ (by omega)))
        clear hc hcell hao
        have i1 : decide ((k : Int) < (L.length : Int)) = false := by simp; omega
        have i2 : decide (L.length ≤ k) = true := by simp; omega
        have i4 : decide (k < L.length) = false := by simp; omega
        have i3 : (k : Int) - (L.length : Int) = ((k - L.length : Nat) : Int) := by omega
        have hz : ∀ z : KCls w g k (.string (Ln.bs (mkT 1 (k - L.length)))), z.val.cell? ⟨g, k, none⟩ = some (.string (Ln.bs (mkT 1 (k - L.length)))) := fun z => z.cell
        have hne : Nonempty (KCls w g k (.string (Ln.bs (mkT 1 (k - L.length))))) := ⟨⟨wr.drew, g2, Below.drew hB⟩⟩
        go_wp2
        refine wp_region_cls (KCls.val (w := w) (g := g) (k := k) (v := .string (Ln.bs (mkT 1 (k - L.length))))) (by kernel_rfl) (by kernel_rfl) ⟨wr.drew, g2, Below.drew hB⟩ rfl ?_
        repeat (go_big_quiet_step ((rename_i z; refine (markText_any 1 (k - L.length) _).mono ?_; rintro e w2 ⟨rfl, hb⟩; exact ⟨rfl, z.next hg hb⟩)))
        refine wpQuiet_nil ?_
        rintro _ ⟨z, rfl⟩
        go_wp2
        go_roundw
        case rel => exact ⟨k + 1, by omega, by go_num, z.below⟩
        case measure => simp [intOf]; omega
      · clear hc hcell hao
        go_wp2
        go_ret
        exact ⟨rfl, hB⟩

set_option maxRecDepth 100000 in
set_option maxHeartbeats 2000000 in
/-- OverTexts: the row, its spare room too, is written over; nothing else. -/
theorem over_any (n g cap B : Nat) (xs : List Value) (w : World) (hall : w.ownsRow B 9 1 (.slice (some ⟨g, 0, none⟩) (n + 12) cap) (n + 12) xs) (hn : n ≤ 5000) :
    Calls Try.prog 13 #[.slice (some ⟨g, 0, none⟩) n cap] w fun e w' => (∃ v, e = .returned v) ∧ w.grownBy w' (some g) := by
  have hcap : ((n : Int) + 12) ≤ (cap : Int) := by
    rcases hall.2 with ⟨h0, _⟩ | ⟨g', cap', cur, he, _, _, hnc, _⟩
    · cases h0
    · injection he with _ _ e3; omega
  have hg : g < w.heap.size := (hall.lt g rfl).2
  go_enter Try.func13, Try.ntmps13
  go_wp2
  go_loopw [3] (fun i wr => ∃ (k : Nat) (ys : List Value), k ≤ n + 12 ∧ i = .int .i64 k ∧ wr.ownsRow B 9 1 (.slice (some ⟨g, 0, none⟩) (n + 12) cap) (n + 12) ys ∧ w.grownBy wr (some g)) (fun i _ => n + 12 - (intOf i).toNat)
  case atStart => exact ⟨0, xs, by omega, rfl, hall, ⟨rfl, rfl, rfl, Nat.le_refl _, fun _ _ _ => rfl⟩⟩
  case round =>
    obtain ⟨k, ys, hk, rfl, hown, hgr⟩ := hrel
    by_cases hlt : k < n + 12
    · obtain ⟨u0, cT⟩ := owns_cell hown k hlt
      have fT := hown.frozenAt k
      go_wp2_with (go_at_call 19; refine (markText_any 2 k _).mono ?_; rintro e wm ⟨rfl, hbm⟩; have hownm := owns_below hown hbm; obtain ⟨u1, cTm⟩ := owns_cell hownm k hlt; have fTm := hownm.frozenAt k)
      have hst := hownm.stored k (.string (Ln.bs (mkT 2 k)))
      go_roundw
      case rel =>
        exact ⟨k + 1, _, by omega, by go_num, hst.1, ⟨hst.2.os.trans (hbm.os.trans hgr.os), hst.2.tape.trans (hbm.tape.trans hgr.tape), hst.2.output.trans (hbm.output.trans hgr.output), Nat.le_trans hgr.size (Nat.le_trans hbm.size hst.2.size), fun j hj hne =>
          (hst.2.block j (Nat.lt_of_lt_of_le hj (Nat.le_trans hgr.size hbm.size)) hne).trans ((hbm.block j (Nat.lt_of_lt_of_le hj hgr.size)).trans (hgr.block j hj hne))⟩⟩
      case measure => simp [intOf]; omega
    · go_wp2
      go_end0
      exact ⟨⟨_, rfl⟩, hgr⟩

end Go.Proofs.Ytkiafelpgcmifaa
